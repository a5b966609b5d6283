/- The document's other calls. -/
import Derived.Test.YtaplfibhhdngbaaPool41
namespace Go.Proofs.Ytaplfibhhdngbaa.pools
open Go.RowKit Go.Proofs.Ytaplfibhhdngbaa.own Go.Proofs.Ytaplfibhhdngbaa.trees Go.Proofs.Ytaplfibhhdngbaa.rows Go.Proofs.Ytaplfibhhdngbaa.frames
variable {R : Nat → Prop} {B b : Nat} {fo fo' : Option Addr} {fcap fcap' : Nat} {so so' : Option Addr} {scap scap' : Nat} {lim : Nat} {F F' : List Bool} {St St' : List Nat} {w w' w2 w3 : World}
/-! ### Made -/
theorem rnew_bad (l : Int) (hl : ¬ (0 ≤ l ∧ l ≤ 1048576)) (w : World) :
    Calls Try.prog 8 #[.int .i64 l] w fun e w' => e = .returned (.pointer none) ∧ w = w' := by
  by_cases h0 : l < 0
  · clear hl
    go_enter Try.func8, Try.ntmps8
    go_wp2_with fail
    go_ret
    exact ⟨rfl, rfl⟩
  · have h1 : l > 1048576 := by omega
    clear hl
    go_enter Try.func8, Try.ntmps8
    go_wp2_with fail
    go_ret
    exact ⟨rfl, rfl⟩
theorem rnew_at (lim : Nat) (hl : lim ≤ 1048576) (w : World) {w1 w2 : World} (e1 : w1 = w.alloc (.cells #[.int .i64 0] 3))
    (e2 : w2 = w1.alloc (.cells (refCells lim [] none 0 (some ⟨w.heap.size, 0, none⟩) 1 1) 59)) :
    RefAt (fun j => w.heap.size ≤ j ∧ j < w2.heap.size) w.heap.size (w.heap.size + 1) none 0 (some ⟨w.heap.size, 0, none⟩) 1 lim [] [0] w2 ∧ Only (fun _ => False) w w2 := by
  have hs1 : w1.heap.size = w.heap.size + 1 := by rw [e1]; simp
  have hs2 : w2.heap.size = w.heap.size + 2 := by rw [e2]; simp [hs1]
  have o1 : Only (fun _ => False) w w1 := by rw [e1]; exact Only.alloc _ _ _
  have o2 : Only (fun _ => False) w1 w2 := by rw [e2]; exact Only.alloc _ _ _
  refine ⟨⟨?_, RowOf.nil _ _ _ _ _, ?_, ⟨by constructor <;> omega, (fun g hg => by cases hg), fun g hg => ?_⟩, fun j hj => hj, ⟨(fun g hg => by cases hg), fun g hg => ?_, (fun g g' _ hg => by cases hg)⟩, ⟨⟨by simp, hl⟩, rfl, by simp, by simp, by simp, by simp⟩⟩, o1.same o2⟩
  · have := heap_alloc_new w1 (.cells (refCells lim [] none 0 (some ⟨w.heap.size, 0, none⟩) 1 1) 59)
    rw [← e2, hs1] at this
    exact this
  · have h0 : RowOf enc64 1 3 w.heap.size (some ⟨w.heap.size, 0, none⟩) 1 [0] w1 := by
      rw [e1]
      exact World.ownsRow_lit w #[.int .i64 0] 1 (Nat.le_refl _) (by unfold maxLen; omega) rfl
    exact h0.only o2 (fun _ _ e => e)
  · simp only [Option.some.injEq] at hg
    subst hg
    constructor
    · exact Nat.le_refl _
    · show w.heap.size < _; omega
  · simp only [Option.some.injEq] at hg
    subst hg
    show w.heap.size ≠ w.heap.size + 1
    omega
set_option maxRecDepth 100000 in
theorem rnew_ok (lim : Nat) (hl : lim ≤ 1048576) (w : World) :
    Calls Try.prog 8 #[.int .i64 lim] w fun e w' => e = .returned (.pointer (some ⟨w.heap.size + 1, 0, none⟩)) ∧ Ref (fun j => w.heap.size ≤ j ∧ j < w'.heap.size) w.heap.size (w.heap.size + 1) lim [] [0] w' ∧ Only (fun _ => False) w w' := by
  have HN := Lib.hid (fun w1 w2 e1 e2 => rnew_at lim hl w (w1 := w1) (w2 := w2) e1 e2)
  go_enter Try.func8, Try.ntmps8
  go_wp2_with fail
  go_ret
  have := HN.out _ _ rfl rfl
  exact ⟨rfl, ⟨_, _, _, _, this.1⟩, this.2⟩
/-! ### Segment -/
set_option maxRecDepth 100000 in
theorem rsegment_any (a : Int) (h : RefAt R B b fo fcap so scap lim F St w) :
    Calls Try.prog 35 #[.pointer (some ⟨b, 0, none⟩), .int .i64 a] w fun e w' => (∃ s, e = .returned (.int .i64 s) ∧ SegI St F a s) ∧ w = w' := by
  have c0 := h.c0
  have c1 := h.c1
  have H := Lib.hid h
  have hsg := h.facts.segs
  have hlim := h.facts.limit
  have hone := h.facts.one
  clear h
  by_cases hin : 0 ≤ a ∧ a < (F.length : Int)
  · obtain ⟨a', rfl⟩ : ∃ m : Nat, a = m := ⟨a.toNat, by omega⟩
    have ha : a' < F.length := by omega
    have h1 : ¬ ((a' : Int) < 0) := by omega
    have h2 : ¬ ((a' : Int) ≥ (F.length : Int)) := by omega
    have HIn := Lib.hid hin
    clear hin
    go_enter Try.func35, Try.ntmps35
    go_wp2_with fail
    go_loopw [5] (fun v wr => ∃ s : Nat, v = .int .i64 s ∧ s < St.length ∧ St.getD s 0 ≤ a' ∧ wr = w) (fun v _ => St.length - (intOf v).toNat)
    case atStart => exact ⟨0, rfl, hone, by have := H.out.facts.first; rw [List.getD_eq_getElem?_getD, this]; simp, rfl⟩
    case round =>
      obtain ⟨s, rfl, hs, hle, rfl⟩ := hrel
      by_cases hl : s + 1 < St.length
      · obtain ⟨g, hg, cs⟩ := H.out.start (s + 1) hl
        subst hg
        have hl2 : (s : Int) + 1 < (St.length : Int) := by omega
        by_cases hv : St.getD (s + 1) 0 ≤ a'
        · have hv2 : ((St.getD (s + 1) 0 : Nat) : Int) ≤ (a' : Int) := by omega
          have HV := Lib.hid hv
          clear hle hv
          obtain ⟨v, hv9⟩ : ∃ v, St.getD (s + 1) 0 = v := ⟨_, rfl⟩
          have HV9 := Lib.hid hv9
          rw [hv9] at hv2 cs
          clear hv9
          go_wp2_with fail
          go_roundw
          case rel => exact ⟨s + 1, by go_num, hl, HV.out, by first | rfl | trivial⟩
          case measure => simp [intOf]; omega
        · have hv2 : ¬ (((St.getD (s + 1) 0 : Nat) : Int) ≤ (a' : Int)) := by omega
          have HS : Hid (Seg St a' s) := Lib.hid ⟨hs, hle, fun t g1 g2 => by
            have := getD_le H.out.facts.rising (show s + 1 ≤ t by omega) g2
            omega⟩
          clear hle hv
          generalize St.getD (s + 1) 0 = v at *
          go_wp2_with fail
          go_ret
          exact ⟨⟨s, rfl, .inr ⟨HIn.out, s, rfl, by simpa using HS.out⟩⟩, rfl⟩
      · have hl2 : ¬ ((s : Int) + 1 < (St.length : Int)) := by omega
        have HS : Hid (Seg St a' s) := Lib.hid ⟨hs, hle, fun t g1 g2 => by omega⟩
        clear hle
        go_wp2_with fail
        go_ret
        exact ⟨⟨s, rfl, .inr ⟨HIn.out, s, rfl, by simpa using HS.out⟩⟩, rfl⟩
  · by_cases h0 : a < 0
    · go_enter Try.func35, Try.ntmps35
      go_wp2_with fail
      go_ret
      exact ⟨⟨_, rfl, .inl ⟨by omega, rfl⟩⟩, rfl⟩
    · have h2 : a ≥ (F.length : Int) := by omega
      go_enter Try.func35, Try.ntmps35
      go_wp2_with fail
      go_ret
      exact ⟨⟨_, rfl, .inl ⟨by omega, rfl⟩⟩, rfl⟩
end Go.Proofs.Ytaplfibhhdngbaa.pools
