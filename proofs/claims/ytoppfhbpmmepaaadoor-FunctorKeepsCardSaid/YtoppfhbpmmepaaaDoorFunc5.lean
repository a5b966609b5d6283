/- Functors: Len, Slots, Mark. -/
import Derived.Test.YtoppfhbpmmepaaaDoorFunc4
namespace Go.Proofs.YtoppfhbpmmepaaaDoor.functors
open Go.RowKit Go.Proofs.YtoppfhbpmmepaaaDoor.own Go.Maps
variable {S : Nat → Prop} {B b : Nat} {lim : Int} {ta : Nat} {ao : Option Addr} {cap m low : Nat} {sl : List FSlot} {w w' : World}
theorem len_any (h : Core S B b lim ta ao cap m low sl w) : Calls Tryd.prog 13 #[.pointer (some ⟨b, 0, none⟩)] w fun e w' => e = .returned (.int .i64 (used sl)) ∧ w = w' := by
  have hnot := Go.Proofs.YtoppfhbpmmepaaaDoor.atoms.run_not
  have HC := Lib.hid (closed_no h)
  have c3 := cell_of_blk h.blk 3
  simp only [List.getElem?_toArray, List.getElem?_cons_succ, List.getElem?_cons_zero] at c3
  obtain ⟨D, hD, hM⟩ := h.map
  have hlen := hD.len Tryd.underlying80
  rw [hM.size] at hlen
  clear h hD hM
  go_enter Tryd.func13, Tryd.ntmps13
  go_wp2_with fail
  refine HC.out.mono ?_
  rintro e w1 ⟨rfl, rfl⟩
  go_wp2_with fail
  go_ret
  exact ⟨rfl, rfl⟩
theorem slots_any (h : Core S B b lim ta ao cap m low sl w) : Calls Tryd.prog 15 #[.pointer (some ⟨b, 0, none⟩)] w fun e w' => e = .returned (.int .i64 sl.length) ∧ w = w' := by
  have hnot := Go.Proofs.YtoppfhbpmmepaaaDoor.atoms.run_not
  have HC := Lib.hid (closed_no h)
  have c2 := cell_of_blk h.blk 2
  simp only [List.getElem?_toArray, List.getElem?_cons_succ, List.getElem?_cons_zero] at c2
  have hfew := h.few
  clear h
  go_enter Tryd.func15, Tryd.ntmps15
  go_wp2_with fail
  refine HC.out.mono ?_
  rintro e w1 ⟨rfl, rfl⟩
  go_wp2_with fail
  go_ret
  exact ⟨rfl, rfl⟩
theorem mark_no (i : Int) (h : Core S B b lim ta ao cap m low sl w) (hi : hasS sl i = false) : Calls Tryd.prog 19 #[.pointer (some ⟨b, 0, none⟩), .int .i64 i] w fun e w' => e = .returned (.int .i64 4) ∧ w = w' := by
  have hnot := Go.Proofs.YtoppfhbpmmepaaaDoor.atoms.run_not
  have HC := Lib.hid (closed_no h)
  have HH := Lib.hid (has_any i h)
  have HI := Lib.hid hi
  clear h hi
  go_enter Tryd.func19, Tryd.ntmps19
  go_wp2_with fail
  refine HC.out.mono ?_
  rintro e w1 ⟨rfl, rfl⟩
  go_wp2_with fail
  refine HH.out.mono ?_
  rintro e w1 ⟨rfl, rfl⟩
  rw [HI.out]
  go_wp2_with fail
  go_ret
  exact ⟨rfl, rfl⟩
/-- The slot's mark is set. -/
def markS (sl : List FSlot) (j : Nat) (x : FSlot) (m : Bool) : List FSlot := sl.set j ⟨x.name, x.used, m⟩
theorem Core.marked {g : Nat} (h : Core S B b lim ta (some ⟨g, 0, none⟩) cap m low sl w) {j : Nat} {x : FSlot} (hx : sl[j]? = some x) (v : Bool) :
    Core S B b lim ta (some ⟨g, 0, none⟩) cap m low (markS sl j x v) (w.setCell ⟨g, j * 3 + 2, none⟩ (.bool v)) ∧ Only S w (w.setCell ⟨g, j * 3 + 2, none⟩ (.bool v)) := by
  have hj := (List.getElem?_eq_some_iff.1 hx).1
  obtain ⟨r1, o1⟩ := h.row.stored liesS j 2 x ⟨x.name, x.used, v⟩ (.bool v) hx (by omega) rfl
  obtain ⟨D, h1, h2⟩ := h.map
  have hgb := h.other _ rfl
  have hl : (markS sl j x v).length = sl.length := List.length_set ..
  refine ⟨⟨?_, r1, ⟨D, ?_, h2.mark hx rfl rfl⟩, ?_, ?_, by rw [hl]; exact h.few, by rw [hl]; exact h.bound, ⟨by rw [hl]; exact h.lows.1, ?_⟩, h.own, fun k hk => ⟨(h.lt k hk).1, Nat.lt_of_lt_of_le (h.lt k hk).2 o1.size⟩, h.bm, h.other⟩, o1.mono (fun k _ e => by subst e; exact h.own _ (.inr (.inr ⟨_, rfl, rfl⟩)))⟩
  · have := blk_field h.blk o1 (fun e => hgb.1 e.symm)
    rw [hl]
    exact this
  · have e : used (markS sl j x v) = used sl := by unfold used markS; rw [prs_mark (y := ⟨x.name, x.used, v⟩) hx rfl rfl]
    rw [e]
    exact map_only h1 o1 (fun e => hgb.2 e.symm)
  · exact h.apart.less hx (fun hu => ⟨hu, rfl⟩)
  · intro i y hy
    unfold markS at hy
    rw [get_set _ hj] at hy
    split at hy
    · cases hy; exact h.wf j x hx
    · exact h.wf i y hy
  · intro i y hi hy
    unfold markS at hy
    rw [get_set _ hj] at hy
    split at hy
    · rename_i e; subst e; cases hy; exact h.lows.2 i x hi hx
    · exact h.lows.2 i y hi hy
theorem hasS_at {j : Nat} {x : FSlot} (hx : sl[j]? = some x) : hasS sl (j : Int) = x.used := by
  unfold hasS
  rw [if_pos (by omega), Int.toNat_natCast, hx]
  rfl
theorem mark_yes (j : Nat) (x : FSlot) (h : Core S B b lim ta ao cap m low sl w) (hx : sl[j]? = some x) (hu : x.used = true) :
    Calls Tryd.prog 19 #[.pointer (some ⟨b, 0, none⟩), .int .i64 j] w fun e w' => e = .returned (.int .i64 0) ∧ Core S B b lim ta ao cap m low (markS sl j x true) w' ∧ Only S w w' := by
  have hnot := Go.Proofs.YtoppfhbpmmepaaaDoor.atoms.run_not
  have HC := Lib.hid (closed_no h)
  have HH := Lib.hid (has_any (j : Int) h)
  have HI := Lib.hid ((hasS_at hx).trans hu)
  have hj := (List.getElem?_eq_some_iff.1 hx).1
  have hfew := h.few
  have c2 := cell_of_blk h.blk 2
  simp only [List.getElem?_toArray, List.getElem?_cons_succ, List.getElem?_cons_zero] at c2
  obtain ⟨g, hg, k0, k1, k2, z0, z1, z2⟩ := h.slot j x hx
  subst hg
  have HR := Lib.hid (h.marked hx true)
  have hb0 : (0 : Int) ≤ (j : Int) := by omega
  have hb1 : (j : Int) < (sl.length : Int) := by omega
  clear h hu hx k0 k1
  go_enter Tryd.func19, Tryd.ntmps19
  go_wp2_with fail
  refine HC.out.mono ?_
  rintro e w1 ⟨rfl, rfl⟩
  go_wp2_with fail
  refine HH.out.mono ?_
  rintro e w1 ⟨rfl, rfl⟩
  rw [HI.out]
  go_wp2_with fail
  go_ret
  exact ⟨rfl, HR.out.1, HR.out.2⟩
end Go.Proofs.YtoppfhbpmmepaaaDoor.functors
