
/- Selection by keys: lists of numbers are the same (the reference's SameInts). -/
import Derived.Test.YthgjedcelcanbaaIdx19
namespace Go.Proofs.Ythgjedcelcanbaa.idx
set_option maxRecDepth 100000
open Go.RowKit Go.Proofs.Ythgjedcelcanbaa.own Go.Lib Go.Maps Go.WideMaps
/-- Numbers that lie at a place. -/
def NumsAt (w : World) (a : Option Addr) (xs : List Int) : Prop := ∀ i x, xs[i]? = some x → ∃ b off, a = some ⟨b, off, none⟩ ∧ b < w.heap.size ∧ w.cell? ⟨b, off + i, none⟩ = some (.int .i64 x)
theorem NumsAt.later {w w' : World} {a : Option Addr} {xs : List Int} (h : NumsAt w a xs) (ho : Only (fun _ => False) w w') : NumsAt w' a xs := fun i x hx => by
  obtain ⟨b, off, ha, hb, hc⟩ := h i x hx
  exact ⟨b, off, ha, Nat.lt_of_lt_of_le hb ho.size, (ho.cell (p := ⟨b, off + i, none⟩) hb (fun e => e)).trans hc⟩
theorem NumsAt.row {B cap : Nat} {w : World} {a : Option Addr} {xs : List Int} (h : RowN B a cap xs w) : NumsAt w a xs := fun i x hx => by
  obtain ⟨g, hg, _, hc⟩ := h.at liesN i x hx
  have h0 := (hc 0 (by omega)).1
  refine ⟨g, 0, hg, (h.head _ hg).2.2, ?_⟩
  rw [Nat.zero_add]
  simpa [encN] using h0
set_option maxHeartbeats 8000000 in
theorem same_ints (xs ys : List Int) (a a' : Option Addr) (c c' : Nat) (w : World) (hx : NumsAt w a xs) (hy : NumsAt w a' ys) (hn : xs.length ≤ 1000000) (hn' : ys.length ≤ 1000000) :
    Calls Try.prog 10 #[.slice a xs.length c, .slice a' ys.length c'] w fun e w' => e = .returned (.bool (decide (xs = ys))) ∧ Only (fun _ => False) w w' := by
  by_cases hl : xs.length = ys.length
  · have HX := Lib.hid hx
    have HY := Lib.hid hy
    have HL := Lib.hid hl
    rw [← hl]
    obtain ⟨n, hnn⟩ : ∃ n, n = xs.length := ⟨_, rfl⟩
    rw [← hnn]
    have HN := Lib.hid hnn
    have hne : (((n : Int) != (n : Int)) : Bool) = false := by simp
    have hb : n ≤ 1000000 := by omega
    have HD : Hid (∀ r, r = decide (xs = ys) → r = decide (xs = ys)) := Lib.hid (fun r h => h)
    clear hx hy hl hn hn' hnn
    go_enter Try.func10, Try.ntmps10
    go_wp2_with fail
    go_loopw [5] (fun iv wr => ∃ j : Nat, iv = .int .i64 j ∧ j ≤ n ∧ Hid (Only (fun _ => False) w wr ∧ ∀ i, i < j → xs[i]? = ys[i]?)) (fun iv _ => n - (RowKit.intOf iv).toNat)
    case atStart => exact ⟨0, rfl, by omega, Lib.hid ⟨Only.refl _ _, fun i hi => by omega⟩⟩
    case round =>
      obtain ⟨j, rfl, hj, hO⟩ := hrel
      by_cases hlt : j < n
      · obtain ⟨x, hx⟩ : ∃ x, xs[j]? = some x := ⟨_, List.getElem?_eq_getElem (by rw [← HN.out]; exact hlt)⟩
        obtain ⟨y, hy⟩ : ∃ y, ys[j]? = some y := ⟨_, List.getElem?_eq_getElem (by rw [← HL.out, ← HN.out]; exact hlt)⟩
        obtain ⟨b, off, rfl, hbl, cx⟩ := HX.out.later hO.out.1 j x hx
        obtain ⟨b', off', rfl, hbl', cy⟩ := HY.out.later hO.out.1 j y hy
        have HXY : Hid (xs[j]? = some x ∧ ys[j]? = some y) := Lib.hid ⟨hx, hy⟩
        have hlti : (j : Int) < (n : Int) := by omega
        have hge : (0 : Int) ≤ (j : Int) := by omega
        have hwj : IntKind.i64.wrap ((j : Int) + 1) = ((j + 1 : Nat) : Int) := by rw [IntWalk.i64_in _ (by omega)]; omega
        clear hx hy hbl hbl'
        by_cases he : x = y
        · have he' : (x != y) = false := by simp [he]
          have HE := Lib.hid he
          clear he
          go_upto_region 6 with fail
          go_quiet (fail)
          go_wp2_with fail
          go_roundw
          case rel =>
            refine ⟨j + 1, by go_num, by omega, Lib.hid ⟨hO.out.1.same (Only.drewN _ _ _), fun i hi => ?_⟩⟩
            by_cases hij : i < j
            · exact hO.out.2 i hij
            · obtain rfl : i = j := by omega
              rw [HXY.out.1, HXY.out.2, HE.out]
          case measure => simp [RowKit.intOf]; omega
        · have he' : (x != y) = true := by simp [he]
          have hd : decide (xs = ys) = false := by
            refine decide_eq_false (fun e => he ?_)
            have := HXY.out.1
            rw [e, HXY.out.2] at this
            injection this with this
            exact this.symm
          have HDD := Lib.hid hd
          clear he hd
          go_upto_region 6 with fail
          go_quiet (fail)
          go_wp2_with fail
          go_ret
          exact ⟨by rw [HDD.out]; rfl, hO.out.1.same (Only.drewN _ _ _)⟩
      · obtain rfl : j = n := by omega
        have hd : decide (xs = ys) = true := by
          refine decide_eq_true (List.ext_getElem? (fun i => ?_))
          by_cases hi : i < j
          · exact hO.out.2 i hi
          · rw [List.getElem?_eq_none (by rw [← HN.out]; omega), List.getElem?_eq_none (by rw [← HL.out, ← HN.out]; omega)]
        have HDD := Lib.hid hd
        clear hd
        go_wp2_with fail
        go_ret
        exact ⟨by rw [HDD.out]; rfl, hO.out.1⟩
  · have hd : decide (xs = ys) = false := decide_eq_false (fun e => hl (by rw [e]))
    rw [hd]
    have hne : (((xs.length : Int) != (ys.length : Int)) : Bool) = true := by simp; omega
    generalize xs.length = n at *
    generalize ys.length = m at *
    clear hx hy hd
    go_enter Try.func10, Try.ntmps10
    go_wp2_with fail
    go_ret
    exact ⟨rfl, Only.refl _ _⟩
end Go.Proofs.Ythgjedcelcanbaa.idx
