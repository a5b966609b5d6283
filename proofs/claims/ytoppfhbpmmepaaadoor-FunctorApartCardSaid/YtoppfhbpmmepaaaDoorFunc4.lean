/- The lowest free slot of the functors. -/
import Derived.Test.YtoppfhbpmmepaaaDoorFunc3
import Derived.Deep.LoopGhost
namespace Go.Proofs.YtoppfhbpmmepaaaDoor.functors
open Go.RowKit Go.Proofs.YtoppfhbpmmepaaaDoor.own Go.Maps
variable {S : Nat → Prop} {B b : Nat} {lim : Int} {ta : Nat} {ao : Option Addr} {cap m low : Nat} {sl : List FSlot} {w w' : World}
/-- The lowest slot that is free, or the one behind all. -/
def Lowest (sl : List FSlot) (k : Nat) : Prop := k ≤ sl.length ∧ (∀ (j : Nat) (x : FSlot), j < k → sl[j]? = some x → x.used = true) ∧ hasS sl k = false
theorem Core.setLow (h : Core S B b lim ta ao cap m low sl w) {k : Nat} (hk : k ≤ sl.length ∧ ∀ (j : Nat) (x : FSlot), j < k → sl[j]? = some x → x.used = true) : Core S B b lim ta ao cap m k sl (w.setCell ⟨b, 4, none⟩ (.int .i64 k)) ∧ Only (· = b) w (w.setCell ⟨b, 4, none⟩ (.int .i64 k)) := by
  have ho : Only (· = b) w (w.setCell ⟨b, 4, none⟩ (.int .i64 k)) := Only.setCell (S := (· = b)) _ (p := ⟨b, 4, none⟩) rfl _
  obtain ⟨D, h1, h2⟩ := h.map
  refine ⟨⟨by simpa using blk_set h.blk 4 (.int .i64 k), h.row.only ho (fun g hg => (h.other _ hg).1), ⟨D, map_only h1 ho (fun e => h.bm e.symm), h2⟩, h.apart, h.wf, h.few, h.bound, hk, h.own, fun i hi => ⟨(h.lt i hi).1, Nat.lt_of_lt_of_le (h.lt i hi).2 ho.size⟩, h.bm, h.other⟩, ho⟩
theorem hasS_nat {k : Nat} (h : hasS sl k = true) : k < sl.length ∧ ∃ x, sl[k]? = some x ∧ x.used = true := by
  unfold hasS at h
  rw [if_pos (by omega), Int.toNat_natCast] at h
  cases hx : sl[k]? with
  | none => rw [hx] at h; cases h
  | some x =>
    rw [hx] at h
    exact ⟨(List.getElem?_eq_some_iff.1 hx).1, x, rfl, by simpa using h⟩
def LowR (S : Nat → Prop) (B b : Nat) (lim : Int) (ta : Nat) (ao : Option Addr) (cap m : Nat) (sl : List FSlot) (k : Nat) (w wr : World) : Prop := Core S B b lim ta ao cap m k sl wr ∧ Only (· = b) w wr
theorem LowR.next {k : Nat} {wr : World} (h : LowR S B b lim ta ao cap m sl k w wr) (hk : hasS sl k = true) : LowR S B b lim ta ao cap m sl (k + 1) w (wr.setCell ⟨b, 4, none⟩ (.int .i64 ((k : Int) + 1))) := by
  obtain ⟨hl, x, hx, hu⟩ := hasS_nat hk
  have := h.1.setLow (k := k + 1) ⟨hl, fun j y hj hy => by
    by_cases e : j = k
    · subst e
      rw [hx] at hy
      cases hy
      exact hu
    · exact h.1.lows.2 j y (by omega) hy⟩
  rw [Int.natCast_succ] at this
  exact ⟨this.1, h.2.same this.2⟩
set_option maxHeartbeats 1000000 in
theorem lowest_any (h : Core S B b lim ta ao cap m low sl w) :
    Calls Tryd.prog 37 #[.pointer (some ⟨b, 0, none⟩)] w fun e w' => ∃ k : Nat, e = .returned (.int .i64 k) ∧ Lowest sl k ∧ Core S B b lim ta ao cap m k sl w' ∧ Only (· = b) w w' := by
  have H0 : Hid (LowR S B b lim ta ao cap m sl low w w) := ⟨h, Only.refl _ _⟩
  have hfew := h.few
  have hl := h.lows.1
  clear h
  go_enter Tryd.func37, Tryd.ntmps37
  go_wp2_with fail
  go_loopg [] (sl.length - low) (fun gk wr => ∃ k : Nat, k ≤ sl.length ∧ gk = sl.length - k ∧ Hid (LowR S B b lim ta ao cap m sl k w wr))
  case atStart => exact ⟨low, hl, rfl, H0⟩
  case round =>
    obtain ⟨k, hk, hgk, hR⟩ := hrel
    have c4 := cell_of_blk hR.out.1.blk 4
    have f4 := free_of_blk hR.out.1.blk 4
    simp only [List.getElem?_toArray, List.getElem?_cons_succ, List.getElem?_cons_zero] at c4
    have HGK := Lib.hid hgk
    clear hgk H0
    go_wp2_with fail
    refine (has_any (k : Int) hR.out.1).mono ?_
    rintro e w1 ⟨rfl, rfl⟩
    cases hh : hasS sl k with
    | true =>
      have HK := Lib.hid hh
      have HN := Lib.hid (hR.out.next hh)
      have hlt := (hasS_nat hh).1
      clear hh hR
      go_wp2_with fail
      go_roundg (sl.length - (k + 1))
      case rel => exact ⟨k + 1, by omega, rfl, HN⟩
      case measure => have := HGK.out; omega
    | false =>
      have HK := Lib.hid hh
      clear hh
      go_wp2_with fail
      go_ret
      exact ⟨k, rfl, ⟨hk, hR.out.1.lows.2, HK.out⟩, hR.out.1, hR.out.2⟩
end Go.Proofs.YtoppfhbpmmepaaaDoor.functors
