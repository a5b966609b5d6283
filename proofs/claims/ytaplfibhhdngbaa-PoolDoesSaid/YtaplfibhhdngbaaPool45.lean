/- Both pools side by side; what is told of both. -/
import Derived.Test.YtaplfibhhdngbaaPool44
namespace Go.Proofs.Ytaplfibhhdngbaa.pools
open Go.RowKit Go.Proofs.Ytaplfibhhdngbaa.own Go.Proofs.Ytaplfibhhdngbaa.trees Go.Proofs.Ytaplfibhhdngbaa.rows Go.Proofs.Ytaplfibhhdngbaa.frames
section
variable {R : Nat → Prop} {B b : Nat} {fo fo' : Option Addr} {fcap fcap' : Nat} {so so' : Option Addr} {scap scap' : Nat} {lim : Nat} {F F' : List Bool} {St St' : List Nat} {w w' w2 w3 : World}
set_option maxRecDepth 100000 in
theorem rruns_p (s : Int) (h : RefAt R B b fo fcap so scap lim F St w) : Calls Try.prog 36 #[.pointer (some ⟨b, 0, none⟩), .int .i64 s] w fun e w' => ∃ ro rcap, e = .returned (.slice ro (runsI F St s).length rcap) ∧ RowOf encR 2 61 w.heap.size ro rcap (runsI F St s) w' ∧ Only (fun _ => False) w w' := by
  unfold runsI
  by_cases hs : 0 ≤ s ∧ s < (St.length : Int)
  · rw [if_pos hs]
    obtain ⟨s', rfl⟩ : ∃ m : Nat, s = m := ⟨s.toNat, by omega⟩
    rw [Int.toNat_natCast]
    exact rruns_any s' (by omega) h
  · rw [if_neg hs]
    have c1 := h.c1
    have hsg := h.facts.segs
    have HN : Hid (∀ w' : World, RowOf encR 2 61 w.heap.size none 0 ([] : List (Nat × Nat)) w') := Lib.hid (fun _ => RowOf.nil _ _ _ _ _)
    clear h
    by_cases h0 : s < 0
    · go_enter Try.func36, Try.ntmps36
      go_wp2_with fail
      go_ret
      exact ⟨none, 0, rfl, HN.out _, Only.refl _ _⟩
    · have h1 : s ≥ (St.length : Int) := by omega
      go_enter Try.func36, Try.ntmps36
      go_wp2_with fail
      go_ret
      exact ⟨none, 0, rfl, HN.out _, Only.refl _ _⟩
end
theorem runsI_len (F : List Bool) (St : List Nat) (s : Int) (hb : ∀ t, t ∈ St → t ≤ F.length) (hl : F.length ≤ 1048576) : (runsI F St s).length ≤ 16777216 := by
  unfold runsI
  split
  · unfold runsP
    have := ref_len (fr := fun j => F.getD j false) (a := St.getD s.toNat 0) (endOf St F s.toNat - St.getD s.toNat 0)
    have he : endOf St F s.toNat ≤ F.length := by
      unfold endOf
      split
      · rename_i hl; exact hb _ (getD_mem hl)
      · exact Nat.le_refl _
    omega
  · simp
theorem left_pl {S : Nat → Prop} {B b lim : Nat} {F : List Bool} {St : List Nat} {w : World} (h : Pool S B b lim F St w) : Calls Try.prog 22 #[.pointer (some ⟨b, 0, none⟩)] w fun e w' => e = .returned (.int .i64 (leftOf F lim)) ∧ ∃ n, w' = w.drewN n := left_p h
end Go.Proofs.Ytaplfibhhdngbaa.pools
