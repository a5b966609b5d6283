/- Where a segment ends; whether cells are taken. -/
import Derived.Test.YtaplfibhhdngbaaPool11
namespace Go.Proofs.Ytaplfibhhdngbaa.pools
open Go.RowKit Go.Proofs.Ytaplfibhhdngbaa.own Go.Proofs.Ytaplfibhhdngbaa.trees Go.Proofs.Ytaplfibhhdngbaa.rows
variable {Sm S : Nat → Prop} {B b k sz : Nat} {so : Option Addr} {scap : Nat} {ao : Option Addr} {cap : Nat} {T : List Int} {f : Nat → Nat} {lim : Nat} {F : List Bool} {St : List Nat} {w w' : World}
def endOf (St : List Nat) (F : List Bool) (s : Nat) : Nat := if s + 1 < St.length then St.getD (s + 1) 0 else F.length
theorem PoolAt.end_le (h : PoolAt Sm S B b k sz so scap ao cap T f lim F St w) (s : Nat) : endOf St F s ≤ F.length := by
  unfold endOf
  split
  · rename_i hl
    exact h.below _ (by rw [List.getD_eq_getElem?_getD, List.getElem?_eq_getElem hl]; exact List.getElem_mem _)
  · exact Nat.le_refl _
theorem PoolAt.end_gt (h : PoolAt Sm S B b k sz so scap ao cap T f lim F St w) {a s : Nat} (ha : a < F.length) (hs : Seg St a s) : a < endOf St F s := by
  unfold endOf
  split
  · rename_i hl; exact hs.gt _ (by omega) hl
  · exact ha
set_option maxRecDepth 100000 in
theorem end_any (s : Nat) (h : PoolAt Sm S B b k sz so scap ao cap T f lim F St w) (hs : s < St.length) :
    Calls Try.prog 48 #[.pointer (some ⟨b, 0, none⟩), .int .i64 s] w fun e w' => e = .returned (.int .i64 (endOf St F s)) ∧ Only (fun _ => False) w w' := by
  have HL := Lib.hid (last_seg h)
  have H := Lib.hid h
  have c1 := h.c1
  have c2 := h.c2
  have hsg := h.segs
  obtain ⟨g, rfl, _⟩ := h.start 0 0 h.first
  have HR := Lib.hid h.starts
  by_cases hl : s + 1 < St.length
  · have e1 : endOf St F s = St.getD (s + 1) 0 := by unfold endOf; rw [if_pos hl]
    rw [e1]
    have cs := start_cell h.starts (s + 1) hl
    have hne : ((s : Int) == ((St.length - 1 : Nat) : Int)) = false := by simp; omega
    have hw1 : IntKind.i64.wrap ((s : Int) + 1) = (s : Int) + 1 := IntWalk.i64_in _ (by omega)
    have ht1 : ((s : Int) + 1).toNat = s + 1 := by omega
    have hi0 : (0 : Int) ≤ (s : Int) + 1 := by omega
    have hi1 : (s : Int) + 1 < (St.length : Int) := by omega
    clear h e1
    generalize St.getD (s + 1) 0 = v at *
    generalize hm : St.length - 1 = m at *
    go_enter Try.func48, Try.ntmps48
    go_wp2_with fail
    refine HL.out.mono ?_
    rintro e w1 ⟨rfl, rfl⟩
    go_wp2_with fail
    go_ret
    exact ⟨rfl, Only.refl _ _⟩
  · have e1 : endOf St F s = F.length := by unfold endOf; rw [if_neg hl]
    rw [e1]
    have hne : ((s : Int) == ((St.length - 1 : Nat) : Int)) = true := by simp; omega
    clear h e1
    generalize hm : St.length - 1 = m at *
    go_enter Try.func48, Try.ntmps48
    go_wp2_with fail
    refine HL.out.mono ?_
    rintro e w1 ⟨rfl, rfl⟩
    go_wp2_with fail
    go_ret
    exact ⟨rfl, Only.refl _ _⟩
end Go.Proofs.Ytaplfibhhdngbaa.pools
