/- Is a cell free? -/
import Derived.Test.YtaplfibhhdngbaaPool9
namespace Go.Proofs.Ytaplfibhhdngbaa.pools
open Go.RowKit Go.Proofs.Ytaplfibhhdngbaa.own Go.Proofs.Ytaplfibhhdngbaa.trees Go.Proofs.Ytaplfibhhdngbaa.rows
variable {Sm S : Nat → Prop} {B b k sz : Nat} {so : Option Addr} {scap : Nat} {ao : Option Addr} {cap : Nat} {T : List Int} {f : Nat → Nat} {lim : Nat} {F : List Bool} {St : List Nat} {w w' : World}
theorem PoolAt.only (h : PoolAt Sm S B b k sz so scap ao cap T f lim F St w) (ho : Only (fun _ => False) w w') : PoolAt Sm S B b k sz so scap ao cap T f lim F St w' := by
  refine ⟨?_, h.starts.only ho (fun _ _ e => e), h.most.only ho (fun _ _ e => e), h.tree, h.few, h.small, h.leaf, h.rest, h.inv, h.room, h.limit, h.first, h.rising, h.below, h.segs, h.inS, fun j hj => ?_, h.apart⟩
  · rw [ho.block b (h.own b h.inS.1).2 (fun e => e)]; exact h.blk
  · have := h.own j hj
    exact ⟨this.1, Nat.lt_of_lt_of_le this.2 ho.size⟩
/-- The cell's answer. -/
def isFree (F : List Bool) (a : Int) : Bool := if 0 ≤ a then F.getD a.toNat false else false
set_option maxRecDepth 100000 in
theorem free_any (a : Int) (h : PoolAt Sm S B b k sz so scap ao cap T f lim F St w) :
    Calls Try.prog 19 #[.pointer (some ⟨b, 0, none⟩), .int .i64 a] w fun e w' => e = .returned (.bool (isFree F a)) ∧ Only (fun _ => False) w w' := by
  have H := Lib.hid h
  have HC := Lib.hid (closed_no h)
  have HH := Lib.hid (has_any h a)
  by_cases hin : 0 ≤ a ∧ a < (F.length : Int)
  · obtain ⟨n, rfl⟩ : ∃ n : Nat, a = n := ⟨a.toNat, by omega⟩
    have hn : n < F.length := by omega
    have hr := h.room
    have hsz : 0 < sz := by omega
    have hf := h.few
    have HR := Lib.hid (h.runsF hsz)
    have e1 : isFree F (n : Int) = F.getD n false := by unfold isFree; rw [if_pos (by omega)]; rfl
    rw [e1]
    have hd : decide (0 ≤ (n : Int) ∧ (n : Int) < (F.length : Int)) = true := by simp; omega
    rw [hd] at HH
    have HI := Lib.hid h.inv
    have HSM := Lib.hid (fun q => show f q ≤ 1048576 from by
      rcases Nat.lt_or_ge q sz with hq | hq
      · have := h.leaf q hq; have := h.small (sz + q); omega
      · rw [h.rest q hq]; omega)
    clear h hd e1 hin
    go_enter Try.func19, Try.ntmps19
    go_wp2_with fail
    refine HC.out.mono ?_
    rintro e w1 ⟨rfl, rfl⟩
    go_wp2_with fail
    refine HH.out.mono ?_
    rintro e w1 ⟨rfl, rfl⟩
    go_wp2_with fail
    refine (last_f n HR.out (by omega)).mono ?_
    rintro e w1 ⟨⟨r, rfl, hr⟩, rfl⟩
    rcases hr with ⟨rfl, hz⟩ | ⟨p, rfl, h1, h2, h3⟩
    · have hF : F.getD n false = false := HI.out.none_tells (fun q hq => hz q hq)
      go_wp2_with fail
      go_ret
      exact ⟨by rw [hF]; rfl, Only.refl _ _⟩
    · have hF := HI.out.tells h1 h2 h3
      have hs := HSM.out p
      have hpm : ((p : Int) == -1) = false := by simp
      go_wp2_with fail
      refine (at_f p (by omega) HR.out).mono ?_
      rintro e w1 ⟨rfl, ho⟩
      have hx : ((n : Int) < (p : Int) + (f p : Int)) ↔ n < p + f p := by omega
      have hans : decide ((n : Int) < (p : Int) + (f p : Int)) = F.getD n false := by
        cases hb : F.getD n false with
        | true => simp only [hb, true_iff] at hF; simp; omega
        | false => simp only [hb] at hF; simp at hF; simp; omega
      clear hx hF h3 h2
      generalize f p = c at *
      have hpm2 : ((p : Int) != -1) = true := by simp
      go_wp2_with fail
      go_ret
      refine ⟨?_, ho⟩
      first | exact congrArg (fun x => Ending.returned (Value.bool x)) hans | (simp [hans]; rw [List.getElem?_eq_getElem hn]; rfl)
  · have e1 : isFree F a = false := by
      unfold isFree
      split
      · rw [List.getD_eq_getElem?_getD, List.getElem?_eq_none (by omega)]; rfl
      · rfl
    rw [e1]
    have hd : decide (0 ≤ a ∧ a < (F.length : Int)) = false := by simpa using hin
    rw [hd] at HH
    clear h hin e1 hd
    go_enter Try.func19, Try.ntmps19
    go_wp2_with fail
    refine HC.out.mono ?_
    rintro e w1 ⟨rfl, rfl⟩
    go_wp2_with fail
    refine HH.out.mono ?_
    rintro e w1 ⟨rfl, rfl⟩
    go_wp2_with fail
    go_ret
    exact ⟨rfl, Only.refl _ _⟩
end Go.Proofs.Ytaplfibhhdngbaa.pools
