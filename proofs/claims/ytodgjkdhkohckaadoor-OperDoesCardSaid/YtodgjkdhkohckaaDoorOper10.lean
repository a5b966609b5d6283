/- Operators: which names may be set. -/
import Derived.Test.YtodgjkdhkohckaaDoorOper9
import Derived.Test.YtodgjkdhkohckaaDoorTok3
namespace Go.Proofs.YtodgjkdhkohckaaDoor.opers
open Go.RowKit Go.Proofs.YtodgjkdhkohckaaDoor.own Go.Maps Go.Proofs.YtodgjkdhkohckaaDoor.toks
def maysetB (s : ByteArray) : Bool := decide ((s.size : Int) ≤ 64) && (!(s.toList == [91, 93]) && (!(s.toList == [123, 125]) && plainB s))
set_option maxRecDepth 100000 in
set_option maxHeartbeats 4000000 in
theorem maySet_any (s : ByteArray) (w : World) : Calls Tryd.prog 47 #[.string s] w fun e w' => e = .returned (.bool (maysetB s)) ∧ Only (fun _ => False) w w' := by
  have HP : Hid (∀ W, Calls Tryd.prog 57 #[.string s] W fun e w' => e = .returned (.bool (plainB s)) ∧ Only (fun _ => False) W w') := Lib.hid (Plain_any s)
  by_cases h0 : (s.size : Int) ≤ 64
  · cases h1 : (s.toList == [91, 93]) with
    | true =>
      have HE : Hid (maysetB s = false) := Lib.hid (by unfold maysetB; rw [h1]; simp)
      go_enter Tryd.func47, Tryd.ntmps47
      go_wp2_with fail
      go_ret
      exact ⟨by rw [HE.out]; rfl, Only.refl _ _⟩
    | false =>
      cases h2 : (s.toList == [123, 125]) with
      | true =>
        have HE : Hid (maysetB s = false) := Lib.hid (by unfold maysetB; rw [h2]; simp)
        go_enter Tryd.func47, Tryd.ntmps47
        go_wp2_with fail
        go_ret
        exact ⟨by rw [HE.out]; rfl, Only.refl _ _⟩
      | false =>
        have HE : Hid (maysetB s = plainB s) := Lib.hid (by unfold maysetB; rw [h1, h2, decide_eq_true h0]; rfl)
        go_enter Tryd.func47, Tryd.ntmps47
        go_wp2_with fail
        refine (HP.out _).mono ?_
        rintro e w1 ⟨rfl, ho⟩
        have HO := Lib.hid ho
        clear ho
        go_wp2_with fail
        go_ret
        exact ⟨by rw [HE.out]; rfl, HO.out⟩
  · have HE : Hid (maysetB s = false) := Lib.hid (by unfold maysetB; rw [decide_eq_false h0]; rfl)
    go_enter Tryd.func47, Tryd.ntmps47
    go_wp2_with fail
    go_ret
    exact ⟨by rw [HE.out]; rfl, Only.refl _ _⟩
end Go.Proofs.YtodgjkdhkohckaaDoor.opers
