/- The law RoomDoes, where there may be no room. -/
import Derived.Test.YtghegbdnecobkaaRoom14
namespace Go.Proofs.Ytghegbdnecobkaa.rooms
open Go.RowKit
set_option maxHeartbeats 2000000 in
theorem does_none (aoo : Option Addr) (n cap0 : Nat) (lim : Int) (w : World) (h : lim < 0 ∨ (0 ≤ lim ∧ 1048576 < lim)) (hm : n ≤ maxLen) : Calls Try.prog 3 #[.int .i64 lim, .slice aoo n cap0] w fun e w' => e = .returned (.bool true) ∧ Below w.heap.size w w' := by
  unfold maxLen at hm
  rcases h with h | ⟨h, h'⟩
  · go_enter Try.func3, Try.ntmps3
    go_wp2_with fail
    refine (new_no lim _ (.inl h)).mono ?_
    rintro e w1 ⟨rfl, rfl⟩
    go_wp2_with fail
    refine (rnew_no lim _ (.inl h)).mono ?_
    rintro e w1 ⟨rfl, rfl⟩
    go_wp2_with fail
    refine (lives_any _).mono ?_
    rintro e w3 ⟨rfl, b3⟩
    go_wp2_with fail
    refine wp_loop_rounds 1 ?_
    rw [rounds_succ]
    by_cases hn : n = 0
    · subst hn
      go_wp2_with fail
      go_ret
      exact ⟨rfl, b3⟩
    · have hn1 : (0 : Int) < (n : Int) := by omega
      go_wp2_with fail
      go_ret
      exact ⟨rfl, b3⟩
  · have hd : decide (lim ≤ 1048576) = false := decide_eq_false (by omega)
    go_enter Try.func3, Try.ntmps3
    go_wp2_with fail
    refine (new_no lim _ (.inr h')).mono ?_
    rintro e w1 ⟨rfl, rfl⟩
    go_wp2_with fail
    refine (rnew_no lim _ (.inr h')).mono ?_
    rintro e w1 ⟨rfl, rfl⟩
    go_wp2_with fail
    refine (lives_any _).mono ?_
    rintro e w3 ⟨rfl, b3⟩
    go_wp2_with fail
    refine wp_loop_rounds 1 ?_
    rw [rounds_succ]
    by_cases hn : n = 0
    · subst hn
      go_wp2_with fail
      go_ret
      exact ⟨rfl, b3⟩
    · have hn1 : (0 : Int) < (n : Int) := by omega
      go_wp2_with fail
      go_ret
      exact ⟨rfl, b3⟩
end Go.Proofs.Ytghegbdnecobkaa.rooms
