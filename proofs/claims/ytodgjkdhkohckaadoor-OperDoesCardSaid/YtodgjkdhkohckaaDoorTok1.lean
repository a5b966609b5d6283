/- Tokens: which signs are small letters, capitals, digits, signs of words, signs of names of signs. -/
import Derived.Test.YtodgjkdhkohckaaDoorProg
import Derived.Test.YtodgjkdhkohckaaDoorOwn
import Derived.Tactics
import Derived.Tactics2
import Derived.Lib.Hide
import Derived.StillTailTactics
import Derived.IntWalk
import Derived.OwnWalk
import Derived.WalkSpells
import Derived.RegionTactic
import Derived.LoopTactic
import Derived.Laws.RangeString
import Derived.Laws.RangeAny
import Derived.BigQuiet
namespace Go.Proofs.YtodgjkdhkohckaaDoor.toks
open Go.RowKit Go.Proofs.YtodgjkdhkohckaaDoor.own
def smallB (c : Int) : Bool := decide (97 ≤ c) && decide (c ≤ 122)
def capB (c : Int) : Bool := decide (65 ≤ c) && decide (c ≤ 90)
def digB (c : Int) : Bool := decide (48 ≤ c) && decide (c ≤ 57)
def wordB (c : Int) : Bool := smallB c || (capB c || (digB c || c == 95))
def signB (c : Int) : Bool := c == 43 || (c == 45 || (c == 42 || (c == 47 || (c == 92 || (c == 94 || (c == 60 || (c == 62 || (c == 61 || (c == 126 || (c == 58 || (c == 46 || (c == 63 || (c == 64 || (c == 35 || (c == 38 || c == 36)))))))))))))))
set_option maxRecDepth 100000 in
theorem isSmall_any (c : Int) (w : World) : Calls Tryd.prog 74 #[.int .i32 c] w fun e w' => e = .returned (.bool (smallB c)) ∧ w' = w := by
  by_cases h : 97 ≤ c
  · have hE : Hid (smallB c = decide (c ≤ 122)) := Lib.hid (by unfold smallB; simp [h])
    go_enter Tryd.func74, Tryd.ntmps74
    go_wp2_with fail
    go_ret
    exact ⟨by rw [hE.out]; rfl, rfl⟩
  · have hE : Hid (smallB c = false) := Lib.hid (by unfold smallB; simp [h])
    go_enter Tryd.func74, Tryd.ntmps74
    go_wp2_with fail
    go_ret
    exact ⟨by rw [hE.out]; rfl, rfl⟩
set_option maxRecDepth 100000 in
theorem isCapital_any (c : Int) (w : World) : Calls Tryd.prog 84 #[.int .i32 c] w fun e w' => e = .returned (.bool (capB c)) ∧ w' = w := by
  by_cases h : 65 ≤ c
  · have hE : Hid (capB c = decide (c ≤ 90)) := Lib.hid (by unfold capB; simp [h])
    go_enter Tryd.func84, Tryd.ntmps84
    go_wp2_with fail
    go_ret
    exact ⟨by rw [hE.out]; rfl, rfl⟩
  · have hE : Hid (capB c = false) := Lib.hid (by unfold capB; simp [h])
    go_enter Tryd.func84, Tryd.ntmps84
    go_wp2_with fail
    go_ret
    exact ⟨by rw [hE.out]; rfl, rfl⟩
set_option maxRecDepth 100000 in
theorem isDigit_any (c : Int) (w : World) : Calls Tryd.prog 85 #[.int .i32 c] w fun e w' => e = .returned (.bool (digB c)) ∧ w' = w := by
  by_cases h : 48 ≤ c
  · have hE : Hid (digB c = decide (c ≤ 57)) := Lib.hid (by unfold digB; simp [h])
    go_enter Tryd.func85, Tryd.ntmps85
    go_wp2_with fail
    go_ret
    exact ⟨by rw [hE.out]; rfl, rfl⟩
  · have hE : Hid (digB c = false) := Lib.hid (by unfold digB; simp [h])
    go_enter Tryd.func85, Tryd.ntmps85
    go_wp2_with fail
    go_ret
    exact ⟨by rw [hE.out]; rfl, rfl⟩
set_option maxRecDepth 100000 in
set_option maxHeartbeats 1000000 in
theorem isInName_any (c : Int) (w : World) : Calls Tryd.prog 76 #[.int .i32 c] w fun e w' => e = .returned (.bool (wordB c)) ∧ w' = w := by
  have HS : Hid (∀ W, Calls Tryd.prog 74 #[.int .i32 c] W fun e w' => e = .returned (.bool (smallB c)) ∧ w' = W) := Lib.hid (isSmall_any c)
  have HC : Hid (∀ W, Calls Tryd.prog 84 #[.int .i32 c] W fun e w' => e = .returned (.bool (capB c)) ∧ w' = W) := Lib.hid (isCapital_any c)
  have HD : Hid (∀ W, Calls Tryd.prog 85 #[.int .i32 c] W fun e w' => e = .returned (.bool (digB c)) ∧ w' = W) := Lib.hid (isDigit_any c)
  cases hs : smallB c with
  | true =>
    have hE : Hid (wordB c = true) := Lib.hid (by unfold wordB; simp [hs])
    rw [hs] at HS
    clear hs
    go_enter Tryd.func76, Tryd.ntmps76
    go_wp2_with fail
    refine (HS.out _).mono ?_
    rintro e w1 ⟨rfl, rfl⟩
    go_wp2_with fail
    go_ret
    exact ⟨by rw [hE.out]; rfl, rfl⟩
  | false =>
    rw [hs] at HS
    cases hc : capB c with
    | true =>
      have hE : Hid (wordB c = true) := Lib.hid (by unfold wordB; simp [hc])
      rw [hc] at HC
      clear hs hc
      go_enter Tryd.func76, Tryd.ntmps76
      go_wp2_with fail
      refine (HS.out _).mono ?_
      rintro e w1 ⟨rfl, rfl⟩
      go_wp2_with fail
      refine (HC.out _).mono ?_
      rintro e w1 ⟨rfl, rfl⟩
      go_wp2_with fail
      go_ret
      exact ⟨by rw [hE.out]; rfl, rfl⟩
    | false =>
      rw [hc] at HC
      cases hd : digB c with
      | true =>
        have hE : Hid (wordB c = true) := Lib.hid (by unfold wordB; simp [hd])
        rw [hd] at HD
        clear hs hc hd
        go_enter Tryd.func76, Tryd.ntmps76
        go_wp2_with fail
        refine (HS.out _).mono ?_
        rintro e w1 ⟨rfl, rfl⟩
        go_wp2_with fail
        refine (HC.out _).mono ?_
        rintro e w1 ⟨rfl, rfl⟩
        go_wp2_with fail
        refine (HD.out _).mono ?_
        rintro e w1 ⟨rfl, rfl⟩
        go_wp2_with fail
        go_ret
        exact ⟨by rw [hE.out]; rfl, rfl⟩
      | false =>
        have hE : Hid (wordB c = (c == 95)) := Lib.hid (by unfold wordB; simp [hs, hc, hd])
        rw [hd] at HD
        clear hs hc hd
        go_enter Tryd.func76, Tryd.ntmps76
        go_wp2_with fail
        refine (HS.out _).mono ?_
        rintro e w1 ⟨rfl, rfl⟩
        go_wp2_with fail
        refine (HC.out _).mono ?_
        rintro e w1 ⟨rfl, rfl⟩
        go_wp2_with fail
        refine (HD.out _).mono ?_
        rintro e w1 ⟨rfl, rfl⟩
        go_wp2_with fail
        go_ret
        exact ⟨by rw [hE.out]; rfl, rfl⟩
set_option maxRecDepth 100000 in
set_option maxHeartbeats 4000000 in
theorem isSign_any (c : Int) (w : World) : Calls Tryd.prog 78 #[.int .i32 c] w fun e w' => e = .returned (.bool (signB c)) ∧ w' = w := by
  go_enter Tryd.func78, Tryd.ntmps78
  go_wp2_with fail
  all_goals (go_ret; refine ⟨?_, rfl⟩; congr 1; simp only [signB, *]; first | rfl | simp_all)
end Go.Proofs.YtodgjkdhkohckaaDoor.toks
