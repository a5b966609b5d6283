/- Tokens: the reference's kinds of bytes, rows of bytes, numbers. -/
import Derived.Test.YtogccafnfpmgmaaDoorTokU
namespace Go.Proofs.YtogccafnfpmgmaaDoor.toks
open Go.RowKit Go.Proofs.YtogccafnfpmgmaaDoor.own
set_option maxRecDepth 100000 in
theorem rsmall_any (c : Int) (w : World) : Calls Tryd.prog 26 #[.int .u8 c] w fun e w' => e = .returned (.bool (smallB c)) ∧ w' = w := by
  by_cases h : 97 ≤ c
  · have hE : Hid (smallB c = decide (c ≤ 122)) := Lib.hid (by unfold smallB; simp [h])
    go_enter Tryd.func26, Tryd.ntmps26
    go_wp2_with fail
    go_ret
    exact ⟨by rw [hE.out]; rfl, rfl⟩
  · have hE : Hid (smallB c = false) := Lib.hid (by unfold smallB; simp [h])
    go_enter Tryd.func26, Tryd.ntmps26
    go_wp2_with fail
    go_ret
    exact ⟨by rw [hE.out]; rfl, rfl⟩
set_option maxRecDepth 100000 in
set_option maxHeartbeats 2000000 in
theorem rword_any (c : Int) (w : World) : Calls Tryd.prog 27 #[.int .u8 c] w fun e w' => e = .returned (.bool (wordB c)) ∧ w' = w := by
  have HS : Hid (∀ W, Calls Tryd.prog 26 #[.int .u8 c] W fun e w' => e = .returned (.bool (smallB c)) ∧ w' = W) := Lib.hid (rsmall_any c)
  cases hs : smallB c with
  | true =>
    have hE : Hid (wordB c = true) := Lib.hid (by unfold wordB; simp [hs])
    rw [hs] at HS
    clear hs
    go_enter Tryd.func27, Tryd.ntmps27
    go_wp2_with fail
    refine (HS.out _).mono ?_
    rintro e w1 ⟨rfl, rfl⟩
    go_wp2_with fail
    go_ret
    exact ⟨by rw [hE.out]; rfl, rfl⟩
  | false =>
    rw [hs] at HS
    by_cases h65 : 65 ≤ c <;> by_cases h90 : c ≤ 90 <;> by_cases h48 : 48 ≤ c <;> by_cases h57 : c ≤ 57
    all_goals
      first
      | (exfalso; omega)
      | skip
    all_goals
      have hE : Hid (wordB c = (capB c || (digB c || c == 95))) := Lib.hid (by unfold wordB; rw [hs]; rfl)
      have hC : Hid (capB c = (decide (65 ≤ c) && decide (c ≤ 90))) := Lib.hid rfl
      have hD : Hid (digB c = (decide (48 ≤ c) && decide (c ≤ 57))) := Lib.hid rfl
      clear hs
      go_enter Tryd.func27, Tryd.ntmps27
      go_wp2_with fail
      refine (HS.out _).mono ?_
      rintro e w1 ⟨rfl, rfl⟩
      go_wp2_with fail
      go_ret
      refine ⟨congrArg (fun b => Ending.returned (.bool b)) ?_, rfl⟩
      rw [hE.out, hC.out, hD.out, Bool.eq_iff_iff]
      simp only [Bool.or_eq_true, Bool.and_eq_true, decide_eq_true_eq, beq_iff_eq, Bool.false_eq_true, false_or, true_iff, false_iff]
      omega
set_option maxRecDepth 100000 in
set_option maxHeartbeats 2000000 in
theorem rblank_any (c : Int) (w : World) : Calls Tryd.prog 50 #[.int .u8 c] w fun e w' => e = .returned (.bool (blankB c)) ∧ w' = w := by
  cases h1 : (c == 32) <;> cases h2 : (c == 9) <;> cases h3 : (c == 10)
  all_goals
    have hE : Hid (blankB c = (c == 32 || (c == 9 || (c == 10 || c == 13)))) := Lib.hid rfl
    go_enter Tryd.func50, Tryd.ntmps50
    go_wp2_with fail
    go_ret
    refine ⟨?_, rfl⟩
    rw [hE.out]
    simp [*]
def signL : List UInt8 := [43, 45, 42, 47, 92, 94, 60, 62, 61, 126, 58, 46, 63, 64, 35, 38, 36]
theorem index_sign (d : Nat) (hd : d < 17) : ∃ y : UInt8, signL[d]? = some y ∧ ∀ w : World, (Instr.index 9 (.string ⟨#[43, 45, 42, 47, 92, 94, 60, 62, 61, 126, 58, 46, 63, 64, 35, 38, 36]⟩) (.int .i64 d)).run Tryd.prog w = .ok (.int .u8 (iv y)) w := by
  obtain rfl | rfl | rfl | rfl | rfl | rfl | rfl | rfl | rfl | rfl | rfl | rfl | rfl | rfl | rfl | rfl | rfl : d = 0 ∨ d = 1 ∨ d = 2 ∨ d = 3 ∨ d = 4 ∨ d = 5 ∨ d = 6 ∨ d = 7 ∨ d = 8 ∨ d = 9 ∨ d = 10 ∨ d = 11 ∨ d = 12 ∨ d = 13 ∨ d = 14 ∨ d = 15 ∨ d = 16 := by omega
  all_goals exact ⟨_, rfl, fun w => by kernel_rfl⟩
set_option maxRecDepth 100000 in
set_option maxHeartbeats 2000000 in
theorem rsign_any (x : UInt8) (w : World) : Calls Tryd.prog 28 #[.int .u8 (iv x)] w fun e w' => e = .returned (.bool (signB (iv x))) ∧ w' = w := by
  have HE : Hid (signB (iv x) = signL.any (fun y => iv y == iv x)) := Lib.hid (eq_of_beq (byte_all (fun x => signB (iv x) == signL.any (fun y => iv y == iv x)) (by kernel_rfl) x))
  go_enter Tryd.func28, Tryd.ntmps28
  go_wp2_with fail
  go_loopw [4] (fun c wr => ∃ j : Nat, wr = w ∧ c = .int .i64 j ∧ j ≤ 17 ∧ Hid (signB (iv x) = (signL.drop j).any (fun y => iv y == iv x))) (fun c _ => 17 - (intOf c).toNat)
  case atStart => exact ⟨0, rfl, rfl, by omega, HE⟩
  case round =>
    obtain ⟨j, rfl, rfl, hj, hI⟩ := hrel
    by_cases hlt : j < 17
    · obtain ⟨y, hy1, hy2⟩ := index_sign j hlt
      have HR : Hid ((signL.drop j).any (fun y => iv y == iv x) = (iv y == iv x || (signL.drop (j + 1)).any (fun y => iv y == iv x))) := Lib.hid (by rw [drop_at hy1]; rfl)
      have q0 : (0 : Int) ≤ (j : Int) := by omega
      have q1 : (j : Int) < 17 := by omega
      clear hy1
      cases hc : (iv y == iv x) with
      | true =>
        rw [hc] at HR
        go_wp2_with fail
        go_ret
        exact ⟨by rw [hI.out, HR.out]; rfl, rfl⟩
      | false =>
        rw [hc] at HR
        go_wp2_with fail
        go_roundw
        case rel => exact ⟨j + 1, by trivial, by go_num, by omega, Lib.hid (by rw [hI.out, HR.out]; rfl)⟩
        case measure => simp [intOf]; omega
    · obtain rfl : j = 17 := by omega
      go_wp2_with fail
      go_ret
      exact ⟨by rw [hI.out]; rfl, rfl⟩
def hexR (c : Int) : Int := if hexB c = true then hexV c else -1
set_option maxRecDepth 100000 in
set_option maxHeartbeats 2000000 in
theorem rhex_any (x : UInt8) (w : World) : Calls Tryd.prog 64 #[.int .u8 (iv x)] w fun e w' => e = .returned (.int .i64 (hexR (iv x))) ∧ w' = w := by
  have h0 := iv_pos x
  have h256 := iv_lt x
  generalize iv x = c at *
  by_cases h48 : 48 ≤ c <;> by_cases h57 : c ≤ 57 <;> by_cases h97 : 97 ≤ c <;> by_cases h102 : c ≤ 102
  all_goals
    first
    | (exfalso; omega)
    | skip
  all_goals
    have hE : Hid (hexR c = if (decide (48 ≤ c) && decide (c ≤ 57) || (decide (97 ≤ c) && decide (c ≤ 102))) = true then (if 97 ≤ c then c - 87 else c - 48) else -1) := Lib.hid rfl
    have hwA : 48 ≤ c → IntKind.u8.wrap (c - 48) = c - 48 := fun h => by simp [IntKind.wrap, IntKind.bits, IntKind.signed]; omega
    have hwB : 97 ≤ c → IntKind.u8.wrap (c - 97) = c - 97 := fun h => by simp [IntKind.wrap, IntKind.bits, IntKind.signed]; omega
    have hwC : wrap64 (c - 48) = c - 48 := by unfold wrap64; omega
    have hwD : wrap64 (c - 97) = c - 97 := by unfold wrap64; omega
    have hwF : wrap64 (c - 97 + 10) = c - 97 + 10 := by unfold wrap64; omega
    go_enter Tryd.func64, Tryd.ntmps64
    go_wp2_with fail
    go_ret
    refine ⟨?_, rfl⟩
    rw [hE.out]
    simp [*]
    try omega
end Go.Proofs.YtogccafnfpmgmaaDoor.toks
