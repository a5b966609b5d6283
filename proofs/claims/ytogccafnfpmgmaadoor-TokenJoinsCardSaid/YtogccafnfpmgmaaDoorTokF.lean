/- Tokens: what stands behind a backslash. -/
import Derived.Test.YtogccafnfpmgmaaDoorTokE
import Derived.LoopN
namespace Go.Proofs.YtogccafnfpmgmaaDoor.toks
open Go.RowKit Go.Proofs.YtogccafnfpmgmaaDoor.own
def hexB (c : Int) : Bool := digB c || (decide (97 ≤ c) && decide (c ≤ 102))
def hexV (c : Int) : Int := if 97 ≤ c then c - 87 else c - 48
set_option maxRecDepth 100000 in
theorem isHex_any (c : Int) (w : World) : Calls Tryd.prog 73 #[.int .i32 c] w fun e w' => e = .returned (.bool (hexB c)) ∧ w' = w := by
  have HD : Hid (∀ W, Calls Tryd.prog 37 #[.int .i32 c] W fun e w' => e = .returned (.bool (digB c)) ∧ w' = W) := Lib.hid (isDigit_any c)
  cases hd : digB c with
  | true =>
    have hE : Hid (hexB c = true) := Lib.hid (by unfold hexB; rw [hd]; rfl)
    rw [hd] at HD
    go_enter Tryd.func73, Tryd.ntmps73
    go_wp2_with fail
    refine (HD.out _).mono ?_
    rintro e w1 ⟨rfl, rfl⟩
    go_wp2_with fail
    go_ret
    exact ⟨by rw [hE.out]; rfl, by trivial⟩
  | false =>
    rw [hd] at HD
    by_cases h : 97 ≤ c
    · have hE : Hid (hexB c = decide (c ≤ 102)) := Lib.hid (by unfold hexB; rw [hd]; simp [h])
      go_enter Tryd.func73, Tryd.ntmps73
      go_wp2_with fail
      refine (HD.out _).mono ?_
      rintro e w1 ⟨rfl, rfl⟩
      go_wp2_with fail
      go_ret
      exact ⟨by rw [hE.out]; rfl, by trivial⟩
    · have hE : Hid (hexB c = false) := Lib.hid (by unfold hexB; rw [hd]; simp [h])
      go_enter Tryd.func73, Tryd.ntmps73
      go_wp2_with fail
      refine (HD.out _).mono ?_
      rintro e w1 ⟨rfl, rfl⟩
      go_wp2_with fail
      go_ret
      exact ⟨by rw [hE.out]; rfl, by trivial⟩
theorem hexV_le {c : Int} (h : hexB c = true) : 0 ≤ hexV c ∧ hexV c ≤ 15 ∧ 48 ≤ c ∧ c ≤ 102 := by
  unfold hexB digB at h
  unfold hexV
  simp only [Bool.or_eq_true, Bool.and_eq_true, decide_eq_true_eq] at h
  split <;> omega
set_option maxRecDepth 100000 in
theorem hexValue_any (c : Int) (h : hexB c = true) (w : World) : Calls Tryd.prog 74 #[.int .u8 c] w fun e w' => e = .returned (.int .u8 (hexV c)) ∧ w' = w := by
  obtain ⟨h1, h2, h3, h4⟩ := hexV_le h
  by_cases h5 : 97 ≤ c
  · have hE : Hid (hexV c = c - 87) := Lib.hid (by unfold hexV; rw [if_pos h5])
    have hw1 : IntKind.u8.wrap (c - 97) = c - 97 := by simp [IntKind.wrap, IntKind.bits, IntKind.signed]; omega
    have hw2 : IntKind.u8.wrap (c - 97 + 10) = c - 87 := by simp [IntKind.wrap, IntKind.bits, IntKind.signed]; omega
    clear h h1 h2
    go_enter Tryd.func74, Tryd.ntmps74
    go_wp2_with fail
    go_ret
    exact ⟨by rw [hE.out]; rfl, by trivial⟩
  · have hE : Hid (hexV c = c - 48) := Lib.hid (by unfold hexV; rw [if_neg h5])
    have hw1 : IntKind.u8.wrap (c - 48) = c - 48 := by simp [IntKind.wrap, IntKind.bits, IntKind.signed]; omega
    clear h h1 h2
    go_enter Tryd.func74, Tryd.ntmps74
    go_wp2_with fail
    go_ret
    exact ⟨by rw [hE.out]; rfl, by trivial⟩
def hexU (n : Int) : UInt8 := UInt8.ofNat n.toNat
theorem iv_hexU {n : Int} (h0 : 0 ≤ n) (h1 : n < 256) : iv (hexU n) = n := by
  unfold iv hexU
  rw [UInt8.toNat_ofNat']
  omega
/-- A byte by its hex digits: behind a backslash and an x. -/
def unhexF (r : List UInt8) : Option (UInt8 × Nat) :=
  match r.drop 2 with
  | x :: y :: t => if hexB (iv x) = false then none
    else if hexB (iv y) = false then (if (iv y == 92) = true then some (hexU (hexV (iv x)), 4) else none)
    else match t with
      | z :: _ => if (iv z == 92) = true then some (hexU (16 * hexV (iv x) + hexV (iv y)), 5) else none
      | [] => none
  | _ => none
def pairR : Option (UInt8 × Nat) → Value
  | some (c, k) => .tuple #[.int .u8 (iv c), .int .i64 k]
  | none => .tuple #[.int .u8 0, .int .i64 0]
end Go.Proofs.YtogccafnfpmgmaaDoor.toks
