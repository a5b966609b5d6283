/- Operators: the type of a name. -/
import Derived.Test.YtodgjkdhkohckaaDoorOper4
namespace Go.Proofs.YtodgjkdhkohckaaDoor.opers
open Go.RowKit Go.Proofs.YtodgjkdhkohckaaDoor.own Go.Maps
/-- The type whose name it is, among those from j on. -/
def ofFrom (s : ByteArray) : Nat → Nat → Int
  | 0, _ => 0
  | m + 1, j => if tyL.getD j [] = s.toList then (j : Int) else ofFrom s m (j + 1)
def ofF (s : ByteArray) : Int := ofFrom s 5 1
abbrev tyV : Value := .agg #[.string ⟨#[]⟩, .string ⟨#[120, 102, 120]⟩, .string ⟨#[120, 102, 121]⟩, .string ⟨#[121, 102, 120]⟩, .string ⟨#[102, 121]⟩, .string ⟨#[102, 120]⟩]
set_option maxRecDepth 100000 in
set_option maxHeartbeats 4000000 in
theorem TypeOf_any (s : ByteArray) (w : World) (hT : Typed w) : Calls Tryd.prog 23 #[.string s] w fun e w' => e = .returned (.int .i64 (ofF s)) ∧ w' = w := by
  have HI0 : Hid (∀ W, Calls Tryd.prog 46 #[.int .i64 0] W fun e w' => e = .returned (.bool false) ∧ w' = W) := Lib.hid (isType_any 0)
  have HI1 : Hid (∀ W, Calls Tryd.prog 46 #[.int .i64 1] W fun e w' => e = .returned (.bool true) ∧ w' = W) := Lib.hid (isType_any 1)
  have HI2 : Hid (∀ W, Calls Tryd.prog 46 #[.int .i64 2] W fun e w' => e = .returned (.bool true) ∧ w' = W) := Lib.hid (isType_any 2)
  have HI3 : Hid (∀ W, Calls Tryd.prog 46 #[.int .i64 3] W fun e w' => e = .returned (.bool true) ∧ w' = W) := Lib.hid (isType_any 3)
  have HI4 : Hid (∀ W, Calls Tryd.prog 46 #[.int .i64 4] W fun e w' => e = .returned (.bool true) ∧ w' = W) := Lib.hid (isType_any 4)
  have HI5 : Hid (∀ W, Calls Tryd.prog 46 #[.int .i64 5] W fun e w' => e = .returned (.bool true) ∧ w' = W) := Lib.hid (isType_any 5)
  have t0 : w.cell? ⟨0, 0, none⟩ = some (.string ⟨#[]⟩) := hT 0 (by omega)
  have t1 : w.cell? ⟨0, 1, none⟩ = some (.string ⟨#[120, 102, 120]⟩) := hT 1 (by omega)
  have t2 : w.cell? ⟨0, 2, none⟩ = some (.string ⟨#[120, 102, 121]⟩) := hT 2 (by omega)
  have t3 : w.cell? ⟨0, 3, none⟩ = some (.string ⟨#[121, 102, 120]⟩) := hT 3 (by omega)
  have t4 : w.cell? ⟨0, 4, none⟩ = some (.string ⟨#[102, 121]⟩) := hT 4 (by omega)
  have t5 : w.cell? ⟨0, 5, none⟩ = some (.string ⟨#[102, 120]⟩) := hT 5 (by omega)
  have x0 : ∀ W, (Instr.index 72 tyV (.int .i64 0)).run Tryd.prog W = .ok (.string ⟨#[]⟩) W := fun _ => by kernel_rfl
  have x1 : ∀ W, (Instr.index 72 tyV (.int .i64 1)).run Tryd.prog W = .ok (.string ⟨#[120, 102, 120]⟩) W := fun _ => by kernel_rfl
  have x2 : ∀ W, (Instr.index 72 tyV (.int .i64 2)).run Tryd.prog W = .ok (.string ⟨#[120, 102, 121]⟩) W := fun _ => by kernel_rfl
  have x3 : ∀ W, (Instr.index 72 tyV (.int .i64 3)).run Tryd.prog W = .ok (.string ⟨#[121, 102, 120]⟩) W := fun _ => by kernel_rfl
  have x4 : ∀ W, (Instr.index 72 tyV (.int .i64 4)).run Tryd.prog W = .ok (.string ⟨#[102, 121]⟩) W := fun _ => by kernel_rfl
  have x5 : ∀ W, (Instr.index 72 tyV (.int .i64 5)).run Tryd.prog W = .ok (.string ⟨#[102, 120]⟩) W := fun _ => by kernel_rfl
  clear hT
  go_enter Tryd.func23, Tryd.ntmps23
  go_wp2_with fail
  clear t0 t1 t2 t3 t4 t5
  go_loopw [6] (fun i wr => ∃ j : Nat, i = .int .i64 j ∧ j ≤ 6 ∧ Hid (1 ≤ j → ofF s = ofFrom s (6 - j) j) ∧ wr = w) (fun i _ => 6 - (intOf i).toNat)
  case atStart => exact ⟨0, rfl, by omega, Lib.hid (fun h => absurd h (by omega)), rfl⟩
  case round =>
    obtain ⟨j, rfl, hj, hI, rfl⟩ := hrel
    rcases (show j = 0 ∨ j = 1 ∨ j = 2 ∨ j = 3 ∨ j = 4 ∨ j = 5 ∨ j = 6 by omega) with rfl | rfl | rfl | rfl | rfl | rfl | rfl
    · clear hI
      go_wp2_with fail
      refine (HI0.out _).mono ?_
      rintro e w1 ⟨rfl, rfl⟩
      go_wp2_with fail
      go_roundw
      case rel => exact ⟨1, by go_num, by omega, Lib.hid (fun _ => rfl), by first | rfl | trivial⟩
      case measure => simp [intOf]
    · by_cases h : tyL.getD 1 [] = s.toList
      · have hE : Hid (ofF s = 1) := Lib.hid (by rw [hI.out (by omega)]; show (if tyL.getD 1 [] = s.toList then ((1 : Nat) : Int) else _) = 1; rw [if_pos h]; rfl)
        have h1 : (([120, 102, 120] : List UInt8) == s.toList) = true := beq_iff_eq.2 h
        clear hI h
        go_wp2_with fail
        refine (HI1.out _).mono ?_
        rintro e w1 ⟨rfl, rfl⟩
        go_wp2_with fail
        go_ret
        exact ⟨by rw [hE.out]; rfl, rfl⟩
      · have hE : Hid (ofF s = ofFrom s 4 2) := Lib.hid (by rw [hI.out (by omega)]; show (if tyL.getD 1 [] = s.toList then ((1 : Nat) : Int) else ofFrom s 4 2) = _; rw [if_neg h])
        have h1 : (([120, 102, 120] : List UInt8) == s.toList) = false := beq_eq_false_iff_ne.2 h
        clear hI h
        go_wp2_with fail
        refine (HI1.out _).mono ?_
        rintro e w1 ⟨rfl, rfl⟩
        go_wp2_with fail
        go_roundw
        case rel => exact ⟨2, by go_num, by omega, Lib.hid (fun _ => hE.out), by first | rfl | trivial⟩
        case measure => simp [intOf]
    · by_cases h : tyL.getD 2 [] = s.toList
      · have hE : Hid (ofF s = 2) := Lib.hid (by rw [hI.out (by omega)]; show (if tyL.getD 2 [] = s.toList then ((2 : Nat) : Int) else _) = 2; rw [if_pos h]; rfl)
        have h1 : (([120, 102, 121] : List UInt8) == s.toList) = true := beq_iff_eq.2 h
        clear hI h
        go_wp2_with fail
        refine (HI2.out _).mono ?_
        rintro e w1 ⟨rfl, rfl⟩
        go_wp2_with fail
        go_ret
        exact ⟨by rw [hE.out]; rfl, rfl⟩
      · have hE : Hid (ofF s = ofFrom s 3 3) := Lib.hid (by rw [hI.out (by omega)]; show (if tyL.getD 2 [] = s.toList then ((2 : Nat) : Int) else ofFrom s 3 3) = _; rw [if_neg h])
        have h1 : (([120, 102, 121] : List UInt8) == s.toList) = false := beq_eq_false_iff_ne.2 h
        clear hI h
        go_wp2_with fail
        refine (HI2.out _).mono ?_
        rintro e w1 ⟨rfl, rfl⟩
        go_wp2_with fail
        go_roundw
        case rel => exact ⟨3, by go_num, by omega, Lib.hid (fun _ => hE.out), by first | rfl | trivial⟩
        case measure => simp [intOf]
    · by_cases h : tyL.getD 3 [] = s.toList
      · have hE : Hid (ofF s = 3) := Lib.hid (by rw [hI.out (by omega)]; show (if tyL.getD 3 [] = s.toList then ((3 : Nat) : Int) else _) = 3; rw [if_pos h]; rfl)
        have h1 : (([121, 102, 120] : List UInt8) == s.toList) = true := beq_iff_eq.2 h
        clear hI h
        go_wp2_with fail
        refine (HI3.out _).mono ?_
        rintro e w1 ⟨rfl, rfl⟩
        go_wp2_with fail
        go_ret
        exact ⟨by rw [hE.out]; rfl, rfl⟩
      · have hE : Hid (ofF s = ofFrom s 2 4) := Lib.hid (by rw [hI.out (by omega)]; show (if tyL.getD 3 [] = s.toList then ((3 : Nat) : Int) else ofFrom s 2 4) = _; rw [if_neg h])
        have h1 : (([121, 102, 120] : List UInt8) == s.toList) = false := beq_eq_false_iff_ne.2 h
        clear hI h
        go_wp2_with fail
        refine (HI3.out _).mono ?_
        rintro e w1 ⟨rfl, rfl⟩
        go_wp2_with fail
        go_roundw
        case rel => exact ⟨4, by go_num, by omega, Lib.hid (fun _ => hE.out), by first | rfl | trivial⟩
        case measure => simp [intOf]
    · by_cases h : tyL.getD 4 [] = s.toList
      · have hE : Hid (ofF s = 4) := Lib.hid (by rw [hI.out (by omega)]; show (if tyL.getD 4 [] = s.toList then ((4 : Nat) : Int) else _) = 4; rw [if_pos h]; rfl)
        have h1 : (([102, 121] : List UInt8) == s.toList) = true := beq_iff_eq.2 h
        clear hI h
        go_wp2_with fail
        refine (HI4.out _).mono ?_
        rintro e w1 ⟨rfl, rfl⟩
        go_wp2_with fail
        go_ret
        exact ⟨by rw [hE.out]; rfl, rfl⟩
      · have hE : Hid (ofF s = ofFrom s 1 5) := Lib.hid (by rw [hI.out (by omega)]; show (if tyL.getD 4 [] = s.toList then ((4 : Nat) : Int) else ofFrom s 1 5) = _; rw [if_neg h])
        have h1 : (([102, 121] : List UInt8) == s.toList) = false := beq_eq_false_iff_ne.2 h
        clear hI h
        go_wp2_with fail
        refine (HI4.out _).mono ?_
        rintro e w1 ⟨rfl, rfl⟩
        go_wp2_with fail
        go_roundw
        case rel => exact ⟨5, by go_num, by omega, Lib.hid (fun _ => hE.out), by first | rfl | trivial⟩
        case measure => simp [intOf]
    · by_cases h : tyL.getD 5 [] = s.toList
      · have hE : Hid (ofF s = 5) := Lib.hid (by rw [hI.out (by omega)]; show (if tyL.getD 5 [] = s.toList then ((5 : Nat) : Int) else _) = 5; rw [if_pos h]; rfl)
        have h1 : (([102, 120] : List UInt8) == s.toList) = true := beq_iff_eq.2 h
        clear hI h
        go_wp2_with fail
        refine (HI5.out _).mono ?_
        rintro e w1 ⟨rfl, rfl⟩
        go_wp2_with fail
        go_ret
        exact ⟨by rw [hE.out]; rfl, rfl⟩
      · have hE : Hid (ofF s = ofFrom s 0 6) := Lib.hid (by rw [hI.out (by omega)]; show (if tyL.getD 5 [] = s.toList then ((5 : Nat) : Int) else ofFrom s 0 6) = _; rw [if_neg h])
        have h1 : (([102, 120] : List UInt8) == s.toList) = false := beq_eq_false_iff_ne.2 h
        clear hI h
        go_wp2_with fail
        refine (HI5.out _).mono ?_
        rintro e w1 ⟨rfl, rfl⟩
        go_wp2_with fail
        go_roundw
        case rel => exact ⟨6, by go_num, by omega, Lib.hid (fun _ => hE.out), by first | rfl | trivial⟩
        case measure => simp [intOf]
    · have hE : Hid (ofF s = 0) := Lib.hid (by rw [hI.out (by omega)]; rfl)
      clear hI
      go_wp2_with fail
      go_ret
      exact ⟨by rw [hE.out]; rfl, rfl⟩
end Go.Proofs.YtodgjkdhkohckaaDoor.opers
