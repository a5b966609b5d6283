/- Contracts of package cell's small functions, and of the law's own. -/
import Derived.Test.YtdhppkobhmbnaaaDoorCellLib
import Derived.Test.YtdhppkobhmbnaaaDoorShelf
import Derived.Test.YtdhppkobhmbnaaaDoorProg
import Derived.WalkKit
import Derived.WalkLawsBesides
import Derived.WalkSpells
import Derived.Outline
import Derived.Lib.LaidTab
import Derived.Lib.Hide
import Derived.WalkSmall
namespace Go.Proofs.YtdhppkobhmbnaaaDoor.cells
open Go.RowKit Go.Lib

theorem ret_int {k : IntKind} {a b : Int} (h : a = b) : Ending.returned (.int k a) = .returned (.int k b) := by rw [h]
theorem ret_bool {a b : Bool} (h : a = b) : Ending.returned (.bool a) = .returned (.bool b) := by rw [h]

/-! ### bits -/
theorem and7 (x : Int) (h0 : 0 ≤ x) (h1 : x < 18446744073709551616) : bits BinOp.and IntKind.u64 x 7 = x % 8 := by
  have h := bits_and_u64_nat x.toNat 7 (by omega) (by omega)
  rw [Int.toNat_of_nonneg h0] at h
  have h7 : x.toNat &&& 7 = x.toNat % 8 := Nat.and_two_pow_sub_one_eq_mod x.toNat 3
  rw [h7] at h
  have h2 : ((x.toNat % 8 : Nat) : Int) = x % 8 := by omega
  exact h.trans h2
theorem or_low (a t : Int) (h0 : 0 ≤ a) (h1 : a < 2305843009213693952) (ht : 0 ≤ t ∧ t < 8) : bits BinOp.or IntKind.u64 (a * 8) t = a * 8 + t := by
  have h := bits_or_u64_nat (a.toNat * 8) t.toNat (by omega) (by omega)
  have e1 : ((a.toNat * 8 : Nat) : Int) = a * 8 := by omega
  have e2 : ((t.toNat : Nat) : Int) = t := by omega
  rw [e1, e2] at h
  have h8 : a.toNat * 8 ||| t.toNat = a.toNat * 8 + t.toNat := by
    have h9 : a.toNat * 8 = 2 ^ 3 * a.toNat := by omega
    rw [h9, ← Nat.two_pow_add_eq_or_of_lt (by omega : t.toNat < 2 ^ 3)]
  rw [h8] at h
  have h2 : ((a.toNat * 8 + t.toNat : Nat) : Int) = a * 8 + t := by omega
  exact h.trans h2
theorem wrap_u64 (n : Int) : IntKind.u64.wrap n = n % 18446744073709551616 := by
  simp [IntKind.wrap, IntKind.bits, IntKind.signed]
theorem make_val (t n : Int) (ht : 0 ≤ t ∧ t < 8) : bits BinOp.or IntKind.u64 (IntKind.u64.wrap (IntKind.u64.wrap n * 8)) t = mkOf t n := by
  rw [wrap_u64, wrap_u64]
  have e : n % 18446744073709551616 * 8 % 18446744073709551616 = ((n * 8 % 18446744073709551616) / 8) * 8 := by omega
  rw [e, or_low _ t (by omega) (by omega) ht]
  unfold mkOf
  omega
theorem tag_val {x : Int} (h : IsWord x) : wrap64 (bits BinOp.and IntKind.u64 x 7) = tagOf x := by
  rw [and7 x h.1 h.2, IntWalk.wrap64_in _ ⟨by omega, by omega⟩]
  rfl
theorem num_val {x : Int} (h : IsWord x) (h8 : x % 8 ≠ 0) : wrap64 x / 8 = numOf x := by
  obtain ⟨h0, h1⟩ := h
  unfold numOf wrap64
  rw [if_neg h8]
  split <;> omega

/-! ### the small functions -/
theorem isTag_yes (t : Int) (w : World) (h1 : 1 ≤ t) (h2 : t ≤ 7) : Calls Tryd.prog 23 #[.int .i64 t] w fun e w' => e = .returned (.bool true) ∧ w = w' := by
  go_enter Tryd.func23, Tryd.ntmps23
  go_wp2
  go_ret
  exact ⟨rfl, rfl⟩
theorem isTag_no (t : Int) (w : World) (h : t < 1 ∨ 7 < t) : Calls Tryd.prog 23 #[.int .i64 t] w fun e w' => e = .returned (.bool false) ∧ w = w' := by
  by_cases h1 : 1 ≤ t
  · have h2 : 7 < t := by omega
    clear h
    go_enter Tryd.func23, Tryd.ntmps23
    go_wp2
    go_ret
    exact ⟨ret_bool (decide_eq_false (by omega)), rfl⟩
  · clear h
    go_enter Tryd.func23, Tryd.ntmps23
    go_wp2
    go_ret
    exact ⟨rfl, rfl⟩

theorem make_yes (t n : Int) (w : World) (h1 : 1 ≤ t) (h2 : t ≤ 7) (h3 : -1152921504606846976 ≤ n) (h4 : n ≤ 1152921504606846975) :
    Calls Tryd.prog 8 #[.int .i64 t, .int .i64 n] w fun e w' => e = .returned (.tuple #[.int .u64 (mkOf t n), .int .i64 0]) ∧ w = w' := by
  have HV := Lib.hid (make_val t n ⟨by omega, by omega⟩)
  go_enter Tryd.func8, Tryd.ntmps8
  go_wp2_with (go_at_call 23; refine (isTag_yes _ _ (by omega) (by omega)).mono ?_; rintro e w' ⟨rfl, rfl⟩)
  go_ret2
  refine ⟨?_, rfl⟩
  rw [← HV.out]
  rfl
theorem make_no (t n : Int) (w : World) (h : ¬ MayBe t n) :
    Calls Tryd.prog 8 #[.int .i64 t, .int .i64 n] w fun e w' => e = .returned (.tuple #[.int .u64 0, .int .i64 1]) ∧ w = w' := by
  by_cases ht : 1 ≤ t ∧ t ≤ 7
  · obtain ⟨h1, h2⟩ := ht
    by_cases h3 : n < -1152921504606846976
    · clear h
      go_enter Tryd.func8, Tryd.ntmps8
      go_wp2_with (go_at_call 23; refine (isTag_yes _ _ (by omega) (by omega)).mono ?_; rintro e w' ⟨rfl, rfl⟩)
      go_ret2
      exact ⟨rfl, rfl⟩
    · have h4 : 1152921504606846975 < n := by unfold MayBe at h; omega
      have h3' : decide (n < -1152921504606846976) = false := by simpa using h3
      clear h
      go_enter Tryd.func8, Tryd.ntmps8
      go_wp2_with (go_at_call 23; refine (isTag_yes _ _ (by omega) (by omega)).mono ?_; rintro e w' ⟨rfl, rfl⟩)
      go_ret2
      exact ⟨rfl, rfl⟩
  · have ht' : t < 1 ∨ 7 < t := by omega
    clear h ht
    go_enter Tryd.func8, Tryd.ntmps8
    go_wp2_with (go_at_call 23; refine (isTag_no _ _ ht').mono ?_; rintro e w' ⟨rfl, rfl⟩)
    go_ret2
    exact ⟨rfl, rfl⟩

theorem tag_any (x : Int) (w : World) (h : IsWord x) :
    Calls Tryd.prog 12 #[.int .u64 x] w fun e w' => e = .returned (.int .i64 (tagOf x)) ∧ w = w' := by
  have HV := Lib.hid (tag_val h)
  go_enter Tryd.func12, Tryd.ntmps12
  go_wp2
  go_ret
  exact ⟨ret_int HV.out, rfl⟩

theorem number_zero (x : Int) (w : World) (h : IsWord x) (h8 : x % 8 = 0) :
    Calls Tryd.prog 13 #[.int .u64 x] w fun e w' => e = .returned (.int .i64 0) ∧ w = w' := by
  have e0 : (tagOf x == 0) = true := by unfold tagOf; simpa using h8
  clear h8
  go_enter Tryd.func13, Tryd.ntmps13
  go_wp2_with (go_at_call 12; refine (tag_any _ _ h).mono ?_; rintro e w' ⟨rfl, rfl⟩)
  go_ret
  exact ⟨rfl, rfl⟩
theorem number_any (x : Int) (w : World) (h : IsWord x) :
    Calls Tryd.prog 13 #[.int .u64 x] w fun e w' => e = .returned (.int .i64 (numOf x)) ∧ w = w' := by
  by_cases h8 : x % 8 = 0
  · have e : numOf x = 0 := by unfold numOf; rw [if_pos h8]
    rw [e]
    exact number_zero x w h h8
  · have e0 : (tagOf x == 0) = false := by unfold tagOf; simpa using h8
    have HV := Lib.hid (num_val h h8)
    clear h8
    go_enter Tryd.func13, Tryd.ntmps13
    go_wp2_with (go_at_call 12; refine (tag_any _ _ h).mono ?_; rintro e w' ⟨rfl, rfl⟩)
    go_ret
    exact ⟨ret_int HV.out, rfl⟩

/-- What Is comes to. -/
def isB (x t : Int) : Bool := decide (1 ≤ t ∧ t ≤ 7 ∧ tagOf x = t)
theorem is_any (x t : Int) (w : World) (h : IsWord x) :
    Calls Tryd.prog 14 #[.int .u64 x, .int .i64 t] w fun e w' => e = .returned (.bool (isB x t)) ∧ w = w' := by
  by_cases ht : 1 ≤ t ∧ t ≤ 7
  · obtain ⟨h1, h2⟩ := ht
    have HV : Hid ((tagOf x == t) = isB x t) := by
      show (tagOf x == t) = isB x t
      unfold isB
      rw [Bool.eq_iff_iff]
      simp [h1, h2]
    go_enter Tryd.func14, Tryd.ntmps14
    go_wp2_with (first | (go_at_call 23; refine (isTag_yes _ _ (by omega) (by omega)).mono ?_; rintro e w' ⟨rfl, rfl⟩) | (go_at_call 12; refine (tag_any _ _ h).mono ?_; rintro e w' ⟨rfl, rfl⟩))
    go_ret
    exact ⟨ret_bool HV.out, rfl⟩
  · have ht' : t < 1 ∨ 7 < t := by omega
    have HV : Hid (false = isB x t) := by
      show false = isB x t
      unfold isB
      simp
      omega
    clear ht
    go_enter Tryd.func14, Tryd.ntmps14
    go_wp2_with (go_at_call 23; refine (isTag_no _ _ ht').mono ?_; rintro e w' ⟨rfl, rfl⟩)
    go_ret
    exact ⟨ret_bool HV.out, rfl⟩

/-! ### the law's own -/
theorem rmay_any (t n : Int) (w : World) :
    Calls Tryd.prog 10 #[.int .i64 t, .int .i64 n] w fun e w' => e = .returned (.bool (mayB t n)) ∧ w = w' := by
  by_cases h : MayBe t n
  · have e : mayB t n = true := by simp [mayB, h]
    rw [e]
    obtain ⟨h1, h2, h3, h4⟩ := h
    clear e
    go_enter Tryd.func10, Tryd.ntmps10
    go_wp2
    go_ret
    exact ⟨rfl, rfl⟩
  · have e : mayB t n = false := by simp [mayB, h]
    rw [e]
    clear e
    unfold MayBe at h
    by_cases h1 : 1 ≤ t
    · by_cases h2 : t ≤ 7
      · by_cases h3 : -1152921504606846976 ≤ n
        · have h4 : 1152921504606846975 < n := by omega
          clear h
          go_enter Tryd.func10, Tryd.ntmps10
          go_wp2
          go_ret
          exact ⟨ret_bool (decide_eq_false (by omega)), rfl⟩
        · clear h
          go_enter Tryd.func10, Tryd.ntmps10
          go_wp2
          go_ret
          exact ⟨rfl, rfl⟩
      · clear h
        go_enter Tryd.func10, Tryd.ntmps10
        go_wp2
        go_ret
        exact ⟨rfl, rfl⟩
    · clear h
      go_enter Tryd.func10, Tryd.ntmps10
      go_wp2
      go_ret
      exact ⟨rfl, rfl⟩
theorem rmake_any (t n : Int) (w : World) (h1 : 1 ≤ t) (h2 : t ≤ 7) (h3 : -1152921504606846976 ≤ n) (h4 : n ≤ 1152921504606846975) :
    Calls Tryd.prog 11 #[.int .i64 t, .int .i64 n] w fun e w' => e = .returned (.int .u64 (mkOf t n)) ∧ w = w' := by
  by_cases h0 : 0 ≤ n
  · have HV : Hid (8 * n + t = mkOf t n) := by
      show 8 * n + t = mkOf t n
      unfold mkOf; omega
    go_enter Tryd.func11, Tryd.ntmps11
    go_wp2
    go_ret
    exact ⟨ret_int HV.out, rfl⟩
  · have HV : Hid (8 * (2305843009213693952 + n) + t = mkOf t n) := by
      show 8 * (2305843009213693952 + n) + t = mkOf t n
      unfold mkOf; omega
    go_enter Tryd.func11, Tryd.ntmps11
    go_wp2
    go_ret
    exact ⟨ret_int HV.out, rfl⟩
theorem rtag_any (x : Int) (w : World) (h : IsWord x) :
    Calls Tryd.prog 15 #[.int .u64 x] w fun e w' => e = .returned (.int .i64 (tagOf x)) ∧ w = w' := by
  obtain ⟨h0, h1⟩ := h
  go_enter Tryd.func15, Tryd.ntmps15
  go_wp2
  go_ret
  exact ⟨ret_int (by unfold tagOf; rfl), rfl⟩
theorem rnumber_any (x : Int) (w : World) (h : IsWord x) :
    Calls Tryd.prog 16 #[.int .u64 x] w fun e w' => e = .returned (.int .i64 (numOf x)) ∧ w = w' := by
  obtain ⟨h0, h1⟩ := h
  by_cases h8 : x % 8 = 0
  · have HV : Hid (0 = numOf x) := by
      show 0 = numOf x
      unfold numOf; rw [if_pos h8]
    have e0 : (x % 8 == 0) = true := by simpa using h8
    clear h8
    go_enter Tryd.func16, Tryd.ntmps16
    go_wp2
    go_ret
    exact ⟨ret_int HV.out, rfl⟩
  · have e0 : (x % 8 == 0) = false := by simpa using h8
    by_cases hb : x / 8 < 1152921504606846976
    · have HV : Hid (x / 8 = numOf x) := by
        show x / 8 = numOf x
        unfold numOf; rw [if_neg h8, if_pos hb]
      clear h8
      go_enter Tryd.func16, Tryd.ntmps16
      go_wp2
      go_ret
      exact ⟨ret_int HV.out, rfl⟩
    · have HV : Hid (-(2305843009213693952 - x / 8) = numOf x) := by
        show -(2305843009213693952 - x / 8) = numOf x
        unfold numOf; rw [if_neg h8, if_neg hb]; omega
      clear h8
      go_enter Tryd.func16, Tryd.ntmps16
      go_wp2
      go_ret
      exact ⟨ret_int HV.out, rfl⟩

theorem rname_any (t : Int) (w : World) :
    Calls Tryd.prog 20 #[.int .i64 t] w fun e w' => e = .returned (.string ⟨(nameOf t).toArray⟩) ∧ w = w' := by
  have hc : t = 1 ∨ t = 2 ∨ t = 3 ∨ t = 4 ∨ t = 5 ∨ t = 6 ∨ t = 7 ∨ (t < 1 ∨ 7 < t) := by omega
  rcases hc with rfl | rfl | rfl | rfl | rfl | rfl | rfl | hc
  case inr.inr.inr.inr.inr.inr.inr =>
    have HV : Hid (nameOf t = []) := by
      show nameOf t = []
      unfold nameOf
      repeat rw [if_neg (by omega)]
    have h1 : (t == 1) = false := beq_eq_false_iff_ne.2 (by omega)
    have h2 : (t == 2) = false := beq_eq_false_iff_ne.2 (by omega)
    have h3 : (t == 3) = false := beq_eq_false_iff_ne.2 (by omega)
    have h4 : (t == 4) = false := beq_eq_false_iff_ne.2 (by omega)
    have h5 : (t == 5) = false := beq_eq_false_iff_ne.2 (by omega)
    have h6 : (t == 6) = false := beq_eq_false_iff_ne.2 (by omega)
    have h7 : (t == 7) = false := beq_eq_false_iff_ne.2 (by omega)
    clear hc
    go_enter Tryd.func20, Tryd.ntmps20
    go_wp2
    go_ret
    rw [HV.out]
    exact ⟨rfl, rfl⟩
  all_goals
    go_enter Tryd.func20, Tryd.ntmps20
    go_wp2
    go_ret
    exact ⟨rfl, rfl⟩
end Go.Proofs.YtdhppkobhmbnaaaDoor.cells
