/- Arithmetic: numbers of one and of two, the program's. -/
import Derived.Test.YtleofkmfeooaaaaArith4
import Derived.Test.YtleofkmfeooaaaaArith2
import Derived.IntWalk
namespace Go.Proofs.Ytleofkmfeooaaaa.terms
set_option maxRecDepth 100000
open Go.RowKit Go.Proofs.Ytleofkmfeooaaaa.own Go.Maps
def absI (a : Int) : Int := if a < 0 then -a else a
def sgn (a : Int) : Int := if a < 0 then -1 else if 0 < a then 1 else 0
def modF (a b : Int) : Int := if a.tmod b ≠ 0 ∧ ¬ (a.tmod b < 0 ↔ b < 0) then a.tmod b + b else a.tmod b
def oneF (s : ByteArray) (a : Int) : Int := if s.toList = [97, 98, 115] then absI a else if s.toList = [115, 105, 103, 110] then sgn a else -a
def divF (s : ByteArray) : Bool := if s.toList = [47, 47] then true else if s.toList = [109, 111, 100] then true else decide (s.toList = [114, 101, 109])
def twoF (s : ByteArray) (a b : Int) : Int :=
  if s.toList = [43] then a + b else if s.toList = [45] then a - b else if s.toList = [42] then a * b else if s.toList = [47, 47] then a.tdiv b else if s.toList = [114, 101, 109] then a.tmod b
  else if s.toList = [109, 111, 100] then modF a b else if s.toList = [109, 105, 110] then min a b else max a b
/-- What reckoning comes to. -/
inductive Rk where
  | num (n : Int)
  | ball (x : T)
def nOver : ByteArray := ⟨#[111, 118, 101, 114]⟩
def nZero : ByteArray := ⟨#[122, 101, 114, 111]⟩
def evalF (s : ByteArray) : T := .mk 4 0 nEval [sAtom s]
def outF (n : Int) : Rk := if n < -9007199254740991 then .ball (evalF nOver) else if 9007199254740991 < n then .ball (evalF nOver) else .num n
def finF (s : ByteArray) (k a b : Int) : Rk := if k = 1 then outF (oneF s a) else if divF s = true then (if b = 0 then .ball (evalF nZero) else outF (twoF s a b)) else outF (twoF s a b)
theorem outF_in {n : Int} (h : Rng n) : outF n = .num n := by
  obtain ⟨h1, h2⟩ := h
  unfold outF
  rw [if_neg (by omega), if_neg (by omega)]
theorem outF_out {n : Int} (h : ¬ Rng n) : outF n = .ball (evalF nOver) := by
  unfold Rng at h
  unfold outF
  by_cases h1 : n < -9007199254740991
  · rw [if_pos h1]
  · rw [if_neg h1, if_pos (by omega)]
theorem wrap_rng {n : Int} (h : Rng n) : wrap64 n = n := by
  obtain ⟨h1, h2⟩ := h
  unfold wrap64
  omega
theorem prod_iff (a b : Int) (hb : b ≠ 0) : (9007199254740991 / (if b < -b then -b else b) < (if a < -a then -a else a)) ↔ ¬ Rng (a * b) := by
  unfold Rng
  have key : ∀ A B : Int, 0 < B → 0 ≤ A → (9007199254740991 / B < A ↔ 9007199254740991 < A * B) := fun A B hB _ => Int.ediv_lt_iff_lt_mul hB
  by_cases h1 : b < -b
  · rw [if_pos h1]
    by_cases h2 : a < -a
    · rw [if_pos h2, key _ _ (by omega) (by omega), Int.neg_mul_neg]
      have : 0 ≤ a * b := by
        have := Int.mul_nonneg (show 0 ≤ -a by omega) (show 0 ≤ -b by omega)
        rwa [Int.neg_mul_neg] at this
      omega
    · rw [if_neg h2, key _ _ (by omega) (by omega), Int.mul_neg]
      have : 0 ≤ -(a * b) := by
        have := Int.mul_nonneg (show 0 ≤ a by omega) (show 0 ≤ -b by omega)
        rwa [Int.mul_neg] at this
      omega
  · rw [if_neg h1]
    by_cases h2 : a < -a
    · rw [if_pos h2, key _ _ (by omega) (by omega), Int.neg_mul]
      have : 0 ≤ -(a * b) := by
        have := Int.mul_nonneg (show 0 ≤ -a by omega) (show 0 ≤ b by omega)
        rwa [Int.neg_mul] at this
      omega
    · rw [if_neg h2, key _ _ (by omega) (by omega)]
      have := Int.mul_nonneg (show 0 ≤ a by omega) (show 0 ≤ b by omega)
      omega
theorem tdiv_rng {a b : Int} (ha : Rng a) : Rng (a.tdiv b) := by
  obtain ⟨h1, h2⟩ := ha
  have : (a.tdiv b).natAbs ≤ a.natAbs := by
    rw [Int.natAbs_tdiv]
    exact Nat.div_le_self _ _
  unfold Rng
  omega
theorem tmod_rng {a b : Int} (ha : Rng a) : Rng (a.tmod b) := by
  obtain ⟨h1, h2⟩ := ha
  have : (a.tmod b).natAbs ≤ a.natAbs := by
    rw [Int.natAbs_tmod]
    exact Nat.mod_le _ _
  unfold Rng
  omega
set_option maxHeartbeats 4000000 in
theorem product_any (a b : Int) (w : World) (ha : Rng a) (hb : Rng b) : Calls Try.prog 111 #[.int .i64 a, .int .i64 b] w fun e w' => ∃ n, e = .returned (.int .i64 n) ∧ outF n = outF (a * b) ∧ Fits n ∧ w' = w := by
  have HP := Lib.hid (prod_iff a b)
  have HW := Lib.hid (fun h => @wrap_rng (a * b) h)
  obtain ⟨h0, h1⟩ := ha
  obtain ⟨h2, h3⟩ := hb
  by_cases hbz : b = 0
  · subst hbz
    go_enter Try.func111, Try.ntmps111
    go_wp2_with fail
    all_goals
      go_ret
      exact ⟨_, rfl, by simp, ⟨by decide, by decide⟩, rfl⟩
  · have hbb : (b != 0) = true := by simpa using hbz
    go_enter Try.func111, Try.ntmps111
    go_wp2_with fail
    all_goals first
      | (have hr : ¬ Rng (a * b) := (HP.out hbz).1 (by assumption)
         go_ret
         exact ⟨_, rfl, by rw [outF_out hr, outF_out (by unfold Rng; omega)], ⟨by decide, by decide⟩, rfl⟩)
      | (have hr : Rng (a * b) := Classical.byContradiction (fun h => absurd ((HP.out hbz).2 h) (Int.not_lt.2 (by assumption)))
         have hr2 := hr
         obtain ⟨r1, r2⟩ := hr2
         rw [HW.out hr]
         go_ret
         exact ⟨_, rfl, rfl, ⟨by omega, by omega⟩, rfl⟩)
set_option maxHeartbeats 4000000 in
theorem modulo_any (a b : Int) (w : World) (ha : Rng a) (hb : Rng b) (hbz : b ≠ 0) : Calls Try.prog 112 #[.int .i64 a, .int .i64 b] w fun e w' => e = .returned (.int .i64 (modF a b)) ∧ w' = w := by
  have hm := tmod_rng (b := b) ha
  obtain ⟨m0, m1⟩ := hm
  obtain ⟨h0, h1⟩ := ha
  obtain ⟨h2, h3⟩ := hb
  by_cases e0 : a.tmod b = 0
  · have HE : modF a b = 0 := by unfold modF; rw [if_neg (fun h => h.1 e0), e0]
    rw [HE]
    clear HE
    go_enter Try.func112, Try.ntmps112
    go_wp2_with fail
    all_goals
      go_ret
      exact ⟨rfl, rfl⟩
  · have n0 : (a.tmod b != 0) = true := by simpa using e0
    have HW : Hid (wrap64 (a.tmod b + b) = a.tmod b + b) := Lib.hid (by unfold wrap64; omega)
    by_cases e1 : a.tmod b < 0
    · have n1 : decide (a.tmod b < 0) = true := decide_eq_true e1
      by_cases e2 : b < 0
      · have n2 : decide (b < 0) = true := decide_eq_true e2
        have HE : modF a b = a.tmod b := by unfold modF; rw [if_neg (fun h => h.2 (by omega))]
        rw [HE]
        clear HE
        go_enter Try.func112, Try.ntmps112
        go_wp2_with fail
        all_goals
          try rw [HW.out]
          go_ret
          exact ⟨rfl, rfl⟩
      · have n2 : decide (b < 0) = false := decide_eq_false e2
        have HE : modF a b = a.tmod b + b := by unfold modF; rw [if_pos ⟨e0, by omega⟩]
        rw [HE]
        clear HE
        go_enter Try.func112, Try.ntmps112
        go_wp2_with fail
        all_goals
          try rw [HW.out]
          go_ret
          exact ⟨rfl, rfl⟩
    · have n1 : decide (a.tmod b < 0) = false := decide_eq_false e1
      by_cases e2 : b < 0
      · have n2 : decide (b < 0) = true := decide_eq_true e2
        have HE : modF a b = a.tmod b + b := by unfold modF; rw [if_pos ⟨e0, by omega⟩]
        rw [HE]
        clear HE
        go_enter Try.func112, Try.ntmps112
        go_wp2_with fail
        all_goals
          try rw [HW.out]
          go_ret
          exact ⟨rfl, rfl⟩
      · have n2 : decide (b < 0) = false := decide_eq_false e2
        have HE : modF a b = a.tmod b := by unfold modF; rw [if_neg (fun h => h.2 (by omega))]
        rw [HE]
        clear HE
        go_enter Try.func112, Try.ntmps112
        go_wp2_with fail
        all_goals
          try rw [HW.out]
          go_ret
          exact ⟨rfl, rfl⟩
set_option maxHeartbeats 4000000 in
theorem cmp0_any (a : Int) (w : World) : Calls Try.prog 110 #[.int .i64 a, .int .i64 0] w fun e w' => e = .returned (.int .i64 (sgn a)) ∧ w' = w := by
  have HN : Hid (∀ (x : Int) W, Calls Try.prog 113 #[.int .i64 x] W fun e w' => e = .returned (.bool false) ∧ w' = W) := Lib.hid (fun x W => by
    go_enter Try.func113, Try.ntmps113
    go_wp2_with fail
    all_goals
      go_ret
      exact ⟨rfl, rfl⟩)
  by_cases h1 : a < 0
  · have HE : sgn a = -1 := by unfold sgn; rw [if_pos h1]
    rw [HE]
    go_enter Try.func110, Try.ntmps110
    go_wp2_with fail
    refine (HN.out _ _).mono ?_
    rintro e w1 ⟨rfl, rfl⟩
    go_wp2_with fail
    refine (HN.out _ _).mono ?_
    rintro e w2 ⟨rfl, rfl⟩
    go_wp2_with fail
    go_ret
    exact ⟨rfl, rfl⟩
  · by_cases h2 : 0 < a
    · have HE : sgn a = 1 := by unfold sgn; rw [if_neg h1, if_pos h2]
      rw [HE]
      go_enter Try.func110, Try.ntmps110
      go_wp2_with fail
      refine (HN.out _ _).mono ?_
      rintro e w1 ⟨rfl, rfl⟩
      go_wp2_with fail
      refine (HN.out _ _).mono ?_
      rintro e w2 ⟨rfl, rfl⟩
      go_wp2_with fail
      go_ret
      exact ⟨rfl, rfl⟩
    · have HE : sgn a = 0 := by unfold sgn; rw [if_neg h1, if_neg h2]
      rw [HE]
      go_enter Try.func110, Try.ntmps110
      go_wp2_with fail
      refine (HN.out _ _).mono ?_
      rintro e w1 ⟨rfl, rfl⟩
      go_wp2_with fail
      refine (HN.out _ _).mono ?_
      rintro e w2 ⟨rfl, rfl⟩
      go_wp2_with fail
      go_ret
      exact ⟨rfl, rfl⟩
theorem sgn_rng (a : Int) : Rng (sgn a) := by unfold sgn Rng; split <;> (try split) <;> omega
theorem oneF_rng {s : ByteArray} {a : Int} (h : Rng a) : Rng (oneF s a) := by
  obtain ⟨h1, h2⟩ := h
  unfold oneF absI
  split
  · split <;> exact ⟨by omega, by omega⟩
  · split
    · exact sgn_rng a
    · exact ⟨by omega, by omega⟩
set_option maxHeartbeats 4000000 in
theorem one_any (s : ByteArray) (a : Int) (w : World) (hs : opB s 1 = true) (ha : Rng a) : Calls Try.prog 96 #[.string s, .int .i64 a] w fun e w' => e = .returned (.int .i64 (oneF s a)) ∧ w' = w := by
  obtain ⟨h0, h1⟩ := ha
  rcases op_one hs with rfl | rfl | rfl
  · have HE : oneF ⟨#[45]⟩ a = -a := by kernel_rfl
    rw [HE]
    clear HE hs
    go_enter Try.func96, Try.ntmps96
    go_wp2_with fail
    all_goals
      go_ret
      exact ⟨rfl, rfl⟩
  · have HE : oneF ⟨#[97, 98, 115]⟩ a = absI a := by kernel_rfl
    rw [HE]
    clear HE hs
    by_cases h2 : a < 0
    · have HE : absI a = -a := if_pos h2
      rw [HE]
      have h3 : a < -a := by omega
      go_enter Try.func96, Try.ntmps96
      go_wp2_with fail
      all_goals
        go_ret
        exact ⟨rfl, rfl⟩
    · have HE : absI a = a := if_neg h2
      rw [HE]
      have h3 : -a ≤ a := by omega
      go_enter Try.func96, Try.ntmps96
      go_wp2_with fail
      all_goals
        go_ret
        exact ⟨rfl, rfl⟩
  · have HE : oneF ⟨#[115, 105, 103, 110]⟩ a = sgn a := by kernel_rfl
    rw [HE]
    clear HE hs
    have HC := Lib.hid (fun W => cmp0_any a W)
    go_enter Try.func96, Try.ntmps96
    go_wp2_with fail
    refine (HC.out _).mono ?_
    rintro e w1 ⟨rfl, rfl⟩
    go_wp2_with fail
    go_ret
    exact ⟨rfl, rfl⟩
set_option maxHeartbeats 4000000 in
theorem divides_any (s : ByteArray) (w : World) (hs : opB s 2 = true) : Calls Try.prog 97 #[.string s] w fun e w' => e = .returned (.bool (divF s)) ∧ w' = w := by
  rcases op_two hs with rfl | rfl | rfl | rfl | rfl | rfl | rfl | rfl
  · have HE : divF ⟨#[45]⟩ = false := by kernel_rfl
    rw [HE]
    clear HE hs
    go_enter Try.func97, Try.ntmps97
    go_wp2_with fail
    go_ret
    exact ⟨rfl, rfl⟩
  · have HE : divF ⟨#[43]⟩ = false := by kernel_rfl
    rw [HE]
    clear HE hs
    go_enter Try.func97, Try.ntmps97
    go_wp2_with fail
    go_ret
    exact ⟨rfl, rfl⟩
  · have HE : divF ⟨#[42]⟩ = false := by kernel_rfl
    rw [HE]
    clear HE hs
    go_enter Try.func97, Try.ntmps97
    go_wp2_with fail
    go_ret
    exact ⟨rfl, rfl⟩
  · have HE : divF ⟨#[47, 47]⟩ = true := by kernel_rfl
    rw [HE]
    clear HE hs
    go_enter Try.func97, Try.ntmps97
    go_wp2_with fail
    go_ret
    exact ⟨rfl, rfl⟩
  · have HE : divF ⟨#[109, 111, 100]⟩ = true := by kernel_rfl
    rw [HE]
    clear HE hs
    go_enter Try.func97, Try.ntmps97
    go_wp2_with fail
    go_ret
    exact ⟨rfl, rfl⟩
  · have HE : divF ⟨#[114, 101, 109]⟩ = true := by kernel_rfl
    rw [HE]
    clear HE hs
    go_enter Try.func97, Try.ntmps97
    go_wp2_with fail
    go_ret
    exact ⟨rfl, rfl⟩
  · have HE : divF ⟨#[109, 105, 110]⟩ = false := by kernel_rfl
    rw [HE]
    clear HE hs
    go_enter Try.func97, Try.ntmps97
    go_wp2_with fail
    go_ret
    exact ⟨rfl, rfl⟩
  · have HE : divF ⟨#[109, 97, 120]⟩ = false := by kernel_rfl
    rw [HE]
    clear HE hs
    go_enter Try.func97, Try.ntmps97
    go_wp2_with fail
    go_ret
    exact ⟨rfl, rfl⟩
set_option maxHeartbeats 4000000 in
theorem two_any (s : ByteArray) (a b : Int) (w : World) (hs : opB s 2 = true) (ha : Rng a) (hb : Rng b) (hz : divF s = true → b ≠ 0) : Calls Try.prog 99 #[.string s, .int .i64 a, .int .i64 b] w fun e w' => ∃ n, e = .returned (.int .i64 n) ∧ outF n = outF (twoF s a b) ∧ Fits n ∧ w' = w := by
  have HPR := Lib.hid (fun W => product_any a b W ha hb)
  have HMO := Lib.hid (fun h W => modulo_any a b W ha hb h)
  have hq := tdiv_rng (b := b) ha
  have hr := tmod_rng (b := b) ha
  obtain ⟨q0, q1⟩ := hq
  obtain ⟨r0, r1⟩ := hr
  obtain ⟨h0, h1⟩ := ha
  obtain ⟨h2, h3⟩ := hb
  have HQ : Hid (wrap64 (a.tdiv b) = a.tdiv b) := Lib.hid (by unfold wrap64; omega)
  rcases op_two hs with rfl | rfl | rfl | rfl | rfl | rfl | rfl | rfl
  · have HE : twoF ⟨#[45]⟩ a b = a - b := by kernel_rfl
    rw [HE]
    clear HE hs hz
    go_enter Try.func99, Try.ntmps99
    go_wp2_with fail
    all_goals
      try rw [HQ.out]
      go_ret
      exact ⟨_, rfl, rfl, ⟨by omega, by omega⟩, rfl⟩
  · have HE : twoF ⟨#[43]⟩ a b = a + b := by kernel_rfl
    rw [HE]
    clear HE hs hz
    go_enter Try.func99, Try.ntmps99
    go_wp2_with fail
    all_goals
      try rw [HQ.out]
      go_ret
      exact ⟨_, rfl, rfl, ⟨by omega, by omega⟩, rfl⟩
  · have HE : twoF ⟨#[42]⟩ a b = a * b := by kernel_rfl
    rw [HE]
    clear HE hs hz
    go_enter Try.func99, Try.ntmps99
    go_wp2_with fail
    refine (HPR.out _).mono ?_
    rintro e w1 ⟨n, rfl, hn, hf, rfl⟩
    go_wp2_with fail
    go_ret
    exact ⟨n, rfl, hn, hf, rfl⟩
  · have HE : twoF ⟨#[47, 47]⟩ a b = a.tdiv b := by kernel_rfl
    rw [HE]
    have hbz : b ≠ 0 := hz (by kernel_rfl)
    clear HE hs hz
    go_enter Try.func99, Try.ntmps99
    go_wp2_with fail
    all_goals
      try rw [HQ.out]
      go_ret
      exact ⟨_, rfl, rfl, ⟨by omega, by omega⟩, rfl⟩
  · have HE : twoF ⟨#[109, 111, 100]⟩ a b = modF a b := by kernel_rfl
    rw [HE]
    have hbz : b ≠ 0 := hz (by kernel_rfl)
    clear HE hs hz
    go_enter Try.func99, Try.ntmps99
    go_wp2_with fail
    refine (HMO.out hbz _).mono ?_
    rintro e w1 ⟨rfl, rfl⟩
    go_wp2_with fail
    go_ret
    exact ⟨_, rfl, rfl, ⟨by unfold modF; split <;> omega, by unfold modF; split <;> omega⟩, rfl⟩
  · have HE : twoF ⟨#[114, 101, 109]⟩ a b = a.tmod b := by kernel_rfl
    rw [HE]
    have hbz : b ≠ 0 := hz (by kernel_rfl)
    clear HE hs hz
    go_enter Try.func99, Try.ntmps99
    go_wp2_with fail
    all_goals
      try rw [HQ.out]
      go_ret
      exact ⟨_, rfl, rfl, ⟨by omega, by omega⟩, rfl⟩
  · have HE : twoF ⟨#[109, 105, 110]⟩ a b = min a b := by kernel_rfl
    rw [HE]
    clear HE hs hz
    by_cases hab : a ≤ b
    · have HE : min a b = a := by omega
      rw [HE]
      go_enter Try.func99, Try.ntmps99
      go_wp2_with fail
      all_goals
        go_ret
        first
          | exact ⟨_, rfl, rfl, ⟨by omega, by omega⟩, rfl⟩
          | (have hab3 : a = b := by omega
             subst hab3
             exact ⟨_, rfl, rfl, ⟨by omega, by omega⟩, rfl⟩)
    · have HE : min a b = b := by omega
      rw [HE]
      have hab2 : b < a := by omega
      go_enter Try.func99, Try.ntmps99
      go_wp2_with fail
      all_goals
        go_ret
        first
          | exact ⟨_, rfl, rfl, ⟨by omega, by omega⟩, rfl⟩
          | (have hab3 : a = b := by omega
             subst hab3
             exact ⟨_, rfl, rfl, ⟨by omega, by omega⟩, rfl⟩)
  · have HE : twoF ⟨#[109, 97, 120]⟩ a b = max a b := by kernel_rfl
    rw [HE]
    clear HE hs hz
    by_cases hab : a ≤ b
    · have HE : max a b = b := by omega
      rw [HE]
      go_enter Try.func99, Try.ntmps99
      go_wp2_with fail
      all_goals
        go_ret
        first
          | exact ⟨_, rfl, rfl, ⟨by omega, by omega⟩, rfl⟩
          | (have hab3 : a = b := by omega
             subst hab3
             exact ⟨_, rfl, rfl, ⟨by omega, by omega⟩, rfl⟩)
    · have HE : max a b = a := by omega
      rw [HE]
      have hab2 : b < a := by omega
      go_enter Try.func99, Try.ntmps99
      go_wp2_with fail
      all_goals
        go_ret
        first
          | exact ⟨_, rfl, rfl, ⟨by omega, by omega⟩, rfl⟩
          | (have hab3 : a = b := by omega
             subst hab3
             exact ⟨_, rfl, rfl, ⟨by omega, by omega⟩, rfl⟩)
end Go.Proofs.Ytleofkmfeooaaaa.terms
