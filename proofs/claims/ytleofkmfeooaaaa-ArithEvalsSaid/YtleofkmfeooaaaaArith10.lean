/- Arithmetic: numbers of one and of two, the reference's. -/
import Derived.Test.YtleofkmfeooaaaaArith9
import Derived.Test.YtleofkmfeooaaaaArith6
namespace Go.Proofs.Ytleofkmfeooaaaa.terms
set_option maxRecDepth 100000
open Go.RowKit Go.Proofs.Ytleofkmfeooaaaa.own Go.Maps
theorem rabs_any (a : Int) (w : World) (ha : Rng a) : Calls Try.prog 100 #[.int .i64 a] w fun e w' => e = .returned (.int .i64 (absI a)) ∧ w' = w := by
  obtain ⟨h0, h1⟩ := ha
  by_cases h2 : a < 0
  · have HE : absI a = -a := if_pos h2
    rw [HE]
    go_enter Try.func100, Try.ntmps100
    go_wp2_with fail
    go_ret
    exact ⟨rfl, rfl⟩
  · have HE : absI a = a := if_neg h2
    rw [HE]
    go_enter Try.func100, Try.ntmps100
    go_wp2_with fail
    go_ret
    exact ⟨rfl, rfl⟩
theorem absI_rng {a : Int} (h : Rng a) : Rng (absI a) := by
  obtain ⟨h1, h2⟩ := h
  unfold absI
  split <;> exact ⟨by omega, by omega⟩
theorem prod_iff2 (a b : Int) (ha : a ≠ 0) : (9007199254740991 / absI a < absI b) ↔ ¬ Rng (a * b) := by
  rw [Int.mul_comm a b, ← prod_iff b a ha]
  have e1 : absI a = if a < -a then -a else a := by unfold absI; split <;> split <;> omega
  have e2 : absI b = if b < -b then -b else b := by unfold absI; split <;> split <;> omega
  rw [e1, e2]
set_option maxHeartbeats 4000000 in
theorem rone_any (s : ByteArray) (a : Int) (w : World) (hs : opB s 1 = true) (ha : Rng a) : Calls Try.prog 76 #[.string s, .int .i64 a] w fun e w' => e = .returned (.int .i64 (oneF s a)) ∧ w' = w := by
  have HAB := Lib.hid (fun W => rabs_any a W ha)
  obtain ⟨h0, h1⟩ := ha
  rcases op_one hs with rfl | rfl | rfl
  · have HE : oneF ⟨#[45]⟩ a = -a := by kernel_rfl
    rw [HE]
    clear HE hs
    go_enter Try.func76, Try.ntmps76
    go_wp2_with fail
    all_goals
      go_ret
      exact ⟨rfl, rfl⟩
  · have HE : oneF ⟨#[97, 98, 115]⟩ a = absI a := by kernel_rfl
    rw [HE]
    clear HE hs
    go_enter Try.func76, Try.ntmps76
    go_wp2_with fail
    refine (HAB.out _).mono ?_
    rintro e w1 ⟨rfl, rfl⟩
    go_wp2_with fail
    go_ret
    exact ⟨rfl, rfl⟩
  · have HE : oneF ⟨#[115, 105, 103, 110]⟩ a = sgn a := by kernel_rfl
    rw [HE]
    clear HE hs
    by_cases h2 : a < 0
    · have HE : sgn a = -1 := by unfold sgn; rw [if_pos h2]
      rw [HE]
      go_enter Try.func76, Try.ntmps76
      go_wp2_with fail
      all_goals
        go_ret
        exact ⟨rfl, rfl⟩
    · by_cases h3 : 0 < a
      · have HE : sgn a = 1 := by unfold sgn; rw [if_neg h2, if_pos h3]
        rw [HE]
        go_enter Try.func76, Try.ntmps76
        go_wp2_with fail
        all_goals
          go_ret
          exact ⟨rfl, rfl⟩
      · have HE : sgn a = 0 := by unfold sgn; rw [if_neg h2, if_neg h3]
        rw [HE]
        go_enter Try.func76, Try.ntmps76
        go_wp2_with fail
        all_goals
          go_ret
          exact ⟨rfl, rfl⟩
set_option maxHeartbeats 4000000 in
theorem over_any (n : Int) (w : World) : Calls Try.prog 102 #[.int .i64 n] w (AnsRk (outF n) w) := by
  have HQ0 := Lib.hid (Zero.new w)
  have HO0 : Hid (Only (fun _ => False) w (zeroW w)) := Lib.hid (Only.alloc _ _ _)
  have HZ0 : Hid ((zeroW w).heap.size = w.heap.size + 1) := Lib.hid (by simp)
  have HEV := Lib.hid (fun (u : ByteArray) (hu : u.size ≤ maxLen) W => reval_any u W hu)
  obtain ⟨d0, d1, d2, d3⟩ := HQ0.out.cells
  obtain ⟨e0, e1, e2, e3⟩ := HQ0.out.free
  by_cases hr : Rng n
  · rw [outF_in hr]
    obtain ⟨r0, r1⟩ := hr
    go_enter Try.func102, Try.ntmps102
    go_wp2_with fail
    have hc := HQ0.out.cells
    refine bodyPost_ret (v := .tuple #[.int .i64 (n), .agg #[.int .i64 0, .int .i64 0, .string ⟨#[]⟩, .slice none 0 0], .bool true]) (results_rk rfl _ _ w.heap.size _ _ _ _ _ _ rfl rfl rfl hc.1 hc.2.1 hc.2.2.1 hc.2.2.2) rfl ?_
    exact ⟨rfl, HO0.out⟩
  · rw [outF_out hr]
    by_cases hr0 : n < -9007199254740991
    · clear hr
      go_enter Try.func102, Try.ntmps102
      go_wp2_with fail
      refine (HEV.out nOver (by decide +kernel) _).mono ?_
      rintro e w1 ⟨a1, p1, rfl, hl1, ho1⟩
      have HL1 := Lib.hid hl1
      have HSZ1 := Lib.hid ho1.size
      have HO1 := Lib.hid (HO0.out.same ho1)
      have HQ1 := Lib.hid (HQ0.out.only ho1 (fun e => e))
      have HS1 := Lib.hid (HQ1.out.set (.int .i64 4) (.int .i64 0) (.string nError) (.slice a1 1 p1))
      clear d0 d1 d2 d3 e0 e1 e2 e3 hl1 ho1
      obtain ⟨c0, c1, c2, c3⟩ := HQ1.out.cells
      obtain ⟨f0, f1, f2, f3⟩ := HQ1.out.free
      go_wp2_with fail
      have hc := HS1.out.1.cells
      refine bodyPost_ret (v := .tuple #[.int .i64 0, .agg #[.int .i64 4, .int .i64 0, .string nError, .slice a1 1 p1], .bool false]) (results_rk rfl _ _ w.heap.size _ _ _ _ _ _ rfl rfl rfl hc.1 hc.2.1 hc.2.2.1 hc.2.2.2) rfl ?_
      exact ⟨a1, p1, rfl, HL1.out.fin HS1.out.2 (by omega) (by simp) HSZ1.out no_lt, Only.cut HO1.out HS1.out.2 (fun k e => by omega)⟩
    · have hr1 : 9007199254740991 < n := by unfold Rng at hr; omega
      clear hr
      go_enter Try.func102, Try.ntmps102
      go_wp2_with fail
      refine (HEV.out nOver (by decide +kernel) _).mono ?_
      rintro e w1 ⟨a1, p1, rfl, hl1, ho1⟩
      have HL1 := Lib.hid hl1
      have HSZ1 := Lib.hid ho1.size
      have HO1 := Lib.hid (HO0.out.same ho1)
      have HQ1 := Lib.hid (HQ0.out.only ho1 (fun e => e))
      have HS1 := Lib.hid (HQ1.out.set (.int .i64 4) (.int .i64 0) (.string nError) (.slice a1 1 p1))
      clear d0 d1 d2 d3 e0 e1 e2 e3 hl1 ho1
      obtain ⟨c0, c1, c2, c3⟩ := HQ1.out.cells
      obtain ⟨f0, f1, f2, f3⟩ := HQ1.out.free
      go_wp2_with fail
      have hc := HS1.out.1.cells
      refine bodyPost_ret (v := .tuple #[.int .i64 0, .agg #[.int .i64 4, .int .i64 0, .string nError, .slice a1 1 p1], .bool false]) (results_rk rfl _ _ w.heap.size _ _ _ _ _ _ rfl rfl rfl hc.1 hc.2.1 hc.2.2.1 hc.2.2.2) rfl ?_
      exact ⟨a1, p1, rfl, HL1.out.fin HS1.out.2 (by omega) (by simp) HSZ1.out no_lt, Only.cut HO1.out HS1.out.2 (fun k e => by omega)⟩
set_option maxHeartbeats 4000000 in
theorem times_any (a b : Int) (w : World) (ha : Rng a) (hb : Rng b) : Calls Try.prog 103 #[.int .i64 a, .int .i64 b] w (AnsRk (outF (a * b)) w) := by
  have HQ0 := Lib.hid (Zero.new w)
  have HO0 : Hid (Only (fun _ => False) w (zeroW w)) := Lib.hid (Only.alloc _ _ _)
  have HZ0 : Hid ((zeroW w).heap.size = w.heap.size + 1) := Lib.hid (by simp)
  have HEV := Lib.hid (fun (u : ByteArray) (hu : u.size ≤ maxLen) W => reval_any u W hu)
  obtain ⟨d0, d1, d2, d3⟩ := HQ0.out.cells
  obtain ⟨e0, e1, e2, e3⟩ := HQ0.out.free
  have HAA := Lib.hid (fun W => rabs_any a W ha)
  have HAB := Lib.hid (fun W => rabs_any b W hb)
  have HP := Lib.hid (prod_iff2 a b)
  have hra := absI_rng ha
  have hrb := absI_rng hb
  obtain ⟨q0, q1⟩ := hra
  obtain ⟨q2, q3⟩ := hrb
  by_cases hz : a = 0
  · subst hz
    have HE : outF (0 * b) = .num 0 := by rw [Int.zero_mul]; exact outF_in ⟨by omega, by omega⟩
    rw [HE]
    clear HE
    go_enter Try.func103, Try.ntmps103
    go_wp2_with fail
    have hc := HQ0.out.cells
    refine bodyPost_ret (v := .tuple #[.int .i64 (0), .agg #[.int .i64 0, .int .i64 0, .string ⟨#[]⟩, .slice none 0 0], .bool true]) (results_rk rfl _ _ w.heap.size _ _ _ _ _ _ rfl rfl rfl hc.1 hc.2.1 hc.2.2.1 hc.2.2.2) rfl ?_
    exact ⟨rfl, HO0.out⟩
  · have hzz : (a != 0) = true := by simpa using hz
    have hA0 : 0 < absI a := by unfold absI; split <;> omega
    by_cases hr : Rng (a * b)
    · have hc0 : ¬ 9007199254740991 / absI a < absI b := fun h => (HP.out hz).1 h hr
      have HW := wrap_rng hr
      rw [outF_in hr]
      obtain ⟨r0, r1⟩ := hr
      generalize absI a = aa at *
      generalize absI b = bb at *
      go_enter Try.func103, Try.ntmps103
      go_wp2_with fail
      refine (HAB.out _).mono ?_
      rintro e w1 ⟨rfl, rfl⟩
      go_wp2_with fail
      refine (HAA.out _).mono ?_
      rintro e w1 ⟨rfl, rfl⟩
      go_wp2_with fail
      have hc := HQ0.out.cells
      refine bodyPost_ret (v := .tuple #[.int .i64 (a * b), .agg #[.int .i64 0, .int .i64 0, .string ⟨#[]⟩, .slice none 0 0], .bool true]) (results_rk rfl _ _ w.heap.size _ _ _ _ _ _ rfl rfl rfl hc.1 hc.2.1 hc.2.2.1 hc.2.2.2) rfl ?_
      exact ⟨rfl, HO0.out⟩
    · have hc0 : 9007199254740991 / absI a < absI b := (HP.out hz).2 hr
      rw [outF_out hr]
      generalize absI a = aa at *
      generalize absI b = bb at *
      go_enter Try.func103, Try.ntmps103
      go_wp2_with fail
      refine (HAB.out _).mono ?_
      rintro e w1 ⟨rfl, rfl⟩
      go_wp2_with fail
      refine (HAA.out _).mono ?_
      rintro e w1 ⟨rfl, rfl⟩
      go_wp2_with fail
      refine (HEV.out nOver (by decide +kernel) _).mono ?_
      rintro e w1 ⟨a1, p1, rfl, hl1, ho1⟩
      have HL1 := Lib.hid hl1
      have HSZ1 := Lib.hid ho1.size
      have HO1 := Lib.hid (HO0.out.same ho1)
      have HQ1 := Lib.hid (HQ0.out.only ho1 (fun e => e))
      have HS1 := Lib.hid (HQ1.out.set (.int .i64 4) (.int .i64 0) (.string nError) (.slice a1 1 p1))
      clear d0 d1 d2 d3 e0 e1 e2 e3 hl1 ho1
      obtain ⟨c0, c1, c2, c3⟩ := HQ1.out.cells
      obtain ⟨f0, f1, f2, f3⟩ := HQ1.out.free
      go_wp2_with fail
      have hc := HS1.out.1.cells
      refine bodyPost_ret (v := .tuple #[.int .i64 0, .agg #[.int .i64 4, .int .i64 0, .string nError, .slice a1 1 p1], .bool false]) (results_rk rfl _ _ w.heap.size _ _ _ _ _ _ rfl rfl rfl hc.1 hc.2.1 hc.2.2.1 hc.2.2.2) rfl ?_
      exact ⟨a1, p1, rfl, HL1.out.fin HS1.out.2 (by omega) (by simp) HSZ1.out no_lt, Only.cut HO1.out HS1.out.2 (fun k e => by omega)⟩
end Go.Proofs.Ytleofkmfeooaaaa.terms
