/- Selection by keys: keys that meet; a table that isn't there; Drop of a number that isn't there. -/
import Derived.Laws.StructEq
import Derived.Test.YthgjedcelcanbaaIdx17
namespace Go.Proofs.Ythgjedcelcanbaa.idx
set_option maxRecDepth 100000
open Go.RowKit Go.Proofs.Ythgjedcelcanbaa.own Go.Lib Go.Maps Go.WideMaps
theorem equalK (x y : Ky) (w : World) : (Op.equalIn 10000 32 (kyV x) (kyV y)).run Try.prog w = .ok (eqK x y) w := by
  rw [run_equalIn_agg w 9999 32 _ _ (by kernel_rfl) (by kernel_rfl)]
  have h : eqK x y = ((x.k == y.k) && ((x.s.toList == y.s.toList) && (x.n == y.n))) := by unfold eqK; rw [ByteArray.toList_eq, ByteArray.toList_eq, Bool.and_assoc]
  rw [h]
  cases h1 : (x.k == y.k) <;> cases h2 : (x.n == y.n) <;> by_cases h3 : x.s.toList = y.s.toList <;> simp [h3, Program.fieldsOf, Try.underlying32, Op.eqFields, part, go_sem, run_equalIn_int, run_equalIn_string, Try.underlying3, Try.underlying9, h1, h2, Try.isAgg3, Try.isAgg9]
theorem eqqK (x y : Ky) (w : World) : (binOp .eql 32 (kyV x) (kyV y)).run Try.prog w = .ok (.bool (eqK x y)) w := by
  rw [run_eql_struct, equalK]
  rfl
set_option maxHeartbeats 4000000 in
theorem meet_any (x y : Ky) (w : World) : Calls Try.prog 17 #[kyV x, kyV y] w fun e w' => e = .returned (.bool (meetB x y)) ∧ Only (fun _ => False) w w' := by
  obtain ⟨E, hE⟩ : ∃ E, E = w.alloc (.cells #[.int .i64 x.k, .string x.s, .int .i64 x.n] 32) := ⟨_, rfl⟩
  have hE0 : E.heap.size = w.heap.size + 1 := by rw [hE]; simp
  obtain ⟨E2, hE2⟩ : ∃ E2, E2 = E.alloc (.cells #[.int .i64 y.k, .string y.s, .int .i64 y.n] 32) := ⟨_, rfl⟩
  have hx : Three w.heap.size x E2 := Three.only (w := E) (by unfold Three; rw [hE]; exact heap_alloc_new _ _) (by rw [hE2]; exact Only.alloc (fun _ => False) _ _) (fun e => e)
  have hy : Three (w.heap.size + 1) y E2 := by rw [← hE0]; unfold Three; rw [hE2]; exact heap_alloc_new _ _
  have HO : Hid (Only (fun _ => False) w E2) := Lib.hid (by rw [hE2, hE]; exact (Only.alloc _ _ _).same (Only.alloc _ _ _))
  obtain ⟨x0, x1, x2⟩ := hx.cells
  obtain ⟨y0, y1, y2⟩ := hy.cells
  have hm : meetB x y = (x.k == 0 || y.k == 0 || ((x.k == y.k) && ((x.s.toList == y.s.toList) && (x.n == y.n)))) := by unfold meetB eqK; rw [ByteArray.toList_eq, ByteArray.toList_eq, Bool.and_assoc]
  generalize meetB x y = m at *
  rw [hE] at hE2
  clear hx hy hE0 hE
  cases hk : (x.k == 0)
  case true =>
    rw [hk] at hm
    simp only [Bool.true_or] at hm
    subst hm
    go_enter Try.func17, Try.ntmps17
    go_upto_region 1 with fail
    rw [← hE2]
    clear hE2
    go_wp2_with fail
    go_ret
    exact ⟨rfl, HO.out⟩
  case false =>
    cases hk2 : (y.k == 0)
    case true =>
      rw [hk, hk2] at hm
      simp only [Bool.false_or, Bool.true_or] at hm
      subst hm
      go_enter Try.func17, Try.ntmps17
      go_upto_region 1 with fail
      rw [← hE2]
      clear hE2
      go_wp2_with fail
      go_ret
      exact ⟨rfl, HO.out⟩
    case false =>
      cases h1 : (x.k == y.k) <;> cases h2 : (x.s.toList == y.s.toList) <;> cases h3 : (x.n == y.n)
      all_goals
        rw [hk, hk2, h1, h2, h3] at hm
        simp only [Bool.false_or, Bool.and_false, Bool.and_true, Bool.false_and] at hm
        subst hm
        go_enter Try.func17, Try.ntmps17
        go_upto_region 1 with fail
        rw [← hE2]
        clear hE2
        go_wp2_with fail
        go_ret
        exact ⟨rfl, HO.out⟩
set_option maxHeartbeats 4000000 in
theorem rmeet_any (x y : Ky) (w : World) : Calls Try.prog 26 #[kyV x, kyV y] w fun e w' => e = .returned (.bool (meetB x y)) ∧ Only (fun _ => False) w w' := by
  obtain ⟨E, hE⟩ : ∃ E, E = w.alloc (.cells #[.int .i64 x.k, .string x.s, .int .i64 x.n] 32) := ⟨_, rfl⟩
  have hE0 : E.heap.size = w.heap.size + 1 := by rw [hE]; simp
  obtain ⟨E2, hE2⟩ : ∃ E2, E2 = E.alloc (.cells #[.int .i64 y.k, .string y.s, .int .i64 y.n] 32) := ⟨_, rfl⟩
  have hx : Three w.heap.size x E2 := Three.only (w := E) (by unfold Three; rw [hE]; exact heap_alloc_new _ _) (by rw [hE2]; exact Only.alloc (fun _ => False) _ _) (fun e => e)
  have hy : Three (w.heap.size + 1) y E2 := by rw [← hE0]; unfold Three; rw [hE2]; exact heap_alloc_new _ _
  have HO : Hid (Only (fun _ => False) w E2) := Lib.hid (by rw [hE2, hE]; exact (Only.alloc _ _ _).same (Only.alloc _ _ _))
  obtain ⟨x0, x1, x2⟩ := hx.cells
  obtain ⟨y0, y1, y2⟩ := hy.cells
  have hm : meetB x y = (x.k == 0 || y.k == 0 || ((x.k == y.k) && ((x.s.toList == y.s.toList) && (x.n == y.n)))) := by unfold meetB eqK; rw [ByteArray.toList_eq, ByteArray.toList_eq, Bool.and_assoc]
  generalize meetB x y = m at *
  rw [hE] at hE2
  clear hx hy hE0 hE
  cases hk : (x.k == 0)
  case true =>
    rw [hk] at hm
    simp only [Bool.true_or] at hm
    subst hm
    go_enter Try.func26, Try.ntmps26
    go_upto_region 1 with fail
    rw [← hE2]
    clear hE2
    go_wp2_with fail
    go_ret
    exact ⟨rfl, HO.out⟩
  case false =>
    cases hk2 : (y.k == 0)
    case true =>
      rw [hk, hk2] at hm
      simp only [Bool.false_or, Bool.true_or] at hm
      subst hm
      go_enter Try.func26, Try.ntmps26
      go_upto_region 1 with fail
      rw [← hE2]
      clear hE2
      go_wp2_with fail
      go_ret
      exact ⟨rfl, HO.out⟩
    case false =>
      cases h1 : (x.k == y.k) <;> cases h2 : (x.s.toList == y.s.toList) <;> cases h3 : (x.n == y.n)
      all_goals
        rw [hk, hk2, h1, h2, h3] at hm
        simp only [Bool.false_or, Bool.and_false, Bool.and_true, Bool.false_and] at hm
        subst hm
        go_enter Try.func26, Try.ntmps26
        go_upto_region 1 with fail
        rw [← hE2]
        clear hE2
        go_wp2_with fail
        go_ret
        exact ⟨rfl, HO.out⟩
theorem add_nil (i : Int) (k : Ky) (f : Bool) (w : World) : Calls Try.prog 14 #[.pointer none, .int .i64 i, kyV k, .bool f] w fun e w' => e = .returned (.int .i64 6) ∧ Only (fun _ => False) w w' := by
  have HO : Hid (Only (fun _ => False) w (w.alloc (.cells #[.int .i64 k.k, .string k.s, .int .i64 k.n] 32))) := Lib.hid (Only.alloc _ _ _)
  go_enter Try.func14, Try.ntmps14
  go_wp2_with fail
  refine (closed_nil _).mono ?_
  rintro e w1 ⟨rfl, rfl⟩
  go_wp2_with fail
  go_ret
  exact ⟨rfl, HO.out⟩
theorem drop_nil (i : Int) (w : World) : Calls Try.prog 13 #[.pointer none, .int .i64 i] w fun e w' => e = .returned (.int .i64 6) ∧ w' = w := by
  go_enter Try.func13, Try.ntmps13
  go_wp2_with fail
  refine (closed_nil _).mono ?_
  rintro e w1 ⟨rfl, rfl⟩
  go_wp2_with fail
  go_ret
  exact ⟨rfl, rfl⟩
theorem next_nil (i : Int) (k : Ky) (w : World) : Calls Try.prog 16 #[.pointer none, .int .i64 i, kyV k] w fun e w' => e = .returned (.tuple #[.int .i64 0, .bool false]) ∧ Only (fun _ => False) w w' := by
  have HO : Hid (Only (fun _ => False) w (w.alloc (.cells #[.int .i64 k.k, .string k.s, .int .i64 k.n] 32))) := Lib.hid (Only.alloc _ _ _)
  go_enter Try.func16, Try.ntmps16
  go_wp2_with fail
  refine (closed_nil _).mono ?_
  rintro e w1 ⟨rfl, rfl⟩
  go_wp2_with fail
  go_ret2
  exact ⟨rfl, HO.out⟩
theorem head_nil (k : Ky) (w : World) : Calls Try.prog 15 #[.pointer none, kyV k] w fun e w' => e = .returned (.tuple #[.int .i64 0, .bool false]) ∧ Only (fun _ => False) w w' := by
  have HO : Hid (Only (fun _ => False) w (w.alloc (.cells #[.int .i64 k.k, .string k.s, .int .i64 k.n] 32))) := Lib.hid (Only.alloc _ _ _)
  go_enter Try.func15, Try.ntmps15
  go_wp2_with fail
  refine (closed_nil _).mono ?_
  rintro e w1 ⟨rfl, rfl⟩
  go_wp2_with fail
  go_ret2
  exact ⟨rfl, HO.out⟩
theorem all_nil (k : Ky) (w : World) : Calls Try.prog 11 #[.pointer none, kyV k] w fun e w' => e = .returned (.slice none 0 0) ∧ Only (fun _ => False) w w' := by
  have HO : Hid (Only (fun _ => False) w (w.alloc (.cells #[.int .i64 k.k, .string k.s, .int .i64 k.n] 32))) := Lib.hid (Only.alloc _ _ _)
  go_enter Try.func11, Try.ntmps11
  go_wp2_with fail
  refine (closed_nil _).mono ?_
  rintro e w1 ⟨rfl, rfl⟩
  go_wp2_with fail
  go_ret
  exact ⟨rfl, HO.out⟩
theorem len_nil (w : World) : Calls Try.prog 9 #[.pointer none] w fun e w' => e = .returned (.int .i64 0) ∧ w' = w := by
  go_enter Try.func9, Try.ntmps9
  go_wp2_with fail
  refine (closed_nil _).mono ?_
  rintro e w1 ⟨rfl, rfl⟩
  go_wp2_with fail
  go_ret
  exact ⟨rfl, rfl⟩
end Go.Proofs.Ythgjedcelcanbaa.idx
