/- Clauses by generations: a nil base's calls. -/
import Derived.Test.YthfilpacmllhpabBas14
namespace Go.Proofs.Ythfilpacmllhpab.bases
set_option maxRecDepth 100000
open Go.RowKit Go.Proofs.Ythfilpacmllhpab.own Go.Lib Go.Maps Go.WideMaps Go.Proofs.Ythfilpacmllhpab.idx Go.Proofs.Ythfilpacmllhpab.terms
abbrev kV (k n : Int) (s : ByteArray) : Value := .agg #[.int .i64 k, .string s, .int .i64 n]
theorem kill_nil (i : Int) (w : World) : Calls Try.prog 10 #[.pointer none, .int .i64 i] w fun e w' => e = .returned (.int .i64 6) ∧ w' = w := by
  have HC := Lib.hid (closed_nil w)
  go_enter Try.func10, Try.ntmps10
  go_wp2_with fail
  refine HC.out.mono ?_
  rintro e w1 ⟨rfl, rfl⟩
  go_wp2_with fail
  go_ret
  exact ⟨rfl, rfl⟩
theorem gen_nil (w : World) : Calls Try.prog 11 #[.pointer none] w fun e w' => e = .returned (.int .i64 0) ∧ w' = w := by
  have HC := Lib.hid (closed_nil w)
  go_enter Try.func11, Try.ntmps11
  go_wp2_with fail
  refine HC.out.mono ?_
  rintro e w1 ⟨rfl, rfl⟩
  go_wp2_with fail
  go_ret
  exact ⟨rfl, rfl⟩
theorem lives_nil (i g : Int) (w : World) : Calls Try.prog 20 #[.pointer none, .int .i64 i, .int .i64 g] w fun e w' => e = .returned (.bool false) ∧ w' = w := by
  have HC := Lib.hid (closed_nil w)
  go_enter Try.func20, Try.ntmps20
  go_wp2_with fail
  refine HC.out.mono ?_
  rintro e w1 ⟨rfl, rfl⟩
  go_wp2_with fail
  go_ret
  exact ⟨rfl, rfl⟩
theorem known_nil (s : ByteArray) (a : Int) (w : World) : Calls Try.prog 21 #[.pointer none, .string s, .int .i64 a] w fun e w' => e = .returned (.bool false) ∧ w' = w := by
  have HC := Lib.hid (closed_nil w)
  go_enter Try.func21, Try.ntmps21
  go_wp2_with fail
  refine HC.out.mono ?_
  rintro e w1 ⟨rfl, rfl⟩
  go_wp2_with fail
  go_ret
  exact ⟨rfl, rfl⟩
theorem size_nil (i : Int) (w : World) : Calls Try.prog 22 #[.pointer none, .int .i64 i] w fun e w' => e = .returned (.int .i64 0) ∧ w' = w := by
  have HC := Lib.hid (closed_nil w)
  go_enter Try.func22, Try.ntmps22
  go_wp2_with fail
  refine HC.out.mono ?_
  rintro e w1 ⟨rfl, rfl⟩
  go_wp2_with fail
  go_ret
  exact ⟨rfl, rfl⟩
theorem preds_nil (w : World) : Calls Try.prog 12 #[.pointer none] w fun e w' => e = .returned (.slice none 0 0) ∧ w' = w := by
  have HC := Lib.hid (closed_nil w)
  go_enter Try.func12, Try.ntmps12
  go_wp2_with fail
  refine HC.out.mono ?_
  rintro e w1 ⟨rfl, rfl⟩
  go_wp2_with fail
  go_ret
  exact ⟨rfl, rfl⟩
theorem slots_nil (w : World) : Calls Try.prog 23 #[.pointer none] w fun e w' => e = .returned (.int .i64 0) ∧ w' = w := by
  have HC := Lib.hid (closed_nil w)
  go_enter Try.func23, Try.ntmps23
  go_wp2_with fail
  refine HC.out.mono ?_
  rintro e w1 ⟨rfl, rfl⟩
  go_wp2_with fail
  go_ret
  exact ⟨rfl, rfl⟩
theorem reclaim_nil (f : Value) (w : World) : Calls Try.prog 24 #[.pointer none, f] w fun e w' => e = .returned (.int .i64 0) ∧ w' = w := by
  have HC := Lib.hid (closed_nil w)
  go_enter Try.func24, Try.ntmps24
  go_wp2_with fail
  refine HC.out.mono ?_
  rintro e w1 ⟨rfl, rfl⟩
  go_wp2_with fail
  go_ret
  exact ⟨rfl, rfl⟩
theorem code_nil (i : Int) (w : World) : Calls Try.prog 18 #[.pointer none, .int .i64 i] w fun e w' => e = .returned (.tuple #[.slice none 0 0, .int .i64 6]) ∧ w' = w := by
  have HC := Lib.hid (closed_nil w)
  go_enter Try.func18, Try.ntmps18
  go_wp2_with fail
  refine HC.out.mono ?_
  rintro e w1 ⟨rfl, rfl⟩
  go_wp2_with fail
  go_ret2
  exact ⟨rfl, rfl⟩
theorem head_nil (nm : ByteArray) (a k n g : Int) (s : ByteArray) (w : World) : Calls Try.prog 15 #[.pointer none, .string nm, .int .i64 a, kV k n s, .int .i64 g] w fun e w' => e = .returned (.tuple #[.int .i64 0, .bool false]) ∧ Only (fun _ => False) w w' := by
  obtain ⟨E, hE⟩ : ∃ E, E = w.alloc (.cells #[.int .i64 k, .string s, .int .i64 n] 37) := ⟨_, rfl⟩
  have HO : Hid (Only (fun _ => False) w E) := Lib.hid (by rw [hE]; exact Only.alloc _ _ _)
  have HC := Lib.hid (closed_nil E)
  go_enter Try.func15, Try.ntmps15
  go_upto_region 1 with fail
  rw [← hE]
  clear hE
  go_wp2_with fail
  refine HC.out.mono ?_
  rintro e w1 ⟨rfl, rfl⟩
  go_wp2_with fail
  go_ret2
  exact ⟨rfl, HO.out⟩
theorem next_nil (i k n g : Int) (s : ByteArray) (w : World) : Calls Try.prog 16 #[.pointer none, .int .i64 i, kV k n s, .int .i64 g] w fun e w' => e = .returned (.tuple #[.int .i64 0, .bool false]) ∧ Only (fun _ => False) w w' := by
  obtain ⟨E, hE⟩ : ∃ E, E = w.alloc (.cells #[.int .i64 k, .string s, .int .i64 n] 37) := ⟨_, rfl⟩
  have HO : Hid (Only (fun _ => False) w E) := Lib.hid (by rw [hE]; exact Only.alloc _ _ _)
  have HC := Lib.hid (closed_nil E)
  go_enter Try.func16, Try.ntmps16
  go_upto_region 1 with fail
  rw [← hE]
  clear hE
  go_wp2_with fail
  refine HC.out.mono ?_
  rintro e w1 ⟨rfl, rfl⟩
  go_wp2_with fail
  go_ret2
  exact ⟨rfl, HO.out⟩
theorem add_nil (y0 y1 y2 y3 y4 y5 c f : Value) (w : World) : Calls Try.prog 9 #[.pointer none, .agg #[y0, y1, y2, y3, y4, y5], c, f] w fun e w' => e = .returned (.tuple #[.int .i64 0, .int .i64 6]) ∧ Only (fun _ => False) w w' := by
  obtain ⟨E, hE⟩ : ∃ E, E = w.alloc (.cells #[y0, y1, y2, y3, y4, y5] 34) := ⟨_, rfl⟩
  have HO : Hid (Only (fun _ => False) w E) := Lib.hid (by rw [hE]; exact Only.alloc _ _ _)
  have HC := Lib.hid (closed_nil E)
  go_enter Try.func9, Try.ntmps9
  go_upto_region 1 with fail
  rw [← hE]
  clear hE
  go_wp2_with fail
  refine HC.out.mono ?_
  rintro e w1 ⟨rfl, rfl⟩
  go_wp2_with fail
  go_ret2
  exact ⟨rfl, HO.out⟩
set_option maxHeartbeats 4000000 in
theorem clause_nil (i : Int) (w : World) : Calls Try.prog 17 #[.pointer none, .int .i64 i] w fun e w' => e = .returned (.tuple #[.agg zH, .int .i64 6]) ∧ Only (fun _ => False) w w' := by
  obtain ⟨E, hE⟩ : ∃ E, E = w.alloc (.cells zH 34) := ⟨_, rfl⟩
  have HX : Hid (Hex w.heap.size (.int .i64 0) (.int .i64 0) (.string ⟨#[]⟩) (.slice none 0 0) (.slice none 0 0) (.int .i64 0) E) := Lib.hid (by rw [hE]; exact heap_alloc_new _ _)
  have HO : Hid (Only (fun _ => False) w E) := Lib.hid (by rw [hE]; exact Only.alloc _ _ _)
  have HC := Lib.hid (closed_nil E)
  have HS := Lib.hid (HX.out.set (.int .i64 0) (.int .i64 0) (.string ⟨#[]⟩) (.slice none 0 0) (.slice none 0 0) (.int .i64 0))
  obtain ⟨z0, z1, z2, z3, z4, z5⟩ := HX.out.cells
  obtain ⟨f0, f1, f2, f3, f4, f5⟩ := HX.out.free
  obtain ⟨WF, hWF⟩ : ∃ WF, WF = hexW E w.heap.size (.int .i64 0) (.int .i64 0) (.string ⟨#[]⟩) (.slice none 0 0) (.slice none 0 0) (.int .i64 0) := ⟨_, rfl⟩
  rw [← hWF] at HS
  generalize hbk : w.heap.size = bk at *
  go_enter Try.func17, Try.ntmps17
  go_upto_region 1 with fail
  rw [← hE]
  clear hE
  go_wp2_with fail
  refine HC.out.mono ?_
  rintro e w1 ⟨rfl, rfl⟩
  go_wp2_with fail
  first | rw [← hWF] | (unfold hexW at hWF; rw [← hWF])
  clear hWF
  refine bodyPost_ret (v := .tuple #[.agg #[.int .i64 0, .int .i64 0, .string ⟨#[]⟩, .slice none 0 0, .slice none 0 0, .int .i64 0], .int .i64 6]) (results_clause2 rfl _ WF bk _ _ _ _ _ _ _ rfl rfl HS.out.1) rfl ?_
  exact ⟨rfl, idx.Only.cut HO.out HS.out.2 (fun k e => by have e' : k = bk := e; omega)⟩
set_option maxHeartbeats 4000000 in
theorem at_nil (i j : Int) (w : World) : Calls Try.prog 19 #[.pointer none, .int .i64 i, .int .i64 j] w fun e w' => e = .returned (.tuple #[.agg #[.int .i64 0, .string ⟨#[]⟩, .int .i64 0, .int .i64 0, .int .i64 0], .bool false]) ∧ Only (fun _ => False) w w' := by
  obtain ⟨E, hE⟩ : ∃ E, E = w.alloc (.cells #[.int .i64 0, .string ⟨#[]⟩, .int .i64 0, .int .i64 0, .int .i64 0] 61) := ⟨_, rfl⟩
  have HX : Hid (Pent w.heap.size zI E) := Lib.hid (by rw [hE]; exact heap_alloc_new _ _)
  have HO : Hid (Only (fun _ => False) w E) := Lib.hid (by rw [hE]; exact Only.alloc _ _ _)
  have HSZ := Lib.hid (size_nil i E)
  obtain ⟨z0, z1, z2, z3, z4⟩ := HX.out.cells
  obtain ⟨f0, f1, f2, f3, f4⟩ := HX.out.free
  have HS := Lib.hid (HX.out.set zI)
  by_cases hj : j < 0
  · go_enter Try.func19, Try.ntmps19
    go_upto_region 1 with fail
    rw [← hE]
    clear hE
    go_wp2_with fail
    refine bodyPost_ret (v := .tuple #[.agg #[.int .i64 0, .string ⟨#[]⟩, .int .i64 0, .int .i64 0, .int .i64 0], .bool false]) (results_instr rfl _ _ w.heap.size zI _ rfl rfl HS.out.1) rfl ?_
    exact ⟨rfl, idx.Only.cut HO.out HS.out.2 (fun k e => Nat.le_of_eq e.symm)⟩
  · have hj' : j ≥ 0 := by omega
    go_enter Try.func19, Try.ntmps19
    go_upto_region 1 with fail
    rw [← hE]
    clear hE
    go_wp2_with fail
    refine HSZ.out.mono ?_
    rintro e w1 ⟨rfl, rfl⟩
    go_wp2_with fail
    refine bodyPost_ret (v := .tuple #[.agg #[.int .i64 0, .string ⟨#[]⟩, .int .i64 0, .int .i64 0, .int .i64 0], .bool false]) (results_instr rfl _ _ w.heap.size zI _ rfl rfl HS.out.1) rfl ?_
    exact ⟨rfl, idx.Only.cut HO.out HS.out.2 (fun k e => Nat.le_of_eq e.symm)⟩
end Go.Proofs.Ythfilpacmllhpab.bases
