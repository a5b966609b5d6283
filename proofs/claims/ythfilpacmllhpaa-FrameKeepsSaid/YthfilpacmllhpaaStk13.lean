/- Environments and choices: a nil stack's calls; the laws FrameNobody, FrameNests. -/
import Derived.Test.YthfilpacmllhpaaStk12
namespace Go.Proofs.Ythfilpacmllhpaa.stk
set_option maxRecDepth 100000
open Go.RowKit Go.Proofs.Ythfilpacmllhpaa.own
theorem nil_env (w : World) : Calls Try.prog 15 #[.pointer none] w fun e w' => e = .returned (.int .i64 (-1)) ∧ w' = w := by
  have HC := Lib.hid (closed_nil w)
  go_enter Try.func15, Try.ntmps15
  go_wp2_with fail
  refine HC.out.mono ?_
  rintro e u ⟨rfl, rfl⟩
  go_wp2_with fail
  go_ret
  exact ⟨rfl, rfl⟩
theorem nil_slots (w : World) : Calls Try.prog 29 #[.pointer none] w fun e w' => e = .returned (.int .i64 0) ∧ w' = w := by
  have HC := Lib.hid (closed_nil w)
  go_enter Try.func29, Try.ntmps29
  go_wp2_with fail
  refine HC.out.mono ?_
  rintro e u ⟨rfl, rfl⟩
  go_wp2_with fail
  go_ret
  exact ⟨rfl, rfl⟩
theorem nil_depth (w : World) : Calls Try.prog 16 #[.pointer none] w fun e w' => e = .returned (.int .i64 0) ∧ w' = w := by
  have HC := Lib.hid (closed_nil w)
  go_enter Try.func16, Try.ntmps16
  go_wp2_with fail
  refine HC.out.mono ?_
  rintro e u ⟨rfl, rfl⟩
  go_wp2_with fail
  go_ret
  exact ⟨rfl, rfl⟩
theorem nil_get (i : Int) (w : World) : Calls Try.prog 21 #[.pointer none, .int .i64 i] w fun e w' => e = .returned (.tuple #[.int .u64 0, .int .i64 6]) ∧ w' = w := by
  have HC := Lib.hid (closed_nil w)
  go_enter Try.func21, Try.ntmps21
  go_wp2_with fail
  refine HC.out.mono ?_
  rintro e u ⟨rfl, rfl⟩
  go_wp2_with fail
  go_ret2
  exact ⟨rfl, rfl⟩
theorem nil_set (i x : Int) (w : World) : Calls Try.prog 27 #[.pointer none, .int .i64 i, .int .u64 x] w fun e w' => e = .returned (.int .i64 6) ∧ w' = w := by
  have HC := Lib.hid (closed_nil w)
  go_enter Try.func27, Try.ntmps27
  go_wp2_with fail
  refine HC.out.mono ?_
  rintro e u ⟨rfl, rfl⟩
  go_wp2_with fail
  go_ret
  exact ⟨rfl, rfl⟩
theorem nil_trim (i : Int) (w : World) : Calls Try.prog 28 #[.pointer none, .int .i64 i] w fun e w' => e = .returned (.bool false) ∧ Only (fun _ => False) w w' := by
  go_enter Try.func28, Try.ntmps28
  go_wp2_with fail
  go_quiet ((go_at_call 44; exact Calls.quiet_of_same (closed_nil _)))
  go_wp2_with fail
  go_ret
  exact ⟨rfl, Only.drewN _ _ _⟩
theorem nil_change (f : Value) (w : World) : Calls Try.prog 24 #[.pointer none, f] w fun e w' => e = .returned (.tuple #[]) ∧ Only (fun _ => False) w w' := by
  have HC := Lib.hid (fun W => closed_nil W)
  go_enter Try.func24, Try.ntmps24
  go_wp2_with fail
  refine (HC.out _).mono ?_
  rintro e u ⟨rfl, rfl⟩
  go_wp2_with fail
  exact bodyPost_ret (results_none rfl _ _ _) rfl ⟨rfl, Only.refl _ _⟩
theorem nil_chain (i : Int) (w : World) : Calls Try.prog 14 #[.pointer none, .int .i64 i] w fun e w' => e = .returned (.slice none 0 0) ∧ w' = w := by
  have HC := Lib.hid (closed_nil w)
  go_enter Try.func14, Try.ntmps14
  go_wp2_with fail
  refine HC.out.mono ?_
  rintro e u ⟨rfl, rfl⟩
  go_wp2_with fail
  go_ret
  exact ⟨rfl, rfl⟩
theorem nil_with (f : Value) (w : World) : Calls Try.prog 50 #[.pointer none, f] w fun e w' => e = .returned (.int .i64 6) ∧ w' = w := by
  have HC := Lib.hid (closed_nil w)
  go_enter Try.func50, Try.ntmps50
  go_wp2_with fail
  refine HC.out.mono ?_
  rintro e u ⟨rfl, rfl⟩
  go_wp2_with fail
  go_ret
  exact ⟨rfl, rfl⟩
theorem nil_drop (w : World) : Calls Try.prog 17 #[.pointer none] w fun e w' => e = .returned (.int .i64 6) ∧ Only (fun _ => False) w w' := by
  have HC := Lib.hid (fun f W => nil_with f W)
  go_enter Try.func17, Try.ntmps17
  go_wp2_with fail
  refine (HC.out _ _).mono ?_
  rintro e u ⟨rfl, rfl⟩
  go_wp2_with fail
  go_ret
  exact ⟨rfl, Only.alloc _ _ _⟩
theorem nil_restore (w : World) : Calls Try.prog 18 #[.pointer none] w fun e w' => e = .returned (.int .i64 6) ∧ Only (fun _ => False) w w' := by
  have HC := Lib.hid (fun f W => nil_with f W)
  go_enter Try.func18, Try.ntmps18
  go_wp2_with fail
  refine (HC.out _ _).mono ?_
  rintro e u ⟨rfl, rfl⟩
  go_wp2_with fail
  go_ret
  exact ⟨rfl, Only.alloc _ _ _⟩
theorem nil_turn (i : Int) (w : World) : Calls Try.prog 30 #[.pointer none, .int .i64 i] w fun e w' => e = .returned (.int .i64 6) ∧ Only (fun _ => False) w w' := by
  have HC := Lib.hid (fun f W => nil_with f W)
  go_enter Try.func30, Try.ntmps30
  go_wp2_with fail
  refine (HC.out _ _).mono ?_
  rintro e u ⟨rfl, rfl⟩
  go_wp2_with fail
  go_ret
  exact ⟨rfl, Only.alloc _ _ _⟩
theorem nil_alloc (n x y : Int) (w : World) : Calls Try.prog 26 #[.pointer none, .int .i64 n, .agg #[.int .i64 x, .int .i64 y]] w fun e w' => e = .returned (.int .i64 6) ∧ Only (fun _ => False) w w' := by
  have HC := Lib.hid (fun W => closed_nil W)
  go_enter Try.func26, Try.ntmps26
  go_wp2_with fail
  refine (HC.out _).mono ?_
  rintro e u ⟨rfl, rfl⟩
  go_wp2_with fail
  go_ret
  exact ⟨rfl, Only.alloc _ _ _⟩
theorem nil_push (y0 y1 y2 y3 y4 y5 y6 y7 y8 : Value) (w : World) : Calls Try.prog 13 #[.pointer none, .agg #[y0, y1, y2, y3, y4, y5, y6, y7, y8]] w fun e w' => e = .returned (.int .i64 6) ∧ Only (fun _ => False) w w' := by
  have HC := Lib.hid (fun W => closed_nil W)
  go_enter Try.func13, Try.ntmps13
  go_wp2_with fail
  refine (HC.out _).mono ?_
  rintro e u ⟨rfl, rfl⟩
  go_wp2_with fail
  go_ret
  exact ⟨rfl, Only.alloc _ _ _⟩
theorem nil_dealloc (w : World) : Calls Try.prog 20 #[.pointer none] w fun e w' => e = .returned (.tuple #[.agg #[.int .i64 0, .int .i64 0], .int .i64 6]) ∧ Only (fun _ => False) w w' := by
  obtain ⟨E, hE⟩ : ∃ E, E = w.alloc (.cells #[.int .i64 0, .int .i64 0] 32) := ⟨_, rfl⟩
  have HO : Hid (Only (fun _ => False) w E) := Lib.hid (by rw [hE]; exact Only.alloc _ _ _)
  have HD : Hid (Duo w.heap.size (.int .i64 0) (.int .i64 0) E) := Lib.hid ⟨by rw [hE]; exact heap_alloc_new w _⟩
  have HB := Lib.hid (closed_nil E)
  go_enter Try.func20, Try.ntmps20
  go_upto_region 1 with fail
  rw [← hE]
  clear hE
  generalize hbk : w.heap.size = bk at *
  have HBK := Lib.hid hbk
  clear hbk
  go_wp2_with fail
  refine HB.out.mono ?_
  rintro e u ⟨rfl, hu⟩
  obtain rfl : E = u := hu.symm
  obtain ⟨d0, d1⟩ := HD.out.cells
  have df0 := HD.out.fz 0
  have df1 := HD.out.fz 1
  go_wp2_with fail
  obtain ⟨h1, h2⟩ := HD.out.set (.int .i64 0) (.int .i64 0)
  exact bodyPost_ret (v := .tuple #[.agg #[.int .i64 0, .int .i64 0], .int .i64 6]) (results_addr2 rfl _ _ bk _ _ _ rfl rfl h1) rfl ⟨rfl, cut HO.out h2 (fun k e => by rw [e]; exact Nat.le_of_eq HBK.out)⟩
theorem nil_choice (i : Int) (w : World) : Calls Try.prog 23 #[.pointer none, .int .i64 i] w fun e w' => e = .returned (.tuple #[.agg #[.int .i64 0, .slice none 0 0, .int .i64 0, .int .i64 0, .int .i64 0, .int .i64 0, .int .i64 0, .int .i64 0, .int .i64 0], .bool false]) ∧ Only (fun _ => False) w w' := by
  obtain ⟨E, hE⟩ : ∃ E, E = w.alloc (.cells #[.int .i64 0, .slice none 0 0, .int .i64 0, .int .i64 0, .int .i64 0, .int .i64 0, .int .i64 0, .int .i64 0, .int .i64 0] 34) := ⟨_, rfl⟩
  have HO : Hid (Only (fun _ => False) w E) := Lib.hid (by rw [hE]; exact Only.alloc _ _ _)
  have HZ : Hid (Nine w.heap.size (.int .i64 0) (.slice none 0 0) (.int .i64 0) (.int .i64 0) (.int .i64 0) (.int .i64 0) (.int .i64 0) (.int .i64 0) (.int .i64 0) E) := Lib.hid ⟨by rw [hE]; exact heap_alloc_new w _⟩
  have HD := Lib.hid (nil_depth E)
  obtain ⟨d0, d1, d2, d3, d4, d5, d6, d7, d8⟩ := HZ.out.cells
  have f0 := HZ.out.fz 0
  have f1 := HZ.out.fz 1
  have f2 := HZ.out.fz 2
  have f3 := HZ.out.fz 3
  have f4 := HZ.out.fz 4
  have f5 := HZ.out.fz 5
  have f6 := HZ.out.fz 6
  have f7 := HZ.out.fz 7
  have f8 := HZ.out.fz 8
  by_cases h0 : i < 0
  · go_enter Try.func23, Try.ntmps23
    go_upto_region 1 with fail
    rw [← hE]
    clear hE
    generalize hbk : w.heap.size = bk at *
    have HB := Lib.hid hbk
    clear hbk
    go_wp2_with fail
    obtain ⟨h1, h2⟩ := HZ.out.set (.int .i64 0) (.slice none 0 0) (.int .i64 0) (.int .i64 0) (.int .i64 0) (.int .i64 0) (.int .i64 0) (.int .i64 0) (.int .i64 0)
    exact bodyPost_ret (v := .tuple #[.agg #[.int .i64 0, .slice none 0 0, .int .i64 0, .int .i64 0, .int .i64 0, .int .i64 0, .int .i64 0, .int .i64 0, .int .i64 0], .bool false]) (results_cho2 rfl _ _ bk _ _ _ _ _ _ _ _ _ _ rfl rfl h1) rfl ⟨rfl, cut HO.out h2 (fun k e => by rw [e]; exact Nat.le_of_eq HB.out)⟩
  · have hge : decide ((0 : Int) ≤ i) = true := decide_eq_true (by omega)
    have hge0 : (0 : Int) ≤ i := by omega
    go_enter Try.func23, Try.ntmps23
    go_upto_region 1 with fail
    rw [← hE]
    clear hE
    generalize hbk : w.heap.size = bk at *
    have HB := Lib.hid hbk
    clear hbk
    go_wp2_with fail
    refine HD.out.mono ?_
    rintro e u ⟨rfl, hu⟩
    obtain rfl : E = u := hu.symm
    go_wp2_with fail
    obtain ⟨h1, h2⟩ := HZ.out.set (.int .i64 0) (.slice none 0 0) (.int .i64 0) (.int .i64 0) (.int .i64 0) (.int .i64 0) (.int .i64 0) (.int .i64 0) (.int .i64 0)
    exact bodyPost_ret (v := .tuple #[.agg #[.int .i64 0, .slice none 0 0, .int .i64 0, .int .i64 0, .int .i64 0, .int .i64 0, .int .i64 0, .int .i64 0, .int .i64 0], .bool false]) (results_cho2 rfl _ _ bk _ _ _ _ _ _ _ _ _ _ rfl rfl h1) rfl ⟨rfl, cut HO.out h2 (fun k e => by rw [e]; exact Nat.le_of_eq HB.out)⟩
theorem nil_last (w : World) : Calls Try.prog 22 #[.pointer none] w fun e w' => e = .returned (.tuple #[.agg #[.int .i64 0, .slice none 0 0, .int .i64 0, .int .i64 0, .int .i64 0, .int .i64 0, .int .i64 0, .int .i64 0, .int .i64 0], .bool false]) ∧ Only (fun _ => False) w w' := by
  obtain ⟨E, hE⟩ : ∃ E, E = w.alloc (.cells #[.int .i64 0, .slice none 0 0, .int .i64 0, .int .i64 0, .int .i64 0, .int .i64 0, .int .i64 0, .int .i64 0, .int .i64 0] 34) := ⟨_, rfl⟩
  have HO : Hid (Only (fun _ => False) w E) := Lib.hid (by rw [hE]; exact Only.alloc _ _ _)
  have HZ : Hid (Nine w.heap.size (.int .i64 0) (.slice none 0 0) (.int .i64 0) (.int .i64 0) (.int .i64 0) (.int .i64 0) (.int .i64 0) (.int .i64 0) (.int .i64 0) E) := Lib.hid ⟨by rw [hE]; exact heap_alloc_new w _⟩
  have HD := Lib.hid (nil_depth E)
  have HCH := Lib.hid (nil_choice (-1) E)
  go_enter Try.func22, Try.ntmps22
  go_upto_region 1 with fail
  rw [← hE]
  clear hE
  generalize hbk : w.heap.size = bk at *
  have HB := Lib.hid hbk
  clear hbk
  go_wp2_with fail
  refine HD.out.mono ?_
  rintro e u ⟨rfl, hu⟩
  obtain rfl : E = u := hu.symm
  go_wp2_with fail
  refine HCH.out.mono ?_
  rintro e w2 ⟨rfl, ho⟩
  have HO2 := Lib.hid ho
  have HZ2 := Lib.hid (HZ.out.only ho (fun e => e))
  clear ho
  obtain ⟨d0, d1, d2, d3, d4, d5, d6, d7, d8⟩ := HZ2.out.cells
  have f0 := HZ2.out.fz 0
  have f1 := HZ2.out.fz 1
  have f2 := HZ2.out.fz 2
  have f3 := HZ2.out.fz 3
  have f4 := HZ2.out.fz 4
  have f5 := HZ2.out.fz 5
  have f6 := HZ2.out.fz 6
  have f7 := HZ2.out.fz 7
  have f8 := HZ2.out.fz 8
  go_wp2_with fail
  obtain ⟨h1, h2⟩ := HZ2.out.set (.int .i64 0) (.slice none 0 0) (.int .i64 0) (.int .i64 0) (.int .i64 0) (.int .i64 0) (.int .i64 0) (.int .i64 0) (.int .i64 0)
  exact bodyPost_ret (v := .tuple #[.agg #[.int .i64 0, .slice none 0 0, .int .i64 0, .int .i64 0, .int .i64 0, .int .i64 0, .int .i64 0, .int .i64 0, .int .i64 0], .bool false]) (results_cho2 rfl _ _ bk _ _ _ _ _ _ _ _ _ _ rfl rfl h1) rfl ⟨rfl, cut (HO.out.same HO2.out) h2 (fun k e => by rw [e]; exact Nat.le_of_eq HB.out)⟩
/-- A call's box. -/
structure OpB (b : Nat) (k n x c0 c1 : Int) (y0 : Int) (yo : Option Addr) (yn yc : Nat) (y2 y3 y4 y5 y6 y7 y8 : Int) (w W : World) : Prop where
  blk : W.heap[b]? = some (.cells #[.int .i64 k, .int .i64 n, .int .u64 x, .int .i64 c0, .int .i64 c1, .int .i64 y0, .slice yo yn yc, .int .i64 y2, .int .i64 y3, .int .i64 y4, .int .i64 y5, .int .i64 y6, .int .i64 y7, .int .i64 y8] 37 (0, 0))
  o : Only (fun _ => False) w W
section
variable {b : Nat} {k n x c0 c1 y0 y2 y3 y4 y5 y6 y7 y8 : Int} {yo : Option Addr} {yn yc : Nat} {w W W' : World}
theorem OpB.later (h : OpB b k n x c0 c1 y0 yo yn yc y2 y3 y4 y5 y6 y7 y8 w W) (ho : Only (fun _ => False) W W') : OpB b k n x c0 c1 y0 yo yn yc y2 y3 y4 y5 y6 y7 y8 w W' :=
  ⟨by rw [ho.block b (lt_of_block h.blk) (fun e => e)]; exact h.blk, h.o.same ho⟩
theorem OpB.front (h : OpB b k n x c0 c1 y0 yo yn yc y2 y3 y4 y5 y6 y7 y8 w W) : W.cell? ⟨b, 0, none⟩ = some (.int .i64 k) ∧ W.cell? ⟨b, 1, none⟩ = some (.int .i64 n) ∧ W.cell? ⟨b, 2, none⟩ = some (.int .u64 x) ∧ W.cell? ⟨b, 3, none⟩ = some (.int .i64 c0) ∧ W.cell? ⟨b, 4, none⟩ = some (.int .i64 c1) := by
  refine ⟨?_, ?_, ?_, ?_, ?_⟩ <;> (rw [cell_of_blk h.blk]; rfl)
theorem OpB.back (h : OpB b k n x c0 c1 y0 yo yn yc y2 y3 y4 y5 y6 y7 y8 w W) : W.cell? ⟨b, 5, none⟩ = some (.int .i64 y0) ∧ W.cell? ⟨b, 6, none⟩ = some (.slice yo yn yc) ∧ W.cell? ⟨b, 7, none⟩ = some (.int .i64 y2) ∧ W.cell? ⟨b, 8, none⟩ = some (.int .i64 y3) ∧ W.cell? ⟨b, 9, none⟩ = some (.int .i64 y4) ∧ W.cell? ⟨b, 10, none⟩ = some (.int .i64 y5) ∧ W.cell? ⟨b, 11, none⟩ = some (.int .i64 y6) ∧ W.cell? ⟨b, 12, none⟩ = some (.int .i64 y7) ∧ W.cell? ⟨b, 13, none⟩ = some (.int .i64 y8) := by
  refine ⟨?_, ?_, ?_, ?_, ?_, ?_, ?_, ?_, ?_⟩ <;> (rw [cell_of_blk h.blk]; rfl)
end
set_option maxHeartbeats 16000000 in
theorem law_nobody (k n x c0 c1 y0 : Int) (yo : Option Addr) (yn yc : Nat) (y2 y3 y4 y5 y6 y7 y8 : Int) (w : World) : Calls Try.prog 5 #[.agg #[.int .i64 k, .int .i64 n, .int .u64 x, .int .i64 c0, .int .i64 c1, .int .i64 y0, .slice yo yn yc, .int .i64 y2, .int .i64 y3, .int .i64 y4, .int .i64 y5, .int .i64 y6, .int .i64 y7, .int .i64 y8]] w fun e w' => e = .returned (.bool true) ∧ Below w.heap.size w w' := by
  obtain ⟨E, hE⟩ : ∃ E, E = w.alloc (.cells #[.int .i64 k, .int .i64 n, .int .u64 x, .int .i64 c0, .int .i64 c1, .int .i64 y0, .slice yo yn yc, .int .i64 y2, .int .i64 y3, .int .i64 y4, .int .i64 y5, .int .i64 y6, .int .i64 y7, .int .i64 y8] 37) := ⟨_, rfl⟩
  have H0 : Hid (OpB w.heap.size k n x c0 c1 y0 yo yn yc y2 y3 y4 y5 y6 y7 y8 w E) := Lib.hid ⟨by rw [hE]; exact heap_alloc_new _ _, by rw [hE]; exact Only.alloc _ _ _⟩
  go_enter Try.func5, Try.ntmps5
  go_upto_region 2 with fail
  rw [← hE]
  clear hE
  generalize w.heap.size = bk at *
  go_wp2_with fail
  refine (nil_dealloc _).mono ?_
  rintro e w1 ⟨rfl, ho⟩
  obtain ⟨W2, hW2⟩ : ∃ E, E = w1.alloc (.cells #[.int .i64 0, .int .i64 0] 32) := ⟨_, rfl⟩
  have H2 : Hid (OpB bk k n x c0 c1 y0 yo yn yc y2 y3 y4 y5 y6 y7 y8 w W2) := Lib.hid (by rw [hW2]; exact (H0.out.later ho).later (Only.alloc _ _ _))
  clear ho
  go_upto_region 3 with fail
  rw [← hW2]
  clear hW2
  obtain ⟨d0, d1, d2, d3, d4⟩ := H2.out.front
  go_wp2_with fail
  refine (nil_get n _).mono ?_
  rintro e u ⟨rfl, hu⟩
  obtain rfl : W2 = u := hu.symm
  go_wp2_with fail
  refine (nil_last _).mono ?_
  rintro e w3 ⟨rfl, ho⟩
  obtain ⟨W4, hW4⟩ : ∃ E, E = w3.alloc (.cells #[.int .i64 0, .slice none 0 0, .int .i64 0, .int .i64 0, .int .i64 0, .int .i64 0, .int .i64 0, .int .i64 0, .int .i64 0] 34) := ⟨_, rfl⟩
  have H4 : Hid (OpB bk k n x c0 c1 y0 yo yn yc y2 y3 y4 y5 y6 y7 y8 w W4) := Lib.hid (by rw [hW4]; exact (H2.out.later ho).later (Only.alloc _ _ _))
  clear ho d0 d1 d2 d3 d4
  go_upto_region 5 with fail
  rw [← hW4]
  clear hW4
  obtain ⟨d0, d1, d2, d3, d4⟩ := H4.out.front
  go_wp2_with fail
  refine (nil_choice n _).mono ?_
  rintro e w5 ⟨rfl, ho⟩
  obtain ⟨W6, hW6⟩ : ∃ E, E = w5.alloc (.cells #[.int .i64 0, .slice none 0 0, .int .i64 0, .int .i64 0, .int .i64 0, .int .i64 0, .int .i64 0, .int .i64 0, .int .i64 0] 34) := ⟨_, rfl⟩
  have H6 : Hid (OpB bk k n x c0 c1 y0 yo yn yc y2 y3 y4 y5 y6 y7 y8 w W6) := Lib.hid (by rw [hW6]; exact (H4.out.later ho).later (Only.alloc _ _ _))
  clear ho d0 d1 d2 d3 d4
  go_upto_region 6 with fail
  rw [← hW6]
  clear hW6
  go_wp2_with fail
  refine (nil_change _ _).mono ?_
  rintro e w7 ⟨rfl, ho⟩
  have H7 := Lib.hid (H6.out.later ho)
  clear ho
  go_wp2_with fail
  refine (lives_any _).mono ?_
  rintro e w8 ⟨rfl, ho⟩
  have H8 := Lib.hid (H7.out.later ho)
  clear ho
  obtain ⟨d0, d1, d2, d3, d4⟩ := H8.out.front
  go_wp2_with fail
  refine (nil_alloc n c0 c1 _).mono ?_
  rintro e w9 ⟨rfl, ho⟩
  have H9 := Lib.hid (H8.out.later ho)
  clear ho d0 d1 d2 d3 d4
  obtain ⟨d0, d1, d2, d3, d4⟩ := H9.out.front
  go_wp2_with fail
  refine (nil_set n x _).mono ?_
  rintro e u ⟨rfl, hu⟩
  obtain rfl : w9 = u := hu.symm
  go_wp2_with fail
  refine (nil_trim n _).mono ?_
  rintro e w10 ⟨rfl, ho⟩
  have H10 := Lib.hid (H9.out.later ho)
  clear ho d0 d1 d2 d3 d4
  obtain ⟨d0, d1, d2, d3, d4⟩ := H10.out.front
  obtain ⟨e0, e1, e2, e3, e4, e5, e6, e7, e8⟩ := H10.out.back
  go_wp2_with fail
  refine (nil_slots _).mono ?_
  rintro e u ⟨rfl, hu⟩
  obtain rfl : w10 = u := hu.symm
  go_wp2_with fail
  refine (nil_env _).mono ?_
  rintro e u ⟨rfl, hu⟩
  obtain rfl : w10 = u := hu.symm
  go_wp2_with fail
  refine (nil_push _ _ _ _ _ _ _ _ _ _).mono ?_
  rintro e w11 ⟨rfl, ho⟩
  have H11 := Lib.hid (H10.out.later ho)
  clear ho d0 d1 d2 d3 d4 e0 e1 e2 e3 e4 e5 e6 e7 e8
  obtain ⟨d0, d1, d2, d3, d4⟩ := H11.out.front
  go_wp2_with fail
  refine (nil_turn n _).mono ?_
  rintro e w12 ⟨rfl, ho⟩
  have H12 := Lib.hid (H11.out.later ho)
  clear ho d0 d1 d2 d3 d4
  go_wp2_with fail
  refine (nil_drop _).mono ?_
  rintro e w13 ⟨rfl, ho⟩
  have H13 := Lib.hid (H12.out.later ho)
  clear ho
  go_wp2_with fail
  refine (nil_restore _).mono ?_
  rintro e w14 ⟨rfl, ho⟩
  have H14 := Lib.hid (H13.out.later ho)
  clear ho
  go_wp2_with fail
  refine (nil_depth _).mono ?_
  rintro e u ⟨rfl, hu⟩
  obtain rfl : w14 = u := hu.symm
  obtain ⟨d0, d1, d2, d3, d4⟩ := H14.out.front
  go_wp2_with fail
  refine (nil_chain n _).mono ?_
  rintro e u ⟨rfl, hu⟩
  obtain rfl : w14 = u := hu.symm
  go_wp2_with fail
  go_ret
  exact ⟨rfl, H14.out.o.to_below⟩
end Go.Proofs.Ythfilpacmllhpaa.stk
