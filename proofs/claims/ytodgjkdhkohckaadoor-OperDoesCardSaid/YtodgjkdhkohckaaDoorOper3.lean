/- Operators: what a table answers that is nil. -/
import Derived.Test.YtodgjkdhkohckaaDoorOper2
import Derived.Laws.ResultCell
namespace Go.Proofs.YtodgjkdhkohckaaDoor.opers
open Go.RowKit Go.Proofs.YtodgjkdhkohckaaDoor.own Go.Maps
set_option maxRecDepth 100000 in
theorem closed_nil (w : World) : Calls Tryd.prog 30 #[.pointer none] w fun e w' => e = .returned (.bool true) ∧ w' = w := by
  go_enter Tryd.func30, Tryd.ntmps30
  go_wp2_with fail
  go_ret
  exact ⟨rfl, rfl⟩
set_option maxRecDepth 100000 in
theorem all_nil (w : World) : Calls Tryd.prog 12 #[.pointer none] w fun e w' => e = .returned (.slice none 0 0) ∧ w' = w := by
  go_enter Tryd.func12, Tryd.ntmps12
  go_wp2_with fail
  refine (closed_nil _).mono ?_
  rintro e w1 ⟨rfl, rfl⟩
  go_wp2_with fail
  go_ret
  exact ⟨rfl, rfl⟩
set_option maxRecDepth 100000 in
theorem fork_nil (w : World) : Calls Tryd.prog 27 #[.pointer none] w fun e w' => e = .returned (.pointer none) ∧ w' = w := by
  go_enter Tryd.func27, Tryd.ntmps27
  go_wp2_with fail
  refine (closed_nil _).mono ?_
  rintro e w1 ⟨rfl, rfl⟩
  go_wp2_with fail
  go_ret
  exact ⟨rfl, rfl⟩
set_option maxRecDepth 100000 in
theorem set_nil (p k : Int) (n : ByteArray) (w : World) : Calls Tryd.prog 24 #[.pointer none, .agg #[.int .i64 p, .int .i64 k, .string n]] w fun e w' => e = .returned (.int .i64 6) ∧ Only (fun _ => False) w w' := by
  have HO : Hid (Only (fun _ => False) w (w.alloc (opC p k n))) := Lib.hid (Only.alloc _ _ _)
  go_enter Tryd.func24, Tryd.ntmps24
  go_wp2_with fail
  refine (closed_nil _).mono ?_
  rintro e w1 ⟨rfl, rfl⟩
  go_wp2_with fail
  go_ret
  exact ⟨rfl, HO.out⟩
/-- A result in a cell, and one in a slot. -/
theorem results_op_tmp {fn : Func} {p u : Tmp} (h : fn.results = #[.cell p 32, .tmp u]) (tmps : Array Value) (w : World) (b : Nat) (x0 x1 x2 x3 : Value) (ha : tmps.getD p undef = .pointer (some ⟨b, 0, none⟩)) (hu : tmps.getD u undef = x3) (h0 : w.cell? ⟨b, 0, none⟩ = some x0) (h1 : w.cell? ⟨b, 1, none⟩ = some x1) (h2 : w.cell? ⟨b, 2, none⟩ = some x2) :
    (results fn tmps).run Tryd.prog w = .ok (.tuple #[.agg #[x0, x1, x2], x3]) w := by
  rw [results_cell_tmp h, ha, hu]
  go_simp
/-- The three cells are stored. -/
abbrev opW (w : World) (b : Nat) (y0 y1 y2 : Value) : World := ((w.setCell ⟨b, 0, none⟩ y0).setCell ⟨b, 1, none⟩ y1).setCell ⟨b, 2, none⟩ y2
theorem OpAt.set {b : Nat} {p k : Int} {n : ByteArray} {w : World} (h : OpAt b p k n w) (p' k' : Int) (n' : ByteArray) : OpAt b p' k' n' (opW w b (.int .i64 p') (.int .i64 k') (.string n')) ∧ Only (· = b) w (opW w b (.int .i64 p') (.int .i64 k') (.string n')) := by
  refine ⟨?_, ?_⟩
  · have h1 := blk_set h 0 (.int .i64 p')
    have h2 := blk_set h1 1 (.int .i64 k')
    have h3 := blk_set h2 2 (.string n')
    unfold OpAt
    simpa using h3
  · have c : ∀ (w : World) (j : Nat) (y : Value), Only (· = b) w (w.setCell ⟨b, j, none⟩ y) := fun w j y => Only.setCell (S := (· = b)) w (p := ⟨b, j, none⟩) rfl y
    exact ((c _ _ _).same (c _ _ _)).same (c _ _ _)
theorem OpAt.free {b : Nat} {p k : Int} {n : ByteArray} {W : World} (h : OpAt b p k n W) : W.frozen? ⟨b, 0, none⟩ = false ∧ W.frozen? ⟨b, 1, none⟩ = false ∧ W.frozen? ⟨b, 2, none⟩ = false := ⟨free_of_blk h 0, free_of_blk h 1, free_of_blk h 2⟩
theorem Only.cut {S : Nat → Prop} {a b c : World} (h : Only (fun _ => False) a b) (h' : Only S b c) (hS : ∀ k, S k → a.heap.size ≤ k) : Only (fun _ => False) a c :=
  h.trans h' (fun k hk e => by have := hS k e; omega)
theorem nil_end (w : World) : OpAt w.heap.size 0 0 ⟨#[]⟩ (opW (w.alloc (opC 0 0 ⟨#[]⟩)) w.heap.size (.int .i64 0) (.int .i64 0) (.string ⟨#[]⟩)) ∧ Only (fun _ => False) w (opW (w.alloc (opC 0 0 ⟨#[]⟩)) w.heap.size (.int .i64 0) (.int .i64 0) (.string ⟨#[]⟩)) := by
  have h := (OpAt.new 0 0 ⟨#[]⟩ w).set 0 0 ⟨#[]⟩
  exact ⟨h.1, Only.cut (Only.alloc _ _ _) h.2 (fun k e => by omega)⟩
set_option maxRecDepth 100000 in
set_option maxHeartbeats 1000000 in
theorem infix_nil (n : ByteArray) (w : World) : Calls Tryd.prog 25 #[.pointer none, .string n] w fun e w' => e = .returned (.tuple #[.agg #[.int .i64 0, .int .i64 0, .string ⟨#[]⟩], .bool false]) ∧ Only (fun _ => False) w w' := by
  have HO : Hid (Only (fun _ => False) w (w.alloc (opC 0 0 ⟨#[]⟩))) := Lib.hid (Only.alloc _ _ _)
  have HB := Lib.hid (OpAt.new 0 0 ⟨#[]⟩ w)
  go_enter Tryd.func25, Tryd.ntmps25
  go_wp2_with fail
  refine (closed_nil _).mono ?_
  rintro e w1 ⟨rfl, rfl⟩
  obtain ⟨c0, c1, c2⟩ := HB.out.cells
  obtain ⟨f0, f1, f2⟩ := HB.out.free
  go_wp2_with fail
  have hc := HB.out.cells
  refine bodyPost_ret (v := .tuple #[.agg #[.int .i64 0, .int .i64 0, .string ⟨#[]⟩], .bool false]) (results_op_tmp rfl _ _ w.heap.size _ _ _ _ rfl rfl hc.1 hc.2.1 hc.2.2) rfl ?_
  exact ⟨rfl, HO.out⟩
set_option maxRecDepth 100000 in
set_option maxHeartbeats 1000000 in
theorem prefix_nil (n : ByteArray) (w : World) : Calls Tryd.prog 26 #[.pointer none, .string n] w fun e w' => e = .returned (.tuple #[.agg #[.int .i64 0, .int .i64 0, .string ⟨#[]⟩], .bool false]) ∧ Only (fun _ => False) w w' := by
  have HO : Hid (Only (fun _ => False) w (w.alloc (opC 0 0 ⟨#[]⟩))) := Lib.hid (Only.alloc _ _ _)
  have HB := Lib.hid (OpAt.new 0 0 ⟨#[]⟩ w)
  go_enter Tryd.func26, Tryd.ntmps26
  go_wp2_with fail
  refine (closed_nil _).mono ?_
  rintro e w1 ⟨rfl, rfl⟩
  obtain ⟨c0, c1, c2⟩ := HB.out.cells
  obtain ⟨f0, f1, f2⟩ := HB.out.free
  go_wp2_with fail
  have hc := HB.out.cells
  refine bodyPost_ret (v := .tuple #[.agg #[.int .i64 0, .int .i64 0, .string ⟨#[]⟩], .bool false]) (results_op_tmp rfl _ _ w.heap.size _ _ _ _ rfl rfl hc.1 hc.2.1 hc.2.2) rfl ?_
  exact ⟨rfl, HO.out⟩
set_option maxRecDepth 100000 in
set_option maxHeartbeats 1000000 in
theorem is_nil (n : ByteArray) (w : World) : Calls Tryd.prog 16 #[.pointer none, .string n] w fun e w' => e = .returned (.bool false) ∧ Only (fun _ => False) w w' := by
  go_enter Tryd.func16, Tryd.ntmps16
  go_wp2_with fail
  refine (infix_nil n _).mono ?_
  rintro e w1 ⟨rfl, ho1⟩
  have HO1 : Hid (Only (fun _ => False) w (w1.alloc (opC 0 0 ⟨#[]⟩))) := Lib.hid (ho1.same (Only.alloc _ _ _))
  go_wp2_with fail
  refine (prefix_nil n _).mono ?_
  rintro e w2 ⟨rfl, ho2⟩
  have HO2 : Hid (Only (fun _ => False) w (w2.alloc (opC 0 0 ⟨#[]⟩))) := Lib.hid ((HO1.out.same ho2).same (Only.alloc _ _ _))
  go_wp2_with fail
  go_ret
  exact ⟨rfl, HO2.out⟩
end Go.Proofs.YtodgjkdhkohckaaDoor.opers
