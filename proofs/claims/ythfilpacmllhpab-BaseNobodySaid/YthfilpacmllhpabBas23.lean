/- Clauses by generations: the law of a nil base. -/
import Derived.Test.YthfilpacmllhpabBas22
namespace Go.Proofs.Ythfilpacmllhpab.bases
set_option maxRecDepth 100000
open Go.RowKit Go.Proofs.Ythfilpacmllhpab.own Go.Lib Go.Maps Go.WideMaps Go.Proofs.Ythfilpacmllhpab.idx Go.Proofs.Ythfilpacmllhpab.terms
/-- A call's box. -/
structure OpB (b : Nat) (k : Int) (y0 y1 y2 y3 y4 y5 c : Value) (f : Bool) (n kk : Int) (ks : ByteArray) (kn g : Int) (w W : World) : Prop where
  blk : W.heap[b]? = some (.cells #[.int .i64 k, y0, y1, y2, y3, y4, y5, c, .bool f, .int .i64 n, .int .i64 kk, .string ks, .int .i64 kn, .int .i64 g] 39 (0, 0))
  o : Only (fun _ => False) w W
section
variable {b : Nat} {k : Int} {y0 y1 y2 y3 y4 y5 c : Value} {f : Bool} {n kk : Int} {ks : ByteArray} {kn g : Int} {w W W' : World}
theorem OpB.later (h : OpB b k y0 y1 y2 y3 y4 y5 c f n kk ks kn g w W) (ho : Only (fun _ => False) W W') : OpB b k y0 y1 y2 y3 y4 y5 c f n kk ks kn g w W' :=
  ⟨by rw [ho.block b (lt_of_block h.blk) (fun e => e)]; exact h.blk, h.o.same ho⟩
theorem OpB.cells (h : OpB b k y0 y1 y2 y3 y4 y5 c f n kk ks kn g w W) : W.cell? ⟨b, 1, none⟩ = some y0 ∧ W.cell? ⟨b, 2, none⟩ = some y1 ∧ W.cell? ⟨b, 3, none⟩ = some y2 ∧ W.cell? ⟨b, 4, none⟩ = some y3 ∧ W.cell? ⟨b, 5, none⟩ = some y4 ∧ W.cell? ⟨b, 6, none⟩ = some y5 ∧ W.cell? ⟨b, 7, none⟩ = some c ∧ W.cell? ⟨b, 8, none⟩ = some (.bool f) := by
  refine ⟨?_, ?_, ?_, ?_, ?_, ?_, ?_, ?_⟩ <;> (rw [cell_of_blk h.blk]; rfl)
theorem OpB.keys (h : OpB b k y0 y1 y2 y3 y4 y5 c f n kk ks kn g w W) : W.cell? ⟨b, 9, none⟩ = some (.int .i64 n) ∧ W.cell? ⟨b, 10, none⟩ = some (.int .i64 kk) ∧ W.cell? ⟨b, 11, none⟩ = some (.string ks) ∧ W.cell? ⟨b, 12, none⟩ = some (.int .i64 kn) ∧ W.cell? ⟨b, 13, none⟩ = some (.int .i64 g) := by
  refine ⟨?_, ?_, ?_, ?_, ?_⟩ <;> (rw [cell_of_blk h.blk]; rfl)
end
theorem clause_nil2 (i : Int) (w : World) : Calls Try.prog 17 #[.pointer none, .int .i64 i] w fun e w' => e = .returned (.tuple #[.agg #[.int .i64 0, .int .i64 0, .string ⟨#[]⟩, .slice none 0 0, .slice none 0 0, .int .i64 0], .int .i64 6]) ∧ Only (fun _ => False) w w' := clause_nil i w
set_option maxHeartbeats 16000000 in
theorem law_nobody (k : Int) (y0 y1 y2 y3 y4 y5 c : Value) (f : Bool) (n kk : Int) (ks : ByteArray) (kn g : Int) (w : World) : Calls Try.prog 4 #[.agg #[.int .i64 k, y0, y1, y2, y3, y4, y5, c, .bool f, .int .i64 n, .int .i64 kk, .string ks, .int .i64 kn, .int .i64 g]] w fun e w' => e = .returned (.bool true) ∧ Below w.heap.size w w' := by
  obtain ⟨E, hE⟩ : ∃ E, E = w.alloc (.cells #[.int .i64 k, y0, y1, y2, y3, y4, y5, c, .bool f, .int .i64 n, .int .i64 kk, .string ks, .int .i64 kn, .int .i64 g] 39) := ⟨_, rfl⟩
  have H0 : Hid (OpB w.heap.size k y0 y1 y2 y3 y4 y5 c f n kk ks kn g w E) := Lib.hid ⟨by rw [hE]; exact heap_alloc_new _ _, by rw [hE]; exact Only.alloc _ _ _⟩
  obtain ⟨c0, c1, c2, c3, c4, c5, c6, c7⟩ := H0.out.cells
  go_enter Try.func4, Try.ntmps4
  go_upto_region 2 with fail
  rw [← hE]
  clear hE
  generalize w.heap.size = bk at *
  go_wp2_with fail
  refine (add_nil y0 y1 y2 y3 y4 y5 c (.bool f) _).mono ?_
  rintro e w1 ⟨rfl, ho⟩
  have H1 := Lib.hid (H0.out.later ho)
  clear c0 c1 c2 c3 c4 c5 c6 c7 ho
  obtain ⟨d0, d1, d2, d3, d4⟩ := H1.out.keys
  go_wp2_with fail
  refine (head_nil _ n kk kn g ks _).mono ?_
  rintro e w2 ⟨rfl, ho⟩
  have H2 := Lib.hid (H1.out.later ho)
  clear d0 d1 d2 d3 d4 ho
  obtain ⟨d0, d1, d2, d3, d4⟩ := H2.out.keys
  go_wp2_with fail
  refine (next_nil n kk kn g ks _).mono ?_
  rintro e w3 ⟨rfl, ho⟩
  have H3 := Lib.hid (H2.out.later ho)
  clear d0 d1 d2 d3 d4 ho
  obtain ⟨d0, _, _, _, d4⟩ := H3.out.keys
  go_wp2_with fail
  refine (clause_nil2 n _).mono ?_
  rintro e w4 ⟨rfl, ho⟩
  obtain ⟨W5, hW5⟩ : ∃ W5, W5 = w4.alloc (.cells #[.int .i64 0, .int .i64 0, .string ⟨#[]⟩, .slice none 0 0, .slice none 0 0, .int .i64 0] 34) := ⟨_, rfl⟩
  have H5 : Hid (OpB bk k y0 y1 y2 y3 y4 y5 c f n kk ks kn g w W5) := Lib.hid (by rw [hW5]; exact (H3.out.later ho).later (Only.alloc _ _ _))
  clear d0 d4 ho
  go_upto_region 6 with fail
  rw [← hW5]
  clear hW5
  obtain ⟨d0, _, _, _, d4⟩ := H5.out.keys
  go_wp2_with fail
  refine (code_nil n _).mono ?_
  rintro e w6 ⟨rfl, hu⟩
  obtain rfl : W5 = w6 := hu.symm
  go_wp2_with fail
  refine (at_nil n g _).mono ?_
  rintro e w7 ⟨rfl, ho⟩
  obtain ⟨W8, hW8⟩ : ∃ W8, W8 = w7.alloc (.cells #[.int .i64 0, .string ⟨#[]⟩, .int .i64 0, .int .i64 0, .int .i64 0] 61) := ⟨_, rfl⟩
  have H8 : Hid (OpB bk k y0 y1 y2 y3 y4 y5 c f n kk ks kn g w W8) := Lib.hid (by rw [hW8]; exact (H5.out.later ho).later (Only.alloc _ _ _))
  clear d0 d4 ho
  go_upto_region 8 with fail
  rw [← hW8]
  clear hW8
  go_wp2_with fail
  refine (lives_any _).mono ?_
  rintro e w9 ⟨rfl, ho⟩
  have H9 := Lib.hid (H8.out.later ho)
  clear ho
  obtain ⟨d0, _, _, _, d4⟩ := H9.out.keys
  go_wp2_with fail
  refine (kill_nil n _).mono ?_
  rintro e u ⟨rfl, hu⟩
  obtain rfl : w9 = u := hu.symm
  go_wp2_with fail
  refine (gen_nil _).mono ?_
  rintro e u ⟨rfl, hu⟩
  obtain rfl : w9 = u := hu.symm
  go_wp2_with fail
  refine (lives_nil n g _).mono ?_
  rintro e u ⟨rfl, hu⟩
  obtain rfl : w9 = u := hu.symm
  go_wp2_with fail
  refine (known_nil _ n _).mono ?_
  rintro e u ⟨rfl, hu⟩
  obtain rfl : w9 = u := hu.symm
  go_wp2_with fail
  refine (size_nil n _).mono ?_
  rintro e u ⟨rfl, hu⟩
  obtain rfl : w9 = u := hu.symm
  go_wp2_with fail
  refine (preds_nil _).mono ?_
  rintro e u ⟨rfl, hu⟩
  obtain rfl : w9 = u := hu.symm
  go_wp2_with fail
  refine (slots_nil _).mono ?_
  rintro e u ⟨rfl, hu⟩
  obtain rfl : w9 = u := hu.symm
  go_wp2_with fail
  refine (reclaim_nil _ _).mono ?_
  rintro e u ⟨rfl, hu⟩
  obtain rfl : w9 = u := hu.symm
  go_wp2_with fail
  go_ret
  exact ⟨rfl, H9.out.o.to_below⟩
end Go.Proofs.Ythfilpacmllhpab.bases
