/- Selection by keys: the law of a nil table. -/
import Derived.Test.YtbondghdbjmbfaaIdx23
namespace Go.Proofs.Ytbondghdbjmbfaa.idx
set_option maxRecDepth 100000
open Go.RowKit Go.Proofs.Ytbondghdbjmbfaa.own Go.Lib Go.Maps Go.WideMaps
/-- A call's box. -/
def Six (b : Nat) (kd i : Int) (k : Ky) (f : Bool) (w : World) : Prop := w.heap[b]? = some (.cells #[.int .i64 kd, .int .i64 i, .int .i64 k.k, .string k.s, .int .i64 k.n, .bool f] 40 (0, 0))
structure Sx (b : Nat) (kd i : Int) (k : Ky) (f : Bool) (w W : World) : Prop where
  s : Six b kd i k f W
  o : Only (fun _ => False) w W
theorem Sx.later {b : Nat} {kd i : Int} {k : Ky} {f : Bool} {w W W' : World} (h : Sx b kd i k f w W) (ho : Only (fun _ => False) W W') : Sx b kd i k f w W' := by
  refine ⟨?_, h.o.same ho⟩
  have hs := h.s
  unfold Six at *
  rw [ho.block b (lt_of_block hs) (fun e => e)]
  exact hs
theorem Sx.cells {b : Nat} {kd i : Int} {k : Ky} {f : Bool} {w W : World} (h : Sx b kd i k f w W) : W.cell? ⟨b, 1, none⟩ = some (.int .i64 i) ∧ W.cell? ⟨b, 2, none⟩ = some (.int .i64 k.k) ∧ W.cell? ⟨b, 3, none⟩ = some (.string k.s) ∧ W.cell? ⟨b, 4, none⟩ = some (.int .i64 k.n) ∧ W.cell? ⟨b, 5, none⟩ = some (.bool f) := by
  refine ⟨?_, ?_, ?_, ?_, ?_⟩ <;> (rw [cell_of_blk h.s]; rfl)
set_option maxHeartbeats 16000000 in
theorem law_nobody (kd i : Int) (k : Ky) (f : Bool) (w : World) : Calls Try.prog 7 #[.agg #[.int .i64 kd, .int .i64 i, .int .i64 k.k, .string k.s, .int .i64 k.n, .bool f]] w fun e w' => e = .returned (.bool true) ∧ Below w.heap.size w w' := by
  obtain ⟨E, hE⟩ : ∃ E, E = w.alloc (.cells #[.int .i64 kd, .int .i64 i, .int .i64 k.k, .string k.s, .int .i64 k.n, .bool f] 40) := ⟨_, rfl⟩
  have H0 : Hid (Sx w.heap.size kd i k f w E) := Lib.hid ⟨by unfold Six; rw [hE]; exact heap_alloc_new _ _, by rw [hE]; exact Only.alloc _ _ _⟩
  obtain ⟨c1, c2, c3, c4, c5⟩ := H0.out.cells
  go_enter Try.func7, Try.ntmps7
  go_upto_region 2 with fail
  rw [← hE]
  clear hE
  go_wp2_with fail
  refine (next_nil i k _).mono ?_
  rintro e w1 ⟨rfl, ho⟩
  have H1 := Lib.hid (H0.out.later ho)
  clear c1 c2 c3 c4 c5 ho
  obtain ⟨c1, c2, c3, c4, c5⟩ := H1.out.cells
  go_wp2_with fail
  refine (head_nil k _).mono ?_
  rintro e w2 ⟨rfl, ho⟩
  have H2 := Lib.hid (H1.out.later ho)
  clear c1 c2 c3 c4 c5 ho
  obtain ⟨c1, c2, c3, c4, c5⟩ := H2.out.cells
  go_wp2_with fail
  refine (lives_any _).mono ?_
  rintro e w3 ⟨rfl, ho⟩
  have H3 := Lib.hid (H2.out.later ho)
  clear c1 c2 c3 c4 c5 ho
  obtain ⟨c1, c2, c3, c4, c5⟩ := H3.out.cells
  go_wp2_with fail
  refine (add_nil i k f _).mono ?_
  rintro e w4 ⟨rfl, ho⟩
  have H4 := Lib.hid (H3.out.later ho)
  clear c1 c2 c3 c4 c5 ho
  obtain ⟨c1, c2, c3, c4, c5⟩ := H4.out.cells
  go_wp2_with fail
  refine (drop_nil i _).mono ?_
  rintro e w5 ⟨rfl, rfl⟩
  go_wp2_with fail
  refine (all_nil k _).mono ?_
  rintro e w5 ⟨rfl, ho⟩
  have H5 := Lib.hid (H4.out.later ho)
  clear c1 c2 c3 c4 c5 ho
  go_wp2_with fail
  refine (len_nil _).mono ?_
  rintro e w6 ⟨rfl, rfl⟩
  go_wp2_with fail
  go_ret
  exact ⟨rfl, H5.out.o.to_below⟩
end Go.Proofs.Ytbondghdbjmbfaa.idx
