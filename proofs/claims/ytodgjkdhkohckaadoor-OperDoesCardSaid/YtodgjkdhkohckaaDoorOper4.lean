/- Operators: the law OperNobody, once lives is there. -/
import Derived.Test.YtodgjkdhkohckaaDoorOper3
namespace Go.Proofs.YtodgjkdhkohckaaDoor.opers
open Go.RowKit Go.Proofs.YtodgjkdhkohckaaDoor.own Go.Maps
/-- What is asked of lives. -/
def Lives : Prop := ∀ w : World, Typed w → Calls Tryd.prog 10 #[] w fun e w' => e = .returned (.bool true) ∧ Only (fun _ => False) w w'
set_option maxRecDepth 100000 in
set_option maxHeartbeats 4000000 in
theorem law_nobody_of (LV : Lives) (c p k : Int) (n m : ByteArray) (w : World) (hT : Typed w) :
    Calls Tryd.prog 6 #[.agg #[.int .i64 c, .int .i64 p, .int .i64 k, .string n, .string m]] w fun e w' => e = .returned (.bool true) ∧ Below w.heap.size w w' := by
  have hb0 : (w.alloc (.cells #[.int .i64 c, .int .i64 p, .int .i64 k, .string n, .string m] 34)).heap[w.heap.size]? = some (.cells #[.int .i64 c, .int .i64 p, .int .i64 k, .string n, .string m] 34 (0, 0)) := heap_alloc_new _ _
  have HB : Hid (∀ W, Only (fun _ => False) (w.alloc (.cells #[.int .i64 c, .int .i64 p, .int .i64 k, .string n, .string m] 34)) W → W.cell? ⟨w.heap.size, 1, none⟩ = some (.int .i64 p) ∧ W.cell? ⟨w.heap.size, 2, none⟩ = some (.int .i64 k) ∧ W.cell? ⟨w.heap.size, 3, none⟩ = some (.string n) ∧ W.cell? ⟨w.heap.size, 4, none⟩ = some (.string m)) := Lib.hid (fun W ho => by
    have h := blk_later hb0 ho
    exact ⟨cell_of_blk h 1, cell_of_blk h 2, cell_of_blk h 3, cell_of_blk h 4⟩)
  have HT := Lib.hid hT
  have HLV := Lib.hid LV
  have HO0 : Hid (Only (fun _ => False) w (w.alloc (.cells #[.int .i64 c, .int .i64 p, .int .i64 k, .string n, .string m] 34))) := Lib.hid (Only.alloc _ _ _)
  obtain ⟨c1, c2, c3, c4⟩ := HB.out _ (Only.refl _ _)
  clear hb0 hT LV
  go_enter Tryd.func6, Tryd.ntmps6
  go_wp2_with fail
  generalize (w.alloc (.cells #[.int .i64 c, .int .i64 p, .int .i64 k, .string n, .string m] 34)) = w0 at *
  refine (infix_nil m _).mono ?_
  rintro e w1 ⟨rfl, ho1⟩
  have HO1 : Hid (Only (fun _ => False) w0 (w1.alloc (opC 0 0 ⟨#[]⟩))) := Lib.hid (ho1.same (Only.alloc _ _ _))
  clear c1 c2 c3 c4 ho1
  obtain ⟨c1, c2, c3, c4⟩ := HB.out _ HO1.out
  go_wp2_with fail
  refine (prefix_nil m _).mono ?_
  rintro e w2 ⟨rfl, ho2⟩
  have HO2 : Hid (Only (fun _ => False) w0 (w2.alloc (opC 0 0 ⟨#[]⟩))) := Lib.hid ((HO1.out.same ho2).same (Only.alloc _ _ _))
  clear c1 c2 c3 c4 ho2
  go_wp2_with fail
  refine (HLV.out _ (HT.out.later (HO0.out.same HO2.out))).mono ?_
  rintro e w3 ⟨rfl, ho3⟩
  have HO3 := Lib.hid (HO2.out.same ho3)
  clear ho3
  obtain ⟨c1, c2, c3, c4⟩ := HB.out _ HO3.out
  go_wp2_with fail
  refine (set_nil p k n _).mono ?_
  rintro e w4 ⟨rfl, ho4⟩
  have HO4 := Lib.hid (HO3.out.same ho4)
  clear c1 c2 c3 c4 ho4
  obtain ⟨c1, c2, c3, c4⟩ := HB.out _ HO4.out
  go_wp2_with fail
  refine (is_nil m _).mono ?_
  rintro e w5 ⟨rfl, ho5⟩
  have HO5 := Lib.hid (HO4.out.same ho5)
  clear c1 c2 c3 c4 ho5
  go_wp2_with fail
  refine (all_nil _).mono ?_
  rintro e w6 ⟨rfl, rfl⟩
  go_wp2_with fail
  refine (fork_nil _).mono ?_
  rintro e w7 ⟨rfl, rfl⟩
  go_wp2_with fail
  go_ret
  exact ⟨rfl, (HO0.out.same HO5.out).to_below⟩
end Go.Proofs.YtodgjkdhkohckaaDoor.opers
