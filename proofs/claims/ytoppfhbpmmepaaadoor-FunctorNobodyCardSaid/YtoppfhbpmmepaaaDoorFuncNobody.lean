/- The law FunctorNobody, walked. -/
import Derived.Test.YtoppfhbpmmepaaaDoorFunc22
namespace Go.Proofs.YtoppfhbpmmepaaaDoor.functors
open Go.RowKit Go.Proofs.YtoppfhbpmmepaaaDoor.own Go.Maps
set_option maxRecDepth 100000 in
set_option maxHeartbeats 4000000 in
theorem law_nobody (k : Int) (n : ByteArray) (x : Int) (w : World) (hL : atoms.Listed w) : Calls Tryd.prog 5 #[.agg #[.int .i64 k, .string n, .int .i64 x]] w fun e w' => e = .returned (.bool true) ∧ Below w.heap.size w w' := by
  have HL := Lib.hid hL
  have hnot := Go.Proofs.YtoppfhbpmmepaaaDoor.atoms.run_not
  clear hL
  go_enter Tryd.func5, Tryd.ntmps5
  go_wp2_with fail
  have o1 : Only (fun _ => False) w (w.alloc (.cells #[.int .i64 k, .string n, .int .i64 x] 36)) := Only.alloc _ _ _
  have O1 := Lib.hid o1
  have HB := Lib.hid (heap_alloc_new w (.cells #[.int .i64 k, .string n, .int .i64 x] 36))
  generalize hob : w.heap.size = ob at *
  have HOB := Lib.hid hob
  generalize w.alloc (.cells #[.int .i64 k, .string n, .int .i64 x] 36) = wc at *
  have e1 : wc.cell? ⟨ob, 1, none⟩ = some (.string n) := by rw [cell_of_blk HB.out]; rfl
  have e2 : wc.cell? ⟨ob, 2, none⟩ = some (.int .i64 x) := by rw [cell_of_blk HB.out]; rfl
  have HL1 := Lib.hid (HL.out.only o1 (fun e => e))
  clear o1 hob
  refine (nil_put n x _).mono ?_
  rintro e wd ⟨rfl, rfl⟩
  go_wp2_with fail
  refine (nil_find n x _).mono ?_
  rintro e wd ⟨rfl, rfl⟩
  go_wp2_with fail
  refine (nil_get x _).mono ?_
  rintro e wd ⟨rfl, rfl⟩
  go_wp2_with fail
  refine (lives_any _ HL1.out).mono ?_
  rintro e wd ⟨rfl, bd⟩
  have BD := Lib.hid bd
  have hlt : ob < wc.heap.size := lt_of_block HB.out
  have e2' : wd.cell? ⟨ob, 2, none⟩ = some (.int .i64 x) := (bd.cell (p := ⟨ob, 2, none⟩) hlt).trans e2
  clear bd e1 e2
  go_wp2_with fail
  refine (nil_len _).mono ?_
  rintro e we ⟨rfl, rfl⟩
  go_wp2_with fail
  refine (nil_slots _).mono ?_
  rintro e we ⟨rfl, rfl⟩
  go_wp2_with fail
  refine (nil_mark x _).mono ?_
  rintro e we ⟨rfl, rfl⟩
  go_wp2_with fail
  refine (nil_sweep _).mono ?_
  rintro e we ⟨rfl, rfl⟩
  go_wp2_with fail
  refine (nil_atoms _).mono ?_
  rintro e we ⟨rfl, rfl⟩
  go_wp2_with fail
  go_ret
  have h1 := O1.out.to_below
  refine ⟨rfl, ?_⟩
  exact h1.trans (BD.out.mono h1.size)
end Go.Proofs.YtoppfhbpmmepaaaDoor.functors
