/- Functors: what must come of every program. -/
import Derived.Test.YtoppfhbpmmepaaaDoorFunc21
namespace Go.Proofs.YtoppfhbpmmepaaaDoor.functors
open Go.RowKit Go.Proofs.YtoppfhbpmmepaaaDoor.own Go.Maps
def nF : ByteArray := ⟨#[102]⟩
def al1 : List atoms.ASlot := atoms.firstS 15 ++ [⟨nF, true, false⟩]
def k2 : FKey := ⟨15, 2, by decide⟩
def k3 : FKey := ⟨15, 3, by decide⟩
def sl1 : List FSlot := [⟨k2, true, false⟩]
def sl2 : List FSlot := [⟨k2, true, false⟩, ⟨k3, true, false⟩]
def sl3 : List FSlot := [⟨k2, true, false⟩, ⟨k3, true, true⟩]
def sl4 : List FSlot := [freeSlot, ⟨k3, true, false⟩]
theorem j1 : putR 30 0 (atoms.firstS 15) 5 [] nF 2 = ⟨0, 0, 1, al1, sl1⟩ := by kernel_rfl
theorem j2 : putR 30 1 al1 5 sl1 nF 3 = ⟨1, 0, 1, al1, sl2⟩ := by kernel_rfl
theorem j3 : getR al1 sl2 1 = (nF, 3, 0) := by kernel_rfl
theorem j4 : fres al1 sl2 nF 2 = (0, true) := by kernel_rfl
theorem j5 : putR 30 1 al1 5 sl2 nF 0 = ⟨0, 1, 1, al1, sl2⟩ := by kernel_rfl
theorem j6 : markF sl2 1 = sl3 := by kernel_rfl
theorem j6e : errF sl2 1 = 0 := by kernel_rfl
theorem j7 : sweepF sl3 = sl4 := by kernel_rfl
theorem j7u : ((used sl3 : Int) - (used sl4 : Int)) = 1 := by kernel_rfl
theorem j8 : (used sl4 : Int) = 1 := by kernel_rfl
theorem j9 : (sl4.length : Int) = 2 := by kernel_rfl
set_option maxRecDepth 100000 in
set_option maxHeartbeats 4000000 in
theorem lives_any (w : World) (hL : atoms.Listed w) : Calls Tryd.prog 9 #[] w fun e w' => e = .returned (.bool true) ∧ Below w.heap.size w w' := by
  have HL := Lib.hid hL
  have hnot := Go.Proofs.YtoppfhbpmmepaaaDoor.atoms.run_not
  clear hL
  go_enter Tryd.func9, Tryd.ntmps9
  go_wp2_with fail
  refine (atoms.new_yes 30 _ (by omega) (by omega)).mono ?_
  rintro e w1 ⟨rfl, t1⟩
  have T1 := Lib.hid (atoms.St.new HL.out t1 (by omega) (by omega))
  clear t1
  generalize hta : w.heap.size = ta at *
  have HTA := Lib.hid hta
  clear hta
  go_wp2_with fail
  refine (any_new T1.out (by omega) (by omega)).mono ?_
  rintro e w2 ⟨rfl, t2⟩
  have T2 := Lib.hid t2
  clear t2
  generalize w1.heap.size + 1 = b at *
  go_wp2_with fail
  refine (any_put nF 2 T2.out (by omega) (by omega) _ j1).mono ?_
  rintro e w3 ⟨rfl, t3⟩
  have T3 := Lib.hid t3
  clear t3
  go_wp2_with fail
  refine (any_put nF 3 T3.out (by decide) (by decide) _ j2).mono ?_
  rintro e w4 ⟨rfl, t4⟩
  have T4 := Lib.hid t4
  clear t4
  go_wp2_with fail
  refine (any_get 1 T4.out _ j3).mono ?_
  rintro e w5 ⟨rfl, t5⟩
  have T5 := Lib.hid t5
  clear t5
  go_wp2_with fail
  refine (any_find nF 2 T5.out (by decide) (by decide) _ j4).mono ?_
  rintro e w6 ⟨rfl, t6⟩
  have T6 := Lib.hid t6
  clear t6
  go_wp2_with fail
  refine (any_put nF 0 T6.out (by decide) (by decide) _ j5).mono ?_
  rintro e w7 ⟨rfl, t7⟩
  have T7 := Lib.hid t7
  clear t7
  go_wp2_with fail
  refine (any_mark 1 T7.out).mono ?_
  rintro e w8 ⟨rfl, t8⟩
  rw [j6] at t8
  rw [j6e]
  have T8 := Lib.hid t8
  clear t8
  go_wp2_with fail
  refine (any_sweep T8.out).mono ?_
  rintro e w9 ⟨rfl, t9⟩
  rw [j7] at t9 ⊢
  rw [j7u]
  have T9 := Lib.hid t9
  clear t9
  go_wp2_with fail
  refine (new_nil 5 _).mono ?_
  rintro e w10 ⟨rfl, rfl⟩
  have hnf : nF = ⟨#[102]⟩ := rfl
  rw [hnf]
  go_wp2_with fail
  refine (any_len T9.out).mono ?_
  rintro e w10 ⟨rfl, rfl⟩
  rw [j8]
  go_wp2_with fail
  refine (any_slots T9.out).mono ?_
  rintro e w10 ⟨rfl, rfl⟩
  rw [j9]
  go_wp2_with fail
  refine (any_atoms T9.out).mono ?_
  rintro e w10 ⟨rfl, t10⟩
  rw [j8]
  have T10 := Lib.hid t10
  clear t10
  go_wp2_with fail
  go_ret
  refine ⟨rfl, ?_⟩
  exact T10.out.below
end Go.Proofs.YtoppfhbpmmepaaaDoor.functors
