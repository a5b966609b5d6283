/- The law AtomNobody, walked. -/
import Derived.Test.YtfhijcdibigblaaDoorAtom9
namespace Go.Proofs.YtfhijcdibigblaaDoor.atoms
open Go.RowKit Go.Proofs.YtfhijcdibigblaaDoor.own Go.Maps

/-- The law's argument, through calls. -/
structure ArgN (n : ByteArray) (x : Int) (w wc : World) : Prop where
  below : Below w.heap.size w wc
  lt : w.heap.size < wc.heap.size
  e1 : wc.cell? ⟨w.heap.size, 1, none⟩ = some (.string n)
  e2 : wc.cell? ⟨w.heap.size, 2, none⟩ = some (.int .i64 x)
theorem ArgN.next {n : ByteArray} {x : Int} {w wc wd : World} (h : ArgN n x w wc) (b : Below wc.heap.size wc wd) : ArgN n x w wd :=
  ⟨h.below.trans (b.mono h.below.size), Nat.lt_of_lt_of_le h.lt b.size, (b.cell (p := ⟨w.heap.size, 1, none⟩) h.lt).trans h.e1, (b.cell (p := ⟨w.heap.size, 2, none⟩) h.lt).trans h.e2⟩

set_option maxRecDepth 100000 in
set_option maxHeartbeats 4000000 in
theorem law_nobody (k : Int) (n : ByteArray) (x : Int) (w : World) (hL : Listed w) : Calls Tryd.prog 6 #[.agg #[.int .i64 k, .string n, .int .i64 x]] w fun e w' => e = .returned (.bool true) ∧ Below w.heap.size w w' := by
  have HL := Lib.hid hL
  have hnot := run_not
  clear hL
  go_enter Tryd.func6, Tryd.ntmps6
  go_wp2_with fail
  have A : Hid (ArgN n x w (w.alloc (.cells #[.int .i64 k, .string n, .int .i64 x] 31))) := Lib.hid ⟨(Below.refl _ _).alloc (Nat.le_refl _) _, by simp, by simp, by simp⟩
  generalize w.alloc (.cells #[.int .i64 k, .string n, .int .i64 x] 31) = wc at *
  have e1 := A.out.e1
  have e2 := A.out.e2
  refine (nil_intern n _).mono ?_
  rintro e wd ⟨rfl, bd⟩
  have A' := Lib.hid (A.out.next bd)
  clear bd A e1 e2
  have A := A'
  clear A'
  have e1 := A.out.e1
  have e2 := A.out.e2
  go_wp2_with fail
  refine (nil_find n _).mono ?_
  rintro e wd ⟨rfl, bd⟩
  have A' := Lib.hid (A.out.next bd)
  clear bd A e1 e2
  have A := A'
  clear A'
  have e1 := A.out.e1
  have e2 := A.out.e2
  go_wp2_with fail
  refine (nil_name x _).mono ?_
  rintro e wd ⟨rfl, bd⟩
  have A' := Lib.hid (A.out.next bd)
  clear bd A e1 e2
  have A := A'
  clear A'
  have e1 := A.out.e1
  have e2 := A.out.e2
  go_wp2_with fail
  refine (lives_any _ (HL.out.only (Only.of_below A.out.below (fun _ => False)) (fun e => e))).mono ?_
  rintro e wd ⟨rfl, bd⟩
  have A' := Lib.hid (A.out.next bd)
  clear bd A e1 e2
  have A := A'
  clear A'
  have e1 := A.out.e1
  have e2 := A.out.e2
  go_wp2_with fail
  refine (nil_len _).mono ?_
  rintro e wd ⟨rfl, bd⟩
  have A' := Lib.hid (A.out.next bd)
  clear bd A e1 e2
  have A := A'
  clear A'
  have e1 := A.out.e1
  have e2 := A.out.e2
  go_wp2_with fail
  refine (nil_slots _).mono ?_
  rintro e wd ⟨rfl, bd⟩
  have A' := Lib.hid (A.out.next bd)
  clear bd A e1 e2
  have A := A'
  clear A'
  have e1 := A.out.e1
  have e2 := A.out.e2
  go_wp2_with fail
  refine (nil_made _).mono ?_
  rintro e wd ⟨rfl, bd⟩
  have A' := Lib.hid (A.out.next bd)
  clear bd A e1 e2
  have A := A'
  clear A'
  have e1 := A.out.e1
  have e2 := A.out.e2
  go_wp2_with fail
  refine (nil_mark x _).mono ?_
  rintro e wd ⟨rfl, bd⟩
  have A' := Lib.hid (A.out.next bd)
  clear bd A e1 e2
  have A := A'
  clear A'
  have e1 := A.out.e1
  have e2 := A.out.e2
  go_wp2_with fail
  refine (nil_marked x _).mono ?_
  rintro e wd ⟨rfl, bd⟩
  have A' := Lib.hid (A.out.next bd)
  clear bd A e1 e2
  have A := A'
  clear A'
  have e1 := A.out.e1
  have e2 := A.out.e2
  go_wp2_with fail
  refine (nil_sweep _).mono ?_
  rintro e wd ⟨rfl, bd⟩
  have A' := Lib.hid (A.out.next bd)
  clear bd A e1 e2
  have A := A'
  clear A'
  have e1 := A.out.e1
  have e2 := A.out.e2
  go_wp2_with fail
  go_ret
  exact ⟨rfl, A.out.below⟩
end Go.Proofs.YtfhijcdibigblaaDoor.atoms
