/- The law PoolNobody, walked. -/
import Derived.Test.YtaplfibhhdngbaaPool28
namespace Go.Proofs.Ytaplfibhhdngbaa.pools
open Go.RowKit Go.Proofs.Ytaplfibhhdngbaa.own Go.Proofs.Ytaplfibhhdngbaa.trees Go.Proofs.Ytaplfibhhdngbaa.rows
/-- The law's argument, through calls. -/
structure ArgN (k a n : Int) (w wc : World) : Prop where
  below : Below w.heap.size w wc
  lt : w.heap.size < wc.heap.size
  e1 : wc.cell? ⟨w.heap.size, 1, none⟩ = some (.int .i64 a)
  e2 : wc.cell? ⟨w.heap.size, 2, none⟩ = some (.int .i64 n)
theorem ArgN.next {k a n : Int} {w wc wd : World} (h : ArgN k a n w wc) (b : Below wc.heap.size wc wd) : ArgN k a n w wd :=
  ⟨h.below.trans (b.mono h.below.size), Nat.lt_of_lt_of_le h.lt b.size, (b.cell (p := ⟨w.heap.size, 1, none⟩) h.lt).trans h.e1, (b.cell (p := ⟨w.heap.size, 2, none⟩) h.lt).trans h.e2⟩
set_option maxRecDepth 100000 in
set_option maxHeartbeats 4000000 in
theorem law_nobody (k a n : Int) (w : World) : Calls Try.prog 5 #[.agg #[.int .i64 k, .int .i64 a, .int .i64 n]] w fun e w' => e = .returned (.bool true) ∧ Below w.heap.size w w' := by
  go_enter Try.func5, Try.ntmps5
  go_wp2_with fail
  have A : Hid (ArgN k a n w (w.alloc (.cells #[.int .i64 k, .int .i64 a, .int .i64 n] 32))) := Lib.hid ⟨(Below.refl _ _).alloc (Nat.le_refl _) _, by simp, by simp, by simp⟩
  generalize w.alloc (.cells #[.int .i64 k, .int .i64 a, .int .i64 n] 32) = wc at *
  have e1 := A.out.e1
  have e2 := A.out.e2
  refine (nil_take n _).mono ?_
  rintro e wd ⟨rfl, rfl⟩
  go_wp2_with fail
  refine (lives_any _).mono ?_
  rintro e wd ⟨rfl, bd⟩
  have A' := Lib.hid (A.out.next bd)
  clear bd A e1 e2
  have e1 := A'.out.e1
  have e2 := A'.out.e2
  go_wp2_with fail
  refine (nil_give a n _).mono ?_
  rintro e wd ⟨rfl, rfl⟩
  go_wp2_with fail
  refine (nil_open _).mono ?_
  rintro e wd ⟨rfl, rfl⟩
  go_wp2_with fail
  refine (nil_close _).mono ?_
  rintro e wd ⟨rfl, rfl⟩
  go_wp2_with fail
  refine (nil_back _).mono ?_
  rintro e wd ⟨rfl, rfl⟩
  go_wp2_with fail
  refine (nil_top _).mono ?_
  rintro e wd ⟨rfl, rfl⟩
  go_wp2_with fail
  refine (nil_limit _).mono ?_
  rintro e wd ⟨rfl, rfl⟩
  go_wp2_with fail
  refine (nil_starts _).mono ?_
  rintro e wd ⟨rfl, rfl⟩
  go_wp2_with fail
  refine (nil_runs a _).mono ?_
  rintro e wd ⟨rfl, rfl⟩
  go_wp2_with fail
  refine (nil_free a _).mono ?_
  rintro e wd ⟨rfl, rfl⟩
  go_wp2_with fail
  refine (nil_left _).mono ?_
  rintro e wd ⟨rfl, rfl⟩
  go_wp2_with fail
  refine (nil_sweep _ _).mono ?_
  rintro e wd ⟨rfl, rfl⟩
  go_wp2_with fail
  refine (nil_segment a _).mono ?_
  rintro e wd ⟨rfl, rfl⟩
  go_wp2_with fail
  go_ret
  exact ⟨rfl, A'.out.below⟩
end Go.Proofs.Ytaplfibhhdngbaa.pools
