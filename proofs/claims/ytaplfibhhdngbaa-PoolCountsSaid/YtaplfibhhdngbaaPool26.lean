/- A pool is made; the calls of a pool, told by plain functions of its cells and its starts. -/
import Derived.Test.YtaplfibhhdngbaaPool25
namespace Go.Proofs.Ytaplfibhhdngbaa.pools
open Go.RowKit Go.Proofs.Ytaplfibhhdngbaa.own Go.Proofs.Ytaplfibhhdngbaa.trees Go.Proofs.Ytaplfibhhdngbaa.rows
variable {Sm S : Nat → Prop} {B b k sz : Nat} {so : Option Addr} {scap : Nat} {ao : Option Addr} {cap : Nat} {T : List Int} {f : Nat → Nat} {lim : Nat} {F : List Bool} {St : List Nat} {w w' : World} {o : Nat}
/-! ### Made -/
theorem new_bad (l : Int) (hl : ¬ (0 ≤ l ∧ l ≤ 1048576)) (w : World) :
    Calls Try.prog 7 #[.int .i64 l] w fun e w' => e = .returned (.tuple #[.pointer none, .int .i64 1]) ∧ w = w' := by
  by_cases h0 : l < 0
  · clear hl
    go_enter Try.func7, Try.ntmps7
    go_wp2_with fail
    go_ret2
    exact ⟨rfl, rfl⟩
  · have h1 : l > 1048576 := by omega
    clear hl
    go_enter Try.func7, Try.ntmps7
    go_wp2_with fail
    go_ret2
    exact ⟨rfl, rfl⟩
theorem new_at (lim : Nat) (hl : lim ≤ 1048576) (w : World) {w1 w2 : World} (e1 : w1 = w.alloc (.cells #[.int .i64 0] 3))
    (e2 : w2 = w1.alloc (.cells (poolCells lim [] (some ⟨w.heap.size, 0, none⟩) 1 1 0 none 0 0) 56)) :
    PoolAt (· ∈ [0]) (fun j => w.heap.size ≤ j ∧ j < w2.heap.size) w.heap.size (w.heap.size + 1) 0 0 (some ⟨w.heap.size, 0, none⟩) 1 none 0 [] (fun _ => 0) lim [] [0] w2 ∧ Only (fun _ => False) w w2 := by
  have hs1 : w1.heap.size = w.heap.size + 1 := by rw [e1]; simp
  have hs2 : w2.heap.size = w.heap.size + 2 := by rw [e2]; simp [hs1]
  have o1 : Only (fun _ => False) w w1 := by rw [e1]; exact Only.alloc _ _ _
  have o2 : Only (fun _ => False) w1 w2 := by rw [e2]; exact Only.alloc _ _ _
  refine ⟨⟨?_, ?_, RowOf.nil _ _ _ _ _, .inl ⟨rfl, rfl, rfl, rfl⟩, by omega, ?_, fun q hq => by omega, fun _ _ => rfl, ⟨fun q hq => by simp at hq, fun j hj => by simp at hj⟩, by simp, ⟨by simp, hl⟩, rfl, by simp, by simp, by simp, ⟨by constructor <;> omega, fun g hg => ?_, fun g hg => by cases hg⟩, fun j hj => hj, fun g hg => ?_, (fun g hg => by cases hg), (fun g g' _ hg => by cases hg)⟩, o1.same o2⟩
  · have := heap_alloc_new w1 (.cells (poolCells lim [] (some ⟨w.heap.size, 0, none⟩) 1 1 0 none 0 0) 56)
    rw [← e2, hs1] at this
    exact this
  · have h0 : RowOf enc64 1 3 w.heap.size (some ⟨w.heap.size, 0, none⟩) 1 [0] w1 := by
      rw [e1]
      exact World.ownsRow_lit w #[.int .i64 0] 1 (Nat.le_refl _) (by unfold maxLen; omega) rfl
    exact h0.only o2 (fun _ _ e => e)
  · intro j
    simp
  · simp only [Option.some.injEq] at hg
    subst hg
    constructor
    · exact Nat.le_refl _
    · show w.heap.size < _; omega
  · simp only [Option.some.injEq] at hg
    subst hg
    show w.heap.size ≠ w.heap.size + 1
    omega
set_option maxRecDepth 100000 in
theorem new_ok (lim : Nat) (hl : lim ≤ 1048576) (w : World) :
    Calls Try.prog 7 #[.int .i64 lim] w fun e w' => e = .returned (.tuple #[.pointer (some ⟨w.heap.size + 1, 0, none⟩), .int .i64 0]) ∧ Pool (fun j => w.heap.size ≤ j ∧ j < w'.heap.size) w.heap.size (w.heap.size + 1) lim [] [0] w' ∧ Only (fun _ => False) w w' := by
  have HN := Lib.hid (fun w1 w2 e1 e2 => new_at lim hl w (w1 := w1) (w2 := w2) e1 e2)
  go_enter Try.func7, Try.ntmps7
  go_wp2_with fail
  go_ret2
  have := HN.out _ _ rfl rfl
  exact ⟨rfl, ⟨_, _, _, _, _, _, _, _, this.1⟩, this.2⟩
end Go.Proofs.Ytaplfibhhdngbaa.pools
