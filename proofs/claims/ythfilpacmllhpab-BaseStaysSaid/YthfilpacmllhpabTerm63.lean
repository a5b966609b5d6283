

/- Terms: deep. -/
import Derived.Test.YthfilpacmllhpabTerm62
namespace Go.Proofs.Ythfilpacmllhpab.terms
set_option maxRecDepth 100000
open Go.RowKit Go.Proofs.Ythfilpacmllhpab.own Go.Maps
theorem wt_step {xs : List Ls} {j : Nat} {x : Ls} (h : xs[j]? = some x) : wt (xs.take (j + 1)) = wt (xs.take j) + 1 + sizes x.l := by
  rw [take_snoc h, wt_append, wt_one]
  omega
theorem wt_take (xs : List Ls) (j : Nat) : wt (xs.take j) ≤ wt xs := by
  have e : wt xs = wt (xs.take j) + wt (xs.drop j) := by rw [← wt_append, List.take_append_drop]
  omega
theorem WaysM.start0 {w wr : World} {m : Nat} (ho : Only (fun _ => False) w wr) (hm : wr.heap[m]? = some (.map #[] 0)) : WaysM w m none 0 [] wr :=
  ⟨RowOf.nil _ _ _ _ _, ho.mono (fun _ _ e => e.elim), fun x hx => absurd hx (by simp), ⟨#[], 0, hm, fun e he => by simp at he⟩⟩
end Go.Proofs.Ythfilpacmllhpab.terms
