/- The laws' arguments as the walks see them: a list of numbers. -/
import Derived.Test.YthfilpacmllhpaaStkArgs
import Derived.Test.YthfilpacmllhpaaStk14
namespace Go.Proofs.Ythfilpacmllhpaa.stk
open Go.ChangeShapes Go.WideShapes Go.ChangeAt Go.RowKit Go.Proofs.Ythfilpacmllhpaa.frames Go.Proofs.Ythfilpacmllhpaa.own
theorem cellsInt : Try.prog.cellsOf 3 = 1 := by kernel_rfl
set_option maxRecDepth 100000 in
theorem open_nums {H : Type} {enc : TypeId × Value → H} {W : World} {r : Reach} {b0 : Nat} {held : Bool} {v : Value} {d : DataW H} {p : List MemPlace}
    (hv : Value.okWide Try.prog W r b0 63 v) (h : DataW.Trod enc Try.prog W 0 (fun _ => true) held 63 v d p) (hlt : ∀ x ∈ p, x.block < W.heap.size) : ∃ ao cap xs, v = .slice ao (xs : List Int).length cap ∧ ArgI ao xs W ∧ xs.length ≤ maxLen := by
  obtain ⟨a0, len, cap, rfl⟩ := okWide_slice Try.underlying63 hv
  obtain ⟨fuel, hf⟩ := h
  rcases open_ints Try.underlying63 Try.underlying3 cellsInt hf with ⟨hcs, hx⟩ | ⟨a, len', cap', zs, hcs, _, hl, hm, hz, hx, hcell, hwz⟩
  · simp [Value.cells] at hcs
    obtain ⟨rfl, rfl, rfl⟩ := hcs
    exact ⟨none, 0, [], rfl, fun i z hi => by simp at hi, by simp⟩
  · simp [Value.cells] at hcs
    obtain ⟨rfl, rfl, rfl⟩ := hcs
    simp only [Prod.mk.injEq] at hx
    obtain ⟨_, rfl⟩ := hx
    simp only [if_true] at hz
    have hlen : (zs.take len).length = len := by rw [List.length_take]; omega
    refine ⟨some a, cap, zs.take len, by rw [hlen], fun i z hi => ?_, by rw [hlen]; omega⟩
    obtain ⟨b, off, spot⟩ := a
    have hil : i < len := by have := (List.getElem?_eq_some_iff.1 hi).1; omega
    have hc := hcell i (by omega)
    have hspot : spot = none := by simpa [Addr.add] using World.cell?_spot (hcell 0 (by omega))
    subst hspot
    have hzi : zs[i]? = some z := by rw [List.getElem?_take, if_pos hil] at hi; exact hi
    refine ⟨b, off, rfl, hlt (.cell b off) (MemPlace.mem_row.2 ⟨0, by omega, by simp⟩), ?_, fits_wf (hwz z (List.mem_of_getElem? hzi))⟩
    rw [← add_plain, hc]
    simp only [List.getD, hzi, Option.getD_some]
end Go.Proofs.Ythfilpacmllhpaa.stk
