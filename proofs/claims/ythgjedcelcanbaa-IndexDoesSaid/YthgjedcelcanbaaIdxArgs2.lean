
/- The laws' arguments as the walks see them: a list of calls. -/
import Derived.Test.YthgjedcelcanbaaIdxArgs
import Derived.Test.YthgjedcelcanbaaIdx40
namespace Go.Proofs.Ythgjedcelcanbaa.idx
open Go.ChangeShapes Go.WideShapes Go.ChangeAt Go.RowKit Go.Proofs.Ythgjedcelcanbaa.frames Go.Proofs.Ythgjedcelcanbaa.own
theorem addp {b off : Nat} {j : Nat} : (⟨b, off, none⟩ : Addr).add j = ⟨b, off + j, none⟩ := by unfold Addr.add; split <;> simp_all
set_option maxRecDepth 100000 in
theorem open_calls {H : Type} {enc : TypeId × Value → H} {W : World} {r : Reach} {b0 : Nat} {held : Bool} {v : Value} {d : DataW H} {p : List MemPlace}
    (hv : Value.okWide Try.prog W r b0 22 v) (h : DataW.Trod enc Try.prog W 0 (fun _ => true) held 22 v d p) (hlt : ∀ x ∈ p, x.block < W.heap.size) : ∃ ao cap l, v = .slice ao (l : List OpI).length cap ∧ ArgI ao l W ∧ l.length ≤ maxLen := by
  obtain ⟨a0, len, cap, rfl⟩ := okWide_slice Try.underlying22 hv
  obtain ⟨fuel, hf⟩ := h
  rcases Deep.open_slice Try.underlying22 hf with ⟨hcs, hx⟩ | ⟨a, len', cap', m, n, D, Pl, hcs, _, hl, hm, hmm, hx, hel⟩
  · simp [Value.cells] at hcs
    obtain ⟨rfl, rfl, rfl⟩ := hcs
    exact ⟨none, 0, [], rfl, fun i x hi => by simp at hi, by simp⟩
  · simp [Value.cells] at hcs
    obtain ⟨rfl, rfl, rfl⟩ := hcs
    simp only [Prod.mk.injEq] at hx
    obtain ⟨_, rfl⟩ := hx
    simp only [if_true] at hmm
    rw [cellsCall] at hel hlt
    have each : ∀ i, i < len → ∃ t : OpI, W.cell? (a.add (i * 6)) = some (.int .i64 t.kd) ∧ W.cell? ((a.add (i * 6)).add 1) = some (.int .i64 t.i) ∧ W.cell? ((a.add (i * 6)).add 2) = some (.int .i64 t.k.k) ∧ W.cell? ((a.add (i * 6)).add 3) = some (.string t.k.s) ∧ W.cell? ((a.add (i * 6)).add 4) = some (.int .i64 t.k.n) ∧ W.cell? ((a.add (i * 6)).add 5) = some (.bool t.f) ∧ Fit t.kd ∧ Fit t.i ∧ t.k.Ok := by
      intro i hi
      obtain ⟨cs', h1, h2⟩ := hel i (by omega)
      obtain ⟨hb1, hc1, hc2⟩ := World.cells?_some h1
      obtain ⟨c0, c1, c2, c3, c4, c5, rfl⟩ : ∃ c0 c1 c2 c3 c4 c5, cs' = [c0, c1, c2, c3, c4, c5] := by
        match cs', hc1 with
        | [c0, c1, c2, c3, c4, c5], _ => exact ⟨c0, c1, c2, c3, c4, c5, rfl⟩
      obtain ⟨kd, ii, k, f, rfl, rfl, rfl, rfl, rfl, rfl, w1, w2, w3⟩ := call_cells h2
      refine ⟨⟨kd, ii, k, f⟩, ?_, hc2 1 (by omega), hc2 2 (by omega), hc2 3 (by omega), hc2 4 (by omega), hc2 5 (by omega), w1, w2, w3⟩
      have h0 := hc2 0 (by omega)
      simpa [Addr.add] using h0
    obtain ⟨f, hf⟩ := Deep.choose_lt each
    have hlen : ((List.range len).map f).length = len := by simp
    refine ⟨some a, cap, (List.range len).map f, by rw [hlen], fun i x hi => ?_, by rw [hlen]; omega⟩
    have hil : i < len := by
      have := (List.getElem?_eq_some_iff.1 hi).1
      rwa [hlen] at this
    have hx : f i = x := by
      have : ((List.range len).map f)[i]? = some (f i) := by simp [hil]
      rw [this] at hi
      exact Option.some.inj hi
    obtain ⟨g0, g1, g2, g3, g4, g5, g6⟩ := hf i hil
    rw [hx] at g0 g1 g2 g3 g4 g5 g6
    obtain ⟨b, off, spot⟩ := a
    have hc0 := (hf 0 (by omega)).1
    have hspot : spot = none := by simpa [Addr.add] using World.cell?_spot hc0
    subst hspot
    rw [addp] at g0
    rw [addp, addp] at g1 g2 g3 g4 g5
    exact ⟨b, off, rfl, hlt (.cell b off) (List.mem_append_left _ (MemPlace.mem_row.2 ⟨0, by omega, by simp⟩)), ⟨g0, g1, g2, g3, g4, g5⟩, g6⟩
end Go.Proofs.Ythgjedcelcanbaa.idx
