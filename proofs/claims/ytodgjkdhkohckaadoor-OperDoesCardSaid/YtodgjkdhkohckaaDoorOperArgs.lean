/- Lists that came in: of operators, of calls. -/
import Derived.Test.YtodgjkdhkohckaaDoorOperGround
import Derived.Test.YtodgjkdhkohckaaDoorOper25
import Derived.Deep.Slices
import Derived.SliceStrings
namespace Go.Proofs.YtodgjkdhkohckaaDoor.frames
open Go.ChangeShapes Go.WideShapes Go.ChangeAt Go.RowKit Go.Proofs.YtodgjkdhkohckaaDoor.opers
theorem addp (b off k : Nat) : (⟨b, off, none⟩ : Addr).add k = ⟨b, off + k, none⟩ := by unfold Addr.add; split <;> simp_all
set_option maxRecDepth 100000 in
theorem api_cells {H : Type} {enc : TypeId × Value → H} {W : World} {base : Nat} {sp : Nat → Bool} {held : Bool} {fuel : Nat} {c0 c1 c2 : Value} {x : DataW H × List MemPlace}
    (h : DataW.trod enc Tryd.prog W base sp held fuel 32 [c0, c1, c2] = some x) : ∃ y : Op3, c0 = .int .i64 y.p ∧ c1 = .int .i64 y.k ∧ c2 = .string y.n ∧ y.n.size ≤ maxLen := by
  obtain ⟨z0, z1, z2, m', _, _, g0, g1, g2⟩ := Deep.trod_struct3 Tryd.underlying32 h
  have f0 : DataW.trod enc Tryd.prog W base sp held m' 3 [c0] = some z0 := g0
  have f1 : DataW.trod enc Tryd.prog W base sp held m' 3 [c1] = some z1 := g1
  have f2 : DataW.trod enc Tryd.prog W base sp held m' 9 [c2] = some z2 := g2
  obtain ⟨p, q1, _, _⟩ := DataW.trod_int Tryd.underlying3 f0
  obtain ⟨k, q2, _, _⟩ := DataW.trod_int Tryd.underlying3 f1
  obtain ⟨n, q3, _, w3⟩ := DataW.trod_string Tryd.underlying9 f2
  simp only [List.cons.injEq, and_true] at q1 q2 q3
  exact ⟨⟨p, k, n⟩, q1, q2, q3, w3⟩
set_option maxRecDepth 100000 in
theorem open_apis {H : Type} {enc : TypeId × Value → H} {W : World} {r : Reach} {b0 : Nat} {held : Bool} {v : Value} {d : DataW H} {p : List MemPlace}
    (hv : Value.okWide Tryd.prog W r b0 29 v) (h : DataW.Trod enc Tryd.prog W 0 (fun _ => true) held 29 v d p) (hlt : ∀ x ∈ p, x.block < W.heap.size) : ∃ ao cap l, v = .slice ao (l : List Op3).length cap ∧ ArgL ao l W ∧ l.length ≤ maxLen := by
  obtain ⟨a0, len, cap, rfl⟩ := okWide_slice Tryd.underlying29 hv
  obtain ⟨fuel, hf⟩ := h
  rcases Deep.open_slice Tryd.underlying29 hf with ⟨hcs, hx⟩ | ⟨a, len', cap', m, n, D, Pl, hcs, _, hl, hm, hmm, hx, hel⟩
  · simp [Value.cells] at hcs
    obtain ⟨rfl, rfl, rfl⟩ := hcs
    exact ⟨none, 0, [], rfl, fun i x hi => by simp at hi, by simp⟩
  · simp [Value.cells] at hcs
    obtain ⟨rfl, rfl, rfl⟩ := hcs
    simp only [Prod.mk.injEq] at hx
    obtain ⟨_, rfl⟩ := hx
    simp only [if_true] at hmm
    rw [cellsApi] at hel hlt
    have each : ∀ i, i < len → ∃ t : Op3, W.cell? (a.add (i * 3)) = some (.int .i64 t.p) ∧ W.cell? ((a.add (i * 3)).add 1) = some (.int .i64 t.k) ∧ W.cell? ((a.add (i * 3)).add 2) = some (.string t.n) ∧ t.n.size ≤ maxLen := by
      intro i hi
      obtain ⟨cs', h1, h2⟩ := hel i (by omega)
      obtain ⟨hb1, hc1, hc2⟩ := World.cells?_some h1
      obtain ⟨c0, c1, c2, rfl⟩ : ∃ c0 c1 c2, cs' = [c0, c1, c2] := by
        match cs', hc1 with
        | [c0, c1, c2], _ => exact ⟨c0, c1, c2, rfl⟩
      obtain ⟨y, rfl, rfl, rfl, w3⟩ := api_cells h2
      refine ⟨y, ?_, hc2 1 (by omega), hc2 2 (by omega), w3⟩
      have h0 := hc2 0 (by omega)
      simpa [Addr.add] using h0
    obtain ⟨f, hf⟩ := Deep.choose_lt each
    have hlen : ((List.range len).map f).length = len := by simp
    refine ⟨some a, cap, (List.range len).map f, by rw [hlen], fun i x hi => ?_, by rw [hlen]; omega⟩
    have hil : i < len := by
      have := (List.getElem?_eq_some_iff.1 hi).1
      rwa [hlen] at this
    have hx : f i = x := by
      have : ((List.range len).map f)[i]? = some (f i) := by simp [hil]
      rw [this] at hi
      exact Option.some.inj hi
    obtain ⟨g0, g1, g2, g3⟩ := hf i hil
    rw [hx] at g0 g1 g2 g3
    obtain ⟨b, off, spot⟩ := a
    have hc0 := (hf 0 (by omega)).1
    have hspot : spot = none := by simpa [Addr.add] using World.cell?_spot hc0
    subst hspot
    rw [addp] at g0
    rw [addp, addp] at g1 g2
    exact ⟨b, off, rfl, hlt (.cell b off) (List.mem_append_left _ (MemPlace.mem_row.2 ⟨0, by omega, by simp⟩)), g0, g1, g2, g3⟩
end Go.Proofs.YtodgjkdhkohckaaDoor.frames
