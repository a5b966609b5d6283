/- Lists of calls that came in. -/
import Derived.Test.YtoppfhbpmmepaaaDoorFuncGround
import Derived.Test.YtoppfhbpmmepaaaDoorAtom10
import Derived.Deep.Slices
namespace Go.Proofs.YtoppfhbpmmepaaaDoor.frames
open Go.ChangeShapes Go.WideShapes Go.ChangeAt Go.RowKit Go.Proofs.YtoppfhbpmmepaaaDoor.atoms

set_option maxRecDepth 100000 in
theorem open_ops {H : Type} {enc : TypeId × Value → H} {W : World} {r : Reach} {b0 : Nat} {held : Bool} {v : Value} {d : DataW H} {p : List MemPlace}
    (hv : Value.okWide Tryd.prog W r b0 22 v) (h : DataW.Trod enc Tryd.prog W 0 (fun _ => true) held 22 v d p) (hlt : ∀ x ∈ p, x.block < W.heap.size) : ∃ ao cap os, v = .slice ao (os : List OpA).length cap ∧ ArgOps W ao os ∧ os.length ≤ maxLen ∧ ∀ (i : Nat) (o : OpA), os[i]? = some o → (Lit.int .i64 o.x).wf = true := by
  obtain ⟨a0, len, cap, rfl⟩ := okWide_slice Tryd.underlying22 hv
  obtain ⟨fuel, hf⟩ := h
  rcases Deep.open_slice Tryd.underlying22 hf with ⟨hcs, hx⟩ | ⟨a, len', cap', m, n, D, Pl, hcs, _, hl, hm, hmm, hx, hel⟩
  · simp [Value.cells] at hcs
    obtain ⟨rfl, rfl, rfl⟩ := hcs
    exact ⟨none, 0, [], rfl, ⟨fun i hi => by simp at hi⟩, by simp, fun i o h => by simp at h⟩
  · simp [Value.cells] at hcs
    obtain ⟨rfl, rfl, rfl⟩ := hcs
    simp only [Prod.mk.injEq] at hx
    obtain ⟨_, rfl⟩ := hx
    simp only [if_true] at hmm
    rw [cellsOp] at hel hlt
    have each : ∀ i, i < len → ∃ t : OpA, W.cell? (a.add (i * 3)) = some (.int .i64 t.k) ∧ W.cell? ((a.add (i * 3)).add 1) = some (.string t.n) ∧ W.cell? ((a.add (i * 3)).add 2) = some (.int .i64 t.x) ∧ t.n.size ≤ maxLen ∧ (Lit.int .i64 t.x).wf = true := by
      intro i hi
      obtain ⟨cs', h1, h2⟩ := hel i (by omega)
      obtain ⟨hb1, hc1, hc2⟩ := World.cells?_some h1
      obtain ⟨c0, c1, c2, rfl⟩ : ∃ c0 c1 c2, cs' = [c0, c1, c2] := by
        match cs', hc1 with
        | [c0, c1, c2], _ => exact ⟨c0, c1, c2, rfl⟩
      obtain ⟨y0, y1, y2, n', _, _, g0, g1, g2⟩ := Deep.trod_struct3 Tryd.underlying36 h2
      have e0 : DataW.trod enc Tryd.prog W 0 (fun _ => true) held n' 3 [c0] = some y0 := g0
      have e1 : DataW.trod enc Tryd.prog W 0 (fun _ => true) held n' 9 [c1] = some y1 := g1
      have e2 : DataW.trod enc Tryd.prog W 0 (fun _ => true) held n' 3 [c2] = some y2 := g2
      obtain ⟨z0, q0, _, _⟩ := DataW.trod_int Tryd.underlying3 e0
      obtain ⟨z1, q1, _, w1⟩ := DataW.trod_string Tryd.underlying9 e1
      obtain ⟨z2, q2, _, w2⟩ := DataW.trod_int Tryd.underlying3 e2
      simp only [List.cons.injEq, and_true] at q0 q1 q2
      subst q0 q1 q2
      refine ⟨⟨z0, z1, z2⟩, ?_, hc2 1 (by omega), hc2 2 (by omega), w1, w2⟩
      have h0 := hc2 0 (by omega)
      simpa [Addr.add] using h0
    obtain ⟨f, hf⟩ := Deep.choose_lt each
    have hlen : ((List.range len).map f).length = len := by simp
    have hget : ∀ i, i < len → ((List.range len).map f)[i]? = some (f i) := by
      intro i hi
      simp [hi]
    refine ⟨some a, cap, (List.range len).map f, by rw [hlen], ⟨fun i hi => ?_⟩, by rw [hlen]; omega, fun i o ho => by
      have hi : i < len := by have := (List.getElem?_eq_some_iff.1 ho).1; omega
      rw [hget i hi] at ho
      cases ho
      exact (hf i hi).2.2.2.2⟩
    rw [hlen] at hi
    obtain ⟨g0, g1, g2, g3, _⟩ := hf i hi
    obtain ⟨b, off, spot⟩ := a
    have hc0 := (hf 0 (by omega)).1
    have hspot : spot = none := by simpa [Addr.add] using World.cell?_spot hc0
    subst hspot
    refine ⟨b, off, f i, hget i hi, rfl, hlt (.cell b off) (List.mem_append_left _ (MemPlace.mem_row.2 ⟨0, by omega, by simp⟩)), ?_, ?_, ?_, g3⟩
    · rw [← add_plain]
      exact g0
    · rw [add_plain, add_plain] at g1
      exact g1
    · rw [add_plain, add_plain] at g2
      exact g2

end Go.Proofs.YtoppfhbpmmepaaaDoor.frames
