/- The laws' arguments as the walks see them: a call's description, a list of these. -/
import Derived.Test.YtaplfibhhdngbaaFrame
import Derived.Deep.Slices
namespace Go.Proofs.Ytaplfibhhdngbaa.frames
open Go.ChangeShapes Go.WideShapes Go.ChangeAt Go.RowKit

theorem cellsOp : Try.prog.cellsOf 32 = 3 := by kernel_rfl
def Fits (x : Int) : Prop := -9223372036854775808 ≤ x ∧ x ≤ 9223372036854775807
theorem fits_of {x : Int} (h : (Lit.int .i64 x).wf = true) : Fits x := by
  have k1 : IntKind.i64.min = -9223372036854775808 := rfl
  have k2 : IntKind.i64.max = 9223372036854775807 := rfl
  simp [Lit.wf, k1, k2] at h
  exact h
/-- One call: which, where, how many. -/
structure OpP where
  k : Int
  a : Int
  n : Int
theorem open_op {H : Type} {enc : TypeId × Value → H} {W : World} {r : Reach} {b0 base : Nat} {sp : Nat → Bool} {held : Bool} {v : Value} {d : DataW H} {p : List MemPlace}
    (hv : Value.okWide Try.prog W r b0 32 v) (h : DataW.Trod enc Try.prog W base sp held 32 v d p) : ∃ k a n : Int, v = .agg #[.int .i64 k, .int .i64 a, .int .i64 n] ∧ Fits k ∧ Fits a ∧ Fits n := by
  obtain ⟨c0, c1, c2, y0, y1, y2, m, rfl, _, _, hy0, hy1, hy2⟩ := Joins.open_agg3 Try.underlying32 (by kernel_rfl) cellsOp hv h
  obtain ⟨k, e0, _, w0⟩ := DataW.trod_int Try.underlying3 hy0
  obtain ⟨a, e1, _, w1⟩ := DataW.trod_int Try.underlying3 hy1
  obtain ⟨n, e2, _, w2⟩ := DataW.trod_int Try.underlying3 hy2
  simp only [List.cons.injEq, and_true] at e0 e1 e2
  subst e0 e1 e2
  exact ⟨k, a, n, rfl, fits_of w0, fits_of w1, fits_of w2⟩

/-- A list of calls that came in. -/
structure ArgOps (W : World) (ao : Option Addr) (os : List OpP) : Prop where
  at_ : ∀ i, i < os.length → ∃ b off o, os[i]? = some o ∧ ao = some ⟨b, off, none⟩ ∧ b < W.heap.size ∧ W.cell? ⟨b, off + i * 3, none⟩ = some (.int .i64 o.k) ∧
    W.cell? ⟨b, off + i * 3 + 1, none⟩ = some (.int .i64 o.a) ∧ W.cell? ⟨b, off + i * 3 + 2, none⟩ = some (.int .i64 o.n) ∧ Fits o.k ∧ Fits o.a ∧ Fits o.n

theorem open_ops {H : Type} {enc : TypeId × Value → H} {W : World} {r : Reach} {b0 : Nat} {held : Bool} {v : Value} {d : DataW H} {p : List MemPlace}
    (hv : Value.okWide Try.prog W r b0 22 v) (h : DataW.Trod enc Try.prog W 0 (fun _ => true) held 22 v d p) (hlt : ∀ x ∈ p, x.block < W.heap.size) : ∃ ao cap os, v = .slice ao (os : List OpP).length cap ∧ ArgOps W ao os ∧ os.length ≤ maxLen := by
  obtain ⟨a0, len, cap, rfl⟩ := okWide_slice Try.underlying22 hv
  obtain ⟨fuel, hf⟩ := h
  rcases Deep.open_slice Try.underlying22 hf with ⟨hcs, hx⟩ | ⟨a, len', cap', m, n, D, Pl, hcs, _, hl, hm, hmm, hx, hel⟩
  · simp [Value.cells] at hcs
    obtain ⟨rfl, rfl, rfl⟩ := hcs
    exact ⟨none, 0, [], rfl, ⟨fun i hi => by simp at hi⟩, by simp⟩
  · simp [Value.cells] at hcs
    obtain ⟨rfl, rfl, rfl⟩ := hcs
    simp only [Prod.mk.injEq] at hx
    obtain ⟨_, rfl⟩ := hx
    simp only [if_true] at hmm
    rw [cellsOp] at hel hlt
    have each : ∀ i, i < len → ∃ t : OpP, W.cell? (a.add (i * 3)) = some (.int .i64 t.k) ∧ W.cell? ((a.add (i * 3)).add 1) = some (.int .i64 t.a) ∧ W.cell? ((a.add (i * 3)).add 2) = some (.int .i64 t.n) ∧ Fits t.k ∧ Fits t.a ∧ Fits t.n := by
      intro i hi
      obtain ⟨cs', h1, h2⟩ := hel i (by omega)
      obtain ⟨hb1, hc1, hc2⟩ := World.cells?_some h1
      obtain ⟨c0, c1, c2, rfl⟩ : ∃ c0 c1 c2, cs' = [c0, c1, c2] := by
        match cs', hc1 with
        | [c0, c1, c2], _ => exact ⟨c0, c1, c2, rfl⟩
      obtain ⟨y0, y1, y2, n', _, _, g0, g1, g2⟩ := Deep.trod_struct3 Try.underlying32 h2
      have e0 : DataW.trod enc Try.prog W 0 (fun _ => true) held n' 3 [c0] = some y0 := g0
      have e1 : DataW.trod enc Try.prog W 0 (fun _ => true) held n' 3 [c1] = some y1 := g1
      have e2 : DataW.trod enc Try.prog W 0 (fun _ => true) held n' 3 [c2] = some y2 := g2
      obtain ⟨z0, q0, _, w0⟩ := DataW.trod_int Try.underlying3 e0
      obtain ⟨z1, q1, _, w1⟩ := DataW.trod_int Try.underlying3 e1
      obtain ⟨z2, q2, _, w2⟩ := DataW.trod_int Try.underlying3 e2
      simp only [List.cons.injEq, and_true] at q0 q1 q2
      subst q0 q1 q2
      refine ⟨⟨z0, z1, z2⟩, ?_, hc2 1 (by omega), hc2 2 (by omega), fits_of w0, fits_of w1, fits_of w2⟩
      have h0 := hc2 0 (by omega)
      simpa [Addr.add] using h0
    obtain ⟨f, hf⟩ : ∃ f : Nat → OpP, ∀ i, i < len → W.cell? (a.add (i * 3)) = some (.int .i64 (f i).k) ∧ W.cell? ((a.add (i * 3)).add 1) = some (.int .i64 (f i).a) ∧ W.cell? ((a.add (i * 3)).add 2) = some (.int .i64 (f i).n) ∧ Fits (f i).k ∧ Fits (f i).a ∧ Fits (f i).n := by
      have inh : Inhabited OpP := ⟨⟨0, 0, 0⟩⟩
      exact Deep.choose_lt each
    have hlen : ((List.range len).map f).length = len := by simp
    have hget : ∀ i, i < len → ((List.range len).map f)[i]? = some (f i) := by
      intro i hi
      simp [hi]
    refine ⟨some a, cap, (List.range len).map f, by rw [hlen], ⟨fun i hi => ?_⟩, by rw [hlen]; omega⟩
    rw [hlen] at hi
    obtain ⟨g0, g1, g2, g3⟩ := hf i hi
    obtain ⟨b, off, spot⟩ := a
    have hc0 := (hf 0 (by omega)).1
    have hspot : spot = none := by simpa [Addr.add] using World.cell?_spot hc0
    subst hspot
    refine ⟨b, off, f i, hget i hi, rfl, hlt (.cell b off) (List.mem_append_left _ (MemPlace.mem_row.2 ⟨0, by omega, by simp⟩)), ?_, ?_, ?_, g3⟩
    · rw [← add_plain]
      exact g0
    · rw [add_plain, add_plain] at g1
      exact g1
    · rw [add_plain, add_plain] at g2
      exact g2
end Go.Proofs.Ytaplfibhhdngbaa.frames
