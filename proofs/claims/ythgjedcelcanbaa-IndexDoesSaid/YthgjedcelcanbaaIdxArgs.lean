
/- The laws' arguments as the walks see them: a key, a call. -/
import Derived.Test.YthgjedcelcanbaaTermArgs
import Derived.Test.YthgjedcelcanbaaIdx8
namespace Go.Proofs.Ythgjedcelcanbaa.idx
open Go.ChangeShapes Go.WideShapes Go.ChangeAt Go.RowKit Go.Proofs.Ythgjedcelcanbaa.frames Go.Proofs.Ythgjedcelcanbaa.own
set_option maxRecDepth 100000 in
theorem open_key {H : Type} {enc : TypeId × Value → H} {W : World} {r : Reach} {b0 base : Nat} {sp : Nat → Bool} {held : Bool} {v : Value} {d : DataW H} {p : List MemPlace}
    (hv : Value.okWide Try.prog W r b0 32 v) (h : DataW.Trod enc Try.prog W base sp held 32 v d p) : ∃ k : Ky, v = .agg #[.int .i64 k.k, .string k.s, .int .i64 k.n] ∧ k.Ok := by
  obtain ⟨c0, c1, c2, y0, y1, y2, m, rfl, _, _, hy0, hy1, hy2⟩ := Joins.open_agg3 Try.underlying32 (by kernel_rfl) cellsK hv h
  obtain ⟨k, e0, _, w0⟩ := DataW.trod_int Try.underlying3 hy0
  obtain ⟨s, e1, _, w1⟩ := DataW.trod_string Try.underlying9 hy1
  obtain ⟨n, e2, _, w2⟩ := DataW.trod_int Try.underlying3 hy2
  simp only [List.cons.injEq, and_true] at e0 e1 e2
  subst e0 e1 e2
  exact ⟨⟨k, s, n⟩, rfl, w0, w2, w1⟩
theorem cellsCall : Try.prog.cellsOf 34 = 6 := by kernel_rfl
set_option maxRecDepth 100000 in
/-- The six cells of a call. -/
theorem call_cells {H : Type} {enc : TypeId × Value → H} {W : World} {base : Nat} {sp : Nat → Bool} {held : Bool} {fuel : Nat} {c0 c1 c2 c3 c4 c5 : Value} {x : DataW H × List MemPlace}
    (h : DataW.trod enc Try.prog W base sp held fuel 34 [c0, c1, c2, c3, c4, c5] = some x) : ∃ (kd i : Int) (k : Ky) (f : Bool), c0 = .int .i64 kd ∧ c1 = .int .i64 i ∧ c2 = .int .i64 k.k ∧ c3 = .string k.s ∧ c4 = .int .i64 k.n ∧ c5 = .bool f ∧ Fit kd ∧ Fit i ∧ k.Ok := by
  obtain ⟨y0, y1, y2, y3, m, _, _, h0, h1, h2, h3⟩ := Joins.trod_struct4 Try.underlying34 h
  have e0 : DataW.trod enc Try.prog W base sp held m 3 [c0] = some y0 := h0
  have e1 : DataW.trod enc Try.prog W base sp held m 3 [c1] = some y1 := h1
  have e2 : DataW.trod enc Try.prog W base sp held m 32 [c2, c3, c4] = some y2 := h2
  have e3 : DataW.trod enc Try.prog W base sp held m 4 [c5] = some y3 := h3
  obtain ⟨kd, q0, _, w0⟩ := DataW.trod_int Try.underlying3 e0
  obtain ⟨i, q1, _, w1⟩ := DataW.trod_int Try.underlying3 e1
  obtain ⟨z0, z1, z2, m', _, _, g0, g1, g2⟩ := Deep.trod_struct3 Try.underlying32 e2
  have f0 : DataW.trod enc Try.prog W base sp held m' 3 [c2] = some z0 := g0
  have f1 : DataW.trod enc Try.prog W base sp held m' 9 [c3] = some z1 := g1
  have f2 : DataW.trod enc Try.prog W base sp held m' 3 [c4] = some z2 := g2
  obtain ⟨k, q2, _, w2⟩ := DataW.trod_int Try.underlying3 f0
  obtain ⟨s, q3, _, w3⟩ := DataW.trod_string Try.underlying9 f1
  obtain ⟨n, q4, _, w4⟩ := DataW.trod_int Try.underlying3 f2
  obtain ⟨f, q5, _⟩ := DataW.trod_bool Try.underlying4 e3
  simp only [List.cons.injEq, and_true] at q0 q1 q2 q3 q4 q5
  exact ⟨kd, i, ⟨k, s, n⟩, f, q0, q1, q2, q3, q4, q5, w0, w1, w2, w4, w3⟩
set_option maxRecDepth 100000 in
theorem open_call {H : Type} {enc : TypeId × Value → H} {W : World} {r : Reach} {b0 base : Nat} {sp : Nat → Bool} {held : Bool} {v : Value} {d : DataW H} {p : List MemPlace}
    (hv : Value.okWide Try.prog W r b0 34 v) (h : DataW.Trod enc Try.prog W base sp held 34 v d p) : ∃ (kd i : Int) (k : Ky) (f : Bool), v = .agg #[.int .i64 kd, .int .i64 i, .int .i64 k.k, .string k.s, .int .i64 k.n, .bool f] ∧ Fit kd ∧ Fit i ∧ k.Ok := by
  obtain ⟨cs, rfl, hsz⟩ := okWide_struct Try.underlying34 hv
  rw [cellsCall] at hsz
  obtain ⟨l⟩ := cs
  obtain ⟨c0, c1, c2, c3, c4, c5, rfl⟩ : ∃ c0 c1 c2 c3 c4 c5, l = [c0, c1, c2, c3, c4, c5] := by
    match l, hsz with
    | [c0, c1, c2, c3, c4, c5], _ => exact ⟨c0, c1, c2, c3, c4, c5, rfl⟩
  obtain ⟨fuel, hf⟩ := h
  obtain ⟨kd, i, k, f, rfl, rfl, rfl, rfl, rfl, rfl, h1, h2, h3⟩ := call_cells hf
  exact ⟨kd, i, k, f, rfl, h1, h2, h3⟩
end Go.Proofs.Ythgjedcelcanbaa.idx
