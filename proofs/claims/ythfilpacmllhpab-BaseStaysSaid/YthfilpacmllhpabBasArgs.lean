/- The laws' arguments as the walks see them: a base's call. -/
import Derived.Test.YthfilpacmllhpabTermArgs
import Derived.Test.YthfilpacmllhpabFrame
namespace Go.Proofs.Ythfilpacmllhpab.bases
open Go.ChangeShapes Go.WideShapes Go.ChangeAt Go.RowKit Go.Proofs.Ythfilpacmllhpab.frames Go.Proofs.Ythfilpacmllhpab.own
theorem cellsBop : Try.prog.cellsOf 39 = 14 := by kernel_rfl
theorem fourteen {α : Type} {l : List α} (h : l.length = 14) : ∃ c0 c1 c2 c3 c4 c5 c6 c7 c8 c9 c10 c11 c12 c13, l = [c0, c1, c2, c3, c4, c5, c6, c7, c8, c9, c10, c11, c12, c13] := by
  match l, h with
  | [c0, c1, c2, c3, c4, c5, c6, c7, c8, c9, c10, c11, c12, c13], _ => exact ⟨c0, c1, c2, c3, c4, c5, c6, c7, c8, c9, c10, c11, c12, c13, rfl⟩
theorem at_some {α : Type} {xs : List α} {i n : Nat} (hl : xs.length = n) (hi : i < n) : ∃ y, xs[i]? = some y := ⟨xs[i], List.getElem?_eq_getElem (by omega)⟩
set_option maxRecDepth 100000 in
theorem bop_cells {H : Type} {enc : TypeId × Value → H} {W : World} {base : Nat} {sp : Nat → Bool} {held : Bool} {fuel : Nat} {c0 c1 c2 c3 c4 c5 c6 c7 c8 c9 c10 c11 c12 c13 : Value} {x : DataW H × List MemPlace}
    (h : DataW.trod enc Try.prog W base sp held fuel 39 [c0, c1, c2, c3, c4, c5, c6, c7, c8, c9, c10, c11, c12, c13] = some x) : ∃ (k : Int) (f : Bool) (n kk : Int) (ks : ByteArray) (kn g : Int), c0 = .int .i64 k ∧ c8 = .bool f ∧ c9 = .int .i64 n ∧ c10 = .int .i64 kk ∧ c11 = .string ks ∧ c12 = .int .i64 kn ∧ c13 = .int .i64 g := by
  obtain ⟨xs, m, _, _, _, hxl, hf⟩ := DataW.trod_struct Try.underlying39 h
  obtain ⟨y0, q0⟩ := at_some hxl (i := 0) (by decide)
  obtain ⟨y3, q3⟩ := at_some hxl (i := 3) (by decide)
  obtain ⟨y4, q4⟩ := at_some hxl (i := 4) (by decide)
  obtain ⟨y5, q5⟩ := at_some hxl (i := 5) (by decide)
  obtain ⟨y6, q6⟩ := at_some hxl (i := 6) (by decide)
  have e0 : DataW.trod enc Try.prog W base sp held m 3 [c0] = some y0 := (hf 0 _ rfl).trans q0
  have e3 : DataW.trod enc Try.prog W base sp held m 4 [c8] = some y3 := (hf 3 _ rfl).trans q3
  have e4 : DataW.trod enc Try.prog W base sp held m 3 [c9] = some y4 := (hf 4 _ rfl).trans q4
  have e5 : DataW.trod enc Try.prog W base sp held m 37 [c10, c11, c12] = some y5 := (hf 5 _ rfl).trans q5
  have e6 : DataW.trod enc Try.prog W base sp held m 3 [c13] = some y6 := (hf 6 _ rfl).trans q6
  obtain ⟨k, r0, _, _⟩ := DataW.trod_int Try.underlying3 e0
  obtain ⟨f, r3, _⟩ := DataW.trod_bool Try.underlying4 e3
  obtain ⟨n, r4, _, _⟩ := DataW.trod_int Try.underlying3 e4
  obtain ⟨g, r6, _, _⟩ := DataW.trod_int Try.underlying3 e6
  obtain ⟨z0, z1, z2, m', _, _, g0, g1, g2⟩ := Deep.trod_struct3 Try.underlying37 e5
  have f0 : DataW.trod enc Try.prog W base sp held m' 3 [c10] = some z0 := g0
  have f1 : DataW.trod enc Try.prog W base sp held m' 9 [c11] = some z1 := g1
  have f2 : DataW.trod enc Try.prog W base sp held m' 3 [c12] = some z2 := g2
  obtain ⟨kk, t0, _, _⟩ := DataW.trod_int Try.underlying3 f0
  obtain ⟨ks, t1, _, _⟩ := DataW.trod_string Try.underlying9 f1
  obtain ⟨kn, t2, _, _⟩ := DataW.trod_int Try.underlying3 f2
  simp only [List.cons.injEq, and_true] at r0 r3 r4 r6 t0 t1 t2
  exact ⟨k, f, n, kk, ks, kn, g, r0, r3, r4, t0, t1, t2, r6⟩
set_option maxRecDepth 100000 in
theorem open_bop {H : Type} {enc : TypeId × Value → H} {W : World} {r : Reach} {b0 base : Nat} {sp : Nat → Bool} {held : Bool} {v : Value} {d : DataW H} {p : List MemPlace}
    (hv : Value.okWide Try.prog W r b0 39 v) (h : DataW.Trod enc Try.prog W base sp held 39 v d p) : ∃ (k : Int) (y0 y1 y2 y3 y4 y5 c : Value) (f : Bool) (n kk : Int) (ks : ByteArray) (kn g : Int), v = .agg #[.int .i64 k, y0, y1, y2, y3, y4, y5, c, .bool f, .int .i64 n, .int .i64 kk, .string ks, .int .i64 kn, .int .i64 g] := by
  obtain ⟨cs, rfl, hsz⟩ := okWide_struct Try.underlying39 hv
  rw [cellsBop] at hsz
  obtain ⟨l⟩ := cs
  obtain ⟨c0, c1, c2, c3, c4, c5, c6, c7, c8, c9, c10, c11, c12, c13, rfl⟩ := fourteen (l := l) hsz
  obtain ⟨fuel, hf⟩ := h
  obtain ⟨k, f, n, kk, ks, kn, g, rfl, rfl, rfl, rfl, rfl, rfl, rfl⟩ := bop_cells hf
  exact ⟨k, c1, c2, c3, c4, c5, c6, c7, f, n, kk, ks, kn, g, rfl⟩
end Go.Proofs.Ythfilpacmllhpab.bases
