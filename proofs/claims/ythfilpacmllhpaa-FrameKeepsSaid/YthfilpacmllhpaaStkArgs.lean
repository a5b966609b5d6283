/- The laws' arguments as the walks see them: a stack's call, a list of calls. -/
import Derived.Test.YthfilpacmllhpaaStk1
import Derived.Test.YthfilpacmllhpaaFrame
import Derived.Deep.Slices
import Derived.Lib.SmallJoins
namespace Go.Proofs.Ythfilpacmllhpaa.stk
open Go.ChangeShapes Go.WideShapes Go.ChangeAt Go.RowKit Go.Proofs.Ythfilpacmllhpaa.frames Go.Proofs.Ythfilpacmllhpaa.own
/-- A call. -/
structure FOp where
  k : Int
  n : Int
  x : Int
  c0 : Int
  c1 : Int
  y0 : Int
  yo : Option Addr
  yn : Nat
  yc : Nat
  y2 : Int
  y3 : Int
  y4 : Int
  y5 : Int
  y6 : Int
  y7 : Int
  y8 : Int
instance : Inhabited FOp := ⟨⟨0, 0, 0, 0, 0, 0, none, 0, 0, 0, 0, 0, 0, 0, 0, 0⟩⟩
def encO (o : FOp) : List Value := [.int .i64 o.k, .int .i64 o.n, .int .u64 o.x, .int .i64 o.c0, .int .i64 o.c1, .int .i64 o.y0, .slice o.yo o.yn o.yc, .int .i64 o.y2, .int .i64 o.y3, .int .i64 o.y4, .int .i64 o.y5, .int .i64 o.y6, .int .i64 o.y7, .int .i64 o.y8]
def FOp.Ok (o : FOp) : Prop := Fits o.n ∧ Fits o.c0 ∧ Fits o.c1
theorem cellsFop : Try.prog.cellsOf 37 = 14 := by kernel_rfl
theorem fits_wf {x : Int} (h : (Lit.int .i64 x).wf = true) : Fits x := by
  have k1 : IntKind.i64.min = -9223372036854775808 := rfl
  have k2 : IntKind.i64.max = 9223372036854775807 := rfl
  simp [Lit.wf, k1, k2] at h
  exact ⟨h.1, by omega⟩
theorem fourteen {α : Type} {l : List α} (h : l.length = 14) : ∃ c0 c1 c2 c3 c4 c5 c6 c7 c8 c9 c10 c11 c12 c13, l = [c0, c1, c2, c3, c4, c5, c6, c7, c8, c9, c10, c11, c12, c13] := by
  match l, h with
  | [c0, c1, c2, c3, c4, c5, c6, c7, c8, c9, c10, c11, c12, c13], _ => exact ⟨c0, c1, c2, c3, c4, c5, c6, c7, c8, c9, c10, c11, c12, c13, rfl⟩
theorem at_some {α : Type} {xs : List α} {i n : Nat} (hl : xs.length = n) (hi : i < n) : ∃ y, xs[i]? = some y := ⟨xs[i], List.getElem?_eq_getElem (by omega)⟩
set_option maxRecDepth 100000 in
theorem fop_cells {H : Type} {enc : TypeId × Value → H} {W : World} {base : Nat} {sp : Nat → Bool} {held : Bool} {fuel : Nat} {c0 c1 c2 c3 c4 c5 c6 c7 c8 c9 c10 c11 c12 c13 : Value} {x : DataW H × List MemPlace}
    (h : DataW.trod enc Try.prog W base sp held fuel 37 [c0, c1, c2, c3, c4, c5, c6, c7, c8, c9, c10, c11, c12, c13] = some x) : ∃ o : FOp, [c0, c1, c2, c3, c4, c5, c6, c7, c8, c9, c10, c11, c12, c13] = encO o ∧ o.Ok := by
  obtain ⟨xs, m, _, _, _, hxl, hf⟩ := DataW.trod_struct Try.underlying37 h
  obtain ⟨v0, q0⟩ := at_some hxl (i := 0) (by decide)
  obtain ⟨v1, q1⟩ := at_some hxl (i := 1) (by decide)
  obtain ⟨v2, q2⟩ := at_some hxl (i := 2) (by decide)
  obtain ⟨v3, q3⟩ := at_some hxl (i := 3) (by decide)
  obtain ⟨v4, q4⟩ := at_some hxl (i := 4) (by decide)
  have e0 : DataW.trod enc Try.prog W base sp held m 3 [c0] = some v0 := (hf 0 _ rfl).trans q0
  have e1 : DataW.trod enc Try.prog W base sp held m 3 [c1] = some v1 := (hf 1 _ rfl).trans q1
  have e2 : DataW.trod enc Try.prog W base sp held m 35 [c2] = some v2 := (hf 2 _ rfl).trans q2
  have e3 : DataW.trod enc Try.prog W base sp held m 32 [c3, c4] = some v3 := (hf 3 _ rfl).trans q3
  have e4 : DataW.trod enc Try.prog W base sp held m 34 [c5, c6, c7, c8, c9, c10, c11, c12, c13] = some v4 := (hf 4 _ rfl).trans q4
  obtain ⟨k, r0, _, _⟩ := DataW.trod_int Try.underlying3 e0
  obtain ⟨n, r1, _, wn⟩ := DataW.trod_int Try.underlying3 e1
  obtain ⟨u, r2, _, _⟩ := DataW.trod_int Try.underlying35 e2
  obtain ⟨z0, z1, m2, _, _, g0, g1⟩ := trod_struct2 Try.underlying32 e3
  have f0 : DataW.trod enc Try.prog W base sp held m2 3 [c3] = some z0 := g0
  have f1 : DataW.trod enc Try.prog W base sp held m2 3 [c4] = some z1 := g1
  obtain ⟨a0, r3, _, w3⟩ := DataW.trod_int Try.underlying3 f0
  obtain ⟨a1, r4, _, w4⟩ := DataW.trod_int Try.underlying3 f1
  obtain ⟨ys, m3, _, _, _, hyl, hg⟩ := DataW.trod_struct Try.underlying34 e4
  obtain ⟨b0, p0⟩ := at_some hyl (i := 0) (by decide)
  obtain ⟨b1, p1⟩ := at_some hyl (i := 1) (by decide)
  obtain ⟨b2, p2⟩ := at_some hyl (i := 2) (by decide)
  obtain ⟨b3, p3⟩ := at_some hyl (i := 3) (by decide)
  obtain ⟨b4, p4⟩ := at_some hyl (i := 4) (by decide)
  obtain ⟨b5, p5⟩ := at_some hyl (i := 5) (by decide)
  obtain ⟨b6, p6⟩ := at_some hyl (i := 6) (by decide)
  obtain ⟨b7, p7⟩ := at_some hyl (i := 7) (by decide)
  have k0 : DataW.trod enc Try.prog W base sp held m3 3 [c5] = some b0 := (hg 0 _ rfl).trans p0
  have k1 : DataW.trod enc Try.prog W base sp held m3 30 [c6] = some b1 := (hg 1 _ rfl).trans p1
  have k2 : DataW.trod enc Try.prog W base sp held m3 32 [c7, c8] = some b2 := (hg 2 _ rfl).trans p2
  have k3 : DataW.trod enc Try.prog W base sp held m3 3 [c9] = some b3 := (hg 3 _ rfl).trans p3
  have k4 : DataW.trod enc Try.prog W base sp held m3 3 [c10] = some b4 := (hg 4 _ rfl).trans p4
  have k5 : DataW.trod enc Try.prog W base sp held m3 3 [c11] = some b5 := (hg 5 _ rfl).trans p5
  have k6 : DataW.trod enc Try.prog W base sp held m3 3 [c12] = some b6 := (hg 6 _ rfl).trans p6
  have k7 : DataW.trod enc Try.prog W base sp held m3 3 [c13] = some b7 := (hg 7 _ rfl).trans p7
  obtain ⟨y0, t0, _, _⟩ := DataW.trod_int Try.underlying3 k0
  obtain ⟨yo, yn, yc, t1⟩ := Joins.slice_form Try.underlying30 k1
  obtain ⟨z2, z3, m4, _, _, g2, g3⟩ := trod_struct2 Try.underlying32 k2
  have f2 : DataW.trod enc Try.prog W base sp held m4 3 [c7] = some z2 := g2
  have f3 : DataW.trod enc Try.prog W base sp held m4 3 [c8] = some z3 := g3
  obtain ⟨y2, t2, _, _⟩ := DataW.trod_int Try.underlying3 f2
  obtain ⟨y3, t3, _, _⟩ := DataW.trod_int Try.underlying3 f3
  obtain ⟨y4, t4, _, _⟩ := DataW.trod_int Try.underlying3 k3
  obtain ⟨y5, t5, _, _⟩ := DataW.trod_int Try.underlying3 k4
  obtain ⟨y6, t6, _, _⟩ := DataW.trod_int Try.underlying3 k5
  obtain ⟨y7, t7, _, _⟩ := DataW.trod_int Try.underlying3 k6
  obtain ⟨y8, t8, _, _⟩ := DataW.trod_int Try.underlying3 k7
  simp only [List.cons.injEq, and_true] at r0 r1 r2 r3 r4 t0 t1 t2 t3 t4 t5 t6 t7 t8
  refine ⟨⟨k, n, u, a0, a1, y0, yo, yn, yc, y2, y3, y4, y5, y6, y7, y8⟩, ?_, fits_wf wn, fits_wf w3, fits_wf w4⟩
  simp only [encO]
  rw [r0, r1, r2, r3, r4, t0, t1, t2, t3, t4, t5, t6, t7, t8]
set_option maxRecDepth 100000 in
theorem open_fop {H : Type} {enc : TypeId × Value → H} {W : World} {r : Reach} {b0 base : Nat} {sp : Nat → Bool} {held : Bool} {v : Value} {d : DataW H} {p : List MemPlace}
    (hv : Value.okWide Try.prog W r b0 37 v) (h : DataW.Trod enc Try.prog W base sp held 37 v d p) : ∃ o : FOp, v = .agg (encO o).toArray ∧ o.Ok := by
  obtain ⟨cs, rfl, hsz⟩ := okWide_struct Try.underlying37 hv
  rw [cellsFop] at hsz
  obtain ⟨l⟩ := cs
  obtain ⟨c0, c1, c2, c3, c4, c5, c6, c7, c8, c9, c10, c11, c12, c13, rfl⟩ := fourteen (l := l) hsz
  obtain ⟨fuel, hf⟩ := h
  obtain ⟨o, ho, hok⟩ := fop_cells hf
  exact ⟨o, by rw [ho], hok⟩
/-- Calls that came in. -/
def ArgO (ao : Option Addr) (l : List FOp) (W : World) : Prop := ∀ i x, l[i]? = some x → ∃ b off, ao = some ⟨b, off, none⟩ ∧ b < W.heap.size ∧ (∀ j u, (encO x)[j]? = some u → W.cell? ⟨b, off + i * 14 + j, none⟩ = some u) ∧ x.Ok
theorem addp {b off : Nat} {j : Nat} : (⟨b, off, none⟩ : Addr).add j = ⟨b, off + j, none⟩ := by unfold Addr.add; split <;> simp_all
set_option maxRecDepth 100000 in
theorem open_fops {H : Type} {enc : TypeId × Value → H} {W : World} {r : Reach} {b0 : Nat} {held : Bool} {v : Value} {d : DataW H} {p : List MemPlace}
    (hv : Value.okWide Try.prog W r b0 22 v) (h : DataW.Trod enc Try.prog W 0 (fun _ => true) held 22 v d p) (hlt : ∀ x ∈ p, x.block < W.heap.size) : ∃ ao cap l, v = .slice ao (l : List FOp).length cap ∧ ArgO ao l W ∧ l.length ≤ maxLen := by
  obtain ⟨a0, len, cap, rfl⟩ := okWide_slice Try.underlying22 hv
  obtain ⟨fuel, hf⟩ := h
  rcases Deep.open_slice Try.underlying22 hf with ⟨hcs, hx⟩ | ⟨a, len', cap', m, n, D, Pl, hcs, _, hl, hm, hmm, hx, hel⟩
  · simp [Value.cells] at hcs
    obtain ⟨rfl, rfl, rfl⟩ := hcs
    exact ⟨none, 0, [], rfl, fun i x hi => by simp at hi, by simp⟩
  · simp [Value.cells] at hcs
    obtain ⟨rfl, rfl, rfl⟩ := hcs
    simp only [Prod.mk.injEq] at hx
    obtain ⟨_, rfl⟩ := hx
    simp only [if_true] at hmm
    rw [cellsFop] at hel hlt
    have each : ∀ i, i < len → ∃ t : FOp, (∀ j u, (encO t)[j]? = some u → W.cell? ((a.add (i * 14)).add j) = some u) ∧ t.Ok := by
      intro i hi
      obtain ⟨cs', h1, h2⟩ := hel i (by omega)
      obtain ⟨hb1, hc1, hc2⟩ := World.cells?_some h1
      obtain ⟨c0, c1, c2, c3, c4, c5, c6, c7, c8, c9, c10, c11, c12, c13, rfl⟩ := fourteen (l := cs') hc1
      obtain ⟨o, ho, hok⟩ := fop_cells h2
      refine ⟨o, fun j u hu => ?_, hok⟩
      have hj : j < 14 := by have := (List.getElem?_eq_some_iff.1 hu).1; simpa [encO] using this
      rw [hc2 j hj, ho, hu]
    obtain ⟨f, hf⟩ := Deep.choose_lt each
    have hlen : ((List.range len).map f).length = len := by simp
    refine ⟨some a, cap, (List.range len).map f, by rw [hlen], fun i x hi => ?_, by rw [hlen]; omega⟩
    have hil : i < len := by
      have := (List.getElem?_eq_some_iff.1 hi).1
      rwa [hlen] at this
    have hx : f i = x := by
      have : ((List.range len).map f)[i]? = some (f i) := by simp [hil]
      rw [this] at hi
      exact Option.some.inj hi
    obtain ⟨g0, g1⟩ := hf i hil
    rw [hx] at g0 g1
    obtain ⟨b, off, spot⟩ := a
    have hc0 := (hf 0 (by omega)).1 0 _ rfl
    have hspot : spot = none := by simpa [Addr.add] using World.cell?_spot hc0
    subst hspot
    refine ⟨b, off, rfl, hlt (.cell b off) (List.mem_append_left _ (MemPlace.mem_row.2 ⟨0, by omega, by simp⟩)), fun j u hu => ?_, g1⟩
    have := g0 j u hu
    rwa [addp, addp] at this
end Go.Proofs.Ythfilpacmllhpaa.stk
