/- From what the row lists of the package-level variable to what the walks ask of it; a world that meets it; the laws' arguments. -/
import Derived.Test.YtodgjkdhkohckaaDoorFrame
import Derived.Test.YtodgjkdhkohckaaDoorCards
import Derived.Test.YtodgjkdhkohckaaDoorTie
import Derived.Test.YtodgjkdhkohckaaDoorOper22
import Derived.Lib.LaidTab
namespace Go.Proofs.YtodgjkdhkohckaaDoor.frames
open Go.ChangeShapes Go.WideShapes Go.ChangeAt Go.RowKit Go.Lib Go.Proofs.YtodgjkdhkohckaaDoor.opers

def laidL : List (String × DataW Unit) := Rows.operDoesRow.laid
theorem gTyp : Tryd.prog.globalNamed "elenchus/oper.typeNames" = some 0 := by kernel_rfl
theorem tTyp : (Tryd.prog.globals[0]?).map (·.type) = some 72 := by kernel_rfl
theorem cellsStr : Tryd.prog.cellsOf 9 = 1 := by kernel_rfl
theorem cellsApi : Tryd.prog.cellsOf 32 = 3 := by kernel_rfl
theorem cellsOp : Tryd.prog.cellsOf 34 = 5 := by kernel_rfl

/-- An array of strings that reads as a list of texts holds them, cell for cell. -/
theorem cells_of_strs {H : Type} {enc : TypeId × Value → H} {P : Program} {w : World} {base : Nat} {sp : Nat → Bool} {held : Bool} {fuel : Nat} {t e : TypeId} {n : Nat} {cs : List Value} {ls : List (List UInt8)} {p : List MemPlace}
    (ht : P.underlying t = some (.array n e)) (he : P.underlying e = some .string) (hce : P.cellsOf e = 1) (hn : ls.length = n)
    (h : DataW.trod enc P w base sp held fuel t cs = some (.agg (ls.map fun l => .lit (.string l)), p)) : ∀ i, i < n → cs[i]? = some (.string ⟨(ls.getD i []).toArray⟩) := by
  obtain ⟨xs, m, _, hx, _, hl, hf⟩ := DataW.trod_array ht h
  simp only [Prod.mk.injEq, DataW.agg.injEq] at hx
  intro i hi
  have hfi := hf i hi
  rw [hce, Nat.mul_one] at hfi
  have hb : ∃ b, xs[i]? = some b := ⟨xs[i]'(by omega), List.getElem?_eq_getElem (by omega)⟩
  obtain ⟨b, hb⟩ := hb
  rw [hb] at hfi
  obtain ⟨s, hc, rfl, _⟩ := DataW.trod_string he hfi
  have h1 : cs[i]? = some (.string s) := by
    have := congrArg (·[0]?) hc
    simpa [List.getElem?_take, List.getElem?_drop] using this
  have h2 := congrArg (·[i]?) hx.1
  simp only [List.getElem?_map, hb, Option.map_some] at h2
  have h3 : ls[i]? = some s.data.toList := by
    rw [List.getElem?_eq_getElem (by omega)] at h2 ⊢
    simp only [Option.map_some, Option.some.injEq, DataW.lit.injEq, Lit.string.injEq] at h2
    rw [h2]
  rw [h1]
  simp [List.getD, h3]
theorem typed_of {W : World} (h : laidMetH Tryd.prog laidL W) : Typed W := by
  have h0 : laidMet Tryd.prog laidL W := h
  obtain ⟨ps, ⟨g', t', cs, fuel, p, q, hg', ht', hvar, hd, _, _⟩, _⟩ := h0
  obtain rfl := Option.some.inj (gTyp.symm.trans hg')
  obtain rfl := Option.some.inj (tTyp.symm.trans ht')
  have hcs := cells_of_strs (ls := tyL) Tryd.underlying72 Tryd.underlying9 cellsStr rfl hd
  intro i hi
  have h1 := World.var?_cell gTyp hvar i
  rw [h1]
  have h2 := hcs i hi
  rw [Array.getElem?_toList] at h2
  rw [h2]
  rfl
theorem door_met (os : Os) (args : Array Value) : laidMet Tryd.prog laidL ((World.doorLaid Tryd.prog 107 os).forCall (fun _ _ => 0) ⟨#[], args, []⟩).memory :=
  laidMet_of_run' 8 (by kernel_rfl) (by kernel_rfl)

set_option maxRecDepth 100000 in
theorem open_api {H : Type} {enc : TypeId × Value → H} {W : World} {r : Reach} {b0 base : Nat} {sp : Nat → Bool} {held : Bool} {v : Value} {d : DataW H} {p : List MemPlace}
    (hv : Value.okWide Tryd.prog W r b0 32 v) (h : DataW.Trod enc Tryd.prog W base sp held 32 v d p) : ∃ (k x : Int) (n : ByteArray), v = .agg #[.int .i64 k, .int .i64 x, .string n] ∧ (Lit.int .i64 k).wf = true ∧ (Lit.int .i64 x).wf = true ∧ n.size ≤ maxLen := by
  obtain ⟨c0, c1, c2, y0, y1, y2, m, rfl, _, _, hy0, hy1, hy2⟩ := Joins.open_agg3 Tryd.underlying32 (by kernel_rfl) cellsApi hv h
  obtain ⟨k, e0, _, w0⟩ := DataW.trod_int Tryd.underlying3 hy0
  obtain ⟨x, e1, _, w1⟩ := DataW.trod_int Tryd.underlying3 hy1
  obtain ⟨n, e2, _, w2⟩ := DataW.trod_string Tryd.underlying9 hy2
  simp only [List.cons.injEq, and_true] at e0 e1 e2
  subst e0 e1 e2
  exact ⟨k, x, n, rfl, w0, w1, w2⟩
set_option maxRecDepth 100000 in
/-- The five cells of a call. -/
theorem op_cells {H : Type} {enc : TypeId × Value → H} {W : World} {base : Nat} {sp : Nat → Bool} {held : Bool} {fuel : Nat} {c0 c1 c2 c3 c4 : Value} {x : DataW H × List MemPlace}
    (h : DataW.trod enc Tryd.prog W base sp held fuel 34 [c0, c1, c2, c3, c4] = some x) : ∃ (c p k : Int) (n m : ByteArray), c0 = .int .i64 c ∧ c1 = .int .i64 p ∧ c2 = .int .i64 k ∧ c3 = .string n ∧ c4 = .string m ∧ n.size ≤ maxLen ∧ m.size ≤ maxLen := by
  obtain ⟨y0, y1, y2, m, _, _, h0, h1, h2⟩ := Deep.trod_struct3 Tryd.underlying34 h
  have e0 : DataW.trod enc Tryd.prog W base sp held m 3 [c0] = some y0 := h0
  have e1 : DataW.trod enc Tryd.prog W base sp held m 32 [c1, c2, c3] = some y1 := h1
  have e2 : DataW.trod enc Tryd.prog W base sp held m 9 [c4] = some y2 := h2
  obtain ⟨z0, z1, z2, m', _, _, g0, g1, g2⟩ := Deep.trod_struct3 Tryd.underlying32 e1
  have f0 : DataW.trod enc Tryd.prog W base sp held m' 3 [c1] = some z0 := g0
  have f1 : DataW.trod enc Tryd.prog W base sp held m' 3 [c2] = some z1 := g1
  have f2 : DataW.trod enc Tryd.prog W base sp held m' 9 [c3] = some z2 := g2
  obtain ⟨c, q0, _, _⟩ := DataW.trod_int Tryd.underlying3 e0
  obtain ⟨p, q1, _, _⟩ := DataW.trod_int Tryd.underlying3 f0
  obtain ⟨k, q2, _, _⟩ := DataW.trod_int Tryd.underlying3 f1
  obtain ⟨n, q3, _, w3⟩ := DataW.trod_string Tryd.underlying9 f2
  obtain ⟨s, q4, _, w4⟩ := DataW.trod_string Tryd.underlying9 e2
  simp only [List.cons.injEq, and_true] at q0 q1 q2 q3 q4
  exact ⟨c, p, k, n, s, q0, q1, q2, q3, q4, w3, w4⟩
set_option maxRecDepth 100000 in
theorem open_op {H : Type} {enc : TypeId × Value → H} {W : World} {r : Reach} {b0 base : Nat} {sp : Nat → Bool} {held : Bool} {v : Value} {d : DataW H} {p : List MemPlace}
    (hv : Value.okWide Tryd.prog W r b0 34 v) (h : DataW.Trod enc Tryd.prog W base sp held 34 v d p) : ∃ (c p k : Int) (n m : ByteArray), v = .agg #[.int .i64 c, .int .i64 p, .int .i64 k, .string n, .string m] := by
  obtain ⟨cs, rfl, hsz⟩ := okWide_struct Tryd.underlying34 hv
  rw [cellsOp] at hsz
  obtain ⟨l⟩ := cs
  obtain ⟨c0, c1, c2, c3, c4, rfl⟩ : ∃ c0 c1 c2 c3 c4, l = [c0, c1, c2, c3, c4] := by
    match l, hsz with
    | [c0, c1, c2, c3, c4], _ => exact ⟨c0, c1, c2, c3, c4, rfl⟩
  obtain ⟨fuel, hf⟩ := h
  obtain ⟨c, p, k, n, m, rfl, rfl, rfl, rfl, rfl, _, _⟩ := op_cells hf
  exact ⟨c, p, k, n, m, rfl⟩
end Go.Proofs.YtodgjkdhkohckaaDoor.frames
