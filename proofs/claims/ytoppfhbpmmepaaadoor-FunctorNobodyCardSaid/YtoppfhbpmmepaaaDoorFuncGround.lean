/- From what the row lists of the package-level variable to what the walks ask of it; a world that meets it; the laws' arguments. -/
import Derived.Test.YtoppfhbpmmepaaaDoorFrame
import Derived.Test.YtoppfhbpmmepaaaDoorCards
import Derived.Test.YtoppfhbpmmepaaaDoorTie
import Derived.Test.YtoppfhbpmmepaaaDoorFunc22
import Derived.Lib.LaidTab
namespace Go.Proofs.YtoppfhbpmmepaaaDoor.frames
open Go.ChangeShapes Go.WideShapes Go.ChangeAt Go.RowKit Go.Lib Go.Proofs.YtoppfhbpmmepaaaDoor.atoms

def laidL : List (String × DataW Unit) := Rows.functorDoesRow.laid
theorem gRes : Tryd.prog.globalNamed "elenchus/atom.reserved" = some 0 := by kernel_rfl
theorem tRes : (Tryd.prog.globals[0]?).map (·.type) = some 105 := by kernel_rfl
theorem cellsStr : Tryd.prog.cellsOf 9 = 1 := by kernel_rfl
theorem cellsOp : Tryd.prog.cellsOf 36 = 3 := by kernel_rfl

/-- An array of strings that reads as a list of texts holds them, cell for cell. -/
theorem cells_of_strs {H : Type} {enc : TypeId × Value → H} {P : Program} {w : World} {base : Nat} {sp : Nat → Bool} {held : Bool} {fuel : Nat} {t e : TypeId} {n : Nat} {cs : List Value} {ls : List (List UInt8)} {p : List MemPlace}
    (ht : P.underlying t = some (.array n e)) (he : P.underlying e = some .string) (hce : P.cellsOf e = 1) (hn : ls.length = n)
    (h : DataW.trod enc P w base sp held fuel t cs = some (.agg (ls.map fun l => .lit (.string l)), p)) : ∀ i, i < n → cs[i]? = some (.string ⟨(ls.getD i []).toArray⟩) := by
  obtain ⟨xs, m, _, hx, _, hl, hf⟩ := DataW.trod_array ht h
  simp only [Prod.mk.injEq, DataW.agg.injEq] at hx
  intro i hi
  have hfi := hf i hi
  rw [hce, Nat.mul_one] at hfi
  have hb : ∃ b, xs[i]? = some b := ⟨xs[i]'(by omega), List.getElem?_eq_getElem (by omega)⟩
  obtain ⟨b, hb⟩ := hb
  rw [hb] at hfi
  obtain ⟨s, hc, rfl, _⟩ := DataW.trod_string he hfi
  have h1 : cs[i]? = some (.string s) := by
    have := congrArg (·[0]?) hc
    simpa [List.getElem?_take, List.getElem?_drop] using this
  have h2 := congrArg (·[i]?) hx.1
  simp only [List.getElem?_map, hb, Option.map_some] at h2
  have h3 : ls[i]? = some s.data.toList := by
    rw [List.getElem?_eq_getElem (by omega)] at h2 ⊢
    simp only [Option.map_some, Option.some.injEq, DataW.lit.injEq, Lit.string.injEq] at h2
    rw [h2]
  rw [h1]
  simp [List.getD, h3]
theorem listed_of {W : World} (h : laidMetH Tryd.prog laidL W) : Listed W := by
  have h0 : laidMet Tryd.prog laidL W := h
  obtain ⟨ps, ⟨g', t', cs, fuel, p, q, hg', ht', hvar, hd, _, _⟩, _⟩ := h0
  obtain rfl := Option.some.inj (gRes.symm.trans hg')
  obtain rfl := Option.some.inj (tRes.symm.trans ht')
  have hcs := cells_of_strs (ls := resL) Tryd.underlying105 Tryd.underlying9 cellsStr rfl hd
  intro i hi
  have h1 := World.var?_cell gRes hvar i
  rw [h1]
  have h2 := hcs i hi
  rw [Array.getElem?_toList] at h2
  rw [h2]
  rfl
set_option maxRecDepth 100000 in
theorem door_met (os : Os) (args : Array Value) : laidMet Tryd.prog laidL ((World.doorLaid Tryd.prog 100 os).forCall (fun _ _ => 0) ⟨#[], args, []⟩).memory :=
  laidMet_of_run' 8 (by kernel_rfl) (by kernel_rfl)

set_option maxRecDepth 100000 in
theorem open_op {H : Type} {enc : TypeId × Value → H} {W : World} {r : Reach} {b0 base : Nat} {sp : Nat → Bool} {held : Bool} {v : Value} {d : DataW H} {p : List MemPlace}
    (hv : Value.okWide Tryd.prog W r b0 36 v) (h : DataW.Trod enc Tryd.prog W base sp held 36 v d p) : ∃ (k : Int) (n : ByteArray) (x : Int), v = .agg #[.int .i64 k, .string n, .int .i64 x] ∧ (Lit.int .i64 k).wf = true ∧ n.size ≤ maxLen ∧ (Lit.int .i64 x).wf = true := by
  obtain ⟨c0, c1, c2, y0, y1, y2, m, rfl, _, _, hy0, hy1, hy2⟩ := Joins.open_agg3 Tryd.underlying36 (by kernel_rfl) cellsOp hv h
  obtain ⟨k, e0, _, w0⟩ := DataW.trod_int Tryd.underlying3 hy0
  obtain ⟨n, e1, _, w1⟩ := DataW.trod_string Tryd.underlying9 hy1
  obtain ⟨x, e2, _, w2⟩ := DataW.trod_int Tryd.underlying3 hy2
  simp only [List.cons.injEq, and_true] at e0 e1 e2
  subst e0 e1 e2
  exact ⟨k, n, x, rfl, w0, w1, w2⟩
end Go.Proofs.YtoppfhbpmmepaaaDoor.frames
