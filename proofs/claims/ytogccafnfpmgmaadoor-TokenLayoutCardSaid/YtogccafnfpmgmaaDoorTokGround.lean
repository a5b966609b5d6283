/- From what the rows list of the package-level variables to what the walks ask of them; a world that meets it; lists of bytes that came in. -/
import Derived.Test.YtogccafnfpmgmaaDoorFrame
import Derived.Test.YtogccafnfpmgmaaDoorCards
import Derived.Test.YtogccafnfpmgmaaDoorTie
import Derived.Test.YtogccafnfpmgmaaDoorTokT
import Derived.Lib.LaidTab
import Derived.Deep.Slices
namespace Go.Proofs.YtogccafnfpmgmaaDoor.frames
open Go.ChangeShapes Go.WideShapes Go.ChangeAt Go.RowKit Go.Lib Go.Proofs.YtogccafnfpmgmaaDoor.toks
def laidL : List (String × DataW Unit) := Rows.tokenAllRow.laid
theorem gTab : Tryd.prog.globalNamed "math/bits.deBruijn64tab" = some 2 := by kernel_rfl
theorem tTab : (Tryd.prog.globals[2]?).map (·.type) = some 91 := by kernel_rfl
theorem cellsU : Tryd.prog.cellsOf 5 = 1 := by kernel_rfl
/-- An array of bytes that reads as a list of numbers holds them, cell for cell. -/
theorem cell_of_nums {H : Type} {enc : TypeId × Value → H} {P : Program} {w : World} {base : Nat} {sp : Nat → Bool} {held : Bool} {fuel : Nat} {t e : TypeId} {n : Nat} {cs : List Value} {ds : List (DataW H)} {p : List MemPlace}
    (ht : P.underlying t = some (.array n e)) (he : P.underlying e = some (.int .u8)) (hce : P.cellsOf e = 1) (hn : ds.length = n)
    (h : DataW.trod enc P w base sp held fuel t cs = some (.agg ds, p)) (i : Nat) (hi : i < n) (x : Int) (hx : ds[i]? = some (.lit (.int .u8 x))) : cs[i]? = some (.int .u8 x) := by
  obtain ⟨xs, m, _, hxx, _, hl, hf⟩ := DataW.trod_array ht h
  simp only [Prod.mk.injEq, DataW.agg.injEq] at hxx
  have hfi := hf i hi
  rw [hce, Nat.mul_one] at hfi
  obtain ⟨b, hb⟩ : ∃ b, xs[i]? = some b := ⟨xs[i]'(by omega), List.getElem?_eq_getElem (by omega)⟩
  rw [hb] at hfi
  obtain ⟨y, hc, rfl, _⟩ := DataW.trod_int he hfi
  have h1 : cs[i]? = some (.int .u8 y) := by
    have := congrArg (·[0]?) hc
    simpa [List.getElem?_take, List.getElem?_drop] using this
  have h2 := congrArg (·[i]?) hxx.1
  simp only [List.getElem?_map, hb, Option.map_some] at h2
  rw [hx] at h2
  simp only [Option.some.injEq, DataW.lit.injEq, Lit.int.injEq, true_and] at h2
  rw [h1, h2]
theorem tabled_of {W : World} (h : laidMetH Tryd.prog laidL W) : Tabled W := by
  have h0 : laidMet Tryd.prog laidL W := h
  obtain ⟨ps, ⟨g1, t1, cs1, f1, p1, q1, _, _, _, _, ⟨g', t', cs, fuel, p, q, hg', ht', hvar, hd, _, _⟩, _⟩, _⟩ := h0
  obtain rfl := Option.some.inj (gTab.symm.trans hg')
  obtain rfl := Option.some.inj (tTab.symm.trans ht')
  have hcs := cell_of_nums Tryd.underlying91 Tryd.underlying5 cellsU rfl hd 15 (by decide) 4 rfl
  have h1 := World.var?_cell gTab hvar 15
  unfold Tabled
  rw [h1]
  rw [Array.getElem?_toList] at hcs
  exact hcs
theorem door_met (os : Os) (args : Array Value) : laidMet Tryd.prog laidL ((World.doorLaid Tryd.prog 97 os).forCall (fun _ _ => 0) ⟨#[], args, []⟩).memory :=
  laidMet_of_run' 8 (by kernel_rfl) (by kernel_rfl)
theorem block_lt {W : World} {a : Addr} {v : Value} (h : W.cell? a = some v) : a.block < W.heap.size := by
  rcases Nat.lt_or_ge a.block W.heap.size with h1 | h1
  · exact h1
  · unfold World.cell? at h
    simp [Array.getElem?_eq_none h1] at h
set_option maxRecDepth 100000 in
theorem open_bytes {H : Type} {enc : TypeId × Value → H} {W : World} {r : Reach} {b0 : Nat} {held : Bool} {v : Value} {d : DataW H} {p : List MemPlace}
    (hv : Value.okWide Tryd.prog W r b0 22 v) (h : DataW.Trod enc Tryd.prog W 0 (fun _ => true) held 22 v d p) : ∃ ao cap bs, v = .slice ao (bs : List UInt8).length cap ∧ ArgB ao cap bs W := by
  obtain ⟨a0, len, cap, rfl⟩ := okWide_slice Tryd.underlying22 hv
  obtain ⟨fuel, hf⟩ := h
  rcases Deep.open_slice1 Tryd.underlying22 cellsU hf with ⟨hcs, _⟩ | ⟨a, len', cap', m, n, V, D, Pl, hcs, _, hl, _, hmm, _, hel⟩
  · simp [Value.cells] at hcs
    obtain ⟨rfl, rfl, rfl⟩ := hcs
    exact ⟨none, 0, [], rfl, fun i x hi => by simp at hi, Nat.le_refl _, fun _ => rfl, fun g e => by cases e⟩
  · simp [Value.cells] at hcs
    obtain ⟨rfl, rfl, rfl⟩ := hcs
    simp only [if_true] at hmm
    have hspot : a.spot = none := by
      simp only [Value.okWide, Tryd.underlying22, Cell.okWide] at hv
      have h1 := hv
      simp only [Cell.ok, Tryd.underlying22] at h1
      first
      | exact h1.2.2.2.1
      | (unfold World.has at h1; exact h1.2.2.2.1)
      | simp_all [World.has]
    have each : ∀ i, i < len → ∃ x : UInt8, W.cell? (a.add i) = some (.int .u8 (iv x)) := by
      intro i hi
      obtain ⟨h1, h2⟩ := hel i (by omega)
      obtain ⟨y, hy, _, wy⟩ := DataW.trod_int Tryd.underlying5 h2
      have hy' : V i = .int .u8 y := by simpa using hy
      have hw : 0 ≤ y ∧ y < 256 := by
        simp [Lit.wf, IntKind.min, IntKind.max, IntKind.bits, IntKind.signed] at wy
        omega
      exact ⟨hexU y, by rw [h1, hy', iv_hexU hw.1 hw.2]⟩
    obtain ⟨f, hf⟩ := Deep.choose_lt each
    have hlen : ((List.range len).map f).length = len := by simp
    obtain ⟨b, off, spot⟩ := a
    subst hspot
    refine ⟨some ⟨b, off, none⟩, cap, (List.range len).map f, by rw [hlen], fun i x hi => ?_, by rw [hlen]; omega, (fun e => by cases e), fun g e => by cases e; rfl⟩
    have hil : i < len := by
      have := (List.getElem?_eq_some_iff.1 hi).1
      rwa [hlen] at this
    have hx : f i = x := by
      have : ((List.range len).map f)[i]? = some (f i) := by simp [hil]
      rw [this] at hi
      exact Option.some.inj hi
    have h1 := hf i hil
    rw [hx] at h1
    have e : (⟨b, off, none⟩ : Addr).add i = ⟨b, off + i, none⟩ := by unfold Addr.add; split <;> simp_all
    rw [e] at h1
    exact ⟨b, off, rfl, block_lt h1, h1⟩
end Go.Proofs.YtogccafnfpmgmaaDoor.frames
