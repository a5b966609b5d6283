

/- The laws' arguments as the walks see them: a term, a list of terms. -/
import Derived.Test.YthfilpacmllhpabFrame
import Derived.Test.YthfilpacmllhpabTermA
import Derived.Deep.Slices
import Derived.Lib.SmallJoins
namespace Go.Proofs.Ythfilpacmllhpab.terms
open Go.ChangeShapes Go.WideShapes Go.ChangeAt Go.RowKit Go.Proofs.Ythfilpacmllhpab.frames Go.Proofs.Ythfilpacmllhpab.own
theorem cellsTerm : Try.prog.cellsOf 31 = 4 := by kernel_rfl
theorem fits_of {x : Int} (h : (Lit.int .i64 x).wf = true) : Fits x := by
  have k1 : IntKind.i64.min = -9223372036854775808 := rfl
  have k2 : IntKind.i64.max = 9223372036854775807 := rfl
  simp [Lit.wf, k1, k2] at h
  exact h
/-- What four cells that read as a term hold. -/
def ReadsT (W : World) (c0 c1 c2 c3 : Value) : Prop := ∃ (t : T) (ao : Option Addr) (cap : Nat), c0 = .int .i64 t.k ∧ c1 = .int .i64 t.n ∧ c2 = .string t.s ∧ c3 = .slice ao t.l.length cap ∧ t.Sane ∧ Lies W ao t.l
/-- What a cell that reads as a list of terms holds. -/
def ReadsL (W : World) (c : Value) : Prop := ∃ (l : List T) (ao : Option Addr) (cap : Nat), c = .slice ao l.length cap ∧ l.length ≤ maxLen ∧ Lies W ao l
theorem open_fields {H : Type} {enc : TypeId × Value → H} {W : World} {held : Bool} {n : Nat} {c0 c1 c2 c3 : Value} {y0 y1 y2 : DataW H × List MemPlace}
    (h0 : DataW.trod enc Try.prog W 0 (fun _ => true) held n 3 [c0] = some y0) (h1 : DataW.trod enc Try.prog W 0 (fun _ => true) held n 3 [c1] = some y1)
    (h2 : DataW.trod enc Try.prog W 0 (fun _ => true) held n 9 [c2] = some y2) (h3 : ReadsL W c3) : ReadsT W c0 c1 c2 c3 := by
  obtain ⟨z0, q0, _, w0⟩ := DataW.trod_int Try.underlying3 h0
  obtain ⟨z1, q1, _, w1⟩ := DataW.trod_int Try.underlying3 h1
  obtain ⟨z2, q2, _, w2⟩ := DataW.trod_string Try.underlying9 h2
  simp only [List.cons.injEq, and_true] at q0 q1 q2
  subst q0 q1 q2
  obtain ⟨l, ao, cap, rfl, hlen, hl⟩ := h3
  exact ⟨.mk z0 z1 z2 l, ao, cap, rfl, rfl, rfl, rfl, ⟨fits_of w0, fits_of w1, w2, hlen⟩, hl⟩
set_option maxRecDepth 100000 in
theorem open_list_at {H : Type} {enc : TypeId × Value → H} {W : World} {held : Bool} : ∀ (fuel : Nat) (c : Value) (x : DataW H × List MemPlace), DataW.trod enc Try.prog W 0 (fun _ => true) held fuel 29 [c] = some x → (∀ q ∈ x.2, q.block < W.heap.size) → W.noneFrozen x.2 → ReadsL W c := by
  intro fuel
  induction fuel using Nat.strongRecOn with
  | ind fuel ih =>
    intro c x hf hlt hfz
    rcases DataW.trod_slice Try.underlying29 hf with ⟨hcs, hx⟩ | ⟨a, len, cap, elems, rest, n, rfl, hcs, rfl, _, hl, hm, hlen, hel, _, _⟩
    · simp only [List.cons.injEq, and_true] at hcs
      exact ⟨[], none, 0, hcs, Nat.zero_le _, Row.nil _ _ _⟩
    · simp only [List.cons.injEq, and_true] at hcs
      subst hcs
      rw [cellsTerm] at hel hlt hfz
      have each : ∀ i, i < len → ∃ q : Value × Value × Value × Value, W.cell? (a.add (i * 4)) = some q.1 ∧ W.cell? ((a.add (i * 4)).add 1) = some q.2.1 ∧ W.cell? ((a.add (i * 4)).add 2) = some q.2.2.1 ∧ W.cell? ((a.add (i * 4)).add 3) = some q.2.2.2 ∧ ReadsT W q.1 q.2.1 q.2.2.1 q.2.2.2 := by
        intro i hi
        have he := hel i hi
        rw [List.getElem?_eq_getElem (by omega)] at he
        obtain ⟨cs', hc', ht⟩ := Option.bind_eq_some_iff.1 he
        obtain ⟨hb1, hc1, hc2⟩ := World.cells?_some hc'
        obtain ⟨c0, c1, c2, c3, rfl⟩ : ∃ c0 c1 c2 c3, cs' = [c0, c1, c2, c3] := by
          match cs', hc1 with
          | [c0, c1, c2, c3], _ => exact ⟨c0, c1, c2, c3, rfl⟩
        obtain ⟨xs, m, hnm, hxs, _, hxl, hfs⟩ := DataW.trod_struct Try.underlying31 ht
        obtain ⟨y0, y1, y2, y3, rfl⟩ : ∃ y0 y1 y2 y3, xs = [y0, y1, y2, y3] := by
          match xs, hxl with
          | [y0, y1, y2, y3], _ => exact ⟨y0, y1, y2, y3, rfl⟩
        have g0 : DataW.trod enc Try.prog W 0 (fun _ => true) held m 3 [c0] = some y0 := hfs 0 _ rfl
        have g1 : DataW.trod enc Try.prog W 0 (fun _ => true) held m 3 [c1] = some y1 := hfs 1 _ rfl
        have g2 : DataW.trod enc Try.prog W 0 (fun _ => true) held m 9 [c2] = some y2 := hfs 2 _ rfl
        have g3 : DataW.trod enc Try.prog W 0 (fun _ => true) held m 29 [c3] = some y3 := hfs 3 _ rfl
        have hsub : ∀ q ∈ y3.2, q.block < W.heap.size := fun q hq => hlt q (List.mem_append_right _ (List.mem_flatMap.2 ⟨elems[i]'(by omega), List.mem_append_left _ (List.getElem_mem _), by rw [hxs]; simp [hq]⟩))
        have hsubz : W.noneFrozen y3.2 := fun b off hq => hfz b off (List.mem_append_right _ (List.mem_flatMap.2 ⟨elems[i]'(by omega), List.mem_append_left _ (List.getElem_mem _), by rw [hxs]; simp [hq]⟩))
        have h3 := ih m (by omega) c3 y3 g3 hsub hsubz
        have k0 := hc2 0 (by omega)
        refine ⟨(c0, c1, c2, c3), by simpa [Addr.add] using k0, hc2 1 (by omega), hc2 2 (by omega), hc2 3 (by omega), open_fields g0 g1 g2 h3⟩
      have each2 : ∀ i, i < len → ∃ q : T × Option Addr × Nat, W.cell? (a.add (i * 4)) = some (.int .i64 q.1.k) ∧ W.cell? ((a.add (i * 4)).add 1) = some (.int .i64 q.1.n) ∧ W.cell? ((a.add (i * 4)).add 2) = some (.string q.1.s) ∧ W.cell? ((a.add (i * 4)).add 3) = some (.slice q.2.1 q.1.l.length q.2.2) ∧ q.1.Sane ∧ Lies W q.2.1 q.1.l := by
        intro i hi
        obtain ⟨q, k0, k1, k2, k3, t, ao, cap', e0, e1, e2, e3, hs, hr⟩ := each i hi
        rw [e0] at k0; rw [e1] at k1; rw [e2] at k2; rw [e3] at k3
        exact ⟨(t, ao, cap'), k0, k1, k2, k3, hs, hr⟩
      obtain ⟨f, hf⟩ : ∃ f : Nat → T × Option Addr × Nat, ∀ i, i < len → W.cell? (a.add (i * 4)) = some (.int .i64 (f i).1.k) ∧ W.cell? ((a.add (i * 4)).add 1) = some (.int .i64 (f i).1.n) ∧ W.cell? ((a.add (i * 4)).add 2) = some (.string (f i).1.s) ∧ W.cell? ((a.add (i * 4)).add 3) = some (.slice (f i).2.1 (f i).1.l.length (f i).2.2) ∧ (f i).1.Sane ∧ Lies W (f i).2.1 (f i).1.l := by
        have inh : Inhabited (T × Option Addr × Nat) := ⟨(default, none, 0)⟩
        exact Deep.choose_lt each2
      have hln : ((List.range len).map (fun i => (f i).1)).length = len := by simp
      have hget : ∀ (i : Nat) (y : T), ((List.range len).map (fun i => (f i).1))[i]? = some y → i < len ∧ y = (f i).1 := by
        intro i y hy
        have hi : i < len := by have := (List.getElem?_eq_some_iff.1 hy).1; omega
        simp [hi] at hy
        exact ⟨hi, hy.symm⟩
      refine ⟨(List.range len).map (fun i => (f i).1), some a, cap, by rw [hln], by rw [hln]; omega, .mk _ _ (fun i => (f i).2.1) (fun i => (f i).2.2) (fun i y hy => ?_) (fun i y hy => ?_)⟩
      · obtain ⟨hi, rfl⟩ := hget i y hy
        obtain ⟨g0, g1, g2, g3, hs, _⟩ := hf i hi
        obtain ⟨b, off, spot⟩ := a
        have hspot : spot = none := by simpa [Addr.add] using World.cell?_spot (hf 0 (by omega)).1
        subst hspot
        refine ⟨b, off, rfl, hlt (.cell b off) (List.mem_append_left _ (MemPlace.mem_row.2 ⟨0, by omega, by simp⟩)), ?_, ?_, ?_, ?_, hs, hfz b (off + i * 4) (List.mem_append_left _ (MemPlace.mem_row.2 ⟨i * 4, by omega, by simp⟩))⟩
        · rw [← add_plain]
          exact g0
        · rw [add_plain, add_plain] at g1
          exact g1
        · rw [add_plain, add_plain] at g2
          exact g2
        · rw [add_plain, add_plain] at g3
          exact g3
      · obtain ⟨hi, rfl⟩ := hget i y hy
        exact (hf i hi).2.2.2.2.2
set_option maxRecDepth 100000 in
theorem open_terms {H : Type} {enc : TypeId × Value → H} {W : World} {r : Reach} {b0 : Nat} {held : Bool} {v : Value} {d : DataW H} {p : List MemPlace}
    (hv : Value.okWide Try.prog W r b0 29 v) (h : DataW.Trod enc Try.prog W 0 (fun _ => true) held 29 v d p) (hlt : ∀ x ∈ p, x.block < W.heap.size) (hfz : W.noneFrozen p) : ∃ ao cap l, v = .slice ao (l : List T).length cap ∧ Lies W ao l ∧ l.length ≤ maxLen := by
  obtain ⟨a0, len, cap, rfl⟩ := okWide_slice Try.underlying29 hv
  obtain ⟨fuel, hf⟩ := h
  obtain ⟨l, ao, cap', e, hlen, hl⟩ := open_list_at fuel (.slice a0 len cap) _ hf hlt hfz
  exact ⟨ao, cap', l, e, hl, hlen⟩
set_option maxRecDepth 100000 in
theorem open_term {H : Type} {enc : TypeId × Value → H} {W : World} {r : Reach} {b0 : Nat} {held : Bool} {v : Value} {d : DataW H} {p : List MemPlace}
    (hv : Value.okWide Try.prog W r b0 31 v) (h : DataW.Trod enc Try.prog W 0 (fun _ => true) held 31 v d p) (hlt : ∀ x ∈ p, x.block < W.heap.size) (hfz : W.noneFrozen p) : ∃ ao cap t, v = tv t ao cap ∧ Lies W ao t.l ∧ t.Sane := by
  obtain ⟨c0, c1, c2, c3, y0, y1, y2, y3, m, rfl, _, rfl, h0, h1, h2, h3⟩ := Joins.open_agg4 Try.underlying31 (by kernel_rfl) cellsTerm hv h
  obtain ⟨t, ao, cap, rfl, rfl, rfl, rfl, hs, hl⟩ := open_fields h0 h1 h2 (open_list_at m c3 y3 h3 (fun q hq => hlt q (by simp [hq])) (fun b off hq => hfz b off (by simp [hq])))
  exact ⟨ao, cap, t, rfl, hl, hs⟩
end Go.Proofs.Ythfilpacmllhpab.terms
