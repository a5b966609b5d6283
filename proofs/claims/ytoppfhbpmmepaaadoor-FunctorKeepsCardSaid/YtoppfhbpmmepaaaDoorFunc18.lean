/- Functors: what Sweep leaves. -/
import Derived.Test.YtoppfhbpmmepaaaDoorFunc17
namespace Go.Proofs.YtoppfhbpmmepaaaDoor.functors
open Go.RowKit Go.Proofs.YtoppfhbpmmepaaaDoor.own Go.Maps
variable {S SA SF : Nat → Prop} {ta b : Nat} {la made made' lim : Int} {al al' : List atoms.ASlot} {sl sl' : List FSlot} {w0 w w' : World} {low low' : Nat} {B : Nat} {ao : Option Addr} {cap m : Nat}
/-- A slot that was met: marked, it keeps its functor; else it is free. -/
def swept (x : FSlot) : FSlot := if x.mark then ⟨x.name, x.used, false⟩ else freeSlot
/-- The slots under way: those of p were met. -/
def sweepP (sl : List FSlot) (p : Nat → Bool) : List FSlot := sl.mapIdx fun i x => if p i && x.used then swept x else x
theorem sweepP_get (sl : List FSlot) (p : Nat → Bool) (i : Nat) : (sweepP sl p)[i]? = (sl[i]?).map fun x => if p i && x.used then swept x else x := by
  unfold sweepP
  rw [List.getElem?_mapIdx]
theorem sweepP_len (sl : List FSlot) (p : Nat → Bool) : (sweepP sl p).length = sl.length := by
  unfold sweepP
  rw [List.length_mapIdx]
theorem sweepP_none (sl : List FSlot) : sweepP sl (fun _ => false) = sl := by
  apply List.ext_getElem?
  intro i
  rw [sweepP_get]
  simp
/-- One more is met. -/
theorem sweepP_step (sl : List FSlot) {p : Nat → Bool} {j : Nat} {x : FSlot} (hx : sl[j]? = some x) (hu : x.used = true) : sweepP sl (fun i => p i || i == j) = (sweepP sl p).set j (swept x) := by
  have hj := (List.getElem?_eq_some_iff.1 hx).1
  apply List.ext_getElem?
  intro i
  rw [sweepP_get, get_set _ (by rw [sweepP_len]; exact hj), sweepP_get]
  by_cases e : i = j
  · subst e
    rw [if_pos rfl, hx]
    simp [hu]
  · rw [if_neg e]
    have : (i == j) = false := by simpa using e
    rw [this, Bool.or_false]
/-- One that was not met is as it was. -/
theorem sweepP_not {p : Nat → Bool} {j : Nat} {x : FSlot} (hx : sl[j]? = some x) (hp : p j = false) : (sweepP sl p)[j]? = some x := by
  rw [sweepP_get, hx, hp]
  rfl
/-- A table under sweep: what 'low' says is not true of the slots. -/
structure Loose (S : Nat → Prop) (B b : Nat) (lim : Int) (ta : Nat) (ao : Option Addr) (cap m low : Nat) (sl : List FSlot) (w : World) : Prop where
  blk : w.heap[b]? = some (.cells #[.int .i64 lim, .pointer (some ⟨ta, 0, none⟩), .slice ao sl.length cap, .map (some m), .int .i64 low] 83 (0, 0))
  row : SlotsP B ao cap sl w
  map : ∃ D, MapP m (used sl) D w ∧ MapOf D sl
  apart : Apart sl
  wf : ∀ (j : Nat) (x : FSlot), sl[j]? = some x → (x.used = true ↔ 1 ≤ x.name.n)
  few : sl.length ≤ 16384
  bound : 1 ≤ lim ∧ lim ≤ 16384 ∧ (sl.length : Int) ≤ lim
  own : ∀ k, (k = b ∨ k = m ∨ RowAt ao k) → S k
  lt : ∀ k, S k → B ≤ k ∧ k < w.heap.size
  bm : b ≠ m
  other : ∀ g, ao = some g → g.block ≠ b ∧ g.block ≠ m
theorem Core.loose (h : Core S B b lim ta ao cap m low sl w) : Loose S B b lim ta ao cap m low sl w := ⟨h.blk, h.row, h.map, h.apart, h.wf, h.few, h.bound, h.own, h.lt, h.bm, h.other⟩
theorem Loose.close (h : Loose S B b lim ta ao cap m low sl w) : Core S B b lim ta ao cap m 0 sl (w.setCell ⟨b, 4, none⟩ (.int .i64 0)) ∧ Only (· = b) w (w.setCell ⟨b, 4, none⟩ (.int .i64 0)) := by
  have ho : Only (· = b) w (w.setCell ⟨b, 4, none⟩ (.int .i64 0)) := Only.setCell (S := (· = b)) _ (p := ⟨b, 4, none⟩) rfl _
  obtain ⟨D, h1, h2⟩ := h.map
  refine ⟨⟨by simpa using blk_set h.blk 4 (.int .i64 0), h.row.only ho (fun g hg => (h.other _ hg).1), ⟨D, map_only h1 ho (fun e => h.bm e.symm), h2⟩, h.apart, h.wf, h.few, h.bound, ⟨by omega, fun j x hj => by omega⟩, h.own, fun i hi => ⟨(h.lt i hi).1, Nat.lt_of_lt_of_le (h.lt i hi).2 ho.size⟩, h.bm, h.other⟩, ho⟩
theorem Loose.only {S' : Nat → Prop} (h : Loose S B b lim ta ao cap m low sl w) (ho : Only S' w w') (hS : ∀ k, S k → ¬ S' k) : Loose S B b lim ta ao cap m low sl w' := by
  obtain ⟨D, h1, h2⟩ := h.map
  have hb := h.own b (.inl rfl)
  have hm := h.own m (.inr (.inl rfl))
  refine ⟨?_, h.row.only ho (fun g hg => hS _ (h.own _ (.inr (.inr ⟨g, hg, rfl⟩)))), ⟨D, map_only h1 ho (hS m hm), h2⟩, h.apart, h.wf, h.few, h.bound, h.own, fun k hk => ⟨(h.lt k hk).1, Nat.lt_of_lt_of_le (h.lt k hk).2 ho.size⟩, h.bm, h.other⟩
  rw [ho.block b (h.lt b hb).2 (hS b hb)]
  exact h.blk
theorem Loose.slot (h : Loose S B b lim ta ao cap m low sl w) (j : Nat) (x : FSlot) (hx : sl[j]? = some x) : ∃ g, ao = some ⟨g, 0, none⟩ ∧ w.cell? ⟨g, j * 3, none⟩ = some (.int .i64 x.name.a) ∧ w.cell? ⟨g, j * 3 + 1, none⟩ = some (.int .i64 x.name.n) ∧ w.cell? ⟨g, j * 3 + 2, none⟩ = some (.bool x.mark) ∧ w.frozen? ⟨g, j * 3, none⟩ = false ∧ w.frozen? ⟨g, j * 3 + 1, none⟩ = false ∧ w.frozen? ⟨g, j * 3 + 2, none⟩ = false := by
  obtain ⟨g, hg, _, hc⟩ := h.row.at liesS j x hx
  have h0 := hc 0 (by omega)
  have h1 := hc 1 (by omega)
  have h2 := hc 2 (by omega)
  simp only [encS, List.getElem?_cons_zero, List.getElem?_cons_succ, Nat.add_zero] at h0 h1 h2
  exact ⟨g, hg, h0.1, h1.1, h2.1, h0.2, h1.2, h2.2⟩
/-- A slot's functor is taken out: of the map, then of the slot. -/
theorem Loose.del {g : Nat} (h : Loose S B b lim ta (some ⟨g, 0, none⟩) cap m low sl w) {j : Nat} {x : FSlot} (hx : sl[j]? = some x) (hu : x.used = true) {w2 w3 : World} {D : D1} {u : Nat} (hM : MapOf D sl) (h2 : MapP m u (D.del (keyN x.name)) w2) (o2 : Only (· = m) w w2) (e3 : w3 = storedS w2 g j freeSlot) :
    Loose S B b lim ta (some ⟨g, 0, none⟩) cap m low (sl.set j freeSlot) w3 ∧ Only S w w3 := by
  have hj := (List.getElem?_eq_some_iff.1 hx).1
  have hgm := h.other _ rfl
  have hr2 := h.row.only o2 (fun g' hg' e => (h.other g' hg').2 e)
  obtain ⟨hr3, o3⟩ := slot_stored hr2 hj freeSlot
  rw [← e3] at hr3 o3
  have hM' := hM.del h.apart hx hu (y := freeSlot) rfl
  have hl : (sl.set j freeSlot).length = sl.length := List.length_set ..
  have hall : Only S w w3 := (o2.mono (fun k _ e => by subst e; exact h.own _ (.inr (.inl rfl)))).same (o3.mono (fun k _ e => by subst e; exact h.own _ (.inr (.inr ⟨_, rfl, rfl⟩))))
  refine ⟨⟨?_, hr3, ⟨_, ?_, hM'⟩, h.apart.less hx (fun e => by cases e), ?_, by rw [hl]; exact h.few, by rw [hl]; exact h.bound, h.own, fun k hk => ⟨(h.lt k hk).1, Nat.lt_of_lt_of_le (h.lt k hk).2 hall.size⟩, h.bm, h.other⟩, hall⟩
  · rw [hl]
    exact blk_field (blk_field h.blk o2 (fun e => h.bm e)) o3 (fun e => hgm.1 e.symm)
  · rw [← hM'.size]
    exact map_only (tight h2) o3 (fun e => hgm.2 e.symm)
  · intro i y hy
    rw [get_set _ hj] at hy
    split at hy
    · cases hy; simp [freeSlot, noKey]
    · exact h.wf i y hy
/-- A slot's mark is set to v. -/
theorem Loose.marked {g : Nat} (h : Loose S B b lim ta (some ⟨g, 0, none⟩) cap m low sl w) {j : Nat} {x : FSlot} (hx : sl[j]? = some x) (v : Bool) :
    Loose S B b lim ta (some ⟨g, 0, none⟩) cap m low (markS sl j x v) (w.setCell ⟨g, j * 3 + 2, none⟩ (.bool v)) ∧ Only (· = g) w (w.setCell ⟨g, j * 3 + 2, none⟩ (.bool v)) := by
  have hj := (List.getElem?_eq_some_iff.1 hx).1
  obtain ⟨r1, o1⟩ := h.row.stored liesS j 2 x ⟨x.name, x.used, v⟩ (.bool v) hx (by omega) rfl
  obtain ⟨D, h1, h2⟩ := h.map
  have hgb := h.other _ rfl
  have hl : (markS sl j x v).length = sl.length := List.length_set ..
  refine ⟨⟨?_, r1, ⟨D, ?_, h2.mark hx rfl rfl⟩, ?_, ?_, by rw [hl]; exact h.few, by rw [hl]; exact h.bound, h.own, fun k hk => ⟨(h.lt k hk).1, Nat.lt_of_lt_of_le (h.lt k hk).2 o1.size⟩, h.bm, h.other⟩, o1⟩
  · have := blk_field h.blk o1 (fun e => hgb.1 e.symm)
    rw [hl]
    exact this
  · have e : used (markS sl j x v) = used sl := by unfold used markS; rw [prs_mark (y := ⟨x.name, x.used, v⟩) hx rfl rfl]
    rw [e]
    exact map_only h1 o1 (fun e => hgb.2 e.symm)
  · exact h.apart.less hx (fun hu => ⟨hu, rfl⟩)
  · intro i y hy
    unfold markS at hy
    rw [get_set _ hj] at hy
    split at hy
    · cases hy; exact h.wf j x hx
    · exact h.wf i y hy
end Go.Proofs.YtoppfhbpmmepaaaDoor.functors
