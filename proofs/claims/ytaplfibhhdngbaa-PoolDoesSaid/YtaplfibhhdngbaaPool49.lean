/- The law's sweep of both. -/
import Derived.Test.YtaplfibhhdngbaaPool45
namespace Go.Proofs.Ytaplfibhhdngbaa.pools
open Go.RowKit Go.Proofs.Ytaplfibhhdngbaa.own Go.Proofs.Ytaplfibhhdngbaa.trees Go.Proofs.Ytaplfibhhdngbaa.rows Go.Proofs.Ytaplfibhhdngbaa.frames
/-- Both pools, of the same cells and starts, in a world that came of w0. -/
structure Two (S R : Nat → Prop) (p x lim : Nat) (F : List Bool) (St : List Nat) (w0 w : World) : Prop where
  pool : Pool S w0.heap.size p lim F St w
  ref : Ref R w0.heap.size x lim F St w
  apart : ∀ j, S j → ¬ R j
  below : Below w0.heap.size w0 w
def Both (p x lim : Nat) (F : List Bool) (St : List Nat) (w0 w : World) : Prop := ∃ S R, Two S R p x lim F St w0 w
theorem Ref.far {R Q : Nat → Prop} {B b lim : Nat} {F : List Bool} {St : List Nat} {w w' : World} (h : Ref R B b lim F St w) (ho : Only Q w w') (hq : ∀ j, R j → ¬ Q j) : Ref R B b lim F St w' := by
  obtain ⟨fo, fcap, so, scap, h⟩ := h
  exact ⟨fo, fcap, so, scap, h.far ho hq⟩
theorem Ref.own {R : Nat → Prop} {B b lim : Nat} {F : List Bool} {St : List Nat} {w : World} (h : Ref R B b lim F St w) : ∀ j, R j → B ≤ j ∧ j < w.heap.size := by
  obtain ⟨fo, fcap, so, scap, h⟩ := h
  exact h.own
variable {S R : Nat → Prop} {p x lim : Nat} {F F' : List Bool} {St St' : List Nat} {w0 w w' w2 w3 : World}
theorem Two.still (h : Two S R p x lim F St w0 w) (ho : Only (fun _ => False) w w') : Two S R p x lim F St w0 w' :=
  ⟨h.pool.only ho, h.ref.far ho (fun _ _ e => e), h.apart, h.below.trans (ho.below h.below.size (fun _ _ e => e.elim))⟩
/-- First the one is turned, then the other. -/
theorem Two.stepped (h : Two S R p x lim F St w0 w) (hp : Pool (Grew S w w2) w0.heap.size p lim F' St' w2) (ho : Only S w w2) (hr : Ref (Grew R w2 w3) w0.heap.size x lim F' St' w3) (ho2 : Only R w2 w3) : Two (Grew S w w2) (Grew R w2 w3) p x lim F' St' w0 w3 := by
  have hpo := h.pool.own
  have hro := h.ref.own
  have h1 := ho.size
  refine ⟨hp.far ho2 (fun j hj e => ?_), hr, fun j hj e => ?_, (h.below.trans (ho.below h.below.size (fun j _ e => (hpo j e).1))).trans (ho2.below (Nat.le_trans h.below.size h1) (fun j _ e => (hro j e).1))⟩
  · rcases hj with hj | hj
    · exact h.apart j hj e
    · have := (hro j e).2; omega
  · rcases hj with hj | hj
    · rcases e with e | e
      · exact h.apart j hj e
      · have := (hpo j hj).2; omega
    · rcases e with e | e
      · have := (hro j e).2; omega
      · omega
/-- The other way round. -/
theorem Two.stepped' (h : Two S R p x lim F St w0 w) (hr : Ref (Grew R w w2) w0.heap.size x lim F' St' w2) (ho : Only R w w2) (hp : Pool (Grew S w2 w3) w0.heap.size p lim F' St' w3) (ho2 : Only S w2 w3) : Two (Grew S w2 w3) (Grew R w w2) p x lim F' St' w0 w3 := by
  have hpo := h.pool.own
  have hro := h.ref.own
  have h1 := ho.size
  refine ⟨hp, hr.far ho2 (fun j hj e => ?_), fun j hj e => ?_, (h.below.trans (ho.below h.below.size (fun j _ e => (hro j e).1))).trans (ho2.below (Nat.le_trans h.below.size h1) (fun j _ e => (hpo j e).1))⟩
  · rcases hj with hj | hj
    · exact h.apart j e hj
    · have := (hpo j e).2; omega
  · rcases hj with hj | hj
    · rcases e with e | e
      · exact h.apart j hj e
      · have := (hpo j hj).2; omega
    · rcases e with e | e
      · have := (hro j e).2; omega
      · omega
/-- The cells as the law's loop has them behind k. -/
def partF (F : List Bool) (n k : Nat) : List Bool := (List.range F.length).map (fun j => F.getD j false || (decide (j < k) && decide (j % n = 0)))
theorem partF_len (F : List Bool) (n k : Nat) : (partF F n k).length = F.length := by simp [partF]
theorem partF_get {n k j : Nat} (hj : j < F.length) : (partF F n k)[j]? = some (F.getD j false || (decide (j < k) && decide (j % n = 0))) := by
  unfold partF
  rw [List.getElem?_map, List.getElem?_range hj]
  rfl
theorem partF_zero (F : List Bool) (n : Nat) : partF F n 0 = F := by
  refine List.ext_getElem? (fun j => ?_)
  rcases Nat.lt_or_ge j F.length with g | g
  · rw [partF_get g, List.getD_eq_getElem?_getD, List.getElem?_eq_getElem g]
    simp
  · rw [List.getElem?_eq_none (by rw [partF_len]; exact g), List.getElem?_eq_none g]
theorem partF_all (F : List Bool) (n : Nat) : partF F n F.length = sweepF F n := by
  unfold partF sweepF
  refine List.map_congr_left (fun j hj => ?_)
  rw [decide_eq_true (List.mem_range.1 hj), Bool.true_and]
theorem partF_at {n k : Nat} (hk : k < F.length) : (partF F n k).getD k false = F.getD k false := by
  rw [List.getD_eq_getElem?_getD, partF_get hk]
  simp
theorem partF_dead {n k : Nat} (hk : k < F.length) (hd : k % n = 0) : partF F n (k + 1) = (partF F n k).set k true := by
  refine List.ext_getElem? (fun j => ?_)
  rcases Nat.lt_or_ge j F.length with g | g
  · rw [partF_get g]
    by_cases e : j = k
    · subst e
      rw [List.getElem?_set_self (by rw [partF_len]; exact g), hd]
      simp
    · rw [List.getElem?_set_ne (fun h => e h.symm), partF_get g]
      have : decide (j < k + 1) = decide (j < k) := by
        by_cases h : j < k
        · rw [decide_eq_true h, decide_eq_true (by omega)]
        · rw [decide_eq_false h, decide_eq_false (by omega)]
      rw [this]
  · rw [List.getElem?_eq_none (by rw [partF_len]; exact g), List.getElem?_eq_none (by rw [List.length_set, partF_len]; exact g)]
theorem partF_same {n k : Nat} (hk : F.getD k false = true ∨ k % n ≠ 0) : partF F n (k + 1) = partF F n k := by
  unfold partF
  refine List.map_congr_left (fun j hj => ?_)
  by_cases e : j = k
  · subst e
    rcases hk with h | h
    · rw [h]; simp
    · rw [decide_eq_false h]; simp
  · have : decide (j < k + 1) = decide (j < k) := by
      by_cases h : j < k
      · rw [decide_eq_true h, decide_eq_true (by omega)]
      · rw [decide_eq_false h, decide_eq_false (by omega)]
    rw [this]
theorem deadL_free1 {n k : Nat} (hf : F.getD k false = true) : deadL F n (k + 1) = deadL F n k := deadL_free (by omega) (fun j h1 h2 => by rw [show j = k by omega]; exact hf)
theorem askL_free1 {k : Nat} (hf : F.getD k false = true) : askL F (k + 1) = askL F k := askL_free (by omega) (fun j h1 h2 => by rw [show j = k by omega]; exact hf)
/-- The law's loop behind k cells. -/
structure LawI (R : Nat → Prop) (B x : Nat) (fo : Option Addr) (fcap : Nat) (so : Option Addr) (scap lim : Nat) (F : List Bool) (St : List Nat) (n k : Nat) (ao : Option Addr) (acap : Nat) (w2 wr : World) : Prop where
  ref : RefAt R B x fo fcap so scap lim (partF F n k) St wr
  row : RowOf enc64 1 3 w2.heap.size ao acap (askL F k) wr
  only : Only R w2 wr
variable {B n k : Nat} {fo so ao ao' : Option Addr} {fcap scap acap acap' : Nat} {wr wr2 : World}
theorem LawI.row_far (h : LawI R B x fo fcap so scap lim F St n k ao acap w2 wr) (hR : ∀ j, R j → j < w2.heap.size) : ∀ g, ao = some g → ¬ R g.block := fun g hg e => by
  have := (h.row.head g hg).2.1
  have := hR _ e
  omega
/-- One cell more is noted. -/
structure Noted (R : Nat → Prop) (B x : Nat) (fo : Option Addr) (fcap : Nat) (so : Option Addr) (scap lim : Nat) (F : List Bool) (St : List Nat) (n k : Nat) (ao : Option Addr) (acap : Nat) (w2 wr : World) : Prop where
  ref : RefAt R B x fo fcap so scap lim (partF F n k) St wr
  row : RowOf enc64 1 3 w2.heap.size ao acap (askL F (k + 1)) wr
  only : Only R w2 wr
theorem LawI.noted (h : LawI R B x fo fcap so scap lim F St n k ao acap w2 wr) (hR : ∀ j, R j → j < w2.heap.size) (hf : F.getD k false = false) (hr : RowOf enc64 1 3 w2.heap.size ao' acap' (askL F k ++ [k]) wr2) (ho : Only (RowAt ao) wr wr2) : Noted R B x fo fcap so scap lim F St n k ao' acap' w2 wr2 := by
  refine ⟨h.ref.far ho (fun j hj e => ?_), by rw [askL_taken hf]; exact hr, h.only.trans ho (fun j hj e => ?_)⟩
  · obtain ⟨g, hg, rfl⟩ := e
    exact h.row_far hR g hg hj
  · obtain ⟨g, hg, rfl⟩ := e
    have := (h.row.head g hg).2.1
    omega
end Go.Proofs.Ytaplfibhhdngbaa.pools
