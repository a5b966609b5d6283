/- Clauses by generations: what is told of a generation stays (plain). -/
import Derived.Test.YthfilpacmllhpabBas28
import Derived.Test.YthfilpacmllhpabBas25
namespace Go.Proofs.Ythfilpacmllhpab.bases
set_option maxRecDepth 100000
open Go.RowKit Go.Proofs.Ythfilpacmllhpab.own Go.Lib Go.Maps Go.WideMaps Go.Proofs.Ythfilpacmllhpab.idx Go.Proofs.Ythfilpacmllhpab.terms
theorem keyF_ok {k n : Int} {s : ByteArray} {m : Nat} (hn : Fits n) (hs : s.size ≤ maxLen) (hm : m ≤ maxLen) : (keyF k n s m).Ok := by
  have c : ∀ a : Int, 0 ≤ a → a ≤ 9223372036854775807 → idx.Fit a := fun a h1 h2 => bases.fit_of (by unfold Fits; omega)
  unfold keyF
  split
  · exact ⟨c 1 (by decide) (by decide), bases.fit_of hn, small_lit (n := 0) (by omega)⟩
  · split
    · exact ⟨c 2 (by decide) (by decide), c 0 (by decide) (by decide), hs⟩
    · split
      · exact ⟨c 3 (by decide) (by decide), c m (by omega) (by unfold maxLen at hm; omega), hs⟩
      · exact zK_ok
theorem firstK_ok {P : Nat → Prop} {w : World} {ao : Option Addr} {t : T} (hl : Row P w ao t.l) : (firstK t).Ok := by
  unfold firstK
  split
  · cases ht : t.l with
    | nil => exact zK_ok
    | cons x xs =>
      obtain ⟨b, off, ro, rc, _, _, _, _, _, _, hs, _⟩ := hl.at (i := 0) (x := x) (by rw [ht]; rfl)
      exact keyF_ok hs.n hs.s hs.l
  · exact zK_ok
theorem indF_ok {t : T} (hs : t.Sane) {nm : Nm} (h : indF t.k t.s t.l.length = some nm) : nm.Ok := by
  have hl := hs.l
  unfold maxLen at hl
  unfold indF at h
  split at h
  · cases h; exact ⟨hs.s, bases.fit_of (x := 0) (by unfold Fits; omega)⟩
  · split at h
    · cases h; exact ⟨hs.s, bases.fit_of (by unfold Fits; show _ ≤ ((t.l.length : Nat) : Int) ∧ ((t.l.length : Nat) : Int) ≤ _; omega)⟩
    · cases h
/-- No slot is of a later generation. -/
abbrev Ads (sl : List Sl) (gen : Int) : Prop := ∀ s ∈ sl, s.ad ≤ gen ∧ 0 ≤ s.ki ∧ s.ki ≤ gen
abbrev Outs (sl : List Sl) (L : List En) : Prop := ∀ e ∈ L, ∃ (i : Nat) (s : Sl), e.id = i ∧ sl[i]? = some s
section
variable {sl : List Sl} {gen g : Int} {s s0 : Sl} {L : List En} {e x : En} {i : Nat}
theorem liveS_now (h : s.ad ≤ gen ∧ 0 ≤ s.ki ∧ s.ki ≤ gen) (hg : gen ≤ g) : liveS g s = (s.ki == 0) := by
  unfold liveS
  rw [decide_eq_true (by omega), decide_eq_false (by omega)]
  simp
theorem live_app (h1 : e.id = i) (h2 : sl[i]? = some s) (g : Int) : liveE (sl ++ [s0]) g e = liveE sl g e := by
  rw [liveE_of h1 h2, liveE_of h1 (show (sl ++ [s0])[i]? = some s by rw [List.getElem?_append_left (List.getElem?_eq_some_iff.1 h2).1]; exact h2)]
theorem filt_app (ho : Outs sl L) (g : Int) : L.filter (liveE (sl ++ [s0]) g) = L.filter (liveE sl g) := List.filter_congr (fun e he => by
  obtain ⟨i, s, h1, h2⟩ := ho e he
  exact live_app h1 h2 g)
theorem filt_now (ha : Ads sl gen) (ho : Outs sl L) (hg : gen ≤ g) : L.filter (liveE sl g) = L.filter (liveE sl gen) := List.filter_congr (fun e he => by
  obtain ⟨i, s, h1, h2⟩ := ho e he
  rw [liveE_of h1 h2, liveE_of h1 h2, liveS_now (ha s (List.mem_of_getElem? h2)) hg, liveS_now (ha s (List.mem_of_getElem? h2)) (Int.le_refl _)])
theorem filt_ins_no {q : En → Bool} {f : Bool} (hq : q x = false) : (insF f x L).filter q = L.filter q := by
  unfold insF
  split
  · rw [List.filter_cons_of_neg (by simp [hq])]
  · rw [List.filter_append, List.filter_cons_of_neg (by simp [hq])]; simp
theorem filt_ins_yes {q : En → Bool} {f : Bool} (hq : q x = true) : ((insF f x L).filter q).length = (L.filter q).length + 1 := by
  unfold insF
  split
  · rw [List.filter_cons_of_pos hq]; simp
  · rw [List.filter_append, List.filter_cons_of_pos hq]; simp
/-- A slot is killed: what lived in an elder generation lives in it. -/
theorem filt_set (hs : sl[i]? = some s) (hki : s.ki = 0) (hgen : 0 ≤ gen) (hg : g ≤ gen) (ho : Outs sl L) : L.filter (liveE (sl.set i { s with ki := gen + 1 }) g) = L.filter (liveE sl g) := List.filter_congr (fun e he => by
  obtain ⟨j, s', h1, h2⟩ := ho e he
  by_cases hj : i = j
  · subst hj
    have e1 : s' = s := by rw [hs] at h2; exact (Option.some.inj h2).symm
    subst e1
    have hlt := (List.getElem?_eq_some_iff.1 h2).1
    rw [liveE_of h1 h2, liveE_of h1 (s := { s' with ki := gen + 1 }) (by rw [List.getElem?_set_self hlt])]
    unfold liveS
    rw [hki, decide_eq_true (show g < gen + 1 by omega)]
    simp
  · rw [liveE_of h1 h2, liveE_of h1 (s := s') (by rw [List.getElem?_set_ne hj]; exact h2)])
/-- .. and in its own generation it alone lives no longer. -/
theorem filt_die (ha : Ads sl gen) (hs : sl[i]? = some s) (hgen : 0 ≤ gen) (ho : Outs sl L) : L.filter (liveE (sl.set i { s with ki := gen + 1 }) (gen + 1)) = (L.filter (liveE sl gen)).filter (fun x : En => decide (x.id ≠ (i : Int))) := by
  rw [List.filter_filter]
  refine List.filter_congr (fun e he => ?_)
  obtain ⟨j, s', h1, h2⟩ := ho e he
  by_cases hj : i = j
  · subst hj
    have hlt := (List.getElem?_eq_some_iff.1 h2).1
    rw [liveE_of h1 (s := { s with ki := gen + 1 }) (by rw [List.getElem?_set_self hlt])]
    unfold liveS
    rw [decide_eq_false (show ¬ gen + 1 < gen + 1 by omega), decide_eq_false (show ¬ e.id ≠ i by simp [h1])]
    have : (gen + 1 == 0) = false := by simp; omega
    simp [this]
  · rw [liveE_of h1 h2, liveE_of h1 (s := s') (by rw [List.getElem?_set_ne hj]; exact h2), liveS_now (ha s' (List.mem_of_getElem? h2)) (by omega), liveS_now (ha s' (List.mem_of_getElem? h2)) (Int.le_refl _), decide_eq_true (show e.id ≠ i by rw [h1]; omega)]
    simp
theorem die_one (hA : Alone L) {q : En → Bool} (he : e ∈ L) (hq : q e = true) (hi : e.id = i) : ((L.filter q).filter (fun x : En => decide (x.id ≠ (i : Int)))).length + 1 = (L.filter q).length := by
  obtain ⟨A, C, rfl⟩ := List.append_of_mem he
  have h1 : ∀ x ∈ A, x.id ≠ e.id := fun x hx => (List.pairwise_append.1 hA).2.2 x hx e (by simp)
  have h2 : ∀ x ∈ C, x.id ≠ e.id := fun x hx => ((List.pairwise_cons.1 (List.pairwise_append.1 hA).2.1).1 x hx).symm
  have k1 : (A.filter q).filter (fun x : En => decide (x.id ≠ (i : Int))) = A.filter q := List.filter_eq_self.2 (fun x hx => by have := h1 x (List.mem_filter.1 hx).1; rw [hi] at this; exact decide_eq_true this)
  have k2 : (C.filter q).filter (fun x : En => decide (x.id ≠ (i : Int))) = C.filter q := List.filter_eq_self.2 (fun x hx => by have := h2 x (List.mem_filter.1 hx).1; rw [hi] at this; exact decide_eq_true this)
  rw [List.filter_append, List.filter_cons_of_pos hq, List.filter_append, List.filter_cons_of_neg (by simp [hi]), k1, k2]
  simp
  omega
theorem die_no {M : List En} (h : ∀ x ∈ M, x.id ≠ (i : Int)) : M.filter (fun x : En => decide (x.id ≠ (i : Int))) = M := List.filter_eq_self.2 (fun x hx => decide_eq_true (h x hx))
end
/-- The numbers that are told of a predicate in a generation. -/
def tells (sl : List Sl) (p : Pc) (g : Int) : List Int := (p.st.L.filter (liveE sl g)).map (·.id)
/-- What was told of elder generations is told again. -/
structure Kee (sl : List Sl) (ps : List Pc) (gen : Int) (sl' : List Sl) (ps' : List Pc) (gen' : Int) : Prop where
  g : gen ≤ gen'
  p : ∀ p ∈ ps, ∃ p' ∈ ps', p'.nm = p.nm ∧ ∀ g, g ≤ gen → tells sl' p' g = tells sl p g
theorem Kee.refl (sl : List Sl) (ps : List Pc) (gen : Int) : Kee sl ps gen sl ps gen := ⟨Int.le_refl _, fun p hp => ⟨p, hp, rfl, fun _ _ => rfl⟩⟩
theorem Kee.trans {sl sl' sl2 : List Sl} {ps ps' ps2 : List Pc} {gen gen' gen2 : Int} (h : Kee sl ps gen sl' ps' gen') (h' : Kee sl' ps' gen' sl2 ps2 gen2) : Kee sl ps gen sl2 ps2 gen2 := by
  refine ⟨Int.le_trans h.g h'.g, fun p hp => ?_⟩
  obtain ⟨p', h1, h2, h3⟩ := h.p p hp
  obtain ⟨p2, h4, h5, h6⟩ := h'.p p' h1
  exact ⟨p2, h4, h5.trans h2, fun g hg => (h6 g (Int.le_trans hg h.g)).trans (h3 g hg)⟩
end Go.Proofs.Ythfilpacmllhpab.bases
