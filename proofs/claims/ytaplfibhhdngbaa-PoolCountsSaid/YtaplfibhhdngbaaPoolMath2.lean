/- Segments open, close and are taken back; the cells as a list of booleans. -/
import Derived.Test.YtaplfibhhdngbaaPoolMath
namespace Go.Proofs.Ytaplfibhhdngbaa.rows
variable {fr : Nat → Bool} {seam : Nat → Prop} {f : Nat → Nat}

theorem Inv.open_ (h : Inv fr seam f) {top : Nat} {seam' : Nat → Prop} (ht : ∀ j, top ≤ j → fr j = false) (hs : ∀ j, seam' j ↔ seam j ∨ j = top) : Inv fr seam' f := by
  constructor
  · intro q hq
    have r := h.run q hq
    refine ⟨hq, r.free, fun j g1 g2 e => ?_, ?_, ?_⟩
    · rcases (hs j).1 e with e | e
      · exact r.one j g1 g2 e
      · have := r.free j (by omega) g2
        rw [ht j (by omega)] at this
        cases this
    · rcases r.last with e | e
      · exact .inl ((hs _).2 (.inl e))
      · exact .inr e
    · rcases r.head with e | e
      · exact .inl ((hs _).2 (.inl e))
      · exact .inr e
  · exact h.all
/-- No row goes over a seam. -/
theorem Inv.stops (h : Inv fr seam f) {s q : Nat} (hs : seam s) (hq : q < s) : q + f q ≤ s := by
  rcases Nat.lt_or_ge s (q + f q) with hl | hg
  · exact absurd hs ((h.run q (by omega)).one s hq hl)
  · exact hg
/-- A cell at a seam is free just if a row begins there. -/
theorem Inv.at_seam (h : Inv fr seam f) {s : Nat} (hs : seam s) (h0 : f s = 0) : fr s = false := by
  cases hf : fr s with
  | false => rfl
  | true =>
    obtain ⟨q, hq1, hq2⟩ := h.all s hf
    rcases Nat.eq_or_lt_of_le hq1 with e | e
    · subst e; omega
    · have := h.stops hs e; omega
/-- A seam goes away: the row that begins there is left out first. -/
theorem Inv.unseam (h : Inv fr seam f) {s : Nat} {seam' : Nat → Prop} (hs : seam s) (hsub : ∀ j, seam' j → seam j) (hd : ∀ j, seam j → ¬ seam' j → j = s) : Inv (off fr s (f s)) seam' (fun q => if q = s then 0 else f q) := by
  have hfs : off fr s (f s) s = false := by
    unfold off
    split
    · rfl
    · exact h.at_seam hs (by omega)
  constructor
  · intro q hq
    by_cases e1 : q = s
    · rw [if_pos e1] at hq; omega
    rw [if_neg e1] at hq ⊢
    have r := h.run q hq
    have hap : q + f q ≤ s ∨ s + f s ≤ q := by
      rcases Nat.lt_or_ge q s with hl | hg
      · exact .inl (h.stops hs hl)
      · right
        rcases Nat.eq_zero_or_pos (f s) with e | e
        · omega
        · exact h.apart (by omega) e hq
    refine ⟨hq, fun j g1 g2 => ?_, fun j g1 g2 e => r.one j g1 g2 (hsub j e), ?_, ?_⟩
    · unfold off; rw [if_neg (by omega)]; exact r.free j g1 g2
    · by_cases e : seam' (q + f q)
      · exact .inl e
      · right
        rcases r.last with hh | hh
        · rw [hd _ hh e]; exact hfs
        · unfold off; split; rfl; exact hh
    · by_cases e : seam' q
      · exact .inl e
      · right
        rcases r.head with hh | ⟨g5, g6⟩
        · exact absurd (hd _ hh e) e1
        · refine ⟨g5, ?_⟩; unfold off; split; rfl; exact g6
  · intro j hj
    unfold off at hj
    by_cases e : s ≤ j ∧ j < s + f s
    · rw [if_pos e] at hj; cases hj
    · rw [if_neg e] at hj
      obtain ⟨q, hq1, hq2⟩ := h.all j hj
      refine ⟨q, hq1, ?_⟩
      rw [if_neg]
      · exact hq2
      · intro e1
        subst e1
        exact e ⟨hq1, hq2⟩
theorem on_off (fr : Nat → Bool) (a n : Nat) (h : ∀ j, a ≤ j → j < a + n → fr j = true) : on (off fr a n) a n = fr := by
  funext j
  unfold on off
  split
  · rename_i e; exact (h j e.1 e.2).symm
  · rfl
/-- A segment closes: its first row may join the one ahead of the seam. -/
theorem Inv.close (h : Inv fr seam f) {s r : Nat} {seam' : Nat → Prop} {sm : Bool} (hs : seam s) (hsub : ∀ j, seam' j → seam j) (hd : ∀ j, seam j → ¬ seam' j → j = s) (h0 : seam' 0) (hp : 0 < f s) (hsm : sm = true ↔ seam' (s + f s))
    (hr : (r = s ∧ (seam' s ∨ (0 < s ∧ fr (s - 1) = false))) ∨ (r < s ∧ r + f r = s ∧ ¬ seam' s)) : Inv fr seam' (laid f sm r s (f s)) := by
  have hu := h.unseam hs hsub hd
  have rs := h.run s hp
  have hl := Inv.lay (a := s) (n := f s) (r := r) (sm := sm) hu hp (fun j g1 g2 => by unfold off; rw [if_pos ⟨g1, g2⟩]) (fun j g1 g2 e => rs.one j g1 g2 (hsub j e)) hsm h0 (by
    rcases hr with ⟨e, hh⟩ | ⟨g1, g2, g3⟩
    · refine .inl ⟨e, ?_⟩
      rcases hh with hh | ⟨g5, g6⟩
      · exact .inl hh
      · right; refine ⟨g5, ?_⟩; unfold off; split; rfl; exact g6
    · right
      refine ⟨g1, ?_, g3⟩
      rw [if_neg (by omega)]
      exact g2)
  rw [on_off fr s (f s) rs.free] at hl
  refine hl.congr (fun _ => rfl) (fun _ => Iff.rfl) (fun q => ?_)
  unfold laid tailOf
  by_cases e1 : q = r
  · rw [if_pos e1, if_pos e1]
    simp only
    rw [if_neg (show ¬ s + f s = s by omega)]
  · rw [if_neg e1, if_neg e1]
    by_cases e2 : q = s
    · rw [if_pos e2, if_pos e2]
    · rw [if_neg e2, if_neg e2]
      simp only
      rw [if_neg e2]
theorem Inv.close_none (h : Inv fr seam f) {s : Nat} {seam' : Nat → Prop} (hs : seam s) (hsub : ∀ j, seam' j → seam j) (hd : ∀ j, seam j → ¬ seam' j → j = s) (hp : f s = 0) : Inv fr seam' f := by
  refine (h.unseam hs hsub hd).congr (fun j => ?_) (fun _ => Iff.rfl) (fun q => ?_)
  · rw [hp]; unfold off; rw [if_neg (by omega)]
  · by_cases e : q = s
    · rw [if_pos e, e, hp]
    · rw [if_neg e]
/-- All cells from a seam on go away. -/
theorem Inv.back (h : Inv fr seam f) {s : Nat} (hs : seam s) : Inv (fun j => if s ≤ j then false else fr j) seam (fun q => if s ≤ q then 0 else f q) := by
  constructor
  · intro q hq
    by_cases e : s ≤ q
    · rw [if_pos e] at hq; omega
    rw [if_neg e] at hq ⊢
    have r := h.run q hq
    have hle := h.stops hs (show q < s by omega)
    refine ⟨hq, fun j g1 g2 => ?_, r.one, ?_, ?_⟩
    · rw [if_neg (by omega)]; exact r.free j g1 g2
    · rcases r.last with hh | hh
      · exact .inl hh
      · right; split; rfl; exact hh
    · rcases r.head with hh | ⟨g5, g6⟩
      · exact .inl hh
      · right; refine ⟨g5, ?_⟩; split; rfl; exact g6
  · intro j hj
    by_cases e : s ≤ j
    · rw [if_pos e] at hj; cases hj
    · rw [if_neg e] at hj
      obtain ⟨q, hq1, hq2⟩ := h.all j hj
      refine ⟨q, hq1, ?_⟩
      rw [if_neg (by omega)]
      exact hq2

/-! ### The cells as a list -/
/-- n cells from a on, each set to v. -/
def put (F : List Bool) (a : Nat) (v : Bool) : Nat → List Bool
  | 0 => F
  | n + 1 => (put F a v n).set (a + n) v
theorem put_len (F : List Bool) (a : Nat) (v : Bool) (n : Nat) : (put F a v n).length = F.length := by
  induction n with
  | zero => rfl
  | succ n ih => unfold put; rw [List.length_set, ih]
theorem put_get (F : List Bool) (a : Nat) (v : Bool) (n : Nat) (h : a + n ≤ F.length) (j : Nat) : (put F a v n).getD j false = if a ≤ j ∧ j < a + n then v else F.getD j false := by
  induction n with
  | zero => unfold put; rw [if_neg (by omega)]
  | succ n ih =>
    unfold put
    have hl := put_len F a v n
    simp only [List.getD_eq_getElem?_getD, List.getElem?_set] at ih ⊢
    by_cases e : a + n = j
    · subst e
      rw [if_pos rfl, if_pos (by omega), if_pos (by omega)]
      rfl
    · rw [if_neg e, ih (by omega)]
      by_cases e2 : a ≤ j ∧ j < a + n
      · rw [if_pos e2, if_pos (by omega)]
      · rw [if_neg e2, if_neg (by omega)]
/-- How many cells are free. -/
def count (F : List Bool) : Nat := (F.filter id).length
theorem count_set (F : List Bool) (j : Nat) (v : Bool) (hj : j < F.length) : count (F.set j v) + (if F.getD j false then 1 else 0) = count F + (if v then 1 else 0) := by
  induction F generalizing j with
  | nil => simp at hj
  | cons x r ih =>
    cases j with
    | zero =>
      unfold count
      cases x <;> cases v <;> simp
    | succ j =>
      have := ih j (by simpa using hj)
      unfold count at this ⊢
      cases x <;> simp at this ⊢ <;> omega
theorem put_on_count (F : List Bool) (a n : Nat) (h : a + n ≤ F.length) (hf : ∀ j, a ≤ j → j < a + n → F.getD j false = false) : count (put F a true n) = count F + n := by
  induction n with
  | zero => rfl
  | succ n ih =>
    unfold put
    have h1 := count_set (put F a true n) (a + n) true (by rw [put_len]; omega)
    have hx : (put F a true n).getD (a + n) false = false := by rw [put_get F a true n (by omega), if_neg (by omega)]; exact hf (a + n) (by omega) (by omega)
    rw [hx] at h1
    have := ih (by omega) (fun j g1 g2 => hf j g1 (by omega))
    simp at h1
    omega
theorem put_off_count (F : List Bool) (a n : Nat) (h : a + n ≤ F.length) (hf : ∀ j, a ≤ j → j < a + n → F.getD j false = true) : count (put F a false n) + n = count F := by
  induction n with
  | zero => rfl
  | succ n ih =>
    unfold put
    have h1 := count_set (put F a false n) (a + n) false (by rw [put_len]; omega)
    have hx : (put F a false n).getD (a + n) false = true := by rw [put_get F a false n (by omega), if_neg (by omega)]; exact hf (a + n) (by omega) (by omega)
    rw [hx] at h1
    have := ih (by omega) (fun j g1 g2 => hf j g1 (by omega))
    simp at h1
    omega
theorem count_append (F : List Bool) (n : Nat) : count (F ++ List.replicate n false) = count F := by
  unfold count
  simp
theorem count_le (F : List Bool) : count F ≤ F.length := List.length_filter_le _ _
end Go.Proofs.Ytaplfibhhdngbaa.rows
