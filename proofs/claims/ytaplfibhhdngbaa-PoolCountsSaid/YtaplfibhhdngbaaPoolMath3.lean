/- A segment's longest rows of free cells, as one goes over its cells. -/
import Derived.Test.YtaplfibhhdngbaaPoolMath2
namespace Go.Proofs.Ytaplfibhhdngbaa.rows
/-- One cell more: free, it makes the last row longer or begins one. -/
def refStep (fr : Nat → Bool) (out : List (Nat × Nat)) (i : Nat) : List (Nat × Nat) :=
  if fr i then
    match out.getLast? with
    | some x => if x.1 + x.2 = i then out.dropLast ++ [(x.1, x.2 + 1)] else out ++ [(i, 1)]
    | none => out ++ [(i, 1)]
  else out
def refRuns (fr : Nat → Bool) (a : Nat) : Nat → List (Nat × Nat)
  | 0 => []
  | k + 1 => refStep fr (refRuns fr a k) (a + k)
variable {fr : Nat → Bool} {a : Nat}
theorem ref_succ (k : Nat) : refRuns fr a (k + 1) = refStep fr (refRuns fr a k) (a + k) := rfl
theorem ref_flat (k d : Nat) (h : ∀ j, a + k ≤ j → j < a + k + d → fr j = false) : refRuns fr a (k + d) = refRuns fr a k := by
  induction d with
  | zero => rfl
  | succ d ih =>
    rw [show k + (d + 1) = (k + d) + 1 by omega, ref_succ]
    unfold refStep
    rw [h (a + (k + d)) (by omega) (by omega), ih (fun j h1 h2 => h j h1 (by omega)), if_neg (by simp)]
theorem ref_ends (k : Nat) : ∀ x ∈ refRuns fr a k, x.1 + x.2 ≤ a + k ∧ (x.1 + x.2 = a + k → 0 < k ∧ fr (a + k - 1) = true) := by
  induction k with
  | zero => intro x hx; simp [refRuns] at hx
  | succ k ih =>
    intro x hx
    rw [ref_succ] at hx
    unfold refStep at hx
    by_cases hf : fr (a + k) = true
    · rw [if_pos hf] at hx
      have hlast : 0 < k + 1 ∧ fr (a + (k + 1) - 1) = true := ⟨by omega, by rw [show a + (k + 1) - 1 = a + k by omega]; exact hf⟩
      cases hl : (refRuns fr a k).getLast? with
      | none =>
        rw [hl] at hx
        simp only [List.mem_append, List.mem_singleton] at hx
        rcases hx with hx | rfl
        · have := ih x hx; exact ⟨by omega, fun _ => hlast⟩
        · exact ⟨by simp only; omega, fun _ => hlast⟩
      | some y =>
        rw [hl] at hx
        simp only at hx
        split at hx
        · rename_i hy
          simp only [List.mem_append, List.mem_singleton] at hx
          rcases hx with hx | rfl
          · have := ih x ((List.dropLast_sublist _).subset hx); exact ⟨by omega, fun _ => hlast⟩
          · exact ⟨by simp only; omega, fun _ => hlast⟩
        · simp only [List.mem_append, List.mem_singleton] at hx
          rcases hx with hx | rfl
          · have := ih x hx; exact ⟨by omega, fun _ => hlast⟩
          · exact ⟨by simp only; omega, fun _ => hlast⟩
    · rw [if_neg hf] at hx
      have := ih x hx
      exact ⟨by omega, fun e => by omega⟩
theorem ref_row (k n : Nat) (h : ∀ j, a + k ≤ j → j < a + k + (n + 1) → fr j = true) (hh : k = 0 ∨ fr (a + k - 1) = false) : refRuns fr a (k + (n + 1)) = refRuns fr a k ++ [(a + k, n + 1)] := by
  induction n with
  | zero =>
    rw [show k + (0 + 1) = k + 1 from rfl, ref_succ]
    unfold refStep
    rw [if_pos (h (a + k) (by omega) (by omega))]
    cases hl : (refRuns fr a k).getLast? with
    | none => rfl
    | some y =>
      simp only
      rw [if_neg]
      intro e
      have := (ref_ends k y (List.mem_of_getLast? hl)).2 e
      rcases hh with h0 | h0
      · omega
      · rw [h0] at this; cases this.2
  | succ n ih =>
    rw [show k + (n + 1 + 1) = (k + (n + 1)) + 1 by omega, ref_succ]
    rw [ih (fun j h1 h2 => h j h1 (by omega))]
    unfold refStep
    rw [if_pos (h (a + (k + (n + 1))) (by omega) (by omega))]
    simp only [List.getLast?_append, List.getLast?_singleton, Option.some_or, List.dropLast_concat]
    rw [if_pos (by omega)]
theorem ref_len (k : Nat) : (refRuns fr a k).length ≤ k := by
  induction k with
  | zero => simp [refRuns]
  | succ k ih =>
    rw [ref_succ]
    unfold refStep
    split
    · cases hl : (refRuns fr a k).getLast? with
      | none => simp; omega
      | some y =>
        simp only
        split
        · have : refRuns fr a k ≠ [] := by intro e; rw [e] at hl; simp at hl
          have h1 := List.length_pos_iff.2 this
          simp
          omega
        · simp; omega
    · omega

/-- The rows that begin at a or behind it, but ahead of a + k. -/
def rowsF (f : Nat → Nat) (a : Nat) : Nat → List (Nat × Nat)
  | 0 => []
  | k + 1 => if f (a + k) = 0 then rowsF f a k else rowsF f a k ++ [(a + k, f (a + k))]
variable {f : Nat → Nat} {seam : Nat → Prop}
theorem rowsF_skip (k d : Nat) (h : ∀ q, a + k ≤ q → q < a + k + d → f q = 0) : rowsF f a (k + d) = rowsF f a k := by
  induction d with
  | zero => rfl
  | succ d ih =>
    rw [show k + (d + 1) = (k + d) + 1 by omega]
    show (if f (a + (k + d)) = 0 then _ else _) = _
    rw [if_pos (h _ (by omega) (by omega))]
    exact ih (fun q h1 h2 => h q h1 (by omega))
theorem rowsF_to (k m : Nat) (hm : k ≤ m) (h : ∀ q, a + k ≤ q → q < a + m → f q = 0) : rowsF f a m = rowsF f a k := by
  obtain ⟨d, rfl⟩ := Nat.le.dest hm
  exact rowsF_skip k d (fun q h1 h2 => h q h1 (by omega))
theorem Inv.rowsF_one (h : Inv fr seam f) (k : Nat) (hk : 0 < f (a + k)) : rowsF f a (k + f (a + k)) = rowsF f a k ++ [(a + k, f (a + k))] := by
  rw [rowsF_to (k + 1) (k + f (a + k)) (by omega) (fun q h1 h2 => ?_)]
  · show (if f (a + k) = 0 then _ else _) = _
    rw [if_neg (by omega)]
  · rcases Nat.eq_zero_or_pos (f q) with e | e
    · exact e
    · have := h.apart (show a + k < q by omega) hk e
      omega
theorem rowsF_len (k : Nat) : (rowsF f a k).length ≤ k := by
  induction k with
  | zero => simp [rowsF]
  | succ k ih =>
    unfold rowsF
    split
    · omega
    · simp; omega
theorem rowsF_mem (k : Nat) : ∀ x ∈ rowsF f a k, a ≤ x.1 ∧ x.1 < a + k ∧ x.2 = f x.1 ∧ 0 < x.2 := by
  induction k with
  | zero => intro x hx; simp [rowsF] at hx
  | succ k ih =>
    intro x hx
    unfold rowsF at hx
    split at hx
    · have := ih x hx; omega
    · rcases List.mem_append.1 hx with hx | hx
      · have := ih x hx; omega
      · simp only [List.mem_singleton] at hx
        subst hx
        exact ⟨by simp, by simp, rfl, by simp only; omega⟩
/-- Both ways of telling the rows of a segment are one. -/
theorem Inv.rows_ref (h : Inv fr seam f) (ha : seam a) : ∀ k, (∀ j, a < j → j < a + k → ¬ seam j) → (∀ q, a ≤ q → q < a + k → q + f q ≤ a + k) → refRuns fr a k = rowsF f a k := by
  intro k
  induction k using Nat.strongRecOn with
  | ind k ih =>
    intro hs hq
    rcases Nat.eq_zero_or_pos k with rfl | hk
    · rfl
    · cases hf : fr (a + k - 1) with
      | false =>
        have h0 : ∀ q, 0 < f q → q < a + k → q + f q ≤ a + (k - 1) ∨ q < a := fun q g1 g2 => by
          rcases Nat.lt_or_ge q a with g | g
          · exact .inr g
          · left
            have := hq q g g2
            rcases Nat.lt_or_ge (q + f q) (a + k) with g3 | g3
            · omega
            · have := h.free_of (q := q) (j := a + k - 1) (by omega) (by omega)
              rw [hf] at this
              cases this
        have e1 : refRuns fr a k = refRuns fr a (k - 1) := by
          have := ref_flat (fr := fr) (a := a) (k - 1) 1 (fun j g1 g2 => by rw [show j = a + k - 1 by omega]; exact hf)
          rw [show k - 1 + 1 = k by omega] at this
          exact this
        have e2 : rowsF f a k = rowsF f a (k - 1) := rowsF_to (k - 1) k (by omega) (fun q g1 g2 => by
          rcases Nat.eq_zero_or_pos (f q) with e | e
          · exact e
          · have := h0 q e g2; omega)
        rw [e1, e2]
        exact ih (k - 1) (by omega) (fun j g1 g2 => hs j g1 (by omega)) (fun q g1 g2 => by
          rcases Nat.eq_zero_or_pos (f q) with e | e
          · omega
          · have := h0 q e (by omega); omega)
      | true =>
        obtain ⟨q, g1, g2⟩ := h.all _ hf
        have hqa : a ≤ q := by
          rcases Nat.lt_or_ge q a with g | g
          · have := h.stops ha g; omega
          · exact g
        have he := hq q hqa (by omega)
        have hrow := h.run q (by omega)
        obtain ⟨m, rfl⟩ : ∃ m, q = a + m := ⟨q - a, by omega⟩
        have hkm : k = m + f (a + m) := by omega
        have ef := h.rowsF_one (a := a) m (by omega)
        have er := ref_row (fr := fr) (a := a) m (f (a + m) - 1) (fun j g3 g4 => hrow.free j (by omega) (by omega)) (by
          rcases hrow.head with hh | hh
          · left
            rcases Nat.eq_zero_or_pos m with e | e
            · exact e
            · exact absurd hh (hs _ (by omega) (by omega))
          · exact .inr hh.2)
        rw [show f (a + m) - 1 + 1 = f (a + m) by omega, ← hkm] at er
        rw [← hkm] at ef
        rw [ef, er, ih m (by omega) (fun j g1 g2 => hs j g1 (by omega)) (fun q g1 g2 => by
          rcases Nat.eq_zero_or_pos (f q) with e | e
          · omega
          · exact h.apart (by omega) e (by omega))]
/-- Which cells are free and where seams are tells the rows. -/
theorem Inv.uniq {f' : Nat → Nat} (h : Inv fr seam f) (h' : Inv fr seam f') : f = f' := by
  have key : ∀ {f f' : Nat → Nat}, Inv fr seam f → Inv fr seam f' → ∀ q, 0 < f q → f' q = f q := by
    intro f f' h h' q hq
    have hr := h.run q hq
    have h0 := hr.free q (by omega) (by omega)
    obtain ⟨p, p1, p2⟩ := h'.all q h0
    have hp := h'.run p (by omega)
    have e : p = q := by
      rcases Nat.lt_or_ge p q with g | g
      · exfalso
        rcases hr.head with hh | ⟨_, hh⟩
        · exact hp.one q g p2 hh
        · have := hp.free (q - 1) (by omega) (by omega)
          rw [hh] at this
          cases this
      · omega
    subst e
    rcases Nat.lt_trichotomy (f p) (f' p) with g | g | g
    · exfalso
      rcases hr.last with hh | hh
      · exact hp.one _ (by omega) (by omega) hh
      · have := hp.free (p + f p) (by omega) (by omega)
        rw [hh] at this
        cases this
    · exact g.symm
    · exfalso
      rcases hp.last with hh | hh
      · exact hr.one _ (by omega) (by omega) hh
      · have := hr.free (p + f' p) (by omega) (by omega)
        rw [hh] at this
        cases this
  funext q
  rcases Nat.eq_zero_or_pos (f q) with e | e
  · rcases Nat.eq_zero_or_pos (f' q) with e' | e'
    · omega
    · have := key h' h q e'; omega
  · exact (key h h' q e).symm
end Go.Proofs.Ytaplfibhhdngbaa.rows
