/- Which cells are taken, behind each call. -/
import Derived.Test.YtaplfibhhdngbaaPool27
namespace Go.Proofs.Ytaplfibhhdngbaa.pools
open Go.Proofs.Ytaplfibhhdngbaa.rows
/-- Is there such a cell, and is it taken? -/
def tk (F : List Bool) (k : Nat) : Bool := decide (k < F.length) && !F.getD k false
theorem tk_false {F : List Bool} {k : Nat} : tk F k = false ↔ F.length ≤ k ∨ F.getD k false = true := by
  unfold tk
  cases F.getD k false <;> simp
theorem tk_true {F : List Bool} {k : Nat} : tk F k = true ↔ k < F.length ∧ F.getD k false = false := by
  unfold tk
  cases F.getD k false <;> simp
theorem ref_free {fr : Nat → Bool} {a : Nat} (k : Nat) : ∀ x ∈ refRuns fr a k, a ≤ x.1 ∧ x.1 + x.2 ≤ a + k ∧ ∀ j, x.1 ≤ j → j < x.1 + x.2 → fr j = true := by
  induction k with
  | zero => intro x hx; simp [refRuns] at hx
  | succ k ih =>
    intro x hx
    rw [ref_succ] at hx
    unfold refStep at hx
    by_cases hf : fr (a + k) = true
    · have new : a ≤ a + k ∧ a + k + 1 ≤ a + (k + 1) ∧ ∀ j, a + k ≤ j → j < a + k + 1 → fr j = true := ⟨by omega, by omega, fun j h1 h2 => by rw [show j = a + k by omega]; exact hf⟩
      have old : ∀ y ∈ refRuns fr a k, a ≤ y.1 ∧ y.1 + y.2 ≤ a + (k + 1) ∧ ∀ j, y.1 ≤ j → j < y.1 + y.2 → fr j = true := fun y hy => by
        have := ih y hy
        exact ⟨this.1, by omega, this.2.2⟩
      rw [if_pos hf] at hx
      cases hl : (refRuns fr a k).getLast? with
      | none =>
        rw [hl] at hx
        simp only [List.mem_append, List.mem_singleton] at hx
        rcases hx with hx | rfl
        · exact old x hx
        · exact new
      | some y =>
        rw [hl] at hx
        simp only at hx
        split at hx
        · rename_i hy
          simp only [List.mem_append, List.mem_singleton] at hx
          rcases hx with hx | rfl
          · exact old x ((List.dropLast_sublist _).subset hx)
          · have := ih y (List.mem_of_getLast? hl)
            refine ⟨this.1, by simp only; omega, fun j h1 h2 => ?_⟩
            simp only at h1 h2
            rcases Nat.lt_or_ge j (a + k) with g | g
            · exact this.2.2 j h1 (by omega)
            · rw [show j = a + k by omega]; exact hf
        · simp only [List.mem_append, List.mem_singleton] at hx
          rcases hx with hx | rfl
          · exact old x hx
          · exact new
    · rw [if_neg hf] at hx
      have := ih x hx
      exact ⟨this.1, by omega, this.2.2⟩
theorem getD_out {F : List Bool} {j : Nat} (h : F.length ≤ j) : F.getD j false = false := by
  rw [List.getD_eq_getElem?_getD, List.getElem?_eq_none h]; rfl
variable {lim : Nat} {F : List Bool} {Ss : List Nat}
/-- What Take tells of the cells. -/
structure Took (lim : Nat) (F : List Bool) (Ss : List Nat) (n : Int) (r : Int × Int × List Bool) (a m : Nat) : Prop where
  at_ : r.1 = a
  n : n = m
  pos : 1 ≤ m
  last : lastOf Ss ≤ a
  fit : a + m ≤ lim
  were : ∀ j, a ≤ j → j < a + m → tk F j = false
  are : ∀ j, tk r.2.2 j = if a ≤ j ∧ j < a + m then true else tk F j
  len : r.2.2.length ≤ lim
  count : count r.2.2 + lim - r.2.2.length + m = count F + lim - F.length
theorem take_told (h : Facts lim F Ss) (n : Int) : ((takeF lim F Ss n).2.1 ≠ 0 ∧ (takeF lim F Ss n).2.2 = F) ∨ ((takeF lim F Ss n).2.1 = 0 ∧ ∃ a m, Took lim F Ss n (takeF lim F Ss n) a m) := by
  unfold takeF
  by_cases h1 : n < 1
  · rw [if_pos h1]; left; simp
  · rw [if_neg h1]
    obtain ⟨m, rfl⟩ : ∃ m : Nat, n = m := ⟨n.toNat, by omega⟩
    simp only [Int.toNat_natCast]
    have hlast : Ss.length - 1 < Ss.length := by have := h.one; omega
    have hE : endOf Ss F (Ss.length - 1) = F.length := by unfold endOf; rw [if_neg (by omega)]
    have hle : lastOf Ss ≤ F.length := h.below _ (getD_mem hlast)
    have hlim := h.limit
    split
    · rename_i x hx
      right
      have hm : m ≤ x.2 := by have := List.find?_some hx; simpa using this
      have hmem := List.mem_of_find?_eq_some hx
      unfold runsP at hmem
      rw [hE] at hmem
      obtain ⟨g1, g2, g3⟩ := ref_free _ x hmem
      change lastOf Ss ≤ x.1 at g1
      have g2' : x.1 + x.2 ≤ F.length := by
        change x.1 + x.2 ≤ lastOf Ss + (F.length - lastOf Ss) at g2
        omega
      refine ⟨rfl, x.1, m, rfl, rfl, by omega, g1, by omega, fun j h2 h3 => tk_false.2 (.inr (g3 j h2 (by omega))), fun j => ?_, by simp only [put_len]; omega, ?_⟩
      · unfold tk
        simp only [put_len]
        rw [put_get F x.1 false m (by omega)]
        by_cases hj : x.1 ≤ j ∧ j < x.1 + m
        · rw [if_pos hj, if_pos hj]; simp; omega
        · rw [if_neg hj, if_neg hj]
      · have hp := put_off_count F x.1 m (by omega) (fun j h2 h3 => g3 j h2 (by omega))
        simp only [put_len]
        omega
    · by_cases hl : lim - F.length < m
      · simp only [if_pos hl]; left; simp
      · simp only [if_neg hl]
        right
        refine ⟨trivial, F.length, m, rfl, rfl, by omega, hle, by omega, fun j h2 h3 => tk_false.2 (.inl h2), fun j => ?_, by simp; omega, ?_⟩
        · have hg := more_get F m j
          unfold tk
          rw [hg]
          simp only [List.length_append, List.length_replicate]
          by_cases hj : F.length ≤ j ∧ j < F.length + m
          · rw [if_pos hj, getD_out hj.1]; simp; omega
          · rw [if_neg hj]
            have : decide (j < F.length + m) = decide (j < F.length) := by
              by_cases e : j < F.length
              · rw [decide_eq_true e, decide_eq_true (by omega)]
              · rw [decide_eq_false e, decide_eq_false (by omega)]
            rw [this]
        · have := count_append F m
          have hc := count_le F
          simp only [List.length_append, List.length_replicate]
          omega
/-- What Give tells of the cells. -/
structure Gave (F : List Bool) (a n : Int) (F' : List Bool) (a' m : Nat) : Prop where
  at_ : a = a'
  n : n = m
  pos : 1 ≤ m
  fit : a' + m ≤ F.length
  are : ∀ j, tk F' j = if a' ≤ j ∧ j < a' + m then false else tk F j
  len : F'.length = F.length
  count : count F' = count F + m
theorem give_told (h : Facts lim F Ss) (a n : Int) : ((giveF F Ss a n).1 ≠ 0 ∧ (giveF F Ss a n).2 = F) ∨ ((giveF F Ss a n).1 = 0 ∧ ∃ a' m, Gave F a n (giveF F Ss a n).2 a' m) := by
  unfold giveF
  by_cases ht : TakenI Ss F a n
  · rw [if_pos ht]
    right
    obtain ⟨h1, h2, h3, h4, ⟨s, hs, hle⟩, hoff⟩ := ht
    obtain ⟨a', rfl⟩ : ∃ m : Nat, a = m := ⟨a.toNat, by omega⟩
    obtain ⟨m, rfl⟩ : ∃ m : Nat, n = m := ⟨n.toNat, by omega⟩
    simp only [Int.toNat_natCast] at *
    have hend : endOf Ss F s ≤ F.length := by
      unfold endOf
      split
      · rename_i hl; exact h.below _ (getD_mem hl)
      · exact Nat.le_refl _
    refine ⟨trivial, a', m, rfl, rfl, h3, by omega, fun j => ?_, put_len _ _ _ _, put_on_count F a' m (by omega) hoff⟩
    unfold tk
    rw [put_len, put_get F a' true m (by omega)]
    by_cases hj : a' ≤ j ∧ j < a' + m
    · rw [if_pos hj, if_pos hj]; simp
    · rw [if_neg hj, if_neg hj]
  · rw [if_neg ht]; left; simp
theorem back_told (s : Nat) (hs : s ≤ F.length) (j : Nat) : tk (F.take s) j = if s ≤ j then false else tk F j := by
  have hl : (F.take s).length = s := by rw [List.length_take]; omega
  by_cases hj : s ≤ j
  · rw [if_pos hj]; exact tk_false.2 (.inl (by omega))
  · rw [if_neg hj]
    unfold tk
    rw [hl]
    simp only [List.getD_eq_getElem?_getD]
    rw [List.getElem?_take_of_lt (by omega), decide_eq_true (show j < s by omega), decide_eq_true (show j < F.length by omega)]
end Go.Proofs.Ytaplfibhhdngbaa.pools
