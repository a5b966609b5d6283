/- Which row is the first of so many cells. -/
import Derived.Test.YtaplfibhhdngbaaPoolMath3
namespace Go.Proofs.Ytaplfibhhdngbaa.rows
variable {f : Nat → Nat} {a : Nat}
theorem rowsF_find (n : Nat) (hn : 1 ≤ n) (k : Nat) :
    match (rowsF f a k).find? (fun x => decide (n ≤ x.2)) with
    | some x => a ≤ x.1 ∧ x.1 < a + k ∧ x.2 = f x.1 ∧ n ≤ f x.1 ∧ ∀ q, a ≤ q → q < x.1 → f q < n
    | none => ∀ q, a ≤ q → q < a + k → f q < n := by
  induction k with
  | zero => simp [rowsF]; intro q h1 h2; omega
  | succ k ih =>
    unfold rowsF
    by_cases h0 : f (a + k) = 0
    · rw [if_pos h0]
      split at ih
      · exact ⟨ih.1, by omega, ih.2.2⟩
      · intro q h1 h2
        rcases Nat.lt_or_ge q (a + k) with g | g
        · exact ih q h1 g
        · rw [show q = a + k by omega, h0]; omega
    · rw [if_neg h0, List.find?_append]
      split at ih
      · rename_i x hx
        rw [hx]
        exact ⟨ih.1, by omega, ih.2.2⟩
      · rename_i hx
        rw [hx]
        by_cases hm : n ≤ f (a + k)
        · simp only [List.find?_singleton, hm, decide_true, if_true, Option.none_or]
          exact ⟨by omega, by omega, trivial, trivial, fun q h1 h2 => ih q h1 h2⟩
        · simp only [List.find?_singleton, hm, decide_false, Option.none_or]
          intro q h1 h2
          rcases Nat.lt_or_ge q (a + k) with g | g
          · exact ih q h1 g
          · rw [show q = a + k by omega]; omega
end Go.Proofs.Ytaplfibhhdngbaa.rows
