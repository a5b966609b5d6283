/- A tree of the greatest ones above a row: plain numbers. -/
import Init
namespace Go.Proofs.Ytaplfibhhdngbaa.trees

/-- A tree of 2^k places: at 2^k + p the value of place p, below the greater one of two. -/
structure Tree (k : Nat) (T : List Int) : Prop where
  len : T.length = 2 * 2 ^ k
  most : ∀ i, 1 ≤ i → i < 2 ^ k → T.getD i 0 = max (T.getD (2 * i) 0) (T.getD (2 * i + 1) 0)
theorem pow_pos2 (k : Nat) : 1 ≤ 2 ^ k := Nat.one_le_two_pow
theorem pow_succ2 (k : Nat) : 2 ^ (k + 1) = 2 * 2 ^ k := by rw [Nat.pow_succ]; omega

/-- The node i of depth d: it stands above the places from i * 2^h on, 2^h of them. -/
structure TNode (k d h i : Nat) : Prop where
  sum : d + h = k
  lo : 2 ^ d ≤ i
  hi : i < 2 * 2 ^ d

theorem TNode.cover {k d h i : Nat} (n : TNode k d h i) : 2 ^ k ≤ i * 2 ^ h ∧ (i + 1) * 2 ^ h ≤ 2 * 2 ^ k ∧ 1 ≤ i := by
  obtain ⟨hs, hl, hh⟩ := n
  have hp := pow_pos2 d
  have e : 2 ^ k = 2 ^ d * 2 ^ h := by rw [← hs, Nat.pow_add]
  refine ⟨by rw [e]; exact Nat.mul_le_mul_right _ hl, ?_, by omega⟩
  have : (i + 1) * 2 ^ h ≤ (2 * 2 ^ d) * 2 ^ h := Nat.mul_le_mul_right _ (by omega)
  rw [e, ← Nat.mul_assoc]
  exact this
theorem TNode.leaf {k p : Nat} (hp : p < 2 ^ k) : TNode k k 0 (2 ^ k + p) := ⟨by omega, by omega, by omega⟩
/-- A left child. -/
theorem TNode.left {k d h i : Nat} (n : TNode k d (h + 1) i) : TNode k (d + 1) h (2 * i) := by
  obtain ⟨hs, hl, hh⟩ := n
  exact ⟨by omega, by rw [pow_succ2]; omega, by rw [pow_succ2]; omega⟩
theorem TNode.right {k d h i : Nat} (n : TNode k d (h + 1) i) : TNode k (d + 1) h (2 * i + 1) := by
  obtain ⟨hs, hl, hh⟩ := n
  exact ⟨by omega, by rw [pow_succ2]; omega, by rw [pow_succ2]; omega⟩
theorem TNode.small {k d h i : Nat} (n : TNode k d (h + 1) i) : i < 2 ^ k := by
  obtain ⟨hs, hl, hh⟩ := n
  have e : 2 ^ k = 2 ^ (d + 1) * 2 ^ h := by rw [← Nat.pow_add]; congr 1; omega
  have h1 := pow_pos2 h
  have h2 := pow_succ2 d
  have : 2 ^ (d + 1) * 1 ≤ 2 ^ (d + 1) * 2 ^ h := Nat.mul_le_mul_left _ h1
  omega
theorem TNode.big {k d i : Nat} (n : TNode k d 0 i) : 2 ^ k ≤ i ∧ i < 2 * 2 ^ k := by
  obtain ⟨hs, hl, hh⟩ := n
  have : d = k := by omega
  subst this
  exact ⟨hl, hh⟩
theorem TNode.height {k d h i : Nat} (n : TNode k d h i) : i < 2 ^ k ↔ h ≠ 0 := by
  cases h with
  | zero => have := n.big; constructor <;> intro h1 <;> omega
  | succ h => exact ⟨fun _ => by omega, fun _ => n.small⟩
theorem ends_left (i h : Nat) : (2 * i) * 2 ^ h = i * 2 ^ (h + 1) := by rw [pow_succ2, ← Nat.mul_assoc, Nat.mul_comm i 2]
theorem ends_mid (i h : Nat) : (2 * i + 1) * 2 ^ h = i * 2 ^ (h + 1) + 2 ^ h := by rw [Nat.add_mul, ends_left]; omega
theorem ends_right (i h : Nat) : (2 * i + 1 + 1) * 2 ^ h = (i + 1) * 2 ^ (h + 1) := by
  have : 2 * i + 1 + 1 = 2 * (i + 1) := by omega
  rw [this, ends_left]
/-- Nothing below a node is greater. -/
theorem Tree.below {k : Nat} {T : List Int} (t : Tree k T) : ∀ (h d i : Nat), TNode k d h i → ∀ j, i * 2 ^ h ≤ j → j < (i + 1) * 2 ^ h → T.getD j 0 ≤ T.getD i 0
  | 0, d, i, n, j, h1, h2 => by
    have : j = i := by simp at h1 h2; omega
    rw [this]
    exact Int.le_refl _
  | h + 1, d, i, n, j, h1, h2 => by
    have hm := t.most i (n.cover.2.2) n.small
    have e1 := ends_left i h
    have e2 := ends_mid i h
    have e3 := ends_right i h
    rcases Nat.lt_or_ge j ((2 * i + 1) * 2 ^ h) with hj | hj
    · have := t.below h (d + 1) (2 * i) n.left j (by omega) (by rw [Nat.add_mul] at hj ⊢; omega)
      omega
    · have := t.below h (d + 1) (2 * i + 1) n.right j hj (by omega)
      omega

/-! ### The first place from 'from' on whose value is at least n -/
/-- None of the places from a on up to the index b (the row begins at 2^k) has that much. -/
def Less (T : List Int) (a b : Nat) (n : Int) : Prop := ∀ j, a ≤ j → j < b → T.getD j 0 < n
theorem Less.empty {T : List Int} {a : Nat} {n : Int} : Less T a a n := fun j h1 h2 => by omega
theorem Less.more {k d h i a : Nat} {T : List Int} {n : Int} (t : Tree k T) (l : Less T a (i * 2 ^ h) n) (nd : TNode k d h i) (hi : T.getD i 0 < n) : Less T a ((i + 1) * 2 ^ h) n := by
  intro j h1 h2
  rcases Nat.lt_or_ge j (i * 2 ^ h) with hj | hj
  · exact l j h1 hj
  · have := t.below h d i nd j hj h2
    omega
/-- Behind a node, while one climbs: where it ends, and whether it is the last one. -/
structure Climb (k e i : Nat) : Prop where
  fit : (i = 0 ∧ e = 2 * 2 ^ k) ∨ ∃ d h, TNode k d h i ∧ (i + 1) * 2 ^ h = e
theorem Climb.start {k d h i : Nat} (n : TNode k d h i) : Climb k ((i + 1) * 2 ^ h) i := ⟨.inr ⟨d, h, n, rfl⟩⟩
theorem Climb.up {k e m : Nat} (c : Climb k e (2 * m + 1)) : Climb k e m := by
  obtain ⟨h0 | ⟨d, h, n, he⟩⟩ := c
  · omega
  · refine ⟨?_⟩
    rw [ends_right] at he
    obtain ⟨hs, hl, hh⟩ := n
    cases d with
    | zero =>
      left
      have : m = 0 := by simp at hh; omega
      subst this
      refine ⟨rfl, ?_⟩
      have : h = k := by omega
      subst this
      rw [pow_succ2] at he
      omega
    | succ d =>
      right
      rw [pow_succ2] at hl hh
      exact ⟨d, h + 1, ⟨by omega, by omega, by omega⟩, he⟩
/-- At an even node that is not 0 the next one begins where it ends. -/
theorem Climb.next {k e m : Nat} (c : Climb k e (2 * m)) (h0 : 2 * m ≠ 0) : ∃ d h, TNode k d h (2 * m + 1) ∧ (2 * m + 1) * 2 ^ h = e := by
  obtain ⟨h1 | ⟨d, h, n, he⟩⟩ := c
  · omega
  · obtain ⟨hs, hl, hh⟩ := n
    refine ⟨d, h, ⟨hs, by omega, ?_⟩, he⟩
    cases d with
    | zero => simp at hl hh; omega
    | succ d => rw [pow_succ2] at hl hh ⊢; omega
/-- On the way down: the left one if it has that much, else the right one. -/
theorem down_left {k d h i a : Nat} {T : List Int} {n : Int} (l : Less T a (i * 2 ^ (h + 1)) n) : Less T a ((2 * i) * 2 ^ h) n := by rw [ends_left]; exact l
theorem down_right {k d h i a : Nat} {T : List Int} {n : Int} (t : Tree k T) (l : Less T a (i * 2 ^ (h + 1)) n) (nd : TNode k d (h + 1) i) (hi : n ≤ T.getD i 0) (hl : T.getD (2 * i) 0 < n) : Less T a ((2 * i + 1) * 2 ^ h) n ∧ n ≤ T.getD (2 * i + 1) 0 := by
  have hm := t.most i nd.cover.2.2 nd.small
  refine ⟨?_, by omega⟩
  have := Less.more (h := h) t (i := 2 * i) (by rw [ends_left]; exact l) nd.left hl
  exact this

/-! ### The last place up to 'upto' whose value is not 0 (values are not below 0) -/
/-- From the index b on up to a, the latter among them, all values are 0. -/
def Zero (T : List Int) (b a : Nat) : Prop := ∀ j, b ≤ j → j ≤ a → T.getD j 0 = 0
structure ClimbL (k b i : Nat) : Prop where
  fit : (i = 1 ∧ b = 2 ^ k) ∨ ∃ d h, TNode k d h i ∧ i * 2 ^ h = b
theorem Zero.more {k d h i a : Nat} {T : List Int} (t : Tree k T) (hn : ∀ j, 2 ^ k ≤ j → 0 ≤ T.getD j 0) (l : Zero T ((i + 1) * 2 ^ h) a) (nd : TNode k d h i) (hi : T.getD i 0 = 0) : Zero T (i * 2 ^ h) a := by
  intro j h1 h2
  rcases Nat.lt_or_ge j ((i + 1) * 2 ^ h) with hj | hj
  · have := t.below h d i nd j h1 hj
    have := hn j (by have := nd.cover.1; omega)
    omega
  · exact l j hj h2
theorem ClimbL.up {k b m : Nat} (c : ClimbL k b (2 * m)) (h0 : m ≠ 0) : ClimbL k b m := by
  obtain ⟨h1 | ⟨d, h, n, he⟩⟩ := c
  · omega
  · rw [ends_left] at he
    obtain ⟨hs, hl, hh⟩ := n
    cases d with
    | zero => simp at hl hh; omega
    | succ d =>
      rw [pow_succ2] at hl hh
      exact ⟨.inr ⟨d, h + 1, ⟨by omega, by omega, by omega⟩, he⟩⟩
theorem ClimbL.one {k b : Nat} (c : ClimbL k b 1) : b = 2 ^ k := by
  obtain ⟨⟨_, h1⟩ | ⟨d, h, n, he⟩⟩ := c
  · exact h1
  · obtain ⟨hs, hl, hh⟩ := n
    have hd : d = 0 := by
      cases d with
      | zero => rfl
      | succ d => rw [pow_succ2] at hl; have := pow_pos2 d; omega
    subst hd
    have : h = k := by omega
    subst this
    omega
theorem ClimbL.next {k b m : Nat} (c : ClimbL k b (2 * m + 1)) (h0 : m ≠ 0) : ∃ d h, TNode k d h (2 * m) ∧ (2 * m + 1) * 2 ^ h = b := by
  obtain ⟨h1 | ⟨d, h, n, he⟩⟩ := c
  · omega
  · obtain ⟨hs, hl, hh⟩ := n
    refine ⟨d, h, ⟨hs, ?_, by omega⟩, he⟩
    cases d with
    | zero => simp at hh; omega
    | succ d => rw [pow_succ2] at hl hh ⊢; omega

/-! ### A value is set: the greater ones above it are told anew -/
/-- All is well but at the nodes above, of which i is the next. -/
structure But (k : Nat) (T : List Int) (i : Nat) : Prop where
  len : T.length = 2 * 2 ^ k
  most : ∀ j, 1 ≤ j → j < 2 ^ k → j ≠ i → T.getD j 0 = max (T.getD (2 * j) 0) (T.getD (2 * j + 1) 0)
theorem getD_set {T : List Int} {i j : Nat} {v : Int} (hi : i < T.length) : (T.set i v).getD j 0 = if j = i then v else T.getD j 0 := by
  simp only [List.getD_eq_getElem?_getD, List.getElem?_set]
  by_cases e : i = j
  · subst e; simp [hi]
  · rw [if_neg e, if_neg (fun h => e h.symm)]
theorem Tree.set {k i : Nat} {T : List Int} {v : Int} (t : Tree k T) (hi : i < 2 * 2 ^ k) (h1 : 2 ^ k ≤ i) : But k (T.set i v) (i / 2) := by
  refine ⟨by rw [List.length_set]; exact t.len, ?_⟩
  intro j hj1 hj2 hne
  have hl : i < T.length := by rw [t.len]; exact hi
  rw [getD_set hl, getD_set hl, getD_set hl, if_neg (by omega), if_neg (by omega), if_neg (by omega)]
  exact t.most j hj1 hj2
theorem But.done {k i : Nat} {T : List Int} (b : But k T i) (h : T.getD i 0 = max (T.getD (2 * i) 0) (T.getD (2 * i + 1) 0)) : Tree k T := by
  refine ⟨b.len, ?_⟩
  intro j h1 h2
  by_cases e : j = i
  · subst e; exact h
  · exact b.most j h1 h2 e
theorem But.top {k : Nat} {T : List Int} (b : But k T 0) : Tree k T := ⟨b.len, fun j h1 h2 => b.most j h1 h2 (by omega)⟩
theorem But.up {k i : Nat} {T : List Int} (b : But k T i) (h1 : 1 ≤ i) (h2 : i < 2 ^ k) : But k (T.set i (max (T.getD (2 * i) 0) (T.getD (2 * i + 1) 0))) (i / 2) := by
  have hl : i < T.length := by rw [b.len]; omega
  refine ⟨by rw [List.length_set]; exact b.len, ?_⟩
  intro j hj1 hj2 hne
  rw [getD_set hl, getD_set hl, getD_set hl]
  by_cases e : j = i
  · subst e
    rw [if_pos rfl, if_neg (by omega), if_neg (by omega)]
  · rw [if_neg e, if_neg (by omega), if_neg (by omega)]
    exact b.most j hj1 hj2 e
end Go.Proofs.Ytaplfibhhdngbaa.trees
