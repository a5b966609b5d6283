/- Rows of free cells, without a world: which cells are free, where seams are, and the longest rows. -/
import Init
namespace Go.Proofs.Ytaplfibhhdngbaa.rows

/-- A longest row of n free cells begins at q; no seam lies inside. -/
structure RunAt (fr : Nat → Bool) (seam : Nat → Prop) (q n : Nat) : Prop where
  pos : 0 < n
  free : ∀ j, q ≤ j → j < q + n → fr j = true
  one : ∀ j, q < j → j < q + n → ¬ seam j
  last : seam (q + n) ∨ fr (q + n) = false
  head : seam q ∨ (0 < q ∧ fr (q - 1) = false)
/-- f tells all longest rows: at the place where one begins how long it is, elsewhere 0. -/
structure Inv (fr : Nat → Bool) (seam : Nat → Prop) (f : Nat → Nat) : Prop where
  run : ∀ q, 0 < f q → RunAt fr seam q (f q)
  all : ∀ j, fr j = true → ∃ q, q ≤ j ∧ j < q + f q
variable {fr : Nat → Bool} {seam : Nat → Prop} {f : Nat → Nat}

theorem Inv.apart (h : Inv fr seam f) {a b : Nat} (hab : a < b) (ha : 0 < f a) (hb : 0 < f b) : a + f a ≤ b := by
  rcases Nat.lt_or_ge b (a + f a) with hlt | hge
  · exfalso
    have ra := h.run a ha
    rcases (h.run b hb).head with hs | ⟨h0, hf⟩
    · exact ra.one b hab hlt hs
    · have := ra.free (b - 1) (by omega) (by omega)
      rw [hf] at this
      cases this
  · exact hge
/-- Two rows that touch are apart by a seam. -/
theorem Inv.touch (h : Inv fr seam f) {a : Nat} (ha : 0 < f a) (hb : 0 < f (a + f a)) : seam (a + f a) := by
  rcases (h.run a ha).last with hs | hf
  · exact hs
  · have := (h.run _ hb).free (a + f a) (by omega) (by omega)
    rw [hf] at this
    cases this
theorem Inv.free_of (h : Inv fr seam f) {q j : Nat} (h1 : q ≤ j) (h2 : j < q + f q) : fr j = true := (h.run q (by omega)).free j h1 h2
theorem Inv.congr {fr' : Nat → Bool} {seam' : Nat → Prop} {f' : Nat → Nat} (h : Inv fr seam f) (h1 : ∀ j, fr' j = fr j) (h2 : ∀ j, seam' j ↔ seam j) (h3 : ∀ j, f' j = f j) : Inv fr' seam' f' := by
  have e1 : fr' = fr := funext h1
  have e2 : seam' = seam := funext (fun j => propext (h2 j))
  have e3 : f' = f := funext h3
  rw [e1, e2, e3]
  exact h

/-! ### Is a cell free? The last row that begins at it or ahead of it tells it. -/
theorem Inv.tells (h : Inv fr seam f) {p at_ : Nat} (h1 : p ≤ at_) (h2 : f p ≠ 0) (h3 : ∀ q, p < q → q ≤ at_ → f q = 0) : fr at_ = true ↔ at_ < p + f p := by
  constructor
  · intro hf
    obtain ⟨q, hq1, hq2⟩ := h.all at_ hf
    rcases Nat.lt_trichotomy q p with hl | rfl | hg
    · have := h.apart hl (by omega) (by omega)
      omega
    · exact hq2
    · have := h3 q hg hq1
      omega
  · intro hl
    exact h.free_of h1 hl
theorem Inv.none_tells (h : Inv fr seam f) {at_ : Nat} (h3 : ∀ q, q ≤ at_ → f q = 0) : fr at_ = false := by
  cases hf : fr at_ with
  | false => rfl
  | true =>
    obtain ⟨q, hq1, hq2⟩ := h.all at_ hf
    have := h3 q hq1
    omega
/-- n cells from at on are taken: the first one is, and no row begins among them. -/
theorem Inv.taken (h : Inv fr seam f) {a n : Nat} (hn : 0 < n) : (∀ j, a ≤ j → j < a + n → fr j = false) ↔ fr a = false ∧ ∀ q, a ≤ q → q < a + n → f q = 0 := by
  constructor
  · intro hh
    refine ⟨hh a (by omega) (by omega), fun q h1 h2 => ?_⟩
    rcases Nat.eq_zero_or_pos (f q) with h0 | hp
    · exact h0
    · have := h.free_of (q := q) (j := q) (by omega) (by omega)
      rw [hh q h1 h2] at this
      cases this
  · rintro ⟨h0, hz⟩ j h1 h2
    cases hf : fr j with
    | false => rfl
    | true =>
      obtain ⟨q, hq1, hq2⟩ := h.all j hf
      rcases Nat.lt_or_ge q a with hl | hg
      · have := h.free_of (q := q) (j := a) (by omega) (by omega)
        rw [h0] at this
        cases this
      · have := hz q hg (by omega)
        omega

/-! ### Cells are taken at a row's head -/
def off (fr : Nat → Bool) (a n : Nat) (j : Nat) : Bool := if a ≤ j ∧ j < a + n then false else fr j
def on (fr : Nat → Bool) (a n : Nat) (j : Nat) : Bool := if a ≤ j ∧ j < a + n then true else fr j
/-- A row is shortened by n. -/
def cut (f : Nat → Nat) (a n : Nat) (q : Nat) : Nat := if q = a then 0 else if q = a + n ∧ 0 < f a - n then f a - n else f q
theorem Inv.take (h : Inv fr seam f) {a n : Nat} (h1 : 0 < n) (h2 : n ≤ f a) : Inv (off fr a n) seam (cut f a n) := by
  have ra := h.run a (by omega)
  constructor
  · intro q hq
    unfold cut at hq ⊢
    by_cases e1 : q = a
    · rw [if_pos e1] at hq; omega
    rw [if_neg e1] at hq ⊢
    by_cases e2 : q = a + n ∧ 0 < f a - n
    · rw [if_pos e2] at hq ⊢
      obtain ⟨rfl, hp⟩ := e2
      have e3 : a + n + (f a - n) = a + f a := by omega
      refine ⟨hp, fun j g1 g2 => ?_, fun j g1 g2 => ra.one j (by omega) (by omega), ?_, .inr ⟨by omega, ?_⟩⟩
      · unfold off; rw [if_neg (by omega)]; exact ra.free j (by omega) (by omega)
      · rw [e3]; unfold off; rw [if_neg (by omega)]; exact ra.last
      · unfold off; rw [if_pos (by omega)]
    · rw [if_neg e2] at hq ⊢
      have rq := h.run q hq
      have hap : q + f q ≤ a ∨ a + f a ≤ q := by
        rcases Nat.lt_or_ge q a with hl | hg
        · exact .inl (h.apart hl hq (by omega))
        · exact .inr (h.apart (by omega) (by omega) hq)
      refine ⟨hq, fun j g1 g2 => ?_, rq.one, ?_, ?_⟩
      · unfold off; rw [if_neg (by omega)]; exact rq.free j g1 g2
      · rcases rq.last with hs | hf
        · exact .inl hs
        · right; unfold off; split; rfl; exact hf
      · rcases rq.head with hs | ⟨h0, hf⟩
        · exact .inl hs
        · right; refine ⟨h0, ?_⟩; unfold off; split; rfl; exact hf
  · intro j hj
    unfold off at hj
    by_cases e : a ≤ j ∧ j < a + n
    · rw [if_pos e] at hj; cases hj
    · rw [if_neg e] at hj
      obtain ⟨q, hq1, hq2⟩ := h.all j hj
      by_cases e1 : q = a
      · subst e1
        refine ⟨q + n, by omega, ?_⟩
        unfold cut
        rw [if_neg (by omega), if_pos (by omega)]
        omega
      · refine ⟨q, hq1, ?_⟩
        unfold cut
        rw [if_neg e1]
        by_cases e2 : q = a + n ∧ 0 < f a - n
        · exfalso
          have := h.apart (a := a) (b := q) (by omega) (by omega) (by omega)
          omega
        · rw [if_neg e2]; exact hq2

/-! ### Cells are laid -/
/-- The row that begins behind the cells joins them, if no seam lies between. -/
def tailOf (f : Nat → Nat) (sm : Bool) (e : Nat) : Nat := if sm then 0 else f e
/-- The cells [a, a + n) become free: behind them begins a row that joins (sm: a seam is there), ahead of them one at r ends, or none does (r = a). -/
def laid (f : Nat → Nat) (sm : Bool) (r a n : Nat) (q : Nat) : Nat :=
  if q = r then a - r + n + tailOf f sm (a + n) else if q = a then 0 else if q = a + n ∧ sm = false then 0 else f q
theorem Inv.lay (h : Inv fr seam f) {a n r : Nat} {sm : Bool} (hn : 0 < n) (hoff : ∀ j, a ≤ j → j < a + n → fr j = false) (hone : ∀ j, a < j → j < a + n → ¬ seam j) (hsm : sm = true ↔ seam (a + n))
    (h0 : seam 0) (hr : (r = a ∧ (seam a ∨ (0 < a ∧ fr (a - 1) = false))) ∨ (r < a ∧ r + f r = a ∧ ¬ seam a)) : Inv (on fr a n) seam (laid f sm r a n) := by
  have hfa : ∀ q, a ≤ q → q < a + n → f q = 0 := ((h.taken hn).1 hoff).2
  have hcross : ∀ q, q < a → q + f q ≤ a := by
    intro q hq
    rcases Nat.lt_or_ge a (q + f q) with hl | hg
    · have := h.free_of (q := q) (j := a) (by omega) hl
      rw [hoff a (by omega) (by omega)] at this
      cases this
    · exact hg
  -- the row behind
  have htail : ∀ j, a + n ≤ j → j < a + n + tailOf f sm (a + n) → fr j = true ∧ ¬ seam j := by
    intro j g1 g2
    unfold tailOf at g2
    split at g2
    · omega
    · rename_i hs
      refine ⟨h.free_of g1 g2, ?_⟩
      rcases Nat.eq_or_lt_of_le g1 with e | e
      · rw [← e]; intro hh; exact hs (hsm.2 hh)
      · exact (h.run (a + n) (by omega)).one j e g2
  have hend : seam (a + n + tailOf f sm (a + n)) ∨ fr (a + n + tailOf f sm (a + n)) = false := by
    unfold tailOf
    split
    · rename_i hs; exact .inl (hsm.1 hs)
    · rcases Nat.eq_zero_or_pos (f (a + n)) with e | e
      · rw [e]
        rename_i hs
        right
        cases hf : fr (a + n + 0) with
        | false => rfl
        | true =>
          obtain ⟨q, hq1, hq2⟩ := h.all _ hf
          rcases Nat.lt_or_ge q a with hl | hg
          · have := hcross q hl; omega
          · rcases Nat.lt_or_ge q (a + n) with hl2 | hg2
            · have := hfa q hg hl2; omega
            · have : q = a + n := by omega
              subst this
              omega
      · exact (h.run _ e).last
  have hrl : r ≤ a := by omega
  have hrun : ∀ j, r ≤ j → j < a → fr j = true ∧ (r < j → ¬ seam j) := by
    intro j g1 g2
    rcases hr with ⟨e, _⟩ | ⟨g3, g4, _⟩
    · omega
    · exact ⟨h.free_of g1 (by omega), fun g5 => (h.run r (by omega)).one j g5 (by omega)⟩
  constructor
  · intro q hq
    unfold laid at hq ⊢
    by_cases e1 : q = r
    · subst e1
      rw [if_pos rfl] at hq ⊢
      have e3 : q + (a - q + n + tailOf f sm (a + n)) = a + n + tailOf f sm (a + n) := by omega
      refine ⟨hq, fun j g1 g2 => ?_, fun j g1 g2 => ?_, ?_, ?_⟩
      · unfold on
        by_cases e : a ≤ j ∧ j < a + n
        · rw [if_pos e]
        · rw [if_neg e]
          rcases Nat.lt_or_ge j a with hl | hg
          · exact (hrun j g1 hl).1
          · exact (htail j (by omega) (by omega)).1
      · rcases Nat.lt_trichotomy j a with hl | rfl | hg
        · exact (hrun j (by omega) hl).2 g1
        · rcases hr with ⟨e, _⟩ | ⟨_, _, g5⟩
          · omega
          · exact g5
        · rcases Nat.lt_or_ge j (a + n) with hl2 | hg2
          · exact hone j hg hl2
          · exact (htail j hg2 (by omega)).2
      · rw [e3]
        rcases hend with hs | hf
        · exact .inl hs
        · right; unfold on; rw [if_neg (by omega)]; exact hf
      · rcases hr with ⟨rfl, hh⟩ | ⟨g3, g4, _⟩
        · rcases hh with hs | ⟨g5, g6⟩
          · exact .inl hs
          · right; refine ⟨g5, ?_⟩; unfold on; rw [if_neg (by omega)]; exact g6
        · rcases (h.run q (by omega)).head with hs | ⟨g5, g6⟩
          · exact .inl hs
          · right; refine ⟨g5, ?_⟩; unfold on; rw [if_neg (by omega)]; exact g6
    rw [if_neg e1] at hq ⊢
    by_cases e2 : q = a
    · rw [if_pos e2] at hq; omega
    rw [if_neg e2] at hq ⊢
    by_cases e3 : q = a + n ∧ sm = false
    · rw [if_pos e3] at hq; omega
    rw [if_neg e3] at hq ⊢
    have rq := h.run q hq
    have hnin : q < a ∨ a + n ≤ q := by
      rcases Nat.lt_or_ge q a with hl | hg
      · exact .inl hl
      · rcases Nat.lt_or_ge q (a + n) with hl2 | hg2
        · have := hfa q hg hl2; omega
        · exact .inr hg2
    refine ⟨hq, fun j g1 g2 => ?_, rq.one, ?_, ?_⟩
    · unfold on; split; rfl; exact rq.free j g1 g2
    · rcases rq.last with hs | hf
      · exact .inl hs
      · by_cases e : a ≤ q + f q ∧ q + f q < a + n
        · -- it ends where the cells begin: then it is the row r, or a seam is there
          have hqa : q < a := by omega
          have hea : q + f q = a := by have := hcross q hqa; omega
          rcases hr with ⟨rfl, hh⟩ | ⟨g3, g4, _⟩
          · rcases hh with hs | ⟨_, g6⟩
            · left; rw [hea]; exact hs
            · have := rq.free (r - 1) (by omega) (by omega)
              rw [g6] at this
              cases this
          · exfalso
            rcases Nat.lt_trichotomy q r with hl | he | hg
            · have := h.apart hl hq (by omega); omega
            · exact e1 he
            · have := h.apart hg (by omega) hq; omega
        · right; unfold on; rw [if_neg e]; exact hf
    · rcases rq.head with hs | ⟨g5, g6⟩
      · exact .inl hs
      · by_cases e : a ≤ q - 1 ∧ q - 1 < a + n
        · have hq2 : q = a + n := by omega
          subst hq2
          left
          have : sm = true := by
            cases sm with
            | true => rfl
            | false => exact absurd ⟨rfl, rfl⟩ e3
          exact hsm.1 this
        · right; refine ⟨g5, ?_⟩; unfold on; rw [if_neg e]; exact g6
  · intro j hj
    unfold on at hj
    by_cases e : a ≤ j ∧ j < a + n
    · refine ⟨r, by omega, ?_⟩
      unfold laid
      rw [if_pos rfl]
      omega
    · rw [if_neg e] at hj
      obtain ⟨q, hq1, hq2⟩ := h.all j hj
      by_cases e1 : q = r
      · subst e1
        refine ⟨q, hq1, ?_⟩
        unfold laid
        rw [if_pos rfl]
        rcases hr with ⟨rfl, _⟩ | ⟨g3, g4, _⟩
        · have := hfa q (by omega) (by omega); omega
        · omega
      · by_cases e2 : q = a + n ∧ sm = false
        · obtain ⟨rfl, rfl⟩ := e2
          refine ⟨r, by omega, ?_⟩
          unfold laid tailOf
          rw [if_pos rfl]
          simp only [Bool.false_eq_true, if_false]
          omega
        · refine ⟨q, hq1, ?_⟩
          unfold laid
          rw [if_neg e1, if_neg, if_neg e2]
          · exact hq2
          · intro e4
            have := hfa q (by omega) (by omega)
            omega
end Go.Proofs.Ytaplfibhhdngbaa.rows
