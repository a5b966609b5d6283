/- Rows of free cells, without a world: which cells are free, where seams are, and the longest rows, and what follows: 4 texts in one. -/
/- Rows of free cells, without a world: which cells are free, where seams are, and the longest rows. -/
namespace Go.Proofs.Ytaplfibhhdngbaa.rows
section

/-- A longest row of n free cells begins at q; no seam lies inside. -/
structure RunAt (fr : Nat → Bool) (seam : Nat → Prop) (q n : Nat) : Prop where
  pos : 0 < n
  free : ∀ j, q ≤ j → j < q + n → fr j = true
  one : ∀ j, q < j → j < q + n → ¬ seam j
  last : seam (q + n) ∨ fr (q + n) = false
  head : seam q ∨ (0 < q ∧ fr (q - 1) = false)
/-- f tells all longest rows: at the place where one begins how long it is, elsewhere 0. -/
structure Inv (fr : Nat → Bool) (seam : Nat → Prop) (f : Nat → Nat) : Prop where
  run : ∀ q, 0 < f q → RunAt fr seam q (f q)
  all : ∀ j, fr j = true → ∃ q, q ≤ j ∧ j < q + f q
variable {fr : Nat → Bool} {seam : Nat → Prop} {f : Nat → Nat}

theorem Inv.apart (h : Inv fr seam f) {a b : Nat} (hab : a < b) (ha : 0 < f a) (hb : 0 < f b) : a + f a ≤ b := by
  rcases Nat.lt_or_ge b (a + f a) with hlt | hge
  · exfalso
    have ra := h.run a ha
    rcases (h.run b hb).head with hs | ⟨h0, hf⟩
    · exact ra.one b hab hlt hs
    · have := ra.free (b - 1) (by omega) (by omega)
      rw [hf] at this
      cases this
  · exact hge
/-- Two rows that touch are apart by a seam. -/
theorem Inv.touch (h : Inv fr seam f) {a : Nat} (ha : 0 < f a) (hb : 0 < f (a + f a)) : seam (a + f a) := by
  rcases (h.run a ha).last with hs | hf
  · exact hs
  · have := (h.run _ hb).free (a + f a) (by omega) (by omega)
    rw [hf] at this
    cases this
theorem Inv.free_of (h : Inv fr seam f) {q j : Nat} (h1 : q ≤ j) (h2 : j < q + f q) : fr j = true := (h.run q (by omega)).free j h1 h2
theorem Inv.congr {fr' : Nat → Bool} {seam' : Nat → Prop} {f' : Nat → Nat} (h : Inv fr seam f) (h1 : ∀ j, fr' j = fr j) (h2 : ∀ j, seam' j ↔ seam j) (h3 : ∀ j, f' j = f j) : Inv fr' seam' f' := by
  have e1 : fr' = fr := funext h1
  have e2 : seam' = seam := funext (fun j => propext (h2 j))
  have e3 : f' = f := funext h3
  rw [e1, e2, e3]
  exact h

/-! ### Is a cell free? The last row that begins at it or ahead of it tells it. -/
theorem Inv.tells (h : Inv fr seam f) {p at_ : Nat} (h1 : p ≤ at_) (h2 : f p ≠ 0) (h3 : ∀ q, p < q → q ≤ at_ → f q = 0) : fr at_ = true ↔ at_ < p + f p := by
  constructor
  · intro hf
    obtain ⟨q, hq1, hq2⟩ := h.all at_ hf
    rcases Nat.lt_trichotomy q p with hl | rfl | hg
    · have := h.apart hl (by omega) (by omega)
      omega
    · exact hq2
    · have := h3 q hg hq1
      omega
  · intro hl
    exact h.free_of h1 hl
theorem Inv.none_tells (h : Inv fr seam f) {at_ : Nat} (h3 : ∀ q, q ≤ at_ → f q = 0) : fr at_ = false := by
  cases hf : fr at_ with
  | false => rfl
  | true =>
    obtain ⟨q, hq1, hq2⟩ := h.all at_ hf
    have := h3 q hq1
    omega
/-- n cells from at on are taken: the first one is, and no row begins among them. -/
theorem Inv.taken (h : Inv fr seam f) {a n : Nat} (hn : 0 < n) : (∀ j, a ≤ j → j < a + n → fr j = false) ↔ fr a = false ∧ ∀ q, a ≤ q → q < a + n → f q = 0 := by
  constructor
  · intro hh
    refine ⟨hh a (by omega) (by omega), fun q h1 h2 => ?_⟩
    rcases Nat.eq_zero_or_pos (f q) with h0 | hp
    · exact h0
    · have := h.free_of (q := q) (j := q) (by omega) (by omega)
      rw [hh q h1 h2] at this
      cases this
  · rintro ⟨h0, hz⟩ j h1 h2
    cases hf : fr j with
    | false => rfl
    | true =>
      obtain ⟨q, hq1, hq2⟩ := h.all j hf
      rcases Nat.lt_or_ge q a with hl | hg
      · have := h.free_of (q := q) (j := a) (by omega) (by omega)
        rw [h0] at this
        cases this
      · have := hz q hg (by omega)
        omega

/-! ### Cells are taken at a row's head -/
def off (fr : Nat → Bool) (a n : Nat) (j : Nat) : Bool := if a ≤ j ∧ j < a + n then false else fr j
def on (fr : Nat → Bool) (a n : Nat) (j : Nat) : Bool := if a ≤ j ∧ j < a + n then true else fr j
/-- A row is shortened by n. -/
def cut (f : Nat → Nat) (a n : Nat) (q : Nat) : Nat := if q = a then 0 else if q = a + n ∧ 0 < f a - n then f a - n else f q
theorem Inv.take (h : Inv fr seam f) {a n : Nat} (h1 : 0 < n) (h2 : n ≤ f a) : Inv (off fr a n) seam (cut f a n) := by
  have ra := h.run a (by omega)
  constructor
  · intro q hq
    unfold cut at hq ⊢
    by_cases e1 : q = a
    · rw [if_pos e1] at hq; omega
    rw [if_neg e1] at hq ⊢
    by_cases e2 : q = a + n ∧ 0 < f a - n
    · rw [if_pos e2] at hq ⊢
      obtain ⟨rfl, hp⟩ := e2
      have e3 : a + n + (f a - n) = a + f a := by omega
      refine ⟨hp, fun j g1 g2 => ?_, fun j g1 g2 => ra.one j (by omega) (by omega), ?_, .inr ⟨by omega, ?_⟩⟩
      · unfold off; rw [if_neg (by omega)]; exact ra.free j (by omega) (by omega)
      · rw [e3]; unfold off; rw [if_neg (by omega)]; exact ra.last
      · unfold off; rw [if_pos (by omega)]
    · rw [if_neg e2] at hq ⊢
      have rq := h.run q hq
      have hap : q + f q ≤ a ∨ a + f a ≤ q := by
        rcases Nat.lt_or_ge q a with hl | hg
        · exact .inl (h.apart hl hq (by omega))
        · exact .inr (h.apart (by omega) (by omega) hq)
      refine ⟨hq, fun j g1 g2 => ?_, rq.one, ?_, ?_⟩
      · unfold off; rw [if_neg (by omega)]; exact rq.free j g1 g2
      · rcases rq.last with hs | hf
        · exact .inl hs
        · right; unfold off; split; rfl; exact hf
      · rcases rq.head with hs | ⟨h0, hf⟩
        · exact .inl hs
        · right; refine ⟨h0, ?_⟩; unfold off; split; rfl; exact hf
  · intro j hj
    unfold off at hj
    by_cases e : a ≤ j ∧ j < a + n
    · rw [if_pos e] at hj; cases hj
    · rw [if_neg e] at hj
      obtain ⟨q, hq1, hq2⟩ := h.all j hj
      by_cases e1 : q = a
      · subst e1
        refine ⟨q + n, by omega, ?_⟩
        unfold cut
        rw [if_neg (by omega), if_pos (by omega)]
        omega
      · refine ⟨q, hq1, ?_⟩
        unfold cut
        rw [if_neg e1]
        by_cases e2 : q = a + n ∧ 0 < f a - n
        · exfalso
          have := h.apart (a := a) (b := q) (by omega) (by omega) (by omega)
          omega
        · rw [if_neg e2]; exact hq2

/-! ### Cells are laid -/
/-- The row that begins behind the cells joins them, if no seam lies between. -/
def tailOf (f : Nat → Nat) (sm : Bool) (e : Nat) : Nat := if sm then 0 else f e
/-- The cells [a, a + n) become free: behind them begins a row that joins (sm: a seam is there), ahead of them one at r ends, or none does (r = a). -/
def laid (f : Nat → Nat) (sm : Bool) (r a n : Nat) (q : Nat) : Nat :=
  if q = r then a - r + n + tailOf f sm (a + n) else if q = a then 0 else if q = a + n ∧ sm = false then 0 else f q
theorem Inv.lay (h : Inv fr seam f) {a n r : Nat} {sm : Bool} (hn : 0 < n) (hoff : ∀ j, a ≤ j → j < a + n → fr j = false) (hone : ∀ j, a < j → j < a + n → ¬ seam j) (hsm : sm = true ↔ seam (a + n))
    (h0 : seam 0) (hr : (r = a ∧ (seam a ∨ (0 < a ∧ fr (a - 1) = false))) ∨ (r < a ∧ r + f r = a ∧ ¬ seam a)) : Inv (on fr a n) seam (laid f sm r a n) := by
  have hfa : ∀ q, a ≤ q → q < a + n → f q = 0 := ((h.taken hn).1 hoff).2
  have hcross : ∀ q, q < a → q + f q ≤ a := by
    intro q hq
    rcases Nat.lt_or_ge a (q + f q) with hl | hg
    · have := h.free_of (q := q) (j := a) (by omega) hl
      rw [hoff a (by omega) (by omega)] at this
      cases this
    · exact hg
  -- the row behind
  have htail : ∀ j, a + n ≤ j → j < a + n + tailOf f sm (a + n) → fr j = true ∧ ¬ seam j := by
    intro j g1 g2
    unfold tailOf at g2
    split at g2
    · omega
    · rename_i hs
      refine ⟨h.free_of g1 g2, ?_⟩
      rcases Nat.eq_or_lt_of_le g1 with e | e
      · rw [← e]; intro hh; exact hs (hsm.2 hh)
      · exact (h.run (a + n) (by omega)).one j e g2
  have hend : seam (a + n + tailOf f sm (a + n)) ∨ fr (a + n + tailOf f sm (a + n)) = false := by
    unfold tailOf
    split
    · rename_i hs; exact .inl (hsm.1 hs)
    · rcases Nat.eq_zero_or_pos (f (a + n)) with e | e
      · rw [e]
        rename_i hs
        right
        cases hf : fr (a + n + 0) with
        | false => rfl
        | true =>
          obtain ⟨q, hq1, hq2⟩ := h.all _ hf
          rcases Nat.lt_or_ge q a with hl | hg
          · have := hcross q hl; omega
          · rcases Nat.lt_or_ge q (a + n) with hl2 | hg2
            · have := hfa q hg hl2; omega
            · have : q = a + n := by omega
              subst this
              omega
      · exact (h.run _ e).last
  have hrl : r ≤ a := by omega
  have hrun : ∀ j, r ≤ j → j < a → fr j = true ∧ (r < j → ¬ seam j) := by
    intro j g1 g2
    rcases hr with ⟨e, _⟩ | ⟨g3, g4, _⟩
    · omega
    · exact ⟨h.free_of g1 (by omega), fun g5 => (h.run r (by omega)).one j g5 (by omega)⟩
  constructor
  · intro q hq
    unfold laid at hq ⊢
    by_cases e1 : q = r
    · subst e1
      rw [if_pos rfl] at hq ⊢
      have e3 : q + (a - q + n + tailOf f sm (a + n)) = a + n + tailOf f sm (a + n) := by omega
      refine ⟨hq, fun j g1 g2 => ?_, fun j g1 g2 => ?_, ?_, ?_⟩
      · unfold on
        by_cases e : a ≤ j ∧ j < a + n
        · rw [if_pos e]
        · rw [if_neg e]
          rcases Nat.lt_or_ge j a with hl | hg
          · exact (hrun j g1 hl).1
          · exact (htail j (by omega) (by omega)).1
      · rcases Nat.lt_trichotomy j a with hl | rfl | hg
        · exact (hrun j (by omega) hl).2 g1
        · rcases hr with ⟨e, _⟩ | ⟨_, _, g5⟩
          · omega
          · exact g5
        · rcases Nat.lt_or_ge j (a + n) with hl2 | hg2
          · exact hone j hg hl2
          · exact (htail j hg2 (by omega)).2
      · rw [e3]
        rcases hend with hs | hf
        · exact .inl hs
        · right; unfold on; rw [if_neg (by omega)]; exact hf
      · rcases hr with ⟨rfl, hh⟩ | ⟨g3, g4, _⟩
        · rcases hh with hs | ⟨g5, g6⟩
          · exact .inl hs
          · right; refine ⟨g5, ?_⟩; unfold on; rw [if_neg (by omega)]; exact g6
        · rcases (h.run q (by omega)).head with hs | ⟨g5, g6⟩
          · exact .inl hs
          · right; refine ⟨g5, ?_⟩; unfold on; rw [if_neg (by omega)]; exact g6
    rw [if_neg e1] at hq ⊢
    by_cases e2 : q = a
    · rw [if_pos e2] at hq; omega
    rw [if_neg e2] at hq ⊢
    by_cases e3 : q = a + n ∧ sm = false
    · rw [if_pos e3] at hq; omega
    rw [if_neg e3] at hq ⊢
    have rq := h.run q hq
    have hnin : q < a ∨ a + n ≤ q := by
      rcases Nat.lt_or_ge q a with hl | hg
      · exact .inl hl
      · rcases Nat.lt_or_ge q (a + n) with hl2 | hg2
        · have := hfa q hg hl2; omega
        · exact .inr hg2
    refine ⟨hq, fun j g1 g2 => ?_, rq.one, ?_, ?_⟩
    · unfold on; split; rfl; exact rq.free j g1 g2
    · rcases rq.last with hs | hf
      · exact .inl hs
      · by_cases e : a ≤ q + f q ∧ q + f q < a + n
        · -- it ends where the cells begin: then it is the row r, or a seam is there
          have hqa : q < a := by omega
          have hea : q + f q = a := by have := hcross q hqa; omega
          rcases hr with ⟨rfl, hh⟩ | ⟨g3, g4, _⟩
          · rcases hh with hs | ⟨_, g6⟩
            · left; rw [hea]; exact hs
            · have := rq.free (r - 1) (by omega) (by omega)
              rw [g6] at this
              cases this
          · exfalso
            rcases Nat.lt_trichotomy q r with hl | he | hg
            · have := h.apart hl hq (by omega); omega
            · exact e1 he
            · have := h.apart hg (by omega) hq; omega
        · right; unfold on; rw [if_neg e]; exact hf
    · rcases rq.head with hs | ⟨g5, g6⟩
      · exact .inl hs
      · by_cases e : a ≤ q - 1 ∧ q - 1 < a + n
        · have hq2 : q = a + n := by omega
          subst hq2
          left
          have : sm = true := by
            cases sm with
            | true => rfl
            | false => exact absurd ⟨rfl, rfl⟩ e3
          exact hsm.1 this
        · right; refine ⟨g5, ?_⟩; unfold on; rw [if_neg e]; exact g6
  · intro j hj
    unfold on at hj
    by_cases e : a ≤ j ∧ j < a + n
    · refine ⟨r, by omega, ?_⟩
      unfold laid
      rw [if_pos rfl]
      omega
    · rw [if_neg e] at hj
      obtain ⟨q, hq1, hq2⟩ := h.all j hj
      by_cases e1 : q = r
      · subst e1
        refine ⟨q, hq1, ?_⟩
        unfold laid
        rw [if_pos rfl]
        rcases hr with ⟨rfl, _⟩ | ⟨g3, g4, _⟩
        · have := hfa q (by omega) (by omega); omega
        · omega
      · by_cases e2 : q = a + n ∧ sm = false
        · obtain ⟨rfl, rfl⟩ := e2
          refine ⟨r, by omega, ?_⟩
          unfold laid tailOf
          rw [if_pos rfl]
          simp only [Bool.false_eq_true, if_false]
          omega
        · refine ⟨q, hq1, ?_⟩
          unfold laid
          rw [if_neg e1, if_neg, if_neg e2]
          · exact hq2
          · intro e4
            have := hfa q (by omega) (by omega)
            omega
end
end Go.Proofs.Ytaplfibhhdngbaa.rows
/- Segments open, close and are taken back; the cells as a list of booleans. -/
namespace Go.Proofs.Ytaplfibhhdngbaa.rows
section
variable {fr : Nat → Bool} {seam : Nat → Prop} {f : Nat → Nat}

theorem Inv.open_ (h : Inv fr seam f) {top : Nat} {seam' : Nat → Prop} (ht : ∀ j, top ≤ j → fr j = false) (hs : ∀ j, seam' j ↔ seam j ∨ j = top) : Inv fr seam' f := by
  constructor
  · intro q hq
    have r := h.run q hq
    refine ⟨hq, r.free, fun j g1 g2 e => ?_, ?_, ?_⟩
    · rcases (hs j).1 e with e | e
      · exact r.one j g1 g2 e
      · have := r.free j (by omega) g2
        rw [ht j (by omega)] at this
        cases this
    · rcases r.last with e | e
      · exact .inl ((hs _).2 (.inl e))
      · exact .inr e
    · rcases r.head with e | e
      · exact .inl ((hs _).2 (.inl e))
      · exact .inr e
  · exact h.all
/-- No row goes over a seam. -/
theorem Inv.stops (h : Inv fr seam f) {s q : Nat} (hs : seam s) (hq : q < s) : q + f q ≤ s := by
  rcases Nat.lt_or_ge s (q + f q) with hl | hg
  · exact absurd hs ((h.run q (by omega)).one s hq hl)
  · exact hg
/-- A cell at a seam is free just if a row begins there. -/
theorem Inv.at_seam (h : Inv fr seam f) {s : Nat} (hs : seam s) (h0 : f s = 0) : fr s = false := by
  cases hf : fr s with
  | false => rfl
  | true =>
    obtain ⟨q, hq1, hq2⟩ := h.all s hf
    rcases Nat.eq_or_lt_of_le hq1 with e | e
    · subst e; omega
    · have := h.stops hs e; omega
/-- A seam goes away: the row that begins there is left out first. -/
theorem Inv.unseam (h : Inv fr seam f) {s : Nat} {seam' : Nat → Prop} (hs : seam s) (hsub : ∀ j, seam' j → seam j) (hd : ∀ j, seam j → ¬ seam' j → j = s) : Inv (off fr s (f s)) seam' (fun q => if q = s then 0 else f q) := by
  have hfs : off fr s (f s) s = false := by
    unfold off
    split
    · rfl
    · exact h.at_seam hs (by omega)
  constructor
  · intro q hq
    by_cases e1 : q = s
    · rw [if_pos e1] at hq; omega
    rw [if_neg e1] at hq ⊢
    have r := h.run q hq
    have hap : q + f q ≤ s ∨ s + f s ≤ q := by
      rcases Nat.lt_or_ge q s with hl | hg
      · exact .inl (h.stops hs hl)
      · right
        rcases Nat.eq_zero_or_pos (f s) with e | e
        · omega
        · exact h.apart (by omega) e hq
    refine ⟨hq, fun j g1 g2 => ?_, fun j g1 g2 e => r.one j g1 g2 (hsub j e), ?_, ?_⟩
    · unfold off; rw [if_neg (by omega)]; exact r.free j g1 g2
    · by_cases e : seam' (q + f q)
      · exact .inl e
      · right
        rcases r.last with hh | hh
        · rw [hd _ hh e]; exact hfs
        · unfold off; split; rfl; exact hh
    · by_cases e : seam' q
      · exact .inl e
      · right
        rcases r.head with hh | ⟨g5, g6⟩
        · exact absurd (hd _ hh e) e1
        · refine ⟨g5, ?_⟩; unfold off; split; rfl; exact g6
  · intro j hj
    unfold off at hj
    by_cases e : s ≤ j ∧ j < s + f s
    · rw [if_pos e] at hj; cases hj
    · rw [if_neg e] at hj
      obtain ⟨q, hq1, hq2⟩ := h.all j hj
      refine ⟨q, hq1, ?_⟩
      rw [if_neg]
      · exact hq2
      · intro e1
        subst e1
        exact e ⟨hq1, hq2⟩
theorem on_off (fr : Nat → Bool) (a n : Nat) (h : ∀ j, a ≤ j → j < a + n → fr j = true) : on (off fr a n) a n = fr := by
  funext j
  unfold on off
  split
  · rename_i e; exact (h j e.1 e.2).symm
  · rfl
/-- A segment closes: its first row may join the one ahead of the seam. -/
theorem Inv.close (h : Inv fr seam f) {s r : Nat} {seam' : Nat → Prop} {sm : Bool} (hs : seam s) (hsub : ∀ j, seam' j → seam j) (hd : ∀ j, seam j → ¬ seam' j → j = s) (h0 : seam' 0) (hp : 0 < f s) (hsm : sm = true ↔ seam' (s + f s))
    (hr : (r = s ∧ (seam' s ∨ (0 < s ∧ fr (s - 1) = false))) ∨ (r < s ∧ r + f r = s ∧ ¬ seam' s)) : Inv fr seam' (laid f sm r s (f s)) := by
  have hu := h.unseam hs hsub hd
  have rs := h.run s hp
  have hl := Inv.lay (a := s) (n := f s) (r := r) (sm := sm) hu hp (fun j g1 g2 => by unfold off; rw [if_pos ⟨g1, g2⟩]) (fun j g1 g2 e => rs.one j g1 g2 (hsub j e)) hsm h0 (by
    rcases hr with ⟨e, hh⟩ | ⟨g1, g2, g3⟩
    · refine .inl ⟨e, ?_⟩
      rcases hh with hh | ⟨g5, g6⟩
      · exact .inl hh
      · right; refine ⟨g5, ?_⟩; unfold off; split; rfl; exact g6
    · right
      refine ⟨g1, ?_, g3⟩
      rw [if_neg (by omega)]
      exact g2)
  rw [on_off fr s (f s) rs.free] at hl
  refine hl.congr (fun _ => rfl) (fun _ => Iff.rfl) (fun q => ?_)
  unfold laid tailOf
  by_cases e1 : q = r
  · rw [if_pos e1, if_pos e1]
    simp only
    rw [if_neg (show ¬ s + f s = s by omega)]
  · rw [if_neg e1, if_neg e1]
    by_cases e2 : q = s
    · rw [if_pos e2, if_pos e2]
    · rw [if_neg e2, if_neg e2]
      simp only
      rw [if_neg e2]
theorem Inv.close_none (h : Inv fr seam f) {s : Nat} {seam' : Nat → Prop} (hs : seam s) (hsub : ∀ j, seam' j → seam j) (hd : ∀ j, seam j → ¬ seam' j → j = s) (hp : f s = 0) : Inv fr seam' f := by
  refine (h.unseam hs hsub hd).congr (fun j => ?_) (fun _ => Iff.rfl) (fun q => ?_)
  · rw [hp]; unfold off; rw [if_neg (by omega)]
  · by_cases e : q = s
    · rw [if_pos e, e, hp]
    · rw [if_neg e]
/-- All cells from a seam on go away. -/
theorem Inv.back (h : Inv fr seam f) {s : Nat} (hs : seam s) : Inv (fun j => if s ≤ j then false else fr j) seam (fun q => if s ≤ q then 0 else f q) := by
  constructor
  · intro q hq
    by_cases e : s ≤ q
    · rw [if_pos e] at hq; omega
    rw [if_neg e] at hq ⊢
    have r := h.run q hq
    have hle := h.stops hs (show q < s by omega)
    refine ⟨hq, fun j g1 g2 => ?_, r.one, ?_, ?_⟩
    · rw [if_neg (by omega)]; exact r.free j g1 g2
    · rcases r.last with hh | hh
      · exact .inl hh
      · right; split; rfl; exact hh
    · rcases r.head with hh | ⟨g5, g6⟩
      · exact .inl hh
      · right; refine ⟨g5, ?_⟩; split; rfl; exact g6
  · intro j hj
    by_cases e : s ≤ j
    · rw [if_pos e] at hj; cases hj
    · rw [if_neg e] at hj
      obtain ⟨q, hq1, hq2⟩ := h.all j hj
      refine ⟨q, hq1, ?_⟩
      rw [if_neg (by omega)]
      exact hq2

/-! ### The cells as a list -/
/-- n cells from a on, each set to v. -/
def put (F : List Bool) (a : Nat) (v : Bool) : Nat → List Bool
  | 0 => F
  | n + 1 => (put F a v n).set (a + n) v
theorem put_len (F : List Bool) (a : Nat) (v : Bool) (n : Nat) : (put F a v n).length = F.length := by
  induction n with
  | zero => rfl
  | succ n ih => unfold put; rw [List.length_set, ih]
theorem put_get (F : List Bool) (a : Nat) (v : Bool) (n : Nat) (h : a + n ≤ F.length) (j : Nat) : (put F a v n).getD j false = if a ≤ j ∧ j < a + n then v else F.getD j false := by
  induction n with
  | zero => unfold put; rw [if_neg (by omega)]
  | succ n ih =>
    unfold put
    have hl := put_len F a v n
    simp only [List.getD_eq_getElem?_getD, List.getElem?_set] at ih ⊢
    by_cases e : a + n = j
    · subst e
      rw [if_pos rfl, if_pos (by omega), if_pos (by omega)]
      rfl
    · rw [if_neg e, ih (by omega)]
      by_cases e2 : a ≤ j ∧ j < a + n
      · rw [if_pos e2, if_pos (by omega)]
      · rw [if_neg e2, if_neg (by omega)]
/-- How many cells are free. -/
def count (F : List Bool) : Nat := (F.filter id).length
theorem count_set (F : List Bool) (j : Nat) (v : Bool) (hj : j < F.length) : count (F.set j v) + (if F.getD j false then 1 else 0) = count F + (if v then 1 else 0) := by
  induction F generalizing j with
  | nil => simp at hj
  | cons x r ih =>
    cases j with
    | zero =>
      unfold count
      cases x <;> cases v <;> simp
    | succ j =>
      have := ih j (by simpa using hj)
      unfold count at this ⊢
      cases x <;> simp at this ⊢ <;> omega
theorem put_on_count (F : List Bool) (a n : Nat) (h : a + n ≤ F.length) (hf : ∀ j, a ≤ j → j < a + n → F.getD j false = false) : count (put F a true n) = count F + n := by
  induction n with
  | zero => rfl
  | succ n ih =>
    unfold put
    have h1 := count_set (put F a true n) (a + n) true (by rw [put_len]; omega)
    have hx : (put F a true n).getD (a + n) false = false := by rw [put_get F a true n (by omega), if_neg (by omega)]; exact hf (a + n) (by omega) (by omega)
    rw [hx] at h1
    have := ih (by omega) (fun j g1 g2 => hf j g1 (by omega))
    simp at h1
    omega
theorem put_off_count (F : List Bool) (a n : Nat) (h : a + n ≤ F.length) (hf : ∀ j, a ≤ j → j < a + n → F.getD j false = true) : count (put F a false n) + n = count F := by
  induction n with
  | zero => rfl
  | succ n ih =>
    unfold put
    have h1 := count_set (put F a false n) (a + n) false (by rw [put_len]; omega)
    have hx : (put F a false n).getD (a + n) false = true := by rw [put_get F a false n (by omega), if_neg (by omega)]; exact hf (a + n) (by omega) (by omega)
    rw [hx] at h1
    have := ih (by omega) (fun j g1 g2 => hf j g1 (by omega))
    simp at h1
    omega
theorem count_append (F : List Bool) (n : Nat) : count (F ++ List.replicate n false) = count F := by
  unfold count
  simp
theorem count_le (F : List Bool) : count F ≤ F.length := List.length_filter_le _ _
end
end Go.Proofs.Ytaplfibhhdngbaa.rows
/- A segment's longest rows of free cells, as one goes over its cells. -/
namespace Go.Proofs.Ytaplfibhhdngbaa.rows
section
/-- One cell more: free, it makes the last row longer or begins one. -/
def refStep (fr : Nat → Bool) (out : List (Nat × Nat)) (i : Nat) : List (Nat × Nat) :=
  if fr i then
    match out.getLast? with
    | some x => if x.1 + x.2 = i then out.dropLast ++ [(x.1, x.2 + 1)] else out ++ [(i, 1)]
    | none => out ++ [(i, 1)]
  else out
def refRuns (fr : Nat → Bool) (a : Nat) : Nat → List (Nat × Nat)
  | 0 => []
  | k + 1 => refStep fr (refRuns fr a k) (a + k)
variable {fr : Nat → Bool} {a : Nat}
theorem ref_succ (k : Nat) : refRuns fr a (k + 1) = refStep fr (refRuns fr a k) (a + k) := rfl
theorem ref_flat (k d : Nat) (h : ∀ j, a + k ≤ j → j < a + k + d → fr j = false) : refRuns fr a (k + d) = refRuns fr a k := by
  induction d with
  | zero => rfl
  | succ d ih =>
    rw [show k + (d + 1) = (k + d) + 1 by omega, ref_succ]
    unfold refStep
    rw [h (a + (k + d)) (by omega) (by omega), ih (fun j h1 h2 => h j h1 (by omega)), if_neg (by simp)]
theorem ref_ends (k : Nat) : ∀ x ∈ refRuns fr a k, x.1 + x.2 ≤ a + k ∧ (x.1 + x.2 = a + k → 0 < k ∧ fr (a + k - 1) = true) := by
  induction k with
  | zero => intro x hx; simp [refRuns] at hx
  | succ k ih =>
    intro x hx
    rw [ref_succ] at hx
    unfold refStep at hx
    by_cases hf : fr (a + k) = true
    · rw [if_pos hf] at hx
      have hlast : 0 < k + 1 ∧ fr (a + (k + 1) - 1) = true := ⟨by omega, by rw [show a + (k + 1) - 1 = a + k by omega]; exact hf⟩
      cases hl : (refRuns fr a k).getLast? with
      | none =>
        rw [hl] at hx
        simp only [List.mem_append, List.mem_singleton] at hx
        rcases hx with hx | rfl
        · have := ih x hx; exact ⟨by omega, fun _ => hlast⟩
        · exact ⟨by simp only; omega, fun _ => hlast⟩
      | some y =>
        rw [hl] at hx
        simp only at hx
        split at hx
        · rename_i hy
          simp only [List.mem_append, List.mem_singleton] at hx
          rcases hx with hx | rfl
          · have := ih x ((List.dropLast_sublist _).subset hx); exact ⟨by omega, fun _ => hlast⟩
          · exact ⟨by simp only; omega, fun _ => hlast⟩
        · simp only [List.mem_append, List.mem_singleton] at hx
          rcases hx with hx | rfl
          · have := ih x hx; exact ⟨by omega, fun _ => hlast⟩
          · exact ⟨by simp only; omega, fun _ => hlast⟩
    · rw [if_neg hf] at hx
      have := ih x hx
      exact ⟨by omega, fun e => by omega⟩
theorem ref_row (k n : Nat) (h : ∀ j, a + k ≤ j → j < a + k + (n + 1) → fr j = true) (hh : k = 0 ∨ fr (a + k - 1) = false) : refRuns fr a (k + (n + 1)) = refRuns fr a k ++ [(a + k, n + 1)] := by
  induction n with
  | zero =>
    rw [show k + (0 + 1) = k + 1 from rfl, ref_succ]
    unfold refStep
    rw [if_pos (h (a + k) (by omega) (by omega))]
    cases hl : (refRuns fr a k).getLast? with
    | none => rfl
    | some y =>
      simp only
      rw [if_neg]
      intro e
      have := (ref_ends k y (List.mem_of_getLast? hl)).2 e
      rcases hh with h0 | h0
      · omega
      · rw [h0] at this; cases this.2
  | succ n ih =>
    rw [show k + (n + 1 + 1) = (k + (n + 1)) + 1 by omega, ref_succ]
    rw [ih (fun j h1 h2 => h j h1 (by omega))]
    unfold refStep
    rw [if_pos (h (a + (k + (n + 1))) (by omega) (by omega))]
    simp only [List.getLast?_append, List.getLast?_singleton, Option.some_or, List.dropLast_concat]
    rw [if_pos (by omega)]
theorem ref_len (k : Nat) : (refRuns fr a k).length ≤ k := by
  induction k with
  | zero => simp [refRuns]
  | succ k ih =>
    rw [ref_succ]
    unfold refStep
    split
    · cases hl : (refRuns fr a k).getLast? with
      | none => simp; omega
      | some y =>
        simp only
        split
        · have : refRuns fr a k ≠ [] := by intro e; rw [e] at hl; simp at hl
          have h1 := List.length_pos_iff.2 this
          simp
          omega
        · simp; omega
    · omega

/-- The rows that begin at a or behind it, but ahead of a + k. -/
def rowsF (f : Nat → Nat) (a : Nat) : Nat → List (Nat × Nat)
  | 0 => []
  | k + 1 => if f (a + k) = 0 then rowsF f a k else rowsF f a k ++ [(a + k, f (a + k))]
variable {f : Nat → Nat} {seam : Nat → Prop}
theorem rowsF_skip (k d : Nat) (h : ∀ q, a + k ≤ q → q < a + k + d → f q = 0) : rowsF f a (k + d) = rowsF f a k := by
  induction d with
  | zero => rfl
  | succ d ih =>
    rw [show k + (d + 1) = (k + d) + 1 by omega]
    show (if f (a + (k + d)) = 0 then _ else _) = _
    rw [if_pos (h _ (by omega) (by omega))]
    exact ih (fun q h1 h2 => h q h1 (by omega))
theorem rowsF_to (k m : Nat) (hm : k ≤ m) (h : ∀ q, a + k ≤ q → q < a + m → f q = 0) : rowsF f a m = rowsF f a k := by
  obtain ⟨d, rfl⟩ := Nat.le.dest hm
  exact rowsF_skip k d (fun q h1 h2 => h q h1 (by omega))
theorem Inv.rowsF_one (h : Inv fr seam f) (k : Nat) (hk : 0 < f (a + k)) : rowsF f a (k + f (a + k)) = rowsF f a k ++ [(a + k, f (a + k))] := by
  rw [rowsF_to (k + 1) (k + f (a + k)) (by omega) (fun q h1 h2 => ?_)]
  · show (if f (a + k) = 0 then _ else _) = _
    rw [if_neg (by omega)]
  · rcases Nat.eq_zero_or_pos (f q) with e | e
    · exact e
    · have := h.apart (show a + k < q by omega) hk e
      omega
theorem rowsF_len (k : Nat) : (rowsF f a k).length ≤ k := by
  induction k with
  | zero => simp [rowsF]
  | succ k ih =>
    unfold rowsF
    split
    · omega
    · simp; omega
theorem rowsF_mem (k : Nat) : ∀ x ∈ rowsF f a k, a ≤ x.1 ∧ x.1 < a + k ∧ x.2 = f x.1 ∧ 0 < x.2 := by
  induction k with
  | zero => intro x hx; simp [rowsF] at hx
  | succ k ih =>
    intro x hx
    unfold rowsF at hx
    split at hx
    · have := ih x hx; omega
    · rcases List.mem_append.1 hx with hx | hx
      · have := ih x hx; omega
      · simp only [List.mem_singleton] at hx
        subst hx
        exact ⟨by simp, by simp, rfl, by simp only; omega⟩
/-- Both ways of telling the rows of a segment are one. -/
theorem Inv.rows_ref (h : Inv fr seam f) (ha : seam a) : ∀ k, (∀ j, a < j → j < a + k → ¬ seam j) → (∀ q, a ≤ q → q < a + k → q + f q ≤ a + k) → refRuns fr a k = rowsF f a k := by
  intro k
  induction k using Nat.strongRecOn with
  | ind k ih =>
    intro hs hq
    rcases Nat.eq_zero_or_pos k with rfl | hk
    · rfl
    · cases hf : fr (a + k - 1) with
      | false =>
        have h0 : ∀ q, 0 < f q → q < a + k → q + f q ≤ a + (k - 1) ∨ q < a := fun q g1 g2 => by
          rcases Nat.lt_or_ge q a with g | g
          · exact .inr g
          · left
            have := hq q g g2
            rcases Nat.lt_or_ge (q + f q) (a + k) with g3 | g3
            · omega
            · have := h.free_of (q := q) (j := a + k - 1) (by omega) (by omega)
              rw [hf] at this
              cases this
        have e1 : refRuns fr a k = refRuns fr a (k - 1) := by
          have := ref_flat (fr := fr) (a := a) (k - 1) 1 (fun j g1 g2 => by rw [show j = a + k - 1 by omega]; exact hf)
          rw [show k - 1 + 1 = k by omega] at this
          exact this
        have e2 : rowsF f a k = rowsF f a (k - 1) := rowsF_to (k - 1) k (by omega) (fun q g1 g2 => by
          rcases Nat.eq_zero_or_pos (f q) with e | e
          · exact e
          · have := h0 q e g2; omega)
        rw [e1, e2]
        exact ih (k - 1) (by omega) (fun j g1 g2 => hs j g1 (by omega)) (fun q g1 g2 => by
          rcases Nat.eq_zero_or_pos (f q) with e | e
          · omega
          · have := h0 q e (by omega); omega)
      | true =>
        obtain ⟨q, g1, g2⟩ := h.all _ hf
        have hqa : a ≤ q := by
          rcases Nat.lt_or_ge q a with g | g
          · have := h.stops ha g; omega
          · exact g
        have he := hq q hqa (by omega)
        have hrow := h.run q (by omega)
        obtain ⟨m, rfl⟩ : ∃ m, q = a + m := ⟨q - a, by omega⟩
        have hkm : k = m + f (a + m) := by omega
        have ef := h.rowsF_one (a := a) m (by omega)
        have er := ref_row (fr := fr) (a := a) m (f (a + m) - 1) (fun j g3 g4 => hrow.free j (by omega) (by omega)) (by
          rcases hrow.head with hh | hh
          · left
            rcases Nat.eq_zero_or_pos m with e | e
            · exact e
            · exact absurd hh (hs _ (by omega) (by omega))
          · exact .inr hh.2)
        rw [show f (a + m) - 1 + 1 = f (a + m) by omega, ← hkm] at er
        rw [← hkm] at ef
        rw [ef, er, ih m (by omega) (fun j g1 g2 => hs j g1 (by omega)) (fun q g1 g2 => by
          rcases Nat.eq_zero_or_pos (f q) with e | e
          · omega
          · exact h.apart (by omega) e (by omega))]
/-- Which cells are free and where seams are tells the rows. -/
theorem Inv.uniq {f' : Nat → Nat} (h : Inv fr seam f) (h' : Inv fr seam f') : f = f' := by
  have key : ∀ {f f' : Nat → Nat}, Inv fr seam f → Inv fr seam f' → ∀ q, 0 < f q → f' q = f q := by
    intro f f' h h' q hq
    have hr := h.run q hq
    have h0 := hr.free q (by omega) (by omega)
    obtain ⟨p, p1, p2⟩ := h'.all q h0
    have hp := h'.run p (by omega)
    have e : p = q := by
      rcases Nat.lt_or_ge p q with g | g
      · exfalso
        rcases hr.head with hh | ⟨_, hh⟩
        · exact hp.one q g p2 hh
        · have := hp.free (q - 1) (by omega) (by omega)
          rw [hh] at this
          cases this
      · omega
    subst e
    rcases Nat.lt_trichotomy (f p) (f' p) with g | g | g
    · exfalso
      rcases hr.last with hh | hh
      · exact hp.one _ (by omega) (by omega) hh
      · have := hp.free (p + f p) (by omega) (by omega)
        rw [hh] at this
        cases this
    · exact g.symm
    · exfalso
      rcases hp.last with hh | hh
      · exact hr.one _ (by omega) (by omega) hh
      · have := hr.free (p + f' p) (by omega) (by omega)
        rw [hh] at this
        cases this
  funext q
  rcases Nat.eq_zero_or_pos (f q) with e | e
  · rcases Nat.eq_zero_or_pos (f' q) with e' | e'
    · omega
    · have := key h' h q e'; omega
  · exact (key h h' q e).symm
end
end Go.Proofs.Ytaplfibhhdngbaa.rows
/- Which row is the first of so many cells. -/
namespace Go.Proofs.Ytaplfibhhdngbaa.rows
section
variable {f : Nat → Nat} {a : Nat}
theorem rowsF_find (n : Nat) (hn : 1 ≤ n) (k : Nat) :
    match (rowsF f a k).find? (fun x => decide (n ≤ x.2)) with
    | some x => a ≤ x.1 ∧ x.1 < a + k ∧ x.2 = f x.1 ∧ n ≤ f x.1 ∧ ∀ q, a ≤ q → q < x.1 → f q < n
    | none => ∀ q, a ≤ q → q < a + k → f q < n := by
  induction k with
  | zero => simp [rowsF]; intro q h1 h2; omega
  | succ k ih =>
    unfold rowsF
    by_cases h0 : f (a + k) = 0
    · rw [if_pos h0]
      split at ih
      · exact ⟨ih.1, by omega, ih.2.2⟩
      · intro q h1 h2
        rcases Nat.lt_or_ge q (a + k) with g | g
        · exact ih q h1 g
        · rw [show q = a + k by omega, h0]; omega
    · rw [if_neg h0, List.find?_append]
      split at ih
      · rename_i x hx
        rw [hx]
        exact ⟨ih.1, by omega, ih.2.2⟩
      · rename_i hx
        rw [hx]
        by_cases hm : n ≤ f (a + k)
        · simp only [List.find?_singleton, hm, decide_true, if_true, Option.none_or]
          exact ⟨by omega, by omega, trivial, trivial, fun q h1 h2 => ih q h1 h2⟩
        · simp only [List.find?_singleton, hm, decide_false, Option.none_or]
          intro q h1 h2
          rcases Nat.lt_or_ge q (a + k) with g | g
          · exact ih q h1 g
          · rw [show q = a + k by omega]; omega
end
end Go.Proofs.Ytaplfibhhdngbaa.rows
