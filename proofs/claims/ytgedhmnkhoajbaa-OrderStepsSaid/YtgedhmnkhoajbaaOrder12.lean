/- Order: the order of terms goes over steps; neither is ahead just where they are alike. Plain. -/
import Derived.Test.YtgedhmnkhoajbaaOrder1
namespace Go.Proofs.Ytgedhmnkhoajbaa.orders
open Go.Proofs.Ytgedhmnkhoajbaa.terms
/-- Three comparisons that go over a step. -/
def Tr (a b c : Int) : Prop := (a ≤ 0 → b ≤ 0 → c ≤ 0 ∧ (c < 0 ∨ (a = 0 ∧ b = 0))) ∧ (a = 0 → b = 0 → c = 0)
theorem tr_zero : Tr 0 0 0 := ⟨fun _ _ => ⟨by omega, .inr ⟨rfl, rfl⟩⟩, fun _ _ => rfl⟩
theorem tr_lex {a1 b1 c1 a2 b2 c2 a b c : Int} (h1 : Tr a1 b1 c1) (h2 : a1 = 0 → b1 = 0 → c1 = 0 → Tr a2 b2 c2) (ha : a = if a1 ≠ 0 then a1 else a2) (hb : b = if b1 ≠ 0 then b1 else b2) (hc : c = if c1 ≠ 0 then c1 else c2) : Tr a b c := by
  subst ha hb hc
  obtain ⟨p1, p2⟩ := h1
  constructor
  · intro x y
    by_cases ea : a1 = 0
    · by_cases eb : b1 = 0
      · have ec := p2 ea eb
        obtain ⟨q1, q2⟩ := h2 ea eb ec
        simp only [ea, eb, ec, ne_eq, not_true_eq_false, if_false] at x y ⊢
        exact q1 x y
      · simp only [eb, ne_eq, not_false_eq_true, if_true] at y
        have := p1 (by omega) y
        have hc : c1 ≠ 0 := by omega
        rw [if_pos hc]
        exact ⟨by omega, .inl (by omega)⟩
    · simp only [ea, ne_eq, not_false_eq_true, if_true] at x
      by_cases eb : b1 = 0
      · have := p1 x (by omega)
        have hc : c1 ≠ 0 := by omega
        rw [if_pos hc]
        exact ⟨by omega, .inl (by omega)⟩
      · simp only [eb, ne_eq, not_false_eq_true, if_true] at y
        have := p1 x y
        have hc : c1 ≠ 0 := by omega
        rw [if_pos hc]
        exact ⟨by omega, .inl (by omega)⟩
  · intro x y
    by_cases ea : a1 = 0
    · by_cases eb : b1 = 0
      · have ec := p2 ea eb
        obtain ⟨q1, q2⟩ := h2 ea eb ec
        simp only [ea, eb, ec, ne_eq, not_true_eq_false, if_false] at x y ⊢
        exact q2 x y
      · rw [if_pos eb] at y; exact absurd y eb
    · rw [if_pos ea] at x; exact absurd x ea
theorem tr_int (a b c : Int) : Tr (Lib.compareInt a b) (Lib.compareInt b c) (Lib.compareInt a c) := by
  unfold Lib.compareInt Tr
  constructor
  · intro h1 h2
    split at h1 <;> split at h2 <;> (try split at h1) <;> (try split at h2) <;> (repeat' split) <;> omega
  · intro h1 h2
    split at h1 <;> split at h2 <;> (try split at h1) <;> (try split at h2) <;> (repeat' split) <;> omega
theorem cB_zero : ∀ a b : List UInt8, Lib.compareBytes a b = 0 ↔ a = b
  | [], [] => by simp [Lib.compareBytes]
  | [], _ :: _ => by simp [Lib.compareBytes]
  | _ :: _, [] => by simp [Lib.compareBytes]
  | x :: r, y :: q => by
    simp only [Lib.compareBytes, List.cons.injEq]
    by_cases h : x < y
    · rw [if_pos h]
      refine ⟨fun e => absurd e (by omega), fun e => ?_⟩
      rw [e.1] at h
      exact absurd h (UInt8.lt_irrefl _)
    · rw [if_neg h]
      by_cases h' : y < x
      · rw [if_pos h']
        refine ⟨fun e => absurd e (by omega), fun e => ?_⟩
        rw [e.1] at h'
        exact absurd h' (UInt8.lt_irrefl _)
      · rw [if_neg h', cB_zero r q]
        have e : x = y := UInt8.le_antisymm (UInt8.not_lt.1 h') (UInt8.not_lt.1 h)
        exact ⟨fun e' => ⟨e, e'⟩, fun e' => e'.2⟩
def one (x y : UInt8) : Int := Lib.compareInt (x.toNat : Int) (y.toNat : Int)
theorem cB_cons (x y : UInt8) (r q : List UInt8) : Lib.compareBytes (x :: r) (y :: q) = if one x y ≠ 0 then one x y else Lib.compareBytes r q := by
  simp only [Lib.compareBytes]
  by_cases h : x < y
  · have h2 := UInt8.lt_iff_toNat_lt.1 h
    have e : one x y = -1 := by unfold one Lib.compareInt; rw [if_pos (by omega)]
    rw [if_pos h, e, if_pos (by omega)]
  · have h2 : ¬ x.toNat < y.toNat := fun e => h (UInt8.lt_iff_toNat_lt.2 e)
    rw [if_neg h]
    by_cases h' : y < x
    · have h3 := UInt8.lt_iff_toNat_lt.1 h'
      have e : one x y = 1 := by unfold one Lib.compareInt; rw [if_neg (by omega), if_pos (by omega)]
      rw [if_pos h', e, if_pos (by omega)]
    · have h3 : ¬ y.toNat < x.toNat := fun e => h' (UInt8.lt_iff_toNat_lt.2 e)
      have e : one x y = 0 := by unfold one Lib.compareInt; rw [if_neg (by omega), if_neg (by omega)]
      rw [if_neg h', e, if_neg (by omega)]
theorem tr_bytes : ∀ a b c : List UInt8, Tr (Lib.compareBytes a b) (Lib.compareBytes b c) (Lib.compareBytes a c)
  | [], [], [] => tr_zero
  | [], [], _ :: _ => by simp [Lib.compareBytes, Tr]
  | [], _ :: _, [] => by simp [Lib.compareBytes, Tr]
  | [], _ :: _, _ :: _ => by
    simp only [Lib.compareBytes, Tr]
    exact ⟨fun _ _ => ⟨by omega, .inl (by omega)⟩, fun h => absurd h (by omega)⟩
  | _ :: _, [], [] => by simp [Lib.compareBytes, Tr]
  | _ :: _, [], _ :: _ => by
    simp only [Lib.compareBytes, Tr]
    exact ⟨fun h => absurd h (by omega), fun h => absurd h (by omega)⟩
  | _ :: _, _ :: _, [] => by
    simp only [Lib.compareBytes, Tr]
    exact ⟨fun _ h => absurd h (by omega), fun _ h => absurd h (by omega)⟩
  | x :: r, y :: q, z :: p => tr_lex (tr_int x.toNat y.toNat z.toNat) (fun _ _ _ => tr_bytes r q p) (cB_cons x y r q) (cB_cons y z q p) (cB_cons x z r p)
theorem cS_zero {a b : ByteArray} : cS a b = 0 ↔ a = b := by
  unfold cS
  rw [cB_zero]
  constructor
  · intro h
    exact ByteArray.ext (Array.toList_inj.1 h)
  · intro h; rw [h]
theorem meets_fst (x y : T) (r q : List T) : (meets (x :: r) (y :: q)).1 = if (meetF x y).1 ≠ 0 then (meetF x y).1 else (meets r q).1 := by
  rw [show meets (x :: r) (y :: q) = if (meetF x y).1 ≠ 0 then meetF x y else meets r q from rfl]
  split <;> rfl
theorem meets_tr : ∀ (l l' l'' : List T), (∀ x ∈ l, ∀ u v, Tr (meetF x u).1 (meetF u v).1 (meetF x v).1) → l.length = l'.length → l'.length = l''.length → Tr (meets l l').1 (meets l' l'').1 (meets l l'').1
  | [], [], [], _, _, _ => tr_zero
  | x :: r, y :: q, z :: p, ih, h1, h2 => tr_lex (ih x (by simp) y z) (fun _ _ _ => meets_tr r q p (fun u hu => ih u (by simp [hu])) (by simpa using h1) (by simpa using h2)) (meets_fst x y r q) (meets_fst y z q p) (meets_fst x z r p)
def inner (k n : Int) (s : ByteArray) (l : List T) (n' : Int) (s' : ByteArray) (l' : List T) : Int := if k = 1 then Lib.compareInt n n' else if k = 2 then Lib.compareInt n n' else if k = 3 then cS s s' else if Lib.compareInt (l.length : Nat) (l'.length : Nat) ≠ 0 then Lib.compareInt (l.length : Nat) (l'.length : Nat) else if cS s s' ≠ 0 then cS s s' else (meets l l').1
theorem meetF_fst (k n : Int) (s : ByteArray) (l : List T) (k' n' : Int) (s' : ByteArray) (l' : List T) : (meetF (.mk k n s l) (.mk k' n' s' l')).1 = if Lib.compareInt k k' ≠ 0 then Lib.compareInt k k' else inner k n s l n' s' l' := by
  have e : meetF (.mk k n s l) (.mk k' n' s' l') = if Lib.compareInt k k' ≠ 0 then (Lib.compareInt k k', false) else if k = 1 then (Lib.compareInt n n', n != n') else if k = 2 then (Lib.compareInt n n', false) else if k = 3 then (cS s s', false) else if Lib.compareInt (l.length : Nat) (l'.length : Nat) ≠ 0 then (Lib.compareInt (l.length : Nat) (l'.length : Nat), false) else if cS s s' ≠ 0 then (cS s s', false) else meets l l' := rfl
  rw [e]
  unfold inner
  repeat' split
  all_goals rfl
theorem meetF_tr (t : T) : ∀ u v, Tr (meetF t u).1 (meetF u v).1 (meetF t v).1 := by
  induction t using T.ind with
  | h k n s l ih =>
    intro u v
    obtain ⟨k', n', s', l'⟩ := u
    obtain ⟨k'', n'', s'', l''⟩ := v
    refine tr_lex (tr_int k k' k'') (fun e1 e2 _ => ?_) (meetF_fst k n s l _ _ _ _) (meetF_fst k' n' s' l' _ _ _ _) (meetF_fst k n s l _ _ _ _)
    obtain rfl : k = k' := cI_zero.1 e1
    obtain rfl : k = k'' := cI_zero.1 e2
    unfold inner
    by_cases k1 : k = 1
    · simp only [if_pos k1]
      exact tr_int _ _ _
    · simp only [if_neg k1]
      by_cases k2 : k = 2
      · simp only [if_pos k2]
        exact tr_int _ _ _
      · simp only [if_neg k2]
        by_cases k3 : k = 3
        · simp only [if_pos k3]
          exact tr_bytes _ _ _
        · simp only [if_neg k3]
          refine tr_lex (tr_int (l.length : Nat) (l'.length : Nat) (l''.length : Nat)) (fun f1 f2 _ => ?_) rfl rfl rfl
          refine tr_lex (tr_bytes _ _ _) (fun _ _ _ => ?_) rfl rfl rfl
          have g1 := cI_zero.1 f1
          have g2 := cI_zero.1 f2
          exact meets_tr l l' l'' ih (by omega) (by omega)
theorem meets_self : ∀ l : List T, (∀ x ∈ l, (meetF x x).1 = 0) → (meets l l).1 = 0
  | [], _ => rfl
  | x :: r, h => by
    rw [meets_fst, if_neg (by rw [h x (by simp)]; simp)]
    exact meets_self r (fun y hy => h y (by simp [hy]))
theorem meetF_self (t : T) : (meetF t t).1 = 0 := by
  induction t using T.ind with
  | h k n s l ih =>
    have h0 : Lib.compareInt k k = 0 := cI_zero.2 rfl
    have h1 : Lib.compareInt n n = 0 := cI_zero.2 rfl
    have h2 : cS s s = 0 := cS_zero.2 rfl
    have h3 : Lib.compareInt (l.length : Nat) (l.length : Nat) = 0 := cI_zero.2 rfl
    rw [meetF_fst, if_neg (by rw [h0]; simp)]
    unfold inner
    simp [h1, h2, h3, meets_self l ih]
theorem meets_eq : ∀ (l l' : List T), (∀ x ∈ l, ∀ u, x.right = true → u.right = true → (meetF x u).1 = 0 → x = u) → rights l = true → rights l' = true → l.length = l'.length → (meets l l').1 = 0 → l = l'
  | [], [], _, _, _, _, _ => rfl
  | x :: r, y :: q, ih, h1, h2, h3, h4 => by
    rw [meets_fst] at h4
    simp only [rights, Bool.and_eq_true] at h1 h2
    by_cases e : (meetF x y).1 = 0
    · rw [if_neg (by simpa using e)] at h4
      rw [ih x (by simp) y h1.1 h2.1 e, meets_eq r q (fun u hu => ih u (by simp [hu])) h1.2 h2.2 (by simpa using h3) h4]
    · rw [if_pos e] at h4
      exact absurd h4 e
theorem empty_of {s s' : ByteArray} (h : s.toList = []) (h' : s'.toList = []) : s = s' := ba_ext (h.trans h'.symm)
def partR (k n : Int) (s : ByteArray) (l : List T) : Bool :=
  if k = 1 then (if 0 ≤ n then (if n < 1073741824 then (if s.toList = [] then ((l.length : Int) == 0) else false) else false) else false)
  else if k = 2 then (if -9007199254740991 ≤ n then (if n ≤ 9007199254740991 then (if s.toList = [] then ((l.length : Int) == 0) else false) else false) else false)
  else if k = 3 then (if n = 0 then (if (s.size : Int) ≤ 64 then ((l.length : Int) == 0) else false) else false)
  else if k = 4 then (if n = 0 then (if (s.size : Int) ≤ 64 then (if 1 ≤ (l.length : Int) then decide ((l.length : Int) ≤ 16) else false) else false) else false)
  else false
theorem right_is (k n : Int) (s : ByteArray) (l : List T) : (T.mk k n s l).right = (partR k n s l && rights l) := rfl
theorem nil_of {l l' : List T} (h : ((l.length : Int) == 0) = true) (h' : ((l'.length : Int) == 0) = true) : l = l' := by
  have h1 : (l.length : Int) = 0 := by simpa using h
  have h2 : (l'.length : Int) = 0 := by simpa using h'
  rw [List.length_eq_zero_iff.1 (show l.length = 0 by omega), List.length_eq_zero_iff.1 (show l'.length = 0 by omega)]
theorem meetF_eq (t : T) : ∀ u, t.right = true → u.right = true → (meetF t u).1 = 0 → t = u := by
  induction t using T.ind with
  | h k n s l ih =>
    intro u hr hr' h
    obtain ⟨k', n', s', l'⟩ := u
    rw [meetF_fst] at h
    have ek : k = k' := by
      by_cases e : Lib.compareInt k k' = 0
      · exact cI_zero.1 e
      · rw [if_pos e] at h; exact absurd h e
    subst ek
    rw [if_neg (by rw [show Lib.compareInt k k = 0 from cI_zero.2 rfl]; simp)] at h
    unfold inner at h
    rw [right_is, Bool.and_eq_true] at hr hr'
    unfold partR at hr hr'
    obtain ⟨hp, hrl⟩ := hr
    obtain ⟨hp', hrl'⟩ := hr'
    by_cases k1 : k = 1
    · rw [if_pos k1] at h hp hp'
      repeat' split at hp
      all_goals first | exact absurd hp Bool.false_ne_true | skip
      repeat' split at hp'
      all_goals first | exact absurd hp' Bool.false_ne_true | skip
      rename_i _ _ a1 _ _ a2
      rw [cI_zero.1 h, empty_of a1 a2, nil_of hp hp']
    · rw [if_neg k1] at h hp hp'
      by_cases k2 : k = 2
      · rw [if_pos k2] at h hp hp'
        repeat' split at hp
        all_goals first | exact absurd hp Bool.false_ne_true | skip
        repeat' split at hp'
        all_goals first | exact absurd hp' Bool.false_ne_true | skip
        rename_i _ _ a1 _ _ a2
        rw [cI_zero.1 h, empty_of a1 a2, nil_of hp hp']
      · rw [if_neg k2] at h hp hp'
        by_cases k3 : k = 3
        · rw [if_pos k3] at h hp hp'
          repeat' split at hp
          all_goals first | exact absurd hp Bool.false_ne_true | skip
          repeat' split at hp'
          all_goals first | exact absurd hp' Bool.false_ne_true | skip
          rename_i a1 _ a2 _
          rw [a1, a2, cS_zero.1 h, nil_of hp hp']
        · rw [if_neg k3] at h hp hp'
          by_cases k4 : k = 4
          · rw [if_pos k4] at hp hp'
            repeat' split at hp
            all_goals first | exact absurd hp Bool.false_ne_true | skip
            repeat' split at hp'
            all_goals first | exact absurd hp' Bool.false_ne_true | skip
            rename_i a1 _ _ a2 _ _
            by_cases e : Lib.compareInt (l.length : Nat) (l'.length : Nat) = 0
            · rw [if_neg (by simpa using e)] at h
              by_cases e2 : cS s s' = 0
              · rw [if_neg (by simpa using e2)] at h
                rw [a1, a2, cS_zero.1 e2, meets_eq l l' (fun x hx u h1 h2 h3 => ih x hx u h1 h2 h3) hrl hrl' (by have := cI_zero.1 e; omega) h]
              · rw [if_pos e2] at h; exact absurd h e2
            · rw [if_pos e] at h; exact absurd h e
          · rw [if_neg k4] at hp
            exact absurd hp Bool.false_ne_true
theorem meet_zero {t u : T} (h : t.right = true) (h' : u.right = true) : ((meetF t u).1 == 0) = t.eqb u := by
  by_cases e : t = u
  · subst e
    rw [meetF_self, T.eqb_refl]
    rfl
  · have h1 : t.eqb u = false := by
      cases hh : t.eqb u with
      | false => rfl
      | true => exact absurd ((T.eqb_iff t u).1 hh) e
    have h2 : (meetF t u).1 ≠ 0 := fun e' => e (meetF_eq t u h h' e')
    rw [h1]
    simpa using h2
end Go.Proofs.Ytgedhmnkhoajbaa.orders
