/- Operators: the order of operators, in plain words; what is in order is so in one way alone. -/
import Derived.Test.YtodgjkdhkohckaaDoorOper14
import Derived.Sort.Statements
namespace Go.Proofs.YtodgjkdhkohckaaDoor.opers
open Go.RowKit Go.Proofs.YtodgjkdhkohckaaDoor.own Go.Maps Go.Sort
theorem cI_zero {a b : Int} : Lib.compareInt a b = 0 ↔ a = b := by
  unfold Lib.compareInt
  split
  · constructor <;> intro h <;> omega
  · split
    · constructor <;> intro h <;> omega
    · constructor <;> intro h <;> omega
def Tr (a b c : Int) : Prop := (a ≤ 0 → b ≤ 0 → c ≤ 0 ∧ (c < 0 ∨ (a = 0 ∧ b = 0))) ∧ (a = 0 → b = 0 → c = 0)
theorem tr_zero : Tr 0 0 0 := ⟨fun _ _ => ⟨by omega, .inr ⟨rfl, rfl⟩⟩, fun _ _ => rfl⟩
theorem tr_lex {a1 b1 c1 a2 b2 c2 a b c : Int} (h1 : Tr a1 b1 c1) (h2 : a1 = 0 → b1 = 0 → c1 = 0 → Tr a2 b2 c2) (ha : a = if a1 ≠ 0 then a1 else a2) (hb : b = if b1 ≠ 0 then b1 else b2) (hc : c = if c1 ≠ 0 then c1 else c2) : Tr a b c := by
  subst ha hb hc
  obtain ⟨p1, p2⟩ := h1
  constructor
  · intro x y
    by_cases ea : a1 = 0
    · by_cases eb : b1 = 0
      · have ec := p2 ea eb
        obtain ⟨q1, q2⟩ := h2 ea eb ec
        simp only [ea, eb, ec, ne_eq, not_true_eq_false, if_false] at x y ⊢
        exact q1 x y
      · simp only [eb, ne_eq, not_false_eq_true, if_true] at y
        have := p1 (by omega) y
        have hc : c1 ≠ 0 := by omega
        rw [if_pos hc]
        exact ⟨by omega, .inl (by omega)⟩
    · simp only [ea, ne_eq, not_false_eq_true, if_true] at x
      by_cases eb : b1 = 0
      · have := p1 x (by omega)
        have hc : c1 ≠ 0 := by omega
        rw [if_pos hc]
        exact ⟨by omega, .inl (by omega)⟩
      · simp only [eb, ne_eq, not_false_eq_true, if_true] at y
        have := p1 x y
        have hc : c1 ≠ 0 := by omega
        rw [if_pos hc]
        exact ⟨by omega, .inl (by omega)⟩
  · intro x y
    by_cases ea : a1 = 0
    · by_cases eb : b1 = 0
      · have ec := p2 ea eb
        obtain ⟨q1, q2⟩ := h2 ea eb ec
        simp only [ea, eb, ec, ne_eq, not_true_eq_false, if_false] at x y ⊢
        exact q2 x y
      · rw [if_pos eb] at y; exact absurd y eb
    · rw [if_pos ea] at x; exact absurd x ea
theorem tr_int (a b c : Int) : Tr (Lib.compareInt a b) (Lib.compareInt b c) (Lib.compareInt a c) := by
  unfold Lib.compareInt Tr
  constructor
  · intro h1 h2
    split at h1 <;> split at h2 <;> (try split at h1) <;> (try split at h2) <;> (repeat' split) <;> omega
  · intro h1 h2
    split at h1 <;> split at h2 <;> (try split at h1) <;> (try split at h2) <;> (repeat' split) <;> omega
theorem cB_zero : ∀ a b : List UInt8, Lib.compareBytes a b = 0 ↔ a = b
  | [], [] => by simp [Lib.compareBytes]
  | [], _ :: _ => by simp [Lib.compareBytes]
  | _ :: _, [] => by simp [Lib.compareBytes]
  | x :: r, y :: q => by
    simp only [Lib.compareBytes, List.cons.injEq]
    by_cases h : x < y
    · rw [if_pos h]
      refine ⟨fun e => absurd e (by omega), fun e => ?_⟩
      rw [e.1] at h
      exact absurd h (UInt8.lt_irrefl _)
    · rw [if_neg h]
      by_cases h' : y < x
      · rw [if_pos h']
        refine ⟨fun e => absurd e (by omega), fun e => ?_⟩
        rw [e.1] at h'
        exact absurd h' (UInt8.lt_irrefl _)
      · rw [if_neg h', cB_zero r q]
        have e : x = y := UInt8.le_antisymm (UInt8.not_lt.1 h') (UInt8.not_lt.1 h)
        exact ⟨fun e' => ⟨e, e'⟩, fun e' => e'.2⟩
def one8 (x y : UInt8) : Int := Lib.compareInt (x.toNat : Int) (y.toNat : Int)
theorem cB_cons (x y : UInt8) (r q : List UInt8) : Lib.compareBytes (x :: r) (y :: q) = if one8 x y ≠ 0 then one8 x y else Lib.compareBytes r q := by
  simp only [Lib.compareBytes]
  by_cases h : x < y
  · have h2 := UInt8.lt_iff_toNat_lt.1 h
    have e : one8 x y = -1 := by unfold one8 Lib.compareInt; rw [if_pos (by omega)]
    rw [if_pos h, e, if_pos (by omega)]
  · have h2 : ¬ x.toNat < y.toNat := fun e => h (UInt8.lt_iff_toNat_lt.2 e)
    rw [if_neg h]
    by_cases h' : y < x
    · have h3 := UInt8.lt_iff_toNat_lt.1 h'
      have e : one8 x y = 1 := by unfold one8 Lib.compareInt; rw [if_neg (by omega), if_pos (by omega)]
      rw [if_pos h', e, if_pos (by omega)]
    · have h3 : ¬ y.toNat < x.toNat := fun e => h' (UInt8.lt_iff_toNat_lt.2 e)
      have e : one8 x y = 0 := by unfold one8 Lib.compareInt; rw [if_neg (by omega), if_neg (by omega)]
      rw [if_neg h', e, if_neg (by omega)]
theorem tr_bytes : ∀ a b c : List UInt8, Tr (Lib.compareBytes a b) (Lib.compareBytes b c) (Lib.compareBytes a c)
  | [], [], [] => tr_zero
  | [], [], _ :: _ => by simp [Lib.compareBytes, Tr]
  | [], _ :: _, [] => by simp [Lib.compareBytes, Tr]
  | [], _ :: _, _ :: _ => by
    simp only [Lib.compareBytes, Tr]
    exact ⟨fun _ _ => ⟨by omega, .inl (by omega)⟩, fun h => absurd h (by omega)⟩
  | _ :: _, [], [] => by simp [Lib.compareBytes, Tr]
  | _ :: _, [], _ :: _ => by
    simp only [Lib.compareBytes, Tr]
    exact ⟨fun h => absurd h (by omega), fun h => absurd h (by omega)⟩
  | _ :: _, _ :: _, [] => by
    simp only [Lib.compareBytes, Tr]
    exact ⟨fun _ h => absurd h (by omega), fun _ h => absurd h (by omega)⟩
  | x :: r, y :: q, z :: p => tr_lex (tr_int x.toNat y.toNat z.toNat) (fun _ _ _ => tr_bytes r q p) (cB_cons x y r q) (cB_cons y z q p) (cB_cons x z r p)
/-- An operator. -/
structure Op3 where
  p : Int
  k : Int
  n : ByteArray
instance : Inhabited Op3 := ⟨⟨0, 0, ⟨#[]⟩⟩⟩
def cfO (x y : Op3) : Int := if Lib.compareBytes x.n.data.toList y.n.data.toList ≠ 0 then Lib.compareBytes x.n.data.toList y.n.data.toList else Lib.compareInt x.k y.k
def ltO (x y : Op3) : Bool := decide (cfO x y < 0)
theorem cB_anti : ∀ a b : List UInt8, Lib.compareBytes b a = -(Lib.compareBytes a b)
  | [], [] => by simp [Lib.compareBytes]
  | [], _ :: _ => by simp [Lib.compareBytes]
  | _ :: _, [] => by simp [Lib.compareBytes]
  | x :: r, y :: q => by
    simp only [Lib.compareBytes]
    by_cases h : x < y
    · have h' : ¬ y < x := fun h2 => by
        rw [UInt8.lt_iff_toNat_lt] at h h2
        omega
      rw [if_pos h, if_neg h', if_pos h]
      rfl
    · by_cases h2 : y < x
      · rw [if_pos h2, if_neg h, if_pos h2]
      · rw [if_neg h2, if_neg h, if_neg h, if_neg h2]
        exact cB_anti r q
theorem cI_anti (a b : Int) : Lib.compareInt b a = -(Lib.compareInt a b) := by
  unfold Lib.compareInt
  split <;> split <;> (repeat' split) <;> omega
theorem cfO_anti (x y : Op3) : cfO y x = -(cfO x y) := by
  unfold cfO
  have e := cB_anti x.n.data.toList y.n.data.toList
  by_cases h : Lib.compareBytes x.n.data.toList y.n.data.toList = 0
  · rw [if_neg (by omega), if_neg (by omega)]
    exact cI_anti _ _
  · rw [if_pos (by omega), if_pos (by omega)]
    exact e
theorem cfO_tr (x y z : Op3) : Tr (cfO x y) (cfO y z) (cfO x z) := tr_lex (tr_bytes _ _ _) (fun _ _ _ => tr_int _ _ _) rfl rfl rfl
theorem cfO_swo : SWO ltO := by
  refine ⟨fun x => ?_, fun x y z h1 h2 => ?_, fun x y z h1 h2 => ?_⟩
  · have := cfO_anti x x
    unfold ltO
    exact decide_eq_false (by omega)
  · unfold ltO at *
    have h1 := of_decide_eq_true h1
    have h2 := of_decide_eq_true h2
    have := (cfO_tr x y z).1 (by omega) (by omega)
    exact decide_eq_true (by omega)
  · unfold ltO at *
    have h1 := of_decide_eq_false h1
    have h2 := of_decide_eq_false h2
    have e1 := cfO_anti x y
    have e2 := cfO_anti y z
    have e3 := cfO_anti x z
    have := (cfO_tr z y x).1 (by omega) (by omega)
    exact decide_eq_false (by omega)
theorem same_nk {x y : Op3} (h1 : ltO x y = false) (h2 : ltO y x = false) : x.n = y.n ∧ x.k = y.k := by
  unfold ltO at *
  have h1 := of_decide_eq_false h1
  have h2 := of_decide_eq_false h2
  have e1 := cfO_anti x y
  have e : cfO x y = 0 := by omega
  unfold cfO at e
  by_cases h : Lib.compareBytes x.n.data.toList y.n.data.toList = 0
  · rw [if_neg (by omega)] at e
    have hn := (cB_zero _ _).1 h
    refine ⟨?_, cI_zero.1 e⟩
    cases hx : x.n with
    | mk dx =>
      cases hy : y.n with
      | mk dy =>
        rw [hx, hy] at hn
        have e : dx = dy := Array.toList_inj.1 hn
        rw [e]
  · rw [if_pos h] at e
    exact absurd e h
theorem uniq_sorted {α : Type} (lt : α → α → Bool) : ∀ (l l' : List α), l.Perm l' → l.Pairwise (fun x y => lt y x = false) → l'.Pairwise (fun x y => lt y x = false) → (∀ x ∈ l, ∀ y ∈ l, lt x y = false → lt y x = false → x = y) → l = l'
  | [], l', hp, _, _, _ => by rw [List.Perm.nil_eq hp]
  | a :: t, l', hp, h1, h2, h3 => by
    cases l' with
    | nil => exact absurd hp.length_eq (by simp)
    | cons b t' =>
      rw [List.pairwise_cons] at h1 h2
      have e : a = b := by
        have ha : a ∈ b :: t' := hp.mem_iff.1 (List.mem_cons_self)
        have hb : b ∈ a :: t := hp.mem_iff.2 (List.mem_cons_self)
        rcases List.mem_cons.1 ha with e | ha'
        · exact e
        · rcases List.mem_cons.1 hb with e | hb'
          · exact e.symm
          · exact h3 a List.mem_cons_self b (List.mem_cons_of_mem _ hb') (h2.1 a ha') (h1.1 b hb')
      subst e
      rw [uniq_sorted lt t t' hp.cons_inv h1.2 h2.2 (fun x hx y hy => h3 x (List.mem_cons_of_mem _ hx) y (List.mem_cons_of_mem _ hy))]
end Go.Proofs.YtodgjkdhkohckaaDoor.opers
