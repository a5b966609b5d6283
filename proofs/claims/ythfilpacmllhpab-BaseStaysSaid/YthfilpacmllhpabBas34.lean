/- Clauses by generations: names and arities compared; the order of predicates. -/
import Derived.Test.YthfilpacmllhpabBas13
import Derived.Test.YthfilpacmllhpabShelf
import Derived.Sort.Statements
import Derived.Laws.Cover1
import Derived.Lib.Bytealg
import Derived.LoopN
import Derived.Shelf.SlSortCmp.WholeK
namespace Go.Proofs.Ythfilpacmllhpab.bases
set_option maxRecDepth 100000
open Go.RowKit Go.Proofs.Ythfilpacmllhpab.own Go.Maps Go.Sort
theorem cI_zero {a b : Int} : Lib.compareInt a b = 0 ↔ a = b := by
  unfold Lib.compareInt
  split
  · constructor <;> intro h <;> omega
  · split
    · constructor <;> intro h <;> omega
    · constructor <;> intro h <;> omega
def Tr (a b c : Int) : Prop := (a ≤ 0 → b ≤ 0 → c ≤ 0 ∧ (c < 0 ∨ (a = 0 ∧ b = 0))) ∧ (a = 0 → b = 0 → c = 0)
theorem tr_zero : Tr 0 0 0 := ⟨fun _ _ => ⟨by omega, .inr ⟨rfl, rfl⟩⟩, fun _ _ => rfl⟩
theorem tr_lex {a1 b1 c1 a2 b2 c2 a b c : Int} (h1 : Tr a1 b1 c1) (h2 : a1 = 0 → b1 = 0 → c1 = 0 → Tr a2 b2 c2) (ha : a = if a1 ≠ 0 then a1 else a2) (hb : b = if b1 ≠ 0 then b1 else b2) (hc : c = if c1 ≠ 0 then c1 else c2) : Tr a b c := by
  subst ha hb hc
  obtain ⟨p1, p2⟩ := h1
  constructor
  · intro x y
    by_cases ea : a1 = 0
    · by_cases eb : b1 = 0
      · have ec := p2 ea eb
        obtain ⟨q1, q2⟩ := h2 ea eb ec
        simp only [ea, eb, ec, ne_eq, not_true_eq_false, if_false] at x y ⊢
        exact q1 x y
      · simp only [eb, ne_eq, not_false_eq_true, if_true] at y
        have := p1 (by omega) y
        have hc : c1 ≠ 0 := by omega
        rw [if_pos hc]
        exact ⟨by omega, .inl (by omega)⟩
    · simp only [ea, ne_eq, not_false_eq_true, if_true] at x
      by_cases eb : b1 = 0
      · have := p1 x (by omega)
        have hc : c1 ≠ 0 := by omega
        rw [if_pos hc]
        exact ⟨by omega, .inl (by omega)⟩
      · simp only [eb, ne_eq, not_false_eq_true, if_true] at y
        have := p1 x y
        have hc : c1 ≠ 0 := by omega
        rw [if_pos hc]
        exact ⟨by omega, .inl (by omega)⟩
  · intro x y
    by_cases ea : a1 = 0
    · by_cases eb : b1 = 0
      · have ec := p2 ea eb
        obtain ⟨q1, q2⟩ := h2 ea eb ec
        simp only [ea, eb, ec, ne_eq, not_true_eq_false, if_false] at x y ⊢
        exact q2 x y
      · rw [if_pos eb] at y; exact absurd y eb
    · rw [if_pos ea] at x; exact absurd x ea
theorem tr_int (a b c : Int) : Tr (Lib.compareInt a b) (Lib.compareInt b c) (Lib.compareInt a c) := by
  unfold Lib.compareInt Tr
  constructor
  · intro h1 h2
    split at h1 <;> split at h2 <;> (try split at h1) <;> (try split at h2) <;> (repeat' split) <;> omega
  · intro h1 h2
    split at h1 <;> split at h2 <;> (try split at h1) <;> (try split at h2) <;> (repeat' split) <;> omega
theorem cB_zero : ∀ a b : List UInt8, Lib.compareBytes a b = 0 ↔ a = b
  | [], [] => by simp [Lib.compareBytes]
  | [], _ :: _ => by simp [Lib.compareBytes]
  | _ :: _, [] => by simp [Lib.compareBytes]
  | x :: r, y :: q => by
    simp only [Lib.compareBytes, List.cons.injEq]
    by_cases h : x < y
    · rw [if_pos h]
      refine ⟨fun e => absurd e (by omega), fun e => ?_⟩
      rw [e.1] at h
      exact absurd h (UInt8.lt_irrefl _)
    · rw [if_neg h]
      by_cases h' : y < x
      · rw [if_pos h']
        refine ⟨fun e => absurd e (by omega), fun e => ?_⟩
        rw [e.1] at h'
        exact absurd h' (UInt8.lt_irrefl _)
      · rw [if_neg h', cB_zero r q]
        have e : x = y := UInt8.le_antisymm (UInt8.not_lt.1 h') (UInt8.not_lt.1 h)
        exact ⟨fun e' => ⟨e, e'⟩, fun e' => e'.2⟩
def one8 (x y : UInt8) : Int := Lib.compareInt (x.toNat : Int) (y.toNat : Int)
theorem cB_cons (x y : UInt8) (r q : List UInt8) : Lib.compareBytes (x :: r) (y :: q) = if one8 x y ≠ 0 then one8 x y else Lib.compareBytes r q := by
  simp only [Lib.compareBytes]
  by_cases h : x < y
  · have h2 := UInt8.lt_iff_toNat_lt.1 h
    have e : one8 x y = -1 := by unfold one8 Lib.compareInt; rw [if_pos (by omega)]
    rw [if_pos h, e, if_pos (by omega)]
  · have h2 : ¬ x.toNat < y.toNat := fun e => h (UInt8.lt_iff_toNat_lt.2 e)
    rw [if_neg h]
    by_cases h' : y < x
    · have h3 := UInt8.lt_iff_toNat_lt.1 h'
      have e : one8 x y = 1 := by unfold one8 Lib.compareInt; rw [if_neg (by omega), if_pos (by omega)]
      rw [if_pos h', e, if_pos (by omega)]
    · have h3 : ¬ y.toNat < x.toNat := fun e => h' (UInt8.lt_iff_toNat_lt.2 e)
      have e : one8 x y = 0 := by unfold one8 Lib.compareInt; rw [if_neg (by omega), if_neg (by omega)]
      rw [if_neg h', e, if_neg (by omega)]
theorem tr_bytes : ∀ a b c : List UInt8, Tr (Lib.compareBytes a b) (Lib.compareBytes b c) (Lib.compareBytes a c)
  | [], [], [] => tr_zero
  | [], [], _ :: _ => by simp [Lib.compareBytes, Tr]
  | [], _ :: _, [] => by simp [Lib.compareBytes, Tr]
  | [], _ :: _, _ :: _ => by
    simp only [Lib.compareBytes, Tr]
    exact ⟨fun _ _ => ⟨by omega, .inl (by omega)⟩, fun h => absurd h (by omega)⟩
  | _ :: _, [], [] => by simp [Lib.compareBytes, Tr]
  | _ :: _, [], _ :: _ => by
    simp only [Lib.compareBytes, Tr]
    exact ⟨fun h => absurd h (by omega), fun h => absurd h (by omega)⟩
  | _ :: _, _ :: _, [] => by
    simp only [Lib.compareBytes, Tr]
    exact ⟨fun _ h => absurd h (by omega), fun _ h => absurd h (by omega)⟩
  | x :: r, y :: q, z :: p => tr_lex (tr_int x.toNat y.toNat z.toNat) (fun _ _ _ => tr_bytes r q p) (cB_cons x y r q) (cB_cons y z q p) (cB_cons x z r p)
theorem cB_anti : ∀ a b : List UInt8, Lib.compareBytes b a = -(Lib.compareBytes a b)
  | [], [] => by simp [Lib.compareBytes]
  | [], _ :: _ => by simp [Lib.compareBytes]
  | _ :: _, [] => by simp [Lib.compareBytes]
  | x :: r, y :: q => by
    simp only [Lib.compareBytes]
    by_cases h : x < y
    · have h' : ¬ y < x := fun h2 => by
        rw [UInt8.lt_iff_toNat_lt] at h h2
        omega
      rw [if_pos h, if_neg h', if_pos h]
      rfl
    · by_cases h2 : y < x
      · rw [if_pos h2, if_neg h, if_pos h2]
      · rw [if_neg h2, if_neg h, if_neg h, if_neg h2]
        exact cB_anti r q
theorem cI_anti (a b : Int) : Lib.compareInt b a = -(Lib.compareInt a b) := by
  unfold Lib.compareInt
  split <;> split <;> (repeat' split) <;> omega
instance : Inhabited Pd := ⟨⟨⟨⟨#[]⟩, 0⟩, 0⟩⟩
def cfP (x y : Pd) : Int := if Lib.compareBytes x.nm.s.data.toList y.nm.s.data.toList ≠ 0 then Lib.compareBytes x.nm.s.data.toList y.nm.s.data.toList else Lib.compareInt x.nm.a y.nm.a
def ltP (x y : Pd) : Bool := decide (cfP x y < 0)
theorem cfP_anti (x y : Pd) : cfP y x = -(cfP x y) := by
  unfold cfP
  have e := cB_anti x.nm.s.data.toList y.nm.s.data.toList
  by_cases h : Lib.compareBytes x.nm.s.data.toList y.nm.s.data.toList = 0
  · rw [if_neg (by omega), if_neg (by omega)]
    exact cI_anti _ _
  · rw [if_pos (by omega), if_pos (by omega)]
    exact e
theorem cfP_tr (x y z : Pd) : Tr (cfP x y) (cfP y z) (cfP x z) := tr_lex (tr_bytes _ _ _) (fun _ _ _ => tr_int _ _ _) rfl rfl rfl
theorem cfP_swo : SWO ltP := by
  refine ⟨fun x => ?_, fun x y z h1 h2 => ?_, fun x y z h1 h2 => ?_⟩
  · have := cfP_anti x x
    unfold ltP
    exact decide_eq_false (by omega)
  · unfold ltP at *
    have h1 := of_decide_eq_true h1
    have h2 := of_decide_eq_true h2
    have := (cfP_tr x y z).1 (by omega) (by omega)
    exact decide_eq_true (by omega)
  · unfold ltP at *
    have h1 := of_decide_eq_false h1
    have h2 := of_decide_eq_false h2
    have e1 := cfP_anti x y
    have e2 := cfP_anti y z
    have e3 := cfP_anti x z
    have := (cfP_tr z y x).1 (by omega) (by omega)
    exact decide_eq_false (by omega)
theorem less_cmp : ∀ a b : List UInt8, Op.bytesLess a b = decide (Lib.compareBytes a b < 0)
  | [], [] => by simp [Op.bytesLess, Lib.compareBytes]
  | [], _ :: _ => by simp [Op.bytesLess, Lib.compareBytes]
  | _ :: _, [] => by simp [Op.bytesLess, Lib.compareBytes]
  | x :: r, y :: q => by
    have ih := less_cmp r q
    rw [Bool.eq_iff_iff, decide_eq_true_iff] at ih ⊢
    simp only [Op.bytesLess, Lib.compareBytes, Bool.or_eq_true, Bool.and_eq_true, decide_eq_true_eq, beq_iff_eq]
    by_cases h : x < y
    · simp [h]
    · by_cases h' : y < x
      · have hne : ¬ x = y := by
          rintro rfl
          exact UInt8.lt_irrefl _ h'
        simp [h, h', hne]
      · have e : x = y := UInt8.le_antisymm (UInt8.not_lt.1 h') (UInt8.not_lt.1 h)
        subst e
        simp [h, ih]
theorem cB_range : ∀ a b : List UInt8, Lib.compareBytes a b = -1 ∨ Lib.compareBytes a b = 0 ∨ Lib.compareBytes a b = 1
  | [], [] => by simp [Lib.compareBytes]
  | [], _ :: _ => by simp [Lib.compareBytes]
  | _ :: _, [] => by simp [Lib.compareBytes]
  | x :: r, y :: q => by
    simp only [Lib.compareBytes]
    split
    · exact .inl rfl
    · split
      · exact .inr (.inr rfl)
      · exact cB_range r q
theorem nan_any (x : ByteArray) (w : World) : Calls Try.prog 64 #[.string x] w fun e w' => e = .returned (.bool false) ∧ w' = w := by
  go_enter Try.func64, Try.ntmps64
  go_wp2_with fail
  go_ret
  exact ⟨rfl, rfl⟩
theorem cmps_any (x y : ByteArray) (w : World) : Calls Try.prog 45 #[.string x, .string y] w fun e w' => e = .returned (.int .i64 (Lib.compareBytes x.data.toList y.data.toList)) ∧ w' = w := by
  have hl : Op.bytesLess x.toList y.toList = decide (Lib.compareBytes x.data.toList y.data.toList < 0) := by
    rw [less_cmp, Go.ByteArray.toList_eq, Go.ByteArray.toList_eq]
  have hz := cB_zero x.data.toList y.data.toList
  have HR : Hid (Lib.compareBytes x.data.toList y.data.toList = -1 ∨ Lib.compareBytes x.data.toList y.data.toList = 0 ∨ Lib.compareBytes x.data.toList y.data.toList = 1) := Lib.hid (cB_range _ _)
  rcases HR.out with h | h | h
  all_goals
    have h1 : Op.bytesLess x.toList y.toList = _ := hl
    rw [h] at h1
    have HH := Lib.hid h
    have heq : (x.toList == y.toList) = decide (Lib.compareBytes x.data.toList y.data.toList = 0) := by
      rw [Go.ByteArray.toList_eq, Go.ByteArray.toList_eq, Bool.eq_iff_iff, decide_eq_true_iff, beq_iff_eq]
      exact hz.symm
    rw [h] at heq
    rw [h]
    simp only [decide_true, decide_false, show decide ((-1 : Int) < 0) = true by decide, show decide ((0 : Int) < 0) = false by decide, show decide ((1 : Int) < 0) = false by decide, show decide ((-1 : Int) = 0) = false by decide, show decide ((0 : Int) = 0) = true by decide, show decide ((1 : Int) = 0) = false by decide] at h1 heq
    clear hl hz h HR
    go_enter Try.func45, Try.ntmps45
    go_wp2_with fail
    refine (nan_any x w).mono ?_
    rintro e w1 ⟨rfl, rfl⟩
    go_wp2_with fail
    refine (nan_any y w1).mono ?_
    rintro e w2 ⟨rfl, rfl⟩
    go_wp2_with fail
    go_ret
    exact ⟨rfl, rfl⟩
def orF (a b : Int) : Int := if a ≠ 0 then a else b
set_option maxRecDepth 100000 in
set_option maxHeartbeats 2000000 in
theorem or_any (a b : Int) (g : Nat) (w : World) (hg : w.heap[g]? = some (.cells #[.int .i64 a, .int .i64 b] 3 (0, 0))) : Calls Try.prog 44 #[.slice (some ⟨g, 0, none⟩) 2 2] w fun e w' => e = .returned (.int .i64 (orF a b)) ∧ w' = w := by
  have c0 := cell_of_blk hg 0
  have c1 := cell_of_blk hg 1
  simp only [List.getElem?_toArray, List.getElem?_cons_zero, List.getElem?_cons_succ] at c0 c1
  clear hg
  by_cases ha : a = 0
  · have hE : Hid (orF a b = b) := Lib.hid (by unfold orF; rw [if_neg (by omega)])
    subst ha
    by_cases hb : b = 0
    · subst hb
      go_enter Try.func44, Try.ntmps44
      go_wp2_with fail
      refine wp_loop_rounds 3 ?_
      rw [rounds_succ]
      go_wp2_with fail
      rw [rounds_succ]
      go_wp2_with fail
      rw [rounds_succ]
      go_wp2_with fail
      go_ret
      exact ⟨by rw [hE.out]; rfl, rfl⟩
    · go_enter Try.func44, Try.ntmps44
      go_wp2_with fail
      refine wp_loop_rounds 3 ?_
      rw [rounds_succ]
      go_wp2_with fail
      rw [rounds_succ]
      go_wp2_with fail
      go_ret
      exact ⟨by rw [hE.out]; rfl, rfl⟩
  · have hE : Hid (orF a b = a) := Lib.hid (by unfold orF; rw [if_pos ha])
    go_enter Try.func44, Try.ntmps44
    go_wp2_with fail
    refine wp_loop_rounds 3 ?_
    rw [rounds_succ]
    go_wp2_with fail
    go_ret
    exact ⟨by rw [hE.out]; rfl, rfl⟩
end Go.Proofs.Ythfilpacmllhpab.bases
