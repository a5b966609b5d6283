/- Plain facts on the texts of cells, without any program: the decimal numeral of an int is read back by Atoi; a cell's text is cut at its colon; both ways of reading a text are one. -/
import Derived.Lib.AtoiAllCases
import Derived.Lib.ItoaNum
import Derived.Lib.CutLaws
import Derived.Lib.IndexMore
namespace Go.Proofs.YtdhppkobhmbnaaaDoor.cells
open Go.Lib

/-! ### numerals -/
theorem toNat_ofNat {n : Nat} (h : n < 256) : (UInt8.ofNat n).toNat = n := by simp [UInt8.toNat_ofNat']; omega

theorem digit_of (d : Nat) (h : d < 10) : (UInt8.ofNat (48 + d)).toNat = 48 + d := toNat_ofNat (by omega)

theorem decDigits_ne (u : Nat) : decDigits u ≠ [] := by
  have h1 := decDigits_length u
  have h2 := nDigits_pos u
  intro h
  rw [h] at h1
  simp at h1
  omega

theorem decDigits_small {u : Nat} (h : u < 10) : decDigits u = [UInt8.ofNat (48 + u)] := by rw [decDigits, dif_pos h]
theorem decDigits_big {u : Nat} (h : ¬ u < 10) : decDigits u = decDigits (u / 10) ++ [UInt8.ofNat (48 + u % 10)] := by rw [decDigits, dif_neg h]

theorem decDigits_mem : ∀ (k u : Nat), u ≤ k → ∀ c ∈ decDigits u, 48 ≤ c.toNat ∧ c.toNat ≤ 57
  | 0, u, hu, c, hc => by
    rw [decDigits_small (by omega)] at hc
    rw [List.mem_singleton.1 hc, digit_of u (by omega)]; omega
  | k + 1, u, hu, c, hc => by
    by_cases h : u < 10
    · rw [decDigits_small h] at hc
      rw [List.mem_singleton.1 hc, digit_of u (by omega)]; omega
    · rw [decDigits_big h] at hc
      rcases List.mem_append.1 hc with h1 | h1
      · exact decDigits_mem k (u / 10) (by omega) c h1
      · rw [List.mem_singleton.1 h1, digit_of _ (by omega)]; omega
theorem decDigits_range (u : Nat) : ∀ c ∈ decDigits u, 48 ≤ c.toNat ∧ c.toNat ≤ 57 := decDigits_mem u u (Nat.le_refl _)

/-- Reading digits from the left. -/
theorem parseUint10_append : ∀ (l r : List UInt8) (acc u : Nat), parseUint10 acc l = .ok u → parseUint10 acc (l ++ r) = parseUint10 u r
  | [], r, acc, u, h => by simp only [parseUint10] at h; injection h with h; subst h; rfl
  | c :: l, r, acc, u, h => by
    simp only [parseUint10, List.cons_append] at h ⊢
    split at h
    · rename_i h1
      rw [if_pos h1]
      split at h
      · cases h
      · rename_i h2
        rw [if_neg h2]
        split at h
        · cases h
        · rename_i h3
          rw [if_neg h3]
          exact parseUint10_append l r _ u h
    · cases h

theorem parseUint10_dec : ∀ (k u : Nat), u ≤ k → u < 18446744073709551616 → parseUint10 0 (decDigits u) = .ok u
  | k, u, hk, hu => by
    by_cases h : u < 10
    · rw [decDigits_small h]
      simp only [parseUint10]
      rw [digit_of u h, if_pos (by omega), if_neg (by omega), if_neg (by omega)]
      congr 1
      omega
    · match k, hk with
      | 0, hk => omega
      | k + 1, hk =>
        rw [decDigits_big h, parseUint10_append _ _ 0 (u / 10) (parseUint10_dec k (u / 10) (by omega) (by omega))]
        simp only [parseUint10]
        rw [digit_of _ (by omega), if_pos (by omega), if_neg (by omega), if_neg (by omega)]
        congr 1
        omega

theorem parseMag_dec (u : Nat) (hu : u < 18446744073709551616) : parseMag (decDigits u) = .ok u := by
  unfold parseMag
  rw [if_neg (decDigits_ne u)]
  exact parseUint10_dec u u (Nat.le_refl _) hu

/-- What Itoa writes Atoi reads. -/
theorem atoiAll_itoa (n : Int) (h0 : -9223372036854775808 ≤ n) (h1 : n ≤ 9223372036854775807) : atoiAll (itoa n) = .ok n := by
  unfold itoa
  split
  · rw [atoiAll_minus, parseMag_dec _ (by omega)]
    simp only [signed]
    rw [if_neg (by omega)]
    congr 1
    omega
  · have hm := parseMag_dec n.toNat (by omega)
    cases hd : decDigits n.toNat with
    | nil => exact absurd hd (decDigits_ne _)
    | cons c r =>
      have hc := decDigits_range n.toNat c (by rw [hd]; simp)
      rw [atoiAll_plain c r (by omega) (by omega), ← hd, hm]
      simp only [signless]
      rw [if_neg (by omega)]
      congr 1
      omega

theorem itoa_inj {a b : Int} (ha : -9223372036854775808 ≤ a ∧ a ≤ 9223372036854775807) (hb : -9223372036854775808 ≤ b ∧ b ≤ 9223372036854775807) (h : itoa a = itoa b) : a = b := by
  have h1 := atoiAll_itoa a ha.1 ha.2
  have h2 := atoiAll_itoa b hb.1 hb.2
  rw [h, h2] at h1
  injection h1 with h1
  exact h1.symm

/-! ### words and their texts -/
def nameOf (t : Int) : List UInt8 :=
  if t = 1 then [114, 101, 102] else if t = 2 then [115, 116, 114] else if t = 3 then [97, 116, 111, 109] else if t = 4 then [105, 110, 116]
  else if t = 5 then [102, 117, 110] else if t = 6 then [102, 114, 101, 101] else if t = 7 then [116, 97, 103, 55] else []
def mkOf (t n : Int) : Int := (n * 8 + t) % 18446744073709551616
def tagOf (x : Int) : Int := x % 8
def numOf (x : Int) : Int := if x % 8 = 0 then 0 else if x / 8 < 1152921504606846976 then x / 8 else x / 8 - 2305843009213693952
def MayBe (t n : Int) : Prop := 1 ≤ t ∧ t ≤ 7 ∧ -1152921504606846976 ≤ n ∧ n ≤ 1152921504606846975
instance (t n : Int) : Decidable (MayBe t n) := by unfold MayBe; infer_instance
def mayB (t n : Int) : Bool := decide (MayBe t n)
def textOf (x : Int) : List UInt8 := if x % 8 = 0 then [46] else nameOf (tagOf x) ++ 58 :: itoa (numOf x)
def IsWord (x : Int) : Prop := 0 ≤ x ∧ x < 18446744073709551616

theorem numOf_range {x : Int} (h : IsWord x) : -1152921504606846976 ≤ numOf x ∧ numOf x ≤ 1152921504606846975 := by
  obtain ⟨h0, h1⟩ := h
  unfold numOf
  split
  · omega
  · split <;> omega
theorem tagOf_range (x : Int) : 0 ≤ tagOf x ∧ tagOf x ≤ 7 := by unfold tagOf; omega

theorem mk_word (t n : Int) : IsWord (mkOf t n) := by unfold IsWord mkOf; omega
theorem tag_mk {t n : Int} (h : MayBe t n) : tagOf (mkOf t n) = t := by
  obtain ⟨h1, h2, h3, h4⟩ := h
  unfold tagOf mkOf; omega
theorem num_mk {t n : Int} (h : MayBe t n) : numOf (mkOf t n) = n := by
  obtain ⟨h1, h2, h3, h4⟩ := h
  have hd : mkOf t n % 8 = t := by unfold mkOf; omega
  unfold numOf
  rw [if_neg (by omega)]
  by_cases h0 : 0 ≤ n
  · have e : mkOf t n = n * 8 + t := by unfold mkOf; omega
    rw [e, if_pos (by omega)]; omega
  · have e : mkOf t n = n * 8 + t + 18446744073709551616 := by unfold mkOf; omega
    rw [e, if_neg (by omega)]; omega
theorem mk_of {x : Int} (h : IsWord x) (h8 : x % 8 ≠ 0) : mkOf (tagOf x) (numOf x) = x ∧ MayBe (tagOf x) (numOf x) := by
  obtain ⟨h0, h1⟩ := h
  have hr := numOf_range ⟨h0, h1⟩
  refine ⟨?_, by unfold tagOf; omega, by unfold tagOf; omega, hr.1, hr.2⟩
  unfold mkOf tagOf numOf
  rw [if_neg h8]
  split <;> omega

theorem nameOf_no (t : Int) : ∀ c ∈ nameOf t, c ≠ 58 := by
  unfold nameOf
  repeat' split
  all_goals decide
theorem nameOf_inj {a b : Int} (ha : 1 ≤ a ∧ a ≤ 7) (hb : 1 ≤ b ∧ b ≤ 7) (h : nameOf a = nameOf b) : a = b := by
  have ha' : a = 1 ∨ a = 2 ∨ a = 3 ∨ a = 4 ∨ a = 5 ∨ a = 6 ∨ a = 7 := by omega
  have hb' : b = 1 ∨ b = 2 ∨ b = 3 ∨ b = 4 ∨ b = 5 ∨ b = 6 ∨ b = 7 := by omega
  rcases ha' with rfl | rfl | rfl | rfl | rfl | rfl | rfl <;> rcases hb' with rfl | rfl | rfl | rfl | rfl | rfl | rfl <;> first | rfl | (exfalso; revert h; decide)
theorem nameOf_ne {a : Int} (ha : 1 ≤ a ∧ a ≤ 7) : nameOf a ≠ [] := by
  have ha' : a = 1 ∨ a = 2 ∨ a = 3 ∨ a = 4 ∨ a = 5 ∨ a = 6 ∨ a = 7 := by omega
  rcases ha' with rfl | rfl | rfl | rfl | rfl | rfl | rfl <;> decide

/-- The place of the first name that is l, in the code's table of eight; 0 if there is none. -/
def idxOf (l : List UInt8) : Int :=
  if l = nameOf 1 then 1 else if l = nameOf 2 then 2 else if l = nameOf 3 then 3 else if l = nameOf 4 then 4
  else if l = nameOf 5 then 5 else if l = nameOf 6 then 6 else if l = nameOf 7 then 7 else 0
theorem idxOf_name {t : Int} (h : 1 ≤ t ∧ t ≤ 7) : idxOf (nameOf t) = t := by
  have h' : t = 1 ∨ t = 2 ∨ t = 3 ∨ t = 4 ∨ t = 5 ∨ t = 6 ∨ t = 7 := by omega
  rcases h' with rfl | rfl | rfl | rfl | rfl | rfl | rfl <;> decide

theorem split_colon : ∀ (a b c d : List UInt8), (∀ x ∈ a, x ≠ 58) → (∀ x ∈ c, x ≠ 58) → a ++ 58 :: b = c ++ 58 :: d → a = c ∧ b = d
  | [], b, [], d, _, _, h => by simpa using h
  | [], b, y :: c, d, _, hc, h => by
    simp at h
    exact absurd h.1.symm (hc y (by simp))
  | x :: a, b, [], d, ha, _, h => by
    simp at h
    exact absurd h.1 (ha x (by simp))
  | x :: a, b, y :: c, d, ha, hc, h => by
    simp only [List.cons_append, List.cons.injEq] at h
    obtain ⟨rfl, h⟩ := h
    obtain ⟨rfl, rfl⟩ := split_colon a b c d (fun z hz => ha z (by simp [hz])) (fun z hz => hc z (by simp [hz])) h
    exact ⟨rfl, rfl⟩

theorem textOf_inj {x y : Int} (hx : IsWord x) (hy : IsWord y) (hx8 : x % 8 ≠ 0) (hy8 : y % 8 ≠ 0) (h : textOf x = textOf y) : x = y := by
  unfold textOf at h
  rw [if_neg hx8, if_neg hy8] at h
  obtain ⟨h1, h2⟩ := split_colon _ _ _ _ (nameOf_no _) (nameOf_no _) h
  have rx := numOf_range hx
  have ry := numOf_range hy
  have e2 := itoa_inj ⟨by omega, by omega⟩ ⟨by omega, by omega⟩ h2
  have tx := tagOf_range x
  have ty := tagOf_range y
  have e1 := nameOf_inj (a := tagOf x) (b := tagOf y) (by unfold tagOf at *; omega) (by unfold tagOf at *; omega) h1
  rw [← (mk_of hx hx8).1, ← (mk_of hy hy8).1, e1, e2]

theorem textOf_ne_dot {x : Int} (h8 : x % 8 ≠ 0) : textOf x ≠ [46] := by
  unfold textOf
  rw [if_neg h8]
  intro h
  have hn := nameOf_ne (a := tagOf x) (by unfold tagOf; omega)
  cases hm : nameOf (tagOf x) with
  | nil => exact hn hm
  | cons c r => rw [hm] at h; simp at h

/-! ### strings.Cut at a colon -/
theorem cut_colon (a b : List UInt8) (ha : ∀ x ∈ a, x ≠ 58) : cut (a ++ 58 :: b) [58] = (a, b, true) := by
  have hno : NoOcc (a ++ 58 :: b) [58] a.length := by
    intro j hj
    unfold occAt
    rw [List.drop_append_of_le_length (by omega)]
    cases hd : List.drop j a with
    | nil => rw [List.drop_eq_nil_iff] at hd; omega
    | cons c r =>
      have hc : c ∈ a := List.mem_of_mem_drop (by rw [hd]; simp)
      have := ha c hc
      simp only [List.cons_append, List.isPrefixOf]
      simp [Ne.symm this]
  have hocc : occAt (a ++ 58 :: b) [58] a.length = true := by
    unfold occAt
    rw [List.drop_append_of_le_length (Nat.le_refl _)]
    simp [List.isPrefixOf]
  have hi := index_hit hno (by simp) hocc
  unfold cut
  rw [hi, if_pos (by omega)]
  simp

/-! ### the two readings of a text -/
/-- What package cell's Parse comes to. -/
def parseC (l : List UInt8) : Option Int :=
  if l = [46] then some 0 else
    match atoiAll (cut l [58]).2.1 with
    | .ok n => if mayB (idxOf (cut l [58]).1) n = true ∧ textOf (mkOf (idxOf (cut l [58]).1) n) = l then some (mkOf (idxOf (cut l [58]).1) n) else none
    | _ => none

theorem parseC_text {x : Int} (hx : IsWord x) (h8 : x % 8 ≠ 0) : parseC (textOf x) = some x := by
  have hr := numOf_range hx
  have hm := mk_of hx h8
  have e : textOf x = nameOf (tagOf x) ++ 58 :: itoa (numOf x) := by unfold textOf; rw [if_neg h8]
  have hc : cut (textOf x) [58] = (nameOf (tagOf x), itoa (numOf x), true) := by rw [e]; exact cut_colon _ _ (nameOf_no _)
  unfold parseC
  rw [if_neg (textOf_ne_dot h8), hc]
  simp only [atoiAll_itoa (numOf x) (by omega) (by omega), idxOf_name (t := tagOf x) ⟨hm.2.1, hm.2.2.1⟩, hm.1]
  rw [if_pos ⟨by simpa [mayB] using hm.2, trivial⟩]

theorem parseC_some {l : List UInt8} {x : Int} : parseC l = some x ↔ (l = [46] ∧ x = 0) ∨ (IsWord x ∧ x % 8 ≠ 0 ∧ textOf x = l) := by
  constructor
  · intro h
    unfold parseC at h
    split at h
    · rename_i hl
      injection h with h
      exact .inl ⟨hl, h.symm⟩
    · split at h
      · split at h
        · rename_i n _ hc
          injection h with h
          subst h
          have hm : MayBe (idxOf (cut l [58]).1) n := by simpa [mayB] using hc.1
          refine .inr ⟨mk_word _ _, ?_, hc.2⟩
          have := tag_mk hm
          unfold tagOf at this
          rw [this]
          have := hm.1
          omega
        · cases h
      · cases h
  · rintro (⟨rfl, rfl⟩ | ⟨hx, h8, rfl⟩)
    · rfl
    · exact parseC_text hx h8

/-- The loop of the law's own number: at most k digits, from the left. -/
def numLoop (acc : Nat) : Nat → List UInt8 → Option Nat
  | 0, _ => some acc
  | _ + 1, [] => some acc
  | k + 1, c :: r => if c.toNat < 48 ∨ 57 < c.toNat then none else if 1152921504606846976 < acc * 10 + (c.toNat - 48) then none else numLoop (acc * 10 + (c.toNat - 48)) k r

theorem numLoop_append : ∀ (l r : List UInt8) (acc u k : Nat), l.length ≤ k → numLoop acc l.length l = some u → numLoop acc k (l ++ r) = numLoop u (k - l.length) r
  | [], r, acc, u, k, _, h => by
    simp only [List.length_nil, numLoop] at h
    injection h with h; subst h; rfl
  | c :: l, r, acc, u, 0, hk, h => by simp at hk
  | c :: l, r, acc, u, k + 1, hk, h => by
    simp only [List.length_cons, numLoop, List.cons_append] at h ⊢
    split at h
    · cases h
    · rename_i h1
      rw [if_neg h1]
      split at h
      · cases h
      · rename_i h2
        rw [if_neg h2, numLoop_append l r _ u k (by simpa using hk) h]
        congr 1
        simp

theorem numLoop_dec : ∀ (k u : Nat), u ≤ k → u ≤ 1152921504606846976 → numLoop 0 (decDigits u).length (decDigits u) = some u
  | k, u, hk, hu => by
    by_cases h : u < 10
    · rw [decDigits_small h]
      simp only [List.length_cons, List.length_nil, numLoop]
      rw [digit_of u h, if_neg (by omega), if_neg (by omega)]
      congr 1
      omega
    · match k, hk with
      | 0, hk => omega
      | k + 1, hk =>
        have ih := numLoop_dec k (u / 10) (by omega) (by omega)
        rw [decDigits_big h, numLoop_append (decDigits (u / 10)) _ 0 (u / 10) _ (by simp) ih]
        simp only [List.length_append, List.length_cons, List.length_nil]
        rw [show (decDigits (u / 10)).length + (0 + 1) - (decDigits (u / 10)).length = 1 by omega]
        simp only [numLoop]
        rw [digit_of _ (by omega), if_neg (by omega), if_neg (by omega)]
        congr 1
        omega

theorem decDigits_le {u : Nat} (h : u ≤ 1152921504606846976) : (decDigits u).length ≤ 19 := by
  rw [decDigits_length]
  by_cases h0 : nDigits u ≤ 19
  · exact h0
  · exfalso
    have hp : ∀ (k v : Nat), v < 10 ^ k → 1 ≤ k → nDigits v ≤ k := by
      intro k
      induction k with
      | zero => intro v _ h1; omega
      | succ k ih =>
        intro v hv _
        by_cases hs : v < 10
        · rw [nDigits_small hs]; omega
        · rw [nDigits_big hs]
          rw [Nat.pow_succ] at hv
          have := ih (v / 10) (by omega) (by cases k with | zero => simp at hv; omega | succ k => omega)
          omega
    exact h0 (hp 19 u (by have : (1152921504606846976 : Nat) < 10 ^ 19 := by decide
                          omega) (by omega))

theorem numLoop_dec20 {u : Nat} (h : u ≤ 1152921504606846976) : numLoop 0 20 (decDigits u) = some u := by
  have h1 := numLoop_append (decDigits u) [] 0 u 20 (by have := decDigits_le h; omega) (numLoop_dec u u (Nat.le_refl _) h)
  rw [List.append_nil] at h1
  rw [h1]
  cases 20 - (decDigits u).length <;> rfl

/-- The law's own number: the numeral of l, if it is one that is written so and a cell's. -/
def numR (l : List UInt8) : Option Int :=
  match numLoop 0 20 (if l.head? = some 45 then l.tail else l) with
  | none => none
  | some u =>
    let n : Int := if l.head? = some 45 then -(u : Int) else u
    if itoa n = l ∧ -1152921504606846976 ≤ n ∧ n ≤ 1152921504606846975 then some n else none

theorem head_dec (u : Nat) : (decDigits u).head? ≠ some 45 := by
  cases hd : decDigits u with
  | nil => simp
  | cons c r =>
    have := decDigits_range u c (by rw [hd]; simp)
    simp
    intro h
    subst h
    simp at this

theorem numR_itoa {n : Int} (h : -1152921504606846976 ≤ n ∧ n ≤ 1152921504606846975) : numR (itoa n) = some n := by
  unfold numR
  by_cases h0 : n < 0
  · have e : itoa n = 45 :: decDigits n.natAbs := by unfold itoa; rw [if_pos h0]
    have e2 : (-(n.natAbs : Int)) = n := by omega
    have e3 := numLoop_dec20 (u := n.natAbs) (by omega)
    rw [e]
    simp only [List.head?_cons, if_true, List.tail_cons]
    rw [e3]
    simp only [e2, e, h]
    simp
  · have e : itoa n = decDigits n.toNat := by unfold itoa; rw [if_neg h0]
    have e2 : (n.toNat : Int) = n := by omega
    have e3 := numLoop_dec20 (u := n.toNat) (by omega)
    rw [e]
    simp only [if_neg (head_dec n.toNat)]
    rw [e3]
    simp only [e2, e, h]
    simp

theorem numR_some {l : List UInt8} {n : Int} : numR l = some n ↔ itoa n = l ∧ -1152921504606846976 ≤ n ∧ n ≤ 1152921504606846975 := by
  constructor
  · intro h
    unfold numR at h
    split at h
    · cases h
    · rename_i u _
      revert h
      generalize (if l.head? = some 45 then -(u : Int) else (u : Int)) = m
      intro h
      by_cases hc : itoa m = l ∧ -1152921504606846976 ≤ m ∧ m ≤ 1152921504606846975
      · simp only [if_pos hc] at h
        injection h with h
        rw [← h]
        exact hc
      · simp only [if_neg hc] at h
        cases h
  · rintro ⟨rfl, h⟩
    exact numR_itoa h

/-- The law's own reading. -/
def preOf (t : Int) : List UInt8 := nameOf t ++ [58]
def parseFrom (l : List UInt8) : Nat → Int → Option Int
  | 0, _ => none
  | k + 1, t => if (preOf t).length < l.length ∧ l.take (preOf t).length = preOf t then (numR (l.drop (preOf t).length)).map (mkOf t) else parseFrom l k (t + 1)
def parseR (l : List UInt8) : Option Int := if l = [46] then some 0 else parseFrom l 7 1

theorem take_pre {l p : List UInt8} (h : l.take p.length = p) : l = p ++ l.drop p.length := by
  conv => lhs; rw [← List.take_append_drop p.length l, h]

theorem parseFrom_some {l : List UInt8} : ∀ (k : Nat) (t : Int) (x : Int), 1 ≤ t → t + k = 8 →
    (parseFrom l k t = some x ↔ ∃ s n, t ≤ s ∧ s ≤ 7 ∧ -1152921504606846976 ≤ n ∧ n ≤ 1152921504606846975 ∧ l = nameOf s ++ 58 :: itoa n ∧ x = mkOf s n)
  | 0, t, x, h1, h8 => by
    simp only [parseFrom]
    constructor
    · intro h; cases h
    · rintro ⟨s, n, hs1, hs2, _⟩; omega
  | k + 1, t, x, h1, h8 => by
    have ih := parseFrom_some (l := l) k (t + 1) x (by omega) (by omega)
    simp only [parseFrom]
    split
    · rename_i hc
      have hl := take_pre hc.2
      rw [Option.map_eq_some_iff]
      constructor
      · rintro ⟨n, hn, rfl⟩
        obtain ⟨hi, hr⟩ := numR_some.1 hn
        refine ⟨t, n, Int.le_refl _, by omega, hr.1, hr.2, ?_, rfl⟩
        rw [hi]
        conv => lhs; rw [hl]
        simp [preOf]
      · rintro ⟨s, n, hs1, hs2, hn1, hn2, he, rfl⟩
        have he' : nameOf t ++ 58 :: l.drop (preOf t).length = nameOf s ++ 58 :: itoa n := by
          rw [← he]
          conv => rhs; rw [hl]
          simp [preOf]
        obtain ⟨e1, e2⟩ := split_colon _ _ _ _ (nameOf_no _) (nameOf_no _) he'
        have e3 := nameOf_inj (a := t) (b := s) (by omega) (by omega) e1
        subst e3
        exact ⟨n, by rw [e2]; exact numR_itoa ⟨hn1, hn2⟩, rfl⟩
    · rename_i hc
      rw [ih]
      constructor
      · rintro ⟨s, n, hs1, r⟩; exact ⟨s, n, by omega, r⟩
      · rintro ⟨s, n, hs1, hs2, hn1, hn2, he, rfl⟩
        refine ⟨s, n, ?_, hs2, hn1, hn2, he, rfl⟩
        by_cases hst : s = t
        · exfalso
          subst hst
          apply hc
          rw [he]
          have hne : itoa n ≠ [] := by
            unfold itoa; split
            · simp
            · exact decDigits_ne _
          have hlen : 0 < (itoa n).length := List.length_pos_iff.2 hne
          constructor
          · simp [preOf]; omega
          · have e5 : nameOf s ++ 58 :: itoa n = preOf s ++ itoa n := by simp [preOf]
            rw [e5]
            exact List.take_left
        · omega

theorem parseR_eq (l : List UInt8) : parseR l = parseC l := by
  apply Option.ext
  intro x
  rw [parseC_some]
  unfold parseR
  split
  · rename_i hl
    constructor
    · intro h; injection h with h; exact .inl ⟨hl, h.symm⟩
    · rintro (⟨_, rfl⟩ | ⟨hx, h8, ht⟩)
      · rfl
      · exact absurd (ht.trans hl) (textOf_ne_dot h8)
  · rename_i hl
    rw [parseFrom_some 7 1 x (by omega) (by omega)]
    constructor
    · rintro ⟨s, n, hs1, hs2, hn1, hn2, he, rfl⟩
      have hm : MayBe s n := ⟨hs1, hs2, hn1, hn2⟩
      have ht := tag_mk hm
      refine .inr ⟨mk_word _ _, by unfold tagOf at ht; omega, ?_⟩
      unfold textOf
      rw [if_neg (by unfold tagOf at ht; omega), ht, num_mk hm, he]
    · rintro (⟨h, _⟩ | ⟨hx, h8, ht⟩)
      · exact absurd h hl
      · have hm := mk_of hx h8
        refine ⟨tagOf x, numOf x, hm.2.1, hm.2.2.1, hm.2.2.2.1, hm.2.2.2.2, ?_, hm.1.symm⟩
        rw [← ht]
        unfold textOf
        rw [if_neg h8]

end Go.Proofs.YtdhppkobhmbnaaaDoor.cells
