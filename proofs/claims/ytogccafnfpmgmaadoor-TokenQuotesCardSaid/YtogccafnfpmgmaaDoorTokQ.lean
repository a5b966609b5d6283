/- Tokens: texts in plain words: a scan and all tokens of what is left of a text. -/
import Derived.Test.YtogccafnfpmgmaaDoorTokP
namespace Go.Proofs.YtogccafnfpmgmaaDoor.toks
open Go.RowKit Go.Proofs.YtogccafnfpmgmaaDoor.own
theorem closeN_le {l : List UInt8} {c : Nat} (h : closeN l = some c) : 2 ≤ c ∧ c ≤ l.length := closeN_ge l c h
theorem rowIn_pos {x : UInt8} {r : List UInt8} (h : (iv x == 37) = true) : 1 ≤ rowN inLineB (x :: r) := rowN_pos (by rw [beq_iff_eq] at h; rw [h]; decide)
theorem skipF_fuel : ∀ (m m' : Nat) (r : List UInt8), r.length ≤ m → r.length ≤ m' → skipF m r = skipF m' r
  | 0, m', r, h, _ => by
    have : r = [] := List.eq_nil_of_length_eq_zero (by omega)
    subst this
    cases m' <;> rfl
  | m + 1, 0, r, _, h => by
    have : r = [] := List.eq_nil_of_length_eq_zero (by omega)
    subst this
    rfl
  | m + 1, m' + 1, [], _, _ => rfl
  | m + 1, m' + 1, x :: r, h, h' => by
    simp only [List.length_cons] at h h'
    rw [skipF, skipF]
    by_cases hb : blankB (iv x) = true
    · rw [if_pos hb, if_pos hb, skipF_fuel m m' r (by omega) (by omega)]
    · rw [if_neg hb, if_neg hb]
      by_cases h37 : (iv x == 37) = true
      · have := rowIn_pos (r := r) h37
        rw [if_pos h37, if_pos h37, skipF_fuel m m' ((x :: r).drop (rowN inLineB (x :: r))) (by rw [List.length_drop, List.length_cons]; omega) (by rw [List.length_drop, List.length_cons]; omega)]
      · rw [if_neg h37, if_neg h37]
        cases hc : closeN (r.drop 1) with
        | none => rfl
        | some c =>
          simp only
          rw [skipF_fuel m m' (r.drop (1 + c)) (by rw [List.length_drop]; omega) (by rw [List.length_drop]; omega)]
def skR (r : List UInt8) : Nat × Bool := skipF r.length r
theorem skR_cons (x : UInt8) (r : List UInt8) : skR (x :: r) = if blankB (iv x) = true then sh 1 (skR r)
    else if (iv x == 37) = true then sh (rowN inLineB (x :: r)) (skR ((x :: r).drop (rowN inLineB (x :: r))))
    else if (iv x == 47) = true then (if openC (x :: r) = true then (match closeN (r.drop 1) with | some c => sh (2 + c) (skR (r.drop (1 + c))) | none => (0, false)) else (0, true))
    else (0, true) := by
  unfold skR
  rw [List.length_cons, skipF]
  by_cases hb : blankB (iv x) = true
  · rw [if_pos hb, if_pos hb]
  · rw [if_neg hb, if_neg hb]
    by_cases h37 : (iv x == 37) = true
    · have := rowIn_pos (r := r) h37
      rw [if_pos h37, if_pos h37, skipF_fuel r.length _ ((x :: r).drop (rowN inLineB (x :: r))) (by rw [List.length_drop, List.length_cons]; omega) (Nat.le_refl _)]
    · rw [if_neg h37, if_neg h37]
      cases hc : closeN (r.drop 1) with
      | none => rfl
      | some c =>
        simp only
        rw [skipF_fuel r.length _ (r.drop (1 + c)) (by rw [List.length_drop]; omega) (Nat.le_refl _)]
theorem skR_le (r : List UInt8) : (skR r).1 ≤ r.length := skipF_le _ r
/-- A scan of what is left of a text: places from its beginning. -/
def scanR (r : List UInt8) : SR :=
  if (skR r).2 = false then .no (skR r).1 80
  else if (skR r).1 = r.length then .no r.length 4
  else match readF (r.drop (skR r).1) with
    | .no e => .no (skR r).1 e
    | .ok kd s n len => .ok kd s n (skR r).1 (decide (0 < (skR r).1)) ((skR r).1 + len)
def shS (k : Nat) : SR → SR
  | .ok kd s n at_ lay next => .ok kd s n (k + at_) lay (k + next)
  | .no next e => .no (k + next) e
theorem scanF_R {bs : List UInt8} {i : Nat} (hi : i ≤ bs.length) : scanF bs i = shS i (scanR (bs.drop i)) := by
  have h1 : skipA bs bs.length i = (i + (skR (bs.drop i)).1, (skR (bs.drop i)).2) := by
    unfold skipA skR sh
    rw [skipF_fuel bs.length (bs.drop i).length (bs.drop i) (by rw [List.length_drop]; omega) (Nat.le_refl _)]
  have h2 := skR_le (bs.drop i)
  rw [List.length_drop] at h2
  unfold scanF scanR
  rw [h1]
  simp only [List.length_drop, List.drop_drop]
  cases hb : (skR (bs.drop i)).2 with
  | false => rfl
  | true =>
    simp only [Bool.true_eq_false, if_false]
    by_cases he : i + (skR (bs.drop i)).1 = bs.length
    · rw [if_pos he, if_pos (by omega)]
      show SR.no bs.length 4 = .no (i + (bs.length - i)) 4
      rw [show i + (bs.length - i) = bs.length by omega]
    · rw [if_neg he, if_neg (by omega)]
      cases readF (bs.drop (i + (skR (bs.drop i)).1)) with
      | no e => rfl
      | ok kd s n len =>
        show SR.ok kd s n _ _ _ = .ok kd s n _ _ _
        rw [Nat.add_assoc]
        congr 1
        by_cases h : 0 < (skR (bs.drop i)).1
        · rw [decide_eq_true h, decide_eq_true (by omega)]
        · rw [decide_eq_false h, decide_eq_false (by omega)]
def shT (k : Nat) (t : Tk) : Tk := ⟨t.kd, t.s, t.n, k + t.at_, t.lay⟩
def shA (k : Nat) : AR → AR
  | .ok l n => .ok (l.map (shT k)) (k + n)
  | .no n e => .no (k + n) e
def preA (l : List Tk) : AR → AR
  | .ok l' n => .ok (l ++ l') n
  | .no n e => .no n e
theorem shT_shT (a b : Nat) (t : Tk) : shT a (shT b t) = shT (a + b) t := by unfold shT; simp [Nat.add_assoc]
theorem shA_shA (a b : Nat) (x : AR) : shA a (shA b x) = shA (a + b) x := by
  cases x with
  | no n e => simp [shA, Nat.add_assoc]
  | ok l n => simp [shA, Nat.add_assoc]; exact fun t _ => shT_shT a b t
theorem shA_zero (x : AR) : shA 0 x = x := by
  cases x with
  | no n e => simp [shA]
  | ok l n =>
    have : shT 0 = id := funext (fun t => by simp [shT])
    simp [shA, this]
theorem preA_preA (a b : List Tk) (x : AR) : preA a (preA b x) = preA (a ++ b) x := by
  cases x <;> simp [preA]
theorem shA_preA (k : Nat) (l : List Tk) (x : AR) : shA k (preA l x) = preA (l.map (shT k)) (shA k x) := by
  cases x <;> simp [preA, shA]
/-- All tokens of what is left. -/
def allR : Nat → List UInt8 → AR
  | 0, _ => .no 0 0
  | m + 1, r => match scanR r with
    | .ok kd s n at_ lay next => preA [⟨kd, s, n, at_, lay⟩] (shA next (allR m (r.drop next)))
    | .no next e => if e = 4 then .ok [] next else .no next e
theorem scanR_ok {r : List UInt8} {kd : Int} {s : List UInt8} {n : Int} {at_ : Nat} {lay : Bool} {next : Nat} (h : scanR r = .ok kd s n at_ lay next) : at_ < next ∧ next ≤ r.length := by
  have h1 := scanF_R (bs := r) (i := 0) (Nat.zero_le _)
  rw [List.drop_zero, h] at h1
  have := scanF_ok (Nat.zero_le _) h1
  omega
theorem allL_R : ∀ (m : Nat) (bs : List UInt8) (i : Nat) (acc : List Tk), i ≤ bs.length → bs.length - i < m → allL m bs i acc = preA acc (shA i (allR m (bs.drop i)))
  | 0, bs, i, acc, _, h => absurd h (by omega)
  | m + 1, bs, i, acc, hi, hm => by
    rw [allL, allR, scanF_R hi]
    cases hs : scanR (bs.drop i) with
    | no next e =>
      simp only [shS]
      split
      · simp [shA, preA]
      · simp [shA, preA]
    | ok kd s n at_ lay next =>
      obtain ⟨h1, h2⟩ := scanR_ok hs
      rw [List.length_drop] at h2
      simp only [shS]
      rw [allL_R m bs (i + next) _ (by omega) (by omega), shA_preA, preA_preA, List.drop_drop, shA_shA]
      rfl
theorem allR_fuel : ∀ (m m' : Nat) (r : List UInt8), r.length < m → r.length < m' → allR m r = allR m' r
  | 0, _, r, h, _ => absurd h (by omega)
  | m + 1, 0, r, _, h => absurd h (by omega)
  | m + 1, m' + 1, r, h, h' => by
    rw [allR, allR]
    cases hs : scanR r with
    | no next e => rfl
    | ok kd s n at_ lay next =>
      obtain ⟨h1, h2⟩ := scanR_ok hs
      simp only
      rw [allR_fuel m m' (r.drop next) (by rw [List.length_drop]; omega) (by rw [List.length_drop]; omega)]
theorem allF_R (bs : List UInt8) : allF bs = allR (bs.length + 1) bs := by
  unfold allF
  rw [allL_R (bs.length + 1) bs 0 [] (Nat.zero_le _) (by omega), List.drop_zero, shA_zero]
  cases allR (bs.length + 1) bs <;> rfl
/-- The first one has layout ahead. -/
def layS : SR → SR
  | .ok kd s n at_ _ next => .ok kd s n at_ true next
  | .no next e => .no next e
def layT (t : Tk) : Tk := ⟨t.kd, t.s, t.n, t.at_, true⟩
def layL : List Tk → List Tk
  | [] => []
  | t :: l => layT t :: l
def layA : AR → AR
  | .ok l n => .ok (layL l) n
  | .no n e => .no n e
theorem skR_blanks : ∀ (p r : List UInt8), (∀ x ∈ p, blankB (iv x) = true) → skR (p ++ r) = sh p.length (skR r)
  | [], r, _ => by simp [sh]
  | x :: p, r, h => by
    rw [List.cons_append, skR_cons, if_pos (h x (by simp)), skR_blanks p r (fun y hy => h y (List.mem_cons_of_mem _ hy)), sh_sh, List.length_cons, Nat.add_comm]
theorem scanR_blanks (p r : List UInt8) (hp : 1 ≤ p.length) (h : ∀ x ∈ p, blankB (iv x) = true) : scanR (p ++ r) = layS (shS p.length (scanR r)) := by
  have h2 := skR_le r
  unfold scanR
  rw [skR_blanks p r h]
  unfold sh
  simp only [List.length_append]
  cases hb : (skR r).2 with
  | false => rfl
  | true =>
    simp only [Bool.true_eq_false, if_false]
    by_cases he : (skR r).1 = r.length
    · rw [if_pos (by omega), if_pos he]
      rfl
    · rw [if_neg (by omega), if_neg he, List.drop_append, List.drop_eq_nil_of_le (by omega), List.nil_append, show p.length + (skR r).1 - p.length = (skR r).1 by omega]
      cases readF (r.drop (skR r).1) with
      | no e => rfl
      | ok kd s n len =>
        show SR.ok kd s n _ _ _ = .ok kd s n _ _ _
        rw [Nat.add_assoc, decide_eq_true (by omega)]
theorem allR_lay (m m' : Nat) (p r : List UInt8) (hs : scanR p = layS (shS (p.length - r.length) (scanR r))) (hd : ∀ k, k ≤ r.length → p.drop ((p.length - r.length) + k) = r.drop k) (hpr : r.length ≤ p.length) (hm : p.length < m) (hm' : r.length < m') : allR m p = layA (shA (p.length - r.length) (allR m' r)) := by
  obtain ⟨m, rfl⟩ : ∃ k, m = k + 1 := ⟨m - 1, by omega⟩
  obtain ⟨m', rfl⟩ : ∃ k, m' = k + 1 := ⟨m' - 1, by omega⟩
  rw [allR, allR, hs]
  cases hr : scanR r with
  | no next e =>
    simp only [shS, layS]
    split
    · simp [shA, layA, layL]
    · simp [shA, layA]
  | ok kd s n at_ lay next =>
    obtain ⟨h1, h2⟩ := scanR_ok hr
    simp only [shS, layS]
    rw [hd next h2, allR_fuel m m' (r.drop next) (by rw [List.length_drop]; omega) (by rw [List.length_drop]; omega), ← shA_shA, shA_preA]
    cases shA next (allR m' (r.drop next)) with
    | no => rfl
    | ok => rfl
/-- Layout ahead of a text. -/
theorem all_layout (p bs : List UInt8) (hp : 1 ≤ p.length) (h : ∀ x ∈ p, blankB (iv x) = true) : allF (p ++ bs) = layA (shA p.length (allF bs)) := by
  rw [allF_R, allF_R]
  have e : (p ++ bs).length - bs.length = p.length := by rw [List.length_append]; omega
  have := allR_lay ((p ++ bs).length + 1) (bs.length + 1) (p ++ bs) bs (by rw [e]; exact scanR_blanks p bs hp h) (fun k hk => by rw [e, List.drop_append, List.drop_eq_nil_of_le (by omega), List.nil_append, show p.length + k - p.length = k by omega]) (by rw [List.length_append]; omega) (by omega) (by omega)
  rw [e] at this
  exact this
end Go.Proofs.YtogccafnfpmgmaaDoor.toks
