/- Clauses, plain: the goals of a body; a clause of a term; its term again. -/
import Derived.Test.YtoogmlgaeipenaaClause4
import Derived.Test.YtoogmlgaeipenaaTerm53
namespace Go.Proofs.Ytoogmlgaeipenaa.terms
set_option maxRecDepth 100000
open Go.RowKit Go.Proofs.Ytoogmlgaeipenaa.own Go.Maps
mutual
/-- The goals of a body, integers among them. -/
def flatF : T → List T | .mk k n s l => if goesB (.mk k n s l) nComma 2 = true then flatL l else if goesB (.mk k n s l) nTrue 0 = true then [] else [.mk k n s l]
def flatL : List T → List T | [] => [] | x :: r => flatF x ++ flatL r
end
theorem flatF_eq (t : T) : flatF t = if goesB t nComma 2 = true then flatL t.l else if goesB t nTrue 0 = true then [] else [t] := by
  cases t with | mk k n s l => simp only [flatF, T.l]
theorem goes_parts {t : T} {s : ByteArray} {n : Int} (h : goesB t s n = true) : (t.k = 3 ∨ t.k = 4) ∧ t.s = s ∧ (t.l.length : Int) = n := by
  unfold goesB at h
  simp only [Bool.and_eq_true, Bool.or_eq_true, beq_iff_eq] at h
  exact ⟨h.1, ba_ext h.2.1, h.2.2⟩
theorem goes_of {t : T} {s : ByteArray} {n : Int} (hk : t.k = 3 ∨ t.k = 4) (hs : t.s = s) (hl : (t.l.length : Int) = n) : goesB t s n = true := by
  unfold goesB
  simp only [Bool.and_eq_true, Bool.or_eq_true, beq_iff_eq]
  exact ⟨hk, by rw [hs], hl⟩
theorem goes_not {t : T} {s : ByteArray} {n : Int} (h3 : t.k ≠ 3) (h4 : t.k ≠ 4) : goesB t s n = false := by
  cases h : goesB t s n with
  | false => rfl
  | true => rcases (goes_parts h).1 with e | e; exact absurd e h3; exact absurd e h4
theorem two_of_len {l : List T} (h : (l.length : Int) = 2) : ∃ x y, l = [x, y] := by
  match l, h with
  | [x, y], _ => exact ⟨x, y, rfl⟩
  | [], h => simp at h
  | [_], h => simp at h
  | _ :: _ :: _ :: r, h => simp at h; omega
theorem flat_two {t x y : T} (h : goesB t nComma 2 = true) (hl : t.l = [x, y]) : flatF t = flatF x ++ flatF y := by
  rw [flatF_eq, if_pos h, hl]
  simp [flatL]
theorem flat_true {t : T} (h : goesB t nComma 2 = false) (h' : goesB t nTrue 0 = true) : flatF t = [] := by
  rw [flatF_eq, if_neg (by rw [h]; decide), if_pos h']
theorem flat_one {t : T} (h : goesB t nComma 2 = false) (h' : goesB t nTrue 0 = false) : flatF t = [t] := by
  rw [flatF_eq, if_neg (by rw [h]; decide), if_neg (by rw [h']; decide)]
/-- What stands in a body goes on by no comma, and is not true. -/
theorem flat_mem (t : T) : ∀ x ∈ flatF t, goesB x nComma 2 = false ∧ goesB x nTrue 0 = false := by
  induction t using T.ind with
  | h k n s l ih =>
    intro x hx
    cases hc : goesB (.mk k n s l) nComma 2 with
    | true =>
      obtain ⟨a, b, hab⟩ := two_of_len (goes_parts hc).2.2
      rw [flat_two hc hab] at hx
      have hab' : l = [a, b] := hab
      rcases List.mem_append.1 hx with h | h
      · exact ih a (by rw [hab']; simp) x h
      · exact ih b (by rw [hab']; simp) x h
    | false =>
      cases ht : goesB (.mk k n s l) nTrue 0 with
      | true => rw [flat_true hc ht] at hx; cases hx
      | false =>
        rw [flat_one hc ht, List.mem_singleton] at hx
        subst hx
        exact ⟨hc, ht⟩
theorem flat_right (t : T) (h : t.right = true) : ∀ x ∈ flatF t, x.right = true := by
  induction t using T.ind with
  | h k n s l ih =>
    intro x hx
    cases hc : goesB (.mk k n s l) nComma 2 with
    | true =>
      obtain ⟨a, b, hab⟩ := two_of_len (goes_parts hc).2.2
      rw [flat_two hc hab] at hx
      have hab' : l = [a, b] := hab
      have hr : rights l = true := by rw [T.right_eq] at h; exact (Bool.and_eq_true_iff.1 h).2
      rcases List.mem_append.1 hx with h' | h'
      · exact ih a (by rw [hab']; simp) (rights_iff.1 hr a (by rw [hab']; simp)) x h'
      · exact ih b (by rw [hab']; simp) (rights_iff.1 hr b (by rw [hab']; simp)) x h'
    | false =>
      cases ht : goesB (.mk k n s l) nTrue 0 with
      | true => rw [flat_true hc ht] at hx; cases hx
      | false =>
        rw [flat_one hc ht, List.mem_singleton] at hx
        subst hx
        exact h
/-- The goals, and the integers where goals should be. -/
def goalsF (l : List T) : List T := l.filter (fun x => !(x.k == 2))
def intsF (l : List T) : List T := l.filter (fun x => x.k == 2)
theorem goals_append (a b : List T) : goalsF (a ++ b) = goalsF a ++ goalsF b := by simp [goalsF]
theorem ints_append (a b : List T) : intsF (a ++ b) = intsF a ++ intsF b := by simp [intsF]
theorem goals_all {l : List T} (h : intsF l = []) : goalsF l = l := by
  unfold goalsF intsF at *
  rw [List.filter_eq_nil_iff] at h
  rw [List.filter_eq_self]
  intro x hx
  have := h x hx
  cases hk : (x.k == 2) with
  | true => exact absurd hk this
  | false => rfl
theorem ints_goals (l : List T) : intsF (goalsF l) = [] := by
  unfold goalsF intsF
  rw [List.filter_eq_nil_iff]
  intro x hx
  have := (List.mem_filter.1 hx).2
  cases hk : (x.k == 2) with
  | true => rw [hk] at this; cases this
  | false => simp
/-- A clause of a term, or the inside of its ball. -/
inductive FR where
  | cl (h : T) (gs : List T) (n : Nat)
  | ball (x : T)
def nPerm : ByteArray := ⟨#[112, 101, 114, 109]⟩
def nSlash : ByteArray := ⟨#[47]⟩
def parF (t : T) : T × List T := if goesB t nIf 2 = true then (t.l.getD 0 zeroT, flatF (t.l.getD 1 zeroT)) else (t, [])
def permF (t : T) : T := .mk 4 0 nPerm [.mk 4 0 nSlash (slashF t)]
def wrongHF (t : T) : Option T := match unF t with
  | some x => some x
  | none => if builtB t.s t.l.length = true then some (permF t) else none
def uncF (l : List T) : Option T := match intsF l with
  | [] => none
  | x :: _ => some (.mk 4 0 nType [sAtom nCallable, x])
def fromU (u : T) (n : Nat) : FR := if 64 < (goalsF (parF u).2).length then .ball (sAtom nSize) else match wrongHF (parF u).1 with
  | some x => .ball x
  | none => match uncF (parF u).2 with
    | some x => .ball x
    | none => .cl (parF u).1 (goalsF (parF u).2) n
def fromF (t : T) : FR := if rcheckF t = 0 then fromU (renF t).1 (renF t).2.length else .ball (sAtom nSize)
/-- A clause's term. -/
def joinF : List T → T → T | [], z => z | x :: r, z => .mk 4 0 nComma [x, joinF r z]
def calF (x : T) : T := calledF (kindF x) x
def backT (h : T) (gs : List T) : T := match gs.getLast? with
  | none => h
  | some z => .mk 4 0 nIf [h, joinF (gs.dropLast.map calF) (calF z)]
theorem cal_right {x : T} (h : x.right = true) : calF x = x := by
  unfold calF calledF
  by_cases hk : kindF x = 2
  · rw [if_pos hk]
    unfold kindF at hk
    by_cases h1 : x.k = 1
    · rw [if_pos h1] at hk; omega
    · rw [if_neg h1] at hk
      by_cases hc : goesB x nCut 0 = true
      · obtain ⟨h3, hs, hl⟩ := goes_parts hc
        cases x with | mk k n s l =>
        simp only [T.k, T.s, T.l] at h3 hs hl
        have hl0 : l = [] := by cases l with | nil => rfl | cons a r => simp at hl; omega
        subst hl0 hs
        rw [T.right_eq, Bool.and_eq_true] at h
        have hp := h.1
        unfold T.part at hp
        simp only [T.k, T.n, T.s, T.l] at hp
        rcases h3 with rfl | rfl
        · simp at hp
          rw [hp.1]; rfl
        · simp at hp
      · rw [if_neg hc] at hk
        split at hk <;> first | omega | (split at hk <;> first | omega | (split at hk <;> omega))
  · rw [if_neg hk]
theorem flat_join (l : List T) (z : T) (hz : flatF z = [z]) (h : ∀ x ∈ l, flatF x = [x]) : flatF (joinF l z) = l ++ [z] := by
  induction l with
  | nil => exact hz
  | cons x r ih =>
    rw [joinF, flat_two (x := x) (y := joinF r z) (goes_of (.inr rfl) rfl rfl) rfl, h x (by simp), ih (fun y hy => h y (by simp [hy]))]
    rfl
/- variables -/
theorem each_occ (t : T) : ∀ st : List Int, eachF renNxt t st = t.occ.foldl renNxt st := by
  induction t using T.ind with
  | h k n s l ih =>
    intro st
    have hL : ∀ (l : List T), (∀ x ∈ l, ∀ st : List Int, eachF renNxt x st = x.occ.foldl renNxt st) → ∀ st : List Int, eachL renNxt l st = (occs l).foldl renNxt st := by
      intro l
      induction l with
      | nil => intro _ st; simp [eachL, occs]
      | cons x r ihr =>
        intro h st
        rw [eachL, occs, List.foldl_append, ihr (fun y hy => h y (by simp [hy])), h x (by simp)]
    rw [eachF, T.occ, List.foldl_append, hL l ih]
    by_cases hk : k = 1
    · simp [hk]
    · simp [hk]
mutual
def T.vsF : T → List Int | .mk k n _ l => (if k = 1 then [n] else vsL l)
def vsL : List T → List Int | [] => [] | x :: r => x.vsF ++ vsL r
end
theorem occs_append (a b : List T) : occs (a ++ b) = occs a ++ occs b := by
  induction a with
  | nil => rfl
  | cons x r ih => simp [occs, ih]
theorem occ_of (t : T) : t.occ = (if t.k = 1 then [t.n] else []) ++ occs t.l := by cases t with | mk k n s l => rw [T.occ]; rfl
theorem occ_ren (v : List Int) (t : T) (h : t.right = true) : (renamedF v t).occ = t.occ.map (placeF v) := by
  induction t using T.ind with
  | h k n s l ih =>
    have hr : rights l = true := by rw [T.right_eq] at h; exact (Bool.and_eq_true_iff.1 h).2
    by_cases hk : k = 1
    · subst hk
      obtain ⟨rfl, rfl, _, _⟩ := var_form h
      rw [renamedF, if_pos rfl, T.occ, T.occ]
      simp [occs]
    · rw [renamedF, if_neg hk, T.occ, T.occ, if_neg hk]
      simp only [List.nil_append]
      have hL : ∀ (l : List T), rights l = true → (∀ x ∈ l, x.right = true → (renamedF v x).occ = x.occ.map (placeF v)) → occs (renamedL v l) = (occs l).map (placeF v) := by
        intro l
        induction l with
        | nil => intro _ _; simp [renamedL, occs]
        | cons x r ihr =>
          intro hr h
          have hx := rights_iff.1 hr
          rw [renamedL, occs, occs, List.map_append, h x (by simp) (hx x (by simp)), ihr (rights_iff.2 (fun y hy => hx y (by simp [hy]))) (fun y hy => h y (by simp [hy]))]
      exact hL l hr ih
theorem pos_rng {n i : Nat} (h : i < n) : pos (rng n) i = some i := pos_at (by simp [rng, h]) (by
  intro hm
  rw [List.mem_take_iff_getElem] at hm
  obtain ⟨j, hj, e⟩ := hm
  simp [rng] at e
  omega)
theorem pos_rng_none (n : Nat) : pos (rng n) (n : Int) = none := pos_nil (by
  intro hm
  simp [rng] at hm
  obtain ⟨a, h1, h2⟩ := hm
  omega)
theorem fold_pre (o : List Int) : ∀ st : List Int, ∃ q, o.foldl renNxt st = st ++ q := by
  induction o with
  | nil => intro st; exact ⟨[], by simp⟩
  | cons n r ih =>
    intro st
    obtain ⟨q1, h1⟩ := renNxt_pre st n
    obtain ⟨q, h⟩ := ih (renNxt st n)
    exact ⟨q1 ++ q, by rw [List.foldl_cons, h, h1, List.append_assoc]⟩
theorem fold_rng (o : List Int) : ∀ (st r : List Int), (∃ q, o.foldl renNxt st ++ q = r) → (o.map (placeF r)).foldl renNxt (rng st.length) = rng (o.foldl renNxt st).length := by
  induction o with
  | nil => intro st r _; rfl
  | cons n o ih =>
    intro st r hr
    rw [List.foldl_cons] at hr
    obtain ⟨q, hq⟩ := hr
    obtain ⟨q2, h2⟩ := fold_pre o (renNxt st n)
    have hpl : placeF r n = ((numF st n).1 : Nat) := by
      rw [← hq, h2, List.append_assoc]; exact place_num st (q2 ++ q) n
    rw [List.map_cons, List.foldl_cons, List.foldl_cons, ← ih (renNxt st n) r ⟨q, hq⟩]
    congr 1
    rw [hpl]
    unfold renNxt numF
    cases hp : pos st n with
    | some i =>
      have hi : i < st.length := (List.getElem?_eq_some_iff.1 (pos_some hp)).1
      simp only [pos_rng hi]
    | none =>
      simp only [pos_rng_none]
      rw [List.length_append]
      exact (rng_succ _).symm
/-- A term whose variables come in their order is its own renamed one. -/
theorem ren_own (t : T) (h : t.right = true) (n : Nat) (ho : t.occ.foldl renNxt [] = rng n) : renF t = (t, rng n) := by
  rw [renF_is t h]
  have hv : varsF t = rng n := by rw [varsF, each_occ, ho]
  rw [hv]
  have hall : ∀ m ∈ t.occ, m ∈ rng n := by
    intro m hm
    rw [← ho]
    have : ∀ (o : List Int) (st : List Int), (m ∈ o ∨ m ∈ st) → m ∈ o.foldl renNxt st := by
      intro o
      induction o with
      | nil => intro st h; rcases h with h | h; cases h; exact h
      | cons a r ih =>
        intro st h
        rw [List.foldl_cons]
        apply ih
        rcases h with h | h
        · rcases List.mem_cons.1 h with rfl | h
          · right
            unfold renNxt numF
            cases hp : pos st m with
            | some i => exact List.mem_of_getElem? (pos_some hp)
            | none => simp
          · exact .inl h
        · right
          obtain ⟨q, hq⟩ := renNxt_pre st a
          rw [hq]; simp [h]
    exact this _ _ (.inl hm)
  have hid : ∀ (t : T), t.right = true → (∀ m ∈ t.occ, m ∈ rng n) → renamedF (rng n) t = t := by
    intro t
    induction t using T.ind with
    | h k m s l ih =>
      intro h hall
      have hr : rights l = true := by rw [T.right_eq] at h; exact (Bool.and_eq_true_iff.1 h).2
      by_cases hk : k = 1
      · subst hk
        obtain ⟨rfl, rfl, _, _⟩ := var_form h
        rw [renamedF, if_pos rfl]
        have hm : m ∈ rng n := hall m (by rw [T.occ]; simp)
        simp only [rng, List.mem_map, List.mem_range] at hm
        obtain ⟨i, hi, rfl⟩ := hm
        rw [placeF, pos_rng hi]
      · rw [renamedF, if_neg hk]
        have hL : ∀ (l : List T), rights l = true → (∀ x ∈ l, x.right = true → (∀ m ∈ x.occ, m ∈ rng n) → renamedF (rng n) x = x) → (∀ m ∈ occs l, m ∈ rng n) → renamedL (rng n) l = l := by
          intro l
          induction l with
          | nil => intro _ _ _; rfl
          | cons x r ihr =>
            intro hr h ho
            have hx := rights_iff.1 hr
            rw [renamedL, h x (by simp) (hx x (by simp)) (fun m hm => ho m (by rw [occs]; simp [hm])), ihr (rights_iff.2 (fun y hy => hx y (by simp [hy]))) (fun y hy => h y (by simp [hy])) (fun m hm => ho m (by rw [occs]; simp [hm]))]
        rw [hL l hr ih (fun m hm => hall m (by rw [T.occ, if_neg hk]; simpa using hm))]
  rw [hid t h hall]
theorem occ_flat (t : T) (h : t.right = true) : occs (flatF t) = t.occ := by
  induction t using T.ind with
  | h k n s l ih =>
    cases hc : goesB (.mk k n s l) nComma 2 with
    | true =>
      obtain ⟨hk, _, hl⟩ := goes_parts hc
      obtain ⟨a, b, hab⟩ := two_of_len hl
      rw [flat_two hc hab]
      have hab' : l = [a, b] := hab
      have hk1 : k ≠ 1 := by have hk' : k = 3 ∨ k = 4 := hk; omega
      have hr : rights l = true := by rw [T.right_eq] at h; exact (Bool.and_eq_true_iff.1 h).2
      rw [occs_append, ih a (by rw [hab']; simp) (rights_iff.1 hr a (by rw [hab']; simp)), ih b (by rw [hab']; simp) (rights_iff.1 hr b (by rw [hab']; simp)), T.occ, if_neg hk1, hab']
      simp [occs]
    | false =>
      cases ht : goesB (.mk k n s l) nTrue 0 with
      | true =>
        obtain ⟨hk, _, hl⟩ := goes_parts ht
        have hk1 : k ≠ 1 := by have hk' : k = 3 ∨ k = 4 := hk; omega
        have hl0 : l = [] := by
          have hl' : (l.length : Int) = 0 := hl
          cases l with | nil => rfl | cons a r => simp at hl'; omega
        rw [flat_true hc ht, T.occ, if_neg hk1, hl0]
        rfl
      | false => rw [flat_one hc ht]; simp [occs]
theorem occ_join (l : List T) (z : T) : (joinF l z).occ = occs l ++ z.occ := by
  induction l with
  | nil => rfl
  | cons x r ih =>
    rw [joinF, T.occ, if_neg (by decide)]
    simp [occs, ih]
end Go.Proofs.Ytoogmlgaeipenaa.terms
