/- Arithmetic: reckoning, plain. -/
import Derived.Test.YtleofkmfeooaaaaArith6
namespace Go.Proofs.Ytleofkmfeooaaaa.terms
set_option maxRecDepth 100000
open Go.RowKit Go.Proofs.Ytleofkmfeooaaaa.own Go.Maps
def nEvaluable : ByteArray := ⟨#[101, 118, 97, 108, 117, 97, 98, 108, 101]⟩
def evF (t : T) : T := .mk 4 0 nType [sAtom nEvaluable, .mk 4 0 ⟨#[47]⟩ (slashF t)]
def endF (s : ByteArray) (k : Int) : Sum (List Int) T → Rk
  | .inr x => .ball x
  | .inl v => finF s k (v.getD 0 0) (v.getD 1 0)
mutual
/-- What a term comes to. -/
def reckF : T → Rk | .mk k n s l => if k = 2 then .num n else if k = 1 then .ball (sAtom nInst) else if opB s (l.length : Int) = false then .ball (evF (.mk k n s l)) else endF s (l.length : Int) (reckL l)
def reckL : List T → Sum (List Int) T | [] => .inl [] | x :: r => match reckF x with | .ball b => .inr b | .num n => match reckL r with | .inr b => .inr b | .inl v => .inl (n :: v)
end
theorem reckF_mk (k n : Int) (s : ByteArray) (l : List T) : reckF (.mk k n s l) = if k = 2 then .num n else if k = 1 then .ball (sAtom nInst) else if opB s (l.length : Int) = false then .ball (evF (.mk k n s l)) else endF s (l.length : Int) (reckL l) := by rw [reckF]
theorem reckL_append {a b : List T} {v : List Int} (h : reckL a = .inl v) : reckL (a ++ b) = match reckL b with | .inr x => .inr x | .inl u => .inl (v ++ u) := by
  induction a generalizing v with
  | nil =>
    simp only [reckL, Sum.inl.injEq] at h
    subst h
    simp only [List.nil_append]
    cases reckL b <;> rfl
  | cons x r ih =>
    simp only [reckL] at h
    simp only [List.cons_append, reckL]
    cases hx : reckF x with
    | ball y => rw [hx] at h; cases h
    | num n =>
      rw [hx] at h
      simp only at h ⊢
      cases hr : reckL r with
      | inr y => rw [hr] at h; cases h
      | inl u =>
        rw [hr] at h
        cases h
        rw [ih hr]
        cases reckL b <;> rfl
theorem reckL_step {l : List T} {j : Nat} {x : T} {v : List Int} {n : Int} (hx : l[j]? = some x) (h : reckL (l.take j) = .inl v) (hn : reckF x = .num n) : reckL (l.take (j + 1)) = .inl (v ++ [n]) := by
  rw [take_snoc hx, reckL_append h]
  simp [reckL, hn]
theorem reckL_hit {l : List T} {j : Nat} {x y : T} {v : List Int} (hx : l[j]? = some x) (h : reckL (l.take j) = .inl v) (hn : reckF x = .ball y) : reckL l = .inr y := by
  have e : l = l.take j ++ x :: l.drop (j + 1) := by
    have hlt := (List.getElem?_eq_some_iff.1 hx).1
    have e2 := (List.getElem?_eq_some_iff.1 hx).2
    rw [← e2, List.getElem_cons_drop, List.take_append_drop]
  rw [e, reckL_append h]
  simp [reckL, hn]
theorem outF_rng {x n : Int} (h : outF x = .num n) : Rng n := by
  by_cases hr : Rng x
  · rw [outF_in hr] at h
    cases h
    exact hr
  · rw [outF_out hr] at h
    cases h
theorem finF_rng {s : ByteArray} {k a b n : Int} (h : finF s k a b = .num n) : Rng n := by
  unfold finF at h
  split at h
  · exact outF_rng h
  · split at h
    · split at h
      · cases h
      · exact outF_rng h
    · exact outF_rng h
theorem right_part {t : T} (h : t.right = true) : t.part = true := by
  rw [T.right_eq, Bool.and_eq_true] at h
  exact h.1
theorem part_int {t : T} (h : t.part = true) (hk : t.k = 2) : Rng t.n := by
  unfold T.part at h
  rw [if_neg (by omega), if_pos hk] at h
  split at h
  · split at h
    · exact ⟨by assumption, by assumption⟩
    · cases h
  · cases h
theorem int_rng {n : Int} {s : ByteArray} {l : List T} (h : (T.mk 2 n s l).right = true) : Rng n := part_int (right_part h) rfl
theorem part_kind {t : T} (h : t.part = true) : t.k = 1 ∨ t.k = 2 ∨ t.k = 3 ∨ t.k = 4 := by
  unfold T.part at h
  by_cases h1 : t.k = 1
  · exact .inl h1
  rw [if_neg h1] at h
  by_cases h2 : t.k = 2
  · exact .inr (.inl h2)
  rw [if_neg h2] at h
  by_cases h3 : t.k = 3
  · exact .inr (.inr (.inl h3))
  rw [if_neg h3] at h
  by_cases h4 : t.k = 4
  · exact .inr (.inr (.inr h4))
  rw [if_neg h4] at h
  cases h
theorem reckF_rng {t : T} (ht : t.right = true) {n : Int} (h : reckF t = .num n) : Rng n := by
  obtain ⟨k, m, s, l⟩ := t
  simp only [reckF] at h
  split at h
  · next hk =>
    subst hk
    cases h
    exact int_rng ht
  · split at h
    · cases h
    · split at h
      · cases h
      · unfold endF at h
        split at h
        · cases h
        · exact finF_rng h
theorem Ok_item {k n : Int} {s : ByteArray} {l : List T} (h : (T.mk k n s l).Ok) {x : T} (hx : x ∈ l) : x.Ok := by
  obtain ⟨h1, h2, h3⟩ := h
  have r := h1
  simp only [T.right, Bool.and_eq_true] at r
  have d := depth_mem hx
  have z := size_mem hx
  simp only [T.depth, T.size] at h2 h3
  exact ⟨rights_iff.1 r.2 x hx, by omega, by omega⟩
/-- A term that may be is of one of four kinds. -/
theorem right_kind {t : T} (h : t.right = true) : t.k = 1 ∨ t.k = 2 ∨ t.k = 3 ∨ t.k = 4 := part_kind (right_part h)
end Go.Proofs.Ytleofkmfeooaaaa.terms
