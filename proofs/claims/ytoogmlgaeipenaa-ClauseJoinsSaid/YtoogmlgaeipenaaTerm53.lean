/- Terms: what is renamed stays when it is renamed again. -/
import Derived.Test.YtoogmlgaeipenaaTermE
namespace Go.Proofs.Ytoogmlgaeipenaa.terms
set_option maxRecDepth 100000
open Go.RowKit Go.Proofs.Ytoogmlgaeipenaa.own Go.Maps
def rng (m : Nat) : List Int := (List.range m).map (fun (i : Nat) => (i : Int))
theorem rng_len (m : Nat) : (rng m).length = m := by simp [rng]
theorem rng_succ (m : Nat) : rng (m + 1) = rng m ++ [(m : Int)] := by simp [rng, List.range_succ]
theorem rng_get {m i : Nat} (h : i < m) : (rng m)[i]? = some (i : Int) := by simp [rng, h]
theorem rng_mem {m : Nat} {x : Int} : x ∈ rng m ↔ 0 ≤ x ∧ x < m := by
  simp only [rng, List.mem_map, List.mem_range]
  constructor
  · rintro ⟨i, hi, rfl⟩
    omega
  · rintro ⟨h1, h2⟩
    exact ⟨x.toNat, by omega, by omega⟩
theorem pos_rng_in {m i : Nat} (h : i < m) : pos (rng m) (i : Int) = some i := by
  refine pos_at (rng_get h) (fun hm => ?_)
  have : (rng m).take i = rng i := by
    simp only [rng, ← List.map_take]
    congr 1
    rw [List.take_range]
    congr 1
    omega
  rw [this, rng_mem] at hm
  omega
theorem pos_rng_out (m : Nat) : pos (rng m) (m : Int) = none := pos_nil (fun h => by rw [rng_mem] at h; omega)
/-- Renaming what was renamed, from as many numbers on. -/
theorem ren_again (t : T) : ∀ st : List Int, t.right = true → exF renOut renNxt (exF renOut renNxt t st).1 (rng st.length) = ((exF renOut renNxt t st).1, rng (exF renOut renNxt t st).2.length) := by
  induction t using T.ind with
  | h k n s l ih =>
    intro st hr
    by_cases hk : k = 1
    · subst hk
      have e : exF renOut renNxt (.mk 1 n s l) st = (renOut st n, renNxt st n) := by unfold exF; rw [if_pos rfl]
      rw [e]
      cases hp : pos st n with
      | some i =>
        have hi := (List.getElem?_eq_some_iff.1 (pos_some hp)).1
        have e1 : renOut st n = .mk 1 (i : Int) ⟨#[]⟩ [] := by unfold renOut numF; rw [hp]
        have e2 : renNxt st n = st := by unfold renNxt numF; rw [hp]
        rw [e1, e2]
        unfold exF
        rw [if_pos rfl]
        simp only [renOut, renNxt, numF, pos_rng_in hi]
      | none =>
        have e1 : renOut st n = .mk 1 (st.length : Int) ⟨#[]⟩ [] := by unfold renOut numF; rw [hp]
        have e2 : renNxt st n = st ++ [n] := by unfold renNxt numF; rw [hp]
        rw [e1, e2]
        unfold exF
        rw [if_pos rfl]
        simp only [renOut, renNxt, numF, pos_rng_out, rng_len, List.length_append, List.length_cons, List.length_nil, Nat.zero_add, rng_succ]
    · have e : exF renOut renNxt (.mk k n s l) st = (.mk k n s (exL renOut renNxt l st).1, (exL renOut renNxt l st).2) := by
        rw [exF, if_neg hk]
      rw [e]
      have hl : exL renOut renNxt (exL renOut renNxt l st).1 (rng st.length) = ((exL renOut renNxt l st).1, rng (exL renOut renNxt l st).2.length) := by
        have hrl : rights l = true := by rw [T.right_eq, Bool.and_eq_true] at hr; exact hr.2
        clear hr e
        induction l generalizing st with
        | nil => rfl
        | cons x r ihr =>
          rw [rights_iff] at hrl
          have h1 := ih x (by simp) st (hrl x (by simp))
          have h2 := ihr (fun y hy => ih y (by simp [hy])) (exF renOut renNxt x st).2 (rights_iff.2 (fun y hy => hrl y (by simp [hy])))
          simp only [exL, h1, h2]
      show exF renOut renNxt (.mk k n s (exL renOut renNxt l st).1) (rng st.length) = _
      rw [exF, if_neg hk, hl]
theorem renF_again (t : T) (hr : t.right = true) : renF (renF t).1 = ((renF t).1, rng (renF t).2.length) := ren_again t [] hr
theorem part_len {k n : Int} {s : ByteArray} {l l' : List T} (h : l.length = l'.length) : (T.mk k n s l).part = (T.mk k n s l').part := by
  have e : ∀ a b : T, a.k = b.k → a.n = b.n → a.s = b.s → (a.l.length : Int) = (b.l.length : Int) → a.part = b.part := fun a b h1 h2 h3 h4 => by
    simp only [T.part, h1, h2, h3, h4]
  exact e _ _ rfl rfl rfl (by show ((l.length : Nat) : Int) = (l'.length : Int); rw [h])
theorem var_part (i : Nat) (h : i < 1073741824) : (T.mk 1 (i : Int) ⟨#[]⟩ []).right = true := by
  rw [T.right_eq]
  have : (T.mk 1 (i : Int) ⟨#[]⟩ []).part = true := by
    show (if (1 : Int) = 1 then (if 0 ≤ (i : Int) then (if (i : Int) < 1073741824 then (if (⟨#[]⟩ : ByteArray).toList = [] then (((([] : List T).length : Nat) : Int) == 0) else false) else false) else false) else _) = true
    rw [if_pos rfl, if_pos (by omega), if_pos (by omega), if_pos (by kernel_rfl)]
    rfl
  rw [this]
  rfl
theorem numF_two (st : List Int) (n : Int) : (numF st n).1 ≤ st.length ∧ (numF st n).2.length ≤ st.length + 1 := by
  unfold numF
  cases hp : pos st n with
  | some i => exact ⟨Nat.le_of_lt (List.getElem?_eq_some_iff.1 (pos_some hp)).1, by simp⟩
  | none => exact ⟨Nat.le_refl _, by simp⟩
theorem ren_shape (t : T) : ∀ st : List Int, t.right = true → st.length + t.size ≤ 1000000 → (exF renOut renNxt t st).1.right = true ∧ (exF renOut renNxt t st).1.size = t.size ∧ (exF renOut renNxt t st).1.depth = t.depth ∧ (exF renOut renNxt t st).2.length ≤ st.length + t.size := by
  induction t using T.ind with
  | h k n s l ih =>
    intro st hr hz
    by_cases hk : k = 1
    · subst hk
      obtain ⟨rfl, rfl, _, _⟩ := var_form hr
      have hle := numF_two st n
      rw [exF, if_pos rfl]
      have hz1 : (T.mk 1 n ⟨#[]⟩ []).size = 1 := rfl
      exact ⟨var_part _ (by omega), rfl, rfl, by rw [hz1]; exact hle.2⟩
    · rw [exF, if_neg hk]
      have hzz : (T.mk k n s l).size = 1 + sizes l := rfl
      have hp : (T.mk k n s l).part = true := by rw [T.right_eq, Bool.and_eq_true] at hr; exact hr.1
      have hl : rights (exL renOut renNxt l st).1 = true ∧ sizes (exL renOut renNxt l st).1 = sizes l ∧ depths (exL renOut renNxt l st).1 = depths l ∧ (exL renOut renNxt l st).2.length ≤ st.length + sizes l := by
        have hrl : rights l = true := by rw [T.right_eq, Bool.and_eq_true] at hr; exact hr.2
        have hzl : st.length + sizes l ≤ 1000000 := by omega
        clear hr hz hzz hp
        induction l generalizing st with
        | nil => exact ⟨rfl, rfl, rfl, by simp [exL]⟩
        | cons x r ihr =>
          rw [rights_iff] at hrl
          have e0 : sizes (x :: r) = x.size + sizes r := rfl
          have h1 := ih x (by simp) st (hrl x (by simp)) (by omega)
          have h2 := ihr (fun y hy => ih y (by simp [hy])) (exF renOut renNxt x st).2 (rights_iff.2 (fun y hy => hrl y (by simp [hy]))) (by omega)
          simp only [exL, rights, sizes, depths, h1.1, h2.1, h1.2.1, h2.2.1, h1.2.2.1, h2.2.2.1, Bool.and_self, true_and]
          omega
      refine ⟨?_, ?_, ?_, ?_⟩
      · rw [T.right_eq, Bool.and_eq_true]
        exact ⟨by rw [part_len (exL_length l st)]; exact hp, hl.1⟩
      · show 1 + sizes _ = 1 + sizes l
        rw [hl.2.1]
      · show depths _ + 1 = depths l + 1
        rw [hl.2.2.1]
      · show (exL renOut renNxt l st).2.length ≤ _
        rw [hzz]
        omega
theorem renF_ok {t : T} (h : t.Ok) : (renF t).1.Ok := by
  have := h.size
  have hs := ren_shape t [] h.right (by simp; omega)
  exact ⟨hs.1, by unfold renF; rw [hs.2.2.1]; exact h.depth, by unfold renF; rw [hs.2.1]; exact h.size⟩
end Go.Proofs.Ytoogmlgaeipenaa.terms
