/- Clauses: a clause's term is that clause again, plain. -/
import Derived.Test.YtoogmlgaeipenaaClause7
namespace Go.Proofs.Ytoogmlgaeipenaa.terms
set_option maxRecDepth 100000
open Go.RowKit Go.Proofs.Ytoogmlgaeipenaa.own Go.Maps
theorem from_parts {t h : T} {gs : List T} {n : Nat} (hf : fromF t = .cl h gs n) : t.Ok ∧ n = (renF t).2.length ∧ ¬ 64 < gs.length ∧ wrongHF h = none ∧ intsF gs = [] ∧ parF (renF t).1 = (h, gs) := by
  unfold fromF at hf
  by_cases h0 : rcheckF t = 0
  · rw [if_pos h0] at hf
    unfold fromU at hf
    by_cases h1 : 64 < (goalsF (parF (renF t).1).2).length
    · rw [if_pos h1] at hf; cases hf
    · rw [if_neg h1] at hf
      cases hw : wrongHF (parF (renF t).1).1 with
      | some x => rw [hw] at hf; cases hf
      | none =>
        rw [hw] at hf
        cases hu : uncF (parF (renF t).1).2 with
        | some x => rw [hu] at hf; cases hf
        | none =>
          rw [hu] at hf
          have hi : intsF (parF (renF t).1).2 = [] := by
            unfold uncF at hu
            split at hu
            · assumption
            · cases hu
          rw [goals_all hi] at hf h1
          injection hf with e1 e2 e3
          subst e1 e2 e3
          exact ⟨rcheck_iff.1 h0, rfl, h1, hw, hi, rfl⟩
  · rw [if_neg h0] at hf; cases hf
theorem from_mk {v h : T} {gs : List T} {n : Nat} (hv : v.Ok) (hr : renF v = (v, rng n)) (hp : parF v = (h, gs)) (h64 : ¬ 64 < gs.length) (hw : wrongHF h = none) (hi : intsF gs = []) : fromF v = .cl h gs n := by
  unfold fromF
  rw [if_pos (rcheck_iff.2 hv), hr]
  unfold fromU
  simp only [hp, goals_all hi, hw]
  rw [if_neg h64]
  have hu : uncF gs = none := by unfold uncF; rw [hi]
  simp [hu, rng]
theorem not_if {h : T} (hw : wrongHF h = none) : goesB h nIf 2 = false := by
  cases hg : goesB h nIf 2 with
  | false => rfl
  | true =>
    obtain ⟨_, hs, hl⟩ := goes_parts hg
    unfold wrongHF at hw
    split at hw
    · cases hw
    · rw [hs, hl] at hw
      rw [if_pos (by decide +kernel)] at hw
      cases hw
theorem from_back {t h : T} {gs : List T} {n : Nat} (hf : fromF t = .cl h gs n) (hok : (backT h gs).Ok) : fromF (backT h gs) = .cl h gs n := by
  obtain ⟨ht, rfl, h64, hw, hi, hp⟩ := from_parts hf
  have hu := renF_ok ht
  have hag := renF_again t ht.right
  generalize hn : (renF t).2.length = n at *
  generalize (renF t).1 = u at *
  have hfold : u.occ.foldl renNxt [] = rng n := by
    have h1 := renF_is u hu.right
    rw [hag] at h1
    have h2 : rng n = varsF u := congrArg Prod.snd h1
    rw [h2, varsF, each_occ]
  have hsh : h.occ ++ occs gs = u.occ ∧ (∀ x ∈ gs, flatF x = [x]) ∧ (∀ x ∈ gs, x.right = true) := by
    unfold parF at hp
    cases hg : goesB u nIf 2 with
    | true =>
      rw [if_pos hg] at hp
      obtain ⟨hk, _, hl⟩ := goes_parts hg
      obtain ⟨a, b, hab⟩ := two_of_len hl
      rw [hab] at hp
      injection hp with e1 e2
      have e1' : a = h := e1
      have e2' : flatF b = gs := e2
      subst e1' e2'
      have hr : rights u.l = true := by have := hu.right; rw [T.right_eq] at this; exact (Bool.and_eq_true_iff.1 this).2
      have hbr : b.right = true := rights_iff.1 hr b (by rw [hab]; simp)
      refine ⟨?_, fun x hx => ?_, flat_right b hbr⟩
      · rw [occ_flat b hbr, occ_of u, if_neg (by omega), hab]
        simp [occs]
      · obtain ⟨h1, h2⟩ := flat_mem b x hx
        exact flat_one h1 h2
    | false =>
      rw [if_neg (by rw [hg]; simp)] at hp
      injection hp with e1 e2
      subst e1 e2
      exact ⟨by simp [occs], (by intro x hx; cases hx), (by intro x hx; cases hx)⟩
  obtain ⟨hocc, hone, hright⟩ := hsh
  cases hgl : gs.getLast? with
  | none =>
    have hnil : gs = [] := List.getLast?_eq_none_iff.1 hgl
    subst hnil
    have hb : backT h [] = h := rfl
    rw [hb] at hok ⊢
    refine from_mk hok (ren_own h hok.right n ?_) ?_ h64 hw hi
    · rw [← hfold, ← hocc]; simp [occs]
    · unfold parF; rw [if_neg (by rw [not_if hw]; simp)]
  | some z =>
    have hsplit : gs = gs.dropLast ++ [z] := by
      have hne : gs ≠ [] := by rintro rfl; simp at hgl
      have := List.dropLast_concat_getLast hne
      rw [List.getLast?_eq_some_getLast hne] at hgl
      injection hgl with hgl
      rw [hgl] at this
      exact this.symm
    have hz : z ∈ gs := by rw [hsplit]; simp
    have hdl : ∀ x ∈ gs.dropLast, x ∈ gs := fun x hx => by rw [hsplit]; simp [hx]
    have hmap : gs.dropLast.map calF = gs.dropLast := by
      have hid : ∀ l : List T, (∀ x ∈ l, x.right = true) → l.map calF = l := by
        intro l
        induction l with
        | nil => intro _; rfl
        | cons x r ih => intro hx; rw [List.map_cons, cal_right (hx x (by simp)), ih (fun y hy => hx y (by simp [hy]))]
      exact hid _ (fun x hx => hright x (hdl x hx))
    have hb : backT h gs = .mk 4 0 nIf [h, joinF gs.dropLast z] := by
      unfold backT
      rw [hgl]
      simp only [hmap, cal_right (hright z hz)]
    rw [hb] at hok ⊢
    refine from_mk hok (ren_own _ hok.right n ?_) ?_ h64 hw hi
    · rw [← hfold, ← hocc, occ_of]
      have : occs gs = occs gs.dropLast ++ z.occ := by
        conv => lhs; rw [hsplit]
        rw [occs_append]; simp [occs]
      rw [this]
      simp [T.k, T.l, occs, occ_join]
    · unfold parF
      rw [if_pos (goes_of (t := .mk 4 0 nIf [h, joinF gs.dropLast z]) (s := nIf) (n := 2) (.inr rfl) rfl rfl)]
      show (h, flatF (joinF gs.dropLast z)) = (h, gs)
      rw [flat_join _ _ (hone z hz) (fun x hx => hone x (hdl x hx)), ← hsplit]
theorem flat_sizes (t : T) : sizes (flatF t) ≤ t.size := by
  induction t using T.ind with
  | h k n s l ih =>
    cases hc : goesB (.mk k n s l) nComma 2 with
    | true =>
      obtain ⟨_, _, hl⟩ := goes_parts hc
      obtain ⟨a, b, hab⟩ := two_of_len hl
      rw [flat_two hc hab]
      have hab' : l = [a, b] := hab
      have h1 := ih a (by rw [hab']; simp)
      have h2 := ih b (by rw [hab']; simp)
      rw [sizes_append, T.size_eq, hab]
      simp only [sizes]
      omega
    | false =>
      cases ht : goesB (.mk k n s l) nTrue 0 with
      | true => rw [flat_true hc ht]; simp [sizes]
      | false => rw [flat_one hc ht]; simp [sizes]
theorem join_size (l : List T) (z : T) : (joinF l z).size = sizes l + z.size + l.length := by
  induction l with
  | nil => simp [joinF, sizes]
  | cons x r ih => rw [joinF, T.size_eq]; simp only [T.l, sizes, ih, List.length_cons]; omega
theorem back_size {t h : T} {gs : List T} {n : Nat} (hf : fromF t = .cl h gs n) : (backT h gs).size ≤ t.size + 66 := by
  obtain ⟨ht, rfl, h64, hw, hi, hp⟩ := from_parts hf
  have hu := renF_ok ht
  have hsz : (renF t).1.size = t.size := (ren_shape t [] ht.right (by have := ht.size; simp; omega)).2.1
  rw [← hsz]
  generalize (renF t).1 = u at *
  have hsh : h.size + sizes gs ≤ u.size ∧ (∀ x ∈ gs, x.right = true) := by
    unfold parF at hp
    cases hg : goesB u nIf 2 with
    | true =>
      rw [if_pos hg] at hp
      obtain ⟨hk, _, hl⟩ := goes_parts hg
      obtain ⟨a, b, hab⟩ := two_of_len hl
      rw [hab] at hp
      injection hp with e1 e2
      have e1' : a = h := e1
      have e2' : flatF b = gs := e2
      subst e1' e2'
      have hr : rights u.l = true := by have := hu.right; rw [T.right_eq] at this; exact (Bool.and_eq_true_iff.1 this).2
      refine ⟨?_, flat_right b (rights_iff.1 hr b (by rw [hab]; simp))⟩
      have := flat_sizes b
      rw [T.size_eq u, hab]
      simp only [sizes]
      omega
    | false =>
      rw [if_neg (by rw [hg]; simp)] at hp
      injection hp with e1 e2
      subst e1 e2
      exact ⟨by simp [sizes], (by intro x hx; cases hx)⟩
  have hid : ∀ l : List T, (∀ x ∈ l, x.right = true) → l.map calF = l := by
    intro l
    induction l with
    | nil => intro _; rfl
    | cons x r ih => intro hx; rw [List.map_cons, cal_right (hx x (by simp)), ih (fun y hy => hx y (by simp [hy]))]
  cases hgl : gs.getLast? with
  | none =>
    have hnil : gs = [] := List.getLast?_eq_none_iff.1 hgl
    subst hnil
    show h.size ≤ _
    omega
  | some z =>
    have hsplit : gs = gs.dropLast ++ [z] := by
      have hne : gs ≠ [] := by rintro rfl; simp at hgl
      have := List.dropLast_concat_getLast hne
      rw [List.getLast?_eq_some_getLast hne] at hgl
      injection hgl with hgl
      rw [hgl] at this
      exact this.symm
    have hz : z ∈ gs := by rw [hsplit]; simp
    have hss : sizes gs = sizes gs.dropLast + z.size := by
      conv => lhs; rw [hsplit]
      rw [sizes_append]; simp [sizes]
    have hll : gs.length = gs.dropLast.length + 1 := by
      conv => lhs; rw [hsplit]
      simp
    unfold backT
    rw [hgl]
    have hmp := hid gs.dropLast (fun x hx => hsh.2 x (by rw [hsplit]; simp [hx]))
    simp only [hmp, cal_right (hsh.2 z hz)]
    rw [T.size_eq]
    simp only [T.l, sizes, join_size]
    omega
end Go.Proofs.Ytoogmlgaeipenaa.terms
