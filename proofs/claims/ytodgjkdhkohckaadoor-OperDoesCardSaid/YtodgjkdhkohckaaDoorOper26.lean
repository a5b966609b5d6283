/- Operators: who is in a table, and who is behind a set. Plain. -/
import Derived.Test.YtodgjkdhkohckaaDoorOper25
namespace Go.Proofs.YtodgjkdhkohckaaDoor.opers
open Go.RowKit Go.Proofs.YtodgjkdhkohckaaDoor.own Go.Maps Go.Sort Go.Shelf Go.Proofs.YtodgjkdhkohckaaDoor.toks
/-- Two lists in strict order with the same members are one list. -/
theorem strict_ext {α : Type} {lt : α → α → Bool} (hS : SWO lt) : ∀ (l l' : List α), l.Pairwise (fun x y => lt x y = true) → l'.Pairwise (fun x y => lt x y = true) → (∀ x, x ∈ l ↔ x ∈ l') → l = l'
  | [], [], _, _, _ => rfl
  | [], b :: _, _, _, h => absurd ((h b).2 List.mem_cons_self) (by simp)
  | a :: _, [], _, _, h => absurd ((h a).1 List.mem_cons_self) (by simp)
  | a :: t, b :: t', h1, h2, h => by
    rw [List.pairwise_cons] at h1 h2
    have e : a = b := by
      rcases List.mem_cons.1 ((h a).1 List.mem_cons_self) with e | ha
      · exact e
      · rcases List.mem_cons.1 ((h b).2 List.mem_cons_self) with e | hb
        · exact e.symm
        · have h3 := hS.trans _ _ _ (h1.1 b hb) (h2.1 a ha)
          rw [hS.irrefl] at h3
          cases h3
    subst e
    have hne : ∀ x, x ∈ t → x ≠ a := fun x hx e => by
      have h3 := h1.1 x hx
      rw [e, hS.irrefl] at h3
      cases h3
    have hne' : ∀ x, x ∈ t' → x ≠ a := fun x hx e => by
      have h3 := h2.1 x hx
      rw [e, hS.irrefl] at h3
      cases h3
    rw [strict_ext hS t t' h1.2 h2.2 (fun x => ⟨fun hx => (List.mem_cons.1 ((h x).1 (List.mem_cons_of_mem _ hx))).resolve_left (hne x hx), fun hx => (List.mem_cons.1 ((h x).2 (List.mem_cons_of_mem _ hx))).resolve_left (hne' x hx)⟩)]
/-- The operator stands in the table. -/
def At (Di Dp : D1) (x : Op3) : Prop := ∀ zd, (sideD x.k Di Dp).atKey (keyN x.n) zd = opD x.p x.k x.n
theorem vals_nodup {b : Bool} {D : D1} {xs : List Op3} (hf : Fine b D) (hv : ValsOf D xs) : xs.Nodup := by
  have hv0 := hv
  obtain ⟨ps, ⟨hp, hnd⟩, hat, rfl⟩ := hv
  have e : (ps.map (·.2)).map (fun x : Op3 => x.n.data.toList) = ps.map (·.1) := by
    rw [List.map_map]
    refine List.map_congr_left fun p hpm => ?_
    obtain ⟨p', k', n', h2, h3, h4⟩ := hf.2 p.1 (has_true_of_atKey (hat p hpm))
    obtain ⟨_, _, e3⟩ := opD_inj ((hat p hpm zeroD).symm.trans (h2 zeroD))
    rw [Function.comp_apply, e3, h3]
  rw [← e] at hnd
  exact (List.Pairwise.of_map (S := fun a b => a ≠ b) (fun x : Op3 => x.n.data.toList) (fun a b h he => h (by rw [he])) hnd)
theorem vals_mem {b : Bool} {D : D1} {xs : List Op3} (hf : Fine b D) (hv : ValsOf D xs) (x : Op3) (h : ∀ zd, D.atKey (keyN x.n) zd = opD x.p x.k x.n) : x ∈ xs := by
  obtain ⟨ps, ⟨hp, _⟩, hat, rfl⟩ := hv
  have hh := has_true_of_atKey h
  have hs : x.n.data.toList ∈ strKeys D := by
    obtain ⟨es, rfl⟩ := hf.1
    unfold Maps.has at hh
    obtain ⟨q, hq, hk⟩ := List.any_eq_true.1 hh
    have e : q.1 = keyN x.n := WideAt.sameKey_eq hk
    unfold strKeys
    refine List.mem_map.2 ⟨q, hq, ?_⟩
    rw [e]
    rfl
  obtain ⟨p, hpm, e⟩ := List.mem_map.1 (hp.mem_iff.2 hs)
  have e2 : (.string p.1 : Lit) = keyN x.n := by unfold keyN; rw [← e]
  have h3 := hat p hpm zeroD
  rw [e2, h zeroD] at h3
  obtain ⟨a1, a2, a3⟩ := opD_inj h3
  have e3 : p.2 = x := by
    obtain ⟨s, ⟨p1, k1, n1⟩⟩ := p
    obtain ⟨p2, k2, n2⟩ := x
    simp only at a1 a2 a3
    rw [a1, a2, a3]
  exact List.mem_map.2 ⟨p, hpm, e3⟩
theorem all_mem {Di Dp : D1} (hi : Fine false Di) (hp : Fine true Dp) {xs : List Op3} (h : AllIs Di Dp xs) (x : Op3) : x ∈ xs ↔ At Di Dp x := by
  obtain ⟨⟨xi, xp, h1, h2, h3⟩, _⟩ := h
  rw [← h3.mem_iff, List.mem_append]
  unfold At sideD
  constructor
  · rintro (a | a)
    · obtain ⟨q1, q2⟩ := vals_fine hi h1 x a
      rw [if_neg (by rw [q2]; decide)]
      exact q1
    · obtain ⟨q1, q2⟩ := vals_fine hp h2 x a
      rw [if_pos q2]
      exact q1
  · intro h
    cases hk : isPreF x.k with
    | true => rw [if_pos hk] at h; exact .inr (vals_mem hp h2 x h)
    | false => rw [if_neg (by rw [hk]; decide)] at h; exact .inl (vals_mem hi h1 x h)
theorem all_nodup {Di Dp : D1} (hi : Fine false Di) (hp : Fine true Dp) {xs : List Op3} (h : AllIs Di Dp xs) : xs.Nodup := by
  obtain ⟨⟨xi, xp, h1, h2, h3⟩, _⟩ := h
  rw [← h3.nodup_iff]
  refine List.nodup_append.2 ⟨vals_nodup hi h1, vals_nodup hp h2, fun a ha b hb e => ?_⟩
  have q1 := (vals_fine hi h1 a ha).2
  have q2 := (vals_fine hp h2 b hb).2
  rw [e, q2] at q1
  cases q1
theorem all_strict {Di Dp : D1} (hi : Fine false Di) (hp : Fine true Dp) {xs : List Op3} (h : AllIs Di Dp xs) : xs.Pairwise (fun x y => ltO x y = true) := by
  have h1 := all_nodup hi hp h
  have h2 := h.2
  refine List.Pairwise.imp_of_mem ?_ (h1.and h2)
  intro a b ha hb hab
  cases hl : ltO a b with
  | true => rfl
  | false =>
    obtain ⟨e1, e2⟩ := same_nk hl hab.2
    exact absurd (all_one hi hp h ha hb e1 (by rw [e2])) hab.1
end Go.Proofs.YtodgjkdhkohckaaDoor.opers
