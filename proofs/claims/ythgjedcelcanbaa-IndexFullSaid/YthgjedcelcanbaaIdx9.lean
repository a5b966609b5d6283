/- Selection by keys: rows by their keys, plain. -/
import Derived.Test.YthgjedcelcanbaaIdx8
namespace Go.Proofs.Ythgjedcelcanbaa.idx
set_option maxRecDepth 100000
open Go.RowKit Go.Proofs.Ythgjedcelcanbaa.own Go.Lib Go.Maps Go.WideMaps
open Go.ChangeMaps (putKey delKey notKey)
def eqK (a b : Ky) : Bool := a.k == b.k && a.s.data.toList == b.s.data.toList && a.n == b.n
theorem eqK_iff {a b : Ky} : eqK a b = true ↔ a = b := by
  unfold eqK
  simp only [Bool.and_eq_true, beq_iff_eq]
  exact ⟨fun h => Ky.eq h.1.1 (ba_lists h.1.2) h.2, fun h => by subst h; exact ⟨⟨rfl, rfl⟩, rfl⟩⟩
theorem eqK_refl (a : Ky) : eqK a a = true := eqK_iff.2 rfl
theorem eqK_ne {a b : Ky} (h : a ≠ b) : eqK a b = false := by
  cases e : eqK a b with
  | false => rfl
  | true => exact absurd (eqK_iff.1 e) h
theorem eqK_comm (a b : Ky) : eqK a b = eqK b a := by
  cases h : eqK a b with
  | true => rw [eqK_iff.1 h, eqK_refl]
  | false =>
    refine (eqK_ne (fun e => ?_)).symm
    rw [e, eqK_refl] at h
    cases h
/-- The entries of a key. -/
def cls (k : Ky) (L : List En) : List En := L.filter (fun e => eqK e.key k)
theorem mem_cls {k : Ky} {L : List En} {e : En} : e ∈ cls k L ↔ e ∈ L ∧ e.key = k := by
  unfold cls
  rw [List.mem_filter, eqK_iff]
theorem cls_rises {k : Ky} {L : List En} (h : Rises L) : Rises (cls k L) := h.sublist List.filter_sublist
theorem cls_len (k : Ky) (L : List En) : (cls k L).length ≤ L.length := List.length_filter_le _ _
/-- Where a row is. -/
abbrev Hd := Option Addr × Nat × Nat
abbrev D2 := DataW Hd
def hdR : Value → Option (D2 × List MemPlace)
  | .slice a n c => some (.held (a, n, c), [])
  | _ => none
theorem hdR_mk (a : Option Addr) (n c : Nat) : hdR (.slice a n c) = some (.held (a, n, c), []) := rfl
theorem hdR_inv {v : Value} {h : Hd} {ps : List MemPlace} (e : hdR v = some (.held h, ps)) : v = .slice h.1 h.2.1 h.2.2 := by
  unfold hdR at e
  split at e
  · simp only [Option.some.injEq, Prod.mk.injEq, DataW.held.injEq] at e
    rw [← e.1]
  · cases e
abbrev Ks := List (Ky × Hd)
def rkP (ks : Ks) : List (Lit × D2) := ks.map (fun p => (keyK p.1, .held p.2))
def RkMap (D : D2) (ks : Ks) : Prop := ∃ es, D = .map es ∧ es.Perm (rkP ks)
/-- Unlike rows have unlike keys, which may be. -/
structure KsOk (ks : Ks) : Prop where
  ok : ∀ p ∈ ks, p.1.Ok
  one : ks.Pairwise (fun p q => p.1 ≠ q.1)
theorem mem_rkP {ks : Ks} {p : Lit × D2} : p ∈ rkP ks ↔ ∃ q ∈ ks, p = (keyK q.1, .held q.2) := by
  unfold rkP
  rw [List.mem_map]
  exact ⟨fun ⟨e, h, h'⟩ => ⟨e, h, h'.symm⟩, fun ⟨e, h, h'⟩ => ⟨e, h, h'.symm⟩⟩
theorem rkP_apart {ks : Ks} (h : KsOk ks) : (rkP ks).Pairwise (fun p q => p.1 ≠ q.1) := by
  unfold rkP
  rw [List.pairwise_map]
  exact List.Pairwise.imp_of_mem (fun {a b} ha hb hab e => hab (keyK_inj (h.ok a ha) (h.ok b hb) e)) h.one
theorem RkMap.empty : RkMap (.map []) [] := ⟨[], rfl, List.Perm.refl _⟩
theorem RkMap.at_yes {D : D2} {ks : Ks} (h : RkMap D ks) (hA : KsOk ks) {p : Ky × Hd} (hp : p ∈ ks) (z : D2) : D.atKey (keyK p.1) z = .held p.2 := by
  obtain ⟨es, rfl, he⟩ := h
  exact WideAt.atKey_mem z (keyK_key _) ((he.pairwise_iff (fun {a b} (h : a.1 ≠ b.1) => h.symm)).2 (rkP_apart hA)) (he.mem_iff.2 (mem_rkP.2 ⟨p, hp, rfl⟩))
theorem RkMap.at_no {D : D2} {ks : Ks} (h : RkMap D ks) (hA : KsOk ks) {k : Ky} (hk : k.Ok) (hn : ∀ p ∈ ks, p.1 ≠ k) (z : D2) : D.atKey (keyK k) z = z := by
  obtain ⟨es, rfl, he⟩ := h
  refine WideAt.atKey_none z ?_
  intro p hp' e
  obtain ⟨x, hx, rfl⟩ := mem_rkP.1 (he.mem_iff.1 hp')
  exact hn x hx (keyK_inj (hA.ok x hx) hk e)
/-- A row's place is set: a new one, or another one in its stead. -/
def setK (ks : Ks) (k : Ky) (h : Hd) : Ks := (k, h) :: ks.filter (fun p => !eqK p.1 k)
def delK (ks : Ks) (k : Ky) : Ks := ks.filter (fun p => !eqK p.1 k)
theorem mem_delK {ks : Ks} {k : Ky} {p : Ky × Hd} : p ∈ delK ks k ↔ p ∈ ks ∧ p.1 ≠ k := by
  unfold delK
  rw [List.mem_filter]
  refine ⟨fun h => ⟨h.1, fun e => ?_⟩, fun h => ⟨h.1, by rw [eqK_ne h.2]; rfl⟩⟩
  have := h.2
  rw [e, eqK_refl] at this
  cases this
theorem rkP_del {ks : Ks} {k : Ky} (hA : KsOk ks) (hk : k.Ok) : rkP (delK ks k) = (rkP ks).filter (notKey (keyK k)) := by
  unfold rkP delK
  rw [List.filter_map]
  congr 1
  apply List.filter_congr
  intro p hp
  simp only [Function.comp]
  by_cases h : p.1 = k
  · rw [h, eqK_refl]
    cases hn : notKey (keyK k) (keyK k, (DataW.held p.2 : D2)) with
    | false => rfl
    | true => exact absurd rfl ((notKey_iff (keyK_key k) (p := (keyK k, (DataW.held p.2 : D2)))).1 hn)
  · rw [eqK_ne h]
    exact ((notKey_iff (keyK_key k) (p := (keyK p.1, (DataW.held p.2 : D2)))).2 (fun e => h (keyK_inj (hA.ok p hp) hk e))).symm
theorem RkMap.put {D : D2} {ks : Ks} (h : RkMap D ks) (hA : KsOk ks) {k : Ky} (hk : k.Ok) (hd : Hd) : RkMap (D.put (keyK k) (.held hd)) (setK ks k hd) := by
  obtain ⟨es, rfl, he⟩ := h
  refine ⟨_, DataW.put_eq _ _ _, ?_⟩
  unfold putKey
  refine (WideShapes.insert_perm _ _).trans ?_
  show ((keyK k, DataW.held hd) :: es.filter (notKey (keyK k))).Perm ((keyK k, DataW.held hd) :: rkP (delK ks k))
  rw [rkP_del hA hk]
  exact (he.filter _).cons _
theorem RkMap.del {D : D2} {ks : Ks} (h : RkMap D ks) (hA : KsOk ks) {k : Ky} (hk : k.Ok) : RkMap (D.del (keyK k)) (delK ks k) := by
  obtain ⟨es, rfl, he⟩ := h
  refine ⟨_, DataW.del_eq _ _, ?_⟩
  unfold delKey
  rw [rkP_del hA hk]
  exact he.filter _
theorem KsOk.del {ks : Ks} (h : KsOk ks) (k : Ky) : KsOk (delK ks k) := ⟨fun p hp => h.ok p (mem_delK.1 hp).1, h.one.sublist List.filter_sublist⟩
theorem KsOk.set {ks : Ks} (h : KsOk ks) {k : Ky} (hk : k.Ok) (hd : Hd) : KsOk (setK ks k hd) := by
  refine ⟨fun p hp => ?_, List.pairwise_cons.2 ⟨fun p hp e => (mem_delK.1 hp).2 e.symm, (h.del k).one⟩⟩
  rcases List.mem_cons.1 hp with rfl | hp
  · exact hk
  · exact (h.del k).ok p hp
/-- The place of a key's row. -/
theorem ks_or (ks : Ks) (k : Ky) : (∃ h, (k, h) ∈ ks) ∨ (∀ p ∈ ks, p.1 ≠ k) := by
  by_cases h : ∃ h, (k, h) ∈ ks
  · exact .inl h
  · exact .inr (fun p hp e => h ⟨p.2, by rw [← e]; exact hp⟩)
/-! ### What is met first -/
theorem from_find {p : Int} : ∀ {L : List En}, Rises L → fromF p L = L.find? (fun e => decide (p ≤ e.pl)) := by
  intro L
  induction L with
  | nil => intro _; rfl
  | cons x r ih =>
    intro h
    have h' := List.pairwise_cons.1 h
    by_cases hx : x.pl < p
    · have ihr := ih h'.2
      unfold fromF cntF at *
      rw [List.countP_cons_of_pos (by simpa using hx), List.getElem?_cons_succ, ihr, List.find?_cons_of_neg (by simp; omega)]
    · have h0 : cntF p (x :: r) = 0 := cnt_none (fun y hy => by
        rcases List.mem_cons.1 hy with rfl | hy
        · omega
        · have := h'.1 y hy; omega)
      unfold fromF
      rw [h0, List.find?_cons_of_pos (by simp; omega)]
      rfl
/-- Of two entries, the one at the lower place. -/
def pickF : Option En → Option En → Option En
  | none, y => y
  | some x, none => some x
  | some x, some y => if y.pl < x.pl then some y else some x
/-- Two questions: the first entry that meets either of them. -/
theorem find_two (f g : En → Bool) : ∀ {L : List En}, Rises L → L.find? (fun e => f e || g e) = pickF (L.find? f) (L.find? g) := by
  intro L
  induction L with
  | nil => intro _; rfl
  | cons a r ih =>
    intro h
    have h' := List.pairwise_cons.1 h
    have ihr := ih h'.2
    cases hf : f a with
    | true =>
      rw [List.find?_cons_of_pos (by simp [hf]), List.find?_cons_of_pos (p := f) (by simp [hf])]
      cases hg : g a with
      | true =>
        rw [List.find?_cons_of_pos (p := g) (by simp [hg])]
        simp [pickF]
      | false =>
        rw [List.find?_cons_of_neg (p := g) (by simp [hg])]
        cases hr : r.find? g with
        | none => rfl
        | some y =>
          have := h'.1 y (List.mem_of_find?_eq_some hr)
          simp only [pickF]
          rw [if_neg (by omega)]
    | false =>
      cases hg : g a with
      | true =>
        rw [List.find?_cons_of_pos (by simp [hg]), List.find?_cons_of_pos (p := g) (by simp [hg]), List.find?_cons_of_neg (p := f) (by simp [hf])]
        cases hr : r.find? f with
        | none => rfl
        | some x =>
          have := h'.1 x (List.mem_of_find?_eq_some hr)
          simp only [pickF]
          rw [if_pos (by omega)]
      | false =>
        rw [List.find?_cons_of_neg (by simp [hf, hg]), List.find?_cons_of_neg (p := f) (by simp [hf]), List.find?_cons_of_neg (p := g) (by simp [hg])]
        exact ihr
end Go.Proofs.Ythgjedcelcanbaa.idx
