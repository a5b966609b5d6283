
/- Names in slots, and the map of their numbers: plain lists. -/
import Derived.Test.YtoppfhbpmmepaaaDoorOwn
import Derived.Maps.OwnSet
import Derived.Maps.Views
import Derived.Maps.Keyed
import Derived.StringKeys
import Derived.MapViews
import Derived.Lib.Hide
namespace Go.Proofs.YtoppfhbpmmepaaaDoor.atoms
open Go.RowKit Go.Proofs.YtoppfhbpmmepaaaDoor.own Go.Maps
open Go.ChangeMaps (putKey delKey notKey)

/-- A slot: its name, whether it is there, whether it is marked. -/
structure ASlot where
  name : ByteArray
  used : Bool
  mark : Bool

/-- A slot that is free. -/
def freeSlot : ASlot := ⟨⟨#[]⟩, false, false⟩
def encS (x : ASlot) : List Value := [.string x.name, .bool x.used, .bool x.mark]
theorem liesS : Lies encS 3 := ⟨fun _ => rfl, by intro x u hu; simp [encS] at hu; rcases hu with rfl | rfl | rfl <;> rfl, by omega⟩

def keyN (n : ByteArray) : Lit := .string n.data.toList
theorem keyN_inj {a b : ByteArray} (h : keyN a = keyN b) : a = b := by
  simp only [keyN, Lit.string.injEq] at h
  have := Array.toList_inj.1 h
  cases a; cases b; simp_all
theorem keyN_key (n : ByteArray) : WideAt.IsKeyLit (keyN n) := by trivial

abbrev D1 := DataW Unit
def idD (i : Nat) : D1 := .lit (.int .i64 i)

/-- The names with their numbers. -/
def prs : List ASlot → Nat → List (Lit × D1)
  | [], _ => []
  | x :: r, i => if x.used = true then (keyN x.name, idD i) :: prs r (i + 1) else prs r (i + 1)

theorem prs_append (a b : List ASlot) (i : Nat) : prs (a ++ b) i = prs a i ++ prs b (i + a.length) := by
  induction a generalizing i with
  | nil => simp [prs]
  | cons x r ih =>
    have e : i + (r.length + 1) = i + 1 + r.length := by omega
    simp only [List.cons_append, prs, ih, List.length_cons, e]
    split <;> simp
theorem mem_prs {sl : List ASlot} {i : Nat} {p : Lit × D1} : p ∈ prs sl i ↔ ∃ j x, sl[j]? = some x ∧ x.used = true ∧ p = (keyN x.name, idD (i + j)) := by
  induction sl generalizing i with
  | nil => simp [prs]
  | cons y r ih =>
    constructor
    · intro h
      unfold prs at h
      split at h
      · rename_i hu
        rcases List.mem_cons.1 h with rfl | h
        · exact ⟨0, y, rfl, hu, rfl⟩
        · obtain ⟨j, x, h1, h2, h3⟩ := ih.1 h
          exact ⟨j + 1, x, by simpa using h1, h2, by rw [h3]; congr 2; omega⟩
      · obtain ⟨j, x, h1, h2, h3⟩ := ih.1 h
        exact ⟨j + 1, x, by simpa using h1, h2, by rw [h3]; congr 2; omega⟩
    · rintro ⟨j, x, h1, h2, h3⟩
      unfold prs
      cases j with
      | zero =>
        simp only [List.getElem?_cons_zero, Option.some.injEq] at h1
        subst h1
        rw [if_pos h2, h3]
        exact List.mem_cons_self
      | succ j =>
        have : p ∈ prs r (i + 1) := ih.2 ⟨j, x, by simpa using h1, h2, by rw [h3]; congr 2; omega⟩
        split
        · exact List.mem_cons_of_mem _ this
        · exact this

/-- Unlike slots have unlike names. -/
def Apart (sl : List ASlot) : Prop := ∀ (i j : Nat) (x y : ASlot), sl[i]? = some x → sl[j]? = some y → x.used = true → y.used = true → x.name = y.name → i = j
theorem Apart.tail {x : ASlot} {r : List ASlot} (h : Apart (x :: r)) : Apart r := fun i j a b ha hb hua hub e => by
  have := h (i + 1) (j + 1) a b (by simpa using ha) (by simpa using hb) hua hub e
  omega
theorem prs_apart {sl : List ASlot} (h : Apart sl) (i : Nat) : (prs sl i).Pairwise (fun p q => p.1 ≠ q.1) := by
  induction sl generalizing i with
  | nil => simp [prs]
  | cons x r ih =>
    unfold prs
    split
    · rename_i hu
      refine List.pairwise_cons.2 ⟨?_, ih h.tail _⟩
      intro p hp e
      obtain ⟨j, y, h1, h2, rfl⟩ := mem_prs.1 hp
      have := h 0 (j + 1) x y rfl (by simpa using h1) hu h2 (keyN_inj e)
      omega
    · exact ih h.tail _

theorem split_at {α : Type} {l : List α} {j : Nat} {x : α} (h : l[j]? = some x) : l = l.take j ++ x :: l.drop (j + 1) ∧ j < l.length := by
  obtain ⟨hj, e⟩ := List.getElem?_eq_some_iff.1 h
  exact ⟨by rw [← e]; simp, hj⟩
theorem set_at {α : Type} {l : List α} {j : Nat} {x : α} (y : α) (h : l[j]? = some x) : l.set j y = l.take j ++ y :: l.drop (j + 1) := by
  have hj := (List.getElem?_eq_some_iff.1 h).1
  rw [List.set_eq_take_append_cons_drop, if_pos hj]
/-- A name is put into a slot that is free. -/
theorem prs_put {sl : List ASlot} {j : Nat} {x y : ASlot} (h : sl[j]? = some x) (hx : x.used = false) (hy : y.used = true) : (prs (sl.set j y) 0).Perm ((keyN y.name, idD j) :: prs sl 0) := by
  obtain ⟨e, hj⟩ := split_at h
  have hl : (sl.take j).length = j := by rw [List.length_take]; omega
  rw [set_at y h]
  conv => rhs; rw [e]
  rw [prs_append, prs_append, hl, prs, prs, if_pos hy, if_neg (by simp [hx]), Nat.zero_add]
  exact List.perm_middle
theorem prs_new {sl : List ASlot} {y : ASlot} (hy : y.used = true) : (prs (sl ++ [y]) 0).Perm ((keyN y.name, idD sl.length) :: prs sl 0) := by
  rw [prs_append, prs, if_pos hy, prs, Nat.zero_add]
  exact List.perm_append_comm
/-- A mark changes nothing. -/
theorem prs_mark {sl : List ASlot} {j : Nat} {x y : ASlot} (h : sl[j]? = some x) (hn : y.name = x.name) (hu : y.used = x.used) : prs (sl.set j y) 0 = prs sl 0 := by
  obtain ⟨e, hj⟩ := split_at h
  have hl : (sl.take j).length = j := by rw [List.length_take]; omega
  rw [set_at y h]
  conv => rhs; rw [e]
  rw [prs_append, prs_append, prs, prs, hn, hu]
theorem apart_take {sl : List ASlot} {j : Nat} {x : ASlot} (hA : Apart sl) (h : sl[j]? = some x) (hx : x.used = true) (p : Lit × D1) (hp : p ∈ prs (sl.take j) 0 ∨ p ∈ prs (sl.drop (j + 1)) (j + 1)) : notKey (keyN x.name) p = true := by
  rw [notKey_iff (keyN_key _)]
  intro e
  rcases hp with hp | hp
  · obtain ⟨i, y, h1, h2, rfl⟩ := mem_prs.1 hp
    rw [List.getElem?_take] at h1
    split at h1
    · have := hA i j y x h1 h h2 hx (keyN_inj e)
      omega
    · cases h1
  · obtain ⟨i, y, h1, h2, rfl⟩ := mem_prs.1 hp
    rw [List.getElem?_drop] at h1
    have := hA _ j y x h1 h h2 hx (keyN_inj e)
    omega
/-- A slot is made free. -/
theorem prs_free {sl : List ASlot} {j : Nat} {x y : ASlot} (hA : Apart sl) (h : sl[j]? = some x) (hx : x.used = true) (hy : y.used = false) : prs (sl.set j y) 0 = (prs sl 0).filter (notKey (keyN x.name)) := by
  obtain ⟨e, hj⟩ := split_at h
  have hl : (sl.take j).length = j := by rw [List.length_take]; omega
  have ht := apart_take hA h hx
  rw [set_at y h]
  conv => rhs; rw [e]
  rw [prs_append, prs_append, hl, prs, prs, if_pos hx, if_neg (by simp [hy]), Nat.zero_add, List.filter_append]
  rw [List.filter_cons_of_neg]
  · rw [List.filter_eq_self.2 (fun p hp => ht p (.inl hp)), List.filter_eq_self.2 (fun p hp => ht p (.inr hp))]
  · simp only [notKey, WideAt.sameKey_self (keyN_key _)]
    decide

/-- The map of the names' numbers. -/
def MapOf (D : D1) (sl : List ASlot) : Prop := ∃ es, D = .map es ∧ es.Perm (prs sl 0)
def used (sl : List ASlot) : Nat := (prs sl 0).length
/-- The number of the name, if it is there. -/
def idOf (sl : List ASlot) (n : ByteArray) (j : Nat) : Prop := ∃ x, sl[j]? = some x ∧ x.used = true ∧ x.name = n
def noId (sl : List ASlot) (n : ByteArray) : Prop := ∀ j, ¬ idOf sl n j

theorem MapOf.size {D : D1} {sl : List ASlot} (h : MapOf D sl) : Maps.size D = used sl := by
  obtain ⟨es, rfl, hp⟩ := h
  exact hp.length_eq
theorem MapOf.has_yes {D : D1} {sl : List ASlot} (h : MapOf D sl) {n : ByteArray} {j : Nat} (hj : idOf sl n j) : Maps.has D (keyN n) = true := by
  obtain ⟨es, rfl, hp⟩ := h
  obtain ⟨x, h1, h2, rfl⟩ := hj
  rw [Maps.has_eq, List.any_eq_true]
  exact ⟨(keyN x.name, idD j), hp.mem_iff.2 (mem_prs.2 ⟨j, x, h1, h2, by rw [Nat.zero_add]⟩), WideAt.sameKey_self (keyN_key _)⟩
theorem MapOf.has_no {D : D1} {sl : List ASlot} (h : MapOf D sl) {n : ByteArray} (hn : noId sl n) : Maps.has D (keyN n) = false := by
  obtain ⟨es, rfl, hp⟩ := h
  rw [Maps.has_eq, List.any_eq_false]
  intro p hp' e
  obtain ⟨j, x, h1, h2, rfl⟩ := mem_prs.1 (hp.mem_iff.1 hp')
  exact hn j ⟨x, h1, h2, keyN_inj (WideAt.sameKey_eq e)⟩
theorem MapOf.at_yes {D : D1} {sl : List ASlot} (h : MapOf D sl) (hA : Apart sl) {n : ByteArray} {j : Nat} (hj : idOf sl n j) (z : D1) : D.atKey (keyN n) z = idD j := by
  obtain ⟨es, rfl, hp⟩ := h
  obtain ⟨x, h1, h2, rfl⟩ := hj
  exact WideAt.atKey_mem z (keyN_key _) ((hp.pairwise_iff (fun {a b} (h : a.1 ≠ b.1) => h.symm)).2 (prs_apart hA 0)) (hp.mem_iff.2 (mem_prs.2 ⟨j, x, h1, h2, by rw [Nat.zero_add]⟩))
theorem MapOf.at_no {D : D1} {sl : List ASlot} (h : MapOf D sl) {n : ByteArray} (hn : noId sl n) (z : D1) : D.atKey (keyN n) z = z := by
  obtain ⟨es, rfl, hp⟩ := h
  refine WideAt.atKey_none z ?_
  intro p hp' e
  obtain ⟨j, x, h1, h2, rfl⟩ := mem_prs.1 (hp.mem_iff.1 hp')
  exact hn j ⟨x, h1, h2, keyN_inj e⟩
theorem MapOf.put {D : D1} {sl sl' : List ASlot} (h : MapOf D sl) {n : ByteArray} {j : Nat} (hn : noId sl n) (hp' : (prs sl' 0).Perm ((keyN n, idD j) :: prs sl 0)) : MapOf (D.put (keyN n) (idD j)) sl' := by
  obtain ⟨es, rfl, hp⟩ := h
  refine ⟨_, DataW.put_eq _ _ _, ?_⟩
  have hf : es.filter (notKey (keyN n)) = es := by
    rw [List.filter_eq_self]
    intro p hp2
    rw [notKey_iff (keyN_key _)]
    intro e
    obtain ⟨i, x, h1, h2, rfl⟩ := mem_prs.1 (hp.mem_iff.1 hp2)
    exact hn i ⟨x, h1, h2, keyN_inj e⟩
  unfold putKey
  rw [hf]
  exact (WideShapes.insert_perm _ _).trans ((hp.cons _).trans hp'.symm)
theorem MapOf.del {D : D1} {sl : List ASlot} (h : MapOf D sl) (hA : Apart sl) {j : Nat} {x y : ASlot} (hx : sl[j]? = some x) (hu : x.used = true) (hy : y.used = false) : MapOf (D.del (keyN x.name)) (sl.set j y) := by
  obtain ⟨es, rfl, hp⟩ := h
  refine ⟨_, DataW.del_eq _ _, ?_⟩
  unfold delKey
  rw [prs_free hA hx hu hy]
  exact hp.filter _
theorem MapOf.mark {D : D1} {sl : List ASlot} (h : MapOf D sl) {j : Nat} {x y : ASlot} (hx : sl[j]? = some x) (hn : y.name = x.name) (hu : y.used = x.used) : MapOf D (sl.set j y) := by
  obtain ⟨es, rfl, hp⟩ := h
  exact ⟨es, rfl, by rw [prs_mark hx hn hu]; exact hp⟩
theorem MapOf.empty : MapOf (.map []) [] := ⟨[], rfl, List.Perm.refl _⟩
theorem idOf_unique {sl : List ASlot} (hA : Apart sl) {n : ByteArray} {i j : Nat} (hi : idOf sl n i) (hj : idOf sl n j) : i = j := by
  obtain ⟨x, h1, h2, rfl⟩ := hi
  obtain ⟨y, h3, h4, e⟩ := hj
  exact hA i j x y h1 h3 h2 h4 e.symm
theorem id_or (sl : List ASlot) (n : ByteArray) : (∃ j, idOf sl n j) ∨ noId sl n := by
  by_cases h : ∃ j, idOf sl n j
  · exact .inl h
  · exact .inr (fun j hj => h ⟨j, hj⟩)
theorem idOf_lt {sl : List ASlot} {n : ByteArray} {j : Nat} (h : idOf sl n j) : j < sl.length := by
  obtain ⟨x, h1, _⟩ := h
  exact (List.getElem?_eq_some_iff.1 h1).1

/-- Where a name was put, it is; all others are where they were. -/
theorem get_set {sl : List ASlot} {j : Nat} (y : ASlot) (hj : j < sl.length) (i : Nat) : (sl.set j y)[i]? = if i = j then some y else sl[i]? := by
  rw [List.getElem?_set]
  by_cases e : j = i
  · subst e; simp [hj]
  · rw [if_neg e, if_neg (fun h => e h.symm)]
theorem Apart.put {sl : List ASlot} (hA : Apart sl) {j : Nat} {y : ASlot} (hj : j < sl.length) (hn : noId sl y.name) : Apart (sl.set j y) := by
  intro i k a b ha hb hua hub e
  rw [get_set y hj] at ha hb
  split at ha <;> split at hb
  · omega
  · cases ha; exact absurd ⟨b, hb, hub, e.symm⟩ (hn k)
  · cases hb; exact absurd ⟨a, ha, hua, e⟩ (hn i)
  · exact hA i k a b ha hb hua hub e
theorem Apart.new {sl : List ASlot} (hA : Apart sl) {y : ASlot} (hn : noId sl y.name) : Apart (sl ++ [y]) := by
  intro i k a b ha hb hua hub e
  rw [List.getElem?_append] at ha hb
  split at ha <;> split at hb
  · exact hA i k a b ha hb hua hub e
  · rename_i h1 h2
    have : k - sl.length = 0 := by
      by_cases h : k - sl.length = 0
      · exact h
      · rw [List.getElem?_eq_none (by simp; omega)] at hb; cases hb
    rw [this] at hb; simp at hb; subst hb; exact absurd ⟨a, ha, hua, e⟩ (hn i)
  · rename_i h1 h2
    have : i - sl.length = 0 := by
      by_cases h : i - sl.length = 0
      · exact h
      · rw [List.getElem?_eq_none (by simp; omega)] at ha; cases ha
    rw [this] at ha; simp at ha; subst ha; exact absurd ⟨b, hb, hub, e.symm⟩ (hn k)
  · rename_i h1 h2
    have h3 : i - sl.length = 0 := by
      by_cases h : i - sl.length = 0
      · exact h
      · rw [List.getElem?_eq_none (by simp; omega)] at ha; cases ha
    have h4 : k - sl.length = 0 := by
      by_cases h : k - sl.length = 0
      · exact h
      · rw [List.getElem?_eq_none (by simp; omega)] at hb; cases hb
    omega
theorem Apart.less {sl : List ASlot} (hA : Apart sl) {j : Nat} {x y : ASlot} (hx : sl[j]? = some x) (hy : y.used = true → x.used = true ∧ y.name = x.name) : Apart (sl.set j y) := by
  have hj := (List.getElem?_eq_some_iff.1 hx).1
  intro i k a b ha hb hua hub e
  rw [get_set y hj] at ha hb
  split at ha <;> split at hb
  · omega
  · rename_i h1 h2; cases ha; subst h1; exact hA i k x b hx hb (hy hua).1 hub ((hy hua).2 ▸ e)
  · rename_i h1 h2; cases hb; subst h2; exact hA i k a x ha hx hua (hy hub).1 ((hy hub).2 ▸ e)
  · exact hA i k a b ha hb hua hub e
end Go.Proofs.YtoppfhbpmmepaaaDoor.atoms
