/- Selection by keys: the table's content and the reference's, plain. -/
import Derived.Test.YthgjedcelcanbaaIdx33
namespace Go.Proofs.Ythgjedcelcanbaa.idx
set_option maxRecDepth 100000
open Go.RowKit Go.Proofs.Ythgjedcelcanbaa.own Go.Lib Go.Maps Go.WideMaps
def prP (p : Pr) : Int × Ky := (p.id, plainF p.key)
def enP (e : En) : Int × Ky := (e.id, e.key)
/-- The reference's list holds what the table holds, its keys as they were handed in. -/
def Rl (s : St) (M : List Pr) : Prop := M.map prP = s.L.map enP
theorem meet_plain (a k : Ky) : meetB (plainF a) k = meetB a k := by
  unfold plainF
  split
  · rename_i h
    unfold meetB
    rw [h]
    rfl
  · rfl
theorem Rl.len {s : St} {M : List Pr} (h : Rl s M) : M.length = s.L.length := by
  have := congrArg List.length h
  simpa using this
theorem met_pr (k : Ky) (M : List Pr) : (metP k M).map (·.id) = ((M.map prP).filter (fun p => meetB p.2 k)).map (·.1) := by
  unfold metP
  rw [List.filter_map, List.map_map]
  have : (fun p : Int × Ky => meetB p.2 k) ∘ prP = fun e : Pr => meetB e.key k := by funext e; exact meet_plain e.key k
  rw [this]
  rfl
theorem met_en (k : Ky) (L : List En) : (metF k L).map (·.id) = ((L.map enP).filter (fun p => meetB p.2 k)).map (·.1) := by
  unfold metF
  rw [List.filter_map, List.map_map]
  rfl
theorem Rl.met {s : St} {M : List Pr} (h : Rl s M) (k : Ky) : (metF k s.L).map (·.id) = (metP k M).map (·.id) := by
  rw [met_pr, met_en, h]
/-- What Head and Next answer. -/
def ansF (o : Option En) : Value := .tuple #[.int .i64 (o.getD zE).id, .bool o.isSome]
theorem ans_eq {o : Option En} {q : Option Pr} (h : o.map (·.id) = q.map (·.id)) : ansF o = ansP q := by
  unfold ansF ansP
  cases o <;> cases q <;> simp_all <;> rfl
theorem find_head {α : Type} (p : α → Bool) (l : List α) : l.find? p = (l.filter p)[0]? := by
  rw [← List.head?_eq_getElem?, List.head?_filter]
theorem find_ids {p : En → Bool} {q : Pr → Bool} {L : List En} {M : List Pr} (h : (L.filter p).map (·.id) = (M.filter q).map (·.id)) : (L.find? p).map (·.id) = (M.find? q).map (·.id) := by
  rw [find_head, find_head, ← List.getElem?_map, ← List.getElem?_map, h]
theorem Rl.head {s : St} {M : List Pr} (h : Rl s M) (hb : Between s.L s.lo s.hi) (k : Ky) : ansF (firstF s.lo k s.L) = ansP (fromP 0 k M) := by
  apply ans_eq
  rw [first_low hb]
  unfold fromP
  rw [List.drop_zero, find_head, ← List.getElem?_map, ← List.getElem?_map, h.met k]
  rfl
theorem Rl.at {s : St} {M : List Pr} (h : Rl s M) (i : Int) : s.L.findIdx? (fun e => e.id == i) = atF i M := by
  unfold atF
  have h1 : (M.map prP).findIdx? (fun p => p.1 == i) = M.findIdx? (fun e => e.id == i) := by rw [List.findIdx?_map]; rfl
  have h2 : (s.L.map enP).findIdx? (fun p => p.1 == i) = s.L.findIdx? (fun e => e.id == i) := by rw [List.findIdx?_map]; rfl
  rw [← h1, ← h2, h]
theorem idF_at (i : Int) (L : List En) : (idF i L).isSome = (L.findIdx? (fun e => e.id == i)).isSome := by
  unfold idF
  rw [Bool.eq_iff_iff, List.findIdx?_isSome, List.find?_isSome, List.any_eq_true]
theorem Rl.is {s : St} {M : List Pr} (h : Rl s M) (i : Int) : (idF i s.L).isSome = (atF i M).isSome := by rw [idF_at, h.at]
theorem idF_split {i : Int} {L : List En} {j : Nat} (h : L.findIdx? (fun e => e.id == i) = some j) : ∃ e, idF i L = some e ∧ L = L.take j ++ e :: L.drop (j + 1) ∧ e.id = i ∧ ∀ x ∈ L.take j, x.id ≠ i := by
  rw [List.findIdx?_eq_some_iff_getElem] at h
  obtain ⟨hj, hp, hlt⟩ := h
  have hs : L = L.take j ++ L[j] :: L.drop (j + 1) := by rw [List.getElem_cons_drop, List.take_append_drop]
  have ht : ∀ x ∈ L.take j, x.id ≠ i := fun x hx => by
    obtain ⟨t, ht, rfl⟩ := List.mem_iff_getElem.1 hx
    rw [List.length_take] at ht
    have := hlt t (by omega)
    simpa [List.getElem_take] using this
  refine ⟨L[j], ?_, hs, by simpa using hp, ht⟩
  unfold idF
  rw [List.find?_eq_some_iff_getElem]
  exact ⟨hp, j, hj, rfl, fun t h1 => by simpa using hlt t h1⟩
theorem first_behind {L A C : List En} {e : En} {k : Ky} (hL : L = A ++ e :: C) (hr : Rises L) : firstF (e.pl + 1) k L = C.find? (fun x => meetB x.key k) := by
  subst hL
  unfold firstF
  have h1 := (List.pairwise_append.1 hr)
  rw [List.find?_append, List.find?_eq_none.2 (fun x hx => by have := h1.2.2 x hx e (by simp); simp; omega), List.find?_cons_of_neg (by simp; omega)]
  simp only [Option.none_or]
  apply find_congr
  intro x hx
  have := (List.pairwise_cons.1 h1.2.1).1 x hx
  rw [decide_eq_true (by omega : e.pl + 1 ≤ x.pl), Bool.true_and]
theorem Rl.next {s : St} {M : List Pr} (h : Rl s M) (hb : Between s.L s.lo s.hi) (i : Int) (k : Ky) : ansF (nextF i k s.L) = ansP (nextP i k M) := by
  apply ans_eq
  unfold nextF nextP
  cases ha : atF i M with
  | none =>
    have hn : idF i s.L = none := by
      have := h.is i
      rw [ha] at this
      simpa using this
    rw [hn]
    rfl
  | some j =>
    have hj := h.at i
    rw [ha] at hj
    obtain ⟨e, he, hL, _, _⟩ := idF_split hj
    rw [he]
    show (firstF (e.pl + 1) k s.L).map (·.id) = (fromP (j + 1) k M).map (·.id)
    rw [first_behind hL hb.rises]
    unfold fromP
    apply find_ids
    have h1 := met_pr k (M.drop (j + 1))
    have h2 := met_en k (s.L.drop (j + 1))
    unfold metP at h1
    unfold metF at h2
    rw [h1, h2, List.map_drop, List.map_drop, h]
/-- The reference's Add and Drop, plain. -/
def addR (M : List Pr) (i : Int) (k : Ky) (f : Bool) : Int × List Pr :=
  if (atF i M).isSome = true then (5, M) else if 4096 ≤ M.length then (2, M) else (0, if f = true then ⟨i, k⟩ :: M else M ++ [⟨i, k⟩])
def dropR (M : List Pr) (i : Int) : Int × List Pr := match atF i M with
  | none => (4, M)
  | some j => (0, M.take j ++ M.drop (j + 1))
theorem Rl.add {s : St} {M : List Pr} (h : Rl s M) (i : Int) (k : Ky) (f : Bool) : (addS s i k f).1 = (addR M i k f).1 ∧ Rl (addS s i k f).2 (addR M i k f).2 := by
  unfold addS addR
  rw [h.is i, h.len]
  split
  · exact ⟨rfl, h⟩
  · split
    · exact ⟨rfl, h⟩
    · refine ⟨rfl, ?_⟩
      unfold Rl
      show (if f = true then ⟨i, k⟩ :: M else M ++ [⟨i, k⟩]).map prP = (insF f (newE i k f s.lo s.hi) s.L).map enP
      unfold insF
      cases f
      · simp only [Bool.false_eq_true, if_false, List.map_append]
        rw [h]
        rfl
      · simp only [if_true, List.map_cons]
        rw [h]
        rfl
theorem Rl.drop {s : St} {M : List Pr} (h : Rl s M) (ha : Alone s.L) (i : Int) : (dropS s i).1 = (dropR M i).1 ∧ Rl (dropS s i).2 (dropR M i).2 := by
  unfold dropS dropR
  rw [h.is i]
  cases hj : atF i M with
  | none => exact ⟨rfl, h⟩
  | some j =>
    refine ⟨rfl, ?_⟩
    have hj' := h.at i
    rw [hj] at hj'
    obtain ⟨e, he, hL, hei, _⟩ := idF_split hj'
    have ho : outF i s.L = s.L.take j ++ s.L.drop (j + 1) := by
      have hal := ha
      rw [hL] at hal
      have h2 := alone_out hal
      rw [← hL, hei] at h2
      exact h2
    unfold Rl
    show (M.take j ++ M.drop (j + 1)).map prP = (outF i s.L).map enP
    rw [ho, List.map_append, List.map_append, List.map_take, List.map_drop, List.map_take, List.map_drop, h]
end Go.Proofs.Ythgjedcelcanbaa.idx
