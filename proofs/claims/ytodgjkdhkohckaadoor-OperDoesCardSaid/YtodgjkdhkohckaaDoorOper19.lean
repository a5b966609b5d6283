/- Operators: all of a table, in order. -/
import Derived.Shelf.SlSortCmp.NoneTotal
import Derived.Test.YtodgjkdhkohckaaDoorOper18
namespace Go.Proofs.YtodgjkdhkohckaaDoor.opers
open Go.RowKit Go.Proofs.YtodgjkdhkohckaaDoor.own Go.Maps Go.Sort Go.Shelf
theorem lieO : Lies encO 3 := ⟨fun x => rfl, fun x v hv => by simp [encO] at hv; rcases hv with rfl | rfl | rfl <;> rfl, by decide⟩
/-- These operators lie in a row, at or behind base. -/
def RowO (base : Nat) (ao : Option Addr) (xs : List Op3) (W : World) : Prop := ∀ (i : Nat) (x : Op3), xs[i]? = some x → ∃ g, ao = some ⟨g, 0, none⟩ ∧ base ≤ g ∧ g < W.heap.size ∧ W.cell? ⟨g, i * 3, none⟩ = some (.int .i64 x.p) ∧ W.cell? ⟨g, i * 3 + 1, none⟩ = some (.int .i64 x.k) ∧ W.cell? ⟨g, i * 3 + 2, none⟩ = some (.string x.n)
theorem RowO.only {base : Nat} {ao : Option Addr} {xs : List Op3} {W W' : World} {S : Nat → Prop} (h : RowO base ao xs W) (ho : Only S W W') (hS : ∀ q, base ≤ q → q < W.heap.size → ¬ S q) : RowO base ao xs W' := fun i x hx => by
  obtain ⟨g, h1, h2, h3, c0, c1, c2⟩ := h i x hx
  exact ⟨g, h1, h2, Nat.lt_of_lt_of_le h3 ho.size, (ho.cell (p := ⟨g, _, none⟩) h3 (hS g h2 h3)).trans c0, (ho.cell (p := ⟨g, _, none⟩) h3 (hS g h2 h3)).trans c1, (ho.cell (p := ⟨g, _, none⟩) h3 (hS g h2 h3)).trans c2⟩
theorem holdsO {B g cap : Nat} {d : Array Op3} {W : World} (h : RowOf encO 3 32 B (some ⟨g, 0, none⟩) cap d.toList W) : HoldsK encO 3 W g 0 d := by
  intro t ht
  rw [size_flatK] at ht
  have hi : t / 3 < d.size := by omega
  have hx : d.toList[t / 3]? = some d[t / 3]! := by
    rw [Array.getElem?_toList, getElem!_pos d (t / 3) hi]
    exact Array.getElem?_eq_getElem hi
  obtain ⟨g', e, _, hc⟩ := h.at lieO (t / 3) _ hx
  cases e
  obtain ⟨c1, c2⟩ := hc (t % 3) (Nat.mod_lt _ (by decide))
  have e1 : t / 3 * 3 + t % 3 = t := by omega
  rw [e1] at c1 c2
  rw [Nat.zero_add, get_flatK _ _ _ _ ht]
  refine ⟨?_, c2⟩
  rw [c1]
  have hm : t % 3 < 3 := Nat.mod_lt _ (by decide)
  generalize t % 3 = r at *
  generalize d[t / 3]! = x
  match r, hm with
  | 0, _ => rfl
  | 1, _ => rfl
  | 2, _ => rfl
theorem rowO_of_holds {base g : Nat} {d : Array Op3} {W : World} (h : HoldsK encO 3 W g 0 d) (h1 : base ≤ g) (h2 : g < W.heap.size) : RowO base (some ⟨g, 0, none⟩) d.toList W := fun i x hx => by
  have hi : i < d.size := by
    have := (List.getElem?_eq_some_iff.1 hx).1
    simpa using this
  have hd : d[i]! = x := by
    rw [Array.getElem?_toList, Array.getElem?_eq_getElem hi] at hx
    rw [getElem!_pos d i hi]
    exact Option.some.inj hx
  have c0 := (h.cell hi (show 0 < 3 by decide)).1
  have c1 := (h.cell hi (show 1 < 3 by decide)).1
  have c2 := (h.cell hi (show 2 < 3 by decide)).1
  rw [hd, Nat.zero_add] at c0 c1 c2
  exact ⟨g, rfl, h1, h2, c0, c1, c2⟩
theorem Only.sorted (w : World) (blk n : Nat) (d : Array Op3) (os : Array Obj) : Only (fun q => q = blk) w (sortWorldK encO 3 w blk 0 n d os) := by
  refine ⟨rfl, rfl, rfl, ?_, fun k hk hne => ?_⟩
  · unfold sortWorldK grow putRowK putRow mapBlock Sort.ahead
    simp
  · unfold sortWorldK grow putRowK putRow mapBlock Sort.ahead
    simp only
    rw [Array.getElem?_append_left (by simpa using hk), Array.getElem?_modify, if_neg (fun e => hne e.symm)]
/-- What All answers of a table: all of both maps, in order. -/
def AllIs (Di Dp : D1) (xs : List Op3) : Prop := (∃ xi xp, ValsOf Di xi ∧ ValsOf Dp xp ∧ (xi ++ xp).Perm xs) ∧ xs.Pairwise (fun x y => ltO y x = false)
theorem sorted_pair {d : Array Op3} (h : SortedIn ltO 0 d.size d) : d.toList.Pairwise (fun x y => ltO y x = false) := by
  rw [List.pairwise_iff_getElem]
  intro i j hi hj hij
  have := h i j (Nat.zero_le _) hij (by simpa using hj)
  rw [getElem!_pos d i (by simpa using hi), getElem!_pos d j (by simpa using hj)] at this
  simpa using this
theorem sort_any {base : Nat} {ao : Option Addr} {cap : Nat} {xs : List Op3} {w : World} (h : RowOf encO 3 32 base ao cap xs w) (hn : xs.length ≤ 1000000) :
    Calls Tryd.prog 34 #[.slice ao xs.length cap, .func (.func 35) #[] #[]] w fun e w' => e = .returned (.tuple #[]) ∧ ∃ ys, xs.Perm ys ∧ ys.Pairwise (fun x y => ltO y x = false) ∧ RowO base ao ys w' ∧ Only (fun q => ∃ g, ao = some g ∧ q = g.block) w w' := by
  cases ao with
  | none =>
    have h0 : xs = [] := by
      cases xs with
      | nil => rfl
      | cons a l =>
        obtain ⟨g, e, _⟩ := h.at lieO 0 a rfl
        cases e
    subst h0
    refine (AnyF.slices_SortFunc_none Tryd.laysSort none cap (.func (.func 35) #[] #[]) w).mono ?_
    rintro e w' ⟨rfl, rfl⟩
    refine ⟨rfl, [], List.Perm.refl _, List.Pairwise.nil, ?_, Only.refl _ _⟩
    intro i x hx
    simp at hx
  | some a =>
    obtain ⟨e1, hb, hlt⟩ := h.head a rfl
    obtain ⟨g, hg⟩ : ∃ g, a.block = g := ⟨_, rfl⟩
    rw [hg] at e1 hb hlt
    subst e1
    have hH : HoldsK encO 3 w g 0 xs.toArray := holdsO (B := base) (cap := cap) (by simpa using h)
    have hc := AnyQ.slices_SortFunc Tryd.laysSort 3 (fun w => Tryd.isAgg32 w) (fun w => Tryd.sizeOf32 w) encO (fun _ => rfl) (fun x v hv => lieO.one x v hv) cfO cfO_swo 35 #[] g 0 cap xs.toArray w (fun _ _ => rfl) (cmpLays g 0 _ w) hH hlt (by simp; omega)
    rw [show xs.toArray.size = xs.length from List.size_toArray] at hc
    refine Calls.mono hc ?_
    rintro e w' ⟨rfl, d', n, os, hp, hs, rfl⟩
    have hsz : d'.size = xs.length := hp.1.trans (List.size_toArray)
    refine ⟨rfl, d'.toList, ?_, ?_, ?_, ?_⟩
    · have h3 := hp.2.2
      have q1 : (xs.toArray.extract 0 xs.length).toList = xs := by simp
      have q2 : (d'.extract 0 xs.length).toList = d'.toList := by rw [← hsz]; simp
      rw [q1, q2] at h3
      exact h3.symm
    · rw [← hsz] at hs
      exact sorted_pair hs
    · have hh := SWK.holds (⟨n, os, rfl⟩ : SWK encO 3 w g 0 d' _) hlt hH (by rw [hsz]; simp)
      exact rowO_of_holds hh hb (Nat.lt_of_lt_of_le hlt (Only.sorted w g n d' os).size)
    · exact (Only.sorted w g n d' os).mono (fun k _ e => ⟨_, rfl, e⟩)
end Go.Proofs.YtodgjkdhkohckaaDoor.opers
