
/- AtomKeeps, its plain part: which names keep their numbers. -/
import Derived.Test.YtoppfhbpmmepaaaDoorAtom11
namespace Go.Proofs.YtoppfhbpmmepaaaDoor.atoms
open Go.RowKit Go.Proofs.YtoppfhbpmmepaaaDoor.own Go.Maps

/-- What is there stays, and stays marked. -/
def Follows (sl sl' : List ASlot) : Prop := ∀ (j : Nat) (x : ASlot), sl[j]? = some x → x.used = true → ∃ x', sl'[j]? = some x' ∧ x'.used = true ∧ x'.name = x.name ∧ (x.mark = true → x'.mark = true)
theorem Follows.refl (sl : List ASlot) : Follows sl sl := fun j x hx hu => ⟨x, hx, hu, rfl, id⟩
theorem follows_intern (lim made : Int) (sl : List ASlot) (n : ByteArray) : Follows sl (internF lim made sl n).sl := by
  unfold internF
  split
  · exact Follows.refl sl
  · split
    · exact Follows.refl sl
    · split
      · intro j x hx hu
        have hl := lowestF_is sl
        have hj := (List.getElem?_eq_some_iff.1 hx).1
        refine ⟨x, ?_, hu, rfl, id⟩
        dsimp only
        unfold putS
        split
        · rename_i hlt
          rw [get_set _ hlt]
          split
          · rename_i e
            obtain ⟨y, hy, hyu⟩ := hl.2.2 hlt
            rw [← e, hx] at hy
            cases hy
            rw [hu] at hyu
            cases hyu
          · exact hx
        · rw [List.getElem?_append_left hj]
          exact hx
      · exact Follows.refl sl
theorem follows_mark (sl : List ASlot) (i : Int) : Follows sl (markF sl i) := by
  unfold markF
  split
  · rename_i y hy
    obtain ⟨h0, h1, h2⟩ := slotAt_some hy
    have hj := (List.getElem?_eq_some_iff.1 h1).1
    intro j x hx hu
    unfold markS
    rw [get_set _ hj]
    split
    · rename_i e; subst e; rw [h1] at hx; cases hx; exact ⟨_, rfl, hu, rfl, fun _ => rfl⟩
    · exact ⟨x, hx, hu, rfl, id⟩
  · exact Follows.refl sl
theorem marked_is {sl : List ASlot} {j : Nat} {x : ASlot} (hx : sl[j]? = some x) (hu : x.used = true) : ∃ x', (markF sl (j : Int))[j]? = some x' ∧ x'.used = true ∧ x'.name = x.name ∧ x'.mark = true := by
  have hs : slotAt sl (j : Int) = some x := by
    unfold slotAt
    rw [if_pos (by omega), Int.toNat_natCast, hx, Option.filter_some, if_pos (by simpa using hu)]
  have hj := (List.getElem?_eq_some_iff.1 hx).1
  unfold markF
  rw [hs]
  dsimp only
  unfold markS
  rw [Int.toNat_natCast, get_set _ hj, if_pos rfl]
  exact ⟨_, rfl, hu, rfl, rfl⟩
theorem dense_mark {made : Int} {sl : List ASlot} (h : Dense made sl) (i : Int) : Dense made (markF sl i) := by
  unfold markF
  split
  · rename_i y hy
    obtain ⟨h0, h1, h2⟩ := slotAt_some hy
    have hj := (List.getElem?_eq_some_iff.1 h1).1
    unfold markS
    refine ⟨?_, by rw [List.length_set]; exact h.len⟩
    intro j x hjl hx
    rw [List.length_set] at hjl
    rw [get_set _ hj] at hx
    split at hx
    · cases hx; exact h2
    · exact h.all j x hjl hx
  · exact h

/-- The name of slot j is n; where it must be, it is marked. -/
def Sits (sl : List ASlot) (n : ByteArray) (id : Int) (mk : Bool) : Prop := ∃ (j : Nat) (x : ASlot), id = (j : Int) ∧ sl[j]? = some x ∧ x.used = true ∧ x.name = n ∧ (mk = true → x.mark = true)
theorem Sits.follow {sl sl' : List ASlot} {n : ByteArray} {id : Int} {mk : Bool} (h : Sits sl n id mk) (hf : Follows sl sl') : Sits sl' n id mk := by
  obtain ⟨j, x, h1, h2, h3, h4, h5⟩ := h
  obtain ⟨x', g1, g2, g3, g4⟩ := hf j x h2 h3
  exact ⟨j, x', h1, g1, g2, g3.trans h4, fun e => g4 (h5 e)⟩
/-- All names so far sit where they were told to. -/
def InvA (ns : List ByteArray) (ids : List Int) (sl : List ASlot) : Prop := ∀ (i : Nat) (n : ByteArray) (id : Int), ns[i]? = some n → ids[i]? = some id → n.size ≤ 64 → Sits sl n id (i % 2 == 0)
theorem InvA.follow {ns : List ByteArray} {ids : List Int} {sl sl' : List ASlot} (h : InvA ns ids sl) (hf : Follows sl sl') : InvA ns ids sl' := fun i n id h1 h2 h3 => (h i n id h1 h2 h3).follow hf
theorem InvA.add {ns : List ByteArray} {ids : List Int} {sl : List ASlot} {n : ByteArray} {id : Int} (h : InvA ns ids sl) (hn : ns[ids.length]? = some n) (hi : n.size ≤ 64 → Sits sl n id (ids.length % 2 == 0)) : InvA ns (ids ++ [id]) sl := by
  intro i m d h1 h2 h3
  rw [List.getElem?_append] at h2
  split at h2
  · exact h i m d h1 h2 h3
  · rcases hq : i - ids.length with _ | q
    · rw [hq] at h2
      simp at h2
      have : i = ids.length := by omega
      subst this
      rw [hn] at h1
      cases h1
      subst h2
      exact hi h3
    · rw [hq] at h2; simp at h2
/-- Behind a sweep those at even places still sit. -/
def InvB (ns : List ByteArray) (ids : List Int) (sl : List ASlot) : Prop := ∀ (i : Nat) (n : ByteArray) (id : Int), i % 2 = 0 → ns[i]? = some n → ids[i]? = some id → n.size ≤ 64 → ∃ j : Nat, id = (j : Int) ∧ idOf sl n j
theorem InvA.sweep {ns : List ByteArray} {ids : List Int} {sl : List ASlot} (h : InvA ns ids sl) : InvB ns ids (sweepTo sl sl.length) := by
  intro i n id h0 h1 h2 h3
  obtain ⟨j, x, g1, g2, g3, g4, g5⟩ := h i n id h1 h2 h3
  have hj := (List.getElem?_eq_some_iff.1 g2).1
  have hm := g5 (by simpa using h0)
  refine ⟨j, g1, ⟨x.name, x.used, false⟩, ?_, g3, g4⟩
  rw [sweepTo_get g2, if_pos hj]
  unfold swp
  rw [if_neg (by rw [hm]; simp)]
theorem InvB.follow {ns : List ByteArray} {ids : List Int} {sl sl' : List ASlot} (h : InvB ns ids sl) (hf : Follows sl sl') : InvB ns ids sl' := by
  intro i n id h0 h1 h2 h3
  obtain ⟨j, g1, x, g2, g3, g4⟩ := h i n id h0 h1 h2 h3
  obtain ⟨x', k1, k2, k3, _⟩ := hf j x g2 g3
  exact ⟨j, g1, x', k1, k2, k3.trans g4⟩
/-- Unlike names have unlike numbers, and like ones like ones. -/
def InvC (ns : List ByteArray) (ids : List Int) : Prop := ∀ (i k : Nat) (n m : ByteArray) (a b : Int), ns[i]? = some n → ns[k]? = some m → ids[i]? = some a → ids[k]? = some b → n.size ≤ 64 → m.size ≤ 64 → (a = b ↔ n = m)
theorem InvA.apart {ns : List ByteArray} {ids : List Int} {sl : List ASlot} (h : InvA ns ids sl) (hA : Apart sl) : InvC ns ids := by
  intro i k n m a b h1 h2 h3 h4 h5 h6
  obtain ⟨j, x, g1, g2, g3, g4, _⟩ := h i n a h1 h3 h5
  obtain ⟨j', x', k1, k2, k3, k4, _⟩ := h k m b h2 h4 h6
  subst g1 k1 g4 k4
  constructor
  · intro e
    have : j = j' := by omega
    subst this
    rw [g2] at k2
    cases k2
    rfl
  · intro e
    have := hA j j' x x' g2 k2 g3 k3 e
    omega
theorem firstS_apart : Apart (firstS 15) := by
  intro i j x y hx hy _ _ e
  obtain ⟨hi, rfl⟩ := firstS_some hx
  obtain ⟨hj, rfl⟩ := firstS_some hy
  exact resB_inj hi hj e
theorem Tab.apart {S : Nat → Prop} {B b : Nat} {lim made : Int} {sl : List ASlot} {w : World} (h : Tab S B b lim made sl w) : Apart sl := by
  cases h with
  | bare h hm hs => subst hs; exact firstS_apart
  | full low h _ _ _ => obtain ⟨ao, cap, m, hc⟩ := h; exact hc.apart
theorem nameS_of {sl : List ASlot} {n : ByteArray} {j : Nat} (h : idOf sl n j) : nameS sl (j : Int) = n ∧ errS sl (j : Int) = 0 := by
  obtain ⟨x, hx, hu, hn⟩ := h
  have hs : slotAt sl (j : Int) = some x := by
    unfold slotAt
    rw [if_pos (by omega), Int.toNat_natCast, hx, Option.filter_some, if_pos (by simpa using hu)]
  unfold nameS errS
  rw [hs]
  exact ⟨hn, rfl⟩
theorem findI_of {sl : List ASlot} {n : ByteArray} {j : Nat} (hA : Apart sl) (h : idOf sl n j) : findI sl n = (j : Int) ∧ findB sl n = true := by
  cases hf : findF sl n with
  | none => exact absurd h (findF_none hf j)
  | some j' =>
    have := idOf_unique hA h (findF_some hf)
    subst this
    unfold findI findB
    rw [hf]
    exact ⟨rfl, rfl⟩

def encI (x : Int) : List Value := [.int .i64 x]
theorem liesI : Lies encI 1 := ⟨fun _ => rfl, by intro x u hu; simp [encI] at hu; subst hu; rfl, by omega⟩
theorem infoI : (Tryd.prog.info? 3).map (fun i => (i.zero, i.size, i.bytes)) = some (some (.int .i64 0), 1, 8) := by kernel_rfl
abbrev IdsP (B : Nat) (ao : Option Addr) (cap : Nat) (ids : List Int) (w : World) : Prop := RowOf encI 1 3 B ao cap ids w
/-- The list of numbers is none of the table's. -/
def IdsOut (S : Nat → Prop) (ao : Option Addr) : Prop := ∀ g, ao = some g → ¬ S g.block
theorem IdsOut.grew {S : Nat → Prop} {B : Nat} {ao : Option Addr} {cap : Nat} {ids : List Int} {w w' : World} (h : IdsOut S ao) (hr : IdsP B ao cap ids w) : IdsOut (Grew S w w') ao := fun g hg => by
  rintro (e | e)
  · exact h g hg e
  · have := (hr.head g hg).2.2; omega
theorem IdsOut.append {S : Nat → Prop} {ao ao' : Option Addr} {w : World} (h : IdsOut S ao) (hn : NewRow w.heap.size ao ao') (hS : ∀ k, S k → k < w.heap.size) : IdsOut S ao' := fun g hg e => by
  rcases hn g hg with h1 | h1
  · exact h g h1 e
  · have := hS _ e; omega

def KeepA (b : Nat) (ns : List ByteArray) (ao : Option Addr) (cap : Nat) (ids : List Int) (w0 w : World) : Prop := ∃ S made sl, St S b 16384 made sl w0 w ∧ Dense made sl ∧ 0 ≤ made ∧ made ≤ (ids.length : Int) ∧ IdsP w0.heap.size ao cap ids w ∧ IdsOut S ao ∧ InvA ns ids sl
def KeepB (b : Nat) (ns : List ByteArray) (ao : Option Addr) (cap : Nat) (ids : List Int) (most : Nat) (w0 w : World) : Prop := ∃ S made sl, St S b 16384 made sl w0 w ∧ 0 ≤ made ∧ made ≤ (most : Int) ∧ IdsP w0.heap.size ao cap ids w ∧ IdsOut S ao ∧ InvB ns ids sl
end Go.Proofs.YtoppfhbpmmepaaaDoor.atoms
