/- Functors: Atoms. -/
import Derived.Test.YtoppfhbpmmepaaaDoorFunc15
import Derived.Maps.RangeWalk
namespace Go.Proofs.YtoppfhbpmmepaaaDoor.functors
open Go.RowKit Go.Proofs.YtoppfhbpmmepaaaDoor.own Go.Maps
variable {S SA SF : Nat → Prop} {ta b : Nat} {la made made' lim : Int} {al al' : List atoms.ASlot} {sl sl' : List FSlot} {w0 w w' : World} {low low' : Nat} {B : Nat} {ao : Option Addr} {cap m : Nat}
/-- The atoms of the functors that were met. -/
def metP (sl : List FSlot) (left : Lit → Bool) (i : Nat) : Bool := sl.any fun x => x.used && (x.name.a == i && !left (keyN x.name))
/-- The atoms that are names of functors. -/
def namesP (sl : List FSlot) (i : Nat) : Bool := sl.any fun x => x.used && x.name.a == i
theorem metP_none {D : D1} (h : MapOf D sl) : ∀ i, metP sl (Maps.has D) i = false := by
  intro i
  unfold metP
  rw [List.any_eq_false]
  intro x hx e
  simp only [Bool.and_eq_true, Bool.not_eq_true'] at e
  obtain ⟨j, hj, rfl⟩ := List.mem_iff_getElem.1 hx
  rw [h.has_yes ⟨_, List.getElem?_eq_getElem hj, e.1, rfl⟩] at e
  cases e.2.2
theorem metP_all {left : Lit → Bool} (h : ∀ z, left z = false) : ∀ i, metP sl left i = namesP sl i := by
  intro i
  unfold metP namesP
  simp [h]
theorem metP_step {left : Lit → Bool} {j : Nat} {x : FSlot} (hx : sl[j]? = some x) (hu : x.used = true) : ∀ i, metP sl (fun z => left z && !z.sameKey (keyN x.name)) i = (metP sl left i || i == x.name.a) := by
  intro i
  rw [Bool.eq_iff_iff]
  unfold metP
  simp only [List.any_eq_true, Bool.or_eq_true, Bool.and_eq_true, Bool.not_eq_true', Bool.and_eq_false_iff, Bool.not_eq_false', beq_iff_eq]
  constructor
  · rintro ⟨y, hy, h1, h2, h3 | h3⟩
    · exact .inl ⟨y, hy, h1, h2, h3⟩
    · have := keyN_inj (WideAt.sameKey_eq h3)
      exact .inr (by rw [← h2, this])
  · rintro (⟨y, hy, h1, h2, h3⟩ | h)
    · exact ⟨y, hy, h1, h2, .inl h3⟩
    · exact ⟨x, List.mem_of_getElem? hx, hu, h.symm, .inr (WideAt.sameKey_self (keyN_key _))⟩
theorem ranges_only {P : Program} {k : TypeId} {R : Value → Option (D1 × List MemPlace)} {r n cnt : Nat} {D : D1} {left : Lit → Bool} (h : w.ranges P k R m r n D left cnt) (ho : Only S w w') (hm : ¬ S m) (hr : ¬ S r) : w'.ranges P k R m r n D left cnt := by
  have h1 := h.owns.lt
  have h2 := h.lt
  obtain ⟨es, clock, since, seen, c0, hb, F, hs, hD, hi, h3⟩ := h
  exact ⟨es, clock, since, seen, c0, (ho.block m h1 hm).trans hb, F, hs, hD, (ho.block r h2 hr).trans hi, h3⟩
/-- Atoms under way: the atoms that were met are marked. -/
structure AtomsI (SA SA' : Nat → Prop) (ta : Nat) (la made : Int) (al : List atoms.ASlot) (w0 w wr : World) : Prop where
  at_ : atoms.St SA' ta la made al w0 wr
  only : Only SA w wr
  grew : ∀ k, SA' k → Grew SA w wr k
  notr : ¬ SA' w.heap.size
  listed : (0 : Nat) < w.heap.size
  base : w0.heap.size ≤ w.heap.size
theorem AtomsI.still {SA' : Nat → Prop} {w1 w2 : World} (h : AtomsI SA SA' ta la made al w0 w w1) (ho : Only (· = w.heap.size) w1 w2) : AtomsI SA SA' ta la made al w0 w w2 := by
  have hB := h.at_.below.size
  have s1 := h.only.size
  have s2 := ho.size
  have hl := h.listed
  have hb := h.base
  refine ⟨h.at_.still ho (fun k hk e => h.notr (e ▸ hk)) (fun e => by omega) (ho.below hB (fun k _ e => by omega)), h.only.trans ho (fun k hk e => by omega), fun k hk => ?_, h.notr, hl, hb⟩
  rcases h.grew k hk with e | e
  · exact .inl e
  · exact .inr ⟨e.1, by omega⟩
theorem AtomsI.next {SA' : Nat → Prop} {w1 w2 : World} (h : AtomsI SA SA' ta la made al w0 w w1) (h1 : w.heap.size < w1.heap.size) (h2 : atoms.St (Grew SA' w1 w2) ta la made' al' w0 w2) (ho : Only SA' w1 w2) : AtomsI SA (Grew SA' w1 w2) ta la made' al' w0 w w2 := by
  have s1 := h.only.size
  have s2 := ho.size
  refine ⟨h2, h.only.trans ho (fun k hk e => ?_), fun k hk => ?_, fun e => ?_, h.listed, h.base⟩
  · rcases h.grew k e with e | e
    · exact e
    · omega
  · rcases hk with hk | hk
    · rcases h.grew k hk with e | e
      · exact .inl e
      · exact .inr ⟨e.1, by omega⟩
    · exact .inr ⟨by omega, by omega⟩
  · rcases e with e | e
    · exact h.notr e
    · omega
theorem AtomsI.done {SA' : Nat → Prop} {w1 : World} (h : FSt SA SF ta b la made al lim low sl w0 w) (h1 : AtomsI SA SA' ta la made' al' w0 w w1) : Moved SA SF ta b la made' al' lim low sl w0 w w1 := by
  refine ⟨SA', SF, ⟨h1.at_, h.fn.only h1.only h.apart, fun k hk e => ?_, h.free⟩, ?_, h1.only.mono (fun _ _ e => .inl e)⟩
  · rcases h1.grew k e with e | e
    · exact h.apart k hk e
    · have := (h.fn.lt hk).2; omega
  · rintro k (hk | hk)
    · rcases h1.grew k hk with e | e
      · exact .inl (.inl e)
      · exact .inr e
    · exact .inl (.inr hk)
end Go.Proofs.YtoppfhbpmmepaaaDoor.functors
