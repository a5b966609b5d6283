/- Functors: where a functor sits, and that it stays there (plain). -/
import Derived.Test.YtoppfhbpmmepaaaDoorFunc22
import Derived.Test.YtoppfhbpmmepaaaDoorAtom12
namespace Go.Proofs.YtoppfhbpmmepaaaDoor.functors
open Go.RowKit Go.Proofs.YtoppfhbpmmepaaaDoor.own Go.Maps
variable {la made made' lim : Int} {al al' : List atoms.ASlot} {sl sl' : List FSlot}
/-- What is there stays, and stays marked. -/
def Follows (sl sl' : List FSlot) : Prop := ∀ (j : Nat) (x : FSlot), sl[j]? = some x → x.used = true → ∃ x', sl'[j]? = some x' ∧ x'.used = true ∧ x'.name = x.name ∧ (x.mark = true → x'.mark = true)
theorem Follows.refl (sl : List FSlot) : Follows sl sl := fun _ x hx hu => ⟨x, hx, hu, rfl, id⟩
theorem lowF_lt {j : Nat} {x : FSlot} (hx : sl[j]? = some x) (hu : x.used = true) : lowF sl ≠ j := by
  intro e
  have hj := (List.getElem?_eq_some_iff.1 hx).1
  unfold lowF at e
  have := List.findIdx_getElem (xs := sl) (p := fun x => !x.used) (w := by rw [e]; exact hj)
  simp only [e, (List.getElem?_eq_some_iff.1 hx).2, hu] at this
  cases this
theorem lowF_le (sl : List FSlot) : lowF sl ≤ sl.length := List.findIdx_le_length
theorem putS_at {j : Nat} {f : FKey} (h : j < sl.length) : putS sl j f = sl.set j ⟨f, true, false⟩ := by simp [putS, h]
theorem putS_end {f : FKey} : putS sl sl.length f = sl ++ [⟨f, true, false⟩] := by simp [putS]
theorem putS_get (f : FKey) : (putS sl (lowF sl) f)[lowF sl]? = some ⟨f, true, false⟩ := by
  by_cases h : lowF sl < sl.length
  · rw [putS_at h, get_set _ h, if_pos rfl]
  · have e : lowF sl = sl.length := by have := lowF_le sl; omega
    rw [e, putS_end]
    simp
theorem follows_putS (f : FKey) : Follows sl (putS sl (lowF sl) f) := by
  intro j x hx hu
  have hne := lowF_lt hx hu
  have hj := (List.getElem?_eq_some_iff.1 hx).1
  refine ⟨x, ?_, hu, rfl, id⟩
  by_cases h : lowF sl < sl.length
  · rw [putS_at h, get_set _ h, if_neg (by omega)]
    exact hx
  · have e : lowF sl = sl.length := by have := lowF_le sl; omega
    rw [e, putS_end, List.getElem?_append_left hj]
    exact hx
theorem follows_put (n : ByteArray) (k : Int) : Follows sl (putR la made al lim sl n k).sl := by
  unfold putR
  split
  · split
    · split
      · exact Follows.refl sl
      · split
        · exact Follows.refl sl
        · exact follows_putS _
    · exact Follows.refl sl
  · exact Follows.refl sl
theorem put_al (n : ByteArray) (k : Int) : (putR la made al lim sl n k).al = al ∨ (putR la made al lim sl n k).al = (atoms.internF la made al n).sl := by
  unfold putR
  split
  · split
    · split
      · exact .inr rfl
      · split
        · exact .inr rfl
        · exact .inr rfl
    · exact .inr rfl
  · exact .inl rfl
theorem afollows_put (n : ByteArray) (k : Int) : atoms.Follows al (putR la made al lim sl n k).al := by
  rcases put_al (la := la) (made := made) (al := al) (lim := lim) (sl := sl) n k with h | h
  · rw [h]; exact atoms.Follows.refl al
  · rw [h]; exact atoms.follows_intern la made al n
theorem put_made (n : ByteArray) (k : Int) : made ≤ (putR la made al lim sl n k).made ∧ (putR la made al lim sl n k).made ≤ made + 1 := by
  have hm := atoms.internF_made la made al n
  unfold putR
  split
  · split
    · split
      · exact hm
      · split
        · exact hm
        · exact hm
    · exact hm
  · exact ⟨Int.le_refl _, by show made ≤ made + 1; omega⟩
/-- An atom that was interned is there. -/
theorem intern_sits (n : ByteArray) (h : (atoms.internF la made al n).err = 0) : ∃ j : Nat, (atoms.internF la made al n).id = j ∧ atoms.idOf (atoms.internF la made al n).sl n j := by
  unfold atoms.internF at h ⊢
  split
  · rename_i h64; rw [if_pos h64] at h; cases h
  · rename_i h64
    rw [if_neg h64] at h
    split
    · rename_i j hf; exact ⟨j, rfl, atoms.findF_some hf⟩
    · rename_i hf
      rw [hf] at h
      simp only at h
      split
      · refine ⟨_, rfl, ⟨n, true, false⟩, ?_, rfl, rfl⟩
        have hle := (atoms.lowestF_is al).1
        by_cases hlt : atoms.lowestF al < al.length
        · show (atoms.putS al (atoms.lowestF al) n)[atoms.lowestF al]? = _
          unfold atoms.putS
          rw [if_pos hlt, List.getElem?_set, if_pos rfl, if_pos hlt]
        · have e : atoms.lowestF al = al.length := by omega
          show (atoms.putS al (atoms.lowestF al) n)[atoms.lowestF al]? = _
          unfold atoms.putS
          rw [if_neg hlt, e]
          simp
      · rename_i h2; rw [if_neg h2] at h; cases h
/-- The functor of name n and arity k has the number id. -/
def FSits (al : List atoms.ASlot) (sl : List FSlot) (n : ByteArray) (k id : Int) : Prop := ∃ (j : Nat) (x : FSlot), id = (j : Int) ∧ sl[j]? = some x ∧ x.used = true ∧ (x.name.n : Int) = k ∧ atoms.idOf al n x.name.a
theorem put_sits (hS : ∀ n : ByteArray, 0 ≤ (atoms.internF la made al n).id ∧ (atoms.internF la made al n).id < 65536) (n : ByteArray) (k : Int) (h : (putR la made al lim sl n k).err = 0) : FSits (putR la made al lim sl n k).al (putR la made al lim sl n k).sl n k (putR la made al lim sl n k).id := by
  have hs := hS n
  unfold putR at h ⊢
  by_cases hk : 1 ≤ k ∧ k ≤ 16
  · rw [if_pos hk] at h ⊢
    by_cases he : (atoms.internF la made al n).err = 0
    · rw [if_pos he] at h ⊢
      obtain ⟨j, hj, hi⟩ := intern_sits n he
      cases hf : fidF sl (atoms.internF la made al n).id k with
      | some q =>
        obtain ⟨x, hx, hu, ha, hn⟩ := fidF_some hf
        refine ⟨q, x, rfl, hx, hu, hn.symm, ?_⟩
        have e : x.name.a = j := by omega
        rw [e]
        exact hi
      | none =>
        rw [hf] at h
        simp only at h ⊢
        split
        · rename_i h2; rw [if_pos h2] at h; cases h
        · refine ⟨_, _, rfl, putS_get _, rfl, (keyAt_n hk).symm, ?_⟩
          have e : (keyAt (atoms.internF la made al n).id k).a = j := by have := keyAt_a (k := k) hs; omega
          show atoms.idOf _ n (keyAt (atoms.internF la made al n).id k).a
          rw [e]
          exact hi
    · rw [if_neg he] at h
      exact absurd h he
  · rw [if_neg hk] at h
    cases h
theorem FSits.follow {n : ByteArray} {k id : Int} (h : FSits al sl n k id) (ha : atoms.Follows al al') (hs : Follows sl sl') : FSits al' sl' n k id := by
  obtain ⟨j, x, h1, h2, h3, h4, y, h5, h6, h7⟩ := h
  obtain ⟨x', g1, g2, g3, _⟩ := hs j x h2 h3
  obtain ⟨y', k1, k2, k3, _⟩ := ha x.name.a y h5 h6
  exact ⟨j, x', h1, g1, g2, by rw [g3]; exact h4, y', by rw [g3]; exact k1, k2, k3.trans h7⟩
theorem FSits.get {n : ByteArray} {k id : Int} (h : FSits al sl n k id) : getR al sl id = (n, k, 0) := by
  obtain ⟨j, x, rfl, h2, h3, h4, h5⟩ := h
  have hs : slotF sl (j : Int) = some x := by
    unfold slotF
    rw [if_pos (by omega), Int.toNat_natCast, h2, Option.filter_some, if_pos h3]
  unfold getR
  rw [hs]
  have hn := atoms.nameS_of h5
  simp only [hn.2, if_true, hn.1, h4]
theorem FSits.apart {n n' : ByteArray} {k k' id id' : Int} (h : FSits al sl n k id) (h' : FSits al sl n' k' id') (hA : atoms.Apart al) (hF : Apart sl) : id = id' ↔ n = n' ∧ k = k' := by
  obtain ⟨j, x, rfl, h2, h3, h4, y, h5, h6, h7⟩ := h
  obtain ⟨j', x', rfl, h2', h3', h4', y', h5', h6', h7'⟩ := h'
  constructor
  · intro e
    have e2 : j = j' := by omega
    subst e2
    rw [h2] at h2'
    cases h2'
    rw [h5] at h5'
    cases h5'
    exact ⟨h7.symm.trans h7', h4.symm.trans h4'⟩
  · rintro ⟨rfl, rfl⟩
    have e1 : x.name.a = x'.name.a := hA _ _ y y' h5 h5' h6 h6' (h7.trans h7'.symm)
    have e2 : x.name = x'.name := by
      obtain ⟨⟨a, m, ok⟩, _, _⟩ := x
      obtain ⟨⟨a', m', ok'⟩, _, _⟩ := x'
      simp only at e1 h4 h4' ⊢
      subst e1
      have : m = m' := by omega
      subst this
      rfl
    have := hF j j' x x' h2 h2' h3 h3' e2
    omega
theorem FSits.find {n : ByteArray} {k id : Int} (h : FSits al sl n k id) (hA : atoms.Apart al) (hF : Apart sl) : fres al sl n k = (id, true) := by
  obtain ⟨j, x, rfl, h2, h3, h4, hid⟩ := h
  have hf := atoms.findI_of hA hid
  unfold fres
  rw [hf.1, hf.2, if_pos rfl]
  cases hq : fidF sl (x.name.a : Int) k with
  | none => exact absurd ⟨rfl, h4.symm⟩ (fidF_none hq j x h2 h3)
  | some q =>
    obtain ⟨x', g1, g2, g3, g4⟩ := fidF_some hq
    have e2 : x = x' ∨ x.name = x'.name := by
      right
      obtain ⟨⟨a, m, ok⟩, _, _⟩ := x
      obtain ⟨⟨a', m', ok'⟩, _, _⟩ := x'
      simp only at g3 g4 h4 ⊢
      have e1 : a = a' := by omega
      have e2 : m = m' := by omega
      subst e1 e2
      rfl
    have e3 : x.name = x'.name := by rcases e2 with e | e; rw [e]; exact e
    have := hF j q x x' h2 g1 h3 g2 e3
    subst this
    rfl
end Go.Proofs.YtoppfhbpmmepaaaDoor.functors
