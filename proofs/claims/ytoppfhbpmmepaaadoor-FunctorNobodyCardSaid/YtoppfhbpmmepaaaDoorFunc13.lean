/- Functors: Put in one function. -/
import Derived.Test.YtoppfhbpmmepaaaDoorFunc12
namespace Go.Proofs.YtoppfhbpmmepaaaDoor.functors
open Go.RowKit Go.Proofs.YtoppfhbpmmepaaaDoor.own Go.Maps
variable {S SA SF : Nat → Prop} {ta b : Nat} {la made made' lim : Int} {al al' : List atoms.ASlot} {sl sl' : List FSlot} {w0 w w' : World} {low low' : Nat} {B : Nat} {ao : Option Addr} {cap m : Nat}
/-- The lowest slot that is free. -/
def lowF (sl : List FSlot) : Nat := sl.findIdx (fun x => !x.used)
theorem Lowest.is {q : Nat} (h : Lowest sl q) : q = lowF sl := by
  unfold lowF
  by_cases hlt : q < sl.length
  · symm
    rw [List.findIdx_eq hlt]
    have hx : sl[q]? = some sl[q] := List.getElem?_eq_getElem hlt
    refine ⟨by rw [← hasS_at hx, h.2.2]; rfl, fun j hj => ?_⟩
    have := h.2.1 j _ hj (List.getElem?_eq_getElem (by omega))
    rw [this]
    rfl
  · have e : q = sl.length := by have := h.1; omega
    rw [e]
    symm
    rw [List.findIdx_eq_length]
    intro x hx
    obtain ⟨j, hj, rfl⟩ := List.mem_iff_getElem.1 hx
    rw [h.2.1 j _ (by omega) (List.getElem?_eq_getElem hj)]
    rfl
/-- The key of two numbers that are small. -/
def keyAt (a k : Int) : FKey := ⟨a.toNat % 65536, k.toNat % 65536, Nat.mod_lt _ (by omega), Nat.mod_lt _ (by omega)⟩
theorem keyAt_a {a k : Int} (h : 0 ≤ a ∧ a < 65536) : a = (keyAt a k).a := by
  show a = ((a.toNat % 65536 : Nat) : Int)
  rw [Nat.mod_eq_of_lt (by omega)]
  omega
theorem keyAt_n {a k : Int} (h : 1 ≤ k ∧ k ≤ 16) : k = (keyAt a k).n := by
  show k = ((k.toNat % 65536 : Nat) : Int)
  rw [Nat.mod_eq_of_lt (by omega)]
  omega
theorem intern_small (h : atoms.Good la al) (n : ByteArray) : 0 ≤ (atoms.internF la made al n).id ∧ (atoms.internF la made al n).id < 65536 := by
  have hc := h.cap
  have hh := h.hi
  unfold atoms.internF
  split
  · simp
  · split
    · rename_i j hf
      have hj := atoms.idOf_lt (atoms.findF_some hf)
      simp only
      omega
    · split
      · rename_i hl
        simp only
        omega
      · simp
/-- What Put answers and leaves. -/
structure PRes where
  id : Int
  err : Int
  made : Int
  al : List atoms.ASlot
  sl : List FSlot
def putR (la made : Int) (al : List atoms.ASlot) (lim : Int) (sl : List FSlot) (n : ByteArray) (k : Int) : PRes :=
  if 1 ≤ k ∧ k ≤ 16 then
    (if (atoms.internF la made al n).err = 0 then
      (match fidF sl (atoms.internF la made al n).id k with
      | some j => ⟨j, 0, (atoms.internF la made al n).made, (atoms.internF la made al n).sl, sl⟩
      | none => if lim ≤ lowF sl then ⟨0, 2, (atoms.internF la made al n).made, (atoms.internF la made al n).sl, sl⟩ else ⟨lowF sl, 0, (atoms.internF la made al n).made, (atoms.internF la made al n).sl, putS sl (lowF sl) (keyAt (atoms.internF la made al n).id k)⟩)
    else ⟨0, (atoms.internF la made al n).err, (atoms.internF la made al n).made, (atoms.internF la made al n).sl, sl⟩)
  else ⟨0, 1, made, al, sl⟩
theorem FSt.stay (h : FSt SA SF ta b la made al lim low sl w0 w) : Moved SA SF ta b la made al lim low sl w0 w w := ⟨_, _, h, fun _ hk => .inl hk, Only.refl _ _⟩
theorem FSt.stepA (h : FSt (Grew SA w w') SF ta b la made al lim low sl w0 w') (ho : Only SA w w') : Moved SA SF ta b la made al lim low sl w0 w w' := by
  have := h.moved ho (Only.refl (fun _ => False) w') h.at_.below.size
  exact this
theorem put_all (n : ByteArray) (k : Int) (h : FSt SA SF ta b la made al lim low sl w0 w) (hm0 : 0 ≤ made) (hm1 : made ≤ 4294967296) (r : PRes) (hr : putR la made al lim sl n k = r) :
    Calls Tryd.prog 18 #[.pointer (some ⟨b, 0, none⟩), .string n, .int .i64 k] w fun e w' => e = .returned (.tuple #[.int .i64 r.id, .int .i64 r.err]) ∧ ∃ low', Moved SA SF ta b la r.made r.al lim low' r.sl w0 w w' := by
  subst hr
  unfold putR
  by_cases hk : 1 ≤ k ∧ k ≤ 16
  · rw [if_pos hk]
    by_cases he : (atoms.internF la made al n).err = 0
    · rw [if_pos he]
      have hs := intern_small (made := made) h.at_.good n
      cases hf : fidF sl (atoms.internF la made al n).id k with
      | some j =>
        refine (put_old n k h hk hm0 hm1 _ rfl he hs j hf).mono ?_
        rintro e w' ⟨rfl, hM⟩
        exact ⟨rfl, _, hM⟩
      | none =>
        refine (put_miss n k h hk hm0 hm1 _ rfl he (keyAt (atoms.internF la made al n).id k) (keyAt_a hs) (keyAt_n hk) hf).mono ?_
        rintro e w' ⟨q, hq, hr⟩
        obtain rfl := hq.is
        rcases hr with ⟨hl, rfl, hM⟩ | ⟨hl, rfl, hM⟩
        · simp only [if_pos hl]
          exact ⟨trivial, _, hM⟩
        · simp only [if_neg (show ¬ lim ≤ (lowF sl : Int) by omega)]
          exact ⟨trivial, _, hM⟩
    · rw [if_neg he]
      refine (put_err n k h hk hm0 hm1 _ rfl he).mono ?_
      rintro e w' ⟨rfl, hF, ho⟩
      exact ⟨rfl, _, hF.stepA ho⟩
  · rw [if_neg hk]
    refine (put_arg n k h hk).mono ?_
    rintro e w' ⟨rfl, rfl⟩
    exact ⟨rfl, _, h.stay⟩
/-- The slot of a number, if it has a functor. -/
def slotF (sl : List FSlot) (i : Int) : Option FSlot := if 0 ≤ i then (sl[i.toNat]?).filter (·.used) else none
theorem slotF_has (sl : List FSlot) (i : Int) : hasS sl i = (slotF sl i).isSome := by
  unfold hasS slotF
  split
  · cases sl[i.toNat]? with
    | none => rfl
    | some x => cases hu : x.used <;> simp [Option.filter, hu]
  · rfl
theorem slotF_some {i : Int} {x : FSlot} (h : slotF sl i = some x) : ∃ j : Nat, i = j ∧ sl[j]? = some x ∧ x.used = true := by
  unfold slotF at h
  split at h
  · rename_i h0
    rw [Option.filter_eq_some_iff] at h
    exact ⟨i.toNat, by omega, h.1, h.2⟩
  · cases h
/-- What Get answers. -/
def getR (al : List atoms.ASlot) (sl : List FSlot) (i : Int) : ByteArray × Int × Int := match slotF sl i with
  | some x => if atoms.errS al x.name.a = 0 then (atoms.nameS al x.name.a, (x.name.n : Int), 0) else (⟨#[]⟩, 0, atoms.errS al x.name.a)
  | none => (⟨#[]⟩, 0, 4)
theorem get_all (i : Int) (h : FSt SA SF ta b la made al lim low sl w0 w) (r : ByteArray × Int × Int) (hr : getR al sl i = r) :
    Calls Tryd.prog 23 #[.pointer (some ⟨b, 0, none⟩), .int .i64 i] w fun e w' => e = .returned (.tuple #[.string r.1, .int .i64 r.2.1, .int .i64 r.2.2]) ∧ Moved SA SF ta b la made al lim low sl w0 w w' := by
  subst hr
  unfold getR
  cases hs : slotF sl i with
  | some x =>
    obtain ⟨j, rfl, hx, hu⟩ := slotF_some hs
    refine (get_yes j x h hx hu _ rfl).mono ?_
    rintro e w' ⟨rfl, hM⟩
    refine ⟨?_, hM⟩
    simp only
    split <;> rfl
  | none =>
    refine (get_no i h (by rw [slotF_has, hs]; rfl)).mono ?_
    rintro e w' ⟨rfl, rfl⟩
    exact ⟨rfl, h.stay⟩
theorem find_all (n : ByteArray) (k : Int) (h : FSt SA SF ta b la made al lim low sl w0 w) (hn : n.size ≤ maxLen) (hk : (Lit.int .i64 k).wf = true) (r : Int × Bool) (hr : fres al sl n k = r) :
    Calls Tryd.prog 24 #[.pointer (some ⟨b, 0, none⟩), .string n, .int .i64 k] w fun e w' => e = .returned (.tuple #[.int .i64 r.1, .bool r.2]) ∧ Moved SA SF ta b la made al lim low sl w0 w w' := by
  refine (find_any n k h hn hk r hr).mono ?_
  rintro e w' ⟨rfl, hF, ho⟩
  exact ⟨rfl, hF.stepA ho⟩
/-- The slots, when the functor of that number was marked. -/
def markF (sl : List FSlot) (i : Int) : List FSlot := match slotF sl i with | some x => markS sl i.toNat x true | none => sl
def errF (sl : List FSlot) (i : Int) : Int := match slotF sl i with | some _ => 0 | none => 4
theorem mark_all (i : Int) (h : FSt SA SF ta b la made al lim low sl w0 w) :
    Calls Tryd.prog 19 #[.pointer (some ⟨b, 0, none⟩), .int .i64 i] w fun e w' => e = .returned (.int .i64 (errF sl i)) ∧ Moved SA SF ta b la made al lim low (markF sl i) w0 w w' := by
  obtain ⟨ao, cap, m, hc⟩ := h.fn
  unfold errF markF
  cases hs : slotF sl i with
  | some x =>
    obtain ⟨j, rfl, hx, hu⟩ := slotF_some hs
    refine (mark_yes j x hc hx hu).mono ?_
    rintro e w' ⟨rfl, h2, ho⟩
    have hsz := ho.size
    have hB := h.at_.below.size
    refine ⟨rfl, _, _, h.functors ⟨_, _, _, h2.grew hB ho⟩ ho, ?_, ho.mono (fun _ _ e => .inr e)⟩
    rintro k (hk | hk | hk)
    · exact .inl (.inl hk)
    · exact .inl (.inr hk)
    · exact .inr hk
  | none =>
    refine (mark_no i hc (by rw [slotF_has, hs]; rfl)).mono ?_
    rintro e w' ⟨rfl, rfl⟩
    exact ⟨rfl, h.stay⟩
end Go.Proofs.YtoppfhbpmmepaaaDoor.functors
