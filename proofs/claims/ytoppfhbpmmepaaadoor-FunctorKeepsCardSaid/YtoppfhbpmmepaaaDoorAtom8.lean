
/- The table's calls as functions of its slots; Reserved. -/
import Derived.Test.YtoppfhbpmmepaaaDoorAtom7
namespace Go.Proofs.YtoppfhbpmmepaaaDoor.atoms
open Go.RowKit Go.Proofs.YtoppfhbpmmepaaaDoor.own Go.Maps

theorem ba_ext {a b : ByteArray} (h : a.data.toList = b.data.toList) : a = b := by
  have := Array.toList_inj.1 h
  cases a; cases b; simp_all
def isN (n : ByteArray) (x : ASlot) : Bool := x.used && decide (x.name.data.toList = n.data.toList)
/-- The name's number. -/
def findF (sl : List ASlot) (n : ByteArray) : Option Nat := sl.findIdx? (isN n)
theorem isN_iff {n : ByteArray} {x : ASlot} : isN n x = true ↔ x.used = true ∧ x.name = n := by
  unfold isN
  rw [Bool.and_eq_true, decide_eq_true_eq]
  exact ⟨fun h => ⟨h.1, ba_ext h.2⟩, fun h => ⟨h.1, by rw [h.2]⟩⟩
theorem findF_some {sl : List ASlot} {n : ByteArray} {j : Nat} (h : findF sl n = some j) : idOf sl n j := by
  obtain ⟨hj, h1, _⟩ := List.findIdx?_eq_some_iff_getElem.1 h
  exact ⟨sl[j], List.getElem?_eq_getElem hj, isN_iff.1 h1⟩
theorem findF_none {sl : List ASlot} {n : ByteArray} (h : findF sl n = none) : noId sl n := by
  rintro j ⟨x, hx, hu⟩
  have := List.findIdx?_eq_none_iff.1 h x (List.mem_of_getElem? hx)
  rw [isN_iff.2 hu] at this
  cases this
/-- The lowest free slot, or the one behind all. -/
def lowestF (sl : List ASlot) : Nat := sl.findIdx fun x => !x.used
theorem lowestF_is (sl : List ASlot) : Lowest sl (lowestF sl) := by
  refine ⟨List.findIdx_le_length, ?_, ?_⟩
  · intro j x hj hx
    have hjl := (List.getElem?_eq_some_iff.1 hx).1
    have := List.not_of_lt_findIdx hj
    rw [(List.getElem?_eq_some_iff.1 hx).2] at this
    simpa using this
  · intro h
    refine ⟨sl[lowestF sl], List.getElem?_eq_getElem h, ?_⟩
    have := List.findIdx_getElem (p := fun x : ASlot => !x.used) (xs := sl) (w := h)
    rw [Bool.not_eq_true'] at this
    exact this
theorem Lowest.eq {sl : List ASlot} {j k : Nat} (hj : Lowest sl j) (hk : Lowest sl k) : j = k := by
  rcases Nat.lt_trichotomy j k with h | h | h
  · obtain ⟨x, hx, hu⟩ := hj.2.2 (by have := hk.1; omega)
    have := hk.2.1 j x h hx
    rw [hu] at this; cases this
  · exact h
  · obtain ⟨x, hx, hu⟩ := hk.2.2 (by have := hj.1; omega)
    have := hj.2.1 k x h hx
    rw [hu] at this; cases this

/-- What Intern answers, and what it leaves. -/
structure IRes where
  id : Int
  err : Int
  sl : List ASlot
  made : Int
def internF (lim made : Int) (sl : List ASlot) (n : ByteArray) : IRes :=
  if 64 < n.size then ⟨0, 3, sl, made⟩ else
  match findF sl n with
  | some j => ⟨j, 0, sl, made⟩
  | none => if (lowestF sl : Int) < lim then ⟨lowestF sl, 0, putS sl (lowestF sl) n, made + 1⟩ else ⟨0, 2, sl, made⟩
def findI (sl : List ASlot) (n : ByteArray) : Int := ((findF sl n).getD 0 : Nat)
def findB (sl : List ASlot) (n : ByteArray) : Bool := (findF sl n).isSome
def slotAt (sl : List ASlot) (i : Int) : Option ASlot := if 0 ≤ i then (sl[i.toNat]?).filter (·.used) else none
def nameS (sl : List ASlot) (i : Int) : ByteArray := match slotAt sl i with | some x => x.name | none => ⟨#[]⟩
def errS (sl : List ASlot) (i : Int) : Int := match slotAt sl i with | some _ => 0 | none => 4
def markedS (sl : List ASlot) (i : Int) : Bool := match slotAt sl i with | some x => x.mark | none => false
def markF (sl : List ASlot) (i : Int) : List ASlot := match slotAt sl i with | some x => markS sl i.toNat x true | none => sl
theorem slotAt_some {sl : List ASlot} {i : Int} {x : ASlot} (h : slotAt sl i = some x) : 0 ≤ i ∧ sl[i.toNat]? = some x ∧ x.used = true := by
  unfold slotAt at h
  split at h
  · rename_i h0
    cases hx : sl[i.toNat]? with
    | none => rw [hx] at h; cases h
    | some y =>
      rw [hx] at h
      simp only [Option.filter_some] at h
      split at h
      · rename_i hu; cases h; exact ⟨h0, rfl, hu⟩
      · cases h
  · cases h
theorem slotAt_none {sl : List ASlot} {i : Int} (h : slotAt sl i = none) : hasS sl i = false := by
  unfold slotAt at h
  split at h
  · rename_i h0
    cases hx : sl[i.toNat]? with
    | none => simp [hasS, hx]
    | some y =>
      rw [hx] at h
      simp only [Option.filter_some] at h
      split at h
      · cases h
      · rename_i hu; simp [hasS, hx, hu]
  · rename_i h0; simp [hasS, h0]

/-- What holds of a table's slots. -/
structure Good (lim : Int) (sl : List ASlot) : Prop where
  lo : 15 ≤ lim
  hi : lim ≤ 16384
  len : 15 ≤ sl.length
  cap : (sl.length : Int) ≤ lim
  res : ∀ i, i < 15 → ∃ m, sl[i]? = some ⟨resB i, true, m⟩
theorem Good.first {lim : Int} (h0 : 15 ≤ lim) (h1 : lim ≤ 16384) : Good lim (firstS 15) :=
  ⟨h0, h1, by simp [firstS_len], by simp [firstS_len]; omega, fun i hi => ⟨false, firstS_get hi⟩⟩
theorem Good.used {lim : Int} {sl : List ASlot} (h : Good lim sl) : AllUsed sl 15 := fun j x hj hx => by
  obtain ⟨m, hm⟩ := h.res j hj
  rw [hm] at hx
  cases hx
  rfl
theorem Good.intern {lim made : Int} {sl : List ASlot} (h : Good lim sl) (n : ByteArray) : Good lim (internF lim made sl n).sl := by
  unfold internF
  split
  · exact h
  · split
    · exact h
    · split
      · rename_i hlt
        have hl := lowestF_is sl
        refine ⟨h.lo, h.hi, Nat.le_trans h.len putS_len, ?_, ?_⟩
        · unfold putS
          split
          · rw [List.length_set]; exact h.cap
          · rename_i hge
            have : lowestF sl = sl.length := by have := hl.1; omega
            simp only [List.length_append, List.length_cons, List.length_nil]
            omega
        · intro i hi
          obtain ⟨m, hm⟩ := h.res i hi
          have : i < lowestF sl := by
            rcases Nat.lt_or_ge i (lowestF sl) with h1 | h1
            · exact h1
            · exfalso
              obtain ⟨x, hx, hu⟩ := hl.2.2 (by have := h.len; omega)
              have := h.used (lowestF sl) x (by omega) hx
              rw [hu] at this; cases this
          exact ⟨m, by rw [putS_get (x := ⟨resB i, true, m⟩) this hl.1]; exact hm⟩
      · exact h
theorem Good.mark {lim : Int} {sl : List ASlot} (h : Good lim sl) (i : Int) : Good lim (markF sl i) := by
  unfold markF
  split
  · rename_i x hx
    obtain ⟨h0, h1, h2⟩ := slotAt_some hx
    have hj := (List.getElem?_eq_some_iff.1 h1).1
    unfold markS
    refine ⟨h.lo, h.hi, by rw [List.length_set]; exact h.len, by rw [List.length_set]; exact h.cap, ?_⟩
    intro k hk
    obtain ⟨m, hm⟩ := h.res k hk
    rw [get_set _ hj]
    split
    · rename_i e; subst e; rw [hm] at h1; cases h1; exact ⟨true, rfl⟩
    · exact ⟨m, hm⟩
  · exact h
theorem Good.sweep {lim : Int} {sl : List ASlot} (h : Good lim sl) : Good lim (sweepTo sl sl.length) := by
  refine ⟨h.lo, h.hi, by rw [sweepTo_len]; exact h.len, by rw [sweepTo_len]; exact h.cap, ?_⟩
  intro k hk
  obtain ⟨m, hm⟩ := h.res k hk
  rw [sweepTo_get hm, if_pos (by have := h.len; omega)]
  exact ⟨false, by unfold swp; rw [if_neg (by omega)]⟩

section
variable {S : Nat → Prop} {B b : Nat} {lim made : Int} {sl : List ASlot} {w : World}
theorem intern_any (n : ByteArray) (h : Tab S B b lim made sl w) (hL : Listed w) (hG : Good lim sl) (hgl : ¬ S 0) (hm0 : 0 ≤ made) (hm1 : made ≤ 4294967296) :
    Calls Tryd.prog 33 #[.pointer (some ⟨b, 0, none⟩), .string n] w fun e w' => e = .returned (.tuple #[.int .i64 (internF lim made sl n).id, .int .i64 (internF lim made sl n).err]) ∧
      Kept S B b lim (internF lim made sl n).made (internF lim made sl n).sl w w' := by
  unfold internF
  split
  · rename_i h1
    exact intern_long n h hL hG.lo hgl h1
  · rename_i h1
    cases hf : findF sl n with
    | some j => exact intern_old n j h hL hG.lo hgl (findF_some hf) (by omega)
    | none =>
      refine (intern_new n h hL hG.lo hG.hi hgl (findF_none hf) (by omega) hm0 hm1).mono ?_
      rintro e w' ⟨k, hk, hr⟩
      obtain rfl := hk.eq (lowestF_is sl)
      rcases hr with ⟨h2, rfl, h3⟩ | ⟨h2, rfl, h3⟩
      · rw [if_neg (by omega)]; exact ⟨rfl, h3⟩
      · rw [if_pos h2]; exact ⟨rfl, h3⟩
theorem find_any (n : ByteArray) (h : Tab S B b lim made sl w) (hL : Listed w) (hG : Good lim sl) (hgl : ¬ S 0) (hn : n.size ≤ maxLen) :
    Calls Tryd.prog 42 #[.pointer (some ⟨b, 0, none⟩), .string n] w fun e w' => e = .returned (.tuple #[.int .i64 (findI sl n), .bool (findB sl n)]) ∧ Kept S B b lim made sl w w' := by
  unfold findI findB
  cases hf : findF sl n with
  | some j => exact find_yes n j h hL hG.lo hgl (findF_some hf) hn
  | none => exact find_no n h hL hG.lo hgl (findF_none hf) hn
theorem name_any (i : Int) (h : Tab S B b lim made sl w) (hL : Listed w) (hG : Good lim sl) (hgl : ¬ S 0) :
    Calls Tryd.prog 41 #[.pointer (some ⟨b, 0, none⟩), .int .i64 i] w fun e w' => e = .returned (.tuple #[.string (nameS sl i), .int .i64 (errS sl i)]) ∧ Kept S B b lim made sl w w' := by
  unfold nameS errS
  cases hs : slotAt sl i with
  | some x =>
    obtain ⟨h0, h1, h2⟩ := slotAt_some hs
    obtain ⟨j, rfl⟩ := Int.eq_ofNat_of_zero_le h0
    exact name_yes j x h hL hG.lo hgl h1 h2
  | none => exact name_no i h hL hG.lo hgl (slotAt_none hs)
theorem mark_any (i : Int) (h : Tab S B b lim made sl w) (hL : Listed w) (hG : Good lim sl) (hgl : ¬ S 0) :
    Calls Tryd.prog 40 #[.pointer (some ⟨b, 0, none⟩), .int .i64 i] w fun e w' => e = .returned (.int .i64 (errS sl i)) ∧ Kept S B b lim made (markF sl i) w w' := by
  unfold errS markF
  cases hs : slotAt sl i with
  | some x =>
    obtain ⟨h0, h1, h2⟩ := slotAt_some hs
    obtain ⟨j, rfl⟩ := Int.eq_ofNat_of_zero_le h0
    exact mark_yes j x h hL hG.lo hgl h1 h2
  | none => exact mark_no i h hL hG.lo hgl (slotAt_none hs)
theorem sweep_all (h : Tab S B b lim made sl w) (hL : Listed w) (hG : Good lim sl) (hgl : ¬ S 0) :
    Calls Tryd.prog 22 #[.pointer (some ⟨b, 0, none⟩)] w fun e w' => e = .returned (.int .i64 ((used sl : Int) - (used (sweepTo sl sl.length) : Int))) ∧ Kept S B b lim made (sweepTo sl sl.length) w w' :=
  sweep_any h hL hG.lo hgl hG.len hG.used
end

/-- The cells of the reserved names, somewhere. -/
def NamesAt (g : Nat) (w : World) : Prop := ∀ i, i < 15 → w.cell? ⟨g, i, none⟩ = some (.string (resB i))
end Go.Proofs.YtoppfhbpmmepaaaDoor.atoms
