/- Atoms that are marked, many at once. -/
import Derived.Test.YtoppfhbpmmepaaaDoorFunc14
namespace Go.Proofs.YtoppfhbpmmepaaaDoor.functors
open Go.RowKit Go.Proofs.YtoppfhbpmmepaaaDoor.own Go.Maps
/-- The atoms, when those of p were marked. -/
def markP (al : List atoms.ASlot) (p : Nat → Bool) : List atoms.ASlot := al.mapIdx fun i x => if p i && x.used then ⟨x.name, x.used, true⟩ else x
theorem markP_get (al : List atoms.ASlot) (p : Nat → Bool) (i : Nat) : (markP al p)[i]? = (al[i]?).map fun x => if p i && x.used then ⟨x.name, x.used, true⟩ else x := by
  unfold markP
  rw [List.getElem?_mapIdx]
theorem markP_len (al : List atoms.ASlot) (p : Nat → Bool) : (markP al p).length = al.length := by
  unfold markP
  rw [List.length_mapIdx]
theorem markP_none (al : List atoms.ASlot) : markP al (fun _ => false) = al := by
  apply List.ext_getElem?
  intro i
  rw [markP_get]
  simp
theorem markP_congr (al : List atoms.ASlot) {p q : Nat → Bool} (h : ∀ i, p i = q i) : markP al p = markP al q := by rw [show p = q from funext h]
theorem markF_markP (al : List atoms.ASlot) (p : Nat → Bool) (a : Nat) : atoms.markF (markP al p) (a : Int) = markP al (fun i => p i || i == a) := by
  apply List.ext_getElem?
  intro i
  rw [markP_get]
  unfold atoms.markF
  cases hs : atoms.slotAt (markP al p) (a : Int) with
  | none =>
    rw [markP_get]
    cases hx : al[i]? with
    | none => rfl
    | some x =>
      simp only [Option.map_some, Option.some.injEq]
      by_cases e : i = a
      · subst e
        unfold atoms.slotAt at hs
        rw [if_pos (by omega), Int.toNat_natCast, markP_get, hx] at hs
        cases hu : x.used with
        | false => simp
        | true =>
          exfalso
          simp only [Option.map_some, hu, Bool.and_true] at hs
          split at hs <;> simp [Option.filter, hu] at hs
      · have : (i == a) = false := by simpa using e
        rw [this, Bool.or_false]
  | some y =>
    obtain ⟨_, hy, hu⟩ := atoms.slotAt_some hs
    rw [Int.toNat_natCast] at hy
    unfold atoms.markS
    rw [Int.toNat_natCast, List.getElem?_set]
    have hl := (List.getElem?_eq_some_iff.1 hy).1
    by_cases e : a = i
    · subst e
      rw [if_pos rfl, if_pos hl]
      rw [markP_get] at hy
      cases hx : al[a]? with
      | none => rw [hx] at hy; cases hy
      | some x =>
        rw [hx] at hy
        simp only [Option.map_some, Option.some.injEq] at hy ⊢
        subst hy
        have hxu : x.used = true := by
          revert hu
          split <;> exact id
        simp only [hxu, Bool.and_true, beq_self_eq_true, Bool.or_true, if_true]
        split <;> simp_all
    · rw [if_neg e, markP_get]
      have : (i == a) = false := by simp; omega
      rw [this]
      simp
end Go.Proofs.YtoppfhbpmmepaaaDoor.functors
