/- Functors: Sweep, the walk. -/
import Derived.Test.YtoppfhbpmmepaaaDoorFunc18
namespace Go.Proofs.YtoppfhbpmmepaaaDoor.functors
open Go.RowKit Go.Proofs.YtoppfhbpmmepaaaDoor.own Go.Maps
variable {S SA SF : Nat → Prop} {ta b : Nat} {la made made' lim : Int} {al al' : List atoms.ASlot} {sl sl' : List FSlot} {w0 w w' : World} {low low' : Nat} {B : Nat} {ao : Option Addr} {cap m : Nat}
/-- What Sweep leaves. -/
def sweepF (sl : List FSlot) : List FSlot := sweepP sl (fun _ => true)
/-- Which keys are still to come: those of the slots that were not met. -/
def LeftOf (sl : List FSlot) (p : Nat → Bool) (left : Lit → Bool) : Prop := (∀ z, left z = true → ∃ (j : Nat) (x : FSlot), sl[j]? = some x ∧ x.used = true ∧ z = keyN x.name ∧ p j = false) ∧ ∀ (j : Nat) (x : FSlot), sl[j]? = some x → x.used = true → p j = false → left (keyN x.name) = true
theorem LeftOf.start {D : D1} (h : MapOf D sl) : LeftOf sl (fun _ => false) (Maps.has D) :=
  ⟨fun z hz => by
    obtain ⟨j, x, hx, hu, e⟩ := h.entry hz
    exact ⟨j, x, hx, hu, e, rfl⟩, fun j x hx hu _ => h.has_yes ⟨x, hx, hu, rfl⟩⟩
theorem LeftOf.done {p : Nat → Bool} {left : Lit → Bool} (h : LeftOf sl p left) (hz : ∀ z, left z = false) : sweepP sl p = sweepF sl := by
  apply List.ext_getElem?
  intro i
  unfold sweepF
  rw [sweepP_get, sweepP_get]
  cases hx : sl[i]? with
  | none => rfl
  | some x =>
    simp only [Option.map_some, Option.some.injEq, Bool.true_and]
    cases hu : x.used with
    | false => simp
    | true =>
      cases hp : p i with
      | true => simp
      | false =>
        have := h.2 i x hx hu hp
        rw [hz] at this
        cases this
theorem LeftOf.step {p : Nat → Bool} {left : Lit → Bool} (hA : Apart sl) (h : LeftOf sl p left) {j : Nat} {x : FSlot} (hx : sl[j]? = some x) (hu : x.used = true) : LeftOf sl (fun i => p i || i == j) (fun z => left z && !z.sameKey (keyN x.name)) := by
  constructor
  · intro z hz
    simp only [Bool.and_eq_true, Bool.not_eq_true'] at hz
    obtain ⟨i, y, hy, hyu, rfl, hp⟩ := h.1 z hz.1
    refine ⟨i, y, hy, hyu, rfl, ?_⟩
    show (p i || i == j) = false
    rw [hp, Bool.false_or]
    cases e : i == j with
    | false => rfl
    | true =>
      have e2 : i = j := by simpa using e
      subst e2
      rw [hx] at hy
      cases hy
      rw [WideAt.sameKey_self (keyN_key _)] at hz
      exact absurd hz.2 (by decide)
  · intro i y hy hyu hp
    simp only [Bool.or_eq_false_iff] at hp
    simp only [Bool.and_eq_true, Bool.not_eq_true']
    refine ⟨h.2 i y hy hyu hp.1, ?_⟩
    cases e : (keyN y.name).sameKey (keyN x.name) with
    | false => rfl
    | true =>
      have e2 := hA i j y x hy hx hyu hu (keyN_inj (WideAt.sameKey_eq e))
      have e3 := hp.2
      rw [e2] at e3
      simp at e3
end Go.Proofs.YtoppfhbpmmepaaaDoor.functors
