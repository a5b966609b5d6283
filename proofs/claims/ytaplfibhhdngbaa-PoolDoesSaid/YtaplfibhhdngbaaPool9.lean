/- The tree's calls, told by the lengths of the rows alone. -/
import Derived.Test.YtaplfibhhdngbaaPool8
namespace Go.Proofs.Ytaplfibhhdngbaa.pools
open Go.RowKit Go.Proofs.Ytaplfibhhdngbaa.own Go.Proofs.Ytaplfibhhdngbaa.trees Go.Proofs.Ytaplfibhhdngbaa.rows
variable {B b o k sz : Nat} {ao : Option Addr} {cap : Nat} {f : Nat → Nat} {w : World}

/-- A tree of sz places at ⟨b, o⟩; f tells how long the row is that begins at a place. -/
structure RunsF (B b o k sz : Nat) (ao : Option Addr) (cap : Nat) (f : Nat → Nat) (T : List Int) (w : World) : Prop where
  runs : Runs B b o k sz ao cap T w
  leaf : ∀ q, q < sz → T.getD (sz + q) 0 = (f q : Int)
  rest : ∀ q, sz ≤ q → f q = 0
theorem PoolAt.runsF {Sm S : Nat → Prop} {so : Option Addr} {scap : Nat} {T : List Int} {lim : Nat} {F : List Bool} {St : List Nat} (h : PoolAt Sm S B b k sz so scap ao cap T f lim F St w) (hs : 0 < sz) : RunsF B b 3 k sz ao cap f T w :=
  ⟨h.runs hs, h.leaf, h.rest⟩
/-- The first row of at least n from a on: its place, or -1. -/
def FirstF (f : Nat → Nat) (a n : Nat) (r : Int) : Prop := (r = -1 ∧ ∀ q, a ≤ q → f q < n) ∨ ∃ p : Nat, r = p ∧ a ≤ p ∧ n ≤ f p ∧ ∀ q, a ≤ q → q < p → f q < n
/-- The last row that begins at u or ahead of it: its place, or -1. -/
def LastF (f : Nat → Nat) (u : Nat) (r : Int) : Prop := (r = -1 ∧ ∀ q, q ≤ u → f q = 0) ∨ ∃ p : Nat, r = p ∧ p ≤ u ∧ f p ≠ 0 ∧ ∀ q, p < q → q ≤ u → f q = 0
variable {T : List Int}
theorem at_f (p : Nat) (hp : p < sz) (h : RunsF B b o k sz ao cap f T w) :
    Calls Try.prog 44 #[.pointer (some ⟨b, o, none⟩), .int .i64 p] w fun e w' => e = .returned (.int .i64 (f p)) ∧ Only (fun _ => False) w w' := by
  rw [← h.leaf p hp]
  exact at_any p hp h.runs
theorem RunsF.drewN (h : RunsF B b o k sz ao cap f T w) (n : Nat) : RunsF B b o k sz ao cap f T (w.drewN n) := ⟨h.runs.drewN n, h.leaf, h.rest⟩
theorem at_fq (p : Nat) (hp : p < sz) (h : RunsF B b o k sz ao cap f T w) :
    Calls Try.prog 44 #[.pointer (some ⟨b, o, none⟩), .int .i64 p] w fun e w' => e = .returned (.int .i64 (f p)) ∧ ∃ n, w' = w.drewN n := by
  rw [← h.leaf p hp]
  exact at_q p hp h.runs
theorem first_out (a : Nat) (n : Int) (c0 : w.cell? ⟨b, o, none⟩ = some (.int .i64 sz)) (ha : sz ≤ a) :
    Calls Try.prog 38 #[.pointer (some ⟨b, o, none⟩), .int .i64 a, .int .i64 n] w fun e w' => e = .returned (.int .i64 (-1)) ∧ w = w' := by
  go_enter Try.func38, Try.ntmps38
  go_wp2_with fail
  go_ret
  exact ⟨rfl, rfl⟩
theorem first_f (a n : Nat) (h : RunsF B b o k sz ao cap f T w) (hn : 1 ≤ n) (hn1 : n ≤ 9223372036854775807) :
    Calls Try.prog 38 #[.pointer (some ⟨b, o, none⟩), .int .i64 a, .int .i64 n] w fun e w' => (∃ r, e = .returned (.int .i64 r) ∧ FirstF f a n r) ∧ w = w' := by
  rcases Nat.lt_or_ge a sz with ha | ha
  · refine (first_near a n h.runs ha (by omega) (by omega)).mono ?_
    rintro e w' ⟨⟨r, rfl, hr⟩, rfl⟩
    refine ⟨⟨r, rfl, ?_⟩, rfl⟩
    cases hr with
    | found p h1 h2 h3 h4 =>
      right
      refine ⟨p, rfl, h1, ?_, fun q g1 g2 => ?_⟩
      · rw [h.leaf p h2] at h3; omega
      · have := h4 (sz + q) (by omega) (by omega)
        rw [h.leaf q (by omega)] at this
        omega
    | none h4 =>
      left
      refine ⟨rfl, fun q g1 => ?_⟩
      rcases Nat.lt_or_ge q sz with hq | hq
      · have := h4 (sz + q) (by omega) (by omega)
        rw [h.leaf q hq] at this
        omega
      · rw [h.rest q hq]; omega
  · refine (first_out a n h.runs.c0 ha).mono ?_
    rintro e w' ⟨rfl, rfl⟩
    exact ⟨⟨-1, rfl, .inl ⟨rfl, fun q g1 => by rw [h.rest q (by omega)]; omega⟩⟩, rfl⟩
theorem last_f (u : Nat) (h : RunsF B b o k sz ao cap f T w) (hu : u < sz) :
    Calls Try.prog 47 #[.pointer (some ⟨b, o, none⟩), .int .i64 u] w fun e w' => (∃ r, e = .returned (.int .i64 r) ∧ LastF f u r) ∧ w = w' := by
  refine (last_near u h.runs hu).mono ?_
  rintro e w' ⟨⟨r, rfl, hr⟩, rfl⟩
  refine ⟨⟨r, rfl, ?_⟩, rfl⟩
  cases hr with
  | found p h1 h2 h3 =>
    right
    refine ⟨p, rfl, h1, ?_, fun q g1 g2 => ?_⟩
    · rw [h.leaf p (by omega)] at h2; omega
    · have := h3 (sz + q) (by omega) (by omega)
      rw [h.leaf q (by omega)] at this
      omega
  | none h3 =>
    left
    refine ⟨rfl, fun q g1 => ?_⟩
    have := h3 (sz + q) (by omega) (by omega)
    rw [h.leaf q (by omega)] at this
    omega
theorem set_f (p n : Nat) (h : RunsF B b o k sz ao cap f T w) (hp : p < sz) (hn : n ≤ 1048576) (hsep : ∀ g, ao = some g → g.block ≠ b) :
    Calls Try.prog 45 #[.pointer (some ⟨b, o, none⟩), .int .i64 p, .int .i64 n] w fun e w' => e = .returned (.tuple #[]) ∧ ∃ T', RunsF B b o k sz ao cap (fun q => if q = p then n else f q) T' w' ∧ Only (RowAt ao) w w' := by
  refine (set_any p n h.runs hp (by omega) hsep).mono ?_
  rintro e w' ⟨rfl, T', hT, hl, ho⟩
  refine ⟨rfl, T', ⟨hT, fun q hq => ?_, fun q hq => ?_⟩, ho⟩
  · rw [hl q hq]
    by_cases e : q = p
    · rw [if_pos e, if_pos e]
    · rw [if_neg e, if_neg e, h.leaf q hq]
  · rw [if_neg (by omega)]; exact h.rest q hq
end Go.Proofs.Ytaplfibhhdngbaa.pools
