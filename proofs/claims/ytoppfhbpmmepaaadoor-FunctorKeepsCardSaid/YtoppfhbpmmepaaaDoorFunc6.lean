/- Any two numbers as a key; the functors beside their atoms. -/
import Derived.Test.YtoppfhbpmmepaaaDoorFunc5
namespace Go.Proofs.YtoppfhbpmmepaaaDoor.functors
open Go.RowKit Go.Proofs.YtoppfhbpmmepaaaDoor.own Go.Maps Go.WideMaps
variable {S : Nat → Prop} {B b : Nat} {lim : Int} {ta : Nat} {ao : Option Addr} {cap m low : Nat} {sl : List FSlot} {w w' : World}
/-- A key of any two numbers, as the map's list bears it. -/
def keyI (a n : Int) : Lit := .string (keyBytes [.int .i64 a, .int .i64 n])
theorem litsI {a n : Int} (h1 : (Lit.int .i64 a).wf = true) (h2 : (Lit.int .i64 n).wf = true) : Tryd.prog.keyLits (Tryd.prog.types.size + 1) 90 (Value.agg #[.int .i64 a, .int .i64 n]).cells.toList = some [.int .i64 a, .int .i64 n] := by
  obtain ⟨m, hm⟩ : ∃ m, Tryd.prog.types.size = m + 1 := Nat.exists_eq_succ_of_ne_zero (Nat.ne_of_gt (Nat.lt_of_le_of_lt (Nat.zero_le _) rowF))
  rw [hm]
  simp [Value.cells, Program.keyLits, Tryd.underlying90, Tryd.underlying3, cellsF, cellsI, h1, h2]
theorem keyOfI {a n : Int} (h1 : (Lit.int .i64 a).wf = true) (h2 : (Lit.int .i64 n).wf = true) : keyOf Tryd.prog 90 (.agg #[.int .i64 a, .int .i64 n]) = some (keyI a n) := by
  unfold keyOf
  rw [Tryd.underlying90]
  have e1 : Tryd.prog.keyType 90 = true := by kernel_rfl
  have e2 : (Value.agg #[.int .i64 a, .int .i64 n]).formed Tryd.prog 90 = true := formedF
  simp only [e1, e2, Bool.and_self, if_true, litsI h1 h2, Option.map_some]
  rfl
theorem keyI_N (f : FKey) : keyI f.a f.n = keyN f := rfl
theorem keyI_inj {f : FKey} {a n : Int} (h1 : (Lit.int .i64 a).wf = true) (h2 : (Lit.int .i64 n).wf = true) (h : keyN f = keyI a n) : a = f.a ∧ n = f.n := by
  have ha := keyOfF f
  have hb := keyOfI h1 h2
  rw [← h] at hb
  have e := keyedF.inj ha hb
  simp only [FKey.val, Value.agg.injEq, Array.mk.injEq, List.cons.injEq, Value.int.injEq, and_true, true_and] at e
  exact ⟨e.1.symm, e.2.symm⟩
theorem keyI_key (a n : Int) : WideAt.IsKeyLit (keyI a n) := by trivial
/-- No functor has that name's number and that arity. -/
def noI (sl : List FSlot) (a n : Int) : Prop := ∀ (j : Nat) (x : FSlot), sl[j]? = some x → x.used = true → ¬ (a = x.name.a ∧ n = x.name.n)
theorem MapOf.has_noI {D : D1} (h : MapOf D sl) {a n : Int} (h1 : (Lit.int .i64 a).wf = true) (h2 : (Lit.int .i64 n).wf = true) (hn : noI sl a n) : Maps.has D (keyI a n) = false := by
  obtain ⟨es, rfl, hp⟩ := h
  rw [Maps.has_eq, List.any_eq_false]
  intro p hp' e
  obtain ⟨j, x, hx, hu, rfl⟩ := mem_prs.1 (hp.mem_iff.1 hp')
  exact hn j x hx hu (keyI_inj h1 h2 (WideAt.sameKey_eq e))
theorem MapOf.at_noI {D : D1} (h : MapOf D sl) {a n : Int} (h1 : (Lit.int .i64 a).wf = true) (h2 : (Lit.int .i64 n).wf = true) (hn : noI sl a n) (z : D1) : D.atKey (keyI a n) z = z := by
  obtain ⟨es, rfl, hp⟩ := h
  refine WideAt.atKey_none z ?_
  intro p hp' e
  obtain ⟨j, x, hx, hu, rfl⟩ := mem_prs.1 (hp.mem_iff.1 hp')
  exact hn j x hx hu (keyI_inj h1 h2 e)
theorem Tbl.only {S' : Nat → Prop} (h : Tbl S B b lim ta low sl w) (ho : Only S' w w') (hS : ∀ k, S k → ¬ S' k) : Tbl S B b lim ta low sl w' := by
  obtain ⟨ao, cap, m, h⟩ := h
  exact ⟨ao, cap, m, h.only ho hS⟩
theorem Tbl.lt (h : Tbl S B b lim ta low sl w) {k : Nat} (hk : S k) : B ≤ k ∧ k < w.heap.size := by
  obtain ⟨ao, cap, m, h⟩ := h
  exact h.lt k hk
/-- Functors beside their atoms, in a world that came of w0. -/
structure FSt (SA SF : Nat → Prop) (ta b : Nat) (la made : Int) (al : List atoms.ASlot) (lim : Int) (low : Nat) (sl : List FSlot) (w0 w : World) : Prop where
  at_ : atoms.St SA ta la made al w0 w
  fn : Tbl SF w0.heap.size b lim ta low sl w
  apart : ∀ k, SF k → ¬ SA k
  free : ¬ SF 0
variable {SA SF : Nat → Prop} {la made made' : Int} {al al' : List atoms.ASlot} {w0 : World} {low' : Nat} {sl' : List FSlot}
/-- The atoms were turned. -/
theorem FSt.atoms (h : FSt SA SF ta b la made al lim low sl w0 w) (h2 : atoms.St (Grew SA w w') ta la made' al' w0 w') (ho : Only SA w w') : FSt (Grew SA w w') SF ta b la made' al' lim low sl w0 w' :=
  ⟨h2, h.fn.only ho h.apart, fun k hk e => by
    rcases e with e | e
    · exact h.apart k hk e
    · have := (h.fn.lt hk).2; omega, h.free⟩
/-- The functors were turned. -/
theorem FSt.functors (h : FSt SA SF ta b la made al lim low sl w0 w) (h2 : Tbl (Grew SF w w') w0.heap.size b lim ta low' sl' w') (ho : Only SF w w') : FSt SA (Grew SF w w') ta b la made al lim low' sl' w0 w' := by
  have hl := h.at_.listed.lt
  refine ⟨h.at_.still ho (fun k hk e => h.apart k e hk) h.free (ho.below h.at_.below.size (fun k _ e => (h.fn.lt e).1)), h2, fun k hk e => ?_, ?_⟩
  · rcases hk with hk | hk
    · exact h.apart k hk e
    · have := (h.at_.tab.bound.2.2.2 k e).2; omega
  · rintro (e | e)
    · exact h.free e
    · omega
/-- A new block, of which neither is told. -/
theorem FSt.quiet (h : FSt SA SF ta b la made al lim low sl w0 w) (ho : Only (fun _ => False) w w') (hb : Below w0.heap.size w w') : FSt SA SF ta b la made al lim low sl w0 w' :=
  ⟨h.at_.still ho (fun _ _ e => e) (fun e => e) hb, h.fn.only ho (fun _ _ e => e), h.apart, h.free⟩
end Go.Proofs.YtoppfhbpmmepaaaDoor.functors
