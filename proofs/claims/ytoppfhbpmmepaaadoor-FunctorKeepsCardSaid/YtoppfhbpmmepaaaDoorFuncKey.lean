/- A functor as a map's key: its name's number and its arity. -/
import Derived.Test.YtoppfhbpmmepaaaDoorAtomSync
import Derived.Test.YtoppfhbpmmepaaaDoorOwn
import Derived.Maps.OwnSet
import Derived.Maps.Views
import Derived.Maps.Keyed
import Derived.StringKeys
import Derived.MapViews
import Derived.DeepKeys4
import Derived.Lib.Hide
namespace Go.Proofs.YtoppfhbpmmepaaaDoor.functors
open Go.RowKit Go.Proofs.YtoppfhbpmmepaaaDoor.own Go.Maps Go.WideMaps
/-- A functor: a number of an atom, how many arguments. -/
structure FKey where
  a : Nat
  n : Nat
  ok : a < 65536 ∧ n < 65536
theorem FKey.eq {x y : FKey} (h1 : x.a = y.a) (h2 : x.n = y.n) : x = y := by
  cases x; cases y; simp_all
def FKey.val (k : FKey) : Value := .agg #[.int .i64 k.a, .int .i64 k.n]
theorem laidOut : laidOutB Tryd.prog = true := by kernel_rfl
theorem rowF : (90 : TypeId) < Tryd.prog.types.size := of_decide_eq_true (by kernel_rfl)
theorem wideF : (match Tryd.prog.underlying 90 with | some (.array _ _) | some (.struct _) => true | _ => false) = true := by rw [Tryd.underlying90]
set_option maxRecDepth 100000 in
theorem lawF : KeyLaw Tryd.prog 90 := deep_law_laid laidOut (m := 2) (by omega) rowF (by kernel_rfl) wideF
theorem keyedF : Keyed Tryd.prog 90 := Keyed.of_law lawF
theorem deepF : Tryd.prog.keyTypeAt (Tryd.prog.types.size + 1) 90 = true := by kernel_rfl
theorem cellsF : Tryd.prog.cellsOf 90 = 2 := by kernel_rfl
theorem cellsI : Tryd.prog.cellsOf 3 = 1 := by kernel_rfl
theorem formedF {c0 c1 : Value} : (Value.agg #[c0, c1]).formed Tryd.prog 90 = true := by simp [Value.formed, Tryd.underlying90, cellsF]
theorem wfN {j : Nat} (h : j < 65536) : (Lit.int .i64 (j : Int)).wf = true := by
  have e1 : IntKind.min .i64 = -9223372036854775808 := by decide
  have e2 : IntKind.max .i64 = 9223372036854775807 := by decide
  simp only [Lit.wf, e1, e2, Bool.and_eq_true, decide_eq_true_eq]; omega
theorem litsF (k : FKey) : Tryd.prog.keyLits (Tryd.prog.types.size + 1) 90 k.val.cells.toList = some [.int .i64 k.a, .int .i64 k.n] := by
  obtain ⟨m, hm⟩ : ∃ m, Tryd.prog.types.size = m + 1 := Nat.exists_eq_succ_of_ne_zero (Nat.ne_of_gt (Nat.lt_of_le_of_lt (Nat.zero_le _) rowF))
  have w1 := wfN k.ok.1
  have w2 := wfN k.ok.2
  rw [hm]
  simp [FKey.val, Value.cells, Program.keyLits, Tryd.underlying90, Tryd.underlying3, cellsF, cellsI, w1, w2]
/-- The key as the map's list bears it. -/
def keyN (k : FKey) : Lit := .string (keyBytes [.int .i64 k.a, .int .i64 k.n])
theorem keyOfF (k : FKey) : keyOf Tryd.prog 90 k.val = some (keyN k) := by
  unfold keyOf
  rw [Tryd.underlying90]
  have h1 : Tryd.prog.keyType 90 = true := by kernel_rfl
  have h2 : k.val.formed Tryd.prog 90 = true := formedF
  simp only [h1, h2, Bool.and_self, if_true, litsF, Option.map_some]
  rfl
theorem keyN_inj {a b : FKey} (h : keyN a = keyN b) : a = b := by
  have ha := keyOfF a
  have hb := keyOfF b
  rw [← h] at hb
  have e := keyedF.inj ha hb
  simp only [FKey.val, Value.agg.injEq, Array.mk.injEq, List.cons.injEq, Value.int.injEq, and_true, true_and] at e
  exact FKey.eq (by omega) (by omega)
theorem keyN_key (k : FKey) : WideAt.IsKeyLit (keyN k) := by trivial
end Go.Proofs.YtoppfhbpmmepaaaDoor.functors
