/- Operators: two lists are alike (the reference's Same); lists of operators that came in. -/
import Derived.Laws.StructEq
import Derived.Test.YtodgjkdhkohckaaDoorOper23
namespace Go.Proofs.YtodgjkdhkohckaaDoor.opers
open Go.RowKit Go.Proofs.YtodgjkdhkohckaaDoor.own Go.Maps Go.Proofs.YtodgjkdhkohckaaDoor.toks
def eqO (x y : Op3) : Bool := (x.p == y.p) && ((x.k == y.k) && (x.n.toList == y.n.toList))
theorem equalO (x y : Op3) (w : World) : (Op.equalIn 10000 32 (aggO x) (aggO y)).run Tryd.prog w = .ok (eqO x y) w := by
  rw [run_equalIn_agg w 9999 32 _ _ (by kernel_rfl) (by kernel_rfl)]
  unfold eqO
  cases h1 : (x.p == y.p) <;> cases h2 : (x.k == y.k) <;> by_cases h3 : x.n.toList = y.n.toList <;> simp [h3, Program.fieldsOf, Tryd.underlying32, Op.eqFields, part, go_sem, run_equalIn_int, run_equalIn_string, Tryd.underlying3, Tryd.underlying9, h1, h2, Tryd.isAgg3, Tryd.isAgg9]
theorem neqO (x y : Op3) (w : World) : (binOp .neq 32 (aggO x) (aggO y)).run Tryd.prog w = .ok (.bool (!(eqO x y))) w := by
  rw [run_neq_struct, equalO]
  rfl
theorem eqqO (x y : Op3) (w : World) : (binOp .eql 32 (aggO x) (aggO y)).run Tryd.prog w = .ok (.bool (eqO x y)) w := by
  rw [run_eql_struct, equalO]
  rfl
theorem eqO_self (x : Op3) : eqO x x = true := by unfold eqO; simp
theorem eqO_iff {x y : Op3} : eqO x y = true ↔ x = y := by
  constructor
  · intro h
    unfold eqO at h
    simp only [Bool.and_eq_true, beq_iff_eq] at h
    obtain ⟨h1, h2, h3⟩ := h
    rw [ByteArray.toList_eq, ByteArray.toList_eq] at h3
    obtain ⟨p, k, ⟨n⟩⟩ := x
    obtain ⟨p', k', ⟨n'⟩⟩ := y
    have e : n = n' := Array.toList_inj.1 h3
    simp only at h1 h2
    rw [h1, h2, e]
  · rintro rfl
    exact eqO_self x
set_option maxRecDepth 100000 in
set_option maxHeartbeats 4000000 in
theorem same_any (xs : List Op3) (b1 b2 : Nat) (ao bo : Option Addr) (ac bc : Nat) (w : World) (h1 : RowO b1 ao xs w) (h2 : RowO b2 bo xs w) (hn : xs.length ≤ 1000000) : Calls Tryd.prog 11 #[.slice ao xs.length ac, .slice bo xs.length bc] w fun e w' => e = .returned (.bool true) ∧ Only (fun _ => False) w w' := by
  have HR : Hid (∀ W, Only (fun _ => False) w W → RowO b1 ao xs W ∧ RowO b2 bo xs W) := Lib.hid (fun W ho => ⟨h1.only ho (fun _ _ _ e => e), h2.only ho (fun _ _ _ e => e)⟩)
  have HO0 : Hid (Only (fun _ => False) w w) := Lib.hid (Only.refl _ _)
  clear h1 h2
  go_enter Tryd.func11, Tryd.ntmps11
  go_wp2_with fail
  go_loopw [5] (fun i wr => ∃ j : Nat, i = .int .i64 j ∧ j ≤ xs.length ∧ Hid (Only (fun _ => False) w wr)) (fun i _ => xs.length - (intOf i).toNat)
  case atStart => exact ⟨0, rfl, by omega, HO0⟩
  case round =>
    obtain ⟨j, rfl, hj, hI⟩ := hrel
    clear HO0
    by_cases hlt : j < xs.length
    · obtain ⟨x, hx⟩ : ∃ x, xs[j]? = some x := ⟨_, List.getElem?_eq_getElem hlt⟩
      obtain ⟨g1, rfl, hg1, hl1, c0, c1, c2⟩ := (HR.out wr hI.out).1 j x hx
      obtain ⟨g2, rfl, hg2, hl2, d0, d1, d2⟩ := (HR.out wr hI.out).2 j x hx
      have hq : ∀ q, (binOp .neq 32 (.agg #[.int .i64 x.p, .int .i64 x.k, .string x.n]) (.agg #[.int .i64 x.p, .int .i64 x.k, .string x.n])).run Tryd.prog (wr.drewN q) = .ok (.bool false) (wr.drewN q) := fun q => by
        have := neqO x x (wr.drewN q)
        rw [eqO_self] at this
        exact this
      have h0 : (0 : Int) ≤ (j : Int) := by omega
      have h1 : (j : Int) < (xs.length : Int) := by omega
      clear hx hg1 hg2 hl1 hl2
      go_wp2_with fail
      go_quiet (fail)
      have HO1 := Lib.hid (hI.out.same (Only.drewN (fun _ => False) wr nq))
      go_wp2_with fail
      go_roundw
      case rel => exact ⟨j + 1, by go_num, by omega, HO1⟩
      case measure => simp [intOf]; omega
    · obtain rfl : j = xs.length := by omega
      go_wp2_with fail
      go_ret
      exact ⟨rfl, hI.out⟩
end Go.Proofs.YtodgjkdhkohckaaDoor.opers
