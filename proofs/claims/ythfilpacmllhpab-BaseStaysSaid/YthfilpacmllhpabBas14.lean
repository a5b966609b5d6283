/- Clauses by generations: the sort of one. -/
import Derived.Test.YthfilpacmllhpabBas13
namespace Go.Proofs.Ythfilpacmllhpab.bases
set_option maxRecDepth 100000
open Go.RowKit Go.Proofs.Ythfilpacmllhpab.own Go.Lib Go.Maps Go.WideMaps Go.Proofs.Ythfilpacmllhpab.idx Go.Proofs.Ythfilpacmllhpab.terms
theorem len64_one (w : World) : Calls Try.prog 82 #[.int .u64 1] w fun e w' => (∃ v, e = .returned v) ∧ w' = w := by
  go_enter Try.func82, Try.ntmps82
  go_wp2_with fail
  go_ret
  first | exact ⟨⟨_, rfl⟩, rfl⟩ | exact ⟨_, rfl⟩ | trivial | skip
theorem len_one (w : World) : Calls Try.prog 63 #[.int .u64 1] w fun e w' => (∃ v, e = .returned v) ∧ w' = w := by
  have HL := Lib.hid (len64_one w)
  go_enter Try.func63, Try.ntmps63
  go_wp2_with fail
  refine HL.out.mono ?_
  rintro e w1 ⟨⟨v, rfl⟩, rfl⟩
  go_wp2_with fail
  go_ret
  first | exact ⟨⟨_, rfl⟩, rfl⟩ | exact ⟨_, rfl⟩ | trivial | skip
theorem insertion_one (v f : Value) (w : World) : Calls Try.prog 73 #[v, .int .i64 0, .int .i64 1, f] w fun e w' => e = .returned (.tuple #[]) ∧ w' = w := by
  go_enter Try.func73, Try.ntmps73
  go_wp2_with fail
  go_loopw [8] (fun iv wr => iv = .int .i64 1 ∧ wr = w) (fun _ _ => 0)
  case atStart => exact ⟨rfl, rfl⟩
  case round =>
    obtain ⟨rfl, rfl⟩ := hrel
    go_wp2_with fail
    go_end0
    exact ⟨rfl, rfl⟩
theorem pdq_one (v f l : Value) (w : World) : Calls Try.prog 62 #[v, .int .i64 0, .int .i64 1, l, f] w fun e w' => e = .returned (.tuple #[]) ∧ w' = w := by
  have HI := Lib.hid (insertion_one v f w)
  go_enter Try.func62, Try.ntmps62
  go_wp2_with fail
  go_loopw [1, 2] (fun av bv wr => av = .int .i64 0 ∧ bv = .int .i64 1 ∧ wr = w) (fun _ _ _ => 0)
  case atStart => exact ⟨rfl, rfl, rfl⟩
  case round =>
    obtain ⟨rfl, rfl, rfl⟩ := hrel
    go_wp2_with fail
    refine HI.out.mono ?_
    rintro e w1 ⟨rfl, rfl⟩
    go_wp2_with fail
    refine bodyPost_ret (results_none rfl _ _ _) rfl ?_
    exact ⟨rfl, rfl⟩
theorem sort_one (ao : Option Addr) (cap : Nat) (f : Value) (w : World) : Calls Try.prog 42 #[.slice ao 1 cap, f] w fun e w' => e = .returned (.tuple #[]) ∧ w' = w := by
  have HL := Lib.hid (len_one w)
  have HP := Lib.hid (fun l => pdq_one (.slice ao 1 cap) f l w)
  go_enter Try.func42, Try.ntmps42
  go_wp2_with fail
  refine HL.out.mono ?_
  rintro e w1 ⟨⟨v, rfl⟩, rfl⟩
  go_wp2_with fail
  refine (HP.out v).mono ?_
  rintro e w1 ⟨rfl, rfl⟩
  go_wp2_with fail
  go_end0
  exact ⟨rfl, rfl⟩
/-- The predicates told, where there is one. -/
theorem preds_one {b pm N : Nat} {sl : List Sl} {p : Pc} {lim gen low : Int} {so : Option Addr} {sc np : Nat} {Dp : D3} {w : World} (h : BI b pm N sl [p] lim gen low so sc np Dp w) :
    Calls Try.prog 12 #[.pointer (some ⟨b, 0, none⟩)] w fun e w' => ∃ ao cap, e = .returned (.slice ao 1 cap) ∧ RowPd (w.heap.size + 1) ao cap [pdF p] w' ∧ Only (fun _ => False) w w' := by
  refine (preds_any h (by simp) (Lib.hid (fun ao cap ys W hp hr ho => ?_))).mono ?_
  · have hl : ys.length = 1 := by have := hp.length_eq; simpa using this
    rw [hl]
    refine (sort_one ao cap _ W).mono ?_
    rintro e w' ⟨rfl, rfl⟩
    exact ⟨rfl, ys, List.Perm.refl _, hr, Only.refl _ _⟩
  · rintro e w' ⟨ao, cap, zs, rfl, hp, hr, ho⟩
    have hz : zs = [pdF p] := List.perm_singleton.1 (by simpa using hp.symm)
    subst hz
    exact ⟨ao, cap, rfl, hr, ho⟩
end Go.Proofs.Ythfilpacmllhpab.bases
