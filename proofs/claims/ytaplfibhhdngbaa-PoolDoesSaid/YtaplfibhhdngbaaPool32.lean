/- Two lists of the same items are told to be the same. -/
import Derived.Test.YtaplfibhhdngbaaPool30
namespace Go.Proofs.Ytaplfibhhdngbaa.pools
open Go.RowKit Go.Proofs.Ytaplfibhhdngbaa.own Go.Proofs.Ytaplfibhhdngbaa.trees Go.Proofs.Ytaplfibhhdngbaa.rows Go.Proofs.Ytaplfibhhdngbaa.frames
variable {w w' : World}
theorem row_cell {xs : List Nat} {B cap : Nat} {ro : Option Addr} (h : RowOf enc64 1 3 B ro cap xs w) (i : Nat) (hi : i < xs.length) : ∃ g, ro = some ⟨g, 0, none⟩ ∧ w.cell? ⟨g, i, none⟩ = some (.int .i64 (xs[i] : Nat)) := by
  obtain ⟨g, hg, _, hc⟩ := h.at lies64 i xs[i] (List.getElem?_eq_getElem hi)
  have h0 := (hc 0 (by omega)).1
  simp only [enc64, List.getElem?_cons_zero, Nat.mul_one, Nat.add_zero] at h0
  exact ⟨g, hg, h0⟩
theorem row_cells {xs : List (Nat × Nat)} {B cap : Nat} {ro : Option Addr} (h : RowOf encR 2 61 B ro cap xs w) (i : Nat) (hi : i < xs.length) : ∃ g, ro = some ⟨g, 0, none⟩ ∧ w.cell? ⟨g, i * 2, none⟩ = some (.int .i64 (xs[i].1 : Nat)) ∧ w.cell? ⟨g, i * 2 + 1, none⟩ = some (.int .i64 (xs[i].2 : Nat)) := by
  obtain ⟨g, hg, _, hc⟩ := h.at liesR i xs[i] (List.getElem?_eq_getElem hi)
  have h0 := (hc 0 (by omega)).1
  have h1 := (hc 1 (by omega)).1
  simp only [encR, List.getElem?_cons_zero, List.getElem?_cons_succ, Nat.add_zero] at h0 h1
  exact ⟨g, hg, h0, h1⟩
set_option maxRecDepth 100000 in
theorem sameInts_yes {xs : List Nat} {B1 c1 B2 c2 : Nat} {r1 r2 : Option Addr} (h1 : RowOf enc64 1 3 B1 r1 c1 xs w) (h2 : RowOf enc64 1 3 B2 r2 c2 xs w) (hn : xs.length ≤ 16777216) :
    Calls Try.prog 26 #[.slice r1 xs.length c1, .slice r2 xs.length c2] w fun e w' => e = .returned (.bool true) ∧ ∃ n, w' = w.drewN n := by
  have H1 := Lib.hid h1
  have H2 := Lib.hid h2
  clear h1 h2
  go_enter Try.func26, Try.ntmps26
  go_wp2_with fail
  go_loopw [5] (fun v wr => ∃ j : Nat, v = .int .i64 j ∧ j ≤ xs.length ∧ Hid (∃ N, wr = w.drewN N)) (fun v _ => xs.length - (intOf v).toNat)
  case atStart => exact ⟨0, rfl, by omega, Lib.hid ⟨0, rfl⟩⟩
  case round =>
    obtain ⟨j, rfl, hj, HW⟩ := hrel
    have HR1 := Lib.hid (H1.out.only (S := fun _ => False) (w' := wr) (by obtain ⟨N, e⟩ := HW.out; rw [e]; exact Only.drewN (fun _ => False) w N) (fun _ _ e => e))
    have HR2 := Lib.hid (H2.out.only (S := fun _ => False) (w' := wr) (by obtain ⟨N, e⟩ := HW.out; rw [e]; exact Only.drewN (fun _ => False) w N) (fun _ _ e => e))
    by_cases hlt : j < xs.length
    · obtain ⟨g1, rfl, d1⟩ := row_cell HR1.out j hlt
      obtain ⟨g2, rfl, d2⟩ := row_cell HR2.out j hlt
      have hjl : (j : Int) < (xs.length : Int) := by omega
      generalize xs[j] = x at *
      go_wp2_with fail
      go_quiet (fail)
      have HW' : Hid (∃ M, wr.drewN nq = w.drewN M) := Lib.hid (by obtain ⟨N, e⟩ := HW.out; exact ⟨N + nq, by rw [e, World.drewN_drewN]⟩)
      go_wp2_with fail
      go_roundw
      case rel => exact ⟨j + 1, by go_num, by omega, HW'⟩
      case measure => simp [intOf]; omega
    · have hjl : ¬ ((j : Int) < (xs.length : Int)) := by omega
      go_wp2_with fail
      go_ret
      exact ⟨rfl, HW.out⟩
set_option maxRecDepth 100000 in
theorem sameRuns_yes {xs : List (Nat × Nat)} {B1 c1 B2 c2 : Nat} {r1 r2 : Option Addr} (h1 : RowOf encR 2 61 B1 r1 c1 xs w) (h2 : RowOf encR 2 61 B2 r2 c2 xs w) (hn : xs.length ≤ 16777216) :
    Calls Try.prog 27 #[.slice r1 xs.length c1, .slice r2 xs.length c2] w fun e w' => e = .returned (.bool true) ∧ ∃ n, w' = w.drewN n := by
  have H1 := Lib.hid h1
  have H2 := Lib.hid h2
  clear h1 h2
  go_enter Try.func27, Try.ntmps27
  go_wp2_with fail
  go_loopw [5] (fun v wr => ∃ j : Nat, v = .int .i64 j ∧ j ≤ xs.length ∧ Hid (∃ N, wr = w.drewN N)) (fun v _ => xs.length - (intOf v).toNat)
  case atStart => exact ⟨0, rfl, by omega, Lib.hid ⟨0, rfl⟩⟩
  case round =>
    obtain ⟨j, rfl, hj, HW⟩ := hrel
    have HR1 := Lib.hid (H1.out.only (S := fun _ => False) (w' := wr) (by obtain ⟨N, e⟩ := HW.out; rw [e]; exact Only.drewN (fun _ => False) w N) (fun _ _ e => e))
    have HR2 := Lib.hid (H2.out.only (S := fun _ => False) (w' := wr) (by obtain ⟨N, e⟩ := HW.out; rw [e]; exact Only.drewN (fun _ => False) w N) (fun _ _ e => e))
    by_cases hlt : j < xs.length
    · obtain ⟨g1, rfl, d1, d1'⟩ := row_cells HR1.out j hlt
      obtain ⟨g2, rfl, d2, d2'⟩ := row_cells HR2.out j hlt
      have hjl : (j : Int) < (xs.length : Int) := by omega
      generalize xs[j].1 = x at *
      generalize xs[j].2 = y at *
      go_wp2_with fail
      go_quiet (fail)
      have HW' : Hid (∃ M, wr.drewN nq = w.drewN M) := Lib.hid (by obtain ⟨N, e⟩ := HW.out; exact ⟨N + nq, by rw [e, World.drewN_drewN]⟩)
      go_wp2_with fail
      go_roundw
      case rel => exact ⟨j + 1, by go_num, by omega, HW'⟩
      case measure => simp [intOf]; omega
    · have hjl : ¬ ((j : Int) < (xs.length : Int)) := by omega
      go_wp2_with fail
      go_ret
      exact ⟨rfl, HW.out⟩
end Go.Proofs.Ytaplfibhhdngbaa.pools
