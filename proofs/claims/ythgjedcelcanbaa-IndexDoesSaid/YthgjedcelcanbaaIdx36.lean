
/- Selection by keys: the reference's Add. -/
import Derived.Test.YthgjedcelcanbaaIdx35
namespace Go.Proofs.Ythgjedcelcanbaa.idx
set_option maxRecDepth 100000
open Go.RowKit Go.Proofs.Ythgjedcelcanbaa.own Go.Lib Go.Maps Go.WideMaps
section
variable {B b : Nat} {M : List Pr} {ao : Option Addr} {cap : Nat} {w W W' : World}
theorem radd_there (h : RT B b M ao cap w) (i : Int) (k : Ky) (f : Bool) (hn : M.length ≤ 100000) {j : Nat} (ha : atF i M = some j) : Calls Try.prog 20 #[.pointer (some ⟨b, 0, none⟩), .int .i64 i, kyV k, .bool f] w fun e w' => e = .returned (.int .i64 5) ∧ Only (fun _ => False) w w' := by
  obtain ⟨E, hE⟩ : ∃ E, E = w.alloc (.cells #[.int .i64 k.k, .string k.s, .int .i64 k.n] 32) := ⟨_, rfl⟩
  have ho : Only (fun _ => False) w E := by rw [hE]; exact Only.alloc _ _ _
  have HO := Lib.hid ho
  have HA := Lib.hid (at_any (h.later ho) i (by omega))
  have hi : atI i M = (j : Int) := by unfold atI; rw [ha]
  rw [hi] at HA
  have hge : (j : Int) ≥ 0 := by omega
  clear h ho ha hi
  go_enter Try.func20, Try.ntmps20
  go_upto_region 2 with fail
  rw [← hE]
  clear hE
  go_wp2_with fail
  refine HA.out.mono ?_
  rintro e w1 ⟨rfl, rfl⟩
  go_wp2_with fail
  go_ret
  exact ⟨rfl, HO.out⟩
theorem radd_full (h : RT B b M ao cap w) (i : Int) (k : Ky) (f : Bool) (hn : M.length ≤ 100000) (ha : atF i M = none) (hl : 4096 ≤ M.length) : Calls Try.prog 20 #[.pointer (some ⟨b, 0, none⟩), .int .i64 i, kyV k, .bool f] w fun e w' => e = .returned (.int .i64 2) ∧ Only (fun _ => False) w w' := by
  obtain ⟨E, hE⟩ : ∃ E, E = w.alloc (.cells #[.int .i64 k.k, .string k.s, .int .i64 k.n] 32) := ⟨_, rfl⟩
  have ho : Only (fun _ => False) w E := by rw [hE]; exact Only.alloc _ _ _
  have HO := Lib.hid ho
  have HA := Lib.hid (at_any (h.later ho) i (by omega))
  have hi : atI i M = -1 := by unfold atI; rw [ha]
  rw [hi] at HA
  have c0 := (h.later ho).cell
  have hge : (M.length : Int) ≥ 4096 := by omega
  generalize M.length = n at *
  clear h ho ha hi
  go_enter Try.func20, Try.ntmps20
  go_upto_region 2 with fail
  rw [← hE]
  clear hE
  go_wp2_with fail
  refine HA.out.mono ?_
  rintro e w1 ⟨rfl, rfl⟩
  go_wp2_with fail
  go_ret
  exact ⟨rfl, HO.out⟩
theorem key_boxes (w : World) (k : Ky) : Hid (∀ W, Only (fun _ => False) (w.alloc (.cells #[.int .i64 k.k, .string k.s, .int .i64 k.n] 32)) W → W.cell? ⟨w.heap.size, 0, none⟩ = some (.int .i64 k.k) ∧ W.cell? ⟨w.heap.size, 1, none⟩ = some (.string k.s) ∧ W.cell? ⟨w.heap.size, 2, none⟩ = some (.int .i64 k.n)) := Lib.hid (fun W o => (Three.only (b := w.heap.size) (heap_alloc_new w _) o (fun e => e)).cells)
set_option maxHeartbeats 8000000 in
theorem radd_back (h : RT B b M ao cap w) (hB : B ≤ b) (i : Int) (k : Ky) (hn : M.length ≤ 100000) (ha : atF i M = none) (hl : M.length < 4096) : Calls Try.prog 20 #[.pointer (some ⟨b, 0, none⟩), .int .i64 i, kyV k, .bool false] w fun e w' => e = .returned (.int .i64 0) ∧ (∃ ao' cap', RT B b (M ++ [⟨i, k⟩]) ao' cap' w' ∧ NewRow w.heap.size ao ao') ∧ Only (RS b ao) w w' := by
  obtain ⟨E, hE⟩ : ∃ E, E = w.alloc (.cells #[.int .i64 k.k, .string k.s, .int .i64 k.n] 32) := ⟨_, rfl⟩
  have ho : Only (fun _ => False) w E := by rw [hE]; exact Only.alloc _ _ _
  have HO := Lib.hid ho
  have HKB := key_boxes w k
  rw [← hE] at HKB
  have HA := Lib.hid (at_any (h.later ho) i (by omega))
  have hi : atI i M = -1 := by unfold atI; rw [ha]
  rw [hi] at HA
  have HTQ := Lib.hid (h.later ho)
  have HBL : Hid (w.heap.size < E.heap.size) := Lib.hid (by rw [hE]; simp)
  have c0 := (h.later ho).cell
  have hge : ¬ (M.length : Int) ≥ 4096 := by omega
  obtain ⟨i0, hi0, hz0, hz1, hz2⟩ := info_parts infoP
  have HBB := Lib.hid hB
  clear h ho ha hi hB
  go_enter Try.func20, Try.ntmps20
  go_upto_region 2 with fail
  rw [← hE]
  clear hE
  generalize hbx : w.heap.size = bx at *
  go_wp2_with fail
  refine HA.out.mono ?_
  rintro e w1 ⟨rfl, rfl⟩
  rename_i hw1
  have HRW : Hid (∀ W, Only (fun _ => False) w1 W → RT B b M ao cap W) := Lib.hid (fun W ho => HTQ.out.later ho)
  have HBS : Hid (∀ W, Only (fun _ => False) w1 W → B ≤ W.heap.size) := Lib.hid (fun W ho => Nat.le_trans (Nat.le_trans HBB.out (Nat.le_of_lt (lt_of_block HTQ.out.box))) ho.size)
  obtain ⟨d0, d1, d2⟩ := HKB.out w1 (Only.refl _ _)
  have oA : Only (fun _ => False) w1 ((w1.alloc (.cells #[.int .i64 i, .int .i64 k.k, .string k.s, .int .i64 k.n] 64)).drew) := (Only.alloc _ _ _).same (Only.drew _ _)
  have cbA := (HRW.out _ oA).cell
  obtain ⟨e0, e1, e2⟩ := HKB.out _ oA
  clear oA
  go_wp2_with fail
  go_region_law
    ((refine step_append_many liesP (by rfl) (.tmp 13) (.tmp 17) 26 (by rfl) B 64 i0 _ 40 Try.underlying26 hi0 hz0 hz1 hz2 rfl (by omega) _ ao cap M (by rfl) (HRW.out _ (by first | exact Only.alloc _ _ _ | exact (Only.drew _ _).same (Only.alloc _ _ _) | exact (Only.alloc _ _ _).same (Only.drew _ _))).row (some ⟨w1.heap.size, 0, none⟩) 1 [⟨i, k⟩] (by rfl) (RowOf.src (one_of liesP (z := (⟨i, k⟩ : Pr)) (N := 0) (by first | exact heap_alloc_new _ _ | exact heap_alloc_new w1 _) (Nat.zero_le _))) (by simp; omega) (HBS.out _ (by first | exact Only.alloc _ _ _ | exact (Only.drew _ _).same (Only.alloc _ _ _) | exact (Only.alloc _ _ _).same (Only.drew _ _))) ?_
      intro ao2 cap2 w6 hrow6 ho6 hnew6
      have HG := Lib.hid (RT.grown (HRW.out _ (by first | exact Only.alloc _ _ _ | exact (Only.drew _ _).same (Only.alloc _ _ _) | exact (Only.alloc _ _ _).same (Only.drew _ _))) hrow6 ho6 hnew6 (M.length + 1) (by simp))
      have HO6 : Hid (Only (RS b ao) w1 (w6.setCell ⟨b, 0, none⟩ (.slice ao2 (M.length + 1) cap2))) := Lib.hid (Only.trans (S := RS b ao) (by first | exact Only.alloc _ _ _ | exact (Only.drew _ _).same (Only.alloc _ _ _) | exact (Only.alloc _ _ _).same (Only.drew _ _)) HG.out.2.1 (fun _ _ e => e))
      have HN6 : Hid (NewRow w1.heap.size ao ao2) := Lib.hid (fun g hg => (hnew6 g hg).imp id (fun e => Nat.le_trans (by simp) e))
      have cb6 := HG.out.2.2.1
      have fb6 := HG.out.2.2.2
      clear hrow6 ho6 hnew6))
  all_goals
    have HFIN : Hid ((∃ ao' cap', RT B b (M ++ [⟨i, k⟩]) ao' cap' (w6.setCell ⟨b, 0, none⟩ (.slice ao2 (M.length + 1) cap2)) ∧ NewRow bx ao ao') ∧ Only (RS b ao) w (w6.setCell ⟨b, 0, none⟩ (.slice ao2 (M.length + 1) cap2))) := Lib.hid ⟨⟨ao2, cap2, HG.out.1, fun g hg => (HN6.out g hg).imp id (fun e => Nat.le_trans (Nat.le_of_lt HBL.out) e)⟩, (HO.out.mono (fun _ _ e => e.elim)).trans HO6.out (fun _ _ e => e)⟩
    clear HG HO6 HN6 cb6 fb6 HRW HBS HO HTQ
    go_wp2_with fail
    go_ret
    refine ⟨rfl, ?_⟩
    rw [hbx]
    exact HFIN.out
end
end Go.Proofs.Ythgjedcelcanbaa.idx
