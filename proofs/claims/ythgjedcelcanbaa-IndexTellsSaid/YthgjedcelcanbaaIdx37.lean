
/- Selection by keys: the reference's Add, in front; its Drop. -/
import Derived.Test.YthgjedcelcanbaaIdx36
namespace Go.Proofs.Ythgjedcelcanbaa.idx
set_option maxRecDepth 100000
open Go.RowKit Go.Proofs.Ythgjedcelcanbaa.own Go.Lib Go.Maps Go.WideMaps
section
variable {B b : Nat} {M : List Pr} {ao : Option Addr} {cap : Nat} {w W W' : World}
set_option maxHeartbeats 8000000 in
theorem radd_front (h : RT B b M ao cap w) (hB : B ≤ b) (i : Int) (k : Ky) (hn : M.length ≤ 100000) (ha : atF i M = none) (hl : M.length < 4096) : Calls Try.prog 20 #[.pointer (some ⟨b, 0, none⟩), .int .i64 i, kyV k, .bool true] w fun e w' => e = .returned (.int .i64 0) ∧ (∃ ao' cap', RT B b (⟨i, k⟩ :: M) ao' cap' w' ∧ NewRow w.heap.size ao ao') ∧ Only (RS b ao) w w' := by
  obtain ⟨E, hE⟩ : ∃ E, E = w.alloc (.cells #[.int .i64 k.k, .string k.s, .int .i64 k.n] 32) := ⟨_, rfl⟩
  have ho : Only (fun _ => False) w E := by rw [hE]; exact Only.alloc _ _ _
  have HO := Lib.hid ho
  have HKB := key_boxes w k
  rw [← hE] at HKB
  have HA := Lib.hid (at_any (h.later ho) i (by omega))
  have hi : atI i M = -1 := by unfold atI; rw [ha]
  rw [hi] at HA
  have HTQ := Lib.hid (h.later ho)
  have HBL : Hid (w.heap.size < E.heap.size) := Lib.hid (by rw [hE]; simp)
  have c0 := (h.later ho).cell
  have hge : ¬ (M.length : Int) ≥ 4096 := by omega
  obtain ⟨i0, hi0, hz0, hz1, hz2⟩ := info_parts infoP
  have HBB := Lib.hid hB
  clear h ho ha hi hB
  go_enter Try.func20, Try.ntmps20
  go_upto_region 2 with fail
  rw [← hE]
  clear hE
  generalize hbx : w.heap.size = bx at *
  go_wp2_with fail
  refine HA.out.mono ?_
  rintro e w1 ⟨rfl, rfl⟩
  rename_i hw1
  have HRW : Hid (∀ W, Only (fun _ => False) w1 W → RT B b M ao cap W) := Lib.hid (fun W ho => HTQ.out.later ho)
  have HBS : Hid (∀ W, Only (fun _ => False) w1 W → B ≤ W.heap.size) := Lib.hid (fun W ho => Nat.le_trans (Nat.le_trans HBB.out (Nat.le_of_lt (lt_of_block HTQ.out.box))) ho.size)
  obtain ⟨d0, d1, d2⟩ := HKB.out w1 (Only.refl _ _)
  have oA : Only (fun _ => False) w1 ((w1.alloc (.cells #[.int .i64 i, .int .i64 k.k, .string k.s, .int .i64 k.n] 64)).drew) := (Only.alloc _ _ _).same (Only.drew _ _)
  have cbA := (HRW.out _ oA).cell
  obtain ⟨e0, e1, e2⟩ := HKB.out _ oA
  clear oA
  go_wp2_with fail
  go_region_law
    ((refine step_append_many liesP (by rfl) (.tmp 39) (.tmp 43) 26 (by rfl) w1.heap.size 64 i0 _ 40 Try.underlying26 hi0 hz0 hz1 hz2 rfl (by omega) _ (some ⟨w1.heap.size, 0, none⟩) 1 [⟨i, k⟩] (by rfl) (one_of liesP (z := (⟨i, k⟩ : Pr)) (by first | exact heap_alloc_new _ _ | exact heap_alloc_new w1 _) (Nat.le_refl _)) ao cap M (by rfl) (RowOf.src (HRW.out _ (by first | exact Only.alloc _ _ _ | exact (Only.drew _ _).same (Only.alloc _ _ _) | exact (Only.alloc _ _ _).same (Only.drew _ _))).row) (by simp; omega) (by simp) ?_
      intro ao2 cap2 w6 hrow6 ho6 hnew6
      have HO5 : Hid (Only (fun q => w1.heap.size ≤ q) w1 w6) := Lib.hid (Only.trans (S := fun q => w1.heap.size ≤ q) (by first | exact Only.alloc _ _ _ | exact (Only.drew _ _).same (Only.alloc _ _ _) | exact (Only.alloc _ _ _).same (Only.drew _ _)) ho6 (fun q _ e => by obtain ⟨g, hg, e⟩ := e; cases hg; exact Nat.le_of_eq e.symm))
      have HG := Lib.hid (RT.moved (HRW.out w1 (Only.refl _ _)) HBB.out hrow6 HO5.out ([(⟨i, k⟩ : Pr)].length + M.length) List.length_append.symm)
      have cb6 := HG.out.2.2.1
      have fb6 := HG.out.2.2.2
      have HN6 := Lib.hid (fun (g : Addr) (hg : ao2 = some g) => (hrow6.head g hg).2.1)
      clear hrow6 ho6 hnew6))
  all_goals
    have HFIN : Hid ((∃ ao' cap', RT B b (⟨i, k⟩ :: M) ao' cap' (w6.setCell ⟨b, 0, none⟩ (.slice ao2 ([(⟨i, k⟩ : Pr)].length + M.length) cap2)) ∧ NewRow bx ao ao') ∧ Only (RS b ao) w (w6.setCell ⟨b, 0, none⟩ (.slice ao2 ([(⟨i, k⟩ : Pr)].length + M.length) cap2))) := Lib.hid ⟨⟨ao2, cap2, HG.out.1, fun g hg => .inr (Nat.le_trans (Nat.le_of_lt HBL.out) (HN6.out g hg))⟩, (HO.out.mono (fun _ _ e => e.elim)).trans HG.out.2.1 (fun _ _ e => e)⟩
    clear HG HO5 HN6 cb6 fb6 HRW HBS HO HTQ
    go_wp2_with fail
    go_ret
    refine ⟨rfl, ?_⟩
    rw [hbx]
    exact HFIN.out
theorem rdrop_no (h : RT B b M ao cap w) (i : Int) (hn : M.length ≤ 100000) (ha : atF i M = none) : Calls Try.prog 21 #[.pointer (some ⟨b, 0, none⟩), .int .i64 i] w fun e w' => e = .returned (.int .i64 4) ∧ Only (fun _ => False) w w' := by
  have HA := Lib.hid (at_any h i (by omega))
  have hi : atI i M = -1 := by unfold atI; rw [ha]
  rw [hi] at HA
  clear h ha hi
  go_enter Try.func21, Try.ntmps21
  go_wp2_with fail
  refine HA.out.mono ?_
  rintro e w1 ⟨rfl, rfl⟩
  go_wp2_with fail
  go_ret
  exact ⟨rfl, Only.refl _ _⟩
set_option maxHeartbeats 8000000 in
theorem rdrop_yes (h : RT B b M ao cap w) (hB : B ≤ b) (i : Int) (hn : M.length ≤ 100000) {j : Nat} (ha : atF i M = some j) : Calls Try.prog 21 #[.pointer (some ⟨b, 0, none⟩), .int .i64 i] w fun e w' => e = .returned (.int .i64 0) ∧ (∃ ao' cap', RT B b (M.take j ++ M.drop (j + 1)) ao' cap' w' ∧ NewRow w.heap.size ao ao') ∧ Only (RS b ao) w w' := by
  have HA := Lib.hid (at_any h i (by omega))
  have hi : atI i M = (j : Int) := by unfold atI; rw [ha]
  rw [hi] at HA
  have hj := at_len ha
  have HT := Lib.hid h
  have HBB := Lib.hid hB
  have c0 := h.cell
  have p2 : ¬ (j : Int) < 0 := by omega
  have p0 : (0 : Int) ≤ (j : Int) := by omega
  have p1 : (j : Int) ≤ (cap : Int) := by have := h.row.cap_ge; omega
  obtain ⟨i0, hi0, hz0, hz1, hz2⟩ := info_parts infoP
  obtain ⟨hf1, hf2⟩ := part_front (P := Try.prog) liesP Try.underlying26 sizeP h.row j (by omega)
  obtain ⟨m, hm⟩ : ∃ m : Nat, m = j + 1 := ⟨_, rfl⟩
  have hw1 : IntKind.i64.wrap ((j : Int) + 1) = (m : Int) := by rw [hm, IntWalk.i64_in _ (by omega)]; omega
  have p3 : (0 : Int) ≤ (m : Int) := by omega
  have p4 : (m : Int) ≤ (M.length : Int) := by omega
  obtain ⟨bo, hb1, hb2⟩ := part_back (P := Try.prog) liesP Try.underlying26 sizeP h.row m (by omega)
  have HF2 := Lib.hid hf2
  have HB2 := Lib.hid hb2
  have HK : Hid (∀ W, Only (fun q => w.heap.size ≤ q) w W → W.cell? ⟨b, 0, none⟩ = some (.slice ao M.length cap)) := Lib.hid (fun W ho => by
    have hbq := lt_of_block h.box
    exact (ho.cell (p := ⟨b, 0, none⟩) hbq (fun e => absurd (Nat.lt_of_lt_of_le hbq e) (Nat.lt_irrefl _))).trans c0)
  have HFL : Hid ((M.take j).length = j ∧ (M.drop m).length = M.length - m ∧ j ≤ 100000 ∧ M.length - m ≤ 100000) := Lib.hid ⟨by rw [List.length_take]; omega, by rw [List.length_drop], by omega, by omega⟩
  rw [← hm]
  clear hf2 hb2 h hm ha hi hj hB
  generalize M.take j = f at *
  generalize M.drop m = bk at *
  have oE : Only (fun q => w.heap.size ≤ q) w ((w.alloc (.cells #[] 64)).drew) := (Only.alloc _ _ _).same (Only.drew _ _)
  have e0 := HK.out _ oE
  have HOE := Lib.hid oE
  clear oE
  go_enter Try.func21, Try.ntmps21
  go_wp2_with fail
  refine HA.out.mono ?_
  rintro e w1 ⟨rfl, rfl⟩
  rename_i hw1
  go_wp2_with fail
  go_region_law
    (first
    | (refine step_append_many liesP (by rfl) (.tmp 12) (.tmp 18) 26 (by rfl) w1.heap.size 64 i0 _ 40 Try.underlying26 hi0 hz0 hz1 hz2 rfl (by omega) ((w1.alloc (.cells #[] 64)).drew) (some ⟨w1.heap.size, 0, none⟩) 0 [] (by rfl) (emp_of (heap_alloc_new w1 _) (Nat.le_refl _)) ao cap f (by rw [HFL.out.1]; rfl) (HF2.out _ HOE.out) (by rw [HFL.out.1]; have := HFL.out.2.2.1; simp; omega) HOE.out.size ?_
       intro a1 c1 w5 hr1 ho1 hn1
       have HR1 := Lib.hid hr1
       have HO5 := Lib.hid (HOE.out.same (at_new (emp_of (enc := encP) (s := 4) (heap_alloc_new w1 _) (Nat.le_refl _)) ho1))
       have d0 := HK.out _ HO5.out
       clear hr1 ho1 hn1
       have HL1 : Hid (([] ++ f : List Pr).length = ([] : List Pr).length + f.length) := Lib.hid (by simp)
       have HE1 : Hid (([] ++ f : List Pr) = f) := Lib.hid (List.nil_append _)
       rw [← HL1.out]
       generalize ([] ++ f : List Pr) = o1 at *)
    | (refine step_append_many liesP (by rfl) (.tmp 19) (.tmp 26) 26 (by rfl) w1.heap.size 64 i0 _ 40 Try.underlying26 hi0 hz0 hz1 hz2 rfl (by omega) w5 a1 c1 o1 (by rfl) HR1.out bo (cap - m) bk (by rw [HFL.out.2.1]; rfl) (HB2.out _ HO5.out) (by rw [HE1.out, HFL.out.1, HFL.out.2.1]; have := HFL.out.2.2; omega) HO5.out.size ?_
       intro a3 c3 w7 hr3 ho3 hn3
       have HR3 := Lib.hid hr3
       have HO7 := Lib.hid (HO5.out.same (at_new HR1.out ho3))
       clear hr3 ho3 hn3
       have HE3 : Hid ((o1 ++ bk : List Pr) = f ++ bk) := Lib.hid (by rw [HE1.out])
       have HL3 : Hid ((o1 ++ bk : List Pr).length = o1.length + bk.length) := Lib.hid (by simp)
       rw [← HL3.out]
       generalize (o1 ++ bk : List Pr) = o3 at *
       have HG := Lib.hid (RT.moved HT.out HBB.out HR3.out HO7.out o3.length rfl)
       have cb6 := HG.out.2.2.1
       have fb6 := HG.out.2.2.2))
  all_goals
    have HFIN : Hid ((∃ ao' cap', RT B b (f ++ bk) ao' cap' (w7.setCell ⟨b, 0, none⟩ (.slice a3 o3.length c3)) ∧ NewRow w1.heap.size ao ao') ∧ Only (RS b ao) w1 (w7.setCell ⟨b, 0, none⟩ (.slice a3 o3.length c3))) := Lib.hid ⟨⟨a3, c3, HE3.out ▸ HG.out.1, fun g hg => .inr (HR3.out.head g hg).2.1⟩, HG.out.2.1⟩
    clear HR1 HR3 HO5 HO7 HE1 HE3 HL1 HL3 HK HF2 HB2 HG cb6 fb6 HT
    go_wp2_with fail
    go_ret
    exact ⟨rfl, HFIN.out⟩
end
end Go.Proofs.Ythgjedcelcanbaa.idx
