/- Operators: the reference's Set, where something is set. -/
import Derived.Test.YtodgjkdhkohckaaDoorOper36
namespace Go.Proofs.YtodgjkdhkohckaaDoor.opers
open Go.RowKit Go.Proofs.YtodgjkdhkohckaaDoor.own Go.Maps Go.Sort Go.Shelf Go.Proofs.YtodgjkdhkohckaaDoor.toks
set_option maxRecDepth 100000 in
set_option maxHeartbeats 8000000 in
theorem rset_new (B b : Nat) (ao : Option Addr) (cap : Nat) (l : List Op3) (p k : Int) (s : ByteArray) (w : World) (h : RT B b ao cap l w) (hp : 0 < p) (h2 : ¬ p > 1200) (h3 : isTypeF k = true) (h4 : maysetB s = true) (h6 : l.any (keyB s (isPreF k)) = false) (h9 : l.length < 64) (hn : l.length ≤ 100000) : Calls Tryd.prog 40 #[.pointer (some ⟨b, 0, none⟩), .agg #[.int .i64 p, .int .i64 k, .string s]] w fun e w' => e = .returned (.int .i64 0) ∧ (∃ ao' cap', RT B b ao' cap' (l ++ [⟨p, k, s⟩]) w' ∧ NewRow w.heap.size ao ao') ∧ Only (RS b ao) w w' := by
  have h1 : ¬ p < 0 := by omega
  have h0 : (p == 0) = false := by rw [beq_eq_false_iff_ne]; omega
  have HB := opBoxes p k s w
  have HO0 : Hid (Only (fun _ => False) w (w.alloc (opC p k s))) := Lib.hid (Only.alloc _ _ _)
  have HT := Lib.hid h
  have HAT : Hid (∀ W, Only (fun _ => False) w W → Calls Tryd.prog 41 #[.pointer (some ⟨b, 0, none⟩), .string s, .bool (isPreF k)] W fun e w' => e = .returned (.int .i64 (-1)) ∧ w' = W) := Lib.hid (fun W ho => by have := at_any B b ao cap l s (isPreF k) W (h.later ho) (by omega); rw [atR_no h6] at this; exact this)
  have HPR : Hid (∀ W, Calls Tryd.prog 45 #[.int .i64 k] W fun e w' => e = .returned (.bool (isPreF k)) ∧ w' = W) := Lib.hid (rpre_any k)
  obtain ⟨c0, c1, c2⟩ := HB.out _ (Only.refl _ _)
  have hsz := mayset_size h4
  have HPL : Hid (∀ W, Calls Tryd.prog 56 #[.string s] W fun e w' => e = .returned (.bool (plainB s)) ∧ w' = W) := Lib.hid (fun W => rplain_str s W (by omega))
  obtain ⟨h7, h8⟩ := type_yes h3
  obtain ⟨g, g1, g2, g3⟩ := mays_yes h4
  rw [g] at HPL
  generalize isPreF k = kp at *
  clear h3 h4 h h6 g hsz
  go_enter Tryd.func40, Tryd.ntmps40
  go_wp2_with fail
  refine (HPL.out _).mono ?_
  rintro e w1 ⟨rfl, rfl⟩
  go_wp2_with fail
  go_quiet (first | (go_at_call 45; exact Calls.quiet_of_same (HPR.out _)) | (go_at_call 41; exact Calls.quiet_of_same (HAT.out _ (HO0.out.same (Only.drewN _ _ _)))))
  have HO1 : Hid (Only (fun _ => False) w ((w.alloc (opC p k s)).drewN nq)) := Lib.hid (HO0.out.same (Only.drewN _ _ _))
  have HBQ : Hid (∀ W, Only (fun _ => False) ((w.alloc (opC p k s)).drewN nq) W → W.cell? ⟨w.heap.size, 0, none⟩ = some (.int .i64 p) ∧ W.cell? ⟨w.heap.size, 1, none⟩ = some (.int .i64 k) ∧ W.cell? ⟨w.heap.size, 2, none⟩ = some (.string s)) := Lib.hid (fun W ho => HB.out W ((Only.drewN _ _ _).same ho))
  have HTQ := Lib.hid (HT.out.later HO1.out)
  have HBL : Hid (w.heap.size < ((w.alloc (opC p k s)).drewN nq).heap.size) := Lib.hid (by simp)
  have hbne : Hid (b < w.heap.size ∧ ∀ g, ao = some g → g.block < w.heap.size) := Lib.hid ⟨lt_of_block HT.out.box, fun g hg => (HT.out.row.head g hg).2.2⟩
  clear c0 c1 c2 HB HO0 HAT HPR HPL HT
  obtain ⟨c0, c1, c2⟩ := HBQ.out _ (Only.refl _ _)
  obtain ⟨cb, fb⟩ := HTQ.out.cell
  generalize (w.alloc (opC p k s)).drewN nq = wq at *
  generalize hbx : w.heap.size = bx at *
  have h9b : (l.length : Int) < 64 := by omega
  have i0 := infoO
  obtain ⟨i0, hi0, hz0, hz1, hz2⟩ := info_parts infoO
  have HRW : Hid (∀ W, Only (fun _ => False) wq W → RT B b ao cap l W) := Lib.hid (fun W ho => HTQ.out.later ho)
  have HBS : Hid (∀ W, Only (fun _ => False) wq W → B ≤ W.heap.size) := Lib.hid (fun W ho => Nat.le_trans (Nat.le_trans HTQ.out.ge (Nat.le_of_lt (lt_of_block HTQ.out.box))) ho.size)
  have oA : Only (fun _ => False) wq ((wq.alloc (.cells #[.int .i64 p, .int .i64 k, .string s] 32)).drew) := (Only.alloc _ _ _).same (Only.drew _ _)
  obtain ⟨cbA, fbA⟩ := (HRW.out _ oA).cell
  obtain ⟨d0, d1, d2⟩ := HBQ.out _ oA
  clear oA
  go_wp2_with fail
  go_region_law
    ((refine step_append_one lieO (by rfl) (.tmp 55) (.tmp 57) 29 (by rfl) B 32 i0 _ 32 Tryd.underlying29 hi0 hz0 hz1 hz2 rfl (by omega) _ ao cap l ⟨p, k, s⟩ [.int .i64 p, .int .i64 k, .string s] rfl (by rfl) (HRW.out _ (by first | exact Only.alloc _ _ _ | exact (Only.drew _ _).same (Only.alloc _ _ _) | exact (Only.alloc _ _ _).same (Only.drew _ _))).row _ _ (by first | exact heap_alloc_new _ _ | exact heap_alloc_new wq _) (by rfl) (by omega) (HBS.out _ (by first | exact Only.alloc _ _ _ | exact (Only.drew _ _).same (Only.alloc _ _ _) | exact (Only.alloc _ _ _).same (Only.drew _ _))) ?_
      intro ao2 cap2 w6 hrow6 ho6 hnew6
      have HG := Lib.hid (RT.grown (HRW.out _ (by first | exact Only.alloc _ _ _ | exact (Only.drew _ _).same (Only.alloc _ _ _) | exact (Only.alloc _ _ _).same (Only.drew _ _))) hrow6 ho6 hnew6)
      have HO6 : Hid (Only (RS b ao) wq (w6.setCell ⟨b, 0, none⟩ (.slice ao2 (l.length + 1) cap2))) := Lib.hid (Only.trans (S := RS b ao) (by first | exact Only.alloc _ _ _ | exact (Only.drew _ _).same (Only.alloc _ _ _) | exact (Only.alloc _ _ _).same (Only.drew _ _)) HG.out.2.1 (fun _ _ e => e))
      have HN6 : Hid (NewRow wq.heap.size ao ao2) := Lib.hid (fun g hg => (hnew6 g hg).imp id (fun e => Nat.le_trans (by simp) e))
      have cb6 := HG.out.2.2.1
      have fb6 := HG.out.2.2.2
      clear hrow6 ho6 hnew6))
  all_goals
    have HFIN : Hid ((∃ ao' cap', RT B b ao' cap' (l ++ [⟨p, k, s⟩]) (w6.setCell ⟨b, 0, none⟩ (.slice ao2 (l.length + 1) cap2)) ∧ NewRow bx ao ao') ∧ Only (RS b ao) w (w6.setCell ⟨b, 0, none⟩ (.slice ao2 (l.length + 1) cap2))) := Lib.hid ⟨⟨ao2, cap2, HG.out.1, fun g hg => (HN6.out g hg).imp id (fun e => Nat.le_trans (Nat.le_of_lt HBL.out) e)⟩, (HO1.out.mono (fun _ _ e => e.elim)).trans HO6.out (fun _ _ e => e)⟩
    clear HG HO6 HN6 cb6 fb6 HRW HBS HO1 HTQ
    go_wp2_with fail
    go_ret
    refine ⟨rfl, ?_⟩
    rw [hbx]
    exact HFIN.out
end Go.Proofs.YtodgjkdhkohckaaDoor.opers
