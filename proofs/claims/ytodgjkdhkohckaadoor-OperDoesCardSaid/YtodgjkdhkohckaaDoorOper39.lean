/- Operators: the reference's Set, where one is taken out. -/
import Derived.Test.YtodgjkdhkohckaaDoorOper36
namespace Go.Proofs.YtodgjkdhkohckaaDoor.opers
open Go.RowKit Go.Proofs.YtodgjkdhkohckaaDoor.own Go.Maps Go.Sort Go.Shelf Go.Proofs.YtodgjkdhkohckaaDoor.toks
theorem RT.moved {B b : Nat} {ao a2 : Option Addr} {cap c2 : Nat} {l l2 : List Op3} {W w6 : World} (h : RT B b ao cap l W) (hr : RowOf encO 3 32 W.heap.size a2 c2 l2 w6) (ho : Only (fun q => W.heap.size ≤ q) W w6) :
    RT B b a2 c2 l2 (w6.setCell ⟨b, 0, none⟩ (.slice a2 l2.length c2)) ∧ Only (RS b ao) W (w6.setCell ⟨b, 0, none⟩ (.slice a2 l2.length c2)) ∧ w6.cell? ⟨b, 0, none⟩ = some (.slice ao l.length cap) ∧ w6.frozen? ⟨b, 0, none⟩ = false := by
  have hb := lt_of_block h.box
  have hbox : w6.heap[b]? = some (.cells #[.slice ao l.length cap] 55 (0, 0)) := by rw [ho.block b hb (fun e => absurd (Nat.lt_of_lt_of_le hb e) (Nat.lt_irrefl _))]; exact h.box
  have hap : ∀ g, a2 = some g → g.block ≠ b := fun g hg e => by
    have := (hr.head g hg).2.1
    omega
  refine ⟨⟨?_, ?_, h.ge, hap⟩, ?_, by rw [cell_of_blk hbox]; rfl, free_of_blk hbox 0⟩
  · have := blk_set hbox 0 (.slice a2 l2.length c2)
    rw [this]
    simp
  · exact (row_base hr (Nat.le_trans h.ge (Nat.le_of_lt hb))).only (Only.setCell (S := fun q => q = b) (p := ⟨b, 0, none⟩) w6 rfl _) (fun g hg e => hap g hg e)
  · exact Only.trans (S := RS b ao) (Only.cut (Only.refl _ _) ho (fun q e => e) |>.mono (fun _ _ e => e.elim)) (Only.setCell (S := RS b ao) (p := ⟨b, 0, none⟩) w6 (.inl rfl) _) (fun _ _ e => e)
set_option maxRecDepth 100000 in
set_option maxHeartbeats 8000000 in
theorem rset_out (B b : Nat) (ao : Option Addr) (cap : Nat) (l : List Op3) (k : Int) (s : ByteArray) (w : World) (h : RT B b ao cap l w) (h3 : isTypeF k = true) (h4 : maysetB s = true) (i : Nat) (h6 : atR l s (isPreF k) = (i : Int)) (hi : i < l.length) (hn : l.length ≤ 100000) : Calls Tryd.prog 40 #[.pointer (some ⟨b, 0, none⟩), .agg #[.int .i64 0, .int .i64 k, .string s]] w fun e w' => e = .returned (.int .i64 0) ∧ (∃ ao' cap', RT B b ao' cap' (l.eraseIdx i) w' ∧ NewRow w.heap.size ao ao') ∧ Only (RS b ao) w w' := by
  have HB := opBoxes 0 k s w
  have HO0 : Hid (Only (fun _ => False) w (w.alloc (opC 0 k s))) := Lib.hid (Only.alloc _ _ _)
  have HT := Lib.hid h
  have HAT : Hid (∀ W, Only (fun _ => False) w W → Calls Tryd.prog 41 #[.pointer (some ⟨b, 0, none⟩), .string s, .bool (isPreF k)] W fun e w' => e = .returned (.int .i64 (i : Int)) ∧ w' = W) := Lib.hid (fun W ho => by have := at_any B b ao cap l s (isPreF k) W (h.later ho) (by omega); rw [h6] at this; exact this)
  have HPR : Hid (∀ W, Calls Tryd.prog 45 #[.int .i64 k] W fun e w' => e = .returned (.bool (isPreF k)) ∧ w' = W) := Lib.hid (rpre_any k)
  obtain ⟨c0, c1, c2⟩ := HB.out _ (Only.refl _ _)
  have hsz := mayset_size h4
  have HPL : Hid (∀ W, Calls Tryd.prog 56 #[.string s] W fun e w' => e = .returned (.bool (plainB s)) ∧ w' = W) := Lib.hid (fun W => rplain_str s W (by omega))
  obtain ⟨h7, h8⟩ := type_yes h3
  obtain ⟨g, g1, g2, g3⟩ := mays_yes h4
  rw [g] at HPL
  generalize isPreF k = kp at *
  clear h3 h4 h h6 g hsz
  go_enter Tryd.func40, Tryd.ntmps40
  go_wp2_with fail
  refine (HPL.out _).mono ?_
  rintro e w1 ⟨rfl, rfl⟩
  go_wp2_with fail
  go_quiet (first | (go_at_call 45; exact Calls.quiet_of_same (HPR.out _)) | (go_at_call 41; exact Calls.quiet_of_same (HAT.out _ (HO0.out.same (Only.drewN _ _ _)))))
  have HO1 : Hid (Only (fun _ => False) w ((w.alloc (opC 0 k s)).drewN nq)) := Lib.hid (HO0.out.same (Only.drewN _ _ _))
  have HBQ : Hid (∀ W, Only (fun _ => False) ((w.alloc (opC 0 k s)).drewN nq) W → W.cell? ⟨w.heap.size, 0, none⟩ = some (.int .i64 0) ∧ W.cell? ⟨w.heap.size, 1, none⟩ = some (.int .i64 k) ∧ W.cell? ⟨w.heap.size, 2, none⟩ = some (.string s)) := Lib.hid (fun W ho => HB.out W ((Only.drewN _ _ _).same ho))
  have HTQ := Lib.hid (HT.out.later HO1.out)
  have HBL : Hid (w.heap.size < ((w.alloc (opC 0 k s)).drewN nq).heap.size) := Lib.hid (by simp)
  have hbne : Hid (b < w.heap.size ∧ ∀ g, ao = some g → g.block < w.heap.size) := Lib.hid ⟨lt_of_block HT.out.box, fun g hg => (HT.out.row.head g hg).2.2⟩
  clear c0 c1 c2 HB HO0 HAT HPR HPL HT
  obtain ⟨c0, c1, c2⟩ := HBQ.out _ (Only.refl _ _)
  obtain ⟨cb, fb⟩ := HTQ.out.cell
  generalize (w.alloc (opC 0 k s)).drewN nq = wq at *
  generalize hbx : w.heap.size = bx at *
  have p0 : (0 : Int) ≤ (i : Int) := by omega
  have p1 : (i : Int) < (l.length : Int) := by omega
  have p2 : ¬ (i : Int) < 0 := by omega
  have p9 : (i : Int) ≤ 100000 := by omega
  obtain ⟨hf1, hf2, hf3⟩ := part_front HTQ.out.row i (Nat.le_of_lt hi)
  obtain ⟨m, hm⟩ : ∃ m : Nat, m = i + 1 := ⟨_, rfl⟩
  have hw1 : IntKind.i64.wrap ((i : Int) + 1) = (m : Int) := by rw [hm, IntWalk.i64_in _ (by omega)]; omega
  have p3 : (0 : Int) ≤ (m : Int) := by omega
  have p4 : (m : Int) ≤ (l.length : Int) := by omega
  obtain ⟨bo, hb1, hb2, hb3, hb4⟩ := part_back HTQ.out.row m (by omega)
  have HRB : Hid (∀ g, ao = some g → g.block < wq.heap.size) := Lib.hid (fun g hg => (HTQ.out.row.head g hg).2.2)
  have HTB : Hid (l.eraseIdx i = l.take i ++ l.drop m) := Lib.hid (by rw [hm]; exact List.eraseIdx_eq_take_drop_succ _ _)
  have HTL : Hid ((l.take i).length ≤ 100000 ∧ (l.drop m).length ≤ 100000) := Lib.hid ⟨by rw [List.length_take]; omega, by rw [List.length_drop]; omega⟩
  have HLF : Hid (∀ W, Only (fun q => wq.heap.size ≤ q) wq W → Ly ao (l.take i) W ∧ Ly bo (l.drop m) W) := Lib.hid (fun W ho => ⟨hf2.only ho (fun g hg e => absurd (Nat.lt_of_lt_of_le (HRB.out g hg) e) (Nat.lt_irrefl _)), hb2.only ho (fun g hg e => by
    obtain ⟨g', h1, h2⟩ := hb4 g hg
    rw [← h2] at e
    exact absurd (Nat.lt_of_lt_of_le (HRB.out g' h1) e) (Nat.lt_irrefl _))⟩)
  have HF3 := Lib.hid hf3
  have HB3 := Lib.hid hb3
  have HK : Hid (∀ W, Only (fun q => wq.heap.size ≤ q) wq W → W.cell? ⟨b, 0, none⟩ = some (.slice ao l.length cap)) := Lib.hid (fun W ho => by
    have hbq := lt_of_block HTQ.out.box
    exact (ho.cell (p := ⟨b, 0, none⟩) hbq (fun e => absurd (Nat.lt_of_lt_of_le hbq e) (Nat.lt_irrefl _))).trans cb)
  clear hf2 hf3 hb2 hb3 hb4 hm
  generalize l.take i = f at *
  generalize l.drop m = bk at *
  have oE : Only (fun q => wq.heap.size ≤ q) wq ((wq.alloc (.cells #[] 32)).drew) := (Only.alloc _ _ _).same (Only.drew _ _)
  have e0 := HK.out _ oE
  have HOE := Lib.hid oE
  clear oE
  go_wp2_with fail
  go_region_law
    (first
    | (refine step_append_row (by rfl) (.tmp 74) (.tmp 80) (by rfl) wq.heap.size ((wq.alloc (.cells #[] 32)).drew) (some ⟨wq.heap.size, 0, none⟩) 0 [] ao cap f (by rfl) (emp_of (heap_alloc_new wq _) (Nat.le_refl _)) (by rfl) (HLF.out _ HOE.out).1 HF3.out (by have := HTL.out.1; simp; omega) HOE.out.size ?_
       intro a1 c1 w5 hr1 ho1 hn1
       have HR1 := Lib.hid hr1
       have HO5 := Lib.hid (HOE.out.same (at_new (emp_of (heap_alloc_new wq _) (Nat.le_refl _)) ho1))
       have d0 := HK.out _ HO5.out
       clear hr1 ho1 hn1
       have HL1 : Hid (([] ++ f : List Op3).length ≤ 100000) := Lib.hid (by rw [List.nil_append]; exact HTL.out.1)
       have HE1 : Hid (([] ++ f : List Op3) = f) := Lib.hid (List.nil_append _)
       generalize ([] ++ f : List Op3) = o1 at *)
    | (refine step_append_row (by rfl) (.tmp 81) (.tmp 88) (by rfl) wq.heap.size w5 a1 c1 o1 bo (cap - m) bk (by rfl) HR1.out (by rfl) (HLF.out _ HO5.out).2 HB3.out (by have := HL1.out; have := HTL.out.2; omega) HO5.out.size ?_
       intro a3 c3 w7 hr3 ho3 hn3
       have HR3 := Lib.hid hr3
       have HO7 := Lib.hid (HO5.out.same (at_new HR1.out ho3))
       clear hr3 ho3 hn3
       have HE3 : Hid ((o1 ++ bk : List Op3) = l.eraseIdx i) := Lib.hid (by rw [HE1.out, HTB.out])
       generalize (o1 ++ bk : List Op3) = o3 at *
       have HG := Lib.hid (RT.moved HTQ.out HR3.out HO7.out)
       have cb6 := HG.out.2.2.1
       have fb6 := HG.out.2.2.2))
  all_goals
    have HFIN : Hid ((∃ ao' cap', RT B b ao' cap' (l.eraseIdx i) (w7.setCell ⟨b, 0, none⟩ (.slice a3 o3.length c3)) ∧ NewRow bx ao ao') ∧ Only (RS b ao) w (w7.setCell ⟨b, 0, none⟩ (.slice a3 o3.length c3))) := Lib.hid ⟨⟨a3, c3, HE3.out ▸ HG.out.1, fun g hg => .inr (Nat.le_trans (Nat.le_of_lt HBL.out) (HR3.out.head g hg).2.1)⟩, (HO1.out.mono (fun _ _ e => e.elim)).trans HG.out.2.1 (fun _ _ e => e)⟩
    clear HR1 HR3 HO5 HO7 HE1 HE3 HL1 HK HLF HTB HG cb6 fb6 HTQ
    go_wp2_with fail
    go_ret
    refine ⟨rfl, ?_⟩
    rw [hbx]
    exact HFIN.out
end Go.Proofs.YtodgjkdhkohckaaDoor.opers
