/- Functors: Sweep, the walk. -/
import Derived.Test.YtoppfhbpmmepaaaDoorFunc19
import Derived.Deep.RegionHeld3
import Derived.StillTailTactics
namespace Go.Proofs.YtoppfhbpmmepaaaDoor.functors
open Go.RowKit Go.Proofs.YtoppfhbpmmepaaaDoor.own Go.Maps
variable {S SA SF : Nat → Prop} {ta b : Nat} {la made made' lim : Int} {al al' : List atoms.ASlot} {sl sl' : List FSlot} {w0 w w' : World} {low low' : Nat} {B : Nat} {ao : Option Addr} {cap m : Nat}
/-- Sweep under way. -/
structure SweepI (SF : Nat → Prop) (B b : Nat) (lim : Int) (ta : Nat) (ao : Option Addr) (cap m low : Nat) (sl : List FSlot) (p : Nat → Bool) (left : Lit → Bool) (cnt : Nat) (D : D1) (w wr : World) : Prop where
  loose : Loose SF B b lim ta ao cap m low (sweepP sl p) wr
  range : wr.ranges Tryd.prog 90 (plainElem Tryd.prog 3) m w.heap.size (used sl) D left cnt
  mapof : MapOf D (sweepP sl p)
  leftof : LeftOf sl p left
  only : Only SF w wr
set_option maxRecDepth 100000 in
set_option maxHeartbeats 1600000 in
theorem sweep_any (h : Core SF B b lim ta ao cap m low sl w) : Calls Tryd.prog 20 #[.pointer (some ⟨b, 0, none⟩)] w fun e w' => e = .returned (.int .i64 ((used sl : Int) - (used (sweepF sl) : Int))) ∧ Core SF B b lim ta ao cap m 0 (sweepF sl) w' ∧ Only SF w w' := by
  have hnot := Go.Proofs.YtoppfhbpmmepaaaDoor.atoms.run_not
  have H := Lib.hid h
  have HC := Lib.hid (closed_no h)
  have c3 := cell_of_blk h.blk 3
  simp only [List.getElem?_toArray, List.getElem?_cons_succ, List.getElem?_cons_zero] at c3
  obtain ⟨D, hD, hM⟩ := h.map
  have hlen := hD.len Tryd.underlying80
  rw [hM.size] at hlen
  have HD := Lib.hid hD
  have HM := Lib.hid hM
  clear h hD hM
  go_enter Tryd.func20, Tryd.ntmps20
  go_wp2_with fail
  refine HC.out.mono ?_
  rintro e w1 ⟨rfl, rfl⟩
  go_wp2_with (first
    | (at_range; refine wpList_range_own _ rfl _ 80 rfl 90 3 keyedF Tryd.underlying80 _ m (used sl) D rfl HD.out ?_; intro wi hrg hgi hsi)
    | fail)
  have hA0 : Hid (SweepI SF B b lim ta ao cap m low sl (fun _ => false) (Maps.has D) (Maps.size D) D w wi) := by
    have ho : Only (fun _ => False) w wi := (Only.grown hgi).mono (fun _ _ e => by cases e)
    exact Lib.hid ⟨by rw [sweepP_none]; exact (H.out.only ho (fun _ _ e => e)).loose, hrg, by rw [sweepP_none]; exact HM.out, LeftOf.start HM.out, ho.no SF⟩
  generalize hr : w.heap.size = r at *
  have HR := Lib.hid hr
  clear hrg hgi hsi c3 hr hlen
  go_frame
  go_loopw [4, 5] (fun _ _ wr => ∃ (p : Nat → Bool) (left : Lit → Bool) (cnt : Nat) (D' : D1), Hid (SweepI SF B b lim ta ao cap m low sl p left cnt D' w wr)) (fun _ _ wr => wr.rangeLeft m r)
  case atStart => exact ⟨_, _, _, _, hA0⟩
  case round =>
    obtain ⟨p, left, cnt, D', hI⟩ := hrel
    have hrg := hI.out.range
    rw [HR.out] at hrg
    clear hA0
    go_wp2_with (first
      | (at_next; refine wpList_next_ranges _ rfl _ rfl 90 keyedF (plainElem Tryd.prog 3) (fun p : Int × Int => Value.agg #[.int .i64 p.1, .int .i64 p.2]) (Value.int .i64) (fun key kl hk => by obtain ⟨a, n, rfl, _⟩ := invF hk; exact ⟨(a, n), rfl⟩) (fun v y hv => by obtain ⟨c, rfl, _⟩ := plainElem_int_inv Tryd.underlying3 hv; exact ⟨c, rfl⟩) m r (used sl) D' left cnt rfl hrg ?_ ?_)
      | fail)
    · intro _ hl0
      have hend := hI.out.loose
      have hmo := hI.out.mapof
      rw [hI.out.leftof.done hl0] at hend hmo
      have HCl := Lib.hid hend.close
      have HO := Lib.hid hI.out.only
      have f4 := free_of_blk hend.blk 4
      have c3 := cell_of_blk hend.blk 3
      have c4 := cell_of_blk hend.blk 4
      simp only [List.getElem?_toArray, List.getElem?_cons_succ, List.getElem?_cons_zero] at c3 c4
      obtain ⟨D2, hD2, hM2⟩ := HCl.out.1.map
      have hlen := hD2.len Tryd.underlying80
      rw [hM2.size] at hlen
      have u1 := used_le sl
      have u2 := used_le (sweepF sl)
      have u3 := H.out.few
      have u4 := HCl.out.1.few
      clear hend hmo hD2 hM2
      go_wp2_with fail
      go_ret
      exact ⟨rfl, HCl.out.1, HO.out.trans HCl.out.2 (fun k _ e => by subst e; exact H.out.own _ (.inl rfl))⟩
    · intro pa pn c kl y0 y1 w1 cnt1 hkey hlk hv hat hrg1 hlt hg1 hs1 hen
      obtain ⟨j, x, hx, hu, rfl, hp⟩ := hI.out.leftof.1 _ hlk
      obtain ⟨qa, qn, e1, e2, wa, wn⟩ := invF hkey
      simp only [Value.agg.injEq, Array.mk.injEq, List.cons.injEq, Value.int.injEq, and_true, true_and] at e1
      obtain ⟨rfl, rfl⟩ := e1
      obtain ⟨rfl, rfl⟩ := keyI_inj wa wn e2
      have hcur := sweepP_not hx hp
      have hc : c = (j : Int) := by
        obtain ⟨c', e, hc', _⟩ := plainElem_int_inv Tryd.underlying3 hv
        simp only [Value.int.injEq, true_and] at e
        subst e
        have h3 := hI.out.mapof.at_yes hI.out.loose.apart ⟨x, hcur, hu, rfl⟩ (.lit (.int .i64 0))
        rw [hat] at h3
        simp only [Prod.mk.injEq] at hc'
        rw [hc'.1] at h3
        simp only [idD, DataW.lit.injEq, Lit.int.injEq, true_and] at h3
        exact h3
      subst hc
      have hgo : Only (· = r) wr w1 := (Only.grown hg1).mono (fun _ _ e => by simpa using e)
      have hrlt := hrg.lt
      have HNS : Hid (∀ k, SF k → k ≠ r) := Lib.hid (fun k hk e => by have := (H.out.lt k hk).2; have := HR.out; omega)
      have HL1 := Lib.hid (hI.out.loose.only hgo (fun k hk e => HNS.out k hk e))
      have HO1 : Hid (Only SF w w1) := Lib.hid (hI.out.only.trans hgo (fun k hk e => by have := HR.out; omega))
      have HMO := Lib.hid hI.out.mapof
      have HLF := Lib.hid (hI.out.leftof.step H.out.apart hx hu)
      have HST := Lib.hid (sweepP_step sl (p := p) hx hu)
      have HRG1 := Lib.hid hrg1
      have HLT := Lib.hid hlt
      have HC1 := Lib.hid hcur
      have HU := Lib.hid hu
      have HK := Lib.hid hkey
      have hgB : b < w1.heap.size := by have := (HL1.out.lt b (HL1.out.own b (.inl rfl))).2; exact this
      obtain ⟨g, hg, k0, k1, k2, z0, z1, z2⟩ := HL1.out.slot j x hcur
      have hgG : g < w1.heap.size := (HL1.out.lt g (HL1.out.own g (.inr (.inr ⟨_, hg, rfl⟩)))).2
      subst hg
      have c2 := cell_of_blk HL1.out.blk 2
      simp only [List.getElem?_toArray, List.getElem?_cons_succ, List.getElem?_cons_zero] at c2
      have hjl := (List.getElem?_eq_some_iff.1 hcur).1
      have hfew := HL1.out.few
      have hb0 : (0 : Int) ≤ (j : Int) := by omega
      have hb1 : (j : Int) < ((sweepP sl p).length : Int) := by omega
      clear hx hu hkey hlk hv hat hrg1 hlt hg1 hs1 hI e2 wa wn hcur hgo hp
      generalize hcu : sweepP sl p = cu at *
      cases hmk : x.mark with
      | true =>
        rw [hmk] at k2
        go_wp2_with fail
        have hsw : sweepP sl (fun i => p i || i == j) = markS cu j x false := by
          rw [HST.out]
          unfold swept markS
          rw [if_pos hmk]
        obtain ⟨hm1, om1⟩ := HL1.out.marked HC1.out false
        have oa := Only.alloc (fun _ => False) (w1.setCell ⟨g, j * 3 + 2, none⟩ (.bool false)) (.cells #[.int .i64 (x.name.a : Int), .int .i64 (x.name.n : Int)] 90)
        have og := om1.same (oa.no _)
        have hgm := (HL1.out.other _ rfl).2
        have hSg := HL1.out.own g (.inr (.inr ⟨_, rfl, rfl⟩))
        have hr4 := ranges_only HRG1.out og (fun e => hgm e.symm) (fun e => HNS.out g hSg e.symm)
        refine ⟨⟨fun i => p i || i == j, _, cnt1, D', Lib.hid ⟨?_, ?_, ?_, HLF.out, ?_⟩⟩, ?_⟩
        · rw [hsw]
          exact hm1.only oa (fun _ _ e => e)
        · rw [HR.out]
          exact hr4
        · rw [hsw]
          exact HMO.out.mark HC1.out rfl rfl
        · exact HO1.out.same (og.mono (fun k _ e => by subst e; exact hSg))
        · rw [hr4.left_eq, hrg.left_eq]
          exact HLT.out
      | false =>
        rw [hmk] at k2
        go_wp2_with fail
        have HQ : Hid (Only (fun _ => False) w1 (w1.alloc (.cells #[.int .i64 (x.name.a : Int), .int .i64 (x.name.n : Int)] 90))) := Lib.hid (Only.alloc _ _ _)
        have HB : Hid ((w1.alloc (.cells #[.int .i64 (x.name.a : Int), .int .i64 (x.name.n : Int)] 90)).heap[w1.heap.size]? = some (.cells #[.int .i64 (x.name.a : Int), .int .i64 (x.name.n : Int)] 90 (0, 0))) := Lib.hid (heap_alloc_new w1 _)
        generalize hob : w1.heap.size = ob at *
        generalize w1.alloc (.cells #[.int .i64 (x.name.a : Int), .int .i64 (x.name.n : Int)] 90) = w2 at *
        have HQd : Hid (Only (fun _ => False) w1 w2.drew) := Lib.hid (HQ.out.same (Only.drew _ w2))
        have HL2 := Lib.hid (HL1.out.only HQd.out (fun _ _ e => e))
        have HRG2 := Lib.hid (ranges_only HRG1.out HQd.out (fun e => e) (fun e => e))
        have c3 : w2.drew.cell? ⟨b, 3, none⟩ = some (.map (some m)) := by rw [cell_of_blk HL2.out.blk]; rfl
        have e0 : w2.drew.cell? ⟨ob, 0, none⟩ = some (.int .i64 x.name.a) := by rw [show w2.drew.cell? ⟨ob, 0, none⟩ = w2.cell? ⟨ob, 0, none⟩ from rfl, cell_of_blk HB.out]; rfl
        have e1 : w2.drew.cell? ⟨ob, 1, none⟩ = some (.int .i64 x.name.n) := by rw [show w2.drew.cell? ⟨ob, 1, none⟩ = w2.cell? ⟨ob, 1, none⟩ from rfl, cell_of_blk HB.out]; rfl
        have HOB := Lib.hid hob
        clear hen hob c2 k0 k1 k2 z0 z1 z2 hgB hgG
        go_still_tail 5, (by kernel_rfl)
        change wpList _ _ _ _ _ w2.drew
        generalize w2.drew = w3 at *
        go_wp2_with (first
          | (at_delete; refine wpList_delete_ranges _ rfl _ _ 80 90 rfl 3 keyedF Tryd.underlying80 (plainElem Tryd.prog 3) m r (used sl) D' _ cnt1 rfl HRG2.out _ _ rfl HK.out ?_; intro w4 cnt2 hrg4 hle ht4; rw [Maps.strike_twice] at hrg4; have HRG4 := Lib.hid hrg4; have HLE := Lib.hid hle; have HT4 := Lib.hid (Only.turned ht4)
             have hbm := HL2.out.bm; have hgb := HL2.out.other _ rfl; have hb4 := blk_field HL2.out.blk HT4.out hbm; have c2 := cell_of_blk hb4 2; simp only [List.getElem?_toArray, List.getElem?_cons_succ, List.getElem?_cons_zero] at c2
             have HR4 := Lib.hid (HL2.out.row.only HT4.out (fun g' hg' e => by cases hg'; exact hgb.2 e))
             obtain ⟨g', hg', _, hcc⟩ := HR4.out.at liesS j x HC1.out; obtain rfl : g = g' := by simpa using hg'
             have k0 := hcc 0 (by omega); have k1 := hcc 1 (by omega); have k2 := hcc 2 (by omega); simp only [encS, List.getElem?_cons_zero, List.getElem?_cons_succ, Nat.add_zero] at k0 k1 k2
             obtain ⟨k0, z0⟩ := k0; obtain ⟨k1, z1⟩ := k1; obtain ⟨k2, z2⟩ := k2
             have HBM := Lib.hid hbm; have HGB := Lib.hid hgb; have hg1 : ¬ g = b := hgb.1; have hg2 : ¬ b = g := fun e => hgb.1 e.symm; clear hrg4 hle ht4 hbm hgb hb4 hcc hg' c3 e0 e1)
          | fail)
        have hsw : sweepP sl (fun i => p i || i == j) = cu.set j freeSlot := by
          rw [HST.out]
          unfold swept
          rw [hmk]
          rfl
        obtain ⟨hd1, od1⟩ := Loose.del HL2.out HC1.out HU.out HMO.out HRG4.out.owns HT4.out rfl
        obtain ⟨hm1, om1⟩ := hd1.marked (j := j) (x := freeSlot) (by rw [get_set _ hjl, if_pos rfl]) false
        have hmm : markS (cu.set j freeSlot) j freeSlot false = cu.set j freeSlot := by unfold markS; rw [List.set_set]; rfl
        rw [hmm] at hm1
        have hSg := HL2.out.own g (.inr (.inr ⟨_, rfl, rfl⟩))
        have hst := slot_stored HR4.out hjl freeSlot
        have og := hst.2.same om1
        have hr4 := ranges_only HRG4.out og (fun e => HGB.out.2 e.symm) (fun e => HNS.out g hSg e.symm)
        refine ⟨⟨fun i => p i || i == j, _, cnt2, D'.del (keyN x.name), Lib.hid ⟨?_, ?_, ?_, HLF.out, ?_⟩⟩, ?_⟩
        · rw [hsw]
          exact hm1
        · rw [HR.out]
          exact hr4
        · rw [hsw]
          exact HMO.out.del HL1.out.apart HC1.out HU.out rfl
        · exact (HO1.out.same (HQd.out.no SF)).same (od1.same (om1.mono (fun k _ e => by subst e; exact hSg)))
        · have h0 := hr4.left_eq
          have h1 := HLE.out
          have h2 := HLT.out
          rw [hrg.left_eq]
          refine Nat.lt_of_le_of_lt (Nat.le_of_eq h0) ?_
          omega
end Go.Proofs.YtoppfhbpmmepaaaDoor.functors
