/- Functors: Atoms, the walk. -/
import Derived.Test.YtoppfhbpmmepaaaDoorFunc16
import Derived.Deep.RegionHeld3
namespace Go.Proofs.YtoppfhbpmmepaaaDoor.functors
open Go.RowKit Go.Proofs.YtoppfhbpmmepaaaDoor.own Go.Maps
variable {S SA SF : Nat → Prop} {ta b : Nat} {la made made' lim : Int} {al al' : List atoms.ASlot} {sl sl' : List FSlot} {w0 w w' : World} {low low' : Nat} {B : Nat} {ao : Option Addr} {cap m : Nat}
set_option maxRecDepth 100000 in
set_option maxHeartbeats 1600000 in
theorem atoms_any (h : FSt SA SF ta b la made al lim low sl w0 w) : Calls Tryd.prog 21 #[.pointer (some ⟨b, 0, none⟩)] w fun e w' => e = .returned (.int .i64 (used sl)) ∧ Moved SA SF ta b la made (markP al (namesP sl)) lim low sl w0 w w' := by
  have hnot := Go.Proofs.YtoppfhbpmmepaaaDoor.atoms.run_not
  have H := Lib.hid h
  obtain ⟨ao, cap, m, hc⟩ := h.fn
  have HC := Lib.hid (closed_no hc)
  have HC0 := Lib.hid hc
  have c3 := cell_of_blk hc.blk 3
  simp only [List.getElem?_toArray, List.getElem?_cons_succ, List.getElem?_cons_zero] at c3
  obtain ⟨D, hD, hM⟩ := hc.map
  have HD := Lib.hid hD
  have HM := Lib.hid hM
  clear h hc hD hM
  go_enter Tryd.func21, Tryd.ntmps21
  go_wp2_with fail
  refine HC.out.mono ?_
  rintro e w1 ⟨rfl, rfl⟩
  go_wp2_with (first
    | (at_range; refine wpList_range_own _ rfl _ 80 rfl 90 3 keyedF Tryd.underlying80 _ m (used sl) D rfl HD.out ?_; intro wi hrg hgi hsi)
    | fail)
  have hA0 : Hid (AtomsI SA SA ta la made (markP al (metP sl (Maps.has D))) w0 w wi) := by
    rw [markP_congr al (metP_none HM.out), markP_none]
    have ho : Only (fun _ => False) w wi := (Only.grown hgi).mono (fun _ _ e => by cases e)
    refine Lib.hid ⟨H.out.at_.still ho (fun _ _ e => e) (fun e => e) (ho.below H.out.at_.below.size (fun _ _ e => e.elim)), ho.no SA, fun k hk => .inl hk, fun e => ?_, H.out.at_.listed.lt, H.out.at_.below.size⟩
    have := (H.out.at_.tab.bound.2.2.2 _ e).2
    omega
  generalize hr : w.heap.size = r at *
  have HR := Lib.hid hr
  have HRG := Lib.hid hrg
  clear hrg hgi hsi c3 hr
  go_frame
  go_loopw [3] (fun _ wr => ∃ (left : Lit → Bool) (cnt : Nat) (SA' : Nat → Prop), Hid (wr.ranges Tryd.prog 90 (plainElem Tryd.prog 3) m r (used sl) D left cnt) ∧ Hid (AtomsI SA SA' ta la made (markP al (metP sl left)) w0 w wr) ∧ Hid (∀ z, left z = true → Maps.has D z = true)) (fun _ wr => wr.rangeLeft m r)
  case atStart => exact ⟨_, _, SA, HRG, hA0, Lib.hid (fun z hz => hz)⟩
  case round =>
    obtain ⟨left, cnt, SA', hrg, hI, hL⟩ := hrel
    clear hA0 HRG
    go_wp2_with (first
      | (at_next; refine wpList_next_ranges _ rfl _ rfl 90 keyedF (plainElem Tryd.prog 3) (fun p : Int × Int => Value.agg #[.int .i64 p.1, .int .i64 p.2]) (Value.int .i64) (fun key kl hk => by obtain ⟨a, n, rfl, _⟩ := invF hk; exact ⟨(a, n), rfl⟩) (fun v y hv => by obtain ⟨c, rfl, _⟩ := plainElem_int_inv Tryd.underlying3 hv; exact ⟨c, rfl⟩) m r (used sl) D left cnt rfl hrg.out ?_ ?_)
      | fail)
    · intro _ hl0
      have hend := HC0.out.only hI.out.only H.out.apart
      have hMv := AtomsI.done H.out hI.out
      rw [markP_congr al (metP_all hl0)] at hMv
      have HMv := Lib.hid hMv
      have c3 := cell_of_blk hend.blk 3
      simp only [List.getElem?_toArray, List.getElem?_cons_succ, List.getElem?_cons_zero] at c3
      have hlen := hrg.out.owns.len Tryd.underlying80
      rw [HM.out.size] at hlen
      clear hend hMv
      go_wp2_with fail
      go_ret
      exact ⟨rfl, HMv.out⟩
    · intro pa pn c kl y0 y1 w1 cnt1 hkey hlk hv hat hrg1 hlt hg1 hs1 hen
      obtain ⟨j, x, hx, hu, rfl⟩ := HM.out.entry (hL.out _ hlk)
      obtain ⟨qa, qn, e1, e2, wa, wn⟩ := invF hkey
      simp only [Value.agg.injEq, Array.mk.injEq, List.cons.injEq, Value.int.injEq, and_true, true_and] at e1
      obtain ⟨rfl, rfl⟩ := e1
      obtain ⟨rfl, rfl⟩ := keyI_inj wa wn e2
      have HX := Lib.hid hx
      have HU := Lib.hid hu
      have hgo := (Only.grown hg1).mono (S' := (· = r)) (fun _ _ e => by simpa using e)
      have HI1 := Lib.hid (hI.out.still (w2 := w1) (by rw [HR.out]; exact hgo))
      have HRG1 := Lib.hid hrg1
      have HLT := Lib.hid hlt
      have HL2 : Hid (∀ z, (left z && !z.sameKey (keyN x.name)) = true → Maps.has D z = true) := Lib.hid (fun z hz => by
        simp only [Bool.and_eq_true] at hz
        exact hL.out z hz.1)
      have HMS := Lib.hid (metP_step (left := left) hx hu)
      have HNB : Hid (¬ SA' b) := Lib.hid (fun e => by
        rcases hI.out.grew b e with e | e
        · exact H.out.apart b (HC0.out.own b (.inl rfl)) e
        · have := HC0.out.low_le; omega)
      have HNM : Hid (¬ SA' m) := Lib.hid (fun e => by
        rcases hI.out.grew m e with e | e
        · exact H.out.apart m (HC0.out.own m (.inr (.inl rfl))) e
        · have := HC0.out.lt m (HC0.out.own m (.inr (.inl rfl))); omega)
      have HNR : Hid (¬ SA' r) := Lib.hid (by rw [← HR.out]; exact hI.out.notr)
      clear hx hu hv hat hkey hlk e2 wa wn hgo hg1 hs1 hrg1 hlt hI hL
      generalize x.name = f at *
      go_wp2_with fail
      have HQ : Hid (Only (fun _ => False) w1 (w1.alloc (.cells #[.int .i64 f.a, .int .i64 f.n] 90))) := Lib.hid (Only.alloc _ _ _)
      have HB : Hid ((w1.alloc (.cells #[.int .i64 f.a, .int .i64 f.n] 90)).heap[w1.heap.size]? = some (.cells #[.int .i64 f.a, .int .i64 f.n] 90 (0, 0))) := Lib.hid (heap_alloc_new w1 _)
      have HNO : Hid (¬ SA' w1.heap.size) := Lib.hid (fun e => by have := (HI1.out.at_.tab.bound.2.2.2 _ e).2; omega)
      generalize hob : w1.heap.size = ob at *
      generalize w1.alloc (.cells #[.int .i64 f.a, .int .i64 f.n] 90) = w2 at *
      have HI2 := Lib.hid (HI1.out.still ((HQ.out.same (Only.drew _ w2)).mono (fun _ _ e => e.elim)))
      have HI2q := Lib.hid (HI1.out.still (HQ.out.mono (fun _ _ e => e.elim)))
      have HRG2 := Lib.hid (ranges_only HRG1.out (HQ.out.same (Only.drew _ w2)) (fun e => e) (fun e => e))
      have HK3 : Hid (∀ w' : World, Only SA' w2 w' → (w'.cell? ⟨b, 1, none⟩ = some (.pointer (some ⟨ta, 0, none⟩)) ∧ w'.cell? ⟨ob, 0, none⟩ = some (.int .i64 f.a))) := Lib.hid (fun w' ho => by
        have h5 := blk_field (HC0.out.only HI2q.out.only H.out.apart).blk ho HNB.out
        have h6 := blk_field HB.out ho HNO.out
        exact ⟨by rw [cell_of_blk h5]; rfl, by rw [cell_of_blk h6]; rfl⟩)
      have HD0 : Hid (Only SA' w2 w2.drew) := Lib.hid (Only.drew _ _)
      have HD1 : Hid (Only SA' w2 w2) := Lib.hid (Only.refl _ _)
      clear hen hob
      go_region_held3 (fun w' => w'.cell? ⟨b, 1, none⟩ = some (.pointer (some ⟨ta, 0, none⟩)) ∧ w'.cell? ⟨ob, 0, none⟩ = some (.int .i64 f.a)) (first | exact HK3.out _ HO3.out | exact HK3.out _ HD0.out | exact HK3.out _ HD1.out | go_keep) (first
        | (go_at_call 40; refine (atoms.st_mark (f.a : Int) HI2.out.at_).mono ?_; rintro e w3 ⟨rfl, hst, ho⟩; have HS3 := Lib.hid hst; have HOc := Lib.hid ho; have HO3 : Hid (Only SA' w2 w3) := Lib.hid (HD0.out.same ho); clear hst ho))
      have HR3 := Lib.hid (ranges_only HRG2.out HOc.out HNM.out HNR.out)
      have hn := HI2.out.next (by rw [HR.out]; exact HRG2.out.lt) HS3.out HOc.out
      rw [markF_markP, markP_congr _ (fun i => (HMS.out i).symm)] at hn
      have HN := Lib.hid hn
      clear hn
      go_roundw
      case rel => exact ⟨_, _, _, _, _, _, _, _, _, _, _, _, ⟨_, cnt1, _, HR3, HN, HL2⟩, rfl⟩
      case measure =>
        rw [HR3.out.left_eq, hrg.out.left_eq]
        exact HLT.out
end Go.Proofs.YtoppfhbpmmepaaaDoor.functors
