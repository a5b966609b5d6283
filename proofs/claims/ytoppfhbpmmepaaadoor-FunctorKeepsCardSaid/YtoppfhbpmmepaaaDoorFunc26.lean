/- FunctorKeeps, walked. -/
import Derived.Test.YtoppfhbpmmepaaaDoorFunc25
namespace Go.Proofs.YtoppfhbpmmepaaaDoor.functors
open Go.RowKit Go.Proofs.YtoppfhbpmmepaaaDoor.own Go.Maps
open Go.Proofs.YtoppfhbpmmepaaaDoor.atoms (IdsP IdsOut encI liesI infoI OpA ArgOps)
variable {SA SF : Nat → Prop} {ta b : Nat} {la made made' lim : Int} {al al' : List atoms.ASlot} {sl sl' : List FSlot} {w0 w w' : World} {low low' : Nat}
/-- The same, at an even place, or not. -/
def KeepQ (ta b : Nat) (os : List OpA) (io : Option Addr) (icap : Nat) (ids : List Int) (most q p : Nat) (w0 w : World) : Prop := p % 2 = 0 ∧ KeepF ta b os io icap ids most q w0 w
set_option maxRecDepth 100000 in
set_option maxHeartbeats 8000000 in
theorem keeps_near (ao : Option Addr) (cap : Nat) (os : List OpA) (n : Int) (w : World) (hA : ArgOps w ao os) (hL : atoms.Listed w) (hlen : os.length ≤ 50) : Calls Tryd.prog 4 #[.slice ao os.length cap, .int .i64 n] w fun e w' => e = .returned (.bool true) ∧ Below w.heap.size w w' := by
  obtain ⟨i0, hi, hz0, hz1, hz2⟩ := info_parts infoI
  have HL := Lib.hid hL
  have HA := Lib.hid hA
  have hnot := Go.Proofs.YtoppfhbpmmepaaaDoor.atoms.run_not
  clear hL hA
  go_enter Tryd.func4, Tryd.ntmps4
  go_wp2_with fail
  refine (atoms.new_yes 16384 _ (by omega) (by omega)).mono ?_
  rintro e w1 ⟨rfl, t1⟩
  have T1 := Lib.hid (atoms.St.new HL.out t1 (by omega) (by omega))
  clear t1
  generalize hta : w.heap.size = ta at *
  clear hta
  have HGLT := Lib.hid HL.out.lt
  go_wp2_with fail
  refine (any_new T1.out (by omega) (by omega)).mono ?_
  rintro e w2 ⟨rfl, t2⟩
  have T2 := Lib.hid t2
  clear t2
  generalize w1.heap.size + 1 = b at *
  go_wp2_with fail
  refine (lives_any _ T2.out.listed).mono ?_
  rintro e w3 ⟨rfl, b3⟩
  have T3 : Hid (KeepF ta b os none 0 [] 0 0 w w3) := by
    obtain ⟨SA, SF, low, h⟩ := T2.out.quiet (Only.of_below b3 (fun _ => False)) (b3.mono T2.out.below.size)
    exact Lib.hid ⟨SA, SF, low, 0, _, _, h, by omega, by simp, RowOf.nil _ _ _ _ _, fun g hg => (by cases hg), fun i o id _ _ h2 => (by simp at h2)⟩
  clear b3
  go_wp2_with fail
  go_loopw [9, 10] (fun v i wr => ∃ (k : Nat) (io : Option Addr) (icap : Nat) (ids : List Int), v = .slice io ids.length icap ∧ i = .int .i64 k ∧ ids.length = k ∧ k ≤ os.length ∧ Hid (KeepF ta b os io icap ids k 0 w wr)) (fun _ i _ => os.length - (intOf i).toNat)
  case atStart => exact ⟨0, none, 0, [], rfl, rfl, rfl, by omega, T3⟩
  case round =>
    obtain ⟨k, io, icap, ids, rfl, rfl, hik, hk, hR⟩ := hrel
    obtain ⟨SA, SF, low, made, al, sl, hT, hm0, hm1, hrow, hout, hinv⟩ := hR.out
    have HT := Lib.hid hT
    have HROW := Lib.hid hrow
    have HOUT := Lib.hid hout
    have HINV := Lib.hid hinv
    have HIK := Lib.hid hik
    have hidl : ids.length ≤ 50 := by omega
    clear hT hR T3 hrow hout hinv hik
    by_cases hlt : k < os.length
    · obtain ⟨bb, off, o, ho, rfl, hnm, hcell⟩ := HA.out.cell k hlt
      unfold maxLen at hnm
      have HC := Lib.hid hcell
      have HO := Lib.hid ho
      have HB := Lib.hid HT.out.at_.below
      have hci := HC.out _ HB.out
      have hc1 := hci.2.1
      have hc2 := hci.2.2
      have hb0 : (0 : Int) ≤ (k : Int) := by omega
      have hb1 : (k : Int) < (os.length : Int) := by omega
      clear ho hcell hci
      go_wp2_with fail
      have HK1 : Hid (∀ w' : World, Below w.heap.size w w' → (w'.cell? ⟨bb, off + k * 3 + 1, none⟩ = some (.string o.n) ∧ w'.cell? ⟨bb, off + k * 3 + 2, none⟩ = some (.int .i64 o.x))) := Lib.hid (fun w' hb => ⟨(HC.out _ hb).2.1, (HC.out _ hb).2.2⟩)
      have HTd := Lib.hid (HT.out.quiet (Only.drew _ wr) ((Only.drew (fun _ => False) wr).below HB.out.size (fun _ _ e => e.elim)))
      have HROWd := Lib.hid (HROW.out.only (Only.drew (fun _ => False) wr) (fun _ _ e => e))
      have HBd : Hid (Below w.heap.size w wr.drew) := Lib.hid HTd.out.at_.below
      have hp := put_made (la := 16384) (made := made) (al := al) (lim := 16384) (sl := sl) o.n o.x
      have hps := put_sits (la := 16384) (made := made) (al := al) (lim := 16384) (sl := sl) (intern_small HT.out.at_.good) o.n o.x
      have hpf := follows_put (la := 16384) (made := made) (al := al) (lim := 16384) (sl := sl) o.n o.x
      have hpa := afollows_put (la := 16384) (made := made) (al := al) (lim := 16384) (sl := sl) o.n o.x
      obtain ⟨r, hr⟩ : ∃ r, putR 16384 made al 16384 sl o.n o.x = r := ⟨_, rfl⟩
      rw [hr] at hp hps hpf hpa
      have HP := Lib.hid hp
      have HPS := Lib.hid hps
      have HPF := Lib.hid hpf
      have HPA := Lib.hid hpa
      have HR := Lib.hid hr
      clear hp hps hpf hpa hr hc1 hc2
      go_region_held3 (fun w' => w'.cell? ⟨bb, off + k * 3 + 1, none⟩ = some (.string o.n) ∧ w'.cell? ⟨bb, off + k * 3 + 2, none⟩ = some (.int .i64 o.x)) (first | exact HK1.out _ HB3.out | exact HK1.out _ HBd.out | exact HK1.out _ HB.out | go_keep) (first
        | (go_at_call 18; refine (put_all o.n o.x HTd.out hm0 (by omega) r HR.out).mono ?_; rintro e w3 ⟨rfl, low3, hM⟩; have HM := Lib.hid (hM.ids HROWd.out HOUT.out); have HB3 : Hid (Below w.heap.size w w3) := Lib.hid (by obtain ⟨_, _, h, _⟩ := HM.out; exact h.at_.below); clear hM))
      obtain ⟨SA3, SF3, hF3, hrow3, hout3⟩ := HM.out
      have HF3 := Lib.hid hF3
      have HROW3 := Lib.hid hrow3
      have HOUT3 := Lib.hid hout3
      have hbw : w.heap.size ≤ w3.heap.size := hF3.at_.below.size
      have HI3 : Hid (KInv os ids r.al r.sl 0) := Lib.hid (HINV.out.follow HPA.out HPF.out)
      have HM0 := Lib.hid hm0
      have HM1 := Lib.hid hm1
      clear hF3 hrow3 hout3 hm0 hm1 HM HINV HPA HPF HR
      by_cases he : r.err = 0
      · have HE := Lib.hid he
        have heb : (r.err != 0) = false := by simpa using he
        clear he
        go_wp2_with (first
          | (at_builtin; go_loud (refine wp_append_one liesI rfl (.tmp 85) (.tmp 87) 43 rfl w.heap.size 3 i0 _ 8 Tryd.underlying43 hi hz0 hz1 hz2 rfl (by omega) w3 io icap ids r.id [.int .i64 r.id] rfl rfl HROW3.out rfl (by omega) hbw ?_); intro io' icap' w5 hrow5 ho5 hnew5)
          | fail)
        have H5 : Hid (KeepF ta b os io' icap' (ids ++ [r.id]) (k + 1) 0 w w5) := Lib.hid (keepF_add HF3.out (by have := HP.out.1; have := HM0.out; omega) (by have := HP.out.2; have := HM1.out; omega) HROW3.out HOUT3.out HI3.out (by rw [HIK.out]; exact HO.out) (fun _ => HPS.out HE.out) hrow5 ho5 hnew5 HGLT.out)
        clear hrow5 ho5 hnew5
        go_roundw
        case rel => exact ⟨k + 1, io', icap', ids ++ [r.id], by simp, by go_num, by simp [HIK.out], by omega, H5⟩
        case measure => simp [intOf]; omega
      · have heb : (r.err != 0) = true := by simpa using he
        clear he
        go_wp2_with (first
          | (at_builtin; go_loud (refine wp_append_one liesI rfl (.tmp 85) (.tmp 87) 43 rfl w.heap.size 3 i0 _ 8 Tryd.underlying43 hi hz0 hz1 hz2 rfl (by omega) w3 io icap ids (-1) [.int .i64 (-1)] rfl rfl HROW3.out rfl (by omega) hbw ?_); intro io' icap' w5 hrow5 ho5 hnew5)
          | fail)
        have H5 : Hid (KeepF ta b os io' icap' (ids ++ [-1]) (k + 1) 0 w w5) := Lib.hid (keepF_add HF3.out (by have := HP.out.1; have := HM0.out; omega) (by have := HP.out.2; have := HM1.out; omega) HROW3.out HOUT3.out HI3.out (by rw [HIK.out]; exact HO.out) (fun e => by omega) hrow5 ho5 hnew5 HGLT.out)
        clear hrow5 ho5 hnew5
        go_roundw
        case rel => exact ⟨k + 1, io', icap', ids ++ [-1], by simp, by go_num, by simp [HIK.out], by omega, H5⟩
        case measure => simp [intOf]; omega
    · have HIN : Hid (ids.length = os.length) := Lib.hid (by have := HIK.out; omega)
      have H6 : Hid (KeepF ta b os io icap ids (50 + 0) 0 w wr) := Lib.hid ⟨SA, SF, low, made, al, sl, HT.out, hm0, by omega, HROW.out, HOUT.out, HINV.out⟩
      have HKL : k = os.length := by omega
      clear HT HROW HOUT HINV HIK hm0 hm1 hidl
      subst HKL
      clear hlt hk
      go_wp2_with fail
      go_loopw [13] (fun i wq => ∃ j : Nat, i = .int .i64 j ∧ j ≤ 3 ∧ Hid (KeepF ta b os io icap ids (50 + j) 0 w wq)) (fun i _ => 3 - (intOf i).toNat)
      case atStart => exact ⟨0, rfl, by omega, H6⟩
      case round =>
        obtain ⟨j, rfl, hj, hR⟩ := hrel
        clear H6
        by_cases hlt2 : j < 3 ∧ (j : Int) < n
        · obtain ⟨hj3, hjn⟩ := hlt2
          have hd3 : decide ((j : Int) < 3) = true := by simp; omega
          have H7 : Hid (KeepQ ta b os io icap ids (50 + j) 0 0 w wr) := Lib.hid ⟨rfl, hR.out⟩
          clear hR
          go_wp2_with fail
          obtain ⟨wo, rfl⟩ : ∃ wo : World, wo = wr := ⟨_, rfl⟩
          go_loopw [14] (fun i wq => ∃ q : Nat, i = .int .i64 q ∧ q ≤ os.length + 1 ∧ Hid (KeepQ ta b os io icap ids (50 + j) q q w wq)) (fun i _ => os.length + 1 - (intOf i).toNat)
          case atStart => exact ⟨0, rfl, by omega, H7⟩
          case round =>
            obtain ⟨q, rfl, hq, hR⟩ := hrel
            obtain ⟨hqe, SA, SF, low, made, al, sl, hT, hm0, hm1, hrow, hout, hinv⟩ := hR.out
            have HT := Lib.hid hT
            have HROW := Lib.hid hrow
            have HOUT := Lib.hid hout
            have HINV := Lib.hid hinv
            have HQE := Lib.hid hqe
            have HM0 := Lib.hid hm0
            have HM1 := Lib.hid hm1
            clear hT hrow hout hinv hqe hR H7 hm0 hm1
            by_cases hltq : q < os.length
            · obtain ⟨id, hid⟩ : ∃ id, ids[q]? = some id := ⟨_, List.getElem?_eq_getElem (by have := HIN.out; omega)⟩
              have HID := Lib.hid hid
              obtain ⟨g, rfl, _, hcell3⟩ := HROW.out.at liesI q id hid
              have d0 := (hcell3 0 (by omega)).1
              simp only [encI, Nat.mul_one, Nat.add_zero, List.getElem?_cons_zero] at d0
              have hidl3 : q < ids.length := by have := HIN.out; omega
              clear hid hcell3
              go_wp2_with fail
              refine (mark_all id HT.out).mono ?_
              rintro e w5 ⟨rfl, hM⟩
              have H8 : Hid (KeepQ ta b os (some ⟨g, 0, none⟩) icap ids (50 + j) (q + 2) (q + 2) w w5) := by
                obtain ⟨SA', SF', h1, h2, h3⟩ := hM.ids HROW.out HOUT.out
                exact Lib.hid ⟨by have := HQE.out; omega, _, _, _, made, al, _, h1, HM0.out, HM1.out, h2, h3, HINV.out.mark HQE.out HID.out⟩
              clear hM d0
              go_wp2_with fail
              go_roundw
              case rel => exact ⟨q + 2, by go_num, by omega, H8⟩
              case measure => simp [intOf]; omega
            · have HQ : Hid (os.length ≤ q) := Lib.hid (by omega)
              go_wp2_with fail
              refine (sweep_all HT.out).mono ?_
              rintro e w5 ⟨rfl, hM⟩
              have HA1 := Lib.hid (hM.ids HROW.out HOUT.out)
              clear hM HT HROW HOUT
              obtain ⟨SA1, SF1, hT, hrow, hout⟩ := HA1.out
              have HT := Lib.hid hT
              have HROW := Lib.hid hrow
              have HOUT := Lib.hid hout
              clear hT hrow hout HA1
              generalize (used sl : Int) - (used (sweepF sl) : Int) = gone at *
              go_wp2_with fail
              refine (atoms_any HT.out).mono ?_
              rintro e w6 ⟨rfl, hM⟩
              have HA1 := Lib.hid (hM.ids HROW.out HOUT.out)
              clear hM HT HROW HOUT
              obtain ⟨SA2, SF2, hT, hrow, hout⟩ := HA1.out
              have HT := Lib.hid hT
              have HROW := Lib.hid hrow
              have HOUT := Lib.hid hout
              clear hT hrow hout HA1
              go_wp2_with fail
              refine (atoms.st_sweep HT.out.at_).mono ?_
              rintro e w7 ⟨rfl, t7, o7⟩
              have HA1 := Lib.hid (((HT.out.atoms t7 o7).stepA o7).ids HROW.out HOUT.out)
              clear t7 o7 HT HROW HOUT
              obtain ⟨SA3, SF3, hT, hrow, hout⟩ := HA1.out
              have HT := Lib.hid hT
              have HROW := Lib.hid hrow
              have HOUT := Lib.hid hout
              have HI7 := Lib.hid (HINV.out.sweep HQ.out)
              clear hT hrow hout HA1 HINV
              generalize ((atoms.used (markP al (namesP (sweepF sl))) : Int) - (atoms.used (atoms.sweepTo (markP al (namesP (sweepF sl))) (markP al (namesP (sweepF sl))).length) : Int)) = gone2 at *
              generalize atoms.sweepTo (markP al (namesP (sweepF sl))) (markP al (namesP (sweepF sl))).length = al2 at *
              generalize sweepF sl = sl2 at *
              go_wp2_with fail
              refine (put_all _ _ HT.out HM0.out (by have := HM1.out; omega) _ rfl).mono ?_
              rintro e w8 ⟨rfl, low8, hM⟩
              have hp := put_made (la := 16384) (made := made) (al := al2) (lim := 16384) (sl := sl2) ⟨#[111, 116, 104, 101, 114]⟩ (1 + (j : Int))
              have H9 : Hid (KeepF ta b os io icap ids (50 + (j + 1)) 0 w w8) := by
                obtain ⟨SA', SF', h1, h2, h3⟩ := hM.ids HROW.out HOUT.out
                refine Lib.hid ⟨_, _, _, _, _, _, h1, ?_, ?_, h2, h3, HI7.out.follow (afollows_put _ _) (follows_put _ _)⟩
                · have := HM0.out; omega
                · have := HM1.out; omega
              clear hM hp HI7
              generalize putR 16384 made al2 16384 sl2 ⟨#[111, 116, 104, 101, 114]⟩ (1 + (j : Int)) = r at *
              go_wp2_with fail
              go_roundw
              case rel => exact ⟨j + 1, by go_num, by omega, H9⟩
              case measure => simp [intOf]; omega
        · have hstop : ¬ ((j : Int) < n) ∨ ¬ ((j : Int) < 3) := by omega
          have H7 : Hid (KeepQ ta b os io icap ids (50 + j) 0 0 w wr) := Lib.hid ⟨rfl, hR.out⟩
          clear hR hlt2
          by_cases hj3 : (j : Int) < n
          · have hj4 : ¬ ((j : Int) < 3) := by omega
            have hd1 : decide ((j : Int) < n) = true := by simpa using hj3
            have hd2 : decide ((j : Int) < 3) = false := by simpa using hj4
            clear hstop
            go_wp2_with fail
            obtain ⟨wo, rfl⟩ : ∃ wo : World, wo = wr := ⟨_, rfl⟩
            go_loopw [15] (fun i wq => ∃ q : Nat, i = .int .i64 q ∧ q ≤ os.length + 1 ∧ Hid (KeepQ ta b os io icap ids (50 + j) 0 q w wq)) (fun i _ => os.length + 1 - (intOf i).toNat)
            case atStart => exact ⟨0, rfl, by omega, H7⟩
            case round =>
              obtain ⟨q, rfl, hq, hR⟩ := hrel
              obtain ⟨hqe, SA, SF, low, made, al, sl, hT, hm0, hm1, hrow, hout, hinv⟩ := hR.out
              have HT := Lib.hid hT
              have HROW := Lib.hid hrow
              have HOUT := Lib.hid hout
              have HINV := Lib.hid hinv
              have HQE := Lib.hid hqe
              have HM0 := Lib.hid hm0
              have HM1 := Lib.hid hm1
              clear hT hrow hout hinv hqe hR H7 hm0 hm1
              by_cases hltq : q < os.length
              · obtain ⟨id, hid⟩ : ∃ id, ids[q]? = some id := ⟨_, List.getElem?_eq_getElem (by have := HIN.out; omega)⟩
                have HID := Lib.hid hid
                obtain ⟨g, rfl, _, hcell3⟩ := HROW.out.at liesI q id hid
                have d0 := (hcell3 0 (by omega)).1
                simp only [encI, Nat.mul_one, Nat.add_zero, List.getElem?_cons_zero] at d0
                have hidl3 : q < ids.length := by have := HIN.out; omega
                obtain ⟨bb, off, o, ho, rfl, hnm, hcell⟩ := HA.out.cell q hltq
                have HNM := Lib.hid hnm
                have HC := Lib.hid hcell
                have HO := Lib.hid ho
                clear hid hcell3 hcell ho hnm
                by_cases hneg : id < 0
                · have H8 : Hid (KeepQ ta b os (some ⟨g, 0, none⟩) icap ids (50 + j) 0 (q + 2) w wr) := Lib.hid ⟨by have := HQE.out; omega, SA, SF, low, made, al, sl, HT.out, HM0.out, HM1.out, HROW.out, HOUT.out, HINV.out⟩
                  go_wp2_with fail
                  go_roundw
                  case rel => exact ⟨q + 2, by go_num, by omega, H8⟩
                  case measure => simp [intOf]; omega
                · have hs := (HINV.out q o id HQE.out HO.out HID.out (by omega)).sits
                  have hapF : Apart sl := by
                    obtain ⟨ao, cap, m, hc⟩ := HT.out.fn
                    exact hc.apart
                  have HG := Lib.hid hs.get
                  have HFI := Lib.hid (hs.find HT.out.at_.tab.apart hapF)
                  have HWX : Hid ((Lit.int .i64 o.x).wf = true) := by
                    obtain ⟨jj, x, _, _, _, h4, _⟩ := hs
                    have := x.name.ok.2
                    rw [← h4]
                    exact Lib.hid (wfN this)
                  clear hs hapF
                  go_wp2_with fail
                  refine (get_all id HT.out _ HG.out).mono ?_
                  rintro e w5 ⟨rfl, hM⟩
                  have HM := Lib.hid (hM.ids HROW.out HOUT.out)
                  clear hM d0
                  obtain ⟨SA5, SF5, hT5, hrow5, hout5⟩ := HM.out
                  have HT5 := Lib.hid hT5
                  have HROW5 := Lib.hid hrow5
                  have HOUT5 := Lib.hid hout5
                  clear hT5 hrow5 hout5 HM
                  dsimp only
                  have hb0 : (0 : Int) ≤ (q : Int) := by omega
                  have hb1 : (q : Int) < (os.length : Int) := by omega
                  go_wp2_with fail
                  have HB := Lib.hid HT5.out.at_.below
                  have HTd := Lib.hid (HT5.out.quiet (Only.drew _ w5) ((Only.drew (fun _ => False) w5).below HB.out.size (fun _ _ e => e.elim)))
                  have HROWd := Lib.hid (HROW5.out.only (Only.drew (fun _ => False) w5) (fun _ _ e => e))
                  have HBd : Hid (Below w.heap.size w w5.drew) := Lib.hid HTd.out.at_.below
                  have HK1 : Hid (∀ w' : World, Below w.heap.size w w' → (w'.cell? ⟨bb, off + q * 3 + 1, none⟩ = some (.string o.n) ∧ w'.cell? ⟨bb, off + q * 3 + 2, none⟩ = some (.int .i64 o.x))) := Lib.hid (fun w' hb => ⟨(HC.out _ hb).2.1, (HC.out _ hb).2.2⟩)
                  go_region_held3 (fun w' => w'.cell? ⟨bb, off + q * 3 + 1, none⟩ = some (.string o.n) ∧ w'.cell? ⟨bb, off + q * 3 + 2, none⟩ = some (.int .i64 o.x)) (first | exact HK1.out _ HB3.out | exact HK1.out _ HBd.out | exact HK1.out _ HB.out | go_keep) (first
                    | (go_at_call 24; refine (find_all o.n o.x HTd.out HNM.out HWX.out _ HFI.out).mono ?_; rintro e w3 ⟨rfl, hM⟩; have HM := Lib.hid (hM.ids HROWd.out HOUT5.out); have HB3 : Hid (Below w.heap.size w w3) := Lib.hid (by obtain ⟨_, _, h, _⟩ := HM.out; exact h.at_.below); clear hM))
                  obtain ⟨SA6, SF6, hT6, hrow6, hout6⟩ := HM.out
                  have c1 := (HK1.out _ HB3.out).1
                  have c2 := (HK1.out _ HB3.out).2
                  obtain ⟨g', hg', _, hcell6⟩ := hrow6.at liesI q id HID.out
                  cases hg'
                  have d0 := (hcell6 0 (by omega)).1
                  simp only [encI, Nat.mul_one, Nat.add_zero, List.getElem?_cons_zero] at d0
                  have H8 : Hid (KeepQ ta b os (some ⟨g, 0, none⟩) icap ids (50 + j) 0 (q + 2) w w3) := Lib.hid ⟨by have := HQE.out; omega, SA6, SF6, low, made, al, sl, hT6, HM0.out, HM1.out, hrow6, hout6, HINV.out⟩
                  clear hT6 hrow6 hout6 hcell6 HM
                  go_wp2_with fail
                  go_roundw
                  case rel => exact ⟨q + 2, by go_num, by omega, H8⟩
                  case measure => simp [intOf]; omega
              · have HB := Lib.hid HT.out.at_.below
                go_wp2_with fail
                go_ret
                exact ⟨rfl, HB.out⟩
          · have hd1 : decide ((j : Int) < n) = false := by simpa using hj3
            clear hstop
            go_wp2_with fail
            obtain ⟨wo, rfl⟩ : ∃ wo : World, wo = wr := ⟨_, rfl⟩
            go_loopw [15] (fun i wq => ∃ q : Nat, i = .int .i64 q ∧ q ≤ os.length + 1 ∧ Hid (KeepQ ta b os io icap ids (50 + j) 0 q w wq)) (fun i _ => os.length + 1 - (intOf i).toNat)
            case atStart => exact ⟨0, rfl, by omega, H7⟩
            case round =>
              obtain ⟨q, rfl, hq, hR⟩ := hrel
              obtain ⟨hqe, SA, SF, low, made, al, sl, hT, hm0, hm1, hrow, hout, hinv⟩ := hR.out
              have HT := Lib.hid hT
              have HROW := Lib.hid hrow
              have HOUT := Lib.hid hout
              have HINV := Lib.hid hinv
              have HQE := Lib.hid hqe
              have HM0 := Lib.hid hm0
              have HM1 := Lib.hid hm1
              clear hT hrow hout hinv hqe hR H7 hm0 hm1
              by_cases hltq : q < os.length
              · obtain ⟨id, hid⟩ : ∃ id, ids[q]? = some id := ⟨_, List.getElem?_eq_getElem (by have := HIN.out; omega)⟩
                have HID := Lib.hid hid
                obtain ⟨g, rfl, _, hcell3⟩ := HROW.out.at liesI q id hid
                have d0 := (hcell3 0 (by omega)).1
                simp only [encI, Nat.mul_one, Nat.add_zero, List.getElem?_cons_zero] at d0
                have hidl3 : q < ids.length := by have := HIN.out; omega
                obtain ⟨bb, off, o, ho, rfl, hnm, hcell⟩ := HA.out.cell q hltq
                have HNM := Lib.hid hnm
                have HC := Lib.hid hcell
                have HO := Lib.hid ho
                clear hid hcell3 hcell ho hnm
                by_cases hneg : id < 0
                · have H8 : Hid (KeepQ ta b os (some ⟨g, 0, none⟩) icap ids (50 + j) 0 (q + 2) w wr) := Lib.hid ⟨by have := HQE.out; omega, SA, SF, low, made, al, sl, HT.out, HM0.out, HM1.out, HROW.out, HOUT.out, HINV.out⟩
                  go_wp2_with fail
                  go_roundw
                  case rel => exact ⟨q + 2, by go_num, by omega, H8⟩
                  case measure => simp [intOf]; omega
                · have hs := (HINV.out q o id HQE.out HO.out HID.out (by omega)).sits
                  have hapF : Apart sl := by
                    obtain ⟨ao, cap, m, hc⟩ := HT.out.fn
                    exact hc.apart
                  have HG := Lib.hid hs.get
                  have HFI := Lib.hid (hs.find HT.out.at_.tab.apart hapF)
                  have HWX : Hid ((Lit.int .i64 o.x).wf = true) := by
                    obtain ⟨jj, x, _, _, _, h4, _⟩ := hs
                    have := x.name.ok.2
                    rw [← h4]
                    exact Lib.hid (wfN this)
                  clear hs hapF
                  go_wp2_with fail
                  refine (get_all id HT.out _ HG.out).mono ?_
                  rintro e w5 ⟨rfl, hM⟩
                  have HM := Lib.hid (hM.ids HROW.out HOUT.out)
                  clear hM d0
                  obtain ⟨SA5, SF5, hT5, hrow5, hout5⟩ := HM.out
                  have HT5 := Lib.hid hT5
                  have HROW5 := Lib.hid hrow5
                  have HOUT5 := Lib.hid hout5
                  clear hT5 hrow5 hout5 HM
                  dsimp only
                  have hb0 : (0 : Int) ≤ (q : Int) := by omega
                  have hb1 : (q : Int) < (os.length : Int) := by omega
                  go_wp2_with fail
                  have HB := Lib.hid HT5.out.at_.below
                  have HTd := Lib.hid (HT5.out.quiet (Only.drew _ w5) ((Only.drew (fun _ => False) w5).below HB.out.size (fun _ _ e => e.elim)))
                  have HROWd := Lib.hid (HROW5.out.only (Only.drew (fun _ => False) w5) (fun _ _ e => e))
                  have HBd : Hid (Below w.heap.size w w5.drew) := Lib.hid HTd.out.at_.below
                  have HK1 : Hid (∀ w' : World, Below w.heap.size w w' → (w'.cell? ⟨bb, off + q * 3 + 1, none⟩ = some (.string o.n) ∧ w'.cell? ⟨bb, off + q * 3 + 2, none⟩ = some (.int .i64 o.x))) := Lib.hid (fun w' hb => ⟨(HC.out _ hb).2.1, (HC.out _ hb).2.2⟩)
                  go_region_held3 (fun w' => w'.cell? ⟨bb, off + q * 3 + 1, none⟩ = some (.string o.n) ∧ w'.cell? ⟨bb, off + q * 3 + 2, none⟩ = some (.int .i64 o.x)) (first | exact HK1.out _ HB3.out | exact HK1.out _ HBd.out | exact HK1.out _ HB.out | go_keep) (first
                    | (go_at_call 24; refine (find_all o.n o.x HTd.out HNM.out HWX.out _ HFI.out).mono ?_; rintro e w3 ⟨rfl, hM⟩; have HM := Lib.hid (hM.ids HROWd.out HOUT5.out); have HB3 : Hid (Below w.heap.size w w3) := Lib.hid (by obtain ⟨_, _, h, _⟩ := HM.out; exact h.at_.below); clear hM))
                  obtain ⟨SA6, SF6, hT6, hrow6, hout6⟩ := HM.out
                  have c1 := (HK1.out _ HB3.out).1
                  have c2 := (HK1.out _ HB3.out).2
                  obtain ⟨g', hg', _, hcell6⟩ := hrow6.at liesI q id HID.out
                  cases hg'
                  have d0 := (hcell6 0 (by omega)).1
                  simp only [encI, Nat.mul_one, Nat.add_zero, List.getElem?_cons_zero] at d0
                  have H8 : Hid (KeepQ ta b os (some ⟨g, 0, none⟩) icap ids (50 + j) 0 (q + 2) w w3) := Lib.hid ⟨by have := HQE.out; omega, SA6, SF6, low, made, al, sl, hT6, HM0.out, HM1.out, hrow6, hout6, HINV.out⟩
                  clear hT6 hrow6 hout6 hcell6 HM
                  go_wp2_with fail
                  go_roundw
                  case rel => exact ⟨q + 2, by go_num, by omega, H8⟩
                  case measure => simp [intOf]; omega
              · have HB := Lib.hid HT.out.at_.below
                go_wp2_with fail
                go_ret
                exact ⟨rfl, HB.out⟩
theorem law_keeps (ao : Option Addr) (cap : Nat) (os : List OpA) (n : Int) (w : World) (hA : ArgOps w ao os) (hm : os.length ≤ maxLen) (hL : atoms.Listed w) : Calls Tryd.prog 4 #[.slice ao os.length cap, .int .i64 n] w fun e w' => e = .returned (.bool true) ∧ Below w.heap.size w w' := by
  by_cases h : os.length ≤ 50
  · exact keeps_near ao cap os n w hA hL h
  · exact keeps_far ao cap os n w hL hm (by omega)
end Go.Proofs.YtoppfhbpmmepaaaDoor.functors
