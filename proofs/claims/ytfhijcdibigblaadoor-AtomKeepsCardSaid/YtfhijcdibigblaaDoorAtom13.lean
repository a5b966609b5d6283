/- AtomKeeps, walked. -/
import Derived.Test.YtfhijcdibigblaaDoorAtom12
namespace Go.Proofs.YtfhijcdibigblaaDoor.atoms
open Go.RowKit Go.Proofs.YtfhijcdibigblaaDoor.own Go.Maps

theorem St.below_row {S : Nat → Prop} {b : Nat} {lim made : Int} {sl : List ASlot} {w0 w w' : World} {ao : Option Addr} {cap : Nat} {ids : List Int} (h : St S b lim made sl w0 w) (hr : IdsP w0.heap.size ao cap ids w) (ho : Only (RowAt ao) w w') : Below w0.heap.size w w' :=
  ho.below h.below.size (by rintro k _ ⟨g, hg, rfl⟩; exact (hr.head g hg).2.1)
/-- Behind the append of a number. -/
theorem keepA_add {S : Nat → Prop} {b : Nat} {made : Int} {sl : List ASlot} {w0 w w' : World} {ns : List ByteArray} {ao ao' : Option Addr} {cap cap' : Nat} {ids : List Int} {id : Int} {n : ByteArray} (hL : (0 : Nat) < w0.heap.size)
    (h : St S b 16384 made sl w0 w) (hD : Dense made sl) (h0 : 0 ≤ made) (h1 : made ≤ (ids.length : Int) + 1) (hr : IdsP w0.heap.size ao cap ids w) (ho : IdsOut S ao) (hI : InvA ns ids sl)
    (hn : ns[ids.length]? = some n) (hi : n.size ≤ 64 → Sits sl n id (ids.length % 2 == 0)) (hr' : IdsP w0.heap.size ao' cap' (ids ++ [id]) w') (o' : Only (RowAt ao) w w') (hnew : NewRow w.heap.size ao ao') : KeepA b ns ao' cap' (ids ++ [id]) w0 w' := by
  have hb := h.below_row hr o'
  refine ⟨S, made, sl, h.still o' ?_ ?_ hb, hD, h0, by simp; omega, hr', ho.append hnew (fun k hk => (h.tab.bound.2.2.2 k hk).2), hI.add hn hi⟩
  · rintro k hk ⟨g, hg, rfl⟩; exact ho g hg hk
  · rintro ⟨g, hg, e⟩; have := (hr.head g hg).2.1; omega

def EndR (ao : Option Addr) (cap : Nat) (ids : List Int) (w0 w : World) : Prop := Below w0.heap.size w0 w ∧ IdsP w0.heap.size ao cap ids w
theorem EndR.drewN {ao : Option Addr} {cap : Nat} {ids : List Int} {w0 w : World} (h : EndR ao cap ids w0 w) (n : Nat) : EndR ao cap ids w0 (w.drewN n) :=
  ⟨h.1.trans ((Only.drewN (fun _ => False) w n).below h.1.size (fun _ _ e => e.elim)), h.2.only (Only.drewN (fun _ => False) w n) (fun _ _ e => e)⟩
set_option maxRecDepth 100000 in
set_option maxHeartbeats 8000000 in
theorem keeps_near (ao : Option Addr) (cap : Nat) (ns : List ByteArray) (bo : Option Addr) (bcap : Nat) (ms : List ByteArray) (w : World) (hA : ArgNames w ao ns) (hB : ArgNames w bo ms) (hL : Listed w) (hlen : ns.length ≤ 50) (hlen2 : ms.length ≤ 50) :
    Calls Tryd.prog 4 #[.slice ao ns.length cap, .slice bo ms.length bcap] w fun e w' => e = .returned (.bool true) ∧ Below w.heap.size w w' := by
  obtain ⟨i0, hi, hz0, hz1, hz2⟩ := info_parts infoI
  have HL := Lib.hid hL
  have HA := Lib.hid hA
  have HB := Lib.hid hB
  have hglt := hL.lt
  have hnot := run_not
  clear hL hA hB
  go_enter Tryd.func4, Tryd.ntmps4
  go_wp2_with fail
  refine (new_yes 16384 _ (by omega) (by omega)).mono ?_
  rintro e w1 ⟨rfl, t1⟩
  have T1 := Lib.hid (St.new HL.out t1 (by omega) (by omega))
  clear t1
  go_wp2_with fail
  refine (lives_any _ T1.out.listed).mono ?_
  rintro e w2 ⟨rfl, b2⟩
  have T2 : Hid (KeepA w.heap.size ns none 0 [] w w2) := Lib.hid ⟨_, 0, _, T1.out.still (Only.of_below b2 (fun _ => False)) (fun _ _ e => e) (fun e => e) (b2.mono T1.out.below.size), Dense.first, by omega, by simp, RowOf.nil _ _ _ _ _, fun g hg => (by cases hg), fun i n id _ h => (by simp at h)⟩
  clear b2
  go_wp2_with fail
  go_loopw [7, 8] (fun v i wr => ∃ (k : Nat) (io : Option Addr) (icap : Nat) (ids : List Int), v = .slice io ids.length icap ∧ i = .int .i64 k ∧ ids.length = k ∧ k ≤ ns.length ∧ Hid (KeepA w.heap.size ns io icap ids w wr)) (fun _ i _ => ns.length - (intOf i).toNat)
  case atStart => exact ⟨0, none, 0, [], rfl, rfl, rfl, by omega, T2⟩
  case round =>
    obtain ⟨k, io, icap, ids, rfl, rfl, hik, hk, hR⟩ := hrel
    obtain ⟨S, made, sl, hT, hD, hm0, hm1, hrow, hout, hinv⟩ := hR.out
    have HT := Lib.hid hT
    have HD := Lib.hid hD
    have HROW := Lib.hid hrow
    have HOUT := Lib.hid hout
    have HINV := Lib.hid hinv
    have HIK := Lib.hid hik
    have hidl : ids.length ≤ 50 := by omega
    clear hT hD hR T2 hrow hout hinv
    by_cases hlt : k < ns.length
    · obtain ⟨b, off, n, hn, rfl, hnm, hcell⟩ := HA.out.cell k hlt
      unfold maxLen at hnm
      have HC := Lib.hid hcell
      have HN := Lib.hid hn
      have c0 := HC.out _ HT.out.below
      clear hn hcell
      by_cases hn64 : n.size ≤ 64
      · have hto := told_of (lim := 16384) HD.out (by omega) hn64
        have hfo := follows_intern 16384 made sl n
        generalize hr : internF 16384 made sl n = r at hto hfo
        have HR := Lib.hid hr
        have HTO := Lib.hid hto
        have HFO := Lib.hid hfo
        clear hr hto hfo hik
        go_wp2_with fail
        refine (st_intern n HT.out hm0 (by omega) r HR.out).mono ?_
        rintro e w4 ⟨rfl, t4, o4⟩
        have T4 := Lib.hid t4
        have c0 := HC.out _ t4.below
        have HROW4 := Lib.hid (HROW.out.only o4 HOUT.out)
        have HOUT4 := Lib.hid (HOUT.out.grew (w' := w4) HROW.out)
        have hbw : w.heap.size ≤ w4.heap.size := t4.below.size
        clear t4 o4
        rw [HTO.out.err]
        have hd64 : decide ((n.size : Int) ≤ 64) = true := by simp; omega
        have HM0 := HTO.out.lo
        have HM1 := HTO.out.hi
        go_wp2_with (first
          | (at_builtin; refine wp_append_one liesI rfl (.tmp 72) (.tmp 74) 42 rfl w.heap.size 3 i0 _ 8 Tryd.underlying42 hi hz0 hz1 hz2 rfl (by omega) w4 io icap ids r.id [.int .i64 r.id] rfl rfl HROW4.out rfl (by omega) hbw ?_; intro io' icap' w5 hrow5 ho5 hnew5)
          | fail)
        · have hev : k % 2 = 0 := by have h : ((k : Int) % 2 == 0) = true := by assumption
                                     simp at h; omega
          have HROW5 := Lib.hid hrow5
          have HO5 := Lib.hid ho5
          have HNEW5 := Lib.hid hnew5
          have T5 := Lib.hid (T4.out.still ho5 (by rintro j hj ⟨g', hg', rfl⟩; exact HOUT4.out g' hg' hj) (by rintro ⟨g', hg', e⟩; have := (HROW4.out.head g' hg').2.1; omega) (T4.out.below_row HROW4.out ho5))
          clear hrow5 ho5 hnew5 c0
          refine (st_mark r.id T5.out).mono ?_
          rintro e w6 ⟨rfl, t6, o6⟩
          rw [HTO.out.name.2]
          have T6 : Hid (KeepA w.heap.size ns io' icap' (ids ++ [r.id]) w w6) := by
            have hout5 : IdsOut _ io' := HOUT4.out.append HNEW5.out (fun j hj => (T4.out.tab.bound.2.2.2 j hj).2)
            obtain ⟨j, hj, hf⟩ := HTO.out.id
            obtain ⟨x, hx, hu, hnm⟩ := findF_some hf
            obtain ⟨x', g1, g2, g3, g4⟩ := marked_is hx hu
            refine Lib.hid ⟨_, r.made, _, t6, dense_mark HTO.out.dense _, by omega, by simp; have := HIK.out; omega, HROW5.out.only o6 hout5, hout5.grew HROW5.out, ?_⟩
            refine InvA.add ((HINV.out.follow HFO.out).follow (follows_mark _ _)) (by rw [HIK.out]; exact HN.out) (fun _ => ⟨j, x', hj, by rw [hj]; exact g1, g2, g3.trans hnm, fun _ => g4⟩)
          clear t6 o6
          go_wp2_with fail
          go_roundw
          case rel => exact ⟨k + 1, io', icap', ids ++ [r.id], by simp, by go_num, by simp [HIK.out], by omega, T6⟩
          case measure => simp [intOf]; omega
        · have hev : ¬ k % 2 = 0 := by have h : ((k : Int) % 2 == 0) = false := by assumption
                                       simp at h; omega
          have T5 : Hid (KeepA w.heap.size ns io' icap' (ids ++ [r.id]) w w5) := by
            obtain ⟨j, hj, hf⟩ := HTO.out.id
            obtain ⟨x, hx, hu, hnm⟩ := findF_some hf
            exact Lib.hid (keepA_add hglt T4.out HTO.out.dense (by omega) (by have := HIK.out; omega) HROW4.out HOUT4.out (HINV.out.follow HFO.out) (by rw [HIK.out]; exact HN.out) (fun _ => ⟨j, x, hj, hx, hu, hnm, fun e => by rw [HIK.out] at e; simp at e; omega⟩) hrow5 ho5 hnew5)
          clear hrow5 ho5 hnew5
          go_roundw
          case rel => exact ⟨k + 1, io', icap', ids ++ [r.id], by simp, by go_num, by simp [HIK.out], by omega, T5⟩
          case measure => simp [intOf]; omega
      · have hr : internF 16384 made sl n = ⟨0, 3, sl, made⟩ := by unfold internF; rw [if_pos (by omega)]
        have HR := Lib.hid hr
        have hgt : 64 < (n.size : Int) := by omega
        have hd64 : decide ((n.size : Int) ≤ 64) = false := by simp; omega
        have HN64 := Lib.hid hn64
        clear hr hn64 hik
        go_wp2_with fail
        refine (st_intern n HT.out hm0 (by omega) _ HR.out).mono ?_
        rintro e w4 ⟨rfl, t4, o4⟩
        have T4 := Lib.hid t4
        have c0 := HC.out _ t4.below
        have HROW4 := Lib.hid (HROW.out.only o4 HOUT.out)
        have HOUT4 := Lib.hid (HOUT.out.grew (w' := w4) HROW.out)
        have hbw : w.heap.size ≤ w4.heap.size := t4.below.size
        clear t4 o4
        go_wp2_with (first
          | (at_builtin; refine wp_append_one liesI rfl (.tmp 72) (.tmp 74) 42 rfl w.heap.size 3 i0 _ 8 Tryd.underlying42 hi hz0 hz1 hz2 rfl (by omega) w4 io icap ids 0 [.int .i64 0] rfl rfl HROW4.out rfl (by omega) hbw ?_; intro io' icap' w5 hrow5 ho5 hnew5)
          | fail)
        have T5 : Hid (KeepA w.heap.size ns io' icap' (ids ++ [0]) w w5) := Lib.hid (keepA_add hglt T4.out HD.out hm0 (by show made ≤ _; omega) HROW4.out HOUT4.out HINV.out (by rw [HIK.out]; exact HN.out) (fun e => absurd e HN64.out) hrow5 ho5 hnew5)
        clear hrow5 ho5 hnew5
        go_roundw
        case rel => exact ⟨k + 1, io', icap', ids ++ [0], by simp, by go_num, by simp [HIK.out], by omega, T5⟩
        case measure => simp [intOf]; omega
    · have hkn : k = ns.length := by omega
      have HIN : Hid (ids.length = ns.length) := Lib.hid (by omega)
      have HCC : Hid (InvC ns ids) := Lib.hid (HINV.out.apart HT.out.tab.apart)
      clear hkn hik
      go_wp2_with fail
      refine (st_sweep HT.out).mono ?_
      rintro e w4 ⟨rfl, t4, o4⟩
      have T4 : Hid (KeepB w.heap.size ns io icap ids 50 w w4) := Lib.hid ⟨_, made, _, t4, hm0, by omega, HROW.out.only o4 HOUT.out, HOUT.out.grew HROW.out, HINV.out.sweep⟩
      clear t4 o4 HT HD HROW HOUT HINV
      generalize (used sl : Int) - (used (sweepTo sl sl.length) : Int) = gone at *
      go_wp2_with fail
      go_loopw [11] (fun i wq => ∃ j : Nat, i = .int .i64 j ∧ j ≤ ms.length ∧ Hid (KeepB w.heap.size ns io icap ids (50 + j) w wq)) (fun i _ => ms.length - (intOf i).toNat)
      case atStart => exact ⟨0, rfl, by omega, T4⟩
      case round =>
        obtain ⟨j, rfl, hj, hR⟩ := hrel
        obtain ⟨S2, made2, sl2, hT2, hm20, hm21, hrow2, hout2, hinv2⟩ := hR.out
        have HT2 := Lib.hid hT2
        have HROW2 := Lib.hid hrow2
        have HOUT2 := Lib.hid hout2
        have HINV2 := Lib.hid hinv2
        clear hT2 hrow2 hout2 hinv2
        by_cases hlt2 : j < ms.length
        · obtain ⟨b, off, n, hn, rfl, hnm, hcell⟩ := HB.out.cell j hlt2
          unfold maxLen at hnm
          have c0 := hcell _ HT2.out.below
          clear hn hcell
          go_wp2_with fail
          refine (st_intern n HT2.out hm20 (by omega) _ rfl).mono ?_
          rintro e w5 ⟨rfl, t5, o5⟩
          have hmm := internF_made 16384 made2 sl2 n
          have T5 : Hid (KeepB w.heap.size ns io icap ids (50 + (j + 1)) w w5) := Lib.hid ⟨_, _, _, t5, by omega, by omega, HROW2.out.only o5 HOUT2.out, HOUT2.out.grew HROW2.out, HINV2.out.follow (follows_intern _ _ _ _)⟩
          clear t5 o5 hmm
          generalize internF 16384 made2 sl2 n = r2 at *
          go_wp2_with fail
          go_roundw
          case rel => exact ⟨j + 1, by go_num, by omega, T5⟩
          case measure => simp [intOf]; omega
        · clear HT2 HROW2 HOUT2 HINV2 T4
          have T6 := hR
          clear hR hm20 hm21
          go_wp2_with fail
          go_loopw [12] (fun i wq => ∃ q : Nat, i = .int .i64 q ∧ q ≤ ns.length + 1 ∧ Hid (q % 2 = 0 ∧ KeepB w.heap.size ns io icap ids (50 + j) w wq)) (fun i _ => ns.length + 1 - (intOf i).toNat)
          case atStart => exact ⟨0, rfl, by omega, Lib.hid ⟨rfl, T6.out⟩⟩
          case round =>
            obtain ⟨q, rfl, hq, hR⟩ := hrel
            obtain ⟨hqe, S3, made3, sl3, hT3, hm30, hm31, hrow3, hout3, hinv3⟩ := hR.out
            have HT3 := Lib.hid hT3
            have HROW3 := Lib.hid hrow3
            have HOUT3 := Lib.hid hout3
            have HINV3 := Lib.hid hinv3
            have HQE := Lib.hid hqe
            clear hT3 hrow3 hout3 hinv3 hqe hR
            by_cases hltq : q < ns.length
            · obtain ⟨b, off, n, hn, rfl, hnm, hcell⟩ := HA.out.cell q hltq
              unfold maxLen at hnm
              have HC := Lib.hid hcell
              have c0 := HC.out _ HT3.out.below
              by_cases hn64 : n.size ≤ 64
              · obtain ⟨id, hid⟩ : ∃ id, ids[q]? = some id := ⟨_, List.getElem?_eq_getElem (by have := HIN.out; omega)⟩
                obtain ⟨jj, hjj, hof⟩ := HINV3.out q n id HQE.out hn hid hn64
                have HOF := Lib.hid hof
                have HJJ := Lib.hid hjj
                have HID := Lib.hid hid
                obtain ⟨g, rfl, _, hcell3⟩ := HROW3.out.at liesI q id hid
                have d0 := (hcell3 0 (by omega)).1
                simp only [encI, Nat.mul_one, Nat.add_zero, List.getElem?_cons_zero] at d0
                have hidl3 : q < ids.length := by have := HIN.out; omega
                have hcap3 := HROW3.out.cap_ge
                clear hn hcell hof hjj hid hcell3
                go_wp2_with fail
                refine (st_name id HT3.out).mono ?_
                rintro e w5 ⟨rfl, t5, o5⟩
                have hnn := nameS_of HOF.out
                rw [← HJJ.out] at hnn
                rw [hnn.1, hnn.2]
                have T5 := Lib.hid t5
                have HROW5 := Lib.hid (HROW3.out.only o5 HOUT3.out)
                have HOUT5 := Lib.hid (HOUT3.out.grew (w' := w5) HROW3.out)
                have c0 := HC.out _ t5.below
                clear t5 o5 hnn d0
                go_wp2_with fail
                refine (st_find n T5.out (by unfold maxLen; omega)).mono ?_
                rintro e w6 ⟨rfl, t6, o6⟩
                have hff := findI_of T5.out.tab.apart HOF.out
                rw [← HJJ.out] at hff
                rw [hff.1, hff.2]
                have T7 : Hid ((q + 2) % 2 = 0 ∧ KeepB w.heap.size ns (some ⟨g, 0, none⟩) icap ids (50 + j) w w6) := by
                  refine Lib.hid ⟨by have := HQE.out; omega, _, _, _, t6, hm30, hm31, HROW5.out.only o6 HOUT5.out, HOUT5.out.grew HROW5.out, HINV3.out⟩
                have hrow6 := HROW5.out.only o6 HOUT5.out
                obtain ⟨g', hg', _, hcell6⟩ := hrow6.at liesI q id HID.out
                cases hg'
                have d0 := (hcell6 0 (by omega)).1
                simp only [encI, Nat.mul_one, Nat.add_zero, List.getElem?_cons_zero] at d0
                have c0 := HC.out _ t6.below
                clear t6 o6 hff hrow6 hcell6
                go_wp2_with fail
                go_roundw
                case rel => exact ⟨q + 2, by go_num, by omega, T7⟩
                case measure => simp [intOf]; omega
              · have hgt : 64 < (n.size : Int) := by omega
                have T7 : Hid ((q + 2) % 2 = 0 ∧ KeepB w.heap.size ns io icap ids (50 + j) w wr) := Lib.hid ⟨by have := HQE.out; omega, _, _, _, HT3.out, hm30, hm31, HROW3.out, HOUT3.out, HINV3.out⟩
                clear hn hcell hn64
                go_wp2_with fail
                go_roundw
                case rel => exact ⟨q + 2, by go_num, by omega, T7⟩
                case measure => simp [intOf]; omega
            · have HE : Hid (EndR io icap ids w wr) := Lib.hid ⟨HT3.out.below, HROW3.out⟩
              clear HT3 HROW3 HOUT3 HINV3 HQE
              go_wp2_with fail
              go_loopw [17, 18] (fun i _ wq => ∃ q : Nat, i = .int .i64 q ∧ q ≤ ns.length ∧ Hid (EndR io icap ids w wq)) (fun i _ _ => ns.length - (intOf i).toNat)
              case atStart => exact ⟨0, rfl, by omega, HE⟩
              case round =>
                obtain ⟨a, rfl, ha, hR⟩ := hrel
                by_cases halt : a < ns.length
                · go_wp2_with fail
                  obtain ⟨wo, hwo⟩ : ∃ wo : World, wo = wr := ⟨_, rfl⟩
                  clear hwo
                  go_loopw [18] (fun i wq => ∃ q : Nat, i = .int .i64 q ∧ q ≤ a ∧ Hid (EndR io icap ids w wq)) (fun i _ => a - (intOf i).toNat)
                  case atStart => exact ⟨0, rfl, by omega, hR⟩
                  case round =>
                    obtain ⟨c, rfl, hc, hR2⟩ := hrel
                    by_cases hca : c < a
                    · obtain ⟨b, off, n, hn, rfl, hnm, hcell⟩ := HA.out.cell a halt
                      obtain ⟨b', off', m, hm, hao, hmm, hcell2⟩ := HA.out.cell c (by omega)
                      cases hao
                      unfold maxLen at hnm hmm
                      obtain ⟨x, hx⟩ : ∃ x, ids[a]? = some x := ⟨_, List.getElem?_eq_getElem (by have := HIN.out; omega)⟩
                      obtain ⟨y, hy⟩ : ∃ y, ids[c]? = some y := ⟨_, List.getElem?_eq_getElem (by have := HIN.out; omega)⟩
                      have c0 := hcell _ hR2.out.1
                      have c1 := hcell2 _ hR2.out.1
                      obtain ⟨g, rfl, _, hcx⟩ := hR2.out.2.at liesI a x hx
                      obtain ⟨g', hg', _, hcy⟩ := hR2.out.2.at liesI c y hy
                      cases hg'
                      have d0 := (hcx 0 (by omega)).1
                      have d1 := (hcy 0 (by omega)).1
                      simp only [encI, Nat.mul_one, Nat.add_zero, List.getElem?_cons_zero] at d0 d1
                      have hcap3 := hR2.out.2.cap_ge
                      have hil : ids.length = ns.length := HIN.out
                      have hal : a < ids.length := by omega
                      have hcl : c < ids.length := by omega
                      have HIL := Lib.hid hil
                      have HCI := Lib.hid (HCC.out a c n m x y hn hm hx hy)
                      have HR2 := hR2
                      clear hn hm hx hy hcell hcell2 hcx hcy hil hR2 hR
                      by_cases h1 : n.size ≤ 64
                      · by_cases h2 : m.size ≤ 64
                        · have hdn : decide ((n.size : Int) ≤ 64) = true := by simp; omega
                          have hdm : decide ((m.size : Int) ≤ 64) = true := by simp; omega
                          have hiff := HCI.out h1 h2
                          by_cases e : n = m
                          · have hxy := hiff.2 e
                            subst e
                            subst hxy
                            clear hiff
                            go_wp2_with fail
                            go_quiet (fail)
                            have HR3 := Lib.hid (HR2.out.drewN nq)
                            generalize wr.drewN nq = w9 at *
                            go_wp2_with fail
                            go_roundw
                            case rel => exact ⟨c + 1, by go_num, by omega, HR3⟩
                            case measure => simp [intOf]; omega
                          · have hxy : ¬ x = y := fun h => e (hiff.1 h)
                            have hxb : (x == y) = false := by simpa using hxy
                            have hnb : (n.toList == m.toList) = false := by
                              rw [beq_eq_false_iff_ne]
                              intro h
                              rw [ByteArray.toList_eq, ByteArray.toList_eq] at h
                              exact e (ba_ext h)
                            clear hiff
                            go_wp2_with fail
                            go_quiet (fail)
                            have HR3 := Lib.hid (HR2.out.drewN nq)
                            generalize wr.drewN nq = w9 at *
                            go_wp2_with fail
                            go_roundw
                            case rel => exact ⟨c + 1, by go_num, by omega, HR3⟩
                            case measure => simp [intOf]; omega
                        · have hdn : decide ((n.size : Int) ≤ 64) = true := by simp; omega
                          have hdm : decide ((m.size : Int) ≤ 64) = false := by simp; omega
                          go_wp2_with fail
                          go_quiet (fail)
                          have HR3 := Lib.hid (HR2.out.drewN nq)
                          generalize wr.drewN nq = w9 at *
                          go_wp2_with fail
                          go_roundw
                          case rel => exact ⟨c + 1, by go_num, by omega, HR3⟩
                          case measure => simp [intOf]; omega
                      · have hdn : decide ((n.size : Int) ≤ 64) = false := by simp; omega
                        go_wp2_with fail
                        go_quiet (fail)
                        have HR3 := Lib.hid (HR2.out.drewN nq)
                        generalize wr.drewN nq = w9 at *
                        go_wp2_with fail
                        go_roundw
                        case rel => exact ⟨c + 1, by go_num, by omega, HR3⟩
                        case measure => simp [intOf]; omega
                    · obtain rfl : c = a := by omega
                      have HF := hR2
                      go_wp2_with fail
                      go_roundw
                      case rel => exact ⟨c + 1, by go_num, by omega, HF⟩
                      case measure => simp [intOf]; omega
                · have HF := hR
                  go_wp2_with fail
                  go_ret
                  exact ⟨rfl, HF.out.1⟩
set_option maxRecDepth 100000 in
set_option maxHeartbeats 4000000 in
theorem keeps_far1 (ao : Option Addr) (cap : Nat) (ns : List ByteArray) (bo : Option Addr) (bcap : Nat) (ms : List ByteArray) (w : World) (hL : Listed w) (hm : ns.length ≤ maxLen) (hm2 : ms.length ≤ maxLen) (hlen : 50 < ns.length) :
    Calls Tryd.prog 4 #[.slice ao ns.length cap, .slice bo ms.length bcap] w fun e w' => e = .returned (.bool true) ∧ Below w.heap.size w w' := by
  unfold maxLen at hm hm2
  have HL := Lib.hid hL
  have hnot := run_not
  clear hL
  go_enter Tryd.func4, Tryd.ntmps4
  go_wp2_with fail
  refine (new_yes 16384 _ (by omega) (by omega)).mono ?_
  rintro e w1 ⟨rfl, t1⟩
  have T1 := Lib.hid (St.new HL.out t1 (by omega) (by omega))
  clear t1
  go_wp2_with fail
  refine (lives_any _ T1.out.listed).mono ?_
  rintro e w2 ⟨rfl, b2⟩
  have T2 := Lib.hid (T1.out.still (Only.of_below b2 (fun _ => False)) (fun _ _ e => e) (fun e => e) (b2.mono T1.out.below.size))
  clear b2
  go_wp2_with fail
  refine (lives_any _ T2.out.listed).mono ?_
  rintro e w3 ⟨rfl, b3⟩
  have B3 := Lib.hid (T2.out.below.trans (b3.mono T2.out.below.size))
  clear b3
  go_wp2_with fail
  go_ret
  exact ⟨rfl, B3.out⟩
set_option maxRecDepth 100000 in
set_option maxHeartbeats 4000000 in
theorem keeps_far2 (ao : Option Addr) (cap : Nat) (ns : List ByteArray) (bo : Option Addr) (bcap : Nat) (ms : List ByteArray) (w : World) (hL : Listed w) (hm : ns.length ≤ maxLen) (hm2 : ms.length ≤ maxLen) (hlen : ns.length ≤ 50) (hlen2 : 50 < ms.length) :
    Calls Tryd.prog 4 #[.slice ao ns.length cap, .slice bo ms.length bcap] w fun e w' => e = .returned (.bool true) ∧ Below w.heap.size w w' := by
  unfold maxLen at hm hm2
  have HL := Lib.hid hL
  have hnot := run_not
  clear hL
  go_enter Tryd.func4, Tryd.ntmps4
  go_wp2_with fail
  refine (new_yes 16384 _ (by omega) (by omega)).mono ?_
  rintro e w1 ⟨rfl, t1⟩
  have T1 := Lib.hid (St.new HL.out t1 (by omega) (by omega))
  clear t1
  go_wp2_with fail
  refine (lives_any _ T1.out.listed).mono ?_
  rintro e w2 ⟨rfl, b2⟩
  have T2 := Lib.hid (T1.out.still (Only.of_below b2 (fun _ => False)) (fun _ _ e => e) (fun e => e) (b2.mono T1.out.below.size))
  clear b2
  go_wp2_with fail
  refine (lives_any _ T2.out.listed).mono ?_
  rintro e w3 ⟨rfl, b3⟩
  have B3 := Lib.hid (T2.out.below.trans (b3.mono T2.out.below.size))
  clear b3
  go_wp2_with fail
  go_ret
  exact ⟨rfl, B3.out⟩
theorem law_keeps (ao : Option Addr) (cap : Nat) (ns : List ByteArray) (bo : Option Addr) (bcap : Nat) (ms : List ByteArray) (w : World) (hA : ArgNames w ao ns) (hB : ArgNames w bo ms) (hm : ns.length ≤ maxLen) (hm2 : ms.length ≤ maxLen) (hL : Listed w) :
    Calls Tryd.prog 4 #[.slice ao ns.length cap, .slice bo ms.length bcap] w fun e w' => e = .returned (.bool true) ∧ Below w.heap.size w w' := by
  by_cases h : ns.length ≤ 50
  · by_cases h2 : ms.length ≤ 50
    · exact keeps_near ao cap ns bo bcap ms w hA hB hL h h2
    · exact keeps_far2 ao cap ns bo bcap ms w hL hm hm2 h (by omega)
  · exact keeps_far1 ao cap ns bo bcap ms w hL hm hm2 (by omega)
end Go.Proofs.YtfhijcdibigblaaDoor.atoms
