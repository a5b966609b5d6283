/- Terms: the law TermLists. -/
import Derived.Test.YtdpbbcjlbnangaaTerm67
namespace Go.Proofs.Ytdpbbcjlbnangaa.terms
open Go.RowKit Go.Proofs.Ytdpbbcjlbnangaa.own Go.Maps
theorem manyF_no {l : List T} (h : manyF l = false) : sizes l ≤ 10000 := by
  unfold manyF at h
  rw [Bool.or_eq_false_iff] at h
  have := h.2
  simp at this
  exact this
theorem listF_items (l : List T) {t : T} (h : t.pair = false) : itemsF (listF l t) = (l, t) := by
  induction l with
  | nil => exact itemsF_end h
  | cons x r ih =>
    have hp : (T.mk 4 0 dot [x, listF r t]).pair = true := T.pair_iff.2 ⟨rfl, (by show dot.toList = [46]; decide +kernel), rfl⟩
    show itemsF (T.mk 4 0 dot [x, listF r t]) = _
    rw [itemsF_pair hp rfl, ih]
theorem listF_size (l : List T) (t : T) : (listF l t).size = l.length + sizes l + t.size := by
  induction l with
  | nil => simp [listF, sizes]
  | cons x r ih =>
    simp only [listF, T.size, sizes, List.length_cons, ih]
    omega
theorem eqbs_refl (l : List T) : eqbs l l = true := by
  induction l with
  | nil => rfl
  | cons x r ih => simp [eqbs, T.eqb_refl, ih]
set_option maxRecDepth 100000 in
set_option maxHeartbeats 16000000 in
theorem law_lists_of (LV : ∀ w : World, Calls Try.prog 11 #[] w fun e w' => e = .returned (.bool true) ∧ Only (fun _ => False) w w') (io : Option Addr) (ic : Nat) (ts : List T) (ao : Option Addr) (cap : Nat) (t : T) (w : World) (hil : Lies w io ts) (hin : ts.length ≤ maxLen) (hl : Lies w ao t.l) (hs : t.Sane) :
    Calls Try.prog 8 #[.slice io ts.length ic, tv t ao cap] w fun e w' => e = .returned (.bool true) ∧ Below w.heap.size w w' := by
  have HLV := Lib.hid LV
  have HIL := Lib.hid hil
  have HL := Lib.hid hl
  have HS := Lib.hid hs
  have HB0 : Hid (Boxed w w.heap.size t ao cap (w.alloc (.cells #[.int .i64 t.k, .int .i64 t.n, .string t.s, .slice ao t.l.length cap] 24))) := Lib.hid ⟨Held.new cap hl, Only.alloc _ _ _⟩
  have HLA := Lib.hid (fun (w1 : World) (ho : Only (fun _ => False) w w1) => rlarge_any t w1 ao cap (hl.later ho) hs)
  unfold maxLen at hin
  clear LV hl hs hil
  by_cases hmany : 50 < ts.length
  · have hm1 : (50 : Int) < (ts.length : Int) := by omega
    go_enter Try.func8, Try.ntmps8
    go_wp2_with fail
    refine (HLV.out _).mono ?_
    rintro e w2 ⟨rfl, ho2⟩
    have HO2 := Lib.hid (HB0.out.o.same ho2)
    clear ho2
    go_wp2_with fail
    go_ret
    exact ⟨rfl, HO2.out.to_below⟩
  · have hm1 : ¬ (50 : Int) < (ts.length : Int) := by omega
    by_cases hbig : t.Big = true
    · rw [hbig] at HLA
      go_enter Try.func8, Try.ntmps8
      go_wp2_with fail
      refine (HLA.out _ HB0.out.o).mono ?_
      rintro e w1 ⟨rfl, ho1⟩
      have HO1 := Lib.hid (HB0.out.o.same ho1)
      clear ho1 HLA
      go_wp2_with fail
      refine (HLV.out _).mono ?_
      rintro e w2 ⟨rfl, ho2⟩
      have HO2 := Lib.hid (HO1.out.same ho2)
      clear ho2
      go_wp2_with fail
      go_ret
      exact ⟨rfl, HO2.out.to_below⟩
    · have hbig' : t.Big = false := by simpa using hbig
      rw [hbig'] at HLA
      have hfew := T.few hbig'
      clear hbig hbig'
      have HMA := Lib.hid (fun (w1 : World) (ho : Only (fun _ => False) w w1) => many_any ts w1 io ic (HIL.out.later ho) (by omega))
      by_cases hmy : manyF ts = true
      · rw [hmy] at HMA
        go_enter Try.func8, Try.ntmps8
        go_wp2_with fail
        refine (HLA.out _ HB0.out.o).mono ?_
        rintro e w1 ⟨rfl, ho1⟩
        have HB1 := Lib.hid (HB0.out.later ho1)
        clear ho1 HLA HB0
        go_wp2_with fail
        refine (HMA.out _ HB1.out.o).mono ?_
        rintro e w2 ⟨rfl, ho2⟩
        have HB2 := Lib.hid (HB1.out.later ho2)
        clear ho2 HMA HB1
        go_wp2_with fail
        refine (HLV.out _).mono ?_
        rintro e w3 ⟨rfl, ho3⟩
        have HO3 := Lib.hid (HB2.out.o.same ho3)
        clear ho3
        go_wp2_with fail
        go_ret
        exact ⟨rfl, HO3.out.to_below⟩
      · have hmy' : manyF ts = false := by simpa using hmy
        rw [hmy'] at HMA
        have hsz := manyF_no hmy'
        clear hmy hmy'
        by_cases hpair : t.pair = true
        · obtain ⟨p1, p2, p3⟩ := T.pair_iff.1 hpair
          have q1 : (t.k == 4) = true := by simpa using p1
          have q2 : (t.s.toList == [46]) = true := by simpa using p2
          have q3 : (((t.l.length : Nat) : Int) == 2) = true := by rw [p3]; rfl
          clear p1 p2 p3 hpair
          go_enter Try.func8, Try.ntmps8
          go_wp2_with fail
          refine (HLA.out _ HB0.out.o).mono ?_
          rintro e w1 ⟨rfl, ho1⟩
          have HB1 := Lib.hid (HB0.out.later ho1)
          clear ho1 HLA HB0
          go_wp2_with fail
          refine (HMA.out _ HB1.out.o).mono ?_
          rintro e w2 ⟨rfl, ho2⟩
          have HB2 := Lib.hid (HB1.out.later ho2)
          clear ho2 HMA HB1
          obtain ⟨c0, c1, c2, c3⟩ := HB2.out.t.q.cells
          go_wp2_with fail
          refine (HLV.out _).mono ?_
          rintro e w3 ⟨rfl, ho3⟩
          have HO3 := Lib.hid (HB2.out.o.same ho3)
          clear ho3
          go_wp2_with fail
          go_ret
          exact ⟨rfl, HO3.out.to_below⟩
        · have hpair' : t.pair = false := by simpa using hpair
          obtain ⟨G, hG⟩ : ∃ G, G = listF ts t := ⟨_, rfl⟩
          have hgz : G.size ≤ 20000 := by rw [hG, listF_size]; omega
          have hgs : (G.size : Int) = (ts.length : Int) + (sizes ts : Int) + (t.size : Int) := by rw [hG, listF_size]; omega
          have HLI : Hid (∀ w1, Only (fun _ => False) w w1 → Calls Try.prog 21 #[.slice io ts.length ic, tv t ao cap] w1 fun e w' => ∃ a c, e = .returned (tv G a c) ∧ Lies w' a G.l ∧ G.Sane ∧ Only (fun _ => False) w1 w') := Lib.hid (fun w1 ho => (List_any ts t w1 io ao ic cap (HIL.out.later ho) (HL.out.later ho) HS.out (by rw [sizes_append]; simp only [sizes]; omega)).mono (fun e w' h => by
            obtain ⟨a, c, h1, h2, h3, h4⟩ := h
            rw [← hG] at h1 h2 h3
            exact ⟨a, c, h1, h2.mono (fun q hq => hq.2), h3, h4⟩))
          have HRL : Hid (∀ w1, Only (fun _ => False) w w1 → Calls Try.prog 22 #[.slice io ts.length ic, tv t ao cap] w1 fun e w' => ∃ a c, e = .returned (tv G a c) ∧ Lies w' a G.l ∧ Only (fun _ => False) w1 w') := Lib.hid (fun w1 ho => (rList_any ts t w1 io ao ic cap (HIL.out.later ho) (HL.out.later ho) HS.out (by omega)).mono (fun e w' h => by
            obtain ⟨a, c, h1, h2, _, h4⟩ := h
            rw [← hG] at h1 h2
            exact ⟨a, c, h1, h2, h4⟩))
          have HIG : Hid (G.Sane → G.Ok → ∀ (w1 : World) (a : Option Addr) (c : Nat), Lies w1 a G.l → Calls Try.prog 38 #[tv G a c] w1 fun e w' => ∃ oo oc a' c', e = .returned (.tuple #[.slice oo ts.length oc, tv t a' c']) ∧ Lies w' oo ts ∧ Lies w' a' t.l ∧ Only (fun _ => False) w1 w') := Lib.hid (fun hgsn hgok w1 a c ha => (Items_ok G w1 a c ha hgsn hgok).mono (fun e w' h => by
            obtain ⟨oo, oc, a', c', h1, h2, h3, _, _, h6⟩ := h
            rw [hG, listF_items ts hpair'] at h1 h2 h3
            exact ⟨oo, oc, a', c', h1, h2.mono (fun q hq => hq.2), h3.mono (fun q hq => hq.2), h6⟩))
          have HSG : Hid (G.Sane → G.Ok → ∀ (w1 : World) (a : Option Addr) (c : Nat), Lies w1 a G.l → Calls Try.prog 26 #[tv G a c] w1 fun e w' => e = .returned (.int .i64 ((ts.length : Int) + (sizes ts : Int) + (t.size : Int))) ∧ Only (fun _ => False) w1 w') := Lib.hid (fun hgsn hgok w1 a c ha => by
            have := Size_ok G w1 a c ha hgsn hgok
            rwa [hgs] at this)
          have HAL : Hid (∀ (w1 : World) (oo : Option Addr) (oc : Nat), Only (fun _ => False) w w1 → Lies w1 oo ts → Calls Try.prog 42 #[.slice oo ts.length oc, .slice io ts.length ic] w1 fun e w' => e = .returned (.bool true) ∧ Only (fun _ => False) w1 w') := Lib.hid (fun w1 oo oc ho ha => by
            have := alike_any ts ts w1 oo io oc ic ha (HIL.out.later ho) (by unfold maxLen; omega) (by unfold maxLen; omega)
            rw [eqbs_refl] at this
            simpa using this)
          have HEX : Hid (∀ (w1 : World) (a : Option Addr) (c : Nat), Only (fun _ => False) w w1 → Lies w1 a t.l → Calls Try.prog 12 #[tv t a c, tv t ao cap] w1 fun e w' => e = .returned (.bool true) ∧ Only (fun _ => False) w1 w') := Lib.hid (fun w1 a c ho ha => by
            have := exact_any t t w1 a ao c cap ha HS.out (HL.out.later ho) HS.out
            rwa [T.eqb_refl] at this)
          have HSL : Hid (∀ w1, Only (fun _ => False) w w1 → Calls Try.prog 43 #[.slice io ts.length ic] w1 fun e w' => e = .returned (.int .i64 (sizes ts : Nat)) ∧ Only (fun _ => False) w1 w') := Lib.hid (fun w1 ho => lsizes_any ts w1 io ic (HIL.out.later ho) (by omega))
          have HSZ : Hid (∀ w1, Only (fun _ => False) w w1 → Calls Try.prog 31 #[tv t ao cap] w1 fun e w' => e = .returned (.int .i64 (t.size : Nat)) ∧ Only (fun _ => False) w1 w') := Lib.hid (fun w1 ho => rsize_any t w1 ao cap (HL.out.later ho) HS.out (by omega))
          clear hG hgs
          by_cases h4 : t.k = 4
          · have q1 : (t.k == 4) = true := by simpa using h4
            by_cases h5 : t.s.toList = [46]
            · have q2 : (t.s.toList == [46]) = true := by simpa using h5
              have h6 : ¬ t.l.length = 2 := fun h6 => hpair (T.pair_iff.2 ⟨h4, h5, h6⟩)
              have q3 : (((t.l.length : Nat) : Int) == 2) = false := by simp; omega
              have q4 : ¬ ((t.l.length : Nat) : Int) = 2 := by omega
              clear h4 h5 h6
              go_enter Try.func8, Try.ntmps8
              go_wp2_with fail
              refine (HLA.out _ HB0.out.o).mono ?_
              rintro e w1 ⟨rfl, ho1⟩
              have HB1 := Lib.hid (HB0.out.later ho1)
              clear ho1 HLA HB0
              go_wp2_with fail
              refine (HMA.out _ HB1.out.o).mono ?_
              rintro e w2 ⟨rfl, ho2⟩
              have HB2 := Lib.hid (HB1.out.later ho2)
              clear ho2 HMA HB1
              obtain ⟨c0, c1, c2, c3⟩ := HB2.out.t.q.cells
              go_wp2_with fail
              refine (HLI.out _ HB2.out.o).mono ?_
              rintro e w3 ⟨a3, k3, rfl, hl3, hs3, ho3⟩
              have HGS := Lib.hid hs3
              have HA3 := Lib.hid (ho3.same (Only.alloc (fun _ => False) w3 (.cells #[.int .i64 G.k, .int .i64 G.n, .string G.s, .slice a3 G.l.length k3] 24)))
              have HB4 := Lib.hid (HB2.out.later HA3.out)
              have HG4 := Lib.hid (Held.new k3 hl3)
              clear ho3 hl3 hs3 HB2 HA3 HLI c0 c1 c2 c3
              go_wp2_with fail
              generalize w3.heap.size = b3 at *
              generalize w3.alloc (.cells #[.int .i64 G.k, .int .i64 G.n, .string G.s, .slice a3 G.l.length k3] 24) = w4 at *
              refine (HLV.out _).mono ?_
              rintro e w5 ⟨rfl, ho5⟩
              have HB5 := Lib.hid (HB4.out.later ho5)
              have HG5 := Lib.hid (HG4.out.later ho5)
              clear ho5 HB4 HG4
              obtain ⟨c0, c1, c2, c3⟩ := HG5.out.q.cells
              go_wp2_with fail
              refine (check_any G _ a3 k3 HG5.out.l HGS.out (by omega)).mono ?_
              rintro e w6 ⟨⟨cc, rfl, hcc⟩, ho6⟩
              have HCC := Lib.hid hcc
              have HB6 := Lib.hid (HB5.out.later ho6)
              have HG6 := Lib.hid (HG5.out.later ho6)
              clear ho6 HB5 HG5 hcc c0 c1 c2 c3
              by_cases hc0 : cc = 0
              · have HOK := Lib.hid (HCC.out.1 hc0)
                subst hc0
                obtain ⟨c0, c1, c2, c3⟩ := HG6.out.q.cells
                go_wp2_with fail
                refine (HIG.out HGS.out HOK.out _ a3 k3 HG6.out.l).mono ?_
                rintro e w7 ⟨oo, oc, a7, k7, rfl, hlo, hl7, ho7⟩
                have HA7 := Lib.hid (ho7.same (Only.alloc (fun _ => False) w7 (.cells #[.int .i64 t.k, .int .i64 t.n, .string t.s, .slice a7 t.l.length k7] 24)))
                have HB8 := Lib.hid (HB6.out.later HA7.out)
                have HG8 := Lib.hid (HG6.out.later HA7.out)
                have HT8 := Lib.hid (Held.new (t := t) k7 hl7)
                have HL8 := Lib.hid (hlo.later (Only.alloc (fun _ => False) w7 (.cells #[.int .i64 t.k, .int .i64 t.n, .string t.s, .slice a7 t.l.length k7] 24)))
                clear ho7 hl7 hlo HB6 HG6 HA7 HIG c0 c1 c2 c3
                go_wp2_with fail
                generalize w7.heap.size = b7 at *
                generalize w7.alloc (.cells #[.int .i64 t.k, .int .i64 t.n, .string t.s, .slice a7 t.l.length k7] 24) = w8 at *
                have HK : Hid (∀ w', Only (fun _ => False) w8 w' → w'.cell? ⟨w.heap.size, 0, none⟩ = some (.int .i64 t.k) ∧ w'.cell? ⟨w.heap.size, 1, none⟩ = some (.int .i64 t.n) ∧ w'.cell? ⟨w.heap.size, 2, none⟩ = some (.string t.s) ∧ w'.cell? ⟨w.heap.size, 3, none⟩ = some (.slice ao t.l.length cap) ∧ w'.cell? ⟨b3, 0, none⟩ = some (.int .i64 G.k) ∧ w'.cell? ⟨b3, 1, none⟩ = some (.int .i64 G.n) ∧ w'.cell? ⟨b3, 2, none⟩ = some (.string G.s) ∧ w'.cell? ⟨b3, 3, none⟩ = some (.slice a3 G.l.length k3) ∧ w'.cell? ⟨b7, 0, none⟩ = some (.int .i64 t.k) ∧ w'.cell? ⟨b7, 1, none⟩ = some (.int .i64 t.n) ∧ w'.cell? ⟨b7, 2, none⟩ = some (.string t.s) ∧ w'.cell? ⟨b7, 3, none⟩ = some (.slice a7 t.l.length k7)) := Lib.hid (fun w' ho => by
                  obtain ⟨c0, c1, c2, c3⟩ := (HB8.out.later ho).t.q.cells
                  obtain ⟨d0, d1, d2, d3⟩ := (HG8.out.later ho).q.cells
                  obtain ⟨e0, e1, e2, e3⟩ := (HT8.out.later ho).q.cells
                  exact ⟨c0, c1, c2, c3, d0, d1, d2, d3, e0, e1, e2, e3⟩)
                have HA : Hid (Only (fun _ => False) w8 w8.drew) := Lib.hid (Only.drew _ _)
                go_region_held3 (fun w' => w'.cell? ⟨w.heap.size, 0, none⟩ = some (.int .i64 t.k) ∧ w'.cell? ⟨w.heap.size, 1, none⟩ = some (.int .i64 t.n) ∧ w'.cell? ⟨w.heap.size, 2, none⟩ = some (.string t.s) ∧ w'.cell? ⟨w.heap.size, 3, none⟩ = some (.slice ao t.l.length cap) ∧ w'.cell? ⟨b3, 0, none⟩ = some (.int .i64 G.k) ∧ w'.cell? ⟨b3, 1, none⟩ = some (.int .i64 G.n) ∧ w'.cell? ⟨b3, 2, none⟩ = some (.string G.s) ∧ w'.cell? ⟨b3, 3, none⟩ = some (.slice a3 G.l.length k3) ∧ w'.cell? ⟨b7, 0, none⟩ = some (.int .i64 t.k) ∧ w'.cell? ⟨b7, 1, none⟩ = some (.int .i64 t.n) ∧ w'.cell? ⟨b7, 2, none⟩ = some (.string t.s) ∧ w'.cell? ⟨b7, 3, none⟩ = some (.slice a7 t.l.length k7)) (first | exact HK.out _ HA.out | go_keep) (first
                  | (go_at_call 42; refine (HAL.out _ oo oc (HB8.out.o.same HA.out) (HL8.out.later HA.out)).mono ?_; rintro e wx ⟨rfl, ho⟩; have HA := Lib.hid (HA.out.same ho); clear ho)
                  | (go_at_call 12; refine (HEX.out _ a7 k7 (HB8.out.o.same HA.out) (HT8.out.later HA.out).l).mono ?_; rintro e wx ⟨rfl, ho⟩; have HA := Lib.hid (HA.out.same ho); clear ho)
                  | (go_at_call 26; refine (HSG.out HGS.out HOK.out _ a3 k3 (HG8.out.later HA.out).l).mono ?_; rintro e wx ⟨rfl, ho⟩; have HA := Lib.hid (HA.out.same ho); clear ho)
                  | (go_at_call 43; refine (HSL.out _ (HB8.out.o.same HA.out)).mono ?_; rintro e wx ⟨rfl, ho⟩; have HA := Lib.hid (HA.out.same ho); clear ho)
                  | (go_at_call 31; refine (HSZ.out _ (HB8.out.o.same HA.out)).mono ?_; rintro e wx ⟨rfl, ho⟩; have HA := Lib.hid (HA.out.same ho); clear ho))
                go_wp2_with fail
                go_ret
                have hw1 : IntKind.i64.wrap ((ts.length : Int) + (sizes ts : Int)) = (ts.length : Int) + (sizes ts : Int) := IntWalk.i64_in _ (by omega)
                have hw2 : IntKind.i64.wrap ((ts.length : Int) + (sizes ts : Int) + (t.size : Int)) = (ts.length : Int) + (sizes ts : Int) + (t.size : Int) := IntWalk.i64_in _ (by omega)
                exact ⟨by simp [hw1, hw2], (HB8.out.o.same HA.out).to_below⟩
              · have hc1 : (cc == 0) = false := by simpa using hc0
                have hng : ¬ rcheckF G = 0 := fun h => hc0 (HCC.out.2 (rcheck_iff.1 h))
                have hng1 : (rcheckF G == 0) = false := by simpa using hng
                go_wp2_with fail
                refine (HLV.out _).mono ?_
                rintro e w7 ⟨rfl, ho7⟩
                have HB7 := Lib.hid (HB6.out.later ho7)
                clear ho7 HB6 HG6
                obtain ⟨c0, c1, c2, c3⟩ := HB7.out.t.q.cells
                go_wp2_with fail
                refine (HRL.out _ HB7.out.o).mono ?_
                rintro e w8 ⟨a8, k8, rfl, hl8, ho8⟩
                have HB8 := Lib.hid (HB7.out.later ho8)
                have HL8 := Lib.hid hl8
                clear ho8 hl8 HB7 c0 c1 c2 c3
                go_wp2_with fail
                refine (rCheck_any G _ a8 k8 HL8.out HGS.out (by have := depth_le_size G; omega) (by omega)).mono ?_
                rintro e w9 ⟨rfl, ho9⟩
                have HO9 := Lib.hid (HB8.out.o.same ho9)
                clear ho9
                generalize rcheckF G = rc at *
                go_wp2_with fail
                go_ret
                exact ⟨by simp [hng], HO9.out.to_below⟩
            · have q2 : (t.s.toList == [46]) = false := by simpa using h5
              clear h4 h5
              go_enter Try.func8, Try.ntmps8
              go_wp2_with fail
              refine (HLA.out _ HB0.out.o).mono ?_
              rintro e w1 ⟨rfl, ho1⟩
              have HB1 := Lib.hid (HB0.out.later ho1)
              clear ho1 HLA HB0
              go_wp2_with fail
              refine (HMA.out _ HB1.out.o).mono ?_
              rintro e w2 ⟨rfl, ho2⟩
              have HB2 := Lib.hid (HB1.out.later ho2)
              clear ho2 HMA HB1
              obtain ⟨c0, c1, c2, c3⟩ := HB2.out.t.q.cells
              go_wp2_with fail
              refine (HLI.out _ HB2.out.o).mono ?_
              rintro e w3 ⟨a3, k3, rfl, hl3, hs3, ho3⟩
              have HGS := Lib.hid hs3
              have HA3 := Lib.hid (ho3.same (Only.alloc (fun _ => False) w3 (.cells #[.int .i64 G.k, .int .i64 G.n, .string G.s, .slice a3 G.l.length k3] 24)))
              have HB4 := Lib.hid (HB2.out.later HA3.out)
              have HG4 := Lib.hid (Held.new k3 hl3)
              clear ho3 hl3 hs3 HB2 HA3 HLI c0 c1 c2 c3
              go_wp2_with fail
              generalize w3.heap.size = b3 at *
              generalize w3.alloc (.cells #[.int .i64 G.k, .int .i64 G.n, .string G.s, .slice a3 G.l.length k3] 24) = w4 at *
              refine (HLV.out _).mono ?_
              rintro e w5 ⟨rfl, ho5⟩
              have HB5 := Lib.hid (HB4.out.later ho5)
              have HG5 := Lib.hid (HG4.out.later ho5)
              clear ho5 HB4 HG4
              obtain ⟨c0, c1, c2, c3⟩ := HG5.out.q.cells
              go_wp2_with fail
              refine (check_any G _ a3 k3 HG5.out.l HGS.out (by omega)).mono ?_
              rintro e w6 ⟨⟨cc, rfl, hcc⟩, ho6⟩
              have HCC := Lib.hid hcc
              have HB6 := Lib.hid (HB5.out.later ho6)
              have HG6 := Lib.hid (HG5.out.later ho6)
              clear ho6 HB5 HG5 hcc c0 c1 c2 c3
              by_cases hc0 : cc = 0
              · have HOK := Lib.hid (HCC.out.1 hc0)
                subst hc0
                obtain ⟨c0, c1, c2, c3⟩ := HG6.out.q.cells
                go_wp2_with fail
                refine (HIG.out HGS.out HOK.out _ a3 k3 HG6.out.l).mono ?_
                rintro e w7 ⟨oo, oc, a7, k7, rfl, hlo, hl7, ho7⟩
                have HA7 := Lib.hid (ho7.same (Only.alloc (fun _ => False) w7 (.cells #[.int .i64 t.k, .int .i64 t.n, .string t.s, .slice a7 t.l.length k7] 24)))
                have HB8 := Lib.hid (HB6.out.later HA7.out)
                have HG8 := Lib.hid (HG6.out.later HA7.out)
                have HT8 := Lib.hid (Held.new (t := t) k7 hl7)
                have HL8 := Lib.hid (hlo.later (Only.alloc (fun _ => False) w7 (.cells #[.int .i64 t.k, .int .i64 t.n, .string t.s, .slice a7 t.l.length k7] 24)))
                clear ho7 hl7 hlo HB6 HG6 HA7 HIG c0 c1 c2 c3
                go_wp2_with fail
                generalize w7.heap.size = b7 at *
                generalize w7.alloc (.cells #[.int .i64 t.k, .int .i64 t.n, .string t.s, .slice a7 t.l.length k7] 24) = w8 at *
                have HK : Hid (∀ w', Only (fun _ => False) w8 w' → w'.cell? ⟨w.heap.size, 0, none⟩ = some (.int .i64 t.k) ∧ w'.cell? ⟨w.heap.size, 1, none⟩ = some (.int .i64 t.n) ∧ w'.cell? ⟨w.heap.size, 2, none⟩ = some (.string t.s) ∧ w'.cell? ⟨w.heap.size, 3, none⟩ = some (.slice ao t.l.length cap) ∧ w'.cell? ⟨b3, 0, none⟩ = some (.int .i64 G.k) ∧ w'.cell? ⟨b3, 1, none⟩ = some (.int .i64 G.n) ∧ w'.cell? ⟨b3, 2, none⟩ = some (.string G.s) ∧ w'.cell? ⟨b3, 3, none⟩ = some (.slice a3 G.l.length k3) ∧ w'.cell? ⟨b7, 0, none⟩ = some (.int .i64 t.k) ∧ w'.cell? ⟨b7, 1, none⟩ = some (.int .i64 t.n) ∧ w'.cell? ⟨b7, 2, none⟩ = some (.string t.s) ∧ w'.cell? ⟨b7, 3, none⟩ = some (.slice a7 t.l.length k7)) := Lib.hid (fun w' ho => by
                  obtain ⟨c0, c1, c2, c3⟩ := (HB8.out.later ho).t.q.cells
                  obtain ⟨d0, d1, d2, d3⟩ := (HG8.out.later ho).q.cells
                  obtain ⟨e0, e1, e2, e3⟩ := (HT8.out.later ho).q.cells
                  exact ⟨c0, c1, c2, c3, d0, d1, d2, d3, e0, e1, e2, e3⟩)
                have HA : Hid (Only (fun _ => False) w8 w8.drew) := Lib.hid (Only.drew _ _)
                go_region_held3 (fun w' => w'.cell? ⟨w.heap.size, 0, none⟩ = some (.int .i64 t.k) ∧ w'.cell? ⟨w.heap.size, 1, none⟩ = some (.int .i64 t.n) ∧ w'.cell? ⟨w.heap.size, 2, none⟩ = some (.string t.s) ∧ w'.cell? ⟨w.heap.size, 3, none⟩ = some (.slice ao t.l.length cap) ∧ w'.cell? ⟨b3, 0, none⟩ = some (.int .i64 G.k) ∧ w'.cell? ⟨b3, 1, none⟩ = some (.int .i64 G.n) ∧ w'.cell? ⟨b3, 2, none⟩ = some (.string G.s) ∧ w'.cell? ⟨b3, 3, none⟩ = some (.slice a3 G.l.length k3) ∧ w'.cell? ⟨b7, 0, none⟩ = some (.int .i64 t.k) ∧ w'.cell? ⟨b7, 1, none⟩ = some (.int .i64 t.n) ∧ w'.cell? ⟨b7, 2, none⟩ = some (.string t.s) ∧ w'.cell? ⟨b7, 3, none⟩ = some (.slice a7 t.l.length k7)) (first | exact HK.out _ HA.out | go_keep) (first
                  | (go_at_call 42; refine (HAL.out _ oo oc (HB8.out.o.same HA.out) (HL8.out.later HA.out)).mono ?_; rintro e wx ⟨rfl, ho⟩; have HA := Lib.hid (HA.out.same ho); clear ho)
                  | (go_at_call 12; refine (HEX.out _ a7 k7 (HB8.out.o.same HA.out) (HT8.out.later HA.out).l).mono ?_; rintro e wx ⟨rfl, ho⟩; have HA := Lib.hid (HA.out.same ho); clear ho)
                  | (go_at_call 26; refine (HSG.out HGS.out HOK.out _ a3 k3 (HG8.out.later HA.out).l).mono ?_; rintro e wx ⟨rfl, ho⟩; have HA := Lib.hid (HA.out.same ho); clear ho)
                  | (go_at_call 43; refine (HSL.out _ (HB8.out.o.same HA.out)).mono ?_; rintro e wx ⟨rfl, ho⟩; have HA := Lib.hid (HA.out.same ho); clear ho)
                  | (go_at_call 31; refine (HSZ.out _ (HB8.out.o.same HA.out)).mono ?_; rintro e wx ⟨rfl, ho⟩; have HA := Lib.hid (HA.out.same ho); clear ho))
                go_wp2_with fail
                go_ret
                have hw1 : IntKind.i64.wrap ((ts.length : Int) + (sizes ts : Int)) = (ts.length : Int) + (sizes ts : Int) := IntWalk.i64_in _ (by omega)
                have hw2 : IntKind.i64.wrap ((ts.length : Int) + (sizes ts : Int) + (t.size : Int)) = (ts.length : Int) + (sizes ts : Int) + (t.size : Int) := IntWalk.i64_in _ (by omega)
                exact ⟨by simp [hw1, hw2], (HB8.out.o.same HA.out).to_below⟩
              · have hc1 : (cc == 0) = false := by simpa using hc0
                have hng : ¬ rcheckF G = 0 := fun h => hc0 (HCC.out.2 (rcheck_iff.1 h))
                have hng1 : (rcheckF G == 0) = false := by simpa using hng
                go_wp2_with fail
                refine (HLV.out _).mono ?_
                rintro e w7 ⟨rfl, ho7⟩
                have HB7 := Lib.hid (HB6.out.later ho7)
                clear ho7 HB6 HG6
                obtain ⟨c0, c1, c2, c3⟩ := HB7.out.t.q.cells
                go_wp2_with fail
                refine (HRL.out _ HB7.out.o).mono ?_
                rintro e w8 ⟨a8, k8, rfl, hl8, ho8⟩
                have HB8 := Lib.hid (HB7.out.later ho8)
                have HL8 := Lib.hid hl8
                clear ho8 hl8 HB7 c0 c1 c2 c3
                go_wp2_with fail
                refine (rCheck_any G _ a8 k8 HL8.out HGS.out (by have := depth_le_size G; omega) (by omega)).mono ?_
                rintro e w9 ⟨rfl, ho9⟩
                have HO9 := Lib.hid (HB8.out.o.same ho9)
                clear ho9
                generalize rcheckF G = rc at *
                go_wp2_with fail
                go_ret
                exact ⟨by simp [hng], HO9.out.to_below⟩
          · have q1 : (t.k == 4) = false := by simpa using h4
            go_enter Try.func8, Try.ntmps8
            go_wp2_with fail
            refine (HLA.out _ HB0.out.o).mono ?_
            rintro e w1 ⟨rfl, ho1⟩
            have HB1 := Lib.hid (HB0.out.later ho1)
            clear ho1 HLA HB0
            go_wp2_with fail
            refine (HMA.out _ HB1.out.o).mono ?_
            rintro e w2 ⟨rfl, ho2⟩
            have HB2 := Lib.hid (HB1.out.later ho2)
            clear ho2 HMA HB1
            obtain ⟨c0, c1, c2, c3⟩ := HB2.out.t.q.cells
            go_wp2_with fail
            refine (HLI.out _ HB2.out.o).mono ?_
            rintro e w3 ⟨a3, k3, rfl, hl3, hs3, ho3⟩
            have HGS := Lib.hid hs3
            have HA3 := Lib.hid (ho3.same (Only.alloc (fun _ => False) w3 (.cells #[.int .i64 G.k, .int .i64 G.n, .string G.s, .slice a3 G.l.length k3] 24)))
            have HB4 := Lib.hid (HB2.out.later HA3.out)
            have HG4 := Lib.hid (Held.new k3 hl3)
            clear ho3 hl3 hs3 HB2 HA3 HLI c0 c1 c2 c3
            go_wp2_with fail
            generalize w3.heap.size = b3 at *
            generalize w3.alloc (.cells #[.int .i64 G.k, .int .i64 G.n, .string G.s, .slice a3 G.l.length k3] 24) = w4 at *
            refine (HLV.out _).mono ?_
            rintro e w5 ⟨rfl, ho5⟩
            have HB5 := Lib.hid (HB4.out.later ho5)
            have HG5 := Lib.hid (HG4.out.later ho5)
            clear ho5 HB4 HG4
            obtain ⟨c0, c1, c2, c3⟩ := HG5.out.q.cells
            go_wp2_with fail
            refine (check_any G _ a3 k3 HG5.out.l HGS.out (by omega)).mono ?_
            rintro e w6 ⟨⟨cc, rfl, hcc⟩, ho6⟩
            have HCC := Lib.hid hcc
            have HB6 := Lib.hid (HB5.out.later ho6)
            have HG6 := Lib.hid (HG5.out.later ho6)
            clear ho6 HB5 HG5 hcc c0 c1 c2 c3
            by_cases hc0 : cc = 0
            · have HOK := Lib.hid (HCC.out.1 hc0)
              subst hc0
              obtain ⟨c0, c1, c2, c3⟩ := HG6.out.q.cells
              go_wp2_with fail
              refine (HIG.out HGS.out HOK.out _ a3 k3 HG6.out.l).mono ?_
              rintro e w7 ⟨oo, oc, a7, k7, rfl, hlo, hl7, ho7⟩
              have HA7 := Lib.hid (ho7.same (Only.alloc (fun _ => False) w7 (.cells #[.int .i64 t.k, .int .i64 t.n, .string t.s, .slice a7 t.l.length k7] 24)))
              have HB8 := Lib.hid (HB6.out.later HA7.out)
              have HG8 := Lib.hid (HG6.out.later HA7.out)
              have HT8 := Lib.hid (Held.new (t := t) k7 hl7)
              have HL8 := Lib.hid (hlo.later (Only.alloc (fun _ => False) w7 (.cells #[.int .i64 t.k, .int .i64 t.n, .string t.s, .slice a7 t.l.length k7] 24)))
              clear ho7 hl7 hlo HB6 HG6 HA7 HIG c0 c1 c2 c3
              go_wp2_with fail
              generalize w7.heap.size = b7 at *
              generalize w7.alloc (.cells #[.int .i64 t.k, .int .i64 t.n, .string t.s, .slice a7 t.l.length k7] 24) = w8 at *
              have HK : Hid (∀ w', Only (fun _ => False) w8 w' → w'.cell? ⟨w.heap.size, 0, none⟩ = some (.int .i64 t.k) ∧ w'.cell? ⟨w.heap.size, 1, none⟩ = some (.int .i64 t.n) ∧ w'.cell? ⟨w.heap.size, 2, none⟩ = some (.string t.s) ∧ w'.cell? ⟨w.heap.size, 3, none⟩ = some (.slice ao t.l.length cap) ∧ w'.cell? ⟨b3, 0, none⟩ = some (.int .i64 G.k) ∧ w'.cell? ⟨b3, 1, none⟩ = some (.int .i64 G.n) ∧ w'.cell? ⟨b3, 2, none⟩ = some (.string G.s) ∧ w'.cell? ⟨b3, 3, none⟩ = some (.slice a3 G.l.length k3) ∧ w'.cell? ⟨b7, 0, none⟩ = some (.int .i64 t.k) ∧ w'.cell? ⟨b7, 1, none⟩ = some (.int .i64 t.n) ∧ w'.cell? ⟨b7, 2, none⟩ = some (.string t.s) ∧ w'.cell? ⟨b7, 3, none⟩ = some (.slice a7 t.l.length k7)) := Lib.hid (fun w' ho => by
                obtain ⟨c0, c1, c2, c3⟩ := (HB8.out.later ho).t.q.cells
                obtain ⟨d0, d1, d2, d3⟩ := (HG8.out.later ho).q.cells
                obtain ⟨e0, e1, e2, e3⟩ := (HT8.out.later ho).q.cells
                exact ⟨c0, c1, c2, c3, d0, d1, d2, d3, e0, e1, e2, e3⟩)
              have HA : Hid (Only (fun _ => False) w8 w8.drew) := Lib.hid (Only.drew _ _)
              go_region_held3 (fun w' => w'.cell? ⟨w.heap.size, 0, none⟩ = some (.int .i64 t.k) ∧ w'.cell? ⟨w.heap.size, 1, none⟩ = some (.int .i64 t.n) ∧ w'.cell? ⟨w.heap.size, 2, none⟩ = some (.string t.s) ∧ w'.cell? ⟨w.heap.size, 3, none⟩ = some (.slice ao t.l.length cap) ∧ w'.cell? ⟨b3, 0, none⟩ = some (.int .i64 G.k) ∧ w'.cell? ⟨b3, 1, none⟩ = some (.int .i64 G.n) ∧ w'.cell? ⟨b3, 2, none⟩ = some (.string G.s) ∧ w'.cell? ⟨b3, 3, none⟩ = some (.slice a3 G.l.length k3) ∧ w'.cell? ⟨b7, 0, none⟩ = some (.int .i64 t.k) ∧ w'.cell? ⟨b7, 1, none⟩ = some (.int .i64 t.n) ∧ w'.cell? ⟨b7, 2, none⟩ = some (.string t.s) ∧ w'.cell? ⟨b7, 3, none⟩ = some (.slice a7 t.l.length k7)) (first | exact HK.out _ HA.out | go_keep) (first
                | (go_at_call 42; refine (HAL.out _ oo oc (HB8.out.o.same HA.out) (HL8.out.later HA.out)).mono ?_; rintro e wx ⟨rfl, ho⟩; have HA := Lib.hid (HA.out.same ho); clear ho)
                | (go_at_call 12; refine (HEX.out _ a7 k7 (HB8.out.o.same HA.out) (HT8.out.later HA.out).l).mono ?_; rintro e wx ⟨rfl, ho⟩; have HA := Lib.hid (HA.out.same ho); clear ho)
                | (go_at_call 26; refine (HSG.out HGS.out HOK.out _ a3 k3 (HG8.out.later HA.out).l).mono ?_; rintro e wx ⟨rfl, ho⟩; have HA := Lib.hid (HA.out.same ho); clear ho)
                | (go_at_call 43; refine (HSL.out _ (HB8.out.o.same HA.out)).mono ?_; rintro e wx ⟨rfl, ho⟩; have HA := Lib.hid (HA.out.same ho); clear ho)
                | (go_at_call 31; refine (HSZ.out _ (HB8.out.o.same HA.out)).mono ?_; rintro e wx ⟨rfl, ho⟩; have HA := Lib.hid (HA.out.same ho); clear ho))
              go_wp2_with fail
              go_ret
              have hw1 : IntKind.i64.wrap ((ts.length : Int) + (sizes ts : Int)) = (ts.length : Int) + (sizes ts : Int) := IntWalk.i64_in _ (by omega)
              have hw2 : IntKind.i64.wrap ((ts.length : Int) + (sizes ts : Int) + (t.size : Int)) = (ts.length : Int) + (sizes ts : Int) + (t.size : Int) := IntWalk.i64_in _ (by omega)
              exact ⟨by simp [hw1, hw2], (HB8.out.o.same HA.out).to_below⟩
            · have hc1 : (cc == 0) = false := by simpa using hc0
              have hng : ¬ rcheckF G = 0 := fun h => hc0 (HCC.out.2 (rcheck_iff.1 h))
              have hng1 : (rcheckF G == 0) = false := by simpa using hng
              go_wp2_with fail
              refine (HLV.out _).mono ?_
              rintro e w7 ⟨rfl, ho7⟩
              have HB7 := Lib.hid (HB6.out.later ho7)
              clear ho7 HB6 HG6
              obtain ⟨c0, c1, c2, c3⟩ := HB7.out.t.q.cells
              go_wp2_with fail
              refine (HRL.out _ HB7.out.o).mono ?_
              rintro e w8 ⟨a8, k8, rfl, hl8, ho8⟩
              have HB8 := Lib.hid (HB7.out.later ho8)
              have HL8 := Lib.hid hl8
              clear ho8 hl8 HB7 c0 c1 c2 c3
              go_wp2_with fail
              refine (rCheck_any G _ a8 k8 HL8.out HGS.out (by have := depth_le_size G; omega) (by omega)).mono ?_
              rintro e w9 ⟨rfl, ho9⟩
              have HO9 := Lib.hid (HB8.out.o.same ho9)
              clear ho9
              generalize rcheckF G = rc at *
              go_wp2_with fail
              go_ret
              exact ⟨by simp [hng], HO9.out.to_below⟩
end Go.Proofs.Ytdpbbcjlbnangaa.terms
