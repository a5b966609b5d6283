/- Terms: the law TermRenames. -/
import Derived.Test.YtdpbbcjlbnangaaTerm48
import Derived.Test.YtdpbbcjlbnangaaTerm53
import Derived.Test.YtdpbbcjlbnangaaTerm46
import Derived.Deep.RegionHeld3
import Derived.BigQuiet
namespace Go.Proofs.Ytdpbbcjlbnangaa.terms
open Go.RowKit Go.Proofs.Ytdpbbcjlbnangaa.own Go.Maps
/-- The term, and what it is renamed to, in their boxes. -/
structure Ren (w : World) (b1 b2 : Nat) (t u : T) (ao a1 : Option Addr) (cap c1 : Nat) (W : World) : Prop where
  t : Held b1 t ao cap W
  u : Held b2 u a1 c1 W
  o : Only (fun _ => False) w W
theorem Ren.later {w : World} {b1 b2 : Nat} {t u : T} {ao a1 : Option Addr} {cap c1 : Nat} {W W' : World} (h : Ren w b1 b2 t u ao a1 cap c1 W) (ho : Only (fun _ => False) W W') : Ren w b1 b2 t u ao a1 cap c1 W' := ⟨h.t.later ho, h.u.later ho, h.o.same ho⟩
/-- The two lists of variables. -/
structure Two (vs : List Int) (oa ob : Option Addr) (ca cb B : Nat) (W : World) : Prop where
  a : OrdB 0 oa ca vs W
  b : OrdB B ob cb vs W
theorem Two.later {vs : List Int} {oa ob : Option Addr} {ca cb B : Nat} {W W' : World} (h : Two vs oa ob ca cb B W) (ho : Only (fun _ => False) W W') : Two vs oa ob ca cb B W' := ⟨h.a.only ho (fun _ _ e => e), h.b.only ho (fun _ _ e => e)⟩
set_option maxRecDepth 100000 in
set_option maxHeartbeats 4000000 in
theorem law_renames_of (LV : ∀ w : World, Calls Try.prog 11 #[] w fun e w' => e = .returned (.bool true) ∧ Only (fun _ => False) w w') (ao : Option Addr) (cap : Nat) (t : T) (w : World) (hl : Lies w ao t.l) (hs : t.Sane) :
    Calls Try.prog 5 #[tv t ao cap] w fun e w' => e = .returned (.bool true) ∧ Below w.heap.size w w' := by
  have HLV := Lib.hid LV
  have HL := Lib.hid hl
  have HS := Lib.hid hs
  have HO0 : Hid (Only (fun _ => False) w (w.alloc (.cells #[.int .i64 t.k, .int .i64 t.n, .string t.s, .slice ao t.l.length cap] 24))) := Lib.hid (Only.alloc _ _ _)
  have HT0 : Hid (Held w.heap.size t ao cap (w.alloc (.cells #[.int .i64 t.k, .int .i64 t.n, .string t.s, .slice ao t.l.length cap] 24))) := Lib.hid (Held.new cap hl)
  have HLA := Lib.hid (rlarge_any t _ ao cap (HL.out.later HO0.out) hs)
  clear LV hl hs
  by_cases hbig : t.Big = true
  · rw [hbig] at HLA
    go_enter Try.func5, Try.ntmps5
    go_wp2_with fail
    refine HLA.out.mono ?_
    rintro e w1 ⟨rfl, ho1⟩
    have HO1 := Lib.hid (HO0.out.same ho1)
    clear ho1 HLA
    go_wp2_with fail
    refine (HLV.out _).mono ?_
    rintro e w2 ⟨rfl, ho2⟩
    have HO2 := Lib.hid (HO1.out.same ho2)
    clear ho2
    go_wp2_with fail
    go_ret
    exact ⟨rfl, HO2.out.to_below⟩
  · have hbig' : t.Big = false := by simpa using hbig
    have hfew := T.few hbig'
    rw [hbig'] at HLA
    have HCK : Hid (∀ w1, Only (fun _ => False) w w1 → Calls Try.prog 23 #[tv t ao cap] w1 fun e w' => e = .returned (.int .i64 (rcheckF t)) ∧ Only (fun _ => False) w1 w') := Lib.hid (fun w1 ho => rCheck_any t w1 ao cap (HL.out.later ho) HS.out (by have := depth_le_size t; omega) (by omega))
    clear hbig hbig'
    by_cases hok : rcheckF t = 0
    · have HOK := Lib.hid (rcheck_iff.1 hok)
      rw [hok] at HCK
      clear hok
      have hvl := varsF_len t
      obtain ⟨u, vs, hu, hv, huv, hvz⟩ : ∃ (u : T) (vs : List Int), renF t = (u, vs) ∧ varsF t = vs ∧ renamedF vs t = u ∧ vs.length ≤ 6000 := ⟨_, _, renF_is t HOK.out.right, rfl, rfl, by omega⟩
      have huok : u.Ok := by have := renF_ok HOK.out; rwa [hu] at this
      have hus : u.Sane := by rw [← huv]; exact renamedF_sane vs t HS.out (by omega)
      have hren : renF u = (u, rng vs.length) := by have := renF_again t HOK.out.right; rwa [hu] at this
      have HUOK := Lib.hid huok
      have HUS := Lib.hid hus
      have HVA : Hid (∀ w1, Only (fun _ => False) w w1 → Calls Try.prog 28 #[tv t ao cap] w1 fun e w' => ∃ oo oc, e = .returned (.slice oo vs.length oc) ∧ OrdB 0 oo oc vs w' ∧ Only (fun _ => False) w1 w') := Lib.hid (fun w1 ho => (Vars_ok t w1 ao cap (HL.out.later ho) HS.out HOK.out).mono (fun e w' h => by
        rw [hv] at h
        obtain ⟨oo, oc, h1, h2, _, h4⟩ := h
        exact ⟨oo, oc, h1, h2, h4⟩))
      have HVB : Hid (∀ w1, Only (fun _ => False) w w1 → Calls Try.prog 33 #[tv t ao cap] w1 fun e w' => ∃ B oo oc, e = .returned (.slice oo vs.length oc) ∧ OrdB B oo oc vs w' ∧ Only (fun _ => False) w1 w') := Lib.hid (fun w1 ho => (rVars_any t w1 ao cap (HL.out.later ho) HS.out HOK.out.right (by omega)).mono (fun e w' h => by
        rw [hv] at h
        obtain ⟨oo, oc, h1, h2, h4⟩ := h
        exact ⟨_, oo, oc, h1, h2, h4⟩))
      have HRN : Hid (∀ w1, Only (fun _ => False) w w1 → Calls Try.prog 34 #[tv t ao cap] w1 fun e w' => ∃ a c, e = .returned (.tuple #[tv u a c, .int .i64 (vs.length : Nat)]) ∧ Lies w' a u.l ∧ Only (fun _ => False) w1 w') := Lib.hid (fun w1 ho => (Rename_ok t w1 ao cap (HL.out.later ho) HS.out HOK.out).mono (fun e w' h => by
        rw [hu] at h
        obtain ⟨a, c, h1, h2, _, h4⟩ := h
        exact ⟨a, c, h1, h2.mono (fun q hq => hq.2), h4⟩))
      have HRR : Hid (∀ w1, Only (fun _ => False) w w1 → Calls Try.prog 35 #[tv t ao cap] w1 fun e w' => ∃ a c, e = .returned (.tuple #[tv u a c, .int .i64 (vs.length : Nat)]) ∧ Lies w' a u.l ∧ Only (fun _ => False) w1 w') := Lib.hid (fun w1 ho => (rRename_any t w1 ao cap (HL.out.later ho) HS.out HOK.out.right (by omega)).mono (fun e w' h => by
        rw [hv, huv] at h
        obtain ⟨a, c, h1, h2, _, h4⟩ := h
        exact ⟨a, c, h1, h2.mono (fun q hq => hq.2), h4⟩))
      have HRU : Hid (∀ w1 a1 c1, Lies w1 a1 u.l → Calls Try.prog 34 #[tv u a1 c1] w1 fun e w' => ∃ a c, e = .returned (.tuple #[tv u a c, .int .i64 (vs.length : Nat)]) ∧ Lies w' a u.l ∧ Only (fun _ => False) w1 w') := Lib.hid (fun w1 a1 c1 h0 => (Rename_ok u w1 a1 c1 h0 HUS.out HUOK.out).mono (fun e w' h => by
        rw [hren, rng_len] at h
        obtain ⟨a, c, h1, h2, _, h4⟩ := h
        exact ⟨a, c, h1, h2.mono (fun q hq => hq.2), h4⟩))
      have HEX : Hid (∀ (W : World) (a b : Option Addr) (c d : Nat), Lies W a u.l → Lies W b u.l → Calls Try.prog 12 #[tv u a c, tv u b d] W fun e w' => e = .returned (.bool true) ∧ Only (fun _ => False) W w') := Lib.hid (fun W a b c d ha hb => by
        have := exact_any u u W a b c d ha HUS.out hb HUS.out
        rwa [T.eqb_refl] at this)
      have HV1 : Hid (∀ (W : World) (a : Option Addr) (c : Nat), Only (fun _ => False) w W → Lies W a u.l → Calls Try.prog 36 #[tv t ao cap, tv u a c] W fun e w' => e = .returned (.bool true) ∧ Only (fun _ => False) W w') := Lib.hid (fun W a c ho ha => by
        have := Variant_ok t u W ao a cap c (HL.out.later ho) HS.out HOK.out ha HUS.out HUOK.out
        rw [hu, hren, T.eqb_refl] at this
        exact this)
      have HV2 : Hid (∀ (W : World) (a : Option Addr) (c : Nat), Only (fun _ => False) w W → Lies W a u.l → Calls Try.prog 36 #[tv u a c, tv t ao cap] W fun e w' => e = .returned (.bool true) ∧ Only (fun _ => False) W w') := Lib.hid (fun W a c ho ha => by
        have := Variant_ok u t W a ao c cap ha HUS.out HUOK.out (HL.out.later ho) HS.out HOK.out
        rw [hu, hren, T.eqb_refl] at this
        exact this)
      clear hfew hvl hu hv huv huok hus hren
      go_enter Try.func5, Try.ntmps5
      go_wp2_with fail
      refine HLA.out.mono ?_
      rintro e w1 ⟨rfl, ho1⟩
      have HO1 := Lib.hid (HO0.out.same ho1)
      have HT1 := Lib.hid (HT0.out.later ho1)
      obtain ⟨c0, c1, c2, c3⟩ := HT1.out.q.cells
      clear ho1 HLA HO0 HT0
      go_wp2_with fail
      refine (HCK.out _ HO1.out).mono ?_
      rintro e w2 ⟨rfl, ho2⟩
      have HO2 := Lib.hid (HO1.out.same ho2)
      have HT2 := Lib.hid (HT1.out.later ho2)
      clear ho2 c0 c1 c2 c3 HCK HO1 HT1
      generalize w.heap.size = b1 at *
      have HK : Hid (∀ w', Only (fun _ => False) w2 w' → w'.cell? ⟨b1, 0, none⟩ = some (.int .i64 t.k) ∧ w'.cell? ⟨b1, 1, none⟩ = some (.int .i64 t.n) ∧ w'.cell? ⟨b1, 2, none⟩ = some (.string t.s) ∧ w'.cell? ⟨b1, 3, none⟩ = some (.slice ao t.l.length cap)) := Lib.hid (fun w' ho => (HT2.out.later ho).q.cells)
      have HA : Hid (Only (fun _ => False) w2 w2.drew) := Lib.hid (Only.drew _ _)
      go_wp2_with fail
      go_region_held3 (fun w' => w'.cell? ⟨b1, 0, none⟩ = some (.int .i64 t.k) ∧ w'.cell? ⟨b1, 1, none⟩ = some (.int .i64 t.n) ∧ w'.cell? ⟨b1, 2, none⟩ = some (.string t.s) ∧ w'.cell? ⟨b1, 3, none⟩ = some (.slice ao t.l.length cap)) (first | exact HK.out _ HA.out | go_keep) (first
        | (go_at_call 28; refine (HVA.out _ (HO2.out.same HA.out)).mono ?_; rintro e wx ⟨oa, ca, rfl, hra, ho⟩; have HA := Lib.hid (HA.out.same ho); have HRA := Lib.hid hra; clear ho hra)
        | (go_at_call 33; refine (HVB.out _ (HO2.out.same HA.out)).mono ?_; rintro e wy ⟨B, ob, cb, rfl, hrb, ho⟩; have HA := Lib.hid (HA.out.same ho); have HTW : Hid (Two vs oa ob ca cb B wy) := Lib.hid ⟨HRA.out.only ho (fun _ _ e => e), hrb⟩; clear ho hrb))
      have HO3 := Lib.hid (HO2.out.same HA.out)
      have HT3 := Lib.hid (HT2.out.later HA.out)
      obtain ⟨c0, c1, c2, c3⟩ := HT3.out.q.cells
      clear HA HRA HK HO2 HT2 HVA HVB
      go_wp2_with fail
      refine (HRN.out _ HO3.out).mono ?_
      rintro e w4 ⟨a1, c1', rfl, hl4, ho4⟩
      have HO4 := Lib.hid (HO3.out.same ho4)
      have HTW4 := Lib.hid (HTW.out.later ho4)
      have HT4 := Lib.hid (HT3.out.later ho4)
      clear ho4 c0 c1 c2 c3 HO3 HT3 HTW
      have HA4 := Lib.hid (Only.alloc (fun _ => False) w4 (.cells #[.int .i64 u.k, .int .i64 u.n, .string u.s, .slice a1 u.l.length c1'] 24))
      have HRE : Hid (Ren w b1 w4.heap.size t u ao a1 cap c1' (w4.alloc (.cells #[.int .i64 u.k, .int .i64 u.n, .string u.s, .slice a1 u.l.length c1'] 24))) := Lib.hid ⟨HT4.out.later HA4.out, Held.new c1' hl4, HO4.out.same HA4.out⟩
      have HTW := Lib.hid (HTW4.out.later HA4.out)
      obtain ⟨c0, c1, c2, c3⟩ := HRE.out.t.q.cells
      clear hl4 HO4 HTW4 HT4 HA4
      go_wp2_with fail
      generalize w4.heap.size = b2 at *
      generalize w4.alloc (.cells #[.int .i64 u.k, .int .i64 u.n, .string u.s, .slice a1 u.l.length c1'] 24) = w5 at *
      refine (HRR.out _ HRE.out.o).mono ?_
      rintro e w6 ⟨a2, c2', rfl, hl6, ho6⟩
      have HA6 := Lib.hid (ho6.same (Only.alloc (fun _ => False) w6 (.cells #[.int .i64 u.k, .int .i64 u.n, .string u.s, .slice a2 u.l.length c2'] 24)))
      have HRE7 := Lib.hid (HRE.out.later HA6.out)
      have HTW7 := Lib.hid (HTW.out.later HA6.out)
      have HV7 : Hid (Held w6.heap.size u a2 c2' (w6.alloc (.cells #[.int .i64 u.k, .int .i64 u.n, .string u.s, .slice a2 u.l.length c2'] 24))) := Lib.hid (Held.new c2' hl6)
      clear ho6 hl6 HA6 HRE HTW c0 c1 c2 c3
      go_wp2_with fail
      generalize w6.heap.size = b3 at *
      generalize w6.alloc (.cells #[.int .i64 u.k, .int .i64 u.n, .string u.s, .slice a2 u.l.length c2'] 24) = w7 at *
      refine (HLV.out _).mono ?_
      rintro e w8 ⟨rfl, ho8⟩
      have HRE8 := Lib.hid (HRE7.out.later ho8)
      have HTW8 := Lib.hid (HTW7.out.later ho8)
      have HV8 := Lib.hid (HV7.out.later ho8)
      clear ho8 HRE7 HTW7 HV7
      obtain ⟨c0, c1, c2, c3⟩ := HRE8.out.u.q.cells
      obtain ⟨d0, d1, d2, d3⟩ := HV8.out.q.cells
      go_wp2_with fail
      refine (HEX.out _ a1 a2 c1' c2' HRE8.out.u.l HV8.out.l).mono ?_
      rintro e w9 ⟨rfl, ho9⟩
      have HI0 : Hid (Ren w b1 b2 t u ao a1 cap c1' w9 ∧ Two vs oa ob ca cb B w9) := Lib.hid ⟨HRE8.out.later ho9, HTW8.out.later ho9⟩
      clear ho9 HRE8 HTW8 HV8 c0 c1 c2 c3 d0 d1 d2 d3
      go_wp2_with fail
      go_loopw [9] (fun i wr => ∃ j : Nat, i = .int .i64 j ∧ j ≤ vs.length ∧ Hid (Ren w b1 b2 t u ao a1 cap c1' wr ∧ Two vs oa ob ca cb B wr)) (fun i _ => vs.length - (intOf i).toNat)
      case atStart => exact ⟨0, rfl, by omega, HI0⟩
      case round =>
        obtain ⟨j, rfl, hj, hI⟩ := hrel
        clear HI0
        by_cases hlt : j < vs.length
        · obtain ⟨x, hx⟩ : ∃ x, vs[j]? = some x := ⟨_, List.getElem?_eq_getElem hlt⟩
          obtain ⟨ga, rfl, _, hca⟩ := hI.out.2.a.at liesI j x hx
          obtain ⟨gb, rfl, _, hcb⟩ := hI.out.2.b.at liesI j x hx
          have r0 := (hca 0 (by omega)).1
          have r1 := (hcb 0 (by omega)).1
          simp only [encI, List.getElem?_cons_zero, Nat.mul_one, Nat.add_zero] at r0 r1
          clear hca hcb hx
          have hj0 : (0 : Int) ≤ (j : Int) := by omega
          have hj1 : (j : Int) < (vs.length : Int) := by omega
          go_wp2_with fail
          go_quiet (fail)
          have hdr : Only (fun _ => False) wr (wr.drewN nq) := Only.drewN _ _ _
          have HI8 : Hid (Ren w b1 b2 t u ao a1 cap c1' (wr.drewN nq) ∧ Two vs (some ⟨ga, 0, none⟩) (some ⟨gb, 0, none⟩) ca cb B (wr.drewN nq)) := Lib.hid ⟨hI.out.1.later hdr, hI.out.2.later hdr⟩
          generalize wr.drewN nq = w8' at *
          go_wp2_with fail
          go_roundw
          case rel => exact ⟨j + 1, by go_num, by omega, HI8⟩
          case measure => simp [intOf]; omega
        · obtain rfl : j = vs.length := by omega
          obtain ⟨c0, c1, c2, c3⟩ := hI.out.1.u.q.cells
          go_wp2_with fail
          refine (HRU.out _ a1 c1' hI.out.1.u.l).mono ?_
          rintro e w10 ⟨a4, c4', rfl, hl10, ho10⟩
          have HA10 := Lib.hid (ho10.same (Only.alloc (fun _ => False) w10 (.cells #[.int .i64 u.k, .int .i64 u.n, .string u.s, .slice a4 u.l.length c4'] 24)))
          have HRE11 := Lib.hid (hI.out.1.later HA10.out)
          have HV11 : Hid (Held w10.heap.size u a4 c4' (w10.alloc (.cells #[.int .i64 u.k, .int .i64 u.n, .string u.s, .slice a4 u.l.length c4'] 24))) := Lib.hid (Held.new c4' hl10)
          clear hl10 ho10 HA10 hI c0 c1 c2 c3
          obtain ⟨c0, c1, c2, c3⟩ := HRE11.out.u.q.cells
          obtain ⟨d0, d1, d2, d3⟩ := HV11.out.q.cells
          go_wp2_with fail
          generalize w10.heap.size = b4 at *
          generalize w10.alloc (.cells #[.int .i64 u.k, .int .i64 u.n, .string u.s, .slice a4 u.l.length c4'] 24) = w11 at *
          refine (HEX.out _ a4 a1 c4' c1' HV11.out.l HRE11.out.u.l).mono ?_
          rintro e w12 ⟨rfl, ho12⟩
          have HRE12 := Lib.hid (HRE11.out.later ho12)
          clear ho12 HRE11 HV11 c0 c1 c2 c3 d0 d1 d2 d3
          obtain ⟨c0, c1, c2, c3⟩ := HRE12.out.t.q.cells
          obtain ⟨d0, d1, d2, d3⟩ := HRE12.out.u.q.cells
          go_wp2_with fail
          refine (HV1.out _ a1 c1' HRE12.out.o HRE12.out.u.l).mono ?_
          rintro e w13 ⟨rfl, ho13⟩
          have HRE13 := Lib.hid (HRE12.out.later ho13)
          clear ho13 HRE12 c0 c1 c2 c3 d0 d1 d2 d3
          obtain ⟨c0, c1, c2, c3⟩ := HRE13.out.t.q.cells
          obtain ⟨d0, d1, d2, d3⟩ := HRE13.out.u.q.cells
          go_wp2_with fail
          refine (HV2.out _ a1 c1' HRE13.out.o HRE13.out.u.l).mono ?_
          rintro e w14 ⟨rfl, ho14⟩
          have HRE14 := Lib.hid (HRE13.out.later ho14)
          clear ho14 HRE13 c0 c1 c2 c3 d0 d1 d2 d3
          go_wp2_with fail
          go_ret
          exact ⟨rfl, HRE14.out.o.to_below⟩
    · have hne : (rcheckF t == 0) = false := by simpa using hok
      go_enter Try.func5, Try.ntmps5
      go_wp2_with fail
      refine HLA.out.mono ?_
      rintro e w1 ⟨rfl, ho1⟩
      have HO1 := Lib.hid (HO0.out.same ho1)
      obtain ⟨c0, c1, c2, c3⟩ := (HT0.out.later ho1).q.cells
      clear ho1 HLA
      go_wp2_with fail
      refine (HCK.out _ HO1.out).mono ?_
      rintro e w2 ⟨rfl, ho2⟩
      have HO2 := Lib.hid (HO1.out.same ho2)
      clear ho2 c0 c1 c2 c3
      go_wp2_with fail
      refine (HLV.out _).mono ?_
      rintro e w3 ⟨rfl, ho3⟩
      have HO3 := Lib.hid (HO2.out.same ho3)
      clear ho3
      go_wp2_with fail
      go_ret
      exact ⟨rfl, HO3.out.to_below⟩
end Go.Proofs.Ytdpbbcjlbnangaa.terms
