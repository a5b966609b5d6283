/- Arithmetic: the law ArithBalls. -/
import Derived.Test.YtleofkmfeooaaaaArith17
namespace Go.Proofs.Ytleofkmfeooaaaa.terms
set_option maxRecDepth 100000
open Go.RowKit Go.Proofs.Ytleofkmfeooaaaa.own Go.Maps
theorem Row.fresh {w w' : World} {ao : Option Addr} {l : List T} (h : Row (NewP no w w') w' ao l) : Lies w' ao l := h.mono (fun k hk => by rcases hk with hk | hk; exact hk.elim; exact hk.2)
/-- What a call answers that tells one term. -/
abbrev Tells (Z : T) (W : World) (e : Ending) (w' : World) : Prop := ∃ a p, e = .returned (.agg #[.int .i64 Z.k, .int .i64 Z.n, .string Z.s, .slice a Z.l.length p]) ∧ Lies w' a Z.l ∧ Only (fun _ => False) W w'
theorem ind_both (t : T) (w : World) (ao : Option Addr) (cap : Nat) (hs : t.Sane) (hl : Lies w ao t.l) (hz : t.size ≤ 900000) : ∃ Z : T, Z.Sane ∧ (∀ W, Only (fun _ => False) w W → Calls Try.prog 28 #[tv t ao cap] W (Tells Z W)) ∧ (∀ W, Only (fun _ => False) w W → Calls Try.prog 29 #[tv t ao cap] W (Tells Z W)) := by
  have hzero : ∀ {W w' : World} {e : Ending}, AnsZero W e w' → Tells zeroT W e w' := fun h => ⟨none, 0, h.1, Row.nil _ _ _, h.2⟩
  have hslash : ∀ {W w' : World} {e : Ending}, AnsSlash t W e w' → Tells (.mk 4 0 ⟨#[47]⟩ (slashF t)) W e w' := fun h => by
    obtain ⟨a, p, h1, h2, h3⟩ := h
    exact ⟨a, p, h1, h2.fresh, h3⟩
  by_cases hok : t.Ok
  · by_cases h3 : t.k = 3
    · exact ⟨_, sane_comp (by decide +kernel) (by show 2 ≤ maxLen; exact small_lit (by omega)), fun W ho => (Ind_ok3 t ao cap W h3 hs (hl.later ho) hz hok).mono (fun _ _ h => hslash h), fun W ho => (rInd_ok3 t ao cap W h3 hs (hl.later ho) hz hok).mono (fun _ _ h => hslash h)⟩
    · by_cases h4 : t.k = 4
      · exact ⟨_, sane_comp (by decide +kernel) (by show 2 ≤ maxLen; exact small_lit (by omega)), fun W ho => (Ind_ok4 t ao cap W h4 hs (hl.later ho) hz hok).mono (fun _ _ h => hslash h), fun W ho => (rInd_ok4 t ao cap W h4 hs (hl.later ho) hz hok).mono (fun _ _ h => hslash h)⟩
      · exact ⟨zeroT, sane_zero, fun W ho => (Ind_not t ao cap W h3 h4).mono (fun _ _ h => hzero h), fun W ho => (rInd_not t ao cap W ⟨h3, h4⟩ hs (hl.later ho) hz hok).mono (fun _ _ h => hzero h)⟩
  · refine ⟨zeroT, sane_zero, fun W ho => ?_, fun W ho => (rInd_no t ao cap W hs (hl.later ho) hz hok).mono (fun _ _ h => hzero h)⟩
    by_cases h3 : t.k = 3
    · exact (Ind_no3 t ao cap W h3 hs (hl.later ho) hz hok).mono (fun _ _ h => hzero h)
    · by_cases h4 : t.k = 4
      · exact (Ind_no4 t ao cap W h4 hs (hl.later ho) hz hok).mono (fun _ _ h => hzero h)
      · exact (Ind_not t ao cap W h3 h4).mono (fun _ _ h => hzero h)
set_option maxHeartbeats 16000000 in
theorem law_balls (s : ByteArray) (hsl : s.size ≤ maxLen) (ao : Option Addr) (cap : Nat) (t : T) (w : World) (hl : Lies w ao t.l) (hs : t.Sane) :
    Calls Try.prog 6 #[.string s, tv t ao cap] w fun e w' => e = .returned (.bool true) ∧ Below w.heap.size w w' := by
  have HLV := Lib.hid (fun W => arithLives_any W)
  have HQ0 : Hid (Quad w.heap.size (.int .i64 t.k) (.int .i64 t.n) (.string t.s) (.slice ao t.l.length cap) (w.alloc (.cells #[.int .i64 t.k, .int .i64 t.n, .string t.s, .slice ao t.l.length cap] 24))) := Lib.hid (heap_alloc_new w _)
  have HO0 : Hid (Only (fun _ => False) w (w.alloc (.cells #[.int .i64 t.k, .int .i64 t.n, .string t.s, .slice ao t.l.length cap] 24))) := Lib.hid (Only.alloc _ _ _)
  have HLA := Lib.hid (rlarge_any t _ ao cap (hl.later HO0.out) hs)
  have HL := Lib.hid hl
  have HS := Lib.hid hs
  have HSL := Lib.hid hsl
  show Calls Try.prog 6 #[.string s, .agg #[.int .i64 t.k, .int .i64 t.n, .string t.s, .slice ao t.l.length cap]] w _
  clear hl hs
  by_cases hbig : t.Big = true
  · rw [hbig] at HLA
    go_enter Try.func6, Try.ntmps6
    go_wp2_with fail
    refine HLA.out.mono ?_
    rintro e w1 ⟨rfl, ho1⟩
    have HO1 := Lib.hid (HO0.out.same ho1)
    clear ho1 HLA
    go_wp2_with fail
    refine (HLV.out _).mono ?_
    rintro e w2 ⟨rfl, ho2⟩
    have HO2 := Lib.hid (HO1.out.same ho2)
    clear ho2
    go_wp2_with fail
    go_ret
    exact ⟨rfl, HO2.out.to_below⟩
  · have hbig' : t.Big = false := by simpa using hbig
    have HFEW := Lib.hid (T.few hbig')
    rw [hbig'] at HLA
    clear hbig hbig'
    by_cases hlen : (1000 : Int) < (s.size : Int)
    · go_enter Try.func6, Try.ntmps6
      go_wp2_with fail
      refine HLA.out.mono ?_
      rintro e w1 ⟨rfl, ho1⟩
      have HO1 := Lib.hid (HO0.out.same ho1)
      clear ho1 HLA
      go_wp2_with fail
      refine (HLV.out _).mono ?_
      rintro e w2 ⟨rfl, ho2⟩
      have HO2 := Lib.hid (HO1.out.same ho2)
      clear ho2
      go_wp2_with fail
      go_ret
      exact ⟨rfl, HO2.out.to_below⟩
    · obtain ⟨Z, hZs, hIN, hRI⟩ := ind_both t w ao cap HS.out HL.out (by have := HFEW.out; omega)
      have HIN := Lib.hid (fun W (ho : Only (fun _ => False) w W) => hIN W ho)
      have HRI := Lib.hid (fun W (ho : Only (fun _ => False) w W) => hRI W ho)
      have HEX : Hid (∀ (W : World) (a b : Option Addr) (p q : Nat), Lies W a Z.l → Lies W b Z.l → Calls Try.prog 16 #[.agg #[.int .i64 Z.k, .int .i64 Z.n, .string Z.s, .slice a Z.l.length p], .agg #[.int .i64 Z.k, .int .i64 Z.n, .string Z.s, .slice b Z.l.length q]] W fun e w' => e = .returned (.bool true) ∧ Only (fun _ => False) W w') := Lib.hid (fun W a b p q h1 h2 => by
        have := exact_any Z Z W a b p q h1 hZs h2 hZs
        rwa [T.eqb_refl] at this)
      have hlen2 : (s.size : Int) ≤ 1000 := by omega
      clear hIN hRI hlen
      go_enter Try.func6, Try.ntmps6
      go_wp2_with fail
      refine HLA.out.mono ?_
      rintro e w1 ⟨rfl, ho1⟩
      have HO1 := Lib.hid (HO0.out.same ho1)
      have HQ1 := Lib.hid (HQ0.out.only ho1 (fun e => e))
      have HD : Hid (Only (fun _ => False) w1 w1.drew) := Lib.hid (Only.drew _ _)
      have HK : Hid (∀ W', Only (fun _ => False) w1 W' → W'.cell? ⟨w.heap.size, 0, none⟩ = some (.int .i64 t.k) ∧ W'.cell? ⟨w.heap.size, 1, none⟩ = some (.int .i64 t.n) ∧ W'.cell? ⟨w.heap.size, 2, none⟩ = some (.string t.s) ∧ W'.cell? ⟨w.heap.size, 3, none⟩ = some (.slice ao t.l.length cap)) := Lib.hid (fun W' ho => (HQ1.out.only ho (fun e => e)).cells)
      have HE1 := Lib.hid (fun (W : World) (b : Nat) (hb : W.heap.size = b) (ho : Only (fun _ => False) w1 W) => Error_one t ao cap W b hb HS.out (HL.out.later (HO1.out.same ho)) (by have := HFEW.out; omega))
      have HE2 := Lib.hid (fun (W : World) (a : Option Addr) (p : Nat) => Error_many 2 a p W (by omega))
      have HRE := Lib.hid (fun (W : World) (ho : Only (fun _ => False) w1 W) => rError_any t ao cap W HS.out (HL.out.later (HO1.out.same ho)) (fun _ h => h))
      have HTY := Lib.hid (fun (W : World) (ho : Only (fun _ => False) w1 W) => Type_any s t ao cap W HSL.out HS.out (HL.out.later (HO1.out.same ho)) (by have := HFEW.out; omega))
      have HRT := Lib.hid (fun (W : World) (ho : Only (fun _ => False) w1 W) => rType_any s t ao cap W HSL.out HS.out (HL.out.later (HO1.out.same ho)) (fun _ h => h))
      have HIN := Lib.hid (fun (W : World) (ho : Only (fun _ => False) w1 W) => HIN.out W (HO1.out.same ho))
      have HRI := Lib.hid (fun (W : World) (ho : Only (fun _ => False) w1 W) => HRI.out W (HO1.out.same ho))
      clear ho1 HLA
      go_wp2_with fail
      go_region_held3 (fun W' => W'.cell? ⟨w.heap.size, 0, none⟩ = some (.int .i64 t.k) ∧ W'.cell? ⟨w.heap.size, 1, none⟩ = some (.int .i64 t.n) ∧ W'.cell? ⟨w.heap.size, 2, none⟩ = some (.string t.s) ∧ W'.cell? ⟨w.heap.size, 3, none⟩ = some (.slice ao t.l.length cap)) (first | exact HK.out _ HOm.out | exact HK.out _ HOl.out | exact HK.out _ HOk.out | exact HK.out _ HOj.out | exact HK.out _ HOi.out | exact HK.out _ HOh.out | exact HK.out _ HOg.out | exact HK.out _ HOf.out | exact HK.out _ HOe.out | exact HK.out _ HOd.out | exact HK.out _ HOc.out | exact HK.out _ HOb.out | exact HK.out _ HOa.out | exact HK.out _ (HOd.out.same (Only.alloc _ _ _)) | exact HK.out _ (HOa.out.same (Only.alloc _ _ _)) | exact HK.out _ HD.out | go_keep) (first
      | (go_at_call 13; refine (HLV.out _).mono ?_; rintro e wa ⟨rfl, hoa⟩; have HOa : Hid (Only (fun _ => False) w1 wa) := Lib.hid (HD.out.same hoa); clear hoa)
      | (go_at_call 23; first
        | (refine (HE2.out (wd.alloc _) (some ⟨wd.heap.size, 0, none⟩) 2).mono ?_; rintro e we ⟨ae, pe, rfl, hle, hoe⟩; have HOe : Hid (Only (fun _ => False) w1 we) := Lib.hid (HOd.out.same ((Only.alloc _ _ _).same hoe)); have HLE := Lib.hid hle.fresh; clear hle hoe)
        | (refine (HE1.out wa _ rfl HOa.out).mono ?_; rintro e wb ⟨ab, pb, rfl, hlb, hob⟩; have HOb : Hid (Only (fun _ => False) w1 wb) := Lib.hid (HOa.out.same hob); have HLB := Lib.hid hlb.fresh; clear hlb hob))
      | (go_at_call 24; refine (HRE.out wb HOb.out).mono ?_; rintro e wc ⟨ac, pc, rfl, hlc, hoc⟩; have HOc : Hid (Only (fun _ => False) w1 wc) := Lib.hid (HOb.out.same hoc); have HLC : Hid (Lies wc ac [t]) := Lib.hid (hlc.mono (fun k hk => by rcases hk with hk | hk; exact Nat.lt_of_lt_of_le hk hoc.size; exact hk.2)); have HLB2 := Lib.hid (HLB.out.later hoc); clear hlc hoc)
      | (go_at_call 25; refine (rInst_any _).mono ?_; rintro e wf ⟨af, pf, rfl, hlf, hof⟩; have HOf : Hid (Only (fun _ => False) w1 wf) := Lib.hid (HOe.out.same hof); have HLF := Lib.hid hlf.fresh; have HLE2 := Lib.hid (HLE.out.later hof); clear hlf hof)
      | (go_at_call 26; refine (HTY.out wg HOg.out).mono ?_; rintro e wh ⟨ah, ph, rfl, hlh, hoh⟩; have HOh : Hid (Only (fun _ => False) w1 wh) := Lib.hid (HOg.out.same hoh); have HLH := Lib.hid hlh.fresh; clear hlh hoh)
      | (go_at_call 27; refine (HRT.out wh HOh.out).mono ?_; rintro e wi ⟨ai, pi, rfl, hli, hoi⟩; have HOi : Hid (Only (fun _ => False) w1 wi) := Lib.hid (HOh.out.same hoi); have HLI : Hid (Lies wi ai [.mk 4 0 nType [sAtom s, t]]) := Lib.hid (hli.mono (fun k hk => by rcases hk with hk | hk; exact Nat.lt_of_lt_of_le hk hoi.size; exact hk.2)); have HLH2 := Lib.hid (HLH.out.later hoi); clear hli hoi)
      | (go_at_call 28; refine (HIN.out wj HOj.out).mono ?_; rintro e wk ⟨ak, pk, rfl, hlk, hok⟩; have HOk : Hid (Only (fun _ => False) w1 wk) := Lib.hid (HOj.out.same hok); have HLK := Lib.hid hlk; clear hlk hok)
      | (go_at_call 29; refine (HRI.out wk HOk.out).mono ?_; rintro e wl ⟨al, pl, rfl, hll, hol⟩; have HOl : Hid (Only (fun _ => False) w1 wl) := Lib.hid (HOk.out.same hol); have HLL := Lib.hid hll; have HLK2 := Lib.hid (HLK.out.later hol); clear hll hol)
      | (go_at_call 16; first
        | (refine (HEX.out wl ak al pk pl HLK2.out HLL.out).mono ?_; rintro e wm ⟨rfl, hom⟩; have HOm : Hid (Only (fun _ => False) w1 wm) := Lib.hid (HOl.out.same hom); clear hom)
        | (refine (exact_ball (.mk 4 0 nType [sAtom s, t]) wi ah ai ph pi HLH2.out HLI.out).mono ?_; rintro e wj ⟨rfl, hoj⟩; have HOj : Hid (Only (fun _ => False) w1 wj) := Lib.hid (HOi.out.same hoj); clear hoj)
        | (refine (exact_ball (sAtom nInst) wf ae af pe pf HLE2.out HLF.out).mono ?_; rintro e wg ⟨rfl, hog⟩; have HOg : Hid (Only (fun _ => False) w1 wg) := Lib.hid (HOf.out.same hog); clear hog)
        | (refine (exact_ball t wc ab ac pb pc HLB2.out HLC.out).mono ?_; rintro e wd ⟨rfl, hod⟩; have HOd : Hid (Only (fun _ => False) w1 wd) := Lib.hid (HOc.out.same hod); clear hod)))
      go_wp2_with fail
      go_ret
      exact ⟨rfl, (HO1.out.same HOm.out).to_below⟩
end Go.Proofs.Ytleofkmfeooaaaa.terms
