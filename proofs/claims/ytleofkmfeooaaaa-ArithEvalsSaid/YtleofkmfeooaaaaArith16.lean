/- Arithmetic: what must come of every program: lives. -/
import Derived.Test.YtleofkmfeooaaaaArith15
namespace Go.Proofs.Ytleofkmfeooaaaa.terms
set_option maxRecDepth 100000
open Go.RowKit Go.Proofs.Ytleofkmfeooaaaa.own Go.Maps
def tMod : T := .mk 4 0 ⟨#[109, 111, 100]⟩ [sInt (-7), sInt 2]
def tQuo : T := .mk 4 0 ⟨#[47, 47]⟩ [sInt 1, sInt 0]
def tA : T := sAtom ⟨#[97]⟩
def yQuo : T := evalF nZero
def yA : T := evF tA
theorem ev_mod : evalR tMod = .num 1 := by kernel_rfl
theorem ev_quo : evalR tQuo = .ball yQuo := by kernel_rfl
theorem ev_a : evalR tA = .ball yA := by kernel_rfl
theorem cmp_12 : cmpF ⟨#[60]⟩ (sInt 1) (sInt 2) = .inl true := by kernel_rfl
theorem fits_lit (n : Int) (h : -100 ≤ n ∧ n ≤ 100) : Fits n := ⟨by omega, by omega⟩
theorem Eval_leaf2 {s : ByteArray} {a b : Int} {r : Rk} (hr : evalR (.mk 4 0 s [sInt a, sInt b]) = r) (hs : s.size ≤ maxLen) (w : World) (ao : Option Addr) (cap : Nat) (hl : Lies w ao [sInt a, sInt b]) :
    Calls Try.prog 14 #[.agg #[.int .i64 4, .int .i64 0, .string s, .slice ao 2 cap]] w (AnsRk r w) := by
  have := Eval_any (.mk 4 0 s [sInt a, sInt b]) ao cap w (sane_comp hs (by show 2 ≤ maxLen; exact small_lit (by omega))) hl (by simp [T.size, sizes, size_int])
  rwa [hr] at this
theorem Eval_a (w : World) : Calls Try.prog 14 #[.agg #[.int .i64 3, .int .i64 0, .string ⟨#[97]⟩, .slice none 0 0]] w (AnsRk (.ball yA) w) := by
  have := Eval_any tA none 0 w (sane_atom (by decide +kernel)) (Row.nil _ _ _) (by show (sAtom _).size ≤ 900000; rw [size_atom]; omega)
  rwa [ev_a] at this
theorem Comp_12 (w : World) : Calls Try.prog 17 #[.string ⟨#[60]⟩, .agg #[.int .i64 2, .int .i64 1, .string ⟨#[]⟩, .slice none 0 0], .agg #[.int .i64 2, .int .i64 2, .string ⟨#[]⟩, .slice none 0 0]] w (AnsCmp (.inl true) w) := by
  have := Compare_any ⟨#[60]⟩ (sInt 1) (sInt 2) none none 0 0 w (sane_int (fits_lit _ (by decide))) (Row.nil _ _ _) (by rw [size_int]; omega) (sane_int (fits_lit _ (by decide))) (Row.nil _ _ _) (by rw [size_int]; omega)
  rwa [cmp_12] at this
theorem rComp_ints (s : ByteArray) (a b : Int) (w : World) (hs : s.size ≤ maxLen) (ha : Fits a) (hb : Fits b) :
    Calls Try.prog 22 #[.string s, .slice (some ⟨w.heap.size, 0, none⟩) 2 2] (w.alloc (.cells #[.int .i64 2, .int .i64 a, .string ⟨#[]⟩, .slice none 0 0, .int .i64 2, .int .i64 b, .string ⟨#[]⟩, .slice none 0 0] 24)) fun e w' => ∃ ao' cap', e = .returned (.agg #[.int .i64 4, .int .i64 0, .string s, .slice ao' 2 cap']) ∧ Lies w' ao' [sInt a, sInt b] ∧ Only (fun _ => False) w w' := by
  refine (rComp_two (P := no) s (sInt a) (sInt b) none none 0 0 w _ rfl hs (sane_int ha) (Row.nil _ _ _) (sane_int hb) (Row.nil _ _ _) no_lt).mono ?_
  rintro e w' ⟨a', c', h1, h2, h3⟩
  exact ⟨a', c', h1, h2.mono (fun k hk => by rcases hk with hk | hk; exact hk.elim; exact hk.2), h3⟩
theorem exact_ball (x : T) (W : World) (ao bo : Option Addr) (cap bcap : Nat) (hl : Lies W ao [x]) (hl' : Lies W bo [x]) : Calls Try.prog 16 #[.agg #[.int .i64 4, .int .i64 0, .string nError, .slice ao 1 cap], .agg #[.int .i64 4, .int .i64 0, .string nError, .slice bo 1 bcap]] W fun e w' => e = .returned (.bool true) ∧ Only (fun _ => False) W w' := by
  have hs : (ballF x).Sane := sane_comp (by decide +kernel) (by show 1 ≤ maxLen; exact small_lit (by omega))
  have := exact_any (ballF x) (ballF x) W ao bo cap bcap hl hs hl' hs
  rwa [T.eqb_refl] at this
structure BallAt (b : Nat) (x : T) (a : Option Addr) (p : Nat) (W : World) : Prop where
  q : Quad b (.int .i64 4) (.int .i64 0) (.string nError) (.slice a 1 p) W
  l : Lies W a [x]
theorem BallAt.later {b : Nat} {x : T} {a : Option Addr} {p : Nat} {W W' : World} (h : BallAt b x a p W) (ho : Only (fun _ => False) W W') : BallAt b x a p W' := ⟨h.q.only ho (fun e => e), h.l.later ho⟩
theorem BallAt.new {x : T} {a : Option Addr} (p : Nat) {w w2 : World} (h : Row (NewP no w w2) w2 a [x]) : BallAt w2.heap.size x a p (w2.alloc (.cells #[.int .i64 4, .int .i64 0, .string nError, .slice a 1 p] 24)) := by
  refine ⟨heap_alloc_new _ _, Row.later (h.mono (fun k hk => by rcases hk with hk | hk; exact hk.elim; exact hk.2)) (Only.alloc _ _ _)⟩
set_option maxHeartbeats 8000000 in
theorem arithLives_any (w : World) : Calls Try.prog 13 #[] w fun e w' => e = .returned (.bool true) ∧ Only (fun _ => False) w w' := by
  have hE : ∀ args w, (callFunc 20 args).run Try.prog w = .ok (.enter 20 args) w := fun args w => by rfl
  have HEE := Lib.hid hE
  go_enter Try.func13, Try.ntmps13
  go_wp2_with fail
  refine (rintA _ _).mono ?_
  rintro e w1 ⟨rfl, ho1⟩
  go_wp2_with fail
  refine (rintA _ _).mono ?_
  rintro e w2 ⟨rfl, ho2⟩
  have HO2 := Lib.hid (ho1.same ho2)
  clear ho1 ho2
  go_wp2_with fail
  refine (rComp_ints _ _ _ _ (by decide +kernel) (fits_lit _ (by decide)) (fits_lit _ (by decide))).mono ?_
  rintro e w3 ⟨a3, p3, rfl, hl3, ho3⟩
  have HO3 := Lib.hid (HO2.out.same ho3)
  have HL3 := Lib.hid hl3
  clear ho3 hl3 HO2
  go_wp2_with fail
  refine (Eval_leaf2 ev_mod (by decide +kernel) _ _ _ HL3.out).mono ?_
  intro e w4 h4
  obtain ⟨rfl, ho4⟩ := h4.num
  have HO4 := Lib.hid ((HO3.out.same ho4).same (Only.alloc _ w4 (.cells #[.int .i64 0, .int .i64 0, .string ⟨#[]⟩, .slice none 0 0] 24)))
  clear h4 ho4 HO3 HL3
  go_wp2_with fail
  generalize w4.alloc (.cells #[.int .i64 0, .int .i64 0, .string ⟨#[]⟩, .slice none 0 0] 24) = w5 at *
  generalize w4.heap.size = b3 at *
  refine (rintA _ _).mono ?_
  rintro e w6 ⟨rfl, ho6⟩
  have HO6 := Lib.hid (HO4.out.same ho6)
  clear ho6 HO4
  go_wp2_with fail
  refine (rintA _ _).mono ?_
  rintro e w7 ⟨rfl, ho7⟩
  have HO7 := Lib.hid (HO6.out.same ho7)
  clear ho7 HO6
  go_wp2_with fail
  refine (rComp_ints _ _ _ _ (by decide +kernel) (fits_lit _ (by decide)) (fits_lit _ (by decide))).mono ?_
  rintro e w8 ⟨a8, p8, rfl, hl8, ho8⟩
  have HO8 := Lib.hid (HO7.out.same ho8)
  have HL8 := Lib.hid hl8
  clear ho8 hl8 HO7
  go_wp2_with fail
  refine (Eval_leaf2 ev_quo (by decide +kernel) _ _ _ HL8.out).mono ?_
  intro e w9 h9
  obtain ⟨a9, p9, rfl, hl9, ho9⟩ := h9.ball
  have HO9 := Lib.hid ((HO8.out.same ho9).same (Only.alloc _ w9 (.cells #[.int .i64 4, .int .i64 0, .string nError, .slice a9 1 p9] 24)))
  have HB9 := Lib.hid (BallAt.new p9 hl9)
  clear h9 ho9 hl9 HO8 HL8
  go_wp2_with fail
  generalize w9.alloc (.cells #[.int .i64 4, .int .i64 0, .string nError, .slice a9 1 p9] 24) = w10 at *
  generalize w9.heap.size = b6 at *
  refine (ratom_plain _ _).mono ?_
  rintro e w11 ⟨rfl, ho11⟩
  have HO11 := Lib.hid (HO9.out.same ho11)
  have HB11 := Lib.hid (HB9.out.later ho11)
  clear ho11 HO9 HB9
  go_wp2_with fail
  refine (Eval_a _).mono ?_
  intro e w12 h12
  obtain ⟨a12, p12, rfl, hl12, ho12⟩ := h12.ball
  have ho := Only.alloc (fun _ => False) w12 (.cells #[.int .i64 4, .int .i64 0, .string nError, .slice a12 1 p12] 24)
  have HO12 := Lib.hid ((HO11.out.same ho12).same ho)
  have HB12 := Lib.hid (HB11.out.later (ho12.same ho))
  have HC12 := Lib.hid (BallAt.new p12 hl12)
  clear h12 ho12 hl12 HO11 HB11 ho
  go_wp2_with fail
  generalize w12.alloc (.cells #[.int .i64 4, .int .i64 0, .string nError, .slice a12 1 p12] 24) = w13 at *
  generalize w12.heap.size = b9 at *
  refine (rintA _ _).mono ?_
  rintro e w14 ⟨rfl, ho14⟩
  have HO14 := Lib.hid (HO12.out.same ho14)
  have HB14 := Lib.hid (HB12.out.later ho14)
  have HC14 := Lib.hid (HC12.out.later ho14)
  clear ho14 HO12 HB12 HC12
  go_wp2_with fail
  refine (rintA _ _).mono ?_
  rintro e w15 ⟨rfl, ho15⟩
  have HO15 := Lib.hid (HO14.out.same ho15)
  have HB15 := Lib.hid (HB14.out.later ho15)
  have HC15 := Lib.hid (HC14.out.later ho15)
  clear ho15 HO14 HB14 HC14
  go_wp2_with fail
  refine (Comp_12 _).mono ?_
  intro e w16 h16
  obtain ⟨rfl, ho16⟩ := h16.val
  have ho := Only.alloc (fun _ => False) w16 (.cells #[.int .i64 0, .int .i64 0, .string ⟨#[]⟩, .slice none 0 0] 24)
  have HO16 := Lib.hid ((HO15.out.same ho16).same ho)
  have HB16 := Lib.hid (HB15.out.later (ho16.same ho))
  have HC16 := Lib.hid (HC15.out.later (ho16.same ho))
  clear h16 ho16 HO15 HB15 HC15 ho
  go_wp2_with fail
  generalize w16.alloc (.cells #[.int .i64 0, .int .i64 0, .string ⟨#[]⟩, .slice none 0 0] 24) = w17 at *
  generalize w16.heap.size = b12 at *
  have HD : Hid (Only (fun _ => False) w17 w17.drew) := Lib.hid (Only.drew _ _)
  have HK : Hid (∀ W', Only (fun _ => False) w17 W' → W'.cell? ⟨b6, 0, none⟩ = some (.int .i64 4) ∧ W'.cell? ⟨b6, 1, none⟩ = some (.int .i64 0) ∧ W'.cell? ⟨b6, 2, none⟩ = some (.string nError) ∧ W'.cell? ⟨b6, 3, none⟩ = some (.slice a9 1 p9) ∧ W'.cell? ⟨b9, 0, none⟩ = some (.int .i64 4) ∧ W'.cell? ⟨b9, 1, none⟩ = some (.int .i64 0) ∧ W'.cell? ⟨b9, 2, none⟩ = some (.string nError) ∧ W'.cell? ⟨b9, 3, none⟩ = some (.slice a12 1 p12)) := Lib.hid (fun W' ho => by
    obtain ⟨h0, h1, h2, h3⟩ := (HB16.out.later ho).q.cells
    obtain ⟨g0, g1, g2, g3⟩ := (HC16.out.later ho).q.cells
    exact ⟨h0, h1, h2, h3, g0, g1, g2, g3⟩)
  go_region_held3 (fun W' => W'.cell? ⟨b6, 0, none⟩ = some (.int .i64 4) ∧ W'.cell? ⟨b6, 1, none⟩ = some (.int .i64 0) ∧ W'.cell? ⟨b6, 2, none⟩ = some (.string nError) ∧ W'.cell? ⟨b6, 3, none⟩ = some (.slice a9 1 p9) ∧ W'.cell? ⟨b9, 0, none⟩ = some (.int .i64 4) ∧ W'.cell? ⟨b9, 1, none⟩ = some (.int .i64 0) ∧ W'.cell? ⟨b9, 2, none⟩ = some (.string nError) ∧ W'.cell? ⟨b9, 3, none⟩ = some (.slice a12 1 p12)) (first | exact HK.out _ HOl.out | exact HK.out _ HOk.out | exact HK.out _ HOj.out | exact HK.out _ HOi.out | exact HK.out _ HOh.out | exact HK.out _ HOg.out | exact HK.out _ HOf.out | exact HK.out _ HOe.out | exact HK.out _ HOd.out | exact HK.out _ HOc.out | exact HK.out _ HOb.out | exact HK.out _ HOa.out | exact HK.out _ (HOf.out.same (Only.alloc _ _ _)) | exact HK.out _ (HOa.out.same (Only.alloc _ _ _)) | exact HK.out _ HD.out | go_keep) (first
    | (go_at_call 44; first
      | (refine (ratom_plain _ _).mono ?_; rintro e we ⟨rfl, hoe⟩; have HOe : Hid (Only (fun _ => False) w17 we) := Lib.hid (HOd.out.same hoe); clear hoe)
      | (refine (ratom_plain _ _).mono ?_; rintro e wa ⟨rfl, hoa⟩; have HOa : Hid (Only (fun _ => False) w17 wa) := Lib.hid (HD.out.same hoa); clear hoa))
    | (go_at_call 20; refine (rintA _ _).mono ?_; rintro e wf ⟨rfl, hof⟩; have HOf : Hid (Only (fun _ => False) w17 wf) := Lib.hid (HOe.out.same hof); clear hof)
    | (go_at_call 22; first
      | (refine (rComp_two (P := no) ⟨#[47]⟩ (sAtom ⟨#[97]⟩) (sInt 0) none none 0 0 wf _ rfl (by decide +kernel) (sane_atom (by decide +kernel)) (Row.nil _ _ _) (sane_int (fits_lit _ (by decide))) (Row.nil _ _ _) no_lt).mono ?_; rintro e wg ⟨ag, pg, rfl, hlg, hog⟩; have HOg : Hid (Only (fun _ => False) w17 wg) := Lib.hid (HOf.out.same hog); have HLG := Lib.hid hlg; have HSG := Lib.hid hog.size; clear hlg hog)
      | (refine (rComp_one (P := no) nEval (sAtom nZero) none 0 wa _ rfl (by decide +kernel) (sane_atom (by decide +kernel)) (Row.nil _ _ _) no_lt).mono ?_; rintro e wb ⟨ab, pb, rfl, hlb, hob⟩; have HOb : Hid (Only (fun _ => False) w17 wb) := Lib.hid (HOa.out.same hob); have HLB := Lib.hid hlb; have HSB := Lib.hid hob.size; clear hlb hob))
    | (go_at_call 24; refine (rError_comp nEval [sAtom nZero] 1 rfl ab pb wb (by decide +kernel) (by decide +kernel) HLB.out (newP_lt no_lt HSB.out)).mono ?_; rintro e wc ⟨ac, pc, rfl, hlc, hoc⟩; have HOc : Hid (Only (fun _ => False) w17 wc) := Lib.hid (HOb.out.same hoc); have HLC : Hid (Lies wc ac [yQuo]) := Lib.hid ((hlc.nest HSB.out hoc.size).mono (fun k hk => by rcases hk with hk | hk; exact hk.elim; exact hk.2)); clear hlc hoc)
    | (go_at_call 27; refine (rType_any nEvaluable (.mk 4 0 ⟨#[47]⟩ [sAtom ⟨#[97]⟩, sInt 0]) ag pg wg (by decide +kernel) (sane_comp (by decide +kernel) (by show 2 ≤ maxLen; exact small_lit (by omega))) HLG.out (newP_lt no_lt HSG.out)).mono ?_; rintro e wh ⟨ah, ph, rfl, hlh, hoh⟩; have HOh : Hid (Only (fun _ => False) w17 wh) := Lib.hid (HOg.out.same hoh); have HLH : Hid (Lies wh ah [yA]) := Lib.hid ((hlh.nest HSG.out hoh.size).mono (fun k hk => by rcases hk with hk | hk; exact hk.elim; exact hk.2)); clear hlh hoh)
    | (go_at_call 23; refine (Error_none _).mono ?_; rintro e wj ⟨aj, pj, rfl, hlj, hoj⟩; have HOj : Hid (Only (fun _ => False) w17 wj) := Lib.hid (HOi.out.same hoj); have HLJ : Hid (Lies wj aj [sAtom nInst]) := Lib.hid (hlj.mono (fun k hk => by rcases hk with hk | hk; exact hk.elim; exact hk.2)); clear hlj hoj)
    | (go_at_call 25; refine (rInst_any _).mono ?_; rintro e wk ⟨ak, pk, rfl, hlk, hok⟩; have HOk : Hid (Only (fun _ => False) w17 wk) := Lib.hid (HOj.out.same hok); have HLK : Hid (Lies wk ak [sAtom nInst]) := Lib.hid (hlk.mono (fun k hk => by rcases hk with hk | hk; exact hk.elim; exact hk.2)); have HLJ2 := Lib.hid (HLJ.out.later hok); clear hlk hok)
    | (go_at_call 16; first
      | (refine (exact_ball (sAtom nInst) wk aj ak pj pk HLJ2.out HLK.out).mono ?_; rintro e wl ⟨rfl, hol⟩; have HOl : Hid (Only (fun _ => False) w17 wl) := Lib.hid (HOk.out.same hol); clear hol)
      | (refine (exact_ball yA wh a12 ah p12 ph (HC16.out.later HOh.out).l HLH.out).mono ?_; rintro e wi ⟨rfl, hoi⟩; have HOi : Hid (Only (fun _ => False) w17 wi) := Lib.hid (HOh.out.same hoi); clear hoi)
      | (refine (exact_ball yQuo wc a9 ac p9 pc (HB16.out.later HOc.out).l HLC.out).mono ?_; rintro e wd ⟨rfl, hod⟩; have HOd : Hid (Only (fun _ => False) w17 wd) := Lib.hid (HOc.out.same hod); clear hod)))
  go_wp2_with fail
  go_ret
  exact ⟨rfl, HO16.out.same HOl.out⟩
end Go.Proofs.Ytleofkmfeooaaaa.terms
