/- Arithmetic: Eval, the program's and the reference's. -/
import Derived.Test.YtleofkmfeooaaaaArith12
namespace Go.Proofs.Ytleofkmfeooaaaa.terms
set_option maxRecDepth 100000
open Go.RowKit Go.Proofs.Ytleofkmfeooaaaa.own Go.Maps
/-- What any term comes to. -/
def evalR (t : T) : Rk := if rcheckF t = 0 then reckF t else .ball (sAtom nSize)
theorem evalR_rng {t : T} {n : Int} (h : evalR t = .num n) : Rng n := by
  unfold evalR at h
  split at h
  · exact reckF_rng (rcheck_iff.1 (by assumption)).right h
  · cases h
set_option maxHeartbeats 4000000 in
theorem Eval_any (t : T) (ao : Option Addr) (cap : Nat) (w : World) (hs : t.Sane) (hl : Lies w ao t.l) (hz : t.size ≤ 900000) : Calls Try.prog 14 #[tv t ao cap] w (AnsRk (evalR t) w) := by
  have HQ0 := Lib.hid (twoW_zero w t ao cap)
  have HB0 := Lib.hid (twoW_box w t ao cap)
  have HO0 := Lib.hid (twoW_only w t ao cap)
  have HZ0 := Lib.hid (twoW_size w t ao cap)
  obtain ⟨c0, c1, c2, c3⟩ := HB0.out.cells
  have HCH := Lib.hid (fun (W : World) (ho : Only (fun _ => False) w W) => check_any t W ao cap (hl.later ho) hs hz)
  have HRE := Lib.hid (fun (hok : t.Ok) (W : World) (ho : Only (fun _ => False) w W) => reckon_any t W ao cap (hl.later ho) hs hok)
  by_cases hok : rcheckF t = 0
  · have HE : evalR t = reckF t := by unfold evalR; rw [if_pos hok]
    rw [HE]
    have HOK := Lib.hid (rcheck_iff.1 hok)
    show Calls Try.prog 14 #[.agg #[.int .i64 t.k, .int .i64 t.n, .string t.s, .slice ao t.l.length cap]] w _
    clear hs hl hz hok HE
    generalize reckF t = R at *
    go_enter Try.func14, Try.ntmps14
    go_wp2_with fail
    refine (HCH.out _ HO0.out).mono ?_
    rintro e w1 ⟨⟨c, rfl, hc⟩, ho1⟩
    obtain rfl := hc.2 HOK.out
    clear hc
    have HO1 := Lib.hid (HO0.out.same ho1)
    have HQ1 := Lib.hid (HQ0.out.only ho1 (fun e => e))
    have HB1 := Lib.hid (HB0.out.only ho1 (fun e => e))
    have HSZ := Lib.hid ho1.size
    clear c0 c1 c2 c3 ho1 HCH
    obtain ⟨c0, c1, c2, c3⟩ := HB1.out.cells
    go_wp2_with fail
    clear c0 c1 c2 c3
    cases R with
    | num m =>
      refine (HRE.out HOK.out _ HO1.out).mono ?_
      intro e w2 h2
      obtain ⟨rfl, ho2⟩ := h2.num
      have HQ2 := Lib.hid (HQ1.out.only ho2 (fun e => e))
      have HO2 := Lib.hid (HO1.out.same ho2)
      have HS2 := Lib.hid (HQ2.out.set (.int .i64 0) (.int .i64 0) (.string ⟨#[]⟩) (.slice none 0 0))
      clear h2 ho2
      obtain ⟨c0, c1, c2, c3⟩ := HQ2.out.cells
      obtain ⟨f0, f1, f2, f3⟩ := HQ2.out.free
      go_wp2_with fail
      have hc := HS2.out.1.cells
      refine bodyPost_ret (v := .tuple #[.int .i64 m, .agg #[.int .i64 0, .int .i64 0, .string ⟨#[]⟩, .slice none 0 0], .bool true]) (results_rk rfl _ _ (w.heap.size + 1) _ _ _ _ _ _ rfl rfl rfl hc.1 hc.2.1 hc.2.2.1 hc.2.2.2) rfl ?_
      exact ⟨rfl, Only.cut HO2.out HS2.out.2 (fun k e => by omega)⟩
    | ball y =>
      refine (HRE.out HOK.out _ HO1.out).mono ?_
      intro e w2 h2
      obtain ⟨a2, p2, rfl, hl2, ho2⟩ := h2.ball
      have HL2 := Lib.hid hl2
      have HSZ2 := Lib.hid ho2.size
      have HQ2 := Lib.hid (HQ1.out.only ho2 (fun e => e))
      have HO2 := Lib.hid (HO1.out.same ho2)
      have HS2 := Lib.hid (HQ2.out.set (.int .i64 4) (.int .i64 0) (.string nError) (.slice a2 1 p2))
      clear h2 hl2 ho2
      obtain ⟨c0, c1, c2, c3⟩ := HQ2.out.cells
      obtain ⟨f0, f1, f2, f3⟩ := HQ2.out.free
      go_wp2_with fail
      have hc := HS2.out.1.cells
      refine bodyPost_ret (v := .tuple #[.int .i64 0, .agg #[.int .i64 4, .int .i64 0, .string nError, .slice a2 1 p2], .bool false]) (results_rk rfl _ _ (w.heap.size + 1) _ _ _ _ _ _ rfl rfl rfl hc.1 hc.2.1 hc.2.2.1 hc.2.2.2) rfl ?_
      exact ⟨a2, p2, rfl, HL2.out.fin HS2.out.2 (by omega) (by have := HSZ.out; have := HZ0.out; omega) HSZ2.out no_lt, Only.cut HO2.out HS2.out.2 (fun k e => by omega)⟩
  · have HE : evalR t = .ball (sAtom nSize) := by unfold evalR; rw [if_neg hok]
    rw [HE]
    have HNO := Lib.hid (show ¬ t.Ok from fun h => hok (rcheck_iff.2 h))
    have hcn : (rcheckF t != 0) = true := by simpa using hok
    show Calls Try.prog 14 #[.agg #[.int .i64 t.k, .int .i64 t.n, .string t.s, .slice ao t.l.length cap]] w _
    clear hs hl hz hok HE HRE
    generalize rcheckF t = cc at *
    go_enter Try.func14, Try.ntmps14
    go_wp2_with fail
    refine (HCH.out _ HO0.out).mono ?_
    rintro e w0 ⟨⟨c, rfl, hc⟩, ho0⟩
    have hcn2 : (c != 0) = true := by simpa using fun e => HNO.out (hc.1 e)
    have HOA := Lib.hid (HO0.out.same ho0)
    have HQA := Lib.hid (HQ0.out.only ho0 (fun e => e))
    have HSA := Lib.hid ho0.size
    clear hc ho0 c0 c1 c2 c3
    go_wp2_with fail
    refine (atom_plain _ _).mono ?_
    rintro e wb ⟨rfl, hob⟩
    have HOB := Lib.hid (HOA.out.same hob)
    have HQB := Lib.hid (HQA.out.only hob (fun e => e))
    have HSB : Hid (w.heap.size + 2 ≤ wb.heap.size) := Lib.hid (by have := HSA.out; have := HZ0.out; have := hob.size; omega)
    clear hob
    go_wp2_with fail
    refine (Error_atom nSize wb _ rfl (by decide +kernel)).mono ?_
    rintro e w1 ⟨a1, p1, rfl, hl1, ho1⟩
    have HL1 := Lib.hid hl1
    have HSZ1 := Lib.hid ho1.size
    have HO1 := Lib.hid (HOB.out.same ho1)
    have HQ1 := Lib.hid (HQB.out.only ho1 (fun e => e))
    have HS1 := Lib.hid (HQ1.out.set (.int .i64 4) (.int .i64 0) (.string nError) (.slice a1 1 p1))
    clear hl1 ho1
    obtain ⟨c0, c1, c2, c3⟩ := HQ1.out.cells
    obtain ⟨f0, f1, f2, f3⟩ := HQ1.out.free
    go_wp2_with fail
    have hc := HS1.out.1.cells
    refine bodyPost_ret (v := .tuple #[.int .i64 0, .agg #[.int .i64 4, .int .i64 0, .string nError, .slice a1 1 p1], .bool false]) (results_rk rfl _ _ (w.heap.size + 1) _ _ _ _ _ _ rfl rfl rfl hc.1 hc.2.1 hc.2.2.1 hc.2.2.2) rfl ?_
    exact ⟨a1, p1, rfl, HL1.out.fin HS1.out.2 (by omega) (by have := HSB.out; omega) HSZ1.out no_lt, Only.cut HO1.out HS1.out.2 (fun k e => by omega)⟩
set_option maxHeartbeats 4000000 in
theorem rEval_any (t : T) (ao : Option Addr) (cap : Nat) (w : World) (hs : t.Sane) (hl : Lies w ao t.l) (hz : t.size ≤ 900000) : Calls Try.prog 15 #[tv t ao cap] w (AnsRk (evalR t) w) := by
  have HQ0 := Lib.hid (twoW_zero w t ao cap)
  have HB0 := Lib.hid (twoW_box w t ao cap)
  have HO0 := Lib.hid (twoW_only w t ao cap)
  have HZ0 := Lib.hid (twoW_size w t ao cap)
  obtain ⟨c0, c1, c2, c3⟩ := HB0.out.cells
  have HCH := Lib.hid (fun (W : World) (ho : Only (fun _ => False) w W) => rCheck_any t W ao cap (hl.later ho) hs (by have := depth_le_size t; omega) (by omega))
  have HRE := Lib.hid (fun (hok : t.Ok) (W : World) (ho : Only (fun _ => False) w W) => rreckon_any t W ao cap (hl.later ho) hs hok)
  by_cases hok : rcheckF t = 0
  · have HE : evalR t = reckF t := by unfold evalR; rw [if_pos hok]
    rw [HE]
    have HOK := Lib.hid (rcheck_iff.1 hok)
    rw [hok] at HCH
    show Calls Try.prog 15 #[.agg #[.int .i64 t.k, .int .i64 t.n, .string t.s, .slice ao t.l.length cap]] w _
    clear hs hl hz hok HE
    generalize reckF t = R at *
    go_enter Try.func15, Try.ntmps15
    go_wp2_with fail
    refine (HCH.out _ HO0.out).mono ?_
    rintro e w1 ⟨rfl, ho1⟩
    have HO1 := Lib.hid (HO0.out.same ho1)
    have HQ1 := Lib.hid (HQ0.out.only ho1 (fun e => e))
    have HB1 := Lib.hid (HB0.out.only ho1 (fun e => e))
    have HSZ := Lib.hid ho1.size
    clear c0 c1 c2 c3 ho1 HCH
    obtain ⟨c0, c1, c2, c3⟩ := HB1.out.cells
    go_wp2_with fail
    clear c0 c1 c2 c3
    cases R with
    | num m =>
      refine (HRE.out HOK.out _ HO1.out).mono ?_
      intro e w2 h2
      obtain ⟨rfl, ho2⟩ := h2.num
      have HQ2 := Lib.hid (HQ1.out.only ho2 (fun e => e))
      have HO2 := Lib.hid (HO1.out.same ho2)
      have HS2 := Lib.hid (HQ2.out.set (.int .i64 0) (.int .i64 0) (.string ⟨#[]⟩) (.slice none 0 0))
      clear h2 ho2
      obtain ⟨c0, c1, c2, c3⟩ := HQ2.out.cells
      obtain ⟨f0, f1, f2, f3⟩ := HQ2.out.free
      go_wp2_with fail
      have hc := HS2.out.1.cells
      refine bodyPost_ret (v := .tuple #[.int .i64 m, .agg #[.int .i64 0, .int .i64 0, .string ⟨#[]⟩, .slice none 0 0], .bool true]) (results_rk rfl _ _ (w.heap.size + 1) _ _ _ _ _ _ rfl rfl rfl hc.1 hc.2.1 hc.2.2.1 hc.2.2.2) rfl ?_
      exact ⟨rfl, Only.cut HO2.out HS2.out.2 (fun k e => by omega)⟩
    | ball y =>
      refine (HRE.out HOK.out _ HO1.out).mono ?_
      intro e w2 h2
      obtain ⟨a2, p2, rfl, hl2, ho2⟩ := h2.ball
      have HL2 := Lib.hid hl2
      have HSZ2 := Lib.hid ho2.size
      have HQ2 := Lib.hid (HQ1.out.only ho2 (fun e => e))
      have HO2 := Lib.hid (HO1.out.same ho2)
      have HS2 := Lib.hid (HQ2.out.set (.int .i64 4) (.int .i64 0) (.string nError) (.slice a2 1 p2))
      clear h2 hl2 ho2
      obtain ⟨c0, c1, c2, c3⟩ := HQ2.out.cells
      obtain ⟨f0, f1, f2, f3⟩ := HQ2.out.free
      go_wp2_with fail
      have hc := HS2.out.1.cells
      refine bodyPost_ret (v := .tuple #[.int .i64 0, .agg #[.int .i64 4, .int .i64 0, .string nError, .slice a2 1 p2], .bool false]) (results_rk rfl _ _ (w.heap.size + 1) _ _ _ _ _ _ rfl rfl rfl hc.1 hc.2.1 hc.2.2.1 hc.2.2.2) rfl ?_
      exact ⟨a2, p2, rfl, HL2.out.fin HS2.out.2 (by omega) (by have := HSZ.out; have := HZ0.out; omega) HSZ2.out no_lt, Only.cut HO2.out HS2.out.2 (fun k e => by omega)⟩
  · have HE : evalR t = .ball (sAtom nSize) := by unfold evalR; rw [if_neg hok]
    rw [HE]
    have HNO := Lib.hid (show ¬ t.Ok from fun h => hok (rcheck_iff.2 h))
    have hcn : (rcheckF t != 0) = true := by simpa using hok
    show Calls Try.prog 15 #[.agg #[.int .i64 t.k, .int .i64 t.n, .string t.s, .slice ao t.l.length cap]] w _
    clear hs hl hz hok HE HRE
    generalize rcheckF t = cc at *
    go_enter Try.func15, Try.ntmps15
    go_wp2_with fail
    refine (HCH.out _ HO0.out).mono ?_
    rintro e wb ⟨rfl, ho0⟩
    have HOB := Lib.hid (HO0.out.same ho0)
    have HQB := Lib.hid (HQ0.out.only ho0 (fun e => e))
    have HSB : Hid (w.heap.size + 2 ≤ wb.heap.size) := Lib.hid (by have := ho0.size; have := HZ0.out; omega)
    clear ho0 c0 c1 c2 c3
    go_wp2_with fail
    refine (rSize_any _).mono ?_
    rintro e w1 ⟨a1, p1, rfl, hl1, ho1⟩
    have HL1 := Lib.hid hl1
    have HSZ1 := Lib.hid ho1.size
    have HO1 := Lib.hid (HOB.out.same ho1)
    have HQ1 := Lib.hid (HQB.out.only ho1 (fun e => e))
    have HS1 := Lib.hid (HQ1.out.set (.int .i64 4) (.int .i64 0) (.string nError) (.slice a1 1 p1))
    clear hl1 ho1
    obtain ⟨c0, c1, c2, c3⟩ := HQ1.out.cells
    obtain ⟨f0, f1, f2, f3⟩ := HQ1.out.free
    go_wp2_with fail
    have hc := HS1.out.1.cells
    refine bodyPost_ret (v := .tuple #[.int .i64 0, .agg #[.int .i64 4, .int .i64 0, .string nError, .slice a1 1 p1], .bool false]) (results_rk rfl _ _ (w.heap.size + 1) _ _ _ _ _ _ rfl rfl rfl hc.1 hc.2.1 hc.2.2.1 hc.2.2.2) rfl ?_
    exact ⟨a1, p1, rfl, HL1.out.fin HS1.out.2 (by omega) (by have := HSB.out; omega) HSZ1.out no_lt, Only.cut HO1.out HS1.out.2 (fun k e => by omega)⟩
end Go.Proofs.Ytleofkmfeooaaaa.terms
