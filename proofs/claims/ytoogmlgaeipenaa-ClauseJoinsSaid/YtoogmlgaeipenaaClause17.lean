/- Clauses: the clause of a term that may be. -/
import Derived.Test.YtoogmlgaeipenaaClause16
namespace Go.Proofs.Ytoogmlgaeipenaa.terms
set_option maxRecDepth 100000
open Go.RowKit Go.Proofs.Ytoogmlgaeipenaa.own Go.Maps
theorem FrP.new {w w3 w4 : World} {u : T} {P : Nat → Prop} {ho : Option Addr} {hc : Nat} {go : Option Addr} {gc : Nat} {io : Option Addr} {ic : Nat} {gl : List Gl} {il : List It} (hf : FrI w w4) (h3 : w.heap.size + 3 ≤ w3.heap.size) (o4 : Only (fun _ => False) w3 w4) (hs : (parF u).1.Sane) (hr : Row P w4 ho (parF u).1.l) (hp : PartI P w3.heap.size u go gc io ic gl il w4) (hP : ∀ k, P k → w.heap.size + 3 ≤ k ∧ k < w3.heap.size) :
    FrP w u P w3.heap.size (w4.heap.size + 1) w4.heap.size (fun k => k = w4.heap.size + 1 ∨ RowAt go k ∨ RowAt io k) ho hc go gc io ic gl il ((w4.alloc (.cells #[.int .i64 (parF u).1.k, .int .i64 (parF u).1.n, .string (parF u).1.s, .slice ho (parF u).1.l.length hc] 24)).alloc (.cells #[.slice go gl.length gc, .slice io il.length ic] 75)) := by
  obtain ⟨A, hA⟩ : ∃ A, A = w4.alloc (.cells #[.int .i64 (parF u).1.k, .int .i64 (parF u).1.n, .string (parF u).1.s, .slice ho (parF u).1.l.length hc] 24) := ⟨_, rfl⟩
  obtain ⟨E, hE⟩ : ∃ E, E = A.alloc (.cells #[.slice go gl.length gc, .slice io il.length ic] 75) := ⟨_, rfl⟩
  have hA0 : A.heap.size = w4.heap.size + 1 := by rw [hA]; simp
  have oA : Only (fun _ => False) w4 A := by rw [hA]; exact Only.alloc _ _ _
  have oE : Only (fun _ => False) A E := by rw [hE]; exact Only.alloc _ _ _
  have o := oA.same oE
  have hlt : ∀ k, P k → k < w4.heap.size := fun k hk => Nat.lt_of_lt_of_le (hP k hk).2 o4.size
  have hE0 : E.heap.size = w4.heap.size + 1 + 1 := by rw [hE]; simp [hA0]
  have : FrP w u P w3.heap.size (w4.heap.size + 1) w4.heap.size (fun k => k = w4.heap.size + 1 ∨ RowAt go k ∨ RowAt io k) ho hc go gc io ic gl il E := by
    refine ⟨hf.later o, ?_, ⟨?_, hp.rowG.only o (fun _ _ e => e), hp.rowI.only o (fun _ _ e => e), .inl rfl, fun k e => .inr (.inl e), fun k e => .inr (.inr e), ?_, hp.gs.only o hlt (fun _ _ e => e), hp.is.only o hlt (fun _ _ e => e), fun k hk => ⟨Nat.lt_of_lt_of_le (hlt k hk) o.size, fun e => by
      have h3k := (hP k hk).2
      have h34 := o4.size
      rcases e with e | ⟨g, hg, e⟩ | ⟨g, hg, e⟩
      · omega
      · have := (hp.rowG.head g hg).2.1; omega
      · have := (hp.rowI.head g hg).2.1; omega⟩⟩, hs, hr.only o hlt (fun _ _ e => e), hp.eg, hp.ei, fun k hk => (hP k hk).1, h3, fun k hk => Nat.lt_of_lt_of_le (hlt k hk) o.size⟩
    · have h : Quad w4.heap.size (.int .i64 (parF u).1.k) (.int .i64 (parF u).1.n) (.string (parF u).1.s) (.slice ho (parF u).1.l.length hc) A := by rw [hA]; exact heap_alloc_new _ _
      exact h.only oE (fun e => e)
    · rw [← hA0, hE]; exact heap_alloc_new _ _
    · have h34 := o4.size
      rintro k (hk | ⟨g, hg, e⟩ | ⟨g, hg, e⟩)
      · rw [hk]; omega
      · have := hp.rowG.head g hg; rw [e]; omega
      · have := hp.rowI.head g hg; rw [e]; omega
  rw [hE, hA] at this
  exact this
theorem par_len (u : T) : (parF u).2.length ≤ u.size := by
  cases hn : goesB u nIf 2 with
  | false => rw [par_not hn]; exact Nat.zero_le _
  | true =>
    obtain ⟨a, b, hab⟩ := two_of_len (goes_parts hn).2.2
    rw [par_two hn hab, T.size_eq, hab]
    have := flat_len b
    simp only [sizes]
    show (flatF b).length ≤ _
    omega
theorem fromU_many {u : T} {n : Nat} (h : 64 < (goalsF (parF u).2).length) : fromU u n = .ball (sAtom nSize) := by unfold fromU; rw [if_pos h]
theorem fromU_head {u : T} {n : Nat} {x : T} (h : ¬ 64 < (goalsF (parF u).2).length) (hw : wrongHF (parF u).1 = some x) : fromU u n = .ball x := by unfold fromU; rw [if_neg h, hw]
theorem fromU_int {u : T} {n : Nat} {x : T} (h : ¬ 64 < (goalsF (parF u).2).length) (hw : wrongHF (parF u).1 = none) (hu : uncF (parF u).2 = some x) : fromU u n = .ball x := by unfold fromU; rw [if_neg h, hw, hu]
theorem fromU_cl {u : T} {n : Nat} (h : ¬ 64 < (goalsF (parF u).2).length) (hw : wrongHF (parF u).1 = none) (hu : uncF (parF u).2 = none) : fromU u n = .cl (parF u).1 (goalsF (parF u).2) n := by unfold fromU; rw [if_neg h, hw, hu]
set_option maxHeartbeats 16000000 in
theorem From_ok (t : T) (ao : Option Addr) (cap : Nat) (w : World) (hs : t.Sane) (hl : Lies w ao t.l) (hok : t.Ok) :
    Calls Try.prog 16 #[tv t ao cap] w (AnsFrom (fromU (renF t).1 (renF t).2.length) w) := by
  have HF0 := Lib.hid (FrI.new w t ao cap)
  have HCH := Lib.hid (fun (W : World) (ho : Only (fun _ => False) w W) => check_any t W ao cap (hl.later ho) hs (by have := hok.size; omega))
  have HRN := Lib.hid (fun (W : World) (ho : Only (fun _ => False) w W) => Rename_ok t W ao cap (hl.later ho) hs hok)
  have HUO := Lib.hid (renF_ok hok)
  have HOK := Lib.hid hok
  obtain ⟨c0, c1, c2, c3⟩ := HF0.out.2.cells
  generalize (renF t).1 = u at *
  generalize (renF t).2.length = n at *
  obtain ⟨R, hR⟩ : ∃ R, fromU u n = R := ⟨_, rfl⟩
  rw [hR]
  have HR := Lib.hid hR
  clear hR
  show Calls Try.prog 16 #[.agg #[.int .i64 t.k, .int .i64 t.n, .string t.s, .slice ao t.l.length cap]] w _
  clear hs hl hok
  go_enter Try.func16, Try.ntmps16
  go_wp2_with fail
  clear c0 c1 c2 c3
  generalize ((w.alloc (.cells #[.int .i64 t.k, .int .i64 t.n, .string t.s, .slice ao t.l.length cap] 24)).alloc (.cells #[.int .i64 0, .int .i64 0, .string ⟨#[]⟩, .slice none 0 0, .slice none 0 0, .int .i64 0] 37)).alloc (.cells #[.int .i64 0, .int .i64 0, .string ⟨#[]⟩, .slice none 0 0] 24) = E at *
  refine (HCH.out _ HF0.out.1.o).mono ?_
  rintro e w1 ⟨⟨c, rfl, hc⟩, ho1⟩
  obtain rfl := hc.2 HOK.out
  have HF1 := Lib.hid (HF0.out.1.later ho1)
  obtain ⟨c0, c1, c2, c3⟩ := (HF0.out.2.only ho1 (fun e => e)).cells
  clear hc ho1 HF0 HCH
  go_wp2_with fail
  refine (HRN.out _ HF1.out.o).mono ?_
  rintro e w2 ⟨a2, p2, rfl, hr2, hs2, ho2⟩
  have HF3 : Hid (FrI w (w2.alloc (.cells #[.int .i64 u.k, .int .i64 u.n, .string u.s, .slice a2 u.l.length p2] 24))) := Lib.hid (HF1.out.later (ho2.same (Only.alloc _ _ _)))
  have HR3 : Hid (Row (fun k => w.heap.size + 3 ≤ k ∧ k < (w2.alloc (.cells #[.int .i64 u.k, .int .i64 u.n, .string u.s, .slice a2 u.l.length p2] 24)).heap.size) (w2.alloc (.cells #[.int .i64 u.k, .int .i64 u.n, .string u.s, .slice a2 u.l.length p2] 24)) a2 u.l) := Lib.hid (row_later (hr2.mono (fun k hk => ⟨Nat.le_trans HF1.out.n hk.1, hk.2⟩)) (Only.alloc _ _ _))
  have HS3 := Lib.hid hs2
  clear c0 c1 c2 c3 hr2 hs2 ho2 HRN HF1
  go_wp2_with fail
  generalize w2.alloc (.cells #[.int .i64 u.k, .int .i64 u.n, .string u.s, .slice a2 u.l.length p2] 24) = w3 at *
  refine (parted_any (fun k => w.heap.size + 3 ≤ k ∧ k < w3.heap.size) u a2 p2 w3 HS3.out (fun k hk => hk.2) HR3.out (by have := HUO.out.size; omega)).mono ?_
  rintro e w4 ⟨ho, hc, go, gc, io, ic, gl, il, rfl, hsn, hrow, hpart, ho4⟩
  have HFP := Lib.hid (FrP.new (hc := hc) (HF3.out.later ho4) HF3.out.n ho4 hsn hrow hpart (fun k hk => hk))
  have HW3 : Hid (w3.heap.size ≤ w4.heap.size) := Lib.hid ho4.size
  have hpo := par_ok u HUO.out
  have HPO := Lib.hid hpo
  have HEG := Lib.hid (congrArg List.length hpart.eg)
  have HFM := Lib.hid (@fromU_many u n)
  have HFH := Lib.hid (fun (x : T) => @fromU_head u n x)
  have HFI := Lib.hid (fun (x : T) => @fromU_int u n x)
  have HFC := Lib.hid (@fromU_cl u n)
  clear hsn hrow hpart ho4 hpo
  generalize hh : (parF u).1 = h at *
  go_wp2_with fail
  generalize (fun k => k = w4.heap.size + 1 ∨ RowAt go k ∨ RowAt io k) = S at *
  generalize hbb : w4.heap.size + 1 = bb at *
  generalize hhb : w4.heap.size = hb at *
  generalize (w4.alloc (.cells #[.int .i64 h.k, .int .i64 h.n, .string h.s, .slice ho h.l.length hc] 24)).alloc (.cells #[.slice go gl.length gc, .slice io il.length ic] 75) = w5 at *
  have HHQ : Hid (Quad hb (.int .i64 h.k) (.int .i64 h.n) (.string h.s) (.slice ho h.l.length hc) w5) := Lib.hid (by rw [← hh]; exact HFP.out.h)
  have HHL : Hid (Lies w5 ho h.l) := Lib.hid (by rw [← hh]; exact HFP.out.lies)
  have HHS : Hid h.Sane := Lib.hid (by rw [← hh]; exact HFP.out.sane)
  have HHB : Hid (w.heap.size + 3 ≤ hb) := Lib.hid (by have := HF3.out.n; have := HW3.out; omega)
  have hgl : gl.length = (goalsF (parF u).2).length := by have := HEG.out; rwa [List.length_map] at this
  have HGL := Lib.hid hgl
  have HLE : Hid (gl.length ≤ 1000000) := Lib.hid (by
    rw [hgl]
    refine Nat.le_trans (goals_len _) ?_
    have h1 := par_len u
    have := HUO.out.size
    omega)
  have HHH := Lib.hid hh
  clear hgl HEG hh hbb hhb HR3 HF3 HW3 HS3
  refine (tooMany_any _ _ _ _ _ _ _ _ gl il w5 HFP.out.b HLE.out).mono ?_
  rintro e w6 ⟨rfl, rfl⟩
  by_cases h64 : 64 < gl.length
  · have HM := Lib.hid (HFM.out (by rw [← HGL.out]; exact h64))
    rw [decide_eq_true h64]
    obtain rfl : R = _ := HR.out.symm.trans HM.out
    clear h64 HFM HFH HFI HFC HGL
    go_wp2_with fail
    refine (csize_any _).mono ?_
    rintro e w7 ⟨a7, p7, rfl, hr7, ho7⟩
    have HX7 := Lib.hid (HFP.out.f.later ho7).x
    have HZ7 := Lib.hid (HFP.out.f.later ho7).z
    have HO7 := Lib.hid (HFP.out.f.later ho7).o
    have HR7 := Lib.hid (row_above hr7 HFP.out.f.n)
    clear hr7 ho7
    obtain ⟨WF, hWF⟩ : ∃ WF, WF = ((((((((((w7.setCell ⟨w.heap.size + 1, 0, none⟩ (.int .i64 0)).setCell ⟨w.heap.size + 1, 1, none⟩ (.int .i64 0)).setCell ⟨w.heap.size + 1, 2, none⟩ (.string ⟨#[]⟩)).setCell ⟨w.heap.size + 1, 3, none⟩ (.slice none 0 0)).setCell ⟨w.heap.size + 1, 4, none⟩ (.slice none 0 0)).setCell ⟨w.heap.size + 1, 5, none⟩ (.int .i64 0)).setCell ⟨w.heap.size + 1 + 1, 0, none⟩ (.int .i64 4)).setCell ⟨w.heap.size + 1 + 1, 1, none⟩ (.int .i64 0)).setCell ⟨w.heap.size + 1 + 1, 2, none⟩ (.string nError)).setCell ⟨w.heap.size + 1 + 1, 3, none⟩ (.slice a7 1 p7)) := ⟨_, rfl⟩
    have HST := Lib.hid (hexStores HX7.out HZ7.out (.int .i64 0) (.int .i64 0) (.string ⟨#[]⟩) (.slice none 0 0) (.slice none 0 0) (.int .i64 0) (.int .i64 4) (.int .i64 0) (.string nError) (.slice a7 1 p7) _ (.inl hWF))
    have HWF := Lib.hid hWF
    clear hWF
    have hZS := HZ7.out.only (HX7.out.set (.int .i64 0) (.int .i64 0) (.string ⟨#[]⟩) (.slice none 0 0) (.slice none 0 0) (.int .i64 0)).2 (fun e => by omega)
    obtain ⟨x0, x1, x2, x3, x4, x5⟩ := HX7.out.cells
    obtain ⟨e0, e1, e2, e3, e4, e5⟩ := HX7.out.free
    obtain ⟨d0, d1, d2, d3⟩ := hZS.cells
    obtain ⟨f0, f1, f2, f3⟩ := hZS.free
    clear hZS
    go_wp2_with fail
    rw [← HWF.out]
    have hcc := HST.out.1.cells
    have hpp := HST.out.2.1.cells
    refine bodyPost_ret (v := .tuple #[.agg #[.int .i64 0, .int .i64 0, .string ⟨#[]⟩, .slice none 0 0, .slice none 0 0, .int .i64 0], .agg #[.int .i64 4, .int .i64 0, .string nError, .slice a7 1 p7], .bool false]) (results_from rfl _ WF (w.heap.size + 1) (w.heap.size + 1 + 1) _ _ _ _ _ _ _ _ _ _ _ rfl rfl rfl hcc.1 hcc.2.1 hcc.2.2.1 hcc.2.2.2.1 hcc.2.2.2.2.1 hcc.2.2.2.2.2 hpp.1 hpp.2.1 hpp.2.2.1 hpp.2.2.2) rfl ?_
    have oF := HST.out.2.2.same (Only.drewN (fun k => k = w.heap.size + 1 ∨ k = w.heap.size + 1 + 1) WF 0)
    have hfin : Only (fun _ => False) w WF := Only.cut HO7.out oF (fun k e => by omega)
    exact ⟨a7, p7, rfl, (HR7.out.only oF (fun k hk => hk.2) (fun k hk e => by have := hk.1; omega)).mono (fun k hk => Nat.lt_of_lt_of_le hk.2 oF.size), hfin⟩

  · rw [decide_eq_false h64]
    have H64 : Hid (¬ 64 < (goalsF (parF u).2).length) := Lib.hid (by rw [← HGL.out]; exact h64)
    have HWH := Lib.hid (wrongHead_any h ho hc w6 HHS.out HHL.out HPO.out.1 (ok_kind HPO.out.1))
    obtain ⟨c0, c1, c2, c3⟩ := HHQ.out.cells
    clear h64 HFM
    cases hw : wrongHF h with
    | some x =>
      rw [hw] at HWH
      obtain rfl : R = _ := HR.out.symm.trans (HFH.out x H64.out hw)
      clear hw HFH HFI HFC
      go_wp2_with fail
      refine HWH.out.mono ?_
      intro e w7 h7
      obtain ⟨a6, p6, rfl, hr7, ho7⟩ := h7.some_
      have oB := Only.alloc (fun _ => False) w7 (.cells #[.int .i64 4, .int .i64 0, .string nError, .slice a6 1 p6] 24)
      have hG : Quad w7.heap.size (.int .i64 4) (.int .i64 0) (.string nError) (.slice a6 1 p6) (w7.alloc (.cells #[.int .i64 4, .int .i64 0, .string nError, .slice a6 1 p6] 24)) := heap_alloc_new _ _
      have HF8 := Lib.hid (HFP.out.f.later (ho7.same oB))
      have HR8 := Lib.hid (row_later (row_above hr7 HFP.out.f.n) oB)
      have HN7 : Hid (w.heap.size + 3 ≤ w7.heap.size) := Lib.hid (Nat.le_trans HFP.out.f.n ho7.size)
      clear h7 hr7 ho7 oB c0 c1 c2 c3 HWH
      generalize hw8 : w7.alloc (.cells #[.int .i64 4, .int .i64 0, .string nError, .slice a6 1 p6] 24) = w8 at *
      have HX8 := Lib.hid HF8.out.x
      have HZ8 := Lib.hid HF8.out.z
      have HO8 := Lib.hid HF8.out.o
      obtain ⟨WF, hWF⟩ : ∃ WF, WF = ((((((((((w8.setCell ⟨w.heap.size + 1, 0, none⟩ (.int .i64 0)).setCell ⟨w.heap.size + 1, 1, none⟩ (.int .i64 0)).setCell ⟨w.heap.size + 1, 2, none⟩ (.string ⟨#[]⟩)).setCell ⟨w.heap.size + 1, 3, none⟩ (.slice none 0 0)).setCell ⟨w.heap.size + 1, 4, none⟩ (.slice none 0 0)).setCell ⟨w.heap.size + 1, 5, none⟩ (.int .i64 0)).setCell ⟨w.heap.size + 1 + 1, 0, none⟩ (.int .i64 4)).setCell ⟨w.heap.size + 1 + 1, 1, none⟩ (.int .i64 0)).setCell ⟨w.heap.size + 1 + 1, 2, none⟩ (.string nError)).setCell ⟨w.heap.size + 1 + 1, 3, none⟩ (.slice a6 1 p6)) := ⟨_, rfl⟩
      have HST := Lib.hid (hexStores HX8.out HZ8.out (.int .i64 0) (.int .i64 0) (.string ⟨#[]⟩) (.slice none 0 0) (.slice none 0 0) (.int .i64 0) (.int .i64 4) (.int .i64 0) (.string nError) (.slice a6 1 p6) _ (.inl hWF))
      have HWF := Lib.hid hWF
      clear hWF
      have hZS := HZ8.out.only (HX8.out.set (.int .i64 0) (.int .i64 0) (.string ⟨#[]⟩) (.slice none 0 0) (.slice none 0 0) (.int .i64 0)).2 (fun e => by omega)
      have hG2 := hG.only (HX8.out.set (.int .i64 0) (.int .i64 0) (.string ⟨#[]⟩) (.slice none 0 0) (.slice none 0 0) (.int .i64 0)).2 (fun e => by have := HN7.out; omega)
      obtain ⟨g0, g1, g2, g3⟩ := hG.cells
      obtain ⟨k0, k1, k2, k3⟩ := hG2.cells
      clear hG hG2
      obtain ⟨x0, x1, x2, x3, x4, x5⟩ := HX8.out.cells
      obtain ⟨e0, e1, e2, e3, e4, e5⟩ := HX8.out.free
      obtain ⟨d0, d1, d2, d3⟩ := hZS.cells
      obtain ⟨f0, f1, f2, f3⟩ := hZS.free
      clear hZS
      go_wp2_with fail
      go_region
      all_goals
        go_wp2_with fail
        rw [← HWF.out]
        have hcc := HST.out.1.cells
        have hpp := HST.out.2.1.cells
        refine bodyPost_ret (v := .tuple #[.agg #[.int .i64 0, .int .i64 0, .string ⟨#[]⟩, .slice none 0 0, .slice none 0 0, .int .i64 0], .agg #[.int .i64 4, .int .i64 0, .string nError, .slice a6 1 p6], .bool false]) (results_from rfl _ WF.drew (w.heap.size + 1) (w.heap.size + 1 + 1) _ _ _ _ _ _ _ _ _ _ _ rfl rfl rfl hcc.1 hcc.2.1 hcc.2.2.1 hcc.2.2.2.1 hcc.2.2.2.2.1 hcc.2.2.2.2.2 hpp.1 hpp.2.1 hpp.2.2.1 hpp.2.2.2) rfl ?_
        have oF := HST.out.2.2.same (Only.drewN (fun k => k = w.heap.size + 1 ∨ k = w.heap.size + 1 + 1) WF 1)
        have hfin : Only (fun _ => False) w WF.drew := Only.cut HO8.out oF (fun k e => by omega)
        exact ⟨a6, p6, rfl, (HR8.out.only oF (fun k hk => hk.2) (fun k hk e => by have := hk.1; omega)).mono (fun k hk => Nat.lt_of_lt_of_le hk.2 oF.size), hfin⟩

    | none =>
      rw [hw] at HWH
      have HFI2 := Lib.hid (fun x hu => HFI.out x H64.out hw hu)
      have HFC2 := Lib.hid (fun hu => HFC.out H64.out hw hu)
      clear hw HFH HFI HFC
      go_wp2_with fail
      refine HWH.out.mono ?_
      intro e w7 h7
      obtain ⟨rfl, ho7⟩ := h7.none_
      have HFP8 := Lib.hid (HFP.out.later (ho7.same (Only.alloc (fun _ => False) w7 (.cells #[.int .i64 0, .int .i64 0, .string ⟨#[]⟩, .slice none 0 0] 24))))
      have HHQ8 := Lib.hid (HHQ.out.only (ho7.same (Only.alloc (fun _ => False) w7 (.cells #[.int .i64 0, .int .i64 0, .string ⟨#[]⟩, .slice none 0 0] 24))) (fun e => e))
      have HHL8 := Lib.hid (HHL.out.later (ho7.same (Only.alloc (fun _ => False) w7 (.cells #[.int .i64 0, .int .i64 0, .string ⟨#[]⟩, .slice none 0 0] 24))))
      clear h7 ho7 c0 c1 c2 c3 HWH HHQ HHL HFP
      go_wp2_with fail
      generalize w7.alloc (.cells #[.int .i64 0, .int .i64 0, .string ⟨#[]⟩, .slice none 0 0] 24) = w8 at *
      have HUC : Hid (Calls Try.prog 54 #[.pointer (some ⟨bb, 0, none⟩)] w8 (AnsMay (uncF (parF u).2) w8)) := Lib.hid (by
        have h1 := uncallable_any _ _ _ _ _ _ _ _ _ _ w8 HFP8.out.b (fun x hx => by
          have hm : x.t ∈ intsF (parF u).2 := by rw [← HFP8.out.ei]; exact List.mem_map_of_mem hx
          have := (HPO.out.2 x.t (List.mem_filter.1 hm).1).size
          omega)
        rw [HFP8.out.ei] at h1
        exact h1)
      refine HUC.out.mono ?_
      intro e w9 h9
      cases hu : uncF (parF u).2 with
      | some x =>
        rw [hu] at h9
        obtain rfl : R = _ := HR.out.symm.trans (HFI2.out x hu)
        obtain ⟨a8, p8, rfl, hr9, ho9⟩ := h9.some_
        have oB := Only.alloc (fun _ => False) w9 (.cells #[.int .i64 4, .int .i64 0, .string nError, .slice a8 1 p8] 24)
        have hG : Quad w9.heap.size (.int .i64 4) (.int .i64 0) (.string nError) (.slice a8 1 p8) (w9.alloc (.cells #[.int .i64 4, .int .i64 0, .string nError, .slice a8 1 p8] 24)) := heap_alloc_new _ _
        have HF8 := Lib.hid (HFP8.out.f.later (ho9.same oB))
        have HR8 := Lib.hid (row_later (row_above hr9 HFP8.out.f.n) oB)
        have HN7 : Hid (w.heap.size + 3 ≤ w9.heap.size) := Lib.hid (Nat.le_trans HFP8.out.f.n ho9.size)
        clear h9 hr9 ho9 oB hu HUC HFI2 HFC2
        generalize hw10 : w9.alloc (.cells #[.int .i64 4, .int .i64 0, .string nError, .slice a8 1 p8] 24) = w10 at *
        have HX8 := Lib.hid HF8.out.x
        have HZ8 := Lib.hid HF8.out.z
        have HO8 := Lib.hid HF8.out.o
        obtain ⟨WF, hWF⟩ : ∃ WF, WF = ((((((((((w10.setCell ⟨w.heap.size + 1, 0, none⟩ (.int .i64 0)).setCell ⟨w.heap.size + 1, 1, none⟩ (.int .i64 0)).setCell ⟨w.heap.size + 1, 2, none⟩ (.string ⟨#[]⟩)).setCell ⟨w.heap.size + 1, 3, none⟩ (.slice none 0 0)).setCell ⟨w.heap.size + 1, 4, none⟩ (.slice none 0 0)).setCell ⟨w.heap.size + 1, 5, none⟩ (.int .i64 0)).setCell ⟨w.heap.size + 1 + 1, 0, none⟩ (.int .i64 4)).setCell ⟨w.heap.size + 1 + 1, 1, none⟩ (.int .i64 0)).setCell ⟨w.heap.size + 1 + 1, 2, none⟩ (.string nError)).setCell ⟨w.heap.size + 1 + 1, 3, none⟩ (.slice a8 1 p8)) := ⟨_, rfl⟩
        have HST := Lib.hid (hexStores HX8.out HZ8.out (.int .i64 0) (.int .i64 0) (.string ⟨#[]⟩) (.slice none 0 0) (.slice none 0 0) (.int .i64 0) (.int .i64 4) (.int .i64 0) (.string nError) (.slice a8 1 p8) _ (.inl hWF))
        have HWF := Lib.hid hWF
        clear hWF
        have hZS := HZ8.out.only (HX8.out.set (.int .i64 0) (.int .i64 0) (.string ⟨#[]⟩) (.slice none 0 0) (.slice none 0 0) (.int .i64 0)).2 (fun e => by omega)
        have hG2 := hG.only (HX8.out.set (.int .i64 0) (.int .i64 0) (.string ⟨#[]⟩) (.slice none 0 0) (.slice none 0 0) (.int .i64 0)).2 (fun e => by have := HN7.out; omega)
        obtain ⟨g0, g1, g2, g3⟩ := hG.cells
        obtain ⟨k0, k1, k2, k3⟩ := hG2.cells
        clear hG hG2
        obtain ⟨x0, x1, x2, x3, x4, x5⟩ := HX8.out.cells
        obtain ⟨e0, e1, e2, e3, e4, e5⟩ := HX8.out.free
        obtain ⟨d0, d1, d2, d3⟩ := hZS.cells
        obtain ⟨f0, f1, f2, f3⟩ := hZS.free
        clear hZS
        go_wp2_with fail
        go_region
        all_goals
          go_wp2_with fail
          rw [← HWF.out]
          have hcc := HST.out.1.cells
          have hpp := HST.out.2.1.cells
          refine bodyPost_ret (v := .tuple #[.agg #[.int .i64 0, .int .i64 0, .string ⟨#[]⟩, .slice none 0 0, .slice none 0 0, .int .i64 0], .agg #[.int .i64 4, .int .i64 0, .string nError, .slice a8 1 p8], .bool false]) (results_from rfl _ WF.drew (w.heap.size + 1) (w.heap.size + 1 + 1) _ _ _ _ _ _ _ _ _ _ _ rfl rfl rfl hcc.1 hcc.2.1 hcc.2.2.1 hcc.2.2.2.1 hcc.2.2.2.2.1 hcc.2.2.2.2.2 hpp.1 hpp.2.1 hpp.2.2.1 hpp.2.2.2) rfl ?_
          have oF := HST.out.2.2.same (Only.drewN (fun k => k = w.heap.size + 1 ∨ k = w.heap.size + 1 + 1) WF 1)
          have hfin : Only (fun _ => False) w WF.drew := Only.cut HO8.out oF (fun k e => by omega)
          exact ⟨a8, p8, rfl, (HR8.out.only oF (fun k hk => hk.2) (fun k hk e => by have := hk.1; omega)).mono (fun k hk => Nat.lt_of_lt_of_le hk.2 oF.size), hfin⟩

      | none =>
        rw [hu] at h9
        obtain rfl : R = _ := HR.out.symm.trans (HFC2.out hu)
        obtain ⟨rfl, ho9⟩ := h9.none_
        have HFP9 := Lib.hid (HFP8.out.later (ho9.same (Only.alloc (fun _ => False) w9 (.cells #[.int .i64 0, .int .i64 0, .string ⟨#[]⟩, .slice none 0 0] 24))))
        have HHQ9 := Lib.hid (HHQ8.out.only (ho9.same (Only.alloc (fun _ => False) w9 (.cells #[.int .i64 0, .int .i64 0, .string ⟨#[]⟩, .slice none 0 0] 24))) (fun e => e))
        clear h9 ho9 hu HUC HFI2 HFC2 HHQ8
        have HX8 := Lib.hid HFP9.out.f.x
        have HZ8 := Lib.hid HFP9.out.f.z
        have HO8 := Lib.hid HFP9.out.f.o
        obtain ⟨WF, hWF⟩ : ∃ WF, WF = (((((((((((w9.alloc (.cells #[.int .i64 0, .int .i64 0, .string ⟨#[]⟩, .slice none 0 0] 24)).setCell ⟨w.heap.size + 1, 0, none⟩ (.int .i64 h.k)).setCell ⟨w.heap.size + 1, 1, none⟩ (.int .i64 h.n)).setCell ⟨w.heap.size + 1, 2, none⟩ (.string h.s)).setCell ⟨w.heap.size + 1, 3, none⟩ (.slice ho h.l.length hc)).setCell ⟨w.heap.size + 1, 4, none⟩ (.slice go gl.length gc)).setCell ⟨w.heap.size + 1, 5, none⟩ (.int .i64 n)).setCell ⟨w.heap.size + 1 + 1, 0, none⟩ (.int .i64 0)).setCell ⟨w.heap.size + 1 + 1, 1, none⟩ (.int .i64 0)).setCell ⟨w.heap.size + 1 + 1, 2, none⟩ (.string ⟨#[]⟩)).setCell ⟨w.heap.size + 1 + 1, 3, none⟩ (.slice none 0 0)) := ⟨_, rfl⟩
        have HST := Lib.hid (hexStores HX8.out HZ8.out (.int .i64 h.k) (.int .i64 h.n) (.string h.s) (.slice ho h.l.length hc) (.slice go gl.length gc) (.int .i64 n) (.int .i64 0) (.int .i64 0) (.string ⟨#[]⟩) (.slice none 0 0) _ (.inl hWF))
        have HWF := Lib.hid hWF
        clear hWF
        have hZS := HZ8.out.only (HX8.out.set (.int .i64 h.k) (.int .i64 h.n) (.string h.s) (.slice ho h.l.length hc) (.slice go gl.length gc) (.int .i64 n)).2 (fun e => by omega)
        obtain ⟨g0, g1, g2, g3⟩ := HHQ9.out.cells
        obtain ⟨k0, k1, k2, k3⟩ := HFP9.out.b.cells
        obtain ⟨x0, x1, x2, x3, x4, x5⟩ := HX8.out.cells
        obtain ⟨e0, e1, e2, e3, e4, e5⟩ := HX8.out.free
        obtain ⟨d0, d1, d2, d3⟩ := hZS.cells
        obtain ⟨f0, f1, f2, f3⟩ := hZS.free
        clear hZS
        go_wp2_with fail
        rw [← HWF.out]
        have hcc := HST.out.1.cells
        have hpp := HST.out.2.1.cells
        refine bodyPost_ret (v := .tuple #[.agg #[.int .i64 h.k, .int .i64 h.n, .string h.s, .slice ho h.l.length hc, .slice go gl.length gc, .int .i64 n], .agg #[.int .i64 0, .int .i64 0, .string ⟨#[]⟩, .slice none 0 0], .bool true]) (results_from rfl _ WF (w.heap.size + 1) (w.heap.size + 1 + 1) _ _ _ _ _ _ _ _ _ _ _ rfl rfl rfl hcc.1 hcc.2.1 hcc.2.2.1 hcc.2.2.2.1 hcc.2.2.2.2.1 hcc.2.2.2.2.2 hpp.1 hpp.2.1 hpp.2.2.1 hpp.2.2.2) rfl ?_
        have oF := HST.out.2.2.same (Only.drewN (fun k => k = w.heap.size + 1 ∨ k = w.heap.size + 1 + 1) WF 0)
        have hfin : Only (fun _ => False) w WF := Only.cut HO8.out oF (fun k e => by omega)
        have hS : ∀ k, S k → ¬ (k = w.heap.size + 1 ∨ k = w.heap.size + 1 + 1) := fun k hk e => by
          have := HFP9.out.b.low k hk
          have := HFP9.out.B
          omega
        have hP : ∀ k, (w.heap.size + 3 ≤ k ∧ k < w3.heap.size) → ¬ (k = w.heap.size + 1 ∨ k = w.heap.size + 1 + 1) := fun k hk e => by omega
        refine ⟨ho, hc, go, gc, gl, rfl, ⟨HHS.out, ?_, (RowOf.low HFP9.out.b.rowG (Nat.zero_le _)).only oF (fun g hg e => hS _ (HFP9.out.b.hasG _ ⟨g, hg, rfl⟩) e), (HFP9.out.b.gs.only oF HFP9.out.pl hP).mono (fun k hk => Nat.lt_of_lt_of_le (HFP9.out.pl k hk) oF.size), HFP9.out.eg⟩, hfin⟩
        rw [← HHH.out]
        exact (HFP9.out.row.only oF HFP9.out.pl hP).mono (fun k hk => Nat.lt_of_lt_of_le (HFP9.out.pl k hk) oF.size)

end Go.Proofs.Ytoogmlgaeipenaa.terms
