/- Clauses by generations: lives. -/
import Derived.Test.YthfilpacmllhpabBas21
namespace Go.Proofs.Ythfilpacmllhpab.bases
set_option maxRecDepth 100000
open Go.RowKit Go.Proofs.Ythfilpacmllhpab.own Go.Lib Go.Maps Go.WideMaps Go.Proofs.Ythfilpacmllhpab.idx Go.Proofs.Ythfilpacmllhpab.terms
set_option maxHeartbeats 16000000 in
theorem lives_any (w : World) : Calls Try.prog 7 #[] w fun e w' => e = .returned (.bool true) ∧ Only (fun _ => False) w w' := by
  have HNW := Lib.hid (new_base 3 w (by decide) (by decide))
  go_enter Try.func7, Try.ntmps7
  go_wp2_with fail
  refine HNW.out.mono ?_
  rintro e w1 ⟨rfl, hb1, ho1⟩
  have HB1 : Hid (∃ pm, Bs (w.heap.size + 1) pm 0 [] [] 3 0 0 (fun _ => False) w w1) := Lib.hid ⟨_, Bs.new rfl rfl hb1 ho1⟩
  clear hb1 ho1 HNW
  generalize w.heap.size + 1 = b at *
  go_wp2_with fail
  refine (fact_any 1 (by unfold Fits; omega) w1).mono ?_
  rintro e w2 ⟨a1, c1, rfl, hr1, ho2⟩
  obtain ⟨W3, hW3⟩ : ∃ W3, W3 = w2.alloc (.cells #[.int .i64 25, .string ⟨#[]⟩, .int .i64 0, .int .i64 0, .int .i64 0] 61) := ⟨_, rfl⟩
  have o3 : Only (fun _ => False) w2 W3 := by rw [hW3]; exact Only.alloc _ _ _
  have hp3 : Pent w2.heap.size iP W3 := by rw [hW3]; exact heap_alloc_new _ _
  have HAD : Hid (Calls Try.prog 9 #[.pointer (some ⟨b, 0, none⟩), .agg #[.int .i64 4, .int .i64 0, .string ⟨#[112]⟩, .slice a1 1 c1, .slice none 0 0, .int .i64 0], .slice (some ⟨w2.heap.size, 0, none⟩) 1 1, .bool false] W3 fun e w' => e = .returned (.tuple #[.int .i64 0, .int .i64 0]) ∧ Made1 b w w') := Lib.hid (by
    obtain ⟨pm, hbs⟩ := HB1.out
    exact add_one hbs (ho2.same o3) a1 c1 ((hr1.only o3 (fun k hk => hk.2) (fun _ _ e => e)).mono (fun k hk => ⟨hk.1, Nat.lt_of_lt_of_le hk.2 o3.size⟩)) _ hp3 ho2.size)
  clear hr1 ho2 o3 hp3 HB1
  go_wp2_with fail
  rw [← hW3]
  clear hW3
  refine HAD.out.mono ?_
  rintro e w4 ⟨rfl, hm1⟩
  have HM1 := Lib.hid hm1
  clear hm1 HAD
  go_wp2_with fail
  refine (fact_any 2 (by unfold Fits; omega) w4).mono ?_
  rintro e w5 ⟨a2, c2, rfl, hr2, ho5⟩
  have HAD := Lib.hid (add_two HM1.out ho5 a2 c2 hr2)
  clear hr2 ho5 HM1
  go_wp2_with fail
  refine HAD.out.mono ?_
  rintro e w6 ⟨rfl, hm2⟩
  have HK := Lib.hid (kill_zero hm2)
  clear hm2 HAD
  go_wp2_with fail
  refine HK.out.mono ?_
  rintro e w7 ⟨rfl, hm3⟩
  have HM := Lib.hid hm3
  clear hm3 HK
  go_wp2_with fail
  refine (m_head HM.out).mono ?_
  rintro e w8 ⟨rfl, ho⟩
  have HM := Lib.hid (HM.out.later ho)
  clear ho
  go_wp2_with fail
  refine (m_next HM.out).mono ?_
  rintro e w9 ⟨rfl, ho⟩
  have HM := Lib.hid (HM.out.later ho)
  clear ho
  go_wp2_with fail
  refine (m_next3 HM.out).mono ?_
  rintro e w10 ⟨rfl, ho⟩
  have HM := Lib.hid (HM.out.later ho)
  clear ho
  go_wp2_with fail
  refine (m_clause HM.out).mono ?_
  rintro e w11 ⟨ac, cc, rfl, hrc, ho⟩
  have HM := Lib.hid (HM.out.later ho)
  have HRC := Lib.hid (hrc.mono (Q := fun k => k < w11.heap.size) (fun k hk => hk.2))
  clear ho hrc
  obtain ⟨W12, hW12⟩ : ∃ W12, W12 = w11.alloc (.cells #[.int .i64 4, .int .i64 0, .string ⟨#[112]⟩, .slice ac 1 cc, .slice none 0 0, .int .i64 0] 34) := ⟨_, rfl⟩
  have o12 : Only (fun _ => False) w11 W12 := by rw [hW12]; exact Only.alloc _ _ _
  have HX : Hid (Hex w11.heap.size (.int .i64 4) (.int .i64 0) (.string ⟨#[112]⟩) (.slice ac 1 cc) (.slice none 0 0) (.int .i64 0) W12) := Lib.hid (by rw [hW12]; exact heap_alloc_new _ _)
  have HMa := Lib.hid (HM.out.later o12)
  have HRa := Lib.hid (HRC.out.later o12)
  clear o12 HM HRC
  go_wp2_with fail
  rw [← hW12]
  clear hW12
  generalize w11.heap.size = bc at *
  refine (m_at HMa.out).mono ?_
  rintro e w13 ⟨rfl, ho⟩
  have HMb := Lib.hid (HMa.out.later ho)
  have HXb := Lib.hid (HX.out.only ho (fun e => e))
  have HRb := Lib.hid (HRa.out.later ho)
  clear ho HMa HX HRa
  obtain ⟨W14, hW14⟩ : ∃ W14, W14 = w13.alloc (.cells #[.int .i64 25, .string ⟨#[]⟩, .int .i64 0, .int .i64 0, .int .i64 0] 61) := ⟨_, rfl⟩
  have o14 : Only (fun _ => False) w13 W14 := by rw [hW14]; exact Only.alloc _ _ _
  have HI : Hid (Pent w13.heap.size iP W14) := Lib.hid (by rw [hW14]; exact heap_alloc_new _ _)
  have HM := Lib.hid (HMb.out.later o14)
  have HX := Lib.hid (HXb.out.only o14 (fun e => e))
  have HRC := Lib.hid (HRb.out.later o14)
  clear o14 HMb HXb HRb
  go_wp2_with fail
  rw [← hW14]
  clear hW14
  generalize w13.heap.size = bi at *
  refine (new_bad 0 W14 (.inl (by decide))).mono ?_
  rintro e w15 ⟨rfl, rfl⟩
  have HMM : Hid (∀ W, Only (fun _ => False) w15 W → Made3 b w W) := Lib.hid (fun W o => HM.out.later o)
  have HRR : Hid (∀ W, Only (fun _ => False) w15 W → Row (fun k => k < W.heap.size) W ac [sInt 2]) := Lib.hid (fun W o => HRC.out.later o)
  have HSS : Hid (∀ W, Only (fun _ => False) w15 W → (W.cell? ⟨bc, 0, none⟩ = some (.int .i64 4) ∧ W.cell? ⟨bc, 1, none⟩ = some (.int .i64 0) ∧ W.cell? ⟨bc, 2, none⟩ = some (.string ⟨#[112]⟩) ∧ W.cell? ⟨bc, 3, none⟩ = some (.slice ac 1 cc)) ∧ W.cell? ⟨bi, 0, none⟩ = some (.int .i64 25)) := Lib.hid (fun W o => by
    obtain ⟨x0, x1, x2, x3, _, _⟩ := (HX.out.only o (fun e => e)).cells
    exact ⟨⟨x0, x1, x2, x3⟩, (HI.out.only o (fun e => e)).cells.1⟩)
  have HFT : Hid (Fits 2) := Lib.hid (by unfold Fits; omega)
  clear HM HX HI HRC
  go_wp2_with fail
  refine livesR_all _ _ _ _ _ _ _ _ _ _ _ _ _ _ _ _ _ _ _ _ _ _ _ _ _ _ _ _ _ _ _ _ _ _ _ _ _ _ _ _ _ _ _ _ _ _ _ _ _ _ _ _ _ _ _ _ _ _ _ _ _ _ _ _ _ _ _ _ _ _ _ _ _ _ _ _ _ _ _ _ _ _ _ _ _ _ _ _ _ _ _ _ _ _ _ _ _ _ _ _ _ _ _ _ _ _ _ _ _ _ _ _ _ _ _ _ _ _ _ _ _ _ _ _ _ _ _ _ _ _ _ _ _ _ _ _ _ _ _ _ _ _ _ _ _ _ _ _ _ _ _ _ _ _ _ _ _ _ _ _ _ _ _ _ _ _ _ _ _ _ HMM HRR HFT HSS (fun a' W' h0 h1 ho => ?_)
  go_wp2_with fail
  refine bodyPost_ret (v := .bool true) ?_ h1 ⟨rfl, (HMM.out _ ho).only⟩
  have hr := results_tmp (fn := Try.f7) rfl a'.tmps Try.prog W'
  rw [h0] at hr
  exact hr
end Go.Proofs.Ythfilpacmllhpab.bases
