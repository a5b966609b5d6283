
/- Selection by keys: lives. -/
import Derived.Test.YthgjedcelcanbaaIdx22
namespace Go.Proofs.Ythgjedcelcanbaa.idx
set_option maxRecDepth 100000
open Go.RowKit Go.Proofs.Ythgjedcelcanbaa.own Go.Lib Go.Maps Go.WideMaps
set_option maxHeartbeats 16000000 in
theorem lives_any (w : World) : Calls Try.prog 7 #[] w fun e w' => e = .returned (.bool true) ∧ Only (fun _ => False) w w' := by
  go_enter Try.func7, Try.ntmps7
  go_wp2_with fail
  refine (new_tab _).mono ?_
  rintro e w1 ⟨rfl, hT, hO⟩
  have HT := Lib.hid hT
  have HO := Lib.hid hO
  clear hT hO
  have HL : Hid (Lv w.heap.size (w.heap.size + 2) w1.heap.size (w1.heap.size + 1) 0 [] (-1) 0 w ((w1.alloc (.cells #[.int .i64 3, .string ⟨#[102]⟩, .int .i64 1] 32)).alloc (.cells #[.int .i64 2, .string ⟨#[98]⟩, .int .i64 0] 32))) := Lib.hid (by
    have o1 : Only (fun _ => False) w1 (w1.alloc (.cells #[.int .i64 3, .string ⟨#[102]⟩, .int .i64 1] 32)) := Only.alloc _ _ _
    have hs : (w1.alloc (.cells #[.int .i64 3, .string ⟨#[102]⟩, .int .i64 1] 32)).heap.size = w1.heap.size + 1 := by simp
    generalize hE : w1.alloc (.cells #[.int .i64 3, .string ⟨#[102]⟩, .int .i64 1] 32) = E at *
    have o2 : Only (fun _ => False) E (E.alloc (.cells #[.int .i64 2, .string ⟨#[98]⟩, .int .i64 0] 32)) := Only.alloc _ _ _
    refine ⟨HT.out.later (o1.same o2), ?_, ?_, ((HO.out.same o1).same o2).mono (fun _ _ e => e.elim)⟩
    · refine Three.only (w := E) ?_ o2 (fun e => e)
      unfold Three
      rw [← hE]
      exact heap_alloc_new _ _
    · rw [← hs]
      unfold Three
      exact heap_alloc_new _ _)
  clear HT HO
  go_upto_region 6 with fail
  generalize (w1.alloc (.cells #[.int .i64 3, .string ⟨#[102]⟩, .int .i64 1] 32)).alloc (.cells #[.int .i64 2, .string ⟨#[98]⟩, .int .i64 0] 32) = w2 at *
  generalize w1.heap.size + 1 = bb at *
  generalize w1.heap.size = bf at *
  generalize w.heap.size + 2 = b at *
  go_cut [4, 5, 6] (fun s4 s5 s6 wx => s4 = .int .i64 0 ∧ s5 = .int .i64 0 ∧ s6 = .int .i64 0 ∧ Hid (Lv w.heap.size b bf bb 3 L3 (-2) 2 w wx))
  case first =>
    go_region_held3 (fun W => W.cell? ⟨bf, 0, none⟩ = some (.int .i64 3) ∧ W.cell? ⟨bf, 1, none⟩ = some (.string ⟨#[102]⟩) ∧ W.cell? ⟨bf, 2, none⟩ = some (.int .i64 1) ∧ W.cell? ⟨bb, 0, none⟩ = some (.int .i64 2) ∧ W.cell? ⟨bb, 1, none⟩ = some (.string ⟨#[98]⟩) ∧ W.cell? ⟨bb, 2, none⟩ = some (.int .i64 0)) (with_reducible first | exact HLc.out.cells | exact HLb.out.cells | exact HLa.out.cells | exact (HL.out.later (Only.drew _ _)).cells | exact HL.out.cells) (first | (go_at_call 14; first
      | ((with_reducible refine (live_add1 (HL.out.later (Only.drew _ _)).t).mono ?_); rintro r u ⟨rfl, ht, ho⟩; have HLa := Lib.hid ((HL.out.later (Only.drew _ _)).add ht ho); clear ht ho)
      | ((with_reducible refine (live_add2 HLa.out.t).mono ?_); rintro r u2 ⟨rfl, ht, ho⟩; have HLb := Lib.hid (HLa.out.add ht ho); clear ht ho)
      | ((with_reducible refine (live_add3 HLb.out.t).mono ?_); rintro r u3 ⟨rfl, ht, ho⟩; have HLc := Lib.hid (HLb.out.add ht ho); clear ht ho)))
    all_goals
      go_wp2_with fail
      go_meet
      exact ⟨rfl, rfl, rfl, HLc⟩
  case rest =>
    obtain ⟨rfl, rfl, rfl, hC⟩ := hcut
    clear HL
    obtain ⟨x0, x1, x2, y0, y1, y2⟩ := hC.out.cells
    go_wp2_with fail
    refine (live_head hC.out.t).mono ?_
    rintro e w3 ⟨rfl, ho3⟩
    have H3 := Lib.hid (hC.out.later ho3)
    clear x0 x1 x2 y0 y1 y2 ho3
    obtain ⟨x0, x1, x2, y0, y1, y2⟩ := H3.out.cells
    go_wp2_with fail
    refine (live_next H3.out.t).mono ?_
    rintro e w4 ⟨rfl, ho4⟩
    have H4 := Lib.hid (H3.out.later ho4)
    clear x0 x1 x2 y0 y1 y2 ho4
    obtain ⟨x0, x1, x2, y0, y1, y2⟩ := H4.out.cells
    go_wp2_with fail
    refine (live_next2 H4.out.t).mono ?_
    rintro e w5 ⟨rfl, ho5⟩
    have H5 := Lib.hid (H4.out.later ho5)
    clear x0 x1 x2 y0 y1 y2 ho5
    go_wp2_with fail
    simp only [List.append]
    go_region_held3 (fun W => W.cell? ⟨bf, 0, none⟩ = some (.int .i64 3) ∧ W.cell? ⟨bf, 1, none⟩ = some (.string ⟨#[102]⟩) ∧ W.cell? ⟨bf, 2, none⟩ = some (.int .i64 1) ∧ W.cell? ⟨bb, 0, none⟩ = some (.int .i64 2) ∧ W.cell? ⟨bb, 1, none⟩ = some (.string ⟨#[98]⟩) ∧ W.cell? ⟨bb, 2, none⟩ = some (.int .i64 0)) (with_reducible first | exact HL12.out.cells | exact HL11.out.cells | exact HL10.out.cells | exact HL9.out.cells | exact HL8.out.cells | exact HL7.out.cells | exact (HL6.out.later (Only.alloc _ _ _)).cells | exact HL6.out.cells | exact ((H5.out.later (Only.alloc _ _ _)).later (Only.drew _ _)).cells | exact (H5.out.later (Only.drew _ _)).cells) (first
      | (go_at_call 9; (with_reducible refine (live_len (H5.out.later (Only.drew _ _)).t).mono ?_); rintro r u ⟨rfl, rfl⟩)
      | (go_at_call 11; first
        | ((with_reducible refine (live_all (H5.out.later (Only.drew _ _)).t).mono ?_); rintro r u6 ⟨a6, c6, rfl, hn, ho⟩; have HL6 := Lib.hid ((H5.out.later (Only.drew _ _)).later ho); have HN6 := Lib.hid hn; clear hn ho)
        | ((with_reducible refine (live_all ((H5.out.later (Only.alloc _ _ _)).later (Only.drew _ _)).t).mono ?_); rintro r u6 ⟨a6, c6, rfl, hn, ho⟩; have HL6 := Lib.hid (((H5.out.later (Only.alloc _ _ _)).later (Only.drew _ _)).later ho); have HN6 := Lib.hid hn; have HZ6 := Lib.hid (((nums_new w5).later (Only.drew _ _)).later ho); clear hn ho))
      | (go_at_call 10; first
        | ((with_reducible refine (live_same HN6.out HZ6.out).mono ?_); rintro r u7 ⟨rfl, ho⟩; have HL7 := Lib.hid (HL6.out.later ho); clear ho)
        | ((with_reducible refine (live_same (HN6.out.later (Only.alloc _ _ _)) (nums_new _)).mono ?_); rintro r u7 ⟨rfl, ho⟩; have HL7 := Lib.hid ((HL6.out.later (Only.alloc _ _ _)).later ho); clear ho))
      | (go_at_call 13; (with_reducible refine (live_drop HL7.out.t).mono ?_); rintro r u8 ⟨rfl, ho⟩; have HL8 := Lib.hid (HL7.out.later ho); clear ho)
      | (go_at_call 17; first
        | ((with_reducible refine (live_meet u8).mono ?_); rintro r u9 ⟨rfl, ho⟩; have HL9 := Lib.hid (HL8.out.later ho); clear ho)
        | ((with_reducible refine (live_apart u9).mono ?_); rintro r u10 ⟨rfl, ho⟩; have HL10 := Lib.hid (HL9.out.later ho); clear ho))
      | (go_at_call 18; (with_reducible refine (live_key u10).mono ?_); rintro r u11 ⟨rfl, ho⟩; have HL11 := Lib.hid (HL10.out.later ho); clear ho)
      | (go_at_call 19; (with_reducible refine (live_first u11).mono ?_); rintro r u12 ⟨rfl, ho⟩; have HL12 := Lib.hid (HL11.out.later ho); clear ho))
    all_goals
      go_wp2_with fail
      go_ret
      exact ⟨rfl, HL12.out.o.mono (fun k hk e => by omega)⟩
end Go.Proofs.Ythgjedcelcanbaa.idx
