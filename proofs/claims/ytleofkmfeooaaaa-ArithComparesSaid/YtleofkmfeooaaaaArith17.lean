/- Arithmetic: the law ArithEvals. -/
import Derived.Test.YtleofkmfeooaaaaArith16
namespace Go.Proofs.Ytleofkmfeooaaaa.terms
set_option maxRecDepth 100000
open Go.RowKit Go.Proofs.Ytleofkmfeooaaaa.own Go.Maps
theorem exact_zero (W : World) : Calls Try.prog 16 #[.agg #[.int .i64 0, .int .i64 0, .string ⟨#[]⟩, .slice none 0 0], .agg #[.int .i64 0, .int .i64 0, .string ⟨#[]⟩, .slice none 0 0]] W fun e w' => e = .returned (.bool true) ∧ Only (fun _ => False) W w' := by
  have := exact_any zeroT zeroT W none none 0 0 (Row.nil _ _ _) sane_zero (Row.nil _ _ _) sane_zero
  rwa [T.eqb_refl] at this
set_option maxHeartbeats 4000000 in
theorem law_evals (ao : Option Addr) (cap : Nat) (t : T) (w : World) (hl : Lies w ao t.l) (hs : t.Sane) :
    Calls Try.prog 3 #[tv t ao cap] w fun e w' => e = .returned (.bool true) ∧ Below w.heap.size w w' := by
  have HLV := Lib.hid (fun W => arithLives_any W)
  have HQ0 : Hid (Quad w.heap.size (.int .i64 t.k) (.int .i64 t.n) (.string t.s) (.slice ao t.l.length cap) (w.alloc (.cells #[.int .i64 t.k, .int .i64 t.n, .string t.s, .slice ao t.l.length cap] 24))) := Lib.hid (heap_alloc_new w _)
  have HO0 : Hid (Only (fun _ => False) w (w.alloc (.cells #[.int .i64 t.k, .int .i64 t.n, .string t.s, .slice ao t.l.length cap] 24))) := Lib.hid (Only.alloc _ _ _)
  have HLA := Lib.hid (rlarge_any t _ ao cap (hl.later HO0.out) hs)
  have HEV := Lib.hid (fun (hz : t.size ≤ 6000) (W : World) (ho : Only (fun _ => False) w W) => Eval_any t ao cap W hs (hl.later ho) (by omega))
  have HER := Lib.hid (fun (hz : t.size ≤ 6000) (W : World) (ho : Only (fun _ => False) w W) => rEval_any t ao cap W hs (hl.later ho) (by omega))
  show Calls Try.prog 3 #[.agg #[.int .i64 t.k, .int .i64 t.n, .string t.s, .slice ao t.l.length cap]] w _
  clear hl hs
  by_cases hbig : t.Big = true
  · rw [hbig] at HLA
    go_enter Try.func3, Try.ntmps3
    go_wp2_with fail
    refine HLA.out.mono ?_
    rintro e w1 ⟨rfl, ho1⟩
    have HO1 := Lib.hid (HO0.out.same ho1)
    clear ho1 HLA
    go_wp2_with fail
    refine (HLV.out _).mono ?_
    rintro e w2 ⟨rfl, ho2⟩
    have HO2 := Lib.hid (HO1.out.same ho2)
    clear ho2
    go_wp2_with fail
    go_ret
    exact ⟨rfl, HO2.out.to_below⟩
  · have hbig' : t.Big = false := by simpa using hbig
    have HFEW := Lib.hid (T.few hbig')
    rw [hbig'] at HLA
    clear hbig hbig'
    generalize evalR t = R at *
    go_enter Try.func3, Try.ntmps3
    go_wp2_with fail
    refine HLA.out.mono ?_
    rintro e w1 ⟨rfl, ho1⟩
    have HO1 := Lib.hid (HO0.out.same ho1)
    have HQ1 := Lib.hid (HQ0.out.only ho1 (fun e => e))
    obtain ⟨c0, c1, c2, c3⟩ := HQ1.out.cells
    clear ho1 HLA
    go_wp2_with fail
    have H := HEV.out HFEW.out _ HO1.out
    have HR := Lib.hid (fun W ho => HER.out HFEW.out W ho)
    clear c0 c1 c2 c3 HEV HER
    cases R with
    | num n =>
      refine H.mono ?_
      clear H
      intro e w2 h2
      obtain ⟨rfl, ho2⟩ := h2.num
      have ho := ho2.same (Only.alloc (fun _ => False) w2 (.cells #[.int .i64 0, .int .i64 0, .string ⟨#[]⟩, .slice none 0 0] 24))
      have HO2 := Lib.hid (HO1.out.same ho)
      have HQ2 := Lib.hid (HQ1.out.only ho (fun e => e))
      have HA2 : Hid (Zero w2.heap.size (w2.alloc (.cells #[.int .i64 0, .int .i64 0, .string ⟨#[]⟩, .slice none 0 0] 24))) := Lib.hid (Zero.new w2)
      clear h2 ho2 ho
      obtain ⟨c0, c1, c2, c3⟩ := HQ2.out.cells
      go_wp2_with fail
      clear c0 c1 c2 c3
      generalize w2.alloc (.cells #[.int .i64 0, .int .i64 0, .string ⟨#[]⟩, .slice none 0 0] 24) = w3 at *
      generalize w2.heap.size = b4 at *
      refine (HR.out _ HO2.out).mono ?_
      intro e w4 h4
      obtain ⟨rfl, ho4⟩ := h4.num
      have ho := ho4.same (Only.alloc (fun _ => False) w4 (.cells #[.int .i64 0, .int .i64 0, .string ⟨#[]⟩, .slice none 0 0] 24))
      have HO4 := Lib.hid (HO2.out.same ho)
      have HA4 := Lib.hid (HA2.out.only ho (fun e => e))
      have HC4 : Hid (Zero w4.heap.size (w4.alloc (.cells #[.int .i64 0, .int .i64 0, .string ⟨#[]⟩, .slice none 0 0] 24))) := Lib.hid (Zero.new w4)
      clear h4 ho4 ho
      go_wp2_with fail
      generalize w4.alloc (.cells #[.int .i64 0, .int .i64 0, .string ⟨#[]⟩, .slice none 0 0] 24) = w5 at *
      generalize w4.heap.size = b7 at *
      refine (HLV.out _).mono ?_
      rintro e w6 ⟨rfl, ho6⟩
      have HO6 := Lib.hid (HO4.out.same ho6)
      obtain ⟨c0, c1, c2, c3⟩ := (HA4.out.only ho6 (fun e => e)).cells
      obtain ⟨d0, d1, d2, d3⟩ := (HC4.out.only ho6 (fun e => e)).cells
      clear ho6
      go_wp2_with fail
      refine (exact_zero _).mono ?_
      rintro e w7 ⟨rfl, ho7⟩
      have HO7 := Lib.hid (HO6.out.same ho7)
      clear ho7 c0 c1 c2 c3 d0 d1 d2 d3
      go_wp2_with fail
      go_ret
      exact ⟨rfl, HO7.out.to_below⟩
    | ball x =>
      refine H.mono ?_
      clear H
      intro e w2 h2
      obtain ⟨a2, p2, rfl, hl2, ho2⟩ := h2.ball
      have ho := ho2.same (Only.alloc (fun _ => False) w2 (.cells #[.int .i64 4, .int .i64 0, .string nError, .slice a2 1 p2] 24))
      have HO2 := Lib.hid (HO1.out.same ho)
      have HQ2 := Lib.hid (HQ1.out.only ho (fun e => e))
      have HA2 := Lib.hid (BallAt.new p2 hl2)
      clear h2 ho2 ho hl2
      obtain ⟨c0, c1, c2, c3⟩ := HQ2.out.cells
      go_wp2_with fail
      clear c0 c1 c2 c3
      generalize w2.alloc (.cells #[.int .i64 4, .int .i64 0, .string nError, .slice a2 1 p2] 24) = w3 at *
      generalize w2.heap.size = b4 at *
      refine (HR.out _ HO2.out).mono ?_
      intro e w4 h4
      obtain ⟨a4, p4, rfl, hl4, ho4⟩ := h4.ball
      have ho := ho4.same (Only.alloc (fun _ => False) w4 (.cells #[.int .i64 4, .int .i64 0, .string nError, .slice a4 1 p4] 24))
      have HO4 := Lib.hid (HO2.out.same ho)
      have HA4 := Lib.hid (HA2.out.later ho)
      have HC4 := Lib.hid (BallAt.new p4 hl4)
      clear h4 ho4 ho hl4
      go_wp2_with fail
      generalize w4.alloc (.cells #[.int .i64 4, .int .i64 0, .string nError, .slice a4 1 p4] 24) = w5 at *
      generalize w4.heap.size = b7 at *
      refine (HLV.out _).mono ?_
      rintro e w6 ⟨rfl, ho6⟩
      have HO6 := Lib.hid (HO4.out.same ho6)
      have HA6 := Lib.hid (HA4.out.later ho6)
      have HC6 := Lib.hid (HC4.out.later ho6)
      obtain ⟨c0, c1, c2, c3⟩ := HA6.out.q.cells
      obtain ⟨d0, d1, d2, d3⟩ := HC6.out.q.cells
      clear ho6
      go_wp2_with fail
      refine (exact_ball x _ _ _ _ _ HA6.out.l HC6.out.l).mono ?_
      rintro e w7 ⟨rfl, ho7⟩
      have HO7 := Lib.hid (HO6.out.same ho7)
      clear ho7 c0 c1 c2 c3 d0 d1 d2 d3
      go_wp2_with fail
      go_ret
      exact ⟨rfl, HO7.out.to_below⟩
end Go.Proofs.Ytleofkmfeooaaaa.terms
