/- Arithmetic: the law ArithCompares. -/
import Derived.Test.YtleofkmfeooaaaaArith18
namespace Go.Proofs.Ytleofkmfeooaaaa.terms
set_option maxRecDepth 100000
open Go.RowKit Go.Proofs.Ytleofkmfeooaaaa.own Go.Maps
abbrev boxesW (w : World) (t u : T) (ao bo : Option Addr) (cap bcap : Nat) : World := (w.alloc (.cells #[.int .i64 t.k, .int .i64 t.n, .string t.s, .slice ao t.l.length cap] 24)).alloc (.cells #[.int .i64 u.k, .int .i64 u.n, .string u.s, .slice bo u.l.length bcap] 24)
theorem boxesW_only (w : World) (t u : T) (ao bo : Option Addr) (cap bcap : Nat) : Only (fun _ => False) w (boxesW w t u ao bo cap bcap) := (Only.alloc _ _ _).same (Only.alloc _ _ _)
theorem boxesW_first (w : World) (t u : T) (ao bo : Option Addr) (cap bcap : Nat) : Quad w.heap.size (.int .i64 t.k) (.int .i64 t.n) (.string t.s) (.slice ao t.l.length cap) (boxesW w t u ao bo cap bcap) := Quad.only (b := w.heap.size) (heap_alloc_new w _) (Only.alloc (fun _ => False) _ _) (fun e => e)
theorem boxesW_second (w : World) (t u : T) (ao bo : Option Addr) (cap bcap : Nat) : Quad (w.heap.size + 1) (.int .i64 u.k) (.int .i64 u.n) (.string u.s) (.slice bo u.l.length bcap) (boxesW w t u ao bo cap bcap) := by
  have h := heap_alloc_new (w.alloc (.cells #[.int .i64 t.k, .int .i64 t.n, .string t.s, .slice ao t.l.length cap] 24)) (.cells #[.int .i64 u.k, .int .i64 u.n, .string u.s, .slice bo u.l.length bcap] 24)
  rwa [show (w.alloc (.cells #[.int .i64 t.k, .int .i64 t.n, .string t.s, .slice ao t.l.length cap] 24)).heap.size = w.heap.size + 1 by simp] at h
set_option maxHeartbeats 8000000 in
theorem law_compares (s : ByteArray) (ao bo : Option Addr) (cap bcap : Nat) (t u : T) (w : World) (hl : Lies w ao t.l) (hs : t.Sane) (hl' : Lies w bo u.l) (hs' : u.Sane) :
    Calls Try.prog 4 #[.string s, tv t ao cap, tv u bo bcap] w fun e w' => e = .returned (.bool true) ∧ Below w.heap.size w w' := by
  have HLV := Lib.hid (fun W => arithLives_any W)
  have HB0 := Lib.hid (boxesW_first w t u ao bo cap bcap)
  have HU0 := Lib.hid (boxesW_second w t u ao bo cap bcap)
  have HO0 := Lib.hid (boxesW_only w t u ao bo cap bcap)
  have HLA := Lib.hid (fun (W : World) (ho : Only (fun _ => False) w W) => rlarge_any t W ao cap (hl.later ho) hs)
  have HLB := Lib.hid (fun (W : World) (ho : Only (fun _ => False) w W) => rlarge_any u W bo bcap (hl'.later ho) hs')
  have HCM := Lib.hid (fun (hz : t.size ≤ 6000) (hz' : u.size ≤ 6000) (W : World) (ho : Only (fun _ => False) w W) => Compare_any s t u ao bo cap bcap W hs (hl.later ho) (by omega) hs' (hl'.later ho) (by omega))
  have HET := Lib.hid (fun (hz : t.size ≤ 6000) (W : World) (ho : Only (fun _ => False) w W) => rEval_any t ao cap W hs (hl.later ho) (by omega))
  have HEU := Lib.hid (fun (hz : u.size ≤ 6000) (W : World) (ho : Only (fun _ => False) w W) => rEval_any u bo bcap W hs' (hl'.later ho) (by omega))
  obtain ⟨c0, c1, c2, c3⟩ := HB0.out.cells
  show Calls Try.prog 4 #[.string s, .agg #[.int .i64 t.k, .int .i64 t.n, .string t.s, .slice ao t.l.length cap], .agg #[.int .i64 u.k, .int .i64 u.n, .string u.s, .slice bo u.l.length bcap]] w _
  clear hl hs hl' hs'
  by_cases hbig : t.Big = true
  · rw [hbig] at HLA
    go_enter Try.func4, Try.ntmps4
    go_wp2_with fail
    refine (HLA.out _ HO0.out).mono ?_
    rintro e w1 ⟨rfl, ho⟩
    have HO1 := Lib.hid (HO0.out.same ho)
    clear ho c0 c1 c2 c3
    go_wp2_with fail
    refine (HLV.out _).mono ?_
    rintro e w9 ⟨rfl, ho9⟩
    have HO9 := Lib.hid (HO1.out.same ho9)
    clear ho9
    go_wp2_with fail
    go_ret
    exact ⟨rfl, HO9.out.to_below⟩
  · have hbig' : t.Big = false := by simpa using hbig
    have HFT := Lib.hid (T.few hbig')
    rw [hbig'] at HLA
    clear hbig hbig'
    by_cases hbig : u.Big = true
    · rw [hbig] at HLB
      go_enter Try.func4, Try.ntmps4
      go_wp2_with fail
      refine (HLA.out _ HO0.out).mono ?_
      rintro e w1 ⟨rfl, ho⟩
      have HO1 := Lib.hid (HO0.out.same ho)
      have HU1 := Lib.hid (HU0.out.only ho (fun e => e))
      have HB1 := Lib.hid (HB0.out.only ho (fun e => e))
      clear ho c0 c1 c2 c3
      obtain ⟨c0, c1, c2, c3⟩ := HU1.out.cells
      go_wp2_with fail
      refine (HLB.out _ HO1.out).mono ?_
      rintro e w2 ⟨rfl, ho⟩
      have HO2 := Lib.hid (HO1.out.same ho)
      have HU2 := Lib.hid (HU1.out.only ho (fun e => e))
      have HB2 := Lib.hid (HB1.out.only ho (fun e => e))
      clear ho c0 c1 c2 c3
      go_wp2_with fail
      refine (HLV.out _).mono ?_
      rintro e w9 ⟨rfl, ho9⟩
      have HO9 := Lib.hid (HO2.out.same ho9)
      clear ho9
      go_wp2_with fail
      go_ret
      exact ⟨rfl, HO9.out.to_below⟩
    · have hbig' : u.Big = false := by simpa using hbig
      have HFU := Lib.hid (T.few hbig')
      rw [hbig'] at HLB
      clear hbig hbig'
      by_cases hlen : (1000 : Int) < (s.size : Int)
      · go_enter Try.func4, Try.ntmps4
        go_wp2_with fail
        refine (HLA.out _ HO0.out).mono ?_
        rintro e w1 ⟨rfl, ho⟩
        have HO1 := Lib.hid (HO0.out.same ho)
        have HU1 := Lib.hid (HU0.out.only ho (fun e => e))
        have HB1 := Lib.hid (HB0.out.only ho (fun e => e))
        clear ho c0 c1 c2 c3
        obtain ⟨c0, c1, c2, c3⟩ := HU1.out.cells
        go_wp2_with fail
        refine (HLB.out _ HO1.out).mono ?_
        rintro e w2 ⟨rfl, ho⟩
        have HO2 := Lib.hid (HO1.out.same ho)
        have HU2 := Lib.hid (HU1.out.only ho (fun e => e))
        have HB2 := Lib.hid (HB1.out.only ho (fun e => e))
        clear ho c0 c1 c2 c3
        go_wp2_with fail
        refine (HLV.out _).mono ?_
        rintro e w9 ⟨rfl, ho9⟩
        have HO9 := Lib.hid (HO2.out.same ho9)
        clear ho9
        go_wp2_with fail
        go_ret
        exact ⟨rfl, HO9.out.to_below⟩
      · have hlen2 : (s.size : Int) ≤ 1000 := by omega
        clear hlen
        have HC2 := Lib.hid (fun W ho => HCM.out HFT.out HFU.out W ho)
        have HT2 := Lib.hid (fun W ho => HET.out HFT.out W ho)
        have HV2 := Lib.hid (fun W ho => HEU.out HFU.out W ho)
        clear HCM HET HEU
        by_cases hk : relK s = false
        · have HKN := Lib.hid (fun W => Known_no s W hk)
          rw [cmpF_no t u hk] at HC2
          clear hk
          go_enter Try.func4, Try.ntmps4
          go_wp2_with fail
          refine (HLA.out _ HO0.out).mono ?_
          rintro e w1 ⟨rfl, ho⟩
          have HO1 := Lib.hid (HO0.out.same ho)
          have HU1 := Lib.hid (HU0.out.only ho (fun e => e))
          have HB1 := Lib.hid (HB0.out.only ho (fun e => e))
          clear ho c0 c1 c2 c3
          obtain ⟨c0, c1, c2, c3⟩ := HU1.out.cells
          go_wp2_with fail
          refine (HLB.out _ HO1.out).mono ?_
          rintro e w2 ⟨rfl, ho⟩
          have HO2 := Lib.hid (HO1.out.same ho)
          have HU2 := Lib.hid (HU1.out.only ho (fun e => e))
          have HB2 := Lib.hid (HB1.out.only ho (fun e => e))
          clear ho c0 c1 c2 c3
          obtain ⟨c0, c1, c2, c3⟩ := HB2.out.cells
          obtain ⟨d0, d1, d2, d3⟩ := HU2.out.cells
          go_wp2_with fail
          clear c0 c1 c2 c3 d0 d1 d2 d3
          refine (HC2.out _ HO2.out).mono ?_
          intro e w3 h3
          obtain ⟨rfl, ho3⟩ := h3.val
          have ho := ho3.same (Only.alloc (fun _ => False) w3 (.cells #[.int .i64 0, .int .i64 0, .string ⟨#[]⟩, .slice none 0 0] 24))
          have HA3 : Hid (Zero w3.heap.size (w3.alloc (.cells #[.int .i64 0, .int .i64 0, .string ⟨#[]⟩, .slice none 0 0] 24))) := Lib.hid (Zero.new w3)
          have HO3 := Lib.hid (HO2.out.same ho)
          have HB3 := Lib.hid (HB2.out.only ho (fun e => e))
          have HU3 := Lib.hid (HU2.out.only ho (fun e => e))
          clear h3 ho3 ho
          go_wp2_with fail
          generalize w3.alloc (.cells #[.int .i64 0, .int .i64 0, .string ⟨#[]⟩, .slice none 0 0] 24) = w4 at *
          generalize w3.heap.size = b8 at *
          refine (HLV.out _).mono ?_
          rintro e w5 ⟨rfl, ho5⟩
          have HO5 := Lib.hid (HO3.out.same ho5)
          have HB5 := Lib.hid (HB3.out.only ho5 (fun e => e))
          have HU5 := Lib.hid (HU3.out.only ho5 (fun e => e))
          have HA5 := Lib.hid (HA3.out.only ho5 (fun e => e))
          clear ho5
          obtain ⟨c0, c1, c2, c3⟩ := HB5.out.cells
          go_wp2_with fail
          refine (HKN.out _).mono ?_
          rintro e w6 ⟨rfl, rfl⟩
          obtain ⟨g0, g1, g2, g3⟩ := HA5.out.cells
          go_wp2_with fail
          go_ret
          exact ⟨rfl, HO5.out.to_below⟩
        · have hk2 : relK s = true := by simpa using hk
          have HKN := Lib.hid (fun W => Known_yes s W hk2)
          have HHO := Lib.hid (fun a b W => Holds_any s a b W hk2)
          cases hr : evalR t with
          | ball x =>
            rw [cmpF_first u hk2 hr] at HC2
            clear hk hk2
            go_enter Try.func4, Try.ntmps4
            go_wp2_with fail
            refine (HLA.out _ HO0.out).mono ?_
            rintro e w1 ⟨rfl, ho⟩
            have HO1 := Lib.hid (HO0.out.same ho)
            have HU1 := Lib.hid (HU0.out.only ho (fun e => e))
            have HB1 := Lib.hid (HB0.out.only ho (fun e => e))
            clear ho c0 c1 c2 c3
            obtain ⟨c0, c1, c2, c3⟩ := HU1.out.cells
            go_wp2_with fail
            refine (HLB.out _ HO1.out).mono ?_
            rintro e w2 ⟨rfl, ho⟩
            have HO2 := Lib.hid (HO1.out.same ho)
            have HU2 := Lib.hid (HU1.out.only ho (fun e => e))
            have HB2 := Lib.hid (HB1.out.only ho (fun e => e))
            clear ho c0 c1 c2 c3
            obtain ⟨c0, c1, c2, c3⟩ := HB2.out.cells
            obtain ⟨d0, d1, d2, d3⟩ := HU2.out.cells
            go_wp2_with fail
            clear c0 c1 c2 c3 d0 d1 d2 d3
            refine (HC2.out _ HO2.out).mono ?_
            intro e w3 h3
            obtain ⟨a3, p3, rfl, hl3, ho3⟩ := h3.ball
            have ho := ho3.same (Only.alloc (fun _ => False) w3 (.cells #[.int .i64 4, .int .i64 0, .string nError, .slice a3 1 p3] 24))
            have HA3 := Lib.hid (BallAt.new p3 hl3)
            clear hl3
            have HO3 := Lib.hid (HO2.out.same ho)
            have HB3 := Lib.hid (HB2.out.only ho (fun e => e))
            have HU3 := Lib.hid (HU2.out.only ho (fun e => e))
            clear h3 ho3 ho
            go_wp2_with fail
            generalize w3.alloc (.cells #[.int .i64 4, .int .i64 0, .string nError, .slice a3 1 p3] 24) = w4 at *
            generalize w3.heap.size = b8 at *
            refine (HLV.out _).mono ?_
            rintro e w5 ⟨rfl, ho5⟩
            have HO5 := Lib.hid (HO3.out.same ho5)
            have HB5 := Lib.hid (HB3.out.only ho5 (fun e => e))
            have HU5 := Lib.hid (HU3.out.only ho5 (fun e => e))
            have HA5 := Lib.hid (HA3.out.later ho5)
            clear ho5
            obtain ⟨c0, c1, c2, c3⟩ := HB5.out.cells
            go_wp2_with fail
            refine (HKN.out _).mono ?_
            rintro e w6 ⟨rfl, rfl⟩
            go_wp2_with fail
            clear c0 c1 c2 c3
            have H := HT2.out _ HO5.out
            rw [hr] at H
            refine H.mono ?_
            clear H
            intro e w7 h7
            obtain ⟨a7, p7, rfl, hl7, ho7⟩ := h7.ball
            have ho := ho7.same (Only.alloc (fun _ => False) w7 (.cells #[.int .i64 4, .int .i64 0, .string nError, .slice a7 1 p7] 24))
            have HX7 := Lib.hid (BallAt.new p7 hl7)
            clear hl7
            have HO7 := Lib.hid (HO5.out.same ho)
            have HA7 := Lib.hid (HA5.out.later ho)
            clear h7 ho7 ho
            obtain ⟨g0, g1, g2, g3⟩ := HA7.out.q.cells
            obtain ⟨d0, d1, d2, d3⟩ := HX7.out.q.cells
            go_wp2_with fail
            refine (exact_ball _ _ _ _ _ _ HA7.out.l HX7.out.l).mono ?_
            rintro e w9 ⟨rfl, ho9⟩
            have HO9 := Lib.hid (HO7.out.same ho9)
            clear ho9 g0 g1 g2 g3 d0 d1 d2 d3
            go_wp2_with fail
            go_ret
            exact ⟨rfl, HO9.out.to_below⟩
          | num a =>
            cases hr2 : evalR u with
            | ball x =>
              rw [cmpF_second hk2 hr hr2] at HC2
              clear hk hk2
              go_enter Try.func4, Try.ntmps4
              go_wp2_with fail
              refine (HLA.out _ HO0.out).mono ?_
              rintro e w1 ⟨rfl, ho⟩
              have HO1 := Lib.hid (HO0.out.same ho)
              have HU1 := Lib.hid (HU0.out.only ho (fun e => e))
              have HB1 := Lib.hid (HB0.out.only ho (fun e => e))
              clear ho c0 c1 c2 c3
              obtain ⟨c0, c1, c2, c3⟩ := HU1.out.cells
              go_wp2_with fail
              refine (HLB.out _ HO1.out).mono ?_
              rintro e w2 ⟨rfl, ho⟩
              have HO2 := Lib.hid (HO1.out.same ho)
              have HU2 := Lib.hid (HU1.out.only ho (fun e => e))
              have HB2 := Lib.hid (HB1.out.only ho (fun e => e))
              clear ho c0 c1 c2 c3
              obtain ⟨c0, c1, c2, c3⟩ := HB2.out.cells
              obtain ⟨d0, d1, d2, d3⟩ := HU2.out.cells
              go_wp2_with fail
              clear c0 c1 c2 c3 d0 d1 d2 d3
              refine (HC2.out _ HO2.out).mono ?_
              intro e w3 h3
              obtain ⟨a3, p3, rfl, hl3, ho3⟩ := h3.ball
              have ho := ho3.same (Only.alloc (fun _ => False) w3 (.cells #[.int .i64 4, .int .i64 0, .string nError, .slice a3 1 p3] 24))
              have HA3 := Lib.hid (BallAt.new p3 hl3)
              clear hl3
              have HO3 := Lib.hid (HO2.out.same ho)
              have HB3 := Lib.hid (HB2.out.only ho (fun e => e))
              have HU3 := Lib.hid (HU2.out.only ho (fun e => e))
              clear h3 ho3 ho
              go_wp2_with fail
              generalize w3.alloc (.cells #[.int .i64 4, .int .i64 0, .string nError, .slice a3 1 p3] 24) = w4 at *
              generalize w3.heap.size = b8 at *
              refine (HLV.out _).mono ?_
              rintro e w5 ⟨rfl, ho5⟩
              have HO5 := Lib.hid (HO3.out.same ho5)
              have HB5 := Lib.hid (HB3.out.only ho5 (fun e => e))
              have HU5 := Lib.hid (HU3.out.only ho5 (fun e => e))
              have HA5 := Lib.hid (HA3.out.later ho5)
              clear ho5
              obtain ⟨c0, c1, c2, c3⟩ := HB5.out.cells
              go_wp2_with fail
              refine (HKN.out _).mono ?_
              rintro e w6 ⟨rfl, rfl⟩
              go_wp2_with fail
              clear c0 c1 c2 c3
              have H := HT2.out _ HO5.out
              rw [hr] at H
              refine H.mono ?_
              clear H
              intro e w7 h7
              obtain ⟨rfl, ho7⟩ := h7.num
              have ho := ho7.same (Only.alloc (fun _ => False) w7 (.cells #[.int .i64 0, .int .i64 0, .string ⟨#[]⟩, .slice none 0 0] 24))
              have HO7 := Lib.hid (HO5.out.same ho)
              have HU7 := Lib.hid (HU5.out.only ho (fun e => e))
              have HA7 := Lib.hid (HA5.out.later ho)
              clear h7 ho7 ho
              obtain ⟨c0, c1, c2, c3⟩ := HU7.out.cells
              go_wp2_with fail
              clear c0 c1 c2 c3
              generalize w7.alloc (.cells #[.int .i64 0, .int .i64 0, .string ⟨#[]⟩, .slice none 0 0] 24) = w8 at *
              generalize w7.heap.size = b11 at *
              have H := HV2.out _ HO7.out
              rw [hr2] at H
              refine H.mono ?_
              clear H
              intro e w10 h10
              obtain ⟨a10, p10, rfl, hl10, ho10⟩ := h10.ball
              have ho := ho10.same (Only.alloc (fun _ => False) w10 (.cells #[.int .i64 4, .int .i64 0, .string nError, .slice a10 1 p10] 24))
              have HX10 := Lib.hid (BallAt.new p10 hl10)
              clear hl10
              have HO10 := Lib.hid (HO7.out.same ho)
              have HA10 := Lib.hid (HA7.out.later ho)
              clear h10 ho10 ho
              obtain ⟨g0, g1, g2, g3⟩ := HA10.out.q.cells
              obtain ⟨d0, d1, d2, d3⟩ := HX10.out.q.cells
              go_wp2_with fail
              refine (exact_ball _ _ _ _ _ _ HA10.out.l HX10.out.l).mono ?_
              rintro e w9 ⟨rfl, ho9⟩
              have HO9 := Lib.hid (HO10.out.same ho9)
              clear ho9 g0 g1 g2 g3 d0 d1 d2 d3
              go_wp2_with fail
              go_ret
              exact ⟨rfl, HO9.out.to_below⟩
            | num b =>
              rw [cmpF_both hk2 hr hr2] at HC2
              clear hk hk2
              go_enter Try.func4, Try.ntmps4
              go_wp2_with fail
              refine (HLA.out _ HO0.out).mono ?_
              rintro e w1 ⟨rfl, ho⟩
              have HO1 := Lib.hid (HO0.out.same ho)
              have HU1 := Lib.hid (HU0.out.only ho (fun e => e))
              have HB1 := Lib.hid (HB0.out.only ho (fun e => e))
              clear ho c0 c1 c2 c3
              obtain ⟨c0, c1, c2, c3⟩ := HU1.out.cells
              go_wp2_with fail
              refine (HLB.out _ HO1.out).mono ?_
              rintro e w2 ⟨rfl, ho⟩
              have HO2 := Lib.hid (HO1.out.same ho)
              have HU2 := Lib.hid (HU1.out.only ho (fun e => e))
              have HB2 := Lib.hid (HB1.out.only ho (fun e => e))
              clear ho c0 c1 c2 c3
              obtain ⟨c0, c1, c2, c3⟩ := HB2.out.cells
              obtain ⟨d0, d1, d2, d3⟩ := HU2.out.cells
              go_wp2_with fail
              clear c0 c1 c2 c3 d0 d1 d2 d3
              refine (HC2.out _ HO2.out).mono ?_
              intro e w3 h3
              obtain ⟨rfl, ho3⟩ := h3.val
              have ho := ho3.same (Only.alloc (fun _ => False) w3 (.cells #[.int .i64 0, .int .i64 0, .string ⟨#[]⟩, .slice none 0 0] 24))
              have HA3 : Hid (Zero w3.heap.size (w3.alloc (.cells #[.int .i64 0, .int .i64 0, .string ⟨#[]⟩, .slice none 0 0] 24))) := Lib.hid (Zero.new w3)
              have HO3 := Lib.hid (HO2.out.same ho)
              have HB3 := Lib.hid (HB2.out.only ho (fun e => e))
              have HU3 := Lib.hid (HU2.out.only ho (fun e => e))
              clear h3 ho3 ho
              go_wp2_with fail
              generalize w3.alloc (.cells #[.int .i64 0, .int .i64 0, .string ⟨#[]⟩, .slice none 0 0] 24) = w4 at *
              generalize w3.heap.size = b8 at *
              refine (HLV.out _).mono ?_
              rintro e w5 ⟨rfl, ho5⟩
              have HO5 := Lib.hid (HO3.out.same ho5)
              have HB5 := Lib.hid (HB3.out.only ho5 (fun e => e))
              have HU5 := Lib.hid (HU3.out.only ho5 (fun e => e))
              have HA5 := Lib.hid (HA3.out.only ho5 (fun e => e))
              clear ho5
              obtain ⟨c0, c1, c2, c3⟩ := HB5.out.cells
              go_wp2_with fail
              refine (HKN.out _).mono ?_
              rintro e w6 ⟨rfl, rfl⟩
              go_wp2_with fail
              clear c0 c1 c2 c3
              have H := HT2.out _ HO5.out
              rw [hr] at H
              refine H.mono ?_
              clear H
              intro e w7 h7
              obtain ⟨rfl, ho7⟩ := h7.num
              have ho := ho7.same (Only.alloc (fun _ => False) w7 (.cells #[.int .i64 0, .int .i64 0, .string ⟨#[]⟩, .slice none 0 0] 24))
              have HO7 := Lib.hid (HO5.out.same ho)
              have HU7 := Lib.hid (HU5.out.only ho (fun e => e))
              have HA7 := Lib.hid (HA5.out.only ho (fun e => e))
              clear h7 ho7 ho
              obtain ⟨c0, c1, c2, c3⟩ := HU7.out.cells
              go_wp2_with fail
              clear c0 c1 c2 c3
              generalize w7.alloc (.cells #[.int .i64 0, .int .i64 0, .string ⟨#[]⟩, .slice none 0 0] 24) = w8 at *
              generalize w7.heap.size = b11 at *
              have H := HV2.out _ HO7.out
              rw [hr2] at H
              refine H.mono ?_
              clear H
              intro e w10 h10
              obtain ⟨rfl, ho10⟩ := h10.num
              have ho := ho10.same (Only.alloc (fun _ => False) w10 (.cells #[.int .i64 0, .int .i64 0, .string ⟨#[]⟩, .slice none 0 0] 24))
              have HO10 := Lib.hid (HO7.out.same ho)
              have HA10 := Lib.hid (HA7.out.only ho (fun e => e))
              clear h10 ho10 ho
              obtain ⟨g0, g1, g2, g3⟩ := HA10.out.cells
              go_wp2_with fail
              refine (HHO.out _ _ _).mono ?_
              rintro e w11 ⟨rfl, rfl⟩
              go_wp2_with fail
              go_ret
              exact ⟨by simp, HO10.out.to_below⟩
end Go.Proofs.Ytleofkmfeooaaaa.terms
