/- Order: the law OrderSame. -/
import Derived.Test.YtgedhmnkhoajbaaOrder11
import Derived.Test.YtgedhmnkhoajbaaOrder12
namespace Go.Proofs.Ytgedhmnkhoajbaa.orders
open Go.RowKit Go.Proofs.Ytgedhmnkhoajbaa.own Go.Maps Go.Proofs.Ytgedhmnkhoajbaa.terms
theorem box_two (w : World) (t u : T) (ao bo : Option Addr) (cap bcap : Nat) (hl : Lies w ao t.l) (hl' : Lies w bo u.l) : Two w t u ao bo cap bcap ((w.alloc (.cells #[.int .i64 t.k, .int .i64 t.n, .string t.s, .slice ao t.l.length cap] 24)).alloc (.cells #[.int .i64 u.k, .int .i64 u.n, .string u.s, .slice bo u.l.length bcap] 24)) := Two.new hl hl'
set_option maxRecDepth 100000 in
set_option maxHeartbeats 8000000 in
theorem law_same (ao bo : Option Addr) (cap bcap : Nat) (t u : T) (w : World) (hl : Lies w ao t.l) (hs : t.Sane) (hl' : Lies w bo u.l) (hs' : u.Sane) :
    Calls Try.prog 6 #[tv t ao cap, tv u bo bcap] w fun e w' => e = .returned (.bool true) ∧ Below w.heap.size w w' := by
  have HB0 := Lib.hid (box_two w t u ao bo cap bcap hl hl')
  have HLV : Hid (∀ w1, Calls Try.prog 9 #[] w1 fun e w' => e = .returned (.bool true) ∧ Only (fun _ => False) w1 w') := Lib.hid (fun w1 => lives_any w1)
  have HLA : Hid (∀ w1, Only (fun _ => False) w w1 → Calls Try.prog 8 #[tv t ao cap] w1 fun e w' => e = .returned (.bool t.Big) ∧ Only (fun _ => False) w1 w') := Lib.hid (fun w1 ho => rlarge_any t w1 ao cap (hl.later ho) hs)
  have HLB : Hid (∀ w1, Only (fun _ => False) w w1 → Calls Try.prog 8 #[tv u bo bcap] w1 fun e w' => e = .returned (.bool u.Big) ∧ Only (fun _ => False) w1 w') := Lib.hid (fun w1 ho => rlarge_any u w1 bo bcap (hl'.later ho) hs')
  have HEX : Hid (∀ w1, Only (fun _ => False) w w1 → Calls Try.prog 21 #[tv t ao cap, tv u bo bcap] w1 fun e w' => e = .returned (.bool (t.eqb u)) ∧ Only (fun _ => False) w1 w') := Lib.hid (fun w1 ho => exact_any t u w1 ao bo cap bcap (hl.later ho) hs (hl'.later ho) hs')
  have HCM : Hid (t.Big = false → u.Big = false → ∀ w1, Only (fun _ => False) w w1 → Calls Try.prog 10 #[tv t ao cap, tv u bo bcap] w1 fun e w' => (∃ n c : Int, e = .returned (.tuple #[.int .i64 n, .int .i64 c]) ∧ (c = 0 → (n == 0) = t.eqb u)) ∧ Only (fun _ => False) w1 w') := Lib.hid (fun h h' w1 ho => (Compare_any t u w1 ao bo cap bcap (hl.later ho) hs (hl'.later ho) hs' (by have := T.few h; omega) (by have := T.few h'; omega)).mono (fun e w' hq => by
    obtain ⟨⟨n, c, h1, h2, h3, h4⟩, ho2⟩ := hq
    refine ⟨⟨n, c, h1, fun hc => ?_⟩, ho2⟩
    by_cases hok : t.Ok ∧ u.Ok
    · cases hm : (meetF t u).2 with
      | true => have := (h2 hok hm).2; omega
      | false =>
        rw [(h3 hok hm).1]
        exact meet_zero hok.1.right hok.2.right
    · exact absurd hc (h4 hok).2))
  clear hl hs hl' hs'
  cases hbig : t.Big with
  | true =>
    rw [hbig] at HLA
    clear HCM HLB HEX hbig
    go_enter Try.func6, Try.ntmps6
    go_wp2_with fail
    generalize ((w.alloc (.cells #[.int .i64 t.k, .int .i64 t.n, .string t.s, .slice ao t.l.length cap] 24)).alloc (.cells #[.int .i64 u.k, .int .i64 u.n, .string u.s, .slice bo u.l.length bcap] 24)) = w0 at *
    refine (HLA.out _ HB0.out.o).mono ?_
    rintro e w1 ⟨rfl, ho1⟩
    have HO1 := Lib.hid (HB0.out.o.same ho1)
    clear ho1 HLA
    go_wp2_with fail
    refine (HLV.out _).mono ?_
    rintro e w2 ⟨rfl, ho2⟩
    have HO2 := Lib.hid (HO1.out.same ho2)
    clear ho2
    go_wp2_with fail
    go_ret
    exact ⟨rfl, HO2.out.to_below⟩
  | false =>
    rw [hbig] at HLA
    cases hbigu : u.Big with
    | true =>
      rw [hbigu] at HLB
      clear HCM HEX hbig hbigu
      go_enter Try.func6, Try.ntmps6
      go_wp2_with fail
      generalize ((w.alloc (.cells #[.int .i64 t.k, .int .i64 t.n, .string t.s, .slice ao t.l.length cap] 24)).alloc (.cells #[.int .i64 u.k, .int .i64 u.n, .string u.s, .slice bo u.l.length bcap] 24)) = w0 at *
      refine (HLA.out _ HB0.out.o).mono ?_
      rintro e w1 ⟨rfl, ho1⟩
      have HB1 := Lib.hid (HB0.out.later ho1)
      clear ho1 HLA
      obtain ⟨c0, c1, c2, c3⟩ := HB1.out.u.q.cells
      go_wp2_with fail
      refine (HLB.out _ HB1.out.o).mono ?_
      rintro e w3 ⟨rfl, ho3⟩
      have HO3 := Lib.hid (HB1.out.o.same ho3)
      clear ho3 c0 c1 c2 c3
      go_wp2_with fail
      refine (HLV.out _).mono ?_
      rintro e w2 ⟨rfl, ho2⟩
      have HO2 := Lib.hid (HO3.out.same ho2)
      clear ho2
      go_wp2_with fail
      go_ret
      exact ⟨rfl, HO2.out.to_below⟩
    | false =>
      rw [hbigu] at HLB
      have HCO := Lib.hid (HCM.out hbig hbigu)
      generalize t.eqb u = q at *
      clear HCM hbig hbigu
      go_enter Try.func6, Try.ntmps6
      go_wp2_with fail
      generalize ((w.alloc (.cells #[.int .i64 t.k, .int .i64 t.n, .string t.s, .slice ao t.l.length cap] 24)).alloc (.cells #[.int .i64 u.k, .int .i64 u.n, .string u.s, .slice bo u.l.length bcap] 24)) = w0 at *
      refine (HLA.out _ HB0.out.o).mono ?_
      rintro e w1 ⟨rfl, ho1⟩
      have HB1 := Lib.hid (HB0.out.later ho1)
      clear ho1 HLA HB0
      obtain ⟨c0, c1, c2, c3⟩ := HB1.out.u.q.cells
      go_wp2_with fail
      refine (HLB.out _ HB1.out.o).mono ?_
      rintro e w2 ⟨rfl, ho2⟩
      have HB2 := Lib.hid (HB1.out.later ho2)
      clear ho2 HLB HB1 c0 c1 c2 c3
      obtain ⟨c0, c1, c2, c3⟩ := HB2.out.t.q.cells
      obtain ⟨d0, d1, d2, d3⟩ := HB2.out.u.q.cells
      go_wp2_with fail
      refine (HCO.out _ HB2.out.o).mono ?_
      rintro e w3 ⟨⟨n, c, rfl, hc⟩, ho3⟩
      have HC := Lib.hid hc
      have HB3 := Lib.hid (HB2.out.later ho3)
      clear hc ho3 HB2 HCO c0 c1 c2 c3 d0 d1 d2 d3
      go_wp2_with fail
      refine (HLV.out _).mono ?_
      rintro e w4 ⟨rfl, ho4⟩
      have HB4 := Lib.hid (HB3.out.later ho4)
      clear ho4 HB3
      by_cases hc0 : c = 0
      · have HQ := Lib.hid (HC.out hc0)
        subst hc0
        obtain ⟨c0, c1, c2, c3⟩ := HB4.out.t.q.cells
        obtain ⟨d0, d1, d2, d3⟩ := HB4.out.u.q.cells
        go_wp2_with fail
        refine (HEX.out _ HB4.out.o).mono ?_
        rintro e w5 ⟨rfl, ho5⟩
        have HO5 := Lib.hid (HB4.out.o.same ho5)
        clear ho5 c0 c1 c2 c3 d0 d1 d2 d3
        go_wp2_with fail
        go_ret
        exact ⟨by rw [HQ.out]; simp, HO5.out.to_below⟩
      · have hc1 : (c == 0) = false := by simpa using hc0
        go_wp2_with fail
        go_ret
        exact ⟨rfl, HB4.out.o.to_below⟩
end Go.Proofs.Ytgedhmnkhoajbaa.orders
