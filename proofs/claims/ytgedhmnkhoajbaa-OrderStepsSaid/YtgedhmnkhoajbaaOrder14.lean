/- Order: the law OrderSteps. -/
import Derived.Test.YtgedhmnkhoajbaaOrder13
namespace Go.Proofs.Ytgedhmnkhoajbaa.orders
open Go.RowKit Go.Proofs.Ytgedhmnkhoajbaa.own Go.Maps Go.Proofs.Ytgedhmnkhoajbaa.terms
/-- Three terms in their boxes. -/
structure Three (w : World) (t u v : T) (ao bo co : Option Addr) (cap bcap ccap : Nat) (W : World) : Prop where
  t : Held w.heap.size t ao cap W
  u : Held (w.heap.size + 1) u bo bcap W
  v : Held (w.heap.size + 2) v co ccap W
  o : Only (fun _ => False) w W
theorem Three.later {w : World} {t u v : T} {ao bo co : Option Addr} {cap bcap ccap : Nat} {W W' : World} (h : Three w t u v ao bo co cap bcap ccap W) (ho : Only (fun _ => False) W W') : Three w t u v ao bo co cap bcap ccap W' := ⟨h.t.later ho, h.u.later ho, h.v.later ho, h.o.same ho⟩
theorem box_three (w : World) (t u v : T) (ao bo co : Option Addr) (cap bcap ccap : Nat) (hl : Lies w ao t.l) (hl' : Lies w bo u.l) (hl2 : Lies w co v.l) : Three w t u v ao bo co cap bcap ccap (((w.alloc (.cells #[.int .i64 t.k, .int .i64 t.n, .string t.s, .slice ao t.l.length cap] 24)).alloc (.cells #[.int .i64 u.k, .int .i64 u.n, .string u.s, .slice bo u.l.length bcap] 24)).alloc (.cells #[.int .i64 v.k, .int .i64 v.n, .string v.s, .slice co v.l.length ccap] 24)) := by
  have h := box_two w t u ao bo cap bcap hl hl'
  have h3 := Held.new (t := v) ccap (hl2.later h.o)
  rw [show ((w.alloc (.cells #[.int .i64 t.k, .int .i64 t.n, .string t.s, .slice ao t.l.length cap] 24)).alloc (.cells #[.int .i64 u.k, .int .i64 u.n, .string u.s, .slice bo u.l.length bcap] 24)).heap.size = w.heap.size + 2 by simp] at h3
  have ha : Only (fun _ => False) ((w.alloc (.cells #[.int .i64 t.k, .int .i64 t.n, .string t.s, .slice ao t.l.length cap] 24)).alloc (.cells #[.int .i64 u.k, .int .i64 u.n, .string u.s, .slice bo u.l.length bcap] 24)) (((w.alloc (.cells #[.int .i64 t.k, .int .i64 t.n, .string t.s, .slice ao t.l.length cap] 24)).alloc (.cells #[.int .i64 u.k, .int .i64 u.n, .string u.s, .slice bo u.l.length bcap] 24)).alloc (.cells #[.int .i64 v.k, .int .i64 v.n, .string v.s, .slice co v.l.length ccap] 24)) := Only.alloc _ _ _
  exact ⟨h.t.later ha, h.u.later ha, h3, h.o.same ha⟩
/-- What is asked of a comparison. -/
theorem cmp_step (t u : T) (w : World) (ao bo : Option Addr) (cap bcap : Nat) (hl : Lies w ao t.l) (hs : t.Sane) (hl' : Lies w bo u.l) (hs' : u.Sane) (h : t.Big = false) (h' : u.Big = false) : Calls Try.prog 10 #[tv t ao cap, tv u bo bcap] w fun e w' => (∃ n c : Int, e = .returned (.tuple #[.int .i64 n, .int .i64 c]) ∧ (c = 0 → n = (meetF t u).1)) ∧ Only (fun _ => False) w w' :=
  (Compare_any t u w ao bo cap bcap hl hs hl' hs' (by have := T.few h; omega) (by have := T.few h'; omega)).mono (fun e w' hq => by
    obtain ⟨⟨n, c, h1, h2, h3, h4⟩, ho2⟩ := hq
    refine ⟨⟨n, c, h1, fun hc => ?_⟩, ho2⟩
    by_cases hok : t.Ok ∧ u.Ok
    · cases hm : (meetF t u).2 with
      | true => have := (h2 hok hm).2; omega
      | false => exact (h3 hok hm).1
    · exact absurd hc (h4 hok).2)
set_option maxRecDepth 100000 in
set_option maxHeartbeats 16000000 in
theorem law_steps (ao bo co : Option Addr) (cap bcap ccap : Nat) (t u v : T) (w : World) (hl : Lies w ao t.l) (hs : t.Sane) (hl' : Lies w bo u.l) (hs' : u.Sane) (hl2 : Lies w co v.l) (hs2 : v.Sane) :
    Calls Try.prog 5 #[tv t ao cap, tv u bo bcap, tv v co ccap] w fun e w' => e = .returned (.bool true) ∧ Below w.heap.size w w' := by
  have HB0 := Lib.hid (box_three w t u v ao bo co cap bcap ccap hl hl' hl2)
  have HLV : Hid (∀ w1, Calls Try.prog 9 #[] w1 fun e w' => e = .returned (.bool true) ∧ Only (fun _ => False) w1 w') := Lib.hid (fun w1 => lives_any w1)
  have HLA : Hid (∀ w1, Only (fun _ => False) w w1 → Calls Try.prog 8 #[tv t ao cap] w1 fun e w' => e = .returned (.bool t.Big) ∧ Only (fun _ => False) w1 w') := Lib.hid (fun w1 ho => rlarge_any t w1 ao cap (hl.later ho) hs)
  have HLB : Hid (∀ w1, Only (fun _ => False) w w1 → Calls Try.prog 8 #[tv u bo bcap] w1 fun e w' => e = .returned (.bool u.Big) ∧ Only (fun _ => False) w1 w') := Lib.hid (fun w1 ho => rlarge_any u w1 bo bcap (hl'.later ho) hs')
  have HLC : Hid (∀ w1, Only (fun _ => False) w w1 → Calls Try.prog 8 #[tv v co ccap] w1 fun e w' => e = .returned (.bool v.Big) ∧ Only (fun _ => False) w1 w') := Lib.hid (fun w1 ho => rlarge_any v w1 co ccap (hl2.later ho) hs2)
  have HTU : Hid (t.Big = false → u.Big = false → ∀ w1, Only (fun _ => False) w w1 → Calls Try.prog 10 #[tv t ao cap, tv u bo bcap] w1 fun e w' => (∃ n c : Int, e = .returned (.tuple #[.int .i64 n, .int .i64 c]) ∧ (c = 0 → n = (meetF t u).1)) ∧ Only (fun _ => False) w1 w') := Lib.hid (fun h h' w1 ho => cmp_step t u w1 ao bo cap bcap (hl.later ho) hs (hl'.later ho) hs' h h')
  have HUV : Hid (u.Big = false → v.Big = false → ∀ w1, Only (fun _ => False) w w1 → Calls Try.prog 10 #[tv u bo bcap, tv v co ccap] w1 fun e w' => (∃ n c : Int, e = .returned (.tuple #[.int .i64 n, .int .i64 c]) ∧ (c = 0 → n = (meetF u v).1)) ∧ Only (fun _ => False) w1 w') := Lib.hid (fun h h' w1 ho => cmp_step u v w1 bo co bcap ccap (hl'.later ho) hs' (hl2.later ho) hs2 h h')
  have HTV : Hid (t.Big = false → v.Big = false → ∀ w1, Only (fun _ => False) w w1 → Calls Try.prog 10 #[tv t ao cap, tv v co ccap] w1 fun e w' => (∃ n c : Int, e = .returned (.tuple #[.int .i64 n, .int .i64 c]) ∧ (c = 0 → n = (meetF t v).1)) ∧ Only (fun _ => False) w1 w') := Lib.hid (fun h h' w1 ho => cmp_step t v w1 ao co cap ccap (hl.later ho) hs (hl2.later ho) hs2 h h')
  have HTR := Lib.hid (meetF_tr t u v)
  clear hl hs hl' hs' hl2 hs2
  cases hbig : t.Big with
  | true =>
    rw [hbig] at HLA
    clear HTU HUV HTV HLB HLC hbig HTR
    go_enter Try.func5, Try.ntmps5
    go_wp2_with fail
    generalize (((w.alloc (.cells #[.int .i64 t.k, .int .i64 t.n, .string t.s, .slice ao t.l.length cap] 24)).alloc (.cells #[.int .i64 u.k, .int .i64 u.n, .string u.s, .slice bo u.l.length bcap] 24)).alloc (.cells #[.int .i64 v.k, .int .i64 v.n, .string v.s, .slice co v.l.length ccap] 24)) = w0 at *
    refine (HLA.out _ HB0.out.o).mono ?_
    rintro e w1 ⟨rfl, ho1⟩
    have HB1 := Lib.hid (HB0.out.later ho1)
    clear ho1 HLA HB0
    go_wp2_with fail
    refine (HLV.out _).mono ?_
    rintro e wl ⟨rfl, hol⟩
    have HOL := Lib.hid (HB1.out.o.same hol)
    clear hol
    go_wp2_with fail
    go_ret
    exact ⟨rfl, HOL.out.to_below⟩
  | false =>
    rw [hbig] at HLA
    cases hbigu : u.Big with
    | true =>
      rw [hbigu] at HLB
      clear HTU HUV HTV HLC hbig hbigu HTR
      go_enter Try.func5, Try.ntmps5
      go_wp2_with fail
      generalize (((w.alloc (.cells #[.int .i64 t.k, .int .i64 t.n, .string t.s, .slice ao t.l.length cap] 24)).alloc (.cells #[.int .i64 u.k, .int .i64 u.n, .string u.s, .slice bo u.l.length bcap] 24)).alloc (.cells #[.int .i64 v.k, .int .i64 v.n, .string v.s, .slice co v.l.length ccap] 24)) = w0 at *
      refine (HLA.out _ HB0.out.o).mono ?_
      rintro e w1 ⟨rfl, ho1⟩
      have HB1 := Lib.hid (HB0.out.later ho1)
      clear ho1 HLA HB0
      obtain ⟨c0, c1, c2, c3⟩ := HB1.out.u.q.cells
      go_wp2_with fail
      refine (HLB.out _ HB1.out.o).mono ?_
      rintro e w2 ⟨rfl, ho2⟩
      have HB2 := Lib.hid (HB1.out.later ho2)
      clear ho2 HLB HB1 c0 c1 c2 c3
      go_wp2_with fail
      refine (HLV.out _).mono ?_
      rintro e wl ⟨rfl, hol⟩
      have HOL := Lib.hid (HB2.out.o.same hol)
      clear hol
      go_wp2_with fail
      go_ret
      exact ⟨rfl, HOL.out.to_below⟩
    | false =>
      rw [hbigu] at HLB
      cases hbigv : v.Big with
      | true =>
        rw [hbigv] at HLC
        clear HTU HUV HTV hbig hbigu hbigv HTR
        go_enter Try.func5, Try.ntmps5
        go_wp2_with fail
        generalize (((w.alloc (.cells #[.int .i64 t.k, .int .i64 t.n, .string t.s, .slice ao t.l.length cap] 24)).alloc (.cells #[.int .i64 u.k, .int .i64 u.n, .string u.s, .slice bo u.l.length bcap] 24)).alloc (.cells #[.int .i64 v.k, .int .i64 v.n, .string v.s, .slice co v.l.length ccap] 24)) = w0 at *
        refine (HLA.out _ HB0.out.o).mono ?_
        rintro e w1 ⟨rfl, ho1⟩
        have HB1 := Lib.hid (HB0.out.later ho1)
        clear ho1 HLA HB0
        obtain ⟨c0, c1, c2, c3⟩ := HB1.out.u.q.cells
        go_wp2_with fail
        refine (HLB.out _ HB1.out.o).mono ?_
        rintro e w2 ⟨rfl, ho2⟩
        have HB2 := Lib.hid (HB1.out.later ho2)
        clear ho2 HLB HB1 c0 c1 c2 c3
        obtain ⟨c0, c1, c2, c3⟩ := HB2.out.v.q.cells
        go_wp2_with fail
        refine (HLC.out _ HB2.out.o).mono ?_
        rintro e w3 ⟨rfl, ho3⟩
        have HB3 := Lib.hid (HB2.out.later ho3)
        clear ho3 HLC HB2 c0 c1 c2 c3
        go_wp2_with fail
        refine (HLV.out _).mono ?_
        rintro e wl ⟨rfl, hol⟩
        have HOL := Lib.hid (HB3.out.o.same hol)
        clear hol
        go_wp2_with fail
        go_ret
        exact ⟨rfl, HOL.out.to_below⟩
      | false =>
        rw [hbigv] at HLC
        have HC1 := Lib.hid (HTU.out hbig hbigu)
        have HC2 := Lib.hid (HUV.out hbigu hbigv)
        have HC3 := Lib.hid (HTV.out hbig hbigv)
        generalize (meetF t u).1 = A at *
        generalize (meetF u v).1 = B at *
        generalize (meetF t v).1 = C at *
        clear HTU HUV HTV hbig hbigu hbigv
        go_enter Try.func5, Try.ntmps5
        go_wp2_with fail
        generalize (((w.alloc (.cells #[.int .i64 t.k, .int .i64 t.n, .string t.s, .slice ao t.l.length cap] 24)).alloc (.cells #[.int .i64 u.k, .int .i64 u.n, .string u.s, .slice bo u.l.length bcap] 24)).alloc (.cells #[.int .i64 v.k, .int .i64 v.n, .string v.s, .slice co v.l.length ccap] 24)) = w0 at *
        refine (HLA.out _ HB0.out.o).mono ?_
        rintro e w1 ⟨rfl, ho1⟩
        have HB1 := Lib.hid (HB0.out.later ho1)
        clear ho1 HLA HB0
        obtain ⟨c0, c1, c2, c3⟩ := HB1.out.u.q.cells
        go_wp2_with fail
        refine (HLB.out _ HB1.out.o).mono ?_
        rintro e w2 ⟨rfl, ho2⟩
        have HB2 := Lib.hid (HB1.out.later ho2)
        clear ho2 HLB HB1 c0 c1 c2 c3
        obtain ⟨c0, c1, c2, c3⟩ := HB2.out.v.q.cells
        go_wp2_with fail
        refine (HLC.out _ HB2.out.o).mono ?_
        rintro e w3 ⟨rfl, ho3⟩
        have HB3 := Lib.hid (HB2.out.later ho3)
        clear ho3 HLC HB2 c0 c1 c2 c3
        obtain ⟨c0, c1, c2, c3⟩ := HB3.out.t.q.cells
        obtain ⟨d0, d1, d2, d3⟩ := HB3.out.u.q.cells
        obtain ⟨e0, e1, e2, e3⟩ := HB3.out.v.q.cells
        go_wp2_with fail
        refine (HC1.out _ HB3.out.o).mono ?_
        rintro e w4 ⟨⟨n, x, rfl, hc⟩, ho⟩
        have HE0 := Lib.hid hc
        have HB4 := Lib.hid (HB3.out.later ho)
        clear hc ho HB3 HC1 c0 c1 c2 c3 d0 d1 d2 d3 e0 e1 e2 e3
        obtain ⟨c0, c1, c2, c3⟩ := HB4.out.t.q.cells
        obtain ⟨d0, d1, d2, d3⟩ := HB4.out.u.q.cells
        obtain ⟨e0, e1, e2, e3⟩ := HB4.out.v.q.cells
        go_wp2_with fail
        refine (HC2.out _ HB4.out.o).mono ?_
        rintro e w5 ⟨⟨m, y, rfl, hc⟩, ho⟩
        have HE1 := Lib.hid hc
        have HB5 := Lib.hid (HB4.out.later ho)
        clear hc ho HB4 HC2 c0 c1 c2 c3 d0 d1 d2 d3 e0 e1 e2 e3
        obtain ⟨c0, c1, c2, c3⟩ := HB5.out.t.q.cells
        obtain ⟨d0, d1, d2, d3⟩ := HB5.out.u.q.cells
        obtain ⟨e0, e1, e2, e3⟩ := HB5.out.v.q.cells
        go_wp2_with fail
        refine (HC3.out _ HB5.out.o).mono ?_
        rintro e w6 ⟨⟨k, z, rfl, hc⟩, ho⟩
        have HE2 := Lib.hid hc
        have HB6 := Lib.hid (HB5.out.later ho)
        clear hc ho HB5 HC3 c0 c1 c2 c3 d0 d1 d2 d3 e0 e1 e2 e3
        go_wp2_with fail
        refine (HLV.out _).mono ?_
        rintro e w7 ⟨rfl, ho⟩
        have HB7 := Lib.hid (HB6.out.later ho)
        clear ho HB6
        by_cases x0 : x = 0
        · by_cases y0 : y = 0
          · by_cases z0 : z = 0
            · have HR : Hid (Tr n m k) := Lib.hid (by rw [HE0.out x0, HE1.out y0, HE2.out z0]; exact HTR.out)
              subst x0 y0 z0
              by_cases n0 : n ≤ 0
              · by_cases m0 : m ≤ 0
                · obtain ⟨r1, r2⟩ := HR.out.1 n0 m0
                  by_cases k0 : k < 0
                  · clear r2
                    go_wp2_with fail
                    go_ret
                    exact ⟨rfl, HB7.out.o.to_below⟩
                  · have n1 : n = 0 := by omega
                    have m1 : m = 0 := by omega
                    subst n1 m1
                    clear r2 n0 m0
                    go_wp2_with fail
                    go_ret
                    exact ⟨rfl, HB7.out.o.to_below⟩
                ·
                  go_wp2_with fail
                  go_ret
                  exact ⟨rfl, HB7.out.o.to_below⟩
              ·
                go_wp2_with fail
                go_ret
                exact ⟨rfl, HB7.out.o.to_below⟩
            · have z1 : (z == 0) = false := by simpa using z0
              subst x0 y0
              go_wp2_with fail
              refine (HLV.out _).mono ?_
              rintro e w8 ⟨rfl, ho⟩
              have HO8 := Lib.hid (HB7.out.o.same ho)
              clear ho
              go_wp2_with fail
              go_ret
              exact ⟨rfl, HO8.out.to_below⟩
          · have y1 : (y == 0) = false := by simpa using y0
            subst x0
            go_wp2_with fail
            refine (HLV.out _).mono ?_
            rintro e w8 ⟨rfl, ho⟩
            have HO8 := Lib.hid (HB7.out.o.same ho)
            clear ho
            go_wp2_with fail
            go_ret
            exact ⟨rfl, HO8.out.to_below⟩
        · have x1 : (x == 0) = false := by simpa using x0
          go_wp2_with fail
          refine (HLV.out _).mono ?_
          rintro e w8 ⟨rfl, ho⟩
          have HO8 := Lib.hid (HB7.out.o.same ho)
          clear ho
          go_wp2_with fail
          go_ret
          exact ⟨rfl, HO8.out.to_below⟩
end Go.Proofs.Ytgedhmnkhoajbaa.orders
