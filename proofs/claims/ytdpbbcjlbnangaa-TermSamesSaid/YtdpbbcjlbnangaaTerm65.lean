/- Terms: Same and Variant of what may not be; the law TermSames. -/
import Derived.Test.YtdpbbcjlbnangaaTerm64
import Derived.Test.YtdpbbcjlbnangaaTerm53
import Derived.Test.YtdpbbcjlbnangaaTerm46
import Derived.Deep.RegionHeld3
namespace Go.Proofs.Ytdpbbcjlbnangaa.terms
open Go.RowKit Go.Proofs.Ytdpbbcjlbnangaa.own Go.Maps
theorem may_not (t u : T) (w : World) (ao bo : Option Addr) (cap bcap : Nat) (hl : Lies w ao t.l) (hs : t.Sane) (hl' : Lies w bo u.l) (hs' : u.Sane) (hz : t.size ≤ 900000) (hz' : u.size ≤ 900000) (hno : ¬ (t.Ok ∧ u.Ok)) (w1 : World) (ho : Only (fun _ => False) w w1) (b : Nat) (hb : w1.heap[b]? = some (.cells #[.int .i64 t.k, .int .i64 t.n, .string t.s, .slice ao t.l.length cap, .int .i64 u.k, .int .i64 u.n, .string u.s, .slice bo u.l.length bcap] 24 (0, 0))) :
    Calls Try.prog 53 #[.slice (some ⟨b, 0, none⟩) 2 2] w1 fun e w' => e = .returned (.bool false) ∧ Only (fun _ => False) w1 w' := by
  refine (may_any [t, u] w1 _ 2 (Row.two hl hs hl' hs' w1 ho b hb) (by simp) (fun x hx => ?_)).mono ?_
  · rcases List.mem_cons.1 hx with rfl | hx
    · exact hz
    · rw [List.mem_singleton.1 hx]; exact hz'
  · rintro e w' ⟨⟨b, rfl, hb⟩, ho2⟩
    cases b with
    | false => exact ⟨rfl, ho2⟩
    | true => exact absurd ⟨hb.1 rfl t (by simp), hb.1 rfl u (by simp)⟩ hno
set_option maxRecDepth 100000 in
set_option maxHeartbeats 2000000 in
theorem Same_no (t u : T) (w : World) (ao bo : Option Addr) (cap bcap : Nat) (hl : Lies w ao t.l) (hs : t.Sane) (hl' : Lies w bo u.l) (hs' : u.Sane) (hz : t.size ≤ 900000) (hz' : u.size ≤ 900000) (hno : ¬ (t.Ok ∧ u.Ok)) :
    Calls Try.prog 30 #[tv t ao cap, tv u bo bcap] w fun e w' => e = .returned (.bool false) ∧ Only (fun _ => False) w w' := by
  have HM := Lib.hid (may_not t u w ao bo cap bcap hl hs hl' hs' hz hz' hno)
  obtain ⟨k, n, s, l⟩ := t
  obtain ⟨k', n', s', l'⟩ := u
  show Calls Try.prog 30 #[.agg #[.int .i64 k, .int .i64 n, .string s, .slice ao l.length cap], .agg #[.int .i64 k', .int .i64 n', .string s', .slice bo l'.length bcap]] w _
  clear hl hs hl' hs' hz hz' hno
  go_enter Try.func30, Try.ntmps30
  go_wp2_with fail
  obtain ⟨hb, ho, hx, hy, hsz⟩ := pair_world w k n s l ao cap k' n' s' l' bo bcap
  generalize (((w.alloc (.cells #[.int .i64 k, .int .i64 n, .string s, .slice ao l.length cap] 24)).alloc (.cells #[.int .i64 k', .int .i64 n', .string s', .slice bo l'.length bcap] 24)).alloc (.cells #[.int .i64 k, .int .i64 n, .string s, .slice ao l.length cap, .int .i64 k', .int .i64 n', .string s', .slice bo l'.length bcap] 24)) = w1 at *
  refine (HM.out _ ho _ hb).mono ?_
  rintro e w2 ⟨rfl, ho2⟩
  have HO := Lib.hid (ho.same ho2)
  clear hb ho hx hy ho2 hsz
  go_wp2_with fail
  go_ret
  exact ⟨rfl, HO.out⟩
set_option maxRecDepth 100000 in
set_option maxHeartbeats 2000000 in
theorem Variant_no (t u : T) (w : World) (ao bo : Option Addr) (cap bcap : Nat) (hl : Lies w ao t.l) (hs : t.Sane) (hl' : Lies w bo u.l) (hs' : u.Sane) (hz : t.size ≤ 900000) (hz' : u.size ≤ 900000) (hno : ¬ (t.Ok ∧ u.Ok)) :
    Calls Try.prog 36 #[tv t ao cap, tv u bo bcap] w fun e w' => e = .returned (.bool false) ∧ Only (fun _ => False) w w' := by
  have HM := Lib.hid (may_not t u w ao bo cap bcap hl hs hl' hs' hz hz' hno)
  obtain ⟨k, n, s, l⟩ := t
  obtain ⟨k', n', s', l'⟩ := u
  show Calls Try.prog 36 #[.agg #[.int .i64 k, .int .i64 n, .string s, .slice ao l.length cap], .agg #[.int .i64 k', .int .i64 n', .string s', .slice bo l'.length bcap]] w _
  clear hl hs hl' hs' hz hz' hno
  go_enter Try.func36, Try.ntmps36
  go_wp2_with fail
  obtain ⟨hb, ho, hx, hy, hsz⟩ := pair_world w k n s l ao cap k' n' s' l' bo bcap
  generalize (((w.alloc (.cells #[.int .i64 k, .int .i64 n, .string s, .slice ao l.length cap] 24)).alloc (.cells #[.int .i64 k', .int .i64 n', .string s', .slice bo l'.length bcap] 24)).alloc (.cells #[.int .i64 k, .int .i64 n, .string s, .slice ao l.length cap, .int .i64 k', .int .i64 n', .string s', .slice bo l'.length bcap] 24)) = w1 at *
  refine (HM.out _ ho _ hb).mono ?_
  rintro e w2 ⟨rfl, ho2⟩
  have HO := Lib.hid (ho.same ho2)
  clear hb ho hx hy ho2 hsz
  go_wp2_with fail
  go_ret
  exact ⟨rfl, HO.out⟩
/-- Two terms in their boxes. -/
structure Both2 (w : World) (t u : T) (ao bo : Option Addr) (cap bcap : Nat) (W : World) : Prop where
  t : Held w.heap.size t ao cap W
  u : Held (w.heap.size + 1) u bo bcap W
  o : Only (fun _ => False) w W
theorem Both2.later {w : World} {t u : T} {ao bo : Option Addr} {cap bcap : Nat} {W W' : World} (h : Both2 w t u ao bo cap bcap W) (ho : Only (fun _ => False) W W') : Both2 w t u ao bo cap bcap W' := ⟨h.t.later ho, h.u.later ho, h.o.same ho⟩
theorem Both2.new {w : World} {t u : T} {ao bo : Option Addr} {cap bcap : Nat} (hl : Lies w ao t.l) (hl' : Lies w bo u.l) : Both2 w t u ao bo cap bcap ((w.alloc (.cells #[.int .i64 t.k, .int .i64 t.n, .string t.s, .slice ao t.l.length cap] 24)).alloc (.cells #[.int .i64 u.k, .int .i64 u.n, .string u.s, .slice bo u.l.length bcap] 24)) := by
  have h1 := Held.new cap hl
  have h2 := Held.new (t := u) bcap (hl'.later (Only.alloc (fun _ => False) w (.cells #[.int .i64 t.k, .int .i64 t.n, .string t.s, .slice ao t.l.length cap] 24)))
  rw [show (w.alloc (.cells #[.int .i64 t.k, .int .i64 t.n, .string t.s, .slice ao t.l.length cap] 24)).heap.size = w.heap.size + 1 by simp] at h2
  exact ⟨h1.later (Only.alloc _ _ _), h2, (Only.alloc _ _ _).same (Only.alloc _ _ _)⟩
set_option maxRecDepth 100000 in
set_option maxHeartbeats 8000000 in
theorem law_sames_of (LV : ∀ w : World, Calls Try.prog 11 #[] w fun e w' => e = .returned (.bool true) ∧ Only (fun _ => False) w w') (ao bo : Option Addr) (cap bcap : Nat) (t u : T) (w : World) (hl : Lies w ao t.l) (hs : t.Sane) (hl' : Lies w bo u.l) (hs' : u.Sane) :
    Calls Try.prog 6 #[tv t ao cap, tv u bo bcap] w fun e w' => e = .returned (.bool true) ∧ Below w.heap.size w w' := by
  have HLV := Lib.hid LV
  have HB0 := Lib.hid (Both2.new (cap := cap) (bcap := bcap) hl hl')
  have HLA := Lib.hid (fun (w1 : World) (ho : Only (fun _ => False) w w1) => rlarge_any t w1 ao cap (hl.later ho) hs)
  have HLB := Lib.hid (fun (w1 : World) (ho : Only (fun _ => False) w w1) => rlarge_any u w1 bo bcap (hl'.later ho) hs')
  by_cases hbig : t.Big = true
  · rw [hbig] at HLA
    clear LV hl hs hl' hs'
    go_enter Try.func6, Try.ntmps6
    go_wp2_with fail
    generalize ((w.alloc (.cells #[.int .i64 t.k, .int .i64 t.n, .string t.s, .slice ao t.l.length cap] 24)).alloc (.cells #[.int .i64 u.k, .int .i64 u.n, .string u.s, .slice bo u.l.length bcap] 24)) = w0 at *
    refine (HLA.out _ HB0.out.o).mono ?_
    rintro e w1 ⟨rfl, ho1⟩
    have HO1 := Lib.hid (HB0.out.o.same ho1)
    clear ho1 HLA
    go_wp2_with fail
    refine (HLV.out _).mono ?_
    rintro e w2 ⟨rfl, ho2⟩
    have HO2 := Lib.hid (HO1.out.same ho2)
    clear ho2
    go_wp2_with fail
    go_ret
    exact ⟨rfl, HO2.out.to_below⟩
  · have hbig' : t.Big = false := by simpa using hbig
    rw [hbig'] at HLA
    have hfew := T.few hbig'
    by_cases hbigu : u.Big = true
    · rw [hbigu] at HLB
      clear LV hl hs hl' hs'
      go_enter Try.func6, Try.ntmps6
      go_wp2_with fail
      generalize ((w.alloc (.cells #[.int .i64 t.k, .int .i64 t.n, .string t.s, .slice ao t.l.length cap] 24)).alloc (.cells #[.int .i64 u.k, .int .i64 u.n, .string u.s, .slice bo u.l.length bcap] 24)) = w0 at *
      refine (HLA.out _ HB0.out.o).mono ?_
      rintro e w1 ⟨rfl, ho1⟩
      have HB1 := Lib.hid (HB0.out.later ho1)
      clear ho1 HLA
      obtain ⟨c0, c1, c2, c3⟩ := HB1.out.u.q.cells
      go_wp2_with fail
      refine (HLB.out _ HB1.out.o).mono ?_
      rintro e w3 ⟨rfl, ho3⟩
      have HO3 := Lib.hid (HB1.out.o.same ho3)
      clear ho3 c0 c1 c2 c3
      go_wp2_with fail
      refine (HLV.out _).mono ?_
      rintro e w2 ⟨rfl, ho2⟩
      have HO2 := Lib.hid (HO3.out.same ho2)
      clear ho2
      go_wp2_with fail
      go_ret
      exact ⟨rfl, HO2.out.to_below⟩
    · have hbigu' : u.Big = false := by simpa using hbigu
      rw [hbigu'] at HLB
      have hfewu := T.few hbigu'
      have hck : (rcheckF t = 0 ↔ t.Ok) ∧ (rcheckF u = 0 ↔ u.Ok) := ⟨rcheck_iff, rcheck_iff⟩
      have HCA : Hid (∀ w1, Only (fun _ => False) w w1 → Calls Try.prog 23 #[tv t ao cap] w1 fun e w' => e = .returned (.int .i64 (rcheckF t)) ∧ Only (fun _ => False) w1 w') := Lib.hid (fun w1 ho => rCheck_any t w1 ao cap (hl.later ho) hs (by have := depth_le_size t; omega) (by omega))
      have HCB : Hid (∀ w1, Only (fun _ => False) w w1 → Calls Try.prog 23 #[tv u bo bcap] w1 fun e w' => e = .returned (.int .i64 (rcheckF u)) ∧ Only (fun _ => False) w1 w') := Lib.hid (fun w1 ho => rCheck_any u w1 bo bcap (hl'.later ho) hs' (by have := depth_le_size u; omega) (by omega))
      have HSN : Hid (¬ (t.Ok ∧ u.Ok) → ∀ w1, Only (fun _ => False) w w1 → Calls Try.prog 30 #[tv t ao cap, tv u bo bcap] w1 fun e w' => e = .returned (.bool false) ∧ Only (fun _ => False) w1 w') := Lib.hid (fun hno w1 ho => Same_no t u w1 ao bo cap bcap (hl.later ho) hs (hl'.later ho) hs' (by omega) (by omega) hno)
      have HVN : Hid (¬ (t.Ok ∧ u.Ok) → ∀ w1, Only (fun _ => False) w w1 → Calls Try.prog 36 #[tv t ao cap, tv u bo bcap] w1 fun e w' => e = .returned (.bool false) ∧ Only (fun _ => False) w1 w') := Lib.hid (fun hno w1 ho => Variant_no t u w1 ao bo cap bcap (hl.later ho) hs (hl'.later ho) hs' (by omega) (by omega) hno)
      by_cases hok : t.Ok
      · by_cases hoku : u.Ok
        · have HKA : Hid (∀ w1, Only (fun _ => False) w w1 → Calls Try.prog 35 #[tv t ao cap] w1 fun e w' => ∃ a c, e = .returned (.tuple #[tv (renF t).1 a c, .int .i64 ((varsF t).length : Nat)]) ∧ Lies w' a (renF t).1.l ∧ Only (fun _ => False) w1 w') := Lib.hid (fun w1 ho => (rRename_any t w1 ao cap (hl.later ho) hs hok.right (by omega)).mono (fun e w' h => by
            obtain ⟨a, c, h1, h2, _, h4⟩ := h
            rw [renF_is t hok.right]
            exact ⟨a, c, h1, h2.mono (fun q hq => hq.2), h4⟩))
          have HKB : Hid (∀ w1, Only (fun _ => False) w w1 → Calls Try.prog 35 #[tv u bo bcap] w1 fun e w' => ∃ a c, e = .returned (.tuple #[tv (renF u).1 a c, .int .i64 ((varsF u).length : Nat)]) ∧ Lies w' a (renF u).1.l ∧ Only (fun _ => False) w1 w') := Lib.hid (fun w1 ho => (rRename_any u w1 bo bcap (hl'.later ho) hs' hoku.right (by omega)).mono (fun e w' h => by
            obtain ⟨a, c, h1, h2, _, h4⟩ := h
            rw [renF_is u hoku.right]
            exact ⟨a, c, h1, h2.mono (fun q hq => hq.2), h4⟩))
          have hsn : (renF t).1.Sane ∧ (renF u).1.Sane := by
            have h1 := varsF_len t
            have h2 := varsF_len u
            rw [renF_is t hok.right, renF_is u hoku.right]
            exact ⟨renamedF_sane _ t hs (by omega), renamedF_sane _ u hs' (by omega)⟩
          have HSM : Hid (∀ w1, Only (fun _ => False) w w1 → Calls Try.prog 30 #[tv t ao cap, tv u bo bcap] w1 fun e w' => e = .returned (.bool (t.eqb u)) ∧ Only (fun _ => False) w1 w') := Lib.hid (fun w1 ho => Same_ok t u w1 ao bo cap bcap (hl.later ho) hs hok (hl'.later ho) hs' hoku)
          have HEX : Hid (∀ w1, Only (fun _ => False) w w1 → Calls Try.prog 12 #[tv t ao cap, tv u bo bcap] w1 fun e w' => e = .returned (.bool (t.eqb u)) ∧ Only (fun _ => False) w1 w') := Lib.hid (fun w1 ho => exact_any t u w1 ao bo cap bcap (hl.later ho) hs (hl'.later ho) hs')
          have HVR : Hid (∀ w1, Only (fun _ => False) w w1 → Calls Try.prog 36 #[tv t ao cap, tv u bo bcap] w1 fun e w' => e = .returned (.bool ((renF t).1.eqb (renF u).1)) ∧ Only (fun _ => False) w1 w') := Lib.hid (fun w1 ho => Variant_ok t u w1 ao bo cap bcap (hl.later ho) hs hok (hl'.later ho) hs' hoku)
          obtain ⟨r, hr⟩ : ∃ r, r = (renF t).1 := ⟨_, rfl⟩
          obtain ⟨r', hr'⟩ : ∃ r', r' = (renF u).1 := ⟨_, rfl⟩
          rw [← hr] at HKA HVR hsn
          rw [← hr'] at HKB HVR hsn
          have HEY : Hid (∀ w1 a c a' c', Lies w1 a r.l → Lies w1 a' r'.l → Calls Try.prog 12 #[tv r a c, tv r' a' c'] w1 fun e w' => e = .returned (.bool (r.eqb r')) ∧ Only (fun _ => False) w1 w') := Lib.hid (fun w1 a c a' c' h h' => exact_any r r' w1 a a' c c' h hsn.1 h' hsn.2)
          generalize t.eqb u = q1 at *
          generalize r.eqb r' = q2 at *
          have ea := hck.1.2 hok
          have eb := hck.2.2 hoku
          rw [ea] at HCA
          rw [eb] at HCB
          clear LV hl hs hl' hs' hfew hfewu hck HSN HVN hbig hbig' hbigu hbigu' hr hr' hsn ea eb hok hoku
          go_enter Try.func6, Try.ntmps6
          go_wp2_with fail
          generalize ((w.alloc (.cells #[.int .i64 t.k, .int .i64 t.n, .string t.s, .slice ao t.l.length cap] 24)).alloc (.cells #[.int .i64 u.k, .int .i64 u.n, .string u.s, .slice bo u.l.length bcap] 24)) = w0 at *
          refine (HLA.out _ HB0.out.o).mono ?_
          rintro e w1 ⟨rfl, ho1⟩
          have HB1 := Lib.hid (HB0.out.later ho1)
          clear ho1 HLA HB0
          obtain ⟨c0, c1, c2, c3⟩ := HB1.out.u.q.cells
          go_wp2_with fail
          refine (HLB.out _ HB1.out.o).mono ?_
          rintro e w2 ⟨rfl, ho2⟩
          have HB2 := Lib.hid (HB1.out.later ho2)
          clear ho2 HLB HB1 c0 c1 c2 c3
          obtain ⟨c0, c1, c2, c3⟩ := HB2.out.t.q.cells
          go_wp2_with fail
          refine (HCA.out _ HB2.out.o).mono ?_
          rintro e w3 ⟨rfl, ho3⟩
          have HB3 := Lib.hid (HB2.out.later ho3)
          clear ho3 HCA HB2 c0 c1 c2 c3
          obtain ⟨c0, c1, c2, c3⟩ := HB3.out.u.q.cells
          go_wp2_with fail
          refine (HCB.out _ HB3.out.o).mono ?_
          rintro e w4 ⟨rfl, ho4⟩
          have HB4 := Lib.hid (HB3.out.later ho4)
          clear ho4 HCB HB3 c0 c1 c2 c3
          obtain ⟨c0, c1, c2, c3⟩ := HB4.out.t.q.cells
          go_wp2_with fail
          refine (HKA.out _ HB4.out.o).mono ?_
          rintro e w5 ⟨a1, k1, rfl, hl5, ho5⟩
          have HA5 := Lib.hid (ho5.same (Only.alloc (fun _ => False) w5 (.cells #[.int .i64 r.k, .int .i64 r.n, .string r.s, .slice a1 r.l.length k1] 24)))
          have HB6 := Lib.hid (HB4.out.later HA5.out)
          have HR6 := Lib.hid (Held.new k1 hl5)
          clear ho5 hl5 HB4 HA5 c0 c1 c2 c3
          obtain ⟨c0, c1, c2, c3⟩ := HB6.out.u.q.cells
          go_wp2_with fail
          generalize w5.heap.size = b5 at *
          generalize w5.alloc (.cells #[.int .i64 r.k, .int .i64 r.n, .string r.s, .slice a1 r.l.length k1] 24) = w6 at *
          refine (HKB.out _ HB6.out.o).mono ?_
          rintro e w7 ⟨a2, k2, rfl, hl7, ho7⟩
          have HA7 := Lib.hid (ho7.same (Only.alloc (fun _ => False) w7 (.cells #[.int .i64 r'.k, .int .i64 r'.n, .string r'.s, .slice a2 r'.l.length k2] 24)))
          have HB8 := Lib.hid (HB6.out.later HA7.out)
          have HR8 := Lib.hid (HR6.out.later HA7.out)
          have HS8 := Lib.hid (Held.new k2 hl7)
          clear ho7 hl7 HB6 HA7 HR6 c0 c1 c2 c3
          have HK : Hid (∀ w', Only (fun _ => False) (w7.alloc (.cells #[.int .i64 r'.k, .int .i64 r'.n, .string r'.s, .slice a2 r'.l.length k2] 24)) w' → w'.cell? ⟨w.heap.size, 0, none⟩ = some (.int .i64 t.k) ∧ w'.cell? ⟨w.heap.size, 1, none⟩ = some (.int .i64 t.n) ∧ w'.cell? ⟨w.heap.size, 2, none⟩ = some (.string t.s) ∧ w'.cell? ⟨w.heap.size, 3, none⟩ = some (.slice ao t.l.length cap) ∧ w'.cell? ⟨w.heap.size + 1, 0, none⟩ = some (.int .i64 u.k) ∧ w'.cell? ⟨w.heap.size + 1, 1, none⟩ = some (.int .i64 u.n) ∧ w'.cell? ⟨w.heap.size + 1, 2, none⟩ = some (.string u.s) ∧ w'.cell? ⟨w.heap.size + 1, 3, none⟩ = some (.slice bo u.l.length bcap) ∧ w'.cell? ⟨b5, 0, none⟩ = some (.int .i64 r.k) ∧ w'.cell? ⟨b5, 1, none⟩ = some (.int .i64 r.n) ∧ w'.cell? ⟨b5, 2, none⟩ = some (.string r.s) ∧ w'.cell? ⟨b5, 3, none⟩ = some (.slice a1 r.l.length k1) ∧ w'.cell? ⟨w7.heap.size, 0, none⟩ = some (.int .i64 r'.k) ∧ w'.cell? ⟨w7.heap.size, 1, none⟩ = some (.int .i64 r'.n) ∧ w'.cell? ⟨w7.heap.size, 2, none⟩ = some (.string r'.s) ∧ w'.cell? ⟨w7.heap.size, 3, none⟩ = some (.slice a2 r'.l.length k2)) := Lib.hid (fun w' ho => by
            obtain ⟨c0, c1, c2, c3⟩ := (HB8.out.later ho).t.q.cells
            obtain ⟨d0, d1, d2, d3⟩ := (HB8.out.later ho).u.q.cells
            obtain ⟨e0, e1, e2, e3⟩ := (HR8.out.later ho).q.cells
            obtain ⟨f0, f1, f2, f3⟩ := (HS8.out.later ho).q.cells
            exact ⟨c0, c1, c2, c3, d0, d1, d2, d3, e0, e1, e2, e3, f0, f1, f2, f3⟩)
          go_wp2_with fail
          generalize w7.heap.size = b7 at *
          generalize w7.alloc (.cells #[.int .i64 r'.k, .int .i64 r'.n, .string r'.s, .slice a2 r'.l.length k2] 24) = w8 at *
          have HA : Hid (Only (fun _ => False) w8 w8.drew) := Lib.hid (Only.drew _ _)
          go_region_held3 (fun w' => w'.cell? ⟨w.heap.size, 0, none⟩ = some (.int .i64 t.k) ∧ w'.cell? ⟨w.heap.size, 1, none⟩ = some (.int .i64 t.n) ∧ w'.cell? ⟨w.heap.size, 2, none⟩ = some (.string t.s) ∧ w'.cell? ⟨w.heap.size, 3, none⟩ = some (.slice ao t.l.length cap) ∧ w'.cell? ⟨w.heap.size + 1, 0, none⟩ = some (.int .i64 u.k) ∧ w'.cell? ⟨w.heap.size + 1, 1, none⟩ = some (.int .i64 u.n) ∧ w'.cell? ⟨w.heap.size + 1, 2, none⟩ = some (.string u.s) ∧ w'.cell? ⟨w.heap.size + 1, 3, none⟩ = some (.slice bo u.l.length bcap) ∧ w'.cell? ⟨b5, 0, none⟩ = some (.int .i64 r.k) ∧ w'.cell? ⟨b5, 1, none⟩ = some (.int .i64 r.n) ∧ w'.cell? ⟨b5, 2, none⟩ = some (.string r.s) ∧ w'.cell? ⟨b5, 3, none⟩ = some (.slice a1 r.l.length k1) ∧ w'.cell? ⟨b7, 0, none⟩ = some (.int .i64 r'.k) ∧ w'.cell? ⟨b7, 1, none⟩ = some (.int .i64 r'.n) ∧ w'.cell? ⟨b7, 2, none⟩ = some (.string r'.s) ∧ w'.cell? ⟨b7, 3, none⟩ = some (.slice a2 r'.l.length k2)) (first | exact HK.out _ HA.out | go_keep) (first
            | (go_at_call 11; refine (HLV.out _).mono ?_; rintro e wx ⟨rfl, ho⟩; have HA := Lib.hid (HA.out.same ho); clear ho)
            | (go_at_call 30; refine (HSM.out _ (HB8.out.o.same HA.out)).mono ?_; rintro e wx ⟨rfl, ho⟩; have HA := Lib.hid (HA.out.same ho); clear ho)
            | (go_at_call 36; refine (HVR.out _ (HB8.out.o.same HA.out)).mono ?_; rintro e wx ⟨rfl, ho⟩; have HA := Lib.hid (HA.out.same ho); clear ho)
            | (go_at_call_of 12 a1; refine (HEY.out _ a1 k1 a2 k2 (HR8.out.later HA.out).l (HS8.out.later HA.out).l).mono ?_; rintro e wx ⟨rfl, ho⟩; have HA := Lib.hid (HA.out.same ho); clear ho)
            | (go_at_call 12; refine (HEX.out _ (HB8.out.o.same HA.out)).mono ?_; rintro e wx ⟨rfl, ho⟩; have HA := Lib.hid (HA.out.same ho); clear ho))
          go_wp2_with fail
          go_ret
          exact ⟨by simp, (HB8.out.o.same HA.out).to_below⟩
        · have hno : ¬ (t.Ok ∧ u.Ok) := fun h => hoku h.2
          have ea := hck.1.2 hok
          have eb : ((rcheckF u) == 0) = false := by simpa using fun e => hoku (hck.2.1 e)
          rw [ea] at HCA
          clear LV hl hs hl' hs' hfew hfewu hck hbig hbig' hbigu hbigu' ea hok
          go_enter Try.func6, Try.ntmps6
          go_wp2_with fail
          generalize ((w.alloc (.cells #[.int .i64 t.k, .int .i64 t.n, .string t.s, .slice ao t.l.length cap] 24)).alloc (.cells #[.int .i64 u.k, .int .i64 u.n, .string u.s, .slice bo u.l.length bcap] 24)) = w0 at *
          refine (HLA.out _ HB0.out.o).mono ?_
          rintro e w1 ⟨rfl, ho1⟩
          have HB1 := Lib.hid (HB0.out.later ho1)
          clear ho1 HLA HB0
          obtain ⟨c0, c1, c2, c3⟩ := HB1.out.u.q.cells
          go_wp2_with fail
          refine (HLB.out _ HB1.out.o).mono ?_
          rintro e w2 ⟨rfl, ho2⟩
          have HB2 := Lib.hid (HB1.out.later ho2)
          clear ho2 HLB HB1 c0 c1 c2 c3
          obtain ⟨c0, c1, c2, c3⟩ := HB2.out.t.q.cells
          go_wp2_with fail
          refine (HCA.out _ HB2.out.o).mono ?_
          rintro e w3 ⟨rfl, ho3⟩
          have HB3 := Lib.hid (HB2.out.later ho3)
          clear ho3 HCA HB2 c0 c1 c2 c3
          obtain ⟨c0, c1, c2, c3⟩ := HB3.out.u.q.cells
          go_wp2_with fail
          refine (HCB.out _ HB3.out.o).mono ?_
          rintro e w4 ⟨rfl, ho4⟩
          have HB4 := Lib.hid (HB3.out.later ho4)
          clear ho4 HCB HB3 c0 c1 c2 c3
          go_wp2_with fail
          refine (HLV.out _).mono ?_
          rintro e w5 ⟨rfl, ho5⟩
          have HB5 := Lib.hid (HB4.out.later ho5)
          clear ho5 HB4
          obtain ⟨c0, c1, c2, c3⟩ := HB5.out.t.q.cells
          obtain ⟨d0, d1, d2, d3⟩ := HB5.out.u.q.cells
          go_wp2_with fail
          refine (HSN.out hno _ HB5.out.o).mono ?_
          rintro e w6 ⟨rfl, ho6⟩
          have HB6 := Lib.hid (HB5.out.later ho6)
          clear ho6 HB5 c0 c1 c2 c3 d0 d1 d2 d3
          obtain ⟨c0, c1, c2, c3⟩ := HB6.out.t.q.cells
          obtain ⟨d0, d1, d2, d3⟩ := HB6.out.u.q.cells
          go_wp2_with fail
          refine (HVN.out hno _ HB6.out.o).mono ?_
          rintro e w7 ⟨rfl, ho7⟩
          have HB7 := Lib.hid (HB6.out.later ho7)
          clear ho7 HB6 c0 c1 c2 c3 d0 d1 d2 d3
          go_wp2_with fail
          go_ret
          exact ⟨rfl, HB7.out.o.to_below⟩
      · have hno : ¬ (t.Ok ∧ u.Ok) := fun h => hok h.1
        have ea : ((rcheckF t) == 0) = false := by simpa using fun e => hok (hck.1.1 e)
        have ea2 : ¬ rcheckF t = 0 := fun e => hok (hck.1.1 e)
        generalize rcheckF t = rc at *
        clear LV hl hs hl' hs' hfew hfewu hck hbig hbig' hbigu hbigu'
        go_enter Try.func6, Try.ntmps6
        go_wp2_with fail
        generalize ((w.alloc (.cells #[.int .i64 t.k, .int .i64 t.n, .string t.s, .slice ao t.l.length cap] 24)).alloc (.cells #[.int .i64 u.k, .int .i64 u.n, .string u.s, .slice bo u.l.length bcap] 24)) = w0 at *
        refine (HLA.out _ HB0.out.o).mono ?_
        rintro e w1 ⟨rfl, ho1⟩
        have HB1 := Lib.hid (HB0.out.later ho1)
        clear ho1 HLA HB0
        obtain ⟨c0, c1, c2, c3⟩ := HB1.out.u.q.cells
        go_wp2_with fail
        refine (HLB.out _ HB1.out.o).mono ?_
        rintro e w2 ⟨rfl, ho2⟩
        have HB2 := Lib.hid (HB1.out.later ho2)
        clear ho2 HLB HB1 c0 c1 c2 c3
        obtain ⟨c0, c1, c2, c3⟩ := HB2.out.t.q.cells
        go_wp2_with fail
        refine (HCA.out _ HB2.out.o).mono ?_
        rintro e w3 ⟨rfl, ho3⟩
        have HB3 := Lib.hid (HB2.out.later ho3)
        clear ho3 HCA HB2 c0 c1 c2 c3
        go_wp2_with fail
        refine (HLV.out _).mono ?_
        rintro e w5 ⟨rfl, ho5⟩
        have HB5 := Lib.hid (HB3.out.later ho5)
        clear ho5 HB3
        obtain ⟨c0, c1, c2, c3⟩ := HB5.out.t.q.cells
        obtain ⟨d0, d1, d2, d3⟩ := HB5.out.u.q.cells
        go_wp2_with fail
        refine (HSN.out hno _ HB5.out.o).mono ?_
        rintro e w6 ⟨rfl, ho6⟩
        have HB6 := Lib.hid (HB5.out.later ho6)
        clear ho6 HB5 c0 c1 c2 c3 d0 d1 d2 d3
        obtain ⟨c0, c1, c2, c3⟩ := HB6.out.t.q.cells
        obtain ⟨d0, d1, d2, d3⟩ := HB6.out.u.q.cells
        go_wp2_with fail
        refine (HVN.out hno _ HB6.out.o).mono ?_
        rintro e w7 ⟨rfl, ho7⟩
        have HB7 := Lib.hid (HB6.out.later ho7)
        clear ho7 HB6 c0 c1 c2 c3 d0 d1 d2 d3
        go_wp2_with fail
        go_ret
        exact ⟨rfl, HB7.out.o.to_below⟩
end Go.Proofs.Ytdpbbcjlbnangaa.terms
