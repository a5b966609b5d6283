/- Clauses: the law ClauseBack. -/
import Derived.Test.YtoogmlgaeipenaaClause29
import Derived.Test.YtoogmlgaeipenaaClause20
import Derived.Test.YtoogmlgaeipenaaClause22
namespace Go.Proofs.Ytoogmlgaeipenaa.terms
set_option maxRecDepth 100000
open Go.RowKit Go.Proofs.Ytoogmlgaeipenaa.own Go.Maps
theorem rBack_any (h : T) (gs : List T) (ho : Option Addr) (hc : Nat) (go : Option Addr) (gc : Nat) (gl : List Gl) (n : Int) (w : World) (H : ClI h gs ho go gc gl w) (hn : gl.length ≤ 200) (hz : (backT h gs).size ≤ 900000) :
    Calls Try.prog 19 #[.agg #[.int .i64 h.k, .int .i64 h.n, .string h.s, .slice ho h.l.length hc, .slice go gl.length gc, .int .i64 n]] w fun e w' => ∃ a c, e = .returned (tv (clF (backT h gs)) a c) ∧ Lies w' a (clF (backT h gs)).l ∧ Only (fun _ => False) w w' := by
  rcases List.eq_nil_or_concat gl with rfl | ⟨gl0, y, hgl⟩
  · have e : gs = [] := by rw [← H.eq]; rfl
    subst e
    rw [backT_nil] at hz ⊢
    exact rBack_none h ho hc go gc n w H.sane H.lies hz
  · rw [List.concat_eq_append] at hgl
    have e : gs = gl0.map (·.x.t) ++ [y.x.t] := by rw [← H.eq, hgl]; simp
    subst e
    rw [backT_snoc, List.map_map] at hz ⊢
    obtain ⟨g, rfl⟩ : ∃ g, go = some ⟨g, 0, none⟩ := rowNew_block liesG (by rw [← hgl]; exact H.row)
    exact rBack_many h y.x.t gl0 y gl hgl rfl ho hc g gc n w H.sane H.lies H.row H.good hn hz
theorem back_sane {h : T} {gs : List T} (hs : h.Sane) : (clF (backT h gs)).Sane := by
  rcases cl_kind (backT h gs) with ⟨_, e, _⟩ | e
  · rw [e]
    rcases List.eq_nil_or_concat gs with rfl | ⟨gs0, z, rfl⟩
    · exact hs
    · rw [List.concat_eq_append, backT_snoc]
      exact sane_comp (by decide +kernel) (by show 2 ≤ maxLen; exact small_lit (by omega))
  · rw [e]; exact sane_zero
set_option maxHeartbeats 16000000 in
theorem law_back (ao : Option Addr) (cap : Nat) (t : T) (w : World) (hl : Lies w ao t.l) (hs : t.Sane) :
    Calls Try.prog 4 #[tv t ao cap] w fun e w' => e = .returned (.bool true) ∧ Below w.heap.size w w' := by
  have HLV := Lib.hid (fun W => clauseLives_any W)
  have HQ0 : Hid (Quad w.heap.size (.int .i64 t.k) (.int .i64 t.n) (.string t.s) (.slice ao t.l.length cap) (w.alloc (.cells #[.int .i64 t.k, .int .i64 t.n, .string t.s, .slice ao t.l.length cap] 24))) := Lib.hid (heap_alloc_new w _)
  have HO0 : Hid (Only (fun _ => False) w (w.alloc (.cells #[.int .i64 t.k, .int .i64 t.n, .string t.s, .slice ao t.l.length cap] 24))) := Lib.hid (Only.alloc _ _ _)
  have HLT : Hid (∀ W, Only (fun _ => False) w W → Calls Try.prog 14 #[tv t ao cap] W fun e w' => e = .returned (.bool t.Big) ∧ Only (fun _ => False) W w') := Lib.hid (fun W ho => rlarge_any t W ao cap (hl.later ho) hs)
  have HL := Lib.hid hl
  have HS := Lib.hid hs
  obtain ⟨c0, c1, c2, c3⟩ := HQ0.out.cells
  show Calls Try.prog 4 #[.agg #[.int .i64 t.k, .int .i64 t.n, .string t.s, .slice ao t.l.length cap]] w _
  clear hl hs
  cases hBg : t.Big with
  | true =>
    rw [hBg] at HLT
    clear hBg
    go_enter Try.func4, Try.ntmps4
    go_wp2_with fail
    refine (HLT.out _ HO0.out).mono ?_
    rintro e w1 ⟨rfl, ho1⟩
    have HO1 := Lib.hid (HO0.out.same ho1)
    clear ho1 c0 c1 c2 c3
    go_wp2_with fail
    refine (HLV.out _).mono ?_
    rintro e w2 ⟨rfl, ho2⟩
    have HO2 := Lib.hid (HO1.out.same ho2)
    clear ho2
    go_wp2_with fail
    go_ret
    exact ⟨rfl, HO2.out.to_below⟩
  | false =>
    rw [hBg] at HLT
    have HSZ : Hid (t.size ≤ 6000) := Lib.hid (T.few hBg)
    have HFR : Hid (∀ W, Only (fun _ => False) w W → Calls Try.prog 16 #[tv t ao cap] W (AnsFrom (fromF t) W)) := Lib.hid (fun W o => From_any t ao cap W HS.out (HL.out.later o) (by have := HSZ.out; omega))
    clear hBg
    go_enter Try.func4, Try.ntmps4
    go_wp2_with fail
    generalize w.alloc (.cells #[.int .i64 t.k, .int .i64 t.n, .string t.s, .slice ao t.l.length cap] 24) = E at *
    refine (HLT.out _ HO0.out).mono ?_
    rintro e w1 ⟨rfl, ho1⟩
    have HO1 := Lib.hid (HO0.out.same ho1)
    have HQ1 := Lib.hid (HQ0.out.only ho1 (fun e => e))
    clear ho1 c0 c1 c2 c3
    obtain ⟨c0, c1, c2, c3⟩ := HQ1.out.cells
    go_wp2_with fail
    refine (HFR.out _ HO1.out).mono ?_
    rintro e w2 ha
    clear c0 c1 c2 c3 HFR HLT
    cases hF : fromF t with
    | ball x =>
      rw [hF] at ha
      obtain ⟨a, p, rfl, _, ho2⟩ := ha
      have HO2 := Lib.hid (HO1.out.same ho2)
      clear hF ho2
      have HO3 : Hid (Only (fun _ => False) w2 ((w2.alloc (.cells #[.int .i64 0, .int .i64 0, .string ⟨#[]⟩, .slice none 0 0, .slice none 0 0, .int .i64 0] 37)).alloc (.cells #[.int .i64 4, .int .i64 0, .string nError, .slice a 1 p] 24))) := Lib.hid ((Only.alloc _ _ _).same (Only.alloc _ _ _))
      go_wp2_with fail
      refine (HLV.out _).mono ?_
      rintro e w4 ⟨rfl, ho4⟩
      have HO4 := Lib.hid (HO2.out.same (HO3.out.same ho4))
      clear ho4
      go_wp2_with fail
      refine (HLV.out _).mono ?_
      rintro e w5 ⟨rfl, ho5⟩
      have HO5 := Lib.hid (HO4.out.same ho5)
      clear ho5
      go_wp2_with fail
      go_ret
      exact ⟨rfl, HO5.out.to_below⟩
    | cl h gs n =>
      rw [hF] at ha
      obtain ⟨ho, hc, go, gc, gl, rfl, hcl, ho2⟩ := ha
      have HC2 := Lib.hid hcl
      have HO2 := Lib.hid (HO1.out.same ho2)
      have hgl : gl.length ≤ 64 := by
        have h1 := (from_parts hF).2.2.1
        have h2 := congrArg List.length hcl.eq
        rw [List.length_map] at h2
        omega
      have hbz : (backT h gs).size ≤ 900000 := by have := back_size hF; have := HSZ.out; omega
      have HVK := Lib.hid (cl_kind (backT h gs))
      have HVS : Hid ((clF (backT h gs)).Sane) := Lib.hid (back_sane hcl.sane)
      have HBK : Hid (∀ W, Only (fun _ => False) w2 W → Calls Try.prog 17 #[.agg #[.int .i64 h.k, .int .i64 h.n, .string h.s, .slice ho h.l.length hc, .slice go gl.length gc, .int .i64 n]] W fun e w' => ∃ a c, e = .returned (.agg #[.int .i64 (clF (backT h gs)).k, .int .i64 (clF (backT h gs)).n, .string (clF (backT h gs)).s, .slice a (clF (backT h gs)).l.length c]) ∧ Lies w' a (clF (backT h gs)).l ∧ Only (fun _ => False) W w') := Lib.hid (fun W o => Back_any h gs ho hc go gc gl n W (HC2.out.later o) (by omega) hbz)
      have HRB : Hid (∀ W, Only (fun _ => False) w2 W → Calls Try.prog 19 #[.agg #[.int .i64 h.k, .int .i64 h.n, .string h.s, .slice ho h.l.length hc, .slice go gl.length gc, .int .i64 n]] W fun e w' => ∃ a c, e = .returned (.agg #[.int .i64 (clF (backT h gs)).k, .int .i64 (clF (backT h gs)).n, .string (clF (backT h gs)).s, .slice a (clF (backT h gs)).l.length c]) ∧ Lies w' a (clF (backT h gs)).l ∧ Only (fun _ => False) W w') := Lib.hid (fun W o => rBack_any h gs ho hc go gc gl n W (HC2.out.later o) (by omega) hbz)
      have HSM : Hid (∀ (ho' : Option Addr) (hc' : Nat) (go' : Option Addr) (gc' : Nat) (gl' : List Gl) (W : World), Only (fun _ => False) w2 W → ClI h gs ho' go' gc' gl' W → Calls Try.prog 20 #[.agg #[.int .i64 h.k, .int .i64 h.n, .string h.s, .slice ho' h.l.length hc', .slice go' gl'.length gc', .int .i64 n], .agg #[.int .i64 h.k, .int .i64 h.n, .string h.s, .slice ho h.l.length hc, .slice go gl.length gc, .int .i64 n]] W fun e w' => e = .returned (.bool true) ∧ Only (fun _ => False) W w') := Lib.hid (fun ho' hc' go' gc' gl' W o H' => rSame_any h gs n ho' ho go' go hc' hc gc' gc gl' gl W H' (HC2.out.later o) (by
        have h1 := congrArg List.length H'.eq
        have h2 := congrArg List.length HC2.out.eq
        rw [List.length_map] at h1 h2
        omega))
      obtain ⟨V, hV⟩ : ∃ V, clF (backT h gs) = V := ⟨_, rfl⟩
      rw [hV] at HVS
      have HFB : Hid (V.Ok → V = backT h gs → ∀ (a : Option Addr) (c : Nat) (W : World), Lies W a V.l → Calls Try.prog 16 #[.agg #[.int .i64 V.k, .int .i64 V.n, .string V.s, .slice a V.l.length c]] W (AnsFrom (.cl h gs n) W)) := Lib.hid (fun hok hcb a c W hlv => by
        have HVS' := HVS.out
        rw [hcb] at hok hlv HVS' ⊢
        have := From_any (backT h gs) a c W HVS' hlv hbz
        rwa [from_back hF hok] at this)
      simp only [hV] at HBK HRB HVK
      have HEX : Hid (∀ (a b : Option Addr) (p q : Nat) (W : World), Lies W a V.l → Lies W b V.l → Calls Try.prog 18 #[.agg #[.int .i64 V.k, .int .i64 V.n, .string V.s, .slice a V.l.length p], .agg #[.int .i64 V.k, .int .i64 V.n, .string V.s, .slice b V.l.length q]] W fun e w' => e = .returned (.bool true) ∧ Only (fun _ => False) W w') := Lib.hid (fun a b p q W h1 h2 => by
        have := exact_any V V W a b p q h1 HVS.out h2 HVS.out
        rwa [T.eqb_refl] at this)
      clear hF hcl ho2 hV hgl hbz
      have HX3 : Hid (Hex w2.heap.size (.int .i64 h.k) (.int .i64 h.n) (.string h.s) (.slice ho h.l.length hc) (.slice go gl.length gc) (.int .i64 n) ((w2.alloc (.cells #[.int .i64 h.k, .int .i64 h.n, .string h.s, .slice ho h.l.length hc, .slice go gl.length gc, .int .i64 n] 37)).alloc (.cells #[.int .i64 0, .int .i64 0, .string ⟨#[]⟩, .slice none 0 0] 24))) := Lib.hid (at20 _ _ _)
      have HO3 : Hid (Only (fun _ => False) w2 ((w2.alloc (.cells #[.int .i64 h.k, .int .i64 h.n, .string h.s, .slice ho h.l.length hc, .slice go gl.length gc, .int .i64 n] 37)).alloc (.cells #[.int .i64 0, .int .i64 0, .string ⟨#[]⟩, .slice none 0 0] 24))) := Lib.hid ((Only.alloc _ _ _).same (Only.alloc _ _ _))
      go_wp2_with fail
      generalize (w2.alloc (.cells #[.int .i64 h.k, .int .i64 h.n, .string h.s, .slice ho h.l.length hc, .slice go gl.length gc, .int .i64 n] 37)).alloc (.cells #[.int .i64 0, .int .i64 0, .string ⟨#[]⟩, .slice none 0 0] 24) = w3 at *
      generalize w2.heap.size = bc at *
      refine (HLV.out _).mono ?_
      rintro e w4 ⟨rfl, ho4⟩
      have HO4 := Lib.hid (HO3.out.same ho4)
      have HX4 := Lib.hid (HX3.out.only ho4 (fun e => e))
      clear ho4
      obtain ⟨x0, x1, x2, x3, x4, x5⟩ := HX4.out.cells
      go_wp2_with fail
      refine (HBK.out _ HO4.out).mono ?_
      rintro e w5 ⟨a5, p5, rfl, hl5, ho5⟩
      have o6 : Only (fun _ => False) w5 (w5.alloc (.cells #[.int .i64 V.k, .int .i64 V.n, .string V.s, .slice a5 V.l.length p5] 24)) := Only.alloc _ _ _
      have HU6 : Hid (Quad w5.heap.size (.int .i64 V.k) (.int .i64 V.n) (.string V.s) (.slice a5 V.l.length p5) (w5.alloc (.cells #[.int .i64 V.k, .int .i64 V.n, .string V.s, .slice a5 V.l.length p5] 24))) := Lib.hid (heap_alloc_new w5 _)
      have HX6 := Lib.hid (HX4.out.only (ho5.same o6) (fun e => e))
      have HO6 := Lib.hid (HO4.out.same (ho5.same o6))
      have HL6 := Lib.hid (hl5.later o6)
      clear hl5 ho5 o6 x0 x1 x2 x3 x4 x5
      go_upto_region 7 with fail
      generalize w5.alloc (.cells #[.int .i64 V.k, .int .i64 V.n, .string V.s, .slice a5 V.l.length p5] 24) = w6 at *
      generalize w5.heap.size = bu at *
      have HK : Hid (∀ W, Only (fun _ => False) w6 W → (W.cell? ⟨bu, 0, none⟩ = some (.int .i64 V.k) ∧ W.cell? ⟨bu, 1, none⟩ = some (.int .i64 V.n) ∧ W.cell? ⟨bu, 2, none⟩ = some (.string V.s) ∧ W.cell? ⟨bu, 3, none⟩ = some (.slice a5 V.l.length p5)) ∧ W.cell? ⟨bc, 0, none⟩ = some (.int .i64 h.k) ∧ W.cell? ⟨bc, 1, none⟩ = some (.int .i64 h.n) ∧ W.cell? ⟨bc, 2, none⟩ = some (.string h.s) ∧ W.cell? ⟨bc, 3, none⟩ = some (.slice ho h.l.length hc) ∧ W.cell? ⟨bc, 4, none⟩ = some (.slice go gl.length gc) ∧ W.cell? ⟨bc, 5, none⟩ = some (.int .i64 n)) := Lib.hid (fun W o => ⟨(HU6.out.only o (fun e => e)).cells, (HX6.out.only o (fun e => e)).cells⟩)
      go_region_held3 (fun W => (W.cell? ⟨bu, 0, none⟩ = some (.int .i64 V.k) ∧ W.cell? ⟨bu, 1, none⟩ = some (.int .i64 V.n) ∧ W.cell? ⟨bu, 2, none⟩ = some (.string V.s) ∧ W.cell? ⟨bu, 3, none⟩ = some (.slice a5 V.l.length p5)) ∧ W.cell? ⟨bc, 0, none⟩ = some (.int .i64 h.k) ∧ W.cell? ⟨bc, 1, none⟩ = some (.int .i64 h.n) ∧ W.cell? ⟨bc, 2, none⟩ = some (.string h.s) ∧ W.cell? ⟨bc, 3, none⟩ = some (.slice ho h.l.length hc) ∧ W.cell? ⟨bc, 4, none⟩ = some (.slice go gl.length gc) ∧ W.cell? ⟨bc, 5, none⟩ = some (.int .i64 n)) (with_reducible first | exact HK.out _ HO8.out | exact HK.out _ HO7.out | exact HK.out _ (Only.drew _ _) | exact HK.out _ (Only.refl _ _)) (first
        | (go_at_call 19; refine (HRB.out _ (HO6.out.same (by with_reducible first | exact Only.drew _ _ | exact Only.refl _ _))).mono ?_; rintro e w7 ⟨a7, p7, rfl, hl7, ho7⟩; have HO7 : Hid (Only (fun _ => False) w6 w7) := Lib.hid (Only.same (by with_reducible first | exact Only.drew _ _ | exact Only.refl _ _) ho7); have HL7 := Lib.hid hl7; clear hl7 ho7)
        | (go_at_call 18; refine (HEX.out _ _ _ _ _ (HL6.out.later HO7.out) HL7.out).mono ?_; rintro e w8 ⟨rfl, ho8⟩; have HO8 : Hid (Only (fun _ => False) w6 w8) := Lib.hid (HO7.out.same ho8); clear ho8))
      all_goals
        have HU8 := Lib.hid (HU6.out.only HO8.out (fun e => e))
        have HX8 := Lib.hid (HX6.out.only HO8.out (fun e => e))
        obtain ⟨u0, u1, u2, u3⟩ := HU8.out.cells
        rcases HVK.out with ⟨hok, hcb, hk0⟩ | hzero
        · rw [← hcb] at hok hk0
          have HOK := Lib.hid hok
          have HCB := Lib.hid hcb
          clear hok hcb
          go_wp2_with fail
          refine (HFB.out HOK.out HCB.out _ _ _ (HL6.out.later HO8.out)).mono ?_
          rintro e w9 ⟨ho9, hc9, go9, gc9, gl9, rfl, hcl9, o9⟩
          have HCL9 := Lib.hid hcl9
          have HO9 : Hid (Only (fun _ => False) w6 w9) := Lib.hid (HO8.out.same o9)
          clear hcl9 o9 u0 u1 u2 u3
          have HOE : Hid (Only (fun _ => False) w9 ((w9.alloc (.cells #[.int .i64 h.k, .int .i64 h.n, .string h.s, .slice ho9 h.l.length hc9, .slice go9 gl9.length gc9, .int .i64 n] 37)).alloc (.cells #[.int .i64 0, .int .i64 0, .string ⟨#[]⟩, .slice none 0 0] 24))) := Lib.hid ((Only.alloc _ _ _).same (Only.alloc _ _ _))
          have HD : Hid (Hex w9.heap.size (.int .i64 h.k) (.int .i64 h.n) (.string h.s) (.slice ho9 h.l.length hc9) (.slice go9 gl9.length gc9) (.int .i64 n) ((w9.alloc (.cells #[.int .i64 h.k, .int .i64 h.n, .string h.s, .slice ho9 h.l.length hc9, .slice go9 gl9.length gc9, .int .i64 n] 37)).alloc (.cells #[.int .i64 0, .int .i64 0, .string ⟨#[]⟩, .slice none 0 0] 24))) := Lib.hid (at20 _ _ _)
          have HXE := Lib.hid (HX6.out.only (HO9.out.same HOE.out) (fun e => e))
          obtain ⟨x0, x1, x2, x3, x4, x5⟩ := HXE.out.cells
          obtain ⟨d0, d1, d2, d3, d4, d5⟩ := HD.out.cells
          go_wp2_with fail
          refine (HSM.out _ _ _ _ _ _ (HO6.out.same (HO9.out.same HOE.out)) (HCL9.out.later HOE.out)).mono ?_
          rintro e w10 ⟨rfl, ho10⟩
          have HO10 := Lib.hid (HO2.out.same (HO6.out.same (HO9.out.same (HOE.out.same ho10))))
          clear ho10
          go_wp2_with fail
          go_ret
          exact ⟨rfl, HO10.out.to_below⟩
        · have hk1 : (V.k == 0) = true := by rw [hzero]; rfl
          clear hzero
          go_wp2_with fail
          go_ret
          exact ⟨rfl, (HO2.out.same (HO6.out.same HO8.out)).to_below⟩
end Go.Proofs.Ytoogmlgaeipenaa.terms
