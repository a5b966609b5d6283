/- Clauses: the law ClauseJoins. -/
import Derived.Test.YtoogmlgaeipenaaClause31
import Derived.Test.YtoogmlgaeipenaaClause27
namespace Go.Proofs.Ytoogmlgaeipenaa.terms
set_option maxRecDepth 100000
open Go.RowKit Go.Proofs.Ytoogmlgaeipenaa.own Go.Maps
theorem wp_append_many_if {α : Type} {enc : α → List Value} {s : Nat} {P : Program} {ops : Array Oper} {rest : List Oper} {o : Oper} {a : Act} {Q : Exit → Act → World → Prop} (L : Go.Proofs.Ytoogmlgaeipenaa.own.Lies enc s) (hw : Region.wanted o (yielded ops a.tmps) = true) (sl x : Operand) (t : TypeId)
    (ho : o.op = .call { callee := .builtin .append, args := #[sl, x], argTypes := #[t, t] }) (B E : Nat) (i : TypeInfo) (zz : Value) (by_ : Nat) (ht : P.underlying t = some (.slice E)) (hi : P.info? E = some i) (hz : i.zero = some zz) (hsize : i.size = s) (hby : i.bytes = by_) (hzs : zz.cells.size = s) (hbb : by_ ≤ 1024)
    (W : World) (ao : Option Addr) (cap : Nat) (xs : List α) (hs : a.eval sl = .slice ao xs.length cap) (hrow : RowOf enc s E B ao cap xs W) (bo : Option Addr) (bcap : Nat) (ys : List α) (hx : a.eval x = .slice bo ys.length bcap) (hsrc : SrcOf enc W bo ys) (hlen : xs.length + ys.length ≤ 16777216) (hB : B ≤ W.heap.size)
    (h : ∀ ao' cap' w', RowOf enc s E B ao' cap' (xs ++ ys) w' → Only (RowAt ao) W w' → NewRow W.heap.size ao ao' → wpList P ops Q rest (a.put o.dst (.slice ao' (xs.length + ys.length) cap')) w') :
    wpList P ops Q (o :: rest) a W := by
  refine BigFrame.wpList_want hw fun K hK => ?_
  obtain ⟨ao', cap', w', hr, h1, h2, h3⟩ := run_append_many (P := P) L t o.type B E i zz by_ ht hi hz hsize hby hzs hbb W ao cap xs hrow bo bcap ys hsrc hlen hB
  unfold Oper.wp execOp
  simp only [ho, resolve, invoke, builtin, Sem.run_bind, Sem.run_pure, Result.andThen_ok, List.map_toArray, List.map_cons, List.map_nil, hs, hx, hr]
  exact hK _ _ (h ao' cap' w' h1 h2 h3)
def okB : T ⊕ List T → Bool
  | .inl _ => false
  | .inr _ => true
def gsB : T ⊕ List T → List T
  | .inl _ => []
  | .inr g => g
theorem ansBody_tv {R : T ⊕ List T} {w w' : World} {e : Ending} (h : AnsBody R w e w') : ∃ (go : Option Addr) (gc : Nat) (gl : List Gl) (K : Int) (S : ByteArray) (a : Option Addr) (L p : Nat), e = .returned (.tuple #[.slice go gl.length gc, .agg #[.int .i64 K, .int .i64 0, .string S, .slice a L p], .bool (okB R)]) ∧ GlP 0 go gc gl w' ∧ GoodG (· < w'.heap.size) w' gl ∧ gl.map (·.x.t) = gsB R ∧ Only (fun _ => False) w w' := by
  cases R with
  | inl x =>
    obtain ⟨a, p, h1, _, h3⟩ := h
    exact ⟨none, 0, [], 4, nError, a, 1, p, h1, RowOf.nil _ _ _ _ _, fun g hg => (List.not_mem_nil hg).elim, rfl, h3⟩
  | inr gs =>
    obtain ⟨go, gc, gl, h1, h2, h3, h4, h5⟩ := h
    exact ⟨go, gc, gl, 0, ⟨#[]⟩, none, 0, 0, h1, h2, h3, h4, h5⟩
theorem body_ok {t : T} (h : okB (bodyF t) = true) : rcheckF t = 0 ∧ gsB (bodyF t) = goalsF (flatF t) ∧ intsF (flatF t) = [] := by
  unfold bodyF at *
  by_cases h0 : rcheckF t = 0
  · rw [if_pos h0] at h ⊢
    unfold bodyU at *
    by_cases h1 : 64 < (goalsF (flatF t)).length
    · rw [if_pos h1] at h; cases h
    · rw [if_neg h1] at h ⊢
      unfold uncF at *
      cases hi : intsF (flatF t) with
      | nil => exact ⟨h0, rfl, rfl⟩
      | cons x r => rw [hi] at h; cases h
  · rw [if_neg h0] at h; cases h
theorem gs_len (t : T) : (gsB (bodyF t)).length ≤ 64 := by
  unfold bodyF
  split
  · unfold bodyU
    split
    · exact Nat.zero_le _
    · unfold uncF
      cases intsF (flatF t) with
      | nil => show (goalsF (flatF t)).length ≤ 64; omega
      | cons x r => exact Nat.zero_le _
  · exact Nat.zero_le _
theorem joins_plain {a b : T} (ha : okB (bodyF a) = true) (hb : okB (bodyF b) = true) (hn : (gsB (bodyF a)).length + (gsB (bodyF b)).length ≤ 64) (hc : rcheckF (T.mk 4 0 nComma [a, b]) = 0) : okB (bodyF (T.mk 4 0 nComma [a, b])) = true ∧ gsB (bodyF (T.mk 4 0 nComma [a, b])) = gsB (bodyF a) ++ gsB (bodyF b) := by
  suffices key : bodyF (T.mk 4 0 nComma [a, b]) = .inr (gsB (bodyF a) ++ gsB (bodyF b)) by rw [key]; exact ⟨rfl, rfl⟩
  obtain ⟨_, a1, a2⟩ := body_ok ha
  obtain ⟨_, b1, b2⟩ := body_ok hb
  rw [a1, b1] at hn ⊢
  have hf : flatF (T.mk 4 0 nComma [a, b]) = flatF a ++ flatF b := flat_two (goes_of (.inr rfl) rfl rfl) rfl
  have hg : goalsF (flatF (T.mk 4 0 nComma [a, b])) = goalsF (flatF a) ++ goalsF (flatF b) := by rw [hf, goals_append]
  have hi : intsF (flatF (T.mk 4 0 nComma [a, b])) = [] := by rw [hf, ints_append, a2, b2]; rfl
  unfold bodyF
  rw [if_pos hc, bodyU_ok (by rw [hg, List.length_append]; omega) (by unfold uncF; rw [hi]), hg]
theorem emptyRowG {W : World} {n B : Nat} (h : W.heap[n]? = some (.cells #[] 59 (0, 0))) (hB : B ≤ n) : GlP B (some ⟨n, 0, none⟩) 0 [] W := ⟨rfl, .inr ⟨n, 0, _, rfl, hB, h, Nat.le_refl _, Nat.zero_le _, rfl, rfl⟩⟩
set_option maxHeartbeats 16000000 in
theorem law_joins (ao bo : Option Addr) (cap bcap : Nat) (a b : T) (w : World) (hl : Lies w ao a.l) (hs : a.Sane) (hl' : Lies w bo b.l) (hs' : b.Sane) :
    Calls Try.prog 7 #[tv a ao cap, tv b bo bcap] w fun e w' => e = .returned (.bool true) ∧ Below w.heap.size w w' := by
  have HLV := Lib.hid (fun W => clauseLives_any W)
  have HA0 : Hid (Quad w.heap.size (.int .i64 a.k) (.int .i64 a.n) (.string a.s) (.slice ao a.l.length cap) ((w.alloc (.cells #[.int .i64 a.k, .int .i64 a.n, .string a.s, .slice ao a.l.length cap] 24)).alloc (.cells #[.int .i64 b.k, .int .i64 b.n, .string b.s, .slice bo b.l.length bcap] 24))) := Lib.hid (at20 _ _ _)
  have HB0 : Hid (Quad (w.heap.size + 1) (.int .i64 b.k) (.int .i64 b.n) (.string b.s) (.slice bo b.l.length bcap) ((w.alloc (.cells #[.int .i64 a.k, .int .i64 a.n, .string a.s, .slice ao a.l.length cap] 24)).alloc (.cells #[.int .i64 b.k, .int .i64 b.n, .string b.s, .slice bo b.l.length bcap] 24))) := Lib.hid (at21 _ _ _)
  have HO0 : Hid (Only (fun _ => False) w ((w.alloc (.cells #[.int .i64 a.k, .int .i64 a.n, .string a.s, .slice ao a.l.length cap] 24)).alloc (.cells #[.int .i64 b.k, .int .i64 b.n, .string b.s, .slice bo b.l.length bcap] 24))) := Lib.hid ((Only.alloc _ _ _).same (Only.alloc _ _ _))
  have HLTA : Hid (∀ W, Only (fun _ => False) w W → Calls Try.prog 14 #[.agg #[.int .i64 a.k, .int .i64 a.n, .string a.s, .slice ao a.l.length cap]] W fun e w' => e = .returned (.bool a.Big) ∧ Only (fun _ => False) W w') := Lib.hid (fun W ho => rlarge_any a W ao cap (hl.later ho) hs)
  have HLTB : Hid (∀ W, Only (fun _ => False) w W → Calls Try.prog 14 #[.agg #[.int .i64 b.k, .int .i64 b.n, .string b.s, .slice bo b.l.length bcap]] W fun e w' => e = .returned (.bool b.Big) ∧ Only (fun _ => False) W w') := Lib.hid (fun W ho => rlarge_any b W bo bcap (hl'.later ho) hs')
  have HL := Lib.hid hl
  have HL' := Lib.hid hl'
  have HS := Lib.hid hs
  have HS' := Lib.hid hs'
  obtain ⟨c0, c1, c2, c3⟩ := HA0.out.cells
  show Calls Try.prog 7 #[.agg #[.int .i64 a.k, .int .i64 a.n, .string a.s, .slice ao a.l.length cap], .agg #[.int .i64 b.k, .int .i64 b.n, .string b.s, .slice bo b.l.length bcap]] w _
  clear hl hs hl' hs'
  cases hBa : a.Big with
  | true =>
    rw [hBa] at HLTA
    clear hBa
    go_enter Try.func7, Try.ntmps7
    go_wp2_with fail
    refine (HLTA.out _ HO0.out).mono ?_
    rintro e w1 ⟨rfl, ho1⟩
    have HO1 := Lib.hid (HO0.out.same ho1)
    clear ho1 c0 c1 c2 c3
    go_wp2_with fail
    refine (HLV.out _).mono ?_
    rintro e w2 ⟨rfl, ho2⟩
    have HO2 := Lib.hid (HO1.out.same ho2)
    clear ho2
    go_wp2_with fail
    go_ret
    exact ⟨rfl, HO2.out.to_below⟩
  | false =>
    rw [hBa] at HLTA
    have HSZA : Hid (a.size ≤ 6000) := Lib.hid (T.few hBa)
    clear hBa
    go_enter Try.func7, Try.ntmps7
    go_wp2_with fail
    generalize (w.alloc (.cells #[.int .i64 a.k, .int .i64 a.n, .string a.s, .slice ao a.l.length cap] 24)).alloc (.cells #[.int .i64 b.k, .int .i64 b.n, .string b.s, .slice bo b.l.length bcap] 24) = E at *
    refine (HLTA.out _ HO0.out).mono ?_
    rintro e w1 ⟨rfl, ho1⟩
    have HO1 := Lib.hid (HO0.out.same ho1)
    have HA1 := Lib.hid (HA0.out.only ho1 (fun e => e))
    have HB1 := Lib.hid (HB0.out.only ho1 (fun e => e))
    clear ho1 c0 c1 c2 c3 HA0 HB0 HO0
    obtain ⟨b0, b1, b2, b3⟩ := HB1.out.cells
    go_wp2_with fail
    refine (HLTB.out _ HO1.out).mono ?_
    rintro e w2 ⟨rfl, ho2⟩
    have HO2 := Lib.hid (HO1.out.same ho2)
    have HA2 := Lib.hid (HA1.out.only ho2 (fun e => e))
    have HB2 := Lib.hid (HB1.out.only ho2 (fun e => e))
    clear ho2 b0 b1 b2 b3 HA1 HB1 HO1
    cases hBb : b.Big with
    | true =>
      clear hBb
      go_wp2_with fail
      refine (HLV.out _).mono ?_
      rintro e w3 ⟨rfl, ho3⟩
      have HO3 := Lib.hid (HO2.out.same ho3)
      clear ho3
      go_wp2_with fail
      go_ret
      exact ⟨rfl, HO3.out.to_below⟩
    | false =>
      have HSZB : Hid (b.size ≤ 6000) := Lib.hid (T.few hBb)
      clear hBb
      have HBA : Hid (∀ W, Only (fun _ => False) w W → Calls Try.prog 27 #[.agg #[.int .i64 a.k, .int .i64 a.n, .string a.s, .slice ao a.l.length cap]] W fun e w' => ∃ (go : Option Addr) (gc : Nat) (gl : List Gl) (K : Int) (S : ByteArray) (a' : Option Addr) (L p : Nat), e = .returned (.tuple #[.slice go gl.length gc, .agg #[.int .i64 K, .int .i64 0, .string S, .slice a' L p], .bool (okB (bodyF a))]) ∧ GlP 0 go gc gl w' ∧ GoodG (· < w'.heap.size) w' gl ∧ gl.map (·.x.t) = gsB (bodyF a) ∧ Only (fun _ => False) W w') := Lib.hid (fun W o => (Body_any a ao cap W HS.out (HL.out.later o) (by have := HSZA.out; omega)).mono (fun e w' h => ansBody_tv h))
      have HBB : Hid (∀ W, Only (fun _ => False) w W → Calls Try.prog 27 #[.agg #[.int .i64 b.k, .int .i64 b.n, .string b.s, .slice bo b.l.length bcap]] W fun e w' => ∃ (go : Option Addr) (gc : Nat) (gl : List Gl) (K : Int) (S : ByteArray) (a' : Option Addr) (L p : Nat), e = .returned (.tuple #[.slice go gl.length gc, .agg #[.int .i64 K, .int .i64 0, .string S, .slice a' L p], .bool (okB (bodyF b))]) ∧ GlP 0 go gc gl w' ∧ GoodG (· < w'.heap.size) w' gl ∧ gl.map (·.x.t) = gsB (bodyF b) ∧ Only (fun _ => False) W w') := Lib.hid (fun W o => (Body_any b bo bcap W HS'.out (HL'.out.later o) (by have := HSZB.out; omega)).mono (fun e w' h => ansBody_tv h))
      have HCS : Hid ((T.mk 4 0 nComma [a, b]).Sane ∧ (T.mk 4 0 nComma [a, b]).size ≤ 900000) := Lib.hid ⟨sane_comp (by decide +kernel) (by show 2 ≤ maxLen; exact small_lit (by omega)), by have h1 := HSZA.out; have h2 := HSZB.out; rw [T.size_eq]; simp only [T.l, sizes]; omega⟩
      have HBC : Hid (∀ (a' : Option Addr) (c : Nat) (W : World), Lies W a' [a, b] → Calls Try.prog 27 #[.agg #[.int .i64 4, .int .i64 0, .string ⟨#[44]⟩, .slice a' 2 c]] W fun e w' => ∃ (go : Option Addr) (gc : Nat) (gl : List Gl) (K : Int) (S : ByteArray) (a' : Option Addr) (L p : Nat), e = .returned (.tuple #[.slice go gl.length gc, .agg #[.int .i64 K, .int .i64 0, .string S, .slice a' L p], .bool (okB (bodyF (T.mk 4 0 nComma [a, b])))]) ∧ GlP 0 go gc gl w' ∧ GoodG (· < w'.heap.size) w' gl ∧ gl.map (·.x.t) = gsB (bodyF (T.mk 4 0 nComma [a, b])) ∧ Only (fun _ => False) W w') := Lib.hid (fun a' c W h => (Body_any (T.mk 4 0 nComma [a, b]) a' c W HCS.out.1 h HCS.out.2).mono (fun e w' h => ansBody_tv h))
      have HCK : Hid (∀ (a' : Option Addr) (c : Nat) (W : World), Lies W a' [a, b] → Calls Try.prog 10 #[.agg #[.int .i64 4, .int .i64 0, .string ⟨#[44]⟩, .slice a' 2 c]] W fun e w' => e = .returned (.int .i64 (rcheckF (T.mk 4 0 nComma [a, b]))) ∧ Only (fun _ => False) W w') := Lib.hid (fun a' c W h => rCheck_any (T.mk 4 0 nComma [a, b]) W a' c h HCS.out.1 (by have := depth_le_size (T.mk 4 0 nComma [a, b]); have := HCS.out.2; omega) (by have := HCS.out.2; omega))
      have HPL := Lib.hid (@joins_plain a b)
      have HGA := Lib.hid (gs_len a)
      have HGB := Lib.hid (gs_len b)
      have HGC := Lib.hid (gs_len (T.mk 4 0 nComma [a, b]))
      generalize rcheckF (T.mk 4 0 nComma [a, b]) = CK at *
      generalize okB (bodyF (T.mk 4 0 nComma [a, b])) = oc at *
      generalize gsB (bodyF (T.mk 4 0 nComma [a, b])) = gcs at *
      generalize okB (bodyF a) = oa at *
      generalize gsB (bodyF a) = ga at *
      generalize okB (bodyF b) = ob at *
      generalize gsB (bodyF b) = gb at *
      obtain ⟨a0, a1, a2, a3⟩ := HA2.out.cells
      go_wp2_with fail
      refine (HBA.out _ HO2.out).mono ?_
      rintro e w3 ⟨xo, xc, xl, K3, S3, p3, L3, q3, rfl, hxr, hxg, hxm, ho3⟩
      have o4 : Only (fun _ => False) w3 (w3.alloc (.cells #[.int .i64 K3, .int .i64 0, .string S3, .slice p3 L3 q3] 24)) := Only.alloc _ _ _
      have HO4 := Lib.hid (HO2.out.same (ho3.same o4))
      have HA4 := Lib.hid (HA2.out.only (ho3.same o4) (fun e => e))
      have HB4 := Lib.hid (HB2.out.only (ho3.same o4) (fun e => e))
      have HXR : Hid (∀ W, Only (fun _ => False) w3 W → GlP 0 xo xc xl W ∧ GoodG (· < W.heap.size) W xl) := Lib.hid (fun W o => ⟨hxr.only o (fun _ _ e => e), (hxg.only o (fun _ h => h) (fun _ _ e => e)).mono (fun _ h => Nat.lt_of_lt_of_le h o.size)⟩)
      have HXM := Lib.hid hxm
      have HO34 := Lib.hid o4
      clear hxr hxg hxm ho3 o4 a0 a1 a2 a3 HA2 HB2 HO2
      obtain ⟨b0, b1, b2, b3⟩ := HB4.out.cells
      go_wp2_with fail
      generalize w3.alloc (.cells #[.int .i64 K3, .int .i64 0, .string S3, .slice p3 L3 q3] 24) = w4 at *
      refine (HBB.out _ HO4.out).mono ?_
      rintro e w5 ⟨yo, yc, yl, K5, S5, p5, L5, q5, rfl, hyr, hyg, hym, ho5⟩
      have o6 : Only (fun _ => False) w5 (w5.alloc (.cells #[.int .i64 K5, .int .i64 0, .string S5, .slice p5 L5 q5] 24)) := Only.alloc _ _ _
      have HO36 := Lib.hid (HO34.out.same (ho5.same o6))
      have HO6 := Lib.hid (HO4.out.same (ho5.same o6))
      have HA6 := Lib.hid (HA4.out.only (ho5.same o6) (fun e => e))
      have HB6 := Lib.hid (HB4.out.only (ho5.same o6) (fun e => e))
      have HYR : Hid (∀ W, Only (fun _ => False) w5 W → GlP 0 yo yc yl W ∧ GoodG (· < W.heap.size) W yl) := Lib.hid (fun W o => ⟨hyr.only o (fun _ _ e => e), (hyg.only o (fun _ h => h) (fun _ _ e => e)).mono (fun _ h => Nat.lt_of_lt_of_le h o.size)⟩)
      have HYM := Lib.hid hym
      have HO56 := Lib.hid o6
      clear hyr hyg hym ho5 o6 b0 b1 b2 b3 HA4 HB4 HO4
      obtain ⟨a0, a1, a2, a3⟩ := HA6.out.cells
      obtain ⟨b0, b1, b2, b3⟩ := HB6.out.cells
      have HWS : Hid ((w5.alloc (.cells #[.int .i64 K5, .int .i64 0, .string S5, .slice p5 L5 q5] 24)).heap.size = w5.heap.size + 1) := Lib.hid (by simp)
      go_wp2_with fail
      generalize w5.alloc (.cells #[.int .i64 K5, .int .i64 0, .string S5, .slice p5 L5 q5] 24) = w6 at *
      refine (rComp_two (P := (· < w6.heap.size)) ⟨#[44]⟩ a b ao bo cap bcap w6 _ HWS.out (by decide +kernel) HS.out (HL.out.later HO6.out) HS'.out (HL'.out.later HO6.out) (fun _ h => h)).mono ?_
      rintro e w7 ⟨a7, c7, rfl, hr7, ho7⟩
      have hl7 : Lies w7 a7 [a, b] := hr7.mono (fun k hk => by
        rcases hk with hk | hk
        · exact Nat.lt_of_lt_of_le hk ho7.size
        · exact hk.2)
      have o8 : Only (fun _ => False) w7 (w7.alloc (.cells #[.int .i64 4, .int .i64 0, .string ⟨#[44]⟩, .slice a7 2 c7] 24)) := Only.alloc _ _ _
      have HC8 : Hid (Quad w7.heap.size (.int .i64 4) (.int .i64 0) (.string ⟨#[44]⟩) (.slice a7 2 c7) (w7.alloc (.cells #[.int .i64 4, .int .i64 0, .string ⟨#[44]⟩, .slice a7 2 c7] 24))) := Lib.hid (heap_alloc_new w7 _)
      have HL8 := Lib.hid (hl7.later o8)
      have HO68 := Lib.hid (ho7.same o8)
      clear hr7 hl7 ho7 o8 a0 a1 a2 a3 b0 b1 b2 b3 HA6 HB6
      obtain ⟨d0, d1, d2, d3⟩ := HC8.out.cells
      go_wp2_with fail
      generalize w7.alloc (.cells #[.int .i64 4, .int .i64 0, .string ⟨#[44]⟩, .slice a7 2 c7] 24) = w8 at *
      generalize w7.heap.size = bc at *
      refine (HBC.out _ _ _ HL8.out).mono ?_
      rintro e w9 ⟨zo, zc, zl, K9, S9, p9, L9, q9, rfl, hzr, hzg, hzm, ho9⟩
      have o10 : Only (fun _ => False) w9 (w9.alloc (.cells #[.int .i64 K9, .int .i64 0, .string S9, .slice p9 L9 q9] 24)) := Only.alloc _ _ _
      have HO810 := Lib.hid (ho9.same o10)
      have HC10 := Lib.hid (HC8.out.only (ho9.same o10) (fun e => e))
      have HL10 := Lib.hid (HL8.out.later (ho9.same o10))
      have HZR : Hid (∀ W, Only (fun _ => False) w9 W → GlP 0 zo zc zl W ∧ GoodG (· < W.heap.size) W zl) := Lib.hid (fun W o => ⟨hzr.only o (fun _ _ e => e), (hzg.only o (fun _ h => h) (fun _ _ e => e)).mono (fun _ h => Nat.lt_of_lt_of_le h o.size)⟩)
      have HZM := Lib.hid hzm
      have HO910 := Lib.hid o10
      clear hzr hzg hzm ho9 o10 d0 d1 d2 d3 HC8 HL8
      go_wp2_with fail
      generalize w9.alloc (.cells #[.int .i64 K9, .int .i64 0, .string S9, .slice p9 L9 q9] 24) = w10 at *
      refine (HLV.out _).mono ?_
      rintro e w11 ⟨rfl, ho11⟩
      have HO1011 := Lib.hid ho11
      have HOW : Hid (Only (fun _ => False) w w11) := Lib.hid (HO6.out.same (HO68.out.same (HO810.out.same ho11)))
      have HC11 := Lib.hid (HC10.out.only ho11 (fun e => e))
      have HL11 := Lib.hid (HL10.out.later ho11)
      clear ho11
      obtain ⟨d0, d1, d2, d3⟩ := HC11.out.cells
      have hxl : xl.length = ga.length := by have := congrArg List.length HXM.out; rwa [List.length_map] at this
      have hyl : yl.length = gb.length := by have := congrArg List.length HYM.out; rwa [List.length_map] at this
      have hxl' : xl.length ≤ 64 := by have := HGA.out; omega
      have hyl' : yl.length ≤ 64 := by have := HGB.out; omega
      have hwsum : IntKind.i64.wrap ((xl.length : Int) + (yl.length : Int)) = (xl.length : Int) + (yl.length : Int) := IntWalk.i64_in _ (by omega)
      have HLS := Lib.hid (And.intro hxl hyl)
      clear hxl hyl
      cases oa with
      | false =>
        clear hwsum
        go_wp2_with fail
        refine (HLV.out _).mono ?_
        rintro e w12 ⟨rfl, ho12⟩
        have HO12 := Lib.hid (HOW.out.same ho12)
        clear ho12
        go_wp2_with fail
        go_ret
        exact ⟨rfl, HO12.out.to_below⟩
      | true =>
        cases ob with
        | false =>
          clear hwsum
          go_wp2_with fail
          refine (HLV.out _).mono ?_
          rintro e w12 ⟨rfl, ho12⟩
          have HO12 := Lib.hid (HOW.out.same ho12)
          clear ho12
          go_wp2_with fail
          go_ret
          exact ⟨rfl, HO12.out.to_below⟩
        | true =>
          by_cases hsum : (xl.length : Int) + (yl.length : Int) > 64
          · go_wp2_with fail
            refine (HLV.out _).mono ?_
            rintro e w12 ⟨rfl, ho12⟩
            have HO12 := Lib.hid (HOW.out.same ho12)
            clear ho12
            go_wp2_with fail
            go_ret
            exact ⟨rfl, HO12.out.to_below⟩
          · go_wp2_with fail
            refine (HCK.out _ _ _ HL11.out).mono ?_
            rintro e w12 ⟨rfl, ho12⟩
            have HO1112 := Lib.hid ho12
            have HO12 := Lib.hid (HOW.out.same ho12)
            clear ho12 d0 d1 d2 d3
            by_cases hck : CK = 0
            · have hck' : (CK != 0) = false := by simpa using hck
              have hpl := HPL.out (by simp) (by simp) (by have := HLS.out; omega) hck
              obtain rfl : oc = true := hpl.1
              have HZE : Hid (zl.map (·.x.t) = (xl ++ yl).map (·.x.t)) := Lib.hid (by rw [HZM.out, hpl.2, List.map_append, HXM.out, HYM.out])
              have hzl : zl.length ≤ 64 := by have h1 := congrArg List.length HZM.out; rw [List.length_map] at h1; have := HGC.out; omega
              have HX12 := Lib.hid (fun W (o : Only (fun _ => False) w12 W) => HXR.out W (HO36.out.same (HO68.out.same (HO810.out.same (HO1011.out.same (HO1112.out.same o))))))
              have HY12 := Lib.hid (fun W (o : Only (fun _ => False) w12 W) => HYR.out W (HO56.out.same (HO68.out.same (HO810.out.same (HO1011.out.same (HO1112.out.same o))))))
              have HZ12 := Lib.hid (fun W (o : Only (fun _ => False) w12 W) => HZR.out W (HO910.out.same (HO1011.out.same (HO1112.out.same o))))
              have HSG : Hid (∀ (ao' : Option Addr) (cap' : Nat) (W : World), Only (fun _ => False) w12 W → GlP w12.heap.size ao' cap' (xl ++ yl) W → Calls Try.prog 28 #[.slice zo zl.length zc, .slice ao' (xl.length + yl.length) cap'] W fun e w' => e = .returned (.bool true) ∧ Only (fun _ => False) W w') := Lib.hid (fun ao' cap' W o h => by
                have := rSameGoals_any 0 w12.heap.size zo ao' zc cap' zl (xl ++ yl) W (HZ12.out W o).1 (HZ12.out W o).2 h (fun g hg => by
                  rcases List.mem_append.1 hg with hg | hg
                  · exact (HX12.out W o).2 g hg
                  · exact (HY12.out W o).2 g hg) HZE.out (by omega)
                rwa [List.length_append] at this)
              obtain ⟨i0, hi0, hz0, hz1, hz2⟩ := info_parts infoG
              clear hck hpl
              go_wp2_with (first
                | (at_builtin; refine wp_append_many_if liesG (by rfl) (.tmp 71) (.tmp 72) 35 (by rfl) w12.heap.size 59 i0 _ 64 Try.underlying35 hi0 hz0 hz1 hz2 rfl (by omega) _ (some ⟨_, 0, none⟩) 0 [] (by rfl) (emptyRowG (by exact at1 _ _) (Nat.le_refl _)) xo xc xl (by rfl) (RowOf.src (HX12.out _ (Only.alloc _ _ _)).1) (by simp; omega) (by simp) ?_
                   intro ao13 cap13 w13 hrow13 ho13 hnew13
                   rw [List.nil_append] at hrow13
                   rw [show ([] : List Gl).length + xl.length = xl.length by simp]
                   have HR13 := Lib.hid hrow13
                   have HO13 : Hid (Only (fun _ => False) w12 w13) := Lib.hid (Only.cut (Only.alloc _ _ _) ho13 (by rintro k ⟨g, hg, e⟩; cases hg; simp at e; omega))
                   clear hrow13 ho13 hnew13)
                | (at_builtin; refine wp_append_many_if liesG (by rfl) (.tmp 73) (.tmp 74) 35 (by rfl) w12.heap.size 59 i0 _ 64 Try.underlying35 hi0 hz0 hz1 hz2 rfl (by omega) _ ao13 cap13 xl (by rfl) HR13.out yo yc yl (by rfl) (RowOf.src (HY12.out _ HO13.out).1) (by omega) HO13.out.size ?_
                   intro ao14 cap14 w14 hrow14 ho14 hnew14
                   have HR14 := Lib.hid hrow14
                   have HO14 : Hid (Only (fun _ => False) w12 w14) := Lib.hid (Only.cut HO13.out ho14 (by rintro k ⟨g, hg, e⟩; have := (HR13.out.head g hg).2.1; omega))
                   clear hrow14 ho14 hnew14)
                | fail)
              refine (HSG.out _ _ _ HO14.out HR14.out).mono ?_
              rintro e w15 ⟨rfl, ho15⟩
              have HO15 := Lib.hid (HO12.out.same (HO14.out.same ho15))
              clear ho15
              go_wp2_with fail
              go_ret
              exact ⟨rfl, HO15.out.to_below⟩
            · have hck' : (CK != 0) = true := by simpa using hck
              clear hck
              go_wp2_with fail
              refine (HLV.out _).mono ?_
              rintro e w13 ⟨rfl, ho13⟩
              have HO13 := Lib.hid (HO12.out.same ho13)
              clear ho13
              go_wp2_with fail
              go_ret
              exact ⟨rfl, HO13.out.to_below⟩
end Go.Proofs.Ytoogmlgaeipenaa.terms
