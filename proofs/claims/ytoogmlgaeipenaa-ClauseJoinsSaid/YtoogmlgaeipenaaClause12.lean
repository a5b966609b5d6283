/- Clauses: compounds of the arguments of lists. -/
import Derived.Test.YtoogmlgaeipenaaClause11
namespace Go.Proofs.Ytoogmlgaeipenaa.terms
set_option maxRecDepth 100000
open Go.RowKit Go.Proofs.Ytoogmlgaeipenaa.own Go.Maps
theorem compF_zero {s : ByteArray} {l : List T} (h : l.length = 0) : compF s l = .mk 3 0 s [] := by unfold compF; rw [if_pos h]
theorem compF_some {s : ByteArray} {l : List T} (h : l.length ≠ 0) : compF s l = .mk 4 0 s l := by unfold compF; rw [if_neg h]
set_option maxHeartbeats 4000000 in
theorem named_any {P : Nat → Prop} (s : ByteArray) (ys : List Ly) (w : World) (b : Nat) (hb : w.heap[b]? = some (.cells (ys.map (fun y => Value.slice y.ao y.its.length y.cap)).toArray 22 (0, 0))) (hs : ∀ y ∈ ys, Src w y.ao y.its) (hg : ∀ x ∈ catF ys, x.t.Sane ∧ Row P w x.ao x.t.l) (hP : ∀ k, P k → k < w.heap.size) (hz : (catF ys).length ≤ 100000) (hn : ys.length ≤ 1000) :
    Calls Try.prog 60 #[.string s, .slice (some ⟨b, 0, none⟩) ys.length ys.length] w fun e w' => ∃ ao cap, e = .returned (tv (compF s ((catF ys).map (·.t))) ao cap) ∧ Row (NewP P w w') w' ao (compF s ((catF ys).map (·.t))).l ∧ Only (fun _ => False) w w' := by
  have HQ0 := Lib.hid (Zero.new w)
  have HO0 : Hid (Only (fun _ => False) w (zeroW w)) := Lib.hid (Only.alloc _ _ _)
  have HC := Lib.hid (Concat_any ys (zeroW w) b (blk_later hb HO0.out) (fun y hy => (hs y hy).later HO0.out) hz hn)
  have HG : Hid (∀ x ∈ catF ys, x.t.Sane ∧ Row P w x.ao x.t.l) := Lib.hid hg
  have HP := Lib.hid hP
  have hsz : (zeroW w).heap.size = w.heap.size + 1 := by simp
  have HSZ := Lib.hid hsz
  generalize hcl : catF ys = cs at *
  clear hb hs hg hP hcl hsz
  go_enter Try.func60, Try.ntmps60
  go_wp2_with fail
  refine HC.out.mono ?_
  rintro e w1 ⟨ao, cap, rfl, hr1, ho1⟩
  have HR1 := Lib.hid hr1
  have HO1 := Lib.hid (HO0.out.same ho1)
  have HQ1 := Lib.hid (HQ0.out.only ho1 (fun e => e))
  have HOS := Lib.hid ho1.size
  clear hr1 ho1
  obtain ⟨c0, c1, c2, c3⟩ := HQ1.out.cells
  obtain ⟨f0, f1, f2, f3⟩ := HQ1.out.free
  by_cases h0 : cs.length = 0
  · have hl0 : ((cs.length : Int) == 0) = true := by simp [h0]
    have HE := Lib.hid (compF_zero (s := s) (l := cs.map (·.t)) (by simpa using h0))
    clear h0
    go_wp2_with fail
    refine (atom_plain s _).mono ?_
    rintro e w2 ⟨rfl, ho2⟩
    have HQ2 := Lib.hid (HQ1.out.only ho2 (fun e => e))
    have HO2 := Lib.hid (HO1.out.same ho2)
    have HS2 := Lib.hid (HQ2.out.set (.int .i64 3) (.int .i64 0) (.string s) (.slice none 0 0))
    clear c0 c1 c2 c3 f0 f1 f2 f3 ho2
    obtain ⟨c0, c1, c2, c3⟩ := HQ2.out.cells
    obtain ⟨f0, f1, f2, f3⟩ := HQ2.out.free
    go_wp2_with fail
    have hc := HS2.out.1.cells
    rw [HE.out]
    refine bodyPost_ret (v := tv (T.mk 3 0 s []) none 0) (results_term rfl _ _ w.heap.size _ _ _ _ rfl hc.1 hc.2.1 hc.2.2.1 hc.2.2.2) rfl ?_
    exact ⟨none, 0, rfl, Row.nil _ _ _, Only.cut HO2.out HS2.out.2 (fun k e => by omega)⟩
  · have hl0 : ((cs.length : Int) == 0) = false := by simp; intro e; rw [e] at h0; exact h0 rfl
    have HE := Lib.hid (compF_some (s := s) (l := cs.map (·.t)) (by simpa using h0))
    have HS2 := Lib.hid (HQ1.out.set (.int .i64 4) (.int .i64 0) (.string s) (.slice ao cs.length cap))
    have HLM : Hid ((cs.map (·.t)).length = cs.length) := Lib.hid (List.length_map _)
    clear h0
    go_wp2_with fail
    have hc := HS2.out.1.cells
    rw [HE.out]
    refine bodyPost_ret (v := tv (T.mk 4 0 s (cs.map (·.t))) ao cap) (results_term rfl _ _ w.heap.size _ _ _ _ rfl hc.1 hc.2.1 hc.2.2.1 (by rw [hc.2.2.2]; show _ = some (Value.slice ao (cs.map (·.t)).length cap); rw [HLM.out])) rfl ?_
    have o2 := HS2.out.2
    have hrow : Row (fun q => (P q ∨ (w.heap.size ≤ q ∧ q < w1.heap.size)) ∧ q ≠ w.heap.size) w1 ao (cs.map (·.t)) := by
      refine HR1.out.rowAny (fun q h1 h2 => ?_) (fun i x hx => ?_)
      · have hz := HSZ.out
        have h1' : (zeroW w).heap.size ≤ q := h1
        exact ⟨.inr ⟨by omega, h2⟩, by omega⟩
      · have hx' := HG.out x (List.mem_of_getElem? hx)
        exact ⟨hx'.1, (hx'.2.only HO1.out HP.out (fun _ _ e => e)).mono (fun q hq => ⟨.inl hq, by have := HP.out q hq; omega⟩)⟩
    refine ⟨ao, cap, rfl, ?_, Only.cut HO1.out o2 (fun k e => by omega)⟩
    refine (hrow.only o2 (fun q hq => ?_) (fun q hq e => hq.2 e)).mono (fun q hq => ?_)
    · rcases hq.1 with h | h
      · exact Nat.lt_of_lt_of_le (HP.out q h) HO1.out.size
      · exact h.2
    · rcases hq.1 with h | h
      · exact .inl h
      · exact .inr ⟨h.1, Nat.lt_of_lt_of_le h.2 o2.size⟩
theorem src_two {w : World} {b : Nat} {x y : It} (hb : w.heap[b]? = some (.cells #[.int .i64 x.t.k, .int .i64 x.t.n, .string x.t.s, .slice x.ao x.t.l.length x.cap, .int .i64 y.t.k, .int .i64 y.t.n, .string y.t.s, .slice y.ao y.t.l.length y.cap] 24 (0, 0))) : Src w (some ⟨b, 0, none⟩) [x, y] := by
  intro i z hz
  refine ⟨b, 0, rfl, lt_of_block hb, fun r hr => ?_⟩
  rw [cell_of_blk hb]
  match i, hz with
  | 0, hz =>
    cases hz
    match r, hr with
    | 0, _ => rfl
    | 1, _ => rfl
    | 2, _ => rfl
    | 3, _ => rfl
  | 1, hz =>
    cases hz
    match r, hr with
    | 0, _ => rfl
    | 1, _ => rfl
    | 2, _ => rfl
    | 3, _ => rfl
set_option maxHeartbeats 4000000 in
theorem both_any {P : Nat → Prop} (s : ByteArray) (x y : T) (ao bo : Option Addr) (cap bcap : Nat) (w : World) (hx : x.Sane) (hy : y.Sane) (hl : Row P w ao x.l) (hl' : Row P w bo y.l) (hP : ∀ k, P k → k < w.heap.size) :
    Calls Try.prog 58 #[.string s, tv x ao cap, tv y bo bcap] w fun e w' => ∃ a c, e = .returned (.agg #[.int .i64 4, .int .i64 0, .string s, .slice a 2 c]) ∧ Row (NewP P w w') w' a [x, y] ∧ Only (fun _ => False) w w' := by
  obtain ⟨A, hA⟩ : ∃ A, A = (tBox w x ao cap) := ⟨_, rfl⟩
  obtain ⟨Bw, hB⟩ : ∃ Bw, Bw = (tBox A y bo bcap) := ⟨_, rfl⟩
  have hA0 : A.heap.size = w.heap.size + 1 := by rw [hA]; simp
  have hB0 : Bw.heap.size = w.heap.size + 1 + 1 := by rw [hB]; simp [hA0]
  have oA : Only (fun _ => False) w A := by rw [hA]; exact Only.alloc _ _ _
  have oB : Only (fun _ => False) A Bw := by rw [hB]; exact Only.alloc _ _ _
  have oZ : Only (fun _ => False) Bw (zeroW Bw) := Only.alloc _ _ _
  have qx : Quad w.heap.size (.int .i64 x.k) (.int .i64 x.n) (.string x.s) (.slice ao x.l.length cap) (zeroW Bw) := by
    have h : Quad w.heap.size (.int .i64 x.k) (.int .i64 x.n) (.string x.s) (.slice ao x.l.length cap) A := by rw [hA]; exact heap_alloc_new _ _
    exact h.only (oB.same oZ) (fun e => e)
  have qy : Quad (w.heap.size + 1) (.int .i64 y.k) (.int .i64 y.n) (.string y.s) (.slice bo y.l.length bcap) (zeroW Bw) := by
    have h : Quad A.heap.size (.int .i64 y.k) (.int .i64 y.n) (.string y.s) (.slice bo y.l.length bcap) Bw := by rw [hB]; exact heap_alloc_new _ _
    rw [hA0] at h
    exact h.only oZ (fun e => e)
  have qz : Zero (w.heap.size + 1 + 1) (zeroW Bw) := by rw [← hB0]; exact Zero.new _
  obtain ⟨C, hC⟩ : ∃ C, C = zeroW Bw := ⟨_, rfl⟩
  rw [← hC] at qx qy qz oZ
  have hC0 : C.heap.size = w.heap.size + 1 + 1 + 1 := by rw [hC]; simp [hB0]
  have oC := (oA.same oB).same oZ
  -- the two lists
  obtain ⟨D, hD⟩ : ∃ D, D = C.alloc (.cells #[.int .i64 x.k, .int .i64 x.n, .string x.s, .slice ao x.l.length cap, .int .i64 y.k, .int .i64 y.n, .string y.s, .slice bo y.l.length bcap] 24) := ⟨_, rfl⟩
  have oD : Only (fun _ => False) C D := by rw [hD]; exact Only.alloc _ _ _
  have hD0 : D.heap.size = w.heap.size + 1 + 1 + 1 + 1 := by rw [hD]; simp [hC0]
  have sD : Src D (some ⟨w.heap.size + 1 + 1 + 1, 0, none⟩) [⟨x, ao, cap⟩, ⟨y, bo, bcap⟩] := src_two (by rw [hD, ← hC0]; exact heap_alloc_new _ _)
  obtain ⟨E, hE⟩ : ∃ E, E = D.alloc (.cells #[.slice (some ⟨w.heap.size + 1 + 1 + 1, 0, none⟩) 2 2] 22) := ⟨_, rfl⟩
  have oE : Only (fun _ => False) D E := by rw [hE]; exact Only.alloc _ _ _
  have oEw := (oC.same oD).same oE
  have HN : Hid (Calls Try.prog 60 #[.string s, .slice (some ⟨w.heap.size + 1 + 1 + 1 + 1, 0, none⟩) 1 1] E fun e w' => ∃ a c, e = .returned (.agg #[.int .i64 4, .int .i64 0, .string s, .slice a 2 c]) ∧ Row (NewP P E w') w' a [x, y] ∧ Only (fun _ => False) E w') := Lib.hid (by
    have := named_any (P := P) s [⟨[⟨x, ao, cap⟩, ⟨y, bo, bcap⟩], some ⟨w.heap.size + 1 + 1 + 1, 0, none⟩, 2⟩] E (w.heap.size + 1 + 1 + 1 + 1) (by rw [hE, ← hD0]; exact heap_alloc_new _ _) (fun z hz => by rw [List.mem_singleton.1 hz]; exact sD.later oE)
      (fun z hz => by
        simp only [catF, List.flatMap_cons, List.flatMap_nil, List.append_nil, List.mem_cons, List.not_mem_nil, or_false] at hz
        rcases hz with rfl | rfl
        · exact ⟨hx, hl.only oEw hP (fun _ _ e => e)⟩
        · exact ⟨hy, hl'.only oEw hP (fun _ _ e => e)⟩) (fun k hk => Nat.lt_of_lt_of_le (hP k hk) oEw.size) (by simp [catF]) (by simp)
    exact this)
  have HQX := Lib.hid qx
  have HQY := Lib.hid qy
  have HQZ := Lib.hid (qz.only (oD.same oE) (fun e => e))
  have HOE := Lib.hid oEw
  have HPP := Lib.hid hP
  have HES : Hid (w.heap.size + 1 + 1 < E.heap.size) := Lib.hid (by have := oE.size; omega)
  obtain ⟨x0, x1, x2, x3⟩ := HQX.out.cells
  obtain ⟨y0, y1, y2, y3⟩ := HQY.out.cells
  rw [hC, hB, hA] at x0 x1 x2 x3 y0 y1 y2 y3
  have HEE : Hid (((((((w.alloc (.cells #[.int .i64 x.k, .int .i64 x.n, .string x.s, .slice ao x.l.length cap] 24)).alloc (.cells #[.int .i64 y.k, .int .i64 y.n, .string y.s, .slice bo y.l.length bcap] 24)).alloc (.cells #[.int .i64 0, .int .i64 0, .string ⟨#[]⟩, .slice none 0 0] 24)).alloc (.cells #[.int .i64 x.k, .int .i64 x.n, .string x.s, .slice ao x.l.length cap, .int .i64 y.k, .int .i64 y.n, .string y.s, .slice bo y.l.length bcap] 24)).alloc (.cells #[.slice (some ⟨w.heap.size + 1 + 1 + 1, 0, none⟩) 2 2] 22)) = E)) := Lib.hid (by rw [hE, hD, hC, hB, hA])
  show Calls Try.prog 58 #[.string s, .agg #[.int .i64 x.k, .int .i64 x.n, .string x.s, .slice ao x.l.length cap], .agg #[.int .i64 y.k, .int .i64 y.n, .string y.s, .slice bo y.l.length bcap]] w _
  clear hl hl' hP hx hy hA hB hC hD hE hA0 hB0 hC0 hD0 oA oB oZ oC oD oE oEw qx qy qz sD
  go_enter Try.func58, Try.ntmps58
  go_wp2_with fail
  rw [HEE.out]
  refine HN.out.mono ?_
  rintro e w1 ⟨a, c, rfl, hr, ho⟩
  have HQ1 := Lib.hid (HQZ.out.only ho (fun e => e))
  have HO1 := Lib.hid (HOE.out.same ho)
  have HOS := Lib.hid ho
  have HR := Lib.hid hr
  have HS2 := Lib.hid (HQ1.out.set (.int .i64 4) (.int .i64 0) (.string s) (.slice a 2 c))
  clear x0 x1 x2 x3 y0 y1 y2 y3 hr ho
  obtain ⟨c0, c1, c2, c3⟩ := HQ1.out.cells
  obtain ⟨f0, f1, f2, f3⟩ := HQ1.out.free
  go_wp2_with fail
  have hc := HS2.out.1.cells
  refine bodyPost_ret (v := .agg #[.int .i64 4, .int .i64 0, .string s, .slice a 2 c]) (results_term rfl _ _ (w.heap.size + 1 + 1) _ _ _ _ rfl hc.1 hc.2.1 hc.2.2.1 hc.2.2.2) rfl ?_
  refine ⟨a, c, rfl, Row.fin (W := E) HR.out HS2.out.2 (by omega) HES.out HOS.out.size HPP.out, Only.cut HO1.out HS2.out.2 (fun k e => by omega)⟩
end Go.Proofs.Ytoogmlgaeipenaa.terms
