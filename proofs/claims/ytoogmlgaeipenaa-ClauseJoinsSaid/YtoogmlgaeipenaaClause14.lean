/- Clauses: the head and the body of any term. -/
import Derived.Test.YtoogmlgaeipenaaClause10
import Derived.Test.YtoogmlgaeipenaaClause13
namespace Go.Proofs.Ytoogmlgaeipenaa.terms
set_option maxRecDepth 100000
open Go.RowKit Go.Proofs.Ytoogmlgaeipenaa.own Go.Maps
/-- The four boxes that a call of parted lays, in a world. -/
structure Boxes (w : World) (t : T) (ao : Option Addr) (cap : Nat) (E : World) : Prop where
  x : Quad w.heap.size (.int .i64 t.k) (.int .i64 t.n) (.string t.s) (.slice ao t.l.length cap) E
  z : Zero (w.heap.size + 1) E
  r : Pair (w.heap.size + 1 + 1) (.slice none 0 0) (.slice none 0 0) E
  b : Pair (w.heap.size + 1 + 1 + 1) (.slice none 0 0) (.slice none 0 0) E
  o : Only (fun _ => False) w E
  n : w.heap.size + 1 + 1 + 1 + 1 ≤ E.heap.size
theorem Boxes.later {w : World} {t : T} {ao : Option Addr} {cap : Nat} {E E' : World} (h : Boxes w t ao cap E) (ho : Only (fun _ => False) E E') : Boxes w t ao cap E' := ⟨h.x.only ho (fun e => e), h.z.only ho (fun e => e), h.r.only ho (fun e => e), h.b.only ho (fun e => e), h.o.same ho, Nat.le_trans h.n ho.size⟩
theorem Boxes.new (w : World) (t : T) (ao : Option Addr) (cap : Nat) : Boxes w t ao cap ((((w.alloc (.cells #[.int .i64 t.k, .int .i64 t.n, .string t.s, .slice ao t.l.length cap] 24)).alloc (.cells #[.int .i64 0, .int .i64 0, .string ⟨#[]⟩, .slice none 0 0] 24)).alloc (.cells #[.slice none 0 0, .slice none 0 0] 75)).alloc (.cells #[.slice none 0 0, .slice none 0 0] 75)) := by
  obtain ⟨A, hA⟩ : ∃ A, A = tBox w t ao cap := ⟨_, rfl⟩
  obtain ⟨C, hC⟩ : ∃ C, C = zeroW A := ⟨_, rfl⟩
  obtain ⟨D, hD⟩ : ∃ D, D = C.alloc (.cells #[.slice none 0 0, .slice none 0 0] 75) := ⟨_, rfl⟩
  obtain ⟨E, hE⟩ : ∃ E, E = D.alloc (.cells #[.slice none 0 0, .slice none 0 0] 75) := ⟨_, rfl⟩
  have hA0 : A.heap.size = w.heap.size + 1 := by rw [hA]; simp
  have hC0 : C.heap.size = w.heap.size + 1 + 1 := by rw [hC]; simp [hA0]
  have hD0 : D.heap.size = w.heap.size + 1 + 1 + 1 := by rw [hD]; simp [hC0]
  have hE0 : E.heap.size = w.heap.size + 1 + 1 + 1 + 1 := by rw [hE]; simp [hD0]
  have oA : Only (fun _ => False) w A := by rw [hA]; exact Only.alloc _ _ _
  have oC : Only (fun _ => False) A C := by rw [hC]; exact Only.alloc _ _ _
  have oD : Only (fun _ => False) C D := by rw [hD]; exact Only.alloc _ _ _
  have oE : Only (fun _ => False) D E := by rw [hE]; exact Only.alloc _ _ _
  have h : Boxes w t ao cap E := by
    refine ⟨?_, ?_, ?_, ?_, ((oA.same oC).same oD).same oE, by omega⟩
    · have h : Quad w.heap.size (.int .i64 t.k) (.int .i64 t.n) (.string t.s) (.slice ao t.l.length cap) A := by rw [hA]; exact heap_alloc_new _ _
      exact h.only ((oC.same oD).same oE) (fun e => e)
    · have h : Zero A.heap.size C := by rw [hC]; exact Zero.new _
      rw [hA0] at h
      exact h.only (oD.same oE) (fun e => e)
    · have h : Pair C.heap.size (.slice none 0 0) (.slice none 0 0) D := by rw [hD]; exact heap_alloc_new _ _
      rw [hC0] at h
      exact h.only oE (fun e => e)
    · rw [← hD0, hE]; exact heap_alloc_new _ _
  rw [hE, hD, hC, hA] at h
  exact h
theorem body_new {P : Nat → Prop} {w E : World} {bb B : Nat} (hP : ∀ k, P k → k < B) (h : Pair bb (.slice none 0 0) (.slice none 0 0) E) (hB : B ≤ bb) : BodyC P B bb (· = bb) none 0 none 0 [] [] E :=
  ⟨h, RowOf.nil _ _ _ _ _, RowOf.nil _ _ _ _ _, rfl, (fun k ⟨g, hg, _⟩ => by cases hg), (fun k ⟨g, hg, _⟩ => by cases hg), (fun k hk => by rw [hk]; exact ⟨hB, lt_of_block h⟩), fun g hg => (List.not_mem_nil hg).elim, fun g hg => (List.not_mem_nil hg).elim, fun k hk => ⟨Nat.lt_trans (Nat.lt_of_lt_of_le (hP k hk) hB) (lt_of_block h), fun e => by have := hP k hk; omega⟩⟩
/-- A body that was just laid, the terms in blocks elsewhere. -/
theorem body_apart {P : Nat → Prop} {E : World} {bb B : Nat} (hP : ∀ k, P k → k < E.heap.size ∧ k ≠ bb) (h : Pair bb (.slice none 0 0) (.slice none 0 0) E) (hB : B ≤ bb) : BodyC P B bb (· = bb) none 0 none 0 [] [] E :=
  ⟨h, RowOf.nil _ _ _ _ _, RowOf.nil _ _ _ _ _, rfl, (fun k ⟨g, hg, _⟩ => by cases hg), (fun k ⟨g, hg, _⟩ => by cases hg), (fun k hk => by rw [hk]; exact ⟨hB, lt_of_block h⟩), fun g hg => (List.not_mem_nil hg).elim, fun g hg => (List.not_mem_nil hg).elim, fun k hk => ⟨(hP k hk).1, fun e => (hP k hk).2 e⟩⟩
set_option maxHeartbeats 8000000 in
theorem parted_two (P : Nat → Prop) (t x y : T) (ao : Option Addr) (cap : Nat) (w : World) (hn : goesB t nIf 2 = true) (hxy : t.l = [x, y]) (hP : ∀ k, P k → k < w.heap.size) (hl : Row P w ao t.l) (hz : t.size ≤ 900000) :
    Calls Try.prog 51 #[tv t ao cap] w fun e w' => ∃ ho hc go gc io ic gl il, e = .returned (.tuple #[tv x ho hc, .agg #[.slice go (gl : List Gl).length gc, .slice io (il : List It).length ic]]) ∧ x.Sane ∧ Row P w' ho x.l ∧ PartI P w.heap.size t go gc io ic gl il w' ∧ Only (fun _ => False) w w' := by
  have HBX := Lib.hid (Boxes.new w t ao cap)
  have H1 := Lib.hid (fun W => goesBy_any t nIf 2 ao cap W)
  rw [hn] at H1
  have HE := Lib.hid (par_two hn hxy)
  have HXY := Lib.hid hxy
  have HL := Lib.hid hl
  have HP := Lib.hid hP
  have HZ : Hid (y.size ≤ 900000) := Lib.hid (by have := T.size_eq t; rw [hxy] at this; simp [sizes] at this; omega)
  obtain ⟨d0, d1, d2, d3⟩ := HBX.out.x.cells
  show Calls Try.prog 51 #[.agg #[.int .i64 t.k, .int .i64 t.n, .string t.s, .slice ao t.l.length cap]] w _
  clear hn hl hz hxy hP
  go_enter Try.func51, Try.ntmps51
  go_wp2_with fail
  clear d0 d1 d2 d3
  generalize (((w.alloc (.cells #[.int .i64 t.k, .int .i64 t.n, .string t.s, .slice ao t.l.length cap] 24)).alloc (.cells #[.int .i64 0, .int .i64 0, .string ⟨#[]⟩, .slice none 0 0] 24)).alloc (.cells #[.slice none 0 0, .slice none 0 0] 75)).alloc (.cells #[.slice none 0 0, .slice none 0 0] 75) = E at *
  refine (H1.out _).mono ?_
  rintro e w1 ⟨rfl, ho1⟩
  have HB1 := Lib.hid (HBX.out.later ho1)
  clear ho1 HBX H1
  have HL1 : Hid (Row P w1 ao [x, y]) := Lib.hid (by rw [← HXY.out]; exact HL.out.only HB1.out.o HP.out (fun _ _ e => e))
  obtain ⟨b, off, yo, yc, hao, hb, y0, y1, y2, y3, hys, hyl⟩ := HL1.out.at (i := 1) (x := y) rfl
  subst hao
  have HYS := Lib.hid hys
  have HYL := Lib.hid hyl
  have hlen : t.l.length = 2 := by rw [HXY.out]; rfl
  have HLEN := Lib.hid hlen
  simp only [Nat.one_mul] at y0 y1 y2 y3
  obtain ⟨c0, c1, c2, c3⟩ := HB1.out.x.cells
  rw [hlen] at c3
  clear hys hyl hb hlen
  go_wp2_with fail
  refine (add_any P w.heap.size (w.heap.size + 1 + 1 + 1) y (· = w.heap.size + 1 + 1 + 1) none none 0 0 [] [] w1 yo yc HYL.out HYS.out (body_new (w := w) HP.out HB1.out.b (by omega)) (by have := HZ.out; simp; omega) (by have := HZ.out; simp; omega)).mono ?_
  rintro e w2 ⟨rfl, gl, il, ⟨S, go, gc, io, ic, hB2, ho2, hg2⟩, hm1, hm2⟩
  rw [List.nil_append, List.nil_append] at hB2
  have HB2 := Lib.hid hB2
  have HO2 := Lib.hid ho2
  have HG2 := Lib.hid hg2
  have HM1 := Lib.hid hm1
  have HM2 := Lib.hid hm2
  have HX2 := Lib.hid (HB1.out.x.only ho2 (fun e => by omega))
  have HZ2 := Lib.hid (HB1.out.z.only ho2 (fun e => by omega))
  have HR2 := Lib.hid (HB1.out.r.only ho2 (fun e => by omega))
  have HOW : Hid (Only (fun _ => False) w w2) := Lib.hid (Only.cut HB1.out.o ho2 (fun k e => by omega))
  have HL2 : Hid (Row P w2 (some ⟨b, off, none⟩) [x, y]) := Lib.hid (by rw [← HXY.out]; exact HL.out.only HOW.out HP.out (fun _ _ e => e))
  clear hB2 ho2 hg2 hm1 hm2 c0 c1 c2 c3 y0 y1 y2 y3
  obtain ⟨b', off', xo, xc, hao, hb, x0, x1, x2, x3, hxs, hxl⟩ := HL2.out.at (i := 0) (x := x) rfl
  cases hao
  have HXS := Lib.hid hxs
  have HXL := Lib.hid hxl
  simp only [Nat.zero_mul, Nat.add_zero] at x0 x1 x2 x3
  obtain ⟨c0, c1, c2, c3⟩ := HX2.out.cells
  rw [HLEN.out] at c3
  obtain ⟨d0, d1, d2, d3⟩ := HZ2.out.cells
  obtain ⟨f0, f1, f2, f3⟩ := HZ2.out.free
  obtain ⟨p0, p1, _, _⟩ := HB2.out.cells
  have hS := HZ2.out.set (.int .i64 x.k) (.int .i64 x.n) (.string x.s) (.slice xo x.l.length xc)
  have HR3 := Lib.hid (HR2.out.only hS.2 (fun e => by omega))
  have HB3 : Hid (Pair (w.heap.size + 1 + 1 + 1) (.slice go gl.length gc) (.slice io il.length ic) (quadW w2 (w.heap.size + 1) (.int .i64 x.k) (.int .i64 x.n) (.string x.s) (.slice xo x.l.length xc))) := Lib.hid (Pair.only (b := w.heap.size + 1 + 1 + 1) HB2.out.blk hS.2 (fun e => by omega))
  obtain ⟨WF, hWF⟩ : ∃ WF, WF = ((((((w2.setCell ⟨w.heap.size + 1, 0, none⟩ (.int .i64 x.k)).setCell ⟨w.heap.size + 1, 1, none⟩ (.int .i64 x.n)).setCell ⟨w.heap.size + 1, 2, none⟩ (.string x.s)).setCell ⟨w.heap.size + 1, 3, none⟩ (.slice xo x.l.length xc)).setCell ⟨w.heap.size + 1 + 1, 0, none⟩ (.slice go gl.length gc)).setCell ⟨w.heap.size + 1 + 1, 1, none⟩ (.slice io il.length ic)) := ⟨_, rfl⟩
  have HST := Lib.hid (twoStores HZ2.out HR2.out (.int .i64 x.k) (.int .i64 x.n) (.string x.s) (.slice xo x.l.length xc) (.slice go gl.length gc) (.slice io il.length ic) _ (.inl hWF))
  have HWF := Lib.hid hWF
  clear hWF hS hxs hxl hb
  obtain ⟨q0, q1⟩ := HB3.out.cells
  obtain ⟨r0, r1⟩ := HR3.out.cells
  obtain ⟨s0, s1⟩ := HR3.out.free
  go_wp2_with fail
  go_region
  all_goals
    go_wp2_with fail
    rw [← HWF.out]
    have hc := HST.out.1.cells
    have hp := HST.out.2.1.cells
    refine bodyPost_ret (v := .tuple #[.agg #[.int .i64 x.k, .int .i64 x.n, .string x.s, .slice xo x.l.length xc], .agg #[.slice go gl.length gc, .slice io il.length ic]]) (results_two rfl _ WF.drew (w.heap.size + 1) (w.heap.size + 1 + 1) _ _ _ _ _ _ rfl rfl hc.1 hc.2.1 hc.2.2.1 hc.2.2.2 hp.1 hp.2) rfl ?_
    have o3 := HST.out.2.2.same (Only.drew (fun k => k = w.heap.size + 1 ∨ k = w.heap.size + 1 + 1) WF)
    have hfin : Only (fun _ => False) w WF.drew := Only.cut HOW.out o3 (fun k e => by omega)
    have hfar : ∀ k, S k → ¬ (k = w.heap.size + 1 ∨ k = w.heap.size + 1 + 1) := fun k hk e => by
      have hn1 := HB1.out.n
      rcases HG2.out k hk with h | h
      · omega
      · have := h.1; omega
    refine ⟨xo, xc, go, gc, io, ic, gl, il, rfl, HXS.out, HXL.out.only o3 (fun k hk => Nat.lt_of_lt_of_le (HP.out k hk) HOW.out.size) (fun k hk e => by have := HP.out k hk; omega), ⟨HB2.out.rowG.only o3 (fun g hg => hfar _ (HB2.out.hasG _ ⟨g, hg, rfl⟩)), HB2.out.rowI.only o3 (fun g hg => hfar _ (HB2.out.hasI _ ⟨g, hg, rfl⟩)), HB2.out.gs.only o3 (fun k hk => Nat.lt_of_lt_of_le (HP.out k hk) HOW.out.size) (fun k hk e => by have := HP.out k hk; omega), HB2.out.is.only o3 (fun k hk => Nat.lt_of_lt_of_le (HP.out k hk) HOW.out.size) (fun k hk e => by have := HP.out k hk; omega), ?_, ?_⟩, hfin⟩
    · rw [HE.out, HM1.out]
    · rw [HE.out, HM2.out]
theorem parted_any (P : Nat → Prop) (t : T) (ao : Option Addr) (cap : Nat) (w : World) (hs : t.Sane) (hP : ∀ k, P k → k < w.heap.size) (hl : Row P w ao t.l) (hz : t.size ≤ 900000) :
    Calls Try.prog 51 #[tv t ao cap] w fun e w' => ∃ ho hc go gc io ic gl il, e = .returned (.tuple #[tv (parF t).1 ho hc, .agg #[.slice go (gl : List Gl).length gc, .slice io (il : List It).length ic]]) ∧ (parF t).1.Sane ∧ Row P w' ho (parF t).1.l ∧ PartI P w.heap.size t go gc io ic gl il w' ∧ Only (fun _ => False) w w' := by
  cases hn : goesB t nIf 2 with
  | false =>
    refine (parted_not P t ao cap w hn).mono ?_
    rintro e w' ⟨go, gc, io, ic, gl, il, rfl, h1, h2⟩
    refine ⟨ao, cap, go, gc, io, ic, gl, il, by rw [par_not hn], by rw [par_not hn]; exact hs, by rw [par_not hn]; exact hl.only h2 hP (fun _ _ e => e), h1, h2⟩
  | true =>
    obtain ⟨x, y, hxy⟩ := two_of_len (goes_parts hn).2.2
    have := parted_two P t x y ao cap w hn hxy hP hl hz
    rw [par_two hn hxy]
    exact this
end Go.Proofs.Ytoogmlgaeipenaa.terms
