/- Clauses: the head and the body of a term; which heads may not be. -/
import Derived.Test.YtoogmlgaeipenaaClause12
namespace Go.Proofs.Ytoogmlgaeipenaa.terms
set_option maxRecDepth 100000
open Go.RowKit Go.Proofs.Ytoogmlgaeipenaa.own Go.Maps
/-- A body's box: two cells. -/
def Pair (b : Nat) (x0 x1 : Value) (w : World) : Prop := w.heap[b]? = some (.cells #[x0, x1] 75 (0, 0))
theorem Pair.cells {b : Nat} {x0 x1 : Value} {w : World} (h : Pair b x0 x1 w) : w.cell? ⟨b, 0, none⟩ = some x0 ∧ w.cell? ⟨b, 1, none⟩ = some x1 := ⟨by rw [cell_of_blk h]; rfl, by rw [cell_of_blk h]; rfl⟩
theorem Pair.free {b : Nat} {x0 x1 : Value} {w : World} (h : Pair b x0 x1 w) : w.frozen? ⟨b, 0, none⟩ = false ∧ w.frozen? ⟨b, 1, none⟩ = false := ⟨free_of_blk h 0, free_of_blk h 1⟩
theorem Pair.only {b : Nat} {x0 x1 : Value} {w w' : World} {S : Nat → Prop} (h : Pair b x0 x1 w) (ho : Only S w w') (hS : ¬ S b) : Pair b x0 x1 w' := by
  unfold Pair at *
  rw [ho.block b (lt_of_block h) hS]
  exact h
theorem Pair.set {b : Nat} {x0 x1 : Value} {w : World} (h : Pair b x0 x1 w) (y0 y1 : Value) : Pair b y0 y1 ((w.setCell ⟨b, 0, none⟩ y0).setCell ⟨b, 1, none⟩ y1) ∧ Only (· = b) w ((w.setCell ⟨b, 0, none⟩ y0).setCell ⟨b, 1, none⟩ y1) := by
  refine ⟨?_, (Only.setCell (S := (· = b)) (p := ⟨b, 0, none⟩) w rfl _).same (Only.setCell (S := (· = b)) (p := ⟨b, 1, none⟩) _ rfl _)⟩
  unfold Pair at *
  rw [blk_set (blk_set h 0 y0) 1 y1]
  simp
theorem results_two {fn : Func} {p q : Tmp} (h : fn.results = #[.cell p 24, .cell q 75]) (tmps : Array Value) (w : World) (b c : Nat) (x0 x1 x2 x3 y0 y1 : Value) (ha : tmps.getD p undef = .pointer (some ⟨b, 0, none⟩)) (hc : tmps.getD q undef = .pointer (some ⟨c, 0, none⟩)) (h0 : w.cell? ⟨b, 0, none⟩ = some x0) (h1 : w.cell? ⟨b, 1, none⟩ = some x1) (h2 : w.cell? ⟨b, 2, none⟩ = some x2) (h3 : w.cell? ⟨b, 3, none⟩ = some x3) (g0 : w.cell? ⟨c, 0, none⟩ = some y0) (g1 : w.cell? ⟨c, 1, none⟩ = some y1) :
    (results fn tmps).run Try.prog w = .ok (.tuple #[.agg #[x0, x1, x2, x3], .agg #[y0, y1]]) w := by
  have ha' : tmps[p]?.getD undef = .pointer (some ⟨b, 0, none⟩) := by simpa using ha
  have hc' : tmps[q]?.getD undef = .pointer (some ⟨c, 0, none⟩) := by simpa using hc
  simp only [results, h]
  go_simp
abbrev bodyW (w : World) (b : Nat) (y0 y1 : Value) : World := (w.setCell ⟨b, 0, none⟩ y0).setCell ⟨b, 1, none⟩ y1
set_option maxHeartbeats 1000000 in
/-- Two results are stored, whichever first. -/
theorem twoStores {W : World} {r1 r2 : Nat} {x0 x1 x2 x3 z0 z1 : Value} (q : Quad r1 x0 x1 x2 x3 W) (p : Pair r2 z0 z1 W) (y0 y1 y2 y3 u0 u1 : Value) (W1 : World) (h : W1 = bodyW (quadW W r1 y0 y1 y2 y3) r2 u0 u1 ∨ W1 = quadW (bodyW W r2 u0 u1) r1 y0 y1 y2 y3) :
    Quad r1 y0 y1 y2 y3 W1 ∧ Pair r2 u0 u1 W1 ∧ Only (fun k => k = r1 ∨ k = r2) W W1 := by
  have hne : r1 ≠ r2 := by
    intro e
    have h1 := q
    have h2 := p
    unfold Quad at h1
    unfold Pair at h2
    rw [e, h2] at h1
    simp at h1
  rcases h with rfl | rfl
  · have h1 := q.set y0 y1 y2 y3
    have h2 := (p.only h1.2 (fun e => hne e.symm)).set u0 u1
    exact ⟨h1.1.only h2.2 hne, h2.1, (h1.2.mono (fun _ _ e => .inl e)).same (h2.2.mono (fun _ _ e => .inr e))⟩
  · have h1 := p.set u0 u1
    have h2 := (q.only h1.2 hne).set y0 y1 y2 y3
    exact ⟨h2.1, h1.1.only h2.2 (fun e => hne e.symm), (h1.2.mono (fun _ _ e => .inr e)).same (h2.2.mono (fun _ _ e => .inl e))⟩
theorem RowOf.low {α : Type} {enc : α → List Value} {s E B B' : Nat} {ao : Option Addr} {cap : Nat} {xs : List α} {w : World} (h : RowOf enc s E B ao cap xs w) (hB : B' ≤ B) : RowOf enc s E B' ao cap xs w := by
  refine ⟨h.1, ?_⟩
  rcases h.2 with h1 | ⟨g, c, cur, h1, h2, h3⟩
  · exact .inl h1
  · exact .inr ⟨g, c, cur, h1, Nat.le_trans hB h2, h3⟩
/-- What parted answers. -/
structure PartI (P : Nat → Prop) (B : Nat) (t : T) (go : Option Addr) (gc : Nat) (io : Option Addr) (ic : Nat) (gl : List Gl) (il : List It) (w : World) : Prop where
  rowG : GlP B go gc gl w
  rowI : ItsP B io ic il w
  gs : GoodG P w gl
  is : GoodI P w il
  eg : gl.map (·.x.t) = goalsF (parF t).2
  ei : il.map (·.t) = intsF (parF t).2
theorem par_not {t : T} (h : goesB t nIf 2 = false) : parF t = (t, []) := by unfold parF; rw [h]; rfl
theorem par_two {t x y : T} (h : goesB t nIf 2 = true) (hl : t.l = [x, y]) : parF t = (x, flatF y) := by unfold parF; rw [if_pos h, hl]; rfl
set_option maxHeartbeats 8000000 in
theorem parted_not (P : Nat → Prop) (t : T) (ao : Option Addr) (cap : Nat) (w : World) (hn : goesB t nIf 2 = false) :
    Calls Try.prog 51 #[tv t ao cap] w fun e w' => ∃ go gc io ic gl il, e = .returned (.tuple #[tv t ao cap, .agg #[.slice go (gl : List Gl).length gc, .slice io (il : List It).length ic]]) ∧ PartI P w.heap.size t go gc io ic gl il w' ∧ Only (fun _ => False) w w' := by
  obtain ⟨A, hA⟩ : ∃ A, A = tBox w t ao cap := ⟨_, rfl⟩
  obtain ⟨C, hC⟩ : ∃ C, C = zeroW A := ⟨_, rfl⟩
  obtain ⟨D, hD⟩ : ∃ D, D = C.alloc (.cells #[.slice none 0 0, .slice none 0 0] 75) := ⟨_, rfl⟩
  obtain ⟨E, hE⟩ : ∃ E, E = D.alloc (.cells #[.slice none 0 0, .slice none 0 0] 75) := ⟨_, rfl⟩
  have hA0 : A.heap.size = w.heap.size + 1 := by rw [hA]; simp
  have hC0 : C.heap.size = w.heap.size + 1 + 1 := by rw [hC]; simp [hA0]
  have hD0 : D.heap.size = w.heap.size + 1 + 1 + 1 := by rw [hD]; simp [hC0]
  have oA : Only (fun _ => False) w A := by rw [hA]; exact Only.alloc _ _ _
  have oC : Only (fun _ => False) A C := by rw [hC]; exact Only.alloc _ _ _
  have oD : Only (fun _ => False) C D := by rw [hD]; exact Only.alloc _ _ _
  have oE : Only (fun _ => False) D E := by rw [hE]; exact Only.alloc _ _ _
  have qx : Quad w.heap.size (.int .i64 t.k) (.int .i64 t.n) (.string t.s) (.slice ao t.l.length cap) E := by
    have h : Quad w.heap.size (.int .i64 t.k) (.int .i64 t.n) (.string t.s) (.slice ao t.l.length cap) A := by rw [hA]; exact heap_alloc_new _ _
    exact h.only ((oC.same oD).same oE) (fun e => e)
  have qz : Zero (w.heap.size + 1) E := by
    have h : Zero A.heap.size C := by rw [hC]; exact Zero.new _
    rw [hA0] at h
    exact h.only (oD.same oE) (fun e => e)
  have pr : Pair (w.heap.size + 1 + 1) (.slice none 0 0) (.slice none 0 0) E := by
    have h : Pair C.heap.size (.slice none 0 0) (.slice none 0 0) D := by rw [hD]; exact heap_alloc_new _ _
    rw [hC0] at h
    exact h.only oE (fun e => e)
  have pb : Pair (w.heap.size + 1 + 1 + 1) (.slice none 0 0) (.slice none 0 0) E := by rw [← hD0, hE]; exact heap_alloc_new _ _
  have oEw := ((oA.same oC).same oD).same oE
  have HEE : Hid ((((w.alloc (.cells #[.int .i64 t.k, .int .i64 t.n, .string t.s, .slice ao t.l.length cap] 24)).alloc (.cells #[.int .i64 0, .int .i64 0, .string ⟨#[]⟩, .slice none 0 0] 24)).alloc (.cells #[.slice none 0 0, .slice none 0 0] 75)).alloc (.cells #[.slice none 0 0, .slice none 0 0] 75) = E) := Lib.hid (by rw [hE, hD, hC, hA])
  have HQX := Lib.hid qx
  have HQZ := Lib.hid qz
  have HPR := Lib.hid pr
  have HPB := Lib.hid pb
  have HOE := Lib.hid oEw
  have H1 := Lib.hid (fun W => goesBy_any t nIf 2 ao cap W)
  rw [hn] at H1
  have HE := Lib.hid (par_not hn)
  obtain ⟨c0, c1, c2, c3⟩ := qx.cells
  have hcs : E.cell? ⟨w.heap.size, 0, none⟩ = some (.int .i64 t.k) ∧ E.cell? ⟨w.heap.size, 1, none⟩ = some (.int .i64 t.n) ∧ E.cell? ⟨w.heap.size, 2, none⟩ = some (.string t.s) ∧ E.cell? ⟨w.heap.size, 3, none⟩ = some (.slice ao t.l.length cap) := ⟨c0, c1, c2, c3⟩
  rw [← HEE.out] at hcs
  obtain ⟨d0, d1, d2, d3⟩ := hcs
  show Calls Try.prog 51 #[.agg #[.int .i64 t.k, .int .i64 t.n, .string t.s, .slice ao t.l.length cap]] w _
  clear hn hA hC hD hE hA0 hC0 hD0 oA oC oD oE qx qz pr pb oEw c0 c1 c2 c3
  go_enter Try.func51, Try.ntmps51
  go_wp2_with fail
  rw [HEE.out]
  clear d0 d1 d2 d3 HEE
  refine (H1.out _).mono ?_
  rintro e w1 ⟨rfl, ho1⟩
  have HO1 := Lib.hid (HOE.out.same ho1)
  have HQX1 := Lib.hid (HQX.out.only ho1 (fun e => e))
  have HQZ1 := Lib.hid (HQZ.out.only ho1 (fun e => e))
  have HPR1 := Lib.hid (HPR.out.only ho1 (fun e => e))
  have HPB1 := Lib.hid (HPB.out.only ho1 (fun e => e))
  clear ho1 HQX HQZ HPR HPB H1
  have hS := HQZ1.out.set (.int .i64 t.k) (.int .i64 t.n) (.string t.s) (.slice ao t.l.length cap)
  have HPB2 := Lib.hid (HPB1.out.only hS.2 (fun e => by omega))
  have HPR2 := Lib.hid (HPR1.out.only hS.2 (fun e => by omega))
  clear hS
  obtain ⟨WF, hWF⟩ : ∃ WF, WF = ((((((w1.setCell ⟨w.heap.size + 1, 0, none⟩ (.int .i64 t.k)).setCell ⟨w.heap.size + 1, 1, none⟩ (.int .i64 t.n)).setCell ⟨w.heap.size + 1, 2, none⟩ (.string t.s)).setCell ⟨w.heap.size + 1, 3, none⟩ (.slice ao t.l.length cap)).setCell ⟨w.heap.size + 1 + 1, 0, none⟩ (.slice none 0 0)).setCell ⟨w.heap.size + 1 + 1, 1, none⟩ (.slice none 0 0)) := ⟨_, rfl⟩
  have HST := Lib.hid (twoStores HQZ1.out HPR1.out (.int .i64 t.k) (.int .i64 t.n) (.string t.s) (.slice ao t.l.length cap) (.slice none 0 0) (.slice none 0 0) _ (.inl hWF))
  have HWF := Lib.hid hWF
  clear hWF
  obtain ⟨c0, c1, c2, c3⟩ := HQX1.out.cells
  obtain ⟨d0, d1, d2, d3⟩ := HQZ1.out.cells
  obtain ⟨f0, f1, f2, f3⟩ := HQZ1.out.free
  obtain ⟨p0, p1⟩ := HPB1.out.cells
  obtain ⟨q0, q1⟩ := HPB2.out.cells
  obtain ⟨r0, r1⟩ := HPR2.out.cells
  obtain ⟨s0, s1⟩ := HPR2.out.free
  go_wp2_with fail
  go_region
  all_goals
    go_wp2_with fail
    rw [← HWF.out]
    have hc := HST.out.1.cells
    have hp := HST.out.2.1.cells
    refine bodyPost_ret (v := .tuple #[.agg #[.int .i64 t.k, .int .i64 t.n, .string t.s, .slice ao t.l.length cap], .agg #[.slice none 0 0, .slice none 0 0]]) (results_two rfl _ WF.drew (w.heap.size + 1) (w.heap.size + 1 + 1) _ _ _ _ _ _ rfl rfl hc.1 hc.2.1 hc.2.2.1 hc.2.2.2 hp.1 hp.2) rfl ?_
    have hfin : Only (fun _ => False) w WF.drew := Only.cut HO1.out (HST.out.2.2.same (Only.drew _ _)) (fun k e => by omega)
    exact ⟨none, 0, none, 0, [], [], rfl, ⟨RowOf.nil _ _ _ _ _, RowOf.nil _ _ _ _ _, fun g hg => by simp at hg, fun g hg => by simp at hg, by rw [HE.out]; rfl, by rw [HE.out]; rfl⟩, hfin⟩
end Go.Proofs.Ytoogmlgaeipenaa.terms
