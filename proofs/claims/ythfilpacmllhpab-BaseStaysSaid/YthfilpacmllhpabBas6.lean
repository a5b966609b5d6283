/- Clauses by generations: terms, and a clause without goals, in memory of their own; code in memory of its own. -/
import Derived.Test.YthfilpacmllhpabBas5
import Derived.Test.YthfilpacmllhpabArith1
namespace Go.Proofs.Ythfilpacmllhpab.bases
set_option maxRecDepth 100000
open Go.RowKit Go.Proofs.Ythfilpacmllhpab.own Go.Lib Go.Maps Go.WideMaps Go.Proofs.Ythfilpacmllhpab.idx Go.Proofs.Ythfilpacmllhpab.terms
abbrev zQ : Array Value := #[.int .i64 0, .int .i64 0, .string ⟨#[]⟩, .slice none 0 0]
set_option maxHeartbeats 8000000 in
theorem whole_any (t : T) (ao : Option Addr) (cap : Nat) (w : World) (ht : t.Sane) (hl : Row (fun k => k < w.heap.size) w ao t.l) (hz : t.size ≤ 900000) :
    Calls Try.prog 57 #[tv t ao cap] w fun e w' => ∃ a c, e = .returned (.agg #[.int .i64 t.k, .int .i64 t.n, .string t.s, .slice a t.l.length c]) ∧ Row (fun k => w.heap.size ≤ k ∧ k < w'.heap.size) w' a t.l ∧ Only (fun _ => False) w w' := by
  obtain ⟨A, hA⟩ : ∃ A, A = w.alloc (.cells #[.int .i64 t.k, .int .i64 t.n, .string t.s, .slice ao t.l.length cap] 31) := ⟨_, rfl⟩
  obtain ⟨E, hE⟩ : ∃ E, E = A.alloc (.cells zQ 31) := ⟨_, rfl⟩
  have hA0 : A.heap.size = w.heap.size + 1 := by rw [hA]; simp
  have hE0 : E.heap.size = w.heap.size + 2 := by rw [hE]; simp [hA0]
  have oA : Only (fun _ => False) w A := by rw [hA]; exact Only.alloc _ _ _
  have oE : Only (fun _ => False) A E := by rw [hE]; exact Only.alloc _ _ _
  have hx : Quad w.heap.size (.int .i64 t.k) (.int .i64 t.n) (.string t.s) (.slice ao t.l.length cap) E := by
    have h1 : Quad w.heap.size (.int .i64 t.k) (.int .i64 t.n) (.string t.s) (.slice ao t.l.length cap) A := by rw [hA]; exact heap_alloc_new _ _
    unfold Quad at *
    rw [oE.block _ (lt_of_block h1) (fun e => e)]
    exact h1
  have hq : Quad (w.heap.size + 1) (.int .i64 0) (.int .i64 0) (.string ⟨#[]⟩) (.slice none 0 0) E := by rw [← hA0, hE]; exact heap_alloc_new A _
  have HO := Lib.hid (oA.same oE)
  have HC := Lib.hid (Comp_one ⟨#[]⟩ t ao cap E (w.heap.size + 2) hE0 (Nat.zero_le _) ht ((hl.later HO.out).mono (fun _ h => h)) hz)
  have HQ := Lib.hid hq
  have HES := Lib.hid hE0
  obtain ⟨x0, x1, x2, x3⟩ := hx.cells
  rw [hA] at hE
  clear hx hq hl hz ht oA oE hA hA0
  go_enter Try.func57, Try.ntmps57
  go_upto_region 1 with fail
  rw [← hE]
  clear hE
  go_wp2_with fail
  refine HC.out.mono ?_
  rintro e w3 ⟨a3, c3, rfl, hr3, ho3⟩
  obtain ⟨b3, off, ro, rc, rfl, hb3, k0, k1, k2, k3, _, hsub⟩ := hr3.at (i := 0) rfl
  have hb3' : E.heap.size ≤ b3 ∧ b3 < w3.heap.size := by rcases hb3 with h | h; exact h.elim; exact h
  simp only [Nat.zero_mul, Nat.add_zero] at k0 k1 k2 k3
  obtain ⟨W5, hW5⟩ : ∃ W5, W5 = w3.alloc (.cells #[.int .i64 4, .int .i64 0, .string ⟨#[]⟩, .slice (some ⟨b3, off, none⟩) 1 c3] 31) := ⟨_, rfl⟩
  have o5 : Only (fun _ => False) w3 W5 := by rw [hW5]; exact Only.alloc _ _ _
  have hq5 : Quad w3.heap.size (.int .i64 4) (.int .i64 0) (.string ⟨#[]⟩) (.slice (some ⟨b3, off, none⟩) 1 c3) W5 := by unfold Quad; rw [hW5]; exact heap_alloc_new _ _
  have hz5 : Quad (w.heap.size + 1) (.int .i64 0) (.int .i64 0) (.string ⟨#[]⟩) (.slice none 0 0) W5 := by
    have h1 := HQ.out
    unfold Quad at *
    rw [(ho3.same o5).block _ (lt_of_block h1) (fun e => e)]
    exact h1
  rw [← o5.cell (p := ⟨b3, off, none⟩) hb3'.2 (fun e => e)] at k0
  rw [← o5.cell (p := ⟨b3, off + 1, none⟩) hb3'.2 (fun e => e)] at k1
  rw [← o5.cell (p := ⟨b3, off + 2, none⟩) hb3'.2 (fun e => e)] at k2
  rw [← o5.cell (p := ⟨b3, off + 3, none⟩) hb3'.2 (fun e => e)] at k3
  have HSUB : Hid (Row (fun k => E.heap.size ≤ k ∧ k < w3.heap.size) W5 ro t.l) := Lib.hid ((hsub.mono (fun k h => by rcases h with h | h; exact h.elim; exact h)).only o5 (fun k h => h.2) (fun _ _ e => e))
  have HO5 := Lib.hid ((HO.out.same ho3).same o5)
  have HS5 := Lib.hid (hz5.set (.int .i64 t.k) (.int .i64 t.n) (.string t.s) (.slice ro t.l.length rc))
  have HZ := Lib.hid (And.intro HES.out (And.intro ho3.size o5.size))
  obtain ⟨q0, q1, q2, q3⟩ := hq5.cells
  obtain ⟨z0, z1, z2, z3⟩ := hz5.cells
  obtain ⟨f0, f1, f2, f3⟩ := hz5.free
  clear hr3 ho3 hsub hq5 hz5 o5 hb3 hb3' HC HO HQ x0 x1 x2 x3
  go_upto_region 2 with fail
  rw [← hW5]
  clear hW5
  go_wp2_with fail
  have hc := HS5.out.1.cells
  refine bodyPost_ret (v := .agg #[.int .i64 t.k, .int .i64 t.n, .string t.s, .slice ro t.l.length rc]) (results_term rfl _ _ (w.heap.size + 1) _ _ _ _ rfl hc.1 hc.2.1 hc.2.2.1 hc.2.2.2) rfl ?_
  have hsz := HZ.out
  have ho := HS5.out.2
  refine ⟨ro, rc, rfl, (HSUB.out.only ho (fun k h => by omega) (fun k h e => by have e' : k = w.heap.size + 1 := e; omega)).mono (fun k h => ⟨by omega, Nat.lt_of_lt_of_le (by omega) ho.size⟩), idx.Only.cut HO5.out ho (fun k e => by have e' : k = w.heap.size + 1 := e; omega)⟩
/-- The six cells of a clause. -/
def Hex (b : Nat) (x0 x1 x2 x3 x4 x5 : Value) (w : World) : Prop := w.heap[b]? = some (.cells #[x0, x1, x2, x3, x4, x5] 34 (0, 0))
theorem Hex.cells {b : Nat} {x0 x1 x2 x3 x4 x5 : Value} {w : World} (h : Hex b x0 x1 x2 x3 x4 x5 w) : w.cell? ⟨b, 0, none⟩ = some x0 ∧ w.cell? ⟨b, 1, none⟩ = some x1 ∧ w.cell? ⟨b, 2, none⟩ = some x2 ∧ w.cell? ⟨b, 3, none⟩ = some x3 ∧ w.cell? ⟨b, 4, none⟩ = some x4 ∧ w.cell? ⟨b, 5, none⟩ = some x5 := by
  refine ⟨?_, ?_, ?_, ?_, ?_, ?_⟩ <;> (rw [cell_of_blk h]; rfl)
theorem Hex.free {b : Nat} {x0 x1 x2 x3 x4 x5 : Value} {w : World} (h : Hex b x0 x1 x2 x3 x4 x5 w) : w.frozen? ⟨b, 0, none⟩ = false ∧ w.frozen? ⟨b, 1, none⟩ = false ∧ w.frozen? ⟨b, 2, none⟩ = false ∧ w.frozen? ⟨b, 3, none⟩ = false ∧ w.frozen? ⟨b, 4, none⟩ = false ∧ w.frozen? ⟨b, 5, none⟩ = false :=
  ⟨free_of_blk h 0, free_of_blk h 1, free_of_blk h 2, free_of_blk h 3, free_of_blk h 4, free_of_blk h 5⟩
theorem Hex.only {b : Nat} {x0 x1 x2 x3 x4 x5 : Value} {w w' : World} {S : Nat → Prop} (h : Hex b x0 x1 x2 x3 x4 x5 w) (ho : Only S w w') (hS : ¬ S b) : Hex b x0 x1 x2 x3 x4 x5 w' := by
  unfold Hex at *
  rw [ho.block b (lt_of_block h) hS]
  exact h
abbrev hexW (w : World) (b : Nat) (y0 y1 y2 y3 y4 y5 : Value) : World := (((((w.setCell ⟨b, 0, none⟩ y0).setCell ⟨b, 1, none⟩ y1).setCell ⟨b, 2, none⟩ y2).setCell ⟨b, 3, none⟩ y3).setCell ⟨b, 4, none⟩ y4).setCell ⟨b, 5, none⟩ y5
theorem Hex.set {b : Nat} {x0 x1 x2 x3 x4 x5 : Value} {w : World} (h : Hex b x0 x1 x2 x3 x4 x5 w) (y0 y1 y2 y3 y4 y5 : Value) : Hex b y0 y1 y2 y3 y4 y5 (hexW w b y0 y1 y2 y3 y4 y5) ∧ Only (· = b) w (hexW w b y0 y1 y2 y3 y4 y5) := by
  have so : ∀ (W : World) (j : Nat) (y : Value), Only (· = b) W (W.setCell ⟨b, j, none⟩ y) := fun W j y => Only.setCell (S := (· = b)) (p := ⟨b, j, none⟩) W rfl y
  refine ⟨?_, (((((so _ _ _).same (so _ _ _)).same (so _ _ _)).same (so _ _ _)).same (so _ _ _)).same (so _ _ _)⟩
  unfold Hex at *
  rw [blk_set (blk_set (blk_set (blk_set (blk_set (blk_set h 0 _) 1 _) 2 _) 3 _) 4 _) 5 _]
  simp
theorem results_clause {fn : Func} {p : Tmp} (h : fn.results = #[.cell p 34]) (tmps : Array Value) (w : World) (b : Nat) (x0 x1 x2 x3 x4 x5 : Value) (hb : tmps.getD p undef = .pointer (some ⟨b, 0, none⟩)) (hx : Hex b x0 x1 x2 x3 x4 x5 w) :
    (results fn tmps).run Try.prog w = .ok (.agg #[x0, x1, x2, x3, x4, x5]) w := by
  have hb' : tmps[p]?.getD undef = .pointer (some ⟨b, 0, none⟩) := by simpa using hb
  obtain ⟨h0, h1, h2, h3, h4, h5⟩ := hx.cells
  simp only [results, h]
  go_simp
abbrev cV (t : T) (ao : Option Addr) (cap : Nat) (v : Int) : Value := .agg #[.int .i64 t.k, .int .i64 t.n, .string t.s, .slice ao t.l.length cap, .slice none 0 0, .int .i64 v]
abbrev zH : Array Value := #[.int .i64 0, .int .i64 0, .string ⟨#[]⟩, .slice none 0 0, .slice none 0 0, .int .i64 0]
set_option maxHeartbeats 8000000 in
theorem copied_none (t : T) (ao : Option Addr) (cap : Nat) (v : Int) (w : World) (ht : t.Sane) (hl : Row (fun k => k < w.heap.size) w ao t.l) (hz : t.size ≤ 900000) :
    Calls Try.prog 37 #[cV t ao cap v] w fun e w' => ∃ a c, e = .returned (cV t a c v) ∧ Row (fun k => w.heap.size ≤ k ∧ k < w'.heap.size) w' a t.l ∧ Only (fun _ => False) w w' := by
  obtain ⟨A, hA⟩ : ∃ A, A = w.alloc (.cells #[.int .i64 t.k, .int .i64 t.n, .string t.s, .slice ao t.l.length cap, .slice none 0 0, .int .i64 v] 34) := ⟨_, rfl⟩
  obtain ⟨E, hE⟩ : ∃ E, E = A.alloc (.cells zH 34) := ⟨_, rfl⟩
  have hA0 : A.heap.size = w.heap.size + 1 := by rw [hA]; simp
  have hE0 : E.heap.size = w.heap.size + 2 := by rw [hE]; simp [hA0]
  have oA : Only (fun _ => False) w A := by rw [hA]; exact Only.alloc _ _ _
  have oE : Only (fun _ => False) A E := by rw [hE]; exact Only.alloc _ _ _
  have hx : Hex w.heap.size (.int .i64 t.k) (.int .i64 t.n) (.string t.s) (.slice ao t.l.length cap) (.slice none 0 0) (.int .i64 v) E := by
    have h1 : Hex w.heap.size (.int .i64 t.k) (.int .i64 t.n) (.string t.s) (.slice ao t.l.length cap) (.slice none 0 0) (.int .i64 v) A := by rw [hA]; exact heap_alloc_new _ _
    exact h1.only oE (fun e => e)
  have hq : Hex (w.heap.size + 1) (.int .i64 0) (.int .i64 0) (.string ⟨#[]⟩) (.slice none 0 0) (.slice none 0 0) (.int .i64 0) E := by rw [← hA0, hE]; exact heap_alloc_new A _
  have HO := Lib.hid (oA.same oE)
  have HX := Lib.hid hx
  have HQ := Lib.hid hq
  have HES := Lib.hid hE0
  have HW : Hid (∀ W, Only (fun _ => False) E W → Calls Try.prog 57 #[.agg #[.int .i64 t.k, .int .i64 t.n, .string t.s, .slice ao t.l.length cap]] W fun e w' => ∃ a c, e = .returned (.agg #[.int .i64 t.k, .int .i64 t.n, .string t.s, .slice a t.l.length c]) ∧ Row (fun k => W.heap.size ≤ k ∧ k < w'.heap.size) w' a t.l ∧ Only (fun _ => False) W w') := Lib.hid (fun W o => whole_any t ao cap W ht ((hl.later HO.out).later o) hz)
  rw [hA] at hE
  clear hx hq hl hz ht oA oE hA hA0 hE0
  go_enter Try.func37, Try.ntmps37
  go_upto_region 1 with fail
  rw [← hE]
  clear hE
  go_cut [3] (fun s3 wx => ∃ b3 a c, s3 = .pointer (some ⟨b3, 0, none⟩) ∧ Hid (Hex b3 (.int .i64 t.k) (.int .i64 t.n) (.string t.s) (.slice a t.l.length c) (.slice none 0 0) (.int .i64 v) wx ∧ E.heap.size ≤ b3 ∧ Row (fun k => E.heap.size ≤ k ∧ k < wx.heap.size) wx a t.l ∧ Only (fun _ => False) E wx))
  case first =>
    go_region_held3 (fun W => W.cell? ⟨w.heap.size, 0, none⟩ = some (.int .i64 t.k) ∧ W.cell? ⟨w.heap.size, 1, none⟩ = some (.int .i64 t.n) ∧ W.cell? ⟨w.heap.size, 2, none⟩ = some (.string t.s) ∧ W.cell? ⟨w.heap.size, 3, none⟩ = some (.slice ao t.l.length cap) ∧ W.cell? ⟨w.heap.size, 4, none⟩ = some (.slice none 0 0) ∧ W.cell? ⟨w.heap.size, 5, none⟩ = some (.int .i64 v)) (with_reducible first | exact (HX.out.only HOS.out (fun e => e)).cells | exact (HX.out.only HOu.out (fun e => e)).cells | exact (HX.out.only (HOu.out.same (Only.alloc _ _ _)) (fun e => e)).cells | exact (HX.out.only (Only.drew (fun _ => False) _) (fun e => e)).cells | exact (HX.out.only ((Only.drew (fun _ => False) _).same (Only.alloc _ _ _)) (fun e => e)).cells | exact (HX.out.only ((Only.alloc (fun _ => False) _ _).same (Only.drew _ _)) (fun e => e)).cells) (first
      | (go_at_call 57; first
        | ((with_reducible refine (HW.out E.drew (Only.drew _ _)).mono ?_); rintro r u ⟨a, c, rfl, hr, hou⟩; have HOu : Hid (Only (fun _ => False) E u) := Lib.hid ((Only.drew _ _).same hou); have HRu := Lib.hid hr; clear hou hr)
        | ((with_reducible refine (HW.out _ ((Only.alloc _ _ _).same (Only.drew _ _))).mono ?_); rintro r u ⟨a, c, rfl, hr, hou⟩; have HOu : Hid (Only (fun _ => False) E u) := Lib.hid (((Only.alloc _ _ _).same (Only.drew _ _)).same hou); have HRu := Lib.hid hr; have HZu : Hid (Hex E.heap.size (.int .i64 0) (.int .i64 0) (.string ⟨#[]⟩) (.slice none 0 0) (.slice none 0 0) (.int .i64 0) u) := Lib.hid (Hex.only (b := E.heap.size) (heap_alloc_new E _) ((Only.drew _ _).same hou) (fun e => e)); have HSu := Lib.hid (HZu.out.set (.int .i64 t.k) (.int .i64 t.n) (.string t.s) (.slice a t.l.length c) (.slice none 0 0) (.int .i64 v)); have HOS := Lib.hid (idx.Only.cut HOu.out HSu.out.2 (fun k e => Nat.le_of_eq e.symm)); obtain ⟨d0, d1, d2, d3, d4, d5⟩ := HZu.out.cells; obtain ⟨g0, g1, g2, g3, g4, g5⟩ := HZu.out.free; clear hou hr)))
    all_goals
      go_wp2_with fail
      go_meet
      first
        | exact ⟨_, a, c, rfl, Lib.hid ⟨HSu.out.1, Nat.le_refl _, (HRu.out.only HSu.out.2 (fun k h => h.2) (fun k h e => by have e' : k = E.heap.size := e; have h1 := h.1; simp at h1; omega)).mono (fun k h => ⟨by have h1 := h.1; simp at h1; omega, Nat.lt_of_lt_of_le h.2 HSu.out.2.size⟩), HOS.out⟩⟩
        | exact ⟨_, a, c, rfl, Lib.hid ⟨heap_alloc_new _ _, HOu.out.size, (HRu.out.only (Only.alloc _ _ _) (fun k h => h.2) (fun _ _ e => e)).mono (fun k h => by have h1 := h.1; have h2 := h.2; simp at h1 h2 ⊢; omega), HOu.out.same (Only.alloc _ _ _)⟩⟩
  case rest =>
    obtain ⟨b3, a, c, rfl, hC⟩ := hcut
    obtain ⟨x0, x1, x2, x3, x4, x5⟩ := (HX.out.only hC.out.2.2.2 (fun e => e)).cells
    obtain ⟨y0, y1, y2, y3, y4, y5⟩ := hC.out.1.cells
    have HQ5 := Lib.hid (HQ.out.only hC.out.2.2.2 (fun e => e))
    obtain ⟨d0, d1, d2, d3, d4, d5⟩ := HQ5.out.cells
    obtain ⟨g0, g1, g2, g3, g4, g5⟩ := HQ5.out.free
    have HS5 := Lib.hid (HQ5.out.set (.int .i64 t.k) (.int .i64 t.n) (.string t.s) (.slice a t.l.length c) (.slice none 0 0) (.int .i64 v))
    go_upto_region 3 with fail
    go_loopw [15] (fun iv wr => iv = .int .i64 0 ∧ wr = wc) (fun _ _ => 0)
    case atStart => exact ⟨rfl, rfl⟩
    case round =>
      obtain ⟨rfl, rfl⟩ := hrel
      obtain ⟨WF, hWF⟩ : ∃ WF, WF = (((((wr.setCell ⟨w.heap.size + 1, 0, none⟩ (.int .i64 t.k)).setCell ⟨w.heap.size + 1, 1, none⟩ (.int .i64 t.n)).setCell ⟨w.heap.size + 1, 2, none⟩ (.string t.s)).setCell ⟨w.heap.size + 1, 3, none⟩ (.slice a t.l.length c)).setCell ⟨w.heap.size + 1, 4, none⟩ (.slice none 0 0)).setCell ⟨w.heap.size + 1, 5, none⟩ (.int .i64 v) := ⟨_, rfl⟩
      have HF : Hid (Hex (w.heap.size + 1) (.int .i64 t.k) (.int .i64 t.n) (.string t.s) (.slice a t.l.length c) (.slice none 0 0) (.int .i64 v) WF ∧ Only (· = w.heap.size + 1) wr WF) := Lib.hid (by rw [hWF]; exact HS5.out)
      clear HS5
      go_wp2_with fail
      rw [← hWF]
      clear hWF
      refine bodyPost_ret (v := .agg #[.int .i64 t.k, .int .i64 t.n, .string t.s, .slice a t.l.length c, .slice none 0 0, .int .i64 v]) (results_clause rfl _ WF (w.heap.size + 1) _ _ _ _ _ _ rfl HF.out.1) rfl ?_
      have hz := HES.out
      have ho := HF.out.2
      exact ⟨a, c, rfl, (hC.out.2.2.1.only ho (fun k h => h.2) (fun k h e => by have e' : k = w.heap.size + 1 := e; omega)).mono (fun k h => ⟨by omega, Nat.lt_of_lt_of_le h.2 ho.size⟩), idx.Only.cut (HO.out.same hC.out.2.2.2) ho (fun k e => by have e' : k = w.heap.size + 1 := e; omega)⟩
end Go.Proofs.Ythfilpacmllhpab.bases
