/- Clauses by generations: Kill of what is no clause, or was killed; an instruction of the code; the clause. -/
import Derived.Test.YthfilpacmllhpabBas10
namespace Go.Proofs.Ythfilpacmllhpab.bases
set_option maxRecDepth 100000
open Go.RowKit Go.Proofs.Ythfilpacmllhpab.own Go.Lib Go.Maps Go.WideMaps Go.Proofs.Ythfilpacmllhpab.idx Go.Proofs.Ythfilpacmllhpab.terms
section
variable {b pm N : Nat} {sl : List Sl} {ps A C : List Pc} {p p' : Pc} {lim gen low us : Int} {so : Option Addr} {sc np : Nat} {Dp : D3} {w w' W W' : World}
theorem kill_out (h : BI b pm N sl ps lim gen low so sc np Dp w) {i : Int} (hi : i < 0 ∨ (sl.length : Int) ≤ i) : Calls Try.prog 10 #[.pointer (some ⟨b, 0, none⟩), .int .i64 i] w fun e w' => e = .returned (.int .i64 4) ∧ w' = w := by
  have HC := Lib.hid (closed_no h)
  have HH : Hid (Calls Try.prog 41 #[.pointer (some ⟨b, 0, none⟩), .int .i64 i] w fun e w' => e = .returned (.bool false) ∧ w' = w) := Lib.hid (by
    rcases hi with hi | hi
    · exact has_under h hi
    · obtain ⟨n, rfl⟩ : ∃ n : Nat, i = n := ⟨i.toNat, by omega⟩
      exact has_over h (by omega))
  clear h hi
  go_enter Try.func10, Try.ntmps10
  go_wp2_with fail
  refine HC.out.mono ?_
  rintro e w1 ⟨rfl, rfl⟩
  go_wp2_with fail
  refine HH.out.mono ?_
  rintro e w1 ⟨rfl, rfl⟩
  go_wp2_with fail
  go_ret
  exact ⟨rfl, rfl⟩
theorem kill_dead (h : BI b pm N sl ps lim gen low so sc np Dp w) {i : Nat} {s : Sl} (hs : sl[i]? = some s) (hki : s.ki > 0) : Calls Try.prog 10 #[.pointer (some ⟨b, 0, none⟩), .int .i64 i] w fun e w' => e = .returned (.int .i64 4) ∧ w' = w := by
  have HC := Lib.hid (closed_no h)
  have HH := Lib.hid (has_yes h hs)
  obtain ⟨c0, c1, c2, c3, c4, c5⟩ := h.cells
  obtain ⟨g0, rfl, hg, _, _, _, _, _, _, _, _, _, d9, d10, df⟩ := h.slot hs
  have hi : i < sl.length := (List.getElem?_eq_some_iff.1 hs).1
  have h0' : (0 : Int) ≤ (i : Int) := by omega
  have h1 : (i : Int) < (sl.length : Int) := by omega
  generalize sl.length = n at *
  clear h hs
  go_enter Try.func10, Try.ntmps10
  go_wp2_with fail
  refine HC.out.mono ?_
  rintro e w1 ⟨rfl, rfl⟩
  go_wp2_with fail
  refine HH.out.mono ?_
  rintro e w1 ⟨rfl, rfl⟩
  go_wp2_with fail
  go_ret
  exact ⟨rfl, rfl⟩
/-- The five cells of an instruction. -/
def Pent (b : Nat) (i : In) (w : World) : Prop := w.heap[b]? = some (.cells #[.int .i64 i.o, .string i.s, .int .i64 i.n, .int .i64 i.v, .int .i64 i.a] 61 (0, 0))
theorem Pent.cells {b : Nat} {i : In} {w : World} (h : Pent b i w) : w.cell? ⟨b, 0, none⟩ = some (.int .i64 i.o) ∧ w.cell? ⟨b, 1, none⟩ = some (.string i.s) ∧ w.cell? ⟨b, 2, none⟩ = some (.int .i64 i.n) ∧ w.cell? ⟨b, 3, none⟩ = some (.int .i64 i.v) ∧ w.cell? ⟨b, 4, none⟩ = some (.int .i64 i.a) := by
  refine ⟨?_, ?_, ?_, ?_, ?_⟩ <;> (rw [cell_of_blk h]; rfl)
theorem Pent.free {b : Nat} {i : In} {w : World} (h : Pent b i w) : w.frozen? ⟨b, 0, none⟩ = false ∧ w.frozen? ⟨b, 1, none⟩ = false ∧ w.frozen? ⟨b, 2, none⟩ = false ∧ w.frozen? ⟨b, 3, none⟩ = false ∧ w.frozen? ⟨b, 4, none⟩ = false :=
  ⟨free_of_blk h 0, free_of_blk h 1, free_of_blk h 2, free_of_blk h 3, free_of_blk h 4⟩
theorem Pent.only {b : Nat} {i : In} {w w' : World} {S : Nat → Prop} (h : Pent b i w) (ho : Only S w w') (hS : ¬ S b) : Pent b i w' := by
  unfold Pent at *
  rw [ho.block b (lt_of_block h) hS]
  exact h
abbrev pentW (w : World) (b : Nat) (y : In) : World := ((((w.setCell ⟨b, 0, none⟩ (.int .i64 y.o)).setCell ⟨b, 1, none⟩ (.string y.s)).setCell ⟨b, 2, none⟩ (.int .i64 y.n)).setCell ⟨b, 3, none⟩ (.int .i64 y.v)).setCell ⟨b, 4, none⟩ (.int .i64 y.a)
theorem Pent.set {b : Nat} {x : In} {w : World} (h : Pent b x w) (y : In) : Pent b y (pentW w b y) ∧ Only (· = b) w (pentW w b y) := by
  have so : ∀ (W : World) (j : Nat) (y : Value), Only (· = b) W (W.setCell ⟨b, j, none⟩ y) := fun W j y => Only.setCell (S := (· = b)) (p := ⟨b, j, none⟩) W rfl y
  refine ⟨?_, ((((so _ _ _).same (so _ _ _)).same (so _ _ _)).same (so _ _ _)).same (so _ _ _)⟩
  unfold Pent at *
  rw [blk_set (blk_set (blk_set (blk_set (blk_set h 0 _) 1 _) 2 _) 3 _) 4 _]
  simp
theorem results_instr {fn : Func} {p u : Tmp} (h : fn.results = #[.cell p 61, .tmp u]) (tmps : Array Value) (w : World) (b : Nat) (x : In) (v : Value) (hb : tmps.getD p undef = .pointer (some ⟨b, 0, none⟩)) (hu : tmps.getD u undef = v) (hx : Pent b x w) :
    (results fn tmps).run Try.prog w = .ok (.tuple #[.agg #[.int .i64 x.o, .string x.s, .int .i64 x.n, .int .i64 x.v, .int .i64 x.a], v]) w := by
  have hb' : tmps[p]?.getD undef = .pointer (some ⟨b, 0, none⟩) := by simpa using hb
  have hu' : tmps[u]?.getD undef = v := by simpa using hu
  obtain ⟨h0, h1, h2, h3, h4⟩ := hx.cells
  simp only [results, h]
  go_simp
theorem results_clause2 {fn : Func} {p u : Tmp} (h : fn.results = #[.cell p 34, .tmp u]) (tmps : Array Value) (w : World) (b : Nat) (x0 x1 x2 x3 x4 x5 v : Value) (hb : tmps.getD p undef = .pointer (some ⟨b, 0, none⟩)) (hu : tmps.getD u undef = v) (hx : Hex b x0 x1 x2 x3 x4 x5 w) :
    (results fn tmps).run Try.prog w = .ok (.tuple #[.agg #[x0, x1, x2, x3, x4, x5], v]) w := by
  have hb' : tmps[p]?.getD undef = .pointer (some ⟨b, 0, none⟩) := by simpa using hb
  have hu' : tmps[u]?.getD undef = v := by simpa using hu
  obtain ⟨h0, h1, h2, h3, h4, h5⟩ := hx.cells
  simp only [results, h]
  go_simp
abbrev zI : In := ⟨0, ⟨#[]⟩, 0, 0, 0⟩
set_option maxHeartbeats 4000000 in
theorem at_yes (h : BI b pm N sl ps lim gen low so sc np Dp w) {i : Nat} {s : Sl} (hs : sl[i]? = some s) {M : Nat} {is : List In} (hr : RowI M s.ca s.cc is w) (hl : s.cl = is.length) {j : Nat} {x : In} (hj : is[j]? = some x) :
    Calls Try.prog 19 #[.pointer (some ⟨b, 0, none⟩), .int .i64 i, .int .i64 j] w fun e w' => e = .returned (.tuple #[.agg #[.int .i64 x.o, .string x.s, .int .i64 x.n, .int .i64 x.v, .int .i64 x.a], .bool true]) ∧ Only (fun _ => False) w w' := by
  obtain ⟨E, hE⟩ : ∃ E, E = w.alloc (.cells #[.int .i64 0, .string ⟨#[]⟩, .int .i64 0, .int .i64 0, .int .i64 0] 61) := ⟨_, rfl⟩
  have HX : Hid (Pent w.heap.size zI E) := Lib.hid (by rw [hE]; exact heap_alloc_new _ _)
  have HO : Hid (Only (fun _ => False) w E) := Lib.hid (by rw [hE]; exact Only.alloc _ _ _)
  have hE' := h.later HO.out
  have HSZ := Lib.hid (size_yes hE' hs)
  rw [hl] at HSZ
  obtain ⟨c0, c1, c2, c3, c4, c5⟩ := hE'.cells
  obtain ⟨g0, rfl, hg, _, _, _, _, _, _, _, _, d8, _, _, _⟩ := hE'.slot hs
  rw [hl] at d8
  have hre : RowI M s.ca s.cc is E := hr.only HO.out (fun _ _ e => e)
  obtain ⟨gi, hgi, _, hcc⟩ := hre.at liesI j x hj
  rw [hgi] at d8
  have i0 := (hcc 0 (by decide)).1
  have i1 := (hcc 1 (by decide)).1
  have i2 := (hcc 2 (by decide)).1
  have i3 := (hcc 3 (by decide)).1
  have i4 := (hcc 4 (by decide)).1
  simp only [encI, List.getElem?_cons_zero, List.getElem?_cons_succ, Nat.add_zero] at i0 i1 i2 i3 i4
  have hi : i < sl.length := (List.getElem?_eq_some_iff.1 hs).1
  have hjl : j < is.length := (List.getElem?_eq_some_iff.1 hj).1
  have h0' : (0 : Int) ≤ (i : Int) := by omega
  have h1 : (i : Int) < (sl.length : Int) := by omega
  have g0' : (0 : Int) ≤ (j : Int) := by omega
  have g1 : (j : Int) < (is.length : Int) := by omega
  have g2 : ¬ ((j : Int) < 0) := by omega
  have g3 : ¬ ((j : Int) ≥ (is.length : Int)) := by omega
  obtain ⟨z0, z1, z2, z3, z4⟩ := HX.out.cells
  obtain ⟨f0, f1, f2, f3, f4⟩ := HX.out.free
  have HS := Lib.hid (HX.out.set x)
  generalize is.length = m at *
  generalize sl.length = n at *
  clear h hs hE' hr hre hj hcc hl
  go_enter Try.func19, Try.ntmps19
  go_upto_region 1 with fail
  rw [← hE]
  clear hE
  go_wp2_with fail
  refine HSZ.out.mono ?_
  rintro e w1 ⟨rfl, rfl⟩
  go_wp2_with fail
  refine bodyPost_ret (v := .tuple #[.agg #[.int .i64 x.o, .string x.s, .int .i64 x.n, .int .i64 x.v, .int .i64 x.a], .bool true]) (results_instr rfl _ _ w.heap.size x _ rfl rfl HS.out.1) rfl ?_
  exact ⟨rfl, idx.Only.cut HO.out HS.out.2 (fun k e => Nat.le_of_eq e.symm)⟩
set_option maxHeartbeats 8000000 in
theorem clause_yes (h : BI b pm N sl ps lim gen low so sc np Dp w) {i : Nat} {s : Sl} (hs : sl[i]? = some s) (t : T) (hk : s.hk = t.k ∧ s.hn = t.n ∧ s.hs = t.s ∧ s.hl = t.l.length) (hg : s.ga = none ∧ s.gl = 0 ∧ s.gc = 0) (ht : t.Sane) (hl : Row (fun k => k < w.heap.size) w s.ha t.l) (hz : t.size ≤ 900000) :
    Calls Try.prog 17 #[.pointer (some ⟨b, 0, none⟩), .int .i64 i] w fun e w' => ∃ a c, e = .returned (.tuple #[cV t a c s.vs, .int .i64 0]) ∧ Row (fun k => w.heap.size ≤ k ∧ k < w'.heap.size) w' a t.l ∧ Only (fun _ => False) w w' := by
  obtain ⟨E, hE⟩ : ∃ E, E = w.alloc (.cells zH 34) := ⟨_, rfl⟩
  have HX : Hid (Hex w.heap.size (.int .i64 0) (.int .i64 0) (.string ⟨#[]⟩) (.slice none 0 0) (.slice none 0 0) (.int .i64 0) E) := Lib.hid (by rw [hE]; exact heap_alloc_new _ _)
  have HO : Hid (Only (fun _ => False) w E) := Lib.hid (by rw [hE]; exact Only.alloc _ _ _)
  have HSZ : Hid (w.heap.size < E.heap.size) := Lib.hid (lt_of_block HX.out)
  have hE' := h.later HO.out
  have HC := Lib.hid (closed_no hE')
  have HH := Lib.hid (has_yes hE' hs)
  obtain ⟨c0, c1, c2, c3, c4, c5⟩ := hE'.cells
  obtain ⟨g0, rfl, hg0, _, _, d2, d3, d4, d5, d6, d7, _, _, _, _⟩ := hE'.slot hs
  rw [hk.1] at d2
  rw [hk.2.1] at d3
  rw [hk.2.2.1] at d4
  rw [hk.2.2.2] at d5
  rw [hg.1, hg.2.1, hg.2.2] at d6
  have HCP := Lib.hid (copied_none t s.ha s.hc s.vs E ht (hl.later HO.out) hz)
  have hi : i < sl.length := (List.getElem?_eq_some_iff.1 hs).1
  have h0' : (0 : Int) ≤ (i : Int) := by omega
  have h1 : (i : Int) < (sl.length : Int) := by omega
  generalize sl.length = n at *
  generalize hbk : w.heap.size = bk at *
  clear h hs hE' hl hk hg hg0 hi
  go_enter Try.func17, Try.ntmps17
  go_upto_region 1 with fail
  rw [← hE]
  clear hE
  go_wp2_with fail
  refine HC.out.mono ?_
  rintro e w1 ⟨rfl, rfl⟩
  go_wp2_with fail
  refine HH.out.mono ?_
  rintro e w1 ⟨rfl, rfl⟩
  go_wp2_with fail
  refine HCP.out.mono ?_
  rintro e w2 ⟨a, c, rfl, hr, ho⟩
  have HX2 := Lib.hid (HX.out.only ho (fun e => e))
  obtain ⟨z0, z1, z2, z3, z4, z5⟩ := HX2.out.cells
  obtain ⟨f0, f1, f2, f3, f4, f5⟩ := HX2.out.free
  have HS := Lib.hid (HX2.out.set (.int .i64 t.k) (.int .i64 t.n) (.string t.s) (.slice a t.l.length c) (.slice none 0 0) (.int .i64 s.vs))
  have HR := Lib.hid hr
  have HO2 := Lib.hid (HO.out.same ho)
  have HZ2 := Lib.hid ho.size
  clear hr ho c0 c1 c2 c3 c4 c5 d2 d3 d4 d5 d6 d7
  obtain ⟨WF, hWF⟩ : ∃ WF, WF = hexW w2 bk (.int .i64 t.k) (.int .i64 t.n) (.string t.s) (.slice a t.l.length c) (.slice none 0 0) (.int .i64 s.vs) := ⟨_, rfl⟩
  rw [← hWF] at HS
  go_wp2_with fail
  first | rw [← hWF] | (unfold hexW at hWF; rw [← hWF])
  clear hWF
  refine bodyPost_ret (v := .tuple #[.agg #[.int .i64 t.k, .int .i64 t.n, .string t.s, .slice a t.l.length c, .slice none 0 0, .int .i64 s.vs], .int .i64 0]) (results_clause2 rfl _ WF bk _ _ _ _ _ _ _ rfl rfl HS.out.1) rfl ?_
  have hsz := HSZ.out
  have h3 := HS.out.2.size
  exact ⟨a, c, rfl, (HR.out.only HS.out.2 (fun k hk => hk.2) (fun k hk e => by have e' : k = bk := e; have := hk.1; omega)).mono (fun k hk => ⟨by have := hk.1; omega, Nat.lt_of_lt_of_le hk.2 h3⟩), idx.Only.cut HO2.out HS.out.2 (fun k e => by have e' : k = bk := e; omega)⟩
end
end Go.Proofs.Ythfilpacmllhpab.bases
