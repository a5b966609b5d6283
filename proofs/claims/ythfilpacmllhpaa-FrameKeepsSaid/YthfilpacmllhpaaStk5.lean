/- Environments and choices in memory: a choice is copied; Choice, Last. -/
import Derived.Test.YthfilpacmllhpaaStk4
namespace Go.Proofs.Ythfilpacmllhpaa.stk
set_option maxRecDepth 100000
open Go.RowKit Go.Proofs.Ythfilpacmllhpaa.own
open Go.Proofs.Ythfilpacmllhpaa.rooms (RoomP IsRoom)
section
variable {b rb : Nat} {ao co : Option Addr} {cap cc : Nat} {most wl lim : Int} {s : St} {w w' : World}
abbrev nineW (W : World) (b : Nat) (y0 y1 y2 y3 y4 y5 y6 y7 y8 : Value) : World :=
  ((((((((W.setCell ⟨b, 0, none⟩ y0).setCell ⟨b, 1, none⟩ y1).setCell ⟨b, 2, none⟩ y2).setCell ⟨b, 3, none⟩ y3).setCell ⟨b, 4, none⟩ y4).setCell ⟨b, 5, none⟩ y5).setCell ⟨b, 6, none⟩ y6).setCell ⟨b, 7, none⟩ y7).setCell ⟨b, 8, none⟩ y8
theorem Nine.set {k : Nat} {x0 x1 x2 x3 x4 x5 x6 x7 x8 : Value} (h : Nine k x0 x1 x2 x3 x4 x5 x6 x7 x8 w) (y0 y1 y2 y3 y4 y5 y6 y7 y8 : Value) : Nine k y0 y1 y2 y3 y4 y5 y6 y7 y8 (nineW w k y0 y1 y2 y3 y4 y5 y6 y7 y8) ∧ Only (· = k) w (nineW w k y0 y1 y2 y3 y4 y5 y6 y7 y8) := by
  have key : ∀ (W : World) (j : Nat) (u : Value), Only (· = k) W (W.setCell ⟨k, j, none⟩ u) := fun W j u => Only.setCell (S := (· = k)) W (p := ⟨k, j, none⟩) rfl u
  refine ⟨⟨?_⟩, ((((((((key _ _ _).same (key _ _ _)).same (key _ _ _)).same (key _ _ _)).same (key _ _ _)).same (key _ _ _)).same (key _ _ _)).same (key _ _ _)).same (key _ _ _)⟩
  have := blk_set (blk_set (blk_set (blk_set (blk_set (blk_set (blk_set (blk_set (blk_set h.blk 0 y0) 1 y1) 2 y2) 3 y3) 4 y4) 5 y5) 6 y6) 7 y7) 8 y8
  simpa using this
theorem Nine.set1 {k : Nat} {x0 x1 x2 x3 x4 x5 x6 x7 x8 : Value} (h : Nine k x0 x1 x2 x3 x4 x5 x6 x7 x8 w) (y1 : Value) : Nine k x0 y1 x2 x3 x4 x5 x6 x7 x8 (w.setCell ⟨k, 1, none⟩ y1) ∧ Only (· = k) w (w.setCell ⟨k, 1, none⟩ y1) := by
  refine ⟨⟨?_⟩, Only.setCell (S := (· = k)) w (p := ⟨k, 1, none⟩) rfl _⟩
  have := blk_set h.blk 1 y1
  simpa using this
theorem RowOf.lower {α : Type} {enc : α → List Value} {s E B B' : Nat} {ao : Option Addr} {cap : Nat} {xs : List α} {w : World} (h : RowOf enc s E B ao cap xs w) (hB : B' ≤ B) : RowOf enc s E B' ao cap xs w := by
  obtain ⟨r1, r2⟩ := h
  refine ⟨r1, ?_⟩
  rcases r2 with r2 | ⟨g, cap', cur, hv, hb, rest⟩
  · exact .inl r2
  · exact .inr ⟨g, cap', cur, hv, Nat.le_trans hB hb, rest⟩
theorem infoW : (Try.prog.info? 35).map (fun i => (i.zero, i.size, i.bytes)) = some (some (.int .u64 0), 1, 8) := by kernel_rfl
set_option maxHeartbeats 2000000 in
theorem copied_any (y0 y2 y3 y4 y5 y6 y7 y8 : Int) (so : Option Addr) (sc : Nat) (args : List Int) (w : World) (hs : SrcOf encW w so args) (hsb : ∀ ad, so = some ad → ad.block < w.heap.size) (hl : args.length ≤ 16777216) :
    Calls Try.prog 45 #[.agg #[.int .i64 y0, .slice so args.length sc, .int .i64 y2, .int .i64 y3, .int .i64 y4, .int .i64 y5, .int .i64 y6, .int .i64 y7, .int .i64 y8]] w fun e w' => ∃ ao' cap', e = .returned (.agg #[.int .i64 y0, .slice ao' args.length cap', .int .i64 y2, .int .i64 y3, .int .i64 y4, .int .i64 y5, .int .i64 y6, .int .i64 y7, .int .i64 y8]) ∧ RowOf encW 1 35 w.heap.size ao' cap' args w' ∧ Only (fun _ => False) w w' := by
  obtain ⟨i0, hi, hz0, hz1, hz2⟩ := info_parts infoW
  obtain ⟨E, hE⟩ : ∃ E, E = (w.alloc (.cells #[.int .i64 y0, .slice so args.length sc, .int .i64 y2, .int .i64 y3, .int .i64 y4, .int .i64 y5, .int .i64 y6, .int .i64 y7, .int .i64 y8] 34)).alloc (.cells #[.int .i64 0, .slice none 0 0, .int .i64 0, .int .i64 0, .int .i64 0, .int .i64 0, .int .i64 0, .int .i64 0, .int .i64 0] 34) := ⟨_, rfl⟩
  have HO : Hid (Only (fun _ => False) w E) := Lib.hid (by rw [hE]; exact (Only.alloc _ _ _).same (Only.alloc _ _ _))
  have HA : Hid (Nine w.heap.size (.int .i64 y0) (.slice so args.length sc) (.int .i64 y2) (.int .i64 y3) (.int .i64 y4) (.int .i64 y5) (.int .i64 y6) (.int .i64 y7) (.int .i64 y8) E) := Lib.hid ⟨by rw [hE, Below.heap_alloc _ _ _ (by simp)]; exact heap_alloc_new w _⟩
  have HZ : Hid (Nine (w.heap.size + 1) (.int .i64 0) (.slice none 0 0) (.int .i64 0) (.int .i64 0) (.int .i64 0) (.int .i64 0) (.int .i64 0) (.int .i64 0) (.int .i64 0) E) := Lib.hid ⟨by
    have := heap_alloc_new (w.alloc (.cells #[.int .i64 y0, .slice so args.length sc, .int .i64 y2, .int .i64 y3, .int .i64 y4, .int .i64 y5, .int .i64 y6, .int .i64 y7, .int .i64 y8] 34)) (.cells #[.int .i64 0, .slice none 0 0, .int .i64 0, .int .i64 0, .int .i64 0, .int .i64 0, .int .i64 0, .int .i64 0, .int .i64 0] 34)
    rw [hE]
    simpa using this⟩
  have HS : Hid (SrcOf encW E so args) := Lib.hid (hs.only HO.out (fun ad e => ⟨hsb ad e, fun e => e⟩))
  have HL := Lib.hid hl
  clear hs hsb hl
  go_enter Try.func45, Try.ntmps45
  go_upto_region 1 with fail
  rw [← hE]
  clear hE
  have HBK : Hid (w.heap.size + 1 < E.heap.size + 0 ∧ w.heap.size ≤ E.heap.size) := Lib.hid ⟨HZ.out.lt, HO.out.size⟩
  generalize hbk : w.heap.size = bk at *
  have HB := Lib.hid hbk
  clear hbk
  obtain ⟨d0, d1, d2, d3, d4, d5, d6, d7, d8⟩ := HA.out.cells
  have df1 := HA.out.fz 1
  go_upto_region 2 with (at_builtin; refine wp_append_many liesW rfl (.const (.slice none 0 0)) (.tmp 4) 30 rfl E.heap.size 35 i0 (.int .u64 0) 8 Try.underlying30 hi hz0 hz1 hz2 rfl (by decide) E none 0 [] rfl (RowOf.nil _ _ _ _ _) so sc args rfl HS.out (by have := HL.out; simpa using this) (Nat.le_refl _) ?_; intro ao' cap' w2 hrow2 honly2 hnew2; have HA2 := Lib.hid (HA.out.only honly2 (fun ⟨g, hg, _⟩ => by cases hg)); obtain ⟨d0, d1, d2, d3, d4, d5, d6, d7, d8⟩ := HA2.out.cells; have df1 := HA2.out.fz 1)
  obtain ⟨W3, hW3⟩ : ∃ W3, W3 = w2.setCell ⟨bk, 1, none⟩ (.slice ao' args.length cap') := ⟨_, rfl⟩
  rw [← hW3]
  have HO2 : Hid (Only (fun _ => False) E w2) := Lib.hid (honly2.mono (fun k _ e => by obtain ⟨g, hg, _⟩ := e; cases hg))
  have HR2 : Hid (RowOf encW 1 35 E.heap.size ao' cap' args w2) := Lib.hid hrow2
  have HA3 : Hid (Nine bk (.int .i64 y0) (.slice ao' args.length cap') (.int .i64 y2) (.int .i64 y3) (.int .i64 y4) (.int .i64 y5) (.int .i64 y6) (.int .i64 y7) (.int .i64 y8) W3) := Lib.hid (by rw [hW3]; exact (HA2.out.set1 _).1)
  have HO3 : Hid (Only (· = bk) w2 W3) := Lib.hid (by rw [hW3]; exact (HA2.out.set1 _).2)
  have HZ3 := Lib.hid ((HZ.out.only HO2.out (fun e => e)).only HO3.out (fun e => by omega))
  clear hW3 hrow2 honly2 hnew2 d0 d1 d2 d3 d4 d5 d6 d7 d8 df1
  obtain ⟨d0, d1, d2, d3, d4, d5, d6, d7, d8⟩ := HA3.out.cells
  obtain ⟨z0, z1, z2, z3, z4, z5, z6, z7, z8⟩ := HZ3.out.cells
  have f0 := HZ3.out.fz 0
  have f1 := HZ3.out.fz 1
  have f2 := HZ3.out.fz 2
  have f3 := HZ3.out.fz 3
  have f4 := HZ3.out.fz 4
  have f5 := HZ3.out.fz 5
  have f6 := HZ3.out.fz 6
  have f7 := HZ3.out.fz 7
  have f8 := HZ3.out.fz 8
  go_wp2_with fail
  obtain ⟨h1, h2⟩ := HZ3.out.set (.int .i64 y0) (.slice ao' args.length cap') (.int .i64 y2) (.int .i64 y3) (.int .i64 y4) (.int .i64 y5) (.int .i64 y6) (.int .i64 y7) (.int .i64 y8)
  refine bodyPost_ret (v := .agg #[.int .i64 y0, .slice ao' args.length cap', .int .i64 y2, .int .i64 y3, .int .i64 y4, .int .i64 y5, .int .i64 y6, .int .i64 y7, .int .i64 y8]) (results_cho rfl _ _ (bk + 1) _ _ _ _ _ _ _ _ _ rfl h1) rfl ⟨ao', cap', rfl, ?_, ?_⟩
  · have hsz := HBK.out
    have hr : RowOf encW 1 35 bk ao' cap' args w2 := RowOf.lower HR2.out hsz.2
    refine RowOf.only (RowOf.only (HB.out ▸ hr) HO3.out (fun g hg => ?_)) h2 (fun g hg => ?_)
    · have := (HR2.out.head g hg).2.1; omega
    · have := (HR2.out.head g hg).2.1; omega
  · have hb := HB.out
    exact cut (cut (HO.out.same HO2.out) HO3.out (fun k e => by omega)) h2 (fun k e => by omega)
/-- A choice, its arguments elsewhere, as a value. -/
abbrev choV (c : Cho) (ao : Option Addr) (cap : Nat) : Value := .agg #[.int .i64 c.k, .slice ao c.args.length cap, .int .i64 c.c, .int .i64 c.a, .int .i64 c.g, .int .i64 c.n, .int .i64 c.f, .int .i64 c.env, .int .i64 c.top]
abbrev zeroV : Value := .agg #[.int .i64 0, .slice none 0 0, .int .i64 0, .int .i64 0, .int .i64 0, .int .i64 0, .int .i64 0, .int .i64 0, .int .i64 0]
theorem Stk.src (h : Stk b rb ao cap most co cc s wl lim w) {c : Cho} (hc : c ∈ s.cs) : SrcOf encW w c.ao c.args ∧ ∀ ad, c.ao = some ad → ad.block < w.heap.size :=
  ⟨RowOf.src (h.args c hc).1, fun ad e => ((h.args c hc).1.head ad e).2.2⟩
set_option maxHeartbeats 2000000 in
theorem Choice_no (h : Stk b rb ao cap most co cc s wl lim w) (i : Int) (hi : i < 0 ∨ (s.cs.length : Int) ≤ i) : Calls Try.prog 23 #[.pointer (some ⟨b, 0, none⟩), .int .i64 i] w fun e w' => e = .returned (.tuple #[.agg #[.int .i64 0, .slice none 0 0, .int .i64 0, .int .i64 0, .int .i64 0, .int .i64 0, .int .i64 0, .int .i64 0, .int .i64 0], .bool false]) ∧ Only (fun _ => False) w w' := by
  obtain ⟨E, hE⟩ : ∃ E, E = w.alloc (.cells #[.int .i64 0, .slice none 0 0, .int .i64 0, .int .i64 0, .int .i64 0, .int .i64 0, .int .i64 0, .int .i64 0, .int .i64 0] 34) := ⟨_, rfl⟩
  have HO : Hid (Only (fun _ => False) w E) := Lib.hid (by rw [hE]; exact Only.alloc _ _ _)
  have HZ : Hid (Nine w.heap.size (.int .i64 0) (.slice none 0 0) (.int .i64 0) (.int .i64 0) (.int .i64 0) (.int .i64 0) (.int .i64 0) (.int .i64 0) (.int .i64 0) E) := Lib.hid ⟨by rw [hE]; exact heap_alloc_new w _⟩
  have HD := Lib.hid (Depth_any (h.later HO.out))
  clear h
  generalize s.cs.length = n at *
  obtain ⟨d0, d1, d2, d3, d4, d5, d6, d7, d8⟩ := HZ.out.cells
  have f0 := HZ.out.fz 0
  have f1 := HZ.out.fz 1
  have f2 := HZ.out.fz 2
  have f3 := HZ.out.fz 3
  have f4 := HZ.out.fz 4
  have f5 := HZ.out.fz 5
  have f6 := HZ.out.fz 6
  have f7 := HZ.out.fz 7
  have f8 := HZ.out.fz 8
  by_cases h0 : i < 0
  · clear hi
    go_enter Try.func23, Try.ntmps23
    go_upto_region 1 with fail
    rw [← hE]
    clear hE
    generalize hbk : w.heap.size = bk at *
    have HB := Lib.hid hbk
    clear hbk
    go_wp2_with fail
    obtain ⟨h1, h2⟩ := HZ.out.set (.int .i64 0) (.slice none 0 0) (.int .i64 0) (.int .i64 0) (.int .i64 0) (.int .i64 0) (.int .i64 0) (.int .i64 0) (.int .i64 0)
    exact bodyPost_ret (v := .tuple #[.agg #[.int .i64 0, .slice none 0 0, .int .i64 0, .int .i64 0, .int .i64 0, .int .i64 0, .int .i64 0, .int .i64 0, .int .i64 0], .bool false]) (results_cho2 rfl _ _ bk _ _ _ _ _ _ _ _ _ _ rfl rfl h1) rfl ⟨rfl, cut HO.out h2 (fun k e => by rw [e]; exact Nat.le_of_eq HB.out)⟩
  · have hge : decide ((n : Int) ≤ i) = true := decide_eq_true (by omega)
    clear hi
    go_enter Try.func23, Try.ntmps23
    go_upto_region 1 with fail
    rw [← hE]
    clear hE
    generalize hbk : w.heap.size = bk at *
    have HB := Lib.hid hbk
    clear hbk
    go_wp2_with fail
    refine HD.out.mono ?_
    rintro e u ⟨rfl, hu⟩
    obtain rfl : E = u := hu.symm
    go_wp2_with fail
    obtain ⟨h1, h2⟩ := HZ.out.set (.int .i64 0) (.slice none 0 0) (.int .i64 0) (.int .i64 0) (.int .i64 0) (.int .i64 0) (.int .i64 0) (.int .i64 0) (.int .i64 0)
    exact bodyPost_ret (v := .tuple #[.agg #[.int .i64 0, .slice none 0 0, .int .i64 0, .int .i64 0, .int .i64 0, .int .i64 0, .int .i64 0, .int .i64 0, .int .i64 0], .bool false]) (results_cho2 rfl _ _ bk _ _ _ _ _ _ _ _ _ _ rfl rfl h1) rfl ⟨rfl, cut HO.out h2 (fun k e => by rw [e]; exact Nat.le_of_eq HB.out)⟩
set_option maxHeartbeats 4000000 in
theorem Choice_yes (h : Stk b rb ao cap most co cc s wl lim w) (i : Nat) (c : Cho) (hi : s.cs[i]? = some c) (hal : c.args.length ≤ 16777216) : Calls Try.prog 23 #[.pointer (some ⟨b, 0, none⟩), .int .i64 i] w fun e w' => ∃ ao' cap', e = .returned (.tuple #[.agg #[.int .i64 c.k, .slice ao' c.args.length cap', .int .i64 c.c, .int .i64 c.a, .int .i64 c.g, .int .i64 c.n, .int .i64 c.f, .int .i64 c.env, .int .i64 c.top], .bool true]) ∧ RowOf encW 1 35 w.heap.size ao' cap' c.args w' ∧ Only (fun _ => False) w w' := by
  obtain ⟨E, hE⟩ : ∃ E, E = w.alloc (.cells #[.int .i64 0, .slice none 0 0, .int .i64 0, .int .i64 0, .int .i64 0, .int .i64 0, .int .i64 0, .int .i64 0, .int .i64 0] 34) := ⟨_, rfl⟩
  have HO : Hid (Only (fun _ => False) w E) := Lib.hid (by rw [hE]; exact Only.alloc _ _ _)
  have HZ : Hid (Nine w.heap.size (.int .i64 0) (.slice none 0 0) (.int .i64 0) (.int .i64 0) (.int .i64 0) (.int .i64 0) (.int .i64 0) (.int .i64 0) (.int .i64 0) E) := Lib.hid ⟨by rw [hE]; exact heap_alloc_new w _⟩
  have hE2 := h.later HO.out
  have HD := Lib.hid (Depth_any hE2)
  have hil : i < s.cs.length := (List.getElem?_eq_some_iff.1 hi).1
  have hsrc := hE2.src (List.mem_of_getElem? hi)
  have HCP := Lib.hid (copied_any c.k c.c c.a c.g c.n c.f c.env c.top c.ao c.cap c.args E hsrc.1 hsrc.2 hal)
  have c2 := hE2.box.c2
  obtain ⟨g, hco, _, hcells⟩ := hE2.row.at liesC i c hi
  have e0 : (encC c)[0]? = some (.int .i64 c.k) := rfl
  have q0 := (hcells 0 (by decide)).1
  have q1 := (hcells 1 (by decide)).1
  have q2 := (hcells 2 (by decide)).1
  have q3 := (hcells 3 (by decide)).1
  have q4 := (hcells 4 (by decide)).1
  have q5 := (hcells 5 (by decide)).1
  have q6 := (hcells 6 (by decide)).1
  have q7 := (hcells 7 (by decide)).1
  have q8 := (hcells 8 (by decide)).1
  simp only [encC, List.getElem?_cons_zero, List.getElem?_cons_succ, Nat.add_zero] at q0 q1 q2 q3 q4 q5 q6 q7 q8
  have hn1 : s.cs.length ≤ 4095 := by have := h.ch; omega
  have hin : (i : Int) < (s.cs.length : Int) := by omega
  have hin2 : decide (s.cs.length ≤ i) = false := decide_eq_false (by omega)
  subst hco
  clear h hi hsrc hcells hE2 e0
  generalize s.cs.length = n at *
  generalize c.args.length = al at *
  generalize c.k = x0 at *
  generalize c.c = x2 at *
  generalize c.a = x3 at *
  generalize c.g = x4 at *
  generalize c.n = x5 at *
  generalize c.f = x6 at *
  generalize c.env = x7 at *
  generalize c.top = x8 at *
  go_enter Try.func23, Try.ntmps23
  go_upto_region 1 with fail
  rw [← hE]
  clear hE
  generalize hbk : w.heap.size = bk at *
  have HB := Lib.hid hbk
  clear hbk
  go_wp2_with fail
  refine HD.out.mono ?_
  rintro e u ⟨rfl, hu⟩
  obtain rfl : E = u := hu.symm
  go_wp2_with fail
  refine HCP.out.mono ?_
  rintro e w2 ⟨ao', cap', rfl, hr, ho⟩
  have HR2 := Lib.hid hr
  have HO2 := Lib.hid ho
  have HZ2 := Lib.hid (HZ.out.only ho (fun e => e))
  clear hr ho
  obtain ⟨d0, d1, d2, d3, d4, d5, d6, d7, d8⟩ := HZ2.out.cells
  have f0 := HZ2.out.fz 0
  have f1 := HZ2.out.fz 1
  have f2 := HZ2.out.fz 2
  have f3 := HZ2.out.fz 3
  have f4 := HZ2.out.fz 4
  have f5 := HZ2.out.fz 5
  have f6 := HZ2.out.fz 6
  have f7 := HZ2.out.fz 7
  have f8 := HZ2.out.fz 8
  go_wp2_with fail
  obtain ⟨h1, h2⟩ := HZ2.out.set (.int .i64 x0) (.slice ao' al cap') (.int .i64 x2) (.int .i64 x3) (.int .i64 x4) (.int .i64 x5) (.int .i64 x6) (.int .i64 x7) (.int .i64 x8)
  have hb := HB.out
  have hz := HZ.out.lt
  refine bodyPost_ret (v := .tuple #[.agg #[.int .i64 x0, .slice ao' al cap', .int .i64 x2, .int .i64 x3, .int .i64 x4, .int .i64 x5, .int .i64 x6, .int .i64 x7, .int .i64 x8], .bool true]) (results_cho2 rfl _ _ bk _ _ _ _ _ _ _ _ _ _ rfl rfl h1) rfl ⟨ao', cap', rfl, ?_, cut (HO.out.same HO2.out) h2 (fun k e => by omega)⟩
  exact RowOf.only (RowOf.lower HR2.out (by omega)) h2 (fun g hg => by have := (HR2.out.head g hg).2.1; omega)
end
end Go.Proofs.Ythfilpacmllhpaa.stk
