/- Environments and choices in memory: Push. -/
import Derived.Test.YthfilpacmllhpaaStk5
namespace Go.Proofs.Ythfilpacmllhpaa.stk
set_option maxRecDepth 100000
open Go.RowKit Go.Proofs.Ythfilpacmllhpaa.own
open Go.Proofs.Ythfilpacmllhpaa.rooms (RoomP IsRoom)
section
variable {b rb : Nat} {ao co : Option Addr} {cap cc : Nat} {most wl lim : Int} {s : St} {w w' : World}
theorem top_quiet (h : Stk b rb ao cap most co cc s wl lim w) : Calls Try.prog 46 #[.pointer (some ⟨b, 0, none⟩)] w fun e w' => e = .returned (.int .i64 s.top) ∧ Only (fun _ => False) w w' := top_any h
theorem Stk.pushed (h : Stk b rb ao cap most co cc s wl lim w) (c : Cho) {co' : Option Addr} {cc' : Nat} (hf : c.fs = s.cur) (ht : c.top = s.top) (he : c.env = headB s.cur) (hb : Box b rb (headB s.cur) co' (s.cs.length + 1) cc' lim w') (hr : RowC co' cc' (s.cs ++ [c]) w') (ho : Only (fun k => k = b ∨ RowAt co k) w w')
    (hnw : NewRow w.heap.size co co') (hg : RowW c.ao c.cap c.args w') (hgn : ∀ g, c.ao = some g → w.heap.size ≤ g.block ∧ ¬ RowAt co' g.block) (hl : (s.cs.length : Int) < lim) : Stk b rb ao cap most co' cc' { s with cs := s.cs ++ [c] } wl lim w' := by
  have hmb : ∀ k, rooms.Mine rb ao k → k < w.heap.size := fun k hk => (h.room.mine_lt k hk).2
  have hnco : ∀ k, k < w.heap.size → RowAt co' k → RowAt co k := by
    rintro k hk ⟨g, hg, e⟩
    rcases hnw g hg with h1 | h1
    · exact ⟨g, h1, e⟩
    · omega
  refine ⟨?_, h.room.only (toRooms ho) (fun k hk => ?_), hr, fun d hd => ?_, ⟨h.b1.1, fun e => h.b1.2 (hnco b h.box.lt e)⟩, fun k hk e => h.b2 k hk (hnco k (hmb k hk) e), h.ok.push c hf ht he, h.le, ?_⟩
  · show Box b rb (headB s.cur) co' (s.cs ++ [c]).length cc' lim w'
    rw [show (s.cs ++ [c]).length = s.cs.length + 1 by simp]; exact hb
  · rintro (e | e)
    · exact h.b1.1 (e ▸ hk)
    · exact h.b2 k hk e
  · rcases List.mem_append.1 hd with hd | hd
    · obtain ⟨r1, r2⟩ := h.args d hd
      refine ⟨r1.only ho (fun g hg => ?_), fun g hg => ⟨(r2 g hg).1, (r2 g hg).2.1, fun e => (r2 g hg).2.2 (hnco _ (r1.head g hg).2.2 e)⟩⟩
      rintro (e | e)
      · exact (r2 g hg).1 e
      · exact (r2 g hg).2.2 e
    · rw [List.mem_singleton.1 hd]
      refine ⟨hg, fun g e => ⟨?_, ?_, (hgn g e).2⟩⟩
      · have := (hgn g e).1; have := h.box.lt; omega
      · intro hk; have := hmb _ hk; have := (hgn g e).1; omega
  · have := h.ch
    refine ⟨?_, h.ch.2⟩
    show ((s.cs ++ [c]).length : Int) ≤ lim
    rw [show (s.cs ++ [c]).length = s.cs.length + 1 by simp]
    omega
theorem Push_full (h : Stk b rb ao cap most co cc s wl lim w) (y0 y2 y3 y4 y5 y6 y7 y8 : Int) (so : Option Addr) (sn sc : Nat) (hf : lim ≤ (s.cs.length : Int)) : Calls Try.prog 13 #[.pointer (some ⟨b, 0, none⟩), .agg #[.int .i64 y0, .slice so sn sc, .int .i64 y2, .int .i64 y3, .int .i64 y4, .int .i64 y5, .int .i64 y6, .int .i64 y7, .int .i64 y8]] w fun e w' => e = .returned (.int .i64 2) ∧ Only (fun _ => False) w w' := by
  obtain ⟨E, hE⟩ : ∃ E, E = w.alloc (.cells #[.int .i64 y0, .slice so sn sc, .int .i64 y2, .int .i64 y3, .int .i64 y4, .int .i64 y5, .int .i64 y6, .int .i64 y7, .int .i64 y8] 34) := ⟨_, rfl⟩
  have HO : Hid (Only (fun _ => False) w E) := Lib.hid (by rw [hE]; exact Only.alloc _ _ _)
  have hE2 := h.later HO.out
  have HB := Lib.hid (closed_no hE2.box)
  have c2 := hE2.box.c2
  have c3 := hE2.box.c3
  clear h hE2
  generalize s.cs.length = n at *
  go_enter Try.func13, Try.ntmps13
  go_upto_region 1 with fail
  rw [← hE]
  clear hE
  go_wp2_with fail
  refine HB.out.mono ?_
  rintro e u ⟨rfl, hu⟩
  obtain rfl : E = u := hu.symm
  go_wp2_with fail
  go_quiet (fail)
  go_wp2_with fail
  go_ret
  exact ⟨rfl, HO.out.same (Only.drewN _ _ _)⟩
theorem infoC : (Try.prog.info? 34).map (fun i => (i.zero, i.size, i.bytes)) = some (some (.agg #[.int .i64 0, .slice none 0 0, .int .i64 0, .int .i64 0, .int .i64 0, .int .i64 0, .int .i64 0, .int .i64 0, .int .i64 0]), 9, 88) := by kernel_rfl
theorem Nine.set67 {k : Nat} {x0 x1 x2 x3 x4 x5 x6 x7 x8 : Value} (h : Nine k x0 x1 x2 x3 x4 x5 x6 x7 x8 w) (y7 y8 : Value) : Nine k x0 x1 x2 x3 x4 x5 x6 y7 y8 ((w.setCell ⟨k, 7, none⟩ y7).setCell ⟨k, 8, none⟩ y8) ∧ Only (· = k) w ((w.setCell ⟨k, 7, none⟩ y7).setCell ⟨k, 8, none⟩ y8) := by
  refine ⟨⟨?_⟩, (Only.setCell (S := (· = k)) w (p := ⟨k, 7, none⟩) rfl _).same (Only.setCell (S := (· = k)) _ (p := ⟨k, 8, none⟩) rfl _)⟩
  have := blk_set (blk_set h.blk 7 y7) 8 y8
  simpa using this
set_option maxHeartbeats 4000000 in
theorem Push_yes (h : Stk b rb ao cap most co cc s wl lim w) (y0 y2 y3 y4 y5 y6 y7 y8 : Int) (so : Option Addr) (sc : Nat) (args : List Int) (hs : SrcOf encW w so args) (hsb : ∀ ad, so = some ad → ad.block < w.heap.size) (hal : args.length ≤ 16777216) (hf : (s.cs.length : Int) < lim) :
    Calls Try.prog 13 #[.pointer (some ⟨b, 0, none⟩), .agg #[.int .i64 y0, .slice so args.length sc, .int .i64 y2, .int .i64 y3, .int .i64 y4, .int .i64 y5, .int .i64 y6, .int .i64 y7, .int .i64 y8]] w fun e w' => e = .returned (.int .i64 0) ∧
      ∃ ao' cap' co' cc', Stk b rb ao cap most co' cc' { s with cs := s.cs ++ [⟨y0, ao', cap', args, y2, y3, y4, y5, y6, headB s.cur, s.top, s.cur⟩] } wl lim w' ∧ Only (fun k => k = b ∨ RowAt co k) w w' ∧ NewRow w.heap.size co co' ∧ (∀ g, ao' = some g → w.heap.size ≤ g.block) := by
  obtain ⟨i0, hi, hz0, hz1, hz2⟩ := info_parts infoC
  obtain ⟨E, hE⟩ : ∃ E, E = w.alloc (.cells #[.int .i64 y0, .slice so args.length sc, .int .i64 y2, .int .i64 y3, .int .i64 y4, .int .i64 y5, .int .i64 y6, .int .i64 y7, .int .i64 y8] 34) := ⟨_, rfl⟩
  have HO : Hid (Only (fun _ => False) w E) := Lib.hid (by rw [hE]; exact Only.alloc _ _ _)
  have HN : Hid (Nine w.heap.size (.int .i64 y0) (.slice so args.length sc) (.int .i64 y2) (.int .i64 y3) (.int .i64 y4) (.int .i64 y5) (.int .i64 y6) (.int .i64 y7) (.int .i64 y8) E) := Lib.hid ⟨by rw [hE]; exact heap_alloc_new w _⟩
  have HH := Lib.hid h
  have HST := Lib.hid (h.later HO.out)
  have HB := Lib.hid (closed_no HST.out.box)
  have HCP : Hid (∀ W, Only (fun _ => False) w W → Calls Try.prog 45 #[.agg #[.int .i64 y0, .slice so args.length sc, .int .i64 y2, .int .i64 y3, .int .i64 y4, .int .i64 y5, .int .i64 y6, .int .i64 y7, .int .i64 y8]] W fun e w' => ∃ ao' cap', e = .returned (.agg #[.int .i64 y0, .slice ao' args.length cap', .int .i64 y2, .int .i64 y3, .int .i64 y4, .int .i64 y5, .int .i64 y6, .int .i64 y7, .int .i64 y8]) ∧ RowOf encW 1 35 W.heap.size ao' cap' args w' ∧ Only (fun _ => False) W w') := Lib.hid (fun W o => copied_any y0 y2 y3 y4 y5 y6 y7 y8 so sc args W (hs.only o (fun ad e => ⟨hsb ad e, fun e => e⟩)) (fun ad e => Nat.lt_of_lt_of_le (hsb ad e) o.size) hal)
  have c2 := HST.out.box.c2
  have c3 := HST.out.box.c3
  have HLM := Lib.hid hf
  have hd : decide (lim ≤ (s.cs.length : Int)) = false := decide_eq_false (by omega)
  clear h hs hsb hal hf
  generalize hln : s.cs.length = n at *
  have HLN := Lib.hid hln
  clear hln
  go_enter Try.func13, Try.ntmps13
  go_upto_region 1 with fail
  rw [← hE]
  clear hE
  generalize hbk : w.heap.size = bk at *
  have HBK := Lib.hid hbk
  clear hbk
  go_wp2_with fail
  refine HB.out.mono ?_
  rintro e u ⟨rfl, hu⟩
  obtain rfl : E = u := hu.symm
  go_wp2_with fail
  go_quiet (fail)
  have HO1 : Hid (Only (fun _ => False) E (E.drewN nq)) := Lib.hid (Only.drewN _ _ _)
  generalize E.drewN nq = W1 at *
  have HN1 := Lib.hid (HN.out.only HO1.out (fun e => e))
  obtain ⟨d0, d1, d2, d3, d4, d5, d6, d7, d8⟩ := HN1.out.cells
  clear c2 c3
  go_wp2_with fail
  refine (HCP.out W1 (HO.out.same HO1.out)).mono ?_
  rintro e w2 ⟨ao', cap', rfl, hr, ho⟩
  have HR2 := Lib.hid hr
  have HO2 : Hid (Only (fun _ => False) E w2) := Lib.hid (HO1.out.same ho)
  have HL1 : Hid (w.heap.size ≤ W1.heap.size) := Lib.hid (HO.out.same HO1.out).size
  have HN2 := Lib.hid (HN1.out.only ho (fun e => e))
  clear hr ho d0 d1 d2 d3 d4 d5 d6 d7 d8
  obtain ⟨d0, d1, d2, d3, d4, d5, d6, d7, d8⟩ := HN2.out.cells
  have f0 := HN2.out.fz 0
  have f1 := HN2.out.fz 1
  have f2 := HN2.out.fz 2
  have f3 := HN2.out.fz 3
  have f4 := HN2.out.fz 4
  have f5 := HN2.out.fz 5
  have f6 := HN2.out.fz 6
  have f7 := HN2.out.fz 7
  have f8 := HN2.out.fz 8
  obtain ⟨W3, hW3⟩ : ∃ W3, W3 = nineW w2 bk (.int .i64 y0) (.slice ao' args.length cap') (.int .i64 y2) (.int .i64 y3) (.int .i64 y4) (.int .i64 y5) (.int .i64 y6) (.int .i64 y7) (.int .i64 y8) := ⟨_, rfl⟩
  have hset := HN2.out.set (.int .i64 y0) (.slice ao' args.length cap') (.int .i64 y2) (.int .i64 y3) (.int .i64 y4) (.int .i64 y5) (.int .i64 y6) (.int .i64 y7) (.int .i64 y8)
  rw [← hW3] at hset
  have HN3 := Lib.hid hset.1
  have HO3 := Lib.hid hset.2
  clear hset
  unfold nineW at hW3
  go_upto_region 6 with fail
  rw [← hW3]
  clear hW3 d0 d1 d2 d3 d4 d5 d6 d7 d8 f0 f1 f2 f3 f4 f5 f6 f7 f8
  have hlt := HH.out.box.lt
  have hb := HBK.out
  have HE3 : Hid (Only (fun _ => False) w W3) := Lib.hid (cut (HO.out.same HO2.out) HO3.out (fun k e => by omega))
  have HS3 := Lib.hid (HH.out.later HE3.out)
  have HR3 : Hid (RowOf encW 1 35 W1.heap.size ao' cap' args W3) := Lib.hid (HR2.out.only HO3.out (fun g hg e => by have := (HR2.out.head g hg).2.1; have := HN1.out.lt; omega))
  have HT : Hid (∀ W, Only (fun _ => False) w W → W.cell? ⟨b, 1, none⟩ = some (.int .i64 (headB s.cur)) ∧ Calls Try.prog 46 #[.pointer (some ⟨b, 0, none⟩)] W fun e w' => e = .returned (.int .i64 s.top) ∧ Only (fun _ => False) W w') := Lib.hid (fun W o => ⟨(HH.out.later o).box.c1, top_any (HH.out.later o)⟩)
  have HTS : Hid (∀ W, Only (fun _ => False) W3 W → ∀ u, (W.setCell ⟨bk, 7, none⟩ u).cell? ⟨b, 1, none⟩ = some (.int .i64 (headB s.cur))) := Lib.hid (fun W o u => by
    have h1 := (HT.out W (HE3.out.same o)).1
    have o1 : Only (· = bk) W (W.setCell ⟨bk, 7, none⟩ u) := Only.setCell (S := (· = bk)) W (p := ⟨bk, 7, none⟩) rfl _
    have hbW := Nat.lt_of_lt_of_le hlt (HE3.out.same o).size
    exact (o1.cell (p := ⟨b, 1, none⟩) hbW (fun e => by have : b = bk := e; omega)).trans h1)
  have HTT : Hid (∀ W, Only (fun _ => False) W3 W → ∀ u v, ((W.setCell ⟨bk, 7, none⟩ u).setCell ⟨bk, 8, none⟩ v).cell? ⟨b, 1, none⟩ = some (.int .i64 (headB s.cur))) := Lib.hid (fun W o u v => by
    have h1 := (HT.out W (HE3.out.same o)).1
    have o1 : Only (· = bk) W (W.setCell ⟨bk, 7, none⟩ u) := Only.setCell (S := (· = bk)) W (p := ⟨bk, 7, none⟩) rfl _
    have o2 : Only (· = bk) (W.setCell ⟨bk, 7, none⟩ u) ((W.setCell ⟨bk, 7, none⟩ u).setCell ⟨bk, 8, none⟩ v) := Only.setCell (S := (· = bk)) _ (p := ⟨bk, 8, none⟩) rfl _
    have hbW := Nat.lt_of_lt_of_le hlt (HE3.out.same o).size
    exact ((o1.same o2).cell (p := ⟨b, 1, none⟩) hbW (fun e => by have : b = bk := e; omega)).trans h1)
  have HFZ : Hid (∀ W, Only (fun _ => False) W3 W → W.frozen? ⟨bk, 7, none⟩ = false ∧ W.frozen? ⟨bk, 8, none⟩ = false ∧ W.cell? ⟨bk, 7, none⟩ = some (.int .i64 y7) ∧ W.cell? ⟨bk, 8, none⟩ = some (.int .i64 y8)) := Lib.hid (fun W o => by
    have hN := HN3.out.only o (fun e => e)
    obtain ⟨_, _, _, _, _, _, _, d7, d8⟩ := hN.cells
    exact ⟨hN.fz 7, hN.fz 8, d7, d8⟩)
  go_region_held3 (fun W : World => W.cell? ⟨b, 1, none⟩ = some (.int .i64 (headB s.cur))) (with_reducible first | exact (HT.out _ (HE3.out.same HO4.out)).1 | exact HTS.out _ HO4.out _ | exact HTT.out _ HO4.out _ _ | exact (HT.out _ (HE3.out.same (Only.drew _ _))).1) (first | (go_at_call 46; (with_reducible refine (HT.out _ (HE3.out.same (Only.drew _ _))).2.mono ?_); rintro r w4 ⟨rfl, ho⟩; have HO4 : Hid (Only (fun _ => False) W3 w4) := Lib.hid ((Only.drew _ _).same ho); clear ho; obtain ⟨g7, g8, k7, k8⟩ := HFZ.out _ HO4.out))
  obtain ⟨W5, hW5⟩ : ∃ W5, W5 = (w4.setCell ⟨bk, 7, none⟩ (.int .i64 (headB s.cur))).setCell ⟨bk, 8, none⟩ (.int .i64 s.top) := ⟨_, rfl⟩
  rw [← hW5]
  have hset := (HN3.out.only HO4.out (fun e => e)).set67 (.int .i64 (headB s.cur)) (.int .i64 s.top)
  rw [← hW5] at hset
  have HN5 := Lib.hid hset.1
  have HE5 : Hid (Only (fun _ => False) w W5) := Lib.hid (cut (HE3.out.same HO4.out) hset.2 (fun k e => by omega))
  have HR5 : Hid (RowOf encW 1 35 W1.heap.size ao' cap' args W5) := Lib.hid ((HR3.out.only HO4.out (fun _ _ e => e)).only hset.2 (fun g hg e => by have := (HR3.out.head g hg).2.1; have := HN1.out.lt; omega))
  clear hW5 hset HTS HTT HFZ HT g7 g8 k7 k8 HCP
  have hS5 := HH.out.later HE5.out
  have c2 := hS5.box.c2
  rw [HLN.out] at c2
  obtain ⟨d0, d1, d2, d3, d4, d5, d6, d7, d8⟩ := HN5.out.cells
  clear hS5
  have HCS : Hid (∀ W, Only (fun _ => False) W5 W → RowC co cc s.cs W) := Lib.hid (fun W o => HH.out.row.only (HE5.out.same o) (fun _ _ e => e))
  have hsl : s.cs.length ≤ 4095 := by have := HH.out.ch; omega
  have oA : Only (fun _ => False) W5 ((W5.alloc (.cells #[.int .i64 y0, .slice ao' args.length cap', .int .i64 y2, .int .i64 y3, .int .i64 y4, .int .i64 y5, .int .i64 y6, .int .i64 (headB s.cur), .int .i64 s.top] 34)).drew) := (Only.alloc _ _ _).same (Only.drew _ _)
  have c2A := (HH.out.later (HE5.out.same oA)).box.c2
  rw [HLN.out] at c2A
  have HBX : Hid (∀ W, Only (RowAt co) W5 W → Box b rb (headB s.cur) co n cc lim W) := Lib.hid (fun W o => by
    have := (HH.out.later HE5.out).box.only o (fun e => HH.out.b1.2 e)
    rw [HLN.out] at this
    exact this)
  clear oA
  go_upto_region 7 with fail
  go_region_law
    ((refine step_append_one liesC (by rfl) (.tmp 31) (.tmp 33) 68 (by rfl) 0 34 i0 _ 88 Try.underlying68 hi hz0 hz1 hz2 rfl (by omega) _ co cc s.cs ⟨y0, ao', cap', args, y2, y3, y4, y5, y6, headB s.cur, s.top, s.cur⟩ [.int .i64 y0, .slice ao' args.length cap', .int .i64 y2, .int .i64 y3, .int .i64 y4, .int .i64 y5, .int .i64 y6, .int .i64 (headB s.cur), .int .i64 s.top] rfl (by rw [HLN.out]; rfl) (HCS.out _ (by first | exact Only.alloc _ _ _ | exact (Only.drew _ _).same (Only.alloc _ _ _) | exact (Only.alloc _ _ _).same (Only.drew _ _))) _ _ (by first | exact heap_alloc_new _ _ | exact heap_alloc_new W5 _) (by rfl) (by omega) (Nat.zero_le _) ?_
      intro co' cc' w6 hrow6 ho6 hnew6
      have HO6 : Hid (Only (RowAt co) W5 w6) := Lib.hid (Only.trans (S := RowAt co) (by first | exact Only.alloc _ _ _ | exact (Only.drew _ _).same (Only.alloc _ _ _) | exact (Only.alloc _ _ _).same (Only.drew _ _)) ho6 (fun _ _ e => e))
      have HN6 : Hid (NewRow W5.heap.size co co') := Lib.hid (fun g hg => (hnew6 g hg).imp id (fun e => Nat.le_trans (by simp) e))
      have HR6 := Lib.hid hrow6
      have cb6 := (HBX.out w6 HO6.out).c2
      have fb6 := (HBX.out w6 HO6.out).fz 2
      clear hrow6 ho6 hnew6))
  all_goals
    have HB9 : Hid (Box b rb (headB s.cur) co' (s.cs.length + 1) cc' lim (w6.setCell ⟨b, 2, none⟩ (.slice co' (s.cs.length + 1) cc'))) := Lib.hid ⟨by simpa using blk_set (HBX.out w6 HO6.out).blk 2 (.slice co' (s.cs.length + 1) cc')⟩
    have HO9 : Hid (Only (· = b) w6 (w6.setCell ⟨b, 2, none⟩ (.slice co' (s.cs.length + 1) cc'))) := Lib.hid (Only.setCell (S := (· = b)) w6 (p := ⟨b, 2, none⟩) rfl _)
    generalize w6.setCell ⟨b, 2, none⟩ (.slice co' (s.cs.length + 1) cc') = w9 at *
    clear cb6 fb6 HBX HCS c2 c2A d0 d1 d2 d3 d4 d5 d6 d7 d8
    go_wp2_with fail
    go_ret
    have hT6 : Only (RowAt co) w w6 := (HE5.out.no _).same HO6.out
    have hT : Only (fun k => k = b ∨ RowAt co k) w w9 := (hT6.mono (fun k _ e => .inr e)).same (HO9.out.mono (fun k _ e => .inl e))
    have hNW : NewRow w.heap.size co co' := fun g hg => (HN6.out g hg).imp id (fun e => Nat.le_trans HE5.out.size e)
    have hgr : ∀ g, ao' = some g → w.heap.size ≤ g.block ∧ g.block < W5.heap.size := fun g hg => by
      have h1 := HR5.out.head g hg
      have h2 := HL1.out
      exact ⟨by omega, h1.2.2⟩
    have hco : ∀ g, ao' = some g → ¬ RowAt co' g.block := by
      rintro g hg ⟨g', hg', e⟩
      have h1 := hgr g hg
      rcases HN6.out g' hg' with h2 | h2
      · have := (HH.out.row.head g' h2).2.2; omega
      · omega
    have hcb : ∀ g, ao' = some g → g.block ≠ b := fun g hg => by have := (hgr g hg).1; omega
    have hco2 : ¬ RowAt co b := HH.out.b1.2
    have hR7 : RowC co' cc' (s.cs ++ [⟨y0, ao', cap', args, y2, y3, y4, y5, y6, headB s.cur, s.top, s.cur⟩]) w9 := HR6.out.only HO9.out (fun g hg e => by
      rcases HN6.out g hg with h2 | h2
      · exact hco2 ⟨g, h2, e.symm⟩
      · have := HE5.out.size; have e' : g.block = b := e; omega)
    have hA7 : RowW ao' cap' args w9 := RowOf.lower ((HR5.out.only HO6.out (fun g hg => by
      rintro ⟨g', hg', e⟩
      have := (hgr g hg).1
      have := (HH.out.row.head g' hg').2.2
      omega)).only HO9.out (fun g hg e => hcb g hg e)) (Nat.zero_le _)
    refine ⟨rfl, ao', cap', co', cc', HH.out.pushed _ rfl rfl rfl HB9.out hR7 hT hNW hA7 (fun g hg => ⟨(hgr g hg).1, hco g hg⟩) ?_, hT, hNW, fun g hg => (hgr g hg).1⟩
    rw [HLN.out]; exact HLM.out
end
end Go.Proofs.Ythfilpacmllhpaa.stk
