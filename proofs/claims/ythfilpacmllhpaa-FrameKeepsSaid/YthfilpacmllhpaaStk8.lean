/- Environments and choices in memory: an environment as it is told. -/
import Derived.Test.YthfilpacmllhpaaStk7
namespace Go.Proofs.Ythfilpacmllhpaa.stk
set_option maxRecDepth 100000
open Go.RowKit Go.Proofs.Ythfilpacmllhpaa.own
open Go.Proofs.Ythfilpacmllhpaa.rooms (RoomP IsRoom)
/-- An environment as it is told, in its box. -/
structure Fo (b : Nat) (x0 x1 x2 x3 : Value) (w : World) : Prop where
  blk : w.heap[b]? = some (.cells #[x0, x1, x2, x3] 87 (0, 0))
section
variable {k : Nat} {x0 x1 x2 x3 : Value} {w w' : World}
theorem Fo.cells (h : Fo k x0 x1 x2 x3 w) : w.cell? ⟨k, 0, none⟩ = some x0 ∧ w.cell? ⟨k, 1, none⟩ = some x1 ∧ w.cell? ⟨k, 2, none⟩ = some x2 ∧ w.cell? ⟨k, 3, none⟩ = some x3 := by
  refine ⟨?_, ?_, ?_, ?_⟩ <;> (rw [cell_of_blk h.blk]; rfl)
theorem Fo.fz (h : Fo k x0 x1 x2 x3 w) (j : Nat) : w.frozen? ⟨k, j, none⟩ = false := free_of_blk h.blk j
theorem Fo.lt (h : Fo k x0 x1 x2 x3 w) : k < w.heap.size := lt_of_block h.blk
theorem Fo.only {S : Nat → Prop} (h : Fo k x0 x1 x2 x3 w) (ho : Only S w w') (hS : ¬ S k) : Fo k x0 x1 x2 x3 w' := ⟨by rw [ho.block k h.lt hS]; exact h.blk⟩
theorem Fo.set (h : Fo k x0 x1 x2 x3 w) (y0 y1 y2 y3 : Value) : Fo k y0 y1 y2 y3 ((((w.setCell ⟨k, 0, none⟩ y0).setCell ⟨k, 1, none⟩ y1).setCell ⟨k, 2, none⟩ y2).setCell ⟨k, 3, none⟩ y3) ∧ Only (· = k) w ((((w.setCell ⟨k, 0, none⟩ y0).setCell ⟨k, 1, none⟩ y1).setCell ⟨k, 2, none⟩ y2).setCell ⟨k, 3, none⟩ y3) := by
  have key : ∀ (W : World) (j : Nat) (u : Value), Only (· = k) W (W.setCell ⟨k, j, none⟩ u) := fun W j u => Only.setCell (S := (· = k)) W (p := ⟨k, j, none⟩) rfl u
  refine ⟨⟨?_⟩, (((key _ _ _).same (key _ _ _)).same (key _ _ _)).same (key _ _ _)⟩
  have := blk_set (blk_set (blk_set (blk_set h.blk 0 y0) 1 y1) 2 y2) 3 y3
  simpa using this
theorem Fo.set1 (h : Fo k x0 x1 x2 x3 w) (y1 : Value) : Fo k x0 y1 x2 x3 (w.setCell ⟨k, 1, none⟩ y1) ∧ Only (· = k) w (w.setCell ⟨k, 1, none⟩ y1) := by
  refine ⟨⟨?_⟩, Only.setCell (S := (· = k)) w (p := ⟨k, 1, none⟩) rfl _⟩
  have := blk_set h.blk 1 y1
  simpa using this
theorem results_frame {fn : Func} {p : Tmp} (h : fn.results = #[.cell p 87]) (tmps : Array Value) (w : World) (b : Nat) (x0 x1 x2 x3 : Value) (hb : tmps.getD p undef = .pointer (some ⟨b, 0, none⟩)) (hx : Fo b x0 x1 x2 x3 w) :
    (results fn tmps).run Try.prog w = .ok (.agg #[x0, x1, x2, x3]) w := by
  have hb' : tmps[p]?.getD undef = .pointer (some ⟨b, 0, none⟩) := by simpa using hb
  obtain ⟨h0, h1, h2, h3⟩ := hx.cells
  simp only [results, h]
  go_simp
end
section
variable {b rb : Nat} {ao co : Option Addr} {cap cc : Nat} {most wl lim : Int} {s : St} {w w' : World}
/-- frame, under way: k slots are told. -/
structure Fwk (k0 k1 : Nat) (f : Fr) (k : Nat) (w wr : World) : Prop where
  z : Fo k0 (.int .i64 0) (.slice none 0 0) (.int .i64 0) (.int .i64 0) wr
  row : ∃ so sc, Fo k1 (.int .i64 f.base) (.slice so k sc) (.int .i64 f.cl) (.int .i64 f.at') wr ∧ RowOf encW 1 35 (k1 + 1) so sc (f.ys.take k) wr
  o : Only (fun _ => False) w wr
set_option maxHeartbeats 4000000 in
theorem frame_at {env : Int} {n : Nat} {xs : List Int} (hb : Box b rb env co n cc lim w) (hr : RoomP 0 rb ao cap xs wl most w) {f : Fr} {p : Int} (hf : FrAt xs f p) (hl : xs.length ≤ 1048576) :
    Calls Try.prog 49 #[.pointer (some ⟨b, 0, none⟩), .int .i64 f.base] w fun e w' => ∃ so sc, e = .returned (.agg #[.int .i64 f.base, .slice so f.ys.length sc, .int .i64 f.cl, .int .i64 f.at']) ∧ RowOf encW 1 35 w.heap.size so sc f.ys w' ∧ Only (fun _ => False) w w' := by
  obtain ⟨i0, hi, hz0, hz1, hz2⟩ := info_parts infoW
  have hle := hf.le
  have h64 := hf.fit.2.2
  have HCT : Hid (∀ W, Only (fun _ => False) w W → Calls Try.prog 54 #[.pointer (some ⟨b, 0, none⟩), .int .i64 f.base] W fun e w' => e = .returned (.agg #[.int .i64 f.cl, .int .i64 f.at']) ∧ Only (fun _ => False) W w') := Lib.hid (fun W o => cont_at (hb.only o (fun e => e)) (hr.only (toRooms o) (fun _ _ e => e)) hf hl)
  have HSL : Hid (∀ W, Only (fun _ => False) w W → Calls Try.prog 68 #[.pointer (some ⟨b, 0, none⟩), .int .i64 f.base] W fun e w' => e = .returned (.int .i64 f.ys.length) ∧ w' = W) := Lib.hid (fun W o => slots_at (hb.only o (fun e => e)) (hr.only (toRooms o) (fun _ _ e => e)) hf hl)
  have HC0 : Hid (∀ W, Only (fun _ => False) w W → W.cell? ⟨b, 0, none⟩ = some (.pointer (some ⟨rb, 0, none⟩))) := Lib.hid (fun W o => (hb.only o (fun e => e)).c0)
  have HP : Hid (∀ (i : Nat) (W : World), i < f.ys.length → Calls Try.prog 57 #[.pointer (some ⟨b, 0, none⟩), .int .i64 f.base, .int .i64 ((i : Int) + 1)] W fun e w' => e = .returned (.int .i64 ((f.base + 4 + i : Nat) : Int)) ∧ w' = W) := Lib.hid (fun i W hi => by
    have := place_any f.base ((i : Int) + 1) ⟨by omega, by omega⟩ ⟨by omega, by omega⟩ (.pointer (some ⟨b, 0, none⟩)) W
    rwa [show (f.base : Int) + 4 + ((i : Int) + 1) - 1 = ((f.base + 4 + i : Nat) : Int) by omega] at this)
  have HG : Hid (∀ (i : Nat) (W : World), i < f.ys.length → Only (fun _ => False) w W → Calls Try.prog 56 #[.pointer (some ⟨rb, 0, none⟩), .int .i64 ((f.base + 4 + i : Nat) : Int)] W fun e w' => e = .returned (.tuple #[.int .u64 (f.ys.getD i 0), .int .i64 0]) ∧ w' = W) := Lib.hid (fun i W hi o => by
    have hx := hf.ys i (f.ys.getD i 0) (by simp [List.getD, List.getElem?_eq_getElem hi])
    refine (rooms.get_yes (f.base + 4 + i) (hr.only (toRooms o) (fun _ _ e => e)) (by omega) hl).mono ?_
    rintro e w' ⟨rfl, rfl⟩
    exact ⟨by simp only [List.getD, hx, Option.getD_some], rfl⟩)
  have hbl : (f.base : Int) ≤ 1048576 := by omega
  obtain ⟨E, hE⟩ : ∃ E, E = w.alloc (.cells #[.int .i64 0, .slice none 0 0, .int .i64 0, .int .i64 0] 87) := ⟨_, rfl⟩
  have HO : Hid (Only (fun _ => False) w E) := Lib.hid (by rw [hE]; exact Only.alloc _ _ _)
  have HZ : Hid (Fo w.heap.size (.int .i64 0) (.slice none 0 0) (.int .i64 0) (.int .i64 0) E) := Lib.hid ⟨by rw [hE]; exact heap_alloc_new w _⟩
  clear hb hr hf hl hle
  go_enter Try.func49, Try.ntmps49
  go_upto_region 1 with fail
  rw [← hE]
  clear hE
  go_wp2_with fail
  refine (HCT.out _ HO.out).mono ?_
  rintro e w1 ⟨rfl, ho⟩
  have HO1 := Lib.hid (HO.out.same ho)
  have HZ1 := Lib.hid (HZ.out.only ho (fun e => e))
  clear ho
  obtain ⟨W2, hW2⟩ : ∃ W2, W2 = w1.alloc (.cells #[.int .i64 f.base, .slice none 0 0, .int .i64 f.cl, .int .i64 f.at'] 87) := ⟨_, rfl⟩
  have oA : Only (fun _ => False) w1 W2 := by rw [hW2]; exact Only.alloc _ _ _
  have HF2 : Hid (Fwk w.heap.size w1.heap.size f 0 w W2) := Lib.hid ⟨HZ1.out.only oA (fun e => e), ⟨none, 0, ⟨by rw [hW2]; exact heap_alloc_new w1 _⟩, RowOf.nil _ _ _ _ _⟩, HO1.out.same oA⟩
  have HKK : Hid (w.heap.size < w1.heap.size) := Lib.hid HZ1.out.lt
  clear oA
  go_upto_region 2 with fail
  rw [← hW2]
  clear hW2
  generalize hk0 : w.heap.size = k0 at *
  generalize w1.heap.size = k1 at *
  have HK0 := Lib.hid hk0
  clear hk0
  go_wp2_with fail
  refine (HSL.out _ HF2.out.o).mono ?_
  rintro e u ⟨rfl, hu⟩
  obtain rfl : W2 = u := hu.symm
  clear HSL HCT
  go_wp2_with fail
  go_loopw [17] (fun i wr => ∃ k : Nat, i = .int .i64 k ∧ k ≤ f.ys.length ∧ Hid (Fwk k0 k1 f k w wr)) (fun i _ => f.ys.length - (intOf i).toNat)
  case atStart => exact ⟨0, rfl, Nat.zero_le _, HF2⟩
  case round =>
    obtain ⟨k, rfl, hk, hR⟩ := hrel
    obtain ⟨so, sc, hfo, hrow⟩ := hR.out.row
    have HFO := Lib.hid hfo
    have HRW := Lib.hid hrow
    clear hfo hrow
    by_cases hlt : k < f.ys.length
    · have c0 := HC0.out _ hR.out.o
      have HP1 := Lib.hid (fun W => HP.out k W hlt)
      obtain ⟨y, hy⟩ : ∃ y, y = f.ys.getD k 0 := ⟨_, rfl⟩
      have HG1 : Hid (∀ (W : World), Only (fun _ => False) w W → Calls Try.prog 56 #[.pointer (some ⟨rb, 0, none⟩), .int .i64 ((f.base + 4 + k : Nat) : Int)] W fun e w' => e = .returned (.tuple #[.int .u64 y, .int .i64 0]) ∧ w' = W) := Lib.hid (fun W o => by rw [hy]; exact HG.out k W hlt o)
      have HTK : Hid (f.ys.take k ++ [y] = f.ys.take (k + 1)) := Lib.hid (by rw [hy, List.take_succ_eq_append_getElem hlt]; simp [List.getD, List.getElem?_eq_getElem hlt])
      have HTL : Hid ((f.ys.take k).length = k) := Lib.hid (by rw [List.length_take]; omega)
      have hw1 : IntKind.i64.wrap ((k : Int) + 1) = (k : Int) + 1 := IntWalk.i64_in _ (by omega)
      clear hy
      go_wp2_with fail
      go_quiet (first | (go_at_call 57; exact Calls.quiet_of_same (HP1.out _)) | (go_at_call 56; exact Calls.quiet_of_same (HG1.out _ (hR.out.o.same (Only.drewN _ _ _)))))
      have HOD : Hid (Only (fun _ => False) wr (wr.drewN nq)) := Lib.hid (Only.drewN _ _ _)
      generalize wr.drewN nq = W3 at *
      have HF3 := Lib.hid (HFO.out.only HOD.out (fun e => e))
      have HR3 := Lib.hid (HRW.out.only HOD.out (fun _ _ e => e))
      have HZ3 := Lib.hid (hR.out.z.only HOD.out (fun e => e))
      have HO3 := Lib.hid (hR.out.o.same HOD.out)
      have d1 := HF3.out.cells.2.1
      have hkl : k1 < W3.heap.size := HF3.out.lt
      go_wp2_with (first
        | (at_builtin; go_loud (refine wp_append_one liesW (by rfl) (.tmp 34) (.tmp 36) 30 (by rfl) (k1 + 1) 35 i0 _ 8 Try.underlying30 hi hz0 hz1 hz2 rfl (by omega) W3 so sc (f.ys.take k) y [.int .u64 y] rfl (by rw [HTL.out]; rfl) HR3.out (by rfl) (by have := HTL.out; omega) (by omega) ?_)
           intro so2 sc2 w4 hrow4 ho4 hnew4
           rw [HTK.out] at hrow4
           have hne : ∀ kk, kk ≤ k1 → ¬ RowAt so kk := fun kk hkk ⟨g, hg, e⟩ => by have := (HR3.out.head g hg).2.1; omega
           have HF4 := Lib.hid (HF3.out.only ho4 (hne k1 (Nat.le_refl _)))
           have HZ4 := Lib.hid (HZ3.out.only ho4 (hne k0 (Nat.le_of_lt HKK.out)))
           have HR4 := Lib.hid hrow4
           have HO4 : Hid (Only (fun _ => False) w w4) := Lib.hid (cut HO3.out ho4 (fun kk ⟨g, hg, e⟩ => by have := (HR3.out.head g hg).2.1; have := HK0.out; have := HKK.out; omega))
           have d1 := HF4.out.cells.2.1
           have df1 := HF4.out.fz 1
           clear hrow4 ho4 hnew4 hne)
        | fail)
      have hset := HF4.out.set1 (.slice so2 (k + 1) sc2)
      have HFW : Hid (Fwk k0 k1 f (k + 1) w (w4.setCell ⟨k1, 1, none⟩ (.slice so2 (k + 1) sc2))) := Lib.hid ⟨HZ4.out.only hset.2 (fun e => by have := HKK.out; omega), ⟨so2, sc2, hset.1, HR4.out.only hset.2 (fun g hg e => by have := (HR4.out.head g hg).2.1; omega)⟩, cut HO4.out hset.2 (fun kk e => by have := HK0.out; have := HKK.out; omega)⟩
      go_roundw
      case rel => exact ⟨k + 1, by go_num, by omega, HFW⟩
      case measure => simp [intOf]; omega
    · obtain rfl : k = f.ys.length := by omega
      obtain ⟨d0, d1, d2, d3⟩ := HFO.out.cells
      obtain ⟨z0, z1, z2, z3⟩ := hR.out.z.cells
      have f0 := hR.out.z.fz 0
      have f1 := hR.out.z.fz 1
      have f2 := hR.out.z.fz 2
      have f3 := hR.out.z.fz 3
      go_wp2_with fail
      obtain ⟨h1, h2⟩ := hR.out.z.set (.int .i64 f.base) (.slice so f.ys.length sc) (.int .i64 f.cl) (.int .i64 f.at')
      have hk0 := HK0.out
      have hkk := HKK.out
      have hr2 := HRW.out
      rw [List.take_of_length_le (Nat.le_refl _)] at hr2
      refine bodyPost_ret (v := .agg #[.int .i64 f.base, .slice so f.ys.length sc, .int .i64 f.cl, .int .i64 f.at']) (results_frame rfl _ _ k0 _ _ _ _ rfl h1) rfl ⟨so, sc, rfl, ?_, cut hR.out.o h2 (fun k e => by omega)⟩
      exact RowOf.only (RowOf.lower hr2 (by omega)) h2 (fun g hg e => by have := (hr2.head g hg).2.1; omega)
theorem has_head (h : Stk b rb ao cap most co cc s wl lim w) {f : Fr} {fs : List Fr} (hn : s.cur = f :: fs) : Calls Try.prog 47 #[.pointer (some ⟨b, 0, none⟩), .int .i64 f.base] w fun e w' => e = .returned (.bool true) ∧ Only (fun _ => False) w w' := by
  have hb := h.box
  rw [hn, show headB (f :: fs) = f.base from rfl] at hb
  have HO := Lib.hid (Only.alloc (fun _ => False) w (.cells #[.int .i64 f.base] 3))
  have hp : (w.alloc (.cells #[.int .i64 f.base] 3)).cell? ⟨w.heap.size, 0, none⟩ = some (.int .i64 f.base) := by rw [cell_of_blk (heap_alloc_new w _)]; rfl
  have c1 := (hb.only HO.out (fun e => e)).c1
  clear h hb hn
  generalize f.base = i at *
  have hne : ((i : Int) == -1) = false := by simp
  go_enter Try.func47, Try.ntmps47
  go_upto_region 1 with fail
  generalize w.alloc (.cells #[.int .i64 i] 3) = E at *
  generalize w.heap.size = k at *
  go_wp2_with fail
  go_quiet (fail)
  go_wp2_with fail
  go_ret
  exact ⟨rfl, HO.out.same (Only.drewN _ _ _)⟩
theorem has_none (h : Stk b rb ao cap most co cc s wl lim w) : Calls Try.prog 47 #[.pointer (some ⟨b, 0, none⟩), .int .i64 (-1)] w fun e w' => e = .returned (.bool false) ∧ Only (fun _ => False) w w' := by
  have HO := Lib.hid (Only.alloc (fun _ => False) w (.cells #[.int .i64 (-1)] 3))
  have hp : (w.alloc (.cells #[.int .i64 (-1)] 3)).cell? ⟨w.heap.size, 0, none⟩ = some (.int .i64 (-1)) := by rw [cell_of_blk (heap_alloc_new w _)]; rfl
  clear h
  go_enter Try.func47, Try.ntmps47
  go_upto_region 1 with fail
  generalize w.alloc (.cells #[.int .i64 (-1)] 3) = E at *
  generalize w.heap.size = k at *
  go_wp2_with fail
  go_ret
  exact ⟨rfl, HO.out⟩
end
end Go.Proofs.Ythfilpacmllhpaa.stk
