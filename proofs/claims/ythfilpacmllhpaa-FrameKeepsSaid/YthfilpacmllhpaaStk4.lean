/- Environments and choices in memory: Dealloc, Trim. -/
import Derived.Test.YthfilpacmllhpaaStk3
namespace Go.Proofs.Ythfilpacmllhpaa.stk
set_option maxRecDepth 100000
open Go.RowKit Go.Proofs.Ythfilpacmllhpaa.own
open Go.Proofs.Ythfilpacmllhpaa.rooms (RoomP IsRoom)
section
variable {b rb : Nat} {ao co : Option Addr} {cap cc : Nat} {most wl lim : Int} {s : St} {w w' : World}
theorem fits_head {xs : List Int} : ∀ {fs : List Fr}, Ch xs fs → xs.length ≤ 1048576 → Fits (headB fs)
  | [], _, _ => ⟨by simp [headB], by simp [headB]⟩
  | f :: fs, h, hl => by have := h.1.le; simp only [headB]; exact fits_nat (by omega)
theorem cut {S : Nat → Prop} {a b c : World} (h : Only (fun _ => False) a b) (h' : Only S b c) (hS : ∀ k, S k → a.heap.size ≤ k) : Only (fun _ => False) a c :=
  h.trans h' (fun k hk e => by have := hS k e; omega)
theorem Duo.fz {k : Nat} {x y : Value} (h : Duo k x y w) (j : Nat) : w.frozen? ⟨k, j, none⟩ = false := free_of_blk h.blk j
theorem Duo.lt {k : Nat} {x y : Value} (h : Duo k x y w) : k < w.heap.size := lt_of_block h.blk
theorem Duo.only {S : Nat → Prop} {k : Nat} {x y : Value} (h : Duo k x y w) (ho : Only S w w') (hS : ¬ S k) : Duo k x y w' := ⟨by rw [ho.block k h.lt hS]; exact h.blk⟩
theorem Duo.set {k : Nat} {x y : Value} (h : Duo k x y w) (x' y' : Value) : Duo k x' y' ((w.setCell ⟨k, 0, none⟩ x').setCell ⟨k, 1, none⟩ y') ∧ Only (· = k) w ((w.setCell ⟨k, 0, none⟩ x').setCell ⟨k, 1, none⟩ y') := by
  refine ⟨⟨?_⟩, (Only.setCell (S := (· = k)) w (p := ⟨k, 0, none⟩) rfl _).same (Only.setCell (S := (· = k)) _ (p := ⟨k, 1, none⟩) rfl _)⟩
  have := blk_set (blk_set h.blk 0 x') 1 y'
  simpa using this
theorem Dealloc_none (h : Stk b rb ao cap most co cc s wl lim w) (hn : s.cur = []) : Calls Try.prog 20 #[.pointer (some ⟨b, 0, none⟩)] w fun e w' => e = .returned (.tuple #[.agg #[.int .i64 0, .int .i64 0], .int .i64 4]) ∧ Only (fun _ => False) w w' := by
  obtain ⟨E, hE⟩ : ∃ E, E = w.alloc (.cells #[.int .i64 0, .int .i64 0] 32) := ⟨_, rfl⟩
  have HO : Hid (Only (fun _ => False) w E) := Lib.hid (by rw [hE]; exact Only.alloc _ _ _)
  have HD : Hid (Duo w.heap.size (.int .i64 0) (.int .i64 0) E) := Lib.hid ⟨by rw [hE]; exact heap_alloc_new w _⟩
  have hb := (h.later HO.out).box
  rw [hn, show headB [] = -1 from rfl] at hb
  have HB := Lib.hid (closed_no hb)
  have c1 := hb.c1
  clear h hb hn
  go_enter Try.func20, Try.ntmps20
  go_upto_region 1 with fail
  rw [← hE]
  clear hE
  generalize hbk : w.heap.size = bk at *
  have HBK := Lib.hid hbk
  clear hbk
  go_wp2_with fail
  refine HB.out.mono ?_
  rintro e u ⟨rfl, hu⟩
  obtain rfl : E = u := hu.symm
  obtain ⟨d0, d1⟩ := HD.out.cells
  have df0 := HD.out.fz 0
  have df1 := HD.out.fz 1
  go_wp2_with fail
  obtain ⟨h1, h2⟩ := HD.out.set (.int .i64 0) (.int .i64 0)
  exact bodyPost_ret (v := .tuple #[.agg #[.int .i64 0, .int .i64 0], .int .i64 4]) (results_addr2 rfl _ _ bk _ _ _ rfl rfl h1) rfl ⟨rfl, cut HO.out h2 (fun k e => by rw [e]; exact Nat.le_of_eq HBK.out)⟩
set_option maxHeartbeats 2000000 in
theorem Dealloc_some (h : Stk b rb ao cap most co cc s wl lim w) {f : Fr} {fs : List Fr} (hn : s.cur = f :: fs) : Calls Try.prog 20 #[.pointer (some ⟨b, 0, none⟩)] w fun e w' => e = .returned (.tuple #[.agg #[.int .i64 f.cl, .int .i64 f.at'], .int .i64 0]) ∧
    Stk b rb ao cap most co cc { s with cur := fs } wl lim w' ∧ Only (· = b) w w' := by
  obtain ⟨E, hE⟩ : ∃ E, E = w.alloc (.cells #[.int .i64 0, .int .i64 0] 32) := ⟨_, rfl⟩
  have HO : Hid (Only (fun _ => False) w E) := Lib.hid (by rw [hE]; exact Only.alloc _ _ _)
  have HD : Hid (Duo w.heap.size (.int .i64 0) (.int .i64 0) E) := Lib.hid ⟨by rw [hE]; exact heap_alloc_new w _⟩
  have HLT : Hid (b < w.heap.size) := Lib.hid h.box.lt
  have HE := Lib.hid (h.later HO.out)
  have HS := Lib.hid h
  have hb := HE.out.box
  rw [hn, show headB (f :: fs) = f.base from rfl] at hb
  have HB := Lib.hid (closed_no hb)
  have c1 := hb.c1
  have hC := h.ok.cur
  rw [hn] at hC
  have HC := Lib.hid hC
  have HXL := Lib.hid h.len
  have HBX := Lib.hid hb
  have HFP : Hid (Fits (headB fs)) := Lib.hid (fits_head hC.2.2 h.len)
  have HN := Lib.hid hn
  have HCT : Hid (∀ W, Only (fun _ => False) E W → Calls Try.prog 54 #[.pointer (some ⟨b, 0, none⟩), .int .i64 f.base] W fun e w' => e = .returned (.agg #[.int .i64 f.cl, .int .i64 f.at']) ∧ Only (fun _ => False) W w') := Lib.hid (fun W o => cont_at (hb.only o (fun e => e)) (HE.out.room.only (toRooms o) (fun _ _ e => e)) hC.1 h.len)
  have HPV : Hid (∀ W, Only (fun _ => False) E W → Calls Try.prog 48 #[.pointer (some ⟨b, 0, none⟩), .int .i64 f.base] W fun e w' => e = .returned (.int .i64 (headB fs)) ∧ w' = W) := Lib.hid (fun W o => previous_at (hb.only o (fun e => e)) (HE.out.room.only (toRooms o) (fun _ _ e => e)) hC.1 HFP.out h.len)
  have HCC : Hid (∀ W, Only (fun _ => False) E W → W.cell? ⟨b, 1, none⟩ = some (.int .i64 f.base) ∧ W.frozen? ⟨b, 1, none⟩ = false) := Lib.hid (fun W o => ⟨(hb.only o (fun e => e)).c1, (hb.only o (fun e => e)).fz 1⟩)
  clear h hb hn hC
  generalize f.cl = x at *
  generalize f.at' = y at *
  generalize f.base = i at *
  have hne : ((i : Int) == -1) = false := by simp
  go_enter Try.func20, Try.ntmps20
  go_upto_region 1 with fail
  rw [← hE]
  clear hE
  generalize hbk : w.heap.size = bk at *
  have HBK := Lib.hid hbk
  clear hbk
  go_wp2_with fail
  refine HB.out.mono ?_
  rintro e u ⟨rfl, hu⟩
  obtain rfl : E = u := hu.symm
  go_wp2_with fail
  refine (HCT.out _ (Only.refl _ _)).mono ?_
  rintro e w2 ⟨rfl, ho⟩
  obtain ⟨W3, hW3⟩ : ∃ W3, W3 = w2.alloc (.cells #[.int .i64 x, .int .i64 y] 32) := ⟨_, rfl⟩
  have HO3 : Hid (Only (fun _ => False) E W3) := Lib.hid (by rw [hW3]; exact ho.same (Only.alloc _ _ _))
  have HD3 : Hid (Duo w2.heap.size (.int .i64 x) (.int .i64 y) W3) := Lib.hid ⟨by rw [hW3]; exact heap_alloc_new w2 _⟩
  have HN3 : Hid (bk < w2.heap.size) := Lib.hid (Nat.lt_of_lt_of_le HD.out.lt ho.size)
  clear ho c1
  go_upto_region 6 with fail
  rw [← hW3]
  clear hW3
  generalize w2.heap.size = bd at *
  obtain ⟨c1, f1⟩ := HCC.out _ HO3.out
  go_wp2_with fail
  refine (HPV.out _ HO3.out).mono ?_
  rintro e u ⟨rfl, hu⟩
  obtain rfl : W3 = u := hu.symm
  obtain ⟨W4, hW4⟩ : ∃ W4, W4 = W3.setCell ⟨b, 1, none⟩ (.int .i64 (headB fs)) := ⟨_, rfl⟩
  have HO4 : Hid (Only (· = b) W3 W4) := Lib.hid (by rw [hW4]; exact Only.setCell (S := (· = b)) W3 (p := ⟨b, 1, none⟩) rfl _)
  have HB4 : Hid (Box b rb (headB fs) co s.cs.length cc lim W4) := Lib.hid ⟨by rw [hW4]; simpa using blk_set (HBX.out.only HO3.out (fun e => e)).blk 1 (.int .i64 (headB fs))⟩
  have HD4 : Hid (Duo bd (.int .i64 x) (.int .i64 y) W4) := Lib.hid (HD3.out.only HO4.out (fun e => by have := HLT.out; have := HN3.out; omega))
  have HK4 : Hid (Duo bk (.int .i64 0) (.int .i64 0) W4) := Lib.hid ((HD.out.only HO3.out (fun e => e)).only HO4.out (fun e => by have := HLT.out; omega))
  go_upto_region 7 with fail
  rw [← hW4]
  clear hW4 c1 f1
  obtain ⟨d0, d1⟩ := HD4.out.cells
  obtain ⟨k0, k1⟩ := HK4.out.cells
  have df0 := HK4.out.fz 0
  have df1 := HK4.out.fz 1
  go_wp2_with fail
  obtain ⟨h1, h2⟩ := HK4.out.set (.int .i64 x) (.int .i64 y)
  have hT : Only (· = b) w ((W4.setCell ⟨bk, 0, none⟩ (.int .i64 x)).setCell ⟨bk, 1, none⟩ (.int .i64 y)) := (((HO.out.no (· = b)).same (HO3.out.no _)).same HO4.out).trans h2 (fun k hk e => by have := HBK.out; omega)
  refine bodyPost_ret (v := .tuple #[.agg #[.int .i64 x, .int .i64 y], .int .i64 0]) (results_addr2 rfl _ _ bk _ _ _ rfl rfl h1) rfl ⟨rfl, ?_, hT⟩
  refine HS.out.worded (cs := s.cs) (HB4.out.only h2 (fun e => by have := HLT.out; have := HBK.out; omega)) (HS.out.room.only (toRooms hT) (fun k hk e => HS.out.b1.1 (e ▸ hk))) (hT.mono (fun k _ e => .inl e)) rfl rfl (fun c hc => ⟨c, hc, rfl, rfl, rfl⟩) ?_ (Nat.le_refl _)
  have hok := HS.out.ok.leave
  rw [HN.out] at hok
  exact hok
theorem Trim_none (h : Stk b rb ao cap most co cc s wl lim w) (n : Int) (hn : s.cur = []) : Calls Try.prog 28 #[.pointer (some ⟨b, 0, none⟩), .int .i64 n] w fun e w' => e = .returned (.bool false) ∧ Only (fun _ => False) w w' := by
  have hb := h.box
  rw [hn, show headB [] = -1 from rfl] at hb
  have HB := Lib.hid (fun W (o : Only (fun _ => False) w W) => closed_no (hb.only o (fun e => e)))
  have c1 := hb.c1
  clear h hb hn
  go_enter Try.func28, Try.ntmps28
  go_wp2_with fail
  go_quiet ((go_at_call 44; exact Calls.quiet_of_same (HB.out _ (Only.drewN _ _ _))))
  go_wp2_with fail
  go_ret
  exact ⟨rfl, Only.drewN _ _ _⟩
theorem Trim_kept (h : Stk b rb ao cap most co cc s wl lim w) (n : Int) {f : Fr} {fs : List Fr} (hn : s.cur = f :: fs) (hk : f.base < topOf s.cs) : Calls Try.prog 28 #[.pointer (some ⟨b, 0, none⟩), .int .i64 n] w fun e w' => e = .returned (.bool false) ∧ Only (fun _ => False) w w' := by
  have hb := h.box
  rw [hn, show headB (f :: fs) = f.base from rfl] at hb
  have HB := Lib.hid (fun W (o : Only (fun _ => False) w W) => closed_no (hb.only o (fun e => e)))
  have HL := Lib.hid (fun W (o : Only (fun _ => False) w W) => lastTop_quiet (hb.only o (fun e => e)) (h.row.only o (fun _ _ e => e)) (by have := h.ch; omega))
  have c1 := hb.c1
  have hd : decide (f.base < topOf s.cs) = true := decide_eq_true (by omega)
  clear h hb hn hk
  generalize topOf s.cs = t at *
  generalize f.base = i at *
  have hne : ((i : Int) == -1) = false := by simp
  go_enter Try.func28, Try.ntmps28
  go_wp2_with fail
  go_quiet (first | (go_at_call 44; exact Calls.quiet_of_same (HB.out _ (Only.drewN _ _ _))) | (go_at_call 67; exact Calls.quiet_of (HL.out _ (Only.drewN _ _ _))))
  go_wp2_with fail
  go_ret
  exact ⟨rfl, Only.drewN _ _ _⟩
theorem Trim_out (h : Stk b rb ao cap most co cc s wl lim w) (n : Int) {f : Fr} {fs : List Fr} (hn : s.cur = f :: fs) (hk : topOf s.cs ≤ f.base) (hr : n < 0 ∨ (f.ys.length : Int) < n) : Calls Try.prog 28 #[.pointer (some ⟨b, 0, none⟩), .int .i64 n] w fun e w' => e = .returned (.bool false) ∧ Only (fun _ => False) w w' := by
  have hb := h.box
  rw [hn, show headB (f :: fs) = f.base from rfl] at hb
  have hC := h.ok.cur
  rw [hn] at hC
  have HB := Lib.hid (fun W (o : Only (fun _ => False) w W) => closed_no (hb.only o (fun e => e)))
  have HL := Lib.hid (fun W (o : Only (fun _ => False) w W) => lastTop_quiet (hb.only o (fun e => e)) (h.row.only o (fun _ _ e => e)) (by have := h.ch; omega))
  have HS : Hid (∀ W, Only (fun _ => False) w W → Calls Try.prog 68 #[.pointer (some ⟨b, 0, none⟩), .int .i64 f.base] W fun e w' => e = .returned (.int .i64 f.ys.length) ∧ w' = W) := Lib.hid (fun W o => slots_at (hb.only o (fun e => e)) (h.room.only (toRooms o) (fun _ _ e => e)) hC.1 h.len)
  have HC : Hid (∀ W, Only (fun _ => False) w W → W.cell? ⟨b, 1, none⟩ = some (.int .i64 f.base)) := Lib.hid (fun W o => (hb.only o (fun e => e)).c1)
  have c1 := hb.c1
  have hd : decide (f.base < topOf s.cs) = false := decide_eq_false (by omega)
  clear h hb hn hk hC
  generalize topOf s.cs = t at *
  generalize f.base = i at *
  generalize f.ys.length = m at *
  have hne : ((i : Int) == -1) = false := by simp
  by_cases h0 : n < 0
  · clear hr
    go_enter Try.func28, Try.ntmps28
    go_wp2_with fail
    go_quiet (first | (go_at_call 44; exact Calls.quiet_of_same (HB.out _ (Only.drewN _ _ _))) | (go_at_call 67; exact Calls.quiet_of (HL.out _ (Only.drewN _ _ _))))
    go_wp2_with fail
    go_ret
    exact ⟨rfl, Only.drewN _ _ _⟩
  · have h1 : decide ((m : Int) < n) = true := decide_eq_true (by omega)
    have h2 : (m : Int) < n := by omega
    clear hr
    go_enter Try.func28, Try.ntmps28
    go_wp2_with fail
    go_quiet (first | (go_at_call 44; exact Calls.quiet_of_same (HB.out _ (Only.drewN _ _ _))) | (go_at_call 67; exact Calls.quiet_of (HL.out _ (Only.drewN _ _ _))))
    have HO : Hid (Only (fun _ => False) w (w.drewN nq)) := Lib.hid (Only.drewN _ _ _)
    generalize w.drewN nq = W1 at *
    have c1 := HC.out _ HO.out
    go_wp2_with fail
    refine (HS.out _ HO.out).mono ?_
    rintro e u ⟨rfl, hu⟩
    obtain rfl : W1 = u := hu.symm
    go_wp2_with fail
    go_ret
    exact ⟨rfl, HO.out⟩
theorem Trim_yes (h : Stk b rb ao cap most co cc s wl lim w) (n : Nat) {f : Fr} {fs : List Fr} (hn : s.cur = f :: fs) (hk : topOf s.cs ≤ f.base) (hr : n ≤ f.ys.length) : Calls Try.prog 28 #[.pointer (some ⟨b, 0, none⟩), .int .i64 n] w fun e w' => e = .returned (.bool true) ∧
    Stk b rb ao cap most co cc { s with xs := s.xs.set (f.base + 3) (uw n), cur := { f with ys := f.ys.take n } :: fs } wl lim w' ∧ Only (rooms.RowAt ao) w w' := by
  have hb := h.box
  rw [hn, show headB (f :: fs) = f.base from rfl] at hb
  have hC := h.ok.cur
  rw [hn] at hC
  have hle := hC.1.le
  have hxl := h.len
  have HB := Lib.hid (fun W (o : Only (fun _ => False) w W) => closed_no (hb.only o (fun e => e)))
  have HL := Lib.hid (fun W (o : Only (fun _ => False) w W) => lastTop_quiet (hb.only o (fun e => e)) (h.row.only o (fun _ _ e => e)) (by have := h.ch; omega))
  have HS : Hid (∀ W, Only (fun _ => False) w W → Calls Try.prog 68 #[.pointer (some ⟨b, 0, none⟩), .int .i64 f.base] W fun e w' => e = .returned (.int .i64 f.ys.length) ∧ w' = W) := Lib.hid (fun W o => slots_at (hb.only o (fun e => e)) (h.room.only (toRooms o) (fun _ _ e => e)) hC.1 hxl)
  have HC : Hid (∀ W, Only (fun _ => False) w W → W.cell? ⟨b, 1, none⟩ = some (.int .i64 f.base)) := Lib.hid (fun W o => (hb.only o (fun e => e)).c1)
  have HP : Hid (∀ W, Only (fun _ => False) w W → Calls Try.prog 65 #[.pointer (some ⟨b, 0, none⟩), .int .i64 f.base, .int .i64 3, .int .i64 n] W fun e w' => e = .returned (.tuple #[]) ∧ Stk b rb ao cap most co cc { s with xs := s.xs.set (f.base + 3) (uw n), cur := { f with ys := f.ys.take n } :: fs } wl lim w' ∧ Only (rooms.RowAt ao) W w') := Lib.hid (fun W o => by
    have hW := h.later o
    refine (put_at hW.box hW.room f.base 3 (f.base + 3) rfl n (by omega) hxl).mono ?_
    rintro e w' ⟨rfl, hr', ho'⟩
    refine ⟨rfl, hW.worded (cs := s.cs) ?_ hr' (ho'.mono (fun k _ hk => .inr (.inr hk))) rfl rfl (fun c hc => ⟨c, hc, rfl, rfl, rfl⟩) (h.ok.trim hn n hr hk) (by rw [List.length_set]; exact Nat.le_refl _), ho'⟩
    have hbx := hW.box
    rw [hn] at hbx
    exact hbx.only ho' (fun e => h.b1.1 (.inr e)))
  have c1 := hb.c1
  have hd : decide (f.base < topOf s.cs) = false := decide_eq_false (by omega)
  clear h hb hn hk hC hle hxl
  generalize ({ s with xs := s.xs.set (f.base + 3) (uw n), cur := { f with ys := f.ys.take n } :: fs } : St) = s2 at *
  generalize topOf s.cs = t at *
  generalize f.base = i at *
  generalize f.ys.length = m at *
  have hne : ((i : Int) == -1) = false := by simp
  have h1 : decide (m < n) = false := decide_eq_false (by omega)
  clear hr
  go_enter Try.func28, Try.ntmps28
  go_wp2_with fail
  go_quiet (first | (go_at_call 44; exact Calls.quiet_of_same (HB.out _ (Only.drewN _ _ _))) | (go_at_call 67; exact Calls.quiet_of (HL.out _ (Only.drewN _ _ _))))
  have HO : Hid (Only (fun _ => False) w (w.drewN nq)) := Lib.hid (Only.drewN _ _ _)
  generalize w.drewN nq = W1 at *
  have c1 := HC.out _ HO.out
  go_wp2_with fail
  refine (HS.out _ HO.out).mono ?_
  rintro e u ⟨rfl, hu⟩
  obtain rfl : W1 = u := hu.symm
  go_wp2_with fail
  refine (HP.out _ HO.out).mono ?_
  rintro e w3 ⟨rfl, hs3, ho3⟩
  have HS3 := Lib.hid hs3
  have HO3 := Lib.hid ho3
  clear hs3 ho3
  go_wp2_with fail
  go_ret
  exact ⟨rfl, HS3.out, (HO.out.no _).same HO3.out⟩
end
end Go.Proofs.Ythfilpacmllhpaa.stk
