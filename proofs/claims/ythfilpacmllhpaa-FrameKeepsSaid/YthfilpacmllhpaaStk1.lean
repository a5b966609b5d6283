/- Environments and choices in memory; the calls that read the words. -/
import Derived.Test.YthfilpacmllhpaaStk0
import Derived.Test.YthfilpacmllhpaaRoom2
import Derived.Test.YthfilpacmllhpaaAppMany
import Derived.Deep.QuietTactic
import Derived.BigQuiet
import Derived.Deep.RegionHeld3
import Derived.StillTailTactics
import Derived.Deep.DeepCutAuto
namespace Go.Proofs.Ythfilpacmllhpaa.stk
set_option maxRecDepth 100000
open Go.RowKit Go.Proofs.Ythfilpacmllhpaa.own
open Go.Proofs.Ythfilpacmllhpaa.rooms (RoomP IsRoom)

theorem toOwn {S : Nat → Prop} {w w' : World} (h : rooms.Only S w w') : Only S w w' := ⟨h.os, h.tape, h.output, h.size, h.block⟩
theorem toRooms {S : Nat → Prop} {w w' : World} (h : Only S w w') : rooms.Only S w w' := ⟨h.os, h.tape, h.output, h.size, h.block⟩

def encC (c : Cho) : List Value := [.int .i64 c.k, .slice c.ao c.args.length c.cap, .int .i64 c.c, .int .i64 c.a, .int .i64 c.g, .int .i64 c.n, .int .i64 c.f, .int .i64 c.env, .int .i64 c.top]
theorem liesC : Lies encC 9 := ⟨fun _ => rfl, fun x u h => by
  simp only [encC, List.mem_cons, List.not_mem_nil, or_false] at h
  rcases h with rfl | rfl | rfl | rfl | rfl | rfl | rfl | rfl | rfl <;> rfl, by decide⟩
def encW (x : Int) : List Value := [.int .u64 x]
theorem liesW : Lies encW 1 := ⟨fun _ => rfl, fun x u h => by
  simp only [encW, List.mem_singleton] at h
  subst h; rfl, by decide⟩
/-- A row of words. -/
abbrev RowW (ao : Option Addr) (cap : Nat) (xs : List Int) (w : World) : Prop := RowOf encW 1 35 0 ao cap xs w
abbrev RowC (co : Option Addr) (cc : Nat) (cs : List Cho) (w : World) : Prop := RowOf encC 9 34 0 co cc cs w

/-- A stack's box, without what its parts hold. -/
structure Box (b rb : Nat) (env : Int) (co : Option Addr) (n cc : Nat) (lim : Int) (w : World) : Prop where
  blk : w.heap[b]? = some (.cells #[.pointer (some ⟨rb, 0, none⟩), .int .i64 env, .slice co n cc, .int .i64 lim] 70 (0, 0))
section
variable {b rb : Nat} {env lim : Int} {co : Option Addr} {n cc : Nat} {w w' : World}
theorem Box.c0 (h : Box b rb env co n cc lim w) : w.cell? ⟨b, 0, none⟩ = some (.pointer (some ⟨rb, 0, none⟩)) := by rw [cell_of_blk h.blk]; rfl
theorem Box.c1 (h : Box b rb env co n cc lim w) : w.cell? ⟨b, 1, none⟩ = some (.int .i64 env) := by rw [cell_of_blk h.blk]; rfl
theorem Box.c2 (h : Box b rb env co n cc lim w) : w.cell? ⟨b, 2, none⟩ = some (.slice co n cc) := by rw [cell_of_blk h.blk]; rfl
theorem Box.c3 (h : Box b rb env co n cc lim w) : w.cell? ⟨b, 3, none⟩ = some (.int .i64 lim) := by rw [cell_of_blk h.blk]; rfl
theorem Box.fz (h : Box b rb env co n cc lim w) (j : Nat) : w.frozen? ⟨b, j, none⟩ = false := free_of_blk h.blk j
theorem Box.lt (h : Box b rb env co n cc lim w) : b < w.heap.size := lt_of_block h.blk
theorem Box.only {S : Nat → Prop} (h : Box b rb env co n cc lim w) (ho : Only S w w') (hS : ¬ S b) : Box b rb env co n cc lim w' := ⟨by rw [ho.block b h.lt hS]; exact h.blk⟩
end

/-- A stack: its box, its room of words, its choices, and the rows of their arguments. -/
structure Stk (b rb : Nat) (ao : Option Addr) (cap : Nat) (most : Int) (co : Option Addr) (cc : Nat) (s : St) (wl lim : Int) (w : World) : Prop where
  box : Box b rb (headB s.cur) co s.cs.length cc lim w
  room : RoomP 0 rb ao cap s.xs wl most w
  row : RowC co cc s.cs w
  args : ∀ c ∈ s.cs, RowW c.ao c.cap c.args w ∧ ∀ g, c.ao = some g → g.block ≠ b ∧ ¬ rooms.Mine rb ao g.block ∧ ¬ RowAt co g.block
  b1 : ¬ rooms.Mine rb ao b ∧ ¬ RowAt co b
  b2 : ∀ k, rooms.Mine rb ao k → ¬ RowAt co k
  ok : s.Ok
  le : (s.xs.length : Int) ≤ wl ∧ wl ≤ 1048576
  ch : (s.cs.length : Int) ≤ lim ∧ lim ≤ 4095

section
variable {b rb : Nat} {ao co : Option Addr} {cap cc : Nat} {most wl lim : Int} {s : St} {w w' : World}
theorem Stk.only {S : Nat → Prop} (h : Stk b rb ao cap most co cc s wl lim w) (ho : Only S w w') (hb : ¬ S b) (hm : ∀ k, rooms.Mine rb ao k → ¬ S k) (hc : ∀ k, RowAt co k → ¬ S k) (ha : ∀ c ∈ s.cs, ∀ g, c.ao = some g → ¬ S g.block) : Stk b rb ao cap most co cc s wl lim w' :=
  ⟨h.box.only ho hb, h.room.only (toRooms ho) hm, h.row.only ho (fun g hg => hc _ ⟨g, hg, rfl⟩), fun c hcm => ⟨(h.args c hcm).1.only ho (ha c hcm), (h.args c hcm).2⟩, h.b1, h.b2, h.ok, h.le, h.ch⟩
theorem Stk.later (h : Stk b rb ao cap most co cc s wl lim w) (ho : Only (fun _ => False) w w') : Stk b rb ao cap most co cc s wl lim w' :=
  h.only ho (fun e => e) (fun _ _ e => e) (fun _ _ e => e) (fun _ _ _ _ e => e)
theorem Stk.len (h : Stk b rb ao cap most co cc s wl lim w) : s.xs.length ≤ 1048576 := by have := h.le; omega
end

/-- A place in code, in its box. -/
structure Duo (b : Nat) (x y : Value) (w : World) : Prop where
  blk : w.heap[b]? = some (.cells #[x, y] 32 (0, 0))
theorem Duo.cells {b : Nat} {x y : Value} {w : World} (h : Duo b x y w) : w.cell? ⟨b, 0, none⟩ = some x ∧ w.cell? ⟨b, 1, none⟩ = some y :=
  ⟨by rw [cell_of_blk h.blk]; rfl, by rw [cell_of_blk h.blk]; rfl⟩
theorem results_addr {fn : Func} {p : Tmp} (h : fn.results = #[.cell p 32]) (tmps : Array Value) (w : World) (b : Nat) (x y : Value) (hb : tmps.getD p undef = .pointer (some ⟨b, 0, none⟩)) (hx : Duo b x y w) :
    (results fn tmps).run Try.prog w = .ok (.agg #[x, y]) w := by
  have hb' : tmps[p]?.getD undef = .pointer (some ⟨b, 0, none⟩) := by simpa using hb
  obtain ⟨h0, h1⟩ := hx.cells
  simp only [results, h]
  go_simp
theorem results_addr2 {fn : Func} {p u : Tmp} (h : fn.results = #[.cell p 32, .tmp u]) (tmps : Array Value) (w : World) (b : Nat) (x y v : Value) (hb : tmps.getD p undef = .pointer (some ⟨b, 0, none⟩)) (hu : tmps.getD u undef = v) (hx : Duo b x y w) :
    (results fn tmps).run Try.prog w = .ok (.tuple #[.agg #[x, y], v]) w := by
  have hb' : tmps[p]?.getD undef = .pointer (some ⟨b, 0, none⟩) := by simpa using hb
  have hu' : tmps[u]?.getD undef = v := by simpa using hu
  obtain ⟨h0, h1⟩ := hx.cells
  simp only [results, h]
  go_simp
/-- A choice in its box. -/
structure Nine (b : Nat) (x0 x1 x2 x3 x4 x5 x6 x7 x8 : Value) (w : World) : Prop where
  blk : w.heap[b]? = some (.cells #[x0, x1, x2, x3, x4, x5, x6, x7, x8] 34 (0, 0))
theorem Nine.cells {b : Nat} {x0 x1 x2 x3 x4 x5 x6 x7 x8 : Value} {w : World} (h : Nine b x0 x1 x2 x3 x4 x5 x6 x7 x8 w) : w.cell? ⟨b, 0, none⟩ = some x0 ∧ w.cell? ⟨b, 1, none⟩ = some x1 ∧ w.cell? ⟨b, 2, none⟩ = some x2 ∧ w.cell? ⟨b, 3, none⟩ = some x3 ∧ w.cell? ⟨b, 4, none⟩ = some x4 ∧ w.cell? ⟨b, 5, none⟩ = some x5 ∧ w.cell? ⟨b, 6, none⟩ = some x6 ∧ w.cell? ⟨b, 7, none⟩ = some x7 ∧ w.cell? ⟨b, 8, none⟩ = some x8 := by
  refine ⟨?_, ?_, ?_, ?_, ?_, ?_, ?_, ?_, ?_⟩ <;> (rw [cell_of_blk h.blk]; rfl)
theorem Nine.fz {b : Nat} {x0 x1 x2 x3 x4 x5 x6 x7 x8 : Value} {w : World} (h : Nine b x0 x1 x2 x3 x4 x5 x6 x7 x8 w) (j : Nat) : w.frozen? ⟨b, j, none⟩ = false := free_of_blk h.blk j
theorem Nine.lt {b : Nat} {x0 x1 x2 x3 x4 x5 x6 x7 x8 : Value} {w : World} (h : Nine b x0 x1 x2 x3 x4 x5 x6 x7 x8 w) : b < w.heap.size := lt_of_block h.blk
theorem Nine.only {S : Nat → Prop} {b : Nat} {x0 x1 x2 x3 x4 x5 x6 x7 x8 : Value} {w w' : World} (h : Nine b x0 x1 x2 x3 x4 x5 x6 x7 x8 w) (ho : Only S w w') (hS : ¬ S b) : Nine b x0 x1 x2 x3 x4 x5 x6 x7 x8 w' := ⟨by rw [ho.block b h.lt hS]; exact h.blk⟩
theorem results_cho {fn : Func} {p : Tmp} (h : fn.results = #[.cell p 34]) (tmps : Array Value) (w : World) (b : Nat) (x0 x1 x2 x3 x4 x5 x6 x7 x8 : Value) (hb : tmps.getD p undef = .pointer (some ⟨b, 0, none⟩)) (hx : Nine b x0 x1 x2 x3 x4 x5 x6 x7 x8 w) :
    (results fn tmps).run Try.prog w = .ok (.agg #[x0, x1, x2, x3, x4, x5, x6, x7, x8]) w := by
  have hb' : tmps[p]?.getD undef = .pointer (some ⟨b, 0, none⟩) := by simpa using hb
  obtain ⟨h0, h1, h2, h3, h4, h5, h6, h7, h8⟩ := hx.cells
  simp only [results, h]
  go_simp
theorem results_cho2 {fn : Func} {p u : Tmp} (h : fn.results = #[.cell p 34, .tmp u]) (tmps : Array Value) (w : World) (b : Nat) (x0 x1 x2 x3 x4 x5 x6 x7 x8 v : Value) (hb : tmps.getD p undef = .pointer (some ⟨b, 0, none⟩)) (hu : tmps.getD u undef = v) (hx : Nine b x0 x1 x2 x3 x4 x5 x6 x7 x8 w) :
    (results fn tmps).run Try.prog w = .ok (.tuple #[.agg #[x0, x1, x2, x3, x4, x5, x6, x7, x8], v]) w := by
  have hb' : tmps[p]?.getD undef = .pointer (some ⟨b, 0, none⟩) := by simpa using hb
  have hu' : tmps[u]?.getD undef = v := by simpa using hu
  obtain ⟨h0, h1, h2, h3, h4, h5, h6, h7, h8⟩ := hx.cells
  simp only [results, h]
  go_simp
/-! ### The calls that read -/
theorem closed_nil (w : World) : Calls Try.prog 44 #[.pointer none] w fun e w' => e = .returned (.bool true) ∧ w' = w := by
  go_enter Try.func44, Try.ntmps44
  go_wp2
  go_ret
  exact ⟨rfl, rfl⟩
section
variable {b rb : Nat} {ao co : Option Addr} {cap cc : Nat} {most wl lim : Int} {s : St} {w w' : World}
theorem closed_no {env : Int} {n : Nat} (h : Box b rb env co n cc lim w) : Calls Try.prog 44 #[.pointer (some ⟨b, 0, none⟩)] w fun e w' => e = .returned (.bool false) ∧ w' = w := by
  have c0 := h.c0
  clear h
  go_enter Try.func44, Try.ntmps44
  go_wp2
  go_ret
  exact ⟨rfl, rfl⟩
theorem number_any {env : Int} {n : Nat} {xs : List Int} (hb : Box b rb env co n cc lim w) (hr : RoomP 0 rb ao cap xs wl most w) (i j k : Nat) (hk : i + j = k) (z : Int) (hx : xs[k]? = some (uw z)) (hz : Fits z) (hl : xs.length ≤ 1048576) :
    Calls Try.prog 77 #[.pointer (some ⟨b, 0, none⟩), .int .i64 i, .int .i64 j] w fun e w' => e = .returned (.int .i64 z) ∧ w' = w := by
  have c0 := hb.c0
  have hkl : k < xs.length := (List.getElem?_eq_some_iff.1 hx).1
  have hw : wrap64 (xs.getD k 0) = z := by simp only [List.getD, hx, Option.getD_some]; exact wrap_uw hz
  have HW := Lib.hid hw
  have HX := Lib.hid hr
  have he : (i : Int) + (j : Int) = (k : Int) := by omega
  have hi : (i : Int) ≤ 1048576 := by omega
  have hj : (j : Int) ≤ 1048576 := by omega
  have HE := Lib.hid he
  have HL := Lib.hid hl
  have HK := Lib.hid hkl
  clear hb hr hx hw hz he hk hl hkl
  go_enter Try.func77, Try.ntmps77
  go_wp2_with fail
  rw [HE.out]
  refine (rooms.get_yes k HX.out HK.out HL.out).mono ?_
  rintro e w' ⟨rfl, rfl⟩
  generalize xs.getD k 0 = x at *
  go_wp2_with fail
  rw [HW.out]
  go_ret
  exact ⟨rfl, rfl⟩
/-- One number of the current environment's heading. -/
theorem slots_at {env : Int} {n : Nat} {xs : List Int} (hb : Box b rb env co n cc lim w) (hr : RoomP 0 rb ao cap xs wl most w) {f : Fr} {p : Int} (hf : FrAt xs f p) (hl : xs.length ≤ 1048576) :
    Calls Try.prog 68 #[.pointer (some ⟨b, 0, none⟩), .int .i64 f.base] w fun e w' => e = .returned (.int .i64 f.ys.length) ∧ w' = w := by
  have hn := number_any hb hr f.base 3 (f.base + 3) rfl f.ys.length hf.h3 (fits_nat (by have := hf.fit.2.2; omega)) hl
  have HN := Lib.hid hn
  clear hn hb hr hf hl
  generalize f.base = i at *
  generalize f.ys.length = m at *
  go_enter Try.func68, Try.ntmps68
  go_wp2_with fail
  refine HN.out.mono ?_
  rintro e w' ⟨rfl, rfl⟩
  go_wp2_with fail
  go_ret
  exact ⟨rfl, rfl⟩
theorem previous_at {env : Int} {n : Nat} {xs : List Int} (hb : Box b rb env co n cc lim w) (hr : RoomP 0 rb ao cap xs wl most w) {f : Fr} {p : Int} (hf : FrAt xs f p) (hp : Fits p) (hl : xs.length ≤ 1048576) :
    Calls Try.prog 48 #[.pointer (some ⟨b, 0, none⟩), .int .i64 f.base] w fun e w' => e = .returned (.int .i64 p) ∧ w' = w := by
  have hn := number_any hb hr f.base 0 (f.base + 0) rfl p hf.h0 hp hl
  have HN := Lib.hid hn
  clear hn hb hr hf hl
  generalize f.base = i at *
  go_enter Try.func48, Try.ntmps48
  go_wp2_with fail
  refine HN.out.mono ?_
  rintro e w' ⟨rfl, rfl⟩
  go_wp2_with fail
  go_ret
  exact ⟨rfl, rfl⟩
theorem cont_at {env : Int} {n : Nat} {xs : List Int} (hb : Box b rb env co n cc lim w) (hr : RoomP 0 rb ao cap xs wl most w) {f : Fr} {p : Int} (hf : FrAt xs f p) (hl : xs.length ≤ 1048576) :
    Calls Try.prog 54 #[.pointer (some ⟨b, 0, none⟩), .int .i64 f.base] w fun e w' => e = .returned (.agg #[.int .i64 f.cl, .int .i64 f.at']) ∧ Only (fun _ => False) w w' := by
  have HN : Hid (∀ W, Only (fun _ => False) w W → Calls Try.prog 77 #[.pointer (some ⟨b, 0, none⟩), .int .i64 f.base, .int .i64 1] W (fun e w' => e = .returned (.int .i64 f.cl) ∧ w' = W) ∧ Calls Try.prog 77 #[.pointer (some ⟨b, 0, none⟩), .int .i64 f.base, .int .i64 2] W (fun e w' => e = .returned (.int .i64 f.at') ∧ w' = W)) := Lib.hid (fun W o => by
    have hb' := hb.only o (fun e => e)
    have hr' := hr.only (toRooms o) (fun _ _ e => e)
    exact ⟨number_any hb' hr' f.base 1 _ rfl f.cl hf.h1 hf.fit.1 hl, number_any hb' hr' f.base 2 _ rfl f.at' hf.h2 hf.fit.2.1 hl⟩)
  clear hb hr hf hl
  generalize f.base = i at *
  generalize f.cl = x at *
  generalize f.at' = y at *
  go_enter Try.func54, Try.ntmps54
  go_wp2_with fail
  refine (HN.out _ (Only.alloc _ _ _)).1.mono ?_
  rintro e w' ⟨rfl, rfl⟩
  go_wp2_with fail
  refine (HN.out _ (Only.alloc _ _ _)).2.mono ?_
  rintro e w' ⟨rfl, rfl⟩
  go_wp2_with fail
  exact bodyPost_ret (v := .agg #[.int .i64 x, .int .i64 y]) (results_addr rfl _ _ w.heap.size _ _ rfl ⟨heap_alloc_new w _⟩) rfl ⟨rfl, Only.alloc _ _ _⟩
theorem place_any (i j : Int) (hi : 0 ≤ i ∧ i ≤ 1048576) (hj : 0 ≤ j ∧ j ≤ 1048576) (b : Value) (w : World) : Calls Try.prog 57 #[b, .int .i64 i, .int .i64 j] w fun e w' => e = .returned (.int .i64 (i + 4 + j - 1)) ∧ w' = w := by
  obtain ⟨h1, h2⟩ := hi
  obtain ⟨h3, h4⟩ := hj
  go_enter Try.func57, Try.ntmps57
  go_wp2
  go_ret
  exact ⟨rfl, rfl⟩
theorem lastTop_quiet {env : Int} {cs : List Cho} (hb : Box b rb env co cs.length cc lim w) (hr : RowC co cc cs w) (hl : cs.length ≤ 4095) :
    Calls Try.prog 67 #[.pointer (some ⟨b, 0, none⟩)] w fun e w' => e = .returned (.int .i64 (topOf cs)) ∧ ∃ m, w' = w.drewN m := by
  have c2 := hb.c2
  rcases List.eq_nil_or_concat cs with rfl | ⟨l, d, rfl⟩
  · clear hb hr
    go_enter Try.func67, Try.ntmps67
    go_wp2
    go_ret
    exact ⟨rfl, 0, rfl⟩
  · rw [List.concat_eq_append] at *
    rw [topOf_snoc]
    have hn : (l ++ [d]).length = l.length + 1 := by simp
    rw [hn] at c2 hl
    obtain ⟨g, rfl, _, hc⟩ := hr.at liesC l.length d (by simp)
    have c7 := (hc 7 (by decide)).1
    have e7 : (encC d)[7]? = some (.int .i64 d.env) := rfl
    have c8 := (hc 8 (by decide)).1
    have e8 : (encC d)[8]? = some (.int .i64 d.top) := rfl
    rw [e8] at c8
    clear hc c7 e7 e8 hb hr hn
    generalize l.length = m at *
    generalize d.top = t at *
    go_enter Try.func67, Try.ntmps67
    go_wp2
    go_quiet (fail)
    go_wp2
    go_ret
    exact ⟨rfl, _, rfl⟩
theorem lastTop_any {env : Int} {cs : List Cho} (hb : Box b rb env co cs.length cc lim w) (hr : RowC co cc cs w) (hl : cs.length ≤ 4095) :
    Calls Try.prog 67 #[.pointer (some ⟨b, 0, none⟩)] w fun e w' => e = .returned (.int .i64 (topOf cs)) ∧ Only (fun _ => False) w w' := by
  refine (lastTop_quiet hb hr hl).mono ?_
  rintro e w' ⟨h1, m, rfl⟩
  exact ⟨h1, Only.drewN _ _ _⟩
theorem top_none (h : Stk b rb ao cap most co cc s wl lim w) (hn : s.cur = []) : Calls Try.prog 46 #[.pointer (some ⟨b, 0, none⟩)] w fun e w' => e = .returned (.int .i64 s.top) ∧ Only (fun _ => False) w w' := by
  have hb := h.box
  have e1 : s.top = topOf s.cs := by unfold St.top; rw [hn]; simp [endF]
  rw [hn, show headB [] = -1 from rfl] at hb
  have HB := Lib.hid (lastTop_any hb h.row (by have := h.ch; omega))
  have HC : Hid (∀ W, Only (fun _ => False) w W → W.cell? ⟨b, 1, none⟩ = some (.int .i64 (-1))) := Lib.hid (fun W o => (hb.only o (fun e => e)).c1)
  rw [e1]
  clear h hb e1 hn
  generalize topOf s.cs = t at *
  go_enter Try.func46, Try.ntmps46
  go_wp2_with fail
  refine HB.out.mono ?_
  rintro e w1 ⟨rfl, ho⟩
  have c1 := HC.out w1 ho
  go_wp2_with fail
  go_ret
  exact ⟨rfl, ho⟩
theorem top_some (h : Stk b rb ao cap most co cc s wl lim w) {f : Fr} {fs : List Fr} (hn : s.cur = f :: fs) : Calls Try.prog 46 #[.pointer (some ⟨b, 0, none⟩)] w fun e w' => e = .returned (.int .i64 s.top) ∧ Only (fun _ => False) w w' := by
  have hb := h.box
  have hC := h.ok.cur
  have e1 : s.top = max (topOf s.cs) (f.base + 4 + f.ys.length) := by unfold St.top; rw [hn]; rfl
  rw [hn] at hC
  rw [hn, show headB (f :: fs) = f.base from rfl] at hb
  have hle := hC.1.le
  have hxl := h.len
  have htl := h.ok.tops
  have HB := Lib.hid (lastTop_any hb h.row (by have := h.ch; omega))
  have HS : Hid (∀ W, Only (fun _ => False) w W → Calls Try.prog 68 #[.pointer (some ⟨b, 0, none⟩), .int .i64 f.base] W fun e w' => e = .returned (.int .i64 f.ys.length) ∧ w' = W) := Lib.hid (fun W o => slots_at (hb.only o (fun e => e)) (h.room.only (toRooms o) (fun _ _ e => e)) hC.1 hxl)
  have HC : Hid (∀ W, Only (fun _ => False) w W → W.cell? ⟨b, 1, none⟩ = some (.int .i64 f.base)) := Lib.hid (fun W o => (hb.only o (fun e => e)).c1)
  have hbl : f.base ≤ 1048576 := by omega
  have hyl : f.ys.length ≤ 1048576 := by omega
  have htl : topOf s.cs ≤ 1048576 := by omega
  rw [e1]
  clear h hb e1 hn hC hle hxl
  generalize topOf s.cs = t at *
  generalize f.ys.length = m at *
  generalize f.base = i at *
  have hne : ((i : Int) != -1) = true := by simp
  have hw1 : IntKind.i64.wrap ((i : Int) + 4) = (i : Int) + 4 := IntWalk.i64_in _ (by omega)
  have hw2 : IntKind.i64.wrap ((i : Int) + 4 + (m : Int)) = (i : Int) + 4 + (m : Int) := IntWalk.i64_in _ (by omega)
  have HE : Hid ((if (t : Int) < (i : Int) + 4 + (m : Int) then (i : Int) + 4 + (m : Int) else (t : Int)) = ((max t (i + 4 + m) : Nat) : Int)) := Lib.hid (by split <;> omega)
  generalize max t (i + 4 + m) = r at *
  go_enter Try.func46, Try.ntmps46
  go_wp2_with fail
  refine HB.out.mono ?_
  rintro e w1 ⟨rfl, ho⟩
  have HO := Lib.hid ho
  clear ho
  have c1 := HC.out w1 HO.out
  go_wp2_with fail
  go_quiet ((go_at_call 68; exact Calls.quiet_of_same (HS.out _ (HO.out.same (Only.drewN _ _ _)))))
  rw [HE.out]
  go_wp2_with fail
  go_ret
  exact ⟨rfl, HO.out.same (Only.drewN _ _ _)⟩
theorem top_any (h : Stk b rb ao cap most co cc s wl lim w) : Calls Try.prog 46 #[.pointer (some ⟨b, 0, none⟩)] w fun e w' => e = .returned (.int .i64 s.top) ∧ Only (fun _ => False) w w' := by
  cases hn : s.cur with
  | nil => exact top_none h hn
  | cons f fs => exact top_some h hn
/-- How many slots the current environment has. -/
def slotsF : List Fr → Nat
  | [] => 0
  | f :: _ => f.ys.length
theorem Slots_any (h : Stk b rb ao cap most co cc s wl lim w) : Calls Try.prog 29 #[.pointer (some ⟨b, 0, none⟩)] w fun e w' => e = .returned (.int .i64 (slotsF s.cur)) ∧ w' = w := by
  have HB := Lib.hid (closed_no h.box)
  have c1 := h.box.c1
  have hC := h.ok.cur
  cases hn : s.cur with
  | nil =>
    rw [hn, show headB [] = -1 from rfl] at c1
    clear h hC hn
    show Calls _ _ _ _ (fun e w' => e = .returned (.int .i64 0) ∧ w' = w)
    go_enter Try.func29, Try.ntmps29
    go_wp2_with fail
    refine HB.out.mono ?_
    rintro e w' ⟨rfl, rfl⟩
    go_wp2_with fail
    go_ret
    exact ⟨rfl, rfl⟩
  | cons f fs =>
    rw [hn] at hC
    rw [hn, show headB (f :: fs) = f.base from rfl] at c1
    have HS := Lib.hid (slots_at h.box h.room hC.1 h.len)
    show Calls _ _ _ _ (fun e w' => e = .returned (.int .i64 f.ys.length) ∧ w' = w)
    clear h hC hn
    generalize f.ys.length = m at *
    generalize f.base = i at *
    have hne : ((i : Int) == -1) = false := by simp
    go_enter Try.func29, Try.ntmps29
    go_wp2_with fail
    refine HB.out.mono ?_
    rintro e w' ⟨rfl, rfl⟩
    go_wp2_with fail
    refine HS.out.mono ?_
    rintro e w' ⟨rfl, rfl⟩
    go_wp2_with fail
    go_ret
    exact ⟨rfl, rfl⟩
theorem Env_any (h : Stk b rb ao cap most co cc s wl lim w) : Calls Try.prog 15 #[.pointer (some ⟨b, 0, none⟩)] w fun e w' => e = .returned (.int .i64 (headB s.cur)) ∧ w' = w := by
  have HB := Lib.hid (closed_no h.box)
  have c1 := h.box.c1
  clear h
  generalize headB s.cur = i at *
  go_enter Try.func15, Try.ntmps15
  go_wp2_with fail
  refine HB.out.mono ?_
  rintro e w' ⟨rfl, rfl⟩
  go_wp2_with fail
  go_ret
  exact ⟨rfl, rfl⟩
theorem Depth_any (h : Stk b rb ao cap most co cc s wl lim w) : Calls Try.prog 16 #[.pointer (some ⟨b, 0, none⟩)] w fun e w' => e = .returned (.int .i64 s.cs.length) ∧ w' = w := by
  have HB := Lib.hid (closed_no h.box)
  have c2 := h.box.c2
  clear h
  generalize s.cs.length = i at *
  go_enter Try.func16, Try.ntmps16
  go_wp2_with fail
  refine HB.out.mono ?_
  rintro e w' ⟨rfl, rfl⟩
  go_wp2_with fail
  go_ret
  exact ⟨rfl, rfl⟩
theorem hasSlot_no (h : Stk b rb ao cap most co cc s wl lim w) (i : Int) (hi : i < 1 ∨ (slotsF s.cur : Int) < i) : Calls Try.prog 55 #[.pointer (some ⟨b, 0, none⟩), .int .i64 i] w fun e w' => e = .returned (.bool false) ∧ w' = w := by
  have HB := Lib.hid (Slots_any h)
  clear h
  generalize slotsF s.cur = m at *
  by_cases h1 : i < 1
  · clear hi
    go_enter Try.func55, Try.ntmps55
    go_wp2
    go_ret
    exact ⟨rfl, rfl⟩
  · have h2 : decide (i ≤ (m : Int)) = false := decide_eq_false (by omega)
    clear hi
    go_enter Try.func55, Try.ntmps55
    go_wp2_with fail
    refine HB.out.mono ?_
    rintro e w' ⟨rfl, rfl⟩
    go_wp2_with fail
    go_ret
    exact ⟨rfl, rfl⟩
theorem hasSlot_yes (h : Stk b rb ao cap most co cc s wl lim w) (i : Nat) (hi : i < slotsF s.cur) : Calls Try.prog 55 #[.pointer (some ⟨b, 0, none⟩), .int .i64 ((i : Int) + 1)] w fun e w' => e = .returned (.bool true) ∧ w' = w := by
  have HB := Lib.hid (Slots_any h)
  clear h
  generalize slotsF s.cur = m at *
  have h1 : (1 : Int) ≤ (i : Int) + 1 := by omega
  have h2 : (i : Int) + 1 ≤ (m : Int) := by omega
  generalize (i : Int) + 1 = j at *
  clear hi
  go_enter Try.func55, Try.ntmps55
  go_wp2_with fail
  refine HB.out.mono ?_
  rintro e w' ⟨rfl, rfl⟩
  go_wp2_with fail
  go_ret
  exact ⟨rfl, rfl⟩
end
end Go.Proofs.Ythfilpacmllhpaa.stk
