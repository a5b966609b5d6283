/- Selection by keys: the first entry from a place on; a row with an entry more. -/
import Derived.Test.YthgjedcelcanbaaIdx6
namespace Go.Proofs.Ythgjedcelcanbaa.idx
set_option maxRecDepth 100000
open Go.RowKit Go.Proofs.Ythgjedcelcanbaa.own Go.Lib
def zE : En := ⟨0, ⟨0, ⟨#[]⟩, 0⟩, 0⟩
abbrev enV (e : En) : Value := .agg #[.int .i64 e.id, .int .i64 e.key.k, .string e.key.s, .int .i64 e.key.n, .int .i64 e.pl]
abbrev fiveW (w : World) (b : Nat) (e : En) : World := ((((w.setCell ⟨b, 0, none⟩ (.int .i64 e.id)).setCell ⟨b, 1, none⟩ (.int .i64 e.key.k)).setCell ⟨b, 2, none⟩ (.string e.key.s)).setCell ⟨b, 3, none⟩ (.int .i64 e.key.n)).setCell ⟨b, 4, none⟩ (.int .i64 e.pl)
theorem Five.set {b : Nat} {x : En} {w : World} (h : Five b x w) (e : En) : Five b e (fiveW w b e) ∧ Only (· = b) w (fiveW w b e) := by
  have so : ∀ (W : World) (j : Nat) (y : Value), Only (· = b) W (W.setCell ⟨b, j, none⟩ y) := fun W j y => Only.setCell (S := (· = b)) (p := ⟨b, j, none⟩) W rfl y
  refine ⟨?_, ((((so _ _ _).same (so _ _ _)).same (so _ _ _)).same (so _ _ _)).same (so _ _ _)⟩
  unfold Five at *
  rw [blk_set (blk_set (blk_set (blk_set (blk_set h 0 _) 1 _) 2 _) 3 _) 4 _]
  simp
theorem results_entry {fn : Func} {p u : Tmp} (h : fn.results = #[.cell p 60, .tmp u]) (tmps : Array Value) (w : World) (b : Nat) (e : En) (z : Value) (hb : tmps.getD p undef = .pointer (some ⟨b, 0, none⟩)) (hu : tmps.getD u undef = z) (hf : Five b e w) :
    (results fn tmps).run Try.prog w = .ok (.tuple #[enV e, z]) w := by
  have hb' : tmps[p]?.getD undef = .pointer (some ⟨b, 0, none⟩) := by simpa using hb
  have hu' : tmps[u]?.getD undef = z := by simpa using hu
  obtain ⟨h0, h1, h2, h3, h4⟩ := hf.cells
  simp only [results, h]
  go_simp
theorem cnt_all {p : Int} {xs : List En} (h : ∀ x ∈ xs, x.pl < p) : cntF p xs = xs.length := by
  unfold cntF
  rw [List.countP_eq_length]
  intro x hx
  simpa using h x hx
theorem cnt_none {p : Int} {xs : List En} (h : ∀ x ∈ xs, p ≤ x.pl) : cntF p xs = 0 := by
  unfold cntF
  rw [List.countP_eq_zero]
  intro x hx
  have := h x hx
  simp
  omega
/-- The first entry from a place on. -/
def fromF (p : Int) (xs : List En) : Option En := xs[cntF p xs]?
set_option maxHeartbeats 4000000 in
theorem from_any (ao : Option Addr) (cap : Nat) (xs : List En) (p : Int) (w : World) (h : RowE ao cap xs w) (hs : Rises xs) (hl : xs.length ≤ 1000000) :
    Calls Try.prog 33 #[.slice ao xs.length cap, .int .i64 p] w fun r w' => r = .returned (.tuple #[enV ((fromF p xs).getD zE), .bool (fromF p xs).isSome]) ∧ Only (fun _ => False) w w' := by
  have HZ0 : Hid (Five w.heap.size zE (w.alloc (.cells #[.int .i64 0, .int .i64 0, .string ⟨#[]⟩, .int .i64 0, .int .i64 0] 60))) := Lib.hid (Five.new w zE)
  have HO0 : Hid (Only (fun _ => False) w (w.alloc (.cells #[.int .i64 0, .int .i64 0, .string ⟨#[]⟩, .int .i64 0, .int .i64 0] 60))) := Lib.hid (Only.alloc _ _ _)
  have HFD : Hid (∀ W, Only (fun _ => False) w W → Calls Try.prog 34 #[.slice ao xs.length cap, .int .i64 p] W fun r w' => r = .returned (.int .i64 (cntF p xs : Nat)) ∧ Only (fun _ => False) W w') := Lib.hid (fun W o => find_any ao cap xs p W (h.later o) hs hl)
  have HC : Hid (∀ W, Only (fun _ => False) w W → ∀ t x, xs[t]? = some x → ∃ g, ao = some ⟨g, 0, none⟩ ∧ g < W.heap.size ∧ W.cell? ⟨g, t * 5, none⟩ = some (.int .i64 x.id) ∧ W.cell? ⟨g, t * 5 + 1, none⟩ = some (.int .i64 x.key.k) ∧ W.cell? ⟨g, t * 5 + 2, none⟩ = some (.string x.key.s) ∧ W.cell? ⟨g, t * 5 + 3, none⟩ = some (.int .i64 x.key.n) ∧ W.cell? ⟨g, t * 5 + 4, none⟩ = some (.int .i64 x.pl)) := Lib.hid (fun W o t x hx => RowE.cells (h.later o) hx)
  have hle := cnt_le p xs
  obtain ⟨F, hF⟩ : ∃ F, fromF p xs = F := ⟨_, rfl⟩
  rw [hF]
  have HF : Hid (xs[cntF p xs]? = F) := Lib.hid hF
  have HLT : Hid (cntF p xs < xs.length → xs[cntF p xs]?.isSome = true) := Lib.hid (fun h => by rw [List.getElem?_eq_getElem h]; rfl)
  have HNO : Hid (¬ cntF p xs < xs.length → xs[cntF p xs]? = none) := Lib.hid (fun h => List.getElem?_eq_none (by omega))
  clear h hs hF
  generalize cntF p xs = c at *
  generalize xs.length = n at *
  go_enter Try.func33, Try.ntmps33
  go_wp2_with fail
  generalize w.alloc (.cells #[.int .i64 0, .int .i64 0, .string ⟨#[]⟩, .int .i64 0, .int .i64 0] 60) = E at *
  refine (HFD.out _ HO0.out).mono ?_
  rintro r w1 ⟨rfl, ho1⟩
  have HO1 := Lib.hid (HO0.out.same ho1)
  have HZ1 := Lib.hid (HZ0.out.only ho1 (fun e => e))
  clear ho1
  obtain ⟨z0, z1, z2, z3, z4⟩ := HZ1.out.cells
  obtain ⟨f0, f1, f2, f3, f4⟩ := HZ1.out.free
  by_cases hc : c < n
  · obtain ⟨x, hx⟩ : ∃ x, xs[c]? = some x := Option.isSome_iff_exists.1 (HLT.out hc)
    obtain rfl : F = some x := HF.out.symm.trans hx
    obtain ⟨g, rfl, hgl, c0, c1, c2, c3, c4⟩ := HC.out _ HO1.out _ _ hx
    have hne : ((c : Int) == (n : Int)) = false := by simp; omega
    have hi0 : (0 : Int) ≤ (c : Int) := by omega
    have hi1 : (c : Int) < (n : Int) := by omega
    have HS := Lib.hid (HZ1.out.set x)
    clear hx hle
    go_wp2_with fail
    refine bodyPost_ret (v := .tuple #[enV x, .bool true]) (results_entry rfl _ _ w.heap.size x _ rfl rfl HS.out.1) rfl ?_
    exact ⟨rfl, Only.cut HO1.out HS.out.2 (fun k e => by omega)⟩
  · have hcn : c = n := by omega
    subst hcn
    obtain rfl : F = none := HF.out.symm.trans (HNO.out hc)
    have heq : ((c : Int) == (c : Int)) = true := by simp
    have HS := Lib.hid (HZ1.out.set zE)
    clear hc hle
    go_wp2_with fail
    refine bodyPost_ret (v := .tuple #[enV zE, .bool false]) (results_entry rfl _ _ w.heap.size zE _ rfl rfl HS.out.1) rfl ?_
    exact ⟨rfl, Only.cut HO1.out HS.out.2 (fun k e => by omega)⟩
/-- A row with an entry more, behind all others. -/
theorem with_back (ao : Option Addr) (cap : Nat) (xs : List En) (e : En) (w : World) (h : RowE ao cap xs w) (hs : Rises xs) (hl : xs.length ≤ 1000000) (hp : ∀ x ∈ xs, x.pl < e.pl) :
    Calls Try.prog 30 #[.slice ao xs.length cap, enV e] w (AnsRow ao (xs ++ [e]) w) :=
  with_pos ao cap xs (xs ++ [e]) e xs.length w h hs hl (cnt_all hp) (fun W vb h' hv _ => insert_back ao cap xs e vb W h' hv hl)
/-- And ahead of them. -/
theorem with_front (ao : Option Addr) (cap : Nat) (xs : List En) (e : En) (w : World) (h : RowE ao cap xs w) (hs : Rises xs) (hl : xs.length ≤ 1000000) (hp : ∀ x ∈ xs, e.pl < x.pl) :
    Calls Try.prog 30 #[.slice ao xs.length cap, enV e] w (AnsRow ao (e :: xs) w) :=
  with_pos ao cap xs (e :: xs) e 0 w h hs hl (cnt_none (fun x hx => Int.le_of_lt (hp x hx))) (fun W vb h' hv hne => insert_front ao cap xs e vb W h' hv hl hne)
end Go.Proofs.Ythgjedcelcanbaa.idx
