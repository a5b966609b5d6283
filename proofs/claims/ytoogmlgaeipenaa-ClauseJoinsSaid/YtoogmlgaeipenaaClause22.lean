/- Clauses: what must come of every program: the term. -/
import Derived.Deep.RegionHeld3
import Derived.Deep.CutRange
import Derived.Deep.DeepCutAuto
import Derived.Test.YtoogmlgaeipenaaClause21
namespace Go.Proofs.Ytoogmlgaeipenaa.terms
set_option maxRecDepth 100000
open Go.RowKit Go.Proofs.Ytoogmlgaeipenaa.own Go.Maps
theorem From_any (t : T) (ao : Option Addr) (cap : Nat) (w : World) (hs : t.Sane) (hl : Lies w ao t.l) (hz : t.size ≤ 900000) : Calls Try.prog 16 #[tv t ao cap] w (AnsFrom (fromF t) w) := by
  unfold fromF
  by_cases h : rcheckF t = 0
  · rw [if_pos h]
    exact From_ok t ao cap w hs hl (rcheck_iff.1 h)
  · rw [if_neg h]
    exact From_not t ao cap w hs hl hz (fun e => h (rcheck_iff.2 e))
def nA : ByteArray := ⟨#[97]⟩
def nB : ByteArray := ⟨#[98]⟩
def sVar (n : Int) : T := .mk 1 n ⟨#[]⟩ []
def tB1 : T := .mk 4 0 nComma [sAtom nB, sAtom nCut]
def tB2 : T := .mk 4 0 nComma [tB1, sVar 5]
def tCl : T := .mk 4 0 nIf [sAtom nA, tB2]
theorem rvarC (n : Int) (w : World) : Calls Try.prog 26 #[.int .i64 n] w fun e w' => e = .returned (.agg #[.int .i64 1, .int .i64 n, .string ⟨#[]⟩, .slice none 0 0]) ∧ Only (fun _ => False) w w' := rvar_any n w
theorem at1 (w : World) (o : Obj) : (w.alloc o).heap[w.heap.size]? = some o := World.alloc_heap_new w o
theorem at20 (w : World) (o p : Obj) : ((w.alloc o).alloc p).heap[w.heap.size]? = some o := by
  rw [Below.heap_alloc _ _ _ (by simp)]; exact at1 w o
theorem at21 (w : World) (o p : Obj) : ((w.alloc o).alloc p).heap[w.heap.size + 1]? = some p := by
  have := at1 (w.alloc o) p
  rwa [show (w.alloc o).heap.size = w.heap.size + 1 by simp] at this
theorem at1d (w : World) (o : Obj) : (w.alloc o).drew.heap[w.heap.size]? = some o := at1 w o
/-- A compound of two that lie in a block, in whatever world. -/
theorem rComp_blk {P : Nat → Prop} (s : ByteArray) (x y : T) (a b : Option Addr) (p q : Nat) (W : World) (k : Nat) (hk : W.heap[k]? = some (.cells #[.int .i64 x.k, .int .i64 x.n, .string x.s, .slice a x.l.length p, .int .i64 y.k, .int .i64 y.n, .string y.s, .slice b y.l.length q] 24 (0, 0))) (hs : s.size ≤ maxLen) (hx : x.Sane) (hy : y.Sane) (hl : Row P W a x.l) (hl' : Row P W b y.l) (hP : ∀ q, P q → q < W.heap.size) :
    Calls Try.prog 13 #[.string s, .slice (some ⟨k, 0, none⟩) 2 2] W fun e w' => ∃ ao' cap', e = .returned (.agg #[.int .i64 4, .int .i64 0, .string s, .slice ao' 2 cap']) ∧ Row (fun q => (q = k ∨ P q) ∨ (W.heap.size ≤ q ∧ q < w'.heap.size)) w' ao' [x, y] ∧ (∀ q, ((q = k ∨ P q) ∨ (W.heap.size ≤ q ∧ q < w'.heap.size)) → q < w'.heap.size) ∧ Only (fun _ => False) W w' := by
  have hr : Row (fun q => q = k ∨ P q) W (some ⟨k, 0, none⟩) [x, y] := Row.ofBlock (its := [⟨x, a, p⟩, ⟨y, b, q⟩]) (P := fun q => q = k ∨ P q) hk rfl (.inl rfl) (fun i z hz => by
    match i, hz with
    | 0, hz => cases hz; exact ⟨hx, hl.mono (fun _ h => .inr h)⟩
    | 1, hz => cases hz; exact ⟨hy, hl'.mono (fun _ h => .inr h)⟩)
  refine (rComp_row s [x, y] W (some ⟨k, 0, none⟩) 2 hs hr (fun q hq => by rcases hq with rfl | h; exact lt_of_block hk; exact hP q h) (by simp)).mono ?_
  rintro e w' ⟨ao', cap', h1, h2, _, h4⟩
  refine ⟨ao', cap', h1, h2, fun q hq => ?_, h4⟩
  rcases hq with (rfl | h) | h
  · exact Nat.lt_of_lt_of_le (lt_of_block hk) h4.size
  · exact Nat.lt_of_lt_of_le (hP q h) h4.size
  · exact h.2
theorem sane_var (n : Int) (h : Fits n) : (sVar n).Sane := ⟨fits_k (k := 1) (by decide), h, Nat.zero_le _, Nat.zero_le _⟩
theorem sane_B1 : tB1.Sane := sane_comp (by decide +kernel) (by show 2 ≤ maxLen; exact small_lit (by omega))
theorem sane_B2 : tB2.Sane := sane_comp (by decide +kernel) (by show 2 ≤ maxLen; exact small_lit (by omega))
theorem sane_Cl : tCl.Sane := sane_comp (by decide +kernel) (by show 2 ≤ maxLen; exact small_lit (by omega))
theorem rc_B1 (W : World) (k : Nat) (hk : W.heap[k]? = some (.cells #[.int .i64 3, .int .i64 0, .string ⟨#[98]⟩, .slice none 0 0, .int .i64 3, .int .i64 0, .string ⟨#[33]⟩, .slice none 0 0] 24 (0, 0))) :
    Calls Try.prog 13 #[.string ⟨#[44]⟩, .slice (some ⟨k, 0, none⟩) 2 2] W fun e w' => ∃ a c, e = .returned (.agg #[.int .i64 4, .int .i64 0, .string ⟨#[44]⟩, .slice a 2 c]) ∧ Row (fun q => (q = k ∨ no q) ∨ (W.heap.size ≤ q ∧ q < w'.heap.size)) w' a tB1.l ∧ (∀ q, ((q = k ∨ no q) ∨ (W.heap.size ≤ q ∧ q < w'.heap.size)) → q < w'.heap.size) ∧ Only (fun _ => False) W w' :=
  rComp_blk nComma (sAtom nB) (sAtom nCut) none none 0 0 W k hk (by decide +kernel) (sane_atom (by decide +kernel)) (sane_atom (by decide +kernel)) (Row.nil _ _ _) (Row.nil _ _ _) no_lt
theorem rc_B2 {P : Nat → Prop} (a : Option Addr) (c : Nat) (W : World) (k : Nat) (hk : W.heap[k]? = some (.cells #[.int .i64 4, .int .i64 0, .string ⟨#[44]⟩, .slice a 2 c, .int .i64 1, .int .i64 5, .string ⟨#[]⟩, .slice none 0 0] 24 (0, 0))) (hl : Row P W a tB1.l) (hP : ∀ q, P q → q < W.heap.size) :
    Calls Try.prog 13 #[.string ⟨#[44]⟩, .slice (some ⟨k, 0, none⟩) 2 2] W fun e w' => ∃ a c, e = .returned (.agg #[.int .i64 4, .int .i64 0, .string ⟨#[44]⟩, .slice a 2 c]) ∧ Row (fun q => (q = k ∨ P q) ∨ (W.heap.size ≤ q ∧ q < w'.heap.size)) w' a tB2.l ∧ (∀ q, ((q = k ∨ P q) ∨ (W.heap.size ≤ q ∧ q < w'.heap.size)) → q < w'.heap.size) ∧ Only (fun _ => False) W w' :=
  rComp_blk nComma tB1 (sVar 5) a none c 0 W k hk (by decide +kernel) sane_B1 (sane_var 5 ⟨by omega, by omega⟩) hl (Row.nil _ _ _) hP
theorem rc_Cl {P : Nat → Prop} (a : Option Addr) (c : Nat) (W : World) (k : Nat) (hk : W.heap[k]? = some (.cells #[.int .i64 3, .int .i64 0, .string ⟨#[97]⟩, .slice none 0 0, .int .i64 4, .int .i64 0, .string ⟨#[44]⟩, .slice a 2 c] 24 (0, 0))) (hl : Row P W a tB2.l) (hP : ∀ q, P q → q < W.heap.size) :
    Calls Try.prog 13 #[.string ⟨#[58, 45]⟩, .slice (some ⟨k, 0, none⟩) 2 2] W fun e w' => ∃ a c, e = .returned (.agg #[.int .i64 4, .int .i64 0, .string ⟨#[58, 45]⟩, .slice a 2 c]) ∧ Row (fun q => (q = k ∨ P q) ∨ (W.heap.size ≤ q ∧ q < w'.heap.size)) w' a tCl.l ∧ (∀ q, ((q = k ∨ P q) ∨ (W.heap.size ≤ q ∧ q < w'.heap.size)) → q < w'.heap.size) ∧ Only (fun _ => False) W w' :=
  rComp_blk nIf (sAtom nA) tB2 none a 0 c W k hk (by decide +kernel) (sane_atom (by decide +kernel)) sane_B2 (Row.nil _ _ _) hl hP
/-- The atoms a and b in their boxes. -/
structure AB (b1 b2 : Nat) (w W : World) : Prop where
  o : Only (fun _ => False) w W
  a : Quad b1 (.int .i64 3) (.int .i64 0) (.string ⟨#[97]⟩) (.slice none 0 0) W
  b : Quad b2 (.int .i64 3) (.int .i64 0) (.string ⟨#[98]⟩) (.slice none 0 0) W
theorem AB.later {b1 b2 : Nat} {w W W' : World} (h : AB b1 b2 w W) (ho : Only (fun _ => False) W W') : AB b1 b2 w W' := ⟨h.o.same ho, h.a.only ho (fun e => e), h.b.only ho (fun e => e)⟩
/-- The clause's term in its box. -/
structure ClT (b1 b2 bt : Nat) (a : Option Addr) (c : Nat) (w W : World) : Prop where
  ab : AB b1 b2 w W
  q : Quad bt (.int .i64 4) (.int .i64 0) (.string ⟨#[58, 45]⟩) (.slice a 2 c) W
  l : Lies W a tCl.l
def gsC : List T := [sAtom nB, sAtom nCut, sVar 0]
theorem from_Cl : fromF tCl = .cl (sAtom nA) gsC 1 := by kernel_rfl
theorem from_V : fromF (sVar 1) = .ball (sAtom nInst) := by kernel_rfl
def tAB : T := .mk 4 0 nA [sAtom nB]
theorem add_AB : addF (sAtom nA) [sAtom nB] = .inr tAB := by kernel_rfl
theorem cl_back : clF (backT (sAtom nA) gsC) = .mk 4 0 nIf [sAtom nA, joinF [sAtom nB, sAtom nCut] (sVar 0)] := by kernel_rfl
theorem size_AB : (backT (sAtom nA) gsC).size ≤ 900000 := by decide +kernel
theorem kinds_C {gl : List Gl} {P : Nat → Prop} {W : World} (hg : GoodG P W gl) (he : gl.map (·.x.t) = gsC) : ∃ y0 y1 y2, gl = [y0, y1, y2] ∧ y0.k = 1 ∧ y1.k = 2 ∧ y2.k = 4 := by
  have hl : gl.length = 3 := by rw [← List.length_map (f := fun g : Gl => g.x.t), he]; rfl
  match gl, hl, he with
  | [y0, y1, y2], _, he =>
    simp only [List.map_cons, List.map_nil, gsC, List.cons.injEq, and_true] at he
    refine ⟨y0, y1, y2, rfl, ?_, ?_, ?_⟩
    · rw [(hg y0 (by simp)).1, he.1]; kernel_rfl
    · rw [(hg y1 (by simp)).1, he.2.1]; kernel_rfl
    · rw [(hg y2 (by simp)).1, he.2.2]; kernel_rfl
theorem live_from (a : Option Addr) (c : Nat) (W : World) (hl : Lies W a tCl.l) : Calls Try.prog 16 #[.agg #[.int .i64 4, .int .i64 0, .string ⟨#[58, 45]⟩, .slice a 2 c]] W fun e w' => ∃ hho hhc g gc gl, e = .returned (.tuple #[.agg #[.int .i64 3, .int .i64 0, .string ⟨#[97]⟩, .slice hho 0 hhc, .slice (some ⟨g, 0, none⟩) 3 gc, .int .i64 1], .agg #[.int .i64 0, .int .i64 0, .string ⟨#[]⟩, .slice none 0 0], .bool true]) ∧ (ClI (sAtom nA) gsC hho (some ⟨g, 0, none⟩) gc gl w' ∧ gl.length = 3) ∧ (w'.cell? ⟨g, 0, none⟩ = some (.int .i64 1) ∧ w'.cell? ⟨g, 5, none⟩ = some (.int .i64 2) ∧ w'.cell? ⟨g, 10, none⟩ = some (.int .i64 4)) ∧ g < w'.heap.size ∧ Only (fun _ => False) W w' := by
  have h := From_any tCl a c W sane_Cl hl (by decide +kernel)
  rw [from_Cl] at h
  refine h.mono ?_
  rintro e w' ⟨hho, hhc, go, gc, gl, rfl, hci, ho⟩
  obtain ⟨y0, y1, y2, rfl, k0, k1, k2⟩ := kinds_C hci.good hci.eq
  obtain ⟨g, rfl, _, h0⟩ := hci.row.at liesG 0 y0 rfl
  obtain ⟨g', hg', _, h1⟩ := hci.row.at liesG 1 y1 rfl
  cases hg'
  obtain ⟨g', hg', _, h2⟩ := hci.row.at liesG 2 y2 rfl
  cases hg'
  refine ⟨hho, hhc, g, gc, [y0, y1, y2], rfl, ⟨hci, rfl⟩, ⟨?_, ?_, ?_⟩, (hci.row.head _ rfl).2.2, ho⟩
  · have := (h0 0 (by omega)).1
    rw [← k0]; exact this
  · have := (h1 0 (by omega)).1
    rw [← k1]; exact this
  · have := (h2 0 (by omega)).1
    rw [← k2]; exact this
theorem live_var (W : World) : Calls Try.prog 16 #[.agg #[.int .i64 1, .int .i64 1, .string ⟨#[]⟩, .slice none 0 0]] W fun e w' => ∃ a p, e = .returned (.tuple #[.agg #[.int .i64 0, .int .i64 0, .string ⟨#[]⟩, .slice none 0 0, .slice none 0 0, .int .i64 0], .agg #[.int .i64 4, .int .i64 0, .string ⟨#[101, 114, 114, 111, 114]⟩, .slice a 1 p], .bool false]) ∧ Only (fun _ => False) W w' := by
  have h := From_any (sVar 1) none 0 W (sane_var 1 ⟨by omega, by omega⟩) (Row.nil _ _ _) (by decide +kernel)
  rw [from_V] at h
  refine h.mono ?_
  rintro e w' ⟨a, p, rfl, _, ho⟩
  exact ⟨a, p, rfl, ho⟩
theorem live_add (W : World) : Calls Try.prog 22 #[.agg #[.int .i64 3, .int .i64 0, .string ⟨#[97]⟩, .slice none 0 0], .slice (some ⟨W.heap.size, 0, none⟩) 1 1] (W.alloc (.cells #[.int .i64 3, .int .i64 0, .string ⟨#[98]⟩, .slice none 0 0] 24)) fun e w' => ∃ a8 p8, e = .returned (.tuple #[.agg #[.int .i64 4, .int .i64 0, .string ⟨#[97]⟩, .slice a8 1 p8], .agg #[.int .i64 0, .int .i64 0, .string ⟨#[]⟩, .slice none 0 0], .bool true]) ∧ Lies w' a8 tAB.l ∧ Only (fun _ => False) W w' := by
  have hb := at1 W (.cells #[.int .i64 3, .int .i64 0, .string ⟨#[98]⟩, .slice none 0 0] 24)
  have hr : Lies (W.alloc (.cells #[.int .i64 3, .int .i64 0, .string ⟨#[98]⟩, .slice none 0 0] 24)) (some ⟨W.heap.size, 0, none⟩) [sAtom nB] := Row.leaves hb rfl (fun t ht => by rw [List.mem_singleton.1 ht]; exact ⟨sane_atom (by decide +kernel), rfl⟩)
  have h := Add_any (sAtom nA) [sAtom nB] none (some ⟨W.heap.size, 0, none⟩) 0 1 _ (sane_atom (by decide +kernel)) (Row.nil _ _ _) hr (by decide +kernel) (by simp) (by decide +kernel)
  rw [add_AB] at h
  refine h.mono ?_
  rintro e w' ⟨a, p, rfl, hl, ho⟩
  exact ⟨a, p, rfl, hl, (Only.alloc _ _ _).same ho⟩
theorem live_comp (W : World) : Calls Try.prog 13 #[.string ⟨#[97]⟩, .slice (some ⟨W.heap.size, 0, none⟩) 1 1] (W.alloc (.cells #[.int .i64 3, .int .i64 0, .string ⟨#[98]⟩, .slice none 0 0] 24)) fun e w' => ∃ a p, e = .returned (.agg #[.int .i64 4, .int .i64 0, .string ⟨#[97]⟩, .slice a 1 p]) ∧ Lies w' a tAB.l ∧ Only (fun _ => False) W w' := by
  refine (rComp_one (P := no) nA (sAtom nB) none 0 W _ rfl (by decide +kernel) (sane_atom (by decide +kernel)) (Row.nil _ _ _) no_lt).mono ?_
  rintro e w' ⟨a, p, rfl, hl, ho⟩
  exact ⟨a, p, rfl, lies_no hl, ho⟩
theorem live_comp2 (W : World) (k : Nat) (hk : W.heap[k]? = some (.cells #[.int .i64 3, .int .i64 0, .string ⟨#[98]⟩, .slice none 0 0] 24 (0, 0))) : Calls Try.prog 13 #[.string ⟨#[97]⟩, .slice (some ⟨k, 0, none⟩) 1 1] W fun e w' => ∃ a p, e = .returned (.agg #[.int .i64 4, .int .i64 0, .string ⟨#[97]⟩, .slice a 1 p]) ∧ Lies w' a tAB.l ∧ Only (fun _ => False) W w' := by
  have hr : Lies W (some ⟨k, 0, none⟩) [sAtom nB] := Row.leaves hk rfl (fun t ht => by rw [List.mem_singleton.1 ht]; exact ⟨sane_atom (by decide +kernel), rfl⟩)
  refine (rComp_any nA [sAtom nB] W (some ⟨k, 0, none⟩) 1 (by decide +kernel) hr (by simp)).mono ?_
  rintro e w' ⟨ao', cap', h1, h2, _, h4⟩
  exact ⟨ao', cap', h1, h2, h4⟩
theorem live_exact (W : World) (a b : Option Addr) (p q : Nat) (hl : Lies W a tAB.l) (hl' : Lies W b tAB.l) : Calls Try.prog 18 #[.agg #[.int .i64 4, .int .i64 0, .string ⟨#[97]⟩, .slice a 1 p], .agg #[.int .i64 4, .int .i64 0, .string ⟨#[97]⟩, .slice b 1 q]] W fun e w' => e = .returned (.bool true) ∧ Only (fun _ => False) W w' := by
  have hs : tAB.Sane := sane_comp (by decide +kernel) (by show 1 ≤ maxLen; exact small_lit (by omega))
  have := exact_any tAB tAB W a b p q hl hs hl' hs
  rwa [T.eqb_refl] at this
theorem live_b2 (W : World) : Calls Try.prog 24 #[.string ⟨#[105, 115]⟩, .int .i64 2] W fun e w' => e = .returned (.bool true) ∧ w' = W := by
  have := Builtin_any ⟨#[105, 115]⟩ 2 W
  rwa [show builtB ⟨#[105, 115]⟩ 2 = true by kernel_rfl] at this
theorem live_b3 (W : World) : Calls Try.prog 24 #[.string ⟨#[105, 115]⟩, .int .i64 3] W fun e w' => e = .returned (.bool false) ∧ w' = W := by
  have := Builtin_any ⟨#[105, 115]⟩ 3 W
  rwa [show builtB ⟨#[105, 115]⟩ 3 = false by kernel_rfl] at this
theorem live_ca (W : World) : Calls Try.prog 48 #[.agg #[.int .i64 3, .int .i64 0, .string ⟨#[97]⟩, .slice none 0 0]] W fun e w' => e = .returned (.bool true) ∧ Only (fun _ => False) W w' := by
  have := Callable_any (sAtom nA) none 0 W (sane_atom (by decide +kernel)) (Row.nil _ _ _) (by decide +kernel)
  rwa [show callB (sAtom nA) = true by kernel_rfl] at this
theorem live_ci (W : World) : Calls Try.prog 48 #[.agg #[.int .i64 2, .int .i64 1, .string ⟨#[]⟩, .slice none 0 0]] W fun e w' => e = .returned (.bool false) ∧ Only (fun _ => False) W w' := by
  have := Callable_any (sInt 1) none 0 W (sane_int ⟨by omega, by omega⟩) (Row.nil _ _ _) (by decide +kernel)
  rwa [show callB (sInt 1) = false by kernel_rfl] at this
theorem live_back (hho : Option Addr) (hhc g gc : Nat) (gl : List Gl) (W : World) (H : ClI (sAtom nA) gsC hho (some ⟨g, 0, none⟩) gc gl W ∧ gl.length = 3) : Calls Try.prog 17 #[.agg #[.int .i64 3, .int .i64 0, .string ⟨#[97]⟩, .slice hho 0 hhc, .slice (some ⟨g, 0, none⟩) 3 gc, .int .i64 1]] W fun e w' => ∃ a p, e = .returned (.agg #[.int .i64 4, .int .i64 0, .string ⟨#[58, 45]⟩, .slice a 2 p]) ∧ Only (fun _ => False) W w' := by
  have h := Back_any (sAtom nA) gsC hho hhc (some ⟨g, 0, none⟩) gc gl 1 W H.1 (by omega) size_AB
  rw [cl_back, H.2] at h
  refine h.mono ?_
  rintro e w' ⟨a, p, rfl, _, ho⟩
  exact ⟨a, p, rfl, ho⟩
theorem rintC (n : Int) (w : World) : Calls Try.prog 9 #[.int .i64 n] w fun e w' => e = .returned (.agg #[.int .i64 2, .int .i64 n, .string ⟨#[]⟩, .slice none 0 0]) ∧ Only (fun _ => False) w w' := rint_any n w
set_option maxHeartbeats 32000000 in
theorem clauseLives_any (w : World) : Calls Try.prog 15 #[] w fun e w' => e = .returned (.bool true) ∧ Only (fun _ => False) w w' := by
  go_enter Try.func15, Try.ntmps15
  go_wp2_with fail
  refine (ratom_plain _ _).mono ?_
  rintro e w0 ⟨rfl, ho0⟩
  go_wp2_with fail
  refine (ratom_plain _ _).mono ?_
  rintro e w1 ⟨rfl, ho1⟩
  have HAB : Hid (AB w1.heap.size (w1.heap.size + 1) w ((w1.alloc (.cells #[.int .i64 3, .int .i64 0, .string ⟨#[97]⟩, .slice none 0 0] 24)).alloc (.cells #[.int .i64 3, .int .i64 0, .string ⟨#[98]⟩, .slice none 0 0] 24))) := Lib.hid ⟨(ho0.same ho1).same ((Only.alloc _ _ _).same (Only.alloc _ _ _)), at20 _ _ _, at21 _ _ _⟩
  clear ho0 ho1
  go_upto_region 2 with fail
  generalize (w1.alloc (.cells #[.int .i64 3, .int .i64 0, .string ⟨#[97]⟩, .slice none 0 0] 24)).alloc (.cells #[.int .i64 3, .int .i64 0, .string ⟨#[98]⟩, .slice none 0 0] 24) = w2 at *
  generalize w1.heap.size + 1 = b2 at *
  generalize w1.heap.size = b1 at *
  go_cut [3] from 15 to 25 (fun t3 wx => ∃ bt a c, t3 = .pointer (some ⟨bt, 0, none⟩) ∧ Hid (ClT b1 b2 bt a c w wx))
  case first =>
    have HK : Hid (∀ W', Only (fun _ => False) w2 W' → W'.cell? ⟨b1, 0, none⟩ = some (.int .i64 3) ∧ W'.cell? ⟨b1, 1, none⟩ = some (.int .i64 0) ∧ W'.cell? ⟨b1, 2, none⟩ = some (.string ⟨#[97]⟩) ∧ W'.cell? ⟨b1, 3, none⟩ = some (.slice none 0 0) ∧ W'.cell? ⟨b2, 0, none⟩ = some (.int .i64 3) ∧ W'.cell? ⟨b2, 1, none⟩ = some (.int .i64 0) ∧ W'.cell? ⟨b2, 2, none⟩ = some (.string ⟨#[98]⟩) ∧ W'.cell? ⟨b2, 3, none⟩ = some (.slice none 0 0)) := Lib.hid (fun W' ho => by
      obtain ⟨q0, q1, q2, q3⟩ := (HAB.out.later ho).a.cells
      obtain ⟨r0, r1, r2, r3⟩ := (HAB.out.later ho).b.cells
      exact ⟨q0, q1, q2, q3, r0, r1, r2, r3⟩)
    go_region_held3 (fun W' => W'.cell? ⟨b1, 0, none⟩ = some (.int .i64 3) ∧ W'.cell? ⟨b1, 1, none⟩ = some (.int .i64 0) ∧ W'.cell? ⟨b1, 2, none⟩ = some (.string ⟨#[97]⟩) ∧ W'.cell? ⟨b1, 3, none⟩ = some (.slice none 0 0) ∧ W'.cell? ⟨b2, 0, none⟩ = some (.int .i64 3) ∧ W'.cell? ⟨b2, 1, none⟩ = some (.int .i64 0) ∧ W'.cell? ⟨b2, 2, none⟩ = some (.string ⟨#[98]⟩) ∧ W'.cell? ⟨b2, 3, none⟩ = some (.slice none 0 0)) (with_reducible first | exact HK.out _ HOS.out | exact HK.out _ HO24.out | exact HK.out _ (HO24.out.same (by with_reducible first | exact Only.refl _ _ | exact Only.alloc _ _ _ | exact (Only.alloc _ _ _).same (Only.alloc _ _ _))) | exact HK.out _ HO22.out | exact HK.out _ (HO22.out.same (by with_reducible first | exact Only.refl _ _ | exact Only.alloc _ _ _ | exact (Only.alloc _ _ _).same (Only.alloc _ _ _))) | exact HK.out _ HO20.out | exact HK.out _ (HO20.out.same (by with_reducible first | exact Only.refl _ _ | exact Only.alloc _ _ _ | exact (Only.alloc _ _ _).same (Only.alloc _ _ _))) | exact HK.out _ HO19.out | exact HK.out _ (HO19.out.same (by with_reducible first | exact Only.refl _ _ | exact Only.alloc _ _ _ | exact (Only.alloc _ _ _).same (Only.alloc _ _ _))) | exact HK.out _ HO17.out | exact HK.out _ (HO17.out.same (by with_reducible first | exact Only.refl _ _ | exact Only.alloc _ _ _ | exact (Only.alloc _ _ _).same (Only.alloc _ _ _))) | exact HK.out _ (by with_reducible first | exact Only.drew _ _ | exact (Only.alloc _ _ _).same (Only.drew _ _))) (first
      | (go_at_call 38; refine (ratom_plain _ _).mono ?_; rintro e w17 ⟨rfl, h17⟩; have HW17 := Lib.hid h17; have HO17 : Hid (Only (fun _ => False) w2 w17) := Lib.hid (Only.same (by with_reducible first | exact Only.drew _ _ | exact (Only.alloc _ _ _).same (Only.drew _ _)) h17); (first | (have HZ17 : Hid (Zero (w2.heap.size) w17) := Lib.hid (blk_later (at1d _ _) HW17.out)) | skip); clear h17)
      | (go_at_call 13; (with_reducible refine (rc_B1 _ _ (by with_reducible first | exact at1 _ _ | exact at20 _ _ _ | exact at21 _ _ _)).mono ?_); rintro e w19 ⟨a19, c19, rfl, hl19, hq19, h19⟩; have HW19 := Lib.hid h19; have HS19 : Hid (Only (fun _ => False) w17 w19) := Lib.hid (Only.same (by with_reducible first | exact Only.refl _ _ | exact Only.alloc _ _ _ | exact (Only.alloc _ _ _).same (Only.alloc _ _ _)) h19); have HO19 := Lib.hid (HO17.out.same HS19.out); have HL19 := Lib.hid hl19; have HLT19 := Lib.hid hq19; clear hq19; (first | (have HZ19 : Hid (Zero _ w19) := Lib.hid (HZ17.out.only HS19.out (fun e => e))) | (have HZ19 : Hid (Zero (w17.heap.size) w19) := Lib.hid (blk_later (at20 _ _ _) HW19.out)) | (have HZ19 : Hid (Zero (w17.heap.size + 1) w19) := Lib.hid (blk_later (at21 _ _ _) HW19.out)) | skip); clear hl19 h19)
      | (go_at_call 26; refine (rvarC _ _).mono ?_; rintro e w20 ⟨rfl, h20⟩; have HW20 := Lib.hid h20; have HS20 : Hid (Only (fun _ => False) w19 w20) := Lib.hid (Only.same (by with_reducible first | exact Only.refl _ _ | exact Only.alloc _ _ _ | exact (Only.alloc _ _ _).same (Only.alloc _ _ _)) h20); have HO20 := Lib.hid (HO19.out.same HS20.out); (first | (have HZ20 : Hid (Zero _ w20) := Lib.hid (HZ19.out.only HS20.out (fun e => e))) | (have HZ20 : Hid (Zero (w19.heap.size) w20) := Lib.hid (blk_later (at1 _ _) HW20.out)) | skip); clear h20)
      | (go_at_call 13; (with_reducible refine (rc_B2 a19 c19 _ _ (by with_reducible first | exact at1 _ _ | exact at20 _ _ _ | exact at21 _ _ _) (HL19.out.only (HS20.out.same (by with_reducible first | exact Only.refl _ _ | exact Only.alloc _ _ _ | exact (Only.alloc _ _ _).same (Only.alloc _ _ _))) HLT19.out (fun _ _ e => e)) (fun q hq => Nat.lt_of_lt_of_le (HLT19.out q hq) (Only.size (HS20.out.same (by with_reducible first | exact Only.refl _ _ | exact Only.alloc _ _ _ | exact (Only.alloc _ _ _).same (Only.alloc _ _ _)))))).mono ?_); rintro e w22 ⟨a22, c22, rfl, hl22, hq22, h22⟩; have HW22 := Lib.hid h22; have HS22 : Hid (Only (fun _ => False) w20 w22) := Lib.hid (Only.same (by with_reducible first | exact Only.refl _ _ | exact Only.alloc _ _ _ | exact (Only.alloc _ _ _).same (Only.alloc _ _ _)) h22); have HO22 := Lib.hid (HO20.out.same HS22.out); have HL22 := Lib.hid hl22; have HLT22 := Lib.hid hq22; clear hq22; (first | (have HZ22 : Hid (Zero _ w22) := Lib.hid (HZ20.out.only HS22.out (fun e => e))) | (have HZ22 : Hid (Zero (w20.heap.size) w22) := Lib.hid (blk_later (at20 _ _ _) HW22.out)) | (have HZ22 : Hid (Zero (w20.heap.size + 1) w22) := Lib.hid (blk_later (at21 _ _ _) HW22.out)) | skip); clear hl22 h22)
      | (go_at_call 13; (with_reducible refine (rc_Cl a22 c22 _ _ (by with_reducible first | exact at1 _ _ | exact at20 _ _ _ | exact at21 _ _ _) (HL22.out.only (by with_reducible first | exact Only.refl _ _ | exact Only.alloc _ _ _ | exact (Only.alloc _ _ _).same (Only.alloc _ _ _)) HLT22.out (fun _ _ e => e)) (fun q hq => Nat.lt_of_lt_of_le (HLT22.out q hq) (Only.size (S := fun _ => False) (by with_reducible first | exact Only.refl _ _ | exact Only.alloc _ _ _ | exact (Only.alloc _ _ _).same (Only.alloc _ _ _))))).mono ?_); rintro e w24 ⟨a24, c24, rfl, hl24, hq24, h24⟩; have HW24 := Lib.hid h24; have HS24 : Hid (Only (fun _ => False) w22 w24) := Lib.hid (Only.same (by with_reducible first | exact Only.refl _ _ | exact Only.alloc _ _ _ | exact (Only.alloc _ _ _).same (Only.alloc _ _ _)) h24); have HO24 := Lib.hid (HO22.out.same HS24.out); have HL24 := Lib.hid hl24; have HLT24 := Lib.hid hq24; clear hq24; (first | (have HZ24 : Hid (Zero _ w24) := Lib.hid (HZ22.out.only HS24.out (fun e => e))) | (have HZ24 : Hid (Zero (w22.heap.size) w24) := Lib.hid (blk_later (at20 _ _ _) HW24.out)) | (have HZ24 : Hid (Zero (w22.heap.size + 1) w24) := Lib.hid (blk_later (at21 _ _ _) HW24.out)) | skip); clear hl24 h24; (first | (have HST := Lib.hid (HZ24.out.set (.int .i64 4) (.int .i64 0) (.string ⟨#[58, 45]⟩) (.slice a24 2 c24)); have HOS := Lib.hid (Only.cut HO24.out HST.out.2 (fun k e => by have := HO17.out.size; have := HO19.out.size; have := HO20.out.size; have := HO22.out.size; omega)); have HFIN : Hid (ClT b1 b2 _ a24 c24 w _) := Lib.hid ⟨HAB.out.later HOS.out, HST.out.1, (HL24.out.only HST.out.2 HLT24.out (fun q hq e => by have s1 := HW19.out.size; have s2 := HW20.out.size; have s3 := HW22.out.size; have s4 := HW24.out.size; have s5 := HW17.out.size; simp at hq s1 s2 s3 s4 s5 e; omega)).mono (fun q hq => Nat.lt_of_lt_of_le (HLT24.out q hq) HST.out.2.size)⟩; obtain ⟨z0, z1, z2, z3⟩ := HZ24.out.cells; obtain ⟨f0, f1, f2, f3⟩ := HZ24.out.free) | skip)))
    all_goals
      go_wp2_with fail
      go_meet
      first
        | exact ⟨_, a24, c24, rfl, HFIN⟩
        | exact ⟨_, a24, c24, rfl, Lib.hid ⟨HAB.out.later (HO24.out.same (Only.alloc _ _ _)), at1 _ _, (HL24.out.only (Only.alloc (fun _ => False) _ _) HLT24.out (fun _ _ e => e)).mono (fun q hq => Nat.lt_of_lt_of_le (HLT24.out q hq) (Only.alloc (fun _ => False) _ _).size)⟩⟩
  case rest =>
    obtain ⟨bt, a, c, rfl, hC⟩ := hcut
    obtain ⟨c0, c1, c2, c3⟩ := hC.out.q.cells
    go_wp2_with fail
    refine (live_from a c wc hC.out.l).mono ?_
    rintro e w3 ⟨hho, hhc, g, gc, gl, rfl, hci, hk, hgl, ho3⟩
    have o4 : Only (fun _ => False) w3 ((w3.alloc (.cells #[.int .i64 3, .int .i64 0, .string ⟨#[97]⟩, .slice hho 0 hhc, .slice (some ⟨g, 0, none⟩) 3 gc, .int .i64 1] 37)).alloc (.cells #[.int .i64 0, .int .i64 0, .string ⟨#[]⟩, .slice none 0 0] 24)) := (Only.alloc _ _ _).same (Only.alloc _ _ _)
    have HCI : Hid (ClI (sAtom nA) gsC hho (some ⟨g, 0, none⟩) gc gl ((w3.alloc (.cells #[.int .i64 3, .int .i64 0, .string ⟨#[97]⟩, .slice hho 0 hhc, .slice (some ⟨g, 0, none⟩) 3 gc, .int .i64 1] 37)).alloc (.cells #[.int .i64 0, .int .i64 0, .string ⟨#[]⟩, .slice none 0 0] 24)) ∧ gl.length = 3) := Lib.hid ⟨hci.1.later o4, hci.2⟩
    have HXC : Hid (Hex w3.heap.size (.int .i64 3) (.int .i64 0) (.string ⟨#[97]⟩) (.slice hho 0 hhc) (.slice (some ⟨g, 0, none⟩) 3 gc) (.int .i64 1) ((w3.alloc (.cells #[.int .i64 3, .int .i64 0, .string ⟨#[97]⟩, .slice hho 0 hhc, .slice (some ⟨g, 0, none⟩) 3 gc, .int .i64 1] 37)).alloc (.cells #[.int .i64 0, .int .i64 0, .string ⟨#[]⟩, .slice none 0 0] 24))) := Lib.hid (at20 _ _ _)
    have HK4 : Hid (∀ W, Only (fun _ => False) w3 W → W.cell? ⟨g, 0, none⟩ = some (.int .i64 1) ∧ W.cell? ⟨g, 5, none⟩ = some (.int .i64 2) ∧ W.cell? ⟨g, 10, none⟩ = some (.int .i64 4)) := Lib.hid (fun W ho => ⟨(ho.cell (p := ⟨g, 0, none⟩) hgl (fun e => e)).trans hk.1, (ho.cell (p := ⟨g, 5, none⟩) hgl (fun e => e)).trans hk.2.1, (ho.cell (p := ⟨g, 10, none⟩) hgl (fun e => e)).trans hk.2.2⟩)
    have HO4 := Lib.hid o4
    have HAB4 := Lib.hid (hC.out.ab.later (ho3.same o4))
    clear c0 c1 c2 c3 hci hk hgl ho3 o4 hC
    go_wp2_with fail
    generalize (w3.alloc (.cells #[.int .i64 3, .int .i64 0, .string ⟨#[97]⟩, .slice hho 0 hhc, .slice (some ⟨g, 0, none⟩) 3 gc, .int .i64 1] 37)).alloc (.cells #[.int .i64 0, .int .i64 0, .string ⟨#[]⟩, .slice none 0 0] 24) = w4 at *
    generalize w3.heap.size + 1 = bz4 at *
    generalize w3.heap.size = bc at *
    refine (rvarC _ _).mono ?_
    rintro e w5 ⟨rfl, ho5⟩
    have HO5 := Lib.hid ho5
    clear ho5
    go_wp2_with fail
    refine (live_var _).mono ?_
    rintro e w6 ⟨a6, p6, rfl, ho6⟩
    have o7 : Only (fun _ => False) w6 ((w6.alloc (.cells #[.int .i64 0, .int .i64 0, .string ⟨#[]⟩, .slice none 0 0, .slice none 0 0, .int .i64 0] 37)).alloc (.cells #[.int .i64 4, .int .i64 0, .string ⟨#[101, 114, 114, 111, 114]⟩, .slice a6 1 p6] 24)) := (Only.alloc _ _ _).same (Only.alloc _ _ _)
    have HO7 : Hid (Only (fun _ => False) w4 ((w6.alloc (.cells #[.int .i64 0, .int .i64 0, .string ⟨#[]⟩, .slice none 0 0, .slice none 0 0, .int .i64 0] 37)).alloc (.cells #[.int .i64 4, .int .i64 0, .string ⟨#[101, 114, 114, 111, 114]⟩, .slice a6 1 p6] 24))) := Lib.hid ((HO5.out.same ho6).same o7)
    have HBL : Hid (Quad (w6.heap.size + 1) (.int .i64 4) (.int .i64 0) (.string ⟨#[101, 114, 114, 111, 114]⟩) (.slice a6 1 p6) ((w6.alloc (.cells #[.int .i64 0, .int .i64 0, .string ⟨#[]⟩, .slice none 0 0, .slice none 0 0, .int .i64 0] 37)).alloc (.cells #[.int .i64 4, .int .i64 0, .string ⟨#[101, 114, 114, 111, 114]⟩, .slice a6 1 p6] 24))) := Lib.hid (at21 _ _ _)
    have HAB7 := Lib.hid (HAB4.out.later HO7.out)
    have hz7 : ((w6.alloc (.cells #[.int .i64 0, .int .i64 0, .string ⟨#[]⟩, .slice none 0 0, .slice none 0 0, .int .i64 0] 37)).alloc (.cells #[.int .i64 4, .int .i64 0, .string ⟨#[101, 114, 114, 111, 114]⟩, .slice a6 1 p6] 24)).heap.size = w6.heap.size + 1 + 1 := by simp
    obtain ⟨x0, x1, x2, x3⟩ := HAB7.out.a.cells
    obtain ⟨y0, y1, y2, y3⟩ := HAB7.out.b.cells
    clear ho6 o7
    go_wp2_with fail
    generalize (w6.alloc (.cells #[.int .i64 0, .int .i64 0, .string ⟨#[]⟩, .slice none 0 0, .slice none 0 0, .int .i64 0] 37)).alloc (.cells #[.int .i64 4, .int .i64 0, .string ⟨#[101, 114, 114, 111, 114]⟩, .slice a6 1 p6] 24) = w7 at *
    rw [← hz7]
    generalize w6.heap.size + 1 = bb7 at *
    clear hz7
    refine (live_add w7).mono ?_
    rintro e w8 ⟨a8, p8, rfl, hl8, ho8⟩
    have o9 : Only (fun _ => False) w8 ((w8.alloc (.cells #[.int .i64 4, .int .i64 0, .string ⟨#[97]⟩, .slice a8 1 p8] 24)).alloc (.cells #[.int .i64 0, .int .i64 0, .string ⟨#[]⟩, .slice none 0 0] 24)) := (Only.alloc _ _ _).same (Only.alloc _ _ _)
    have HO9 : Hid (Only (fun _ => False) w7 ((w8.alloc (.cells #[.int .i64 4, .int .i64 0, .string ⟨#[97]⟩, .slice a8 1 p8] 24)).alloc (.cells #[.int .i64 0, .int .i64 0, .string ⟨#[]⟩, .slice none 0 0] 24))) := Lib.hid (ho8.same o9)
    have HO49 := Lib.hid (HO7.out.same HO9.out)
    have HQU : Hid (Quad w8.heap.size (.int .i64 4) (.int .i64 0) (.string ⟨#[97]⟩) (.slice a8 1 p8) ((w8.alloc (.cells #[.int .i64 4, .int .i64 0, .string ⟨#[97]⟩, .slice a8 1 p8] 24)).alloc (.cells #[.int .i64 0, .int .i64 0, .string ⟨#[]⟩, .slice none 0 0] 24))) := Lib.hid (at20 _ _ _)
    have HLU : Hid (Lies ((w8.alloc (.cells #[.int .i64 4, .int .i64 0, .string ⟨#[97]⟩, .slice a8 1 p8] 24)).alloc (.cells #[.int .i64 0, .int .i64 0, .string ⟨#[]⟩, .slice none 0 0] 24)) a8 tAB.l) := Lib.hid (hl8.later o9)
    have HBL9 := Lib.hid (HBL.out.only HO9.out (fun e => e))
    have HX9 := Lib.hid (HXC.out.only HO49.out (fun e => e))
    have HAB9 := Lib.hid (HAB7.out.later HO9.out)
    have hz9 : ((w8.alloc (.cells #[.int .i64 4, .int .i64 0, .string ⟨#[97]⟩, .slice a8 1 p8] 24)).alloc (.cells #[.int .i64 0, .int .i64 0, .string ⟨#[]⟩, .slice none 0 0] 24)).heap.size = w8.heap.size + 1 + 1 := by simp
    clear hl8 ho8 o9 x0 x1 x2 x3 y0 y1 y2 y3
    clear hz9
    go_upto_region 6 with fail
    simp only [List.append]
    generalize (w8.alloc (.cells #[.int .i64 4, .int .i64 0, .string ⟨#[97]⟩, .slice a8 1 p8] 24)).alloc (.cells #[.int .i64 0, .int .i64 0, .string ⟨#[]⟩, .slice none 0 0] 24) = w9 at *
    generalize w8.heap.size = bu at *
    have HK9 : Hid (∀ W', Only (fun _ => False) w9 W' → W'.cell? ⟨bc, 0, none⟩ = some (.int .i64 3) ∧ W'.cell? ⟨bc, 1, none⟩ = some (.int .i64 0) ∧ W'.cell? ⟨bc, 2, none⟩ = some (.string ⟨#[97]⟩) ∧ W'.cell? ⟨bc, 3, none⟩ = some (.slice hho 0 hhc) ∧ W'.cell? ⟨bc, 4, none⟩ = some (.slice (some ⟨g, 0, none⟩) 3 gc) ∧ W'.cell? ⟨bc, 5, none⟩ = some (.int .i64 1) ∧ W'.cell? ⟨g, 0, none⟩ = some (.int .i64 1) ∧ W'.cell? ⟨g, 5, none⟩ = some (.int .i64 2) ∧ W'.cell? ⟨g, 10, none⟩ = some (.int .i64 4) ∧ W'.cell? ⟨bb7, 2, none⟩ = some (.string ⟨#[101, 114, 114, 111, 114]⟩) ∧ W'.cell? ⟨bu, 0, none⟩ = some (.int .i64 4) ∧ W'.cell? ⟨bu, 1, none⟩ = some (.int .i64 0) ∧ W'.cell? ⟨bu, 2, none⟩ = some (.string ⟨#[97]⟩) ∧ W'.cell? ⟨bu, 3, none⟩ = some (.slice a8 1 p8) ∧ W'.cell? ⟨b2, 0, none⟩ = some (.int .i64 3) ∧ W'.cell? ⟨b2, 1, none⟩ = some (.int .i64 0) ∧ W'.cell? ⟨b2, 2, none⟩ = some (.string ⟨#[98]⟩) ∧ W'.cell? ⟨b2, 3, none⟩ = some (.slice none 0 0) ∧ W'.cell? ⟨b1, 0, none⟩ = some (.int .i64 3) ∧ W'.cell? ⟨b1, 1, none⟩ = some (.int .i64 0) ∧ W'.cell? ⟨b1, 2, none⟩ = some (.string ⟨#[97]⟩) ∧ W'.cell? ⟨b1, 3, none⟩ = some (.slice none 0 0)) := Lib.hid (fun W' ho => by
      obtain ⟨x0, x1, x2, x3, x4, x5⟩ := (HX9.out.only ho (fun e => e)).cells
      obtain ⟨k0, k1, k2⟩ := HK4.out _ (HO4.out.same (HO49.out.same ho))
      obtain ⟨_, _, bq, _⟩ := (HBL9.out.only ho (fun e => e)).cells
      obtain ⟨u0, u1, u2, u3⟩ := (HQU.out.only ho (fun e => e)).cells
      obtain ⟨y0, y1, y2, y3⟩ := (HAB9.out.later ho).b.cells
      obtain ⟨z0, z1, z2, z3⟩ := (HAB9.out.later ho).a.cells
      exact ⟨x0, x1, x2, x3, x4, x5, k0, k1, k2, bq, u0, u1, u2, u3, y0, y1, y2, y3, z0, z1, z2, z3⟩)
    have hfld : ∀ (a : Option Addr) (p : Nat) (W : World), (Instr.field 24 (.agg #[.int .i64 4, .int .i64 0, .string ⟨#[58, 45]⟩, .slice a 2 p]) 2).run Try.prog W = .ok (.string ⟨#[58, 45]⟩) W := fun a p W => by rfl
    go_region_held3 (fun W' => W'.cell? ⟨bc, 0, none⟩ = some (.int .i64 3) ∧ W'.cell? ⟨bc, 1, none⟩ = some (.int .i64 0) ∧ W'.cell? ⟨bc, 2, none⟩ = some (.string ⟨#[97]⟩) ∧ W'.cell? ⟨bc, 3, none⟩ = some (.slice hho 0 hhc) ∧ W'.cell? ⟨bc, 4, none⟩ = some (.slice (some ⟨g, 0, none⟩) 3 gc) ∧ W'.cell? ⟨bc, 5, none⟩ = some (.int .i64 1) ∧ W'.cell? ⟨g, 0, none⟩ = some (.int .i64 1) ∧ W'.cell? ⟨g, 5, none⟩ = some (.int .i64 2) ∧ W'.cell? ⟨g, 10, none⟩ = some (.int .i64 4) ∧ W'.cell? ⟨bb7, 2, none⟩ = some (.string ⟨#[101, 114, 114, 111, 114]⟩) ∧ W'.cell? ⟨bu, 0, none⟩ = some (.int .i64 4) ∧ W'.cell? ⟨bu, 1, none⟩ = some (.int .i64 0) ∧ W'.cell? ⟨bu, 2, none⟩ = some (.string ⟨#[97]⟩) ∧ W'.cell? ⟨bu, 3, none⟩ = some (.slice a8 1 p8) ∧ W'.cell? ⟨b2, 0, none⟩ = some (.int .i64 3) ∧ W'.cell? ⟨b2, 1, none⟩ = some (.int .i64 0) ∧ W'.cell? ⟨b2, 2, none⟩ = some (.string ⟨#[98]⟩) ∧ W'.cell? ⟨b2, 3, none⟩ = some (.slice none 0 0) ∧ W'.cell? ⟨b1, 0, none⟩ = some (.int .i64 3) ∧ W'.cell? ⟨b1, 1, none⟩ = some (.int .i64 0) ∧ W'.cell? ⟨b1, 2, none⟩ = some (.string ⟨#[97]⟩) ∧ W'.cell? ⟨b1, 3, none⟩ = some (.slice none 0 0)) (with_reducible first | exact HK9.out _ HO16.out | exact HK9.out _ HO15.out | exact HK9.out _ HO14.out | exact HK9.out _ HO13.out | exact HK9.out _ HO11.out | exact HK9.out _ HO10.out | exact HK9.out _ (Only.drew _ _) | exact HK9.out _ ((Only.alloc _ _ _).same (Only.drew _ _))) (first
      | (go_at_call 13; (with_reducible refine (live_comp2 _ _ (by with_reducible first | exact at1d _ _ | exact at1 _ _)).mono ?_); rintro e w10 ⟨a10, p10, rfl, hl10, ho10⟩; have HL10 := Lib.hid hl10; have HO10 : Hid (Only (fun _ => False) w9 w10) := Lib.hid (Only.same (by with_reducible first | exact (Only.alloc _ _ _).same (Only.drew _ _) | exact Only.alloc _ _ _) ho10); clear hl10 ho10)
      | (go_at_call 18; refine (live_exact w10 a8 a10 p8 p10 (HLU.out.later HO10.out) HL10.out).mono ?_; rintro e w11 ⟨rfl, ho11⟩; have HO11 := Lib.hid (HO10.out.same ho11); clear ho11)
      | (go_at_call 24; first
        | ((with_reducible refine (live_b2 _).mono ?_); rintro e w12 ⟨rfl, rfl⟩)
        | ((with_reducible refine (live_b3 _).mono ?_); rintro e w12 ⟨rfl, rfl⟩))
      | (go_at_call 48; first
        | ((with_reducible refine (live_ca _).mono ?_); rintro e w13 ⟨rfl, ho13⟩; have HO13 := Lib.hid (HO11.out.same ho13); clear ho13)
        | ((with_reducible refine (live_ci _).mono ?_); rintro e w15 ⟨rfl, ho15⟩; have HO15 := Lib.hid (HO14.out.same ho15); clear ho15))
      | (go_at_call 9; refine (rintC _ _).mono ?_; rintro e w14 ⟨rfl, ho14⟩; have HO14 := Lib.hid (HO13.out.same ho14); clear ho14)
      | (go_at_call 17; refine (live_back hho hhc g gc gl w15 ⟨HCI.out.1.later (HO49.out.same HO15.out), HCI.out.2⟩).mono ?_; rintro e w16 ⟨a16, p16, rfl, ho16⟩; have HO16 := Lib.hid (HO15.out.same ho16); clear ho16))
    go_wp2_with fail
    go_ret
    exact ⟨by first | rfl | simp, HAB4.out.o.same (HO49.out.same HO16.out)⟩
end Go.Proofs.Ytoogmlgaeipenaa.terms
