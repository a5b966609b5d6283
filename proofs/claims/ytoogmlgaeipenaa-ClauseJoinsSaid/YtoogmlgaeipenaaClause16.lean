/- Clauses: the clause of a term. -/
import Derived.Test.YtoogmlgaeipenaaClause15
namespace Go.Proofs.Ytoogmlgaeipenaa.terms
set_option maxRecDepth 100000
open Go.RowKit Go.Proofs.Ytoogmlgaeipenaa.own Go.Maps
/-- A cell that holds a clause's fields. -/
def Hex (b : Nat) (x0 x1 x2 x3 x4 x5 : Value) (w : World) : Prop := w.heap[b]? = some (.cells #[x0, x1, x2, x3, x4, x5] 37 (0, 0))
theorem Hex.cells {b : Nat} {x0 x1 x2 x3 x4 x5 : Value} {w : World} (h : Hex b x0 x1 x2 x3 x4 x5 w) : w.cell? ⟨b, 0, none⟩ = some x0 ∧ w.cell? ⟨b, 1, none⟩ = some x1 ∧ w.cell? ⟨b, 2, none⟩ = some x2 ∧ w.cell? ⟨b, 3, none⟩ = some x3 ∧ w.cell? ⟨b, 4, none⟩ = some x4 ∧ w.cell? ⟨b, 5, none⟩ = some x5 := by
  refine ⟨?_, ?_, ?_, ?_, ?_, ?_⟩ <;> (rw [cell_of_blk h]; rfl)
theorem Hex.free {b : Nat} {x0 x1 x2 x3 x4 x5 : Value} {w : World} (h : Hex b x0 x1 x2 x3 x4 x5 w) : w.frozen? ⟨b, 0, none⟩ = false ∧ w.frozen? ⟨b, 1, none⟩ = false ∧ w.frozen? ⟨b, 2, none⟩ = false ∧ w.frozen? ⟨b, 3, none⟩ = false ∧ w.frozen? ⟨b, 4, none⟩ = false ∧ w.frozen? ⟨b, 5, none⟩ = false :=
  ⟨free_of_blk h 0, free_of_blk h 1, free_of_blk h 2, free_of_blk h 3, free_of_blk h 4, free_of_blk h 5⟩
theorem Hex.only {b : Nat} {x0 x1 x2 x3 x4 x5 : Value} {w w' : World} {S : Nat → Prop} (h : Hex b x0 x1 x2 x3 x4 x5 w) (ho : Only S w w') (hS : ¬ S b) : Hex b x0 x1 x2 x3 x4 x5 w' := by
  unfold Hex at *
  rw [ho.block b (lt_of_block h) hS]
  exact h
abbrev hexW (w : World) (b : Nat) (y0 y1 y2 y3 y4 y5 : Value) : World := (((((w.setCell ⟨b, 0, none⟩ y0).setCell ⟨b, 1, none⟩ y1).setCell ⟨b, 2, none⟩ y2).setCell ⟨b, 3, none⟩ y3).setCell ⟨b, 4, none⟩ y4).setCell ⟨b, 5, none⟩ y5
theorem Hex.set {b : Nat} {x0 x1 x2 x3 x4 x5 : Value} {w : World} (h : Hex b x0 x1 x2 x3 x4 x5 w) (y0 y1 y2 y3 y4 y5 : Value) : Hex b y0 y1 y2 y3 y4 y5 (hexW w b y0 y1 y2 y3 y4 y5) ∧ Only (· = b) w (hexW w b y0 y1 y2 y3 y4 y5) := by
  have so : ∀ (W : World) (j : Nat) (y : Value), Only (· = b) W (W.setCell ⟨b, j, none⟩ y) := fun W j y => Only.setCell (S := (· = b)) (p := ⟨b, j, none⟩) W rfl y
  refine ⟨?_, (((((so _ _ _).same (so _ _ _)).same (so _ _ _)).same (so _ _ _)).same (so _ _ _)).same (so _ _ _)⟩
  unfold Hex at *
  rw [blk_set (blk_set (blk_set (blk_set (blk_set (blk_set h 0 y0) 1 y1) 2 y2) 3 y3) 4 y4) 5 y5]
  simp
set_option maxHeartbeats 1000000 in
/-- Two results are stored, whichever first. -/
theorem hexStores {W : World} {r1 r2 : Nat} {x0 x1 x2 x3 x4 x5 z0 z1 z2 z3 : Value} (q : Hex r1 x0 x1 x2 x3 x4 x5 W) (p : Quad r2 z0 z1 z2 z3 W) (y0 y1 y2 y3 y4 y5 u0 u1 u2 u3 : Value) (W1 : World) (h : W1 = quadW (hexW W r1 y0 y1 y2 y3 y4 y5) r2 u0 u1 u2 u3 ∨ W1 = hexW (quadW W r2 u0 u1 u2 u3) r1 y0 y1 y2 y3 y4 y5) :
    Hex r1 y0 y1 y2 y3 y4 y5 W1 ∧ Quad r2 u0 u1 u2 u3 W1 ∧ Only (fun k => k = r1 ∨ k = r2) W W1 := by
  have hne : r1 ≠ r2 := by
    intro e
    have h1 := q
    have h2 := p
    unfold Hex at h1
    unfold Quad at h2
    rw [e, h2] at h1
    simp at h1
  rcases h with rfl | rfl
  · have h1 := q.set y0 y1 y2 y3 y4 y5
    have h2 := (p.only h1.2 (fun e => hne e.symm)).set u0 u1 u2 u3
    exact ⟨h1.1.only h2.2 hne, h2.1, (h1.2.mono (fun _ _ e => .inl e)).same (h2.2.mono (fun _ _ e => .inr e))⟩
  · have h1 := p.set u0 u1 u2 u3
    have h2 := (q.only h1.2 hne).set y0 y1 y2 y3 y4 y5
    exact ⟨h2.1, h1.1.only h2.2 (fun e => hne e.symm), (h1.2.mono (fun _ _ e => .inr e)).same (h2.2.mono (fun _ _ e => .inl e))⟩
theorem results_from {fn : Func} {p q u : Tmp} (h : fn.results = #[.cell p 37, .cell q 24, .tmp u]) (tmps : Array Value) (w : World) (b c : Nat) (x0 x1 x2 x3 x4 x5 y0 y1 y2 y3 z : Value) (hb : tmps.getD p undef = .pointer (some ⟨b, 0, none⟩)) (hc : tmps.getD q undef = .pointer (some ⟨c, 0, none⟩)) (hu : tmps.getD u undef = z)
    (h0 : w.cell? ⟨b, 0, none⟩ = some x0) (h1 : w.cell? ⟨b, 1, none⟩ = some x1) (h2 : w.cell? ⟨b, 2, none⟩ = some x2) (h3 : w.cell? ⟨b, 3, none⟩ = some x3) (h4 : w.cell? ⟨b, 4, none⟩ = some x4) (h5 : w.cell? ⟨b, 5, none⟩ = some x5) (g0 : w.cell? ⟨c, 0, none⟩ = some y0) (g1 : w.cell? ⟨c, 1, none⟩ = some y1) (g2 : w.cell? ⟨c, 2, none⟩ = some y2) (g3 : w.cell? ⟨c, 3, none⟩ = some y3) :
    (results fn tmps).run Try.prog w = .ok (.tuple #[.agg #[x0, x1, x2, x3, x4, x5], .agg #[y0, y1, y2, y3], z]) w := by
  have hb' : tmps[p]?.getD undef = .pointer (some ⟨b, 0, none⟩) := by simpa using hb
  have hc' : tmps[q]?.getD undef = .pointer (some ⟨c, 0, none⟩) := by simpa using hc
  have hu' : tmps[u]?.getD undef = z := by simpa using hu
  simp only [results, h]
  go_simp
/-- A clause's head and goals, as they lie. -/
structure ClI (h : T) (gs : List T) (ho : Option Addr) (go : Option Addr) (gc : Nat) (gl : List Gl) (W : World) : Prop where
  sane : h.Sane
  lies : Lies W ho h.l
  row : GlP 0 go gc gl W
  good : GoodG (· < W.heap.size) W gl
  eq : gl.map (·.x.t) = gs
theorem ClI.later {h : T} {gs : List T} {ho go : Option Addr} {gc : Nat} {gl : List Gl} {W W' : World} (H : ClI h gs ho go gc gl W) (o : Only (fun _ => False) W W') : ClI h gs ho go gc gl W' :=
  ⟨H.sane, H.lies.later o, H.row.only o (fun _ _ e => e), (H.good.only o (fun _ h => h) (fun _ _ e => e)).mono (fun _ h => Nat.lt_of_lt_of_le h o.size), H.eq⟩
def AnsFrom (r : FR) (w : World) (e : Ending) (w' : World) : Prop :=
  match r with
  | .ball x => ∃ a p, e = .returned (.tuple #[.agg #[.int .i64 0, .int .i64 0, .string ⟨#[]⟩, .slice none 0 0, .slice none 0 0, .int .i64 0], .agg #[.int .i64 4, .int .i64 0, .string nError, .slice a 1 p], .bool false]) ∧ Lies w' a [x] ∧ Only (fun _ => False) w w'
  | .cl h gs n => ∃ ho hc go gc gl, e = .returned (.tuple #[.agg #[.int .i64 h.k, .int .i64 h.n, .string h.s, .slice ho h.l.length hc, .slice go (gl : List Gl).length gc, .int .i64 n], .agg #[.int .i64 0, .int .i64 0, .string ⟨#[]⟩, .slice none 0 0], .bool true]) ∧ ClI h gs ho go gc gl w' ∧ Only (fun _ => False) w w'
structure FrI (w E : World) : Prop where
  x : Hex (w.heap.size + 1) (.int .i64 0) (.int .i64 0) (.string ⟨#[]⟩) (.slice none 0 0) (.slice none 0 0) (.int .i64 0) E
  z : Zero (w.heap.size + 1 + 1) E
  o : Only (fun _ => False) w E
  n : w.heap.size + 3 ≤ E.heap.size
theorem FrI.later {w E E' : World} (h : FrI w E) (ho : Only (fun _ => False) E E') : FrI w E' := ⟨h.x.only ho (fun e => e), h.z.only ho (fun e => e), h.o.same ho, Nat.le_trans h.n ho.size⟩
theorem FrI.new (w : World) (t : T) (ao : Option Addr) (cap : Nat) : FrI w (((w.alloc (.cells #[.int .i64 t.k, .int .i64 t.n, .string t.s, .slice ao t.l.length cap] 24)).alloc (.cells #[.int .i64 0, .int .i64 0, .string ⟨#[]⟩, .slice none 0 0, .slice none 0 0, .int .i64 0] 37)).alloc (.cells #[.int .i64 0, .int .i64 0, .string ⟨#[]⟩, .slice none 0 0] 24)) ∧
    Quad w.heap.size (.int .i64 t.k) (.int .i64 t.n) (.string t.s) (.slice ao t.l.length cap) (((w.alloc (.cells #[.int .i64 t.k, .int .i64 t.n, .string t.s, .slice ao t.l.length cap] 24)).alloc (.cells #[.int .i64 0, .int .i64 0, .string ⟨#[]⟩, .slice none 0 0, .slice none 0 0, .int .i64 0] 37)).alloc (.cells #[.int .i64 0, .int .i64 0, .string ⟨#[]⟩, .slice none 0 0] 24)) := by
  obtain ⟨A, hA⟩ : ∃ A, A = tBox w t ao cap := ⟨_, rfl⟩
  obtain ⟨C, hC⟩ : ∃ C, C = A.alloc (.cells #[.int .i64 0, .int .i64 0, .string ⟨#[]⟩, .slice none 0 0, .slice none 0 0, .int .i64 0] 37) := ⟨_, rfl⟩
  obtain ⟨E, hE⟩ : ∃ E, E = zeroW C := ⟨_, rfl⟩
  have hA0 : A.heap.size = w.heap.size + 1 := by rw [hA]; simp
  have hC0 : C.heap.size = w.heap.size + 1 + 1 := by rw [hC]; simp [hA0]
  have hE0 : E.heap.size = w.heap.size + 1 + 1 + 1 := by rw [hE]; simp [hC0]
  have oA : Only (fun _ => False) w A := by rw [hA]; exact Only.alloc _ _ _
  have oC : Only (fun _ => False) A C := by rw [hC]; exact Only.alloc _ _ _
  have oE : Only (fun _ => False) C E := by rw [hE]; exact Only.alloc _ _ _
  have h : FrI w E ∧ Quad w.heap.size (.int .i64 t.k) (.int .i64 t.n) (.string t.s) (.slice ao t.l.length cap) E := by
    refine ⟨⟨?_, ?_, (oA.same oC).same oE, by omega⟩, ?_⟩
    · have h : Hex A.heap.size (.int .i64 0) (.int .i64 0) (.string ⟨#[]⟩) (.slice none 0 0) (.slice none 0 0) (.int .i64 0) C := by rw [hC]; exact heap_alloc_new _ _
      rw [hA0] at h
      exact h.only oE (fun e => e)
    · rw [← hC0, hE]; exact Zero.new _
    · have h : Quad w.heap.size (.int .i64 t.k) (.int .i64 t.n) (.string t.s) (.slice ao t.l.length cap) A := by rw [hA]; exact heap_alloc_new _ _
      exact h.only (oC.same oE) (fun e => e)
  rw [hE, hC, hA] at h
  exact h
theorem row_above {n : Nat} {w w' : World} {a : Option Addr} {l : List T} (h : Row (NewP no w w') w' a l) (hn : n ≤ w.heap.size) : Row (fun k => n ≤ k ∧ k < w'.heap.size) w' a l := h.mono (fun k hk => by
  rcases hk with hk | hk
  · exact hk.elim
  · exact ⟨Nat.le_trans hn hk.1, hk.2⟩)
theorem row_later {n : Nat} {w w' : World} {a : Option Addr} {l : List T} (h : Row (fun k => n ≤ k ∧ k < w.heap.size) w a l) (ho : Only (fun _ => False) w w') : Row (fun k => n ≤ k ∧ k < w'.heap.size) w' a l := (h.only ho (fun k hk => hk.2) (fun _ _ e => e)).mono (fun k hk => ⟨hk.1, Nat.lt_of_lt_of_le hk.2 ho.size⟩)
theorem flat_ok (t : T) (h : t.Ok) : ∀ x ∈ flatF t, x.Ok := by
  induction t using T.ind with
  | h k n s l ih =>
    intro x hx
    cases hc : goesB (.mk k n s l) nComma 2 with
    | true =>
      obtain ⟨a, b, hab⟩ := two_of_len (goes_parts hc).2.2
      rw [flat_two hc hab] at hx
      have hab' : l = [a, b] := hab
      rcases List.mem_append.1 hx with h' | h'
      · exact ih a (by rw [hab']; simp) (h.sub (by rw [hab]; simp)) x h'
      · exact ih b (by rw [hab']; simp) (h.sub (by rw [hab]; simp)) x h'
    | false =>
      cases ht : goesB (.mk k n s l) nTrue 0 with
      | true => rw [flat_true hc ht] at hx; cases hx
      | false =>
        rw [flat_one hc ht, List.mem_singleton] at hx
        subst hx
        exact h
theorem par_ok (u : T) (h : u.Ok) : (parF u).1.Ok ∧ ∀ x ∈ (parF u).2, x.Ok := by
  cases hn : goesB u nIf 2 with
  | false => rw [par_not hn]; exact ⟨h, fun x hx => (List.not_mem_nil hx).elim⟩
  | true =>
    obtain ⟨a, b, hab⟩ := two_of_len (goes_parts hn).2.2
    rw [par_two hn hab]
    exact ⟨h.sub (by rw [hab]; simp), flat_ok b (h.sub (by rw [hab]; simp))⟩
theorem ok_kind {t : T} (h : t.Ok) : t.k = 1 ∨ t.k = 2 ∨ t.k = 3 ∨ t.k = 4 := by
  have h1 := h.right
  rw [T.right_eq, Bool.and_eq_true] at h1
  have hp := h1.1
  unfold T.part at hp
  by_cases h1 : t.k = 1
  · exact .inl h1
  by_cases h2 : t.k = 2
  · exact .inr (.inl h2)
  by_cases h3 : t.k = 3
  · exact .inr (.inr (.inl h3))
  by_cases h4 : t.k = 4
  · exact .inr (.inr (.inr h4))
  rw [if_neg h1, if_neg h2, if_neg h3, if_neg h4] at hp
  cases hp
set_option maxHeartbeats 8000000 in
theorem From_not (t : T) (ao : Option Addr) (cap : Nat) (w : World) (hs : t.Sane) (hl : Lies w ao t.l) (hz : t.size ≤ 900000) (hno : ¬ t.Ok) :
    Calls Try.prog 16 #[tv t ao cap] w (AnsFrom (.ball (sAtom nSize)) w) := by
  have HF0 := Lib.hid (FrI.new w t ao cap)
  have HCH := Lib.hid (fun (W : World) (ho : Only (fun _ => False) w W) => check_any t W ao cap (hl.later ho) hs hz)
  have HNO := Lib.hid hno
  clear hno
  obtain ⟨c0, c1, c2, c3⟩ := HF0.out.2.cells
  show Calls Try.prog 16 #[.agg #[.int .i64 t.k, .int .i64 t.n, .string t.s, .slice ao t.l.length cap]] w _
  clear hs hl hz
  go_enter Try.func16, Try.ntmps16
  go_wp2_with fail
  clear c0 c1 c2 c3
  generalize ((w.alloc (.cells #[.int .i64 t.k, .int .i64 t.n, .string t.s, .slice ao t.l.length cap] 24)).alloc (.cells #[.int .i64 0, .int .i64 0, .string ⟨#[]⟩, .slice none 0 0, .slice none 0 0, .int .i64 0] 37)).alloc (.cells #[.int .i64 0, .int .i64 0, .string ⟨#[]⟩, .slice none 0 0] 24) = E at *
  refine (HCH.out _ HF0.out.1.o).mono ?_
  rintro e w1 ⟨⟨c, rfl, hc⟩, ho1⟩
  have hcn : (c != 0) = true := by simpa using fun e => HNO.out (hc.1 e)
  have HF1 := Lib.hid (HF0.out.1.later ho1)
  clear hc ho1 HF0 HCH
  go_wp2_with fail
  refine (csize_any _).mono ?_
  rintro e w2 ⟨a2, p2, rfl, hr2, ho2⟩
  have HF2 := Lib.hid (HF1.out.later ho2)
  have HX2 := Lib.hid HF2.out.x
  have HZ2 := Lib.hid HF2.out.z
  have HO2 := Lib.hid HF2.out.o
  have HR2 := Lib.hid (row_above hr2 HF1.out.n)
  clear hr2 ho2
  obtain ⟨WF, hWF⟩ : ∃ WF, WF = ((((((((((w2.setCell ⟨w.heap.size + 1, 0, none⟩ (.int .i64 0)).setCell ⟨w.heap.size + 1, 1, none⟩ (.int .i64 0)).setCell ⟨w.heap.size + 1, 2, none⟩ (.string ⟨#[]⟩)).setCell ⟨w.heap.size + 1, 3, none⟩ (.slice none 0 0)).setCell ⟨w.heap.size + 1, 4, none⟩ (.slice none 0 0)).setCell ⟨w.heap.size + 1, 5, none⟩ (.int .i64 0)).setCell ⟨w.heap.size + 1 + 1, 0, none⟩ (.int .i64 4)).setCell ⟨w.heap.size + 1 + 1, 1, none⟩ (.int .i64 0)).setCell ⟨w.heap.size + 1 + 1, 2, none⟩ (.string nError)).setCell ⟨w.heap.size + 1 + 1, 3, none⟩ (.slice a2 1 p2)) := ⟨_, rfl⟩
  have HST := Lib.hid (hexStores HX2.out HZ2.out (.int .i64 0) (.int .i64 0) (.string ⟨#[]⟩) (.slice none 0 0) (.slice none 0 0) (.int .i64 0) (.int .i64 4) (.int .i64 0) (.string nError) (.slice a2 1 p2) _ (.inl hWF))
  have HWF := Lib.hid hWF
  clear hWF
  have hZS := HZ2.out.only (HX2.out.set (.int .i64 0) (.int .i64 0) (.string ⟨#[]⟩) (.slice none 0 0) (.slice none 0 0) (.int .i64 0)).2 (fun e => by omega)
  obtain ⟨x0, x1, x2, x3, x4, x5⟩ := HX2.out.cells
  obtain ⟨e0, e1, e2, e3, e4, e5⟩ := HX2.out.free
  obtain ⟨d0, d1, d2, d3⟩ := hZS.cells
  obtain ⟨f0, f1, f2, f3⟩ := hZS.free
  clear hZS
  go_wp2_with fail
  rw [← HWF.out]
  have hcc := HST.out.1.cells
  have hpp := HST.out.2.1.cells
  refine bodyPost_ret (v := .tuple #[.agg #[.int .i64 0, .int .i64 0, .string ⟨#[]⟩, .slice none 0 0, .slice none 0 0, .int .i64 0], .agg #[.int .i64 4, .int .i64 0, .string nError, .slice a2 1 p2], .bool false]) (results_from rfl _ WF (w.heap.size + 1) (w.heap.size + 1 + 1) _ _ _ _ _ _ _ _ _ _ _ rfl rfl rfl hcc.1 hcc.2.1 hcc.2.2.1 hcc.2.2.2.1 hcc.2.2.2.2.1 hcc.2.2.2.2.2 hpp.1 hpp.2.1 hpp.2.2.1 hpp.2.2.2) rfl ?_
  have oF := HST.out.2.2.same (Only.drewN (fun k => k = w.heap.size + 1 ∨ k = w.heap.size + 1 + 1) WF 0)
  have hfin : Only (fun _ => False) w WF := Only.cut HO2.out oF (fun k e => by omega)
  exact ⟨a2, p2, rfl, (HR2.out.only oF (fun k hk => hk.2) (fun k hk e => by have := hk.1; omega)).mono (fun k hk => Nat.lt_of_lt_of_le hk.2 oF.size), hfin⟩

/-- The clause of a term under way: behind parted. -/
structure FrP (w : World) (u : T) (P : Nat → Prop) (B bb hb : Nat) (S : Nat → Prop) (ho : Option Addr) (hc : Nat) (go : Option Addr) (gc : Nat) (io : Option Addr) (ic : Nat) (gl : List Gl) (il : List It) (W : World) : Prop where
  f : FrI w W
  h : Quad hb (.int .i64 (parF u).1.k) (.int .i64 (parF u).1.n) (.string (parF u).1.s) (.slice ho (parF u).1.l.length hc) W
  b : BodyC P B bb S go gc io ic gl il W
  sane : (parF u).1.Sane
  row : Row P W ho (parF u).1.l
  eg : gl.map (·.x.t) = goalsF (parF u).2
  ei : il.map (·.t) = intsF (parF u).2
  above : ∀ k, P k → w.heap.size + 3 ≤ k
  B : w.heap.size + 3 ≤ B
  pl : ∀ k, P k → k < W.heap.size
theorem FrP.later {w : World} {u : T} {P : Nat → Prop} {B bb hb : Nat} {S : Nat → Prop} {ho : Option Addr} {hc : Nat} {go : Option Addr} {gc : Nat} {io : Option Addr} {ic : Nat} {gl : List Gl} {il : List It} {W W' : World} (h : FrP w u P B bb hb S ho hc go gc io ic gl il W) (o : Only (fun _ => False) W W') : FrP w u P B bb hb S ho hc go gc io ic gl il W' :=
  ⟨h.f.later o, h.h.only o (fun e => e), h.b.later o (fun _ e => e.elim), h.sane, h.row.only o h.pl (fun _ _ e => e), h.eg, h.ei, h.above, h.B, fun k hk => Nat.lt_of_lt_of_le (h.pl k hk) o.size⟩
theorem FrP.lies {w : World} {u : T} {P : Nat → Prop} {B bb hb : Nat} {S : Nat → Prop} {ho : Option Addr} {hc : Nat} {go : Option Addr} {gc : Nat} {io : Option Addr} {ic : Nat} {gl : List Gl} {il : List It} {W : World} (h : FrP w u P B bb hb S ho hc go gc io ic gl il W) : Lies W ho (parF u).1.l := h.row.mono h.pl
end Go.Proofs.Ytoogmlgaeipenaa.terms
