/- Clauses by generations: any clause, with goals, in memory of its own. -/
import Derived.Test.YthfilpacmllhpabBas9
import Derived.RegionTactic
import Derived.Deep.AppendLies
namespace Go.Proofs.Ythfilpacmllhpab.bases
set_option maxRecDepth 100000
open Go.RowKit Go.Proofs.Ythfilpacmllhpab.own Go.Lib Go.Maps Go.WideMaps Go.Proofs.Ythfilpacmllhpab.idx Go.Proofs.Ythfilpacmllhpab.terms
/-- A goal's five cells. -/
structure G5 where
  k : Int
  x : Int
  n : Int
  s : ByteArray
  a : Option Addr
  l : Nat
  c : Nat
def encG5 (g : G5) : List Value := [.int .i64 g.k, .int .i64 g.x, .int .i64 g.n, .string g.s, .slice g.a g.l g.c]
theorem liesG5 : own.Lies encG5 5 := ⟨fun _ => rfl, by
  intro x u hu
  simp [encG5] at hu
  rcases hu with rfl | rfl | rfl | rfl | rfl <;> rfl, by omega⟩
abbrev RowG5 (N : Nat) (ao : Option Addr) (cap : Nat) (xs : List G5) (w : World) : Prop := RowOf encG5 5 113 N ao cap xs w
theorem infoG5 : (Try.prog.info? 113).map (fun i => (i.zero, i.size, i.bytes)) = some (some (.agg #[.int .i64 0, .int .i64 0, .int .i64 0, .string ⟨#[]⟩, .slice none 0 0]), 5, 64) := by kernel_rfl
/-- A goal that came in. -/
structure GI where
  k : Int
  t : T
  ao : Option Addr
  cap : Nat
/-- Goals that came in. -/
def ArgG (go : Option Addr) (gs : List GI) (w : World) : Prop := ∀ i x, gs[i]? = some x → ∃ b off, go = some ⟨b, off, none⟩ ∧ b < w.heap.size ∧ (w.cell? ⟨b, off + i * 5, none⟩ = some (.int .i64 x.k) ∧ w.cell? ⟨b, off + i * 5 + 1, none⟩ = some (.int .i64 x.t.k) ∧ w.cell? ⟨b, off + i * 5 + 2, none⟩ = some (.int .i64 x.t.n) ∧ w.cell? ⟨b, off + i * 5 + 3, none⟩ = some (.string x.t.s) ∧ w.cell? ⟨b, off + i * 5 + 4, none⟩ = some (.slice x.ao x.t.l.length x.cap)) ∧ x.t.Sane ∧ Row (fun k => k < w.heap.size) w x.ao x.t.l ∧ x.t.size ≤ 900000
theorem ArgG.later {go : Option Addr} {gs : List GI} {w w' : World} (h : ArgG go gs w) (o : Only (fun _ => False) w w') : ArgG go gs w' := fun i x hx => by
  obtain ⟨b, off, h1, h2, ⟨c0, c1, c2, c3, c4⟩, h4, h5, h6⟩ := h i x hx
  have key : ∀ j u, w.cell? ⟨b, off + i * 5 + j, none⟩ = some u → w'.cell? ⟨b, off + i * 5 + j, none⟩ = some u := fun j u hu => (o.cell (p := ⟨b, off + i * 5 + j, none⟩) h2 (fun e => e)).trans hu
  exact ⟨b, off, h1, Nat.lt_of_lt_of_le h2 o.size, ⟨key 0 _ c0, key 1 _ c1, key 2 _ c2, key 3 _ c3, key 4 _ c4⟩, h4, h5.later o, h6⟩
def Pent5 (b : Nat) (x0 x1 x2 x3 x4 : Value) (w : World) : Prop := w.heap[b]? = some (.cells #[x0, x1, x2, x3, x4] 113 (0, 0))
theorem Pent5.cells {b : Nat} {x0 x1 x2 x3 x4 : Value} {w : World} (h : Pent5 b x0 x1 x2 x3 x4 w) : w.cell? ⟨b, 0, none⟩ = some x0 ∧ w.cell? ⟨b, 1, none⟩ = some x1 ∧ w.cell? ⟨b, 2, none⟩ = some x2 ∧ w.cell? ⟨b, 3, none⟩ = some x3 ∧ w.cell? ⟨b, 4, none⟩ = some x4 := by
  refine ⟨?_, ?_, ?_, ?_, ?_⟩ <;> (rw [cell_of_blk h]; rfl)
theorem Pent5.only {b : Nat} {x0 x1 x2 x3 x4 : Value} {w w' : World} {S : Nat → Prop} (h : Pent5 b x0 x1 x2 x3 x4 w) (ho : Only S w w') (hS : ¬ S b) : Pent5 b x0 x1 x2 x3 x4 w' := by
  unfold Pent5 at *
  rw [ho.block b (lt_of_block h) hS]
  exact h
/-- A round of the loop: the goals so far, in a clause's box. -/
structure Cop (b3 M j : Nat) (t : T) (a : Option Addr) (c : Nat) (v : Int) (go : Option Addr) (gc : Nat) (E w : World) : Prop where
  box : Hex b3 (.int .i64 t.k) (.int .i64 t.n) (.string t.s) (.slice a t.l.length c) (.slice go j gc) (.int .i64 v) w
  hb : E.heap.size ≤ b3 ∧ b3 < M ∧ M ≤ w.heap.size
  r : Row (fun k => (E.heap.size ≤ k ∧ k < M) ∧ k ≠ b3) w a t.l
  row : ∃ xs, xs.length = j ∧ RowG5 M go gc xs w
  o : Only (fun _ => False) E w
theorem step_callTo {P : Program} {ops : Array Oper} {o : Oper} {a : Act} {w : World} {K : Act → World → Prop} {Q : Exit → Act → World → Prop} {E : Prop} (hgd : o.guard = none) (f : FuncId) (args : Array Value)
    (hrun : (execOp a.eval o).run P w = .ok (.enter f args) w) (R : Ending → World → Prop) (hc : Calls P f args w R) (h : ∀ e w', R e w' → ∃ v, e = .returned v ∧ K (a.put o.dst v) w') :
    if Region.wanted o (yielded ops a.tmps) = true then Oper.wp P o a w K Q else E := by
  have hw : Region.wanted o (yielded ops a.tmps) = true := by simp [Region.wanted, hgd]
  rw [if_pos hw]
  unfold Oper.wp
  rw [hrun, Oper.upon_enter]
  refine hc.mono fun e w'' hh => ?_
  obtain ⟨v, rfl, hk⟩ := h e w'' hh
  exact hk
theorem step_one {α : Type} {enc : α → List Value} {s : Nat} {P : Program} {ops : Array Oper} {o : Oper} {a : Act} {K : Act → World → Prop} {Q : Exit → Act → World → Prop} {F : Prop} (L : own.Lies enc s) (hgd : o.guard = none) (sl x : Operand) (t : TypeId)
    (ho : o.op = .call { callee := .builtin .append, args := #[sl, x], argTypes := #[t, t] })
    (B E : Nat) (i : TypeInfo) (zz : Value) (by_ : Nat) (ht : P.underlying t = some (.slice E)) (hi : P.info? E = some i) (hz : i.zero = some zz) (hsize : i.size = s) (hby : i.bytes = by_) (hzs : zz.cells.size = s) (hbb : by_ ≤ 1024)
    (W : World) (ao : Option Addr) (cap : Nat) (xs : List α) (z : α) (cs : List Value) (hcs : enc z = cs) (hs : a.eval sl = .slice ao xs.length cap) (hrow : RowOf enc s E B ao cap xs W) (g : Nat) (ty : TypeId) (hnew : W.heap[g]? = some (.cells cs.toArray ty (0, 0)))
    (hx : a.eval x = .slice (some ⟨g, 0, none⟩) 1 1) (hlen : xs.length ≤ 16777216) (hB : B ≤ W.heap.size)
    (h : ∀ ao' cap' w', RowOf enc s E B ao' cap' (xs ++ [z]) w' → Only (RowAt ao) W w' → NewRow W.heap.size ao ao' → K (a.put o.dst (.slice ao' (xs.length + 1) cap')) w') :
    if Region.wanted o (yielded ops a.tmps) = true then Oper.wp P o a W K Q else F := by
  have hlc : cs.length = 1 * s := by rw [← hcs, L.len]; omega
  refine step_append_lies W hgd sl x t ho B E i zz s by_ ht hi hz hsize hby hzs L.pos (.slice ao xs.length cap) xs.length (xs.flatMap enc) hs hrow ⟨g, 0, none⟩ 1 1 cs hx hlc (fun j u hu => World.news_of_block (cs := cs.toArray) hnew j u (by simpa using hu))
    (by intro u hu; rw [← hcs] at hu; exact L.one z u hu) (by omega) (by unfold maxLen; omega) (by have := Nat.mul_le_mul (show xs.length + 1 ≤ 16777217 by omega) hbb; omega) hB W.heap.size rfl ?_
  intro g' cap' w' hown' hgrow hat _
  have hl : (xs ++ [z]).length = xs.length + 1 := by simp
  have hown2 : RowOf enc s E B (some ⟨g', 0, none⟩) cap' (xs ++ [z]) w' := by
    unfold RowOf
    rw [hl, List.flatMap_append, List.flatMap_cons, List.flatMap_nil, List.append_nil, hcs]
    exact hown'
  refine h _ cap' w' hown2 ?_ ?_
  · refine (Only.grown hgrow).mono ?_
    intro k _ hk
    cases ao with
    | none => simp [Value.ownBlock] at hk
    | some g0 => exact ⟨g0, rfl, by simpa [Value.ownBlock] using hk⟩
  · intro g0 hg
    cases hg
    rcases hat with hat | hat
    · cases ao with
      | none => simp [Value.ownBlock] at hat
      | some g1 =>
        have hg' := hrow.head g1 rfl
        simp only [Value.ownBlock, Option.some.injEq] at hat
        left
        rw [hg'.1, hat]
    · right
      show W.heap.size ≤ g'
      omega
theorem Cop.later {b3 M j : Nat} {t : T} {a : Option Addr} {c : Nat} {v : Int} {go : Option Addr} {gc : Nat} {E w w' : World} (h : Cop b3 M j t a c v go gc E w) (o : Only (fun _ => False) w w') : Cop b3 M j t a c v go gc E w' := by
  obtain ⟨xs, h1, h2⟩ := h.row
  exact ⟨h.box.only o (fun e => e), ⟨h.hb.1, h.hb.2.1, Nat.le_trans h.hb.2.2 o.size⟩, h.r.only o (fun k hk => by have := h.hb.2.2; omega) (fun _ _ e => e), ⟨xs, h1, h2.only o (fun _ _ e => e)⟩, h.o.same o⟩
theorem Cop.grown {b3 M j : Nat} {t : T} {a : Option Addr} {c : Nat} {v : Int} {g go' : Option Addr} {gc' gc2 : Nat} {E w w6 : World} {xs : List G5} {z : G5} (h : Cop b3 M j t a c v g gc' E w) (hx : xs.length = j) (hr : RowG5 M g gc' xs w) (hrow : RowG5 M go' gc2 (xs ++ [z]) w6) (ho : Only (RowAt g) w w6) :
    Cop b3 M (j + 1) t a c v go' gc2 E (w6.setCell ⟨b3, 4, none⟩ (.slice go' (j + 1) gc2)) ∧ w6.cell? ⟨b3, 4, none⟩ = some (.slice g j gc') ∧ w6.frozen? ⟨b3, 4, none⟩ = false := by
  have hna : ¬ RowAt g b3 := row_apart hr h.box (by decide)
  have box6 := h.box.only ho hna
  have so : Only (· = b3) w6 (w6.setCell ⟨b3, 4, none⟩ (.slice go' (j + 1) gc2)) := Only.setCell (S := (· = b3)) (p := ⟨b3, 4, none⟩) _ rfl _
  have hM : ∀ k, RowAt g k → M ≤ k := by rintro k ⟨g0, hg, rfl⟩; exact (hr.head g0 hg).2.1
  have hb := h.hb
  have hs := ho.size
  refine ⟨⟨?_, ⟨hb.1, hb.2.1, by have := so.size; omega⟩, (h.r.only ho (fun k hk => by omega) (fun k hk e => by have := hM k e; omega)).only so (fun k hk => by omega) (fun k hk e => hk.2 e), ⟨xs ++ [z], by simp [hx], hrow.only so (fun g0 hg e => row_apart hrow box6 (by decide) ⟨g0, hg, e.symm⟩)⟩, idx.Only.cut (idx.Only.cut h.o ho (fun k e => by have := hM k e; omega)) so (fun k e => by have e' : k = b3 := e; omega)⟩, box6.cells.2.2.2.2.1, box6.free.2.2.2.2.1⟩
  unfold Hex at box6 ⊢
  rw [blk_set box6 4 _]
  simp
set_option maxHeartbeats 8000000 in
theorem copied_any (t : T) (ao : Option Addr) (cap : Nat) (v : Int) (go : Option Addr) (gs : List GI) (gc : Nat) (w : World) (ht : t.Sane) (hl : Row (fun k => k < w.heap.size) w ao t.l) (hz : t.size ≤ 900000) (hg : ArgG go gs w) (hgl : gs.length ≤ 100000) :
    Calls Try.prog 37 #[.agg #[.int .i64 t.k, .int .i64 t.n, .string t.s, .slice ao t.l.length cap, .slice go gs.length gc, .int .i64 v]] w fun e w' => ∃ a c g gc', e = .returned (.agg #[.int .i64 t.k, .int .i64 t.n, .string t.s, .slice a t.l.length c, .slice g gs.length gc', .int .i64 v]) ∧ Row (fun k => w.heap.size ≤ k ∧ k < w'.heap.size) w' a t.l ∧ Only (fun _ => False) w w' := by
  obtain ⟨A, hA⟩ : ∃ A, A = w.alloc (.cells #[.int .i64 t.k, .int .i64 t.n, .string t.s, .slice ao t.l.length cap, .slice go gs.length gc, .int .i64 v] 34) := ⟨_, rfl⟩
  obtain ⟨E, hE⟩ : ∃ E, E = A.alloc (.cells zH 34) := ⟨_, rfl⟩
  have hA0 : A.heap.size = w.heap.size + 1 := by rw [hA]; simp
  have hE0 : E.heap.size = w.heap.size + 2 := by rw [hE]; simp [hA0]
  have oA : Only (fun _ => False) w A := by rw [hA]; exact Only.alloc _ _ _
  have oE : Only (fun _ => False) A E := by rw [hE]; exact Only.alloc _ _ _
  have hx : Hex w.heap.size (.int .i64 t.k) (.int .i64 t.n) (.string t.s) (.slice ao t.l.length cap) (.slice go gs.length gc) (.int .i64 v) E := by
    have h1 : Hex w.heap.size (.int .i64 t.k) (.int .i64 t.n) (.string t.s) (.slice ao t.l.length cap) (.slice go gs.length gc) (.int .i64 v) A := by rw [hA]; exact heap_alloc_new _ _
    exact h1.only oE (fun e => e)
  have hq : Hex (w.heap.size + 1) (.int .i64 0) (.int .i64 0) (.string ⟨#[]⟩) (.slice none 0 0) (.slice none 0 0) (.int .i64 0) E := by rw [← hA0, hE]; exact heap_alloc_new A _
  have HO := Lib.hid (oA.same oE)
  have HX := Lib.hid hx
  have HQ := Lib.hid hq
  have HES := Lib.hid hE0
  have HAG := Lib.hid (hg.later (oA.same oE))
  have HGL := Lib.hid hgl
  have HW : Hid (∀ W, Only (fun _ => False) E W → Calls Try.prog 57 #[.agg #[.int .i64 t.k, .int .i64 t.n, .string t.s, .slice ao t.l.length cap]] W fun e w' => ∃ a c, e = .returned (.agg #[.int .i64 t.k, .int .i64 t.n, .string t.s, .slice a t.l.length c]) ∧ Row (fun k => W.heap.size ≤ k ∧ k < w'.heap.size) w' a t.l ∧ Only (fun _ => False) W w') := Lib.hid (fun W o => whole_any t ao cap W ht ((hl.later HO.out).later o) hz)
  have HWG : Hid (∀ (x : GI) (W : World), Only (fun _ => False) E W → x.t.Sane → Row (fun k => k < W.heap.size) W x.ao x.t.l → x.t.size ≤ 900000 → Calls Try.prog 57 #[.agg #[.int .i64 x.t.k, .int .i64 x.t.n, .string x.t.s, .slice x.ao x.t.l.length x.cap]] W fun e w' => ∃ a c, e = .returned (.agg #[.int .i64 x.t.k, .int .i64 x.t.n, .string x.t.s, .slice a x.t.l.length c]) ∧ Only (fun _ => False) W w') := Lib.hid (fun x W _ h1 h2 h3 => (whole_any x.t x.ao x.cap W h1 h2 h3).mono (fun e w' ⟨a, c, h1, h2, h3⟩ => ⟨a, c, h1, h3⟩))
  rw [hA] at hE
  clear hx hq hl hz ht oA oE hA hA0 hE0 hg hgl
  go_enter Try.func37, Try.ntmps37
  go_upto_region 1 with fail
  rw [← hE]
  clear hE
  go_cut [3] (fun s3 wx => ∃ b3 M a c, s3 = .pointer (some ⟨b3, 0, none⟩) ∧ Hid (Cop b3 M 0 t a c v none 0 E wx))
  case first =>
    go_region_held3 (fun W => W.cell? ⟨w.heap.size, 0, none⟩ = some (.int .i64 t.k) ∧ W.cell? ⟨w.heap.size, 1, none⟩ = some (.int .i64 t.n) ∧ W.cell? ⟨w.heap.size, 2, none⟩ = some (.string t.s) ∧ W.cell? ⟨w.heap.size, 3, none⟩ = some (.slice ao t.l.length cap) ∧ W.cell? ⟨w.heap.size, 4, none⟩ = some (.slice go gs.length gc) ∧ W.cell? ⟨w.heap.size, 5, none⟩ = some (.int .i64 v)) (with_reducible first | exact (HX.out.only HOS.out (fun e => e)).cells | exact (HX.out.only HOu.out (fun e => e)).cells | exact (HX.out.only (HOu.out.same (Only.alloc _ _ _)) (fun e => e)).cells | exact (HX.out.only (Only.drew (fun _ => False) _) (fun e => e)).cells | exact (HX.out.only ((Only.drew (fun _ => False) _).same (Only.alloc _ _ _)) (fun e => e)).cells | exact (HX.out.only ((Only.alloc (fun _ => False) _ _).same (Only.drew _ _)) (fun e => e)).cells) (first
      | (go_at_call 57; first
        | ((with_reducible refine (HW.out E.drew (Only.drew _ _)).mono ?_); rintro r u ⟨a, c, rfl, hr, hou⟩; have HOu : Hid (Only (fun _ => False) E u) := Lib.hid ((Only.drew _ _).same hou); have HRu := Lib.hid hr; clear hou hr)
        | ((with_reducible refine (HW.out _ ((Only.alloc _ _ _).same (Only.drew _ _))).mono ?_); rintro r u ⟨a, c, rfl, hr, hou⟩; have HOu : Hid (Only (fun _ => False) E u) := Lib.hid (((Only.alloc _ _ _).same (Only.drew _ _)).same hou); have HRu := Lib.hid hr; have HZu : Hid (Hex E.heap.size (.int .i64 0) (.int .i64 0) (.string ⟨#[]⟩) (.slice none 0 0) (.slice none 0 0) (.int .i64 0) u) := Lib.hid (Hex.only (b := E.heap.size) (heap_alloc_new E _) ((Only.drew _ _).same hou) (fun e => e)); have HSu := Lib.hid (HZu.out.set (.int .i64 t.k) (.int .i64 t.n) (.string t.s) (.slice a t.l.length c) (.slice none 0 0) (.int .i64 v)); have HOS := Lib.hid (idx.Only.cut HOu.out HSu.out.2 (fun k e => Nat.le_of_eq e.symm)); obtain ⟨d0, d1, d2, d3, d4, d5⟩ := HZu.out.cells; obtain ⟨g0, g1, g2, g3, g4, g5⟩ := HZu.out.free; clear hou hr)))
    all_goals
      go_wp2_with fail
      go_meet
      first
        | exact ⟨_, _, a, c, rfl, Lib.hid ⟨HSu.out.1, ⟨Nat.le_refl _, lt_of_block HSu.out.1, Nat.le_refl _⟩, (HRu.out.only HSu.out.2 (fun k h => h.2) (fun k h e => by have e' : k = E.heap.size := e; have h1 := h.1; simp at h1; omega)).mono (fun k h => ⟨⟨by have h1 := h.1; simp at h1; omega, Nat.lt_of_lt_of_le h.2 HSu.out.2.size⟩, by have h1 := h.1; simp at h1; omega⟩), ⟨[], rfl, RowOf.nil _ _ _ _ _⟩, HOS.out⟩⟩
        | exact ⟨_, _, a, c, rfl, Lib.hid ⟨heap_alloc_new _ _, ⟨HOu.out.size, by simp, Nat.le_refl _⟩, (HRu.out.only (Only.alloc _ _ _) (fun k h => h.2) (fun _ _ e => e)).mono (fun k h => by have h1 := h.1; have h2 := h.2; simp at h1 h2 ⊢; omega), ⟨[], rfl, RowOf.nil _ _ _ _ _⟩, HOu.out.same (Only.alloc _ _ _)⟩⟩
  case rest =>
    obtain ⟨b3, M, a, c, rfl, hC⟩ := hcut
    obtain ⟨x0, x1, x2, x3, x4, x5⟩ := (HX.out.only hC.out.o (fun e => e)).cells
    go_upto_region 3 with fail
    clear x0 x1 x2 x3 x4 x5
    go_loopw [15] (fun iv wr => ∃ (j : Nat) (g : Option Addr) (gc' : Nat), iv = .int .i64 j ∧ j ≤ gs.length ∧ Hid (Cop b3 M j t a c v g gc' E wr)) (fun iv _ => gs.length - (RowKit.intOf iv).toNat)
    case atStart => exact ⟨0, none, 0, rfl, Nat.zero_le _, hC⟩
    case round =>
      obtain ⟨j, g, gc', rfl, hj, hR⟩ := hrel
      by_cases hlt : j < gs.length
      · obtain ⟨x, hx⟩ : ∃ x, gs[j]? = some x := ⟨gs[j], List.getElem?_eq_getElem hlt⟩
        obtain ⟨bg, off, rfl, hbg, ⟨q0, q1, q2, q3, q4⟩, hsn, hrw, hsz⟩ := HAG.out.later hR.out.o j x hx
        obtain ⟨xs, hxl, hxr⟩ := hR.out.row
        obtain ⟨W5, hW5⟩ : ∃ W5, W5 = wr.alloc (.cells #[.int .i64 x.k, .int .i64 x.t.k, .int .i64 x.t.n, .string x.t.s, .slice x.ao x.t.l.length x.cap] 113) := ⟨_, rfl⟩
        have o5 : Only (fun _ => False) wr W5 := by rw [hW5]; exact Only.alloc _ _ _
        have HP5 : Hid (Pent5 wr.heap.size (.int .i64 x.k) (.int .i64 x.t.k) (.int .i64 x.t.n) (.string x.t.s) (.slice x.ao x.t.l.length x.cap) W5) := Lib.hid (by rw [hW5]; exact heap_alloc_new _ _)
        have HCO : Hid (∀ W, Only (fun _ => False) W5 W → Cop b3 M j t a c v g gc' E W ∧ RowG5 M g gc' xs W) := Lib.hid (fun W o => ⟨hR.out.later (o5.same o), hxr.only (o5.same o) (fun _ _ e => e)⟩)
        have HCC : Hid (∀ W, Only (fun _ => False) W5 W → (W.cell? ⟨wr.heap.size, 0, none⟩ = some (.int .i64 x.k) ∧ W.cell? ⟨wr.heap.size, 1, none⟩ = some (.int .i64 x.t.k) ∧ W.cell? ⟨wr.heap.size, 2, none⟩ = some (.int .i64 x.t.n) ∧ W.cell? ⟨wr.heap.size, 3, none⟩ = some (.string x.t.s) ∧ W.cell? ⟨wr.heap.size, 4, none⟩ = some (.slice x.ao x.t.l.length x.cap)) ∧ W.cell? ⟨b3, 4, none⟩ = some (.slice g j gc')) := Lib.hid (fun W o => ⟨(HP5.out.only o (fun e => e)).cells, (HCO.out W o).1.box.cells.2.2.2.2.1⟩)
        have HWX := Lib.hid (HWG.out x W5.drew (hR.out.o.same (o5.same (Only.drew _ _))) hsn (hrw.later (o5.same (Only.drew _ _))) hsz)
        have HXL := Lib.hid hxl
        have hwj : IntKind.i64.wrap ((j : Int) + 1) = ((j + 1 : Nat) : Int) := by have := HGL.out; rw [IntWalk.i64_in _ (by omega)]; omega
        have HD : Hid (Only (fun _ => False) W5 W5.drew) := Lib.hid (Only.drew _ _)
        obtain ⟨i0, hi0, hz0, hz1, hz2⟩ := info_parts infoG5
        clear hx hsn hrw hsz hxl hxr o5 HW HWG hbg
        go_upto_region 5 with fail
        rw [← hW5]
        clear hW5 q0 q1 q2 q3 q4
        generalize wr.heap.size = bq at *
        obtain ⟨⟨c0, c1, c2, c3, c4⟩, c5⟩ := HCC.out _ HD.out
        go_region_law (first
          | (refine step_callTo rfl 57 #[.agg #[.int .i64 x.t.k, .int .i64 x.t.n, .string x.t.s, .slice x.ao x.t.l.length x.cap]] ?_ _ HWX.out ?_
             · go_simp
             rintro e w3 ⟨a3, c3', rfl, ho3⟩
             refine ⟨_, rfl, ?_⟩
             have HO3 : Hid (Only (fun _ => False) W5 w3) := Lib.hid (HD.out.same ho3)
             obtain ⟨⟨d0, d1, d2, d3, d4⟩, d5⟩ := HCC.out _ HO3.out
             obtain ⟨⟨e0, e1, e2, e3, e4⟩, e5⟩ := HCC.out _ (HO3.out.same (Only.alloc _ w3 (.cells #[.int .i64 x.k, .int .i64 x.t.k, .int .i64 x.t.n, .string x.t.s, .slice a3 x.t.l.length c3'] 113)))
             clear ho3)
          | (refine step_one liesG5 (by rfl) (.tmp 20) (.tmp 27) 32 (by rfl) M 113 i0 _ 64 Try.underlying32 hi0 hz0 hz1 hz2 rfl (by omega) (w3.alloc (.cells #[.int .i64 x.k, .int .i64 x.t.k, .int .i64 x.t.n, .string x.t.s, .slice a3 x.t.l.length c3'] 113)) g gc' xs ⟨x.k, x.t.k, x.t.n, x.t.s, a3, x.t.l.length, c3'⟩ [.int .i64 x.k, .int .i64 x.t.k, .int .i64 x.t.n, .string x.t.s, .slice a3 x.t.l.length c3'] rfl (by rw [HXL.out]; rfl) (HCO.out _ (HO3.out.same (Only.alloc _ _ _))).2 w3.heap.size 113 (heap_alloc_new w3 _) (by rfl) (by rw [HXL.out]; have := HGL.out; omega) (HCO.out _ (HO3.out.same (Only.alloc _ _ _))).1.hb.2.2 ?_
             intro go' gc2 w6 hrow6 ho6 hnew6
             rw [HXL.out]
             have HT := Lib.hid ((HCO.out _ (HO3.out.same (Only.alloc _ _ _))).1.grown HXL.out (HCO.out _ (HO3.out.same (Only.alloc _ _ _))).2 hrow6 ho6)
             obtain ⟨cb6, fb6⟩ := HT.out.2
             clear hrow6 ho6 hnew6))
        all_goals
          go_wp2_with fail
          go_roundw
          case rel => exact ⟨j + 1, go', gc2, by go_num, by omega, Lib.hid HT.out.1⟩
          case measure => simp [RowKit.intOf]; omega
      · obtain rfl : j = gs.length := by omega
        obtain ⟨y0, y1, y2, y3, y4, y5⟩ := hR.out.box.cells
        have HQ5 := Lib.hid (HQ.out.only hR.out.o (fun e => e))
        obtain ⟨d0, d1, d2, d3, d4, d5⟩ := HQ5.out.cells
        obtain ⟨g0, g1, g2, g3, g4, g5⟩ := HQ5.out.free
        have HS5 := Lib.hid (HQ5.out.set (.int .i64 t.k) (.int .i64 t.n) (.string t.s) (.slice a t.l.length c) (.slice g gs.length gc') (.int .i64 v))
        obtain ⟨WF, hWF⟩ : ∃ WF, WF = (((((wr.setCell ⟨w.heap.size + 1, 0, none⟩ (.int .i64 t.k)).setCell ⟨w.heap.size + 1, 1, none⟩ (.int .i64 t.n)).setCell ⟨w.heap.size + 1, 2, none⟩ (.string t.s)).setCell ⟨w.heap.size + 1, 3, none⟩ (.slice a t.l.length c)).setCell ⟨w.heap.size + 1, 4, none⟩ (.slice g gs.length gc')).setCell ⟨w.heap.size + 1, 5, none⟩ (.int .i64 v) := ⟨_, rfl⟩
        have HF : Hid (Hex (w.heap.size + 1) (.int .i64 t.k) (.int .i64 t.n) (.string t.s) (.slice a t.l.length c) (.slice g gs.length gc') (.int .i64 v) WF ∧ Only (· = w.heap.size + 1) wr WF) := Lib.hid (by rw [hWF]; exact HS5.out)
        clear HS5
        go_wp2_with fail
        rw [← hWF]
        clear hWF
        refine bodyPost_ret (v := .agg #[.int .i64 t.k, .int .i64 t.n, .string t.s, .slice a t.l.length c, .slice g gs.length gc', .int .i64 v]) (results_clause rfl _ WF (w.heap.size + 1) _ _ _ _ _ _ rfl HF.out.1) rfl ?_
        have hz := HES.out
        have ho := HF.out.2
        have hbb := hR.out.hb
        exact ⟨a, c, g, gc', rfl, (hR.out.r.only ho (fun k h => by omega) (fun k h e => by have e' : k = w.heap.size + 1 := e; omega)).mono (fun k h => ⟨by omega, Nat.lt_of_lt_of_le (by omega) ho.size⟩), idx.Only.cut (HO.out.same hR.out.o) ho (fun k e => by have e' : k = w.heap.size + 1 := e; omega)⟩
end Go.Proofs.Ythfilpacmllhpab.bases
