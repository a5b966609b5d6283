/- Clauses: the term of a clause that has goals. -/
import Derived.Shelf.RegionOpen
import Derived.Test.YtoogmlgaeipenaaClause18
namespace Go.Proofs.Ytoogmlgaeipenaa.terms
set_option maxRecDepth 100000
open Go.RowKit Go.Proofs.Ytoogmlgaeipenaa.own Go.Maps Go.Shelf
attribute [local go_sem] Oper.semAt_some
theorem Row.kept {P : Nat → Prop} {W W' : World} {row : Option Nat} {ao : Option Addr} {l : List T} (h : Row P W ao l) (hg : W.grownBy W' row) (hr : ∀ r, row = some r → ∃ o : Obj, W.heap[r]? = some o ∧ o.isCells = false) : Row P W' ao l := by
  induction h with
  | mk ao l ro rc cells subs ih =>
    refine .mk ao l ro rc (fun i x hx => ?_) ih
    obtain ⟨b, off, h1, h2, h3, h4, h5, h6, h7⟩ := cells i x hx
    exact ⟨b, off, h1, h2, cell_kept h3 hg hr, cell_kept h4 hg hr, cell_kept h5 hg hr, cell_kept h6 hg hr, h7.1, (frozen_kept h3 hg hr).trans h7.2⟩
theorem Quad.kept {b : Nat} {x0 x1 x2 x3 : Value} {W W' : World} {row : Option Nat} (h : Quad b x0 x1 x2 x3 W) (hg : W.grownBy W' row) (hr : ∀ r, row = some r → ∃ o : Obj, W.heap[r]? = some o ∧ o.isCells = false) : Quad b x0 x1 x2 x3 W' := by
  have hb := lt_of_block h
  unfold Quad at *
  rw [hg.block b hb (fun e => by
    obtain ⟨o, ho, hc⟩ := hr b e.symm
    rw [h] at ho
    cases ho
    cases hc)]
  exact h
/-- A goal's box. -/
def Pent (b : Nat) (x0 x1 x2 x3 x4 : Value) (w : World) : Prop := w.heap[b]? = some (.cells #[x0, x1, x2, x3, x4] 59 (0, 0))
theorem Pent.cells {b : Nat} {x0 x1 x2 x3 x4 : Value} {w : World} (h : Pent b x0 x1 x2 x3 x4 w) : w.cell? ⟨b, 0, none⟩ = some x0 ∧ w.cell? ⟨b, 1, none⟩ = some x1 ∧ w.cell? ⟨b, 2, none⟩ = some x2 ∧ w.cell? ⟨b, 3, none⟩ = some x3 ∧ w.cell? ⟨b, 4, none⟩ = some x4 := by
  refine ⟨?_, ?_, ?_, ?_, ?_⟩ <;> (rw [cell_of_blk h]; rfl)
theorem Pent.kept {b : Nat} {x0 x1 x2 x3 x4 : Value} {W W' : World} {row : Option Nat} (h : Pent b x0 x1 x2 x3 x4 W) (hg : W.grownBy W' row) (hr : ∀ r, row = some r → ∃ o : Obj, W.heap[r]? = some o ∧ o.isCells = false) : Pent b x0 x1 x2 x3 x4 W' := by
  have hb := lt_of_block h
  unfold Pent at *
  rw [hg.block b hb (fun e => by
    obtain ⟨o, ho, hc⟩ := hr b e.symm
    rw [h] at ho
    cases ho
    cases hc)]
  exact h
theorem egs_of {w0 : World} {B g cap : Nat} {S : Nat → Prop} {gl : List Gl} {P : Nat → Prop} (h : GlP B (some ⟨g, 0, none⟩) cap gl w0) (hg : GoodG P w0 gl) (m : Nat) (hm : m ≤ gl.length) (hS : ¬ S g) : ∃ zs : List (Eg P w0), zs.map (fun x => (x.k, x.t)) = ((gl.take m).map (fun y => (y.k, y.x.t))).reverse ∧ Egs S g 0 m zs w0 := by
  have hcell : ∀ i (y : Gl), gl[i]? = some y → ∀ j, j < 5 → w0.cell? ⟨g, i * 5 + j, none⟩ = (encG y)[j]? := fun i y hy j hj => by
    obtain ⟨g', hg', _, hc⟩ := h.at liesG i y hy
    cases hg'
    exact (hc j hj).1
  have hlt : g < w0.heap.size := (h.head _ rfl).2.2
  obtain ⟨f, hf⟩ : ∃ f : (i : Nat) → i < gl.length → Eg P w0, ∀ i hi, f i hi = ⟨i, gl[i].k, gl[i].x.t, gl[i].x.ao, gl[i].x.cap, (hg gl[i] (List.getElem_mem _)).2.2, (hg gl[i] (List.getElem_mem _)).2.1, (hg gl[i] (List.getElem_mem _)).1⟩ := ⟨_, fun _ _ => rfl⟩
  refine ⟨List.ofFn (fun k : Fin m => f (m - 1 - k.1) (by omega)), ?_, hlt, hS, by simp, ?_⟩
  · apply List.ext_getElem
    · simp; omega
    · intro k h1 h2
      simp at h1 h2 ⊢
      rw [hf]
      have e : min m gl.length = m := by omega
      simp only [e, and_self]
  · intro k x hx
    have hk : k < m := by have := (List.getElem?_eq_some_iff.1 hx).1; simpa using this
    have hx2 : x = f (m - 1 - k) (by omega) := by
      have := (List.getElem?_eq_some_iff.1 hx).2
      simpa using this.symm
    rw [hf] at hx2
    have h1 : gl[m - 1 - k]? = some gl[m - 1 - k] := List.getElem?_eq_getElem (by omega)
    have hc := hcell _ _ h1
    subst hx2
    rw [Nat.zero_add]
    exact ⟨rfl, hc 0 (by omega), hc 1 (by omega), hc 2 (by omega), hc 3 (by omega), hc 4 (by omega)⟩
/-- A body that is put together from behind. -/
structure BackG (n9 : Nat) (w9 : World) (B6 : Nat) (cur : T) (W : World) : Prop where
  box : ∃ uo uc, Quad B6 (.int .i64 cur.k) (.int .i64 cur.n) (.string cur.s) (.slice uo cur.l.length uc) W ∧ Row (fun q => q < W.heap.size ∧ q ≠ B6) W uo cur.l
  sane : cur.Sane
  own : Only (fun k => k = B6) w9 W
theorem BackG.kept {n9 : Nat} {w9 : World} {B6 : Nat} {cur : T} {W W' : World} (h : BackG n9 w9 B6 cur W) {row : Option Nat} (hg : W.grownBy W' row) (hr : ∀ r, row = some r → w9.heap.size ≤ r ∧ ∃ o : Obj, W.heap[r]? = some o ∧ o.isCells = false) : BackG n9 w9 B6 cur W' := by
  obtain ⟨uo, uc, hq, hrow⟩ := h.box
  refine ⟨⟨uo, uc, hq.kept hg (fun r e => (hr r e).2), (hrow.kept hg (fun r e => (hr r e).2)).mono (fun q hq => ⟨Nat.lt_of_lt_of_le hq.1 hg.size, hq.2⟩)⟩, h.sane, h.own.trans (Only.grown hg) (fun k hk e => ?_)⟩
  have := (hr k (show row = some k from e.symm)).1
  omega
theorem BackG.only {n9 : Nat} {w9 : World} {B6 : Nat} {cur : T} {W W' : World} (h : BackG n9 w9 B6 cur W) (ho : Only (fun _ => False) W W') : BackG n9 w9 B6 cur W' := by
  obtain ⟨uo, uc, hq, hrow⟩ := h.box
  exact ⟨⟨uo, uc, hq.only ho (fun e => e), (hrow.only ho (fun q hq => hq.1) (fun _ _ e => e)).mono (fun q hq => ⟨Nat.lt_of_lt_of_le hq.1 ho.size, hq.2⟩)⟩, h.sane, h.own.same (ho.no _)⟩
theorem keeps_of {B B6 : Nat} {W W' : World} (ho : Only (fun k => k = B6) W W') (hb : B6 < B) : KeepsFrom B W W' := ⟨ho.size, fun k o hk h _ => by
  rw [ho.block k (Array.getElem?_eq_some_iff.1 h).1 (fun e => by omega)]; exact h⟩
/-- The body so far. -/
def bodyCur {P : Nat → Prop} {w0 : World} (z : T) (pre : List (Eg P w0)) : T := joinF ((pre.map (fun x => calF x.t)).reverse) z
theorem bodyCur_snoc {P : Nat → Prop} {w0 : World} (z : T) (pre : List (Eg P w0)) (x : Eg P w0) : bodyCur z (pre ++ [x]) = .mk 4 0 nComma [calF x.t, bodyCur z pre] := by simp [bodyCur, joinF]
set_option maxHeartbeats 16000000 in
theorem Back_many (h z : T) (gl0 : List Gl) (y : Gl) (gl : List Gl) (hgl : gl = gl0 ++ [y]) (hyz : y.x.t = z) (ho : Option Addr) (hc : Nat) (g gc n : Nat) (w : World) (hs : h.Sane) (hl : Lies w ho h.l) (hr : GlP 0 (some ⟨g, 0, none⟩) gc gl w) (hg : GoodG (· < w.heap.size) w gl) (hn : gl.length ≤ 200) (hz : (T.mk 4 0 nIf [h, joinF (gl0.map (fun y => calF y.x.t)) (calF z)]).size ≤ 900000) :
    Calls Try.prog 17 #[.agg #[.int .i64 h.k, .int .i64 h.n, .string h.s, .slice ho h.l.length hc, .slice (some ⟨g, 0, none⟩) gl.length gc, .int .i64 n]] w fun e w' => ∃ a c, e = .returned (tv (clF (.mk 4 0 nIf [h, joinF (gl0.map (fun y => calF y.x.t)) (calF z)])) a c) ∧ Lies w' a (clF (.mk 4 0 nIf [h, joinF (gl0.map (fun y => calF y.x.t)) (calF z)])).l ∧ Only (fun _ => False) w w' := by
  obtain ⟨u, hu⟩ : ∃ u, u = T.mk 4 0 nIf [h, joinF (gl0.map (fun y => calF y.x.t)) (calF z)] := ⟨_, rfl⟩
  rw [← hu] at hz ⊢
  have HU := Lib.hid hu
  clear hu
  obtain ⟨m, hm⟩ : ∃ m, m = gl0.length := ⟨_, rfl⟩
  have hlen : gl.length = m + 1 := by rw [hgl, hm]; simp
  have hget : gl[m]? = some y := by rw [hgl, hm]; simp
  have hk : y.k = kindF z := by rw [(hg y (by rw [hgl]; simp)).1, hyz]
  have hcap : gl.length ≤ gc := (hr.cap_ge).1
  have HG := Lib.hid hg
  have HR := Lib.hid hr
  have HL := Lib.hid hl
  have HS := Lib.hid hs
  have HN := Lib.hid hn
  have HLEN := Lib.hid hlen
  have HGET := Lib.hid hget
  have HK := Lib.hid hk
  have HYZ := Lib.hid hyz
  have HZ := Lib.hid hz
  have HGL := Lib.hid hgl
  have HM := Lib.hid hm
  obtain ⟨len, hlq⟩ : ∃ len, len = gl.length := ⟨_, rfl⟩
  have HLQ := Lib.hid hlq
  rw [← hlq] at hcap hn hlen ⊢
  have h1 : ¬ (len : Int) > 200 := by omega
  have h2 : ((len : Int) == 0) = false := by rw [beq_eq_false_iff_ne]; omega
  have h3 : IntKind.i64.wrap ((len : Int) - 1) = (m : Int) := by rw [IntWalk.i64_in _ (by omega)]; omega
  have h4 : (0 : Int) ≤ (m : Int) := by omega
  have h5 : (m : Int) < (len : Int) := by omega
  have h6 : m ≤ gc := by omega
  have h7 : ((m : Int)).toNat = m := by omega
  have hq0 : Hex w.heap.size (.int .i64 h.k) (.int .i64 h.n) (.string h.s) (.slice ho h.l.length hc) (.slice (some ⟨g, 0, none⟩) len gc) (.int .i64 n) ((w.alloc (.cells #[.int .i64 h.k, .int .i64 h.n, .string h.s, .slice ho h.l.length hc, .slice (some ⟨g, 0, none⟩) len gc, .int .i64 n] 37)).alloc (.cells #[.int .i64 0, .int .i64 0, .string ⟨#[]⟩, .slice none 0 0] 24)) := Hex.only (b := w.heap.size) (heap_alloc_new w _) (Only.alloc (fun _ => False) _ _) (fun e => e)
  have hz0 : Zero (w.heap.size + 1) ((w.alloc (.cells #[.int .i64 h.k, .int .i64 h.n, .string h.s, .slice ho h.l.length hc, .slice (some ⟨g, 0, none⟩) len gc, .int .i64 n] 37)).alloc (.cells #[.int .i64 0, .int .i64 0, .string ⟨#[]⟩, .slice none 0 0] 24)) := by
    have := Zero.new (w.alloc (.cells #[.int .i64 h.k, .int .i64 h.n, .string h.s, .slice ho h.l.length hc, .slice (some ⟨g, 0, none⟩) len gc, .int .i64 n] 37))
    rwa [show (w.alloc (.cells #[.int .i64 h.k, .int .i64 h.n, .string h.s, .slice ho h.l.length hc, .slice (some ⟨g, 0, none⟩) len gc, .int .i64 n] 37)).heap.size = w.heap.size + 1 by simp] at this
  have ho0 : Only (fun _ => False) w ((w.alloc (.cells #[.int .i64 h.k, .int .i64 h.n, .string h.s, .slice ho h.l.length hc, .slice (some ⟨g, 0, none⟩) len gc, .int .i64 n] 37)).alloc (.cells #[.int .i64 0, .int .i64 0, .string ⟨#[]⟩, .slice none 0 0] 24)) := (Only.alloc _ _ _).same (Only.alloc _ _ _)
  have hsz0 : ((w.alloc (.cells #[.int .i64 h.k, .int .i64 h.n, .string h.s, .slice ho h.l.length hc, .slice (some ⟨g, 0, none⟩) len gc, .int .i64 n] 37)).alloc (.cells #[.int .i64 0, .int .i64 0, .string ⟨#[]⟩, .slice none 0 0] 24)).heap.size = w.heap.size + 2 := by simp
  have HQ0 := Lib.hid hq0
  have HZ0 := Lib.hid hz0
  have HO0 := Lib.hid ho0
  have HSZ0 := Lib.hid hsz0
  obtain ⟨c0, c1, c2, c3, c4, c5⟩ := hq0.cells
  have hzc : ∀ W, Only (fun _ => False) w W → W.cell? ⟨g, m * 5, none⟩ = some (.int .i64 (kindF z)) ∧ W.cell? ⟨g, m * 5 + 1, none⟩ = some (.int .i64 z.k) ∧ W.cell? ⟨g, m * 5 + 2, none⟩ = some (.int .i64 z.n) ∧ W.cell? ⟨g, m * 5 + 3, none⟩ = some (.string z.s) ∧ W.cell? ⟨g, m * 5 + 4, none⟩ = some (.slice y.x.ao z.l.length y.x.cap) := fun W ho => by
    obtain ⟨g', hg', _, hcc⟩ := (hr.only ho (fun _ _ e => e)).at liesG m y hget
    cases hg'
    rw [← hk, ← hyz]
    exact ⟨(hcc 0 (by omega)).1, (hcc 1 (by omega)).1, (hcc 2 (by omega)).1, (hcc 3 (by omega)).1, (hcc 4 (by omega)).1⟩
  have hyr : Row (· < w.heap.size) w y.x.ao z.l ∧ z.Sane := by
    have := hg y (by rw [hgl]; simp)
    rw [hyz] at this
    exact ⟨this.2.2, this.2.1⟩
  have HYR := Lib.hid hyr
  obtain ⟨e0, e1, e2, e3, e4⟩ := hzc _ ho0
  clear hq0 hz0 ho0 hsz0 hr hg hl hs hz hgl hm hget hk hcap hlq hn hlen hzc hyr hyz
  refine (callsIn_wide (n := 5)).1 (callsIn_of_wp_marks Try.func17 rfl trivial (wpIn_wide.2 ?_))
  simp only [Try.ntmps17, List.size_toArray, List.length_cons, List.length_nil, Nat.reduceAdd, Nat.reduceSub, Array.replicate_succ, Array.replicate_zero, List.push_toArray, List.append_toArray, List.nil_append, List.cons_append]
  go_wp2_with fail
  generalize (w.alloc (.cells #[.int .i64 h.k, .int .i64 h.n, .string h.s, .slice ho h.l.length hc, .slice (some ⟨g, 0, none⟩) len gc, .int .i64 n] 37)).alloc (.cells #[.int .i64 0, .int .i64 0, .string ⟨#[]⟩, .slice none 0 0] 24) = w1 at *
  refine (called_any (P := (· < w1.heap.size)) z y.x.ao y.x.cap w1 ((HYR.out.1.only HO0.out (fun _ h => h) (fun _ _ e => e)).mono (fun k hk => Nat.lt_of_lt_of_le hk HO0.out.size)) HYR.out.2 (fun _ h => h)).mono ?_
  rintro e w2 ⟨za, zc, rfl, hzr, hzs, ho2⟩
  have HQ2 := Lib.hid (HQ0.out.only ho2 (fun e => e))
  have HZ2 := Lib.hid (HZ0.out.only ho2 (fun e => e))
  have HO2 := Lib.hid (HO0.out.same ho2)
  have HZR := Lib.hid (hzr.mono (fun k hk => Nat.lt_of_lt_of_le hk ho2.size))
  have HZS := Lib.hid hzs
  have hwb : Quad w2.heap.size (.int .i64 (calF z).k) (.int .i64 (calF z).n) (.string (calF z).s) (.slice za (calF z).l.length zc) (w2.alloc (.cells #[.int .i64 (calF z).k, .int .i64 (calF z).n, .string (calF z).s, .slice za (calF z).l.length zc] 24)) := heap_alloc_new _ _
  have hq3 := HQ2.out.only (Only.alloc (fun _ => False) w2 (.cells #[.int .i64 (calF z).k, .int .i64 (calF z).n, .string (calF z).s, .slice za (calF z).l.length zc] 24)) (fun e => e)
  have HB2 : Hid (w.heap.size + 2 ≤ w2.heap.size) := Lib.hid (by have := ho2.size; have := HSZ0.out; omega)
  clear c0 c1 c2 c3 c4 c5 e0 e1 e2 e3 e4 hzr hzs ho2
  obtain ⟨c0, c1, c2, c3, c4, c5⟩ := hq3.cells
  have HQ3 := Lib.hid hq3
  have HWB := Lib.hid hwb
  clear hq3 hwb
  go_wp2_with fail
  refine (bwd_any _ _ _ _).mono ?_
  rintro e w9 ⟨rfl, rfl⟩
  go_wp2_with fail
  clear c0 c1 c2 c3 c4 c5
  have ho9 : Only (fun _ => False) w2 ((w2.alloc (.cells #[.int .i64 (calF z).k, .int .i64 (calF z).n, .string (calF z).s, .slice za (calF z).l.length zc] 24)).alloc (.cells #[.slice (some ⟨g, 0, none⟩) m gc] 35)) := (Only.alloc _ _ _).same (Only.alloc _ _ _)
  have hq9 : Quad w2.heap.size (.int .i64 (calF z).k) (.int .i64 (calF z).n) (.string (calF z).s) (.slice za (calF z).l.length zc) ((w2.alloc (.cells #[.int .i64 (calF z).k, .int .i64 (calF z).n, .string (calF z).s, .slice za (calF z).l.length zc] 24)).alloc (.cells #[.slice (some ⟨g, 0, none⟩) m gc] 35)) := HWB.out.only (Only.alloc (fun _ => False) _ _) (fun e => e)
  have hx9 := HQ3.out.only (Only.alloc (fun _ => False) _ (.cells #[.slice (some ⟨g, 0, none⟩) m gc] 35)) (fun e => e)
  have hb9 : ((w2.alloc (.cells #[.int .i64 (calF z).k, .int .i64 (calF z).n, .string (calF z).s, .slice za (calF z).l.length zc] 24)).alloc (.cells #[.slice (some ⟨g, 0, none⟩) m gc] 35)).cell? ⟨w2.heap.size + 1, 0, none⟩ = some (.slice (some ⟨g, 0, none⟩) m gc) := by
    have := heap_alloc_new (w2.alloc (.cells #[.int .i64 (calF z).k, .int .i64 (calF z).n, .string (calF z).s, .slice za (calF z).l.length zc] 24)) (.cells #[.slice (some ⟨g, 0, none⟩) m gc] 35)
    rw [show (w2.alloc (.cells #[.int .i64 (calF z).k, .int .i64 (calF z).n, .string (calF z).s, .slice za (calF z).l.length zc] 24)).heap.size = w2.heap.size + 1 by simp] at this
    rw [cell_of_blk this]
    rfl
  have hs9 : ((w2.alloc (.cells #[.int .i64 (calF z).k, .int .i64 (calF z).n, .string (calF z).s, .slice za (calF z).l.length zc] 24)).alloc (.cells #[.slice (some ⟨g, 0, none⟩) m gc] 35)).heap.size = w2.heap.size + 2 := by simp
  generalize (w2.alloc (.cells #[.int .i64 (calF z).k, .int .i64 (calF z).n, .string (calF z).s, .slice za (calF z).l.length zc] 24)).alloc (.cells #[.slice (some ⟨g, 0, none⟩) m gc] 35) = w9 at *
  obtain ⟨B6, hB6⟩ : ∃ B6, w2.heap.size = B6 := ⟨_, rfl⟩
  have HZR2 := HZR.out
  have hB2 := HB2.out
  rw [hB6] at hq9 hb9 hs9 hB2 HZR2
  have HO9 : Hid (Only (fun _ => False) w w9) := Lib.hid (HO2.out.same ho9)
  have hgw : g < w.heap.size := (HR.out.head _ rfl).2.2
  obtain ⟨zs, hzm, hzs⟩ := egs_of (S := fun k => k = B6 ∨ w9.heap.size ≤ k) (P := (· < w.heap.size)) (HR.out.only HO9.out (fun _ _ e => e)) (HG.out.only HO9.out (fun _ h => h) (fun _ _ e => e)) m (by have := HLEN.out; omega) (by have := HO9.out.size; omega)
  have hseq : SeqStopsK Fence.wide (5 - 1) Try.prog 90 #[.pointer (some ⟨B6 + 1, 0, none⟩)] Eg.enc (Only (fun k => k = B6 ∨ w9.heap.size ≤ k)) (fun ys => ys = zs) (fun pre => pre <+: zs) m w9 :=
    fun l J Jx W hW _ _ hY h0 => bwd1_in (5 - 1) (by omega) l (B6 + 1) g 0 m gc _ zs (by have := HLEN.out; have := HN.out; omega) J Jx hY W ((hW.cell (p := ⟨B6 + 1, 0, none⟩) (by show B6 + 1 < _; omega)).trans hb9) ⟨by have := hW.size; omega, by omega⟩ (hzs.only (Only.of_below hW _)) h0
  have HST : Hid (BackG 0 w9 B6 (calF z) w9) := Lib.hid ⟨⟨za, zc, hq9, (HZR2.only ho9 (fun q hq => by rw [hB6]; exact hq) (fun _ _ e => e)).mono (fun q hq => ⟨by have hq' : q < B6 := hq; omega, by have hq' : q < B6 := hq; omega⟩)⟩, HZS.out, Only.refl _ _⟩
  have HRES : Hid (Zero (w.heap.size + 1) w9) := Lib.hid (HZ2.out.only ho9 (fun e => e))
  have HX9 := Lib.hid hx9
  have HBB : Hid (w.heap.size + 2 ≤ B6 ∧ B6 < w9.heap.size) := Lib.hid ⟨hB2, by omega⟩
  have HZM := Lib.hid hzm
  rw [hB6]
  clear hzs hq9 hb9 hx9 ho9 hB2 HZR2 hzm hgw HZR HB2 HWB HQ3 HQ2 HZ2 HO2
  refine wpIn_wide.1 (wpIn_rangeFunc_ownH (F := Fence.wide) (n := 5) rfl (by omega) (gf := 90) (lb := #[.pointer (some ⟨B6 + 1, 0, none⟩)]) rfl trivial (enters_of Try.func90 (by kernel_rfl) rfl) hseq (fun h k => h.same k)
    (fun W l o o' hl _ _ _ => (Only.grown (grownBy_putObj' W l o')).mono (fun k _ e => by
      have e2 : k = l := Option.some.inj (show some k = some l from e)
      right; omega)) (Below.refl _ _) (fun _ => rfl)
    (fun (pre : List (Eg (· < w.heap.size) w9)) W => BackG 0 w9 B6 (bodyCur (calF z) pre) W) (fun _ _ _ => False)
    (fun pre A B row h hg hr => h.kept hg hr) (fun _ _ _ _ _ h _ _ => h) HST.out
    (fun x a' W => ∃ Bx, w9.heap.size ≤ Bx ∧ Pent Bx (.int .i64 x.k) (.int .i64 x.t.k) (.int .i64 x.t.n) (.string x.t.s) (.slice x.ao x.t.l.length x.cap) W ∧ a' = { tmps := #[.agg #[.int .i64 h.k, .int .i64 h.n, .string h.s, .slice ho h.l.length hc, .slice (some ⟨g, 0, none⟩) len gc, .int .i64 n], .pointer (some ⟨w.heap.size, 0, none⟩), .pointer (some ⟨w.heap.size + 1, 0, none⟩), .int .i64 m, .pointer (some ⟨B6, 0, none⟩), undef, .pointer (some ⟨Bx, 0, none⟩), .pointer (some ⟨w.heap.size, 4, none⟩), .slice (some ⟨g, 0, none⟩) len gc, .int .i64 len, .bool false, undef, .pointer (some ⟨w.heap.size, 4, none⟩), .slice (some ⟨g, 0, none⟩) len gc, .int .i64 len, .bool false, undef, undef, undef, .pointer (some ⟨w.heap.size, 4, none⟩), .slice (some ⟨g, 0, none⟩) len gc, .int .i64 len, .int .i64 m, .pointer (some ⟨w.heap.size, 4, none⟩), .slice (some ⟨g, 0, none⟩) len gc, .int .i64 m, .pointer (some ⟨g, m * 5, none⟩), .agg #[.int .i64 (kindF z), .int .i64 z.k, .int .i64 z.n, .string z.s, .slice y.x.ao z.l.length y.x.cap], .agg #[.int .i64 (calF z).k, .int .i64 (calF z).n, .string (calF z).s, .slice za (calF z).l.length zc], .pointer (some ⟨w.heap.size, 4, none⟩), .slice (some ⟨g, 0, none⟩) len gc, .int .i64 m, .slice (some ⟨g, 0, none⟩) m gc, .func (.func 90) #[] #[.pointer (some ⟨B6 + 1, 0, none⟩)], .int .i64 (x.i : Int), .agg #[.int .i64 x.k, .int .i64 x.t.k, .int .i64 x.t.n, .string x.t.s, .slice x.ao x.t.l.length x.cap], undef, undef, undef, undef, undef, undef, undef, undef, undef], defers := [] })
    (fun x a' _ A B row h hg hr => by
      obtain ⟨Bx, h1, h2, h3⟩ := h
      exact ⟨Bx, h1, h2.kept hg (fun r e => (hr r e).2), h3⟩) ?assign ?body ?done ?stop)
  case stop => intro D c pre W _ _ h _; exact h.elim
  case assign =>
    intro l pre x W K hI hK
    have HI := Lib.hid hI
    have HKK := Lib.hid hK
    clear hI hK
    gi_wp2
    refine HKK.out _ _ ((KeepsOthers.alloc _ _).from _) (Only.alloc _ _ _) (HI.out.only (Only.alloc _ _ _)) ⟨W.heap.size, HI.out.own.size, heap_alloc_new W _, rfl⟩
  case body =>
    rintro l pre x a' W hl ⟨r, hr⟩ hI ⟨Bx, hBx, hqx, rfl⟩ hlt
    obtain ⟨uo, uc, hq6, hrow6⟩ := hI.box
    have HBC := Lib.hid (bodyCur_snoc (calF z) pre x)
    have HI := Lib.hid hI
    have HXR : Hid (Row (fun q => q < W.heap.size ∧ q ≠ B6) W x.ao x.t.l) := Lib.hid ((x.row.only hI.own (fun q hq => Nat.lt_of_lt_of_le hq HO9.out.size) (fun q hq e => by have := HBB.out; have hq' : q < w.heap.size := hq; omega)).mono (fun q hq => ⟨by have hq' : q < w.heap.size := hq; have := HO9.out.size; have := hI.own.size; omega, by have := HBB.out; have hq' : q < w.heap.size := hq; omega⟩))
    have HXS := Lib.hid x.sane
    have HCS := Lib.hid hI.sane
    have HROW6 := Lib.hid hrow6
    rw [x.kind] at hqx ⊢
    have HXQ := Lib.hid hqx
    have HQ6 := Lib.hid hq6
    generalize hcu : bodyCur (calF z) pre = cur at *
    clear hcu
    obtain ⟨x0, x1, x2, x3, x4⟩ := hqx.cells
    obtain ⟨y0, y1, y2, y3⟩ := hq6.cells
    have hmx : Try.prog.follows .mixedOrders = true := by kernel_rfl
    have hdep : 1 ≤ 5 - 1 - 1 := by omega
    have hf1 : Fence.wide.fn 56 := trivial
    have hf2 : Fence.wide.fn 58 := trivial
    clear hqx hq6 hrow6 hI
    gi_wp2
    gi_region_with_o (first
      | (gi_at_call 56; refine (CallsIn.inRound l ((callsIn_wide (n := 5 - 1 - 1 - 1)).2 (called_any (P := fun q => q < W.heap.size ∧ q ≠ B6) x.t x.ao x.cap W.drew (HXR.out.only (Only.drew (fun _ => False) _) (fun q hq => hq.1) (fun _ _ e => e)) HXS.out (fun q hq => hq.1)))).mono ?_; rintro e w3 ⟨xa, xc, rfl, hxr, hxs, ho3⟩; have HO3 : Hid (Only (fun _ => False) W w3) := Lib.hid ((Only.drew _ _).same ho3); have HXR3 := Lib.hid hxr; have HXS3 := Lib.hid hxs; obtain ⟨p0, p1, p2, p3⟩ := (HQ6.out.only HO3.out (fun e => e)).cells; clear hxr hxs ho3)
      | (gi_at_call 58; refine (CallsIn.inRound l ((callsIn_wide (n := 5 - 1 - 1 - 1)).2 (both_any (P := fun q => q < W.heap.size ∧ q ≠ B6) nComma (calF x.t) cur xa uo xc uc w3 HXS3.out HCS.out HXR3.out (HROW6.out.only HO3.out (fun q hq => hq.1) (fun _ _ e => e)) (fun q hq => Nat.lt_of_lt_of_le hq.1 HO3.out.size)))).mono ?_; rintro e w4 ⟨a4, c4, rfl, hr4, ho4⟩; have HO4 : Hid (Only (fun _ => False) W w4) := Lib.hid (HO3.out.same ho4)
         have HQ4 := Lib.hid (HQ6.out.only HO4.out (fun e => e))
         have HR4 : Hid (Row (fun q => q < w4.heap.size ∧ q ≠ B6) w4 a4 [calF x.t, cur]) := Lib.hid (hr4.mono (fun q hq => by
           have h1 := HO3.out.size
           have h2 := HBB.out.2
           have h3 := HI.out.own.size
           have h4 := ho4.size
           rcases hq with hq | hq
           · exact ⟨by omega, hq.2⟩
           · exact ⟨hq.2, by omega⟩))
         obtain ⟨q0, q1, q2, q3⟩ := HQ4.out.cells
         obtain ⟨f0, f1, f2, f3⟩ := HQ4.out.free
         clear hr4 ho4))
    all_goals
      have hset := HQ4.out.set (.int .i64 4) (.int .i64 0) (.string nComma) (.slice a4 2 c4)
      obtain ⟨WF, hWF⟩ : ∃ WF, WF = ((((w4.setCell ⟨B6, 0, none⟩ (.int .i64 4)).setCell ⟨B6, 1, none⟩ (.int .i64 0)).setCell ⟨B6, 2, none⟩ (.string nComma)).setCell ⟨B6, 3, none⟩ (.slice a4 2 c4)) := ⟨_, rfl⟩
      have hown : Only (fun k => k = B6) W WF := by rw [hWF]; exact (HO4.out.no _).same hset.2
      have hfin : BackG 0 w9 B6 (.mk 4 0 nComma [calF x.t, cur]) WF := by
        refine ⟨⟨a4, c4, by rw [hWF]; exact hset.1, ?_⟩, sane_comp (by decide +kernel) (by show 2 ≤ maxLen; exact small_lit (by omega)), HI.out.own.same hown⟩
        rw [hWF]
        exact (HR4.out.only hset.2 (fun q hq => hq.1) (fun q hq e => hq.2 e)).mono (fun q hq => ⟨Nat.lt_of_lt_of_le hq.1 hset.2.size, hq.2⟩)
      have HFIN := Lib.hid hfin
      have HOWN := Lib.hid hown
      have HWF := Lib.hid hWF
      have HKF : Hid (KeepsFrom w9.heap.size W WF) := Lib.hid (keeps_of hown HBB.out.2)
      rw [← HBC.out] at HFIN
      clear hset hfin hown hWF
      gi_wp2
      rw [← HWF.out]
      first
        | exact ⟨HKF.out, HOWN.out.mono (fun _ _ e => .inl e), HFIN.out⟩
        | exact ⟨HKF.out.trans ((KeepsOthers.drew _).from _), (HOWN.out.same (Only.drew _ _)).mono (fun _ _ e => .inl e), HFIN.out.only (Only.drew _ _)⟩
  case done =>
    rintro D ys W hD rfl hI hK
    have hcu0 : bodyCur (calF z) ys = joinF (gl0.map (fun y => calF y.x.t)) (calF z) := by
      have h1 := congrArg (List.map (fun p : Int × T => calF p.2)) HZM.out
      rw [List.map_map, List.map_reverse, List.map_map] at h1
      have h2 : gl.take m = gl0 := by rw [HGL.out, HM.out]; simp
      rw [h2] at h1
      unfold bodyCur
      rw [show ys.map (fun x => calF x.t) = (gl0.map (fun y => calF y.x.t)).reverse from h1, List.reverse_reverse]
    rw [hcu0] at hI
    have HI := Lib.hid hI
    obtain ⟨uo, uc, hq6, hrow6⟩ := hI.box
    generalize hju : joinF (gl0.map (fun y => calF y.x.t)) (calF z) = cur at *
    have HOW : Hid (Only (fun k => k = B6) w9 W) := Lib.hid hI.own
    have HOWW : Hid (Only (fun _ => False) w W) := Lib.hid (Only.cut HO9.out hI.own (fun k e => by have := HBB.out; omega))
    have hx := HX9.out.only hI.own (fun e => by have := HBB.out; omega)
    have hres := HRES.out.only hI.own (fun e => by have := HBB.out; omega)
    have HRES2 := Lib.hid hres
    obtain ⟨x0, x1, x2, x3, x4, x5⟩ := hx.cells
    obtain ⟨y0, y1, y2, y3⟩ := hq6.cells
    have HR6 := Lib.hid hrow6
    have HKD := Lib.hid hK
    have HCS := Lib.hid hI.sane
    clear hI hq6 hrow6 hx hres hK hcu0 hju
    go_wp2_with fail
    refine (both_any (P := fun k => k < W.heap.size) nIf h cur ho uo hc uc W HS.out HCS.out (HL.out.later HOWW.out) (HR6.out.mono (fun q hq => hq.1)) (fun _ h => h)).mono ?_
    rintro e w4 ⟨a4, c4, rfl, hr4, ho4⟩
    have HR4 := Lib.hid hr4
    have HO4 := Lib.hid ho4
    clear hr4 ho4 x0 x1 x2 x3 x4 x5 y0 y1 y2 y3
    have HCL : Hid (Calls Try.prog 55 #[.agg #[.int .i64 4, .int .i64 0, .string nIf, .slice a4 2 c4]] w4 fun e w' => ∃ a c, e = .returned (tv (clF u) a c) ∧ Row (fun k => w4.heap.size ≤ k ∧ k < w'.heap.size) w' a (clF u).l ∧ Only (fun _ => False) w4 w') := Lib.hid (by
      rw [HU.out]
      exact Clone_any (.mk 4 0 nIf [h, cur]) w4 a4 c4 (HR4.out.mono (fun k hk => by rcases hk with hk | hk; exact Nat.lt_of_lt_of_le hk HO4.out.size; exact hk.2)) (sane_comp (by decide +kernel) (by show 2 ≤ maxLen; exact small_lit (by omega))) (by rw [← HU.out]; exact HZ.out))
    go_wp2_with fail
    refine HCL.out.mono ?_
    rintro e w5 ⟨a5, c5, rfl, hr5, ho5⟩
    have ho45 := HO4.out.same ho5
    have HRES5 := Lib.hid (HRES2.out.only ho45 (fun e => e))
    have HR5 := Lib.hid hr5
    have HO5 := Lib.hid (HOWW.out.same ho45)
    have HK5 : Hid (w5.heap[D]? = some (.deferred (some []))) := Lib.hid ((ho45.block D (Array.getElem?_eq_some_iff.1 HKD.out).1 (fun e => e)).trans HKD.out)
    have HW45 : Hid (w.heap.size + 2 ≤ w4.heap.size) := Lib.hid (by have := HBB.out; have := HOW.out.size; have := HO4.out.size; omega)
    clear hr5 ho5 ho45
    obtain ⟨e0, e1, e2, e3⟩ := HRES5.out.cells
    obtain ⟨f0, f1, f2, f3⟩ := HRES5.out.free
    have HSET := Lib.hid (HRES5.out.set (.int .i64 (clF u).k) (.int .i64 (clF u).n) (.string (clF u).s) (.slice a5 (clF u).l.length c5))
    generalize hcl : clF u = v at *
    obtain ⟨WF, hWF⟩ : ∃ WF, WF = ((((w5.setCell ⟨w.heap.size + 1, 0, none⟩ (.int .i64 v.k)).setCell ⟨w.heap.size + 1, 1, none⟩ (.int .i64 v.n)).setCell ⟨w.heap.size + 1, 2, none⟩ (.string v.s)).setCell ⟨w.heap.size + 1, 3, none⟩ (.slice a5 v.l.length c5)) := ⟨_, rfl⟩
    have HSET2 : Hid (Quad (w.heap.size + 1) (.int .i64 v.k) (.int .i64 v.n) (.string v.s) (.slice a5 v.l.length c5) WF ∧ Only (fun k => k = w.heap.size + 1) w5 WF) := Lib.hid (by rw [hWF]; exact HSET.out)
    have HWF := Lib.hid hWF
    have HCLV := Lib.hid hcl
    clear hWF HSET hcl
    go_wp2_with fail
    rw [← HWF.out]
    have hD2 := HBB.out
    have hK2 : WF.heap[D]? = some (.deferred (some [])) := (HSET2.out.2.block D (Array.getElem?_eq_some_iff.1 HK5.out).1 (fun e => by omega)).trans HK5.out
    have op : Only (fun k => k = D) WF (WF.putObj D (.deferred none)) := (Only.grown (grownBy_putObj' _ D (.deferred none))).mono (fun k _ e => Option.some.inj (show some k = some D from e))
    have hqe := HSET2.out.1.only op (fun e => by omega)
    have hcc := hqe.cells
    refine ⟨by simp, .inl ⟨_, _, rfl, run_takeDeferred hK2, ?_⟩⟩
    have o1 : Only (fun k => k = w.heap.size + 1 ∨ k = D) w5 (WF.putObj D (.deferred none)) := (HSET2.out.2.mono (fun _ _ e => .inl e)).trans (op.mono (fun _ _ e => .inr e)) (fun _ _ e => e)
    refine ⟨tv v a5 c5, results_term rfl _ _ (w.heap.size + 1) _ _ _ _ rfl hcc.1 hcc.2.1 hcc.2.2.1 hcc.2.2.2, ?_⟩
    have hwd : w.heap.size + 2 ≤ D := by have := HO9.out.size; omega
    rw [HCLV.out]
    refine ⟨a5, c5, rfl, ?_, Only.cut HO5.out o1 (fun k e => by omega)⟩
    have hr1 := HR5.out.only HSET2.out.2 (fun q hq => hq.2) (fun q hq e => by have := hq.1; have := HW45.out; omega)
    have hs1 := HSET2.out.2.size
    have hs2 := op.size
    exact (hr1.kept (grownBy_putObj' _ D (.deferred none)) (fun r e => by cases e; exact ⟨_, hK2, rfl⟩)).mono (fun q hq => by have := hq.2; omega)
end Go.Proofs.Ytoogmlgaeipenaa.terms
