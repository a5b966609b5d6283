/- Clauses: a body in memory: its goals, its integers. -/
import Derived.Test.YtoogmlgaeipenaaClause6
import Derived.Test.YtoogmlgaeipenaaClause7
import Derived.Test.YtoogmlgaeipenaaTerm43
import Derived.Deep.RegionLaw
namespace Go.Proofs.Ytoogmlgaeipenaa.terms
set_option maxRecDepth 100000
open Go.RowKit Go.Proofs.Ytoogmlgaeipenaa.own Go.Maps Go.Lib
section
variable {α : Type} {enc : α → List Value} {s : Nat}
theorem row_kind {E B : Nat} {ao : Option Addr} {cap : Nat} {l : List α} {W : World} (h : RowOf enc s E B ao cap l W) (g : Addr) (hg : ao = some g) : B ≤ g.block ∧ ∃ cs, W.heap[g.block]? = some (.cells cs E (0, 0)) := by
  rcases h.2 with ⟨h1, h2⟩ | ⟨g', cap', cur, hv, hb, hgg, _⟩
  · subst hg; simp at h1
  · subst hg
    simp only [Value.slice.injEq, Option.some.injEq] at hv
    rw [hv.1]
    exact ⟨hb, cur, hgg⟩
end
abbrev tBox (w : World) (t : T) (ao : Option Addr) (cap : Nat) : World := w.alloc (.cells #[.int .i64 t.k, .int .i64 t.n, .string t.s, .slice ao t.l.length cap] 24)
/-- A goal in memory: its kind, and its term. -/
structure Gl where
  k : Int
  x : It
def encG (g : Gl) : List Value := [.int .i64 g.k, .int .i64 g.x.t.k, .int .i64 g.x.t.n, .string g.x.t.s, .slice g.x.ao g.x.t.l.length g.x.cap]
theorem liesG : Go.Proofs.Ytoogmlgaeipenaa.own.Lies encG 5 := ⟨fun _ => rfl, by
  intro x u hu
  simp [encG] at hu
  rcases hu with rfl | rfl | rfl | rfl | rfl <;> rfl, by omega⟩
theorem infoG : (Try.prog.info? 59).map (fun i => (i.zero, i.size, i.bytes)) = some (some (.agg #[.int .i64 0, .int .i64 0, .int .i64 0, .string ⟨#[]⟩, .slice none 0 0]), 5, 64) := by kernel_rfl
abbrev GlP (B : Nat) (ao : Option Addr) (cap : Nat) (xs : List Gl) (w : World) : Prop := RowOf encG 5 59 B ao cap xs w
/-- Goals whose terms lie in blocks P, each of its kind. -/
def GoodG (P : Nat → Prop) (w : World) (gl : List Gl) : Prop := ∀ g ∈ gl, g.k = kindF g.x.t ∧ g.x.t.Sane ∧ Row P w g.x.ao g.x.t.l
def GoodI (P : Nat → Prop) (w : World) (il : List It) : Prop := ∀ x ∈ il, x.t.Sane ∧ Row P w x.ao x.t.l
theorem GoodG.only {P S : Nat → Prop} {w w' : World} {gl : List Gl} (h : GoodG P w gl) (ho : Only S w w') (hlt : ∀ k, P k → k < w.heap.size) (hS : ∀ k, P k → ¬ S k) : GoodG P w' gl := fun g hg => ⟨(h g hg).1, (h g hg).2.1, (h g hg).2.2.only ho hlt hS⟩
theorem GoodI.only {P S : Nat → Prop} {w w' : World} {il : List It} (h : GoodI P w il) (ho : Only S w w') (hlt : ∀ k, P k → k < w.heap.size) (hS : ∀ k, P k → ¬ S k) : GoodI P w' il := fun g hg => ⟨(h g hg).1, (h g hg).2.only ho hlt hS⟩
theorem GoodG.mono {P Q : Nat → Prop} {w : World} {gl : List Gl} (h : GoodG P w gl) (hPQ : ∀ k, P k → Q k) : GoodG Q w gl := fun g hg => ⟨(h g hg).1, (h g hg).2.1, (h g hg).2.2.mono hPQ⟩
theorem GoodI.mono {P Q : Nat → Prop} {w : World} {gl : List It} (h : GoodI P w gl) (hPQ : ∀ k, P k → Q k) : GoodI Q w gl := fun g hg => ⟨(h g hg).1, (h g hg).2.mono hPQ⟩
/-- A body in block bb, whose rows and itself are blocks S. -/
structure BodyC (P : Nat → Prop) (B bb : Nat) (S : Nat → Prop) (go : Option Addr) (gc : Nat) (io : Option Addr) (ic : Nat) (gl : List Gl) (il : List It) (w : World) : Prop where
  blk : w.heap[bb]? = some (.cells #[.slice go gl.length gc, .slice io il.length ic] 75 (0, 0))
  rowG : GlP B go gc gl w
  rowI : ItsP B io ic il w
  hasB : S bb
  hasG : ∀ k, RowAt go k → S k
  hasI : ∀ k, RowAt io k → S k
  low : ∀ k, S k → B ≤ k ∧ k < w.heap.size
  gs : GoodG P w gl
  is : GoodI P w il
  pb : ∀ k, P k → k < w.heap.size ∧ ¬ S k
theorem BodyC.later {P : Nat → Prop} {B bb : Nat} {S S' : Nat → Prop} {go io : Option Addr} {gc ic : Nat} {gl : List Gl} {il : List It} {w w' : World} (h : BodyC P B bb S go gc io ic gl il w) (ho : Only S' w w') (hS : ∀ k, S' k → False) : BodyC P B bb S go gc io ic gl il w' := by
  have hb : bb < w.heap.size := (h.low _ h.hasB).2
  have hlt : ∀ k, P k → k < w.heap.size := fun k hk => (h.pb k hk).1
  refine ⟨by rw [ho.block bb hb (fun e => hS _ e)]; exact h.blk, h.rowG.only ho (fun g hg e => hS _ e), h.rowI.only ho (fun g hg e => hS _ e), h.hasB, h.hasG, h.hasI, fun k hk => ⟨(h.low k hk).1, Nat.lt_of_lt_of_le (h.low k hk).2 ho.size⟩, h.gs.only ho hlt (fun k hk e => hS k e), h.is.only ho hlt (fun k hk e => hS k e), fun k hk => ⟨Nat.lt_of_lt_of_le (h.pb k hk).1 ho.size, (h.pb k hk).2⟩⟩
theorem BodyC.cells {P : Nat → Prop} {B bb : Nat} {S : Nat → Prop} {go io : Option Addr} {gc ic : Nat} {gl : List Gl} {il : List It} {w : World} (h : BodyC P B bb S go gc io ic gl il w) : w.cell? ⟨bb, 0, none⟩ = some (.slice go gl.length gc) ∧ w.cell? ⟨bb, 1, none⟩ = some (.slice io il.length ic) ∧ w.frozen? ⟨bb, 0, none⟩ = false ∧ w.frozen? ⟨bb, 1, none⟩ = false :=
  ⟨by rw [cell_of_blk h.blk]; rfl, by rw [cell_of_blk h.blk]; rfl, free_of_blk h.blk 0, free_of_blk h.blk 1⟩
theorem BodyC.back {P : Nat → Prop} {B bb : Nat} {S : Nat → Prop} {go io : Option Addr} {gc ic : Nat} {gl : List Gl} {il : List It} {w w' : World} (h : BodyC P B bb S go gc io ic gl il w) (ho : Only (RowAt go) w w') : w'.cell? ⟨bb, 0, none⟩ = some (.slice go gl.length gc) ∧ w'.frozen? ⟨bb, 0, none⟩ = false := by
  have hnb : ¬ RowAt go bb := by
    rintro ⟨a, ha, e⟩
    obtain ⟨_, cs, hk⟩ := row_kind h.rowG a ha
    rw [← e, h.blk] at hk
    simp at hk
  have hb := (h.low _ h.hasB).2
  obtain ⟨c0, _, f0, _⟩ := h.cells
  exact ⟨(ho.cell (p := ⟨bb, 0, none⟩) hb hnb).trans c0, (ho.frozen (p := ⟨bb, 0, none⟩) hb hnb).trans f0⟩
theorem BodyC.backI {P : Nat → Prop} {B bb : Nat} {S : Nat → Prop} {go io : Option Addr} {gc ic : Nat} {gl : List Gl} {il : List It} {w w' : World} (h : BodyC P B bb S go gc io ic gl il w) (ho : Only (RowAt io) w w') : w'.cell? ⟨bb, 1, none⟩ = some (.slice io il.length ic) ∧ w'.frozen? ⟨bb, 1, none⟩ = false := by
  have hnb : ¬ RowAt io bb := by
    rintro ⟨a, ha, e⟩
    obtain ⟨_, cs, hk⟩ := row_kind h.rowI a ha
    rw [← e, h.blk] at hk
    simp at hk
  have hb := (h.low _ h.hasB).2
  obtain ⟨_, c1, _, f1⟩ := h.cells
  exact ⟨(ho.cell (p := ⟨bb, 1, none⟩) hb hnb).trans c1, (ho.frozen (p := ⟨bb, 1, none⟩) hb hnb).trans f1⟩
theorem BodyC.blkI {P : Nat → Prop} {B bb : Nat} {S : Nat → Prop} {go io : Option Addr} {gc ic : Nat} {gl : List Gl} {il : List It} {w w' : World} (h : BodyC P B bb S go gc io ic gl il w) (ho : Only (RowAt io) w w') : w'.heap[bb]? = some (.cells #[.slice go gl.length gc, .slice io il.length ic] 75 (0, 0)) := by
  have hnb : ¬ RowAt io bb := by
    rintro ⟨a, ha, e⟩
    obtain ⟨_, cs, hk⟩ := row_kind h.rowI a ha
    rw [← e, h.blk] at hk
    simp at hk
  rw [ho.block bb (h.low _ h.hasB).2 hnb]
  exact h.blk
/-- What a step of the body leaves. -/
def BodyTo (P : Nat → Prop) (B bb : Nat) (S : Nat → Prop) (gl : List Gl) (il : List It) (w w' : World) : Prop := ∃ S' go gc io ic, BodyC P B bb S' go gc io ic gl il w' ∧ Only S w w' ∧ ∀ k, S' k → Grew S w w' k
theorem BodyTo.trans {P : Nat → Prop} {B bb : Nat} {S : Nat → Prop} {gl gl' : List Gl} {il il' : List It} {w w' w2 : World} (_h : BodyTo P B bb S gl il w w')
    (h2 : ∀ S' go gc io ic, BodyC P B bb S' go gc io ic gl il w' → Only S w w' → (∀ k, S' k → Grew S w w' k) → BodyTo P B bb S gl' il' w w2) : BodyTo P B bb S gl' il' w w2 := by
  obtain ⟨S', go, gc, io, ic, h, ho, hg⟩ := _h
  exact h2 S' go gc io ic h ho hg
theorem BodyTo.next {P : Nat → Prop} {B bb : Nat} {S S' : Nat → Prop} {gl' : List Gl} {il' : List It} {w w' w2 : World} (ho : Only S w w') (hg : ∀ k, S' k → Grew S w w' k) (h2 : BodyTo P B bb S' gl' il' w' w2) : BodyTo P B bb S gl' il' w w2 := by
  obtain ⟨S2, go, gc, io, ic, h, ho2, hg2⟩ := h2
  refine ⟨S2, go, gc, io, ic, h, ho.next (ho2.mono (fun k _ e => hg k e)), fun k hk => ?_⟩
  rcases hg2 k hk with e | e
  · rcases hg k e with e | e
    · exact .inl e
    · exact .inr ⟨e.1, Nat.lt_of_lt_of_le e.2 ho2.size⟩
  · exact .inr ⟨Nat.le_trans ho.size e.1, e.2⟩
theorem types_apart : (59 : Nat) ≠ 24 ∧ (75 : Nat) ≠ 24 ∧ (75 : Nat) ≠ 59 := by decide
/-- One goal more: the row has grown, the body's cell says so. -/
theorem BodyC.goal {P : Nat → Prop} {B bb : Nat} {S : Nat → Prop} {go io go' : Option Addr} {gc ic gc' : Nat} {gl : List Gl} {il : List It} {w w5 w6 : World} {g : Gl} (h : BodyC P B bb S go gc io ic gl il w) (ho : Only (fun _ => False) w w5) (hr : GlP B go' gc' (gl ++ [g]) w6) (ho6 : Only (RowAt go) w5 w6) (hn : NewRow w5.heap.size go go')
    (hg : g.k = kindF g.x.t ∧ g.x.t.Sane ∧ Row P w g.x.ao g.x.t.l) : BodyTo P B bb S (gl ++ [g]) il w (w6.setCell ⟨bb, 0, none⟩ (.slice go' (gl.length + 1) gc')) := by
  have h5 : BodyC P B bb S go gc io ic gl il w5 := h.later ho (fun _ e => e.elim)
  have hb5 := (h5.low _ h5.hasB).2
  have hnb : ¬ RowAt go bb := by
    rintro ⟨a, ha, e⟩
    obtain ⟨_, cs, hk⟩ := row_kind h5.rowG a ha
    rw [← e, h5.blk] at hk
    simp at hk
  have hnI : ∀ a, io = some a → ¬ RowAt go a.block := by
    rintro a ha ⟨b, hb, e⟩
    obtain ⟨_, cs, hk⟩ := row_kind h5.rowG b hb
    obtain ⟨_, cs', hk'⟩ := row_kind h5.rowI a ha
    rw [e, hk] at hk'
    simp at hk'
  have hblk : w6.heap[bb]? = some (.cells #[.slice go gl.length gc, .slice io il.length ic] 75 (0, 0)) := by rw [ho6.block bb hb5 hnb]; exact h5.blk
  have hnb' : ∀ a, go' = some a → a.block ≠ bb := by
    intro a ha e
    obtain ⟨_, cs, hk⟩ := row_kind hr a ha
    rw [e, hblk] at hk
    simp at hk
  have hset : Only (fun q => q = bb) w6 (w6.setCell ⟨bb, 0, none⟩ (.slice go' (gl.length + 1) gc')) := Only.setCell (S := fun q => q = bb) (p := ⟨bb, 0, none⟩) w6 rfl _
  have hlt6 : ∀ k, P k → k < w6.heap.size := fun k hk => Nat.lt_of_lt_of_le (h5.pb k hk).1 ho6.size
  have hlt5 : ∀ k, P k → k < w5.heap.size := fun k hk => (h5.pb k hk).1
  have hlt0 : ∀ k, P k → k < w.heap.size := fun k hk => (h.pb k hk).1
  have hnB5 : ∀ k, P k → ¬ RowAt go k := fun k hk e => (h.pb k hk).2 (h.hasG k e)
  have hnB6 : ∀ k, P k → ¬ k = bb := fun k hk e => (h.pb k hk).2 (by rw [e]; exact h.hasB)
  have hgs : GoodG P w5 (gl ++ [g]) := fun y hy => by
    rcases List.mem_append.1 hy with hy | hy
    · exact h5.gs y hy
    · rw [List.mem_singleton.1 hy]
      exact ⟨hg.1, hg.2.1, hg.2.2.only ho hlt0 (fun _ _ e => e)⟩
  have hown : Only S w (w6.setCell ⟨bb, 0, none⟩ (.slice go' (gl.length + 1) gc')) := ((ho.mono (fun _ _ e => e.elim)).trans ho6 (fun q _ e => h.hasG q e)).trans hset (fun q _ e => by rw [e]; exact h.hasB)
  refine ⟨fun k => S k ∨ RowAt go' k, go', gc', io, ic, ⟨?_, ?_, ?_, .inl h.hasB, fun k e => .inr e, fun k e => .inl (h.hasI k e), ?_, ?_, ?_, fun k hk => ⟨Nat.lt_of_lt_of_le (hlt6 k hk) hset.size, fun e => by
    rcases e with e | ⟨a, ha, e⟩
    · exact (h.pb k hk).2 e
    · rcases hn a ha with e2 | e2
      · exact (h.pb k hk).2 (h.hasG k ⟨a, e2, e⟩)
      · have := hlt5 k hk; omega⟩⟩, hown, ?_⟩
  · rw [blk_set hblk 0]
    simp
  · exact hr.only hset (fun a ha e => hnb' a ha e)
  · refine (h5.rowI.only ho6 hnI).only hset (fun a ha e => ?_)
    obtain ⟨_, cs', hk'⟩ := row_kind h5.rowI a ha
    have e' : a.block = bb := e
    rw [e', h5.blk] at hk'
    simp at hk'
  · rintro k (hk | ⟨a, ha, e⟩)
    · exact ⟨(h.low k hk).1, Nat.lt_of_lt_of_le (h.low k hk).2 hown.size⟩
    · exact ⟨by rw [e]; exact (hr.head a ha).2.1, by rw [e]; exact Nat.lt_of_lt_of_le (hr.head a ha).2.2 hset.size⟩
  · exact (hgs.only ho6 hlt5 hnB5).only hset hlt6 hnB6
  · exact (h5.is.only ho6 hlt5 hnB5).only hset hlt6 hnB6
  · rintro k (hk | ⟨a, ha, e⟩)
    · exact .inl hk
    · rcases hn a ha with e2 | e2
      · exact .inl (h.hasG k ⟨a, e2, e⟩)
      · exact .inr ⟨by rw [e]; exact Nat.le_trans ho.size e2, by rw [e]; exact Nat.lt_of_lt_of_le (hr.head a ha).2.2 hset.size⟩
/-- One integer more: an item that was appended empty and filled, whichever of the last two stores comes first. -/
theorem BodyC.whole {P : Nat → Prop} {B bb : Nat} {S : Nat → Prop} {go io io' : Option Addr} {gc ic ic' : Nat} {gl : List Gl} {il : List It} {w w5 w6 w7 : World} {y0 y : It} (h : BodyC P B bb S go gc io ic gl il w) (ho : Only (fun _ => False) w w5) (hr : ItsP B io' ic' (il ++ [y0]) w6) (ho6 : Only (RowAt io) w5 w6) (hn : NewRow w5.heap.size io io')
    (hg : y.t.Sane ∧ Row P w y.ao y.t.l) (h7 : ∀ a, io' = some a → a = ⟨a.block, 0, none⟩ → w7 = storedT (w6.setCell ⟨bb, 1, none⟩ (.slice io' (il.length + 1) ic')) a.block il.length y ∨ w7 = (storedT w6 a.block il.length y).setCell ⟨bb, 1, none⟩ (.slice io' (il.length + 1) ic')) : BodyTo P B bb S gl (il ++ [y]) w w7 := by
  have h5 : BodyC P B bb S go gc io ic gl il w5 := h.later ho (fun _ e => e.elim)
  have hb5 := (h5.low _ h5.hasB).2
  have hnb : ¬ RowAt io bb := by
    rintro ⟨a, ha, e⟩
    obtain ⟨_, cs, hk⟩ := row_kind h5.rowI a ha
    rw [← e, h5.blk] at hk
    simp at hk
  have hnG : ∀ a, go = some a → ¬ RowAt io a.block := by
    rintro a ha ⟨b, hb, e⟩
    obtain ⟨_, cs, hk⟩ := row_kind h5.rowI b hb
    obtain ⟨_, cs', hk'⟩ := row_kind h5.rowG a ha
    rw [e, hk] at hk'
    simp at hk'
  have hblk : w6.heap[bb]? = some (.cells #[.slice go gl.length gc, .slice io il.length ic] 75 (0, 0)) := by rw [ho6.block bb hb5 hnb]; exact h5.blk
  obtain ⟨a, ha⟩ : ∃ a, io' = some a := by
    obtain ⟨g, hg, _⟩ := hr.at liesIt il.length y0 (by simp)
    exact ⟨_, hg⟩
  obtain ⟨ha0, haB, hlt6⟩ := hr.head a ha
  have hne : a.block ≠ bb := by
    intro e
    obtain ⟨_, cs, hk⟩ := row_kind hr a ha
    rw [e, hblk] at hk
    simp at hk
  obtain ⟨ab, rfl⟩ : ∃ ab, a = ⟨ab, 0, none⟩ := ⟨_, ha0⟩
  have hlen : (il ++ [y0]).length = il.length + 1 := by simp
  have hset2 : (il ++ [y0]).set il.length y = il ++ [y] := by simp
  subst ha
  -- the world behind both stores
  have key : ItsP B (some ⟨ab, 0, none⟩) ic' (il ++ [y]) w7 ∧ w7.heap[bb]? = some (.cells #[.slice go gl.length gc, .slice (some ⟨ab, 0, none⟩) (il.length + 1) ic'] 75 (0, 0)) ∧ Only (fun q => q = ab ∨ q = bb) w6 w7 := by
    rcases h7 _ rfl rfl with e | e
    · have o1 : Only (fun q => q = bb) w6 (w6.setCell ⟨bb, 1, none⟩ (.slice (some ⟨ab, 0, none⟩) (il.length + 1) ic')) := Only.setCell (S := fun q => q = bb) (p := ⟨bb, 1, none⟩) w6 rfl _
      have r1 : ItsP B (some ⟨ab, 0, none⟩) ic' (il ++ [y0]) (w6.setCell ⟨bb, 1, none⟩ (.slice (some ⟨ab, 0, none⟩) (il.length + 1) ic')) := hr.only o1 (fun g hg e => hne (by cases hg; exact e))
      have r2 := item_stored r1 (j := il.length) (by rw [hlen]; omega) y
      rw [hset2] at r2
      subst e
      refine ⟨r2.1, ?_, (o1.mono (fun q _ e => .inr e)).same (r2.2.mono (fun q _ e => .inl e))⟩
      rw [r2.2.block bb (Nat.lt_of_lt_of_le (Nat.lt_of_lt_of_le hb5 ho6.size) o1.size) (fun e => hne e.symm), blk_set hblk 1]
      simp
    · have r2 := item_stored hr (j := il.length) (by rw [hlen]; omega) y
      rw [hset2] at r2
      have hblk2 : (storedT w6 ab il.length y).heap[bb]? = some (.cells #[.slice go gl.length gc, .slice io il.length ic] 75 (0, 0)) := by rw [r2.2.block bb (Nat.lt_of_lt_of_le hb5 ho6.size) (fun e => hne e.symm)]; exact hblk
      have o1 : Only (fun q => q = bb) (storedT w6 ab il.length y) ((storedT w6 ab il.length y).setCell ⟨bb, 1, none⟩ (.slice (some ⟨ab, 0, none⟩) (il.length + 1) ic')) := Only.setCell (S := fun q => q = bb) (p := ⟨bb, 1, none⟩) _ rfl _
      subst e
      refine ⟨r2.1.only o1 (fun g hg e => hne (by cases hg; exact e)), ?_, (r2.2.mono (fun q _ e => .inl e)).same (o1.mono (fun q _ e => .inr e))⟩
      rw [blk_set hblk2 1]
      simp
  obtain ⟨k1, k2, k3⟩ := key
  have hlt5 : ∀ k, P k → k < w5.heap.size := fun k hk => (h5.pb k hk).1
  have hlt6' : ∀ k, P k → k < w6.heap.size := fun k hk => Nat.lt_of_lt_of_le (hlt5 k hk) ho6.size
  have hlt0 : ∀ k, P k → k < w.heap.size := fun k hk => (h.pb k hk).1
  have hnB5 : ∀ k, P k → ¬ RowAt io k := fun k hk e => (h.pb k hk).2 (h.hasI k e)
  have hnB6 : ∀ k, P k → ¬ (k = ab ∨ k = bb) := fun k hk e => by
    rcases e with e | e
    · rcases hn _ rfl with e2 | e2
      · exact (h.pb k hk).2 (h.hasI k ⟨_, e2, e⟩)
      · have e2' : w5.heap.size ≤ ab := e2
        have := hlt5 k hk
        omega
    · exact (h.pb k hk).2 (by rw [e]; exact h.hasB)
  have his : GoodI P w5 (il ++ [y]) := fun z hz => by
    rcases List.mem_append.1 hz with hz | hz
    · exact h5.is z hz
    · rw [List.mem_singleton.1 hz]
      exact ⟨hg.1, hg.2.only ho hlt0 (fun _ _ e => e)⟩
  have hown : Only (Grew S w w6) w w7 := by
    refine ((ho.mono (fun _ _ e => e.elim)).trans ho6 (fun q _ e => .inl (h.hasI q e))).trans k3 (fun q hq e => ?_)
    rcases e with e | e
    · rcases hn _ rfl with e2 | e2
      · exact .inl (h.hasI q ⟨_, e2, e⟩)
      · have e2' : w5.heap.size ≤ ab := e2
        exact .inr ⟨by rw [e]; exact Nat.le_trans ho.size e2', by rw [e]; exact hlt6⟩
    · rw [e]; exact .inl h.hasB
  have hown2 : Only S w w7 := ⟨hown.os, hown.tape, hown.output, hown.size, fun k hk hS => hown.block k hk (fun e => by
    rcases e with e | e
    · exact hS e
    · omega)⟩
  refine ⟨fun k => S k ∨ k = ab, go, gc, some ⟨ab, 0, none⟩, ic', ⟨?_, ?_, k1, .inl h.hasB, fun k e => .inl (h.hasG k e), fun k e => ?_, ?_, ?_, ?_, fun k hk => ⟨Nat.lt_of_lt_of_le (hlt6' k hk) k3.size, fun e => by
    rcases e with e | e
    · exact (h.pb k hk).2 e
    · exact hnB6 k hk (.inl e)⟩⟩, hown2, ?_⟩
  · rw [k2]; simp
  · refine (h5.rowG.only ho6 hnG).only k3 (fun b hb e => ?_)
    obtain ⟨_, cs', hk'⟩ := row_kind h5.rowG b hb
    rcases e with e | e
    · have hb6 := (ho6.block b.block (lt_of_block hk') (hnG b hb)).trans hk'
      obtain ⟨_, cs2, hk2⟩ := row_kind hr _ rfl
      have hk2' : w6.heap[ab]? = some (.cells cs2 24 (0, 0)) := hk2
      rw [e, hk2'] at hb6
      simp at hb6
    · rw [e, h5.blk] at hk'
      simp at hk'
  · obtain ⟨g, hg, e⟩ := e
    cases hg
    exact .inr e
  · rintro k (hk | e)
    · exact ⟨(h.low k hk).1, Nat.lt_of_lt_of_le (h.low k hk).2 hown2.size⟩
    · rw [e]; exact ⟨haB, Nat.lt_of_lt_of_le hlt6 k3.size⟩
  · exact (h5.gs.only ho6 hlt5 hnB5).only k3 hlt6' hnB6
  · exact (his.only ho6 hlt5 hnB5).only k3 hlt6' hnB6
  · rintro k (hk | e)
    · exact .inl hk
    · rcases hn _ rfl with e2 | e2
      · exact .inl (h.hasI k ⟨_, e2, e⟩)
      · have e2' : w5.heap.size ≤ ab := e2
        exact .inr ⟨by rw [e]; exact Nat.le_trans ho.size e2', by rw [e]; exact Nat.lt_of_lt_of_le hlt6 k3.size⟩
end Go.Proofs.Ytoogmlgaeipenaa.terms
