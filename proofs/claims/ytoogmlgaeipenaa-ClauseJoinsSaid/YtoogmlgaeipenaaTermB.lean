
/- Terms: what a function tells in the places of variables, and what follows: 7 texts in one. -/
import Derived.Test.YtoogmlgaeipenaaTermA
import Derived.Laws.Pointers
import Derived.Maps.OwnSet
import Derived.KernelRfl
import Derived.WalkSpells
import Derived.RegionTactic
import Derived.ChangeAlike
import Derived.Laws.ResultCell
/- Terms: what a function tells in the places of variables. -/
namespace Go.Proofs.Ytoogmlgaeipenaa.terms
set_option maxRecDepth 100000
section
open Go.RowKit Go.Proofs.Ytoogmlgaeipenaa.own
/-- The answer lies in a cell of its own. -/
theorem results_term {fn : Func} {p : Tmp} (h : fn.results = #[.cell p 24]) (tmps : Array Value) (w : World) (b : Nat) (x0 x1 x2 x3 : Value) (ha : tmps.getD p undef = .pointer (some ⟨b, 0, none⟩)) (h0 : w.cell? ⟨b, 0, none⟩ = some x0) (h1 : w.cell? ⟨b, 1, none⟩ = some x1) (h2 : w.cell? ⟨b, 2, none⟩ = some x2) (h3 : w.cell? ⟨b, 3, none⟩ = some x3) :
    (results fn tmps).run Try.prog w = .ok (.agg #[x0, x1, x2, x3]) w := by
  have ha' : tmps[p]?.getD undef = .pointer (some ⟨b, 0, none⟩) := by simpa using ha
  simp only [results, h]
  go_simp
/-- A cell that holds a term's fields. -/
def Quad (b : Nat) (x0 x1 x2 x3 : Value) (w : World) : Prop := w.heap[b]? = some (.cells #[x0, x1, x2, x3] 24 (0, 0))
theorem Quad.cells {b : Nat} {x0 x1 x2 x3 : Value} {w : World} (h : Quad b x0 x1 x2 x3 w) : w.cell? ⟨b, 0, none⟩ = some x0 ∧ w.cell? ⟨b, 1, none⟩ = some x1 ∧ w.cell? ⟨b, 2, none⟩ = some x2 ∧ w.cell? ⟨b, 3, none⟩ = some x3 := by
  refine ⟨?_, ?_, ?_, ?_⟩ <;> (rw [cell_of_blk h]; rfl)
theorem Quad.free {b : Nat} {x0 x1 x2 x3 : Value} {w : World} (h : Quad b x0 x1 x2 x3 w) : w.frozen? ⟨b, 0, none⟩ = false ∧ w.frozen? ⟨b, 1, none⟩ = false ∧ w.frozen? ⟨b, 2, none⟩ = false ∧ w.frozen? ⟨b, 3, none⟩ = false :=
  ⟨free_of_blk h 0, free_of_blk h 1, free_of_blk h 2, free_of_blk h 3⟩
theorem Quad.lt {b : Nat} {x0 x1 x2 x3 : Value} {w : World} (h : Quad b x0 x1 x2 x3 w) : b < w.heap.size := lt_of_block h
theorem Quad.only {b : Nat} {x0 x1 x2 x3 : Value} {w w' : World} {S : Nat → Prop} (h : Quad b x0 x1 x2 x3 w) (ho : Only S w w') (hS : ¬ S b) : Quad b x0 x1 x2 x3 w' := by
  unfold Quad at *
  rw [ho.block b (lt_of_block h) hS]
  exact h
/-- The four cells are stored. -/
abbrev quadW (w : World) (b : Nat) (y0 y1 y2 y3 : Value) : World := (((w.setCell ⟨b, 0, none⟩ y0).setCell ⟨b, 1, none⟩ y1).setCell ⟨b, 2, none⟩ y2).setCell ⟨b, 3, none⟩ y3
theorem Quad.set {b : Nat} {x0 x1 x2 x3 : Value} {w : World} (h : Quad b x0 x1 x2 x3 w) (y0 y1 y2 y3 : Value) : Quad b y0 y1 y2 y3 (quadW w b y0 y1 y2 y3) ∧ Only (· = b) w (quadW w b y0 y1 y2 y3) := by
  refine ⟨?_, ?_⟩
  · have h1 := blk_set h 0 y0
    have h2 := blk_set h1 1 y1
    have h3 := blk_set h2 2 y2
    have h4 := blk_set h3 3 y3
    unfold Quad
    simpa using h4
  · have c : ∀ (w : World) (j : Nat) (y : Value), Only (· = b) w (w.setCell ⟨b, j, none⟩ y) := fun w j y => Only.setCell (S := (· = b)) w (p := ⟨b, j, none⟩) rfl y
    exact (((c _ _ _).same (c _ _ _)).same (c _ _ _)).same (c _ _ _)
section
variable {σ : Type}
mutual
def exF (out : σ → Int → T) (nxt : σ → Int → σ) : T → σ → T × σ | .mk k n s l, st => if k = 1 then (out st n, nxt st n) else (.mk k n s (exL out nxt l st).1, (exL out nxt l st).2)
def exL (out : σ → Int → T) (nxt : σ → Int → σ) : List T → σ → List T × σ | [], st => ([], st) | x :: r, st => ((exF out nxt x st).1 :: (exL out nxt r (exF out nxt x st).2).1, (exL out nxt r (exF out nxt x st).2).2)
end
mutual
def T.allv (p : Int → Prop) : T → Prop | .mk k n _ l => (k = 1 → p n) ∧ allvs p l
def allvs (p : Int → Prop) : List T → Prop | [] => True | x :: r => x.allv p ∧ allvs p r
end
theorem allvs_mem {p : Int → Prop} {l : List T} (h : allvs p l) {x : T} (hx : x ∈ l) : x.allv p := by
  induction l with
  | nil => cases hx
  | cons y r ih =>
    rcases List.mem_cons.1 hx with rfl | hx
    · exact h.1
    · exact ih h.2 hx
variable {out : σ → Int → T} {nxt : σ → Int → σ}
theorem exL_append (a b : List T) (st : σ) : exL out nxt (a ++ b) st = ((exL out nxt a st).1 ++ (exL out nxt b (exL out nxt a st).2).1, (exL out nxt b (exL out nxt a st).2).2) := by
  induction a generalizing st with
  | nil => simp [exL]
  | cons x r ih => simp only [List.cons_append, exL, ih]
theorem exL_step {l : List T} {i : Nat} {x : T} (h : l[i]? = some x) (st : σ) : exL out nxt (l.take (i + 1)) st = ((exL out nxt (l.take i) st).1 ++ [(exF out nxt x (exL out nxt (l.take i) st).2).1], (exF out nxt x (exL out nxt (l.take i) st).2).2) := by
  rw [take_snoc h, exL_append]
  simp [exL]
theorem exL_length (l : List T) (st : σ) : (exL out nxt l st).1.length = l.length := by
  induction l generalizing st with
  | nil => simp [exL]
  | cons x r ih => simp only [exL, List.length_cons, ih]
/-- Blocks that were made since, which the function does not keep. -/
def New (w w' : World) (S' : Nat → Prop) (k : Nat) : Prop := w.heap.size ≤ k ∧ k < w'.heap.size ∧ ¬ S' k
/-- What a step leaves that answers a term. -/
def ExPost (I : σ → (Nat → Prop) → World → Prop) (w : World) (S : Nat → Prop) (t' : T) (st' : σ) (e : Ending) (w' : World) : Prop := ∃ ao cap S', e = .returned (tv t' ao cap) ∧ Row (New w w' S') w' ao t'.l ∧ t'.Sane ∧ I st' S' w' ∧ Only S w w' ∧ ∀ k, S' k → Grew S w w' k
/-- What a function of a variable's number answers, and what it keeps. -/
structure Place (B : Nat) (K : Nat) (caps : Array Value) (good : Int → Prop) (I : σ → (Nat → Prop) → World → Prop) (out : σ → Int → T) (nxt : σ → Int → σ) : Prop where
  ent : ∀ args w, (callFunc K args).run Try.prog w = .ok (.enter K args) w
  call : ∀ st S n w, I st S w → good n → Calls Try.prog K (#[.int .i64 n] ++ caps) w (ExPost I w S (out st n) (nxt st n))
  stays : ∀ st S S'' w w', I st S w → Only S'' w w' → (∀ k, S k → ¬ S'' k) → (∀ k, S'' k → B ≤ k) → I st S w'
  lt : ∀ st S w, I st S w → ∀ k, S k → k < w.heap.size
/-- The loop of exchange under way: the first j arguments were exchanged. -/
structure ExI (I : σ → (Nat → Prop) → World → Prop) (out : σ → Int → T) (nxt : σ → Int → σ) (w : World) (S S' : Nat → Prop) (bx rb g : Nat) (k n : Int) (s : ByteArray) (ao : Option Addr) (cap : Nat) (l : List T) (st : σ) (xs : List It) (j : Nat) (wr : World) : Prop where
  inv : I (exL out nxt (l.take j) st).2 S' wr
  own : Only S w wr
  grew : ∀ k, S' k → Grew S w wr k
  away : ¬ S' bx ∧ ¬ S' rb ∧ ¬ S' g
  box : BoxAt bx k n s ao l.length cap wr
  quad : Quad rb (.int .i64 0) (.int .i64 0) (.string ⟨#[]⟩) (.slice none 0 0) wr
  row : ItsP w.heap.size (some ⟨g, 0, none⟩) l.length xs wr
  len : xs.length = l.length
  done : ∀ (i : Nat) (x : It), i < j → xs[i]? = some x → (exL out nxt (l.take j) st).1[i]? = some x.t ∧ x.t.Sane ∧ Row (fun q => New w wr S' q ∧ q ≠ g ∧ q ≠ bx ∧ q ≠ rb) wr x.ao x.t.l
variable {B K : Nat} {caps : Array Value} {good : Int → Prop} {I : σ → (Nat → Prop) → World → Prop}
/-- The next one was exchanged, and stored. -/
theorem ExI.step (hP : Place B K caps good I out nxt) {w wr w1 w2 : World} {S S' S'' : Nat → Prop} {bx rb g : Nat} (hBg : B ≤ g) {k n : Int} {s : ByteArray} {ao : Option Addr} {cap : Nat} {l : List T} {st : σ} {xs : List It} {j : Nat} (hd : bx ≠ g ∧ rb ≠ g) (h : ExI I out nxt w S S' bx rb g k n s ao cap l st xs j wr) {x : T} (hx : l[j]? = some x)
    (h1 : Only (fun _ => False) wr w1) (y : It) (hy : y.t = (exF out nxt x (exL out nxt (l.take j) st).2).1) (hrow : Row (New w1 w2 S'') w2 y.ao y.t.l) (hsane : y.t.Sane) (hI2 : I (exF out nxt x (exL out nxt (l.take j) st).2).2 S'' w2) (ho2 : Only S' w1 w2) (hS2 : ∀ k, S'' k → Grew S' w1 w2 k) :
    ExI I out nxt w S S'' bx rb g k n s ao cap l st (xs.set j y) (j + 1) (storedT w2 g j y) := by
  have hjl := (List.getElem?_eq_some_iff.1 hx).1
  have hst := exL_step (out := out) (nxt := nxt) hx st
  have hb := h.box.only h1 (fun e => e)
  have hq := h.quad.only h1 (fun e => e)
  have hr1 := h.row.only h1 (fun _ _ e => e)
  have hr2 := hr1.only ho2 (fun g' hg' e => by cases hg'; exact h.away.2.2 e)
  obtain ⟨hr3, o3⟩ := item_stored hr2 (by rw [h.len]; exact hjl) y
  have s1 := h1.size
  have s2 := ho2.size
  have s3 : w2.heap.size ≤ (storedT w2 g j y).heap.size := o3.size
  have hbl := lt_of_block hb
  have hql := lt_of_block hq
  have hgl : g < w1.heap.size := (hr1.head _ rfl).2.2
  have hgB : w.heap.size ≤ g := (hr1.head _ rfl).2.1
  have s0 := h.own.size
  have hbl0 := lt_of_block h.box
  have hql0 := lt_of_block h.quad
  have hgl0 : g < wr.heap.size := (h.row.head _ rfl).2.2
  have away : ∀ q, ¬ S' q → q < wr.heap.size → ¬ S'' q := fun q hq hlt e => by
    rcases hS2 q e with e | e
    · exact hq e
    · omega
  refine ⟨?_, ?_, ?_, ⟨away _ h.away.1 hbl0, away _ h.away.2.1 hql0, away _ h.away.2.2 hgl0⟩, (hb.only ho2 h.away.1).only o3 (fun e => hd.1 e), (hq.only ho2 h.away.2.1).only o3 (fun e => hd.2 e), hr3, by rw [List.length_set]; exact h.len, ?_⟩
  · rw [hst]
    exact hP.stays _ _ _ _ _ hI2 o3 (fun q hq e => by subst e; exact away _ h.away.2.2 hgl0 hq) (fun q e => by subst e; exact hBg)
  · refine ((h.own.same (h1.no S)).trans ho2 (fun q hq e => ?_)).trans o3 (fun q hq e => by omega)
    rcases h.grew q e with e | e
    · exact e
    · omega
  · intro q hq
    rcases hS2 q hq with e | e
    · rcases h.grew q e with e | e
      · exact .inl e
      · exact .inr ⟨e.1, by omega⟩
    · exact .inr ⟨by omega, by omega⟩
  · intro i z hi hz
    rw [List.getElem?_set] at hz
    rw [hst]
    have hel : (exL out nxt (l.take j) st).1.length = j := by rw [exL_length, List.length_take]; omega
    split at hz
    · rename_i e
      subst e
      rw [if_pos (by rw [h.len]; exact hjl)] at hz
      cases hz
      refine ⟨?_, hsane, ?_⟩
      · rw [List.getElem?_append_right (by omega), hel, Nat.sub_self, hy]
        rfl
      · refine (hrow.only o3 (fun q hq => hq.2.1) (fun q hq e => by have := hq.1; omega)).mono (fun q hq => ⟨⟨?_, ?_, hq.2.2⟩, ?_, ?_, ?_⟩)
        · have := hq.1; omega
        · have := hq.2.1; omega
        · have := hq.1; omega
        · have := hq.1; omega
        · have := hq.1; omega
    · rename_i hne
      obtain ⟨d1, d2, d3⟩ := h.done i z (by omega) hz
      refine ⟨?_, d2, ?_⟩
      · rw [List.getElem?_append_left (by omega)]
        exact d1
      · have r1 := d3.only h1 (fun q hq => hq.1.2.1) (fun _ _ e => e)
        have r2 := r1.only ho2 (fun q hq => by have := hq.1.2.1; omega) (fun q hq e => hq.1.2.2 e)
        refine (r2.only o3 (fun q hq => by have := hq.1.2.1; omega) (fun q hq e => hq.2.1 e)).mono (fun q hq => ⟨⟨hq.1.1, ?_, ?_⟩, hq.2⟩)
        · have := hq.1.2.1; omega
        · exact away q hq.1.2.2 hq.1.2.1
/-- All were exchanged: the answer. -/
theorem ExI.done_ (hP : Place B K caps good I out nxt) {w wr w3 : World} {S S' : Nat → Prop} {bx rb g : Nat} {k n : Int} {s : ByteArray} {ao : Option Addr} {cap : Nat} {l : List T} {st : σ} {xs : List It} (hd : bx ≠ g ∧ rb ≠ g) (hnew : w.heap.size ≤ bx ∧ w.heap.size ≤ rb) (hBw : B ≤ w.heap.size) (h : ExI I out nxt w S S' bx rb g k n s ao cap l st xs l.length wr) (hs : (T.mk k n s l).Sane)
    (ho : Only (fun q => q = bx ∨ q = rb) wr w3) : ExPost I w S (.mk k n s (exL out nxt l st).1) (exL out nxt l st).2 (.returned (tv (.mk k n s (exL out nxt l st).1) (some ⟨g, 0, none⟩) l.length)) w3 := by
  have e : exL out nxt (l.take l.length) st = exL out nxt l st := by rw [List.take_length]
  have hxt : xs.map (·.t) = (exL out nxt l st).1 := by
    apply List.ext_getElem?
    intro i
    by_cases hi : i < l.length
    · obtain ⟨x, hx⟩ : ∃ x, xs[i]? = some x := ⟨_, List.getElem?_eq_getElem (by rw [h.len]; exact hi)⟩
      rw [List.getElem?_map, hx, ← e, (h.done i x hi hx).1]
      rfl
    · rw [List.getElem?_eq_none (by rw [List.length_map, h.len]; omega), List.getElem?_eq_none (by rw [exL_length]; omega)]
  have hso := ho.size
  have hgo : ¬ (g = bx ∨ g = rb) := fun e => by rcases e with e | e; exact hd.1 e.symm; exact hd.2 e.symm
  have hrow3 := h.row.only ho (fun g' hg' e => by cases hg'; exact hgo e)
  have hg3 := hrow3.head _ rfl
  refine ⟨some ⟨g, 0, none⟩, l.length, S', rfl, ?_, ?_, ?_, ?_, ?_⟩
  · show Row _ w3 _ (exL out nxt l st).1
    rw [← hxt]
    refine ItsP.row (P := New w w3 S') hrow3 ⟨hg3.2.1, hg3.2.2, h.away.2.2⟩ (fun i x hx => ?_)
    obtain ⟨_, d2, d3⟩ := h.done i x (by have := (List.getElem?_eq_some_iff.1 hx).1; rw [h.len] at this; exact this) hx
    refine ⟨d2, (d3.only ho (fun q hq => hq.1.2.1) (fun q hq e => ?_)).mono (fun q hq => ⟨hq.1.1, by have := hq.1.2.1; omega, hq.1.2.2⟩)⟩
    rcases e with e | e
    · exact hq.2.2.1 e
    · exact hq.2.2.2 e
  · exact ⟨hs.k, hs.n, hs.s, by show (exL out nxt l st).1.length ≤ maxLen; rw [exL_length]; exact hs.l⟩
  · rw [← e]
    exact hP.stays _ _ _ _ _ h.inv ho (fun q hq e => by rcases e with e | e; subst e; exact h.away.1 hq; subst e; exact h.away.2.1 hq) (fun q e => by rcases e with e | e <;> omega)
  · exact h.own.trans ho (fun q hq e => by rcases e with e | e <;> omega)
  · intro q hq
    rcases h.grew q hq with e | e
    · exact .inl e
    · exact .inr ⟨e.1, by omega⟩
set_option maxRecDepth 100000 in
set_option maxHeartbeats 4000000 in
theorem exchange_any (hP : Place B K caps good I out nxt) (t : T) : ∀ (st : σ) (S : Nat → Prop) (w : World) (ao : Option Addr) (cap : Nat), Row (· < B) w ao t.l → (∀ k, S k → B ≤ k) → B ≤ w.heap.size → t.Sane → I st S w → t.allv good → t.size ≤ 16777216 → Calls Try.prog 119 #[tv t ao cap, .func (.func K) #[] caps] w (ExPost I w S (exF out nxt t st).1 (exF out nxt t st).2) := by
  have hent := hP.ent
  induction t using T.ind with
  | h k n s l ih =>
    intro st S w ao cap hl hSB hB hs hI hg hz
    have HL := Lib.hid hl
    have HSB := Lib.hid hSB
    have HI := Lib.hid ih
    have HST := Lib.hid hI
    have HS := Lib.hid hs
    have HG := Lib.hid hg
    have HZ := Lib.hid hz
    have hlen := hs.l
    unfold maxLen at hlen
    simp only [T.l] at hlen
    generalize hr : exF out nxt (T.mk k n s l) st = r
    have HR := Lib.hid hr
    show Calls Try.prog 119 #[.agg #[.int .i64 k, .int .i64 n, .string s, .slice ao l.length cap], .func (.func K) #[] caps] w (ExPost I w S r.1 r.2)
    clear hl ih hs hI hg hz hr hSB
    by_cases hk : k = 1
    · subst hk
      go_enter Try.func119, Try.ntmps119
      go_wp2_with fail
      have ho1 : Only (fun _ => False) w ((w.alloc (.cells #[.int .i64 1, .int .i64 n, .string s, .slice ao l.length cap] 24)).alloc (.cells #[.int .i64 0, .int .i64 0, .string ⟨#[]⟩, .slice none 0 0] 24)) := (Only.alloc _ _ _).same (Only.alloc _ _ _)
      have hq1 : Quad (w.heap.size + 1) (.int .i64 0) (.int .i64 0) (.string ⟨#[]⟩) (.slice none 0 0) ((w.alloc (.cells #[.int .i64 1, .int .i64 n, .string s, .slice ao l.length cap] 24)).alloc (.cells #[.int .i64 0, .int .i64 0, .string ⟨#[]⟩, .slice none 0 0] 24)) := by
        have := heap_alloc_new (w.alloc (.cells #[.int .i64 1, .int .i64 n, .string s, .slice ao l.length cap] 24)) (.cells #[.int .i64 0, .int .i64 0, .string ⟨#[]⟩, .slice none 0 0] 24)
        unfold Quad
        simpa using this
      have HO1 := Lib.hid ho1
      have HQ1 := Lib.hid hq1
      have HNS : Hid (¬ S (w.heap.size + 1)) := Lib.hid (fun e => by have := hP.lt _ _ _ HST.out _ e; omega)
      have HI1 := Lib.hid (hP.stays _ _ _ _ _ HST.out ho1 (fun _ _ e => e) (fun _ e => e.elim))
      have hsz1 : w.heap.size + 2 = ((w.alloc (.cells #[.int .i64 1, .int .i64 n, .string s, .slice ao l.length cap] 24)).alloc (.cells #[.int .i64 0, .int .i64 0, .string ⟨#[]⟩, .slice none 0 0] 24)).heap.size := by simp
      have HSZ := Lib.hid hsz1
      clear ho1 hq1 hsz1
      generalize (w.alloc (.cells #[.int .i64 1, .int .i64 n, .string s, .slice ao l.length cap] 24)).alloc (.cells #[.int .i64 0, .int .i64 0, .string ⟨#[]⟩, .slice none 0 0] 24) = w1 at *
      refine (hP.call st S n w1 HI1.out (HG.out.1 rfl)).mono ?_
      rintro e w2 ⟨ao', cap', S', rfl, hrow, hsane, hI2, ho2, hS2⟩
      have HR2 : Hid (r = (out st n, nxt st n)) := Lib.hid (by rw [← HR.out]; unfold exF; rw [if_pos rfl])
      generalize out st n = t' at *
      have hq2 := HQ1.out.only ho2 HNS.out
      have hst := hq2.set (.int .i64 t'.k) (.int .i64 t'.n) (.string t'.s) (.slice ao' t'.l.length cap')
      obtain ⟨f0, f1, f2, f3⟩ := hq2.free
      obtain ⟨c0, c1, c2, c3⟩ := hq2.cells
      have HST2 := Lib.hid hst
      have HROW := Lib.hid hrow
      have HSA := Lib.hid hsane
      have HI2 := Lib.hid hI2
      have HO2 := Lib.hid ho2
      have HS2 := Lib.hid hS2
      clear hq2 hst hrow hsane hI2 ho2 hS2
      go_wp2_with fail
      have hc := HST2.out.1.cells
      refine bodyPost_ret (v := tv t' ao' cap') (results_term rfl _ _ (w.heap.size + 1) _ _ _ _ rfl hc.1 hc.2.1 hc.2.2.1 hc.2.2.2) rfl ?_
      rw [HR2.out]
      have hnS : ¬ S' (w.heap.size + 1) := fun e => by
        rcases HS2.out _ e with e | e
        · exact HNS.out e
        · have := HSZ.out; omega
      refine ⟨ao', cap', S', rfl, ?_, HSA.out, hP.stays _ _ _ _ _ HI2.out HST2.out.2 (fun k hk e => hnS (e ▸ hk)) (fun k e => by omega), ?_, ?_⟩
      · refine (HROW.out.only HST2.out.2 (fun k hk => hk.2.1) (fun k hk e => ?_)).mono (fun k hk => ⟨?_, ?_, hk.2.2⟩)
        · have := hk.1; have := HSZ.out; omega
        · have := hk.1; have := HSZ.out; omega
        · exact Nat.lt_of_lt_of_le hk.2.1 HST2.out.2.size
      · exact ((HO1.out.no S).same HO2.out).trans HST2.out.2 (fun k hk e => by omega)
      · intro k hk
        rcases HS2.out k hk with e | e
        · exact .inl e
        · refine .inr ⟨?_, ?_⟩
          · have := HSZ.out; omega
          · exact Nat.lt_of_lt_of_le e.2 HST2.out.2.size
    · have hkb : (k == 1) = false := by simpa using hk
      go_enter Try.func119, Try.ntmps119
      by_cases hl0 : l.length = 0
      · have hlI : ((l.length : Int) == 0) = true := by simp [hl0]
        have HNIL : Hid (l = []) := Lib.hid (List.length_eq_zero_iff.1 hl0)
        have HR2 : Hid (r = (T.mk k n s [], st)) := Lib.hid (by
          have := HNIL.out
          subst this
          rw [← HR.out]
          unfold exF
          rw [if_neg hk]
          rfl)
        clear hl0
        go_wp2_with fail
        have ho : Only (fun _ => False) w ((w.alloc (.cells #[.int .i64 k, .int .i64 n, .string s, .slice none 0 0] 24)).alloc (.cells #[.int .i64 k, .int .i64 n, .string s, .slice none 0 0] 24)) := (Only.alloc _ _ _).same (Only.alloc _ _ _)
        refine bodyPost_ret (v := tv (T.mk k n s []) none 0) (results_term rfl _ ((w.alloc (.cells #[.int .i64 k, .int .i64 n, .string s, .slice none 0 0] 24)).alloc (.cells #[.int .i64 k, .int .i64 n, .string s, .slice none 0 0] 24)) (w.heap.size + 1) _ _ _ _ rfl (by simp [T.k]) (by simp [T.n]) (by simp [T.s]) (by simp [T.l])) rfl ?_
        rw [HR2.out]
        exact ⟨none, 0, S, rfl, Row.nil _ _ _, ⟨HS.out.k, HS.out.n, HS.out.s, by simp [T.l]⟩, hP.stays _ _ _ _ _ HST.out ho (fun _ _ e => e) (fun _ e => e.elim), ho.no _, fun k hk => .inl hk⟩
      · have hlI : ((l.length : Int) == 0) = false := by simp; intro e; rw [e] at hl0; exact hl0 rfl
        obtain ⟨i0, hi, hz0, hz1, hz2⟩ := info_parts infoT
        have hlen2 : l.length ≤ 16777216 := by
          have h1 := length_le_sizes l
          have h2 : 1 + sizes l ≤ 16777216 := HZ.out
          omega
        have HI0 := Lib.hid hl0
        clear hl0
        go_wp2_with (first
          | (at_make; refine wpList_make_full _ rfl _ _ 22 rfl w.heap.size 24 i0 _ 4 Try.underlying22 hi hz0 hz1 .i64 .i64 _ _ l.length rfl rfl rfl rfl (by rw [hz2]; omega) (by unfold maxLen; omega) (by first | omega | (simp <;> omega)) ?_; intro w3 hown3 hgrow3; rw [made_its] at hown3; have HOWN := Lib.hid hown3; have ho3 : Only (fun _ => False) ((w.alloc (.cells #[.int .i64 k, .int .i64 n, .string s, .slice ao l.length cap] 24)).alloc (.cells #[.int .i64 0, .int .i64 0, .string ⟨#[]⟩, .slice none 0 0] 24)) w3 := (Only.grown hgrow3).mono (fun _ _ e => by cases e); have HO3 := Lib.hid ho3; have HB := Lib.hid ((BoxAt.new w k n s ao l.length cap).later ((Only.alloc _ _ _).same ho3)); have d3 := HB.out.cells.2.2.2; clear hown3 hgrow3 ho3)
          | fail)
        have ho1 : Only (fun _ => False) w ((w.alloc (.cells #[.int .i64 k, .int .i64 n, .string s, .slice ao l.length cap] 24)).alloc (.cells #[.int .i64 0, .int .i64 0, .string ⟨#[]⟩, .slice none 0 0] 24)) := (Only.alloc _ _ _).same (Only.alloc _ _ _)
        have hq1 : Quad (w.heap.size + 1) (.int .i64 0) (.int .i64 0) (.string ⟨#[]⟩) (.slice none 0 0) ((w.alloc (.cells #[.int .i64 k, .int .i64 n, .string s, .slice ao l.length cap] 24)).alloc (.cells #[.int .i64 0, .int .i64 0, .string ⟨#[]⟩, .slice none 0 0] 24)) := by
          have := heap_alloc_new (w.alloc (.cells #[.int .i64 k, .int .i64 n, .string s, .slice ao l.length cap] 24)) (.cells #[.int .i64 0, .int .i64 0, .string ⟨#[]⟩, .slice none 0 0] 24)
          unfold Quad
          simpa using this
        have HE0 : Hid (ExI I out nxt w S S w.heap.size (w.heap.size + 1) (w.heap.size + 1 + 1) k n s ao cap l st (List.replicate l.length default) 0 w3) := by
          have h2 := ho1.same HO3.out
          have hlt := hP.lt _ _ _ HST.out
          have hown : ItsP w.heap.size (some ⟨w.heap.size + 1 + 1, 0, none⟩) l.length (List.replicate l.length default) w3 := by
            have := HOWN.out
            unfold ItsP RowOf
            rw [List.length_replicate]
            simpa using this
          refine Lib.hid ⟨?_, h2.no S, fun q hq => .inl hq, ⟨fun e => ?_, fun e => ?_, fun e => ?_⟩, HB.out, hq1.only HO3.out (fun e => e), hown, by simp, fun i x hi => by omega⟩
          · exact hP.stays _ _ _ _ _ HST.out h2 (fun _ _ e => e) (fun _ e => e.elim)
          · have := hlt _ e; omega
          · have := hlt _ e; omega
          · have := hlt _ e; omega
        clear ho1 hq1 d3 HB HO3 HOWN
        generalize hbx : w.heap.size = bx at *
        have HBX := Lib.hid hbx
        clear hbx
        have HSAL : Hid (∀ x, x ∈ l → x.allv good) := Lib.hid (fun x hx => allvs_mem HG.out.2 hx)
        go_loopw [28] (fun i wr => ∃ j : Nat, i = .int .i64 j ∧ j ≤ l.length ∧ ∃ S' xs, Hid (ExI I out nxt w S S' bx (bx + 1) (bx + 1 + 1) k n s ao cap l st xs j wr)) (fun i _ => l.length - (intOf i).toNat)
        case atStart => exact ⟨0, rfl, by omega, _, _, HE0⟩
        case round =>
          obtain ⟨j, rfl, hj, S', xs, hE⟩ := hrel
          clear HE0
          by_cases hlt : j < l.length
          · obtain ⟨x, hx⟩ : ∃ x, l[j]? = some x := ⟨_, List.getElem?_eq_getElem hlt⟩
            obtain ⟨b, off, ro, rc, rfl, hb, c0, c1, c2, c3, hsane, hsub⟩ := (HL.out.only hE.out.own (fun q hq => by have := HBX.out; omega) (fun q hq e => by have := HSB.out q e; omega)).at hx
            have hmem := List.mem_of_getElem? hx
            have HX := Lib.hid (HI.out x hmem)
            have HXG := Lib.hid (HSAL.out x hmem)
            have HXZ : Hid (x.size ≤ 16777216) := Lib.hid (by
              have h1 := size_mem hmem
              have h2 : 1 + sizes l ≤ 16777216 := HZ.out
              omega)
            have HSA := Lib.hid hsane
            have HSUB := Lib.hid hsub
            have HGX := Lib.hid hx
            clear hx hsane hsub hmem
            go_wp2_with fail
            have ho : Only (fun _ => False) wr (wr.alloc (.cells #[.int .i64 x.k, .int .i64 x.n, .string x.s, .slice ro x.l.length rc] 24)) := Only.alloc _ _ _
            have HOA := Lib.hid ho
            clear ho
            generalize wr.alloc (.cells #[.int .i64 x.k, .int .i64 x.n, .string x.s, .slice ro x.l.length rc] 24) = w5 at *
            have hwr := hE.out.own.size
            refine (HX.out _ S' w5 ro rc (HSUB.out.only HOA.out (fun q hq => by have := HBX.out; omega) (fun _ _ e => e)) (fun q hq => by
              rcases hE.out.grew q hq with e | e
              · exact HSB.out q e
              · have := HBX.out; omega) (by have := HOA.out.size; have := HBX.out; omega) HSA.out (hP.stays _ _ _ _ _ hE.out.inv HOA.out (fun _ _ e => e) (fun _ e => e.elim)) HXG.out HXZ.out).mono ?_
            rintro e w6 ⟨ao', cap', S'', rfl, hrow, hsane, hI2, ho2, hS2⟩
            obtain ⟨t', ht'⟩ : ∃ t', (exF out nxt x (exL out nxt (l.take j) st).2).1 = t' := ⟨_, rfl⟩
            rw [ht'] at hrow hsane ⊢
            have hE2 := ExI.step hP (by have := HBX.out; omega) (by omega) hE.out HGX.out HOA.out ⟨t', ao', cap'⟩ ht'.symm hrow hsane hI2 ho2 hS2
            have HE2 := Lib.hid hE2
            have hrow6 := (hE.out.row.only HOA.out (fun _ _ e => e)).only ho2 (fun g' hg' e => by cases hg'; exact hE.out.away.2.2 e)
            obtain ⟨y0, hy0⟩ : ∃ y0, xs[j]? = some y0 := ⟨_, List.getElem?_eq_getElem (by rw [hE.out.len]; exact hlt)⟩
            obtain ⟨g', hg', _, hcell⟩ := hrow6.at liesIt j y0 hy0
            cases hg'
            have q0 := hcell 0 (by omega)
            have q1 := hcell 1 (by omega)
            have q2 := hcell 2 (by omega)
            have q3 := hcell 3 (by omega)
            simp only [encIt, List.getElem?_cons_zero, List.getElem?_cons_succ, Nat.add_zero] at q0 q1 q2 q3
            obtain ⟨q0, z0⟩ := q0
            obtain ⟨q1, z1⟩ := q1
            obtain ⟨q2, z2⟩ := q2
            obtain ⟨q3, z3⟩ := q3
            clear hrow hsane hI2 ho2 hS2 hE2 hrow6 hcell hy0 c0 c1 c2 c3 ht'
            go_wp2_with fail
            go_roundw
            case rel => exact ⟨j + 1, by go_num, by omega, _, _, HE2⟩
            case measure => simp [intOf]; omega
          · obtain rfl : j = l.length := by omega
            obtain ⟨d0, d1, d2, d3⟩ := hE.out.box.cells
            have fb3 := free_of_blk hE.out.box 3
            obtain ⟨c0, c1, c2, c3⟩ := hE.out.quad.cells
            obtain ⟨f0, f1, f2, f3⟩ := hE.out.quad.free
            go_wp2_with fail
            have hbx3 : Only (· = bx) wr (wr.setCell ⟨bx, 3, none⟩ (.slice (some ⟨bx + 1 + 1, 0, none⟩) l.length l.length)) := Only.setCell (S := (· = bx)) _ (p := ⟨bx, 3, none⟩) rfl _
            have hq := hE.out.quad.only hbx3 (by omega)
            have hst := hq.set (.int .i64 k) (.int .i64 n) (.string s) (.slice (some ⟨bx + 1 + 1, 0, none⟩) l.length l.length)
            have hc := hst.1.cells
            refine bodyPost_ret (v := .agg #[.int .i64 k, .int .i64 n, .string s, .slice (some ⟨bx + 1 + 1, 0, none⟩) l.length l.length]) (results_term rfl _ _ (bx + 1) _ _ _ _ rfl hc.1 hc.2.1 hc.2.2.1 hc.2.2.2) rfl ?_
            have HR2 : r = (.mk k n s (exL out nxt l st).1, (exL out nxt l st).2) := by
              rw [← HR.out]
              unfold exF
              rw [if_neg hk]
            have hv : Value.agg #[.int .i64 k, .int .i64 n, .string s, .slice (some ⟨bx + 1 + 1, 0, none⟩) l.length l.length] = tv (T.mk k n s (exL out nxt l st).1) (some ⟨bx + 1 + 1, 0, none⟩) l.length := by
              unfold tv
              simp only [T.k, T.n, T.s, T.l, exL_length]
            rw [HR2, hv]
            exact ExI.done_ hP (by omega) (by have := HBX.out; omega) (by have := HBX.out; omega) hE.out HS.out ((hbx3.mono (fun _ _ e => .inl e)).same (hst.2.mono (fun _ _ e => .inr e)))
end
end
end Go.Proofs.Ytoogmlgaeipenaa.terms
/- Terms: variables, integers, atoms; a copy. -/
namespace Go.Proofs.Ytoogmlgaeipenaa.terms
set_option maxRecDepth 100000
section
open Go.RowKit Go.Proofs.Ytoogmlgaeipenaa.own
set_option maxRecDepth 100000 in
theorem var_any (n : Int) (w : World) : Calls Try.prog 121 #[.int .i64 n] w fun e w' => e = .returned (tv (T.mk 1 n ⟨#[]⟩ []) none 0) ∧ Only (fun _ => False) w w' := by
  go_enter Try.func121, Try.ntmps121
  go_wp2_with fail
  refine bodyPost_ret (v := tv (T.mk 1 n ⟨#[]⟩ []) none 0) (results_term rfl _ (w.alloc (.cells #[.int .i64 1, .int .i64 n, .string ⟨#[]⟩, .slice none 0 0] 24)) w.heap.size _ _ _ _ rfl (by simp [T.k]) (by simp [T.n]) (by simp [T.s]) (by simp [T.l])) rfl ?_
  exact ⟨rfl, Only.alloc _ _ _⟩
set_option maxRecDepth 100000 in
theorem int_any (n : Int) (w : World) : Calls Try.prog 114 #[.int .i64 n] w fun e w' => e = .returned (tv (T.mk 2 n ⟨#[]⟩ []) none 0) ∧ Only (fun _ => False) w w' := by
  go_enter Try.func114, Try.ntmps114
  go_wp2_with fail
  refine bodyPost_ret (v := tv (T.mk 2 n ⟨#[]⟩ []) none 0) (results_term rfl _ (w.alloc (.cells #[.int .i64 2, .int .i64 n, .string ⟨#[]⟩, .slice none 0 0] 24)) w.heap.size _ _ _ _ rfl (by simp [T.k]) (by simp [T.n]) (by simp [T.s]) (by simp [T.l])) rfl ?_
  exact ⟨rfl, Only.alloc _ _ _⟩
set_option maxRecDepth 100000 in
theorem rvar_any (n : Int) (w : World) : Calls Try.prog 26 #[.int .i64 n] w fun e w' => e = .returned (tv (T.mk 1 n ⟨#[]⟩ []) none 0) ∧ Only (fun _ => False) w w' := by
  go_enter Try.func26, Try.ntmps26
  go_wp2_with fail
  refine bodyPost_ret (v := tv (T.mk 1 n ⟨#[]⟩ []) none 0) (results_term rfl _ (w.alloc (.cells #[.int .i64 1, .int .i64 n, .string ⟨#[]⟩, .slice none 0 0] 24)) w.heap.size _ _ _ _ rfl (by simp [T.k]) (by simp [T.n]) (by simp [T.s]) (by simp [T.l])) rfl ?_
  exact ⟨rfl, Only.alloc _ _ _⟩
set_option maxRecDepth 100000 in
theorem rint_any (n : Int) (w : World) : Calls Try.prog 9 #[.int .i64 n] w fun e w' => e = .returned (tv (T.mk 2 n ⟨#[]⟩ []) none 0) ∧ Only (fun _ => False) w w' := by
  go_enter Try.func9, Try.ntmps9
  go_wp2_with fail
  refine bodyPost_ret (v := tv (T.mk 2 n ⟨#[]⟩ []) none 0) (results_term rfl _ (w.alloc (.cells #[.int .i64 2, .int .i64 n, .string ⟨#[]⟩, .slice none 0 0] 24)) w.heap.size _ _ _ _ rfl (by simp [T.k]) (by simp [T.n]) (by simp [T.s]) (by simp [T.l])) rfl ?_
  exact ⟨rfl, Only.alloc _ _ _⟩
set_option maxRecDepth 100000 in
theorem atom_any (s : ByteArray) (w : World) : Calls Try.prog 45 #[.string s] w fun e w' => e = .returned (tv (T.mk 3 0 s []) none 0) ∧ Only (fun _ => False) w w' := by
  go_enter Try.func45, Try.ntmps45
  go_wp2_with fail
  refine bodyPost_ret (v := tv (T.mk 3 0 s []) none 0) (results_term rfl _ (w.alloc (.cells #[.int .i64 3, .int .i64 0, .string s, .slice none 0 0] 24)) w.heap.size _ _ _ _ rfl (by simp [T.k]) (by simp [T.n]) (by simp [T.s]) (by simp [T.l])) rfl ?_
  exact ⟨rfl, Only.alloc _ _ _⟩
set_option maxRecDepth 100000 in
theorem ratom_any (s : ByteArray) (w : World) : Calls Try.prog 38 #[.string s] w fun e w' => e = .returned (tv (T.mk 3 0 s []) none 0) ∧ Only (fun _ => False) w w' := by
  go_enter Try.func38, Try.ntmps38
  go_wp2_with fail
  refine bodyPost_ret (v := tv (T.mk 3 0 s []) none 0) (results_term rfl _ (w.alloc (.cells #[.int .i64 3, .int .i64 0, .string s, .slice none 0 0] 24)) w.heap.size _ _ _ _ rfl (by simp [T.k]) (by simp [T.n]) (by simp [T.s]) (by simp [T.l])) rfl ?_
  exact ⟨rfl, Only.alloc _ _ _⟩
/-- A function that keeps nothing. -/
def NoneKept (_ : Unit) (S : Nat → Prop) (_ : World) : Prop := ∀ k, ¬ S k
theorem place_var (B : Nat) : Place B 121 #[] Fits NoneKept (fun _ n => T.mk 1 n ⟨#[]⟩ []) (fun st _ => st) where
  ent := fun args w => by rfl
  call := fun st S n w hI hn => by
    refine (var_any n w).mono ?_
    rintro e w' ⟨rfl, ho⟩
    exact ⟨none, 0, S, rfl, Row.nil _ _ _, ⟨⟨by show (-9223372036854775808 : Int) ≤ 1; omega, by show (1 : Int) ≤ 9223372036854775807; omega⟩, hn, Nat.zero_le _, Nat.zero_le _⟩, hI, ho.no S, fun k hk => .inl hk⟩
  stays := fun st S S'' w w' hI _ _ _ => hI
  lt := fun st S w hI k hk => absurd hk (hI k)
theorem var_form {n : Int} {s : ByteArray} {l : List T} (h : (T.mk 1 n s l).right = true) : s = ⟨#[]⟩ ∧ l = [] ∧ 0 ≤ n ∧ n < 1073741824 := by
  rw [T.right_eq, Bool.and_eq_true] at h
  have h1 := h.1
  by_cases a : 0 ≤ n
  · by_cases b : n < 1073741824
    · by_cases c : s.toList = []
      · simp only [T.part, T.k, T.n, T.s, T.l, a, b, c, ↓reduceIte] at h1
        refine ⟨ba_ext (by rw [c, ByteArray.toList_eq]), ?_, a, b⟩
        have := beq_iff_eq.1 h1
        exact List.length_eq_zero_iff.1 (by omega)
      · simp [T.part, T.k, T.n, T.s, T.l, a, b, c] at h1
    · simp [T.part, T.k, T.n, T.s, T.l, a, b] at h1
  · simp [T.part, T.k, T.n, T.s, T.l, a] at h1
theorem exF_var (t : T) (ht : t.right = true) (st : Unit) : (exF (fun _ n => T.mk 1 n ⟨#[]⟩ []) (fun st _ => st) t st) = (t, ()) := by
  induction t using T.ind with
  | h k n s l ih =>
    unfold exF
    by_cases hk : k = 1
    · subst hk
      rw [if_pos rfl]
      obtain ⟨rfl, rfl, _, _⟩ := var_form ht
      rfl
    · rw [if_neg hk]
      have hr : rights l = true := by rw [T.right_eq, Bool.and_eq_true] at ht; exact ht.2
      have hl : ∀ st : Unit, exL (fun _ n => T.mk 1 n ⟨#[]⟩ []) (fun st _ => st) l st = (l, ()) := by
        clear ht hk k n s
        induction l with
        | nil => intro st; rfl
        | cons x r ihr =>
          intro st
          rw [rights_iff] at hr
          simp only [exL, ih x (by simp) (hr x (by simp)), ihr (fun y hy => ih y (by simp [hy])) (rights_iff.2 (fun y hy => hr y (by simp [hy])))]
      rw [hl]
theorem right_allv {p : Int → Prop} (hp : ∀ n : Int, 0 ≤ n → n < 1073741824 → p n) (t : T) (ht : t.right = true) : t.allv p := by
  induction t using T.ind with
  | h k n s l ih =>
    refine ⟨fun hk => ?_, ?_⟩
    · subst hk
      have := var_form ht
      exact hp n this.2.2.1 this.2.2.2
    · have hr : rights l = true := by rw [T.right_eq, Bool.and_eq_true] at ht; exact ht.2
      clear ht
      induction l with
      | nil => trivial
      | cons x r ihr =>
        rw [rights_iff] at hr
        exact ⟨ih x (by simp) (hr x (by simp)), ihr (fun y hy => ih y (by simp [hy])) (rights_iff.2 (fun y hy => hr y (by simp [hy])))⟩
set_option maxRecDepth 100000 in
set_option maxHeartbeats 1000000 in
/-- A copy, in memory of its own. -/
theorem clone_any (t : T) (w : World) (ao : Option Addr) (cap : Nat) (hl : Lies w ao t.l) (hs : t.Sane) (hr : t.right = true) (hz : t.size ≤ 16777216) : Calls Try.prog 89 #[tv t ao cap] w fun e w' => ∃ ao' cap', e = .returned (tv t ao' cap') ∧ Row (fun k => w.heap.size ≤ k ∧ k < w'.heap.size) w' ao' t.l ∧ Only (fun _ => False) w w' := by
  have hex := exF_var t hr ()
  have hav := right_allv (p := Fits) (fun n h0 h1 => ⟨by omega, by omega⟩) t hr
  have HX : Hid (∀ w1 : World, Only (fun _ => False) w w1 → Calls Try.prog 119 #[tv t ao cap, .func (.func 121) #[] #[]] w1 fun e w' => ∃ ao' cap', e = .returned (tv t ao' cap') ∧ Row (fun k => w1.heap.size ≤ k ∧ k < w'.heap.size) w' ao' t.l ∧ Only (fun _ => False) w1 w') := by
    refine Lib.hid (fun w1 ho => ?_)
    refine (exchange_any (place_var w.heap.size) t () (fun _ => False) w1 ao cap (hl.only ho (fun _ e => e) (fun _ _ e => e)) (fun _ e => e.elim) ho.size hs (fun _ e => e) hav hz).mono ?_
    rintro e w' ⟨ao', cap', S', rfl, hrow, _, _, ho2, _⟩
    rw [hex] at hrow ⊢
    exact ⟨ao', cap', rfl, hrow.mono (fun k hk => ⟨hk.1, hk.2.1⟩), ho2⟩
  obtain ⟨k, n, s, l⟩ := t
  show Calls Try.prog 89 #[.agg #[.int .i64 k, .int .i64 n, .string s, .slice ao l.length cap]] w _
  clear hex hav hl hs hr hz
  go_enter Try.func89, Try.ntmps89
  go_wp2_with fail
  have ho1 : Only (fun _ => False) w ((w.alloc (.cells #[.int .i64 k, .int .i64 n, .string s, .slice ao l.length cap] 24)).alloc (.cells #[.int .i64 0, .int .i64 0, .string ⟨#[]⟩, .slice none 0 0] 24)) := (Only.alloc _ _ _).same (Only.alloc _ _ _)
  have hq1 : Quad (w.heap.size + 1) (.int .i64 0) (.int .i64 0) (.string ⟨#[]⟩) (.slice none 0 0) ((w.alloc (.cells #[.int .i64 k, .int .i64 n, .string s, .slice ao l.length cap] 24)).alloc (.cells #[.int .i64 0, .int .i64 0, .string ⟨#[]⟩, .slice none 0 0] 24)) := by
    have := heap_alloc_new (w.alloc (.cells #[.int .i64 k, .int .i64 n, .string s, .slice ao l.length cap] 24)) (.cells #[.int .i64 0, .int .i64 0, .string ⟨#[]⟩, .slice none 0 0] 24)
    unfold Quad
    simpa using this
  have hsz : w.heap.size + 2 = ((w.alloc (.cells #[.int .i64 k, .int .i64 n, .string s, .slice ao l.length cap] 24)).alloc (.cells #[.int .i64 0, .int .i64 0, .string ⟨#[]⟩, .slice none 0 0] 24)).heap.size := by simp
  refine (HX.out _ ho1).mono ?_
  rintro e w2 ⟨ao', cap', rfl, hrow, ho2⟩
  have HROW := Lib.hid hrow
  have HO2 := Lib.hid (ho1.same ho2)
  have HSZ := Lib.hid hsz
  have hq2 := hq1.only ho2 (fun e => e)
  have HS2 := Lib.hid (hq2.set (.int .i64 k) (.int .i64 n) (.string s) (.slice ao' l.length cap'))
  obtain ⟨c0, c1, c2, c3⟩ := hq2.cells
  obtain ⟨f0, f1, f2, f3⟩ := hq2.free
  clear hrow ho1 hq1 hsz ho2 hq2
  go_wp2_with fail
  have hc := HS2.out.1.cells
  refine bodyPost_ret (v := tv (T.mk k n s l) ao' cap') (results_term rfl _ _ (w.heap.size + 1) _ _ _ _ rfl hc.1 hc.2.1 hc.2.2.1 hc.2.2.2) rfl ?_
  refine ⟨ao', cap', rfl, ?_, Only.cut HO2.out HS2.out.2 (fun k e => by omega)⟩
  refine (HROW.out.only HS2.out.2 (fun q hq => hq.2) (fun q hq e => ?_)).mono (fun q hq => ⟨?_, Nat.lt_of_lt_of_le hq.2 HS2.out.2.size⟩)
  · have := hq.1; have := HSZ.out; omega
  · have := hq.1; have := HSZ.out; omega
end
end Go.Proofs.Ytoogmlgaeipenaa.terms
/- Terms that may be: Size, Depth, Clone. -/
namespace Go.Proofs.Ytoogmlgaeipenaa.terms
set_option maxRecDepth 100000
section
open Go.RowKit Go.Proofs.Ytoogmlgaeipenaa.own
theorem may_one (t : T) (w : World) (ao : Option Addr) (cap : Nat) (hl : Lies w ao t.l) (hs : t.Sane) (hok : t.Ok) (w1 : World) (ho : Only (fun _ => False) w w1) (b : Nat) (hb : w1.heap[b]? = some (.cells #[.int .i64 t.k, .int .i64 t.n, .string t.s, .slice ao t.l.length cap] 24 (0, 0))) :
    Calls Try.prog 86 #[.slice (some ⟨b, 0, none⟩) 1 1] w1 fun e w' => e = .returned (.bool true) ∧ Only (fun _ => False) w1 w' := by
  refine (may_ok [t] w1 _ 1 (Row.one hl hs w1 ho b hb) (by simp) (fun x hx => by rw [List.mem_singleton.1 hx]; exact hok)).mono ?_
  rintro e w' ⟨rfl, ho2⟩
  exact ⟨rfl, ho2⟩
set_option maxRecDepth 100000 in
set_option maxHeartbeats 2000000 in
theorem Clone_ok (t : T) (w : World) (ao : Option Addr) (cap : Nat) (hl : Lies w ao t.l) (hs : t.Sane) (hok : t.Ok) : Calls Try.prog 55 #[tv t ao cap] w fun e w' => ∃ ao' cap', e = .returned (tv t ao' cap') ∧ Row (fun k => w.heap.size ≤ k ∧ k < w'.heap.size) w' ao' t.l ∧ Only (fun _ => False) w w' := by
  have HM := Lib.hid (may_one t w ao cap hl hs hok)
  have HI : Hid (∀ w1 : World, Only (fun _ => False) w w1 → Calls Try.prog 89 #[tv t ao cap] w1 fun e w' => ∃ ao' cap', e = .returned (tv t ao' cap') ∧ Row (fun k => w1.heap.size ≤ k ∧ k < w'.heap.size) w' ao' t.l ∧ Only (fun _ => False) w1 w') := Lib.hid (fun w1 ho => clone_any t w1 ao cap (hl.later ho) hs hok.right (by have := hok.size; omega))
  obtain ⟨k, n, s, l⟩ := t
  show Calls Try.prog 55 #[.agg #[.int .i64 k, .int .i64 n, .string s, .slice ao l.length cap]] w _
  clear hl hs hok
  go_enter Try.func55, Try.ntmps55
  go_wp2_with fail
  have hb : (((w.alloc (.cells #[.int .i64 k, .int .i64 n, .string s, .slice ao l.length cap] 24)).alloc (.cells #[.int .i64 0, .int .i64 0, .string ⟨#[]⟩, .slice none 0 0] 24)).alloc (.cells #[.int .i64 k, .int .i64 n, .string s, .slice ao l.length cap] 24)).heap[w.heap.size + 1 + 1]? = some (.cells #[.int .i64 k, .int .i64 n, .string s, .slice ao l.length cap] 24 (0, 0)) := by
    have := heap_alloc_new ((w.alloc (.cells #[.int .i64 k, .int .i64 n, .string s, .slice ao l.length cap] 24)).alloc (.cells #[.int .i64 0, .int .i64 0, .string ⟨#[]⟩, .slice none 0 0] 24)) (.cells #[.int .i64 k, .int .i64 n, .string s, .slice ao l.length cap] 24)
    simpa using this
  have ho : Only (fun _ => False) w (((w.alloc (.cells #[.int .i64 k, .int .i64 n, .string s, .slice ao l.length cap] 24)).alloc (.cells #[.int .i64 0, .int .i64 0, .string ⟨#[]⟩, .slice none 0 0] 24)).alloc (.cells #[.int .i64 k, .int .i64 n, .string s, .slice ao l.length cap] 24)) := ((Only.alloc _ _ _).same (Only.alloc _ _ _)).same (Only.alloc _ _ _)
  have hbx : BoxAt w.heap.size k n s ao l.length cap (((w.alloc (.cells #[.int .i64 k, .int .i64 n, .string s, .slice ao l.length cap] 24)).alloc (.cells #[.int .i64 0, .int .i64 0, .string ⟨#[]⟩, .slice none 0 0] 24)).alloc (.cells #[.int .i64 k, .int .i64 n, .string s, .slice ao l.length cap] 24)) := (BoxAt.new w k n s ao l.length cap).later ((Only.alloc _ _ _).same (Only.alloc _ _ _))
  have hq : Quad (w.heap.size + 1) (.int .i64 0) (.int .i64 0) (.string ⟨#[]⟩) (.slice none 0 0) (((w.alloc (.cells #[.int .i64 k, .int .i64 n, .string s, .slice ao l.length cap] 24)).alloc (.cells #[.int .i64 0, .int .i64 0, .string ⟨#[]⟩, .slice none 0 0] 24)).alloc (.cells #[.int .i64 k, .int .i64 n, .string s, .slice ao l.length cap] 24)) := by
    have h1 := heap_alloc_new (w.alloc (.cells #[.int .i64 k, .int .i64 n, .string s, .slice ao l.length cap] 24)) (.cells #[.int .i64 0, .int .i64 0, .string ⟨#[]⟩, .slice none 0 0] 24)
    have h2 : Quad (w.heap.size + 1) (.int .i64 0) (.int .i64 0) (.string ⟨#[]⟩) (.slice none 0 0) ((w.alloc (.cells #[.int .i64 k, .int .i64 n, .string s, .slice ao l.length cap] 24)).alloc (.cells #[.int .i64 0, .int .i64 0, .string ⟨#[]⟩, .slice none 0 0] 24)) := by
      unfold Quad
      simpa using h1
    exact h2.only (Only.alloc (fun _ => False) _ _) (fun e => e)
  have hsz : w.heap.size + 3 = (((w.alloc (.cells #[.int .i64 k, .int .i64 n, .string s, .slice ao l.length cap] 24)).alloc (.cells #[.int .i64 0, .int .i64 0, .string ⟨#[]⟩, .slice none 0 0] 24)).alloc (.cells #[.int .i64 k, .int .i64 n, .string s, .slice ao l.length cap] 24)).heap.size := by simp
  refine (HM.out _ ho _ hb).mono ?_
  rintro e w1 ⟨rfl, ho1⟩
  have HO := Lib.hid (ho.same ho1)
  have HQ := Lib.hid (hq.only ho1 (fun e => e))
  have HSZ : Hid (w.heap.size + 3 ≤ w1.heap.size) := Lib.hid (by have := ho1.size; omega)
  obtain ⟨d0, d1, d2, d3⟩ := (hbx.later ho1).cells
  clear hb ho hbx ho1 hq hsz
  go_wp2_with fail
  refine (HI.out _ HO.out).mono ?_
  rintro e w2 ⟨ao', cap', rfl, hrow, ho2⟩
  have HROW := Lib.hid hrow
  have HO2 := Lib.hid (HO.out.same ho2)
  have hq2 := HQ.out.only ho2 (fun e => e)
  have HS2 := Lib.hid (hq2.set (.int .i64 k) (.int .i64 n) (.string s) (.slice ao' l.length cap'))
  obtain ⟨c0, c1, c2, c3⟩ := hq2.cells
  obtain ⟨f0, f1, f2, f3⟩ := hq2.free
  clear hrow ho2 hq2 d0 d1 d2 d3
  go_wp2_with fail
  have hc := HS2.out.1.cells
  refine bodyPost_ret (v := tv (T.mk k n s l) ao' cap') (results_term rfl _ _ (w.heap.size + 1) _ _ _ _ rfl hc.1 hc.2.1 hc.2.2.1 hc.2.2.2) rfl ?_
  refine ⟨ao', cap', rfl, ?_, Only.cut HO2.out HS2.out.2 (fun k e => by omega)⟩
  refine (HROW.out.only HS2.out.2 (fun q hq => hq.2) (fun q hq e => ?_)).mono (fun q hq => ⟨?_, Nat.lt_of_lt_of_le hq.2 HS2.out.2.size⟩)
  · have := hq.1; have := HSZ.out; omega
  · have := hq.1; have := HSZ.out; omega
end
end Go.Proofs.Ytoogmlgaeipenaa.terms
/- Terms: the numbers of variables in the order in which one came to them. -/
namespace Go.Proofs.Ytoogmlgaeipenaa.terms
set_option maxRecDepth 100000
section
open Go.RowKit Go.Proofs.Ytoogmlgaeipenaa.own Go.Maps
def encI (x : Int) : List Value := [.int .i64 x]
theorem liesI : Go.Proofs.Ytoogmlgaeipenaa.own.Lies encI 1 := ⟨fun _ => rfl, by intro x u hu; simp [encI] at hu; subst hu; rfl, by omega⟩
theorem infoI : (Try.prog.info? 3).map (fun i => (i.zero, i.size, i.bytes)) = some (some (.int .i64 0), 1, 8) := by kernel_rfl
theorem keyedI : Keyed Try.prog 3 := int_keyed Try.underlying3
/-- A number's place. -/
def pos (l : List Int) (n : Int) : Option Nat := l.findIdx? (fun m => m == n)
theorem pos_some {l : List Int} {n : Int} {i : Nat} (h : pos l n = some i) : l[i]? = some n := by
  unfold pos at h
  obtain ⟨hi, h1, _⟩ := List.findIdx?_eq_some_iff_getElem.1 h
  rw [List.getElem?_eq_getElem hi, beq_iff_eq.1 h1]
theorem pos_none {l : List Int} {n : Int} (h : pos l n = none) : n ∉ l := by
  unfold pos at h
  rw [List.findIdx?_eq_none_iff] at h
  intro hm
  have := h n hm
  simp at this
theorem pos_snoc (l : List Int) (n m : Int) : pos (l ++ [n]) m = match pos l m with | some i => some i | none => if n = m then some l.length else none := by
  unfold pos
  rw [List.findIdx?_append]
  cases h : l.findIdx? (fun k => k == m) with
  | some i => rfl
  | none =>
    by_cases e : n = m
    · simp [e]
    · simp [e]
abbrev DI := DataW Unit
/-- The map tells each number's place. -/
def SerD (D : DI) (l : List Int) : Prop := IsMap D ∧ ∀ n : Int, match pos l n with | some i => Maps.has D (.int .i64 n) = true ∧ ∀ z : DI, D.atKey (.int .i64 n) z = .lit (.int .i64 i) | none => Maps.has D (.int .i64 n) = false
theorem SerD.empty : SerD (.map []) [] := ⟨isMap_empty, fun n => rfl⟩
theorem SerD.put {D : DI} {l : List Int} {n : Int} (h : SerD D l) (hn : pos l n = none) : SerD (D.put (.int .i64 n) (.lit (.int .i64 l.length))) (l ++ [n]) := by
  refine ⟨h.1.put _ _, fun m => ?_⟩
  rw [pos_snoc]
  have hm := h.2 m
  by_cases e : m = n
  · subst e
    rw [hn, if_pos rfl]
    exact ⟨has_put_same h.1 (show WideAt.IsKeyLit (.int .i64 m) from trivial) _, fun z => atKey_put_same h.1 (show WideAt.IsKeyLit (.int .i64 m) from trivial) _ z⟩
  · have hne : (Lit.int .i64 m) ≠ .int .i64 n := fun e2 => e (by cases e2; rfl)
    cases hp : pos l m with
    | some i =>
      rw [hp] at hm
      exact ⟨(has_put_other hne _).trans hm.1, fun z => (atKey_put_other hne _ z).trans (hm.2 z)⟩
    | none =>
      rw [hp] at hm
      simp only [if_neg (fun e2 => e e2.symm : ¬ n = m)]
      exact (has_put_other hne _).trans hm
abbrev OrdP (ao : Option Addr) (cap : Nat) (l : List Int) (w : World) : Prop := RowOf encI 1 3 0 ao cap l w
/-- The numbers, and where their parts lie. -/
structure SerC (sb : Nat) (l : List Int) (S : Nat → Prop) (mo : Option Nat) (oo : Option Addr) (cap : Nat) (w : World) : Prop where
  blk : w.heap[sb]? = some (.cells #[.map mo, .slice oo l.length cap] 135 (0, 0))
  row : OrdP oo cap l w
  nil : mo = none → l = []
  map : ∀ m, mo = some m → ∃ D : DI, w.ownsMap Try.prog 3 (plainElem Try.prog 3) m l.length D ∧ SerD D l
  own : S sb ∧ (∀ m, mo = some m → S m) ∧ ∀ g, oo = some g → S g.block
  lt : ∀ k, S k → k < w.heap.size
  other : (∀ m, mo = some m → m ≠ sb) ∧ ∀ g, oo = some g → g.block ≠ sb ∧ ∀ m, mo = some m → g.block ≠ m
def Ser (sb : Nat) (l : List Int) (S : Nat → Prop) (w : World) : Prop := ∃ mo oo cap, SerC sb l S mo oo cap w
theorem map_only {P : Program} {k : TypeId} {R : Value → Option (DI × List MemPlace)} {S : Nat → Prop} {w w' : World} {b n : Nat} {D : DI} (h : w.ownsMap P k R b n D) (ho : Only S w w') (hS : ¬ S b) : w'.ownsMap P k R b n D := by
  have hlt := h.lt
  obtain ⟨es, clock, hb, F, hs, hD⟩ := h
  exact ⟨es, clock, (ho.block b hlt hS).trans hb, F, hs, hD⟩
theorem SerC.only {sb : Nat} {l : List Int} {S S' : Nat → Prop} {mo : Option Nat} {oo : Option Addr} {cap : Nat} {w w' : World} (h : SerC sb l S mo oo cap w) (ho : Only S' w w') (hS : ∀ k, S k → ¬ S' k) : SerC sb l S mo oo cap w' := by
  refine ⟨?_, h.row.only ho (fun g hg => hS _ (h.own.2.2 g hg)), h.nil, fun m hm => ?_, h.own, fun k hk => Nat.lt_of_lt_of_le (h.lt k hk) ho.size, h.other⟩
  · rw [ho.block sb (h.lt sb h.own.1) (hS sb h.own.1)]
    exact h.blk
  · obtain ⟨D, h1, h2⟩ := h.map m hm
    exact ⟨D, map_only h1 ho (hS m (h.own.2.1 m hm)), h2⟩
theorem zeroI (w : World) : (zeroValue 3).run Try.prog w = .ok (.int .i64 0) w := by kernel_rfl
theorem look_nil (n : Int) (w : World) : (Instr.lookup 133 (.map none) (.int .i64 n) true).run Try.prog w = .ok (.tuple #[.int .i64 0, .bool false]) w := by kernel_rfl
theorem look_yes {m u : Nat} {D : DI} {w : World} {l : List Int} (hD : w.ownsMap Try.prog 3 (plainElem Try.prog 3) m u D) (hS : SerD D l) {n : Int} (hn : Fits n) {i : Nat} (hp : pos l n = some i) :
    (Instr.lookup 133 (.map (some m)) (.int .i64 n) true).run Try.prog w = .ok (.tuple #[.int .i64 i, .bool true]) w := by
  have hk : keyOf Try.prog 3 (.int .i64 n) = some (.int .i64 n) := keyOf_int_mk Try.underlying3 (by
    have k1 : IntKind.i64.min = -9223372036854775808 := rfl
    have k2 : IntKind.i64.max = 9223372036854775807 := rfl
    simp [Lit.wf, k1, k2]; exact hn)
  have hh := hS.2 n
  rw [hp] at hh
  obtain ⟨v, ps, hrun, hv⟩ := hD.look_ok keyedI Try.underlying133 (zeroI w) (plainElem_int Try.underlying3 (by decide)) hk
  obtain ⟨c', rfl, hc, _⟩ := plainElem_int_inv Try.underlying3 hv
  have e := (hh.2 _).symm.trans (congrArg Prod.fst hc)
  simp only [DataW.lit.injEq, Lit.int.injEq, true_and] at e
  rw [hrun, hh.1, ← e]
theorem look_no {m u : Nat} {D : DI} {w : World} {l : List Int} (hD : w.ownsMap Try.prog 3 (plainElem Try.prog 3) m u D) (hS : SerD D l) {n : Int} (hn : Fits n) (hp : pos l n = none) :
    ∃ c : Int, (Instr.lookup 133 (.map (some m)) (.int .i64 n) true).run Try.prog w = .ok (.tuple #[.int .i64 c, .bool false]) w := by
  have hk : keyOf Try.prog 3 (.int .i64 n) = some (.int .i64 n) := keyOf_int_mk Try.underlying3 (by
    have k1 : IntKind.i64.min = -9223372036854775808 := rfl
    have k2 : IntKind.i64.max = 9223372036854775807 := rfl
    simp [Lit.wf, k1, k2]; exact hn)
  have hh := hS.2 n
  rw [hp] at hh
  obtain ⟨v, ps, hrun, hv⟩ := hD.look_ok keyedI Try.underlying133 (zeroI w) (plainElem_int Try.underlying3 (by decide)) hk
  obtain ⟨c', rfl, hc, _⟩ := plainElem_int_inv Try.underlying3 hv
  exact ⟨c', by rw [hrun, hh]⟩
theorem keyI {n : Int} (hn : Fits n) : keyOf Try.prog 3 (.int .i64 n) = some (.int .i64 n) := keyOf_int_mk Try.underlying3 (by
  have k1 : IntKind.i64.min = -9223372036854775808 := rfl
  have k2 : IntKind.i64.max = 9223372036854775807 := rfl
  simp [Lit.wf, k1, k2]; exact hn)
theorem run_mnil (w : World) (r : Option Nat) : (binOp .eql 133 (.map r) (.map none)).run Try.prog w = .ok (.bool r.isNone) w := run_eql_map_nil w _ _ _ r Try.underlying133
def numF (l : List Int) (n : Int) : Nat × List Int := match pos l n with | some i => (i, l) | none => (l.length, l ++ [n])
theorem Only.turned {w w' : World} {b : Nat} (h : w.mapTurned w' b) : Only (· = b) w w' := (Only.grown h.grown).mono (fun _ _ e => by simpa using e)
/-- The map is made. -/
theorem SerC.made {sb : Nat} {l : List Int} {S : Nat → Prop} {oo : Option Addr} {cap : Nat} {w : World} (h : SerC sb l S none oo cap w) :
    SerC sb l (Grew S w ((w.setCell ⟨sb, 0, none⟩ (.map (some w.heap.size))).alloc (.map #[] 0))) (some w.heap.size) oo cap ((w.setCell ⟨sb, 0, none⟩ (.map (some w.heap.size))).alloc (.map #[] 0)) ∧ Only S w ((w.setCell ⟨sb, 0, none⟩ (.map (some w.heap.size))).alloc (.map #[] 0)) := by
  have hl := h.nil rfl
  have hsb := h.lt sb h.own.1
  have o1 : Only (· = sb) w (w.setCell ⟨sb, 0, none⟩ (.map (some w.heap.size))) := Only.setCell (S := (· = sb)) _ (p := ⟨sb, 0, none⟩) rfl _
  have o2 : Only (fun _ => False) (w.setCell ⟨sb, 0, none⟩ (.map (some w.heap.size))) ((w.setCell ⟨sb, 0, none⟩ (.map (some w.heap.size))).alloc (.map #[] 0)) := Only.alloc _ _ _
  have hall : Only S w ((w.setCell ⟨sb, 0, none⟩ (.map (some w.heap.size))).alloc (.map #[] 0)) := (o1.mono (fun k _ e => by subst e; exact h.own.1)).same (o2.no S)
  have b1 := blk_set h.blk 0 (.map (some w.heap.size))
  have hgs : ∀ g, oo = some g → g.block ≠ sb := fun g hg => (h.other.2 g hg).1
  have hsz0 : (w.setCell ⟨sb, 0, none⟩ (.map (some w.heap.size))).heap.size = w.heap.size := by simp [World.setCell]
  have hsz : ((w.setCell ⟨sb, 0, none⟩ (.map (some w.heap.size))).alloc (.map #[] 0)).heap.size = w.heap.size + 1 := by rw [show ((w.setCell ⟨sb, 0, none⟩ (.map (some w.heap.size))).alloc (.map #[] 0)).heap.size = (w.setCell ⟨sb, 0, none⟩ (.map (some w.heap.size))).heap.size + 1 by simp, hsz0]
  have hm := World.ownsMap_made (H := Unit) (w.setCell ⟨sb, 0, none⟩ (.map (some w.heap.size))) Try.prog 3 (plainElem Try.prog 3)
  rw [hsz0] at hm
  refine ⟨⟨?_, (h.row.only o1 (fun g hg e => hgs g hg e)).only o2 (fun _ _ e => e), fun e => (by cases e), fun q hq => ?_, ⟨.inl h.own.1, fun q hq => ?_, fun g hg => .inl (h.own.2.2 g hg)⟩, fun k hk => ?_, ⟨fun q hq => ?_, fun g hg => ⟨hgs g hg, fun q hq => ?_⟩⟩⟩, hall⟩
  · exact blk_later (by simpa using b1) o2
  · cases hq
    subst hl
    exact ⟨_, hm, SerD.empty⟩
  · cases hq
    exact .inr ⟨Nat.le_refl _, by omega⟩
  · rcases hk with hk | hk
    · have := h.lt k hk; omega
    · exact hk.2
  · cases hq; omega
  · cases hq
    have := h.lt _ (h.own.2.2 g hg)
    omega
/-- A new number is noted: in the map, then behind all others. -/
theorem SerC.add {sb m : Nat} {l : List Int} {S : Nat → Prop} {oo oo' : Option Addr} {cap cap' : Nat} {w w1 w2 : World} {D : DI} {n : Int} (h : SerC sb l S (some m) oo cap w) (hp : pos l n = none) (hD : SerD D l)
    (h1 : w1.ownsMap Try.prog 3 (plainElem Try.prog 3) m (l.length + 1) (D.put (.int .i64 n) (.lit (.int .i64 l.length)))) (o1 : Only (· = m) w w1) (h2 : OrdP oo' cap' (l ++ [n]) w2) (o2 : Only (RowAt oo) w1 w2) (hnew : NewRow w1.heap.size oo oo') :
    SerC sb (l ++ [n]) (Grew S w (w2.setCell ⟨sb, 1, none⟩ (.slice oo' (l ++ [n]).length cap'))) (some m) oo' cap' (w2.setCell ⟨sb, 1, none⟩ (.slice oo' (l ++ [n]).length cap')) ∧ Only S w (w2.setCell ⟨sb, 1, none⟩ (.slice oo' (l ++ [n]).length cap')) := by
  have hms := h.other.1 m rfl
  have b1 : w1.heap[sb]? = some (.cells #[.map (some m), .slice oo l.length cap] 135 (0, 0)) := by
    rw [o1.block sb (h.lt sb h.own.1) (fun e => hms e.symm)]
    exact h.blk
  have hgs : ∀ g, oo = some g → g.block ≠ sb := fun g hg => (h.other.2 g hg).1
  have b2 : w2.heap[sb]? = some (.cells #[.map (some m), .slice oo l.length cap] 135 (0, 0)) := by
    rw [o2.block sb (lt_of_block b1) (by rintro ⟨g, hg, e⟩; exact hgs g hg e.symm)]
    exact b1
  have o3 : Only (· = sb) w2 (w2.setCell ⟨sb, 1, none⟩ (.slice oo' (l ++ [n]).length cap')) := Only.setCell (S := (· = sb)) _ (p := ⟨sb, 1, none⟩) rfl _
  have hall : Only S w (w2.setCell ⟨sb, 1, none⟩ (.slice oo' (l ++ [n]).length cap')) := ((o1.mono (fun k _ e => by subst e; exact h.own.2.1 _ rfl)).same (o2.mono (fun k _ e => by obtain ⟨g, hg, rfl⟩ := e; exact h.own.2.2 g hg))).same (o3.mono (fun k _ e => by subst e; exact h.own.1))
  have s1 := o1.size
  have s2 := o2.size
  have s3 := o3.size
  have hsb := h.lt sb h.own.1
  have hm := h.lt m (h.own.2.1 m rfl)
  have hoth : ∀ g, oo' = some g → g.block ≠ sb ∧ ∀ q, some m = some q → g.block ≠ q := by
    intro g hg
    rcases hnew g hg with e | e
    · exact ⟨hgs g e, fun q hq => (h.other.2 g e).2 q hq⟩
    · exact ⟨by omega, fun q hq => by cases hq; omega⟩
  refine ⟨⟨?_, h2.only o3 (fun g hg e => (hoth g hg).1 e), fun e => (by cases e), fun q hq => ?_, ⟨.inl h.own.1, fun q hq => .inl (h.own.2.1 q hq), fun g hg => ?_⟩, fun k hk => ?_, h.other.1, hoth⟩, hall⟩
  · simpa using blk_set b2 1 (.slice oo' (l ++ [n]).length cap')
  · cases hq
    refine ⟨_, ?_, hD.put hp⟩
    have hm2 := map_only h1 o2 (by rintro ⟨g, hg, e⟩; exact (h.other.2 g hg).2 m rfl e.symm)
    have hm3 := map_only hm2 o3 (fun e => hms e)
    rw [show l.length + 1 = (l ++ [n]).length by simp] at hm3
    exact hm3
  · rcases hnew g hg with e | e
    · exact .inl (h.own.2.2 g e)
    · exact .inr ⟨by omega, by have := (h2.head g hg).2.2; omega⟩
  · rcases hk with hk | hk
    · have := h.lt k hk; have := hall.size; omega
    · exact hk.2
set_option maxRecDepth 100000 in
set_option maxHeartbeats 2000000 in
theorem number_old {sb : Nat} {l : List Int} {S : Nat → Prop} {w : World} (n : Int) (hn : Fits n) (h : Ser sb l S w) {i : Nat} (hp : pos l n = some i) : Calls Try.prog 122 #[.pointer (some ⟨sb, 0, none⟩), .int .i64 n] w fun e w' => e = .returned (.int .i64 (i : Nat)) ∧ w = w' := by
  obtain ⟨mo, oo, cap, hc⟩ := h
  cases mo with
  | none =>
    have := hc.nil rfl
    subst this
    cases hp
  | some m =>
    obtain ⟨D, h1, h2⟩ := hc.map m rfl
    have hlk := look_yes h1 h2 hn hp
    have c0 := cell_of_blk hc.blk 0
    simp only [List.getElem?_toArray, List.getElem?_cons_zero] at c0
    clear hc h1 h2 hp
    go_enter Try.func122, Try.ntmps122
    go_wp2_with fail
    go_ret
    exact ⟨rfl, rfl⟩
set_option maxRecDepth 100000 in
set_option maxHeartbeats 2000000 in
theorem number_new {sb : Nat} {l : List Int} {S : Nat → Prop} {w : World} (n : Int) (hn : Fits n) (h : Ser sb l S w) (hp : pos l n = none) (hl : l.length ≤ 16777215) : Calls Try.prog 122 #[.pointer (some ⟨sb, 0, none⟩), .int .i64 n] w fun e w' => ∃ S', e = .returned (.int .i64 (l.length : Nat)) ∧ Ser sb (l ++ [n]) S' w' ∧ Only S w w' ∧ ∀ k, S' k → Grew S w w' k := by
  obtain ⟨i0, hi, hz0, hz1, hz2⟩ := info_parts infoI
  obtain ⟨mo, oo, cap, hc⟩ := h
  have hmn := run_mnil
  have hkey := keyI hn
  have HW : Hid ((Lit.int .i64 (l.length : Int)).wf = true) := Lib.hid (by
    have k1 : IntKind.i64.min = -9223372036854775808 := rfl
    have k2 : IntKind.i64.max = 9223372036854775807 := rfl
    simp [Lit.wf, k1, k2]; omega)
  cases mo with
  | none =>
    have hl0 := hc.nil rfl
    have hlk := look_nil n
    have hmk : ∀ W : World, (Instr.makeMap 133 none).run Try.prog W = .ok (.map (some W.heap.size)) (W.alloc (.map #[] 0)) := fun W => by first | rfl | simp [Instr.makeMap]
    have hcm := hc.made
    have c0 := cell_of_blk hc.blk 0
    have c1 := cell_of_blk hc.blk 1
    have f0 := free_of_blk hc.blk 0
    simp only [List.getElem?_toArray, List.getElem?_cons_zero, List.getElem?_cons_succ] at c0 c1
    have hsb : ¬ sb = w.heap.size := fun e => by have := hc.lt sb hc.own.1; omega
    have hblt : sb < w.heap.size := hc.lt sb hc.own.1
    obtain ⟨D, h1, h2⟩ := hcm.1.map _ rfl
    have HC := Lib.hid hcm.1
    have HCO := Lib.hid hcm.2
    have HD1 := Lib.hid h1
    have HD2 := Lib.hid h2
    have HP := Lib.hid hp
    have hms : ¬ w.heap.size = sb := fun e => hsb e.symm
    clear hc h1 h2 hp hcm hl0
    go_enter Try.func122, Try.ntmps122
    go_wp2_with (first
      | (at_mapUpdate; refine wpList_mapUpdate_in _ rfl _ _ _ 133 rfl 3 3 keyedI Try.underlying133 _ w.heap.size l.length D rfl HD1.out (by unfold maxLen; omega) _ _ _ rfl rfl hkey _ [] (plainElem_int Try.underlying3 HW.out) ?_; intro w1 hown1 hturn1
         have HOWN := Lib.hid hown1; have HT := Lib.hid (Only.turned hturn1)
         have hb1 : w1.heap[sb]? = some (.cells #[.map (some w.heap.size), .slice oo l.length cap] 135 (0, 0)) := by rw [HT.out.block sb (HC.out.lt sb HC.out.own.1) (fun e => hms e.symm)]; exact HC.out.blk
         have c1' := cell_of_blk hb1 1; simp only [List.getElem?_toArray, List.getElem?_cons_zero, List.getElem?_cons_succ] at c1'
         have HB1 := Lib.hid hb1; have HROW := Lib.hid (HC.out.row.only HT.out (fun g hg e => (HC.out.other.2 g hg).2 w.heap.size rfl e)); clear hown1 hturn1 hb1 c0 c1 f0)
      | (at_builtin; refine wp_append_one liesI rfl (.tmp 43) (.tmp 45) 52 rfl 0 3 i0 _ 8 Try.underlying52 hi hz0 hz1 hz2 rfl (by omega) w1 oo cap l n [.int .i64 n] rfl rfl HROW.out rfl (by omega) (Nat.zero_le _) ?_; intro oo' cap' w2 hrow2 ho2 hnew2
         have HROW2 := Lib.hid hrow2; have HO2 := Lib.hid ho2; have HNEW := Lib.hid hnew2
         have hb2 : w2.heap[sb]? = some (.cells #[.map (some w.heap.size), .slice oo l.length cap] 135 (0, 0)) := by rw [ho2.block sb (lt_of_block HB1.out) (by rintro ⟨g, hg, e⟩; exact (HC.out.other.2 g hg).1 e.symm)]; exact HB1.out
         have c2 := cell_of_blk hb2 1; simp only [List.getElem?_toArray, List.getElem?_cons_zero, List.getElem?_cons_succ] at c2
         have f2 := free_of_blk hb2 1; clear hrow2 ho2 hnew2 hb2 c1')
      | fail)
    go_ret
    have hadd := HC.out.add HP.out HD2.out HOWN.out HT.out HROW2.out HO2.out HNEW.out
    rw [show (l ++ [n]).length = l.length + 1 by simp] at hadd
    refine ⟨_, rfl, ⟨_, _, _, hadd.1⟩, ?_, ?_⟩
    · exact HCO.out.next hadd.2
    · rintro k (hk | hk)
      · rcases hk with hk | hk
        · exact .inl hk
        · exact .inr ⟨hk.1, Nat.lt_of_lt_of_le hk.2 hadd.2.size⟩
      · exact .inr ⟨Nat.le_trans HCO.out.size hk.1, hk.2⟩
  | some m =>
    obtain ⟨D, h1, h2⟩ := hc.map m rfl
    obtain ⟨c, hlk⟩ := look_no h1 h2 hn hp
    have c0 := cell_of_blk hc.blk 0
    have c1 := cell_of_blk hc.blk 1
    simp only [List.getElem?_toArray, List.getElem?_cons_zero, List.getElem?_cons_succ] at c0 c1
    have HC := Lib.hid hc
    have HD1 := Lib.hid h1
    have HD2 := Lib.hid h2
    have HP := Lib.hid hp
    have hms : ¬ m = sb := hc.other.1 m rfl
    clear hc h1 h2 hp
    go_enter Try.func122, Try.ntmps122
    go_wp2_with (first
      | (at_mapUpdate; refine wpList_mapUpdate_in _ rfl _ _ _ 133 rfl 3 3 keyedI Try.underlying133 _ m l.length D rfl HD1.out (by unfold maxLen; omega) _ _ _ rfl rfl hkey _ [] (plainElem_int Try.underlying3 HW.out) ?_; intro w1 hown1 hturn1
         have HOWN := Lib.hid hown1; have HT := Lib.hid (Only.turned hturn1)
         have hb1 : w1.heap[sb]? = some (.cells #[.map (some m), .slice oo l.length cap] 135 (0, 0)) := by rw [HT.out.block sb (HC.out.lt sb HC.out.own.1) (fun e => hms e.symm)]; exact HC.out.blk
         have c1' := cell_of_blk hb1 1; simp only [List.getElem?_toArray, List.getElem?_cons_zero, List.getElem?_cons_succ] at c1'
         have HB1 := Lib.hid hb1; have HROW := Lib.hid (HC.out.row.only HT.out (fun g hg e => (HC.out.other.2 g hg).2 m rfl e)); clear hown1 hturn1 hb1 c0 c1 hlk)
      | (at_builtin; refine wp_append_one liesI rfl (.tmp 43) (.tmp 45) 52 rfl 0 3 i0 _ 8 Try.underlying52 hi hz0 hz1 hz2 rfl (by omega) w1 oo cap l n [.int .i64 n] rfl rfl HROW.out rfl (by omega) (Nat.zero_le _) ?_; intro oo' cap' w2 hrow2 ho2 hnew2
         have HROW2 := Lib.hid hrow2; have HO2 := Lib.hid ho2; have HNEW := Lib.hid hnew2
         have hb2 : w2.heap[sb]? = some (.cells #[.map (some m), .slice oo l.length cap] 135 (0, 0)) := by rw [ho2.block sb (lt_of_block HB1.out) (by rintro ⟨g, hg, e⟩; exact (HC.out.other.2 g hg).1 e.symm)]; exact HB1.out
         have c2 := cell_of_blk hb2 1; simp only [List.getElem?_toArray, List.getElem?_cons_zero, List.getElem?_cons_succ] at c2
         have f2 := free_of_blk hb2 1; clear hrow2 ho2 hnew2 hb2 c1')
      | fail)
    go_ret
    have hadd := HC.out.add HP.out HD2.out HOWN.out HT.out HROW2.out HO2.out HNEW.out
    rw [show (l ++ [n]).length = l.length + 1 by simp] at hadd
    exact ⟨_, rfl, ⟨_, _, _, hadd.1⟩, hadd.2, fun k hk => hk⟩
end
end Go.Proofs.Ytoogmlgaeipenaa.terms
/- Terms: variables renamed. -/
namespace Go.Proofs.Ytoogmlgaeipenaa.terms
set_option maxRecDepth 100000
section
open Go.RowKit Go.Proofs.Ytoogmlgaeipenaa.own Go.Maps
mutual
def T.occ : T → List Int | .mk k n _ l => (if k = 1 then [n] else []) ++ occs l
def occs : List T → List Int | [] => [] | x :: r => x.occ ++ occs r
end
theorem allv_mono {p q : Int → Prop} (h : ∀ n, p n → q n) (t : T) (ht : t.allv p) : t.allv q := by
  induction t using T.ind with
  | h k n s l ih =>
    refine ⟨fun e => h n (ht.1 e), ?_⟩
    have h2 := ht.2
    clear ht
    induction l with
    | nil => trivial
    | cons x r ihr => exact ⟨ih x (by simp) h2.1, ihr (fun y hy => ih y (by simp [hy])) h2.2⟩
theorem allvs_mono {p q : Int → Prop} (h : ∀ n, p n → q n) (l : List T) (ht : allvs p l) : allvs q l := by
  induction l with
  | nil => trivial
  | cons x r ihr => exact ⟨allv_mono h x ht.1, ihr ht.2⟩
theorem allv_and {p q : Int → Prop} (t : T) (hp : t.allv p) (hq : t.allv q) : t.allv (fun n => p n ∧ q n) := by
  induction t using T.ind with
  | h k n s l ih =>
    refine ⟨fun e => ⟨hp.1 e, hq.1 e⟩, ?_⟩
    have h1 := hp.2
    have h2 := hq.2
    clear hp hq
    induction l with
    | nil => trivial
    | cons x r ihr => exact ⟨ih x (by simp) h1.1 h2.1, ihr (fun y hy => ih y (by simp [hy])) h1.2 h2.2⟩
theorem allv_occ (t : T) : t.allv (fun n => n ∈ t.occ) := by
  induction t using T.ind with
  | h k n s l ih =>
    refine ⟨fun e => by simp [T.occ, e], ?_⟩
    have : allvs (fun n => n ∈ occs l) l := by
      clear k n s
      induction l with
      | nil => trivial
      | cons x r ihr =>
        refine ⟨allv_mono (fun m hm => ?_) x (ih x (by simp)), allvs_mono (fun m hm => ?_) r (ihr (fun y hy => ih y (by simp [hy])))⟩
        · simp [occs, hm]
        · simp [occs, hm]
    exact allvs_mono (fun m hm => by simp [T.occ, hm]) l this
theorem occ_le (t : T) : t.occ.length ≤ t.size := by
  induction t using T.ind with
  | h k n s l ih =>
    have : (occs l).length ≤ sizes l := by
      clear k n s
      induction l with
      | nil => simp [occs]
      | cons x r ihr =>
        have h1 := ih x (by simp)
        have h2 := ihr (fun y hy => ih y (by simp [hy]))
        simp only [occs, sizes, List.length_append]
        omega
    show ((if k = 1 then [n] else []) ++ occs l).length ≤ 1 + sizes l
    rw [List.length_append]
    split <;> simp <;> omega
theorem nodup_le {l : List Int} : ∀ {v : List Int}, l.Nodup → (∀ m ∈ l, m ∈ v) → l.length ≤ v.length := by
  induction l with
  | nil => intro v _ _; simp
  | cons x r ih =>
    intro v hn hs
    have hx := hs x (by simp)
    have h1 := List.nodup_cons.1 hn
    have := ih (v := v.erase x) h1.2 (fun m hm => by
      refine (List.mem_erase_of_ne (fun e => ?_)).2 (hs m (by simp [hm]))
      subst e
      exact h1.1 hm)
    have hl := List.length_erase_of_mem hx
    have hpos : 0 < v.length := List.length_pos_of_mem hx
    rw [List.length_cons]
    omega
/-- Different numbers, all of which are among those of v. -/
structure Kept (v l : List Int) : Prop where
  nodup : l.Nodup
  sub : ∀ m ∈ l, m ∈ v
theorem Kept.nil (v : List Int) : Kept v [] := ⟨List.nodup_nil, fun m hm => by cases hm⟩
theorem Kept.num {v l : List Int} {n : Int} (h : Kept v l) (hn : n ∈ v) : Kept v (numF l n).2 := by
  unfold numF
  cases hp : pos l n with
  | some i => exact h
  | none =>
    refine ⟨?_, fun m hm => ?_⟩
    · show (l ++ [n]).Nodup
      rw [List.nodup_append]
      refine ⟨h.nodup, by simp, fun a ha b hb e => ?_⟩
      rw [List.mem_singleton.1 hb] at e
      subst e
      exact pos_none hp ha
    · have hm' : m ∈ l ++ [n] := hm
      rcases List.mem_append.1 hm' with e | e
      · exact h.sub m e
      · rw [List.mem_singleton.1 e]; exact hn
def RenI (sb : Nat) (v : List Int) (l : List Int) (S : Nat → Prop) (w : World) : Prop := Ser sb l S w ∧ Kept v l ∧ v.length ≤ 16777215
def renOut (l : List Int) (n : Int) : T := T.mk 1 ((numF l n).1 : Nat) ⟨#[]⟩ []
def renNxt (l : List Int) (n : Int) : List Int := (numF l n).2
theorem Ser.only {sb : Nat} {l : List Int} {S S' : Nat → Prop} {w w' : World} (h : Ser sb l S w) (ho : Only S' w w') (hS : ∀ k, S k → ¬ S' k) : Ser sb l S w' := by
  obtain ⟨mo, oo, cap, h⟩ := h
  exact ⟨mo, oo, cap, h.only ho hS⟩
theorem Ser.lt {sb : Nat} {l : List Int} {S : Nat → Prop} {w : World} (h : Ser sb l S w) : ∀ k, S k → k < w.heap.size := by
  obtain ⟨mo, oo, cap, h⟩ := h
  exact h.lt
theorem number_any {sb : Nat} {v l : List Int} {S : Nat → Prop} {w : World} (n : Int) (hn : Fits n) (hm : n ∈ v) (h : RenI sb v l S w) : Calls Try.prog 122 #[.pointer (some ⟨sb, 0, none⟩), .int .i64 n] w fun e w' => ∃ S', e = .returned (.int .i64 ((numF l n).1 : Nat)) ∧ RenI sb v (numF l n).2 S' w' ∧ Only S w w' ∧ ∀ k, S' k → Grew S w w' k := by
  have hk := h.2.1.num hm
  have hle := nodup_le h.2.1.nodup h.2.1.sub
  have hv := h.2.2
  revert hk
  unfold numF
  cases hp : pos l n with
  | some i =>
    intro hk
    refine (number_old n hn h.1 hp).mono ?_
    rintro e w' ⟨rfl, rfl⟩
    exact ⟨S, rfl, h, Only.refl _ _, fun k hk => .inl hk⟩
  | none =>
    intro hk
    refine (number_new n hn h.1 hp (by omega)).mono ?_
    rintro e w' ⟨S', rfl, h1, h2, h3⟩
    exact ⟨S', rfl, ⟨h1, hk, hv⟩, h2, h3⟩
theorem numF_le (l : List Int) (n : Int) : (numF l n).1 ≤ l.length := by
  unfold numF
  cases hp : pos l n with
  | some i =>
    have := (List.getElem?_eq_some_iff.1 (pos_some hp)).1
    show i ≤ l.length
    omega
  | none => exact Nat.le_refl _
set_option maxRecDepth 100000 in
set_option maxHeartbeats 2000000 in
theorem ren1_any {sb : Nat} {v l : List Int} {S : Nat → Prop} {w : World} (n : Int) (hn : Fits n) (hm : n ∈ v) (h : RenI sb v l S w) : Calls Try.prog 120 #[.int .i64 n, .pointer (some ⟨sb, 0, none⟩)] w (ExPost (RenI sb v) w S (renOut l n) (renNxt l n)) := by
  have H := Lib.hid h
  have HN := Lib.hid (fun (w : World) (S : Nat → Prop) (h : RenI sb v l S w) => number_any n hn hm h)
  have HLE := Lib.hid (numF_le l n)
  have HLL : Hid (l.length ≤ 16777215) := Lib.hid (by have := nodup_le h.2.1.nodup h.2.1.sub; have := h.2.2; omega)
  clear h hn hm
  go_enter Try.func120, Try.ntmps120
  go_wp2_with fail
  have ho1 : Only (fun _ => False) w (w.alloc (.cells #[.int .i64 0, .int .i64 0, .string ⟨#[]⟩, .slice none 0 0] 24)) := Only.alloc _ _ _
  have hq1 : Quad w.heap.size (.int .i64 0) (.int .i64 0) (.string ⟨#[]⟩) (.slice none 0 0) (w.alloc (.cells #[.int .i64 0, .int .i64 0, .string ⟨#[]⟩, .slice none 0 0] 24)) := heap_alloc_new _ _
  have hI1 : RenI sb v l S (w.alloc (.cells #[.int .i64 0, .int .i64 0, .string ⟨#[]⟩, .slice none 0 0] 24)) := ⟨H.out.1.only ho1 (fun _ _ e => e), H.out.2⟩
  have hns : ¬ S w.heap.size := fun e => by have := H.out.1.lt _ e; omega
  have hsz : w.heap.size + 1 = (w.alloc (.cells #[.int .i64 0, .int .i64 0, .string ⟨#[]⟩, .slice none 0 0] 24)).heap.size := by simp
  refine (HN.out _ S hI1).mono ?_
  rintro e w1 ⟨S', rfl, hI2, ho2, hS2⟩
  have hq2 := hq1.only ho2 hns
  have HI2 := Lib.hid hI2
  have HO2 := Lib.hid ((ho1.no S).same ho2)
  have hsz2 := ho2.size
  have HS2 := Lib.hid hS2
  have HSZ := Lib.hid hsz
  have HSZ2 := Lib.hid hsz2
  have HQ2 := Lib.hid hq2
  have HNS := Lib.hid hns
  clear hI2 ho2 hS2 hq1 hq2 ho1 hI1 hns hsz hsz2
  have hnn : (0 : Int) ≤ ((numF l n).1 : Nat) := by omega
  go_wp2_with fail
  refine (var_any _ _).mono ?_
  rintro e w2 ⟨rfl, ho3⟩
  have HO3 := Lib.hid ho3
  have HS4 := Lib.hid ((HQ2.out.only ho3 (fun e => e)).set (.int .i64 1) (.int .i64 ((numF l n).1 : Nat)) (.string ⟨#[]⟩) (.slice none 0 0))
  obtain ⟨c0, c1, c2, c3⟩ := (HQ2.out.only ho3 (fun e => e)).cells
  obtain ⟨f0, f1, f2, f3⟩ := (HQ2.out.only ho3 (fun e => e)).free
  clear ho3
  simp only [T.k, T.n, T.s, T.l, List.length_nil]
  go_wp2_with fail
  have hc := HS4.out.1.cells
  refine bodyPost_ret (v := tv (renOut l n) none 0) (results_term rfl _ _ w.heap.size _ _ _ _ rfl hc.1 hc.2.1 hc.2.2.1 hc.2.2.2) rfl ?_
  have hn' : ¬ S' w.heap.size := fun e => by
    rcases HS2.out _ e with e | e
    · exact HNS.out e
    · have := HSZ.out; omega
  have hsub := HI2.out.1.lt
  refine ⟨none, 0, S', rfl, Row.nil _ _ _, ⟨⟨by show (-9223372036854775808 : Int) ≤ 1; omega, by show (1 : Int) ≤ 9223372036854775807; omega⟩, ⟨?_, ?_⟩, Nat.zero_le _, Nat.zero_le _⟩, ⟨(HI2.out.1.only HO3.out (fun _ _ e => e)).only HS4.out.2 (fun k hk e => hn' (e ▸ hk)), HI2.out.2⟩, ?_, ?_⟩
  · show (-9223372036854775808 : Int) ≤ ((numF l n).1 : Nat)
    omega
  · show (((numF l n).1 : Nat) : Int) ≤ 9223372036854775807
    have h1 := HLE.out
    have h2 := HLL.out
    omega
  · exact (HO2.out.same (HO3.out.no S)).trans HS4.out.2 (fun k hk e => by omega)
  · intro k hk
    rcases HS2.out k hk with e | e
    · exact .inl e
    · refine .inr ⟨by have := HSZ.out; omega, ?_⟩
      have h1 := HO3.out.size
      exact Nat.lt_of_lt_of_le e.2 (Nat.le_trans h1 HS4.out.2.size)
theorem place_ren (B sb : Nat) (v : List Int) : Place B 120 #[.pointer (some ⟨sb, 0, none⟩)] (fun n => n ∈ v ∧ Fits n) (RenI sb v) renOut renNxt where
  ent := fun args w => by rfl
  call := fun st S n w hI hn => ren1_any n hn.2 hn.1 hI
  stays := fun st S S'' w w' hI ho hS _ => ⟨hI.1.only ho hS, hI.2⟩
  lt := fun st S w hI => hI.1.lt
end
end Go.Proofs.Ytoogmlgaeipenaa.terms
/- Terms: rename. -/
namespace Go.Proofs.Ytoogmlgaeipenaa.terms
set_option maxRecDepth 100000
section
open Go.RowKit Go.Proofs.Ytoogmlgaeipenaa.own Go.Maps
theorem results_term_tmp {fn : Func} {p u : Tmp} (h : fn.results = #[.cell p 24, .tmp u]) (tmps : Array Value) (w : World) (b : Nat) (x0 x1 x2 x3 x4 : Value) (ha : tmps.getD p undef = .pointer (some ⟨b, 0, none⟩)) (hu : tmps.getD u undef = x4) (h0 : w.cell? ⟨b, 0, none⟩ = some x0) (h1 : w.cell? ⟨b, 1, none⟩ = some x1) (h2 : w.cell? ⟨b, 2, none⟩ = some x2) (h3 : w.cell? ⟨b, 3, none⟩ = some x3) :
    (results fn tmps).run Try.prog w = .ok (.tuple #[.agg #[x0, x1, x2, x3], x4]) w := by
  rw [results_cell_tmp h, ha, hu]
  go_simp
/-- Renamed: its variables numbered anew; and the old numbers, in order. -/
def renF (t : T) : T × List Int := exF renOut renNxt t []
theorem Ser.new (w : World) : Ser w.heap.size [] (· = w.heap.size) (w.alloc (.cells #[.map none, .slice none 0 0] 135)) := by
  refine ⟨none, none, 0, heap_alloc_new w _, RowOf.nil _ _ _ _ _, fun _ => rfl, fun m hm => (by cases hm), ⟨rfl, fun m hm => (by cases hm), fun g hg => (by cases hg)⟩, fun k hk => ?_, fun m hm => (by cases hm), fun g hg => (by cases hg)⟩
  subst hk
  simp
theorem exchange_ren (t : T) (w : World) (ao : Option Addr) (cap : Nat) (hl : Lies w ao t.l) (hs : t.Sane) (hr : t.right = true) (hz : t.size ≤ 16777215) (w1 : World) (ho : Only (fun _ => False) w w1) (sb : Nat) (hsb : w.heap.size ≤ sb) (hser : Ser sb [] (· = sb) w1) :
    Calls Try.prog 119 #[tv t ao cap, .func (.func 120) #[] #[.pointer (some ⟨sb, 0, none⟩)]] w1 fun e w' => ∃ ao' cap' S', e = .returned (tv (renF t).1 ao' cap') ∧ Row (fun k => w1.heap.size ≤ k ∧ k < w'.heap.size) w' ao' (renF t).1.l ∧ (renF t).1.Sane ∧ Ser sb (renF t).2 S' w' ∧ (renF t).2.length ≤ t.size ∧ Only (· = sb) w1 w' := by
  have hav : t.allv (fun n => n ∈ t.occ ∧ Fits n) := allv_and t (allv_occ t) (right_allv (p := Fits) (fun n h0 h1 => ⟨by omega, by omega⟩) t hr)
  have hoc := occ_le t
  have hI : RenI sb t.occ [] (· = sb) w1 := ⟨hser, Kept.nil _, by omega⟩
  have hsz := ho.size
  refine (exchange_any (place_ren w.heap.size sb t.occ) t [] (· = sb) w1 ao cap (hl.only ho (fun _ e => e) (fun _ _ e => e)) (fun k e => by omega) hsz hs hI hav (by omega)).mono ?_
  rintro e w' ⟨ao', cap', S', rfl, hrow, hsane, hI2, ho2, _⟩
  have := nodup_le hI2.2.1.nodup hI2.2.1.sub
  exact ⟨ao', cap', S', rfl, hrow.mono (fun k hk => ⟨hk.1, hk.2.1⟩), hsane, hI2.1, by have : (renF t).2.length ≤ t.occ.length := this; omega, ho2⟩
set_option maxRecDepth 100000 in
set_option maxHeartbeats 2000000 in
theorem rename_any (t : T) (w : World) (ao : Option Addr) (cap : Nat) (hl : Lies w ao t.l) (hs : t.Sane) (hr : t.right = true) (hz : t.size ≤ 16777215) :
    Calls Try.prog 87 #[tv t ao cap] w fun e w' => ∃ ao' cap', e = .returned (.tuple #[tv (renF t).1 ao' cap', .int .i64 ((renF t).2.length : Nat)]) ∧ Row (fun k => w.heap.size ≤ k ∧ k < w'.heap.size) w' ao' (renF t).1.l ∧ (renF t).1.Sane ∧ Only (fun _ => False) w w' := by
  have HX := Lib.hid (exchange_ren t w ao cap hl hs hr hz)
  obtain ⟨k, n, s, l⟩ := t
  have HZ := Lib.hid hz
  generalize renF (T.mk k n s l) = r at *
  show Calls Try.prog 87 #[.agg #[.int .i64 k, .int .i64 n, .string s, .slice ao l.length cap]] w _
  clear hl hs hr hz
  go_enter Try.func87, Try.ntmps87
  go_wp2_with fail
  have ho : Only (fun _ => False) w (((w.alloc (.cells #[.int .i64 k, .int .i64 n, .string s, .slice ao l.length cap] 24)).alloc (.cells #[.int .i64 0, .int .i64 0, .string ⟨#[]⟩, .slice none 0 0] 24)).alloc (.cells #[.map none, .slice none 0 0] 135)) := ((Only.alloc _ _ _).same (Only.alloc _ _ _)).same (Only.alloc _ _ _)
  have hq : Quad (w.heap.size + 1) (.int .i64 0) (.int .i64 0) (.string ⟨#[]⟩) (.slice none 0 0) (((w.alloc (.cells #[.int .i64 k, .int .i64 n, .string s, .slice ao l.length cap] 24)).alloc (.cells #[.int .i64 0, .int .i64 0, .string ⟨#[]⟩, .slice none 0 0] 24)).alloc (.cells #[.map none, .slice none 0 0] 135)) := by
    have h1 := heap_alloc_new (w.alloc (.cells #[.int .i64 k, .int .i64 n, .string s, .slice ao l.length cap] 24)) (.cells #[.int .i64 0, .int .i64 0, .string ⟨#[]⟩, .slice none 0 0] 24)
    have h2 : Quad (w.heap.size + 1) (.int .i64 0) (.int .i64 0) (.string ⟨#[]⟩) (.slice none 0 0) ((w.alloc (.cells #[.int .i64 k, .int .i64 n, .string s, .slice ao l.length cap] 24)).alloc (.cells #[.int .i64 0, .int .i64 0, .string ⟨#[]⟩, .slice none 0 0] 24)) := by
      unfold Quad
      simpa using h1
    exact h2.only (Only.alloc (fun _ => False) _ _) (fun e => e)
  have hser := Ser.new ((w.alloc (.cells #[.int .i64 k, .int .i64 n, .string s, .slice ao l.length cap] 24)).alloc (.cells #[.int .i64 0, .int .i64 0, .string ⟨#[]⟩, .slice none 0 0] 24))
  have hsz : ((w.alloc (.cells #[.int .i64 k, .int .i64 n, .string s, .slice ao l.length cap] 24)).alloc (.cells #[.int .i64 0, .int .i64 0, .string ⟨#[]⟩, .slice none 0 0] 24)).heap.size = w.heap.size + 1 + 1 := by simp
  rw [hsz] at hser
  refine (HX.out _ ho (w.heap.size + 1 + 1) (by omega) hser).mono ?_
  rintro e w1 ⟨ao', cap', S', rfl, hrow, hsane, hser1, hlen, ho1⟩
  have hq1 := hq.only ho1 (by omega)
  have hO1 : Only (fun _ => False) w w1 := Only.cut ho ho1 (fun k e => by omega)
  have hs1 : w.heap.size + 3 ≤ w1.heap.size := by
    have h2 : (((w.alloc (.cells #[.int .i64 k, .int .i64 n, .string s, .slice ao l.length cap] 24)).alloc (.cells #[.int .i64 0, .int .i64 0, .string ⟨#[]⟩, .slice none 0 0] 24)).alloc (.cells #[.map none, .slice none 0 0] 135)).heap.size = w.heap.size + 3 := by simp
    have := ho1.size
    omega
  obtain ⟨mo, oo, ocap, hc⟩ := hser1
  have HQ1 := Lib.hid hq1
  have HO1 := Lib.hid hO1
  have HS1 := Lib.hid hs1
  have HC := Lib.hid hc
  have h3 : (((w.alloc (.cells #[.int .i64 k, .int .i64 n, .string s, .slice ao l.length cap] 24)).alloc (.cells #[.int .i64 0, .int .i64 0, .string ⟨#[]⟩, .slice none 0 0] 24)).alloc (.cells #[.map none, .slice none 0 0] 135)).heap.size = w.heap.size + 3 := by simp
  rw [h3] at hrow
  have HROW := Lib.hid hrow
  clear h3
  have HSA := Lib.hid hsane
  have hlz : r.2.length ≤ 16777215 := by have := HZ.out; omega
  clear ho hq hser hsz hrow hsane hlen ho1 hq1 hO1 hs1 hc
  go_wp2_with fail
  have o2 : Only (fun _ => False) w1 (w1.alloc (.cells #[.int .i64 r.1.k, .int .i64 r.1.n, .string r.1.s, .slice ao' r.1.l.length cap'] 24)) := Only.alloc _ _ _
  have hr1 : Quad w1.heap.size (.int .i64 r.1.k) (.int .i64 r.1.n) (.string r.1.s) (.slice ao' r.1.l.length cap') (w1.alloc (.cells #[.int .i64 r.1.k, .int .i64 r.1.n, .string r.1.s, .slice ao' r.1.l.length cap'] 24)) := heap_alloc_new _ _
  have hrn : w1.heap.size ≠ w.heap.size + 1 := by have := HS1.out; omega
  have hrow2 := (HROW.out.only o2 (fun _ hk => hk.2) (fun _ _ e => e)).mono (Q := fun q => w.heap.size + 3 ≤ q ∧ q < w1.heap.size) (fun _ e => e)
  have hrlt : w1.heap.size < (w1.alloc (.cells #[.int .i64 r.1.k, .int .i64 r.1.n, .string r.1.s, .slice ao' r.1.l.length cap'] 24)).heap.size := by simp
  generalize w1.heap.size = rb at *
  generalize w1.alloc (.cells #[.int .i64 r.1.k, .int .i64 r.1.n, .string r.1.s, .slice ao' r.1.l.length cap'] 24) = w2 at *
  have HQ2 := Lib.hid (HQ1.out.only o2 (fun e => e))
  have HC2 := Lib.hid (HC.out.only o2 (fun _ _ e => e))
  have HO3 := Lib.hid (HO1.out.same o2)
  have HROW2 := Lib.hid hrow2
  have HLT := Lib.hid hrlt
  obtain ⟨d0, d1, d2, d3⟩ := hr1.cells
  have s1 := cell_of_blk HC2.out.blk 1
  simp only [List.getElem?_toArray, List.getElem?_cons_zero, List.getElem?_cons_succ] at s1
  obtain ⟨c0, c1, c2, c3⟩ := HQ2.out.cells
  obtain ⟨f0, f1, f2, f3⟩ := HQ2.out.free
  have HRN := Lib.hid hrn
  clear hr1 o2 hrow2 hrlt HROW HQ1 HC hrn
  have HS4 := Lib.hid (HQ2.out.set (.int .i64 r.1.k) (.int .i64 r.1.n) (.string r.1.s) (.slice ao' r.1.l.length cap'))
  go_region
  go_wp2_with fail
  have hc := HS4.out.1.cells
  refine bodyPost_ret (v := .tuple #[tv r.1 ao' cap', .int .i64 (r.2.length : Nat)]) (results_term_tmp rfl _ ((quadW w2 (w.heap.size + 1) (.int .i64 r.1.k) (.int .i64 r.1.n) (.string r.1.s) (.slice ao' r.1.l.length cap')).drew) (w.heap.size + 1) _ _ _ _ _ rfl rfl hc.1 hc.2.1 hc.2.2.1 hc.2.2.2) rfl ?_
  have o5 : Only (· = w.heap.size + 1) w2 (quadW w2 (w.heap.size + 1) (.int .i64 r.1.k) (.int .i64 r.1.n) (.string r.1.s) (.slice ao' r.1.l.length cap')).drew := HS4.out.2.same (Only.drew _ _)
  refine ⟨ao', cap', rfl, ?_, HSA.out, Only.cut HO3.out o5 (fun k e => by omega)⟩
  refine (HROW2.out.only o5 (fun q hq => Nat.lt_trans hq.2 HLT.out) (fun q hq e => ?_)).mono (fun q hq => ⟨?_, ?_⟩)
  · have := hq.1; omega
  · have := hq.1; omega
  · exact Nat.lt_of_lt_of_le (Nat.lt_trans hq.2 HLT.out) o5.size
end
end Go.Proofs.Ytoogmlgaeipenaa.terms
/- Terms that may be: Rename. -/
namespace Go.Proofs.Ytoogmlgaeipenaa.terms
set_option maxRecDepth 100000
section
open Go.RowKit Go.Proofs.Ytoogmlgaeipenaa.own Go.Maps
set_option maxRecDepth 100000 in
set_option maxHeartbeats 2000000 in
theorem Rename_ok (t : T) (w : World) (ao : Option Addr) (cap : Nat) (hl : Lies w ao t.l) (hs : t.Sane) (hok : t.Ok) :
    Calls Try.prog 50 #[tv t ao cap] w fun e w' => ∃ ao' cap', e = .returned (.tuple #[tv (renF t).1 ao' cap', .int .i64 ((renF t).2.length : Nat)]) ∧ Row (fun k => w.heap.size ≤ k ∧ k < w'.heap.size) w' ao' (renF t).1.l ∧ (renF t).1.Sane ∧ Only (fun _ => False) w w' := by
  have HM := Lib.hid (may_one t w ao cap hl hs hok)
  have HI := Lib.hid (fun (w1 : World) (ho : Only (fun _ => False) w w1) => rename_any t w1 ao cap (hl.later ho) hs hok.right (by have := hok.size; omega))
  obtain ⟨k, n, s, l⟩ := t
  generalize renF (T.mk k n s l) = r at *
  show Calls Try.prog 50 #[.agg #[.int .i64 k, .int .i64 n, .string s, .slice ao l.length cap]] w _
  clear hl hs hok
  go_enter Try.func50, Try.ntmps50
  go_wp2_with fail
  have hb : (((w.alloc (.cells #[.int .i64 k, .int .i64 n, .string s, .slice ao l.length cap] 24)).alloc (.cells #[.int .i64 0, .int .i64 0, .string ⟨#[]⟩, .slice none 0 0] 24)).alloc (.cells #[.int .i64 k, .int .i64 n, .string s, .slice ao l.length cap] 24)).heap[w.heap.size + 1 + 1]? = some (.cells #[.int .i64 k, .int .i64 n, .string s, .slice ao l.length cap] 24 (0, 0)) := by
    have := heap_alloc_new ((w.alloc (.cells #[.int .i64 k, .int .i64 n, .string s, .slice ao l.length cap] 24)).alloc (.cells #[.int .i64 0, .int .i64 0, .string ⟨#[]⟩, .slice none 0 0] 24)) (.cells #[.int .i64 k, .int .i64 n, .string s, .slice ao l.length cap] 24)
    simpa using this
  have ho : Only (fun _ => False) w (((w.alloc (.cells #[.int .i64 k, .int .i64 n, .string s, .slice ao l.length cap] 24)).alloc (.cells #[.int .i64 0, .int .i64 0, .string ⟨#[]⟩, .slice none 0 0] 24)).alloc (.cells #[.int .i64 k, .int .i64 n, .string s, .slice ao l.length cap] 24)) := ((Only.alloc _ _ _).same (Only.alloc _ _ _)).same (Only.alloc _ _ _)
  have hbx : BoxAt w.heap.size k n s ao l.length cap (((w.alloc (.cells #[.int .i64 k, .int .i64 n, .string s, .slice ao l.length cap] 24)).alloc (.cells #[.int .i64 0, .int .i64 0, .string ⟨#[]⟩, .slice none 0 0] 24)).alloc (.cells #[.int .i64 k, .int .i64 n, .string s, .slice ao l.length cap] 24)) := (BoxAt.new w k n s ao l.length cap).later ((Only.alloc _ _ _).same (Only.alloc _ _ _))
  have hq : Quad (w.heap.size + 1) (.int .i64 0) (.int .i64 0) (.string ⟨#[]⟩) (.slice none 0 0) (((w.alloc (.cells #[.int .i64 k, .int .i64 n, .string s, .slice ao l.length cap] 24)).alloc (.cells #[.int .i64 0, .int .i64 0, .string ⟨#[]⟩, .slice none 0 0] 24)).alloc (.cells #[.int .i64 k, .int .i64 n, .string s, .slice ao l.length cap] 24)) := by
    have h1 := heap_alloc_new (w.alloc (.cells #[.int .i64 k, .int .i64 n, .string s, .slice ao l.length cap] 24)) (.cells #[.int .i64 0, .int .i64 0, .string ⟨#[]⟩, .slice none 0 0] 24)
    have h2 : Quad (w.heap.size + 1) (.int .i64 0) (.int .i64 0) (.string ⟨#[]⟩) (.slice none 0 0) ((w.alloc (.cells #[.int .i64 k, .int .i64 n, .string s, .slice ao l.length cap] 24)).alloc (.cells #[.int .i64 0, .int .i64 0, .string ⟨#[]⟩, .slice none 0 0] 24)) := by
      unfold Quad
      simpa using h1
    exact h2.only (Only.alloc (fun _ => False) _ _) (fun e => e)
  have hsz : w.heap.size + 3 = (((w.alloc (.cells #[.int .i64 k, .int .i64 n, .string s, .slice ao l.length cap] 24)).alloc (.cells #[.int .i64 0, .int .i64 0, .string ⟨#[]⟩, .slice none 0 0] 24)).alloc (.cells #[.int .i64 k, .int .i64 n, .string s, .slice ao l.length cap] 24)).heap.size := by simp
  refine (HM.out _ ho _ hb).mono ?_
  rintro e w1 ⟨rfl, ho1⟩
  have HO := Lib.hid (ho.same ho1)
  have HQ := Lib.hid (hq.only ho1 (fun e => e))
  have HSZ : Hid (w.heap.size + 3 ≤ w1.heap.size) := Lib.hid (by have := ho1.size; omega)
  obtain ⟨d0, d1, d2, d3⟩ := (hbx.later ho1).cells
  clear hb ho hbx ho1 hq hsz
  go_wp2_with fail
  refine (HI.out _ HO.out).mono ?_
  rintro e w2 ⟨ao', cap', rfl, hrow, hsane, ho2⟩
  have HROW := Lib.hid hrow
  have HSA := Lib.hid hsane
  have HO2 := Lib.hid (HO.out.same ho2)
  have hq2 := HQ.out.only ho2 (fun e => e)
  have HS2 := Lib.hid (hq2.set (.int .i64 r.1.k) (.int .i64 r.1.n) (.string r.1.s) (.slice ao' r.1.l.length cap'))
  obtain ⟨c0, c1, c2, c3⟩ := hq2.cells
  obtain ⟨f0, f1, f2, f3⟩ := hq2.free
  clear hrow hsane ho2 hq2 d0 d1 d2 d3
  go_wp2_with fail
  have hc := HS2.out.1.cells
  refine bodyPost_ret (v := .tuple #[tv r.1 ao' cap', .int .i64 (r.2.length : Nat)]) (results_term_tmp rfl _ _ (w.heap.size + 1) _ _ _ _ _ rfl rfl hc.1 hc.2.1 hc.2.2.1 hc.2.2.2) rfl ?_
  refine ⟨ao', cap', rfl, ?_, HSA.out, Only.cut HO2.out HS2.out.2 (fun k e => by omega)⟩
  refine (HROW.out.only HS2.out.2 (fun q hq => hq.2) (fun q hq e => ?_)).mono (fun q hq => ⟨?_, Nat.lt_of_lt_of_le hq.2 HS2.out.2.size⟩)
  · have := hq.1; have := HSZ.out; omega
  · have := hq.1; have := HSZ.out; omega
end
end Go.Proofs.Ytoogmlgaeipenaa.terms
