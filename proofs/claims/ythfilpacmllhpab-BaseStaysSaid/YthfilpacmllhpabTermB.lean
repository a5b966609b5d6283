

/- Terms: what a function tells in the places of variables, and what follows: 7 texts in one. -/
import Derived.Test.YthfilpacmllhpabTermA
import Derived.Laws.Pointers
import Derived.Maps.OwnSet
import Derived.KernelRfl
import Derived.WalkSpells
import Derived.RegionTactic
import Derived.ChangeAlike
import Derived.Laws.ResultCell
/- Terms: what a function tells in the places of variables. -/
namespace Go.Proofs.Ythfilpacmllhpab.terms
set_option maxRecDepth 100000
section
open Go.RowKit Go.Proofs.Ythfilpacmllhpab.own
/-- The answer lies in a cell of its own. -/
theorem results_term {fn : Func} {p : Tmp} (h : fn.results = #[.cell p 31]) (tmps : Array Value) (w : World) (b : Nat) (x0 x1 x2 x3 : Value) (ha : tmps.getD p undef = .pointer (some ⟨b, 0, none⟩)) (h0 : w.cell? ⟨b, 0, none⟩ = some x0) (h1 : w.cell? ⟨b, 1, none⟩ = some x1) (h2 : w.cell? ⟨b, 2, none⟩ = some x2) (h3 : w.cell? ⟨b, 3, none⟩ = some x3) :
    (results fn tmps).run Try.prog w = .ok (.agg #[x0, x1, x2, x3]) w := by
  have ha' : tmps[p]?.getD undef = .pointer (some ⟨b, 0, none⟩) := by simpa using ha
  simp only [results, h]
  go_simp
/-- A cell that holds a term's fields. -/
def Quad (b : Nat) (x0 x1 x2 x3 : Value) (w : World) : Prop := w.heap[b]? = some (.cells #[x0, x1, x2, x3] 31 (0, 0))
theorem Quad.cells {b : Nat} {x0 x1 x2 x3 : Value} {w : World} (h : Quad b x0 x1 x2 x3 w) : w.cell? ⟨b, 0, none⟩ = some x0 ∧ w.cell? ⟨b, 1, none⟩ = some x1 ∧ w.cell? ⟨b, 2, none⟩ = some x2 ∧ w.cell? ⟨b, 3, none⟩ = some x3 := by
  refine ⟨?_, ?_, ?_, ?_⟩ <;> (rw [cell_of_blk h]; rfl)
theorem Quad.free {b : Nat} {x0 x1 x2 x3 : Value} {w : World} (h : Quad b x0 x1 x2 x3 w) : w.frozen? ⟨b, 0, none⟩ = false ∧ w.frozen? ⟨b, 1, none⟩ = false ∧ w.frozen? ⟨b, 2, none⟩ = false ∧ w.frozen? ⟨b, 3, none⟩ = false :=
  ⟨free_of_blk h 0, free_of_blk h 1, free_of_blk h 2, free_of_blk h 3⟩
theorem Quad.lt {b : Nat} {x0 x1 x2 x3 : Value} {w : World} (h : Quad b x0 x1 x2 x3 w) : b < w.heap.size := lt_of_block h
theorem Quad.only {b : Nat} {x0 x1 x2 x3 : Value} {w w' : World} {S : Nat → Prop} (h : Quad b x0 x1 x2 x3 w) (ho : Only S w w') (hS : ¬ S b) : Quad b x0 x1 x2 x3 w' := by
  unfold Quad at *
  rw [ho.block b (lt_of_block h) hS]
  exact h
/-- The four cells are stored. -/
abbrev quadW (w : World) (b : Nat) (y0 y1 y2 y3 : Value) : World := (((w.setCell ⟨b, 0, none⟩ y0).setCell ⟨b, 1, none⟩ y1).setCell ⟨b, 2, none⟩ y2).setCell ⟨b, 3, none⟩ y3
theorem Quad.set {b : Nat} {x0 x1 x2 x3 : Value} {w : World} (h : Quad b x0 x1 x2 x3 w) (y0 y1 y2 y3 : Value) : Quad b y0 y1 y2 y3 (quadW w b y0 y1 y2 y3) ∧ Only (· = b) w (quadW w b y0 y1 y2 y3) := by
  refine ⟨?_, ?_⟩
  · have h1 := blk_set h 0 y0
    have h2 := blk_set h1 1 y1
    have h3 := blk_set h2 2 y2
    have h4 := blk_set h3 3 y3
    unfold Quad
    simpa using h4
  · have c : ∀ (w : World) (j : Nat) (y : Value), Only (· = b) w (w.setCell ⟨b, j, none⟩ y) := fun w j y => Only.setCell (S := (· = b)) w (p := ⟨b, j, none⟩) rfl y
    exact (((c _ _ _).same (c _ _ _)).same (c _ _ _)).same (c _ _ _)
section
variable {σ : Type}
mutual
def exF (out : σ → Int → T) (nxt : σ → Int → σ) : T → σ → T × σ | .mk k n s l, st => if k = 1 then (out st n, nxt st n) else (.mk k n s (exL out nxt l st).1, (exL out nxt l st).2)
def exL (out : σ → Int → T) (nxt : σ → Int → σ) : List T → σ → List T × σ | [], st => ([], st) | x :: r, st => ((exF out nxt x st).1 :: (exL out nxt r (exF out nxt x st).2).1, (exL out nxt r (exF out nxt x st).2).2)
end
mutual
def T.allv (p : Int → Prop) : T → Prop | .mk k n _ l => (k = 1 → p n) ∧ allvs p l
def allvs (p : Int → Prop) : List T → Prop | [] => True | x :: r => x.allv p ∧ allvs p r
end
theorem allvs_mem {p : Int → Prop} {l : List T} (h : allvs p l) {x : T} (hx : x ∈ l) : x.allv p := by
  induction l with
  | nil => cases hx
  | cons y r ih =>
    rcases List.mem_cons.1 hx with rfl | hx
    · exact h.1
    · exact ih h.2 hx
variable {out : σ → Int → T} {nxt : σ → Int → σ}
theorem exL_append (a b : List T) (st : σ) : exL out nxt (a ++ b) st = ((exL out nxt a st).1 ++ (exL out nxt b (exL out nxt a st).2).1, (exL out nxt b (exL out nxt a st).2).2) := by
  induction a generalizing st with
  | nil => simp [exL]
  | cons x r ih => simp only [List.cons_append, exL, ih]
theorem exL_step {l : List T} {i : Nat} {x : T} (h : l[i]? = some x) (st : σ) : exL out nxt (l.take (i + 1)) st = ((exL out nxt (l.take i) st).1 ++ [(exF out nxt x (exL out nxt (l.take i) st).2).1], (exF out nxt x (exL out nxt (l.take i) st).2).2) := by
  rw [take_snoc h, exL_append]
  simp [exL]
theorem exL_length (l : List T) (st : σ) : (exL out nxt l st).1.length = l.length := by
  induction l generalizing st with
  | nil => simp [exL]
  | cons x r ih => simp only [exL, List.length_cons, ih]
/-- Blocks that were made since, which the function does not keep. -/
def New (w w' : World) (S' : Nat → Prop) (k : Nat) : Prop := w.heap.size ≤ k ∧ k < w'.heap.size ∧ ¬ S' k
/-- What a step leaves that answers a term. -/
def ExPost (I : σ → (Nat → Prop) → World → Prop) (w : World) (S : Nat → Prop) (t' : T) (st' : σ) (e : Ending) (w' : World) : Prop := ∃ ao cap S', e = .returned (tv t' ao cap) ∧ Row (New w w' S') w' ao t'.l ∧ t'.Sane ∧ I st' S' w' ∧ Only S w w' ∧ ∀ k, S' k → Grew S w w' k
/-- What a function of a variable's number answers, and what it keeps. -/
structure Place (B : Nat) (K : Nat) (caps : Array Value) (good : Int → Prop) (I : σ → (Nat → Prop) → World → Prop) (out : σ → Int → T) (nxt : σ → Int → σ) : Prop where
  ent : ∀ args w, (callFunc K args).run Try.prog w = .ok (.enter K args) w
  call : ∀ st S n w, I st S w → good n → Calls Try.prog K (#[.int .i64 n] ++ caps) w (ExPost I w S (out st n) (nxt st n))
  stays : ∀ st S S'' w w', I st S w → Only S'' w w' → (∀ k, S k → ¬ S'' k) → (∀ k, S'' k → B ≤ k) → I st S w'
  lt : ∀ st S w, I st S w → ∀ k, S k → k < w.heap.size
/-- The loop of exchange under way: the first j arguments were exchanged. -/
structure ExI (I : σ → (Nat → Prop) → World → Prop) (out : σ → Int → T) (nxt : σ → Int → σ) (w : World) (S S' : Nat → Prop) (bx rb g : Nat) (k n : Int) (s : ByteArray) (ao : Option Addr) (cap : Nat) (l : List T) (st : σ) (xs : List It) (j : Nat) (wr : World) : Prop where
  inv : I (exL out nxt (l.take j) st).2 S' wr
  own : Only S w wr
  grew : ∀ k, S' k → Grew S w wr k
  away : ¬ S' bx ∧ ¬ S' rb ∧ ¬ S' g
  box : BoxAt bx k n s ao l.length cap wr
  quad : Quad rb (.int .i64 0) (.int .i64 0) (.string ⟨#[]⟩) (.slice none 0 0) wr
  row : ItsP w.heap.size (some ⟨g, 0, none⟩) l.length xs wr
  len : xs.length = l.length
  done : ∀ (i : Nat) (x : It), i < j → xs[i]? = some x → (exL out nxt (l.take j) st).1[i]? = some x.t ∧ x.t.Sane ∧ Row (fun q => New w wr S' q ∧ q ≠ g ∧ q ≠ bx ∧ q ≠ rb) wr x.ao x.t.l
variable {B K : Nat} {caps : Array Value} {good : Int → Prop} {I : σ → (Nat → Prop) → World → Prop}
/-- The next one was exchanged, and stored. -/
theorem ExI.step (hP : Place B K caps good I out nxt) {w wr w1 w2 : World} {S S' S'' : Nat → Prop} {bx rb g : Nat} (hBg : B ≤ g) {k n : Int} {s : ByteArray} {ao : Option Addr} {cap : Nat} {l : List T} {st : σ} {xs : List It} {j : Nat} (hd : bx ≠ g ∧ rb ≠ g) (h : ExI I out nxt w S S' bx rb g k n s ao cap l st xs j wr) {x : T} (hx : l[j]? = some x)
    (h1 : Only (fun _ => False) wr w1) (y : It) (hy : y.t = (exF out nxt x (exL out nxt (l.take j) st).2).1) (hrow : Row (New w1 w2 S'') w2 y.ao y.t.l) (hsane : y.t.Sane) (hI2 : I (exF out nxt x (exL out nxt (l.take j) st).2).2 S'' w2) (ho2 : Only S' w1 w2) (hS2 : ∀ k, S'' k → Grew S' w1 w2 k) :
    ExI I out nxt w S S'' bx rb g k n s ao cap l st (xs.set j y) (j + 1) (storedT w2 g j y) := by
  have hjl := (List.getElem?_eq_some_iff.1 hx).1
  have hst := exL_step (out := out) (nxt := nxt) hx st
  have hb := h.box.only h1 (fun e => e)
  have hq := h.quad.only h1 (fun e => e)
  have hr1 := h.row.only h1 (fun _ _ e => e)
  have hr2 := hr1.only ho2 (fun g' hg' e => by cases hg'; exact h.away.2.2 e)
  obtain ⟨hr3, o3⟩ := item_stored hr2 (by rw [h.len]; exact hjl) y
  have s1 := h1.size
  have s2 := ho2.size
  have s3 : w2.heap.size ≤ (storedT w2 g j y).heap.size := o3.size
  have hbl := lt_of_block hb
  have hql := lt_of_block hq
  have hgl : g < w1.heap.size := (hr1.head _ rfl).2.2
  have hgB : w.heap.size ≤ g := (hr1.head _ rfl).2.1
  have s0 := h.own.size
  have hbl0 := lt_of_block h.box
  have hql0 := lt_of_block h.quad
  have hgl0 : g < wr.heap.size := (h.row.head _ rfl).2.2
  have away : ∀ q, ¬ S' q → q < wr.heap.size → ¬ S'' q := fun q hq hlt e => by
    rcases hS2 q e with e | e
    · exact hq e
    · omega
  refine ⟨?_, ?_, ?_, ⟨away _ h.away.1 hbl0, away _ h.away.2.1 hql0, away _ h.away.2.2 hgl0⟩, (hb.only ho2 h.away.1).only o3 (fun e => hd.1 e), (hq.only ho2 h.away.2.1).only o3 (fun e => hd.2 e), hr3, by rw [List.length_set]; exact h.len, ?_⟩
  · rw [hst]
    exact hP.stays _ _ _ _ _ hI2 o3 (fun q hq e => by subst e; exact away _ h.away.2.2 hgl0 hq) (fun q e => by subst e; exact hBg)
  · refine ((h.own.same (h1.no S)).trans ho2 (fun q hq e => ?_)).trans o3 (fun q hq e => by omega)
    rcases h.grew q e with e | e
    · exact e
    · omega
  · intro q hq
    rcases hS2 q hq with e | e
    · rcases h.grew q e with e | e
      · exact .inl e
      · exact .inr ⟨e.1, by omega⟩
    · exact .inr ⟨by omega, by omega⟩
  · intro i z hi hz
    rw [List.getElem?_set] at hz
    rw [hst]
    have hel : (exL out nxt (l.take j) st).1.length = j := by rw [exL_length, List.length_take]; omega
    split at hz
    · rename_i e
      subst e
      rw [if_pos (by rw [h.len]; exact hjl)] at hz
      cases hz
      refine ⟨?_, hsane, ?_⟩
      · rw [List.getElem?_append_right (by omega), hel, Nat.sub_self, hy]
        rfl
      · refine (hrow.only o3 (fun q hq => hq.2.1) (fun q hq e => by have := hq.1; omega)).mono (fun q hq => ⟨⟨?_, ?_, hq.2.2⟩, ?_, ?_, ?_⟩)
        · have := hq.1; omega
        · have := hq.2.1; omega
        · have := hq.1; omega
        · have := hq.1; omega
        · have := hq.1; omega
    · rename_i hne
      obtain ⟨d1, d2, d3⟩ := h.done i z (by omega) hz
      refine ⟨?_, d2, ?_⟩
      · rw [List.getElem?_append_left (by omega)]
        exact d1
      · have r1 := d3.only h1 (fun q hq => hq.1.2.1) (fun _ _ e => e)
        have r2 := r1.only ho2 (fun q hq => by have := hq.1.2.1; omega) (fun q hq e => hq.1.2.2 e)
        refine (r2.only o3 (fun q hq => by have := hq.1.2.1; omega) (fun q hq e => hq.2.1 e)).mono (fun q hq => ⟨⟨hq.1.1, ?_, ?_⟩, hq.2⟩)
        · have := hq.1.2.1; omega
        · exact away q hq.1.2.2 hq.1.2.1
/-- All were exchanged: the answer. -/
theorem ExI.done_ (hP : Place B K caps good I out nxt) {w wr w3 : World} {S S' : Nat → Prop} {bx rb g : Nat} {k n : Int} {s : ByteArray} {ao : Option Addr} {cap : Nat} {l : List T} {st : σ} {xs : List It} (hd : bx ≠ g ∧ rb ≠ g) (hnew : w.heap.size ≤ bx ∧ w.heap.size ≤ rb) (hBw : B ≤ w.heap.size) (h : ExI I out nxt w S S' bx rb g k n s ao cap l st xs l.length wr) (hs : (T.mk k n s l).Sane)
    (ho : Only (fun q => q = bx ∨ q = rb) wr w3) : ExPost I w S (.mk k n s (exL out nxt l st).1) (exL out nxt l st).2 (.returned (tv (.mk k n s (exL out nxt l st).1) (some ⟨g, 0, none⟩) l.length)) w3 := by
  have e : exL out nxt (l.take l.length) st = exL out nxt l st := by rw [List.take_length]
  have hxt : xs.map (·.t) = (exL out nxt l st).1 := by
    apply List.ext_getElem?
    intro i
    by_cases hi : i < l.length
    · obtain ⟨x, hx⟩ : ∃ x, xs[i]? = some x := ⟨_, List.getElem?_eq_getElem (by rw [h.len]; exact hi)⟩
      rw [List.getElem?_map, hx, ← e, (h.done i x hi hx).1]
      rfl
    · rw [List.getElem?_eq_none (by rw [List.length_map, h.len]; omega), List.getElem?_eq_none (by rw [exL_length]; omega)]
  have hso := ho.size
  have hgo : ¬ (g = bx ∨ g = rb) := fun e => by rcases e with e | e; exact hd.1 e.symm; exact hd.2 e.symm
  have hrow3 := h.row.only ho (fun g' hg' e => by cases hg'; exact hgo e)
  have hg3 := hrow3.head _ rfl
  refine ⟨some ⟨g, 0, none⟩, l.length, S', rfl, ?_, ?_, ?_, ?_, ?_⟩
  · show Row _ w3 _ (exL out nxt l st).1
    rw [← hxt]
    refine ItsP.row (P := New w w3 S') hrow3 ⟨hg3.2.1, hg3.2.2, h.away.2.2⟩ (fun i x hx => ?_)
    obtain ⟨_, d2, d3⟩ := h.done i x (by have := (List.getElem?_eq_some_iff.1 hx).1; rw [h.len] at this; exact this) hx
    refine ⟨d2, (d3.only ho (fun q hq => hq.1.2.1) (fun q hq e => ?_)).mono (fun q hq => ⟨hq.1.1, by have := hq.1.2.1; omega, hq.1.2.2⟩)⟩
    rcases e with e | e
    · exact hq.2.2.1 e
    · exact hq.2.2.2 e
  · exact ⟨hs.k, hs.n, hs.s, by show (exL out nxt l st).1.length ≤ maxLen; rw [exL_length]; exact hs.l⟩
  · rw [← e]
    exact hP.stays _ _ _ _ _ h.inv ho (fun q hq e => by rcases e with e | e; subst e; exact h.away.1 hq; subst e; exact h.away.2.1 hq) (fun q e => by rcases e with e | e <;> omega)
  · exact h.own.trans ho (fun q hq e => by rcases e with e | e <;> omega)
  · intro q hq
    rcases h.grew q hq with e | e
    · exact .inl e
    · exact .inr ⟨e.1, by omega⟩
end
end
end Go.Proofs.Ythfilpacmllhpab.terms
/- Terms: variables, integers, atoms; a copy. -/
namespace Go.Proofs.Ythfilpacmllhpab.terms
set_option maxRecDepth 100000
section
open Go.RowKit Go.Proofs.Ythfilpacmllhpab.own
set_option maxRecDepth 100000 in
theorem rvar_any (n : Int) (w : World) : Calls Try.prog 27 #[.int .i64 n] w fun e w' => e = .returned (tv (T.mk 1 n ⟨#[]⟩ []) none 0) ∧ Only (fun _ => False) w w' := by
  go_enter Try.func27, Try.ntmps27
  go_wp2_with fail
  refine bodyPost_ret (v := tv (T.mk 1 n ⟨#[]⟩ []) none 0) (results_term rfl _ (w.alloc (.cells #[.int .i64 1, .int .i64 n, .string ⟨#[]⟩, .slice none 0 0] 31)) w.heap.size _ _ _ _ rfl (by simp [T.k]) (by simp [T.n]) (by simp [T.s]) (by simp [T.l])) rfl ?_
  exact ⟨rfl, Only.alloc _ _ _⟩
set_option maxRecDepth 100000 in
theorem rint_any (n : Int) (w : World) : Calls Try.prog 55 #[.int .i64 n] w fun e w' => e = .returned (tv (T.mk 2 n ⟨#[]⟩ []) none 0) ∧ Only (fun _ => False) w w' := by
  go_enter Try.func55, Try.ntmps55
  go_wp2_with fail
  refine bodyPost_ret (v := tv (T.mk 2 n ⟨#[]⟩ []) none 0) (results_term rfl _ (w.alloc (.cells #[.int .i64 2, .int .i64 n, .string ⟨#[]⟩, .slice none 0 0] 31)) w.heap.size _ _ _ _ rfl (by simp [T.k]) (by simp [T.n]) (by simp [T.s]) (by simp [T.l])) rfl ?_
  exact ⟨rfl, Only.alloc _ _ _⟩
set_option maxRecDepth 100000 in
theorem atom_any (s : ByteArray) (w : World) : Calls Try.prog 85 #[.string s] w fun e w' => e = .returned (tv (T.mk 3 0 s []) none 0) ∧ Only (fun _ => False) w w' := by
  go_enter Try.func85, Try.ntmps85
  go_wp2_with fail
  refine bodyPost_ret (v := tv (T.mk 3 0 s []) none 0) (results_term rfl _ (w.alloc (.cells #[.int .i64 3, .int .i64 0, .string s, .slice none 0 0] 31)) w.heap.size _ _ _ _ rfl (by simp [T.k]) (by simp [T.n]) (by simp [T.s]) (by simp [T.l])) rfl ?_
  exact ⟨rfl, Only.alloc _ _ _⟩
set_option maxRecDepth 100000 in
theorem ratom_any (s : ByteArray) (w : World) : Calls Try.prog 52 #[.string s] w fun e w' => e = .returned (tv (T.mk 3 0 s []) none 0) ∧ Only (fun _ => False) w w' := by
  go_enter Try.func52, Try.ntmps52
  go_wp2_with fail
  refine bodyPost_ret (v := tv (T.mk 3 0 s []) none 0) (results_term rfl _ (w.alloc (.cells #[.int .i64 3, .int .i64 0, .string s, .slice none 0 0] 31)) w.heap.size _ _ _ _ rfl (by simp [T.k]) (by simp [T.n]) (by simp [T.s]) (by simp [T.l])) rfl ?_
  exact ⟨rfl, Only.alloc _ _ _⟩
/-- A function that keeps nothing. -/
def NoneKept (_ : Unit) (S : Nat → Prop) (_ : World) : Prop := ∀ k, ¬ S k
theorem var_form {n : Int} {s : ByteArray} {l : List T} (h : (T.mk 1 n s l).right = true) : s = ⟨#[]⟩ ∧ l = [] ∧ 0 ≤ n ∧ n < 1073741824 := by
  rw [T.right_eq, Bool.and_eq_true] at h
  have h1 := h.1
  by_cases a : 0 ≤ n
  · by_cases b : n < 1073741824
    · by_cases c : s.toList = []
      · simp only [T.part, T.k, T.n, T.s, T.l, a, b, c, ↓reduceIte] at h1
        refine ⟨ba_ext (by rw [c, ByteArray.toList_eq]), ?_, a, b⟩
        have := beq_iff_eq.1 h1
        exact List.length_eq_zero_iff.1 (by omega)
      · simp [T.part, T.k, T.n, T.s, T.l, a, b, c] at h1
    · simp [T.part, T.k, T.n, T.s, T.l, a, b] at h1
  · simp [T.part, T.k, T.n, T.s, T.l, a] at h1
theorem exF_var (t : T) (ht : t.right = true) (st : Unit) : (exF (fun _ n => T.mk 1 n ⟨#[]⟩ []) (fun st _ => st) t st) = (t, ()) := by
  induction t using T.ind with
  | h k n s l ih =>
    unfold exF
    by_cases hk : k = 1
    · subst hk
      rw [if_pos rfl]
      obtain ⟨rfl, rfl, _, _⟩ := var_form ht
      rfl
    · rw [if_neg hk]
      have hr : rights l = true := by rw [T.right_eq, Bool.and_eq_true] at ht; exact ht.2
      have hl : ∀ st : Unit, exL (fun _ n => T.mk 1 n ⟨#[]⟩ []) (fun st _ => st) l st = (l, ()) := by
        clear ht hk k n s
        induction l with
        | nil => intro st; rfl
        | cons x r ihr =>
          intro st
          rw [rights_iff] at hr
          simp only [exL, ih x (by simp) (hr x (by simp)), ihr (fun y hy => ih y (by simp [hy])) (rights_iff.2 (fun y hy => hr y (by simp [hy])))]
      rw [hl]
theorem right_allv {p : Int → Prop} (hp : ∀ n : Int, 0 ≤ n → n < 1073741824 → p n) (t : T) (ht : t.right = true) : t.allv p := by
  induction t using T.ind with
  | h k n s l ih =>
    refine ⟨fun hk => ?_, ?_⟩
    · subst hk
      have := var_form ht
      exact hp n this.2.2.1 this.2.2.2
    · have hr : rights l = true := by rw [T.right_eq, Bool.and_eq_true] at ht; exact ht.2
      clear ht
      induction l with
      | nil => trivial
      | cons x r ihr =>
        rw [rights_iff] at hr
        exact ⟨ih x (by simp) (hr x (by simp)), ihr (fun y hy => ih y (by simp [hy])) (rights_iff.2 (fun y hy => hr y (by simp [hy])))⟩
end
end Go.Proofs.Ythfilpacmllhpab.terms
/- Terms that may be: Size, Depth, Clone. -/
namespace Go.Proofs.Ythfilpacmllhpab.terms
set_option maxRecDepth 100000
section
open Go.RowKit Go.Proofs.Ythfilpacmllhpab.own
end
end Go.Proofs.Ythfilpacmllhpab.terms
/- Terms: the numbers of variables in the order in which one came to them. -/
namespace Go.Proofs.Ythfilpacmllhpab.terms
set_option maxRecDepth 100000
section
open Go.RowKit Go.Proofs.Ythfilpacmllhpab.own Go.Maps
def encI (x : Int) : List Value := [.int .i64 x]
theorem liesI : Go.Proofs.Ythfilpacmllhpab.own.Lies encI 1 := ⟨fun _ => rfl, by intro x u hu; simp [encI] at hu; subst hu; rfl, by omega⟩
theorem infoI : (Try.prog.info? 3).map (fun i => (i.zero, i.size, i.bytes)) = some (some (.int .i64 0), 1, 8) := by kernel_rfl
theorem keyedI : Keyed Try.prog 3 := int_keyed Try.underlying3
/-- A number's place. -/
def pos (l : List Int) (n : Int) : Option Nat := l.findIdx? (fun m => m == n)
theorem pos_some {l : List Int} {n : Int} {i : Nat} (h : pos l n = some i) : l[i]? = some n := by
  unfold pos at h
  obtain ⟨hi, h1, _⟩ := List.findIdx?_eq_some_iff_getElem.1 h
  rw [List.getElem?_eq_getElem hi, beq_iff_eq.1 h1]
theorem pos_none {l : List Int} {n : Int} (h : pos l n = none) : n ∉ l := by
  unfold pos at h
  rw [List.findIdx?_eq_none_iff] at h
  intro hm
  have := h n hm
  simp at this
theorem pos_snoc (l : List Int) (n m : Int) : pos (l ++ [n]) m = match pos l m with | some i => some i | none => if n = m then some l.length else none := by
  unfold pos
  rw [List.findIdx?_append]
  cases h : l.findIdx? (fun k => k == m) with
  | some i => rfl
  | none =>
    by_cases e : n = m
    · simp [e]
    · simp [e]
abbrev DI := DataW Unit
/-- The map tells each number's place. -/
def SerD (D : DI) (l : List Int) : Prop := IsMap D ∧ ∀ n : Int, match pos l n with | some i => Maps.has D (.int .i64 n) = true ∧ ∀ z : DI, D.atKey (.int .i64 n) z = .lit (.int .i64 i) | none => Maps.has D (.int .i64 n) = false
theorem SerD.empty : SerD (.map []) [] := ⟨isMap_empty, fun n => rfl⟩
theorem SerD.put {D : DI} {l : List Int} {n : Int} (h : SerD D l) (hn : pos l n = none) : SerD (D.put (.int .i64 n) (.lit (.int .i64 l.length))) (l ++ [n]) := by
  refine ⟨h.1.put _ _, fun m => ?_⟩
  rw [pos_snoc]
  have hm := h.2 m
  by_cases e : m = n
  · subst e
    rw [hn, if_pos rfl]
    exact ⟨has_put_same h.1 (show WideAt.IsKeyLit (.int .i64 m) from trivial) _, fun z => atKey_put_same h.1 (show WideAt.IsKeyLit (.int .i64 m) from trivial) _ z⟩
  · have hne : (Lit.int .i64 m) ≠ .int .i64 n := fun e2 => e (by cases e2; rfl)
    cases hp : pos l m with
    | some i =>
      rw [hp] at hm
      exact ⟨(has_put_other hne _).trans hm.1, fun z => (atKey_put_other hne _ z).trans (hm.2 z)⟩
    | none =>
      rw [hp] at hm
      simp only [if_neg (fun e2 => e e2.symm : ¬ n = m)]
      exact (has_put_other hne _).trans hm
abbrev OrdP (ao : Option Addr) (cap : Nat) (l : List Int) (w : World) : Prop := RowOf encI 1 3 0 ao cap l w
theorem map_only {P : Program} {k : TypeId} {R : Value → Option (DI × List MemPlace)} {S : Nat → Prop} {w w' : World} {b n : Nat} {D : DI} (h : w.ownsMap P k R b n D) (ho : Only S w w') (hS : ¬ S b) : w'.ownsMap P k R b n D := by
  have hlt := h.lt
  obtain ⟨es, clock, hb, F, hs, hD⟩ := h
  exact ⟨es, clock, (ho.block b hlt hS).trans hb, F, hs, hD⟩
theorem zeroI (w : World) : (zeroValue 3).run Try.prog w = .ok (.int .i64 0) w := by kernel_rfl
theorem keyI {n : Int} (hn : Fits n) : keyOf Try.prog 3 (.int .i64 n) = some (.int .i64 n) := keyOf_int_mk Try.underlying3 (by
  have k1 : IntKind.i64.min = -9223372036854775808 := rfl
  have k2 : IntKind.i64.max = 9223372036854775807 := rfl
  simp [Lit.wf, k1, k2]; exact hn)
def numF (l : List Int) (n : Int) : Nat × List Int := match pos l n with | some i => (i, l) | none => (l.length, l ++ [n])
theorem Only.turned {w w' : World} {b : Nat} (h : w.mapTurned w' b) : Only (· = b) w w' := (Only.grown h.grown).mono (fun _ _ e => by simpa using e)
end
end Go.Proofs.Ythfilpacmllhpab.terms
/- Terms: variables renamed. -/
namespace Go.Proofs.Ythfilpacmllhpab.terms
set_option maxRecDepth 100000
section
open Go.RowKit Go.Proofs.Ythfilpacmllhpab.own Go.Maps
mutual
def T.occ : T → List Int | .mk k n _ l => (if k = 1 then [n] else []) ++ occs l
def occs : List T → List Int | [] => [] | x :: r => x.occ ++ occs r
end
theorem allv_mono {p q : Int → Prop} (h : ∀ n, p n → q n) (t : T) (ht : t.allv p) : t.allv q := by
  induction t using T.ind with
  | h k n s l ih =>
    refine ⟨fun e => h n (ht.1 e), ?_⟩
    have h2 := ht.2
    clear ht
    induction l with
    | nil => trivial
    | cons x r ihr => exact ⟨ih x (by simp) h2.1, ihr (fun y hy => ih y (by simp [hy])) h2.2⟩
theorem allvs_mono {p q : Int → Prop} (h : ∀ n, p n → q n) (l : List T) (ht : allvs p l) : allvs q l := by
  induction l with
  | nil => trivial
  | cons x r ihr => exact ⟨allv_mono h x ht.1, ihr ht.2⟩
theorem allv_and {p q : Int → Prop} (t : T) (hp : t.allv p) (hq : t.allv q) : t.allv (fun n => p n ∧ q n) := by
  induction t using T.ind with
  | h k n s l ih =>
    refine ⟨fun e => ⟨hp.1 e, hq.1 e⟩, ?_⟩
    have h1 := hp.2
    have h2 := hq.2
    clear hp hq
    induction l with
    | nil => trivial
    | cons x r ihr => exact ⟨ih x (by simp) h1.1 h2.1, ihr (fun y hy => ih y (by simp [hy])) h1.2 h2.2⟩
theorem allv_occ (t : T) : t.allv (fun n => n ∈ t.occ) := by
  induction t using T.ind with
  | h k n s l ih =>
    refine ⟨fun e => by simp [T.occ, e], ?_⟩
    have : allvs (fun n => n ∈ occs l) l := by
      clear k n s
      induction l with
      | nil => trivial
      | cons x r ihr =>
        refine ⟨allv_mono (fun m hm => ?_) x (ih x (by simp)), allvs_mono (fun m hm => ?_) r (ihr (fun y hy => ih y (by simp [hy])))⟩
        · simp [occs, hm]
        · simp [occs, hm]
    exact allvs_mono (fun m hm => by simp [T.occ, hm]) l this
theorem occ_le (t : T) : t.occ.length ≤ t.size := by
  induction t using T.ind with
  | h k n s l ih =>
    have : (occs l).length ≤ sizes l := by
      clear k n s
      induction l with
      | nil => simp [occs]
      | cons x r ihr =>
        have h1 := ih x (by simp)
        have h2 := ihr (fun y hy => ih y (by simp [hy]))
        simp only [occs, sizes, List.length_append]
        omega
    show ((if k = 1 then [n] else []) ++ occs l).length ≤ 1 + sizes l
    rw [List.length_append]
    split <;> simp <;> omega
theorem nodup_le {l : List Int} : ∀ {v : List Int}, l.Nodup → (∀ m ∈ l, m ∈ v) → l.length ≤ v.length := by
  induction l with
  | nil => intro v _ _; simp
  | cons x r ih =>
    intro v hn hs
    have hx := hs x (by simp)
    have h1 := List.nodup_cons.1 hn
    have := ih (v := v.erase x) h1.2 (fun m hm => by
      refine (List.mem_erase_of_ne (fun e => ?_)).2 (hs m (by simp [hm]))
      subst e
      exact h1.1 hm)
    have hl := List.length_erase_of_mem hx
    have hpos : 0 < v.length := List.length_pos_of_mem hx
    rw [List.length_cons]
    omega
/-- Different numbers, all of which are among those of v. -/
structure Kept (v l : List Int) : Prop where
  nodup : l.Nodup
  sub : ∀ m ∈ l, m ∈ v
theorem Kept.nil (v : List Int) : Kept v [] := ⟨List.nodup_nil, fun m hm => by cases hm⟩
theorem Kept.num {v l : List Int} {n : Int} (h : Kept v l) (hn : n ∈ v) : Kept v (numF l n).2 := by
  unfold numF
  cases hp : pos l n with
  | some i => exact h
  | none =>
    refine ⟨?_, fun m hm => ?_⟩
    · show (l ++ [n]).Nodup
      rw [List.nodup_append]
      refine ⟨h.nodup, by simp, fun a ha b hb e => ?_⟩
      rw [List.mem_singleton.1 hb] at e
      subst e
      exact pos_none hp ha
    · have hm' : m ∈ l ++ [n] := hm
      rcases List.mem_append.1 hm' with e | e
      · exact h.sub m e
      · rw [List.mem_singleton.1 e]; exact hn
def renOut (l : List Int) (n : Int) : T := T.mk 1 ((numF l n).1 : Nat) ⟨#[]⟩ []
def renNxt (l : List Int) (n : Int) : List Int := (numF l n).2
theorem numF_le (l : List Int) (n : Int) : (numF l n).1 ≤ l.length := by
  unfold numF
  cases hp : pos l n with
  | some i =>
    have := (List.getElem?_eq_some_iff.1 (pos_some hp)).1
    show i ≤ l.length
    omega
  | none => exact Nat.le_refl _
end
end Go.Proofs.Ythfilpacmllhpab.terms
/- Terms: rename. -/
namespace Go.Proofs.Ythfilpacmllhpab.terms
set_option maxRecDepth 100000
section
open Go.RowKit Go.Proofs.Ythfilpacmllhpab.own Go.Maps
theorem results_term_tmp {fn : Func} {p u : Tmp} (h : fn.results = #[.cell p 31, .tmp u]) (tmps : Array Value) (w : World) (b : Nat) (x0 x1 x2 x3 x4 : Value) (ha : tmps.getD p undef = .pointer (some ⟨b, 0, none⟩)) (hu : tmps.getD u undef = x4) (h0 : w.cell? ⟨b, 0, none⟩ = some x0) (h1 : w.cell? ⟨b, 1, none⟩ = some x1) (h2 : w.cell? ⟨b, 2, none⟩ = some x2) (h3 : w.cell? ⟨b, 3, none⟩ = some x3) :
    (results fn tmps).run Try.prog w = .ok (.tuple #[.agg #[x0, x1, x2, x3], x4]) w := by
  rw [results_cell_tmp h, ha, hu]
  go_simp
/-- Renamed: its variables numbered anew; and the old numbers, in order. -/
def renF (t : T) : T × List Int := exF renOut renNxt t []
end
end Go.Proofs.Ythfilpacmllhpab.terms
/- Terms that may be: Rename. -/
namespace Go.Proofs.Ythfilpacmllhpab.terms
set_option maxRecDepth 100000
section
open Go.RowKit Go.Proofs.Ythfilpacmllhpab.own Go.Maps
end
end Go.Proofs.Ythfilpacmllhpab.terms
