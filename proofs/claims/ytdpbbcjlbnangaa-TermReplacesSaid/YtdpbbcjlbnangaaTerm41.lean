/- Terms: List. -/
import Derived.Deep.AppendLies
import Derived.Test.YtdpbbcjlbnangaaTerm40
namespace Go.Proofs.Ytdpbbcjlbnangaa.terms
open Go.RowKit Go.Proofs.Ytdpbbcjlbnangaa.own Go.Maps Go.Shelf
attribute [local go_sem] Oper.semAt_some
theorem flat_snoc (its : List It) (x : It) : its.flatMap encIt ++ encIt x = (its ++ [x]).flatMap encIt := by simp
theorem Row.kept {P : Nat → Prop} {W W' : World} {row : Option Nat} {ao : Option Addr} {l : List T} (h : Row P W ao l) (hg : W.grownBy W' row) (hr : ∀ r, row = some r → ∃ o : Obj, W.heap[r]? = some o ∧ o.isCells = false) : Row P W' ao l := by
  induction h with
  | mk ao l ro rc cells subs ih =>
    refine .mk ao l ro rc (fun i x hx => ?_) ih
    obtain ⟨b, off, h1, h2, h3, h4, h5, h6, h7⟩ := cells i x hx
    exact ⟨b, off, h1, h2, cell_kept h3 hg hr, cell_kept h4 hg hr, cell_kept h5 hg hr, cell_kept h6 hg hr, h7.1, (frozen_kept h3 hg hr).trans h7.2⟩
/-- The items of a list that lies, the last one first. -/
theorem els_of {P : Nat → Prop} {w0 : World} {b off : Nat} {S : Nat → Prop} {items : List T} {t : T} (h : Row P w0 (some ⟨b, off, none⟩) (items ++ [t])) (hb : b < w0.heap.size) (hS : ¬ S b) : ∃ zs : List (El P w0), zs.map (·.t) = items.reverse ∧ Els S b off items.length zs w0 := by
  cases h with
  | mk ao l ro rc cells subs =>
    have hsub : ∀ i x, items[i]? = some x → Row P w0 (ro i) x.l ∧ x.Sane := fun i x hx => by
      have h1 : (items ++ [t])[i]? = some x := by rw [List.getElem?_append_left (List.getElem?_eq_some_iff.1 hx).1]; exact hx
      obtain ⟨_, _, _, _, _, _, _, _, hs⟩ := cells i x h1
      exact ⟨subs i x h1, hs.1⟩
    obtain ⟨f, hf⟩ : ∃ f : (i : Nat) → i < items.length → El P w0, ∀ i hi, f i hi = ⟨i, items[i], ro i, rc i, (hsub i items[i] (List.getElem?_eq_getElem hi)).1, (hsub i items[i] (List.getElem?_eq_getElem hi)).2⟩ := ⟨_, fun _ _ => rfl⟩
    refine ⟨List.ofFn (fun k : Fin items.length => f (items.length - 1 - k.1) (by omega)), ?_, hb, hS, by simp, ?_⟩
    · apply List.ext_getElem
      · simp
      · intro k h1 h2
        simp at h1 h2 ⊢
        rw [hf]
    · intro k x hx
      have hk : k < items.length := by have := (List.getElem?_eq_some_iff.1 hx).1; simpa using this
      have hx2 : x = f (items.length - 1 - k) (by omega) := by
        have := (List.getElem?_eq_some_iff.1 hx).2
        simpa using this.symm
      rw [hf] at hx2
      have h1 : (items ++ [t])[items.length - 1 - k]? = some items[items.length - 1 - k] := by
        rw [List.getElem?_append_left (by omega), List.getElem?_eq_getElem]
      obtain ⟨b', off', e, _, c0, c1, c2, c3, _⟩ := cells _ _ h1
      cases e
      subst hx2
      exact ⟨rfl, c0, c1, c2, c3⟩
theorem Quad.kept {b : Nat} {x0 x1 x2 x3 : Value} {W W' : World} {row : Option Nat} (h : Quad b x0 x1 x2 x3 W) (hg : W.grownBy W' row) (hr : ∀ r, row = some r → ∃ o : Obj, W.heap[r]? = some o ∧ o.isCells = false) : Quad b x0 x1 x2 x3 W' := by
  have hb := lt_of_block h
  unfold Quad at *
  rw [hg.block b hb (fun e => by
    obtain ⟨o, ho, hc⟩ := hr b e.symm
    rw [h] at ho
    cases ho
    cases hc)]
  exact h
/-- A list that is built from behind: cur is the list so far. -/
structure BackI (w w9 : World) (B6 : Nat) (cur : T) (W : World) : Prop where
  box : ∃ uo uc, Quad B6 (.int .i64 cur.k) (.int .i64 cur.n) (.string cur.s) (.slice uo cur.l.length uc) W ∧ Row (fun q => w.heap.size + 2 ≤ q ∧ q < W.heap.size ∧ q ≠ B6) W uo cur.l
  sane : cur.Sane
  own : Only (fun k => k = B6) w9 W
theorem BackI.kept {w w9 : World} {B6 : Nat} {cur : T} {W W' : World} (h : BackI w w9 B6 cur W) {row : Option Nat} (hg : W.grownBy W' row) (hr : ∀ r, row = some r → w9.heap.size ≤ r ∧ ∃ o : Obj, W.heap[r]? = some o ∧ o.isCells = false) : BackI w w9 B6 cur W' := by
  obtain ⟨uo, uc, hq, hrow⟩ := h.box
  refine ⟨⟨uo, uc, hq.kept hg (fun r e => (hr r e).2), (hrow.kept hg (fun r e => (hr r e).2)).mono (fun q hq => ⟨hq.1, Nat.lt_of_lt_of_le hq.2.1 hg.size, hq.2.2⟩)⟩, h.sane, h.own.trans (Only.grown hg) (fun k hk e => ?_)⟩
  have := (hr k (show row = some k from e.symm)).1
  omega
theorem BackI.only {w w9 : World} {B6 : Nat} {cur : T} {W W' : World} (h : BackI w w9 B6 cur W) (ho : Only (fun _ => False) W W') : BackI w w9 B6 cur W' := by
  obtain ⟨uo, uc, hq, hrow⟩ := h.box
  exact ⟨⟨uo, uc, hq.only ho (fun e => e), (hrow.only ho (fun q hq => hq.2.1) (fun _ _ e => e)).mono (fun q hq => ⟨hq.1, Nat.lt_of_lt_of_le hq.2.1 ho.size, hq.2.2⟩)⟩, h.sane, h.own.same (ho.no _)⟩
abbrev Cur (w w9 : World) (B6 : Nat) (q : Nat) : Prop := w.heap.size + 2 ≤ q ∧ q < w9.heap.size ∧ q ≠ B6
theorem BackI.step {w w9 : World} {B6 : Nat} {cur : T} {W : World} (h : BackI w w9 B6 cur W) {uo : Option Addr} {uc : Nat} (hq : Quad B6 (.int .i64 cur.k) (.int .i64 cur.n) (.string cur.s) (.slice uo cur.l.length uc) W) (hrow : Row (fun q => w.heap.size + 2 ≤ q ∧ q < W.heap.size ∧ q ≠ B6) W uo cur.l) (x : El (Cur w w9 B6) w9) (h9 : w.heap.size + 2 ≤ B6 ∧ B6 < w9.heap.size) :
    BackI w w9 B6 (.mk 4 0 dot [x.t, cur]) (quadW (W.alloc (.cells #[.int .i64 x.t.k, .int .i64 x.t.n, .string x.t.s, .slice x.ao x.t.l.length x.cap, .int .i64 cur.k, .int .i64 cur.n, .string cur.s, .slice uo cur.l.length uc] 24)) B6 (.int .i64 4) (.int .i64 0) (.string dot) (.slice (some ⟨W.heap.size, 0, none⟩) 2 2)) ∧ Only (fun k => k = B6) W (quadW (W.alloc (.cells #[.int .i64 x.t.k, .int .i64 x.t.n, .string x.t.s, .slice x.ao x.t.l.length x.cap, .int .i64 cur.k, .int .i64 cur.n, .string cur.s, .slice uo cur.l.length uc] 24)) B6 (.int .i64 4) (.int .i64 0) (.string dot) (.slice (some ⟨W.heap.size, 0, none⟩) 2 2)) := by
  have o1 : Only (fun _ => False) W (W.alloc (.cells #[.int .i64 x.t.k, .int .i64 x.t.n, .string x.t.s, .slice x.ao x.t.l.length x.cap, .int .i64 cur.k, .int .i64 cur.n, .string cur.s, .slice uo cur.l.length uc] 24)) := Only.alloc _ _ _
  have hb := heap_alloc_new W (.cells #[.int .i64 x.t.k, .int .i64 x.t.n, .string x.t.s, .slice x.ao x.t.l.length x.cap, .int .i64 cur.k, .int .i64 cur.n, .string cur.s, .slice uo cur.l.length uc] 24)
  have hsz : (W.alloc (.cells #[.int .i64 x.t.k, .int .i64 x.t.n, .string x.t.s, .slice x.ao x.t.l.length x.cap, .int .i64 cur.k, .int .i64 cur.n, .string cur.s, .slice uo cur.l.length uc] 24)).heap.size = W.heap.size + 1 := by simp
  generalize W.alloc (.cells #[.int .i64 x.t.k, .int .i64 x.t.n, .string x.t.s, .slice x.ao x.t.l.length x.cap, .int .i64 cur.k, .int .i64 cur.n, .string cur.s, .slice uo cur.l.length uc] 24) = W1 at *
  have hset := (hq.only o1 (fun e => e)).set (.int .i64 4) (.int .i64 0) (.string dot) (.slice (some ⟨W.heap.size, 0, none⟩) 2 2)
  have o2 := hset.2
  have hws := h.own.size
  have s2 := o2.size
  have hx : Row (fun q => w.heap.size + 2 ≤ q ∧ q < W.heap.size ∧ q ≠ B6) W1 x.ao x.t.l := ((x.row.only h.own (fun q hq => hq.2.1) (fun q hq e => hq.2.2 e)).mono (fun q hq => (⟨hq.1, by have := hq.2.1; omega, hq.2.2⟩ : w.heap.size + 2 ≤ q ∧ q < W.heap.size ∧ q ≠ B6))).only o1 (fun q hq => hq.2.1) (fun _ _ e => e)
  have hc := hrow.only o1 (fun q hq => hq.2.1) (fun _ _ e => e)
  have hp := Row.pair hx x.sane hc h.sane hb
  refine ⟨⟨⟨some ⟨W.heap.size, 0, none⟩, 2, hset.1, ?_⟩, sane_two _ _, (h.own.same (o1.no _)).trans o2 (fun _ _ e => e)⟩, (o1.no _).trans o2 (fun _ _ e => e)⟩
  refine (hp.only o2 (fun q hq => ?_) (fun q hq => ?_)).mono (fun q hq => ?_)
  · rcases hq with hq | hq <;> omega
  · rcases hq with hq | hq <;> omega
  · rcases hq with hq | hq
    · exact ⟨hq.1, by omega, hq.2.2⟩
    · exact ⟨by omega, by omega, by omega⟩
theorem listF_rev (items : List T) (t : T) (k : Nat) {x : T} (h : items.reverse[k]? = some x) : listF ((items.reverse.take (k + 1)).reverse) t = .mk 4 0 dot [x, listF ((items.reverse.take k).reverse) t] := by
  rw [take_snoc h, List.reverse_append]
  rfl
/-- The list so far, once these have come from behind. -/
def backCur {P : Nat → Prop} {w0 : World} (t : T) (pre : List (El P w0)) : T := listF ((pre.map (fun x => x.t)).reverse) t
theorem backCur_snoc {P : Nat → Prop} {w0 : World} (t : T) (pre : List (El P w0)) (x : El P w0) : backCur t (pre ++ [x]) = .mk 4 0 dot [x.t, backCur t pre] := by simp [backCur, listF]
end Go.Proofs.Ytdpbbcjlbnangaa.terms
