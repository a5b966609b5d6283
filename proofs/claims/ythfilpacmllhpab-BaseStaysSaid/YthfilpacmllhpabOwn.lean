

/- What a step may turn, rows of items of any width that the call owns, and objects by the blocks that are theirs. -/
import Derived.WalkKit
import Derived.WalkSmall
import Derived.OwnWalk
import Derived.Below
import Derived.OneCell
import Derived.Laws.OwnMore
import Derived.Maps.AppendAt
namespace Go.Proofs.Ythfilpacmllhpab.own
open Go.RowKit

/-- Of the blocks that were there, only those in S may have turned. -/
structure Only (S : Nat → Prop) (w w' : World) : Prop where
  os : w'.os = w.os
  tape : w'.tape = w.tape
  output : w'.output = w.output
  size : w.heap.size ≤ w'.heap.size
  block : ∀ k, k < w.heap.size → ¬ S k → w'.heap[k]? = w.heap[k]?

theorem Only.refl (S : Nat → Prop) (w : World) : Only S w w := ⟨rfl, rfl, rfl, Nat.le_refl _, fun _ _ _ => rfl⟩
theorem Only.mono {S S' : Nat → Prop} {w w' : World} (h : Only S w w') (hs : ∀ k, k < w.heap.size → S k → S' k) : Only S' w w' :=
  ⟨h.os, h.tape, h.output, h.size, fun k hk hn => h.block k hk (fun e => hn (hs k hk e))⟩
theorem Only.trans {S S' : Nat → Prop} {a b c : World} (h : Only S a b) (h' : Only S' b c) (hs : ∀ k, k < a.heap.size → S' k → S k) : Only S a c :=
  ⟨h'.os.trans h.os, h'.tape.trans h.tape, h'.output.trans h.output, Nat.le_trans h.size h'.size, fun k hk hn =>
    (h'.block k (Nat.lt_of_lt_of_le hk h.size) (fun e => hn (hs k hk e))).trans (h.block k hk hn)⟩
theorem Only.same {S : Nat → Prop} {a b c : World} (h : Only S a b) (h' : Only S b c) : Only S a c := h.trans h' (fun _ _ e => e)
theorem Only.drewN (S : Nat → Prop) (w : World) (n : Nat) : Only S w (w.drewN n) := ⟨rfl, rfl, rfl, Nat.le_refl _, fun _ _ _ => rfl⟩
theorem Only.drew (S : Nat → Prop) (w : World) : Only S w w.drew := ⟨rfl, rfl, rfl, Nat.le_refl _, fun _ _ _ => rfl⟩
theorem Only.alloc (S : Nat → Prop) (w : World) (o : Obj) : Only S w (w.alloc o) := ⟨rfl, rfl, rfl, by simp, fun k hk _ => Below.heap_alloc w o k hk⟩
theorem Only.setCell {S : Nat → Prop} (w : World) {p : Addr} (hp : S p.block) (u : Value) : Only S w (w.setCell p u) :=
  ⟨rfl, rfl, rfl, by simp [World.setCell], fun k _ hn => Below.heap_setCell _ _ _ _ (fun e => hn (by rw [e]; exact hp))⟩
theorem Only.grown {w w' : World} {row : Option Nat} (hg : w.grownBy w' row) : Only (fun k => some k = row) w w' :=
  ⟨hg.os, hg.tape, hg.output, hg.size, fun k hk hn => hg.block k hk hn⟩
theorem Only.grownBy {S : Nat → Prop} {w w' : World} (h : Only S w w') {row : Option Nat} (hs : ∀ k, k < w.heap.size → S k → some k = row) : w.grownBy w' row :=
  ⟨h.os, h.tape, h.output, h.size, fun k hk hn => h.block k hk (fun e => hn (hs k hk e))⟩
theorem Only.below {S : Nat → Prop} {B : Nat} {w w' : World} (h : Only S w w') (hB : B ≤ w.heap.size) (hs : ∀ k, k < w.heap.size → S k → B ≤ k) : Below B w w' :=
  ⟨h.os, h.tape, h.output, h.size, fun k hk => h.block k (by omega) (fun e => by have := hs k (by omega) e; omega)⟩
theorem Only.of_below {w w' : World} (h : Below w.heap.size w w') (S : Nat → Prop) : Only S w w' := ⟨h.os, h.tape, h.output, h.size, fun k hk _ => h.block k hk⟩
theorem Only.no {w w' : World} (h : Only (fun _ => False) w w') (S : Nat → Prop) : Only S w w' := h.mono (fun _ _ e => e.elim)
theorem Only.to_below {w w' : World} (h : Only (fun _ => False) w w') : Below w.heap.size w w' := h.below (Nat.le_refl _) (fun _ _ e => e.elim)

/-- The blocks S, and those that were made between w and w'. -/
def Grew (S : Nat → Prop) (w w' : World) (k : Nat) : Prop := S k ∨ (w.heap.size ≤ k ∧ k < w'.heap.size)
theorem Only.next {S : Nat → Prop} {a b c : World} (h : Only S a b) (h' : Only (Grew S a b) b c) : Only S a c :=
  h.trans h' (fun k hk e => by rcases e with e | e; exact e; omega)

theorem Only.cell {S : Nat → Prop} {w w' : World} (h : Only S w w') {p : Addr} (hp : p.block < w.heap.size) (hS : ¬ S p.block) : w'.cell? p = w.cell? p := by
  have hb : Below 0 w w := Below.refl _ _
  unfold World.cell?
  rw [h.block _ hp hS]
theorem Only.frozen {S : Nat → Prop} {w w' : World} (h : Only S w w') {p : Addr} (hp : p.block < w.heap.size) (hS : ¬ S p.block) : w'.frozen? p = w.frozen? p := by
  unfold World.frozen?
  rw [h.block _ hp hS]
theorem cell_of_blk {w : World} {b : Nat} {cs : Array Value} {t : TypeId} (h : w.heap[b]? = some (.cells cs t (0, 0))) (j : Nat) : w.cell? ⟨b, j, none⟩ = cs[j]? := by simp [World.cell?, h]
theorem free_of_blk {w : World} {b : Nat} {cs : Array Value} {t : TypeId} (h : w.heap[b]? = some (.cells cs t (0, 0))) (j : Nat) : w.frozen? ⟨b, j, none⟩ = false := by simp [World.frozen?, h]
theorem blk_set {w : World} {b : Nat} {cs : Array Value} {t : TypeId} (h : w.heap[b]? = some (.cells cs t (0, 0))) (j : Nat) (u : Value) : (w.setCell ⟨b, j, none⟩ u).heap[b]? = some (.cells (cs.setIfInBounds j u) t (0, 0)) := heap_setCell_same w b j cs t u h

/-! ### Rows of items of s cells each -/
section
variable {α : Type} {enc : α → List Value} {s : Nat}

/-- How an item lies: s cells. -/
structure Lies (enc : α → List Value) (s : Nat) : Prop where
  len : ∀ x, (enc x).length = s
  one : ∀ x u, u ∈ enc x → u.oneCell' = true
  pos : 0 < s

theorem flat_len (L : Lies enc s) (xs : List α) : (xs.flatMap enc).length = xs.length * s := by
  induction xs with
  | nil => simp
  | cons x r ih => rw [List.flatMap_cons, List.length_append, ih, L.len, List.length_cons, Nat.add_mul]; omega
theorem flat_get (L : Lies enc s) (xs : List α) (i j : Nat) (x : α) (hx : xs[i]? = some x) (hj : j < s) : (xs.flatMap enc)[i * s + j]? = (enc x)[j]? := by
  induction xs generalizing i with
  | nil => simp at hx
  | cons y r ih =>
    rw [List.flatMap_cons]
    cases i with
    | zero =>
      simp only [List.getElem?_cons_zero, Option.some.injEq] at hx
      subst hx
      rw [List.getElem?_append_left (by rw [L.len]; omega)]
      simp
    | succ i =>
      simp only [List.getElem?_cons_succ] at hx
      rw [List.getElem?_append_right (by rw [L.len, Nat.add_mul]; omega), L.len, ← ih i hx]
      congr 1
      rw [Nat.add_mul]
      omega
theorem flat_set (L : Lies enc s) (xs : List α) (i j : Nat) (x x' : α) (u : Value) (hx : xs[i]? = some x) (hj : j < s) (he : enc x' = (enc x).set j u) : (xs.flatMap enc).set (i * s + j) u = (xs.set i x').flatMap enc := by
  induction xs generalizing i with
  | nil => simp at hx
  | cons y r ih =>
    cases i with
    | zero =>
      simp only [List.getElem?_cons_zero, Option.some.injEq] at hx
      subst hx
      simp only [List.flatMap_cons, List.set_cons_zero, Nat.zero_mul, Nat.zero_add, he]
      rw [List.set_append_left _ _ (by rw [L.len]; omega)]
    | succ i =>
      simp only [List.getElem?_cons_succ] at hx
      simp only [List.flatMap_cons, List.set_cons_succ]
      rw [List.set_append_right _ _ (by rw [L.len, Nat.add_mul]; omega), L.len, ← ih i hx]
      congr 2
      rw [Nat.add_mul]
      omega
theorem flat_take (L : Lies enc s) (xs : List α) (m : Nat) : (xs.take m).flatMap enc = (xs.flatMap enc).take (m * s) := by
  induction xs generalizing m with
  | nil => simp
  | cons x r ih =>
    cases m with
    | zero => simp
    | succ m =>
      have e : (m + 1) * s - s = m * s := by rw [Nat.add_mul]; omega
      have e2 : (enc x).take ((m + 1) * s) = enc x := List.take_of_length_le (by rw [L.len, Nat.add_mul]; omega)
      rw [List.take_succ_cons, List.flatMap_cons, List.flatMap_cons, ih, List.take_append, L.len, e, e2]

/-- A row of items of the call's own. -/
def RowOf (enc : α → List Value) (s E B : Nat) (ao : Option Addr) (cap : Nat) (xs : List α) (w : World) : Prop := w.ownsRow B E s (.slice ao xs.length cap) xs.length (xs.flatMap enc)

variable {E B : Nat} {ao : Option Addr} {cap : Nat} {xs : List α} {w w' : World}

theorem RowOf.nil (enc : α → List Value) (s E B : Nat) (w : World) : RowOf enc s E B none 0 ([] : List α) w := World.ownsRow_nil _ _ _ _
theorem RowOf.head (h : RowOf enc s E B ao cap xs w) : ∀ g, ao = some g → g = ⟨g.block, 0, none⟩ ∧ B ≤ g.block ∧ g.block < w.heap.size := by
  intro g hg
  subst hg
  have h1 := h.lt g.block (by simp [Value.ownBlock])
  rcases h.2 with ⟨h2, _⟩ | ⟨g', cap', cur, hv, _⟩
  · simp at h2
  · simp only [Value.slice.injEq, Option.some.injEq] at hv
    rw [hv.1] at h1 ⊢
    exact ⟨rfl, h1⟩
theorem RowOf.only {S : Nat → Prop} (h : RowOf enc s E B ao cap xs w) (ho : Only S w w') (hS : ∀ g, ao = some g → ¬ S g.block) : RowOf enc s E B ao cap xs w' := by
  obtain ⟨r1, r2⟩ := h
  refine ⟨r1, ?_⟩
  rcases r2 with r2 | ⟨g, cap', cur, hv, hb, hg, rest⟩
  · exact .inl r2
  · refine .inr ⟨g, cap', cur, hv, hb, ?_, rest⟩
    simp only [Value.slice.injEq] at hv
    rw [ho.block g (lt_of_block hg) (hS _ hv.1)]
    exact hg
theorem RowOf.cap_ge (h : RowOf enc s E B ao cap xs w) : xs.length ≤ cap ∧ cap ≤ maxLen := by
  rcases h.2 with ⟨h1, h2⟩ | ⟨g, cap', cur, hv, _, _, hn, hm, _⟩
  · simp only [Value.slice.injEq] at h1; omega
  · simp only [Value.slice.injEq] at hv; omega
theorem RowOf.at (L : Lies enc s) (h : RowOf enc s E B ao cap xs w) (i : Nat) (x : α) (hx : xs[i]? = some x) : ∃ g, ao = some ⟨g, 0, none⟩ ∧ B ≤ g ∧ ∀ j, j < s → w.cell? ⟨g, i * s + j, none⟩ = (enc x)[j]? ∧ w.frozen? ⟨g, i * s + j, none⟩ = false := by
  have hi : i < xs.length := (List.getElem?_eq_some_iff.1 hx).1
  have hr : w.ownsRow B E s (.slice ao xs.length cap) xs.length (xs.flatMap enc) := h
  rcases hr.2 with ⟨h1, h2⟩ | ⟨g, cap', cur, hv, hb, hg, _, _⟩
  · omega
  · simp only [Value.slice.injEq] at hv
    obtain ⟨rfl, _, rfl⟩ := hv
    refine ⟨g, rfl, hb, fun j hj => ⟨?_, frozen_of_row w g _ cur E hg⟩⟩
    have hle : i * s + j < xs.length * s := by
      have : (i + 1) * s ≤ xs.length * s := Nat.mul_le_mul_right _ hi
      rw [Nat.add_mul] at this
      omega
    rw [hr.cellAt _ hle, flat_get L xs i j x hx hj]
theorem RowOf.stored (L : Lies enc s) {g : Nat} (h : RowOf enc s E B (some ⟨g, 0, none⟩) cap xs w) (i j : Nat) (x x' : α) (u : Value) (hx : xs[i]? = some x) (hj : j < s) (he : enc x' = (enc x).set j u) :
    RowOf enc s E B (some ⟨g, 0, none⟩) cap (xs.set i x') (w.setCell ⟨g, i * s + j, none⟩ u) ∧ Only (· = g) w (w.setCell ⟨g, i * s + j, none⟩ u) := by
  have hs := (World.ownsRow.stored h (i * s + j) u).1
  refine ⟨?_, Only.setCell (S := (· = g)) w (p := ⟨g, i * s + j, none⟩) rfl _⟩
  unfold RowOf
  rw [List.length_set, ← flat_set L xs i j x x' u hx hj he]
  exact hs
theorem RowOf.take (L : Lies enc s) (h : RowOf enc s E B ao cap xs w) (m : Nat) (hm : m ≤ xs.length) : RowOf enc s E B ao cap (xs.take m) w := by
  unfold RowOf at h ⊢
  have hl : (xs.take m).length = m := by rw [List.length_take]; omega
  rw [hl, flat_take L]
  obtain ⟨h1, h2⟩ := h
  have hms : m * s ≤ xs.length * s := Nat.mul_le_mul_right _ hm
  rcases h2 with ⟨h0, h3⟩ | ⟨g', cap', cur, hv, hg, hh, hn, hcap, hsz, htake⟩
  · simp only [Value.slice.injEq] at h0
    have : m = 0 := by omega
    subst this
    obtain ⟨rfl, _, rfl⟩ := h0
    simpa using World.ownsRow_nil w B E s
  · simp only [Value.slice.injEq] at hv
    obtain ⟨rfl, _, rfl⟩ := hv
    refine ⟨by rw [List.length_take, h1]; omega, .inr ⟨g', cap, cur, rfl, hg, hh, by omega, hcap, hsz, ?_⟩⟩
    rw [← htake, List.take_take]
    congr 1
    omega

/-- Where a row lies behind a step: where it lay, or in a block from N on. -/
def NewRow (N : Nat) (ao ao' : Option Addr) : Prop := ∀ g, ao' = some g → ao = some g ∨ N ≤ g.block
theorem NewRow.refl (N : Nat) (ao : Option Addr) : NewRow N ao ao := fun _ h => .inl h
theorem NewRow.trans {N M : Nat} {a b c : Option Addr} (h : NewRow N a b) (h' : NewRow M b c) (hm : N ≤ M) : NewRow N a c := fun g hg => by
  rcases h' g hg with h1 | h1
  · exact h g h1
  · exact .inr (Nat.le_trans hm h1)
/-- The row's own block. -/
def RowAt (ao : Option Addr) (k : Nat) : Prop := ∃ g, ao = some g ∧ k = g.block

theorem owned_shape {w : World} {base : Nat} {e : TypeId} {size : Nat} {v : Value} {n : Nat} {xs : List Value} (h : w.ownsRow base e size v n xs) : ∃ ao cap, v = .slice ao n cap := by
  rcases h.2 with ⟨h1, h2⟩ | ⟨g, cap, cur, hv, _⟩
  · subst h2; exact ⟨none, 0, h1⟩
  · exact ⟨_, cap, hv⟩
theorem cells_new (w : World) (cs : List Value) (t : TypeId) : ∀ j u, cs[j]? = some u → (w.alloc (.cells cs.toArray t)).cell? ((⟨w.heap.size, 0, none⟩ : Addr).add j) = some u := by
  intro j u hj
  have : (w.alloc (.cells cs.toArray t)).heap[w.heap.size]? = some (.cells cs.toArray t (0, 0)) := heap_alloc_new w _
  have e : (⟨w.heap.size, 0, none⟩ : Addr).add j = ⟨w.heap.size, j, none⟩ := by unfold Addr.add; split <;> simp_all
  rw [e, cell_of_blk this]
  simpa using hj

/-- append of one item, at the operation. -/
theorem wp_append_one {P : Program} {ops : Array Oper} {rest : List Oper} {o : Oper} {a : Act} {Q : Exit → Act → World → Prop} (L : Lies enc s) (hgd : o.guard = none) (sl x : Operand) (t : TypeId)
    (ho : o.op = .call { callee := .builtin .append, args := #[sl, x], argTypes := #[t, t] })
    (B E : Nat) (i : TypeInfo) (zz : Value) (by_ : Nat) (ht : P.underlying t = some (.slice E)) (hi : P.info? E = some i) (hz : i.zero = some zz) (hsize : i.size = s) (hby : i.bytes = by_) (hzs : zz.cells.size = s) (hbb : by_ ≤ 1024)
    (W : World) (ao : Option Addr) (cap : Nat) (xs : List α) (z : α) (cs : List Value) (hcs : enc z = cs) (hs : a.eval sl = .slice ao xs.length cap) (hrow : RowOf enc s E B ao cap xs W)
    (hx : a.eval x = .slice (some ⟨W.heap.size, 0, none⟩) 1 1) (hlen : xs.length ≤ 16777216) (hB : B ≤ W.heap.size)
    (h : ∀ ao' cap' w', RowOf enc s E B ao' cap' (xs ++ [z]) w' → Only (RowAt ao) W w' → NewRow W.heap.size ao ao' → wpList P ops Q rest (a.put o.dst (.slice ao' (xs ++ [z]).length cap')) w') :
    wpList P ops Q (o :: rest) a (W.alloc (.cells cs.toArray E)) := by
  have hsz : (W.alloc (.cells cs.toArray E)).heap.size = W.heap.size + 1 := by simp
  have hown : (W.alloc (.cells cs.toArray E)).ownsRow B E s (.slice ao xs.length cap) xs.length (xs.flatMap enc) := World.ownsRow.alloc hrow _
  refine wpList_append_own_at (W.alloc (.cells cs.toArray E)) hgd sl x t ho B E i zz s by_ ht hi hz hsize hby hzs L.pos _ xs.length _ hs hown ⟨W.heap.size, 0, none⟩ 1 1 cs hx (by rw [← hcs, L.len]; omega) (cells_new _ _ _)
    (by intro u hu; rw [← hcs] at hu; exact L.one z u hu) (by unfold maxLen; omega) (by have := Nat.mul_le_mul (show xs.length + 1 ≤ 16777217 by omega) hbb; omega) (by omega) ?_
  intro v' w' hown' hgrow hnil hat
  obtain ⟨ao', cap', rfl⟩ := owned_shape hown'
  have hl : (xs ++ [z]).length = xs.length + 1 := by simp
  have hown2 : RowOf enc s E B ao' cap' (xs ++ [z]) w' := by
    unfold RowOf
    rw [hl, List.flatMap_append, List.flatMap_cons, List.flatMap_nil, List.append_nil, hcs]
    exact hown'
  rw [show xs.length + 1 = (xs ++ [z]).length from hl.symm]
  refine h ao' cap' w' hown2 ?_ ?_
  · refine (Only.alloc (RowAt ao) W _).trans (Only.grown hgrow) ?_
    intro k _ hk
    cases ao with
    | none => simp [Value.ownBlock] at hk
    | some g => exact ⟨g, rfl, by simpa [Value.ownBlock] using hk⟩
  · intro g hg
    subst hg
    have hh := hown2.head g rfl
    rcases hat with hat | hat
    · cases ao with
      | none => simp [Value.ownBlock] at hat
      | some g' =>
        have hg' := hrow.head g' rfl
        simp only [Value.ownBlock, Option.some.injEq] at hat
        left
        rw [hh.1, hg'.1, hat]
    · simp only [Value.ownBlock, Option.some.injEq] at hat
      right
      omega
end
end Go.Proofs.Ythfilpacmllhpab.own
