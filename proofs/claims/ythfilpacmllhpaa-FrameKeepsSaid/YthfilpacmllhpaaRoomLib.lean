
/- Rooms as the walks see them: a struct of three cells whose first is a row of words of the call's own; what a step keeps. -/
import Derived.WalkKit
import Derived.WalkSmall
import Derived.OwnWalk
import Derived.Below
import Derived.OneCell
import Derived.Laws.OwnMore
import Derived.Maps.AppendAt
namespace Go.Proofs.Ythfilpacmllhpaa.rooms
open Go.RowKit

/-- Of the blocks that were there, only those in S may have turned. -/
structure Only (S : Nat → Prop) (w w' : World) : Prop where
  os : w'.os = w.os
  tape : w'.tape = w.tape
  output : w'.output = w.output
  size : w.heap.size ≤ w'.heap.size
  block : ∀ k, k < w.heap.size → ¬ S k → w'.heap[k]? = w.heap[k]?

theorem Only.refl (S : Nat → Prop) (w : World) : Only S w w := ⟨rfl, rfl, rfl, Nat.le_refl _, fun _ _ _ => rfl⟩
theorem Only.mono {S S' : Nat → Prop} {w w' : World} (h : Only S w w') (hs : ∀ k, k < w.heap.size → S k → S' k) : Only S' w w' :=
  ⟨h.os, h.tape, h.output, h.size, fun k hk hn => h.block k hk (fun e => hn (hs k hk e))⟩
theorem Only.trans {S S' : Nat → Prop} {a b c : World} (h : Only S a b) (h' : Only S' b c) (hs : ∀ k, k < a.heap.size → S' k → S k) : Only S a c :=
  ⟨h'.os.trans h.os, h'.tape.trans h.tape, h'.output.trans h.output, Nat.le_trans h.size h'.size, fun k hk hn =>
    (h'.block k (Nat.lt_of_lt_of_le hk h.size) (fun e => hn (hs k hk e))).trans (h.block k hk hn)⟩
theorem Only.same {S : Nat → Prop} {a b c : World} (h : Only S a b) (h' : Only S b c) : Only S a c := h.trans h' (fun _ _ e => e)
theorem Only.drewN (S : Nat → Prop) (w : World) (n : Nat) : Only S w (w.drewN n) := ⟨rfl, rfl, rfl, Nat.le_refl _, fun _ _ _ => rfl⟩
theorem Only.alloc (S : Nat → Prop) (w : World) (o : Obj) : Only S w (w.alloc o) := ⟨rfl, rfl, rfl, by simp, fun k hk _ => Below.heap_alloc w o k hk⟩
theorem Only.setCell {S : Nat → Prop} (w : World) {p : Addr} (hp : S p.block) (u : Value) : Only S w (w.setCell p u) :=
  ⟨rfl, rfl, rfl, by simp [World.setCell], fun k _ hn => Below.heap_setCell _ _ _ _ (fun e => hn (by rw [e]; exact hp))⟩
theorem Only.grown {w w' : World} {row : Option Nat} (hg : w.grownBy w' row) : Only (fun k => some k = row) w w' :=
  ⟨hg.os, hg.tape, hg.output, hg.size, fun k hk hn => hg.block k hk hn⟩
theorem Only.grownBy {S : Nat → Prop} {w w' : World} (h : Only S w w') {row : Option Nat} (hs : ∀ k, k < w.heap.size → S k → some k = row) : w.grownBy w' row :=
  ⟨h.os, h.tape, h.output, h.size, fun k hk hn => h.block k hk (fun e => hn (hs k hk e))⟩
theorem Only.below {S : Nat → Prop} {B : Nat} {w w' : World} (h : Only S w w') (hB : B ≤ w.heap.size) (hs : ∀ k, k < w.heap.size → S k → B ≤ k) : Below B w w' :=
  ⟨h.os, h.tape, h.output, h.size, fun k hk => h.block k (by omega) (fun e => by have := hs k (by omega) e; omega)⟩
theorem Only.of_below {w w' : World} (h : Below w.heap.size w w') (S : Nat → Prop) : Only S w w' := ⟨h.os, h.tape, h.output, h.size, fun k hk _ => h.block k hk⟩

theorem owned_shape {w : World} {base : Nat} {e : TypeId} {size : Nat} {v : Value} {n : Nat} {xs : List Value} (h : w.ownsRow base e size v n xs) : ∃ ao cap, v = .slice ao n cap := by
  rcases h.2 with ⟨h1, h2⟩ | ⟨g, cap, cur, hv, _⟩
  · subst h2; exact ⟨none, 0, h1⟩
  · exact ⟨_, cap, hv⟩

/-- A room (type T, words of type E): block b holds the row, the limit and the most; the row's words are xs; all of it from block B on. -/
structure IsRoom (E T B b : Nat) (ao : Option Addr) (cap : Nat) (xs : List Int) (lim most : Int) (w : World) : Prop where
  blk : w.heap[b]? = some (.cells #[.slice ao xs.length cap, .int .i64 lim, .int .i64 most] T (0, 0))
  row : w.ownsRow B E 1 (.slice ao xs.length cap) xs.length (xs.map (Value.int .u64))
  low : B ≤ b
  other : ∀ g, ao = some g → g.block ≠ b

theorem cell_of_blk {w : World} {b : Nat} {cs : Array Value} {t : TypeId} (h : w.heap[b]? = some (.cells cs t (0, 0))) (j : Nat) : w.cell? ⟨b, j, none⟩ = cs[j]? := by simp [World.cell?, h]
theorem free_of_blk {w : World} {b : Nat} {cs : Array Value} {t : TypeId} (h : w.heap[b]? = some (.cells cs t (0, 0))) (j : Nat) : w.frozen? ⟨b, j, none⟩ = false := by simp [World.frozen?, h]

variable {E T B b : Nat} {ao : Option Addr} {cap : Nat} {xs : List Int} {lim most : Int} {w w' : World}

theorem IsRoom.c0 (h : IsRoom E T B b ao cap xs lim most w) : w.cell? ⟨b, 0, none⟩ = some (.slice ao xs.length cap) := by rw [cell_of_blk h.blk]; rfl
theorem IsRoom.c1 (h : IsRoom E T B b ao cap xs lim most w) : w.cell? ⟨b, 1, none⟩ = some (.int .i64 lim) := by rw [cell_of_blk h.blk]; rfl
theorem IsRoom.c2 (h : IsRoom E T B b ao cap xs lim most w) : w.cell? ⟨b, 2, none⟩ = some (.int .i64 most) := by rw [cell_of_blk h.blk]; rfl
theorem IsRoom.fz (h : IsRoom E T B b ao cap xs lim most w) (j : Nat) : w.frozen? ⟨b, j, none⟩ = false := free_of_blk h.blk j
theorem IsRoom.lt (h : IsRoom E T B b ao cap xs lim most w) : b < w.heap.size := lt_of_block h.blk

/-- The blocks of a room. -/
def Mine (b : Nat) (ao : Option Addr) (k : Nat) : Prop := k = b ∨ ∃ g, ao = some g ∧ k = g.block

theorem IsRoom.mine_lt (h : IsRoom E T B b ao cap xs lim most w) : ∀ k, Mine b ao k → B ≤ k ∧ k < w.heap.size := by
  rintro k (rfl | ⟨g, rfl, rfl⟩)
  · exact ⟨h.low, h.lt⟩
  · exact h.row.lt g.block (by simp [Value.ownBlock])

theorem IsRoom.only {S : Nat → Prop} (h : IsRoom E T B b ao cap xs lim most w) (ho : Only S w w') (hS : ∀ k, Mine b ao k → ¬ S k) : IsRoom E T B b ao cap xs lim most w' := by
  refine ⟨?_, ?_, h.low, h.other⟩
  · rw [ho.block b h.lt (hS b (.inl rfl))]; exact h.blk
  · obtain ⟨r1, r2⟩ := h.row
    refine ⟨r1, ?_⟩
    rcases r2 with r2 | ⟨g, cap', cur, hv, hb, hg, rest⟩
    · exact .inl r2
    · refine .inr ⟨g, cap', cur, hv, hb, ?_, rest⟩
      simp only [Value.slice.injEq] at hv
      rw [ho.block g (lt_of_block hg) (hS g (.inr ⟨_, hv.1, rfl⟩))]
      exact hg
theorem IsRoom.drewN (h : IsRoom E T B b ao cap xs lim most w) (n : Nat) : IsRoom E T B b ao cap xs lim most (w.drewN n) := h.only (Only.drewN (fun _ => False) w n) (fun _ _ e => e)
theorem IsRoom.cap_ge (h : IsRoom E T B b ao cap xs lim most w) : xs.length ≤ cap := by
  rcases h.row.2 with ⟨h1, h2⟩ | ⟨g, cap', cur, hv, _, _, hn, _⟩
  · omega
  · simp only [Value.slice.injEq] at hv; omega
theorem IsRoom.cap_le (h : IsRoom E T B b ao cap xs lim most w) : cap ≤ maxLen := by
  rcases h.row.2 with ⟨h1, h2⟩ | ⟨g, cap', cur, hv, _, _, _, hm, _⟩
  · simp only [Value.slice.injEq] at h1; omega
  · simp only [Value.slice.injEq] at hv; omega
theorem IsRoom.at (h : IsRoom E T B b ao cap xs lim most w) (i : Nat) (hi : i < xs.length) : ∃ g, ao = some ⟨g, 0, none⟩ ∧ w.cell? ⟨g, i, none⟩ = some (.int .u64 (xs.getD i 0)) ∧ w.frozen? ⟨g, i, none⟩ = false := by
  have hr := h.row
  rcases h.row.2 with ⟨h1, h2⟩ | ⟨g, cap', cur, hv, _, hg, _, _⟩
  · omega
  · simp only [Value.slice.injEq] at hv
    obtain ⟨rfl, _, rfl⟩ := hv
    refine ⟨g, rfl, ?_, frozen_of_row w g i cur E hg⟩
    rw [hr.cellAt i (by omega)]
    simp [List.getD, List.getElem?_eq_getElem hi]

/-- A row of words of the call's own. -/
def Row (E B : Nat) (ao : Option Addr) (cap : Nat) (xs : List Int) (w : World) : Prop := w.ownsRow B E 1 (.slice ao xs.length cap) xs.length (xs.map (Value.int .u64))
theorem Row.head {E B : Nat} {ao : Option Addr} {cap : Nat} {xs : List Int} {w : World} (h : Row E B ao cap xs w) : ∀ g, ao = some g → g = ⟨g.block, 0, none⟩ ∧ B ≤ g.block ∧ g.block < w.heap.size := by
  intro g hg
  subst hg
  have h1 := h.lt g.block (by simp [Value.ownBlock])
  rcases h.2 with ⟨h2, _⟩ | ⟨g', cap', cur, hv, _⟩
  · simp at h2
  · simp only [Value.slice.injEq, Option.some.injEq] at hv
    rw [hv.1] at h1 ⊢
    exact ⟨rfl, h1⟩
theorem Row.only {E B : Nat} {ao : Option Addr} {cap : Nat} {xs : List Int} {w w' : World} {S : Nat → Prop} (h : Row E B ao cap xs w) (ho : Only S w w') (hS : ∀ g, ao = some g → ¬ S g.block) : Row E B ao cap xs w' := by
  obtain ⟨r1, r2⟩ := h
  refine ⟨r1, ?_⟩
  rcases r2 with r2 | ⟨g, cap', cur, hv, hb, hg, rest⟩
  · exact .inl r2
  · refine .inr ⟨g, cap', cur, hv, hb, ?_, rest⟩
    simp only [Value.slice.injEq] at hv
    rw [ho.block g (lt_of_block hg) (hS _ hv.1)]
    exact hg
theorem Row.nil (E B : Nat) (w : World) : Row E B none 0 [] w := World.ownsRow_nil _ _ _ _
theorem Row.cap_ge {E B : Nat} {ao : Option Addr} {cap : Nat} {xs : List Int} {w : World} (h : Row E B ao cap xs w) : xs.length ≤ cap ∧ cap ≤ maxLen := by
  rcases h.2 with ⟨h1, h2⟩ | ⟨g, cap', cur, hv, _, _, hn, hm, _⟩
  · simp only [Value.slice.injEq] at h1; omega
  · simp only [Value.slice.injEq] at hv; omega

/-- Where a row lies behind a step: where it lay, or in a block from N on. -/
def NewRow (N : Nat) (ao ao' : Option Addr) : Prop := ∀ g, ao' = some g → ao = some g ∨ N ≤ g.block
theorem NewRow.refl (N : Nat) (ao : Option Addr) : NewRow N ao ao := fun _ h => .inl h
theorem NewRow.trans {N M : Nat} {a b c : Option Addr} (h : NewRow N a b) (h' : NewRow M b c) (hm : N ≤ M) : NewRow N a c := fun g hg => by
  rcases h' g hg with h1 | h1
  · exact h g h1
  · exact .inr (Nat.le_trans hm h1)
/-- The row's own block. -/
def RowAt (ao : Option Addr) (k : Nat) : Prop := ∃ g, ao = some g ∧ k = g.block

/-- append of one word, at the operation. -/
theorem wp_append_word {P : Program} {ops : Array Oper} {rest : List Oper} {o : Oper} {a : Act} {Q : Exit → Act → World → Prop} (hgd : o.guard = none) (s x : Operand) (t : TypeId)
    (ho : o.op = .call { callee := .builtin .append, args := #[s, x], argTypes := #[t, t] })
    (B E : Nat) (i : TypeInfo) (ht : P.underlying t = some (.slice E)) (hi : P.info? E = some i) (hz : i.zero = some (.int .u64 0)) (hsize : i.size = 1) (hby : i.bytes = 8)
    (W : World) (ao : Option Addr) (cap : Nat) (xs : List Int) (z : Int) (hs : a.eval s = .slice ao xs.length cap) (hrow : Row E B ao cap xs W)
    (hx : a.eval x = .slice (some ⟨W.heap.size, 0, none⟩) 1 1) (hlen : xs.length ≤ 1048576) (hB : B ≤ W.heap.size)
    (h : ∀ ao' cap' w', Row E B ao' cap' (xs ++ [z]) w' → Only (RowAt ao) W w' → NewRow W.heap.size ao ao' → wpList P ops Q rest (a.put o.dst (.slice ao' (xs ++ [z]).length cap')) w') :
    wpList P ops Q (o :: rest) a (W.alloc (.cells #[.int .u64 z] E)) := by
  have hsz : (W.alloc (.cells #[.int .u64 z] E)).heap.size = W.heap.size + 1 := by simp
  have hown : (W.alloc (.cells #[.int .u64 z] E)).ownsRow B E 1 (.slice ao xs.length cap) xs.length (xs.map (Value.int .u64)) := World.ownsRow.alloc hrow _
  refine wpList_append_own_at (W.alloc (.cells #[.int .u64 z] E)) hgd s x t ho B E i (.int .u64 0) 1 8 ht hi hz hsize hby rfl (by decide) _ xs.length _ hs hown ⟨W.heap.size, 0, none⟩ 1 1 [.int .u64 z] hx rfl (cell_one_new _ _ _)
    (by intro u hu; simp at hu; subst hu; rfl) (by unfold maxLen; omega) (by omega) (by omega) ?_
  intro v' w' hown' hgrow hnil hat
  obtain ⟨ao', cap', rfl⟩ := owned_shape hown'
  have hl : (xs ++ [z]).length = xs.length + 1 := by simp
  rw [show xs.length + 1 = (xs ++ [z]).length from hl.symm]
  refine h ao' cap' w' ?_ ?_ ?_
  · unfold Row
    rw [hl]
    simpa using hown'
  · refine (Only.alloc (RowAt ao) W _).trans (Only.grown hgrow) ?_
    intro k _ hk
    cases ao with
    | none => simp [Value.ownBlock] at hk
    | some g => exact ⟨g, rfl, by simpa [Value.ownBlock] using hk⟩
  · intro g hg
    subst hg
    have hh := Row.head (E := E) (B := B) (ao := some g) (cap := cap') (xs := xs ++ [z]) (w := w') (by unfold Row; rw [hl]; simpa using hown') g rfl
    rcases hat with hat | hat
    · cases ao with
      | none => simp [Value.ownBlock] at hat
      | some g' =>
        have hg' := hrow.head g' rfl
        simp only [Value.ownBlock, Option.some.injEq] at hat
        left
        rw [hh.1, hg'.1, hat]
    · simp only [Value.ownBlock, Option.some.injEq] at hat
      right
      omega

theorem IsRoom.other_new {E T B b : Nat} {ao ao' : Option Addr} {cap : Nat} {xs : List Int} {lim most : Int} {w : World} (h : IsRoom E T B b ao cap xs lim most w) {N : Nat} (hN : b < N) (hn : NewRow N ao ao') : ∀ g, ao' = some g → g.block ≠ b := by
  intro g hg
  rcases hn g hg with h1 | h1
  · exact h.other g h1
  · omega
/-- A room behind a step that has written its struct and its row. -/
theorem IsRoom.behind {E T B b : Nat} {ao : Option Addr} {cap : Nat} {xs : List Int} {lim most : Int} {w w' : World} (hblk : w'.heap[b]? = some (.cells #[.slice ao xs.length cap, .int .i64 lim, .int .i64 most] T (0, 0)))
    (hrow : Row E B ao cap xs w) (ho : Only (· = b) w w') (hlow : B ≤ b) (hoth : ∀ g, ao = some g → g.block ≠ b) : IsRoom E T B b ao cap xs lim most w' :=
  ⟨hblk, hrow.only ho hoth, hlow, hoth⟩

theorem Only.no {w w' : World} (h : Only (fun _ => False) w w') (S : Nat → Prop) : Only S w w' := h.mono (fun _ _ e => e.elim)
theorem Only.rowAt {b : Nat} {ao : Option Addr} {w w' : World} (h : Only (RowAt ao) w w') : Only (Mine b ao) w w' := h.mono (fun _ _ ⟨g, hg, e⟩ => .inr ⟨g, hg, e⟩)
theorem Only.struct {b : Nat} {ao : Option Addr} {w w' : World} (h : Only (· = b) w w') : Only (Mine b ao) w w' := h.mono (fun _ _ e => .inl e)
theorem NewRow.of_only {S : Nat → Prop} {w w' : World} {ao ao' : Option Addr} (h : NewRow w'.heap.size ao ao') (ho : Only S w w') : NewRow w.heap.size ao ao' := fun g hg => by
  rcases h g hg with h1 | h1
  · exact .inl h1
  · exact .inr (Nat.le_trans ho.size h1)

def hasB (n : Nat) (i : Int) : Bool := decide (0 ≤ i ∧ i < (n : Int))
theorem hasB_yes {n : Nat} {i : Int} (h0 : 0 ≤ i) (h1 : i < (n : Int)) : hasB n i = true := decide_eq_true ⟨h0, h1⟩
theorem hasB_no {n : Nat} {i : Int} (h : ¬ (0 ≤ i ∧ i < (n : Int))) : hasB n i = false := decide_eq_false h

theorem IsRoom.stored {E T B b g : Nat} {cap : Nat} {xs : List Int} {lim most : Int} {w : World} (h : IsRoom E T B b (some ⟨g, 0, none⟩) cap xs lim most w) (i : Nat) (x : Int) :
    IsRoom E T B b (some ⟨g, 0, none⟩) cap (xs.set i x) lim most (w.setCell ⟨g, i, none⟩ (.int .u64 x)) ∧ Only (RowAt (some ⟨g, 0, none⟩)) w (w.setCell ⟨g, i, none⟩ (.int .u64 x)) := by
  have hne : g ≠ b := h.other _ rfl
  have hs := h.row.stored i (.int .u64 x)
  have ho : Only (RowAt (some ⟨g, 0, none⟩)) w (w.setCell ⟨g, i, none⟩ (.int .u64 x)) := Only.setCell w (p := ⟨g, i, none⟩) ⟨_, rfl, rfl⟩ _
  refine ⟨⟨?_, ?_, h.low, h.other⟩, ho⟩
  · rw [ho.block b h.lt (by rintro ⟨g', hg, e⟩; cases hg; exact hne e.symm)]
    rw [List.length_set]
    exact h.blk
  · have h1 := hs.1
    rw [List.length_set, List.map_set]
    exact h1

theorem ownsRow_take {w : World} {base : Nat} {e : TypeId} {g cap n m : Nat} {xs : List Value} (h : w.ownsRow base e 1 (.slice (some ⟨g, 0, none⟩) n cap) n xs) (hm : m ≤ n) : w.ownsRow base e 1 (.slice (some ⟨g, 0, none⟩) m cap) m (xs.take m) := by
  obtain ⟨h1, h2⟩ := h
  rcases h2 with ⟨h0, _⟩ | ⟨g', cap', cur, hv, hg, hh, hn, hcap, hsz, htake⟩
  · cases h0
  · cases hv
    refine ⟨by rw [List.length_take, h1]; omega, .inr ⟨g, cap, cur, rfl, hg, hh, by omega, hcap, hsz, ?_⟩⟩
    rw [← htake, List.take_take]
    congr 1
    omega
/-- The row of the room, cut to its first m words (the address as Go leaves it). -/
theorem Row.take {E B : Nat} {ao : Option Addr} {cap : Nat} {xs : List Int} {w : World} (h : Row E B ao cap xs w) (m : Nat) (hm : m ≤ xs.length) : Row E B ao cap (xs.take m) w := by
  unfold Row at h ⊢
  have hl : (xs.take m).length = m := by rw [List.length_take]; omega
  rw [hl, List.map_take]
  rcases h.2 with ⟨h1, h2⟩ | ⟨g, cap', cur, hv, _⟩
  · have : m = 0 := by omega
    subst this
    simp only [Value.slice.injEq] at h1
    obtain ⟨rfl, _, rfl⟩ := h1
    exact World.ownsRow_nil _ _ _ _
  · simp only [Value.slice.injEq] at hv
    obtain ⟨rfl, _, rfl⟩ := hv
    exact ownsRow_take h hm

/-- What a step on a room keeps: all that lies below its base. -/
theorem IsRoom.keeps {E T B b : Nat} {ao : Option Addr} {cap : Nat} {xs : List Int} {lim most : Int} {w w' : World} (h : IsRoom E T B b ao cap xs lim most w) (ho : Only (Mine b ao) w w') : Below B w w' :=
  ho.below (Nat.le_trans h.low (Nat.le_of_lt h.lt)) (fun k _ e => (h.mine_lt k e).1)
end Go.Proofs.Ythfilpacmllhpaa.rooms
