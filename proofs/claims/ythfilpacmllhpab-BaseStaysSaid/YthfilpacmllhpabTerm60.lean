

/- Terms: a set of rows, each known by the address of its first item and its length: what is asked of it may be drawn. -/
import Derived.Test.YthfilpacmllhpabTermA
import Derived.LaidEqlPtr
import Derived.ChangeKeysEq
import Derived.Maps.OwnOps
import Derived.Maps.RangeRun
import Derived.MapKept
import Derived.KernelRfl
namespace Go.Proofs.Ythfilpacmllhpab.terms
open Go.RowKit Go.Proofs.Ythfilpacmllhpab.own Go.Maps Go.ChangeMaps
/-- An address whose cell is not frozen. -/
structure Cold (w : World) (p : Addr) : Prop where
  blk : ∃ cs ty fr, w.heap[p.block]? = some (.cells cs ty fr)
  free : w.frozen? p = false
theorem Cold.only {w w' : World} {p : Addr} {S : Nat → Prop} (h : Cold w p) (ho : Only S w w') (hS : ¬ S p.block) : Cold w' p := by
  obtain ⟨cs, ty, fr, hb⟩ := h.blk
  have hlt := lt_of_block hb
  exact ⟨⟨cs, ty, fr, by rw [ho.block _ hlt hS]; exact hb⟩, by rw [ho.frozen hlt hS]; exact h.free⟩
theorem sameAddr_cold (P : Program) {w : World} {a b : Addr} (ha : Cold w a) (hb : Cold w b) : ∃ r q, (sameAddr a b).run P w = .ok r (w.drewN q) := by
  obtain ⟨ca, ta, fa, ha1⟩ := ha.blk
  obtain ⟨cb, tb, fb, hb1⟩ := hb.blk
  by_cases hbl : a.block = b.block
  · refine ⟨a == b, 0, ?_⟩
    simp [sameAddr, hbl, World.drewN]
  · have fa0 := ha.free
    have fb0 := hb.free
    obtain ⟨X, hX⟩ : ∃ X, X = (sameAddr a b).run P w := ⟨_, rfl⟩
    rw [← hX]
    simp only [sameAddr, noView, viewAt, mayBeOne, stringish] at hX
    simp [hbl, fa0, fb0, World.shape?, ha1, hb1] at hX
    repeat' split at hX
    all_goals first
      | exact ⟨_, 0, hX⟩
      | exact ⟨_, 1, hX⟩
/-- A row's key. -/
def keyR (p : Addr) (n : Int) : Value := .agg #[.pointer (some p), .int .i64 n]
/-- A set of rows, at block m: every key's address is cold, and in a block below B. -/
def SetC (B m : Nat) (w : World) : Prop := ∃ es clock, w.heap[m]? = some (.map es clock) ∧ ∀ e ∈ es.toList, e.val = .agg #[] ∧ ∃ a n, e.key = keyR a n ∧ Cold w a ∧ a.block < B
theorem SetC.only {B m : Nat} {w w' : World} {S : Nat → Prop} (h : SetC B m w) (ho : Only S w w') (hm : ¬ S m) (hS : ∀ k, k < B → ¬ S k) : SetC B m w' := by
  obtain ⟨es, clock, hb, hes⟩ := h
  refine ⟨es, clock, by rw [ho.block _ (lt_of_block hb) hm]; exact hb, fun e he => ⟨(hes e he).1, ?_⟩⟩
  obtain ⟨a, n, hk, hc, hB⟩ := (hes e he).2
  exact ⟨a, n, hk, hc.only ho (hS _ hB), hB⟩
theorem Cold.not_map {w : World} {p : Addr} {m : Nat} {es : Array MapEntry} {clock : Nat} (h : Cold w p) (hb : w.heap[m]? = some (.map es clock)) : p.block ≠ m := by
  rintro rfl
  obtain ⟨cs, ty, fr, hc⟩ := h.blk
  rw [hb] at hc
  cases hc
theorem stays_run (P : Program) (old new : Value) (w : World) : ∃ k q, (Instr.keyThatStays old new).run P w = .ok k (w.drewN q) ∧ (k = old ∨ k = new) := by
  obtain ⟨X, hX⟩ : ∃ X, X = (Instr.keyThatStays old new).run P w := ⟨_, rfl⟩
  rw [← hX]
  simp only [Instr.keyThatStays] at hX
  split at hX
  · exact ⟨new, 0, hX, .inr rfl⟩
  · simp at hX
    repeat' split at hX
    all_goals first
      | exact ⟨new, 0, hX, .inr rfl⟩
      | exact ⟨new, 1, hX, .inr rfl⟩
      | exact ⟨old, 1, hX, .inl rfl⟩
      | exact ⟨old, 0, hX, .inl rfl⟩
theorem SetC.put {B m : Nat} {w : World} {es es' : Array MapEntry} {clock clock' : Nat} (q : Nat) (hb : w.heap[m]? = some (.map es clock)) (hes : ∀ e ∈ es'.toList, e.val = .agg #[] ∧ ∃ a n, e.key = keyR a n ∧ Cold w a ∧ a.block < B) : SetC B m (setBlock (w.drewN q) m (.map es' clock')) ∧ Only (fun k => k = m) w (setBlock (w.drewN q) m (.map es' clock')) := by
  have hbq : (w.drewN q).heap[m]? = some (.map es clock) := hb
  have ho : Only (fun k => k = m) w (setBlock (w.drewN q) m (.map es' clock')) := ⟨rfl, rfl, rfl, by simp [setBlock, World.drewN], fun k _ hk => heap_setBlock_other hbq _ hk⟩
  refine ⟨⟨es', clock', heap_setBlock_same hbq _, fun e he => ⟨(hes e he).1, ?_⟩⟩, ho⟩
  obtain ⟨a, n, hk, hc, hB⟩ := (hes e he).2
  exact ⟨a, n, hk, hc.only ho (hc.not_map hb), hB⟩
end Go.Proofs.Ythfilpacmllhpab.terms
