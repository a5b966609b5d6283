

/- Terms: rows that were just laid; a variable that holds a term. -/
import Derived.Test.YthfilpacmllhpabTermA
import Derived.Test.YthfilpacmllhpabTermB
import Derived.KernelRfl
namespace Go.Proofs.Ythfilpacmllhpab.terms
set_option maxRecDepth 100000
open Go.RowKit Go.Proofs.Ythfilpacmllhpab.own Go.Maps
theorem sane_leaf (k n : Int) (s : ByteArray) (hk : Fits k) (hn : Fits n) (hs : s.size ≤ maxLen) : (T.mk k n s []).Sane := ⟨hk, hn, hs, Nat.zero_le _⟩
theorem Row.ofBlock {P : Nat → Prop} {w : World} {b : Nat} {its : List It} {ty : TypeId} {cs : Array Value} (hb : w.heap[b]? = some (.cells cs ty (0, 0))) (hcs : cs = (its.flatMap encIt).toArray) (hP : P b) (hs : ∀ (i : Nat) (x : It), its[i]? = some x → x.t.Sane ∧ Row P w x.ao x.t.l) : Row P w (some ⟨b, 0, none⟩) (its.map (·.t)) := by
  subst hcs
  refine .mk _ _ (fun i => (its.getD i default).ao) (fun i => (its.getD i default).cap) (fun i t ht => ?_) (fun i t ht => ?_)
  · rw [List.getElem?_map] at ht
    obtain ⟨x, hx, rfl⟩ := Option.map_eq_some_iff.1 ht
    have e : its.getD i default = x := by simp [List.getD, hx]
    have hc : ∀ r, r < 4 → w.cell? ⟨b, 0 + i * 4 + r, none⟩ = (encIt x)[r]? := fun r hr => by
      rw [cell_of_blk hb, ← flat_get liesIt its i r x hx hr, Nat.zero_add]
      simp
    refine ⟨b, 0, rfl, hP, ?_, ?_, ?_, ?_, (hs i x hx).1, free_of_blk hb _⟩
    · exact hc 0 (by omega)
    · exact hc 1 (by omega)
    · exact hc 2 (by omega)
    · rw [e]
      exact hc 3 (by omega)
  · rw [List.getElem?_map] at ht
    obtain ⟨x, hx, rfl⟩ := Option.map_eq_some_iff.1 ht
    have e : its.getD i default = x := by simp [List.getD, hx]
    rw [e]
    exact (hs i x hx).2
/-- Leaves that were just laid. -/
theorem Row.leaves {w : World} {b : Nat} {ts : List T} {ty : TypeId} {cs : Array Value} (hb : w.heap[b]? = some (.cells cs ty (0, 0))) (hcs : cs = ((ts.map (fun t => (⟨t, none, 0⟩ : It))).flatMap encIt).toArray) (hs : ∀ t ∈ ts, t.Sane ∧ t.l = []) : Lies w (some ⟨b, 0, none⟩) ts := by
  have := Row.ofBlock (P := fun k => k < w.heap.size) hb hcs (lt_of_block hb) (fun i x hx => by
    have hm := List.mem_of_getElem? hx
    obtain ⟨t, ht, rfl⟩ := List.mem_map.1 hm
    exact ⟨(hs t ht).1, by rw [(hs t ht).2]; exact Row.nil _ _ _⟩)
  simpa [List.map_map, Function.comp_def] using this
/-- A variable that holds a term. -/
structure Held (b : Nat) (t : T) (ao : Option Addr) (cap : Nat) (W : World) : Prop where
  q : Quad b (.int .i64 t.k) (.int .i64 t.n) (.string t.s) (.slice ao t.l.length cap) W
  l : Lies W ao t.l
theorem Held.later {b : Nat} {t : T} {ao : Option Addr} {cap : Nat} {W W' : World} (h : Held b t ao cap W) (ho : Only (fun _ => False) W W') : Held b t ao cap W' := ⟨h.q.only ho (fun e => e), h.l.later ho⟩
theorem Held.new {t : T} {ao : Option Addr} (cap : Nat) {W : World} (h : Lies W ao t.l) : Held W.heap.size t ao cap (W.alloc (.cells #[.int .i64 t.k, .int .i64 t.n, .string t.s, .slice ao t.l.length cap] 31)) := ⟨heap_alloc_new _ _, h.later (Only.alloc _ _ _)⟩
end Go.Proofs.Ythfilpacmllhpab.terms
