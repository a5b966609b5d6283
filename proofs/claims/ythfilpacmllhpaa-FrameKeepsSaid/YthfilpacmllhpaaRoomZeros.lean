
/- append(s, make([]T, n)...) on a row of words of the call's own: the operation's law. -/
import Derived.Test.YthfilpacmllhpaaRoomLib
import Derived.Lib.AppendZeros
import Derived.Lib.AppendZerosOnto
namespace Go.Proofs.Ythfilpacmllhpaa.rooms
open Go.RowKit

theorem zeroCells_one (n : Nat) : Builtin.zeroCells (Value.int .u64 0).cells n = (List.replicate n (Value.int .u64 0)).toArray := by
  apply Array.ext
  · simp [Builtin.zeroCells, Value.cells]
  · intro i h1 h2
    simp [Builtin.zeroCells, Value.cells, Nat.mod_one]

theorem run_zeros_room {P : Program} (w : World) (t tn ty e : TypeId) (i : TypeInfo) (k kn : IntKind) (ht : P.underlying t = some (.slice e)) (htn : P.underlying tn = some (.int kn)) (hi : P.info? e = some i) (hz : i.zero = some (.int .u64 0)) (hsz : i.size = 1) (hby : i.bytes = 8)
    (g sLen sCap n : Nat) (cur : Array Value) (hg : w.heap[g]? = some (.cells cur e (0, 0))) (h0 : 0 < n) (hn : n ≤ 1048576) (hroom : sLen + n ≤ sCap) (hfit : sLen + n ≤ cur.size) :
    (Builtin.append_ #[t, tn] ty #[.slice (some ⟨g, 0, none⟩) sLen sCap, .int k n]).run P w =
      .ok (.slice (some ⟨g, 0, none⟩) (sLen + n) sCap) (w.setRow g (cur.toList.take sLen ++ List.replicate n (Value.int .u64 0) ++ cur.toList.drop (sLen + n)).toArray) := by
  have hw : IntKind.i64.wrap (n : Int) = n := by rw [IntKind.wrap_i64]; omega
  have h48i : ¬ (281474976710656 < (n : Int) * 8) := by omega
  have hneg : ¬ ((n : Int) < 0) := by omega
  have hne : ¬ (n = 0) := by omega
  have hst := run_storeCells_at P g sLen e (List.replicate n (Value.int .u64 0)) 0 cur w hg (by simpa using hfit) (by intro v hv; rw [List.eq_of_mem_replicate hv]; rfl)
  simp only [Nat.add_zero, List.length_replicate] at hst
  have hzc := zeroCells_one n
  simp [Builtin.append_, run_underlying ht, run_underlying htn, sizeOf, typeInfo, zeroValue, hi, hz, hsz, hby, asInt, asIntOf, hw, hneg, hne, h48i, hroom, hzc, Addr.add_lit, hst]

theorem run_zeros_none {P : Program} (w : World) (t tn ty e : TypeId) (i : TypeInfo) (k kn : IntKind) (ht : P.underlying t = some (.slice e)) (htn : P.underlying tn = some (.int kn)) (hi : P.info? e = some i) (hsz : i.size = 1) (hby : i.bytes = 8)
    (ao : Option Addr) (sLen sCap : Nat) (hroom : sLen ≤ sCap) :
    (Builtin.append_ #[t, tn] ty #[.slice ao sLen sCap, .int k 0]).run P w = .ok (.slice ao sLen sCap) w := by
  have hw : IntKind.i64.wrap (0 : Int) = 0 := by rw [IntKind.wrap_i64]; omega
  cases ao with
  | none => simp [Builtin.append_, run_underlying ht, run_underlying htn, sizeOf, typeInfo, hi, hsz, hby, asInt, asIntOf, hw, hroom]
  | some a => simp [Builtin.append_, run_underlying ht, run_underlying htn, sizeOf, typeInfo, hi, hsz, hby, asInt, asIntOf, hw, hroom, storeCells]

/-- The run, whatever the row. -/
theorem run_zeros {P : Program} (W : World) (t tn ty E : TypeId) (i : TypeInfo) (k kn : IntKind) (ht : P.underlying t = some (.slice E)) (htn : P.underlying tn = some (.int kn)) (hi : P.info? E = some i) (hz : i.zero = some (.int .u64 0)) (hsize : i.size = 1) (hby : i.bytes = 8)
    (B : Nat) (ao : Option Addr) (cap n : Nat) (xs : List Int) (hrow : Row E B ao cap xs W) (hlen : xs.length ≤ 1048576) (hn : n ≤ 1048576) (hB : B ≤ W.heap.size) :
    ∃ ao' cap' w', (Builtin.append_ #[t, tn] ty #[.slice ao xs.length cap, .int k n]).run P W = .ok (.slice ao' (xs ++ List.replicate n 0).length cap') w' ∧ Row E B ao' cap' (xs ++ List.replicate n 0) w' ∧ Only (RowAt ao) W w' ∧ NewRow W.heap.size ao ao' := by
  have hl : (xs ++ List.replicate n (0 : Int)).length = xs.length + n := by simp
  have hcap := hrow.cap_ge
  by_cases h0 : n = 0
  · subst h0
    refine ⟨ao, cap, W, ?_, by simpa using hrow, Only.refl _ _, NewRow.refl _ _⟩
    rw [hl]
    exact run_zeros_none W t tn ty E i k kn ht htn hi hsize hby ao xs.length cap hcap.1
  · by_cases hroom : xs.length + n ≤ cap
    · have hown := hrow
      rcases hrow.2 with ⟨h1, h2⟩ | ⟨g, cap', cur, hv, hb, hg, hnc, hcm, hcs, htake⟩
      · simp only [Value.slice.injEq] at h1; omega
      · simp only [Value.slice.injEq] at hv
        obtain ⟨rfl, _, rfl⟩ := hv
        have hr := run_zeros_room (P := P) W t tn ty E i k kn ht htn hi hz hsize hby g xs.length cap n cur hg (by omega) hn hroom (by omega)
        refine ⟨some ⟨g, 0, none⟩, cap, _, by rw [hl]; exact hr, ?_, ?_, NewRow.refl _ _⟩
        · unfold Row
          rw [hl]
          refine ⟨by simp, .inr ⟨g, cap, _, rfl, hb, setRow_heap W g cur _ E _ hg, hroom, hcm, ?_, ?_⟩⟩
          · simp only [List.size_toArray, List.length_append, List.length_take, List.length_drop, Array.length_toList, List.length_replicate]
            omega
          · simp only [Nat.mul_one] at htake ⊢
            rw [htake]
            have e : (xs ++ List.replicate n (0 : Int)).map (Value.int .u64) = xs.map (Value.int .u64) ++ List.replicate n (Value.int .u64 0) := by simp
            rw [e]
            exact List.take_left' (by simp)
        · exact ⟨rfl, rfl, rfl, by simp, fun k _ hk => setRow_other W g k _ (fun e => hk ⟨_, rfl, e⟩)⟩
    · have hold : (Builtin.firstCells i.size xs.length (.slice ao xs.length cap)).run P W.drew = .ok (xs.map (Value.int .u64)).toArray W.drew := by
        rcases hrow.2 with ⟨h1, h2⟩ | ⟨g, cap', cur, hv, hb, hg, _⟩
        · simp only [Value.slice.injEq] at h1
          obtain ⟨rfl, _, _⟩ := h1
          have hx : xs = [] := List.eq_nil_of_length_eq_zero h2
          subst hx
          simp [Builtin.firstCells]
        · simp only [Value.slice.injEq] at hv
          obtain ⟨rfl, _, rfl⟩ := hv
          have hc := World.ownsRow.cells (g := g) hrow rfl
          exact run_firstCells_some (P := P) W.drew i.size xs.length ⟨g, 0, none⟩ xs.length cap (xs.map (Value.int .u64)) (by simp [hsize]) hc
      have hfit : Builtin.nextslicecap (xs.length + n) cap * i.bytes ≤ 281474976710656 := by
        rw [hby]
        exact growslice_fits (by omega) (by omega)
      have hr := Lib.run_append_grow_zeros (P := P) W t tn ty E i (.int .u64 0) k kn ht htn hi hz ao xs.length cap (xs.map (Value.int .u64)) hold n (by omega) (by omega) (by omega) (by omega) (by rw [hby]; omega) hfit
      have hge := grownCap_ge W (xs.length + n) cap E
      have hcm : grownCap W (xs.length + n) cap E ≤ maxLen := grownCap_le_maxLen W (xs.length + n) cap E (by unfold maxLen; omega)
      refine ⟨some ⟨W.heap.size, 0, none⟩, _, _, by rw [hl]; exact hr, ?_, (Only.drewN _ W 1).same (Only.alloc _ _ _), fun g hg => .inr (by cases hg; exact Nat.le_refl _)⟩
      unfold Row
      rw [hl]
      refine ⟨by simp, .inr ⟨W.heap.size, _, _, rfl, hB, heap_alloc_new W.drew _, hge, hcm, ?_, ?_⟩⟩
      · rw [zeroCells_one, zeroCells_one]
        simp
        omega
      · rw [zeroCells_one, zeroCells_one]
        simp only [Array.toList_append, List.map_append, List.map_replicate]
        exact List.take_left' (by simp)

theorem wp_append_zeros {P : Program} {ops : Array Oper} {rest : List Oper} {o : Oper} {a : Act} {Q : Exit → Act → World → Prop} (hgd : o.guard = none) (s x : Operand) (t tn : TypeId)
    (ho : o.op = .call { callee := .builtin .append, args := #[s, x], argTypes := #[t, tn] })
    (B E : Nat) (i : TypeInfo) (k kn : IntKind) (ht : P.underlying t = some (.slice E)) (htn : P.underlying tn = some (.int kn)) (hi : P.info? E = some i) (hz : i.zero = some (.int .u64 0)) (hsize : i.size = 1) (hby : i.bytes = 8)
    (W : World) (ao : Option Addr) (cap n : Nat) (xs : List Int) (hs : a.eval s = .slice ao xs.length cap) (hrow : Row E B ao cap xs W)
    (hx : a.eval x = .int k n) (hlen : xs.length ≤ 1048576) (hn : n ≤ 1048576) (hB : B ≤ W.heap.size)
    (h : ∀ ao' cap' w', Row E B ao' cap' (xs ++ List.replicate n 0) w' → Only (RowAt ao) W w' → NewRow W.heap.size ao ao' → wpList P ops Q rest (a.put o.dst (.slice ao' (xs ++ List.replicate n 0).length cap')) w') :
    wpList P ops Q (o :: rest) a W := by
  obtain ⟨ao', cap', w', hr, h1, h2, h3⟩ := run_zeros (P := P) W t tn o.type E i k kn ht htn hi hz hsize hby B ao cap n xs hrow hlen hn hB
  exact Lib.wpList_append_run W hgd s x t tn ho _ _ hs hx _ _ hr (h ao' cap' w' h1 h2 h3)
end Go.Proofs.Ythfilpacmllhpaa.rooms
