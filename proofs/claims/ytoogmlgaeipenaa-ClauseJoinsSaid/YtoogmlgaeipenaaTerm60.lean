
/- Terms: a set of rows, each known by the address of its first item and its length: what is asked of it may be drawn. -/
import Derived.Test.YtoogmlgaeipenaaTermA
import Derived.LaidEqlPtr
import Derived.ChangeKeysEq
import Derived.Maps.OwnOps
import Derived.Maps.RangeRun
import Derived.MapKept
import Derived.KernelRfl
namespace Go.Proofs.Ytoogmlgaeipenaa.terms
open Go.RowKit Go.Proofs.Ytoogmlgaeipenaa.own Go.Maps Go.ChangeMaps
/-- An address whose cell is not frozen. -/
structure Cold (w : World) (p : Addr) : Prop where
  blk : ∃ cs ty fr, w.heap[p.block]? = some (.cells cs ty fr)
  free : w.frozen? p = false
theorem Cold.only {w w' : World} {p : Addr} {S : Nat → Prop} (h : Cold w p) (ho : Only S w w') (hS : ¬ S p.block) : Cold w' p := by
  obtain ⟨cs, ty, fr, hb⟩ := h.blk
  have hlt := lt_of_block hb
  exact ⟨⟨cs, ty, fr, by rw [ho.block _ hlt hS]; exact hb⟩, by rw [ho.frozen hlt hS]; exact h.free⟩
theorem sameAddr_cold (P : Program) {w : World} {a b : Addr} (ha : Cold w a) (hb : Cold w b) : ∃ r q, (sameAddr a b).run P w = .ok r (w.drewN q) := by
  obtain ⟨ca, ta, fa, ha1⟩ := ha.blk
  obtain ⟨cb, tb, fb, hb1⟩ := hb.blk
  by_cases hbl : a.block = b.block
  · refine ⟨a == b, 0, ?_⟩
    simp [sameAddr, hbl, World.drewN]
  · have fa0 := ha.free
    have fb0 := hb.free
    obtain ⟨X, hX⟩ : ∃ X, X = (sameAddr a b).run P w := ⟨_, rfl⟩
    rw [← hX]
    simp only [sameAddr, noView, viewAt, mayBeOne, stringish] at hX
    simp [hbl, fa0, fb0, World.shape?, ha1, hb1] at hX
    repeat' split at hX
    all_goals first
      | exact ⟨_, 0, hX⟩
      | exact ⟨_, 1, hX⟩
/-- A row's key. -/
def keyR (p : Addr) (n : Int) : Value := .agg #[.pointer (some p), .int .i64 n]
theorem equal_cold {w : World} {a b : Addr} (n m : Int) (ha : Cold w a) (hb : Cold w b) : ∃ r q, (Op.equal 148 (keyR a n) (keyR b m)).run Try.prog w = .ok r (w.drewN q) := by
  obtain ⟨r, q, h⟩ := sameAddr_cold Try.prog ha hb
  have h2 : ∀ d, (Op.equalIn (d + 1) 146 (.pointer (some a)) (.pointer (some b))).run Try.prog w = .ok r (w.drewN q) := fun d => by
    obtain ⟨i0, hi, hz⟩ : ∃ i, Try.prog.info? 24 = some i ∧ i.size = 4 := by
      have := infoT
      cases hi : Try.prog.info? 24 with
      | none => rw [hi] at this; cases this
      | some i => rw [hi] at this; simp at this; exact ⟨i, rfl, this.2.1⟩
    simp [Op.equalIn, run_underlying Try.underlying146, sizeOf, typeInfo, h, hi, hz]
  have h3 : ∀ d w', (Op.equalIn (d + 1) 3 (.int .i64 n) (.int .i64 m)).run Try.prog w' = .ok (n == m) w' := fun d w' => by
    simp [Op.equalIn, run_underlying Try.underlying3]
  obtain ⟨X, hX⟩ : ∃ X, X = (Op.equal 148 (keyR a n) (keyR b m)).run Try.prog w := ⟨_, rfl⟩
  rw [← hX]
  unfold Op.equal at hX
  rw [show Op.maxDepth = 9998 + 1 + 1 from rfl] at hX
  unfold Op.equalIn at hX
  have p0 : ∀ (x y : Value) w', (part 146 #[x, y] 0).run Try.prog w' = .ok x w' := fun x y w' => by simp [part, isAgg, run_underlying Try.underlying146]
  have p1 : ∀ (x y : Value) w', (part 3 #[x, y] 1).run Try.prog w' = .ok y w' := fun x y w' => by simp [part, isAgg, run_underlying Try.underlying3]
  have h2' : (Op.equalIn 9999 146 (.pointer (some a)) (.pointer (some b))).run Try.prog w = .ok r (w.drewN q) := h2 9998
  have h3' : ∀ w', (Op.equalIn 9999 3 (.int .i64 n) (.int .i64 m)).run Try.prog w' = .ok (n == m) w' := h3 9998
  simp [keyR, run_underlying Try.underlying148, p0, p1, h2', h3'] at hX
  cases r
  · exact ⟨_, q, by simpa using hX⟩
  · by_cases hnm : n = m
    · exact ⟨_, q, by simpa [hnm] using hX⟩
    · exact ⟨_, q, by simpa [hnm] using hX⟩
theorem findAsking_cold (n : Int) {p : Addr} (es : List MapEntry) : ∀ (w : World) (i : Nat), Cold w p → (∀ e ∈ es, ∃ a m, e.key = keyR a m ∧ Cold w a) →
    ∃ r q, (Instr.findAsking 148 (keyR p n) es i).run Try.prog w = .ok r (w.drewN q) ∧ ∀ j v, r = some (j, v) → ∃ e ∈ es, e.val = v := by
  induction es with
  | nil => intro w i _ _; exact ⟨none, 0, by simp [Instr.findAsking, World.drewN], by simp⟩
  | cons e es ih =>
    intro w i hp hes
    obtain ⟨a, m, he, ha⟩ := hes e (by simp)
    obtain ⟨r, q, h⟩ := equal_cold n m hp ha
    cases r with
    | true =>
      refine ⟨some (i, e.val), q, ?_, fun j v hj => ⟨e, by simp, by cases hj; rfl⟩⟩
      simp [Instr.findAsking, he, h]
    | false =>
      have ho : Only (fun _ => False) w (w.drewN q) := Only.drewN _ _ _
      obtain ⟨r2, q2, h2, h3⟩ := ih (w.drewN q) (i + 1) (hp.only ho (fun e => e)) (fun e' he' => by
        obtain ⟨a', m', h1, h2⟩ := hes e' (by simp [he'])
        exact ⟨a', m', h1, h2.only ho (fun e => e)⟩)
      refine ⟨r2, q + q2, ?_, fun j v hj => ?_⟩
      · simp [Instr.findAsking, he, h, h2]
      · obtain ⟨e', he', hv⟩ := h3 j v hj
        exact ⟨e', by simp [he'], hv⟩
theorem findKey_cold (n : Int) {p : Addr} (es : List MapEntry) (w : World) (hp : Cold w p) (hes : ∀ e ∈ es, ∃ a m, e.key = keyR a m ∧ Cold w a) :
    ∃ r q, (Instr.findKey 148 (keyR p n) es).run Try.prog w = .ok r (w.drewN q) ∧ ∀ j v, r = some (j, v) → ∃ e ∈ es, e.val = v := by
  cases es with
  | nil => exact ⟨none, 0, by simp [Instr.findKey, Instr.findNow, run_underlying Try.underlying148, World.drewN], by simp⟩
  | cons e es =>
    obtain ⟨r, q, h, h2⟩ := findAsking_cold n (e :: es) w 0 hp hes
    refine ⟨r, q, ?_, h2⟩
    simp [Instr.findKey, Instr.findNow, Instr.sameNow, run_underlying Try.underlying148, h]
/-- A set of rows, at block m: every key's address is cold, and in a block below B. -/
def SetC (B m : Nat) (w : World) : Prop := ∃ es clock, w.heap[m]? = some (.map es clock) ∧ ∀ e ∈ es.toList, e.val = .agg #[] ∧ ∃ a n, e.key = keyR a n ∧ Cold w a ∧ a.block < B
theorem checkKey_row (em : Bool) (p : Addr) (n : Int) (w : World) : (Instr.checkKey em 10000 148 (keyR p n)).run Try.prog w = .ok () w := by
  have p0 : ∀ (x y : Value) w', (part 146 #[x, y] 0).run Try.prog w' = .ok x w' := fun x y w' => by simp [part, isAgg, run_underlying Try.underlying146]
  have p1 : ∀ (x y : Value) w', (part 3 #[x, y] 1).run Try.prog w' = .ok y w' := fun x y w' => by simp [part, isAgg, run_underlying Try.underlying3]
  have k0 : ∀ w', (Instr.checkKey em 9999 146 (.pointer (some p))).run Try.prog w' = .ok () w' := fun w' => by
    rw [show (9999 : Nat) = 9998 + 1 from rfl, Instr.checkKey]
    simp [run_underlying Try.underlying146]
  have k1 : ∀ w', (Instr.checkKey em 9999 3 (.int .i64 n)).run Try.prog w' = .ok () w' := fun w' => by
    rw [show (9999 : Nat) = 9998 + 1 from rfl, Instr.checkKey]
    simp [run_underlying Try.underlying3]
  rw [show (10000 : Nat) = 9999 + 1 from rfl, Instr.checkKey]
  simp [keyR, run_underlying Try.underlying148, p0, p1, k0, k1]
theorem lookup_cold {B m : Nat} {w : World} (h : SetC B m w) {p : Addr} (n : Int) (hp : Cold w p) : ∃ b q, (Instr.lookup 128 (.map (some m)) (keyR p n) true).run Try.prog w = .ok (.tuple #[.agg #[], .bool b]) (w.drewN q) := by
  obtain ⟨es, clock, hb, hes⟩ := h
  obtain ⟨r, q, hr, hv⟩ := findKey_cold n es.toList w hp (fun e he => by obtain ⟨_, a, m, h1, h2, _⟩ := hes e he; exact ⟨a, m, h1, h2⟩)
  have hz : ∀ w' : World, (zeroValue 149).run Try.prog w' = .ok (.agg #[]) w' := fun w' => by kernel_rfl
  cases r with
  | none =>
    refine ⟨false, q, ?_⟩
    simp [Instr.lookup, run_underlying Try.underlying128, Go.MapKept.run_getObj_map hb, checkKey_row, hr, hz]
  | some x =>
    obtain ⟨e, he, hval⟩ := hv x.1 x.2 rfl
    have := (hes e he).1
    rw [hval] at this
    refine ⟨true, q, ?_⟩
    simp [Instr.lookup, run_underlying Try.underlying128, Go.MapKept.run_getObj_map hb, checkKey_row, hr, this]
theorem SetC.only {B m : Nat} {w w' : World} {S : Nat → Prop} (h : SetC B m w) (ho : Only S w w') (hm : ¬ S m) (hS : ∀ k, k < B → ¬ S k) : SetC B m w' := by
  obtain ⟨es, clock, hb, hes⟩ := h
  refine ⟨es, clock, by rw [ho.block _ (lt_of_block hb) hm]; exact hb, fun e he => ⟨(hes e he).1, ?_⟩⟩
  obtain ⟨a, n, hk, hc, hB⟩ := (hes e he).2
  exact ⟨a, n, hk, hc.only ho (hS _ hB), hB⟩
theorem Cold.not_map {w : World} {p : Addr} {m : Nat} {es : Array MapEntry} {clock : Nat} (h : Cold w p) (hb : w.heap[m]? = some (.map es clock)) : p.block ≠ m := by
  rintro rfl
  obtain ⟨cs, ty, fr, hc⟩ := h.blk
  rw [hb] at hc
  cases hc
theorem stays_run (P : Program) (old new : Value) (w : World) : ∃ k q, (Instr.keyThatStays old new).run P w = .ok k (w.drewN q) ∧ (k = old ∨ k = new) := by
  obtain ⟨X, hX⟩ : ∃ X, X = (Instr.keyThatStays old new).run P w := ⟨_, rfl⟩
  rw [← hX]
  simp only [Instr.keyThatStays] at hX
  split at hX
  · exact ⟨new, 0, hX, .inr rfl⟩
  · simp at hX
    repeat' split at hX
    all_goals first
      | exact ⟨new, 0, hX, .inr rfl⟩
      | exact ⟨new, 1, hX, .inr rfl⟩
      | exact ⟨old, 1, hX, .inl rfl⟩
      | exact ⟨old, 0, hX, .inl rfl⟩
theorem SetC.put {B m : Nat} {w : World} {es es' : Array MapEntry} {clock clock' : Nat} (q : Nat) (hb : w.heap[m]? = some (.map es clock)) (hes : ∀ e ∈ es'.toList, e.val = .agg #[] ∧ ∃ a n, e.key = keyR a n ∧ Cold w a ∧ a.block < B) : SetC B m (setBlock (w.drewN q) m (.map es' clock')) ∧ Only (fun k => k = m) w (setBlock (w.drewN q) m (.map es' clock')) := by
  have hbq : (w.drewN q).heap[m]? = some (.map es clock) := hb
  have ho : Only (fun k => k = m) w (setBlock (w.drewN q) m (.map es' clock')) := ⟨rfl, rfl, rfl, by simp [setBlock, World.drewN], fun k _ hk => heap_setBlock_other hbq _ hk⟩
  refine ⟨⟨es', clock', heap_setBlock_same hbq _, fun e he => ⟨(hes e he).1, ?_⟩⟩, ho⟩
  obtain ⟨a, n, hk, hc, hB⟩ := (hes e he).2
  exact ⟨a, n, hk, hc.only ho (hc.not_map hb), hB⟩
theorem update_cold {B m : Nat} {w : World} (h : SetC B m w) {p : Addr} (n : Int) (hp : Cold w p) (hpB : p.block < B) :
    ∃ w', (Instr.mapUpdate 128 (.map (some m)) (keyR p n) (.agg #[])).run Try.prog w = .ok () w' ∧ SetC B m w' ∧ Only (fun k => k = m) w w' := by
  obtain ⟨es, clock, hb, hes⟩ := h
  obtain ⟨r, q, hr, hv⟩ := findKey_cold n es.toList w hp (fun e he => by obtain ⟨_, a, m, h1, h2, _⟩ := hes e he; exact ⟨a, m, h1, h2⟩)
  have hbq : (w.drewN q).heap[m]? = some (.map es clock) := hb
  cases r with
  | none =>
    refine ⟨setBlock (w.drewN q) m (.map (es.push { key := keyR p n, val := .agg #[], born := clock }) (clock + 1)), ?_, SetC.put q hb (fun e he => ?_)⟩
    · simp [Instr.mapUpdate, run_underlying Try.underlying128, Go.MapKept.run_getObj_map hb, checkKey_row, hr, Go.MapKept.run_setObj_map _ hbq, setBlock]
    · simp only [Array.toList_push, List.mem_append, List.mem_singleton] at he
      rcases he with he | rfl
      · exact hes e he
      · exact ⟨rfl, p, n, rfl, hp, hpB⟩
  | some x =>
    obtain ⟨j, v⟩ := x
    obtain ⟨k, q2, hk, hkv⟩ := stays_run Try.prog (((es[j]?).map (·.key)).getD (keyR p n)) (keyR p n) (w.drewN q)
    have hbq2 : (w.drewN (q + q2)).heap[m]? = some (.map es clock) := hb
    have hkk : ∃ a n', k = keyR a n' ∧ Cold w a ∧ a.block < B := by
      rcases hkv with rfl | rfl
      · cases hj : es[j]? with
        | none => exact ⟨p, n, rfl, hp, hpB⟩
        | some e0 => exact (hes e0 (by rw [← Array.getElem?_toList] at hj; exact List.mem_of_getElem? hj)).2
      · exact ⟨p, n, rfl, hp, hpB⟩
    refine ⟨setBlock (w.drewN (q + q2)) m (.map (es.modify j fun e => { e with key := k, val := .agg #[] }) clock), ?_, SetC.put (q + q2) hb (fun e he => ?_)⟩
    · simp [Instr.mapUpdate, run_underlying Try.underlying128, Go.MapKept.run_getObj_map hb, checkKey_row, hr, hk, Go.MapKept.run_setObj_map _ hbq2, setBlock]
      try rw [Go.MapKept.run_setObj_map _ hbq2]
      try rfl
    · rw [Array.toList_modify] at he
      obtain ⟨i, hi⟩ := List.getElem?_of_mem he
      rw [List.getElem?_modify] at hi
      cases hx : es.toList[i]? with
      | none => rw [hx] at hi; cases hi
      | some e0 =>
        rw [hx] at hi
        by_cases hji : j = i
        · simp [hji] at hi
          rw [← hi]
          exact ⟨rfl, hkk⟩
        · simp [hji] at hi
          rw [← hi]
          exact hes _ (List.mem_of_getElem? hx)
/-- The look-up at the operation: behind it 'intro v q'. -/
theorem wpList_lookup_cold (w : World) {ops : Array Oper} {rest : List Oper} {o : Oper} {a : Act} {Q : Exit → Act → World → Prop}
    (hg : o.guard = none) (mo x : Operand) (hop : o.op = Op.lookup 128 mo x true) (B m : Nat) (hm : a.eval mo = .map (some m)) (h : SetC B m w) (p : Addr) (n : Int) (hx : a.eval x = keyR p n) (hp : Cold w p)
    (hK : ∀ v q, wpList Try.prog ops Q rest (a.put o.dst (.tuple #[.agg #[], .bool v])) (w.drewN q)) : wpList Try.prog ops Q (o :: rest) a w := by
  refine wpList_plain hg fun K' hK' => ?_
  obtain ⟨v, q, hrun⟩ := lookup_cold h n hp
  unfold Oper.wp
  simp [execOp, hop, hm, hx, hrun, Result.andThen]
  exact hK' _ _ (hK v q)
/-- The store at the operation: behind it 'intro w1 hset1 ho1'. -/
theorem wpList_update_cold (w : World) {ops : Array Oper} {rest : List Oper} {o : Oper} {a : Act} {Q : Exit → Act → World → Prop}
    (hg : o.guard = none) (mo x v : Operand) (hop : o.op = Op.mapUpdate 128 mo x v) (B m : Nat) (hm : a.eval mo = .map (some m)) (h : SetC B m w) (p : Addr) (n : Int) (hx : a.eval x = keyR p n) (hv : a.eval v = .agg #[]) (hp : Cold w p) (hpB : p.block < B)
    (hK : ∀ w', SetC B m w' → Only (fun k => k = m) w w' → wpList Try.prog ops Q rest (a.put o.dst undef) w') : wpList Try.prog ops Q (o :: rest) a w := by
  refine wpList_plain hg fun K' hK' => ?_
  obtain ⟨w', hrun, h1, h2⟩ := update_cold h n hp hpB
  unfold Oper.wp
  simp [execOp, hop, hm, hx, hv, hrun, Result.andThen]
  exact hK' _ _ (hK w' h1 h2)
end Go.Proofs.Ytoogmlgaeipenaa.terms
