/- Clauses by generations: the map of the predicates ranged over: what a key is, what an entry is. -/
import Derived.Test.YthfilpacmllhpabBas11
import Derived.Maps.RangeWalk
namespace Go.Proofs.Ythfilpacmllhpab.bases
set_option maxRecDepth 100000
open Go.RowKit Go.Proofs.Ythfilpacmllhpab.own Go.Lib Go.Maps Go.WideMaps Go.Proofs.Ythfilpacmllhpab.idx Go.Proofs.Ythfilpacmllhpab.terms
theorem lit_int {d : Nat} {c : Value} {ls : List Lit} (h : Try.prog.keyLits (d + 1) 3 [c] = some ls) : ∃ a : Int, c = .int .i64 a ∧ ls = [.int .i64 a] ∧ (Lit.int .i64 a).wf = true := by
  unfold Program.keyLits at h
  rw [Try.underlying3] at h
  cases c with
  | int q a =>
    simp only at h
    split at h
    · rename_i e
      obtain ⟨rfl, e2⟩ := e
      simp only [Option.some.injEq] at h
      exact ⟨a, rfl, h.symm, e2⟩
    · cases h
  | _ => simp at h
theorem lit_str {d : Nat} {c : Value} {ls : List Lit} (h : Try.prog.keyLits (d + 1) 9 [c] = some ls) : ∃ s : ByteArray, c = .string s ∧ s.size ≤ maxLen := by
  unfold Program.keyLits at h
  rw [Try.underlying9] at h
  cases c with
  | string s =>
    simp only at h
    split at h
    · rename_i e
      exact ⟨s, rfl, by simpa using e⟩
    · cases h
  | _ => simp at h
theorem invN {key : Value} {kl : Lit} (h : keyOf Try.prog 82 key = some kl) : ∃ k : Nm, key = .agg #[.string k.s, .int .i64 k.a] ∧ kl = keyM k ∧ k.Ok := by
  have h' := h
  unfold keyOf at h
  rw [Try.underlying82] at h
  simp only at h
  split at h
  · rename_i e
    simp only [Bool.and_eq_true] at e
    have e2 := e.2
    cases key with
    | agg cs =>
      simp only [Value.formed, Try.underlying82, cellsN, beq_iff_eq] at e2
      obtain ⟨l⟩ := cs
      obtain ⟨c0, c1, rfl⟩ : ∃ c0 c1, l = [c0, c1] := by
        match l, e2 with
        | [c0, c1], _ => exact ⟨c0, c1, rfl⟩
      rw [Option.map_eq_some_iff] at h
      obtain ⟨ls, hls, _⟩ := h
      obtain ⟨d, hd⟩ : ∃ d, Try.prog.types.size = d + 1 := Nat.exists_eq_succ_of_ne_zero (Nat.ne_of_gt (Nat.lt_of_le_of_lt (Nat.zero_le _) rowN))
      rw [hd] at hls
      have hk : (∃ s : ByteArray, c0 = .string s ∧ s.size ≤ maxLen) ∧ (∃ a, c1 = .int .i64 a ∧ (Lit.int .i64 a).wf = true) := by
        unfold Program.keyLits at hls
        simp only [Try.underlying82, Value.cells, cellsN, cellsI, cellsS, List.length_cons, List.length_nil] at hls
        split at hls
        · cases h0 : Try.prog.keyLits (d + 1) 9 [c0] with
          | none => simp [h0, cellsI, cellsS] at hls
          | some l0 =>
            cases h1 : Try.prog.keyLits (d + 1) 3 [c1] with
            | none => simp [h0, h1, cellsI, cellsS] at hls
            | some l1 =>
              obtain ⟨n, en, _, wn⟩ := lit_int h1
              exact ⟨lit_str h0, ⟨n, en, wn⟩⟩
        · cases hls
      obtain ⟨⟨s, rfl, ws⟩, ⟨a, rfl, wa⟩⟩ := hk
      have hok : Nm.Ok ⟨s, a⟩ := ⟨ws, wa⟩
      have := keyOfM hok
      rw [show (Value.agg ⟨[.string s, .int .i64 a]⟩) = nmV ⟨s, a⟩ from rfl, this] at h'
      simp only [Option.some.injEq] at h'
      exact ⟨⟨s, a⟩, rfl, h'.symm, hok⟩
    | _ => simp [Value.formed, Try.underlying82] at e2
  · cases h
/-- An entry of the map is a predicate at its box. -/
theorem NsMap.entry {D : D3} {ns : Ns} (h : NsMap D ns) {kl : Lit} (hh : Maps.has D kl = true) : ∃ p ∈ ns, kl = keyM p.1 := by
  obtain ⟨es, rfl, hp⟩ := h
  rw [Maps.has_eq, List.any_eq_true] at hh
  obtain ⟨p, hp2, e⟩ := hh
  obtain ⟨q, hq, rfl⟩ := mem_nsP.1 (hp.mem_iff.1 hp2)
  exact ⟨q, hq, (WideAt.sameKey_eq e).symm⟩
theorem pbR_val {v : Value} {y : D3 × List MemPlace} (h : pbR v = some y) : ∃ o : Option Nat, v = pbV o := by
  unfold pbR at h
  split at h
  · exact ⟨some _, rfl⟩
  · exact ⟨none, rfl⟩
  · cases h
theorem pbR_box {o : Option Nat} {y : D3 × List MemPlace} {b : Nat} (h : pbR (pbV o) = some y) (e : DataW.held (H := Nat) (b + 1) = y.1) : o = some b := by
  cases o with
  | none =>
    simp only [pbV, Option.map_none, pbR, Option.some.injEq] at h
    rw [← h] at e
    simp at e
  | some c =>
    simp only [pbV, Option.map_some, pbR, Option.some.injEq] at h
    rw [← h] at e
    simp only [DataW.held.injEq, Nat.add_right_cancel_iff] at e
    rw [e]
theorem ranges_only {S : Nat → Prop} {w w' : World} {m : Nat} {P : Program} {k : TypeId} {R : Value → Option (D3 × List MemPlace)} {r n cnt : Nat} {D : D3} {left : Lit → Bool} (h : w.ranges P k R m r n D left cnt) (ho : Only S w w') (hm : ¬ S m) (hr : ¬ S r) : w'.ranges P k R m r n D left cnt := by
  have h1 := h.owns.lt
  have h2 := h.lt
  obtain ⟨es, clock, since, seen, c0, hb, F, hs, hD, hi, h3⟩ := h
  exact ⟨es, clock, since, seen, c0, (ho.block m h1 hm).trans hb, F, hs, hD, (ho.block r h2 hr).trans hi, h3⟩
/-- What Preds tells of a predicate. -/
structure Pd where
  nm : Nm
  lv : Int
def encPd (x : Pd) : List Value := [.string x.nm.s, .int .i64 x.nm.a, .int .i64 x.lv]
theorem liesPd : Lies encPd 3 := ⟨fun _ => rfl, by
  intro x u hu
  simp [encPd] at hu
  rcases hu with rfl | rfl | rfl <;> rfl, by omega⟩
def pdF (p : Pc) : Pd := ⟨p.nm, p.lv⟩
/-- Those that were met. -/
def metPs (ps : List Pc) (left : Lit → Bool) : List Pd := (ps.filter (fun p => !left (keyM p.nm))).map pdF
section
variable {ps : List Pc} {p : Pc} {left : Lit → Bool}
theorem metPs_none {D : D3} (h : NsMap D (ps.map (fun p => (p.nm, p.pb)))) : metPs ps (Maps.has D) = [] := by
  unfold metPs
  have : ps.filter (fun p => !(Maps.has D (keyM p.nm))) = [] := by
    rw [List.filter_eq_nil_iff]
    intro p hp
    rw [h.has_yes (p := (p.nm, p.pb)) (List.mem_map.2 ⟨p, hp, rfl⟩)]
    simp
  rw [this]
  rfl
theorem metPs_all (h : ∀ z, left z = false) : metPs ps left = ps.map pdF := by
  unfold metPs
  have : ps.filter (fun p => !(left (keyM p.nm))) = ps := by
    rw [List.filter_eq_self]
    intro p _
    rw [h]; rfl
  rw [this]
theorem metPs_step (hA : NsOk (ps.map (fun p => (p.nm, p.pb)))) (hp : p ∈ ps) (hl : left (keyM p.nm) = true) : (metPs ps (fun z => left z && !z.sameKey (keyM p.nm))).Perm (metPs ps left ++ [pdF p]) := by
  obtain ⟨A, C, rfl⟩ := List.append_of_mem hp
  have hne : ∀ q ∈ A ++ C, q.nm ≠ p.nm := fun q hq e => by
    have h1 := hA.one
    rw [List.map_append, List.map_cons, List.pairwise_append] at h1
    obtain ⟨_, h2, h3⟩ := h1
    rcases List.mem_append.1 hq with hq | hq
    · exact h3 (q.nm, q.pb) (List.mem_map.2 ⟨q, hq, rfl⟩) (p.nm, p.pb) (by simp) e
    · exact (List.pairwise_cons.1 h2).1 (q.nm, q.pb) (List.mem_map.2 ⟨q, hq, rfl⟩) e.symm
  have hok : ∀ q ∈ A ++ p :: C, q.nm.Ok := fun q hq => hA.ok (q.nm, q.pb) (List.mem_map.2 ⟨q, hq, rfl⟩)
  have hpk := hok p (by simp)
  have hf : ∀ L : List Pc, (∀ q ∈ L, q ∈ A ++ C) → L.filter (fun q => !((fun z => left z && !z.sameKey (keyM p.nm)) (keyM q.nm))) = L.filter (fun q => !left (keyM q.nm)) := fun L hL => by
    refine List.filter_congr (fun q hq => ?_)
    have h1 : (keyM q.nm).sameKey (keyM p.nm) = false := by
      rw [Bool.eq_false_iff]
      intro e
      have hqm : q ∈ A ++ p :: C := by
        rcases List.mem_append.1 (hL q hq) with h | h
        · simp [h]
        · simp [h]
      exact hne q (hL q hq) (keyM_inj (hok q hqm) hpk (WideAt.sameKey_eq e))
    simp [h1]
  unfold metPs
  simp only [List.filter_append, List.filter_cons, hl]
  rw [hf A (fun q h => by simp [h]), hf C (fun q h => by simp [h])]
  have hself : (keyM p.nm).sameKey (keyM p.nm) = true := WideAt.sameKey_self (keyM_key _)
  simp only [hself, Bool.not_true, Bool.and_false, Bool.not_false, if_true, Bool.false_eq_true, if_false]
  simp only [List.map_append, List.map_cons]
  rw [List.append_assoc]
  refine List.Perm.append_left _ ?_
  exact (List.perm_append_singleton (pdF p) _).symm
end
end Go.Proofs.Ythfilpacmllhpab.bases
