/- Clauses by generations: a predicate's name and arity as a map's key; a table of entries and the blocks that it owns. -/
import Derived.Test.YthfilpacmllhpabIdxC
namespace Go.Proofs.Ythfilpacmllhpab.bases
set_option maxRecDepth 100000
open Go.RowKit Go.Proofs.Ythfilpacmllhpab.own Go.Lib Go.Maps Go.WideMaps Go.Proofs.Ythfilpacmllhpab.idx
/-- A predicate's name, and how many arguments. -/
structure Nm where
  s : ByteArray
  a : Int
abbrev nmV (k : Nm) : Value := .agg #[.string k.s, .int .i64 k.a]
structure Nm.Ok (x : Nm) : Prop where
  s : x.s.size ≤ maxLen
  a : Fit x.a
theorem Nm.eq {x y : Nm} (h1 : x.s = y.s) (h2 : x.a = y.a) : x = y := by
  cases x; cases y; simp_all
theorem rowN : (82 : TypeId) < Try.prog.types.size := of_decide_eq_true (by kernel_rfl)
theorem wideN : (match Try.prog.underlying 82 with | some (.array _ _) | some (.struct _) => true | _ => false) = true := by rw [Try.underlying82]
theorem lawN : KeyLaw Try.prog 82 := deep_law_laid laidOut (m := 2) (by omega) rowN (by kernel_rfl) wideN
theorem keyedN : Keyed Try.prog 82 := Keyed.of_law lawN
theorem cellsN : Try.prog.cellsOf 82 = 2 := by kernel_rfl
theorem formedN {c0 c1 : Value} : (Value.agg #[c0, c1]).formed Try.prog 82 = true := by simp [Value.formed, Try.underlying82, cellsN]
theorem litsN {k : Nm} (h : k.Ok) : Try.prog.keyLits (Try.prog.types.size + 1) 82 (nmV k).cells.toList = some [.string k.s.data.toList, .int .i64 k.a] := by
  obtain ⟨m, hm⟩ : ∃ m, Try.prog.types.size = m + 1 := Nat.exists_eq_succ_of_ne_zero (Nat.ne_of_gt (Nat.lt_of_le_of_lt (Nat.zero_le _) rowN))
  have w1 : (Lit.int .i64 k.a).wf = true := h.a
  have w3 : k.s.size ≤ maxLen := h.s
  rw [hm]
  simp [nmV, Value.cells, Program.keyLits, Try.underlying82, Try.underlying3, Try.underlying9, cellsN, cellsI, cellsS, w1, w3]
def keyM (k : Nm) : Lit := .string (keyBytes [.string k.s.data.toList, .int .i64 k.a])
theorem keyOfM {k : Nm} (h : k.Ok) : keyOf Try.prog 82 (nmV k) = some (keyM k) := by
  unfold keyOf
  rw [Try.underlying82]
  have h1 : Try.prog.keyType 82 = true := by kernel_rfl
  have h2 : (nmV k).formed Try.prog 82 = true := formedN
  simp only [h1, h2, Bool.and_self, if_true, litsN h, Option.map_some]
  rfl
theorem keyM_inj {a b : Nm} (ha : a.Ok) (hb : b.Ok) (h : keyM a = keyM b) : a = b := by
  have h1 := keyOfM ha
  have h2 := keyOfM hb
  rw [← h] at h2
  have e := keyedN.inj h1 h2
  simp only [nmV, Value.agg.injEq, Array.mk.injEq, List.cons.injEq, Value.int.injEq, Value.string.injEq, and_true, true_and] at e
  exact Nm.eq e.1 e.2
theorem keyM_key (k : Nm) : WideAt.IsKeyLit (keyM k) := by trivial
/-! ### The map of the predicates: where each one's box is -/
abbrev D3 := DataW Nat
def pbR : Value → Option (D3 × List MemPlace)
  | .pointer (some ⟨b, 0, none⟩) => some (.held (b + 1), [])
  | .pointer none => some (.held 0, [])
  | _ => none
theorem pbR_mk (b : Nat) : pbR (.pointer (some ⟨b, 0, none⟩)) = some (.held (b + 1), []) := rfl
theorem pbR_inv {v : Value} {b : Nat} {ps : List MemPlace} (h : pbR v = some (.held (b + 1), ps)) : v = .pointer (some ⟨b, 0, none⟩) := by
  unfold pbR at h
  split at h
  · simp only [Option.some.injEq, Prod.mk.injEq, DataW.held.injEq, Nat.add_right_cancel_iff] at h
    rw [h.1]
  · simp at h
  · cases h
theorem pbR_nil {v : Value} {ps : List MemPlace} (h : pbR v = some (.held 0, ps)) : v = .pointer none := by
  unfold pbR at h
  split at h
  · simp at h
  · rfl
  · cases h
/-- Names and boxes. -/
abbrev Ns := List (Nm × Nat)
def nsP (ns : Ns) : List (Lit × D3) := ns.map (fun p => (keyM p.1, .held (p.2 + 1)))
def NsMap (D : D3) (ns : Ns) : Prop := ∃ es, D = .map es ∧ es.Perm (nsP ns)
structure NsOk (ns : Ns) : Prop where
  ok : ∀ p ∈ ns, p.1.Ok
  one : ns.Pairwise (fun p q => p.1 ≠ q.1)
theorem mem_nsP {ns : Ns} {p : Lit × D3} : p ∈ nsP ns ↔ ∃ q ∈ ns, p = (keyM q.1, .held (q.2 + 1)) := by
  unfold nsP
  rw [List.mem_map]
  exact ⟨fun ⟨e, h, h'⟩ => ⟨e, h, h'.symm⟩, fun ⟨e, h, h'⟩ => ⟨e, h, h'.symm⟩⟩
theorem nsP_apart {ns : Ns} (h : NsOk ns) : (nsP ns).Pairwise (fun p q => p.1 ≠ q.1) := by
  unfold nsP
  rw [List.pairwise_map]
  exact List.Pairwise.imp_of_mem (fun {a b} ha hb hab e => hab (keyM_inj (h.ok a ha) (h.ok b hb) e)) h.one
theorem NsMap.empty : NsMap (.map []) [] := ⟨[], rfl, List.Perm.refl _⟩
theorem NsMap.size {D : D3} {ns : Ns} (h : NsMap D ns) : Maps.size D = ns.length := by
  obtain ⟨es, rfl, hp⟩ := h
  have := hp.length_eq
  unfold nsP at this
  rw [List.length_map] at this
  exact this
theorem NsMap.at_yes {D : D3} {ns : Ns} (h : NsMap D ns) (hA : NsOk ns) {p : Nm × Nat} (hp : p ∈ ns) (z : D3) : D.atKey (keyM p.1) z = .held (p.2 + 1) := by
  obtain ⟨es, rfl, he⟩ := h
  exact WideAt.atKey_mem z (keyM_key _) ((he.pairwise_iff (fun {a b} (h : a.1 ≠ b.1) => h.symm)).2 (nsP_apart hA)) (he.mem_iff.2 (mem_nsP.2 ⟨p, hp, rfl⟩))
theorem NsMap.at_no {D : D3} {ns : Ns} (h : NsMap D ns) (hA : NsOk ns) {k : Nm} (hk : k.Ok) (hn : ∀ p ∈ ns, p.1 ≠ k) (z : D3) : D.atKey (keyM k) z = z := by
  obtain ⟨es, rfl, he⟩ := h
  refine WideAt.atKey_none z ?_
  intro p hp' e
  obtain ⟨x, hx, rfl⟩ := mem_nsP.1 (he.mem_iff.1 hp')
  exact hn x hx (keyM_inj (hA.ok x hx) hk e)
theorem NsMap.has_yes {D : D3} {ns : Ns} (h : NsMap D ns) {p : Nm × Nat} (hp : p ∈ ns) : Maps.has D (keyM p.1) = true := by
  obtain ⟨es, rfl, he⟩ := h
  rw [Maps.has_eq, List.any_eq_true]
  exact ⟨(keyM p.1, .held (p.2 + 1)), he.mem_iff.2 (mem_nsP.2 ⟨p, hp, rfl⟩), WideAt.sameKey_self (keyM_key _)⟩
theorem NsMap.has_no {D : D3} {ns : Ns} (h : NsMap D ns) (hA : NsOk ns) {k : Nm} (hk : k.Ok) (hn : ∀ p ∈ ns, p.1 ≠ k) : Maps.has D (keyM k) = false := by
  obtain ⟨es, rfl, he⟩ := h
  rw [Maps.has_eq, List.any_eq_false]
  intro p hp' e
  obtain ⟨x, hx, rfl⟩ := mem_nsP.1 (he.mem_iff.1 hp')
  exact hn x hx (keyM_inj (hA.ok x hx) hk (WideAt.sameKey_eq e))
theorem NsMap.put {D : D3} {ns : Ns} (h : NsMap D ns) (hA : NsOk ns) {k : Nm} (hk : k.Ok) (hn : ∀ p ∈ ns, p.1 ≠ k) (pb : Nat) : NsMap (D.put (keyM k) (.held (pb + 1))) ((k, pb) :: ns) := by
  obtain ⟨es, rfl, hp⟩ := h
  refine ⟨_, DataW.put_eq _ _ _, ?_⟩
  have hf : es.filter (Go.ChangeMaps.notKey (keyM k)) = es := by
    rw [List.filter_eq_self]
    intro p hp2
    rw [notKey_iff (keyM_key _)]
    intro e'
    obtain ⟨x, hx, rfl⟩ := mem_nsP.1 (hp.mem_iff.1 hp2)
    exact hn x hx (keyM_inj (hA.ok x hx) hk e')
  unfold Go.ChangeMaps.putKey
  rw [hf]
  exact (WideShapes.insert_perm _ _).trans (hp.cons _)
/-- The box of a name. -/
def nsF (k : Nm) (ns : Ns) : Option Nat := (ns.find? (fun p => p.1.s.data.toList == k.s.data.toList && p.1.a == k.a)).map (·.2)
theorem eqN_iff {x k : Nm} : (x.s.data.toList == k.s.data.toList && x.a == k.a) = true ↔ x = k := by
  simp only [Bool.and_eq_true, beq_iff_eq]
  exact ⟨fun h => Nm.eq (ba_lists h.1) h.2, fun h => by subst h; exact ⟨rfl, rfl⟩⟩
theorem nsF_some {k : Nm} {ns : Ns} {pb : Nat} (h : nsF k ns = some pb) : (k, pb) ∈ ns := by
  unfold nsF at h
  obtain ⟨p, hp, rfl⟩ := Option.map_eq_some_iff.1 h
  have h1 := List.find?_some hp
  have h2 := List.mem_of_find?_eq_some hp
  rw [eqN_iff] at h1
  rw [← h1]
  exact h2
theorem nsF_none {k : Nm} {ns : Ns} (h : nsF k ns = none) : ∀ p ∈ ns, p.1 ≠ k := fun p hp e => by
  unfold nsF at h
  have h1 := List.find?_eq_none.1 (Option.map_eq_none_iff.1 h) p hp
  rw [eqN_iff] at h1
  exact h1 e
theorem nsF_mem {k : Nm} {ns : Ns} {pb : Nat} (hA : NsOk ns) (h : (k, pb) ∈ ns) : nsF k ns = some pb := by
  cases hc : nsF k ns with
  | none => exact absurd rfl (nsF_none hc _ h)
  | some q =>
    have h2 := nsF_some hc
    by_cases e : (k, pb) = (k, q)
    · injection e with _ e; rw [e]
    · exact absurd rfl (pairs (R := fun p q : Nm × Nat => p.1 ≠ q.1) (fun _ _ h => h.symm) hA.one (k, pb) h (k, q) h2 e)
theorem zeroPb (w : World) : (zeroValue 85).run Try.prog w = .ok (.pointer none) w := by
  have h : (Try.prog.info? 85).map (fun i => (i.zero, i.size, i.bytes)) = some (some (.pointer none), 1, 8) := by kernel_rfl
  obtain ⟨i0, hi0, hz0, _⟩ := info_parts h
  simp [zeroValue, typeInfo, hi0, hz0]
/-- What a look-up answers. -/
def pbV (o : Option Nat) : Value := .pointer (o.map (fun b => (⟨b, 0, none⟩ : Addr)))
theorem look_ns {pm n : Nat} {D : D3} {ns : Ns} {W : World} (hm : W.ownsMap Try.prog 82 pbR pm n D) (hl : NsMap D ns) (hA : NsOk ns) {k : Nm} (hk : k.Ok) : (Instr.lookup 77 (.map (some pm)) (nmV k) false).run Try.prog W = .ok (pbV (nsF k ns)) W := by
  obtain ⟨v, ps, hrun, hv⟩ := World.ownsMap.lookup hm keyedN Try.underlying77 (zeroPb W) (show pbR (.pointer none) = some (.held 0, []) from rfl) (keyOfM hk)
  cases hf : nsF k ns with
  | none =>
    rw [hl.at_no hA hk (nsF_none hf)] at hv
    rw [pbR_nil hv] at hrun
    exact hrun
  | some pb =>
    have := hl.at_yes hA (nsF_some hf) (.held 0)
    rw [this] at hv
    rw [pbR_inv hv] at hrun
    exact hrun
theorem look_ns_ok {pm n : Nat} {D : D3} {ns : Ns} {W : World} (hm : W.ownsMap Try.prog 82 pbR pm n D) (hl : NsMap D ns) (hA : NsOk ns) {k : Nm} (hk : k.Ok) : (Instr.lookup 77 (.map (some pm)) (nmV k) true).run Try.prog W = .ok (.tuple #[pbV (nsF k ns), .bool (nsF k ns).isSome]) W := by
  obtain ⟨v, ps, hrun, hv⟩ := World.ownsMap.look_ok hm keyedN Try.underlying77 (zeroPb W) (show pbR (.pointer none) = some (.held 0, []) from rfl) (keyOfM hk)
  cases hf : nsF k ns with
  | none =>
    rw [hl.at_no hA hk (nsF_none hf)] at hv
    rw [hl.has_no hA hk (nsF_none hf)] at hrun
    rw [pbR_nil hv] at hrun
    exact hrun
  | some pb =>
    have := hl.at_yes hA (nsF_some hf) (.held 0)
    rw [this] at hv
    have h2 := hl.has_yes (nsF_some hf)
    rw [h2] at hrun
    rw [pbR_inv hv] at hrun
    exact hrun
/-! ### A table of entries and its blocks -/
def TabO (own : Nat → Prop) (b N : Nat) (s : St) (W : World) : Prop := ∃ mr mi ks ao cap nr ni Dr Di, TabI b mr mi N s.L s.lo s.hi ks ao cap nr ni Dr Di W ∧ ∀ k, OwnT b mr mi ao ks k ↔ own k
section
variable {own S : Nat → Prop} {b N : Nat} {s : St} {w w' W : World}
theorem TabO.tab (h : TabO own b N s W) : TabS 0 b N s W := by
  obtain ⟨mr, mi, ks, ao, cap, nr, ni, Dr, Di, h1, h2⟩ := h
  exact ⟨mr, mi, ks, ao, cap, nr, ni, Dr, Di, h1, ⟨Nat.zero_le _, Nat.zero_le _, Nat.zero_le _, fun _ _ => Nat.zero_le _, fun _ _ _ _ => Nat.zero_le _⟩⟩
theorem TabO.only (h : TabO own b N s w) (o : Only S w w') (hS : ∀ k, own k → ¬ S k) : TabO own b N s w' := by
  obtain ⟨mr, mi, ks, ao, cap, nr, ni, Dr, Di, h1, h2⟩ := h
  have hrow : ∀ (q : Option Addr) (cq : Nat) (xs : List En), RowE q cq xs w → (∀ k, RowAt q k → own k) → RowE q cq xs w' := fun q cq xs hq ho => hq.only o (fun g hg => hS g.block (ho _ ⟨g, hg, rfl⟩))
  exact ⟨mr, mi, ks, ao, cap, nr, ni, Dr, Di, ⟨by rw [o.block b (lt_of_block h1.box) (hS b ((h2 b).1 (.inl rfl)))]; exact h1.box, hrow _ _ _ h1.row (fun k hk => (h2 k).1 (.inr (.inr (.inr (.inl hk))))), ownsMap_only h1.idm o (hS mi ((h2 mi).1 (.inr (.inr (.inl rfl))))), h1.idl, ownsMap_only h1.rkm o (hS mr ((h2 mr).1 (.inr (.inl rfl)))), h1.rkl, h1.ksok, fun p hp => ⟨hrow _ _ _ (h1.rows p hp).1 (fun k hk => (h2 k).1 (.inr (.inr (.inr (.inr ⟨p, hp, hk⟩))))), (h1.rows p hp).2⟩, h1.cover, h1.ap1, h1.ap2, h1.apm, h1.pl, h1.alone, h1.keys, h1.few, h1.nums⟩, h2⟩
theorem TabO.more (h : TabO own b N s W) (hN : N + 1 ≤ 1000000) : TabO own b (N + 1) s W := by
  obtain ⟨mr, mi, ks, ao, cap, nr, ni, Dr, Di, h1, h2⟩ := h
  exact ⟨mr, mi, ks, ao, cap, nr, ni, Dr, Di, h1.more hN, h2⟩
/-- The kinds of a table's blocks. -/
def KindT (W : World) (k : Nat) : Prop := (∃ cs, W.heap[k]? = some (.cells cs 119 (0, 0))) ∨ (∃ cs, W.heap[k]? = some (.cells cs 122 (0, 0))) ∨ (∃ es c, W.heap[k]? = some (.map es c))
theorem TabO.kind (h : TabO own b N s W) : ∀ k, own k → KindT W k := fun k hk => by
  obtain ⟨mr, mi, ks, ao, cap, nr, ni, Dr, Di, h1, h2⟩ := h
  rcases (h2 k).2 hk with rfl | rfl | rfl | hk | ⟨p, hp, hk⟩
  · exact .inl ⟨_, h1.box⟩
  · exact .inr (.inr (by obtain ⟨es, cl, hb, _⟩ := h1.rkm; exact ⟨es, cl, hb⟩))
  · exact .inr (.inr (by obtain ⟨es, cl, hb, _⟩ := h1.idm; exact ⟨es, cl, hb⟩))
  · exact .inr (.inl (row_kind h1.row hk))
  · exact .inr (.inl (row_kind (h1.rows p hp).1 hk))
theorem KindT.lt {k : Nat} (h : KindT W k) : k < W.heap.size := by
  rcases h with ⟨cs, e⟩ | ⟨cs, e⟩ | ⟨es, c, e⟩ <;> exact lt_of_block e
theorem new_O (w : World) : Calls Try.prog 35 #[] w fun e w' => e = .returned (.pointer (some ⟨w.heap.size + 2, 0, none⟩)) ∧ (∃ own, TabO own (w.heap.size + 2) 0 ⟨[], -1, 0⟩ w' ∧ ∀ k, own k → w.heap.size ≤ k) ∧ Only (fun _ => False) w w' := by
  refine (new_any w).mono ?_
  rintro e w1 ⟨h1, h2, h3⟩
  refine ⟨h1, ⟨OwnT (w.heap.size + 2) w.heap.size (w.heap.size + 1) none [], ⟨_, _, _, _, _, _, _, _, _, h2, fun k => Iff.rfl⟩, fun k hk => ?_⟩, h3⟩
  rcases hk with rfl | rfl | rfl | ⟨g, hg, _⟩ | ⟨p, hp, _⟩
  · omega
  · omega
  · omega
  · cases hg
  · cases hp
theorem add_O (h : TabO own b N s w) (hN : N + 1 ≤ 1000000) (i : Int) (hi : Fit i) (k : Ky) (hk : k.Ok) (f : Bool) (hx : idF i s.L = none) (hn : s.L.length < 4096) :
    Calls Try.prog 39 #[.pointer (some ⟨b, 0, none⟩), .int .i64 i, kyV k, .bool f] w fun e w' => e = .returned (.int .i64 0) ∧ (∃ own', TabO own' b (N + 1) (addS s i k f).2 w' ∧ ∀ k, own' k → own k ∨ w.heap.size ≤ k) ∧ Only own w w' := by
  have he : addS s i k f = (0, ⟨insF f (newE i k f s.lo s.hi) s.L, if f = true then s.lo - 1 else s.lo, if f = true then s.hi else s.hi + 1⟩) := by unfold addS; rw [hx, if_neg (by simp), if_neg (by omega)]
  rw [he]
  obtain ⟨mr, mi, ks, ao, cap, nr, ni, Dr, Di, h1, h2⟩ := h
  refine (add_newO (newE i k f s.lo s.hi) _ _ h1 hN i hi k hk f hx hn rfl rfl rfl rfl rfl).mono ?_
  rintro e w' ⟨rfl, ⟨ao2, cap2, a4, c4, Dr2, Di2, hT, hO⟩, ho⟩
  exact ⟨rfl, ⟨_, ⟨mr, mi, _, ao2, cap2, _, _, _, _, hT, fun k => Iff.rfl⟩, fun k hk => (hO k hk).imp (fun e => (h2 k).1 e) id⟩, ho.mono (fun k _ e => (h2 k).1 e)⟩
end
end Go.Proofs.Ythfilpacmllhpab.bases
