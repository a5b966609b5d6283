/- Clauses by generations: facts that are added at both ends, and the numbers that are told. -/
import Derived.Test.YthfilpacmllhpabBas24
namespace Go.Proofs.Ythfilpacmllhpab.bases
set_option maxRecDepth 100000
open Go.RowKit Go.Proofs.Ythfilpacmllhpab.own Go.Lib Go.Maps Go.WideMaps Go.Proofs.Ythfilpacmllhpab.idx Go.Proofs.Ythfilpacmllhpab.terms
theorem wp_many {α : Type} {enc : α → List Value} {s : Nat} {P : Program} {ops : Array Oper} {rest : List Oper} {o : Oper} {a : Act} {Q : Exit → Act → World → Prop} (L : own.Lies enc s) (hgd : o.guard = none) (sl x : Operand) (t : TypeId)
    (ho : o.op = .call { callee := .builtin .append, args := #[sl, x], argTypes := #[t, t] }) (B E : Nat) (i : TypeInfo) (zz : Value) (by_ : Nat) (ht : P.underlying t = some (.slice E)) (hi : P.info? E = some i) (hz : i.zero = some zz) (hsize : i.size = s) (hby : i.bytes = by_) (hzs : zz.cells.size = s) (hbb : by_ ≤ 1024)
    (W : World) (ao : Option Addr) (cap : Nat) (xs : List α) (hs : a.eval sl = .slice ao xs.length cap) (hrow : RowOf enc s E B ao cap xs W) (bo : Option Addr) (bcap : Nat) (ys : List α) (hx : a.eval x = .slice bo ys.length bcap) (hsrc : SrcOf enc W bo ys) (hlen : xs.length + ys.length ≤ 16777216) (hB : B ≤ W.heap.size)
    (h : ∀ ao' cap' w', RowOf enc s E B ao' cap' (xs ++ ys) w' → Only (RowAt ao) W w' → NewRow W.heap.size ao ao' → wpList P ops Q rest (a.put o.dst (.slice ao' (xs.length + ys.length) cap')) w') :
    wpList P ops Q (o :: rest) a W := by
  refine wpList_plain hgd fun K hK => ?_
  obtain ⟨ao', cap', w', hr, h1, h2, h3⟩ := run_append_many (P := P) L t o.type B E i zz by_ ht hi hz hsize hby hzs hbb W ao cap xs hrow bo bcap ys hsrc hlen hB
  unfold Oper.wp execOp
  simp only [ho, resolve, invoke, builtin, Sem.run_bind, Sem.run_pure, Result.andThen_ok, List.map_toArray, List.map_cons, List.map_nil, hs, hx, hr]
  exact hK _ _ (h ao' cap' w' h1 h2 h3)
theorem one_num {N g : Nat} {W : World} {z : Int} (hg : W.heap[g]? = some (.cells #[.int .i64 z] 3 (0, 0))) (hN : N ≤ g) : RowN N (some ⟨g, 0, none⟩) 1 [z] W := by
  refine ⟨by simp [encN], .inr ⟨g, 1, #[.int .i64 z], rfl, hN, hg, by simp, by unfold maxLen; omega, by simp, by simp [encN]⟩⟩
section
variable {b pm N : Nat} {sl : List Sl} {ps : List Pc} {lim gen low : Int} {so : Option Addr} {sc np : Nat} {Dp : D3} {w w0 W w' : World} {Q S : Nat → Prop}
theorem Bs.touch (h : Bs b pm N sl ps lim gen low Q w0 w) (o : Only S w w') (hS : ∀ k, S k → Q k ∧ w0.heap.size ≤ k) : Bs b pm N sl ps lim gen low (fun q => Q q ∨ (w.heap.size ≤ q ∧ q < w'.heap.size)) w0 w' := by
  obtain ⟨so, sc, np, Dp, h1, h2, h3, h4⟩ := h
  have hu := h1.under
  have hk := h1.k.only o (fun e => (h2 _ (.inl rfl)).2 (hS _ e).1) (fun k hk e => (h2 k (.inr (.inl hk))).2 (hS _ e).1) (fun e => (h2 _ (.inr (.inr (.inl rfl)))).2 (hS _ e).1)
    (fun p hp => ⟨fun e => (h2 _ (.inr (.inr (.inr ⟨p, hp, .inl rfl⟩)))).2 (hS _ e).1, fun k hk e => (h2 _ (.inr (.inr (.inr ⟨p, hp, .inr hk⟩)))).2 (hS _ e).1⟩)
  exact ⟨so, sc, np, Dp, hk.i h1.lown h1.ins h1.outs, fun k hk => ⟨(h2 k hk).1, fun e => e.elim (h2 k hk).2 (fun e => by have := hu k hk; omega)⟩, fun k hk => hk.elim (fun hk => Nat.lt_of_lt_of_le (h3 k hk) o.size) (fun hk => hk.2), idx.Only.cut h4 o (fun k hk => (hS k hk).2)⟩
theorem Bs.since (h : Bs b pm N sl ps lim gen low Q w0 w) : Only (fun _ => False) w0 w := by
  obtain ⟨so, sc, np, Dp, h1, h2, h3, h4⟩ := h
  exact h4
/-- A predicate that isn't there has no clauses. -/
theorem head_none (h : BI b pm N sl ps lim gen low so sc np Dp w) (k : Nm) (hk : k.Ok) (hn : nsF k (ps.map (fun p => (p.nm, p.pb))) = none) (g : Int) : Calls Try.prog 15 #[.pointer (some ⟨b, 0, none⟩), .string k.s, .int .i64 k.a, .agg #[.int .i64 0, .string ⟨#[]⟩, .int .i64 0], .int .i64 g] w fun e w' => e = .returned (.tuple #[.int .i64 0, .bool false]) ∧ Only (fun _ => False) w w' := by
  obtain ⟨E, hE⟩ : ∃ E, E = w.alloc (.cells #[.int .i64 0, .string ⟨#[]⟩, .int .i64 0] 37) := ⟨_, rfl⟩
  have HO : Hid (Only (fun _ => False) w E) := Lib.hid (by rw [hE]; exact Only.alloc _ _ _)
  have hE' := h.later HO.out
  have HC := Lib.hid (closed_no hE')
  obtain ⟨c0, c1, c2, c3, c4, c5⟩ := hE'.cells
  have hlk := look_ns hE'.pmap hE'.nmap hE'.nok hk
  rw [hn] at hlk
  simp only [pbV, Option.map_none] at hlk
  clear h hE' hn
  go_enter Try.func15, Try.ntmps15
  go_upto_region 1 with fail
  rw [← hE]
  clear hE
  generalize w.heap.size = bk at *
  go_wp2_with fail
  refine HC.out.mono ?_
  rintro e w1 ⟨rfl, rfl⟩
  go_wp2_with fail
  go_ret2
  exact ⟨rfl, HO.out⟩
theorem told_none (h : BI b pm N sl ps lim gen low so sc np Dp w) (k : Nm) (hk : k.Ok) (hn : nsF k (ps.map (fun p => (p.nm, p.pb))) = none) (g : Int) :
    Calls Try.prog 13 #[.pointer (some ⟨b, 0, none⟩), .string k.s, .int .i64 k.a, .int .i64 g] w fun e w' => e = .returned (.slice none 0 0) ∧ Only (fun _ => False) w w' := by
  have HHD := Lib.hid (head_none h k hk hn g)
  clear h hk hn
  go_enter Try.func13, Try.ntmps13
  go_wp2_with fail
  refine HHD.out.mono ?_
  rintro e w1 ⟨rfl, ho1⟩
  have HO1 := Lib.hid ho1
  clear ho1 HHD
  go_wp2_with fail
  go_loopw [9, 11, 12] (fun s9 s11 s12 wr => s9 = .slice none 0 0 ∧ s11 = .bool false ∧ s12 = .int .i64 0 ∧ wr = w1) (fun _ _ _ _ => 0)
  case atStart => exact ⟨rfl, rfl, rfl, rfl⟩
  case round =>
    obtain ⟨rfl, rfl, rfl, rfl⟩ := hrel
    go_wp2_with fail
    go_ret
    exact ⟨rfl, HO1.out⟩
end
/-- A base of k facts p(_), what it tells, and the numbers that are noted. -/
structure Ee (b k : Nat) (told want : List Int) (ao : Option Addr) (cap : Nat) (w0 w : World) : Prop where
  ex : ∃ pm sl ps low Q, Bs b pm (2 * k) sl ps 1000 k low Q w0 w ∧ sl.length = k ∧ (ps = [] ∨ ∃ p, ps = [p] ∧ p.nm = nmP) ∧ (entF ps).map (·.id) = told ∧ (∀ s ∈ sl, s.ad ≤ k ∧ s.ki = 0) ∧ (∀ g, ao = some g → Q g.block)
  row : RowN w0.heap.size ao cap want w
  len : told.length = k
def addN (f : Bool) (k : Int) (l : List Int) : List Int := if f = true then k :: l else l ++ [k]
section
variable {b k : Nat} {told want : List Int} {ao ao' : Option Addr} {cap cap' : Nat} {w0 w W w' : World}
theorem add_len (f : Bool) (k : Int) (l : List Int) : (addN f k l).length = l.length + 1 := by unfold addN; split <;> simp
theorem Ee.add (h : Ee b k told want ao cap w0 W) (o : Only (fun _ => False) W w) (hk : k < 100) (ta : Option Addr) (tc : Nat) (hl : Row (fun q => W.heap.size ≤ q ∧ q < w.heap.size) w ta [.mk 1 0 ⟨#[]⟩ []]) (f : Bool) :
    Calls Try.prog 9 #[.pointer (some ⟨b, 0, none⟩), .agg #[.int .i64 4, .int .i64 0, .string ⟨#[112]⟩, .slice ta 1 tc, .slice none 0 0, .int .i64 0], .slice none 0 0, .bool f] w fun e w' => e = .returned (.tuple #[.int .i64 k, .int .i64 0]) ∧ Ee b (k + 1) (addN f k told) want ao cap w0 w' := by
  obtain ⟨pm, sl, ps, low, Q, h1, h2, h3, h4, h5, h6⟩ := h.ex
  have hlen : (entF ps).length = told.length := by rw [← h4, List.length_map]
  have hf := h.len
  refine (add_bs h1 o h3 (by omega) 1 0 (by unfold Fits; omega) ta tc hl none 0 [] (fun _ => rfl) (src_nil _) (fun ad e => by cases e) (by decide) (by rw [h2]; omega) f (by omega) (by omega)).mono ?_
  rintro e w' ⟨rfl, s, x, p', B, M, g1, g2, g3, g4, g5, g6⟩
  refine ⟨by rw [h2], ⟨pm, sl ++ [s], [p'], sl.length, fun q => Q q ∨ (B ≤ q ∧ q < M), ?_, by simp [h2], .inr ⟨p', rfl, g3.1⟩, ?_, ?_, fun g hg => .inl (h6 g hg)⟩, ?_, by rw [add_len, hf]⟩
  · have : ((k + 1 : Nat) : Int) = (k : Int) + 1 := by omega
    rw [this, show 2 * (k + 1) = 2 * k + 1 + 1 by omega]
    exact g5
  · show (p'.st.L).map (·.id) = _
    rw [g3.2]
    unfold insF addN
    split
    · rw [List.map_cons, g2, h4, h2]
    · rw [List.map_append, h4, List.map_cons, List.map_nil, g2, h2]
  · intro y hy
    rcases List.mem_append.1 hy with hy | hy
    · have := h5 y hy
      exact ⟨by omega, this.2⟩
    · rw [List.mem_singleton.1 hy]
      exact ⟨by have := g1.2.1; omega, g1.2.2⟩
  · refine (h.row.only o (fun _ _ e => e)).only g6 (fun g hg e => e.2 (h6 g hg))
theorem Ee.grow (h : Ee b k told want ao cap w0 w) (hr : RowN w0.heap.size ao' cap' told w') (o : Only (RowAt ao) w w') (hn : NewRow w.heap.size ao ao') : Ee b k told told ao' cap' w0 w' := by
  obtain ⟨pm, sl, ps, low, Q, h1, h2, h3, h4, h5, h6⟩ := h.ex
  refine ⟨⟨pm, sl, ps, low, _, h1.touch o (fun q hq => ?_), h2, h3, h4, h5, fun g hg => ?_⟩, hr, h.len⟩
  · obtain ⟨g, hg, rfl⟩ := hq
    exact ⟨h6 g hg, (h.row.head g hg).2.1⟩
  · rcases hn g hg with e | e
    · exact .inl (h6 g e)
    · exact .inr ⟨e, (hr.head g hg).2.2⟩
theorem Ee.front (h : Ee b k told want ao cap w0 w) (hr : RowN w0.heap.size ao' cap' told w') (o : Only (fun _ => False) w w') (hn : ∀ g, ao' = some g → w.heap.size ≤ g.block) : Ee b k told told ao' cap' w0 w' := by
  obtain ⟨pm, sl, ps, low, Q, h1, h2, h3, h4, h5, h6⟩ := h.ex
  exact ⟨⟨pm, sl, ps, low, _, h1.touch o (fun q hq => hq.elim), h2, h3, h4, h5, fun g hg => .inr ⟨hn g hg, (hr.head g hg).2.2⟩⟩, hr, h.len⟩
theorem Ee.since (h : Ee b k told want ao cap w0 w) : Only (fun _ => False) w0 w := by
  obtain ⟨pm, sl, ps, low, Q, h1, _⟩ := h.ex
  exact h1.since
theorem Ee.gen (h : Ee b k told want ao cap w0 w) : Calls Try.prog 11 #[.pointer (some ⟨b, 0, none⟩)] w fun e w' => e = .returned (.int .i64 k) ∧ w' = w := by
  obtain ⟨pm, sl, ps, low, Q, ⟨so, sc, np, Dp, h1, _⟩, _⟩ := h.ex
  exact gen_any h1
/-- .. all tells what the base tells. -/
theorem Ee.all (h : Ee b k told want ao cap w0 w) (hk : told.length ≤ 100) : Calls Try.prog 13 #[.pointer (some ⟨b, 0, none⟩), .string ⟨#[112]⟩, .int .i64 1, .int .i64 k] w fun e w' => ∃ a c, e = .returned (.slice a told.length c) ∧ NumsAt w' a told ∧ Only (fun _ => False) w w' := by
  obtain ⟨pm, sl, ps, low, Q, ⟨so, sc, np, Dp, h1, _⟩, h2, h3, h4, h5, h6⟩ := h.ex
  rcases h3 with rfl | ⟨p, rfl, hp⟩
  · refine (told_none h1 nmP nmP_ok (by rfl) k).mono ?_
    rintro e w' ⟨rfl, ho⟩
    have : told = [] := by rw [← h4]; rfl
    subst this
    exact ⟨none, 0, rfl, fun i x hx => by simp at hx, ho⟩
  · have hall : ∀ e ∈ p.st.L, liveE sl (k : Int) e = true := fun e he => by
      obtain ⟨i, s, q1, q2, q3⟩ := h1.outs p (by simp) e he
      rw [liveE_of q1 q2]
      have := h5 s (List.mem_of_getElem? q2)
      unfold liveS
      simp [this.1, this.2]
    have hc := told_any h1 (p := p) (by simp) (k : Int)
    have h4' : p.st.L.map (·.id) = told := h4
    have hlen : p.st.L.length = told.length := by rw [← h4', List.length_map]
    rw [List.filter_eq_self.2 hall, List.take_of_length_le (by omega), h4', hlen, hp] at hc
    refine hc.mono ?_
    rintro e w' ⟨a, c, rfl, hr, ho⟩
    exact ⟨a, c, rfl, NumsAt.row hr, ho⟩
end
end Go.Proofs.Ythfilpacmllhpab.bases
