/- append of a list that lies anywhere to a row of the call's own. -/
import Derived.Test.YthfilpacmllhpaaOwn
import Derived.Laws.OwnMore
import Derived.Maps.AppendAt
import Derived.RegionTactic
import Derived.Deep.AppendLies
namespace Go.Proofs.Ythfilpacmllhpaa.own
set_option maxRecDepth 100000
open Go.RowKit Go.Maps
section
variable {α : Type} {enc : α → List Value} {s : Nat}
/-- What a list that is read holds in memory. -/
def SrcOf (enc : α → List Value) (w : World) (ao : Option Addr) (xs : List α) : Prop := (ao = none → xs = []) ∧ ∀ ad, ao = some ad → ∀ j u, (xs.flatMap enc)[j]? = some u → w.cell? (ad.add j) = some u
theorem RowOf.src {E B : Nat} {ao : Option Addr} {cap : Nat} {xs : List α} {w : World} (h : RowOf enc s E B ao cap xs w) : SrcOf enc w ao xs := by
  refine ⟨fun e => ?_, fun ad e => ?_⟩
  · rcases h.2 with ⟨h1, h2⟩ | ⟨g', cap', cur, hv, _⟩
    · simp only [Value.slice.injEq] at h1
      exact List.eq_nil_of_length_eq_zero h1.2.1
    · simp only [Value.slice.injEq] at hv
      rw [e] at hv
      cases hv.1
  · obtain ⟨h1, _, _⟩ := h.head ad e
    subst e
    intro j u hu
    rw [h1]
    rw [h1] at h
    exact World.ownsRow.cells h (g := ad.block) rfl j u hu
theorem SrcOf.only {S : Nat → Prop} {w w' : World} {ao : Option Addr} {xs : List α} (h : SrcOf enc w ao xs) (ho : Only S w w') (hb : ∀ ad, ao = some ad → ad.block < w.heap.size ∧ ¬ S ad.block) : SrcOf enc w' ao xs :=
  ⟨h.1, fun ad e j u hu => (ho.cell (p := ad.add j) (by unfold Addr.add; split; exact (hb ad e).1; exact (hb ad e).1) (by unfold Addr.add; split; exact (hb ad e).2; exact (hb ad e).2)).trans (h.2 ad e j u hu)⟩
/-- append of a list that lies anywhere to a row of one's own. -/
theorem run_append_many {P : Program} (L : Lies enc s) (t ty : TypeId) (B E : Nat) (i : TypeInfo) (zz : Value) (by_ : Nat) (ht : P.underlying t = some (.slice E)) (hi : P.info? E = some i) (hz : i.zero = some zz) (hsize : i.size = s) (hby : i.bytes = by_) (hzs : zz.cells.size = s) (hbb : by_ ≤ 1024)
    (W : World) (ao : Option Addr) (cap : Nat) (xs : List α) (hrow : RowOf enc s E B ao cap xs W) (bo : Option Addr) (bcap : Nat) (ys : List α) (hsrc : SrcOf enc W bo ys) (hlen : xs.length + ys.length ≤ 16777216) (hB : B ≤ W.heap.size) :
    ∃ ao' cap' w', (Builtin.append_ #[t, t] ty #[.slice ao xs.length cap, .slice bo ys.length bcap]).run P W = .ok (.slice ao' (xs.length + ys.length) cap') w' ∧ RowOf enc s E B ao' cap' (xs ++ ys) w' ∧ Only (RowAt ao) W w' ∧ NewRow W.heap.size ao ao' := by
  cases bo with
  | none =>
    have hy := hsrc.1 rfl
    subst hy
    refine ⟨ao, cap, W, ?_, by rw [List.append_nil]; exact hrow, Only.refl _ _, NewRow.refl _ _⟩
    simp only [List.length_nil, Nat.add_zero]
    rcases hrow.2 with ⟨h1, h2⟩ | ⟨g, cap', cur, hv, _, _, hnc, _⟩
    · rw [h1]
      simp [Builtin.append_, run_underlying ht, sizeOf, typeInfo, hi, Builtin.lenOf, Builtin.firstCells]
    · rw [hv]
      simp [Builtin.append_, run_underlying ht, sizeOf, typeInfo, hi, Builtin.lenOf, Builtin.firstCells, hnc, storeCells]
  | some ad =>
    have hl : (ys.flatMap enc).length = ys.length * s := flat_len L ys
    obtain ⟨v', w', hr, hown', hgrow, _, hat⟩ := run_append_own_at (P := P) W B t ty E i zz s by_ ht hi hz hsize hby hzs L.pos (.slice ao xs.length cap) xs.length (xs.flatMap enc) hrow ad ys.length bcap (ys.flatMap enc) hl (hsrc.2 ad rfl)
      (by intro u hu; obtain ⟨x, _, hx⟩ := List.mem_flatMap.1 hu; exact L.one x u hx) (by unfold maxLen; omega) (by have := Nat.mul_le_mul hlen hbb; omega) hB
    obtain ⟨fo, fc, rfl⟩ := owned_shape hown'
    refine ⟨fo, fc, w', hr, ?_, ?_, ?_⟩
    · unfold RowOf
      rw [List.length_append, List.flatMap_append]
      exact hown'
    · refine (Only.grown hgrow).mono ?_
      intro k _ hk
      cases ao with
      | none => simp [Value.ownBlock] at hk
      | some g0 => exact ⟨g0, rfl, by simpa [Value.ownBlock] using hk⟩
    · intro g0 hg
      subst hg
      rcases hat with hat | hat
      · cases ao with
        | none => simp [Value.ownBlock] at hat
        | some g1 =>
          have hg' := hrow.head g1 rfl
          have hn : RowOf enc s E B (some g0) fc (xs ++ ys) w' := by unfold RowOf; rw [List.length_append, List.flatMap_append]; exact hown'
          have hg2 := hn.head g0 rfl
          simp only [Value.ownBlock, Option.some.injEq] at hat
          left
          rw [hg'.1, hg2.1, hat]
      · right
        simp only [Value.ownBlock, Option.some.injEq] at hat
        omega
theorem wp_append_many {P : Program} {ops : Array Oper} {rest : List Oper} {o : Oper} {a : Act} {Q : Exit → Act → World → Prop} (L : Lies enc s) (hgd : o.guard = none) (sl x : Operand) (t : TypeId)
    (ho : o.op = .call { callee := .builtin .append, args := #[sl, x], argTypes := #[t, t] }) (B E : Nat) (i : TypeInfo) (zz : Value) (by_ : Nat) (ht : P.underlying t = some (.slice E)) (hi : P.info? E = some i) (hz : i.zero = some zz) (hsize : i.size = s) (hby : i.bytes = by_) (hzs : zz.cells.size = s) (hbb : by_ ≤ 1024)
    (W : World) (ao : Option Addr) (cap : Nat) (xs : List α) (hs : a.eval sl = .slice ao xs.length cap) (hrow : RowOf enc s E B ao cap xs W) (bo : Option Addr) (bcap : Nat) (ys : List α) (hx : a.eval x = .slice bo ys.length bcap) (hsrc : SrcOf enc W bo ys) (hlen : xs.length + ys.length ≤ 16777216) (hB : B ≤ W.heap.size)
    (h : ∀ ao' cap' w', RowOf enc s E B ao' cap' (xs ++ ys) w' → Only (RowAt ao) W w' → NewRow W.heap.size ao ao' → wpList P ops Q rest (a.put o.dst (.slice ao' (xs.length + ys.length) cap')) w') :
    wpList P ops Q (o :: rest) a W := by
  refine wpList_plain hgd fun K hK => ?_
  obtain ⟨ao', cap', w', hr, h1, h2, h3⟩ := run_append_many (P := P) L t o.type B E i zz by_ ht hi hz hsize hby hzs hbb W ao cap xs hrow bo bcap ys hsrc hlen hB
  unfold Oper.wp execOp
  simp only [ho, resolve, invoke, builtin, Sem.run_bind, Sem.run_pure, Result.andThen_ok, List.map_toArray, List.map_cons, List.map_nil, hs, hx, hr]
  exact hK _ _ (h ao' cap' w' h1 h2 h3)
theorem step_append_many {P : Program} {ops : Array Oper} {o : Oper} {a : Act} {K : Act → World → Prop} {Q : Exit → Act → World → Prop} {F : Prop} (L : Lies enc s) (hgd : o.guard = none) (sl x : Operand) (t : TypeId)
    (ho : o.op = .call { callee := .builtin .append, args := #[sl, x], argTypes := #[t, t] }) (B E : Nat) (i : TypeInfo) (zz : Value) (by_ : Nat) (ht : P.underlying t = some (.slice E)) (hi : P.info? E = some i) (hz : i.zero = some zz) (hsize : i.size = s) (hby : i.bytes = by_) (hzs : zz.cells.size = s) (hbb : by_ ≤ 1024)
    (W : World) (ao : Option Addr) (cap : Nat) (xs : List α) (hs : a.eval sl = .slice ao xs.length cap) (hrow : RowOf enc s E B ao cap xs W) (bo : Option Addr) (bcap : Nat) (ys : List α) (hx : a.eval x = .slice bo ys.length bcap) (hsrc : SrcOf enc W bo ys) (hlen : xs.length + ys.length ≤ 16777216) (hB : B ≤ W.heap.size)
    (h : ∀ ao' cap' w', RowOf enc s E B ao' cap' (xs ++ ys) w' → Only (RowAt ao) W w' → NewRow W.heap.size ao ao' → K (a.put o.dst (.slice ao' (xs.length + ys.length) cap')) w') :
    if Region.wanted o (yielded ops a.tmps) = true then Oper.wp P o a W K Q else F := by
  have hw : Region.wanted o (yielded ops a.tmps) = true := by simp [Region.wanted, hgd]
  rw [if_pos hw]
  obtain ⟨ao', cap', w', hr, h1, h2, h3⟩ := run_append_many (P := P) L t o.type B E i zz by_ ht hi hz hsize hby hzs hbb W ao cap xs hrow bo bcap ys hsrc hlen hB
  unfold Oper.wp execOp
  simp only [ho, resolve, invoke, builtin, Sem.run_bind, Sem.run_pure, Result.andThen_ok, List.map_toArray, List.map_cons, List.map_nil, hs, hx, hr]
  exact h ao' cap' w' h1 h2 h3
theorem step_append_one {P : Program} {ops : Array Oper} {o : Oper} {a : Act} {K : Act → World → Prop} {Q : Exit → Act → World → Prop} {F : Prop} (L : Lies enc s) (hgd : o.guard = none) (sl x : Operand) (t : TypeId)
    (ho : o.op = .call { callee := .builtin .append, args := #[sl, x], argTypes := #[t, t] })
    (B E : Nat) (i : TypeInfo) (zz : Value) (by_ : Nat) (ht : P.underlying t = some (.slice E)) (hi : P.info? E = some i) (hz : i.zero = some zz) (hsize : i.size = s) (hby : i.bytes = by_) (hzs : zz.cells.size = s) (hbb : by_ ≤ 1024)
    (W : World) (ao : Option Addr) (cap : Nat) (xs : List α) (z : α) (cs : List Value) (hcs : enc z = cs) (hs : a.eval sl = .slice ao xs.length cap) (hrow : RowOf enc s E B ao cap xs W) (g : Nat) (ty : TypeId) (hnew : W.heap[g]? = some (.cells cs.toArray ty (0, 0)))
    (hx : a.eval x = .slice (some ⟨g, 0, none⟩) 1 1) (hlen : xs.length ≤ 16777216) (hB : B ≤ W.heap.size)
    (h : ∀ ao' cap' w', RowOf enc s E B ao' cap' (xs ++ [z]) w' → Only (RowAt ao) W w' → NewRow W.heap.size ao ao' → K (a.put o.dst (.slice ao' (xs.length + 1) cap')) w') :
    if Region.wanted o (yielded ops a.tmps) = true then Oper.wp P o a W K Q else F := by
  have hlc : cs.length = 1 * s := by rw [← hcs, L.len]; omega
  refine step_append_lies W hgd sl x t ho B E i zz s by_ ht hi hz hsize hby hzs L.pos (.slice ao xs.length cap) xs.length (xs.flatMap enc) hs hrow ⟨g, 0, none⟩ 1 1 cs hx hlc (fun j u hu => World.news_of_block (cs := cs.toArray) hnew j u (by simpa using hu))
    (by intro u hu; rw [← hcs] at hu; exact L.one z u hu) (by omega) (by unfold maxLen; omega) (by have := Nat.mul_le_mul (show xs.length + 1 ≤ 16777217 by omega) hbb; omega) hB W.heap.size rfl ?_
  intro g' cap' w' hown' hgrow hat _
  have hl : (xs ++ [z]).length = xs.length + 1 := by simp
  have hown2 : RowOf enc s E B (some ⟨g', 0, none⟩) cap' (xs ++ [z]) w' := by
    unfold RowOf
    rw [hl, List.flatMap_append, List.flatMap_cons, List.flatMap_nil, List.append_nil, hcs]
    exact hown'
  refine h _ cap' w' hown2 ?_ ?_
  · refine (Only.grown hgrow).mono ?_
    intro k _ hk
    cases ao with
    | none => simp [Value.ownBlock] at hk
    | some g0 => exact ⟨g0, rfl, by simpa [Value.ownBlock] using hk⟩
  · intro g0 hg
    cases hg
    rcases hat with hat | hat
    · cases ao with
      | none => simp [Value.ownBlock] at hat
      | some g1 =>
        have hg' := hrow.head g1 rfl
        simp only [Value.ownBlock, Option.some.injEq] at hat
        left
        rw [hg'.1, hat]
    · right
      show W.heap.size ≤ g'
      omega
end
end Go.Proofs.Ythfilpacmllhpaa.own
