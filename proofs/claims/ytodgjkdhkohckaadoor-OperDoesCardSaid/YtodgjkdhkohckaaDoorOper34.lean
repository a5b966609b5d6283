/- Operators: lists put behind each other in regions that draw their order; parts of a list. -/
import Derived.Test.YtodgjkdhkohckaaDoorOper33
namespace Go.Proofs.YtodgjkdhkohckaaDoor.opers
open Go.RowKit Go.Proofs.YtodgjkdhkohckaaDoor.own Go.Maps Go.Sort Go.Shelf Go.Proofs.YtodgjkdhkohckaaDoor.toks
/-- These operators lie where a slice says. -/
def Ly (bo : Option Addr) (ys : List Op3) (W : World) : Prop := ∀ (i : Nat) (y : Op3), ys[i]? = some y → ∃ g off, bo = some ⟨g, off, none⟩ ∧ g < W.heap.size ∧ W.cell? ⟨g, off + i * 3, none⟩ = some (.int .i64 y.p) ∧ W.cell? ⟨g, off + i * 3 + 1, none⟩ = some (.int .i64 y.k) ∧ W.cell? ⟨g, off + i * 3 + 2, none⟩ = some (.string y.n)
theorem Ly.only {bo : Option Addr} {ys : List Op3} {W W' : World} {S : Nat → Prop} (h : Ly bo ys W) (ho : Only S W W') (hS : ∀ g, bo = some g → ¬ S g.block) : Ly bo ys W' := fun i y hy => by
  obtain ⟨g, off, e, hg, c0, c1, c2⟩ := h i y hy
  have hn := hS _ e
  exact ⟨g, off, e, Nat.lt_of_lt_of_le hg ho.size, (ho.cell (p := ⟨g, off + i * 3, none⟩) hg hn).trans c0, (ho.cell (p := ⟨g, off + i * 3 + 1, none⟩) hg hn).trans c1, (ho.cell (p := ⟨g, off + i * 3 + 2, none⟩) hg hn).trans c2⟩
theorem Ly.cells {b off : Nat} {sp : Option _} {ys : List Op3} {W : World} (h : Ly (some ⟨b, off, sp⟩) ys W) : ∀ j u, (ys.flatMap encO)[j]? = some u → W.cell? ((⟨b, off, sp⟩ : Addr).add j) = some u := fun j u hu => by
  have hj : j < (ys.flatMap encO).length := (List.getElem?_eq_some_iff.1 hu).1
  rw [own.flat_len lieO] at hj
  obtain ⟨y, hy⟩ : ∃ y, ys[j / 3]? = some y := ⟨_, List.getElem?_eq_getElem (by omega)⟩
  obtain ⟨g, o, e, _, c0, c1, c2⟩ := h (j / 3) y hy
  cases e
  have hf := own.flat_get lieO ys (j / 3) (j % 3) y hy (Nat.mod_lt _ (by decide))
  rw [show j / 3 * 3 + j % 3 = j by omega, hu] at hf
  have e : (⟨b, off, none⟩ : Addr).add j = ⟨b, off + j, none⟩ := by unfold Addr.add; split <;> simp_all
  rw [e]
  have h3 : j % 3 = 0 ∨ j % 3 = 1 ∨ j % 3 = 2 := by omega
  rcases h3 with h3 | h3 | h3
  · rw [h3] at hf
    rw [show off + j = off + j / 3 * 3 by omega, c0]
    exact hf.symm
  · rw [h3] at hf
    rw [show off + j = off + j / 3 * 3 + 1 by omega, c1]
    exact hf.symm
  · rw [h3] at hf
    rw [show off + j = off + j / 3 * 3 + 2 by omega, c2]
    exact hf.symm
/-- append of a list, in a region that draws its order. -/
theorem step_append_row {ops : Array Oper} {o : Oper} {a : Act} {K : Act → World → Prop} {Q : Exit → Act → World → Prop} {F : Prop} (hgd : o.guard = none) (sl x : Operand)
    (ho : o.op = .call { callee := .builtin .append, args := #[sl, x], argTypes := #[29, 29] })
    (B : Nat) (W : World) (ao : Option Addr) (cap : Nat) (xs : List Op3) (bo : Option Addr) (bc : Nat) (ys : List Op3) (hs : a.eval sl = .slice ao xs.length cap) (hrow : RowOf encO 3 32 B ao cap xs W) (hx : a.eval x = .slice bo ys.length bc) (hy : Ly bo ys W) (hbc : bo = none → bc = 0)
    (hl : xs.length + ys.length ≤ 1000000) (hB : B ≤ W.heap.size)
    (h : ∀ ao' cap' w', RowOf encO 3 32 B ao' cap' (xs ++ ys) w' → Only (RowAt ao) W w' → NewRow W.heap.size ao ao' → K (a.put o.dst (.slice ao' (xs ++ ys).length cap')) w') :
    if Region.wanted o (yielded ops a.tmps) = true then Oper.wp Tryd.prog o a W K Q else F := by
  obtain ⟨i0, hi0, hz0, hz1, hz2⟩ := info_parts infoO
  have hw : Region.wanted o (yielded ops a.tmps) = true := by simp [Region.wanted, hgd]
  rw [if_pos hw]
  cases bo with
  | none =>
    have e0 : ys = [] := by
      cases ys with
      | nil => rfl
      | cons y t => obtain ⟨b, off, he, _⟩ := hy 0 y rfl; cases he
    subst e0
    rw [hbc rfl] at hx
    unfold Oper.wp execOp
    have hr := run_append_owned_none (P := Tryd.prog) (w := W) B 29 o.type 32 i0 3 Tryd.underlying29 hi0 _ _ _ hrow
    simp only [ho, resolve, invoke, builtin, Sem.run_bind, Sem.run_pure, Result.andThen_ok, List.map_toArray, List.map_cons, List.map_nil, hs, hx, List.length_nil, hr]
    have := h ao cap W (by rw [List.append_nil]; exact hrow) (Only.refl _ _) (NewRow.refl _ _)
    rw [List.append_nil] at this
    exact this
  | some g =>
    have hfl := own.flat_len lieO ys
    obtain ⟨v', w', hr, h2, h3, _, h5⟩ := run_append_own_at (P := Tryd.prog) W B 29 o.type 32 i0 _ 3 32 Tryd.underlying29 hi0 hz0 hz1 hz2 rfl (by decide) (.slice ao xs.length cap) xs.length _ hrow g ys.length bc (ys.flatMap encO) hfl (by obtain ⟨b, off, sp⟩ := g; exact Ly.cells hy) (by intro u hu; obtain ⟨z, _, hz⟩ := List.mem_flatMap.1 hu; exact lieO.one z u hz) (by unfold maxLen; omega) (by omega) hB
    obtain ⟨ao', cap', rfl⟩ := owned_shape h2
    have hown2 : RowOf encO 3 32 B ao' cap' (xs ++ ys) w' := by
      unfold RowOf
      rw [List.length_append, List.flatMap_append]
      exact h2
    unfold Oper.wp execOp
    simp only [ho, resolve, invoke, builtin, Sem.run_bind, Sem.run_pure, Result.andThen_ok, List.map_toArray, List.map_cons, List.map_nil, hs, hx, hr]
    rw [← List.length_append]
    refine h ao' cap' w' hown2 ?_ ?_
    · refine (Only.grown h3).mono (fun k _ hk => ?_)
      cases ao with
      | none => simp [Value.ownBlock] at hk
      | some g => exact ⟨g, rfl, by simpa [Value.ownBlock] using hk⟩
    · intro g' hg
      subst hg
      have hh := hown2.head g' rfl
      rcases h5 with hat | hat
      · cases ao with
        | none => simp [Value.ownBlock] at hat
        | some g2 =>
          have hg' := hrow.head g2 rfl
          simp only [Value.ownBlock, Option.some.injEq] at hat
          left
          rw [hg'.1, hh.1, hat]
      · simp only [Value.ownBlock, Option.some.injEq] at hat
        right
        omega
set_option maxRecDepth 100000 in
/-- Parts of a list that lies in a row. -/
theorem part_front {B : Nat} {ao : Option Addr} {cap : Nat} {xs : List Op3} {W : World} (h : RowOf encO 3 32 B ao cap xs W) (k : Nat) (hk : k ≤ xs.length) : (∀ w : World, (Instr.slice 29 (.slice ao xs.length cap) none (some (.int .i64 k)) none).run Tryd.prog w = .ok (.slice ao (xs.take k).length cap) w) ∧ Ly ao (xs.take k) W ∧ (ao = none → cap = 0) := by
  have hkl : (xs.take k).length = k := by rw [List.length_take]; omega
  have hcap := h.cap_ge
  have hnone : ao = none → cap = 0 := fun e => by
    rcases h.2 with ⟨h1, _⟩ | ⟨g, cap', cur, hv, _⟩
    · simp only [Value.slice.injEq] at h1; exact h1.2.2
    · rw [e] at hv; simp at hv
  refine ⟨fun w => ?_, fun i y hy => ?_, hnone⟩
  · rw [hkl, run_slice_h w 29 ao xs.length cap Tryd.underlying29 .i64 k (by omega) (by omega)]
    have hs : (sizeOf (Tryd.prog.elem 29)).run Tryd.prog w = .ok 3 w := by kernel_rfl
    rw [hs]
    show Result.ok (sliced ao 0 k cap 3) w = _
    unfold sliced
    cases ao <;> simp [Addr.add]
  · have hi : i < k := by
      have := (List.getElem?_eq_some_iff.1 hy).1
      omega
    rw [List.getElem?_take, if_pos hi] at hy
    obtain ⟨g, rfl, _, hc⟩ := h.at lieO i y hy
    have h3 := (h.head _ rfl).2.2
    refine ⟨g, 0, rfl, h3, ?_, ?_, ?_⟩
    · rw [Nat.zero_add]; exact (hc 0 (by decide)).1
    · rw [Nat.zero_add]; exact (hc 1 (by decide)).1
    · rw [Nat.zero_add]; exact (hc 2 (by decide)).1
set_option maxRecDepth 100000 in
theorem part_back {B : Nat} {ao : Option Addr} {cap : Nat} {xs : List Op3} {W : World} (h : RowOf encO 3 32 B ao cap xs W) (k : Nat) (hk : k ≤ xs.length) : ∃ bo, (∀ w : World, (Instr.slice 29 (.slice ao xs.length cap) (some (.int .i64 k)) none none).run Tryd.prog w = .ok (.slice bo (xs.drop k).length (cap - k)) w) ∧ Ly bo (xs.drop k) W ∧ (bo = none → cap - k = 0) ∧ ∀ g, bo = some g → ∃ g', ao = some g' ∧ g'.block = g.block := by
  have hkl : (xs.drop k).length = xs.length - k := List.length_drop
  have hcap := h.cap_ge
  have hrun : ∀ w : World, (Instr.slice 29 (.slice ao xs.length cap) (some (.int .i64 k)) none none).run Tryd.prog w = .ok (sliced ao k xs.length cap 3) w := fun w => by
    rw [run_slice_l w 29 ao xs.length cap Tryd.underlying29 .i64 k (by omega) (by omega)]
    have hs : (sizeOf (Tryd.prog.elem 29)).run Tryd.prog w = .ok 3 w := by kernel_rfl
    rw [hs]
    rfl
  cases hao : ao with
  | none =>
    subst hao
    have hz : xs.length = 0 ∧ cap = 0 := by
      rcases h.2 with ⟨h1, _⟩ | ⟨g, cap', cur, hv, _⟩
      · simp only [Value.slice.injEq] at h1; exact h1.2
      · simp at hv
    refine ⟨none, fun w => ?_, fun i y hy => ?_, fun _ => by omega, fun g e => by cases e⟩
    · rw [hrun w, hkl]
      unfold sliced
      simp
    · have := (List.getElem?_eq_some_iff.1 hy).1
      omega
  | some g =>
    subst hao
    have hh := h.head g rfl
    obtain ⟨b, off, sp⟩ := g
    have hh1 := hh.1
    simp only [Addr.mk.injEq, true_and] at hh1
    obtain ⟨rfl, rfl⟩ := hh1
    by_cases hkc : k = cap
    · refine ⟨some ⟨b, 0, none⟩, fun w => ?_, fun i y hy => ?_, (fun e => by cases e), fun g e => ⟨_, rfl, by cases e; rfl⟩⟩
      · rw [hrun w, hkl]
        unfold sliced
        simp [hkc]
      · have := (List.getElem?_eq_some_iff.1 hy).1
        omega
    · refine ⟨some ⟨b, k * 3, none⟩, fun w => ?_, fun i y hy => ?_, (fun e => by cases e), fun g e => ⟨_, rfl, by cases e; rfl⟩⟩
      · rw [hrun w, hkl]
        unfold sliced
        rw [if_neg (by omega)]
        simp [Addr.add]
        exact fun e => e.symm
      · rw [List.getElem?_drop] at hy
        obtain ⟨g, hg, _, hc⟩ := h.at lieO (k + i) y hy
        cases hg
        refine ⟨b, k * 3, rfl, hh.2.2, ?_, ?_, ?_⟩
        · rw [show k * 3 + i * 3 = (k + i) * 3 + 0 by omega]; exact (hc 0 (by decide)).1
        · rw [show k * 3 + i * 3 + 1 = (k + i) * 3 + 1 by omega]; exact (hc 1 (by decide)).1
        · rw [show k * 3 + i * 3 + 2 = (k + i) * 3 + 2 by omega]; exact (hc 2 (by decide)).1
end Go.Proofs.YtodgjkdhkohckaaDoor.opers
