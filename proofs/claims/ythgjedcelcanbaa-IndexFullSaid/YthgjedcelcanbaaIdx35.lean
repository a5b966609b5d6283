/- Selection by keys: appends of lists in regions that draw their order; parts of a row; the reference's table turned. -/
import Derived.Test.YthgjedcelcanbaaIdx34
import Derived.Deep.AppendLies
import Derived.Deep.RegionLaw
namespace Go.Proofs.Ythgjedcelcanbaa.idx
set_option maxRecDepth 100000
open Go.RowKit Go.Proofs.Ythgjedcelcanbaa.own Go.Lib Go.Maps Go.WideMaps
section
variable {α : Type} {enc : α → List Value} {s : Nat}
theorem step_append_many {P : Program} {ops : Array Oper} {o : Oper} {a : Act} {K : Act → World → Prop} {Q : Exit → Act → World → Prop} {F : Prop} (L : Go.Proofs.Ythgjedcelcanbaa.own.Lies enc s) (hgd : o.guard = none) (sl x : Operand) (t : TypeId)
    (ho : o.op = .call { callee := .builtin .append, args := #[sl, x], argTypes := #[t, t] }) (B E : Nat) (i : TypeInfo) (zz : Value) (by_ : Nat) (ht : P.underlying t = some (.slice E)) (hi : P.info? E = some i) (hz : i.zero = some zz) (hsize : i.size = s) (hby : i.bytes = by_) (hzs : zz.cells.size = s) (hbb : by_ ≤ 1024)
    (W : World) (ao : Option Addr) (cap : Nat) (xs : List α) (hs : a.eval sl = .slice ao xs.length cap) (hrow : RowOf enc s E B ao cap xs W) (bo : Option Addr) (bcap : Nat) (ys : List α) (hx : a.eval x = .slice bo ys.length bcap) (hsrc : SrcOf enc W bo ys) (hlen : xs.length + ys.length ≤ 16777216) (hB : B ≤ W.heap.size)
    (h : ∀ ao' cap' w', RowOf enc s E B ao' cap' (xs ++ ys) w' → Only (RowAt ao) W w' → NewRow W.heap.size ao ao' → K (a.put o.dst (.slice ao' (xs.length + ys.length) cap')) w') :
    if Region.wanted o (yielded ops a.tmps) = true then Oper.wp P o a W K Q else F := by
  have hw : Region.wanted o (yielded ops a.tmps) = true := by simp [Region.wanted, hgd]
  rw [if_pos hw]
  obtain ⟨ao', cap', w', hr, h1, h2, h3⟩ := run_append_many (P := P) L t o.type B E i zz by_ ht hi hz hsize hby hzs hbb W ao cap xs hrow bo bcap ys hsrc hlen hB
  unfold Oper.wp execOp
  simp only [ho, resolve, invoke, builtin, Sem.run_bind, Sem.run_pure, Result.andThen_ok, List.map_toArray, List.map_cons, List.map_nil, hs, hx, hr]
  exact h ao' cap' w' h1 h2 h3
theorem flat_drop (L : Lies enc s) (xs : List α) (k : Nat) (hk : k ≤ xs.length) : (xs.drop k).flatMap enc = (xs.flatMap enc).drop (k * s) := by
  have h : xs.flatMap enc = (xs.take k).flatMap enc ++ (xs.drop k).flatMap enc := by rw [← List.flatMap_append, List.take_append_drop]
  have hl : ((xs.take k).flatMap enc).length = k * s := by rw [flat_len L, List.length_take, Nat.min_eq_left hk]
  rw [h, List.drop_append, hl, Nat.sub_self, List.drop_zero, List.drop_of_length_le (Nat.le_of_eq hl), List.nil_append]
theorem emp_of {E N g : Nat} {W : World} (hg : W.heap[g]? = some (.cells #[] E (0, 0))) (hN : N ≤ g) : RowOf enc s E N (some ⟨g, 0, none⟩) 0 ([] : List α) W :=
  ⟨by simp, .inr ⟨g, 0, #[], rfl, hN, hg, Nat.le_refl _, by unfold maxLen; omega, by simp, by simp⟩⟩
theorem one_of (L : Lies enc s) {E N g : Nat} {W : World} {z : α} (hg : W.heap[g]? = some (.cells (enc z).toArray E (0, 0))) (hN : N ≤ g) : RowOf enc s E N (some ⟨g, 0, none⟩) 1 [z] W := by
  refine ⟨by simp [L.len], .inr ⟨g, 1, (enc z).toArray, rfl, hN, hg, by simp, by unfold maxLen; omega, by simp [L.len], by have := L.len z; simp; rw [← this, List.take_length]⟩⟩
theorem row_base {E B B' : Nat} {ao : Option Addr} {cap : Nat} {xs : List α} {w : World} (h : RowOf enc s E B' ao cap xs w) (hB : B ≤ B') : RowOf enc s E B ao cap xs w := by
  obtain ⟨r1, r2⟩ := h
  refine ⟨r1, ?_⟩
  rcases r2 with r2 | ⟨g, cap', cur, hv, hb, rest⟩
  · exact .inl r2
  · exact .inr ⟨g, cap', cur, hv, Nat.le_trans hB hb, rest⟩
theorem at_new {E N : Nat} {ao : Option Addr} {cap : Nat} {xs : List α} {w w' : World} (h : RowOf enc s E N ao cap xs w) (ho : Only (RowAt ao) w w') : Only (fun q => N ≤ q) w w' := ho.mono (fun q _ e => by
  obtain ⟨g, hg, rfl⟩ := e
  exact (h.head g hg).2.1)
theorem RowOf.srcs {E B : Nat} {ao : Option Addr} {cap : Nat} {xs : List α} {w : World} (h : RowOf enc s E B ao cap xs w) : ∀ W, Only (fun q => w.heap.size ≤ q) w W → SrcOf enc W ao xs := fun W o =>
  (RowOf.src h).only o (fun ad e => ⟨(h.head ad e).2.2, fun e' => absurd (Nat.lt_of_lt_of_le (h.head ad e).2.2 e') (Nat.lt_irrefl _)⟩)
/-- The front of a row. -/
theorem part_front {P : Program} (L : Lies enc s) {t E B : Nat} {ao : Option Addr} {cap : Nat} {xs : List α} {W : World} (ht : P.underlying t = some (.slice (P.elem t))) (hsz : ∀ w, (sizeOf (P.elem t)).run P w = .ok s w) (h : RowOf enc s E B ao cap xs W) (k : Nat) (hk : k ≤ xs.length) : (∀ w : World, (Instr.slice t (.slice ao xs.length cap) none (some (.int .i64 k)) none).run P w = .ok (.slice ao k cap) w) ∧ ∀ W', Only (fun q => W.heap.size ≤ q) W W' → SrcOf enc W' ao (xs.take k) := by
  have hcap := h.cap_ge
  have hnone : ao = none → cap = 0 := fun e => by
    rcases h.2 with ⟨h1, _⟩ | ⟨g, cap', cur, hv, _⟩
    · simp only [Value.slice.injEq] at h1; exact h1.2.2
    · rw [e] at hv; simp at hv
  refine ⟨fun w => ?_, RowOf.srcs (h.take L k hk)⟩
  rw [run_slice_h w t ao xs.length cap ht .i64 k (by omega) (by omega), hsz w]
  show Result.ok (sliced ao 0 k cap s) w = _
  unfold sliced
  cases ao <;> simp [Addr.add]
/-- The back of a row. -/
theorem part_back {P : Program} (L : Lies enc s) {t E B : Nat} {ao : Option Addr} {cap : Nat} {xs : List α} {W : World} (ht : P.underlying t = some (.slice (P.elem t))) (hsz : ∀ w, (sizeOf (P.elem t)).run P w = .ok s w) (h : RowOf enc s E B ao cap xs W) (k : Nat) (hk : k ≤ xs.length) : ∃ bo, (∀ w : World, (Instr.slice t (.slice ao xs.length cap) (some (.int .i64 k)) none none).run P w = .ok (.slice bo (xs.length - k) (cap - k)) w) ∧ ∀ W', Only (fun q => W.heap.size ≤ q) W W' → SrcOf enc W' bo (xs.drop k) := by
  have hcap := h.cap_ge
  have hrun : ∀ w : World, (Instr.slice t (.slice ao xs.length cap) (some (.int .i64 k)) none none).run P w = .ok (sliced ao k xs.length cap s) w := fun w => by
    rw [run_slice_l w t ao xs.length cap ht .i64 k (by omega) (by omega), hsz w]
    rfl
  cases hao : ao with
  | none =>
    subst hao
    have hz : xs.length = 0 ∧ cap = 0 := by
      rcases h.2 with ⟨h1, _⟩ | ⟨g, cap', cur, hv, _⟩
      · simp only [Value.slice.injEq] at h1; exact h1.2
      · simp at hv
    refine ⟨none, fun w => ?_, fun W' _ => ⟨fun _ => List.drop_of_length_le (by omega), fun ad e => by cases e⟩⟩
    rw [hrun w]
    unfold sliced
    simp
  | some g =>
    subst hao
    have hh := h.head g rfl
    obtain ⟨b, off, sp⟩ := g
    have hh1 := hh.1
    simp only [Addr.mk.injEq, true_and] at hh1
    obtain ⟨rfl, rfl⟩ := hh1
    by_cases hkc : k = cap
    · refine ⟨some ⟨b, 0, none⟩, fun w => ?_, fun W' _ => ⟨(fun e => by cases e), fun ad e j u hu => ?_⟩⟩
      · rw [hrun w]
        unfold sliced
        simp [hkc]
      · rw [List.drop_of_length_le (by omega)] at hu
        simp at hu
    · refine ⟨some ⟨b, k * s, none⟩, fun w => ?_, fun W' o => ⟨(fun e => by cases e), fun ad e j u hu => ?_⟩⟩
      · rw [hrun w]
        unfold sliced
        rw [if_neg (by omega)]
        simp [Addr.add]
        exact fun e => e.symm
      · cases e
        rw [flat_drop L xs k hk, List.getElem?_drop] at hu
        have := (RowOf.srcs h W' o).2 _ rfl (k * s + j) u hu
        have e1 : (⟨b, 0, none⟩ : Addr).add (k * s + j) = ⟨b, k * s + j, none⟩ := by unfold Addr.add; split <;> simp_all
        have e2 : (⟨b, k * s, none⟩ : Addr).add j = ⟨b, k * s + j, none⟩ := by unfold Addr.add; split <;> simp_all
        rw [e2, ← e1]
        exact this
end
theorem infoP : (Try.prog.info? 64).map (fun i => (i.zero, i.size, i.bytes)) = some (some (.agg #[.int .i64 0, .int .i64 0, .string ⟨#[]⟩, .int .i64 0]), 4, 40) := by kernel_rfl
theorem sizeP (w : World) : (sizeOf (Try.prog.elem 26)).run Try.prog w = .ok 4 w := by kernel_rfl
/-- What the reference's writers may turn: the table's cell and its row. -/
def RS (b : Nat) (ao : Option Addr) (q : Nat) : Prop := q = b ∨ RowAt ao q
section
variable {B b : Nat} {M l2 : List Pr} {x : Pr} {ao ao' a2 : Option Addr} {cap cap' c2 : Nat} {w W W' w6 : World}
theorem RT.notAt (h : RT B b M ao cap W) : ¬ RowAt ao b := row_apart h.row h.box (by decide)
/-- The list has grown, in a row that is new or the old one; the table's cell says so. -/
theorem RT.grown (h : RT B b M ao cap W) (hr : RowP B ao' cap' l2 w6) (ho : Only (RowAt ao) W w6) (hn : NewRow W.heap.size ao ao') (n : Nat) (hnl : n = l2.length) :
    RT B b l2 ao' cap' (w6.setCell ⟨b, 0, none⟩ (.slice ao' n cap')) ∧ Only (RS b ao) W (w6.setCell ⟨b, 0, none⟩ (.slice ao' n cap')) ∧ w6.cell? ⟨b, 0, none⟩ = some (.slice ao M.length cap) ∧ w6.frozen? ⟨b, 0, none⟩ = false := by
  subst hnl
  have hb := lt_of_block h.box
  have hbox : w6.heap[b]? = some (.cells #[.slice ao M.length cap] 28 (0, 0)) := by rw [ho.block b hb h.notAt]; exact h.box
  refine ⟨⟨?_, ?_⟩, ?_, by rw [cell_of_blk hbox]; rfl, free_of_blk hbox 0⟩
  · have := blk_set hbox 0 (.slice ao' l2.length cap')
    rw [this]
    simp
  · exact hr.only (Only.setCell (S := fun q => q = b) (p := ⟨b, 0, none⟩) w6 rfl _) (fun g hg e => row_apart hr hbox (by decide) ⟨g, hg, e.symm⟩)
  · exact (ho.mono (fun q _ e => .inr e)).same (Only.setCell (S := RS b ao) (p := ⟨b, 0, none⟩) w6 (.inl rfl) _)
/-- Another list, in a row made since. -/
theorem RT.moved (h : RT B b M ao cap W) (hB : B ≤ b) (hr : RowP W.heap.size a2 c2 l2 w6) (ho : Only (fun q => W.heap.size ≤ q) W w6) (n : Nat) (hnl : n = l2.length) :
    RT B b l2 a2 c2 (w6.setCell ⟨b, 0, none⟩ (.slice a2 n c2)) ∧ Only (RS b ao) W (w6.setCell ⟨b, 0, none⟩ (.slice a2 n c2)) ∧ w6.cell? ⟨b, 0, none⟩ = some (.slice ao M.length cap) ∧ w6.frozen? ⟨b, 0, none⟩ = false := by
  subst hnl
  have hb := lt_of_block h.box
  have hbox : w6.heap[b]? = some (.cells #[.slice ao M.length cap] 28 (0, 0)) := by rw [ho.block b hb (fun e => absurd (Nat.lt_of_lt_of_le hb e) (Nat.lt_irrefl _))]; exact h.box
  refine ⟨⟨?_, ?_⟩, ?_, by rw [cell_of_blk hbox]; rfl, free_of_blk hbox 0⟩
  · have := blk_set hbox 0 (.slice a2 l2.length c2)
    rw [this]
    simp
  · exact (row_base hr (Nat.le_trans hB (Nat.le_of_lt hb))).only (Only.setCell (S := fun q => q = b) (p := ⟨b, 0, none⟩) w6 rfl _) (fun g hg e => row_apart hr hbox (by decide) ⟨g, hg, e.symm⟩)
  · exact Only.trans (S := RS b ao) (Only.cut (Only.refl _ _) ho (fun q e => e) |>.mono (fun _ _ e => e.elim)) (Only.setCell (S := RS b ao) (p := ⟨b, 0, none⟩) w6 (.inl rfl) _) (fun _ _ e => e)
end
end Go.Proofs.Ythgjedcelcanbaa.idx
