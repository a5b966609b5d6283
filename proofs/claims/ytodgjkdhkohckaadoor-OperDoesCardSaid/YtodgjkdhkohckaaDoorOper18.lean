/- Operators: what a map holds is put behind a row. -/
import Derived.RangeFuncBox
import Derived.Deep.AppendLies
import Derived.Maps.OwnIn
import Derived.Test.YtodgjkdhkohckaaDoorOper17
namespace Go.Proofs.YtodgjkdhkohckaaDoor.opers
open Go.RowKit Go.Proofs.YtodgjkdhkohckaaDoor.own Go.Maps Go.Sort Go.Shelf
attribute [local go_sem] Oper.semAt_some
theorem infoO : (Tryd.prog.info? 32).map (fun i => (i.zero, i.size, i.bytes)) = some (some (.agg #[.int .i64 0, .int .i64 0, .string ⟨#[]⟩]), 3, 32) := by kernel_rfl
theorem OpAt.kept {b : Nat} {p k : Int} {n : ByteArray} {W W' : World} {row : Option Nat} (h : OpAt b p k n W) (hg : W.grownBy W' row) (hr : ∀ r, row = some r → ∃ o : Obj, W.heap[r]? = some o ∧ o.isCells = false) : OpAt b p k n W' := by
  have hb := lt_of_block h
  unfold OpAt at *
  rw [hg.block b hb (fun e => by
    obtain ⟨o, ho, hc⟩ := hr b e.symm
    rw [h] at ho
    cases ho
    cases hc)]
  exact h
/-- The row under way: in its box, behind base. -/
def SeqI (B0 base : Nat) (w : World) (xs0 pre : List Op3) (W : World) : Prop :=
  (∃ v, Boxed W B0 29 v ∧ W.ownsRow base 32 3 v (xs0 ++ pre).length ((xs0 ++ pre).flatMap encO) ∧ True) ∧ Below base w W
theorem flat_len (xs : List Op3) : (xs.flatMap encO).length = 3 * xs.length := by
  induction xs with
  | nil => rfl
  | cons x r ih => rw [List.flatMap_cons, List.length_append, ih, List.length_cons]; show 3 + _ = _; omega
set_option maxRecDepth 100000 in
set_option maxHeartbeats 4000000 in
theorem appendSeq_any (Bm b nn base : Nat) (D0 : D1) (ao : Option Addr) (cap : Nat) (xs0 : List Op3) (w : World) (hbase : base ≤ w.heap.size) (hm : w.cell? ⟨Bm, 0, none⟩ = some (.map (some b))) (hBm : Bm < w.heap.size) (hown : OMap w b nn D0)
    (hrow : w.ownsRow base 32 3 (.slice ao xs0.length cap) xs0.length (xs0.flatMap encO)) (hsz : xs0.length + Maps.size D0 ≤ 1000000) :
    Calls Tryd.prog 33 #[.slice ao xs0.length cap, .func (.func 51) #[] #[.pointer (some ⟨Bm, 0, none⟩)]] w fun e w' => ∃ xs v', ValsOf D0 xs ∧ e = .returned v' ∧ w'.ownsRow base 32 3 v' (xs0 ++ xs).length ((xs0 ++ xs).flatMap encO) ∧ Below base w w' := by
  obtain ⟨i0, hi, hz0, hz1, hz2⟩ := info_parts infoO
  have hm1 := hm
  refine (callsIn_wide (n := 5)).1 (callsIn_of_wp_marks Tryd.func33 rfl trivial (wpIn_wide.2 ?_))
  simp only [Tryd.ntmps33, List.size_toArray, List.length_cons, List.length_nil, Nat.reduceAdd, Nat.reduceSub, Array.replicate_succ, Array.replicate_zero, List.push_toArray, List.append_toArray, List.nil_append, List.cons_append]
  go_wp2_with fail
  have ho : Only (fun _ => False) w (w.alloc (.cells #[.slice ao xs0.length cap] 29)) := Only.alloc _ _ _
  have hB : Boxed (w.alloc (.cells #[.slice ao xs0.length cap] 29)) w.heap.size 29 (.slice ao xs0.length cap) := Boxed.new _ _ _
  have hr1 : (w.alloc (.cells #[.slice ao xs0.length cap] 29)).ownsRow base 32 3 (.slice ao xs0.length cap) xs0.length (xs0.flatMap encO) := hrow.alloc _
  have hs1 : (w.alloc (.cells #[.slice ao xs0.length cap] 29)).heap.size = w.heap.size + 1 := by simp
  have hbm1 : (w.alloc (.cells #[.slice ao xs0.length cap] 29)).cell? ⟨Bm, 0, none⟩ = some (.map (some b)) := (ho.cell (p := ⟨Bm, 0, none⟩) hBm (fun e => e)).trans hm
  have hmap1 : OMap (w.alloc (.cells #[.slice ao xs0.length cap] 29)) b nn D0 := map_only hown ho (fun e => e)
  generalize w.alloc (.cells #[.slice ao xs0.length cap] 29) = w1 at *
  have hseq : SeqStopsK Fence.wide (5 - 1) Tryd.prog 51 #[.pointer (some ⟨Bm, 0, none⟩)] (fun x : Op3 => #[aggO x]) KeepsWalks (ValsOf D0) (fun _ => True) (Maps.size D0) w1 :=
    fun l J Jx W hW hJ hJx hY h0 => values1_in (5 - 1) (by omega) l Bm b nn D0 J Jx hY W hJ ((hW.cell (p := ⟨Bm, 0, none⟩) (by show Bm < _; omega)).trans hbm1) (map_only hmap1 (Only.of_below hW (fun _ => False)) (fun e => e)) h0
  have hb0 : Below base w w1 := ho.to_below.mono hbase
  refine wpIn_wide.1 (wpIn_rangeFunc_ownH (F := Fence.wide) (n := 5) rfl (by omega) (gf := 51) (lb := #[.pointer (some ⟨Bm, 0, none⟩)]) rfl trivial (enters_of Tryd.func51 (by kernel_rfl) rfl) hseq walksK_t
    walksK_b (Below.refl _ _) (fun _ => rfl)
    (fun (pre : List Op3) W => SeqI w.heap.size base w1 xs0 pre W) (fun _ _ _ => False)
    (OwnFrom.and (Own.from (holdsRow_own base w.heap.size 29 32 3 (fun pre => (xs0 ++ pre).length) (fun pre => (xs0 ++ pre).flatMap encO) (fun _ _ => True)) _) (ownFrom_below (by omega) (by omega)))
    (fun _ _ _ _ _ h _ _ => h) ⟨⟨_, hB, by simpa using hr1, trivial⟩, Below.refl _ _⟩
    (fun x a' W => ∃ Bx, w1.heap.size ≤ Bx ∧ OpAt Bx x.p x.k x.n W ∧ a' = { tmps := #[.slice ao xs0.length cap, .func (.func 51) #[] #[.pointer (some ⟨Bm, 0, none⟩)], .pointer (some ⟨w.heap.size, 0, none⟩), undef, .slice none 0 0, .pointer (some ⟨Bx, 0, none⟩), .func (.func 51) #[] #[.pointer (some ⟨Bm, 0, none⟩)], aggO x, undef, undef, undef, undef, undef], defers := [] })
    (fun x a' _ A B row h hg hr => by
      obtain ⟨Bx, h1, h2, h3⟩ := h
      exact ⟨Bx, h1, h2.kept hg (fun r e => (hr r e).2), h3⟩) ?assign ?body ?done ?stop)
  case stop => intro D c pre W _ _ h _; exact h.elim
  case assign =>
    intro l pre x W K hI hK
    have HI := Lib.hid hI
    have HKK := Lib.hid hK
    clear hI hK
    gi_wp2
    obtain ⟨⟨v, h1, h2, h3⟩, h4⟩ := HI.out
    exact HKK.out _ _ ((KeepsOthers.alloc _ _).from _) (KeepsWalks.alloc _ _) ⟨⟨v, h1.alloc _, h2.alloc _, h3⟩, h4.alloc (by have := h4.size; omega) _⟩ ⟨W.heap.size, h4.size, heap_alloc_new W _, rfl⟩
  case body =>
    rintro l pre x a' W hl ⟨r, hr⟩ hI ⟨Bx, hBx, hqx, rfl⟩ hlt
    obtain ⟨⟨v, hv, hrw, _⟩, hbl⟩ := hI
    obtain ⟨x0, x1, x2⟩ := hqx.cells
    have hc := hv.cell
    have hf := hv.frozen
    have hlen : (xs0 ++ pre).length + 1 ≤ 1000000 := by rw [List.length_append]; omega
    have hsz1 := hbl.size
    have HEQ : Hid ((xs0 ++ (pre ++ [x])).length = (xs0 ++ pre).length + 1 ∧ (xs0 ++ (pre ++ [x])).flatMap encO = (xs0 ++ pre).flatMap encO ++ [.int .i64 x.p, .int .i64 x.k, .string x.n]) := Lib.hid ⟨by simp; omega, by rw [← List.append_assoc, List.flatMap_append]; rfl⟩
    generalize (xs0 ++ pre).length = m at *
    generalize (xs0 ++ pre).flatMap encO = ys at *
    gi_wp2_with (first | (gi_at_builtin; apply Classical.byContradiction; intro hstop) | gi_in)
    apply hstop
    clear hstop
    refine wpListIn_append_own_at _ rfl _ _ 29 rfl base 32 i0 _ 3 32 Tryd.underlying29 hi hz0 hz1 hz2 rfl (by decide) v m ys rfl (hrw.alloc _) ⟨W.heap.size, 0, none⟩ 1 1 [.int .i64 x.p, .int .i64 x.k, .string x.n] rfl rfl ?g9 ?g10 ?g11 ?g12 ?g13 ?g14
    case g9 => exact fun j u hu => World.news_of_block (cs := #[.int .i64 x.p, .int .i64 x.k, .string x.n]) (t := 32) (fr := (0, 0)) (heap_alloc_new W _) j u (by simpa using hu)
    case g10 => intro u hu; simp at hu; rcases hu with rfl | rfl | rfl <;> rfl
    case g11 => unfold maxLen; omega
    case g12 => omega
    case g13 => simp; omega
    intro v' w3 hown' hgrow _ _
    obtain ⟨g', cap', rfl⟩ := ownsRow_succ hown'
    obtain ⟨hv1, hv2, hr2, hk2, hb2⟩ := hv.appended (by decide) hrw (by omega) hbase hown' hgrow
    have hc1 := hv1.cell
    have hf1 := hv1.frozen
    gi_wp2
    have hkw : KeepsWalks W (w3.setCell ⟨w.heap.size, 0, none⟩ (.slice (some ⟨g', 0, none⟩) (m + 1) cap')) := ⟨hk2.size, fun k o hk ho => hk2.same k o hk (Obj.not_cells_of_walk ho)⟩
    exact ⟨hk2.from _, hkw, ⟨⟨_, hv2, by rw [HEQ.out.1, HEQ.out.2]; exact hr2, trivial⟩, hbl.trans hb2⟩⟩
  case done =>
    rintro D ys W hD hS hI hK
    obtain ⟨⟨v, hv, hrw, _⟩, hbl⟩ := hI
    have hc := hv.cell
    have HR := Lib.hid (And.intro hrw hbl)
    have HS := Lib.hid hS
    have HV := Lib.hid hv
    clear hrw hbl hS hv
    go_wp2_with fail
    refine ⟨by simp, .inl ⟨_, _, rfl, run_takeDeferred hK, ?_⟩⟩
    exact ⟨_, results_tmp rfl _ _ _, ys, v, HS.out, rfl, ownsRow_putObj HR.out.1 _ hK rfl, (hb0.trans HR.out.2).trans (belowK_b (w := w) hbase W D _ _ (by omega) hK rfl rfl)⟩
end Go.Proofs.YtodgjkdhkohckaaDoor.opers
