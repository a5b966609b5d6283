/- Operators: the comparison that All sorts by. -/
import Derived.Test.YtodgjkdhkohckaaDoorOper15
import Derived.LoopN
import Derived.Shelf.SlSortCmp.WholeK
namespace Go.Proofs.YtodgjkdhkohckaaDoor.opers
open Go.RowKit Go.Proofs.YtodgjkdhkohckaaDoor.own Go.Maps Go.Sort
def orF (a b : Int) : Int := if a ≠ 0 then a else b
set_option maxRecDepth 100000 in
set_option maxHeartbeats 2000000 in
theorem or_any (a b : Int) (g : Nat) (w : World) (hg : w.heap[g]? = some (.cells #[.int .i64 a, .int .i64 b] 3 (0, 0))) : Calls Tryd.prog 36 #[.slice (some ⟨g, 0, none⟩) 2 2] w fun e w' => e = .returned (.int .i64 (orF a b)) ∧ w' = w := by
  have c0 := cell_of_blk hg 0
  have c1 := cell_of_blk hg 1
  simp only [List.getElem?_toArray, List.getElem?_cons_zero, List.getElem?_cons_succ] at c0 c1
  clear hg
  by_cases ha : a = 0
  · have hE : Hid (orF a b = b) := Lib.hid (by unfold orF; rw [if_neg (by omega)])
    subst ha
    by_cases hb : b = 0
    · subst hb
      go_enter Tryd.func36, Tryd.ntmps36
      go_wp2_with fail
      refine wp_loop_rounds 3 ?_
      rw [rounds_succ]
      go_wp2_with fail
      rw [rounds_succ]
      go_wp2_with fail
      rw [rounds_succ]
      go_wp2_with fail
      go_ret
      exact ⟨by rw [hE.out]; rfl, rfl⟩
    · go_enter Tryd.func36, Tryd.ntmps36
      go_wp2_with fail
      refine wp_loop_rounds 3 ?_
      rw [rounds_succ]
      go_wp2_with fail
      rw [rounds_succ]
      go_wp2_with fail
      go_ret
      exact ⟨by rw [hE.out]; rfl, rfl⟩
  · have hE : Hid (orF a b = a) := Lib.hid (by unfold orF; rw [if_pos ha])
    go_enter Tryd.func36, Tryd.ntmps36
    go_wp2_with fail
    refine wp_loop_rounds 3 ?_
    rw [rounds_succ]
    go_wp2_with fail
    go_ret
    exact ⟨by rw [hE.out]; rfl, rfl⟩
def encO (x : Op3) : List Value := [.int .i64 x.p, .int .i64 x.k, .string x.n]
set_option maxRecDepth 100000 in
set_option maxHeartbeats 4000000 in
theorem all1_any (x y : Op3) (w : World) : Calls Tryd.prog 35 #[.agg #[.int .i64 x.p, .int .i64 x.k, .string x.n], .agg #[.int .i64 y.p, .int .i64 y.k, .string y.n]] w fun e w' => e = .returned (.int .i64 (cfO x y)) ∧ ∃ q os', w' = grow (w.drewN q) os' := by
  have ho : Only (fun _ => False) w ((w.alloc (opC x.p x.k x.n)).alloc (opC y.p y.k y.n)) := (Only.alloc _ _ _).same (Only.alloc _ _ _)
  have hx : OpAt w.heap.size x.p x.k x.n ((w.alloc (opC x.p x.k x.n)).alloc (opC y.p y.k y.n)) := (OpAt.new x.p x.k x.n w).later (Only.alloc _ _ _)
  have hy : OpAt (w.heap.size + 1) y.p y.k y.n ((w.alloc (opC x.p x.k x.n)).alloc (opC y.p y.k y.n)) := by
    have := OpAt.new y.p y.k y.n (w.alloc (opC x.p x.k x.n))
    rwa [show (w.alloc (opC x.p x.k x.n)).heap.size = w.heap.size + 1 by simp] at this
  have HE : Hid (cfO x y = orF (Lib.compareBytes x.n.data.toList y.n.data.toList) (Lib.compareInt x.k y.k)) := Lib.hid rfl
  have HC1 : Hid (∀ W, Calls Tryd.prog 37 #[.string x.n, .string y.n] W fun e w' => e = .returned (.int .i64 (Lib.compareBytes x.n.data.toList y.n.data.toList)) ∧ w' = W) := Lib.hid (fun W => Tryd.strings_Compare _ _ W)
  have HC2 : Hid (∀ W, Calls Tryd.prog 38 #[.int .i64 x.k, .int .i64 y.k] W fun e w' => e = .returned (.int .i64 (Lib.compareInt x.k y.k)) ∧ w' = W) := Lib.hid (fun W => Tryd.cmp_Compare_int _ _ W)
  have HW : Hid (∃ bs, ((w.alloc (opC x.p x.k x.n)).alloc (opC y.p y.k y.n)) = grow w bs) := Lib.hid ⟨_, by rw [alloc_eq_grow, alloc_eq_grow, grow_grow]⟩
  have hz : ((w.alloc (opC x.p x.k x.n)).alloc (opC y.p y.k y.n)).heap.size = w.heap.size + 2 := by simp
  generalize Lib.compareBytes x.n.data.toList y.n.data.toList = c1 at *
  generalize Lib.compareInt x.k y.k = c2 at *
  go_enter Tryd.func35, Tryd.ntmps35
  go_wp2_with fail
  generalize ((w.alloc (opC x.p x.k x.n)).alloc (opC y.p y.k y.n)) = W2 at *
  have HK : Hid (∀ w', Only (fun _ => False) W2 w' → w'.cell? ⟨w.heap.size, 2, none⟩ = some (.string x.n) ∧ w'.cell? ⟨w.heap.size + 1, 2, none⟩ = some (.string y.n) ∧ w'.cell? ⟨w.heap.size, 1, none⟩ = some (.int .i64 x.k) ∧ w'.cell? ⟨w.heap.size + 1, 1, none⟩ = some (.int .i64 y.k)) := Lib.hid (fun w' h => ⟨(hx.later h).cells.2.2, (hy.later h).cells.2.2, (hx.later h).cells.2.1, (hy.later h).cells.2.1⟩)
  have HN : Hid ((W2.alloc (.cells #[.int .i64 c1, .int .i64 c2] 3)).heap[W2.heap.size]? = some (.cells #[.int .i64 c1, .int .i64 c2] 3 (0, 0))) := Lib.hid (heap_alloc_new _ _)
  clear hx hy hz
  go_region_held3 (fun w' => w'.cell? ⟨w.heap.size, 2, none⟩ = some (.string x.n) ∧ w'.cell? ⟨w.heap.size + 1, 2, none⟩ = some (.string y.n) ∧ w'.cell? ⟨w.heap.size, 1, none⟩ = some (.int .i64 x.k) ∧ w'.cell? ⟨w.heap.size + 1, 1, none⟩ = some (.int .i64 y.k)) (first | exact HK.out _ (Only.drew _ _) | exact HK.out _ ((Only.drew _ _).same (Only.alloc _ _ _)) | go_keep) (first
    | (go_at_call 37; refine (HC1.out _).mono ?_; rintro e wx ⟨rfl, rfl⟩)
    | (go_at_call 38; refine (HC2.out _).mono ?_; rintro e wx ⟨rfl, rfl⟩)
    | (go_at_call 36; refine (or_any c1 c2 W2.heap.size _ (by exact HN.out)).mono ?_; rintro e wx ⟨rfl, rfl⟩))
  obtain ⟨bs, hbs⟩ := HW.out
  have hfin : (W2.alloc (.cells #[.int .i64 c1, .int .i64 c2] 3)).drew = grow (w.drewN 1) (bs ++ #[.cells #[.int .i64 c1, .int .i64 c2] 3]) := by
    rw [alloc_eq_grow, hbs, grow_grow]
    rfl
  have HF := Lib.hid hfin
  clear hfin hbs HW HN HK ho
  go_wp2_with fail
  go_ret
  exact ⟨by rw [HE.out]; rfl, 1, _, HF.out⟩
theorem cmpLays (blk off size : Nat) (w : World) : CmpLays Tryd.prog 35 #[] encO 3 cfO blk off size w := fun m os dk _ x y => all1_any x y _
end Go.Proofs.YtodgjkdhkohckaaDoor.opers
