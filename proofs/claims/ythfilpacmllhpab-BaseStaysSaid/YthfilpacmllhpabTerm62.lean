

/- Terms: sound. -/
import Derived.Test.YthfilpacmllhpabTerm61
import Derived.Test.YthfilpacmllhpabTermRow
import Derived.Deep.LoopGhost
namespace Go.Proofs.Ythfilpacmllhpab.terms
set_option maxRecDepth 100000
open Go.RowKit Go.Proofs.Ythfilpacmllhpab.own Go.Maps
theorem WaysM.pop {w : World} {k : Nat} {so : Option Addr} {sc m : Nat} {xs : List Ls} {wr : World} (h : WaysM w k so sc xs wr) (hm : xs.length = m + 1) : ∃ ys x, xs = ys ++ [x] ∧ ys.length = m ∧ xs[m]? = some x ∧ WaysM w k so sc ys wr ∧ Row (fun q => q < w.heap.size ∧ q ≠ k) w x.ao x.l ∧ x.l.length ≤ maxLen := by
  obtain ⟨x, hx⟩ : ∃ x, xs[m]? = some x := ⟨_, List.getElem?_eq_getElem (by omega)⟩
  have e : xs = xs.take m ++ [x] := by
    have := take_snoc hx
    rw [← this, ← hm, List.take_length]
  have hr := h.row.take liesL m (by omega)
  exact ⟨xs.take m, x, e, by rw [List.length_take]; omega, hx, ⟨hr, h.own, fun y hy => h.lies y (List.mem_of_mem_take hy), h.set⟩, (h.lies x (List.mem_of_getElem? hx))⟩
/-- The first list under way: the term alone. -/
theorem WaysM.start {t : T} {w W2 : World} {ao : Option Addr} {cap m b : Nat} (hl : Lies w ao t.l) (hs : t.Sane) (ho : Only (fun _ => False) w W2) (hm : w.heap.size ≤ m) (hmap : W2.heap[m]? = some (.map #[] 0)) (hb : W2.heap[b]? = some (.cells #[.int .i64 t.k, .int .i64 t.n, .string t.s, .slice ao t.l.length cap] 31 (0, 0))) :
    WaysM W2 m (some ⟨W2.heap.size, 0, none⟩) 1 [⟨[t], some ⟨b, 0, none⟩, 1⟩] (W2.alloc (.cells #[.slice (some ⟨b, 0, none⟩) 1 1] 29)) := by
  have hbm : b ≠ m := by rintro rfl; rw [hb] at hmap; cases hmap
  have h1 := lt_of_block hb
  have h2 := ho.size
  have ho3 : Only (fun k => k = m) W2 (W2.alloc (.cells #[.slice (some ⟨b, 0, none⟩) 1 1] 29)) := Only.alloc _ _ _
  refine ⟨LsP.one (x := ⟨[t], some ⟨b, 0, none⟩, 1⟩) (Nat.le_refl _) (heap_alloc_new W2 _), ho3, fun x hx => ?_, ?_⟩
  · rw [List.mem_singleton.1 hx]
    refine ⟨?_, by simp [maxLen]⟩
    have h := Row.ofBlock (P := fun q => q < W2.heap.size ∧ q ≠ m) (its := [⟨t, ao, cap⟩]) hb (by simp [encIt]) ⟨h1, hbm⟩ (fun i x hx => by
      have hm := List.mem_of_getElem? hx
      rw [List.mem_singleton.1 hm]
      exact ⟨hs, (Row.only hl ho (fun _ e => e) (fun _ _ e => e)).mono (fun k hk => ⟨by omega, by omega⟩)⟩)
    exact h
  · exact ⟨#[], 0, by rw [(Only.alloc (fun _ => False) W2 _).block _ (lt_of_block hmap) (fun e => e)]; exact hmap, fun e he => by simp at he⟩
end Go.Proofs.Ythfilpacmllhpab.terms
