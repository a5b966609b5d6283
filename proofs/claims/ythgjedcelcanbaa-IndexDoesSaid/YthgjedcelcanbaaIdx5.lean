/- Selection by keys: an entry ahead of a row that has no room; a row with an entry more. -/
import Derived.Test.YthgjedcelcanbaaIdx4
namespace Go.Proofs.Ythgjedcelcanbaa.idx
set_option maxRecDepth 100000
open Go.RowKit Go.Proofs.Ythgjedcelcanbaa.own Go.Lib
theorem Only.cut {S : Nat → Prop} {a b c : World} (h : Only (fun _ => False) a b) (h' : Only S b c) (hS : ∀ k, S k → a.heap.size ≤ k) : Only (fun _ => False) a c :=
  h.trans h' (fun k hk e => by have := hS k e; omega)
set_option maxHeartbeats 8000000 in
theorem insert_grow (g cap : Nat) (xs : List En) (e : En) (vb : Nat) (w : World) (h : RowE (some ⟨g, 0, none⟩) cap xs w) (hv : Five vb e w) (hl : xs.length ≤ 1000000) (h0 : 0 < xs.length) (hroom : cap < xs.length + 1) :
    Calls Try.prog 36 #[.slice (some ⟨g, 0, none⟩) xs.length cap, .int .i64 0, .slice (some ⟨vb, 0, none⟩) 1 1] w fun r w' => ∃ cap', r = .returned (.slice (some ⟨w.heap.size, 0, none⟩) (xs.length + 1) cap') ∧ RowE (some ⟨w.heap.size, 0, none⟩) cap' (e :: xs) w' ∧ Only (fun _ => False) w w' := by
  obtain ⟨g', cur, hg', hb, hnc, hm, hs, ht⟩ := h.block h0
  obtain rfl : g = g' := by simpa using hg'
  obtain ⟨i0, hi0, hz0, hz1, hz2⟩ := info_parts infoE
  obtain ⟨n, hn⟩ : ∃ n, n = xs.length := ⟨_, rfl⟩
  have hfl : (xs.flatMap encE).length = n * 5 := by rw [hn]; exact flat_len liesE xs
  have hVl : (encE e).length = 5 := rfl
  have hone : ∀ v ∈ xs.flatMap encE, v.oneCell' = true := fun v hv => by
    obtain ⟨x, _, hx⟩ := List.mem_flatMap.1 hv
    exact liesE.one x v hx
  rw [← hn] at h0 hroom hl ht hnc ⊢
  have hold : (Builtin.firstCells i0.size 0 (.slice (some ⟨g, 0, none⟩) 0 cap)).run Try.prog w.drew = .ok ([] : List Value).toArray w.drew := run_firstCells_some (w := w.drew) i0.size 0 ⟨g, 0, none⟩ 0 cap [] (by simp) (fun j v hj => by simp at hj)
  have hgr : n + 1 ≤ grownCap w (0 + (n + 1)) cap 60 := by have := grownCap_ge w (0 + (n + 1)) cap 60; omega
  have hle : grownCap w (0 + (n + 1)) cap 60 ≤ maxLen := grownCap_le_maxLen w (0 + (n + 1)) cap 60 (by unfold maxLen; omega)
  have hrz0 := fun ty => Lib.run_append_grow_zeros w 51 3 ty 60 i0 _ .i64 .i64 Try.underlying51 Try.underlying3 hi0 hz0 (some ⟨g, 0, none⟩) 0 cap [] hold (n + 1) (by omega) (by omega) (by omega) (by omega) (by rw [hz2]; omega) (growslice_fits (by omega) (by rw [hz2]; omega))
  rw [Nat.zero_add] at hgr hle
  simp only [Nat.zero_add] at hrz0
  obtain ⟨Z, hZ, hZs⟩ : ∃ Z : Array Value, Z = ([] : List Value).toArray ++ Builtin.zeroCells (Value.agg #[.int .i64 0, .int .i64 0, .string ⟨#[]⟩, .int .i64 0, .int .i64 0]).cells (n + 1) ++ Builtin.zeroCells (Value.agg #[.int .i64 0, .int .i64 0, .string ⟨#[]⟩, .int .i64 0, .int .i64 0]).cells (grownCap w (n + 1) cap 60 - (n + 1)) ∧ Z.size = grownCap w (n + 1) cap 60 * 5 := by
    refine ⟨_, rfl, ?_⟩
    simp [Builtin.zeroCells, Value.cells]
    omega
  rw [← hZ] at hrz0
  clear hZ hold
  generalize grownCap w (n + 1) cap 60 = G at *
  obtain ⟨W0, hW0⟩ : ∃ W0, W0 = w.drew.alloc (.cells Z 60) := ⟨_, rfl⟩
  have hb0 : W0.heap[w.heap.size]? = some (.cells Z 60 (0, 0)) := by rw [hW0]; exact heap_alloc_new w.drew _
  have o0 : Only (fun _ => False) w W0 := by rw [hW0]; exact (Only.drew _ _).same (Only.alloc _ _ _)
  have hrz : ∀ ty, (Builtin.append_ #[51, 3] ty #[.slice (some ⟨g, 0, none⟩) 0 cap, .int .i64 ((n : Int) + 1)]).run Try.prog w = .ok (.slice (some ⟨w.heap.size, 0, none⟩) (n + 1) G) W0 := fun ty => by
    have := hrz0 ty
    rw [← hW0] at this
    exact this
  have hgb : g < w.heap.size := lt_of_block hb
  have hbg0 : W0.heap[g]? = some (.cells cur 60 (0, 0)) := by rw [o0.block g hgb (fun e => e)]; exact hb
  have hv0 : Five vb e W0 := hv.only o0 (fun e => e)
  have hvb : vb < w.heap.size := lt_of_block hv
  obtain ⟨W1, hW1⟩ : ∃ W1, W1 = W0.setRow w.heap.size (lay Z.toList 0 (encE e)).toArray := ⟨_, rfl⟩
  obtain ⟨W2, hW2⟩ : ∃ W2, W2 = W1.drew.setRow w.heap.size (lay (lay Z.toList 0 (encE e)) 5 (xs.flatMap encE)).toArray := ⟨_, rfl⟩
  have hlz : (lay Z.toList 0 (encE e)).length = G * 5 := by rw [lay_len (by rw [hVl, Array.length_toList, hZs]; omega), Array.length_toList, hZs]
  have hb1 : W1.heap[w.heap.size]? = some (.cells (lay Z.toList 0 (encE e)).toArray 60 (0, 0)) := by rw [hW1]; exact setRow_heap W0 _ Z _ _ _ hb0
  have hb2 : W2.heap[w.heap.size]? = some (.cells (lay (lay Z.toList 0 (encE e)) 5 (xs.flatMap encE)).toArray 60 (0, 0)) := by rw [hW2]; exact setRow_heap W1.drew _ _ _ _ _ hb1
  have o1 : Only (· = w.heap.size) W0 W1 := by rw [hW1]; exact only_setRow _ _ _
  have hbg1 : W1.drew.heap[g]? = some (.cells cur 60 (0, 0)) := by
    show W1.heap[g]? = _
    rw [o1.block g (lt_of_block hbg0) (by omega)]; exact hbg0
  have o2 : Only (· = w.heap.size) W0 W2 := by rw [hW2]; exact (o1.same (Only.drew _ _)).same (only_setRow _ _ _)
  have hcp1 : ∀ ty dc, (Builtin.copy_ #[51, 50] ty #[.slice (some ⟨w.heap.size, 0, none⟩) (n + 1) dc, .slice (some ⟨vb, 0, none⟩) 1 1]).run Try.prog W0 = .ok (goInt (1 : Nat)) W1 := fun ty dc => by
    rw [hW1]
    exact run_copy_wide W0 51 50 ty 60 i0 5 Try.underlying51 hi0 hz1 w.heap.size 0 (n + 1) dc ⟨vb, 0, none⟩ 1 1 _ 60 (encE e) 1 hb0 (by simp only [Nat.min_def]; split <;> omega) (by rw [hVl]) (fun j v hj => hv0.src.2 _ rfl j v (by simpa using hj)) (by rw [hVl, hZs]; omega) (fun v hv => liesE.one e v hv)
  have hcp2 : ∀ ty dc sc, (Builtin.copy_ #[51, 51] ty #[.slice (some ⟨w.heap.size, 5, none⟩) n dc, .slice (some ⟨g, 0, none⟩) n sc]).run Try.prog W1.drew = .ok (goInt n) W2 := fun ty dc sc => by
    rw [hW2]
    have := run_copy_wide W1.drew 51 51 ty 60 i0 5 Try.underlying51 hi0 hz1 w.heap.size 5 n dc ⟨g, 0, none⟩ n sc _ 60 (xs.flatMap encE) n hb1 (by simp only [Nat.min_def]; split <;> omega) hfl (fun j v hj => by
      have he : (⟨g, 0, none⟩ : Addr).add j = ⟨g, j, none⟩ := by unfold Addr.add; split <;> simp_all
      rw [he, cell_of_blk hbg1]
      rw [← ht, List.getElem?_take] at hj
      split at hj
      · simpa using hj
      · cases hj) (by simp only [List.size_toArray]; rw [hlz, hfl]; omega) hone
    simpa using this
  have HF : Hid (RowE (some ⟨w.heap.size, 0, none⟩) G (e :: xs) W2 ∧ Only (fun _ => False) w W2) := Lib.hid ⟨RowE.make hb2 (by simp; omega) hle (by simp only [List.size_toArray]; rw [lay_len (by rw [hfl, hlz]; omega), hlz]) (by
    have h5 : (e :: xs).length * 5 = 5 + (xs.flatMap encE).length := by rw [hfl, hn]; simp; omega
    rw [h5, List.flatMap_cons]
    exact lay_front2 hVl (by rw [hfl, Array.length_toList, hZs]; omega)), Only.cut o0 o2 (fun k e => by have e' : k = w.heap.size := e; omega)⟩
  have hcm : cap ≤ 9223372036854775807 := by unfold maxLen at hm; omega
  have hGm : G ≤ 9223372036854775807 := by unfold maxLen at hle; omega
  have hz : ¬ ((0 : Int) = (n : Int)) := by omega
  have hz' : ((0 : Int) == (n : Int)) = false := by simpa using hz
  have hw1 : IntKind.i64.wrap ((n : Int) + 1) = (n : Int) + 1 := IntWalk.i64_in _ (by omega)
  have hgt : (n : Int) + 1 > (cap : Int) := by omega
  have hnc' : (n : Int) ≤ (cap : Int) := by omega
  have hGc : ¬ G = 1 := by omega
  have hG0 : ¬ G = 0 := by omega
  have hc0 : ¬ cap = 0 := by omega
  have mixed : Try.prog.follows Departure.mixedOrders = true := by kernel_rfl
  have hwr1 : IntKind.i64.wrap 1 = 1 := by decide
  have h11 : (1 : Int) ≤ (n : Int) + 1 := by omega
  have h00 : (0 : Int) ≤ (n : Int) + 1 := by omega
  have htn : ((n : Int) + 1).toNat = n + 1 := by omega
  clear hb hb0 hb1 hb2 o0 o1 o2 hW0 hW1 hW2 hone hfl ht hs hv h hn hg' hrz0 hbg0 hbg1 hv0 hlz hZs hgb hvb hle hgr
  go_enter Try.func36, Try.ntmps36
  go_wp2_with (first
    | (at_builtin; refine Lib.wpList_append_run _ rfl _ _ _ _ rfl _ _ rfl rfl _ _ (hrz _) ?_)
    | (refine wpList_copy_is _ rfl _ _ 51 50 rfl _ _ rfl rfl (hcp1 _ _) ?_))
  go_region_law_o (refine step_copy_is rfl _ _ 51 51 rfl _ _ (by simp [Act.eval, Act.put]) (by simp [Act.eval, Act.put]) (hcp2 _ _ _) ?_)
  all_goals
    go_wp2_with fail
    go_ret
    exact ⟨G, rfl, HF.out⟩
end Go.Proofs.Ythgjedcelcanbaa.idx
