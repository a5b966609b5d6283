/- Selection by keys: an entry ahead of a row. -/
import Derived.Test.YthgjedcelcanbaaIdx3
import Derived.Shelf.RegionOpenPlain
namespace Go.Proofs.Ythgjedcelcanbaa.idx
set_option maxRecDepth 100000
open Go.RowKit Go.Proofs.Ythgjedcelcanbaa.own Go.Lib
theorem lay_front {L F V : List Value} (hV : V.length = 5) (hL : 5 + F.length ≤ L.length) : (lay (lay L 5 F) 0 V).take (5 + F.length) = V ++ F := by
  unfold lay
  simp only [List.take_zero, List.nil_append, Nat.zero_add, hV]
  rw [List.take_append, hV, List.take_of_length_le (by omega), List.append_assoc, List.drop_append]
  have h1 : (L.take 5).length = 5 := by rw [List.length_take]; omega
  rw [h1, List.drop_of_length_le (by omega), List.nil_append, Nat.sub_self, List.drop_zero, Nat.add_sub_cancel_left, List.take_append]
  rw [List.take_of_length_le (Nat.le_refl _), Nat.sub_self, List.take_zero, List.append_nil]
theorem lay_front2 {L F V : List Value} (hV : V.length = 5) (hL : 5 + F.length ≤ L.length) : (lay (lay L 0 V) 5 F).take (5 + F.length) = V ++ F := by
  unfold lay
  simp only [List.take_zero, List.nil_append, Nat.zero_add, hV]
  have h1 : (V ++ List.drop 5 L).take 5 = V := by rw [List.take_append, hV, List.take_of_length_le (by omega), Nat.sub_self, List.take_zero, List.append_nil]
  rw [h1, List.append_assoc, List.take_append, hV, List.take_of_length_le (by omega), Nat.add_sub_cancel_left, List.take_append, List.take_of_length_le (Nat.le_refl _), Nat.sub_self, List.take_zero, List.append_nil]
theorem RowE.block {ao : Option Addr} {cap : Nat} {xs : List En} {w : World} (h : RowE ao cap xs w) (hn : 0 < xs.length) : ∃ g cur, ao = some ⟨g, 0, none⟩ ∧ w.heap[g]? = some (.cells cur 60 (0, 0)) ∧ xs.length ≤ cap ∧ cap ≤ maxLen ∧ cur.size = cap * 5 ∧ cur.toList.take (xs.length * 5) = xs.flatMap encE := by
  rcases h.2 with ⟨h1, h2⟩ | ⟨g, cap', cur, hv, _, hb, h3, h4, h5, h6⟩
  · omega
  · simp only [Value.slice.injEq] at hv
    obtain ⟨rfl, _, rfl⟩ := hv
    exact ⟨g, cur, rfl, hb, h3, h4, h5, h6⟩
theorem RowE.make {g cap : Nat} {cur : Array Value} {xs : List En} {w : World} (hb : w.heap[g]? = some (.cells cur 60 (0, 0))) (hn : xs.length ≤ cap) (hm : cap ≤ maxLen) (hs : cur.size = cap * 5) (ht : cur.toList.take (xs.length * 5) = xs.flatMap encE) : RowE (some ⟨g, 0, none⟩) cap xs w :=
  ⟨flat_len liesE xs, .inr ⟨g, cap, cur, rfl, Nat.zero_le _, hb, hn, hm, hs, ht⟩⟩
theorem overlaps_apart (w : World) (vb g o lb cb : Nat) (e : En) (cur : Array Value) (hv : Five vb e w) (hb : w.heap[g]? = some (.cells cur 60 (0, 0))) (hc : cur.size ≠ 0) (hne : vb ≠ g) :
    (callFunc 40 #[.slice (some ⟨vb, 0, none⟩) 1 1, .slice (some ⟨g, o, none⟩) lb cb]).run Try.prog w = .ok (.value (.bool false)) w := by
  obtain ⟨i0, hi0, hz0, hz1, hz2⟩ := info_parts infoE
  have hv' := hv
  unfold Five at hv'
  rw [run_callFunc_extern Try.func40 (by kernel_rfl) (by kernel_rfl) (by kernel_rfl) (e := Extern.SlicesOverlaps.overlaps #[50, 50] #[4]) (by kernel_rfl),
    Lib.run_overlaps_apart w 50 4 60 Try.underlying50 5 (fun w => by simp [sizeOf, typeInfo, hi0, hz1]) ⟨vb, 0, none⟩ ⟨g, o, none⟩ 1 1 lb cb hne 60 60 5 cur.size
      (by simp [World.shape?, hv']) (by simp [World.shape?, hb]) hc (free_of_blk hv' 0) (free_of_blk hv' 5)]
  rfl
theorem wpList_copy_is {P : Program} (w : World) {ops : Array Oper} {rest : List Oper} {o : Oper} {a : Act} {Q : Exit → Act → World → Prop} (hgd : o.guard = none) (d s : Operand) (t t' : TypeId)
    (ho : o.op = .call { callee := .builtin .copy, args := #[d, s], argTypes := #[t, t'] }) (v u : Value) (hd : a.eval d = v) (hs : a.eval s = u) {v' : Value} {w' : World}
    (hr : (Builtin.copy_ #[t, t'] o.type #[v, u]).run P w = .ok v' w') (h : wpList P ops Q rest (a.put o.dst v') w') : wpList P ops Q (o :: rest) a w := by
  refine wpList_plain hgd fun _ hK => ?_
  unfold Oper.wp execOp
  simp only [ho, resolve, invoke, builtin, Sem.run_bind, Sem.run_pure, Result.andThen_ok, List.map_toArray, List.map_cons, List.map_nil, hd, hs, hr]
  exact hK _ _ h
theorem step_copy_is {P : Program} {ops : Array Oper} {o : Oper} {a : Act} {w : World} {K : Act → World → Prop} {Q : Exit → Act → World → Prop} {E : Prop}
    (hg : o.guard = none) (d x : Operand) (dT sT : TypeId) (hop : o.op = Op.call { callee := Callee.builtin Builtin.copy, args := #[d, x], argTypes := #[dT, sT] })
    (v u : Value) (hd : a.eval d = v) (hx : a.eval x = u) {v' : Value} {w' : World} (hr : (Builtin.copy_ #[dT, sT] o.type #[v, u]).run P w = .ok v' w') (hK : K (a.put o.dst v') w') :
    if Region.wanted o (yielded ops a.tmps) = true then Oper.wp P o a w K Q else E := by
  have hw : Region.wanted o (yielded ops a.tmps) = true := by simp [Region.wanted, hg]
  rw [if_pos hw]
  unfold Oper.wp
  simp [execOp, hop, resolve, invoke, builtin, hd, hx, hr, Result.andThen]
  exact hK
set_option maxHeartbeats 8000000 in
theorem insert_room (g cap : Nat) (xs : List En) (e : En) (vb : Nat) (w : World) (h : RowE (some ⟨g, 0, none⟩) cap xs w) (hv : Five vb e w) (hl : xs.length ≤ 1000000) (h0 : 0 < xs.length) (hne : vb ≠ g) (hroom : xs.length + 1 ≤ cap) :
    Calls Try.prog 36 #[.slice (some ⟨g, 0, none⟩) xs.length cap, .int .i64 0, .slice (some ⟨vb, 0, none⟩) 1 1] w fun r w' => r = .returned (.slice (some ⟨g, 0, none⟩) (xs.length + 1) cap) ∧ RowE (some ⟨g, 0, none⟩) cap (e :: xs) w' ∧ Only (· = g) w w' := by
  obtain ⟨g', cur, hg', hb, _, hm, hs, ht⟩ := h.block h0
  obtain rfl : g = g' := by simpa using hg'
  obtain ⟨i0, hi0, hz0, hz1, hz2⟩ := info_parts infoE
  obtain ⟨n, hn⟩ : ∃ n, n = xs.length := ⟨_, rfl⟩
  have hfl : (xs.flatMap encE).length = n * 5 := by rw [hn]; exact flat_len liesE xs
  have hVl : (encE e).length = 5 := rfl
  have hone : ∀ v ∈ xs.flatMap encE, v.oneCell' = true := fun v hv => by
    obtain ⟨x, _, hx⟩ := List.mem_flatMap.1 hv
    exact liesE.one x v hx
  rw [← hn] at h0 hroom hl ht ⊢
  have hL5 : 5 + (xs.flatMap encE).length ≤ cur.toList.length := by rw [hfl, Array.length_toList, hs]; omega
  obtain ⟨W1, hW1⟩ : ∃ W1, W1 = w.drew.setRow g (lay cur.toList 5 (xs.flatMap encE)).toArray := ⟨_, rfl⟩
  obtain ⟨W2, hW2⟩ : ∃ W2, W2 = W1.setRow g (lay (lay cur.toList 5 (xs.flatMap encE)) 0 (encE e)).toArray := ⟨_, rfl⟩
  have hb1 : W1.heap[g]? = some (.cells (lay cur.toList 5 (xs.flatMap encE)).toArray 60 (0, 0)) := by rw [hW1]; exact setRow_heap w.drew g cur _ _ _ hb
  have hb2 : W2.heap[g]? = some (.cells (lay (lay cur.toList 5 (xs.flatMap encE)) 0 (encE e)).toArray 60 (0, 0)) := by rw [hW2]; exact setRow_heap W1 g _ _ _ _ hb1
  have o1 : Only (· = g) w W1 := by rw [hW1]; exact (Only.drew _ _).same (only_setRow _ _ _)
  have o2 : Only (· = g) w W2 := by rw [hW2]; exact o1.same (only_setRow _ _ _)
  have hcp1 : ∀ ty dc sc, (Builtin.copy_ #[51, 51] ty #[.slice (some ⟨g, 5, none⟩) n dc, .slice (some ⟨g, 0, none⟩) (n + 1) sc]).run Try.prog w.drew = .ok (goInt n) W1 := fun ty dc sc => by
    rw [hW1]
    refine run_copy_wide w.drew _ _ ty 60 i0 5 Try.underlying51 hi0 hz1 g 5 n dc ⟨g, 0, none⟩ (n + 1) sc cur 60 (xs.flatMap encE) n hb (by simp only [Nat.min_def]; split <;> omega) hfl (fun j v hj => ?_) (by rw [hs]; omega) hone
    have he : (⟨g, 0, none⟩ : Addr).add j = ⟨g, j, none⟩ := by unfold Addr.add; split <;> simp_all
    have hlt := (List.getElem?_eq_some_iff.1 hj).1
    rw [he, cell_of_blk (w := w.drew) hb]
    rw [← ht, List.getElem?_take] at hj
    split at hj
    · simpa using hj
    · cases hj
  have hcp2 : ∀ ty dc, (Builtin.copy_ #[51, 50] ty #[.slice (some ⟨g, 0, none⟩) (n + 1) dc, .slice (some ⟨vb, 0, none⟩) 1 1]).run Try.prog W1 = .ok (goInt (1 : Nat)) W2 := fun ty dc => by
    rw [hW2]
    have hv1 : Five vb e W1 := hv.only o1 hne
    have := run_copy_wide W1 51 50 ty 60 i0 5 Try.underlying51 hi0 hz1 g 0 (n + 1) dc ⟨vb, 0, none⟩ 1 1 _ 60 (encE e) 1 hb1 (by simp only [Nat.min_def]; split <;> omega) (by rw [hVl]) (fun j v hj => hv1.src.2 _ rfl j v (by simpa using hj)) (by simp only [List.size_toArray]; rw [lay_len (by rw [hfl, Array.length_toList, hs]; omega), hVl, Array.length_toList, hs]; omega) (fun v hv => liesE.one e v hv)
    simpa using this
  have hov : ∀ lb cb, (callFunc 40 #[.slice (some ⟨vb, 0, none⟩) 1 1, .slice (some ⟨g, 5, none⟩) lb cb]).run Try.prog w = .ok (.value (.bool false)) w := fun lb cb => overlaps_apart w vb g 5 lb cb e cur hv hb (by omega) hne
  have HF : Hid (RowE (some ⟨g, 0, none⟩) cap (e :: xs) W2 ∧ Only (· = g) w W2) := Lib.hid ⟨RowE.make hb2 (by simp; omega) hm (by simp only [List.size_toArray]; rw [lay_len (by rw [lay_len (by rw [hfl, Array.length_toList, hs]; omega), hVl, Array.length_toList, hs]; omega), lay_len (by rw [hfl, Array.length_toList, hs]; omega), Array.length_toList, hs]) (by
    have h5 : (e :: xs).length * 5 = 5 + (xs.flatMap encE).length := by rw [hfl, hn]; simp; omega
    rw [h5, List.flatMap_cons]
    exact lay_front hVl hL5), o2⟩
  have hcm : cap ≤ 9223372036854775807 := by unfold maxLen at hm; omega
  have hz : ¬ ((0 : Int) = (n : Int)) := by omega
  have hz' : ((0 : Int) == (n : Int)) = false := by simpa using hz
  have hw1 : IntKind.i64.wrap ((n : Int) + 1) = (n : Int) + 1 := IntWalk.i64_in _ (by omega)
  have hc1 : ¬ cap = 1 := by omega
  have hgt : ¬ ((n : Int) + 1 > (cap : Int)) := by omega
  have hi1 : (n : Int) + 1 ≤ (cap : Int) := by omega
  have htn : ((n : Int) + 1).toNat = n + 1 := by omega
  have hc0 : ¬ cap = 0 := by omega
  have mixed : Try.prog.follows Departure.mixedOrders = true := by kernel_rfl
  have hwr1 : IntKind.i64.wrap 1 = 1 := by decide
  have h11 : (1 : Int) ≤ (n : Int) + 1 := by omega
  have h00 : (0 : Int) ≤ (n : Int) + 1 := by omega
  clear hb hb1 hb2 o1 o2 hW1 hW2 hone hfl hL5 ht hs hv h hn hg'
  go_enter Try.func36, Try.ntmps36
  go_wp2_with (simp only [hov])
  go_region_law_o (refine step_copy_is rfl _ _ 51 51 rfl _ _ (by simp [Act.eval, Act.put]) (by simp [Act.eval, Act.put]) (hcp1 _ _ _) ?_)
  all_goals
    go_wp2_with (refine wpList_copy_is _ rfl _ _ 51 50 rfl _ _ rfl rfl (hcp2 _ _) ?_)
    go_ret
    exact ⟨rfl, HF.out⟩
end Go.Proofs.Ythgjedcelcanbaa.idx
