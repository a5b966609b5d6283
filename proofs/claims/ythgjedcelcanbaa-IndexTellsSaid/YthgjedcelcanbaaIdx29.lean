
/- Selection by keys: a row without an entry: slices.Delete. -/
import Derived.Test.YthgjedcelcanbaaIdx28
namespace Go.Proofs.Ythgjedcelcanbaa.idx
set_option maxRecDepth 100000
open Go.RowKit Go.Proofs.Ythgjedcelcanbaa.own Go.Lib Go.Maps Go.WideMaps
theorem lay_cut {L A E C Z : List Value} (hL : L.take (A.length + E.length + C.length) = A ++ E ++ C) (hE : E.length = 5) (hZ : Z.length = 5) (hs : A.length + E.length + C.length ≤ L.length) : (lay (lay L A.length C) (A.length + C.length) Z).take (A.length + C.length) = A ++ C := by
  have hA : L.take A.length = A := by
    have := congrArg (List.take A.length) hL
    rw [List.take_take, Nat.min_eq_left (by omega), List.append_assoc, List.take_append, List.take_of_length_le (Nat.le_refl _), Nat.sub_self, List.take_zero, List.append_nil] at this
    exact this
  have h1 : (lay L A.length C).take (A.length + C.length) = A ++ C := by
    unfold lay
    rw [hA, List.take_append, List.length_append, Nat.sub_self, List.take_zero, List.append_nil, List.take_of_length_le (by simp)]
  have hl : (lay L A.length C).length = L.length := lay_len (by omega)
  generalize lay L A.length C = N at *
  unfold lay
  rw [h1, List.append_assoc, List.take_append, List.length_append, Nat.sub_self, List.take_zero, List.append_nil, List.take_of_length_le (by simp)]
theorem step_append_is {P : Program} {ops : Array Oper} {o : Oper} {a : Act} {w : World} {K : Act → World → Prop} {Q : Exit → Act → World → Prop} {E : Prop}
    (hg : o.guard = none) (d x : Operand) (dT sT : TypeId) (hop : o.op = Op.call { callee := Callee.builtin Builtin.append, args := #[d, x], argTypes := #[dT, sT] })
    (v u : Value) (hd : a.eval d = v) (hx : a.eval x = u) {v' : Value} {w' : World} (hr : (Builtin.append_ #[dT, sT] o.type #[v, u]).run P w = .ok v' w') (hK : K (a.put o.dst v') w') :
    if Region.wanted o (yielded ops a.tmps) = true then Oper.wp P o a w K Q else E := by
  have hw : Region.wanted o (yielded ops a.tmps) = true := by simp [Region.wanted, hg]
  rw [if_pos hw]
  unfold Oper.wp
  simp [execOp, hop, resolve, invoke, builtin, hd, hx, hr, Result.andThen]
  exact hK
theorem wpList_clear_is {P : Program} (w : World) {ops : Array Oper} {rest : List Oper} {o : Oper} {a : Act} {Q : Exit → Act → World → Prop} (hgd : o.guard = none) (s : Operand) (t : TypeId)
    (ho : o.op = .call { callee := .builtin .clear, args := #[s], argTypes := #[t] }) (v : Value) (hs : a.eval s = v) {v' : Value} {w' : World}
    (hr : (Builtin.clear_ #[t] o.type #[v]).run P w = .ok v' w') (h : wpList P ops Q rest (a.put o.dst v') w') : wpList P ops Q (o :: rest) a w := by
  refine wpList_plain hgd fun _ hK => ?_
  unfold Oper.wp execOp
  simp only [ho, resolve, invoke, builtin, Sem.run_bind, Sem.run_pure, Result.andThen_ok, List.map_toArray, List.map_cons, List.map_nil, hs, hr]
  exact hK _ _ h
set_option maxHeartbeats 8000000 in
theorem delete_any (g cap : Nat) (A : List En) (e : En) (C : List En) (w : World) (h : RowE (some ⟨g, 0, none⟩) cap (A ++ e :: C) w) (n : Nat) (hn : n = A.length + 1 + C.length) (hl : n ≤ 1000000) :
    Calls Try.prog 35 #[.slice (some ⟨g, 0, none⟩) n cap, .int .i64 A.length, .int .i64 ((A.length : Int) + 1)] w fun r w' => r = .returned (.slice (some ⟨g, 0, none⟩) (A.length + C.length) cap) ∧ RowE (some ⟨g, 0, none⟩) cap (A ++ C) w' ∧ Only (· = g) w w' := by
  have hxl : (A ++ e :: C).length = n := by simp; omega
  obtain ⟨g', cur, hg', hb, hnc, hm, hs, ht⟩ := h.block (by omega)
  obtain rfl : g = g' := by simpa using hg'
  rw [hxl] at hnc ht
  obtain ⟨t, htt⟩ : ∃ t, t = A.length := ⟨_, rfl⟩
  obtain ⟨m, hmm⟩ : ∃ m, m = C.length := ⟨_, rfl⟩
  rw [← htt, ← hmm] at hn ⊢
  have hcm : cap ≤ 9223372036854775807 := by unfold maxLen at hm; omega
  have HX : Hid (∀ W, Only (fun _ => False) w W → ∃ W1 W2, (∀ ty a mc, (m = 0 ∨ a = ⟨g, (t + 1) * 5, none⟩) → (Builtin.append_ #[51, 51] ty #[.slice (some ⟨g, 0, none⟩) t cap, .slice (some a) m mc]).run Try.prog W = .ok (.slice (some ⟨g, 0, none⟩) (t + m) cap) W1) ∧ (∀ ty c, (Builtin.clear_ #[51] ty #[.slice (some ⟨g, (t + m) * 5, none⟩) 1 c]).run Try.prog W1 = .ok (.tuple #[]) W2) ∧ RowE (some ⟨g, 0, none⟩) cap (A ++ C) W2 ∧ Only (· = g) W W2) := Lib.hid (fun W o => by
    obtain ⟨i0, hi0, hz0, hz1, hz2⟩ := info_parts infoE
    have hbW : W.heap[g]? = some (.cells cur 60 (0, 0)) := by rw [o.block g (lt_of_block hb) (fun e => e)]; exact hb
    have hFA : (A.flatMap encE).length = t * 5 := by rw [htt]; exact flat_len liesE A
    have hFC : (C.flatMap encE).length = m * 5 := by rw [hmm]; exact flat_len liesE C
    have hZl : (Builtin.zeroCells (enV zE).cells 1).toList.length = 5 := by simp [Builtin.zeroCells, Value.cells]
    have ht5 : cur.toList.take ((A.flatMap encE).length + (encE e).length + (C.flatMap encE).length) = A.flatMap encE ++ encE e ++ C.flatMap encE := by
      have : (A.flatMap encE).length + (encE e).length + (C.flatMap encE).length = n * 5 := by rw [hFA, hFC, hn]; show t * 5 + 5 + m * 5 = _; omega
      rw [this, ht, List.flatMap_append, List.flatMap_cons, List.append_assoc]
    have hcs : n * 5 ≤ cur.toList.length := by rw [Array.length_toList, hs]; omega
    obtain ⟨W1, hW1⟩ : ∃ W1, W1 = W.setRow g (lay cur.toList (t * 5) (C.flatMap encE)).toArray := ⟨_, rfl⟩
    obtain ⟨W2, hW2⟩ : ∃ W2, W2 = W1.setRow g (lay (lay cur.toList (t * 5) (C.flatMap encE)) ((t + m) * 5) (Builtin.zeroCells (enV zE).cells 1).toList).toArray := ⟨_, rfl⟩
    have hb1 : W1.heap[g]? = some (.cells (lay cur.toList (t * 5) (C.flatMap encE)).toArray 60 (0, 0)) := by rw [hW1]; exact setRow_heap W g cur _ _ _ hbW
    have hb2 : W2.heap[g]? = some (.cells (lay (lay cur.toList (t * 5) (C.flatMap encE)) ((t + m) * 5) (Builtin.zeroCells (enV zE).cells 1).toList).toArray 60 (0, 0)) := by rw [hW2]; exact setRow_heap W1 g _ _ _ _ hb1
    have hl1 : (lay cur.toList (t * 5) (C.flatMap encE)).length = cur.size := by rw [lay_len (by rw [hFC]; omega), Array.length_toList]
    have hl2 : (lay (lay cur.toList (t * 5) (C.flatMap encE)) ((t + m) * 5) (Builtin.zeroCells (enV zE).cells 1).toList).length = cur.size := by rw [lay_len (by rw [hl1, hZl]; rw [Array.length_toList] at hcs; omega), hl1]
    refine ⟨W1, W2, fun ty a mc ha => ?_, fun ty c => ?_, ?_, ?_⟩
    · rw [hW1]
      have := run_append_wide W 51 51 ty 60 60 i0 5 Try.underlying51 Try.underlying51 hi0 hz1 g 0 t cap a m mc cur 60 (C.flatMap encE) hbW (by omega) hFC (fun j v hj => ?_) (by rw [hFC]; rw [Array.length_toList] at hcs; omega) (fun v hv => by
        obtain ⟨x, _, hx⟩ := List.mem_flatMap.1 hv
        exact liesE.one x v hx)
      · simpa using this
      · have hlt := (List.getElem?_eq_some_iff.1 hj).1
        rw [hFC] at hlt
        have ha' : a = ⟨g, (t + 1) * 5, none⟩ := by rcases ha with e | e; · omega
                                                    · exact e
        have he : a.add j = ⟨g, (t + 1) * 5 + j, none⟩ := by rw [ha']; unfold Addr.add; split <;> simp_all
        rw [he, cell_of_blk hbW]
        have h1 : (cur.toList.take ((A.flatMap encE).length + (encE e).length + (C.flatMap encE).length))[(t + 1) * 5 + j]? = some v := by
          rw [ht5, List.getElem?_append_right (by rw [List.length_append, hFA]; show t * 5 + 5 ≤ _; omega), List.length_append, hFA]
          have : (t + 1) * 5 + j - (t * 5 + (encE e).length) = j := by show (t + 1) * 5 + j - (t * 5 + 5) = j; omega
          rw [this]
          exact hj
        rw [List.getElem?_take] at h1
        split at h1
        · simpa using h1
        · cases h1
    · rw [hW2]
      exact run_clear_wide W1 51 ty 60 (enV zE) 5 Try.underlying51 zeroE rfl g ((t + m) * 5) 1 c (lay cur.toList (t * 5) (C.flatMap encE)).toArray 60 hb1 (by omega) (by rw [List.size_toArray, hl1, hs]; omega) (fun v hv => liesE.one zE v hv)
    · refine RowE.make hb2 (by simp; omega) hm (by simp only [List.size_toArray]; rw [hl2, hs]) ?_
      have hlen : (A ++ C).length * 5 = (A.flatMap encE).length + (C.flatMap encE).length := by rw [hFA, hFC, List.length_append, ← htt, ← hmm]; omega
      rw [hlen, List.flatMap_append]
      have := lay_cut (L := cur.toList) (A := A.flatMap encE) (E := encE e) (C := C.flatMap encE) (Z := (Builtin.zeroCells (enV zE).cells 1).toList) ht5 rfl hZl (by rw [hFA, hFC]; show t * 5 + 5 + m * 5 ≤ _; omega)
      rw [hFA, hFC] at this
      have h2 : (t + m) * 5 = t * 5 + m * 5 := by omega
      rw [h2, hFA, hFC]
      exact this
    · rw [hW2]
      refine Only.same ?_ (only_setRow _ _ _)
      rw [hW1]
      exact only_setRow _ _ _)
  have hb6 : (0 : Int) ≤ (t : Int) + 1 := by omega
  have hnm : n - (t + 1) = m := by omega
  have hn1 : n - (t + m) = 1 := by omega
  have hcn : ¬ cap = t + m := by omega
  have b7 : ((t + m : Nat) : Int) ≤ (n : Int) := by omega
  have b8 : (0 : Int) ≤ ((t + m : Nat) : Int) := by omega
  have b9 : (0 : Int) ≤ (n : Int) := by omega
  have hq : ¬ (t : Int) = (t : Int) + 1 := by omega
  have hz' : ((t : Int) == (t : Int) + 1) = false := by simpa using hq
  have b1 : (0 : Int) ≤ (t : Int) := by omega
  have b2 : (t : Int) ≤ (t : Int) + 1 := by omega
  have b3 : (t : Int) + 1 ≤ (n : Int) := by omega
  have b4 : (n : Int) ≤ (cap : Int) := by omega
  have b5 : (t : Int) ≤ (cap : Int) := by omega
  have mixed : Try.prog.follows Departure.mixedOrders = true := by kernel_rfl
  have htn : ((t : Int) + 1).toNat = t + 1 := by omega
  have HT := Lib.hid htt
  have HM := Lib.hid hmm
  have HN := Lib.hid hn
  have HB := Lib.hid hb
  clear h hb hnc hm hs ht hg' htt hmm hxl hn
  go_enter Try.func35, Try.ntmps35
  go_upto_region 5 with fail
  obtain ⟨W1, W2, ha, hc, hr, ho⟩ := HX.out w.drew (Only.drew _ _)
  have HR := Lib.hid hr
  have HO : Hid (Only (· = g) w W2) := Lib.hid ((Only.drew _ _).same ho)
  clear hr ho
  by_cases hct : cap = t + 1
  · have HM0 : Hid (m = 0) := Lib.hid (by have := HN.out; omega)
    subst hct
    go_region_law_o (refine step_append_is rfl _ _ 51 51 rfl (.slice (some ⟨g, 0, none⟩) t (t + 1)) (.slice (some ⟨g, 0, none⟩) m 0) (by simp [Act.eval, Act.put]) (by simp [Act.eval, Act.put]) (ha _ _ _ (.inl HM0.out)) ?_)
    all_goals
      go_wp2_with (refine wpList_clear_is _ rfl _ 51 rfl _ rfl (hc _ _) ?_)
      go_ret
      exact ⟨by first | rfl | (rw [HT.out, HM.out]), HR.out, HO.out⟩
  · go_region_law_o (refine step_append_is rfl _ _ 51 51 rfl (.slice (some ⟨g, 0, none⟩) t cap) (.slice (some ⟨g, (t + 1) * 5, none⟩) m (cap - (t + 1))) (by simp [Act.eval, Act.put]) (by simp [Act.eval, Act.put]) (ha _ _ _ (.inr rfl)) ?_)
    all_goals
      go_wp2_with (refine wpList_clear_is _ rfl _ 51 rfl _ rfl (hc _ _) ?_)
      go_ret
      exact ⟨by first | rfl | (rw [HT.out, HM.out]), HR.out, HO.out⟩
end Go.Proofs.Ythgjedcelcanbaa.idx
