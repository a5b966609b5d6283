/- Selection by keys: the reference's table: at, from, Head, Next, and what follows: 8 texts in one. -/
import Derived.Test.YthfilpacmllhpabIdxB
/- Selection by keys: the reference's table: at, from, Head, Next. -/
namespace Go.Proofs.Ythfilpacmllhpab.idx
section
set_option maxRecDepth 100000
open Go.RowKit Go.Proofs.Ythfilpacmllhpab.own Go.Lib Go.Maps Go.WideMaps
/-- A pair: a number and a key. -/
structure Pr where
  id : Int
  key : Ky
def encP (e : Pr) : List Value := [.int .i64 e.id, .int .i64 e.key.k, .string e.key.s, .int .i64 e.key.n]
theorem liesP : Lies encP 4 := ⟨fun _ => rfl, by
  intro x u hu
  simp [encP] at hu
  rcases hu with rfl | rfl | rfl | rfl <;> rfl, by omega⟩
section
variable {B b : Nat} {M : List Pr} {ao : Option Addr} {cap : Nat} {w W W' : World}
/-- Where a number stands. -/
def atF (i : Int) (M : List Pr) : Option Nat := M.findIdx? (fun e => e.id == i)
def atI (i : Int) (M : List Pr) : Int := match atF i M with | some j => j | none => -1
theorem find_at {α : Type} {p : α → Bool} {l : List α} {j : Nat} {x : α} (hx : l[j]? = some x) (hp : p x = true) (hlt : ∀ (i : Nat) (y : α), i < j → l[i]? = some y → p y = false) : l.findIdx? p = some j := by
  rw [List.findIdx?_eq_some_iff_getElem]
  obtain ⟨hj, rfl⟩ := List.getElem?_eq_some_iff.1 hx
  refine ⟨hj, hp, fun i hi => ?_⟩
  have := hlt i _ hi (List.getElem?_eq_getElem (by omega))
  simp [this]
theorem find_no {α : Type} {p : α → Bool} {l : List α} (hlt : ∀ (i : Nat) (y : α), l[i]? = some y → p y = false) : l.findIdx? p = none := by
  rw [List.findIdx?_eq_none_iff]
  intro x hx
  obtain ⟨i, hi⟩ := List.mem_iff_getElem?.1 hx
  exact hlt i x hi
/-- The first pair from a place on whose key meets another one. -/
def fromP (p : Nat) (k : Ky) (M : List Pr) : Option Pr := (M.drop p).find? (fun e => meetB e.key k)
theorem fromP_hit {p j : Nat} {k : Ky} {M : List Pr} {x : Pr} (hpj : p ≤ j) (hx : M[j]? = some x) (hm : meetB x.key k = true) (hlt : ∀ (t : Nat) (y : Pr), p ≤ t → t < j → M[t]? = some y → meetB y.key k = false) : fromP p k M = some x := by
  unfold fromP
  rw [List.find?_eq_some_iff_getElem]
  have hj := (List.getElem?_eq_some_iff.1 hx).1
  have hxe := (List.getElem?_eq_some_iff.1 hx).2
  refine ⟨hm, j - p, by simp; omega, ?_, fun q hq => ?_⟩
  · rw [List.getElem_drop]
    have : p + (j - p) = j := by omega
    simp only [this]
    exact hxe
  · rw [List.getElem_drop]
    have := hlt (p + q) _ (by omega) (by omega) (List.getElem?_eq_getElem (by omega))
    simp [this]
theorem fromP_no {p : Nat} {k : Ky} {M : List Pr} (hlt : ∀ (t : Nat) (y : Pr), p ≤ t → M[t]? = some y → meetB y.key k = false) : fromP p k M = none := by
  unfold fromP
  rw [List.find?_eq_none]
  intro x hx
  obtain ⟨i, hi⟩ := List.mem_iff_getElem?.1 hx
  rw [List.getElem?_drop] at hi
  simp [hlt (p + i) x (by omega) hi]
def ansP (o : Option Pr) : Value := .tuple #[.int .i64 ((o.map (·.id)).getD 0), .bool o.isSome]
end
end
end Go.Proofs.Ythfilpacmllhpab.idx
/- Selection by keys: the reference's table: Head, Next, All. -/
namespace Go.Proofs.Ythfilpacmllhpab.idx
section
set_option maxRecDepth 100000
open Go.RowKit Go.Proofs.Ythfilpacmllhpab.own Go.Lib Go.Maps Go.WideMaps
section
variable {B b : Nat} {M : List Pr} {ao : Option Addr} {cap : Nat} {w W W' : World}
/-- What the reference's Next answers. -/
def nextP (i : Int) (k : Ky) (M : List Pr) : Option Pr := match atF i M with
  | none => none
  | some j => fromP (j + 1) k M
theorem at_len {i : Int} {M : List Pr} {j : Nat} (h : atF i M = some j) : j < M.length := by
  unfold atF at h
  rw [List.findIdx?_eq_some_iff_getElem] at h
  exact h.1
end
end
end Go.Proofs.Ythfilpacmllhpab.idx
/- Selection by keys: the reference's table: All. -/
namespace Go.Proofs.Ythfilpacmllhpab.idx
section
set_option maxRecDepth 100000
open Go.RowKit Go.Proofs.Ythfilpacmllhpab.own Go.Lib Go.Maps Go.WideMaps
def metP (k : Ky) (M : List Pr) : List Pr := M.filter (fun e => meetB e.key k)
theorem metP_len (k : Ky) (M : List Pr) : (metP k M).length ≤ M.length := List.length_filter_le _ _
theorem metP_yes {k : Ky} {M : List Pr} {j : Nat} {x : Pr} (hx : M[j]? = some x) (hm : meetB x.key k = true) : (metP k (M.take (j + 1))).map (·.id) = (metP k (M.take j)).map (·.id) ++ [x.id] := by
  unfold metP
  rw [List.take_add_one, hx]
  simp [List.filter_append, hm]
theorem metP_not {k : Ky} {M : List Pr} {j : Nat} {x : Pr} (hx : M[j]? = some x) (hm : meetB x.key k = false) : metP k (M.take (j + 1)) = metP k (M.take j) := by
  unfold metP
  rw [List.take_add_one, hx]
  simp [List.filter_append, hm]
section
variable {B b : Nat} {M : List Pr} {ao : Option Addr} {cap : Nat} {w W W' : World}
end
end
end Go.Proofs.Ythfilpacmllhpab.idx
/- Selection by keys: a row without an entry: slices.Delete. -/
namespace Go.Proofs.Ythfilpacmllhpab.idx
section
set_option maxRecDepth 100000
open Go.RowKit Go.Proofs.Ythfilpacmllhpab.own Go.Lib Go.Maps Go.WideMaps
theorem lay_cut {L A E C Z : List Value} (hL : L.take (A.length + E.length + C.length) = A ++ E ++ C) (hE : E.length = 5) (hZ : Z.length = 5) (hs : A.length + E.length + C.length ≤ L.length) : (lay (lay L A.length C) (A.length + C.length) Z).take (A.length + C.length) = A ++ C := by
  have hA : L.take A.length = A := by
    have := congrArg (List.take A.length) hL
    rw [List.take_take, Nat.min_eq_left (by omega), List.append_assoc, List.take_append, List.take_of_length_le (Nat.le_refl _), Nat.sub_self, List.take_zero, List.append_nil] at this
    exact this
  have h1 : (lay L A.length C).take (A.length + C.length) = A ++ C := by
    unfold lay
    rw [hA, List.take_append, List.length_append, Nat.sub_self, List.take_zero, List.append_nil, List.take_of_length_le (by simp)]
  have hl : (lay L A.length C).length = L.length := lay_len (by omega)
  generalize lay L A.length C = N at *
  unfold lay
  rw [h1, List.append_assoc, List.take_append, List.length_append, Nat.sub_self, List.take_zero, List.append_nil, List.take_of_length_le (by simp)]
theorem step_append_is {P : Program} {ops : Array Oper} {o : Oper} {a : Act} {w : World} {K : Act → World → Prop} {Q : Exit → Act → World → Prop} {E : Prop}
    (hg : o.guard = none) (d x : Operand) (dT sT : TypeId) (hop : o.op = Op.call { callee := Callee.builtin Builtin.append, args := #[d, x], argTypes := #[dT, sT] })
    (v u : Value) (hd : a.eval d = v) (hx : a.eval x = u) {v' : Value} {w' : World} (hr : (Builtin.append_ #[dT, sT] o.type #[v, u]).run P w = .ok v' w') (hK : K (a.put o.dst v') w') :
    if Region.wanted o (yielded ops a.tmps) = true then Oper.wp P o a w K Q else E := by
  have hw : Region.wanted o (yielded ops a.tmps) = true := by simp [Region.wanted, hg]
  rw [if_pos hw]
  unfold Oper.wp
  simp [execOp, hop, resolve, invoke, builtin, hd, hx, hr, Result.andThen]
  exact hK
theorem wpList_clear_is {P : Program} (w : World) {ops : Array Oper} {rest : List Oper} {o : Oper} {a : Act} {Q : Exit → Act → World → Prop} (hgd : o.guard = none) (s : Operand) (t : TypeId)
    (ho : o.op = .call { callee := .builtin .clear, args := #[s], argTypes := #[t] }) (v : Value) (hs : a.eval s = v) {v' : Value} {w' : World}
    (hr : (Builtin.clear_ #[t] o.type #[v]).run P w = .ok v' w') (h : wpList P ops Q rest (a.put o.dst v') w') : wpList P ops Q (o :: rest) a w := by
  refine wpList_plain hgd fun _ hK => ?_
  unfold Oper.wp execOp
  simp only [ho, resolve, invoke, builtin, Sem.run_bind, Sem.run_pure, Result.andThen_ok, List.map_toArray, List.map_cons, List.map_nil, hs, hr]
  exact hK _ _ h
set_option maxHeartbeats 8000000 in
theorem delete_any (g cap : Nat) (A : List En) (e : En) (C : List En) (w : World) (h : RowE (some ⟨g, 0, none⟩) cap (A ++ e :: C) w) (n : Nat) (hn : n = A.length + 1 + C.length) (hl : n ≤ 1000000) :
    Calls Try.prog 97 #[.slice (some ⟨g, 0, none⟩) n cap, .int .i64 A.length, .int .i64 ((A.length : Int) + 1)] w fun r w' => r = .returned (.slice (some ⟨g, 0, none⟩) (A.length + C.length) cap) ∧ RowE (some ⟨g, 0, none⟩) cap (A ++ C) w' ∧ Only (· = g) w w' := by
  have hxl : (A ++ e :: C).length = n := by simp; omega
  obtain ⟨g', cur, hg', hb, hnc, hm, hs, ht⟩ := h.block (by omega)
  obtain rfl : g = g' := by simpa using hg'
  rw [hxl] at hnc ht
  obtain ⟨t, htt⟩ : ∃ t, t = A.length := ⟨_, rfl⟩
  obtain ⟨m, hmm⟩ : ∃ m, m = C.length := ⟨_, rfl⟩
  rw [← htt, ← hmm] at hn ⊢
  have hcm : cap ≤ 9223372036854775807 := by unfold maxLen at hm; omega
  have HX : Hid (∀ W, Only (fun _ => False) w W → ∃ W1 W2, (∀ ty a mc, (m = 0 ∨ a = ⟨g, (t + 1) * 5, none⟩) → (Builtin.append_ #[115, 115] ty #[.slice (some ⟨g, 0, none⟩) t cap, .slice (some a) m mc]).run Try.prog W = .ok (.slice (some ⟨g, 0, none⟩) (t + m) cap) W1) ∧ (∀ ty c, (Builtin.clear_ #[115] ty #[.slice (some ⟨g, (t + m) * 5, none⟩) 1 c]).run Try.prog W1 = .ok (.tuple #[]) W2) ∧ RowE (some ⟨g, 0, none⟩) cap (A ++ C) W2 ∧ Only (· = g) W W2) := Lib.hid (fun W o => by
    obtain ⟨i0, hi0, hz0, hz1, hz2⟩ := info_parts infoE
    have hbW : W.heap[g]? = some (.cells cur 122 (0, 0)) := by rw [o.block g (lt_of_block hb) (fun e => e)]; exact hb
    have hFA : (A.flatMap encE).length = t * 5 := by rw [htt]; exact flat_len liesE A
    have hFC : (C.flatMap encE).length = m * 5 := by rw [hmm]; exact flat_len liesE C
    have hZl : (Builtin.zeroCells (enV zE).cells 1).toList.length = 5 := by simp [Builtin.zeroCells, Value.cells]
    have ht5 : cur.toList.take ((A.flatMap encE).length + (encE e).length + (C.flatMap encE).length) = A.flatMap encE ++ encE e ++ C.flatMap encE := by
      have : (A.flatMap encE).length + (encE e).length + (C.flatMap encE).length = n * 5 := by rw [hFA, hFC, hn]; show t * 5 + 5 + m * 5 = _; omega
      rw [this, ht, List.flatMap_append, List.flatMap_cons, List.append_assoc]
    have hcs : n * 5 ≤ cur.toList.length := by rw [Array.length_toList, hs]; omega
    obtain ⟨W1, hW1⟩ : ∃ W1, W1 = W.setRow g (lay cur.toList (t * 5) (C.flatMap encE)).toArray := ⟨_, rfl⟩
    obtain ⟨W2, hW2⟩ : ∃ W2, W2 = W1.setRow g (lay (lay cur.toList (t * 5) (C.flatMap encE)) ((t + m) * 5) (Builtin.zeroCells (enV zE).cells 1).toList).toArray := ⟨_, rfl⟩
    have hb1 : W1.heap[g]? = some (.cells (lay cur.toList (t * 5) (C.flatMap encE)).toArray 122 (0, 0)) := by rw [hW1]; exact setRow_heap W g cur _ _ _ hbW
    have hb2 : W2.heap[g]? = some (.cells (lay (lay cur.toList (t * 5) (C.flatMap encE)) ((t + m) * 5) (Builtin.zeroCells (enV zE).cells 1).toList).toArray 122 (0, 0)) := by rw [hW2]; exact setRow_heap W1 g _ _ _ _ hb1
    have hl1 : (lay cur.toList (t * 5) (C.flatMap encE)).length = cur.size := by rw [lay_len (by rw [hFC]; omega), Array.length_toList]
    have hl2 : (lay (lay cur.toList (t * 5) (C.flatMap encE)) ((t + m) * 5) (Builtin.zeroCells (enV zE).cells 1).toList).length = cur.size := by rw [lay_len (by rw [hl1, hZl]; rw [Array.length_toList] at hcs; omega), hl1]
    refine ⟨W1, W2, fun ty a mc ha => ?_, fun ty c => ?_, ?_, ?_⟩
    · rw [hW1]
      have := run_append_wide W 115 115 ty 122 122 i0 5 Try.underlying115 Try.underlying115 hi0 hz1 g 0 t cap a m mc cur 122 (C.flatMap encE) hbW (by omega) hFC (fun j v hj => ?_) (by rw [hFC]; rw [Array.length_toList] at hcs; omega) (fun v hv => by
        obtain ⟨x, _, hx⟩ := List.mem_flatMap.1 hv
        exact liesE.one x v hx)
      · simpa using this
      · have hlt := (List.getElem?_eq_some_iff.1 hj).1
        rw [hFC] at hlt
        have ha' : a = ⟨g, (t + 1) * 5, none⟩ := by rcases ha with e | e; · omega
                                                    · exact e
        have he : a.add j = ⟨g, (t + 1) * 5 + j, none⟩ := by rw [ha']; unfold Addr.add; split <;> simp_all
        rw [he, cell_of_blk hbW]
        have h1 : (cur.toList.take ((A.flatMap encE).length + (encE e).length + (C.flatMap encE).length))[(t + 1) * 5 + j]? = some v := by
          rw [ht5, List.getElem?_append_right (by rw [List.length_append, hFA]; show t * 5 + 5 ≤ _; omega), List.length_append, hFA]
          have : (t + 1) * 5 + j - (t * 5 + (encE e).length) = j := by show (t + 1) * 5 + j - (t * 5 + 5) = j; omega
          rw [this]
          exact hj
        rw [List.getElem?_take] at h1
        split at h1
        · simpa using h1
        · cases h1
    · rw [hW2]
      exact run_clear_wide W1 115 ty 122 (enV zE) 5 Try.underlying115 zeroE rfl g ((t + m) * 5) 1 c (lay cur.toList (t * 5) (C.flatMap encE)).toArray 122 hb1 (by omega) (by rw [List.size_toArray, hl1, hs]; omega) (fun v hv => liesE.one zE v hv)
    · refine RowE.make hb2 (by simp; omega) hm (by simp only [List.size_toArray]; rw [hl2, hs]) ?_
      have hlen : (A ++ C).length * 5 = (A.flatMap encE).length + (C.flatMap encE).length := by rw [hFA, hFC, List.length_append, ← htt, ← hmm]; omega
      rw [hlen, List.flatMap_append]
      have := lay_cut (L := cur.toList) (A := A.flatMap encE) (E := encE e) (C := C.flatMap encE) (Z := (Builtin.zeroCells (enV zE).cells 1).toList) ht5 rfl hZl (by rw [hFA, hFC]; show t * 5 + 5 + m * 5 ≤ _; omega)
      rw [hFA, hFC] at this
      have h2 : (t + m) * 5 = t * 5 + m * 5 := by omega
      rw [h2, hFA, hFC]
      exact this
    · rw [hW2]
      refine Only.same ?_ (only_setRow _ _ _)
      rw [hW1]
      exact only_setRow _ _ _)
  have hb6 : (0 : Int) ≤ (t : Int) + 1 := by omega
  have hnm : n - (t + 1) = m := by omega
  have hn1 : n - (t + m) = 1 := by omega
  have hcn : ¬ cap = t + m := by omega
  have b7 : ((t + m : Nat) : Int) ≤ (n : Int) := by omega
  have b8 : (0 : Int) ≤ ((t + m : Nat) : Int) := by omega
  have b9 : (0 : Int) ≤ (n : Int) := by omega
  have hq : ¬ (t : Int) = (t : Int) + 1 := by omega
  have hz' : ((t : Int) == (t : Int) + 1) = false := by simpa using hq
  have b1 : (0 : Int) ≤ (t : Int) := by omega
  have b2 : (t : Int) ≤ (t : Int) + 1 := by omega
  have b3 : (t : Int) + 1 ≤ (n : Int) := by omega
  have b4 : (n : Int) ≤ (cap : Int) := by omega
  have b5 : (t : Int) ≤ (cap : Int) := by omega
  have mixed : Try.prog.follows Departure.mixedOrders = true := by kernel_rfl
  have htn : ((t : Int) + 1).toNat = t + 1 := by omega
  have HT := Lib.hid htt
  have HM := Lib.hid hmm
  have HN := Lib.hid hn
  have HB := Lib.hid hb
  clear h hb hnc hm hs ht hg' htt hmm hxl hn
  go_enter Try.func97, Try.ntmps97
  go_upto_region 5 with fail
  obtain ⟨W1, W2, ha, hc, hr, ho⟩ := HX.out w.drew (Only.drew _ _)
  have HR := Lib.hid hr
  have HO : Hid (Only (· = g) w W2) := Lib.hid ((Only.drew _ _).same ho)
  clear hr ho
  by_cases hct : cap = t + 1
  · have HM0 : Hid (m = 0) := Lib.hid (by have := HN.out; omega)
    subst hct
    go_region_law_o (refine step_append_is rfl _ _ 115 115 rfl (.slice (some ⟨g, 0, none⟩) t (t + 1)) (.slice (some ⟨g, 0, none⟩) m 0) (by simp [Act.eval, Act.put]) (by simp [Act.eval, Act.put]) (ha _ _ _ (.inl HM0.out)) ?_)
    all_goals
      go_wp2_with (refine wpList_clear_is _ rfl _ 115 rfl _ rfl (hc _ _) ?_)
      go_ret
      exact ⟨by first | rfl | (rw [HT.out, HM.out]), HR.out, HO.out⟩
  · go_region_law_o (refine step_append_is rfl _ _ 115 115 rfl (.slice (some ⟨g, 0, none⟩) t cap) (.slice (some ⟨g, (t + 1) * 5, none⟩) m (cap - (t + 1))) (by simp [Act.eval, Act.put]) (by simp [Act.eval, Act.put]) (ha _ _ _ (.inr rfl)) ?_)
    all_goals
      go_wp2_with (refine wpList_clear_is _ rfl _ 115 rfl _ rfl (hc _ _) ?_)
      go_ret
      exact ⟨by first | rfl | (rw [HT.out, HM.out]), HR.out, HO.out⟩
end
end Go.Proofs.Ythfilpacmllhpab.idx
/- Selection by keys: a row without an entry. -/
namespace Go.Proofs.Ythfilpacmllhpab.idx
section
set_option maxRecDepth 100000
open Go.RowKit Go.Proofs.Ythfilpacmllhpab.own Go.Lib Go.Maps Go.WideMaps
set_option maxHeartbeats 4000000 in
theorem without_any (ao : Option Addr) (cap : Nat) (A : List En) (e : En) (C : List En) (w : World) (h : RowE ao cap (A ++ e :: C) w) (hs : Rises (A ++ e :: C)) (hl : (A ++ e :: C).length ≤ 1000000) :
    Calls Try.prog 84 #[.slice ao (A ++ e :: C).length cap, .agg #[.int .i64 e.id, .int .i64 e.key.k, .string e.key.s, .int .i64 e.key.n, .int .i64 e.pl]] w fun r w' => r = .returned (.slice ao (A ++ C).length cap) ∧ RowE ao cap (A ++ C) w' ∧ Only (RowAt ao) w w' := by
  obtain ⟨E, hE⟩ : ∃ E, E = w.alloc (.cells #[.int .i64 e.id, .int .i64 e.key.k, .string e.key.s, .int .i64 e.key.n, .int .i64 e.pl] 122) := ⟨_, rfl⟩
  have hx : Five w.heap.size e E := by rw [hE]; exact Five.new w e
  have ho : Only (fun _ => False) w E := by rw [hE]; exact Only.alloc _ _ _
  have HO := Lib.hid ho
  have hc : cntF e.pl (A ++ e :: C) = A.length := by
    have hA : ∀ x ∈ A, x.pl < e.pl := fun x hx => (List.pairwise_append.1 hs).2.2 x hx e (by simp)
    have hC : ∀ x ∈ C, e.pl < x.pl := fun x hx => (List.pairwise_cons.1 (List.pairwise_append.1 hs).2.1).1 x hx
    unfold cntF
    rw [List.countP_append, List.countP_cons, List.countP_eq_length.2 (fun x hx => by simpa using hA x hx), List.countP_eq_zero.2 (fun x hx => by have := hC x hx; simp; omega)]
    simp
  have HF : Hid (Calls Try.prog 72 #[.slice ao (A ++ e :: C).length cap, .int .i64 e.pl] E fun r w' => r = .returned (.int .i64 (A.length : Nat)) ∧ Only (fun _ => False) E w') := Lib.hid (by
    have := find_any ao cap (A ++ e :: C) e.pl E (h.later ho) hs hl
    rw [hc] at this
    exact this)
  obtain ⟨g, cur, rfl, _⟩ := h.block (by rw [List.length_append, List.length_cons]; omega)
  have hn : (A ++ e :: C).length = A.length + 1 + C.length := by simp; omega
  have HD : Hid (∀ W, Only (fun _ => False) w W → Calls Try.prog 97 #[.slice (some ⟨g, 0, none⟩) (A ++ e :: C).length cap, .int .i64 A.length, .int .i64 ((A.length : Int) + 1)] W fun r w' => r = .returned (.slice (some ⟨g, 0, none⟩) (A.length + C.length) cap) ∧ RowE (some ⟨g, 0, none⟩) cap (A ++ C) w' ∧ Only (· = g) W w') := Lib.hid (fun W o => delete_any g cap A e C W (h.later o) _ hn hl)
  have HL : Hid ((A ++ C).length = A.length + C.length) := Lib.hid (by simp)
  obtain ⟨x0, x1, x2, x3, x4⟩ := hx.cells
  have ht : A.length ≤ 1000000 := by omega
  rw [HL.out]
  generalize (A ++ e :: C).length = n at *
  generalize A.length = t at *
  generalize C.length = m at *
  have hwj : IntKind.i64.wrap ((t : Int) + 1) = (t : Int) + 1 := IntWalk.i64_in _ (by omega)
  clear h hs hl hx ho hc hn
  go_enter Try.func84, Try.ntmps84
  go_upto_region 1 with fail
  rw [← hE]
  clear hE
  go_wp2_with fail
  refine HF.out.mono ?_
  rintro r w1 ⟨rfl, ho1⟩
  have HO1 := Lib.hid (HO.out.same ho1)
  clear ho1 x0 x1 x2 x3 x4
  go_wp2_with fail
  refine (HD.out _ HO1.out).mono ?_
  rintro r w2 ⟨rfl, hr, ho2⟩
  have HR := Lib.hid hr
  have HO2 : Hid (Only (RowAt (some ⟨g, 0, none⟩)) w w2) := Lib.hid ((HO1.out.mono (fun _ _ e => e.elim)).same (ho2.mono (fun k _ e => ⟨_, rfl, e⟩)))
  clear hr ho2
  go_wp2_with fail
  go_ret
  exact ⟨rfl, HR.out, HO2.out⟩
end
end Go.Proofs.Ythfilpacmllhpab.idx
/- Selection by keys: a table without an entry. -/
namespace Go.Proofs.Ythfilpacmllhpab.idx
section
set_option maxRecDepth 100000
open Go.RowKit Go.Proofs.Ythfilpacmllhpab.own Go.Lib Go.Maps Go.WideMaps
theorem cls_in (A C : List En) (e : En) : cls e.key (A ++ e :: C) = cls e.key A ++ e :: cls e.key C := by
  unfold cls
  rw [List.filter_append, List.filter_cons, if_pos (by exact eqK_refl _)]
theorem cls_out {A C : List En} {e : En} {k : Ky} (h : k ≠ e.key) : cls k (A ++ e :: C) = cls k (A ++ C) := by
  unfold cls
  rw [List.filter_append, List.filter_cons, if_neg (by rw [eqK_ne (fun x => h x.symm)]; simp), List.filter_append]
theorem cls_two (k : Ky) (A C : List En) : cls k (A ++ C) = cls k A ++ cls k C := by unfold cls; rw [List.filter_append]
theorem alone_out {A C : List En} {e : En} (h : Alone (A ++ e :: C)) : (A ++ e :: C).filter (fun x => decide (x.id ≠ e.id)) = A ++ C := by
  have hA : ∀ x ∈ A, x.id ≠ e.id := fun x hx => (List.pairwise_append.1 h).2.2 x hx e (by simp)
  have hC : ∀ x ∈ C, x.id ≠ e.id := fun x hx => ((List.pairwise_cons.1 (List.pairwise_append.1 h).2.1).1 x hx).symm
  rw [List.filter_append, List.filter_cons, if_neg (by simp), List.filter_eq_self.2 (fun x hx => by simpa using hA x hx), List.filter_eq_self.2 (fun x hx => by simpa using hC x hx)]
theorem sub_out (A C : List En) (e : En) : List.Sublist (A ++ C) (A ++ e :: C) := (List.Sublist.refl A).append (List.sublist_cons_self e C)
section
variable {b mr mi N : Nat} {A C : List En} {e : En} {lo hi : Int} {ks : Ks} {ao a : Option Addr} {cap c nr ni : Nat} {Dr : D2} {Di : D1} {W0 W1 W2 W3 W4 W5 : World}
set_option maxHeartbeats 4000000 in
/-- An entry is taken out: the worlds one behind the other. -/
theorem TabI.dropped (h : TabI b mr mi N (A ++ e :: C) lo hi ks ao cap nr ni Dr Di W0) (hN : nr + 1 ≤ N) (hat : (e.key, (a, (cls e.key (A ++ e :: C)).length, c)) ∈ ks)
    (o1 : Only (· = mi) W0 W1) (hi1 : W1.ownsMap Try.prog 3 enR mi ni (Di.del (keyN e.id)))
    (o2 : Only (RowAt ao) W1 W2) (r2 : RowE ao cap (A ++ C) W2)
    (o3 : Only (· = b) W2 W3) (box3 : W3.heap[b]? = some (.cells #[.slice ao (A ++ C).length cap, .map (some mr), .map (some mi), .int .i64 lo, .int .i64 hi] 119 (0, 0)))
    (o4 : Only (RowAt a) W3 W4) (r4 : RowE a c (cls e.key (A ++ C)) W4)
    (o5 : Only (· = mr) W4 W5) (hm5 : W5.ownsMap Try.prog 37 hdR mr (nr + 1) (Dr.put (keyK e.key) (.held (a, (cls e.key (A ++ C)).length, c)))) :
    TabI b mr mi N (A ++ C) lo hi (setK ks e.key (a, (cls e.key (A ++ C)).length, c)) ao cap (nr + 1) ni (Dr.put (keyK e.key) (.held (a, (cls e.key (A ++ C)).length, c))) (Di.del (keyN e.id)) W5 := by
  have hrow : RowE a c (cls e.key (A ++ e :: C)) W0 := (h.rows _ hat).1
  have hkey := h.keys e (by simp)
  have hb0 := lt_of_block h.box
  obtain ⟨_, _, hmi0, _⟩ := id h.idm
  obtain ⟨_, _, hmr0, _⟩ := id h.rkm
  have hmiL := lt_of_block hmi0
  have hmrL := lt_of_block hmr0
  have hbm : b ≠ mi ∧ b ≠ mr := by
    constructor <;> (intro e; have := h.box; rw [e] at this; first | (rw [hmi0] at this; cases this) | (rw [hmr0] at this; cases this))
  -- rows that stood at the beginning
  have hstay : ∀ (q : Option Addr) (cq : Nat) (xs : List En), RowE q cq xs W0 → (∀ g g', ao = some g → q = some g' → g.block ≠ g'.block) → (∀ g g', a = some g → q = some g' → g.block ≠ g'.block) → RowE q cq xs W5 := fun q cq xs hq ha1 ha2 => by
    have q1 := hq.only o1 (fun g hg => not_at (row_ne_map hq h.idm) g hg)
    have q2 := q1.only o2 (fun g hg x => by obtain ⟨g2, hg2, e2⟩ := x; exact ha1 g2 g hg2 hg e2.symm)
    have hb1 : W1.heap[b]? = _ := (o1.block b hb0 hbm.1).trans h.box
    have hb2 : W2.heap[b]? = _ := (o2.block b (Nat.lt_of_lt_of_le hb0 o1.size) (row_apart (h.row.only o1 (fun g hg => not_at (row_ne_map h.row h.idm) g hg)) hb1 (by decide))).trans hb1
    have q3 := q2.only o3 (fun g hg x => row_apart q2 hb2 (by decide) ⟨g, hg, x.symm⟩)
    have q4 := q3.only o4 (fun g hg x => by obtain ⟨g2, hg2, e2⟩ := x; exact ha2 g2 g hg2 hg e2.symm)
    have m1 : W1.ownsMap Try.prog 37 hdR mr nr Dr := ownsMap_only h.rkm o1 h.apm
    have m2 := ownsMap_only m1 o2 (row_ne_map (h.row.only o1 (fun g hg => not_at (row_ne_map h.row h.idm) g hg)) m1)
    have m3 := ownsMap_only m2 o3 (fun e => hbm.2 e.symm)
    have ra1 := hrow.only o1 (fun g hg => not_at (row_ne_map hrow h.idm) g hg)
    have q4' := o4
    have m4 : W4.ownsMap Try.prog 37 hdR mr nr Dr := ownsMap_only m3 o4 (by
      rintro ⟨g, hg, e⟩
      rcases hrow.2 with ⟨h1, _⟩ | ⟨g', cap2, cur, hv, _, hbb, _⟩
      · simp only [Value.slice.injEq] at h1
        rw [h1.1] at hg; cases hg
      · simp only [Value.slice.injEq] at hv
        rw [hv.1] at hg
        cases hg
        have e' : mr = g' := e
        rw [e', hbb] at hmr0
        cases hmr0)
    exact q4.only o5 (fun g hg x => row_ne_map q4 m4 ⟨g, hg, x.symm⟩)
  have hra : ∀ k, RowAt a k → k < W0.heap.size ∧ k ≠ b ∧ k ≠ mi ∧ k ≠ mr := fun k hk => by
    refine ⟨?_, fun e => row_apart hrow h.box (by decide) (e ▸ hk), fun e => row_ne_map hrow h.idm (e ▸ hk), fun e => row_ne_map hrow h.rkm (e ▸ hk)⟩
    obtain ⟨g, hg, e⟩ := hk
    rw [e]; exact (hrow.head g hg).2.2
  have hrao : ∀ k, RowAt ao k → k < W0.heap.size ∧ k ≠ b ∧ k ≠ mi ∧ k ≠ mr := fun k hk => by
    refine ⟨?_, fun e => row_apart h.row h.box (by decide) (e ▸ hk), fun e => row_ne_map h.row h.idm (e ▸ hk), fun e => row_ne_map h.row h.rkm (e ▸ hk)⟩
    obtain ⟨g, hg, e⟩ := hk
    rw [e]; exact (h.row.head g hg).2.2
  have s1 := o1.size
  have s2 := o2.size
  have s3 := o3.size
  have s4 := o4.size
  have ha_ao : ∀ g g', ao = some g → a = some g' → g.block ≠ g'.block := h.ap1 _ hat
  have hold2 : ∀ p ∈ ks, p.1 ≠ e.key → ∀ g g', a = some g → p.2.1 = some g' → g.block ≠ g'.block := fun p hp hne g g' hg hg' ee => by
    have := pairs (R := fun p q : Ky × Hd => ∀ g g', p.2.1 = some g → q.2.1 = some g' → g.block ≠ g'.block) (fun x y hxy g g' h1 h2 e => hxy g' g h2 h1 e.symm) h.ap2 p hp _ hat (fun e' => hne (by rw [e']))
    exact this g' g hg' hg ee.symm
  have hb3 := lt_of_block box3
  have box5 := (o5.block b (Nat.lt_of_lt_of_le hb3 s4) hbm.2).trans ((o4.block b hb3 (fun x => (hra b x).2.1 rfl)).trans box3)
  have row5 : RowE ao cap (A ++ C) W5 := by
    have hb1 : W1.heap[b]? = _ := (o1.block b hb0 hbm.1).trans h.box
    have hb2 : W2.heap[b]? = _ := (o2.block b (Nat.lt_of_lt_of_le hb0 s1) (fun x => (hrao b x).2.1 rfl)).trans hb1
    have q3 := r2.only o3 (fun g hg x => row_apart r2 hb2 (by decide) ⟨g, hg, x.symm⟩)
    have q4 := q3.only o4 (fun g hg x => by
      obtain ⟨g2, hg2, e2⟩ := x
      exact ha_ao g g2 hg hg2 e2)
    exact q4.only o5 (fun g hg x => (hrao _ ⟨g, hg, rfl⟩).2.2.2 x)
  have idm5 : W5.ownsMap Try.prog 3 enR mi ni (Di.del (keyN e.id)) :=
    ownsMap_only (ownsMap_only (ownsMap_only (ownsMap_only hi1 o2 (fun x => (hrao mi x).2.2.1 rfl)) o3 (fun x => hbm.1 x.symm)) o4 (fun x => (hra mi x).2.2.1 rfl)) o5 (fun x => h.apm x.symm)
  have r5 : RowE a c (cls e.key (A ++ C)) W5 := r4.only o5 (fun g hg x => (hra _ ⟨g, hg, rfl⟩).2.2.2 x)
  have hidl : IdMap (Di.del (keyN e.id)) (A ++ C) := by
    have := h.idl.del e.id
    rwa [alone_out h.alone] at this
  have hsub := sub_out A C e
  refine ⟨box5, row5, idm5, hidl, hm5, h.rkl.put h.ksok hkey.1 _, h.ksok.set hkey.1 _, fun p hp => ?_, fun x hx => ?_, fun p hp => ?_, ?_, h.apm, ⟨h.pl.rises.sublist hsub, fun x hx => h.pl.low x (hsub.subset hx), fun x hx => h.pl.high x (hsub.subset hx)⟩, List.Pairwise.sublist hsub h.alone, fun x hx => h.keys x (hsub.subset hx), Nat.le_trans hsub.length_le h.few, by have := h.nums; omega⟩
  · rcases List.mem_cons.1 hp with rfl | hp
    · exact ⟨r5, rfl⟩
    · obtain ⟨hp1, hp2⟩ := mem_delK.1 hp
      rw [← cls_out (e := e) hp2]
      exact ⟨hstay _ _ _ (h.rows p hp1).1 (h.ap1 p hp1) (hold2 p hp1 hp2), (h.rows p hp1).2⟩
  · by_cases hk : x.key = e.key
    · exact ⟨_, List.mem_cons.2 (.inl (by rw [hk]))⟩
    · obtain ⟨hd, hm⟩ := h.cover x (hsub.subset hx)
      exact ⟨hd, List.mem_cons.2 (.inr (mem_delK.2 ⟨hm, hk⟩))⟩
  · rcases List.mem_cons.1 hp with rfl | hp
    · exact ha_ao
    · exact h.ap1 p (mem_delK.1 hp).1
  · refine List.pairwise_cons.2 ⟨fun p hp => ?_, h.ap2.sublist List.filter_sublist⟩
    obtain ⟨hp1, hp2⟩ := mem_delK.1 hp
    exact hold2 p hp1 hp2
end
section
variable {b mr mi N : Nat} {L : List En} {k : Ky} {lo hi : Int} {ks : Ks} {ao : Option Addr} {cap nr ni : Nat} {Dr : D2} {Di : D1} {W0 W1 : World}
/-- A key of which there is no entry is forgotten. -/
theorem TabI.forget (h : TabI b mr mi N L lo hi ks ao cap nr ni Dr Di W0) (hk : k.Ok) (h0 : cls k L = []) (o : Only (· = mr) W0 W1) (hm : W1.ownsMap Try.prog 37 hdR mr nr (Dr.del (keyK k))) :
    TabI b mr mi N L lo hi (delK ks k) ao cap nr ni (Dr.del (keyK k)) Di W1 := by
  obtain ⟨_, _, hmr0, _⟩ := id h.rkm
  have hb : b ≠ mr := by intro e; have := h.box; rw [e, hmr0] at this; cases this
  refine ⟨(o.block b (lt_of_block h.box) hb).trans h.box, h.row.only o (fun g hg => not_at (row_ne_map h.row h.rkm) g hg), ownsMap_only h.idm o (fun e => h.apm e.symm), h.idl, hm, h.rkl.del h.ksok hk, h.ksok.del k, fun p hp => ?_, fun x hx => ?_, fun p hp => h.ap1 p (mem_delK.1 hp).1, h.ap2.sublist List.filter_sublist, h.apm, h.pl, h.alone, h.keys, h.few, h.nums⟩
  · have hq := h.rows p (mem_delK.1 hp).1
    exact ⟨hq.1.only o (fun g hg => not_at (row_ne_map hq.1 h.rkm) g hg), hq.2⟩
  · obtain ⟨hd, hm'⟩ := h.cover x hx
    refine ⟨hd, mem_delK.2 ⟨hm', fun e => ?_⟩⟩
    have : x ∈ cls k L := mem_cls.2 ⟨hx, e⟩
    rw [h0] at this
    cases this
end
end
end Go.Proofs.Ythfilpacmllhpab.idx
/- Selection by keys: the call Drop, of an entry: up to the key's row. -/
namespace Go.Proofs.Ythfilpacmllhpab.idx
section
set_option maxRecDepth 100000
open Go.RowKit Go.Proofs.Ythfilpacmllhpab.own Go.Lib Go.Maps Go.WideMaps
section
variable {b mr mi N : Nat} {L A C : List En} {e : En} {lo hi : Int} {ks : Ks} {ao : Option Addr} {cap nr ni : Nat} {Dr : D2} {Di : D1} {w W w' : World}
theorem TabI.more (h : TabI b mr mi N L lo hi ks ao cap nr ni Dr Di W) (hN : N + 1 ≤ 1000000) : TabI b mr mi (N + 1) L lo hi ks ao cap nr ni Dr Di W :=
  { h with nums := by have := h.nums; omega }
theorem _root_.Go.Proofs.Ythfilpacmllhpab.own.NewRow.refl' (n : Nat) (ao : Option Addr) : NewRow n ao ao := fun _ hg => .inl hg
theorem idF_in (h : Alone (A ++ e :: C)) : idF e.id (A ++ e :: C) = some e := by
  unfold idF
  rw [List.find?_append, List.find?_eq_none.2 (fun x hx => by have := (List.pairwise_append.1 h).2.2 x hx e (by simp); simpa using this)]
  simp
set_option maxHeartbeats 16000000 in
theorem drop_yes {B : Nat} (h : TabI b mr mi N (A ++ e :: C) lo hi ks ao cap nr ni Dr Di w) (hab : Ab B b mr mi ao ks) (hN : N + 1 ≤ 1000000) :
    Calls Try.prog 68 #[.pointer (some ⟨b, 0, none⟩), .int .i64 e.id] w fun r w' => r = .returned (.int .i64 0) ∧ TabB B b (N + 1) (A ++ C) lo hi w' ∧ Only (Ixy B w) w w' := by
  have HAB := Lib.hid hab
  clear hab
  obtain ⟨E, hE⟩ : ∃ E, E = w.alloc (.cells #[.int .i64 e.id, .int .i64 e.key.k, .string e.key.s, .int .i64 e.key.n, .int .i64 e.pl] 122) := ⟨_, rfl⟩
  have hx : Five w.heap.size e E := by rw [hE]; exact Five.new w e
  have ho : Only (fun _ => False) w E := by rw [hE]; exact Only.alloc _ _ _
  have HCL := Lib.hid (closed_no h)
  have hky := h.keys e (by simp)
  have hlk := h.look_id hky.2.1
  rw [idF_in h.alone] at hlk
  simp only [Option.getD_some, Option.isSome_some] at hlk
  have HT0 : Hid (TabI b mr mi (N + 1) (A ++ e :: C) lo hi ks ao cap nr ni Dr Di E) := Lib.hid ((h.later ho).more hN)
  have HX0 := Lib.hid hx
  have HO0 := Lib.hid ho
  have HH := Lib.hid h
  have HKY := Lib.hid hky
  have HNN := Lib.hid hN
  obtain ⟨c0, c1, c2, c3, c4⟩ := h.cells
  obtain ⟨d0, d1, d2, d3, d4⟩ := (h.later ho).cells
  obtain ⟨x0, x1, x2, x3, x4⟩ := hx.cells
  have hkn := keyOfN hky.2.1
  have hown := HT0.out.idm
  obtain ⟨n, hnl⟩ : ∃ n, n = (A ++ e :: C).length := ⟨_, rfl⟩
  have HNL := Lib.hid hnl
  rw [← hnl] at c0 d0
  clear h hx ho hky hN hnl
  go_enter Try.func68, Try.ntmps68
  go_wp2_with fail
  refine HCL.out.mono ?_
  rintro r w0 ⟨rfl, rfl⟩
  go_upto_region 6 with fail
  rw [← hE]
  clear hE
  generalize hbt : w0.heap.size = bt at *
  go_wp2_with (first
    | (at_delete; refine wpList_delete_own _ rfl _ _ 117 3 rfl 122 keyedI Try.underlying117 enR mi ni Di rfl hown _ _ rfl hkn ?_; intro w7 hown7 hturn7)
    | fail)
  have HO7 : Hid (Only (· = mi) E w7) := Lib.hid (Only.turned hturn7)
  have HI7 := Lib.hid hown7
  have HAP : Hid (∀ k, RowAt ao k → k < w0.heap.size ∧ k ≠ b ∧ k ≠ mi ∧ k ≠ mr) := Lib.hid (fun k hk => by
    refine ⟨?_, fun e => row_apart HH.out.row HH.out.box (by decide) (e ▸ hk), fun e => row_ne_map HH.out.row HH.out.idm (e ▸ hk), fun e => row_ne_map HH.out.row HH.out.rkm (e ▸ hk)⟩
    obtain ⟨g, hg, e⟩ := hk
    rw [e]; exact (HH.out.row.head g hg).2.2)
  have HBM : Hid (b ≠ mi ∧ b ≠ mr ∧ bt ≠ mi ∧ bt ≠ mr ∧ bt ≠ b) := Lib.hid (by
    obtain ⟨_, _, hmi0, _⟩ := id HH.out.idm
    obtain ⟨_, _, hmr0, _⟩ := id HH.out.rkm
    have hb := HH.out.box
    have l1 := lt_of_block hb
    have l2 := lt_of_block hmi0
    have l3 := lt_of_block hmr0
    refine ⟨fun e => ?_, fun e => ?_, by omega, by omega, by omega⟩
    · rw [e, hmi0] at hb; cases hb
    · rw [e, hmr0] at hb; cases hb)
  have HB7 : Hid (∀ W, Only (RowAt ao) w7 W → W.heap[b]? = some (.cells #[.slice ao n cap, .map (some mr), .map (some mi), .int .i64 lo, .int .i64 hi] 119 (0, 0)) ∧ Five bt e W ∧ W.ownsMap Try.prog 37 hdR mr nr Dr) := Lib.hid (fun W o => by
    have hb6 := lt_of_block HT0.out.box
    have hbx : w7.heap[b]? = _ := (HO7.out.block b hb6 HBM.out.1).trans HT0.out.box
    have he7 : Five bt e w7 := HX0.out.only HO7.out (fun e => HBM.out.2.2.1 e)
    have hm7 := ownsMap_only HT0.out.rkm HO7.out HT0.out.apm
    rw [HNL.out]
    refine ⟨(o.block b (lt_of_block hbx) (fun e => (HAP.out b e).2.1 rfl)).trans hbx, he7.only o (fun e => by have := (HAP.out bt e).1; omega), ownsMap_only hm7 o (fun e => (HAP.out mr e).2.2.2 rfl)⟩)
  have HR7 : Hid (RowE ao cap (A ++ e :: C) w7) := Lib.hid (HT0.out.row.only HO7.out (fun g hg => not_at (row_ne_map HT0.out.row HT0.out.idm) g hg))
  have HWA : Hid (∀ W, Only (fun _ => False) w7 W → Calls Try.prog 84 #[.slice ao n cap, .agg #[.int .i64 e.id, .int .i64 e.key.k, .string e.key.s, .int .i64 e.key.n, .int .i64 e.pl]] W fun r w' => r = .returned (.slice ao (A ++ C).length cap) ∧ RowE ao cap (A ++ C) w' ∧ Only (RowAt ao) W w') := Lib.hid (fun W o => by
    rw [HNL.out]
    exact without_any ao cap A e C W (HR7.out.later o) HT0.out.pl.rises (by have := HT0.out.few; omega))
  clear hown hown7 hturn7 hkn hlk c0 c1 c2 c3 c4 d0 d1 d2 d3 d4 x0 x1 x2 x3 x4
  obtain ⟨n2, hn2⟩ : ∃ n2, n2 = (A ++ C).length := ⟨_, rfl⟩
  have HN2 := Lib.hid hn2
  rw [← hn2] at HWA
  clear hn2
  simp only [Act.put]
  go_cut [31] (fun s31 wx => s31 = .slice ao n2 cap ∧ Hid (∃ W2, Only (RowAt ao) w7 W2 ∧ RowE ao cap (A ++ C) W2 ∧ wx = W2.setCell ⟨b, 0, none⟩ (.slice ao n2 cap)))
  case first =>
    have q0 := HB7.out w7 (Only.refl _ _)
    have p0 := cell_of_blk q0.1 0
    simp only [List.getElem?_toArray, List.getElem?_cons_zero] at p0
    obtain ⟨v0, v1, v2, v3, v4⟩ := q0.2.1.cells
    clear q0
    go_region_with (go_at_call 84; refine (HWA.out _ (by first | exact Only.drew _ _ | exact Only.refl _ _)).mono ?_; rintro r u ⟨rfl, hr2, ho2⟩; have HA2 : Hid (Only (RowAt ao) w7 u ∧ RowE ao cap (A ++ C) u) := Lib.hid ⟨(by first | exact ((Only.drew (fun _ => False) _).mono (fun _ _ e => e.elim)).same ho2 | exact ho2), hr2⟩; have q1 := HB7.out u HA2.out.1; have p1 := cell_of_blk q1.1 0; simp only [List.getElem?_toArray, List.getElem?_cons_zero] at p1; have f1 : u.frozen? ⟨b, 0, none⟩ = false := free_of_blk q1.1 0; clear hr2 ho2 q1)
    all_goals
      go_wp2_with fail
      go_meet
      exact ⟨rfl, Lib.hid ⟨_, HA2.out.1, HA2.out.2, rfl⟩⟩
  case rest =>
    obtain ⟨rfl, hC⟩ := hcut
    obtain ⟨W2, ho2, hr2, hw3⟩ := hC.out
    obtain ⟨box2, he2, hm2⟩ := HB7.out W2 ho2
    have o3 : Only (· = b) W2 wc := by rw [hw3]; exact Only.setCell (S := (· = b)) (p := ⟨b, 0, none⟩) W2 rfl _
    have box3 : wc.heap[b]? = some (.cells #[.slice ao n2 cap, .map (some mr), .map (some mi), .int .i64 lo, .int .i64 hi] 119 (0, 0)) := by rw [hw3, blk_set box2 0]; rfl
    have he3 : Five bt e wc := he2.only o3 (fun e => HBM.out.2.2.2.2 e)
    have hm3 : wc.ownsMap Try.prog 37 hdR mr nr Dr := ownsMap_only hm2 o3 (fun e => HBM.out.2.1 e.symm)
    have hkx := HKY.out.1
    obtain ⟨a, c, hlk, hrow6, hat0⟩ := HT0.out.look_row hkx
    have hat : (e.key, (a, (cls e.key (A ++ e :: C)).length, c)) ∈ ks := by
      rcases hat0 with ⟨_, _, hno⟩ | hat
      · obtain ⟨hd, hm⟩ := HT0.out.cover e (by simp)
        exact absurd rfl (hno _ hm)
      · exact hat
    have HAT := Lib.hid hat
    have hra : ∀ k, RowAt a k → k < w0.heap.size ∧ k ≠ b ∧ k ≠ mi ∧ k ≠ mr ∧ Ixy B w0 k := fun k hk => by
      have hr := (HH.out.rows _ hat).1
      refine ⟨?_, fun e => row_apart hr HH.out.box (by decide) (e ▸ hk), fun e => row_ne_map hr HH.out.idm (e ▸ hk), fun e => row_ne_map hr HH.out.rkm (e ▸ hk), HAB.out.rows _ hat k hk, .inr (.inl (row_kind hr hk))⟩
      obtain ⟨g, hg, e⟩ := hk
      rw [e]; exact (hr.head g hg).2.2
    have haa : ∀ k, RowAt a k → ¬ RowAt ao k := fun k hk hk' => by
      obtain ⟨g, hg, e⟩ := hk
      obtain ⟨g', hg', e'⟩ := hk'
      exact HT0.out.ap1 _ hat g' g hg' hg (by omega)
    have hrow3 : RowE a c (cls e.key (A ++ e :: C)) wc := ((hrow6.only HO7.out (fun g hg e => (hra _ ⟨g, hg, rfl⟩).2.2.1 e)).only ho2 (fun g hg e => haa _ ⟨g, hg, rfl⟩ e)).only o3 (fun g hg e => (hra _ ⟨g, hg, rfl⟩).2.1 e)
    have HRA := Lib.hid hra
    have HM3 : Hid (∀ u, Only (RowAt a) wc u → u.ownsMap Try.prog 37 hdR mr nr Dr) := Lib.hid (fun u o => ownsMap_only hm3 o (fun e => (HRA.out mr e).2.2.2.1 rfl))
    have HWC : Hid (∀ W, Only (fun _ => False) wc W → Calls Try.prog 84 #[.slice a (cls e.key (A ++ e :: C)).length c, .agg #[.int .i64 e.id, .int .i64 e.key.k, .string e.key.s, .int .i64 e.key.n, .int .i64 e.pl]] W fun r w' => r = .returned (.slice a (cls e.key (A ++ C)).length c) ∧ RowE a c (cls e.key (A ++ C)) w' ∧ Only (RowAt a) W w') := Lib.hid (fun W o => by
      have h1 := hrow3.later o
      have h2 := cls_rises (k := e.key) HT0.out.pl.rises
      have h3 : (cls e.key (A ++ e :: C)).length ≤ 1000000 := by have := cls_len e.key (A ++ e :: C); have := HT0.out.few; omega
      rw [cls_in] at h1 h2 h3 ⊢
      rw [cls_two]
      exact without_any a c (cls e.key A) e (cls e.key C) W h1 h2 h3)
    have HK11 : Hid (∀ W, Only (RowAt a) wc W → W.cell? ⟨b, 1, none⟩ = some (.map (some mr)) ∧ W.cell? ⟨bt, 0, none⟩ = some (.int .i64 e.id) ∧ W.cell? ⟨bt, 1, none⟩ = some (.int .i64 e.key.k) ∧ W.cell? ⟨bt, 2, none⟩ = some (.string e.key.s) ∧ W.cell? ⟨bt, 3, none⟩ = some (.int .i64 e.key.n) ∧ W.cell? ⟨bt, 4, none⟩ = some (.int .i64 e.pl)) := Lib.hid (fun W o => ⟨by
      rw [cell_of_blk ((o.block b (lt_of_block box3) (fun e => (HRA.out b e).2.1 rfl)).trans box3)]; rfl, (he3.only o (fun e => by have := (HRA.out bt e).1; omega)).cells⟩)
    have HK12 : Hid (∀ u W, Only (RowAt a) wc u → Only (· = mr) u W → W.cell? ⟨b, 1, none⟩ = some (.map (some mr)) ∧ W.cell? ⟨bt, 0, none⟩ = some (.int .i64 e.id) ∧ W.cell? ⟨bt, 1, none⟩ = some (.int .i64 e.key.k) ∧ W.cell? ⟨bt, 2, none⟩ = some (.string e.key.s) ∧ W.cell? ⟨bt, 3, none⟩ = some (.int .i64 e.key.n) ∧ W.cell? ⟨bt, 4, none⟩ = some (.int .i64 e.pl)) := Lib.hid (fun u W o o' => by
      have hbu := (o.block b (lt_of_block box3) (fun e => (HRA.out b e).2.1 rfl)).trans box3
      have heu := he3.only o (fun e => by have := (HRA.out bt e).1; omega)
      exact ⟨by rw [cell_of_blk ((o'.block b (lt_of_block hbu) HBM.out.2.1).trans hbu)]; rfl, (heu.only o' (fun e => HBM.out.2.2.2.1 e)).cells⟩)
    have hq := hlk wc.drew (ownsMap_only hm3 (Only.drew (fun _ => False) _) (fun e => e))
    simp only [kyV] at hq
    have hkk := keyOfK hkx
    simp only [kyV] at hkk
    have HFIN : Hid (∀ (u w9 : World), RowE a c (cls e.key (A ++ C)) u → Only (RowAt a) wc u → Only (· = mr) u w9 → w9.ownsMap Try.prog 37 hdR mr (nr + 1) (Dr.put (keyK e.key) (.held (a, (cls e.key (A ++ C)).length, c))) → TabI b mr mi (N + 1) (A ++ C) lo hi (setK ks e.key (a, (cls e.key (A ++ C)).length, c)) ao cap (nr + 1) ni (Dr.put (keyK e.key) (.held (a, (cls e.key (A ++ C)).length, c))) (Di.del (keyN e.id)) w9 ∧ Ab B b mr mi ao (setK ks e.key (a, (cls e.key (A ++ C)).length, c)) ∧ Only (Ixy B w0) w0 w9) := Lib.hid (fun u w9 hr4 ho4 ho5 hm5 => by
      have hnum := HH.out.nums
      refine ⟨HT0.out.dropped (by omega) hat HO7.out HI7.out ho2 hr2 o3 (by rw [← HN2.out]; exact box3) ho4 hr4 ho5 hm5, ?_, ?_⟩
      · exact HAB.out.put (Nat.le_refl B) (Nat.le_refl B) (NewRow.refl' B ao) (fun k hk => (HRA.out k hk).2.2.2.2.1) (NewRow.refl' B a)
      have ib : Ixy B w0 b := ⟨HAB.out.b, .inl ⟨_, HH.out.box⟩⟩
      have ii : Ixy B w0 mi := ⟨HAB.out.mi, .inr (.inr (by obtain ⟨es, cl, hb, _⟩ := HH.out.idm; exact ⟨es, cl, hb⟩))⟩
      have ir : Ixy B w0 mr := ⟨HAB.out.mr, .inr (.inr (by obtain ⟨es, cl, hb, _⟩ := HH.out.rkm; exact ⟨es, cl, hb⟩))⟩
      exact (((((HO0.out.mono (S' := Ixy B w0) (fun k _ e => e.elim)).trans HO7.out (fun k _ e => by rw [e]; exact ii)).trans ho2 (fun k _ e => ⟨HAB.out.row k e, .inr (.inl (row_kind HH.out.row e))⟩)).trans o3 (fun k _ e => by rw [e]; exact ib)).trans ho4 (fun k _ e => (HRA.out k e).2.2.2.2)).trans ho5 (fun k _ e => by rw [e]; exact ir))
    have hnr : nr < maxLen := by have := HT0.out.nums; unfold maxLen; omega
    clear hw3 hlk hat hat0 hra haa hrow6 hrow3 ho2 hr2 o3 box2 box3 he2 he3 hm2 hm3 hC
    obtain ⟨m2, hm2⟩ : ∃ m2, m2 = (cls e.key (A ++ C)).length := ⟨_, rfl⟩
    have HMM2 := Lib.hid hm2
    rw [← hm2] at HWC HFIN
    clear hm2
    generalize (cls e.key (A ++ e :: C)).length = m at *
    go_wp2_with fail
    go_cut [] (fun wx => Hid (∃ u, RowE a c (cls e.key (A ++ C)) u ∧ Only (RowAt a) wc u ∧ Only (· = mr) u wx ∧ wx.ownsMap Try.prog 37 hdR mr (nr + 1) (Dr.put (keyK e.key) (.held (a, m2, c)))))
    case first =>
      go_region_held3 (fun W => W.cell? ⟨b, 1, none⟩ = some (.map (some mr)) ∧ W.cell? ⟨bt, 0, none⟩ = some (.int .i64 e.id) ∧ W.cell? ⟨bt, 1, none⟩ = some (.int .i64 e.key.k) ∧ W.cell? ⟨bt, 2, none⟩ = some (.string e.key.s) ∧ W.cell? ⟨bt, 3, none⟩ = some (.int .i64 e.key.n) ∧ W.cell? ⟨bt, 4, none⟩ = some (.int .i64 e.pl)) (with_reducible first | exact HK12.out _ _ HOu.out HOM.out | exact HK11.out _ HOu.out | exact HK11.out _ (Only.drew _ _)) (first
        | (go_at_call 84; refine (HWC.out _ (Only.drew _ _)).mono ?_; intro r u hu; obtain ⟨rfl, hr4, ho4⟩ := hu; have HOu : Hid (Only (RowAt a) wc u) := Lib.hid (((Only.drew (fun _ => False) _).mono (fun _ _ e => e.elim)).same ho4); have HRu := Lib.hid hr4; obtain ⟨w9, hrun9, hown9, hturn9⟩ := (HM3.out u HOu.out).store keyedK Try.underlying116 hnr hkk (hdR_mk a m2 c); have HOM : Hid (Only (· = mr) u w9) := Lib.hid (Only.turned hturn9); have HMM := Lib.hid hown9; clear hr4 ho4 hown9 hturn9))
      all_goals
        go_wp2_with fail
        go_meet
        exact Lib.hid ⟨_, HRu.out, HOu.out, HOM.out, HMM.out⟩
    case rest =>
      obtain ⟨u, hr4, ho4, ho5, hm5⟩ := hcut.out
      obtain ⟨hT, hA, hO⟩ := HFIN.out _ _ hr4 ho4 ho5 hm5
      have HT := Lib.hid hT
      have HA := Lib.hid hA
      have HO := Lib.hid hO
      have hcs := HK12.out _ _ ho4 ho5
      clear HFIN HWC HM3 HK11 HK12 hq hkk hT hA hO hr4 ho4 ho5 hm5 hcut
      obtain ⟨y0, y1, y2, y3, y4, y5⟩ := hcs
      obtain ⟨a', c', hlk, _, _⟩ := HT.out.look_row hkx
      rw [← HMM2.out] at hlk
      have hq : ∀ q, (Instr.lookup 116 (.map (some mr)) (.agg #[.int .i64 e.key.k, .string e.key.s, .int .i64 e.key.n]) false).run Try.prog (World.drewN _ q) = .ok (.slice a' m2 c') (World.drewN _ q) := fun q => hlk _ (ownsMap_only HT.out.rkm (Only.drewN (fun _ => False) _ q) (fun e => e))
      clear hlk
      go_upto_region 9 with fail
      go_cut [57] (fun s57 wx => s57 = .bool ((m2 : Int) == 0) ∧ Hid (TabI b mr mi (N + 1) (A ++ C) lo hi (setK ks e.key (a, m2, c)) ao cap (nr + 1) ni (Dr.put (keyK e.key) (.held (a, m2, c))) (Di.del (keyN e.id)) wx ∧ Only (Ixy B w0) w0 wx ∧ wx.cell? ⟨bt, 1, none⟩ = some (.int .i64 e.key.k) ∧ wx.cell? ⟨bt, 2, none⟩ = some (.string e.key.s) ∧ wx.cell? ⟨bt, 3, none⟩ = some (.int .i64 e.key.n)))
      case first =>
        have HY := Lib.hid (And.intro y2 (And.intro y3 y4))
        go_quiet (fail)
        go_wp2_with fail
        go_meet
        exact ⟨rfl, Lib.hid ⟨HT.out.later (Only.drewN _ _ _), HO.out.same (Only.drewN _ _ _), by simpa using HY.out.1, by simpa using HY.out.2.1, by simpa using HY.out.2.2⟩⟩
      case rest =>
        obtain ⟨rfl, hC⟩ := hcut
        obtain ⟨hT, hO, z1, z2, z3⟩ := hC.out
        have HT2 := Lib.hid hT
        have HO2 := Lib.hid hO
        clear hq hT hO hC y0 y1 y2 y3 y4 y5
        obtain ⟨b0, b1, b2, b3, b4⟩ := HT2.out.cells
        by_cases hz : m2 = 0
        · have hz' : ((m2 : Int) == 0) = true := by simp [hz]
          have HZ := Lib.hid hz
          clear hz
          rw [hz']
          go_upto_region 10 with fail
          go_still_tail 6, (by kernel_rfl)
          change wpList _ _ _ _ _ wc.drew
          have HT3 := Lib.hid (HT2.out.later (Only.drew (fun _ => False) wc))
          have HO3 := Lib.hid (HO2.out.same (Only.drew (Ixy B w0) wc))
          clear HT2 HO2 z1 z2 z3 b0 b1 b2 b3 b4
          generalize wc.drew = w10 at *
          have hkk := keyOfK hkx
          simp only [kyV] at hkk
          have hown := HT3.out.rkm
          go_wp2_with (first
            | (at_delete; refine wpList_delete_own _ rfl _ _ 116 37 rfl 115 keyedK Try.underlying116 hdR mr (nr + 1) _ rfl hown _ _ rfl hkk ?_; intro w11 hown11 hturn11)
            | fail)
          go_ret
          have hO11 : Only (· = mr) w10 w11 := Only.turned hturn11
          have h0 : cls e.key (A ++ C) = [] := List.eq_nil_of_length_eq_zero (by rw [← HMM2.out]; exact HZ.out)
          have ir : Ixy B w0 mr := ⟨HAB.out.mr, .inr (.inr (by obtain ⟨es, cl, hb, _⟩ := HH.out.rkm; exact ⟨es, cl, hb⟩))⟩
          exact ⟨rfl, ⟨mr, mi, _, ao, cap, nr + 1, ni, _, _, HT3.out.forget hkx h0 hO11 hown11, ⟨HA.out.b, HA.out.mr, HA.out.mi, HA.out.row, fun p hp => HA.out.rows p (mem_delK.1 hp).1⟩⟩, HO3.out.trans hO11 (fun k _ e => by rw [e]; exact ir)⟩
        · have hz' : ((m2 : Int) == 0) = false := by simp [hz]
          clear hz
          rw [hz']
          go_wp2_with fail
          go_ret
          exact ⟨rfl, ⟨mr, mi, _, ao, cap, nr + 1, ni, _, _, HT2.out, HA.out⟩, HO2.out⟩
end
end
end Go.Proofs.Ythfilpacmllhpab.idx
/- Selection by keys: Add and Drop, whatever they answer. -/
namespace Go.Proofs.Ythfilpacmllhpab.idx
section
set_option maxRecDepth 100000
open Go.RowKit Go.Proofs.Ythfilpacmllhpab.own Go.Lib Go.Maps Go.WideMaps
/-- A table's plain content: its entries, and the places that come next. -/
structure St where
  L : List En
  lo : Int
  hi : Int
def addS (s : St) (i : Int) (k : Ky) (f : Bool) : Int × St :=
  if (idF i s.L).isSome = true then (5, s)
  else if 4096 ≤ s.L.length then (2, s)
  else (0, ⟨insF f (newE i k f s.lo s.hi) s.L, if f = true then s.lo - 1 else s.lo, if f = true then s.hi else s.hi + 1⟩)
def outF (i : Int) (L : List En) : List En := L.filter (fun e => decide (e.id ≠ i))
def dropS (s : St) (i : Int) : Int × St := if (idF i s.L).isSome = true then (0, ⟨outF i s.L, s.lo, s.hi⟩) else (4, s)
abbrev TabS (B b N : Nat) (s : St) (W : World) : Prop := TabB B b N s.L s.lo s.hi W
section
variable {B b N : Nat} {s : St} {w : World}
theorem TabS.more (h : TabS B b N s w) (hN : N + 1 ≤ 1000000) : TabS B b (N + 1) s w := by
  obtain ⟨mr, mi, ks, ao, cap, nr, ni, Dr, Di, h1, h2⟩ := h
  exact ⟨mr, mi, ks, ao, cap, nr, ni, Dr, Di, h1.more hN, h2⟩
theorem TabS.alone (h : TabS B b N s w) : Alone s.L := by
  obtain ⟨mr, mi, ks, ao, cap, nr, ni, Dr, Di, h1, h2⟩ := h
  exact h1.alone
theorem TabS.between (h : TabS B b N s w) : Between s.L s.lo s.hi := by
  obtain ⟨mr, mi, ks, ao, cap, nr, ni, Dr, Di, h1, h2⟩ := h
  exact h1.pl
theorem TabS.few (h : TabS B b N s w) : s.L.length ≤ 4096 := by
  obtain ⟨mr, mi, ks, ao, cap, nr, ni, Dr, Di, h1, h2⟩ := h
  exact h1.few
theorem TabS.zero (h : TabS B b N s w) : ∀ e ∈ s.L, e.key.k = 0 → e.key = zK := by
  obtain ⟨mr, mi, ks, ao, cap, nr, ni, Dr, Di, h1, h2⟩ := h
  exact fun e he => (h1.keys e he).2.2
theorem add_all (h : TabS B b N s w) (hN : N + 1 ≤ 1000000) (i : Int) (hi : Fit i) (k : Ky) (hk : k.Ok) (f : Bool) :
    Calls Try.prog 39 #[.pointer (some ⟨b, 0, none⟩), .int .i64 i, kyV k, .bool f] w fun e w' => e = .returned (.int .i64 (addS s i k f).1) ∧ TabS B b (N + 1) (addS s i k f).2 w' ∧ Only (Ixy B w) w w' := by
  cases hx : idF i s.L with
  | some x =>
    have he : addS s i k f = (5, s) := by unfold addS; rw [hx]; rfl
    rw [he]
    obtain ⟨mr, mi, ks, ao, cap, nr, ni, Dr, Di, h1, h2⟩ := id h
    refine (add_there h1 i hi k f x hx).mono ?_
    rintro e w1 ⟨rfl, ho⟩
    exact ⟨rfl, TabS.more (s := s) (TabB.later h ho) hN, ho.mono (fun _ _ e => e.elim)⟩
  | none =>
    by_cases hn : 4096 ≤ s.L.length
    · have he : addS s i k f = (2, s) := by unfold addS; rw [hx, if_neg (by simp), if_pos hn]
      rw [he]
      obtain ⟨mr, mi, ks, ao, cap, nr, ni, Dr, Di, h1, h2⟩ := id h
      refine (add_full h1 i hi k f hx hn).mono ?_
      rintro e w1 ⟨rfl, ho⟩
      exact ⟨rfl, TabS.more (s := s) (TabB.later h ho) hN, ho.mono (fun _ _ e => e.elim)⟩
    · have he : addS s i k f = (0, ⟨insF f (newE i k f s.lo s.hi) s.L, if f = true then s.lo - 1 else s.lo, if f = true then s.hi else s.hi + 1⟩) := by unfold addS; rw [hx, if_neg (by simp), if_neg hn]
      rw [he]
      exact add_tab h hN i hi k hk f hx (by omega)
theorem drop_all (h : TabS B b N s w) (hN : N + 1 ≤ 1000000) (i : Int) (hi : Fit i) :
    Calls Try.prog 68 #[.pointer (some ⟨b, 0, none⟩), .int .i64 i] w fun e w' => e = .returned (.int .i64 (dropS s i).1) ∧ TabS B b (N + 1) (dropS s i).2 w' ∧ Only (Ixy B w) w w' := by
  cases hx : idF i s.L with
  | none =>
    have he : dropS s i = (4, s) := by unfold dropS; rw [hx]; rfl
    rw [he]
    refine (drop_no h i hi hx).mono ?_
    rintro e w1 ⟨rfl, ho⟩
    exact ⟨rfl, TabS.more (s := s) (TabB.later h ho) hN, ho.mono (fun _ _ e => e.elim)⟩
  | some x =>
    have he : dropS s i = (0, ⟨outF i s.L, s.lo, s.hi⟩) := by unfold dropS; rw [hx]; rfl
    rw [he]
    obtain ⟨hm, rfl⟩ := idF_some hx
    obtain ⟨A, C, hL⟩ := List.append_of_mem hm
    have hal := h.alone
    rw [hL] at hal
    have ho : outF x.id s.L = A ++ C := by unfold outF; rw [hL]; exact alone_out hal
    rw [ho]
    obtain ⟨mr, mi, ks, ao, cap, nr, ni, Dr, Di, h1, h2⟩ := h
    rw [hL] at h1
    exact drop_yes h1 h2 hN
end
end
end Go.Proofs.Ythfilpacmllhpab.idx
