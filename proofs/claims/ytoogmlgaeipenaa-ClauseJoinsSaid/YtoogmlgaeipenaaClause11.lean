/- Clauses: lists of terms put together; a compound of the arguments of lists. -/
import Derived.Test.YtoogmlgaeipenaaClause8
import Derived.Laws.OwnMore
namespace Go.Proofs.Ytoogmlgaeipenaa.terms
set_option maxRecDepth 100000
open Go.RowKit Go.Proofs.Ytoogmlgaeipenaa.own Go.Maps
section
variable {α : Type} {enc : α → List Value} {s : Nat}
/-- What a list that is read holds in memory. -/
def SrcOf (enc : α → List Value) (w : World) (ao : Option Addr) (xs : List α) : Prop := (ao = none → xs = []) ∧ ∀ ad, ao = some ad → ∀ j u, (xs.flatMap enc)[j]? = some u → w.cell? (ad.add j) = some u
theorem Src.of {w : World} {ao : Option Addr} {its : List It} (h : Src w ao its) : SrcOf encIt w ao its := by
  refine ⟨fun e => ?_, fun ad e => ?_⟩
  · cases its with
    | nil => rfl
    | cons x r => obtain ⟨b, off, h1, _⟩ := h 0 x rfl; rw [e] at h1; cases h1
  · subst e
    cases its with
    | nil => intro j u h; simp at h
    | cons x r => obtain ⟨b, off, h1, _⟩ := h 0 x rfl; cases h1; exact h.cells
theorem RowOf.src {E B : Nat} {ao : Option Addr} {cap : Nat} {xs : List α} {w : World} (h : RowOf enc s E B ao cap xs w) : SrcOf enc w ao xs := by
  refine ⟨fun e => ?_, fun ad e => ?_⟩
  · rcases h.2 with ⟨h1, h2⟩ | ⟨g', cap', cur, hv, _⟩
    · simp only [Value.slice.injEq] at h1
      exact List.eq_nil_of_length_eq_zero h1.2.1
    · simp only [Value.slice.injEq] at hv
      rw [e] at hv
      cases hv.1
  · obtain ⟨h1, _, _⟩ := h.head ad e
    subst e
    intro j u hu
    rw [h1]
    rw [h1] at h
    exact World.ownsRow.cells h (g := ad.block) rfl j u hu
theorem SrcOf.only {S : Nat → Prop} {w w' : World} {ao : Option Addr} {xs : List α} (h : SrcOf enc w ao xs) (ho : Only S w w') (hb : ∀ ad, ao = some ad → ad.block < w.heap.size ∧ ¬ S ad.block) : SrcOf enc w' ao xs :=
  ⟨h.1, fun ad e j u hu => (ho.cell (p := ad.add j) (by unfold Addr.add; split; exact (hb ad e).1; exact (hb ad e).1) (by unfold Addr.add; split; exact (hb ad e).2; exact (hb ad e).2)).trans (h.2 ad e j u hu)⟩
/-- append of a list that lies anywhere to a row of one's own. -/
theorem run_append_many {P : Program} (L : Go.Proofs.Ytoogmlgaeipenaa.own.Lies enc s) (t ty : TypeId) (B E : Nat) (i : TypeInfo) (zz : Value) (by_ : Nat) (ht : P.underlying t = some (.slice E)) (hi : P.info? E = some i) (hz : i.zero = some zz) (hsize : i.size = s) (hby : i.bytes = by_) (hzs : zz.cells.size = s) (hbb : by_ ≤ 1024)
    (W : World) (ao : Option Addr) (cap : Nat) (xs : List α) (hrow : RowOf enc s E B ao cap xs W) (bo : Option Addr) (bcap : Nat) (ys : List α) (hsrc : SrcOf enc W bo ys) (hlen : xs.length + ys.length ≤ 16777216) (hB : B ≤ W.heap.size) :
    ∃ ao' cap' w', (Builtin.append_ #[t, t] ty #[.slice ao xs.length cap, .slice bo ys.length bcap]).run P W = .ok (.slice ao' (xs.length + ys.length) cap') w' ∧ RowOf enc s E B ao' cap' (xs ++ ys) w' ∧ Only (RowAt ao) W w' ∧ NewRow W.heap.size ao ao' := by
  cases bo with
  | none =>
    have hy := hsrc.1 rfl
    subst hy
    refine ⟨ao, cap, W, ?_, by rw [List.append_nil]; exact hrow, Only.refl _ _, NewRow.refl _ _⟩
    simp only [List.length_nil, Nat.add_zero]
    rcases hrow.2 with ⟨h1, h2⟩ | ⟨g, cap', cur, hv, _, _, hnc, _⟩
    · rw [h1]
      simp [Builtin.append_, run_underlying ht, sizeOf, typeInfo, hi, Builtin.lenOf, Builtin.firstCells]
    · rw [hv]
      simp [Builtin.append_, run_underlying ht, sizeOf, typeInfo, hi, Builtin.lenOf, Builtin.firstCells, hnc, storeCells]
  | some ad =>
    have hl : (ys.flatMap enc).length = ys.length * s := flat_len L ys
    obtain ⟨v', w', hr, hown', hgrow, _, hat⟩ := run_append_own_at (P := P) W B t ty E i zz s by_ ht hi hz hsize hby hzs L.pos (.slice ao xs.length cap) xs.length (xs.flatMap enc) hrow ad ys.length bcap (ys.flatMap enc) hl (hsrc.2 ad rfl)
      (by intro u hu; obtain ⟨x, _, hx⟩ := List.mem_flatMap.1 hu; exact L.one x u hx) (by unfold maxLen; omega) (by have := Nat.mul_le_mul hlen hbb; omega) hB
    obtain ⟨fo, fc, rfl⟩ := owned_shape hown'
    refine ⟨fo, fc, w', hr, ?_, ?_, ?_⟩
    · unfold RowOf
      rw [List.length_append, List.flatMap_append]
      exact hown'
    · refine (Only.grown hgrow).mono ?_
      intro k _ hk
      cases ao with
      | none => simp [Value.ownBlock] at hk
      | some g0 => exact ⟨g0, rfl, by simpa [Value.ownBlock] using hk⟩
    · intro g0 hg
      subst hg
      rcases hat with hat | hat
      · cases ao with
        | none => simp [Value.ownBlock] at hat
        | some g1 =>
          have hg' := hrow.head g1 rfl
          have hn : RowOf enc s E B (some g0) fc (xs ++ ys) w' := by unfold RowOf; rw [List.length_append, List.flatMap_append]; exact hown'
          have hg2 := hn.head g0 rfl
          simp only [Value.ownBlock, Option.some.injEq] at hat
          left
          rw [hg'.1, hg2.1, hat]
      · right
        simp only [Value.ownBlock, Option.some.injEq] at hat
        omega
theorem wp_append_many {P : Program} {ops : Array Oper} {rest : List Oper} {o : Oper} {a : Act} {Q : Exit → Act → World → Prop} (L : Go.Proofs.Ytoogmlgaeipenaa.own.Lies enc s) (hgd : o.guard = none) (sl x : Operand) (t : TypeId)
    (ho : o.op = .call { callee := .builtin .append, args := #[sl, x], argTypes := #[t, t] }) (B E : Nat) (i : TypeInfo) (zz : Value) (by_ : Nat) (ht : P.underlying t = some (.slice E)) (hi : P.info? E = some i) (hz : i.zero = some zz) (hsize : i.size = s) (hby : i.bytes = by_) (hzs : zz.cells.size = s) (hbb : by_ ≤ 1024)
    (W : World) (ao : Option Addr) (cap : Nat) (xs : List α) (hs : a.eval sl = .slice ao xs.length cap) (hrow : RowOf enc s E B ao cap xs W) (bo : Option Addr) (bcap : Nat) (ys : List α) (hx : a.eval x = .slice bo ys.length bcap) (hsrc : SrcOf enc W bo ys) (hlen : xs.length + ys.length ≤ 16777216) (hB : B ≤ W.heap.size)
    (h : ∀ ao' cap' w', RowOf enc s E B ao' cap' (xs ++ ys) w' → Only (RowAt ao) W w' → NewRow W.heap.size ao ao' → wpList P ops Q rest (a.put o.dst (.slice ao' (xs.length + ys.length) cap')) w') :
    wpList P ops Q (o :: rest) a W := by
  refine wpList_plain hgd fun K hK => ?_
  obtain ⟨ao', cap', w', hr, h1, h2, h3⟩ := run_append_many (P := P) L t o.type B E i zz by_ ht hi hz hsize hby hzs hbb W ao cap xs hrow bo bcap ys hsrc hlen hB
  unfold Oper.wp execOp
  simp only [ho, resolve, invoke, builtin, Sem.run_bind, Sem.run_pure, Result.andThen_ok, List.map_toArray, List.map_cons, List.map_nil, hs, hx, hr]
  exact hK _ _ (h ao' cap' w' h1 h2 h3)
theorem step_append_many {P : Program} {ops : Array Oper} {o : Oper} {a : Act} {K : Act → World → Prop} {Q : Exit → Act → World → Prop} {F : Prop} (L : Go.Proofs.Ytoogmlgaeipenaa.own.Lies enc s) (hgd : o.guard = none) (sl x : Operand) (t : TypeId)
    (ho : o.op = .call { callee := .builtin .append, args := #[sl, x], argTypes := #[t, t] }) (B E : Nat) (i : TypeInfo) (zz : Value) (by_ : Nat) (ht : P.underlying t = some (.slice E)) (hi : P.info? E = some i) (hz : i.zero = some zz) (hsize : i.size = s) (hby : i.bytes = by_) (hzs : zz.cells.size = s) (hbb : by_ ≤ 1024)
    (W : World) (ao : Option Addr) (cap : Nat) (xs : List α) (hs : a.eval sl = .slice ao xs.length cap) (hrow : RowOf enc s E B ao cap xs W) (bo : Option Addr) (bcap : Nat) (ys : List α) (hx : a.eval x = .slice bo ys.length bcap) (hsrc : SrcOf enc W bo ys) (hlen : xs.length + ys.length ≤ 16777216) (hB : B ≤ W.heap.size)
    (h : ∀ ao' cap' w', RowOf enc s E B ao' cap' (xs ++ ys) w' → Only (RowAt ao) W w' → NewRow W.heap.size ao ao' → K (a.put o.dst (.slice ao' (xs.length + ys.length) cap')) w') :
    if Region.wanted o (yielded ops a.tmps) = true then Oper.wp P o a W K Q else F := by
  have hw : Region.wanted o (yielded ops a.tmps) = true := by simp [Region.wanted, hgd]
  rw [if_pos hw]
  obtain ⟨ao', cap', w', hr, h1, h2, h3⟩ := run_append_many (P := P) L t o.type B E i zz by_ ht hi hz hsize hby hzs hbb W ao cap xs hrow bo bcap ys hsrc hlen hB
  unfold Oper.wp execOp
  simp only [ho, resolve, invoke, builtin, Sem.run_bind, Sem.run_pure, Result.andThen_ok, List.map_toArray, List.map_cons, List.map_nil, hs, hx, hr]
  exact h ao' cap' w' h1 h2 h3
end
/-- A list among lists. -/
structure Ly where
  its : List It
  ao : Option Addr
  cap : Nat
def catF (ys : List Ly) : List It := ys.flatMap (·.its)
theorem cat_step {ys : List Ly} {j : Nat} {y : Ly} (h : ys[j]? = some y) : catF (ys.take (j + 1)) = catF (ys.take j) ++ y.its := by
  rw [take_snoc h]; simp [catF]
theorem cat_le (ys : List Ly) (j : Nat) : (catF (ys.take j)).length ≤ (catF ys).length := by
  have h : catF ys = catF (ys.take j) ++ catF (ys.drop j) := by
    unfold catF
    rw [← List.flatMap_append, List.take_append_drop]
  rw [h, List.length_append]
  omega
set_option maxHeartbeats 4000000 in
theorem Concat_any (ys : List Ly) (w : World) (b : Nat) (hb : w.heap[b]? = some (.cells (ys.map (fun y => Value.slice y.ao y.its.length y.cap)).toArray 22 (0, 0))) (hs : ∀ y ∈ ys, Src w y.ao y.its) (hz : (catF ys).length ≤ 100000) (hn : ys.length ≤ 1000) :
    Calls Try.prog 91 #[.slice (some ⟨b, 0, none⟩) ys.length ys.length] w fun e w' => ∃ ao cap, e = .returned (.slice ao (catF ys).length cap) ∧ ItsP w.heap.size ao cap (catF ys) w' ∧ Only (fun _ => False) w w' := by
  have hcell : ∀ (w' : World), Only (fun _ => False) w w' → ∀ j y, ys[j]? = some y → w'.cell? ⟨b, j, none⟩ = some (.slice y.ao y.its.length y.cap) := fun w' ho j y hy => by
    rw [cell_of_blk (blk_later hb ho)]
    simp [hy]
  have HCELL := Lib.hid hcell
  have HSRC : Hid (∀ (w' : World), Only (fun _ => False) w w' → ∀ (j : Nat) (y : Ly), ys[j]? = some y → Src w' y.ao y.its) := Lib.hid (fun w' ho j y hy => (hs y (List.mem_of_getElem? hy)).later ho)
  have HZ := Lib.hid hz
  have HN := Lib.hid hn
  obtain ⟨i0, hi0, hz0, hz1, hz2⟩ := info_parts infoT
  clear hcell hb hs hz
  go_enter Try.func91, Try.ntmps91
  go_wp2_with fail
  go_loopw [3, 11] (fun a c wr => ∃ j : Nat, a = .int .i64 ((catF (ys.take j)).length : Nat) ∧ c = .int .i64 j ∧ j ≤ ys.length ∧ wr = w) (fun _ c _ => ys.length - (intOf c).toNat)
  case atStart => exact ⟨0, by simp [catF], rfl, by omega, rfl⟩
  case round =>
    obtain ⟨j, rfl, rfl, hj, rfl⟩ := hrel
    by_cases hlt : j < ys.length
    · obtain ⟨y, hy⟩ : ∃ y, ys[j]? = some y := ⟨_, List.getElem?_eq_getElem hlt⟩
      have c0 := HCELL.out wr (Only.refl _ _) j y hy
      have hstep : (catF (ys.take (j + 1))).length = (catF (ys.take j)).length + y.its.length := by rw [cat_step hy, List.length_append]
      have hle := cat_le ys (j + 1)
      have hsum : ((catF (ys.take j)).length : Int) + (y.its.length : Int) ≤ 100000 := by have := HZ.out; omega
      have hnn : ¬ ((catF (ys.take j)).length : Int) + (y.its.length : Int) < 0 := by omega
      have p0 : (0 : Int) ≤ (j : Int) := by omega
      have p1 : (j : Int) < (ys.length : Int) := by omega
      have HST := Lib.hid hstep
      clear hy hstep hle
      go_wp2_with fail
      go_roundw
      case rel => exact ⟨j + 1, by rw [HST.out]; go_num, by go_num, by omega, by first | rfl | trivial⟩
      case measure => simp [intOf]; omega
    · have p1 : ¬ (j : Int) < (ys.length : Int) := by omega
      obtain rfl : j = ys.length := by omega
      obtain ⟨w0, hw0⟩ : ∃ w0, w0 = wr := ⟨_, rfl⟩
      subst hw0
      have HGR : Hid (Calls Try.prog 123 #[.slice none 0 0, .int .i64 (catF ys).length] w0 fun e w' => ∃ ao cap, e = .returned (.slice ao 0 cap) ∧ ItsP w0.heap.size ao cap [] w' ∧ Only (fun _ => False) w0 w') := Lib.hid (by
        by_cases h0 : (catF ys).length = 0
        · rw [h0]
          refine (Grow_none w0).mono ?_
          rintro e w' ⟨rfl, rfl⟩
          exact ⟨none, 0, rfl, RowOf.nil _ _ _ _ _, Only.refl _ _⟩
        · refine (Grow_some (catF ys).length (by omega) HZ.out w0).mono ?_
          rintro e w' ⟨cap, rfl, _, h1, h2⟩
          exact ⟨_, cap, rfl, h1, h2⟩)
      rw [List.take_length]
      clear p1 hlt hj
      go_wp2_with fail
      refine HGR.out.mono ?_
      rintro e w1 ⟨ao, cap, rfl, hr1, ho1⟩
      have HR1 := Lib.hid hr1
      have HO1 := Lib.hid ho1
      clear hr1 ho1
      go_wp2_with fail
      go_loopw [6, 27] (fun a c wx => ∃ (j : Nat) (ao' : Option Addr) (cap' : Nat), a = .slice ao' (catF (ys.take j)).length cap' ∧ c = .int .i64 j ∧ j ≤ ys.length ∧ Hid (ItsP w0.heap.size ao' cap' (catF (ys.take j)) wx ∧ Only (fun _ => False) w0 wx)) (fun _ c _ => ys.length - (intOf c).toNat)
      case atStart => exact ⟨0, ao, cap, by simp [catF], rfl, by omega, Lib.hid ⟨by simpa [catF] using HR1.out, HO1.out⟩⟩
      case round =>
        obtain ⟨j, ao', cap', rfl, rfl, hj, hI⟩ := hrel
        by_cases hlt : j < ys.length
        · obtain ⟨y, hy⟩ : ∃ y, ys[j]? = some y := ⟨_, List.getElem?_eq_getElem hlt⟩
          have c0 := HCELL.out _ hI.out.2 j y hy
          have hsrc := HSRC.out _ hI.out.2 j y hy
          have HNX := Lib.hid (cat_step hy)
          have hle := cat_le ys (j + 1)
          rw [HNX.out, List.length_append] at hle
          have HLE : Hid ((catF (ys.take j)).length + y.its.length ≤ 16777216) := Lib.hid (by have := HZ.out; omega)
          have HSS := Lib.hid hsrc
          have p0 : (0 : Int) ≤ (j : Int) := by omega
          have p1 : (j : Int) < (ys.length : Int) := by omega
          clear hy hsrc hle
          generalize catF (ys.take j) = xs at *
          go_wp2_with (first
            | (at_builtin; refine wp_append_many liesIt rfl (.tmp 31) (.tmp 32) 22 rfl w0.heap.size 24 i0 _ 56 Try.underlying22 hi0 hz0 hz1 hz2 rfl (by omega) _ ao' cap' xs rfl hI.out.1 y.ao y.cap y.its rfl (Src.of HSS.out) HLE.out hI.out.2.size ?_; intro ao2 cap2 w2 hrow2 ho2 _
               have HR2 := Lib.hid (And.intro hrow2 (Only.cut hI.out.2 ho2 (by rintro k ⟨g, hg, e⟩; have := (hI.out.1.head g hg).2.1; omega)))
               clear hrow2 ho2)
            | fail)
          go_roundw
          case rel => exact ⟨j + 1, ao2, cap2, by rw [HNX.out, List.length_append], by go_num, by omega, Lib.hid (by rw [HNX.out]; exact HR2.out)⟩
          case measure => simp [intOf]; omega
        · have p1 : ¬ (j : Int) < (ys.length : Int) := by omega
          obtain rfl : j = ys.length := by omega
          rw [List.take_length] at *
          go_wp2_with fail
          go_ret
          exact ⟨ao', cap', rfl, hI.out.1, hI.out.2⟩
end Go.Proofs.Ytoogmlgaeipenaa.terms
