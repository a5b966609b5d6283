/- Selection by keys: an entry more in a row. -/
import Derived.Test.YthgjedcelcanbaaIdx2
import Derived.Laws.OwnMore
namespace Go.Proofs.Ythgjedcelcanbaa.idx
set_option maxRecDepth 100000
open Go.RowKit Go.Proofs.Ythgjedcelcanbaa.own Go.Lib
section
variable {α : Type} {enc : α → List Value} {s : Nat}
/-- What a list that is read holds in memory. -/
def SrcOf (enc : α → List Value) (w : World) (ao : Option Addr) (xs : List α) : Prop := (ao = none → xs = []) ∧ ∀ ad, ao = some ad → ∀ j u, (xs.flatMap enc)[j]? = some u → w.cell? (ad.add j) = some u
theorem RowOf.src {E B : Nat} {ao : Option Addr} {cap : Nat} {xs : List α} {w : World} (h : RowOf enc s E B ao cap xs w) : SrcOf enc w ao xs := by
  refine ⟨fun e => ?_, fun ad e => ?_⟩
  · rcases h.2 with ⟨h1, h2⟩ | ⟨g', cap', cur, hv, _⟩
    · simp only [Value.slice.injEq] at h1
      exact List.eq_nil_of_length_eq_zero h1.2.1
    · simp only [Value.slice.injEq] at hv
      rw [e] at hv
      cases hv.1
  · obtain ⟨h1, _, _⟩ := h.head ad e
    subst e
    intro j u hu
    rw [h1]
    rw [h1] at h
    exact World.ownsRow.cells h (g := ad.block) rfl j u hu
theorem SrcOf.only {S : Nat → Prop} {w w' : World} {ao : Option Addr} {xs : List α} (h : SrcOf enc w ao xs) (ho : Only S w w') (hb : ∀ ad, ao = some ad → ad.block < w.heap.size ∧ ¬ S ad.block) : SrcOf enc w' ao xs :=
  ⟨h.1, fun ad e j u hu => (ho.cell (p := ad.add j) (by unfold Addr.add; split; exact (hb ad e).1; exact (hb ad e).1) (by unfold Addr.add; split; exact (hb ad e).2; exact (hb ad e).2)).trans (h.2 ad e j u hu)⟩
/-- append of a list that lies anywhere to a row of one's own. -/
theorem run_append_many {P : Program} (L : Go.Proofs.Ythgjedcelcanbaa.own.Lies enc s) (t ty : TypeId) (B E : Nat) (i : TypeInfo) (zz : Value) (by_ : Nat) (ht : P.underlying t = some (.slice E)) (hi : P.info? E = some i) (hz : i.zero = some zz) (hsize : i.size = s) (hby : i.bytes = by_) (hzs : zz.cells.size = s) (hbb : by_ ≤ 1024)
    (W : World) (ao : Option Addr) (cap : Nat) (xs : List α) (hrow : RowOf enc s E B ao cap xs W) (bo : Option Addr) (bcap : Nat) (ys : List α) (hsrc : SrcOf enc W bo ys) (hlen : xs.length + ys.length ≤ 16777216) (hB : B ≤ W.heap.size) :
    ∃ ao' cap' w', (Builtin.append_ #[t, t] ty #[.slice ao xs.length cap, .slice bo ys.length bcap]).run P W = .ok (.slice ao' (xs.length + ys.length) cap') w' ∧ RowOf enc s E B ao' cap' (xs ++ ys) w' ∧ Only (RowAt ao) W w' ∧ NewRow W.heap.size ao ao' := by
  cases bo with
  | none =>
    have hy := hsrc.1 rfl
    subst hy
    refine ⟨ao, cap, W, ?_, by rw [List.append_nil]; exact hrow, Only.refl _ _, NewRow.refl _ _⟩
    simp only [List.length_nil, Nat.add_zero]
    rcases hrow.2 with ⟨h1, h2⟩ | ⟨g, cap', cur, hv, _, _, hnc, _⟩
    · rw [h1]
      simp [Builtin.append_, run_underlying ht, sizeOf, typeInfo, hi, Builtin.lenOf, Builtin.firstCells]
    · rw [hv]
      simp [Builtin.append_, run_underlying ht, sizeOf, typeInfo, hi, Builtin.lenOf, Builtin.firstCells, hnc, storeCells]
  | some ad =>
    have hl : (ys.flatMap enc).length = ys.length * s := flat_len L ys
    obtain ⟨v', w', hr, hown', hgrow, _, hat⟩ := run_append_own_at (P := P) W B t ty E i zz s by_ ht hi hz hsize hby hzs L.pos (.slice ao xs.length cap) xs.length (xs.flatMap enc) hrow ad ys.length bcap (ys.flatMap enc) hl (hsrc.2 ad rfl)
      (by intro u hu; obtain ⟨x, _, hx⟩ := List.mem_flatMap.1 hu; exact L.one x u hx) (by unfold maxLen; omega) (by have := Nat.mul_le_mul hlen hbb; omega) hB
    obtain ⟨fo, fc, rfl⟩ := owned_shape hown'
    refine ⟨fo, fc, w', hr, ?_, ?_, ?_⟩
    · unfold RowOf
      rw [List.length_append, List.flatMap_append]
      exact hown'
    · refine (Only.grown hgrow).mono ?_
      intro k _ hk
      cases ao with
      | none => simp [Value.ownBlock] at hk
      | some g0 => exact ⟨g0, rfl, by simpa [Value.ownBlock] using hk⟩
    · intro g0 hg
      subst hg
      rcases hat with hat | hat
      · cases ao with
        | none => simp [Value.ownBlock] at hat
        | some g1 =>
          have hg' := hrow.head g1 rfl
          have hn : RowOf enc s E B (some g0) fc (xs ++ ys) w' := by unfold RowOf; rw [List.length_append, List.flatMap_append]; exact hown'
          have hg2 := hn.head g0 rfl
          simp only [Value.ownBlock, Option.some.injEq] at hat
          left
          rw [hg'.1, hg2.1, hat]
      · right
        simp only [Value.ownBlock, Option.some.injEq] at hat
        omega
end
theorem wp_append_two {α : Type} {enc : α → List Value} {s : Nat} {P : Program} {ops : Array Oper} {rest : List Oper} {o : Oper} {a : Act} {Q : Exit → Act → World → Prop} (L : Go.Proofs.Ythgjedcelcanbaa.own.Lies enc s) (hgd : o.guard = none) (sl x : Operand) (t t' : TypeId)
    (ho : o.op = .call { callee := .builtin .append, args := #[sl, x], argTypes := #[t, t'] }) (B E E' : Nat) (i : TypeInfo) (zz : Value) (by_ : Nat) (ht : P.underlying t = some (.slice E)) (ht' : P.underlying t' = some (.slice E')) (hi : P.info? E = some i) (hz : i.zero = some zz) (hsize : i.size = s) (hby : i.bytes = by_) (hzs : zz.cells.size = s) (hbb : by_ ≤ 1024)
    (W : World) (ao : Option Addr) (cap : Nat) (xs : List α) (hs : a.eval sl = .slice ao xs.length cap) (hrow : RowOf enc s E B ao cap xs W) (bo : Option Addr) (bcap : Nat) (ys : List α) (hx : a.eval x = .slice bo ys.length bcap) (hsrc : SrcOf enc W bo ys) (hlen : xs.length + ys.length ≤ 16777216) (hB : B ≤ W.heap.size)
    (h : ∀ ao' cap' w', RowOf enc s E B ao' cap' (xs ++ ys) w' → Only (RowAt ao) W w' → NewRow W.heap.size ao ao' → wpList P ops Q rest (a.put o.dst (.slice ao' (xs.length + ys.length) cap')) w') :
    wpList P ops Q (o :: rest) a W := by
  refine wpList_plain hgd fun K hK => ?_
  obtain ⟨ao', cap', w', hr, h1, h2, h3⟩ := run_append_many (P := P) L t o.type B E i zz by_ ht hi hz hsize hby hzs hbb W ao cap xs hrow bo bcap ys hsrc hlen hB
  rw [← append_types W t t' o.type E E' ht ht' ao xs.length cap _] at hr
  unfold Oper.wp execOp
  simp only [ho, resolve, invoke, builtin, Sem.run_bind, Sem.run_pure, Result.andThen_ok, List.map_toArray, List.map_cons, List.map_nil, hs, hx, hr]
  exact hK _ _ (h ao' cap' w' h1 h2 h3)
/-- An entry alone, in a block. -/
def Five (b : Nat) (e : En) (w : World) : Prop := w.heap[b]? = some (.cells #[.int .i64 e.id, .int .i64 e.key.k, .string e.key.s, .int .i64 e.key.n, .int .i64 e.pl] 60 (0, 0))
theorem Five.new (w : World) (e : En) : Five w.heap.size e (w.alloc (.cells #[.int .i64 e.id, .int .i64 e.key.k, .string e.key.s, .int .i64 e.key.n, .int .i64 e.pl] 60)) := heap_alloc_new w _
theorem Five.cells {b : Nat} {e : En} {w : World} (h : Five b e w) : w.cell? ⟨b, 0, none⟩ = some (.int .i64 e.id) ∧ w.cell? ⟨b, 1, none⟩ = some (.int .i64 e.key.k) ∧ w.cell? ⟨b, 2, none⟩ = some (.string e.key.s) ∧ w.cell? ⟨b, 3, none⟩ = some (.int .i64 e.key.n) ∧ w.cell? ⟨b, 4, none⟩ = some (.int .i64 e.pl) := by
  refine ⟨?_, ?_, ?_, ?_, ?_⟩ <;> (rw [cell_of_blk h]; rfl)
theorem Five.free {b : Nat} {e : En} {w : World} (h : Five b e w) : w.frozen? ⟨b, 0, none⟩ = false ∧ w.frozen? ⟨b, 1, none⟩ = false ∧ w.frozen? ⟨b, 2, none⟩ = false ∧ w.frozen? ⟨b, 3, none⟩ = false ∧ w.frozen? ⟨b, 4, none⟩ = false := ⟨free_of_blk h 0, free_of_blk h 1, free_of_blk h 2, free_of_blk h 3, free_of_blk h 4⟩
theorem Five.only {b : Nat} {e : En} {w w' : World} {S : Nat → Prop} (h : Five b e w) (ho : Only S w w') (hS : ¬ S b) : Five b e w' := by
  unfold Five at *
  rw [ho.block b (lt_of_block h) hS]
  exact h
theorem Five.src {b : Nat} {e : En} {w : World} (h : Five b e w) : SrcOf encE w (some ⟨b, 0, none⟩) [e] := by
  refine ⟨(fun x => nomatch x), fun ad hx j u hu => ?_⟩
  obtain rfl : _ = ad := Option.some.inj hx
  have he : (⟨b, 0, none⟩ : Addr).add j = ⟨b, j, none⟩ := by unfold Addr.add; split <;> simp_all
  rw [he, cell_of_blk h]
  simpa [encE] using hu
set_option maxHeartbeats 4000000 in
theorem insert_end (ao : Option Addr) (cap : Nat) (xs : List En) (e : En) (vb : Nat) (w : World) (h : RowE ao cap xs w) (hv : Five vb e w) (hl : xs.length ≤ 1000000) :
    Calls Try.prog 36 #[.slice ao xs.length cap, .int .i64 xs.length, .slice (some ⟨vb, 0, none⟩) 1 1] w fun r w' => ∃ ao' cap', r = .returned (.slice ao' (xs.length + 1) cap') ∧ RowE ao' cap' (xs ++ [e]) w' ∧ Only (RowAt ao) w w' ∧ NewRow w.heap.size ao ao' := by
  have hcap := h.cap_ge
  obtain ⟨i0, hi0, hz0, hz1, hz2⟩ := info_parts infoE
  have hsl : ∀ (n : Nat) (a : Option Addr) (c : Nat), n ≤ c → True := fun _ _ _ _ => trivial
  have hc1 : (xs.length : Int) ≤ (cap : Int) := by omega
  have HR := Lib.hid h
  have HV := Lib.hid hv
  have HL := Lib.hid hl
  have hcm : cap ≤ 9223372036854775807 := by have := hcap.2; unfold maxLen at this; omega
  clear h hv hsl
  obtain ⟨n, hn⟩ : ∃ n, n = xs.length := ⟨_, rfl⟩
  rw [← hn] at hcap hc1 ⊢
  have hl' : n ≤ 1000000 := by rw [hn]; exact HL.out
  have HN := Lib.hid hn
  clear hn
  go_enter Try.func36, Try.ntmps36
  go_wp2_with (first
    | (at_builtin; refine wp_append_two liesE rfl (.tmp 23) (.tmp 24) 51 50 rfl 0 60 60 i0 _ 48 Try.underlying51 Try.underlying50 hi0 hz0 hz1 hz2 rfl (by omega) w ao cap xs (by rw [← HN.out]; rfl) HR.out (some ⟨vb, 0, none⟩) 1 [e] rfl HV.out.src (by simp; omega) (Nat.zero_le _) ?_
       intro ao2 cap2 w2 hrow2 ho2 hnew2
       rw [← HN.out, show n + [e].length = n + 1 by simp]
       have HR2 := Lib.hid hrow2
       have HO2 := Lib.hid ho2
       have HN2 := Lib.hid hnew2
       clear hrow2 ho2 hnew2)
    | fail)
  all_goals
    go_ret
    exact ⟨ao2, cap2, rfl, HR2.out, HO2.out, HN2.out⟩
end Go.Proofs.Ythgjedcelcanbaa.idx
