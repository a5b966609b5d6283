/- Clauses by generations: the predicates told (the sort's contract is a hypothesis). -/
import Derived.Test.YthfilpacmllhpabBas12
import Derived.Deep.RegionHeld3
import Derived.Deep.AppendLies
import Derived.Deep.RegionLaw
namespace Go.Proofs.Ythfilpacmllhpab.bases
set_option maxRecDepth 100000
open Go.RowKit Go.Proofs.Ythfilpacmllhpab.own Go.Lib Go.Maps Go.WideMaps Go.Proofs.Ythfilpacmllhpab.idx Go.Proofs.Ythfilpacmllhpab.terms
section
variable {α : Type} {enc : α → List Value} {s : Nat}
theorem step_append_one {P : Program} {ops : Array Oper} {o : Oper} {a : Act} {K : Act → World → Prop} {Q : Exit → Act → World → Prop} {F : Prop} (L : Lies enc s) (hgd : o.guard = none) (sl x : Operand) (t : TypeId)
    (ho : o.op = .call { callee := .builtin .append, args := #[sl, x], argTypes := #[t, t] })
    (B E : Nat) (i : TypeInfo) (zz : Value) (by_ : Nat) (ht : P.underlying t = some (.slice E)) (hi : P.info? E = some i) (hz : i.zero = some zz) (hsize : i.size = s) (hby : i.bytes = by_) (hzs : zz.cells.size = s) (hbb : by_ ≤ 1024)
    (W : World) (ao : Option Addr) (cap : Nat) (xs : List α) (z : α) (cs : List Value) (hcs : enc z = cs) (hs : a.eval sl = .slice ao xs.length cap) (hrow : RowOf enc s E B ao cap xs W) (g : Nat) (ty : TypeId) (hnew : W.heap[g]? = some (.cells cs.toArray ty (0, 0)))
    (hx : a.eval x = .slice (some ⟨g, 0, none⟩) 1 1) (hlen : xs.length ≤ 16777216) (hB : B ≤ W.heap.size)
    (h : ∀ ao' cap' w', RowOf enc s E B ao' cap' (xs ++ [z]) w' → Only (RowAt ao) W w' → NewRow W.heap.size ao ao' → K (a.put o.dst (.slice ao' (xs.length + 1) cap')) w') :
    if Region.wanted o (yielded ops a.tmps) = true then Oper.wp P o a W K Q else F := by
  have hlc : cs.length = 1 * s := by rw [← hcs, L.len]; omega
  refine step_append_lies W hgd sl x t ho B E i zz s by_ ht hi hz hsize hby hzs L.pos (.slice ao xs.length cap) xs.length (xs.flatMap enc) hs hrow ⟨g, 0, none⟩ 1 1 cs hx hlc (fun j u hu => World.news_of_block (cs := cs.toArray) hnew j u (by simpa using hu))
    (by intro u hu; rw [← hcs] at hu; exact L.one z u hu) (by omega) (by unfold maxLen; omega) (by have := Nat.mul_le_mul (show xs.length + 1 ≤ 16777217 by omega) hbb; omega) hB W.heap.size rfl ?_
  intro g' cap' w' hown' hgrow hat _
  have hl : (xs ++ [z]).length = xs.length + 1 := by simp
  have hown2 : RowOf enc s E B (some ⟨g', 0, none⟩) cap' (xs ++ [z]) w' := by
    unfold RowOf
    rw [hl, List.flatMap_append, List.flatMap_cons, List.flatMap_nil, List.append_nil, hcs]
    exact hown'
  refine h _ cap' w' hown2 ?_ ?_
  · refine (Only.grown hgrow).mono ?_
    intro k _ hk
    cases ao with
    | none => simp [Value.ownBlock] at hk
    | some g0 => exact ⟨g0, rfl, by simpa [Value.ownBlock] using hk⟩
  · intro g0 hg
    cases hg
    rcases hat with hat | hat
    · cases ao with
      | none => simp [Value.ownBlock] at hat
      | some g1 =>
        have hg' := hrow.head g1 rfl
        simp only [Value.ownBlock, Option.some.injEq] at hat
        left
        rw [hg'.1, hat]
    · right
      show W.heap.size ≤ g'
      omega
end
abbrev RowPd (N : Nat) (ao : Option Addr) (cap : Nat) (xs : List Pd) (w : World) : Prop := RowOf encPd 3 50 N ao cap xs w
theorem infoPd : (Try.prog.info? 50).map (fun i => (i.zero, i.size, i.bytes)) = some (some (.agg #[.string ⟨#[]⟩, .int .i64 0, .int .i64 0]), 3, 32) := by kernel_rfl
section
variable {b pm N : Nat} {sl : List Sl} {ps A C : List Pc} {p p' : Pc} {lim gen low us : Int} {so : Option Addr} {sc np : Nat} {Dp : D3} {w w' W W' : World}
/-- Preds under way. -/
structure PrI (b pm N : Nat) (sl : List Sl) (ps : List Pc) (lim gen low : Int) (so : Option Addr) (sc np : Nat) (Dp : D3) (w : World) (left : Lit → Bool) (ao : Option Addr) (cap : Nat) (ys : List Pd) (wr : World) : Prop where
  r : RowPd (w.heap.size + 1) ao cap ys wr
  o : Only (fun _ => False) w wr
  p : ys.Perm (metPs ps left)
  l : ∀ z, left z = true → Maps.has Dp z = true
set_option maxHeartbeats 8000000 in
theorem preds_any (h : BI b pm N sl ps lim gen low so sc np Dp w) (hps : ps.length ≤ 100000)
    (HS : Hid (∀ (ao : Option Addr) (cap : Nat) (ys : List Pd) (W : World), ys.Perm (ps.map pdF) → RowPd (w.heap.size + 1) ao cap ys W → Only (fun _ => False) w W → Calls Try.prog 42 #[.slice ao ys.length cap, .func (.func 43) #[] #[]] W fun e w' => e = .returned (.tuple #[]) ∧ ∃ zs, ys.Perm zs ∧ RowPd (w.heap.size + 1) ao cap zs w' ∧ Only (RowAt ao) W w')) :
    Calls Try.prog 12 #[.pointer (some ⟨b, 0, none⟩)] w fun e w' => ∃ ao cap zs, e = .returned (.slice ao zs.length cap) ∧ (ps.map pdF).Perm zs ∧ RowPd (w.heap.size + 1) ao cap zs w' ∧ Only (fun _ => False) w w' := by
  have HC := Lib.hid (closed_no h)
  have HB := Lib.hid h
  obtain ⟨c0, c1, c2, c3, c4, c5⟩ := h.cells
  have hD := h.pmap
  have HBL : Hid (∀ k, k < w.heap.size → k ≠ w.heap.size) := Lib.hid (fun k hk => by omega)
  have HPM : Hid (pm < w.heap.size) := Lib.hid (by obtain ⟨es, cl, hb, _⟩ := h.pmap; exact lt_of_block hb)
  have HNL : Hid ((metPs ps (Maps.has Dp)) = []) := Lib.hid (metPs_none h.nmap)
  obtain ⟨i0, hi0, hz0, hz1, hz2⟩ := info_parts infoPd
  clear h
  go_enter Try.func12, Try.ntmps12
  go_wp2_with fail
  refine HC.out.mono ?_
  rintro e w1 ⟨rfl, rfl⟩
  go_wp2_with (first
    | (at_range; refine wpList_range_own _ rfl _ 77 rfl 82 85 keyedN Try.underlying77 _ pm np Dp rfl hD ?_; intro wi hrg hgi hsi)
    | fail)
  have hA0 : Hid (PrI b pm N sl ps lim gen low so sc np Dp w1 (Maps.has Dp) none 0 [] wi) := Lib.hid ⟨⟨rfl, .inl ⟨rfl, rfl⟩⟩, (Only.grown hgi).mono (fun _ _ e => by cases e), by rw [HNL.out], fun z hz => hz⟩
  have HRG := Lib.hid hrg
  have HSI : Hid (wi.heap.size = w1.heap.size + 1) := Lib.hid (by first | exact hsi | (rw [hsi]))
  clear hrg hgi hsi c0 c1 c2 c3 c4 c5 hD
  generalize hr : w1.heap.size = r at *
  have HR := Lib.hid hr
  clear hr
  go_frame
  go_loopw [3] (fun xs wr => ∃ (left : Lit → Bool) (cnt : Nat) (ao : Option Addr) (cap : Nat) (ys : List Pd), xs = .slice ao ys.length cap ∧ Hid (wr.ranges Try.prog 82 pbR pm r np Dp left cnt) ∧ Hid (PrI b pm N sl ps lim gen low so sc np Dp w1 left ao cap ys wr)) (fun _ wr => wr.rangeLeft pm r)
  case atStart => exact ⟨_, _, none, 0, [], rfl, HRG, hA0⟩
  case round =>
    obtain ⟨left, cnt, ao, cap, ys, rfl, hrg, hI⟩ := hrel
    clear hA0 HRG
    go_wp2_with (first
      | (at_next; refine wpList_next_ranges _ rfl _ rfl 82 keyedN pbR (fun k : Nm => Value.agg #[.string k.s, .int .i64 k.a]) pbV (fun key kl hk => by obtain ⟨k, rfl, _⟩ := invN hk; exact ⟨k, rfl⟩) (fun v y hv => pbR_val hv) pm r np Dp left cnt rfl hrg.out ?_ ?_)
      | fail)
    · intro _ hl0
      have HP : Hid (ys.Perm (ps.map pdF)) := Lib.hid (by have := hI.out.p; rwa [metPs_all hl0] at this)
      have HSS := Lib.hid (HS.out ao cap ys wr HP.out (by rw [← HR.out]; exact hI.out.r) hI.out.o)
      go_wp2_with fail
      refine HSS.out.mono ?_
      rintro e w2 ⟨rfl, zs, hz, hrow, ho⟩
      have hlen : ys.length = zs.length := hz.length_eq
      go_wp2_with fail
      go_ret
      refine ⟨ao, cap, zs, rfl, HP.out.symm.trans hz, by rw [HR.out]; exact hrow, Only.trans hI.out.o ho (fun k hk e => ?_)⟩
      obtain ⟨g, hg, e'⟩ := e
      have := (hI.out.r.head g hg).2.1
      omega
    · intro k c kl y0 y1 w2 cnt1 hkey hlk hv hat hrg1 hlt hg1 hs1 hen
      obtain ⟨q, hq, rfl⟩ := HB.out.nmap.entry (hI.out.l _ hlk)
      obtain ⟨p, hp, rfl⟩ := List.mem_map.1 hq
      obtain ⟨k2, e1, e2, hk2⟩ := invN hkey
      simp only [Value.agg.injEq, Array.mk.injEq, List.cons.injEq, Value.int.injEq, Value.string.injEq, and_true, true_and] at e1
      have hpk : p.nm.Ok := HB.out.nok.ok _ hq
      have hk : k = p.nm := (Nm.eq e1.1 e1.2).trans (keyM_inj hk2 hpk e2.symm)
      have hc : c = some p.pb := pbR_box hv (by rw [← hat (.held 0)]; exact (HB.out.nmap.at_yes HB.out.nok hq (.held 0)).symm)
      subst hk
      subst hc
      simp only [pbV, Option.map_some] at hen ⊢
      have hgo := (Only.grown hg1).mono (S' := (· = r)) (fun _ _ e => by simpa using e)
      have HI2 : Hid (RowPd (r + 1) ao cap ys w2 ∧ Only (fun _ => False) w1 w2 ∧ ys.Perm (metPs ps left)) := Lib.hid ⟨by
        have := hI.out.r
        rw [HR.out] at this
        exact this.only hgo (fun g hg e => by have h1 := (this.head g hg).2.1; have e' : g.block = r := e; omega), idx.Only.cut hI.out.o hgo (fun k e => by have e' : k = r := e; have := HR.out; omega), hI.out.p⟩
      have HL2 : Hid (∀ z, (left z && !z.sameKey (keyM p.nm)) = true → Maps.has Dp z = true) := Lib.hid (fun z hz => by
        simp only [Bool.and_eq_true] at hz
        exact hI.out.l z hz.1)
      have HMS := Lib.hid (metPs_step HB.out.nok hp hlk)
      have HRG1 := Lib.hid hrg1
      have HLT := Lib.hid hlt
      have HPX : Hid (∀ W, Only (fun _ => False) w1 W → W.heap[p.pb]? = some (.cells #[.pointer (some ⟨p.tb, 0, none⟩), .int .i64 p.lv] 88 (0, 0))) := Lib.hid (fun W o => ((HB.out.later o).pds p hp).box)
      have HYL : Hid (ys.length ≤ 100000) := Lib.hid (by
        have h1 := HI2.out.2.2.length_eq
        have h2 : (metPs ps left).length ≤ ps.length := by unfold metPs; rw [List.length_map]; exact List.length_filter_le _ _
        omega)
      have HR2 : Hid (r < w2.heap.size) := Lib.hid hrg1.lt
      clear hq hp e1 e2 hk2 hpk hv hat hkey hlk hgo hg1 hs1 hrg1 hlt hI
      obtain ⟨W3, hW3⟩ : ∃ W3, W3 = w2.alloc (.cells #[.string p.nm.s, .int .i64 p.nm.a] 82) := ⟨_, rfl⟩
      have o3 : Only (fun _ => False) w2 W3 := by rw [hW3]; exact Only.alloc _ _ _
      have HN3 : Hid (NmAt w2.heap.size p.nm W3) := Lib.hid (by unfold NmAt; rw [hW3]; exact heap_alloc_new _ _)
      have HO3 : Hid (Only (fun _ => False) w1 W3) := Lib.hid (HI2.out.2.1.same o3)
      have HR2b : Hid (RowPd (r + 1) ao cap ys W3) := Lib.hid (HI2.out.1.only o3 (fun _ _ e => e))
      have HRG3 := Lib.hid (ranges_only HRG1.out o3 (fun e => e) (fun e => e))
      have HZ3 : Hid (r < W3.heap.size) := Lib.hid (by have h1 := o3.size; have := HR2.out; omega)
      have q0 := cell_of_blk (HPX.out W3 (HI2.out.2.1.same o3)) 1
      simp only [List.getElem?_toArray, List.getElem?_cons_zero, List.getElem?_cons_succ] at q0
      obtain ⟨n0, n1⟩ := HN3.out.cells
      clear o3
      go_wp2_with fail
      rw [← hW3]
      clear hW3
      generalize w2.heap.size = bq at *
      have HRW : Hid (∀ W, Only (fun _ => False) W3 W → RowPd (r + 1) ao cap ys W) := Lib.hid (fun W o => HR2b.out.only o (fun _ _ e => e))
      have HBS : Hid (∀ W, Only (fun _ => False) W3 W → r + 1 ≤ W.heap.size) := Lib.hid (fun W o => by have := HZ3.out; have h1 := o.size; omega)
      have hyl := HYL.out
      go_region_law
        ((refine step_append_one liesPd (by rfl) (.tmp 18) (.tmp 28) 44 (by rfl) (r + 1) 50 i0 _ 32 Try.underlying44 hi0 hz0 hz1 hz2 rfl (by omega) _ ao cap ys (pdF p) [.string p.nm.s, .int .i64 p.nm.a, .int .i64 p.lv] rfl (by rfl) (HRW.out _ (by first | exact Only.alloc _ _ _ | exact (Only.drew _ _).same (Only.alloc _ _ _) | exact (Only.alloc _ _ _).same (Only.drew _ _))) _ _ (by first | exact heap_alloc_new _ _ | exact heap_alloc_new W3 _) (by rfl) (by omega) (HBS.out _ (by first | exact Only.alloc _ _ _ | exact (Only.drew _ _).same (Only.alloc _ _ _) | exact (Only.alloc _ _ _).same (Only.drew _ _))) ?_
          intro ao2 cap2 w6 hrow6 ho6 hnew6
          have HR6 := Lib.hid hrow6
          have HO6 : Hid (Only (RowAt ao) W3 w6) := Lib.hid (Only.trans (S := RowAt ao) (by first | exact Only.alloc _ _ _ | exact (Only.drew _ _).same (Only.alloc _ _ _) | exact (Only.alloc _ _ _).same (Only.drew _ _)) ho6 (fun _ _ e => e))
          clear hrow6 ho6 hnew6))
      all_goals
        have HAO : Hid (∀ k, RowAt ao k → r + 1 ≤ k) := Lib.hid (fun k hk => by
          obtain ⟨g, hg, e⟩ := hk
          have := (HR2b.out.head g hg).2.1
          omega)
        have HRG6 := Lib.hid (ranges_only HRG3.out HO6.out (fun e => by have := HAO.out _ e; have := HPM.out; omega) (fun e => by have := HAO.out _ e; omega))
        have HPR : Hid (PrI b pm N sl ps lim gen low so sc np Dp w1 (fun z => left z && !z.sameKey (keyM p.nm)) ao2 cap2 (ys ++ [pdF p]) w6) := Lib.hid ⟨by rw [HR.out]; exact HR6.out, idx.Only.cut HO3.out HO6.out (fun k e => by have := HAO.out k e; have := HR.out; omega), (HI2.out.2.2.append_right [pdF p]).trans HMS.out.symm, HL2.out⟩
        go_wp2_with fail
        go_roundw
        case rel => first | exact ⟨_, _, _, _, _, _, _, _, _, _, _, _, _, _, _, _, _, _, _, ⟨_, cnt1, ao2, cap2, ys ++ [pdF p], by simp, HRG6, HPR⟩, rfl⟩ | exact ⟨_, _, _, _, _, _, _, _, _, _, _, _, _, _, _, _, _, _, ⟨_, cnt1, ao2, cap2, ys ++ [pdF p], by simp, HRG6, HPR⟩, rfl⟩ | exact ⟨_, _, _, _, _, _, _, _, _, _, _, _, _, _, _, _, _, ⟨_, cnt1, ao2, cap2, ys ++ [pdF p], by simp, HRG6, HPR⟩, rfl⟩ | exact ⟨_, _, _, _, _, _, _, _, _, _, _, _, _, _, _, _, _, _, _, _, ⟨_, cnt1, ao2, cap2, ys ++ [pdF p], by simp, HRG6, HPR⟩, rfl⟩ | exact ⟨_, _, _, _, _, _, _, _, _, _, _, _, _, _, _, _, ⟨_, cnt1, ao2, cap2, ys ++ [pdF p], by simp, HRG6, HPR⟩, rfl⟩ | exact ⟨_, _, _, _, _, _, _, _, _, _, _, _, _, _, _, _, _, _, _, _, _, ⟨_, cnt1, ao2, cap2, ys ++ [pdF p], by simp, HRG6, HPR⟩, rfl⟩
        case measure =>
          rw [HRG6.out.left_eq, hrg.out.left_eq]
          exact HLT.out
end
end Go.Proofs.Ythfilpacmllhpab.bases
