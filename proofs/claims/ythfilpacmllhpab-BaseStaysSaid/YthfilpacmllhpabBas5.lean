/- Clauses by generations: a clause is put into a new slot. -/
import Derived.Test.YthfilpacmllhpabBas4
import Derived.StillTailTactics
import Derived.Deep.MidRow
namespace Go.Proofs.Ythfilpacmllhpab.bases
set_option maxRecDepth 100000
open Go.RowKit Go.Proofs.Ythfilpacmllhpab.own Go.Lib Go.Maps Go.WideMaps Go.Proofs.Ythfilpacmllhpab.idx
def zS : Sl := ⟨zN, 0, 0, ⟨#[]⟩, none, 0, 0, none, 0, 0, 0, none, 0, 0, 0, 0⟩
abbrev slV (s : Sl) : Value := .agg #[.string s.nm.s, .int .i64 s.nm.a, .int .i64 s.hk, .int .i64 s.hn, .string s.hs, .slice s.ha s.hl s.hc, .slice s.ga s.gl s.gc, .int .i64 s.vs, .slice s.ca s.cl s.cc, .int .i64 s.ad, .int .i64 s.ki]
abbrev slB (s : Sl) : Array Value := #[.string s.nm.s, .int .i64 s.nm.a, .int .i64 s.hk, .int .i64 s.hn, .string s.hs, .slice s.ha s.hl s.hc, .slice s.ga s.gl s.gc, .int .i64 s.vs, .slice s.ca s.cl s.cc, .int .i64 s.ad, .int .i64 s.ki]
theorem infoS : (Try.prog.info? 94).map (fun i => (i.zero, i.size, i.bytes)) = some (some (slV zS), 11, 152) := by kernel_rfl
abbrev slW (W : World) (g i : Nat) (s : Sl) : World := ((((((((((W.setCell ⟨g, i * 11, none⟩ (.string s.nm.s)).setCell ⟨g, i * 11 + 1, none⟩ (.int .i64 s.nm.a)).setCell ⟨g, i * 11 + 2, none⟩ (.int .i64 s.hk)).setCell ⟨g, i * 11 + 3, none⟩ (.int .i64 s.hn)).setCell ⟨g, i * 11 + 4, none⟩ (.string s.hs)).setCell ⟨g, i * 11 + 5, none⟩ (.slice s.ha s.hl s.hc)).setCell ⟨g, i * 11 + 6, none⟩ (.slice s.ga s.gl s.gc)).setCell ⟨g, i * 11 + 7, none⟩ (.int .i64 s.vs)).setCell ⟨g, i * 11 + 8, none⟩ (.slice s.ca s.cl s.cc)).setCell ⟨g, i * 11 + 9, none⟩ (.int .i64 s.ad)).setCell ⟨g, i * 11 + 10, none⟩ (.int .i64 s.ki)
/-- The first r cells are those of x. -/
def slP (y x : Sl) (r : Nat) : Sl := ⟨⟨(if 0 < r then x.nm.s else y.nm.s), (if 1 < r then x.nm.a else y.nm.a)⟩, (if 2 < r then x.hk else y.hk), (if 3 < r then x.hn else y.hn), (if 4 < r then x.hs else y.hs), (if 5 < r then x.ha else y.ha), (if 5 < r then x.hl else y.hl), (if 5 < r then x.hc else y.hc), (if 6 < r then x.ga else y.ga), (if 6 < r then x.gl else y.gl), (if 6 < r then x.gc else y.gc), (if 7 < r then x.vs else y.vs), (if 8 < r then x.ca else y.ca), (if 8 < r then x.cl else y.cl), (if 8 < r then x.cc else y.cc), (if 9 < r then x.ad else y.ad), (if 10 < r then x.ki else y.ki)⟩
theorem RowS.put {g cap : Nat} {xs : List Sl} {W : World} (h : RowS (some ⟨g, 0, none⟩) cap xs W) {i : Nat} {y : Sl} (hy : xs[i]? = some y) (x : Sl) : RowS (some ⟨g, 0, none⟩) cap (xs.set i x) (slW W g i x) ∧ Only (· = g) W (slW W g i x) := by
  have hi : i < xs.length := (List.getElem?_eq_some_iff.1 hy).1
  have hs : ∀ (l : List Sl) (z : Sl), l.length = xs.length → (l.set i z)[i]? = some z := fun l z hl => by simp [hl, hi]
  obtain ⟨r0, o0⟩ := h.stored liesS i 0 (slP y x 0) (slP y x 1) (.string x.nm.s) hy (by decide) rfl
  obtain ⟨r1, o1⟩ := r0.stored liesS i 1 (slP y x 1) (slP y x 2) (.int .i64 x.nm.a) (hs _ _ (by simp)) (by decide) rfl
  obtain ⟨r2, o2⟩ := r1.stored liesS i 2 (slP y x 2) (slP y x 3) (.int .i64 x.hk) (hs _ _ (by simp)) (by decide) rfl
  obtain ⟨r3, o3⟩ := r2.stored liesS i 3 (slP y x 3) (slP y x 4) (.int .i64 x.hn) (hs _ _ (by simp)) (by decide) rfl
  obtain ⟨r4, o4⟩ := r3.stored liesS i 4 (slP y x 4) (slP y x 5) (.string x.hs) (hs _ _ (by simp)) (by decide) rfl
  obtain ⟨r5, o5⟩ := r4.stored liesS i 5 (slP y x 5) (slP y x 6) (.slice x.ha x.hl x.hc) (hs _ _ (by simp)) (by decide) rfl
  obtain ⟨r6, o6⟩ := r5.stored liesS i 6 (slP y x 6) (slP y x 7) (.slice x.ga x.gl x.gc) (hs _ _ (by simp)) (by decide) rfl
  obtain ⟨r7, o7⟩ := r6.stored liesS i 7 (slP y x 7) (slP y x 8) (.int .i64 x.vs) (hs _ _ (by simp)) (by decide) rfl
  obtain ⟨r8, o8⟩ := r7.stored liesS i 8 (slP y x 8) (slP y x 9) (.slice x.ca x.cl x.cc) (hs _ _ (by simp)) (by decide) rfl
  obtain ⟨r9, o9⟩ := r8.stored liesS i 9 (slP y x 9) (slP y x 10) (.int .i64 x.ad) (hs _ _ (by simp)) (by decide) rfl
  obtain ⟨r10, o10⟩ := r9.stored liesS i 10 (slP y x 10) (slP y x 11) (.int .i64 x.ki) (hs _ _ (by simp)) (by decide) rfl
  simp only [List.set_set] at r10
  exact ⟨r10, (((((((((o0.same o1).same o2).same o3).same o4).same o5).same o6).same o7).same o8).same o9).same o10⟩
/-- The base's box. -/
def BoxB (b pm : Nat) (lim gen low us : Int) (so : Option Addr) (n sc : Nat) (W : World) : Prop := W.heap[b]? = some (.cells #[.int .i64 lim, .slice so n sc, .map (some pm), .int .i64 gen, .int .i64 low, .int .i64 us] 80 (0, 0))
section
variable {b pm : Nat} {lim gen low us : Int} {so : Option Addr} {n sc : Nat} {w W W' : World} {sl : List Sl}
theorem BoxB.cells (h : BoxB b pm lim gen low us so n sc W) : W.cell? ⟨b, 0, none⟩ = some (.int .i64 lim) ∧ W.cell? ⟨b, 1, none⟩ = some (.slice so n sc) ∧ W.cell? ⟨b, 2, none⟩ = some (.map (some pm)) ∧ W.cell? ⟨b, 3, none⟩ = some (.int .i64 gen) ∧ W.cell? ⟨b, 4, none⟩ = some (.int .i64 low) ∧ W.cell? ⟨b, 5, none⟩ = some (.int .i64 us) := by
  refine ⟨?_, ?_, ?_, ?_, ?_, ?_⟩ <;> (rw [cell_of_blk h]; rfl)
theorem BoxB.free (h : BoxB b pm lim gen low us so n sc W) (j : Nat) : W.frozen? ⟨b, j, none⟩ = false := free_of_blk h j
theorem BoxB.only {S : Nat → Prop} (h : BoxB b pm lim gen low us so n sc w) (o : Only S w W) (hS : ¬ S b) : BoxB b pm lim gen low us so n sc W := by
  unfold BoxB at *
  rw [o.block b (lt_of_block h) hS]
  exact h
theorem BoxB.slots (h : BoxB b pm lim gen low us so n sc W) (so' : Option Addr) (n' sc' : Nat) : BoxB b pm lim gen low us so' n' sc' (W.setCell ⟨b, 1, none⟩ (.slice so' n' sc')) ∧ Only (· = b) W (W.setCell ⟨b, 1, none⟩ (.slice so' n' sc')) := by
  refine ⟨?_, Only.setCell (S := (· = b)) (p := ⟨b, 1, none⟩) W rfl _⟩
  unfold BoxB at *
  rw [blk_set h 1]
  rfl
theorem BoxB.setUs (h : BoxB b pm lim gen low us so n sc W) (us' : Int) : BoxB b pm lim gen low us' so n sc (W.setCell ⟨b, 5, none⟩ (.int .i64 us')) ∧ Only (· = b) W (W.setCell ⟨b, 5, none⟩ (.int .i64 us')) := by
  refine ⟨?_, Only.setCell (S := (· = b)) (p := ⟨b, 5, none⟩) W rfl _⟩
  unfold BoxB at *
  rw [blk_set h 5]
  rfl
theorem BoxB.setGen (h : BoxB b pm lim gen low us so n sc W) (g' : Int) : BoxB b pm lim g' low us so n sc (W.setCell ⟨b, 3, none⟩ (.int .i64 g')) ∧ Only (· = b) W (W.setCell ⟨b, 3, none⟩ (.int .i64 g')) := by
  refine ⟨?_, Only.setCell (S := (· = b)) (p := ⟨b, 3, none⟩) W rfl _⟩
  unfold BoxB at *
  rw [blk_set h 3]
  rfl
/-- The blocks that a put may turn. -/
def PutS (b : Nat) (so : Option Addr) (k : Nat) : Prop := k = b ∨ RowAt so k
set_option maxHeartbeats 16000000 in
theorem put_new (h : BoxB b pm lim gen low sl.length so sl.length sc w) (hr : RowS so sc sl w) (s : Sl) (hn : sl.length ≤ 20000) :
    Calls Try.prog 36 #[.pointer (some ⟨b, 0, none⟩), .int .i64 sl.length, slV s] w fun e w' => e = .returned (.tuple #[]) ∧ (∃ so' sc', BoxB b pm lim gen low ((sl.length : Int) + 1) so' (sl.length + 1) sc' w' ∧ RowS so' sc' (sl ++ [s]) w' ∧ NewRow w.heap.size so so') ∧ Only (PutS b so) w w' := by
  obtain ⟨E, hE⟩ : ∃ E, E = w.alloc (.cells (slB s) 94) := ⟨_, rfl⟩
  have hx : E.heap[w.heap.size]? = some (.cells (slB s) 94 (0, 0)) := by rw [hE]; exact heap_alloc_new _ _
  have HO : Hid (Only (fun _ => False) w E) := Lib.hid (by rw [hE]; exact Only.alloc _ _ _)
  have HBX := Lib.hid (h.only HO.out (fun e => e))
  have HRW : Hid (RowS so sc sl E) := Lib.hid (hr.only HO.out (fun _ _ e => e))
  have HSO : Hid (∀ k, RowAt so k → k < w.heap.size) := Lib.hid (fun k ⟨g, hg, e⟩ => by rw [e]; exact (hr.head g hg).2.2)
  have HSZ : Hid (E.heap.size = w.heap.size + 1) := Lib.hid (by rw [hE]; simp)
  have HXX := Lib.hid hx
  obtain ⟨m, hm⟩ : ∃ m, m = sl.length := ⟨_, rfl⟩
  have HM := Lib.hid hm
  rw [← hm] at HBX hn ⊢
  obtain ⟨c0, c1, c2, c3, c4, c5⟩ := HBX.out.cells
  have f1 := HBX.out.free 1
  have heq : ((m : Int) == (m : Int)) = true := by simp
  obtain ⟨i0, hi0, hz0, hz1, hz2⟩ := info_parts infoS
  have hlb := lt_of_block h
  have HLB := Lib.hid hlb
  clear h hr hx hm hlb
  go_enter Try.func36, Try.ntmps36
  go_upto_region 1 with fail
  rw [← hE]
  clear hE
  generalize hbk : w.heap.size = bk at *
  go_wp2_with (first
    | (at_builtin; refine wp_append_one liesS (by rfl) (.tmp 17) (.tmp 19) 78 (by rfl) 0 94 i0 _ 152 Try.underlying78 hi0 hz0 hz1 hz2 rfl (by omega) E so sc sl zS (encS zS) rfl (by rw [← HM.out]; rfl) HRW.out (by rfl) (by have := HM.out; omega) (Nat.zero_le _) ?_
       intro so2 sc2 w2 hrow2 ho2 hnew2
       have HR2 := Lib.hid hrow2
       have HO2 := Lib.hid ho2
       have HN2 := Lib.hid hnew2
       have HB2 : Hid (BoxB b pm lim gen low m so m sc w2) := Lib.hid (HBX.out.only HO2.out (row_apart HRW.out HBX.out (by decide)))
       have HL2 : Hid ((sl ++ [zS]).length = m + 1) := Lib.hid (by rw [List.length_append, ← HM.out]; rfl)
       rw [HL2.out]
       have f2 := HB2.out.free 1
       obtain ⟨d0, d1, d2, d3, d4, d5⟩ := HB2.out.cells
       clear hrow2 ho2 hnew2)
    | fail)
  have HS3 := Lib.hid (HB2.out.slots so2 (m + 1) sc2)
  clear c0 c1 c2 c3 c4 c5 f1 f2 d0 d1 d2 d3 d4 d5
  have hg0 : ∃ g, so2 = some ⟨g, 0, none⟩ := by
    obtain ⟨g, hg, _⟩ := HR2.out.at liesS m zS (by rw [List.getElem?_append_right (by rw [HM.out]; exact Nat.le_refl _), HM.out]; simp)
    exact ⟨g, hg⟩
  obtain ⟨g, rfl⟩ := hg0
  have HGK : Hid (g < w2.heap.size ∧ bk ≠ g ∧ bk < E.heap.size ∧ E.heap.size ≤ w2.heap.size) := Lib.hid (by
    have h1 := (HR2.out.head _ rfl).2.2
    have h2 := HO2.out.size
    have h3 := HSZ.out
    refine ⟨h1, fun e => ?_, by omega, h2⟩
    rcases HN2.out _ rfl with h4 | h4
    · have := HSO.out g ⟨_, h4, rfl⟩
      omega
    · have h5 : E.heap.size ≤ g := h4
      omega)
  have HX2 : Hid (w2.heap[bk]? = some (.cells (slB s) 94 (0, 0))) := Lib.hid (by
    rw [HO2.out.block bk HGK.out.2.2.1 (fun e => by have := HSO.out bk e; omega)]
    exact HXX.out)
  obtain ⟨w3, hw3⟩ : ∃ w3, w3 = w2.setCell ⟨b, 1, none⟩ (.slice (some ⟨g, 0, none⟩) (m + 1) sc2) := ⟨_, rfl⟩
  have HB3 : Hid (BoxB b pm lim gen low m (some ⟨g, 0, none⟩) (m + 1) sc2 w3 ∧ Only (· = b) w2 w3) := Lib.hid (by rw [hw3]; exact HS3.out)
  rw [← hw3]
  clear hw3 HS3
  have HR3 : Hid (RowS (some ⟨g, 0, none⟩) sc2 (sl ++ [zS]) w3) := Lib.hid (HR2.out.only HB3.out.2 (fun g' hg' e => row_apart HR2.out HB2.out (by decide) ⟨g', hg', e.symm⟩))
  have HX3 : Hid (w3.heap[bk]? = some (.cells (slB s) 94 (0, 0))) := Lib.hid (by
    rw [HB3.out.2.block bk (lt_of_block HX2.out) (kind_ne HX2.out HB2.out (by decide))]
    exact HX2.out)
  have hg1 : (0 : Int) ≤ (m : Int) := by omega
  have hg2 : (m : Int) < ((m + 1 : Nat) : Int) := by omega
  have hg3 : (m : Int) < (m : Int) + 1 := by omega
  have hcx : ∀ j v, (slB s)[j]? = some v → w3.cell? ⟨bk, j, none⟩ = some v := fun j v hv => by rw [cell_of_blk HX3.out]; exact hv
  obtain ⟨c0, c1, c2, c3, c4, c5⟩ := HB3.out.1.cells
  obtain ⟨x0, x1, x2, x3, x4, x5, x6, x7, x8, x9, x10⟩ : w3.cell? ⟨bk, 0, none⟩ = some (.string s.nm.s) ∧ w3.cell? ⟨bk, 1, none⟩ = some (.int .i64 s.nm.a) ∧ w3.cell? ⟨bk, 2, none⟩ = some (.int .i64 s.hk) ∧ w3.cell? ⟨bk, 3, none⟩ = some (.int .i64 s.hn) ∧ w3.cell? ⟨bk, 4, none⟩ = some (.string s.hs) ∧ w3.cell? ⟨bk, 5, none⟩ = some (.slice s.ha s.hl s.hc) ∧ w3.cell? ⟨bk, 6, none⟩ = some (.slice s.ga s.gl s.gc) ∧ w3.cell? ⟨bk, 7, none⟩ = some (.int .i64 s.vs) ∧ w3.cell? ⟨bk, 8, none⟩ = some (.slice s.ca s.cl s.cc) ∧ w3.cell? ⟨bk, 9, none⟩ = some (.int .i64 s.ad) ∧ w3.cell? ⟨bk, 10, none⟩ = some (.int .i64 s.ki) := ⟨hcx 0 _ rfl, hcx 1 _ rfl, hcx 2 _ rfl, hcx 3 _ rfl, hcx 4 _ rfl, hcx 5 _ rfl, hcx 6 _ rfl, hcx 7 _ rfl, hcx 8 _ rfl, hcx 9 _ rfl, hcx 10 _ rfl⟩
  clear hcx
  go_still_tail 7, (by kernel_rfl)
  change wpList _ _ _ _ _ w3.drew
  have oD : Only (fun _ => False) w3 w3.drew := Only.drew _ _
  have HB4 : Hid (BoxB b pm lim gen low m (some ⟨g, 0, none⟩) (m + 1) sc2 w3.drew) := Lib.hid (HB3.out.1.only oD (fun e => e))
  have HR4 : Hid (RowS (some ⟨g, 0, none⟩) sc2 (sl ++ [zS]) w3.drew) := Lib.hid (HR3.out.only oD (fun _ _ e => e))
  have HX4 : Hid (w3.drew.heap[bk]? = some (.cells (slB s) 94 (0, 0))) := Lib.hid (by rw [oD.block bk (lt_of_block HX3.out) (fun e => e)]; exact HX3.out)
  have HO4 : Hid (Only (PutS b so) w w3.drew) := Lib.hid ((((HO.out.mono (fun _ _ e => e.elim)).same (HO2.out.mono (fun k _ e => .inr e))).same (HB3.out.2.mono (fun k _ e => .inl e))).same (oD.mono (fun _ _ e => e.elim)))
  clear c0 c1 c2 c3 c4 c5 x0 x1 x2 x3 x4 x5 x6 x7 x8 x9 x10 oD
  generalize w3.drew = w4 at *
  have hcx : ∀ j v, (slB s)[j]? = some v → w4.cell? ⟨bk, j, none⟩ = some v := fun j v hv => by rw [cell_of_blk HX4.out]; exact hv
  obtain ⟨c0, c1, c2, c3, c4, c5⟩ := HB4.out.cells
  obtain ⟨x0, x1, x2, x3, x4, x5, x6, x7, x8, x9, x10⟩ : w4.cell? ⟨bk, 0, none⟩ = some (.string s.nm.s) ∧ w4.cell? ⟨bk, 1, none⟩ = some (.int .i64 s.nm.a) ∧ w4.cell? ⟨bk, 2, none⟩ = some (.int .i64 s.hk) ∧ w4.cell? ⟨bk, 3, none⟩ = some (.int .i64 s.hn) ∧ w4.cell? ⟨bk, 4, none⟩ = some (.string s.hs) ∧ w4.cell? ⟨bk, 5, none⟩ = some (.slice s.ha s.hl s.hc) ∧ w4.cell? ⟨bk, 6, none⟩ = some (.slice s.ga s.gl s.gc) ∧ w4.cell? ⟨bk, 7, none⟩ = some (.int .i64 s.vs) ∧ w4.cell? ⟨bk, 8, none⟩ = some (.slice s.ca s.cl s.cc) ∧ w4.cell? ⟨bk, 9, none⟩ = some (.int .i64 s.ad) ∧ w4.cell? ⟨bk, 10, none⟩ = some (.int .i64 s.ki) := ⟨hcx 0 _ rfl, hcx 1 _ rfl, hcx 2 _ rfl, hcx 3 _ rfl, hcx 4 _ rfl, hcx 5 _ rfl, hcx 6 _ rfl, hcx 7 _ rfl, hcx 8 _ rfl, hcx 9 _ rfl, hcx 10 _ rfl⟩
  have hget : (sl ++ [zS])[m]? = some zS := by rw [List.getElem?_append_right (by rw [HM.out]; exact Nat.le_refl _), HM.out]; simp
  obtain ⟨g', e1, _, hcc⟩ := HR4.out.at liesS m zS hget
  cases e1
  have HP := Lib.hid (HR4.out.put hget s)
  have HSET : Hid ((sl ++ [zS]).set m s = sl ++ [s]) := Lib.hid (by rw [HM.out, List.set_append_right _ _ (Nat.le_refl _), Nat.sub_self]; rfl)
  have HTH : Hid (w4.there g (m * 11) 11) := Lib.hid (fun j hj => ⟨by
    rw [(hcc j hj).1]
    have : (encS zS).length = 11 := rfl
    rw [List.getElem?_eq_getElem (by omega)]
    rfl, (hcc j hj).2⟩)
  have HI : Hid ((Try.prog.info? 94).map (·.size) = some 11) := Lib.hid (by rw [hi0, Option.map_some, hz1])
  clear hcx hcc hget
  refine wpList_store_mid rfl 94 (.tmp 29) (.tmp 28) rfl g (m * 11) (encS s).toArray rfl rfl HTH.out HI.out (all_oneCell_toArray (fun v hv => liesS.one s v hv)) ?_
  obtain ⟨w5, hw5⟩ : ∃ w5, w5 = w4.setCells g (m * 11) (encS s).toArray.toList := ⟨_, rfl⟩
  rw [← hw5]
  have hsl : w4.setCells g (m * 11) (encS s).toArray.toList = slW w4 g m s := rfl
  rw [hsl] at hw5
  have HP5 : Hid (RowS (some ⟨g, 0, none⟩) sc2 (sl ++ [s]) w5 ∧ Only (· = g) w4 w5) := Lib.hid (by rw [hw5, ← HSET.out]; exact HP.out)
  clear hw5 hsl HP c0 c1 c2 c3 c4 c5 x0 x1 x2 x3 x4 x5 x6 x7 x8 x9 x10
  have HNG : Hid (b ≠ g) := Lib.hid (fun e => row_apart HR4.out HB4.out (by decide) ⟨_, rfl, e⟩)
  have HB5 : Hid (BoxB b pm lim gen low m (some ⟨g, 0, none⟩) (m + 1) sc2 w5) := Lib.hid (HB4.out.only HP5.out.2 (fun e => HNG.out e))
  obtain ⟨c0, c1, c2, c3, c4, c5⟩ := HB5.out.cells
  have f5 := HB5.out.free 5
  have hw1 : IntKind.i64.wrap ((m : Int) + 1) = (m : Int) + 1 := IntWalk.i64_in _ (by omega)
  have HU := Lib.hid (HB5.out.setUs ((m : Int) + 1))
  go_wp2_with fail
  go_end0
  refine ⟨rfl, ⟨some ⟨g, 0, none⟩, sc2, HU.out.1, HP5.out.1.only HU.out.2 (fun g' hg' e => by cases hg'; exact HNG.out e.symm), fun g' hg' => ?_⟩, ?_⟩
  · rcases HN2.out g' hg' with h2 | h2
    · exact .inl h2
    · exact .inr (by have h3 : E.heap.size ≤ g'.block := h2; have := HSZ.out; omega)
  · refine (HO4.out.trans HP5.out.2 (fun k hk e => ?_)).trans HU.out.2 (fun k _ e => .inl e)
    have e' : k = g := e
    rcases HN2.out _ rfl with h2 | h2
    · exact .inr ⟨_, h2, e'⟩
    · exact absurd hk (by have h3 : E.heap.size ≤ g := h2; have := HSZ.out; omega)
end
end Go.Proofs.Ythfilpacmllhpab.bases
