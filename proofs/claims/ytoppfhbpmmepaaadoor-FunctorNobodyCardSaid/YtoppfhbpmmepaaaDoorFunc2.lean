/- A functor is put into a slot. -/
import Derived.Test.YtoppfhbpmmepaaaDoorFunc1
import Derived.StillTailTactics
namespace Go.Proofs.YtoppfhbpmmepaaaDoor.functors
open Go.RowKit Go.Proofs.YtoppfhbpmmepaaaDoor.own Go.Maps
variable {S : Nat → Prop} {B b : Nat} {lim : Int} {ta : Nat} {ao : Option Addr} {cap m low : Nat} {sl : List FSlot} {w w' : World}
theorem tight {P : Program} {k : TypeId} {R : Value → Option (D1 × List MemPlace)} {w : World} {b n : Nat} {D : D1} (h : w.ownsMap P k R b n D) : w.ownsMap P k R b (Maps.size D) D := by
  obtain ⟨es, clock, hb, F, hs, rfl⟩ := h
  refine ⟨es, clock, hb, F, ?_, rfl⟩
  simp only [Maps.size, length_sorted, List.length_map, Array.length_toList, Nat.le_refl]
theorem Only.turned {w w' : World} {b : Nat} (h : w.mapTurned w' b) : Only (· = b) w w' := (Only.grown h.grown).mono (fun _ _ e => by simpa using e)
theorem zeroI (w : World) : (zeroValue 3).run Tryd.prog w = .ok (.int .i64 0) w := by kernel_rfl
theorem infoF : (Tryd.prog.info? 93).map (fun i => (i.zero, i.size, i.bytes)) = some (some (.agg #[.int .i64 0, .int .i64 0, .bool false]), 3, 24) := by kernel_rfl
theorem blk_field {w : World} {b : Nat} {cs : Array Value} {t : TypeId} {S : Nat → Prop} {w2 : World} (h : w.heap[b]? = some (.cells cs t (0, 0))) (ho : Only S w w2) (hb : ¬ S b) : w2.heap[b]? = some (.cells cs t (0, 0)) := by
  rw [ho.block b (lt_of_block h) hb]
  exact h
/-- The three cells of a slot are stored. -/
abbrev storedS (w : World) (g j : Nat) (y : FSlot) : World := ((w.setCell ⟨g, j * 3, none⟩ (.int .i64 y.name.a)).setCell ⟨g, j * 3 + 1, none⟩ (.int .i64 y.name.n)).setCell ⟨g, j * 3 + 2, none⟩ (.bool y.mark)
theorem slot_stored {B g cap : Nat} {sl : List FSlot} {w : World} (h : SlotsP B (some ⟨g, 0, none⟩) cap sl w) {j : Nat} (hj : j < sl.length) (y : FSlot) : SlotsP B (some ⟨g, 0, none⟩) cap (sl.set j y) (storedS w g j y) ∧ Only (· = g) w (storedS w g j y) := by
  obtain ⟨x, hx⟩ : ∃ x, sl[j]? = some x := ⟨_, List.getElem?_eq_getElem hj⟩
  obtain ⟨r1, o1⟩ := h.stored liesS j 0 x ⟨⟨y.name.a, x.name.n, ⟨y.name.ok.1, x.name.ok.2⟩⟩, x.used, x.mark⟩ (.int .i64 y.name.a) hx (by omega) rfl
  have h1 : (sl.set j ⟨⟨y.name.a, x.name.n, ⟨y.name.ok.1, x.name.ok.2⟩⟩, x.used, x.mark⟩)[j]? = some ⟨⟨y.name.a, x.name.n, ⟨y.name.ok.1, x.name.ok.2⟩⟩, x.used, x.mark⟩ := by rw [get_set _ hj, if_pos rfl]
  obtain ⟨r2, o2⟩ := r1.stored liesS j 1 _ ⟨y.name, y.used, x.mark⟩ (.int .i64 y.name.n) h1 (by omega) rfl
  have h2 : ((sl.set j ⟨⟨y.name.a, x.name.n, ⟨y.name.ok.1, x.name.ok.2⟩⟩, x.used, x.mark⟩).set j ⟨y.name, y.used, x.mark⟩)[j]? = some ⟨y.name, y.used, x.mark⟩ := by rw [get_set _ (by rw [List.length_set]; exact hj), if_pos rfl]
  obtain ⟨r3, o3⟩ := r2.stored liesS j 2 _ y (.bool y.mark) h2 (by omega) rfl
  simp only [List.set_set] at r3
  exact ⟨r3, (o1.same o2).same o3⟩
/-- A table, wherever its parts lie. -/
def Tbl (S : Nat → Prop) (B b : Nat) (lim : Int) (ta low : Nat) (sl : List FSlot) (w : World) : Prop := ∃ ao cap m, Core S B b lim ta ao cap m low sl w
theorem Core.wider {S' : Nat → Prop} (h : Core S B b lim ta ao cap m low sl w) (hS : ∀ k, S k → S' k) (hlt : ∀ k, S' k → B ≤ k ∧ k < w.heap.size) : Core S' B b lim ta ao cap m low sl w :=
  ⟨h.blk, h.row, h.map, h.apart, h.wf, h.few, h.bound, h.lows, fun k hk => hS k (h.own k hk), hlt, h.bm, h.other⟩
theorem Core.low_le (h : Core S B b lim ta ao cap m low sl w) : B ≤ b ∧ b < w.heap.size := h.lt b (h.own b (.inl rfl))
theorem Core.grew {w0 : World} (h0 : B ≤ w0.heap.size) (h : Core S B b lim ta ao cap m low sl w) (ho : Only S w0 w) : Core (Grew S w0 w) B b lim ta ao cap m low sl w :=
  h.wider (fun _ e => .inl e) (fun k hk => by rcases hk with hk | hk; exact h.lt k hk; omega)
/-- A functor is put into a slot that is free: the cells, then the map. -/
theorem Core.put {g : Nat} (h : Core S B b lim ta (some ⟨g, 0, none⟩) cap m low sl w) {f : FKey} {j : Nat} {x : FSlot} (hj : sl[j]? = some x) (hx : x.used = false) (hf : 1 ≤ f.n) (hn : noId sl f) {D : D1} (hD : MapP m (used sl) D w) (hM : MapOf D sl) {w2 w3 w4 : World}
    (e2 : w2 = storedS w g j ⟨f, true, false⟩) (o3 : Only (fun _ => False) w2 w3) (h4 : MapP m (used sl + 1) (D.put (keyN f) (idD j)) w4) (t4 : w3.mapTurned w4 m) : Core S B b lim ta (some ⟨g, 0, none⟩) cap m low (sl.set j ⟨f, true, false⟩) w4 ∧ Only S w w4 := by
  have hjl := (List.getElem?_eq_some_iff.1 hj).1
  obtain ⟨hr2, ho2⟩ := slot_stored h.row hjl ⟨f, true, false⟩
  rw [← e2] at hr2 ho2
  have ht := Only.turned t4
  have hgm := (h.other _ rfl).2
  have hgb := (h.other _ rfl).1
  have hall : Only S w w4 := ((ho2.mono (fun k _ e => by subst e; exact h.own k (.inr (.inr ⟨_, rfl, rfl⟩)))).same (o3.no S)).same (ht.mono (fun k _ e => by subst e; exact h.own k (.inr (.inl rfl))))
  have hl : (sl.set j (⟨f, true, false⟩ : FSlot)).length = sl.length := List.length_set ..
  have hMp := hM.put (sl' := sl.set j ⟨f, true, false⟩) hn (prs_put hj hx rfl)
  refine ⟨⟨?_, (hr2.only o3 (fun _ _ e => e)).only ht (fun g' hg' e => by cases hg'; exact hgm e), ⟨_, ?_, hMp⟩, h.apart.put hjl hn, fun i y hy => ?_, by rw [hl]; exact h.few, by rw [hl]; exact h.bound, ⟨by rw [hl]; exact h.lows.1, fun i y hi hy => ?_⟩, h.own, fun k hk => ⟨(h.lt k hk).1, Nat.lt_of_lt_of_le (h.lt k hk).2 hall.size⟩, h.bm, h.other⟩, hall⟩
  · rw [hl]
    exact blk_field (blk_field (blk_field h.blk ho2 (fun e => hgb e.symm)) o3 (fun e => e)) ht h.bm
  · rw [← hMp.size]
    exact tight h4
  · rw [get_set _ hjl] at hy
    split at hy
    · cases hy; simp [hf]
    · exact h.wf i y hy
  · rw [get_set _ hjl] at hy
    split at hy
    · cases hy; rfl
    · exact h.lows.2 i y hi hy
set_option maxRecDepth 100000 in
set_option maxHeartbeats 1600000 in
theorem put_at (f : FKey) (j : Nat) (x : FSlot) (h : Core S B b lim ta ao cap m low sl w) (hj : sl[j]? = some x) (hx : x.used = false) (hf : 1 ≤ f.n) (hn : noId sl f) :
    Calls Tryd.prog 38 #[.pointer (some ⟨b, 0, none⟩), .int .i64 j, f.val] w fun e w' => e = .returned (.tuple #[]) ∧ Tbl (Grew S w w') B b lim ta low (sl.set j ⟨f, true, false⟩) w' ∧ Only S w w' := by
  have hjl := (List.getElem?_eq_some_iff.1 hj).1
  have hfew := h.few
  obtain ⟨g, hg0, _⟩ := h.slot j x hj
  subst hg0
  have he : ((j : Int) == (sl.length : Int)) = false := by simp; omega
  have hw1 : Only (fun _ => False) w (w.alloc (.cells #[.int .i64 f.a, .int .i64 f.n] 90)) := Only.alloc _ _ _
  have H1 := Lib.hid (h.only hw1 (fun _ _ e => e))
  have H := Lib.hid h
  have HB : Hid ((w.alloc (.cells #[.int .i64 f.a, .int .i64 f.n] 90)).heap[w.heap.size]? = some (.cells #[.int .i64 f.a, .int .i64 f.n] 90 (0, 0))) := Lib.hid (heap_alloc_new w _)
  have c2 := cell_of_blk H1.out.blk 2
  simp only [List.getElem?_toArray, List.getElem?_cons_succ, List.getElem?_cons_zero] at c2
  have HO1 := Lib.hid hw1
  clear h hw1
  go_enter Tryd.func38, Tryd.ntmps38
  unfold FKey.val
  go_wp2_with fail
  generalize hob : w.heap.size = ob at *
  have HOB := Lib.hid hob
  generalize w.alloc (.cells #[.int .i64 f.a, .int .i64 f.n] 90) = w1 at *
  have HSlot := Lib.hid (H1.out.slot j x hj)
  have H1d := Lib.hid (H1.out.only (Only.drew (fun _ => False) w1) (fun _ _ e => e))
  have c2d : w1.drew.cell? ⟨b, 2, none⟩ = some (.slice (some ⟨g, 0, none⟩) sl.length cap) := c2
  have e0 : w1.drew.cell? ⟨ob, 0, none⟩ = some (.int .i64 f.a) := by rw [show w1.drew.cell? ⟨ob, 0, none⟩ = w1.cell? ⟨ob, 0, none⟩ from rfl, cell_of_blk HB.out]; rfl
  have e1 : w1.drew.cell? ⟨ob, 1, none⟩ = some (.int .i64 f.n) := by rw [show w1.drew.cell? ⟨ob, 1, none⟩ = w1.cell? ⟨ob, 1, none⟩ from rfl, cell_of_blk HB.out]; rfl
  have e0' : w1.cell? ⟨ob, 0, none⟩ = some (.int .i64 f.a) := e0
  have e1' : w1.cell? ⟨ob, 1, none⟩ = some (.int .i64 f.n) := e1
  obtain ⟨g', hg', k0, k1, k2, z0, z1, z2⟩ := H1d.out.slot j x hj
  obtain rfl : g = g' := by simpa using hg'
  have hb0 : (0 : Int) ≤ (j : Int) := by omega
  have hb1 : (j : Int) < (sl.length : Int) := by omega
  clear hg' hob
  go_still_tail 8, (by kernel_rfl)
  change wpList _ _ _ _ _ w1.drew
  clear e0' e1' c2
  have HO2 : Hid (Only (fun _ => False) w w1.drew) := Lib.hid (HO1.out.same (Only.drew _ _))
  have HBd : Hid (w1.drew.heap[ob]? = some (.cells #[.int .i64 f.a, .int .i64 f.n] 90 (0, 0))) := Lib.hid HB.out
  generalize w1.drew = w2 at *
  go_wp2_with fail
  obtain ⟨D, hD, hM⟩ := H1d.out.map
  have HD := Lib.hid hD
  have HM := Lib.hid hM
  have HU := Lib.hid (used_le sl)
  have hog : ob ≠ g := fun e => by
    have := (H1d.out.lt g (H1d.out.own g (.inr (.inr ⟨_, rfl, rfl⟩)))).2
    have h3 := (H.out.lt g (H.out.own g (.inr (.inr ⟨_, rfl, rfl⟩)))).2
    have := HOB.out
    omega
  have hst := slot_stored H1d.out.row hjl ⟨f, true, false⟩
  have HSt := Lib.hid hst
  have hbg := (H1d.out.other _ rfl)
  obtain ⟨w3, hw3⟩ : ∃ w3, w3 = storedS w2 g j ⟨f, true, false⟩ := ⟨_, rfl⟩
  have HW3 := Lib.hid hw3
  change Code.wp _ _ _ _ (storedS w2 g j ⟨f, true, false⟩)
  rw [← hw3] at hst ⊢
  have hbb := (H1d.out.lt b (H1d.out.own b (.inl rfl))).2
  have hbd := blk_field H1d.out.blk hst.2 (fun e => hbg.1 e.symm)
  have c3 : w3.drew.cell? ⟨b, 3, none⟩ = some (.map (some m)) := by
    rw [show w3.drew.cell? ⟨b, 3, none⟩ = w3.cell? ⟨b, 3, none⟩ from rfl, cell_of_blk hbd]; rfl
  have hob3 := blk_field HBd.out hst.2 hog
  have e0 : w3.drew.cell? ⟨ob, 0, none⟩ = some (.int .i64 f.a) := by rw [show w3.drew.cell? ⟨ob, 0, none⟩ = w3.cell? ⟨ob, 0, none⟩ from rfl, cell_of_blk hob3]; rfl
  have e1 : w3.drew.cell? ⟨ob, 1, none⟩ = some (.int .i64 f.n) := by rw [show w3.drew.cell? ⟨ob, 1, none⟩ = w3.cell? ⟨ob, 1, none⟩ from rfl, cell_of_blk hob3]; rfl
  have hD3 : MapP m (used sl) D w3.drew := map_only (map_only hD hst.2 (fun e => hbg.2 e.symm)) (Only.drew (fun _ => False) w3) (fun e => e)
  have HD3 := Lib.hid hD3
  have HW := Lib.hid (wfN (show j < 65536 by omega))
  have hkey := keyOfF f
  unfold FKey.val at hkey
  clear hD hM hst hw3 hbd hob3 hD3 k0 k1 k2 z0 z1 z2 c2d hb0 hb1
  go_still_tail 6, (by kernel_rfl)
  change wpList _ _ _ _ _ w3.drew
  have HO3 : Hid (Only (fun _ => False) w3 w3.drew) := Lib.hid (Only.drew _ _)
  generalize w3.drew = w4 at *
  go_wp2_with (first
    | (at_mapUpdate; refine wpList_mapUpdate_in _ rfl _ _ _ 80 rfl 90 3 keyedF Tryd.underlying80 _ m (used sl) D rfl HD3.out (by have := HU.out; unfold maxLen; omega) _ _ _ rfl rfl hkey _ [] (plainElem_int Tryd.underlying3 HW.out) ?_; intro w5 hown5 hturn5)
    | fail)
  go_end0
  have hP := H1d.out.put hj hx hf hn HD.out HM.out HW3.out HO3.out hown5 hturn5
  have hall : Only S w w5 := (HO2.out.no S).same hP.2
  exact ⟨rfl, ⟨_, _, _, hP.1.grew (by have := H.out.low_le; omega) hall⟩, hall⟩
end Go.Proofs.YtoppfhbpmmepaaaDoor.functors
