/- A functor is put into a new slot behind all. -/
import Derived.Test.YtoppfhbpmmepaaaDoorFunc2
namespace Go.Proofs.YtoppfhbpmmepaaaDoor.functors
open Go.RowKit Go.Proofs.YtoppfhbpmmepaaaDoor.own Go.Maps
variable {S : Nat → Prop} {B b : Nat} {lim : Int} {ta : Nat} {ao : Option Addr} {cap m low : Nat} {sl : List FSlot} {w w' : World}
theorem used_free (sl : List FSlot) : used (sl ++ [freeSlot]) = used sl := by
  unfold used
  rw [prs_append]
  simp [prs, freeSlot]
theorem MapOf.free {D : D1} (h : MapOf D sl) : MapOf D (sl ++ [freeSlot]) := by
  obtain ⟨es, rfl, hp⟩ := h
  refine ⟨es, rfl, ?_⟩
  rw [prs_append]
  simpa [prs, freeSlot] using hp
theorem get_free {j : Nat} {x : FSlot} (h : (sl ++ [freeSlot])[j]? = some x) : sl[j]? = some x ∨ (j = sl.length ∧ x = freeSlot) := by
  rw [List.getElem?_append] at h
  split at h
  · exact .inl h
  · rcases hi : j - sl.length with _ | q
    · rw [hi] at h
      simp only [List.getElem?_cons_zero, Option.some.injEq] at h
      exact .inr ⟨by omega, h.symm⟩
    · rw [hi] at h
      simp at h
theorem noId_free {f : FKey} (h : noId sl f) : noId (sl ++ [freeSlot]) f := by
  rintro j ⟨x, h1, h2, h3⟩
  rcases get_free h1 with e | ⟨_, e⟩
  · exact h j ⟨x, e, h2, h3⟩
  · subst e
    cases h2
/-- The world behind the append, with the field turned. -/
abbrev fieldS (w2 : World) (b g cap n : Nat) : World := w2.setCell ⟨b, 2, none⟩ (.slice (some ⟨g, 0, none⟩) n cap)
theorem Core.appended {g cap' : Nat} {w2 : World} (h : Core S B b lim ta ao cap m low sl w) (hrow : SlotsP B (some ⟨g, 0, none⟩) cap' (sl ++ [freeSlot]) w2) (ho : Only (RowAt ao) w w2) (hnew : NewRow w.heap.size ao (some ⟨g, 0, none⟩)) (hl : (sl.length : Int) < lim) :
    Core (Grew S w (fieldS w2 b g cap' (sl.length + 1))) B b lim ta (some ⟨g, 0, none⟩) cap' m low (sl ++ [freeSlot]) (fieldS w2 b g cap' (sl.length + 1)) ∧ Only S w (fieldS w2 b g cap' (sl.length + 1)) := by
  have hh := hrow.head _ rfl
  have hb := h.lt b (h.own b (.inl rfl))
  have hm := h.lt m (h.own m (.inr (.inl rfl)))
  have hb2 := blk_field h.blk ho (by rintro ⟨g', hg', e⟩; exact (h.other g' hg').1 e.symm)
  have hgb : g ≠ b := by
    rcases hnew _ rfl with h1 | h1
    · exact (h.other _ h1).1
    · intro e; subst e; have : w.heap.size ≤ g := h1; omega
  have hgm : g ≠ m := by
    rcases hnew _ rfl with h1 | h1
    · exact (h.other _ h1).2
    · intro e; subst e; have : w.heap.size ≤ g := h1; omega
  have hgS : S g ∨ w.heap.size ≤ g := by
    rcases hnew _ rfl with h1 | h1
    · exact .inl (h.own _ (.inr (.inr ⟨_, h1, rfl⟩)))
    · exact .inr h1
  have of : Only (· = b) w2 (fieldS w2 b g cap' (sl.length + 1)) := Only.setCell (S := (· = b)) w2 (p := ⟨b, 2, none⟩) rfl _
  have hs1 := ho.size
  have hs2 := of.size
  have hgl : g < w2.heap.size := hh.2.2
  have o1 : Only S w w2 := ho.mono (fun k _ e => h.own k (.inr (.inr e)))
  obtain ⟨D, hD, hM⟩ := h.map
  refine ⟨⟨?_, hrow.only of (fun g' hg' => by cases hg'; exact hgb), ⟨D, ?_, hM.free⟩, ?_, ?_, ?_, ?_, ?_, ?_, ?_, h.bm, fun g' hg' => by cases hg'; exact ⟨hgb, hgm⟩⟩, o1.trans of (fun k _ e => by subst e; exact h.own _ (.inl rfl))⟩
  · have := blk_set hb2 2 (.slice (some ⟨g, 0, none⟩) (sl.length + 1) cap')
    simpa using this
  · rw [used_free]
    exact map_only (map_only hD ho (by rintro ⟨g', hg', e⟩; exact (h.other g' hg').2 e.symm)) of (fun e => h.bm e.symm)
  · refine h.apart.new ?_
    rintro j ⟨x, h1, h2, h3⟩
    have := (h.wf j x h1).1 h2
    rw [h3] at this
    exact absurd this (by decide)
  · intro j x hx
    rcases get_free hx with e | ⟨_, e⟩
    · exact h.wf j x e
    · subst e; simp [freeSlot, noKey]
  · have := h.bound; simp only [List.length_append, List.length_cons, List.length_nil]; omega
  · have := h.bound; simp only [List.length_append, List.length_cons, List.length_nil]; omega
  · refine ⟨by have := h.lows.1; simp only [List.length_append]; omega, fun j x hj hx => ?_⟩
    rcases get_free hx with e | ⟨e, _⟩
    · exact h.lows.2 j x hj e
    · have := h.lows.1; omega
  · rintro k (rfl | rfl | ⟨g', hg', rfl⟩)
    · exact .inl (h.own _ (.inl rfl))
    · exact .inl (h.own _ (.inr (.inl rfl)))
    · cases hg'
      rcases hgS with e | e
      · exact .inl e
      · exact .inr ⟨e, by show g < _; omega⟩
  · rintro k (hk | hk)
    · have := h.lt k hk; omega
    · omega
theorem infoFp : ∃ i, Tryd.prog.info? 93 = some i ∧ i.zero = some (.agg #[.int .i64 0, .int .i64 0, .bool false]) ∧ i.size = 3 ∧ i.bytes = 24 := info_parts infoF
set_option maxHeartbeats 1600000 in
set_option maxRecDepth 100000 in
theorem put_new (f : FKey) (h : Core S B b lim ta ao cap m low sl w) (hl : (sl.length : Int) < lim) (hf : 1 ≤ f.n) (hn : noId sl f) :
    Calls Tryd.prog 38 #[.pointer (some ⟨b, 0, none⟩), .int .i64 sl.length, f.val] w fun e w' => e = .returned (.tuple #[]) ∧ Tbl (Grew S w w') B b lim ta low (sl ++ [⟨f, true, false⟩]) w' ∧ Only S w w' := by
  obtain ⟨i0, hi, hz0, hz1, hz2⟩ := infoFp
  have hfew := h.few
  have hlim := h.bound
  have hw1 : Only (fun _ => False) w (w.alloc (.cells #[.int .i64 f.a, .int .i64 f.n] 90)) := Only.alloc _ _ _
  have H1 := Lib.hid (h.only hw1 (fun _ _ e => e))
  have H := Lib.hid h
  have HB : Hid ((w.alloc (.cells #[.int .i64 f.a, .int .i64 f.n] 90)).heap[w.heap.size]? = some (.cells #[.int .i64 f.a, .int .i64 f.n] 90 (0, 0))) := Lib.hid (heap_alloc_new w _)
  have c2 := cell_of_blk H1.out.blk 2
  have f2 := free_of_blk H1.out.blk 2
  simp only [List.getElem?_toArray, List.getElem?_cons_succ, List.getElem?_cons_zero] at c2
  have HO1 := Lib.hid hw1
  have hbw : B ≤ (w.alloc (.cells #[.int .i64 f.a, .int .i64 f.n] 90)).heap.size := by have := H1.out.low_le; omega
  have HSZ := Lib.hid (show (w.alloc (.cells #[.int .i64 f.a, .int .i64 f.n] 90)).heap.size = w.heap.size + 1 from by simp)
  clear h hw1
  go_enter Tryd.func38, Tryd.ntmps38
  unfold FKey.val
  go_wp2_with (first
    | (at_builtin; refine wp_append_one liesS rfl (.tmp 17) (.tmp 19) 81 rfl B 93 i0 _ 24 Tryd.underlying81 hi hz0 hz1 hz2 rfl (by omega) (w.alloc (.cells #[.int .i64 f.a, .int .i64 f.n] 90)) ao cap sl freeSlot [.int .i64 0, .int .i64 0, .bool false] rfl rfl H1.out.row (by rw [HSZ.out]; rfl) (by omega) hbw ?_; intro ao' cap' w2 hrow2 ho2 hnew2
       obtain ⟨g, rfl, hg, hc⟩ := hrow2.at liesS sl.length freeSlot (by simp)
       have hcap := hrow2.cap_ge
       simp only [List.length_append, List.length_cons, List.length_nil] at hcap
       have HA := Lib.hid (H1.out.appended hrow2 ho2 hnew2 hl)
       have hb2 := blk_field H1.out.blk ho2 (by rintro ⟨g', hg', e⟩; exact (H1.out.other g' hg').1 e.symm)
       have HN2 := Lib.hid hnew2
       have HO2 := Lib.hid ho2
       have c2 := cell_of_blk hb2 2; have f2 := free_of_blk hb2 2
       simp only [List.getElem?_toArray, List.getElem?_cons_succ, List.getElem?_cons_zero] at c2
       have hcap1 : sl.length + 1 ≤ cap' := by omega
       have hcap2 : cap' ≤ 9223372036854775807 := by have := hcap.2; unfold maxLen at this; omega
       clear hrow2 ho2 hnew2 hc hcap hb2)
    | fail)
  generalize hob : w.heap.size = ob at *
  have HOB := Lib.hid hob
  generalize hw1 : w.alloc (.cells #[.int .i64 f.a, .int .i64 f.n] 90) = w1 at *
  clear hw1
  change Code.wp _ _ _ _ (fieldS w2 b g cap' (sl.length + 1))
  obtain ⟨HC, HOC⟩ := HA.out
  have HB2 : Hid ((fieldS w2 b g cap' (sl.length + 1)).heap[ob]? = some (.cells #[.int .i64 f.a, .int .i64 f.n] 90 (0, 0))) := Lib.hid (blk_field HB.out HOC (fun e => by have := (H.out.lt ob e).2; have := HOB.out; omega))
  have HBN : Hid (ob < w1.heap.size) := Lib.hid (lt_of_block HB.out)
  generalize hwc : fieldS w2 b g cap' (sl.length + 1) = wc at *
  clear c2 f2 hwc HA HN2 HO2 hbw HSZ hcap1 hcap2
  have hgs := HC.slot sl.length freeSlot (by simp)
  have HCd := Lib.hid (HC.only (Only.drew (fun _ => False) wc) (fun _ _ e => e))
  have HC0 := Lib.hid HC
  have HOC0 := Lib.hid HOC
  have c2 := cell_of_blk HCd.out.blk 2
  simp only [List.getElem?_toArray, List.getElem?_cons_succ, List.getElem?_cons_zero, List.length_append, List.length_cons, List.length_nil, Nat.zero_add] at c2
  have e0 : wc.drew.cell? ⟨ob, 0, none⟩ = some (.int .i64 f.a) := by rw [show wc.drew.cell? ⟨ob, 0, none⟩ = wc.cell? ⟨ob, 0, none⟩ from rfl, cell_of_blk HB2.out]; rfl
  have e1 : wc.drew.cell? ⟨ob, 1, none⟩ = some (.int .i64 f.n) := by rw [show wc.drew.cell? ⟨ob, 1, none⟩ = wc.cell? ⟨ob, 1, none⟩ from rfl, cell_of_blk HB2.out]; rfl
  obtain ⟨g', hg', k0, k1, k2, z0, z1, z2⟩ := HCd.out.slot sl.length freeSlot (by simp)
  obtain rfl : g = g' := by simpa using hg'
  have hb0 : (0 : Int) ≤ (sl.length : Int) := by omega
  obtain ⟨n, hnl⟩ : ∃ n, n = sl.length + 1 := ⟨_, rfl⟩
  rw [← hnl] at c2
  have hb1 : (sl.length : Int) < (n : Int) := by omega
  clear hg' hob hgs HC HOC hnl
  go_still_tail 8, (by kernel_rfl)
  change wpList _ _ _ _ _ wc.drew
  have HO2 : Hid (Only (fun _ => False) wc wc.drew) := Lib.hid (Only.drew _ _)
  have HBd : Hid (wc.drew.heap[ob]? = some (.cells #[.int .i64 f.a, .int .i64 f.n] 90 (0, 0))) := Lib.hid HB2.out
  generalize wc.drew = w2 at *
  go_wp2_with fail
  obtain ⟨D, hD, hM⟩ := HCd.out.map
  have HD := Lib.hid hD
  have HM := Lib.hid hM
  have HU := Lib.hid (show used (sl ++ [freeSlot]) ≤ sl.length by rw [used_free]; exact used_le sl)
  have hog : ob ≠ g := fun e => by
    subst e
    have h1 := HC0.out.own ob (.inr (.inr ⟨_, rfl, rfl⟩))
    have h3 := HOB.out
    rcases h1 with h1 | h1
    · have := (H.out.lt ob h1).2; omega
    · have := HBN.out; omega
  have hjl : sl.length < (sl ++ [freeSlot]).length := by simp
  have hst := slot_stored HCd.out.row hjl ⟨f, true, false⟩
  have HSt := Lib.hid hst
  have hbg := (HCd.out.other _ rfl)
  obtain ⟨w3, hw3⟩ : ∃ w3, w3 = storedS w2 g sl.length ⟨f, true, false⟩ := ⟨_, rfl⟩
  have HW3 := Lib.hid hw3
  change Code.wp _ _ _ _ (storedS w2 g sl.length ⟨f, true, false⟩)
  rw [← hw3] at hst ⊢
  have hbb := (HCd.out.lt b (HCd.out.own b (.inl rfl))).2
  have hbd := blk_field HCd.out.blk hst.2 (fun e => hbg.1 e.symm)
  have c3 : w3.drew.cell? ⟨b, 3, none⟩ = some (.map (some m)) := by
    rw [show w3.drew.cell? ⟨b, 3, none⟩ = w3.cell? ⟨b, 3, none⟩ from rfl, cell_of_blk hbd]; rfl
  have hob3 := blk_field HBd.out hst.2 hog
  have e0 : w3.drew.cell? ⟨ob, 0, none⟩ = some (.int .i64 f.a) := by rw [show w3.drew.cell? ⟨ob, 0, none⟩ = w3.cell? ⟨ob, 0, none⟩ from rfl, cell_of_blk hob3]; rfl
  have e1 : w3.drew.cell? ⟨ob, 1, none⟩ = some (.int .i64 f.n) := by rw [show w3.drew.cell? ⟨ob, 1, none⟩ = w3.cell? ⟨ob, 1, none⟩ from rfl, cell_of_blk hob3]; rfl
  have hD3 : MapP m (used (sl ++ [freeSlot])) D w3.drew := map_only (map_only hD hst.2 (fun e => hbg.2 e.symm)) (Only.drew (fun _ => False) w3) (fun e => e)
  have HD3 := Lib.hid hD3
  have HW := Lib.hid (wfN (show sl.length < 65536 by omega))
  have hkey := keyOfF f
  unfold FKey.val at hkey
  clear hD hM hst hw3 hbd hob3 hD3 k0 k1 k2 z0 z1 z2 c2 hb0 hb1
  go_still_tail 6, (by kernel_rfl)
  change wpList _ _ _ _ _ w3.drew
  have HO3 : Hid (Only (fun _ => False) w3 w3.drew) := Lib.hid (Only.drew _ _)
  generalize w3.drew = w4 at *
  go_wp2_with (first
    | (at_mapUpdate; refine wpList_mapUpdate_in _ rfl _ _ _ 80 rfl 90 3 keyedF Tryd.underlying80 _ m (used (sl ++ [freeSlot])) D rfl HD3.out (by have := HU.out; unfold maxLen; omega) _ _ _ rfl rfl hkey _ [] (plainElem_int Tryd.underlying3 HW.out) ?_; intro w5 hown5 hturn5)
    | fail)
  go_end0
  have hP := HCd.out.put (j := sl.length) (x := freeSlot) (by simp) rfl hf (noId_free hn) HD.out HM.out HW3.out HO3.out hown5 hturn5
  have hset : (sl ++ [freeSlot]).set sl.length ⟨f, true, false⟩ = sl ++ [⟨f, true, false⟩] := by rw [List.set_append_right _ _ (Nat.le_refl _)]; simp
  rw [hset] at hP
  have hs1 := HO1.out.size
  have hsc := HOC0.out.size
  have hs2 := HO2.out.size
  have hs5 := hP.2.size
  have o1 : Only S w wc := (HO1.out.no S).same HOC0.out
  have hall : Only S w w5 := (o1.same (HO2.out.no S)).trans hP.2 (fun k hk e => by
    rcases e with e | e
    · exact e
    · omega)
  have hw := H.out.low_le
  refine ⟨rfl, ⟨_, _, _, hP.1.wider ?_ ?_⟩, hall⟩
  · rintro k (hk | hk)
    · exact .inl hk
    · exact .inr ⟨by omega, by omega⟩
  · rintro k (hk | hk)
    · have := H.out.lt k hk; omega
    · omega
end Go.Proofs.YtoppfhbpmmepaaaDoor.functors
