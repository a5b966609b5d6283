
/- The table of names as it lies in memory; New; put. -/
import Derived.Test.YtoppfhbpmmepaaaDoorAtomSync
import Derived.Test.YtoppfhbpmmepaaaDoorAtomLib
namespace Go.Proofs.YtoppfhbpmmepaaaDoor.atoms
open Go.RowKit Go.Proofs.YtoppfhbpmmepaaaDoor.own Go.Maps

theorem used_le (sl : List ASlot) : used sl ≤ sl.length := by
  unfold used
  generalize 0 = i
  induction sl generalizing i with
  | nil => simp [prs]
  | cons x r ih =>
    unfold prs
    have := ih (i + 1)
    split <;> simp <;> omega
theorem tight {P : Program} {k : TypeId} {R : Value → Option (D1 × List MemPlace)} {w : World} {b n : Nat} {D : D1} (h : w.ownsMap P k R b n D) : w.ownsMap P k R b (Maps.size D) D := by
  obtain ⟨es, clock, hb, F, hs, rfl⟩ := h
  refine ⟨es, clock, hb, F, ?_, rfl⟩
  simp only [Maps.size, length_sorted, List.length_map, Array.length_toList, Nat.le_refl]
theorem map_only {P : Program} {k : TypeId} {R : Value → Option (D1 × List MemPlace)} {S : Nat → Prop} {w w' : World} {b n : Nat} {D : D1} (h : w.ownsMap P k R b n D) (ho : Only S w w') (hS : ¬ S b) : w'.ownsMap P k R b n D := by
  have hlt := h.lt
  obtain ⟨es, clock, hb, F, hs, hD⟩ := h
  exact ⟨es, clock, (ho.block b hlt hS).trans hb, F, hs, hD⟩
theorem Only.turned {w w' : World} {b : Nat} (h : w.mapTurned w' b) : Only (· = b) w w' := (Only.grown h.grown).mono (fun _ _ e => by simpa using e)

abbrev MapP (m n : Nat) (D : D1) (w : World) : Prop := w.ownsMap Tryd.prog 9 (plainElem Tryd.prog 3) m n D
abbrev SlotsP (B : Nat) (ao : Option Addr) (cap : Nat) (sl : List ASlot) (w : World) : Prop := RowOf encS 3 95 B ao cap sl w

/-- A table whose map and slots are there. -/
structure Core (S : Nat → Prop) (B b : Nat) (lim d st : Int) (ao : Option Addr) (cap m : Nat) (low made : Int) (sl : List ASlot) (w : World) : Prop where
  blk : w.heap[b]? = some (.cells #[.int .i64 lim, .int .u32 d, .int .i32 st, .int .u32 0, .slice ao sl.length cap, .map (some m), .int .i64 low, .int .i64 made] 72 (0, 0))
  row : SlotsP B ao cap sl w
  map : ∃ D, MapP m (used sl) D w ∧ MapOf D sl
  apart : Apart sl
  names : ∀ (j : Nat) (x : ASlot), sl[j]? = some x → x.name.size ≤ 64
  few : sl.length ≤ 16384
  own : ∀ k, (k = b ∨ k = m ∨ RowAt ao k) → S k
  lt : ∀ k, S k → B ≤ k ∧ k < w.heap.size
  bm : b ≠ m
  other : ∀ g, ao = some g → g.block ≠ b ∧ g.block ≠ m

theorem keyed : Keyed Tryd.prog 9 := string_keyed Tryd.underlying9
theorem zeroI (w : World) : (zeroValue 3).run Tryd.prog w = .ok (.int .i64 0) w := by kernel_rfl
theorem keyOfN {n : ByteArray} (h : n.size ≤ 64) : keyOf Tryd.prog 9 (.string n) = some (keyN n) := WideMaps.keyOf_string_mk Tryd.underlying9 (by unfold maxLen; omega)
theorem infoS : (Tryd.prog.info? 95).map (fun i => (i.zero, i.size, i.bytes)) = some (some (.agg #[.string ⟨#[]⟩, .bool false, .bool false]), 3, 24) := by kernel_rfl
theorem wfId {j : Nat} (h : j ≤ 16384) : (Lit.int .i64 (j : Int)).wf = true := by
  have e1 : IntKind.min .i64 = -9223372036854775808 := by decide
  have e2 : IntKind.max .i64 = 9223372036854775807 := by decide
  simp only [Lit.wf, e1, e2, Bool.and_eq_true, decide_eq_true_eq]; omega

theorem Core.only {S S' : Nat → Prop} {B b : Nat} {lim d st : Int} {ao : Option Addr} {cap m : Nat} {low made : Int} {sl : List ASlot} {w w' : World} (h : Core S B b lim d st ao cap m low made sl w) (ho : Only S' w w') (hS : ∀ k, S k → ¬ S' k) : Core S B b lim d st ao cap m low made sl w' := by
  obtain ⟨D, h1, h2⟩ := h.map
  have hb := h.own b (.inl rfl)
  have hm := h.own m (.inr (.inl rfl))
  refine ⟨?_, h.row.only ho (fun g hg => hS _ (h.own _ (.inr (.inr ⟨g, hg, rfl⟩)))), ⟨D, map_only h1 ho (hS m hm), h2⟩, h.apart, h.names, h.few, h.own, fun k hk => ⟨(h.lt k hk).1, Nat.lt_of_lt_of_le (h.lt k hk).2 ho.size⟩, h.bm, h.other⟩
  rw [ho.block b (h.lt b hb).2 (hS b hb)]
  exact h.blk

/-- The three cells of a slot are stored. -/
abbrev storedS (w : World) (g j : Nat) (y : ASlot) : World := ((w.setCell ⟨g, j * 3, none⟩ (.string y.name)).setCell ⟨g, j * 3 + 1, none⟩ (.bool y.used)).setCell ⟨g, j * 3 + 2, none⟩ (.bool y.mark)
theorem slot_stored {B g cap : Nat} {sl : List ASlot} {w : World} (h : SlotsP B (some ⟨g, 0, none⟩) cap sl w) {j : Nat} (hj : j < sl.length) (y : ASlot) : SlotsP B (some ⟨g, 0, none⟩) cap (sl.set j y) (storedS w g j y) ∧ Only (· = g) w (storedS w g j y) := by
  obtain ⟨x, hx⟩ : ∃ x, sl[j]? = some x := ⟨_, List.getElem?_eq_getElem hj⟩
  obtain ⟨r1, o1⟩ := h.stored liesS j 0 x ⟨y.name, x.used, x.mark⟩ (.string y.name) hx (by omega) rfl
  have h1 : (sl.set j ⟨y.name, x.used, x.mark⟩)[j]? = some ⟨y.name, x.used, x.mark⟩ := by rw [get_set _ hj, if_pos rfl]
  obtain ⟨r2, o2⟩ := r1.stored liesS j 1 _ ⟨y.name, y.used, x.mark⟩ (.bool y.used) h1 (by omega) rfl
  have h2 : ((sl.set j ⟨y.name, x.used, x.mark⟩).set j ⟨y.name, y.used, x.mark⟩)[j]? = some ⟨y.name, y.used, x.mark⟩ := by rw [get_set _ (by rw [List.length_set]; exact hj), if_pos rfl]
  obtain ⟨r3, o3⟩ := r2.stored liesS j 2 _ y (.bool y.mark) h2 (by omega) rfl
  simp only [List.set_set] at r3
  exact ⟨r3, (o1.same o2).same o3⟩

section
variable {S : Nat → Prop} {B b : Nat} {lim d st : Int} {ao : Option Addr} {cap m : Nat} {low made : Int} {sl : List ASlot} {w : World}

theorem Core.done {sl' : List ASlot} {ao' : Option Addr} {cap' : Nat} {w3 w4 : World} {S' : Nat → Prop} {n : Nat} {D' : D1} (h : Core S B b lim d st ao cap m low made sl w)
    (hb3 : w3.heap[b]? = some (.cells #[.int .i64 lim, .int .u32 d, .int .i32 st, .int .u32 0, .slice ao' sl'.length cap', .map (some m), .int .i64 low, .int .i64 made] 72 (0, 0)))
    (hr3 : SlotsP B ao' cap' sl' w3) (hm4 : MapP m n D' w4) (hM : MapOf D' sl') (ht : Only (· = m) w3 w4) (hA : Apart sl') (hN : ∀ (j : Nat) (x : ASlot), sl'[j]? = some x → x.name.size ≤ 64) (hF : sl'.length ≤ 16384)
    (hS : ∀ k, S k → S' k) (hS2 : ∀ k, RowAt ao' k → S' k) (hlt : ∀ k, S' k → B ≤ k ∧ k < w4.heap.size) (hoth : ∀ g, ao' = some g → g.block ≠ b ∧ g.block ≠ m) : Core S' B b lim d st ao' cap' m low made sl' w4 := by
  refine ⟨?_, hr3.only ht (fun g hg => (hoth g hg).2), ⟨D', ?_, hM⟩, hA, hN, hF, ?_, hlt, h.bm, hoth⟩
  · rw [ht.block b (lt_of_block hb3) h.bm]
    exact hb3
  · rw [← hM.size]
    exact tight hm4
  · rintro k (rfl | rfl | hk)
    · exact hS _ (h.own _ (.inl rfl))
    · exact hS _ (h.own _ (.inr (.inl rfl)))
    · exact hS2 k hk

/-- A table whose map and slots are there, wherever they lie. -/
def Tbl (S : Nat → Prop) (B b : Nat) (lim d st low made : Int) (sl : List ASlot) (w : World) : Prop := ∃ ao cap m, Core S B b lim d st ao cap m low made sl w
theorem Core.wider {S' : Nat → Prop} (h : Core S B b lim d st ao cap m low made sl w) (hS : ∀ k, S k → S' k) (hlt : ∀ k, S' k → B ≤ k ∧ k < w.heap.size) : Core S' B b lim d st ao cap m low made sl w :=
  ⟨h.blk, h.row, h.map, h.apart, h.names, h.few, fun k hk => hS k (h.own k hk), hlt, h.bm, h.other⟩
theorem Core.low_le (h : Core S B b lim d st ao cap m low made sl w) : B ≤ b ∧ b < w.heap.size := h.lt b (h.own b (.inl rfl))
theorem Core.grew {w0 : World} (h0 : B ≤ w0.heap.size) (h : Core S B b lim d st ao cap m low made sl w) (ho : Only S w0 w) : Core (Grew S w0 w) B b lim d st ao cap m low made sl w :=
  h.wider (fun _ e => .inl e) (fun k hk => by rcases hk with hk | hk; exact h.lt k hk; omega)
theorem Tbl.only {S' : Nat → Prop} {w' : World} (h : Tbl S B b lim d st low made sl w) (ho : Only S' w w') (hS : ∀ k, S k → ¬ S' k) : Tbl S B b lim d st low made sl w' := by
  obtain ⟨ao, cap, m, h⟩ := h
  exact ⟨ao, cap, m, h.only ho hS⟩

set_option maxHeartbeats 800000 in
theorem put_at (n : ByteArray) (j : Nat) (x : ASlot) (h : Core S B b lim d st ao cap m low made sl w)
    (hj : sl[j]? = some x) (hx : x.used = false) (hn : noId sl n) (hz : n.size ≤ 64) :
    Calls Tryd.prog 47 #[.pointer (some ⟨b, 0, none⟩), .int .i64 j, .string n] w fun e w' => e = .returned (.tuple #[]) ∧
      Tbl (Grew S w w') B b lim d st low made (sl.set j ⟨n, true, false⟩) w' ∧ Only S w w' := by
  have hjl := (List.getElem?_eq_some_iff.1 hj).1
  have hfew := h.few
  have hbw := h.low_le
  obtain ⟨g, rfl, hg, hc⟩ := h.row.at liesS j x hj
  have hcap := h.row.cap_ge
  have k0 := (hc 0 (by omega)).1
  have k1 := (hc 1 (by omega)).1
  have k2 := (hc 2 (by omega)).1
  have f0 := (hc 0 (by omega)).2
  have f1 := (hc 1 (by omega)).2
  have f2 := (hc 2 (by omega)).2
  simp only [encS, List.getElem?_cons_zero, List.getElem?_cons_succ, Nat.add_zero] at k0 k1 k2 f0 f1 f2
  have c4 := cell_of_blk h.blk 4
  have c5 := cell_of_blk h.blk 5
  simp at c4 c5
  have he : ((j : Int) == (sl.length : Int)) = false := by simp; omega
  have hgb : ¬ g = b := (h.other _ rfl).1
  have hgm : g ≠ m := (h.other _ rfl).2
  obtain ⟨D, hD, hM⟩ := h.map
  obtain ⟨hr3, ho3⟩ := slot_stored h.row hjl ⟨n, true, false⟩
  have hb3 := h.blk
  rw [← ho3.block b (h.lt b (h.own b (.inl rfl))).2 (fun e => hgb e.symm), show sl.length = (sl.set j ⟨n, true, false⟩).length from (by simp)] at hb3
  have HD := Lib.hid (map_only hD ho3 (fun e => hgm e.symm))
  have HU := Lib.hid (used_le sl)
  have hF := fun (w4 : World) (h4 : MapP m (used sl + 1) (D.put (keyN n) (idD j)) w4) (t4 : (storedS w g j ⟨n, true, false⟩).mapTurned w4 m) =>
    (show Tbl (Grew S w w4) B b lim d st low made (sl.set j ⟨n, true, false⟩) w4 ∧ Only S w w4 from by
      suffices hh : Core S B b lim d st (some ⟨g, 0, none⟩) cap m low made (sl.set j ⟨n, true, false⟩) w4 ∧ Only S w w4 from ⟨⟨_, _, _, hh.1.grew (by omega) hh.2⟩, hh.2⟩
      have ht := Only.turned t4
      have hs := ho3.size
      have hs4 := ht.size
      have hA : Apart (sl.set j ⟨n, true, false⟩) := h.apart.put hjl hn
      refine ⟨h.done hb3 hr3 h4 (hM.put hn (prs_put hj hx rfl)) ht hA ?_ (by rw [List.length_set]; exact hfew) (fun _ e => e) (fun k hk => h.own k (.inr (.inr hk))) (fun k hk => ⟨(h.lt k hk).1, by have := (h.lt k hk).2; omega⟩) h.other, ?_⟩
      · intro i y hy
        rw [get_set _ hjl] at hy
        split at hy
        · cases hy; exact hz
        · exact h.names i y hy
      · exact (ho3.mono (fun k _ e => by subst e; exact h.own k (.inr (.inr ⟨_, rfl, rfl⟩)))).same (ht.mono (fun k _ e => by subst e; exact h.own k (.inr (.inl rfl)))))
  have HF := Lib.hid hF
  have hkey := keyOfN hz
  have hwf := wfId (show j ≤ 16384 by omega)
  have HW := Lib.hid hwf
  clear h hM hD hc hj hn hr3 ho3 hb3 hF hwf
  go_enter Tryd.func47, Tryd.ntmps47
  go_wp2_with (first
    | (at_mapUpdate; refine wpList_mapUpdate_in _ rfl _ _ _ 67 rfl 9 3 keyed Tryd.underlying67 _ m (used sl) D rfl HD.out (by have := HU.out; unfold maxLen; omega) _ _ _ rfl rfl hkey _ [] (plainElem_int Tryd.underlying3 HW.out) ?_; intro w4 hown4 hturn4)
    | go_in)
  go_end0
  exact ⟨rfl, HF.out _ hown4 hturn4⟩

theorem blk_field {w : World} {b : Nat} {cs : Array Value} {t : TypeId} {S : Nat → Prop} {w2 : World} (h : w.heap[b]? = some (.cells cs t (0, 0))) (ho : Only S w w2) (hb : ¬ S b) : w2.heap[b]? = some (.cells cs t (0, 0)) := by
  rw [ho.block b (lt_of_block h) hb]
  exact h

/-- What is known behind the append of a free slot. -/
structure Appended (S : Nat → Prop) (B b g : Nat) (lim d st : Int) (ao : Option Addr) (cap m : Nat) (low made : Int) (sl : List ASlot) (w w2 : World) : Prop where
  row : SlotsP B (some ⟨g, 0, none⟩) cap (sl ++ [freeSlot]) w2
  only : Only (RowAt ao) w w2
  new : NewRow w.heap.size ao (some ⟨g, 0, none⟩)
theorem Appended.facts {g : Nat} {w2 : World} {cap0 : Nat} (h : Core S B b lim d st ao cap0 m low made sl w) (hA : Appended S B b g lim d st ao cap m low made sl w w2) :
    w2.heap[b]? = some (.cells #[.int .i64 lim, .int .u32 d, .int .i32 st, .int .u32 0, .slice ao sl.length cap0, .map (some m), .int .i64 low, .int .i64 made] 72 (0, 0)) ∧ g ≠ b ∧ g ≠ m ∧ (S g ∨ w.heap.size ≤ g) ∧ g < w2.heap.size ∧ B ≤ g := by
  have hh := hA.row.head _ rfl
  have hb := h.lt b (h.own b (.inl rfl))
  have hm := h.lt m (h.own m (.inr (.inl rfl)))
  refine ⟨blk_field h.blk hA.only (by rintro ⟨g', hg', e⟩; exact (h.other g' hg').1 e.symm), ?_, ?_, ?_, hh.2.2, hh.2.1⟩
  · rcases hA.new _ rfl with h1 | h1
    · exact (h.other _ h1).1
    · intro e; subst e; have : w.heap.size ≤ g := h1; omega
  · rcases hA.new _ rfl with h1 | h1
    · exact (h.other _ h1).2
    · intro e; subst e; have : w.heap.size ≤ g := h1; omega
  · rcases hA.new _ rfl with h1 | h1
    · exact .inl (h.own _ (.inr (.inr ⟨_, h1, rfl⟩)))
    · exact .inr h1
/-- The world behind the append, with the field turned. -/
abbrev fieldS (w2 : World) (b g cap n : Nat) : World := w2.setCell ⟨b, 4, none⟩ (.slice (some ⟨g, 0, none⟩) n cap)
theorem Appended.map {g : Nat} {w2 : World} {cap0 n : Nat} {y : ASlot} {D : D1} {u : Nat} (h : Core S B b lim d st ao cap0 m low made sl w) (hA : Appended S B b g lim d st ao cap m low made sl w w2) (hD : MapP m u D w) : MapP m u D (storedS (fieldS w2 b g cap n) g sl.length y) := by
  obtain ⟨hb2, hgb, hgm, hgS, hgl, hgB⟩ := hA.facts h
  have h1 := map_only hD hA.only (by rintro ⟨g', hg', e⟩; exact (h.other g' hg').2 e.symm)
  have h2 := h1.setCell (a := ⟨b, 4, none⟩) (fun e => h.bm e.symm) (.slice (some ⟨g, 0, none⟩) n cap)
  exact ((h2.setCell (a := ⟨g, sl.length * 3, none⟩) (fun e => hgm e.symm) _).setCell (a := ⟨g, sl.length * 3 + 1, none⟩) (fun e => hgm e.symm) _).setCell (a := ⟨g, sl.length * 3 + 2, none⟩) (fun e => hgm e.symm) _
theorem Appended.done {g : Nat} {w2 w4 : World} {cap0 : Nat} {n : ByteArray} {D : D1} (h : Core S B b lim d st ao cap0 m low made sl w) (hA : Appended S B b g lim d st ao cap m low made sl w w2) (hn : noId sl n) (hz : n.size ≤ 64) (hl : sl.length < 16384)
    (hM : MapOf D sl) (h4 : MapP m (used sl + 1) (D.put (keyN n) (idD sl.length)) w4) (t4 : (storedS (fieldS w2 b g cap (sl.length + 1)) g sl.length ⟨n, true, false⟩).mapTurned w4 m) :
    Tbl (Grew S w w4) B b lim d st low made (sl ++ [⟨n, true, false⟩]) w4 ∧ Only S w w4 := by
  obtain ⟨hb2, hgb, hgm, hgS, hgl, hgB⟩ := hA.facts h
  have hlen : (sl ++ [(⟨n, true, false⟩ : ASlot)]).length = sl.length + 1 := by simp
  have hset : (sl ++ [freeSlot]).set sl.length ⟨n, true, false⟩ = sl ++ [⟨n, true, false⟩] := by rw [List.set_append_right _ _ (Nat.le_refl _)]; simp
  have of : Only (· = b) w2 (fieldS w2 b g cap (sl.length + 1)) := Only.setCell (S := (· = b)) w2 (p := ⟨b, 4, none⟩) rfl _
  have hrf := hA.row.only of (fun g' hg' => by cases hg'; exact hgb)
  obtain ⟨hr3, ho3⟩ := slot_stored hrf (j := sl.length) (by simp) ⟨n, true, false⟩
  rw [hset] at hr3
  have hb3 := blk_field (blk_set hb2 4 (.slice (some ⟨g, 0, none⟩) (sl.length + 1) cap)) ho3 (fun e => hgb e.symm)
  have ht := Only.turned t4
  have hs2 := hA.only.size
  have hs3 := ho3.size
  have hsf := of.size
  have hs4 := ht.size
  have hlt := h.lt
  have hgrow : ∀ k, Grew S w w4 k → B ≤ k ∧ k < w4.heap.size := by
    rintro k (hk | hk)
    · have := hlt k hk; omega
    · have := hlt b (h.own b (.inl rfl)); omega
  refine ⟨⟨some ⟨g, 0, none⟩, cap, m, h.done (sl' := sl ++ [⟨n, true, false⟩]) (by simpa [hlen] using hb3) hr3 h4 (hM.put hn (prs_new rfl)) ht (h.apart.new hn) ?_ (by simp; omega) (fun k hk => .inl hk) ?_ hgrow (fun g' hg' => by cases hg'; exact ⟨hgb, hgm⟩)⟩, ?_⟩
  · intro i y hy
    rw [List.getElem?_append] at hy
    split at hy
    · exact h.names i y hy
    · rcases hi : i - sl.length with _ | q
      · rw [hi] at hy; simp at hy; subst hy; exact hz
      · rw [hi] at hy; simp at hy
  · rintro k ⟨g', hg', rfl⟩
    cases hg'
    rcases hgS with hgS | hgS
    · exact .inl hgS
    · exact .inr ⟨hgS, by show g < w4.heap.size; omega⟩
  · have o1 : Only S w w2 := hA.only.mono (fun k _ e => h.own k (.inr (.inr e)))
    refine ((o1.trans of (fun k _ e => by subst e; exact h.own _ (.inl rfl))).trans ho3 ?_).trans ht (fun k _ e => by subst e; exact h.own _ (.inr (.inl rfl)))
    intro k hk e
    subst e
    rcases hgS with hgS | hgS
    · exact hgS
    · omega

set_option maxHeartbeats 1600000 in
set_option maxRecDepth 100000 in
theorem put_new (n : ByteArray) (h : Core S B b lim d st ao cap m low made sl w) (hn : noId sl n) (hz : n.size ≤ 64) (hl : sl.length < 16384) :
    Calls Tryd.prog 47 #[.pointer (some ⟨b, 0, none⟩), .int .i64 sl.length, .string n] w fun e w' => e = .returned (.tuple #[]) ∧
      Tbl (Grew S w w') B b lim d st low made (sl ++ [⟨n, true, false⟩]) w' ∧ Only S w w' := by
  obtain ⟨i0, hi, hz0, hz1, hz2⟩ := info_parts infoS
  have hfew := h.few
  have c4 := cell_of_blk h.blk 4
  have f4 := free_of_blk h.blk 4
  simp at c4
  obtain ⟨D, hD, hM⟩ := h.map
  have HD := Lib.hid hD
  have HM := Lib.hid hM
  have HU := Lib.hid (used_le sl)
  have hkey := keyOfN hz
  have HW := Lib.hid (wfId (show sl.length ≤ 16384 by omega))
  have H := Lib.hid h
  have hbw : B ≤ w.heap.size := by have := h.lt b (h.own b (.inl rfl)); omega
  have hN := hn
  have HN := Lib.hid hN
  clear h hD hM hn hN
  go_enter Tryd.func47, Tryd.ntmps47
  go_wp2_with (first
    | (at_builtin; refine wp_append_one liesS rfl (.tmp 17) (.tmp 19) 66 rfl B 95 i0 _ 24 Tryd.underlying66 hi hz0 hz1 hz2 rfl (by omega) w ao cap sl freeSlot [.string ⟨#[]⟩, .bool false, .bool false] rfl rfl H.out.row rfl (by omega) hbw ?_; intro ao' cap' w2 hrow2 ho2 hnew2
       obtain ⟨g, rfl, hg, hc⟩ := hrow2.at liesS sl.length freeSlot (by simp)
       have hA : Appended S B b g lim d st ao cap' m low made sl w w2 := ⟨hrow2, ho2, hnew2⟩
       have k0 := (hc 0 (by omega)).1; have k1 := (hc 1 (by omega)).1; have k2 := (hc 2 (by omega)).1
       have f0 := (hc 0 (by omega)).2; have f1 := (hc 1 (by omega)).2; have f2 := (hc 2 (by omega)).2
       simp only [encS, freeSlot, List.getElem?_cons_zero, List.getElem?_cons_succ, Nat.add_zero] at k0 k1 k2 f0 f1 f2
       have hcap := hrow2.cap_ge
       simp only [List.length_append, List.length_cons, List.length_nil] at hcap
       have hF := hA.facts H.out
       have HA := Lib.hid hA
       have hgb : ¬ g = b := hF.2.1
       have HGM := Lib.hid hF.2.2.1
       have c4 := cell_of_blk hF.1 4; have f4 := free_of_blk hF.1 4; have c5 := cell_of_blk hF.1 5
       simp at c4 c5
       have HDM := Lib.hid (hA.map (n := sl.length + 1) (y := ⟨n, true, false⟩) H.out HD.out)
       have hcap1 : sl.length + 1 ≤ cap' := by omega
       have hcap2 : cap' ≤ 9223372036854775807 := by have := hcap.2; unfold maxLen at this; omega
       clear hrow2 ho2 hnew2 hc hF hA hcap)
    | (at_mapUpdate; refine wpList_mapUpdate_in _ rfl _ _ _ 67 rfl 9 3 keyed Tryd.underlying67 _ m (used sl) D rfl HDM.out (by have := HU.out; unfold maxLen; omega) _ _ _ rfl rfl hkey _ [] (plainElem_int Tryd.underlying3 HW.out) ?_; intro w4 hown4 hturn4)
    | go_in)
  go_end0
  exact ⟨rfl, HA.out.done H.out HN.out hz hl HM.out hown4 hturn4⟩

/-- The slots, when the name was put into slot j. -/
def putS (sl : List ASlot) (j : Nat) (n : ByteArray) : List ASlot := if j < sl.length then sl.set j ⟨n, true, false⟩ else sl ++ [⟨n, true, false⟩]
/-- Slot j is free, or a new one behind all. -/
def Open (sl : List ASlot) (j : Nat) : Prop := (j = sl.length ∧ sl.length < 16384) ∨ ∃ x, sl[j]? = some x ∧ x.used = false
theorem put_any (n : ByteArray) (j : Nat) (h : Tbl S B b lim d st low made sl w) (hj : Open sl j) (hn : noId sl n) (hz : n.size ≤ 64) :
    Calls Tryd.prog 47 #[.pointer (some ⟨b, 0, none⟩), .int .i64 j, .string n] w fun e w' => e = .returned (.tuple #[]) ∧
      Tbl (Grew S w w') B b lim d st low made (putS sl j n) w' ∧ Only S w w' := by
  obtain ⟨ao, cap, m, h⟩ := h
  rcases hj with ⟨rfl, hl⟩ | ⟨x, hx, hu⟩
  · have e : putS sl sl.length n = sl ++ [⟨n, true, false⟩] := by simp [putS]
    rw [e]
    exact put_new n h hn hz hl
  · have hjl := (List.getElem?_eq_some_iff.1 hx).1
    have e : putS sl j n = sl.set j ⟨n, true, false⟩ := by simp [putS, hjl]
    rw [e]
    exact put_at n j x h hx hu hn hz
end
end Go.Proofs.YtoppfhbpmmepaaaDoor.atoms
