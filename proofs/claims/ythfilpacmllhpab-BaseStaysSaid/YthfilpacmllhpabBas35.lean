/- Clauses by generations: the predicates told, sorted. -/
import Derived.Test.YthfilpacmllhpabBas34
import Derived.Shelf.SlSortCmp.NoneTotal
namespace Go.Proofs.Ythfilpacmllhpab.bases
set_option maxRecDepth 100000
open Go.RowKit Go.Proofs.Ythfilpacmllhpab.own Go.Maps Go.Sort Go.Shelf
abbrev pdC (x : Pd) : Obj := .cells #[.string x.nm.s, .int .i64 x.nm.a, .int .i64 x.lv] 50
def PdAt (b : Nat) (x : Pd) (w : World) : Prop := w.heap[b]? = some (.cells #[.string x.nm.s, .int .i64 x.nm.a, .int .i64 x.lv] 50 (0, 0))
theorem PdAt.new (x : Pd) (w : World) : PdAt w.heap.size x (w.alloc (pdC x)) := heap_alloc_new w _
theorem PdAt.later {b : Nat} {x : Pd} {w w' : World} (h : PdAt b x w) (o : Only (fun _ => False) w w') : PdAt b x w' := by
  unfold PdAt at *
  rw [o.block b (lt_of_block h) (fun e => e)]
  exact h
theorem PdAt.cells {b : Nat} {x : Pd} {w : World} (h : PdAt b x w) : w.cell? ⟨b, 0, none⟩ = some (.string x.nm.s) ∧ w.cell? ⟨b, 1, none⟩ = some (.int .i64 x.nm.a) := by
  refine ⟨?_, ?_⟩ <;> (rw [cell_of_blk h]; rfl)
set_option maxRecDepth 100000 in
set_option maxHeartbeats 4000000 in
theorem preds1_any (x y : Pd) (w : World) : Calls Try.prog 43 #[.agg #[.string x.nm.s, .int .i64 x.nm.a, .int .i64 x.lv], .agg #[.string y.nm.s, .int .i64 y.nm.a, .int .i64 y.lv]] w fun e w' => e = .returned (.int .i64 (cfP x y)) ∧ ∃ q os', w' = grow (w.drewN q) os' := by
  have ho : Only (fun _ => False) w ((w.alloc (pdC x)).alloc (pdC y)) := (Only.alloc _ _ _).same (Only.alloc _ _ _)
  have hx : PdAt w.heap.size x ((w.alloc (pdC x)).alloc (pdC y)) := (PdAt.new x w).later (Only.alloc _ _ _)
  have hy : PdAt (w.heap.size + 1) y ((w.alloc (pdC x)).alloc (pdC y)) := by
    have := PdAt.new y (w.alloc (pdC x))
    rwa [show (w.alloc (pdC x)).heap.size = w.heap.size + 1 by simp] at this
  have HE : Hid (cfP x y = orF (Lib.compareBytes x.nm.s.data.toList y.nm.s.data.toList) (Lib.compareInt x.nm.a y.nm.a)) := Lib.hid rfl
  have HC1 : Hid (∀ W, Calls Try.prog 45 #[.string x.nm.s, .string y.nm.s] W fun e w' => e = .returned (.int .i64 (Lib.compareBytes x.nm.s.data.toList y.nm.s.data.toList)) ∧ w' = W) := Lib.hid (fun W => cmps_any _ _ W)
  have HC2 : Hid (∀ W, Calls Try.prog 46 #[.int .i64 x.nm.a, .int .i64 y.nm.a] W fun e w' => e = .returned (.int .i64 (Lib.compareInt x.nm.a y.nm.a)) ∧ w' = W) := Lib.hid (fun W => Try.cmp_Compare_int _ _ W)
  have HW : Hid (∃ bs, ((w.alloc (pdC x)).alloc (pdC y)) = grow w bs) := Lib.hid ⟨_, by rw [alloc_eq_grow, alloc_eq_grow, grow_grow]⟩
  have hz : ((w.alloc (pdC x)).alloc (pdC y)).heap.size = w.heap.size + 2 := by simp
  generalize Lib.compareBytes x.nm.s.data.toList y.nm.s.data.toList = c1 at *
  generalize Lib.compareInt x.nm.a y.nm.a = c2 at *
  go_enter Try.func43, Try.ntmps43
  go_wp2_with fail
  generalize ((w.alloc (pdC x)).alloc (pdC y)) = W2 at *
  have HK : Hid (∀ w', Only (fun _ => False) W2 w' → w'.cell? ⟨w.heap.size, 0, none⟩ = some (.string x.nm.s) ∧ w'.cell? ⟨w.heap.size + 1, 0, none⟩ = some (.string y.nm.s) ∧ w'.cell? ⟨w.heap.size, 1, none⟩ = some (.int .i64 x.nm.a) ∧ w'.cell? ⟨w.heap.size + 1, 1, none⟩ = some (.int .i64 y.nm.a)) := Lib.hid (fun w' h => ⟨(hx.later h).cells.1, (hy.later h).cells.1, (hx.later h).cells.2, (hy.later h).cells.2⟩)
  have HN : Hid ((W2.alloc (.cells #[.int .i64 c1, .int .i64 c2] 3)).heap[W2.heap.size]? = some (.cells #[.int .i64 c1, .int .i64 c2] 3 (0, 0))) := Lib.hid (heap_alloc_new _ _)
  clear hx hy hz
  go_region_held3 (fun w' => w'.cell? ⟨w.heap.size, 0, none⟩ = some (.string x.nm.s) ∧ w'.cell? ⟨w.heap.size + 1, 0, none⟩ = some (.string y.nm.s) ∧ w'.cell? ⟨w.heap.size, 1, none⟩ = some (.int .i64 x.nm.a) ∧ w'.cell? ⟨w.heap.size + 1, 1, none⟩ = some (.int .i64 y.nm.a)) (first | exact HK.out _ (Only.drew _ _) | exact HK.out _ ((Only.drew _ _).same (Only.alloc _ _ _)) | go_keep) (first
    | (go_at_call 45; refine (HC1.out _).mono ?_; rintro e wx ⟨rfl, rfl⟩)
    | (go_at_call 46; refine (HC2.out _).mono ?_; rintro e wx ⟨rfl, rfl⟩)
    | (go_at_call 44; refine (or_any c1 c2 W2.heap.size _ (by exact HN.out)).mono ?_; rintro e wx ⟨rfl, rfl⟩))
  obtain ⟨bs, hbs⟩ := HW.out
  have hfin : (W2.alloc (.cells #[.int .i64 c1, .int .i64 c2] 3)).drew = grow (w.drewN 1) (bs ++ #[.cells #[.int .i64 c1, .int .i64 c2] 3]) := by
    rw [alloc_eq_grow, hbs, grow_grow]
    rfl
  have HF := Lib.hid hfin
  clear hfin hbs HW HN HK ho
  go_wp2_with fail
  go_ret
  exact ⟨by rw [HE.out]; rfl, 1, _, HF.out⟩
theorem cmpLays (blk off size : Nat) (w : World) : CmpLays Try.prog 43 #[] encPd 3 cfP blk off size w := fun m os dk _ x y => preds1_any x y _
theorem holdsPd {B g cap : Nat} {d : Array Pd} {W : World} (h : RowOf encPd 3 50 B (some ⟨g, 0, none⟩) cap d.toList W) : HoldsK encPd 3 W g 0 d := by
  intro t ht
  rw [size_flatK] at ht
  have hi : t / 3 < d.size := by omega
  have hx : d.toList[t / 3]? = some d[t / 3]! := by
    rw [Array.getElem?_toList, getElem!_pos d (t / 3) hi]
    exact Array.getElem?_eq_getElem hi
  obtain ⟨g', e, _, hc⟩ := h.at liesPd (t / 3) _ hx
  cases e
  obtain ⟨c1, c2⟩ := hc (t % 3) (Nat.mod_lt _ (by decide))
  have e1 : t / 3 * 3 + t % 3 = t := by omega
  rw [e1] at c1 c2
  rw [Nat.zero_add, get_flatK _ _ _ _ ht]
  refine ⟨?_, c2⟩
  rw [c1]
  have hm : t % 3 < 3 := Nat.mod_lt _ (by decide)
  generalize t % 3 = r at *
  generalize d[t / 3]! = x
  match r, hm with
  | 0, _ => rfl
  | 1, _ => rfl
  | 2, _ => rfl
theorem only_sorted (w : World) (blk n : Nat) (d : Array Pd) (os : Array Obj) : Only (fun q => q = blk) w (sortWorldK encPd 3 w blk 0 n d os) := by
  refine ⟨rfl, rfl, rfl, ?_, fun k hk hne => ?_⟩
  · unfold sortWorldK grow putRowK putRow mapBlock Sort.ahead
    simp
  · unfold sortWorldK grow putRowK putRow mapBlock Sort.ahead
    simp only
    rw [Array.getElem?_append_left (by simpa using hk), Array.getElem?_modify, if_neg (fun e => hne e.symm)]
/-- A sorted row is a row. -/
theorem row_sorted {base g cap : Nat} {d d' : Array Pd} {n : Nat} {os : Array Obj} {w : World} (h : RowOf encPd 3 50 base (some ⟨g, 0, none⟩) cap d.toList w) (hs : d'.size = d.size) (hh : HoldsK encPd 3 (sortWorldK encPd 3 w g 0 n d' os) g 0 d') : RowOf encPd 3 50 base (some ⟨g, 0, none⟩) cap d'.toList (sortWorldK encPd 3 w g 0 n d' os) := by
  obtain ⟨h1, h2⟩ := h
  rcases h2 with ⟨hv, _⟩ | ⟨g', cap', cur, hv, hb, hbb, hnc, hmx, hcs, htk⟩
  · simp at hv
  · simp only [Value.slice.injEq, Option.some.injEq, Addr.mk.injEq, and_true] at hv
    obtain ⟨rfl, _, rfl⟩ := hv
    have hlt := lt_of_block hbb
    have hlen : d'.toList.length = d.toList.length := by simp [hs]
    obtain ⟨cur', hb', hc'⟩ : ∃ cur', (sortWorldK encPd 3 w g 0 n d' os).heap[g]? = some (.cells cur' 50 (0, 0)) ∧ cur'.size = cur.size := by
      refine ⟨putCells id 0 (flatK encPd 3 d') cur, ?_, by simp [putCells]⟩
      unfold sortWorldK grow putRowK putRow mapBlock Sort.ahead
      simp only
      rw [Array.getElem?_append_left (by simpa using hlt), Array.getElem?_modify, if_pos rfl, hbb]
      rfl
    have hfl : (d'.toList.flatMap encPd).length = d'.toList.length * 3 := by
      generalize d'.toList = l
      induction l with
      | nil => rfl
      | cons x r ih => rw [List.flatMap_cons, List.length_append, ih, List.length_cons]; show 3 + _ = _; omega
    refine ⟨hfl, .inr ⟨g, cap, cur', by rw [hlen], hb, hb', by rw [hlen]; exact hnc, hmx, by rw [hc', hcs], ?_⟩⟩
    refine List.ext_getElem? (fun t => ?_)
    by_cases ht : t < d'.toList.length * 3
    · have hsz : d'.toList.length = d'.size := by simp
      have hcell := (hh t (by rw [size_flatK, ← hsz]; exact ht)).1
      rw [Nat.zero_add, cell_of_blk hb', get_flatK _ _ _ _ (by rw [← hsz]; exact ht)] at hcell
      rw [List.getElem?_take, if_pos ht]
      have hq : t / 3 < d'.size := by omega
      have hx : d'.toList[t / 3]? = some d'[t / 3]! := by
        rw [Array.getElem?_toList, getElem!_pos d' (t / 3) hq]
        exact Array.getElem?_eq_getElem hq
      have hf := flat_get liesPd d'.toList (t / 3) (t % 3) _ hx (Nat.mod_lt _ (by decide))
      rw [show t / 3 * 3 + t % 3 = t by omega] at hf
      rw [Array.getElem?_toList, hcell, hf]
      have hm : t % 3 < 3 := Nat.mod_lt _ (by decide)
      generalize t % 3 = r at *
      generalize d'[t / 3]! = y
      match r, hm with
      | 0, _ => rfl
      | 1, _ => rfl
      | 2, _ => rfl
    · rw [List.getElem?_eq_none (by rw [List.length_take]; omega), List.getElem?_eq_none (by rw [hfl]; omega)]
theorem sort_pd {base : Nat} {ao : Option Addr} {cap : Nat} {xs : List Pd} {w : World} (h : RowOf encPd 3 50 base ao cap xs w) (hn : xs.length ≤ 1000000) :
    Calls Try.prog 42 #[.slice ao xs.length cap, .func (.func 43) #[] #[]] w fun e w' => e = .returned (.tuple #[]) ∧ ∃ ys, xs.Perm ys ∧ RowOf encPd 3 50 base ao cap ys w' ∧ Only (RowAt ao) w w' := by
  cases ao with
  | none =>
    have h0 : xs = [] := by
      cases xs with
      | nil => rfl
      | cons a l =>
        obtain ⟨g, e, _⟩ := h.at liesPd 0 a rfl
        cases e
    subst h0
    refine (AnyF.slices_SortFunc_none Try.laysSort none cap (.func (.func 43) #[] #[]) w).mono ?_
    rintro e w' ⟨rfl, rfl⟩
    exact ⟨rfl, [], List.Perm.refl _, h, Only.refl _ _⟩
  | some a =>
    obtain ⟨e1, hb, hlt⟩ := h.head a rfl
    obtain ⟨g, hg⟩ : ∃ g, a.block = g := ⟨_, rfl⟩
    rw [hg] at e1 hb hlt
    subst e1
    have hH : HoldsK encPd 3 w g 0 xs.toArray := holdsPd (B := base) (cap := cap) (by simpa using h)
    have hc := AnyQ.slices_SortFunc Try.laysSort 3 (fun w => Try.isAgg50 w) (fun w => Try.sizeOf50 w) encPd (fun _ => rfl) (fun x v hv => liesPd.one x v hv) cfP cfP_swo 43 #[] g 0 cap xs.toArray w (fun _ _ => rfl) (cmpLays g 0 _ w) hH hlt (by simp; omega)
    rw [show xs.toArray.size = xs.length from List.size_toArray] at hc
    refine Calls.mono hc ?_
    rintro e w' ⟨rfl, d', n, os, hp, hs, rfl⟩
    have hsz : d'.size = xs.length := hp.1.trans (List.size_toArray)
    have hh := SWK.holds (⟨n, os, rfl⟩ : SWK encPd 3 w g 0 d' _) hlt hH (by rw [hsz]; simp)
    refine ⟨rfl, d'.toList, ?_, row_sorted (d := xs.toArray) (by simpa using h) (by rw [hsz]; simp) hh, (only_sorted w g n d' os).mono (fun k _ e => ⟨_, rfl, e⟩)⟩
    have h3 := hp.2.2
    have q1 : (xs.toArray.extract 0 xs.length).toList = xs := by simp
    have q2 : (d'.extract 0 xs.length).toList = d'.toList := by rw [← hsz]; simp
    rw [q1, q2] at h3
    exact h3.symm
/-- The predicates told, however many there are. -/
theorem preds_all {b pm N : Nat} {sl : List Sl} {ps : List Pc} {lim gen low : Int} {so : Option Addr} {sc np : Nat} {Dp : D3} {w : World} (h : BI b pm N sl ps lim gen low so sc np Dp w) (hps : ps.length ≤ 1000) :
    Calls Try.prog 12 #[.pointer (some ⟨b, 0, none⟩)] w fun e w' => ∃ ao cap zs, e = .returned (.slice ao zs.length cap) ∧ (ps.map pdF).Perm zs ∧ RowPd (w.heap.size + 1) ao cap zs w' ∧ Only (fun _ => False) w w' :=
  preds_any h (by omega) (Lib.hid (fun ao cap ys W hp hr ho => sort_pd hr (by have := hp.length_eq; rw [List.length_map] at this; omega)))
end Go.Proofs.Ythfilpacmllhpab.bases
