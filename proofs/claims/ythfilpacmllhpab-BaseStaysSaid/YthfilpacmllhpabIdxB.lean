/- Selection by keys: a table in memory; what reads it, and what follows: 12 texts in one. -/
import Derived.Test.YthfilpacmllhpabIdxA
import Derived.StillTailTactics
import Derived.Laws.StructEq
import Derived.Test.YthfilpacmllhpabTermArgs
/- Selection by keys: a table in memory; what reads it. -/
namespace Go.Proofs.Ythfilpacmllhpab.idx
section
set_option maxRecDepth 100000
open Go.RowKit Go.Proofs.Ythfilpacmllhpab.own Go.Lib Go.Maps Go.WideMaps
def zK : Ky := ⟨0, ⟨#[]⟩, 0⟩
/-- Places that rise, between two numbers. -/
structure Between (L : List En) (lo hi : Int) : Prop where
  rises : Rises L
  low : ∀ x ∈ L, lo < x.pl
  high : ∀ x ∈ L, x.pl < hi
structure TabI (b mr mi : Nat) (N : Nat) (L : List En) (lo hi : Int) (ks : Ks) (ao : Option Addr) (cap nr ni : Nat) (Dr : D2) (Di : D1) (W : World) : Prop where
  box : W.heap[b]? = some (.cells #[.slice ao L.length cap, .map (some mr), .map (some mi), .int .i64 lo, .int .i64 hi] 119 (0, 0))
  row : RowE ao cap L W
  idm : W.ownsMap Try.prog 3 enR mi ni Di
  idl : IdMap Di L
  rkm : W.ownsMap Try.prog 37 hdR mr nr Dr
  rkl : RkMap Dr ks
  ksok : KsOk ks
  rows : ∀ p ∈ ks, RowE p.2.1 p.2.2.2 (cls p.1 L) W ∧ p.2.2.1 = (cls p.1 L).length
  cover : ∀ e ∈ L, ∃ h, (e.key, h) ∈ ks
  ap1 : ∀ p ∈ ks, ∀ g g', ao = some g → p.2.1 = some g' → g.block ≠ g'.block
  ap2 : ks.Pairwise (fun p q => ∀ g g', p.2.1 = some g → q.2.1 = some g' → g.block ≠ g'.block)
  apm : mr ≠ mi
  pl : Between L lo hi
  alone : Alone L
  keys : ∀ e ∈ L, e.key.Ok ∧ Fit e.id ∧ (e.key.k = 0 → e.key = zK)
  few : L.length ≤ 4096
  nums : nr ≤ N ∧ ni ≤ N ∧ -(1 + (N : Int)) ≤ lo ∧ lo ≤ -1 ∧ 0 ≤ hi ∧ hi ≤ N ∧ N ≤ 1000000
/-- A table of entries, at a place, made by so many calls. -/
def Tab (b N : Nat) (L : List En) (lo hi : Int) (W : World) : Prop := ∃ mr mi ks ao cap nr ni Dr Di, TabI b mr mi N L lo hi ks ao cap nr ni Dr Di W
theorem ownsMap_only {H : Type} {k : TypeId} {R : Value → Option (DataW H × List MemPlace)} {m n : Nat} {D : DataW H} {S : Nat → Prop} {w w' : World} (h : w.ownsMap Try.prog k R m n D) (ho : Only S w w') (hS : ¬ S m) : w'.ownsMap Try.prog k R m n D := by
  obtain ⟨es, clock, hb, r⟩ := h
  exact ⟨es, clock, by rw [ho.block m (lt_of_block hb) hS]; exact hb, r⟩
section
variable {b mr mi N : Nat} {L : List En} {lo hi : Int} {ks : Ks} {ao : Option Addr} {cap nr ni : Nat} {Dr : D2} {Di : D1} {W W' : World}
theorem TabI.later (h : TabI b mr mi N L lo hi ks ao cap nr ni Dr Di W) (o : Only (fun _ => False) W W') : TabI b mr mi N L lo hi ks ao cap nr ni Dr Di W' :=
  ⟨by rw [o.block b (lt_of_block h.box) (fun e => e)]; exact h.box, h.row.later o, ownsMap_only h.idm o (fun e => e), h.idl, ownsMap_only h.rkm o (fun e => e), h.rkl, h.ksok, fun p hp => ⟨(h.rows p hp).1.later o, (h.rows p hp).2⟩, h.cover, h.ap1, h.ap2, h.apm, h.pl, h.alone, h.keys, h.few, h.nums⟩
theorem TabI.cells (h : TabI b mr mi N L lo hi ks ao cap nr ni Dr Di W) : W.cell? ⟨b, 0, none⟩ = some (.slice ao L.length cap) ∧ W.cell? ⟨b, 1, none⟩ = some (.map (some mr)) ∧ W.cell? ⟨b, 2, none⟩ = some (.map (some mi)) ∧ W.cell? ⟨b, 3, none⟩ = some (.int .i64 lo) ∧ W.cell? ⟨b, 4, none⟩ = some (.int .i64 hi) := by
  refine ⟨?_, ?_, ?_, ?_, ?_⟩ <;> (rw [cell_of_blk h.box]; rfl)
theorem TabI.free (h : TabI b mr mi N L lo hi ks ao cap nr ni Dr Di W) : W.frozen? ⟨b, 0, none⟩ = false ∧ W.frozen? ⟨b, 3, none⟩ = false ∧ W.frozen? ⟨b, 4, none⟩ = false := ⟨free_of_blk h.box 0, free_of_blk h.box 3, free_of_blk h.box 4⟩
theorem zeroE (w : World) : (zeroValue 122).run Try.prog w = .ok (enV zE) w := by
  obtain ⟨i0, hi0, hz0, _⟩ := info_parts infoE
  simp [zeroValue, typeInfo, hi0, hz0, zE]
theorem zeroR (w : World) : (zeroValue 115).run Try.prog w = .ok (.slice none 0 0) w := by
  have h : (Try.prog.info? 115).map (fun i => (i.zero, i.size, i.bytes)) = some (some (.slice none 0 0), 1, 24) := by kernel_rfl
  obtain ⟨i0, hi0, hz0, _⟩ := info_parts h
  simp [zeroValue, typeInfo, hi0, hz0]
/-- The entry of a number. -/
def idF (i : Int) (L : List En) : Option En := L.find? (fun e => e.id == i)
theorem idF_some {i : Int} {L : List En} {e : En} (h : idF i L = some e) : e ∈ L ∧ e.id = i := ⟨List.mem_of_find?_eq_some h, by have := List.find?_some h; simpa using this⟩
theorem idF_none {i : Int} {L : List En} (h : idF i L = none) : ∀ e ∈ L, e.id ≠ i := fun e he hi => by
  have := List.find?_eq_none.1 h e he
  simp [hi] at this
theorem TabI.look_id (h : TabI b mr mi N L lo hi ks ao cap nr ni Dr Di W) {i : Int} (hi : Fit i) : (Instr.lookup 117 (.map (some mi)) (.int .i64 i) true).run Try.prog W = .ok (.tuple #[enV ((idF i L).getD zE), .bool (idF i L).isSome]) W := by
  obtain ⟨v, ps, hrun, hv⟩ := World.ownsMap.look_ok h.idm keyedI Try.underlying117 (zeroE W) (enR_mk zE) (keyOfN hi)
  cases hf : idF i L with
  | none =>
    rw [h.idl.at_no (idF_none hf)] at hv
    rw [h.idl.has_no (idF_none hf)] at hrun
    rw [enR_inv hv] at hrun
    exact hrun
  | some e =>
    obtain ⟨he, rfl⟩ := idF_some hf
    rw [h.idl.at_yes h.alone he] at hv
    rw [h.idl.has_yes he] at hrun
    rw [enR_inv hv] at hrun
    exact hrun
theorem TabI.look_row (h : TabI b mr mi N L lo hi ks ao cap nr ni Dr Di W) {k : Ky} (hk : k.Ok) : ∃ a c, (∀ W', W'.ownsMap Try.prog 37 hdR mr nr Dr → (Instr.lookup 116 (.map (some mr)) (kyV k) false).run Try.prog W' = .ok (.slice a (cls k L).length c) W') ∧ RowE a c (cls k L) W ∧ ((a = none ∧ c = 0 ∧ ∀ p ∈ ks, p.1 ≠ k) ∨ (k, (a, (cls k L).length, c)) ∈ ks) := by
  rcases ks_or ks k with ⟨hd, hp⟩ | hn
  · obtain ⟨h1, h2⟩ := h.rows _ hp
    obtain ⟨a, m, c⟩ := hd
    have h2' : m = (cls k L).length := h2
    subst h2'
    refine ⟨a, c, fun W' o => ?_, h1, .inr hp⟩
    obtain ⟨v, ps, hrun, hv⟩ := World.ownsMap.lookup o keyedK Try.underlying116 (zeroR W') (hdR_mk none 0 0) (keyOfK hk)
    rw [h.rkl.at_yes h.ksok hp] at hv
    rw [hdR_inv hv] at hrun
    exact hrun
  · have hc : cls k L = [] := by
      refine List.eq_nil_iff_forall_not_mem.2 (fun e he => ?_)
      obtain ⟨he, hk'⟩ := mem_cls.1 he
      obtain ⟨hd, hp⟩ := h.cover e he
      exact hn _ hp hk'
    refine ⟨none, 0, fun W' o => ?_, ?_, .inl ⟨rfl, rfl, hn⟩⟩
    · obtain ⟨v, ps, hrun, hv⟩ := World.ownsMap.lookup o keyedK Try.underlying116 (zeroR W') (hdR_mk none 0 0) (keyOfK hk)
      rw [h.rkl.at_no h.ksok hk hn] at hv
      rw [hdR_inv hv] at hrun
      rw [hc]; exact hrun
    · rw [hc]; exact RowOf.nil _ _ _ _ _
end
theorem closed_nil (w : World) : Calls Try.prog 56 #[.pointer none] w fun e w' => e = .returned (.bool true) ∧ w' = w := by
  go_enter Try.func56, Try.ntmps56
  go_wp2_with fail
  go_ret
  exact ⟨rfl, rfl⟩
theorem closed_no {b mr mi N : Nat} {L : List En} {lo hi : Int} {ks : Ks} {ao : Option Addr} {cap nr ni : Nat} {Dr : D2} {Di : D1} {w : World} (h : TabI b mr mi N L lo hi ks ao cap nr ni Dr Di w) : Calls Try.prog 56 #[.pointer (some ⟨b, 0, none⟩)] w fun e w' => e = .returned (.bool false) ∧ w' = w := by
  obtain ⟨c0, c1, c2, c3, c4⟩ := h.cells
  have hnil : (binOp .eql 117 (.map (some mi)) (.map none)).run Try.prog w = .ok (.bool false) w := by first | rfl | simp [binOp]
  clear h
  go_enter Try.func56, Try.ntmps56
  go_wp2_with fail
  go_ret
  exact ⟨rfl, rfl⟩
theorem len_any {b mr mi N : Nat} {L : List En} {lo hi : Int} {ks : Ks} {ao : Option Addr} {cap nr ni : Nat} {Dr : D2} {Di : D1} {w : World} (h : TabI b mr mi N L lo hi ks ao cap nr ni Dr Di w) : Calls Try.prog 34 #[.pointer (some ⟨b, 0, none⟩)] w fun e w' => e = .returned (.int .i64 L.length) ∧ w' = w := by
  have HC := Lib.hid (closed_no h)
  obtain ⟨c0, c1, c2, c3, c4⟩ := h.cells
  have hlen := h.idm.len Try.underlying117
  rw [h.idl.size] at hlen
  clear h
  go_enter Try.func34, Try.ntmps34
  go_wp2_with fail
  refine HC.out.mono ?_
  rintro e w1 ⟨rfl, rfl⟩
  go_wp2_with fail
  go_ret
  exact ⟨rfl, rfl⟩
def plainF (k : Ky) : Ky := if k.k = 0 then zK else k
/-- A key alone, in a block. -/
def Three (b : Nat) (k : Ky) (w : World) : Prop := w.heap[b]? = some (.cells #[.int .i64 k.k, .string k.s, .int .i64 k.n] 37 (0, 0))
theorem Three.cells {b : Nat} {k : Ky} {w : World} (h : Three b k w) : w.cell? ⟨b, 0, none⟩ = some (.int .i64 k.k) ∧ w.cell? ⟨b, 1, none⟩ = some (.string k.s) ∧ w.cell? ⟨b, 2, none⟩ = some (.int .i64 k.n) := by
  refine ⟨?_, ?_, ?_⟩ <;> (rw [cell_of_blk h]; rfl)
theorem Three.free {b : Nat} {k : Ky} {w : World} (h : Three b k w) : w.frozen? ⟨b, 0, none⟩ = false ∧ w.frozen? ⟨b, 1, none⟩ = false ∧ w.frozen? ⟨b, 2, none⟩ = false := ⟨free_of_blk h 0, free_of_blk h 1, free_of_blk h 2⟩
theorem Three.only {b : Nat} {k : Ky} {w w' : World} {S : Nat → Prop} (h : Three b k w) (ho : Only S w w') (hS : ¬ S b) : Three b k w' := by
  unfold Three at *
  rw [ho.block b (lt_of_block h) hS]
  exact h
theorem Three.set {b : Nat} {x : Ky} {w : World} (h : Three b x w) (k : Ky) : Three b k (((w.setCell ⟨b, 0, none⟩ (.int .i64 k.k)).setCell ⟨b, 1, none⟩ (.string k.s)).setCell ⟨b, 2, none⟩ (.int .i64 k.n)) ∧ Only (· = b) w (((w.setCell ⟨b, 0, none⟩ (.int .i64 k.k)).setCell ⟨b, 1, none⟩ (.string k.s)).setCell ⟨b, 2, none⟩ (.int .i64 k.n)) := by
  have so : ∀ (W : World) (j : Nat) (y : Value), Only (· = b) W (W.setCell ⟨b, j, none⟩ y) := fun W j y => Only.setCell (S := (· = b)) (p := ⟨b, j, none⟩) W rfl y
  refine ⟨?_, ((so _ _ _).same (so _ _ _)).same (so _ _ _)⟩
  unfold Three at *
  rw [blk_set (blk_set (blk_set h 0 _) 1 _) 2 _]
  simp
theorem results_key {fn : Func} {p : Tmp} (h : fn.results = #[.cell p 37]) (tmps : Array Value) (w : World) (b : Nat) (k : Ky) (hb : tmps.getD p undef = .pointer (some ⟨b, 0, none⟩)) (hf : Three b k w) :
    (results fn tmps).run Try.prog w = .ok (kyV k) w := by
  have hb' : tmps[p]?.getD undef = .pointer (some ⟨b, 0, none⟩) := by simpa using hb
  obtain ⟨h0, h1, h2⟩ := hf.cells
  simp only [results, h]
  go_simp
theorem plain_any (k : Ky) (w : World) : Calls Try.prog 58 #[kyV k] w fun e w' => e = .returned (kyV (plainF k)) ∧ Only (fun _ => False) w w' := by
  obtain ⟨A, hA⟩ : ∃ A, A = w.alloc (.cells #[.int .i64 k.k, .string k.s, .int .i64 k.n] 37) := ⟨_, rfl⟩
  obtain ⟨E, hE⟩ : ∃ E, E = A.alloc (.cells #[.int .i64 0, .string ⟨#[]⟩, .int .i64 0] 37) := ⟨_, rfl⟩
  have hA0 : A.heap.size = w.heap.size + 1 := by rw [hA]; simp
  have hx : Three w.heap.size k E := Three.only (w := A) (by unfold Three; rw [hA]; exact heap_alloc_new _ _) (by rw [hE]; exact Only.alloc (fun _ => False) _ _) (fun e => e)
  have hz : Three (w.heap.size + 1) zK E := by unfold Three; rw [← hA0, hE]; exact heap_alloc_new A _
  have HO : Hid (Only (fun _ => False) w E) := Lib.hid (by rw [hE, hA]; exact (Only.alloc _ _ _).same (Only.alloc _ _ _))
  obtain ⟨x0, x1, x2⟩ := hx.cells
  obtain ⟨z0, z1, z2⟩ := hz.cells
  obtain ⟨f0, f1, f2⟩ := hz.free
  have HSZ := Lib.hid (hz.set zK)
  have HSK := Lib.hid (hz.set k)
  rw [hA] at hE
  unfold plainF
  by_cases hk : k.k = 0
  · have hk' : (k.k == 0) = true := by simpa using hk
    rw [if_pos hk]
    clear hx hz hk
    go_enter Try.func58, Try.ntmps58
    go_upto_region 1 with fail
    rw [← hE]
    clear hE hA hA0
    go_wp2_with fail
    refine bodyPost_ret (v := kyV zK) (results_key rfl _ _ (w.heap.size + 1) zK rfl HSZ.out.1) rfl ?_
    exact ⟨rfl, Only.cut HO.out HSZ.out.2 (fun k e => by omega)⟩
  · have hk' : (k.k == 0) = false := by simpa using hk
    rw [if_neg hk]
    clear hx hz hk
    go_enter Try.func58, Try.ntmps58
    go_upto_region 1 with fail
    rw [← hE]
    clear hE hA hA0
    go_wp2_with fail
    refine bodyPost_ret (v := kyV k) (results_key rfl _ _ (w.heap.size + 1) k rfl HSK.out.1) rfl ?_
    exact ⟨rfl, Only.cut HO.out HSK.out.2 (fun k e => by omega)⟩
end
end Go.Proofs.Ythfilpacmllhpab.idx
/- Selection by keys: a new table; the next place; the first entry that meets a key. -/
namespace Go.Proofs.Ythfilpacmllhpab.idx
section
set_option maxRecDepth 100000
open Go.RowKit Go.Proofs.Ythfilpacmllhpab.own Go.Lib Go.Maps Go.WideMaps
theorem zK_ok : zK.Ok := ⟨(by show (Lit.int .i64 0).wf = true; decide), (by show (Lit.int .i64 0).wf = true; decide), Nat.zero_le _⟩
theorem new_any (w : World) : Calls Try.prog 35 #[] w fun e w' => e = .returned (.pointer (some ⟨w.heap.size + 2, 0, none⟩)) ∧ TabI (w.heap.size + 2) w.heap.size (w.heap.size + 1) 0 [] (-1) 0 [] none 0 0 0 (.map []) (.map []) w' ∧ Only (fun _ => False) w w' := by
  obtain ⟨A, hA⟩ : ∃ A, A = w.alloc (.map #[] 0) := ⟨_, rfl⟩
  obtain ⟨C, hC⟩ : ∃ C, C = A.alloc (.map #[] 0) := ⟨_, rfl⟩
  obtain ⟨E, hE⟩ : ∃ E, E = C.alloc (.cells #[.slice none 0 0, .map (some w.heap.size), .map (some (w.heap.size + 1)), .int .i64 (-1), .int .i64 0] 119) := ⟨_, rfl⟩
  have hA0 : A.heap.size = w.heap.size + 1 := by rw [hA]; simp
  have hC0 : C.heap.size = w.heap.size + 2 := by rw [hC]; simp [hA0]
  have oA : Only (fun _ => False) w A := by rw [hA]; exact Only.alloc _ _ _
  have oC : Only (fun _ => False) A C := by rw [hC]; exact Only.alloc _ _ _
  have oE : Only (fun _ => False) C E := by rw [hE]; exact Only.alloc _ _ _
  have h1 : C.ownsMap Try.prog 37 hdR w.heap.size 0 (.map []) := by
    rw [hC]
    refine World.ownsMap.alloc ?_ _
    rw [hA]
    exact World.ownsMap_made (H := Hd) w Try.prog 37 hdR
  have h2 : C.ownsMap Try.prog 3 enR (w.heap.size + 1) 0 (.map []) := by
    rw [hC, ← hA0]
    exact World.ownsMap_made (H := Unit) A Try.prog 3 enR
  have HT : Hid (TabI (w.heap.size + 2) w.heap.size (w.heap.size + 1) 0 [] (-1) 0 [] none 0 0 0 (.map []) (.map []) E ∧ Only (fun _ => False) w E) := Lib.hid ⟨⟨by rw [← hC0, hE]; exact heap_alloc_new C _, RowOf.nil _ _ _ _ _, ownsMap_only h2 oE (fun e => e), IdMap.empty, ownsMap_only h1 oE (fun e => e), RkMap.empty, ⟨(fun p hp => nomatch hp), List.Pairwise.nil⟩, (fun p hp => nomatch hp), (fun e he => nomatch he), (fun p hp => nomatch hp), List.Pairwise.nil, by omega, ⟨List.Pairwise.nil, (fun x hx => nomatch hx), (fun x hx => nomatch hx)⟩, List.Pairwise.nil, (fun e he => nomatch he), Nat.zero_le _, by omega⟩, (oA.same oC).same oE⟩
  have hmk1 : ∀ W : World, (Instr.makeMap 116 none).run Try.prog W = .ok (.map (some W.heap.size)) (W.alloc (.map #[] 0)) := fun W => by first | rfl | simp [Instr.makeMap]
  have hmk2 : ∀ W : World, (Instr.makeMap 117 none).run Try.prog W = .ok (.map (some W.heap.size)) (W.alloc (.map #[] 0)) := fun W => by first | rfl | simp [Instr.makeMap]
  rw [hC, hA] at hE
  clear h1 h2 oA oC oE hA0 hC0 hA hC
  go_enter Try.func35, Try.ntmps35
  go_wp2_with fail
  go_ret
  first
    | (rw [← hE]; exact ⟨rfl, HT.out.1, HT.out.2⟩)
    | (refine ⟨rfl, ?_, ?_⟩ <;> (subst hE; first | exact HT.out.1 | exact HT.out.2))
section
variable {b mr mi N : Nat} {L : List En} {lo hi : Int} {ks : Ks} {ao : Option Addr} {cap nr ni : Nat} {Dr : D2} {Di : D1} {w : World}
theorem place_front (h : TabI b mr mi N L lo hi ks ao cap nr ni Dr Di w) : Calls Try.prog 59 #[.pointer (some ⟨b, 0, none⟩), .bool true] w fun e w' => e = .returned (.int .i64 lo) ∧ w' = w.setCell ⟨b, 3, none⟩ (.int .i64 (lo - 1)) := by
  obtain ⟨c0, c1, c2, c3, c4⟩ := h.cells
  obtain ⟨f0, f3, f4⟩ := h.free
  have hn := h.nums
  have hw1 : IntKind.i64.wrap (lo - 1) = lo - 1 := IntWalk.i64_in _ (by omega)
  have hw2 : IntKind.i64.wrap (lo - 1 + 1) = lo := by rw [IntWalk.i64_in _ (by omega)]; omega
  have hw3 : IntKind.i64.wrap lo = lo := IntWalk.i64_in _ (by omega)
  have hb := h.box
  have c3' : (w.setCell ⟨b, 3, none⟩ (.int .i64 (lo - 1))).cell? ⟨b, 3, none⟩ = some (.int .i64 (lo - 1)) := by rw [cell_of_blk (blk_set hb 3 _)]; rfl
  clear h hn hb
  go_enter Try.func59, Try.ntmps59
  go_wp2_with fail
  go_ret
  exact ⟨by first | rfl | (congr 2; omega), rfl⟩
theorem place_back (h : TabI b mr mi N L lo hi ks ao cap nr ni Dr Di w) : Calls Try.prog 59 #[.pointer (some ⟨b, 0, none⟩), .bool false] w fun e w' => e = .returned (.int .i64 hi) ∧ w' = w.setCell ⟨b, 4, none⟩ (.int .i64 (hi + 1)) := by
  obtain ⟨c0, c1, c2, c3, c4⟩ := h.cells
  obtain ⟨f0, f3, f4⟩ := h.free
  have hn := h.nums
  have hw1 : IntKind.i64.wrap (hi + 1) = hi + 1 := IntWalk.i64_in _ (by omega)
  have hw2 : IntKind.i64.wrap (hi + 1 - 1) = hi := by rw [IntWalk.i64_in _ (by omega)]; omega
  have hw3 : IntKind.i64.wrap hi = hi := IntWalk.i64_in _ (by omega)
  have hb := h.box
  have c4' : (w.setCell ⟨b, 4, none⟩ (.int .i64 (hi + 1))).cell? ⟨b, 4, none⟩ = some (.int .i64 (hi + 1)) := by rw [cell_of_blk (blk_set hb 4 _)]; rfl
  clear h hn hb
  go_enter Try.func59, Try.ntmps59
  go_wp2_with fail
  go_ret
  exact ⟨by first | rfl | (congr 2; omega), rfl⟩
end
def meetB (a k : Ky) : Bool := a.k == 0 || k.k == 0 || eqK a k
/-- The first entry from a place on whose key meets another one. -/
def firstF (p : Int) (k : Ky) (L : List En) : Option En := L.find? (fun e => decide (p ≤ e.pl) && meetB e.key k)
theorem first_any {p : Int} {k : Ky} {L : List En} (hs : Rises L) (hk : k.k = 0) : firstF p k L = fromF p L := by
  rw [from_find hs]
  unfold firstF meetB
  congr 1
  funext e
  simp [hk]
theorem find_cls {p : Int} {k : Ky} {L : List En} (hs : Rises L) : fromF p (cls k L) = L.find? (fun e => decide (p ≤ e.pl) && eqK e.key k) := by
  rw [from_find (cls_rises hs)]
  unfold cls
  rw [List.find?_filter]
  congr 1
  funext e
  cases eqK e.key k <;> simp
theorem find_congr {f g : En → Bool} : ∀ {L : List En}, (∀ e ∈ L, f e = g e) → L.find? f = L.find? g := by
  intro L
  induction L with
  | nil => intro _; rfl
  | cons x r ih =>
    intro h
    rw [List.find?_cons, List.find?_cons, h x (by simp), ih (fun e he => h e (by simp [he]))]
theorem first_two {p : Int} {k : Ky} {L : List En} (hs : Rises L) (hz : ∀ e ∈ L, e.key.k = 0 → e.key = zK) (hk : k.k ≠ 0) : firstF p k L = pickF (fromF p (cls k L)) (fromF p (cls zK L)) := by
  rw [find_cls hs, find_cls hs, ← find_two _ _ hs]
  unfold firstF
  apply find_congr
  intro e he
  unfold meetB
  have h1 : (k.k == 0) = false := by simpa using hk
  have h2 : (e.key.k == 0) = eqK e.key zK := by
    by_cases h : e.key.k = 0
    · rw [hz e he h, eqK_refl]; rfl
    · rw [eqK_ne (fun x => h (by rw [x]; rfl))]; simpa using h
  rw [h1, h2]
  cases decide (p ≤ e.pl) <;> cases eqK e.key zK <;> cases eqK e.key k <;> rfl
end
end Go.Proofs.Ythfilpacmllhpab.idx
/- Selection by keys: the call first. -/
namespace Go.Proofs.Ythfilpacmllhpab.idx
section
set_option maxRecDepth 100000
open Go.RowKit Go.Proofs.Ythfilpacmllhpab.own Go.Lib Go.Maps Go.WideMaps
abbrev zeW (w : World) : World := w.alloc (.cells #[.int .i64 0, .int .i64 0, .string ⟨#[]⟩, .int .i64 0, .int .i64 0] 122)
abbrev enW (w : World) (e : En) : World := w.alloc (.cells #[.int .i64 e.id, .int .i64 e.key.k, .string e.key.s, .int .i64 e.key.n, .int .i64 e.pl] 122)
set_option maxHeartbeats 8000000 in
theorem first_zero {b mr mi N : Nat} {L : List En} {lo hi : Int} {ks : Ks} {ao : Option Addr} {cap nr ni : Nat} {Dr : D2} {Di : D1} {w : World} (h : TabI b mr mi N L lo hi ks ao cap nr ni Dr Di w) (p : Int) (k : Ky) (hk : k.k = 0) :
    Calls Try.prog 66 #[.pointer (some ⟨b, 0, none⟩), .int .i64 p, kyV k] w fun e w' => e = .returned (.tuple #[enV ((firstF p k L).getD zE), .bool (firstF p k L).isSome]) ∧ Only (fun _ => False) w w' := by
  rw [first_any h.pl.rises hk]
  obtain ⟨A, hA⟩ : ∃ A, A = w.alloc (.cells #[.int .i64 k.k, .string k.s, .int .i64 k.n] 37) := ⟨_, rfl⟩
  obtain ⟨E, hE⟩ : ∃ E, E = A.alloc (.cells #[.int .i64 0, .int .i64 0, .string ⟨#[]⟩, .int .i64 0, .int .i64 0] 122) := ⟨_, rfl⟩
  have hA0 : A.heap.size = w.heap.size + 1 := by rw [hA]; simp
  have hx : Three w.heap.size k E := Three.only (w := A) (by unfold Three; rw [hA]; exact heap_alloc_new _ _) (by rw [hE]; exact Only.alloc (fun _ => False) _ _) (fun e => e)
  have HZ : Hid (Five (w.heap.size + 1) zE E) := Lib.hid (by rw [← hA0, hE]; exact Five.new A zE)
  have ho : Only (fun _ => False) w E := by rw [hE, hA]; exact (Only.alloc _ _ _).same (Only.alloc _ _ _)
  have HO := Lib.hid ho
  obtain ⟨x0, x1, x2⟩ := hx.cells
  obtain ⟨c0, c1, c2, c3, c4⟩ := (h.later ho).cells
  have hk' : (k.k == 0) = true := by simpa using hk
  have HFR : Hid (∀ W, Only (fun _ => False) w W → Calls Try.prog 83 #[.slice ao L.length cap, .int .i64 p] W fun r w' => r = .returned (.tuple #[enV ((fromF p L).getD zE), .bool (fromF p L).isSome]) ∧ Only (fun _ => False) W w') := Lib.hid (fun W o => from_any ao cap L p W ((h.later o).row) h.pl.rises (by have := h.few; omega))
  generalize fromF p L = F at *
  generalize F.getD zE = x at *
  generalize F.isSome = y at *
  generalize L.length = n at *
  rw [hA] at hE
  clear h hx ho hk hA hA0
  go_enter Try.func66, Try.ntmps66
  go_upto_region 1 with fail
  rw [← hE]
  clear hE
  go_wp2_with fail
  refine (HFR.out _ HO.out).mono ?_
  rintro e w1 ⟨rfl, ho1⟩
  have HO1 := Lib.hid (HO.out.same ho1)
  have HZ1 := Lib.hid (HZ.out.only ho1 (fun e => e))
  have HS := Lib.hid (HZ1.out.set x)
  clear ho1 x0 x1 x2 c0 c1 c2 c3 c4
  obtain ⟨z0, z1, z2, z3, z4⟩ := HZ1.out.cells
  obtain ⟨f0, f1, f2, f3, f4⟩ := HZ1.out.free
  go_wp2_with fail
  refine bodyPost_ret (v := .tuple #[enV x, .bool y]) (results_entry rfl _ _ (w.heap.size + 1) x _ rfl rfl HS.out.1) rfl ?_
  exact ⟨rfl, Only.cut HO1.out HS.out.2 (fun k e => by omega)⟩
set_option maxHeartbeats 16000000 in
theorem first_some {b mr mi N : Nat} {L : List En} {lo hi : Int} {ks : Ks} {ao : Option Addr} {cap nr ni : Nat} {Dr : D2} {Di : D1} {w : World} (h : TabI b mr mi N L lo hi ks ao cap nr ni Dr Di w) (p : Int) (k : Ky) (hko : k.Ok) (hk : k.k ≠ 0) :
    Calls Try.prog 66 #[.pointer (some ⟨b, 0, none⟩), .int .i64 p, kyV k] w fun e w' => e = .returned (.tuple #[enV ((firstF p k L).getD zE), .bool (firstF p k L).isSome]) ∧ Only (fun _ => False) w w' := by
  rw [first_two h.pl.rises (fun e he => (h.keys e he).2.2) hk]
  obtain ⟨A, hA⟩ : ∃ A, A = w.alloc (.cells #[.int .i64 k.k, .string k.s, .int .i64 k.n] 37) := ⟨_, rfl⟩
  obtain ⟨E, hE⟩ : ∃ E, E = A.alloc (.cells #[.int .i64 0, .int .i64 0, .string ⟨#[]⟩, .int .i64 0, .int .i64 0] 122) := ⟨_, rfl⟩
  have hA0 : A.heap.size = w.heap.size + 1 := by rw [hA]; simp
  have hx : Three w.heap.size k E := Three.only (w := A) (by unfold Three; rw [hA]; exact heap_alloc_new _ _) (by rw [hE]; exact Only.alloc (fun _ => False) _ _) (fun e => e)
  have HZ : Hid (Five (w.heap.size + 1) zE E) := Lib.hid (by rw [← hA0, hE]; exact Five.new A zE)
  have ho : Only (fun _ => False) w E := by rw [hE, hA]; exact (Only.alloc _ _ _).same (Only.alloc _ _ _)
  have HO := Lib.hid ho
  have HX := Lib.hid hx
  obtain ⟨x0, x1, x2⟩ := hx.cells
  obtain ⟨c0, c1, c2, c3, c4⟩ := (h.later ho).cells
  have hk' : (k.k == 0) = false := by simpa using hk
  obtain ⟨a1, p1, hl1, hr1, _⟩ := (h.later ho).look_row hko
  obtain ⟨a2, p2, hl2, hr2, _⟩ := (h.later ho).look_row zK_ok
  have HL2 := Lib.hid hl2
  have HF1 : Hid (∀ W, Only (fun _ => False) E W → Calls Try.prog 83 #[.slice a1 (cls k L).length p1, .int .i64 p] W fun r w' => r = .returned (.tuple #[enV ((fromF p (cls k L)).getD zE), .bool (fromF p (cls k L)).isSome]) ∧ Only (fun _ => False) W w') := Lib.hid (fun W o => from_any a1 p1 (cls k L) p W (hr1.later o) (cls_rises h.pl.rises) (by have := cls_len k L; have := h.few; omega))
  have HF2 : Hid (∀ W, Only (fun _ => False) E W → Calls Try.prog 83 #[.slice a2 (cls zK L).length p2, .int .i64 p] W fun r w' => r = .returned (.tuple #[enV ((fromF p (cls zK L)).getD zE), .bool (fromF p (cls zK L)).isSome]) ∧ Only (fun _ => False) W w') := Lib.hid (fun W o => from_any a2 p2 (cls zK L) p W (hr2.later o) (cls_rises h.pl.rises) (by have := cls_len zK L; have := h.few; omega))
  have hq1 := hl1 E.drew ((h.later ho).later (Only.drew _ _)).rkm
  have hq2 := hl1 (E.alloc (.cells #[.int .i64 0, .int .i64 0, .string ⟨#[]⟩, .int .i64 0, .int .i64 0] 122)).drew ((h.later ho).later ((Only.alloc _ _ _).same (Only.drew _ _))).rkm
  have HRM : Hid (∀ W, Only (fun _ => False) E W → W.ownsMap Try.prog 37 hdR mr nr Dr) := Lib.hid (fun W o => ((h.later ho).later o).rkm)
  have HC : Hid (∀ W, Only (fun _ => False) E W → W.cell? ⟨b, 1, none⟩ = some (.map (some mr)) ∧ W.cell? ⟨w.heap.size, 0, none⟩ = some (.int .i64 k.k) ∧ W.cell? ⟨w.heap.size, 1, none⟩ = some (.string k.s) ∧ W.cell? ⟨w.heap.size, 2, none⟩ = some (.int .i64 k.n)) := Lib.hid (fun W o => ⟨((h.later ho).later o).cells.2.1, (hx.only o (fun e => e)).cells⟩)
  generalize fromF p (cls k L) = F1 at *
  generalize fromF p (cls zK L) = F2 at *
  generalize (cls k L).length = n1 at *
  generalize (cls zK L).length = n2 at *
  obtain ⟨g1, hg1⟩ : ∃ g1, F1.getD zE = g1 := ⟨_, rfl⟩
  obtain ⟨g2, hg2⟩ : ∃ g2, F2.getD zE = g2 := ⟨_, rfl⟩
  obtain ⟨s1, hs1⟩ : ∃ s1, F1.isSome = s1 := ⟨_, rfl⟩
  obtain ⟨s2, hs2⟩ : ∃ s2, F2.isSome = s2 := ⟨_, rfl⟩
  simp only [hg1, hg2, hs1, hs2] at HF1 HF2
  have HPK : Hid ((pickF F1 F2).getD zE = (if s1 = false ∨ (s2 = true ∧ g2.pl < g1.pl) then g2 else g1) ∧ (pickF F1 F2).isSome = (if s1 = false ∨ (s2 = true ∧ g2.pl < g1.pl) then s2 else s1)) := Lib.hid (by
    cases F1 with
    | none => subst hg1 hg2 hs1 hs2; simp [pickF]
    | some x1 =>
      cases F2 with
      | none => subst hg1 hg2 hs1 hs2; simp [pickF]
      | some x2 =>
        subst hg1 hg2 hs1 hs2
        simp only [pickF, Option.getD_some, Option.isSome_some]
        by_cases hlt : x2.pl < x1.pl
        · rw [if_pos hlt, if_pos (by simp [hlt])]; simp
        · rw [if_neg hlt, if_neg (by simp [hlt])]; simp)
  generalize (pickF F1 F2).getD zE = gx at *
  generalize (pickF F1 F2).isSome = sx at *
  clear hg1 hg2 hs1 hs2
  rw [hA] at hE
  clear h hx ho hk hA hA0 hr1 hr2 hl1 hl2
  go_enter Try.func66, Try.ntmps66
  go_upto_region 1 with fail
  rw [← hE]
  clear hE
  go_upto_region 3 with fail
  go_cut [8, 9] (fun t8 s9 wx => ∃ b8, t8 = .pointer (some ⟨b8, 0, none⟩) ∧ s9 = .bool s1 ∧ Hid (Only (fun _ => False) E wx ∧ Five b8 g1 wx))
  case first =>
    go_region_held3 (fun W => W.cell? ⟨b, 1, none⟩ = some (.map (some mr)) ∧ W.cell? ⟨w.heap.size, 0, none⟩ = some (.int .i64 k.k) ∧ W.cell? ⟨w.heap.size, 1, none⟩ = some (.string k.s) ∧ W.cell? ⟨w.heap.size, 2, none⟩ = some (.int .i64 k.n)) (with_reducible first | exact HC.out _ HOS.out | exact HC.out _ HOu.out | exact HC.out _ (HOu.out.same (Only.alloc _ _ _)) | exact HC.out _ (Only.drew _ _) | exact HC.out _ ((Only.alloc _ _ _).same (Only.drew _ _))) (first
      | (go_at_call 83; first
        | ((with_reducible refine (HF1.out E.drew (Only.drew _ _)).mono ?_); rintro r u ⟨rfl, hou⟩; have HOu : Hid (Only (fun _ => False) E u) := Lib.hid ((Only.drew _ _).same hou); clear hou)
        | ((with_reducible refine (HF1.out _ ((Only.alloc _ _ _).same (Only.drew _ _))).mono ?_); rintro r u ⟨rfl, hou⟩; have HOu : Hid (Only (fun _ => False) E u) := Lib.hid (((Only.alloc _ _ _).same (Only.drew _ _)).same hou); have HZu : Hid (Five E.heap.size zE u) := Lib.hid (Five.only (b := E.heap.size) (e := zE) (heap_alloc_new E _) ((Only.drew _ _).same hou) (fun e => e)); have HSu := Lib.hid (HZu.out.set g1); have HOS := Lib.hid (Only.cut HOu.out HSu.out.2 (fun k e => by omega)); obtain ⟨d0, d1, d2, d3, d4⟩ := HZu.out.cells; obtain ⟨q0, q1, q2, q3, q4⟩ := HZu.out.free; clear hou)))
    all_goals
      go_wp2_with fail
      go_meet
      first
        | exact ⟨_, rfl, rfl, Lib.hid ⟨HOS.out, HSu.out.1⟩⟩
        | exact ⟨_, rfl, rfl, Lib.hid ⟨HOu.out.same (Only.alloc _ _ _), Five.new _ g1⟩⟩
  case rest =>
    obtain ⟨b8, rfl, rfl, hC⟩ := hcut
    have hq3 := HL2.out _ (HRM.out _ hC.out.1)
    simp only [kyV, zK] at hq3
    obtain ⟨m1, m2, m3, m4⟩ := HC.out _ hC.out.1
    clear hq1 hq2 x0 x1 x2 c0 c1 c2 c3 c4
    go_wp2_with fail
    refine (HF2.out _ hC.out.1).mono ?_
    rintro r u2 ⟨rfl, hou2⟩
    have HO2 : Hid (Only (fun _ => False) E (enW u2 g2)) := Lib.hid (hC.out.1.same (hou2.same (Only.alloc _ _ _)))
    have HG1 : Hid (Five b8 g1 (enW u2 g2)) := Lib.hid (hC.out.2.only (hou2.same (Only.alloc _ _ _)) (fun e => e))
    have HG2 : Hid (Five u2.heap.size g2 (enW u2 g2)) := Lib.hid (Five.new u2 g2)
    have HZ2 := Lib.hid (HZ.out.only HO2.out (fun e => e))
    have HS1 := Lib.hid (HZ2.out.set g1)
    have HS2 := Lib.hid (HZ2.out.set g2)
    clear hou2 m1 m2 m3 m4 hq3
    obtain ⟨y0, y1, y2, y3, y4⟩ := HG1.out.cells
    obtain ⟨v0, v1, v2, v3, v4⟩ := HG2.out.cells
    obtain ⟨z0, z1, z2, z3, z4⟩ := HZ2.out.cells
    obtain ⟨q0, q1, q2, q3, q4⟩ := HZ2.out.free
    have hfin1 : Hid (Only (fun _ => False) w (fiveW (enW u2 g2) (w.heap.size + 1) g1)) := Lib.hid (Only.cut (HO.out.same HO2.out) HS1.out.2 (fun k e => by omega))
    have hfin2 : Hid (Only (fun _ => False) w (fiveW (enW u2 g2) (w.heap.size + 1) g2)) := Lib.hid (Only.cut (HO.out.same HO2.out) HS2.out.2 (fun k e => by omega))
    cases s1 with
    | false =>
      have he1 : gx = g2 := HPK.out.1
      have he2 : sx = s2 := HPK.out.2
      go_upto_region 5 with fail
      go_wp2_with fail
      rw [he1, he2]
      refine bodyPost_ret (v := .tuple #[enV g2, .bool s2]) (results_entry rfl _ _ (w.heap.size + 1) g2 _ rfl rfl HS2.out.1) rfl ?_
      exact ⟨rfl, hfin2.out⟩
    | true =>
      cases s2 with
      | false =>
        have he1 : gx = g1 := by rw [HPK.out.1, if_neg (by simp)]
        have he2 : sx = true := by rw [HPK.out.2, if_neg (by simp)]
        go_upto_region 5 with fail
        go_wp2_with fail
        rw [he1, he2]
        refine bodyPost_ret (v := .tuple #[enV g1, .bool true]) (results_entry rfl _ _ (w.heap.size + 1) g1 _ rfl rfl HS1.out.1) rfl ?_
        exact ⟨rfl, hfin1.out⟩
      | true =>
        by_cases hlt : g2.pl < g1.pl
        · have he1 : gx = g2 := by rw [HPK.out.1, if_pos (by simp [hlt])]
          have he2 : sx = true := by rw [HPK.out.2, if_pos (by simp [hlt])]
          go_upto_region 5 with fail
          go_wp2_with fail
          rw [he1, he2]
          refine bodyPost_ret (v := .tuple #[enV g2, .bool true]) (results_entry rfl _ _ (w.heap.size + 1) g2 _ rfl rfl HS2.out.1) rfl ?_
          exact ⟨rfl, hfin2.out⟩
        · have he1 : gx = g1 := by rw [HPK.out.1, if_neg (by simp [hlt])]
          have he2 : sx = true := by rw [HPK.out.2, if_neg (by simp [hlt])]
          go_upto_region 5 with fail
          go_wp2_with fail
          rw [he1, he2]
          refine bodyPost_ret (v := .tuple #[enV g1, .bool true]) (results_entry rfl _ _ (w.heap.size + 1) g1 _ rfl rfl HS1.out.1) rfl ?_
          exact ⟨rfl, hfin1.out⟩
end
end Go.Proofs.Ythfilpacmllhpab.idx
/- Selection by keys: the calls Head and Next. -/
namespace Go.Proofs.Ythfilpacmllhpab.idx
section
set_option maxRecDepth 100000
open Go.RowKit Go.Proofs.Ythfilpacmllhpab.own Go.Lib Go.Maps Go.WideMaps
section
variable {b mr mi N : Nat} {L : List En} {lo hi : Int} {ks : Ks} {ao : Option Addr} {cap nr ni : Nat} {Dr : D2} {Di : D1} {w : World}
theorem first_call (h : TabI b mr mi N L lo hi ks ao cap nr ni Dr Di w) (p : Int) (k : Ky) (hko : k.Ok) :
    Calls Try.prog 66 #[.pointer (some ⟨b, 0, none⟩), .int .i64 p, kyV k] w fun e w' => e = .returned (.tuple #[enV ((firstF p k L).getD zE), .bool (firstF p k L).isSome]) ∧ Only (fun _ => False) w w' := by
  by_cases hk : k.k = 0
  · exact first_zero h p k hk
  · exact first_some h p k hko hk
/-- The entries that a key meets. -/
def metF (k : Ky) (L : List En) : List En := L.filter (fun e => meetB e.key k)
theorem met_rises {k : Ky} (h : Rises L) : Rises (metF k L) := h.sublist List.filter_sublist
theorem first_met {p : Int} {k : Ky} (h : Rises L) : firstF p k L = fromF p (metF k L) := by
  rw [from_find (met_rises h)]
  unfold metF firstF
  rw [List.find?_filter]
  apply find_congr
  intro e _
  cases meetB e.key k <;> simp
theorem first_low {k : Ky} (h : Between L lo hi) : firstF lo k L = (metF k L)[0]? := by
  rw [first_met h.rises]
  unfold fromF
  rw [cnt_none (xs := metF k L) (fun x hx => Int.le_of_lt (h.low x (List.mem_filter.1 hx).1))]
theorem cnt_next {M : List En} (h : Rises M) {j : Nat} {x : En} (hx : M[j]? = some x) : cntF (x.pl + 1) M = j + 1 := by
  refine cnt_at _ M (j + 1) ?_ (fun t y ht hy => ?_) (fun t y ht hy => ?_)
  · have := (List.getElem?_eq_some_iff.1 hx).1; omega
  · have := h.le hy hx (by omega); omega
  · have := h.at hx hy (by omega); omega
theorem first_next {k : Ky} (h : Rises L) {j : Nat} {x : En} (hx : (metF k L)[j]? = some x) : firstF (x.pl + 1) k L = (metF k L)[j + 1]? := by
  rw [first_met h]
  unfold fromF
  rw [cnt_next (met_rises h) hx]
set_option maxHeartbeats 4000000 in
theorem head_any (h : TabI b mr mi N L lo hi ks ao cap nr ni Dr Di w) (k : Ky) (hko : k.Ok) :
    Calls Try.prog 47 #[.pointer (some ⟨b, 0, none⟩), kyV k] w fun e w' => e = .returned (.tuple #[.int .i64 ((firstF lo k L).getD zE).id, .bool (firstF lo k L).isSome]) ∧ Only (fun _ => False) w w' := by
  obtain ⟨E, hE⟩ : ∃ E, E = w.alloc (.cells #[.int .i64 k.k, .string k.s, .int .i64 k.n] 37) := ⟨_, rfl⟩
  have hx : Three w.heap.size k E := by unfold Three; rw [hE]; exact heap_alloc_new _ _
  have ho : Only (fun _ => False) w E := by rw [hE]; exact Only.alloc _ _ _
  have HO := Lib.hid ho
  have HCL := Lib.hid (closed_no (h.later ho))
  have HC : Hid (∀ W, Only (fun _ => False) E W → W.cell? ⟨b, 3, none⟩ = some (.int .i64 lo) ∧ W.cell? ⟨w.heap.size, 0, none⟩ = some (.int .i64 k.k) ∧ W.cell? ⟨w.heap.size, 1, none⟩ = some (.string k.s) ∧ W.cell? ⟨w.heap.size, 2, none⟩ = some (.int .i64 k.n)) := Lib.hid (fun W o => ⟨((h.later ho).later o).cells.2.2.2.1, (hx.only o (fun e => e)).cells⟩)
  have HF : Hid (∀ W, Only (fun _ => False) E W → Calls Try.prog 66 #[.pointer (some ⟨b, 0, none⟩), .int .i64 lo, kyV k] W fun e w' => e = .returned (.tuple #[enV ((firstF lo k L).getD zE), .bool (firstF lo k L).isSome]) ∧ Only (fun _ => False) W w') := Lib.hid (fun W o => first_call ((h.later ho).later o) lo k hko)
  generalize (firstF lo k L).getD zE = x at *
  generalize (firstF lo k L).isSome = y at *
  clear h hx ho hko
  go_enter Try.func47, Try.ntmps47
  go_upto_region 1 with fail
  rw [← hE]
  clear hE
  go_wp2_with fail
  refine HCL.out.mono ?_
  rintro e w1 ⟨rfl, rfl⟩
  go_upto_region 3 with fail
  go_cut [6, 7] (fun t6 s7 wx => ∃ b6, t6 = .pointer (some ⟨b6, 0, none⟩) ∧ s7 = .bool y ∧ Hid (Only (fun _ => False) w1 wx ∧ Five b6 x wx))
  case first =>
    go_region_held3 (fun W => W.cell? ⟨b, 3, none⟩ = some (.int .i64 lo) ∧ W.cell? ⟨w.heap.size, 0, none⟩ = some (.int .i64 k.k) ∧ W.cell? ⟨w.heap.size, 1, none⟩ = some (.string k.s) ∧ W.cell? ⟨w.heap.size, 2, none⟩ = some (.int .i64 k.n)) (with_reducible first | exact HC.out _ HOS.out | exact HC.out _ HOu.out | exact HC.out _ (HOu.out.same (Only.alloc _ _ _)) | exact HC.out _ (Only.drew _ _) | exact HC.out _ ((Only.alloc _ _ _).same (Only.drew _ _))) (first
      | (go_at_call 66; first
        | ((with_reducible refine (HF.out w1.drew (Only.drew _ _)).mono ?_); rintro r u ⟨rfl, hou⟩; have HOu : Hid (Only (fun _ => False) w1 u) := Lib.hid ((Only.drew _ _).same hou); clear hou)
        | ((with_reducible refine (HF.out _ ((Only.alloc _ _ _).same (Only.drew _ _))).mono ?_); rintro r u ⟨rfl, hou⟩; have HOu : Hid (Only (fun _ => False) w1 u) := Lib.hid (((Only.alloc _ _ _).same (Only.drew _ _)).same hou); have HZu : Hid (Five w1.heap.size zE u) := Lib.hid (Five.only (b := w1.heap.size) (e := zE) (heap_alloc_new w1 _) ((Only.drew _ _).same hou) (fun e => e)); have HSu := Lib.hid (HZu.out.set x); have HOS := Lib.hid (Only.cut HOu.out HSu.out.2 (fun k e => by omega)); obtain ⟨d0, d1, d2, d3, d4⟩ := HZu.out.cells; obtain ⟨q0, q1, q2, q3, q4⟩ := HZu.out.free; clear hou)))
    all_goals
      go_wp2_with fail
      go_meet
      first
        | exact ⟨_, rfl, rfl, Lib.hid ⟨HOS.out, HSu.out.1⟩⟩
        | exact ⟨_, rfl, rfl, Lib.hid ⟨HOu.out.same (Only.alloc _ _ _), Five.new _ x⟩⟩
  case rest =>
    obtain ⟨b6, rfl, rfl, hC⟩ := hcut
    obtain ⟨y0, y1, y2, y3, y4⟩ := hC.out.2.cells
    go_wp2_with fail
    go_ret2
    exact ⟨rfl, HO.out.same hC.out.1⟩
/-- What Next answers. -/
def nextF (i : Int) (k : Ky) (L : List En) : Option En := match idF i L with
  | none => none
  | some e => firstF (e.pl + 1) k L
set_option maxHeartbeats 8000000 in
theorem next_any (h : TabI b mr mi N L lo hi ks ao cap nr ni Dr Di w) (i : Int) (hi : Fit i) (k : Ky) (hko : k.Ok) :
    Calls Try.prog 49 #[.pointer (some ⟨b, 0, none⟩), .int .i64 i, kyV k] w fun e w' => e = .returned (.tuple #[.int .i64 ((nextF i k L).getD zE).id, .bool (nextF i k L).isSome]) ∧ Only (fun _ => False) w w' := by
  obtain ⟨E, hE⟩ : ∃ E, E = w.alloc (.cells #[.int .i64 k.k, .string k.s, .int .i64 k.n] 37) := ⟨_, rfl⟩
  have hx : Three w.heap.size k E := by unfold Three; rw [hE]; exact heap_alloc_new _ _
  have ho : Only (fun _ => False) w E := by rw [hE]; exact Only.alloc _ _ _
  have HO := Lib.hid ho
  have HCL := Lib.hid (closed_no (h.later ho))
  obtain ⟨c0, c1, c2, c3, c4⟩ := (h.later ho).cells
  have hlk := (h.later ho).look_id hi
  have HX := Lib.hid hx
  have HH := Lib.hid h
  cases hf : idF i L with
  | none =>
    have he : nextF i k L = none := by unfold nextF; rw [hf]
    rw [hf] at hlk
    rw [he]
    simp only [Option.getD_none, Option.isSome_none, zE] at hlk
    clear h hx ho hko hf he
    go_enter Try.func49, Try.ntmps49
    go_upto_region 1 with fail
    rw [← hE]
    clear hE
    go_wp2_with fail
    refine HCL.out.mono ?_
    rintro e w1 ⟨rfl, rfl⟩
    go_wp2_with fail
    go_ret2
    exact ⟨rfl, HO.out.same (Only.alloc _ _ _)⟩
  | some x =>
    have he : nextF i k L = firstF (x.pl + 1) k L := by unfold nextF; rw [hf]
    rw [hf] at hlk
    simp only [Option.getD_some, Option.isSome_some] at hlk
    rw [he]
    have hxm := (idF_some hf).1
    have hb1 := h.pl.low x hxm
    have hb2 := h.pl.high x hxm
    have hn := h.nums
    have hw : IntKind.i64.wrap (x.pl + 1) = x.pl + 1 := IntWalk.i64_in _ (by omega)
    have HF : Hid (∀ W, Only (fun _ => False) E W → Calls Try.prog 66 #[.pointer (some ⟨b, 0, none⟩), .int .i64 (x.pl + 1), kyV k] W fun e w' => e = .returned (.tuple #[enV ((firstF (x.pl + 1) k L).getD zE), .bool (firstF (x.pl + 1) k L).isSome]) ∧ Only (fun _ => False) W w') := Lib.hid (fun W o => first_call ((h.later ho).later o) _ k hko)
    generalize (firstF (x.pl + 1) k L).getD zE = gx at *
    generalize (firstF (x.pl + 1) k L).isSome = gy at *
    have HN : Hid (Only (fun _ => False) E (enW E x) ∧ Five E.heap.size x (enW E x)) := Lib.hid ⟨Only.alloc _ _ _, Five.new E x⟩
    obtain ⟨v0, v1, v2, v3, v4⟩ := HN.out.2.cells
    obtain ⟨m0, m1, m2⟩ := (HX.out.only HN.out.1 (fun e => e)).cells
    clear h hx ho hko hf he hxm hb1 hb2 hn
    go_enter Try.func49, Try.ntmps49
    go_upto_region 1 with fail
    rw [← hE]
    clear hE
    go_wp2_with fail
    refine HCL.out.mono ?_
    rintro e w1 ⟨rfl, rfl⟩
    go_wp2_with fail
    refine (HF.out _ HN.out.1).mono ?_
    rintro r u ⟨rfl, hou⟩
    have HU : Hid (Only (fun _ => False) w1 (enW u gx) ∧ Five u.heap.size gx (enW u gx)) := Lib.hid ⟨HN.out.1.same (hou.same (Only.alloc _ _ _)), Five.new u gx⟩
    obtain ⟨y0, y1, y2, y3, y4⟩ := HU.out.2.cells
    clear hou v0 v1 v2 v3 v4 m0 m1 m2 c0 c1 c2 c3 c4 hlk
    go_wp2_with fail
    go_ret2
    exact ⟨rfl, HO.out.same HU.out.1⟩
end
end
end Go.Proofs.Ythfilpacmllhpab.idx
/- Selection by keys: the call All. -/
namespace Go.Proofs.Ythfilpacmllhpab.idx
section
set_option maxRecDepth 100000
open Go.RowKit Go.Proofs.Ythfilpacmllhpab.own Go.Lib Go.Maps Go.WideMaps
def encN (i : Int) : List Value := [.int .i64 i]
theorem liesN : Lies encN 1 := ⟨fun _ => rfl, by
  intro x u hu
  simp [encN] at hu
  rw [hu]; rfl, by omega⟩
theorem infoN : (Try.prog.info? 3).map (fun i => (i.zero, i.size, i.bytes)) = some (some (.int .i64 0), 1, 8) := by kernel_rfl
abbrev RowN (B : Nat) (ao : Option Addr) (cap : Nat) (xs : List Int) (w : World) : Prop := RowOf encN 1 3 B ao cap xs w
theorem row_apart {α : Type} {enc : α → List Value} {s E B : Nat} {ao : Option Addr} {cap : Nat} {xs : List α} {w : World} {b : Nat} {cs : Array Value} {t : TypeId} (h : RowOf enc s E B ao cap xs w) (hb : w.heap[b]? = some (.cells cs t (0, 0))) (hne : t ≠ E) : ¬ RowAt ao b := by
  rintro ⟨g, hg, e⟩
  rcases h.2 with ⟨h1, _⟩ | ⟨g', cap', cur, hv, _, hbb, _⟩
  · simp only [Value.slice.injEq] at h1
    rw [h1.1] at hg; cases hg
  · simp only [Value.slice.injEq] at hv
    rw [hv.1] at hg
    cases hg
    have e' : b = g' := e
    rw [e', hbb] at hb
    injection hb with hb
    injection hb with _ h2 _
    exact hne h2.symm
end
end Go.Proofs.Ythfilpacmllhpab.idx
/- Selection by keys: a table with an entry more. -/
namespace Go.Proofs.Ythfilpacmllhpab.idx
section
set_option maxRecDepth 100000
open Go.RowKit Go.Proofs.Ythfilpacmllhpab.own Go.Lib Go.Maps Go.WideMaps
theorem step_mapUpdate {H : Type} {P : Program} {ops : Array Oper} {o : Oper} {a : Act} {w : World} {K : Act → World → Prop} {Q : Exit → Act → World → Prop} {F : Prop} (hgd : o.guard = none) (m x v : Operand) (t : TypeId) (hop : o.op = Op.mapUpdate t m x v)
    (k e : TypeId) (Kd : Keyed P k) (ht : P.underlying t = some (.map k e)) (R : Value → Option (DataW H × List MemPlace)) (b n : Nat) (D : DataW H)
    (hm : a.eval m = .map (some b)) (hown : w.ownsMap P k R b n D) (hn : n < maxLen) (key val : Value) (kl : Lit) (hx : a.eval x = key) (hv : a.eval v = val) (hkey : keyOf P k key = some kl)
    (d : DataW H) (ps : List MemPlace) (hval : R val = some (d, ps))
    (hK : ∀ w', w'.ownsMap P k R b (n + 1) (D.put kl d) → w.mapTurned w' b → K (a.put o.dst undef) w') :
    if Region.wanted o (yielded ops a.tmps) = true then Oper.wp P o a w K Q else F := by
  have hw : Region.wanted o (yielded ops a.tmps) = true := by simp [Region.wanted, hgd]
  rw [if_pos hw]
  obtain ⟨w', hrun, r1, r2⟩ := hown.store Kd ht hn hkey hval
  unfold Oper.wp
  simp [execOp, hop, hm, hx, hv, hrun, Result.andThen]
  exact hK w' r1 r2
theorem Only.turned {w w' : World} {b : Nat} (h : w.mapTurned w' b) : Only (· = b) w w' := (Only.grown h.grown).mono (fun _ _ e => by simpa using e)
def insF (f : Bool) (e : En) (xs : List En) : List En := if f = true then e :: xs else xs ++ [e]
theorem ins_len (f : Bool) (e : En) (xs : List En) : (insF f e xs).length = xs.length + 1 := by unfold insF; split <;> simp
theorem mem_ins {f : Bool} {e x : En} {xs : List En} : x ∈ insF f e xs ↔ x = e ∨ x ∈ xs := by
  unfold insF
  split
  · rw [List.mem_cons]
  · rw [List.mem_append, List.mem_singleton, or_comm]
theorem ins_perm (f : Bool) (e : En) (xs : List En) : (insF f e xs).Perm (e :: xs) := by
  unfold insF
  split
  · exact List.Perm.refl _
  · exact List.perm_append_comm
theorem ins_filter (f : Bool) (e : En) (xs : List En) (q : En → Bool) : (insF f e xs).filter q = if q e = true then insF f e (xs.filter q) else xs.filter q := by
  unfold insF
  cases f <;> cases hq : q e <;> simp [hq, List.filter_append]
theorem ins_cls (f : Bool) (e : En) (xs : List En) : cls e.key (insF f e xs) = insF f e (cls e.key xs) := by
  unfold cls
  rw [ins_filter, if_pos (eqK_refl _)]
theorem ins_cls_ne {f : Bool} {e : En} {xs : List En} {k : Ky} (h : k ≠ e.key) : cls k (insF f e xs) = cls k xs := by
  unfold cls
  rw [ins_filter, if_neg (by rw [eqK_ne (fun x => h x.symm)]; simp)]
/-- The entry that is put in: ahead of all, or behind all. -/
def Ends (f : Bool) (e : En) (xs : List En) : Prop := if f = true then ∀ x ∈ xs, e.pl < x.pl else ∀ x ∈ xs, x.pl < e.pl
theorem Ends.sub {f : Bool} {e : En} {xs ys : List En} (h : Ends f e xs) (hs : ∀ y ∈ ys, y ∈ xs) : Ends f e ys := by
  unfold Ends at *
  cases f with
  | true => exact fun y hy => h y (hs y hy)
  | false => exact fun y hy => h y (hs y hy)
theorem ins_rises {f : Bool} {e : En} {xs : List En} (hr : Rises xs) (he : Ends f e xs) : Rises (insF f e xs) := by
  unfold Ends at he
  unfold insF
  cases f with
  | true => exact List.pairwise_cons.2 ⟨he, hr⟩
  | false =>
    refine List.pairwise_append.2 ⟨hr, List.pairwise_singleton _ _, fun x hx y hy => ?_⟩
    rw [List.mem_singleton.1 hy]
    exact he x hx
theorem ins_alone {f : Bool} {e : En} {xs : List En} (hr : Alone xs) (he : ∀ x ∈ xs, x.id ≠ e.id) : Alone (insF f e xs) :=
  ((ins_perm f e xs).pairwise_iff (R := fun a b : En => a.id ≠ b.id) (fun {a b} (h : a.id ≠ b.id) => h.symm)).2 (List.pairwise_cons.2 ⟨fun x hx => (he x hx).symm, hr⟩)
theorem pairs {α : Type} {R : α → α → Prop} (hs : ∀ x y, R x y → R y x) : ∀ {l : List α}, l.Pairwise R → ∀ p ∈ l, ∀ q ∈ l, p ≠ q → R p q := by
  intro l
  induction l with
  | nil => intro _ p hp; cases hp
  | cons a r ih =>
    intro h p hp q hq hne
    have h' := List.pairwise_cons.1 h
    rcases List.mem_cons.1 hp with e1 | hp1
    · rcases List.mem_cons.1 hq with e2 | hq1
      · exact absurd (e1.trans e2.symm) hne
      · rw [e1]; exact h'.1 q hq1
    · rcases List.mem_cons.1 hq with e2 | hq1
      · rw [e2]; exact hs _ _ (h'.1 p hp1)
      · exact ih h'.2 p hp1 q hq1 hne
theorem with_any (f : Bool) (ao : Option Addr) (cap : Nat) (xs : List En) (e : En) (w : World) (h : RowE ao cap xs w) (hs : Rises xs) (hl : xs.length ≤ 1000000) (hp : Ends f e xs) :
    Calls Try.prog 60 #[.slice ao xs.length cap, enV e] w (AnsRow ao (insF f e xs) w) := by
  unfold Ends at hp
  unfold insF
  cases f with
  | true => exact with_front ao cap xs e w h hs hl hp
  | false => exact with_back ao cap xs e w h hs hl hp
theorem row_ne_map {H : Type} {k : TypeId} {R : Value → Option (DataW H × List MemPlace)} {m n : Nat} {D : DataW H} {ao : Option Addr} {cap : Nat} {xs : List En} {w : World} (h : RowE ao cap xs w) (hm : w.ownsMap Try.prog k R m n D) : ¬ RowAt ao m := by
  rintro ⟨g, hg, e⟩
  rcases h.2 with ⟨h1, _⟩ | ⟨g', cap', cur, hv, _, hbb, _⟩
  · simp only [Value.slice.injEq] at h1
    rw [h1.1] at hg; cases hg
  · simp only [Value.slice.injEq] at hv
    rw [hv.1] at hg
    cases hg
    obtain ⟨es, clock, hb, _⟩ := hm
    have e' : m = g' := e
    rw [e', hbb] at hb
    cases hb
theorem not_at {ao : Option Addr} {m : Nat} (h : ¬ RowAt ao m) : ∀ g, ao = some g → ¬ (g.block = m) := fun g hg e => h ⟨g, hg, e.symm⟩
section
variable {b mr mi N : Nat} {L : List En} {lo hi : Int} {ks : Ks} {ao ao' a a' : Option Addr} {cap cap' c c' nr ni : Nat} {Dr Dr' : D2} {Di Di' : D1} {W W0 W1 W2 W3 W4 W5 : World} {f : Bool} {e : En}
set_option maxHeartbeats 4000000 in
theorem TabI.added (h : TabI b mr mi N L lo hi ks ao cap nr ni Dr Di W0) (hN : nr + 1 ≤ N ∧ ni + 1 ≤ N) (hpl : lo < e.pl ∧ e.pl < hi) (hends : Ends f e L) (hkey : e.key.Ok ∧ Fit e.id ∧ (e.key.k = 0 → e.key = zK)) (hid : ∀ x ∈ L, x.id ≠ e.id) (hfew : L.length < 4096)
    (o1 : Only (· = mi) W0 W1) (hi1 : W1.ownsMap Try.prog 3 enR mi (ni + 1) (Di.put (keyN e.id) (enD e)))
    (o2 : Only (RowAt ao) W1 W2) (r2 : RowE ao' cap' (insF f e L) W2) (n2 : NewRow W1.heap.size ao ao')
    (o3 : Only (· = b) W2 W3) (box3 : W3.heap[b]? = some (.cells #[.slice ao' (insF f e L).length cap', .map (some mr), .map (some mi), .int .i64 lo, .int .i64 hi] 119 (0, 0)))
    (hrow : RowE a c (cls e.key L) W0) (hat : (a = none ∧ c = 0 ∧ ∀ p ∈ ks, p.1 ≠ e.key) ∨ (e.key, (a, (cls e.key L).length, c)) ∈ ks)
    (o4 : Only (RowAt a) W3 W4) (r4 : RowE a' c' (insF f e (cls e.key L)) W4) (n4 : NewRow W3.heap.size a a')
    (o5 : Only (· = mr) W4 W5) (hm5 : W5.ownsMap Try.prog 37 hdR mr (nr + 1) (Dr.put (keyK e.key) (.held (a', (insF f e (cls e.key L)).length, c')))) :
    TabI b mr mi N (insF f e L) lo hi (setK ks e.key (a', (insF f e (cls e.key L)).length, c')) ao' cap' (nr + 1) (ni + 1) (Dr.put (keyK e.key) (.held (a', (insF f e (cls e.key L)).length, c'))) (Di.put (keyN e.id) (enD e)) W5 := by
  have hb0 := lt_of_block h.box
  obtain ⟨_, _, hmi0, _⟩ := id h.idm
  obtain ⟨_, _, hmr0, _⟩ := id h.rkm
  have hmiL := lt_of_block hmi0
  have hmrL := lt_of_block hmr0
  have hbm : b ≠ mi ∧ b ≠ mr := by
    constructor <;> (intro e; have := h.box; rw [e] at this; first | (rw [hmi0] at this; cases this) | (rw [hmr0] at this; cases this))
  -- rows that stood at the beginning
  have hstay : ∀ (q : Option Addr) (cq : Nat) (xs : List En), RowE q cq xs W0 → (∀ g g', ao = some g → q = some g' → g.block ≠ g'.block) → (∀ g g', a = some g → q = some g' → g.block ≠ g'.block) → RowE q cq xs W5 := fun q cq xs hq ha1 ha2 => by
    have q1 := hq.only o1 (fun g hg => not_at (row_ne_map hq h.idm) g hg)
    have q2 := q1.only o2 (fun g hg x => by obtain ⟨g2, hg2, e2⟩ := x; exact ha1 g2 g hg2 hg e2.symm)
    have hb1 : W1.heap[b]? = _ := (o1.block b hb0 hbm.1).trans h.box
    have hb2 : W2.heap[b]? = _ := (o2.block b (Nat.lt_of_lt_of_le hb0 o1.size) (row_apart (h.row.only o1 (fun g hg => not_at (row_ne_map h.row h.idm) g hg)) hb1 (by decide))).trans hb1
    have q3 := q2.only o3 (fun g hg x => row_apart q2 hb2 (by decide) ⟨g, hg, x.symm⟩)
    have q4 := q3.only o4 (fun g hg x => by obtain ⟨g2, hg2, e2⟩ := x; exact ha2 g2 g hg2 hg e2.symm)
    have m1 : W1.ownsMap Try.prog 37 hdR mr nr Dr := ownsMap_only h.rkm o1 h.apm
    have m2 := ownsMap_only m1 o2 (row_ne_map (h.row.only o1 (fun g hg => not_at (row_ne_map h.row h.idm) g hg)) m1)
    have m3 := ownsMap_only m2 o3 (fun e => hbm.2 e.symm)
    have ra1 := hrow.only o1 (fun g hg => not_at (row_ne_map hrow h.idm) g hg)
    have q4' := o4
    have m4 : W4.ownsMap Try.prog 37 hdR mr nr Dr := ownsMap_only m3 o4 (by
      rintro ⟨g, hg, e⟩
      rcases hrow.2 with ⟨h1, _⟩ | ⟨g', cap2, cur, hv, _, hbb, _⟩
      · simp only [Value.slice.injEq] at h1
        rw [h1.1] at hg; cases hg
      · simp only [Value.slice.injEq] at hv
        rw [hv.1] at hg
        cases hg
        have e' : mr = g' := e
        rw [e', hbb] at hmr0
        cases hmr0)
    exact q4.only o5 (fun g hg x => row_ne_map q4 m4 ⟨g, hg, x.symm⟩)
  have hra : ∀ k, RowAt a k → k < W0.heap.size ∧ k ≠ b ∧ k ≠ mi ∧ k ≠ mr := fun k hk => by
    refine ⟨?_, fun e => row_apart hrow h.box (by decide) (e ▸ hk), fun e => row_ne_map hrow h.idm (e ▸ hk), fun e => row_ne_map hrow h.rkm (e ▸ hk)⟩
    obtain ⟨g, hg, e⟩ := hk
    rw [e]; exact (hrow.head g hg).2.2
  have hrao : ∀ k, RowAt ao k → k < W0.heap.size ∧ k ≠ b ∧ k ≠ mi ∧ k ≠ mr := fun k hk => by
    refine ⟨?_, fun e => row_apart h.row h.box (by decide) (e ▸ hk), fun e => row_ne_map h.row h.idm (e ▸ hk), fun e => row_ne_map h.row h.rkm (e ▸ hk)⟩
    obtain ⟨g, hg, e⟩ := hk
    rw [e]; exact (h.row.head g hg).2.2
  have s1 := o1.size
  have s2 := o2.size
  have s3 := o3.size
  have s4 := o4.size
  -- the rows' blocks keep apart
  have hao' : ∀ g, ao' = some g → g.block < W2.heap.size := fun g hg => (r2.head g hg).2.2
  have ha_ao : ∀ g g', ao = some g → a = some g' → g.block ≠ g'.block := fun g g' hg hg' => by
    rcases hat with ⟨rfl, _, _⟩ | hat
    · cases hg'
    · exact h.ap1 _ hat g g' hg hg'
  have hnew1 : ∀ g g', ao' = some g → a' = some g' → g.block ≠ g'.block := fun g g' hg hg' e => by
    have hgl := hao' g hg
    rcases n4 g' hg' with h4 | h4
    · rcases n2 g hg with h2 | h2
      · exact ha_ao g g' h2 h4 e
      · have := (hra _ ⟨g', h4, rfl⟩).1; omega
    · omega
  have hold1 : ∀ p ∈ ks, ∀ g g', ao' = some g → p.2.1 = some g' → g.block ≠ g'.block := fun p hp g g' hg hg' e => by
    rcases n2 g hg with h2 | h2
    · exact h.ap1 p hp g g' h2 hg' e
    · have := ((h.rows p hp).1.head g' hg').2.2; omega
  have hold2 : ∀ p ∈ ks, p.1 ≠ e.key → ∀ g g', a = some g → p.2.1 = some g' → g.block ≠ g'.block := fun p hp hne g g' hg hg' ee => by
    rcases hat with ⟨rfl, _, _⟩ | hat
    · cases hg
    · have := pairs (R := fun p q : Ky × Hd => ∀ g g', p.2.1 = some g → q.2.1 = some g' → g.block ≠ g'.block) (fun x y hxy g g' h1 h2 e => hxy g' g h2 h1 e.symm) h.ap2 p hp _ hat (fun e' => hne (by rw [e']))
      exact this g' g hg' hg ee.symm
  have hold3 : ∀ p ∈ ks, p.1 ≠ e.key → ∀ g g', a' = some g → p.2.1 = some g' → g.block ≠ g'.block := fun p hp hne g g' hg hg' ee => by
    rcases n4 g hg with h4 | h4
    · exact hold2 p hp hne g g' h4 hg' ee
    · have := ((h.rows p hp).1.head g' hg').2.2; omega
  have hb3 := lt_of_block box3
  have box5 := (o5.block b (Nat.lt_of_lt_of_le hb3 s4) hbm.2).trans ((o4.block b hb3 (fun x => (hra b x).2.1 rfl)).trans box3)
  have row5 : RowE ao' cap' (insF f e L) W5 := by
    have hb1 : W1.heap[b]? = _ := (o1.block b hb0 hbm.1).trans h.box
    have hb2 : W2.heap[b]? = _ := (o2.block b (Nat.lt_of_lt_of_le hb0 s1) (fun x => (hrao b x).2.1 rfl)).trans hb1
    have q3 := r2.only o3 (fun g hg x => row_apart r2 hb2 (by decide) ⟨g, hg, x.symm⟩)
    have q4 := q3.only o4 (fun g hg x => by
      obtain ⟨g2, hg2, e2⟩ := x
      rcases n2 g hg with h2 | h2
      · exact ha_ao g g2 h2 hg2 e2
      · have := (hra _ ⟨g2, hg2, rfl⟩).1; omega)
    refine q4.only o5 (fun g hg x => ?_)
    have x' : g.block = mr := x
    rcases n2 g hg with h2 | h2
    · exact (hrao _ ⟨g, h2, rfl⟩).2.2.2 x'
    · omega
  have idm5 : W5.ownsMap Try.prog 3 enR mi (ni + 1) (Di.put (keyN e.id) (enD e)) :=
    ownsMap_only (ownsMap_only (ownsMap_only (ownsMap_only hi1 o2 (fun x => (hrao mi x).2.2.1 rfl)) o3 (fun x => hbm.1 x.symm)) o4 (fun x => (hra mi x).2.2.1 rfl)) o5 (fun x => h.apm x.symm)
  have r5 : RowE a' c' (insF f e (cls e.key L)) W5 := r4.only o5 (fun g hg x => by
    have x' : g.block = mr := x
    rcases n4 g hg with h4 | h4
    · exact (hra _ ⟨g, h4, rfl⟩).2.2.2 x'
    · omega)
  refine ⟨box5, row5, idm5, h.idl.put hid (ins_perm f e L), hm5, h.rkl.put h.ksok hkey.1 _, h.ksok.set hkey.1 _, fun p hp => ?_, fun x hx => ?_, fun p hp => ?_, ?_, h.apm, ⟨ins_rises h.pl.rises hends, fun x hx => ?_, fun x hx => ?_⟩, ins_alone h.alone hid, fun x hx => ?_, by rw [ins_len]; omega, ?_⟩
  · rcases List.mem_cons.1 hp with rfl | hp
    · exact ⟨by rw [ins_cls]; exact r5, by rw [ins_cls]⟩
    · obtain ⟨hp1, hp2⟩ := mem_delK.1 hp
      rw [ins_cls_ne hp2]
      exact ⟨hstay _ _ _ (h.rows p hp1).1 (h.ap1 p hp1) (hold2 p hp1 hp2), (h.rows p hp1).2⟩
  · by_cases hk : x.key = e.key
    · exact ⟨_, List.mem_cons.2 (.inl (by rw [hk]))⟩
    · rcases mem_ins.1 hx with rfl | hx
      · exact absurd rfl hk
      · obtain ⟨hd, hm⟩ := h.cover x hx
        exact ⟨hd, List.mem_cons.2 (.inr (mem_delK.2 ⟨hm, hk⟩))⟩
  · rcases List.mem_cons.1 hp with rfl | hp
    · exact hnew1
    · exact hold1 p (mem_delK.1 hp).1
  · refine List.pairwise_cons.2 ⟨fun p hp => ?_, h.ap2.sublist List.filter_sublist⟩
    obtain ⟨hp1, hp2⟩ := mem_delK.1 hp
    exact hold3 p hp1 hp2
  · rcases mem_ins.1 hx with rfl | hx
    · exact hpl.1
    · exact h.pl.low x hx
  · rcases mem_ins.1 hx with rfl | hx
    · exact hpl.2
    · exact h.pl.high x hx
  · rcases mem_ins.1 hx with rfl | hx
    · exact hkey
    · exact h.keys x hx
  · have := h.nums; omega
end
end
end Go.Proofs.Ythfilpacmllhpab.idx
/- Selection by keys: the call Add. -/
namespace Go.Proofs.Ythfilpacmllhpab.idx
section
set_option maxRecDepth 100000
open Go.RowKit Go.Proofs.Ythfilpacmllhpab.own Go.Lib Go.Maps Go.WideMaps
section
variable {b mr mi N : Nat} {L : List En} {lo hi : Int} {ks : Ks} {ao : Option Addr} {cap nr ni : Nat} {Dr : D2} {Di : D1} {w w' : World}
theorem TabI.boxed (h : TabI b mr mi N L lo hi ks ao cap nr ni Dr Di w) (o : Only (· = b) w w') {lo' hi' : Int} (hb : w'.heap[b]? = some (.cells #[.slice ao L.length cap, .map (some mr), .map (some mi), .int .i64 lo', .int .i64 hi'] 119 (0, 0))) (hp : Between L lo' hi') (hn : nr ≤ N + 1 ∧ ni ≤ N + 1 ∧ -(1 + ((N + 1 : Nat) : Int)) ≤ lo' ∧ lo' ≤ -1 ∧ 0 ≤ hi' ∧ hi' ≤ ((N + 1 : Nat) : Int) ∧ N + 1 ≤ 1000000) : TabI b mr mi (N + 1) L lo' hi' ks ao cap nr ni Dr Di w' := by
  have hbm : b ≠ mi ∧ b ≠ mr := by
    obtain ⟨_, _, hmi0, _⟩ := id h.idm
    obtain ⟨_, _, hmr0, _⟩ := id h.rkm
    constructor <;> (intro e; have := h.box; rw [e] at this; first | (rw [hmi0] at this; cases this) | (rw [hmr0] at this; cases this))
  have hr : ∀ (q : Option Addr) (cq : Nat) (xs : List En), RowE q cq xs w → RowE q cq xs w' := fun q cq xs hq => hq.only o (fun g hg x => row_apart hq h.box (by decide) ⟨g, hg, x.symm⟩)
  exact ⟨hb, hr _ _ _ h.row, ownsMap_only h.idm o (fun x => hbm.1 x.symm), h.idl, ownsMap_only h.rkm o (fun x => hbm.2 x.symm), h.rkl, h.ksok, fun p hp => ⟨hr _ _ _ (h.rows p hp).1, (h.rows p hp).2⟩, h.cover, h.ap1, h.ap2, h.apm, hp, h.alone, h.keys, h.few, hn⟩
theorem TabI.placed (h : TabI b mr mi N L lo hi ks ao cap nr ni Dr Di w) (hN : N + 1 ≤ 1000000) (f : Bool) : Calls Try.prog 59 #[.pointer (some ⟨b, 0, none⟩), .bool f] w fun e w' => e = .returned (.int .i64 (if f = true then lo else hi)) ∧ TabI b mr mi (N + 1) L (if f = true then lo - 1 else lo) (if f = true then hi else hi + 1) ks ao cap nr ni Dr Di w' ∧ Only (· = b) w w' := by
  have hn := h.nums
  cases f with
  | true =>
    refine (place_front h).mono ?_
    rintro e w' ⟨rfl, rfl⟩
    have o : Only (· = b) w (w.setCell ⟨b, 3, none⟩ (.int .i64 (lo - 1))) := Only.setCell (S := (· = b)) (p := ⟨b, 3, none⟩) w rfl _
    refine ⟨rfl, h.boxed o (by rw [blk_set h.box 3]; rfl) ⟨h.pl.rises, fun x hx => by have := h.pl.low x hx; simp; omega, h.pl.high⟩ (by simp; omega), o⟩
  | false =>
    refine (place_back h).mono ?_
    rintro e w' ⟨rfl, rfl⟩
    have o : Only (· = b) w (w.setCell ⟨b, 4, none⟩ (.int .i64 (hi + 1))) := Only.setCell (S := (· = b)) (p := ⟨b, 4, none⟩) w rfl _
    refine ⟨rfl, h.boxed o (by rw [blk_set h.box 4]; rfl) ⟨h.pl.rises, h.pl.low, fun x hx => by have := h.pl.high x hx; simp; omega⟩ (by simp; omega), o⟩
/-- The blocks that a table owns. -/
def OwnT (b mr mi : Nat) (ao : Option Addr) (ks : Ks) (k : Nat) : Prop := k = b ∨ k = mr ∨ k = mi ∨ RowAt ao k ∨ ∃ p ∈ ks, RowAt p.2.1 k
/-- The blocks of a kind that tables own, from a number on. -/
def Ixy (B : Nat) (W : World) (k : Nat) : Prop := B ≤ k ∧ ((∃ cs, W.heap[k]? = some (.cells cs 119 (0, 0))) ∨ (∃ cs, W.heap[k]? = some (.cells cs 122 (0, 0))) ∨ (∃ es c, W.heap[k]? = some (.map es c)))
/-- A table's blocks lie from a number on. -/
structure Ab (B b mr mi : Nat) (ao : Option Addr) (ks : Ks) : Prop where
  b : B ≤ b
  mr : B ≤ mr
  mi : B ≤ mi
  row : ∀ k, RowAt ao k → B ≤ k
  rows : ∀ p ∈ ks, ∀ k, RowAt p.2.1 k → B ≤ k
def TabB (B b N : Nat) (L : List En) (lo hi : Int) (W : World) : Prop := ∃ mr mi ks ao cap nr ni Dr Di, TabI b mr mi N L lo hi ks ao cap nr ni Dr Di W ∧ Ab B b mr mi ao ks
theorem Ab.put {B b mr mi : Nat} {ao ao' : Option Addr} {ks : Ks} (h : Ab B b mr mi ao ks) {n n' : Nat} (hn : B ≤ n) (hn' : B ≤ n') (h1 : NewRow n ao ao') {k : Ky} {a a' : Option Addr} {m c : Nat} (ha : ∀ k, RowAt a k → B ≤ k) (h2 : NewRow n' a a') : Ab B b mr mi ao' (setK ks k (a', m, c)) := by
  have hr : ∀ {x x' : Option Addr} {q : Nat}, B ≤ q → NewRow q x x' → (∀ k, RowAt x k → B ≤ k) → ∀ k, RowAt x' k → B ≤ k := fun hq hw hx k hk => by
    obtain ⟨g, hg, rfl⟩ := hk
    rcases hw g hg with e | e
    · exact hx _ ⟨g, e, rfl⟩
    · omega
  refine ⟨h.b, h.mr, h.mi, hr hn h1 h.row, fun p hp k hk => ?_⟩
  rcases List.mem_cons.1 hp with rfl | hp
  · exact hr hn' h2 ha k hk
  · exact h.rows p (List.mem_filter.1 hp).1 k hk
set_option maxHeartbeats 8000000 in
theorem add_there (h : TabI b mr mi N L lo hi ks ao cap nr ni Dr Di w) (i : Int) (hi : Fit i) (k : Ky) (f : Bool) (x : En) (hx : idF i L = some x) :
    Calls Try.prog 39 #[.pointer (some ⟨b, 0, none⟩), .int .i64 i, kyV k, .bool f] w fun e w' => e = .returned (.int .i64 5) ∧ Only (fun _ => False) w w' := by
  obtain ⟨E, hE⟩ : ∃ E, E = w.alloc (.cells #[.int .i64 k.k, .string k.s, .int .i64 k.n] 37) := ⟨_, rfl⟩
  have ho : Only (fun _ => False) w E := by rw [hE]; exact Only.alloc _ _ _
  have HO := Lib.hid ho
  have HCL := Lib.hid (closed_no (h.later ho))
  obtain ⟨c0, c1, c2, c3, c4⟩ := (h.later ho).cells
  have hlk := (h.later ho).look_id hi
  rw [hx] at hlk
  simp only [Option.getD_some, Option.isSome_some] at hlk
  clear h ho hx
  go_enter Try.func39, Try.ntmps39
  go_upto_region 1 with fail
  rw [← hE]
  clear hE
  go_wp2_with fail
  refine HCL.out.mono ?_
  rintro e w1 ⟨rfl, rfl⟩
  go_wp2_with fail
  go_ret
  exact ⟨rfl, HO.out.same (Only.alloc _ _ _)⟩
set_option maxHeartbeats 8000000 in
theorem add_full (h : TabI b mr mi N L lo hi ks ao cap nr ni Dr Di w) (i : Int) (hi : Fit i) (k : Ky) (f : Bool) (hx : idF i L = none) (hn : 4096 ≤ L.length) :
    Calls Try.prog 39 #[.pointer (some ⟨b, 0, none⟩), .int .i64 i, kyV k, .bool f] w fun e w' => e = .returned (.int .i64 2) ∧ Only (fun _ => False) w w' := by
  obtain ⟨E, hE⟩ : ∃ E, E = w.alloc (.cells #[.int .i64 k.k, .string k.s, .int .i64 k.n] 37) := ⟨_, rfl⟩
  have ho : Only (fun _ => False) w E := by rw [hE]; exact Only.alloc _ _ _
  have HO := Lib.hid ho
  have HCL := Lib.hid (closed_no (h.later ho))
  have hlk := (h.later ho).look_id hi
  rw [hx] at hlk
  simp only [Option.getD_none, Option.isSome_none, zE] at hlk
  have o2 : Only (fun _ => False) w (E.alloc (.cells #[.int .i64 0, .int .i64 0, .string ⟨#[]⟩, .int .i64 0, .int .i64 0] 122)) := ho.same (Only.alloc _ _ _)
  obtain ⟨c0, c1, c2, c3, c4⟩ := (h.later ho).cells
  obtain ⟨e0, e1, e2, e3, e4⟩ := (h.later o2).cells
  have hlen := (h.later o2).idm.len Try.underlying117
  rw [h.idl.size] at hlen
  have hge : (L.length : Int) ≥ 4096 := by omega
  generalize L.length = n at *
  clear h ho hx hn
  go_enter Try.func39, Try.ntmps39
  go_upto_region 1 with fail
  rw [← hE]
  clear hE
  go_wp2_with fail
  refine HCL.out.mono ?_
  rintro e w1 ⟨rfl, rfl⟩
  go_wp2_with fail
  go_ret
  exact ⟨rfl, HO.out.same (Only.alloc _ _ _)⟩
end
end
end Go.Proofs.Ythfilpacmllhpab.idx
/- Selection by keys: the call Add, of a new entry. -/
namespace Go.Proofs.Ythfilpacmllhpab.idx
section
set_option maxRecDepth 100000
open Go.RowKit Go.Proofs.Ythfilpacmllhpab.own Go.Lib Go.Maps Go.WideMaps
theorem row_kind {ao : Option Addr} {cap : Nat} {xs : List En} {w : World} (h : RowE ao cap xs w) {k : Nat} (hk : RowAt ao k) : ∃ cs, w.heap[k]? = some (.cells cs 122 (0, 0)) := by
  obtain ⟨g, hg, e⟩ := hk
  rcases h.2 with ⟨h1, _⟩ | ⟨g', cap', cur, hv, _, hbb, _⟩
  · simp only [Value.slice.injEq] at h1
    rw [h1.1] at hg; cases hg
  · simp only [Value.slice.injEq] at hv
    rw [hv.1] at hg
    cases hg
    exact ⟨cur, by rw [e]; exact hbb⟩
/-- The entry that is put in. -/
def newE (i : Int) (k : Ky) (f : Bool) (lo hi : Int) : En := ⟨i, plainF k, if f = true then lo else hi⟩
theorem plain_ok {k : Ky} (h : k.Ok) : (plainF k).Ok ∧ ((plainF k).k = 0 → plainF k = zK) := by
  unfold plainF
  split
  · exact ⟨zK_ok, fun _ => rfl⟩
  · exact ⟨h, fun e => absurd e (by assumption)⟩
section
variable {b mr mi N : Nat} {L : List En} {lo hi : Int} {ks : Ks} {ao : Option Addr} {cap nr ni : Nat} {Dr : D2} {Di : D1} {w w' : World}
set_option maxHeartbeats 16000000 in
theorem add_newO (x : En) (lo' hi2 : Int) (h : TabI b mr mi N L lo hi ks ao cap nr ni Dr Di w) (hN : N + 1 ≤ 1000000) (i : Int) (hi' : Fit i) (k : Ky) (hko : k.Ok) (f : Bool) (hx : idF i L = none) (hn : L.length < 4096)
    (hx1 : x.id = i) (hx2 : x.key = plainF k) (hx3 : x.pl = if f = true then lo else hi) (hlo : lo' = if f = true then lo - 1 else lo) (hhi : hi2 = if f = true then hi else hi + 1) :
    Calls Try.prog 39 #[.pointer (some ⟨b, 0, none⟩), .int .i64 i, kyV k, .bool f] w fun e w' => e = .returned (.int .i64 0) ∧ (∃ ao2 cap2 a4 c4 Dr2 Di2, TabI b mr mi (N + 1) (insF f x L) lo' hi2 (setK ks x.key (a4, (insF f x (cls x.key L)).length, c4)) ao2 cap2 (nr + 1) (ni + 1) Dr2 Di2 w' ∧ ∀ k, OwnT b mr mi ao2 (setK ks x.key (a4, (insF f x (cls x.key L)).length, c4)) k → OwnT b mr mi ao ks k ∨ w.heap.size ≤ k) ∧ Only (OwnT b mr mi ao ks) w w' := by
  obtain ⟨E, hE⟩ : ∃ E, E = w.alloc (.cells #[.int .i64 k.k, .string k.s, .int .i64 k.n] 37) := ⟨_, rfl⟩
  have hxk : Three w.heap.size k E := by unfold Three; rw [hE]; exact heap_alloc_new _ _
  have ho : Only (fun _ => False) w E := by rw [hE]; exact Only.alloc _ _ _
  have HO := Lib.hid ho
  have HCL := Lib.hid (closed_no (h.later ho))
  have hlk := (h.later ho).look_id hi'
  rw [hx] at hlk
  simp only [Option.getD_none, Option.isSome_none, zE] at hlk
  obtain ⟨E2, hE2⟩ : ∃ E2, E2 = E.alloc (.cells #[.int .i64 0, .int .i64 0, .string ⟨#[]⟩, .int .i64 0, .int .i64 0] 122) := ⟨_, rfl⟩
  have o2 : Only (fun _ => False) w E2 := by rw [hE2]; exact ho.same (Only.alloc _ _ _)
  have HO2 := Lib.hid o2
  have HT2 := Lib.hid (h.later o2)
  obtain ⟨c0, c1, c2, c3, c4⟩ := (h.later ho).cells
  obtain ⟨e0, e1, e2, e3, e4⟩ := (h.later o2).cells
  obtain ⟨x0, x1, x2⟩ := (hxk.only (S := fun _ => False) (by rw [hE2]; exact Only.alloc _ _ _) (fun e => e) : Three w.heap.size k E2).cells
  have hlen := (h.later o2).idm.len Try.underlying117
  rw [h.idl.size] at hlen
  have hge : ¬ (L.length : Int) ≥ 4096 := by omega
  have HH := Lib.hid h
  have HIX := Lib.hid hx
  have HLN := Lib.hid hn
  have HKO := Lib.hid hko
  have HNN := Lib.hid hN
  have HFI := Lib.hid hi'
  have HPF : Hid (∀ W, Calls Try.prog 58 #[.agg #[.int .i64 k.k, .string k.s, .int .i64 k.n]] W fun e w' => e = .returned (.agg #[.int .i64 x.key.k, .string x.key.s, .int .i64 x.key.n]) ∧ Only (fun _ => False) W w') := Lib.hid (fun W => by rw [hx2]; exact plain_any k W)
  have HPC : Hid (∀ W, TabI b mr mi N L lo hi ks ao cap nr ni Dr Di W → Calls Try.prog 59 #[.pointer (some ⟨b, 0, none⟩), .bool f] W fun e w' => e = .returned (.int .i64 x.pl) ∧ TabI b mr mi (N + 1) L lo' hi2 ks ao cap nr ni Dr Di w' ∧ Only (· = b) W w') := Lib.hid (fun W hT => by rw [hx3, hlo, hhi]; exact hT.placed hN f)
  have HB4 : Hid (lo' < x.pl ∧ x.pl < hi2 ∧ Ends f x L) := Lib.hid (by
    rw [hx3, hlo, hhi]
    have h1 := h.nums
    unfold Ends
    rw [hx3]
    cases f with
    | true => exact ⟨by simp; omega, by simp; omega, fun y hy => h.pl.low y hy⟩
    | false => exact ⟨by simp; omega, by simp; omega, fun y hy => h.pl.high y hy⟩)
  have HX2 := Lib.hid hx2
  subst hx1
  obtain ⟨n, hnl⟩ : ∃ n, n = L.length := ⟨_, rfl⟩
  have HNL := Lib.hid hnl
  rw [← hnl] at c0 e0 hlen hge
  clear h ho hx hn hko hN o2 hxk hi' hnl hx2 hx3 hlo hhi
  go_enter Try.func39, Try.ntmps39
  go_upto_region 1 with fail
  rw [← hE]
  clear hE
  go_wp2_with fail
  refine HCL.out.mono ?_
  rintro e w1 ⟨rfl, rfl⟩
  go_upto_region 6 with fail
  rw [← hE2]
  clear hE2 c0 c1 c2 c3 c4 hlk
  go_wp2_with fail
  refine (HPF.out _).mono ?_
  rintro e w3 ⟨rfl, ho3⟩
  have HT3 := Lib.hid (HT2.out.later ho3)
  have HO3 := Lib.hid (HO2.out.same ho3)
  clear ho3 e0 e1 e2 e3 e4 x0 x1 x2 hlen
  go_wp2_with fail
  refine (HPC.out _ HT3.out).mono ?_
  rintro e w4 ⟨rfl, hT4, ho4⟩
  obtain ⟨w5, hw5⟩ : ∃ w5, w5 = w4.alloc (.cells #[.int .i64 x.id, .int .i64 x.key.k, .string x.key.s, .int .i64 x.key.n, .int .i64 x.pl] 122) := ⟨_, rfl⟩
  have o45 : Only (fun _ => False) w4 w5 := by rw [hw5]; exact Only.alloc _ _ _
  have HT5 : Hid (TabI b mr mi (N + 1) L lo' hi2 ks ao cap nr ni Dr Di w5) := Lib.hid (hT4.later o45)
  have HE5 : Hid (Five w4.heap.size x w5) := Lib.hid (by rw [hw5]; exact Five.new w4 x)
  have HO5 : Hid (Only (· = b) w w5) := Lib.hid (((HO3.out.no _).same ho4).same (o45.no _))
  have HBT : Hid (w.heap.size ≤ w4.heap.size) := Lib.hid (by have := HO3.out.size; have := ho4.size; omega)
  clear hT4 ho4 o45
  go_upto_region 9 with fail
  rw [← hw5]
  clear hw5
  generalize w4.heap.size = bt at *
  obtain ⟨t0, t1, t2, t3, t4⟩ := HT5.out.cells
  obtain ⟨v0, v1, v2, v3, v4⟩ := HE5.out.cells
  go_still_tail 6, (by kernel_rfl)
  change wpList _ _ _ _ _ w5.drew
  have HT6 : Hid (TabI b mr mi (N + 1) L lo' hi2 ks ao cap nr ni Dr Di w5.drew) := Lib.hid (HT5.out.later (Only.drew _ _))
  have HE6 : Hid (Five bt x w5.drew) := Lib.hid (HE5.out.only (Only.drew (fun _ => False) _) (fun e => e))
  have HO6 : Hid (Only (· = b) w w5.drew) := Lib.hid (HO5.out.same (Only.drew _ _))
  clear t0 t1 t2 t3 t4 v0 v1 v2 v3 v4
  generalize w5.drew = w6 at *
  have hni : ni < maxLen := by have := HT6.out.nums; unfold maxLen; omega
  have hkn := keyOfN HFI.out
  have hown6 := HT6.out.idm
  go_wp2_with (first
    | (at_mapUpdate; refine wpList_mapUpdate_in _ rfl _ _ _ 117 rfl 3 122 keyedI Try.underlying117 enR mi ni Di rfl hown6 hni _ _ _ rfl rfl hkn _ [] (enR_mk x) ?_; intro w7 hown7 hturn7)
    | fail)
  have HO7 : Hid (Only (· = mi) w6 w7) := Lib.hid (Only.turned hturn7)
  have HI7 := Lib.hid hown7
  have HAP : Hid (∀ k, RowAt ao k → k < w.heap.size ∧ k ≠ b ∧ k ≠ mi ∧ k ≠ mr) := Lib.hid (fun k hk => by
    refine ⟨?_, fun e => row_apart HH.out.row HH.out.box (by decide) (e ▸ hk), fun e => row_ne_map HH.out.row HH.out.idm (e ▸ hk), fun e => row_ne_map HH.out.row HH.out.rkm (e ▸ hk)⟩
    obtain ⟨g, hg, e⟩ := hk
    rw [e]; exact (HH.out.row.head g hg).2.2)
  have HBM : Hid (b ≠ mi ∧ b ≠ mr ∧ bt ≠ mi ∧ bt ≠ mr ∧ bt ≠ b) := Lib.hid (by
    obtain ⟨_, _, hmi0, _⟩ := id HT6.out.idm
    obtain ⟨_, _, hmr0, _⟩ := id HT6.out.rkm
    have hb := HT6.out.box
    have he := HE6.out
    unfold Five at he
    refine ⟨fun e => ?_, fun e => ?_, fun e => ?_, fun e => ?_, fun e => ?_⟩
    · rw [e, hmi0] at hb; cases hb
    · rw [e, hmr0] at hb; cases hb
    · rw [e, hmi0] at he; cases he
    · rw [e, hmr0] at he; cases he
    · have := lt_of_block HH.out.box
      have := HBT.out
      omega)
  have HB7 : Hid (∀ W, Only (RowAt ao) w7 W → W.heap[b]? = some (.cells #[.slice ao n cap, .map (some mr), .map (some mi), .int .i64 lo', .int .i64 hi2] 119 (0, 0)) ∧ Five bt x W ∧ W.ownsMap Try.prog 37 hdR mr nr Dr) := Lib.hid (fun W o => by
    have hb6 := lt_of_block HT6.out.box
    have hbx : w7.heap[b]? = _ := (HO7.out.block b hb6 HBM.out.1).trans HT6.out.box
    have he7 : Five bt x w7 := HE6.out.only HO7.out (fun e => HBM.out.2.2.1 e)
    have hm7 := ownsMap_only HT6.out.rkm HO7.out HT6.out.apm
    rw [HNL.out]
    refine ⟨(o.block b (lt_of_block hbx) (fun e => (HAP.out b e).2.1 rfl)).trans hbx, he7.only o (fun e => by have := (HAP.out bt e).1; have := HBT.out; omega), ownsMap_only hm7 o (fun e => (HAP.out mr e).2.2.2 rfl)⟩)
  have HR7 : Hid (RowE ao cap L w7) := Lib.hid (HT6.out.row.only HO7.out (fun g hg => not_at (row_ne_map HT6.out.row HT6.out.idm) g hg))
  have HWA : Hid (∀ W, Only (fun _ => False) w7 W → Calls Try.prog 60 #[.slice ao n cap, .agg #[.int .i64 x.id, .int .i64 x.key.k, .string x.key.s, .int .i64 x.key.n, .int .i64 x.pl]] W (AnsRow ao (insF f x L) W)) := Lib.hid (fun W o => by
    rw [HNL.out]
    exact with_any f ao cap L x W (HR7.out.later o) HT6.out.pl.rises (by have := HLN.out; omega) HB4.out.2.2)
  have HIL : Hid ((insF f x L).length = n + 1) := Lib.hid (by rw [ins_len, HNL.out])
  clear hown6 hown7 hturn7 hkn hni
  go_upto_region 10 with fail
  simp only [Act.put]
  go_cut [49] (fun s49 wx => ∃ ao2 cap2, s49 = .slice ao2 (n + 1) cap2 ∧ Hid (∃ W2, Only (RowAt ao) w7 W2 ∧ RowE ao2 cap2 (insF f x L) W2 ∧ NewRow w7.heap.size ao ao2 ∧ wx = W2.setCell ⟨b, 0, none⟩ (.slice ao2 (n + 1) cap2)))
  case first =>
    have q0 := HB7.out w7 (Only.refl _ _)
    have p0 := cell_of_blk q0.1 0
    simp only [List.getElem?_toArray, List.getElem?_cons_zero] at p0
    obtain ⟨v0, v1, v2, v3, v4⟩ := q0.2.1.cells
    clear q0
    go_region_with (go_at_call 60; refine (HWA.out _ (by first | exact Only.drew _ _ | exact Only.refl _ _)).mono ?_; intro r u hu; obtain ⟨ao2, cap2, rfl, hr2, ho2, hn2⟩ := AnsRow.from hu (by first | exact Only.drew (fun _ => False) _ | exact Only.refl (fun _ => False) _); rw [HIL.out]; have HA2 : Hid (Only (RowAt ao) w7 u ∧ RowE ao2 cap2 (insF f x L) u ∧ NewRow w7.heap.size ao ao2) := Lib.hid ⟨ho2, hr2, hn2⟩; have q1 := HB7.out u HA2.out.1; have p1 := cell_of_blk q1.1 0; simp only [List.getElem?_toArray, List.getElem?_cons_zero] at p1; have f1 : u.frozen? ⟨b, 0, none⟩ = false := free_of_blk q1.1 0; clear hu hr2 ho2 hn2 q1)
    all_goals
      go_wp2_with fail
      go_meet
      exact ⟨_, _, rfl, Lib.hid ⟨_, HA2.out.1, HA2.out.2.1, HA2.out.2.2, rfl⟩⟩
  case rest =>
    obtain ⟨ao2, cap2, rfl, hC⟩ := hcut
    obtain ⟨W2, ho2, hr2, hn2, hw3⟩ := hC.out
    obtain ⟨box2, he2, hm2⟩ := HB7.out W2 ho2
    have o3 : Only (· = b) W2 wc := by rw [hw3]; exact Only.setCell (S := (· = b)) (p := ⟨b, 0, none⟩) W2 rfl _
    have box3 : wc.heap[b]? = some (.cells #[.slice ao2 (n + 1) cap2, .map (some mr), .map (some mi), .int .i64 lo', .int .i64 hi2] 119 (0, 0)) := by rw [hw3, blk_set box2 0]; rfl
    have he3 : Five bt x wc := he2.only o3 (fun e => HBM.out.2.2.2.2 e)
    have hm3 : wc.ownsMap Try.prog 37 hdR mr nr Dr := ownsMap_only hm2 o3 (fun e => HBM.out.2.1 e.symm)
    have hkx : x.key.Ok := by rw [HX2.out]; exact (plain_ok HKO.out).1
    obtain ⟨a, c, hlk, hrow6, hat⟩ := HT6.out.look_row hkx
    have hra : ∀ k, RowAt a k → k < w.heap.size ∧ k ≠ b ∧ k ≠ mi ∧ k ≠ mr ∧ OwnT b mr mi ao ks k := fun k hk => by
      rcases hat with ⟨rfl, _, _⟩ | hat
      · obtain ⟨g, hg, _⟩ := hk; cases hg
      · have hr := (HH.out.rows _ hat).1
        refine ⟨?_, fun e => row_apart hr HH.out.box (by decide) (e ▸ hk), fun e => row_ne_map hr HH.out.idm (e ▸ hk), fun e => row_ne_map hr HH.out.rkm (e ▸ hk), .inr (.inr (.inr (.inr ⟨_, hat, hk⟩)))⟩
        obtain ⟨g, hg, e⟩ := hk
        rw [e]; exact (hr.head g hg).2.2
    have haa : ∀ k, RowAt a k → ¬ RowAt ao k := fun k hk hk' => by
      rcases hat with ⟨rfl, _, _⟩ | hat
      · obtain ⟨g, hg, _⟩ := hk; cases hg
      · obtain ⟨g, hg, e⟩ := hk
        obtain ⟨g', hg', e'⟩ := hk'
        exact HT6.out.ap1 _ hat g' g hg' hg (by omega)
    have hrow3 : RowE a c (cls x.key L) wc := ((hrow6.only HO7.out (fun g hg e => (hra _ ⟨g, hg, rfl⟩).2.2.1 e)).only ho2 (fun g hg e => haa _ ⟨g, hg, rfl⟩ e)).only o3 (fun g hg e => (hra _ ⟨g, hg, rfl⟩).2.1 e)
    have HRA := Lib.hid hra
    have HM3 : Hid (∀ u, Only (RowAt a) wc u → u.ownsMap Try.prog 37 hdR mr nr Dr) := Lib.hid (fun u o => ownsMap_only hm3 o (fun e => (HRA.out mr e).2.2.2.1 rfl))
    have HWC : Hid (∀ W, Only (fun _ => False) wc W → Calls Try.prog 60 #[.slice a (cls x.key L).length c, .agg #[.int .i64 x.id, .int .i64 x.key.k, .string x.key.s, .int .i64 x.key.n, .int .i64 x.pl]] W (AnsRow a (insF f x (cls x.key L)) W)) := Lib.hid (fun W o => with_any f a c _ x W (hrow3.later o) (cls_rises HT6.out.pl.rises) (by have := cls_len x.key L; have := HLN.out; omega) (HB4.out.2.2.sub (fun y hy => (mem_cls.1 hy).1)))
    have HK11 : Hid (∀ W, Only (RowAt a) wc W → W.cell? ⟨b, 1, none⟩ = some (.map (some mr)) ∧ W.cell? ⟨bt, 0, none⟩ = some (.int .i64 x.id) ∧ W.cell? ⟨bt, 1, none⟩ = some (.int .i64 x.key.k) ∧ W.cell? ⟨bt, 2, none⟩ = some (.string x.key.s) ∧ W.cell? ⟨bt, 3, none⟩ = some (.int .i64 x.key.n) ∧ W.cell? ⟨bt, 4, none⟩ = some (.int .i64 x.pl)) := Lib.hid (fun W o => ⟨by
      rw [cell_of_blk ((o.block b (lt_of_block box3) (fun e => (HRA.out b e).2.1 rfl)).trans box3)]; rfl, (he3.only o (fun e => by have := (HRA.out bt e).1; have := HBT.out; omega)).cells⟩)
    have HK12 : Hid (∀ u W, Only (RowAt a) wc u → Only (· = mr) u W → W.cell? ⟨b, 1, none⟩ = some (.map (some mr)) ∧ W.cell? ⟨bt, 0, none⟩ = some (.int .i64 x.id) ∧ W.cell? ⟨bt, 1, none⟩ = some (.int .i64 x.key.k) ∧ W.cell? ⟨bt, 2, none⟩ = some (.string x.key.s) ∧ W.cell? ⟨bt, 3, none⟩ = some (.int .i64 x.key.n) ∧ W.cell? ⟨bt, 4, none⟩ = some (.int .i64 x.pl)) := Lib.hid (fun u W o o' => by
      have hbu := (o.block b (lt_of_block box3) (fun e => (HRA.out b e).2.1 rfl)).trans box3
      have heu := he3.only o (fun e => by have := (HRA.out bt e).1; have := HBT.out; omega)
      exact ⟨by rw [cell_of_blk ((o'.block b (lt_of_block hbu) HBM.out.2.1).trans hbu)]; rfl, (heu.only o' (fun e => HBM.out.2.2.2.1 e)).cells⟩)
    have hq := hlk wc.drew (ownsMap_only hm3 (Only.drew (fun _ => False) _) (fun e => e))
    simp only [kyV] at hq
    have hkk := keyOfK hkx
    simp only [kyV] at hkk
    have HFIN : Hid (∀ (u w9 : World) (a' : Option Addr) (c' : Nat), RowE a' c' (insF f x (cls x.key L)) u → Only (RowAt a) wc u → NewRow wc.heap.size a a' → Only (· = mr) u w9 → w9.ownsMap Try.prog 37 hdR mr (nr + 1) (Dr.put (keyK x.key) (.held (a', (insF f x (cls x.key L)).length, c'))) → (∃ ao2 cap2 a4 c4 Dr2 Di2, TabI b mr mi (N + 1) (insF f x L) lo' hi2 (setK ks x.key (a4, (insF f x (cls x.key L)).length, c4)) ao2 cap2 (nr + 1) (ni + 1) Dr2 Di2 w9 ∧ ∀ k, OwnT b mr mi ao2 (setK ks x.key (a4, (insF f x (cls x.key L)).length, c4)) k → OwnT b mr mi ao ks k ∨ w.heap.size ≤ k) ∧ Only (OwnT b mr mi ao ks) w w9) := Lib.hid (fun u w9 a' c' hr4 ho4 hn4 ho5 hm5 => by
      have hnum := HH.out.nums
      have s1 := HO6.out.size
      have s2 := HO7.out.size
      have s3 := ho2.size
      have s4 := o3.size
      refine ⟨⟨ao2, cap2, a', c', _, _, HT6.out.added (a := a) (c := c) ⟨by omega, by omega⟩ ⟨HB4.out.1, HB4.out.2.1⟩ HB4.out.2.2 ⟨hkx, HFI.out, by rw [HX2.out]; exact (plain_ok HKO.out).2⟩ (fun y hy => idF_none HIX.out y hy) HLN.out HO7.out HI7.out ho2 hr2 hn2 o3 (by rw [HIL.out]; exact box3) hrow6 hat ho4 hr4 hn4 ho5 hm5, fun k hk => ?_⟩, ?_⟩
      · rcases hk with e | e | e | ⟨g, hg, e⟩ | ⟨p, hp, g, hg, e⟩
        · exact .inl (.inl e)
        · exact .inl (.inr (.inl e))
        · exact .inl (.inr (.inr (.inl e)))
        · rcases hn2 g hg with h2 | h2
          · exact .inl (.inr (.inr (.inr (.inl ⟨g, h2, e⟩))))
          · exact .inr (by omega)
        · rcases List.mem_cons.1 hp with rfl | hp
          · rcases hn4 g hg with h4 | h4
            · exact .inl (HRA.out k ⟨g, h4, e⟩).2.2.2.2
            · exact .inr (by omega)
          · exact .inl (.inr (.inr (.inr (.inr ⟨p, (mem_delK.1 hp).1, g, hg, e⟩))))
      exact (((((HO6.out.mono (S' := OwnT b mr mi ao ks) (fun k _ e => .inl e)).trans HO7.out (fun k _ e => .inr (.inr (.inl e)))).trans ho2 (fun k _ e => .inr (.inr (.inr (.inl e))))).trans o3 (fun k _ e => .inl e)).trans ho4 (fun k _ e => (HRA.out k e).2.2.2.2)).trans ho5 (fun k _ e => .inr (.inl e)))
    have hnr : nr < maxLen := by have := HT6.out.nums; unfold maxLen; omega
    have HLEN := Lib.hid (ins_len f x (cls x.key L))
    clear hw3 hlk hat hra haa hrow6 hrow3 ho2 hr2 hn2 o3 box2 box3 he2 he3 hm2 hm3 hC hkx
    generalize (cls x.key L).length = m at *
    go_wp2_with fail
    go_region_held3 (fun W => W.cell? ⟨b, 1, none⟩ = some (.map (some mr)) ∧ W.cell? ⟨bt, 0, none⟩ = some (.int .i64 x.id) ∧ W.cell? ⟨bt, 1, none⟩ = some (.int .i64 x.key.k) ∧ W.cell? ⟨bt, 2, none⟩ = some (.string x.key.s) ∧ W.cell? ⟨bt, 3, none⟩ = some (.int .i64 x.key.n) ∧ W.cell? ⟨bt, 4, none⟩ = some (.int .i64 x.pl)) (with_reducible first | exact HK12.out _ _ HOu.out HOM.out | exact HK11.out _ HOu.out | exact HK11.out _ (Only.drew _ _)) (first
      | (go_at_call 60; refine (HWC.out _ (Only.drew _ _)).mono ?_; intro r u hu; obtain ⟨a4, c4, rfl, hr4, ho4, hn4⟩ := AnsRow.from hu (Only.drew (fun _ => False) _); have HOu : Hid (Only (RowAt a) wc u) := Lib.hid ho4; have HRu := Lib.hid hr4; have HNu := Lib.hid hn4; obtain ⟨w9, hrun9, hown9, hturn9⟩ := (HM3.out u HOu.out).store keyedK Try.underlying116 hnr hkk (hdR_mk a4 (insF f x (cls x.key L)).length c4); have HOM : Hid (Only (· = mr) u w9) := Lib.hid (Only.turned hturn9); have HMM := Lib.hid hown9; clear hu hr4 ho4 hn4 hown9 hturn9))
    all_goals
      go_wp2_with fail
      go_ret
      exact ⟨rfl, HFIN.out _ _ _ _ HRu.out HOu.out HNu.out HOM.out HMM.out⟩
theorem add_new {B : Nat} (x : En) (lo' hi2 : Int) (h : TabI b mr mi N L lo hi ks ao cap nr ni Dr Di w) (hab : Ab B b mr mi ao ks) (hN : N + 1 ≤ 1000000) (i : Int) (hi' : Fit i) (k : Ky) (hko : k.Ok) (f : Bool) (hx : idF i L = none) (hn : L.length < 4096)
    (hx1 : x.id = i) (hx2 : x.key = plainF k) (hx3 : x.pl = if f = true then lo else hi) (hlo : lo' = if f = true then lo - 1 else lo) (hhi : hi2 = if f = true then hi else hi + 1) :
    Calls Try.prog 39 #[.pointer (some ⟨b, 0, none⟩), .int .i64 i, kyV k, .bool f] w fun e w' => e = .returned (.int .i64 0) ∧ TabB B b (N + 1) (insF f x L) lo' hi2 w' ∧ Only (Ixy B w) w w' := by
  refine (add_newO x lo' hi2 h hN i hi' k hko f hx hn hx1 hx2 hx3 hlo hhi).mono ?_
  rintro e w' ⟨rfl, ⟨ao2, cap2, a4, c4, Dr2, Di2, hT, hO⟩, ho⟩
  have hown : ∀ k, OwnT b mr mi ao ks k → Ixy B w k := fun k hk => by
    rcases hk with rfl | rfl | rfl | hk | ⟨p, hp, hk⟩
    · exact ⟨hab.b, .inl ⟨_, h.box⟩⟩
    · exact ⟨hab.mr, .inr (.inr (by obtain ⟨es, cl, hb, _⟩ := h.rkm; exact ⟨es, cl, hb⟩))⟩
    · exact ⟨hab.mi, .inr (.inr (by obtain ⟨es, cl, hb, _⟩ := h.idm; exact ⟨es, cl, hb⟩))⟩
    · exact ⟨hab.row k hk, .inr (.inl (row_kind h.row hk))⟩
    · exact ⟨hab.rows p hp k hk, .inr (.inl (row_kind (h.rows p hp).1 hk))⟩
  have hbase : ∀ k, OwnT b mr mi ao2 (setK ks x.key (a4, (insF f x (cls x.key L)).length, c4)) k → B ≤ k := fun k hk => by
    rcases hO k hk with e | e
    · exact (hown k e).1
    · exact Nat.le_trans (Nat.le_trans hab.b (Nat.le_of_lt (lt_of_block h.box))) e
  exact ⟨rfl, ⟨mr, mi, _, ao2, cap2, _, _, _, _, hT, ⟨hab.b, hab.mr, hab.mi, fun k hk => hbase k (.inr (.inr (.inr (.inl hk)))), fun p hp k hk => hbase k (.inr (.inr (.inr (.inr ⟨p, hp, hk⟩))))⟩⟩, ho.mono (fun k _ e => hown k e)⟩
end
end
end Go.Proofs.Ythfilpacmllhpab.idx
/- Selection by keys: keys that meet; a table that isn't there; Drop of a number that isn't there. -/
namespace Go.Proofs.Ythfilpacmllhpab.idx
section
set_option maxRecDepth 100000
open Go.RowKit Go.Proofs.Ythfilpacmllhpab.own Go.Lib Go.Maps Go.WideMaps
theorem equalK (x y : Ky) (w : World) : (Op.equalIn 10000 37 (kyV x) (kyV y)).run Try.prog w = .ok (eqK x y) w := by
  rw [run_equalIn_agg w 9999 37 _ _ (by kernel_rfl) (by kernel_rfl)]
  have h : eqK x y = ((x.k == y.k) && ((x.s.toList == y.s.toList) && (x.n == y.n))) := by unfold eqK; rw [ByteArray.toList_eq, ByteArray.toList_eq, Bool.and_assoc]
  rw [h]
  cases h1 : (x.k == y.k) <;> cases h2 : (x.n == y.n) <;> by_cases h3 : x.s.toList = y.s.toList <;> simp [h3, Program.fieldsOf, Try.underlying37, Op.eqFields, part, go_sem, run_equalIn_int, run_equalIn_string, Try.underlying3, Try.underlying9, h1, h2, Try.isAgg3, Try.isAgg9]
theorem eqqK (x y : Ky) (w : World) : (binOp .eql 37 (kyV x) (kyV y)).run Try.prog w = .ok (.bool (eqK x y)) w := by
  rw [run_eql_struct, equalK]
  rfl
theorem add_nil (i : Int) (k : Ky) (f : Bool) (w : World) : Calls Try.prog 39 #[.pointer none, .int .i64 i, kyV k, .bool f] w fun e w' => e = .returned (.int .i64 6) ∧ Only (fun _ => False) w w' := by
  have HO : Hid (Only (fun _ => False) w (w.alloc (.cells #[.int .i64 k.k, .string k.s, .int .i64 k.n] 37))) := Lib.hid (Only.alloc _ _ _)
  go_enter Try.func39, Try.ntmps39
  go_wp2_with fail
  refine (closed_nil _).mono ?_
  rintro e w1 ⟨rfl, rfl⟩
  go_wp2_with fail
  go_ret
  exact ⟨rfl, HO.out⟩
theorem drop_nil (i : Int) (w : World) : Calls Try.prog 68 #[.pointer none, .int .i64 i] w fun e w' => e = .returned (.int .i64 6) ∧ w' = w := by
  go_enter Try.func68, Try.ntmps68
  go_wp2_with fail
  refine (closed_nil _).mono ?_
  rintro e w1 ⟨rfl, rfl⟩
  go_wp2_with fail
  go_ret
  exact ⟨rfl, rfl⟩
theorem next_nil (i : Int) (k : Ky) (w : World) : Calls Try.prog 49 #[.pointer none, .int .i64 i, kyV k] w fun e w' => e = .returned (.tuple #[.int .i64 0, .bool false]) ∧ Only (fun _ => False) w w' := by
  have HO : Hid (Only (fun _ => False) w (w.alloc (.cells #[.int .i64 k.k, .string k.s, .int .i64 k.n] 37))) := Lib.hid (Only.alloc _ _ _)
  go_enter Try.func49, Try.ntmps49
  go_wp2_with fail
  refine (closed_nil _).mono ?_
  rintro e w1 ⟨rfl, rfl⟩
  go_wp2_with fail
  go_ret2
  exact ⟨rfl, HO.out⟩
theorem head_nil (k : Ky) (w : World) : Calls Try.prog 47 #[.pointer none, kyV k] w fun e w' => e = .returned (.tuple #[.int .i64 0, .bool false]) ∧ Only (fun _ => False) w w' := by
  have HO : Hid (Only (fun _ => False) w (w.alloc (.cells #[.int .i64 k.k, .string k.s, .int .i64 k.n] 37))) := Lib.hid (Only.alloc _ _ _)
  go_enter Try.func47, Try.ntmps47
  go_wp2_with fail
  refine (closed_nil _).mono ?_
  rintro e w1 ⟨rfl, rfl⟩
  go_wp2_with fail
  go_ret2
  exact ⟨rfl, HO.out⟩
theorem len_nil (w : World) : Calls Try.prog 34 #[.pointer none] w fun e w' => e = .returned (.int .i64 0) ∧ w' = w := by
  go_enter Try.func34, Try.ntmps34
  go_wp2_with fail
  refine (closed_nil _).mono ?_
  rintro e w1 ⟨rfl, rfl⟩
  go_wp2_with fail
  go_ret
  exact ⟨rfl, rfl⟩
end
end Go.Proofs.Ythfilpacmllhpab.idx
/- Selection by keys: the key of a term, and of its first argument. -/
namespace Go.Proofs.Ythfilpacmllhpab.idx
section
set_option maxRecDepth 100000
open Go.RowKit Go.Proofs.Ythfilpacmllhpab.own Go.Lib Go.Maps Go.WideMaps
/-- The key of a term that has these fields. -/
def keyF (k n : Int) (s : ByteArray) (m : Nat) : Ky := if k = 2 then ⟨1, ⟨#[]⟩, n⟩ else if k = 3 then ⟨2, s, 0⟩ else if k = 4 then ⟨3, s, m⟩ else zK
theorem key2 (n : Int) (s : ByteArray) (m : Nat) : keyF 2 n s m = ⟨1, ⟨#[]⟩, n⟩ := rfl
theorem key3 (n : Int) (s : ByteArray) (m : Nat) : keyF 3 n s m = ⟨2, s, 0⟩ := rfl
theorem key4 (n : Int) (s : ByteArray) (m : Nat) : keyF 4 n s m = ⟨3, s, m⟩ := rfl
theorem key_no {k : Int} (n : Int) (s : ByteArray) (m : Nat) (h2 : ¬ k = 2) (h3 : ¬ k = 3) (h4 : ¬ k = 4) : keyF k n s m = zK := by unfold keyF; rw [if_neg h2, if_neg h3, if_neg h4]
def keyT (t : Go.Proofs.Ythfilpacmllhpab.terms.T) : Ky := keyF t.k t.n t.s t.l.length
/-- The key of a first argument. -/
def firstK (t : Go.Proofs.Ythfilpacmllhpab.terms.T) : Ky := if t.k = 4 then (match t.l with | [] => zK | x :: _ => keyT x) else zK
/-- A term's box. -/
def Four (b : Nat) (k n : Int) (s : ByteArray) (a : Option Addr) (m c : Nat) (w : World) : Prop := w.heap[b]? = some (.cells #[.int .i64 k, .int .i64 n, .string s, .slice a m c] 31 (0, 0))
theorem Four.cells {b : Nat} {k n : Int} {s : ByteArray} {a : Option Addr} {m c : Nat} {w : World} (h : Four b k n s a m c w) : w.cell? ⟨b, 0, none⟩ = some (.int .i64 k) ∧ w.cell? ⟨b, 1, none⟩ = some (.int .i64 n) ∧ w.cell? ⟨b, 2, none⟩ = some (.string s) ∧ w.cell? ⟨b, 3, none⟩ = some (.slice a m c) := by
  refine ⟨?_, ?_, ?_, ?_⟩ <;> (rw [cell_of_blk h]; rfl)
theorem Four.only {b : Nat} {k n : Int} {s : ByteArray} {a : Option Addr} {m c : Nat} {w w' : World} {S : Nat → Prop} (h : Four b k n s a m c w) (ho : Only S w w') (hS : ¬ S b) : Four b k n s a m c w' := by
  unfold Four at *
  rw [ho.block b (lt_of_block h) hS]
  exact h
set_option maxHeartbeats 4000000 in
theorem keyOf_any (k n : Int) (s : ByteArray) (a : Option Addr) (m c : Nat) (w : World) : Calls Try.prog 61 #[.agg #[.int .i64 k, .int .i64 n, .string s, .slice a m c]] w fun e w' => e = .returned (kyV (keyF k n s m)) ∧ Only (fun _ => False) w w' := by
  obtain ⟨A, hA⟩ : ∃ A, A = w.alloc (.cells #[.int .i64 k, .int .i64 n, .string s, .slice a m c] 31) := ⟨_, rfl⟩
  obtain ⟨E, hE⟩ : ∃ E, E = A.alloc (.cells #[.int .i64 0, .string ⟨#[]⟩, .int .i64 0] 37) := ⟨_, rfl⟩
  have hA0 : A.heap.size = w.heap.size + 1 := by rw [hA]; simp
  have hx : Four w.heap.size k n s a m c E := Four.only (w := A) (by unfold Four; rw [hA]; exact heap_alloc_new _ _) (by rw [hE]; exact Only.alloc (fun _ => False) _ _) (fun e => e)
  have hz : Three (w.heap.size + 1) zK E := by unfold Three; rw [← hA0, hE]; exact heap_alloc_new A _
  have HO : Hid (Only (fun _ => False) w E) := Lib.hid (by rw [hE, hA]; exact (Only.alloc _ _ _).same (Only.alloc _ _ _))
  obtain ⟨x0, x1, x2, x3⟩ := hx.cells
  obtain ⟨z0, z1, z2⟩ := hz.cells
  obtain ⟨f0, f1, f2⟩ := hz.free
  have HSA := Lib.hid (hz.set ⟨1, ⟨#[]⟩, n⟩)
  have HSB := Lib.hid (hz.set ⟨2, s, 0⟩)
  have HSC := Lib.hid (hz.set ⟨3, s, m⟩)
  have HSZ := Lib.hid (hz.set zK)
  rw [hA] at hE
  clear hx hz
  by_cases h2 : k = 2
  · subst h2
    rw [key2]
    go_enter Try.func61, Try.ntmps61
    go_upto_region 1 with fail
    rw [← hE]
    clear hE hA hA0
    go_wp2_with fail
    refine bodyPost_ret (v := kyV ⟨1, ⟨#[]⟩, n⟩) (results_key rfl _ _ (w.heap.size + 1) ⟨1, ⟨#[]⟩, n⟩ rfl HSA.out.1) rfl ?_
    exact ⟨rfl, Only.cut HO.out HSA.out.2 (fun k e => by omega)⟩
  by_cases h3 : k = 3
  · subst h3
    rw [key3]
    go_enter Try.func61, Try.ntmps61
    go_upto_region 1 with fail
    rw [← hE]
    clear hE hA hA0
    go_wp2_with fail
    refine bodyPost_ret (v := kyV ⟨2, s, 0⟩) (results_key rfl _ _ (w.heap.size + 1) ⟨2, s, 0⟩ rfl HSB.out.1) rfl ?_
    exact ⟨rfl, Only.cut HO.out HSB.out.2 (fun k e => by omega)⟩
  by_cases h4 : k = 4
  · subst h4
    rw [key4]
    go_enter Try.func61, Try.ntmps61
    go_upto_region 1 with fail
    rw [← hE]
    clear hE hA hA0
    go_wp2_with fail
    refine bodyPost_ret (v := kyV ⟨3, s, m⟩) (results_key rfl _ _ (w.heap.size + 1) ⟨3, s, m⟩ rfl HSC.out.1) rfl ?_
    exact ⟨rfl, Only.cut HO.out HSC.out.2 (fun k e => by omega)⟩
  have g2 : (k == 2) = false := by simpa using h2
  have g3 : (k == 3) = false := by simpa using h3
  have g4 : (k == 4) = false := by simpa using h4
  rw [key_no n s m h2 h3 h4]
  clear h2 h3 h4
  go_enter Try.func61, Try.ntmps61
  go_upto_region 1 with fail
  rw [← hE]
  clear hE hA hA0
  go_wp2_with fail
  refine bodyPost_ret (v := kyV zK) (results_key rfl _ _ (w.heap.size + 1) zK rfl HSZ.out.1) rfl ?_
  exact ⟨rfl, Only.cut HO.out HSZ.out.2 (fun k e => by omega)⟩
set_option maxHeartbeats 4000000 in
theorem firstOf_any (t : Go.Proofs.Ythfilpacmllhpab.terms.T) (a : Option Addr) (c : Nat) (w : World) (hl : Go.Proofs.Ythfilpacmllhpab.terms.Lies w a t.l) : Calls Try.prog 40 #[.agg #[.int .i64 t.k, .int .i64 t.n, .string t.s, .slice a t.l.length c]] w fun e w' => e = .returned (kyV (firstK t)) ∧ Only (fun _ => False) w w' := by
  obtain ⟨k, n, s, l⟩ := t
  simp only [Go.Proofs.Ythfilpacmllhpab.terms.T.k, Go.Proofs.Ythfilpacmllhpab.terms.T.n, Go.Proofs.Ythfilpacmllhpab.terms.T.s, Go.Proofs.Ythfilpacmllhpab.terms.T.l] at *
  obtain ⟨m, hm⟩ : ∃ m, m = l.length := ⟨_, rfl⟩
  rw [← hm]
  obtain ⟨A, hA⟩ : ∃ A, A = w.alloc (.cells #[.int .i64 k, .int .i64 n, .string s, .slice a m c] 31) := ⟨_, rfl⟩
  obtain ⟨E, hE⟩ : ∃ E, E = A.alloc (.cells #[.int .i64 0, .string ⟨#[]⟩, .int .i64 0] 37) := ⟨_, rfl⟩
  have hA0 : A.heap.size = w.heap.size + 1 := by rw [hA]; simp
  have hx : Four w.heap.size k n s a m c E := Four.only (w := A) (by unfold Four; rw [hA]; exact heap_alloc_new _ _) (by rw [hE]; exact Only.alloc (fun _ => False) _ _) (fun e => e)
  have hz : Three (w.heap.size + 1) zK E := by unfold Three; rw [← hA0, hE]; exact heap_alloc_new A _
  have HO : Hid (Only (fun _ => False) w E) := Lib.hid (by rw [hE, hA]; exact (Only.alloc _ _ _).same (Only.alloc _ _ _))
  have HL := Lib.hid (hl.later HO.out)
  obtain ⟨x0, x1, x2, x3⟩ := hx.cells
  obtain ⟨z0, z1, z2⟩ := hz.cells
  obtain ⟨f0, f1, f2⟩ := hz.free
  have HZ := Lib.hid hz
  have HSZ := Lib.hid (hz.set zK)
  rw [hA] at hE
  clear hx hz hl
  by_cases h4 : k = 4
  · subst h4
    cases l with
    | nil =>
      have hf : firstK (.mk 4 n s []) = zK := rfl
      rw [hf]
      simp only [List.length_nil] at hm
      subst hm
      clear hf
      go_enter Try.func40, Try.ntmps40
      go_upto_region 1 with fail
      rw [← hE]
      clear hE hA hA0
      go_wp2_with fail
      refine bodyPost_ret (v := kyV zK) (results_key rfl _ _ (w.heap.size + 1) zK rfl HSZ.out.1) rfl ?_
      exact ⟨rfl, Only.cut HO.out HSZ.out.2 (fun k e => by omega)⟩
    | cons x r =>
      have hf : firstK (.mk 4 n s (x :: r)) = keyT x := rfl
      rw [hf]
      clear hf
      obtain ⟨b, off, ro, rc, rfl, hb, c0, c1, c2, c3, _, _⟩ := HL.out.at (i := 0) (x := x) rfl
      simp only [Nat.zero_mul, Nat.add_zero] at c0 c1 c2 c3
      have hm1 : (m == 0) = false := by rw [hm]; rfl
      have hm0 : 0 < m := by rw [hm]; simp
      obtain ⟨xk, xn, xs, xl⟩ := x
      simp only [Go.Proofs.Ythfilpacmllhpab.terms.T.k, Go.Proofs.Ythfilpacmllhpab.terms.T.n, Go.Proofs.Ythfilpacmllhpab.terms.T.s, Go.Proofs.Ythfilpacmllhpab.terms.T.l] at *
      have HKF : Hid (Calls Try.prog 61 #[.agg #[.int .i64 xk, .int .i64 xn, .string xs, .slice ro xl.length rc]] E fun e w' => e = .returned (kyV (keyF xk xn xs xl.length)) ∧ Only (fun _ => False) E w') := Lib.hid (keyOf_any xk xn xs ro xl.length rc E)
      have hkt : keyT (.mk xk xn xs xl) = keyF xk xn xs xl.length := rfl
      rw [hkt]
      clear hkt
      generalize xl.length = xm at *
      generalize keyF xk xn xs xm = q at *
      clear hm HL
      go_enter Try.func40, Try.ntmps40
      go_upto_region 1 with fail
      rw [← hE]
      clear hE hA hA0
      go_wp2_with fail
      refine HKF.out.mono ?_
      rintro e w1 ⟨rfl, ho1⟩
      have HZ1 := Lib.hid (HZ.out.only ho1 (fun e => e))
      have HO1 := Lib.hid (HO.out.same ho1)
      have HSQ := Lib.hid (HZ1.out.set q)
      clear ho1 x0 x1 x2 x3 z0 z1 z2 f0 f1 f2
      obtain ⟨z0, z1, z2⟩ := HZ1.out.cells
      obtain ⟨f0, f1, f2⟩ := HZ1.out.free
      go_wp2_with fail
      refine bodyPost_ret (v := kyV q) (results_key rfl _ _ (w.heap.size + 1) q rfl HSQ.out.1) rfl ?_
      exact ⟨rfl, Only.cut HO1.out HSQ.out.2 (fun k e => by omega)⟩
  · have hf : firstK (.mk k n s l) = zK := if_neg h4
    rw [hf]
    have g4 : (k == 4) = false := by simpa using h4
    clear h4 hf hm HL
    go_enter Try.func40, Try.ntmps40
    go_upto_region 1 with fail
    rw [← hE]
    clear hE hA hA0
    go_wp2_with fail
    refine bodyPost_ret (v := kyV zK) (results_key rfl _ _ (w.heap.size + 1) zK rfl HSZ.out.1) rfl ?_
    exact ⟨rfl, Only.cut HO.out HSZ.out.2 (fun k e => by omega)⟩
end
end Go.Proofs.Ythfilpacmllhpab.idx
/- Selection by keys: lists of numbers are the same (the reference's SameInts). -/
namespace Go.Proofs.Ythfilpacmllhpab.idx
section
set_option maxRecDepth 100000
open Go.RowKit Go.Proofs.Ythfilpacmllhpab.own Go.Lib Go.Maps Go.WideMaps
/-- Numbers that lie at a place. -/
def NumsAt (w : World) (a : Option Addr) (xs : List Int) : Prop := ∀ i x, xs[i]? = some x → ∃ b off, a = some ⟨b, off, none⟩ ∧ b < w.heap.size ∧ w.cell? ⟨b, off + i, none⟩ = some (.int .i64 x)
theorem NumsAt.later {w w' : World} {a : Option Addr} {xs : List Int} (h : NumsAt w a xs) (ho : Only (fun _ => False) w w') : NumsAt w' a xs := fun i x hx => by
  obtain ⟨b, off, ha, hb, hc⟩ := h i x hx
  exact ⟨b, off, ha, Nat.lt_of_lt_of_le hb ho.size, (ho.cell (p := ⟨b, off + i, none⟩) hb (fun e => e)).trans hc⟩
theorem NumsAt.row {B cap : Nat} {w : World} {a : Option Addr} {xs : List Int} (h : RowN B a cap xs w) : NumsAt w a xs := fun i x hx => by
  obtain ⟨g, hg, _, hc⟩ := h.at liesN i x hx
  have h0 := (hc 0 (by omega)).1
  refine ⟨g, 0, hg, (h.head _ hg).2.2, ?_⟩
  rw [Nat.zero_add]
  simpa [encN] using h0
set_option maxHeartbeats 8000000 in
theorem same_ints (xs ys : List Int) (a a' : Option Addr) (c c' : Nat) (w : World) (hx : NumsAt w a xs) (hy : NumsAt w a' ys) (hn : xs.length ≤ 1000000) (hn' : ys.length ≤ 1000000) :
    Calls Try.prog 14 #[.slice a xs.length c, .slice a' ys.length c'] w fun e w' => e = .returned (.bool (decide (xs = ys))) ∧ Only (fun _ => False) w w' := by
  by_cases hl : xs.length = ys.length
  · have HX := Lib.hid hx
    have HY := Lib.hid hy
    have HL := Lib.hid hl
    rw [← hl]
    obtain ⟨n, hnn⟩ : ∃ n, n = xs.length := ⟨_, rfl⟩
    rw [← hnn]
    have HN := Lib.hid hnn
    have hne : (((n : Int) != (n : Int)) : Bool) = false := by simp
    have hb : n ≤ 1000000 := by omega
    have HD : Hid (∀ r, r = decide (xs = ys) → r = decide (xs = ys)) := Lib.hid (fun r h => h)
    clear hx hy hl hn hn' hnn
    go_enter Try.func14, Try.ntmps14
    go_wp2_with fail
    go_loopw [5] (fun iv wr => ∃ j : Nat, iv = .int .i64 j ∧ j ≤ n ∧ Hid (Only (fun _ => False) w wr ∧ ∀ i, i < j → xs[i]? = ys[i]?)) (fun iv _ => n - (RowKit.intOf iv).toNat)
    case atStart => exact ⟨0, rfl, by omega, Lib.hid ⟨Only.refl _ _, fun i hi => by omega⟩⟩
    case round =>
      obtain ⟨j, rfl, hj, hO⟩ := hrel
      by_cases hlt : j < n
      · obtain ⟨x, hx⟩ : ∃ x, xs[j]? = some x := ⟨_, List.getElem?_eq_getElem (by rw [← HN.out]; exact hlt)⟩
        obtain ⟨y, hy⟩ : ∃ y, ys[j]? = some y := ⟨_, List.getElem?_eq_getElem (by rw [← HL.out, ← HN.out]; exact hlt)⟩
        obtain ⟨b, off, rfl, hbl, cx⟩ := HX.out.later hO.out.1 j x hx
        obtain ⟨b', off', rfl, hbl', cy⟩ := HY.out.later hO.out.1 j y hy
        have HXY : Hid (xs[j]? = some x ∧ ys[j]? = some y) := Lib.hid ⟨hx, hy⟩
        have hlti : (j : Int) < (n : Int) := by omega
        have hge : (0 : Int) ≤ (j : Int) := by omega
        have hwj : IntKind.i64.wrap ((j : Int) + 1) = ((j + 1 : Nat) : Int) := by rw [IntWalk.i64_in _ (by omega)]; omega
        clear hx hy hbl hbl'
        by_cases he : x = y
        · have he' : (x != y) = false := by simp [he]
          have HE := Lib.hid he
          clear he
          go_upto_region 6 with fail
          go_quiet (fail)
          go_wp2_with fail
          go_roundw
          case rel =>
            refine ⟨j + 1, by go_num, by omega, Lib.hid ⟨hO.out.1.same (Only.drewN _ _ _), fun i hi => ?_⟩⟩
            by_cases hij : i < j
            · exact hO.out.2 i hij
            · obtain rfl : i = j := by omega
              rw [HXY.out.1, HXY.out.2, HE.out]
          case measure => simp [RowKit.intOf]; omega
        · have he' : (x != y) = true := by simp [he]
          have hd : decide (xs = ys) = false := by
            refine decide_eq_false (fun e => he ?_)
            have := HXY.out.1
            rw [e, HXY.out.2] at this
            injection this with this
            exact this.symm
          have HDD := Lib.hid hd
          clear he hd
          go_upto_region 6 with fail
          go_quiet (fail)
          go_wp2_with fail
          go_ret
          exact ⟨by rw [HDD.out]; rfl, hO.out.1.same (Only.drewN _ _ _)⟩
      · obtain rfl : j = n := by omega
        have hd : decide (xs = ys) = true := by
          refine decide_eq_true (List.ext_getElem? (fun i => ?_))
          by_cases hi : i < j
          · exact hO.out.2 i hi
          · rw [List.getElem?_eq_none (by rw [← HN.out]; omega), List.getElem?_eq_none (by rw [← HL.out, ← HN.out]; omega)]
        have HDD := Lib.hid hd
        clear hd
        go_wp2_with fail
        go_ret
        exact ⟨by rw [HDD.out]; rfl, hO.out.1⟩
  · have hd : decide (xs = ys) = false := decide_eq_false (fun e => hl (by rw [e]))
    rw [hd]
    have hne : (((xs.length : Int) != (ys.length : Int)) : Bool) = true := by simp; omega
    generalize xs.length = n at *
    generalize ys.length = m at *
    clear hx hy hd
    go_enter Try.func14, Try.ntmps14
    go_wp2_with fail
    go_ret
    exact ⟨rfl, Only.refl _ _⟩
end
end Go.Proofs.Ythfilpacmllhpab.idx
/- Selection by keys: New, Add, Head, Next, Len, All, Drop of none, as of one table; a key's box beside a table. -/
namespace Go.Proofs.Ythfilpacmllhpab.idx
section
set_option maxRecDepth 100000
open Go.RowKit Go.Proofs.Ythfilpacmllhpab.own Go.Lib Go.Maps Go.WideMaps
theorem new_tab (w : World) : Calls Try.prog 35 #[] w fun e w' => e = .returned (.pointer (some ⟨w.heap.size + 2, 0, none⟩)) ∧ TabB w.heap.size (w.heap.size + 2) 0 [] (-1) 0 w' ∧ Only (fun _ => False) w w' := by
  refine (new_any w).mono ?_
  rintro e w1 ⟨h1, h2, h3⟩
  exact ⟨h1, ⟨_, _, _, _, _, _, _, _, _, h2, ⟨by omega, by omega, by omega, (fun k hk => by obtain ⟨g, hg, _⟩ := hk; cases hg), (fun p hp => by cases hp)⟩⟩, h3⟩
theorem TabB.later {B b N : Nat} {L : List En} {lo hi : Int} {w w' : World} (h : TabB B b N L lo hi w) (o : Only (fun _ => False) w w') : TabB B b N L lo hi w' := by
  obtain ⟨mr, mi, ks, ao, cap, nr, ni, Dr, Di, h1, h2⟩ := h
  exact ⟨mr, mi, ks, ao, cap, nr, ni, Dr, Di, h1.later o, h2⟩
theorem add_tab {B b N : Nat} {L : List En} {lo hi : Int} {w : World} (h : TabB B b N L lo hi w) (hN : N + 1 ≤ 1000000) (i : Int) (hi' : Fit i) (k : Ky) (hko : k.Ok) (f : Bool) (hx : idF i L = none) (hn : L.length < 4096) :
    Calls Try.prog 39 #[.pointer (some ⟨b, 0, none⟩), .int .i64 i, kyV k, .bool f] w fun e w' => e = .returned (.int .i64 0) ∧ TabB B b (N + 1) (insF f (newE i k f lo hi) L) (if f = true then lo - 1 else lo) (if f = true then hi else hi + 1) w' ∧ Only (Ixy B w) w w' := by
  obtain ⟨mr, mi, ks, ao, cap, nr, ni, Dr, Di, h1, h2⟩ := h
  exact add_new (newE i k f lo hi) _ _ h1 h2 hN i hi' k hko f hx hn rfl rfl rfl rfl rfl
theorem head_tab {B b N : Nat} {L : List En} {lo hi : Int} {w : World} (h : TabB B b N L lo hi w) (k : Ky) (hko : k.Ok) :
    Calls Try.prog 47 #[.pointer (some ⟨b, 0, none⟩), kyV k] w fun e w' => e = .returned (.tuple #[.int .i64 ((firstF lo k L).getD zE).id, .bool (firstF lo k L).isSome]) ∧ Only (fun _ => False) w w' := by
  obtain ⟨mr, mi, ks, ao, cap, nr, ni, Dr, Di, h1, h2⟩ := h
  exact head_any h1 k hko
theorem next_tab {B b N : Nat} {L : List En} {lo hi : Int} {w : World} (h : TabB B b N L lo hi w) (i : Int) (hi' : Fit i) (k : Ky) (hko : k.Ok) :
    Calls Try.prog 49 #[.pointer (some ⟨b, 0, none⟩), .int .i64 i, kyV k] w fun e w' => e = .returned (.tuple #[.int .i64 ((nextF i k L).getD zE).id, .bool (nextF i k L).isSome]) ∧ Only (fun _ => False) w w' := by
  obtain ⟨mr, mi, ks, ao, cap, nr, ni, Dr, Di, h1, h2⟩ := h
  exact next_any h1 i hi' k hko
theorem len_tab {B b N : Nat} {L : List En} {lo hi : Int} {w : World} (h : TabB B b N L lo hi w) : Calls Try.prog 34 #[.pointer (some ⟨b, 0, none⟩)] w fun e w' => e = .returned (.int .i64 L.length) ∧ w' = w := by
  obtain ⟨mr, mi, ks, ao, cap, nr, ni, Dr, Di, h1, h2⟩ := h
  exact len_any h1
set_option maxHeartbeats 8000000 in
theorem drop_none {b mr mi N : Nat} {L : List En} {lo hi : Int} {ks : Ks} {ao : Option Addr} {cap nr ni : Nat} {Dr : D2} {Di : D1} {w : World} (h : TabI b mr mi N L lo hi ks ao cap nr ni Dr Di w) (i : Int) (hi' : Fit i) (hx : idF i L = none) :
    Calls Try.prog 68 #[.pointer (some ⟨b, 0, none⟩), .int .i64 i] w fun e w' => e = .returned (.int .i64 4) ∧ Only (fun _ => False) w w' := by
  have HCL := Lib.hid (closed_no h)
  obtain ⟨c0, c1, c2, c3, c4⟩ := h.cells
  have hlk := h.look_id hi'
  rw [hx] at hlk
  simp only [Option.getD_none, Option.isSome_none, zE] at hlk
  clear h hx
  go_enter Try.func68, Try.ntmps68
  go_wp2_with fail
  refine HCL.out.mono ?_
  rintro e w1 ⟨rfl, rfl⟩
  go_wp2_with fail
  go_ret
  exact ⟨rfl, Only.alloc _ _ _⟩
theorem drop_no {B b N : Nat} {L : List En} {lo hi : Int} {w : World} (h : TabB B b N L lo hi w) (i : Int) (hi' : Fit i) (hx : idF i L = none) :
    Calls Try.prog 68 #[.pointer (some ⟨b, 0, none⟩), .int .i64 i] w fun e w' => e = .returned (.int .i64 4) ∧ Only (fun _ => False) w w' := by
  obtain ⟨mr, mi, ks, ao, cap, nr, ni, Dr, Di, h1, h2⟩ := h
  exact drop_none h1 i hi' hx
/-- A key's box is none of a table's blocks. -/
theorem Three.ixy {B q : Nat} {k : Ky} {w w' : World} (h : Three q k w) (o : Only (Ixy B w) w w') : Three q k w' :=
  h.only o (fun e => by
    unfold Three at h
    rcases e.2 with ⟨cs, e⟩ | ⟨cs, e⟩ | ⟨es, c, e⟩
    · rw [h] at e
      injection e with e
      injection e with _ e
      exact absurd e (by decide)
    · rw [h] at e
      injection e with e
      injection e with _ e
      exact absurd e (by decide)
    · rw [h] at e
      cases e)
end
end Go.Proofs.Ythfilpacmllhpab.idx
