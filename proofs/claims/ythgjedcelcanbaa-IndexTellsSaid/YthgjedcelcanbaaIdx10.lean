/- Selection by keys: a table in memory; what reads it. -/
import Derived.Test.YthgjedcelcanbaaIdx9
namespace Go.Proofs.Ythgjedcelcanbaa.idx
set_option maxRecDepth 100000
open Go.RowKit Go.Proofs.Ythgjedcelcanbaa.own Go.Lib Go.Maps Go.WideMaps
def zK : Ky := ⟨0, ⟨#[]⟩, 0⟩
/-- Places that rise, between two numbers. -/
structure Between (L : List En) (lo hi : Int) : Prop where
  rises : Rises L
  low : ∀ x ∈ L, lo < x.pl
  high : ∀ x ∈ L, x.pl < hi
structure TabI (b mr mi : Nat) (N : Nat) (L : List En) (lo hi : Int) (ks : Ks) (ao : Option Addr) (cap nr ni : Nat) (Dr : D2) (Di : D1) (W : World) : Prop where
  box : W.heap[b]? = some (.cells #[.slice ao L.length cap, .map (some mr), .map (some mi), .int .i64 lo, .int .i64 hi] 53 (0, 0))
  row : RowE ao cap L W
  idm : W.ownsMap Try.prog 3 enR mi ni Di
  idl : IdMap Di L
  rkm : W.ownsMap Try.prog 32 hdR mr nr Dr
  rkl : RkMap Dr ks
  ksok : KsOk ks
  rows : ∀ p ∈ ks, RowE p.2.1 p.2.2.2 (cls p.1 L) W ∧ p.2.2.1 = (cls p.1 L).length
  cover : ∀ e ∈ L, ∃ h, (e.key, h) ∈ ks
  ap1 : ∀ p ∈ ks, ∀ g g', ao = some g → p.2.1 = some g' → g.block ≠ g'.block
  ap2 : ks.Pairwise (fun p q => ∀ g g', p.2.1 = some g → q.2.1 = some g' → g.block ≠ g'.block)
  apm : mr ≠ mi
  pl : Between L lo hi
  alone : Alone L
  keys : ∀ e ∈ L, e.key.Ok ∧ Fit e.id ∧ (e.key.k = 0 → e.key = zK)
  few : L.length ≤ 4096
  nums : nr ≤ N ∧ ni ≤ N ∧ -(1 + (N : Int)) ≤ lo ∧ lo ≤ -1 ∧ 0 ≤ hi ∧ hi ≤ N ∧ N ≤ 1000000
/-- A table of entries, at a place, made by so many calls. -/
def Tab (b N : Nat) (L : List En) (lo hi : Int) (W : World) : Prop := ∃ mr mi ks ao cap nr ni Dr Di, TabI b mr mi N L lo hi ks ao cap nr ni Dr Di W
theorem ownsMap_only {H : Type} {k : TypeId} {R : Value → Option (DataW H × List MemPlace)} {m n : Nat} {D : DataW H} {S : Nat → Prop} {w w' : World} (h : w.ownsMap Try.prog k R m n D) (ho : Only S w w') (hS : ¬ S m) : w'.ownsMap Try.prog k R m n D := by
  obtain ⟨es, clock, hb, r⟩ := h
  exact ⟨es, clock, by rw [ho.block m (lt_of_block hb) hS]; exact hb, r⟩
section
variable {b mr mi N : Nat} {L : List En} {lo hi : Int} {ks : Ks} {ao : Option Addr} {cap nr ni : Nat} {Dr : D2} {Di : D1} {W W' : World}
theorem TabI.later (h : TabI b mr mi N L lo hi ks ao cap nr ni Dr Di W) (o : Only (fun _ => False) W W') : TabI b mr mi N L lo hi ks ao cap nr ni Dr Di W' :=
  ⟨by rw [o.block b (lt_of_block h.box) (fun e => e)]; exact h.box, h.row.later o, ownsMap_only h.idm o (fun e => e), h.idl, ownsMap_only h.rkm o (fun e => e), h.rkl, h.ksok, fun p hp => ⟨(h.rows p hp).1.later o, (h.rows p hp).2⟩, h.cover, h.ap1, h.ap2, h.apm, h.pl, h.alone, h.keys, h.few, h.nums⟩
theorem TabI.cells (h : TabI b mr mi N L lo hi ks ao cap nr ni Dr Di W) : W.cell? ⟨b, 0, none⟩ = some (.slice ao L.length cap) ∧ W.cell? ⟨b, 1, none⟩ = some (.map (some mr)) ∧ W.cell? ⟨b, 2, none⟩ = some (.map (some mi)) ∧ W.cell? ⟨b, 3, none⟩ = some (.int .i64 lo) ∧ W.cell? ⟨b, 4, none⟩ = some (.int .i64 hi) := by
  refine ⟨?_, ?_, ?_, ?_, ?_⟩ <;> (rw [cell_of_blk h.box]; rfl)
theorem TabI.free (h : TabI b mr mi N L lo hi ks ao cap nr ni Dr Di W) : W.frozen? ⟨b, 0, none⟩ = false ∧ W.frozen? ⟨b, 3, none⟩ = false ∧ W.frozen? ⟨b, 4, none⟩ = false := ⟨free_of_blk h.box 0, free_of_blk h.box 3, free_of_blk h.box 4⟩
theorem zeroE (w : World) : (zeroValue 60).run Try.prog w = .ok (enV zE) w := by
  obtain ⟨i0, hi0, hz0, _⟩ := info_parts infoE
  simp [zeroValue, typeInfo, hi0, hz0, zE]
theorem zeroR (w : World) : (zeroValue 51).run Try.prog w = .ok (.slice none 0 0) w := by
  have h : (Try.prog.info? 51).map (fun i => (i.zero, i.size, i.bytes)) = some (some (.slice none 0 0), 1, 24) := by kernel_rfl
  obtain ⟨i0, hi0, hz0, _⟩ := info_parts h
  simp [zeroValue, typeInfo, hi0, hz0]
/-- The entry of a number. -/
def idF (i : Int) (L : List En) : Option En := L.find? (fun e => e.id == i)
theorem idF_some {i : Int} {L : List En} {e : En} (h : idF i L = some e) : e ∈ L ∧ e.id = i := ⟨List.mem_of_find?_eq_some h, by have := List.find?_some h; simpa using this⟩
theorem idF_none {i : Int} {L : List En} (h : idF i L = none) : ∀ e ∈ L, e.id ≠ i := fun e he hi => by
  have := List.find?_eq_none.1 h e he
  simp [hi] at this
theorem TabI.look_id (h : TabI b mr mi N L lo hi ks ao cap nr ni Dr Di W) {i : Int} (hi : Fit i) : (Instr.lookup 49 (.map (some mi)) (.int .i64 i) true).run Try.prog W = .ok (.tuple #[enV ((idF i L).getD zE), .bool (idF i L).isSome]) W := by
  obtain ⟨v, ps, hrun, hv⟩ := World.ownsMap.look_ok h.idm keyedI Try.underlying49 (zeroE W) (enR_mk zE) (keyOfN hi)
  cases hf : idF i L with
  | none =>
    rw [h.idl.at_no (idF_none hf)] at hv
    rw [h.idl.has_no (idF_none hf)] at hrun
    rw [enR_inv hv] at hrun
    exact hrun
  | some e =>
    obtain ⟨he, rfl⟩ := idF_some hf
    rw [h.idl.at_yes h.alone he] at hv
    rw [h.idl.has_yes he] at hrun
    rw [enR_inv hv] at hrun
    exact hrun
theorem TabI.look_row (h : TabI b mr mi N L lo hi ks ao cap nr ni Dr Di W) {k : Ky} (hk : k.Ok) : ∃ a c, (∀ W', W'.ownsMap Try.prog 32 hdR mr nr Dr → (Instr.lookup 48 (.map (some mr)) (kyV k) false).run Try.prog W' = .ok (.slice a (cls k L).length c) W') ∧ RowE a c (cls k L) W ∧ ((a = none ∧ c = 0 ∧ ∀ p ∈ ks, p.1 ≠ k) ∨ (k, (a, (cls k L).length, c)) ∈ ks) := by
  rcases ks_or ks k with ⟨hd, hp⟩ | hn
  · obtain ⟨h1, h2⟩ := h.rows _ hp
    obtain ⟨a, m, c⟩ := hd
    have h2' : m = (cls k L).length := h2
    subst h2'
    refine ⟨a, c, fun W' o => ?_, h1, .inr hp⟩
    obtain ⟨v, ps, hrun, hv⟩ := World.ownsMap.lookup o keyedK Try.underlying48 (zeroR W') (hdR_mk none 0 0) (keyOfK hk)
    rw [h.rkl.at_yes h.ksok hp] at hv
    rw [hdR_inv hv] at hrun
    exact hrun
  · have hc : cls k L = [] := by
      refine List.eq_nil_iff_forall_not_mem.2 (fun e he => ?_)
      obtain ⟨he, hk'⟩ := mem_cls.1 he
      obtain ⟨hd, hp⟩ := h.cover e he
      exact hn _ hp hk'
    refine ⟨none, 0, fun W' o => ?_, ?_, .inl ⟨rfl, rfl, hn⟩⟩
    · obtain ⟨v, ps, hrun, hv⟩ := World.ownsMap.lookup o keyedK Try.underlying48 (zeroR W') (hdR_mk none 0 0) (keyOfK hk)
      rw [h.rkl.at_no h.ksok hk hn] at hv
      rw [hdR_inv hv] at hrun
      rw [hc]; exact hrun
    · rw [hc]; exact RowOf.nil _ _ _ _ _
end
theorem closed_nil (w : World) : Calls Try.prog 24 #[.pointer none] w fun e w' => e = .returned (.bool true) ∧ w' = w := by
  go_enter Try.func24, Try.ntmps24
  go_wp2_with fail
  go_ret
  exact ⟨rfl, rfl⟩
theorem closed_no {b mr mi N : Nat} {L : List En} {lo hi : Int} {ks : Ks} {ao : Option Addr} {cap nr ni : Nat} {Dr : D2} {Di : D1} {w : World} (h : TabI b mr mi N L lo hi ks ao cap nr ni Dr Di w) : Calls Try.prog 24 #[.pointer (some ⟨b, 0, none⟩)] w fun e w' => e = .returned (.bool false) ∧ w' = w := by
  obtain ⟨c0, c1, c2, c3, c4⟩ := h.cells
  have hnil : (binOp .eql 49 (.map (some mi)) (.map none)).run Try.prog w = .ok (.bool false) w := by first | rfl | simp [binOp]
  clear h
  go_enter Try.func24, Try.ntmps24
  go_wp2_with fail
  go_ret
  exact ⟨rfl, rfl⟩
theorem len_any {b mr mi N : Nat} {L : List En} {lo hi : Int} {ks : Ks} {ao : Option Addr} {cap nr ni : Nat} {Dr : D2} {Di : D1} {w : World} (h : TabI b mr mi N L lo hi ks ao cap nr ni Dr Di w) : Calls Try.prog 9 #[.pointer (some ⟨b, 0, none⟩)] w fun e w' => e = .returned (.int .i64 L.length) ∧ w' = w := by
  have HC := Lib.hid (closed_no h)
  obtain ⟨c0, c1, c2, c3, c4⟩ := h.cells
  have hlen := h.idm.len Try.underlying49
  rw [h.idl.size] at hlen
  clear h
  go_enter Try.func9, Try.ntmps9
  go_wp2_with fail
  refine HC.out.mono ?_
  rintro e w1 ⟨rfl, rfl⟩
  go_wp2_with fail
  go_ret
  exact ⟨rfl, rfl⟩
def plainF (k : Ky) : Ky := if k.k = 0 then zK else k
/-- A key alone, in a block. -/
def Three (b : Nat) (k : Ky) (w : World) : Prop := w.heap[b]? = some (.cells #[.int .i64 k.k, .string k.s, .int .i64 k.n] 32 (0, 0))
theorem Three.cells {b : Nat} {k : Ky} {w : World} (h : Three b k w) : w.cell? ⟨b, 0, none⟩ = some (.int .i64 k.k) ∧ w.cell? ⟨b, 1, none⟩ = some (.string k.s) ∧ w.cell? ⟨b, 2, none⟩ = some (.int .i64 k.n) := by
  refine ⟨?_, ?_, ?_⟩ <;> (rw [cell_of_blk h]; rfl)
theorem Three.free {b : Nat} {k : Ky} {w : World} (h : Three b k w) : w.frozen? ⟨b, 0, none⟩ = false ∧ w.frozen? ⟨b, 1, none⟩ = false ∧ w.frozen? ⟨b, 2, none⟩ = false := ⟨free_of_blk h 0, free_of_blk h 1, free_of_blk h 2⟩
theorem Three.only {b : Nat} {k : Ky} {w w' : World} {S : Nat → Prop} (h : Three b k w) (ho : Only S w w') (hS : ¬ S b) : Three b k w' := by
  unfold Three at *
  rw [ho.block b (lt_of_block h) hS]
  exact h
theorem Three.set {b : Nat} {x : Ky} {w : World} (h : Three b x w) (k : Ky) : Three b k (((w.setCell ⟨b, 0, none⟩ (.int .i64 k.k)).setCell ⟨b, 1, none⟩ (.string k.s)).setCell ⟨b, 2, none⟩ (.int .i64 k.n)) ∧ Only (· = b) w (((w.setCell ⟨b, 0, none⟩ (.int .i64 k.k)).setCell ⟨b, 1, none⟩ (.string k.s)).setCell ⟨b, 2, none⟩ (.int .i64 k.n)) := by
  have so : ∀ (W : World) (j : Nat) (y : Value), Only (· = b) W (W.setCell ⟨b, j, none⟩ y) := fun W j y => Only.setCell (S := (· = b)) (p := ⟨b, j, none⟩) W rfl y
  refine ⟨?_, ((so _ _ _).same (so _ _ _)).same (so _ _ _)⟩
  unfold Three at *
  rw [blk_set (blk_set (blk_set h 0 _) 1 _) 2 _]
  simp
theorem results_key {fn : Func} {p : Tmp} (h : fn.results = #[.cell p 32]) (tmps : Array Value) (w : World) (b : Nat) (k : Ky) (hb : tmps.getD p undef = .pointer (some ⟨b, 0, none⟩)) (hf : Three b k w) :
    (results fn tmps).run Try.prog w = .ok (kyV k) w := by
  have hb' : tmps[p]?.getD undef = .pointer (some ⟨b, 0, none⟩) := by simpa using hb
  obtain ⟨h0, h1, h2⟩ := hf.cells
  simp only [results, h]
  go_simp
theorem plain_any (k : Ky) (w : World) : Calls Try.prog 28 #[kyV k] w fun e w' => e = .returned (kyV (plainF k)) ∧ Only (fun _ => False) w w' := by
  obtain ⟨A, hA⟩ : ∃ A, A = w.alloc (.cells #[.int .i64 k.k, .string k.s, .int .i64 k.n] 32) := ⟨_, rfl⟩
  obtain ⟨E, hE⟩ : ∃ E, E = A.alloc (.cells #[.int .i64 0, .string ⟨#[]⟩, .int .i64 0] 32) := ⟨_, rfl⟩
  have hA0 : A.heap.size = w.heap.size + 1 := by rw [hA]; simp
  have hx : Three w.heap.size k E := Three.only (w := A) (by unfold Three; rw [hA]; exact heap_alloc_new _ _) (by rw [hE]; exact Only.alloc (fun _ => False) _ _) (fun e => e)
  have hz : Three (w.heap.size + 1) zK E := by unfold Three; rw [← hA0, hE]; exact heap_alloc_new A _
  have HO : Hid (Only (fun _ => False) w E) := Lib.hid (by rw [hE, hA]; exact (Only.alloc _ _ _).same (Only.alloc _ _ _))
  obtain ⟨x0, x1, x2⟩ := hx.cells
  obtain ⟨z0, z1, z2⟩ := hz.cells
  obtain ⟨f0, f1, f2⟩ := hz.free
  have HSZ := Lib.hid (hz.set zK)
  have HSK := Lib.hid (hz.set k)
  rw [hA] at hE
  unfold plainF
  by_cases hk : k.k = 0
  · have hk' : (k.k == 0) = true := by simpa using hk
    rw [if_pos hk]
    clear hx hz hk
    go_enter Try.func28, Try.ntmps28
    go_upto_region 1 with fail
    rw [← hE]
    clear hE hA hA0
    go_wp2_with fail
    refine bodyPost_ret (v := kyV zK) (results_key rfl _ _ (w.heap.size + 1) zK rfl HSZ.out.1) rfl ?_
    exact ⟨rfl, Only.cut HO.out HSZ.out.2 (fun k e => by omega)⟩
  · have hk' : (k.k == 0) = false := by simpa using hk
    rw [if_neg hk]
    clear hx hz hk
    go_enter Try.func28, Try.ntmps28
    go_upto_region 1 with fail
    rw [← hE]
    clear hE hA hA0
    go_wp2_with fail
    refine bodyPost_ret (v := kyV k) (results_key rfl _ _ (w.heap.size + 1) k rfl HSK.out.1) rfl ?_
    exact ⟨rfl, Only.cut HO.out HSK.out.2 (fun k e => by omega)⟩
end Go.Proofs.Ythgjedcelcanbaa.idx
