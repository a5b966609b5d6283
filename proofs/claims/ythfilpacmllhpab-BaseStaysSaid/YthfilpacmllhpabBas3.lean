/- Clauses by generations: a new base, the lowest slot, a head's name and arity, what lives and meets. -/
import Derived.Test.YthfilpacmllhpabBas2
namespace Go.Proofs.Ythfilpacmllhpab.bases
set_option maxRecDepth 100000
open Go.RowKit Go.Proofs.Ythfilpacmllhpab.own Go.Lib Go.Maps Go.WideMaps Go.Proofs.Ythfilpacmllhpab.idx
section
variable {b pm N : Nat} {sl : List Sl} {ps : List Pc} {lim gen low : Int} {so : Option Addr} {sc np : Nat} {Dp : D3} {w W W' : World}
theorem kind_ne {k j : Nat} {cs cs' : Array Value} {t t' : TypeId} (h : W.heap[k]? = some (.cells cs t (0, 0))) (h' : W.heap[j]? = some (.cells cs' t' (0, 0))) (hne : t ≠ t') : k ≠ j := by
  rintro rfl
  rw [h] at h'
  injection h' with h'
  injection h' with _ e _
  exact hne e
theorem KindT.ne {k j : Nat} {cs : Array Value} {t : TypeId} (h : KindT W k) (h' : W.heap[j]? = some (.cells cs t (0, 0))) (h1 : 119 ≠ t) (h2 : 122 ≠ t) : k ≠ j := by
  rintro rfl
  rcases h with ⟨cs', e⟩ | ⟨cs', e⟩ | ⟨es, c, e⟩
  · exact kind_ne e h' h1 rfl
  · exact kind_ne e h' h2 rfl
  · rw [e] at h'; cases h'
/-- The base's own cells alone have turned. -/
theorem BI.reboxed {gen' low' : Int} (h : BI b pm N sl ps lim gen low so sc np Dp W) (o : Only (· = b) W W') (hb : W'.heap[b]? = some (.cells #[.int .i64 lim, .slice so sl.length sc, .map (some pm), .int .i64 gen', .int .i64 low', .int .i64 sl.length] 80 (0, 0))) (hl : 0 ≤ low' ∧ low' ≤ sl.length) (hg : 0 ≤ gen' ∧ gen' ≤ N) : BI b pm N sl ps lim gen' low' so sc np Dp W' := by
  refine { h with box := hb, row := h.row.only o (fun g hg e => row_apart h.row h.box (by decide) ⟨g, hg, e.symm⟩), pmap := ownsMap_only h.pmap o (fun e => ownsMap_not h.pmap (by rw [show pm = b from e]; exact h.box)), pds := fun p hp => (h.pds p hp).only o (fun e => kind_ne (h.pds p hp).box h.box (by decide) e) (fun k hk e => ((h.pds p hp).tab.kind k hk).ne h.box (by decide) (by decide) e), lown := hl, nums := by have := h.nums; omega }
theorem new_bad (l : Int) (w : World) (h : l < 1 ∨ (¬ l < 1 ∧ l > 16384)) : Calls Try.prog 8 #[.int .i64 l] w fun e w' => e = .returned (.tuple #[.pointer none, .int .i64 1]) ∧ w' = w := by
  rcases h with h1 | ⟨h1, h2⟩
  all_goals
    go_enter Try.func8, Try.ntmps8
    go_wp2_with fail
    go_ret2
    exact ⟨rfl, rfl⟩
theorem new_base (l : Int) (w : World) (h1 : ¬ l < 1) (h2 : ¬ l > 16384) : Calls Try.prog 8 #[.int .i64 l] w fun e w' => e = .returned (.tuple #[.pointer (some ⟨w.heap.size + 1, 0, none⟩), .int .i64 0]) ∧ BI (w.heap.size + 1) w.heap.size 0 [] [] l 0 0 none 0 0 (.map []) w' ∧ Only (fun _ => False) w w' := by
  obtain ⟨A, hA⟩ : ∃ A, A = w.alloc (.map #[] 0) := ⟨_, rfl⟩
  obtain ⟨E, hE⟩ : ∃ E, E = A.alloc (.cells #[.int .i64 l, .slice none 0 0, .map (some w.heap.size), .int .i64 0, .int .i64 0, .int .i64 0] 80) := ⟨_, rfl⟩
  have hA0 : A.heap.size = w.heap.size + 1 := by rw [hA]; simp
  have oA : Only (fun _ => False) w A := by rw [hA]; exact Only.alloc _ _ _
  have oE : Only (fun _ => False) A E := by rw [hE]; exact Only.alloc _ _ _
  have hm : A.ownsMap Try.prog 82 pbR w.heap.size 0 (.map []) := by
    rw [hA]
    exact World.ownsMap_made (H := Nat) w Try.prog 82 pbR
  have HT : Hid (BI (w.heap.size + 1) w.heap.size 0 [] [] l 0 0 none 0 0 (.map []) E ∧ Only (fun _ => False) w E) := Lib.hid ⟨⟨by rw [← hA0, hE]; exact heap_alloc_new A _, RowOf.nil _ _ _ _ _, ownsMap_only hm oE (fun e => e), NsMap.empty, ⟨(fun p hp => nomatch hp), List.Pairwise.nil⟩, (fun p hp => nomatch hp), List.Pairwise.nil, (fun p hp => nomatch hp), (fun s hs => nomatch hs), ⟨Int.le_refl _, Int.le_refl _⟩, by simp, (fun p hp => nomatch hp), (fun i s hs => by simp at hs), (fun p hp => nomatch hp)⟩, oA.same oE⟩
  have hmk1 : ∀ W : World, (Instr.makeMap 77 none).run Try.prog W = .ok (.map (some W.heap.size)) (W.alloc (.map #[] 0)) := fun W => by first | rfl | simp [Instr.makeMap]
  rw [hA] at hE
  clear hm oA oE hA0 hA
  go_enter Try.func8, Try.ntmps8
  go_wp2_with fail
  go_ret2
  first
    | (rw [← hE]; exact ⟨rfl, HT.out.1, HT.out.2⟩)
    | (refine ⟨rfl, ?_, ?_⟩ <;> (subst hE; first | exact HT.out.1 | exact HT.out.2))
set_option maxHeartbeats 8000000 in
theorem lowest_any (h : BI b pm N sl ps lim gen low so sc np Dp w) : Calls Try.prog 33 #[.pointer (some ⟨b, 0, none⟩)] w fun e w' => e = .returned (.int .i64 sl.length) ∧ BI b pm N sl ps lim gen sl.length so sc np Dp w' ∧ Only (· = b) w w' := by
  obtain ⟨l0, hl0⟩ : ∃ l0 : Nat, low = l0 := ⟨low.toNat, by have := h.lown; omega⟩
  subst hl0
  have hln : l0 ≤ sl.length := by have := h.lown; omega
  have H0 : Hid (BI b pm N sl ps lim gen l0 so sc np Dp w ∧ Only (· = b) w w) := Lib.hid ⟨h, Only.refl _ _⟩
  have HNM := Lib.hid h.nums
  clear h
  go_enter Try.func33, Try.ntmps33
  go_wp2_with fail
  go_loopg [] (sl.length - l0) (fun gk wr => ∃ k : Nat, k ≤ sl.length ∧ gk = sl.length - k ∧ Hid (BI b pm N sl ps lim gen k so sc np Dp wr ∧ Only (· = b) w wr))
  case atStart => exact ⟨l0, hln, rfl, H0⟩
  case round =>
    obtain ⟨k, hk, hgk, hR⟩ := hrel
    obtain ⟨c0, c1, c2, c3, c4, c5⟩ := hR.out.1.cells
    have f4 := free_of_blk hR.out.1.box 4
    have HGK := Lib.hid hgk
    clear hgk H0
    by_cases hlt : k < sl.length
    · obtain ⟨s, hs⟩ : ∃ s, sl[k]? = some s := ⟨_, List.getElem?_eq_getElem hlt⟩
      have HH := Lib.hid (has_yes hR.out.1 hs)
      have hw4 : IntKind.i64.wrap ((k : Int) + 1) = ((k + 1 : Nat) : Int) := by have := HNM.out; rw [IntWalk.i64_in _ (by omega)]; omega
      have HR3 : Hid (BI b pm N sl ps lim gen ((k + 1 : Nat) : Int) so sc np Dp (wr.setCell ⟨b, 4, none⟩ (.int .i64 ((k + 1 : Nat) : Int))) ∧ Only (· = b) w (wr.setCell ⟨b, 4, none⟩ (.int .i64 ((k + 1 : Nat) : Int)))) := Lib.hid (by
        have o : Only (· = b) wr (wr.setCell ⟨b, 4, none⟩ (.int .i64 ((k + 1 : Nat) : Int))) := Only.setCell (S := (· = b)) (p := ⟨b, 4, none⟩) wr rfl _
        refine ⟨hR.out.1.reboxed o ?_ ⟨by omega, by omega⟩ ⟨hR.out.1.nums.2.2.1, hR.out.1.nums.2.2.2.1⟩, hR.out.2.same o⟩
        have := blk_set hR.out.1.box 4 (.int .i64 ((k + 1 : Nat) : Int))
        rw [this]
        rfl)
      clear hs hR
      go_wp2_with fail
      refine HH.out.mono ?_
      rintro e w1 ⟨rfl, rfl⟩
      go_wp2_with fail
      go_roundg (sl.length - (k + 1))
      case rel => exact ⟨k + 1, by omega, rfl, HR3⟩
      case measure => have := HGK.out; omega
    · obtain rfl : k = sl.length := by omega
      have HH := Lib.hid (has_over hR.out.1 (Nat.le_refl _))
      clear hlt
      go_wp2_with fail
      refine HH.out.mono ?_
      rintro e w1 ⟨rfl, rfl⟩
      go_wp2_with fail
      go_ret
      exact ⟨rfl, hR.out.1, hR.out.2⟩
end
/-- A name and an arity in a block. -/
def NmAt (b : Nat) (k : Nm) (w : World) : Prop := w.heap[b]? = some (.cells #[.string k.s, .int .i64 k.a] 82 (0, 0))
theorem NmAt.cells {b : Nat} {k : Nm} {w : World} (h : NmAt b k w) : w.cell? ⟨b, 0, none⟩ = some (.string k.s) ∧ w.cell? ⟨b, 1, none⟩ = some (.int .i64 k.a) := by
  refine ⟨?_, ?_⟩ <;> (rw [cell_of_blk h]; rfl)
theorem NmAt.free {b : Nat} {k : Nm} {w : World} (h : NmAt b k w) : w.frozen? ⟨b, 0, none⟩ = false ∧ w.frozen? ⟨b, 1, none⟩ = false := ⟨free_of_blk h 0, free_of_blk h 1⟩
theorem NmAt.only {b : Nat} {k : Nm} {w w' : World} {S : Nat → Prop} (h : NmAt b k w) (ho : Only S w w') (hS : ¬ S b) : NmAt b k w' := by
  unfold NmAt at *
  rw [ho.block b (lt_of_block h) hS]
  exact h
theorem NmAt.set {b : Nat} {x : Nm} {w : World} (h : NmAt b x w) (k : Nm) : NmAt b k ((w.setCell ⟨b, 0, none⟩ (.string k.s)).setCell ⟨b, 1, none⟩ (.int .i64 k.a)) ∧ Only (· = b) w ((w.setCell ⟨b, 0, none⟩ (.string k.s)).setCell ⟨b, 1, none⟩ (.int .i64 k.a)) := by
  have so : ∀ (W : World) (j : Nat) (y : Value), Only (· = b) W (W.setCell ⟨b, j, none⟩ y) := fun W j y => Only.setCell (S := (· = b)) (p := ⟨b, j, none⟩) W rfl y
  refine ⟨?_, (so _ _ _).same (so _ _ _)⟩
  unfold NmAt at *
  rw [blk_set (blk_set h 0 _) 1 _]
  simp
theorem results_nm {fn : Func} {p u : Tmp} (h : fn.results = #[.cell p 82, .tmp u]) (tmps : Array Value) (w : World) (b : Nat) (k : Nm) (x : Value) (hb : tmps.getD p undef = .pointer (some ⟨b, 0, none⟩)) (hu : tmps.getD u undef = x) (hf : NmAt b k w) :
    (results fn tmps).run Try.prog w = .ok (.tuple #[nmV k, x]) w := by
  have hb' : tmps[p]?.getD undef = .pointer (some ⟨b, 0, none⟩) := by simpa using hb
  have hu' : tmps[u]?.getD undef = x := by simpa using hu
  obtain ⟨h0, h1⟩ := hf.cells
  simp only [results, h]
  go_simp
/-- The name and arity of a head. -/
def indF (k : Int) (s : ByteArray) (n : Nat) : Option Nm := if k = 3 then some ⟨s, 0⟩ else if k = 4 then some ⟨s, n⟩ else none
def zN : Nm := ⟨⟨#[]⟩, 0⟩
set_option maxHeartbeats 4000000 in
theorem indicator_any (k n : Int) (s : ByteArray) (ao : Option Addr) (m cap : Nat) (w : World) : Calls Try.prog 32 #[.agg #[.int .i64 k, .int .i64 n, .string s, .slice ao m cap]] w fun e w' => e = .returned (.tuple #[nmV ((indF k s m).getD zN), .bool (indF k s m).isSome]) ∧ Only (fun _ => False) w w' := by
  obtain ⟨A, hA⟩ : ∃ A, A = w.alloc (.cells #[.int .i64 k, .int .i64 n, .string s, .slice ao m cap] 31) := ⟨_, rfl⟩
  obtain ⟨E, hE⟩ : ∃ E, E = A.alloc (.cells #[.string ⟨#[]⟩, .int .i64 0] 82) := ⟨_, rfl⟩
  have hA0 : A.heap.size = w.heap.size + 1 := by rw [hA]; simp
  have hq : E.heap[w.heap.size]? = some (.cells #[.int .i64 k, .int .i64 n, .string s, .slice ao m cap] 31 (0, 0)) := by
    have h1 : A.heap[w.heap.size]? = some (.cells #[.int .i64 k, .int .i64 n, .string s, .slice ao m cap] 31 (0, 0)) := by rw [hA]; exact heap_alloc_new _ _
    have oE : Only (fun _ => False) A E := by rw [hE]; exact Only.alloc _ _ _
    rw [oE.block _ (lt_of_block h1) (fun e => e)]
    exact h1
  have hz : NmAt (w.heap.size + 1) zN E := by unfold NmAt; rw [← hA0, hE]; exact heap_alloc_new A _
  have HO : Hid (Only (fun _ => False) w E) := Lib.hid (by rw [hE, hA]; exact (Only.alloc _ _ _).same (Only.alloc _ _ _))
  obtain ⟨z0, z1⟩ := hz.cells
  obtain ⟨f0, f1⟩ := hz.free
  have q0 := cell_of_blk hq 0
  have q2 := cell_of_blk hq 2
  have q3 := cell_of_blk hq 3
  simp only [List.getElem?_toArray, List.getElem?_cons_zero, List.getElem?_cons_succ] at q0 q2 q3
  have HS := Lib.hid (fun k => hz.set k)
  rw [hA] at hE
  unfold indF
  by_cases h3 : k = 3
  · have h3' : (k == 3) = true := by simpa using h3
    rw [if_pos h3]
    clear hz hq h3 hA0 hA
    go_enter Try.func32, Try.ntmps32
    go_upto_region 1 with fail
    rw [← hE]
    clear hE
    go_wp2_with fail
    refine bodyPost_ret (v := .tuple #[nmV ⟨s, 0⟩, .bool true]) (results_nm rfl _ _ (w.heap.size + 1) ⟨s, 0⟩ _ rfl rfl (HS.out ⟨s, 0⟩).1) rfl ?_
    exact ⟨rfl, Only.cut HO.out (HS.out ⟨s, 0⟩).2 (fun k e => by omega)⟩
  · have h3' : (k == 3) = false := by simpa using h3
    rw [if_neg h3]
    by_cases h4 : k = 4
    · have h4' : (k == 4) = true := by simpa using h4
      rw [if_pos h4]
      clear hz hq h3 h4 hA0 hA
      go_enter Try.func32, Try.ntmps32
      go_upto_region 1 with fail
      rw [← hE]
      clear hE
      go_wp2_with fail
      refine bodyPost_ret (v := .tuple #[nmV ⟨s, m⟩, .bool true]) (results_nm rfl _ _ (w.heap.size + 1) ⟨s, m⟩ _ rfl rfl (HS.out ⟨s, m⟩).1) rfl ?_
      exact ⟨rfl, Only.cut HO.out (HS.out ⟨s, m⟩).2 (fun k e => by omega)⟩
    · have h4' : (k == 4) = false := by simpa using h4
      rw [if_neg h4]
      clear hz hq h3 h4 hA0 hA
      go_enter Try.func32, Try.ntmps32
      go_upto_region 1 with fail
      rw [← hE]
      clear hE
      go_wp2_with fail
      refine bodyPost_ret (v := .tuple #[nmV zN, .bool false]) (results_nm rfl _ _ (w.heap.size + 1) zN _ rfl rfl (HS.out zN).1) rfl ?_
      exact ⟨rfl, Only.cut HO.out (HS.out zN).2 (fun k e => by omega)⟩
end Go.Proofs.Ythfilpacmllhpab.bases
