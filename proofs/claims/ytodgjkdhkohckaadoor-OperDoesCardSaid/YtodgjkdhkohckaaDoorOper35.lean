/- Operators: what the reference tells in order. -/
import Derived.Deep.QuietTactic
import Derived.Deep.RegionHeld3
import Derived.Test.YtodgjkdhkohckaaDoorOper34
namespace Go.Proofs.YtodgjkdhkohckaaDoor.opers
open Go.RowKit Go.Proofs.YtodgjkdhkohckaaDoor.own Go.Maps Go.Sort Go.Shelf Go.Proofs.YtodgjkdhkohckaaDoor.toks
/-- How many come ahead. -/
def aheadN (o : Op3) : List Op3 → Nat
  | [] => 0
  | y :: r => if aheadB y o = true then aheadN o r + 1 else 0
theorem aheadN_le (o : Op3) : ∀ r, aheadN o r ≤ r.length
  | [] => Nat.le_refl _
  | y :: r => by
    rw [aheadN]
    split
    · have := aheadN_le o r; rw [List.length_cons]; omega
    · omega
theorem ins_split (o : Op3) : ∀ r, insO o r = r.take (aheadN o r) ++ [o] ++ r.drop (aheadN o r)
  | [] => rfl
  | y :: r => by
    rw [insO, aheadN]
    by_cases h : aheadB y o = true
    · rw [if_pos h, if_pos h, ins_split o r]; rfl
    · rw [if_neg h, if_neg h]; rfl
theorem aheadN_at {o : Op3} : ∀ {r : List Op3} {j : Nat} {y : Op3}, r[j]? = some y → aheadN o r = aheadN o (r.drop j) + j → (aheadB y o = true → aheadN o r = aheadN o (r.drop (j + 1)) + (j + 1)) ∧ (aheadB y o = false → aheadN o r = j) := fun {r j y} hy h => by
  have hd : r.drop j = y :: r.drop (j + 1) := by
    obtain ⟨hj, e⟩ := List.getElem?_eq_some_iff.1 hy
    rw [List.drop_eq_getElem_cons hj, e]
  rw [hd, aheadN] at h
  constructor
  · intro ha
    rw [if_pos ha] at h
    omega
  · intro ha
    rw [if_neg (by rw [ha]; decide)] at h
    omega
theorem fold_len : ∀ (t out : List Op3), (t.foldl (fun out o => insO o out) out).length = out.length + t.length
  | [], out => by simp
  | o :: t, out => by
    rw [List.foldl_cons, fold_len t, ins_split]
    simp only [List.length_append, List.length_take, List.length_drop, List.length_cons, List.length_nil]
    have := aheadN_le o out
    omega
theorem first_of (w : World) (A B : Obj) : ((w.alloc A).alloc B).heap[w.heap.size]? = some A := by
  rw [(Only.alloc (fun _ => False) (w.alloc A) B).block w.heap.size (by simp) (fun e => e)]
  exact heap_alloc_new w A
theorem second_of (w : World) (A B : Obj) : ((w.alloc A).alloc B).heap[w.heap.size + 1]? = some B := by
  have := heap_alloc_new (w.alloc A) B
  rwa [show (w.alloc A).heap.size = w.heap.size + 1 by simp] at this
theorem ly_one {x : Op3} {g : Nat} {W : World} (h : W.heap[g]? = some (.cells #[.int .i64 x.p, .int .i64 x.k, .string x.n] 32 (0, 0))) : Ly (some ⟨g, 0, none⟩) [x] W := fun i y hy => by
  cases i with
  | zero =>
    cases hy
    refine ⟨g, 0, rfl, lt_of_block h, ?_, ?_, ?_⟩
    · rw [cell_of_blk h]; rfl
    · rw [cell_of_blk h]; rfl
    · rw [cell_of_blk h]; rfl
  | succ i => cases hy
theorem row_base {B B' : Nat} {ao : Option Addr} {cap : Nat} {xs : List Op3} {w : World} (h : RowOf encO 3 32 B' ao cap xs w) (hB : B ≤ B') : RowOf encO 3 32 B ao cap xs w := by
  obtain ⟨r1, r2⟩ := h
  refine ⟨r1, ?_⟩
  rcases r2 with r2 | ⟨g, cap', cur, hv, hb, rest⟩
  · exact .inl r2
  · exact .inr ⟨g, cap', cur, hv, Nat.le_trans hB hb, rest⟩
theorem emp_of {N g : Nat} {W : World} (hg : W.heap[g]? = some (.cells #[] 32 (0, 0))) (hN : N ≤ g) : RowOf encO 3 32 N (some ⟨g, 0, none⟩) 0 ([] : List Op3) W :=
  ⟨rfl, .inr ⟨g, 0, #[], rfl, hN, hg, Nat.le_refl _, by unfold maxLen; omega, rfl, rfl⟩⟩
theorem at_new {N : Nat} {ao : Option Addr} {cap : Nat} {xs : List Op3} {w w' : World} (h : RowOf encO 3 32 N ao cap xs w) (ho : Only (RowAt ao) w w') : Only (fun q => N ≤ q) w w' := ho.mono (fun q _ e => by
  obtain ⟨g, hg, rfl⟩ := e
  exact (h.head g hg).2.1)
set_option maxRecDepth 100000 in
set_option maxHeartbeats 8000000 in
theorem rAll_any (B b : Nat) (ao : Option Addr) (cap : Nat) (l : List Op3) (w : World) (h : RT B b ao cap l w) (hn : l.length ≤ 100000) : Calls Tryd.prog 13 #[.pointer (some ⟨b, 0, none⟩)] w fun e w' => (∃ ro rc, e = .returned (.slice ro (allR l).length rc) ∧ RowO w.heap.size ro (allR l) w') ∧ Only (fun _ => False) w w' := by
  have HT := Lib.hid h
  have HAL : Hid (allR l = (l.drop 0).foldl (fun out o => insO o out) []) := Lib.hid rfl
  have HFL : Hid ((allR l).length = l.length) := Lib.hid (by unfold allR; rw [fold_len]; simp)
  clear h
  go_enter Tryd.func13, Tryd.ntmps13
  go_wp2_with fail
  go_loopw [3, 4] (fun tx c wr => ∃ (j : Nat) (out : List Op3) (ro : Option Addr) (rc : Nat), tx = .slice ro out.length rc ∧ c = .int .i64 j ∧ j ≤ l.length ∧ Hid (allR l = (l.drop j).foldl (fun out o => insO o out) out ∧ out.length = j ∧ RowOf encO 3 32 w.heap.size ro rc out wr ∧ Only (fun _ => False) w wr)) (fun _ c _ => l.length - (intOf c).toNat)
  case atStart => exact ⟨0, [], none, 0, rfl, rfl, by omega, Lib.hid ⟨HAL.out, rfl, RowOf.nil _ _ _ _ _, Only.refl _ _⟩⟩
  case round =>
    obtain ⟨j, out, ro, rc, rfl, rfl, hj, hI⟩ := hrel
    clear HAL
    obtain ⟨cb, fb⟩ := (HT.out.later hI.out.2.2.2).cell
    by_cases hlt : j < l.length
    · obtain ⟨x, hx⟩ : ∃ x, l[j]? = some x := ⟨_, List.getElem?_eq_getElem hlt⟩
      have p0 : (0 : Int) ≤ (j : Int) := by omega
      have p1 : (j : Int) < (l.length : Int) := by omega
      have HX := Lib.hid hx
      have HNX : Hid (allR l = (l.drop (j + 1)).foldl (fun out o => insO o out) (insO x out) ∧ (insO x out).length = j + 1) := Lib.hid ⟨by
        rw [hI.out.1]
        obtain ⟨hj', e⟩ := List.getElem?_eq_some_iff.1 hx
        rw [List.drop_eq_getElem_cons hj', e]
        rfl, by
        rw [ins_split]
        have := aheadN_le x out
        have := hI.out.2.1
        simp only [List.length_append, List.length_take, List.length_drop, List.length_cons, List.length_nil]
        omega⟩
      have HIS : Hid (insO x out = out.take (aheadN x out) ++ [x] ++ out.drop (aheadN x out)) := Lib.hid (ins_split x out)
      have HOL : Hid (out.length ≤ 100000) := Lib.hid (by rw [hI.out.2.1]; omega)
      clear hx
      go_wp2_with fail
      have HRI : Hid (RowOf encO 3 32 w.heap.size ro rc out wr ∧ Only (fun _ => False) w wr) := Lib.hid hI.out.2.2
      clear hI cb fb
      go_loopw [5] (fun cc wv => ∃ k : Nat, cc = .int .i64 k ∧ k ≤ out.length ∧ Hid (RowOf encO 3 32 w.heap.size ro rc out wv ∧ Only (fun _ => False) w wv ∧ aheadN x out = aheadN x (out.drop k) + k)) (fun cc _ => out.length - (intOf cc).toNat)
      case atStart => exact ⟨0, rfl, by omega, Lib.hid ⟨HRI.out.1, HRI.out.2, by rw [List.drop_zero]; rfl⟩⟩
      case round =>
        obtain ⟨k, rfl, hk, hK⟩ := hrel
        clear HRI
        have r0 : (0 : Int) ≤ (k : Int) := by omega
        have r9 : (k : Int) ≤ 100000 := by have := HOL.out; omega
        obtain ⟨cb, fb⟩ := (HT.out.later hK.out.2.1).cell
        obtain ⟨g1, hao, hg1, hl1, x0, x1, x2⟩ := (HT.out.later hK.out.2.1).op HX.out
        subst hao
        by_cases hkl : k < out.length
        · obtain ⟨y, hy⟩ : ∃ y, out[k]? = some y := ⟨_, List.getElem?_eq_getElem hkl⟩
          obtain ⟨g2, hro, hg2, hc2⟩ := hK.out.1.at lieO k y hy
          subst hro
          have hl2 := (hK.out.1.head _ rfl).2.2
          have y0 := (hc2 0 (by decide)).1
          have y1 := (hc2 1 (by decide)).1
          have y2 := (hc2 2 (by decide)).1
          simp only [encO, List.getElem?_cons_zero, List.getElem?_cons_succ, Nat.add_zero] at y0 y1 y2
          have r1 : (k : Int) < (out.length : Int) := by omega
          have HST := Lib.hid (aheadN_at hy hK.out.2.2)
          have HKL := Lib.hid hkl
          have HKR := Lib.hid (And.intro hK.out.1 hK.out.2.1)
          clear hc2 hy hK
          go_wp2_with fail
          go_still_tail 16, (by kernel_rfl)
          change wpList _ _ _ _ _ wr.drew
          have HKD : Hid (RowOf encO 3 32 w.heap.size (some ⟨g2, 0, none⟩) rc out ((wr.drew.alloc (opC y.p y.k y.n)).alloc (opC x.p x.k x.n)) ∧ Only (fun _ => False) w ((wr.drew.alloc (opC y.p y.k y.n)).alloc (opC x.p x.k x.n))) := Lib.hid (by
            have o1 : Only (fun _ => False) wr ((wr.drew.alloc (opC y.p y.k y.n)).alloc (opC x.p x.k x.n)) := ((Only.drew _ _).same (Only.alloc _ _ _)).same (Only.alloc _ _ _)
            exact ⟨HKR.out.1.only o1 (fun _ _ e => e), HKR.out.2.same o1⟩)
          clear HKR cb fb x0 x1 x2 y0 y1 y2
          generalize wr.drew = w3 at *
          go_wp2_with fail
          refine (ahead_any y x _).mono ?_
          rintro e w4 ⟨rfl, rfl⟩
          generalize (w3.alloc (opC y.p y.k y.n)).alloc (opC x.p x.k x.n) = wq at *
          cases hah : aheadB y x with
          | true =>
            have HN := Lib.hid (HST.out.1 hah)
            clear hah HST
            go_wp2_with fail
            go_roundw
            case rel => exact ⟨k + 1, by go_num, HKL.out, Lib.hid ⟨HKD.out.1, HKD.out.2, HN.out⟩⟩
            case measure => have := HKL.out; simp [intOf]; omega
          | false =>
            have HKE := Lib.hid (HST.out.2 hah)
            clear hah HST
            go_wp2_with fail
            have HRW : Hid (RowOf encO 3 32 w.heap.size (some (⟨g2, 0, none⟩ : Addr)) rc out wq ∧ Only (fun _ => False) w wq) := HKD
            obtain ⟨cb, fb⟩ := (HT.out.later HRW.out.2).cell
            obtain ⟨g3, hao3, _, hl3, x0, x1, x2⟩ := (HT.out.later HRW.out.2).op HX.out
            cases hao3
            obtain ⟨hf1, hf2, hf3⟩ := part_front HRW.out.1 k hk
            obtain ⟨bo, hb1, hb2, hb3, hb4⟩ := part_back HRW.out.1 k hk
            have HRB : Hid (∀ g, (some (⟨g2, 0, none⟩ : Addr)) = some g → g.block < wq.heap.size) := Lib.hid (fun g hg => (HRW.out.1.head g hg).2.2)
            have HTB : Hid (insO x out = out.take k ++ [x] ++ out.drop k) := Lib.hid (by rw [HIS.out, HKE.out])
            have HTL : Hid ((out.take k).length ≤ 100000 ∧ (out.drop k).length ≤ 100000) := Lib.hid ⟨by have := HOL.out; rw [List.length_take]; omega, by have := HOL.out; rw [List.length_drop]; omega⟩
            have HLF : Hid (∀ W, Only (fun q => wq.heap.size ≤ q) wq W → Ly (some (⟨g2, 0, none⟩ : Addr)) (out.take k) W ∧ Ly bo (out.drop k) W) := Lib.hid (fun W ho => ⟨hf2.only ho (fun g hg e => absurd (Nat.lt_of_lt_of_le (HRB.out g hg) e) (Nat.lt_irrefl _)), hb2.only ho (fun g hg e => by
              obtain ⟨g', h1, h2⟩ := hb4 g hg
              rw [← h2] at e
              exact absurd (Nat.lt_of_lt_of_le (HRB.out g' h1) e) (Nat.lt_irrefl _))⟩)
            have HF3 := Lib.hid hf3
            have HB3 := Lib.hid hb3
            have HK : Hid (∀ W, Only (fun q => wq.heap.size ≤ q) wq W → W.cell? ⟨b, 0, none⟩ = some (.slice (some ⟨g1, 0, none⟩) l.length cap) ∧ W.cell? ⟨g1, j * 3, none⟩ = some (.int .i64 x.p) ∧ W.cell? ⟨g1, j * 3 + 1, none⟩ = some (.int .i64 x.k) ∧ W.cell? ⟨g1, j * 3 + 2, none⟩ = some (.string x.n)) := Lib.hid (fun W ho => by
              have hbq := lt_of_block (HT.out.later HRW.out.2).box
              exact ⟨(ho.cell (p := ⟨b, 0, none⟩) hbq (fun e => absurd (Nat.lt_of_lt_of_le hbq e) (Nat.lt_irrefl _))).trans cb, (ho.cell (p := ⟨g1, j * 3, none⟩) hl3 (fun e => absurd (Nat.lt_of_lt_of_le hl3 e) (Nat.lt_irrefl _))).trans x0, (ho.cell (p := ⟨g1, j * 3 + 1, none⟩) hl3 (fun e => absurd (Nat.lt_of_lt_of_le hl3 e) (Nat.lt_irrefl _))).trans x1, (ho.cell (p := ⟨g1, j * 3 + 2, none⟩) hl3 (fun e => absurd (Nat.lt_of_lt_of_le hl3 e) (Nat.lt_irrefl _))).trans x2⟩)
            clear hf2 hf3 hb2 hb3 hb4
            generalize out.take k = f at *
            generalize out.drop k = bk at *
            have oE : Only (fun q => wq.heap.size ≤ q) wq ((wq.alloc (.cells #[] 32)).drew) := (Only.alloc _ _ _).same (Only.drew _ _)
            have oX : Only (fun q => wq.heap.size ≤ q) wq ((wq.alloc (.cells #[.int .i64 x.p, .int .i64 x.k, .string x.n] 32)).drew) := (Only.alloc _ _ _).same (Only.drew _ _)
            have oEX : Only (fun q => wq.heap.size ≤ q) wq (((wq.alloc (.cells #[] 32)).alloc (.cells #[.int .i64 x.p, .int .i64 x.k, .string x.n] 32)).drew) := ((Only.alloc _ _ _).same (Only.alloc _ _ _)).same (Only.drew _ _)
            have oXE : Only (fun q => wq.heap.size ≤ q) wq (((wq.alloc (.cells #[.int .i64 x.p, .int .i64 x.k, .string x.n] 32)).alloc (.cells #[] 32)).drew) := ((Only.alloc _ _ _).same (Only.alloc _ _ _)).same (Only.drew _ _)
            obtain ⟨e0, e1, e2, e3⟩ := HK.out _ oE
            have HOE := Lib.hid oE
            have HOEX := Lib.hid oEX
            have HOXE := Lib.hid oXE
            clear oE oX oEX oXE
            go_region_law
              (first
              | (refine step_append_row (by rfl) (.tmp 35) (.tmp 38) (by rfl) wq.heap.size ((wq.alloc (.cells #[] 32)).drew) (some ⟨wq.heap.size, 0, none⟩) 0 [] (some (⟨g2, 0, none⟩ : Addr)) rc f (by rfl) (emp_of (heap_alloc_new wq _) (Nat.le_refl _)) (by rfl) (HLF.out _ HOE.out).1 HF3.out (by have := HTL.out.1; simp; omega) HOE.out.size ?_
                 intro a1 c1 w5 hr1 ho1 hn1
                 have HR1 := Lib.hid hr1
                 have HO1 := Lib.hid (HOE.out.same (at_new (emp_of (heap_alloc_new wq _) (Nat.le_refl _)) ho1))
                 have HXX : Hid True := Lib.hid trivial
                 obtain ⟨d0, d1, d2, d3⟩ := HK.out _ HO1.out
                 obtain ⟨b0, b1, b2, b3⟩ := HK.out _ (HO1.out.same (Only.alloc _ _ (.cells #[.int .i64 x.p, .int .i64 x.k, .string x.n] 32)))
                 clear hr1 ho1 hn1
                 have HL1 : Hid (([] ++ f : List Op3).length ≤ 100000) := Lib.hid (by rw [List.nil_append]; exact HTL.out.1)
                 have HE1 : Hid (([] ++ f : List Op3) = f) := Lib.hid (List.nil_append _)
                 generalize ([] ++ f : List Op3) = o1 at *)
              | (refine step_append_row (by rfl) (.tmp 35) (.tmp 38) (by rfl) wq.heap.size (((wq.alloc (.cells #[] 32)).alloc (.cells #[.int .i64 x.p, .int .i64 x.k, .string x.n] 32)).drew) (some ⟨wq.heap.size, 0, none⟩) 0 [] (some (⟨g2, 0, none⟩ : Addr)) rc f (by rfl) (emp_of (first_of wq _ _) (Nat.le_refl _)) (by rfl) (HLF.out _ HOEX.out).1 HF3.out (by have := HTL.out.1; simp; omega) HOEX.out.size ?_
                 intro a1 c1 w5 hr1 ho1 hn1
                 have HR1 := Lib.hid hr1
                 have HO1 := Lib.hid (HOEX.out.same (at_new (emp_of (first_of wq _ _) (Nat.le_refl _)) ho1))
                 have HXX : Hid (w5.heap[wq.heap.size + 1]? = some (.cells #[.int .i64 x.p, .int .i64 x.k, .string x.n] 32 (0, 0))) := Lib.hid ((ho1.block (wq.heap.size + 1) (lt_of_block (second_of wq _ _)) (by rintro ⟨g, hg, e⟩; cases hg; simp at e)).trans (second_of wq _ _))
                 clear hr1 ho1 hn1
                 have HL1 : Hid (([] ++ f : List Op3).length ≤ 100000) := Lib.hid (by rw [List.nil_append]; exact HTL.out.1)
                 have HE1 : Hid (([] ++ f : List Op3) = f) := Lib.hid (List.nil_append _)
                 generalize ([] ++ f : List Op3) = o1 at *)
              | (refine step_append_row (by rfl) (.tmp 35) (.tmp 38) (by rfl) wq.heap.size (((wq.alloc (.cells #[.int .i64 x.p, .int .i64 x.k, .string x.n] 32)).alloc (.cells #[] 32)).drew) (some ⟨wq.heap.size + 1, 0, none⟩) 0 [] (some (⟨g2, 0, none⟩ : Addr)) rc f (by rfl) (emp_of (second_of wq _ _) (Nat.le_succ _)) (by rfl) (HLF.out _ HOXE.out).1 HF3.out (by have := HTL.out.1; simp; omega) HOXE.out.size ?_
                 intro a1 c1 w5 hr1 ho1 hn1
                 have HR1 := Lib.hid hr1
                 have HO1 := Lib.hid (HOXE.out.same (at_new (emp_of (second_of wq _ _) (Nat.le_succ _)) ho1))
                 have HXX : Hid (w5.heap[wq.heap.size]? = some (.cells #[.int .i64 x.p, .int .i64 x.k, .string x.n] 32 (0, 0))) := Lib.hid ((ho1.block wq.heap.size (lt_of_block (first_of wq _ _)) (by rintro ⟨g, hg, e⟩; cases hg; simp at e)).trans (first_of wq _ _))
                 clear hr1 ho1 hn1
                 have HL1 : Hid (([] ++ f : List Op3).length ≤ 100000) := Lib.hid (by rw [List.nil_append]; exact HTL.out.1)
                 have HE1 : Hid (([] ++ f : List Op3) = f) := Lib.hid (List.nil_append _)
                 generalize ([] ++ f : List Op3) = o1 at *)
              | (refine step_append_row (by rfl) (.tmp 39) (.tmp 47) (by rfl) wq.heap.size (w5.alloc (.cells #[.int .i64 x.p, .int .i64 x.k, .string x.n] 32)) a1 c1 o1 (some ⟨w5.heap.size, 0, none⟩) 1 [x] (by rfl) (HR1.out.only (Only.alloc (fun _ => False) _ _) (fun _ _ e => e)) (by rfl) (ly_one (heap_alloc_new w5 _)) (fun e => by cases e) (by have := HL1.out; simp; omega) (Nat.le_trans HO1.out.size (by simp)) ?_
                 intro a2 c2 w6 hr2 ho2 hn2
                 have HR2 := Lib.hid hr2
                 have HO2 := Lib.hid ((HO1.out.same (Only.alloc _ _ _)).same (at_new (HR1.out.only (Only.alloc (fun _ => False) _ _) (fun _ _ e => e)) ho2))
                 clear hr2 ho2 hn2
                 have HL2 : Hid ((o1 ++ [x] : List Op3).length ≤ 100001) := Lib.hid (by have := HL1.out; rw [List.length_append, List.length_singleton]; omega)
                 have HE2 : Hid ((o1 ++ [x] : List Op3) = f ++ [x]) := Lib.hid (by rw [HE1.out])
                 generalize (o1 ++ [x] : List Op3) = o2 at *)
              | (refine step_append_row (by rfl) (.tmp 39) (.tmp 47) (by rfl) wq.heap.size w5 a1 c1 o1 (some ⟨_, 0, none⟩) 1 [x] (by rfl) HR1.out (by rfl) (ly_one HXX.out) (fun e => by cases e) (by have := HL1.out; simp; omega) HO1.out.size ?_
                 intro a2 c2 w6 hr2 ho2 hn2
                 have HR2 := Lib.hid hr2
                 have HO2 := Lib.hid (HO1.out.same (at_new HR1.out ho2))
                 clear hr2 ho2 hn2
                 have HL2 : Hid ((o1 ++ [x] : List Op3).length ≤ 100001) := Lib.hid (by have := HL1.out; rw [List.length_append, List.length_singleton]; omega)
                 have HE2 : Hid ((o1 ++ [x] : List Op3) = f ++ [x]) := Lib.hid (by rw [HE1.out])
                 generalize (o1 ++ [x] : List Op3) = o2 at *)
              | (refine step_append_row (by rfl) (.tmp 48) (.tmp 51) (by rfl) wq.heap.size w6 a2 c2 o2 bo (rc - k) bk (by rfl) HR2.out (by rfl) (HLF.out _ HO2.out).2 HB3.out (by have := HL2.out; have := HTL.out.2; omega) HO2.out.size ?_
                 intro a3 c3 w7 hr3 ho3 hn3
                 have HR3 := Lib.hid hr3
                 have HO3 := Lib.hid (HO2.out.same (at_new HR2.out ho3))
                 clear hr3 ho3 hn3
                 have HE3 : Hid ((o2 ++ bk : List Op3) = insO x out) := Lib.hid (by rw [HE2.out, HTB.out])
                 generalize (o2 ++ bk : List Op3) = o3 at *))
            all_goals
              have HR7 : Hid (RowOf encO 3 32 w.heap.size a3 c3 o3 w7 ∧ Only (fun _ => False) w w7) := Lib.hid ⟨row_base HR3.out HRW.out.2.size, Only.cut HRW.out.2 HO3.out (fun q e => Nat.le_trans HRW.out.2.size e)⟩
              have HN7 : Hid (allR l = (l.drop (j + 1)).foldl (fun out o => insO o out) o3 ∧ o3.length = j + 1) := Lib.hid (by rw [HE3.out]; exact HNX.out)
              clear HR1 HR2 HR3 HO1 HO2 HO3 HE1 HE2 HE3 HL1 HL2 HK HLF HTB HRW HKD
              go_wp2_with fail
              go_roundw
              case rel => exact ⟨j + 1, o3, a3, c3, rfl, by go_num, by omega, Lib.hid ⟨HN7.out.1, HN7.out.2, HR7.out.1, HR7.out.2⟩⟩
              case measure => simp [intOf]; omega
        · have HKE : Hid (aheadN x out = k) := Lib.hid (by have := hK.out.2.2; rw [List.drop_eq_nil_of_le (show out.length ≤ k by omega)] at this; simpa [aheadN] using this)
          have r1 : decide (k < out.length) = false := by rw [decide_eq_false_iff_not]; omega
          have r2 : decide ((k : Int) < (out.length : Int)) = false := by rw [decide_eq_false_iff_not]; omega
          have hkn : ¬ k < out.length := by omega
          have HKR := Lib.hid (And.intro hK.out.1 hK.out.2.1)
          clear hK
          go_wp2_with fail
          go_quiet (fail)
          have HKD : Hid (RowOf encO 3 32 w.heap.size ro rc out (wr.drewN nq) ∧ Only (fun _ => False) w (wr.drewN nq)) := Lib.hid ⟨HKR.out.1.only (Only.drewN (fun _ => False) _ _) (fun _ _ e => e), HKR.out.2.same (Only.drewN _ _ _)⟩
          clear HKR cb fb x0 x1 x2
          generalize wr.drewN nq = wq at *
          go_wp2_with fail
          have HRW : Hid (RowOf encO 3 32 w.heap.size ro rc out wq ∧ Only (fun _ => False) w wq) := HKD
          obtain ⟨cb, fb⟩ := (HT.out.later HRW.out.2).cell
          obtain ⟨g3, hao3, _, hl3, x0, x1, x2⟩ := (HT.out.later HRW.out.2).op HX.out
          cases hao3
          obtain ⟨hf1, hf2, hf3⟩ := part_front HRW.out.1 k hk
          obtain ⟨bo, hb1, hb2, hb3, hb4⟩ := part_back HRW.out.1 k hk
          have HRB : Hid (∀ g, ro = some g → g.block < wq.heap.size) := Lib.hid (fun g hg => (HRW.out.1.head g hg).2.2)
          have HTB : Hid (insO x out = out.take k ++ [x] ++ out.drop k) := Lib.hid (by rw [HIS.out, HKE.out])
          have HTL : Hid ((out.take k).length ≤ 100000 ∧ (out.drop k).length ≤ 100000) := Lib.hid ⟨by have := HOL.out; rw [List.length_take]; omega, by have := HOL.out; rw [List.length_drop]; omega⟩
          have HLF : Hid (∀ W, Only (fun q => wq.heap.size ≤ q) wq W → Ly ro (out.take k) W ∧ Ly bo (out.drop k) W) := Lib.hid (fun W ho => ⟨hf2.only ho (fun g hg e => absurd (Nat.lt_of_lt_of_le (HRB.out g hg) e) (Nat.lt_irrefl _)), hb2.only ho (fun g hg e => by
            obtain ⟨g', h1, h2⟩ := hb4 g hg
            rw [← h2] at e
            exact absurd (Nat.lt_of_lt_of_le (HRB.out g' h1) e) (Nat.lt_irrefl _))⟩)
          have HF3 := Lib.hid hf3
          have HB3 := Lib.hid hb3
          have HK : Hid (∀ W, Only (fun q => wq.heap.size ≤ q) wq W → W.cell? ⟨b, 0, none⟩ = some (.slice (some ⟨g1, 0, none⟩) l.length cap) ∧ W.cell? ⟨g1, j * 3, none⟩ = some (.int .i64 x.p) ∧ W.cell? ⟨g1, j * 3 + 1, none⟩ = some (.int .i64 x.k) ∧ W.cell? ⟨g1, j * 3 + 2, none⟩ = some (.string x.n)) := Lib.hid (fun W ho => by
            have hbq := lt_of_block (HT.out.later HRW.out.2).box
            exact ⟨(ho.cell (p := ⟨b, 0, none⟩) hbq (fun e => absurd (Nat.lt_of_lt_of_le hbq e) (Nat.lt_irrefl _))).trans cb, (ho.cell (p := ⟨g1, j * 3, none⟩) hl3 (fun e => absurd (Nat.lt_of_lt_of_le hl3 e) (Nat.lt_irrefl _))).trans x0, (ho.cell (p := ⟨g1, j * 3 + 1, none⟩) hl3 (fun e => absurd (Nat.lt_of_lt_of_le hl3 e) (Nat.lt_irrefl _))).trans x1, (ho.cell (p := ⟨g1, j * 3 + 2, none⟩) hl3 (fun e => absurd (Nat.lt_of_lt_of_le hl3 e) (Nat.lt_irrefl _))).trans x2⟩)
          clear hf2 hf3 hb2 hb3 hb4
          generalize out.take k = f at *
          generalize out.drop k = bk at *
          have oE : Only (fun q => wq.heap.size ≤ q) wq ((wq.alloc (.cells #[] 32)).drew) := (Only.alloc _ _ _).same (Only.drew _ _)
          have oX : Only (fun q => wq.heap.size ≤ q) wq ((wq.alloc (.cells #[.int .i64 x.p, .int .i64 x.k, .string x.n] 32)).drew) := (Only.alloc _ _ _).same (Only.drew _ _)
          have oEX : Only (fun q => wq.heap.size ≤ q) wq (((wq.alloc (.cells #[] 32)).alloc (.cells #[.int .i64 x.p, .int .i64 x.k, .string x.n] 32)).drew) := ((Only.alloc _ _ _).same (Only.alloc _ _ _)).same (Only.drew _ _)
          have oXE : Only (fun q => wq.heap.size ≤ q) wq (((wq.alloc (.cells #[.int .i64 x.p, .int .i64 x.k, .string x.n] 32)).alloc (.cells #[] 32)).drew) := ((Only.alloc _ _ _).same (Only.alloc _ _ _)).same (Only.drew _ _)
          obtain ⟨e0, e1, e2, e3⟩ := HK.out _ oE
          have HOE := Lib.hid oE
          have HOEX := Lib.hid oEX
          have HOXE := Lib.hid oXE
          clear oE oX oEX oXE
          go_region_law
            (first
            | (refine step_append_row (by rfl) (.tmp 35) (.tmp 38) (by rfl) wq.heap.size ((wq.alloc (.cells #[] 32)).drew) (some ⟨wq.heap.size, 0, none⟩) 0 [] ro rc f (by rfl) (emp_of (heap_alloc_new wq _) (Nat.le_refl _)) (by rfl) (HLF.out _ HOE.out).1 HF3.out (by have := HTL.out.1; simp; omega) HOE.out.size ?_
               intro a1 c1 w5 hr1 ho1 hn1
               have HR1 := Lib.hid hr1
               have HO1 := Lib.hid (HOE.out.same (at_new (emp_of (heap_alloc_new wq _) (Nat.le_refl _)) ho1))
               have HXX : Hid True := Lib.hid trivial
               obtain ⟨d0, d1, d2, d3⟩ := HK.out _ HO1.out
               obtain ⟨b0, b1, b2, b3⟩ := HK.out _ (HO1.out.same (Only.alloc _ _ (.cells #[.int .i64 x.p, .int .i64 x.k, .string x.n] 32)))
               clear hr1 ho1 hn1
               have HL1 : Hid (([] ++ f : List Op3).length ≤ 100000) := Lib.hid (by rw [List.nil_append]; exact HTL.out.1)
               have HE1 : Hid (([] ++ f : List Op3) = f) := Lib.hid (List.nil_append _)
               generalize ([] ++ f : List Op3) = o1 at *)
            | (refine step_append_row (by rfl) (.tmp 35) (.tmp 38) (by rfl) wq.heap.size (((wq.alloc (.cells #[] 32)).alloc (.cells #[.int .i64 x.p, .int .i64 x.k, .string x.n] 32)).drew) (some ⟨wq.heap.size, 0, none⟩) 0 [] ro rc f (by rfl) (emp_of (first_of wq _ _) (Nat.le_refl _)) (by rfl) (HLF.out _ HOEX.out).1 HF3.out (by have := HTL.out.1; simp; omega) HOEX.out.size ?_
               intro a1 c1 w5 hr1 ho1 hn1
               have HR1 := Lib.hid hr1
               have HO1 := Lib.hid (HOEX.out.same (at_new (emp_of (first_of wq _ _) (Nat.le_refl _)) ho1))
               have HXX : Hid (w5.heap[wq.heap.size + 1]? = some (.cells #[.int .i64 x.p, .int .i64 x.k, .string x.n] 32 (0, 0))) := Lib.hid ((ho1.block (wq.heap.size + 1) (lt_of_block (second_of wq _ _)) (by rintro ⟨g, hg, e⟩; cases hg; simp at e)).trans (second_of wq _ _))
               clear hr1 ho1 hn1
               have HL1 : Hid (([] ++ f : List Op3).length ≤ 100000) := Lib.hid (by rw [List.nil_append]; exact HTL.out.1)
               have HE1 : Hid (([] ++ f : List Op3) = f) := Lib.hid (List.nil_append _)
               generalize ([] ++ f : List Op3) = o1 at *)
            | (refine step_append_row (by rfl) (.tmp 35) (.tmp 38) (by rfl) wq.heap.size (((wq.alloc (.cells #[.int .i64 x.p, .int .i64 x.k, .string x.n] 32)).alloc (.cells #[] 32)).drew) (some ⟨wq.heap.size + 1, 0, none⟩) 0 [] ro rc f (by rfl) (emp_of (second_of wq _ _) (Nat.le_succ _)) (by rfl) (HLF.out _ HOXE.out).1 HF3.out (by have := HTL.out.1; simp; omega) HOXE.out.size ?_
               intro a1 c1 w5 hr1 ho1 hn1
               have HR1 := Lib.hid hr1
               have HO1 := Lib.hid (HOXE.out.same (at_new (emp_of (second_of wq _ _) (Nat.le_succ _)) ho1))
               have HXX : Hid (w5.heap[wq.heap.size]? = some (.cells #[.int .i64 x.p, .int .i64 x.k, .string x.n] 32 (0, 0))) := Lib.hid ((ho1.block wq.heap.size (lt_of_block (first_of wq _ _)) (by rintro ⟨g, hg, e⟩; cases hg; simp at e)).trans (first_of wq _ _))
               clear hr1 ho1 hn1
               have HL1 : Hid (([] ++ f : List Op3).length ≤ 100000) := Lib.hid (by rw [List.nil_append]; exact HTL.out.1)
               have HE1 : Hid (([] ++ f : List Op3) = f) := Lib.hid (List.nil_append _)
               generalize ([] ++ f : List Op3) = o1 at *)
            | (refine step_append_row (by rfl) (.tmp 39) (.tmp 47) (by rfl) wq.heap.size (w5.alloc (.cells #[.int .i64 x.p, .int .i64 x.k, .string x.n] 32)) a1 c1 o1 (some ⟨w5.heap.size, 0, none⟩) 1 [x] (by rfl) (HR1.out.only (Only.alloc (fun _ => False) _ _) (fun _ _ e => e)) (by rfl) (ly_one (heap_alloc_new w5 _)) (fun e => by cases e) (by have := HL1.out; simp; omega) (Nat.le_trans HO1.out.size (by simp)) ?_
               intro a2 c2 w6 hr2 ho2 hn2
               have HR2 := Lib.hid hr2
               have HO2 := Lib.hid ((HO1.out.same (Only.alloc _ _ _)).same (at_new (HR1.out.only (Only.alloc (fun _ => False) _ _) (fun _ _ e => e)) ho2))
               clear hr2 ho2 hn2
               have HL2 : Hid ((o1 ++ [x] : List Op3).length ≤ 100001) := Lib.hid (by have := HL1.out; rw [List.length_append, List.length_singleton]; omega)
               have HE2 : Hid ((o1 ++ [x] : List Op3) = f ++ [x]) := Lib.hid (by rw [HE1.out])
               generalize (o1 ++ [x] : List Op3) = o2 at *)
            | (refine step_append_row (by rfl) (.tmp 39) (.tmp 47) (by rfl) wq.heap.size w5 a1 c1 o1 (some ⟨_, 0, none⟩) 1 [x] (by rfl) HR1.out (by rfl) (ly_one HXX.out) (fun e => by cases e) (by have := HL1.out; simp; omega) HO1.out.size ?_
               intro a2 c2 w6 hr2 ho2 hn2
               have HR2 := Lib.hid hr2
               have HO2 := Lib.hid (HO1.out.same (at_new HR1.out ho2))
               clear hr2 ho2 hn2
               have HL2 : Hid ((o1 ++ [x] : List Op3).length ≤ 100001) := Lib.hid (by have := HL1.out; rw [List.length_append, List.length_singleton]; omega)
               have HE2 : Hid ((o1 ++ [x] : List Op3) = f ++ [x]) := Lib.hid (by rw [HE1.out])
               generalize (o1 ++ [x] : List Op3) = o2 at *)
            | (refine step_append_row (by rfl) (.tmp 48) (.tmp 51) (by rfl) wq.heap.size w6 a2 c2 o2 bo (rc - k) bk (by rfl) HR2.out (by rfl) (HLF.out _ HO2.out).2 HB3.out (by have := HL2.out; have := HTL.out.2; omega) HO2.out.size ?_
               intro a3 c3 w7 hr3 ho3 hn3
               have HR3 := Lib.hid hr3
               have HO3 := Lib.hid (HO2.out.same (at_new HR2.out ho3))
               clear hr3 ho3 hn3
               have HE3 : Hid ((o2 ++ bk : List Op3) = insO x out) := Lib.hid (by rw [HE2.out, HTB.out])
               generalize (o2 ++ bk : List Op3) = o3 at *))
          all_goals
            have HR7 : Hid (RowOf encO 3 32 w.heap.size a3 c3 o3 w7 ∧ Only (fun _ => False) w w7) := Lib.hid ⟨row_base HR3.out HRW.out.2.size, Only.cut HRW.out.2 HO3.out (fun q e => Nat.le_trans HRW.out.2.size e)⟩
            have HN7 : Hid (allR l = (l.drop (j + 1)).foldl (fun out o => insO o out) o3 ∧ o3.length = j + 1) := Lib.hid (by rw [HE3.out]; exact HNX.out)
            clear HR1 HR2 HR3 HO1 HO2 HO3 HE1 HE2 HE3 HL1 HL2 HK HLF HTB HRW HKD
            go_wp2_with fail
            go_roundw
            case rel => exact ⟨j + 1, o3, a3, c3, rfl, by go_num, by omega, Lib.hid ⟨HN7.out.1, HN7.out.2, HR7.out.1, HR7.out.2⟩⟩
            case measure => simp [intOf]; omega
    · have HFIN : Hid (allR l = out ∧ RowO w.heap.size ro out wr ∧ Only (fun _ => False) w wr) := Lib.hid ⟨by have := hI.out.1; rw [List.drop_eq_nil_of_le (show l.length ≤ j by omega)] at this; exact this, fun i x hi => by
        obtain ⟨g, rfl, hg, hc⟩ := hI.out.2.2.1.at lieO i x hi
        exact ⟨g, rfl, hg, (hI.out.2.2.1.head _ rfl).2.2, (hc 0 (by decide)).1, (hc 1 (by decide)).1, (hc 2 (by decide)).1⟩, hI.out.2.2.2⟩
      obtain rfl : j = l.length := by omega
      clear hI
      go_wp2_with fail
      go_ret
      rw [HFIN.out.1]
      exact ⟨⟨_, _, rfl, HFIN.out.2.1⟩, HFIN.out.2.2⟩
end Go.Proofs.YtodgjkdhkohckaaDoor.opers
