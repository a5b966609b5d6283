/- The law's sweep of both, walked. -/
import Derived.Test.YtaplfibhhdngbaaPool49
namespace Go.Proofs.Ytaplfibhhdngbaa.pools
open Go.RowKit Go.Proofs.Ytaplfibhhdngbaa.own Go.Proofs.Ytaplfibhhdngbaa.trees Go.Proofs.Ytaplfibhhdngbaa.rows Go.Proofs.Ytaplfibhhdngbaa.frames
variable {S R : Nat → Prop} {p x lim : Nat} {F F' : List Bool} {St St' : List Nat} {w0 w w' w2 w3 : World}
theorem sweep_end (n0 : Int) (n : Nat) (hn : n = if 1 ≤ n0 ∧ n0 ≤ 100 then n0.toNat else 2) : 1 ≤ n ∧ n ≤ 100 := by
  rw [hn]
  split <;> omega
set_option maxRecDepth 100000 in
set_option maxHeartbeats 8000000 in
theorem sweep_both (n0 : Int) (n : Nat) (hn : n = if 1 ≤ n0 ∧ n0 ≤ 100 then n0.toNat else 2) (h : Two S R p x lim F St w0 w) :
    Calls Try.prog 33 #[.pointer (some ⟨p, 0, none⟩), .pointer (some ⟨x, 0, none⟩), .int .i64 n0] w fun e w' => e = .returned (.bool true) ∧ Both p x lim (sweepF F n) St w0 w' := by
  have hmf : ∀ (fn : Fn) (first cap : Array Value) (w : World), (Instr.makeFunc fn first cap).run Try.prog w = .ok (.func fn first cap) w := fun _ _ _ _ => rfl
  obtain ⟨i0, hi, hz0, hz1, hz2⟩ := info_parts info64
  have H := Lib.hid h
  have hnb := sweep_end n0 n hn
  have hlim := h.pool.facts.limit
  have hsb : ¬ S w.heap.size := fun e => by have := (h.pool.own _ e).2; omega
  have hrb : ∀ j, R j → j < w.heap.size := fun j hj => (h.ref.own j hj).2
  have HRb := Lib.hid hrb
  have hwb := h.below.size
  clear h hrb
  by_cases hin : 1 ≤ n0 ∧ n0 ≤ 100
  case' pos =>
    rw [if_pos hin] at hn
    have hnn : n0 = (n : Int) := by omega
    subst hnn
    have g1 : ¬ ((n : Int) < 1) := by omega
    have g2 : ¬ ((n : Int) > 100) := by omega
    clear hn hin
    go_enter Try.func33, Try.ntmps33
    go_wp2_with fail
  case' neg =>
    rw [if_neg hin] at hn
    have hn2 : (2 : Int) = (n : Int) := by omega
    clear hn
    have HN2 := Lib.hid hn2
    clear hn2
    have g1 : n0 < 1 ∨ n0 > 100 := by omega
    by_cases g2 : n0 < 1
    case' pos =>
      go_enter Try.func33, Try.ntmps33
      go_wp2_with fail
      rw [HN2.out]
    case' neg =>
      have g3 : n0 > 100 := by omega
      go_enter Try.func33, Try.ntmps33
      go_wp2_with fail
      rw [HN2.out]
  all_goals
    have HSw : Hid (SweeperAt 0 w.heap.size n [] none 0 (w.alloc (.cells #[.int .i64 (n : Int), .slice none 0 0] 71))) := Lib.hid ⟨heap_alloc_new w _, RowOf.nil _ _ _ _ _, fun g hg => by cases hg⟩
    have HO1 : Hid (Only (fun _ => False) w (w.alloc (.cells #[.int .i64 (n : Int), .slice none 0 0] 71))) := Lib.hid (Only.alloc _ _ _)
    have hs1 : (w.alloc (.cells #[.int .i64 (n : Int), .slice none 0 0] 71)).heap.size = w.heap.size + 1 := by simp
    generalize w.alloc (.cells #[.int .i64 (n : Int), .slice none 0 0] 71) = w1 at *
    refine (sweep_any (H.out.pool.only HO1.out) HSw.out hsb hnb.1 hnb.2).mono ?_
    rintro e w2 ⟨rfl, S', ak, acap, hp2, hsub, hsw, hak, ho⟩
    have hs2 := ho.size
    have HR2 := H.out.ref.far ((HO1.out.no (fun j => S j ∨ j = w.heap.size)).same ho) (fun j hj e => by
      rcases e with e | e
      · exact H.out.apart j e hj
      · have := HRb.out j hj; omega)
    have HP2 := Lib.hid hp2
    have HSub := Lib.hid hsub
    have HSw2 := Lib.hid hsw
    have HAk := Lib.hid hak
    have HB2 := Lib.hid ((H.out.below.trans (HO1.out.below H.out.below.size (fun _ _ e => e.elim))).trans (ho.below (by omega) (fun j hj e => by
      rcases e with e | e
      · exact (H.out.pool.own j e).1
      · omega)))
    obtain ⟨fo, fcap, so, scap, hr2⟩ := HR2
    have HX2 := Lib.hid hr2
    have hR2 : ∀ j, R j → j < w2.heap.size := fun j hj => by have := HRb.out j hj; omega
    have HR2 := Lib.hid hR2
    have I0 : Hid (LawI R w0.heap.size x fo fcap so scap lim F St n 0 none 0 w2 w2) := Lib.hid ⟨by rw [partF_zero]; exact hr2, RowOf.nil _ _ _ _ _, Only.refl _ _⟩
    clear hp2 hsub hsw hak ho hr2 hR2 HSw hmf
    go_wp2_with fail
    go_loopw [9, 10, 11] (fun v c i wr => ∃ (k : Nat) (ao : Option Addr) (cap : Nat), v = .slice ao (askL F k).length cap ∧ c = .int .i64 (deadL F n k).length ∧ i = .int .i64 k ∧ k ≤ F.length ∧ Hid (LawI R w0.heap.size x fo fcap so scap lim F St n k ao cap w2 wr)) (fun _ _ i _ => F.length - (intOf i).toNat)
    case atStart => exact ⟨0, none, 0, rfl, rfl, rfl, by omega, I0⟩
    case round =>
      obtain ⟨k, ao, cap, rfl, rfl, rfl, hk, HI⟩ := hrel
      have c0 := HI.out.ref.c0
      rw [partF_len] at c0
      have hal := askL_len F k
      have hdl := deadL_len F n k
      by_cases hkl : k < F.length
      · obtain ⟨gf, hgf, hcf, hzf⟩ := HI.out.ref.cell k (by rw [partF_len]; exact hkl)
        subst hgf
        rw [partF_at hkl] at hcf
        have hkI : (k : Int) < (F.length : Int) := by omega
        cases hf : F.getD k false with
        | true =>
          rw [hf] at hcf
          have HN : Hid (LawI R w0.heap.size x (some ⟨gf, 0, none⟩) fcap so scap lim F St n (k + 1) ao cap w2 wr) := Lib.hid ⟨by rw [partF_same (.inl hf)]; exact HI.out.ref, by rw [askL_free1 hf]; exact HI.out.row, HI.out.only⟩
          have HL : Hid ((askL F (k + 1)).length = (askL F k).length ∧ (deadL F n (k + 1)).length = (deadL F n k).length) := Lib.hid ⟨by rw [askL_free1 hf], by rw [deadL_free1 hf]⟩
          clear hf
          go_wp2_with fail
          go_roundw
          case rel => exact ⟨k + 1, ao, cap, by rw [HL.out.1], by rw [HL.out.2], by go_num, by omega, HN⟩
          case measure => simp [intOf]; omega
        | false =>
          rw [hf] at hcf
          have HF := Lib.hid hf
          obtain ⟨r, hr⟩ : ∃ r, k % n = r := ⟨_, rfl⟩
          have hr1 : Int.tmod (k : Int) (n : Int) = (r : Int) := by rw [← hr]; rfl
          have hn0 : ((n : Int) == 0) = false := by simp; omega
          have hbw := HI.out.only.size
          have HRr := Lib.hid hr
          clear hf hr hzf
          by_cases hr0 : r = 0
          · subst hr0
            go_wp2_with (first
              | (at_builtin; refine wp_append_one lies64 rfl (.tmp 41) (.tmp 43) 38 rfl w2.heap.size 3 i0 _ 8 Try.underlying38 hi hz0 hz1 hz2 rfl (by omega) wr ao cap (askL F k) k [.int .i64 k] rfl rfl HI.out.row rfl (by omega) hbw ?_; intro ao' cap' w5 hrow5 ho5 hnew5
                 have NT := Lib.hid (HI.out.noted HR2.out HF.out hrow5 ho5)
                 clear hrow5 ho5 hnew5 c0 hcf
                 have c0 := NT.out.ref.c0
                 rw [partF_len] at c0
                 obtain ⟨gf5, hgf5, hcf5, hzf5⟩ := NT.out.ref.cell k (by rw [partF_len]; exact hkl)
                 obtain rfl : gf = gf5 := by simpa using hgf5
                 have HT := Lib.hid (fun w6 e => NT.out.ref.turned (w2 := w6) k (by rw [partF_len]; exact hkl) true e)
                 clear hgf5)
              | fail)
            have hT := HT.out _ rfl
            have HN : Hid (LawI R w0.heap.size x (some ⟨gf, 0, none⟩) fcap so scap lim F St n (k + 1) ao' cap' w2 _) := Lib.hid ⟨by rw [partF_dead hkl HRr.out]; exact hT.1, NT.out.row.only hT.2 (fun g hg e => by
              have h6 := (NT.out.row.head g hg).2.1
              have h7 := HR2.out _ e
              omega), NT.out.only.same hT.2⟩
            have HL : Hid ((askL F (k + 1)).length = (askL F k).length + 1 ∧ (deadL F n (k + 1)).length = (deadL F n k).length + 1) := Lib.hid ⟨by rw [askL_taken HF.out]; simp, by rw [deadL_dead HF.out HRr.out]; simp⟩
            clear hT
            go_roundw
            case rel => exact ⟨k + 1, ao', cap', by rw [HL.out.1], by rw [HL.out.2]; go_num, by go_num, by omega, HN⟩
            case measure => simp [intOf]; omega
          · have hr2 : ((r : Int) == 0) = false := by simp; omega
            go_wp2_with (first
              | (at_builtin; refine wp_append_one lies64 rfl (.tmp 41) (.tmp 43) 38 rfl w2.heap.size 3 i0 _ 8 Try.underlying38 hi hz0 hz1 hz2 rfl (by omega) wr ao cap (askL F k) k [.int .i64 k] rfl rfl HI.out.row rfl (by omega) hbw ?_; intro ao' cap' w5 hrow5 ho5 hnew5
                 have NT := Lib.hid (HI.out.noted HR2.out HF.out hrow5 ho5)
                 clear hrow5 ho5 hnew5 c0 hcf)
              | fail)
            have HN : Hid (LawI R w0.heap.size x (some ⟨gf, 0, none⟩) fcap so scap lim F St n (k + 1) ao' cap' w2 w5) := Lib.hid ⟨by rw [partF_same (.inr (by rw [HRr.out]; exact hr0))]; exact NT.out.ref, NT.out.row, NT.out.only⟩
            have HL : Hid ((askL F (k + 1)).length = (askL F k).length + 1 ∧ (deadL F n (k + 1)).length = (deadL F n k).length) := Lib.hid ⟨by rw [askL_taken HF.out]; simp, by rw [deadL_live (by rw [HRr.out]; exact hr0)]⟩
            go_roundw
            case rel => exact ⟨k + 1, ao', cap', by rw [HL.out.1], by rw [HL.out.2], by go_num, by omega, HN⟩
            case measure => simp [intOf]; omega
      · have hke : k = F.length := by omega
        subst hke
        have hkI : ¬ ((F.length : Int) < (F.length : Int)) := by omega
        have hsw5 := HSw2.out.only HI.out.only (fun j hj e => by
          rcases hj with hj | ⟨g, hg, hj⟩
          · have := HRb.out j e; omega
          · have := HAk.out g hg
            have := HRb.out j e
            omega)
        have d1 := cell_of_blk hsw5.blk 1
        have HSw5 := Lib.hid hsw5
        have HFin : Hid (Both p x lim (sweepF F n) St w0 wr) := Lib.hid ⟨S', R, HP2.out.far HI.out.only (fun j hj e => by
            rcases HSub.out j hj with h6 | h6
            · exact H.out.apart j h6 e
            · have := HRb.out j e; omega), ⟨_, _, _, _, by have := HI.out.ref; rw [partF_all] at this; exact this⟩, fun j hj e => by
            rcases HSub.out j hj with h6 | h6
            · exact H.out.apart j h6 e
            · have := HRb.out j e; omega, HB2.out.trans (HI.out.only.below HB2.out.size (fun j _ e => (H.out.ref.own j e).1))⟩
        have HRow5 := Lib.hid HI.out.row
        clear hsw5
        go_wp2_with fail
        refine (sameInts_yes HSw5.out.row HRow5.out (by omega)).mono ?_
        rintro e w6 ⟨rfl, N, hN⟩
        have HF6 : Hid (Both p x lim (sweepF F n) St w0 w6) := Lib.hid (by
          obtain ⟨S1, R1, h1⟩ := HFin.out
          exact ⟨S1, R1, h1.still (by rw [hN]; exact Only.drewN _ _ _)⟩)
        clear hN
        go_wp2_with fail
        go_ret
        exact ⟨rfl, HF6.out⟩
end Go.Proofs.Ytaplfibhhdngbaa.pools
