/- The five laws of layer 1: each walk answers true. -/
import Derived.Test.YtdhppkobhmbnaaaDoorCell6
namespace Go.Proofs.YtdhppkobhmbnaaaDoor.cells
open Go.RowKit Go.Lib

/-- What Make answers. -/
def MakeEnd (t n : Int) (e : Ending) : Prop := (MayBe t n ∧ e = .returned (.tuple #[.int .u64 (mkOf t n), .int .i64 0])) ∨ (¬ MayBe t n ∧ e = .returned (.tuple #[.int .u64 0, .int .i64 1]))
theorem make_any (t n : Int) (w : World) : Calls Tryd.prog 8 #[.int .i64 t, .int .i64 n] w fun e w' => MakeEnd t n e ∧ w = w' := by
  by_cases h : MayBe t n
  · exact (make_yes t n w h.1 h.2.1 h.2.2.1 h.2.2.2).mono fun e w' ⟨he, hw⟩ => ⟨.inl ⟨h, he⟩, hw⟩
  · exact (make_no t n w h).mono fun e w' ⟨he, hw⟩ => ⟨.inr ⟨h, he⟩, hw⟩

set_option maxHeartbeats 1000000 in
theorem law_makes (t n : Int) (w : World) (hg : Ground w) : Calls Tryd.prog 3 #[.int .i64 t, .int .i64 n] w fun e w' => e = .returned (.bool true) ∧ Below w.heap.size w w' := by
  by_cases h : MayBe t n
  · have hm : mayB t n = true := by simp [mayB, h]
    have f1 := tag_mk h
    have f2 := num_mk h
    have f3 : isB (mkOf t n) t = true := by unfold isB; rw [f1]; simp [h.1, h.2.1]
    have f4 := mk_word t n
    obtain ⟨h1, h2, h3, h4⟩ := h
    generalize hx : mkOf t n = x at f1 f2 f3 f4
    have g1 : (tagOf x == t) = true := by rw [f1]; simp
    have g2 : (numOf x == n) = true := by rw [f2]; simp
    have HX := Lib.hid hx
    have HW := Lib.hid f4
    have H1 := Lib.hid g1
    have H2 := Lib.hid g2
    have H3 := Lib.hid f3
    have HM := Lib.hid hm
    clear f1 f2 f3 f4 hx g1 g2 hm
    go_enter Tryd.func3, Tryd.ntmps3
    go_wp2_with fail
    refine (make_yes _ _ _ h1 h2 h3 h4).mono ?_
    rintro e w1 ⟨rfl, rfl⟩
    rw [HX.out]
    go_wp2_with fail
    refine (lives_any _ hg).mono ?_
    rintro e w1 ⟨rfl, hb⟩
    go_wp2_with fail
    refine (rmay_any _ _ _).mono ?_
    rintro e w2 ⟨rfl, rfl⟩
    rw [HM.out]
    go_wp2_with fail
    refine (rmake_any _ _ _ h1 h2 h3 h4).mono ?_
    rintro e w2 ⟨rfl, rfl⟩
    rw [HX.out]
    go_wp2_with fail
    refine (tag_any _ _ HW.out).mono ?_
    rintro e w2 ⟨rfl, rfl⟩
    have g1 := H1.out
    go_wp2_with fail
    refine (number_any _ _ HW.out).mono ?_
    rintro e w2 ⟨rfl, rfl⟩
    have g2 := H2.out
    go_wp2_with fail
    refine (is_any _ _ _ HW.out).mono ?_
    rintro e w2 ⟨rfl, rfl⟩
    rw [H3.out]
    go_wp2_with fail
    go_ret
    exact ⟨rfl, hb⟩
  · have hm : mayB t n = false := by simp [mayB, h]
    have HM := Lib.hid hm
    have HN := Lib.hid h
    clear hm h
    go_enter Tryd.func3, Tryd.ntmps3
    go_wp2_with fail
    refine (make_no _ _ _ HN.out).mono ?_
    rintro e w1 ⟨rfl, rfl⟩
    go_wp2_with fail
    refine (lives_any _ hg).mono ?_
    rintro e w1 ⟨rfl, hb⟩
    go_wp2_with fail
    refine (rmay_any _ _ _).mono ?_
    rintro e w2 ⟨rfl, rfl⟩
    rw [HM.out]
    go_wp2_with fail
    go_ret
    exact ⟨rfl, hb⟩

set_option maxHeartbeats 1000000 in
theorem reads_own (x : Int) (w : World) (hx : Hid (IsWord x)) (hg : Ground w) (h8 : x % 8 ≠ 0) : Calls Tryd.prog 4 #[.int .u64 x, .int .i64 (tagOf x)] w fun e w' => e = .returned (.bool true) ∧ Below w.heap.size w w' := by
  have hm := mk_of hx.out h8
  obtain ⟨m1, m2, m3, m4⟩ := hm.2
  have HX := Lib.hid hm.1
  have e3 : (tagOf x == 0) = false := by unfold tagOf; simpa using h8
  have e4 : 0 < tagOf x := by unfold tagOf; omega
  clear hm h8
  have HI : Hid (isB x (tagOf x) = true) := by
    show isB x (tagOf x) = true
    unfold isB; simp [m1, m2]
  go_enter Tryd.func4, Tryd.ntmps4
  go_wp2_with fail
  refine (rtag_any _ _ hx.out).mono ?_
  rintro e w1 ⟨rfl, rfl⟩
  go_wp2_with fail
  refine (lives_any _ hg).mono ?_
  rintro e w1 ⟨rfl, hb⟩
  have hg1 := hg.below hb
  go_wp2_with fail
  refine (tag_any _ _ hx.out).mono ?_
  rintro e w2 ⟨rfl, rfl⟩
  go_wp2_with fail
  refine (number_any _ _ hx.out).mono ?_
  rintro e w2 ⟨rfl, rfl⟩
  go_wp2_with fail
  refine (rnumber_any _ _ hx.out).mono ?_
  rintro e w2 ⟨rfl, rfl⟩
  go_wp2_with fail
  refine (is_any _ _ _ hx.out).mono ?_
  rintro e w2 ⟨rfl, rfl⟩
  rw [HI.out]
  go_wp2_with fail
  refine (text_any _ _ hx.out hg1).mono ?_
  rintro e w2 ⟨rfl, hb2⟩
  have hg2 := hg1.below hb2
  go_wp2_with fail
  refine (rtext_any _ _ hx.out).mono ?_
  rintro e w3 ⟨rfl, rfl⟩
  go_wp2_with fail
  refine (name_any _ _ hg2).mono ?_
  rintro e w3 ⟨rfl, rfl⟩
  go_wp2_with fail
  refine (rname_any _ _).mono ?_
  rintro e w3 ⟨rfl, rfl⟩
  go_wp2_with fail
  refine (tag_any _ _ hx.out).mono ?_
  rintro e w3 ⟨rfl, rfl⟩
  go_wp2_with fail
  refine (number_any _ _ hx.out).mono ?_
  rintro e w3 ⟨rfl, rfl⟩
  go_wp2_with fail
  refine (make_yes _ _ _ m1 m2 m3 m4).mono ?_
  rintro e w3 ⟨rfl, rfl⟩
  rw [HX.out]
  go_wp2_with fail
  go_ret
  exact ⟨rfl, hb.trans (hb2.mono hb.size)⟩
set_option maxHeartbeats 1000000 in
theorem reads_other (x : Int) (w : World) (hx : Hid (IsWord x)) (hg : Ground w) (t : Int) (h8 : x % 8 ≠ 0) (hne : tagOf x ≠ t) : Calls Tryd.prog 4 #[.int .u64 x, .int .i64 t] w fun e w' => e = .returned (.bool true) ∧ Below w.heap.size w w' := by
  have hm := mk_of hx.out h8
  obtain ⟨m1, m2, m3, m4⟩ := hm.2
  have HX := Lib.hid hm.1
  have e3 : (tagOf x == 0) = false := by unfold tagOf; simpa using h8
  have e4 : 0 < tagOf x := by unfold tagOf; omega
  clear hm h8
  have HI : Hid (isB x t = false) := by
    show isB x t = false
    unfold isB; simp [hne]
  have e5 : (tagOf x == t) = false := beq_eq_false_iff_ne.2 hne
  clear hne
  go_enter Tryd.func4, Tryd.ntmps4
  go_wp2_with fail
  refine (rtag_any _ _ hx.out).mono ?_
  rintro e w1 ⟨rfl, rfl⟩
  go_wp2_with fail
  refine (lives_any _ hg).mono ?_
  rintro e w1 ⟨rfl, hb⟩
  have hg1 := hg.below hb
  go_wp2_with fail
  refine (tag_any _ _ hx.out).mono ?_
  rintro e w2 ⟨rfl, rfl⟩
  go_wp2_with fail
  refine (number_any _ _ hx.out).mono ?_
  rintro e w2 ⟨rfl, rfl⟩
  go_wp2_with fail
  refine (rnumber_any _ _ hx.out).mono ?_
  rintro e w2 ⟨rfl, rfl⟩
  go_wp2_with fail
  refine (is_any _ _ _ hx.out).mono ?_
  rintro e w2 ⟨rfl, rfl⟩
  rw [HI.out]
  go_wp2_with fail
  refine (text_any _ _ hx.out hg1).mono ?_
  rintro e w2 ⟨rfl, hb2⟩
  have hg2 := hg1.below hb2
  go_wp2_with fail
  refine (rtext_any _ _ hx.out).mono ?_
  rintro e w3 ⟨rfl, rfl⟩
  go_wp2_with fail
  refine (name_any _ _ hg2).mono ?_
  rintro e w3 ⟨rfl, rfl⟩
  go_wp2_with fail
  refine (rname_any _ _).mono ?_
  rintro e w3 ⟨rfl, rfl⟩
  go_wp2_with fail
  refine (tag_any _ _ hx.out).mono ?_
  rintro e w3 ⟨rfl, rfl⟩
  go_wp2_with fail
  refine (number_any _ _ hx.out).mono ?_
  rintro e w3 ⟨rfl, rfl⟩
  go_wp2_with fail
  refine (make_yes _ _ _ m1 m2 m3 m4).mono ?_
  rintro e w3 ⟨rfl, rfl⟩
  rw [HX.out]
  go_wp2_with fail
  go_ret
  exact ⟨rfl, hb.trans (hb2.mono hb.size)⟩
set_option maxHeartbeats 1000000 in
theorem reads_zero (x : Int) (w : World) (hx : Hid (IsWord x)) (hg : Ground w) (h8 : x % 8 = 0) : Calls Tryd.prog 4 #[.int .u64 x, .int .i64 (tagOf x)] w fun e w' => e = .returned (.bool true) ∧ Below w.heap.size w w' := by
  have e3 : (tagOf x == 0) = true := by unfold tagOf; simpa using h8
  have e4 : tagOf x ≤ 0 := by unfold tagOf; omega
  clear h8
  have HI : Hid (isB x (tagOf x) = false) := by
    show isB x (tagOf x) = false
    unfold isB; simp; omega
  go_enter Tryd.func4, Tryd.ntmps4
  go_wp2_with fail
  refine (rtag_any _ _ hx.out).mono ?_
  rintro e w1 ⟨rfl, rfl⟩
  go_wp2_with fail
  refine (lives_any _ hg).mono ?_
  rintro e w1 ⟨rfl, hb⟩
  have hg1 := hg.below hb
  go_wp2_with fail
  refine (tag_any _ _ hx.out).mono ?_
  rintro e w2 ⟨rfl, rfl⟩
  go_wp2_with fail
  refine (number_any _ _ hx.out).mono ?_
  rintro e w2 ⟨rfl, rfl⟩
  go_wp2_with fail
  refine (rnumber_any _ _ hx.out).mono ?_
  rintro e w2 ⟨rfl, rfl⟩
  go_wp2_with fail
  refine (is_any _ _ _ hx.out).mono ?_
  rintro e w2 ⟨rfl, rfl⟩
  rw [HI.out]
  go_wp2_with fail
  refine (text_any _ _ hx.out hg1).mono ?_
  rintro e w2 ⟨rfl, hb2⟩
  have hg2 := hg1.below hb2
  go_wp2_with fail
  refine (rtext_any _ _ hx.out).mono ?_
  rintro e w3 ⟨rfl, rfl⟩
  go_wp2_with fail
  refine (name_any _ _ hg2).mono ?_
  rintro e w3 ⟨rfl, rfl⟩
  go_wp2_with fail
  refine (rname_any _ _).mono ?_
  rintro e w3 ⟨rfl, rfl⟩
  go_wp2_with fail
  go_ret
  exact ⟨rfl, hb.trans (hb2.mono hb.size)⟩
set_option maxHeartbeats 1000000 in
theorem reads_none (x : Int) (w : World) (hx : Hid (IsWord x)) (hg : Ground w) (t : Int) (h8 : x % 8 = 0) (hne : tagOf x ≠ t) : Calls Tryd.prog 4 #[.int .u64 x, .int .i64 t] w fun e w' => e = .returned (.bool true) ∧ Below w.heap.size w w' := by
  have e3 : (tagOf x == 0) = true := by unfold tagOf; simpa using h8
  have e4 : tagOf x ≤ 0 := by unfold tagOf; omega
  clear h8
  have HI : Hid (isB x t = false) := by
    show isB x t = false
    unfold isB; simp [hne]
  have e5 : (tagOf x == t) = false := beq_eq_false_iff_ne.2 hne
  clear hne
  go_enter Tryd.func4, Tryd.ntmps4
  go_wp2_with fail
  refine (rtag_any _ _ hx.out).mono ?_
  rintro e w1 ⟨rfl, rfl⟩
  go_wp2_with fail
  refine (lives_any _ hg).mono ?_
  rintro e w1 ⟨rfl, hb⟩
  have hg1 := hg.below hb
  go_wp2_with fail
  refine (tag_any _ _ hx.out).mono ?_
  rintro e w2 ⟨rfl, rfl⟩
  go_wp2_with fail
  refine (number_any _ _ hx.out).mono ?_
  rintro e w2 ⟨rfl, rfl⟩
  go_wp2_with fail
  refine (rnumber_any _ _ hx.out).mono ?_
  rintro e w2 ⟨rfl, rfl⟩
  go_wp2_with fail
  refine (is_any _ _ _ hx.out).mono ?_
  rintro e w2 ⟨rfl, rfl⟩
  rw [HI.out]
  go_wp2_with fail
  refine (text_any _ _ hx.out hg1).mono ?_
  rintro e w2 ⟨rfl, hb2⟩
  have hg2 := hg1.below hb2
  go_wp2_with fail
  refine (rtext_any _ _ hx.out).mono ?_
  rintro e w3 ⟨rfl, rfl⟩
  go_wp2_with fail
  refine (name_any _ _ hg2).mono ?_
  rintro e w3 ⟨rfl, rfl⟩
  go_wp2_with fail
  refine (rname_any _ _).mono ?_
  rintro e w3 ⟨rfl, rfl⟩
  go_wp2_with fail
  go_ret
  exact ⟨rfl, hb.trans (hb2.mono hb.size)⟩
theorem law_reads (x t : Int) (w : World) (hx : IsWord x) (hg : Ground w) : Calls Tryd.prog 4 #[.int .u64 x, .int .i64 t] w fun e w' => e = .returned (.bool true) ∧ Below w.heap.size w w' := by
  by_cases h8 : x % 8 = 0
  · by_cases ht : tagOf x = t
    · subst ht; exact reads_zero x w hx hg h8
    · exact reads_none x w hx hg t h8 ht
  · by_cases ht : tagOf x = t
    · subst ht; exact reads_own x w hx hg h8
    · exact reads_other x w hx hg t h8 ht
end Go.Proofs.YtdhppkobhmbnaaaDoor.cells
