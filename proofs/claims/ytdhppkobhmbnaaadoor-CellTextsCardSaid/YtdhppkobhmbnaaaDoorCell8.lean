/- The laws CellTexts, CellApart and CellRises of layer 1: each walk answers true. -/
import Derived.Test.YtdhppkobhmbnaaaDoorCell7
namespace Go.Proofs.YtdhppkobhmbnaaaDoor.cells
open Go.RowKit Go.Lib

theorem parse_text (x : Int) (w : World) (hx : IsWord x) (h8 : x % 8 ≠ 0) (hg : Ground w) : Calls Tryd.prog 21 #[.string ⟨(textOf x).toArray⟩] w fun e w' => e = .returned (.tuple #[.int .u64 x, .int .i64 0]) ∧ Below w.heap.size w w' := by
  have hl : (textOf x).length < 4294967281 := by
    have hr := numOf_range hx
    have hl1 := nameOf_len (tagOf x)
    have hl2 := itoa_length_le (numOf x) (by omega) (by omega)
    unfold textOf
    rw [if_neg h8]
    simp
    omega
  exact (parse_any ⟨(textOf x).toArray⟩ w hl hg).mono fun e w' ⟨he, hw⟩ => ⟨by
    unfold ParseEnd at he
    rw [he, show parseC (⟨(textOf x).toArray⟩ : ByteArray).data.toList = some x from parseC_text hx h8]; rfl, hw⟩
theorem parse_point (w : World) (hg : Ground w) : Calls Tryd.prog 21 #[.string ⟨(textOf 0).toArray⟩] w fun e w' => e = .returned (.tuple #[.int .u64 0, .int .i64 0]) ∧ Below w.heap.size w w' :=
  (parse_any ⟨(textOf 0).toArray⟩ w (by decide) hg).mono fun e w' ⟨he, hw⟩ => ⟨by
    unfold ParseEnd at he
    rw [he, show parseC (⟨(textOf 0).toArray⟩ : ByteArray).data.toList = some 0 from rfl]; rfl, hw⟩

/-- The part behind the first half: any text of at most 100 bytes, read both ways. -/
theorem both_some (s : ByteArray) (x : Int) (h : parseC s.data.toList = some x) : (∀ e, ParseEnd s.data.toList e → e = .returned (.tuple #[.int .u64 x, .int .i64 0])) ∧ (∀ e, RParseEnd s.data.toList e → e = .returned (.tuple #[.int .u64 x, .bool true])) := by
  refine ⟨fun e he => ?_, fun e he => ?_⟩
  · unfold ParseEnd at he; rw [he, h]; rfl
  · unfold RParseEnd at he; rw [he, parseR_eq, h]; rfl
theorem both_none (s : ByteArray) (h : parseC s.data.toList = none) : (∀ e, ParseEnd s.data.toList e → e = .returned (.tuple #[.int .u64 0, .int .i64 10])) ∧ (∀ e, RParseEnd s.data.toList e → e = .returned (.tuple #[.int .u64 0, .bool false])) := by
  refine ⟨fun e he => ?_, fun e he => ?_⟩
  · unfold ParseEnd at he; rw [he, h]; rfl
  · unfold RParseEnd at he; rw [he, parseR_eq, h]; rfl

set_option maxHeartbeats 1000000 in
theorem texts_cell (x : Int) (s : ByteArray) (w : World) (hx : Hid (IsWord x)) (h8 : x % 8 ≠ 0) (hg : Ground w) (hs : s.size ≤ 9223372036854775807) : Calls Tryd.prog 5 #[.int .u64 x, .string s] w fun e w' => e = .returned (.bool true) ∧ Below w.heap.size w w' := by
  have e0 : (x % 8 == 0) = false := by simpa using h8
  have H8 := Lib.hid h8
  obtain ⟨x0, x1⟩ := hx.out
  clear h8
  by_cases hl : s.size ≤ 100
  · cases hp : parseC s.data.toList with
    | none =>
      have hb := both_none s hp
      have HB := Lib.hid hb
      clear hb hp
      go_enter Tryd.func5, Tryd.ntmps5
      go_wp2_with fail
      refine (text_any _ _ hx.out hg).mono ?_
      rintro e w1 ⟨rfl, hb1⟩
      have hg1 := hg.below hb1
      go_wp2_with fail
      refine (parse_text _ _ hx.out H8.out hg1).mono ?_
      rintro e w2 ⟨rfl, hb2⟩
      have hg2 := hg1.below hb2
      go_wp2_with fail
      refine (lives_any _ hg2).mono ?_
      rintro e w3 ⟨rfl, hb3⟩
      have hg3 := hg2.below hb3
      go_wp2_with fail
      refine (parse_any _ _ (by omega) hg3).mono ?_
      rintro e w4 ⟨he, hb4⟩
      obtain rfl := HB.out.1 e he
      clear he
      have hg4 := hg3.below hb4
      go_wp2_with fail
      refine (rparse_any _ _ (by omega)).mono ?_
      rintro e w5 ⟨he, rfl⟩
      obtain rfl := HB.out.2 e he
      clear he
      go_wp2_with fail
      go_ret
      exact ⟨rfl, (hb1.trans (hb2.mono hb1.size)).trans ((hb3.trans (hb4.mono hb3.size)).mono (Nat.le_trans hb1.size hb2.size))⟩
    | some y =>
      have hb := both_some s y hp
      have HB := Lib.hid hb
      clear hb hp
      go_enter Tryd.func5, Tryd.ntmps5
      go_wp2_with fail
      refine (text_any _ _ hx.out hg).mono ?_
      rintro e w1 ⟨rfl, hb1⟩
      have hg1 := hg.below hb1
      go_wp2_with fail
      refine (parse_text _ _ hx.out H8.out hg1).mono ?_
      rintro e w2 ⟨rfl, hb2⟩
      have hg2 := hg1.below hb2
      go_wp2_with fail
      refine (lives_any _ hg2).mono ?_
      rintro e w3 ⟨rfl, hb3⟩
      have hg3 := hg2.below hb3
      go_wp2_with fail
      refine (parse_any _ _ (by omega) hg3).mono ?_
      rintro e w4 ⟨he, hb4⟩
      obtain rfl := HB.out.1 e he
      clear he
      have hg4 := hg3.below hb4
      go_wp2_with fail
      refine (rparse_any _ _ (by omega)).mono ?_
      rintro e w5 ⟨he, rfl⟩
      obtain rfl := HB.out.2 e he
      clear he
      go_wp2_with fail
      go_ret
      exact ⟨rfl, (hb1.trans (hb2.mono hb1.size)).trans ((hb3.trans (hb4.mono hb3.size)).mono (Nat.le_trans hb1.size hb2.size))⟩
  · go_enter Tryd.func5, Tryd.ntmps5
    go_wp2_with fail
    refine (text_any _ _ hx.out hg).mono ?_
    rintro e w1 ⟨rfl, hb1⟩
    have hg1 := hg.below hb1
    go_wp2_with fail
    refine (parse_text _ _ hx.out H8.out hg1).mono ?_
    rintro e w2 ⟨rfl, hb2⟩
    have hg2 := hg1.below hb2
    go_wp2_with fail
    refine (lives_any _ hg2).mono ?_
    rintro e w3 ⟨rfl, hb3⟩
    go_wp2_with fail
    go_ret
    exact ⟨rfl, (hb1.trans (hb2.mono hb1.size)).trans (hb3.mono (Nat.le_trans hb1.size hb2.size))⟩

set_option maxHeartbeats 1000000 in
theorem texts_none (x : Int) (s : ByteArray) (w : World) (hx : Hid (IsWord x)) (h8 : x % 8 = 0) (hg : Ground w) (hs : s.size ≤ 9223372036854775807) : Calls Tryd.prog 5 #[.int .u64 x, .string s] w fun e w' => e = .returned (.bool true) ∧ Below w.heap.size w w' := by
  have e0 : (x % 8 == 0) = true := by simpa using h8
  have hz : IsWord 0 := by unfold IsWord; omega
  have HZ := Lib.hid hz
  obtain ⟨x0, x1⟩ := hx.out
  clear h8 hz
  by_cases hl : s.size ≤ 100
  · cases hp : parseC s.data.toList with
    | none =>
      have hb := both_none s hp
      have HB := Lib.hid hb
      clear hb hp
      go_enter Tryd.func5, Tryd.ntmps5
      go_wp2_with fail
      refine (text_any _ _ HZ.out hg).mono ?_
      rintro e w1 ⟨rfl, hb1⟩
      have hg1 := hg.below hb1
      go_wp2_with fail
      refine (parse_point _ hg1).mono ?_
      rintro e w2 ⟨rfl, hb2⟩
      have hg2 := hg1.below hb2
      go_wp2_with fail
      refine (lives_any _ hg2).mono ?_
      rintro e w3 ⟨rfl, hb3⟩
      have hg3 := hg2.below hb3
      go_wp2_with fail
      refine (parse_any _ _ (by omega) hg3).mono ?_
      rintro e w4 ⟨he, hb4⟩
      obtain rfl := HB.out.1 e he
      clear he
      have hg4 := hg3.below hb4
      go_wp2_with fail
      refine (rparse_any _ _ (by omega)).mono ?_
      rintro e w5 ⟨he, rfl⟩
      obtain rfl := HB.out.2 e he
      clear he
      go_wp2_with fail
      go_ret
      exact ⟨rfl, (hb1.trans (hb2.mono hb1.size)).trans ((hb3.trans (hb4.mono hb3.size)).mono (Nat.le_trans hb1.size hb2.size))⟩
    | some y =>
      have hb := both_some s y hp
      have HB := Lib.hid hb
      clear hb hp
      go_enter Tryd.func5, Tryd.ntmps5
      go_wp2_with fail
      refine (text_any _ _ HZ.out hg).mono ?_
      rintro e w1 ⟨rfl, hb1⟩
      have hg1 := hg.below hb1
      go_wp2_with fail
      refine (parse_point _ hg1).mono ?_
      rintro e w2 ⟨rfl, hb2⟩
      have hg2 := hg1.below hb2
      go_wp2_with fail
      refine (lives_any _ hg2).mono ?_
      rintro e w3 ⟨rfl, hb3⟩
      have hg3 := hg2.below hb3
      go_wp2_with fail
      refine (parse_any _ _ (by omega) hg3).mono ?_
      rintro e w4 ⟨he, hb4⟩
      obtain rfl := HB.out.1 e he
      clear he
      have hg4 := hg3.below hb4
      go_wp2_with fail
      refine (rparse_any _ _ (by omega)).mono ?_
      rintro e w5 ⟨he, rfl⟩
      obtain rfl := HB.out.2 e he
      clear he
      go_wp2_with fail
      go_ret
      exact ⟨rfl, (hb1.trans (hb2.mono hb1.size)).trans ((hb3.trans (hb4.mono hb3.size)).mono (Nat.le_trans hb1.size hb2.size))⟩
  · go_enter Tryd.func5, Tryd.ntmps5
    go_wp2_with fail
    refine (text_any _ _ HZ.out hg).mono ?_
    rintro e w1 ⟨rfl, hb1⟩
    have hg1 := hg.below hb1
    go_wp2_with fail
    refine (parse_point _ hg1).mono ?_
    rintro e w2 ⟨rfl, hb2⟩
    have hg2 := hg1.below hb2
    go_wp2_with fail
    refine (lives_any _ hg2).mono ?_
    rintro e w3 ⟨rfl, hb3⟩
    go_wp2_with fail
    go_ret
    exact ⟨rfl, (hb1.trans (hb2.mono hb1.size)).trans (hb3.mono (Nat.le_trans hb1.size hb2.size))⟩
theorem law_texts (x : Int) (s : ByteArray) (w : World) (hx : IsWord x) (hg : Ground w) (hs : s.size ≤ 9223372036854775807) : Calls Tryd.prog 5 #[.int .u64 x, .string s] w fun e w' => e = .returned (.bool true) ∧ Below w.heap.size w w' := by
  by_cases h8 : x % 8 = 0
  · exact texts_none x s w hx h8 hg hs
  · exact texts_cell x s w hx h8 hg hs

/-! ### CellApart -/
theorem mk_same {t n o m : Int} (h : MayBe t n) (h' : MayBe o m) : (mkOf t n = mkOf o m) ↔ (t = o ∧ n = m) := by
  constructor
  · intro e
    have e1 := congrArg tagOf e
    have e2 := congrArg numOf e
    rw [tag_mk h, tag_mk h'] at e1
    rw [num_mk h, num_mk h'] at e2
    exact ⟨e1, e2⟩
  · rintro ⟨rfl, rfl⟩; rfl

set_option maxHeartbeats 1000000 in
theorem apart_some (t n o m : Int) (w : World) (hg : Ground w) (h : MayBe t n) (h' : MayBe o m) : Calls Tryd.prog 6 #[.int .i64 t, .int .i64 n, .int .i64 o, .int .i64 m] w fun e w' => e = .returned (.bool true) ∧ Below w.heap.size w w' := by
  have hs := mk_same h h'
  obtain ⟨h1, h2, h3, h4⟩ := h
  obtain ⟨h1', h2', h3', h4'⟩ := h'
  by_cases e1 : t = o
  · by_cases e2 : n = m
    · subst e1 e2
      clear hs
      go_enter Tryd.func6, Tryd.ntmps6
      go_wp2_with fail
      refine (make_yes _ _ _ h1 h2 h3 h4).mono ?_
      rintro e w1 ⟨rfl, rfl⟩
      go_wp2_with fail
      refine (make_yes _ _ _ h1 h2 h3 h4).mono ?_
      rintro e w1 ⟨rfl, rfl⟩
      go_wp2_with fail
      refine (lives_any _ hg).mono ?_
      rintro e w1 ⟨rfl, hb⟩
      go_wp2_with fail
      go_ret
      exact ⟨rfl, hb⟩
    · have e3 : (n == m) = false := beq_eq_false_iff_ne.2 e2
      have e4 : (mkOf t n == mkOf o m) = false := beq_eq_false_iff_ne.2 (fun h => e2 (hs.1 h).2)
      subst e1
      clear hs e2
      have H4 := Lib.hid e4
      clear e4
      go_enter Tryd.func6, Tryd.ntmps6
      go_wp2_with fail
      refine (make_yes _ _ _ h1 h2 h3 h4).mono ?_
      rintro e w1 ⟨rfl, rfl⟩
      go_wp2_with fail
      refine (make_yes _ _ _ h1' h2' h3' h4').mono ?_
      rintro e w1 ⟨rfl, rfl⟩
      go_wp2_with fail
      refine (lives_any _ hg).mono ?_
      rintro e w1 ⟨rfl, hb⟩
      have e4 := H4.out
      go_wp2_with fail
      go_ret
      exact ⟨rfl, hb⟩
  · have e3 : (t == o) = false := beq_eq_false_iff_ne.2 e1
    have e4 : (mkOf t n == mkOf o m) = false := beq_eq_false_iff_ne.2 (fun h => e1 (hs.1 h).1)
    clear hs e1
    have H4 := Lib.hid e4
    clear e4
    go_enter Tryd.func6, Tryd.ntmps6
    go_wp2_with fail
    refine (make_yes _ _ _ h1 h2 h3 h4).mono ?_
    rintro e w1 ⟨rfl, rfl⟩
    go_wp2_with fail
    refine (make_yes _ _ _ h1' h2' h3' h4').mono ?_
    rintro e w1 ⟨rfl, rfl⟩
    go_wp2_with fail
    refine (lives_any _ hg).mono ?_
    rintro e w1 ⟨rfl, hb⟩
    have e4 := H4.out
    go_wp2_with fail
    go_ret
    exact ⟨rfl, hb⟩
set_option maxHeartbeats 1000000 in
theorem apart_none (t n o m : Int) (w : World) (hg : Ground w) (h : Hid (¬ MayBe t n)) : Calls Tryd.prog 6 #[.int .i64 t, .int .i64 n, .int .i64 o, .int .i64 m] w fun e w' => e = .returned (.bool true) ∧ Below w.heap.size w w' := by
  go_enter Tryd.func6, Tryd.ntmps6
  go_wp2_with fail
  refine (make_no _ _ _ h.out).mono ?_
  rintro e w1 ⟨rfl, rfl⟩
  go_wp2_with fail
  refine (make_any _ _ _).mono ?_
  rintro e w1 ⟨he, rfl⟩
  rcases he with ⟨hm, rfl⟩ | ⟨hm, rfl⟩
  all_goals
    clear hm
    go_wp2_with fail
    refine (lives_any _ hg).mono ?_
    rintro e w1 ⟨rfl, hb⟩
    have hg1 := hg.below hb
    go_wp2_with fail
    refine (lives_any _ hg1).mono ?_
    rintro e w2 ⟨rfl, hb2⟩
    go_wp2_with fail
    go_ret
    exact ⟨rfl, hb.trans (hb2.mono hb.size)⟩
set_option maxHeartbeats 1000000 in
theorem apart_none2 (t n o m : Int) (w : World) (hg : Ground w) (h : MayBe t n) (h' : Hid (¬ MayBe o m)) : Calls Tryd.prog 6 #[.int .i64 t, .int .i64 n, .int .i64 o, .int .i64 m] w fun e w' => e = .returned (.bool true) ∧ Below w.heap.size w w' := by
  obtain ⟨h1, h2, h3, h4⟩ := h
  go_enter Tryd.func6, Tryd.ntmps6
  go_wp2_with fail
  refine (make_yes _ _ _ h1 h2 h3 h4).mono ?_
  rintro e w1 ⟨rfl, rfl⟩
  go_wp2_with fail
  refine (make_no _ _ _ h'.out).mono ?_
  rintro e w1 ⟨rfl, rfl⟩
  go_wp2_with fail
  refine (lives_any _ hg).mono ?_
  rintro e w1 ⟨rfl, hb⟩
  have hg1 := hg.below hb
  go_wp2_with fail
  refine (lives_any _ hg1).mono ?_
  rintro e w2 ⟨rfl, hb2⟩
  go_wp2_with fail
  go_ret
  exact ⟨rfl, hb.trans (hb2.mono hb.size)⟩
theorem law_apart (t n o m : Int) (w : World) (hg : Ground w) : Calls Tryd.prog 6 #[.int .i64 t, .int .i64 n, .int .i64 o, .int .i64 m] w fun e w' => e = .returned (.bool true) ∧ Below w.heap.size w w' := by
  by_cases h : MayBe t n
  · by_cases h' : MayBe o m
    · exact apart_some t n o m w hg h h'
    · exact apart_none2 t n o m w hg h h'
  · exact apart_none t n o m w hg h

/-! ### CellRises -/
theorem mk_less {t n m : Int} (h : MayBe t n) (h' : MayBe t m) (hn : 0 ≤ n) (hm : 0 ≤ m) : (mkOf t n < mkOf t m ↔ n < m) ∧ (mkOf t n = mkOf t m ↔ n = m) := by
  obtain ⟨h1, h2, h3, h4⟩ := h
  obtain ⟨_, _, h5, h6⟩ := h'
  unfold mkOf
  constructor <;> constructor <;> intro h <;> omega
set_option maxHeartbeats 1000000 in
theorem rises_some (t n m : Int) (w : World) (hg : Ground w) (h : MayBe t n) (h' : MayBe t m) (hn : 0 ≤ n) (hm : 0 ≤ m) : Calls Tryd.prog 7 #[.int .i64 t, .int .i64 n, .int .i64 m] w fun e w' => e = .returned (.bool true) ∧ Below w.heap.size w w' := by
  have hs := mk_less h h' hn hm
  obtain ⟨h1, h2, h3, h4⟩ := h
  obtain ⟨h1', h2', h3', h4'⟩ := h'
  generalize hx : mkOf t n = x at hs
  generalize hy : mkOf t m = y at hs
  have HX := Lib.hid hx
  have HY := Lib.hid hy
  have e1 : decide (x < y) = decide (n < m) := decide_eq_decide.2 hs.1
  have e2 : (x == y) = (n == m) := by rw [Bool.eq_iff_iff, beq_iff_eq, beq_iff_eq]; exact hs.2
  have E1 := Lib.hid e1
  have E2 := Lib.hid e2
  clear hs hx hy e1 e2
  go_enter Tryd.func7, Tryd.ntmps7
  go_wp2_with fail
  refine (make_yes _ _ _ h1 h2 h3 h4).mono ?_
  rintro e w1 ⟨rfl, rfl⟩
  rw [HX.out]
  go_wp2_with fail
  refine (make_yes _ _ _ h1' h2' h3' h4').mono ?_
  rintro e w1 ⟨rfl, rfl⟩
  rw [HY.out]
  go_wp2_with fail
  refine (lives_any _ hg).mono ?_
  rintro e w1 ⟨rfl, hb⟩
  have e1 := E1.out
  have e2 := E2.out
  go_wp2_with fail
  go_ret
  exact ⟨rfl, hb⟩

set_option maxHeartbeats 1000000 in
theorem rises_none (t n m : Int) (w : World) (hg : Ground w) (h : Hid (¬ MayBe t n)) : Calls Tryd.prog 7 #[.int .i64 t, .int .i64 n, .int .i64 m] w fun e w' => e = .returned (.bool true) ∧ Below w.heap.size w w' := by
  go_enter Tryd.func7, Tryd.ntmps7
  go_wp2_with fail
  refine (make_no _ _ _ h.out).mono ?_
  rintro e w1 ⟨rfl, rfl⟩
  go_wp2_with fail
  refine (make_any _ _ _).mono ?_
  rintro e w1 ⟨he, rfl⟩
  rcases he with ⟨hm, rfl⟩ | ⟨hm, rfl⟩
  all_goals
    clear hm
    go_wp2_with fail
    refine (lives_any _ hg).mono ?_
    rintro e w1 ⟨rfl, hb⟩
    have hg1 := hg.below hb
    go_wp2_with fail
    refine (lives_any _ hg1).mono ?_
    rintro e w2 ⟨rfl, hb2⟩
    go_wp2_with fail
    go_ret
    exact ⟨rfl, hb.trans (hb2.mono hb.size)⟩
set_option maxHeartbeats 1000000 in
theorem rises_none2 (t n m : Int) (w : World) (hg : Ground w) (h : MayBe t n) (h' : Hid (¬ MayBe t m)) : Calls Tryd.prog 7 #[.int .i64 t, .int .i64 n, .int .i64 m] w fun e w' => e = .returned (.bool true) ∧ Below w.heap.size w w' := by
  obtain ⟨h1, h2, h3, h4⟩ := h
  go_enter Tryd.func7, Tryd.ntmps7
  go_wp2_with fail
  refine (make_yes _ _ _ h1 h2 h3 h4).mono ?_
  rintro e w1 ⟨rfl, rfl⟩
  go_wp2_with fail
  refine (make_no _ _ _ h'.out).mono ?_
  rintro e w1 ⟨rfl, rfl⟩
  go_wp2_with fail
  refine (lives_any _ hg).mono ?_
  rintro e w1 ⟨rfl, hb⟩
  have hg1 := hg.below hb
  go_wp2_with fail
  refine (lives_any _ hg1).mono ?_
  rintro e w2 ⟨rfl, hb2⟩
  go_wp2_with fail
  go_ret
  exact ⟨rfl, hb.trans (hb2.mono hb.size)⟩
set_option maxHeartbeats 1000000 in
theorem rises_low (t n m : Int) (w : World) (hg : Ground w) (h : MayBe t n) (h' : MayBe t m) (hl : n < 0) : Calls Tryd.prog 7 #[.int .i64 t, .int .i64 n, .int .i64 m] w fun e w' => e = .returned (.bool true) ∧ Below w.heap.size w w' := by
  obtain ⟨h1, h2, h3, h4⟩ := h
  obtain ⟨h1', h2', h3', h4'⟩ := h'
  go_enter Tryd.func7, Tryd.ntmps7
  go_wp2_with fail
  refine (make_yes _ _ _ h1 h2 h3 h4).mono ?_
  rintro e w1 ⟨rfl, rfl⟩
  go_wp2_with fail
  refine (make_yes _ _ _ h1' h2' h3' h4').mono ?_
  rintro e w1 ⟨rfl, rfl⟩
  go_wp2_with fail
  refine (lives_any _ hg).mono ?_
  rintro e w1 ⟨rfl, hb⟩
  have hg1 := hg.below hb
  go_wp2_with fail
  refine (lives_any _ hg1).mono ?_
  rintro e w2 ⟨rfl, hb2⟩
  go_wp2_with fail
  go_ret
  exact ⟨rfl, hb.trans (hb2.mono hb.size)⟩
set_option maxHeartbeats 1000000 in
theorem rises_low2 (t n m : Int) (w : World) (hg : Ground w) (h : MayBe t n) (h' : MayBe t m) (h0 : 0 ≤ n) (hl : m < 0) : Calls Tryd.prog 7 #[.int .i64 t, .int .i64 n, .int .i64 m] w fun e w' => e = .returned (.bool true) ∧ Below w.heap.size w w' := by
  obtain ⟨h1, h2, h3, h4⟩ := h
  obtain ⟨h1', h2', h3', h4'⟩ := h'
  have h0' : decide (n < 0) = false := decide_eq_false (by omega)
  go_enter Tryd.func7, Tryd.ntmps7
  go_wp2_with fail
  refine (make_yes _ _ _ h1 h2 h3 h4).mono ?_
  rintro e w1 ⟨rfl, rfl⟩
  go_wp2_with fail
  refine (make_yes _ _ _ h1' h2' h3' h4').mono ?_
  rintro e w1 ⟨rfl, rfl⟩
  go_wp2_with fail
  refine (lives_any _ hg).mono ?_
  rintro e w1 ⟨rfl, hb⟩
  have hg1 := hg.below hb
  go_wp2_with fail
  refine (lives_any _ hg1).mono ?_
  rintro e w2 ⟨rfl, hb2⟩
  go_wp2_with fail
  go_ret
  exact ⟨rfl, hb.trans (hb2.mono hb.size)⟩
theorem law_rises (t n m : Int) (w : World) (hg : Ground w) : Calls Tryd.prog 7 #[.int .i64 t, .int .i64 n, .int .i64 m] w fun e w' => e = .returned (.bool true) ∧ Below w.heap.size w w' := by
  by_cases h : MayBe t n
  · by_cases h' : MayBe t m
    · by_cases hn : 0 ≤ n
      · by_cases hm : 0 ≤ m
        · exact rises_some t n m w hg h h' hn hm
        · exact rises_low2 t n m w hg h h' hn (by omega)
      · exact rises_low t n m w hg h h' (by omega)
    · exact rises_none2 t n m w hg h h'
  · exact rises_none t n m w hg h
end Go.Proofs.YtdhppkobhmbnaaaDoor.cells
