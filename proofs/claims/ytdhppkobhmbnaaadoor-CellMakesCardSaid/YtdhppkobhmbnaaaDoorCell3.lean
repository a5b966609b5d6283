/- Contracts of tagOf and Parse, and of the law's own number and Parse. -/
import Derived.Test.YtdhppkobhmbnaaaDoorCell2
namespace Go.Proofs.YtdhppkobhmbnaaaDoor.cells
open Go.RowKit Go.Lib

theorem nameOf_out {t : Int} (h : t < 1 ∨ 7 < t) : nameOf t = [] := by
  unfold nameOf
  repeat rw [if_neg (by omega)]
theorem name_any (t : Int) (w : World) (hg : Ground w) :
    Calls Tryd.prog 19 #[.int .i64 t] w fun e w' => e = .returned (.string ⟨(nameOf t).toArray⟩) ∧ w = w' := by
  by_cases h : 1 ≤ t ∧ t ≤ 7
  · exact name_some t w h.1 h.2 hg
  · have h' : t < 1 ∨ 7 < t := by omega
    have HV := Lib.hid (nameOf_out h')
    clear h
    go_enter Tryd.func19, Tryd.ntmps19
    go_wp2_with (go_at_call 23; refine (isTag_no _ _ h').mono ?_; rintro e w' ⟨rfl, rfl⟩)
    go_ret
    exact ⟨by rw [HV.out]; rfl, rfl⟩


def NotYet (k : Nat) (l : List UInt8) : Prop := ∀ j, j < k → l ≠ nameAt j
theorem NotYet.step {k : Nat} {l : List UInt8} (h : NotYet k l) (hne : l ≠ nameAt k) : NotYet (k + 1) l := by
  intro j hj
  by_cases e : j = k
  · subst e; exact hne
  · exact h j (by omega)
def tab8 : Value := .agg #[.string ⟨(nameAt 0).toArray⟩, .string ⟨(nameAt 1).toArray⟩, .string ⟨(nameAt 2).toArray⟩, .string ⟨(nameAt 3).toArray⟩, .string ⟨(nameAt 4).toArray⟩, .string ⟨(nameAt 5).toArray⟩, .string ⟨(nameAt 6).toArray⟩, .string ⟨(nameAt 7).toArray⟩]
theorem tab8_0 (w : World) : (Instr.index 41 tab8 (.int .i64 0)).run Tryd.prog w = .ok (.string ⟨(nameAt 0).toArray⟩) w := by kernel_rfl
theorem tab8_1 (w : World) : (Instr.index 41 tab8 (.int .i64 1)).run Tryd.prog w = .ok (.string ⟨(nameAt 1).toArray⟩) w := by kernel_rfl
theorem tab8_2 (w : World) : (Instr.index 41 tab8 (.int .i64 2)).run Tryd.prog w = .ok (.string ⟨(nameAt 2).toArray⟩) w := by kernel_rfl
theorem tab8_3 (w : World) : (Instr.index 41 tab8 (.int .i64 3)).run Tryd.prog w = .ok (.string ⟨(nameAt 3).toArray⟩) w := by kernel_rfl
theorem tab8_4 (w : World) : (Instr.index 41 tab8 (.int .i64 4)).run Tryd.prog w = .ok (.string ⟨(nameAt 4).toArray⟩) w := by kernel_rfl
theorem tab8_5 (w : World) : (Instr.index 41 tab8 (.int .i64 5)).run Tryd.prog w = .ok (.string ⟨(nameAt 5).toArray⟩) w := by kernel_rfl
theorem tab8_6 (w : World) : (Instr.index 41 tab8 (.int .i64 6)).run Tryd.prog w = .ok (.string ⟨(nameAt 6).toArray⟩) w := by kernel_rfl
theorem tab8_7 (w : World) : (Instr.index 41 tab8 (.int .i64 7)).run Tryd.prog w = .ok (.string ⟨(nameAt 7).toArray⟩) w := by kernel_rfl
theorem tab8_at : ∀ (k : Nat), k < 8 → ∀ w : World, (Instr.index 41 tab8 (.int .i64 k)).run Tryd.prog w = .ok (.string ⟨(nameAt k).toArray⟩) w
  | 0, _, w => tab8_0 w
  | 1, _, w => tab8_1 w
  | 2, _, w => tab8_2 w
  | 3, _, w => tab8_3 w
  | 4, _, w => tab8_4 w
  | 5, _, w => tab8_5 w
  | 6, _, w => tab8_6 w
  | 7, _, w => tab8_7 w

theorem idx_hit {k : Nat} {l : List UInt8} (h : NotYet k l) (h8 : k < 8) (he : l = nameAt k) : idxOf l = k := by
  subst he
  match k, h8 with
  | 0, _ => rfl
  | 1, _ => rfl
  | 2, _ => rfl
  | 3, _ => rfl
  | 4, _ => rfl
  | 5, _ => rfl
  | 6, _ => rfl
  | 7, _ => rfl
theorem idx_miss {l : List UInt8} (h : NotYet 8 l) : idxOf l = 0 := by
  have n1 : l ≠ nameOf 1 := h 1 (by omega)
  have n2 : l ≠ nameOf 2 := h 2 (by omega)
  have n3 : l ≠ nameOf 3 := h 3 (by omega)
  have n4 : l ≠ nameOf 4 := h 4 (by omega)
  have n5 : l ≠ nameOf 5 := h 5 (by omega)
  have n6 : l ≠ nameOf 6 := h 6 (by omega)
  have n7 : l ≠ nameOf 7 := h 7 (by omega)
  unfold idxOf
  rw [if_neg n1, if_neg n2, if_neg n3, if_neg n4, if_neg n5, if_neg n6, if_neg n7]
theorem tagOf_any (l : ByteArray) (w : World) (hg : Ground w) :
    Calls Tryd.prog 28 #[.string l] w fun e w' => e = .returned (.int .i64 (idxOf l.data.toList)) ∧ w = w' := by
  have c0 := hg.names 0 (by omega)
  have c1 := hg.names 1 (by omega)
  have c2 := hg.names 2 (by omega)
  have c3 := hg.names 3 (by omega)
  have c4 := hg.names 4 (by omega)
  have c5 := hg.names 5 (by omega)
  have c6 := hg.names 6 (by omega)
  have c7 := hg.names 7 (by omega)
  go_enter Tryd.func28, Tryd.ntmps28
  go_wp2
  clear c0 c1 c2 c3 c4 c5 c6 c7
  generalize hT : Value.agg #[.string ⟨(nameAt 0).toArray⟩, .string ⟨(nameAt 1).toArray⟩, .string ⟨(nameAt 2).toArray⟩, .string ⟨(nameAt 3).toArray⟩, .string ⟨(nameAt 4).toArray⟩, .string ⟨(nameAt 5).toArray⟩, .string ⟨(nameAt 6).toArray⟩, .string ⟨(nameAt 7).toArray⟩] = T
  have HI : ∀ k, k < 8 → ∀ w, (Instr.index 41 T (.int .i64 (k : Nat))).run Tryd.prog w = .ok (.string ⟨(nameAt k).toArray⟩) w := by
    intro k hk w; rw [← hT]; exact tab8_at k hk w
  have HH := Lib.hid HI
  clear HI hT
  go_loop [6] (fun i => ∃ k : Nat, k ≤ 8 ∧ i = .int .i64 k ∧ Hid (NotYet k l.data.toList)) (fun i => 8 - (RowKit.intOf i).toNat)
  case atStart => exact ⟨0, by omega, rfl, fun j hj => by omega⟩
  case round =>
    obtain ⟨k, hk, rfl, hn⟩ := hrel
    by_cases h8 : k < 8
    · have hi := HH.out k h8
      go_wp2
      · have he : (nameAt k == l.toList) = true := by assumption
        have he' : l.data.toList = nameAt k := by rw [← toList_data]; exact (beq_iff_eq.1 he).symm
        go_ret
        exact ⟨ret_int (idx_hit hn.out h8 he').symm, rfl⟩
      · have he : (nameAt k == l.toList) = false := by assumption
        have he' : l.data.toList ≠ nameAt k := by rw [← toList_data]; exact fun e => beq_eq_false_iff_ne.1 he e.symm
        go_round
        case rel => exact ⟨k + 1, by omega, by go_num, hn.out.step he'⟩
        case measure => simp [RowKit.intOf]; omega
    · obtain rfl : k = 8 := by omega
      go_wp2
      go_ret
      exact ⟨ret_int (idx_miss hn.out).symm, rfl⟩

/-- What Parse answers. -/
def ParseEnd (l : List UInt8) (e : Ending) : Prop := e = .returned (.tuple #[.int .u64 ((parseC l).getD 0), .int .i64 (if (parseC l).isSome then 0 else 10)])
theorem parseEnd_some {l : List UInt8} {x : Int} (h : parseC l = some x) : ParseEnd l (.returned (.tuple #[.int .u64 x, .int .i64 0])) := by
  unfold ParseEnd; rw [h]; rfl
theorem parseEnd_none {l : List UInt8} (h : parseC l = none) : ParseEnd l (.returned (.tuple #[.int .u64 0, .int .i64 10])) := by
  unfold ParseEnd; rw [h]; rfl


theorem cut_len (l sep : List UInt8) : (cut l sep).2.1.length ≤ l.length := by
  unfold cut
  split
  · simp
  · simp
theorem cut_col (s : ByteArray) (A B : List UInt8) (c : Bool) (w : World) (hs : s.size < 4294967281) (hg : Ground w) (hc : cut s.data.toList [58] = (A, B, c)) :
    Calls Tryd.prog 26 #[.string s, .string ⟨#[58]⟩] w fun e w' => e = .returned (.tuple #[.string ⟨A.toArray⟩, .string ⟨B.toArray⟩, .bool c]) ∧ Below w.heap.size w w' :=
  (cut_any s ⟨#[58]⟩ w hs hg).mono fun e w' ⟨he, hw⟩ => ⟨by
    have hc' : cut s.data.toList (⟨#[58]⟩ : ByteArray).data.toList = (A, B, c) := hc
    rw [hc'] at he; exact he, hw⟩

theorem parse_dot (w : World) (s : ByteArray) (h : s.data.toList = [46]) :
    Calls Tryd.prog 21 #[.string s] w fun e w' => ParseEnd s.data.toList e ∧ Below w.heap.size w w' := by
  have e0 : (s.toList == [46]) = true := by rw [toList_data, h]; rfl
  have HE := Lib.hid (parseEnd_some (l := s.data.toList) (x := 0) (by rw [h]; rfl))
  clear h
  go_enter Tryd.func21, Tryd.ntmps21
  go_wp2
  go_ret2
  exact ⟨HE.out, Below.refl _ _⟩
theorem parse_bad (w : World) (s : ByteArray) (A B : List UInt8) (c : Bool) (hs : s.size < 4294967281) (hg : Ground w) (h : s.data.toList ≠ [46]) (hc : cut s.data.toList [58] = (A, B, c)) (hb : ∀ v, atoiAll B ≠ .ok v) :
    Calls Tryd.prog 21 #[.string s] w fun e w' => ParseEnd s.data.toList e ∧ Below w.heap.size w w' := by
  have e0 : (s.toList == [46]) = false := by rw [toList_data]; exact beq_eq_false_iff_ne.2 h
  have hN : parseC s.data.toList = none := by
    unfold parseC
    rw [if_neg h, hc]
    dsimp only
    split
    · rename_i n hn; exact absurd hn (hb n)
    · rfl
  have hl : B.length < 4294967281 := by
    have := cut_len s.data.toList [58]
    rw [hc] at this
    rw [size_eq] at hs
    dsimp only at this
    omega
  have HE := Lib.hid (parseEnd_none hN)
  have HB := Lib.hid hb
  have HC := Lib.hid hc
  clear h hN hb hc
  go_enter Tryd.func21, Tryd.ntmps21
  go_wp2_with fail
  refine (cut_col s A B c _ hs hg HC.out).mono ?_
  rintro e w1 ⟨rfl, hb1⟩
  have hg1 := hg.below hb1
  go_wp2_with fail
  refine (atoi_bad ⟨B.toArray⟩ _ hl HB.out hg1).mono ?_
  rintro e w2 ⟨n, tp, p, rfl, hb2⟩
  go_wp2_with fail
  go_ret2
  exact ⟨HE.out, hb1.trans (hb2.mono hb1.size)⟩
/-- Atoi gives n, but the tag and n make no cell. -/
theorem parse_none (w : World) (s : ByteArray) (A B : List UInt8) (c : Bool) (n : Int) (hs : s.size < 4294967281) (hg : Ground w) (h : s.data.toList ≠ [46]) (hc : cut s.data.toList [58] = (A, B, c)) (hb : atoiAll B = .ok n) (hm : ¬ MayBe (idxOf A) n) :
    Calls Tryd.prog 21 #[.string s] w fun e w' => ParseEnd s.data.toList e ∧ Below w.heap.size w w' := by
  have e0 : (s.toList == [46]) = false := by rw [toList_data]; exact beq_eq_false_iff_ne.2 h
  have hN : parseC s.data.toList = none := by
    unfold parseC
    rw [if_neg h, hc]
    dsimp only
    rw [hb]
    dsimp only
    rw [if_neg]
    simp [mayB, hm]
  have hl : B.length < 4294967281 := by
    have := cut_len s.data.toList [58]
    rw [hc] at this
    rw [size_eq] at hs
    dsimp only at this
    omega
  have HE := Lib.hid (parseEnd_none hN)
  have HB := Lib.hid hb
  have HC := Lib.hid hc
  have HM := Lib.hid hm
  clear h hN hb hc hm
  go_enter Tryd.func21, Tryd.ntmps21
  go_wp2_with fail
  refine (cut_col s A B c _ hs hg HC.out).mono ?_
  rintro e w1 ⟨rfl, hb1⟩
  have hg1 := hg.below hb1
  go_wp2_with fail
  refine (atoi_ok ⟨B.toArray⟩ n _ hl HB.out).mono ?_
  rintro e w2 ⟨rfl, hb2⟩
  have hg2 := hg1.below hb2
  go_wp2_with fail
  refine (tagOf_any ⟨A.toArray⟩ _ hg2).mono ?_
  rintro e w3 ⟨rfl, rfl⟩
  go_wp2_with fail
  refine (make_no _ _ _ HM.out).mono ?_
  rintro e w4 ⟨rfl, rfl⟩
  go_wp2_with fail
  go_ret2
  exact ⟨HE.out, hb1.trans (hb2.mono hb1.size)⟩
/-- It makes a cell: its text is written, and held against s. -/
theorem parse_made (w : World) (s : ByteArray) (A B : List UInt8) (c : Bool) (n : Int) (hs : s.size < 4294967281) (hg : Ground w) (h : s.data.toList ≠ [46]) (hc : cut s.data.toList [58] = (A, B, c)) (hb : atoiAll B = .ok n) (hm : MayBe (idxOf A) n) :
    Calls Tryd.prog 21 #[.string s] w fun e w' => ParseEnd s.data.toList e ∧ Below w.heap.size w w' := by
  have e0 : (s.toList == [46]) = false := by rw [toList_data]; exact beq_eq_false_iff_ne.2 h
  have hl : B.length < 4294967281 := by
    have := cut_len s.data.toList [58]
    rw [hc] at this
    rw [size_eq] at hs
    dsimp only at this
    omega
  have hw := mk_word (idxOf A) n
  have hP : parseC s.data.toList = if textOf (mkOf (idxOf A) n) = s.data.toList then some (mkOf (idxOf A) n) else none := by
    unfold parseC
    rw [if_neg h, hc]
    dsimp only
    rw [hb]
    dsimp only
    simp [mayB, hm]
  obtain ⟨m1, m2, m3, m4⟩ := hm
  have HW := Lib.hid hw
  have HB := Lib.hid hb
  have HC := Lib.hid hc
  clear h hb hc hw
  by_cases ht : textOf (mkOf (idxOf A) n) = s.data.toList
  · have hE : ParseEnd s.data.toList (.returned (.tuple #[.int .u64 (mkOf (idxOf A) n), .int .i64 0])) := parseEnd_some (by rw [hP, if_pos ht])
    have e1 : (textOf (mkOf (idxOf A) n) == s.toList) = true := by rw [toList_data]; exact beq_iff_eq.2 ht
    have HE := Lib.hid hE
    have H1 := Lib.hid e1
    clear hP ht hE e1
    generalize hx : mkOf (idxOf A) n = x at HE H1 HW
    have HX := Lib.hid hx
    clear hx
    go_enter Tryd.func21, Tryd.ntmps21
    go_wp2_with fail
    refine (cut_col s A B c _ hs hg HC.out).mono ?_
    rintro e w1 ⟨rfl, hb1⟩
    have hg1 := hg.below hb1
    go_wp2_with fail
    refine (atoi_ok ⟨B.toArray⟩ n _ hl HB.out).mono ?_
    rintro e w2 ⟨rfl, hb2⟩
    have hg2 := hg1.below hb2
    go_wp2_with fail
    refine (tagOf_any ⟨A.toArray⟩ _ hg2).mono ?_
    rintro e w3 ⟨rfl, rfl⟩
    go_wp2_with fail
    refine (make_yes _ _ _ m1 m2 m3 m4).mono ?_
    rintro e w4 ⟨rfl, rfl⟩
    rw [show mkOf (idxOf (⟨A.toArray⟩ : ByteArray).data.toList) n = x from HX.out]
    go_wp2_with fail
    refine (text_any _ _ HW.out hg2).mono ?_
    rintro e w5 ⟨rfl, hb5⟩
    have e1 := H1.out
    go_wp2_with fail
    go_ret2
    exact ⟨HE.out, (hb1.trans (hb2.mono hb1.size)).trans (hb5.mono (Nat.le_trans hb1.size hb2.size))⟩
  · have hE : ParseEnd s.data.toList (.returned (.tuple #[.int .u64 0, .int .i64 10])) := parseEnd_none (by rw [hP, if_neg ht])
    have e1 : (textOf (mkOf (idxOf A) n) == s.toList) = false := by rw [toList_data]; exact beq_eq_false_iff_ne.2 ht
    have HE := Lib.hid hE
    have H1 := Lib.hid e1
    clear hP ht hE e1
    generalize hx : mkOf (idxOf A) n = x at HE H1 HW
    have HX := Lib.hid hx
    clear hx
    go_enter Tryd.func21, Tryd.ntmps21
    go_wp2_with fail
    refine (cut_col s A B c _ hs hg HC.out).mono ?_
    rintro e w1 ⟨rfl, hb1⟩
    have hg1 := hg.below hb1
    go_wp2_with fail
    refine (atoi_ok ⟨B.toArray⟩ n _ hl HB.out).mono ?_
    rintro e w2 ⟨rfl, hb2⟩
    have hg2 := hg1.below hb2
    go_wp2_with fail
    refine (tagOf_any ⟨A.toArray⟩ _ hg2).mono ?_
    rintro e w3 ⟨rfl, rfl⟩
    go_wp2_with fail
    refine (make_yes _ _ _ m1 m2 m3 m4).mono ?_
    rintro e w4 ⟨rfl, rfl⟩
    rw [show mkOf (idxOf (⟨A.toArray⟩ : ByteArray).data.toList) n = x from HX.out]
    go_wp2_with fail
    refine (text_any _ _ HW.out hg2).mono ?_
    rintro e w5 ⟨rfl, hb5⟩
    have e1 := H1.out
    go_wp2_with fail
    go_ret2
    exact ⟨HE.out, (hb1.trans (hb2.mono hb1.size)).trans (hb5.mono (Nat.le_trans hb1.size hb2.size))⟩
theorem parse_any (s : ByteArray) (w : World) (hs : s.size < 4294967281) (hg : Ground w) :
    Calls Tryd.prog 21 #[.string s] w fun e w' => ParseEnd s.data.toList e ∧ Below w.heap.size w w' := by
  by_cases h : s.data.toList = [46]
  · exact parse_dot w s h
  · rcases hc : cut s.data.toList [58] with ⟨A, B, c⟩
    by_cases hb : ∃ n, atoiAll B = .ok n
    · obtain ⟨n, hn⟩ := hb
      by_cases hm : MayBe (idxOf A) n
      · exact parse_made w s A B c n hs hg h hc hn hm
      · exact parse_none w s A B c n hs hg h hc hn hm
    · exact parse_bad w s A B c hs hg h hc (fun v hv => hb ⟨v, hv⟩)
end Go.Proofs.YtdhppkobhmbnaaaDoor.cells
