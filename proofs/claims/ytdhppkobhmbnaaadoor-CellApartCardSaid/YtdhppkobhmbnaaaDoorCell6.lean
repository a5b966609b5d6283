/- What must come of every program: the law's own lives() answers true. -/
import Derived.Test.YtdhppkobhmbnaaaDoorCell5
namespace Go.Proofs.YtdhppkobhmbnaaaDoor.cells
open Go.RowKit Go.Lib

def wordM : Int := 18446744073709551612
theorem wordM_is : IsWord wordM := by unfold IsWord wordM; omega
theorem wordM_mk : mkOf 4 (-1) = wordM := by decide
theorem wordM_tag : tagOf wordM = 4 := by decide
theorem wordM_num : numOf wordM = -1 := by decide
theorem itoa_m1 : itoa (-1) = [45, 49] := by
  rw [itoa_below (by omega), show (-(-1 : Int)).toNat = 1 from rfl, decDigits_small (by decide)]; rfl
theorem itoa_5 : itoa 5 = [53] := by
  rw [itoa_nonneg (by omega), show (5 : Int).toNat = 5 from rfl, decDigits_small (by decide)]; rfl
theorem wordM_text : textOf wordM = [105, 110, 116, 58, 45, 49] := by
  unfold textOf
  rw [if_neg (by decide), wordM_tag, wordM_num, itoa_m1]
  rfl
theorem parse_a5 : parseC [97, 116, 111, 109, 58, 53] = some 43 := by
  have h := parseC_text (x := 43) (by unfold IsWord; omega) (by decide)
  have e : textOf 43 = [97, 116, 111, 109, 58, 53] := by
    unfold textOf
    rw [if_neg (by decide), show numOf 43 = 5 by decide, itoa_5]
    rfl
  rw [e] at h
  exact h
theorem parse_a05 : parseC [97, 116, 111, 109, 58, 48, 53] = none := by
  cases h : parseC [97, 116, 111, 109, 58, 48, 53] with
  | none => rfl
  | some x =>
    exfalso
    rcases parseC_some.1 h with ⟨h1, _⟩ | ⟨hx, h8, ht⟩
    · cases h1
    · unfold textOf at ht
      rw [if_neg h8] at ht
      have hr := numOf_range hx
      have hs := split_colon (nameOf (tagOf x)) (itoa (numOf x)) [97, 116, 111, 109] [48, 53] (nameOf_no _) (by decide) ht
      have ha := atoiAll_itoa (numOf x) (by omega) (by omega)
      rw [hs.2, show atoiAll [48, 53] = .ok 5 by decide] at ha
      injection ha with ha
      have h5 := hs.2
      rw [← ha, itoa_5] at h5
      cases h5

theorem live_make (w : World) : Calls Tryd.prog 8 #[.int .i64 4, .int .i64 (-1)] w fun e w' => e = .returned (.tuple #[.int .u64 wordM, .int .i64 0]) ∧ w = w' :=
  (make_yes 4 (-1) w (by omega) (by omega) (by omega) (by omega)).mono fun e w' ⟨he, hw⟩ => ⟨by rw [he, wordM_mk], hw⟩
theorem live_no (w : World) : Calls Tryd.prog 8 #[.int .i64 0, .int .i64 1] w fun e w' => e = .returned (.tuple #[.int .u64 0, .int .i64 1]) ∧ w = w' :=
  make_no 0 1 w (by unfold MayBe; omega)
theorem live_parse (w : World) (hg : Ground w) : Calls Tryd.prog 21 #[.string ⟨#[97, 116, 111, 109, 58, 53]⟩] w fun e w' => e = .returned (.tuple #[.int .u64 43, .int .i64 0]) ∧ Below w.heap.size w w' :=
  (parse_any ⟨#[97, 116, 111, 109, 58, 53]⟩ w (by decide) hg).mono fun e w' ⟨he, hw⟩ => ⟨by
    unfold ParseEnd at he
    rw [he, show parseC (⟨#[97, 116, 111, 109, 58, 53]⟩ : ByteArray).data.toList = some 43 from parse_a5]; rfl, hw⟩
theorem live_parse0 (w : World) (hg : Ground w) : Calls Tryd.prog 21 #[.string ⟨#[97, 116, 111, 109, 58, 48, 53]⟩] w fun e w' => e = .returned (.tuple #[.int .u64 0, .int .i64 10]) ∧ Below w.heap.size w w' :=
  (parse_any ⟨#[97, 116, 111, 109, 58, 48, 53]⟩ w (by decide) hg).mono fun e w' ⟨he, hw⟩ => ⟨by
    unfold ParseEnd at he
    rw [he, show parseC (⟨#[97, 116, 111, 109, 58, 48, 53]⟩ : ByteArray).data.toList = none from parse_a05]; rfl, hw⟩
theorem live_tag (w : World) : Calls Tryd.prog 12 #[.int .u64 wordM] w fun e w' => e = .returned (.int .i64 4) ∧ w = w' :=
  (tag_any wordM w wordM_is).mono fun e w' ⟨he, hw⟩ => ⟨by rw [he, wordM_tag], hw⟩
theorem live_num (w : World) : Calls Tryd.prog 13 #[.int .u64 wordM] w fun e w' => e = .returned (.int .i64 (-1)) ∧ w = w' :=
  (number_any wordM w wordM_is).mono fun e w' ⟨he, hw⟩ => ⟨by rw [he, wordM_num], hw⟩
theorem live_is4 (w : World) : Calls Tryd.prog 14 #[.int .u64 wordM, .int .i64 4] w fun e w' => e = .returned (.bool true) ∧ w = w' :=
  (is_any wordM 4 w wordM_is).mono fun e w' ⟨he, hw⟩ => ⟨by rw [he]; rfl, hw⟩
theorem live_is3 (w : World) : Calls Tryd.prog 14 #[.int .u64 wordM, .int .i64 3] w fun e w' => e = .returned (.bool false) ∧ w = w' :=
  (is_any wordM 3 w wordM_is).mono fun e w' ⟨he, hw⟩ => ⟨by rw [he]; rfl, hw⟩
theorem live_text (w : World) (hg : Ground w) : Calls Tryd.prog 17 #[.int .u64 wordM] w fun e w' => e = .returned (.string ⟨#[105, 110, 116, 58, 45, 49]⟩) ∧ Below w.heap.size w w' :=
  (text_any wordM w wordM_is hg).mono fun e w' ⟨he, hw⟩ => ⟨by rw [he, wordM_text], hw⟩
theorem live_name (w : World) (hg : Ground w) : Calls Tryd.prog 19 #[.int .i64 1] w fun e w' => e = .returned (.string ⟨#[114, 101, 102]⟩) ∧ w = w' :=
  name_some 1 w (by omega) (by omega) hg
theorem wordM_eq : (wordM == 18446744073709551612) = true := rfl

set_option maxHeartbeats 1000000 in
theorem lives_any (w : World) (hg : Ground w) : Calls Tryd.prog 9 #[] w fun e w' => e = .returned (.bool true) ∧ Below w.heap.size w w' := by
  have H4 := Lib.hid wordM_eq
  generalize hm : wordM = m at H4
  go_enter Tryd.func9, Tryd.ntmps9
  go_wp2_with fail
  refine (live_make _).mono ?_
  rintro e w1 ⟨rfl, rfl⟩
  rw [hm]
  have HM := Lib.hid hm
  clear hm
  go_wp2_with fail
  refine (live_no _).mono ?_
  rintro e w1 ⟨rfl, rfl⟩
  go_wp2_with fail
  refine (live_parse _ hg).mono ?_
  rintro e w1 ⟨rfl, hb1⟩
  have hg1 := hg.below hb1
  go_wp2_with fail
  refine (live_parse0 _ hg1).mono ?_
  rintro e w2 ⟨rfl, hb2⟩
  have hg2 := hg1.below hb2
  have e4 := H4.out
  go_wp2_with fail
  rw [← HM.out]
  refine (live_tag _).mono ?_
  rintro e w3 ⟨rfl, rfl⟩
  rw [HM.out]
  go_wp2_with fail
  rw [← HM.out]
  refine (live_num _).mono ?_
  rintro e w3 ⟨rfl, rfl⟩
  rw [HM.out]
  go_wp2_with fail
  rw [← HM.out]
  refine (live_is4 _).mono ?_
  rintro e w3 ⟨rfl, rfl⟩
  rw [HM.out]
  go_wp2_with fail
  rw [← HM.out]
  refine (live_is3 _).mono ?_
  rintro e w3 ⟨rfl, rfl⟩
  rw [HM.out]
  go_wp2_with fail
  rw [← HM.out]
  refine (live_text _ hg2).mono ?_
  rintro e w3 ⟨rfl, hb3⟩
  have hg3 := hg2.below hb3
  rw [HM.out]
  go_wp2_with fail
  refine (live_name _ hg3).mono ?_
  rintro e w4 ⟨rfl, rfl⟩
  go_wp2_with fail
  go_ret
  exact ⟨rfl, (hb1.trans (hb2.mono hb1.size)).trans (hb3.mono (Nat.le_trans hb1.size hb2.size))⟩
end Go.Proofs.YtdhppkobhmbnaaaDoor.cells
