/- The reference tells whether a name may stand as it is (as in the token seat). -/
import Derived.Test.YtodgjkdhkohckaaDoorTok3
namespace Go.Proofs.YtodgjkdhkohckaaDoor.toks
open Go.RowKit Go.Proofs.YtodgjkdhkohckaaDoor.own
/-- A byte as a number. -/
def iv (x : UInt8) : Int := (x.toNat : Int)
theorem iv_pos (x : UInt8) : 0 ≤ iv x := by unfold iv; omega
theorem iv_lt (x : UInt8) : iv x < 256 := by have := UInt8.toNat_lt x; unfold iv; omega
theorem drop_at {bs : List UInt8} {i : Nat} {x : UInt8} (h : bs[i]? = some x) : bs.drop i = x :: bs.drop (i + 1) := by
  obtain ⟨hi, e⟩ := List.getElem?_eq_some_iff.1 h
  rw [List.drop_eq_getElem_cons hi, e]
abbrev bstr (l : List UInt8) : ByteArray := ⟨l.toArray⟩
theorem byte_all (p : UInt8 → Bool) (h : (List.range 256).all (fun d => p (UInt8.ofNat d)) = true) (x : UInt8) : p x = true := by
  have h1 := List.all_eq_true.1 h x.toNat (List.mem_range.2 (UInt8.toNat_lt x))
  rwa [UInt8.ofNat_toNat] at h1
theorem bstr_list (l : List UInt8) : (bstr l).toList = l := by rw [ByteArray.toList_eq]
theorem allB_bstr (g : Int → Bool) (l : List UInt8) : allB g (bstr l) = l.all (fun b => g (iv b)) := rfl
theorem get_bstr (l : List UInt8) (pos : Nat) (h : pos < (bstr l).size) : l[pos]? = some ((bstr l)[pos]'h) := by
  have hl : pos < l.length := by simpa [bstr, ByteArray.size] using h
  rw [List.getElem?_eq_getElem hl]
  simp [bstr, ByteArray.getElem_eq_getElem_data]
theorem extract_bstr (l : List UInt8) (a b : Nat) : (bstr l).extract a b = bstr ((l.take b).drop a) := by
  apply ByteArray.ext
  simp [bstr, ByteArray.data_extract, List.extract_eq_take_drop, List.drop_take]
set_option maxRecDepth 100000 in
theorem rsmall_any (c : Int) (w : World) : Calls Tryd.prog 71 #[.int .u8 c] w fun e w' => e = .returned (.bool (smallB c)) ∧ w' = w := by
  by_cases h : 97 ≤ c
  · have hE : Hid (smallB c = decide (c ≤ 122)) := Lib.hid (by unfold smallB; simp [h])
    go_enter Tryd.func71, Tryd.ntmps71
    go_wp2_with fail
    go_ret
    exact ⟨by rw [hE.out]; rfl, rfl⟩
  · have hE : Hid (smallB c = false) := Lib.hid (by unfold smallB; simp [h])
    go_enter Tryd.func71, Tryd.ntmps71
    go_wp2_with fail
    go_ret
    exact ⟨by rw [hE.out]; rfl, rfl⟩
set_option maxRecDepth 100000 in
set_option maxHeartbeats 2000000 in
theorem rword_any (c : Int) (w : World) : Calls Tryd.prog 72 #[.int .u8 c] w fun e w' => e = .returned (.bool (wordB c)) ∧ w' = w := by
  have HS : Hid (∀ W, Calls Tryd.prog 71 #[.int .u8 c] W fun e w' => e = .returned (.bool (smallB c)) ∧ w' = W) := Lib.hid (rsmall_any c)
  cases hs : smallB c with
  | true =>
    have hE : Hid (wordB c = true) := Lib.hid (by unfold wordB; simp [hs])
    rw [hs] at HS
    clear hs
    go_enter Tryd.func72, Tryd.ntmps72
    go_wp2_with fail
    refine (HS.out _).mono ?_
    rintro e w1 ⟨rfl, rfl⟩
    go_wp2_with fail
    go_ret
    exact ⟨by rw [hE.out]; rfl, rfl⟩
  | false =>
    rw [hs] at HS
    by_cases h65 : 65 ≤ c <;> by_cases h90 : c ≤ 90 <;> by_cases h48 : 48 ≤ c <;> by_cases h57 : c ≤ 57
    all_goals
      first
      | (exfalso; omega)
      | skip
    all_goals
      have hE : Hid (wordB c = (capB c || (digB c || c == 95))) := Lib.hid (by unfold wordB; rw [hs]; rfl)
      have hC : Hid (capB c = (decide (65 ≤ c) && decide (c ≤ 90))) := Lib.hid rfl
      have hD : Hid (digB c = (decide (48 ≤ c) && decide (c ≤ 57))) := Lib.hid rfl
      clear hs
      go_enter Tryd.func72, Tryd.ntmps72
      go_wp2_with fail
      refine (HS.out _).mono ?_
      rintro e w1 ⟨rfl, rfl⟩
      go_wp2_with fail
      go_ret
      refine ⟨congrArg (fun b => Ending.returned (.bool b)) ?_, rfl⟩
      rw [hE.out, hC.out, hD.out, Bool.eq_iff_iff]
      simp only [Bool.or_eq_true, Bool.and_eq_true, decide_eq_true_eq, beq_iff_eq, Bool.false_eq_true, false_or, true_iff, false_iff]
      omega
def signL : List UInt8 := [43, 45, 42, 47, 92, 94, 60, 62, 61, 126, 58, 46, 63, 64, 35, 38, 36]
theorem index_sign (d : Nat) (hd : d < 17) : ∃ y : UInt8, signL[d]? = some y ∧ ∀ w : World, (Instr.index 9 (.string ⟨#[43, 45, 42, 47, 92, 94, 60, 62, 61, 126, 58, 46, 63, 64, 35, 38, 36]⟩) (.int .i64 d)).run Tryd.prog w = .ok (.int .u8 (iv y)) w := by
  obtain rfl | rfl | rfl | rfl | rfl | rfl | rfl | rfl | rfl | rfl | rfl | rfl | rfl | rfl | rfl | rfl | rfl : d = 0 ∨ d = 1 ∨ d = 2 ∨ d = 3 ∨ d = 4 ∨ d = 5 ∨ d = 6 ∨ d = 7 ∨ d = 8 ∨ d = 9 ∨ d = 10 ∨ d = 11 ∨ d = 12 ∨ d = 13 ∨ d = 14 ∨ d = 15 ∨ d = 16 := by omega
  all_goals exact ⟨_, rfl, fun w => by kernel_rfl⟩
set_option maxRecDepth 100000 in
set_option maxHeartbeats 2000000 in
theorem rsign_any (x : UInt8) (w : World) : Calls Tryd.prog 73 #[.int .u8 (iv x)] w fun e w' => e = .returned (.bool (signB (iv x))) ∧ w' = w := by
  have HE : Hid (signB (iv x) = signL.any (fun y => iv y == iv x)) := Lib.hid (eq_of_beq (byte_all (fun x => signB (iv x) == signL.any (fun y => iv y == iv x)) (by kernel_rfl) x))
  go_enter Tryd.func73, Tryd.ntmps73
  go_wp2_with fail
  go_loopw [4] (fun c wr => ∃ j : Nat, wr = w ∧ c = .int .i64 j ∧ j ≤ 17 ∧ Hid (signB (iv x) = (signL.drop j).any (fun y => iv y == iv x))) (fun c _ => 17 - (intOf c).toNat)
  case atStart => exact ⟨0, rfl, rfl, by omega, HE⟩
  case round =>
    obtain ⟨j, rfl, rfl, hj, hI⟩ := hrel
    by_cases hlt : j < 17
    · obtain ⟨y, hy1, hy2⟩ := index_sign j hlt
      have HR : Hid ((signL.drop j).any (fun y => iv y == iv x) = (iv y == iv x || (signL.drop (j + 1)).any (fun y => iv y == iv x))) := Lib.hid (by rw [drop_at hy1]; rfl)
      have q0 : (0 : Int) ≤ (j : Int) := by omega
      have q1 : (j : Int) < 17 := by omega
      clear hy1
      cases hc : (iv y == iv x) with
      | true =>
        rw [hc] at HR
        go_wp2_with fail
        go_ret
        exact ⟨by rw [hI.out, HR.out]; rfl, rfl⟩
      | false =>
        rw [hc] at HR
        go_wp2_with fail
        go_roundw
        case rel => exact ⟨j + 1, by trivial, by go_num, by omega, Lib.hid (by rw [hI.out, HR.out]; rfl)⟩
        case measure => simp [intOf]; omega
    · obtain rfl : j = 17 := by omega
      go_wp2_with fail
      go_ret
      exact ⟨by rw [hI.out]; rfl, rfl⟩
theorem index_bstr (l : List UInt8) (j : Nat) (x : UInt8) (h : l[j]? = some x) (w : World) : (Instr.index 9 (.string (bstr l)) (.int .i64 j)).run Tryd.prog w = .ok (.int .u8 (iv x)) w := by
  have hj : j < l.length := (List.getElem?_eq_some_iff.1 h).1
  have hs : j < (bstr l).size := hj
  rw [run_index_string w _ _ _ _ Tryd.underlying9, dif_pos ⟨by omega, by omega⟩]
  have h1 := get_bstr l j hs
  rw [h] at h1
  have h2 : x = (bstr l)[j]'hs := Option.some.inj h1
  rw [h2]
  rfl
theorem plain_rest (l : List UInt8) (x : UInt8) (t : List UInt8) (hl : l = x :: t) (h0 : (l == [33]) = false) (h1 : (l == [59]) = false) (h2 : (l == [91, 93]) = false) (h3 : (l == [123, 125]) = false) (h4 : (l == [46]) = false) (hp : Lib.hasPrefix l [47, 42] = false) :
    plainB (bstr l) = ((smallB (iv x) && l.all (fun b => wordB (iv b))) || l.all (fun b => signB (iv b))) := by
  have hb : (bstr l).toList = l := bstr_list l
  have e : plainB (bstr l) = if smallB (iv x) = true then l.all (fun b => wordB (iv b)) else !(Lib.hasPrefix l [47, 42]) && l.all (fun b => signB (iv b)) := by
    unfold plainB freeB barB
    rw [hb, h0, h1, h2, h3, h4, if_neg (by decide), if_neg (by subst hl; simp)]
    have : ((l.headD 0).toNat : Int) = iv x := by subst hl; rfl
    rw [this]
    rfl
  rw [e, hp]
  by_cases hs : smallB (iv x) = true
  · rw [if_pos hs, hs]
    have hB := byte_all (fun x => !(smallB (iv x)) || !(signB (iv x))) (by kernel_rfl) x
    simp only [hs, Bool.not_true, Bool.false_or, Bool.not_eq_true'] at hB
    have hA : l.all (fun b => signB (iv b)) = false := by subst hl; rw [List.all_cons, hB]; rfl
    rw [hA]
    simp
  · rw [if_neg hs, show smallB (iv x) = false by simpa using hs]
    simp
theorem prefix_two (l : List UInt8) (h : 2 ≤ l.length) : (((bstr l).extract 0 2).toList == [47, 42]) = Lib.hasPrefix l [47, 42] := by
  match l, h with
  | x :: y :: t, _ =>
    rw [extract_bstr, bstr_list]
    show ([x, y] == [47, 42]) = (47 == x && (42 == y && true))
    rw [Bool.eq_iff_iff]
    simp
    constructor
    · rintro ⟨rfl, rfl⟩; exact ⟨rfl, rfl⟩
    · rintro ⟨rfl, rfl⟩; exact ⟨rfl, rfl⟩
theorem prefix_short (l : List UInt8) (h : ¬ 2 ≤ l.length) : Lib.hasPrefix l [47, 42] = false := by
  match l, h with
  | [], _ => rfl
  | [x], _ => show (47 == x && (false)) = false; simp
  | _ :: _ :: _, h => exact absurd (by simp) h
set_option maxRecDepth 100000 in
set_option maxHeartbeats 8000000 in
theorem rplain_any (l : List UInt8) (w : World) (hl : l.length ≤ 1000000) : Calls Tryd.prog 56 #[.string (bstr l)] w fun e w' => e = .returned (.bool (plainB (bstr l))) ∧ w' = w := by
  have HIX : Hid (∀ (j : Nat) (x : UInt8), l[j]? = some x → ∀ w : World, (Instr.index 9 (.string (bstr l)) (.int .i64 j)).run Tryd.prog w = .ok (.int .u8 (iv x)) w) := Lib.hid (fun j x h w => index_bstr l j x h w)
  have hsz : (bstr l).size = l.length := rfl
  have htl : (bstr l).toList = l := bstr_list l
  have HPX := Lib.hid (prefix_two l)
  have HPS := Lib.hid (prefix_short l)
  have HPL := Lib.hid (plain_rest l)
  have HFR : Hid (plainB (bstr l) = if (l == [33] || (l == [59] || (l == [91, 93] || l == [123, 125]))) = true then true else if (l == [] || l == [46]) = true then false else if smallB (((l.headD 0).toNat : Nat) : Int) = true then allB wordB (bstr l) else !(Lib.hasPrefix l [47, 42]) && allB signB (bstr l)) := Lib.hid (by unfold plainB freeB barB; rw [htl])
  generalize hS : bstr l = S at *
  clear hS
  have HTL := Lib.hid htl
  cases h0 : (l == [33]) with
  | true =>
    have HE : Hid (plainB S = true) := Lib.hid (by rw [HFR.out, h0]; rfl)
    have g0 : (S.toList == [33]) = true := by rw [htl]; exact h0
    clear htl
    go_enter Tryd.func56, Tryd.ntmps56
    go_wp2_with fail
    go_ret
    exact ⟨by rw [HE.out]; rfl, rfl⟩
  | false =>
    have g0 : (S.toList == [33]) = false := by rw [htl]; exact h0
    cases h1 : (l == [59]) with
    | true =>
      have HE : Hid (plainB S = true) := Lib.hid (by rw [HFR.out, h0, h1]; rfl)
      have g1 : (S.toList == [59]) = true := by rw [htl]; exact h1
      clear htl
      go_enter Tryd.func56, Tryd.ntmps56
      go_wp2_with fail
      go_ret
      exact ⟨by rw [HE.out]; rfl, rfl⟩
    | false =>
      have g1 : (S.toList == [59]) = false := by rw [htl]; exact h1
      cases h2 : (l == [91, 93]) with
      | true =>
        have HE : Hid (plainB S = true) := Lib.hid (by rw [HFR.out, h0, h1, h2]; rfl)
        have g2 : (S.toList == [91, 93]) = true := by rw [htl]; exact h2
        clear htl
        go_enter Tryd.func56, Tryd.ntmps56
        go_wp2_with fail
        go_ret
        exact ⟨by rw [HE.out]; rfl, rfl⟩
      | false =>
        have g2 : (S.toList == [91, 93]) = false := by rw [htl]; exact h2
        cases h3 : (l == [123, 125]) with
        | true =>
          have HE : Hid (plainB S = true) := Lib.hid (by rw [HFR.out, h0, h1, h2, h3]; rfl)
          have g3 : (S.toList == [123, 125]) = true := by rw [htl]; exact h3
          clear htl
          go_enter Tryd.func56, Tryd.ntmps56
          go_wp2_with fail
          go_ret
          exact ⟨by rw [HE.out]; rfl, rfl⟩
        | false =>
          have g3 : (S.toList == [123, 125]) = false := by rw [htl]; exact h3
          cases h5 : (l == []) with
          | true =>
            have HE : Hid (plainB S = false) := Lib.hid (by rw [HFR.out, h0, h1, h2, h3, h5]; rfl)
            have g5 : (S.toList == []) = true := by rw [htl]; exact h5
            clear htl
            go_enter Tryd.func56, Tryd.ntmps56
            go_wp2_with fail
            go_ret
            exact ⟨by rw [HE.out]; rfl, rfl⟩
          | false =>
            have g5 : (S.toList == []) = false := by rw [htl]; exact h5
            cases h4 : (l == [46]) with
            | true =>
              have HE : Hid (plainB S = false) := Lib.hid (by rw [HFR.out, h0, h1, h2, h3, h4]; simp)
              have g4 : (S.toList == [46]) = true := by rw [htl]; exact h4
              clear htl
              go_enter Tryd.func56, Tryd.ntmps56
              go_wp2_with fail
              go_ret
              exact ⟨by rw [HE.out]; rfl, rfl⟩
            | false =>
              have g4 : (S.toList == [46]) = false := by rw [htl]; exact h4
              obtain ⟨x, t, hxt⟩ : ∃ x t, l = x :: t := by
                cases l with
                | nil => cases h5
                | cons x t => exact ⟨x, t, rfl⟩
              have hx0 : l[0]? = some x := by rw [hxt]; rfl
              have hlen : 0 < l.length := by rw [hxt]; simp
              by_cases hp : Lib.hasPrefix l [47, 42] = true
              · have HE : Hid (plainB S = false) := Lib.hid (by
                  have hsm : smallB (((l.headD 0).toNat : Nat) : Int) = false := by
                    match l, hp with
                    | [], hp => cases hp
                    | [y], hp => rw [prefix_short [y] (by simp)] at hp; cases hp
                    | y :: z :: r, hp =>
                      have h : (47 == y && (42 == z && true)) = true := hp
                      rw [Bool.and_eq_true, beq_iff_eq] at h
                      rw [← h.1]
                      rfl
                  rw [HFR.out, h0, h1, h2, h3, h4, h5, hsm, hp]
                  rfl)
                have h2l : 2 ≤ l.length := by
                  apply Classical.byContradiction
                  intro h
                  rw [HPS.out h] at hp
                  cases hp
                have g6 : ((S.extract 0 2).toList == [47, 42]) = true := by rw [HPX.out h2l]; exact hp
                have q2 : (2 : Int) ≤ (l.length : Int) := by omega
                have q3 : (2 : Int) ≤ (S.size : Int) := by omega
                clear htl hp hx0 hxt h0 h1 h2 h3 h4 h5
                go_enter Tryd.func56, Tryd.ntmps56
                go_wp2_with fail
                go_ret
                exact ⟨by rw [HE.out]; rfl, rfl⟩
              · have hp' : Lib.hasPrefix l [47, 42] = false := by simpa using hp
                have HE : Hid (plainB S = ((smallB (iv x) && l.all (fun b => wordB (iv b))) || l.all (fun b => signB (iv b)))) := Lib.hid (HPL.out x t hxt h0 h1 h2 h3 h4 hp')
                have hix := HIX.out 0 x hx0
                have hix0 : ∀ w : World, (Instr.index 9 (.string S) (.int .i64 0)).run Tryd.prog w = .ok (.int .u8 (iv x)) w := hix
                have HSM := Lib.hid (rsmall_any (iv x) w)
                have HWO : Hid (∀ c, Calls Tryd.prog 72 #[.int .u8 c] w fun e w' => e = .returned (.bool (wordB c)) ∧ w' = w) := Lib.hid (fun c => rword_any c w)
                have HSI : Hid (∀ x, Calls Tryd.prog 73 #[.int .u8 (iv x)] w fun e w' => e = .returned (.bool (signB (iv x))) ∧ w' = w) := Lib.hid (fun x => rsign_any x w)
                have HFIN : Hid (∀ (j : Nat), ¬ j < l.length → l.take j = l) := Lib.hid (fun j h => List.take_of_length_le (by omega))
                have hlp : ∀ (WP : Prop), (WP → Calls Tryd.prog 56 #[.string S] w fun e w' => e = .returned (.bool (plainB S)) ∧ w' = w) → WP → Calls Tryd.prog 56 #[.string S] w fun e w' => e = .returned (.bool (plainB S)) ∧ w' = w := fun _ h x => h x
                clear hlp hix hp hx0 hxt h0 h1 h2 h3 h4 h5 HPL
                by_cases h2l : 2 ≤ l.length
                all_goals
                  first
                  | (have g6 : ((S.extract 0 2).toList == [47, 42]) = false := by rw [HPX.out h2l]; exact hp')
                  | skip
                  have q2 : (0 : Int) < (l.length : Int) := by omega
                  clear htl hp'
                  first
                  | (have q3 : (2 : Int) ≤ (S.size : Int) := by omega)
                  | (have q3 : ¬ ((2 : Int) ≤ (l.length : Int)) := by omega)
                  go_enter Tryd.func56, Tryd.ntmps56
                  go_wp2_with fail
                  refine HSM.out.mono ?_
                  rintro e w1 ⟨rfl, rfl⟩
                  go_wp2_with fail
                  go_loopw [3, 4, 5] (fun a b c wr => ∃ (j : Nat) (p q : Bool), wr = w1 ∧ a = .bool p ∧ b = .bool q ∧ c = .int .i64 j ∧ j ≤ l.length ∧ Hid (p = (smallB (iv x) && (l.take j).all (fun b => wordB (iv b))) ∧ q = (l.take j).all (fun b => signB (iv b)))) (fun _ _ c _ => l.length - (intOf c).toNat)
                  case atStart => exact ⟨0, smallB (iv x), true, rfl, rfl, rfl, rfl, by omega, Lib.hid ⟨by simp, by simp⟩⟩
                  case round =>
                    obtain ⟨j, p, q, rfl, rfl, rfl, rfl, hj, hI⟩ := hrel
                    by_cases hlt : j < l.length
                    · obtain ⟨y, hy⟩ : ∃ y, l[j]? = some y := ⟨_, List.getElem?_eq_getElem hlt⟩
                      have hiy := HIX.out j y hy
                      have htk : l.take (j + 1) = l.take j ++ [y] := by
                        rw [List.take_add_one, hy]
                        rfl
                      have HN : Hid ((p && wordB (iv y)) = (smallB (iv x) && (l.take (j + 1)).all (fun b => wordB (iv b))) ∧ (q && signB (iv y)) = (l.take (j + 1)).all (fun b => signB (iv b))) := Lib.hid (by
                        rw [htk, List.all_append, List.all_append, hI.out.1, hI.out.2]
                        simp [Bool.and_assoc])
                      have p1 : (j : Int) < (l.length : Int) := by omega
                      have HW1 := Lib.hid (HWO.out (iv y))
                      have HS1 := Lib.hid (HSI.out y)
                      clear hI hy htk
                      cases p <;> cases q
                      · go_wp2_with fail
                        go_roundw
                        case rel => exact ⟨j + 1, false, false, by trivial, rfl, rfl, by go_num, by omega, HN⟩
                        case measure => simp [intOf]; omega
                      · go_wp2_with fail
                        refine HS1.out.mono ?_
                        rintro e w2 ⟨rfl, rfl⟩
                        go_wp2_with fail
                        go_roundw
                        case rel => exact ⟨j + 1, false, signB (iv y), by trivial, rfl, rfl, by go_num, by omega, HN⟩
                        case measure => simp [intOf]; omega
                      · go_wp2_with fail
                        refine HW1.out.mono ?_
                        rintro e w2 ⟨rfl, rfl⟩
                        go_wp2_with fail
                        go_roundw
                        case rel => exact ⟨j + 1, wordB (iv y), false, by trivial, rfl, rfl, by go_num, by omega, HN⟩
                        case measure => simp [intOf]; omega
                      · go_wp2_with fail
                        refine HW1.out.mono ?_
                        rintro e w2 ⟨rfl, rfl⟩
                        go_wp2_with fail
                        refine HS1.out.mono ?_
                        rintro e w3 ⟨rfl, rfl⟩
                        go_wp2_with fail
                        go_roundw
                        case rel => exact ⟨j + 1, wordB (iv y), signB (iv y), by trivial, rfl, rfl, by go_num, by omega, HN⟩
                        case measure => simp [intOf]; omega
                    · have HEN : Hid (plainB S = (p || q)) := Lib.hid (by rw [HE.out, hI.out.1, hI.out.2, HFIN.out j hlt])
                      obtain rfl : j = l.length := by omega
                      clear hI
                      cases p
                      all_goals
                        go_wp2_with fail
                        go_ret
                        exact ⟨by rw [HEN.out]; rfl, rfl⟩
end Go.Proofs.YtodgjkdhkohckaaDoor.toks
