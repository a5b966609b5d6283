/- Tokens: layout is skipped. -/
import Derived.Test.YtogccafnfpmgmaaDoorTokB
import Derived.WalkMore
namespace Go.Proofs.YtogccafnfpmgmaaDoor.toks
open Go.RowKit Go.Proofs.YtogccafnfpmgmaaDoor.own
theorem inLine_pos {bs : List UInt8} {j : Nat} {x : UInt8} (hx : bs[j]? = some x) (h : (iv x == 37) = true) : 1 ≤ rowN inLineB (bs.drop j) := by
  rw [drop_at hx]
  unfold rowN
  have : iv x = 37 := by simpa using h
  rw [if_pos (by rw [this]; rfl)]
  omega
theorem closeN_ge : ∀ (l : List UInt8) (c : Nat), closeN l = some c → 2 ≤ c ∧ c ≤ l.length
  | [], c, h => by cases h
  | [_], c, h => by cases h
  | x :: y :: r, c, h => by
    rw [closeN] at h
    split at h
    · cases h
      simp
    · cases h2 : closeN (y :: r) with
      | none => rw [h2] at h; cases h
      | some d =>
        rw [h2] at h
        obtain ⟨h3, h4⟩ := closeN_ge (y :: r) d h2
        cases h
        simp only [List.length_cons] at h4 ⊢
        omega
theorem closeA_ge {bs : List UInt8} {j e : Nat} (h : closeA bs j = some e) : j + 2 ≤ e ∧ e ≤ bs.length := by
  unfold closeA at h
  cases h2 : closeN (bs.drop j) with
  | none => rw [h2] at h; cases h
  | some d =>
    rw [h2] at h
    cases h
    obtain ⟨h3, h4⟩ := closeN_ge _ d h2
    rw [List.length_drop] at h4
    show j + 2 ≤ d + j ∧ d + j ≤ _
    omega
def skE (p : Nat × Bool) : Int := if p.2 = true then 0 else 80
set_option maxRecDepth 100000 in
set_option maxHeartbeats 8000000 in
theorem skip_any (ao : Option Addr) (cap : Nat) (bs : List UInt8) (i : Nat) (w : World) (hb : Byts ao bs w) (hi : i ≤ bs.length) (hl : bs.length ≤ 1000000) :
    Calls Tryd.prog 29 #[.slice ao bs.length cap, .int .i64 i] w fun e w' => e = .returned (.tuple #[.int .i64 ((skipA bs bs.length i).1 : Nat), .int .i64 (skE (skipA bs bs.length i))]) ∧ w' = w := by
  have HB := Lib.hid hb
  have HOP : Hid (∀ j, j ≤ bs.length → Calls Tryd.prog 41 #[.slice ao bs.length cap, .int .i64 j] w fun e w' => e = .returned (.bool (openC (bs.drop j))) ∧ w' = w) := Lib.hid (fun j hj => opens_any ao cap bs j w hb hl hj)
  have HCE : Hid (∀ j, j ≤ bs.length → Calls Tryd.prog 42 #[.slice ao bs.length cap, .int .i64 j] w fun e w' => e = .returned (.tuple #[.int .i64 ((closeA bs (j + 2)).getD 0 : Nat), .bool (closeA bs (j + 2)).isSome]) ∧ w' = w) := Lib.hid (fun j hj => commentEnd_any ao cap bs j w hb hj hl)
  have HRO : Hid (∀ j, j ≤ bs.length → Calls Tryd.prog 39 #[.slice ao bs.length cap, .int .i64 j, .func (.func 40) #[] #[]] w fun e w' => e = .returned (.int .i64 (j + rowN inLineB (bs.drop j) : Nat)) ∧ w' = w) := Lib.hid (fun j hj => row_any _ inLineB isInLine_any (fun _ _ => rfl) ao cap bs j w hb hj hl)
  generalize hM : skipA bs bs.length i = M
  have HM := Lib.hid hM
  clear hb hM
  go_enter Tryd.func29, Tryd.ntmps29
  go_wp2_with fail
  go_step3
  go_wp2_with fail
  go_step3
  go_wp2_with fail
  go_loopw [1] (fun c wr => ∃ j m : Nat, wr = w ∧ c = .int .i64 j ∧ j ≤ bs.length ∧ Hid (skipA bs m j = M ∧ bs.length ≤ m + j)) (fun c _ => bs.length - (intOf c).toNat)
  case atStart => exact ⟨i, bs.length, rfl, rfl, hi, Lib.hid ⟨HM.out, by omega⟩⟩
  case round =>
    obtain ⟨j, m, rfl, rfl, hj, hI⟩ := hrel
    have hw1 : wrap64 ((j : Int) + 1) = (j : Int) + 1 := by unfold wrap64; omega
    by_cases hlt : j < bs.length
    · obtain ⟨x, hx⟩ : ∃ x, bs[j]? = some x := ⟨_, List.getElem?_eq_getElem hlt⟩
      obtain ⟨b, off, rfl, hb1, c0⟩ := HB.out j x hx
      obtain ⟨m, rfl⟩ : ∃ m', m = m' + 1 := ⟨m - 1, by have := hI.out.2; omega⟩
      have HX := Lib.hid hx
      have HMJ : Hid (bs.length ≤ m + (j + 1)) := Lib.hid (by have := hI.out.2; omega)
      have q0 : (0 : Int) ≤ (j : Int) := by omega
      have q1 : (j : Int) < (bs.length : Int) := by omega
      clear hx hb1
      cases e32 : (iv x == 32) with
      | true =>
        have HN : Hid (skipA bs m (j + 1) = M ∧ bs.length ≤ m + (j + 1)) := Lib.hid ⟨by rw [← hI.out.1]; exact (skipA_blank HX.out (by unfold blankB; rw [e32]; rfl)).symm, HMJ.out⟩
        clear hI HX HMJ
        go_wp2_with fail
        go_roundw
        case rel => exact ⟨j + 1, m, by trivial, by go_num, by omega, HN⟩
        case measure => simp [intOf]; omega
      | false =>
        cases e9 : (iv x == 9) with
        | true =>
          have HN : Hid (skipA bs m (j + 1) = M ∧ bs.length ≤ m + (j + 1)) := Lib.hid ⟨by rw [← hI.out.1]; exact (skipA_blank HX.out (by unfold blankB; rw [e32, e9]; rfl)).symm, HMJ.out⟩
          clear hI HX HMJ
          go_wp2_with fail
          go_roundw
          case rel => exact ⟨j + 1, m, by trivial, by go_num, by omega, HN⟩
          case measure => simp [intOf]; omega
        | false =>
          cases e10 : (iv x == 10) with
          | true =>
            have HN : Hid (skipA bs m (j + 1) = M ∧ bs.length ≤ m + (j + 1)) := Lib.hid ⟨by rw [← hI.out.1]; exact (skipA_blank HX.out (by unfold blankB; rw [e32, e9, e10]; rfl)).symm, HMJ.out⟩
            clear hI HX HMJ
            go_wp2_with fail
            go_roundw
            case rel => exact ⟨j + 1, m, by trivial, by go_num, by omega, HN⟩
            case measure => simp [intOf]; omega
          | false =>
            cases e13 : (iv x == 13) with
            | true =>
              have HN : Hid (skipA bs m (j + 1) = M ∧ bs.length ≤ m + (j + 1)) := Lib.hid ⟨by rw [← hI.out.1]; exact (skipA_blank HX.out (by unfold blankB; rw [e32, e9, e10, e13]; rfl)).symm, HMJ.out⟩
              clear hI HX HMJ
              go_wp2_with fail
              go_roundw
              case rel => exact ⟨j + 1, m, by trivial, by go_num, by omega, HN⟩
              case measure => simp [intOf]; omega
            | false =>
              have hbl : blankB (iv x) = false := by unfold blankB; rw [e32, e9, e10, e13]; rfl
              cases e37 : (iv x == 37) with
              | true =>
                have HN : Hid (skipA bs m (j + rowN inLineB (bs.drop j)) = M ∧ bs.length ≤ m + (j + rowN inLineB (bs.drop j))) := Lib.hid ⟨by rw [← hI.out.1]; exact (skipA_line HX.out hbl e37).symm, by have := inLine_pos HX.out e37; have := HMJ.out; omega⟩
                have hpos := inLine_pos HX.out e37
                have hle : j + rowN inLineB (bs.drop j) ≤ bs.length := by have := rowN_le inLineB (bs.drop j); rw [List.length_drop] at this; omega
                have HR2 := Lib.hid (HRO.out j hj)
                clear hI HX HMJ hbl
                generalize rowN inLineB (bs.drop j) = q at *
                go_wp2_with fail
                refine HR2.out.mono ?_
                rintro e w1 ⟨rfl, rfl⟩
                go_wp2_with fail
                go_roundw
                case rel => exact ⟨j + q, m, by trivial, by go_num, by omega, HN⟩
                case measure => simp [intOf]; omega
              | false =>
                cases e47 : (iv x == 47) with
                | true =>
                  have HO2 := Lib.hid (HOP.out j hj)
                  cases hop : openC (bs.drop j) with
                  | true =>
                    rw [hop] at HO2
                    have HC2 := Lib.hid (HCE.out j hj)
                    have hsh := skipA_shut (m := m) HX.out hbl e37 e47 hop
                    cases hce : closeA bs (j + 2) with
                    | none =>
                      rw [hce] at hsh HC2
                      have HN : Hid (M = (j, false)) := Lib.hid (by rw [← hI.out.1]; exact hsh)
                      clear hI HX HMJ hbl hsh hce hop
                      go_wp2_with fail
                      refine HO2.out.mono ?_
                      rintro e w1 ⟨rfl, rfl⟩
                      go_wp2_with fail
                      refine HC2.out.mono ?_
                      rintro e w1 ⟨rfl, rfl⟩
                      go_wp2_with fail
                      rw [Exit.noGoto_ret]
                      go_ret2
                      exact ⟨by rw [HN.out]; rfl, by trivial⟩
                    | some en =>
                      rw [hce] at hsh HC2
                      obtain ⟨g1, g2⟩ := closeA_ge hce
                      have HN : Hid (skipA bs m en = M ∧ bs.length ≤ m + en) := Lib.hid ⟨by rw [← hI.out.1]; exact hsh.symm, by have := HMJ.out; omega⟩
                      clear hI HX HMJ hbl hsh hce hop
                      go_wp2_with fail
                      refine HO2.out.mono ?_
                      rintro e w1 ⟨rfl, rfl⟩
                      go_wp2_with fail
                      refine HC2.out.mono ?_
                      rintro e w1 ⟨rfl, rfl⟩
                      go_wp2_with fail
                      go_roundw
                      case rel => exact ⟨en, m, by trivial, by go_num, by omega, HN⟩
                      case measure => simp [intOf]; omega
                  | false =>
                    rw [hop] at HO2
                    have HN : Hid (M = (j, true)) := Lib.hid (by rw [← hI.out.1]; exact skipA_stop HX.out hbl e37 (by rw [hop]; simp))
                    clear hI HX HMJ hbl hop
                    go_wp2_with fail
                    refine HO2.out.mono ?_
                    rintro e w1 ⟨rfl, rfl⟩
                    go_wp2_with fail
                    rw [Exit.noGoto_ret]
                    go_ret2
                    exact ⟨by rw [HN.out]; rfl, by trivial⟩
                | false =>
                  have HN : Hid (M = (j, true)) := Lib.hid (by rw [← hI.out.1]; exact skipA_stop HX.out hbl e37 (by rw [e47]; rfl))
                  clear hI HX HMJ hbl
                  go_wp2_with fail
                  rw [Exit.noGoto_ret]
                  go_ret2
                  exact ⟨by rw [HN.out]; rfl, by trivial⟩
    · have HN : Hid (M = (j, true)) := Lib.hid (by rw [← hI.out.1]; exact skipA_end hlt)
      obtain rfl : j = bs.length := by omega
      go_wp2_with fail
      rw [Exit.noGoto_ret]
      go_ret2
      exact ⟨by rw [HN.out]; rfl, by trivial⟩
end Go.Proofs.YtogccafnfpmgmaaDoor.toks
