/- Tokens: the reference skips layout; rows of bytes; numbers. -/
import Derived.Test.YtogccafnfpmgmaaDoorTokV
namespace Go.Proofs.YtogccafnfpmgmaaDoor.toks
open Go.RowKit Go.Proofs.YtogccafnfpmgmaaDoor.own
theorem openC_at {bs : List UInt8} {j : Nat} {x y : UInt8} (hx : bs[j]? = some x) (hy : bs[j + 1]? = some y) : openC (bs.drop j) = (iv x == 47 && iv y == 42) := by rw [drop_at hx, drop_at hy]; rfl
set_option maxRecDepth 100000 in
set_option maxHeartbeats 8000000 in
theorem rskip_any (ao : Option Addr) (cap : Nat) (bs : List UInt8) (i : Nat) (w : World) (hb : Byts ao bs w) (hi : i ≤ bs.length) (hl : bs.length ≤ 1000000) :
    Calls Tryd.prog 31 #[.slice ao bs.length cap, .int .i64 i] w fun e w' => e = .returned (.tuple #[.int .i64 ((skipA bs bs.length i).1 : Nat), .bool (skipA bs bs.length i).2]) ∧ w' = w := by
  have HB := Lib.hid hb
  generalize hM : skipA bs bs.length i = M
  have HM := Lib.hid hM
  clear hb hM
  go_enter Tryd.func31, Tryd.ntmps31
  go_wp2_with fail
  go_loopw [1] (fun c wr => ∃ j m : Nat, wr = w ∧ c = .int .i64 j ∧ j ≤ bs.length ∧ Hid (skipA bs m j = M ∧ bs.length ≤ m + j)) (fun c _ => bs.length - (intOf c).toNat)
  case atStart => exact ⟨i, bs.length, rfl, rfl, hi, Lib.hid ⟨HM.out, by omega⟩⟩
  case round =>
    obtain ⟨j, m, rfl, rfl, hj, hI⟩ := hrel
    have hw1 : wrap64 ((j : Int) + 1) = (j : Int) + 1 := by unfold wrap64; omega
    have hw2 : wrap64 ((j : Int) + 2) = (j : Int) + 2 := by unfold wrap64; omega
    by_cases hlt : j < bs.length
    · obtain ⟨x, hx⟩ : ∃ x, bs[j]? = some x := ⟨_, List.getElem?_eq_getElem hlt⟩
      obtain ⟨b, off, rfl, hb1, c0⟩ := HB.out j x hx
      obtain ⟨m, rfl⟩ : ∃ m', m = m' + 1 := ⟨m - 1, by have := hI.out.2; omega⟩
      have HX := Lib.hid hx
      have HMJ : Hid (bs.length ≤ m + (j + 1)) := Lib.hid (by have := hI.out.2; omega)
      have q0 : (0 : Int) ≤ (j : Int) := by omega
      have q1 : (j : Int) < (bs.length : Int) := by omega
      have HBL := Lib.hid (rblank_any (iv x) wr)
      clear hx hb1
      cases hbl : blankB (iv x) with
      | true =>
        rw [hbl] at HBL
        have HN : Hid (skipA bs m (j + 1) = M ∧ bs.length ≤ m + (j + 1)) := Lib.hid ⟨by rw [← hI.out.1]; exact (skipA_blank HX.out hbl).symm, HMJ.out⟩
        clear hI HX HMJ hbl
        go_wp2_with fail
        refine HBL.out.mono ?_
        rintro e w1 ⟨rfl, rfl⟩
        go_wp2_with fail
        go_roundw
        case rel => exact ⟨j + 1, m, by trivial, by go_num, by omega, HN⟩
        case measure => simp [intOf]; omega
      | false =>
        rw [hbl] at HBL
        cases e37 : (iv x == 37) with
        | true =>
          have hpos := inLine_pos HX.out e37
          have HN : Hid (skipA bs m (j + rowN inLineB (bs.drop j)) = M ∧ bs.length ≤ m + (j + rowN inLineB (bs.drop j))) := Lib.hid ⟨by rw [← hI.out.1]; exact (skipA_line HX.out hbl e37).symm, by have := HMJ.out; omega⟩
          have HRS : Hid (j + rowN inLineB (bs.drop j) = j + rowN inLineB (bs.drop j)) := Lib.hid rfl
          generalize hq : j + rowN inLineB (bs.drop j) = q at HN
          have HQ := Lib.hid hq
          have hjq : j < q := by omega
          clear hI HX HMJ hbl hpos hq
          go_wp2_with fail
          refine HBL.out.mono ?_
          rintro e w1 ⟨rfl, rfl⟩
          go_wp2_with fail
          go_loopw [1] (fun c wr => ∃ k : Nat, wr = w1 ∧ c = .int .i64 k ∧ k ≤ bs.length ∧ Hid (k + rowN inLineB (bs.drop k) = q)) (fun c _ => bs.length - (intOf c).toNat)
          case atStart => exact ⟨j, rfl, rfl, hj, HQ⟩
          case round =>
            obtain ⟨k, rfl, rfl, hk, hK⟩ := hrel
            have hwk : wrap64 ((k : Int) + 1) = (k : Int) + 1 := by unfold wrap64; omega
            by_cases hkl : k < bs.length
            · obtain ⟨y, hy⟩ : ∃ y, bs[k]? = some y := ⟨_, List.getElem?_eq_getElem hkl⟩
              obtain ⟨b', off', he, hb1, c1⟩ := HB.out k y hy
              cases he
              have HR : Hid (rowN inLineB (bs.drop k) = if inLineB (iv y) = true then rowN inLineB (bs.drop (k + 1)) + 1 else 0) := Lib.hid (by rw [drop_at hy]; rfl)
              have p0 : (0 : Int) ≤ (k : Int) := by omega
              have p1 : (k : Int) < (bs.length : Int) := by omega
              clear hy hb1 c0
              cases e10 : (iv y == 10) with
              | true =>
                have hne : (iv y != 10) = false := by show (!(iv y == 10)) = false; rw [e10]; rfl
                have HKQ : Hid (k = q) := Lib.hid (by have h1 := hK.out; rw [HR.out, if_neg (by unfold inLineB; rw [e10]; decide)] at h1; omega)
                have hkq := HKQ.out
                have HN2 : Hid (skipA bs m k = M ∧ bs.length ≤ m + k) := Lib.hid (by rw [hkq]; exact HN.out)
                have hjk : j < k := by omega
                clear hkq HKQ HN
                go_wp2_with fail
                go_roundw
                case rel => exact ⟨k, m, by trivial, by go_num, by omega, HN2⟩
                case measure => simp [intOf]; omega
              | false =>
                have hne : (iv y != 10) = true := by show (!(iv y == 10)) = true; rw [e10]; rfl
                have HK2 : Hid (k + 1 + rowN inLineB (bs.drop (k + 1)) = q) := Lib.hid (by have h1 := hK.out; rw [HR.out, if_pos (by unfold inLineB; rw [e10]; rfl)] at h1; omega)
                go_wp2_with fail
                go_roundw
                case rel => exact ⟨k + 1, by trivial, by go_num, by omega, HK2⟩
                case measure => simp [intOf]; omega
            · have HKQ : Hid (k = q) := Lib.hid (by have h1 := hK.out; rw [drop_end hkl] at h1; simpa [rowN] using h1)
              have hkq := HKQ.out
              have HN2 : Hid (skipA bs m k = M ∧ bs.length ≤ m + k) := Lib.hid (by rw [hkq]; exact HN.out)
              have hjk : j < k := by omega
              clear hkq HKQ HN
              obtain rfl : k = bs.length := by omega
              clear c0
              go_wp2_with fail
              go_roundw
              case rel => exact ⟨bs.length, m, by trivial, by go_num, by omega, HN2⟩
              case measure => simp [intOf]; omega
        | false =>
          by_cases hop : ((iv x == 47) && openC (bs.drop j)) = true
          · have hj1 : j + 1 < bs.length := by
              apply Classical.byContradiction
              intro h
              rw [openC_short h] at hop
              simp at hop
            obtain ⟨y, hy⟩ : ∃ y, bs[j + 1]? = some y := ⟨_, List.getElem?_eq_getElem hj1⟩
            obtain ⟨b', off', he, hb1, c1⟩ := HB.out (j + 1) y hy
            cases he
            rw [Bool.and_eq_true] at hop
            have hsh := skipA_shut (m := m) HX.out hbl e37 hop.1 hop.2
            have hy2 : (iv y == 42) = true := by
              have h1 := hop.2
              rw [openC_at HX.out hy, Bool.and_eq_true] at h1
              exact h1.2
            have e47 := hop.1
            have q2 : (0 : Int) ≤ (j : Int) + 1 := by omega
            have q3 : (j : Int) + 1 < (bs.length : Int) := by omega
            have q4 : ((j : Int) + 1).toNat = j + 1 := by omega
            have HSH : Hid (M = match closeA bs (j + 2) with | some e => skipA bs m e | none => (j, false)) := Lib.hid (by rw [← hI.out.1]; exact hsh)
            have HMJ2 : Hid (bs.length ≤ m + (j + 1)) := HMJ
            clear hI HX HMJ hbl hsh hop hy hb1
            go_wp2_with fail
            refine HBL.out.mono ?_
            rintro e w1 ⟨rfl, rfl⟩
            go_wp2_with fail
            clear c1 hy2 c0
            go_loopw [6] (fun c wr => ∃ k : Nat, wr = w1 ∧ c = .int .i64 k ∧ k ≤ bs.length ∧ j + 2 ≤ k ∧ Hid (closeA bs (j + 2) = closeA bs k)) (fun c _ => bs.length - (intOf c).toNat)
            case atStart => exact ⟨j + 2, rfl, by go_num, by omega, by omega, Lib.hid rfl⟩
            case round =>
              obtain ⟨k, rfl, rfl, hk, hjk, hK⟩ := hrel
              have hwk : wrap64 ((k : Int) + 1) = (k : Int) + 1 := by unfold wrap64; omega
              have hwk2 : wrap64 ((k : Int) + 2) = (k : Int) + 2 := by unfold wrap64; omega
              by_cases hkl : k + 1 < bs.length
              · obtain ⟨x, hx⟩ : ∃ x, bs[k]? = some x := ⟨_, List.getElem?_eq_getElem (by omega)⟩
                obtain ⟨y, hy⟩ : ∃ y, bs[k + 1]? = some y := ⟨_, List.getElem?_eq_getElem hkl⟩
                obtain ⟨b', off', he, hb1, c0⟩ := HB.out k x hx
                cases he
                obtain ⟨b', off', he, hb1, c1⟩ := HB.out (k + 1) y hy
                cases he
                have p0 : (0 : Int) ≤ (k : Int) := by omega
                have p1 : (k : Int) < (bs.length : Int) := by omega
                have p2 : (0 : Int) ≤ (k : Int) + 1 := by omega
                have p3 : (k : Int) + 1 < (bs.length : Int) := by omega
                have p4 : ((k : Int) + 1).toNat = k + 1 := by omega
                have HX := Lib.hid hx
                have HY := Lib.hid hy
                clear hx hy hb1
                have hno : (iv x == 42 && iv y == 47) = false → Hid (closeA bs (j + 2) = closeA bs (k + 1)) := fun h => Lib.hid (by rw [hK.out]; exact closeA_no HX.out HY.out h)
                cases ex : (iv x == 42) with
                | true =>
                  cases ey : (iv y == 47) with
                  | true =>
                    have hcl := closeA_yes HX.out HY.out (by rw [ex, ey]; rfl)
                    have HN : Hid (skipA bs m (k + 2) = M ∧ bs.length ≤ m + (k + 2)) := Lib.hid ⟨by rw [HSH.out, hK.out, hcl], by have := HMJ2.out; omega⟩
                    clear hcl hK HX HY hno
                    go_wp2_with fail
                    go_roundw
                    case rel => exact ⟨k + 2, m, by trivial, by go_num, by omega, HN⟩
                    case measure => simp [intOf]; omega
                  | false =>
                    have HNO := hno (by rw [ex, ey]; rfl)
                    clear hK HX HY hno
                    go_wp2_with fail
                    go_roundw
                    case rel => exact ⟨k + 1, by trivial, by go_num, by omega, by omega, HNO⟩
                    case measure => simp [intOf]; omega
                | false =>
                  have HNO := hno (by rw [ex]; rfl)
                  clear hK HX HY hno
                  go_wp2_with fail
                  go_roundw
                  case rel => exact ⟨k + 1, by trivial, by go_num, by omega, by omega, HNO⟩
                  case measure => simp [intOf]; omega
              · have HN : Hid (M = (j, false)) := Lib.hid (by rw [HSH.out, hK.out, closeA_end hkl])
                have p1 : (bs.length : Int) ≤ (k : Int) + 1 := by omega
                have p2 : ¬ ((k : Int) + 1 < (bs.length : Int)) := by omega
                clear hK
                go_wp2_with fail
                go_ret2
                exact ⟨by rw [HN.out]; rfl, rfl⟩
          · have hop2 : ((iv x == 47) && openC (bs.drop j)) = false := by simpa using hop
            have HN : Hid (M = (j, true)) := Lib.hid (by rw [← hI.out.1]; exact skipA_stop HX.out hbl e37 hop2)
            clear hI hop
            cases e47 : (iv x == 47) with
            | false =>
              clear hop2 HX HMJ hbl
              go_wp2_with fail
              refine HBL.out.mono ?_
              rintro e w1 ⟨rfl, rfl⟩
              go_wp2_with fail
              go_ret2
              exact ⟨by rw [HN.out]; rfl, rfl⟩
            | true =>
              by_cases hj1 : j + 1 < bs.length
              · obtain ⟨y, hy⟩ : ∃ y, bs[j + 1]? = some y := ⟨_, List.getElem?_eq_getElem hj1⟩
                obtain ⟨b', off', he, hb1, c1⟩ := HB.out (j + 1) y hy
                cases he
                have hy2 : (iv y == 42) = false := by
                  rw [openC_at HX.out hy, e47] at hop2
                  simpa using hop2
                have q2 : (0 : Int) ≤ (j : Int) + 1 := by omega
                have q3 : (j : Int) + 1 < (bs.length : Int) := by omega
                have q4 : ((j : Int) + 1).toNat = j + 1 := by omega
                clear hop2 HX HMJ hbl hy hb1
                go_wp2_with fail
                refine HBL.out.mono ?_
                rintro e w1 ⟨rfl, rfl⟩
                go_wp2_with fail
                go_ret2
                exact ⟨by rw [HN.out]; rfl, rfl⟩
              · have q3 : ¬ ((j : Int) + 1 < (bs.length : Int)) := by omega
                clear hop2 HX HMJ hbl
                go_wp2_with fail
                refine HBL.out.mono ?_
                rintro e w1 ⟨rfl, rfl⟩
                go_wp2_with fail
                go_ret2
                exact ⟨by rw [HN.out]; rfl, rfl⟩
    · have HN : Hid (M = (j, true)) := Lib.hid (by rw [← hI.out.1]; exact skipA_end hlt)
      clear hI
      obtain rfl : j = bs.length := by omega
      go_wp2_with fail
      go_ret2
      exact ⟨by rw [HN.out]; rfl, rfl⟩
end Go.Proofs.YtogccafnfpmgmaaDoor.toks
