/- Tokens: the reference's rows of bytes; numbers; what stands behind a backslash. -/
import Derived.Test.YtogccafnfpmgmaaDoorTokW
namespace Go.Proofs.YtogccafnfpmgmaaDoor.toks
open Go.RowKit Go.Proofs.YtogccafnfpmgmaaDoor.own
set_option maxRecDepth 100000 in
set_option maxHeartbeats 2000000 in
theorem rrow1_any (ao : Option Addr) (cap : Nat) (bs : List UInt8) (i : Nat) (w : World) (hb : Byts ao bs w) (hi : i ≤ bs.length) (hl : bs.length ≤ 1000000) :
    Calls Tryd.prog 51 #[.slice ao bs.length cap, .int .i64 i, .int .i64 1] w fun e w' => e = .returned (.int .i64 (i + rowN wordB (bs.drop i) : Nat)) ∧ w' = w := by
  have HB := Lib.hid hb
  clear hb
  go_enter Tryd.func51, Tryd.ntmps51
  go_wp2_with fail
  go_loopw [1] (fun c wr => ∃ j : Nat, wr = w ∧ c = .int .i64 j ∧ j ≤ bs.length ∧ Hid (j + rowN wordB (bs.drop j) = i + rowN wordB (bs.drop i))) (fun c _ => bs.length - (intOf c).toNat)
  case atStart => exact ⟨i, rfl, rfl, hi, Lib.hid rfl⟩
  case round =>
    obtain ⟨j, rfl, rfl, hj, hI⟩ := hrel
    by_cases hlt : j < bs.length
    · obtain ⟨x, hx⟩ : ∃ x, bs[j]? = some x := ⟨_, List.getElem?_eq_getElem hlt⟩
      obtain ⟨b, off, rfl, hb1, c0⟩ := HB.out j x hx
      have q0 : (0 : Int) ≤ (j : Int) := by omega
      have q1 : (j : Int) < (bs.length : Int) := by omega
      have hw1 : wrap64 ((j : Int) + 1) = (j : Int) + 1 := by unfold wrap64; omega
      have HR : Hid (rowN wordB (bs.drop j) = if wordB (iv x) = true then rowN wordB (bs.drop (j + 1)) + 1 else 0) := Lib.hid (by rw [drop_at hx]; rfl)
      clear hx hb1
      have H1 : Hid (∀ W, Calls Tryd.prog 27 #[.int .u8 (iv x)] W fun e w' => e = .returned (.bool (wordB (iv x))) ∧ w' = W) := Lib.hid (fun W => rword_any (iv x) W)
      cases hg : wordB (iv x) with
      | true =>
        rw [hg] at H1
        have HN : Hid (j + 1 + rowN wordB (bs.drop (j + 1)) = i + rowN wordB (bs.drop i)) := Lib.hid (by have h1 := hI.out; rw [HR.out, if_pos hg] at h1; omega)
        clear hg
        go_wp2_with fail
        refine (H1.out _).mono ?_
        rintro e w1 ⟨rfl, rfl⟩
        go_wp2_with fail
        go_roundw
        case rel => exact ⟨j + 1, by trivial, by go_num, by omega, HN⟩
        case measure => simp [intOf]; omega
      | false =>
        rw [hg] at H1
        have HN : Hid (j = i + rowN wordB (bs.drop i)) := Lib.hid (by have h1 := hI.out; rw [HR.out, if_neg (by rw [hg]; decide)] at h1; omega)
        clear hg
        go_wp2_with fail
        refine (H1.out _).mono ?_
        rintro e w1 ⟨rfl, rfl⟩
        go_wp2_with fail
        go_ret
        exact ⟨by rw [← HN.out]; rfl, by trivial⟩
    · have HN : Hid (j = i + rowN wordB (bs.drop i)) := Lib.hid (by have h1 := hI.out; rw [drop_end hlt] at h1; simpa [rowN] using h1)
      obtain rfl : j = bs.length := by omega
      go_wp2_with fail
      go_ret
      exact ⟨by rw [← HN.out]; rfl, by trivial⟩
set_option maxRecDepth 100000 in
set_option maxHeartbeats 2000000 in
theorem rrow2_any (ao : Option Addr) (cap : Nat) (bs : List UInt8) (i : Nat) (w : World) (hb : Byts ao bs w) (hi : i ≤ bs.length) (hl : bs.length ≤ 1000000) :
    Calls Tryd.prog 51 #[.slice ao bs.length cap, .int .i64 i, .int .i64 2] w fun e w' => e = .returned (.int .i64 (i + rowN signB (bs.drop i) : Nat)) ∧ w' = w := by
  have HB := Lib.hid hb
  clear hb
  go_enter Tryd.func51, Tryd.ntmps51
  go_wp2_with fail
  go_loopw [1] (fun c wr => ∃ j : Nat, wr = w ∧ c = .int .i64 j ∧ j ≤ bs.length ∧ Hid (j + rowN signB (bs.drop j) = i + rowN signB (bs.drop i))) (fun c _ => bs.length - (intOf c).toNat)
  case atStart => exact ⟨i, rfl, rfl, hi, Lib.hid rfl⟩
  case round =>
    obtain ⟨j, rfl, rfl, hj, hI⟩ := hrel
    by_cases hlt : j < bs.length
    · obtain ⟨x, hx⟩ : ∃ x, bs[j]? = some x := ⟨_, List.getElem?_eq_getElem hlt⟩
      obtain ⟨b, off, rfl, hb1, c0⟩ := HB.out j x hx
      have q0 : (0 : Int) ≤ (j : Int) := by omega
      have q1 : (j : Int) < (bs.length : Int) := by omega
      have hw1 : wrap64 ((j : Int) + 1) = (j : Int) + 1 := by unfold wrap64; omega
      have HR : Hid (rowN signB (bs.drop j) = if signB (iv x) = true then rowN signB (bs.drop (j + 1)) + 1 else 0) := Lib.hid (by rw [drop_at hx]; rfl)
      clear hx hb1
      have H2 : Hid (∀ W, Calls Tryd.prog 28 #[.int .u8 (iv x)] W fun e w' => e = .returned (.bool (signB (iv x))) ∧ w' = W) := Lib.hid (fun W => rsign_any x W)
      cases hg : signB (iv x) with
      | true =>
        rw [hg] at H2
        have HN : Hid (j + 1 + rowN signB (bs.drop (j + 1)) = i + rowN signB (bs.drop i)) := Lib.hid (by have h1 := hI.out; rw [HR.out, if_pos hg] at h1; omega)
        clear hg
        go_wp2_with fail
        refine (H2.out _).mono ?_
        rintro e w1 ⟨rfl, rfl⟩
        go_wp2_with fail
        go_roundw
        case rel => exact ⟨j + 1, by trivial, by go_num, by omega, HN⟩
        case measure => simp [intOf]; omega
      | false =>
        rw [hg] at H2
        have HN : Hid (j = i + rowN signB (bs.drop i)) := Lib.hid (by have h1 := hI.out; rw [HR.out, if_neg (by rw [hg]; decide)] at h1; omega)
        clear hg
        go_wp2_with fail
        refine (H2.out _).mono ?_
        rintro e w1 ⟨rfl, rfl⟩
        go_wp2_with fail
        go_ret
        exact ⟨by rw [← HN.out]; rfl, by trivial⟩
    · have HN : Hid (j = i + rowN signB (bs.drop i)) := Lib.hid (by have h1 := hI.out; rw [drop_end hlt] at h1; simpa [rowN] using h1)
      obtain rfl : j = bs.length := by omega
      go_wp2_with fail
      go_ret
      exact ⟨by rw [← HN.out]; rfl, by trivial⟩
set_option maxRecDepth 100000 in
set_option maxHeartbeats 2000000 in
theorem rrow3_any (ao : Option Addr) (cap : Nat) (bs : List UInt8) (i : Nat) (w : World) (hb : Byts ao bs w) (hi : i ≤ bs.length) (hl : bs.length ≤ 1000000) :
    Calls Tryd.prog 51 #[.slice ao bs.length cap, .int .i64 i, .int .i64 3] w fun e w' => e = .returned (.int .i64 (i + rowN digB (bs.drop i) : Nat)) ∧ w' = w := by
  have HB := Lib.hid hb
  clear hb
  go_enter Tryd.func51, Tryd.ntmps51
  go_wp2_with fail
  go_loopw [1] (fun c wr => ∃ j : Nat, wr = w ∧ c = .int .i64 j ∧ j ≤ bs.length ∧ Hid (j + rowN digB (bs.drop j) = i + rowN digB (bs.drop i))) (fun c _ => bs.length - (intOf c).toNat)
  case atStart => exact ⟨i, rfl, rfl, hi, Lib.hid rfl⟩
  case round =>
    obtain ⟨j, rfl, rfl, hj, hI⟩ := hrel
    by_cases hlt : j < bs.length
    · obtain ⟨x, hx⟩ : ∃ x, bs[j]? = some x := ⟨_, List.getElem?_eq_getElem hlt⟩
      obtain ⟨b, off, rfl, hb1, c0⟩ := HB.out j x hx
      have q0 : (0 : Int) ≤ (j : Int) := by omega
      have q1 : (j : Int) < (bs.length : Int) := by omega
      have hw1 : wrap64 ((j : Int) + 1) = (j : Int) + 1 := by unfold wrap64; omega
      have HR : Hid (rowN digB (bs.drop j) = if digB (iv x) = true then rowN digB (bs.drop (j + 1)) + 1 else 0) := Lib.hid (by rw [drop_at hx]; rfl)
      clear hx hb1
      by_cases h48 : 48 ≤ iv x
      · by_cases h57 : iv x ≤ 57
        · have HN : Hid (j + 1 + rowN digB (bs.drop (j + 1)) = i + rowN digB (bs.drop i)) := Lib.hid (by have h1 := hI.out; rw [HR.out, if_pos (by unfold digB; simp [h48, h57])] at h1; omega)
          generalize iv x = c at *
          go_wp2_with fail
          go_roundw
          case rel => exact ⟨j + 1, by trivial, by go_num, by omega, HN⟩
          case measure => simp [intOf]; omega
        · have HN : Hid (j = i + rowN digB (bs.drop i)) := Lib.hid (by have h1 := hI.out; rw [HR.out, if_neg (by unfold digB; simp [h57])] at h1; omega)
          generalize iv x = c at *
          go_wp2_with fail
          go_ret
          exact ⟨by have h := HN.out; rw [show ((i : Int) + ((rowN digB (bs.drop i) : Nat) : Int)) = (j : Int) by omega]; rfl, by trivial⟩
      · have HN : Hid (j = i + rowN digB (bs.drop i)) := Lib.hid (by have h1 := hI.out; rw [HR.out, if_neg (by unfold digB; simp [h48])] at h1; omega)
        generalize iv x = c at *
        go_wp2_with fail
        go_ret
        exact ⟨by have h := HN.out; rw [show ((i : Int) + ((rowN digB (bs.drop i) : Nat) : Int)) = (j : Int) by omega]; rfl, by trivial⟩
    · have HN : Hid (j = i + rowN digB (bs.drop i)) := Lib.hid (by have h1 := hI.out; rw [drop_end hlt] at h1; simpa [rowN] using h1)
      obtain rfl : j = bs.length := by omega
      go_wp2_with fail
      go_ret
      exact ⟨by rw [← HN.out]; rfl, by trivial⟩
def numR (l : List UInt8) : Int := (numN 0 l).getD (-1)
theorem numN_pos : ∀ (l : List UInt8) (a v : Int), 0 ≤ a → l.all (fun b => digB (iv b)) = true → numN a l = some v → 0 ≤ v
  | [], a, v, h0, _, h => by cases h; exact h0
  | x :: l, a, v, h0, hd, h => by
    rw [List.all_cons, Bool.and_eq_true] at hd
    rw [numN] at h
    split at h
    · cases h
    · refine numN_pos l _ v ?_ hd.2 h
      have := hd.1
      unfold digB at this
      simp only [Bool.and_eq_true, decide_eq_true_eq] at this
      omega
set_option maxRecDepth 100000 in
set_option maxHeartbeats 4000000 in
theorem rnumber_any (ao : Option Addr) (cap : Nat) (l : List UInt8) (w : World) (hb : Byts ao l w) (hl : l.length ≤ 1000000) (hd : l.all (fun b => digB (iv b)) = true) :
    Calls Tryd.prog 52 #[.slice ao l.length cap] w fun e w' => e = .returned (.int .i64 (numR l)) ∧ w' = w := by
  have HB := Lib.hid hb
  have HD : Hid (∀ (k : Nat) (y : UInt8), l[k]? = some y → digB (iv y) = true) := Lib.hid (fun k y h => List.all_eq_true.1 hd y (List.mem_of_getElem? h))
  clear hb hd
  go_enter Tryd.func52, Tryd.ntmps52
  go_wp2_with fail
  go_loopw [3, 4] (fun a c wr => ∃ (k : Nat) (v : Int), wr = w ∧ c = .int .i64 k ∧ k ≤ l.length ∧ a = .int .i64 v ∧ Hid (numR l = (numN v (l.drop k)).getD (-1) ∧ 0 ≤ v ∧ v ≤ 9007199254740991)) (fun _ c _ => l.length - (intOf c).toNat)
  case atStart => exact ⟨0, 0, rfl, rfl, by omega, rfl, Lib.hid ⟨by rw [List.drop_zero]; rfl, by omega, by omega⟩⟩
  case round =>
    obtain ⟨k, v, rfl, rfl, hk, rfl, hI⟩ := hrel
    by_cases hlt : k < l.length
    · obtain ⟨y, hy⟩ : ∃ y, l[k]? = some y := ⟨_, List.getElem?_eq_getElem hlt⟩
      obtain ⟨b, off, rfl, hb2, c1⟩ := HB.out k y hy
      have hd := HD.out k y hy
      obtain ⟨v0, v1⟩ := hI.out.2
      have hv2 : 0 ≤ iv y - 48 ∧ iv y - 48 ≤ 9 := by
        unfold digB at hd
        simp only [Bool.and_eq_true, decide_eq_true_eq] at hd
        omega
      have HNX : Hid (numR l = (if 9007199254740991 < 10 * v + (iv y - 48) then none else numN (10 * v + (iv y - 48)) (l.drop (k + 1))).getD (-1)) := Lib.hid (by rw [hI.out.1, drop_at hy]; rfl)
      have p0 : (0 : Int) ≤ (k : Int) := by omega
      have p1 : (k : Int) < (l.length : Int) := by omega
      have p2 : wrap64 ((k : Int) + 1) = (k : Int) + 1 := by unfold wrap64; omega
      generalize iv y = c at *
      have hw3 : IntKind.u8.wrap (c - 48) = c - 48 := by simp [IntKind.wrap, IntKind.bits, IntKind.signed]; omega
      have hw4 : wrap64 (10 * v) = 10 * v := by unfold wrap64; omega
      have hw5 : wrap64 (10 * v + (c - 48)) = 10 * v + (c - 48) := by unfold wrap64; omega
      have hw6 : wrap64 (c - 48) = c - 48 := by unfold wrap64; omega
      clear hd hy hb2
      by_cases hbig : 9007199254740991 < 10 * v + (c - 48)
      · have HNO : Hid (numR l = -1) := Lib.hid (by rw [HNX.out, if_pos hbig]; rfl)
        clear HNX
        go_wp2_with fail
        go_ret
        exact ⟨by rw [HNO.out]; rfl, rfl⟩
      · have HN2 : Hid (numR l = (numN (10 * v + (c - 48)) (l.drop (k + 1))).getD (-1) ∧ 0 ≤ 10 * v + (c - 48) ∧ 10 * v + (c - 48) ≤ 9007199254740991) := Lib.hid ⟨by rw [HNX.out, if_neg hbig], by omega, by omega⟩
        clear HNX
        go_wp2_with fail
        go_roundw
        case rel => exact ⟨k + 1, 10 * v + (c - 48), by trivial, by go_num, by omega, rfl, HN2⟩
        case measure => simp [intOf]; omega
    · have HNO : Hid (numR l = v) := Lib.hid (by rw [hI.out.1, drop_end hlt]; rfl)
      obtain rfl : k = l.length := by omega
      go_wp2_with fail
      go_ret
      exact ⟨by rw [HNO.out]; rfl, rfl⟩
end Go.Proofs.YtogccafnfpmgmaaDoor.toks
