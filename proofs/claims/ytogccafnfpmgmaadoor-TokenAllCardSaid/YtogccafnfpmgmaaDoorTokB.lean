/- Tokens: comments' ends, clauses' ends, layout. -/
import Derived.Test.YtogccafnfpmgmaaDoorTokA
namespace Go.Proofs.YtogccafnfpmgmaaDoor.toks
open Go.RowKit Go.Proofs.YtogccafnfpmgmaaDoor.own
def inLineB (c : Int) : Bool := !(c == 10)
def blankB (c : Int) : Bool := c == 32 || (c == 9 || (c == 10 || c == 13))
def aloneB (c : Int) : Bool := c == 33 || c == 59
def punctB (c : Int) : Bool := c == 40 || (c == 41 || (c == 91 || (c == 93 || (c == 123 || (c == 125 || (c == 44 || c == 124))))))
def ctrlB (c : Int) : Bool := decide (c < 32) || c == 127
set_option maxRecDepth 100000 in
theorem isInLine_any (c : Int) (w : World) : Calls Tryd.prog 40 #[.int .i32 c] w fun e w' => e = .returned (.bool (inLineB c)) ∧ w' = w := by
  go_enter Tryd.func40, Tryd.ntmps40
  go_wp2_with fail
  go_ret
  exact ⟨rfl, by trivial⟩
set_option maxRecDepth 100000 in
theorem isAlone_any (c : Int) (w : World) : Calls Tryd.prog 47 #[.int .i32 c] w fun e w' => e = .returned (.bool (aloneB c)) ∧ w' = w := by
  cases h : (c == 33) with
  | true =>
    have hE : Hid (aloneB c = true) := Lib.hid (by unfold aloneB; rw [h]; rfl)
    go_enter Tryd.func47, Tryd.ntmps47
    go_wp2_with fail
    go_ret
    exact ⟨by rw [hE.out]; rfl, by trivial⟩
  | false =>
    have hE : Hid (aloneB c = (c == 59)) := Lib.hid (by unfold aloneB; rw [h]; rfl)
    go_enter Tryd.func47, Tryd.ntmps47
    go_wp2_with fail
    go_ret
    exact ⟨by rw [hE.out]; rfl, by trivial⟩
set_option maxRecDepth 100000 in
theorem isControl_any (c : Int) (w : World) : Calls Tryd.prog 34 #[.int .i32 c] w fun e w' => e = .returned (.bool (ctrlB c)) ∧ w' = w := by
  by_cases h : c < 32
  · have hE : Hid (ctrlB c = true) := Lib.hid (by unfold ctrlB; simp [h])
    go_enter Tryd.func34, Tryd.ntmps34
    go_wp2_with fail
    go_ret
    exact ⟨by rw [hE.out]; rfl, by trivial⟩
  · have hE : Hid (ctrlB c = (c == 127)) := Lib.hid (by unfold ctrlB; simp [h])
    go_enter Tryd.func34, Tryd.ntmps34
    go_wp2_with fail
    go_ret
    exact ⟨by rw [hE.out]; rfl, by trivial⟩
set_option maxRecDepth 100000 in
set_option maxHeartbeats 2000000 in
theorem isPunct_any (c : Int) (w : World) : Calls Tryd.prog 48 #[.int .i32 c] w fun e w' => e = .returned (.bool (punctB c)) ∧ w' = w := by
  go_enter Tryd.func48, Tryd.ntmps48
  go_wp2_with fail
  all_goals (go_ret; refine ⟨?_, by trivial⟩; congr 1; simp only [punctB, *]; first | rfl | simp_all)
def endsF : List UInt8 → Bool
  | [] => true
  | x :: _ => blankB (iv x) || iv x == 37
set_option maxRecDepth 100000 in
set_option maxHeartbeats 2000000 in
theorem ends_any (ao : Option Addr) (cap : Nat) (bs : List UInt8) (i : Nat) (w : World) (hb : Byts ao bs w) (hi : i < bs.length) (hl : bs.length ≤ 1000000) :
    Calls Tryd.prog 43 #[.slice ao bs.length cap, .int .i64 i] w fun e w' => e = .returned (.bool (endsF (bs.drop (i + 1)))) ∧ w' = w := by
  have hw1 : wrap64 ((i : Int) + 1) = (i : Int) + 1 := by unfold wrap64; omega
  by_cases hlt : i + 1 < bs.length
  · obtain ⟨x, hx⟩ : ∃ x, bs[i + 1]? = some x := ⟨_, List.getElem?_eq_getElem hlt⟩
    obtain ⟨b, off, rfl, hb1, c0⟩ := hb (i + 1) x hx
    have HE : Hid (endsF (bs.drop (i + 1)) = (blankB (iv x) || iv x == 37)) := Lib.hid (by rw [drop_at hx]; rfl)
    have q1 : (i : Int) + 1 < (bs.length : Int) := by omega
    have q2 : (((i : Int) + 1) == (bs.length : Int)) = false := by rw [beq_eq_false_iff_ne]; omega
    have q3 : (0 : Int) ≤ (i : Int) + 1 := by omega
    have q4 : ((i : Int) + 1).toNat = i + 1 := by omega
    clear hx hb1 hb hlt hi
    generalize iv x = c at *
    go_enter Tryd.func43, Tryd.ntmps43
    go_wp2_with fail
    all_goals (go_ret; refine ⟨?_, by trivial⟩; rw [HE.out]; congr 1; simp only [blankB, *]; first | rfl | simp_all)
  · have HE : Hid (endsF (bs.drop (i + 1)) = true) := Lib.hid (by rw [drop_end hlt]; rfl)
    have q2 : (((i : Int) + 1) == (bs.length : Int)) = true := by rw [beq_iff_eq]; omega
    go_enter Tryd.func43, Tryd.ntmps43
    go_wp2_with fail
    go_ret
    exact ⟨by rw [HE.out]; rfl, by trivial⟩
/-- Where a comment ends whose sign's second byte was passed. -/
def closeA (bs : List UInt8) (j : Nat) : Option Nat := (closeN (bs.drop j)).map (· + j)
theorem closeA_end {bs : List UInt8} {j : Nat} (h : ¬ j + 1 < bs.length) : closeA bs j = none := by
  have : (bs.drop j).length ≤ 1 := by rw [List.length_drop]; omega
  unfold closeA
  match bs.drop j, this with
  | [], _ => rfl
  | [_], _ => rfl
theorem closeA_yes {bs : List UInt8} {j : Nat} {x y : UInt8} (hx : bs[j]? = some x) (hy : bs[j + 1]? = some y) (h : (iv x == 42 && iv y == 47) = true) : closeA bs j = some (j + 2) := by
  unfold closeA
  rw [drop_at hx, drop_at hy, closeN, if_pos h]
  show some (2 + j) = _
  rw [Nat.add_comm]
theorem closeA_no {bs : List UInt8} {j : Nat} {x y : UInt8} (hx : bs[j]? = some x) (hy : bs[j + 1]? = some y) (h : (iv x == 42 && iv y == 47) = false) : closeA bs j = closeA bs (j + 1) := by
  unfold closeA
  rw [drop_at hx, drop_at hy, closeN, if_neg (by rw [h]; decide), Option.map_map]
  congr 1
  funext n
  show n + 1 + j = n + (j + 1)
  omega
set_option maxRecDepth 100000 in
set_option maxHeartbeats 4000000 in
theorem commentEnd_any (ao : Option Addr) (cap : Nat) (bs : List UInt8) (i : Nat) (w : World) (hb : Byts ao bs w) (hi : i ≤ bs.length) (hl : bs.length ≤ 1000000) :
    Calls Tryd.prog 42 #[.slice ao bs.length cap, .int .i64 i] w fun e w' => e = .returned (.tuple #[.int .i64 ((closeA bs (i + 2)).getD 0 : Nat), .bool (closeA bs (i + 2)).isSome]) ∧ w' = w := by
  have HB := Lib.hid hb
  have hw1 : wrap64 ((i : Int) + 2) = (i : Int) + 2 := by unfold wrap64; omega
  clear hb
  go_enter Tryd.func42, Tryd.ntmps42
  go_wp2_with fail
  go_loopw [6] (fun c wr => ∃ j : Nat, wr = w ∧ c = .int .i64 j ∧ j ≤ bs.length + 2 ∧ Hid (closeA bs j = closeA bs (i + 2))) (fun c _ => bs.length + 2 - (intOf c).toNat)
  case atStart => exact ⟨i + 2, rfl, by go_num, by omega, Lib.hid rfl⟩
  case round =>
    obtain ⟨j, rfl, rfl, hj, hI⟩ := hrel
    have hw2 : wrap64 ((j : Int) + 1) = (j : Int) + 1 := by unfold wrap64; omega
    have hw3 : wrap64 ((j : Int) + 2) = (j : Int) + 2 := by unfold wrap64; omega
    by_cases hlt : j + 1 < bs.length
    · obtain ⟨x, hx⟩ : ∃ x, bs[j]? = some x := ⟨_, List.getElem?_eq_getElem (by omega)⟩
      obtain ⟨y, hy⟩ : ∃ y, bs[j + 1]? = some y := ⟨_, List.getElem?_eq_getElem hlt⟩
      obtain ⟨b, off, rfl, hb1, c0⟩ := HB.out j x hx
      obtain ⟨b', off', he, hb2, c1⟩ := HB.out (j + 1) y hy
      cases he
      have q0 : (0 : Int) ≤ (j : Int) := by omega
      have q1 : (j : Int) + 1 < (bs.length : Int) := by omega
      have q2 : (j : Int) < (bs.length : Int) := by omega
      have q3 : (0 : Int) ≤ (j : Int) + 1 := by omega
      have q4 : ((j : Int) + 1).toNat = j + 1 := by omega
      cases e1 : (iv x == 42) with
      | true =>
        cases e2 : (iv y == 47) with
        | true =>
          have HE : Hid (closeA bs (i + 2) = some (j + 2)) := Lib.hid (by rw [← hI.out]; exact closeA_yes hx hy (by rw [e1, e2]; rfl))
          clear hx hy hb1 hb2 hI
          go_wp2_with fail
          go_ret2
          exact ⟨by rw [HE.out]; rfl, by trivial⟩
        | false =>
          have HE : Hid (closeA bs (j + 1) = closeA bs (i + 2)) := Lib.hid (by rw [← hI.out]; exact (closeA_no hx hy (by rw [e1, e2]; rfl)).symm)
          clear hx hy hb1 hb2 hI
          go_wp2_with fail
          go_roundw
          case rel => exact ⟨j + 1, by trivial, by go_num, by omega, HE⟩
          case measure => simp [intOf]; omega
      | false =>
        have HE : Hid (closeA bs (j + 1) = closeA bs (i + 2)) := Lib.hid (by rw [← hI.out]; exact (closeA_no hx hy (by rw [e1]; rfl)).symm)
        clear hx hy hb1 hb2 hI
        go_wp2_with fail
        go_roundw
        case rel => exact ⟨j + 1, by trivial, by go_num, by omega, HE⟩
        case measure => simp [intOf]; omega
    · have HE : Hid (closeA bs (i + 2) = none) := Lib.hid (by rw [← hI.out]; exact closeA_end hlt)
      have q1 : ¬ (j : Int) + 1 < (bs.length : Int) := by omega
      go_wp2_with fail
      go_ret2
      exact ⟨by rw [HE.out]; rfl, by trivial⟩
def sh (k : Nat) (p : Nat × Bool) : Nat × Bool := (k + p.1, p.2)
/-- How many bytes of layout stand at the beginning; and whether no comment lacks its end. -/
def skipF : Nat → List UInt8 → Nat × Bool
  | 0, _ => (0, true)
  | _ + 1, [] => (0, true)
  | m + 1, x :: r => if blankB (iv x) = true then sh 1 (skipF m r)
    else if (iv x == 37) = true then sh (rowN inLineB (x :: r)) (skipF m ((x :: r).drop (rowN inLineB (x :: r))))
    else if (iv x == 47) = true then (if openC (x :: r) = true then (match closeN (r.drop 1) with | some c => sh (2 + c) (skipF m (r.drop (1 + c))) | none => (0, false)) else (0, true))
    else (0, true)
/-- .. in a text, from a place on. -/
def skipA (bs : List UInt8) (m j : Nat) : Nat × Bool := sh j (skipF m (bs.drop j))
theorem sh_sh (a b : Nat) (p : Nat × Bool) : sh a (sh b p) = sh (a + b) p := by unfold sh; simp; omega
theorem skipA_blank {bs : List UInt8} {m j : Nat} {x : UInt8} (hx : bs[j]? = some x) (h : blankB (iv x) = true) : skipA bs (m + 1) j = skipA bs m (j + 1) := by
  unfold skipA
  rw [drop_at hx, skipF, if_pos h, sh_sh]
theorem skipA_line {bs : List UInt8} {m j : Nat} {x : UInt8} (hx : bs[j]? = some x) (h : blankB (iv x) = false) (h2 : (iv x == 37) = true) : skipA bs (m + 1) j = skipA bs m (j + rowN inLineB (bs.drop j)) := by
  unfold skipA
  rw [drop_at hx, skipF, if_neg (by rw [h]; decide), if_pos h2, sh_sh, ← drop_at hx, List.drop_drop]
theorem skipA_shut {bs : List UInt8} {m j : Nat} {x : UInt8} (hx : bs[j]? = some x) (h : blankB (iv x) = false) (h2 : (iv x == 37) = false) (h3 : (iv x == 47) = true) (h4 : openC (bs.drop j) = true) : skipA bs (m + 1) j = match closeA bs (j + 2) with | some e => skipA bs m e | none => (j, false) := by
  unfold skipA closeA
  rw [drop_at hx] at h4 ⊢
  rw [skipF, if_neg (by rw [h]; decide), if_neg (by rw [h2]; decide), if_pos h3, if_pos h4, List.drop_drop]
  cases hc : closeN (bs.drop (j + 1 + 1)) with
  | none =>
    rfl
  | some c =>
    show sh j (sh (2 + c) (skipF m ((bs.drop (j + 1)).drop (1 + c)))) = sh (c + (j + 1 + 1)) (skipF m (bs.drop (c + (j + 1 + 1))))
    rw [sh_sh, List.drop_drop, show j + 1 + (1 + c) = c + (j + 1 + 1) by omega, show j + (2 + c) = c + (j + 1 + 1) by omega]
theorem skipA_stop {bs : List UInt8} {m j : Nat} {x : UInt8} (hx : bs[j]? = some x) (h : blankB (iv x) = false) (h2 : (iv x == 37) = false) (h3 : ((iv x == 47) && openC (bs.drop j)) = false) : skipA bs (m + 1) j = (j, true) := by
  unfold skipA
  rw [drop_at hx] at h3 ⊢
  rw [skipF, if_neg (by rw [h]; decide), if_neg (by rw [h2]; decide)]
  cases h4 : (iv x == 47) with
  | true =>
    rw [h4, Bool.true_and] at h3
    rw [if_pos rfl, if_neg (by rw [h3]; decide)]
    rfl
  | false =>
    rw [if_neg (by decide)]
    rfl
theorem skipA_end {bs : List UInt8} {m j : Nat} (h : ¬ j < bs.length) : skipA bs m j = (j, true) := by
  unfold skipA
  rw [drop_end h]
  cases m <;> rfl
end Go.Proofs.YtogccafnfpmgmaaDoor.toks
