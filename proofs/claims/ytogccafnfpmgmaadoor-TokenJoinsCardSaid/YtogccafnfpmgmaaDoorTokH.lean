/- Tokens: pieces of a quoted name. -/
import Derived.Test.YtogccafnfpmgmaaDoorTokG
namespace Go.Proofs.YtogccafnfpmgmaaDoor.toks
open Go.RowKit Go.Proofs.YtogccafnfpmgmaaDoor.own
def unescF : List UInt8 → Option (UInt8 × Nat)
  | a :: y :: t => if (iv y == 92) = true then some (y, 2) else if (iv y == 39) = true then some (y, 2) else if (iv y == 110) = true then some (10, 2) else if (iv y == 116) = true then some (9, 2) else if (iv y == 120) = true then unhexF (a :: y :: t) else none
  | _ => none
def pieceF : List UInt8 → Option (UInt8 × Nat)
  | x :: t => if (iv x == 39) = true then some (x, 2) else if (iv x == 92) = true then unescF (x :: t) else if ctrlB (iv x) = true then none else some (x, 1)
  | [] => none
def pairB : List UInt8 → Bool
  | x :: y :: _ => iv x == 39 && iv y == 39
  | _ => false
theorem pairB_short {bs : List UInt8} {i : Nat} (h : ¬ i + 1 < bs.length) : pairB (bs.drop i) = false := by
  have : (bs.drop i).length ≤ 1 := by rw [List.length_drop]; omega
  match bs.drop i, this with
  | [], _ => rfl
  | [_], _ => rfl
set_option maxRecDepth 100000 in
set_option maxHeartbeats 2000000 in
theorem isQuotePair_any (ao : Option Addr) (cap : Nat) (bs : List UInt8) (i : Nat) (w : World) (hb : Byts ao bs w) (hl : bs.length ≤ 1000000) (hi : i ≤ bs.length) :
    Calls Tryd.prog 56 #[.slice ao bs.length cap, .int .i64 i] w fun e w' => e = .returned (.bool (pairB (bs.drop i))) ∧ w' = w := by
  have hw1 : wrap64 ((i : Int) + 1) = (i : Int) + 1 := by unfold wrap64; omega
  by_cases hlt : i + 1 < bs.length
  · obtain ⟨x, hx⟩ : ∃ x, bs[i]? = some x := ⟨_, List.getElem?_eq_getElem (by omega)⟩
    obtain ⟨y, hy⟩ : ∃ y, bs[i + 1]? = some y := ⟨_, List.getElem?_eq_getElem hlt⟩
    obtain ⟨b, off, rfl, hb1, c0⟩ := hb i x hx
    obtain ⟨b', off', he, hb2, c1⟩ := hb (i + 1) y hy
    cases he
    have HE : Hid (pairB (bs.drop i) = ((iv x == 39) && (iv y == 39))) := Lib.hid (by rw [drop_at hx, drop_at hy]; rfl)
    have q0 : (0 : Int) ≤ (i : Int) := by omega
    have q1 : (i : Int) + 1 < (bs.length : Int) := by omega
    have q2 : (i : Int) < (bs.length : Int) := by omega
    have q3 : (0 : Int) ≤ (i : Int) + 1 := by omega
    have q4 : ((i : Int) + 1).toNat = i + 1 := by omega
    clear hx hy hb1 hb2 hb
    cases h1 : (iv x == 39) with
    | true =>
      rw [h1] at HE
      go_enter Tryd.func56, Tryd.ntmps56
      go_wp2_with fail
      go_ret
      exact ⟨by rw [HE.out]; rfl, by trivial⟩
    | false =>
      rw [h1] at HE
      go_enter Tryd.func56, Tryd.ntmps56
      go_wp2_with fail
      go_ret
      exact ⟨by rw [HE.out]; rfl, by trivial⟩
  · have HE : Hid (pairB (bs.drop i) = false) := Lib.hid (pairB_short hlt)
    have q1 : ¬ (i : Int) + 1 < (bs.length : Int) := by omega
    go_enter Tryd.func56, Tryd.ntmps56
    go_wp2_with fail
    go_ret
    exact ⟨by rw [HE.out]; rfl, by trivial⟩
set_option maxRecDepth 100000 in
set_option maxHeartbeats 4000000 in
theorem unescape_any (b off cap : Nat) (r : List UInt8) (w : World) (hb : Byts (some ⟨b, off, none⟩) r w) (hl : r.length ≤ 1000000) (hc : r.length ≤ cap) :
    Calls Tryd.prog 63 #[.slice (some ⟨b, off, none⟩) r.length cap] w fun e w' => e = .returned (pairR (unescF r)) ∧ w' = w := by
  match r, hb, hl, hc with
  | [], hb, hl, hc =>
    go_enter Tryd.func63, Tryd.ntmps63
    go_wp2_with fail
    go_ret2
    exact ⟨rfl, by trivial⟩
  | [x], hb, hl, hc =>
    go_enter Tryd.func63, Tryd.ntmps63
    go_wp2_with fail
    go_ret2
    exact ⟨rfl, by trivial⟩
  | x :: y :: t, hb, hl, hc =>
    obtain ⟨b', off', he, hb2, c1⟩ := hb 1 y rfl
    cases he
    have HU : Hid (Calls Tryd.prog 70 #[.slice (some ⟨b, off, none⟩) (x :: y :: t).length cap] w fun e w' => e = .returned (pairR (unhexF (x :: y :: t))) ∧ w' = w) := Lib.hid (unhex_any b off cap _ w hb (by simp) hl hc)
    have HE : Hid (unescF (x :: y :: t) = if (iv y == 92) = true then some (y, 2) else if (iv y == 39) = true then some (y, 2) else if (iv y == 110) = true then some (10, 2) else if (iv y == 116) = true then some (9, 2) else if (iv y == 120) = true then unhexF (x :: y :: t) else none) := Lib.hid rfl
    have hL : 2 ≤ (x :: y :: t).length := by simp
    have p0 : ¬ ((x :: y :: t).length : Int) < 2 := by omega
    have p1 : (1 : Int) < ((x :: y :: t).length : Int) := by omega
    clear hb hb2
    generalize unhexF (x :: y :: t) = un at *
    generalize (x :: y :: t).length = L at *
    cases e1 : (iv y == 92) with
    | true =>
      have HN : Hid (unescF (x :: y :: t) = some (y, 2)) := Lib.hid (by rw [HE.out, if_pos e1])
      clear HE
      go_enter Tryd.func63, Tryd.ntmps63
      go_wp2_with fail
      go_ret2
      exact ⟨by rw [HN.out]; rfl, by trivial⟩
    | false =>
      cases e2 : (iv y == 39) with
      | true =>
        have HN : Hid (unescF (x :: y :: t) = some (y, 2)) := Lib.hid (by rw [HE.out, if_neg (by rw [e1]; decide), if_pos e2])
        clear HE
        go_enter Tryd.func63, Tryd.ntmps63
        go_wp2_with fail
        go_ret2
        exact ⟨by rw [HN.out]; rfl, by trivial⟩
      | false =>
        cases e3 : (iv y == 110) with
        | true =>
          have HN : Hid (unescF (x :: y :: t) = some (10, 2)) := Lib.hid (by rw [HE.out, if_neg (by rw [e1]; decide), if_neg (by rw [e2]; decide), if_pos e3])
          clear HE
          go_enter Tryd.func63, Tryd.ntmps63
          go_wp2_with fail
          go_ret2
          exact ⟨by rw [HN.out]; rfl, by trivial⟩
        | false =>
          cases e4 : (iv y == 116) with
          | true =>
            have HN : Hid (unescF (x :: y :: t) = some (9, 2)) := Lib.hid (by rw [HE.out, if_neg (by rw [e1]; decide), if_neg (by rw [e2]; decide), if_neg (by rw [e3]; decide), if_pos e4])
            clear HE
            go_enter Tryd.func63, Tryd.ntmps63
            go_wp2_with fail
            go_ret2
            exact ⟨by rw [HN.out]; rfl, by trivial⟩
          | false =>
            cases e5 : (iv y == 120) with
            | true =>
              have HN : Hid (unescF (x :: y :: t) = un) := Lib.hid (by rw [HE.out, if_neg (by rw [e1]; decide), if_neg (by rw [e2]; decide), if_neg (by rw [e3]; decide), if_neg (by rw [e4]; decide), if_pos e5])
              clear HE
              cases un with
              | none =>
                go_enter Tryd.func63, Tryd.ntmps63
                go_wp2_with fail
                refine HU.out.mono ?_
                rintro e w1 ⟨rfl, rfl⟩
                unfold pairR
                go_wp2_with fail
                go_ret2
                exact ⟨by rw [HN.out]; rfl, by trivial⟩
              | some p =>
                obtain ⟨c, k⟩ := p
                go_enter Tryd.func63, Tryd.ntmps63
                go_wp2_with fail
                refine HU.out.mono ?_
                rintro e w1 ⟨rfl, rfl⟩
                unfold pairR
                go_wp2_with fail
                go_ret2
                exact ⟨by rw [HN.out]; rfl, by trivial⟩
            | false =>
              have HN : Hid (unescF (x :: y :: t) = none) := Lib.hid (by rw [HE.out, if_neg (by rw [e1]; decide), if_neg (by rw [e2]; decide), if_neg (by rw [e3]; decide), if_neg (by rw [e4]; decide), if_neg (by rw [e5]; decide)])
              clear HE
              go_enter Tryd.func63, Tryd.ntmps63
              go_wp2_with fail
              go_ret2
              exact ⟨by rw [HN.out]; rfl, by trivial⟩
theorem Byts.drop {b off : Nat} {bs : List UInt8} {W : World} (h : Byts (some ⟨b, off, none⟩) bs W) (i : Nat) : Byts (some ⟨b, off + i, none⟩) (bs.drop i) W := fun k x hx => by
  rw [List.getElem?_drop] at hx
  obtain ⟨b', off', he, h2, c0⟩ := h (i + k) x hx
  cases he
  exact ⟨b, off + i, rfl, h2, by rw [Nat.add_assoc]; exact c0⟩
set_option maxRecDepth 100000 in
set_option maxHeartbeats 4000000 in
theorem piece_any (b off cap : Nat) (bs : List UInt8) (i : Nat) (w : World) (hb : Byts (some ⟨b, off, none⟩) bs w) (hi : i < bs.length) (hl : bs.length ≤ 1000000) (hc : bs.length ≤ cap) :
    Calls Tryd.prog 57 #[.slice (some ⟨b, off, none⟩) bs.length cap, .int .i64 i] w fun e w' => e = .returned (pairR (pieceF (bs.drop i))) ∧ w' = w := by
  obtain ⟨x, hx⟩ : ∃ x, bs[i]? = some x := ⟨_, List.getElem?_eq_getElem hi⟩
  obtain ⟨b', off', he, hb2, c1⟩ := hb i x hx
  cases he
  have HU0 := unescape_any b (off + i) (cap - i) (bs.drop i) w (hb.drop i) (by rw [List.length_drop]; omega) (by rw [List.length_drop]; omega)
  rw [List.length_drop] at HU0
  have HU := Lib.hid HU0
  have HE : Hid (pieceF (bs.drop i) = if (iv x == 39) = true then some (x, 2) else if (iv x == 92) = true then unescF (bs.drop i) else if ctrlB (iv x) = true then none else some (x, 1)) := Lib.hid (by rw [drop_at hx]; rfl)
  have HC : Hid (∀ W, Calls Tryd.prog 34 #[.int .i32 (iv x)] W fun e w' => e = .returned (.bool (ctrlB (iv x))) ∧ w' = W) := Lib.hid (isControl_any _)
  have hwr := wrapU x
  have q0 : (0 : Int) ≤ (i : Int) := by omega
  have q1 : (i : Int) < (bs.length : Int) := by omega
  have q2 : (i : Int) ≤ (bs.length : Int) := by omega
  clear HU0 hb hb2 hx
  generalize unescF (bs.drop i) = un at *
  cases e1 : (iv x == 39) with
  | true =>
    have HN : Hid (pieceF (bs.drop i) = some (x, 2)) := Lib.hid (by rw [HE.out, if_pos e1])
    clear HE
    go_enter Tryd.func57, Tryd.ntmps57
    go_wp2_with fail
    go_ret2
    exact ⟨by rw [HN.out]; rfl, by trivial⟩
  | false =>
    cases e2 : (iv x == 92) with
    | true =>
      have HN : Hid (pieceF (bs.drop i) = un) := Lib.hid (by rw [HE.out, if_neg (by rw [e1]; decide), if_pos e2])
      clear HE
      cases un with
      | none =>
        go_enter Tryd.func57, Tryd.ntmps57
        go_wp2_with fail
        refine HU.out.mono ?_
        rintro e w1 ⟨rfl, rfl⟩
        unfold pairR
        go_wp2_with fail
        go_ret2
        exact ⟨by rw [HN.out]; rfl, by trivial⟩
      | some p =>
        obtain ⟨c, k⟩ := p
        go_enter Tryd.func57, Tryd.ntmps57
        go_wp2_with fail
        refine HU.out.mono ?_
        rintro e w1 ⟨rfl, rfl⟩
        unfold pairR
        go_wp2_with fail
        go_ret2
        exact ⟨by rw [HN.out]; rfl, by trivial⟩
    | false =>
      cases e3 : ctrlB (iv x) with
      | true =>
        rw [e3] at HC
        have HN : Hid (pieceF (bs.drop i) = none) := Lib.hid (by rw [HE.out, if_neg (by rw [e1]; decide), if_neg (by rw [e2]; decide), if_pos e3])
        clear HE
        go_enter Tryd.func57, Tryd.ntmps57
        go_wp2_with fail
        refine (HC.out _).mono ?_
        rintro e w1 ⟨rfl, rfl⟩
        go_wp2_with fail
        go_ret2
        exact ⟨by rw [HN.out]; rfl, by trivial⟩
      | false =>
        rw [e3] at HC
        have HN : Hid (pieceF (bs.drop i) = some (x, 1)) := Lib.hid (by rw [HE.out, if_neg (by rw [e1]; decide), if_neg (by rw [e2]; decide), if_neg (by rw [e3]; decide)])
        clear HE
        go_enter Tryd.func57, Tryd.ntmps57
        go_wp2_with fail
        refine (HC.out _).mono ?_
        rintro e w1 ⟨rfl, rfl⟩
        go_wp2_with fail
        go_ret2
        exact ⟨by rw [HN.out]; rfl, by trivial⟩
end Go.Proofs.YtogccafnfpmgmaaDoor.toks
