/- Tokens: a byte by its hex digits; what stands behind a backslash. -/
import Derived.Test.YtogccafnfpmgmaaDoorTokF
namespace Go.Proofs.YtogccafnfpmgmaaDoor.toks
open Go.RowKit Go.Proofs.YtogccafnfpmgmaaDoor.own
theorem digits_no {y : UInt8} (h : (iv y == 92) = true) : hexB (iv y) = false := by
  have : iv y = 92 := by simpa using h
  rw [this]
  rfl
set_option maxRecDepth 100000 in
set_option maxHeartbeats 8000000 in
theorem unhex_any (b off cap : Nat) (r : List UInt8) (w : World) (hb : Byts (some ⟨b, off, none⟩) r w) (h2 : 2 ≤ r.length) (hl : r.length ≤ 1000000) (hc : r.length ≤ cap) :
    Calls Tryd.prog 70 #[.slice (some ⟨b, off, none⟩) r.length cap] w fun e w' => e = .returned (pairR (unhexF r)) ∧ w' = w := by
  have HR : Hid (Calls Tryd.prog 39 #[.slice (some ⟨b, off, none⟩) r.length cap, .int .i64 2, .func (.func 73) #[] #[]] w fun e w' => e = .returned (.int .i64 (2 + rowN hexB (r.drop 2) : Nat)) ∧ w' = w) := Lib.hid (row_any _ hexB isHex_any (fun _ _ => rfl) _ cap r 2 w hb h2 hl)
  have HB : Hid (∀ i x, (r.drop 2)[i]? = some x → w.cell? ⟨b, off + (2 + i), none⟩ = some (.int .u8 (iv x))) := Lib.hid (fun i x hx => by
    rw [List.getElem?_drop] at hx
    obtain ⟨b', off', he, _, c0⟩ := hb (2 + i) x hx
    cases he
    exact c0)
  have hd : (r.drop 2).length + 2 = r.length := by rw [List.length_drop]; omega
  have HF : Hid (unhexF r = match r.drop 2 with
  | x :: y :: t => if hexB (iv x) = false then none
    else if hexB (iv y) = false then (if (iv y == 92) = true then some (hexU (hexV (iv x)), 4) else none)
    else match t with
      | z :: _ => if (iv z == 92) = true then some (hexU (16 * hexV (iv x) + hexV (iv y)), 5) else none
      | [] => none
  | _ => none) := Lib.hid rfl
  clear hb
  generalize r.length = L at *
  generalize r.drop 2 = t at *
  match t with
  | [] =>
    have HN : Hid (unhexF r = none) := Lib.hid (by rw [HF.out])
    have hn : rowN hexB [] = 0 := by rfl
    rw [hn] at HR
    clear HF
    go_enter Tryd.func70, Tryd.ntmps70
    go_wp2_with fail
    refine HR.out.mono ?_
    rintro e w1 ⟨rfl, rfl⟩
    go_wp2_with fail
    go_ret2
    exact ⟨by rw [HN.out]; rfl, by trivial⟩
  | [x] =>
    cases hx : hexB (iv x) with
    | false =>
      have HN : Hid (unhexF r = none) := Lib.hid (by rw [HF.out])
      have hn : rowN hexB [x] = 0 := by simp [rowN, hx]
      rw [hn] at HR
      clear HF
      go_enter Tryd.func70, Tryd.ntmps70
      go_wp2_with fail
      refine HR.out.mono ?_
      rintro e w1 ⟨rfl, rfl⟩
      go_wp2_with fail
      go_ret2
      exact ⟨by rw [HN.out]; rfl, by trivial⟩
    | true =>
      have HN : Hid (unhexF r = none) := Lib.hid (by rw [HF.out])
      have hn : rowN hexB [x] = 1 := by simp [rowN, hx]
      rw [hn] at HR
      have hq : ((3 : Int) == (L : Int)) = true := by simp at hd; rw [beq_iff_eq]; omega
      clear HF
      go_enter Tryd.func70, Tryd.ntmps70
      go_wp2_with fail
      refine HR.out.mono ?_
      rintro e w1 ⟨rfl, rfl⟩
      go_wp2_with fail
      go_ret2
      exact ⟨by rw [HN.out]; rfl, by trivial⟩
  | x :: y :: t =>
    have hL : t.length + 4 = L := by simp only [List.length_cons] at hd; omega
    cases hx : hexB (iv x) with
    | false =>
      have HN : Hid (unhexF r = none) := Lib.hid (by rw [HF.out]; simp only [hx, if_true])
      have hn : rowN hexB (x :: y :: t) = 0 := by rw [rowN, if_neg (by rw [hx]; decide)]
      rw [hn] at HR
      clear HF
      go_enter Tryd.func70, Tryd.ntmps70
      go_wp2_with fail
      refine HR.out.mono ?_
      rintro e w1 ⟨rfl, rfl⟩
      go_wp2_with fail
      go_ret2
      exact ⟨by rw [HN.out]; rfl, by trivial⟩
    | true =>
      obtain ⟨v1, v2, _, _⟩ := hexV_le hx
      have c2 := HB.out 0 x rfl
      have c3 := HB.out 1 y rfl
      have HV : Hid (∀ W, Calls Tryd.prog 74 #[.int .u8 (iv x)] W fun e w' => e = .returned (.int .u8 (hexV (iv x))) ∧ w' = W) := Lib.hid (hexValue_any _ hx)
      cases hy : hexB (iv y) with
      | false =>
        have hn : rowN hexB (x :: y :: t) = 1 := by rw [rowN, if_pos hx, rowN, if_neg (by rw [hy]; decide)]
        rw [hn] at HR
        have hq : ((3 : Int) == (L : Int)) = false := by rw [beq_eq_false_iff_ne]; omega
        have p0 : (3 : Int) < (L : Int) := by omega
        have p1 : 3 ≤ cap := by omega
        cases h92 : (iv y == 92) with
        | false =>
          have HN : Hid (unhexF r = none) := Lib.hid (by rw [HF.out]; simp [hx, hy, h92])
          clear HF
          go_enter Tryd.func70, Tryd.ntmps70
          go_wp2_with fail
          refine HR.out.mono ?_
          rintro e w1 ⟨rfl, rfl⟩
          go_wp2_with fail
          go_ret2
          exact ⟨by rw [HN.out]; rfl, by trivial⟩
        | true =>
          have HN : Hid (unhexF r = some (hexU (hexV (iv x)), 4)) := Lib.hid (by rw [HF.out]; simp [hx, hy, h92])
          have HU : Hid (iv (hexU (hexV (iv x))) = hexV (iv x)) := Lib.hid (iv_hexU v1 (by omega))
          have p2 : (3 : Int) ≤ (L : Int) := by omega
          have hw1 : IntKind.u8.wrap (hexV (iv x)) = hexV (iv x) := by simp [IntKind.wrap, IntKind.bits, IntKind.signed]; omega
          clear HF
          generalize hexV (iv x) = v at *
          go_enter Tryd.func70, Tryd.ntmps70
          go_wp2_with fail
          refine HR.out.mono ?_
          rintro e w1 ⟨rfl, rfl⟩
          go_wp2_with fail
          refine wp_loop_rounds 3 ?_
          rw [rounds_succ]
          go_wp2_with fail
          refine (HV.out _).mono ?_
          rintro e w1 ⟨rfl, rfl⟩
          go_wp2_with fail
          rw [rounds_succ]
          go_wp2_with fail
          go_ret2
          exact ⟨by rw [HN.out]; show _ = Ending.returned (.tuple #[.int .u8 (iv (hexU v)), .int .i64 4]); rw [HU.out]; rfl, by trivial⟩
      | true =>
        obtain ⟨u1, u2, _, _⟩ := hexV_le hy
        have HV2 : Hid (∀ W, Calls Tryd.prog 74 #[.int .u8 (iv y)] W fun e w' => e = .returned (.int .u8 (hexV (iv y))) ∧ w' = W) := Lib.hid (hexValue_any _ hy)
        match t with
        | [] =>
          have HN : Hid (unhexF r = none) := Lib.hid (by rw [HF.out]; simp [hx, hy])
          have hn : rowN hexB [x, y] = 2 := by rw [rowN, if_pos hx, rowN, if_pos hy]; rfl
          rw [hn] at HR
          have hq : ((4 : Int) == (L : Int)) = true := by simp at hL; rw [beq_iff_eq]; omega
          clear HF
          go_enter Tryd.func70, Tryd.ntmps70
          go_wp2_with fail
          refine HR.out.mono ?_
          rintro e w1 ⟨rfl, rfl⟩
          go_wp2_with fail
          go_ret2
          exact ⟨by rw [HN.out]; rfl, by trivial⟩
        | z :: t =>
          have c4 := HB.out 2 z rfl
          have hL2 : 5 ≤ L := by simp only [List.length_cons] at hL; omega
          cases hz : hexB (iv z) with
          | true =>
            have h92 : (iv z == 92) = false := by
              cases h : (iv z == 92) with
              | false => rfl
              | true => rw [digits_no h] at hz; cases hz
            have HN : Hid (unhexF r = none) := Lib.hid (by rw [HF.out]; simp [hx, hy, h92])
            obtain ⟨q, hn⟩ : ∃ q, rowN hexB (x :: y :: z :: t) = q + 3 := ⟨rowN hexB t, by rw [rowN, if_pos hx, rowN, if_pos hy, rowN, if_pos hz]⟩
            rw [hn] at HR
            have p0 : ¬ (2 : Int) + ((q + 3 : Nat) : Int) < 3 := by omega
            have p1 : (4 : Int) < 2 + ((q + 3 : Nat) : Int) := by omega
            obtain ⟨j, hj⟩ : ∃ j : Nat, 2 + (q + 3) = j := ⟨_, rfl⟩
            rw [hj] at HR
            have p2 : ¬ (j : Int) < 3 := by omega
            have p3 : (4 : Int) < (j : Int) := by omega
            clear HF p0 p1
            go_enter Tryd.func70, Tryd.ntmps70
            go_wp2_with fail
            refine HR.out.mono ?_
            rintro e w1 ⟨rfl, rfl⟩
            go_wp2_with fail
            go_ret2
            exact ⟨by rw [HN.out]; rfl, by trivial⟩
          | false =>
            have hn : rowN hexB (x :: y :: z :: t) = 2 := by rw [rowN, if_pos hx, rowN, if_pos hy, rowN, if_neg (by rw [hz]; decide)]
            rw [hn] at HR
            have hq : ((4 : Int) == (L : Int)) = false := by rw [beq_eq_false_iff_ne]; omega
            have p0 : (4 : Int) < (L : Int) := by omega
            have p1 : 4 ≤ cap := by omega
            cases h92 : (iv z == 92) with
            | false =>
              have HN : Hid (unhexF r = none) := Lib.hid (by rw [HF.out]; simp [hx, hy, h92])
              clear HF
              go_enter Tryd.func70, Tryd.ntmps70
              go_wp2_with fail
              refine HR.out.mono ?_
              rintro e w1 ⟨rfl, rfl⟩
              go_wp2_with fail
              go_ret2
              exact ⟨by rw [HN.out]; rfl, by trivial⟩
            | true =>
              have HN : Hid (unhexF r = some (hexU (16 * hexV (iv x) + hexV (iv y)), 5)) := Lib.hid (by rw [HF.out]; simp [hx, hy, h92])
              have HU : Hid (iv (hexU (16 * hexV (iv x) + hexV (iv y))) = 16 * hexV (iv x) + hexV (iv y)) := Lib.hid (iv_hexU (by omega) (by omega))
              have p2 : (4 : Int) ≤ (L : Int) := by omega
              have hw1 : IntKind.u8.wrap (hexV (iv x)) = hexV (iv x) := by simp [IntKind.wrap, IntKind.bits, IntKind.signed]; omega
              have hw2 : IntKind.u8.wrap (16 * hexV (iv x)) = 16 * hexV (iv x) := by simp [IntKind.wrap, IntKind.bits, IntKind.signed]; omega
              have hw3 : IntKind.u8.wrap (16 * hexV (iv x) + hexV (iv y)) = 16 * hexV (iv x) + hexV (iv y) := by simp [IntKind.wrap, IntKind.bits, IntKind.signed]; omega
              clear HF
              generalize hexV (iv x) = v at *
              generalize hexV (iv y) = u at *
              go_enter Tryd.func70, Tryd.ntmps70
              go_wp2_with fail
              refine HR.out.mono ?_
              rintro e w1 ⟨rfl, rfl⟩
              go_wp2_with fail
              refine wp_loop_rounds 4 ?_
              rw [rounds_succ]
              go_wp2_with fail
              refine (HV.out _).mono ?_
              rintro e w1 ⟨rfl, rfl⟩
              go_wp2_with fail
              rw [rounds_succ]
              go_wp2_with fail
              refine (HV2.out _).mono ?_
              rintro e w1 ⟨rfl, rfl⟩
              go_wp2_with fail
              rw [rounds_succ]
              go_wp2_with fail
              go_ret2
              exact ⟨by rw [HN.out]; show _ = Ending.returned (.tuple #[.int .u8 (iv (hexU (16 * v + u))), .int .i64 5]); rw [HU.out]; rfl, by trivial⟩
end Go.Proofs.YtogccafnfpmgmaaDoor.toks
