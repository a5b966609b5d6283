/- Tokens: the reference reads what stands behind a backslash. -/
import Derived.Test.YtogccafnfpmgmaaDoorTokX
namespace Go.Proofs.YtogccafnfpmgmaaDoor.toks
open Go.RowKit Go.Proofs.YtogccafnfpmgmaaDoor.own
def unhexT : List UInt8 → Option (UInt8 × Nat)
  | x :: y :: t => if hexB (iv x) = false then none
    else if hexB (iv y) = false then (if (iv y == 92) = true then some (hexU (hexV (iv x)), 3) else none)
    else match t with
      | z :: _ => if (iv z == 92) = true then some (hexU (16 * hexV (iv x) + hexV (iv y)), 4) else none
      | [] => none
  | _ => none
/-- What stands behind a backslash: the byte, and how many bytes. -/
def escT : List UInt8 → Option (UInt8 × Nat)
  | y :: t => if (iv y == 92) = true then some (y, 1) else if (iv y == 39) = true then some (y, 1) else if (iv y == 110) = true then some (10, 1) else if (iv y == 116) = true then some (9, 1) else if (iv y == 120) = true then unhexT t else none
  | [] => none
theorem unhex_T (a y : UInt8) (t : List UInt8) : unhexF (a :: y :: t) = (unhexT t).map (fun q => (q.1, q.2 + 1)) := by
  unfold unhexF unhexT
  rw [List.drop_succ_cons, List.drop_succ_cons, List.drop_zero]
  match t with
  | [] => rfl
  | [x] => rfl
  | x :: y :: t =>
    show (if hexB (iv x) = false then none else _) = Option.map _ (if hexB (iv x) = false then none else _)
    by_cases h1 : hexB (iv x) = false
    · rw [if_pos h1, if_pos h1]; rfl
    · rw [if_neg h1, if_neg h1]
      by_cases h2 : hexB (iv y) = false
      · rw [if_pos h2, if_pos h2]
        by_cases h3 : (iv y == 92) = true
        · rw [if_pos h3, if_pos h3]; rfl
        · rw [if_neg h3, if_neg h3]; rfl
      · rw [if_neg h2, if_neg h2]
        match t with
        | [] => rfl
        | z :: _ =>
          show (if (iv z == 92) = true then _ else _) = Option.map _ (if (iv z == 92) = true then _ else _)
          by_cases h3 : (iv z == 92) = true
          · rw [if_pos h3, if_pos h3]; rfl
          · rw [if_neg h3, if_neg h3]; rfl
theorem unesc_T (a : UInt8) (r : List UInt8) : unescF (a :: r) = (escT r).map (fun q => (q.1, q.2 + 1)) := by
  cases r with
  | nil => rfl
  | cons y t =>
    rw [unescF, escT]
    by_cases h1 : (iv y == 92) = true
    · rw [if_pos h1, if_pos h1]; rfl
    · rw [if_neg h1, if_neg h1]
      by_cases h2 : (iv y == 39) = true
      · rw [if_pos h2, if_pos h2]; rfl
      · rw [if_neg h2, if_neg h2]
        by_cases h3 : (iv y == 110) = true
        · rw [if_pos h3, if_pos h3]; rfl
        · rw [if_neg h3, if_neg h3]
          by_cases h4 : (iv y == 116) = true
          · rw [if_pos h4, if_pos h4]; rfl
          · rw [if_neg h4, if_neg h4]
            by_cases h5 : (iv y == 120) = true
            · rw [if_pos h5, if_pos h5]; exact unhex_T a y t
            · rw [if_neg h5, if_neg h5]; rfl
def escV (p : Nat) : Option (UInt8 × Nat) → Value
  | some (c, k) => .tuple #[.int .u8 (iv c), .int .i64 (p + k : Nat), .bool true]
  | none => .tuple #[.int .u8 0, .int .i64 0, .bool false]
theorem hexR_yes {c : Int} (h : hexB c = true) : hexR c = hexV c := by unfold hexR; rw [if_pos h]
theorem hexR_no {c : Int} (h : hexB c = false) : hexR c = -1 := by unfold hexR; rw [if_neg (by rw [h]; decide)]
theorem drop_one {bs : List UInt8} {i : Nat} (h : ¬ i + 1 < bs.length) (hi : i < bs.length) : ∃ x, bs.drop i = [x] := by
  obtain ⟨x, hx⟩ : ∃ x, bs[i]? = some x := ⟨_, List.getElem?_eq_getElem hi⟩
  exact ⟨x, by rw [drop_at hx, drop_end h]⟩
set_option maxRecDepth 100000 in
set_option maxHeartbeats 8000000 in
theorem rescape_any (b off cap : Nat) (bs : List UInt8) (p : Nat) (w : World) (hb : Byts (some ⟨b, off, none⟩) bs w) (hl : bs.length ≤ 1000000) (hp : p ≤ bs.length) :
    Calls Tryd.prog 58 #[.slice (some ⟨b, off, none⟩) bs.length cap, .int .i64 p] w fun e w' => e = .returned (escV p (escT (bs.drop p))) ∧ w' = w := by
  have HB := Lib.hid hb
  have p0 : (0 : Int) ≤ (p : Int) := by omega
  clear hb
  by_cases hlt : p < bs.length
  · obtain ⟨y, hy⟩ : ∃ y, bs[p]? = some y := ⟨_, List.getElem?_eq_getElem hlt⟩
    obtain ⟨b', off', he, _, c0⟩ := HB.out p y hy
    cases he
    have p1 : (p : Int) < (bs.length : Int) := by omega
    have HE : Hid (escT (bs.drop p) = if (iv y == 92) = true then some (y, 1) else if (iv y == 39) = true then some (y, 1) else if (iv y == 110) = true then some (10, 1) else if (iv y == 116) = true then some (9, 1) else if (iv y == 120) = true then unhexT (bs.drop (p + 1)) else none) := Lib.hid (by rw [drop_at hy]; rfl)
    clear hy
    cases e92 : (iv y == 92) with
    | true =>
      have HN : Hid (escT (bs.drop p) = some (y, 1)) := Lib.hid (by rw [HE.out, if_pos e92])
      clear HE
      go_enter Tryd.func58, Tryd.ntmps58
      go_wp2_with fail
      go_ret3
      exact ⟨by rw [HN.out]; rfl, rfl⟩
    | false =>
      cases e39 : (iv y == 39) with
      | true =>
        have HN : Hid (escT (bs.drop p) = some (y, 1)) := Lib.hid (by rw [HE.out, if_neg (by rw [e92]; decide), if_pos e39])
        clear HE
        go_enter Tryd.func58, Tryd.ntmps58
        go_wp2_with fail
        go_ret3
        exact ⟨by rw [HN.out]; rfl, rfl⟩
      | false =>
        cases e110 : (iv y == 110) with
        | true =>
          have HN : Hid (escT (bs.drop p) = some (10, 1)) := Lib.hid (by rw [HE.out, if_neg (by rw [e92]; decide), if_neg (by rw [e39]; decide), if_pos e110])
          clear HE
          go_enter Tryd.func58, Tryd.ntmps58
          go_wp2_with fail
          go_ret3
          exact ⟨by rw [HN.out]; rfl, rfl⟩
        | false =>
          cases e116 : (iv y == 116) with
          | true =>
            have HN : Hid (escT (bs.drop p) = some (9, 1)) := Lib.hid (by rw [HE.out, if_neg (by rw [e92]; decide), if_neg (by rw [e39]; decide), if_neg (by rw [e110]; decide), if_pos e116])
            clear HE
            go_enter Tryd.func58, Tryd.ntmps58
            go_wp2_with fail
            go_ret3
            exact ⟨by rw [HN.out]; rfl, rfl⟩
          | false =>
            cases e120 : (iv y == 120) with
            | false =>
              have HN : Hid (escT (bs.drop p) = none) := Lib.hid (by rw [HE.out, if_neg (by rw [e92]; decide), if_neg (by rw [e39]; decide), if_neg (by rw [e110]; decide), if_neg (by rw [e116]; decide), if_neg (by rw [e120]; decide)])
              clear HE
              go_enter Tryd.func58, Tryd.ntmps58
              go_wp2_with fail
              go_ret3
              exact ⟨by rw [HN.out]; rfl, rfl⟩
            | true =>
              have HN : Hid (escT (bs.drop p) = unhexT (bs.drop (p + 1))) := Lib.hid (by rw [HE.out, if_neg (by rw [e92]; decide), if_neg (by rw [e39]; decide), if_neg (by rw [e110]; decide), if_neg (by rw [e116]; decide), if_pos e120])
              clear HE
              by_cases hq1 : p + 1 < bs.length
              · obtain ⟨x, hx⟩ : ∃ x, bs[p + 1]? = some x := ⟨_, List.getElem?_eq_getElem hq1⟩
                obtain ⟨b', off', he, _, c1⟩ := HB.out (p + 1) x hx
                cases he
                have q0 : (0 : Int) ≤ (p : Int) + 1 := by omega
                have q1 : (p : Int) + 1 < (bs.length : Int) := by omega
                have q2 : ((p : Int) + 1).toNat = p + 1 := by omega
                have HX := Lib.hid hx
                have HH := Lib.hid (rhex_any x w)
                clear hx
                cases hhx : hexB (iv x) with
                | false =>
                  rw [hexR_no hhx] at HH
                  have HN2 : Hid (escT (bs.drop p) = none) := Lib.hid (by
                    rw [HN.out, drop_at HX.out]
                    cases bs.drop (p + 1 + 1) with
                    | nil => rfl
                    | cons y t => show (if hexB (iv x) = false then none else _) = none; rw [if_pos hhx])
                  clear HN HX hhx
                  go_enter Tryd.func58, Tryd.ntmps58
                  go_wp2_with fail
                  refine wp_loop_rounds 3 ?_
                  rw [rounds_succ]
                  go_wp2_with fail
                  refine HH.out.mono ?_
                  rintro e w1 ⟨rfl, rfl⟩
                  go_wp2_with fail
                  go_ret3
                  exact ⟨by rw [HN2.out]; rfl, rfl⟩
                | true =>
                  rw [hexR_yes hhx] at HH
                  obtain ⟨v0, v1, _, _⟩ := hexV_le hhx
                  by_cases hr1 : p + 1 + 1 < bs.length
                  · obtain ⟨y2, hy2⟩ : ∃ x, bs[p + 1 + 1]? = some x := ⟨_, List.getElem?_eq_getElem hr1⟩
                    obtain ⟨b', off', he, _, c2⟩ := HB.out (p + 1 + 1) y2 hy2
                    cases he
                    have r0 : (0 : Int) ≤ (p : Int) + 1 + 1 := by omega
                    have r1 : (p : Int) + 1 + 1 < (bs.length : Int) := by omega
                    have r2 : ((p : Int) + 1 + 1).toNat = p + 1 + 1 := by omega
                    have HY := Lib.hid hy2
                    have HH2 := Lib.hid (rhex_any y2 w)
                    have HU1 : Hid (unhexT (bs.drop (p + 1)) = if hexB (iv x) = false then none else if hexB (iv y2) = false then (if (iv y2 == 92) = true then some (hexU (hexV (iv x)), 3) else none) else match bs.drop (p + 1 + 1 + 1) with | z :: _ => if (iv z == 92) = true then some (hexU (16 * hexV (iv x) + hexV (iv y2)), 4) else none | [] => none) := Lib.hid (by rw [drop_at HX.out, drop_at HY.out]; rfl)
                    clear hy2
                    cases hhy : hexB (iv y2) with
                    | false =>
                      rw [hexR_no hhy] at HH2
                      cases f92 : (iv y2 == 92) with
                      | true =>
                        have HN2 : Hid (escT (bs.drop p) = some (hexU (hexV (iv x)), 3)) := Lib.hid (by rw [HN.out, HU1.out, if_neg (by rw [hhx]; decide), if_pos hhy, if_pos f92])
                        have HI := Lib.hid (iv_hexU v0 (show hexV (iv x) < 256 by omega))
                        clear HN HX HY HU1 hhx hhy
                        generalize hexV (iv x) = vx at *
                        have g1 : wrap64 vx = vx := by unfold wrap64; omega
                        have g2 : IntKind.u8.wrap vx = vx := by simp [IntKind.wrap, IntKind.bits, IntKind.signed]; omega
                        go_enter Tryd.func58, Tryd.ntmps58
                        go_wp2_with fail
                        refine wp_loop_rounds 3 ?_
                        rw [rounds_succ]
                        go_wp2_with fail
                        refine HH.out.mono ?_
                        rintro e w1 ⟨rfl, rfl⟩
                        go_wp2_with fail
                        refine HH.out.mono ?_
                        rintro e w1 ⟨rfl, rfl⟩
                        go_wp2_with fail
                        rw [rounds_succ]
                        go_wp2_with fail
                        refine HH2.out.mono ?_
                        rintro e w1 ⟨rfl, rfl⟩
                        go_wp2_with fail
                        go_ret3
                        exact ⟨by rw [HN2.out]; show _ = Ending.returned (.tuple #[.int .u8 (iv (hexU vx)), .int .i64 ((p + 3 : Nat) : Int), .bool true]); rw [HI.out]; rfl, rfl⟩
                      | false =>
                        have HN2 : Hid (escT (bs.drop p) = none) := Lib.hid (by rw [HN.out, HU1.out, if_neg (by rw [hhx]; decide), if_pos hhy, if_neg (by rw [f92]; decide)])
                        clear HN HX HY HU1 hhx hhy
                        generalize hexV (iv x) = vx at *
                        have g1 : wrap64 vx = vx := by unfold wrap64; omega
                        go_enter Tryd.func58, Tryd.ntmps58
                        go_wp2_with fail
                        refine wp_loop_rounds 3 ?_
                        rw [rounds_succ]
                        go_wp2_with fail
                        refine HH.out.mono ?_
                        rintro e w1 ⟨rfl, rfl⟩
                        go_wp2_with fail
                        refine HH.out.mono ?_
                        rintro e w1 ⟨rfl, rfl⟩
                        go_wp2_with fail
                        rw [rounds_succ]
                        go_wp2_with fail
                        refine HH2.out.mono ?_
                        rintro e w1 ⟨rfl, rfl⟩
                        go_wp2_with fail
                        go_ret3
                        exact ⟨by rw [HN2.out]; rfl, rfl⟩
                    | true =>
                      rw [hexR_yes hhy] at HH2
                      obtain ⟨z0, z1, _, _⟩ := hexV_le hhy
                      have HU2 : Hid (escT (bs.drop p) = match bs.drop (p + 1 + 1 + 1) with | z :: _ => if (iv z == 92) = true then some (hexU (16 * hexV (iv x) + hexV (iv y2)), 4) else none | [] => none) := Lib.hid (by rw [HN.out, HU1.out, if_neg (by rw [hhx]; decide), if_neg (by rw [hhy]; decide)])
                      clear HN HX HY HU1 hhx hhy
                      have HI := Lib.hid (iv_hexU (show 0 ≤ 16 * hexV (iv x) + hexV (iv y2) by omega) (show 16 * hexV (iv x) + hexV (iv y2) < 256 by omega))
                      generalize hexV (iv x) = vx at *
                      generalize hexV (iv y2) = vy at *
                      have g1 : wrap64 vx = vx := by unfold wrap64; omega
                      have g2 : wrap64 (16 * vx) = 16 * vx := by unfold wrap64; omega
                      have g3 : wrap64 (16 * vx + vy) = 16 * vx + vy := by unfold wrap64; omega
                      have g4 : IntKind.u8.wrap (16 * vx + vy) = 16 * vx + vy := by simp [IntKind.wrap, IntKind.bits, IntKind.signed]; omega
                      by_cases hs1 : p + 1 + 1 + 1 < bs.length
                      · obtain ⟨z, hz⟩ : ∃ x, bs[p + 1 + 1 + 1]? = some x := ⟨_, List.getElem?_eq_getElem hs1⟩
                        obtain ⟨b', off', he, _, c3⟩ := HB.out (p + 1 + 1 + 1) z hz
                        cases he
                        have s0 : (0 : Int) ≤ (p : Int) + 1 + 2 := by omega
                        have s1 : (p : Int) + 1 + 2 < (bs.length : Int) := by omega
                        have s2 : ((p : Int) + 1 + 2).toNat = p + 1 + 1 + 1 := by omega
                        have HU3 : Hid (escT (bs.drop p) = if (iv z == 92) = true then some (hexU (16 * vx + vy), 4) else none) := Lib.hid (by rw [HU2.out, drop_at hz])
                        clear hz HU2
                        cases f92 : (iv z == 92) with
                        | true =>
                          have HN2 : Hid (escT (bs.drop p) = some (hexU (16 * vx + vy), 4)) := Lib.hid (by rw [HU3.out, if_pos f92])
                          clear HU3
                          go_enter Tryd.func58, Tryd.ntmps58
                          go_wp2_with fail
                          refine wp_loop_rounds 4 ?_
                          rw [rounds_succ]
                          go_wp2_with fail
                          refine HH.out.mono ?_
                          rintro e w1 ⟨rfl, rfl⟩
                          go_wp2_with fail
                          refine HH.out.mono ?_
                          rintro e w1 ⟨rfl, rfl⟩
                          go_wp2_with fail
                          rw [rounds_succ]
                          go_wp2_with fail
                          refine HH2.out.mono ?_
                          rintro e w1 ⟨rfl, rfl⟩
                          go_wp2_with fail
                          refine HH2.out.mono ?_
                          rintro e w1 ⟨rfl, rfl⟩
                          go_wp2_with fail
                          rw [rounds_succ]
                          go_wp2_with fail
                          go_ret3
                          exact ⟨by rw [HN2.out]; show _ = Ending.returned (.tuple #[.int .u8 (iv (hexU (16 * vx + vy))), .int .i64 ((p + 4 : Nat) : Int), .bool true]); rw [HI.out]; rfl, rfl⟩
                        | false =>
                          have HN2 : Hid (escT (bs.drop p) = none) := Lib.hid (by rw [HU3.out, if_neg (by rw [f92]; decide)])
                          clear HU3
                          go_enter Tryd.func58, Tryd.ntmps58
                          go_wp2_with fail
                          refine wp_loop_rounds 4 ?_
                          rw [rounds_succ]
                          go_wp2_with fail
                          refine HH.out.mono ?_
                          rintro e w1 ⟨rfl, rfl⟩
                          go_wp2_with fail
                          refine HH.out.mono ?_
                          rintro e w1 ⟨rfl, rfl⟩
                          go_wp2_with fail
                          rw [rounds_succ]
                          go_wp2_with fail
                          refine HH2.out.mono ?_
                          rintro e w1 ⟨rfl, rfl⟩
                          go_wp2_with fail
                          refine HH2.out.mono ?_
                          rintro e w1 ⟨rfl, rfl⟩
                          go_wp2_with fail
                          rw [rounds_succ]
                          go_wp2_with fail
                          go_ret3
                          exact ⟨by rw [HN2.out]; rfl, rfl⟩
                      · have HN2 : Hid (escT (bs.drop p) = none) := Lib.hid (by rw [HU2.out, drop_end hs1])
                        have s1 : ¬ ((p : Int) + 1 + 2 < (bs.length : Int)) := by omega
                        clear HU2
                        go_enter Tryd.func58, Tryd.ntmps58
                        go_wp2_with fail
                        refine wp_loop_rounds 4 ?_
                        rw [rounds_succ]
                        go_wp2_with fail
                        refine HH.out.mono ?_
                        rintro e w1 ⟨rfl, rfl⟩
                        go_wp2_with fail
                        refine HH.out.mono ?_
                        rintro e w1 ⟨rfl, rfl⟩
                        go_wp2_with fail
                        rw [rounds_succ]
                        go_wp2_with fail
                        refine HH2.out.mono ?_
                        rintro e w1 ⟨rfl, rfl⟩
                        go_wp2_with fail
                        refine HH2.out.mono ?_
                        rintro e w1 ⟨rfl, rfl⟩
                        go_wp2_with fail
                        rw [rounds_succ]
                        go_wp2_with fail
                        go_ret3
                        exact ⟨by rw [HN2.out]; rfl, rfl⟩
                  · have hr1' := hr1
                    have HN2 : Hid (escT (bs.drop p) = none) := Lib.hid (by rw [HN.out, drop_at HX.out, drop_end hr1']; rfl)
                    have r1 : ¬ ((p : Int) + 1 + 1 < (bs.length : Int)) := by omega
                    clear HN HX hhx hr1'
                    generalize hexV (iv x) = vx at *
                    have g1 : wrap64 vx = vx := by unfold wrap64; omega
                    go_enter Tryd.func58, Tryd.ntmps58
                    go_wp2_with fail
                    refine wp_loop_rounds 3 ?_
                    rw [rounds_succ]
                    go_wp2_with fail
                    refine HH.out.mono ?_
                    rintro e w1 ⟨rfl, rfl⟩
                    go_wp2_with fail
                    refine HH.out.mono ?_
                    rintro e w1 ⟨rfl, rfl⟩
                    go_wp2_with fail
                    rw [rounds_succ]
                    go_wp2_with fail
                    go_ret3
                    exact ⟨by rw [HN2.out]; rfl, rfl⟩
              · have HN2 : Hid (escT (bs.drop p) = none) := Lib.hid (by rw [HN.out, drop_end hq1]; rfl)
                have q1 : ¬ ((p : Int) + 1 < (bs.length : Int)) := by omega
                clear HN
                go_enter Tryd.func58, Tryd.ntmps58
                go_wp2_with fail
                refine wp_loop_rounds 2 ?_
                rw [rounds_succ]
                go_wp2_with fail
                go_ret3
                exact ⟨by rw [HN2.out]; rfl, rfl⟩
  · obtain rfl : p = bs.length := by omega
    have HN : Hid (escT (bs.drop bs.length) = none) := Lib.hid (by rw [drop_end hlt]; rfl)
    go_enter Tryd.func58, Tryd.ntmps58
    go_wp2_with fail
    go_ret3
    exact ⟨by rw [HN.out]; rfl, rfl⟩
end Go.Proofs.YtogccafnfpmgmaaDoor.toks
