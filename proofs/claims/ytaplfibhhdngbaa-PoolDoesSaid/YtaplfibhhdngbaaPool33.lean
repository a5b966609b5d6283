/- The law PoolCounts, walked. -/
import Derived.Test.YtaplfibhhdngbaaPool32
namespace Go.Proofs.Ytaplfibhhdngbaa.pools
open Go.RowKit Go.Proofs.Ytaplfibhhdngbaa.own Go.Proofs.Ytaplfibhhdngbaa.trees Go.Proofs.Ytaplfibhhdngbaa.rows Go.Proofs.Ytaplfibhhdngbaa.frames
variable {S : Nat → Prop} {b lim : Nat} {F F' : List Bool} {Ss Ss' : List Nat} {w0 w w' : World}
/-- How many cells can still be had. -/
def leftOf (F : List Bool) (lim : Nat) : Int := (count F : Int) + lim - F.length
theorem Pool.leftB {B : Nat} (h : Pool S B b lim F Ss w) : 0 ≤ leftOf F lim ∧ leftOf F lim ≤ 2097152 := by
  have := h.facts.limit
  have := count_le F
  unfold leftOf
  omega
theorem st_left (h : St S b lim F Ss w0 w) : Calls Try.prog 22 #[.pointer (some ⟨b, 0, none⟩)] w fun e w' => e = .returned (.int .i64 (leftOf F lim)) ∧ St S b lim F Ss w0 w' := by
  refine (left_p h.pool).mono ?_
  rintro e w' ⟨rfl, n, rfl⟩
  exact ⟨rfl, h.still (Only.drewN _ _ _)⟩
/-- What was told of a pool that stands is still there. -/
theorem RowOf.past {α : Type} {enc : α → List Value} {s E B cap : Nat} {ro : Option Addr} {xs : List α} {wA w : World} (h : RowOf enc s E wA.heap.size ro cap xs w) (hp : Pool S B b lim F Ss wA) (ho : Only S w w') : RowOf enc s E wA.heap.size ro cap xs w' :=
  h.only ho (fun g hg e => by
    have h1 := (h.head g hg).2.1
    have h2 := (hp.own _ e).2
    omega)
theorem closeF_open (h : 0 < Ss.length) (x : Nat) : closeF (Ss ++ [x]) = (0, Ss) := by
  unfold closeF
  rw [if_neg (by simp; intro e; rw [e] at h; simp at h)]
  simp
theorem openF_few (h : Ss.length < 4096) : openF F Ss = (0, Ss ++ [F.length]) := by
  unfold openF
  rw [if_pos h]
set_option maxRecDepth 100000 in
set_option maxHeartbeats 4000000 in
theorem law_counts (ao : Option Addr) (cp : Nat) (os : List OpP) (w : World) (hos : ArgOps w ao os) (hol : os.length ≤ maxLen) : Calls Try.prog 6 #[.slice ao os.length cp] w fun e w' => e = .returned (.bool true) ∧ Below w.heap.size w w' := by
  have HA := Lib.hid hos
  unfold maxLen at hol
  clear hos
  go_enter Try.func6, Try.ntmps6
  go_wp2_with fail
  refine (new_ok 300 (by omega) _).mono ?_
  rintro e w1 ⟨rfl, t⟩
  have T1 := Lib.hid (St.new t)
  clear t
  generalize w.heap.size + 1 = b at *
  generalize (fun j => w.heap.size ≤ j ∧ j < w1.heap.size) = S at *
  go_wp2_with fail
  refine (lives_any _).mono ?_
  rintro e w2 ⟨rfl, bd⟩
  have T2 := Lib.hid (T1.out.still (Only.of_below bd _))
  clear bd T1
  go_wp2_with fail
  go_loopw [5] (fun i wr => ∃ (k : Nat) (S : Nat → Prop) (F : List Bool) (Ss : List Nat), i = .int .i64 k ∧ k ≤ os.length ∧ Ss.length ≤ k + 1 ∧ Hid (St S b 300 F Ss w wr)) (fun i _ => os.length - (intOf i).toNat)
  case atStart => exact ⟨0, S, [], [0], rfl, by omega, by simp, T2⟩
  case round =>
    obtain ⟨k, S, F, Ss, rfl, hk, hsk, HI⟩ := hrel
    by_cases hlt : k < os.length
    · obtain ⟨b', off, ⟨ok, oa, on⟩, ho, hao, hfk, hfa, hfn, hcell⟩ := HA.out.cell k hlt
      subst hao
      simp only at hfk hfa hfn hcell
      unfold Fits at hfk hfa hfn
      have HCL := Lib.hid hcell
      have hkl : (k : Int) < (os.length : Int) := by omega
      clear ho hcell
      by_cases h60 : k < 50
      · go_wp2_with fail
        refine (st_left HI.out).mono ?_
        rintro e w3 ⟨rfl, t3⟩
        have T3 := Lib.hid t3
        have hLb := t3.pool.leftB
        have hlim := t3.pool.facts.limit
        have hone := t3.pool.facts.one
        obtain ⟨c0, c1, c2⟩ := HCL.out _ t3.below
        obtain ⟨L, hL⟩ : ∃ L, L = leftOf F 300 := ⟨_, rfl⟩
        rw [← hL] at hLb ⊢
        have HL := Lib.hid hL
        clear t3 hL HI
        by_cases ho1 : ok = 1
        · subst ho1
          go_wp2_with fail
          refine (st_take on T3.out hfn.2).mono ?_
          rintro e w5 ⟨rfl, t, ho⟩
          have TT := Lib.hid t
          have htold := take_told T3.out.pool.facts on
          clear ho t c0 c1 c2
          rcases htold with ⟨hne, hsame⟩ | ⟨h0, a, m, hT⟩
          · have OK := TT.out
            rw [hsame] at OK
            have OK := Lib.hid OK
            clear TT hsame
            generalize (takeF 300 F Ss on).2.1 = e1 at *
            generalize (takeF 300 F Ss on).1 = e0 at *
            have hne' : (e1 == 0) = false := by simpa using hne
            go_wp2_with fail
            refine (st_left OK.out).mono ?_
            rintro e w6 ⟨rfl, t6⟩
            have T6 := Lib.hid t6
            rw [← HL.out]
            clear t6 OK
            go_wp2_with fail
            go_roundw
            case rel => exact ⟨k + 1, _, F, Ss, by go_num, by omega, by omega, T6⟩
            case measure => simp [intOf]; omega
          · rw [hT.at_, h0]
            obtain ⟨F', hF'⟩ : ∃ F', (takeF 300 F Ss on).2.2 = F' := ⟨_, rfl⟩
            rw [hF'] at TT
            have hm := hT.n
            have hcnt := hT.count
            have hln := hT.len
            have hfit := hT.fit
            rw [hF'] at hcnt hln
            clear hT hF' h0
            subst hm
            obtain ⟨c0, c1, c2⟩ := HCL.out _ TT.out.below
            have hcl := count_le F
            have hcl' := count_le F'
            have hL' : leftOf F' 300 = L - (m : Int) := by
              rw [HL.out]
              unfold leftOf
              omega
            clear hcnt hcl hcl'
            go_wp2_with fail
            refine (st_left TT.out).mono ?_
            rintro e w6 ⟨rfl, t6⟩
            have T6 := Lib.hid t6
            rw [hL']
            clear t6 TT c0 c1 c2
            go_wp2_with fail
            go_roundw
            case rel => exact ⟨k + 1, _, F', Ss, by go_num, by omega, by omega, T6⟩
            case measure => simp [intOf]; omega
        · by_cases ho2 : ok = 2
          · subst ho2
            have T3d := Lib.hid (T3.out.still (Only.drew _ _))
            go_wp2_with fail
            go_region_law (first
              | (go_simp; go_at_call 14; refine (st_give oa on T3d.out).mono ?_; rintro e w5 ⟨rfl, t, ho⟩))
            all_goals
              have TT := Lib.hid t
              have htold := give_told T3.out.pool.facts oa on
              clear ho t c0 c1 c2
              rcases htold with ⟨hne, hsame⟩ | ⟨h0, a, m, hT⟩
              · have OK := TT.out
                rw [hsame] at OK
                have OK := Lib.hid OK
                clear TT hsame
                generalize (giveF F Ss oa on).1 = e1 at *
                have hne' : (e1 == 0) = false := by simpa using hne
                go_wp2_with fail
                refine (st_left OK.out).mono ?_
                rintro e w6 ⟨rfl, t6⟩
                have T6 := Lib.hid t6
                rw [← HL.out]
                clear t6 OK
                go_wp2_with fail
                go_roundw
                case rel => exact ⟨k + 1, _, F, Ss, by go_num, by omega, by omega, T6⟩
                case measure => simp [intOf]; omega
              · rw [h0]
                obtain ⟨F', hF'⟩ : ∃ F', (giveF F Ss oa on).2 = F' := ⟨_, rfl⟩
                rw [hF'] at TT hT
                have hm := hT.n
                have ha := hT.at_
                have hcnt := hT.count
                have hln := hT.len
                have hfit := hT.fit
                clear hT hF' h0
                subst hm ha
                obtain ⟨c0, c1, c2⟩ := HCL.out _ TT.out.below
                have hcl := count_le F
                have hcl' := count_le F'
                have hL' : leftOf F' 300 = L + (m : Int) := by
                  rw [HL.out]
                  unfold leftOf
                  omega
                clear hcnt hcl hcl'
                go_wp2_with fail
                refine (st_left TT.out).mono ?_
                rintro e w6 ⟨rfl, t6⟩
                have T6 := Lib.hid t6
                rw [hL']
                clear t6 TT c0 c1 c2
                go_wp2_with fail
                go_roundw
                case rel => exact ⟨k + 1, _, F', Ss, by go_num, by omega, by omega, T6⟩
                case measure => simp [intOf]; omega
          · have hk1 : (ok == 1) = false := by simpa using ho1
            have hk2 : (ok == 2) = false := by simpa using ho2
            clear ho1 ho2 c1 c2
            go_wp2_with fail
            refine (starts_p T3.out.pool).mono ?_
            rintro e w4 ⟨r1, cp1, rfl, row1, o34⟩
            have T4 := Lib.hid (T3.out.still o34)
            have R1 := Lib.hid row1
            clear row1 o34 c0
            go_wp2_with fail
            refine (starts_p T4.out.pool).mono ?_
            rintro e w5 ⟨r2, cp2, rfl, _, o45⟩
            have T5 := Lib.hid (T4.out.still o45)
            have R15 := Lib.hid (R1.out.only o45 (fun _ _ e => e))
            clear o45 R1
            go_wp2_with fail
            refine (runs_p _ T5.out.pool).mono ?_
            rintro e w6 ⟨r3, cp3, rfl, row3, o56⟩
            have T6 := Lib.hid (T5.out.still o56)
            have R16 := Lib.hid (R15.out.only o56 (fun _ _ e => e))
            have R3 := Lib.hid row3
            clear o56 row3 R15 T4
            obtain ⟨xs, hxs⟩ : ∃ xs, xs = runsI F Ss ((Ss.length : Int) - 1) := ⟨_, rfl⟩
            rw [← hxs] at R3 ⊢
            have HX := Lib.hid hxs
            clear hxs
            go_wp2_with fail
            refine (st_open T6.out).mono ?_
            rintro e w7 ⟨rfl, t7, o67⟩
            rw [openF_few (by omega)] at t7 ⊢
            have T7 := Lib.hid t7
            have O67 := Lib.hid o67
            clear t7 o67
            go_wp2_with fail
            refine (st_close T7.out).mono ?_
            rintro e w8 ⟨rfl, t8, o78⟩
            rw [closeF_open hone] at t8 ⊢
            have T8 := Lib.hid t8
            have O68 := Lib.hid (O67.out.next o78)
            clear t8 o78 T7
            have R18 := Lib.hid (RowOf.past R16.out T3.out.pool O68.out)
            have R38 := Lib.hid (RowOf.past R3.out T5.out.pool O68.out)
            clear R16 R3
            go_wp2_with fail
            refine (starts_p T8.out.pool).mono ?_
            rintro e w9 ⟨r4, cp4, rfl, row4, o89⟩
            have T9 := Lib.hid (T8.out.still o89)
            have R4 := Lib.hid row4
            have R19 := Lib.hid (R18.out.only o89 (fun _ _ e => e))
            have R39 := Lib.hid (R38.out.only o89 (fun _ _ e => e))
            clear row4 o89 R18 R38 T8
            go_wp2_with fail
            refine (sameInts_yes R4.out R19.out (by omega)).mono ?_
            rintro e wA ⟨rfl, N, hN⟩
            have T10 : Hid (St _ b 300 F Ss w wA) := Lib.hid (T9.out.still (by rw [hN]; exact Only.drewN _ _ _))
            have R310 := Lib.hid (R39.out.only (S := fun _ => False) (w' := wA) (by rw [hN]; exact Only.drewN _ _ _) (fun _ _ e => e))
            clear hN R39 T9 R4 R19
            go_wp2_with fail
            refine (runs_p _ T10.out.pool).mono ?_
            rintro e wB ⟨r5, cp5, rfl, row5, oAB⟩
            rw [← HX.out] at row5 ⊢
            have T11 := Lib.hid (T10.out.still oAB)
            have R5 := Lib.hid row5
            have R311 := Lib.hid (R310.out.only oAB (fun _ _ e => e))
            clear row5 oAB R310 T10
            have hxl : xs.length ≤ 16777216 := by
              rw [HX.out]
              unfold runsI
              split
              · unfold runsP
                have := ref_len (fr := fun j => F.getD j false) (a := Ss.getD ((Ss.length : Int) - 1).toNat 0) (endOf Ss F ((Ss.length : Int) - 1).toNat - Ss.getD ((Ss.length : Int) - 1).toNat 0)
                have he : endOf Ss F ((Ss.length : Int) - 1).toNat ≤ F.length := by
                  unfold endOf
                  rw [if_neg (by omega)]
                  exact Nat.le_refl _
                omega
              · simp
            go_wp2_with fail
            refine (sameRuns_yes R5.out R311.out hxl).mono ?_
            rintro e wC ⟨rfl, N, hN⟩
            have T12 : Hid (St _ b 300 F Ss w wC) := Lib.hid (T11.out.still (by rw [hN]; exact Only.drewN _ _ _))
            clear hN T11 R5 R311 hxl
            obtain ⟨c0, c1, c2⟩ := HCL.out _ T12.out.below
            clear c1 c2
            by_cases ho3 : ok = 3
            · subst ho3
              go_wp2_with fail
              refine (st_open T12.out).mono ?_
              rintro e wD ⟨rfl, t13, _⟩
              rw [openF_few (by omega)] at t13 ⊢
              have T13 := Lib.hid t13
              clear t13 c0
              go_wp2_with fail
              refine (st_left T13.out).mono ?_
              rintro e wE ⟨rfl, t14⟩
              have T14 := Lib.hid t14
              rw [← HL.out]
              clear t14
              go_wp2_with fail
              go_roundw
              case rel => exact ⟨k + 1, _, F, _, by go_num, by omega, by simp; omega, T14⟩
              case measure => simp [intOf]; omega
            · have hk3 : (ok == 3) = false := by simpa using ho3
              go_wp2_with fail
              refine (st_left T12.out).mono ?_
              rintro e wE ⟨rfl, t14⟩
              have T14 := Lib.hid t14
              rw [← HL.out]
              clear t14
              go_wp2_with fail
              go_roundw
              case rel => exact ⟨k + 1, _, F, Ss, by go_num, by omega, by omega, T14⟩
              case measure => simp [intOf]; omega
      · have hk6 : ¬ ((k : Int) < 50) := by omega
        have HB := Lib.hid HI.out.below
        go_wp2_with fail
        go_ret
        exact ⟨rfl, HB.out⟩
    · have hk6 : ¬ ((k : Int) < (os.length : Int)) := by omega
      have HB := Lib.hid HI.out.below
      go_wp2_with fail
      go_ret
      exact ⟨rfl, HB.out⟩
end Go.Proofs.Ytaplfibhhdngbaa.pools
