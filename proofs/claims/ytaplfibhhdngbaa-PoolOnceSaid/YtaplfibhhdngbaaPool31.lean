/- The law PoolOnce, walked. -/
import Derived.Test.YtaplfibhhdngbaaPool30
namespace Go.Proofs.Ytaplfibhhdngbaa.pools
open Go.RowKit Go.Proofs.Ytaplfibhhdngbaa.own Go.Proofs.Ytaplfibhhdngbaa.trees Go.Proofs.Ytaplfibhhdngbaa.rows Go.Proofs.Ytaplfibhhdngbaa.frames
variable {S : Nat → Prop} {b lim : Nat} {F F' : List Bool} {Ss Ss' : List Nat} {w0 w w' : World}
set_option maxRecDepth 100000 in
set_option maxHeartbeats 4000000 in
theorem law_once (ao : Option Addr) (cp : Nat) (os : List OpP) (w : World) (hos : ArgOps w ao os) (hol : os.length ≤ maxLen) : Calls Try.prog 4 #[.slice ao os.length cp] w fun e w' => e = .returned (.bool true) ∧ Below w.heap.size w w' := by
  have HA := Lib.hid hos
  unfold maxLen at hol
  clear hos
  go_enter Try.func4, Try.ntmps4
  go_wp2_with fail
  refine (new_ok 400 (by omega) _).mono ?_
  rintro e w1 ⟨rfl, t⟩
  have T1 := Lib.hid (St.new t)
  clear t
  generalize w.heap.size + 1 = b at *
  generalize (fun j => w.heap.size ≤ j ∧ j < w1.heap.size) = S at *
  go_wp2_with fail
  refine (lives_any _).mono ?_
  rintro e w2 ⟨rfl, bd⟩
  have T2 := Lib.hid (T1.out.still (Only.of_below bd _))
  clear bd T1
  have hz := zero400 w2
  go_wp2_with fail
  clear hz
  have I0 : Hid (OnceI S b w2.heap.size [] [0] w (w2.alloc (.cells zs400 35))) := Lib.hid ⟨T2.out.still (Only.alloc _ _ _), (HeldAt.init w2).congr (fun j _ => by simp [tk]), fun e => by have := T2.out.pool.own _ e; omega, T2.out.below.size⟩
  generalize w2.alloc (.cells zs400 35) = w3 at *
  generalize w2.heap.size = g at *
  clear T2
  go_loopw [6] (fun i wr => ∃ (k : Nat) (S : Nat → Prop) (F : List Bool) (Ss : List Nat), i = .int .i64 k ∧ k ≤ os.length ∧ Hid (OnceI S b g F Ss w wr)) (fun i _ => os.length - (intOf i).toNat)
  case atStart => exact ⟨0, S, [], [0], rfl, by omega, I0⟩
  case round =>
    obtain ⟨k, S, F, Ss, rfl, hk, HI⟩ := hrel
    by_cases hlt : k < os.length
    · obtain ⟨b', off, ⟨ok, oa, on⟩, ho, hao, hfk, hfa, hfn, hcell⟩ := HA.out.cell k hlt
      subst hao
      obtain ⟨c0, c1, c2⟩ := hcell _ HI.out.pool.below
      simp only at c0 c1 c2 hfk hfa hfn
      clear hcell ho
      unfold Fits at hfk hfa hfn
      have HB := Lib.hid (fun w4 e => HI.out.begun ok oa on (w4 := w4) e)
      have HN : Hid (k < os.length) := Lib.hid hlt
      by_cases h60 : k < 60
      · go_wp2_with fail
        -- Take
        · obtain ⟨I, hop, hn1, hn2⟩ := HB.out _ rfl
          have I := Lib.hid I
          have OP := Lib.hid hop
          have N1 := Lib.hid hn1
          have N2 := Lib.hid hn2
          clear hop hn1 hn2 HB HI c0 c1 c2
          generalize wr.alloc (.cells #[.int .i64 ok, .int .i64 oa, .int .i64 on] 32) = w4 at *
          generalize wr.heap.size = ob at *
          refine (st_take on I.out.pool hfn.2).mono ?_
          rintro e w5 ⟨rfl, t, ho⟩
          have HO := Lib.hid ho
          have TT := Lib.hid t
          have htold := take_told I.out.pool.pool.facts on
          clear ho t
          rcases htold with ⟨hne, hsame⟩ | ⟨h0, a, m, hT⟩
          · have OK : Hid (OnceI (Grew S w4 w5) b g F Ss w w5) := Lib.hid (I.out.next (by have := TT.out; rw [hsame] at this; exact this) HO.out (fun _ _ => rfl))
            clear TT hsame I HO OP
            generalize (takeF 400 F Ss on).2.1 = e1 at *
            generalize (takeF 400 F Ss on).1 = e0 at *
            have hne' : (e1 != 0) = true := by simpa using hne
            go_wp2_with fail
            go_roundw
            case rel => exact ⟨k + 1, _, F, Ss, by go_num, by omega, OK⟩
            case measure => simp [intOf]; omega
          · rw [hT.at_, h0]
            obtain ⟨F', hF'⟩ : ∃ F', (takeF 400 F Ss on).2.2 = F' := ⟨_, rfl⟩
            rw [hF'] at TT
            have hm := hT.n
            have hfit := hT.fit
            have hpos := hT.pos
            have hlast := hT.last
            have HT := Lib.hid hT
            have HE := Lib.hid hF'
            clear hT hF' h0
            subst hm
            have hone := TT.out.pool.facts.one
            go_wp2_with fail
            refine (starts_p TT.out.pool).mono ?_
            rintro e w6 ⟨ro, rcap, rfl, hrow, ho6⟩
            have hH := I.out.grown TT.out HO.out
            have HE6 := Lib.hid (hH.2.1.only ho6 (fun e => e))
            have HG6 := Lib.hid hH.2.2
            have T6 := Lib.hid (TT.out.still ho6)
            have OP6 := Lib.hid ((OP.out.only HO.out N1.out).only ho6 (fun e => e))
            clear hH ho6
            obtain ⟨n', hn'⟩ : ∃ n', Ss.length = n' + 1 := ⟨Ss.length - 1, by omega⟩
            have hla := last_get hn'
            have hseg := TT.out.pool.facts.segs
            rw [hn'] at hseg
            have hn4 : (n' : Int) ≤ 4096 := by omega
            obtain ⟨g', hg', _, hc⟩ := hrow.at lies64 n' (lastOf Ss) hla
            subst hg'
            have cs := (hc 0 (by omega)).1
            simp only [enc64, List.getElem?_cons_zero, Nat.mul_one, Nat.add_zero] at cs
            clear hc hla hrow
            have d2 := OP6.out.c2
            have hx1 : ¬ ((a : Int) < 0) := by omega
            have hx2 : ¬ ((m : Int) > 400 - (a : Int)) := by omega
            have hx3 : ¬ ((a : Int) < (lastOf Ss : Int)) := by omega
            generalize lastOf Ss = la at *
            rw [hn']
            have hx5 : ¬ (a < la) := by omega
            have hx6 : ¬ (400 - (a : Int) < (m : Int)) := by omega
            go_wp2_with fail
            · exfalso
              have hh : ((a : Int) < 0 ∨ 400 - (a : Int) < (m : Int)) ∨ ((n' : Int) + 1 == 0) = true := by assumption
              simp at hh
              omega
            have L0 : Hid (Only (· = g) w6 w6 ∧ HeldAt g (tk F) w6) := Lib.hid ⟨Only.refl _ _, HE6.out⟩
            clear cs d2 hx1 hx2 hx3 hx5 hx6
            go_loopw [11] (fun v wq => ∃ j : Nat, v = .int .i64 j ∧ a ≤ j ∧ j ≤ a + m ∧ Hid (Only (· = g) w6 wq ∧ HeldAt g (fun q => if a ≤ q ∧ q < j then true else tk F q) wq)) (fun v _ => a + m - (intOf v).toNat)
            case atStart => exact ⟨a, rfl, Nat.le_refl _, by omega, Lib.hid ⟨L0.out.1, L0.out.2.congr (fun j _ => if_neg (by omega))⟩⟩
            case round =>
              obtain ⟨j, rfl, hj0, hj1, HL⟩ := hrel
              have OPq := (OP6.out.only HL.out.1 N2.out)
              have d2 := OPq.c2
              by_cases hj : j < a + m
              · have hj4 : j < 400 := by omega
                have hcell := HL.out.2.cell j hj4
                have hfree := HL.out.2.free j
                rw [if_neg (by omega), HT.out.were j hj0 hj] at hcell
                have hput := HL.out.2.put (H' := fun q => if a ≤ q ∧ q < j + 1 then true else tk F q) j hj4 true (fun i hi => by
                  by_cases e : i = j
                  · subst e; rw [if_pos (by omega), if_pos rfl]
                  · rw [if_neg e]
                    by_cases e2 : a ≤ i ∧ i < j
                    · rw [if_pos e2, if_pos (by omega)]
                    · rw [if_neg e2, if_neg (by omega)])
                have HP := Lib.hid hput
                clear hput OPq
                go_wp2_with fail
                go_roundw
                case rel => exact ⟨j + 1, by go_num, by omega, by omega, Lib.hid ⟨HL.out.1.same HP.out.2, HP.out.1⟩⟩
                case measure => simp [intOf]; omega
              · have hje : j = a + m := by omega
                subst hje
                have OK : Hid (OnceI (Grew S w4 w5) b g F' Ss w wr) := Lib.hid ⟨T6.out.beside HL.out.1 HG6.out I.out.high, HL.out.2.congr (fun i hi => by have := HT.out.are i; rw [HE.out] at this; exact this), HG6.out, I.out.high⟩
                clear OPq
                go_wp2_with fail
                go_roundw
                case rel => exact ⟨k + 1, _, F', Ss, by go_num, by omega, OK⟩
                case measure => simp [intOf]; omega
        -- Give
        · obtain ⟨I, hop, hn1, hn2⟩ := HB.out _ rfl
          have I := Lib.hid I
          have OP := Lib.hid hop
          have N1 := Lib.hid hn1
          have N2 := Lib.hid hn2
          clear hop hn1 hn2 HB HI c0 c1 c2
          generalize wr.alloc (.cells #[.int .i64 ok, .int .i64 oa, .int .i64 on] 32) = w4 at *
          generalize wr.heap.size = ob at *
          refine (st_give oa on I.out.pool).mono ?_
          rintro e w5 ⟨rfl, t, ho⟩
          have HO := Lib.hid ho
          have TT := Lib.hid t
          have htold := give_told I.out.pool.pool.facts oa on
          have hlim := I.out.pool.pool.facts.limit
          clear ho t
          rcases htold with ⟨hne, hsame⟩ | ⟨h0, a, m, hT⟩
          · have OK : Hid (OnceI (Grew S w4 w5) b g F Ss w w5) := Lib.hid (I.out.next (by have := TT.out; rw [hsame] at this; exact this) HO.out (fun _ _ => rfl))
            clear TT hsame I HO OP
            generalize (giveF F Ss oa on).1 = e1 at *
            have hne' : (e1 == 0) = false := by simpa using hne
            go_wp2_with fail
            go_roundw
            case rel => exact ⟨k + 1, _, F, Ss, by go_num, by omega, OK⟩
            case measure => simp [intOf]; omega
          · rw [h0]
            obtain ⟨F', hF'⟩ : ∃ F', (giveF F Ss oa on).2 = F' := ⟨_, rfl⟩
            rw [hF'] at TT hT
            have hm := hT.n
            have ha := hT.at_
            have hfit := hT.fit
            have hpos := hT.pos
            have HT := Lib.hid hT.are
            clear hT hF' h0
            subst hm ha
            have hH := I.out.grown TT.out HO.out
            have HE6 := Lib.hid hH.2.1
            have HG6 := Lib.hid hH.2.2
            have OP6 := Lib.hid (OP.out.only HO.out N1.out)
            have d1 := OP6.out.c1
            clear hH
            go_wp2_with fail
            clear d1
            go_loopw [12] (fun v wq => ∃ j : Nat, v = .int .i64 j ∧ a ≤ j ∧ j ≤ a + m ∧ Hid (Only (· = g) w5 wq ∧ HeldAt g (fun q => if a ≤ q ∧ q < j then false else tk F q) wq)) (fun v _ => a + m - (intOf v).toNat)
            case atStart => exact ⟨a, rfl, Nat.le_refl _, by omega, Lib.hid ⟨Only.refl _ _, HE6.out.congr (fun j _ => if_neg (by omega))⟩⟩
            case round =>
              obtain ⟨j, rfl, hj0, hj1, HL⟩ := hrel
              have OPq := (OP6.out.only HL.out.1 N2.out)
              have d1 := OPq.c1
              have d2 := OPq.c2
              by_cases hj : j < a + m
              · have hj4 : j < 400 := by omega
                have hfree := HL.out.2.free j
                have hcell := HL.out.2.cell j hj4
                have hput := HL.out.2.put (H' := fun q => if a ≤ q ∧ q < j + 1 then false else tk F q) j hj4 false (fun i hi => by
                  by_cases e : i = j
                  · subst e; rw [if_pos (by omega), if_pos rfl]
                  · rw [if_neg e]
                    by_cases e2 : a ≤ i ∧ i < j
                    · rw [if_pos e2, if_pos (by omega)]
                    · rw [if_neg e2, if_neg (by omega)])
                have HP := Lib.hid hput
                clear hput OPq
                go_wp2_with fail
                go_roundw
                case rel => exact ⟨j + 1, by go_num, by omega, by omega, Lib.hid ⟨HL.out.1.same HP.out.2, HP.out.1⟩⟩
                case measure => simp [intOf]; omega
              · have hje : j = a + m := by omega
                subst hje
                have OK : Hid (OnceI (Grew S w4 w5) b g F' Ss w wr) := Lib.hid ⟨TT.out.beside HL.out.1 HG6.out I.out.high, HL.out.2.congr (fun i hi => HT.out i), HG6.out, I.out.high⟩
                clear OPq
                go_wp2_with fail
                go_roundw
                case rel => exact ⟨k + 1, _, F', Ss, by go_num, by omega, OK⟩
                case measure => simp [intOf]; omega
        -- Open
        · obtain ⟨I, hop, hn1, hn2⟩ := HB.out _ rfl
          have I := Lib.hid I
          have OP := Lib.hid hop
          have N1 := Lib.hid hn1
          have N2 := Lib.hid hn2
          clear hop hn1 hn2 HB HI c0 c1 c2
          generalize wr.alloc (.cells #[.int .i64 ok, .int .i64 oa, .int .i64 on] 32) = w4 at *
          generalize wr.heap.size = ob at *
          refine (st_open I.out.pool).mono ?_
          rintro e w5 ⟨rfl, t, ho⟩
          have OK := Lib.hid (I.out.next t ho (fun _ _ => rfl))
          clear ho t
          go_wp2_with fail
          go_roundw
          case rel => exact ⟨k + 1, _, F, _, by go_num, by omega, OK⟩
          case measure => simp [intOf]; omega
        -- Close
        · obtain ⟨I, hop, hn1, hn2⟩ := HB.out _ rfl
          have I := Lib.hid I
          have OP := Lib.hid hop
          have N1 := Lib.hid hn1
          have N2 := Lib.hid hn2
          clear hop hn1 hn2 HB HI c0 c1 c2
          generalize wr.alloc (.cells #[.int .i64 ok, .int .i64 oa, .int .i64 on] 32) = w4 at *
          generalize wr.heap.size = ob at *
          refine (st_close I.out.pool).mono ?_
          rintro e w5 ⟨rfl, t, ho⟩
          have OK := Lib.hid (I.out.next t ho (fun _ _ => rfl))
          clear ho t
          go_wp2_with fail
          go_roundw
          case rel => exact ⟨k + 1, _, F, _, by go_num, by omega, OK⟩
          case measure => simp [intOf]; omega
        -- Back
        · obtain ⟨I, hop, hn1, hn2⟩ := HB.out _ rfl
          have I := Lib.hid I
          have OP := Lib.hid hop
          have N1 := Lib.hid hn1
          have N2 := Lib.hid hn2
          clear hop hn1 hn2 HB HI c0 c1 c2
          generalize wr.alloc (.cells #[.int .i64 ok, .int .i64 oa, .int .i64 on] 32) = w4 at *
          generalize wr.heap.size = ob at *
          have hfa := I.out.pool.pool.facts
          refine (st_back I.out.pool).mono ?_
          rintro e w5 ⟨rfl, t, ho⟩
          have HO := Lib.hid ho
          have TT := Lib.hid t
          clear ho t
          have hle : lastOf Ss ≤ F.length := hfa.below _ (getD_mem (by have := hfa.one; omega))
          have hlim := hfa.limit.1
          have hlen : (F.take (lastOf Ss)).length = lastOf Ss := by rw [List.length_take]; omega
          have hH := I.out.grown TT.out HO.out
          have HE6 := Lib.hid hH.2.1
          have HG6 := Lib.hid hH.2.2
          have HBk := Lib.hid (back_told (F := F) (lastOf Ss) hle)
          clear hH hfa
          generalize lastOf Ss = s at *
          go_wp2_with fail
          refine (top_p TT.out.pool).mono ?_
          rintro e w6 ⟨rfl, rfl⟩
          rw [hlen]
          go_wp2_with fail
          go_loopw [13] (fun v wq => ∃ j : Nat, v = .int .i64 j ∧ s ≤ j ∧ j ≤ 400 ∧ Hid (Only (· = g) w5 wq ∧ HeldAt g (fun q => if s ≤ q ∧ q < j then false else tk F q) wq)) (fun v _ => 400 - (intOf v).toNat)
          case atStart => exact ⟨s, rfl, Nat.le_refl _, by omega, Lib.hid ⟨Only.refl _ _, HE6.out.congr (fun j _ => if_neg (by omega))⟩⟩
          case round =>
            obtain ⟨j, rfl, hj0, hj1, HL⟩ := hrel
            by_cases hj : j < 400
            · have hfree := HL.out.2.free j
              have hcell := HL.out.2.cell j hj
              have hput := HL.out.2.put (H' := fun q => if s ≤ q ∧ q < j + 1 then false else tk F q) j hj false (fun i hi => by
                by_cases e : i = j
                · subst e; rw [if_pos (by omega), if_pos rfl]
                · rw [if_neg e]
                  by_cases e2 : s ≤ i ∧ i < j
                  · rw [if_pos e2, if_pos (by omega)]
                  · rw [if_neg e2, if_neg (by omega)])
              have HP := Lib.hid hput
              clear hput
              go_wp2_with fail
              go_roundw
              case rel => exact ⟨j + 1, by go_num, by omega, by omega, Lib.hid ⟨HL.out.1.same HP.out.2, HP.out.1⟩⟩
              case measure => simp [intOf]; omega
            · have hje : j = 400 := by omega
              subst hje
              have OK : Hid (OnceI (Grew S w4 w5) b g (F.take s) Ss w wr) := Lib.hid ⟨TT.out.beside HL.out.1 HG6.out I.out.high, HL.out.2.congr (fun i hi => by
                rw [HBk.out i]
                by_cases e : s ≤ i
                · rw [if_pos e, if_pos ⟨e, hi⟩]
                · rw [if_neg e, if_neg (fun h => e h.1)]), HG6.out, I.out.high⟩
              go_wp2_with fail
              go_roundw
              case rel => exact ⟨k + 1, _, F.take s, Ss, by go_num, by omega, OK⟩
              case measure => simp [intOf]; omega
        · obtain ⟨I, _, _, _⟩ := HB.out _ rfl
          have OK := Lib.hid I
          clear I HB HI c0 c1 c2
          go_roundw
          case rel => exact ⟨k + 1, _, F, Ss, by go_num, by omega, OK⟩
          case measure => simp [intOf]; omega
      · have hk6 : ¬ ((k : Int) < 60) := by omega
        have hk7 : (k : Int) < (os.length : Int) := by omega
        clear HB c0 c1 c2
        go_wp2_with fail
        go_loopw [14] (fun v wf => ∃ (j : Nat), v = .int .i64 j ∧ j ≤ 400 ∧ Hid (OnceI S b g F Ss w wf)) (fun v _ => 400 - (intOf v).toNat)
        case atStart => exact ⟨0, rfl, by omega, HI⟩
        case round =>
          obtain ⟨j, rfl, hj0, HJ⟩ := hrel
          by_cases hj : j < 400
          · have hcell := HJ.out.held.cell j hj
            have HQ1 : Hid (∀ N, Calls Try.prog 18 #[.pointer (some ⟨b, 0, none⟩)] (wr.drewN N) fun e w' => e = .returned (.int .i64 F.length) ∧ w' = wr.drewN N) := Lib.hid (fun N => (top_p (HJ.out.pool.pool.drewN N)).mono (fun _ _ hh => ⟨hh.1, hh.2.symm⟩))
            have HQ2 : Hid (∀ N, Calls Try.prog 19 #[.pointer (some ⟨b, 0, none⟩), .int .i64 j] (wr.drewN N) fun e w' => e = .returned (.bool (isFree F j)) ∧ ∃ m, w' = (wr.drewN N).drewN m) := Lib.hid (fun N => free_pq j (HJ.out.pool.pool.drewN N))
            by_cases hF : F.length ≤ j
            · rw [tk_out hF] at hcell
              have hge : decide ((j : Int) ≥ (F.length : Int)) = true := by simp; omega
              go_wp2_with fail
              go_quiet (first | (go_at_call 18; exact Calls.quiet_of_same (HQ1.out _)) | (go_at_call 19; exact Calls.quiet_of (HQ2.out _)))
              have HK := Lib.hid (HJ.out.still (Only.drewN _ _ nq))
              go_wp2_with fail
              go_roundw
              case rel => exact ⟨j + 1, by go_num, by omega, HK⟩
              case measure => simp [intOf]; omega
            · have hF' : j < F.length := by omega
              rw [tk_in hF'] at hcell
              rw [isFree_nat] at HQ2
              have hge : decide ((j : Int) ≥ (F.length : Int)) = false := by simp; omega
              generalize F.getD j false = x at *
              cases x
              all_goals
                go_wp2_with fail
                go_quiet (first | (go_at_call 18; exact Calls.quiet_of_same (HQ1.out _)) | (go_at_call 19; exact Calls.quiet_of (HQ2.out _)))
                have HK := Lib.hid (HJ.out.still (Only.drewN _ _ nq))
                go_wp2_with fail
                go_roundw
                case rel => exact ⟨j + 1, by go_num, by omega, HK⟩
                case measure => simp [intOf]; omega
          · have HB := Lib.hid HJ.out.pool.below
            go_wp2_with fail
            go_ret
            exact ⟨rfl, HB.out⟩
    · have hk6 : ¬ ((k : Int) < (os.length : Int)) := by omega
      go_wp2_with fail
      go_loopw [14] (fun v wf => ∃ (j : Nat), v = .int .i64 j ∧ j ≤ 400 ∧ Hid (OnceI S b g F Ss w wf)) (fun v _ => 400 - (intOf v).toNat)
      case atStart => exact ⟨0, rfl, by omega, HI⟩
      case round =>
        obtain ⟨j, rfl, hj0, HJ⟩ := hrel
        by_cases hj : j < 400
        · have hcell := HJ.out.held.cell j hj
          have HQ1 : Hid (∀ N, Calls Try.prog 18 #[.pointer (some ⟨b, 0, none⟩)] (wr.drewN N) fun e w' => e = .returned (.int .i64 F.length) ∧ w' = wr.drewN N) := Lib.hid (fun N => (top_p (HJ.out.pool.pool.drewN N)).mono (fun _ _ hh => ⟨hh.1, hh.2.symm⟩))
          have HQ2 : Hid (∀ N, Calls Try.prog 19 #[.pointer (some ⟨b, 0, none⟩), .int .i64 j] (wr.drewN N) fun e w' => e = .returned (.bool (isFree F j)) ∧ ∃ m, w' = (wr.drewN N).drewN m) := Lib.hid (fun N => free_pq j (HJ.out.pool.pool.drewN N))
          by_cases hF : F.length ≤ j
          · rw [tk_out hF] at hcell
            have hge : decide ((j : Int) ≥ (F.length : Int)) = true := by simp; omega
            go_wp2_with fail
            go_quiet (first | (go_at_call 18; exact Calls.quiet_of_same (HQ1.out _)) | (go_at_call 19; exact Calls.quiet_of (HQ2.out _)))
            have HK := Lib.hid (HJ.out.still (Only.drewN _ _ nq))
            go_wp2_with fail
            go_roundw
            case rel => exact ⟨j + 1, by go_num, by omega, HK⟩
            case measure => simp [intOf]; omega
          · have hF' : j < F.length := by omega
            rw [tk_in hF'] at hcell
            rw [isFree_nat] at HQ2
            have hge : decide ((j : Int) ≥ (F.length : Int)) = false := by simp; omega
            generalize F.getD j false = x at *
            cases x
            all_goals
              go_wp2_with fail
              go_quiet (first | (go_at_call 18; exact Calls.quiet_of_same (HQ1.out _)) | (go_at_call 19; exact Calls.quiet_of (HQ2.out _)))
              have HK := Lib.hid (HJ.out.still (Only.drewN _ _ nq))
              go_wp2_with fail
              go_roundw
              case rel => exact ⟨j + 1, by go_num, by omega, HK⟩
              case measure => simp [intOf]; omega
        · have HB := Lib.hid HJ.out.pool.below
          go_wp2_with fail
          go_ret
          exact ⟨rfl, HB.out⟩
end Go.Proofs.Ytaplfibhhdngbaa.pools
