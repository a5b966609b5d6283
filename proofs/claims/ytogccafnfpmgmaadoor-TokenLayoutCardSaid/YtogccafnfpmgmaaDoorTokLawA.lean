/- Tokens: the law of layout. -/
import Derived.Test.YtogccafnfpmgmaaDoorTokT
namespace Go.Proofs.YtogccafnfpmgmaaDoor.toks
open Go.RowKit Go.Proofs.YtogccafnfpmgmaaDoor.own
theorem index_blank (d : Nat) (hd : d < 4) : ∃ x : UInt8, blankB (iv x) = true ∧ ∀ w : World, (Instr.index 9 (.string ⟨#[32, 9, 10, 13]⟩) (.int .i64 d)).run Tryd.prog w = .ok (.int .u8 (iv x)) w := by
  obtain rfl | rfl | rfl | rfl : d = 0 ∨ d = 1 ∨ d = 2 ∨ d = 3 := by omega
  · exact ⟨32, by decide, fun w => by kernel_rfl⟩
  · exact ⟨9, by decide, fun w => by kernel_rfl⟩
  · exact ⟨10, by decide, fun w => by kernel_rfl⟩
  · exact ⟨13, by decide, fun w => by kernel_rfl⟩
set_option maxRecDepth 100000 in
set_option maxHeartbeats 8000000 in
theorem law_layout (ao : Option Addr) (cap : Nat) (bs : List UInt8) (n : Int) (w : World) (hb : ArgB ao cap bs w) (hT : Tabled w) :
    Calls Tryd.prog 5 #[.slice ao bs.length cap, .int .i64 n] w fun e w' => e = .returned (.bool true) ∧ Below w.heap.size w w' := by
  have HB := Lib.hid hb
  have HT := Lib.hid hT
  have HLV : Hid (∀ W, Only (fun _ => False) w W → Calls Tryd.prog 7 #[] W fun e w' => e = .returned (.bool true) ∧ Only (fun _ => False) W w') := Lib.hid (fun W ho => lives_any W (hT.later ho))
  clear hb hT
  by_cases hbig : (3000 : Int) < (bs.length : Int)
  · go_enter Tryd.func5, Tryd.ntmps5
    go_wp2_with fail
    refine (HLV.out _ (Only.refl _ _)).mono ?_
    rintro e w1 ⟨rfl, ho⟩
    go_wp2_with fail
    go_ret
    exact ⟨rfl, ho.to_below⟩
  · by_cases hn1 : n < 1
    · go_enter Tryd.func5, Tryd.ntmps5
      go_wp2_with fail
      refine (HLV.out _ (Only.refl _ _)).mono ?_
      rintro e w1 ⟨rfl, ho⟩
      go_wp2_with fail
      go_ret
      exact ⟨rfl, ho.to_below⟩
    · by_cases hn2 : (50 : Int) < n
      · go_enter Tryd.func5, Tryd.ntmps5
        go_wp2_with fail
        refine (HLV.out _ (Only.refl _ _)).mono ?_
        rintro e w1 ⟨rfl, ho⟩
        go_wp2_with fail
        go_ret
        exact ⟨rfl, ho.to_below⟩
      · obtain ⟨k, rfl⟩ : ∃ k : Nat, n = k := ⟨n.toNat, by omega⟩
        have hk1 : 1 ≤ k := by omega
        have hk2 : k ≤ 50 := by omega
        have hl3 : bs.length ≤ 3000 := by omega
        obtain ⟨M, hmk, hm0⟩ := make_bytes w k (by omega)
        have HM := Lib.hid hm0
        clear hm0
        have HO0 : Hid (Only (fun _ => False) w (w.alloc (.cells M 5))) := Lib.hid (Only.alloc _ _ _)
        have HLR : Hid ((List.replicate k (0 : UInt8)).length = k) := Lib.hid (by simp)
        go_enter Tryd.func5, Tryd.ntmps5
        go_wp2_with (first | (at_builtin; apply Classical.byContradiction; intro hstop) | fail)
        apply hstop
        clear hstop
        refine wp_append_bytes rfl (.tmp 28) (.tmp 29) rfl w.heap.size (some ⟨w.heap.size, 0, none⟩) ao k cap (List.replicate k 0) bs (by rw [HLR.out]; rfl) HM.out rfl (HB.out.byts.later HO0.out) HB.out.nul HB.out.spot (by rw [HLR.out]; omega) (by simp) ?_
        intro wo wc w2 hrow ho2 hnew
        have hLL : (List.replicate k (0 : UInt8) ++ bs).length = k + bs.length := by rw [List.length_append, HLR.out]
        have HDR : Hid ((List.replicate k (0 : UInt8) ++ bs).drop k = bs) := Lib.hid (by rw [List.drop_append, List.drop_eq_nil_of_le (by rw [HLR.out]; omega), List.nil_append, HLR.out, Nat.sub_self, List.drop_zero])
        obtain ⟨g, rfl, hg1, -⟩ := hrow.at lieU 0 ((List.replicate k (0 : UInt8) ++ bs)[0]'(by omega)) (List.getElem?_eq_getElem _)
        have HR2 := Lib.hid hrow
        have HW2 : Hid (Only (fun _ => False) w w2) := Lib.hid (Only.cut HO0.out (ho2.mono (S' := fun q => w.heap.size ≤ q) (fun q _ e => by
          obtain ⟨g', hg', rfl⟩ := e
          cases hg'
          exact Nat.le_refl _)) (fun q e => e))
        clear ho2 hnew hrow HLR HM HO0 hmk
        generalize List.replicate k (0 : UInt8) ++ bs = xs0 at *
        rw [hLL]
        go_wp2_with fail
        go_loopw [6] (fun c wr => ∃ (i : Nat) (xs : List UInt8), c = .int .i64 i ∧ i ≤ k ∧ Hid (RowOf encU 1 5 w.heap.size (some ⟨g, 0, none⟩) wc xs wr ∧ xs.length = k + bs.length ∧ (∀ j, j < i → ∃ x, xs[j]? = some x ∧ blankB (iv x) = true) ∧ xs.drop k = bs ∧ Only (fun q => w.heap.size ≤ q) w2 wr)) (fun c _ => k - (intOf c).toNat)
        case atStart => exact ⟨0, xs0, rfl, Nat.zero_le _, Lib.hid ⟨HR2.out, hLL, fun j h => absurd h (by omega), HDR.out, Only.refl _ _⟩⟩
        case round =>
          obtain ⟨i, xs, rfl, hi, hI⟩ := hrel
          by_cases hlt : i < k
          · obtain ⟨x, hx1, hx2⟩ := index_blank (i % 4) (by omega)
            have hmod : Int.tmod (i : Int) 4 = ((i % 4 : Nat) : Int) := by rw [Int.tmod_eq_emod_of_nonneg (by omega)]; omega
            have h0 : (0 : Int) ≤ (i : Int) := by omega
            have h1 : (i : Int) < ((k + bs.length : Nat) : Int) := by omega
            have h2 : (i : Int) < (k : Int) + (bs.length : Int) := by omega
            have hil : i < xs.length := by have := hI.out.2.1; omega
            obtain ⟨y, hy⟩ : ∃ y, xs[i]? = some y := ⟨_, List.getElem?_eq_getElem hil⟩
            obtain ⟨g', he, _, hc⟩ := hI.out.1.at lieU i y hy
            cases he
            have hc0 := hc 0 (by decide)
            simp only [Nat.mul_one, Nat.add_zero] at hc0
            obtain ⟨hcl, hfr⟩ := hc0
            have hcl2 : wr.cell? ⟨g, i, none⟩ = some (.int .u8 (iv y)) := hcl
            obtain ⟨hs1, hs2⟩ := hI.out.1.stored lieU i 0 y x (.int .u8 (iv x)) hy (by decide) rfl
            simp only [Nat.mul_one, Nat.add_zero] at hs1 hs2
            have HS1 := Lib.hid hs1
            have HS2 := Lib.hid hs2
            clear hs1 hs2 hc hcl hy
            generalize hd4 : i % 4 = d4 at *
            go_wp2_with fail
            go_roundw
            case rel =>
              refine ⟨i + 1, xs.set i x, by first | rfl | go_num, by omega, Lib.hid ⟨HS1.out, by rw [List.length_set]; exact hI.out.2.1, fun j hj => ?_, ?_, hI.out.2.2.2.2.trans HS2.out (fun q _ e => by rw [e]; exact hg1)⟩⟩
              · rcases Nat.lt_or_ge j i with h | h
                · obtain ⟨z, hz1, hz2⟩ := hI.out.2.2.1 j h
                  exact ⟨z, by rw [List.getElem?_set_ne (by omega)]; exact hz1, hz2⟩
                · obtain rfl : j = i := by omega
                  exact ⟨x, by rw [List.getElem?_set_self hil], hx1⟩
              · rw [List.drop_set_of_lt hlt]
                exact hI.out.2.2.2.1
            case measure => simp [intOf]; omega
          · obtain rfl : i = k := by omega
            have HWR : Hid (Only (fun _ => False) w wr) := Lib.hid (Only.cut HW2.out hI.out.2.2.2.2 (fun q e => e))
            have HXS : Hid (allF xs = layA (shA i (allF bs))) := Lib.hid (by
              have e1 : xs = xs.take i ++ bs := by
                conv => lhs; rw [← List.take_append_drop i xs]
                rw [hI.out.2.2.2.1]
              have e2 : (xs.take i).length = i := by rw [List.length_take, hI.out.2.1]; omega
              have e3 := all_layout (xs.take i) bs (by omega) (fun y hy => by
                obtain ⟨j, hj⟩ := List.getElem?_of_mem hy
                rw [List.getElem?_take] at hj
                split at hj
                · obtain ⟨z, hz1, hz2⟩ := hI.out.2.2.1 j ‹_›
                  rw [hj] at hz1
                  cases hz1
                  exact hz2
                · cases hj)
              rw [e2] at e3
              rw [e1]
              exact e3)
            have HXL := Lib.hid hI.out.2.1
            have HRX := Lib.hid hI.out.1
            have HA1 := Lib.hid (all_any ao cap bs wr (HB.out.byts.later HWR.out) (by omega) HB.out.fits)
            clear hI HR2 HDR hLL
            cases hal : allF bs with
            | no en er =>
              have hbd := allF_bound bs
              rw [hal] at HA1 HXS hbd
              have hbn : en ≤ bs.length := hbd
              have HA2 : Hid (∀ W, Only (fun _ => False) wr W → Calls Tryd.prog 8 #[.slice (some ⟨g, 0, none⟩) (i + bs.length) wc] W fun e w' => AllIs W.heap.size e w' (.no (i + en) er) ∧ Only (fun _ => False) W w') := Lib.hid (fun W ho => by
                have h := all_any (some ⟨g, 0, none⟩) wc xs W ((RowOf.byts HRX.out).later ho) (by have := HXL.out; omega) HRX.out.cap_ge.1
                rw [HXS.out, HXL.out] at h
                exact h)
              have hw1 : wrap64 ((en : Int) + (i : Int)) = ((i + en : Nat) : Int) := by unfold wrap64; omega
              have hw2 : wrap64 ((en : Int) + (i : Int)) = (i : Int) + (en : Int) := by unfold wrap64; omega
              go_wp2_with fail
              refine HA1.out.mono ?_
              rintro e w3 ⟨⟨rfl, her⟩, ho3⟩
              have HO3 := Lib.hid ho3
              clear ho3 HA1
              go_wp2_with fail
              refine (HA2.out w3 HO3.out).mono ?_
              rintro e w4 ⟨⟨rfl, _⟩, ho4⟩
              have HO4 := Lib.hid ((HWR.out.same HO3.out).same ho4)
              clear ho4
              go_wp2_with fail
              refine (HLV.out w4 HO4.out).mono ?_
              rintro e w5 ⟨rfl, ho5⟩
              go_wp2_with fail
              refine wp_loop_rounds 1 ?_
              rw [rounds_succ]
              go_wp2_with fail
              go_ret
              exact ⟨rfl, (HO4.out.same ho5).to_below⟩
            | ok l en =>
              have hbd := allF_bound bs
              rw [hal] at HA1 HXS hbd
              obtain ⟨hbn, hbt, _⟩ := hbd
              have HBT := Lib.hid hbt
              clear hbt
              have HA2 : Hid (∀ W, Only (fun _ => False) wr W → Calls Tryd.prog 8 #[.slice (some ⟨g, 0, none⟩) (i + bs.length) wc] W fun e w' => AllIs W.heap.size e w' (.ok (layL (l.map (shT i))) (i + en)) ∧ Only (fun _ => False) W w') := Lib.hid (fun W ho => by
                have h := all_any (some ⟨g, 0, none⟩) wc xs W ((RowOf.byts HRX.out).later ho) (by have := HXL.out; omega) HRX.out.cap_ge.1
                rw [HXS.out, HXL.out] at h
                exact h)
              have hml : (layL (l.map (shT i))).length = l.length := by rw [lay_len, List.length_map]
              have HMG : Hid (∀ (j : Nat) (t : Tk), l[j]? = some t → (layL (l.map (shT i)))[j]? = some (⟨t.kd, t.s, t.n, i + t.at_, t.lay || decide (j = 0)⟩ : Tk)) := Lib.hid (fun j t h => lay_get h)
              generalize layL (l.map (shT i)) = ms at *
              have hw1 : wrap64 ((en : Int) + (i : Int)) = ((i + en : Nat) : Int) := by unfold wrap64; omega
              have hw2 : wrap64 ((en : Int) + (i : Int)) = (i : Int) + (en : Int) := by unfold wrap64; omega
              have hw3 : ((i : Int) + (en : Int) != (en : Int) + (i : Int)) = false := by rw [Int.add_comm]; simp
              go_wp2_with fail
              refine HA1.out.mono ?_
              rintro e w3 ⟨⟨ro, rc, rfl, hr3, hll⟩, ho3⟩
              have HR3 := Lib.hid hr3
              have HO3 := Lib.hid ho3
              clear hr3 ho3 HA1
              go_wp2_with fail
              refine (HA2.out w3 HO3.out).mono ?_
              rintro e w4 ⟨⟨mo, mc, rfl, hr4, _⟩, ho4⟩
              have HR4 := Lib.hid hr4
              have HR34 := Lib.hid (HR3.out.only ho4 (fun _ _ e => e))
              have HO4 := Lib.hid ((HWR.out.same HO3.out).same ho4)
              clear ho4 hr4 HR3
              rw [hml]
              go_wp2_with fail
              refine (HLV.out w4 HO4.out).mono ?_
              rintro e w5 ⟨rfl, ho5⟩
              have HRL := Lib.hid (HR34.out.only ho5 (fun _ _ e => e))
              have HRM := Lib.hid (HR4.out.only ho5 (fun _ _ e => e))
              have HO5 := Lib.hid (HO4.out.same ho5)
              clear ho5 HR4 HR34 HO4 HA2 HLV HRX
              go_wp2_with fail
              go_loopw [13] (fun c wv => ∃ j : Nat, c = .int .i64 j ∧ j ≤ l.length ∧ Hid (Only (fun _ => False) w5 wv)) (fun c _ => l.length - (intOf c).toNat)
              case atStart => exact ⟨0, rfl, Nat.zero_le _, Lib.hid (Only.refl _ _)⟩
              case round =>
                obtain ⟨j, rfl, hj, hOV⟩ := hrel
                by_cases hjl : j < l.length
                · obtain ⟨t, ht⟩ : ∃ t, l[j]? = some t := ⟨_, List.getElem?_eq_getElem hjl⟩
                  obtain ⟨g1, rfl, hg1, hz1, a0, a1, a2, a3, a4⟩ := RowOf.tk (HRL.out.only hOV.out (fun _ _ e => e)) ht
                  obtain ⟨g2, rfl, hg2, hz2, b0, b1, b2, b3, b4⟩ := RowOf.tk (HRM.out.only hOV.out (fun _ _ e => e)) (HMG.out j t ht)
                  have htb := HBT.out t (List.mem_of_getElem? ht)
                  have p0 : (0 : Int) ≤ (j : Int) := by omega
                  have p1 : (j : Int) < (l.length : Int) := by omega
                  clear ht
                  obtain ⟨kd, ts, tn, tat, tlay⟩ := t
                  have htb2 : tat < bs.length := htb
                  have p2 : (0 : Int) ≤ (tat : Int) := by omega
                  have p3 : (tat : Int) ≤ 3000 := by omega
                  have p4 : (i : Int) ≤ 50 := by omega
                  have b3' : wr.cell? ⟨g2, j * 5 + 3, none⟩ = some (.int .i64 ((tat : Int) + (i : Int))) := by
                    rw [b3]
                    show some (Value.int .i64 ((i + tat : Nat) : Int)) = _
                    rw [show ((i + tat : Nat) : Int) = (tat : Int) + (i : Int) by omega]
                  have HB4 := Lib.hid b4
                  clear htb htb2 b3 b4
                  simp only at a0 a1 a2 a3 a4 b0 b1 b2
                  cases tlay with
                  | true =>
                    have b4' : wr.cell? ⟨g2, j * 5 + 4, none⟩ = some (.bool true) := by rw [HB4.out]; rfl
                    have hq : ∀ q, (binOp .neq 30 (.agg #[.int .i64 kd, .string (bstr ts), .int .i64 tn, .int .i64 ((tat : Int) + (i : Int)), .bool true]) (.agg #[.int .i64 kd, .string (bstr ts), .int .i64 tn, .int .i64 ((tat : Int) + (i : Int)), .bool true])).run Tryd.prog ((wr.alloc (.cells #[.int .i64 kd, .string (bstr ts), .int .i64 tn, .int .i64 ((tat : Int) + (i : Int)), .bool true] 30)).drewN q) = .ok (.bool false) ((wr.alloc (.cells #[.int .i64 kd, .string (bstr ts), .int .i64 tn, .int .i64 ((tat : Int) + (i : Int)), .bool true] 30)).drewN q) := fun q => by
                      have := neqT ⟨kd, ts, tn, i + tat, true⟩ ((wr.alloc (.cells #[.int .i64 kd, .string (bstr ts), .int .i64 tn, .int .i64 ((tat : Int) + (i : Int)), .bool true] 30)).drewN q)
                      unfold aggT at this
                      rwa [show ((i + tat : Nat) : Int) = (tat : Int) + (i : Int) by omega] at this
                    go_wp2_with fail
                    go_quiet (fail)
                    go_wp2_with fail
                    go_roundw
                    case rel => exact ⟨j + 1, by go_num, by omega, Lib.hid ((hOV.out.same (Only.alloc _ _ _)).same (Only.drewN _ _ _))⟩
                    case measure => simp [intOf]; omega
                  | false =>
                    by_cases hj0 : j = 0
                    · have b4' : wr.cell? ⟨g2, j * 5 + 4, none⟩ = some (.bool true) := by rw [HB4.out]; show some (Value.bool (false || decide (j = 0))) = _; rw [decide_eq_true hj0]; rfl
                      have hj1 : ((j : Int) == 0) = true := by rw [beq_iff_eq]; omega
                      clear hj0
                      have hq : ∀ q, (binOp .neq 30 (.agg #[.int .i64 kd, .string (bstr ts), .int .i64 tn, .int .i64 ((tat : Int) + (i : Int)), .bool true]) (.agg #[.int .i64 kd, .string (bstr ts), .int .i64 tn, .int .i64 ((tat : Int) + (i : Int)), .bool true])).run Tryd.prog ((wr.alloc (.cells #[.int .i64 kd, .string (bstr ts), .int .i64 tn, .int .i64 ((tat : Int) + (i : Int)), .bool true] 30)).drewN q) = .ok (.bool false) ((wr.alloc (.cells #[.int .i64 kd, .string (bstr ts), .int .i64 tn, .int .i64 ((tat : Int) + (i : Int)), .bool true] 30)).drewN q) := fun q => by
                        have := neqT ⟨kd, ts, tn, i + tat, true⟩ ((wr.alloc (.cells #[.int .i64 kd, .string (bstr ts), .int .i64 tn, .int .i64 ((tat : Int) + (i : Int)), .bool true] 30)).drewN q)
                        unfold aggT at this
                        rwa [show ((i + tat : Nat) : Int) = (tat : Int) + (i : Int) by omega] at this
                      go_wp2_with fail
                      go_quiet (fail)
                      go_wp2_with fail
                      go_roundw
                      case rel => exact ⟨j + 1, by go_num, by omega, Lib.hid ((hOV.out.same (Only.alloc _ _ _)).same (Only.drewN _ _ _))⟩
                      case measure => simp [intOf]; omega
                    · have b4' : wr.cell? ⟨g2, j * 5 + 4, none⟩ = some (.bool false) := by rw [HB4.out]; show some (Value.bool (false || decide (j = 0))) = _; rw [decide_eq_false hj0]; rfl
                      have hj1 : ((j : Int) == 0) = false := by rw [beq_eq_false_iff_ne]; omega
                      clear hj0
                      have hq : ∀ q, (binOp .neq 30 (.agg #[.int .i64 kd, .string (bstr ts), .int .i64 tn, .int .i64 ((tat : Int) + (i : Int)), .bool false]) (.agg #[.int .i64 kd, .string (bstr ts), .int .i64 tn, .int .i64 ((tat : Int) + (i : Int)), .bool false])).run Tryd.prog ((wr.alloc (.cells #[.int .i64 kd, .string (bstr ts), .int .i64 tn, .int .i64 ((tat : Int) + (i : Int)), .bool false] 30)).drewN q) = .ok (.bool false) ((wr.alloc (.cells #[.int .i64 kd, .string (bstr ts), .int .i64 tn, .int .i64 ((tat : Int) + (i : Int)), .bool false] 30)).drewN q) := fun q => by
                        have := neqT ⟨kd, ts, tn, i + tat, false⟩ ((wr.alloc (.cells #[.int .i64 kd, .string (bstr ts), .int .i64 tn, .int .i64 ((tat : Int) + (i : Int)), .bool false] 30)).drewN q)
                        unfold aggT at this
                        rwa [show ((i + tat : Nat) : Int) = (tat : Int) + (i : Int) by omega] at this
                      go_wp2_with fail
                      go_quiet (fail)
                      go_wp2_with fail
                      go_roundw
                      case rel => exact ⟨j + 1, by go_num, by omega, Lib.hid ((hOV.out.same (Only.alloc _ _ _)).same (Only.drewN _ _ _))⟩
                      case measure => simp [intOf]; omega
                · obtain rfl : j = l.length := by omega
                  go_wp2_with fail
                  go_ret
                  exact ⟨rfl, (HO5.out.same hOV.out).to_below⟩
end Go.Proofs.YtogccafnfpmgmaaDoor.toks
