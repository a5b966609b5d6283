/- Tokens: the reference's Scan and All. -/
import Derived.Test.YtogccafnfpmgmaaDoorTokRB
namespace Go.Proofs.YtogccafnfpmgmaaDoor.toks
open Go.RowKit Go.Proofs.YtogccafnfpmgmaaDoor.own
set_option maxHeartbeats 2000000 in
theorem one_any (ao : Option Addr) (cap : Nat) (bs : List UInt8) (i : Nat) (w : World) (hb : Byts ao bs w) (hi : i < bs.length) (hl : bs.length ≤ 1000000) (hc : bs.length ≤ cap) :
    Calls Tryd.prog 32 #[.slice ao bs.length cap, .int .i64 i] w fun e w' => e = .returned (ansO i (readF (bs.drop i))) ∧ Only (fun _ => False) w w' := by
  obtain ⟨x, hx⟩ : ∃ x, bs[i]? = some x := ⟨_, List.getElem?_eq_getElem hi⟩
  obtain ⟨b, off, rfl, _, _⟩ := hb i x hx
  have hd := drop_at hx
  have hR : readF (bs.drop i) = if (iv x == 46 && endsF (bs.drop (i + 1))) = true then .ok 6 [x] 0 1
    else if (iv x == 46 || signB (iv x)) = true then nameF 1 signB (bs.drop i)
    else if smallB (iv x) = true then nameF 1 wordB (bs.drop i)
    else if (capB (iv x) || iv x == 95) = true then nameF 3 wordB (bs.drop i)
    else if digB (iv x) = true then numberF (bs.drop i)
    else if aloneB (iv x) = true then .ok 1 [x] 0 1
    else if punctB (iv x) = true then .ok 5 [x] 0 1
    else if (iv x == 39) = true then quotedF (bs.drop i)
    else .no 80 := by rw [hd]; rfl
  rw [hR]
  by_cases h46 : (iv x == 46) = true
  · by_cases hi1 : i + 1 < bs.length
    · obtain ⟨y, hy⟩ : ∃ y, bs[i + 1]? = some y := ⟨_, List.getElem?_eq_getElem hi1⟩
      have hE : endsF (bs.drop (i + 1)) = (blankB (iv y) || iv y == 37) := by rw [drop_at hy]; rfl
      have uniq : ∀ z, bs[i + 1]? = some z → z = y := fun z hz => Option.some.inj (hz.symm.trans hy)
      cases hbl : blankB (iv y) with
      | true =>
        rw [if_pos (by rw [h46, hE, hbl]; rfl)]
        exact one_end2 b off cap bs i x w hb hi hl hc hx hi1 (fun z hz => by rw [uniq z hz]; exact hbl) h46
      | false =>
        cases h37 : (iv y == 37) with
        | true =>
          rw [if_pos (by rw [h46, hE, h37]; simp)]
          exact one_end3 b off cap bs i x w hb hi hl hc hx hi1 (fun z hz => by rw [uniq z hz]; exact hbl) (fun z hz => by rw [uniq z hz]; exact h37) h46
        | false =>
          rw [if_neg (by rw [hE, hbl, h37]; simp), if_pos (by rw [h46]; rfl)]
          exact one_dot b off cap bs i x w hb hi hl hc hx hi1 (fun z hz => by rw [uniq z hz]; exact hbl) (fun z hz => by rw [uniq z hz]; exact h37) h46
    · rw [if_pos (by rw [h46, drop_end hi1]; rfl)]
      exact one_end1 b off cap bs i x w hb hi hl hc hx hi1 h46
  · have h46' : (iv x == 46) = false := by simpa using h46
    rw [if_neg (by rw [h46']; simp), h46', Bool.false_or]
    by_cases hsg : signB (iv x) = true
    · rw [if_pos hsg]
      exact one_sign b off cap bs i x w hb hi hl hc hx (by rw [hsg, h46']; rfl)
    · rw [if_neg hsg]
      by_cases hsm : smallB (iv x) = true
      · rw [if_pos hsm]
        exact one_small b off cap bs i x w hb hi hl hc hx hsm
      · rw [if_neg hsm]
        by_cases hcp : (capB (iv x) || iv x == 95) = true
        · rw [if_pos hcp]
          exact one_cap b off cap bs i x w hb hi hl hc hx hcp
        · rw [if_neg hcp]
          by_cases hdg : digB (iv x) = true
          · rw [if_pos hdg]
            exact one_digit b off cap bs i x w hb hi hl hc hx hdg
          · rw [if_neg hdg]
            have b33 := one_bang b off cap bs i x w hb hi hl hc hx
            have b59 := one_semi b off cap bs i x w hb hi hl hc hx
            by_cases hal : aloneB (iv x) = true
            · rw [if_pos hal]
              have h := hal
              unfold aloneB at h
              rw [Bool.or_eq_true] at h
              rcases h with h | h
              · exact b33 h
              · exact b59 h
            · rw [if_neg hal]
              by_cases hpu : punctB (iv x) = true
              · rw [if_pos hpu]
                have h := hpu
                unfold punctB at h
                simp only [Bool.or_eq_true] at h
                rcases h with h | h | h | h | h | h | h | h
                · exact one_punct40 b off cap bs i x w hb hi hl hc hx h
                · exact one_punct41 b off cap bs i x w hb hi hl hc hx h
                · exact one_punct91 b off cap bs i x w hb hi hl hc hx h
                · exact one_punct93 b off cap bs i x w hb hi hl hc hx h
                · exact one_punct123 b off cap bs i x w hb hi hl hc hx h
                · exact one_punct125 b off cap bs i x w hb hi hl hc hx h
                · exact one_punct44 b off cap bs i x w hb hi hl hc hx h
                · exact one_punct124 b off cap bs i x w hb hi hl hc hx h
              · rw [if_neg hpu]
                by_cases h39 : (iv x == 39) = true
                · rw [if_pos h39]
                  exact one_quote b off cap bs i x w hb hi hl hc hx h39
                · rw [if_neg h39]
                  refine one_none b off cap bs i x w hb hi hl hc hx ?_
                  have n1 : smallB (iv x) = false := by simpa using hsm
                  have n2 : signB (iv x) = false := by simpa using hsg
                  have n3 : aloneB (iv x) = false := by simpa using hal
                  have n4 : punctB (iv x) = false := by simpa using hpu
                  have n5 : digB (iv x) = false := by simpa using hdg
                  have n6 : (capB (iv x) || iv x == 95) = false := by simpa using hcp
                  have n7 : (iv x == 39) = false := by simpa using h39
                  unfold aloneB at n3
                  unfold punctB at n4
                  simp only [Bool.or_eq_false_iff] at n3 n4 n6
                  have n8 : wordB (iv x) = false := by unfold wordB; rw [n1, n5, n6.1, n6.2]; rfl
                  simp [n1, n2, n3, n4, n7, n8]
set_option maxRecDepth 100000 in
set_option maxHeartbeats 8000000 in
theorem rscan_any (ao : Option Addr) (cap : Nat) (bs : List UInt8) (i : Nat) (w : World) (hb : Byts ao bs w) (hi : i ≤ bs.length) (hl : bs.length ≤ 65536) (hc : bs.length ≤ cap) :
    Calls Tryd.prog 16 #[.slice ao bs.length cap, .int .i64 i] w fun e w' => e = .returned (ansS (scanF bs i)) ∧ Only (fun _ => False) w w' := by
  have HSK : Hid (∀ W, Only (fun _ => False) w W → Calls Tryd.prog 31 #[.slice ao bs.length cap, .int .i64 i] W fun e w' => e = .returned (.tuple #[.int .i64 ((skipA bs bs.length i).1 : Nat), .bool (skipA bs bs.length i).2]) ∧ w' = W) := Lib.hid (fun W ho => rskip_any ao cap bs i W (hb.later ho) hi (by omega))
  have HRD : Hid (∀ j W, j < bs.length → Only (fun _ => False) w W → Calls Tryd.prog 32 #[.slice ao bs.length cap, .int .i64 j] W fun e w' => e = .returned (ansO j (readF (bs.drop j))) ∧ Only (fun _ => False) W w') := Lib.hid (fun j W h1 ho => one_any ao cap bs j W (hb.later ho) h1 (by omega) hc)
  have HSF : Hid (scanF bs i = if (skipA bs bs.length i).2 = false then .no (skipA bs bs.length i).1 80
  else if (skipA bs bs.length i).1 = bs.length then .no bs.length 4
  else match readF (bs.drop (skipA bs bs.length i).1) with
    | .no e => .no (skipA bs bs.length i).1 e
    | .ok kd s n len => .ok kd s n (skipA bs bs.length i).1 (decide (i < (skipA bs bs.length i).1)) ((skipA bs bs.length i).1 + len)) := Lib.hid rfl
  obtain ⟨hj1, hj2⟩ := skipA_le (m := bs.length) hi
  have HBX : Hid ((w.alloc (.cells #[.int .i64 0, .string ⟨#[]⟩, .int .i64 0, .int .i64 0, .bool false] 30)).heap[w.heap.size]? = some (.cells #[.int .i64 0, .string ⟨#[]⟩, .int .i64 0, .int .i64 0, .bool false] 30 (0, 0))) := Lib.hid (heap_alloc_new w _)
  have HO0 : Hid (Only (fun _ => False) w (w.alloc (.cells #[.int .i64 0, .string ⟨#[]⟩, .int .i64 0, .int .i64 0, .bool false] 30))) := Lib.hid (Only.alloc _ _ _)
  have HSK0 := Lib.hid (HSK.out _ HO0.out)
  clear hb HSK
  generalize skipA bs bs.length i = sk at *
  obtain ⟨j, ok⟩ := sk
  have hbig : ¬ (65536 : Int) < (bs.length : Int) := by omega
  have hi0 : ¬ (i : Int) < 0 := by omega
  have hi1 : ¬ (bs.length : Int) < (i : Int) := by omega
  cases ok with
  | false =>
    have HN : Hid (scanF bs i = .no j 80) := Lib.hid (by rw [HSF.out, if_pos rfl])
    have HSK1 : Hid (Calls Tryd.prog 31 #[.slice ao bs.length cap, .int .i64 i] (w.alloc (.cells #[.int .i64 0, .string ⟨#[]⟩, .int .i64 0, .int .i64 0, .bool false] 30)) fun e w' => e = .returned (.tuple #[.int .i64 (j : Nat), .bool false]) ∧ w' = w.alloc (.cells #[.int .i64 0, .string ⟨#[]⟩, .int .i64 0, .int .i64 0, .bool false] 30)) := Lib.hid HSK0.out
    clear HSF HSK0
    go_enter Tryd.func16, Tryd.ntmps16
    go_wp2_with fail
    refine HSK1.out.mono ?_
    rintro e w1 ⟨rfl, rfl⟩
    go_wp2_with fail
    refine bodyPost_ret (v := ansS (.no j 80)) (results_tok rfl _ _ w.heap.size _ _ _ _ _ _ _ rfl rfl rfl HBX.out) rfl ?_
    exact ⟨by rw [HN.out], HO0.out⟩
  | true =>
    have HSK1 : Hid (Calls Tryd.prog 31 #[.slice ao bs.length cap, .int .i64 i] (w.alloc (.cells #[.int .i64 0, .string ⟨#[]⟩, .int .i64 0, .int .i64 0, .bool false] 30)) fun e w' => e = .returned (.tuple #[.int .i64 (j : Nat), .bool true]) ∧ w' = w.alloc (.cells #[.int .i64 0, .string ⟨#[]⟩, .int .i64 0, .int .i64 0, .bool false] 30)) := Lib.hid HSK0.out
    by_cases hj : j = bs.length
    · have HN : Hid (scanF bs i = .no bs.length 4) := Lib.hid (by rw [HSF.out, if_neg (by simp), if_pos hj])
      have hq : ((j : Int) == (bs.length : Int)) = true := by rw [beq_iff_eq]; omega
      clear HSF HSK0
      go_enter Tryd.func16, Tryd.ntmps16
      go_wp2_with fail
      refine HSK1.out.mono ?_
      rintro e w1 ⟨rfl, rfl⟩
      go_wp2_with fail
      refine bodyPost_ret (v := ansS (.no bs.length 4)) (results_tok rfl _ _ w.heap.size _ _ _ _ _ _ _ rfl (by rw [← hj]; rfl) rfl HBX.out) rfl ?_
      exact ⟨by rw [HN.out], HO0.out⟩
    · have hq : ((j : Int) == (bs.length : Int)) = false := by rw [beq_eq_false_iff_ne]; omega
      have HR0 := Lib.hid (HRD.out j _ (by omega) HO0.out)
      have HSF2 : Hid (scanF bs i = match readF (bs.drop j) with | .no e => .no j e | .ok kd s n len => .ok kd s n j (decide (i < j)) (j + len)) := Lib.hid (by rw [HSF.out, if_neg (by simp), if_neg hj])
      clear HSF HSK0 HRD
      cases hrd : readF (bs.drop j) with
      | no er =>
        have her : (er == 0) = false := by rw [beq_eq_false_iff_ne]; exact readF_no hrd
        rw [hrd] at HR0 HSF2
        have HN : Hid (scanF bs i = .no j er) := Lib.hid HSF2.out
        clear HSF2 hrd
        unfold ansO at HR0
        go_enter Tryd.func16, Tryd.ntmps16
        go_wp2_with fail
        refine HSK1.out.mono ?_
        rintro e w1 ⟨rfl, rfl⟩
        go_wp2_with fail
        refine HR0.out.mono ?_
        rintro e w2 ⟨rfl, ho⟩
        have hb2 : (w2.alloc (.cells #[.int .i64 0, .string ⟨#[]⟩, .int .i64 0, .int .i64 0, .bool false] 30)).heap[w.heap.size]? = some (.cells #[.int .i64 0, .string ⟨#[]⟩, .int .i64 0, .int .i64 0, .bool false] 30 (0, 0)) := by
          have h1 : w2.heap[w.heap.size]? = some (.cells #[.int .i64 0, .string ⟨#[]⟩, .int .i64 0, .int .i64 0, .bool false] 30 (0, 0)) := by
            rw [ho.block w.heap.size (by simp) (fun e => e)]
            exact HBX.out
          rw [(Only.alloc (fun _ => False) w2 (.cells #[.int .i64 0, .string ⟨#[]⟩, .int .i64 0, .int .i64 0, .bool false] 30)).block w.heap.size (lt_of_block h1) (fun e => e)]
          exact h1
        have HB2 := Lib.hid hb2
        have HO2 : Hid (Only (fun _ => False) w (w2.alloc (.cells #[.int .i64 0, .string ⟨#[]⟩, .int .i64 0, .int .i64 0, .bool false] 30))) := Lib.hid ((HO0.out.same ho).same (Only.alloc _ _ _))
        obtain ⟨⟨t0, t1, t2, t3, t4⟩, f0, f1, f2, f3, f4⟩ := tk_cells hb2
        clear ho hb2
        go_wp2_with fail
        refine bodyPost_ret (v := ansS (.no j er)) (results_tok rfl _ _ w.heap.size _ _ _ _ _ _ _ rfl rfl rfl (tk_set HB2.out _ _ _ _ _).1) rfl ?_
        exact ⟨by rw [HN.out], Only.cut HO2.out (tk_set HB2.out _ _ _ _ _).2 (fun q e => by omega)⟩
      | ok kd ss nn len =>
        rw [hrd] at HR0 HSF2
        have HN : Hid (scanF bs i = .ok kd ss nn j (decide (i < j)) (j + len)) := Lib.hid HSF2.out
        clear HSF2 hrd
        unfold ansO at HR0
        go_enter Tryd.func16, Tryd.ntmps16
        go_wp2_with fail
        refine HSK1.out.mono ?_
        rintro e w1 ⟨rfl, rfl⟩
        go_wp2_with fail
        refine HR0.out.mono ?_
        rintro e w2 ⟨rfl, ho⟩
        have hb2 : (w2.alloc (.cells #[.int .i64 kd, .string (bstr ss), .int .i64 nn, .int .i64 j, .bool (decide (i < j))] 30)).heap[w.heap.size]? = some (.cells #[.int .i64 0, .string ⟨#[]⟩, .int .i64 0, .int .i64 0, .bool false] 30 (0, 0)) := by
          have h1 : w2.heap[w.heap.size]? = some (.cells #[.int .i64 0, .string ⟨#[]⟩, .int .i64 0, .int .i64 0, .bool false] 30 (0, 0)) := by
            rw [ho.block w.heap.size (by simp) (fun e => e)]
            exact HBX.out
          rw [(Only.alloc (fun _ => False) w2 (.cells #[.int .i64 kd, .string (bstr ss), .int .i64 nn, .int .i64 j, .bool (decide (i < j))] 30)).block w.heap.size (lt_of_block h1) (fun e => e)]
          exact h1
        have HB2 := Lib.hid hb2
        have HO2 : Hid (Only (fun _ => False) w (w2.alloc (.cells #[.int .i64 kd, .string (bstr ss), .int .i64 nn, .int .i64 j, .bool (decide (i < j))] 30))) := Lib.hid ((HO0.out.same ho).same (Only.alloc _ _ _))
        obtain ⟨⟨t0, t1, t2, t3, t4⟩, f0, f1, f2, f3, f4⟩ := tk_cells hb2
        clear ho hb2
        go_wp2_with fail
        refine bodyPost_ret (v := ansS (.ok kd ss nn j (decide (i < j)) (j + len))) (results_tok rfl _ _ w.heap.size _ _ _ _ _ _ _ rfl (by rw [Int.natCast_add]; rfl) rfl (tk_set HB2.out _ _ _ _ _).1) rfl ?_
        exact ⟨by rw [HN.out], Only.cut HO2.out (tk_set HB2.out _ _ _ _ _).2 (fun q e => by omega)⟩
set_option maxRecDepth 100000 in
set_option maxHeartbeats 8000000 in
theorem rall_any (ao : Option Addr) (cap : Nat) (bs : List UInt8) (w : World) (hb : Byts ao bs w) (hl : bs.length ≤ 65536) (hc : bs.length ≤ cap) :
    Calls Tryd.prog 9 #[.slice ao bs.length cap] w fun e w' => AllIs w.heap.size e w' (allF bs) ∧ Only (fun _ => False) w w' := by
  obtain ⟨i0, hinf, hz0, hz1, hz2⟩ := info_parts infoT
  have HSC : Hid (∀ j W, j ≤ bs.length → Only (fun _ => False) w W → Calls Tryd.prog 16 #[.slice ao bs.length cap, .int .i64 j] W fun e w' => e = .returned (ansS (scanF bs j)) ∧ Only (fun _ => False) W w') := Lib.hid (fun j W h1 ho => rscan_any ao cap bs j W (hb.later ho) h1 hl hc)
  have HF : Hid (allF bs = allL (bs.length + 1) bs 0 []) := Lib.hid rfl
  generalize allF bs = Q at *
  clear hb
  go_enter Tryd.func9, Tryd.ntmps9
  go_wp2_with fail
  go_loopw [5, 6] (fun tx c wr => ∃ (j m : Nat) (acc : List Tk) (ro : Option Addr) (rc : Nat), c = .int .i64 j ∧ j ≤ bs.length ∧ tx = .slice ro acc.length rc ∧ Hid (allL m bs j acc = Q ∧ bs.length + 1 ≤ m + j ∧ RowOf encT 5 30 w.heap.size ro rc acc wr ∧ Only (fun _ => False) w wr ∧ acc.length ≤ j)) (fun _ c _ => bs.length - (intOf c).toNat)
  case atStart => exact ⟨0, bs.length + 1, [], none, 0, rfl, by omega, rfl, Lib.hid ⟨HF.out.symm, by omega, RowOf.nil _ _ _ _ _, Only.refl _ _, by simp⟩⟩
  case round =>
    obtain ⟨j, m, acc, ro, rc, rfl, hj, rfl, hI⟩ := hrel
    have HCA := Lib.hid (HSC.out j wr hj hI.out.2.2.2.1)
    obtain ⟨m, rfl⟩ : ∃ m', m = m' + 1 := ⟨m - 1, by have := hI.out.2.1; omega⟩
    have HST : Hid (Q = match scanF bs j with
    | .ok kd s n at_ lay next => allL m bs next (acc ++ [⟨kd, s, n, at_, lay⟩])
    | .no next e => if e = 4 then .ok acc next else .no next e) := Lib.hid hI.out.1.symm
    have HJ := Lib.hid hj
    have HM : Hid (bs.length ≤ m + j) := Lib.hid (by have := hI.out.2.1; omega)
    have HROW := Lib.hid hI.out.2.2
    clear hI hj
    cases hsc : scanF bs j with
    | no next er =>
      have her := scanF_no hsc
      rw [hsc] at HCA HST
      unfold ansS at HCA
      clear hsc
      by_cases h4 : er = 4
      · subst h4
        have HQ : Hid (Q = .ok acc next) := Lib.hid (by rw [HST.out]; rfl)
        clear HST
        go_wp2_with fail
        refine HCA.out.mono ?_
        rintro e w1 ⟨rfl, ho⟩
        go_wp2_with fail
        go_ret3
        refine ⟨?_, HROW.out.2.1.same (ho.same (Only.alloc _ _ _))⟩
        rw [HQ.out]
        exact ⟨_, _, rfl, HROW.out.1.only (ho.same (Only.alloc _ _ _)) (fun _ _ e => e), by have := HROW.out.2.2; have := HJ.out; omega⟩
      · have HQ : Hid (Q = .no next er) := Lib.hid (by rw [HST.out]; exact if_neg h4)
        have h40 : (er == 4) = false := by rw [beq_eq_false_iff_ne]; exact h4
        have h00 : (er == 0) = false := by rw [beq_eq_false_iff_ne]; exact her
        clear HST
        go_wp2_with fail
        refine HCA.out.mono ?_
        rintro e w1 ⟨rfl, ho⟩
        go_wp2_with fail
        go_ret3
        refine ⟨?_, HROW.out.2.1.same (ho.same (Only.alloc _ _ _))⟩
        rw [HQ.out]
        exact ⟨rfl, her⟩
    | ok kd s n at_ lay next =>
      obtain ⟨hn1, hn2, hn3⟩ := scanF_ok HJ.out hsc
      rw [hsc] at HCA HST
      have HQ : Hid (allL m bs next (acc ++ [⟨kd, s, n, at_, lay⟩]) = Q) := Lib.hid HST.out.symm
      have HLEN : Hid ((acc ++ [(⟨kd, s, n, at_, lay⟩ : Tk)]).length = acc.length + 1) := Lib.hid (by simp)
      have HNX : Hid (j + 1 ≤ next ∧ next ≤ bs.length) := Lib.hid ⟨by omega, by omega⟩
      have HAL : Hid (acc.length ≤ 16777216) := Lib.hid (by have := HROW.out.2.2; omega)
      have HSZ : Hid (∀ w1, Only (fun _ => False) wr w1 → w.heap.size ≤ w1.heap.size) := Lib.hid (fun w1 ho => Nat.le_trans HROW.out.2.1.size ho.size)
      unfold ansS at HCA
      clear hsc HST hn1 hn2 hn3
      go_wp2_with fail
      refine HCA.out.mono ?_
      rintro e w1 ⟨rfl, ho⟩
      have HO1 := Lib.hid ho
      have hb2 : (w1.alloc (.cells #[.int .i64 kd, .string (bstr s), .int .i64 n, .int .i64 at_, .bool lay] 30)).heap[w1.heap.size]? = some (.cells #[.int .i64 kd, .string (bstr s), .int .i64 n, .int .i64 at_, .bool lay] 30 (0, 0)) := heap_alloc_new w1 _
      obtain ⟨⟨t0, t1, t2, t3, t4⟩, f0, f1, f2, f3, f4⟩ := tk_cells hb2
      clear ho hb2
      go_wp2_with (first | (at_builtin; apply Classical.byContradiction; intro hstop) | fail)
      apply hstop
      clear hstop
      have HOA : Hid (Only (fun _ => False) wr (w1.alloc (.cells #[.int .i64 kd, .string (bstr s), .int .i64 n, .int .i64 at_, .bool lay] 30))) := Lib.hid (HO1.out.same (Only.alloc _ _ _))
      have hzz : (w1.alloc (.cells #[.int .i64 kd, .string (bstr s), .int .i64 n, .int .i64 at_, .bool lay] 30)).heap.size = w1.heap.size + 1 := by simp
      rw [← hzz]
      clear t0 t1 t2 t3 t4 f0 f1 f2 f3 f4 HO1
      generalize w1.alloc (.cells #[.int .i64 kd, .string (bstr s), .int .i64 n, .int .i64 at_, .bool lay] 30) = wB at *
      refine wp_append_one lieT rfl (.tmp 25) (.tmp 27) 24 rfl w.heap.size 30 i0 _ 48 Tryd.underlying24 hinf hz0 hz1 hz2 rfl (by omega) wB ro rc acc ⟨kd, s, n, at_, lay⟩ [.int .i64 kd, .string (bstr s), .int .i64 n, .int .i64 at_, .bool lay] rfl rfl (HROW.out.1.only HOA.out (fun _ _ e => e)) rfl HAL.out (HSZ.out _ HOA.out) ?_
      intro ro' rc' w6 hrow6 ho6 hnew6
      have hfr : Only (fun _ => False) w w6 := (HROW.out.2.1.same HOA.out).trans ho6 (fun q hq e => by
        obtain ⟨g, hg, e2⟩ := e
        exact absurd (Nat.lt_of_lt_of_le hq (Nat.le_trans (HROW.out.1.head g hg).2.1 (Nat.le_of_eq e2.symm))) (Nat.lt_irrefl _))
      have HR6 := Lib.hid (And.intro hrow6 hfr)
      have HAJ := Lib.hid HROW.out.2.2
      clear hrow6 ho6 hnew6 hfr HAL HROW HSC HCA HOA hzz HSZ
      go_wp2_with fail
      go_roundw
      case rel =>
        exact ⟨next, m, acc ++ [⟨kd, s, n, at_, lay⟩], ro', rc', rfl, HNX.out.2, (by first | rfl | rw [HLEN.out]), Lib.hid ⟨HQ.out, by have := HM.out; have := HNX.out.1; omega, HR6.out.1, HR6.out.2, by rw [HLEN.out]; have := HAJ.out; have := HNX.out.1; omega⟩⟩
      case measure =>
        show bs.length - next < bs.length - j
        have := HNX.out
        omega
end Go.Proofs.YtogccafnfpmgmaaDoor.toks
