/- Tokens: the token that begins at a place; Scan. -/
import Derived.Test.YtogccafnfpmgmaaDoorTokI
namespace Go.Proofs.YtogccafnfpmgmaaDoor.toks
open Go.RowKit Go.Proofs.YtogccafnfpmgmaaDoor.own
/-- The token that begins there. -/
def readF : List UInt8 → TR
  | [] => .no 80
  | x :: t =>
    if (iv x == 46 && endsF t) = true then .ok 6 [x] 0 1
    else if (iv x == 46 || signB (iv x)) = true then nameF 1 signB (x :: t)
    else if smallB (iv x) = true then nameF 1 wordB (x :: t)
    else if (capB (iv x) || iv x == 95) = true then nameF 3 wordB (x :: t)
    else if digB (iv x) = true then numberF (x :: t)
    else if aloneB (iv x) = true then .ok 1 [x] 0 1
    else if punctB (iv x) = true then .ok 5 [x] 0 1
    else if (iv x == 39) = true then quotedF (x :: t)
    else .no 80
set_option maxRecDepth 100000 in
set_option maxHeartbeats 16000000 in
theorem read_any (ao : Option Addr) (cap : Nat) (bs : List UInt8) (i : Nat) (w : World) (hb : Byts ao bs w) (hi : i < bs.length) (hl : bs.length ≤ 1000000) (hc : bs.length ≤ cap) :
    Calls Tryd.prog 30 #[.slice ao bs.length cap, .int .i64 i] w fun e w' => e = .returned (ansR i (readF (bs.drop i))) ∧ Only (fun _ => False) w w' := by
  obtain ⟨x, hx⟩ : ∃ x, bs[i]? = some x := ⟨_, List.getElem?_eq_getElem hi⟩
  obtain ⟨b, off, rfl, hb1, c0⟩ := hb i x hx
  have HD := Lib.hid (drop_at hx)
  have ho0 : Only (fun _ => False) w (w.alloc (.cells #[.int .i64 0, .string ⟨#[]⟩, .int .i64 0, .int .i64 0, .bool false] 30)) := Only.alloc _ _ _
  have c0' := (ho0.cell (p := ⟨b, off + i, none⟩) hb1 (fun e => e)).trans c0
  have hbx := heap_alloc_new w (.cells #[.int .i64 0, .string ⟨#[]⟩, .int .i64 0, .int .i64 0, .bool false] 30)
  have HBX := Lib.hid hbx
  have HO0 := Lib.hid ho0
  have HRF : Hid (readF (bs.drop i) = if (iv x == 46 && endsF (bs.drop (i + 1))) = true then .ok 6 [x] 0 1
    else if (iv x == 46 || signB (iv x)) = true then nameF 1 signB (bs.drop i)
    else if smallB (iv x) = true then nameF 1 wordB (bs.drop i)
    else if (capB (iv x) || iv x == 95) = true then nameF 3 wordB (bs.drop i)
    else if digB (iv x) = true then numberF (bs.drop i)
    else if aloneB (iv x) = true then .ok 1 [x] 0 1
    else if punctB (iv x) = true then .ok 5 [x] 0 1
    else if (iv x == 39) = true then quotedF (bs.drop i)
    else .no 80) := Lib.hid (by rw [HD.out]; rfl)
  have HSI : Hid (∀ kd W, Only (fun _ => False) w W → Calls Tryd.prog 44 #[.int .i64 kd, .slice (some ⟨b, off, none⟩) bs.length cap, .int .i64 i] W fun e w' => e = .returned (ansR i (.ok kd [x] 0 1)) ∧ Only (fun _ => False) W w') := Lib.hid (fun kd W ho => single_any kd _ cap bs i x W (hb.later ho) hx hl hc)
  have HNS : Hid (∀ W, Only (fun _ => False) w W → Calls Tryd.prog 45 #[.int .i64 1, .slice (some ⟨b, off, none⟩) bs.length cap, .int .i64 i, .func (.func 25) #[] #[]] W fun e w' => e = .returned (ansR i (nameF 1 signB (bs.drop i))) ∧ Only (fun _ => False) W w') := Lib.hid (fun W ho => name_any _ signB isSign_any (fun _ _ => rfl) 1 _ cap bs i W (hb.later ho) hi hl hc)
  have HNW : Hid (∀ kd W, Only (fun _ => False) w W → Calls Tryd.prog 45 #[.int .i64 kd, .slice (some ⟨b, off, none⟩) bs.length cap, .int .i64 i, .func (.func 23) #[] #[]] W fun e w' => e = .returned (ansR i (nameF kd wordB (bs.drop i))) ∧ Only (fun _ => False) W w') := Lib.hid (fun kd W ho => name_any _ wordB isInName_any (fun _ _ => rfl) kd _ cap bs i W (hb.later ho) hi hl hc)
  have HNU : Hid (∀ W, Only (fun _ => False) w W → Calls Tryd.prog 46 #[.slice (some ⟨b, off, none⟩) bs.length cap, .int .i64 i] W fun e w' => e = .returned (ansR i (numberF (bs.drop i))) ∧ Only (fun _ => False) W w') := Lib.hid (fun W ho => number_any _ cap bs i W (hb.later ho) hi hl hc)
  have HQU : Hid (∀ W, Only (fun _ => False) w W → Calls Tryd.prog 49 #[.slice (some ⟨b, off, none⟩) bs.length cap, .int .i64 i] W fun e w' => e = .returned (ansR i (quotedF (bs.drop i))) ∧ Only (fun _ => False) W w') := Lib.hid (fun W ho => quoted_any b off cap bs i W (hb.later ho) hi hl hc)
  have HEN : Hid (∀ W, Only (fun _ => False) w W → Calls Tryd.prog 43 #[.slice (some ⟨b, off, none⟩) bs.length cap, .int .i64 i] W fun e w' => e = .returned (.bool (endsF (bs.drop (i + 1)))) ∧ w' = W) := Lib.hid (fun W ho => ends_any _ cap bs i W (hb.later ho) hi hl)
  have HSG : Hid (∀ W, Calls Tryd.prog 25 #[.int .i32 (iv x)] W fun e w' => e = .returned (.bool (signB (iv x))) ∧ w' = W) := Lib.hid (isSign_any _)
  have HSM : Hid (∀ W, Calls Tryd.prog 21 #[.int .i32 (iv x)] W fun e w' => e = .returned (.bool (smallB (iv x))) ∧ w' = W) := Lib.hid (isSmall_any _)
  have HCA : Hid (∀ W, Calls Tryd.prog 36 #[.int .i32 (iv x)] W fun e w' => e = .returned (.bool (capB (iv x))) ∧ w' = W) := Lib.hid (isCapital_any _)
  have HDI : Hid (∀ W, Calls Tryd.prog 37 #[.int .i32 (iv x)] W fun e w' => e = .returned (.bool (digB (iv x))) ∧ w' = W) := Lib.hid (isDigit_any _)
  have HAL : Hid (∀ W, Calls Tryd.prog 47 #[.int .i32 (iv x)] W fun e w' => e = .returned (.bool (aloneB (iv x))) ∧ w' = W) := Lib.hid (isAlone_any _)
  have HPU : Hid (∀ W, Calls Tryd.prog 48 #[.int .i32 (iv x)] W fun e w' => e = .returned (.bool (punctB (iv x))) ∧ w' = W) := Lib.hid (isPunct_any _)
  have hwr := wrapU x
  have q0 : (0 : Int) ≤ (i : Int) := by omega
  have q1 : (i : Int) < (bs.length : Int) := by omega
  generalize nameF 1 signB (bs.drop i) = rs at *
  have HNW1 := Lib.hid (HNW.out 1)
  have HNW3 := Lib.hid (HNW.out 3)
  clear HNW
  generalize nameF 1 wordB (bs.drop i) = rw1 at *
  generalize nameF 3 wordB (bs.drop i) = rw3 at *
  generalize numberF (bs.drop i) = rn at *
  generalize quotedF (bs.drop i) = rq at *
  generalize endsF (bs.drop (i + 1)) = en at *
  clear hb hx c0 ho0 hbx
  cases e46 : (iv x == 46) with
  | true =>
    cases een : en with
    | true =>
      rw [een] at HEN
      have HN : Hid (readF (bs.drop i) = .ok 6 [x] 0 1) := Lib.hid (by rw [HRF.out]; simp only [e46, een]; first | rfl | simp)
      clear HRF
      go_enter Tryd.func30, Tryd.ntmps30
      go_wp2_with fail
      refine (HEN.out _ HO0.out).mono ?_
      rintro e w1 ⟨rfl, rfl⟩
      go_wp2_with fail
      refine (HSI.out 6 _ HO0.out).mono ?_
      rintro e w2 ⟨rfl, ho⟩
      have HB2 : Hid (w2.heap[w.heap.size]? = some (.cells #[.int .i64 0, .string ⟨#[]⟩, .int .i64 0, .int .i64 0, .bool false] 30 (0, 0))) := Lib.hid (by rw [ho.block w.heap.size (by simp) (fun e => e)]; exact HBX.out)
      have HO2 := Lib.hid (HO0.out.same ho)
      clear ho
      obtain ⟨⟨t0, t1, t2, t3, t4⟩, f0, f1, f2, f3, f4⟩ := tk_cells HB2.out
      unfold ansR
      go_wp2_with fail
      refine bodyPost_ret (v := ansR i (.ok 6 [x] 0 1)) (results_tok rfl _ _ w.heap.size _ _ _ _ _ _ _ rfl rfl rfl (tk_set HB2.out _ _ _ _ _).1) rfl ?_
      exact ⟨by rw [HN.out], Only.cut HO2.out (tk_set HB2.out _ _ _ _ _).2 (fun q e => by omega)⟩
    | false =>
      rw [een] at HEN
      have HN : Hid (readF (bs.drop i) = rs) := Lib.hid (by rw [HRF.out]; simp only [e46, een]; first | rfl | simp)
      clear HRF
      go_enter Tryd.func30, Tryd.ntmps30
      go_wp2_with fail
      refine (HEN.out _ HO0.out).mono ?_
      rintro e w1 ⟨rfl, rfl⟩
      go_wp2_with fail
      refine (HNS.out _ HO0.out).mono ?_
      rintro e w2 ⟨rfl, ho⟩
      have HB2 : Hid (w2.heap[w.heap.size]? = some (.cells #[.int .i64 0, .string ⟨#[]⟩, .int .i64 0, .int .i64 0, .bool false] 30 (0, 0))) := Lib.hid (by rw [ho.block w.heap.size (by simp) (fun e => e)]; exact HBX.out)
      have HO2 := Lib.hid (HO0.out.same ho)
      clear ho
      obtain ⟨⟨t0, t1, t2, t3, t4⟩, f0, f1, f2, f3, f4⟩ := tk_cells HB2.out
      cases rs with
      | ok kd ss nn len =>
        unfold ansR
        go_wp2_with fail
        refine bodyPost_ret (v := ansR i (.ok kd ss nn len)) (results_tok rfl _ _ w.heap.size _ _ _ _ _ _ _ rfl rfl rfl (tk_set HB2.out _ _ _ _ _).1) rfl ?_
        exact ⟨by rw [HN.out], Only.cut HO2.out (tk_set HB2.out _ _ _ _ _).2 (fun q e => by omega)⟩
      | no er =>
        unfold ansR
        go_wp2_with fail
        refine bodyPost_ret (v := ansR i (.no er)) (results_tok rfl _ _ w.heap.size _ _ _ _ _ _ _ rfl rfl rfl (tk_set HB2.out _ _ _ _ _).1) rfl ?_
        exact ⟨by rw [HN.out], Only.cut HO2.out (tk_set HB2.out _ _ _ _ _).2 (fun q e => by omega)⟩
  | false =>
    cases esg : signB (iv x) with
    | true =>
      rw [esg] at HSG
      have HN : Hid (readF (bs.drop i) = rs) := Lib.hid (by rw [HRF.out]; simp only [e46, esg]; first | rfl | simp)
      clear HRF
      go_enter Tryd.func30, Tryd.ntmps30
      go_wp2_with fail
      refine (HSG.out _).mono ?_
      rintro e w1 ⟨rfl, rfl⟩
      go_wp2_with fail
      refine (HNS.out _ HO0.out).mono ?_
      rintro e w2 ⟨rfl, ho⟩
      have HB2 : Hid (w2.heap[w.heap.size]? = some (.cells #[.int .i64 0, .string ⟨#[]⟩, .int .i64 0, .int .i64 0, .bool false] 30 (0, 0))) := Lib.hid (by rw [ho.block w.heap.size (by simp) (fun e => e)]; exact HBX.out)
      have HO2 := Lib.hid (HO0.out.same ho)
      clear ho
      obtain ⟨⟨t0, t1, t2, t3, t4⟩, f0, f1, f2, f3, f4⟩ := tk_cells HB2.out
      cases rs with
      | ok kd ss nn len =>
        unfold ansR
        go_wp2_with fail
        refine bodyPost_ret (v := ansR i (.ok kd ss nn len)) (results_tok rfl _ _ w.heap.size _ _ _ _ _ _ _ rfl rfl rfl (tk_set HB2.out _ _ _ _ _).1) rfl ?_
        exact ⟨by rw [HN.out], Only.cut HO2.out (tk_set HB2.out _ _ _ _ _).2 (fun q e => by omega)⟩
      | no er =>
        unfold ansR
        go_wp2_with fail
        refine bodyPost_ret (v := ansR i (.no er)) (results_tok rfl _ _ w.heap.size _ _ _ _ _ _ _ rfl rfl rfl (tk_set HB2.out _ _ _ _ _).1) rfl ?_
        exact ⟨by rw [HN.out], Only.cut HO2.out (tk_set HB2.out _ _ _ _ _).2 (fun q e => by omega)⟩
    | false =>
      rw [esg] at HSG
      cases esm : smallB (iv x) with
      | true =>
        rw [esm] at HSM
        have HN : Hid (readF (bs.drop i) = rw1) := Lib.hid (by rw [HRF.out]; simp only [e46, esg, esm]; first | rfl | simp)
        clear HRF
        go_enter Tryd.func30, Tryd.ntmps30
        go_wp2_with fail
        refine (HSG.out _).mono ?_
        rintro e w1 ⟨rfl, rfl⟩
        go_wp2_with fail
        refine (HSM.out _).mono ?_
        rintro e w1 ⟨rfl, rfl⟩
        go_wp2_with fail
        refine (HNW1.out _ HO0.out).mono ?_
        rintro e w2 ⟨rfl, ho⟩
        have HB2 : Hid (w2.heap[w.heap.size]? = some (.cells #[.int .i64 0, .string ⟨#[]⟩, .int .i64 0, .int .i64 0, .bool false] 30 (0, 0))) := Lib.hid (by rw [ho.block w.heap.size (by simp) (fun e => e)]; exact HBX.out)
        have HO2 := Lib.hid (HO0.out.same ho)
        clear ho
        obtain ⟨⟨t0, t1, t2, t3, t4⟩, f0, f1, f2, f3, f4⟩ := tk_cells HB2.out
        cases rw1 with
        | ok kd ss nn len =>
          unfold ansR
          go_wp2_with fail
          refine bodyPost_ret (v := ansR i (.ok kd ss nn len)) (results_tok rfl _ _ w.heap.size _ _ _ _ _ _ _ rfl rfl rfl (tk_set HB2.out _ _ _ _ _).1) rfl ?_
          exact ⟨by rw [HN.out], Only.cut HO2.out (tk_set HB2.out _ _ _ _ _).2 (fun q e => by omega)⟩
        | no er =>
          unfold ansR
          go_wp2_with fail
          refine bodyPost_ret (v := ansR i (.no er)) (results_tok rfl _ _ w.heap.size _ _ _ _ _ _ _ rfl rfl rfl (tk_set HB2.out _ _ _ _ _).1) rfl ?_
          exact ⟨by rw [HN.out], Only.cut HO2.out (tk_set HB2.out _ _ _ _ _).2 (fun q e => by omega)⟩
      | false =>
        rw [esm] at HSM
        cases eca : capB (iv x) with
        | true =>
          rw [eca] at HCA
          have HN : Hid (readF (bs.drop i) = rw3) := Lib.hid (by rw [HRF.out]; simp only [e46, esg, esm, eca]; first | rfl | simp)
          clear HRF
          go_enter Tryd.func30, Tryd.ntmps30
          go_wp2_with fail
          refine (HSG.out _).mono ?_
          rintro e w1 ⟨rfl, rfl⟩
          go_wp2_with fail
          refine (HSM.out _).mono ?_
          rintro e w1 ⟨rfl, rfl⟩
          go_wp2_with fail
          refine (HCA.out _).mono ?_
          rintro e w1 ⟨rfl, rfl⟩
          go_wp2_with fail
          refine (HNW3.out _ HO0.out).mono ?_
          rintro e w2 ⟨rfl, ho⟩
          have HB2 : Hid (w2.heap[w.heap.size]? = some (.cells #[.int .i64 0, .string ⟨#[]⟩, .int .i64 0, .int .i64 0, .bool false] 30 (0, 0))) := Lib.hid (by rw [ho.block w.heap.size (by simp) (fun e => e)]; exact HBX.out)
          have HO2 := Lib.hid (HO0.out.same ho)
          clear ho
          obtain ⟨⟨t0, t1, t2, t3, t4⟩, f0, f1, f2, f3, f4⟩ := tk_cells HB2.out
          cases rw3 with
          | ok kd ss nn len =>
            unfold ansR
            go_wp2_with fail
            refine bodyPost_ret (v := ansR i (.ok kd ss nn len)) (results_tok rfl _ _ w.heap.size _ _ _ _ _ _ _ rfl rfl rfl (tk_set HB2.out _ _ _ _ _).1) rfl ?_
            exact ⟨by rw [HN.out], Only.cut HO2.out (tk_set HB2.out _ _ _ _ _).2 (fun q e => by omega)⟩
          | no er =>
            unfold ansR
            go_wp2_with fail
            refine bodyPost_ret (v := ansR i (.no er)) (results_tok rfl _ _ w.heap.size _ _ _ _ _ _ _ rfl rfl rfl (tk_set HB2.out _ _ _ _ _).1) rfl ?_
            exact ⟨by rw [HN.out], Only.cut HO2.out (tk_set HB2.out _ _ _ _ _).2 (fun q e => by omega)⟩
        | false =>
          rw [eca] at HCA
          cases e95 : (iv x == 95) with
          | true =>
            have HN : Hid (readF (bs.drop i) = rw3) := Lib.hid (by rw [HRF.out]; simp only [e46, esg, esm, eca, e95]; first | rfl | simp)
            clear HRF
            go_enter Tryd.func30, Tryd.ntmps30
            go_wp2_with fail
            refine (HSG.out _).mono ?_
            rintro e w1 ⟨rfl, rfl⟩
            go_wp2_with fail
            refine (HSM.out _).mono ?_
            rintro e w1 ⟨rfl, rfl⟩
            go_wp2_with fail
            refine (HCA.out _).mono ?_
            rintro e w1 ⟨rfl, rfl⟩
            go_wp2_with fail
            refine (HNW3.out _ HO0.out).mono ?_
            rintro e w2 ⟨rfl, ho⟩
            have HB2 : Hid (w2.heap[w.heap.size]? = some (.cells #[.int .i64 0, .string ⟨#[]⟩, .int .i64 0, .int .i64 0, .bool false] 30 (0, 0))) := Lib.hid (by rw [ho.block w.heap.size (by simp) (fun e => e)]; exact HBX.out)
            have HO2 := Lib.hid (HO0.out.same ho)
            clear ho
            obtain ⟨⟨t0, t1, t2, t3, t4⟩, f0, f1, f2, f3, f4⟩ := tk_cells HB2.out
            cases rw3 with
            | ok kd ss nn len =>
              unfold ansR
              go_wp2_with fail
              refine bodyPost_ret (v := ansR i (.ok kd ss nn len)) (results_tok rfl _ _ w.heap.size _ _ _ _ _ _ _ rfl rfl rfl (tk_set HB2.out _ _ _ _ _).1) rfl ?_
              exact ⟨by rw [HN.out], Only.cut HO2.out (tk_set HB2.out _ _ _ _ _).2 (fun q e => by omega)⟩
            | no er =>
              unfold ansR
              go_wp2_with fail
              refine bodyPost_ret (v := ansR i (.no er)) (results_tok rfl _ _ w.heap.size _ _ _ _ _ _ _ rfl rfl rfl (tk_set HB2.out _ _ _ _ _).1) rfl ?_
              exact ⟨by rw [HN.out], Only.cut HO2.out (tk_set HB2.out _ _ _ _ _).2 (fun q e => by omega)⟩
          | false =>
            cases edi : digB (iv x) with
            | true =>
              rw [edi] at HDI
              have HN : Hid (readF (bs.drop i) = rn) := Lib.hid (by rw [HRF.out]; simp only [e46, esg, esm, eca, e95, edi]; first | rfl | simp)
              clear HRF
              go_enter Tryd.func30, Tryd.ntmps30
              go_wp2_with fail
              refine (HSG.out _).mono ?_
              rintro e w1 ⟨rfl, rfl⟩
              go_wp2_with fail
              refine (HSM.out _).mono ?_
              rintro e w1 ⟨rfl, rfl⟩
              go_wp2_with fail
              refine (HCA.out _).mono ?_
              rintro e w1 ⟨rfl, rfl⟩
              go_wp2_with fail
              refine (HDI.out _).mono ?_
              rintro e w1 ⟨rfl, rfl⟩
              go_wp2_with fail
              refine (HNU.out _ HO0.out).mono ?_
              rintro e w2 ⟨rfl, ho⟩
              have HB2 : Hid (w2.heap[w.heap.size]? = some (.cells #[.int .i64 0, .string ⟨#[]⟩, .int .i64 0, .int .i64 0, .bool false] 30 (0, 0))) := Lib.hid (by rw [ho.block w.heap.size (by simp) (fun e => e)]; exact HBX.out)
              have HO2 := Lib.hid (HO0.out.same ho)
              clear ho
              obtain ⟨⟨t0, t1, t2, t3, t4⟩, f0, f1, f2, f3, f4⟩ := tk_cells HB2.out
              cases rn with
              | ok kd ss nn len =>
                unfold ansR
                go_wp2_with fail
                refine bodyPost_ret (v := ansR i (.ok kd ss nn len)) (results_tok rfl _ _ w.heap.size _ _ _ _ _ _ _ rfl rfl rfl (tk_set HB2.out _ _ _ _ _).1) rfl ?_
                exact ⟨by rw [HN.out], Only.cut HO2.out (tk_set HB2.out _ _ _ _ _).2 (fun q e => by omega)⟩
              | no er =>
                unfold ansR
                go_wp2_with fail
                refine bodyPost_ret (v := ansR i (.no er)) (results_tok rfl _ _ w.heap.size _ _ _ _ _ _ _ rfl rfl rfl (tk_set HB2.out _ _ _ _ _).1) rfl ?_
                exact ⟨by rw [HN.out], Only.cut HO2.out (tk_set HB2.out _ _ _ _ _).2 (fun q e => by omega)⟩
            | false =>
              rw [edi] at HDI
              cases eal : aloneB (iv x) with
              | true =>
                rw [eal] at HAL
                have HN : Hid (readF (bs.drop i) = .ok 1 [x] 0 1) := Lib.hid (by rw [HRF.out]; simp only [e46, esg, esm, eca, e95, edi, eal]; first | rfl | simp)
                clear HRF
                go_enter Tryd.func30, Tryd.ntmps30
                go_wp2_with fail
                refine (HSG.out _).mono ?_
                rintro e w1 ⟨rfl, rfl⟩
                go_wp2_with fail
                refine (HSM.out _).mono ?_
                rintro e w1 ⟨rfl, rfl⟩
                go_wp2_with fail
                refine (HCA.out _).mono ?_
                rintro e w1 ⟨rfl, rfl⟩
                go_wp2_with fail
                refine (HDI.out _).mono ?_
                rintro e w1 ⟨rfl, rfl⟩
                go_wp2_with fail
                refine (HAL.out _).mono ?_
                rintro e w1 ⟨rfl, rfl⟩
                go_wp2_with fail
                refine (HSI.out 1 _ HO0.out).mono ?_
                rintro e w2 ⟨rfl, ho⟩
                have HB2 : Hid (w2.heap[w.heap.size]? = some (.cells #[.int .i64 0, .string ⟨#[]⟩, .int .i64 0, .int .i64 0, .bool false] 30 (0, 0))) := Lib.hid (by rw [ho.block w.heap.size (by simp) (fun e => e)]; exact HBX.out)
                have HO2 := Lib.hid (HO0.out.same ho)
                clear ho
                obtain ⟨⟨t0, t1, t2, t3, t4⟩, f0, f1, f2, f3, f4⟩ := tk_cells HB2.out
                unfold ansR
                go_wp2_with fail
                refine bodyPost_ret (v := ansR i (.ok 1 [x] 0 1)) (results_tok rfl _ _ w.heap.size _ _ _ _ _ _ _ rfl rfl rfl (tk_set HB2.out _ _ _ _ _).1) rfl ?_
                exact ⟨by rw [HN.out], Only.cut HO2.out (tk_set HB2.out _ _ _ _ _).2 (fun q e => by omega)⟩
              | false =>
                rw [eal] at HAL
                cases epu : punctB (iv x) with
                | true =>
                  rw [epu] at HPU
                  have HN : Hid (readF (bs.drop i) = .ok 5 [x] 0 1) := Lib.hid (by rw [HRF.out]; simp only [e46, esg, esm, eca, e95, edi, eal, epu]; first | rfl | simp)
                  clear HRF
                  go_enter Tryd.func30, Tryd.ntmps30
                  go_wp2_with fail
                  refine (HSG.out _).mono ?_
                  rintro e w1 ⟨rfl, rfl⟩
                  go_wp2_with fail
                  refine (HSM.out _).mono ?_
                  rintro e w1 ⟨rfl, rfl⟩
                  go_wp2_with fail
                  refine (HCA.out _).mono ?_
                  rintro e w1 ⟨rfl, rfl⟩
                  go_wp2_with fail
                  refine (HDI.out _).mono ?_
                  rintro e w1 ⟨rfl, rfl⟩
                  go_wp2_with fail
                  refine (HAL.out _).mono ?_
                  rintro e w1 ⟨rfl, rfl⟩
                  go_wp2_with fail
                  refine (HPU.out _).mono ?_
                  rintro e w1 ⟨rfl, rfl⟩
                  go_wp2_with fail
                  refine (HSI.out 5 _ HO0.out).mono ?_
                  rintro e w2 ⟨rfl, ho⟩
                  have HB2 : Hid (w2.heap[w.heap.size]? = some (.cells #[.int .i64 0, .string ⟨#[]⟩, .int .i64 0, .int .i64 0, .bool false] 30 (0, 0))) := Lib.hid (by rw [ho.block w.heap.size (by simp) (fun e => e)]; exact HBX.out)
                  have HO2 := Lib.hid (HO0.out.same ho)
                  clear ho
                  obtain ⟨⟨t0, t1, t2, t3, t4⟩, f0, f1, f2, f3, f4⟩ := tk_cells HB2.out
                  unfold ansR
                  go_wp2_with fail
                  refine bodyPost_ret (v := ansR i (.ok 5 [x] 0 1)) (results_tok rfl _ _ w.heap.size _ _ _ _ _ _ _ rfl rfl rfl (tk_set HB2.out _ _ _ _ _).1) rfl ?_
                  exact ⟨by rw [HN.out], Only.cut HO2.out (tk_set HB2.out _ _ _ _ _).2 (fun q e => by omega)⟩
                | false =>
                  rw [epu] at HPU
                  cases e39 : (iv x == 39) with
                  | true =>
                    have HN : Hid (readF (bs.drop i) = rq) := Lib.hid (by rw [HRF.out]; simp only [e46, esg, esm, eca, e95, edi, eal, epu, e39]; first | rfl | simp)
                    clear HRF
                    go_enter Tryd.func30, Tryd.ntmps30
                    go_wp2_with fail
                    refine (HSG.out _).mono ?_
                    rintro e w1 ⟨rfl, rfl⟩
                    go_wp2_with fail
                    refine (HSM.out _).mono ?_
                    rintro e w1 ⟨rfl, rfl⟩
                    go_wp2_with fail
                    refine (HCA.out _).mono ?_
                    rintro e w1 ⟨rfl, rfl⟩
                    go_wp2_with fail
                    refine (HDI.out _).mono ?_
                    rintro e w1 ⟨rfl, rfl⟩
                    go_wp2_with fail
                    refine (HAL.out _).mono ?_
                    rintro e w1 ⟨rfl, rfl⟩
                    go_wp2_with fail
                    refine (HPU.out _).mono ?_
                    rintro e w1 ⟨rfl, rfl⟩
                    go_wp2_with fail
                    refine (HQU.out _ HO0.out).mono ?_
                    rintro e w2 ⟨rfl, ho⟩
                    have HB2 : Hid (w2.heap[w.heap.size]? = some (.cells #[.int .i64 0, .string ⟨#[]⟩, .int .i64 0, .int .i64 0, .bool false] 30 (0, 0))) := Lib.hid (by rw [ho.block w.heap.size (by simp) (fun e => e)]; exact HBX.out)
                    have HO2 := Lib.hid (HO0.out.same ho)
                    clear ho
                    obtain ⟨⟨t0, t1, t2, t3, t4⟩, f0, f1, f2, f3, f4⟩ := tk_cells HB2.out
                    cases rq with
                    | ok kd ss nn len =>
                      unfold ansR
                      go_wp2_with fail
                      refine bodyPost_ret (v := ansR i (.ok kd ss nn len)) (results_tok rfl _ _ w.heap.size _ _ _ _ _ _ _ rfl rfl rfl (tk_set HB2.out _ _ _ _ _).1) rfl ?_
                      exact ⟨by rw [HN.out], Only.cut HO2.out (tk_set HB2.out _ _ _ _ _).2 (fun q e => by omega)⟩
                    | no er =>
                      unfold ansR
                      go_wp2_with fail
                      refine bodyPost_ret (v := ansR i (.no er)) (results_tok rfl _ _ w.heap.size _ _ _ _ _ _ _ rfl rfl rfl (tk_set HB2.out _ _ _ _ _).1) rfl ?_
                      exact ⟨by rw [HN.out], Only.cut HO2.out (tk_set HB2.out _ _ _ _ _).2 (fun q e => by omega)⟩
                  | false =>
                    have HN : Hid (readF (bs.drop i) = .no 80) := Lib.hid (by rw [HRF.out]; simp only [e46, esg, esm, eca, e95, edi, eal, epu, e39]; first | rfl | simp)
                    clear HRF
                    go_enter Tryd.func30, Tryd.ntmps30
                    go_wp2_with fail
                    refine (HSG.out _).mono ?_
                    rintro e w1 ⟨rfl, rfl⟩
                    go_wp2_with fail
                    refine (HSM.out _).mono ?_
                    rintro e w1 ⟨rfl, rfl⟩
                    go_wp2_with fail
                    refine (HCA.out _).mono ?_
                    rintro e w1 ⟨rfl, rfl⟩
                    go_wp2_with fail
                    refine (HDI.out _).mono ?_
                    rintro e w1 ⟨rfl, rfl⟩
                    go_wp2_with fail
                    refine (HAL.out _).mono ?_
                    rintro e w1 ⟨rfl, rfl⟩
                    go_wp2_with fail
                    refine (HPU.out _).mono ?_
                    rintro e w1 ⟨rfl, rfl⟩
                    go_wp2_with fail
                    refine bodyPost_ret (v := ansR i (.no 80)) (results_tok rfl _ _ w.heap.size _ _ _ _ _ _ _ rfl rfl rfl HBX.out) rfl ?_
                    exact ⟨by rw [HN.out], HO0.out⟩
end Go.Proofs.YtogccafnfpmgmaaDoor.toks
