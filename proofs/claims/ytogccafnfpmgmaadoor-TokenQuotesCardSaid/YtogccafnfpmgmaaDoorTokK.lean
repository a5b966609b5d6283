/- Tokens: Scan. -/
import Derived.Test.YtogccafnfpmgmaaDoorTokJ
namespace Go.Proofs.YtogccafnfpmgmaaDoor.toks
open Go.RowKit Go.Proofs.YtogccafnfpmgmaaDoor.own
/-- What Scan answers: a token, or an error, and a place. -/
inductive SR where
  | ok (kd : Int) (s : List UInt8) (n : Int) (at_ : Nat) (lay : Bool) (next : Nat)
  | no (next : Nat) (e : Int)
def ansS : SR → Value
  | .ok kd s n at_ lay next => .tuple #[tokV kd (bstr s) n at_ lay, .int .i64 next, .int .i64 0]
  | .no next e => .tuple #[tokV 0 ⟨#[]⟩ 0 0 false, .int .i64 next, .int .i64 e]
/-- Scan, from a place within the text. -/
def scanF (bs : List UInt8) (i : Nat) : SR :=
  if (skipA bs bs.length i).2 = false then .no (skipA bs bs.length i).1 80
  else if (skipA bs bs.length i).1 = bs.length then .no bs.length 4
  else match readF (bs.drop (skipA bs bs.length i).1) with
    | .no e => .no (skipA bs bs.length i).1 e
    | .ok kd s n len => .ok kd s n (skipA bs bs.length i).1 (decide (i < (skipA bs bs.length i).1)) ((skipA bs bs.length i).1 + len)
theorem skipF_le : ∀ (m : Nat) (r : List UInt8), (skipF m r).1 ≤ r.length
  | 0, r => Nat.zero_le _
  | m + 1, [] => Nat.le_refl _
  | m + 1, x :: r => by
    rw [skipF]
    split
    · have := skipF_le m r
      simp only [sh, List.length_cons]
      omega
    · split
      · have h1 := rowN_le inLineB (x :: r)
        have h2 := skipF_le m ((x :: r).drop (rowN inLineB (x :: r)))
        rw [List.length_drop] at h2
        simp only [sh]
        omega
      · split
        · split
          · cases hc : closeN (r.drop 1) with
            | none => simp
            | some c =>
              obtain ⟨h1, h2⟩ := closeN_ge _ c hc
              rw [List.length_drop] at h2
              have h3 := skipF_le m (r.drop (1 + c))
              rw [List.length_drop] at h3
              simp only [sh, List.length_cons]
              omega
          · simp
        · simp
theorem skipA_le {bs : List UInt8} {m i : Nat} (hi : i ≤ bs.length) : i ≤ (skipA bs m i).1 ∧ (skipA bs m i).1 ≤ bs.length := by
  have := skipF_le m (bs.drop i)
  rw [List.length_drop] at this
  unfold skipA sh
  simp only
  omega
theorem quoteL_no : ∀ (m : Nat) (r acc : List UInt8) (n : Nat) (e : Int), quoteL m r acc n = .no e → e ≠ 0
  | 0, r, acc, n, e, h => by cases h; decide
  | m + 1, [], acc, n, e, h => by cases h; decide
  | m + 1, x :: r, acc, n, e, h => by
    rw [quoteL] at h
    split at h
    · split at h
      · cases h; decide
      · cases h
    · cases hp : pieceF (x :: r) with
      | none => rw [hp] at h; cases h; decide
      | some q => rw [hp] at h; exact quoteL_no m _ _ _ e h
theorem readF_no {r : List UInt8} {e : Int} (h : readF r = .no e) : e ≠ 0 := by
  have hn : ∀ kd g, nameF kd g r = .no e → e ≠ 0 := fun kd g h => by
    unfold nameF at h
    split at h
    · cases h; decide
    · cases h
  cases r with
  | nil => cases h; decide
  | cons x t =>
    rw [readF] at h
    split at h
    · cases h
    · split at h
      · exact hn _ _ h
      · split at h
        · exact hn _ _ h
        · split at h
          · exact hn _ _ h
          · split at h
            · unfold numberF at h
              cases hv : numN 0 ((x :: t).take (rowN digB (x :: t))) with
              | none => rw [hv] at h; cases h; decide
              | some v => rw [hv] at h; cases h
            · split at h
              · cases h
              · split at h
                · cases h
                · split at h
                  · exact quoteL_no _ _ _ _ e h
                  · cases h; decide
set_option maxRecDepth 100000 in
set_option maxHeartbeats 8000000 in
theorem scan_any (ao : Option Addr) (cap : Nat) (bs : List UInt8) (i : Nat) (w : World) (hb : Byts ao bs w) (hi : i ≤ bs.length) (hl : bs.length ≤ 65536) (hc : bs.length ≤ cap) :
    Calls Tryd.prog 15 #[.slice ao bs.length cap, .int .i64 i] w fun e w' => e = .returned (ansS (scanF bs i)) ∧ Only (fun _ => False) w w' := by
  have HSK : Hid (∀ W, Only (fun _ => False) w W → Calls Tryd.prog 29 #[.slice ao bs.length cap, .int .i64 i] W fun e w' => e = .returned (.tuple #[.int .i64 ((skipA bs bs.length i).1 : Nat), .int .i64 (skE (skipA bs bs.length i))]) ∧ w' = W) := Lib.hid (fun W ho => skip_any ao cap bs i W (hb.later ho) hi (by omega))
  have HRD : Hid (∀ j W, j < bs.length → Only (fun _ => False) w W → Calls Tryd.prog 30 #[.slice ao bs.length cap, .int .i64 j] W fun e w' => e = .returned (ansR j (readF (bs.drop j))) ∧ Only (fun _ => False) W w') := Lib.hid (fun j W h1 ho => read_any ao cap bs j W (hb.later ho) h1 (by omega) hc)
  have HSF : Hid (scanF bs i = if (skipA bs bs.length i).2 = false then .no (skipA bs bs.length i).1 80
  else if (skipA bs bs.length i).1 = bs.length then .no bs.length 4
  else match readF (bs.drop (skipA bs bs.length i).1) with
    | .no e => .no (skipA bs bs.length i).1 e
    | .ok kd s n len => .ok kd s n (skipA bs bs.length i).1 (decide (i < (skipA bs bs.length i).1)) ((skipA bs bs.length i).1 + len)) := Lib.hid rfl
  obtain ⟨hj1, hj2⟩ := skipA_le (m := bs.length) hi
  have HBX : Hid ((w.alloc (.cells #[.int .i64 0, .string ⟨#[]⟩, .int .i64 0, .int .i64 0, .bool false] 30)).heap[w.heap.size]? = some (.cells #[.int .i64 0, .string ⟨#[]⟩, .int .i64 0, .int .i64 0, .bool false] 30 (0, 0))) := Lib.hid (heap_alloc_new w _)
  have HO0 : Hid (Only (fun _ => False) w (w.alloc (.cells #[.int .i64 0, .string ⟨#[]⟩, .int .i64 0, .int .i64 0, .bool false] 30))) := Lib.hid (Only.alloc _ _ _)
  have HSK0 := Lib.hid (HSK.out _ HO0.out)
  clear hb HSK
  generalize skipA bs bs.length i = sk at *
  obtain ⟨j, ok⟩ := sk
  have hbig : ¬ (65536 : Int) < (bs.length : Int) := by omega
  have hi0 : ¬ (i : Int) < 0 := by omega
  have hi1 : ¬ (bs.length : Int) < (i : Int) := by omega
  cases ok with
  | false =>
    have HN : Hid (scanF bs i = .no j 80) := Lib.hid (by rw [HSF.out, if_pos rfl])
    have HSK1 : Hid (Calls Tryd.prog 29 #[.slice ao bs.length cap, .int .i64 i] (w.alloc (.cells #[.int .i64 0, .string ⟨#[]⟩, .int .i64 0, .int .i64 0, .bool false] 30)) fun e w' => e = .returned (.tuple #[.int .i64 (j : Nat), .int .i64 80]) ∧ w' = w.alloc (.cells #[.int .i64 0, .string ⟨#[]⟩, .int .i64 0, .int .i64 0, .bool false] 30)) := Lib.hid HSK0.out
    clear HSF HSK0
    go_enter Tryd.func15, Tryd.ntmps15
    go_wp2_with fail
    refine HSK1.out.mono ?_
    rintro e w1 ⟨rfl, rfl⟩
    go_wp2_with fail
    refine bodyPost_ret (v := ansS (.no j 80)) (results_tok rfl _ _ w.heap.size _ _ _ _ _ _ _ rfl rfl rfl HBX.out) rfl ?_
    exact ⟨by rw [HN.out], HO0.out⟩
  | true =>
    have HSK1 : Hid (Calls Tryd.prog 29 #[.slice ao bs.length cap, .int .i64 i] (w.alloc (.cells #[.int .i64 0, .string ⟨#[]⟩, .int .i64 0, .int .i64 0, .bool false] 30)) fun e w' => e = .returned (.tuple #[.int .i64 (j : Nat), .int .i64 0]) ∧ w' = w.alloc (.cells #[.int .i64 0, .string ⟨#[]⟩, .int .i64 0, .int .i64 0, .bool false] 30)) := Lib.hid HSK0.out
    by_cases hj : j = bs.length
    · have HN : Hid (scanF bs i = .no bs.length 4) := Lib.hid (by rw [HSF.out, if_neg (by simp), if_pos hj])
      have hq : ((j : Int) == (bs.length : Int)) = true := by rw [beq_iff_eq]; omega
      clear HSF HSK0
      go_enter Tryd.func15, Tryd.ntmps15
      go_wp2_with fail
      refine HSK1.out.mono ?_
      rintro e w1 ⟨rfl, rfl⟩
      go_wp2_with fail
      refine bodyPost_ret (v := ansS (.no bs.length 4)) (results_tok rfl _ _ w.heap.size _ _ _ _ _ _ _ rfl (by rw [← hj]; rfl) rfl HBX.out) rfl ?_
      exact ⟨by rw [HN.out], HO0.out⟩
    · have hq : ((j : Int) == (bs.length : Int)) = false := by rw [beq_eq_false_iff_ne]; omega
      have HR0 := Lib.hid (HRD.out j _ (by omega) HO0.out)
      have HSF2 : Hid (scanF bs i = match readF (bs.drop j) with | .no e => .no j e | .ok kd s n len => .ok kd s n j (decide (i < j)) (j + len)) := Lib.hid (by rw [HSF.out, if_neg (by simp), if_neg hj])
      clear HSF HSK0 HRD
      cases hrd : readF (bs.drop j) with
      | no er =>
        have her : (er == 0) = false := by rw [beq_eq_false_iff_ne]; exact readF_no hrd
        rw [hrd] at HR0 HSF2
        have HN : Hid (scanF bs i = .no j er) := Lib.hid HSF2.out
        clear HSF2 hrd
        unfold ansR at HR0
        go_enter Tryd.func15, Tryd.ntmps15
        go_wp2_with fail
        refine HSK1.out.mono ?_
        rintro e w1 ⟨rfl, rfl⟩
        go_wp2_with fail
        refine HR0.out.mono ?_
        rintro e w2 ⟨rfl, ho⟩
        have hb2 : (w2.alloc (.cells #[.int .i64 0, .string ⟨#[]⟩, .int .i64 0, .int .i64 0, .bool false] 30)).heap[w.heap.size]? = some (.cells #[.int .i64 0, .string ⟨#[]⟩, .int .i64 0, .int .i64 0, .bool false] 30 (0, 0)) := by
          have h1 : w2.heap[w.heap.size]? = some (.cells #[.int .i64 0, .string ⟨#[]⟩, .int .i64 0, .int .i64 0, .bool false] 30 (0, 0)) := by
            rw [ho.block w.heap.size (by simp) (fun e => e)]
            exact HBX.out
          rw [(Only.alloc (fun _ => False) w2 (.cells #[.int .i64 0, .string ⟨#[]⟩, .int .i64 0, .int .i64 0, .bool false] 30)).block w.heap.size (lt_of_block h1) (fun e => e)]
          exact h1
        have HB2 := Lib.hid hb2
        have HO2 : Hid (Only (fun _ => False) w (w2.alloc (.cells #[.int .i64 0, .string ⟨#[]⟩, .int .i64 0, .int .i64 0, .bool false] 30))) := Lib.hid ((HO0.out.same ho).same (Only.alloc _ _ _))
        obtain ⟨⟨t0, t1, t2, t3, t4⟩, f0, f1, f2, f3, f4⟩ := tk_cells hb2
        clear ho hb2
        go_wp2_with fail
        refine bodyPost_ret (v := ansS (.no j er)) (results_tok rfl _ _ w.heap.size _ _ _ _ _ _ _ rfl rfl rfl (tk_set HB2.out _ _ _ _ _).1) rfl ?_
        exact ⟨by rw [HN.out], Only.cut HO2.out (tk_set HB2.out _ _ _ _ _).2 (fun q e => by omega)⟩
      | ok kd ss nn len =>
        rw [hrd] at HR0 HSF2
        have HN : Hid (scanF bs i = .ok kd ss nn j (decide (i < j)) (j + len)) := Lib.hid HSF2.out
        clear HSF2 hrd
        unfold ansR at HR0
        go_enter Tryd.func15, Tryd.ntmps15
        go_wp2_with fail
        refine HSK1.out.mono ?_
        rintro e w1 ⟨rfl, rfl⟩
        go_wp2_with fail
        refine HR0.out.mono ?_
        rintro e w2 ⟨rfl, ho⟩
        have hb2 : (w2.alloc (.cells #[.int .i64 kd, .string (bstr ss), .int .i64 nn, .int .i64 j, .bool (decide (i < j))] 30)).heap[w.heap.size]? = some (.cells #[.int .i64 0, .string ⟨#[]⟩, .int .i64 0, .int .i64 0, .bool false] 30 (0, 0)) := by
          have h1 : w2.heap[w.heap.size]? = some (.cells #[.int .i64 0, .string ⟨#[]⟩, .int .i64 0, .int .i64 0, .bool false] 30 (0, 0)) := by
            rw [ho.block w.heap.size (by simp) (fun e => e)]
            exact HBX.out
          rw [(Only.alloc (fun _ => False) w2 (.cells #[.int .i64 kd, .string (bstr ss), .int .i64 nn, .int .i64 j, .bool (decide (i < j))] 30)).block w.heap.size (lt_of_block h1) (fun e => e)]
          exact h1
        have HB2 := Lib.hid hb2
        have HO2 : Hid (Only (fun _ => False) w (w2.alloc (.cells #[.int .i64 kd, .string (bstr ss), .int .i64 nn, .int .i64 j, .bool (decide (i < j))] 30))) := Lib.hid ((HO0.out.same ho).same (Only.alloc _ _ _))
        obtain ⟨⟨t0, t1, t2, t3, t4⟩, f0, f1, f2, f3, f4⟩ := tk_cells hb2
        clear ho hb2
        go_wp2_with fail
        refine bodyPost_ret (v := ansS (.ok kd ss nn j (decide (i < j)) (j + len))) (results_tok rfl _ _ w.heap.size _ _ _ _ _ _ _ rfl (by rw [Int.natCast_add]; rfl) rfl (tk_set HB2.out _ _ _ _ _).1) rfl ?_
        exact ⟨by rw [HN.out], Only.cut HO2.out (tk_set HB2.out _ _ _ _ _).2 (fun q e => by omega)⟩
end Go.Proofs.YtogccafnfpmgmaaDoor.toks
