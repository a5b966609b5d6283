/- Tokens: the law of quotes. -/
import Derived.Lib.ConvBytes
import Derived.Test.YtogccafnfpmgmaaDoorTokT
import Derived.Test.YtogccafnfpmgmaaDoorTokU
import Derived.Test.YtogccafnfpmgmaaDoorTokQu
namespace Go.Proofs.YtogccafnfpmgmaaDoor.toks
open Go.RowKit Go.Proofs.YtogccafnfpmgmaaDoor.own
theorem bytes_only (W : World) (s : ByteArray) (t : TypeId) : Only (fun _ => False) W (Lib.bytesWorld W t s) := by
  refine ⟨rfl, rfl, rfl, ?_, fun k hk _ => Lib.bytesWorld_at_old W t s k hk⟩
  rw [Lib.bytesWorld_size]
  omega
theorem bytes_byts (W : World) (l : List UInt8) (t : TypeId) : Byts (some ⟨W.heap.size, 0, none⟩) l (Lib.bytesWorld W t (bstr l)) := fun i x hx => by
  have hi : i < l.length := (List.getElem?_eq_some_iff.1 hx).1
  refine ⟨W.heap.size, 0, rfl, by rw [Lib.bytesWorld_size]; omega, ?_⟩
  have := Lib.bytesWorld_cell W t (bstr l) i hi
  rw [Nat.zero_add, this]
  have h2 : (bstr l).data.toList.getD i 0 = x := by
    show l.getD i 0 = x
    rw [List.getD, hx]
    rfl
  rw [h2]
  rfl
set_option maxRecDepth 100000 in
set_option maxHeartbeats 8000000 in
theorem law_quotes (s : ByteArray) (w : World) (hT : Tabled w) :
    Calls Tryd.prog 4 #[.string s] w fun e w' => e = .returned (.bool true) ∧ Below w.heap.size w w' := by
  obtain ⟨l, rfl⟩ : ∃ l, s = bstr l := ⟨s.data.toList, rfl⟩
  have HLV : Hid (∀ W, Only (fun _ => False) w W → Calls Tryd.prog 7 #[] W fun e w' => e = .returned (.bool true) ∧ Only (fun _ => False) W w') := Lib.hid (fun W ho => lives_any W (hT.later ho))
  have hsz : (bstr l).size = l.length := rfl
  by_cases hbig : (300 : Int) < (l.length : Int)
  · generalize bstr l = S at *
    clear hT
    go_enter Tryd.func4, Tryd.ntmps4
    go_wp2_with fail
    refine (HLV.out _ (Only.refl _ _)).mono ?_
    rintro e w1 ⟨rfl, ho⟩
    go_wp2_with fail
    go_ret
    exact ⟨rfl, ho.to_below⟩
  have hlen : l.length ≤ 300 := by omega
  have HQ1 := Lib.hid (Quote_any l w (by omega) hT)
  have HQ2 : Hid (∀ W, Calls Tryd.prog 12 #[.string (bstr l)] W fun e w' => e = .returned (.string (bstr (quoteT l))) ∧ Only (fun _ => False) W w') := Lib.hid (fun W => rquote_any l W (by omega))
  have HP1 : Hid (∀ W, Calls Tryd.prog 13 #[.string (bstr l)] W fun e w' => e = .returned (.bool (plainB (bstr l))) ∧ Only (fun _ => False) W w') := Lib.hid (fun W => Plain_any (bstr l) W)
  have HP2 : Hid (∀ W, Calls Tryd.prog 14 #[.string (bstr l)] W fun e w' => e = .returned (.bool (plainB (bstr l))) ∧ w' = W) := Lib.hid (fun W => rplain_any l W (by omega))
  have hq5 : (quoteT l).length ≤ 5000 := by
    unfold quoteT
    split
    · omega
    · have := flat_len5 l
      simp only [List.length_cons, List.length_append, List.length_nil]
      omega
  have HCV : Hid (∀ W, (convert 9 22 (.string (bstr (quoteT l)))).run Tryd.prog W = .ok (.slice (some ⟨W.heap.size, 0, none⟩) (quoteT l).length (grownCap W (quoteT l).length 0 5)) (Lib.bytesWorld W 5 (bstr (quoteT l)))) := Lib.hid (fun W => Lib.run_convert_string_bytes W _ _ _ _ Tryd.underlying9 Tryd.underlying22 Tryd.underlying5)
  have HSC : Hid (∀ W, Calls Tryd.prog 15 #[.slice (some ⟨W.heap.size, 0, none⟩) (quoteT l).length (grownCap W (quoteT l).length 0 5), .int .i64 (0 : Nat)] (Lib.bytesWorld W 5 (bstr (quoteT l))) fun e w' => e = .returned (ansS (scanF (quoteT l) 0)) ∧ Only (fun _ => False) W w') := Lib.hid (fun W => (scan_any _ _ (quoteT l) 0 _ (bytes_byts W (quoteT l) _) (by omega) (by omega) (grownCap_ge _ _ _ _)).mono (fun e w' ⟨h1, h2⟩ => ⟨h1, (bytes_only W _ _).same h2⟩))
  have HTQ := Lib.hid (scan_quote l)
  have HTK : Hid (tokenQ l = if 64 < l.length then .no 0 3 else .ok (if plainB (bstr l) = true then 1 else 2) l 0 0 false (quoteT l).length) := Lib.hid rfl
  have hsq : (bstr (quoteT l)).size = (quoteT l).length := rfl
  have htl : (bstr l).toList = l := bstr_list l
  have HANS : Hid (∀ kd : Int, ansS (.ok kd l 0 0 false (quoteT l).length) = .tuple #[tokV kd (bstr l) 0 0 false, .int .i64 (quoteT l).length, .int .i64 0]) := Lib.hid (fun kd => rfl)
  generalize bstr (quoteT l) = SQ at *
  have hq : ∀ (kd : Int) W, (binOp .eql 30 (.agg #[.int .i64 kd, .string (bstr l), .int .i64 0, .int .i64 0, .bool false]) (.agg #[.int .i64 kd, .string (bstr l), .int .i64 0, .int .i64 0, .bool false])).run Tryd.prog W = .ok (.bool true) W := fun kd W => eqlT ⟨kd, l, 0, 0, false⟩ W
  generalize hS : bstr l = S at *
  have HS := Lib.hid hS
  clear hS hT
  by_cases f1 : (l == [91, 93]) = true
  · have g1 : (S.toList == [91, 93]) = true := by rw [htl]; exact f1
    clear htl f1 hq
    cases hpl : plainB S
    all_goals
      rw [hpl] at HP1 HP2
      clear hpl
      go_enter Tryd.func4, Tryd.ntmps4
      go_wp2_with fail
      refine HQ1.out.mono ?_
      rintro e w1 ⟨rfl, ho1⟩
      have HO1 := Lib.hid ho1
      clear ho1
      go_wp2_with fail
      refine (HLV.out w1 HO1.out).mono ?_
      rintro e w2 ⟨rfl, ho2⟩
      have HO2 := Lib.hid (HO1.out.same ho2)
      clear ho2
      go_wp2_with fail
      refine (HQ2.out w2).mono ?_
      rintro e w3 ⟨rfl, ho3⟩
      have HO3 := Lib.hid (HO2.out.same ho3)
      clear ho3
      go_wp2_with fail
      refine (HP1.out w3).mono ?_
      rintro e w4 ⟨rfl, ho4⟩
      have HO4 := Lib.hid (HO3.out.same ho4)
      clear ho4
      go_wp2_with fail
      refine (HP2.out w4).mono ?_
      rintro e w5 ⟨rfl, rfl⟩
      go_wp2_with fail
      go_ret
      exact ⟨rfl, HO4.out.to_below⟩
  have g1 : (S.toList == [91, 93]) = false := by rw [htl]; simpa using f1
  by_cases f2 : (l == [123, 125]) = true
  · have g2 : (S.toList == [123, 125]) = true := by rw [htl]; exact f2
    clear htl f1 f2 hq
    cases hpl : plainB S
    all_goals
      rw [hpl] at HP1 HP2
      clear hpl
      go_enter Tryd.func4, Tryd.ntmps4
      go_wp2_with fail
      refine HQ1.out.mono ?_
      rintro e w1 ⟨rfl, ho1⟩
      have HO1 := Lib.hid ho1
      clear ho1
      go_wp2_with fail
      refine (HLV.out w1 HO1.out).mono ?_
      rintro e w2 ⟨rfl, ho2⟩
      have HO2 := Lib.hid (HO1.out.same ho2)
      clear ho2
      go_wp2_with fail
      refine (HQ2.out w2).mono ?_
      rintro e w3 ⟨rfl, ho3⟩
      have HO3 := Lib.hid (HO2.out.same ho3)
      clear ho3
      go_wp2_with fail
      refine (HP1.out w3).mono ?_
      rintro e w4 ⟨rfl, ho4⟩
      have HO4 := Lib.hid (HO3.out.same ho4)
      clear ho4
      go_wp2_with fail
      refine (HP2.out w4).mono ?_
      rintro e w5 ⟨rfl, rfl⟩
      go_wp2_with fail
      go_ret
      exact ⟨rfl, HO4.out.to_below⟩
  have g2 : (S.toList == [123, 125]) = false := by rw [htl]; simpa using f2
  have HTQ2 : Hid (scanF (quoteT l) 0 = tokenQ l) := Lib.hid (HTQ.out (by simpa using f1) (by simpa using f2))
  rw [HTQ2.out] at HSC
  clear htl f1 f2 HTQ HTQ2
  have hcv := HCV.out
  by_cases h64 : 64 < l.length
  · have HT3 : tokenQ l = .no 0 3 := by rw [HTK.out, if_pos h64]
    rw [HT3] at HSC
    have g64 : (64 : Int) < (l.length : Int) := by omega
    clear HT3 HTK h64 hq
    unfold ansS at HSC
    cases hpl : plainB S
    all_goals
      rw [hpl] at HP1 HP2
      clear hpl
      go_enter Tryd.func4, Tryd.ntmps4
      go_wp2_with fail
      refine HQ1.out.mono ?_
      rintro e w1 ⟨rfl, ho1⟩
      have HO1 := Lib.hid ho1
      clear ho1
      go_wp2_with fail
      refine (HLV.out w1 HO1.out).mono ?_
      rintro e w2 ⟨rfl, ho2⟩
      have HO2 := Lib.hid (HO1.out.same ho2)
      clear ho2
      go_wp2_with fail
      refine (HQ2.out w2).mono ?_
      rintro e w3 ⟨rfl, ho3⟩
      have HO3 := Lib.hid (HO2.out.same ho3)
      clear ho3
      go_wp2_with fail
      refine (HP1.out w3).mono ?_
      rintro e w4 ⟨rfl, ho4⟩
      have HO4 := Lib.hid (HO3.out.same ho4)
      clear ho4
      go_wp2_with fail
      refine (HP2.out w4).mono ?_
      rintro e w5 ⟨rfl, rfl⟩
      go_wp2_with fail
      refine (HSC.out _).mono ?_
      rintro e w6 ⟨rfl, ho6⟩
      have HO6 := Lib.hid (HO4.out.same (ho6.same (Only.alloc _ _ (.cells #[.int .i64 0, .string ⟨#[]⟩, .int .i64 0, .int .i64 0, .bool false] 30))))
      clear ho6
      go_wp2_with fail
      go_ret
      exact ⟨rfl, HO6.out.to_below⟩
  · have g64 : ¬ (64 : Int) < (l.length : Int) := by omega
    have HT3 : tokenQ l = .ok (if plainB S = true then 1 else 2) l 0 0 false (quoteT l).length := by rw [HTK.out, if_neg h64]
    rw [HT3, HANS.out] at HSC
    clear HT3 HTK h64 HANS
    generalize (quoteT l).length = nq at *
    cases hpl : plainB S
    · rw [hpl] at HP1 HP2 HSC
      have HSC2 : Hid (∀ W, Calls Tryd.prog 15 #[.slice (some ⟨W.heap.size, 0, none⟩) nq (grownCap W nq 0 5), .int .i64 (0 : Nat)] (Lib.bytesWorld W 5 SQ) fun e w' => e = .returned (.tuple #[.agg #[.int .i64 2, .string S, .int .i64 0, .int .i64 0, .bool false], .int .i64 nq, .int .i64 0]) ∧ Only (fun _ => False) W w') := Lib.hid HSC.out
      have hq2 := hq 2
      clear hpl HSC hq
      go_enter Tryd.func4, Tryd.ntmps4
      go_wp2_with fail
      refine HQ1.out.mono ?_
      rintro e w1 ⟨rfl, ho1⟩
      have HO1 := Lib.hid ho1
      clear ho1
      go_wp2_with fail
      refine (HLV.out w1 HO1.out).mono ?_
      rintro e w2 ⟨rfl, ho2⟩
      have HO2 := Lib.hid (HO1.out.same ho2)
      clear ho2
      go_wp2_with fail
      refine (HQ2.out w2).mono ?_
      rintro e w3 ⟨rfl, ho3⟩
      have HO3 := Lib.hid (HO2.out.same ho3)
      clear ho3
      go_wp2_with fail
      refine (HP1.out w3).mono ?_
      rintro e w4 ⟨rfl, ho4⟩
      have HO4 := Lib.hid (HO3.out.same ho4)
      clear ho4
      go_wp2_with fail
      refine (HP2.out w4).mono ?_
      rintro e w5 ⟨rfl, rfl⟩
      go_wp2_with fail
      refine (HSC2.out _).mono ?_
      rintro e w6 ⟨rfl, ho6⟩
      have HO6 := Lib.hid (HO4.out.same (ho6.same (Only.alloc _ _ (.cells #[.int .i64 2, .string S, .int .i64 0, .int .i64 0, .bool false] 30))))
      clear ho6
      go_wp2_with fail
      refine (HP2.out _).mono ?_
      rintro e w7 ⟨rfl, rfl⟩
      go_wp2_with fail
      go_ret
      exact ⟨rfl, HO6.out.to_below⟩
    · rw [hpl] at HP1 HP2 HSC
      have HSC2 : Hid (∀ W, Calls Tryd.prog 15 #[.slice (some ⟨W.heap.size, 0, none⟩) nq (grownCap W nq 0 5), .int .i64 (0 : Nat)] (Lib.bytesWorld W 5 SQ) fun e w' => e = .returned (.tuple #[.agg #[.int .i64 1, .string S, .int .i64 0, .int .i64 0, .bool false], .int .i64 nq, .int .i64 0]) ∧ Only (fun _ => False) W w') := Lib.hid HSC.out
      have hq2 := hq 1
      clear hpl HSC hq
      go_enter Tryd.func4, Tryd.ntmps4
      go_wp2_with fail
      refine HQ1.out.mono ?_
      rintro e w1 ⟨rfl, ho1⟩
      have HO1 := Lib.hid ho1
      clear ho1
      go_wp2_with fail
      refine (HLV.out w1 HO1.out).mono ?_
      rintro e w2 ⟨rfl, ho2⟩
      have HO2 := Lib.hid (HO1.out.same ho2)
      clear ho2
      go_wp2_with fail
      refine (HQ2.out w2).mono ?_
      rintro e w3 ⟨rfl, ho3⟩
      have HO3 := Lib.hid (HO2.out.same ho3)
      clear ho3
      go_wp2_with fail
      refine (HP1.out w3).mono ?_
      rintro e w4 ⟨rfl, ho4⟩
      have HO4 := Lib.hid (HO3.out.same ho4)
      clear ho4
      go_wp2_with fail
      refine (HP2.out w4).mono ?_
      rintro e w5 ⟨rfl, rfl⟩
      go_wp2_with fail
      refine (HSC2.out _).mono ?_
      rintro e w6 ⟨rfl, ho6⟩
      have HO6 := Lib.hid (HO4.out.same (ho6.same (Only.alloc _ _ (.cells #[.int .i64 1, .string S, .int .i64 0, .int .i64 0, .bool false] 30))))
      clear ho6
      go_wp2_with fail
      refine (HP2.out _).mono ?_
      rintro e w7 ⟨rfl, rfl⟩
      go_wp2_with fail
      go_ret
      exact ⟨rfl, HO6.out.to_below⟩
end Go.Proofs.YtogccafnfpmgmaaDoor.toks
