/- The contract of the law's own Parse. -/
import Derived.Test.YtdhppkobhmbnaaaDoorCell4
namespace Go.Proofs.YtdhppkobhmbnaaaDoor.cells
open Go.RowKit Go.Lib

theorem preOf_len (t : Int) : (preOf t).length = (nameOf t).length + 1 := by simp [preOf]
theorem pre_test (s : ByteArray) (t : Int) : ((s.extract 0 ((nameOf t).length + 1)).toList == ((⟨(nameOf t).toArray⟩ : ByteArray) ++ ⟨#[58]⟩).toList) = decide (s.data.toList.take (preOf t).length = preOf t) := by
  have e : (⟨(nameOf t).toArray⟩ : ByteArray) ++ ⟨#[58]⟩ = ⟨(preOf t).toArray⟩ := cat2 (nameOf t) [58]
  rw [e, toList_data, toList_data, extract_data, List.drop_zero, preOf_len]
  rw [Bool.eq_iff_iff]
  simp
theorem drop_pre (s : ByteArray) (t : Int) : (s.extract ((nameOf t).length + 1) s.size).data.toList = s.data.toList.drop (preOf t).length := by
  rw [extract_data, preOf_len, List.take_of_length_le (by rw [List.length_drop, ← size_eq]; omega)]
theorem extract_size_le (s : ByteArray) (a : Nat) : (s.extract a s.size).size ≤ s.size := by
  rw [size_eq, extract_data, List.length_take, List.length_drop, ← size_eq]; omega
theorem parseFrom_succ (l : List UInt8) (j : Nat) (t : Int) : parseFrom l (j + 1) t = if (preOf t).length < l.length ∧ l.take (preOf t).length = preOf t then (numR (l.drop (preOf t).length)).map (mkOf t) else parseFrom l j (t + 1) := rfl

set_option maxHeartbeats 2000000 in
theorem rparse_any (s : ByteArray) (w : World) (hs : s.size ≤ 1000) :
    Calls Tryd.prog 22 #[.string s] w fun e w' => RParseEnd s.data.toList e ∧ w = w' := by
  by_cases hdot : s.data.toList = [46]
  · have e0 : (s.toList == [46]) = true := by rw [toList_data, hdot]; rfl
    have HE := Lib.hid (rparseEnd_some (l := s.data.toList) (x := 0) (by rw [hdot]; rfl))
    clear hdot
    go_enter Tryd.func22, Tryd.ntmps22
    go_wp2
    go_ret2
    exact ⟨HE.out, rfl⟩
  · have e0 : (s.toList == [46]) = false := by rw [toList_data]; exact beq_eq_false_iff_ne.2 hdot
    have HR : Hid (parseR s.data.toList = parseFrom s.data.toList 7 1) := by
      show parseR s.data.toList = parseFrom s.data.toList 7 1
      unfold parseR; rw [if_neg hdot]
    clear hdot
    go_enter Tryd.func22, Tryd.ntmps22
    go_wp2
    go_loop [4] (fun i => ∃ k : Nat, k ≤ 7 ∧ i = .int .i64 ((k : Int) + 1) ∧ Hid (parseR s.data.toList = parseFrom s.data.toList (7 - k) ((k : Int) + 1))) (fun i => 8 - (RowKit.intOf i).toNat)
    case atStart => exact ⟨0, by omega, rfl, HR.out⟩
    case round =>
      obtain ⟨k, hk, rfl, hn⟩ := hrel
      clear HR
      by_cases h7 : k < 7
      · have hl := nameOf_len ((k : Int) + 1)
        have hlen : (preOf ((k : Int) + 1)).length < s.data.toList.length ↔ (nameOf ((k : Int) + 1)).length + 1 < s.size := by rw [preOf_len, ← size_eq]
        have hst := hn.out
        rw [show 7 - k = (6 - k) + 1 by omega, parseFrom_succ] at hst
        by_cases h1 : (nameOf ((k : Int) + 1)).length + 1 < s.size
        · by_cases h2 : s.data.toList.take (preOf ((k : Int) + 1)).length = preOf ((k : Int) + 1)
          · rw [if_pos ⟨hlen.2 h1, h2⟩, ← drop_pre] at hst
            have ht := (pre_test s ((k : Int) + 1)).trans (decide_eq_true h2)
            have hsz := extract_size_le s ((nameOf ((k : Int) + 1)).length + 1)
            have HST := Lib.hid hst
            have HSZ := Lib.hid hsz
            have HT := Lib.hid ht
            clear hst hsz ht hlen hn h2
            go_wp2_with fail
            refine (rname_any _ _).mono ?_
            rintro e w1 ⟨rfl, rfl⟩
            have ht := HT.out
            go_wp2_with fail
            refine (rnum_any _ _ (Nat.le_trans HSZ.out hs)).mono ?_
            rintro e w1 ⟨hp, rfl⟩
            rcases hp with ⟨m, hm, rfl⟩ | ⟨hm, m, rfl⟩
            · have hr := (numR_some.1 hm).2
              have HE := Lib.hid (rparseEnd_some (l := s.data.toList) (x := mkOf ((k : Int) + 1) m) (by rw [HST.out, hm]; rfl))
              obtain ⟨hr1, hr2⟩ := hr
              clear hm
              go_wp2_with fail
              refine (rmake_any _ _ _ (by omega) (by omega) hr1 hr2).mono ?_
              rintro e w1 ⟨rfl, rfl⟩
              go_wp2_with fail
              go_ret2
              exact ⟨HE.out, rfl⟩
            · have HE := Lib.hid (rparseEnd_none (l := s.data.toList) (by rw [HST.out, hm]; rfl))
              clear hm
              go_wp2_with fail
              go_ret2
              exact ⟨HE.out, rfl⟩
          · rw [if_neg (fun h => h2 h.2)] at hst
            have ht := (pre_test s ((k : Int) + 1)).trans (decide_eq_false h2)
            have HST := Lib.hid hst
            have HT := Lib.hid ht
            clear hst ht hlen hn h2
            go_wp2_with fail
            refine (rname_any _ _).mono ?_
            rintro e w1 ⟨rfl, rfl⟩
            have ht := HT.out
            go_wp2_with fail
            go_round
            case rel => exact ⟨k + 1, by omega, by go_num, by rw [show 7 - (k + 1) = 6 - k by omega]; exact HST.out⟩
            case measure => simp [RowKit.intOf]; omega
        · rw [if_neg (fun h => h1 (hlen.1 h.1))] at hst
          have HST := Lib.hid hst
          clear hst hlen hn
          go_wp2_with fail
          refine (rname_any _ _).mono ?_
          rintro e w1 ⟨rfl, rfl⟩
          go_wp2_with fail
          go_round
          case rel => exact ⟨k + 1, by omega, by go_num, by rw [show 7 - (k + 1) = 6 - k by omega]; exact HST.out⟩
          case measure => simp [RowKit.intOf]; omega
      · obtain rfl : k = 7 := by omega
        have HE := Lib.hid (rparseEnd_none hn.out)
        clear hn
        go_wp2_with fail
        go_ret2
        exact ⟨HE.out, rfl⟩
end Go.Proofs.YtdhppkobhmbnaaaDoor.cells
