/- Tokens: the reference reads quoted names. -/
import Derived.Test.YtogccafnfpmgmaaDoorTokY
namespace Go.Proofs.YtogccafnfpmgmaaDoor.toks
open Go.RowKit Go.Proofs.YtogccafnfpmgmaaDoor.own
def quoteM : Nat → List UInt8 → List UInt8 → Nat → Option (List UInt8 × Nat)
  | 0, _, _, _ => none
  | _ + 1, [], _, _ => none
  | m + 1, x :: r, acc, n => if (iv x == 39 && !(pairB (x :: r))) = true then some (acc, n + 1)
    else match pieceF (x :: r) with
      | some (c, k) => quoteM m ((x :: r).drop k) (acc ++ [c]) (n + k)
      | none => none
def fromM : Option (List UInt8 × Nat) → TR
  | some (s, len) => if 64 < s.length then .no 3 else .ok 2 s 0 len
  | none => .no 80
theorem quoteL_M : ∀ (m : Nat) (r acc : List UInt8) (n : Nat), quoteL m r acc n = fromM (quoteM m r acc n)
  | 0, _, _, _ => rfl
  | _ + 1, [], _, _ => rfl
  | m + 1, x :: r, acc, n => by
    rw [quoteL, quoteM]
    by_cases h : (iv x == 39 && !(pairB (x :: r))) = true
    · rw [if_pos h, if_pos h]; rfl
    · rw [if_neg h, if_neg h]
      cases hp : pieceF (x :: r) with
      | none => rfl
      | some q => obtain ⟨c, k⟩ := q; exact quoteL_M m _ _ _
def quotedM (r : List UInt8) : Option (List UInt8 × Nat) := quoteM r.length (r.drop 1) [] 1
theorem quotedF_M (r : List UInt8) : quotedF r = fromM (quotedM r) := quoteL_M _ _ _ _
theorem quoteM_len : ∀ (m : Nat) (r acc : List UInt8) (n : Nat) (s : List UInt8) (len : Nat), quoteM m r acc n = some (s, len) → n + 1 ≤ len ∧ len ≤ n + r.length
  | 0, _, _, _, s, len, h => by cases h
  | _ + 1, [], _, _, s, len, h => by cases h
  | m + 1, x :: r, acc, n, s, len, h => by
    rw [quoteM] at h
    split at h
    · cases h
      simp
    · rename_i hq
      cases hp : pieceF (x :: r) with
      | none => rw [hp] at h; cases h
      | some q =>
        obtain ⟨c, k⟩ := q
        rw [hp] at h
        obtain ⟨h1, h2⟩ := quoteM_len m _ _ _ s len h
        have := pieceF_le (by simpa using hq) hp
        rw [List.length_drop] at h2
        omega
def quoV (i : Nat) : Option (List UInt8 × Nat) → Value
  | some (s, len) => .tuple #[.string (bstr s), .int .i64 (i + len : Nat), .bool true]
  | none => .tuple #[.string ⟨#[]⟩, .int .i64 0, .bool false]
set_option maxRecDepth 100000 in
set_option maxHeartbeats 8000000 in
theorem rquoted_any (b off cap : Nat) (bs : List UInt8) (i : Nat) (w : World) (hb : Byts (some ⟨b, off, none⟩) bs w) (hi : i < bs.length) (hl : bs.length ≤ 1000000) :
    Calls Tryd.prog 53 #[.slice (some ⟨b, off, none⟩) bs.length cap, .int .i64 i] w fun e w' => e = .returned (quoV i (quotedM (bs.drop i))) ∧ Only (fun _ => False) w w' := by
  obtain ⟨i0, hinf, hz0, hz1, hz2⟩ := info_parts infoU
  have HES : Hid (∀ j W, j ≤ bs.length → Only (fun _ => False) w W → Calls Tryd.prog 58 #[.slice (some ⟨b, off, none⟩) bs.length cap, .int .i64 j] W fun e w' => e = .returned (escV j (escT (bs.drop j))) ∧ w' = W) := Lib.hid (fun j W h1 ho => rescape_any b off cap bs j W (hb.later ho) hl h1)
  have HBY : Hid (∀ W, Only (fun _ => False) w W → Byts (some ⟨b, off, none⟩) bs W) := Lib.hid (fun W ho => hb.later ho)
  have hQ0 : quotedM (bs.drop i) = quoteM (bs.length - i) (bs.drop (i + 1)) [] 1 := by unfold quotedM; rw [List.length_drop, List.drop_drop]
  generalize hQ : quotedM (bs.drop i) = Q at *
  have HQ := Lib.hid hQ0
  clear hb hQ hQ0
  go_enter Tryd.func53, Tryd.ntmps53
  go_wp2_with fail
  go_loopw [7, 8] (fun tx c wr => ∃ (j m : Nat) (acc : List UInt8) (ao : Option Addr) (ac : Nat), c = .int .i64 j ∧ i + 1 ≤ j ∧ j ≤ bs.length ∧ tx = .slice ao acc.length ac ∧ Hid (quoteM m (bs.drop j) acc (j - i) = Q ∧ bs.length ≤ m + j ∧ RowOf encU 1 5 w.heap.size ao ac acc wr ∧ Only (fun _ => False) w wr ∧ acc.length ≤ j)) (fun _ c _ => bs.length - (intOf c).toNat)
  case atStart => exact ⟨i + 1, bs.length - i, [], none, 0, by go_num, by omega, by omega, rfl, Lib.hid ⟨by rw [HQ.out, show i + 1 - i = 1 by omega], by omega, RowOf.nil _ _ _ _ _, Only.refl _ _, by simp⟩⟩
  case round =>
    obtain ⟨j, m, acc, ao, ac, rfl, hj1, hj, rfl, hI⟩ := hrel
    by_cases hlt : j < bs.length
    · obtain ⟨x, hx⟩ : ∃ x, bs[j]? = some x := ⟨_, List.getElem?_eq_getElem hlt⟩
      obtain ⟨b', off', he, hb2, c1⟩ := HBY.out wr hI.out.2.2.2.1 j x hx
      cases he
      obtain ⟨m, rfl⟩ : ∃ m', m = m' + 1 := ⟨m - 1, by have := hI.out.2.1; omega⟩
      have q0 : (0 : Int) ≤ (j : Int) := by omega
      have q1 : (j : Int) < (bs.length : Int) := by omega
      have HD := Lib.hid (drop_at hx)
      have HM : Hid (bs.length ≤ m + 1 + j) := Lib.hid hI.out.2.1
      have HST : Hid (Q = if (iv x == 39 && !(pairB (bs.drop j))) = true then some (acc, j - i + 1) else match pieceF (bs.drop j) with | some (c, k) => quoteM m ((bs.drop j).drop k) (acc ++ [c]) (j - i + k) | none => none) := Lib.hid (by
        have h1 := hI.out.1
        rw [← h1, HD.out]
        rfl)
      have HROW := Lib.hid hI.out.2.2
      have HX := Lib.hid hx
      have HACC : Hid (acc.length ≤ 16777216) := Lib.hid (Nat.le_trans HROW.out.2.2 (Nat.le_trans hj (Nat.le_trans hl (by decide))))
      have HNX : ∀ (c : UInt8) (k : Nat), pieceF (bs.drop j) = some (c, k) → (iv x == 39 && !(pairB (bs.drop j))) = false → quoteM m (bs.drop (j + k)) (acc ++ [c]) (j + k - i) = Q := fun c k hp hq => by
        rw [HST.out, if_neg (by rw [hq]; decide), hp]
        show _ = quoteM m ((bs.drop j).drop k) (acc ++ [c]) (j - i + k)
        rw [List.drop_drop, show j - i + k = j + k - i by omega]
      have HNX := Lib.hid HNX
      clear hI hx hb2
      cases e39 : (iv x == 39) with
      | true =>
        by_cases hj2 : j + 1 < bs.length
        · obtain ⟨y, hy⟩ : ∃ y, bs[j + 1]? = some y := ⟨_, List.getElem?_eq_getElem hj2⟩
          obtain ⟨b', off', he, hb2, c2⟩ := HBY.out wr HROW.out.2.1 (j + 1) y hy
          cases he
          have r0 : (0 : Int) ≤ (j : Int) + 1 := by omega
          have r1 : (j : Int) + 1 < (bs.length : Int) := by omega
          have r2 : ((j : Int) + 1).toNat = j + 1 := by omega
          have HPB : Hid (pairB (bs.drop j) = (iv x == 39 && iv y == 39)) := Lib.hid (by rw [HD.out, drop_at hy]; rfl)
          clear hy hb2
          cases f39 : (iv y == 39) with
          | false =>
            have HST2 : Hid (Q = some (acc, j - i + 1)) := Lib.hid (by rw [HST.out, if_pos (by rw [HPB.out, e39, f39]; rfl)])
            have hcv := run_row HROW.out.1
            have HW0 := Lib.hid HROW.out.2.1
            clear HST HNX HPB HACC HROW HM
            go_wp2_with fail
            go_ret3
            exact ⟨by rw [HST2.out]; show _ = Ending.returned (.tuple #[.string (bstr acc), .int .i64 ((i + (j - i + 1) : Nat) : Int), .bool true]); rw [show i + (j - i + 1) = j + 1 by omega]; rfl, HW0.out⟩
          | true =>
            have HQN : Hid (quoteM m (bs.drop (j + 2)) (acc ++ [39]) (j + 2 - i) = Q) := Lib.hid (HNX.out 39 2 (by
              have hxx : x = 39 := by
                have h1 := byte_all (fun x => !(iv x == 39) || (x == 39)) (by kernel_rfl) x
                simp only [e39, Bool.not_true, Bool.false_or] at h1
                exact eq_of_beq h1
              rw [HD.out, hxx]; rfl) (by rw [HPB.out, e39, f39]; rfl))
            clear HST HNX HPB
            go_wp2_with (first | (at_builtin; apply Classical.byContradiction; intro hstop) | fail)
            apply hstop
            clear hstop
            refine wp_append_one lieU rfl (.tmp 47) (.tmp 48) 22 rfl w.heap.size 5 i0 _ 1 Tryd.underlying22 hinf hz0 hz1 hz2 rfl (by omega) _ ao ac acc 39 [.int .u8 (iv 39)] rfl rfl HROW.out.1 rfl HACC.out HROW.out.2.1.size ?_
            intro ao' ac' w6 hrow6 ho6 hnew6
            have hfr : Only (fun _ => False) w w6 := HROW.out.2.1.trans ho6 (fun q hq e => by
              obtain ⟨g, hg, e2⟩ := e
              exact absurd (Nat.lt_of_lt_of_le hq (Nat.le_trans (HROW.out.1.head g hg).2.1 (Nat.le_of_eq e2.symm))) (Nat.lt_irrefl _))
            have HR6 := Lib.hid (And.intro hrow6 hfr)
            have HAJ := Lib.hid HROW.out.2.2
            have HLEN6 : Hid ((acc ++ [(39 : UInt8)]).length = acc.length + 1) := Lib.hid (by simp)
            clear hrow6 ho6 hnew6 hfr HACC HROW c1 c2
            go_wp2_with fail
            go_roundw
            case rel =>
              exact ⟨j + 2, m, acc ++ [39], ao', ac', by first | rfl | go_num, by omega, by omega, (by first | rfl | rw [HLEN6.out]), Lib.hid ⟨HQN.out, by have := HM.out; omega, HR6.out.1, HR6.out.2, by rw [HLEN6.out]; have := HAJ.out; omega⟩⟩
            case measure => simp [intOf]; omega
        · have HPB : Hid (pairB (bs.drop j) = false) := Lib.hid (pairB_short hj2)
          have HST2 : Hid (Q = some (acc, j - i + 1)) := Lib.hid (by rw [HST.out, if_pos (by rw [HPB.out, e39]; rfl)])
          have hcv := run_row HROW.out.1
          have HW0 := Lib.hid HROW.out.2.1
          have r1 : ¬ ((j : Int) + 1 < (bs.length : Int)) := by omega
          clear HST HNX HPB HACC HROW HM
          go_wp2_with fail
          go_ret3
          exact ⟨by rw [HST2.out]; show _ = Ending.returned (.tuple #[.string (bstr acc), .int .i64 ((i + (j - i + 1) : Nat) : Int), .bool true]); rw [show i + (j - i + 1) = j + 1 by omega]; rfl, HW0.out⟩
      | false =>
        have hcond : (iv x == 39 && !(pairB (bs.drop j))) = false := by rw [e39]; rfl
        have HST2 : Hid (Q = match pieceF (bs.drop j) with | some (c, k) => quoteM m ((bs.drop j).drop k) (acc ++ [c]) (j - i + k) | none => none) := Lib.hid (by rw [HST.out, if_neg (by rw [hcond]; decide)])
        have HPI : Hid (pieceF (bs.drop j) = if (iv x == 92) = true then unescF (bs.drop j) else if ctrlB (iv x) = true then none else some (x, 1)) := Lib.hid (by rw [HD.out, pieceF, if_neg (by rw [e39]; decide)])
        have HNC := Lib.hid hcond
        clear HST hcond
        cases e92 : (iv x == 92) with
        | true =>
          have HUN : Hid (pieceF (bs.drop j) = (escT (bs.drop (j + 1))).map (fun q => (q.1, q.2 + 1))) := Lib.hid (by rw [HPI.out, if_pos e92, HD.out, unesc_T])
          have HE1 := Lib.hid (HES.out (j + 1) wr (by omega) HROW.out.2.1)
          have HLE : Hid (∀ c k, pieceF (bs.drop j) = some (c, k) → 1 ≤ k ∧ k ≤ bs.length - j) := Lib.hid (fun c k hp => by
            have h1 := HNC.out
            rw [HD.out] at hp h1
            have := pieceF_le h1 hp
            rw [← HD.out, List.length_drop] at this
            exact this)
          cases het : escT (bs.drop (j + 1)) with
          | none =>
            rw [het] at HE1 HUN
            have HNO : Hid (Q = none) := Lib.hid (by rw [HST2.out, HUN.out]; rfl)
            have HW0 := Lib.hid HROW.out.2.1
            clear HST2 HUN HPI HNX HLE HACC HROW HM het
            unfold escV at HE1
            go_wp2_with fail
            refine HE1.out.mono ?_
            rintro e w1 ⟨rfl, rfl⟩
            go_wp2_with fail
            go_ret3
            exact ⟨by rw [HNO.out]; rfl, HW0.out⟩
          | some q =>
            obtain ⟨c, k⟩ := q
            rw [het] at HE1 HUN
            have hp : pieceF (bs.drop j) = some (c, k + 1) := HUN.out
            have hk := HLE.out c (k + 1) hp
            have HQN : Hid (quoteM m (bs.drop (j + 1 + k)) (acc ++ [c]) (j + 1 + k - i) = Q) := Lib.hid (by have := HNX.out c (k + 1) hp HNC.out; rwa [show j + (k + 1) = j + 1 + k by omega] at this)
            obtain ⟨n, hn⟩ : ∃ n, n = j + 1 + k := ⟨_, rfl⟩
            have hn1 : j < n := by omega
            have hn2 : n ≤ bs.length := by omega
            have hn3 : i + 1 ≤ n := by omega
            have HE2 : Hid (Calls Tryd.prog 58 #[.slice (some ⟨b, off, none⟩) bs.length cap, .int .i64 ((j + 1 : Nat) : Int)] wr fun e w' => e = .returned (.tuple #[.int .u8 (iv c), .int .i64 (n : Int), .bool true]) ∧ w' = wr) := Lib.hid (by rw [hn]; exact HE1.out)
            rw [← hn] at HQN
            clear HE1
            have HMM : Hid (bs.length ≤ m + n) := Lib.hid (by have := HM.out; omega)
            have HAN : Hid (acc.length + 1 ≤ n) := Lib.hid (by have := HROW.out.2.2; omega)
            clear HST2 HUN HPI HNX HLE het hp hk hn HM
            go_wp2_with fail
            refine HE2.out.mono ?_
            rintro e w1 ⟨rfl, rfl⟩
            go_wp2_with (first | (at_builtin; apply Classical.byContradiction; intro hstop) | fail)
            apply hstop
            clear hstop
            refine wp_append_one lieU rfl (.tmp 72) (.tmp 74) 22 rfl w.heap.size 5 i0 _ 1 Tryd.underlying22 hinf hz0 hz1 hz2 rfl (by omega) _ ao ac acc c [.int .u8 (iv c)] rfl rfl HROW.out.1 rfl HACC.out HROW.out.2.1.size ?_
            intro ao' ac' w6 hrow6 ho6 hnew6
            have hfr : Only (fun _ => False) w w6 := HROW.out.2.1.trans ho6 (fun q hq e => by
              obtain ⟨g, hg, e2⟩ := e
              exact absurd (Nat.lt_of_lt_of_le hq (Nat.le_trans (HROW.out.1.head g hg).2.1 (Nat.le_of_eq e2.symm))) (Nat.lt_irrefl _))
            have HR6 := Lib.hid (And.intro hrow6 hfr)
            have HLEN6 : Hid ((acc ++ [c]).length = acc.length + 1) := Lib.hid (by simp)
            clear hrow6 ho6 hnew6 hfr HACC HROW c1
            go_wp2_with fail
            go_roundw
            case rel =>
              exact ⟨n, m, acc ++ [c], ao', ac', by first | rfl | go_num, by omega, by omega, (by first | rfl | rw [HLEN6.out]), Lib.hid ⟨HQN.out, HMM.out, HR6.out.1, HR6.out.2, by rw [HLEN6.out]; exact HAN.out⟩⟩
            case measure => simp [intOf]; omega
        | false =>
          have HPI2 : Hid (pieceF (bs.drop j) = if ctrlB (iv x) = true then none else some (x, 1)) := Lib.hid (by rw [HPI.out, if_neg (by rw [e92]; decide)])
          by_cases hct : ctrlB (iv x) = true
          · have HNO : Hid (Q = none) := Lib.hid (by rw [HST2.out, HPI2.out, if_pos hct])
            have HW0 := Lib.hid HROW.out.2.1
            have HCT : Hid (decide (iv x < 32) || iv x == 127) := Lib.hid hct
            clear HST2 HPI2 HPI HNX HACC HROW HM hct
            by_cases h32 : iv x < 32
            · go_wp2_with fail
              go_ret3
              exact ⟨by rw [HNO.out]; rfl, HW0.out⟩
            · have h127 : (iv x == 127) = true := by
                have := HCT.out
                rw [decide_eq_false h32] at this
                simpa using this
              go_wp2_with fail
              go_ret3
              exact ⟨by rw [HNO.out]; rfl, HW0.out⟩
          · have hct2 : ctrlB (iv x) = false := by simpa using hct
            have hp : pieceF (bs.drop j) = some (x, 1) := by rw [HPI2.out, if_neg hct]
            have HQN : Hid (quoteM m (bs.drop (j + 1)) (acc ++ [x]) (j + 1 - i) = Q) := Lib.hid (HNX.out x 1 hp HNC.out)
            have h32 : ¬ iv x < 32 := by
              intro h
              unfold ctrlB at hct2
              rw [decide_eq_true h] at hct2
              simp at hct2
            have h127 : (iv x == 127) = false := by
              unfold ctrlB at hct2
              rw [decide_eq_false h32] at hct2
              simpa using hct2
            clear HST2 HPI2 HPI HNX hct hct2 hp
            go_wp2_with (first | (at_builtin; apply Classical.byContradiction; intro hstop) | fail)
            apply hstop
            clear hstop
            refine wp_append_one lieU rfl (.tmp 23) (.tmp 25) 22 rfl w.heap.size 5 i0 _ 1 Tryd.underlying22 hinf hz0 hz1 hz2 rfl (by omega) _ ao ac acc x [.int .u8 (iv x)] rfl rfl HROW.out.1 rfl HACC.out HROW.out.2.1.size ?_
            intro ao' ac' w6 hrow6 ho6 hnew6
            have hfr : Only (fun _ => False) w w6 := HROW.out.2.1.trans ho6 (fun q hq e => by
              obtain ⟨g, hg, e2⟩ := e
              exact absurd (Nat.lt_of_lt_of_le hq (Nat.le_trans (HROW.out.1.head g hg).2.1 (Nat.le_of_eq e2.symm))) (Nat.lt_irrefl _))
            have HR6 := Lib.hid (And.intro hrow6 hfr)
            have HAJ := Lib.hid HROW.out.2.2
            have HLEN6 : Hid ((acc ++ [x]).length = acc.length + 1) := Lib.hid (by simp)
            clear hrow6 ho6 hnew6 hfr HACC HROW c1
            go_wp2_with fail
            go_roundw
            case rel =>
              exact ⟨j + 1, m, acc ++ [x], ao', ac', by first | rfl | go_num, by omega, by omega, (by first | rfl | rw [HLEN6.out]), Lib.hid ⟨HQN.out, by have := HM.out; omega, HR6.out.1, HR6.out.2, by rw [HLEN6.out]; have := HAJ.out; omega⟩⟩
            case measure => simp [intOf]; omega
    · have HNO : Hid (Q = none) := Lib.hid (by
        have h1 := hI.out.1
        rw [drop_end hlt] at h1
        rw [← h1]
        cases m <;> rfl)
      have HW0 := Lib.hid hI.out.2.2.2.1
      obtain rfl : j = bs.length := by omega
      clear hI
      go_wp2_with fail
      go_ret3
      exact ⟨by rw [HNO.out]; rfl, HW0.out⟩
end Go.Proofs.YtogccafnfpmgmaaDoor.toks
