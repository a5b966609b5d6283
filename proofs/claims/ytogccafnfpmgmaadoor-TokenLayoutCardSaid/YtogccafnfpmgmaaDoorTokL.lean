/- Tokens: All. -/
import Derived.Test.YtogccafnfpmgmaaDoorTokK
namespace Go.Proofs.YtogccafnfpmgmaaDoor.toks
open Go.RowKit Go.Proofs.YtogccafnfpmgmaaDoor.own
theorem rowN_pos {g : Int → Bool} {x : UInt8} {t : List UInt8} (h : g (iv x) = true) : 1 ≤ rowN g (x :: t) := by
  rw [rowN, if_pos h]; omega
theorem quoteL_len : ∀ (m : Nat) (r acc : List UInt8) (n : Nat) (kd : Int) (s : List UInt8) (v : Int) (len : Nat), quoteL m r acc n = .ok kd s v len → n + 1 ≤ len ∧ len ≤ n + r.length
  | 0, r, acc, n, kd, s, v, len, h => by cases h
  | m + 1, [], acc, n, kd, s, v, len, h => by cases h
  | m + 1, x :: r, acc, n, kd, s, v, len, h => by
    rw [quoteL] at h
    cases hq : (iv x == 39 && !(pairB (x :: r))) with
    | true =>
      rw [if_pos hq] at h
      split at h
      · cases h
      · cases h
        simp only [List.length_cons]
        omega
    | false =>
      rw [if_neg (by rw [hq]; decide)] at h
      cases hp : pieceF (x :: r) with
      | none => rw [hp] at h; cases h
      | some q =>
        obtain ⟨c, k⟩ := q
        rw [hp] at h
        have h1 := pieceF_le hq hp
        have h2 := quoteL_len m _ _ _ _ _ _ _ h
        rw [List.length_drop] at h2
        omega
theorem readF_len {r : List UInt8} {kd : Int} {s : List UInt8} {v : Int} {len : Nat} (h : readF r = .ok kd s v len) : 1 ≤ len ∧ len ≤ r.length := by
  have hn : ∀ kd' g, 1 ≤ rowN g r → nameF kd' g r = .ok kd s v len → 1 ≤ len ∧ len ≤ r.length := fun kd' g hg h => by
    unfold nameF at h
    split at h
    · cases h
    · cases h; exact ⟨hg, rowN_le g r⟩
  cases r with
  | nil => cases h
  | cons x t =>
    have hone : 1 ≤ 1 ∧ 1 ≤ (x :: t).length := ⟨by omega, by simp⟩
    rw [readF] at h
    split at h
    · cases h; exact hone
    · split at h
      · rename_i hs
        refine hn _ _ (rowN_pos ?_) h
        rcases Bool.or_eq_true _ _ ▸ hs with h1 | h1
        · rw [beq_iff_eq] at h1; rw [h1]; decide
        · exact h1
      · split at h
        · rename_i hs
          exact hn _ _ (rowN_pos (by unfold wordB; rw [hs]; rfl)) h
        · split at h
          · rename_i hs
            refine hn _ _ (rowN_pos ?_) h
            unfold wordB
            rcases Bool.or_eq_true _ _ ▸ hs with h1 | h1
            · rw [h1]; simp
            · rw [h1]; simp
          · split at h
            · rename_i hs
              unfold numberF at h
              cases hv : numN 0 ((x :: t).take (rowN digB (x :: t))) with
              | none => rw [hv] at h; cases h
              | some v' =>
                rw [hv] at h
                cases h
                exact ⟨rowN_pos hs, rowN_le _ _⟩
            · split at h
              · cases h; exact hone
              · split at h
                · cases h; exact hone
                · split at h
                  · have := quoteL_len _ _ _ _ _ _ _ _ h
                    simp only [List.drop_succ_cons, List.drop_zero] at this
                    simp only [List.length_cons]
                    omega
                  · cases h
/-- A token. -/
structure Tk where
  kd : Int
  s : List UInt8
  n : Int
  at_ : Nat
  lay : Bool
def encT (t : Tk) : List Value := [.int .i64 t.kd, .string (bstr t.s), .int .i64 t.n, .int .i64 t.at_, .bool t.lay]
theorem lieT : Lies encT 5 := ⟨fun _ => rfl, fun x u hu => by simp [encT] at hu; rcases hu with rfl | rfl | rfl | rfl | rfl <;> rfl, by decide⟩
theorem infoT : (Tryd.prog.info? 30).map (fun i => (i.zero, i.size, i.bytes)) = some (some (.agg #[.int .i64 0, .string ⟨#[]⟩, .int .i64 0, .int .i64 0, .bool false]), 5, 48) := by kernel_rfl
/-- What All answers. -/
inductive AR where
  | ok (l : List Tk) (n : Nat)
  | no (n : Nat) (e : Int)
def allL : Nat → List UInt8 → Nat → List Tk → AR
  | 0, _, i, _ => .no i 0
  | m + 1, bs, i, acc => match scanF bs i with
    | .ok kd s n at_ lay next => allL m bs next (acc ++ [⟨kd, s, n, at_, lay⟩])
    | .no next e => if e = 4 then .ok acc next else .no next e
def allF (bs : List UInt8) : AR := allL (bs.length + 1) bs 0 []
theorem scanF_ok {bs : List UInt8} {i : Nat} {kd : Int} {s : List UInt8} {n : Int} {at_ : Nat} {lay : Bool} {next : Nat} (hi : i ≤ bs.length) (h : scanF bs i = .ok kd s n at_ lay next) : i ≤ at_ ∧ at_ < next ∧ next ≤ bs.length := by
  obtain ⟨h1, h2⟩ := skipA_le (m := bs.length) hi
  unfold scanF at h
  split at h
  · cases h
  · split at h
    · cases h
    · cases hr : readF (bs.drop (skipA bs bs.length i).1) with
      | no e => rw [hr] at h; cases h
      | ok kd' s' n' len =>
        rw [hr] at h
        have := readF_len hr
        rw [List.length_drop] at this
        cases h
        omega
theorem scanF_no {bs : List UInt8} {i next : Nat} {e : Int} (h : scanF bs i = .no next e) : e ≠ 0 := by
  unfold scanF at h
  split at h
  · cases h; decide
  · split at h
    · cases h; decide
    · cases hr : readF (bs.drop (skipA bs bs.length i).1) with
      | no e => rw [hr] at h; cases h; exact readF_no hr
      | ok kd' s' n' len => rw [hr] at h; cases h
/-- What the answer of All is in memory: behind B. -/
def AllIs (B : Nat) (e : Ending) (W : World) : AR → Prop
  | .ok l n => ∃ ro rc, e = .returned (.tuple #[.slice ro l.length rc, .int .i64 n, .int .i64 0]) ∧ RowOf encT 5 30 B ro rc l W ∧ l.length ≤ 65536
  | .no n er => e = .returned (.tuple #[.slice none 0 0, .int .i64 n, .int .i64 er]) ∧ er ≠ 0
set_option maxRecDepth 100000 in
set_option maxHeartbeats 8000000 in
theorem all_any (ao : Option Addr) (cap : Nat) (bs : List UInt8) (w : World) (hb : Byts ao bs w) (hl : bs.length ≤ 65536) (hc : bs.length ≤ cap) :
    Calls Tryd.prog 8 #[.slice ao bs.length cap] w fun e w' => AllIs w.heap.size e w' (allF bs) ∧ Only (fun _ => False) w w' := by
  obtain ⟨i0, hinf, hz0, hz1, hz2⟩ := info_parts infoT
  have HSC : Hid (∀ j W, j ≤ bs.length → Only (fun _ => False) w W → Calls Tryd.prog 15 #[.slice ao bs.length cap, .int .i64 j] W fun e w' => e = .returned (ansS (scanF bs j)) ∧ Only (fun _ => False) W w') := Lib.hid (fun j W h1 ho => scan_any ao cap bs j W (hb.later ho) h1 hl hc)
  have HF : Hid (allF bs = allL (bs.length + 1) bs 0 []) := Lib.hid rfl
  generalize allF bs = Q at *
  clear hb
  go_enter Tryd.func8, Tryd.ntmps8
  go_wp2_with fail
  go_loopw [5, 6] (fun tx c wr => ∃ (j m : Nat) (acc : List Tk) (ro : Option Addr) (rc : Nat), c = .int .i64 j ∧ j ≤ bs.length ∧ tx = .slice ro acc.length rc ∧ Hid (allL m bs j acc = Q ∧ bs.length + 1 ≤ m + j ∧ RowOf encT 5 30 w.heap.size ro rc acc wr ∧ Only (fun _ => False) w wr ∧ acc.length ≤ j)) (fun _ c _ => bs.length - (intOf c).toNat)
  case atStart => exact ⟨0, bs.length + 1, [], none, 0, rfl, by omega, rfl, Lib.hid ⟨HF.out.symm, by omega, RowOf.nil _ _ _ _ _, Only.refl _ _, by simp⟩⟩
  case round =>
    obtain ⟨j, m, acc, ro, rc, rfl, hj, rfl, hI⟩ := hrel
    have HCA := Lib.hid (HSC.out j wr hj hI.out.2.2.2.1)
    obtain ⟨m, rfl⟩ : ∃ m', m = m' + 1 := ⟨m - 1, by have := hI.out.2.1; omega⟩
    have HST : Hid (Q = match scanF bs j with
    | .ok kd s n at_ lay next => allL m bs next (acc ++ [⟨kd, s, n, at_, lay⟩])
    | .no next e => if e = 4 then .ok acc next else .no next e) := Lib.hid hI.out.1.symm
    have HJ := Lib.hid hj
    have HM : Hid (bs.length ≤ m + j) := Lib.hid (by have := hI.out.2.1; omega)
    have HROW := Lib.hid hI.out.2.2
    clear hI hj
    cases hsc : scanF bs j with
    | no next er =>
      have her := scanF_no hsc
      rw [hsc] at HCA HST
      unfold ansS at HCA
      clear hsc
      by_cases h4 : er = 4
      · subst h4
        have HQ : Hid (Q = .ok acc next) := Lib.hid (by rw [HST.out]; rfl)
        clear HST
        go_wp2_with fail
        refine HCA.out.mono ?_
        rintro e w1 ⟨rfl, ho⟩
        go_wp2_with fail
        go_ret3
        refine ⟨?_, HROW.out.2.1.same (ho.same (Only.alloc _ _ _))⟩
        rw [HQ.out]
        exact ⟨_, _, rfl, HROW.out.1.only (ho.same (Only.alloc _ _ _)) (fun _ _ e => e), by have := HROW.out.2.2; have := HJ.out; omega⟩
      · have HQ : Hid (Q = .no next er) := Lib.hid (by rw [HST.out]; exact if_neg h4)
        have h40 : (er == 4) = false := by rw [beq_eq_false_iff_ne]; exact h4
        have h00 : (er == 0) = false := by rw [beq_eq_false_iff_ne]; exact her
        clear HST
        go_wp2_with fail
        refine HCA.out.mono ?_
        rintro e w1 ⟨rfl, ho⟩
        go_wp2_with fail
        go_ret3
        refine ⟨?_, HROW.out.2.1.same (ho.same (Only.alloc _ _ _))⟩
        rw [HQ.out]
        exact ⟨rfl, her⟩
    | ok kd s n at_ lay next =>
      obtain ⟨hn1, hn2, hn3⟩ := scanF_ok HJ.out hsc
      rw [hsc] at HCA HST
      have HQ : Hid (allL m bs next (acc ++ [⟨kd, s, n, at_, lay⟩]) = Q) := Lib.hid HST.out.symm
      have HLEN : Hid ((acc ++ [(⟨kd, s, n, at_, lay⟩ : Tk)]).length = acc.length + 1) := Lib.hid (by simp)
      have HNX : Hid (j + 1 ≤ next ∧ next ≤ bs.length) := Lib.hid ⟨by omega, by omega⟩
      have HAL : Hid (acc.length ≤ 16777216) := Lib.hid (by have := HROW.out.2.2; omega)
      have HSZ : Hid (∀ w1, Only (fun _ => False) wr w1 → w.heap.size ≤ w1.heap.size) := Lib.hid (fun w1 ho => Nat.le_trans HROW.out.2.1.size ho.size)
      unfold ansS at HCA
      clear hsc HST hn1 hn2 hn3
      go_wp2_with fail
      refine HCA.out.mono ?_
      rintro e w1 ⟨rfl, ho⟩
      have HO1 := Lib.hid ho
      have hb2 : (w1.alloc (.cells #[.int .i64 kd, .string (bstr s), .int .i64 n, .int .i64 at_, .bool lay] 30)).heap[w1.heap.size]? = some (.cells #[.int .i64 kd, .string (bstr s), .int .i64 n, .int .i64 at_, .bool lay] 30 (0, 0)) := heap_alloc_new w1 _
      obtain ⟨⟨t0, t1, t2, t3, t4⟩, f0, f1, f2, f3, f4⟩ := tk_cells hb2
      clear ho hb2
      go_wp2_with (first | (at_builtin; apply Classical.byContradiction; intro hstop) | fail)
      apply hstop
      clear hstop
      have HOA : Hid (Only (fun _ => False) wr (w1.alloc (.cells #[.int .i64 kd, .string (bstr s), .int .i64 n, .int .i64 at_, .bool lay] 30))) := Lib.hid (HO1.out.same (Only.alloc _ _ _))
      have hzz : (w1.alloc (.cells #[.int .i64 kd, .string (bstr s), .int .i64 n, .int .i64 at_, .bool lay] 30)).heap.size = w1.heap.size + 1 := by simp
      rw [← hzz]
      clear t0 t1 t2 t3 t4 f0 f1 f2 f3 f4 HO1
      generalize w1.alloc (.cells #[.int .i64 kd, .string (bstr s), .int .i64 n, .int .i64 at_, .bool lay] 30) = wB at *
      refine wp_append_one lieT rfl (.tmp 25) (.tmp 27) 24 rfl w.heap.size 30 i0 _ 48 Tryd.underlying24 hinf hz0 hz1 hz2 rfl (by omega) wB ro rc acc ⟨kd, s, n, at_, lay⟩ [.int .i64 kd, .string (bstr s), .int .i64 n, .int .i64 at_, .bool lay] rfl rfl (HROW.out.1.only HOA.out (fun _ _ e => e)) rfl HAL.out (HSZ.out _ HOA.out) ?_
      intro ro' rc' w6 hrow6 ho6 hnew6
      have hfr : Only (fun _ => False) w w6 := (HROW.out.2.1.same HOA.out).trans ho6 (fun q hq e => by
        obtain ⟨g, hg, e2⟩ := e
        exact absurd (Nat.lt_of_lt_of_le hq (Nat.le_trans (HROW.out.1.head g hg).2.1 (Nat.le_of_eq e2.symm))) (Nat.lt_irrefl _))
      have HR6 := Lib.hid (And.intro hrow6 hfr)
      have HAJ := Lib.hid HROW.out.2.2
      clear hrow6 ho6 hnew6 hfr HAL HROW HSC HCA HOA hzz HSZ
      go_wp2_with fail
      go_roundw
      case rel =>
        exact ⟨next, m, acc ++ [⟨kd, s, n, at_, lay⟩], ro', rc', rfl, HNX.out.2, (by first | rfl | rw [HLEN.out]), Lib.hid ⟨HQ.out, by have := HM.out; have := HNX.out.1; omega, HR6.out.1, HR6.out.2, by rw [HLEN.out]; have := HAJ.out; have := HNX.out.1; omega⟩⟩
      case measure =>
        show bs.length - next < bs.length - j
        have := HNX.out
        omega
end Go.Proofs.YtogccafnfpmgmaaDoor.toks
