/- Tokens: quoted names. -/
import Derived.Test.YtogccafnfpmgmaaDoorTokH
namespace Go.Proofs.YtogccafnfpmgmaaDoor.toks
open Go.RowKit Go.Proofs.YtogccafnfpmgmaaDoor.own
def encU (x : UInt8) : List Value := [.int .u8 (iv x)]
theorem lieU : Lies encU 1 := ⟨fun _ => rfl, fun x u hu => by simp [encU] at hu; subst hu; rfl, by decide⟩
theorem infoU : (Tryd.prog.info? 5).map (fun i => (i.zero, i.size, i.bytes)) = some (some (.int .u8 0), 1, 1) := by kernel_rfl
/-- The five cells are stored. -/
abbrev tkW (W : World) (b : Nat) (v0 v1 v2 v3 v4 : Value) : World := ((((W.setCell ⟨b, 0, none⟩ v0).setCell ⟨b, 1, none⟩ v1).setCell ⟨b, 2, none⟩ v2).setCell ⟨b, 3, none⟩ v3).setCell ⟨b, 4, none⟩ v4
theorem tk_set {W : World} {b : Nat} {u0 u1 u2 u3 u4 : Value} (h : W.heap[b]? = some (.cells #[u0, u1, u2, u3, u4] 30 (0, 0))) (v0 v1 v2 v3 v4 : Value) : (tkW W b v0 v1 v2 v3 v4).heap[b]? = some (.cells #[v0, v1, v2, v3, v4] 30 (0, 0)) ∧ Only (fun q => q = b) W (tkW W b v0 v1 v2 v3 v4) := by
  have h0 := blk_set h 0 v0
  have h1 := blk_set h0 1 v1
  have h2 := blk_set h1 2 v2
  have h3 := blk_set h2 3 v3
  have h4 := blk_set h3 4 v4
  refine ⟨by simpa using h4, ?_⟩
  have c : ∀ (w : World) (j : Nat) (y : Value), Only (fun q => q = b) w (w.setCell ⟨b, j, none⟩ y) := fun w j y => Only.setCell (S := fun q => q = b) w (p := ⟨b, j, none⟩) rfl y
  exact ((((c _ _ _).same (c _ _ _)).same (c _ _ _)).same (c _ _ _)).same (c _ _ _)
theorem Only.cut {S : Nat → Prop} {a b c : World} (h : Only (fun _ => False) a b) (h' : Only S b c) (hS : ∀ k, S k → a.heap.size ≤ k) : Only (fun _ => False) a c :=
  h.trans h' (fun k hk e => by have := hS k e; omega)
theorem tk_cells {W : World} {b : Nat} {u0 u1 u2 u3 u4 : Value} (h : W.heap[b]? = some (.cells #[u0, u1, u2, u3, u4] 30 (0, 0))) : (W.cell? ⟨b, 0, none⟩ = some u0 ∧ W.cell? ⟨b, 1, none⟩ = some u1 ∧ W.cell? ⟨b, 2, none⟩ = some u2 ∧ W.cell? ⟨b, 3, none⟩ = some u3 ∧ W.cell? ⟨b, 4, none⟩ = some u4) ∧ (W.frozen? ⟨b, 0, none⟩ = false ∧ W.frozen? ⟨b, 1, none⟩ = false ∧ W.frozen? ⟨b, 2, none⟩ = false ∧ W.frozen? ⟨b, 3, none⟩ = false ∧ W.frozen? ⟨b, 4, none⟩ = false) :=
  ⟨⟨cell_of_blk h 0, cell_of_blk h 1, cell_of_blk h 2, cell_of_blk h 3, cell_of_blk h 4⟩, free_of_blk h 0, free_of_blk h 1, free_of_blk h 2, free_of_blk h 3, free_of_blk h 4⟩
theorem run_row {B : Nat} {ao : Option Addr} {ac : Nat} {acc : List UInt8} {W : World} (h : RowOf encU 1 5 B ao ac acc W) : (convert 22 9 (.slice ao acc.length ac)).run Tryd.prog W = .ok (.string (bstr acc)) W := by
  cases ao with
  | none =>
    have h0 : acc = [] := by
      cases acc with
      | nil => rfl
      | cons a l =>
        obtain ⟨g, e, _⟩ := h.at lieU 0 a rfl
        cases e
    subst h0
    rw [run_convert_bytes_string W 22 9 5 _ _ _ Tryd.underlying22 Tryd.underlying5 Tryd.underlying9]
    first | rfl | kernel_rfl | simp [Conv.bytesToString]
  | some a =>
    obtain ⟨e1, _, _⟩ := h.head a rfl
    rw [e1]
    rw [e1] at h
    exact run_bytes W a.block 0 ac acc (fun k x hx => by
      obtain ⟨g, e, _, hc⟩ := h.at lieU k x hx
      have e2 : a.block = g := by simpa using congrArg (fun o => o.map (·.block)) e
      have := (hc 0 (by decide)).1
      rw [e2, Nat.zero_add]
      simpa [encU] using this)
def quoteL : Nat → List UInt8 → List UInt8 → Nat → TR
  | 0, _, _, _ => .no 80
  | _ + 1, [], _, _ => .no 80
  | m + 1, x :: r, acc, n => if (iv x == 39 && !(pairB (x :: r))) = true then (if 64 < acc.length then .no 3 else .ok 2 acc 0 (n + 1))
    else match pieceF (x :: r) with
      | some (c, k) => quoteL m ((x :: r).drop k) (acc ++ [c]) (n + k)
      | none => .no 80
def quotedF (r : List UInt8) : TR := quoteL r.length (r.drop 1) [] 1
theorem unhexF_le {r : List UInt8} {c : UInt8} {k : Nat} (h : unhexF r = some (c, k)) : 1 ≤ k ∧ k ≤ r.length := by
  unfold unhexF at h
  have hd : (r.drop 2).length = r.length - 2 := List.length_drop
  match ht : r.drop 2, h with
  | [], h => cases h
  | [_], h => cases h
  | x :: y :: t, h =>
    rw [ht] at hd
    simp only [List.length_cons] at hd
    simp only at h
    split at h
    · cases h
    · split at h
      · split at h
        · cases h; omega
        · cases h
      · match t, h with
        | [], h => cases h
        | z :: t, h =>
          simp only [List.length_cons] at hd
          simp only at h
          split at h
          · cases h; omega
          · cases h
theorem unescF_le {r : List UInt8} {c : UInt8} {k : Nat} (h : unescF r = some (c, k)) : 1 ≤ k ∧ k ≤ r.length := by
  match r, h with
  | [], h => cases h
  | [_], h => cases h
  | x :: y :: t, h =>
    rw [unescF] at h
    simp only [List.length_cons]
    split at h
    · cases h; omega
    · split at h
      · cases h; omega
      · split at h
        · cases h; omega
        · split at h
          · cases h; omega
          · split at h
            · have := unhexF_le h
              simpa using this
            · cases h
theorem pieceF_le {x : UInt8} {r : List UInt8} {c : UInt8} {k : Nat} (hq : (iv x == 39 && !(pairB (x :: r))) = false) (h : pieceF (x :: r) = some (c, k)) : 1 ≤ k ∧ k ≤ (x :: r).length := by
  rw [pieceF] at h
  split at h
  · rename_i h1
    rw [h1, Bool.true_and] at hq
    cases h
    match r, hq with
    | [], hq => cases hq
    | y :: t, _ => simp
  · split at h
    · exact unescF_le h
    · split at h
      · cases h
      · cases h; simp
set_option maxRecDepth 100000 in
set_option maxHeartbeats 8000000 in
theorem quoted_any (b off cap : Nat) (bs : List UInt8) (i : Nat) (w : World) (hb : Byts (some ⟨b, off, none⟩) bs w) (hi : i < bs.length) (hl : bs.length ≤ 1000000) (hc : bs.length ≤ cap) :
    Calls Tryd.prog 49 #[.slice (some ⟨b, off, none⟩) bs.length cap, .int .i64 i] w fun e w' => e = .returned (ansR i (quotedF (bs.drop i))) ∧ Only (fun _ => False) w w' := by
  obtain ⟨i0, hinf, hz0, hz1, hz2⟩ := info_parts infoU
  have HPQ : Hid (∀ j W, j ≤ bs.length → Only (fun _ => False) w W → Calls Tryd.prog 56 #[.slice (some ⟨b, off, none⟩) bs.length cap, .int .i64 j] W fun e w' => e = .returned (.bool (pairB (bs.drop j))) ∧ w' = W) := Lib.hid (fun j W h1 ho => isQuotePair_any _ cap bs j W (hb.later ho) hl h1)
  have HPC : Hid (∀ j W, j < bs.length → Only (fun _ => False) w W → Calls Tryd.prog 57 #[.slice (some ⟨b, off, none⟩) bs.length cap, .int .i64 j] W fun e w' => e = .returned (pairR (pieceF (bs.drop j))) ∧ w' = W) := Lib.hid (fun j W h1 ho => piece_any b off cap bs j W (hb.later ho) h1 hl hc)
  have HBY : Hid (∀ W, Only (fun _ => False) w W → Byts (some ⟨b, off, none⟩) bs W) := Lib.hid (fun W ho => hb.later ho)
  have hw1 : wrap64 ((i : Int) + 1) = (i : Int) + 1 := by unfold wrap64; omega
  have hQ0 : quotedF (bs.drop i) = quoteL (bs.length - i) (bs.drop (i + 1)) [] 1 := by unfold quotedF; rw [List.length_drop, List.drop_drop]
  have HOB : Hid ((w.alloc (.cells #[.int .i64 0, .string ⟨#[]⟩, .int .i64 0, .int .i64 0, .bool false] 30)).heap[w.heap.size]? = some (.cells #[.int .i64 0, .string ⟨#[]⟩, .int .i64 0, .int .i64 0, .bool false] 30 (0, 0))) := Lib.hid (heap_alloc_new w _)
  have HO0 : Hid (Only (fun _ => False) w (w.alloc (.cells #[.int .i64 0, .string ⟨#[]⟩, .int .i64 0, .int .i64 0, .bool false] 30))) := Lib.hid (Only.alloc _ _ _)
  have hs0 : (w.alloc (.cells #[.int .i64 0, .string ⟨#[]⟩, .int .i64 0, .int .i64 0, .bool false] 30)).heap.size = w.heap.size + 1 := by simp
  generalize hQ : quotedF (bs.drop i) = Q at *
  have HQ := Lib.hid hQ0
  clear hb hQ hQ0
  go_enter Tryd.func49, Tryd.ntmps49
  go_wp2_with fail
  generalize w.alloc (.cells #[.int .i64 0, .string ⟨#[]⟩, .int .i64 0, .int .i64 0, .bool false] 30) = w0 at *
  go_loopw [7, 8] (fun tx c wr => ∃ (j m : Nat) (acc : List UInt8) (ao : Option Addr) (ac : Nat), c = .int .i64 j ∧ i + 1 ≤ j ∧ j ≤ bs.length ∧ tx = .slice ao acc.length ac ∧ Hid (quoteL m (bs.drop j) acc (j - i) = Q ∧ bs.length ≤ m + j ∧ RowOf encU 1 5 w0.heap.size ao ac acc wr ∧ Only (fun _ => False) w0 wr ∧ acc.length ≤ j)) (fun _ c _ => bs.length - (intOf c).toNat)
  case atStart => exact ⟨i + 1, bs.length - i, [], none, 0, by go_num, by omega, by omega, rfl, Lib.hid ⟨by rw [HQ.out, show i + 1 - i = 1 by omega], by omega, RowOf.nil _ _ _ _ _, Only.refl _ _, by simp⟩⟩
  case round =>
    obtain ⟨j, m, acc, ao, ac, rfl, hj1, hj, rfl, hI⟩ := hrel
    have hw2 : wrap64 ((j : Int) + 1) = (j : Int) + 1 := by unfold wrap64; omega
    have HWW : Hid (Only (fun _ => False) w wr) := Lib.hid (HO0.out.same hI.out.2.2.2.1)
    have HBX : Hid (wr.heap[w.heap.size]? = some (.cells #[.int .i64 0, .string ⟨#[]⟩, .int .i64 0, .int .i64 0, .bool false] 30 (0, 0))) := Lib.hid (by
      rw [hI.out.2.2.2.1.block w.heap.size (by omega) (fun e => e)]
      exact HOB.out)
    obtain ⟨⟨t0, t1, t2, t3, t4⟩, f0, f1, f2, f3, f4⟩ := tk_cells HBX.out
    have hret : ∀ v0 v1 v2 v3 v4, Only (fun _ => False) w (tkW wr w.heap.size v0 v1 v2 v3 v4) := fun v0 v1 v2 v3 v4 => Only.cut HWW.out (tk_set HBX.out v0 v1 v2 v3 v4).2 (fun q e => by omega)
    have HRET := Lib.hid hret
    clear hret
    by_cases hlt : j < bs.length
    · obtain ⟨x, hx⟩ : ∃ x, bs[j]? = some x := ⟨_, List.getElem?_eq_getElem hlt⟩
      obtain ⟨b', off', he, hb2, c1⟩ := HBY.out wr HWW.out j x hx
      cases he
      obtain ⟨m, rfl⟩ : ∃ m', m = m' + 1 := ⟨m - 1, by have := hI.out.2.1; omega⟩
      have q0 : (0 : Int) ≤ (j : Int) := by omega
      have q1 : (j : Int) < (bs.length : Int) := by omega
      have HD := Lib.hid (drop_at hx)
      have HP1 := Lib.hid (HPQ.out j wr hj HWW.out)
      have HP2 := Lib.hid (HPC.out j wr hlt HWW.out)
      have HM : Hid (bs.length ≤ m + 1 + j) := Lib.hid hI.out.2.1
      have HST : Hid (Q = if (iv x == 39 && !(pairB (bs.drop j))) = true then (if 64 < acc.length then .no 3 else .ok 2 acc 0 (j - i + 1)) else match pieceF (bs.drop j) with | some (c, k) => quoteL m ((bs.drop j).drop k) (acc ++ [c]) (j - i + k) | none => .no 80) := Lib.hid (by
        have h1 := hI.out.1
        rw [← h1, HD.out]
        rfl)
      have HROW := Lib.hid hI.out.2.2
      clear hI hx hb2
      cases e39 : (iv x == 39) with
      | true =>
        cases hpb : pairB (bs.drop j) with
        | false =>
          rw [hpb] at HP1
          have HST2 : Hid (Q = if 64 < acc.length then .no 3 else .ok 2 acc 0 (j - i + 1)) := Lib.hid (by rw [HST.out, if_pos (by rw [e39, hpb]; rfl)])
          have hcv := run_row HROW.out.1
          clear HST hpb
          by_cases h64 : 64 < acc.length
          · have g64 : (64 : Int) < (acc.length : Int) := by omega
            go_wp2_with fail
            refine HP1.out.mono ?_
            rintro e w1 ⟨rfl, rfl⟩
            go_wp2_with fail
            refine bodyPost_ret (v := .tuple #[tokV 0 ⟨#[]⟩ 0 0 false, .int .i64 i, .int .i64 3]) (results_tok rfl _ _ w.heap.size _ _ _ _ _ _ _ rfl rfl rfl (tk_set HBX.out _ _ _ _ _).1) rfl ?_
            exact ⟨by rw [HST2.out, if_pos h64]; rfl, HRET.out _ _ _ _ _⟩
          · have g64 : ¬ (64 : Int) < (acc.length : Int) := by omega
            go_wp2_with fail
            refine HP1.out.mono ?_
            rintro e w1 ⟨rfl, rfl⟩
            go_wp2_with fail
            refine bodyPost_ret (v := .tuple #[tokV 2 (bstr acc) 0 0 false, .int .i64 (i + (j - i + 1) : Nat), .int .i64 0]) (results_tok rfl _ _ w.heap.size _ _ _ _ _ _ _ rfl (by rw [show i + (j - i + 1) = j + 1 by omega]; rfl) rfl (tk_set HBX.out _ _ _ _ _).1) rfl ?_
            exact ⟨by rw [HST2.out, if_neg h64]; rfl, HRET.out _ _ _ _ _⟩
        | true =>
          rw [hpb] at HP1
          have hcond : (iv x == 39 && !(pairB (bs.drop j))) = false := by rw [hpb]; simp
          clear hpb
          have HNQ : (iv x == 39 && !(pairB (x :: bs.drop (j + 1)))) = false := by rw [← HD.out]; exact hcond
          have HST2 : Hid (Q = match pieceF (bs.drop j) with | some (c, k) => quoteL m ((bs.drop j).drop k) (acc ++ [c]) (j - i + k) | none => .no 80) := Lib.hid (by rw [HST.out, if_neg (by rw [hcond]; decide)])
          cases hpc : pieceF (bs.drop j) with
          | none =>
            rw [hpc] at HP2 HST2
            have HNO : Hid (Q = .no 80) := Lib.hid HST2.out
            clear HST HST2 HNQ hcond hpc
            unfold pairR at HP2
            go_wp2_with fail
            refine HP1.out.mono ?_
            rintro e w1 ⟨rfl, rfl⟩
            go_wp2_with fail
            refine HP2.out.mono ?_
            rintro e w1 ⟨rfl, rfl⟩
            go_wp2_with fail
            refine bodyPost_ret (v := .tuple #[tokV 0 ⟨#[]⟩ 0 0 false, .int .i64 i, .int .i64 80]) (results_tok rfl _ _ w.heap.size _ _ _ _ _ _ _ rfl rfl rfl (tk_set HBX.out _ _ _ _ _).1) rfl ?_
            exact ⟨by rw [HNO.out]; rfl, HRET.out _ _ _ _ _⟩
          | some pr =>
            obtain ⟨c, k⟩ := pr
            rw [hpc] at HP2 HST2
            have hk : 1 ≤ k ∧ k ≤ bs.length - j := by
              rw [HD.out] at hpc
              have := pieceF_le HNQ hpc
              rw [← HD.out, List.length_drop] at this
              exact this
            have HNX : Hid (quoteL m (bs.drop (j + k)) (acc ++ [c]) (j + k - i) = Q) := Lib.hid (by rw [HST2.out]; show _ = quoteL m ((bs.drop j).drop k) (acc ++ [c]) (j - i + k); rw [List.drop_drop, show j - i + k = j + k - i by omega])
            have hkj : j + k ≤ bs.length := by omega
            have hk1 : 1 ≤ k := hk.1
            clear hk
            have HACC : Hid (acc.length ≤ 16777216) := Lib.hid (Nat.le_trans HROW.out.2.2 (Nat.le_trans hj (Nat.le_trans hl (by decide))))
            have HAL : Hid (acc.length + 1 ≤ j + k) := Lib.hid (Nat.add_le_add HROW.out.2.2 hk1)
            have HMM : Hid (bs.length ≤ m + (j + k)) := Lib.hid (by have := HM.out; omega)
            have hij : i + 1 ≤ j + k := by omega
            have HMS : Hid (bs.length - (j + k) < bs.length - j) := Lib.hid (by omega)
            have HW3 : Hid (wrap64 ((j : Int) + (k : Int)) = (j : Int) + (k : Int)) := Lib.hid (by unfold wrap64; omega)
            have hk0 : ((k : Int) == 0) = false := by rw [beq_eq_false_iff_ne]; omega
            have HIJ := Lib.hid hij
            have HKJ := Lib.hid hkj
            clear hij hkj hk1
            clear HST HST2 HNQ hcond hpc
            unfold pairR at HP2
            go_wp2_with fail
            refine HP1.out.mono ?_
            rintro e w1 ⟨rfl, rfl⟩
            go_wp2_with fail
            refine HP2.out.mono ?_
            rintro e w1 ⟨rfl, rfl⟩
            go_wp2_with (first | (at_builtin; apply Classical.byContradiction; intro hstop) | fail)
            apply hstop
            clear hstop
            refine wp_append_one lieU rfl (.tmp 46) (.tmp 48) 22 rfl w0.heap.size 5 i0 _ 1 Tryd.underlying22 hinf hz0 hz1 hz2 rfl (by omega) w1 ao ac acc c [.int .u8 (iv c)] rfl rfl HROW.out.1 rfl HACC.out HROW.out.2.1.size ?_
            intro ao' ac' w6 hrow6 ho6 hnew6
            have hfr : Only (fun _ => False) w0 w6 := HROW.out.2.1.trans ho6 (fun q hq e => by
              obtain ⟨g, hg, e2⟩ := e
              exact absurd (Nat.lt_of_lt_of_le hq (Nat.le_trans (HROW.out.1.head g hg).2.1 (Nat.le_of_eq e2.symm))) (Nat.lt_irrefl _))
            have HR6 := Lib.hid (And.intro hrow6 hfr)
            have HLEN6 : Hid ((acc ++ [c]).length = acc.length + 1) := Lib.hid (by simp)
            clear hrow6 ho6 hnew6 hfr HACC HROW HPQ HPC HBY HP1 HP2 HBX HRET
            go_wp2_with fail
            go_roundw
            case rel =>
              exact ⟨j + k, m, acc ++ [c], ao', ac', congrArg (Value.int .i64) (HW3.out.trans (Int.natCast_add j k).symm), HIJ.out, HKJ.out, (by first | rfl | rw [HLEN6.out]), Lib.hid ⟨HNX.out, HMM.out, HR6.out.1, HR6.out.2, by rw [HLEN6.out]; exact HAL.out⟩⟩
            case measure =>
            rw [HW3.out, ← Int.natCast_add]
            exact HMS.out
      | false =>
        have hcond : (iv x == 39 && !(pairB (bs.drop j))) = false := by rw [e39]; rfl
        have HNQ : (iv x == 39 && !(pairB (x :: bs.drop (j + 1)))) = false := by rw [← HD.out]; exact hcond
        have HST2 : Hid (Q = match pieceF (bs.drop j) with | some (c, k) => quoteL m ((bs.drop j).drop k) (acc ++ [c]) (j - i + k) | none => .no 80) := Lib.hid (by rw [HST.out, if_neg (by rw [hcond]; decide)])
        cases hpc : pieceF (bs.drop j) with
        | none =>
          rw [hpc] at HP2 HST2
          have HNO : Hid (Q = .no 80) := Lib.hid HST2.out
          clear HST HST2 HNQ hcond hpc
          unfold pairR at HP2
          go_wp2_with fail
          refine HP2.out.mono ?_
          rintro e w1 ⟨rfl, rfl⟩
          go_wp2_with fail
          refine bodyPost_ret (v := .tuple #[tokV 0 ⟨#[]⟩ 0 0 false, .int .i64 i, .int .i64 80]) (results_tok rfl _ _ w.heap.size _ _ _ _ _ _ _ rfl rfl rfl (tk_set HBX.out _ _ _ _ _).1) rfl ?_
          exact ⟨by rw [HNO.out]; rfl, HRET.out _ _ _ _ _⟩
        | some pr =>
          obtain ⟨c, k⟩ := pr
          rw [hpc] at HP2 HST2
          have hk : 1 ≤ k ∧ k ≤ bs.length - j := by
            rw [HD.out] at hpc
            have := pieceF_le HNQ hpc
            rw [← HD.out, List.length_drop] at this
            exact this
          have HNX : Hid (quoteL m (bs.drop (j + k)) (acc ++ [c]) (j + k - i) = Q) := Lib.hid (by rw [HST2.out]; show _ = quoteL m ((bs.drop j).drop k) (acc ++ [c]) (j - i + k); rw [List.drop_drop, show j - i + k = j + k - i by omega])
          have hkj : j + k ≤ bs.length := by omega
          have hk1 : 1 ≤ k := hk.1
          clear hk
          have HACC : Hid (acc.length ≤ 16777216) := Lib.hid (Nat.le_trans HROW.out.2.2 (Nat.le_trans hj (Nat.le_trans hl (by decide))))
          have HAL : Hid (acc.length + 1 ≤ j + k) := Lib.hid (Nat.add_le_add HROW.out.2.2 hk1)
          have HMM : Hid (bs.length ≤ m + (j + k)) := Lib.hid (by have := HM.out; omega)
          have hij : i + 1 ≤ j + k := by omega
          have HMS : Hid (bs.length - (j + k) < bs.length - j) := Lib.hid (by omega)
          have HW3 : Hid (wrap64 ((j : Int) + (k : Int)) = (j : Int) + (k : Int)) := Lib.hid (by unfold wrap64; omega)
          have hk0 : ((k : Int) == 0) = false := by rw [beq_eq_false_iff_ne]; omega
          have HIJ := Lib.hid hij
          have HKJ := Lib.hid hkj
          clear hij hkj hk1
          clear HST HST2 HNQ hcond hpc
          unfold pairR at HP2
          go_wp2_with fail
          refine HP2.out.mono ?_
          rintro e w1 ⟨rfl, rfl⟩
          go_wp2_with (first | (at_builtin; apply Classical.byContradiction; intro hstop) | fail)
          apply hstop
          clear hstop
          refine wp_append_one lieU rfl (.tmp 46) (.tmp 48) 22 rfl w0.heap.size 5 i0 _ 1 Tryd.underlying22 hinf hz0 hz1 hz2 rfl (by omega) w1 ao ac acc c [.int .u8 (iv c)] rfl rfl HROW.out.1 rfl HACC.out HROW.out.2.1.size ?_
          intro ao' ac' w6 hrow6 ho6 hnew6
          have hfr : Only (fun _ => False) w0 w6 := HROW.out.2.1.trans ho6 (fun q hq e => by
            obtain ⟨g, hg, e2⟩ := e
            exact absurd (Nat.lt_of_lt_of_le hq (Nat.le_trans (HROW.out.1.head g hg).2.1 (Nat.le_of_eq e2.symm))) (Nat.lt_irrefl _))
          have HR6 := Lib.hid (And.intro hrow6 hfr)
          have HLEN6 : Hid ((acc ++ [c]).length = acc.length + 1) := Lib.hid (by simp)
          clear hrow6 ho6 hnew6 hfr HACC HROW HPQ HPC HBY HP1 HP2 HBX HRET
          go_wp2_with fail
          go_roundw
          case rel =>
            exact ⟨j + k, m, acc ++ [c], ao', ac', congrArg (Value.int .i64) (HW3.out.trans (Int.natCast_add j k).symm), HIJ.out, HKJ.out, (by first | rfl | rw [HLEN6.out]), Lib.hid ⟨HNX.out, HMM.out, HR6.out.1, HR6.out.2, by rw [HLEN6.out]; exact HAL.out⟩⟩
          case measure =>
            rw [HW3.out, ← Int.natCast_add]
            exact HMS.out
    · have HNO : Hid (Q = .no 80) := Lib.hid (by
        have h1 := hI.out.1
        rw [drop_end hlt] at h1
        rw [← h1]
        cases m <;> rfl)
      obtain rfl : j = bs.length := by omega
      go_wp2_with fail
      refine bodyPost_ret (v := .tuple #[tokV 0 ⟨#[]⟩ 0 0 false, .int .i64 i, .int .i64 80]) (results_tok rfl _ _ w.heap.size _ _ _ _ _ _ _ rfl rfl rfl (tk_set HBX.out _ _ _ _ _).1) rfl ?_
      exact ⟨by rw [HNO.out]; rfl, HRET.out _ _ _ _ _⟩
end Go.Proofs.YtogccafnfpmgmaaDoor.toks
