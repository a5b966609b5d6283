/- Tokens: Quote. -/
import Derived.Lib.SpaceUEq
import Derived.Test.YtogccafnfpmgmaaDoorTokN
namespace Go.Proofs.YtogccafnfpmgmaaDoor.toks
open Go.RowKit Go.Proofs.YtogccafnfpmgmaaDoor.own
/-- How a byte is written between quotes. -/
def escB (x : UInt8) : List UInt8 := match escR (iv x) with
  | [] => [x]
  | y :: r => y :: r
theorem escR_high {c : Int} (h : 128 ≤ c) : escR c = [] := by
  unfold escR ctrlB
  rw [if_neg (by rw [beq_iff_eq]; omega), if_neg (by rw [beq_iff_eq]; omega), if_neg (by rw [beq_iff_eq]; omega), if_neg (by rw [beq_iff_eq]; omega), if_neg]
  rw [Bool.or_eq_true, decide_eq_true_eq, beq_iff_eq]
  omega
theorem escB_no {x : UInt8} (h : escR (iv x) = []) : escB x = [x] := by unfold escB; rw [h]
theorem escB_yes {x : UInt8} (h : escR (iv x) ≠ []) : escB x = escR (iv x) := by
  unfold escB
  cases he : escR (iv x) with
  | nil => exact absurd he h
  | cons y r => rfl
theorem escR_len (c : Int) : (escR c).length ≤ 5 := by
  have := hexT_len c.toNat
  unfold escR
  repeat' split
  all_goals simp
  omega
theorem escB_len (x : UInt8) : (escB x).length ≤ 5 := by
  have h := escR_len (iv x)
  unfold escB
  cases he : escR (iv x) with
  | nil => simp
  | cons y r => rw [he] at h; exact h
theorem flat_len5 (l : List UInt8) : (l.flatMap escB).length ≤ 5 * l.length := by
  induction l with
  | nil => simp
  | cons x r ih => have := escB_len x; rw [List.flatMap_cons, List.length_append, List.length_cons]; omega
theorem flat_plain (l : List UInt8) (h : ∀ x ∈ l, escR (iv x) = []) : l.flatMap escB = l := by
  induction l with
  | nil => rfl
  | cons x r ih => rw [List.flatMap_cons, ih (fun y hy => h y (List.mem_cons_of_mem _ hy)), escB_no (h x (by simp))]; rfl
theorem get_bstr (l : List UInt8) (pos : Nat) (h : pos < (bstr l).size) : l[pos]? = some ((bstr l)[pos]'h) := by
  have hl : pos < l.length := by simpa [bstr, ByteArray.size] using h
  rw [List.getElem?_eq_getElem hl]
  simp [bstr, ByteArray.getElem_eq_getElem_data]
theorem getD_bstr (l : List UInt8) (j : Nat) (x : UInt8) (h : l[j]? = some x) : (bstr l).get! j = x := by
  have hl : j < l.length := (List.getElem?_eq_some_iff.1 h).1
  have h2 : (bstr l).get! j = (bstr l).data[j]! := rfl
  rw [h2]
  simp [bstr, getElem!_def, h]
/-- A sign's bytes: none of them is one that is written otherwise, unless it is that sign. -/
theorem sign_bytes (l : List UInt8) (pos : Nat) (x : UInt8) (hx : l[pos]? = some x) :
    (iv x < 128 ∧ Utf8.decode (bstr l) pos = (x.toNat, 1)) ∨ (128 ≤ ((Utf8.decode (bstr l) pos).1 : Int) ∧ 1 ≤ (Utf8.decode (bstr l) pos).2 ∧ pos + (Utf8.decode (bstr l) pos).2 ≤ l.length ∧ ∀ j y, pos ≤ j → j < pos + (Utf8.decode (bstr l) pos).2 → l[j]? = some y → 128 ≤ iv y) := by
  have hl : pos < l.length := (List.getElem?_eq_some_iff.1 hx).1
  have hs : (bstr l).size = l.length := by simp [bstr, ByteArray.size]
  have hp : pos < (bstr l).size := by omega
  have he : (bstr l)[pos]'hp = x := by
    have := get_bstr l pos hp
    rw [hx] at this
    exact (Option.some.inj this).symm
  by_cases ha : x.toNat < 128
  · left
    exact ⟨by unfold iv; omega, by rw [decode_ascii _ pos hp (by rw [he]; exact ha), he]⟩
  · right
    obtain ⟨h1, h2⟩ := decode_high (bstr l) pos hp (by rw [he]; omega)
    obtain ⟨k1, k2, k3, k4⟩ := Lib.decodeN_conts ((bstr l).size - pos) ((bstr l).get! pos).toNat ((bstr l).get! (pos + 1)).toNat ((bstr l).get! (pos + 2)).toNat ((bstr l).get! (pos + 3)).toNat
    rw [← Lib.decode_at] at k1 k2 k3 k4
    refine ⟨by omega, h2, ?_, fun j y hj1 hj2 hy => ?_⟩
    · rcases Nat.lt_or_ge (Utf8.decode (bstr l) pos).2 2 with h | h
      · omega
      · have := k1 h
        rcases Nat.lt_or_ge (Utf8.decode (bstr l) pos).2 3 with h3 | h3
        · omega
        · have := k2 h3
          rcases Nat.lt_or_ge (Utf8.decode (bstr l) pos).2 4 with h4 | h4
          · omega
          · have := k3 h4
            omega
    · unfold iv
      have hg := getD_bstr l j y hy
      rcases Nat.lt_or_ge j (pos + 1) with h | h
      · have : j = pos := by omega
        subst this
        rw [hx] at hy
        cases hy
        omega
      · rcases Nat.lt_or_ge j (pos + 2) with h' | h'
        · have e : j = pos + 1 := by omega
          subst e
          rw [← hg]
          have := (k1 (by omega)).1
          omega
        · rcases Nat.lt_or_ge j (pos + 3) with h'' | h''
          · have e : j = pos + 2 := by omega
            subst e
            rw [← hg]
            have := (k2 (by omega)).1
            omega
          · have e : j = pos + 3 := by omega
            subst e
            rw [← hg]
            have := (k3 (by omega)).1
            omega
theorem extract_bstr (l : List UInt8) (a b : Nat) : (bstr l).extract a b = bstr ((l.take b).drop a) := by
  apply ByteArray.ext
  simp [bstr, ByteArray.data_extract, List.extract_eq_take_drop, List.drop_take]
theorem Bld.only {B b : Nat} {l : List UInt8} {W W' : World} {S : Nat → Prop} (h : Bld B b l W) (ho : Only S W W') (hb : ¬ S b) (hS : ∀ q cs, W.heap[q]? = some (.cells cs 5 (0, 0)) → ¬ S q) : Bld B b l W' := by
  obtain ⟨hB, pa, ao, cap, hb1, hp, hr, hne⟩ := h
  refine ⟨hB, pa, ao, cap, ?_, hp, hr.only ho (fun g hg => ?_), hne⟩
  · rw [ho.block b (lt_of_block hb1) hb]; exact hb1
  · obtain ⟨_, cs, hk⟩ := row_kind hr g hg
    exact hS _ _ hk
theorem Bld.later {B b : Nat} {l : List UInt8} {W W' : World} (h : Bld B b l W) (ho : Only (fun _ => False) W W') : Bld B b l W' := h.only ho (fun e => e) (fun _ _ _ e => e)
theorem Only.iterAt (w : World) (k : Nat) (s : ByteArray) (pos : Nat) : Only (fun q => q = k) w (w.iterAt k s pos) :=
  ⟨rfl, rfl, rfl, Nat.le_of_eq (Lib.iterAt_size w k s pos).symm, fun q _ hq => Lib.iterAt_other w k q s pos hq⟩
theorem BF.iter {B b k : Nat} {w w' : World} {s : ByteArray} {pos : Nat} (ho : Only (BF B b w) w w') (hk : w.heap[k]? = some (.stringIter s pos)) (hkb : k ≠ b) : w'.heap[k]? = some (.stringIter s pos) := by
  rw [ho.block k (Array.getElem?_eq_some_iff.1 hk).1 (fun e => by
    rcases e.2 with e | ⟨cs, e⟩
    · exact hkb e
    · rw [hk] at e; cases e)]
  exact hk
theorem text_step {l : List UInt8} {rest pos : Nat} {x : UInt8} (hr : rest ≤ pos) (hx : l[pos]? = some x) (hy : ∀ j y, rest ≤ j → j < pos → l[j]? = some y → escR (iv y) = []) (he : escR (iv x) ≠ []) : (l.take rest).flatMap escB ++ ((l.take pos).drop rest ++ escR (iv x)) = (l.take (pos + 1)).flatMap escB := by
  have h1 : l.take pos = l.take rest ++ (l.take pos).drop rest := by
    conv => lhs; rw [← List.take_append_drop rest (l.take pos)]
    rw [List.take_take, Nat.min_eq_left hr]
  have h2 : ((l.take pos).drop rest).flatMap escB = (l.take pos).drop rest := flat_plain _ (fun y hy2 => by
    obtain ⟨n, hn⟩ := List.getElem?_of_mem hy2
    rw [List.getElem?_drop, List.getElem?_take] at hn
    split at hn
    · exact hy _ y (by omega) ‹_› hn
    · cases hn)
  rw [List.take_add_one, hx, List.flatMap_append, Option.toList, List.flatMap_cons, List.flatMap_nil, List.append_nil, escB_yes he]
  conv => rhs; rw [h1]
  rw [List.flatMap_append, h2, List.append_assoc]
theorem text_end {l : List UInt8} {rest : Nat} (hy : ∀ j y, rest ≤ j → j < l.length → l[j]? = some y → escR (iv y) = []) : (l.take rest).flatMap escB ++ l.drop rest = l.flatMap escB := by
  have h2 : (l.drop rest).flatMap escB = l.drop rest := flat_plain _ (fun y hy2 => by
    obtain ⟨n, hn⟩ := List.getElem?_of_mem hy2
    rw [List.getElem?_drop] at hn
    exact hy _ y (by omega) (List.getElem?_eq_some_iff.1 hn).1 hn)
  conv => rhs; rw [← List.take_append_drop rest l]
  rw [List.flatMap_append, h2]
/-- A name's text. -/
def quoteT (l : List UInt8) : List UInt8 := if plainB (bstr l) = true then l else 39 :: (l.flatMap escB ++ [39])
set_option maxRecDepth 100000 in
set_option maxHeartbeats 8000000 in
theorem Quote_any (l : List UInt8) (w : World) (hl : l.length ≤ 100000) (hT : Tabled w) : Calls Tryd.prog 11 #[.string (bstr l)] w fun e w' => e = .returned (.string (bstr (quoteT l))) ∧ Only (fun _ => False) w w' := by
  cases hpl : plainB (bstr l) with
  | true =>
    have HP := Plain_any (bstr l) w
    rw [hpl] at HP
    have HQ : Hid (quoteT l = l) := Lib.hid (by unfold quoteT; rw [if_pos hpl])
    go_enter Tryd.func11, Tryd.ntmps11
    go_wp2_with fail
    refine HP.mono ?_
    rintro e w1 ⟨rfl, ho⟩
    go_wp2_with fail
    go_ret
    exact ⟨by rw [HQ.out]; rfl, ho⟩
  | false =>
    have HP := Plain_any (bstr l) w
    rw [hpl] at HP
    have HQ : Hid (quoteT l = 39 :: (l.flatMap escB ++ [39])) := Lib.hid (by unfold quoteT; rw [if_neg (by rw [hpl]; decide)])
    have HT := Lib.hid hT
    clear hpl hT
    go_enter Tryd.func11, Tryd.ntmps11
    go_wp2_with fail
    refine HP.mono ?_
    rintro e w1 ⟨rfl, ho⟩
    have HO1 := Lib.hid ho
    have HB1 : Hid (Calls Tryd.prog 17 #[.pointer (some ⟨w1.heap.size, 0, none⟩), .int .u8 39] (w1.alloc (.cells #[.pointer none, .slice none 0 0] 40)) fun e w' => e = .returned .nilIface ∧ Bld w1.heap.size w1.heap.size [39] w' ∧ Only (BF w1.heap.size w1.heap.size (w1.alloc (.cells #[.pointer none, .slice none 0 0] 40))) (w1.alloc (.cells #[.pointer none, .slice none 0 0] 40)) w') := Lib.hid (writeByte_any w1.heap.size w1.heap.size [] 39 _ (Bld.new w1) (by simp) (by simp))
    clear ho HP
    go_wp2_with fail
    refine HB1.out.mono ?_
    rintro e w2 ⟨rfl, hbl, ho2⟩
    have hs2 := ho2.size
    have hs1 : (w1.alloc (.cells #[.pointer none, .slice none 0 0] 40)).heap.size = w1.heap.size + 1 := by simp
    have HO2 : Hid (Only (fun q => w1.heap.size ≤ q) w1 w2) := Lib.hid ((Only.alloc _ w1 _).trans ho2 (fun q _ e => e.1))
    have HBL := Lib.hid hbl
    have hbk : w1.heap.size < w2.heap.size := by omega
    clear ho2 hbl hs1 hs2 HB1
    have HSZ : Hid ((bstr l).size = l.length) := Lib.hid (by simp [bstr, ByteArray.size])
    go_wp2_with fail
    go_loopw [4] (fun c wr => ∃ rest pos : Nat, c = .int .i64 rest ∧ rest ≤ pos ∧ pos ≤ l.length ∧ Hid (Bld w1.heap.size w1.heap.size (39 :: (l.take rest).flatMap escB) wr ∧ wr.heap[w2.heap.size]? = some (.stringIter (bstr l) pos) ∧ Only (fun q => w1.heap.size ≤ q) w1 wr ∧ ∀ j y, rest ≤ j → j < pos → l[j]? = some y → escR (iv y) = [])) (fun _ wr => l.length - wr.iterPos w2.heap.size)
    case atStart =>
      refine ⟨0, 0, rfl, Nat.le_refl _, Nat.zero_le _, Lib.hid ⟨HBL.out.later (Only.iter _ _ _), ?_, HO2.out.same ((Only.iter _ _ _).no _), fun j y _ h => absurd h (by omega)⟩⟩
      exact World.iter_heap w2 (bstr l) 0
    case round =>
      obtain ⟨rest, pos, rfl, hr, hp, hI⟩ := hrel
      by_cases hlt : pos < l.length
      · obtain ⟨x, hx⟩ : ∃ x, l[pos]? = some x := ⟨_, List.getElem?_eq_getElem hlt⟩
        have hnx : ∀ ty, (Instr.next (.pointer (some ⟨w2.heap.size, 0, none⟩)) true ty).run Tryd.prog wr = _ := fun ty => Lib.run_next_any_at wr w2.heap.size (bstr l) pos ty hI.out.2.1 (by rw [HSZ.out]; exact hlt)
        have HSG := Lib.hid (sign_bytes l pos x hx)
        have hle := decode_le (bstr l) pos
        have HIT := Lib.hid (Lib.iterAt_heap wr w2.heap.size (bstr l) pos (pos + (Utf8.decode (bstr l) pos).2) hI.out.2.1)
        have HOT := Lib.hid (Only.iterAt wr w2.heap.size (bstr l) (pos + (Utf8.decode (bstr l) pos).2))
        have HBT : Hid (Bld w1.heap.size w1.heap.size (39 :: (l.take rest).flatMap escB) (wr.iterAt w2.heap.size (bstr l) (pos + (Utf8.decode (bstr l) pos).2))) := Lib.hid (hI.out.1.only HOT.out (by omega) (fun q cs hq e => by
          rw [e, hI.out.2.1] at hq
          cases hq))
        generalize hdc : Utf8.decode (bstr l) pos = dc at *
        obtain ⟨v, wd⟩ := dc
        simp only at hnx hle HSG HIT HOT HBT
        have HOW : Hid (Only (fun q => w1.heap.size ≤ q) w1 (wr.iterAt w2.heap.size (bstr l) (pos + wd))) := Lib.hid (hI.out.2.2.1.trans HOT.out (fun q _ e => by omega))
        have HTW : Hid (Tabled (wr.iterAt w2.heap.size (bstr l) (pos + wd))) := Lib.hid (HT.out.later (Only.cut HO1.out HOW.out (fun q e => Nat.le_trans HO1.out.size e)))
        have HES := Lib.hid (escaped_any (v : Int) (by omega) (by omega) _ HTW.out)
        have HPL := Lib.hid hI.out.2.2.2
        have hit := hI.out.2.1
        clear hI
        generalize wr.iterAt w2.heap.size (bstr l) (pos + wd) = wn at *
        cases hes : escR (v : Int) with
        | nil =>
          rw [hes] at HES
          have HNX : Hid (pos + wd ≤ l.length ∧ 1 ≤ wd ∧ ∀ j y, rest ≤ j → j < pos + wd → l[j]? = some y → escR (iv y) = []) := Lib.hid (by
            rcases HSG.out with ⟨h1, h2⟩ | ⟨h1, h2, h3, h4⟩
            · cases h2
              refine ⟨by omega, by omega, fun j y hj1 hj2 hy => ?_⟩
              rcases Nat.lt_or_ge j pos with h | h
              · exact HPL.out j y hj1 h hy
              · obtain rfl : j = pos := by omega
                rw [hx] at hy
                cases hy
                exact hes
            · refine ⟨h3, h2, fun j y hj1 hj2 hy => ?_⟩
              rcases Nat.lt_or_ge j pos with h | h
              · exact HPL.out j y hj1 h hy
              · exact escR_high (h4 j y h hj2 hy))
          clear HSG
          go_wp2_with fail
          refine HES.out.mono ?_
          rintro e w5 ⟨rfl, ho5⟩
          go_wp2_with fail
          go_roundw
          case rel =>
            refine ⟨rest, pos + wd, rfl, by omega, HNX.out.1, Lib.hid ⟨HBT.out.later ho5, ?_, HOW.out.same (ho5.no _), HNX.out.2.2⟩⟩
            rw [ho5.block _ (Array.getElem?_eq_some_iff.1 HIT.out).1 (fun e => e)]
            exact HIT.out
          case measure =>
            have h1 : w5.heap[w2.heap.size]? = some (.stringIter (bstr l) (pos + wd)) := by
              rw [ho5.block _ (Array.getElem?_eq_some_iff.1 HIT.out).1 (fun e => e)]
              exact HIT.out
            have := HNX.out
            simp only [World.iterPos, h1, hit]
            omega
        | cons y r =>
          have HPV : Hid (wd = 1 ∧ (v : Int) = iv x) := Lib.hid (by
            rcases HSG.out with ⟨h1, h2⟩ | ⟨h1, h2, h3, h4⟩
            · cases h2; exact ⟨rfl, rfl⟩
            · rw [escR_high h1] at hes; cases hes)
          have hwd := HPV.out.1
          subst hwd
          have HXE : Hid (escR (iv x) = y :: r) := Lib.hid (by rw [← HPV.out.2]; exact hes)
          have HTX := Lib.hid (text_step hr hx HPL.out (by rw [HXE.out]; simp))
          rw [hes] at HES
          have HRL : Hid ((y :: r).length ≤ 5) := Lib.hid (by rw [← hes]; exact escR_len _)
          have HTK : Hid (((l.take pos).drop rest).length = pos - rest) := Lib.hid (by rw [List.length_drop, List.length_take]; omega)
          clear HSG
          have hyr : (y :: r).isEmpty = false := rfl
          generalize y :: r = yr at *
          have hq1 : ¬ 9223372036854775807 < pos - rest + yr.length := by have := HRL.out; omega
          have hw1 : wrap64 ((pos : Int) + 1) = (pos : Int) + 1 := by unfold wrap64; omega
          have HSTR : Hid ((bstr l).extract rest pos ++ bstr yr = bstr ((l.take pos).drop rest ++ yr)) := Lib.hid (by rw [extract_bstr, bstr_append])
          have HFL : Hid (((l.take rest).flatMap escB).length ≤ 500000) := Lib.hid (by have := flat_len5 (l.take rest); rw [List.length_take] at this; omega)
          go_wp2_with fail
          refine HES.out.mono ?_
          rintro e w5 ⟨rfl, ho5⟩
          have hwl : w1.heap.size ≤ w5.heap.size := by have := HOW.out.size; have := ho5.size; omega
          have hit5 : w5.heap[w2.heap.size]? = some (.stringIter (bstr l) (pos + 1)) := by
            rw [ho5.block _ (Array.getElem?_eq_some_iff.1 HIT.out).1 (fun e => e)]
            exact HIT.out
          have HW5 := Lib.hid (writeString_any w1.heap.size w1.heap.size _ ((l.take pos).drop rest ++ yr) w5 (HBT.out.later ho5) (by have := HFL.out; have := HTK.out; have := HRL.out; rw [List.length_cons, List.length_append]; omega) hwl)
          rw [← HSTR.out] at HW5
          go_wp2_with fail
          refine HW5.out.mono ?_
          rintro e w6 ⟨⟨v6, rfl⟩, hbl6, ho6⟩
          have hit6 := BF.iter ho6 hit5 (by omega)
          have HO6 : Hid (Only (fun q => w1.heap.size ≤ q) w1 w6) := Lib.hid ((HOW.out.same (ho5.no _)).trans ho6 (fun q _ e => e.1))
          have HB6 : Hid (Bld w1.heap.size w1.heap.size (39 :: (l.take (pos + 1)).flatMap escB) w6) := Lib.hid (by
            have h1 := HTX.out
            rw [HXE.out] at h1
            rw [← h1]
            exact hbl6)
          have HIT6 := Lib.hid hit6
          clear hbl6 ho6 hit6 HW5 ho5 hit5 HES HSTR
          go_wp2_with fail
          go_roundw
          case rel =>
            exact ⟨pos + 1, pos + 1, by first | rfl | rw [hw1]; rfl, Nat.le_refl _, by omega, Lib.hid ⟨HB6.out, HIT6.out, HO6.out, fun j y h1 h2 => absurd h1 (by omega)⟩⟩
          case measure =>
            have h1 := HIT6.out
            simp only [World.iterPos, h1, hit]
            omega
      · obtain rfl : pos = l.length := by omega
        have hnx : ∀ ty, (Instr.next (.pointer (some ⟨w2.heap.size, 0, none⟩)) true ty).run Tryd.prog wr = _ := fun ty => Lib.run_next_end_at wr w2.heap.size (bstr l) l.length ty hI.out.2.1 (by rw [HSZ.out]; exact hlt)
        have HSTR : Hid ((bstr l).extract rest l.length ++ ⟨#[39]⟩ = bstr (l.drop rest ++ [39])) := Lib.hid (by
          rw [extract_bstr, List.take_length]
          exact bstr_append _ [39])
        have HTX := Lib.hid (text_end hI.out.2.2.2)
        have hq1 : ¬ 9223372036854775807 < l.length - rest + 1 := by omega
        have HFL : Hid (((l.take rest).flatMap escB).length ≤ 500000) := Lib.hid (by have := flat_len5 (l.take rest); rw [List.length_take] at this; omega)
        have HW5 := Lib.hid (writeString_any w1.heap.size w1.heap.size _ (l.drop rest ++ [39]) wr hI.out.1 (by have := HFL.out; rw [List.length_cons, List.length_append, List.length_drop, List.length_cons, List.length_nil]; omega) hI.out.2.2.1.size)
        rw [← HSTR.out] at HW5
        have HOR := Lib.hid hI.out.2.2.1
        clear hI
        go_wp2_with fail
        refine HW5.out.mono ?_
        rintro e w6 ⟨⟨v6, rfl⟩, hbl6, ho6⟩
        have HO6 : Hid (Only (fun q => w1.heap.size ≤ q) w1 w6) := Lib.hid (HOR.out.trans ho6 (fun q _ e => e.1))
        have HB6 : Hid (Bld w1.heap.size w1.heap.size (39 :: (l.flatMap escB ++ [39])) w6) := Lib.hid (by
          have h1 := HTX.out
          rw [← h1, List.append_assoc]
          exact hbl6)
        clear hbl6 ho6 HW5
        have HS := Lib.hid (Tryd.Builder_String_any_k w1.heap.size w1.heap.size _ w6 HB6.out.isF HO6.out.size)
        go_wp2_with fail
        refine HS.out.mono ?_
        rintro e w7 ⟨rfl, _, hbw, _⟩
        go_wp2_with fail
        go_ret
        refine ⟨by rw [HQ.out]; rfl, Only.cut HO1.out (HO6.out.trans (S' := fun q => w1.heap.size ≤ q) ⟨hbw.os, hbw.tape, hbw.output, hbw.size, fun k _ hk => hbw.block k (by omega)⟩ (fun q _ e => e)) (fun q e => Nat.le_trans HO1.out.size e)⟩
end Go.Proofs.YtogccafnfpmgmaaDoor.toks
