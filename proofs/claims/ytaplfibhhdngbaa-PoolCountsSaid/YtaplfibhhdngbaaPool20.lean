/- Cells are given back. -/
import Derived.Test.YtaplfibhhdngbaaPool19
namespace Go.Proofs.Ytaplfibhhdngbaa.pools
open Go.RowKit Go.Proofs.Ytaplfibhhdngbaa.own Go.Proofs.Ytaplfibhhdngbaa.trees Go.Proofs.Ytaplfibhhdngbaa.rows
variable {Sm S : Nat → Prop} {B b k sz : Nat} {so : Option Addr} {scap : Nat} {ao : Option Addr} {cap : Nat} {T : List Int} {f : Nat → Nat} {lim : Nat} {F : List Bool} {St : List Nat} {w w' : World} {o : Nat}
theorem mem_getD {j : Nat} (h : j ∈ St) : ∃ t, t < St.length ∧ St.getD t 0 = j := by
  obtain ⟨t, ht, e⟩ := List.mem_iff_getElem.1 h
  exact ⟨t, ht, by rw [List.getD_eq_getElem?_getD, List.getElem?_eq_getElem ht]; exact e⟩
theorem getD_mem {t : Nat} (h : t < St.length) : St.getD t 0 ∈ St := by
  rw [List.getD_eq_getElem?_getD, List.getElem?_eq_getElem h]
  exact List.getElem_mem _
/-- No segment begins among cells of one segment. -/
theorem Seg.no_seam {a n s : Nat} (hs : Seg St a s) (hr : St.Pairwise (· ≤ ·)) (hle : a + n ≤ endOf St F s) {j : Nat} (h1 : a < j) (h2 : j < a + n) : j ∉ St := by
  intro hm
  obtain ⟨t, ht, rfl⟩ := mem_getD hm
  rcases Nat.lt_or_ge s t with hl | hg
  · unfold endOf at hle
    rw [if_pos (by omega)] at hle
    have := getD_le hr (show s + 1 ≤ t by omega) ht
    omega
  · have := getD_le hr hg hs.lt
    have := hs.le
    omega
theorem Seg.seam_at {a s : Nat} (hs : Seg St a s) (hr : St.Pairwise (· ≤ ·)) (h : a ∈ St) : a = St.getD s 0 := by
  obtain ⟨t, ht, rfl⟩ := mem_getD h
  rcases Nat.lt_or_ge s t with hl | hg
  · have := hs.gt t hl ht; omega
  · have := getD_le hr hg hs.lt
    have := hs.le
    omega
theorem laid_same {sm sm' : Bool} {r a n : Nat} (h : sm ≠ sm' → f (a + n) = 0) : laid f sm r a n = laid f sm' r a n := by
  by_cases e : sm = sm'
  · rw [e]
  · have h0 := h e
    funext q
    unfold laid tailOf
    have e1 : (if sm = true then 0 else f (a + n)) = 0 := by split; rfl; exact h0
    have e2 : (if sm' = true then 0 else f (a + n)) = 0 := by split; rfl; exact h0
    rw [e1, e2]
    by_cases g1 : q = r
    · rw [if_pos g1, if_pos g1]
    · rw [if_neg g1, if_neg g1]
      by_cases g2 : q = a
      · rw [if_pos g2, if_pos g2]
      · rw [if_neg g2, if_neg g2]
        by_cases g3 : q = a + n
        · subst g3
          rw [h0]
          split <;> split <;> rfl
        · rw [if_neg (fun hh => g3 hh.1), if_neg (fun hh => g3 hh.1)]
/-- Which cells are free when n from a on are given. -/
theorem PoolAt.giving (h : PoolAt (· ∈ St) S B b k sz so scap ao cap T f lim F St w) {a n s r : Nat} (hn : 1 ≤ n) (ha : a < F.length) (hs : Seg St a s) (hle : a + n ≤ endOf St F s) (hoff : ∀ j, a ≤ j → j < a + n → F.getD j false = false) (hr : LayR f (St.getD s 0) a r) :
    Inv (fun j => (put F a true n).getD j false) (· ∈ St) (laid f (decide (endOf St F s ≤ a + n)) r a n) ∧ count (put F a true n) = count F + n := by
  have hend := h.end_le s
  refine ⟨?_, put_on_count F a n (by omega) hoff⟩
  have hst : St.getD s 0 ∈ St := getD_mem hs.lt
  have h0 : (0 : Nat) ∈ St := List.mem_of_getElem? h.first
  have hl := Inv.lay (a := a) (n := n) (r := r) (sm := decide (a + n ∈ St)) h.inv hn hoff (fun j g1 g2 => hs.no_seam h.rising hle g1 g2) (by simp) h0 (by
    rcases hr with ⟨rfl, hz⟩ | ⟨g1, g2, g3⟩
    · refine .inl ⟨rfl, ?_⟩
      by_cases e : r = St.getD s 0
      · left; rw [e]; exact hst
      · right
        have hlt := hs.le
        refine ⟨by omega, ?_⟩
        cases hf : F.getD (r - 1) false with
        | false => rfl
        | true =>
          exfalso
          obtain ⟨q, hq1, hq2⟩ := h.inv.all (r - 1) hf
          have hqs : St.getD s 0 ≤ q := by
            rcases Nat.lt_or_ge q (St.getD s 0) with hl | hg
            · have := h.inv.stops hst hl
              omega
            · exact hg
          have := hz q hqs (by omega)
          have hx : F.getD r false = true := h.inv.free_of (q := q) (j := r) (by omega) (by omega)
          rw [hoff r (by omega) (by omega)] at hx
          cases hx
    · refine .inr ⟨g2, g3, fun hm => ?_⟩
      have := hs.seam_at h.rising hm
      omega)
  rw [laid_same (sm' := decide (endOf St F s ≤ a + n)) (r := r) (f := f) (a := a) (n := n) (fun hne => ?_)] at hl
  · refine hl.congr (fun j => ?_) (fun _ => Iff.rfl) (fun _ => rfl)
    rw [put_get F a true n (by omega)]
    rfl
  · by_cases hm : a + n ∈ St
    · exfalso
      obtain ⟨t, ht, et⟩ := mem_getD hm
      have hts : s < t := by
        rcases Nat.lt_or_ge s t with hl | hg
        · exact hl
        · have := getD_le h.rising hg hs.lt
          have := hs.le
          omega
      have := getD_le h.rising (show s + 1 ≤ t by omega) ht
      have he : endOf St F s ≤ a + n := by
        unfold endOf
        rw [if_pos (by omega)]
        omega
      apply hne
      rw [decide_eq_true hm, decide_eq_true he]
    · by_cases he : endOf St F s ≤ a + n
      · rcases Nat.lt_or_ge (s + 1) St.length with hl | hg
        · exfalso
          apply hm
          have e : endOf St F s = St.getD (s + 1) 0 := by unfold endOf; rw [if_pos hl]
          rw [show a + n = St.getD (s + 1) 0 by omega]
          exact getD_mem hl
        · have e : endOf St F s = F.length := by unfold endOf; rw [if_neg (by omega)]
          rcases Nat.eq_zero_or_pos (f (a + n)) with e0 | e0
          · exact e0
          · have := h.run_le (a + n) e0
            omega
      · exfalso
        apply hne
        rw [decide_eq_false hm, decide_eq_false he]
/-- May n cells from a on be given? -/
def TakenI (St : List Nat) (F : List Bool) (a n : Int) : Prop := 1 ≤ n ∧ 0 ≤ a ∧ Taken St F a.toNat n.toNat
theorem taken_any (a n : Int) (h : PoolAt Sm S B b k sz so scap ao cap T f lim F St w) :
    Calls Try.prog 42 #[.pointer (some ⟨b, 0, none⟩), .int .i64 a, .int .i64 n] w fun e w' => (∃ v, e = .returned (.bool v) ∧ (v = true ↔ TakenI St F a n)) ∧ Only (fun _ => False) w w' := by
  by_cases hn : n < 1
  · refine (taken_small a n hn w).mono ?_
    rintro e w' ⟨rfl, rfl⟩
    exact ⟨⟨false, rfl, by simp [TakenI]; omega⟩, Only.refl _ _⟩
  · by_cases hin : 0 ≤ a ∧ a < (F.length : Int)
    · obtain ⟨a', rfl⟩ : ∃ m : Nat, a = m := ⟨a.toNat, by omega⟩
      obtain ⟨n', rfl⟩ : ∃ m : Nat, n = m := ⟨n.toNat, by omega⟩
      refine (taken_in a' n' (by omega) h (by omega)).mono ?_
      rintro e w' ⟨⟨v, rfl, hv⟩, ho⟩
      refine ⟨⟨v, rfl, hv.trans ?_⟩, ho⟩
      unfold TakenI
      simp only [Int.toNat_natCast]
      exact ⟨fun hh => ⟨by omega, by omega, hh⟩, fun hh => hh.2.2⟩
    · refine (taken_out a n (by omega) h hin).mono ?_
      rintro e w' ⟨rfl, rfl⟩
      refine ⟨⟨false, rfl, ?_⟩, Only.refl _ _⟩
      simp only [Bool.false_eq_true, false_iff]
      rintro ⟨_, h1, _, h2, _⟩
      omega
theorem give_no (a n : Int) (h : PoolAt Sm S B b k sz so scap ao cap T f lim F St w) (hno : ¬ TakenI St F a n) :
    Calls Try.prog 14 #[.pointer (some ⟨b, 0, none⟩), .int .i64 a, .int .i64 n] w fun e w' => e = .returned (.int .i64 1) ∧ Only (fun _ => False) w w' := by
  have HC := Lib.hid (closed_no h)
  have HT := Lib.hid (taken_any a n h)
  have HN := Lib.hid hno
  clear h hno
  go_enter Try.func14, Try.ntmps14
  go_wp2_with fail
  refine HC.out.mono ?_
  rintro e w1 ⟨rfl, rfl⟩
  go_wp2_with fail
  refine HT.out.mono ?_
  rintro e w1 ⟨⟨v, rfl, hv⟩, ho⟩
  have hv : v = false := by
    cases v with
    | false => rfl
    | true => exact absurd (hv.1 rfl) HN.out
  subst hv
  go_wp2_with fail
  go_ret
  exact ⟨rfl, ho⟩
set_option maxRecDepth 100000 in
set_option maxHeartbeats 4000000 in
theorem give_ok (a n : Nat) (h : PoolAt (· ∈ St) S B b k sz so scap ao cap T f lim F St w) (hy : Taken St F a n) :
    Calls Try.prog 14 #[.pointer (some ⟨b, 0, none⟩), .int .i64 a, .int .i64 n] w fun e w' => e = .returned (.int .i64 0) ∧ ∃ f' T', PoolAt (· ∈ St) S B b k sz so scap ao cap T' f' lim (put F a true n) St w' ∧ Only S w w' := by
  have HC := Lib.hid (closed_no h)
  have HT := Lib.hid (taken_any a n h)
  have HY : Hid (TakenI St F a n) := Lib.hid ⟨by have := hy.1; omega, by omega, by simpa using hy⟩
  obtain ⟨hn, ha, ⟨s, hs, hle⟩, hoff⟩ := hy
  have hend := h.end_le s
  have hroom := h.room
  have hfew := h.few
  have hsz : 0 < sz := by omega
  have H := Lib.hid h
  have HS := Lib.hid hs
  have HG := Lib.hid (fun r hr => h.giving (r := r) hn ha hs hle hoff hr)
  have hbl := (h.own b h.inS.1).2
  have HNB : Hid (¬ RowAt ao b) := Lib.hid (fun ⟨g, hg, e⟩ => h.apart.2.1 g hg e.symm)
  have C5 := Lib.hid h.c5
  have FZ := Lib.hid (free_of_blk h.blk 5)
  have hcl := count_le F
  generalize hc : count F = c at *
  have HCnt := Lib.hid hc
  clear h hs hoff hc
  go_enter Try.func14, Try.ntmps14
  go_wp2_with fail
  refine HC.out.mono ?_
  rintro e w1 ⟨rfl, rfl⟩
  go_wp2_with fail
  refine HT.out.mono ?_
  rintro e w1 ⟨⟨v, rfl, hv⟩, ho⟩
  have hv : v = true := hv.2 HY.out
  subst hv
  have H1 := Lib.hid (H.out.only ho)
  have HO1 : Hid (Only (RowAt ao) w w1) := Lib.hid (ho.no _)
  clear ho
  go_wp2_with fail
  refine (lay_any a n s hn H1.out HS.out hle).mono ?_
  rintro e w2 ⟨rfl, r, T2, hL, hr, ho⟩
  have HI := Lib.hid (HG.out r hL)
  have HR := Lib.hid hr
  have HO := Lib.hid (HO1.out.same ho)
  clear hL hr ho HO1 H1
  have d5 : w2.cell? ⟨b, 5, none⟩ = some (.int .i64 c) := (HO.out.cell (p := ⟨b, 5, none⟩) hbl HNB.out).trans C5.out
  have g5 : w2.frozen? ⟨b, 5, none⟩ = false := (HO.out.frozen (p := ⟨b, 5, none⟩) hbl HNB.out).trans FZ.out
  have hcb : (c : Int) + (n : Int) ≤ 1048576 := by
    have := count_le (put F a true n)
    rw [HI.out.2, put_len] at this
    omega
  clear hv hle hend hroom hfew hn ha
  go_wp2_with fail
  rw [show ((c : Int) + (n : Int)) = (count (put F a true n) : Int) by rw [HI.out.2]; omega]
  go_ret
  exact ⟨rfl, _, T2, H.out.again hsz HR.out HO.out HI.out.1 (put_len F a true n) rfl⟩
end Go.Proofs.Ytaplfibhhdngbaa.pools
