/- Contracts of Text, Parse and the law's own Digits, Text, number, Parse. -/
import Derived.Test.YtdhppkobhmbnaaaDoorCell1
import Derived.Lib.SmallJoins
import Derived.Lib.ItoaLen
import Derived.LoopTactic
namespace Go.Proofs.YtdhppkobhmbnaaaDoor.cells
open Go.RowKit Go.Lib

def nameAt (i : Nat) : List UInt8 := nameOf i

/-- What the program's package-level variables hold, as far as the cells' functions read them. -/
structure Ground (w : World) : Prop where
  size : 7 ≤ w.heap.size
  tab : TabIs Tryd.prog w "internal/strconv.uint64pow10" .u64 pow10Tab
  most : ∃ m, w.cell? ⟨1, 0, none⟩ = some (.int .i64 m)
  syn : ∃ tp p, w.cell? ⟨2, 0, none⟩ = some (.iface tp p)
  ran : ∃ tp p, w.cell? ⟨3, 0, none⟩ = some (.iface tp p)
  names : ∀ i, i < 8 → w.cell? ⟨0, i, none⟩ = some (.string ⟨(nameAt i).toArray⟩)

theorem pow10g : Tryd.prog.globalNamed "internal/strconv.uint64pow10" = some 4 := by kernel_rfl

theorem Ground.below {w w' : World} (h : Ground w) (hb : Below w.heap.size w w') : Ground w' := by
  have hs := h.size
  refine ⟨Nat.le_trans hs hb.size, var?_below hb pow10g (by omega) h.tab, ?_, ?_, ?_, ?_⟩
  · obtain ⟨m, hm⟩ := h.most
    exact ⟨m, (hb.cell (Nat.lt_of_lt_of_le (by decide) hs)).trans hm⟩
  · obtain ⟨tp, p, hm⟩ := h.syn
    exact ⟨tp, p, (hb.cell (Nat.lt_of_lt_of_le (by decide) hs)).trans hm⟩
  · obtain ⟨tp, p, hm⟩ := h.ran
    exact ⟨tp, p, (hb.cell (Nat.lt_of_lt_of_le (by decide) hs)).trans hm⟩
  · intro i hi
    have h0 : (0 : Nat) < w.heap.size := by omega
    exact (hb.cell h0).trans (h.names i hi)

theorem below_grow (w : World) (k : Nat) (os : Array Obj) : Below w.heap.size w (Sort.grow (w.drewN k) os) :=
  ⟨rfl, rfl, rfl, by show w.heap.size ≤ (w.heap ++ os).size; simp, fun i hi => by show (w.heap ++ os)[i]? = w.heap[i]?; rw [Array.getElem?_append_left hi]⟩

theorem itoa_any (n : Int) (w : World) (h0 : -9223372036854775808 ≤ n) (h1 : n ≤ 9223372036854775807) (hg : Ground w) :
    Calls Tryd.prog 24 #[.int .i64 n] w fun e w' => e = .returned (.string ⟨(itoa n).toArray⟩) ∧ Below w.heap.size w w' :=
  (Tryd.strconv_Itoa n h0 h1 w hg.tab).mono fun e w' ⟨he, k, os, hw⟩ => ⟨he, by rw [hw]; exact below_grow w k os⟩

theorem cut_any (s sep : ByteArray) (w : World) (hs : s.size < 4294967281) (hg : Ground w) :
    Calls Tryd.prog 26 #[.string s, .string sep] w fun e w' => e = .returned (.tuple #[.string ⟨(cut s.data.toList sep.data.toList).1.toArray⟩, .string ⟨(cut s.data.toList sep.data.toList).2.1.toArray⟩, .bool (cut s.data.toList sep.data.toList).2.2]) ∧ Below w.heap.size w w' := by
  obtain ⟨m, hm⟩ := hg.most
  exact (Tryd.strings_Cut s sep m w hs hm).mono fun e w' ⟨he, n, hw⟩ => ⟨he, by rw [hw]; exact below_drewN (Below.refl _ _) n⟩

theorem atoi_ok (s : ByteArray) (v : Int) (w : World) (hs : s.size < 4294967281) (h : atoiAll s.data.toList = .ok v) :
    Calls Tryd.prog 27 #[.string s] w fun e w' => e = .returned (.tuple #[.int .i64 v, .nilIface]) ∧ Below w.heap.size w w' :=
  (Tryd.strconv_Atoi_ok s (by omega) v h w).mono fun e w' ⟨he, hw⟩ => ⟨he, by
    rcases hw with rfl | ⟨t, rfl⟩
    · exact Below.refl _ _
    · exact Joins.below_bytesWorld _ _ _ _ (Nat.le_refl _)⟩

theorem atoi_bad (s : ByteArray) (w : World) (hs : s.size < 4294967281) (h : ∀ v, atoiAll s.data.toList ≠ .ok v) (hg : Ground w) :
    Calls Tryd.prog 27 #[.string s] w fun e w' => ∃ n tp p, e = .returned (.tuple #[.int .i64 n, .iface tp p]) ∧ Below w.heap.size w w' := by
  rcases hc : atoiAll s.data.toList with v | _ | _
  · exact absurd hc (h v)
  · obtain ⟨tp, p, hv⟩ := hg.syn
    exact (Any.strconv_Atoi_syntax Tryd.laysC172 s (by omega) hc (.iface tp p) w hv (Or.inr ⟨tp, p, rfl⟩)).mono fun e w' ⟨N, he, _, _, hb⟩ => ⟨_, _, _, he, hb⟩
  · obtain ⟨tp, p, hv⟩ := hg.ran
    exact (Any.strconv_Atoi_range Tryd.laysC172 s (by omega) hc (.iface tp p) w hv (Or.inr ⟨tp, p, rfl⟩)).mono fun e w' ⟨N, he, _, _, hb⟩ => ⟨_, _, _, he, hb⟩

theorem name_some (t : Int) (w : World) (h1 : 1 ≤ t) (h2 : t ≤ 7) (hg : Ground w) :
    Calls Tryd.prog 19 #[.int .i64 t] w fun e w' => e = .returned (.string ⟨(nameOf t).toArray⟩) ∧ w = w' := by
  have hc : t = 1 ∨ t = 2 ∨ t = 3 ∨ t = 4 ∨ t = 5 ∨ t = 6 ∨ t = 7 := by omega
  have c1 := hg.names 1 (by omega)
  have c2 := hg.names 2 (by omega)
  have c3 := hg.names 3 (by omega)
  have c4 := hg.names 4 (by omega)
  have c5 := hg.names 5 (by omega)
  have c6 := hg.names 6 (by omega)
  have c7 := hg.names 7 (by omega)
  rcases hc with rfl | rfl | rfl | rfl | rfl | rfl | rfl
  all_goals
    go_enter Tryd.func19, Tryd.ntmps19
    go_wp2_with (go_at_call 23; refine (isTag_yes _ _ (by omega) (by omega)).mono ?_; rintro e w' ⟨rfl, rfl⟩)
    go_ret
    exact ⟨rfl, rfl⟩

theorem cat2 (a b : List UInt8) : (⟨a.toArray⟩ : ByteArray) ++ ⟨b.toArray⟩ = ⟨(a ++ b).toArray⟩ := by
  apply ByteArray.ext
  simp [ByteArray.data_append]
theorem ret_cat3 (a b : List UInt8) : Ending.returned (.string ⟨(a ++ 58 :: b).toArray⟩) = Ending.returned (.string ((⟨a.toArray⟩ : ByteArray) ++ ⟨#[58]⟩ ++ ⟨b.toArray⟩)) := by
  rw [show (⟨#[58]⟩ : ByteArray) = ⟨[(58 : UInt8)].toArray⟩ from rfl, cat2, cat2]
  simp
theorem nameOf_len (t : Int) : (nameOf t).length ≤ 4 := by
  unfold nameOf
  repeat' split
  all_goals decide

theorem text_no (x : Int) (w : World) (h : IsWord x) (h8 : x % 8 = 0) :
    Calls Tryd.prog 17 #[.int .u64 x] w fun e w' => e = .returned (.string ⟨(textOf x).toArray⟩) ∧ w = w' := by
  have e0 : (tagOf x == 0) = true := by unfold tagOf; simpa using h8
  have HV : Hid (textOf x = [46]) := by
    show textOf x = [46]
    unfold textOf; rw [if_pos h8]
  clear h8
  go_enter Tryd.func17, Tryd.ntmps17
  go_wp2_with (go_at_call 12; refine (tag_any _ _ h).mono ?_; rintro e w' ⟨rfl, rfl⟩)
  go_ret
  rw [HV.out]
  exact ⟨rfl, rfl⟩
theorem text_yes (x : Int) (w : World) (h : IsWord x) (h8 : x % 8 ≠ 0) (hg : Ground w) :
    Calls Tryd.prog 17 #[.int .u64 x] w fun e w' => e = .returned (.string ⟨(textOf x).toArray⟩) ∧ Below w.heap.size w w' := by
  have e0 : (tagOf x == 0) = false := by unfold tagOf; simpa using h8
  have hr := numOf_range h
  have hl1 := nameOf_len (tagOf x)
  have hl2 := itoa_length_le (numOf x) (by omega) (by omega)
  have ht1 : 1 ≤ tagOf x := by unfold tagOf; omega
  have ht2 : tagOf x ≤ 7 := by unfold tagOf; omega
  have HV : Hid (textOf x = nameOf (tagOf x) ++ 58 :: itoa (numOf x)) := by
    show textOf x = nameOf (tagOf x) ++ 58 :: itoa (numOf x)
    unfold textOf; rw [if_neg h8]
  clear h8
  go_enter Tryd.func17, Tryd.ntmps17
  go_wp2_with (first | (go_at_call 12; refine (tag_any _ _ h).mono ?_; rintro e w' ⟨rfl, rfl⟩) | (go_at_call 19; refine (name_some _ _ ht1 ht2 hg).mono ?_; rintro e w' ⟨rfl, rfl⟩) | (go_at_call 13; refine (number_any _ _ h).mono ?_; rintro e w' ⟨rfl, rfl⟩) | (go_at_call 24; refine (itoa_any _ _ (by omega) (by omega) hg).mono ?_; rintro e w1 ⟨rfl, hb⟩))
  go_ret
  exact ⟨by rw [HV.out, ret_cat3]; rfl, hb⟩


/-- The loop of Digits: v is still to be written ahead of l. -/
def DigLeft (u0 v : Int) (l : List UInt8) : Prop := 0 ≤ v ∧ v ≤ u0 ∧ decDigits v.toNat ++ l = decDigits u0.toNat
theorem DigLeft.len {u0 v : Int} {l : List UInt8} (h : DigLeft u0 v l) (hu : u0 < 18446744073709551616) : l.length ≤ 20 := by
  obtain ⟨h0, h1, h2⟩ := h
  have e := congrArg List.length h2
  rw [List.length_append, decDigits_length u0.toNat] at e
  have := nDigits_le20 u0.toNat (by omega)
  omega
theorem DigLeft.step {u0 v : Int} {l : List UInt8} (h : DigLeft u0 v l) (hv : ¬ v / 10 = 0) : DigLeft u0 (v / 10) (UInt8.ofNat (48 + (v % 10).toNat) :: l) := by
  obtain ⟨h0, h1, h2⟩ := h
  refine ⟨by omega, by omega, ?_⟩
  rw [← h2, decDigits_big (u := v.toNat) (by omega), show (v / 10).toNat = v.toNat / 10 by omega, show (v % 10).toNat = v.toNat % 10 by omega]
  simp
theorem DigLeft.last {u0 v : Int} {l : List UInt8} (h : DigLeft u0 v l) (hv : v / 10 = 0) : decDigits u0.toNat = UInt8.ofNat (48 + (v % 10).toNat) :: l := by
  obtain ⟨h0, h1, h2⟩ := h
  rw [← h2, decDigits_small (u := v.toNat) (by omega), show (v % 10).toNat = v.toNat by omega]
  rfl
theorem digit_piece : ∀ i : Fin 10, (⟨#[48, 49, 50, 51, 52, 53, 54, 55, 56, 57]⟩ : ByteArray).extract i.val (i.val + 1) = ⟨#[UInt8.ofNat (48 + i.val)]⟩ := by decide +kernel

theorem piece_cat (v : Int) (l : List UInt8) (h : 0 ≤ v) : (⟨#[48, 49, 50, 51, 52, 53, 54, 55, 56, 57]⟩ : ByteArray).extract (v % 10).toNat (v % 10 + 1).toNat ++ ⟨l.toArray⟩ = ⟨(UInt8.ofNat (48 + (v % 10).toNat) :: l).toArray⟩ := by
  have e : (v % 10 + 1).toNat = (v % 10).toNat + 1 := by omega
  have hp := digit_piece ⟨(v % 10).toNat, by omega⟩
  dsimp only at hp
  rw [e, hp]
  exact cat2 [_] l
theorem itoa_nonneg {n : Int} (h : 0 ≤ n) : itoa n = decDigits n.toNat := by unfold itoa; rw [if_neg (by omega)]
theorem itoa_below {n : Int} (h : n < 0) : itoa n = 45 :: decDigits (-n).toNat := by unfold itoa; rw [if_pos h, show n.natAbs = (-n).toNat by omega]
theorem neg_word {n : Int} (h0 : n < 0) (h1 : -9223372036854775808 ≤ n) : IntKind.u64.wrap (-IntKind.u64.wrap n) = -n := by
  rw [wrap_u64, wrap_u64]; omega

set_option maxHeartbeats 1000000 in
theorem digits_pos (n : Int) (w : World) (h0 : 0 ≤ n) (h1 : n ≤ 9223372036854775807) :
    Calls Tryd.prog 25 #[.int .i64 n] w fun e w' => e = .returned (.string ⟨(itoa n).toArray⟩) ∧ w = w' := by
  go_enter Tryd.func25, Tryd.ntmps25
  go_wp2
  go_loop [3, 4] (fun o u => ∃ (v : Int) (l : List UInt8), DigLeft n v l ∧ o = .string ⟨l.toArray⟩ ∧ u = .int .u64 v) (fun _ u => (RowKit.intOf u).toNat)
  case atStart => exact ⟨n, [], ⟨h0, Int.le_refl _, by simp⟩, rfl, rfl⟩
  case round =>
    obtain ⟨v, l, hl, rfl, rfl⟩ := hrel
    have hlen := hl.len (by omega)
    have hv0 := hl.1
    have hv1 := hl.2.1
    have HL := Lib.hid hl
    clear hl
    have HP := Lib.hid (piece_cat v l hv0)
    go_wp2
    · have hv : v / 10 = 0 := by simpa using (show (v / 10 == 0) = true by assumption)
      go_ret
      refine ⟨?_, rfl⟩
      rw [itoa_nonneg h0, HL.out.last hv, ← HP.out]
      rfl
    · have hv : ¬ v / 10 = 0 := by simpa using (show (v / 10 == 0) = false by assumption)
      go_round
      case rel => exact ⟨v / 10, _, HL.out.step hv, by rw [HP.out], rfl⟩
      case measure => simp [RowKit.intOf]; omega

set_option maxHeartbeats 1000000 in
theorem digits_neg (n : Int) (w : World) (h0 : n < 0) (h1 : -9223372036854775808 ≤ n) :
    Calls Tryd.prog 25 #[.int .i64 n] w fun e w' => e = .returned (.string ⟨(itoa n).toArray⟩) ∧ w = w' := by
  have HN := Lib.hid (neg_word h0 h1)
  go_enter Tryd.func25, Tryd.ntmps25
  go_wp2
  go_loop [3, 4] (fun o u => ∃ (v : Int) (l : List UInt8), DigLeft (-n) v l ∧ o = .string ⟨l.toArray⟩ ∧ u = .int .u64 v) (fun _ u => (RowKit.intOf u).toNat)
  case atStart => exact ⟨-n, [], ⟨by omega, Int.le_refl _, by simp⟩, rfl, by rw [HN.out]⟩
  case round =>
    obtain ⟨v, l, hl, rfl, rfl⟩ := hrel
    have hlen := hl.len (by omega)
    have hv0 := hl.1
    have hv1 := hl.2.1
    have HL := Lib.hid hl
    clear hl
    have HP := Lib.hid (piece_cat v l hv0)
    go_wp2
    · have hv : v / 10 = 0 := by simpa using (show (v / 10 == 0) = true by assumption)
      go_ret
      refine ⟨?_, rfl⟩
      rw [itoa_below h0, HL.out.last hv]
      have e := cat2 [45] (UInt8.ofNat (48 + (v % 10).toNat) :: l)
      rw [← HP.out] at e
      exact congrArg (fun b => Ending.returned (.string b)) e
    · have hv : ¬ v / 10 = 0 := by simpa using (show (v / 10 == 0) = false by assumption)
      go_round
      case rel => exact ⟨v / 10, _, HL.out.step hv, by rw [HP.out], rfl⟩
      case measure => simp [RowKit.intOf]; omega
theorem digits_any (n : Int) (w : World) (h0 : -9223372036854775808 ≤ n) (h1 : n ≤ 9223372036854775807) :
    Calls Tryd.prog 25 #[.int .i64 n] w fun e w' => e = .returned (.string ⟨(itoa n).toArray⟩) ∧ w = w' := by
  by_cases h : 0 ≤ n
  · exact digits_pos n w h h1
  · exact digits_neg n w (by omega) h0

theorem rtext_no (x : Int) (w : World) (h : IsWord x) (h8 : x % 8 = 0) :
    Calls Tryd.prog 18 #[.int .u64 x] w fun e w' => e = .returned (.string ⟨(textOf x).toArray⟩) ∧ w = w' := by
  have e0 : (x % 8 == 0) = true := by simpa using h8
  have HV : Hid (textOf x = [46]) := by
    show textOf x = [46]
    unfold textOf; rw [if_pos h8]
  clear h8
  obtain ⟨hx0, hx1⟩ := h
  go_enter Tryd.func18, Tryd.ntmps18
  go_wp2
  go_ret
  rw [HV.out]
  exact ⟨rfl, rfl⟩
theorem rtext_yes (x : Int) (w : World) (h : IsWord x) (h8 : x % 8 ≠ 0) :
    Calls Tryd.prog 18 #[.int .u64 x] w fun e w' => e = .returned (.string ⟨(textOf x).toArray⟩) ∧ w = w' := by
  have e0 : (x % 8 == 0) = false := by simpa using h8
  have hr := numOf_range h
  have hl1 := nameOf_len (tagOf x)
  have hl2 := itoa_length_le (numOf x) (by omega) (by omega)
  have HV : Hid (textOf x = nameOf (tagOf x) ++ 58 :: itoa (numOf x)) := by
    show textOf x = nameOf (tagOf x) ++ 58 :: itoa (numOf x)
    unfold textOf; rw [if_neg h8]
  clear h8
  have H := Lib.hid h
  obtain ⟨hx0, hx1⟩ := h
  go_enter Tryd.func18, Tryd.ntmps18
  go_wp2_with (first | (go_at_call 15; refine (rtag_any _ _ H.out).mono ?_; rintro e w' ⟨rfl, rfl⟩) | (go_at_call 20; refine (rname_any _ _).mono ?_; rintro e w' ⟨rfl, rfl⟩) | (go_at_call 16; refine (rnumber_any _ _ H.out).mono ?_; rintro e w' ⟨rfl, rfl⟩) | (go_at_call 25; refine (digits_any _ _ (by omega) (by omega)).mono ?_; rintro e w1 ⟨rfl, rfl⟩))
  go_ret
  exact ⟨by rw [HV.out, ret_cat3]; rfl, rfl⟩
theorem rtext_any (x : Int) (w : World) (h : IsWord x) :
    Calls Tryd.prog 18 #[.int .u64 x] w fun e w' => e = .returned (.string ⟨(textOf x).toArray⟩) ∧ w = w' := by
  by_cases h8 : x % 8 = 0
  · exact rtext_no x w h h8
  · exact rtext_yes x w h h8
theorem text_any (x : Int) (w : World) (h : IsWord x) (hg : Ground w) :
    Calls Tryd.prog 17 #[.int .u64 x] w fun e w' => e = .returned (.string ⟨(textOf x).toArray⟩) ∧ Below w.heap.size w w' := by
  by_cases h8 : x % 8 = 0
  · exact (text_no x w h h8).mono fun e w' ⟨he, hw⟩ => ⟨he, by rw [← hw]; exact Below.refl _ _⟩
  · exact text_yes x w h h8 hg
end Go.Proofs.YtdhppkobhmbnaaaDoor.cells
