/- Contracts of the law's own number and Parse. -/
import Derived.Test.YtdhppkobhmbnaaaDoorCell3
namespace Go.Proofs.YtdhppkobhmbnaaaDoor.cells
open Go.RowKit Go.Lib

def NumLeft (D : List UInt8) (k : Nat) (a : Int) : Prop := 0 ≤ a ∧ a ≤ 1152921504606846976 ∧ k ≤ 20 ∧ k ≤ D.length ∧ numLoop 0 20 D = numLoop a.toNat (20 - k) (D.drop k)
theorem NumLeft.start (D : List UInt8) : NumLeft D 0 0 := ⟨by omega, by omega, by omega, by omega, rfl⟩
theorem drop_at (d : ByteArray) (k : Nat) (h : k < d.size) : d.data.toList.drop k = d[k] :: d.data.toList.drop (k + 1) := by
  have h' : k < d.data.toList.length := by rw [← size_eq]; exact h
  rw [List.drop_eq_getElem_cons h']
  rfl
theorem NumLeft.bad {d : ByteArray} {k : Nat} {a : Int} (h : NumLeft d.data.toList k a) (h1 : k < d.size) (h2 : k < 20) (hc : ((d[k]'h1).toNat : Int) < 48 ∨ 57 < ((d[k]'h1).toNat : Int)) : numLoop 0 20 d.data.toList = none := by
  obtain ⟨_, _, _, _, h5⟩ := h
  rw [h5, drop_at d k h1, show 20 - k = (19 - k) + 1 by omega]
  simp only [numLoop]
  rw [if_pos (by omega)]
theorem NumLeft.over {d : ByteArray} {k : Nat} {a : Int} (h : NumLeft d.data.toList k a) (h1 : k < d.size) (h2 : k < 20) (hc : 48 ≤ ((d[k]'h1).toNat : Int)) (hc' : ((d[k]'h1).toNat : Int) ≤ 57) (hm : 1152921504606846976 < 10 * a + (((d[k]'h1).toNat : Int) - 48)) : numLoop 0 20 d.data.toList = none := by
  obtain ⟨_, _, _, _, h5⟩ := h
  rw [h5, drop_at d k h1, show 20 - k = (19 - k) + 1 by omega]
  simp only [numLoop]
  rw [if_neg (by omega), if_pos (by omega)]
theorem NumLeft.step {d : ByteArray} {k : Nat} {a : Int} (h : NumLeft d.data.toList k a) (h1 : k < d.size) (h2 : k < 20) (hc : 48 ≤ ((d[k]'h1).toNat : Int)) (hc' : ((d[k]'h1).toNat : Int) ≤ 57) (hm : 10 * a + (((d[k]'h1).toNat : Int) - 48) ≤ 1152921504606846976) :
    NumLeft d.data.toList (k + 1) (10 * a + (((d[k]'h1).toNat : Int) - 48)) := by
  obtain ⟨h01, h02, h03, h04, h5⟩ := h
  refine ⟨by omega, by omega, by omega, by rw [← size_eq]; omega, ?_⟩
  rw [h5, drop_at d k h1, show 20 - k = (19 - k) + 1 by omega]
  simp only [numLoop]
  rw [if_neg (by omega), if_neg (by omega), show 20 - (k + 1) = 19 - k by omega]
  congr 1
  omega
theorem NumLeft.done {d : ByteArray} {k : Nat} {a : Int} (h : NumLeft d.data.toList k a) (hx : ¬ (k < d.size ∧ k < 20)) : numLoop 0 20 d.data.toList = some a.toNat := by
  obtain ⟨h01, h02, h03, h04, h5⟩ := h
  rw [h5]
  rw [← size_eq] at h04
  by_cases hk : k = 20
  · subst hk; rfl
  · have : d.data.toList.drop k = [] := by rw [List.drop_eq_nil_iff, ← size_eq]; omega
    rw [this]
    cases 20 - k <;> rfl

theorem numR_pos {l : List UInt8} {a : Int} (hh : l.head? ≠ some 45) (ha : 0 ≤ a) (h : numLoop 0 20 l = some a.toNat) :
    numR l = if itoa a = l ∧ -1152921504606846976 ≤ a ∧ a ≤ 1152921504606846975 then some a else none := by
  have e : (a.toNat : Int) = a := by omega
  unfold numR
  simp only [if_neg hh]
  rw [h]
  simp only [e]
theorem numR_neg {l : List UInt8} {a : Int} (hh : l.head? = some 45) (ha : 0 ≤ a) (h : numLoop 0 20 l.tail = some a.toNat) :
    numR l = if itoa (-a) = l ∧ -1152921504606846976 ≤ -a ∧ -a ≤ 1152921504606846975 then some (-a) else none := by
  have e : (a.toNat : Int) = a := by omega
  unfold numR
  simp only [if_pos hh]
  rw [h]
  simp only [e]
theorem numR_none {l : List UInt8} (h : numLoop 0 20 (if l.head? = some 45 then l.tail else l) = none) : numR l = none := by
  unfold numR; rw [h]

/-- What the law's number answers. -/
def NumPost (l : List UInt8) (e : Ending) : Prop :=
  (∃ m, numR l = some m ∧ e = .returned (.tuple #[.int .i64 m, .bool true])) ∨ (numR l = none ∧ ∃ m, e = .returned (.tuple #[.int .i64 m, .bool false]))
theorem numPost_no {l : List UInt8} {m : Int} (h : numR l = none) : NumPost l (.returned (.tuple #[.int .i64 m, .bool false])) := .inr ⟨h, m, rfl⟩
theorem numPost_yes {l : List UInt8} {m : Int} (h : numR l = some m) : NumPost l (.returned (.tuple #[.int .i64 m, .bool true])) := .inl ⟨m, h, rfl⟩

theorem over_one {a c : Int} (h0 : 0 ≤ a) (h1 : a ≤ 1152921504606846976) (hc : 48 ≤ c) (hc' : c ≤ 57) (hm : 9223372036854775807 < 10 * a + (c - 48)) (h : 10 * a ≤ 9223372036854775807) : wrap64 (10 * a + (c - 48)) < 0 := by
  unfold wrap64; omega
theorem over_two {a c : Int} (h0 : 0 ≤ a) (h1 : a ≤ 1152921504606846976) (hc : 48 ≤ c) (hc' : c ≤ 57) (h : 9223372036854775807 < 10 * a) : wrap64 (wrap64 (10 * a) + (c - 48)) < 0 := by
  have ht : 10 * a ≤ 11529215046068469760 := by omega
  generalize 10 * a = t at h ht
  have e : wrap64 t = t - 18446744073709551616 := by unfold wrap64; omega
  rw [e, IntWalk.wrap64_in _ ⟨by omega, by omega⟩]
  omega

set_option maxHeartbeats 2000000 in
theorem rnum_pos (s : ByteArray) (w : World) (hs : s.size ≤ 1000) (hp : 0 < s.size) (hh : s.data.toList.head? ≠ some 45) :
    Calls Tryd.prog 29 #[.string s] w fun e w' => NumPost s.data.toList e ∧ w = w' := by
  have hno : numLoop 0 20 s.data.toList = none → numR s.data.toList = none := fun h => numR_none (by rw [if_neg hh]; exact h)
  have HNO := Lib.hid hno
  have hyes : ∀ a : Int, 0 ≤ a → numLoop 0 20 s.data.toList = some a.toNat → numR s.data.toList = if itoa a = s.data.toList ∧ -1152921504606846976 ≤ a ∧ a ≤ 1152921504606846975 then some a else none := fun a ha h => numR_pos hh ha h
  have HYES := Lib.hid hyes
  have hfirst : ∀ hp : 0 < s.size, (((s[0]'hp).toNat : Int) == 45) = false := by
    intro hp
    have hd := drop_at s 0 hp
    rw [List.drop_zero] at hd
    rw [hd] at hh
    rw [beq_eq_false_iff_ne]
    intro e
    apply hh
    simp only [List.head?_cons, Option.some.injEq]
    have h45 : (45 : UInt8).toNat = 45 := rfl
    exact UInt8.toNat_inj.1 (by omega)
  have HF := Lib.hid hfirst
  clear hno hyes hfirst hh
  have hf := HF.out hp
  go_enter Tryd.func29, Tryd.ntmps29
  go_wp2
  go_loop [6, 7] (fun n i => ∃ (k : Nat) (a : Int), Hid (NumLeft s.data.toList k a) ∧ n = .int .i64 a ∧ i = .int .i64 k) (fun _ i => 20 - (RowKit.intOf i).toNat)
  case atStart => exact ⟨0, 0, NumLeft.start _, rfl, rfl⟩
  case round =>
    obtain ⟨k, a, hl, rfl, rfl⟩ := hrel
    have ha0 := hl.out.1
    have ha1 := hl.out.2.1
    have hk := hl.out.2.2.1
    have hk2 := hl.out.2.2.2.1
    rw [← size_eq] at hk2
    by_cases hx : k < s.size ∧ k < 20
    · obtain ⟨h1, h2⟩ := hx
      have hc255 := (s[k]'h1).toNat_lt
      by_cases h3 : 48 ≤ ((s[k]'h1).toNat : Int)
      · by_cases h4 : ((s[k]'h1).toNat : Int) ≤ 57
        · by_cases h5 : 10 * a + (((s[k]'h1).toNat : Int) - 48) ≤ 1152921504606846976
          · go_wp2
            go_round
            case rel => exact ⟨k + 1, _, hl.out.step h1 h2 h3 h4 h5, rfl, by go_num⟩
            case measure => simp [RowKit.intOf]; omega
          · have HN := Lib.hid (numPost_no (m := 0) (HNO.out (hl.out.over h1 h2 h3 h4 (by omega))))
            by_cases h6 : 10 * a + (((s[k]'h1).toNat : Int) - 48) ≤ 9223372036854775807
            · go_wp2
              go_ret2
              exact ⟨HN.out, rfl⟩
            · by_cases h7 : 10 * a ≤ 9223372036854775807
              · have h8 := over_one ha0 ha1 h3 h4 (by omega) h7
                go_wp2
                go_ret2
                exact ⟨HN.out, rfl⟩
              · have h8 := over_two ha0 ha1 h3 h4 (by omega)
                go_wp2
                go_ret2
                exact ⟨HN.out, rfl⟩
        · have HN := Lib.hid (numPost_no (m := 0) (HNO.out (hl.out.bad h1 h2 (by omega))))
          go_wp2
          go_ret2
          exact ⟨HN.out, rfl⟩
      · have HN := Lib.hid (numPost_no (m := 0) (HNO.out (hl.out.bad h1 h2 (by omega))))
        go_wp2
        go_ret2
        exact ⟨HN.out, rfl⟩
    · have hd := HYES.out a ha0 (hl.out.done hx)
      have HD := Lib.hid hd
      clear hd
      have hx' : s.size ≤ k ∨ 20 ≤ k := by omega
      clear hx
      have e1 : ∃ b, (itoa a == s.toList) = b := ⟨_, rfl⟩
      obtain ⟨b, hb⟩ := e1
      have hb' : (itoa a = s.data.toList) ↔ b = true := by rw [← hb, toList_data]; simp
      have HB := Lib.hid hb'
      clear hb'
      have hx'' : k = s.size ∨ (k < s.size ∧ k = 20) := by omega
      clear hx'
      rcases hx'' with rfl | ⟨hx', rfl⟩
      all_goals
        cases b
        · have HN := Lib.hid (numPost_no (m := a) (show numR s.data.toList = none by rw [HD.out, if_neg]; rintro ⟨h, _⟩; simpa using HB.out.1 h))
          go_wp2_with (go_at_call 25; refine (digits_any _ _ (by omega) (by omega)).mono ?_; rintro e w' ⟨rfl, rfl⟩)
          go_ret2
          exact ⟨HN.out, rfl⟩
        · by_cases hr : a ≤ 1152921504606846975
          · have HN := Lib.hid (numPost_yes (m := a) (show numR s.data.toList = some a by rw [HD.out, if_pos]; exact ⟨HB.out.2 rfl, by omega, hr⟩))
            go_wp2_with (go_at_call 25; refine (digits_any _ _ (by omega) (by omega)).mono ?_; rintro e w' ⟨rfl, rfl⟩)
            go_ret2
            exact ⟨HN.out, rfl⟩
          · have HN := Lib.hid (numPost_no (m := a) (show numR s.data.toList = none by rw [HD.out, if_neg]; rintro ⟨_, _, h⟩; exact hr h))
            have hr' : decide (a ≤ 1152921504606846975) = false := decide_eq_false hr
            clear hr
            go_wp2_with (go_at_call 25; refine (digits_any _ _ (by omega) (by omega)).mono ?_; rintro e w' ⟨rfl, rfl⟩)
            go_ret2
            exact ⟨HN.out, rfl⟩
set_option maxHeartbeats 2000000 in
theorem rnum_neg (s : ByteArray) (w : World) (hs : s.size ≤ 1000) (hp : 0 < s.size) (hh : s.data.toList.head? = some 45) :
    Calls Tryd.prog 29 #[.string s] w fun e w' => NumPost s.data.toList e ∧ w = w' := by
  have ht : s.data.toList.tail = (s.extract 1 s.size).data.toList := by
    rw [extract_data, List.take_of_length_le (by rw [List.length_drop, ← size_eq]; omega), List.drop_one]
  have hsz : (s.extract 1 s.size).size ≤ 1000 := by
    rw [size_eq, ← ht, List.length_tail, ← size_eq]; omega
  have hno : numLoop 0 20 (s.extract 1 s.size).data.toList = none → numR s.data.toList = none := fun h => numR_none (by rw [if_pos hh, ht]; exact h)
  have HNO := Lib.hid hno
  have hyes : ∀ a : Int, 0 ≤ a → numLoop 0 20 (s.extract 1 s.size).data.toList = some a.toNat → numR s.data.toList = if itoa (-a) = s.data.toList ∧ -1152921504606846976 ≤ -a ∧ -a ≤ 1152921504606846975 then some (-a) else none := fun a ha h => numR_neg hh ha (by rw [ht]; exact h)
  have HYES := Lib.hid hyes
  have hf : (((s[0]'hp).toNat : Int) == 45) = true := by
    have hd := drop_at s 0 hp
    rw [List.drop_zero] at hd
    rw [hd] at hh
    simp only [List.head?_cons, Option.some.injEq] at hh
    rw [hh]
    rfl
  have HS := Lib.hid hsz
  clear hno hyes hh ht hsz
  go_enter Tryd.func29, Tryd.ntmps29
  go_wp2
  generalize s.extract 1 s.size = d at *
  have hsz := HS.out
  go_loop [6, 7] (fun n i => ∃ (k : Nat) (a : Int), Hid (NumLeft d.data.toList k a) ∧ n = .int .i64 a ∧ i = .int .i64 k) (fun _ i => 20 - (RowKit.intOf i).toNat)
  case atStart => exact ⟨0, 0, NumLeft.start _, rfl, rfl⟩
  case round =>
    obtain ⟨k, a, hl, rfl, rfl⟩ := hrel
    have ha0 := hl.out.1
    have ha1 := hl.out.2.1
    have hk := hl.out.2.2.1
    have hk2 := hl.out.2.2.2.1
    rw [← size_eq] at hk2
    by_cases hx : k < d.size ∧ k < 20
    · obtain ⟨h1, h2⟩ := hx
      have hc255 := (d[k]'h1).toNat_lt
      by_cases h3 : 48 ≤ ((d[k]'h1).toNat : Int)
      · by_cases h4 : ((d[k]'h1).toNat : Int) ≤ 57
        · by_cases h5 : 10 * a + (((d[k]'h1).toNat : Int) - 48) ≤ 1152921504606846976
          · go_wp2
            go_round
            case rel => exact ⟨k + 1, _, hl.out.step h1 h2 h3 h4 h5, rfl, by go_num⟩
            case measure => simp [RowKit.intOf]; omega
          · have HN := Lib.hid (numPost_no (m := 0) (HNO.out (hl.out.over h1 h2 h3 h4 (by omega))))
            by_cases h6 : 10 * a + (((d[k]'h1).toNat : Int) - 48) ≤ 9223372036854775807
            · go_wp2
              go_ret2
              exact ⟨HN.out, rfl⟩
            · by_cases h7 : 10 * a ≤ 9223372036854775807
              · have h8 := over_one ha0 ha1 h3 h4 (by omega) h7
                go_wp2
                go_ret2
                exact ⟨HN.out, rfl⟩
              · have h8 := over_two ha0 ha1 h3 h4 (by omega)
                go_wp2
                go_ret2
                exact ⟨HN.out, rfl⟩
        · have HN := Lib.hid (numPost_no (m := 0) (HNO.out (hl.out.bad h1 h2 (by omega))))
          go_wp2
          go_ret2
          exact ⟨HN.out, rfl⟩
      · have HN := Lib.hid (numPost_no (m := 0) (HNO.out (hl.out.bad h1 h2 (by omega))))
        go_wp2
        go_ret2
        exact ⟨HN.out, rfl⟩
    · have hd := HYES.out a ha0 (hl.out.done hx)
      have HD := Lib.hid hd
      clear hd
      have hx' : d.size ≤ k ∨ 20 ≤ k := by omega
      clear hx
      have e1 : ∃ b, (itoa (-a) == s.toList) = b := ⟨_, rfl⟩
      obtain ⟨b, hb⟩ := e1
      have hb' : (itoa (-a) = s.data.toList) ↔ b = true := by rw [← hb, toList_data]; simp
      have HB := Lib.hid hb'
      clear hb'
      have hx'' : k = d.size ∨ (k < d.size ∧ k = 20) := by omega
      clear hx'
      rcases hx'' with rfl | ⟨hx', rfl⟩
      all_goals
        cases b
        · have HN := Lib.hid (numPost_no (m := -a) (show numR s.data.toList = none by rw [HD.out, if_neg]; rintro ⟨h, _⟩; simpa using HB.out.1 h))
          go_wp2_with (go_at_call 25; refine (digits_any _ _ (by omega) (by omega)).mono ?_; rintro e w' ⟨rfl, rfl⟩)
          go_ret2
          exact ⟨HN.out, rfl⟩
        · have HN := Lib.hid (numPost_yes (m := -a) (show numR s.data.toList = some (-a) by rw [HD.out, if_pos]; exact ⟨HB.out.2 rfl, by omega, by omega⟩))
          have hr' : decide (-a ≤ 1152921504606846975) = true := decide_eq_true (by omega)
          go_wp2_with (go_at_call 25; refine (digits_any _ _ (by omega) (by omega)).mono ?_; rintro e w' ⟨rfl, rfl⟩)
          go_ret2
          exact ⟨HN.out, rfl⟩

theorem itoa_zero : itoa 0 = [48] := by rw [itoa_nonneg (Int.le_refl 0), decDigits_small (by decide)]; rfl
theorem numR_nil : numR [] = none := by
  have h := numR_pos (l := []) (a := 0) (by simp) (Int.le_refl 0) rfl
  rw [h, if_neg]
  rintro ⟨h, _⟩
  rw [itoa_zero] at h
  cases h
theorem digits_zero (w : World) : Calls Tryd.prog 25 #[.int .i64 0] w fun e w' => e = .returned (.string ⟨#[48]⟩) ∧ w = w' :=
  (digits_any 0 w (by omega) (by omega)).mono fun e w' ⟨he, hw⟩ => ⟨by rw [he, itoa_zero], hw⟩
theorem rnum_empty (s : ByteArray) (w : World) (hp : s.size = 0) :
    Calls Tryd.prog 29 #[.string s] w fun e w' => NumPost s.data.toList e ∧ w = w' := by
  obtain rfl : s = ⟨#[]⟩ := by
    apply ByteArray.ext
    exact Array.eq_empty_of_size_eq_zero hp
  clear hp
  have HN := Lib.hid (numPost_no (m := 0) (show numR [] = none from numR_nil))
  go_enter Tryd.func29, Tryd.ntmps29
  go_wp2
  refine wp_loop_rounds 1 ?_
  rw [rounds_succ]
  go_wp2_with (go_at_call 25; refine (digits_zero _).mono ?_; rintro e w' ⟨rfl, rfl⟩)
  go_ret2
  exact ⟨HN.out, rfl⟩
theorem rnum_any (s : ByteArray) (w : World) (hs : s.size ≤ 1000) :
    Calls Tryd.prog 29 #[.string s] w fun e w' => NumPost s.data.toList e ∧ w = w' := by
  by_cases hp : 0 < s.size
  · by_cases hh : s.data.toList.head? = some 45
    · exact rnum_neg s w hs hp hh
    · exact rnum_pos s w hs hp hh
  · exact rnum_empty s w (by omega)

/-- What the law's Parse answers. -/
def RParseEnd (l : List UInt8) (e : Ending) : Prop := e = .returned (.tuple #[.int .u64 ((parseR l).getD 0), .bool (parseR l).isSome])
theorem rparseEnd_some {l : List UInt8} {x : Int} (h : parseR l = some x) : RParseEnd l (.returned (.tuple #[.int .u64 x, .bool true])) := by
  unfold RParseEnd; rw [h]; rfl
theorem rparseEnd_none {l : List UInt8} (h : parseR l = none) : RParseEnd l (.returned (.tuple #[.int .u64 0, .bool false])) := by
  unfold RParseEnd; rw [h]; rfl

end Go.Proofs.YtdhppkobhmbnaaaDoor.cells
