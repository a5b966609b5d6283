
/- The lowest free slot; Intern. -/
import Derived.Test.YtoppfhbpmmepaaaDoorAtom5
import Derived.Test.YtoppfhbpmmepaaaDoorAtomClone
import Derived.Deep.LoopGhost
namespace Go.Proofs.YtoppfhbpmmepaaaDoor.atoms
open Go.RowKit Go.Proofs.YtoppfhbpmmepaaaDoor.own Go.Maps
section
variable {S : Nat → Prop} {B b : Nat} {lim d st made : Int} {sl : List ASlot} {w : World}

/-- All slots ahead of k have names. -/
def AllUsed (sl : List ASlot) (k : Nat) : Prop := ∀ (j : Nat) (x : ASlot), j < k → sl[j]? = some x → x.used = true
/-- The lowest slot that is free, or the one behind all. -/
def Lowest (sl : List ASlot) (k : Nat) : Prop := k ≤ sl.length ∧ AllUsed sl k ∧ (k < sl.length → ∃ x, sl[k]? = some x ∧ x.used = false)

theorem Tbl.setLow {low : Int} (h : Tbl S B b lim d st low made sl w) (x : Int) : Tbl S B b lim d st x made sl (w.setCell ⟨b, 6, none⟩ (.int .i64 x)) ∧ Only (· = b) w (w.setCell ⟨b, 6, none⟩ (.int .i64 x)) := by
  obtain ⟨ao, cap, m, h⟩ := h
  have ho : Only (· = b) w (w.setCell ⟨b, 6, none⟩ (.int .i64 x)) := Only.setCell (S := (· = b)) _ (p := ⟨b, 6, none⟩) rfl _
  exact ⟨⟨ao, cap, m, h.turned ho (by simpa using blk_set h.blk 6 (.int .i64 x))⟩, ho⟩
def LowR (S : Nat → Prop) (B b : Nat) (lim d st made : Int) (sl : List ASlot) (k : Nat) (w wr : World) : Prop := Tbl S B b lim d st (k : Int) made sl wr ∧ Only (· = b) w wr ∧ AllUsed sl k

theorem LowR.drewN {k : Nat} {wr : World} (h : LowR S B b lim d st made sl k w wr) (n : Nat) : LowR S B b lim d st made sl k w (wr.drewN n) :=
  ⟨h.1.only (Only.drewN (fun _ => False) wr n) (fun _ _ e => e), h.2.1.same (Only.drewN _ wr n), h.2.2⟩
set_option maxHeartbeats 1000000 in
theorem lowest_any (low : Nat) (h : Tbl S B b lim d st (low : Int) made sl w) (hl : low ≤ sl.length) (hu : AllUsed sl low) :
    Calls Tryd.prog 46 #[.pointer (some ⟨b, 0, none⟩)] w fun e w' => ∃ k : Nat, e = .returned (.int .i64 k) ∧ Lowest sl k ∧ LowR S B b lim d st made sl k w w' := by
  have H0 : Hid (LowR S B b lim d st made sl low w w) := ⟨h, Only.refl _ _, hu⟩
  have hfew : sl.length ≤ 16384 := by obtain ⟨ao, cap, m, hc⟩ := h; exact hc.few
  clear h hu
  go_enter Tryd.func46, Tryd.ntmps46
  go_wp2_with fail
  go_loopg [] (sl.length - low) (fun gk wr => ∃ k : Nat, k ≤ sl.length ∧ gk = sl.length - k ∧ Hid (LowR S B b lim d st made sl k w wr))
  case atStart => exact ⟨low, hl, rfl, H0⟩
  case round =>
    obtain ⟨k, hk, hgk, hR⟩ := hrel
    obtain ⟨⟨ao, cap, m, hc⟩, ho, hu⟩ := hR.out
    have c4 := cell_of_blk hc.blk 4
    have c6 := cell_of_blk hc.blk 6
    have f6 := free_of_blk hc.blk 6
    simp at c4 c6
    have hcap := hc.row.cap_ge
    have HGK := Lib.hid hgk
    clear hgk H0
    by_cases hlt : k < sl.length
    · obtain ⟨x, hx⟩ : ∃ x, sl[k]? = some x := ⟨_, List.getElem?_eq_getElem hlt⟩
      obtain ⟨g, rfl, hg, hcell⟩ := hc.row.at liesS k x hx
      have k1 := (hcell 1 (by omega)).1
      simp only [encS, List.getElem?_cons_zero, List.getElem?_cons_succ, Nat.add_zero] at k1
      have HX := Lib.hid hx
      have HU := Lib.hid hu
      clear hc hcell ho hx hu
      have hd : decide (k < sl.length) = true := decide_eq_true hlt
      cases hxu : x.used with
      | true =>
        rw [hxu] at k1
        have HXU := Lib.hid hxu
        clear hxu
        go_wp2_with fail
        go_quiet (fail)
        have HR2 := Lib.hid (hR.out.drewN nq)
        clear c4 c6 f6 k1 hR
        generalize wr.drewN nq = w1 at *
        have c6 := HR2.out.1.cells.2.2.2.1
        have f6 := HR2.out.1.cells.2.2.2.2.2 6
        have HR3 : Hid (LowR S B b lim d st made sl (k + 1) w (w1.setCell ⟨b, 6, none⟩ (.int .i64 ((k : Int) + 1)))) := by
          have h1 := HR2.out.1.setLow ((k : Int) + 1)
          refine Lib.hid ⟨by simpa using h1.1, HR2.out.2.1.same h1.2, ?_⟩
          intro j y hj hy
          by_cases e : j = k
          · subst e
            have := HX.out.symm.trans hy
            cases this
            exact HXU.out
          · exact HU.out j y (by omega) hy
        go_wp2_with fail
        go_roundg (sl.length - (k + 1))
        case rel => exact ⟨k + 1, by omega, rfl, HR3⟩
        case measure => have := HGK.out; omega
      | false =>
        rw [hxu] at k1
        have HXU := Lib.hid hxu
        clear hxu
        go_wp2_with fail
        go_quiet (fail)
        have HR2 := Lib.hid (hR.out.drewN nq)
        clear c4 c6 f6 k1 hR
        generalize wr.drewN nq = w1 at *
        have c6 := HR2.out.1.cells.2.2.2.1
        go_wp2_with fail
        go_ret
        exact ⟨k, rfl, ⟨hk, HU.out, fun _ => ⟨x, HX.out, HXU.out⟩⟩, HR2.out⟩
    · have hd : decide (k < sl.length) = false := decide_eq_false hlt
      have HU := Lib.hid hu
      clear hc ho hu
      go_wp2_with fail
      go_quiet (fail)
      have HR2 := Lib.hid (hR.out.drewN nq)
      clear c4 c6 f6 hR
      generalize wr.drewN nq = w1 at *
      have c6 := HR2.out.1.cells.2.2.2.1
      go_wp2_with fail
      go_ret
      exact ⟨k, rfl, ⟨hk, HU.out, fun h => absurd h hlt⟩, HR2.out⟩

theorem Tbl.setMade {low : Int} (h : Tbl S B b lim d st low made sl w) (x : Int) : Tbl S B b lim d st low x sl (w.setCell ⟨b, 7, none⟩ (.int .i64 x)) ∧ Only (· = b) w (w.setCell ⟨b, 7, none⟩ (.int .i64 x)) := by
  obtain ⟨ao, cap, m, h⟩ := h
  have ho : Only (· = b) w (w.setCell ⟨b, 7, none⟩ (.int .i64 x)) := Only.setCell (S := (· = b)) _ (p := ⟨b, 7, none⟩) rfl _
  exact ⟨⟨ao, cap, m, h.turned ho (by simpa using blk_set h.blk 7 (.int .i64 x))⟩, ho⟩
theorem putS_get {k i : Nat} {n : ByteArray} {x : ASlot} (h : i < k) (hk : k ≤ sl.length) : (putS sl k n)[i]? = sl[i]? := by
  unfold putS
  split
  · rw [List.getElem?_set_ne (by omega)]
  · rw [List.getElem?_append_left (by omega)]
theorem AllUsed.put {k : Nat} {n : ByteArray} (h : AllUsed sl k) (hk : k ≤ sl.length) : AllUsed (putS sl k n) k := fun j x hj hx => by
  rw [putS_get (x := x) hj hk] at hx
  exact h j x hj hx
theorem putS_len {k : Nat} {n : ByteArray} : sl.length ≤ (putS sl k n).length := by
  unfold putS
  split <;> simp
theorem AllUsed.full {k : Nat} {lim made : Int} (h : Tbl S B b lim 1 0 (k : Int) made sl w) (hk : k ≤ sl.length) (hu : AllUsed sl k) : Full S B b lim made sl w :=
  ⟨k, h, by omega, by omega, fun j x hj hx => hu j x (by omega) hx⟩

set_option maxRecDepth 100000 in
theorem intern_long (n : ByteArray) (h : Tab S B b lim made sl w) (hL : Listed w) (hl : 15 ≤ lim) (hgl : ¬ S 0) (hn : 64 < n.size) :
    Calls Tryd.prog 33 #[.pointer (some ⟨b, 0, none⟩), .string n] w fun e w' => e = .returned (.tuple #[.int .i64 0, .int .i64 3]) ∧ Kept S B b lim made sl w w' := by
  have hnot := run_not
  have HR := Lib.hid (ready_any h hL hl hgl)
  clear h hL
  go_enter Tryd.func33, Tryd.ntmps33
  go_wp2_with fail
  refine HR.out.mono ?_
  rintro e w1 ⟨rfl, h1, o1⟩
  have HK : Hid (Kept S B b lim made sl w w1) := ⟨h1, o1⟩
  clear h1 o1
  go_wp2_with fail
  go_ret2
  exact ⟨rfl, HK.out⟩
set_option maxRecDepth 100000 in
theorem intern_old (n : ByteArray) (j : Nat) (h : Tab S B b lim made sl w) (hL : Listed w) (hl : 15 ≤ lim) (hgl : ¬ S 0) (hj : idOf sl n j) (hn : n.size ≤ 64) :
    Calls Tryd.prog 33 #[.pointer (some ⟨b, 0, none⟩), .string n] w fun e w' => e = .returned (.tuple #[.int .i64 j, .int .i64 0]) ∧ Kept S B b lim made sl w w' := by
  have hnot := run_not
  have HR := Lib.hid (ready_any h hL hl hgl)
  have HJ := Lib.hid hj
  have hkey := keyOfN hn
  clear h hL hj
  go_enter Tryd.func33, Tryd.ntmps33
  go_wp2_with fail
  refine HR.out.mono ?_
  rintro e w1 ⟨rfl, h1, o1⟩
  have HK : Hid (Kept S B b lim made sl w w1) := ⟨h1, o1⟩
  obtain ⟨low, ⟨ao, cap, m, hc⟩, _⟩ := h1
  have c5 := cell_of_blk hc.blk 5
  simp at c5
  obtain ⟨D, hD, hM⟩ := hc.map
  have hhas := hM.has_yes HJ.out
  have HAT := Lib.hid (hM.at_yes hc.apart HJ.out (.lit (.int .i64 0)))
  have HD := Lib.hid hD
  clear hc hM o1 hD
  go_wp2_with (first
    | (at_lookup; refine wpList_lookup_own_ok_int _ rfl _ _ 67 rfl 9 3 .i64 keyed Tryd.underlying67 Tryd.underlying3 (zeroI _) m (used sl) D rfl HD.out _ _ rfl hkey ?_; intro c hat hwc; obtain rfl : c = (j : Int) := idD_int (HAT.out.symm.trans hat); clear hat hwc)
    | fail)
  go_ret2
  exact ⟨rfl, HK.out⟩
/-- What Intern does with a name that is not there. -/
def Interned (S : Nat → Prop) (B b : Nat) (lim made : Int) (sl : List ASlot) (n : ByteArray) (w : World) (e : Ending) (w' : World) : Prop :=
  ∃ k, Lowest sl k ∧ ((lim ≤ (k : Int) ∧ e = .returned (.tuple #[.int .i64 0, .int .i64 2]) ∧ Kept S B b lim made sl w w') ∨ ((k : Int) < lim ∧ e = .returned (.tuple #[.int .i64 k, .int .i64 0]) ∧ Kept S B b lim (made + 1) (putS sl k n) w w'))
set_option maxRecDepth 100000 in
set_option maxHeartbeats 1600000 in
theorem intern_new (n : ByteArray) (h : Tab S B b lim made sl w) (hL : Listed w) (hl : 15 ≤ lim) (hl2 : lim ≤ 16384) (hgl : ¬ S 0) (hj : noId sl n) (hn : n.size ≤ 64) (hm0 : 0 ≤ made) (hm1 : made ≤ 4294967296) :
    Calls Tryd.prog 33 #[.pointer (some ⟨b, 0, none⟩), .string n] w (Interned S B b lim made sl n w) := by
  have hnot := run_not
  have HB := Lib.hid h.bound
  have HR := Lib.hid (ready_any h hL hl hgl)
  have HJ := Lib.hid hj
  have hkey := keyOfN hn
  clear h hL hj
  go_enter Tryd.func33, Tryd.ntmps33
  go_wp2_with fail
  refine HR.out.mono ?_
  rintro e w1 ⟨rfl, h1, o1⟩
  have O1 := Lib.hid o1
  obtain ⟨low, h1', hlow⟩ := h1
  have H1 := Lib.hid h1'
  have HW := Lib.hid hlow
  obtain ⟨ao, cap, m, hc⟩ := h1'
  have c5 := cell_of_blk hc.blk 5
  simp at c5
  have hfew := hc.few
  obtain ⟨D, hD, hM⟩ := hc.map
  have hhas := hM.has_no HJ.out
  have HAT := Lib.hid (hM.at_no HJ.out (.lit (.int .i64 0)))
  have HD := Lib.hid hD
  clear hc hM o1 hD hlow
  go_wp2_with (first
    | (at_lookup; refine wpList_lookup_own_ok_int _ rfl _ _ 67 rfl 9 3 .i64 keyed Tryd.underlying67 Tryd.underlying3 (zeroI _) m (used sl) D rfl HD.out _ _ rfl hkey ?_; intro c hat hwc; obtain rfl : c = 0 := by { have := HAT.out.symm.trans hat; simp only [DataW.lit.injEq, Lit.int.injEq, true_and] at this; exact this.symm }; clear hat hwc)
    | fail)
  obtain ⟨l, hl0⟩ := Int.eq_ofNat_of_zero_le HW.out.1
  subst hl0
  refine (lowest_any l H1.out (by have := HW.out.2.1; omega) (fun j x hj hx => HW.out.2.2 j x (by omega) hx)).mono ?_
  rintro e w2 ⟨k, rfl, hk, h2, o2, hu2⟩
  have HK := Lib.hid hk
  have c0 := h2.cells.1
  have hkl := hk.1
  have O2 := Lib.hid (o2.mono (fun j _ e => (by subst e; exact H1.out.bound.2.2.1 : (Grew S w w1) j)))
  have H2 := Lib.hid h2
  have HU := Lib.hid hu2
  clear hk h2 o2 hu2 c5
  have HO2 : Hid (Only S w w2) := Lib.hid (O1.out.next O2.out)
  by_cases hkl2 : lim ≤ (k : Int)
  · go_wp2_with fail
    go_ret2
    refine ⟨k, HK.out, .inl ⟨hkl2, rfl, AllUsed.full (H2.out.wider ?_ ?_) hkl HU.out, HO2.out⟩⟩
    · rintro j (hj | hj)
      · exact .inl hj
      · exact .inr ⟨hj.1, by have := O2.out.size; omega⟩
    · rintro j (hj | hj)
      · have := HB.out.2.2.2 j hj; have := HO2.out.size; omega
      · have := HB.out.2.1; have := HB.out.1; omega
  · go_wp2_with fail
    refine (clone_any n _ hn).mono ?_
    rintro e w3 ⟨rfl, b3⟩
    have o3 := Only.of_below b3 (fun _ => False)
    have H3 := Lib.hid (H2.out.only o3 (fun _ _ e => e))
    have O3 := Lib.hid o3
    clear b3 o3
    have hop : Open sl k := by
      by_cases e : k < sl.length
      · exact .inr (HK.out.2.2 e)
      · exact .inl ⟨by omega, by omega⟩
    have HOP := Lib.hid hop
    clear hop
    go_wp2_with fail
    refine (put_any n k H3.out HOP.out HJ.out hn).mono ?_
    rintro e w4 ⟨rfl, h4, o4⟩
    have C7 := Lib.hid h4.cells.2.2.2.2.1
    have F7 := Lib.hid (h4.cells.2.2.2.2.2 7)
    have H4 := Lib.hid h4
    have O4 := Lib.hid o4
    clear h4 o4
    go_wp2_with fail
    refine (add64 ⟨b, 7, none⟩ made 1 w4 C7.out F7.out hm0 hm1).mono ?_
    rintro e w5 ⟨rfl, h5⟩
    have H5 := Lib.hid (show Kept S B b lim (made + 1) (putS sl k n) w w5 by
      have hset := H4.out.setMade (made + 1)
      rw [← h5] at hset
      have o5 : Only (Grew S w w1) w4 w5 := hset.2.mono (fun j _ e => by subst e; exact H1.out.bound.2.2.1)
      have s1 := O1.out.size; have s2 := O2.out.size; have s3 := O3.out.size; have s4 := O4.out.size; have s5 := o5.size
      have ho : Only S w w5 := O1.out.next (((O2.out.same (O3.out.no _)).same O4.out).same o5)
      refine ⟨AllUsed.full (hset.1.wider ?_ ?_) (Nat.le_trans hkl putS_len) (HU.out.put hkl), ho⟩
      · rintro j ((hj | hj) | hj)
        · exact .inl hj
        · exact .inr ⟨hj.1, by omega⟩
        · exact .inr ⟨by omega, by omega⟩
      · rintro j (hj | hj)
        · have := HB.out.2.2.2 j hj; omega
        · have := HB.out.2.1; have := HB.out.1; omega)
    clear h5
    go_wp2_with fail
    go_ret2
    exact ⟨k, HK.out, .inr ⟨by omega, rfl, H5.out⟩⟩
end
end Go.Proofs.YtoppfhbpmmepaaaDoor.atoms
