/- Functors: Find. -/
import Derived.Test.YtoppfhbpmmepaaaDoorFunc6
namespace Go.Proofs.YtoppfhbpmmepaaaDoor.functors
open Go.RowKit Go.Proofs.YtoppfhbpmmepaaaDoor.own Go.Maps
variable {SA SF : Nat → Prop} {ta b : Nat} {la made made' lim : Int} {al al' : List atoms.ASlot} {sl : List FSlot} {w0 w w' : World} {low : Nat}
/-- Where that functor is. -/
def fidF (sl : List FSlot) (a n : Int) : Option Nat := sl.findIdx? (fun x => x.used && (a == x.name.a && n == x.name.n))
theorem fidF_some {a n : Int} {j : Nat} (h : fidF sl a n = some j) : ∃ x, sl[j]? = some x ∧ x.used = true ∧ a = x.name.a ∧ n = x.name.n := by
  unfold fidF at h
  obtain ⟨hl, hp, _⟩ := List.findIdx?_eq_some_iff_getElem.1 h
  simp only [Bool.and_eq_true, beq_iff_eq] at hp
  exact ⟨_, List.getElem?_eq_getElem hl, hp.1, hp.2.1, hp.2.2⟩
theorem fidF_none {a n : Int} (h : fidF sl a n = none) : noI sl a n := by
  intro j x hx hu e
  unfold fidF at h
  rw [List.findIdx?_eq_none_iff] at h
  have := h x (List.mem_of_getElem? hx)
  simp [hu, e.1, e.2] at this
theorem findI_small (h : atoms.Good la al) (n : ByteArray) : 0 ≤ atoms.findI al n ∧ atoms.findI al n < 65536 := by
  unfold atoms.findI
  cases hf : atoms.findF al n with
  | none => simp
  | some j =>
    have hj := atoms.idOf_lt (atoms.findF_some hf)
    have := h.cap
    have := h.hi
    simp only [Option.getD_some]
    omega
theorem wfI {a : Int} (h : 0 ≤ a ∧ a < 65536) : (Lit.int .i64 a).wf = true := by
  obtain ⟨j, rfl⟩ := Int.eq_ofNat_of_zero_le h.1
  exact wfN (by omega)
/-- What Find answers. -/
def fres (al : List atoms.ASlot) (sl : List FSlot) (n : ByteArray) (k : Int) : Int × Bool := if atoms.findB al n = true then (match fidF sl (atoms.findI al n) k with | some j => ((j : Int), true) | none => (0, false)) else (0, false)
set_option maxRecDepth 100000 in
set_option maxHeartbeats 1000000 in
theorem find_any (n : ByteArray) (k : Int) (h : FSt SA SF ta b la made al lim low sl w0 w) (hn : n.size ≤ maxLen) (hk : (Lit.int .i64 k).wf = true) (r : Int × Bool) (hr : fres al sl n k = r) :
    Calls Tryd.prog 24 #[.pointer (some ⟨b, 0, none⟩), .string n, .int .i64 k] w fun e w' => e = .returned (.tuple #[.int .i64 r.1, .bool r.2]) ∧ FSt (Grew SA w w') SF ta b la made al lim low sl w0 w' ∧ Only SA w w' := by
  have hnot := Go.Proofs.YtoppfhbpmmepaaaDoor.atoms.run_not
  obtain ⟨ao, cap, m, hc⟩ := h.fn
  have HC := Lib.hid (closed_no hc)
  have HF := Lib.hid (atoms.st_find n h.at_ hn)
  have H := Lib.hid h
  have c1 := cell_of_blk hc.blk 1
  simp only [List.getElem?_toArray, List.getElem?_cons_succ, List.getElem?_cons_zero] at c1
  have HC0 := Lib.hid hc
  have hsm := findI_small h.at_.good n
  unfold fres at hr
  clear h hc
  go_enter Tryd.func24, Tryd.ntmps24
  go_wp2_with fail
  refine HC.out.mono ?_
  rintro e w1 ⟨rfl, rfl⟩
  go_wp2_with fail
  refine HF.out.mono ?_
  rintro e w1 ⟨rfl, hst, ho⟩
  have HW := Lib.hid (H.out.atoms hst ho)
  have HO := Lib.hid ho
  have hc1 := HC0.out.only ho H.out.apart
  clear hst ho c1
  cases hb : atoms.findB al n with
  | false =>
    clear hc1
    rw [hb] at hr
    obtain rfl : (0, false) = r := hr
    go_wp2_with fail
    all_goals (go_ret2; exact ⟨rfl, HW.out, HO.out⟩)
  | true =>
    rw [hb, if_pos rfl] at hr
    generalize atoms.findI al n = a at *
    have hwa := wfI hsm
    have hkey := keyOfI hwa hk
    have c3 := cell_of_blk hc1.blk 3
    simp only [List.getElem?_toArray, List.getElem?_cons_succ, List.getElem?_cons_zero] at c3
    obtain ⟨D, hD, hM⟩ := hc1.map
    have HD := Lib.hid hD
    cases hf : fidF sl a k with
    | some j =>
      rw [hf] at hr
      obtain rfl : ((j : Int), true) = r := hr
      obtain ⟨x, hx, hu, rfl, rfl⟩ := fidF_some hf
      have hid : idOf sl x.name j := ⟨x, hx, hu, rfl⟩
      have hhas := hM.has_yes hid
      rw [← keyI_N] at hhas
      have HAT := Lib.hid (hM.at_yes hc1.apart hid (.lit (.int .i64 0)))
      rw [← keyI_N] at HAT
      clear hc1 hD hM hf hid hx hu
      go_wp2_with (first
        | (at_lookup; refine wpList_lookup_own_ok_int _ rfl _ _ 80 rfl 90 3 .i64 keyedF Tryd.underlying80 Tryd.underlying3 (zeroI _) m (used sl) D rfl HD.out _ _ rfl hkey ?_; intro c hat hwc; obtain rfl : c = (j : Int) := by { have := HAT.out.symm.trans hat; simp only [idD, DataW.lit.injEq, Lit.int.injEq, true_and] at this; exact this.symm }; clear hat hwc)
        | fail)
      go_ret2
      exact ⟨rfl, HW.out, HO.out⟩
    | none =>
      rw [hf] at hr
      obtain rfl : (0, false) = r := hr
      have hhas := hM.has_noI hwa hk (fidF_none hf)
      have HAT := Lib.hid (hM.at_noI hwa hk (fidF_none hf) (.lit (.int .i64 0)))
      clear hc1 hD hM hf
      go_wp2_with (first
        | (at_lookup; refine wpList_lookup_own_ok_int _ rfl _ _ 80 rfl 90 3 .i64 keyedF Tryd.underlying80 Tryd.underlying3 (zeroI _) m (used sl) D rfl HD.out _ _ rfl hkey ?_; intro c hat hwc; obtain rfl : c = 0 := by { have := HAT.out.symm.trans hat; simp only [DataW.lit.injEq, Lit.int.injEq, true_and] at this; exact this.symm }; clear hat hwc)
        | fail)
      go_ret2
      exact ⟨rfl, HW.out, HO.out⟩
end Go.Proofs.YtoppfhbpmmepaaaDoor.functors
