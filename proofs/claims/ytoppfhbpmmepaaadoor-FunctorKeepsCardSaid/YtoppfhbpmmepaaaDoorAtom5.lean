
/- Name, Marked, Mark, Find; nil tables. -/
import Derived.Test.YtoppfhbpmmepaaaDoorAtom4
namespace Go.Proofs.YtoppfhbpmmepaaaDoor.atoms
open Go.RowKit Go.Proofs.YtoppfhbpmmepaaaDoor.own Go.Maps
section
variable {S : Nat → Prop} {B b : Nat} {lim made : Int} {sl : List ASlot} {w : World}

theorem name_no (i : Int) (h : Tab S B b lim made sl w) (hL : Listed w) (hl : 15 ≤ lim) (hgl : ¬ S 0) (hi : hasS sl i = false) :
    Calls Tryd.prog 41 #[.pointer (some ⟨b, 0, none⟩), .int .i64 i] w fun e w' => e = .returned (.tuple #[.string ⟨#[]⟩, .int .i64 4]) ∧ Kept S B b lim made sl w w' := by
  have hnot := run_not
  have HR := Lib.hid (ready_any h hL hl hgl)
  have HI := Lib.hid hi
  clear h hL hi
  go_enter Tryd.func41, Tryd.ntmps41
  go_wp2_with fail
  refine HR.out.mono ?_
  rintro e w1 ⟨rfl, h1, o1⟩
  have HK : Hid (Kept S B b lim made sl w w1) := ⟨h1, o1⟩
  obtain ⟨low, ⟨ao, cap, m, hc⟩, _⟩ := h1
  have HC := Lib.hid hc
  clear hc o1
  go_wp2_with fail
  refine (has_any i HC.out).mono ?_
  rintro e w2 ⟨rfl, rfl⟩
  rw [HI.out]
  go_wp2_with fail
  go_ret2
  exact ⟨rfl, HK.out⟩
theorem name_yes (j : Nat) (x : ASlot) (h : Tab S B b lim made sl w) (hL : Listed w) (hl : 15 ≤ lim) (hgl : ¬ S 0) (hx : sl[j]? = some x) (hu : x.used = true) :
    Calls Tryd.prog 41 #[.pointer (some ⟨b, 0, none⟩), .int .i64 j] w fun e w' => e = .returned (.tuple #[.string x.name, .int .i64 0]) ∧ Kept S B b lim made sl w w' := by
  have hnot := run_not
  have HR := Lib.hid (ready_any h hL hl hgl)
  have HI := Lib.hid ((hasS_at hx).trans hu)
  have HX := Lib.hid hx
  have hj := (List.getElem?_eq_some_iff.1 hx).1
  clear h hL hx hu
  go_enter Tryd.func41, Tryd.ntmps41
  go_wp2_with fail
  refine HR.out.mono ?_
  rintro e w1 ⟨rfl, h1, o1⟩
  have HK : Hid (Kept S B b lim made sl w w1) := ⟨h1, o1⟩
  obtain ⟨low, ⟨ao, cap, m, hc⟩, _⟩ := h1
  have hfew := hc.few
  have hcap := hc.row.cap_ge
  obtain ⟨g, rfl, hg, hcell⟩ := hc.row.at liesS j x HX.out
  have k0 := (hcell 0 (by omega)).1
  simp only [encS, List.getElem?_cons_zero, Nat.add_zero] at k0
  have c4 := cell_of_blk hc.blk 4
  simp at c4
  have HC := Lib.hid hc
  clear hc o1 hcell
  go_wp2_with fail
  refine (has_any (j : Int) HC.out).mono ?_
  rintro e w2 ⟨rfl, rfl⟩
  rw [HI.out]
  go_wp2_with fail
  go_ret2
  exact ⟨rfl, HK.out⟩

theorem mark_no (i : Int) (h : Tab S B b lim made sl w) (hL : Listed w) (hl : 15 ≤ lim) (hgl : ¬ S 0) (hi : hasS sl i = false) :
    Calls Tryd.prog 40 #[.pointer (some ⟨b, 0, none⟩), .int .i64 i] w fun e w' => e = .returned (.int .i64 4) ∧ Kept S B b lim made sl w w' := by
  have hnot := run_not
  have HR := Lib.hid (ready_any h hL hl hgl)
  have HI := Lib.hid hi
  clear h hL hi
  go_enter Tryd.func40, Tryd.ntmps40
  go_wp2_with fail
  refine HR.out.mono ?_
  rintro e w1 ⟨rfl, h1, o1⟩
  have HK : Hid (Kept S B b lim made sl w w1) := ⟨h1, o1⟩
  obtain ⟨low, ⟨ao, cap, m, hc⟩, _⟩ := h1
  have HC := Lib.hid hc
  clear hc o1
  go_wp2_with fail
  refine (has_any i HC.out).mono ?_
  rintro e w2 ⟨rfl, rfl⟩
  rw [HI.out]
  go_wp2_with fail
  go_ret
  exact ⟨rfl, HK.out⟩

/-- The slot's mark is set. -/
def markS (sl : List ASlot) (j : Nat) (x : ASlot) (m : Bool) : List ASlot := sl.set j ⟨x.name, x.used, m⟩
theorem Core.marked {d st low : Int} {g cap m : Nat} (h : Core S B b lim d st (some ⟨g, 0, none⟩) cap m low made sl w) {j : Nat} {x : ASlot} (hx : sl[j]? = some x) (v : Bool) :
    Core S B b lim d st (some ⟨g, 0, none⟩) cap m low made (markS sl j x v) (w.setCell ⟨g, j * 3 + 2, none⟩ (.bool v)) ∧ Only S w (w.setCell ⟨g, j * 3 + 2, none⟩ (.bool v)) := by
  have hj := (List.getElem?_eq_some_iff.1 hx).1
  obtain ⟨r1, o1⟩ := h.row.stored liesS j 2 x ⟨x.name, x.used, v⟩ (.bool v) hx (by omega) rfl
  obtain ⟨D, h1, h2⟩ := h.map
  have hgb := h.other _ rfl
  refine ⟨⟨?_, r1, ⟨D, ?_, h2.mark hx rfl rfl⟩, ?_, ?_, by unfold markS; rw [List.length_set]; exact h.few, h.own, fun k hk => ⟨(h.lt k hk).1, Nat.lt_of_lt_of_le (h.lt k hk).2 o1.size⟩, h.bm, h.other⟩, o1.mono (fun k _ e => by subst e; exact h.own _ (.inr (.inr ⟨_, rfl, rfl⟩)))⟩
  · have := blk_field h.blk o1 (fun e => hgb.1 e.symm)
    unfold markS
    rw [List.length_set]
    exact this
  · have e : used (markS sl j x v) = used sl := by unfold used markS; rw [prs_mark (y := ⟨x.name, x.used, v⟩) hx rfl rfl]
    rw [e]
    exact map_only h1 o1 (fun e => hgb.2 e.symm)
  · exact h.apart.less hx (fun hu => ⟨hu, rfl⟩)
  · intro i y hy
    unfold markS at hy
    rw [get_set _ hj] at hy
    split at hy
    · cases hy; exact h.names j x hx
    · exact h.names i y hy
theorem mark_yes (j : Nat) (x : ASlot) (h : Tab S B b lim made sl w) (hL : Listed w) (hl : 15 ≤ lim) (hgl : ¬ S 0) (hx : sl[j]? = some x) (hu : x.used = true) :
    Calls Tryd.prog 40 #[.pointer (some ⟨b, 0, none⟩), .int .i64 j] w fun e w' => e = .returned (.int .i64 0) ∧ Kept S B b lim made (markS sl j x true) w w' := by
  have hnot := run_not
  have HR := Lib.hid (ready_any h hL hl hgl)
  have HI := Lib.hid ((hasS_at hx).trans hu)
  have HX := Lib.hid hx
  have hj := (List.getElem?_eq_some_iff.1 hx).1
  clear h hL hx hu
  go_enter Tryd.func40, Tryd.ntmps40
  go_wp2_with fail
  refine HR.out.mono ?_
  rintro e w1 ⟨rfl, h1, o1⟩
  obtain ⟨low, ⟨ao, cap, m, hc⟩, hlow⟩ := h1
  have hfew := hc.few
  have hcap := hc.row.cap_ge
  obtain ⟨g, rfl, hg, hcell⟩ := hc.row.at liesS j x HX.out
  have k0 := (hcell 2 (by omega)).1
  have f0 := (hcell 2 (by omega)).2
  simp only [encS, List.getElem?_cons_zero, List.getElem?_cons_succ, Nat.add_zero] at k0
  have c4 := cell_of_blk hc.blk 4
  simp at c4
  have HK : Hid (Kept S B b lim made (markS sl j x true) w (w1.setCell ⟨g, j * 3 + 2, none⟩ (.bool true))) := by
    obtain ⟨hm1, hm2⟩ := hc.marked HX.out true
    have hsz : (w1.setCell ⟨g, j * 3 + 2, none⟩ (.bool true)).heap.size = w1.heap.size := by simp [World.setCell]
    refine ⟨⟨low, ⟨_, _, _, hm1.wider ?_ ?_⟩, hlow.1, by unfold markS; rw [List.length_set]; exact hlow.2.1, ?_⟩, o1.next hm2⟩
    · intro k hk
      unfold Grew at hk ⊢
      rw [hsz]
      exact hk
    · intro k hk
      unfold Grew at hk
      rw [hsz] at hk ⊢
      exact hc.lt k hk
    · intro i y hi hy
      unfold markS at hy
      rw [get_set _ hj] at hy
      split at hy
      · rename_i e; subst e; cases hy; exact hlow.2.2 i x hi HX.out
      · exact hlow.2.2 i y hi hy
  have HC := Lib.hid hc
  clear hc o1 hcell hlow
  go_wp2_with fail
  refine (has_any (j : Int) HC.out).mono ?_
  rintro e w2 ⟨rfl, rfl⟩
  rw [HI.out]
  go_wp2_with fail
  go_ret
  exact ⟨rfl, HK.out⟩

theorem idD_int {i : Nat} {c : Int} (h : (idD i : D1) = .lit (.int .i64 c)) : c = (i : Int) := by
  simp only [idD, DataW.lit.injEq, Lit.int.injEq, true_and] at h
  exact h.symm
theorem find_yes (n : ByteArray) (j : Nat) (h : Tab S B b lim made sl w) (hL : Listed w) (hl : 15 ≤ lim) (hgl : ¬ S 0) (hj : idOf sl n j) (hn : n.size ≤ maxLen) :
    Calls Tryd.prog 42 #[.pointer (some ⟨b, 0, none⟩), .string n] w fun e w' => e = .returned (.tuple #[.int .i64 j, .bool true]) ∧ Kept S B b lim made sl w w' := by
  have hnot := run_not
  have HR := Lib.hid (ready_any h hL hl hgl)
  have HJ := Lib.hid hj
  have hkey := keyOfM hn
  clear h hL hj hn
  go_enter Tryd.func42, Tryd.ntmps42
  go_wp2_with fail
  refine HR.out.mono ?_
  rintro e w1 ⟨rfl, h1, o1⟩
  have HK : Hid (Kept S B b lim made sl w w1) := ⟨h1, o1⟩
  obtain ⟨low, ⟨ao, cap, m, hc⟩, _⟩ := h1
  have c5 := cell_of_blk hc.blk 5
  simp at c5
  obtain ⟨D, hD, hM⟩ := hc.map
  have hhas := hM.has_yes HJ.out
  have HAT := Lib.hid (hM.at_yes hc.apart HJ.out (.lit (.int .i64 0)))
  have HD := Lib.hid hD
  clear hc hM o1 hD
  go_wp2_with (first
    | (at_lookup; refine wpList_lookup_own_ok_int _ rfl _ _ 67 rfl 9 3 .i64 keyed Tryd.underlying67 Tryd.underlying3 (zeroI _) m (used sl) D rfl HD.out _ _ rfl hkey ?_; intro c hat hwc; obtain rfl : c = (j : Int) := idD_int (HAT.out.symm.trans hat); clear hat hwc)
    | fail)
  go_ret2
  exact ⟨rfl, HK.out⟩
theorem find_no (n : ByteArray) (h : Tab S B b lim made sl w) (hL : Listed w) (hl : 15 ≤ lim) (hgl : ¬ S 0) (hj : noId sl n) (hn : n.size ≤ maxLen) :
    Calls Tryd.prog 42 #[.pointer (some ⟨b, 0, none⟩), .string n] w fun e w' => e = .returned (.tuple #[.int .i64 0, .bool false]) ∧ Kept S B b lim made sl w w' := by
  have hnot := run_not
  have HR := Lib.hid (ready_any h hL hl hgl)
  have HJ := Lib.hid hj
  have hkey := keyOfM hn
  clear h hL hj hn
  go_enter Tryd.func42, Tryd.ntmps42
  go_wp2_with fail
  refine HR.out.mono ?_
  rintro e w1 ⟨rfl, h1, o1⟩
  have HK : Hid (Kept S B b lim made sl w w1) := ⟨h1, o1⟩
  obtain ⟨low, ⟨ao, cap, m, hc⟩, _⟩ := h1
  have c5 := cell_of_blk hc.blk 5
  simp at c5
  obtain ⟨D, hD, hM⟩ := hc.map
  have hhas := hM.has_no HJ.out
  have HAT := Lib.hid (hM.at_no HJ.out (.lit (.int .i64 0)))
  have HD := Lib.hid hD
  clear hc hM o1 hD
  go_wp2_with (first
    | (at_lookup; refine wpList_lookup_own_ok_int _ rfl _ _ 67 rfl 9 3 .i64 keyed Tryd.underlying67 Tryd.underlying3 (zeroI _) m (used sl) D rfl HD.out _ _ rfl hkey ?_; intro c hat hwc; obtain rfl : c = 0 := by { have := HAT.out.symm.trans hat; simp only [DataW.lit.injEq, Lit.int.injEq, true_and] at this; exact this.symm }; clear hat hwc)
    | fail)
  go_ret2
  exact ⟨rfl, HK.out⟩
end

theorem nil_intern (n : ByteArray) (w : World) : Calls Tryd.prog 33 #[.pointer none, .string n] w fun e w' => e = .returned (.tuple #[.int .i64 0, .int .i64 6]) ∧ Below w.heap.size w w' := by
  have hnot := run_not
  go_enter Tryd.func33, Tryd.ntmps33
  go_wp2_with fail
  refine (ready_nil _).mono ?_
  rintro e w1 ⟨rfl, h1⟩
  go_wp2_with fail
  go_ret2
  exact ⟨rfl, h1.to_below⟩
theorem nil_find (n : ByteArray) (w : World) : Calls Tryd.prog 42 #[.pointer none, .string n] w fun e w' => e = .returned (.tuple #[.int .i64 0, .bool false]) ∧ Below w.heap.size w w' := by
  have hnot := run_not
  go_enter Tryd.func42, Tryd.ntmps42
  go_wp2_with fail
  refine (ready_nil _).mono ?_
  rintro e w1 ⟨rfl, h1⟩
  go_wp2_with fail
  go_ret2
  exact ⟨rfl, h1.to_below⟩
theorem nil_name (i : Int) (w : World) : Calls Tryd.prog 41 #[.pointer none, .int .i64 i] w fun e w' => e = .returned (.tuple #[.string ⟨#[]⟩, .int .i64 6]) ∧ Below w.heap.size w w' := by
  have hnot := run_not
  go_enter Tryd.func41, Tryd.ntmps41
  go_wp2_with fail
  refine (ready_nil _).mono ?_
  rintro e w1 ⟨rfl, h1⟩
  go_wp2_with fail
  go_ret2
  exact ⟨rfl, h1.to_below⟩
theorem nil_len (w : World) : Calls Tryd.prog 16 #[.pointer none] w fun e w' => e = .returned (.int .i64 0) ∧ Below w.heap.size w w' := by
  have hnot := run_not
  go_enter Tryd.func16, Tryd.ntmps16
  go_wp2_with fail
  refine (ready_nil _).mono ?_
  rintro e w1 ⟨rfl, h1⟩
  go_wp2_with fail
  go_ret
  exact ⟨rfl, h1.to_below⟩
theorem nil_mark (i : Int) (w : World) : Calls Tryd.prog 40 #[.pointer none, .int .i64 i] w fun e w' => e = .returned (.int .i64 6) ∧ Below w.heap.size w w' := by
  have hnot := run_not
  go_enter Tryd.func40, Tryd.ntmps40
  go_wp2_with fail
  refine (ready_nil _).mono ?_
  rintro e w1 ⟨rfl, h1⟩
  go_wp2_with fail
  go_ret
  exact ⟨rfl, h1.to_below⟩
theorem nil_sweep (w : World) : Calls Tryd.prog 22 #[.pointer none] w fun e w' => e = .returned (.int .i64 0) ∧ Below w.heap.size w w' := by
  have hnot := run_not
  go_enter Tryd.func22, Tryd.ntmps22
  go_wp2_with fail
  refine (ready_nil _).mono ?_
  rintro e w1 ⟨rfl, h1⟩
  go_wp2_with fail
  go_ret
  exact ⟨rfl, h1.to_below⟩
end Go.Proofs.YtoppfhbpmmepaaaDoor.atoms
