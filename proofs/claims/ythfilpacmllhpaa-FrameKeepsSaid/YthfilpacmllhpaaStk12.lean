/- Environments and choices: what must come of every program. -/
import Derived.Test.YthfilpacmllhpaaStk11
namespace Go.Proofs.Ythfilpacmllhpaa.stk
set_option maxRecDepth 100000
open Go.RowKit Go.Proofs.Ythfilpacmllhpaa.own
def s1 : St := st0.made 2 3 4
def s2 : St := s1.put 0 1 77
def c3 (ao : Option Addr) (cap : Nat) : Cho := ⟨1, ao, cap, [5], 0, 0, 0, 9, 0, headB s2.cur, s2.top, s2.cur⟩
def s3 (ao : Option Addr) (cap : Nat) : St := { s2 with cs := s2.cs ++ [c3 ao cap] }
def s4 (ao : Option Addr) (cap : Nat) : St := { s3 ao cap with cur := [] }
def s5 (ao : Option Addr) (cap : Nat) : St := (s4 ao cap).made 0 0 0
def s6 (ao : Option Addr) (cap : Nat) : St := { s5 ao cap with cur := (c3 ao cap).fs }
def s7 (ao : Option Addr) (cap : Nat) : St := { s6 ao cap with cs := [] ++ [{ c3 ao cap with n := 8 }] }
def s8 (ao : Option Addr) (cap : Nat) : St := { s7 ao cap with cs := (s7 ao cap).cs.dropLast }
def s9 (ao : Option Addr) (cap : Nat) : St := { s8 ao cap with xs := (s8 ao cap).xs.set (0 + 3) (uw (1 : Nat)), cur := { (⟨0, [0, 77], 3, 4⟩ : Fr) with ys := [0, 77].take 1 } :: [] }
theorem cur1 : s1.cur = [⟨0, [0, 0], 3, 4⟩] := rfl
theorem cur2 : s2.cur = [⟨0, [0, 77], 3, 4⟩] := rfl
theorem top2 : s2.top = 6 := rfl
section
variable {N : Nat} {P : Nat → Prop} {b : Nat} {w w' : World} {ao : Option Addr} {cap : Nat}
theorem l_alloc (h : Has N P b st0 100 3 w) : Calls Try.prog 26 #[.pointer (some ⟨b, 0, none⟩), .int .i64 2, .agg #[.int .i64 3, .int .i64 4]] w fun e w' => e = .returned (.int .i64 0) ∧ Has N P b s1 100 3 w' ∧ Only (Z N P) w w' :=
  has_Alloc h 2 3 4 ⟨by omega, by omega⟩ ⟨by omega, by omega⟩ (by decide) (by decide)
theorem l_set (h : Has N P b s1 100 3 w) : Calls Try.prog 27 #[.pointer (some ⟨b, 0, none⟩), .int .i64 2, .int .u64 77] w fun e w' => e = .returned (.int .i64 0) ∧ Has N P b s2 100 3 w' ∧ Only (Z N P) w w' :=
  has_Set h cur1 1 (by decide) 77
theorem one_cell {W : World} {g : Nat} {x : Int} (hg : W.heap[g]? = some (.cells #[.int .u64 x] 35 (0, 0))) (j : Nat) (u : Value) (hu : (([x] : List Int).flatMap encW)[j]? = some u) : W.cell? ((⟨g, 0, none⟩ : Addr).add j) = some u := by
  match j, hu with
  | 0, hu =>
    have e : u = .int .u64 x := by simpa [encW] using hu.symm
    subst e
    show W.cell? ⟨g, 0, none⟩ = _
    rw [cell_of_blk hg]; rfl
  | j + 1, hu => simp [encW] at hu
theorem l_push (h : Has N P b s2 100 3 w) {g : Nat} (hg : w.heap[g]? = some (.cells #[.int .u64 5] 35 (0, 0))) : Calls Try.prog 13 #[.pointer (some ⟨b, 0, none⟩), .agg #[.int .i64 1, .slice (some ⟨g, 0, none⟩) 1 1, .int .i64 0, .int .i64 0, .int .i64 0, .int .i64 9, .int .i64 0, .int .i64 0, .int .i64 0]] w fun e w' => e = .returned (.int .i64 0) ∧ (∃ ao cap, Has N P b (s3 ao cap) 100 3 w') ∧ Only (Z N P) w w' :=
  has_Push h 1 0 0 0 9 0 0 0 (some ⟨g, 0, none⟩) 1 [5] ⟨fun e => (by cases e), fun ad e j u hu => (by cases e; exact one_cell hg j u hu)⟩ (fun ad e => (by cases e; exact lt_of_block hg)) (by decide) (by decide)
theorem l_leave (h : Has N P b (s3 ao cap) 100 3 w) : Calls Try.prog 20 #[.pointer (some ⟨b, 0, none⟩)] w fun e w' => e = .returned (.tuple #[.agg #[.int .i64 3, .int .i64 4], .int .i64 0]) ∧ Has N P b (s4 ao cap) 100 3 w' ∧ Only (Z N P) w w' :=
  has_Dealloc h (f := ⟨0, [0, 77], 3, 4⟩) (fs := []) rfl
theorem l_alloc2 (h : Has N P b (s4 ao cap) 100 3 w) : Calls Try.prog 26 #[.pointer (some ⟨b, 0, none⟩), .int .i64 0, .agg #[.int .i64 0, .int .i64 0]] w fun e w' => e = .returned (.int .i64 0) ∧ Has N P b (s5 ao cap) 100 3 w' ∧ Only (Z N P) w w' :=
  has_Alloc h 0 0 0 ⟨by omega, by omega⟩ ⟨by omega, by omega⟩ (by decide) (by rw [show (s4 ao cap).top = 6 from rfl]; decide)
theorem l_env (h : Has N P b (s5 ao cap) 100 3 w) : Calls Try.prog 15 #[.pointer (some ⟨b, 0, none⟩)] w fun e w' => e = .returned (.int .i64 6) ∧ w' = w := has_Env h
theorem l_back (h : Has N P b (s5 ao cap) 100 3 w) : Calls Try.prog 18 #[.pointer (some ⟨b, 0, none⟩)] w fun e w' => e = .returned (.int .i64 0) ∧ Has N P b (s6 ao cap) 100 3 w' ∧ Only (Z N P) w w' := has_Restore h (d := c3 ao cap) rfl
theorem l_get (h : Has N P b (s6 ao cap) 100 3 w) : Calls Try.prog 21 #[.pointer (some ⟨b, 0, none⟩), .int .i64 2] w fun e w' => e = .returned (.tuple #[.int .u64 77, .int .i64 0]) ∧ Has N P b (s6 ao cap) 100 3 w' ∧ Only (fun _ => False) w w' :=
  has_Get h (f := ⟨0, [0, 77], 3, 4⟩) (fs := []) rfl 1 (by decide)
theorem l_last (h : Has N P b (s6 ao cap) 100 3 w) : Calls Try.prog 22 #[.pointer (some ⟨b, 0, none⟩)] w fun e w' => ∃ ao' cap', e = .returned (.tuple #[.agg #[.int .i64 1, .slice ao' 1 cap', .int .i64 0, .int .i64 0, .int .i64 0, .int .i64 9, .int .i64 0, .int .i64 0, .int .i64 6], .bool true]) ∧ Has N P b (s6 ao cap) 100 3 w' ∧ Only (fun _ => False) w w' :=
  has_Last h (l := []) (c := c3 ao cap) rfl (by show 1 ≤ 16777216; decide)
theorem l_env0 (h : Has N P b (s6 ao cap) 100 3 w) : Calls Try.prog 15 #[.pointer (some ⟨b, 0, none⟩)] w fun e w' => e = .returned (.int .i64 0) ∧ w' = w := has_Env h
theorem l_slots (h : Has N P b (s6 ao cap) 100 3 w) : Calls Try.prog 29 #[.pointer (some ⟨b, 0, none⟩)] w fun e w' => e = .returned (.int .i64 2) ∧ w' = w := has_Slots h
theorem l_trim (h : Has N P b (s6 ao cap) 100 3 w) : Calls Try.prog 28 #[.pointer (some ⟨b, 0, none⟩), .int .i64 1] w fun e w' => e = .returned (.bool false) ∧ Has N P b (s6 ao cap) 100 3 w' ∧ Only (fun _ => False) w w' :=
  has_Trim_no h 1 (.inr ⟨⟨0, [0, 77], 3, 4⟩, [], rfl, .inl (by show 0 < 6; decide)⟩)
theorem l_turn (h : Has N P b (s6 ao cap) 100 3 w) : Calls Try.prog 30 #[.pointer (some ⟨b, 0, none⟩), .int .i64 8] w fun e w' => e = .returned (.int .i64 0) ∧ Has N P b (s7 ao cap) 100 3 w' ∧ Only (Z N P) w w' :=
  has_Turn h (l := []) (d := c3 ao cap) rfl 8
theorem l_drop (h : Has N P b (s7 ao cap) 100 3 w) : Calls Try.prog 17 #[.pointer (some ⟨b, 0, none⟩)] w fun e w' => e = .returned (.int .i64 0) ∧ Has N P b (s8 ao cap) 100 3 w' ∧ Only (Z N P) w w' :=
  has_Drop h (by intro e; cases e)
theorem l_drop2 (h : Has N P b (s8 ao cap) 100 3 w) : Calls Try.prog 17 #[.pointer (some ⟨b, 0, none⟩)] w fun e w' => e = .returned (.int .i64 4) ∧ Has N P b (s8 ao cap) 100 3 w' ∧ Only (fun _ => False) w w' :=
  has_Drop_none h rfl
theorem l_trim2 (h : Has N P b (s8 ao cap) 100 3 w) : Calls Try.prog 28 #[.pointer (some ⟨b, 0, none⟩), .int .i64 1] w fun e w' => e = .returned (.bool true) ∧ Has N P b (s9 ao cap) 100 3 w' ∧ Only (Z N P) w w' :=
  has_Trim h 1 (f := ⟨0, [0, 77], 3, 4⟩) (fs := []) rfl (by show 0 ≤ 0; decide) (by decide)
theorem l_depth (h : Has N P b (s9 ao cap) 100 3 w) : Calls Try.prog 16 #[.pointer (some ⟨b, 0, none⟩)] w fun e w' => e = .returned (.int .i64 0) ∧ w' = w := has_Depth h
theorem l_chain (h : Has N P b (s9 ao cap) 100 3 w) : Calls Try.prog 14 #[.pointer (some ⟨b, 0, none⟩), .int .i64 0] w fun e w' => (∃ lo lc, e = .returned (.slice lo 1 lc)) ∧ Only (fun _ => False) w w' := by
  have := has_Chain h
  refine (show Calls Try.prog 14 #[.pointer (some ⟨b, 0, none⟩), .int .i64 0] w _ from this).mono ?_
  rintro e w' ⟨lo, lc, gs, rfl, _, _, _, ho⟩
  exact ⟨⟨lo, lc, rfl⟩, ho⟩
theorem Only.zed {N : Nat} {P : Nat → Prop} {a b c : World} (h : Only (fun _ => False) a b) (h' : Only (Z N P) b c) (hN : a.heap.size ≤ N) : Only (fun _ => False) a c := cut h h' (fun k e => Nat.le_trans hN e.1)
end
set_option maxHeartbeats 8000000 in
theorem lives_any (w : World) : Calls Try.prog 9 #[] w fun e w' => e = .returned (.bool true) ∧ Only (fun _ => False) w w' := by
  have HNW := Lib.hid (has_New 100 3 w (by decide) (by decide) (by decide) (by decide))
  go_enter Try.func9, Try.ntmps9
  go_wp2_with fail
  refine HNW.out.mono ?_
  rintro e w1 ⟨b, rfl, h1, o1⟩
  have H := Lib.hid h1
  have HO := Lib.hid o1
  clear h1 o1 HNW
  go_wp2_with fail
  refine (l_alloc H.out).mono ?_
  rintro e w2 ⟨rfl, h2, o2⟩
  replace H := Lib.hid h2
  replace HO := Lib.hid (Only.zed HO.out o2 (Nat.le_refl _))
  clear h2 o2
  go_wp2_with fail
  refine (l_set H.out).mono ?_
  rintro e w3 ⟨rfl, h2, o2⟩
  replace H := Lib.hid h2
  replace HO := Lib.hid (Only.zed HO.out o2 (Nat.le_refl _))
  clear h2 o2
  obtain ⟨E, hE⟩ : ∃ E, E = w3.alloc (.cells #[.int .u64 5] 35) := ⟨_, rfl⟩
  have HG : Hid (E.heap[w3.heap.size]? = some (.cells #[.int .u64 5] 35 (0, 0))) := Lib.hid (by rw [hE]; exact heap_alloc_new _ _)
  have oE : Only (fun _ => False) w3 E := by rw [hE]; exact Only.alloc _ _ _
  replace H := Lib.hid (H.out.later oE)
  replace HO := Lib.hid (HO.out.same oE)
  clear oE
  go_wp2_with fail
  rw [← hE]
  clear hE
  refine (l_push H.out HG.out).mono ?_
  rintro e w4 ⟨rfl, ⟨ao, cap, h2⟩, o2⟩
  replace H := Lib.hid h2
  replace HO := Lib.hid (Only.zed HO.out o2 (Nat.le_refl _))
  clear h2 o2 HG
  go_wp2_with fail
  refine (l_leave H.out).mono ?_
  rintro e w5 ⟨rfl, h2, o2⟩
  obtain ⟨W6, hW6⟩ : ∃ E, E = w5.alloc (.cells #[.int .i64 3, .int .i64 4] 32) := ⟨_, rfl⟩
  have HD : Hid (Duo w5.heap.size (.int .i64 3) (.int .i64 4) W6) := Lib.hid ⟨by rw [hW6]; exact heap_alloc_new _ _⟩
  have oE : Only (fun _ => False) w5 W6 := by rw [hW6]; exact Only.alloc _ _ _
  replace HO := Lib.hid ((Only.zed HO.out o2 (Nat.le_refl _)).same oE)
  replace H := Lib.hid (h2.fence oE (· = w5.heap.size) (fun k e => by rw [e]; exact ⟨Nat.le_refl _, HD.out.lt⟩))
  clear h2 o2 oE
  go_upto_region 8 with fail
  rw [← hW6]
  clear hW6
  generalize w5.heap.size = dk at *
  go_wp2_with fail
  refine (l_alloc2 H.out).mono ?_
  rintro e w7 ⟨rfl, h2, o2⟩
  replace H := Lib.hid h2
  replace HO := Lib.hid (Only.zed HO.out o2 (Nat.le_refl _))
  replace HD := Lib.hid (HD.out.only o2 (fun e => e.2 (.inr rfl)))
  clear h2 o2
  go_wp2_with fail
  refine (l_env H.out).mono ?_
  rintro e u ⟨rfl, hu⟩
  obtain rfl : w7 = u := hu.symm
  go_wp2_with fail
  refine (l_back H.out).mono ?_
  rintro e w8 ⟨rfl, h2, o2⟩
  replace H := Lib.hid h2
  replace HO := Lib.hid (Only.zed HO.out o2 (Nat.le_refl _))
  replace HD := Lib.hid (HD.out.only o2 (fun e => e.2 (.inr rfl)))
  clear h2 o2
  go_wp2_with fail
  refine (l_get H.out).mono ?_
  rintro e w9 ⟨rfl, h2, o2⟩
  replace H := Lib.hid h2
  replace HO := Lib.hid (HO.out.same o2)
  replace HD := Lib.hid (HD.out.only o2 (fun e => e))
  clear h2 o2
  go_wp2_with fail
  refine (l_last H.out).mono ?_
  rintro e w10 ⟨a1, p1, rfl, h2, o2⟩
  obtain ⟨W11, hW11⟩ : ∃ E, E = w10.alloc (.cells #[.int .i64 1, .slice a1 1 p1, .int .i64 0, .int .i64 0, .int .i64 0, .int .i64 9, .int .i64 0, .int .i64 0, .int .i64 6] 34) := ⟨_, rfl⟩
  have HK : Hid (Nine w10.heap.size (.int .i64 1) (.slice a1 1 p1) (.int .i64 0) (.int .i64 0) (.int .i64 0) (.int .i64 9) (.int .i64 0) (.int .i64 0) (.int .i64 6) W11) := Lib.hid ⟨by rw [hW11]; exact heap_alloc_new _ _⟩
  have oE : Only (fun _ => False) w10 W11 := by rw [hW11]; exact Only.alloc _ _ _
  replace HO := Lib.hid ((HO.out.same o2).same oE)
  replace H := Lib.hid (h2.fence oE (· = w10.heap.size) (fun k e => by rw [e]; exact ⟨Nat.le_refl _, HK.out.lt⟩))
  replace HD := Lib.hid ((HD.out.only o2 (fun e => e)).only oE (fun e => e))
  clear h2 o2 oE
  go_upto_region 13 with fail
  rw [← hW11]
  clear hW11
  generalize w10.heap.size = kk at *
  obtain ⟨d0, d1⟩ := HD.out.cells
  obtain ⟨k0, k1, k2, k3, k4, k5, k6, k7, k8⟩ := HK.out.cells
  go_wp2_with fail
  refine (New_no2 (-1) 0 _ (by decide) (by decide) (.inl (by decide))).mono ?_
  rintro e u ⟨rfl, hu⟩
  obtain rfl : W11 = u := hu.symm
  go_wp2_with fail
  refine (l_env0 H.out).mono ?_
  rintro e u ⟨rfl, hu⟩
  obtain rfl : W11 = u := hu.symm
  go_wp2_with fail
  refine (l_slots H.out).mono ?_
  rintro e u ⟨rfl, hu⟩
  obtain rfl : W11 = u := hu.symm
  go_wp2_with fail
  refine (l_trim H.out).mono ?_
  rintro e w12 ⟨rfl, h2, o2⟩
  replace H := Lib.hid h2
  replace HO := Lib.hid (HO.out.same o2)
  clear h2 o2
  go_wp2_with fail
  refine (l_turn H.out).mono ?_
  rintro e w13 ⟨rfl, h2, o2⟩
  replace H := Lib.hid h2
  replace HO := Lib.hid (Only.zed HO.out o2 (Nat.le_refl _))
  clear h2 o2
  go_wp2_with fail
  refine (l_drop H.out).mono ?_
  rintro e w14 ⟨rfl, h2, o2⟩
  replace H := Lib.hid h2
  replace HO := Lib.hid (Only.zed HO.out o2 (Nat.le_refl _))
  clear h2 o2
  go_wp2_with fail
  refine (l_drop2 H.out).mono ?_
  rintro e w15 ⟨rfl, h2, o2⟩
  replace H := Lib.hid h2
  replace HO := Lib.hid (HO.out.same o2)
  clear h2 o2
  go_wp2_with fail
  refine (l_trim2 H.out).mono ?_
  rintro e w16 ⟨rfl, h2, o2⟩
  replace H := Lib.hid h2
  replace HO := Lib.hid (Only.zed HO.out o2 (Nat.le_refl _))
  clear h2 o2
  go_wp2_with fail
  refine (l_depth H.out).mono ?_
  rintro e u ⟨rfl, hu⟩
  obtain rfl : w16 = u := hu.symm
  go_wp2_with fail
  refine (l_chain H.out).mono ?_
  rintro e w17 ⟨⟨lo, lc, rfl⟩, o2⟩
  replace HO := Lib.hid (HO.out.same o2)
  clear o2
  go_wp2_with fail
  go_ret
  exact ⟨rfl, HO.out⟩
end Go.Proofs.Ythfilpacmllhpaa.stk
