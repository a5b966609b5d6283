/- Both tables, call by call. -/
import Derived.Test.YtfhijcdibigblaaDoorAtomRef2
import Derived.StillTailTactics
namespace Go.Proofs.YtfhijcdibigblaaDoor.atoms
open Go.RowKit Go.Proofs.YtfhijcdibigblaaDoor.own Go.Maps

/-- The program's table and the document's, alike. -/
structure Pair (S R : Nat → Prop) (b c : Nat) (lim made : Int) (sl : List ASlot) (w0 w : World) : Prop where
  st : St S b lim made sl w0 w
  rt : RTbl R w0.heap.size c lim made sl w
  dis : ∀ k, S k → ¬ R k
  hgr : ¬ R 0
section
variable {S R : Nat → Prop} {b c : Nat} {lim made made' : Int} {sl sl' : List ASlot} {w0 w w' : World}
theorem Pair.first (h : Pair S R b c lim made sl w0 w) (ht : St (Grew S w w') b lim made sl w0 w') (ho : Only S w w') : Pair (Grew S w w') R b c lim made sl w0 w' := by
  refine ⟨ht, h.rt.only ho (fun k hk hs => h.dis k hs hk), ?_, h.hgr⟩
  rintro k (hk | hk) hr
  · exact h.dis k hk hr
  · have := h.rt.bound.2.2.2 k hr; omega
/-- The program's table has gone ahead: the document's follows. -/
theorem Pair.both {w2 : World} (h : Pair S R b c lim made sl w0 w) (ht : St (Grew S w w') b lim made' sl' w0 w') (ho : Only S w w') (hr : RTbl (Grew R w' w2) w0.heap.size c lim made' sl' w2) (ho2 : Only R w' w2) : Pair (Grew S w w') (Grew R w' w2) b c lim made' sl' w0 w2 := by
  have hd : ∀ k, Grew S w w' k → ¬ R k := by
    rintro k (hk | hk) hr
    · exact h.dis k hk hr
    · have := h.rt.bound.2.2.2 k hr; omega
  have hb : Below w0.heap.size w' w2 := ho2.below ht.below.size (fun k _ e => (h.rt.bound.2.2.2 k e).1)
  refine ⟨ht.still ho2 hd h.hgr hb, hr, ?_, ?_⟩
  · rintro k hk (e | e)
    · exact hd k hk e
    · have := ht.tab.bound.2.2.2 k hk; omega
  · rintro (e | e)
    · exact h.hgr e
    · have := ht.listed.lt; omega
theorem Pair.still (h : Pair S R b c lim made sl w0 w) (ho : Only (fun _ => False) w w') : Pair S R b c lim made sl w0 w' :=
  ⟨h.st.still ho (fun _ _ e => e) (fun e => e) (ho.below h.st.below.size (fun _ _ e => e.elim)), h.rt.only ho (fun _ _ e => e), h.dis, h.hgr⟩
theorem Pair.after (h : Pair S R b c lim made sl w0 w) (ho : Only S w w') : RTbl R w0.heap.size c lim made sl w' := h.rt.only ho (fun k hk hs => h.dis k hs hk)

/-- The box of the law's argument. -/
structure Box (S R : Nat → Prop) (bx : Nat) (k : Int) (n : ByteArray) (x : Int) (w : World) : Prop where
  c0 : w.cell? ⟨bx, 0, none⟩ = some (.int .i64 k)
  c1 : w.cell? ⟨bx, 1, none⟩ = some (.string n)
  c2 : w.cell? ⟨bx, 2, none⟩ = some (.int .i64 x)
  ns : ¬ S bx
  nr : ¬ R bx
theorem Box.stepS {bx : Nat} {k : Int} {n : ByteArray} {x : Int} (h : Box S R bx k n x w) (ho : Only S w w') : Box (Grew S w w') R bx k n x w' := by
  have hl := lt_of_cell? h.c0
  simp only at hl
  refine ⟨(ho.cell (p := ⟨bx, 0, none⟩) hl h.ns).trans h.c0, (ho.cell (p := ⟨bx, 1, none⟩) hl h.ns).trans h.c1, (ho.cell (p := ⟨bx, 2, none⟩) hl h.ns).trans h.c2, ?_, h.nr⟩
  rintro (e | e)
  · exact h.ns e
  · omega
theorem Pair.box (h : Pair S R b c lim made sl w0 w) (k : Int) (n : ByteArray) (x : Int) : Pair S R b c lim made sl w0 (w.alloc (.cells #[.int .i64 k, .string n, .int .i64 x] 31)) ∧ Box S R w.heap.size k n x (w.alloc (.cells #[.int .i64 k, .string n, .int .i64 x] 31)) := by
  refine ⟨h.still (Only.alloc _ _ _), ⟨by simp, by simp, by simp, fun e => ?_, fun e => ?_⟩⟩
  · have := h.st.tab.bound.2.2.2 _ e; omega
  · have := h.rt.bound.2.2.2 _ e; omega

/-- What a call leaves of both. -/
def PairE (b c : Nat) (lim made : Int) (sl : List ASlot) (w0 w : World) : Prop := ∃ S R, Pair S R b c lim made sl w0 w

set_option maxRecDepth 100000 in
set_option maxHeartbeats 2000000 in
theorem do1 (n : ByteArray) (x : Int) (h : Pair S R b c lim made sl w0 w) (hn : n.size ≤ maxLen) (hm0 : 0 ≤ made) (hm1 : made ≤ 4294967296) :
    Calls Tryd.prog 11 #[.pointer (some ⟨b, 0, none⟩), .pointer (some ⟨c, 0, none⟩), .agg #[.int .i64 1, .string n, .int .i64 x]] w fun e w' => e = .returned (.bool true) ∧ PairE b c lim (internF lim made sl n).made (internF lim made sl n).sl w0 w' := by
  have HP := Lib.hid (h.box 1 n x)
  have hcap := h.st.good.cap
  have hlo := h.st.good.lo
  have hhi := h.st.good.hi
  clear h
  go_enter Tryd.func11, Tryd.ntmps11
  generalize hr : internF lim made sl n = r at *
  have HR := Lib.hid hr
  clear hr
  have k0 := HP.out.2.c0
  have k1 := HP.out.2.c1
  go_wp2_with fail
  refine (st_intern n HP.out.1.st hm0 hm1 r HR.out).mono ?_
  rintro e w2 ⟨rfl, t2, o2⟩
  have HT := Lib.hid t2
  have HO := Lib.hid o2
  have k1 := (HP.out.2.stepS o2).c1
  clear t2 o2
  go_wp2_with fail
  refine (rintern_any n (HP.out.1.after HO.out) hn hlo hhi hm0 hm1 hcap).mono ?_
  rintro e w3 ⟨rfl, t3, o3⟩
  rw [HR.out] at t3 ⊢
  have HF : Hid (PairE b c lim r.made r.sl w0 w3) := Lib.hid ⟨_, _, HP.out.1.both HT.out HO.out t3 o3⟩
  clear t3 o3
  go_wp2_with fail
  go_ret
  exact ⟨rfl, HF.out⟩

set_option maxRecDepth 100000 in
set_option maxHeartbeats 2000000 in
theorem do2 (n : ByteArray) (x : Int) (h : Pair S R b c lim made sl w0 w) (hn : n.size ≤ maxLen) :
    Calls Tryd.prog 11 #[.pointer (some ⟨b, 0, none⟩), .pointer (some ⟨c, 0, none⟩), .agg #[.int .i64 2, .string n, .int .i64 x]] w fun e w' => e = .returned (.bool true) ∧ PairE b c lim made sl w0 w' := by
  have HP := Lib.hid (h.box 2 n x)
  have hnot := run_not
  clear h
  cases hf : findF sl n with
  | some j =>
    have h1 : Hid (findI sl n = (j : Int) ∧ findB sl n = true ∧ findR sl n = (j : Int)) := by
      refine Lib.hid ?_
      unfold findI findB findR
      rw [hf]
      exact ⟨rfl, rfl, rfl⟩
    clear hf
    go_enter Tryd.func11, Tryd.ntmps11
    have k0 := HP.out.2.c0
    have k1 := HP.out.2.c1
    go_wp2_with fail
    refine (st_find n HP.out.1.st hn).mono ?_
    rintro e w2 ⟨rfl, t2, o2⟩
    rw [h1.out.1, h1.out.2.1]
    have HP2 := Lib.hid (HP.out.1.first t2 o2)
    have k1 := (HP.out.2.stepS o2).c1
    clear t2 o2
    obtain ⟨ao, cap, hc⟩ := HP2.out.rt
    have HC := Lib.hid hc
    clear hc
    go_wp2_with fail
    refine (rfind_any n HC.out).mono ?_
    rintro e w3 ⟨rfl, rfl⟩
    rw [h1.out.2.2]
    go_wp2_with fail
    go_ret
    exact ⟨rfl, _, _, HP2.out⟩
  | none =>
    have h1 : Hid (findI sl n = 0 ∧ findB sl n = false ∧ findR sl n = -1) := by
      refine Lib.hid ?_
      unfold findI findB findR
      rw [hf]
      exact ⟨rfl, rfl, rfl⟩
    clear hf
    go_enter Tryd.func11, Tryd.ntmps11
    have k0 := HP.out.2.c0
    have k1 := HP.out.2.c1
    go_wp2_with fail
    refine (st_find n HP.out.1.st hn).mono ?_
    rintro e w2 ⟨rfl, t2, o2⟩
    rw [h1.out.1, h1.out.2.1]
    have HP2 := Lib.hid (HP.out.1.first t2 o2)
    have k1 := (HP.out.2.stepS o2).c1
    clear t2 o2
    obtain ⟨ao, cap, hc⟩ := HP2.out.rt
    have HC := Lib.hid hc
    clear hc
    go_wp2_with fail
    refine (rfind_any n HC.out).mono ?_
    rintro e w3 ⟨rfl, rfl⟩
    rw [h1.out.2.2]
    go_wp2_with fail
    go_ret
    exact ⟨rfl, _, _, HP2.out⟩

theorem hasS_some {i : Int} {y : ASlot} (h : slotAt sl i = some y) : hasS sl i = true := by
  obtain ⟨h0, h1, h2⟩ := slotAt_some h
  simp [hasS, h0, h1, h2]

set_option maxRecDepth 100000 in
set_option maxHeartbeats 2000000 in
theorem do3 (n : ByteArray) (x : Int) (h : Pair S R b c lim made sl w0 w) :
    Calls Tryd.prog 11 #[.pointer (some ⟨b, 0, none⟩), .pointer (some ⟨c, 0, none⟩), .agg #[.int .i64 3, .string n, .int .i64 x]] w fun e w' => e = .returned (.bool true) ∧ PairE b c lim made sl w0 w' := by
  have HP := Lib.hid (h.box 3 n x)
  have hnot := run_not
  clear h
  cases hs : slotAt sl x with
  | some y =>
    have h1 : Hid (nameS sl x = y.name ∧ errS sl x = 0 ∧ hasS sl x = true) := by
      refine Lib.hid ⟨?_, ?_, hasS_some hs⟩
      · unfold nameS; rw [hs]
      · unfold errS; rw [hs]
    obtain ⟨hx0, hx1, hx2⟩ := slotAt_some hs
    obtain ⟨j, rfl⟩ := Int.eq_ofNat_of_zero_le hx0
    rw [Int.toNat_natCast] at hx1
    have HX := Lib.hid hx1
    have hjl := (List.getElem?_eq_some_iff.1 hx1).1
    clear hs hx1 hx2 hx0
    go_enter Tryd.func11, Tryd.ntmps11
    have k0 := HP.out.2.c0
    have k2 := HP.out.2.c2
    go_wp2_with fail
    refine (st_name (j : Int) HP.out.1.st).mono ?_
    rintro e w2 ⟨rfl, t2, o2⟩
    rw [h1.out.1, h1.out.2.1]
    have HP2 := Lib.hid (HP.out.1.first t2 o2)
    have k2 := (HP.out.2.stepS o2).c2
    clear t2 o2
    obtain ⟨ao, cap, hc⟩ := HP2.out.rt
    have HC := Lib.hid hc
    have hfew := hc.few
    have hcap := hc.row.cap_ge
    clear hc
    go_wp2_with fail
    refine (ris_any (j : Int) HC.out).mono ?_
    rintro e w3 ⟨rfl, rfl⟩
    rw [h1.out.2.2]
    obtain ⟨g, rfl, hg, hcell⟩ := HC.out.row.at liesS j y HX.out
    have d0 := (hcell 0 (by omega)).1
    simp only [encS, List.getElem?_cons_zero, Nat.add_zero] at d0
    have e0 := cell_of_blk HC.out.blk 0
    simp at e0
    clear hcell
    go_wp2_with fail
    go_quiet (fail)
    have HP3 := Lib.hid (HP2.out.still (Only.drewN (fun _ => False) _ nq))
    generalize w2.drewN nq = w4 at *
    go_wp2_with fail
    go_ret
    exact ⟨rfl, _, _, HP3.out⟩
  | none =>
    have h1 : Hid (nameS sl x = ⟨#[]⟩ ∧ errS sl x = 4 ∧ hasS sl x = false) := by
      refine Lib.hid ⟨?_, ?_, slotAt_none hs⟩
      · unfold nameS; rw [hs]
      · unfold errS; rw [hs]
    clear hs
    go_enter Tryd.func11, Tryd.ntmps11
    have k0 := HP.out.2.c0
    have k2 := HP.out.2.c2
    go_wp2_with fail
    refine (st_name x HP.out.1.st).mono ?_
    rintro e w2 ⟨rfl, t2, o2⟩
    rw [h1.out.1, h1.out.2.1]
    have HP2 := Lib.hid (HP.out.1.first t2 o2)
    have k2 := (HP.out.2.stepS o2).c2
    clear t2 o2
    obtain ⟨ao, cap, hc⟩ := HP2.out.rt
    have HC := Lib.hid hc
    clear hc
    go_wp2_with fail
    refine (ris_any x HC.out).mono ?_
    rintro e w3 ⟨rfl, rfl⟩
    rw [h1.out.2.2]
    go_wp2_with fail
    go_ret
    exact ⟨rfl, _, _, HP2.out⟩

set_option maxRecDepth 100000 in
set_option maxHeartbeats 2000000 in
theorem do4 (n : ByteArray) (x : Int) (h : Pair S R b c lim made sl w0 w) :
    Calls Tryd.prog 11 #[.pointer (some ⟨b, 0, none⟩), .pointer (some ⟨c, 0, none⟩), .agg #[.int .i64 4, .string n, .int .i64 x]] w fun e w' => e = .returned (.bool true) ∧ PairE b c lim made (markF sl x) w0 w' := by
  have HP := Lib.hid (h.box 4 n x)
  have hnot := run_not
  clear h
  cases hs : slotAt sl x with
  | some y =>
    have h1 : Hid (errS sl x = 0 ∧ hasS sl x = true) := by
      refine Lib.hid ⟨?_, hasS_some hs⟩
      unfold errS; rw [hs]
    obtain ⟨hx0, hx1, hx2⟩ := slotAt_some hs
    have hmf : Hid (markF sl x = sl.set x.toNat ⟨y.name, y.used, true⟩) := by
      refine Lib.hid ?_
      unfold markF; rw [hs]; rfl
    obtain ⟨j, rfl⟩ := Int.eq_ofNat_of_zero_le hx0
    rw [Int.toNat_natCast] at hx1 hmf
    have HX := Lib.hid hx1
    have hjl := (List.getElem?_eq_some_iff.1 hx1).1
    clear hs hx1 hx2 hx0
    go_enter Tryd.func11, Tryd.ntmps11
    have k0 := HP.out.2.c0
    have k2 := HP.out.2.c2
    go_wp2_with fail
    refine (st_mark (j : Int) HP.out.1.st).mono ?_
    rintro e w2 ⟨rfl, t2, o2⟩
    rw [h1.out.1]
    have HT := Lib.hid t2
    have HO := Lib.hid o2
    have HB := Lib.hid (HP.out.2.stepS o2)
    have k2 := (HP.out.2.stepS o2).c2
    clear t2 o2
    obtain ⟨ao, cap, hc⟩ := HP.out.1.after HO.out
    have HC := Lib.hid hc
    have hfew := hc.few
    have hcap := hc.row.cap_ge
    clear hc
    go_wp2_with fail
    refine (ris_any (j : Int) HC.out).mono ?_
    rintro e w3 ⟨rfl, rfl⟩
    rw [h1.out.2]
    obtain ⟨g, rfl, hg, hcell⟩ := HC.out.row.at liesS j y HX.out
    have d2 := (hcell 2 (by omega)).1
    have f2 := (hcell 2 (by omega)).2
    simp only [encS, List.getElem?_cons_zero, List.getElem?_cons_succ] at d2
    have e0 := cell_of_blk HC.out.blk 0
    simp at e0
    clear hcell
    go_wp2_with fail
    go_still_tail 8, (by kernel_rfl)
    change wpList _ _ _ _ _ w2.drew
    have HM := Lib.hid ((HC.out.only (Only.drew (fun _ => False) w2) (fun _ _ e => e)).marked HX.out true)
    have d2' : w2.drew.cell? ⟨g, j * 3 + 2, none⟩ = some (.bool y.mark) := d2
    have f2' : w2.drew.frozen? ⟨g, j * 3 + 2, none⟩ = false := f2
    have HD := Lib.hid (Only.drew (fun _ => False) w2)
    clear d2 f2 e0
    generalize w2.drew = w4 at *
    go_wp2_with fail
    go_ret
    refine ⟨rfl, _, _, HP.out.1.both HT.out HO.out (w2 := w4.setCell ⟨g, j * 3 + 2, none⟩ (.bool true)) ?_ ((HD.out.no R).same HM.out.2)⟩
    rw [hmf.out]
    refine RTbl.wider ⟨_, _, HM.out.1⟩ (fun _ e => .inl e) ?_
    rintro k (hk | hk)
    · exact HM.out.1.lt k hk
    · exact ⟨Nat.le_trans HT.out.below.size hk.1, hk.2⟩
  | none =>
    have h1 : Hid (errS sl x = 4 ∧ hasS sl x = false ∧ markF sl x = sl) := by
      refine Lib.hid ⟨?_, slotAt_none hs, ?_⟩
      · unfold errS; rw [hs]
      · unfold markF; rw [hs]
    clear hs
    go_enter Tryd.func11, Tryd.ntmps11
    have k0 := HP.out.2.c0
    have k2 := HP.out.2.c2
    go_wp2_with fail
    refine (st_mark x HP.out.1.st).mono ?_
    rintro e w2 ⟨rfl, t2, o2⟩
    rw [h1.out.1]
    rw [h1.out.2.2] at t2
    have HP2 := Lib.hid (HP.out.1.first t2 o2)
    have k2 := (HP.out.2.stepS o2).c2
    clear t2 o2
    obtain ⟨ao, cap, hc⟩ := HP2.out.rt
    have HC := Lib.hid hc
    clear hc
    go_wp2_with fail
    refine (ris_any x HC.out).mono ?_
    rintro e w3 ⟨rfl, rfl⟩
    rw [h1.out.2.1]
    go_wp2_with fail
    go_ret
    refine ⟨rfl, ?_⟩
    rw [h1.out.2.2]
    exact ⟨_, _, HP2.out⟩

set_option maxRecDepth 100000 in
set_option maxHeartbeats 2000000 in
theorem do5 (n : ByteArray) (x : Int) (h : Pair S R b c lim made sl w0 w) :
    Calls Tryd.prog 11 #[.pointer (some ⟨b, 0, none⟩), .pointer (some ⟨c, 0, none⟩), .agg #[.int .i64 5, .string n, .int .i64 x]] w fun e w' => e = .returned (.bool true) ∧ PairE b c lim made (sweepTo sl sl.length) w0 w' := by
  have HP := Lib.hid (h.box 5 n x)
  clear h
  go_enter Tryd.func11, Tryd.ntmps11
  have k0 := HP.out.2.c0
  go_wp2_with fail
  refine (st_sweep HP.out.1.st).mono ?_
  rintro e w2 ⟨rfl, t2, o2⟩
  have HT := Lib.hid t2
  have HO := Lib.hid o2
  clear t2 o2
  generalize hgone : (used sl : Int) - (used (sweepTo sl sl.length) : Int) = gone at *
  have HG := Lib.hid hgone
  clear hgone
  go_wp2_with fail
  refine (rsweep_any (HP.out.1.after HO.out)).mono ?_
  rintro e w3 ⟨rfl, t3, o3⟩
  rw [HG.out]
  have HF : Hid (PairE b c lim made (sweepTo sl sl.length) w0 w3) := Lib.hid ⟨_, _, HP.out.1.both HT.out HO.out t3 o3⟩
  clear t3 o3
  go_wp2_with fail
  go_ret
  exact ⟨rfl, HF.out⟩
theorem do0 (k : Int) (n : ByteArray) (x : Int) (h : Pair S R b c lim made sl w0 w) (h1 : k ≠ 1) (h2 : k ≠ 2) (h3 : k ≠ 3) (h4 : k ≠ 4) (h5 : k ≠ 5) :
    Calls Tryd.prog 11 #[.pointer (some ⟨b, 0, none⟩), .pointer (some ⟨c, 0, none⟩), .agg #[.int .i64 k, .string n, .int .i64 x]] w fun e w' => e = .returned (.bool true) ∧ PairE b c lim made sl w0 w' := by
  have HP := Lib.hid (h.box k n x)
  have g1 : (k == 1) = false := by simpa using h1
  have g2 : (k == 2) = false := by simpa using h2
  have g3 : (k == 3) = false := by simpa using h3
  have g4 : (k == 4) = false := by simpa using h4
  have g5 : (k == 5) = false := by simpa using h5
  clear h h1 h2 h3 h4 h5
  go_enter Tryd.func11, Tryd.ntmps11
  have k0 := HP.out.2.c0
  go_wp2_with fail
  go_ret
  exact ⟨rfl, _, _, HP.out.1⟩

/-- What a call makes of the slots. -/
def opSl (lim made : Int) (sl : List ASlot) (o : OpA) : List ASlot := if o.k = 1 then (internF lim made sl o.n).sl else if o.k = 4 then markF sl o.x else if o.k = 5 then sweepTo sl sl.length else sl
def opMade (lim made : Int) (sl : List ASlot) (o : OpA) : Int := if o.k = 1 then (internF lim made sl o.n).made else made
theorem do_any (o : OpA) (h : Pair S R b c lim made sl w0 w) (hn : o.n.size ≤ maxLen) (hm0 : 0 ≤ made) (hm1 : made ≤ 4294967296) :
    Calls Tryd.prog 11 #[.pointer (some ⟨b, 0, none⟩), .pointer (some ⟨c, 0, none⟩), .agg #[.int .i64 o.k, .string o.n, .int .i64 o.x]] w fun e w' => e = .returned (.bool true) ∧ PairE b c lim (opMade lim made sl o) (opSl lim made sl o) w0 w' := by
  obtain ⟨k, n, x⟩ := o
  unfold opMade opSl
  dsimp only
  by_cases h1 : k = 1
  · subst h1; simpa using do1 n x h hn hm0 hm1
  · by_cases h4 : k = 4
    · subst h4; simpa using do4 n x h
    · by_cases h5 : k = 5
      · subst h5; simpa using do5 n x h
      · rw [if_neg h1, if_neg h1, if_neg h4, if_neg h5]
        by_cases h2 : k = 2
        · subst h2; exact do2 n x h hn
        · by_cases h3 : k = 3
          · subst h3; exact do3 n x h
          · exact do0 k n x h h1 h2 h3 h4 h5
end
end Go.Proofs.YtfhijcdibigblaaDoor.atoms
