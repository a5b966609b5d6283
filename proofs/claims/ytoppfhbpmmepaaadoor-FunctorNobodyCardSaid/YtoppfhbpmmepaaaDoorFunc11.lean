/- Functors: Put of a new one. -/
import Derived.Test.YtoppfhbpmmepaaaDoorFunc10
namespace Go.Proofs.YtoppfhbpmmepaaaDoor.functors
open Go.RowKit Go.Proofs.YtoppfhbpmmepaaaDoor.own Go.Maps
variable {S SA SF : Nat → Prop} {ta b : Nat} {la made made' lim : Int} {al al' : List atoms.ASlot} {sl sl' : List FSlot} {w0 w w' : World} {low low' : Nat} {B : Nat} {ao : Option Addr} {cap m : Nat}
/-- The slots, when the functor was put into slot j. -/
def putS (sl : List FSlot) (j : Nat) (f : FKey) : List FSlot := if j < sl.length then sl.set j ⟨f, true, false⟩ else sl ++ [⟨f, true, false⟩]
theorem put_any (f : FKey) (q : Nat) (h : Core S B b lim ta ao cap m low sl w) (hq : Lowest sl q) (hl : (q : Int) < lim) (hf : 1 ≤ f.n) (hn : noId sl f) :
    Calls Tryd.prog 38 #[.pointer (some ⟨b, 0, none⟩), .int .i64 q, f.val] w fun e w' => e = .returned (.tuple #[]) ∧ Tbl (Grew S w w') B b lim ta low (putS sl q f) w' ∧ Only S w w' := by
  by_cases hlt : q < sl.length
  · obtain ⟨x, hx⟩ : ∃ x, sl[q]? = some x := ⟨_, List.getElem?_eq_getElem hlt⟩
    have hu : x.used = false := (hasS_at hx).symm.trans hq.2.2
    rw [show putS sl q f = sl.set q ⟨f, true, false⟩ from if_pos hlt]
    exact put_at f q x h hx hu hf hn
  · obtain rfl : q = sl.length := by have := hq.1; omega
    rw [show putS sl sl.length f = sl ++ [⟨f, true, false⟩] from if_neg hlt]
    exact put_new f h hl hf hn
theorem Tbl.wider {S' : Nat → Prop} (h : Tbl S B b lim ta low sl w) (hS : ∀ k, S k → S' k) (hlt : ∀ k, S' k → B ≤ k ∧ k < w.heap.size) : Tbl S' B b lim ta low sl w := by
  obtain ⟨ao, cap, m, h⟩ := h
  exact ⟨ao, cap, m, h.wider hS hlt⟩
theorem noI_noId {f : FKey} (h : noI sl f.a f.n) : noId sl f := by
  rintro j ⟨x, hx, hu, rfl⟩
  exact h j x hx hu ⟨rfl, rfl⟩
theorem FSt.moved3 {w1 w3 w4 w5 : World} (h : FSt (Grew SA w w1) SF ta b la made al lim low sl w0 w1) (ho : Only SA w w1) (h2 : Only (fun _ => False) w1 w3) (o4 : Only SF w3 w4) (h5 : Tbl (Grew SF w4 w5) w0.heap.size b lim ta low' sl' w5) (o5 : Only SF w4 w5) : Moved SA SF ta b la made al lim low' sl' w0 w w5 := by
  have hB := h.at_.below.size
  have s1 := ho.size
  have s2 := h2.size
  have s4 := o4.size
  have s5 := o5.size
  have h3 := h.quiet h2 (h2.below hB (fun _ _ e => e.elim))
  have h6 : Tbl (Grew SF w3 w5) w0.heap.size b lim ta low' sl' w5 := h5.wider (fun k hk => by
    rcases hk with hk | hk
    · exact .inl hk
    · exact .inr ⟨by omega, by omega⟩) (fun k hk => by
    rcases hk with hk | hk
    · have := h3.fn.lt hk; omega
    · omega)
  refine ⟨_, _, h3.functors h6 (o4.same o5), ?_, ((ho.mono (fun _ _ e => .inl e)).same (h2.no _)).same ((o4.same o5).mono (fun _ _ e => .inr e))⟩
  rintro k ((hk | hk) | hk | hk)
  · exact .inl (.inl hk)
  · exact .inr ⟨by omega, by omega⟩
  · exact .inl (.inr hk)
  · exact .inr ⟨by omega, by omega⟩
set_option maxRecDepth 100000 in
set_option maxHeartbeats 1600000 in
theorem put_miss (n : ByteArray) (k : Int) (h : FSt SA SF ta b la made al lim low sl w0 w) (hk : 1 ≤ k ∧ k ≤ 16) (hm0 : 0 ≤ made) (hm1 : made ≤ 4294967296) (r : atoms.IRes) (hr : atoms.internF la made al n = r) (he : r.err = 0) (f : FKey) (hid : r.id = f.a) (hkf : k = f.n) (hj : fidF sl r.id k = none) :
    Calls Tryd.prog 18 #[.pointer (some ⟨b, 0, none⟩), .string n, .int .i64 k] w fun e w' => ∃ q, Lowest sl q ∧ ((lim ≤ q ∧ e = .returned (.tuple #[.int .i64 0, .int .i64 2]) ∧ Moved SA SF ta b la r.made r.sl lim q sl w0 w w') ∨ ((q : Int) < lim ∧ e = .returned (.tuple #[.int .i64 q, .int .i64 0]) ∧ Moved SA SF ta b la r.made r.sl lim q (putS sl q f) w0 w w')) := by
  obtain ⟨ao, cap, m, hc⟩ := h.fn
  have HC := Lib.hid (closed_no hc)
  have HI := Lib.hid (atoms.st_intern n h.at_ hm0 hm1 r hr)
  have H := Lib.hid h
  have HC0 := Lib.hid hc
  have c1 := cell_of_blk hc.blk 1
  simp only [List.getElem?_toArray, List.getElem?_cons_succ, List.getElem?_cons_zero] at c1
  have h0 : ¬ k < 1 := by omega
  have h1 : ¬ k > 16 := by omega
  have HN := Lib.hid (noI_noId (f := f) (by rw [← hid, ← hkf]; exact fidF_none hj))
  have HNI := Lib.hid (fidF_none hj)
  have HID := Lib.hid hid
  have HKF := Lib.hid hkf
  have HF1 := Lib.hid (show 1 ≤ f.n by omega)
  clear h hc hk hr hj hid hkf
  go_enter Tryd.func18, Tryd.ntmps18
  go_wp2_with fail
  refine HC.out.mono ?_
  rintro e w1 ⟨rfl, rfl⟩
  go_wp2_with fail
  refine HI.out.mono ?_
  rintro e w1 ⟨rfl, hst, ho⟩
  have HW := Lib.hid (H.out.atoms hst ho)
  have HO := Lib.hid ho
  have HC1 := Lib.hid (HC0.out.only ho H.out.apart)
  clear hst ho c1
  rw [he]
  rw [HID.out] at HNI ⊢
  obtain rfl := HKF.out
  clear HID HKF
  go_wp2_with fail
  have HQ : Hid (Only (fun _ => False) w1 (w1.alloc (.cells #[.int .i64 f.a, .int .i64 f.n] 90))) := Lib.hid (Only.alloc _ _ _)
  have HB : Hid ((w1.alloc (.cells #[.int .i64 f.a, .int .i64 f.n] 90)).heap[w1.heap.size]? = some (.cells #[.int .i64 f.a, .int .i64 f.n] 90 (0, 0))) := Lib.hid (heap_alloc_new w1 _)
  have HBL : Hid (b < w1.heap.size) := Lib.hid HC1.out.low_le.2
  generalize hob : w1.heap.size = ob at *
  generalize w1.alloc (.cells #[.int .i64 f.a, .int .i64 f.n] 90) = w2 at *
  have HC2 := Lib.hid (HC1.out.only HQ.out (fun _ _ e => e))
  have hwa := wfN f.ok.1
  have hwk := wfN f.ok.2
  have hkey := keyOfI hwa hwk
  have c3 := cell_of_blk HC2.out.blk 3
  simp only [List.getElem?_toArray, List.getElem?_cons_succ, List.getElem?_cons_zero] at c3
  have e0 : w2.cell? ⟨ob, 0, none⟩ = some (.int .i64 f.a) := by rw [cell_of_blk HB.out]; rfl
  have e1 : w2.cell? ⟨ob, 1, none⟩ = some (.int .i64 f.n) := by rw [cell_of_blk HB.out]; rfl
  obtain ⟨D, hD, hM⟩ := HC2.out.map
  have HD := Lib.hid hD
  have HH := Lib.hid (hM.has_noI hwa hwk HNI.out)
  have HAT := Lib.hid (hM.at_noI hwa hwk HNI.out (.lit (.int .i64 0)))
  have hlk : ∀ q, (Instr.lookup 80 (.map (some m)) (.agg #[.int .i64 (f.a : Int), .int .i64 (f.n : Int)]) true).run Tryd.prog (w2.drewN q) = .ok (.tuple #[.int .i64 0, .bool false]) (w2.drewN q) := fun q => look_at (map_only HD.out (Only.drewN (fun _ => False) w2 q) (fun e => e)) hkey HAT.out HH.out
  clear hD hM hwa hwk hob
  go_quiet (fail)
  have HO3 := Lib.hid (HQ.out.same (Only.drewN _ w2 nq))
  have HC3 := Lib.hid (HC2.out.only (Only.drewN (fun _ => False) w2 nq) (fun _ _ e => e))
  have HB3 : Hid ((w2.drewN nq).heap[ob]? = some (.cells #[.int .i64 f.a, .int .i64 f.n] 90 (0, 0))) := Lib.hid (blk_field HB.out (Only.drewN (fun _ => False) w2 nq) (fun e => e))
  clear c3 e0 e1 hlk
  generalize w2.drewN nq = w3 at *
  go_wp2_with fail
  refine (lowest_any HC3.out).mono ?_
  rintro e w4 ⟨q, rfl, hq, hc4, o4⟩
  have HO4 := Lib.hid (o4.mono (S' := SF) (fun k _ e => by subst e; exact HC3.out.own _ (.inl rfl)))
  have HB4 := Lib.hid (blk_field HB3.out o4 (fun e => by have := HBL.out; omega))
  have HC4 := Lib.hid hc4
  have HLQ := Lib.hid hq
  have c0 := cell_of_blk hc4.blk 0
  simp only [List.getElem?_toArray, List.getElem?_cons_zero] at c0
  have e0 : w4.cell? ⟨ob, 0, none⟩ = some (.int .i64 f.a) := by rw [cell_of_blk HB4.out]; rfl
  have e1 : w4.cell? ⟨ob, 1, none⟩ = some (.int .i64 f.n) := by rw [cell_of_blk HB4.out]; rfl
  clear hc4 o4 hq
  by_cases hlq : lim ≤ (q : Int)
  · have HM := Lib.hid (HW.out.moved3 HO.out HO3.out HO4.out (⟨_, _, _, HC4.out.grew (by have := HC4.out.low_le; omega) (Only.refl _ _)⟩ : Tbl (Grew SF w4 w4) w0.heap.size b lim ta q sl w4) (Only.refl _ _))
    have HL := Lib.hid hlq
    go_wp2_with fail
    all_goals (go_ret2; exact ⟨q, HLQ.out, .inl ⟨HL.out, rfl, HM.out⟩⟩)
  · have HL := Lib.hid (show (q : Int) < lim by omega)
    go_wp2_with fail
    refine (put_any f q HC4.out HLQ.out HL.out HF1.out HN.out).mono ?_
    rintro e w5 ⟨rfl, h5, o5⟩
    have HM := Lib.hid (HW.out.moved3 HO.out HO3.out HO4.out h5 o5)
    clear h5 o5
    go_wp2_with fail
    all_goals (go_ret2; exact ⟨q, HLQ.out, .inr ⟨HL.out, rfl, HM.out⟩⟩)
end Go.Proofs.YtoppfhbpmmepaaaDoor.functors
