/- Arithmetic: Compare. -/
import Derived.Test.YtleofkmfeooaaaaArith14
namespace Go.Proofs.Ytleofkmfeooaaaa.terms
set_option maxRecDepth 100000
open Go.RowKit Go.Proofs.Ytleofkmfeooaaaa.own Go.Maps
/-- What comparing answers. -/
def AnsCmp (r : Sum Bool T) (w : World) (e : Ending) (w' : World) : Prop :=
  match r with
  | .inl v => e = .returned (.tuple #[.bool v, .agg #[.int .i64 0, .int .i64 0, .string ⟨#[]⟩, .slice none 0 0], .bool true]) ∧ Only (fun _ => False) w w'
  | .inr x => ∃ a p, e = .returned (.tuple #[.bool false, .agg #[.int .i64 4, .int .i64 0, .string nError, .slice a 1 p], .bool false]) ∧ Row (NewP no w w') w' a [x] ∧ Only (fun _ => False) w w'
theorem AnsCmp.val {v : Bool} {w w' : World} {e : Ending} (h : AnsCmp (.inl v) w e w') : e = .returned (.tuple #[.bool v, .agg #[.int .i64 0, .int .i64 0, .string ⟨#[]⟩, .slice none 0 0], .bool true]) ∧ Only (fun _ => False) w w' := h
theorem AnsCmp.ball {x : T} {w w' : World} {e : Ending} (h : AnsCmp (.inr x) w e w') : ∃ a p, e = .returned (.tuple #[.bool false, .agg #[.int .i64 4, .int .i64 0, .string nError, .slice a 1 p], .bool false]) ∧ Row (NewP no w w') w' a [x] ∧ Only (fun _ => False) w w' := h
def cmpF (s : ByteArray) (t u : T) : Sum Bool T := if relK s = false then .inl false else match evalR t with | .ball x => .inr x | .num a => match evalR u with | .ball x => .inr x | .num b => .inl (holdsF s a b)
theorem cmpF_no {s : ByteArray} (t u : T) (h : relK s = false) : cmpF s t u = .inl false := by unfold cmpF; rw [if_pos h]
theorem cmpF_first {s : ByteArray} {t : T} (u : T) {x : T} (h : relK s = true) (ht : evalR t = .ball x) : cmpF s t u = .inr x := by unfold cmpF; rw [if_neg (by rw [h]; exact Bool.noConfusion), ht]
theorem cmpF_second {s : ByteArray} {t u : T} {a : Int} {x : T} (h : relK s = true) (ht : evalR t = .num a) (hu : evalR u = .ball x) : cmpF s t u = .inr x := by unfold cmpF; rw [if_neg (by rw [h]; exact Bool.noConfusion), ht]; simp only [hu]
theorem cmpF_both {s : ByteArray} {t u : T} {a b : Int} (h : relK s = true) (ht : evalR t = .num a) (hu : evalR u = .num b) : cmpF s t u = .inl (holdsF s a b) := by unfold cmpF; rw [if_neg (by rw [h]; exact Bool.noConfusion), ht]; simp only [hu]
/-- Two terms' boxes, and a result's cell. -/
abbrev threeW (w : World) (t u : T) (ao bo : Option Addr) (cap bcap : Nat) : World := zeroW ((w.alloc (.cells #[.int .i64 t.k, .int .i64 t.n, .string t.s, .slice ao t.l.length cap] 24)).alloc (.cells #[.int .i64 u.k, .int .i64 u.n, .string u.s, .slice bo u.l.length bcap] 24))
theorem threeW_size (w : World) (t u : T) (ao bo : Option Addr) (cap bcap : Nat) : (threeW w t u ao bo cap bcap).heap.size = w.heap.size + 3 := by simp
theorem threeW_only (w : World) (t u : T) (ao bo : Option Addr) (cap bcap : Nat) : Only (fun _ => False) w (threeW w t u ao bo cap bcap) := ((Only.alloc _ _ _).same (Only.alloc _ _ _)).same (Only.alloc _ _ _)
theorem threeW_first (w : World) (t u : T) (ao bo : Option Addr) (cap bcap : Nat) : Quad w.heap.size (.int .i64 t.k) (.int .i64 t.n) (.string t.s) (.slice ao t.l.length cap) (threeW w t u ao bo cap bcap) := Quad.only (b := w.heap.size) (heap_alloc_new w _) ((Only.alloc (fun _ => False) _ _).same (Only.alloc _ _ _)) (fun e => e)
theorem threeW_second (w : World) (t u : T) (ao bo : Option Addr) (cap bcap : Nat) : Quad (w.heap.size + 1) (.int .i64 u.k) (.int .i64 u.n) (.string u.s) (.slice bo u.l.length bcap) (threeW w t u ao bo cap bcap) := by
  have h := heap_alloc_new (w.alloc (.cells #[.int .i64 t.k, .int .i64 t.n, .string t.s, .slice ao t.l.length cap] 24)) (.cells #[.int .i64 u.k, .int .i64 u.n, .string u.s, .slice bo u.l.length bcap] 24)
  rw [show (w.alloc (.cells #[.int .i64 t.k, .int .i64 t.n, .string t.s, .slice ao t.l.length cap] 24)).heap.size = w.heap.size + 1 by simp] at h
  exact Quad.only (b := w.heap.size + 1) h (Only.alloc (fun _ => False) _ _) (fun e => e)
theorem threeW_zero (w : World) (t u : T) (ao bo : Option Addr) (cap bcap : Nat) : Zero (w.heap.size + 2) (threeW w t u ao bo cap bcap) := by
  have h := Zero.new ((w.alloc (.cells #[.int .i64 t.k, .int .i64 t.n, .string t.s, .slice ao t.l.length cap] 24)).alloc (.cells #[.int .i64 u.k, .int .i64 u.n, .string u.s, .slice bo u.l.length bcap] 24))
  rwa [show ((w.alloc (.cells #[.int .i64 t.k, .int .i64 t.n, .string t.s, .slice ao t.l.length cap] 24)).alloc (.cells #[.int .i64 u.k, .int .i64 u.n, .string u.s, .slice bo u.l.length bcap] 24)).heap.size = w.heap.size + 2 by simp] at h
theorem func_nil (K : Nat) (w : World) : (binOp .eql 39 (.func (.func K) #[] #[]) .nilFunc).run Try.prog w = .ok (.bool false) w := by rfl
theorem nil_nil (w : World) : (binOp .eql 39 .nilFunc .nilFunc).run Try.prog w = .ok (.bool true) w := by rfl
set_option maxHeartbeats 8000000 in
theorem Compare_any (s : ByteArray) (t u : T) (ao bo : Option Addr) (cap bcap : Nat) (w : World) (hs : t.Sane) (hl : Lies w ao t.l) (hz : t.size ≤ 900000) (hs' : u.Sane) (hl' : Lies w bo u.l) (hz' : u.size ≤ 900000) : Calls Try.prog 17 #[.string s, tv t ao cap, tv u bo bcap] w (AnsCmp (cmpF s t u) w) := by
  have HB0 := Lib.hid (threeW_first w t u ao bo cap bcap)
  have HU0 := Lib.hid (threeW_second w t u ao bo cap bcap)
  have HQ0 := Lib.hid (threeW_zero w t u ao bo cap bcap)
  have HO0 := Lib.hid (threeW_only w t u ao bo cap bcap)
  have HZ0 := Lib.hid (threeW_size w t u ao bo cap bcap)
  have HET := Lib.hid (fun (W : World) (ho : Only (fun _ => False) w W) => Eval_any t ao cap W hs (hl.later ho) hz)
  have HEU := Lib.hid (fun (W : World) (ho : Only (fun _ => False) w W) => Eval_any u bo bcap W hs' (hl'.later ho) hz')
  obtain ⟨c0, c1, c2, c3⟩ := HB0.out.cells
  obtain ⟨d0, d1, d2, d3⟩ := HQ0.out.cells
  obtain ⟨f0, f1, f2, f3⟩ := HQ0.out.free
  show Calls Try.prog 17 #[.string s, .agg #[.int .i64 t.k, .int .i64 t.n, .string t.s, .slice ao t.l.length cap], .agg #[.int .i64 u.k, .int .i64 u.n, .string u.s, .slice bo u.l.length bcap]] w _
  clear hs hl hz hs' hl' hz'
  by_cases hk : relK s = false
  · rw [cmpF_no t u hk]
    have HRE := Lib.hid (fun W => relation_no s W hk)
    have hNN := nil_nil
    clear hk
    go_enter Try.func17, Try.ntmps17
    go_wp2_with fail
    refine (HRE.out _).mono ?_
    rintro e w1 ⟨rfl, rfl⟩
    go_wp2_with fail
    have hc := HQ0.out.cells
    refine bodyPost_ret (v := .tuple #[.bool false, .agg #[.int .i64 0, .int .i64 0, .string ⟨#[]⟩, .slice none 0 0], .bool true]) (results_rk rfl _ _ (w.heap.size + 2) _ _ _ _ _ _ rfl rfl rfl hc.1 hc.2.1 hc.2.2.1 hc.2.2.2) rfl ?_
    exact ⟨rfl, HO0.out⟩
  · have hk2 : relK s = true := by simpa using hk
    have HRE := Lib.hid (fun W => relation_yes s W hk2)
    have HF1 := Lib.hid (fun x => @cmpF_first s t u x hk2)
    have HF2 := Lib.hid (fun a x => @cmpF_second s t u a x hk2)
    have HF3 := Lib.hid (fun a b => @cmpF_both s t u a b hk2)
    generalize cmpF s t u = R at *
    clear hk hk2
    go_enter Try.func17, Try.ntmps17
    go_wp2_with fail
    refine (HRE.out _).mono ?_
    rintro e w1 ⟨K, rfl, hK, rfl⟩
    have HKC := Lib.hid hK.2
    have hE := hK.1
    have hFN := func_nil K
    clear hK
    go_wp2_with fail
    have H := HET.out _ HO0.out
    cases hr : evalR t with
    | ball y =>
      have HE := HF1.out y hr
      rw [hr] at H
      subst HE
      refine H.mono ?_
      clear H
      intro e w2 h2
      obtain ⟨a2, p2, rfl, hl2, ho2⟩ := h2.ball
      have ho3 : Only (fun _ => False) w2 (w2.alloc (.cells #[.int .i64 4, .int .i64 0, .string nError, .slice a2 1 p2] 24)) := Only.alloc _ _ _
      have HO3 := Lib.hid ((HO0.out.same ho2).same ho3)
      have HZR := Lib.hid (HQ0.out.only (ho2.same ho3) (fun e => e))
      have hx2 := HZ0.out
      have HL3 : Hid (Row (fun q => w.heap.size + 3 ≤ q ∧ q < w2.heap.size) (w2.alloc (.cells #[.int .i64 4, .int .i64 0, .string nError, .slice a2 1 p2] 24)) a2 [y]) := Lib.hid ((hl2.only ho3 (fun k hk => by rcases hk with hk | hk; exact hk.elim; exact hk.2) (fun _ _ e => e)).mono (fun q hq => by
        rcases hq with hq | hq
        · exact hq.elim
        · exact ⟨by omega, hq.2⟩))
      clear h2 hl2 ho2 ho3 hr c0 c1 c2 c3 d0 d1 d2 d3 f0 f1 f2 f3 hx2 hE
      obtain ⟨c0, c1, c2, c3⟩ := HZR.out.cells
      obtain ⟨f0, f1, f2, f3⟩ := HZR.out.free
      have HS3 := Lib.hid (HZR.out.set (.int .i64 4) (.int .i64 0) (.string nError) (.slice a2 1 p2))
      have g0 : Quad w2.heap.size (.int .i64 4) (.int .i64 0) (.string nError) (.slice a2 1 p2) (w2.alloc (.cells #[.int .i64 4, .int .i64 0, .string nError, .slice a2 1 p2] 24)) := heap_alloc_new _ _
      obtain ⟨g0, g1, g2, g3⟩ := g0.cells
      generalize hw3 : w2.alloc (.cells #[.int .i64 4, .int .i64 0, .string nError, .slice a2 1 p2] 24) = w3 at *
      have HZ3 : Hid (w2.heap.size ≤ w3.heap.size) := Lib.hid (by rw [← hw3]; simp)
      go_wp2_with fail
      clear hw3
      generalize w2.heap.size = bb at *
      go_region
      go_wp2_with fail
      have hc := HS3.out.1.cells
      refine bodyPost_ret (v := .tuple #[.bool false, .agg #[.int .i64 4, .int .i64 0, .string nError, .slice a2 1 p2], .bool false]) (results_rk rfl _ ((quadW w3 (w.heap.size + 2) (.int .i64 4) (.int .i64 0) (.string nError) (.slice a2 1 p2)).drew) (w.heap.size + 2) _ _ _ _ _ _ rfl rfl rfl hc.1 hc.2.1 hc.2.2.1 hc.2.2.2) rfl ?_
      have o4 : Only (· = w.heap.size + 2) w3 ((quadW w3 (w.heap.size + 2) (.int .i64 4) (.int .i64 0) (.string nError) (.slice a2 1 p2)).drew) := HS3.out.2.same (Only.drew _ _)
      have hz3 := HZ3.out
      exact ⟨a2, p2, rfl, (HL3.out.past (w.heap.size + 2) o4 (fun k hk => by have := hk.2; omega) (fun k hk => by have := hk.1; omega)).mono (fun k hk => .inr ⟨by have := hk.1; omega, Nat.lt_of_lt_of_le (by have := hk.2; omega) o4.size⟩), Only.cut HO3.out o4 (fun k e => by omega)⟩
    | num a =>
      rw [hr] at H
      have HRA := Lib.hid hr
      refine H.mono ?_
      clear H
      intro e w2 h2
      obtain ⟨rfl, ho2⟩ := h2.num
      have ho3 : Only (fun _ => False) w2 (w2.alloc (.cells #[.int .i64 0, .int .i64 0, .string ⟨#[]⟩, .slice none 0 0] 24)) := Only.alloc _ _ _
      have HO3 := Lib.hid ((HO0.out.same ho2).same ho3)
      have HU3 := Lib.hid (HU0.out.only (ho2.same ho3) (fun e => e))
      have HZR := Lib.hid (HQ0.out.only (ho2.same ho3) (fun e => e))
      have HV3 : Hid (Zero w2.heap.size (w2.alloc (.cells #[.int .i64 0, .int .i64 0, .string ⟨#[]⟩, .slice none 0 0] 24))) := Lib.hid (Zero.new w2)
      have hx2 := HZ0.out
      have HW2 : Hid (w.heap.size + 3 ≤ w2.heap.size) := Lib.hid (by have := ho2.size; omega)
      have HWW : Hid (w2.heap.size < (w2.alloc (.cells #[.int .i64 0, .int .i64 0, .string ⟨#[]⟩, .slice none 0 0] 24)).heap.size) := Lib.hid (by simp)
      clear h2 ho2 ho3 hr c0 c1 c2 c3 d0 d1 d2 d3 f0 f1 f2 f3 hx2
      obtain ⟨c0, c1, c2, c3⟩ := HU3.out.cells
      have HEE := Lib.hid hE
      clear hE
      go_wp2_with fail
      clear c0 c1 c2 c3
      generalize w2.alloc (.cells #[.int .i64 0, .int .i64 0, .string ⟨#[]⟩, .slice none 0 0] 24) = w3 at *
      generalize w2.heap.size = bb at *
      have H := HEU.out _ HO3.out
      cases hr2 : evalR u with
      | ball z =>
        have HE := HF2.out a z HRA.out hr2
        rw [hr2] at H
        subst HE
        refine H.mono ?_
        clear H
        intro e w4 h2
        obtain ⟨a2, p2, rfl, hl4, ho4⟩ := h2.ball
        have HL4 := Lib.hid hl4
        have HSZ4 := Lib.hid ho4.size
        have HO4 := Lib.hid (HO3.out.same ho4)
        have HZ4 := Lib.hid (HZR.out.only ho4 (fun e => e))
        have HV4 := Lib.hid (HV3.out.only ho4 (fun e => e))
        have HS5 : Hid (Quad bb (.int .i64 4) (.int .i64 0) (.string nError) (.slice a2 1 p2) ((((w4.setCell ⟨bb, 0, none⟩ (.int .i64 4)).setCell ⟨bb, 1, none⟩ (.int .i64 0)).setCell ⟨bb, 2, none⟩ (.string nError)).setCell ⟨bb, 3, none⟩ (.slice a2 1 p2)) ∧ Only (· = bb) w4 ((((w4.setCell ⟨bb, 0, none⟩ (.int .i64 4)).setCell ⟨bb, 1, none⟩ (.int .i64 0)).setCell ⟨bb, 2, none⟩ (.string nError)).setCell ⟨bb, 3, none⟩ (.slice a2 1 p2))) := Lib.hid (HV4.out.set (.int .i64 4) (.int .i64 0) (.string nError) (.slice a2 1 p2))
        have hbb := HW2.out
        have HO5 : Hid (Only (fun _ => False) w ((((w4.setCell ⟨bb, 0, none⟩ (.int .i64 4)).setCell ⟨bb, 1, none⟩ (.int .i64 0)).setCell ⟨bb, 2, none⟩ (.string nError)).setCell ⟨bb, 3, none⟩ (.slice a2 1 p2))) := Lib.hid (Only.cut HO4.out HS5.out.2 (fun k e => by omega))
        have HZ5 : Hid (Zero (w.heap.size + 2) ((((w4.setCell ⟨bb, 0, none⟩ (.int .i64 4)).setCell ⟨bb, 1, none⟩ (.int .i64 0)).setCell ⟨bb, 2, none⟩ (.string nError)).setCell ⟨bb, 3, none⟩ (.slice a2 1 p2))) := Lib.hid (HZ4.out.only HS5.out.2 (by omega))
        clear h2 hbb
        obtain ⟨c0, c1, c2, c3⟩ := HV4.out.cells
        obtain ⟨f0, f1, f2, f3⟩ := HV4.out.free
        go_wp2_with fail
        have HL5 : Hid (Row (fun q => w.heap.size + 3 ≤ q ∧ q < w4.heap.size) ((((w4.setCell ⟨bb, 0, none⟩ (.int .i64 4)).setCell ⟨bb, 1, none⟩ (.int .i64 0)).setCell ⟨bb, 2, none⟩ (.string nError)).setCell ⟨bb, 3, none⟩ (.slice a2 1 p2)) a2 [z]) := Lib.hid ((HL4.out.past bb HS5.out.2 (newP_lt no_lt HSZ4.out) (fun q hq => by
          have := HWW.out
          rcases hq with hq | hq
          · exact hq.elim
          · omega)).mono (fun q hq => by
          have := HWW.out
          have := HW2.out
          rcases hq with hq | hq
          · exact hq.elim
          · exact ⟨by omega, hq.2⟩))
        have HSW5 := HS5.out.2.size
        clear c0 c1 c2 c3 f0 f1 f2 f3 HL4
        generalize (((w4.setCell ⟨bb, 0, none⟩ (.int .i64 4)).setCell ⟨bb, 1, none⟩ (.int .i64 0)).setCell ⟨bb, 2, none⟩ (.string nError)).setCell ⟨bb, 3, none⟩ (.slice a2 1 p2) = w3' at *
        obtain ⟨g0, g1, g2, g3⟩ := HS5.out.1.cells
        obtain ⟨c0, c1, c2, c3⟩ := HZ5.out.cells
        obtain ⟨f0, f1, f2, f3⟩ := HZ5.out.free
        have HS6 := Lib.hid (HZ5.out.set (.int .i64 4) (.int .i64 0) (.string nError) (.slice a2 1 p2))
        go_region
        go_wp2_with fail
        have hc := HS6.out.1.cells
        refine bodyPost_ret (v := .tuple #[.bool false, .agg #[.int .i64 4, .int .i64 0, .string nError, .slice a2 1 p2], .bool false]) (results_rk rfl _ ((quadW w3' (w.heap.size + 2) (.int .i64 4) (.int .i64 0) (.string nError) (.slice a2 1 p2)).drew) (w.heap.size + 2) _ _ _ _ _ _ rfl rfl rfl hc.1 hc.2.1 hc.2.2.1 hc.2.2.2) rfl ?_
        have o6 : Only (· = w.heap.size + 2) w3' ((quadW w3' (w.heap.size + 2) (.int .i64 4) (.int .i64 0) (.string nError) (.slice a2 1 p2)).drew) := HS6.out.2.same (Only.drew _ _)
        exact ⟨a2, p2, rfl, (HL5.out.past (w.heap.size + 2) o6 (fun k hk => by have := hk.2; omega) (fun k hk => by have := hk.1; omega)).mono (fun k hk => .inr ⟨by have := hk.1; omega, Nat.lt_of_lt_of_le (by have := hk.2; omega) o6.size⟩), Only.cut HO5.out o6 (fun k e => by omega)⟩
      | num c =>
        have HE := HF3.out a c HRA.out hr2
        rw [hr2] at H
        subst HE
        refine H.mono ?_
        clear H
        intro e w4 h2
        obtain ⟨rfl, ho4⟩ := h2.num
        have HO4 := Lib.hid (HO3.out.same ho4)
        have HZ4 := Lib.hid (HZR.out.only ho4 (fun e => e))
        have HV4 := Lib.hid (HV3.out.only ho4 (fun e => e))
        have HS5 : Hid (Quad bb (.int .i64 0) (.int .i64 0) (.string ⟨#[]⟩) (.slice none 0 0) ((((w4.setCell ⟨bb, 0, none⟩ (.int .i64 0)).setCell ⟨bb, 1, none⟩ (.int .i64 0)).setCell ⟨bb, 2, none⟩ (.string ⟨#[]⟩)).setCell ⟨bb, 3, none⟩ (.slice none 0 0)) ∧ Only (· = bb) w4 ((((w4.setCell ⟨bb, 0, none⟩ (.int .i64 0)).setCell ⟨bb, 1, none⟩ (.int .i64 0)).setCell ⟨bb, 2, none⟩ (.string ⟨#[]⟩)).setCell ⟨bb, 3, none⟩ (.slice none 0 0))) := Lib.hid (HV4.out.set (.int .i64 0) (.int .i64 0) (.string ⟨#[]⟩) (.slice none 0 0))
        have hbb := HW2.out
        have HO5 : Hid (Only (fun _ => False) w ((((w4.setCell ⟨bb, 0, none⟩ (.int .i64 0)).setCell ⟨bb, 1, none⟩ (.int .i64 0)).setCell ⟨bb, 2, none⟩ (.string ⟨#[]⟩)).setCell ⟨bb, 3, none⟩ (.slice none 0 0))) := Lib.hid (Only.cut HO4.out HS5.out.2 (fun k e => by omega))
        have HZ5 : Hid (Zero (w.heap.size + 2) ((((w4.setCell ⟨bb, 0, none⟩ (.int .i64 0)).setCell ⟨bb, 1, none⟩ (.int .i64 0)).setCell ⟨bb, 2, none⟩ (.string ⟨#[]⟩)).setCell ⟨bb, 3, none⟩ (.slice none 0 0))) := Lib.hid (HZ4.out.only HS5.out.2 (by omega))
        clear h2 hbb
        obtain ⟨c0, c1, c2, c3⟩ := HV4.out.cells
        obtain ⟨f0, f1, f2, f3⟩ := HV4.out.free
        have hE := HEE.out
        go_wp2_with fail
        clear c0 c1 c2 c3 f0 f1 f2 f3
        generalize (((w4.setCell ⟨bb, 0, none⟩ (.int .i64 0)).setCell ⟨bb, 1, none⟩ (.int .i64 0)).setCell ⟨bb, 2, none⟩ (.string ⟨#[]⟩)).setCell ⟨bb, 3, none⟩ (.slice none 0 0) = w5 at *
        refine (HKC.out a c _).mono ?_
        rintro e w6 ⟨rfl, rfl⟩
        have HS6 := Lib.hid (HZ5.out.set (.int .i64 0) (.int .i64 0) (.string ⟨#[]⟩) (.slice none 0 0))
        obtain ⟨c0, c1, c2, c3⟩ := HZ5.out.cells
        obtain ⟨f0, f1, f2, f3⟩ := HZ5.out.free
        go_wp2_with fail
        have hc := HS6.out.1.cells
        refine bodyPost_ret (v := .tuple #[.bool (holdsF s a c), .agg #[.int .i64 0, .int .i64 0, .string ⟨#[]⟩, .slice none 0 0], .bool true]) (results_rk rfl _ _ (w.heap.size + 2) _ _ _ _ _ _ rfl rfl rfl hc.1 hc.2.1 hc.2.2.1 hc.2.2.2) rfl ?_
        exact ⟨rfl, Only.cut HO5.out HS6.out.2 (fun k e => by omega)⟩
end Go.Proofs.Ytleofkmfeooaaaa.terms
