/- Terms: Replace of what may not be, or comes to what may not be. -/
import Derived.Test.YtdpbbcjlbnangaaTerm64
import Derived.Test.YtdpbbcjlbnangaaTerm45
namespace Go.Proofs.Ytdpbbcjlbnangaa.terms
open Go.RowKit Go.Proofs.Ytdpbbcjlbnangaa.own Go.Maps
theorem size_pos (t : T) : 1 ≤ t.size := by rw [T.size_eq]; omega
theorem rep_math (v : List T) (t : T) : ∀ st : Int, t.right = true → (exF (repOut v) (repNxt v) t st).2 ≤ st ∧ st + t.size ≤ (exF (repOut v) (repNxt v) t st).2 + (replacedF v t).size ∧ (0 ≤ (exF (repOut v) (repNxt v) t st).2 → (exF (repOut v) (repNxt v) t st).1 = replacedF v t ∧ st + t.size = (exF (repOut v) (repNxt v) t st).2 + (replacedF v t).size) := by
  induction t using T.ind with
  | h k m s l ih =>
    intro st hr
    by_cases hk : k = 1
    · subst hk
      obtain ⟨h1, h2, h3, h4⟩ := var_form hr
      subst h1; subst h2
      have hz1 : ((T.mk 1 m ⟨#[]⟩ []).size : Int) = 1 := by simp [T.size, sizes]
      unfold exF replacedF
      rw [if_pos rfl, if_pos rfl]
      by_cases hlt : m < (v.length : Int)
      · rw [if_pos hlt]
        have hp := size_pos (v.getD m.toNat default)
        have hn : ¬ v.length ≤ m.toNat := by omega
        unfold repOut repNxt repSt
        by_cases hst : st < 0
        · simp only [hn, hst, false_or, ↓reduceIte]
          exact ⟨Int.le_refl _, by rw [hz1]; omega, fun h => by omega⟩
        · simp only [hn, hst, false_or, ↓reduceIte]
          refine ⟨by omega, by rw [hz1]; omega, fun h => ?_⟩
          rw [if_neg (by omega)]
          exact ⟨rfl, by rw [hz1]; omega⟩
      · rw [if_neg hlt]
        have hn : v.length ≤ m.toNat := by omega
        unfold repOut repNxt
        simp only [hn, true_or, ↓reduceIte]
        exact ⟨Int.le_refl _, by rw [hz1]; omega, fun _ => by simp⟩
    · have hrl : rights l = true := by rw [T.right_eq, Bool.and_eq_true] at hr; exact hr.2
      clear hr
      have hl : ∀ st : Int, (exL (repOut v) (repNxt v) l st).2 ≤ st ∧ st + sizes l ≤ (exL (repOut v) (repNxt v) l st).2 + sizes (replacedL v l) ∧ (0 ≤ (exL (repOut v) (repNxt v) l st).2 → (exL (repOut v) (repNxt v) l st).1 = replacedL v l ∧ st + sizes l = (exL (repOut v) (repNxt v) l st).2 + sizes (replacedL v l)) := by
        clear st
        induction l with
        | nil => intro st; exact ⟨Int.le_refl _, by simp [sizes, replacedL, exL], fun _ => ⟨rfl, rfl⟩⟩
        | cons x r ihr =>
          intro st
          rw [rights_iff] at hrl
          obtain ⟨a1, a2, a3⟩ := ih x (by simp) st (hrl x (by simp))
          obtain ⟨b1, b2, b3⟩ := ihr (fun y hy => ih y (by simp [hy])) (rights_iff.2 (fun y hy => hrl y (by simp [hy]))) (exF (repOut v) (repNxt v) x st).2
          simp only [exL, replacedL, sizes]
          refine ⟨by omega, by omega, fun h => ?_⟩
          obtain ⟨c1, c2⟩ := b3 h
          obtain ⟨d1, d2⟩ := a3 (by omega)
          exact ⟨by rw [c1, d1], by omega⟩
      obtain ⟨h1, h2, h3⟩ := hl st
      unfold exF replacedF
      rw [if_neg hk, if_neg hk]
      simp only [T.size]
      refine ⟨h1, by omega, fun h => ?_⟩
      obtain ⟨c1, c2⟩ := h3 h
      exact ⟨by rw [c1], by omega⟩
theorem repF_math {v : List T} {t : T} (hr : t.right = true) : (0 ≤ (repF v t).2 → (repF v t).1 = replacedF v t ∧ ((replacedF v t).size : Int) = 4096 - (repF v t).2) ∧ ((repF v t).2 < 0 → 4096 < (replacedF v t).size) := by
  obtain ⟨h1, h2, h3⟩ := rep_math v t (4096 - t.size) hr
  refine ⟨fun h => ?_, fun h => ?_⟩
  · obtain ⟨c1, c2⟩ := h3 h
    exact ⟨c1, by show _ = 4096 - (exF (repOut v) (repNxt v) t (4096 - t.size)).2; omega⟩
  · have : (exF (repOut v) (repNxt v) t (4096 - t.size)).2 < 0 := h
    omega
theorem may_any1 (t : T) (w : World) (ao : Option Addr) (cap : Nat) (hl : Lies w ao t.l) (hs : t.Sane) (hz : t.size ≤ 900000) (w1 : World) (ho : Only (fun _ => False) w w1) (b : Nat) (hb : w1.heap[b]? = some (.cells #[.int .i64 t.k, .int .i64 t.n, .string t.s, .slice ao t.l.length cap] 24 (0, 0))) :
    Calls Try.prog 53 #[.slice (some ⟨b, 0, none⟩) 1 1] w1 fun e w' => (∃ b, e = .returned (.bool b) ∧ (b = true ↔ t.Ok)) ∧ Only (fun _ => False) w1 w' := by
  refine (may_any [t] w1 _ 1 (Row.one hl hs w1 ho b hb) (by simp) (fun x hx => by rw [List.mem_singleton.1 hx]; exact hz)).mono ?_
  rintro e w' ⟨⟨b, rfl, hb⟩, ho2⟩
  exact ⟨⟨b, rfl, by rw [hb]; simp⟩, ho2⟩
set_option maxRecDepth 100000 in
set_option maxHeartbeats 4000000 in
theorem Replace_no {with_ : List T} (hlen : with_.length ≤ 1048576) (hzw : ∀ x ∈ with_, x.size ≤ 900000) (wo : Option Addr) (wc : Nat) (t : T) (w : World) (ao : Option Addr) (cap : Nat) (hl : Lies w ao t.l) (hs : t.Sane) (hz : t.size ≤ 900000) (hlw : Lies w wo with_) (hno : ¬ (t.Ok ∧ (∀ x ∈ with_, x.Ok) ∧ (replacedF with_ t).Ok)) :
    Calls Try.prog 37 #[tv t ao cap, .slice wo with_.length wc] w fun e w' => e = .returned (.agg #[.int .i64 0, .int .i64 0, .string ⟨#[]⟩, .slice none 0 0]) ∧ Only (fun _ => False) w w' := by
  have HM := Lib.hid (may_any1 t w ao cap hl hs hz)
  have HMW : Hid (∀ w1, Only (fun _ => False) w w1 → Calls Try.prog 53 #[.slice wo with_.length wc] w1 fun e w' => (∃ b, e = .returned (.bool b) ∧ (b = true ↔ ∀ x ∈ with_, x.Ok)) ∧ Only (fun _ => False) w1 w') := Lib.hid (fun w1 ho => may_any with_ w1 wo wc (hlw.later ho) hlen hzw)
  have HZ : Hid (∀ w1, Only (fun _ => False) w w1 → Calls Try.prog 55 #[tv t ao cap] w1 fun e w' => e = .returned (.int .i64 (t.size : Nat)) ∧ Only (fun _ => False) w1 w') := Lib.hid (fun w1 ho => size_any t w1 ao cap (hl.later ho) hs (by omega))
  have HX := Lib.hid (fun (hok : t.Ok) (hokw : ∀ x ∈ with_, x.Ok) => exchange_rep hokw hlen wo wc t w ao cap hl hs hok hlw)
  have HRM := Lib.hid (fun (hok : t.Ok) => repF_math (v := with_) (t := t) hok.right)
  have HNO := Lib.hid hno
  have hts := hz
  generalize repF with_ t = r at *
  show Calls Try.prog 37 #[.agg #[.int .i64 t.k, .int .i64 t.n, .string t.s, .slice ao t.l.length cap], .slice wo with_.length wc] w _
  clear hl hs hlw hno hz
  go_enter Try.func37, Try.ntmps37
  go_wp2_with fail
  obtain ⟨hb, ho, hq, hbx, hres, hsz⟩ := rep_world w t ao cap wo with_.length wc
  generalize ((((w.alloc (.cells #[.int .i64 t.k, .int .i64 t.n, .string t.s, .slice ao t.l.length cap] 24)).alloc (.cells #[.slice wo with_.length wc] 22)).alloc (.cells #[.int .i64 0, .int .i64 0, .string ⟨#[]⟩, .slice none 0 0] 24)).alloc (.cells #[.int .i64 t.k, .int .i64 t.n, .string t.s, .slice ao t.l.length cap] 24)) = w1 at *
  refine (HM.out _ ho _ hb).mono ?_
  rintro e w2 ⟨⟨bm, rfl, hbm⟩, ho2⟩
  have HBM := Lib.hid hbm
  clear hbm
  have HO := Lib.hid (ho.same ho2)
  have HQ := Lib.hid (hq.only ho2 (fun e => e))
  have HBX := Lib.hid (blk_later hbx ho2)
  have HRES := Lib.hid (hres.only ho2 (fun e => e))
  have HSZ : Hid (w.heap.size + 4 ≤ w2.heap.size) := Lib.hid (by have := ho2.size; omega)
  have b0 := cell_of_blk HBX.out 0
  simp only [List.getElem?_toArray, List.getElem?_cons_zero, List.getElem?_cons_succ] at b0
  clear hb ho hq hbx hres hsz ho2
  cases bm with
  | false =>
    have HSET := Lib.hid (HRES.out.set (.int .i64 0) (.int .i64 0) (.string ⟨#[]⟩) (.slice none 0 0))
    obtain ⟨g0, g1, g2, g3⟩ := HRES.out.cells
    obtain ⟨f0, f1, f2, f3⟩ := HRES.out.free
    go_wp2_with fail
    have hc := HSET.out.1.cells
    refine bodyPost_ret (v := .agg #[.int .i64 0, .int .i64 0, .string ⟨#[]⟩, .slice none 0 0]) (results_term rfl _ _ (w.heap.size + 1 + 1) _ _ _ _ rfl hc.1 hc.2.1 hc.2.2.1 hc.2.2.2) rfl ?_
    exact ⟨rfl, Only.cut HO.out HSET.out.2 (fun k e => by omega)⟩
  | true =>
    go_wp2_with fail
    refine (HMW.out _ HO.out).mono ?_
    rintro e w3 ⟨⟨bn, rfl, hbn⟩, ho3⟩
    have HBN := Lib.hid hbn
    clear hbn
    have HO3 := Lib.hid (HO.out.same ho3)
    have HQ3 := Lib.hid (HQ.out.only ho3 (fun e => e))
    have HBX3 := Lib.hid (blk_later HBX.out ho3)
    have HRES3 := Lib.hid (HRES.out.only ho3 (fun e => e))
    have HSZ3 : Hid (w.heap.size + 4 ≤ w3.heap.size) := Lib.hid (by have := ho3.size; have := HSZ.out; omega)
    obtain ⟨c0, c1, c2, c3⟩ := HQ3.out.cells
    clear ho3 HO HQ HBX HRES HSZ b0 HM HMW
    cases bn with
    | false =>
      have HSET := Lib.hid (HRES3.out.set (.int .i64 0) (.int .i64 0) (.string ⟨#[]⟩) (.slice none 0 0))
      obtain ⟨g0, g1, g2, g3⟩ := HRES3.out.cells
      obtain ⟨f0, f1, f2, f3⟩ := HRES3.out.free
      go_wp2_with fail
      have hc := HSET.out.1.cells
      refine bodyPost_ret (v := .agg #[.int .i64 0, .int .i64 0, .string ⟨#[]⟩, .slice none 0 0]) (results_term rfl _ _ (w.heap.size + 1 + 1) _ _ _ _ rfl hc.1 hc.2.1 hc.2.2.1 hc.2.2.2) rfl ?_
      exact ⟨rfl, Only.cut HO3.out HSET.out.2 (fun k e => by omega)⟩
    | true =>
      have hok : t.Ok := by simpa using HBM.out
      have hokw : ∀ x ∈ with_, x.Ok := by simpa using HBN.out
      have HX := Lib.hid (HX.out hok hokw)
      have HRM := Lib.hid (HRM.out hok)
      have HNK : Hid (¬ (replacedF with_ t).Ok) := Lib.hid (fun h => HNO.out ⟨hok, hokw, h⟩)
      have hts4 := hok.size
      go_wp2_with fail
      refine (HZ.out _ HO3.out).mono ?_
      rintro e w4 ⟨rfl, ho4⟩
      have HO4 := Lib.hid (HO3.out.same ho4)
      have HQ4 := Lib.hid (HQ3.out.only ho4 (fun e => e))
      have HBX4 := Lib.hid (blk_later HBX3.out ho4)
      have HRES4 := Lib.hid (HRES3.out.only ho4 (fun e => e))
      have HSZ4 : Hid (w.heap.size + 4 ≤ w4.heap.size) := Lib.hid (by have := ho4.size; have := HSZ3.out; omega)
      have ho5 : Only (fun _ => False) w4 (w4.alloc (.cells #[.int .i64 (4096 - (t.size : Int))] 3)) := Only.alloc _ _ _
      have hl5 : (w4.alloc (.cells #[.int .i64 (4096 - (t.size : Int))] 3)).heap[w4.heap.size]? = some (.cells #[.int .i64 (4096 - (t.size : Int))] 3 (0, 0)) := heap_alloc_new _ _
      have HL5 := Lib.hid hl5
      have HOA := Lib.hid ho5
      have HO5 := Lib.hid (HO4.out.same ho5)
      obtain ⟨c0, c1, c2, c3⟩ := (HQ4.out.only ho5 (fun e => e)).cells
      have hwr : IntKind.i64.wrap (4096 - (t.size : Int)) = 4096 - (t.size : Int) := IntWalk.i64_in _ (by omega)
      clear ho4 ho5 hl5 HZ
      go_wp2_with fail
      refine (HX.out _ HO5.out (w.heap.size + 1) w4.heap.size (by have := HSZ4.out; omega) (by have := HSZ4.out; omega) HL5.out (blk_later HBX4.out HOA.out)).mono ?_
      rintro e w6 ⟨ao', cap', rfl, hrow, hsane, hleft6, ho6⟩
      have hres6 := ((HRES4.out.only HOA.out (fun e => e)).only ho6 (by have := HSZ4.out; omega))
      have HRES6 := Lib.hid hres6
      have HO6 : Hid (Only (fun _ => False) w w6) := Lib.hid (Only.cut HO5.out ho6 (fun k e => by have := HSZ4.out; omega))
      have HROW := Lib.hid hrow
      have HSA := Lib.hid hsane
      have HSZ6 : Hid (w4.heap.size + 1 ≤ w6.heap.size) := Lib.hid (by have := ho6.size; simp at this; omega)
      have ho7 : Only (fun _ => False) w6 (w6.alloc (.cells #[.int .i64 r.1.k, .int .i64 r.1.n, .string r.1.s, .slice ao' r.1.l.length cap'] 24)) := Only.alloc _ _ _
      have hq7 : Quad w6.heap.size (.int .i64 r.1.k) (.int .i64 r.1.n) (.string r.1.s) (.slice ao' r.1.l.length cap') (w6.alloc (.cells #[.int .i64 r.1.k, .int .i64 r.1.n, .string r.1.s, .slice ao' r.1.l.length cap'] 24)) := heap_alloc_new _ _
      have l7 := cell_of_blk (blk_later hleft6 ho7) 0
      simp only [List.getElem?_toArray, List.getElem?_cons_zero, List.getElem?_cons_succ] at l7
      have HROW7 := Lib.hid ((hrow.only ho7 (fun k hk => hk.2) (fun _ _ e => e)))
      have HRES7 := Lib.hid (hres6.only ho7 (fun e => e))
      have HO7 := Lib.hid (HO6.out.same ho7)
      have HQ7 := Lib.hid hq7
      have hs7 : w6.heap.size + 1 = (w6.alloc (.cells #[.int .i64 r.1.k, .int .i64 r.1.n, .string r.1.s, .slice ao' r.1.l.length cap'] 24)).heap.size := by simp
      have HS7 := Lib.hid hs7
      obtain ⟨c0, c1, c2, c3⟩ := hq7.cells
      clear hrow hsane hleft6 ho6 hres6 HX HRES4 HQ4 HBX4 HL5 ho7 hq7 hs7 HRES6 HROW HO6
      by_cases hr0 : r.2 < 0
      · have HSET := Lib.hid (HRES7.out.set (.int .i64 0) (.int .i64 0) (.string ⟨#[]⟩) (.slice none 0 0))
        obtain ⟨g0, g1, g2, g3⟩ := HRES7.out.cells
        obtain ⟨f0, f1, f2, f3⟩ := HRES7.out.free
        go_wp2_with fail
        have hc := HSET.out.1.cells
        refine bodyPost_ret (v := .agg #[.int .i64 0, .int .i64 0, .string ⟨#[]⟩, .slice none 0 0]) (results_term rfl _ _ (w.heap.size + 1 + 1) _ _ _ _ rfl hc.1 hc.2.1 hc.2.2.1 hc.2.2.2) rfl ?_
        exact ⟨rfl, Only.cut HO7.out HSET.out.2 (fun k e => by omega)⟩
      · have hrm := HRM.out.1 (by omega)
        have HZR : Hid (r.1.size ≤ 900000) := Lib.hid (by rw [hrm.1]; omega)
        have HNR : Hid (¬ r.1.Ok) := Lib.hid (by rw [hrm.1]; exact HNK.out)
        clear hrm
        go_wp2_with fail
        have hb8 : ((w6.alloc (.cells #[.int .i64 r.1.k, .int .i64 r.1.n, .string r.1.s, .slice ao' r.1.l.length cap'] 24)).alloc (.cells #[.int .i64 r.1.k, .int .i64 r.1.n, .string r.1.s, .slice ao' r.1.l.length cap'] 24)).heap[w6.heap.size + 1]? = some (.cells #[.int .i64 r.1.k, .int .i64 r.1.n, .string r.1.s, .slice ao' r.1.l.length cap'] 24 (0, 0)) := by
          have := heap_alloc_new (w6.alloc (.cells #[.int .i64 r.1.k, .int .i64 r.1.n, .string r.1.s, .slice ao' r.1.l.length cap'] 24)) (.cells #[.int .i64 r.1.k, .int .i64 r.1.n, .string r.1.s, .slice ao' r.1.l.length cap'] 24)
          simpa using this
        have ho8 : Only (fun _ => False) (w6.alloc (.cells #[.int .i64 r.1.k, .int .i64 r.1.n, .string r.1.s, .slice ao' r.1.l.length cap'] 24)) ((w6.alloc (.cells #[.int .i64 r.1.k, .int .i64 r.1.n, .string r.1.s, .slice ao' r.1.l.length cap'] 24)).alloc (.cells #[.int .i64 r.1.k, .int .i64 r.1.n, .string r.1.s, .slice ao' r.1.l.length cap'] 24)) := Only.alloc _ _ _
        have HO8 := Lib.hid (HO7.out.same ho8)
        have hrow7 := HROW7.out.mono (Q := fun k => k < (w6.alloc (.cells #[.int .i64 r.1.k, .int .i64 r.1.n, .string r.1.s, .slice ao' r.1.l.length cap'] 24)).heap.size) (fun k hk => by have := HS7.out; omega)
        refine (may_any1 r.1 (w6.alloc (.cells #[.int .i64 r.1.k, .int .i64 r.1.n, .string r.1.s, .slice ao' r.1.l.length cap'] 24)) ao' cap' hrow7 HSA.out HZR.out _ ho8 _ hb8).mono ?_
        rintro e w9 ⟨⟨bz, rfl, hbz⟩, ho9⟩
        obtain rfl : bz = false := by
          cases bz with
          | false => rfl
          | true => exact absurd (hbz.1 rfl) HNR.out
        clear hbz
        have HO9 := Lib.hid (HO8.out.same ho9)
        have hq9 := (HQ7.out.only ho8 (fun e => e)).only ho9 (fun e => e)
        have hres9 := (HRES7.out.only ho8 (fun e => e)).only ho9 (fun e => e)
        have HRES9 := Lib.hid hres9
        clear hb8 ho8 hrow7 ho9 hq9 hres9 l7
        have HSET := Lib.hid (HRES9.out.set (.int .i64 0) (.int .i64 0) (.string ⟨#[]⟩) (.slice none 0 0))
        obtain ⟨g0, g1, g2, g3⟩ := HRES9.out.cells
        obtain ⟨f0, f1, f2, f3⟩ := HRES9.out.free
        go_wp2_with fail
        have hc := HSET.out.1.cells
        refine bodyPost_ret (v := .agg #[.int .i64 0, .int .i64 0, .string ⟨#[]⟩, .slice none 0 0]) (results_term rfl _ _ (w.heap.size + 1 + 1) _ _ _ _ rfl hc.1 hc.2.1 hc.2.2.1 hc.2.2.2) rfl ?_
        exact ⟨rfl, Only.cut HO9.out HSET.out.2 (fun k e => by omega)⟩
end Go.Proofs.Ytdpbbcjlbnangaa.terms
