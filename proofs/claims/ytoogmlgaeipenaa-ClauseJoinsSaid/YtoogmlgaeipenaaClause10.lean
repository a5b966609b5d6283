/- Clauses: the goals of any term are put behind a body's; what a body is asked. -/
import Derived.Test.YtoogmlgaeipenaaClause9b
namespace Go.Proofs.Ytoogmlgaeipenaa.terms
set_option maxRecDepth 100000
open Go.RowKit Go.Proofs.Ytoogmlgaeipenaa.own Go.Maps
theorem flat_len (t : T) : (flatF t).length ≤ t.size := by
  induction t using T.ind with
  | h k n s l ih =>
    cases hc : goesB (.mk k n s l) nComma 2 with
    | true =>
      obtain ⟨a, b, hab⟩ := two_of_len (goes_parts hc).2.2
      have hab' : l = [a, b] := hab
      have h1 := ih a (by rw [hab']; simp)
      have h2 := ih b (by rw [hab']; simp)
      rw [flat_two hc hab, List.length_append, T.size, hab']
      simp only [sizes]
      omega
    | false =>
      cases ht : goesB (.mk k n s l) nTrue 0 with
      | true => rw [flat_true hc ht]; simp
      | false => rw [flat_one hc ht, T.size]; simp
theorem goals_len (l : List T) : (goalsF l).length ≤ l.length := List.length_filter_le _ _
theorem ints_len (l : List T) : (intsF l).length ≤ l.length := List.length_filter_le _ _
set_option maxHeartbeats 8000000 in
theorem add_any (P : Nat → Prop) (B bb : Nat) (t : T) : ∀ (S : Nat → Prop) (go io : Option Addr) (gc ic : Nat) (gl : List Gl) (il : List It) (w : World) (ao : Option Addr) (cap : Nat), Row P w ao t.l → t.Sane → BodyC P B bb S go gc io ic gl il w → gl.length + t.size ≤ 1000000 → il.length + t.size ≤ 1000000 →
    Calls Try.prog 63 #[.pointer (some ⟨bb, 0, none⟩), tv t ao cap] w fun e w' => e = .returned (.tuple #[]) ∧ ∃ gl' il', BodyTo P B bb S (gl ++ gl') (il ++ il') w w' ∧ gl'.map (·.x.t) = goalsF (flatF t) ∧ il'.map (·.t) = intsF (flatF t) := by
  induction t using T.ind with
  | h k n s l ih =>
    intro S go io gc ic gl il w ao cap hl hs h hz hz'
    cases hc : goesB (.mk k n s l) nComma 2 with
    | false =>
      by_cases hk2 : k = 2
      · subst hk2
        have ht : goesB (T.mk 2 n s l) nTrue 0 = false := goes_not (by show (2 : Int) ≠ 3; decide) (by show (2 : Int) ≠ 4; decide)
        refine (add_int P B bb S go io gc ic gl il (.mk 2 n s l) w ao cap h hl hs rfl (by omega)).mono ?_
        rintro e w' ⟨rfl, hb⟩
        refine ⟨rfl, [], [⟨.mk 2 n s l, ao, cap⟩], by rw [List.append_nil]; exact hb, ?_, ?_⟩
        · rw [flat_one hc ht]; simp [goalsF, T.k]
        · rw [flat_one hc ht]; simp [intsF, T.k]
      · cases ht : goesB (.mk k n s l) nTrue 0 with
        | true =>
          refine (add_true P B bb S go io gc ic gl il (.mk k n s l) w ao cap h hc ht).mono ?_
          rintro e w' ⟨rfl, hb⟩
          refine ⟨rfl, [], [], by rw [List.append_nil, List.append_nil]; exact hb, ?_, ?_⟩
          · rw [flat_true hc ht]; rfl
          · rw [flat_true hc ht]; rfl
        | false =>
          refine (add_goal P B bb S go io gc ic gl il (.mk k n s l) w ao cap h hl hs hc ht hk2 (by omega)).mono ?_
          rintro e w' ⟨rfl, hb⟩
          refine ⟨rfl, [⟨_, ⟨.mk k n s l, ao, cap⟩⟩], [], by rw [List.append_nil]; exact hb, ?_, ?_⟩
          · rw [flat_one hc ht]; simp [goalsF, T.k, hk2]
          · rw [flat_one hc ht]; simp [intsF, T.k, hk2]
    | true =>
      obtain ⟨x, y, hab⟩ := two_of_len (goes_parts hc).2.2
      have hab' : l = [x, y] := hab
      subst hab'
      have HF := Lib.hid (flat_two hc hab)
      have HQ0 : Hid (Quad w.heap.size (.int .i64 k) (.int .i64 n) (.string s) (.slice ao 2 cap) (w.alloc (.cells #[.int .i64 k, .int .i64 n, .string s, .slice ao 2 cap] 24))) := Lib.hid (heap_alloc_new w _)
      have HO0 : Hid (Only (fun _ => False) w (w.alloc (.cells #[.int .i64 k, .int .i64 n, .string s, .slice ao 2 cap] 24))) := Lib.hid (Only.alloc _ _ _)
      have H1 := Lib.hid (fun W => goesBy_any (.mk k n s [x, y]) nComma 2 ao cap W)
      rw [hc] at H1
      have HB := Lib.hid h
      have HL : Hid (Row P w ao [x, y]) := Lib.hid hl
      have HX := Lib.hid (ih x (by simp))
      have HY := Lib.hid (ih y (by simp))
      have HZ : Hid (gl.length + (x.size + y.size) ≤ 1000000 ∧ il.length + (x.size + y.size) ≤ 1000000) := Lib.hid (by simp [T.size, sizes] at hz hz'; omega)
      have HBW : Hid (∀ q, P q → q < w.heap.size) := Lib.hid (fun q hq => (h.pb q hq).1)
      show Calls Try.prog 63 #[.pointer (some ⟨bb, 0, none⟩), .agg #[.int .i64 k, .int .i64 n, .string s, .slice ao 2 cap]] w _
      clear ih h hl hs hz hz' hc hab
      go_enter Try.func63, Try.ntmps63
      go_wp2_with fail
      refine (H1.out _).mono ?_
      rintro e w1 ⟨rfl, ho1⟩
      have HQ1 := Lib.hid (HQ0.out.only ho1 (fun e => e))
      have HO1 := Lib.hid (HO0.out.same ho1)
      have HL1 := Lib.hid (HL.out.only HO1.out HBW.out (fun _ _ e => e))
      clear ho1
      obtain ⟨b, off, xo, xc, hao, hb, x0, x1, x2, x3, hxs, hxl⟩ := HL1.out.at (i := 0) (x := x) rfl
      subst hao
      have HXS := Lib.hid hxs
      have HXL := Lib.hid hxl
      simp only [Nat.zero_mul, Nat.add_zero] at x0 x1 x2 x3
      obtain ⟨c0, c1, c2, c3⟩ := HQ1.out.cells
      have HBB := Lib.hid hb
      clear hxs hxl hb
      go_wp2_with fail
      refine (HX.out S go io gc ic gl il w1 xo xc HXL.out HXS.out (HB.out.later HO1.out (fun _ e => e.elim)) (by have := HZ.out; omega) (by have := HZ.out; omega)).mono ?_
      rintro e w2 ⟨rfl, gl1, il1, ⟨S2, go2, gc2, io2, ic2, hB2, ho2, hg2⟩, hm1, hm2⟩
      have HS : Hid (∀ q, S q → B ≤ q ∧ q < w.heap.size) := Lib.hid HB.out.low
      have HPB : Hid (∀ q, P q → ¬ S q) := Lib.hid (fun q hq => (HB.out.pb q hq).2)
      have HQ2 := Lib.hid (HQ1.out.only ho2 (fun e => by have := (HS.out _ e).2; omega))
      have HL2 := Lib.hid (HL1.out.only ho2 (fun q hq => Nat.lt_of_lt_of_le (HBW.out q hq) HO1.out.size) (fun q hq e => HPB.out q hq e))
      have HB2 := Lib.hid hB2
      have HO2 := Lib.hid ho2
      have HG2 := Lib.hid hg2
      have HM1 := Lib.hid hm1
      have HM2 := Lib.hid hm2
      clear x0 x1 x2 x3 c0 c1 c2 c3 hB2 ho2 hg2 hm1 hm2
      obtain ⟨b', off', yo, yc, hao, hb, y0, y1, y2, y3, hys, hyl⟩ := HL2.out.at (i := 1) (x := y) rfl
      cases hao
      have HYS := Lib.hid hys
      have HYL := Lib.hid hyl
      simp only [Nat.one_mul] at y0 y1 y2 y3
      obtain ⟨c0, c1, c2, c3⟩ := HQ2.out.cells
      clear hys hyl hb
      have HLEN : Hid (gl1.length ≤ x.size ∧ il1.length ≤ x.size) := Lib.hid (by
        have e1 : gl1.length = (goalsF (flatF x)).length := by rw [← HM1.out, List.length_map]
        have e2 : il1.length = (intsF (flatF x)).length := by rw [← HM2.out, List.length_map]
        have := goals_len (flatF x); have := ints_len (flatF x); have := flat_len x
        omega)
      go_wp2_with fail
      refine (HY.out S2 go2 io2 gc2 ic2 (gl ++ gl1) (il ++ il1) w2 yo yc HYL.out HYS.out HB2.out (by have := HZ.out; have := HLEN.out; rw [List.length_append]; omega) (by have := HZ.out; have := HLEN.out; rw [List.length_append]; omega)).mono ?_
      rintro e w3 ⟨rfl, gl2, il2, hb3, hn1, hn2⟩
      have HB3 := Lib.hid hb3
      have HN1 := Lib.hid hn1
      have HN2 := Lib.hid hn2
      clear hb3 hn1 hn2 y0 y1 y2 y3 c0 c1 c2 c3
      go_wp2_with fail
      go_end0
      refine ⟨rfl, gl1 ++ gl2, il1 ++ il2, ?_, ?_, ?_⟩
      · have hb3 := HB3.out
        rw [List.append_assoc, List.append_assoc] at hb3
        refine BodyTo.next (S' := S) (w' := w1) (HO1.out.no S) (fun q e => .inl e) (BodyTo.next HO2.out HG2.out hb3)
      · rw [List.map_append, HF.out, goals_append, HM1.out, HN1.out]
      · rw [List.map_append, HF.out, ints_append, HM2.out, HN2.out]
theorem tooMany_any (P : Nat → Prop) (B bb : Nat) (S : Nat → Prop) (go io : Option Addr) (gc ic : Nat) (gl : List Gl) (il : List It) (w : World) (h : BodyC P B bb S go gc io ic gl il w) (hz : gl.length ≤ 1000000) :
    Calls Try.prog 52 #[.pointer (some ⟨bb, 0, none⟩)] w fun e w' => e = .returned (.bool (decide (64 < gl.length))) ∧ w' = w := by
  obtain ⟨c0, c1, f0, f1⟩ := h.cells
  clear h f0 f1
  by_cases h64 : 64 < gl.length
  · have h1 : (gl.length : Int) > 64 := by omega
    rw [decide_eq_true h64]
    clear h64
    go_enter Try.func52, Try.ntmps52
    go_wp2_with fail
    go_ret
    exact ⟨rfl, rfl⟩
  · have h1 : ¬ (gl.length : Int) > 64 := by omega
    rw [decide_eq_false h64]
    clear h64
    go_enter Try.func52, Try.ntmps52
    go_wp2_with fail
    go_ret
    exact ⟨rfl, rfl⟩
set_option maxHeartbeats 4000000 in
theorem uncallable_any (P : Nat → Prop) (B bb : Nat) (S : Nat → Prop) (go io : Option Addr) (gc ic : Nat) (gl : List Gl) (il : List It) (w : World) (h : BodyC P B bb S go gc io ic gl il w) (hz : ∀ x ∈ il, x.t.size ≤ 300000) :
    Calls Try.prog 54 #[.pointer (some ⟨bb, 0, none⟩)] w (AnsMay (match il.map (·.t) with | [] => none | x :: _ => some (.mk 4 0 nType [sAtom nCallable, x])) w) := by
  cases il with
  | nil =>
    show Calls Try.prog 54 #[.pointer (some ⟨bb, 0, none⟩)] w (AnsMay none w)
    have HQ0 := Lib.hid (Zero.new w)
    have HO0 : Hid (Only (fun _ => False) w (zeroW w)) := Lib.hid (Only.alloc _ _ _)
    obtain ⟨c0, c1, f0, f1⟩ := (h.later HO0.out (fun _ e => e.elim)).cells
    have hli : (([] : List It).length : Int) = 0 := rfl
    obtain ⟨q0, q1, q2, q3⟩ := HQ0.out.cells
    obtain ⟨g0, g1, g2, g3⟩ := HQ0.out.free
    have HS := Lib.hid (HQ0.out.set (.int .i64 0) (.int .i64 0) (.string ⟨#[]⟩) (.slice none 0 0))
    clear h hz
    go_enter Try.func54, Try.ntmps54
    go_wp2_with fail
    have hc := HQ0.out.cells
    refine bodyPost_ret (v := .tuple #[.agg #[.int .i64 0, .int .i64 0, .string ⟨#[]⟩, .slice none 0 0], .bool false]) (results_may rfl _ _ w.heap.size _ _ _ _ _ rfl rfl hc.1 hc.2.1 hc.2.2.1 hc.2.2.2) rfl ?_
    exact ⟨rfl, HO0.out⟩
  | cons x r =>
    show Calls Try.prog 54 #[.pointer (some ⟨bb, 0, none⟩)] w (AnsMay (some (.mk 4 0 nType [sAtom nCallable, x.t])) w)
    have HQ0 := Lib.hid (Zero.new w)
    have HO0 : Hid (Only (fun _ => False) w (zeroW w)) := Lib.hid (Only.alloc _ _ _)
    have HB := Lib.hid h
    have hx0 := (h.later HO0.out (fun _ e => e.elim)).rowI.at liesIt 0 x rfl
    obtain ⟨g, rfl, hgB, hcs⟩ := hx0
    have hxc : (zeroW w).cell? ⟨g, 0, none⟩ = some (.int .i64 x.t.k) ∧ (zeroW w).cell? ⟨g, 1, none⟩ = some (.int .i64 x.t.n) ∧ (zeroW w).cell? ⟨g, 2, none⟩ = some (.string x.t.s) ∧ (zeroW w).cell? ⟨g, 3, none⟩ = some (.slice x.ao x.t.l.length x.cap) := by
      have e0 := (hcs 0 (by omega)).1
      have e1 := (hcs 1 (by omega)).1
      have e2 := (hcs 2 (by omega)).1
      have e3 := (hcs 3 (by omega)).1
      simp only [Nat.zero_mul, Nat.zero_add] at e0 e1 e2 e3
      exact ⟨e0, e1, e2, e3⟩
    obtain ⟨x0, x1, x2, x3⟩ := hxc
    obtain ⟨c0, c1, f0, f1⟩ := (h.later HO0.out (fun _ e => e.elim)).cells
    have HT := Lib.hid (Type_any nCallable x.t x.ao x.cap (zeroW w) (by decide +kernel) (h.is x (by simp)).1 (Row.later ((h.is x (by simp)).2.mono (fun q hq => (h.pb q hq).1)) HO0.out) (hz x (by simp)))
    have hln : (((x :: r).length : Nat) : Int) = (r.length : Int) + 1 := by simp
    have hne : (((x :: r).length : Int) == 0) = false := by rw [hln]; simp; omega
    have hb1 : (0 : Int) < ((x :: r).length : Int) := by rw [hln]; omega
    generalize (x :: r).length = m at *
    clear h hz hcs hgB hln
    go_enter Try.func54, Try.ntmps54
    go_wp2_with fail
    refine HT.out.mono ?_
    rintro e w1 ⟨a1, p1, rfl, hl1, ho1⟩
    have HQ1 := Lib.hid (HQ0.out.only ho1 (fun e => e))
    have HO1 := Lib.hid (HO0.out.same ho1)
    have HL1 := Lib.hid hl1
    have HS1 := Lib.hid (HQ1.out.set (.int .i64 4) (.int .i64 0) (.string nError) (.slice a1 1 p1))
    clear c0 c1 f0 f1 x0 x1 x2 x3 hl1
    have HSZ := Lib.hid ho1.size
    clear ho1
    obtain ⟨c0, c1, c2, c3⟩ := HQ1.out.cells
    obtain ⟨f0, f1, f2, f3⟩ := HQ1.out.free
    go_wp2_with fail
    have hc := HS1.out.1.cells
    refine bodyPost_ret (v := .tuple #[.agg #[.int .i64 4, .int .i64 0, .string nError, .slice a1 1 p1], .bool true]) (results_may rfl _ _ w.heap.size _ _ _ _ _ rfl rfl hc.1 hc.2.1 hc.2.2.1 hc.2.2.2) rfl ?_
    have hs0 : (zeroW w).heap.size = w.heap.size + 1 := by simp
    refine ⟨a1, p1, rfl, ?_, Only.cut HO1.out HS1.out.2 (fun q e => by omega)⟩
    refine Row.fin (W := zeroW w) (b := w.heap.size) ((HL1.out).mono ?_) HS1.out.2 (Nat.le_refl _) (by omega) HSZ.out no_lt
    exact fun q hq => hq
end Go.Proofs.Ytoogmlgaeipenaa.terms
