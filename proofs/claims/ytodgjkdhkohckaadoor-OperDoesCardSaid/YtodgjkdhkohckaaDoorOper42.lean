/- Operators: one call of both: a look, a fork, none. -/
import Derived.Test.YtodgjkdhkohckaaDoorOper41
namespace Go.Proofs.YtodgjkdhkohckaaDoor.opers
open Go.RowKit Go.Proofs.YtodgjkdhkohckaaDoor.own Go.Maps Go.Sort Go.Shelf Go.Proofs.YtodgjkdhkohckaaDoor.toks
theorem opD_inj3 {p k p' k' : Int} {n n' : ByteArray} (h : opD p k n = opD p' k' n') : p = p' ∧ k = k' ∧ n = n' := opD_inj h
/-- Both say the same of a name. -/
theorem Rel.look {Di Dp : D1} {l : List Op3} (h : Rel Di Dp l) (s : ByteArray) (k : Int) (p' k' : Int) (x' : ByteArray) (hd : opD p' k' x' = (sideD k Di Dp).atKey (keyN s) zeroD) : fndV (l.find? (keyB s (isPreF k))) = .tuple #[.agg #[.int .i64 p', .int .i64 k', .string x'], .bool (Maps.has (sideD k Di Dp) (keyN s))] := by
  have hf := h.find s k
  cases he : l.find? (keyB s (isPreF k)) with
  | some y =>
    rw [he] at hf
    obtain ⟨h1, h2⟩ := hf
    rw [h2 zeroD] at hd
    obtain ⟨rfl, rfl, rfl⟩ := opD_inj hd
    rw [h1]
    rfl
  | none =>
    rw [he] at hf
    have h1 : Maps.has (sideD k Di Dp) (keyN s) = false := hf
    rw [atKey_of_not_has h1 zeroD] at hd
    obtain ⟨rfl, rfl, rfl⟩ := opD_inj (show opD p' k' x' = opD 0 0 ⟨#[]⟩ from hd)
    rw [h1]
    rfl
theorem Two.out {N b mi mp n : Nat} {Di Dp : D1} {x : Nat} {ao : Option Addr} {cap : Nat} {l : List Op3} {w w' : World} (h : Two N b mi mp n Di Dp x ao cap l w) (hr : Rel Di Dp l) (ho : Only (fun _ => False) w w') : DoOut N n x w w' (.returned (.tuple #[.pointer (some ⟨b, 0, none⟩), .bool true])) :=
  ⟨b, mi, mp, Di, Dp, ao, cap, l, rfl, (h.later ho).more (by omega), hr, ho.mono (fun _ _ e => e.elim)⟩
set_option maxRecDepth 100000 in
set_option maxHeartbeats 8000000 in
theorem do_infix {N b mi mp n : Nat} {Di Dp : D1} {x : Nat} {ao : Option Addr} {cap : Nat} {l : List Op3} {w : World} (h : Two N b mi mp n Di Dp x ao cap l w) (hr : Rel Di Dp l) (hll : l.length ≤ 100000) (p k : Int) (s m : ByteArray) (hs : m.size ≤ 1000) :
    Calls Tryd.prog 14 #[.pointer (some ⟨b, 0, none⟩), .pointer (some ⟨x, 0, none⟩), .agg #[.int .i64 2, .int .i64 p, .int .i64 k, .string s, .string m]] w fun e w' => DoOut N n x w w' e := by
  have o0 : Only (fun _ => False) w (w.alloc (opB 2 p k s m)) := Only.alloc _ _ _
  have HB0 : Hid (BoxAt w.heap.size 2 p k s m (w.alloc (opB 2 p k s m))) := Lib.hid (BoxAt.new _ _ _ _ _ _)
  have HO := Lib.hid o0
  have H0 := Lib.hid h
  have HR := Lib.hid hr
  have HP : Hid (∀ W, Only (fun _ => False) w W → Calls Tryd.prog 25 #[.pointer (some ⟨b, 0, none⟩), .string m] W fun e w' => (∃ p k x, e = .returned (.tuple #[.agg #[.int .i64 p, .int .i64 k, .string x], .bool (Maps.has Di (keyN m))]) ∧ opD p k x = (Di).atKey (keyN m) zeroD) ∧ Only (fun _ => False) W w') := Lib.hid (fun W ho => infix_any (h.t.later ho) m (by unfold maxLen; omega))
  have HX : Hid (∀ W, Only (fun _ => False) w W → Calls Tryd.prog 15 #[.pointer (some ⟨x, 0, none⟩), .string m, .bool false] W fun e w' => e = .returned (fndV (l.find? (keyB m false))) ∧ Only (fun _ => False) W w') := Lib.hid (fun W ho => find_any N x ao cap l m false W (h.r.later ho) (by omega))
  have HL : Hid (∀ p' k' x', opD p' k' x' = (Di).atKey (keyN m) zeroD → fndV (l.find? (keyB m false)) = .tuple #[.agg #[.int .i64 p', .int .i64 k', .string x'], .bool (Maps.has Di (keyN m))]) := Lib.hid (fun p' k' x' hd => hr.look m 1 p' k' x' hd)
  obtain ⟨c0, c1, c2, c3, c4⟩ := HB0.out.cells
  clear h hr o0
  generalize Maps.has Di (keyN m) = q at *
  go_enter Tryd.func14, Tryd.ntmps14
  go_wp2_with fail
  refine (HP.out _ HO.out).mono ?_
  rintro e w1 ⟨⟨p1, k1, x1, rfl, hd⟩, ho⟩
  have HL1 := Lib.hid (HL.out p1 k1 x1 hd)
  have o1 := ho.same (Only.alloc (fun _ => False) w1 (opC p1 k1 x1))
  have HO1 := Lib.hid (HO.out.same o1)
  have HB1 := Lib.hid (HB0.out.only o1 (fun e => e))
  have HQ1 := Lib.hid (OpAt.new p1 k1 x1 w1)
  clear ho hd HL HB0 HO HP c0 c1 c2 c3 c4 o1
  obtain ⟨c0, c1, c2, c3, c4⟩ := HB1.out.cells
  go_wp2_with fail
  generalize w1.alloc (opC p1 k1 x1) = w2 at *
  refine (HX.out _ HO1.out).mono ?_
  rintro e w3 ⟨rfl, ho⟩
  rw [HL1.out]
  have o1 := ho.same (Only.alloc (fun _ => False) w3 (opC p1 k1 x1))
  have HO3 := Lib.hid (HO1.out.same o1)
  have HQ3 := Lib.hid (OpAt.new p1 k1 x1 w3)
  have HQ4 := Lib.hid (HQ1.out.later o1)
  clear ho o1 HB1 HX HL1 c0 c1 c2 c3 c4 HQ1 HO1
  obtain ⟨a0, a1, a2⟩ := HQ3.out.cells
  obtain ⟨b0, b1, b2⟩ := HQ4.out.cells
  go_wp2_with fail
  go_ret2
  exact H0.out.out HR.out HO3.out
set_option maxRecDepth 100000 in
set_option maxHeartbeats 8000000 in
theorem do_prefix {N b mi mp n : Nat} {Di Dp : D1} {x : Nat} {ao : Option Addr} {cap : Nat} {l : List Op3} {w : World} (h : Two N b mi mp n Di Dp x ao cap l w) (hr : Rel Di Dp l) (hll : l.length ≤ 100000) (p k : Int) (s m : ByteArray) (hs : m.size ≤ 1000) :
    Calls Tryd.prog 14 #[.pointer (some ⟨b, 0, none⟩), .pointer (some ⟨x, 0, none⟩), .agg #[.int .i64 3, .int .i64 p, .int .i64 k, .string s, .string m]] w fun e w' => DoOut N n x w w' e := by
  have o0 : Only (fun _ => False) w (w.alloc (opB 3 p k s m)) := Only.alloc _ _ _
  have HB0 : Hid (BoxAt w.heap.size 3 p k s m (w.alloc (opB 3 p k s m))) := Lib.hid (BoxAt.new _ _ _ _ _ _)
  have HO := Lib.hid o0
  have H0 := Lib.hid h
  have HR := Lib.hid hr
  have HP : Hid (∀ W, Only (fun _ => False) w W → Calls Tryd.prog 26 #[.pointer (some ⟨b, 0, none⟩), .string m] W fun e w' => (∃ p k x, e = .returned (.tuple #[.agg #[.int .i64 p, .int .i64 k, .string x], .bool (Maps.has Dp (keyN m))]) ∧ opD p k x = (Dp).atKey (keyN m) zeroD) ∧ Only (fun _ => False) W w') := Lib.hid (fun W ho => prefix_any (h.t.later ho) m (by unfold maxLen; omega))
  have HX : Hid (∀ W, Only (fun _ => False) w W → Calls Tryd.prog 15 #[.pointer (some ⟨x, 0, none⟩), .string m, .bool true] W fun e w' => e = .returned (fndV (l.find? (keyB m true))) ∧ Only (fun _ => False) W w') := Lib.hid (fun W ho => find_any N x ao cap l m true W (h.r.later ho) (by omega))
  have HL : Hid (∀ p' k' x', opD p' k' x' = (Dp).atKey (keyN m) zeroD → fndV (l.find? (keyB m true)) = .tuple #[.agg #[.int .i64 p', .int .i64 k', .string x'], .bool (Maps.has Dp (keyN m))]) := Lib.hid (fun p' k' x' hd => hr.look m 4 p' k' x' hd)
  obtain ⟨c0, c1, c2, c3, c4⟩ := HB0.out.cells
  clear h hr o0
  generalize Maps.has Dp (keyN m) = q at *
  go_enter Tryd.func14, Tryd.ntmps14
  go_wp2_with fail
  refine (HP.out _ HO.out).mono ?_
  rintro e w1 ⟨⟨p1, k1, x1, rfl, hd⟩, ho⟩
  have HL1 := Lib.hid (HL.out p1 k1 x1 hd)
  have o1 := ho.same (Only.alloc (fun _ => False) w1 (opC p1 k1 x1))
  have HO1 := Lib.hid (HO.out.same o1)
  have HB1 := Lib.hid (HB0.out.only o1 (fun e => e))
  have HQ1 := Lib.hid (OpAt.new p1 k1 x1 w1)
  clear ho hd HL HB0 HO HP c0 c1 c2 c3 c4 o1
  obtain ⟨c0, c1, c2, c3, c4⟩ := HB1.out.cells
  go_wp2_with fail
  generalize w1.alloc (opC p1 k1 x1) = w2 at *
  refine (HX.out _ HO1.out).mono ?_
  rintro e w3 ⟨rfl, ho⟩
  rw [HL1.out]
  have o1 := ho.same (Only.alloc (fun _ => False) w3 (opC p1 k1 x1))
  have HO3 := Lib.hid (HO1.out.same o1)
  have HQ3 := Lib.hid (OpAt.new p1 k1 x1 w3)
  have HQ4 := Lib.hid (HQ1.out.later o1)
  clear ho o1 HB1 HX HL1 c0 c1 c2 c3 c4 HQ1 HO1
  obtain ⟨a0, a1, a2⟩ := HQ3.out.cells
  obtain ⟨b0, b1, b2⟩ := HQ4.out.cells
  go_wp2_with fail
  go_ret2
  exact H0.out.out HR.out HO3.out
set_option maxRecDepth 100000 in
set_option maxHeartbeats 8000000 in
theorem do_fork {N b mi mp n : Nat} {Di Dp : D1} {x : Nat} {ao : Option Addr} {cap : Nat} {l : List Op3} {w : World} (h : Two N b mi mp n Di Dp x ao cap l w) (hr : Rel Di Dp l) (hn : n ≤ 49000) (p k : Int) (s m : ByteArray) :
    Calls Tryd.prog 14 #[.pointer (some ⟨b, 0, none⟩), .pointer (some ⟨x, 0, none⟩), .agg #[.int .i64 4, .int .i64 p, .int .i64 k, .string s, .string m]] w fun e w' => DoOut N n x w w' e := by
  have o0 : Only (fun _ => False) w (w.alloc (opB 4 p k s m)) := Only.alloc _ _ _
  have HB0 : Hid (BoxAt w.heap.size 4 p k s m (w.alloc (opB 4 p k s m))) := Lib.hid (BoxAt.new _ _ _ _ _ _)
  have HO := Lib.hid o0
  have H0 := Lib.hid (h.later o0)
  have HR := Lib.hid hr
  obtain ⟨c0, c1, c2, c3, c4⟩ := HB0.out.cells
  clear h hr o0
  go_enter Tryd.func14, Tryd.ntmps14
  go_wp2_with fail
  generalize w.alloc (opB 4 p k s m) = w1 at *
  refine (fork_any H0.out.t).mono ?_
  rintro e w2 ⟨b2, mi2, mp2, rfl, ht2, ho, hb1, hb2, hb3⟩
  have HF := Lib.hid ht2
  have HN := Lib.hid (And.intro hb1 (And.intro hb2 hb3))
  have HMS := Lib.hid (And.intro (lt_of_block H0.out.t.box) (And.intro H0.out.t.i.lt H0.out.t.p.lt))
  have H2 := Lib.hid (H0.out.later ho)
  have HO2 := Lib.hid (HO.out.same ho)
  clear ht2 ho hb1 hb2 hb3 c0 c1 c2 c3 c4 HB0
  go_wp2_with fail
  refine (H2.out.setP 7 1 ⟨#[61, 62]⟩ (by decide) (by omega)).mono ?_
  rintro e w3 ⟨rfl, h3, ho3⟩
  have H3 := Lib.hid h3
  have HO3 := Lib.hid ho3
  clear h3 ho3
  go_wp2_with fail
  refine (H3.out.setP 0 1 ⟨#[61]⟩ (by decide) (by omega)).mono ?_
  rintro e w4 ⟨rfl, h4, ho4⟩
  have H4 := Lib.hid h4
  have HO4 := Lib.hid ho4
  clear h4 ho4
  go_wp2_with fail
  go_ret2
  have hq := HO3.out.same HO4.out
  have hnq := HN.out
  have hms := HMS.out
  have hi := H0.out.hi
  have hp := H0.out.hp
  exact ⟨b2, mi2, mp2, Di, Dp, ao, cap, l, rfl, Two.more (n := n) ⟨HF.out.only hq (fun e => by rcases e with e | e <;> omega) (fun e => by rcases e with e | e <;> omega) (fun e => by rcases e with e | e <;> omega), H4.out.r, by omega, by omega⟩ (by omega), HR.out, (HO2.out.mono (fun _ _ e => e.elim)).same (hq.mono (fun q _ e => by rcases e with e | e <;> omega))⟩
set_option maxRecDepth 100000 in
set_option maxHeartbeats 8000000 in
theorem do_none {N b mi mp n : Nat} {Di Dp : D1} {x : Nat} {ao : Option Addr} {cap : Nat} {l : List Op3} {w : World} (h : Two N b mi mp n Di Dp x ao cap l w) (hr : Rel Di Dp l) (c p k : Int) (s m : ByteArray) (h1 : (c == 1) = false) (h2 : (c == 2) = false) (h3 : (c == 3) = false) (h4 : (c == 4) = false) :
    Calls Tryd.prog 14 #[.pointer (some ⟨b, 0, none⟩), .pointer (some ⟨x, 0, none⟩), .agg #[.int .i64 c, .int .i64 p, .int .i64 k, .string s, .string m]] w fun e w' => DoOut N n x w w' e := by
  have HB0 : Hid (BoxAt w.heap.size c p k s m (w.alloc (opB c p k s m))) := Lib.hid (BoxAt.new _ _ _ _ _ _)
  have HO : Hid (Only (fun _ => False) w (w.alloc (opB c p k s m))) := Lib.hid (Only.alloc _ _ _)
  have H0 := Lib.hid h
  have HR := Lib.hid hr
  obtain ⟨c0, c1, c2, c3, c4⟩ := HB0.out.cells
  clear h hr
  go_enter Tryd.func14, Tryd.ntmps14
  go_wp2_with fail
  go_ret2
  exact H0.out.out HR.out HO.out
theorem do_any {N b mi mp n : Nat} {Di Dp : D1} {x : Nat} {ao : Option Addr} {cap : Nat} {l : List Op3} {w : World} (h : Two N b mi mp n Di Dp x ao cap l w) (hr : Rel Di Dp l) (hl : l.length = Maps.size Di + Maps.size Dp) (hn : n ≤ 49000) (c p k : Int) (s m : ByteArray) (hs : s.size ≤ 1000) (hm : m.size ≤ 1000) :
    Calls Tryd.prog 14 #[.pointer (some ⟨b, 0, none⟩), .pointer (some ⟨x, 0, none⟩), .agg #[.int .i64 c, .int .i64 p, .int .i64 k, .string s, .string m]] w fun e w' => DoOut N n x w w' e := by
  have hll := h.len hl
  cases h1 : (c == 1) with
  | true => obtain rfl : c = 1 := by simpa using h1
            exact do_set h hr hl (by omega) p k s m hs
  | false =>
    cases h2 : (c == 2) with
    | true => obtain rfl : c = 2 := by simpa using h2
              exact do_infix h hr (by omega) p k s m hm
    | false =>
      cases h3 : (c == 3) with
      | true => obtain rfl : c = 3 := by simpa using h3
                exact do_prefix h hr (by omega) p k s m hm
      | false =>
        cases h4 : (c == 4) with
        | true => obtain rfl : c = 4 := by simpa using h4
                  exact do_fork h hr (by omega) p k s m
        | false => exact do_none h hr c p k s m h1 h2 h3 h4
end Go.Proofs.YtodgjkdhkohckaaDoor.opers
