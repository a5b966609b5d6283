/- Operators: what must come of every program. -/
import Derived.Test.YtodgjkdhkohckaaDoorOper21
import Derived.Test.YtodgjkdhkohckaaDoorOper6
namespace Go.Proofs.YtodgjkdhkohckaaDoor.opers
open Go.RowKit Go.Proofs.YtodgjkdhkohckaaDoor.own Go.Maps Go.Proofs.YtodgjkdhkohckaaDoor.toks
set_option maxRecDepth 100000 in
set_option maxHeartbeats 8000000 in
theorem lives : Lives := by
  intro w hT
  have HT := Lib.hid hT
  have HINF : Hid (∀ (b mi mp ni np : Nat) (Di Dp : D1) (W : World), Tb b mi mp ni np Di Dp W → ∀ (s : ByteArray), s.size ≤ maxLen → ∀ (p k : Int) (x : ByteArray), (Maps.has Di (keyN s) = true ∧ Di.atKey (keyN s) zeroD = opD p k x) → Calls Tryd.prog 25 #[.pointer (some ⟨b, 0, none⟩), .string s] W fun e w' => e = .returned (.tuple #[.agg #[.int .i64 p, .int .i64 k, .string x], .bool true]) ∧ Only (fun _ => False) W w') := Lib.hid (fun b mi mp ni np Di Dp W h s hs p k x hy => infix_at h s hs p k x hy)
  have hl1 : sPlus.size ≤ maxLen := by unfold maxLen; decide
  have hl2 : sMinus.size ≤ maxLen := by unfold maxLen; decide
  have hl3 : sPow.size ≤ maxLen := by unfold maxLen; decide
  have hl4 : sComma.size ≤ maxLen := by unfold maxLen; decide
  have hl5 : sMod.size ≤ maxLen := by unfold maxLen; decide
  have hl6 : sFoo.size ≤ maxLen := by unfold maxLen; decide
  go_enter Tryd.func10, Tryd.ntmps10
  go_wp2_with fail
  refine (New_any w).mono ?_
  rintro e w1 ⟨b, mi, mp, rfl, ht, ho, hb1, hb2, hb3⟩
  have HA := Lib.hid (And.intro (ht.mono (ni' := 40) (np' := 40) (by decide) (by decide)) ho)
  have HB := Lib.hid (And.intro hb2 hb3)
  clear ht ho hb1 hb2 hb3 hT
  go_wp2_with fail
  refine (infix_at HA.out.1 sPlus hl1 500 3 sPlus e_plus).mono ?_
  rintro e w2 ⟨rfl, ho⟩
  replace HA := Lib.hid (And.intro (HA.out.1.later (ho.same (Only.alloc _ _ (opC 500 3 sPlus)))) (HA.out.2.same (ho.same (Only.alloc _ _ (opC 500 3 sPlus)))))
  have HO1 := Lib.hid (OpAt.new 500 3 sPlus w2)
  clear ho
  go_wp2_with fail
  generalize w2.alloc (opC 500 3 sPlus) = w3 at *
  refine (prefix_at HA.out.1 sMinus hl2 200 4 sMinus e_minus).mono ?_
  rintro e w4 ⟨rfl, ho⟩
  replace HA := Lib.hid (And.intro (HA.out.1.later (ho.same (Only.alloc _ _ (opC 200 4 sMinus)))) (HA.out.2.same (ho.same (Only.alloc _ _ (opC 200 4 sMinus)))))
  replace HO1 := Lib.hid (HO1.out.later (ho.same (Only.alloc _ _ (opC 200 4 sMinus))))
  have HO2 := Lib.hid (OpAt.new 200 4 sMinus w4)
  clear ho
  go_wp2_with fail
  generalize w4.alloc (opC 200 4 sMinus) = w5 at *
  refine Calls.mono (set_any HA.out.1 300 2 sPow hl3 (by decide)) ?_
  rintro e w6 ⟨rfl, ht, ho⟩
  rw [e_set1I, e_set1P] at ht
  rw [e_set1]
  replace HO1 := Lib.hid (HO1.out.turned HA.out.1 ho)
  replace HO2 := Lib.hid (HO2.out.turned HA.out.1 ho)
  replace HA := Lib.hid (And.intro ht (Only.cut HA.out.2 ho (fun q e => by have := HB.out; rcases e with e | e <;> omega)))
  clear ht ho
  go_wp2_with fail
  refine Calls.mono (set_any HA.out.1 300 2 sComma hl4 (by decide)) ?_
  rintro e w7 ⟨rfl, ht, ho⟩
  rw [setI_no (by rw [e_set2]; decide), setP_no (by rw [e_set2]; decide)] at ht
  rw [e_set2]
  replace HO1 := Lib.hid (HO1.out.turned HA.out.1 ho)
  replace HO2 := Lib.hid (HO2.out.turned HA.out.1 ho)
  replace HA := Lib.hid (And.intro ht (Only.cut HA.out.2 ho (fun q e => by have := HB.out; rcases e with e | e <;> omega)))
  clear ht ho
  go_wp2_with fail
  refine (infix_at HA.out.1 sPow hl3 300 2 sPow e_pow).mono ?_
  rintro e w8 ⟨rfl, ho⟩
  replace HA := Lib.hid (And.intro (HA.out.1.later (ho.same (Only.alloc _ _ (opC 300 2 sPow)))) (HA.out.2.same (ho.same (Only.alloc _ _ (opC 300 2 sPow)))))
  replace HO1 := Lib.hid (HO1.out.later (ho.same (Only.alloc _ _ (opC 300 2 sPow))))
  replace HO2 := Lib.hid (HO2.out.later (ho.same (Only.alloc _ _ (opC 300 2 sPow))))
  have HO3 := Lib.hid (OpAt.new 300 2 sPow w8)
  clear ho
  generalize hw9 : w8.alloc (opC 300 2 sPow) = w9 at HA HO1 HO2 HO3
  have HAB : Hid (Tb b mi mp 42 42 Di1 Dp0 w9) := Lib.hid (HA.out.1.mono (by decide) (by decide))
  have HTW : Hid (Typed w9) := Lib.hid (HT.out.later HA.out.2)
  have HW := Lib.hid HA.out.2
  clear HA HT HB HINF
  have HK : Hid (∀ W, Only (fun _ => False) w9 W → W.cell? ⟨w2.heap.size, 0, none⟩ = some (.int .i64 500) ∧ W.cell? ⟨w2.heap.size, 1, none⟩ = some (.int .i64 3) ∧ W.cell? ⟨w2.heap.size, 2, none⟩ = some (.string sPlus) ∧ W.cell? ⟨w4.heap.size, 0, none⟩ = some (.int .i64 200) ∧ W.cell? ⟨w8.heap.size, 0, none⟩ = some (.int .i64 300)) := Lib.hid (fun W ho =>
    ⟨(HO1.out.later ho).cells.1, (HO1.out.later ho).cells.2.1, (HO1.out.later ho).cells.2.2, (HO2.out.later ho).cells.1, (HO3.out.later ho).cells.1⟩)
  have hq : ∀ W, (binOp BinOp.eql 32 (.agg #[.int .i64 500, .int .i64 3, .string sPlus]) (.agg #[.int .i64 500, .int .i64 3, .string sPlus])).run Tryd.prog W = .ok (.bool true) W := fun W => by first | rfl | kernel_rfl
  have HLE : Hid (∀ W, Calls Tryd.prog 18 #[.agg #[.int .i64 500, .int .i64 3, .string sPlus]] W fun e w' => e = .returned (.int .i64 500) ∧ Only (fun _ => False) W w') := Lib.hid (fun W => by have h := Left_any 500 3 sPlus W; rwa [e_left.1] at h)
  have HRI : Hid (∀ W, Calls Tryd.prog 20 #[.agg #[.int .i64 500, .int .i64 3, .string sPlus]] W fun e w' => e = .returned (.int .i64 499) ∧ Only (fun _ => False) W w') := Lib.hid (fun W => by have h := Right_any 500 3 sPlus W; rwa [e_left.2] at h)
  have HTN : Hid (∀ W, Only (fun _ => False) w9 W → Calls Tryd.prog 22 #[.int .i64 3] W fun e w' => e = .returned (.string ⟨#[121, 102, 120]⟩) ∧ w' = W) := Lib.hid (fun W ho => by have h := TypeName_any 3 W (HTW.out.later ho); rwa [show nameF 3 = ⟨#[121, 102, 120]⟩ by kernel_rfl] at h)
  have HTF : Hid (∀ W, Only (fun _ => False) w9 W → Calls Tryd.prog 23 #[.string ⟨#[102, 121]⟩] W fun e w' => e = .returned (.int .i64 4) ∧ w' = W) := Lib.hid (fun W ho => by have h := TypeOf_any ⟨#[102, 121]⟩ W (HTW.out.later ho); rwa [show ofF ⟨#[102, 121]⟩ = 4 by kernel_rfl] at h)
  have HTG : Hid (∀ W, Only (fun _ => False) w9 W → Calls Tryd.prog 23 #[.string ⟨#[121, 102]⟩] W fun e w' => e = .returned (.int .i64 0) ∧ w' = W) := Lib.hid (fun W ho => by have h := TypeOf_any ⟨#[121, 102]⟩ W (HTW.out.later ho); rwa [show ofF ⟨#[121, 102]⟩ = 0 by kernel_rfl] at h)
  have HIM : Hid (∀ W, Only (fun _ => False) w9 W → Calls Tryd.prog 16 #[.pointer (some ⟨b, 0, none⟩), .string sMod] W fun e w' => e = .returned (.bool true) ∧ Only (fun _ => False) W w') := Lib.hid (fun W ho => by have h := is_any (HAB.out.later ho) sMod hl5; rwa [e_mod] at h)
  have HIF : Hid (∀ W, Only (fun _ => False) w9 W → Calls Tryd.prog 16 #[.pointer (some ⟨b, 0, none⟩), .string sFoo] W fun e w' => e = .returned (.bool false) ∧ Only (fun _ => False) W w') := Lib.hid (fun W ho => by have h := is_any (HAB.out.later ho) sFoo hl6; rwa [e_foo] at h)
  have HALL : Hid (∀ W, Only (fun _ => False) w9 W → Calls Tryd.prog 12 #[.pointer (some ⟨b, 0, none⟩)] W fun e w' => ∃ ao cap, e = .returned (.slice ao 32 cap) ∧ Only (fun _ => False) W w') := Lib.hid (fun W ho => (all_any (HAB.out.later ho) (by decide)).mono (fun e w' ⟨xs, ao, cap, h1, h2, _, h4⟩ => ⟨ao, cap, by rw [h1, show xs.length = 32 by rw [allIs_len h2, e_size.1, e_size.2]], h4⟩))
  have HFK : Hid (∀ W, Only (fun _ => False) w9 W → Calls Tryd.prog 27 #[.pointer (some ⟨b, 0, none⟩)] W fun e w' => ∃ b2, e = .returned (.pointer (some ⟨b2, 0, none⟩)) ∧ Only (fun _ => False) W w') := Lib.hid (fun W ho => (fork_any (HAB.out.later ho)).mono (fun e w' ⟨b2, _, _, h1, _, h3, _⟩ => ⟨b2, h1, h3⟩))
  have HA : Hid (Only (fun _ => False) w9 w9) := Lib.hid (Only.refl _ _)
  clear HO1 HO2 HO3 HAB HTW hl1 hl2 hl3 hl4 hl5 hl6
  obtain ⟨c0, c1, c2, c3, c4⟩ := HK.out _ HA.out
  subst hw9
  go_wp2_with fail
  generalize w8.alloc (opC 300 2 sPow) = w9 at *
  refine (HLE.out _).mono ?_
  rintro e wa ⟨rfl, ho⟩
  replace HA := Lib.hid (HA.out.same ho)
  clear ho c0 c1 c2 c3 c4
  obtain ⟨c0, c1, c2, c3, c4⟩ := HK.out _ HA.out
  go_wp2_with fail
  refine (HRI.out _).mono ?_
  rintro e wb ⟨rfl, ho⟩
  replace HA := Lib.hid (HA.out.same ho)
  clear ho c0 c1 c2 c3 c4
  obtain ⟨c0, c1, c2, c3, c4⟩ := HK.out _ HA.out
  go_wp2_with fail
  refine (HTN.out _ HA.out).mono ?_
  rintro e wc ⟨rfl, rfl⟩
  go_wp2_with fail
  refine (HTF.out _ HA.out).mono ?_
  rintro e wc ⟨rfl, rfl⟩
  go_wp2_with fail
  refine (HTG.out _ HA.out).mono ?_
  rintro e wc ⟨rfl, rfl⟩
  go_wp2_with fail
  refine (HIM.out _ HA.out).mono ?_
  rintro e wd ⟨rfl, ho⟩
  replace HA := Lib.hid (HA.out.same ho)
  clear ho c0 c1 c2 c3 c4
  obtain ⟨c0, c1, c2, c3, c4⟩ := HK.out _ HA.out
  go_wp2_with fail
  refine (HIF.out _ HA.out).mono ?_
  rintro e we ⟨rfl, ho⟩
  replace HA := Lib.hid (HA.out.same ho)
  clear ho c0 c1 c2 c3 c4
  obtain ⟨c0, c1, c2, c3, c4⟩ := HK.out _ HA.out
  go_wp2_with fail
  refine (HALL.out _ HA.out).mono ?_
  rintro e wf ⟨ao, cap, rfl, ho⟩
  replace HA := Lib.hid (HA.out.same ho)
  clear ho c0 c1 c2 c3 c4
  obtain ⟨c0, c1, c2, c3, c4⟩ := HK.out _ HA.out
  go_wp2_with fail
  refine (HFK.out _ HA.out).mono ?_
  rintro e wg ⟨bf, rfl, ho⟩
  replace HA := Lib.hid (HA.out.same ho)
  clear ho c0 c1 c2 c3 c4
  obtain ⟨c0, c1, c2, c3, c4⟩ := HK.out _ HA.out
  go_wp2_with fail
  go_ret
  exact ⟨rfl, HW.out.same HA.out⟩
end Go.Proofs.YtodgjkdhkohckaaDoor.opers
