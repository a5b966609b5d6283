/- Operators: the law OperSides, once lives is there. -/
import Derived.Test.YtodgjkdhkohckaaDoorOper5
namespace Go.Proofs.YtodgjkdhkohckaaDoor.opers
open Go.RowKit Go.Proofs.YtodgjkdhkohckaaDoor.own Go.Maps
/-- The greatest type, up to j, whose name it is. -/
def lastF (s : ByteArray) : Nat → Int
  | 0 => 0
  | m + 1 => if tyL.getD (m + 1) [] = s.toList then ((m + 1 : Nat) : Int) else lastF s m
theorem last_is (s : ByteArray) : lastF s 5 = ofF s := by
  simp only [lastF, ofF, ofFrom]
  by_cases h1 : tyL.getD 1 [] = s.toList
  · rw [← h1]; decide
  · by_cases h2 : tyL.getD 2 [] = s.toList
    · rw [← h2]; decide
    · by_cases h3 : tyL.getD 3 [] = s.toList
      · rw [← h3]; decide
      · by_cases h4 : tyL.getD 4 [] = s.toList
        · rw [← h4]; decide
        · by_cases h5 : tyL.getD 5 [] = s.toList
          · rw [← h5]; decide
          · simp only [if_neg h1, if_neg h2, if_neg h3, if_neg h4, if_neg h5]
theorem name_list (j : Nat) (h1 : 1 ≤ j) (h5 : j ≤ 5) : (nameF (j : Int)).toList = tyL.getD j [] := by
  rcases (show j = 1 ∨ j = 2 ∨ j = 3 ∨ j = 4 ∨ j = 5 by omega) with rfl | rfl | rfl | rfl | rfl <;> decide +kernel
set_option maxRecDepth 100000 in
set_option maxHeartbeats 8000000 in
theorem law_sides_of (LV : Lives) (p k : Int) (n s : ByteArray) (w : World) (hT : Typed w) :
    Calls Tryd.prog 4 #[.agg #[.int .i64 p, .int .i64 k, .string n], .string s] w fun e w' => e = .returned (.bool true) ∧ Below w.heap.size w w' := by
  have HB : Hid (∀ W, Only (fun _ => False) (w.alloc (opC p k n)) W → OpAt w.heap.size p k n W) := Lib.hid (fun W ho => (OpAt.new p k n w).later ho)
  have HO0 : Hid (Only (fun _ => False) w (w.alloc (opC p k n))) := Lib.hid (Only.alloc _ _ _)
  have HT : Hid (∀ W, Only (fun _ => False) (w.alloc (opC p k n)) W → Typed W) := Lib.hid (fun W ho => hT.later (HO0.out.same ho))
  have HLV := Lib.hid LV
  clear hT LV
  by_cases hs : 1000 < s.size
  · have hs1 : (1000 : Int) < (s.size : Int) := by omega
    go_enter Tryd.func4, Tryd.ntmps4
    go_wp2_with fail
    refine (HLV.out _ (HT.out _ (Only.refl _ _))).mono ?_
    rintro e w1 ⟨rfl, ho⟩
    have HO1 := Lib.hid (HO0.out.same ho)
    clear ho
    go_wp2_with fail
    go_ret
    exact ⟨rfl, HO1.out.to_below⟩
  · have hs1 : ¬ (1000 : Int) < (s.size : Int) := by omega
    clear hs
    go_enter Tryd.func4, Tryd.ntmps4
    go_wp2_with fail
    generalize (w.alloc (opC p k n)) = w0 at *
    go_loopw [5, 6] (fun v i wr => ∃ (q : Nat) (u : Int), v = .int .i64 u ∧ i = .int .i64 q ∧ 1 ≤ q ∧ q ≤ 6 ∧ Hid (u = lastF s (q - 1)) ∧ Hid (Only (fun _ => False) w0 wr)) (fun _ i _ => 6 - (intOf i).toNat)
    case atStart => exact ⟨1, 0, rfl, rfl, by omega, by omega, Lib.hid rfl, Lib.hid (Only.refl _ _)⟩
    case round =>
      obtain ⟨q, u, rfl, rfl, hq1, hq6, hu, hR⟩ := hrel
      by_cases hlt : q ≤ 5
      · have HN : Hid (∀ W, Calls Tryd.prog 17 #[.int .i64 (q : Int)] W fun e w' => e = .returned (.string (nameF (q : Int))) ∧ Only (fun _ => False) W w') := Lib.hid (fun W => rTypeName_any (q : Int) W)
        have hnl := name_list q hq1 hlt
        generalize nameF (q : Int) = nm at *
        have hq5 : (q : Int) ≤ 5 := by omega
        by_cases h : tyL.getD q [] = s.toList
        · have h1 : (nm.toList == s.toList) = true := by rw [hnl]; exact beq_iff_eq.2 h
          have HE : Hid ((q : Int) = lastF s (q + 1 - 1)) := Lib.hid (by
            obtain ⟨m, rfl⟩ : ∃ m, q = m + 1 := ⟨q - 1, by omega⟩
            show _ = if tyL.getD (m + 1) [] = s.toList then ((m + 1 : Nat) : Int) else lastF s m
            rw [if_pos h])
          clear hnl h hu
          go_wp2_with fail
          refine (HN.out _).mono ?_
          rintro e w1 ⟨rfl, ho⟩
          have HR2 := Lib.hid (hR.out.same ho)
          clear ho
          go_wp2_with fail
          go_roundw
          case rel => exact ⟨q + 1, _, rfl, by go_num, by omega, by omega, HE, HR2⟩
          case measure => simp [intOf]; omega
        · have h1 : (nm.toList == s.toList) = false := by rw [hnl]; exact beq_eq_false_iff_ne.2 h
          have HE : Hid (u = lastF s (q + 1 - 1)) := Lib.hid (by
            obtain ⟨m, rfl⟩ : ∃ m, q = m + 1 := ⟨q - 1, by omega⟩
            show _ = if tyL.getD (m + 1) [] = s.toList then ((m + 1 : Nat) : Int) else lastF s m
            rw [if_neg h]
            exact hu.out)
          clear hnl h hu
          go_wp2_with fail
          refine (HN.out _).mono ?_
          rintro e w1 ⟨rfl, ho⟩
          have HR2 := Lib.hid (hR.out.same ho)
          clear ho
          go_wp2_with fail
          go_roundw
          case rel => exact ⟨q + 1, _, rfl, by go_num, by omega, by omega, HE, HR2⟩
          case measure => simp [intOf]; omega
      · obtain rfl : q = 6 := by omega
        have hU : u = ofF s := by rw [hu.out]; exact last_is s
        subst hU
        have HK : Hid (∀ W, Only (fun _ => False) wr W → W.cell? ⟨w.heap.size, 0, none⟩ = some (.int .i64 p) ∧ W.cell? ⟨w.heap.size, 1, none⟩ = some (.int .i64 k) ∧ W.cell? ⟨w.heap.size, 2, none⟩ = some (.string n)) := Lib.hid (fun W ho => (HB.out W (hR.out.same ho)).cells)
        have H1 : Hid (∀ W, Calls Tryd.prog 18 #[.agg #[.int .i64 p, .int .i64 k, .string n]] W fun e w' => e = .returned (.int .i64 (leftF p k)) ∧ Only (fun _ => False) W w') := Lib.hid (fun W => Left_any p k n W)
        have H2 : Hid (∀ W, Calls Tryd.prog 19 #[.agg #[.int .i64 p, .int .i64 k, .string n]] W fun e w' => e = .returned (.int .i64 (leftF p k)) ∧ Only (fun _ => False) W w') := Lib.hid (fun W => rLeft_any p k n W)
        have H3 : Hid (∀ W, Calls Tryd.prog 20 #[.agg #[.int .i64 p, .int .i64 k, .string n]] W fun e w' => e = .returned (.int .i64 (rightF p k)) ∧ Only (fun _ => False) W w') := Lib.hid (fun W => Right_any p k n W)
        have H4 : Hid (∀ W, Calls Tryd.prog 21 #[.agg #[.int .i64 p, .int .i64 k, .string n]] W fun e w' => e = .returned (.int .i64 (rightF p k)) ∧ Only (fun _ => False) W w') := Lib.hid (fun W => rRight_any p k n W)
        have H5 : Hid (∀ W, Only (fun _ => False) w0 W → Calls Tryd.prog 22 #[.int .i64 k] W fun e w' => e = .returned (.string (nameF k)) ∧ w' = W) := Lib.hid (fun W ho => TypeName_any k W (HT.out W ho))
        have H6 : Hid (∀ W, Calls Tryd.prog 17 #[.int .i64 k] W fun e w' => e = .returned (.string (nameF k)) ∧ Only (fun _ => False) W w') := Lib.hid (fun W => rTypeName_any k W)
        have H7 : Hid (∀ W, Only (fun _ => False) w0 W → Calls Tryd.prog 23 #[.string s] W fun e w' => e = .returned (.int .i64 (ofF s)) ∧ w' = W) := Lib.hid (fun W ho => TypeOf_any s W (HT.out W ho))
        generalize leftF p k = a1 at *
        generalize rightF p k = a2 at *
        generalize nameF k = a3 at *
        generalize ofF s = a4 at *
        have HA : Hid (Only (fun _ => False) wr wr.drew) := Lib.hid (Only.drew _ _)
        clear hu hlt hq1 hq6
        go_wp2_with fail
        go_region_held3 (fun W => W.cell? ⟨w.heap.size, 0, none⟩ = some (.int .i64 p) ∧ W.cell? ⟨w.heap.size, 1, none⟩ = some (.int .i64 k) ∧ W.cell? ⟨w.heap.size, 2, none⟩ = some (.string n)) (first | exact HK.out _ HA.out | go_keep) (first
          | (go_at_call 10; refine (HLV.out _ (HT.out _ (hR.out.same HA.out))).mono ?_; rintro e wx ⟨rfl, ho⟩; have HA := Lib.hid (HA.out.same ho); clear ho)
          | (go_at_call 18; refine (H1.out _).mono ?_; rintro e wx ⟨rfl, ho⟩; have HA := Lib.hid (HA.out.same ho); clear ho)
          | (go_at_call 19; refine (H2.out _).mono ?_; rintro e wx ⟨rfl, ho⟩; have HA := Lib.hid (HA.out.same ho); clear ho)
          | (go_at_call 20; refine (H3.out _).mono ?_; rintro e wx ⟨rfl, ho⟩; have HA := Lib.hid (HA.out.same ho); clear ho)
          | (go_at_call 21; refine (H4.out _).mono ?_; rintro e wx ⟨rfl, ho⟩; have HA := Lib.hid (HA.out.same ho); clear ho)
          | (go_at_call 22; refine (H5.out _ (hR.out.same HA.out)).mono ?_; rintro e wx ⟨rfl, rfl⟩)
          | (go_at_call 17; refine (H6.out _).mono ?_; rintro e wx ⟨rfl, ho⟩; have HA := Lib.hid (HA.out.same ho); clear ho)
          | (go_at_call 23; refine (H7.out _ (hR.out.same HA.out)).mono ?_; rintro e wx ⟨rfl, rfl⟩))
        go_wp2_with fail
        go_ret
        exact ⟨by first | rfl | simp, (HO0.out.same (hR.out.same HA.out)).to_below⟩
end Go.Proofs.YtodgjkdhkohckaaDoor.opers
