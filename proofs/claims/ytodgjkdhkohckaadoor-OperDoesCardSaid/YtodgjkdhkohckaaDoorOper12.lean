/- Operators: an operator is set: what is put in, what is taken out. -/
import Derived.Test.YtodgjkdhkohckaaDoorOper11
namespace Go.Proofs.YtodgjkdhkohckaaDoor.opers
open Go.RowKit Go.Proofs.YtodgjkdhkohckaaDoor.own Go.Maps Go.Proofs.YtodgjkdhkohckaaDoor.toks
theorem Tb.side {b mi mp n : Nat} {Di Dp : D1} {W : World} (h : Tb b mi mp n n Di Dp W) (k : Int) : OMap W (sideOf k mi mp) n (sideD k Di Dp) := by
  unfold sideOf sideD
  split
  · exact h.p
  · exact h.i
theorem Tb.mono {b mi mp ni np ni' np' : Nat} {Di Dp : D1} {W : World} (h : Tb b mi mp ni np Di Dp W) (h1 : ni ≤ ni') (h2 : np ≤ np') : Tb b mi mp ni' np' Di Dp W := ⟨h.box, h.i.mono h1, h.p.mono h2, h.ne⟩
theorem Tb.lenI {b mi mp n : Nat} {Di Dp : D1} {W : World} (h : Tb b mi mp n n Di Dp W) (ty : TypeId) : (Builtin.len_ #[50] ty #[.map (some mi)]).run Tryd.prog W = .ok (.int .i64 (Maps.size Di)) W := h.i.len Tryd.underlying50 ty
theorem Tb.lenP {b mi mp n : Nat} {Di Dp : D1} {W : World} (h : Tb b mi mp n n Di Dp W) (ty : TypeId) : (Builtin.len_ #[50] ty #[.map (some mp)]).run Tryd.prog W = .ok (.int .i64 (Maps.size Dp)) W := h.p.len Tryd.underlying50 ty
set_option maxRecDepth 100000 in
set_option maxHeartbeats 4000000 in
theorem set_full {b mi mp n : Nat} {Di Dp : D1} {w : World} (h : Tb b mi mp n n Di Dp w) (p k : Int) (s : ByteArray) (h1 : ¬ p < 0) (h2 : ¬ p > 1200) (h3 : isTypeF k = true) (h4 : maysetB s = true) (hs : s.size ≤ maxLen) (hn : n ≤ 100000) (h5 : p > 0) (h6 : Maps.has (sideD k Di Dp) (keyN s) = false) (h7 : 64 ≤ Maps.size Di + Maps.size Dp) : Calls Tryd.prog 24 #[.pointer (some ⟨b, 0, none⟩), .agg #[.int .i64 p, .int .i64 k, .string s]] w fun e w' => e = .returned (.int .i64 2) ∧ Only (fun _ => False) w w' := by
  have hwr : wrap64 ((Maps.size Di : Nat) + (Maps.size Dp : Nat) : Int) = ((Maps.size Di : Nat) + (Maps.size Dp : Nat) : Int) := by
    have g1 := h.i.size_le
    have g2 := h.p.size_le
    unfold wrap64
    omega
  have h7i : (64 : Int) ≤ (Maps.size Di : Nat) + (Maps.size Dp : Nat) := by omega
  have ho0 : Only (fun _ => False) w (w.alloc (opC p k s)) := Only.alloc _ _ _
  have HT0 := Lib.hid (h.later ho0)
  have HO0 := Lib.hid ho0
  have HC : Hid (∀ W, BoxT b mi mp W → Calls Tryd.prog 30 #[.pointer (some ⟨b, 0, none⟩)] W fun e w' => e = .returned (.bool false) ∧ w' = W) := Lib.hid (closed_any b mi mp)
  have HB := opBoxes p k s w
  have HTY : Hid (∀ W, Calls Tryd.prog 46 #[.int .i64 k] W fun e w' => e = .returned (.bool (isTypeF k)) ∧ w' = W) := Lib.hid (isType_any k)
  have HMS : Hid (∀ W, Calls Tryd.prog 47 #[.string s] W fun e w' => e = .returned (.bool (maysetB s)) ∧ Only (fun _ => False) W w') := Lib.hid (maySet_any s)
  obtain ⟨c0, c1, c2⟩ := HB.out _ (Only.refl _ _)
  clear h ho0
  have HLI : Hid (∀ W, BoxT b mi mp W → Calls Tryd.prog 48 #[.pointer (some ⟨b, 0, none⟩), .int .i64 k] W fun e w' => e = .returned (.map (some (sideOf k mi mp))) ∧ w' = W) := Lib.hid (fun W hb => like_any b mi mp k W hb)
  have HLK : Hid (∀ W, Tb b mi mp n n Di Dp W → ∃ p k2 x, (Instr.lookup 50 (.map (some (sideOf k mi mp))) (.string s) true).run Tryd.prog W = .ok (.tuple #[.agg #[.int .i64 p, .int .i64 k2, .string x], .bool (Maps.has (sideD k Di Dp) (keyN s))]) W) := Lib.hid (fun W hW => by
    obtain ⟨p, k2, x, h, _⟩ := look_any (hW.side k) s hs
    exact ⟨p, k2, x, h⟩)
  rw [h3] at HTY
  rw [h4] at HMS
  rw [h6] at HLK
  have h5d : decide (p > 0) = true := decide_eq_true h5
  clear h3 h4 h6 h7
  go_enter Tryd.func24, Tryd.ntmps24
  go_wp2_with fail
  refine (HC.out _ HT0.out.box).mono ?_
  rintro e w1 ⟨rfl, rfl⟩
  generalize hw0 : w.alloc (opC p k s) = w0 at *
  go_wp2_with fail
  refine (HTY.out _).mono ?_
  rintro e w1 ⟨rfl, rfl⟩
  go_wp2_with fail
  refine (HMS.out _).mono ?_
  rintro e w1 ⟨rfl, ho⟩
  have HO1 := Lib.hid (HO0.out.same ho)
  have HT1 := Lib.hid (HT0.out.later ho)
  obtain ⟨p3, k3, x3, hlk⟩ := HLK.out _ HT1.out
  clear c0 c1 c2
  obtain ⟨c0, c1, c2⟩ := HB.out _ ho
  have HB1 : Hid (∀ W, Only (fun _ => False) w1 W → W.cell? ⟨w.heap.size, 0, none⟩ = some (.int .i64 p) ∧ W.cell? ⟨w.heap.size, 1, none⟩ = some (.int .i64 k) ∧ W.cell? ⟨w.heap.size, 2, none⟩ = some (.string s)) := Lib.hid (fun W h => HB.out W (ho.same h))
  clear ho HB HLK HT0 HO0
  go_wp2_with fail
  refine (HLI.out _ HT1.out.box).mono ?_
  rintro e w2 ⟨rfl, rfl⟩
  go_wp2_with fail
  have ho3 : Only (fun _ => False) w2 (w2.alloc (opC p3 k3 x3)) := Only.alloc _ _ _
  have HO2 := Lib.hid (HO1.out.same ho3)
  have HT2 := Lib.hid (HT1.out.later ho3)
  have HB2 : Hid (∀ W, Only (fun _ => False) (w2.alloc (opC p3 k3 x3)) W → W.cell? ⟨w.heap.size, 0, none⟩ = some (.int .i64 p) ∧ W.cell? ⟨w.heap.size, 1, none⟩ = some (.int .i64 k) ∧ W.cell? ⟨w.heap.size, 2, none⟩ = some (.string s)) := Lib.hid (fun W h => HB1.out W (ho3.same h))
  clear c0 c1 c2 HB1 hlk
  obtain ⟨c0, c1, c2⟩ := HB2.out _ (Only.refl _ _)
  generalize w2.alloc (opC p3 k3 x3) = w4 at *
  have b0 := cell_of_blk HT2.out.box 0
  have b1 := cell_of_blk HT2.out.box 1
  simp only [List.getElem?_toArray, List.getElem?_cons_zero, List.getElem?_cons_succ] at b0 b1
  have hl1 : ∀ q ty, (Builtin.len_ #[50] ty #[.map (some mi)]).run Tryd.prog (w4.drewN q) = .ok (.int .i64 (Maps.size Di)) (w4.drewN q) := fun q ty => (HT2.out.later (Only.drewN _ w4 q)).lenI ty
  have hl2 : ∀ q ty, (Builtin.len_ #[50] ty #[.map (some mp)]).run Tryd.prog (w4.drewN q) = .ok (.int .i64 (Maps.size Dp)) (w4.drewN q) := fun q ty => (HT2.out.later (Only.drewN _ w4 q)).lenP ty
  go_quiet (fail)
  go_wp2_with fail
  go_ret
  exact ⟨rfl, HO2.out.same (Only.drewN _ _ _)⟩
set_option maxRecDepth 100000 in
set_option maxHeartbeats 4000000 in
theorem set_putPY {b mi mp n : Nat} {Di Dp : D1} {w : World} (h : Tb b mi mp n n Di Dp w) (p k : Int) (s : ByteArray) (h1 : ¬ p < 0) (h2 : ¬ p > 1200) (h3 : isTypeF k = true) (h4 : maysetB s = true) (hs : s.size ≤ maxLen) (hn : n ≤ 100000) (h64 : s.size ≤ 64) (hk : isPreF k = true) (h5 : p > 0) (h6 : Maps.has (sideD k Di Dp) (keyN s) = true) : Calls Tryd.prog 24 #[.pointer (some ⟨b, 0, none⟩), .agg #[.int .i64 p, .int .i64 k, .string s]] w fun e w' => e = .returned (.int .i64 0) ∧ Tb b mi mp (n + 1) (n + 1) Di (Dp.put (keyN s) (opD p k s)) w' ∧ Only (fun q => q = mi ∨ q = mp) w w' := by
  have ho0 : Only (fun _ => False) w (w.alloc (opC p k s)) := Only.alloc _ _ _
  have HT0 := Lib.hid (h.later ho0)
  have HO0 := Lib.hid ho0
  have HC : Hid (∀ W, BoxT b mi mp W → Calls Tryd.prog 30 #[.pointer (some ⟨b, 0, none⟩)] W fun e w' => e = .returned (.bool false) ∧ w' = W) := Lib.hid (closed_any b mi mp)
  have HB := opBoxes p k s w
  have HTY : Hid (∀ W, Calls Tryd.prog 46 #[.int .i64 k] W fun e w' => e = .returned (.bool (isTypeF k)) ∧ w' = W) := Lib.hid (isType_any k)
  have HMS : Hid (∀ W, Calls Tryd.prog 47 #[.string s] W fun e w' => e = .returned (.bool (maysetB s)) ∧ Only (fun _ => False) W w') := Lib.hid (maySet_any s)
  obtain ⟨c0, c1, c2⟩ := HB.out _ (Only.refl _ _)
  clear h ho0
  have HLI : Hid (∀ W, BoxT b mi mp W → Calls Tryd.prog 48 #[.pointer (some ⟨b, 0, none⟩), .int .i64 k] W fun e w' => e = .returned (.map (some (sideOf k mi mp))) ∧ w' = W) := Lib.hid (fun W hb => like_any b mi mp k W hb)
  have HLK : Hid (∀ W, Tb b mi mp n n Di Dp W → ∃ p k2 x, (Instr.lookup 50 (.map (some (sideOf k mi mp))) (.string s) true).run Tryd.prog W = .ok (.tuple #[.agg #[.int .i64 p, .int .i64 k2, .string x], .bool (Maps.has (sideD k Di Dp) (keyN s))]) W) := Lib.hid (fun W hW => by
    obtain ⟨p, k2, x, h, _⟩ := look_any (hW.side k) s hs
    exact ⟨p, k2, x, h⟩)
  rw [h3] at HTY
  rw [h4] at HMS
  rw [h6] at HLK
  have h5d : decide (p > 0) = true := decide_eq_true h5
  clear h3 h4 h6
  go_enter Tryd.func24, Tryd.ntmps24
  go_wp2_with fail
  refine (HC.out _ HT0.out.box).mono ?_
  rintro e w1 ⟨rfl, rfl⟩
  generalize hw0 : w.alloc (opC p k s) = w0 at *
  go_wp2_with fail
  refine (HTY.out _).mono ?_
  rintro e w1 ⟨rfl, rfl⟩
  go_wp2_with fail
  refine (HMS.out _).mono ?_
  rintro e w1 ⟨rfl, ho⟩
  have HO1 := Lib.hid (HO0.out.same ho)
  have HT1 := Lib.hid (HT0.out.later ho)
  obtain ⟨p3, k3, x3, hlk⟩ := HLK.out _ HT1.out
  clear c0 c1 c2
  obtain ⟨c0, c1, c2⟩ := HB.out _ ho
  have HB1 : Hid (∀ W, Only (fun _ => False) w1 W → W.cell? ⟨w.heap.size, 0, none⟩ = some (.int .i64 p) ∧ W.cell? ⟨w.heap.size, 1, none⟩ = some (.int .i64 k) ∧ W.cell? ⟨w.heap.size, 2, none⟩ = some (.string s)) := Lib.hid (fun W h => HB.out W (ho.same h))
  clear ho HB HLK HT0 HO0
  go_wp2_with fail
  refine (HLI.out _ HT1.out.box).mono ?_
  rintro e w2 ⟨rfl, rfl⟩
  go_wp2_with fail
  have ho3 : Only (fun _ => False) w2 (w2.alloc (opC p3 k3 x3)) := Only.alloc _ _ _
  have HO2 := Lib.hid (HO1.out.same ho3)
  have HT2 := Lib.hid (HT1.out.later ho3)
  have HB2 : Hid (∀ W, Only (fun _ => False) (w2.alloc (opC p3 k3 x3)) W → W.cell? ⟨w.heap.size, 0, none⟩ = some (.int .i64 p) ∧ W.cell? ⟨w.heap.size, 1, none⟩ = some (.int .i64 k) ∧ W.cell? ⟨w.heap.size, 2, none⟩ = some (.string s)) := Lib.hid (fun W h => HB1.out W (ho3.same h))
  clear c0 c1 c2 HB1 hlk
  obtain ⟨c0, c1, c2⟩ := HB2.out _ (Only.refl _ _)
  generalize w2.alloc (opC p3 k3 x3) = w4 at *
  have b0 := cell_of_blk HT2.out.box 0
  have b1 := cell_of_blk HT2.out.box 1
  simp only [List.getElem?_toArray, List.getElem?_cons_zero, List.getElem?_cons_succ] at b0 b1
  have hl1 : ∀ q ty, (Builtin.len_ #[50] ty #[.map (some mi)]).run Tryd.prog (w4.drewN q) = .ok (.int .i64 (Maps.size Di)) (w4.drewN q) := fun q ty => (HT2.out.later (Only.drewN _ w4 q)).lenI ty
  have hl2 : ∀ q ty, (Builtin.len_ #[50] ty #[.map (some mp)]).run Tryd.prog (w4.drewN q) = .ok (.int .i64 (Maps.size Dp)) (w4.drewN q) := fun q ty => (HT2.out.later (Only.drewN _ w4 q)).lenP ty
  go_quiet (fail)
  go_wp2_with fail
  generalize hw5 : w4.drewN nq = w5 at *
  have HO3 : Hid (Only (fun _ => False) w w5) := Lib.hid (by rw [← hw5]; exact HO2.out.same (Only.drewN _ _ _))
  have HT3 : Hid (Tb b mi mp n n Di Dp w5) := Lib.hid (by rw [← hw5]; exact HT2.out.later (Only.drewN _ _ _))
  have hsz : ∀ x ∈ [s], x.size ≤ 64 := by intro x hx; rw [List.mem_singleton] at hx; rw [hx]; exact h64
  have hz : w5.heap.size = w4.heap.size := by rw [← hw5]; rfl
  rw [← hz]
  refine (HT3.out.putsP p k [s] hk hsz (by simp; omega)).mono ?_
  rintro e w6 ⟨rfl, ht, ho⟩
  have HF : Hid (Tb b mi mp (n + 1) (n + 1) Di (Dp.put (keyN s) (opD p k s)) w6 ∧ Only (fun q => q = mi ∨ q = mp) w w6) := Lib.hid ⟨ht.mono (by simp) (by simp), (HO3.out.mono (fun _ _ e => e.elim)).same ho⟩
  clear ht ho
  go_wp2_with fail
  go_ret
  exact ⟨rfl, HF.out.1, HF.out.2⟩
set_option maxRecDepth 100000 in
set_option maxHeartbeats 4000000 in
theorem set_putPN {b mi mp n : Nat} {Di Dp : D1} {w : World} (h : Tb b mi mp n n Di Dp w) (p k : Int) (s : ByteArray) (h1 : ¬ p < 0) (h2 : ¬ p > 1200) (h3 : isTypeF k = true) (h4 : maysetB s = true) (hs : s.size ≤ maxLen) (hn : n ≤ 100000) (h64 : s.size ≤ 64) (hk : isPreF k = true) (h5 : p > 0) (h6 : Maps.has (sideD k Di Dp) (keyN s) = false) (h7 : Maps.size Di + Maps.size Dp < 64) : Calls Tryd.prog 24 #[.pointer (some ⟨b, 0, none⟩), .agg #[.int .i64 p, .int .i64 k, .string s]] w fun e w' => e = .returned (.int .i64 0) ∧ Tb b mi mp (n + 1) (n + 1) Di (Dp.put (keyN s) (opD p k s)) w' ∧ Only (fun q => q = mi ∨ q = mp) w w' := by
  have hwr : wrap64 ((Maps.size Di : Nat) + (Maps.size Dp : Nat) : Int) = ((Maps.size Di : Nat) + (Maps.size Dp : Nat) : Int) := by
    have g1 := h.i.size_le
    have g2 := h.p.size_le
    unfold wrap64
    omega
  have h7i : ((Maps.size Di : Nat) + (Maps.size Dp : Nat) : Int) < 64 := by omega
  have ho0 : Only (fun _ => False) w (w.alloc (opC p k s)) := Only.alloc _ _ _
  have HT0 := Lib.hid (h.later ho0)
  have HO0 := Lib.hid ho0
  have HC : Hid (∀ W, BoxT b mi mp W → Calls Tryd.prog 30 #[.pointer (some ⟨b, 0, none⟩)] W fun e w' => e = .returned (.bool false) ∧ w' = W) := Lib.hid (closed_any b mi mp)
  have HB := opBoxes p k s w
  have HTY : Hid (∀ W, Calls Tryd.prog 46 #[.int .i64 k] W fun e w' => e = .returned (.bool (isTypeF k)) ∧ w' = W) := Lib.hid (isType_any k)
  have HMS : Hid (∀ W, Calls Tryd.prog 47 #[.string s] W fun e w' => e = .returned (.bool (maysetB s)) ∧ Only (fun _ => False) W w') := Lib.hid (maySet_any s)
  obtain ⟨c0, c1, c2⟩ := HB.out _ (Only.refl _ _)
  clear h ho0
  have HLI : Hid (∀ W, BoxT b mi mp W → Calls Tryd.prog 48 #[.pointer (some ⟨b, 0, none⟩), .int .i64 k] W fun e w' => e = .returned (.map (some (sideOf k mi mp))) ∧ w' = W) := Lib.hid (fun W hb => like_any b mi mp k W hb)
  have HLK : Hid (∀ W, Tb b mi mp n n Di Dp W → ∃ p k2 x, (Instr.lookup 50 (.map (some (sideOf k mi mp))) (.string s) true).run Tryd.prog W = .ok (.tuple #[.agg #[.int .i64 p, .int .i64 k2, .string x], .bool (Maps.has (sideD k Di Dp) (keyN s))]) W) := Lib.hid (fun W hW => by
    obtain ⟨p, k2, x, h, _⟩ := look_any (hW.side k) s hs
    exact ⟨p, k2, x, h⟩)
  rw [h3] at HTY
  rw [h4] at HMS
  rw [h6] at HLK
  have h5d : decide (p > 0) = true := decide_eq_true h5
  clear h7
  clear h3 h4 h6
  go_enter Tryd.func24, Tryd.ntmps24
  go_wp2_with fail
  refine (HC.out _ HT0.out.box).mono ?_
  rintro e w1 ⟨rfl, rfl⟩
  generalize hw0 : w.alloc (opC p k s) = w0 at *
  go_wp2_with fail
  refine (HTY.out _).mono ?_
  rintro e w1 ⟨rfl, rfl⟩
  go_wp2_with fail
  refine (HMS.out _).mono ?_
  rintro e w1 ⟨rfl, ho⟩
  have HO1 := Lib.hid (HO0.out.same ho)
  have HT1 := Lib.hid (HT0.out.later ho)
  obtain ⟨p3, k3, x3, hlk⟩ := HLK.out _ HT1.out
  clear c0 c1 c2
  obtain ⟨c0, c1, c2⟩ := HB.out _ ho
  have HB1 : Hid (∀ W, Only (fun _ => False) w1 W → W.cell? ⟨w.heap.size, 0, none⟩ = some (.int .i64 p) ∧ W.cell? ⟨w.heap.size, 1, none⟩ = some (.int .i64 k) ∧ W.cell? ⟨w.heap.size, 2, none⟩ = some (.string s)) := Lib.hid (fun W h => HB.out W (ho.same h))
  clear ho HB HLK HT0 HO0
  go_wp2_with fail
  refine (HLI.out _ HT1.out.box).mono ?_
  rintro e w2 ⟨rfl, rfl⟩
  go_wp2_with fail
  have ho3 : Only (fun _ => False) w2 (w2.alloc (opC p3 k3 x3)) := Only.alloc _ _ _
  have HO2 := Lib.hid (HO1.out.same ho3)
  have HT2 := Lib.hid (HT1.out.later ho3)
  have HB2 : Hid (∀ W, Only (fun _ => False) (w2.alloc (opC p3 k3 x3)) W → W.cell? ⟨w.heap.size, 0, none⟩ = some (.int .i64 p) ∧ W.cell? ⟨w.heap.size, 1, none⟩ = some (.int .i64 k) ∧ W.cell? ⟨w.heap.size, 2, none⟩ = some (.string s)) := Lib.hid (fun W h => HB1.out W (ho3.same h))
  clear c0 c1 c2 HB1 hlk
  obtain ⟨c0, c1, c2⟩ := HB2.out _ (Only.refl _ _)
  generalize w2.alloc (opC p3 k3 x3) = w4 at *
  have b0 := cell_of_blk HT2.out.box 0
  have b1 := cell_of_blk HT2.out.box 1
  simp only [List.getElem?_toArray, List.getElem?_cons_zero, List.getElem?_cons_succ] at b0 b1
  have hl1 : ∀ q ty, (Builtin.len_ #[50] ty #[.map (some mi)]).run Tryd.prog (w4.drewN q) = .ok (.int .i64 (Maps.size Di)) (w4.drewN q) := fun q ty => (HT2.out.later (Only.drewN _ w4 q)).lenI ty
  have hl2 : ∀ q ty, (Builtin.len_ #[50] ty #[.map (some mp)]).run Tryd.prog (w4.drewN q) = .ok (.int .i64 (Maps.size Dp)) (w4.drewN q) := fun q ty => (HT2.out.later (Only.drewN _ w4 q)).lenP ty
  go_quiet (fail)
  go_wp2_with fail
  generalize hw5 : w4.drewN nq = w5 at *
  have HO3 : Hid (Only (fun _ => False) w w5) := Lib.hid (by rw [← hw5]; exact HO2.out.same (Only.drewN _ _ _))
  have HT3 : Hid (Tb b mi mp n n Di Dp w5) := Lib.hid (by rw [← hw5]; exact HT2.out.later (Only.drewN _ _ _))
  have hsz : ∀ x ∈ [s], x.size ≤ 64 := by intro x hx; rw [List.mem_singleton] at hx; rw [hx]; exact h64
  have hz : w5.heap.size = w4.heap.size := by rw [← hw5]; rfl
  rw [← hz]
  refine (HT3.out.putsP p k [s] hk hsz (by simp; omega)).mono ?_
  rintro e w6 ⟨rfl, ht, ho⟩
  have HF : Hid (Tb b mi mp (n + 1) (n + 1) Di (Dp.put (keyN s) (opD p k s)) w6 ∧ Only (fun q => q = mi ∨ q = mp) w w6) := Lib.hid ⟨ht.mono (by simp) (by simp), (HO3.out.mono (fun _ _ e => e.elim)).same ho⟩
  clear ht ho
  go_wp2_with fail
  go_ret
  exact ⟨rfl, HF.out.1, HF.out.2⟩
set_option maxRecDepth 100000 in
set_option maxHeartbeats 4000000 in
theorem set_putIY {b mi mp n : Nat} {Di Dp : D1} {w : World} (h : Tb b mi mp n n Di Dp w) (p k : Int) (s : ByteArray) (h1 : ¬ p < 0) (h2 : ¬ p > 1200) (h3 : isTypeF k = true) (h4 : maysetB s = true) (hs : s.size ≤ maxLen) (hn : n ≤ 100000) (h64 : s.size ≤ 64) (hk : isPreF k = false) (h5 : p > 0) (h6 : Maps.has (sideD k Di Dp) (keyN s) = true) : Calls Tryd.prog 24 #[.pointer (some ⟨b, 0, none⟩), .agg #[.int .i64 p, .int .i64 k, .string s]] w fun e w' => e = .returned (.int .i64 0) ∧ Tb b mi mp (n + 1) (n + 1) (Di.put (keyN s) (opD p k s)) Dp w' ∧ Only (fun q => q = mi ∨ q = mp) w w' := by
  have ho0 : Only (fun _ => False) w (w.alloc (opC p k s)) := Only.alloc _ _ _
  have HT0 := Lib.hid (h.later ho0)
  have HO0 := Lib.hid ho0
  have HC : Hid (∀ W, BoxT b mi mp W → Calls Tryd.prog 30 #[.pointer (some ⟨b, 0, none⟩)] W fun e w' => e = .returned (.bool false) ∧ w' = W) := Lib.hid (closed_any b mi mp)
  have HB := opBoxes p k s w
  have HTY : Hid (∀ W, Calls Tryd.prog 46 #[.int .i64 k] W fun e w' => e = .returned (.bool (isTypeF k)) ∧ w' = W) := Lib.hid (isType_any k)
  have HMS : Hid (∀ W, Calls Tryd.prog 47 #[.string s] W fun e w' => e = .returned (.bool (maysetB s)) ∧ Only (fun _ => False) W w') := Lib.hid (maySet_any s)
  obtain ⟨c0, c1, c2⟩ := HB.out _ (Only.refl _ _)
  clear h ho0
  have HLI : Hid (∀ W, BoxT b mi mp W → Calls Tryd.prog 48 #[.pointer (some ⟨b, 0, none⟩), .int .i64 k] W fun e w' => e = .returned (.map (some (sideOf k mi mp))) ∧ w' = W) := Lib.hid (fun W hb => like_any b mi mp k W hb)
  have HLK : Hid (∀ W, Tb b mi mp n n Di Dp W → ∃ p k2 x, (Instr.lookup 50 (.map (some (sideOf k mi mp))) (.string s) true).run Tryd.prog W = .ok (.tuple #[.agg #[.int .i64 p, .int .i64 k2, .string x], .bool (Maps.has (sideD k Di Dp) (keyN s))]) W) := Lib.hid (fun W hW => by
    obtain ⟨p, k2, x, h, _⟩ := look_any (hW.side k) s hs
    exact ⟨p, k2, x, h⟩)
  rw [h3] at HTY
  rw [h4] at HMS
  rw [h6] at HLK
  have h5d : decide (p > 0) = true := decide_eq_true h5
  clear h3 h4 h6
  go_enter Tryd.func24, Tryd.ntmps24
  go_wp2_with fail
  refine (HC.out _ HT0.out.box).mono ?_
  rintro e w1 ⟨rfl, rfl⟩
  generalize hw0 : w.alloc (opC p k s) = w0 at *
  go_wp2_with fail
  refine (HTY.out _).mono ?_
  rintro e w1 ⟨rfl, rfl⟩
  go_wp2_with fail
  refine (HMS.out _).mono ?_
  rintro e w1 ⟨rfl, ho⟩
  have HO1 := Lib.hid (HO0.out.same ho)
  have HT1 := Lib.hid (HT0.out.later ho)
  obtain ⟨p3, k3, x3, hlk⟩ := HLK.out _ HT1.out
  clear c0 c1 c2
  obtain ⟨c0, c1, c2⟩ := HB.out _ ho
  have HB1 : Hid (∀ W, Only (fun _ => False) w1 W → W.cell? ⟨w.heap.size, 0, none⟩ = some (.int .i64 p) ∧ W.cell? ⟨w.heap.size, 1, none⟩ = some (.int .i64 k) ∧ W.cell? ⟨w.heap.size, 2, none⟩ = some (.string s)) := Lib.hid (fun W h => HB.out W (ho.same h))
  clear ho HB HLK HT0 HO0
  go_wp2_with fail
  refine (HLI.out _ HT1.out.box).mono ?_
  rintro e w2 ⟨rfl, rfl⟩
  go_wp2_with fail
  have ho3 : Only (fun _ => False) w2 (w2.alloc (opC p3 k3 x3)) := Only.alloc _ _ _
  have HO2 := Lib.hid (HO1.out.same ho3)
  have HT2 := Lib.hid (HT1.out.later ho3)
  have HB2 : Hid (∀ W, Only (fun _ => False) (w2.alloc (opC p3 k3 x3)) W → W.cell? ⟨w.heap.size, 0, none⟩ = some (.int .i64 p) ∧ W.cell? ⟨w.heap.size, 1, none⟩ = some (.int .i64 k) ∧ W.cell? ⟨w.heap.size, 2, none⟩ = some (.string s)) := Lib.hid (fun W h => HB1.out W (ho3.same h))
  clear c0 c1 c2 HB1 hlk
  obtain ⟨c0, c1, c2⟩ := HB2.out _ (Only.refl _ _)
  generalize w2.alloc (opC p3 k3 x3) = w4 at *
  have b0 := cell_of_blk HT2.out.box 0
  have b1 := cell_of_blk HT2.out.box 1
  simp only [List.getElem?_toArray, List.getElem?_cons_zero, List.getElem?_cons_succ] at b0 b1
  have hl1 : ∀ q ty, (Builtin.len_ #[50] ty #[.map (some mi)]).run Tryd.prog (w4.drewN q) = .ok (.int .i64 (Maps.size Di)) (w4.drewN q) := fun q ty => (HT2.out.later (Only.drewN _ w4 q)).lenI ty
  have hl2 : ∀ q ty, (Builtin.len_ #[50] ty #[.map (some mp)]).run Tryd.prog (w4.drewN q) = .ok (.int .i64 (Maps.size Dp)) (w4.drewN q) := fun q ty => (HT2.out.later (Only.drewN _ w4 q)).lenP ty
  go_quiet (fail)
  go_wp2_with fail
  generalize hw5 : w4.drewN nq = w5 at *
  have HO3 : Hid (Only (fun _ => False) w w5) := Lib.hid (by rw [← hw5]; exact HO2.out.same (Only.drewN _ _ _))
  have HT3 : Hid (Tb b mi mp n n Di Dp w5) := Lib.hid (by rw [← hw5]; exact HT2.out.later (Only.drewN _ _ _))
  have hsz : ∀ x ∈ [s], x.size ≤ 64 := by intro x hx; rw [List.mem_singleton] at hx; rw [hx]; exact h64
  have hz : w5.heap.size = w4.heap.size := by rw [← hw5]; rfl
  rw [← hz]
  refine (HT3.out.putsI p k [s] hk hsz (by simp; omega)).mono ?_
  rintro e w6 ⟨rfl, ht, ho⟩
  have HF : Hid (Tb b mi mp (n + 1) (n + 1) (Di.put (keyN s) (opD p k s)) Dp w6 ∧ Only (fun q => q = mi ∨ q = mp) w w6) := Lib.hid ⟨ht.mono (by simp) (by simp), (HO3.out.mono (fun _ _ e => e.elim)).same ho⟩
  clear ht ho
  go_wp2_with fail
  go_ret
  exact ⟨rfl, HF.out.1, HF.out.2⟩
set_option maxRecDepth 100000 in
set_option maxHeartbeats 4000000 in
theorem set_putIN {b mi mp n : Nat} {Di Dp : D1} {w : World} (h : Tb b mi mp n n Di Dp w) (p k : Int) (s : ByteArray) (h1 : ¬ p < 0) (h2 : ¬ p > 1200) (h3 : isTypeF k = true) (h4 : maysetB s = true) (hs : s.size ≤ maxLen) (hn : n ≤ 100000) (h64 : s.size ≤ 64) (hk : isPreF k = false) (h5 : p > 0) (h6 : Maps.has (sideD k Di Dp) (keyN s) = false) (h7 : Maps.size Di + Maps.size Dp < 64) : Calls Tryd.prog 24 #[.pointer (some ⟨b, 0, none⟩), .agg #[.int .i64 p, .int .i64 k, .string s]] w fun e w' => e = .returned (.int .i64 0) ∧ Tb b mi mp (n + 1) (n + 1) (Di.put (keyN s) (opD p k s)) Dp w' ∧ Only (fun q => q = mi ∨ q = mp) w w' := by
  have hwr : wrap64 ((Maps.size Di : Nat) + (Maps.size Dp : Nat) : Int) = ((Maps.size Di : Nat) + (Maps.size Dp : Nat) : Int) := by
    have g1 := h.i.size_le
    have g2 := h.p.size_le
    unfold wrap64
    omega
  have h7i : ((Maps.size Di : Nat) + (Maps.size Dp : Nat) : Int) < 64 := by omega
  have ho0 : Only (fun _ => False) w (w.alloc (opC p k s)) := Only.alloc _ _ _
  have HT0 := Lib.hid (h.later ho0)
  have HO0 := Lib.hid ho0
  have HC : Hid (∀ W, BoxT b mi mp W → Calls Tryd.prog 30 #[.pointer (some ⟨b, 0, none⟩)] W fun e w' => e = .returned (.bool false) ∧ w' = W) := Lib.hid (closed_any b mi mp)
  have HB := opBoxes p k s w
  have HTY : Hid (∀ W, Calls Tryd.prog 46 #[.int .i64 k] W fun e w' => e = .returned (.bool (isTypeF k)) ∧ w' = W) := Lib.hid (isType_any k)
  have HMS : Hid (∀ W, Calls Tryd.prog 47 #[.string s] W fun e w' => e = .returned (.bool (maysetB s)) ∧ Only (fun _ => False) W w') := Lib.hid (maySet_any s)
  obtain ⟨c0, c1, c2⟩ := HB.out _ (Only.refl _ _)
  clear h ho0
  have HLI : Hid (∀ W, BoxT b mi mp W → Calls Tryd.prog 48 #[.pointer (some ⟨b, 0, none⟩), .int .i64 k] W fun e w' => e = .returned (.map (some (sideOf k mi mp))) ∧ w' = W) := Lib.hid (fun W hb => like_any b mi mp k W hb)
  have HLK : Hid (∀ W, Tb b mi mp n n Di Dp W → ∃ p k2 x, (Instr.lookup 50 (.map (some (sideOf k mi mp))) (.string s) true).run Tryd.prog W = .ok (.tuple #[.agg #[.int .i64 p, .int .i64 k2, .string x], .bool (Maps.has (sideD k Di Dp) (keyN s))]) W) := Lib.hid (fun W hW => by
    obtain ⟨p, k2, x, h, _⟩ := look_any (hW.side k) s hs
    exact ⟨p, k2, x, h⟩)
  rw [h3] at HTY
  rw [h4] at HMS
  rw [h6] at HLK
  have h5d : decide (p > 0) = true := decide_eq_true h5
  clear h7
  clear h3 h4 h6
  go_enter Tryd.func24, Tryd.ntmps24
  go_wp2_with fail
  refine (HC.out _ HT0.out.box).mono ?_
  rintro e w1 ⟨rfl, rfl⟩
  generalize hw0 : w.alloc (opC p k s) = w0 at *
  go_wp2_with fail
  refine (HTY.out _).mono ?_
  rintro e w1 ⟨rfl, rfl⟩
  go_wp2_with fail
  refine (HMS.out _).mono ?_
  rintro e w1 ⟨rfl, ho⟩
  have HO1 := Lib.hid (HO0.out.same ho)
  have HT1 := Lib.hid (HT0.out.later ho)
  obtain ⟨p3, k3, x3, hlk⟩ := HLK.out _ HT1.out
  clear c0 c1 c2
  obtain ⟨c0, c1, c2⟩ := HB.out _ ho
  have HB1 : Hid (∀ W, Only (fun _ => False) w1 W → W.cell? ⟨w.heap.size, 0, none⟩ = some (.int .i64 p) ∧ W.cell? ⟨w.heap.size, 1, none⟩ = some (.int .i64 k) ∧ W.cell? ⟨w.heap.size, 2, none⟩ = some (.string s)) := Lib.hid (fun W h => HB.out W (ho.same h))
  clear ho HB HLK HT0 HO0
  go_wp2_with fail
  refine (HLI.out _ HT1.out.box).mono ?_
  rintro e w2 ⟨rfl, rfl⟩
  go_wp2_with fail
  have ho3 : Only (fun _ => False) w2 (w2.alloc (opC p3 k3 x3)) := Only.alloc _ _ _
  have HO2 := Lib.hid (HO1.out.same ho3)
  have HT2 := Lib.hid (HT1.out.later ho3)
  have HB2 : Hid (∀ W, Only (fun _ => False) (w2.alloc (opC p3 k3 x3)) W → W.cell? ⟨w.heap.size, 0, none⟩ = some (.int .i64 p) ∧ W.cell? ⟨w.heap.size, 1, none⟩ = some (.int .i64 k) ∧ W.cell? ⟨w.heap.size, 2, none⟩ = some (.string s)) := Lib.hid (fun W h => HB1.out W (ho3.same h))
  clear c0 c1 c2 HB1 hlk
  obtain ⟨c0, c1, c2⟩ := HB2.out _ (Only.refl _ _)
  generalize w2.alloc (opC p3 k3 x3) = w4 at *
  have b0 := cell_of_blk HT2.out.box 0
  have b1 := cell_of_blk HT2.out.box 1
  simp only [List.getElem?_toArray, List.getElem?_cons_zero, List.getElem?_cons_succ] at b0 b1
  have hl1 : ∀ q ty, (Builtin.len_ #[50] ty #[.map (some mi)]).run Tryd.prog (w4.drewN q) = .ok (.int .i64 (Maps.size Di)) (w4.drewN q) := fun q ty => (HT2.out.later (Only.drewN _ w4 q)).lenI ty
  have hl2 : ∀ q ty, (Builtin.len_ #[50] ty #[.map (some mp)]).run Tryd.prog (w4.drewN q) = .ok (.int .i64 (Maps.size Dp)) (w4.drewN q) := fun q ty => (HT2.out.later (Only.drewN _ w4 q)).lenP ty
  go_quiet (fail)
  go_wp2_with fail
  generalize hw5 : w4.drewN nq = w5 at *
  have HO3 : Hid (Only (fun _ => False) w w5) := Lib.hid (by rw [← hw5]; exact HO2.out.same (Only.drewN _ _ _))
  have HT3 : Hid (Tb b mi mp n n Di Dp w5) := Lib.hid (by rw [← hw5]; exact HT2.out.later (Only.drewN _ _ _))
  have hsz : ∀ x ∈ [s], x.size ≤ 64 := by intro x hx; rw [List.mem_singleton] at hx; rw [hx]; exact h64
  have hz : w5.heap.size = w4.heap.size := by rw [← hw5]; rfl
  rw [← hz]
  refine (HT3.out.putsI p k [s] hk hsz (by simp; omega)).mono ?_
  rintro e w6 ⟨rfl, ht, ho⟩
  have HF : Hid (Tb b mi mp (n + 1) (n + 1) (Di.put (keyN s) (opD p k s)) Dp w6 ∧ Only (fun q => q = mi ∨ q = mp) w w6) := Lib.hid ⟨ht.mono (by simp) (by simp), (HO3.out.mono (fun _ _ e => e.elim)).same ho⟩
  clear ht ho
  go_wp2_with fail
  go_ret
  exact ⟨rfl, HF.out.1, HF.out.2⟩
set_option maxRecDepth 100000 in
set_option maxHeartbeats 4000000 in
theorem set_none {b mi mp n : Nat} {Di Dp : D1} {w : World} (h : Tb b mi mp n n Di Dp w) (p k : Int) (s : ByteArray) (h1 : ¬ p < 0) (h2 : ¬ p > 1200) (h3 : isTypeF k = true) (h4 : maysetB s = true) (hs : s.size ≤ maxLen) (hn : n ≤ 100000) (h5 : ¬ p > 0) (h6 : Maps.has (sideD k Di Dp) (keyN s) = false) : Calls Tryd.prog 24 #[.pointer (some ⟨b, 0, none⟩), .agg #[.int .i64 p, .int .i64 k, .string s]] w fun e w' => e = .returned (.int .i64 4) ∧ Only (fun _ => False) w w' := by
  have ho0 : Only (fun _ => False) w (w.alloc (opC p k s)) := Only.alloc _ _ _
  have HT0 := Lib.hid (h.later ho0)
  have HO0 := Lib.hid ho0
  have HC : Hid (∀ W, BoxT b mi mp W → Calls Tryd.prog 30 #[.pointer (some ⟨b, 0, none⟩)] W fun e w' => e = .returned (.bool false) ∧ w' = W) := Lib.hid (closed_any b mi mp)
  have HB := opBoxes p k s w
  have HTY : Hid (∀ W, Calls Tryd.prog 46 #[.int .i64 k] W fun e w' => e = .returned (.bool (isTypeF k)) ∧ w' = W) := Lib.hid (isType_any k)
  have HMS : Hid (∀ W, Calls Tryd.prog 47 #[.string s] W fun e w' => e = .returned (.bool (maysetB s)) ∧ Only (fun _ => False) W w') := Lib.hid (maySet_any s)
  obtain ⟨c0, c1, c2⟩ := HB.out _ (Only.refl _ _)
  clear h ho0
  have HLI : Hid (∀ W, BoxT b mi mp W → Calls Tryd.prog 48 #[.pointer (some ⟨b, 0, none⟩), .int .i64 k] W fun e w' => e = .returned (.map (some (sideOf k mi mp))) ∧ w' = W) := Lib.hid (fun W hb => like_any b mi mp k W hb)
  have HLK : Hid (∀ W, Tb b mi mp n n Di Dp W → ∃ p k2 x, (Instr.lookup 50 (.map (some (sideOf k mi mp))) (.string s) true).run Tryd.prog W = .ok (.tuple #[.agg #[.int .i64 p, .int .i64 k2, .string x], .bool (Maps.has (sideD k Di Dp) (keyN s))]) W) := Lib.hid (fun W hW => by
    obtain ⟨p, k2, x, h, _⟩ := look_any (hW.side k) s hs
    exact ⟨p, k2, x, h⟩)
  rw [h3] at HTY
  rw [h4] at HMS
  rw [h6] at HLK
  have h5d : decide (p > 0) = false := decide_eq_false h5
  clear h3 h4 h6
  go_enter Tryd.func24, Tryd.ntmps24
  go_wp2_with fail
  refine (HC.out _ HT0.out.box).mono ?_
  rintro e w1 ⟨rfl, rfl⟩
  generalize hw0 : w.alloc (opC p k s) = w0 at *
  go_wp2_with fail
  refine (HTY.out _).mono ?_
  rintro e w1 ⟨rfl, rfl⟩
  go_wp2_with fail
  refine (HMS.out _).mono ?_
  rintro e w1 ⟨rfl, ho⟩
  have HO1 := Lib.hid (HO0.out.same ho)
  have HT1 := Lib.hid (HT0.out.later ho)
  obtain ⟨p3, k3, x3, hlk⟩ := HLK.out _ HT1.out
  clear c0 c1 c2
  obtain ⟨c0, c1, c2⟩ := HB.out _ ho
  have HB1 : Hid (∀ W, Only (fun _ => False) w1 W → W.cell? ⟨w.heap.size, 0, none⟩ = some (.int .i64 p) ∧ W.cell? ⟨w.heap.size, 1, none⟩ = some (.int .i64 k) ∧ W.cell? ⟨w.heap.size, 2, none⟩ = some (.string s)) := Lib.hid (fun W h => HB.out W (ho.same h))
  clear ho HB HLK HT0 HO0
  go_wp2_with fail
  refine (HLI.out _ HT1.out.box).mono ?_
  rintro e w2 ⟨rfl, rfl⟩
  go_wp2_with fail
  have ho3 : Only (fun _ => False) w2 (w2.alloc (opC p3 k3 x3)) := Only.alloc _ _ _
  have HO2 := Lib.hid (HO1.out.same ho3)
  have HT2 := Lib.hid (HT1.out.later ho3)
  have HB2 : Hid (∀ W, Only (fun _ => False) (w2.alloc (opC p3 k3 x3)) W → W.cell? ⟨w.heap.size, 0, none⟩ = some (.int .i64 p) ∧ W.cell? ⟨w.heap.size, 1, none⟩ = some (.int .i64 k) ∧ W.cell? ⟨w.heap.size, 2, none⟩ = some (.string s)) := Lib.hid (fun W h => HB1.out W (ho3.same h))
  clear c0 c1 c2 HB1 hlk
  obtain ⟨c0, c1, c2⟩ := HB2.out _ (Only.refl _ _)
  generalize w2.alloc (opC p3 k3 x3) = w4 at *
  have b0 := cell_of_blk HT2.out.box 0
  have b1 := cell_of_blk HT2.out.box 1
  simp only [List.getElem?_toArray, List.getElem?_cons_zero, List.getElem?_cons_succ] at b0 b1
  have hl1 : ∀ q ty, (Builtin.len_ #[50] ty #[.map (some mi)]).run Tryd.prog (w4.drewN q) = .ok (.int .i64 (Maps.size Di)) (w4.drewN q) := fun q ty => (HT2.out.later (Only.drewN _ w4 q)).lenI ty
  have hl2 : ∀ q ty, (Builtin.len_ #[50] ty #[.map (some mp)]).run Tryd.prog (w4.drewN q) = .ok (.int .i64 (Maps.size Dp)) (w4.drewN q) := fun q ty => (HT2.out.later (Only.drewN _ w4 q)).lenP ty
  go_quiet (fail)
  go_wp2_with fail
  go_ret
  exact ⟨rfl, HO2.out.same (Only.drewN _ _ _)⟩
set_option maxRecDepth 100000 in
set_option maxHeartbeats 4000000 in
theorem set_out {b mi mp n : Nat} {Di Dp : D1} {w : World} (h : Tb b mi mp n n Di Dp w) (p k : Int) (s : ByteArray) (h1 : ¬ p < 0) (h2 : ¬ p > 1200) (h3 : isTypeF k = true) (h4 : maysetB s = true) (hs : s.size ≤ maxLen) (hn : n ≤ 100000) (h5 : ¬ p > 0) (h6 : Maps.has (sideD k Di Dp) (keyN s) = true) : Calls Tryd.prog 24 #[.pointer (some ⟨b, 0, none⟩), .agg #[.int .i64 p, .int .i64 k, .string s]] w fun e w' => e = .returned (.int .i64 0) ∧ OMap w' (sideOf k mi mp) n ((sideD k Di Dp).del (keyN s)) ∧ Only (fun q => q = sideOf k mi mp) w w' := by
  have ho0 : Only (fun _ => False) w (w.alloc (opC p k s)) := Only.alloc _ _ _
  have HT0 := Lib.hid (h.later ho0)
  have HO0 := Lib.hid ho0
  have HC : Hid (∀ W, BoxT b mi mp W → Calls Tryd.prog 30 #[.pointer (some ⟨b, 0, none⟩)] W fun e w' => e = .returned (.bool false) ∧ w' = W) := Lib.hid (closed_any b mi mp)
  have HB := opBoxes p k s w
  have HTY : Hid (∀ W, Calls Tryd.prog 46 #[.int .i64 k] W fun e w' => e = .returned (.bool (isTypeF k)) ∧ w' = W) := Lib.hid (isType_any k)
  have HMS : Hid (∀ W, Calls Tryd.prog 47 #[.string s] W fun e w' => e = .returned (.bool (maysetB s)) ∧ Only (fun _ => False) W w') := Lib.hid (maySet_any s)
  obtain ⟨c0, c1, c2⟩ := HB.out _ (Only.refl _ _)
  clear h ho0
  have HLI : Hid (∀ W, BoxT b mi mp W → Calls Tryd.prog 48 #[.pointer (some ⟨b, 0, none⟩), .int .i64 k] W fun e w' => e = .returned (.map (some (sideOf k mi mp))) ∧ w' = W) := Lib.hid (fun W hb => like_any b mi mp k W hb)
  have HLK : Hid (∀ W, Tb b mi mp n n Di Dp W → ∃ p k2 x, (Instr.lookup 50 (.map (some (sideOf k mi mp))) (.string s) true).run Tryd.prog W = .ok (.tuple #[.agg #[.int .i64 p, .int .i64 k2, .string x], .bool (Maps.has (sideD k Di Dp) (keyN s))]) W) := Lib.hid (fun W hW => by
    obtain ⟨p, k2, x, h, _⟩ := look_any (hW.side k) s hs
    exact ⟨p, k2, x, h⟩)
  rw [h3] at HTY
  rw [h4] at HMS
  rw [h6] at HLK
  have h5d : decide (p > 0) = false := decide_eq_false h5
  have hkey := keyOfM hs
  clear h3 h4 h6
  go_enter Tryd.func24, Tryd.ntmps24
  go_wp2_with fail
  refine (HC.out _ HT0.out.box).mono ?_
  rintro e w1 ⟨rfl, rfl⟩
  generalize hw0 : w.alloc (opC p k s) = w0 at *
  go_wp2_with fail
  refine (HTY.out _).mono ?_
  rintro e w1 ⟨rfl, rfl⟩
  go_wp2_with fail
  refine (HMS.out _).mono ?_
  rintro e w1 ⟨rfl, ho⟩
  have HO1 := Lib.hid (HO0.out.same ho)
  have HT1 := Lib.hid (HT0.out.later ho)
  obtain ⟨p3, k3, x3, hlk⟩ := HLK.out _ HT1.out
  clear c0 c1 c2
  obtain ⟨c0, c1, c2⟩ := HB.out _ ho
  have HB1 : Hid (∀ W, Only (fun _ => False) w1 W → W.cell? ⟨w.heap.size, 0, none⟩ = some (.int .i64 p) ∧ W.cell? ⟨w.heap.size, 1, none⟩ = some (.int .i64 k) ∧ W.cell? ⟨w.heap.size, 2, none⟩ = some (.string s)) := Lib.hid (fun W h => HB.out W (ho.same h))
  clear ho HB HLK HT0 HO0
  go_wp2_with fail
  refine (HLI.out _ HT1.out.box).mono ?_
  rintro e w2 ⟨rfl, rfl⟩
  go_wp2_with fail
  have ho3 : Only (fun _ => False) w2 (w2.alloc (opC p3 k3 x3)) := Only.alloc _ _ _
  have HO2 := Lib.hid (HO1.out.same ho3)
  have HT2 := Lib.hid (HT1.out.later ho3)
  have HB2 : Hid (∀ W, Only (fun _ => False) (w2.alloc (opC p3 k3 x3)) W → W.cell? ⟨w.heap.size, 0, none⟩ = some (.int .i64 p) ∧ W.cell? ⟨w.heap.size, 1, none⟩ = some (.int .i64 k) ∧ W.cell? ⟨w.heap.size, 2, none⟩ = some (.string s)) := Lib.hid (fun W h => HB1.out W (ho3.same h))
  clear c0 c1 c2 HB1 hlk
  obtain ⟨c0, c1, c2⟩ := HB2.out _ (Only.refl _ _)
  generalize w2.alloc (opC p3 k3 x3) = w4 at *
  have b0 := cell_of_blk HT2.out.box 0
  have b1 := cell_of_blk HT2.out.box 1
  simp only [List.getElem?_toArray, List.getElem?_cons_zero, List.getElem?_cons_succ] at b0 b1
  have hl1 : ∀ q ty, (Builtin.len_ #[50] ty #[.map (some mi)]).run Tryd.prog (w4.drewN q) = .ok (.int .i64 (Maps.size Di)) (w4.drewN q) := fun q ty => (HT2.out.later (Only.drewN _ w4 q)).lenI ty
  have hl2 : ∀ q ty, (Builtin.len_ #[50] ty #[.map (some mp)]).run Tryd.prog (w4.drewN q) = .ok (.int .i64 (Maps.size Dp)) (w4.drewN q) := fun q ty => (HT2.out.later (Only.drewN _ w4 q)).lenP ty
  go_quiet (fail)
  have HO3 := Lib.hid (HO2.out.same (Only.drewN _ w4 nq))
  have HM3 : Hid (OMap (w4.drewN nq) (sideOf k mi mp) n (sideD k Di Dp)) := Lib.hid (map_only (HT2.out.side k) (Only.drewN (fun _ => False) w4 nq) (fun e => e))
  go_wp2_with (first
    | (at_delete; refine wpList_delete_own _ rfl _ _ 50 9 rfl 32 keyed Tryd.underlying50 opR (sideOf k mi mp) n (sideD k Di Dp) rfl HM3.out _ _ rfl hkey ?_; intro w5 hown5 hturn5
       have HF : Hid (OMap w5 (sideOf k mi mp) n ((sideD k Di Dp).del (keyN s)) ∧ Only (fun q => q = sideOf k mi mp) w w5) := Lib.hid ⟨hown5, (HO3.out.mono (fun _ _ e => e.elim)).same (Only.turned hturn5)⟩
       clear hown5 hturn5)
    | fail)
  go_ret
  exact ⟨rfl, HF.out.1, HF.out.2⟩
end Go.Proofs.YtodgjkdhkohckaaDoor.opers
