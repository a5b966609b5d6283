/- Operators: an operator is set. -/
import Derived.Test.YtodgjkdhkohckaaDoorOper10
namespace Go.Proofs.YtodgjkdhkohckaaDoor.opers
open Go.RowKit Go.Proofs.YtodgjkdhkohckaaDoor.own Go.Maps Go.Proofs.YtodgjkdhkohckaaDoor.toks
def sideD (k : Int) (Di Dp : D1) : D1 := if isPreF k = true then Dp else Di
def setE (Di Dp : D1) (p k : Int) (s : ByteArray) : Int :=
  if p < 0 then 1 else if 1200 < p then 1 else if isTypeF k = false then 1 else if maysetB s = false then 90 else
  if 0 < p then (if Maps.has (sideD k Di Dp) (keyN s) = true then 0 else if 64 ≤ Maps.size Di + Maps.size Dp then 2 else 0)
  else if Maps.has (sideD k Di Dp) (keyN s) = true then 0 else 4
def newD (D : D1) (p k : Int) (s : ByteArray) : D1 := if 0 < p then D.put (keyN s) (opD p k s) else D.del (keyN s)
def setI (Di Dp : D1) (p k : Int) (s : ByteArray) : D1 := if setE Di Dp p k s = 0 then (if isPreF k = true then Di else newD Di p k s) else Di
def setP (Di Dp : D1) (p k : Int) (s : ByteArray) : D1 := if setE Di Dp p k s = 0 then (if isPreF k = true then newD Dp p k s else Dp) else Dp
theorem setI_no {Di Dp : D1} {p k : Int} {s : ByteArray} (h : setE Di Dp p k s ≠ 0) : setI Di Dp p k s = Di := by unfold setI; rw [if_neg h]
theorem setP_no {Di Dp : D1} {p k : Int} {s : ByteArray} (h : setE Di Dp p k s ≠ 0) : setP Di Dp p k s = Dp := by unfold setP; rw [if_neg h]
theorem opBoxes (p k : Int) (n : ByteArray) (w : World) : Hid (∀ W, Only (fun _ => False) (w.alloc (opC p k n)) W → W.cell? ⟨w.heap.size, 0, none⟩ = some (.int .i64 p) ∧ W.cell? ⟨w.heap.size, 1, none⟩ = some (.int .i64 k) ∧ W.cell? ⟨w.heap.size, 2, none⟩ = some (.string n)) := Lib.hid (fun W ho => ((OpAt.new p k n w).later ho).cells)
set_option maxRecDepth 100000 in
set_option maxHeartbeats 4000000 in
theorem set_neg {b mi mp ni np : Nat} {Di Dp : D1} {w : World} (h : Tb b mi mp ni np Di Dp w) (p k : Int) (s : ByteArray) (h1 : p < 0) : Calls Tryd.prog 24 #[.pointer (some ⟨b, 0, none⟩), .agg #[.int .i64 p, .int .i64 k, .string s]] w fun e w' => e = .returned (.int .i64 1) ∧ Only (fun _ => False) w w' := by
  have ho0 : Only (fun _ => False) w (w.alloc (opC p k s)) := Only.alloc _ _ _
  have HT0 := Lib.hid (h.later ho0)
  have HO0 := Lib.hid ho0
  have HC : Hid (∀ W, BoxT b mi mp W → Calls Tryd.prog 30 #[.pointer (some ⟨b, 0, none⟩)] W fun e w' => e = .returned (.bool false) ∧ w' = W) := Lib.hid (closed_any b mi mp)
  have HB := opBoxes p k s w
  have HTY : Hid (∀ W, Calls Tryd.prog 46 #[.int .i64 k] W fun e w' => e = .returned (.bool (isTypeF k)) ∧ w' = W) := Lib.hid (isType_any k)
  have HMS : Hid (∀ W, Calls Tryd.prog 47 #[.string s] W fun e w' => e = .returned (.bool (maysetB s)) ∧ Only (fun _ => False) W w') := Lib.hid (maySet_any s)
  obtain ⟨c0, c1, c2⟩ := HB.out _ (Only.refl _ _)
  clear h ho0
  go_enter Tryd.func24, Tryd.ntmps24
  go_wp2_with fail
  refine (HC.out _ HT0.out.box).mono ?_
  rintro e w1 ⟨rfl, rfl⟩
  generalize hw0 : w.alloc (opC p k s) = w0 at *
  go_wp2_with fail
  go_ret
  exact ⟨rfl, HO0.out⟩
set_option maxRecDepth 100000 in
set_option maxHeartbeats 4000000 in
theorem set_big {b mi mp ni np : Nat} {Di Dp : D1} {w : World} (h : Tb b mi mp ni np Di Dp w) (p k : Int) (s : ByteArray) (h1 : ¬ p < 0) (h2 : p > 1200) : Calls Tryd.prog 24 #[.pointer (some ⟨b, 0, none⟩), .agg #[.int .i64 p, .int .i64 k, .string s]] w fun e w' => e = .returned (.int .i64 1) ∧ Only (fun _ => False) w w' := by
  have ho0 : Only (fun _ => False) w (w.alloc (opC p k s)) := Only.alloc _ _ _
  have HT0 := Lib.hid (h.later ho0)
  have HO0 := Lib.hid ho0
  have HC : Hid (∀ W, BoxT b mi mp W → Calls Tryd.prog 30 #[.pointer (some ⟨b, 0, none⟩)] W fun e w' => e = .returned (.bool false) ∧ w' = W) := Lib.hid (closed_any b mi mp)
  have HB := opBoxes p k s w
  have HTY : Hid (∀ W, Calls Tryd.prog 46 #[.int .i64 k] W fun e w' => e = .returned (.bool (isTypeF k)) ∧ w' = W) := Lib.hid (isType_any k)
  have HMS : Hid (∀ W, Calls Tryd.prog 47 #[.string s] W fun e w' => e = .returned (.bool (maysetB s)) ∧ Only (fun _ => False) W w') := Lib.hid (maySet_any s)
  obtain ⟨c0, c1, c2⟩ := HB.out _ (Only.refl _ _)
  clear h ho0
  go_enter Tryd.func24, Tryd.ntmps24
  go_wp2_with fail
  refine (HC.out _ HT0.out.box).mono ?_
  rintro e w1 ⟨rfl, rfl⟩
  generalize hw0 : w.alloc (opC p k s) = w0 at *
  go_wp2_with fail
  go_ret
  exact ⟨rfl, HO0.out⟩
set_option maxRecDepth 100000 in
set_option maxHeartbeats 4000000 in
theorem set_type {b mi mp ni np : Nat} {Di Dp : D1} {w : World} (h : Tb b mi mp ni np Di Dp w) (p k : Int) (s : ByteArray) (h1 : ¬ p < 0) (h2 : ¬ p > 1200) (h3 : isTypeF k = false) : Calls Tryd.prog 24 #[.pointer (some ⟨b, 0, none⟩), .agg #[.int .i64 p, .int .i64 k, .string s]] w fun e w' => e = .returned (.int .i64 1) ∧ Only (fun _ => False) w w' := by
  have ho0 : Only (fun _ => False) w (w.alloc (opC p k s)) := Only.alloc _ _ _
  have HT0 := Lib.hid (h.later ho0)
  have HO0 := Lib.hid ho0
  have HC : Hid (∀ W, BoxT b mi mp W → Calls Tryd.prog 30 #[.pointer (some ⟨b, 0, none⟩)] W fun e w' => e = .returned (.bool false) ∧ w' = W) := Lib.hid (closed_any b mi mp)
  have HB := opBoxes p k s w
  have HTY : Hid (∀ W, Calls Tryd.prog 46 #[.int .i64 k] W fun e w' => e = .returned (.bool (isTypeF k)) ∧ w' = W) := Lib.hid (isType_any k)
  have HMS : Hid (∀ W, Calls Tryd.prog 47 #[.string s] W fun e w' => e = .returned (.bool (maysetB s)) ∧ Only (fun _ => False) W w') := Lib.hid (maySet_any s)
  obtain ⟨c0, c1, c2⟩ := HB.out _ (Only.refl _ _)
  clear h ho0
  rw [h3] at HTY
  clear h3
  go_enter Tryd.func24, Tryd.ntmps24
  go_wp2_with fail
  refine (HC.out _ HT0.out.box).mono ?_
  rintro e w1 ⟨rfl, rfl⟩
  generalize hw0 : w.alloc (opC p k s) = w0 at *
  go_wp2_with fail
  refine (HTY.out _).mono ?_
  rintro e w1 ⟨rfl, rfl⟩
  go_wp2_with fail
  go_ret
  exact ⟨rfl, HO0.out⟩
set_option maxRecDepth 100000 in
set_option maxHeartbeats 4000000 in
theorem set_name {b mi mp ni np : Nat} {Di Dp : D1} {w : World} (h : Tb b mi mp ni np Di Dp w) (p k : Int) (s : ByteArray) (h1 : ¬ p < 0) (h2 : ¬ p > 1200) (h3 : isTypeF k = true) (h4 : maysetB s = false) : Calls Tryd.prog 24 #[.pointer (some ⟨b, 0, none⟩), .agg #[.int .i64 p, .int .i64 k, .string s]] w fun e w' => e = .returned (.int .i64 90) ∧ Only (fun _ => False) w w' := by
  have ho0 : Only (fun _ => False) w (w.alloc (opC p k s)) := Only.alloc _ _ _
  have HT0 := Lib.hid (h.later ho0)
  have HO0 := Lib.hid ho0
  have HC : Hid (∀ W, BoxT b mi mp W → Calls Tryd.prog 30 #[.pointer (some ⟨b, 0, none⟩)] W fun e w' => e = .returned (.bool false) ∧ w' = W) := Lib.hid (closed_any b mi mp)
  have HB := opBoxes p k s w
  have HTY : Hid (∀ W, Calls Tryd.prog 46 #[.int .i64 k] W fun e w' => e = .returned (.bool (isTypeF k)) ∧ w' = W) := Lib.hid (isType_any k)
  have HMS : Hid (∀ W, Calls Tryd.prog 47 #[.string s] W fun e w' => e = .returned (.bool (maysetB s)) ∧ Only (fun _ => False) W w') := Lib.hid (maySet_any s)
  obtain ⟨c0, c1, c2⟩ := HB.out _ (Only.refl _ _)
  clear h ho0
  rw [h3] at HTY
  rw [h4] at HMS
  clear h3 h4
  go_enter Tryd.func24, Tryd.ntmps24
  go_wp2_with fail
  refine (HC.out _ HT0.out.box).mono ?_
  rintro e w1 ⟨rfl, rfl⟩
  generalize hw0 : w.alloc (opC p k s) = w0 at *
  go_wp2_with fail
  refine (HTY.out _).mono ?_
  rintro e w1 ⟨rfl, rfl⟩
  go_wp2_with fail
  refine (HMS.out _).mono ?_
  rintro e w1 ⟨rfl, ho⟩
  have HO1 := Lib.hid (HO0.out.same ho)
  clear ho
  go_wp2_with fail
  go_ret
  exact ⟨rfl, HO1.out⟩
end Go.Proofs.YtodgjkdhkohckaaDoor.opers
