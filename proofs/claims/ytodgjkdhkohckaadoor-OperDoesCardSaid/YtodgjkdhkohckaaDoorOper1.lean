/- Operators: what needs no table, the program's and the reference's. -/
import Derived.Test.YtodgjkdhkohckaaDoorProg
import Derived.Test.YtodgjkdhkohckaaDoorRows
import Derived.Test.YtodgjkdhkohckaaDoorOwn
import Derived.Tactics
import Derived.Tactics2
import Derived.Lib.Hide
import Derived.StillTailTactics
import Derived.IntWalk
import Derived.OwnWalk
import Derived.WalkSpells
import Derived.RegionTactic
import Derived.Maps.OwnSet
import Derived.BigQuiet
import Derived.Deep.RegionHeld3
namespace Go.Proofs.YtodgjkdhkohckaaDoor.opers
open Go.RowKit Go.Proofs.YtodgjkdhkohckaaDoor.own Go.Maps
theorem blk_later {w w2 : World} {b : Nat} {cs : Array Value} {t : TypeId} (h : w.heap[b]? = some (.cells cs t (0, 0))) (ho : Only (fun _ => False) w w2) : w2.heap[b]? = some (.cells cs t (0, 0)) := by
  rw [ho.block b (lt_of_block h) (fun e => e)]
  exact h
def isTypeF (k : Int) : Bool := decide (1 ≤ k) && decide (k ≤ 5)
def isPreF (k : Int) : Bool := (k == 4) || (k == 5)
def mayF (p k : Int) : Bool := decide (1 ≤ p) && decide (p ≤ 1200) && isTypeF k
def leftF (p k : Int) : Int := if mayF p k = false then 0 else if isPreF k = true then 0 else if k = 3 then p else p - 1
def rightF (p k : Int) : Int := if mayF p k = false then 0 else if k = 2 ∨ k = 4 then p else p - 1
set_option maxRecDepth 100000 in
theorem isType_any (k : Int) (w : World) : Calls Tryd.prog 46 #[.int .i64 k] w fun e w' => e = .returned (.bool (isTypeF k)) ∧ w' = w := by
  by_cases h : 1 ≤ k
  · have hE : Hid (isTypeF k = decide (k ≤ 5)) := Lib.hid (by unfold isTypeF; simp [h])
    go_enter Tryd.func46, Tryd.ntmps46
    go_wp2_with fail
    go_ret
    exact ⟨by rw [hE.out]; rfl, rfl⟩
  · have hE : Hid (isTypeF k = false) := Lib.hid (by unfold isTypeF; simp [h])
    go_enter Tryd.func46, Tryd.ntmps46
    go_wp2_with fail
    go_ret
    exact ⟨by rw [hE.out]; rfl, rfl⟩
set_option maxRecDepth 100000 in
theorem isPre_any (k : Int) (w : World) : Calls Tryd.prog 43 #[.int .i64 k] w fun e w' => e = .returned (.bool (isPreF k)) ∧ w' = w := by
  by_cases h : k = 4
  · subst h
    go_enter Tryd.func43, Tryd.ntmps43
    go_wp2_with fail
    go_ret
    exact ⟨rfl, rfl⟩
  · have h1 : (k == 4) = false := by simpa using h
    have hE : Hid (isPreF k = (k == 5)) := Lib.hid (by unfold isPreF; simp [h1])
    go_enter Tryd.func43, Tryd.ntmps43
    go_wp2_with fail
    go_ret
    exact ⟨by rw [hE.out]; rfl, rfl⟩
set_option maxRecDepth 100000 in
theorem rpre_any (k : Int) (w : World) : Calls Tryd.prog 45 #[.int .i64 k] w fun e w' => e = .returned (.bool (isPreF k)) ∧ w' = w := by
  by_cases h : k = 4
  · subst h
    go_enter Tryd.func45, Tryd.ntmps45
    go_wp2_with fail
    go_ret
    exact ⟨rfl, rfl⟩
  · have h1 : (k == 4) = false := by simpa using h
    have hE : Hid (isPreF k = (k == 5)) := Lib.hid (by unfold isPreF; simp [h1])
    go_enter Tryd.func45, Tryd.ntmps45
    go_wp2_with fail
    go_ret
    exact ⟨by rw [hE.out]; rfl, rfl⟩
abbrev opV (p k : Int) (n : ByteArray) : Value := .agg #[.int .i64 p, .int .i64 k, .string n]
abbrev opC (p k : Int) (n : ByteArray) : Obj := .cells #[.int .i64 p, .int .i64 k, .string n] 32
set_option maxRecDepth 100000 in
set_option maxHeartbeats 1000000 in
theorem mayBe_any (p k : Int) (n : ByteArray) (w : World) : Calls Tryd.prog 42 #[.agg #[.int .i64 p, .int .i64 k, .string n]] w fun e w' => e = .returned (.bool (mayF p k)) ∧ Only (fun _ => False) w w' := by
  have HO : Hid (Only (fun _ => False) w (w.alloc (opC p k n))) := Lib.hid (Only.alloc _ _ _)
  by_cases h : 1 ≤ p
  · by_cases h2 : p ≤ 1200
    · have hE : Hid (mayF p k = isTypeF k) := Lib.hid (by unfold mayF; simp [h, h2])
      go_enter Tryd.func42, Tryd.ntmps42
      go_wp2_with fail
      refine (isType_any k _).mono ?_
      rintro e w1 ⟨rfl, rfl⟩
      go_wp2_with fail
      go_ret
      exact ⟨by rw [hE.out]; rfl, HO.out⟩
    · have hE : Hid (mayF p k = false) := Lib.hid (by unfold mayF; simp [h2])
      go_enter Tryd.func42, Tryd.ntmps42
      go_wp2_with fail
      go_ret
      exact ⟨by rw [hE.out]; rfl, HO.out⟩
  · have hE : Hid (mayF p k = false) := Lib.hid (by unfold mayF; simp [h])
    go_enter Tryd.func42, Tryd.ntmps42
    go_wp2_with fail
    go_ret
    exact ⟨by rw [hE.out]; rfl, HO.out⟩
set_option maxRecDepth 100000 in
set_option maxHeartbeats 1000000 in
theorem rmay_any (p k : Int) (n : ByteArray) (w : World) : Calls Tryd.prog 44 #[.agg #[.int .i64 p, .int .i64 k, .string n]] w fun e w' => e = .returned (.bool (mayF p k)) ∧ Only (fun _ => False) w w' := by
  have HO : Hid (Only (fun _ => False) w (w.alloc (opC p k n))) := Lib.hid (Only.alloc _ _ _)
  by_cases h : 1 ≤ p
  · by_cases h2 : p ≤ 1200
    · by_cases h3 : 1 ≤ k
      · have hE : Hid (mayF p k = decide (k ≤ 5)) := Lib.hid (by unfold mayF isTypeF; simp [h, h2, h3])
        go_enter Tryd.func44, Tryd.ntmps44
        go_wp2_with fail
        go_ret
        exact ⟨by rw [hE.out]; rfl, HO.out⟩
      · have hE : Hid (mayF p k = false) := Lib.hid (by unfold mayF isTypeF; simp [h3])
        go_enter Tryd.func44, Tryd.ntmps44
        go_wp2_with fail
        go_ret
        exact ⟨by rw [hE.out]; rfl, HO.out⟩
    · have hE : Hid (mayF p k = false) := Lib.hid (by unfold mayF; simp [h2])
      go_enter Tryd.func44, Tryd.ntmps44
      go_wp2_with fail
      go_ret
      exact ⟨by rw [hE.out]; rfl, HO.out⟩
  · have hE : Hid (mayF p k = false) := Lib.hid (by unfold mayF; simp [h])
    go_enter Tryd.func44, Tryd.ntmps44
    go_wp2_with fail
    go_ret
    exact ⟨by rw [hE.out]; rfl, HO.out⟩
/-- The operator in its box. -/
def OpAt (b : Nat) (p k : Int) (n : ByteArray) (W : World) : Prop := W.heap[b]? = some (.cells #[.int .i64 p, .int .i64 k, .string n] 32 (0, 0))
theorem OpAt.cells {b : Nat} {p k : Int} {n : ByteArray} {W : World} (h : OpAt b p k n W) : W.cell? ⟨b, 0, none⟩ = some (.int .i64 p) ∧ W.cell? ⟨b, 1, none⟩ = some (.int .i64 k) ∧ W.cell? ⟨b, 2, none⟩ = some (.string n) := by
  have c0 := cell_of_blk h 0
  have c1 := cell_of_blk h 1
  have c2 := cell_of_blk h 2
  exact ⟨c0, c1, c2⟩
theorem OpAt.later {b : Nat} {p k : Int} {n : ByteArray} {W W' : World} (h : OpAt b p k n W) (ho : Only (fun _ => False) W W') : OpAt b p k n W' := blk_later h ho
theorem OpAt.new (p k : Int) (n : ByteArray) (W : World) : OpAt W.heap.size p k n (W.alloc (opC p k n)) := heap_alloc_new _ _
theorem subOne {p k : Int} (h : mayF p k = true) : IntKind.i64.wrap (p - 1) = p - 1 := by
  unfold mayF at h
  simp only [Bool.and_eq_true, decide_eq_true_eq] at h
  exact IntWalk.i64_in _ (by omega)
set_option maxRecDepth 100000 in
set_option maxHeartbeats 2000000 in
theorem Left_any (p k : Int) (n : ByteArray) (w : World) : Calls Tryd.prog 18 #[.agg #[.int .i64 p, .int .i64 k, .string n]] w fun e w' => e = .returned (.int .i64 (leftF p k)) ∧ Only (fun _ => False) w w' := by
  have HO : Hid (Only (fun _ => False) w (w.alloc (opC p k n))) := Lib.hid (Only.alloc _ _ _)
  have HB : Hid (OpAt w.heap.size p k n (w.alloc (opC p k n))) := Lib.hid (OpAt.new p k n w)
  have HM : Hid (∀ W, Calls Tryd.prog 42 #[.agg #[.int .i64 p, .int .i64 k, .string n]] W fun e w' => e = .returned (.bool (mayF p k)) ∧ Only (fun _ => False) W w') := Lib.hid (fun W => mayBe_any p k n W)
  cases hm : mayF p k with
  | false =>
    have hE : Hid (leftF p k = 0) := Lib.hid (by unfold leftF; rw [if_pos hm])
    rw [hm] at HM
    clear hm HB
    go_enter Tryd.func18, Tryd.ntmps18
    go_wp2_with fail
    refine (HM.out _).mono ?_
    rintro e w1 ⟨rfl, ho⟩
    have HO1 := Lib.hid (HO.out.same ho)
    clear ho
    go_wp2_with fail
    go_ret
    exact ⟨by rw [hE.out]; rfl, HO1.out⟩
  | true =>
    have hsub := subOne hm
    cases hk : isPreF k with
    | true =>
      have hE : Hid (leftF p k = 0) := Lib.hid (by unfold leftF; rw [if_neg (by rw [hm]; simp), if_pos hk])
      have HP : Hid (∀ W, Calls Tryd.prog 43 #[.int .i64 k] W fun e w' => e = .returned (.bool true) ∧ w' = W) := Lib.hid (fun W => by rw [← hk]; exact isPre_any k W)
      rw [hm] at HM
      clear hm hk
      go_enter Tryd.func18, Tryd.ntmps18
      go_wp2_with fail
      refine (HM.out _).mono ?_
      rintro e w1 ⟨rfl, ho⟩
      have HO1 := Lib.hid (HO.out.same ho)
      obtain ⟨c0, c1, c2⟩ := (HB.out.later ho).cells
      clear ho
      go_wp2_with fail
      refine (HP.out _).mono ?_
      rintro e w2 ⟨rfl, rfl⟩
      go_wp2_with fail
      go_ret
      exact ⟨by rw [hE.out]; rfl, HO1.out⟩
    | false =>
      have hE : Hid (leftF p k = if k = 3 then p else p - 1) := Lib.hid (by unfold leftF; rw [if_neg (by rw [hm]; simp), if_neg (by rw [hk]; simp)])
      have HP : Hid (∀ W, Calls Tryd.prog 43 #[.int .i64 k] W fun e w' => e = .returned (.bool false) ∧ w' = W) := Lib.hid (fun W => by rw [← hk]; exact isPre_any k W)
      rw [hm] at HM
      clear hm hk
      by_cases h3 : k = 3
      · have hE2 : Hid (leftF p k = p) := Lib.hid (by rw [hE.out, if_pos h3])
        subst h3
        clear hE
        go_enter Tryd.func18, Tryd.ntmps18
        go_wp2_with fail
        refine (HM.out _).mono ?_
        rintro e w1 ⟨rfl, ho⟩
        have HO1 := Lib.hid (HO.out.same ho)
        obtain ⟨c0, c1, c2⟩ := (HB.out.later ho).cells
        clear ho
        go_wp2_with fail
        refine (HP.out _).mono ?_
        rintro e w2 ⟨rfl, rfl⟩
        go_wp2_with fail
        go_ret
        exact ⟨by rw [hE2.out]; rfl, HO1.out⟩
      · have hE2 : Hid (leftF p k = p - 1) := Lib.hid (by rw [hE.out, if_neg h3])
        have h31 : (k == 3) = false := by simpa using h3
        clear hE
        go_enter Tryd.func18, Tryd.ntmps18
        go_wp2_with fail
        refine (HM.out _).mono ?_
        rintro e w1 ⟨rfl, ho⟩
        have HO1 := Lib.hid (HO.out.same ho)
        obtain ⟨c0, c1, c2⟩ := (HB.out.later ho).cells
        clear ho
        go_wp2_with fail
        refine (HP.out _).mono ?_
        rintro e w2 ⟨rfl, rfl⟩
        go_wp2_with fail
        go_ret
        exact ⟨by rw [hE2.out]; rfl, HO1.out⟩
set_option maxRecDepth 100000 in
set_option maxHeartbeats 2000000 in
theorem rLeft_any (p k : Int) (n : ByteArray) (w : World) : Calls Tryd.prog 19 #[.agg #[.int .i64 p, .int .i64 k, .string n]] w fun e w' => e = .returned (.int .i64 (leftF p k)) ∧ Only (fun _ => False) w w' := by
  have HO : Hid (Only (fun _ => False) w (w.alloc (opC p k n))) := Lib.hid (Only.alloc _ _ _)
  have HB : Hid (OpAt w.heap.size p k n (w.alloc (opC p k n))) := Lib.hid (OpAt.new p k n w)
  have HM : Hid (∀ W, Calls Tryd.prog 44 #[.agg #[.int .i64 p, .int .i64 k, .string n]] W fun e w' => e = .returned (.bool (mayF p k)) ∧ Only (fun _ => False) W w') := Lib.hid (fun W => rmay_any p k n W)
  cases hm : mayF p k with
  | false =>
    have hE : Hid (leftF p k = 0) := Lib.hid (by unfold leftF; rw [if_pos hm])
    rw [hm] at HM
    clear hm HB
    go_enter Tryd.func19, Tryd.ntmps19
    go_wp2_with fail
    refine (HM.out _).mono ?_
    rintro e w1 ⟨rfl, ho⟩
    have HO1 := Lib.hid (HO.out.same ho)
    clear ho
    go_wp2_with fail
    go_ret
    exact ⟨by rw [hE.out]; rfl, HO1.out⟩
  | true =>
    have hsub := subOne hm
    cases hk : isPreF k with
    | true =>
      have hE : Hid (leftF p k = 0) := Lib.hid (by unfold leftF; rw [if_neg (by rw [hm]; simp), if_pos hk])
      have HP : Hid (∀ W, Calls Tryd.prog 45 #[.int .i64 k] W fun e w' => e = .returned (.bool true) ∧ w' = W) := Lib.hid (fun W => by rw [← hk]; exact rpre_any k W)
      rw [hm] at HM
      clear hm hk
      go_enter Tryd.func19, Tryd.ntmps19
      go_wp2_with fail
      refine (HM.out _).mono ?_
      rintro e w1 ⟨rfl, ho⟩
      have HO1 := Lib.hid (HO.out.same ho)
      obtain ⟨c0, c1, c2⟩ := (HB.out.later ho).cells
      clear ho
      go_wp2_with fail
      refine (HP.out _).mono ?_
      rintro e w2 ⟨rfl, rfl⟩
      go_wp2_with fail
      go_ret
      exact ⟨by rw [hE.out]; rfl, HO1.out⟩
    | false =>
      have hE : Hid (leftF p k = if k = 3 then p else p - 1) := Lib.hid (by unfold leftF; rw [if_neg (by rw [hm]; simp), if_neg (by rw [hk]; simp)])
      have HP : Hid (∀ W, Calls Tryd.prog 45 #[.int .i64 k] W fun e w' => e = .returned (.bool false) ∧ w' = W) := Lib.hid (fun W => by rw [← hk]; exact rpre_any k W)
      rw [hm] at HM
      clear hm hk
      by_cases h3 : k = 3
      · have hE2 : Hid (leftF p k = p) := Lib.hid (by rw [hE.out, if_pos h3])
        subst h3
        clear hE
        go_enter Tryd.func19, Tryd.ntmps19
        go_wp2_with fail
        refine (HM.out _).mono ?_
        rintro e w1 ⟨rfl, ho⟩
        have HO1 := Lib.hid (HO.out.same ho)
        obtain ⟨c0, c1, c2⟩ := (HB.out.later ho).cells
        clear ho
        go_wp2_with fail
        refine (HP.out _).mono ?_
        rintro e w2 ⟨rfl, rfl⟩
        go_wp2_with fail
        go_ret
        exact ⟨by rw [hE2.out]; rfl, HO1.out⟩
      · have hE2 : Hid (leftF p k = p - 1) := Lib.hid (by rw [hE.out, if_neg h3])
        have h31 : (k == 3) = false := by simpa using h3
        clear hE
        go_enter Tryd.func19, Tryd.ntmps19
        go_wp2_with fail
        refine (HM.out _).mono ?_
        rintro e w1 ⟨rfl, ho⟩
        have HO1 := Lib.hid (HO.out.same ho)
        obtain ⟨c0, c1, c2⟩ := (HB.out.later ho).cells
        clear ho
        go_wp2_with fail
        refine (HP.out _).mono ?_
        rintro e w2 ⟨rfl, rfl⟩
        go_wp2_with fail
        go_ret
        exact ⟨by rw [hE2.out]; rfl, HO1.out⟩
set_option maxRecDepth 100000 in
set_option maxHeartbeats 2000000 in
theorem Right_any (p k : Int) (n : ByteArray) (w : World) : Calls Tryd.prog 20 #[.agg #[.int .i64 p, .int .i64 k, .string n]] w fun e w' => e = .returned (.int .i64 (rightF p k)) ∧ Only (fun _ => False) w w' := by
  have HO : Hid (Only (fun _ => False) w (w.alloc (opC p k n))) := Lib.hid (Only.alloc _ _ _)
  have HB : Hid (OpAt w.heap.size p k n (w.alloc (opC p k n))) := Lib.hid (OpAt.new p k n w)
  have HM : Hid (∀ W, Calls Tryd.prog 42 #[.agg #[.int .i64 p, .int .i64 k, .string n]] W fun e w' => e = .returned (.bool (mayF p k)) ∧ Only (fun _ => False) W w') := Lib.hid (fun W => mayBe_any p k n W)
  cases hm : mayF p k with
  | false =>
    have hE : Hid (rightF p k = 0) := Lib.hid (by unfold rightF; rw [if_pos hm])
    rw [hm] at HM
    clear hm HB
    go_enter Tryd.func20, Tryd.ntmps20
    go_wp2_with fail
    refine (HM.out _).mono ?_
    rintro e w1 ⟨rfl, ho⟩
    have HO1 := Lib.hid (HO.out.same ho)
    clear ho
    go_wp2_with fail
    go_ret
    exact ⟨by rw [hE.out]; rfl, HO1.out⟩
  | true =>
    have hsub := subOne hm
    by_cases h2 : k = 2
    ·
      have hE : Hid (rightF p k = p) := Lib.hid (by unfold rightF; rw [if_neg (by rw [hm]; simp), if_pos (.inl h2)])
      rw [hm] at HM
      subst h2
      clear hm
      go_enter Tryd.func20, Tryd.ntmps20
      go_wp2_with fail
      refine (HM.out _).mono ?_
      rintro e w1 ⟨rfl, ho⟩
      have HO1 := Lib.hid (HO.out.same ho)
      obtain ⟨c0, c1, c2⟩ := (HB.out.later ho).cells
      clear ho
      go_wp2_with fail
      go_ret
      exact ⟨by rw [hE.out]; rfl, HO1.out⟩
    · by_cases h4 : k = 4
      ·
        have hE : Hid (rightF p k = p) := Lib.hid (by unfold rightF; rw [if_neg (by rw [hm]; simp), if_pos (.inr h4)])
        rw [hm] at HM
        subst h4
        clear hm
        go_enter Tryd.func20, Tryd.ntmps20
        go_wp2_with fail
        refine (HM.out _).mono ?_
        rintro e w1 ⟨rfl, ho⟩
        have HO1 := Lib.hid (HO.out.same ho)
        obtain ⟨c0, c1, c2⟩ := (HB.out.later ho).cells
        clear ho
        go_wp2_with fail
        go_ret
        exact ⟨by rw [hE.out]; rfl, HO1.out⟩
      ·
        have hE : Hid (rightF p k = p - 1) := Lib.hid (by unfold rightF; rw [if_neg (by rw [hm]; simp), if_neg (by omega)])
        rw [hm] at HM
        have h21 : (k == 2) = false := by simpa using h2
        have h41 : (k == 4) = false := by simpa using h4
        clear hm
        go_enter Tryd.func20, Tryd.ntmps20
        go_wp2_with fail
        refine (HM.out _).mono ?_
        rintro e w1 ⟨rfl, ho⟩
        have HO1 := Lib.hid (HO.out.same ho)
        obtain ⟨c0, c1, c2⟩ := (HB.out.later ho).cells
        clear ho
        go_wp2_with fail
        go_ret
        exact ⟨by rw [hE.out]; rfl, HO1.out⟩
set_option maxRecDepth 100000 in
set_option maxHeartbeats 2000000 in
theorem rRight_any (p k : Int) (n : ByteArray) (w : World) : Calls Tryd.prog 21 #[.agg #[.int .i64 p, .int .i64 k, .string n]] w fun e w' => e = .returned (.int .i64 (rightF p k)) ∧ Only (fun _ => False) w w' := by
  have HO : Hid (Only (fun _ => False) w (w.alloc (opC p k n))) := Lib.hid (Only.alloc _ _ _)
  have HB : Hid (OpAt w.heap.size p k n (w.alloc (opC p k n))) := Lib.hid (OpAt.new p k n w)
  have HM : Hid (∀ W, Calls Tryd.prog 44 #[.agg #[.int .i64 p, .int .i64 k, .string n]] W fun e w' => e = .returned (.bool (mayF p k)) ∧ Only (fun _ => False) W w') := Lib.hid (fun W => rmay_any p k n W)
  cases hm : mayF p k with
  | false =>
    have hE : Hid (rightF p k = 0) := Lib.hid (by unfold rightF; rw [if_pos hm])
    rw [hm] at HM
    clear hm HB
    go_enter Tryd.func21, Tryd.ntmps21
    go_wp2_with fail
    refine (HM.out _).mono ?_
    rintro e w1 ⟨rfl, ho⟩
    have HO1 := Lib.hid (HO.out.same ho)
    clear ho
    go_wp2_with fail
    go_ret
    exact ⟨by rw [hE.out]; rfl, HO1.out⟩
  | true =>
    have hsub := subOne hm
    by_cases h2 : k = 2
    ·
      have hE : Hid (rightF p k = p) := Lib.hid (by unfold rightF; rw [if_neg (by rw [hm]; simp), if_pos (.inl h2)])
      rw [hm] at HM
      subst h2
      clear hm
      go_enter Tryd.func21, Tryd.ntmps21
      go_wp2_with fail
      refine (HM.out _).mono ?_
      rintro e w1 ⟨rfl, ho⟩
      have HO1 := Lib.hid (HO.out.same ho)
      obtain ⟨c0, c1, c2⟩ := (HB.out.later ho).cells
      clear ho
      go_wp2_with fail
      go_ret
      exact ⟨by rw [hE.out]; rfl, HO1.out⟩
    · by_cases h4 : k = 4
      ·
        have hE : Hid (rightF p k = p) := Lib.hid (by unfold rightF; rw [if_neg (by rw [hm]; simp), if_pos (.inr h4)])
        rw [hm] at HM
        subst h4
        clear hm
        go_enter Tryd.func21, Tryd.ntmps21
        go_wp2_with fail
        refine (HM.out _).mono ?_
        rintro e w1 ⟨rfl, ho⟩
        have HO1 := Lib.hid (HO.out.same ho)
        obtain ⟨c0, c1, c2⟩ := (HB.out.later ho).cells
        clear ho
        go_wp2_with fail
        go_ret
        exact ⟨by rw [hE.out]; rfl, HO1.out⟩
      ·
        have hE : Hid (rightF p k = p - 1) := Lib.hid (by unfold rightF; rw [if_neg (by rw [hm]; simp), if_neg (by omega)])
        rw [hm] at HM
        have h21 : (k == 2) = false := by simpa using h2
        have h41 : (k == 4) = false := by simpa using h4
        clear hm
        go_enter Tryd.func21, Tryd.ntmps21
        go_wp2_with fail
        refine (HM.out _).mono ?_
        rintro e w1 ⟨rfl, ho⟩
        have HO1 := Lib.hid (HO.out.same ho)
        obtain ⟨c0, c1, c2⟩ := (HB.out.later ho).cells
        clear ho
        go_wp2_with fail
        go_ret
        exact ⟨by rw [hE.out]; rfl, HO1.out⟩
end Go.Proofs.YtodgjkdhkohckaaDoor.opers
