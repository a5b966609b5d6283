/- Operators: the reference's table at the beginning. -/
import Derived.Test.YtodgjkdhkohckaaDoorOper32
namespace Go.Proofs.YtodgjkdhkohckaaDoor.opers
open Go.RowKit Go.Proofs.YtodgjkdhkohckaaDoor.own Go.Maps Go.Sort Go.Shelf Go.Proofs.YtodgjkdhkohckaaDoor.toks
/-- A few are added, their names in a row that is new. -/
theorem RT.adds {B b : Nat} {ao : Option Addr} {cap : Nat} {l : List Op3} {W : World} (h : RT B b ao cap l W) (p k : Int) (ns : List ByteArray) (hn : l.length + ns.length ≤ 100000) (hB : B ≤ W.heap.size) :
    Calls Tryd.prog 29 #[.pointer (some ⟨b, 0, none⟩), .int .i64 p, .int .i64 k, .slice (some ⟨W.heap.size, 0, none⟩) ns.length ns.length] (W.alloc (.cells (ns.map Value.string).toArray 9)) fun e w' => e = .returned (.tuple #[]) ∧ (∃ ao' cap', RT B b ao' cap' (l ++ ns.map (fun n => ⟨p, k, n⟩)) w') ∧ Only (fun q => B ≤ q) W w' := by
  have o1 : Only (fun _ => False) W (W.alloc (.cells (ns.map Value.string).toArray 9)) := Only.alloc _ _ _
  refine (add_any B b W.heap.size ns.length ao cap l p k ns _ (h.later o1) (heap_alloc_new _ _) hn (Nat.le_trans hB o1.size)).mono ?_
  rintro e w' ⟨h1, ⟨ao', cap', h2, _⟩, h3⟩
  refine ⟨h1, ⟨ao', cap', h2⟩, (o1.no _).same (h3.mono (fun q _ e => ?_))⟩
  rcases e with e | ⟨g, hg, e⟩
  · rw [e]; exact h.ge
  · rw [e]; exact (h.row.head g hg).2.1
theorem RT.start (W : World) : RT W.heap.size W.heap.size none 0 [] (W.alloc (.cells #[.slice none 0 0] 55)) := ⟨heap_alloc_new _ _, RowOf.nil _ _ _ _ _, Nat.le_refl _, fun g e => by cases e⟩
set_option maxRecDepth 100000 in
set_option maxHeartbeats 4000000 in
theorem rNew_any (w : World) : Calls Tryd.prog 9 #[] w fun e w' => ∃ b ao cap, e = .returned (.pointer (some ⟨b, 0, none⟩)) ∧ RT w.heap.size b ao cap l0 w' ∧ Only (fun _ => False) w w' := by
  have HST := Lib.hid (RT.start w)
  have HO0 : Hid (Only (fun q => w.heap.size ≤ q) w (w.alloc (.cells #[.slice none 0 0] 55))) := Lib.hid (Only.alloc _ _ _)
  have hz : (w.alloc (.cells #[.slice none 0 0] 55)).heap.size = w.heap.size + 1 := by simp
  go_enter Tryd.func9, Tryd.ntmps9
  go_wp2_with fail
  generalize w.alloc (.cells #[.slice none 0 0] 55) = w0 at *
  rw [← hz]
  clear hz
  have HA : Hid ((∃ ao cap, RT w.heap.size w.heap.size ao cap [] w0) ∧ Only (fun q => w.heap.size ≤ q) w w0) := Lib.hid ⟨⟨_, _, HST.out⟩, HO0.out⟩
  have HL : Hid (l0 = l0) := Lib.hid rfl
  clear HST HO0
  obtain ⟨ao0, cp0, ht0⟩ := HA.out.1
  have HT0 := Lib.hid ht0
  clear ht0
  refine (HT0.out.adds 1200 1 nm0 (Nat.le_of_ble_eq_true (by kernel_rfl)) HA.out.2.size).mono ?_
  rintro e w1 ⟨rfl, ht, ho⟩
  replace HA := Lib.hid (And.intro ht (HA.out.2.same ho))
  clear ht ho HT0
  go_wp2_with fail
  obtain ⟨ao1, cp1, ht1⟩ := HA.out.1
  have HT1 := Lib.hid ht1
  clear ht1
  refine (HT1.out.adds 1200 5 nm1 (Nat.le_of_ble_eq_true (by kernel_rfl)) HA.out.2.size).mono ?_
  rintro e w2 ⟨rfl, ht, ho⟩
  replace HA := Lib.hid (And.intro ht (HA.out.2.same ho))
  clear ht ho HT1
  go_wp2_with fail
  obtain ⟨ao2, cp2, ht2⟩ := HA.out.1
  have HT2 := Lib.hid ht2
  clear ht2
  refine (HT2.out.adds 1100 2 nm2 (Nat.le_of_ble_eq_true (by kernel_rfl)) HA.out.2.size).mono ?_
  rintro e w3 ⟨rfl, ht, ho⟩
  replace HA := Lib.hid (And.intro ht (HA.out.2.same ho))
  clear ht ho HT2
  go_wp2_with fail
  obtain ⟨ao3, cp3, ht3⟩ := HA.out.1
  have HT3 := Lib.hid ht3
  clear ht3
  refine (HT3.out.adds 1050 2 nm3 (Nat.le_of_ble_eq_true (by kernel_rfl)) HA.out.2.size).mono ?_
  rintro e w4 ⟨rfl, ht, ho⟩
  replace HA := Lib.hid (And.intro ht (HA.out.2.same ho))
  clear ht ho HT3
  go_wp2_with fail
  obtain ⟨ao4, cp4, ht4⟩ := HA.out.1
  have HT4 := Lib.hid ht4
  clear ht4
  refine (HT4.out.adds 1000 2 nm4 (Nat.le_of_ble_eq_true (by kernel_rfl)) HA.out.2.size).mono ?_
  rintro e w5 ⟨rfl, ht, ho⟩
  replace HA := Lib.hid (And.intro ht (HA.out.2.same ho))
  clear ht ho HT4
  go_wp2_with fail
  obtain ⟨ao5, cp5, ht5⟩ := HA.out.1
  have HT5 := Lib.hid ht5
  clear ht5
  refine (HT5.out.adds 900 4 nm5 (Nat.le_of_ble_eq_true (by kernel_rfl)) HA.out.2.size).mono ?_
  rintro e w6 ⟨rfl, ht, ho⟩
  replace HA := Lib.hid (And.intro ht (HA.out.2.same ho))
  clear ht ho HT5
  go_wp2_with fail
  obtain ⟨ao6, cp6, ht6⟩ := HA.out.1
  have HT6 := Lib.hid ht6
  clear ht6
  refine (HT6.out.adds 700 1 nm6 (Nat.le_of_ble_eq_true (by kernel_rfl)) HA.out.2.size).mono ?_
  rintro e w7 ⟨rfl, ht, ho⟩
  replace HA := Lib.hid (And.intro ht (HA.out.2.same ho))
  clear ht ho HT6
  go_wp2_with fail
  obtain ⟨ao7, cp7, ht7⟩ := HA.out.1
  have HT7 := Lib.hid ht7
  clear ht7
  refine (HT7.out.adds 500 3 nm7 (Nat.le_of_ble_eq_true (by kernel_rfl)) HA.out.2.size).mono ?_
  rintro e w8 ⟨rfl, ht, ho⟩
  replace HA := Lib.hid (And.intro ht (HA.out.2.same ho))
  clear ht ho HT7
  go_wp2_with fail
  obtain ⟨ao8, cp8, ht8⟩ := HA.out.1
  have HT8 := Lib.hid ht8
  clear ht8
  refine (HT8.out.adds 400 3 nm8 (Nat.le_of_ble_eq_true (by kernel_rfl)) HA.out.2.size).mono ?_
  rintro e w9 ⟨rfl, ht, ho⟩
  replace HA := Lib.hid (And.intro ht (HA.out.2.same ho))
  clear ht ho HT8
  go_wp2_with fail
  obtain ⟨ao9, cp9, ht9⟩ := HA.out.1
  have HT9 := Lib.hid ht9
  clear ht9
  refine (HT9.out.adds 200 2 nm9 (Nat.le_of_ble_eq_true (by kernel_rfl)) HA.out.2.size).mono ?_
  rintro e w10 ⟨rfl, ht, ho⟩
  replace HA := Lib.hid (And.intro ht (HA.out.2.same ho))
  clear ht ho HT9
  go_wp2_with fail
  obtain ⟨ao10, cp10, ht10⟩ := HA.out.1
  have HT10 := Lib.hid ht10
  clear ht10
  refine (HT10.out.adds 200 4 nm10 (Nat.le_of_ble_eq_true (by kernel_rfl)) HA.out.2.size).mono ?_
  rintro e w11 ⟨rfl, ht, ho⟩
  replace HA := Lib.hid (And.intro ht (HA.out.2.same ho))
  clear ht ho HT10
  go_wp2_with fail
  go_ret
  obtain ⟨ao, cap, ht⟩ := HA.out.1
  exact ⟨_, ao, cap, rfl, ht, Only.cut (Only.refl _ _) HA.out.2 (fun q e => e)⟩
end Go.Proofs.YtodgjkdhkohckaaDoor.opers
