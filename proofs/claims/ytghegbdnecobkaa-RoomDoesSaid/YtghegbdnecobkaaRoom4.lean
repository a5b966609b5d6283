/- Nil rooms; the laws RoomNobody and RoomFills. -/
import Derived.Test.YtghegbdnecobkaaRoom3
namespace Go.Proofs.Ytghegbdnecobkaa.rooms
open Go.RowKit

theorem nil_pop (w : World) : Calls Try.prog 18 #[.pointer none] w fun e w' => e = .returned (.tuple #[.int .u64 0, .int .i64 6]) ∧ w = w' := by
  go_enter Try.func18, Try.ntmps18
  go_wp2
  go_ret2
  exact ⟨rfl, rfl⟩
theorem nil_get (i : Int) (w : World) : Calls Try.prog 19 #[.pointer none, .int .i64 i] w fun e w' => e = .returned (.tuple #[.int .u64 0, .int .i64 6]) ∧ w = w' := by
  go_enter Try.func19, Try.ntmps19
  go_wp2
  go_ret2
  exact ⟨rfl, rfl⟩
theorem nil_push (x : Int) (w : World) : Calls Try.prog 17 #[.pointer none, .int .u64 x] w fun e w' => e = .returned (.int .i64 6) ∧ w = w' := by
  go_enter Try.func17, Try.ntmps17
  go_wp2
  go_ret
  exact ⟨rfl, rfl⟩
theorem nil_set (i x : Int) (w : World) : Calls Try.prog 20 #[.pointer none, .int .i64 i, .int .u64 x] w fun e w' => e = .returned (.int .i64 6) ∧ w = w' := by
  go_enter Try.func20, Try.ntmps20
  go_wp2
  go_ret
  exact ⟨rfl, rfl⟩
theorem nil_cut (i : Int) (w : World) : Calls Try.prog 21 #[.pointer none, .int .i64 i] w fun e w' => e = .returned (.int .i64 6) ∧ w = w' := by
  go_enter Try.func21, Try.ntmps21
  go_wp2
  go_ret
  exact ⟨rfl, rfl⟩
theorem nil_grow (i : Int) (w : World) : Calls Try.prog 22 #[.pointer none, .int .i64 i] w fun e w' => e = .returned (.int .i64 6) ∧ w = w' := by
  go_enter Try.func22, Try.ntmps22
  go_wp2
  go_ret
  exact ⟨rfl, rfl⟩
theorem nil_len (w : World) : Calls Try.prog 12 #[.pointer none] w fun e w' => e = .returned (.int .i64 0) ∧ w = w' := by
  go_enter Try.func12, Try.ntmps12
  go_wp2
  go_ret
  exact ⟨rfl, rfl⟩
theorem nil_limit (w : World) : Calls Try.prog 14 #[.pointer none] w fun e w' => e = .returned (.int .i64 0) ∧ w = w' := by
  go_enter Try.func14, Try.ntmps14
  go_wp2
  go_ret
  exact ⟨rfl, rfl⟩
theorem nil_most (w : World) : Calls Try.prog 13 #[.pointer none] w fun e w' => e = .returned (.int .i64 0) ∧ w = w' := by
  go_enter Try.func13, Try.ntmps13
  go_wp2
  go_ret
  exact ⟨rfl, rfl⟩
theorem nil_words (w : World) : Calls Try.prog 16 #[.pointer none] w fun e w' => e = .returned (.slice none 0 0) ∧ w = w' := by
  go_enter Try.func16, Try.ntmps16
  go_wp2
  go_ret
  exact ⟨rfl, rfl⟩
theorem nil_keep (f : Value) (w : World) : Calls Try.prog 23 #[.pointer none, f] w fun e w' => e = .returned (.int .i64 0) ∧ w = w' := by
  go_enter Try.func23, Try.ntmps23
  go_wp2
  go_ret
  exact ⟨rfl, rfl⟩

set_option maxHeartbeats 1000000 in
theorem law_nobody (k n x : Int) (w : World) : Calls Try.prog 5 #[.agg #[.int .i64 k, .int .i64 n, .int .u64 x]] w fun e w' => e = .returned (.bool true) ∧ Below w.heap.size w w' := by
  go_enter Try.func5, Try.ntmps5
  go_wp2_with fail
  refine (nil_pop _).mono ?_
  rintro e w1 ⟨rfl, rfl⟩
  go_wp2_with fail
  refine (nil_get _ _).mono ?_
  rintro e w1 ⟨rfl, rfl⟩
  go_wp2_with fail
  refine (lives_any _).mono ?_
  rintro e w1 ⟨rfl, hb⟩
  have e1 : w1.cell? ⟨w.heap.size, 1, none⟩ = some (.int .i64 n) := by rw [hb.cell (p := ⟨w.heap.size, 1, none⟩) (by simp)]; simp
  have e2 : w1.cell? ⟨w.heap.size, 2, none⟩ = some (.int .u64 x) := by rw [hb.cell (p := ⟨w.heap.size, 2, none⟩) (by simp)]; simp
  go_wp2_with fail
  refine (nil_push _ _).mono ?_
  rintro e w2 ⟨rfl, rfl⟩
  go_wp2_with fail
  refine (nil_set _ _ _).mono ?_
  rintro e w2 ⟨rfl, rfl⟩
  go_wp2_with fail
  refine (nil_cut _ _).mono ?_
  rintro e w2 ⟨rfl, rfl⟩
  go_wp2_with fail
  refine (nil_grow _ _).mono ?_
  rintro e w2 ⟨rfl, rfl⟩
  go_wp2_with fail
  refine (nil_len _).mono ?_
  rintro e w2 ⟨rfl, rfl⟩
  go_wp2_with fail
  refine (nil_limit _).mono ?_
  rintro e w2 ⟨rfl, rfl⟩
  go_wp2_with fail
  refine (nil_most _).mono ?_
  rintro e w2 ⟨rfl, rfl⟩
  go_wp2_with fail
  refine (nil_words _).mono ?_
  rintro e w2 ⟨rfl, rfl⟩
  go_wp2_with fail
  refine (nil_keep _ _).mono ?_
  rintro e w2 ⟨rfl, rfl⟩
  go_wp2_with fail
  go_ret
  exact ⟨rfl, ((Below.refl _ _).alloc (Nat.le_refl _) _).trans (hb.mono (by simp))⟩

/-! ### RoomFills -/
def filled (lim k : Int) : List Int := (List.range (min k lim).toNat).map (fun (j : Nat) => (j : Int))
theorem filled_len {lim k : Int} (h0 : 0 ≤ lim) (h1 : 0 ≤ k) : ((filled lim k).length : Int) = min k lim := by simp [filled]; omega
theorem filled_step {lim k : Int} (h1 : 0 ≤ k) (h : k < lim) : filled lim k ++ [k] = filled lim (k + 1) := by
  unfold filled
  have e1 : (min k lim).toNat = k.toNat := by omega
  have e2 : (min (k + 1) lim).toNat = k.toNat + 1 := by omega
  rw [e1, e2, List.range_succ, List.map_append]
  have e3 : ((k.toNat : Nat) : Int) = k := by omega
  simp [e3]
theorem filled_stay {lim k : Int} (h : lim ≤ k) : filled lim k = filled lim (k + 1) := by
  unfold filled
  have e1 : (min k lim).toNat = (min (k + 1) lim).toNat := by omega
  rw [e1]

def FillR (B b : Nat) (lim k : Int) (w wr : World) : Prop := (∃ ao cap, RoomP B b ao cap (filled lim k) lim (min k lim) wr) ∧ Below B w wr
theorem FillR.step {B b : Nat} {lim k : Int} {w wr w' : World} {ao ao' : Option Addr} {cap cap' : Nat} (h0 : 0 ≤ k) (hk : k < lim) (h : RoomP B b ao cap (filled lim k) lim (min k lim) wr) (hb : Below B w wr)
    (h' : RoomP B b ao' cap' (filled lim k ++ [k]) lim (max (min k lim) ((filled lim k ++ [k]).length : Nat)) w') (ho : Only (Mine b ao) wr w') : FillR B b lim (k + 1) w w' := by
  refine ⟨⟨ao', cap', ?_⟩, hb.trans (h.keeps ho)⟩
  have hl := filled_len (lim := lim) (k := k + 1) (by omega) (by omega)
  rw [filled_step h0 hk] at h'
  have e : max (min k lim) ((filled lim (k + 1)).length : Nat) = min (k + 1) lim := by omega
  rw [e] at h'
  exact h'
theorem FillR.stay {B b : Nat} {lim k : Int} {w wr w' : World} {ao : Option Addr} {cap : Nat} (hk : lim ≤ k) (h : RoomP B b ao cap (filled lim k) lim (min k lim) wr) (hb : Below B w wr) (ho : Only (fun _ => False) wr w') : FillR B b lim (k + 1) w w' := by
  refine ⟨⟨ao, cap, ?_⟩, hb.trans (h.keeps (ho.no _))⟩
  have h2 := h.only ho (fun _ _ e => e)
  rw [filled_stay hk, show min k lim = min (k + 1) lim by omega] at h2
  exact h2

set_option maxHeartbeats 1000000 in
theorem fills_some (lim n : Int) (w : World) (h0 : 0 ≤ lim) (h1 : lim ≤ 2000) (h2 : 0 ≤ n) (h3 : n ≤ 3000) : Calls Try.prog 6 #[.int .i64 lim, .int .i64 n] w fun e w' => e = .returned (.bool true) ∧ Below w.heap.size w w' := by
  go_enter Try.func6, Try.ntmps6
  go_wp2_with fail
  refine (new_yes lim _ (by omega) (by omega)).mono ?_
  rintro e w1 ⟨b, rfl, r1, o1, hb⟩
  have HB := Lib.hid hb
  have R1 := Lib.hid r1
  clear hb r1
  go_wp2_with fail
  refine (lives_any _).mono ?_
  rintro e w2 ⟨rfl, b2⟩
  have r2 := R1.out.only (Only.of_below b2 (fun _ => False)) (fun _ _ e => e)
  have R2 := Lib.hid r2
  have b1 : Below w.heap.size w w2 := (o1.below (Nat.le_refl _) (fun _ _ e => e.elim)).trans (b2.mono o1.size)
  have B1 := Lib.hid b1
  clear r2 b1 b2
  go_wp2_with fail
  go_loopw [7] (fun i wr => ∃ k : Int, i = .int .i64 k ∧ 0 ≤ k ∧ k ≤ n ∧ Hid (FillR w.heap.size b lim k w wr)) (fun i _ => (n - intOf i).toNat)
  case atStart =>
    refine ⟨0, rfl, by omega, by omega, ⟨none, 0, ?_⟩, B1.out⟩
    have e1 : filled lim 0 = [] := by unfold filled; rw [show (min 0 lim).toNat = 0 by omega]; rfl
    rw [e1, show min 0 lim = 0 by omega]
    exact R2.out
  case round =>
    obtain ⟨k, rfl, hk0, hk1, hR⟩ := hrel
    obtain ⟨⟨ao, cap, hroom⟩, hbel⟩ := hR.out
    have HR := Lib.hid hroom
    have HB2 := Lib.hid hbel
    have hlen := filled_len (lim := lim) (k := k) h0 hk0
    have HL := Lib.hid hlen
    clear hroom hbel hlen
    by_cases hkn : k < n
    · by_cases hkl : k < lim
      · go_wp2_with fail
        refine (push_some (x := k) HR.out (by rw [HL.out]; omega) (by omega)).mono ?_
        rintro e w3 ⟨rfl, ao', cap', h3', o3, n3⟩
        have HF := Lib.hid (FillR.step hk0 hkl HR.out HB2.out h3' o3)
        clear h3' o3 n3
        go_wp2_with fail
        go_roundw
        case rel => exact ⟨k + 1, rfl, by omega, by omega, HF⟩
        case measure => simp [intOf]; omega
      · go_wp2_with fail
        refine (push_full (x := k) HR.out (by rw [HL.out]; omega)).mono ?_
        rintro e w3 ⟨rfl, o3⟩
        have HF := Lib.hid (FillR.stay (by omega) HR.out HB2.out o3)
        clear o3
        go_wp2_with fail
        go_roundw
        case rel => exact ⟨k + 1, rfl, by omega, by omega, HF⟩
        case measure => simp [intOf]; omega
    · obtain rfl : k = n := by omega
      by_cases hlk : lim < k
      · have e : min k lim = lim := by omega
        rw [e] at HR HL
        clear e
        go_wp2_with fail
        refine (len_any HR.out).mono ?_
        rintro e w3 ⟨rfl, rfl⟩
        rw [HL.out]
        go_wp2_with fail
        refine (most_any HR.out).mono ?_
        rintro e w3 ⟨rfl, rfl⟩
        go_wp2_with fail
        refine (len_any HR.out).mono ?_
        rintro e w3 ⟨rfl, rfl⟩
        rw [HL.out]
        go_wp2_with fail
        go_ret
        exact ⟨rfl, HB2.out⟩
      · have e : min k lim = k := by omega
        rw [e] at HR HL
        clear e
        go_wp2_with fail
        refine (len_any HR.out).mono ?_
        rintro e w3 ⟨rfl, rfl⟩
        rw [HL.out]
        go_wp2_with fail
        refine (most_any HR.out).mono ?_
        rintro e w3 ⟨rfl, rfl⟩
        go_wp2_with fail
        refine (len_any HR.out).mono ?_
        rintro e w3 ⟨rfl, rfl⟩
        rw [HL.out]
        go_wp2_with fail
        go_ret
        exact ⟨rfl, HB2.out⟩
set_option maxHeartbeats 1000000 in
theorem fills_none (lim n : Int) (w : World) (h : lim < 0 ∨ (0 ≤ lim ∧ 2000 < lim) ∨ (0 ≤ lim ∧ lim ≤ 2000 ∧ n < 0) ∨ (0 ≤ lim ∧ lim ≤ 2000 ∧ 0 ≤ n ∧ 3000 < n)) : Calls Try.prog 6 #[.int .i64 lim, .int .i64 n] w fun e w' => e = .returned (.bool true) ∧ Below w.heap.size w w' := by
  rcases h with h | ⟨h, h'⟩ | ⟨h, h', h''⟩ | ⟨h, h', h'', h3⟩
  · go_enter Try.func6, Try.ntmps6
    go_wp2_with fail
    refine (lives_any _).mono ?_
    rintro e w2 ⟨rfl, b2⟩
    go_wp2_with fail
    go_ret
    exact ⟨rfl, b2⟩
  · have e1 : decide (lim < 0) = false := decide_eq_false (by omega)
    go_enter Try.func6, Try.ntmps6
    go_wp2_with fail
    refine (lives_any _).mono ?_
    rintro e w2 ⟨rfl, b2⟩
    go_wp2_with fail
    go_ret
    exact ⟨rfl, b2⟩
  · have e1 : decide (lim < 0) = false := decide_eq_false (by omega)
    have e2 : decide (2000 < lim) = false := decide_eq_false (by omega)
    go_enter Try.func6, Try.ntmps6
    go_wp2_with fail
    refine (lives_any _).mono ?_
    rintro e w2 ⟨rfl, b2⟩
    go_wp2_with fail
    go_ret
    exact ⟨rfl, b2⟩
  · have e1 : decide (lim < 0) = false := decide_eq_false (by omega)
    have e2 : decide (2000 < lim) = false := decide_eq_false (by omega)
    have e3 : decide (n < 0) = false := decide_eq_false (by omega)
    go_enter Try.func6, Try.ntmps6
    go_wp2_with fail
    refine (lives_any _).mono ?_
    rintro e w2 ⟨rfl, b2⟩
    go_wp2_with fail
    go_ret
    exact ⟨rfl, b2⟩
theorem law_fills (lim n : Int) (w : World) : Calls Try.prog 6 #[.int .i64 lim, .int .i64 n] w fun e w' => e = .returned (.bool true) ∧ Below w.heap.size w w' := by
  by_cases h : 0 ≤ lim ∧ lim ≤ 2000 ∧ 0 ≤ n ∧ n ≤ 3000
  · exact fills_some lim n w h.1 h.2.1 h.2.2.1 h.2.2.2
  · exact fills_none lim n w (by omega)
end Go.Proofs.Ytghegbdnecobkaa.rooms
