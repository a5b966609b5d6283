/- The law RoomStacks. -/
import Derived.Test.YtghegbdnecobkaaRoom4
import Derived.Test.YtghegbdnecobkaaOpen
namespace Go.Proofs.Ytghegbdnecobkaa.rooms
open Go.RowKit Go.Proofs.Ytghegbdnecobkaa.frames

/-- The words of an argument, in a later world. -/
structure ArgAt (B : Nat) (b off : Nat) (xs : List Int) (w : World) : Prop where
  cell : ∀ i, i < xs.length → w.cell? ⟨b, off + i, none⟩ = some (.int .u64 (xs.getD i 0))
  low : b < B
theorem ArgAt.later {B b off : Nat} {xs : List Int} {w w' : World} (h : ArgAt B b off xs w) (hb : Below B w w') : ArgAt B b off xs w' := ⟨fun i hi => (hb.cell h.low).trans (h.cell i hi), h.low⟩

def StackR (B b n : Nat) (xs : List Int) (most : Int) (w wr : World) : Prop := (∃ ao cap, RoomP B b ao cap (xs.take n) 1048576 most wr) ∧ Below B w wr

theorem take_snoc (xs : List Int) (k : Nat) (h : k < xs.length) : xs.take k ++ [xs.getD k 0] = xs.take (k + 1) := by
  rw [List.take_succ_eq_append_getElem h]
  simp [List.getD, List.getElem?_eq_getElem h]

theorem StackR.push {B b k : Nat} {xs : List Int} {w wr w' : World} {ao ao' : Option Addr} {cap cap' : Nat} (hk : k < xs.length) (h : RoomP B b ao cap (xs.take k) 1048576 k wr) (hb : Below B w wr)
    (h' : RoomP B b ao' cap' (xs.take k ++ [xs.getD k 0]) 1048576 (max (k : Int) ((xs.take k ++ [xs.getD k 0]).length : Nat)) w') (ho : Only (Mine b ao) wr w') : StackR B b (k + 1) xs ((k + 1 : Nat) : Int) w w' := by
  refine ⟨⟨ao', cap', ?_⟩, hb.trans (h.keeps ho)⟩
  rw [take_snoc xs k hk] at h'
  have hl : (xs.take (k + 1)).length = k + 1 := by rw [List.length_take]; omega
  rw [hl, show max (k : Int) ((k + 1 : Nat) : Int) = ((k + 1 : Nat) : Int) by omega] at h'
  exact h'
theorem StackR.pop {B b k : Nat} {xs : List Int} {most : Int} {w wr w' : World} {ao : Option Addr} {cap : Nat} (h : RoomP B b ao cap (xs.take (k + 1)) 1048576 most wr) (hb : Below B w wr)
    (h' : RoomP B b ao cap ((xs.take (k + 1)).take k) 1048576 most w') (ho : Only (· = b) wr w') : StackR B b k xs most w w' := by
  refine ⟨⟨ao, cap, ?_⟩, hb.trans (h.keeps ho.struct)⟩
  rw [List.take_take, show min k (k + 1) = k by omega] at h'
  exact h'

set_option maxHeartbeats 2000000 in
theorem stacks_some (b0 off cap0 : Nat) (xs : List Int) (w : World) (hA : Hid (ArgAt w.heap.size b0 off xs w)) (hl : xs.length ≤ 1000) : Calls Try.prog 4 #[.slice (some ⟨b0, off, none⟩) xs.length cap0] w fun e w' => e = .returned (.bool true) ∧ Below w.heap.size w w' := by
  go_enter Try.func4, Try.ntmps4
  go_wp2_with fail
  refine (new_yes 1048576 _ (by omega) (by omega)).mono ?_
  rintro e w1 ⟨b, rfl, r1, o1, hb⟩
  have HB := Lib.hid hb
  have R1 := Lib.hid r1
  clear hb r1
  go_wp2_with fail
  refine (lives_any _).mono ?_
  rintro e w2 ⟨rfl, b2⟩
  have r2 := R1.out.only (Only.of_below b2 (fun _ => False)) (fun _ _ e => e)
  have R2 := Lib.hid r2
  have b1 : Below w.heap.size w w2 := (o1.below (Nat.le_refl _) (fun _ _ e => e.elim)).trans (b2.mono o1.size)
  have B1 := Lib.hid b1
  clear r2 b1 b2
  go_wp2_with fail
  go_loopw [5] (fun i wr => ∃ k : Nat, i = .int .i64 k ∧ k ≤ xs.length ∧ Hid (StackR w.heap.size b k xs k w wr)) (fun i _ => xs.length - (intOf i).toNat)
  case atStart => exact ⟨0, rfl, by omega, ⟨⟨none, 0, R2.out⟩, B1.out⟩⟩
  case round =>
    obtain ⟨k, rfl, hk, hR⟩ := hrel
    obtain ⟨⟨ao, cap, hroom⟩, hbel⟩ := hR.out
    have HR := Lib.hid hroom
    have HB2 := Lib.hid hbel
    have hlen : (xs.take k).length = k := by rw [List.length_take]; omega
    have HL := Lib.hid hlen
    clear hroom hbel hlen
    by_cases hkn : k < xs.length
    · have hc := (hA.out.later HB2.out).cell k hkn
      generalize hx : xs.getD k 0 = x at hc
      have HX := Lib.hid hx
      clear hx
      go_wp2_with fail
      refine (push_some (x := x) HR.out (by rw [HL.out]; omega) (by omega)).mono ?_
      rintro e w3 ⟨rfl, ao', cap', h3', o3, n3⟩
      rw [← HX.out] at h3'
      have HF := Lib.hid (StackR.push hkn HR.out HB2.out h3' o3)
      clear h3' o3 n3
      go_wp2_with fail
      go_roundw
      case rel => exact ⟨k + 1, by go_num, by omega, HF⟩
      case measure => simp [intOf]; omega
    · obtain rfl : k = xs.length := by omega
      have HS := hR
      clear hR HR HB2 HL hkn
      go_wp2_with fail
      obtain ⟨wo, rfl⟩ : ∃ wo : World, wo = wr := ⟨_, rfl⟩
      go_loopw [6] (fun i wq => ∃ j : Nat, i = .int .i64 ((j : Int) - 1) ∧ j ≤ xs.length ∧ Hid (StackR w.heap.size b j xs xs.length w wq)) (fun i _ => (intOf i + 1).toNat)
      case atStart => exact ⟨xs.length, rfl, by omega, HS⟩
      case round =>
        obtain ⟨j, rfl, hj, hR2⟩ := hrel
        obtain ⟨⟨ao2, cap2, hroom2⟩, hbel2⟩ := hR2.out
        have HRq := Lib.hid hroom2
        have HBq := Lib.hid hbel2
        clear hroom2 hbel2 hR2
        by_cases hj0 : 0 < j
        · obtain ⟨i, rfl⟩ : ∃ i, j = i + 1 := ⟨j - 1, by omega⟩
          have hlen : (xs.take (i + 1)).length = i + 1 := by rw [List.length_take]; omega
          have hget : (xs.take (i + 1)).getD i 0 = xs.getD i 0 := by simp [List.getD]
          have e1 : (((i + 1 : Nat) : Int) - 1) = (i : Int) := by omega
          rw [e1]
          go_wp2_with fail
          refine (pop_yes i HRq.out hlen (by rw [hlen]; omega)).mono ?_
          rintro e w3 ⟨rfl, h3, o3⟩
          rw [hget]
          have hs3 := StackR.pop HRq.out HBq.out h3 o3
          have hc := (hA.out.later hs3.2).cell i (by omega)
          have HF := Lib.hid hs3
          clear h3 o3 hs3 hlen hget e1
          generalize xs.getD i 0 = x at hc
          go_wp2_with fail
          go_roundw
          case rel => exact ⟨i, by go_num, by omega, HF⟩
          case measure => simp [intOf]
        · obtain rfl : j = 0 := by omega
          go_wp2_with fail
          refine (pop_no HRq.out (by simp)).mono ?_
          rintro e w3 ⟨rfl, rfl⟩
          go_wp2_with fail
          refine (most_any HRq.out).mono ?_
          rintro e w3 ⟨rfl, rfl⟩
          go_wp2_with fail
          go_ret
          exact ⟨rfl, HBq.out⟩

set_option maxHeartbeats 1000000 in
theorem stacks_none (ao0 : Option Addr) (cap0 : Nat) (w : World) : Calls Try.prog 4 #[.slice ao0 0 cap0] w fun e w' => e = .returned (.bool true) ∧ Below w.heap.size w w' := by
  go_enter Try.func4, Try.ntmps4
  go_wp2_with fail
  refine (new_yes 1048576 _ (by omega) (by omega)).mono ?_
  rintro e w1 ⟨b, rfl, r1, o1, hb⟩
  have R1 := Lib.hid r1
  clear hb r1
  go_wp2_with fail
  refine (lives_any _).mono ?_
  rintro e w2 ⟨rfl, b2⟩
  have r2 := R1.out.only (Only.of_below b2 (fun _ => False)) (fun _ _ e => e)
  have R2 := Lib.hid r2
  have b1 : Below w.heap.size w w2 := (o1.below (Nat.le_refl _) (fun _ _ e => e.elim)).trans (b2.mono o1.size)
  have B1 := Lib.hid b1
  clear r2 b1 b2
  go_wp2_with fail
  refine wp_loop_rounds 1 ?_
  rw [rounds_succ]
  go_wp2_with fail
  refine wp_loop_rounds 1 ?_
  rw [rounds_succ]
  go_wp2_with fail
  refine (pop_no R2.out rfl).mono ?_
  rintro e w3 ⟨rfl, rfl⟩
  go_wp2_with fail
  refine (most_any R2.out).mono ?_
  rintro e w3 ⟨rfl, rfl⟩
  go_wp2_with fail
  go_ret
  exact ⟨rfl, B1.out⟩
set_option maxHeartbeats 1000000 in
theorem stacks_long (ao0 : Option Addr) (n cap0 : Nat) (w : World) (h : 1000 < n) (hm : n ≤ maxLen) : Calls Try.prog 4 #[.slice ao0 n cap0] w fun e w' => e = .returned (.bool true) ∧ Below w.heap.size w w' := by
  unfold maxLen at hm
  go_enter Try.func4, Try.ntmps4
  go_wp2_with fail
  refine (new_yes 1048576 _ (by omega) (by omega)).mono ?_
  rintro e w1 ⟨b, rfl, r1, o1, hb⟩
  clear hb r1
  have b1 := o1.below (Nat.le_refl w.heap.size) (fun _ _ e => e.elim)
  go_wp2_with fail
  refine (lives_any _).mono ?_
  rintro e w2 ⟨rfl, b2⟩
  go_wp2_with fail
  refine (lives_any _).mono ?_
  rintro e w3 ⟨rfl, b3⟩
  go_wp2_with fail
  go_ret
  exact ⟨rfl, (b1.trans (b2.mono o1.size)).trans (b3.mono (Nat.le_trans o1.size b2.size))⟩
theorem law_stacks (ao0 : Option Addr) (cap0 : Nat) (xs : List Int) (w : World) (hA : ArgRow w ao0 xs) (hm : xs.length ≤ maxLen) : Calls Try.prog 4 #[.slice ao0 xs.length cap0] w fun e w' => e = .returned (.bool true) ∧ Below w.heap.size w w' := by
  by_cases hl : 1000 < xs.length
  · exact stacks_long ao0 xs.length cap0 w hl hm
  · cases xs with
    | nil => exact stacks_none ao0 cap0 w
    | cons x xs =>
      obtain ⟨b0, off, rfl, hlt, _⟩ := hA.cell 0 (by simp)
      refine stacks_some b0 off cap0 (x :: xs) w ⟨fun i hi => ?_, hlt⟩ (by omega)
      obtain ⟨b1, off1, e, _, hc⟩ := hA.cell i hi
      cases e
      exact hc
end Go.Proofs.Ytghegbdnecobkaa.rooms
