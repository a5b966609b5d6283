/- The law RoomKeeps. -/
import Derived.Test.YtghegbdnecobkaaRoom5
import Derived.Test.YtghegbdnecobkaaRoom7
namespace Go.Proofs.Ytghegbdnecobkaa.rooms
open Go.RowKit Go.Proofs.Ytghegbdnecobkaa.frames

def KeepsR (B b n : Nat) (xs : List Int) (w wr : World) : Prop := (∃ ao cap, RoomP B b ao cap (xs.take n) 1000 n wr) ∧ Below B w wr

theorem KeepsR.push {B b k : Nat} {xs : List Int} {w wr w' : World} {ao ao' : Option Addr} {cap cap' : Nat} (hk : k < xs.length) (h : RoomP B b ao cap (xs.take k) 1000 k wr) (hb : Below B w wr)
    (h' : RoomP B b ao' cap' (xs.take k ++ [xs.getD k 0]) 1000 (max (k : Int) ((xs.take k ++ [xs.getD k 0]).length : Nat)) w') (ho : Only (Mine b ao) wr w') : KeepsR B b (k + 1) xs w w' := by
  refine ⟨⟨ao', cap', ?_⟩, hb.trans (h.keeps ho)⟩
  rw [take_snoc xs k hk] at h'
  have hl : (xs.take (k + 1)).length = k + 1 := by rw [List.length_take]; omega
  rw [hl, show max (k : Int) ((k + 1 : Nat) : Int) = ((k + 1 : Nat) : Int) by omega] at h'
  exact h'

set_option maxHeartbeats 2000000 in
theorem keeps_some (b0 off cap0 : Nat) (xs : List Int) (w : World) (hA : Hid (ArgAt w.heap.size b0 off xs w)) (hl : xs.length ≤ 1000) : Calls Try.prog 7 #[.slice (some ⟨b0, off, none⟩) xs.length cap0] w fun e w' => e = .returned (.bool true) ∧ Below w.heap.size w w' := by
  go_enter Try.func7, Try.ntmps7
  go_wp2_with fail
  refine (new_yes 1000 _ (by omega) (by omega)).mono ?_
  rintro e w1 ⟨b, rfl, r1, o1, hb⟩
  have HB := Lib.hid hb
  have R1 := Lib.hid r1
  clear hb r1
  go_wp2_with fail
  refine (lives_any _).mono ?_
  rintro e w2 ⟨rfl, b2⟩
  have r2 := R1.out.only (Only.of_below b2 (fun _ => False)) (fun _ _ e => e)
  have R2 := Lib.hid r2
  have b1 : Below w.heap.size w w2 := (o1.below (Nat.le_refl _) (fun _ _ e => e.elim)).trans (b2.mono o1.size)
  have B1 := Lib.hid b1
  clear r2 b1 b2
  go_wp2_with fail
  go_loopw [5] (fun i wr => ∃ k : Nat, i = .int .i64 k ∧ k ≤ xs.length ∧ Hid (KeepsR w.heap.size b k xs w wr)) (fun i _ => xs.length - (intOf i).toNat)
  case atStart => exact ⟨0, rfl, by omega, ⟨⟨none, 0, R2.out⟩, B1.out⟩⟩
  case round =>
    obtain ⟨k, rfl, hk, hR⟩ := hrel
    obtain ⟨⟨ao, cap, hroom⟩, hbel⟩ := hR.out
    have HR := Lib.hid hroom
    have HB2 := Lib.hid hbel
    have hlen : (xs.take k).length = k := by rw [List.length_take]; omega
    have HL := Lib.hid hlen
    clear hroom hbel hlen
    by_cases hkn : k < xs.length
    · have hc := (hA.out.later HB2.out).cell k hkn
      generalize hx : xs.getD k 0 = x at hc
      have HX := Lib.hid hx
      clear hx
      go_wp2_with fail
      refine (push_some (x := x) HR.out (by rw [HL.out]; omega) (by omega)).mono ?_
      rintro e w3 ⟨rfl, ao', cap', h3', o3, n3⟩
      rw [← HX.out] at h3'
      have HF := Lib.hid (KeepsR.push hkn HR.out HB2.out h3' o3)
      clear h3' o3 n3
      go_wp2_with fail
      go_roundw
      case rel => exact ⟨k + 1, by go_num, by omega, HF⟩
      case measure => simp [intOf]; omega
    · obtain rfl : k = xs.length := by omega
      rw [List.take_length] at HR HL
      clear hR hkn HL
      go_wp2_with fail
      refine (keep_always HR.out (by omega)).mono ?_
      rintro e w4 ⟨rfl, ao4, cap4, h4, o4⟩
      have H4 := Lib.hid h4
      have HB4 := Lib.hid (HB2.out.trans (HR.out.keeps o4.struct))
      clear h4 o4 HR HB2
      go_wp2_with fail
      refine (words_any H4.out (by omega)).mono ?_
      rintro e w5 ⟨g, rfl, h5, o5⟩
      have H5 := Lib.hid h5
      have HR5 := Lib.hid (H4.out.only o5 (fun _ _ e => e))
      have HB5 := Lib.hid (HB4.out.trans (H4.out.keeps (o5.no _)))
      clear h5 o5 H4 HB4
      go_wp2_with fail
      obtain ⟨wo, rfl⟩ : ∃ wo : World, wo = wr := ⟨_, rfl⟩
      have hS5 := Lib.hid (Only.refl (fun _ => False) w5)
      go_loopw [8] (fun i wq => ∃ j : Nat, i = .int .i64 j ∧ j ≤ xs.length ∧ Hid (Only (fun _ => False) w5 wq)) (fun i _ => xs.length - (intOf i).toNat)
      case atStart => exact ⟨0, rfl, by omega, hS5⟩
      case round =>
        obtain ⟨j, rfl, hj, hO⟩ := hrel
        by_cases hjn : j < xs.length
        · have hb5 : Below w.heap.size w wr := HB5.out.trans (hO.out.below (Nat.le_trans HR5.out.low (Nat.le_of_lt HR5.out.lt)) (fun _ _ e => e.elim))
          have hc := (hA.out.later hb5).cell j hjn
          have hrow := H5.out.only hO.out (fun _ _ e => e)
          obtain ⟨g', hg', hcg⟩ := hrow.at j hjn
          cases hg'
          clear hrow hb5
          generalize xs.getD j 0 = x at hc hcg
          go_wp2_with fail
          go_quiet (fail)
          have hO2 := Lib.hid (hO.out.same (Only.drewN _ _ nq))
          generalize wr.drewN nq = w6 at *
          go_wp2_with fail
          go_roundw
          case rel => exact ⟨j + 1, by go_num, by omega, hO2⟩
          case measure => simp [intOf]; omega
        · obtain rfl : j = xs.length := by omega
          have H6 := Lib.hid (HR5.out.only hO.out (fun _ _ e => e))
          have HB6 := Lib.hid (HB5.out.trans (HR5.out.keeps (hO.out.no _)))
          clear hO HR5 HB5 hS5 H5 hjn
          go_wp2_with fail
          refine (keep_never H6.out (by omega)).mono ?_
          rintro e w7 ⟨rfl, ao7, cap7, h7, o7⟩
          have H7 := Lib.hid h7
          have HB7 := Lib.hid (HB6.out.trans (H6.out.keeps o7.struct))
          clear h7 o7 H6 HB6
          go_wp2_with fail
          refine (len_any H7.out).mono ?_
          rintro e w8 ⟨rfl, rfl⟩
          go_wp2_with fail
          refine (most_any H7.out).mono ?_
          rintro e w8 ⟨rfl, rfl⟩
          go_wp2_with fail
          go_ret
          exact ⟨rfl, HB7.out⟩

set_option maxHeartbeats 1000000 in
theorem keeps_none (ao0 : Option Addr) (cap0 : Nat) (w : World) : Calls Try.prog 7 #[.slice ao0 0 cap0] w fun e w' => e = .returned (.bool true) ∧ Below w.heap.size w w' := by
  go_enter Try.func7, Try.ntmps7
  go_wp2_with fail
  refine (new_yes 1000 _ (by omega) (by omega)).mono ?_
  rintro e w1 ⟨b, rfl, r1, o1, hb⟩
  have R1 := Lib.hid r1
  clear hb r1
  go_wp2_with fail
  refine (lives_any _).mono ?_
  rintro e w2 ⟨rfl, b2⟩
  have r2 := R1.out.only (Only.of_below b2 (fun _ => False)) (fun _ _ e => e)
  have R2 := Lib.hid r2
  have b1 : Below w.heap.size w w2 := (o1.below (Nat.le_refl _) (fun _ _ e => e.elim)).trans (b2.mono o1.size)
  have B1 := Lib.hid b1
  clear r2 b1 b2
  go_wp2_with fail
  refine wp_loop_rounds 1 ?_
  rw [rounds_succ]
  go_wp2_with fail
  refine (keep_always R2.out (by decide)).mono ?_
  rintro e w4 ⟨rfl, ao4, cap4, h4, o4⟩
  have H4 := Lib.hid h4
  have HB4 := Lib.hid (B1.out.trans (R2.out.keeps o4.struct))
  clear h4 o4
  go_wp2_with fail
  refine (words_any H4.out (by decide)).mono ?_
  rintro e w5 ⟨g, rfl, h5, o5⟩
  have HR5 := Lib.hid (H4.out.only o5 (fun _ _ e => e))
  have HB5 := Lib.hid (HB4.out.trans (H4.out.keeps (o5.no _)))
  clear h5 o5
  go_wp2_with fail
  refine wp_loop_rounds 1 ?_
  rw [rounds_succ]
  go_wp2_with fail
  refine (keep_never HR5.out (by decide)).mono ?_
  rintro e w7 ⟨rfl, ao7, cap7, h7, o7⟩
  have H7 := Lib.hid h7
  have HB7 := Lib.hid (HB5.out.trans (HR5.out.keeps o7.struct))
  clear h7 o7
  go_wp2_with fail
  refine (len_any H7.out).mono ?_
  rintro e w8 ⟨rfl, rfl⟩
  go_wp2_with fail
  refine (most_any H7.out).mono ?_
  rintro e w8 ⟨rfl, rfl⟩
  go_wp2_with fail
  go_ret
  exact ⟨rfl, HB7.out⟩
set_option maxHeartbeats 1000000 in
theorem keeps_long (ao0 : Option Addr) (n cap0 : Nat) (w : World) (h : 1000 < n) (hm : n ≤ maxLen) : Calls Try.prog 7 #[.slice ao0 n cap0] w fun e w' => e = .returned (.bool true) ∧ Below w.heap.size w w' := by
  unfold maxLen at hm
  go_enter Try.func7, Try.ntmps7
  go_wp2_with fail
  refine (new_yes 1000 _ (by omega) (by omega)).mono ?_
  rintro e w1 ⟨b, rfl, r1, o1, hb⟩
  clear hb r1
  have b1 := o1.below (Nat.le_refl w.heap.size) (fun _ _ e => e.elim)
  go_wp2_with fail
  refine (lives_any _).mono ?_
  rintro e w2 ⟨rfl, b2⟩
  go_wp2_with fail
  refine (lives_any _).mono ?_
  rintro e w3 ⟨rfl, b3⟩
  go_wp2_with fail
  go_ret
  exact ⟨rfl, (b1.trans (b2.mono o1.size)).trans (b3.mono (Nat.le_trans o1.size b2.size))⟩
theorem law_keeps (ao0 : Option Addr) (cap0 : Nat) (xs : List Int) (w : World) (hA : ArgRow w ao0 xs) (hm : xs.length ≤ maxLen) : Calls Try.prog 7 #[.slice ao0 xs.length cap0] w fun e w' => e = .returned (.bool true) ∧ Below w.heap.size w w' := by
  by_cases hl : 1000 < xs.length
  · exact keeps_long ao0 xs.length cap0 w hl hm
  · cases xs with
    | nil => exact keeps_none ao0 cap0 w
    | cons x xs =>
      obtain ⟨b0, off, rfl, hlt, _⟩ := hA.cell 0 (by simp)
      refine keeps_some b0 off cap0 (x :: xs) w ⟨fun i hi => ?_, hlt⟩ (by omega)
      obtain ⟨b1, off1, e, _, hc⟩ := hA.cell i hi
      cases e
      exact hc
end Go.Proofs.Ytghegbdnecobkaa.rooms
