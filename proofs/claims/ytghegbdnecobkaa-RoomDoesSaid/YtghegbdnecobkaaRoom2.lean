/- Contracts of package room's calls: Grow, Words. -/
import Derived.Test.YtghegbdnecobkaaRoom1
import Derived.Test.YtghegbdnecobkaaRoomZeros
import Derived.Test.YtghegbdnecobkaaRoomCopy
namespace Go.Proofs.Ytghegbdnecobkaa.rooms
open Go.RowKit

theorem grow_low {B b : Nat} {ao : Option Addr} {cap : Nat} {xs : List Int} {lim most : Int} {w : World} (n : Int) (_h : RoomP B b ao cap xs lim most w) (hn : n < 0) :
    Calls Try.prog 22 #[.pointer (some ⟨b, 0, none⟩), .int .i64 n] w fun e w' => e = .returned (.int .i64 1) ∧ w = w' := by
  clear _h
  go_enter Try.func22, Try.ntmps22
  go_wp2
  go_ret
  exact ⟨rfl, rfl⟩
theorem grow_full {B b : Nat} {ao : Option Addr} {cap : Nat} {xs : List Int} {lim most : Int} {w : World} (n : Int) (h : RoomP B b ao cap xs lim most w) (hn : 0 ≤ n) (hf : lim - (xs.length : Int) < n) (hl : 0 ≤ lim) (hl2 : lim ≤ 1048576) (hb : xs.length ≤ 1048576) :
    Calls Try.prog 22 #[.pointer (some ⟨b, 0, none⟩), .int .i64 n] w fun e w' => e = .returned (.int .i64 2) ∧ Only (fun _ => False) w w' := by
  have c0 := h.c0
  have c1 := h.c1
  clear h
  go_enter Try.func22, Try.ntmps22
  go_wp2
  go_quiet (fail)
  go_wp2
  go_ret
  exact ⟨rfl, Only.drewN _ _ _⟩
theorem grow_some {B b : Nat} {ao : Option Addr} {cap : Nat} {xs : List Int} {lim most : Int} {w : World} (n : Nat) (h : RoomP B b ao cap xs lim most w) (hf : (n : Int) ≤ lim - (xs.length : Int)) (hl2 : lim ≤ 1048576) (hb : xs.length ≤ 1048576) :
    Calls Try.prog 22 #[.pointer (some ⟨b, 0, none⟩), .int .i64 n] w fun e w' => e = .returned (.int .i64 0) ∧
      ∃ ao' cap', RoomP B b ao' cap' (xs ++ List.replicate n 0) lim (max most ((xs ++ List.replicate n 0).length : Nat)) w' ∧ Only (Mine b ao) w w' ∧ NewRow w.heap.size ao ao' := by
  obtain ⟨i0, hi, hz0, hz1, hz2⟩ := info_parts info64
  have c0 := h.c0
  have c1 := h.c1
  have H := Lib.hid h
  clear h
  go_enter Try.func22, Try.ntmps22
  go_wp2
  go_quiet (fail)
  have ho := Only.drewN (fun _ => False) w nq
  have hr1 := H.out.drewN nq
  generalize w.drewN nq = w1 at *
  have c0 := hr1.c0
  have H1 := Lib.hid hr1
  clear hr1
  go_wp2_with (at_builtin; refine wp_append_zeros rfl (.tmp 25) (.tmp 26) 35 3 rfl B 31 i0 .i64 .i64 Try.underlying35 Try.underlying3 hi hz0 hz1 hz2 w1 ao cap n xs rfl H1.out.row rfl (by omega) (by omega) (Nat.le_trans H1.out.low (Nat.le_of_lt H1.out.lt)) ?_; intro ao' cap' w2 hrow2 honly2 hnew2)
  have hb2 : w2.heap[b]? = some (.cells #[.slice ao xs.length cap, .int .i64 lim, .int .i64 most] 53 (0, 0)) := by
    rw [honly2.block b H1.out.lt (by rintro ⟨g, hg, e⟩; exact H1.out.other g hg e.symm)]
    exact H1.out.blk
  have HB2 := Lib.hid hb2
  clear hb2
  refine (hold_any HB2.out).mono ?_
  rintro e w3 ⟨rfl, ho3, hb3⟩
  have HB3 := Lib.hid hb3
  clear hb3
  go_wp2_with fail
  go_ret
  have hl1 : (xs ++ List.replicate n (0 : Int)).length = xs.length + n := by simp
  have hblk := HB3.out
  rw [← hl1] at hblk
  have hoth := H1.out.other_new H1.out.lt hnew2
  exact ⟨rfl, ao', cap', IsRoom.behind hblk hrow2 ho3 H1.out.low hoth, ((ho.no (Mine b ao)).same honly2.rowAt).same ho3.struct, hnew2.of_only ho⟩

theorem words_any {B b : Nat} {ao : Option Addr} {cap : Nat} {xs : List Int} {lim most : Int} {w : World} (h : RoomP B b ao cap xs lim most w) (hb : xs.length ≤ 1048576) :
    Calls Try.prog 16 #[.pointer (some ⟨b, 0, none⟩)] w fun e w' => ∃ g, e = .returned (.slice (some ⟨g, 0, none⟩) xs.length xs.length) ∧ Row 31 w.heap.size (some ⟨g, 0, none⟩) xs.length xs w' ∧ Only (fun _ => False) w w' := by
  obtain ⟨i0, hi, hz0, hz1, hz2⟩ := info_parts info64
  have c0 := h.c0
  have H := Lib.hid h
  clear h
  go_enter Try.func16, Try.ntmps16
  go_wp2_with (first
    | (at_make; refine wp_make_words w rfl (.tmp 10) (.tmp 10) 35 rfl w.heap.size 31 i0 Try.underlying35 hi hz0 hz1 hz2 .i64 .i64 xs.length xs.length xs.length rfl rfl rfl rfl hb (Nat.le_refl _) ?_; intro w1 hrow1 ho1; have H1 := Lib.hid (H.out.only ho1 (fun _ _ e => e)); have c0 := H1.out.c0)
    | (refine wp_copy_words (o := ⟨some 17, _, _, _, _, _⟩) rfl (.tmp 12) (.tmp 16) 35 35 rfl 31 i0 Try.underlying35 hi hz1 w1 w.heap.size B w.heap.size xs.length cap ao (List.replicate xs.length 0) xs xs.length rfl rfl List.length_replicate List.length_replicate hrow1 H1.out.row ?_; intro w2 hrow2 ho2))
  go_ret
  exact ⟨_, rfl, hrow2, ho1.trans ho2 (fun k hk e => by omega)⟩
end Go.Proofs.Ytghegbdnecobkaa.rooms
