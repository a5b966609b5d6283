
/- Contracts of package room's calls: Grow, Words. -/
import Derived.Test.YthfilpacmllhpaaRoom1
import Derived.Test.YthfilpacmllhpaaRoomZeros
import Derived.Test.YthfilpacmllhpaaRoomCopy
namespace Go.Proofs.Ythfilpacmllhpaa.rooms
open Go.RowKit
set_option maxRecDepth 100000

theorem grow_low {B b : Nat} {ao : Option Addr} {cap : Nat} {xs : List Int} {lim most : Int} {w : World} (n : Int) (_h : RoomP B b ao cap xs lim most w) (hn : n < 0) :
    Calls Try.prog 64 #[.pointer (some ⟨b, 0, none⟩), .int .i64 n] w fun e w' => e = .returned (.int .i64 1) ∧ w = w' := by
  clear _h
  go_enter Try.func64, Try.ntmps64
  go_wp2
  go_ret
  exact ⟨rfl, rfl⟩
theorem grow_full {B b : Nat} {ao : Option Addr} {cap : Nat} {xs : List Int} {lim most : Int} {w : World} (n : Int) (h : RoomP B b ao cap xs lim most w) (hn : 0 ≤ n) (hf : lim - (xs.length : Int) < n) (hl : 0 ≤ lim) (hl2 : lim ≤ 1048576) (hb : xs.length ≤ 1048576) :
    Calls Try.prog 64 #[.pointer (some ⟨b, 0, none⟩), .int .i64 n] w fun e w' => e = .returned (.int .i64 2) ∧ Only (fun _ => False) w w' := by
  have c0 := h.c0
  have c1 := h.c1
  clear h
  go_enter Try.func64, Try.ntmps64
  go_wp2
  go_quiet (fail)
  go_wp2
  go_ret
  exact ⟨rfl, Only.drewN _ _ _⟩
theorem grow_some {B b : Nat} {ao : Option Addr} {cap : Nat} {xs : List Int} {lim most : Int} {w : World} (n : Nat) (h : RoomP B b ao cap xs lim most w) (hf : (n : Int) ≤ lim - (xs.length : Int)) (hl2 : lim ≤ 1048576) (hb : xs.length ≤ 1048576) :
    Calls Try.prog 64 #[.pointer (some ⟨b, 0, none⟩), .int .i64 n] w fun e w' => e = .returned (.int .i64 0) ∧
      ∃ ao' cap', RoomP B b ao' cap' (xs ++ List.replicate n 0) lim (max most ((xs ++ List.replicate n 0).length : Nat)) w' ∧ Only (Mine b ao) w w' ∧ NewRow w.heap.size ao ao' := by
  obtain ⟨i0, hi, hz0, hz1, hz2⟩ := info_parts info64
  have c0 := h.c0
  have c1 := h.c1
  have H := Lib.hid h
  clear h
  go_enter Try.func64, Try.ntmps64
  go_wp2
  go_quiet (fail)
  have ho := Only.drewN (fun _ => False) w nq
  have hr1 := H.out.drewN nq
  generalize w.drewN nq = w1 at *
  have c0 := hr1.c0
  have H1 := Lib.hid hr1
  clear hr1
  go_wp2_with (at_builtin; refine wp_append_zeros rfl (.tmp 25) (.tmp 26) 30 3 rfl B 35 i0 .i64 .i64 Try.underlying30 Try.underlying3 hi hz0 hz1 hz2 w1 ao cap n xs rfl H1.out.row rfl (by omega) (by omega) (Nat.le_trans H1.out.low (Nat.le_of_lt H1.out.lt)) ?_; intro ao' cap' w2 hrow2 honly2 hnew2)
  have hb2 : w2.heap[b]? = some (.cells #[.slice ao xs.length cap, .int .i64 lim, .int .i64 most] 98 (0, 0)) := by
    rw [honly2.block b H1.out.lt (by rintro ⟨g, hg, e⟩; exact H1.out.other g hg e.symm)]
    exact H1.out.blk
  have HB2 := Lib.hid hb2
  clear hb2
  refine (hold_any HB2.out).mono ?_
  rintro e w3 ⟨rfl, ho3, hb3⟩
  have HB3 := Lib.hid hb3
  clear hb3
  go_wp2_with fail
  go_ret
  have hl1 : (xs ++ List.replicate n (0 : Int)).length = xs.length + n := by simp
  have hblk := HB3.out
  rw [← hl1] at hblk
  have hoth := H1.out.other_new H1.out.lt hnew2
  exact ⟨rfl, ao', cap', IsRoom.behind hblk hrow2 ho3 H1.out.low hoth, ((ho.no (Mine b ao)).same honly2.rowAt).same ho3.struct, hnew2.of_only ho⟩

end Go.Proofs.Ythfilpacmllhpaa.rooms
