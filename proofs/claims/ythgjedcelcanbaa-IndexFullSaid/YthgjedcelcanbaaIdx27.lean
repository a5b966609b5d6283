
/- Selection by keys: the reference's table: Head, Next, All. -/
import Derived.Test.YthgjedcelcanbaaIdx26
namespace Go.Proofs.Ythgjedcelcanbaa.idx
set_option maxRecDepth 100000
open Go.RowKit Go.Proofs.Ythgjedcelcanbaa.own Go.Lib Go.Maps Go.WideMaps
section
variable {B b : Nat} {M : List Pr} {ao : Option Addr} {cap : Nat} {w W W' : World}
theorem rhead_any (h : RT B b M ao cap w) (k : Ky) (hn : M.length ≤ 1000000) : Calls Try.prog 23 #[.pointer (some ⟨b, 0, none⟩), kyV k] w fun e w' => e = .returned (ansP (fromP 0 k M)) ∧ Only (fun _ => False) w w' := by
  obtain ⟨E, hE⟩ : ∃ E, E = w.alloc (.cells #[.int .i64 k.k, .string k.s, .int .i64 k.n] 32) := ⟨_, rfl⟩
  have hx : Three w.heap.size k E := by unfold Three; rw [hE]; exact heap_alloc_new _ _
  have ho : Only (fun _ => False) w E := by rw [hE]; exact Only.alloc _ _ _
  have HO := Lib.hid ho
  have HF := Lib.hid (rfrom_any (h.later ho) 0 k (by omega) hn)
  obtain ⟨x0, x1, x2⟩ := hx.cells
  generalize fromP 0 k M = r at *
  clear h hx ho
  go_enter Try.func23, Try.ntmps23
  go_upto_region 1 with fail
  rw [← hE]
  clear hE
  go_wp2_with fail
  refine HF.out.mono ?_
  rintro e w1 ⟨rfl, ho⟩
  have HO1 := Lib.hid (HO.out.same ho)
  clear x0 x1 x2 ho
  unfold ansP
  go_wp2_with fail
  go_ret2
  exact ⟨rfl, HO1.out⟩
/-- What the reference's Next answers. -/
def nextP (i : Int) (k : Ky) (M : List Pr) : Option Pr := match atF i M with
  | none => none
  | some j => fromP (j + 1) k M
theorem at_len {i : Int} {M : List Pr} {j : Nat} (h : atF i M = some j) : j < M.length := by
  unfold atF at h
  rw [List.findIdx?_eq_some_iff_getElem] at h
  exact h.1
set_option maxHeartbeats 4000000 in
theorem rnext_any (h : RT B b M ao cap w) (i : Int) (k : Ky) (hn : M.length ≤ 900000) : Calls Try.prog 22 #[.pointer (some ⟨b, 0, none⟩), .int .i64 i, kyV k] w fun e w' => e = .returned (ansP (nextP i k M)) ∧ Only (fun _ => False) w w' := by
  obtain ⟨E, hE⟩ : ∃ E, E = w.alloc (.cells #[.int .i64 k.k, .string k.s, .int .i64 k.n] 32) := ⟨_, rfl⟩
  have hx : Three w.heap.size k E := by unfold Three; rw [hE]; exact heap_alloc_new _ _
  have ho : Only (fun _ => False) w E := by rw [hE]; exact Only.alloc _ _ _
  have HO := Lib.hid ho
  have HA := Lib.hid (at_any (h.later ho) i (by omega))
  have HH := Lib.hid (h.later ho)
  obtain ⟨x0, x1, x2⟩ := hx.cells
  unfold nextP
  cases ha : atF i M with
  | none =>
    have hi : atI i M = -1 := by unfold atI; rw [ha]
    rw [hi] at HA
    clear h hx ho ha hi HH
    go_enter Try.func22, Try.ntmps22
    go_upto_region 1 with fail
    rw [← hE]
    clear hE
    go_wp2_with fail
    refine HA.out.mono ?_
    rintro e w1 ⟨rfl, rfl⟩
    go_wp2_with fail
    go_ret2
    exact ⟨rfl, HO.out⟩
  | some j =>
    have hi : atI i M = (j : Int) := by unfold atI; rw [ha]
    have hj := at_len ha
    rw [hi] at HA
    have HF := Lib.hid (rfrom_any HH.out (j + 1) k (by omega) (by omega))
    have hge : ¬ ((j : Int) < 0) := by omega
    have hwj : IntKind.i64.wrap ((j : Int) + 1) = ((j + 1 : Nat) : Int) := by rw [IntWalk.i64_in _ (by omega)]; omega
    simp only
    generalize fromP (j + 1) k M = r at *
    clear h hx ho ha hi HH
    go_enter Try.func22, Try.ntmps22
    go_upto_region 1 with fail
    rw [← hE]
    clear hE
    go_wp2_with fail
    refine HA.out.mono ?_
    rintro e w1 ⟨rfl, rfl⟩
    go_wp2_with fail
    refine HF.out.mono ?_
    rintro e w2 ⟨rfl, ho⟩
    have HO1 := Lib.hid (HO.out.same ho)
    clear x0 x1 x2 ho
    unfold ansP
    go_wp2_with fail
    go_ret2
    exact ⟨rfl, HO1.out⟩
end
end Go.Proofs.Ythgjedcelcanbaa.idx
