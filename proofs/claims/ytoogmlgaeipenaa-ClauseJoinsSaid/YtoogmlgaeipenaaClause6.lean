/- Clauses: lists of terms put together: room that is made. -/
import Derived.Test.YtoogmlgaeipenaaClause3
import Derived.Lib.AppendZerosOnto
import Derived.Lib.SliceRun
import Derived.Lib.Walk
namespace Go.Proofs.Ytoogmlgaeipenaa.terms
set_option maxRecDepth 100000
open Go.RowKit Go.Proofs.Ytoogmlgaeipenaa.own Go.Maps Go.Lib
/-- Room for so many terms, of no list. -/
theorem Grow_none (w : World) : Calls Try.prog 123 #[.slice none 0 0, .int .i64 0] w fun e w' => e = .returned (.slice none 0 0) ∧ w' = w := by
  go_enter Try.func123, Try.ntmps123
  go_wp2_with fail
  go_ret
  exact ⟨rfl, rfl⟩
set_option maxHeartbeats 4000000 in
theorem Grow_some (n : Nat) (h0 : 0 < n) (hn : n ≤ 100000) (w : World) : Calls Try.prog 123 #[.slice none 0 0, .int .i64 n] w fun e w' => ∃ cap, e = .returned (.slice (some ⟨w.heap.size, 0, none⟩) 0 cap) ∧ n ≤ cap ∧ ItsP w.heap.size (some ⟨w.heap.size, 0, none⟩) cap [] w' ∧ Only (fun _ => False) w w' := by
  obtain ⟨i0, hi, hz0, hz1, hz2⟩ := info_parts infoT
  have hold : (Builtin.firstCells i0.size 0 (.slice none 0 0)).run Try.prog w.drew = .ok ([] : List Value).toArray w.drew := run_firstCells_none w.drew i0.size 0 0 0
  have hgr : n ≤ grownCap w (0 + n) 0 24 := by have := grownCap_ge w (0 + n) 0 24; omega
  have hle : grownCap w (0 + n) 0 24 ≤ maxLen := grownCap_le_maxLen w (0 + n) 0 24 (by unfold maxLen; omega)
  have hrz : ∀ ty, (Builtin.append_ #[22, 3] ty #[.slice none 0 0, .int .i64 n]).run Try.prog w =
      .ok (.slice (some ⟨w.heap.size, 0, none⟩) n (grownCap w (0 + n) 0 24)) (w.drew.alloc (.cells (([] : List Value).toArray ++ Builtin.zeroCells (Value.agg #[.int .i64 0, .int .i64 0, .string ⟨#[]⟩, .slice none 0 0]).cells n ++ Builtin.zeroCells (Value.agg #[.int .i64 0, .int .i64 0, .string ⟨#[]⟩, .slice none 0 0]).cells (grownCap w (0 + n) 0 24 - (0 + n))) 24)) := fun ty => by
    have h := Lib.run_append_grow_zeros w 22 3 ty 24 i0 _ .i64 .i64 Try.underlying22 Try.underlying3 hi hz0 none 0 0 [] hold n h0 (by omega) (by omega) (by omega) (by rw [hz2]; omega) (growslice_fits (by omega) (by rw [hz2]; omega))
    rw [Nat.zero_add] at h ⊢
    exact h
  rw [Nat.zero_add] at hgr hle hrz
  obtain ⟨Z, hZ, hZs⟩ : ∃ Z : Array Value, Z = ([] : List Value).toArray ++ Builtin.zeroCells (Value.agg #[.int .i64 0, .int .i64 0, .string ⟨#[]⟩, .slice none 0 0]).cells n ++ Builtin.zeroCells (Value.agg #[.int .i64 0, .int .i64 0, .string ⟨#[]⟩, .slice none 0 0]).cells (grownCap w n 0 24 - n) ∧ Z.size = grownCap w n 0 24 * 4 := by
    refine ⟨_, rfl, ?_⟩
    simp [Builtin.zeroCells, Value.cells]
    omega
  rw [← hZ] at hrz
  clear hZ hold
  generalize grownCap w n 0 24 = G at *
  have hG : G ≤ 9223372036854775807 := by unfold maxLen at hle; omega
  have hfin : Hid (ItsP w.heap.size (some ⟨w.heap.size, 0, none⟩) G [] (w.drew.alloc (.cells Z 24)) ∧ Only (fun _ => False) w (w.drew.alloc (.cells Z 24))) := Lib.hid ⟨⟨rfl, .inr ⟨w.heap.size, G, Z, rfl, Nat.le_refl _, heap_alloc_new w.drew _, Nat.zero_le _, hle, hZs, by simp⟩⟩, (Only.drew _ _).same (Only.alloc _ _ _)⟩
  have HGR := Lib.hid hgr
  clear hle hZs
  go_enter Try.func123, Try.ntmps123
  go_wp2_with (at_builtin; refine Lib.wpList_append_run _ rfl _ _ _ _ rfl _ _ rfl rfl _ _ (hrz _) ?_)
  all_goals
    go_ret
    exact ⟨G, rfl, HGR.out, hfin.out.1, hfin.out.2⟩
end Go.Proofs.Ytoogmlgaeipenaa.terms
