/- Operators: the names of the types. -/
import Derived.Test.YtodgjkdhkohckaaDoorOper1
namespace Go.Proofs.YtodgjkdhkohckaaDoor.opers
open Go.RowKit Go.Proofs.YtodgjkdhkohckaaDoor.own Go.Maps
def tyL : List (List UInt8) := [[], [120, 102, 120], [120, 102, 121], [121, 102, 120], [102, 121], [102, 120]]
def tyB (i : Nat) : ByteArray := ⟨(tyL.getD i []).toArray⟩
/-- The program's list of the types' names. -/
def Typed (w : World) : Prop := ∀ i, i < 6 → w.cell? ⟨0, i, none⟩ = some (.string (tyB i))
theorem cell_lt {W : World} {p : Addr} {x : Value} (h : W.cell? p = some x) : p.block < W.heap.size := by
  unfold World.cell? at h
  cases hb : W.heap[p.block]? with
  | none => simp [hb] at h
  | some o => exact (Array.getElem?_eq_some_iff.1 hb).1
theorem Typed.later {w w' : World} (h : Typed w) (ho : Only (fun _ => False) w w') : Typed w' := fun i hi => (ho.cell (p := ⟨0, i, none⟩) (cell_lt (h i hi)) (fun e => e)).trans (h i hi)
def nameF (k : Int) : ByteArray := if isTypeF k = true then tyB k.toNat else ⟨#[]⟩
set_option maxRecDepth 100000 in
set_option maxHeartbeats 1000000 in
theorem TypeName_any (k : Int) (w : World) (hT : Typed w) : Calls Tryd.prog 22 #[.int .i64 k] w fun e w' => e = .returned (.string (nameF k)) ∧ w' = w := by
  have HI : Hid (∀ W, Calls Tryd.prog 46 #[.int .i64 k] W fun e w' => e = .returned (.bool (isTypeF k)) ∧ w' = W) := Lib.hid (isType_any k)
  cases hk : isTypeF k with
  | false =>
    have hE : Hid (nameF k = ⟨#[]⟩) := Lib.hid (by unfold nameF; rw [if_neg (by rw [hk]; simp)])
    rw [hk] at HI
    clear hk hT
    go_enter Tryd.func22, Tryd.ntmps22
    go_wp2_with fail
    refine (HI.out _).mono ?_
    rintro e w1 ⟨rfl, rfl⟩
    go_wp2_with fail
    go_ret
    exact ⟨by rw [hE.out]; rfl, rfl⟩
  | true =>
    have hb : 1 ≤ k ∧ k ≤ 5 := by
      unfold isTypeF at hk
      simpa using hk
    obtain ⟨j, rfl⟩ : ∃ j : Nat, k = (j : Int) := ⟨k.toNat, by omega⟩
    have hE : Hid (nameF (j : Int) = tyB j) := Lib.hid (by unfold nameF; rw [if_pos hk, Int.toNat_natCast])
    have h0 : (0 : Int) ≤ (j : Int) := by omega
    have h1 : (j : Int) < 6 := by omega
    have hc := hT j (by omega)
    rw [hk] at HI
    generalize tyB j = nm at *
    clear hk hT hb
    go_enter Tryd.func22, Tryd.ntmps22
    go_wp2_with fail
    refine (HI.out _).mono ?_
    rintro e w1 ⟨rfl, rfl⟩
    go_wp2_with fail
    go_ret
    exact ⟨by rw [hE.out]; rfl, rfl⟩
set_option maxRecDepth 100000 in
set_option maxHeartbeats 1000000 in
theorem rTypeName_any (k : Int) (w : World) : Calls Tryd.prog 17 #[.int .i64 k] w fun e w' => e = .returned (.string (nameF k)) ∧ Only (fun _ => False) w w' := by
  have HO : Hid (Only (fun _ => False) w (w.alloc (.cells #[.string ⟨#[120, 102, 120]⟩, .string ⟨#[120, 102, 121]⟩, .string ⟨#[121, 102, 120]⟩, .string ⟨#[102, 121]⟩, .string ⟨#[102, 120]⟩] 9))) := Lib.hid (Only.alloc _ _ _)
  by_cases h1 : k < 1
  · have hE : Hid (nameF k = ⟨#[]⟩) := Lib.hid (by unfold nameF isTypeF; rw [if_neg (by simp; omega)])
    go_enter Tryd.func17, Tryd.ntmps17
    go_wp2_with fail
    go_ret
    exact ⟨by rw [hE.out]; rfl, HO.out⟩
  · by_cases h5 : 5 < k
    · have hE : Hid (nameF k = ⟨#[]⟩) := Lib.hid (by unfold nameF isTypeF; rw [if_neg (by simp; omega)])
      go_enter Tryd.func17, Tryd.ntmps17
      go_wp2_with fail
      go_ret
      exact ⟨by rw [hE.out]; rfl, HO.out⟩
    · have hE : Hid (nameF k = tyB k.toNat) := Lib.hid (by unfold nameF isTypeF; rw [if_pos (by simp; omega)])
      rcases (show k = 1 ∨ k = 2 ∨ k = 3 ∨ k = 4 ∨ k = 5 by omega) with rfl | rfl | rfl | rfl | rfl
      all_goals
        clear h1 h5
        go_enter Tryd.func17, Tryd.ntmps17
        go_wp2_with fail
        go_ret
        exact ⟨by rw [hE.out]; rfl, HO.out⟩
end Go.Proofs.YtodgjkdhkohckaaDoor.opers
