/- Functors: Sweep beside the atoms; New refused; a table somewhere; what must come of every program. -/
import Derived.Test.YtoppfhbpmmepaaaDoorFunc20
import Derived.Test.YtoppfhbpmmepaaaDoorFunc17
namespace Go.Proofs.YtoppfhbpmmepaaaDoor.functors
open Go.RowKit Go.Proofs.YtoppfhbpmmepaaaDoor.own Go.Maps
variable {S SA SF : Nat → Prop} {ta b : Nat} {la made made' lim : Int} {al al' : List atoms.ASlot} {sl sl' : List FSlot} {w0 w w' : World} {low low' : Nat} {B : Nat} {ao : Option Addr} {cap m : Nat}
theorem sweep_all (h : FSt SA SF ta b la made al lim low sl w0 w) : Calls Tryd.prog 20 #[.pointer (some ⟨b, 0, none⟩)] w fun e w' => e = .returned (.int .i64 ((used sl : Int) - (used (sweepF sl) : Int))) ∧ Moved SA SF ta b la made al lim 0 (sweepF sl) w0 w w' := by
  obtain ⟨ao, cap, m, hc⟩ := h.fn
  refine (sweep_any hc).mono ?_
  rintro e w' ⟨rfl, h2, ho⟩
  have hB := h.at_.below.size
  refine ⟨rfl, _, _, h.functors ⟨_, _, _, h2.grew hB ho⟩ ho, ?_, ho.mono (fun _ _ e => .inr e)⟩
  rintro k (hk | hk | hk)
  · exact .inl (.inl hk)
  · exact .inl (.inr hk)
  · exact .inr hk
theorem len_all (h : FSt SA SF ta b la made al lim low sl w0 w) : Calls Tryd.prog 13 #[.pointer (some ⟨b, 0, none⟩)] w fun e w' => e = .returned (.int .i64 (used sl)) ∧ w = w' := by
  obtain ⟨ao, cap, m, hc⟩ := h.fn
  exact len_any hc
theorem slots_all (h : FSt SA SF ta b la made al lim low sl w0 w) : Calls Tryd.prog 15 #[.pointer (some ⟨b, 0, none⟩)] w fun e w' => e = .returned (.int .i64 sl.length) ∧ w = w' := by
  obtain ⟨ao, cap, m, hc⟩ := h.fn
  exact slots_any hc
theorem new_nil (lim : Int) (w : World) : Calls Tryd.prog 10 #[.int .i64 lim, .pointer none] w fun e w' => e = .returned (.tuple #[.pointer none, .int .i64 1]) ∧ w = w' := by
  by_cases h0 : lim < 1
  · go_enter Tryd.func10, Tryd.ntmps10
    go_wp2_with fail
    go_ret2
    exact ⟨rfl, rfl⟩
  · by_cases h1 : lim > 16384
    · go_enter Tryd.func10, Tryd.ntmps10
      go_wp2_with fail
      go_ret2
      exact ⟨rfl, rfl⟩
    · go_enter Tryd.func10, Tryd.ntmps10
      go_wp2_with fail
      go_ret2
      exact ⟨rfl, rfl⟩
theorem new_bad (lim : Int) (h : lim < 1 ∨ 16384 < lim) (p : Option Addr) (w : World) : Calls Tryd.prog 10 #[.int .i64 lim, .pointer p] w fun e w' => e = .returned (.tuple #[.pointer none, .int .i64 1]) ∧ w = w' := by
  rcases h with h | h
  · go_enter Tryd.func10, Tryd.ntmps10
    go_wp2_with fail
    go_ret2
    exact ⟨rfl, rfl⟩
  · have h0 : ¬ lim < 1 := by omega
    go_enter Tryd.func10, Tryd.ntmps10
    go_wp2_with fail
    go_ret2
    exact ⟨rfl, rfl⟩
/-- Functors beside atoms, wherever their parts lie. -/
def FAny (ta b : Nat) (la made : Int) (al : List atoms.ASlot) (lim : Int) (sl : List FSlot) (w0 w : World) : Prop := ∃ SA SF low, FSt SA SF ta b la made al lim low sl w0 w
theorem Moved.any (h : Moved SA SF ta b la made al lim low sl w0 w w') : FAny ta b la made al lim sl w0 w' := by
  obtain ⟨SA', SF', h, _⟩ := h
  exact ⟨SA', SF', low, h⟩
theorem FAny.below (h : FAny ta b la made al lim sl w0 w) : Below w0.heap.size w0 w := by
  obtain ⟨SA, SF, low, h⟩ := h
  exact h.at_.below
theorem FAny.listed (h : FAny ta b la made al lim sl w0 w) : atoms.Listed w := by
  obtain ⟨SA, SF, low, h⟩ := h
  exact h.at_.listed
theorem FAny.quiet (h : FAny ta b la made al lim sl w0 w) (ho : Only (fun _ => False) w w') (hb : Below w0.heap.size w w') : FAny ta b la made al lim sl w0 w' := by
  obtain ⟨SA, SF, low, h⟩ := h
  exact ⟨SA, SF, low, h.quiet ho hb⟩
theorem any_new (h : atoms.St SA ta la made al w0 w) (h0 : 1 ≤ lim) (h1 : lim ≤ 16384) : Calls Tryd.prog 10 #[.int .i64 lim, .pointer (some ⟨ta, 0, none⟩)] w fun e w' => e = .returned (.tuple #[.pointer (some ⟨w.heap.size + 1, 0, none⟩), .int .i64 0]) ∧ FAny ta (w.heap.size + 1) la made al lim [] w0 w' := by
  refine (new_any h0 h1 ta w).mono ?_
  rintro e w' ⟨rfl, rfl⟩
  exact ⟨rfl, _, _, _, FSt.new h h0 h1⟩
theorem any_put (n : ByteArray) (k : Int) (h : FAny ta b la made al lim sl w0 w) (hm0 : 0 ≤ made) (hm1 : made ≤ 4294967296) (r : PRes) (hr : putR la made al lim sl n k = r) :
    Calls Tryd.prog 18 #[.pointer (some ⟨b, 0, none⟩), .string n, .int .i64 k] w fun e w' => e = .returned (.tuple #[.int .i64 r.id, .int .i64 r.err]) ∧ FAny ta b la r.made r.al lim r.sl w0 w' := by
  obtain ⟨SA, SF, low, h⟩ := h
  refine (put_all n k h hm0 hm1 r hr).mono ?_
  rintro e w' ⟨rfl, _, hM⟩
  exact ⟨rfl, hM.any⟩
theorem any_get (i : Int) (h : FAny ta b la made al lim sl w0 w) (r : ByteArray × Int × Int) (hr : getR al sl i = r) :
    Calls Tryd.prog 23 #[.pointer (some ⟨b, 0, none⟩), .int .i64 i] w fun e w' => e = .returned (.tuple #[.string r.1, .int .i64 r.2.1, .int .i64 r.2.2]) ∧ FAny ta b la made al lim sl w0 w' := by
  obtain ⟨SA, SF, low, h⟩ := h
  refine (get_all i h r hr).mono ?_
  rintro e w' ⟨rfl, hM⟩
  exact ⟨rfl, hM.any⟩
theorem any_find (n : ByteArray) (k : Int) (h : FAny ta b la made al lim sl w0 w) (hn : n.size ≤ maxLen) (hk : (Lit.int .i64 k).wf = true) (r : Int × Bool) (hr : fres al sl n k = r) :
    Calls Tryd.prog 24 #[.pointer (some ⟨b, 0, none⟩), .string n, .int .i64 k] w fun e w' => e = .returned (.tuple #[.int .i64 r.1, .bool r.2]) ∧ FAny ta b la made al lim sl w0 w' := by
  obtain ⟨SA, SF, low, h⟩ := h
  refine (find_all n k h hn hk r hr).mono ?_
  rintro e w' ⟨rfl, hM⟩
  exact ⟨rfl, hM.any⟩
theorem any_mark (i : Int) (h : FAny ta b la made al lim sl w0 w) :
    Calls Tryd.prog 19 #[.pointer (some ⟨b, 0, none⟩), .int .i64 i] w fun e w' => e = .returned (.int .i64 (errF sl i)) ∧ FAny ta b la made al lim (markF sl i) w0 w' := by
  obtain ⟨SA, SF, low, h⟩ := h
  refine (mark_all i h).mono ?_
  rintro e w' ⟨rfl, hM⟩
  exact ⟨rfl, hM.any⟩
theorem any_sweep (h : FAny ta b la made al lim sl w0 w) : Calls Tryd.prog 20 #[.pointer (some ⟨b, 0, none⟩)] w fun e w' => e = .returned (.int .i64 ((used sl : Int) - (used (sweepF sl) : Int))) ∧ FAny ta b la made al lim (sweepF sl) w0 w' := by
  obtain ⟨SA, SF, low, h⟩ := h
  refine (sweep_all h).mono ?_
  rintro e w' ⟨rfl, hM⟩
  exact ⟨rfl, hM.any⟩
theorem any_atoms (h : FAny ta b la made al lim sl w0 w) : Calls Tryd.prog 21 #[.pointer (some ⟨b, 0, none⟩)] w fun e w' => e = .returned (.int .i64 (used sl)) ∧ FAny ta b la made (markP al (namesP sl)) lim sl w0 w' := by
  obtain ⟨SA, SF, low, h⟩ := h
  refine (atoms_any h).mono ?_
  rintro e w' ⟨rfl, hM⟩
  exact ⟨rfl, hM.any⟩
theorem any_len (h : FAny ta b la made al lim sl w0 w) : Calls Tryd.prog 13 #[.pointer (some ⟨b, 0, none⟩)] w fun e w' => e = .returned (.int .i64 (used sl)) ∧ w = w' := by
  obtain ⟨SA, SF, low, h⟩ := h
  exact len_all h
theorem any_slots (h : FAny ta b la made al lim sl w0 w) : Calls Tryd.prog 15 #[.pointer (some ⟨b, 0, none⟩)] w fun e w' => e = .returned (.int .i64 sl.length) ∧ w = w' := by
  obtain ⟨SA, SF, low, h⟩ := h
  exact slots_all h
end Go.Proofs.YtoppfhbpmmepaaaDoor.functors
