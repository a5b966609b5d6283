/- Functors: Put. -/
import Derived.Test.YtoppfhbpmmepaaaDoorFunc8
import Derived.Maps.OwnSet
namespace Go.Proofs.YtoppfhbpmmepaaaDoor.functors
open Go.RowKit Go.Proofs.YtoppfhbpmmepaaaDoor.own Go.Maps
variable {SA SF : Nat → Prop} {ta b : Nat} {la made made' lim : Int} {al al' : List atoms.ASlot} {sl : List FSlot} {w0 w w' : World} {low : Nat}
theorem put_arg (n : ByteArray) (k : Int) (h : FSt SA SF ta b la made al lim low sl w0 w) (hk : ¬ (1 ≤ k ∧ k ≤ 16)) : Calls Tryd.prog 18 #[.pointer (some ⟨b, 0, none⟩), .string n, .int .i64 k] w fun e w' => e = .returned (.tuple #[.int .i64 0, .int .i64 1]) ∧ w = w' := by
  obtain ⟨ao, cap, m, hc⟩ := h.fn
  have HC := Lib.hid (closed_no hc)
  clear h hc
  by_cases h0 : k < 1
  · clear hk
    go_enter Tryd.func18, Tryd.ntmps18
    go_wp2_with fail
    refine HC.out.mono ?_
    rintro e w1 ⟨rfl, rfl⟩
    go_wp2_with fail
    all_goals (go_ret2; exact ⟨rfl, rfl⟩)
  · have h1 : k > 16 := by omega
    clear hk
    go_enter Tryd.func18, Tryd.ntmps18
    go_wp2_with fail
    refine HC.out.mono ?_
    rintro e w1 ⟨rfl, rfl⟩
    go_wp2_with fail
    all_goals (go_ret2; exact ⟨rfl, rfl⟩)
theorem put_err (n : ByteArray) (k : Int) (h : FSt SA SF ta b la made al lim low sl w0 w) (hk : 1 ≤ k ∧ k ≤ 16) (hm0 : 0 ≤ made) (hm1 : made ≤ 4294967296) (r : atoms.IRes) (hr : atoms.internF la made al n = r) (he : r.err ≠ 0) :
    Calls Tryd.prog 18 #[.pointer (some ⟨b, 0, none⟩), .string n, .int .i64 k] w fun e w' => e = .returned (.tuple #[.int .i64 0, .int .i64 r.err]) ∧ FSt (Grew SA w w') SF ta b la r.made r.sl lim low sl w0 w' ∧ Only SA w w' := by
  obtain ⟨ao, cap, m, hc⟩ := h.fn
  have HC := Lib.hid (closed_no hc)
  have HI := Lib.hid (atoms.st_intern n h.at_ hm0 hm1 r hr)
  have H := Lib.hid h
  have c1 := cell_of_blk hc.blk 1
  simp only [List.getElem?_toArray, List.getElem?_cons_succ, List.getElem?_cons_zero] at c1
  have h0 : ¬ k < 1 := by omega
  have h1 : ¬ k > 16 := by omega
  have hb : (r.err == 0) = false := by simpa using he
  clear h hc hk hr he
  go_enter Tryd.func18, Tryd.ntmps18
  go_wp2_with fail
  refine HC.out.mono ?_
  rintro e w1 ⟨rfl, rfl⟩
  go_wp2_with fail
  refine HI.out.mono ?_
  rintro e w1 ⟨rfl, hst, ho⟩
  have HW := Lib.hid (H.out.atoms hst ho)
  have HO := Lib.hid ho
  clear hst ho c1
  go_wp2_with fail
  all_goals (go_ret2; exact ⟨rfl, HW.out, HO.out⟩)
end Go.Proofs.YtoppfhbpmmepaaaDoor.functors
