/- What must come of every program: the law's own lives() answers true; nil rooms. -/
import Derived.Test.YtghegbdnecobkaaRoom2
namespace Go.Proofs.Ytghegbdnecobkaa.rooms
open Go.RowKit

set_option maxHeartbeats 1000000 in
theorem lives_any (w : World) : Calls Try.prog 10 #[] w fun e w' => e = .returned (.bool true) ∧ Below w.heap.size w w' := by
  go_enter Try.func10, Try.ntmps10
  go_wp2_with fail
  refine (new_yes 2 _ (by omega) (by omega)).mono ?_
  rintro e w1 ⟨b, rfl, h1, o1, hb⟩
  have HB := Lib.hid hb
  have H1 := Lib.hid h1
  clear hb h1
  go_wp2_with fail
  refine (push_some (x := 7) H1.out (by decide) (by omega)).mono ?_
  rintro e w2 ⟨rfl, ao2, cap2, h2, o2, n2⟩
  have H2 := Lib.hid h2
  clear h2
  go_wp2_with fail
  refine (push_some (x := 8) H2.out (by decide) (by omega)).mono ?_
  rintro e w3 ⟨rfl, ao3, cap3, h3, o3, n3⟩
  have H3 := Lib.hid h3
  clear h3
  go_wp2_with fail
  refine (push_full (x := 9) H3.out (by decide)).mono ?_
  rintro e w4 ⟨rfl, o4⟩
  have H4 := Lib.hid (H3.out.only o4 (fun _ _ e => e))
  go_wp2_with fail
  refine (pop_yes 1 H4.out rfl (by decide)).mono ?_
  rintro e w5 ⟨rfl, h5, o5⟩
  have H5 := Lib.hid h5
  clear h5
  go_wp2_with fail
  refine (get_yes 0 H5.out (by decide) (by decide)).mono ?_
  rintro e w6 ⟨rfl, rfl⟩
  go_wp2_with fail
  refine (new_no (-1) _ (by omega)).mono ?_
  rintro e w6 ⟨rfl, rfl⟩
  go_wp2_with fail
  refine (len_any H5.out).mono ?_
  rintro e w6 ⟨rfl, rfl⟩
  go_wp2_with fail
  refine (limit_any H5.out).mono ?_
  rintro e w6 ⟨rfl, rfl⟩
  go_wp2_with fail
  refine (most_any H5.out).mono ?_
  rintro e w6 ⟨rfl, rfl⟩
  have em : ((max (max (0 : Int) (([] ++ [(7 : Int)]).length : Nat)) (([] ++ [(7 : Int)] ++ [8]).length : Nat)) == 2) = true := by decide
  go_wp2_with fail
  refine (grow_some 1 H5.out (by decide) (by omega) (by decide)).mono ?_
  rintro e w6 ⟨rfl, ao6, cap6, h6, o6, n6⟩
  have H6 := Lib.hid h6
  clear h6
  go_wp2_with fail
  refine (set_yes 1 4 H6.out (by decide) (by decide)).mono ?_
  rintro e w7 ⟨rfl, h7, o7⟩
  have H7 := Lib.hid h7
  clear h7
  go_wp2_with fail
  refine (cut_yes 1 H7.out (by decide) (by decide)).mono ?_
  rintro e w8 ⟨rfl, h8, o8⟩
  have H8 := Lib.hid h8
  clear h8
  go_wp2_with fail
  refine (words_any H8.out (by decide)).mono ?_
  rintro e w9 ⟨g, rfl, h9, o9⟩
  go_wp2_with fail
  go_ret
  refine ⟨rfl, ?_⟩
  have b1 : Below w.heap.size w w1 := o1.below (Nat.le_refl _) (fun _ _ e => e.elim)
  exact (((((((b1.trans (H1.out.keeps o2)).trans (H2.out.keeps o3)).trans (H3.out.keeps (o4.no _))).trans (H4.out.keeps o5.struct)).trans (H5.out.keeps o6)).trans (H6.out.keeps o7.rowAt)).trans (H7.out.keeps o8.struct)).trans (H8.out.keeps (o9.no _))
end Go.Proofs.Ytghegbdnecobkaa.rooms
