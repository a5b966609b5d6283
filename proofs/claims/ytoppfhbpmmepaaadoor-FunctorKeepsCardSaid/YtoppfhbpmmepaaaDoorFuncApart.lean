/- The law FunctorApart, walked. -/
import Derived.Test.YtoppfhbpmmepaaaDoorFunc23
namespace Go.Proofs.YtoppfhbpmmepaaaDoor.functors
open Go.RowKit Go.Proofs.YtoppfhbpmmepaaaDoor.own Go.Maps
variable {ta b : Nat} {la made made' lim : Int} {al al' : List atoms.ASlot} {sl sl' : List FSlot} {w0 w w' : World}
theorem FAny.good (h : FAny ta b la made al lim sl w0 w) : atoms.Good la al := by
  obtain ⟨SA, SF, low, h⟩ := h
  exact h.at_.good
theorem FAny.apartA (h : FAny ta b la made al lim sl w0 w) : atoms.Apart al := by
  obtain ⟨SA, SF, low, h⟩ := h
  exact h.at_.tab.apart
theorem FAny.apartF (h : FAny ta b la made al lim sl w0 w) : Apart sl := by
  obtain ⟨SA, SF, low, h⟩ := h
  obtain ⟨ao, cap, m, hc⟩ := h.fn
  exact hc.apart
set_option maxRecDepth 100000 in
set_option maxHeartbeats 4000000 in
theorem law_apart (a : ByteArray) (n : Int) (c : ByteArray) (m : Int) (w : World) (hL : atoms.Listed w) : Calls Tryd.prog 6 #[.string a, .int .i64 n, .string c, .int .i64 m] w fun e w' => e = .returned (.bool true) ∧ Below w.heap.size w w' := by
  have HL := Lib.hid hL
  have hnot := Go.Proofs.YtoppfhbpmmepaaaDoor.atoms.run_not
  clear hL
  go_enter Tryd.func6, Tryd.ntmps6
  go_wp2_with fail
  refine (atoms.new_yes 100 _ (by omega) (by omega)).mono ?_
  rintro e w1 ⟨rfl, t1⟩
  have T1 := Lib.hid (atoms.St.new HL.out t1 (by omega) (by omega))
  clear t1
  generalize hta : w.heap.size = ta at *
  clear hta
  go_wp2_with fail
  refine (any_new T1.out (by omega) (by omega)).mono ?_
  rintro e w2 ⟨rfl, t2⟩
  have T2 := Lib.hid t2
  clear t2
  generalize w1.heap.size + 1 = b at *
  go_wp2_with fail
  refine (lives_any _ T2.out.listed).mono ?_
  rintro e w3 ⟨rfl, b3⟩
  have T3 := Lib.hid (T2.out.quiet (Only.of_below b3 (fun _ => False)) (b3.mono T2.out.below.size))
  clear b3
  go_wp2_with fail
  refine (any_put a n T3.out (by omega) (by omega) _ rfl).mono ?_
  rintro e w4 ⟨rfl, t4⟩
  have hp1 := put_made (la := 100) (made := 0) (al := atoms.firstS 15) (lim := 100) (sl := []) a n
  have HS1 := Lib.hid (put_sits (la := 100) (made := 0) (al := atoms.firstS 15) (lim := 100) (sl := []) (intern_small T3.out.good) a n)
  have T4 := Lib.hid t4
  clear t4
  generalize putR 100 0 (atoms.firstS 15) 100 [] a n = r1 at *
  go_wp2_with fail
  refine (any_put c m T4.out (by omega) (by omega) _ rfl).mono ?_
  rintro e w5 ⟨rfl, t5⟩
  have HS2 := Lib.hid (put_sits (la := 100) (made := r1.made) (al := r1.al) (lim := 100) (sl := r1.sl) (intern_small T4.out.good) c m)
  have HF := Lib.hid (follows_put (la := 100) (made := r1.made) (al := r1.al) (lim := 100) (sl := r1.sl) c m)
  have HA := Lib.hid (afollows_put (la := 100) (made := r1.made) (al := r1.al) (lim := 100) (sl := r1.sl) c m)
  have T5 := Lib.hid t5
  clear t5
  generalize putR 100 r1.made r1.al 100 r1.sl c m = r2 at *
  by_cases he1 : r1.err = 0
  · by_cases he2 : r2.err = 0
    · have h1 := (HS1.out he1).follow HA.out HF.out
      have h2 := HS2.out he2
      have hap := h1.apart h2 T5.out.apartA T5.out.apartF
      have HG := Lib.hid h1.get
      clear h1 h2 hp1 HS1 HS2 HF HA
      rw [he1, he2]
      clear he1 he2
      by_cases hac : a = c
      · subst hac
        have hE : (r1.id == r2.id) = (n == m) := by
          rw [Bool.eq_iff_iff, beq_iff_eq, beq_iff_eq, hap]
          simp
        have HE := Lib.hid hE
        clear hap hE
        go_wp2_with fail
        refine (any_get r1.id T5.out _ HG.out).mono ?_
        rintro e w6 ⟨rfl, t6⟩
        have T6 := Lib.hid t6
        clear t6
        have hE := HE.out
        go_wp2_with fail
        go_ret
        exact ⟨rfl, T6.out.below⟩
      · have hne : ¬ a.toList = c.toList := fun e => hac (by
          apply atoms.ba_ext
          rw [← ByteArray.toList_eq, ← ByteArray.toList_eq]
          exact e)
        have hni : (r1.id == r2.id) = false := by simpa using (fun e => hac (hap.1 e).1 : ¬ r1.id = r2.id)
        clear hap hac
        go_wp2_with fail
        refine (any_get r1.id T5.out _ HG.out).mono ?_
        rintro e w6 ⟨rfl, t6⟩
        have T6 := Lib.hid t6
        clear t6
        go_wp2_with fail
        go_ret
        exact ⟨rfl, T6.out.below⟩
    · rw [he1]
      clear HS1 HS2 HF HA hp1 he1
      have hb : (r2.err == 0) = false := by simpa using he2
      have HB := Lib.hid T5.out.below
      go_wp2_with fail
      go_ret
      exact ⟨rfl, HB.out⟩
  · clear HS1 HS2 HF HA hp1
    have hb : (r1.err == 0) = false := by simpa using he1
    have HB := Lib.hid T5.out.below
    go_wp2_with fail
    go_ret
    exact ⟨rfl, HB.out⟩
end Go.Proofs.YtoppfhbpmmepaaaDoor.functors
