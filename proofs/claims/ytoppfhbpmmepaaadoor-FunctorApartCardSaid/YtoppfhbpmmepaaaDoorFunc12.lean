/- Functors: Get. -/
import Derived.Test.YtoppfhbpmmepaaaDoorFunc11
import Derived.Deep.RegionHeld3
namespace Go.Proofs.YtoppfhbpmmepaaaDoor.functors
open Go.RowKit Go.Proofs.YtoppfhbpmmepaaaDoor.own Go.Maps
variable {S SA SF : Nat → Prop} {ta b : Nat} {la made made' lim : Int} {al al' : List atoms.ASlot} {sl sl' : List FSlot} {w0 w w' : World} {low low' : Nat} {B : Nat} {ao : Option Addr} {cap m : Nat}
theorem get_no (i : Int) (h : FSt SA SF ta b la made al lim low sl w0 w) (hi : hasS sl i = false) : Calls Tryd.prog 23 #[.pointer (some ⟨b, 0, none⟩), .int .i64 i] w fun e w' => e = .returned (.tuple #[.string ⟨#[]⟩, .int .i64 0, .int .i64 4]) ∧ w = w' := by
  have hnot := Go.Proofs.YtoppfhbpmmepaaaDoor.atoms.run_not
  obtain ⟨ao, cap, m, hc⟩ := h.fn
  have HC := Lib.hid (closed_no hc)
  have HH := Lib.hid (has_any i hc)
  have HI := Lib.hid hi
  clear h hc hi
  go_enter Tryd.func23, Tryd.ntmps23
  go_wp2_with fail
  refine HC.out.mono ?_
  rintro e w1 ⟨rfl, rfl⟩
  go_wp2_with fail
  refine HH.out.mono ?_
  rintro e w1 ⟨rfl, rfl⟩
  rw [HI.out]
  go_wp2_with fail
  all_goals (go_ret3; exact ⟨rfl, rfl⟩)
theorem FSt.front {w1 w3 : World} (h : FSt SA SF ta b la made al lim low sl w0 w) (h1 : Only (fun _ => False) w w1) (h3 : atoms.St (Grew SA w1 w3) ta la made' al' w0 w3) (o3 : Only SA w1 w3) : FSt (Grew SA w1 w3) SF ta b la made' al' lim low sl w0 w3 ∧ Only SA w w3 :=
  ⟨(h.quiet h1 (h1.below h.at_.below.size (fun _ _ e => e.elim))).atoms h3 o3, (h1.no SA).same o3⟩
theorem FSt.moved4 {w1 w3 : World} (h : FSt SA SF ta b la made al lim low sl w0 w) (h1 : Only (fun _ => False) w w1) (h3 : atoms.St (Grew SA w1 w3) ta la made' al' w0 w3) (o3 : Only SA w1 w3) (h4 : Only (fun _ => False) w3 w') : Moved SA SF ta b la made' al' lim low sl w0 w w' := by
  have s1 := h1.size
  have s3 := o3.size
  have s4 := h4.size
  have hf := (h.front h1 h3 o3)
  refine ⟨_, _, hf.1.quiet h4 (h4.below hf.1.at_.below.size (fun _ _ e => e.elim)), ?_, (hf.2.mono (fun _ _ e => .inl e)).same (h4.no _)⟩
  rintro k ((hk | hk) | hk)
  · exact .inl (.inl hk)
  · exact .inr ⟨by omega, by omega⟩
  · exact .inl (.inr hk)
set_option maxRecDepth 100000 in
set_option maxHeartbeats 1600000 in
theorem get_yes (j : Nat) (x : FSlot) (h : FSt SA SF ta b la made al lim low sl w0 w) (hx : sl[j]? = some x) (hu : x.used = true) (E : Ending) (hE : (if atoms.errS al x.name.a = 0 then Ending.returned (.tuple #[.string (atoms.nameS al x.name.a), .int .i64 x.name.n, .int .i64 0]) else Ending.returned (.tuple #[.string ⟨#[]⟩, .int .i64 0, .int .i64 (atoms.errS al x.name.a)])) = E) : Calls Tryd.prog 23 #[.pointer (some ⟨b, 0, none⟩), .int .i64 j] w fun e w' =>
    e = E ∧ Moved SA SF ta b la made al lim low sl w0 w w' := by
  have hnot := Go.Proofs.YtoppfhbpmmepaaaDoor.atoms.run_not
  have H := Lib.hid h
  obtain ⟨ao, cap, m, hc⟩ := h.fn
  have HC := Lib.hid (closed_no hc)
  have HH := Lib.hid (has_any (j : Int) hc)
  have HI := Lib.hid ((hasS_at hx).trans hu)
  have hj := (List.getElem?_eq_some_iff.1 hx).1
  have hfew := hc.few
  have c2 := cell_of_blk hc.blk 2
  simp only [List.getElem?_toArray, List.getElem?_cons_succ, List.getElem?_cons_zero] at c2
  obtain ⟨g, hg, k0, k1, k2, _⟩ := hc.slot j x hx
  subst hg
  have HC0 := Lib.hid hc
  have hb0 : (0 : Int) ≤ (j : Int) := by omega
  have hb1 : (j : Int) < (sl.length : Int) := by omega
  generalize hf : x.name = f at *
  clear h hc hx hu k2 hf
  go_enter Tryd.func23, Tryd.ntmps23
  go_wp2_with fail
  refine HC.out.mono ?_
  rintro e w1 ⟨rfl, rfl⟩
  go_wp2_with fail
  refine HH.out.mono ?_
  rintro e w1 ⟨rfl, rfl⟩
  rw [HI.out]
  go_wp2_with fail
  have HQ : Hid (Only (fun _ => False) w (w.alloc (.cells #[.int .i64 f.a, .int .i64 f.n] 90))) := Lib.hid (Only.alloc _ _ _)
  have HB : Hid ((w.alloc (.cells #[.int .i64 f.a, .int .i64 f.n] 90)).heap[w.heap.size]? = some (.cells #[.int .i64 f.a, .int .i64 f.n] 90 (0, 0))) := Lib.hid (heap_alloc_new w _)
  generalize hob : w.heap.size = ob at *
  generalize w.alloc (.cells #[.int .i64 f.a, .int .i64 f.n] 90) = w2 at *
  have HC2 := Lib.hid (HC0.out.only HQ.out (fun _ _ e => e))
  have HOB := Lib.hid hob
  clear c2 k0 k1 hob hb0 hb1
  have HQd := Lib.hid (HQ.out.same (Only.drew _ w2))
  have HST := Lib.hid ((H.out.quiet HQd.out (HQd.out.below H.out.at_.below.size (fun _ _ e => e.elim))).at_)
  have HK : Hid (∀ w' : World, Only SA w w' → (w'.cell? ⟨b, 1, none⟩ = some (.pointer (some ⟨ta, 0, none⟩)))) := Lib.hid (fun w' ho => by
    have h5 := HC0.out.only ho H.out.apart
    rw [cell_of_blk h5.blk]; rfl)
  have HK2 : Hid (∀ w' : World, Only SA w2 w' → (w'.cell? ⟨ob, 0, none⟩ = some (.int .i64 f.a) ∧ w'.cell? ⟨ob, 1, none⟩ = some (.int .i64 f.n))) := Lib.hid (fun w' ho => by
    have h5 := blk_field HB.out ho (fun e => by have := (H.out.at_.tab.bound.2.2.2 _ e).2; have := HOB.out; omega)
    exact ⟨by rw [cell_of_blk h5]; rfl, by rw [cell_of_blk h5]; rfl⟩)
  have HK3 : Hid (∀ w' : World, Only SA w2 w' → (w'.cell? ⟨b, 1, none⟩ = some (.pointer (some ⟨ta, 0, none⟩)) ∧ w'.cell? ⟨ob, 0, none⟩ = some (.int .i64 f.a))) := Lib.hid (fun w' ho => ⟨HK.out _ ((HQ.out.no SA).same ho), (HK2.out _ ho).1⟩)
  have HD0 : Hid (Only SA w2 w2.drew) := Lib.hid (Only.drew _ _)
  have HD1 : Hid (Only SA w2 w2) := Lib.hid (Only.refl _ _)
  go_region_held3 (fun w' => w'.cell? ⟨b, 1, none⟩ = some (.pointer (some ⟨ta, 0, none⟩)) ∧ w'.cell? ⟨ob, 0, none⟩ = some (.int .i64 f.a)) (first | exact HK3.out _ HO3.out | exact HK3.out _ HD0.out | exact HK3.out _ HD1.out | go_keep) (first
    | (go_at_call 41; refine (atoms.st_name (f.a : Int) HST.out).mono ?_; rintro e w3 ⟨rfl, hst, ho⟩; have HS3 := Lib.hid hst; have HOc := Lib.hid ho; have HO3 : Hid (Only SA w2 w3) := Lib.hid (HD0.out.same ho); clear hst ho))
  have e1 := (HK2.out _ HO3.out).2
  have HM := Lib.hid (fun (w4 : World) (h4 : Only (fun _ => False) w3 w4) => H.out.moved4 HQd.out HS3.out HOc.out h4)
  clear HS3 HOc HK HK2 HK3 HD0 HD1 HO3 HST
  generalize atoms.nameS al (f.a : Int) = nm at *
  generalize atoms.errS al (f.a : Int) = er at *
  by_cases he : er = 0
  · subst he
    rw [if_pos rfl] at hE
    subst hE
    go_wp2_with fail
    go_quiet (fail)
    have HM2 := Lib.hid (HM.out _ (Only.drewN (fun _ => False) w3 nq))
    clear HM e1
    generalize w3.drewN nq = w4 at *
    go_wp2_with fail
    all_goals (go_ret3; exact ⟨rfl, HM2.out⟩)
  · rw [if_neg he] at hE
    subst hE
    have hb : (er == 0) = false := by simpa using he
    have HM2 := Lib.hid (HM.out _ (Only.refl _ _))
    clear HM e1 he
    go_wp2_with fail
    all_goals (go_ret3; exact ⟨rfl, HM2.out⟩)
end Go.Proofs.YtoppfhbpmmepaaaDoor.functors
