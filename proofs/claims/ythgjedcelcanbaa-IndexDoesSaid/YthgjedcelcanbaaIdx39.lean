
/- Selection by keys: one call of both: Drop, Next, Head, none. -/
import Derived.Test.YthgjedcelcanbaaIdx38
namespace Go.Proofs.Ythgjedcelcanbaa.idx
set_option maxRecDepth 100000
open Go.RowKit Go.Proofs.Ythgjedcelcanbaa.own Go.Lib Go.Maps Go.WideMaps
section
variable {B b x N : Nat} {s : St} {M : List Pr} {w : World}
theorem next_all (h : TabS B b N s w) (i : Int) (hi : Fit i) (k : Ky) (hk : k.Ok) : Calls Try.prog 16 #[.pointer (some ⟨b, 0, none⟩), .int .i64 i, kyV k] w fun e w' => e = .returned (ansF (nextF i k s.L)) ∧ Only (fun _ => False) w w' := next_tab h i hi k hk
theorem head_all (h : TabS B b N s w) (k : Ky) (hk : k.Ok) : Calls Try.prog 15 #[.pointer (some ⟨b, 0, none⟩), kyV k] w fun e w' => e = .returned (ansF (firstF s.lo k s.L)) ∧ Only (fun _ => False) w w' := head_tab h k hk
set_option maxHeartbeats 8000000 in
theorem do_drop (h : Two B b x N s M w) (hN : N + 1 ≤ 1000000) (i : Int) (hi : Fit i) (k : Ky) (f : Bool) :
    Calls Try.prog 8 #[.pointer (some ⟨b, 0, none⟩), .pointer (some ⟨x, 0, none⟩), sixV 2 i k f] w (fun e w' => DoOut B b x N w w' e) := by
  have o0 : Only (fun _ => False) w (w.alloc (sixO 2 i k f)) := Only.alloc _ _ _
  have oD : Only (fun _ => False) w (w.alloc (sixO 2 i k f)).drew := o0.same (Only.drew _ _)
  have HB0 : Hid (Six' w.heap.size 2 i k f (w.alloc (sixO 2 i k f))) := Lib.hid (heap_alloc_new _ _)
  have HB : Hid (Six' w.heap.size 2 i k f (w.alloc (sixO 2 i k f)).drew) := Lib.hid (HB0.out.only (Only.drew (fun _ => False) _) (fun e => e))
  have H1 : Hid (Two B b x N s M (w.alloc (sixO 2 i k f)).drew) := Lib.hid (h.later oD)
  have HO := Lib.hid oD
  have HP := Lib.hid (H1.out.dropP hN i hi)
  have HRL := Lib.hid (h.rl.drop h.t.alone i).2
  have HGE := Lib.hid h.ge
  have HML := Lib.hid h.len
  obtain ⟨c0, c1, c2, c3, c4, c5⟩ := HB0.out.cells
  obtain ⟨d0, d1, d2, d3, d4, d5⟩ := HB.out.cells
  generalize hq : (dropR M i).1 = q at *
  have HQ := Lib.hid hq
  clear h o0 oD hq
  go_enter Try.func8, Try.ntmps8
  go_wp2_with fail
  go_region_held3 (fun W => W.cell? ⟨w.heap.size, 1, none⟩ = some (.int .i64 i) ∧ W.cell? ⟨w.heap.size, 2, none⟩ = some (.int .i64 k.k) ∧ W.cell? ⟨w.heap.size, 3, none⟩ = some (.string k.s) ∧ W.cell? ⟨w.heap.size, 4, none⟩ = some (.int .i64 k.n) ∧ W.cell? ⟨w.heap.size, 5, none⟩ = some (.bool f))
    (first | exact HB3.out.cells.2 | exact HB2.out.cells.2 | exact ⟨d1, d2, d3, d4, d5⟩ | go_keep)
    (first
    | (go_at_call 13; refine HP.out.mono ?_; rintro e w2 ⟨rfl, ht, ⟨ao, cap, hr⟩, o2⟩; have HT := Lib.hid ht; have HR := Lib.hid hr; have O2 := Lib.hid o2; have HB2 := Lib.hid (HB.out.ixy o2); have HX := Lib.hid (rdrop_any hr HGE.out (by have := HML.out; omega) i); clear ht hr o2)
    | (go_at_call 21; refine HX.out.mono ?_; rintro e w3 ⟨rfl, ⟨ao', cap', hr⟩, o3⟩; have HR3 := Lib.hid hr; have O3 := Lib.hid o3; have HB3 := Lib.hid (HB2.out.ref HR.out o3); rw [HQ.out]; clear hr o3))
  go_wp2_with fail
  go_ret
  exact ⟨by first | rfl | simp, ⟨_, _, TabB.ref HT.out O3.out HR.out.kinds, ⟨ao', cap', HR3.out⟩, HGE.out, HRL.out⟩, ((HO.out.mono (fun _ _ e => e.elim)).same (O2.out.mono (fun _ _ e => e.1))).same (O3.out.mono (fun q _ e => HR.out.base HGE.out q e))⟩
set_option maxHeartbeats 8000000 in
theorem do_next (h : Two B b x N s M w) (hN : N + 1 ≤ 1000000) (i : Int) (hi : Fit i) (k : Ky) (hk : k.Ok) (f : Bool) :
    Calls Try.prog 8 #[.pointer (some ⟨b, 0, none⟩), .pointer (some ⟨x, 0, none⟩), sixV 3 i k f] w (fun e w' => DoOut B b x N w w' e) := by
  have o0 : Only (fun _ => False) w (w.alloc (sixO 3 i k f)) := Only.alloc _ _ _
  have HB0 : Hid (Six' w.heap.size 3 i k f (w.alloc (sixO 3 i k f))) := Lib.hid (heap_alloc_new _ _)
  have H0 := Lib.hid h
  have HO := Lib.hid o0
  have HNN := Lib.hid hN
  obtain ⟨ao, cap, hr⟩ := h.r
  have HP : Hid (∀ W, Only (fun _ => False) w W → Calls Try.prog 16 #[.pointer (some ⟨b, 0, none⟩), .int .i64 i, kyV k] W fun e w' => e = .returned (ansP (nextP i k M)) ∧ Only (fun _ => False) W w') := Lib.hid (fun W o => by
    have := next_all (TabB.later h.t o) i hi k hk
    rwa [h.rl.next h.t.between i k] at this)
  have HX : Hid (∀ W, Only (fun _ => False) w W → Calls Try.prog 22 #[.pointer (some ⟨x, 0, none⟩), .int .i64 i, kyV k] W fun e w' => e = .returned (ansP (nextP i k M)) ∧ Only (fun _ => False) W w') := Lib.hid (fun W o => rnext_any (hr.later o) i k (by have := h.len; omega))
  obtain ⟨c0, c1, c2, c3, c4, c5⟩ := HB0.out.cells
  unfold ansP at HP HX
  generalize ((nextP i k M).map (·.id)).getD 0 = q1 at *
  generalize (nextP i k M).isSome = q2 at *
  clear h o0 hr hN
  go_enter Try.func8, Try.ntmps8
  go_wp2_with fail
  refine (HP.out _ HO.out).mono ?_
  rintro e w1 ⟨rfl, ho⟩
  have HO1 := Lib.hid (HO.out.same ho)
  have HB1 := Lib.hid (HB0.out.only ho (fun e => e))
  clear ho c0 c1 c2 c3 c4 c5 HB0 HO HP
  obtain ⟨c0, c1, c2, c3, c4, c5⟩ := HB1.out.cells
  go_wp2_with fail
  refine (HX.out _ HO1.out).mono ?_
  rintro e w2 ⟨rfl, ho⟩
  have HO2 := Lib.hid (HO1.out.same ho)
  clear ho c0 c1 c2 c3 c4 c5 HB1 HO1 HX
  go_wp2_with fail
  go_ret
  exact ⟨by first | rfl | simp, ⟨s, M, (H0.out.later HO2.out).more HNN.out⟩, HO2.out.mono (fun _ _ e => e.elim)⟩
set_option maxHeartbeats 8000000 in
theorem do_head (h : Two B b x N s M w) (hN : N + 1 ≤ 1000000) (i : Int) (k : Ky) (hk : k.Ok) (f : Bool) :
    Calls Try.prog 8 #[.pointer (some ⟨b, 0, none⟩), .pointer (some ⟨x, 0, none⟩), sixV 4 i k f] w (fun e w' => DoOut B b x N w w' e) := by
  have o0 : Only (fun _ => False) w (w.alloc (sixO 4 i k f)) := Only.alloc _ _ _
  have HB0 : Hid (Six' w.heap.size 4 i k f (w.alloc (sixO 4 i k f))) := Lib.hid (heap_alloc_new _ _)
  have H0 := Lib.hid h
  have HO := Lib.hid o0
  have HNN := Lib.hid hN
  obtain ⟨ao, cap, hr⟩ := h.r
  have HP : Hid (∀ W, Only (fun _ => False) w W → Calls Try.prog 15 #[.pointer (some ⟨b, 0, none⟩), kyV k] W fun e w' => e = .returned (ansP (fromP 0 k M)) ∧ Only (fun _ => False) W w') := Lib.hid (fun W o => by
    have := head_all (TabB.later h.t o) k hk
    rwa [h.rl.head h.t.between k] at this)
  have HX : Hid (∀ W, Only (fun _ => False) w W → Calls Try.prog 23 #[.pointer (some ⟨x, 0, none⟩), kyV k] W fun e w' => e = .returned (ansP (fromP 0 k M)) ∧ Only (fun _ => False) W w') := Lib.hid (fun W o => rhead_any (hr.later o) k (by have := h.len; omega))
  obtain ⟨c0, c1, c2, c3, c4, c5⟩ := HB0.out.cells
  unfold ansP at HP HX
  generalize ((fromP 0 k M).map (·.id)).getD 0 = q1 at *
  generalize (fromP 0 k M).isSome = q2 at *
  clear h o0 hr hN
  go_enter Try.func8, Try.ntmps8
  go_wp2_with fail
  refine (HP.out _ HO.out).mono ?_
  rintro e w1 ⟨rfl, ho⟩
  have HO1 := Lib.hid (HO.out.same ho)
  have HB1 := Lib.hid (HB0.out.only ho (fun e => e))
  clear ho c0 c1 c2 c3 c4 c5 HB0 HO HP
  obtain ⟨c0, c1, c2, c3, c4, c5⟩ := HB1.out.cells
  go_wp2_with fail
  refine (HX.out _ HO1.out).mono ?_
  rintro e w2 ⟨rfl, ho⟩
  have HO2 := Lib.hid (HO1.out.same ho)
  clear ho c0 c1 c2 c3 c4 c5 HB1 HO1 HX
  go_wp2_with fail
  go_ret
  exact ⟨by first | rfl | simp, ⟨s, M, (H0.out.later HO2.out).more HNN.out⟩, HO2.out.mono (fun _ _ e => e.elim)⟩
set_option maxHeartbeats 8000000 in
theorem do_none (h : Two B b x N s M w) (hN : N + 1 ≤ 1000000) (kd i : Int) (k : Ky) (f : Bool) (h1 : kd ≠ 1) (h2 : kd ≠ 2) (h3 : kd ≠ 3) (h4 : kd ≠ 4) :
    Calls Try.prog 8 #[.pointer (some ⟨b, 0, none⟩), .pointer (some ⟨x, 0, none⟩), sixV kd i k f] w (fun e w' => DoOut B b x N w w' e) := by
  have HB0 : Hid (Six' w.heap.size kd i k f (w.alloc (sixO kd i k f))) := Lib.hid (heap_alloc_new _ _)
  have H0 := Lib.hid h
  have HNN := Lib.hid hN
  have HO : Hid (Only (fun _ => False) w (w.alloc (sixO kd i k f))) := Lib.hid (Only.alloc _ _ _)
  obtain ⟨c0, c1, c2, c3, c4, c5⟩ := HB0.out.cells
  have g1 : (kd == 1) = false := by simpa using h1
  have g2 : (kd == 2) = false := by simpa using h2
  have g3 : (kd == 3) = false := by simpa using h3
  have g4 : (kd == 4) = false := by simpa using h4
  clear h hN h1 h2 h3 h4
  go_enter Try.func8, Try.ntmps8
  go_wp2_with fail
  go_ret
  exact ⟨rfl, ⟨s, M, (H0.out.later HO.out).more HNN.out⟩, HO.out.mono (fun _ _ e => e.elim)⟩
theorem do_any (h : Two B b x N s M w) (hN : N + 1 ≤ 1000000) (kd i : Int) (hi : Fit i) (k : Ky) (hk : k.Ok) (f : Bool) :
    Calls Try.prog 8 #[.pointer (some ⟨b, 0, none⟩), .pointer (some ⟨x, 0, none⟩), sixV kd i k f] w (fun e w' => DoOut B b x N w w' e) := by
  by_cases h1 : kd = 1
  · subst h1; exact do_add h hN i hi k hk f
  by_cases h2 : kd = 2
  · subst h2; exact do_drop h hN i hi k f
  by_cases h3 : kd = 3
  · subst h3; exact do_next h hN i hi k hk f
  by_cases h4 : kd = 4
  · subst h4; exact do_head h hN i k hk f
  exact do_none h hN kd i k f h1 h2 h3 h4
end
end Go.Proofs.Ythgjedcelcanbaa.idx
