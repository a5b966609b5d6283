/- Environments and choices: any call; lists of environments are the same. -/
import Derived.Test.YthfilpacmllhpaaStk13
import Derived.Test.YthfilpacmllhpaaStkArgs
namespace Go.Proofs.Ythfilpacmllhpaa.stk
set_option maxRecDepth 100000
open Go.RowKit Go.Proofs.Ythfilpacmllhpaa.own
section
variable {N : Nat} {P : Nat → Prop} {b : Nat} {s : St} {wl lim : Int} {w w' : World}
/-- A stack behind some call. -/
structure Went (N : Nat) (P : Nat → Prop) (b : Nat) (wl lim : Int) (R : St → Prop) (w w' : World) : Prop where
  s : ∃ s', Has N P b s' wl lim w' ∧ R s'
  o : Only (Z N P) w w'
theorem Went.quiet {R : St → Prop} (h : Has N P b s wl lim w') (ho : Only (fun _ => False) w w') (hr : R s) : Went N P b wl lim R w w' := ⟨⟨s, h, hr⟩, ho.no _⟩
theorem alloc_any (h : Has N P b s wl lim w) (n x y : Int) (hx : Fits x) (hy : Fits y) : Calls Try.prog 26 #[.pointer (some ⟨b, 0, none⟩), .int .i64 n, .agg #[.int .i64 x, .int .i64 y]] w fun e w' => (∃ r, e = .returned (.int .i64 r)) ∧ Went N P b wl lim (fun s' => s'.cs = s.cs) w w' := by
  by_cases hn : n < 0 ∨ 64 < n
  · refine (has_Alloc_bad h n x y hn).mono ?_
    rintro e w' ⟨rfl, h1, h2⟩
    exact ⟨⟨_, rfl⟩, .quiet h1 h2 rfl⟩
  · obtain ⟨m, rfl⟩ : ∃ m : Nat, n = m := ⟨n.toNat, by omega⟩
    by_cases hf : (s.top : Int) + 4 + (m : Int) ≤ wl
    · refine (has_Alloc h m x y hx hy (by omega) hf).mono ?_
      rintro e w' ⟨rfl, h1, h2⟩
      exact ⟨⟨_, rfl⟩, ⟨_, h1, rfl⟩, h2⟩
    · refine (has_Alloc_full h m x y (by omega) (by omega)).mono ?_
      rintro e w' ⟨rfl, h1, h2⟩
      exact ⟨⟨_, rfl⟩, .quiet h1 h2 rfl⟩
theorem leave_any (h : Has N P b s wl lim w) : Calls Try.prog 20 #[.pointer (some ⟨b, 0, none⟩)] w fun e w' => (∃ x y r, e = .returned (.tuple #[.agg #[.int .i64 x, .int .i64 y], .int .i64 r])) ∧ Went N P b wl lim (fun s' => s'.cs = s.cs) w w' := by
  cases hn : s.cur with
  | nil =>
    refine (has_Dealloc_none h hn).mono ?_
    rintro e w' ⟨rfl, h1, h2⟩
    exact ⟨⟨_, _, _, rfl⟩, .quiet h1 h2 rfl⟩
  | cons f fs =>
    refine (has_Dealloc h hn).mono ?_
    rintro e w' ⟨rfl, h1, h2⟩
    exact ⟨⟨_, _, _, rfl⟩, ⟨_, h1, rfl⟩, h2⟩
theorem set_any (h : Has N P b s wl lim w) (i x : Int) : Calls Try.prog 27 #[.pointer (some ⟨b, 0, none⟩), .int .i64 i, .int .u64 x] w fun e w' => (∃ r, e = .returned (.int .i64 r)) ∧ Went N P b wl lim (fun s' => s'.cs.length = s.cs.length) w w' := by
  by_cases hi : i < 1 ∨ (slotsF s.cur : Int) < i
  · refine (has_Set_no h i x hi).mono ?_
    rintro e w' ⟨rfl, rfl⟩
    exact ⟨⟨_, rfl⟩, .quiet h (Only.refl _ _) rfl⟩
  · obtain ⟨j, rfl⟩ : ∃ j : Nat, i = (j : Int) + 1 := ⟨(i - 1).toNat, by omega⟩
    cases hn : s.cur with
    | nil => rw [hn] at hi; simp only [slotsF] at hi; omega
    | cons f fs =>
      rw [hn] at hi
      simp only [slotsF] at hi
      refine (has_Set h hn j (by omega) x).mono ?_
      rintro e w' ⟨rfl, h1, h2⟩
      exact ⟨⟨_, rfl⟩, ⟨_, h1, List.length_map _⟩, h2⟩
theorem trim_any (h : Has N P b s wl lim w) (n : Int) : Calls Try.prog 28 #[.pointer (some ⟨b, 0, none⟩), .int .i64 n] w fun e w' => (∃ r, e = .returned (.bool r)) ∧ Went N P b wl lim (fun s' => s'.cs = s.cs) w w' := by
  cases hn : s.cur with
  | nil =>
    refine (has_Trim_no h n (.inl hn)).mono ?_
    rintro e w' ⟨rfl, h1, h2⟩
    exact ⟨⟨_, rfl⟩, .quiet h1 h2 rfl⟩
  | cons f fs =>
    by_cases hk : f.base < topOf s.cs ∨ n < 0 ∨ (f.ys.length : Int) < n
    · refine (has_Trim_no h n (.inr ⟨f, fs, hn, hk⟩)).mono ?_
      rintro e w' ⟨rfl, h1, h2⟩
      exact ⟨⟨_, rfl⟩, .quiet h1 h2 rfl⟩
    · obtain ⟨m, rfl⟩ : ∃ m : Nat, n = m := ⟨n.toNat, by omega⟩
      refine (has_Trim h m hn (by omega) (by omega)).mono ?_
      rintro e w' ⟨rfl, h1, h2⟩
      exact ⟨⟨_, rfl⟩, ⟨_, h1, rfl⟩, h2⟩
theorem push_any (h : Has N P b s wl lim w) : Calls Try.prog 13 #[.pointer (some ⟨b, 0, none⟩), .agg #[.int .i64 1, .slice none 0 0, .int .i64 0, .int .i64 0, .int .i64 0, .int .i64 0, .int .i64 0, .int .i64 0, .int .i64 0]] w fun e w' => (∃ r, e = .returned (.int .i64 r)) ∧ Went N P b wl lim (fun s' => s'.cs = s.cs ∨ ∃ c, s'.cs = s.cs ++ [c]) w w' := by
  by_cases hf : (s.cs.length : Int) < lim
  · refine (has_Push h 1 0 0 0 0 0 0 0 none 0 [] ⟨fun _ => rfl, fun ad e => (by cases e)⟩ (fun ad e => (by cases e)) (by decide) hf).mono ?_
    rintro e w' ⟨rfl, ⟨ao', cap', h1⟩, h2⟩
    exact ⟨⟨_, rfl⟩, ⟨_, h1, .inr ⟨_, rfl⟩⟩, h2⟩
  · refine (has_Push_full h 1 0 0 0 0 0 0 0 none 0 0 (by omega)).mono ?_
    rintro e w' ⟨rfl, h1, h2⟩
    exact ⟨⟨_, rfl⟩, .quiet h1 h2 (.inl rfl)⟩
theorem drop_any (h : Has N P b s wl lim w) : Calls Try.prog 17 #[.pointer (some ⟨b, 0, none⟩)] w fun e w' => (∃ r, e = .returned (.int .i64 r)) ∧ Went N P b wl lim (fun s' => s'.cs = s.cs.dropLast) w w' := by
  by_cases hn : s.cs = []
  · refine (has_Drop_none h hn).mono ?_
    rintro e w' ⟨rfl, h1, h2⟩
    exact ⟨⟨_, rfl⟩, .quiet h1 h2 (by rw [hn]; rfl)⟩
  · refine (has_Drop h hn).mono ?_
    rintro e w' ⟨rfl, h1, h2⟩
    exact ⟨⟨_, rfl⟩, ⟨_, h1, rfl⟩, h2⟩
theorem back_any (h : Has N P b s wl lim w) : Calls Try.prog 18 #[.pointer (some ⟨b, 0, none⟩)] w fun e w' => (∃ r, e = .returned (.int .i64 r)) ∧ Went N P b wl lim (fun s' => s'.cs = s.cs) w w' := by
  cases hd : s.cs.getLast? with
  | none =>
    refine (has_Restore_none h (List.getLast?_eq_none_iff.1 hd)).mono ?_
    rintro e w' ⟨rfl, h1, h2⟩
    exact ⟨⟨_, rfl⟩, .quiet h1 h2 rfl⟩
  | some d =>
    refine (has_Restore h hd).mono ?_
    rintro e w' ⟨rfl, h1, h2⟩
    exact ⟨⟨_, rfl⟩, ⟨_, h1, rfl⟩, h2⟩
/-- What one of the calls does to the choices. -/
def StepR (k : Int) (s s' : St) : Prop := s'.cs.length ≤ s.cs.length + 1 ∧ (k = 4 ∨ s'.cs = s.cs ∨ (∃ c, s'.cs = s.cs ++ [c]) ∨ (k = 8 ∧ s'.cs = s.cs.dropLast))
theorem Went.mono {R R' : St → Prop} (h : Went N P b wl lim R w w') (hr : ∀ s', R s' → R' s') : Went N P b wl lim R' w w' := by
  obtain ⟨s', h1, h2⟩ := h.s
  exact ⟨⟨s', h1, hr s' h2⟩, h.o⟩
theorem Went.since {R : St → Prop} {w0 : World} (h : Went N P b wl lim R w w') (ho : Only (fun _ => False) w0 w) : Went N P b wl lim R w0 w' := ⟨h.s, (ho.no _).same h.o⟩
theorem StepR.same {k : Int} {s' : St} (h : s'.cs = s.cs) : StepR k s s' := ⟨by rw [h]; omega, .inr (.inl h)⟩
set_option maxHeartbeats 4000000 in
theorem step_any (h : Has N P b s wl lim w) (o : FOp) (ho : o.Ok) : Calls Try.prog 12 #[.pointer (some ⟨b, 0, none⟩), .agg #[.int .i64 o.k, .int .i64 o.n, .int .u64 o.x, .int .i64 o.c0, .int .i64 o.c1, .int .i64 o.y0, .slice o.yo o.yn o.yc, .int .i64 o.y2, .int .i64 o.y3, .int .i64 o.y4, .int .i64 o.y5, .int .i64 o.y6, .int .i64 o.y7, .int .i64 o.y8]] w fun e w' => e = .returned (.tuple #[]) ∧ Went N P b wl lim (StepR o.k s) w w' := by
  obtain ⟨k, n, x, c0, c1, y0, yo, yn, yc, y2, y3, y4, y5, y6, y7, y8⟩ := o
  obtain ⟨h1, h2, h3⟩ := ho
  obtain ⟨E, hE⟩ : ∃ E, E = w.alloc (.cells #[.int .i64 k, .int .i64 n, .int .u64 x, .int .i64 c0, .int .i64 c1, .int .i64 y0, .slice yo yn yc, .int .i64 y2, .int .i64 y3, .int .i64 y4, .int .i64 y5, .int .i64 y6, .int .i64 y7, .int .i64 y8] 37) := ⟨_, rfl⟩
  have H0 : Hid (OpB w.heap.size k n x c0 c1 y0 yo yn yc y2 y3 y4 y5 y6 y7 y8 w E) := Lib.hid ⟨by rw [hE]; exact heap_alloc_new _ _, by rw [hE]; exact Only.alloc _ _ _⟩
  have hh := h.later H0.out.o
  obtain ⟨d0, d1, d2, d3, d4⟩ := H0.out.front
  by_cases k1 : k = 1
  · subst k1
    have HA := Lib.hid (alloc_any hh n c0 c1 h2 h3)
    clear h hh h1 h2 h3
    go_enter Try.func12, Try.ntmps12
    go_upto_region 1 with fail
    rw [← hE]
    clear hE
    generalize w.heap.size = bk at *
    go_wp2_with fail
    refine HA.out.mono ?_
    rintro e w2 ⟨⟨r, rfl⟩, hw⟩
    have HW := Lib.hid hw
    clear hw
    go_wp2_with fail
    go_end0
    exact ⟨rfl, (HW.out.since H0.out.o).mono (fun s' e => StepR.same e)⟩
  by_cases k2 : k = 2
  · subst k2
    have HA := Lib.hid (leave_any hh)
    clear h hh h1 h2 h3
    go_enter Try.func12, Try.ntmps12
    go_upto_region 1 with fail
    rw [← hE]
    clear hE
    generalize w.heap.size = bk at *
    go_wp2_with fail
    refine HA.out.mono ?_
    rintro e w2 ⟨⟨x, y, r, rfl⟩, hw⟩
    have HW := Lib.hid hw
    clear hw
    go_wp2_with fail
    go_end0
    exact ⟨rfl, (HW.out.since H0.out.o).mono (fun s' e => StepR.same e)⟩
  by_cases k4 : k = 4
  · subst k4
    have HA := Lib.hid (set_any hh n x)
    clear h hh h1 h2 h3
    go_enter Try.func12, Try.ntmps12
    go_upto_region 1 with fail
    rw [← hE]
    clear hE
    generalize w.heap.size = bk at *
    go_wp2_with fail
    refine HA.out.mono ?_
    rintro e w2 ⟨⟨r, rfl⟩, hw⟩
    have HW := Lib.hid hw
    clear hw
    go_wp2_with fail
    go_end0
    exact ⟨rfl, (HW.out.since H0.out.o).mono (fun s' e => ⟨by rw [e]; omega, .inl rfl⟩)⟩
  by_cases k5 : k = 5
  · subst k5
    have HA := Lib.hid (trim_any hh n)
    clear h hh h1 h2 h3
    go_enter Try.func12, Try.ntmps12
    go_upto_region 1 with fail
    rw [← hE]
    clear hE
    generalize w.heap.size = bk at *
    go_wp2_with fail
    refine HA.out.mono ?_
    rintro e w2 ⟨⟨r, rfl⟩, hw⟩
    have HW := Lib.hid hw
    clear hw
    go_wp2_with fail
    go_end0
    exact ⟨rfl, (HW.out.since H0.out.o).mono (fun s' e => StepR.same e)⟩
  by_cases k6 : k = 6
  · subst k6
    have HA := Lib.hid (push_any hh)
    clear h hh h1 h2 h3
    go_enter Try.func12, Try.ntmps12
    go_upto_region 1 with fail
    rw [← hE]
    clear hE
    generalize w.heap.size = bk at *
    go_wp2_with fail
    refine HA.out.mono ?_
    rintro e w2 ⟨⟨r, rfl⟩, hw⟩
    have HW := Lib.hid hw
    clear hw
    go_wp2_with fail
    go_end0
    exact ⟨rfl, (HW.out.since H0.out.o).mono (fun s' e => by
      rcases e with e | ⟨c, e⟩
      · exact StepR.same e
      · exact ⟨by rw [e]; simp, .inr (.inr (.inl ⟨c, e⟩))⟩)⟩
  by_cases k8 : k = 8
  · subst k8
    have HA := Lib.hid (drop_any hh)
    clear h hh h1 h2 h3
    go_enter Try.func12, Try.ntmps12
    go_upto_region 1 with fail
    rw [← hE]
    clear hE
    generalize w.heap.size = bk at *
    go_wp2_with fail
    refine HA.out.mono ?_
    rintro e w2 ⟨⟨r, rfl⟩, hw⟩
    have HW := Lib.hid hw
    clear hw
    go_wp2_with fail
    go_end0
    exact ⟨rfl, (HW.out.since H0.out.o).mono (fun s' e => ⟨by rw [e, List.length_dropLast]; omega, .inr (.inr (.inr ⟨rfl, e⟩))⟩)⟩
  by_cases k9 : k = 9
  · subst k9
    have HA := Lib.hid (back_any hh)
    clear h hh h1 h2 h3
    go_enter Try.func12, Try.ntmps12
    go_upto_region 1 with fail
    rw [← hE]
    clear hE
    generalize w.heap.size = bk at *
    go_wp2_with fail
    refine HA.out.mono ?_
    rintro e w2 ⟨⟨r, rfl⟩, hw⟩
    have HW := Lib.hid hw
    clear hw
    go_wp2_with fail
    go_end0
    exact ⟨rfl, (HW.out.since H0.out.o).mono (fun s' e => StepR.same e)⟩
  have HH := Lib.hid hh
  have e1 : (k == 1) = false := by simpa using k1
  have e2 : (k == 2) = false := by simpa using k2
  have e4 : (k == 4) = false := by simpa using k4
  have e5 : (k == 5) = false := by simpa using k5
  have e6 : (k == 6) = false := by simpa using k6
  have e8 : (k == 8) = false := by simpa using k8
  have e9 : (k == 9) = false := by simpa using k9
  clear h hh h1 h2 h3 k1 k2 k4 k5 k6 k8 k9
  go_enter Try.func12, Try.ntmps12
  go_upto_region 1 with fail
  rw [← hE]
  clear hE
  generalize w.heap.size = bk at *
  go_wp2_with fail
  go_end0
  exact ⟨rfl, Went.quiet HH.out H0.out.o (StepR.same rfl)⟩
end
end Go.Proofs.Ythfilpacmllhpaa.stk
