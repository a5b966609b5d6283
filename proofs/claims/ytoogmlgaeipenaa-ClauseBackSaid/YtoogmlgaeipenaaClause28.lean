/- Clauses: the reference's Back. -/
import Derived.Test.YtoogmlgaeipenaaClause27
namespace Go.Proofs.Ytoogmlgaeipenaa.terms
set_option maxRecDepth 100000
open Go.RowKit Go.Proofs.Ytoogmlgaeipenaa.own Go.Maps
theorem bk_new (w : World) (h : T) (ho : Option Addr) (hc : Nat) (x4 x5 : Value) (E : World) (hE : ((w.alloc (.cells #[.int .i64 h.k, .int .i64 h.n, .string h.s, .slice ho h.l.length hc, x4, x5] 37)).alloc (.cells #[.int .i64 0, .int .i64 0, .string ⟨#[]⟩, .slice none 0 0] 24)).alloc (.cells #[.int .i64 h.k, .int .i64 h.n, .string h.s, .slice ho h.l.length hc] 24) = E) :
    Hex w.heap.size (.int .i64 h.k) (.int .i64 h.n) (.string h.s) (.slice ho h.l.length hc) x4 x5 E ∧ Zero (w.heap.size + 1) E ∧ Quad (w.heap.size + 2) (.int .i64 h.k) (.int .i64 h.n) (.string h.s) (.slice ho h.l.length hc) E ∧ Only (fun _ => False) w E ∧ E.heap.size = w.heap.size + 3 := by
  obtain ⟨A, hA⟩ : ∃ A, A = w.alloc (.cells #[.int .i64 h.k, .int .i64 h.n, .string h.s, .slice ho h.l.length hc, x4, x5] 37) := ⟨_, rfl⟩
  obtain ⟨C, hC⟩ : ∃ C, C = zeroW A := ⟨_, rfl⟩
  have hA0 : A.heap.size = w.heap.size + 1 := by rw [hA]; simp
  have hC0 : C.heap.size = w.heap.size + 2 := by rw [hC]; simp [hA0]
  have hE' : C.alloc (.cells #[.int .i64 h.k, .int .i64 h.n, .string h.s, .slice ho h.l.length hc] 24) = E := by rw [hC, hA]; exact hE
  have hE0 : E.heap.size = w.heap.size + 3 := by rw [← hE']; simp [hC0]
  have oA : Only (fun _ => False) w A := by rw [hA]; exact Only.alloc _ _ _
  have oC : Only (fun _ => False) A C := by rw [hC]; exact Only.alloc _ _ _
  have oE : Only (fun _ => False) C E := by rw [← hE']; exact Only.alloc _ _ _
  refine ⟨?_, ?_, ?_, (oA.same oC).same oE, hE0⟩
  · have h : Hex w.heap.size (.int .i64 h.k) (.int .i64 h.n) (.string h.s) (.slice ho h.l.length hc) x4 x5 A := by rw [hA]; exact heap_alloc_new _ _
    exact h.only (oC.same oE) (fun e => e)
  · have h : Zero A.heap.size C := by rw [hC]; exact Zero.new _
    rw [hA0] at h
    exact h.only oE (fun e => e)
  · rw [← hC0, ← hE']; exact heap_alloc_new _ _
set_option maxHeartbeats 16000000 in
theorem rBack_none (h : T) (ho : Option Addr) (hc : Nat) (go : Option Addr) (gc : Nat) (n : Int) (w : World) (hs : h.Sane) (hl : Lies w ho h.l) (hz : h.size ≤ 900000) :
    Calls Try.prog 19 #[.agg #[.int .i64 h.k, .int .i64 h.n, .string h.s, .slice ho h.l.length hc, .slice go 0 gc, .int .i64 n]] w fun e w' => ∃ a c, e = .returned (tv (clF h) a c) ∧ Lies w' a (clF h).l ∧ Only (fun _ => False) w w' := by
  have HN := Lib.hid (bk_new w h ho hc (.slice go 0 gc) (.int .i64 n))
  have HCK : Hid (∀ W, Only (fun _ => False) w W → Calls Try.prog 10 #[tv h ho hc] W fun e w' => e = .returned (.int .i64 (rcheckF h)) ∧ Only (fun _ => False) W w') := Lib.hid (fun W o => rCheck_any h W ho hc (hl.later o) hs (by have := depth_le_size h; omega) (by omega))
  have HCL : Hid (clF h = if rcheckF h = 0 then h else zeroT) := Lib.hid rfl
  have HL := Lib.hid hl
  generalize rcheckF h = C at *
  generalize clF h = v at *
  clear hs hl hz
  have hw0 : w.heap.size + 1 + 1 = w.heap.size + 2 := rfl
  have HZ := Lib.hid (HN.out _ rfl).2.1
  have HT := Lib.hid (HN.out _ rfl).2.2.1
  have HO := Lib.hid (HN.out _ rfl).2.2.2.1
  have HE := Lib.hid (HN.out _ rfl).2.2.2.2
  obtain ⟨x0, x1, x2, x3, x4, x5⟩ := (HN.out _ rfl).1.cells
  obtain ⟨t0, t1, t2, t3⟩ := (HN.out _ rfl).2.2.1.cells
  go_enter Try.func19, Try.ntmps19
  go_wp2_with fail
  clear HN hw0
  generalize ((w.alloc (.cells #[.int .i64 h.k, .int .i64 h.n, .string h.s, .slice ho h.l.length hc, .slice go 0 gc, .int .i64 n] 37)).alloc (.cells #[.int .i64 0, .int .i64 0, .string ⟨#[]⟩, .slice none 0 0] 24)).alloc (.cells #[.int .i64 h.k, .int .i64 h.n, .string h.s, .slice ho h.l.length hc] 24) = E at *
  refine (HCK.out _ HO.out).mono ?_
  rintro e w1 ⟨rfl, ho1⟩
  have HZ1 := Lib.hid (HZ.out.only ho1 (fun e => e))
  have HT1 := Lib.hid (HT.out.only ho1 (fun e => e))
  have HO1 := Lib.hid (HO.out.same ho1)
  have HE1 : Hid (w.heap.size + 3 ≤ w1.heap.size) := Lib.hid (by have := HE.out; have := ho1.size; omega)
  have HL1 := Lib.hid (HL.out.only HO1.out (fun _ h => h) (fun _ _ e => e))
  clear x0 x1 x2 x3 x4 x5 t0 t1 t2 t3 ho1 HE HCK
  obtain ⟨z0, z1, z2, z3⟩ := HZ1.out.cells
  obtain ⟨f0, f1, f2, f3⟩ := HZ1.out.free
  obtain ⟨t0, t1, t2, t3⟩ := HT1.out.cells
  by_cases hc0 : C = 0
  · obtain rfl : v = h := by rw [HCL.out, if_pos hc0]
    subst hc0
    have HS := Lib.hid (HZ1.out.set (.int .i64 v.k) (.int .i64 v.n) (.string v.s) (.slice ho v.l.length hc))
    go_wp2_with fail
    have hcc := HS.out.1.cells
    refine bodyPost_ret (v := tv v ho hc) (results_term rfl _ _ (w.heap.size + 1) _ _ _ _ rfl hcc.1 hcc.2.1 hcc.2.2.1 hcc.2.2.2) rfl ?_
    exact ⟨ho, hc, rfl, (HL1.out.only HS.out.2 (fun q hq => by have := HE1.out; omega) (fun q hq e => by omega)).mono (fun q hq => Nat.lt_of_lt_of_le (Nat.lt_of_lt_of_le hq (by have := HE1.out; omega : w.heap.size ≤ w1.heap.size)) HS.out.2.size), Only.cut HO1.out HS.out.2 (fun k e => by omega)⟩
  · obtain rfl : v = zeroT := by rw [HCL.out, if_neg hc0]
    have hcn : (C != 0) = true := by simpa using hc0
    clear hc0
    have HS := Lib.hid (HZ1.out.set (.int .i64 0) (.int .i64 0) (.string ⟨#[]⟩) (.slice none 0 0))
    go_wp2_with fail
    have hcc := HS.out.1.cells
    refine bodyPost_ret (v := .agg #[.int .i64 0, .int .i64 0, .string ⟨#[]⟩, .slice none 0 0]) (results_term rfl _ _ (w.heap.size + 1) _ _ _ _ rfl hcc.1 hcc.2.1 hcc.2.2.1 hcc.2.2.2) rfl ?_
    exact ⟨none, 0, rfl, Row.nil _ _ _, Only.cut HO1.out HS.out.2 (fun k e => by omega)⟩
theorem cl_kind (t : T) : (t.Ok ∧ clF t = t ∧ (t.k == 0) = false) ∨ clF t = zeroT := by
  by_cases h : rcheckF t = 0
  · have hok := rcheck_iff.1 h
    refine .inl ⟨hok, by unfold clF; rw [if_pos h], ?_⟩
    have hr := hok.right
    rw [T.right_eq, Bool.and_eq_true] at hr
    have hp := hr.1
    unfold T.part at hp
    cases hk : (t.k == 0) with
    | false => rfl
    | true =>
      have hk' : t.k = 0 := by simpa using hk
      rw [hk'] at hp
      simp at hp
  · exact .inr (by unfold clF; rw [if_neg h])
end Go.Proofs.Ytoogmlgaeipenaa.terms
