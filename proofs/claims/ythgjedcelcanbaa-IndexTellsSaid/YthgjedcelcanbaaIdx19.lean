
/- Selection by keys: the key of a term, and of its first argument. -/
import Derived.Test.YthgjedcelcanbaaIdx18
import Derived.Test.YthgjedcelcanbaaTermArgs
namespace Go.Proofs.Ythgjedcelcanbaa.idx
set_option maxRecDepth 100000
open Go.RowKit Go.Proofs.Ythgjedcelcanbaa.own Go.Lib Go.Maps Go.WideMaps
/-- The key of a term that has these fields. -/
def keyF (k n : Int) (s : ByteArray) (m : Nat) : Ky := if k = 2 then ⟨1, ⟨#[]⟩, n⟩ else if k = 3 then ⟨2, s, 0⟩ else if k = 4 then ⟨3, s, m⟩ else zK
theorem key2 (n : Int) (s : ByteArray) (m : Nat) : keyF 2 n s m = ⟨1, ⟨#[]⟩, n⟩ := rfl
theorem key3 (n : Int) (s : ByteArray) (m : Nat) : keyF 3 n s m = ⟨2, s, 0⟩ := rfl
theorem key4 (n : Int) (s : ByteArray) (m : Nat) : keyF 4 n s m = ⟨3, s, m⟩ := rfl
theorem key_no {k : Int} (n : Int) (s : ByteArray) (m : Nat) (h2 : ¬ k = 2) (h3 : ¬ k = 3) (h4 : ¬ k = 4) : keyF k n s m = zK := by unfold keyF; rw [if_neg h2, if_neg h3, if_neg h4]
def keyT (t : Go.Proofs.Ythgjedcelcanbaa.terms.T) : Ky := keyF t.k t.n t.s t.l.length
/-- The key of a first argument. -/
def firstK (t : Go.Proofs.Ythgjedcelcanbaa.terms.T) : Ky := if t.k = 4 then (match t.l with | [] => zK | x :: _ => keyT x) else zK
/-- A term's box. -/
def Four (b : Nat) (k n : Int) (s : ByteArray) (a : Option Addr) (m c : Nat) (w : World) : Prop := w.heap[b]? = some (.cells #[.int .i64 k, .int .i64 n, .string s, .slice a m c] 58 (0, 0))
theorem Four.cells {b : Nat} {k n : Int} {s : ByteArray} {a : Option Addr} {m c : Nat} {w : World} (h : Four b k n s a m c w) : w.cell? ⟨b, 0, none⟩ = some (.int .i64 k) ∧ w.cell? ⟨b, 1, none⟩ = some (.int .i64 n) ∧ w.cell? ⟨b, 2, none⟩ = some (.string s) ∧ w.cell? ⟨b, 3, none⟩ = some (.slice a m c) := by
  refine ⟨?_, ?_, ?_, ?_⟩ <;> (rw [cell_of_blk h]; rfl)
theorem Four.only {b : Nat} {k n : Int} {s : ByteArray} {a : Option Addr} {m c : Nat} {w w' : World} {S : Nat → Prop} (h : Four b k n s a m c w) (ho : Only S w w') (hS : ¬ S b) : Four b k n s a m c w' := by
  unfold Four at *
  rw [ho.block b (lt_of_block h) hS]
  exact h
set_option maxHeartbeats 4000000 in
theorem keyOf_any (k n : Int) (s : ByteArray) (a : Option Addr) (m c : Nat) (w : World) : Calls Try.prog 18 #[.agg #[.int .i64 k, .int .i64 n, .string s, .slice a m c]] w fun e w' => e = .returned (kyV (keyF k n s m)) ∧ Only (fun _ => False) w w' := by
  obtain ⟨A, hA⟩ : ∃ A, A = w.alloc (.cells #[.int .i64 k, .int .i64 n, .string s, .slice a m c] 58) := ⟨_, rfl⟩
  obtain ⟨E, hE⟩ : ∃ E, E = A.alloc (.cells #[.int .i64 0, .string ⟨#[]⟩, .int .i64 0] 32) := ⟨_, rfl⟩
  have hA0 : A.heap.size = w.heap.size + 1 := by rw [hA]; simp
  have hx : Four w.heap.size k n s a m c E := Four.only (w := A) (by unfold Four; rw [hA]; exact heap_alloc_new _ _) (by rw [hE]; exact Only.alloc (fun _ => False) _ _) (fun e => e)
  have hz : Three (w.heap.size + 1) zK E := by unfold Three; rw [← hA0, hE]; exact heap_alloc_new A _
  have HO : Hid (Only (fun _ => False) w E) := Lib.hid (by rw [hE, hA]; exact (Only.alloc _ _ _).same (Only.alloc _ _ _))
  obtain ⟨x0, x1, x2, x3⟩ := hx.cells
  obtain ⟨z0, z1, z2⟩ := hz.cells
  obtain ⟨f0, f1, f2⟩ := hz.free
  have HSA := Lib.hid (hz.set ⟨1, ⟨#[]⟩, n⟩)
  have HSB := Lib.hid (hz.set ⟨2, s, 0⟩)
  have HSC := Lib.hid (hz.set ⟨3, s, m⟩)
  have HSZ := Lib.hid (hz.set zK)
  rw [hA] at hE
  clear hx hz
  by_cases h2 : k = 2
  · subst h2
    rw [key2]
    go_enter Try.func18, Try.ntmps18
    go_upto_region 1 with fail
    rw [← hE]
    clear hE hA hA0
    go_wp2_with fail
    refine bodyPost_ret (v := kyV ⟨1, ⟨#[]⟩, n⟩) (results_key rfl _ _ (w.heap.size + 1) ⟨1, ⟨#[]⟩, n⟩ rfl HSA.out.1) rfl ?_
    exact ⟨rfl, Only.cut HO.out HSA.out.2 (fun k e => by omega)⟩
  by_cases h3 : k = 3
  · subst h3
    rw [key3]
    go_enter Try.func18, Try.ntmps18
    go_upto_region 1 with fail
    rw [← hE]
    clear hE hA hA0
    go_wp2_with fail
    refine bodyPost_ret (v := kyV ⟨2, s, 0⟩) (results_key rfl _ _ (w.heap.size + 1) ⟨2, s, 0⟩ rfl HSB.out.1) rfl ?_
    exact ⟨rfl, Only.cut HO.out HSB.out.2 (fun k e => by omega)⟩
  by_cases h4 : k = 4
  · subst h4
    rw [key4]
    go_enter Try.func18, Try.ntmps18
    go_upto_region 1 with fail
    rw [← hE]
    clear hE hA hA0
    go_wp2_with fail
    refine bodyPost_ret (v := kyV ⟨3, s, m⟩) (results_key rfl _ _ (w.heap.size + 1) ⟨3, s, m⟩ rfl HSC.out.1) rfl ?_
    exact ⟨rfl, Only.cut HO.out HSC.out.2 (fun k e => by omega)⟩
  have g2 : (k == 2) = false := by simpa using h2
  have g3 : (k == 3) = false := by simpa using h3
  have g4 : (k == 4) = false := by simpa using h4
  rw [key_no n s m h2 h3 h4]
  clear h2 h3 h4
  go_enter Try.func18, Try.ntmps18
  go_upto_region 1 with fail
  rw [← hE]
  clear hE hA hA0
  go_wp2_with fail
  refine bodyPost_ret (v := kyV zK) (results_key rfl _ _ (w.heap.size + 1) zK rfl HSZ.out.1) rfl ?_
  exact ⟨rfl, Only.cut HO.out HSZ.out.2 (fun k e => by omega)⟩
set_option maxHeartbeats 4000000 in
theorem firstOf_any (t : Go.Proofs.Ythgjedcelcanbaa.terms.T) (a : Option Addr) (c : Nat) (w : World) (hl : Go.Proofs.Ythgjedcelcanbaa.terms.Lies w a t.l) : Calls Try.prog 19 #[.agg #[.int .i64 t.k, .int .i64 t.n, .string t.s, .slice a t.l.length c]] w fun e w' => e = .returned (kyV (firstK t)) ∧ Only (fun _ => False) w w' := by
  obtain ⟨k, n, s, l⟩ := t
  simp only [Go.Proofs.Ythgjedcelcanbaa.terms.T.k, Go.Proofs.Ythgjedcelcanbaa.terms.T.n, Go.Proofs.Ythgjedcelcanbaa.terms.T.s, Go.Proofs.Ythgjedcelcanbaa.terms.T.l] at *
  obtain ⟨m, hm⟩ : ∃ m, m = l.length := ⟨_, rfl⟩
  rw [← hm]
  obtain ⟨A, hA⟩ : ∃ A, A = w.alloc (.cells #[.int .i64 k, .int .i64 n, .string s, .slice a m c] 58) := ⟨_, rfl⟩
  obtain ⟨E, hE⟩ : ∃ E, E = A.alloc (.cells #[.int .i64 0, .string ⟨#[]⟩, .int .i64 0] 32) := ⟨_, rfl⟩
  have hA0 : A.heap.size = w.heap.size + 1 := by rw [hA]; simp
  have hx : Four w.heap.size k n s a m c E := Four.only (w := A) (by unfold Four; rw [hA]; exact heap_alloc_new _ _) (by rw [hE]; exact Only.alloc (fun _ => False) _ _) (fun e => e)
  have hz : Three (w.heap.size + 1) zK E := by unfold Three; rw [← hA0, hE]; exact heap_alloc_new A _
  have HO : Hid (Only (fun _ => False) w E) := Lib.hid (by rw [hE, hA]; exact (Only.alloc _ _ _).same (Only.alloc _ _ _))
  have HL := Lib.hid (hl.later HO.out)
  obtain ⟨x0, x1, x2, x3⟩ := hx.cells
  obtain ⟨z0, z1, z2⟩ := hz.cells
  obtain ⟨f0, f1, f2⟩ := hz.free
  have HZ := Lib.hid hz
  have HSZ := Lib.hid (hz.set zK)
  rw [hA] at hE
  clear hx hz hl
  by_cases h4 : k = 4
  · subst h4
    cases l with
    | nil =>
      have hf : firstK (.mk 4 n s []) = zK := rfl
      rw [hf]
      simp only [List.length_nil] at hm
      subst hm
      clear hf
      go_enter Try.func19, Try.ntmps19
      go_upto_region 1 with fail
      rw [← hE]
      clear hE hA hA0
      go_wp2_with fail
      refine bodyPost_ret (v := kyV zK) (results_key rfl _ _ (w.heap.size + 1) zK rfl HSZ.out.1) rfl ?_
      exact ⟨rfl, Only.cut HO.out HSZ.out.2 (fun k e => by omega)⟩
    | cons x r =>
      have hf : firstK (.mk 4 n s (x :: r)) = keyT x := rfl
      rw [hf]
      clear hf
      obtain ⟨b, off, ro, rc, rfl, hb, c0, c1, c2, c3, _, _⟩ := HL.out.at (i := 0) (x := x) rfl
      simp only [Nat.zero_mul, Nat.add_zero] at c0 c1 c2 c3
      have hm1 : (m == 0) = false := by rw [hm]; rfl
      have hm0 : 0 < m := by rw [hm]; simp
      obtain ⟨xk, xn, xs, xl⟩ := x
      simp only [Go.Proofs.Ythgjedcelcanbaa.terms.T.k, Go.Proofs.Ythgjedcelcanbaa.terms.T.n, Go.Proofs.Ythgjedcelcanbaa.terms.T.s, Go.Proofs.Ythgjedcelcanbaa.terms.T.l] at *
      have HKF : Hid (Calls Try.prog 18 #[.agg #[.int .i64 xk, .int .i64 xn, .string xs, .slice ro xl.length rc]] E fun e w' => e = .returned (kyV (keyF xk xn xs xl.length)) ∧ Only (fun _ => False) E w') := Lib.hid (keyOf_any xk xn xs ro xl.length rc E)
      have hkt : keyT (.mk xk xn xs xl) = keyF xk xn xs xl.length := rfl
      rw [hkt]
      clear hkt
      generalize xl.length = xm at *
      generalize keyF xk xn xs xm = q at *
      clear hm HL
      go_enter Try.func19, Try.ntmps19
      go_upto_region 1 with fail
      rw [← hE]
      clear hE hA hA0
      go_wp2_with fail
      refine HKF.out.mono ?_
      rintro e w1 ⟨rfl, ho1⟩
      have HZ1 := Lib.hid (HZ.out.only ho1 (fun e => e))
      have HO1 := Lib.hid (HO.out.same ho1)
      have HSQ := Lib.hid (HZ1.out.set q)
      clear ho1 x0 x1 x2 x3 z0 z1 z2 f0 f1 f2
      obtain ⟨z0, z1, z2⟩ := HZ1.out.cells
      obtain ⟨f0, f1, f2⟩ := HZ1.out.free
      go_wp2_with fail
      refine bodyPost_ret (v := kyV q) (results_key rfl _ _ (w.heap.size + 1) q rfl HSQ.out.1) rfl ?_
      exact ⟨rfl, Only.cut HO1.out HSQ.out.2 (fun k e => by omega)⟩
  · have hf : firstK (.mk k n s l) = zK := if_neg h4
    rw [hf]
    have g4 : (k == 4) = false := by simpa using h4
    clear h4 hf hm HL
    go_enter Try.func19, Try.ntmps19
    go_upto_region 1 with fail
    rw [← hE]
    clear hE hA hA0
    go_wp2_with fail
    refine bodyPost_ret (v := kyV zK) (results_key rfl _ _ (w.heap.size + 1) zK rfl HSZ.out.1) rfl ?_
    exact ⟨rfl, Only.cut HO.out HSZ.out.2 (fun k e => by omega)⟩
end Go.Proofs.Ythgjedcelcanbaa.idx
