
/- Selection by keys: a row without an entry. -/
import Derived.Test.YthgjedcelcanbaaIdx29
namespace Go.Proofs.Ythgjedcelcanbaa.idx
set_option maxRecDepth 100000
open Go.RowKit Go.Proofs.Ythgjedcelcanbaa.own Go.Lib Go.Maps Go.WideMaps
set_option maxHeartbeats 4000000 in
theorem without_any (ao : Option Addr) (cap : Nat) (A : List En) (e : En) (C : List En) (w : World) (h : RowE ao cap (A ++ e :: C) w) (hs : Rises (A ++ e :: C)) (hl : (A ++ e :: C).length ≤ 1000000) :
    Calls Try.prog 27 #[.slice ao (A ++ e :: C).length cap, .agg #[.int .i64 e.id, .int .i64 e.key.k, .string e.key.s, .int .i64 e.key.n, .int .i64 e.pl]] w fun r w' => r = .returned (.slice ao (A ++ C).length cap) ∧ RowE ao cap (A ++ C) w' ∧ Only (RowAt ao) w w' := by
  obtain ⟨E, hE⟩ : ∃ E, E = w.alloc (.cells #[.int .i64 e.id, .int .i64 e.key.k, .string e.key.s, .int .i64 e.key.n, .int .i64 e.pl] 60) := ⟨_, rfl⟩
  have hx : Five w.heap.size e E := by rw [hE]; exact Five.new w e
  have ho : Only (fun _ => False) w E := by rw [hE]; exact Only.alloc _ _ _
  have HO := Lib.hid ho
  have hc : cntF e.pl (A ++ e :: C) = A.length := by
    have hA : ∀ x ∈ A, x.pl < e.pl := fun x hx => (List.pairwise_append.1 hs).2.2 x hx e (by simp)
    have hC : ∀ x ∈ C, e.pl < x.pl := fun x hx => (List.pairwise_cons.1 (List.pairwise_append.1 hs).2.1).1 x hx
    unfold cntF
    rw [List.countP_append, List.countP_cons, List.countP_eq_length.2 (fun x hx => by simpa using hA x hx), List.countP_eq_zero.2 (fun x hx => by have := hC x hx; simp; omega)]
    simp
  have HF : Hid (Calls Try.prog 34 #[.slice ao (A ++ e :: C).length cap, .int .i64 e.pl] E fun r w' => r = .returned (.int .i64 (A.length : Nat)) ∧ Only (fun _ => False) E w') := Lib.hid (by
    have := find_any ao cap (A ++ e :: C) e.pl E (h.later ho) hs hl
    rw [hc] at this
    exact this)
  obtain ⟨g, cur, rfl, _⟩ := h.block (by rw [List.length_append, List.length_cons]; omega)
  have hn : (A ++ e :: C).length = A.length + 1 + C.length := by simp; omega
  have HD : Hid (∀ W, Only (fun _ => False) w W → Calls Try.prog 35 #[.slice (some ⟨g, 0, none⟩) (A ++ e :: C).length cap, .int .i64 A.length, .int .i64 ((A.length : Int) + 1)] W fun r w' => r = .returned (.slice (some ⟨g, 0, none⟩) (A.length + C.length) cap) ∧ RowE (some ⟨g, 0, none⟩) cap (A ++ C) w' ∧ Only (· = g) W w') := Lib.hid (fun W o => delete_any g cap A e C W (h.later o) _ hn hl)
  have HL : Hid ((A ++ C).length = A.length + C.length) := Lib.hid (by simp)
  obtain ⟨x0, x1, x2, x3, x4⟩ := hx.cells
  have ht : A.length ≤ 1000000 := by omega
  rw [HL.out]
  generalize (A ++ e :: C).length = n at *
  generalize A.length = t at *
  generalize C.length = m at *
  have hwj : IntKind.i64.wrap ((t : Int) + 1) = (t : Int) + 1 := IntWalk.i64_in _ (by omega)
  clear h hs hl hx ho hc hn
  go_enter Try.func27, Try.ntmps27
  go_upto_region 1 with fail
  rw [← hE]
  clear hE
  go_wp2_with fail
  refine HF.out.mono ?_
  rintro r w1 ⟨rfl, ho1⟩
  have HO1 := Lib.hid (HO.out.same ho1)
  clear ho1 x0 x1 x2 x3 x4
  go_wp2_with fail
  refine (HD.out _ HO1.out).mono ?_
  rintro r w2 ⟨rfl, hr, ho2⟩
  have HR := Lib.hid hr
  have HO2 : Hid (Only (RowAt (some ⟨g, 0, none⟩)) w w2) := Lib.hid ((HO1.out.mono (fun _ _ e => e.elim)).same (ho2.mono (fun k _ e => ⟨_, rfl, e⟩)))
  clear hr ho2
  go_wp2_with fail
  go_ret
  exact ⟨rfl, HR.out, HO2.out⟩
end Go.Proofs.Ythgjedcelcanbaa.idx
