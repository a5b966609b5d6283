/- Selection by keys: a row with an entry more, at either end. -/
import Derived.Test.YthgjedcelcanbaaIdx5
import Derived.Deep.CutRange
import Derived.Deep.DeepCutAuto
import Derived.Deep.RegionHeld3
namespace Go.Proofs.Ythgjedcelcanbaa.idx
set_option maxRecDepth 100000
open Go.RowKit Go.Proofs.Ythgjedcelcanbaa.own Go.Lib
/-- What a row with an entry more answers. -/
def AnsRow (ao : Option Addr) (ys : List En) (w : World) (r : Ending) (w' : World) : Prop := ∃ ao' cap', r = .returned (.slice ao' ys.length cap') ∧ RowE ao' cap' ys w' ∧ Only (RowAt ao) w w' ∧ NewRow w.heap.size ao ao'
theorem insert_front (ao : Option Addr) (cap : Nat) (xs : List En) (e : En) (vb : Nat) (w : World) (h : RowE ao cap xs w) (hv : Five vb e w) (hl : xs.length ≤ 1000000) (hne : ∀ g, ao = some g → g.block ≠ vb) :
    Calls Try.prog 36 #[.slice ao xs.length cap, .int .i64 0, .slice (some ⟨vb, 0, none⟩) 1 1] w (AnsRow ao (e :: xs) w) := by
  rcases Nat.eq_zero_or_pos xs.length with h0 | h0
  · have hx : xs = [] := List.eq_nil_of_length_eq_zero h0
    subst hx
    refine (insert_end ao cap [] e vb w h hv hl).mono ?_
    rintro r w' ⟨ao', cap', rfl, h1, h2, h3⟩
    exact ⟨ao', cap', rfl, h1, h2, h3⟩
  · obtain ⟨g, cur, rfl, _⟩ := h.block h0
    by_cases hroom : xs.length + 1 ≤ cap
    · refine (insert_room g cap xs e vb w h hv hl h0 (fun e => hne _ rfl e.symm) hroom).mono ?_
      rintro r w' ⟨rfl, h1, h2⟩
      exact ⟨_, cap, rfl, h1, h2.mono (fun k _ e => ⟨_, rfl, e⟩), NewRow.refl _ _⟩
    · refine (insert_grow g cap xs e vb w h hv hl h0 (by omega)).mono ?_
      rintro r w' ⟨cap', rfl, h1, h2⟩
      exact ⟨_, cap', rfl, h1, h2.mono (fun k _ e => e.elim), fun g hg => by
        cases hg
        exact .inr (Nat.le_refl _)⟩
theorem insert_back (ao : Option Addr) (cap : Nat) (xs : List En) (e : En) (vb : Nat) (w : World) (h : RowE ao cap xs w) (hv : Five vb e w) (hl : xs.length ≤ 1000000) :
    Calls Try.prog 36 #[.slice ao xs.length cap, .int .i64 xs.length, .slice (some ⟨vb, 0, none⟩) 1 1] w (AnsRow ao (xs ++ [e]) w) := by
  refine (insert_end ao cap xs e vb w h hv hl).mono ?_
  rintro r w' ⟨ao', cap', rfl, h1, h2, h3⟩
  exact ⟨ao', cap', by simp, h1, h2, h3⟩
theorem AnsRow.from {ao : Option Addr} {ys : List En} {w w1 w' : World} {r : Ending} (h : AnsRow ao ys w1 r w') (o : Only (fun _ => False) w w1) : AnsRow ao ys w r w' := by
  obtain ⟨ao', cap', h1, h2, h3, h4⟩ := h
  exact ⟨ao', cap', h1, h2, (o.no _).same h3, fun g hg => by
    rcases h4 g hg with e | e
    · exact .inl e
    · exact .inr (Nat.le_trans o.size e)⟩
set_option maxHeartbeats 8000000 in
/-- The row with an entry more, whatever it is that Insert makes of it. -/
theorem with_pos (ao : Option Addr) (cap : Nat) (xs ys : List En) (e : En) (pos : Nat) (w : World) (h : RowE ao cap xs w) (hs : Rises xs) (hl : xs.length ≤ 1000000) (hpos : cntF e.pl xs = pos)
    (hin : ∀ (W : World) (vb : Nat), RowE ao cap xs W → Five vb e W → (∀ g, ao = some g → g.block ≠ vb) → Calls Try.prog 36 #[.slice ao xs.length cap, .int .i64 pos, .slice (some ⟨vb, 0, none⟩) 1 1] W (AnsRow ao ys W)) :
    Calls Try.prog 30 #[.slice ao xs.length cap, .agg #[.int .i64 e.id, .int .i64 e.key.k, .string e.key.s, .int .i64 e.key.n, .int .i64 e.pl]] w (AnsRow ao ys w) := by
  have HE0 : Hid (Five w.heap.size e (w.alloc (.cells #[.int .i64 e.id, .int .i64 e.key.k, .string e.key.s, .int .i64 e.key.n, .int .i64 e.pl] 60))) := Lib.hid (Five.new w e)
  have HO0 : Hid (Only (fun _ => False) w (w.alloc (.cells #[.int .i64 e.id, .int .i64 e.key.k, .string e.key.s, .int .i64 e.key.n, .int .i64 e.pl] 60))) := Lib.hid (Only.alloc _ _ _)
  have HFD : Hid (∀ W, Only (fun _ => False) w W → Calls Try.prog 34 #[.slice ao xs.length cap, .int .i64 e.pl] W fun r w' => r = .returned (.int .i64 (pos : Nat)) ∧ Only (fun _ => False) W w') := Lib.hid (fun W o => by
    rw [← hpos]
    exact find_any ao cap xs e.pl W (h.later o) hs hl)
  have HIN : Hid (∀ (W : World) (vb : Nat), Only (fun _ => False) w W → w.heap.size ≤ vb → Five vb e W → Calls Try.prog 36 #[.slice ao xs.length cap, .int .i64 (pos : Nat), .slice (some ⟨vb, 0, none⟩) 1 1] W (AnsRow ao ys W)) := Lib.hid (fun W vb o hb hv => hin W vb (h.later o) hv (fun g hg e => by have := (h.head g hg).2.2; omega))
  have HRB : Hid (∀ k, RowAt ao k → k < w.heap.size) := Lib.hid (fun k ⟨g, hg, e⟩ => by rw [e]; exact (h.head g hg).2.2)
  clear h hs hl hpos hin
  generalize xs.length = n at *
  have HK : Hid (∀ W, Only (fun _ => False) (w.alloc (.cells #[.int .i64 e.id, .int .i64 e.key.k, .string e.key.s, .int .i64 e.key.n, .int .i64 e.pl] 60)) W → W.cell? ⟨w.heap.size, 0, none⟩ = some (.int .i64 e.id) ∧ W.cell? ⟨w.heap.size, 1, none⟩ = some (.int .i64 e.key.k) ∧ W.cell? ⟨w.heap.size, 2, none⟩ = some (.string e.key.s) ∧ W.cell? ⟨w.heap.size, 3, none⟩ = some (.int .i64 e.key.n) ∧ W.cell? ⟨w.heap.size, 4, none⟩ = some (.int .i64 e.pl)) := Lib.hid (fun W o => (HE0.out.only o (fun e => e)).cells)
  have HK2 : Hid (∀ W, Only (RowAt ao) (w.alloc (.cells #[.int .i64 e.id, .int .i64 e.key.k, .string e.key.s, .int .i64 e.key.n, .int .i64 e.pl] 60)) W → W.cell? ⟨w.heap.size, 0, none⟩ = some (.int .i64 e.id) ∧ W.cell? ⟨w.heap.size, 1, none⟩ = some (.int .i64 e.key.k) ∧ W.cell? ⟨w.heap.size, 2, none⟩ = some (.string e.key.s) ∧ W.cell? ⟨w.heap.size, 3, none⟩ = some (.int .i64 e.key.n) ∧ W.cell? ⟨w.heap.size, 4, none⟩ = some (.int .i64 e.pl)) := Lib.hid (fun W o => (HE0.out.only o (fun x => by have := HRB.out _ x; omega)).cells)
  have HSZ : Hid ((w.alloc (.cells #[.int .i64 e.id, .int .i64 e.key.k, .string e.key.s, .int .i64 e.key.n, .int .i64 e.pl] 60)).heap.size = w.heap.size + 1) := Lib.hid (by simp)
  go_enter Try.func30, Try.ntmps30
  go_upto_region 1 with fail
  generalize w.alloc (.cells #[.int .i64 e.id, .int .i64 e.key.k, .string e.key.s, .int .i64 e.key.n, .int .i64 e.pl] 60) = E at *
  generalize hbx : w.heap.size = bx at *
  go_region_held3 (fun W => W.cell? ⟨bx, 0, none⟩ = some (.int .i64 e.id) ∧ W.cell? ⟨bx, 1, none⟩ = some (.int .i64 e.key.k) ∧ W.cell? ⟨bx, 2, none⟩ = some (.string e.key.s) ∧ W.cell? ⟨bx, 3, none⟩ = some (.int .i64 e.key.n) ∧ W.cell? ⟨bx, 4, none⟩ = some (.int .i64 e.pl)) (with_reducible first | exact HK2.out _ HOX.out | exact HK.out _ HOu.out | exact HK.out _ (HOu.out.same (Only.alloc _ _ _)) | exact HK.out _ (Only.drew _ _) | exact HK.out _ ((Only.alloc _ _ _).same (Only.drew _ _))) (first
    | (go_at_call 34; first
      | ((with_reducible refine (HFD.out E.drew (HO0.out.same (Only.drew _ _))).mono ?_); rintro r u ⟨rfl, hou⟩; have HOu : Hid (Only (fun _ => False) E u) := Lib.hid ((Only.drew _ _).same hou); clear hou)
      | ((with_reducible refine (HFD.out _ (HO0.out.same ((Only.alloc _ _ _).same (Only.drew _ _)))).mono ?_); rintro r u ⟨rfl, hou⟩; have HOu : Hid (Only (fun _ => False) E u) := Lib.hid (((Only.alloc _ _ _).same (Only.drew _ _)).same hou); have HVu : Hid (Five E.heap.size e u) := Lib.hid (Five.only (b := E.heap.size) (e := e) (heap_alloc_new E _) ((Only.drew _ _).same hou) (fun e => e)); clear hou))
    | (go_at_call 36; first
      | ((with_reducible refine (HIN.out _ _ (HO0.out.same HOu.out) (by rw [HSZ.out]; omega) HVu.out).mono ?_); intro r u2 hu2; have HA := Lib.hid (AnsRow.from hu2 (HO0.out.same HOu.out)); obtain ⟨ao2, cap2, rfl, _, ho2, _⟩ := hu2; have HOX : Hid (Only (RowAt ao) E u2) := Lib.hid ((HOu.out.no _).same ho2); clear ho2)
      | ((with_reducible refine (HIN.out _ _ (HO0.out.same (HOu.out.same (Only.alloc _ _ _))) (by have := HOu.out.size; have := HSZ.out; omega) (Five.new _ e)).mono ?_); intro r u2 hu2; have HA := Lib.hid (AnsRow.from hu2 (HO0.out.same (HOu.out.same (Only.alloc _ _ _)))); obtain ⟨ao2, cap2, rfl, _, ho2, _⟩ := hu2; have HOX : Hid (Only (RowAt ao) E u2) := Lib.hid (((HOu.out.same (Only.alloc _ _ _)).no _).same ho2); clear ho2)))
  all_goals
    go_wp2_with fail
    go_ret
    exact HA.out
end Go.Proofs.Ythgjedcelcanbaa.idx
