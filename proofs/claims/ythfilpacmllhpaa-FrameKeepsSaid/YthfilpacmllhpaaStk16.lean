/- Environments and choices: words, and environments, that are the same. -/
import Derived.Test.YthfilpacmllhpaaStk15
namespace Go.Proofs.Ythfilpacmllhpaa.stk
set_option maxRecDepth 100000
open Go.RowKit Go.Proofs.Ythfilpacmllhpaa.own
section
variable {w w' : World}
theorem words_cell {B cap : Nat} {ao : Option Addr} {xs : List Int} (h : RowOf encW 1 35 B ao cap xs w) {i : Nat} (hi : i < xs.length) : ∃ g, ao = some ⟨g, 0, none⟩ ∧ w.cell? ⟨g, i, none⟩ = some (.int .u64 (xs.getD i 0)) := by
  obtain ⟨g, hg, _, hc⟩ := h.at liesW i xs[i] (List.getElem?_eq_getElem hi)
  have := (hc 0 (by decide)).1
  simp only [Nat.mul_one, Nat.add_zero, encW, List.getElem?_cons_zero] at this
  exact ⟨g, hg, by rw [this]; simp [List.getD, List.getElem?_eq_getElem hi]⟩
theorem same_words (xs : List Int) (a1 a2 : Option Addr) (c1 c2 B1 B2 : Nat) (w : World) (h1 : RowOf encW 1 35 B1 a1 c1 xs w) (h2 : RowOf encW 1 35 B2 a2 c2 xs w) (hl : xs.length ≤ 1048576) :
    Calls Try.prog 53 #[.slice a1 xs.length c1, .slice a2 xs.length c2] w fun e w' => e = .returned (.bool true) ∧ ∃ m, w' = w.drewN m := by
  have H1 : Hid (∀ W, Only (fun _ => False) w W → ∀ i, i < xs.length → ∃ g, a1 = some ⟨g, 0, none⟩ ∧ W.cell? ⟨g, i, none⟩ = some (.int .u64 (xs.getD i 0))) := Lib.hid (fun W o i hi => words_cell (h1.only o (fun _ _ e => e)) hi)
  have H2 : Hid (∀ W, Only (fun _ => False) w W → ∀ i, i < xs.length → ∃ g, a2 = some ⟨g, 0, none⟩ ∧ W.cell? ⟨g, i, none⟩ = some (.int .u64 (xs.getD i 0))) := Lib.hid (fun W o i hi => words_cell (h2.only o (fun _ _ e => e)) hi)
  clear h1 h2
  go_enter Try.func53, Try.ntmps53
  go_wp2_with fail
  go_loopw [5] (fun i wr => ∃ k m : Nat, i = .int .i64 k ∧ k ≤ xs.length ∧ Hid (wr = w.drewN m)) (fun i _ => xs.length - (intOf i).toNat)
  case atStart => exact ⟨0, 0, rfl, Nat.zero_le _, Lib.hid rfl⟩
  case round =>
    obtain ⟨k, m, rfl, hk, hW⟩ := hrel
    have ho : Only (fun _ => False) w wr := by rw [hW.out]; exact Only.drewN _ _ _
    by_cases hlt : k < xs.length
    · obtain ⟨g1, e1, d1⟩ := H1.out wr ho k hlt
      obtain ⟨g2, e2, d2⟩ := H2.out wr ho k hlt
      generalize xs.getD k 0 = x at *
      subst e1 e2
      go_wp2_with fail
      go_quiet (fail)
      have HW2 : Hid (wr.drewN nq = w.drewN (m + nq)) := Lib.hid (by rw [hW.out]; simp [World.drewN, Nat.add_assoc])
      clear ho
      go_wp2_with fail
      go_roundw
      case rel => exact ⟨k + 1, m + nq, by go_num, by omega, HW2⟩
      case measure => simp [intOf]; omega
    · obtain rfl : k = xs.length := by omega
      clear ho
      go_wp2_with fail
      go_ret
      exact ⟨rfl, m, hW.out⟩
theorem told_cell {B cap : Nat} {ao : Option Addr} {gs : List Gr} (h : RowOf encG 4 87 B ao cap gs w) {i : Nat} {x : Gr} (hi : gs[i]? = some x) : ∃ g, ao = some ⟨g, 0, none⟩ ∧ w.cell? ⟨g, i * 4, none⟩ = some (.int .i64 x.f.base) ∧ w.cell? ⟨g, i * 4 + 1, none⟩ = some (.slice x.so x.f.ys.length x.sc) ∧ w.cell? ⟨g, i * 4 + 2, none⟩ = some (.int .i64 x.f.cl) ∧ w.cell? ⟨g, i * 4 + 3, none⟩ = some (.int .i64 x.f.at') := by
  obtain ⟨g, hg, _, hc⟩ := h.at liesG i x hi
  exact ⟨g, hg, (hc 0 (by decide)).1, (hc 1 (by decide)).1, (hc 2 (by decide)).1, (hc 3 (by decide)).1⟩
set_option maxHeartbeats 4000000 in
theorem same_frames (gs hs : List Gr) (a1 a2 : Option Addr) (c1 c2 B1 B2 : Nat) (w : World) (h1 : Told B1 a1 c1 gs w) (h2 : Told B2 a2 c2 hs w) (he : gs.map (·.f) = hs.map (·.f)) (hl : gs.length ≤ 1048576) (hy : ∀ g ∈ gs, g.f.ys.length ≤ 64) :
    Calls Try.prog 19 #[.slice a1 gs.length c1, .slice a2 gs.length c2] w fun e w' => e = .returned (.bool true) ∧ Only (fun _ => False) w w' := by
  have hlen : hs.length = gs.length := by rw [← List.length_map (f := fun g : Gr => g.f), ← he, List.length_map]
  have H1 : Hid (∀ W, Only (fun _ => False) w W → ∀ i, i < gs.length → ∃ (f : Fr) (o1 o2 : Option Addr) (p1 p2 g1 g2 : Nat), a1 = some ⟨g1, 0, none⟩ ∧ a2 = some ⟨g2, 0, none⟩ ∧ f.ys.length ≤ 64 ∧
      (W.cell? ⟨g1, i * 4, none⟩ = some (.int .i64 f.base) ∧ W.cell? ⟨g1, i * 4 + 1, none⟩ = some (.slice o1 f.ys.length p1) ∧ W.cell? ⟨g1, i * 4 + 2, none⟩ = some (.int .i64 f.cl) ∧ W.cell? ⟨g1, i * 4 + 3, none⟩ = some (.int .i64 f.at')) ∧
      (W.cell? ⟨g2, i * 4, none⟩ = some (.int .i64 f.base) ∧ W.cell? ⟨g2, i * 4 + 1, none⟩ = some (.slice o2 f.ys.length p2) ∧ W.cell? ⟨g2, i * 4 + 2, none⟩ = some (.int .i64 f.cl) ∧ W.cell? ⟨g2, i * 4 + 3, none⟩ = some (.int .i64 f.at')) ∧
      RowOf encW 1 35 B1 o1 p1 f.ys W ∧ RowOf encW 1 35 B2 o2 p2 f.ys W) := Lib.hid (fun W o i hi => by
    have hg : gs[i]? = some gs[i] := List.getElem?_eq_getElem hi
    have hh : hs[i]? = some (hs[i]'(by omega)) := List.getElem?_eq_getElem (by omega)
    have hf : (hs[i]'(by omega)).f = gs[i].f := by
      have e := congrArg (fun l => l[i]?) he
      simp only [List.getElem?_map, hg, hh, Option.map_some] at e
      exact (Option.some.inj e).symm
    obtain ⟨g1, q1, r1⟩ := told_cell (h1.row.only o (fun _ _ e => e)) hg
    obtain ⟨g2, q2, r2⟩ := told_cell (h2.row.only o (fun _ _ e => e)) hh
    rw [hf] at r2
    have y1 := (h1.ys _ (List.getElem_mem hi)).only o (fun _ _ e => e)
    have y2 := (h2.ys _ (List.getElem_mem (by omega : i < hs.length))).only o (fun _ _ e => e)
    rw [hf] at y2
    exact ⟨gs[i].f, gs[i].so, (hs[i]'(by omega)).so, gs[i].sc, (hs[i]'(by omega)).sc, g1, g2, q1, q2, hy _ (List.getElem_mem hi), r1, r2, y1, y2⟩)
  clear h1 h2 he hy hlen
  generalize gs.length = n at *
  go_enter Try.func19, Try.ntmps19
  go_wp2_with fail
  go_loopw [5] (fun i wr => ∃ k : Nat, i = .int .i64 k ∧ k ≤ n ∧ Hid (Only (fun _ => False) w wr)) (fun i _ => n - (intOf i).toNat)
  case atStart => exact ⟨0, rfl, Nat.zero_le _, Lib.hid (Only.refl _ _)⟩
  case round =>
    obtain ⟨k, rfl, hk, hW⟩ := hrel
    by_cases hlt : k < n
    · obtain ⟨f, o1, o2, p1, p2, g1, g2, e1, e2, h64, ⟨d0, d1, d2, d3⟩, ⟨q0, q1, q2, q3⟩, r1, r2⟩ := H1.out wr hW.out k hlt
      have HSW : Hid (∀ W, Only (fun _ => False) wr W → Calls Try.prog 53 #[.slice o1 f.ys.length p1, .slice o2 f.ys.length p2] W fun e w' => e = .returned (.bool true) ∧ ∃ m, w' = W.drewN m) := Lib.hid (fun W o => same_words f.ys o1 o2 p1 p2 B1 B2 W (r1.only o (fun _ _ e => e)) (r2.only o (fun _ _ e => e)) (by omega))
      subst e1 e2
      clear r1 r2
      generalize f.ys.length = yl at *
      generalize f.base = fb at *
      generalize f.cl = fc at *
      generalize f.at' = fa at *
      go_wp2_with fail
      go_quiet ((go_at_call 53; exact Calls.quiet_of (HSW.out _ (Only.drewN _ _ _))))
      have HW2 : Hid (Only (fun _ => False) w (wr.drewN nq)) := Lib.hid (hW.out.same (Only.drewN _ _ _))
      generalize wr.drewN nq = W2 at *
      go_wp2_with fail
      go_roundw
      case rel => exact ⟨k + 1, by go_num, by omega, HW2⟩
      case measure => simp [intOf]; omega
    · obtain rfl : k = n := by omega
      go_wp2_with fail
      go_ret
      exact ⟨rfl, hW.out⟩
end
end Go.Proofs.Ythfilpacmllhpaa.stk
