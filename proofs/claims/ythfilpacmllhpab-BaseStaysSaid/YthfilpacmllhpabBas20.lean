/- Clauses by generations: what is asked of lives: the calls that read the base. -/
import Derived.Test.YthfilpacmllhpabBas19
namespace Go.Proofs.Ythfilpacmllhpab.bases
set_option maxRecDepth 100000
open Go.RowKit Go.Proofs.Ythfilpacmllhpab.own Go.Lib Go.Maps Go.WideMaps Go.Proofs.Ythfilpacmllhpab.idx Go.Proofs.Ythfilpacmllhpab.terms
section
variable {b pm : Nat} {w0 w W w' : World}
theorem Made3.later (h : Made3 b w0 w) (o : Only (fun _ => False) w w') : Made3 b w0 w' := by
  obtain ⟨pm, s0, s1, e0, e1, p, B0, M0, B1, M1, Q, h⟩ := h
  exact ⟨pm, s0, s1, e0, e1, p, B0, M0, B1, M1, Q, { h with bs := h.bs.later o, h0 := h.h0.only o (fun _ _ _ e => e), h1 := h.h1.only o (fun _ _ _ e => e) }⟩
theorem Made3.only (h : Made3 b w0 w) : Only (fun _ => False) w0 w := by
  obtain ⟨pm, s0, s1, e0, e1, p, B0, M0, B1, M1, Q, h⟩ := h
  obtain ⟨so, sc, np, Dp, h1, h2, h3, h4⟩ := h.bs
  exact h4
abbrev k0V : Value := .agg #[.int .i64 0, .string ⟨#[]⟩, .int .i64 0]
theorem m_head (h : Made3 b w0 w) : Calls Try.prog 15 #[.pointer (some ⟨b, 0, none⟩), .string ⟨#[112]⟩, .int .i64 1, k0V, .int .i64 2] w fun e w' => e = .returned (.tuple #[.int .i64 1, .bool true]) ∧ Only (fun _ => False) w w' := by
  obtain ⟨pm, s0, s1, e0, e1, p, B0, M0, B1, M1, Q, h⟩ := h
  obtain ⟨so, sc, np, Dp, h1, h2, h3, h4⟩ := h.bs
  have hc := head_yes h1 (p := p) (by simp) 2
  rw [h.pn, h.L] at hc
  have hf : [e1, e0].find? (liveE [s0, s1] 2) = some e1 := by simp [liveE, liveS, h.i1, h.a1]
  rw [hf] at hc
  refine hc.mono ?_
  rintro e w' ⟨rfl, ho⟩
  exact ⟨by unfold ansE; simp [h.i1], ho⟩
theorem m_next (h : Made3 b w0 w) : Calls Try.prog 16 #[.pointer (some ⟨b, 0, none⟩), .int .i64 1, k0V, .int .i64 2] w fun e w' => e = .returned (.tuple #[.int .i64 0, .bool true]) ∧ Only (fun _ => False) w w' := by
  obtain ⟨pm, s0, s1, e0, e1, p, B0, M0, B1, M1, Q, h⟩ := h
  obtain ⟨so, sc, np, Dp, h1, h2, h3, h4⟩ := h.bs
  have hc := next_yes h1 (p := p) (by simp) (j := 0) (x := e1) (by rw [h.L]; rfl) 2
  rw [h.L, h.i1] at hc
  have hf : ([e1, e0].drop (0 + 1)).find? (liveE [s0, s1] 2) = some e0 := by simp [liveE, liveS, h.i0, h.a0]
  rw [hf] at hc
  refine hc.mono ?_
  rintro e w' ⟨rfl, ho⟩
  exact ⟨by unfold ansE; simp [h.i0], ho⟩
theorem m_next3 (h : Made3 b w0 w) : Calls Try.prog 16 #[.pointer (some ⟨b, 0, none⟩), .int .i64 1, k0V, .int .i64 3] w fun e w' => e = .returned (.tuple #[.int .i64 0, .bool false]) ∧ Only (fun _ => False) w w' := by
  obtain ⟨pm, s0, s1, e0, e1, p, B0, M0, B1, M1, Q, h⟩ := h
  obtain ⟨so, sc, np, Dp, h1, h2, h3, h4⟩ := h.bs
  have hc := next_yes h1 (p := p) (by simp) (j := 0) (x := e1) (by rw [h.L]; rfl) 3
  rw [h.L, h.i1] at hc
  have hf : ([e1, e0].drop (0 + 1)).find? (liveE [s0, s1] 3) = none := by simp [liveE, liveS, h.i0, h.a0]
  rw [hf] at hc
  refine hc.mono ?_
  rintro e w' ⟨rfl, ho⟩
  exact ⟨rfl, ho⟩
theorem m_clause (h : Made3 b w0 w) : Calls Try.prog 17 #[.pointer (some ⟨b, 0, none⟩), .int .i64 1] w fun e w' => ∃ a c, e = .returned (.tuple #[.agg #[.int .i64 4, .int .i64 0, .string ⟨#[112]⟩, .slice a 1 c, .slice none 0 0, .int .i64 0], .int .i64 0]) ∧ Row (fun k => w.heap.size ≤ k ∧ k < w'.heap.size) w' a [sInt 2] ∧ Only (fun _ => False) w w' := by
  obtain ⟨pm, s0, s1, e0, e1, p, B0, M0, B1, M1, Q, h⟩ := h
  obtain ⟨so, sc, np, Dp, h1, h2, h3, h4⟩ := h.bs
  have hc := clause_yes h1 (i := 1) (s := s1) rfl (tP 2 2) h.h1.hk h.h1.hg sane_tP (h.h1.r.mono (fun k hk => Nat.lt_of_lt_of_le hk.2 h.h1.m)) size_tP
  refine hc.mono ?_
  rintro e w' ⟨a, c, rfl, hr, ho⟩
  exact ⟨a, c, by rw [h.h1.vs]; rfl, hr, ho⟩
theorem m_at (h : Made3 b w0 w) : Calls Try.prog 19 #[.pointer (some ⟨b, 0, none⟩), .int .i64 0, .int .i64 0] w fun e w' => e = .returned (.tuple #[.agg #[.int .i64 25, .string ⟨#[]⟩, .int .i64 0, .int .i64 0, .int .i64 0], .bool true]) ∧ Only (fun _ => False) w w' := by
  obtain ⟨pm, s0, s1, e0, e1, p, B0, M0, B1, M1, Q, h⟩ := h
  obtain ⟨so, sc, np, Dp, h1, h2, h3, h4⟩ := h.bs
  exact at_yes h1 (i := 0) (s := s0) rfl h.h0.c h.h0.cl (j := 0) (x := iP) rfl
theorem m_gen (h : Made3 b w0 w) : Calls Try.prog 11 #[.pointer (some ⟨b, 0, none⟩)] w fun e w' => e = .returned (.int .i64 3) ∧ w' = w := by
  obtain ⟨pm, s0, s1, e0, e1, p, B0, M0, B1, M1, Q, h⟩ := h
  obtain ⟨so, sc, np, Dp, h1, h2, h3, h4⟩ := h.bs
  exact gen_any h1
theorem m_lives2 (h : Made3 b w0 w) : Calls Try.prog 20 #[.pointer (some ⟨b, 0, none⟩), .int .i64 0, .int .i64 2] w fun e w' => e = .returned (.bool true) ∧ w' = w := by
  obtain ⟨pm, s0, s1, e0, e1, p, B0, M0, B1, M1, Q, h⟩ := h
  obtain ⟨so, sc, np, Dp, h1, h2, h3, h4⟩ := h.bs
  have hc := lives_yes h1 (i := 0) (s := s0) rfl 2
  rw [show liveS 2 s0 = true by simp [liveS, h.a0]] at hc
  exact hc
theorem m_lives3 (h : Made3 b w0 w) : Calls Try.prog 20 #[.pointer (some ⟨b, 0, none⟩), .int .i64 0, .int .i64 3] w fun e w' => e = .returned (.bool false) ∧ w' = w := by
  obtain ⟨pm, s0, s1, e0, e1, p, B0, M0, B1, M1, Q, h⟩ := h
  obtain ⟨so, sc, np, Dp, h1, h2, h3, h4⟩ := h.bs
  have hc := lives_yes h1 (i := 0) (s := s0) rfl 3
  rw [show liveS 3 s0 = false by simp [liveS, h.a0]] at hc
  exact hc
theorem m_known (h : Made3 b w0 w) : Calls Try.prog 21 #[.pointer (some ⟨b, 0, none⟩), .string ⟨#[112]⟩, .int .i64 1] w fun e w' => e = .returned (.bool true) ∧ w' = w := by
  obtain ⟨pm, s0, s1, e0, e1, p, B0, M0, B1, M1, Q, h⟩ := h
  obtain ⟨so, sc, np, Dp, h1, h2, h3, h4⟩ := h.bs
  have hc := known_any h1 nmP nmP_ok
  rw [show (nsF nmP (List.map (fun p => (p.nm, p.pb)) [p])).isSome = true by simp [nsF, h.pn]] at hc
  exact hc
theorem m_known2 (h : Made3 b w0 w) : Calls Try.prog 21 #[.pointer (some ⟨b, 0, none⟩), .string ⟨#[112]⟩, .int .i64 2] w fun e w' => e = .returned (.bool false) ∧ w' = w := by
  obtain ⟨pm, s0, s1, e0, e1, p, B0, M0, B1, M1, Q, h⟩ := h
  obtain ⟨so, sc, np, Dp, h1, h2, h3, h4⟩ := h.bs
  have hc := known_any h1 ⟨nP, 2⟩ ⟨by decide +kernel, WalkArith.wf_i64 (by decide)⟩
  rw [show (nsF ⟨nP, 2⟩ (List.map (fun p => (p.nm, p.pb)) [p])).isSome = false by simp [nsF, h.pn]] at hc
  exact hc
theorem m_size (h : Made3 b w0 w) : Calls Try.prog 22 #[.pointer (some ⟨b, 0, none⟩), .int .i64 0] w fun e w' => e = .returned (.int .i64 1) ∧ w' = w := by
  obtain ⟨pm, s0, s1, e0, e1, p, B0, M0, B1, M1, Q, h⟩ := h
  obtain ⟨so, sc, np, Dp, h1, h2, h3, h4⟩ := h.bs
  have hc := size_yes h1 (i := 0) (s := s0) rfl
  rw [h.h0.cl] at hc
  exact hc
theorem m_preds (h : Made3 b w0 w) : Calls Try.prog 12 #[.pointer (some ⟨b, 0, none⟩)] w fun e w' => (∃ ao cap, e = .returned (.slice ao 1 cap)) ∧ Only (fun _ => False) w w' := by
  obtain ⟨pm, s0, s1, e0, e1, p, B0, M0, B1, M1, Q, h⟩ := h
  obtain ⟨so, sc, np, Dp, h1, h2, h3, h4⟩ := h.bs
  refine (preds_one h1).mono ?_
  rintro e w' ⟨ao, cap, rfl, _, ho⟩
  exact ⟨⟨ao, cap, rfl⟩, ho⟩
theorem m_slots (h : Made3 b w0 w) : Calls Try.prog 23 #[.pointer (some ⟨b, 0, none⟩)] w fun e w' => e = .returned (.int .i64 2) ∧ w' = w := by
  obtain ⟨pm, s0, s1, e0, e1, p, B0, M0, B1, M1, Q, h⟩ := h
  obtain ⟨so, sc, np, Dp, h1, h2, h3, h4⟩ := h.bs
  exact slots_any h1
end
end Go.Proofs.Ythfilpacmllhpab.bases
