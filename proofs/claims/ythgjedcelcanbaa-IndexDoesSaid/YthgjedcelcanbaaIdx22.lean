
/- Selection by keys: what lives asks. -/
import Derived.Test.YthgjedcelcanbaaIdx21
namespace Go.Proofs.Ythgjedcelcanbaa.idx
set_option maxRecDepth 100000
open Go.RowKit Go.Proofs.Ythgjedcelcanbaa.own Go.Lib Go.Maps Go.WideMaps
def kf : Ky := ⟨3, ⟨#[102]⟩, 1⟩
def kb : Ky := ⟨2, ⟨#[98]⟩, 0⟩
theorem kf_ok : kf.Ok := ⟨(by show (Lit.int .i64 3).wf = true; decide), (by show (Lit.int .i64 1).wf = true; decide), (by show 1 ≤ maxLen; decide)⟩
theorem kb_ok : kb.Ok := ⟨(by show (Lit.int .i64 2).wf = true; decide), (by show (Lit.int .i64 0).wf = true; decide), (by show 1 ≤ maxLen; decide)⟩
def L1 : List En := [⟨4, kf, 0⟩]
def L2 : List En := [⟨4, kf, 0⟩, ⟨7, zK, 1⟩]
def L3 : List En := [⟨9, kb, -1⟩, ⟨4, kf, 0⟩, ⟨7, zK, 1⟩]
section
variable {B b : Nat} {w : World}
theorem live_add1 (h : TabB B b 0 [] (-1) 0 w) : Calls Try.prog 14 #[.pointer (some ⟨b, 0, none⟩), .int .i64 4, .agg #[.int .i64 3, .string ⟨#[102]⟩, .int .i64 1], .bool false] w fun e w' => e = .returned (.int .i64 0) ∧ TabB B b 1 L1 (-1) 1 w' ∧ Only (Ixy B w) w w' := by
  refine (add_tab h (by omega) 4 (by show (Lit.int .i64 4).wf = true; decide) kf kf_ok false rfl (by decide)).mono ?_
  rintro e w1 ⟨h1, h2, h3⟩
  exact ⟨h1, h2, h3⟩
theorem live_add2 (h : TabB B b 1 L1 (-1) 1 w) : Calls Try.prog 14 #[.pointer (some ⟨b, 0, none⟩), .int .i64 7, .agg #[.int .i64 0, .string ⟨#[]⟩, .int .i64 0], .bool false] w fun e w' => e = .returned (.int .i64 0) ∧ TabB B b 2 L2 (-1) 2 w' ∧ Only (Ixy B w) w w' := by
  refine (add_tab h (by omega) 7 (by show (Lit.int .i64 7).wf = true; decide) zK zK_ok false rfl (by decide)).mono ?_
  rintro e w1 ⟨h1, h2, h3⟩
  exact ⟨h1, h2, h3⟩
theorem live_add3 (h : TabB B b 2 L2 (-1) 2 w) : Calls Try.prog 14 #[.pointer (some ⟨b, 0, none⟩), .int .i64 9, .agg #[.int .i64 2, .string ⟨#[98]⟩, .int .i64 0], .bool true] w fun e w' => e = .returned (.int .i64 0) ∧ TabB B b 3 L3 (-2) 2 w' ∧ Only (Ixy B w) w w' := by
  refine (add_tab h (by omega) 9 (by show (Lit.int .i64 9).wf = true; decide) kb kb_ok true rfl (by decide)).mono ?_
  rintro e w1 ⟨h1, h2, h3⟩
  exact ⟨h1, h2, h3⟩
theorem live_head (h : TabB B b 3 L3 (-2) 2 w) : Calls Try.prog 15 #[.pointer (some ⟨b, 0, none⟩), .agg #[.int .i64 3, .string ⟨#[102]⟩, .int .i64 1]] w fun e w' => e = .returned (.tuple #[.int .i64 4, .bool true]) ∧ Only (fun _ => False) w w' := head_tab h kf kf_ok
theorem live_next (h : TabB B b 3 L3 (-2) 2 w) : Calls Try.prog 16 #[.pointer (some ⟨b, 0, none⟩), .int .i64 4, .agg #[.int .i64 3, .string ⟨#[102]⟩, .int .i64 1]] w fun e w' => e = .returned (.tuple #[.int .i64 7, .bool true]) ∧ Only (fun _ => False) w w' := next_tab h 4 (by show (Lit.int .i64 4).wf = true; decide) kf kf_ok
theorem live_next2 (h : TabB B b 3 L3 (-2) 2 w) : Calls Try.prog 16 #[.pointer (some ⟨b, 0, none⟩), .int .i64 7, .agg #[.int .i64 2, .string ⟨#[98]⟩, .int .i64 0]] w fun e w' => e = .returned (.tuple #[.int .i64 0, .bool false]) ∧ Only (fun _ => False) w w' := next_tab h 7 (by show (Lit.int .i64 7).wf = true; decide) kb kb_ok
theorem live_len (h : TabB B b 3 L3 (-2) 2 w) : Calls Try.prog 9 #[.pointer (some ⟨b, 0, none⟩)] w fun e w' => e = .returned (.int .i64 3) ∧ w' = w := len_tab h
theorem live_all (h : TabB B b 3 L3 (-2) 2 w) : Calls Try.prog 11 #[.pointer (some ⟨b, 0, none⟩), .agg #[.int .i64 2, .string ⟨#[98]⟩, .int .i64 0]] w fun e w' => ∃ a c, e = .returned (.slice a 2 c) ∧ NumsAt w' a [9, 7] ∧ Only (fun _ => False) w w' := by
  refine (all_tab h kb kb_ok).mono ?_
  rintro e w1 ⟨a, c, h1, h2, h3⟩
  exact ⟨a, c, h1, NumsAt.row h2, h3⟩
theorem live_drop (h : TabB B b 3 L3 (-2) 2 w) : Calls Try.prog 13 #[.pointer (some ⟨b, 0, none⟩), .int .i64 5] w fun e w' => e = .returned (.int .i64 4) ∧ Only (fun _ => False) w w' := drop_no h 5 (by show (Lit.int .i64 5).wf = true; decide) rfl
theorem live_same {a a' : Option Addr} {c c' : Nat} (hx : NumsAt w a [9, 7]) (hy : NumsAt w a' [9, 7]) : Calls Try.prog 10 #[.slice a 2 c, .slice a' 2 c'] w fun e w' => e = .returned (.bool true) ∧ Only (fun _ => False) w w' := same_ints [9, 7] [9, 7] a a' c c' w hx hy (by decide) (by decide)
theorem live_meet (w : World) : Calls Try.prog 17 #[.agg #[.int .i64 3, .string ⟨#[102]⟩, .int .i64 1], .agg #[.int .i64 3, .string ⟨#[102]⟩, .int .i64 1]] w fun e w' => e = .returned (.bool true) ∧ Only (fun _ => False) w w' := meet_any kf kf w
theorem live_apart (w : World) : Calls Try.prog 17 #[.agg #[.int .i64 3, .string ⟨#[102]⟩, .int .i64 1], .agg #[.int .i64 2, .string ⟨#[98]⟩, .int .i64 0]] w fun e w' => e = .returned (.bool false) ∧ Only (fun _ => False) w w' := meet_any kf kb w
theorem live_key (w : World) : Calls Try.prog 18 #[.agg #[.int .i64 3, .int .i64 0, .string ⟨#[98]⟩, .slice none 0 0]] w fun e w' => e = .returned (.agg #[.int .i64 2, .string ⟨#[98]⟩, .int .i64 0]) ∧ Only (fun _ => False) w w' := keyOf_any 3 0 ⟨#[98]⟩ none 0 0 w
theorem live_first (w : World) : Calls Try.prog 19 #[.agg #[.int .i64 0, .int .i64 0, .string ⟨#[]⟩, .slice none 0 0]] w fun e w' => e = .returned (.agg #[.int .i64 0, .string ⟨#[]⟩, .int .i64 0]) ∧ Only (fun _ => False) w w' := firstOf_any (.mk 0 0 ⟨#[]⟩ []) none 0 w (Go.Proofs.Ythgjedcelcanbaa.terms.Row.nil _ _ _)
end
theorem nums_new (w : World) : NumsAt (w.alloc (.cells #[.int .i64 9, .int .i64 7] 3)) (some ⟨w.heap.size, 0, none⟩) [9, 7] := fun i x hx => by
  refine ⟨w.heap.size, 0, rfl, by simp, ?_⟩
  have hb : (w.alloc (.cells #[.int .i64 9, .int .i64 7] 3)).heap[w.heap.size]? = some (.cells #[.int .i64 9, .int .i64 7] 3 (0, 0)) := heap_alloc_new _ _
  match i, hx with
  | 0, hx => rw [cell_of_blk hb]; simp at hx; subst hx; rfl
  | 1, hx => rw [cell_of_blk hb]; simp at hx; subst hx; rfl
  | _ + 2, hx => simp at hx
/-- A table, and the two keys' boxes, made since w. -/
structure Lv (B b bf bb N : Nat) (L : List En) (lo hi : Int) (w W : World) : Prop where
  t : TabB B b N L lo hi W
  f : Three bf kf W
  g : Three bb kb W
  o : Only (fun k => B ≤ k) w W
section
variable {B b bf bb N : Nat} {L : List En} {lo hi : Int} {w W W' : World}
theorem Lv.later (h : Lv B b bf bb N L lo hi w W) (o : Only (fun _ => False) W W') : Lv B b bf bb N L lo hi w W' :=
  ⟨h.t.later o, h.f.only o (fun e => e), h.g.only o (fun e => e), h.o.same (o.mono (fun _ _ e => e.elim))⟩
theorem Lv.add {N' : Nat} {L' : List En} {lo' hi' : Int} (h : Lv B b bf bb N L lo hi w W) (t : TabB B b N' L' lo' hi' W') (o : Only (Ixy B W) W W') : Lv B b bf bb N' L' lo' hi' w W' :=
  ⟨t, h.f.ixy o, h.g.ixy o, h.o.same (o.mono (fun _ _ e => e.1))⟩
theorem Lv.cells (h : Lv B b bf bb N L lo hi w W) : W.cell? ⟨bf, 0, none⟩ = some (.int .i64 3) ∧ W.cell? ⟨bf, 1, none⟩ = some (.string ⟨#[102]⟩) ∧ W.cell? ⟨bf, 2, none⟩ = some (.int .i64 1) ∧ W.cell? ⟨bb, 0, none⟩ = some (.int .i64 2) ∧ W.cell? ⟨bb, 1, none⟩ = some (.string ⟨#[98]⟩) ∧ W.cell? ⟨bb, 2, none⟩ = some (.int .i64 0) := by
  obtain ⟨x0, x1, x2⟩ := h.f.cells
  obtain ⟨y0, y1, y2⟩ := h.g.cells
  exact ⟨x0, x1, x2, y0, y1, y2⟩
end
end Go.Proofs.Ythgjedcelcanbaa.idx
