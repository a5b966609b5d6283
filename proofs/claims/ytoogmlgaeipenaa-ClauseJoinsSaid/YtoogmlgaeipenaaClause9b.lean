/- Clauses: an integer is put behind a body's. -/
import Derived.Test.YtoogmlgaeipenaaClause9
namespace Go.Proofs.Ytoogmlgaeipenaa.terms
set_option maxRecDepth 100000
open Go.RowKit Go.Proofs.Ytoogmlgaeipenaa.own Go.Maps
theorem rowNew_block {α : Type} {enc : α → List Value} {s E B cap : Nat} (L : Go.Proofs.Ytoogmlgaeipenaa.own.Lies enc s) {ao : Option Addr} {xs : List α} {x : α} {w : World} (h : RowOf enc s E B ao cap (xs ++ [x]) w) : ∃ ab, ao = some ⟨ab, 0, none⟩ := by
  obtain ⟨g, hg, _⟩ := h.at L xs.length x (by simp)
  exact ⟨g, hg⟩
/-- The empty item behind a list: its cells. -/
theorem lastCells {B ab cap : Nat} {il : List It} {w : World} (h : ItsP B (some ⟨ab, 0, none⟩) cap (il ++ [default]) w) :
    (w.cell? ⟨ab, il.length * 4, none⟩ = some (.int .i64 0) ∧ w.cell? ⟨ab, il.length * 4 + 1, none⟩ = some (.int .i64 0) ∧ w.cell? ⟨ab, il.length * 4 + 2, none⟩ = some (.string ⟨#[]⟩) ∧ w.cell? ⟨ab, il.length * 4 + 3, none⟩ = some (.slice none 0 0)) ∧
    (w.frozen? ⟨ab, il.length * 4, none⟩ = false ∧ w.frozen? ⟨ab, il.length * 4 + 1, none⟩ = false ∧ w.frozen? ⟨ab, il.length * 4 + 2, none⟩ = false ∧ w.frozen? ⟨ab, il.length * 4 + 3, none⟩ = false) := by
  obtain ⟨g, hg, _, hc⟩ := h.at liesIt il.length default (by simp)
  cases hg
  exact ⟨⟨(hc 0 (by omega)).1, (hc 1 (by omega)).1, (hc 2 (by omega)).1, (hc 3 (by omega)).1⟩, (hc 0 (by omega)).2, (hc 1 (by omega)).2, (hc 2 (by omega)).2, (hc 3 (by omega)).2⟩
/-- A body's cell and a new item apart from it. -/
theorem addBody {B ab bb cap : Nat} {gl : List Gl} {il : List It} {go io : Option Addr} {gc ic : Nat} {w : World} (v : Value) (y : It) (h : ItsP B (some ⟨ab, 0, none⟩) cap (il ++ [default]) w) (hb : w.heap[bb]? = some (.cells #[.slice go gl.length gc, .slice io il.length ic] 75 (0, 0))) :
    ItsP B (some ⟨ab, 0, none⟩) cap (il ++ [default]) (w.setCell ⟨bb, 1, none⟩ v) ∧ (w.cell? ⟨bb, 1, none⟩ = some (.slice io il.length ic) ∧ w.frozen? ⟨bb, 1, none⟩ = false) ∧ (storedT w ab il.length y).cell? ⟨bb, 1, none⟩ = some (.slice io il.length ic) ∧ (storedT w ab il.length y).frozen? ⟨bb, 1, none⟩ = false := by
  have hne : ab ≠ bb := by
    intro e
    obtain ⟨_, cs, hk⟩ := row_kind h _ rfl
    have hk' : w.heap[ab]? = some (.cells cs 24 (0, 0)) := hk
    rw [e, hb] at hk'
    simp at hk'
  have r2 := (item_stored h (j := il.length) (by simp) y).2
  have hlt := lt_of_block hb
  have hcell : w.cell? ⟨bb, 1, none⟩ = some (.slice io il.length ic) := by rw [cell_of_blk hb]; rfl
  have hfr := free_of_blk hb 1
  exact ⟨h.only (Only.setCell (S := fun q => q = bb) (p := ⟨bb, 1, none⟩) w rfl v) (fun g hg e => hne (by cases hg; exact e)), ⟨hcell, hfr⟩, (r2.cell (p := ⟨bb, 1, none⟩) hlt (fun e => hne e.symm)).trans hcell, (r2.frozen (p := ⟨bb, 1, none⟩) hlt (fun e => hne e.symm)).trans hfr⟩
set_option maxHeartbeats 8000000 in
theorem add_int (P : Nat → Prop) (B bb : Nat) (S : Nat → Prop) (go io : Option Addr) (gc ic : Nat) (gl : List Gl) (il : List It) (t : T) (w : World) (ao : Option Addr) (cap : Nat) (h : BodyC P B bb S go gc io ic gl il w) (hl : Row P w ao t.l) (hs : t.Sane) (hk2 : t.k = 2) (hz : il.length ≤ 1000000) :
    Calls Try.prog 63 #[.pointer (some ⟨bb, 0, none⟩), tv t ao cap] w fun e w' => e = .returned (.tuple #[]) ∧ BodyTo P B bb S gl (il ++ [⟨t, ao, cap⟩]) w w' := by
  have HQ0 : Hid (Quad w.heap.size (.int .i64 t.k) (.int .i64 t.n) (.string t.s) (.slice ao t.l.length cap) (tBox w t ao cap)) := Lib.hid (heap_alloc_new w _)
  have HO0 : Hid (Only (fun _ => False) w (tBox w t ao cap)) := Lib.hid (Only.alloc _ _ _)
  have H1 := Lib.hid (fun W => goesBy_any t nComma 2 ao cap W)
  rw [goes_not (by omega) (by omega)] at H1
  have hk : (t.k == 2) = true := by simpa using hk2
  have HB := Lib.hid h
  have HG : Hid (t.Sane ∧ Row P w ao t.l) := Lib.hid ⟨hs, hl⟩
  obtain ⟨i0, hi0, hz0, hz1, hz2⟩ := info_parts infoT
  show Calls Try.prog 63 #[.pointer (some ⟨bb, 0, none⟩), .agg #[.int .i64 t.k, .int .i64 t.n, .string t.s, .slice ao t.l.length cap]] w _
  clear h hk2 hl hs
  go_enter Try.func63, Try.ntmps63
  go_wp2_with fail
  refine (H1.out _).mono ?_
  rintro e w2 ⟨rfl, ho2⟩
  have HO2 := Lib.hid (HO0.out.same ho2)
  have HQ2 := Lib.hid (HQ0.out.only ho2 (fun e => e))
  clear ho2
  have HCC : Hid (∀ W, Only (fun _ => False) w2 W → W.cell? ⟨w.heap.size, 0, none⟩ = some (.int .i64 t.k) ∧ W.cell? ⟨w.heap.size, 1, none⟩ = some (.int .i64 t.n) ∧ W.cell? ⟨w.heap.size, 2, none⟩ = some (.string t.s) ∧ W.cell? ⟨w.heap.size, 3, none⟩ = some (.slice ao t.l.length cap) ∧ W.cell? ⟨bb, 1, none⟩ = some (.slice io il.length ic)) := Lib.hid (fun W ho => by
    obtain ⟨d0, d1, d2, d3⟩ := (HQ2.out.only ho (fun e => e)).cells
    exact ⟨d0, d1, d2, d3, (HB.out.later (HO2.out.same ho) (fun _ e => e.elim)).cells.2.1⟩)
  obtain ⟨c0, c1, c2, c3, c4⟩ := HCC.out _ (Only.refl _ _)
  clear c1 c2 c3 c4
  go_wp2_with fail
  clear c0
  have HRW : Hid (∀ W, Only (fun _ => False) w2 W → ItsP B io ic il W) := Lib.hid (fun W ho => (HB.out.later (HO2.out.same ho) (fun _ e => e.elim)).rowI)
  have HBS : Hid (∀ W, Only (fun _ => False) w2 W → B ≤ W.heap.size) := Lib.hid (fun W ho => by have h1 := (HB.out.low _ HB.out.hasB); have h2 := HO2.out.size; have h3 := ho.size; omega)
  have HD2 : Hid (Only (fun _ => False) w2 w2.drew) := Lib.hid (Only.drew _ _)
  have HA2 : Hid (Only (fun _ => False) w2 (w2.alloc (.cells #[.int .i64 0, .int .i64 0, .string ⟨#[]⟩, .slice none 0 0] 24)).drew) := Lib.hid ((Only.alloc _ _ _).same (Only.drew _ _))
  obtain ⟨c0, c1, c2, c3, c4⟩ := HCC.out _ HD2.out
  obtain ⟨d0, d1, d2, d3, d4⟩ := HCC.out _ HA2.out
  have hi1 : (0 : Int) ≤ (il.length : Int) := by omega
  have hi2 : (il.length : Int) < (il.length : Int) + 1 := by omega
  generalize hbx : w.heap.size = bx at *
  go_region_law (
     (refine step_append_one liesIt (by rfl) (.tmp 26) (.tmp 29) 22 (by rfl) B 24 i0 _ 56 Try.underlying22 hi0 hz0 hz1 hz2 rfl (by omega) _ io ic il default [.int .i64 0, .int .i64 0, .string ⟨#[]⟩, .slice none 0 0] rfl (by rfl) (HRW.out _ (by first | exact Only.alloc _ _ _ | exact (Only.drew _ _).same (Only.alloc _ _ _) | exact (Only.alloc _ _ _).same (Only.drew _ _))) w2.heap.size 24 (by first | exact heap_alloc_new _ _ | exact heap_alloc_new w2 _) (by rfl) (by omega) (HBS.out _ (by first | exact Only.alloc _ _ _ | exact (Only.drew _ _).same (Only.alloc _ _ _) | exact (Only.alloc _ _ _).same (Only.drew _ _))) ?_
      intro io' ic' w6 hrow6 ho6 hnew6
      obtain ⟨ab, rfl⟩ : ∃ ab, io' = some ⟨ab, 0, none⟩ := rowNew_block liesIt hrow6
      obtain ⟨w7, hw7⟩ : ∃ w7, w7 = (((((w6.setCell ⟨ab, il.length * 4, none⟩ (.int .i64 t.k)).setCell ⟨ab, il.length * 4 + 1, none⟩ (.int .i64 t.n)).setCell ⟨ab, il.length * 4 + 2, none⟩ (.string t.s)).setCell ⟨ab, il.length * 4 + 3, none⟩ (.slice ao t.l.length cap)).setCell ⟨bb, 1, none⟩ (.slice (some ⟨ab, 0, none⟩) (il.length + 1) ic')) := ⟨_, rfl⟩
      have HW := Lib.hid (HB.out.whole (y := ⟨t, ao, cap⟩) (w7 := w7) (HO2.out.same (by first | exact Only.alloc _ _ _ | exact (Only.drew _ _).same (Only.alloc _ _ _) | exact (Only.alloc _ _ _).same (Only.drew _ _))) hrow6 ho6 hnew6 HG.out (fun a h1 h2 => by cases h1; exact .inr hw7))
      have HW7 := Lib.hid hw7
      clear hw7
      obtain ⟨w8, hw8⟩ : ∃ w8, w8 = (((((w6.setCell ⟨bb, 1, none⟩ (.slice (some ⟨ab, 0, none⟩) (il.length + 1) ic')).setCell ⟨ab, il.length * 4, none⟩ (.int .i64 t.k)).setCell ⟨ab, il.length * 4 + 1, none⟩ (.int .i64 t.n)).setCell ⟨ab, il.length * 4 + 2, none⟩ (.string t.s)).setCell ⟨ab, il.length * 4 + 3, none⟩ (.slice ao t.l.length cap)) := ⟨_, rfl⟩
      have HV := Lib.hid (HB.out.whole (y := ⟨t, ao, cap⟩) (w7 := w8) (HO2.out.same (by first | exact Only.alloc _ _ _ | exact (Only.drew _ _).same (Only.alloc _ _ _) | exact (Only.alloc _ _ _).same (Only.drew _ _))) hrow6 ho6 hnew6 HG.out (fun a h1 h2 => by cases h1; exact .inl hw8))
      have HW8 := Lib.hid hw8
      clear hw8
      have hblk6 := BodyC.blkI (HB.out.later (HO2.out.same (by first | exact Only.alloc _ _ _ | exact (Only.drew _ _).same (Only.alloc _ _ _) | exact (Only.alloc _ _ _).same (Only.drew _ _))) (fun _ e => e.elim)) ho6
      obtain ⟨hrow7, ⟨q0, q1⟩, q2, q3⟩ := addBody (.slice (some ⟨ab, 0, none⟩) (il.length + 1) ic') ⟨t, ao, cap⟩ hrow6 hblk6
      obtain ⟨⟨g0, g1, g2, g3⟩, f0, f1, f2, f3⟩ := lastCells hrow6
      obtain ⟨⟨g4, g5, g6, g7⟩, f4, f5, f6, f7⟩ := lastCells hrow7
      clear hrow6 ho6 hnew6 hrow7 hblk6))
  all_goals
    go_wp2_with fail
    go_end0
    first
      | (rw [← HW7.out]; exact ⟨rfl, HW.out⟩)
      | (rw [← HW8.out]; exact ⟨rfl, HV.out⟩)
end Go.Proofs.Ytoogmlgaeipenaa.terms
