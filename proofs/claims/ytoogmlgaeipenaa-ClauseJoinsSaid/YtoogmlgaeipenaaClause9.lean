/- Clauses: the goals of a term are put behind a body's. -/
import Derived.Test.YtoogmlgaeipenaaClause8
namespace Go.Proofs.Ytoogmlgaeipenaa.terms
set_option maxRecDepth 100000
open Go.RowKit Go.Proofs.Ytoogmlgaeipenaa.own Go.Maps
set_option maxHeartbeats 4000000 in
theorem add_true (P : Nat → Prop) (B bb : Nat) (S : Nat → Prop) (go io : Option Addr) (gc ic : Nat) (gl : List Gl) (il : List It) (t : T) (w : World) (ao : Option Addr) (cap : Nat) (h : BodyC P B bb S go gc io ic gl il w) (hc : goesB t nComma 2 = false) (ht : goesB t nTrue 0 = true) :
    Calls Try.prog 63 #[.pointer (some ⟨bb, 0, none⟩), tv t ao cap] w fun e w' => e = .returned (.tuple #[]) ∧ BodyTo P B bb S gl il w w' := by
  have HQ0 : Hid (Quad w.heap.size (.int .i64 t.k) (.int .i64 t.n) (.string t.s) (.slice ao t.l.length cap) (tBox w t ao cap)) := Lib.hid (heap_alloc_new w _)
  have HO0 : Hid (Only (fun _ => False) w (tBox w t ao cap)) := Lib.hid (Only.alloc _ _ _)
  have H1 := Lib.hid (fun W => goesBy_any t nComma 2 ao cap W)
  have H2 := Lib.hid (fun W => goesBy_any t nTrue 0 ao cap W)
  rw [hc] at H1
  rw [ht] at H2
  have hk : (t.k == 2) = false := by
    rcases (goes_parts ht).1 with e | e <;> rw [e] <;> rfl
  have HB := Lib.hid h
  show Calls Try.prog 63 #[.pointer (some ⟨bb, 0, none⟩), .agg #[.int .i64 t.k, .int .i64 t.n, .string t.s, .slice ao t.l.length cap]] w _
  clear h hc ht
  go_enter Try.func63, Try.ntmps63
  go_wp2_with fail
  refine (H1.out _).mono ?_
  rintro e w1 ⟨rfl, ho1⟩
  have HQ1 := Lib.hid (HQ0.out.only ho1 (fun e => e))
  have HO1 := Lib.hid (HO0.out.same ho1)
  clear ho1
  obtain ⟨c0, c1, c2, c3⟩ := HQ1.out.cells
  go_wp2_with fail
  refine (H2.out _).mono ?_
  rintro e w2 ⟨rfl, ho2⟩
  have HO2 := Lib.hid (HO1.out.same ho2)
  clear ho2 c0 c1 c2 c3
  go_wp2_with fail
  go_end0
  exact ⟨rfl, S, go, gc, io, ic, HB.out.later HO2.out (fun _ e => e.elim), HO2.out.no _, fun k hk => .inl hk⟩
set_option maxHeartbeats 8000000 in
theorem add_goal (P : Nat → Prop) (B bb : Nat) (S : Nat → Prop) (go io : Option Addr) (gc ic : Nat) (gl : List Gl) (il : List It) (t : T) (w : World) (ao : Option Addr) (cap : Nat) (h : BodyC P B bb S go gc io ic gl il w) (hl : Row P w ao t.l) (hs : t.Sane) (hc : goesB t nComma 2 = false) (ht : goesB t nTrue 0 = false) (hk2 : t.k ≠ 2) (hz : gl.length ≤ 1000000) :
    Calls Try.prog 63 #[.pointer (some ⟨bb, 0, none⟩), tv t ao cap] w fun e w' => e = .returned (.tuple #[]) ∧ BodyTo P B bb S (gl ++ [⟨kindF t, ⟨t, ao, cap⟩⟩]) il w w' := by
  have HQ0 : Hid (Quad w.heap.size (.int .i64 t.k) (.int .i64 t.n) (.string t.s) (.slice ao t.l.length cap) (tBox w t ao cap)) := Lib.hid (heap_alloc_new w _)
  have HO0 : Hid (Only (fun _ => False) w (tBox w t ao cap)) := Lib.hid (Only.alloc _ _ _)
  have H1 := Lib.hid (fun W => goesBy_any t nComma 2 ao cap W)
  have H2 := Lib.hid (fun W => goesBy_any t nTrue 0 ao cap W)
  have H3 := Lib.hid (fun W => kind_any t ao cap W)
  rw [hc] at H1
  rw [ht] at H2
  have hk : (t.k == 2) = false := by simpa using hk2
  have HB := Lib.hid h
  have HG : Hid (t.Sane ∧ Row P w ao t.l) := Lib.hid ⟨hs, hl⟩
  obtain ⟨i0, hi0, hz0, hz1, hz2⟩ := info_parts infoG
  show Calls Try.prog 63 #[.pointer (some ⟨bb, 0, none⟩), .agg #[.int .i64 t.k, .int .i64 t.n, .string t.s, .slice ao t.l.length cap]] w _
  clear h hc ht hk2 hl hs
  go_enter Try.func63, Try.ntmps63
  go_wp2_with fail
  refine (H1.out _).mono ?_
  rintro e w1 ⟨rfl, ho1⟩
  have HQ1 := Lib.hid (HQ0.out.only ho1 (fun e => e))
  have HO1 := Lib.hid (HO0.out.same ho1)
  clear ho1
  obtain ⟨c0, c1, c2, c3⟩ := HQ1.out.cells
  go_wp2_with fail
  refine (H2.out _).mono ?_
  rintro e w2 ⟨rfl, ho2⟩
  have HO2 := Lib.hid (HO1.out.same ho2)
  have HQ2 := Lib.hid (HQ1.out.only ho2 (fun e => e))
  clear ho2 c0 c1 c2 c3
  go_wp2_with fail
  have HCC : Hid (∀ W, Only (fun _ => False) w2 W → W.cell? ⟨w.heap.size, 0, none⟩ = some (.int .i64 t.k) ∧ W.cell? ⟨w.heap.size, 1, none⟩ = some (.int .i64 t.n) ∧ W.cell? ⟨w.heap.size, 2, none⟩ = some (.string t.s) ∧ W.cell? ⟨w.heap.size, 3, none⟩ = some (.slice ao t.l.length cap) ∧ W.cell? ⟨bb, 0, none⟩ = some (.slice go gl.length gc)) := Lib.hid (fun W ho => by
    obtain ⟨d0, d1, d2, d3⟩ := (HQ2.out.only ho (fun e => e)).cells
    exact ⟨d0, d1, d2, d3, (HB.out.later (HO2.out.same ho) (fun _ e => e.elim)).cells.1⟩)
  have HRW : Hid (∀ W, Only (fun _ => False) w2 W → GlP B go gc gl W) := Lib.hid (fun W ho => (HB.out.later (HO2.out.same ho) (fun _ e => e.elim)).rowG)
  have HBS : Hid (∀ W, Only (fun _ => False) w2 W → B ≤ W.heap.size) := Lib.hid (fun W ho => by have h1 := (HB.out.low _ HB.out.hasB); have h2 := HO2.out.size; have h3 := ho.size; omega)
  have HD2 : Hid (Only (fun _ => False) w2 w2.drew) := Lib.hid (Only.drew _ _)
  obtain ⟨c0, c1, c2, c3, c4⟩ := HCC.out _ HD2.out
  generalize hbx : w.heap.size = bx at *
  go_region_law (first
    | (refine step_callTo rfl 92 #[.agg #[.int .i64 t.k, .int .i64 t.n, .string t.s, .slice ao t.l.length cap]] ?_ _ (H3.out w2.drew) ?_
       · go_simp
       rintro e w3 ⟨rfl, ho3⟩
       refine ⟨_, rfl, ?_⟩
       have HO3 : Hid (Only (fun _ => False) w2 w3) := Lib.hid (HD2.out.same ho3)
       obtain ⟨d0, d1, d2, d3, d4⟩ := HCC.out _ HO3.out
       obtain ⟨e0, e1, e2, e3, e4⟩ := HCC.out _ (HO3.out.same (Only.alloc _ w3 (.cells #[.int .i64 (kindF t), .int .i64 t.k, .int .i64 t.n, .string t.s, .slice ao t.l.length cap] 59)))
       clear ho3)
    | (refine step_append_one liesG (by rfl) (.tmp 42) (.tmp 47) 35 (by rfl) B 59 i0 _ 64 Try.underlying35 hi0 hz0 hz1 hz2 rfl (by omega) (w3.alloc (.cells #[.int .i64 (kindF t), .int .i64 t.k, .int .i64 t.n, .string t.s, .slice ao t.l.length cap] 59)) go gc gl ⟨kindF t, ⟨t, ao, cap⟩⟩ [.int .i64 (kindF t), .int .i64 t.k, .int .i64 t.n, .string t.s, .slice ao t.l.length cap] rfl (by rfl) (HRW.out _ (HO3.out.same (Only.alloc _ _ _))) w3.heap.size 59 (heap_alloc_new w3 _) (by rfl) (by omega) (HBS.out _ (HO3.out.same (Only.alloc _ _ _))) ?_
       intro go' gc' w6 hrow6 ho6 hnew6
       have HT := Lib.hid (HB.out.goal (HO2.out.same (HO3.out.same (Only.alloc _ w3 (.cells #[.int .i64 (kindF t), .int .i64 t.k, .int .i64 t.n, .string t.s, .slice ao t.l.length cap] 59)))) hrow6 ho6 hnew6 ⟨rfl, HG.out⟩)
       have hcf : w6.cell? ⟨bb, 0, none⟩ = some (.slice go gl.length gc) ∧ w6.frozen? ⟨bb, 0, none⟩ = false := BodyC.back (HB.out.later (HO2.out.same (HO3.out.same (Only.alloc _ w3 (.cells #[.int .i64 (kindF t), .int .i64 t.k, .int .i64 t.n, .string t.s, .slice ao t.l.length cap] 59)))) (fun _ e => e.elim)) ho6
       obtain ⟨cb6, fb6⟩ := hcf
       clear hrow6 ho6 hnew6))
  all_goals
    go_wp2_with fail
    go_end0
    exact ⟨rfl, HT.out⟩
end Go.Proofs.Ytoogmlgaeipenaa.terms
