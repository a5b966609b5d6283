/- Clauses: which terms may be called; the term that a goal is of. -/
import Derived.Test.YtoogmlgaeipenaaClause2
namespace Go.Proofs.Ytoogmlgaeipenaa.terms
set_option maxRecDepth 100000
open Go.RowKit Go.Proofs.Ytoogmlgaeipenaa.own Go.Maps
/-- May a term be called? -/
def callB (t : T) : Bool := (t.k == 3 || t.k == 4) && (rcheckF t == 0)
set_option maxHeartbeats 4000000 in
theorem Callable_any (t : T) (ao : Option Addr) (cap : Nat) (w : World) (hs : t.Sane) (hl : Lies w ao t.l) (hz : t.size ≤ 900000) : Calls Try.prog 48 #[tv t ao cap] w fun e w' => e = .returned (.bool (callB t)) ∧ Only (fun _ => False) w w' := by
  have HB0 : Hid (Quad w.heap.size (.int .i64 t.k) (.int .i64 t.n) (.string t.s) (.slice ao t.l.length cap) (w.alloc (.cells #[.int .i64 t.k, .int .i64 t.n, .string t.s, .slice ao t.l.length cap] 24))) := Lib.hid (heap_alloc_new w _)
  have HO0 : Hid (Only (fun _ => False) w (w.alloc (.cells #[.int .i64 t.k, .int .i64 t.n, .string t.s, .slice ao t.l.length cap] 24))) := Lib.hid (Only.alloc _ _ _)
  have HCH := Lib.hid (fun (W : World) (ho : Only (fun _ => False) w W) => check_any t W ao cap (hl.later ho) hs hz)
  obtain ⟨c0, c1, c2, c3⟩ := HB0.out.cells
  have HG : Hid (callB t = ((t.k == 3 || t.k == 4) && (rcheckF t == 0))) := Lib.hid rfl
  have HOK := Lib.hid (@rcheck_iff t)
  generalize callB t = G at *
  show Calls Try.prog 48 #[.agg #[.int .i64 t.k, .int .i64 t.n, .string t.s, .slice ao t.l.length cap]] w _
  clear hs hl hz
  by_cases h3 : t.k = 3
  · have e3 : (t.k == 3) = true := by simpa using h3
    clear h3
    by_cases hok : rcheckF t = 0
    · have eo : (rcheckF t == 0) = true := by simpa using hok
      obtain rfl : G = true := by rw [HG.out, e3, eo]; simp
      have HO := Lib.hid (HOK.out.1 hok)
      clear HG HOK eo hok
      go_enter Try.func48, Try.ntmps48
      go_wp2_with fail
      refine (HCH.out _ HO0.out).mono ?_
      rintro e w1 ⟨⟨c, rfl, hc⟩, ho⟩
      obtain rfl := hc.2 HO.out
      have HO1 := Lib.hid (HO0.out.same ho)
      clear hc ho
      go_wp2_with fail
      go_ret
      exact ⟨rfl, HO1.out⟩
    · have eo : (rcheckF t == 0) = false := by simpa using hok
      obtain rfl : G = false := by rw [HG.out, e3, eo]; simp
      have HO := Lib.hid (show ¬ t.Ok from fun h => hok (HOK.out.2 h))
      clear HG HOK eo hok
      go_enter Try.func48, Try.ntmps48
      go_wp2_with fail
      refine (HCH.out _ HO0.out).mono ?_
      rintro e w1 ⟨⟨c, rfl, hc⟩, ho⟩
      have hcn : (c == 0) = false := by simpa using fun e => HO.out (hc.1 e)
      have HO1 := Lib.hid (HO0.out.same ho)
      clear hc ho
      go_wp2_with fail
      go_ret
      exact ⟨rfl, HO1.out⟩
  · have e3 : (t.k == 3) = false := by simpa using h3
    clear h3
    by_cases h4 : t.k = 4
    · have e4 : (t.k == 4) = true := by simpa using h4
      clear h4
      by_cases hok : rcheckF t = 0
      · have eo : (rcheckF t == 0) = true := by simpa using hok
        obtain rfl : G = true := by rw [HG.out, e3, e4, eo]; simp
        have HO := Lib.hid (HOK.out.1 hok)
        clear HG HOK eo hok
        go_enter Try.func48, Try.ntmps48
        go_wp2_with fail
        refine (HCH.out _ HO0.out).mono ?_
        rintro e w1 ⟨⟨c, rfl, hc⟩, ho⟩
        obtain rfl := hc.2 HO.out
        have HO1 := Lib.hid (HO0.out.same ho)
        clear hc ho
        go_wp2_with fail
        go_ret
        exact ⟨rfl, HO1.out⟩
      · have eo : (rcheckF t == 0) = false := by simpa using hok
        obtain rfl : G = false := by rw [HG.out, e3, e4, eo]; simp
        have HO := Lib.hid (show ¬ t.Ok from fun h => hok (HOK.out.2 h))
        clear HG HOK eo hok
        go_enter Try.func48, Try.ntmps48
        go_wp2_with fail
        refine (HCH.out _ HO0.out).mono ?_
        rintro e w1 ⟨⟨c, rfl, hc⟩, ho⟩
        have hcn : (c == 0) = false := by simpa using fun e => HO.out (hc.1 e)
        have HO1 := Lib.hid (HO0.out.same ho)
        clear hc ho
        go_wp2_with fail
        go_ret
        exact ⟨rfl, HO1.out⟩
    · have e4 : (t.k == 4) = false := by simpa using h4
      clear h4
      obtain rfl : G = false := by rw [HG.out, e3, e4]; simp
      clear HG HOK
      go_enter Try.func48, Try.ntmps48
      go_wp2_with fail
      go_ret
      exact ⟨rfl, HO0.out⟩
/-- The term that a goal is of. -/
def calledF (g : Int) (t : T) : T := if g = 2 then sAtom nCut else t
set_option maxHeartbeats 4000000 in
theorem called_cut (t : T) (ao : Option Addr) (cap : Nat) (w : World) : Calls Try.prog 56 #[.agg #[.int .i64 2, .int .i64 t.k, .int .i64 t.n, .string t.s, .slice ao t.l.length cap]] w fun e w' => e = .returned (.agg #[.int .i64 3, .int .i64 0, .string nCut, .slice none 0 0]) ∧ Only (fun _ => False) w w' := by
  have hq0 := Zero.new (w.alloc (.cells #[.int .i64 2, .int .i64 t.k, .int .i64 t.n, .string t.s, .slice ao t.l.length cap] 59))
  rw [show (w.alloc (.cells #[.int .i64 2, .int .i64 t.k, .int .i64 t.n, .string t.s, .slice ao t.l.length cap] 59)).heap.size = w.heap.size + 1 by simp] at hq0
  have HQ0 := Lib.hid hq0
  have HO0 : Hid (Only (fun _ => False) w (zeroW (w.alloc (.cells #[.int .i64 2, .int .i64 t.k, .int .i64 t.n, .string t.s, .slice ao t.l.length cap] 59)))) := Lib.hid ((Only.alloc _ _ _).same (Only.alloc _ _ _))
  have hb := heap_alloc_new w (.cells #[.int .i64 2, .int .i64 t.k, .int .i64 t.n, .string t.s, .slice ao t.l.length cap] 59)
  have c0 : (zeroW (w.alloc (.cells #[.int .i64 2, .int .i64 t.k, .int .i64 t.n, .string t.s, .slice ao t.l.length cap] 59))).cell? ⟨w.heap.size, 0, none⟩ = some (.int .i64 2) := by rw [cell_of_blk (blk_later hb (Only.alloc _ _ _))]; rfl
  clear hb hq0
  go_enter Try.func56, Try.ntmps56
  go_wp2_with fail
  refine (atom_plain _ _).mono ?_
  rintro e w1 ⟨rfl, ho1⟩
  have HQ1 := Lib.hid (HQ0.out.only ho1 (fun e => e))
  have HO1 := Lib.hid (HO0.out.same ho1)
  have HS1 := Lib.hid (HQ1.out.set (.int .i64 3) (.int .i64 0) (.string nCut) (.slice none 0 0))
  clear c0 ho1
  obtain ⟨c0, c1, c2, c3⟩ := HQ1.out.cells
  obtain ⟨f0, f1, f2, f3⟩ := HQ1.out.free
  go_wp2_with fail
  have hc := HS1.out.1.cells
  refine bodyPost_ret (v := .agg #[.int .i64 3, .int .i64 0, .string nCut, .slice none 0 0]) (results_term rfl _ _ (w.heap.size + 1) _ _ _ _ rfl hc.1 hc.2.1 hc.2.2.1 hc.2.2.2) rfl ?_
  exact ⟨rfl, Only.cut HO1.out HS1.out.2 (fun k e => by omega)⟩
set_option maxHeartbeats 4000000 in
theorem called_term (g : Int) (hg : g ≠ 2) (t : T) (ao : Option Addr) (cap : Nat) (w : World) : Calls Try.prog 56 #[.agg #[.int .i64 g, .int .i64 t.k, .int .i64 t.n, .string t.s, .slice ao t.l.length cap]] w fun e w' => e = .returned (.agg #[.int .i64 t.k, .int .i64 t.n, .string t.s, .slice ao t.l.length cap]) ∧ Only (fun _ => False) w w' := by
  have hq0 := Zero.new (w.alloc (.cells #[.int .i64 g, .int .i64 t.k, .int .i64 t.n, .string t.s, .slice ao t.l.length cap] 59))
  rw [show (w.alloc (.cells #[.int .i64 g, .int .i64 t.k, .int .i64 t.n, .string t.s, .slice ao t.l.length cap] 59)).heap.size = w.heap.size + 1 by simp] at hq0
  have HQ0 := Lib.hid hq0
  have HO0 : Hid (Only (fun _ => False) w (zeroW (w.alloc (.cells #[.int .i64 g, .int .i64 t.k, .int .i64 t.n, .string t.s, .slice ao t.l.length cap] 59)))) := Lib.hid ((Only.alloc _ _ _).same (Only.alloc _ _ _))
  have hb := heap_alloc_new w (.cells #[.int .i64 g, .int .i64 t.k, .int .i64 t.n, .string t.s, .slice ao t.l.length cap] 59)
  have hc := fun j => cell_of_blk (blk_later hb (Only.alloc (fun _ => False) _ (.cells #[.int .i64 0, .int .i64 0, .string ⟨#[]⟩, .slice none 0 0] 24))) j
  have c0 : (zeroW (w.alloc (.cells #[.int .i64 g, .int .i64 t.k, .int .i64 t.n, .string t.s, .slice ao t.l.length cap] 59))).cell? ⟨w.heap.size, 0, none⟩ = some (.int .i64 g) := hc 0
  have c1 : (zeroW (w.alloc (.cells #[.int .i64 g, .int .i64 t.k, .int .i64 t.n, .string t.s, .slice ao t.l.length cap] 59))).cell? ⟨w.heap.size, 1, none⟩ = some (.int .i64 t.k) := hc 1
  have c2 : (zeroW (w.alloc (.cells #[.int .i64 g, .int .i64 t.k, .int .i64 t.n, .string t.s, .slice ao t.l.length cap] 59))).cell? ⟨w.heap.size, 2, none⟩ = some (.int .i64 t.n) := hc 2
  have c3 : (zeroW (w.alloc (.cells #[.int .i64 g, .int .i64 t.k, .int .i64 t.n, .string t.s, .slice ao t.l.length cap] 59))).cell? ⟨w.heap.size, 3, none⟩ = some (.string t.s) := hc 3
  have c4 : (zeroW (w.alloc (.cells #[.int .i64 g, .int .i64 t.k, .int .i64 t.n, .string t.s, .slice ao t.l.length cap] 59))).cell? ⟨w.heap.size, 4, none⟩ = some (.slice ao t.l.length cap) := hc 4
  have HS1 := Lib.hid (HQ0.out.set (.int .i64 t.k) (.int .i64 t.n) (.string t.s) (.slice ao t.l.length cap))
  have hg2 : (g == 2) = false := by simpa using hg
  obtain ⟨d0, d1, d2, d3⟩ := HQ0.out.cells
  obtain ⟨f0, f1, f2, f3⟩ := HQ0.out.free
  clear hb hq0 hc
  go_enter Try.func56, Try.ntmps56
  go_wp2_with fail
  have hq := heap_alloc_new (w.alloc (.cells #[.int .i64 g, .int .i64 t.k, .int .i64 t.n, .string t.s, .slice ao t.l.length cap] 59)) (.cells #[.int .i64 t.k, .int .i64 t.n, .string t.s, .slice ao t.l.length cap] 24)
  rw [show (w.alloc (.cells #[.int .i64 g, .int .i64 t.k, .int .i64 t.n, .string t.s, .slice ao t.l.length cap] 59)).heap.size = w.heap.size + 1 by simp] at hq
  have hc := (show Quad (w.heap.size + 1) (.int .i64 t.k) (.int .i64 t.n) (.string t.s) (.slice ao t.l.length cap) _ from hq).cells
  refine bodyPost_ret (v := .agg #[.int .i64 t.k, .int .i64 t.n, .string t.s, .slice ao t.l.length cap]) (results_term rfl _ _ (w.heap.size + 1) _ _ _ _ rfl hc.1 hc.2.1 hc.2.2.1 hc.2.2.2) rfl ?_
  exact ⟨rfl, (Only.alloc _ _ _).same (Only.alloc _ _ _)⟩
end Go.Proofs.Ytoogmlgaeipenaa.terms
