/- Clauses: which heads may not be. -/
import Derived.Test.YtoogmlgaeipenaaClause14
namespace Go.Proofs.Ytoogmlgaeipenaa.terms
set_option maxRecDepth 100000
open Go.RowKit Go.Proofs.Ytoogmlgaeipenaa.own Go.Maps
theorem AnsMay.some_ {x : T} {w : World} {e : Ending} {w' : World} (h : AnsMay (some x) w e w') : ∃ a p, e = .returned (.tuple #[.agg #[.int .i64 4, .int .i64 0, .string nError, .slice a 1 p], .bool true]) ∧ Row (NewP no w w') w' a [x] ∧ Only (fun _ => False) w w' := h
theorem AnsMay.none_ {w : World} {e : Ending} {w' : World} (h : AnsMay none w e w') : e = .returned (.tuple #[.agg #[.int .i64 0, .int .i64 0, .string ⟨#[]⟩, .slice none 0 0], .bool false]) ∧ Only (fun _ => False) w w' := h
theorem lies_no {w w' : World} {a : Option Addr} {l : List T} (h : Row (NewP no w w') w' a l) : Lies w' a l := h.mono (fun k hk => by rcases hk with hk | hk; exact hk.elim; exact hk.2)
set_option maxHeartbeats 8000000 in
theorem wrongHead_any (t : T) (ao : Option Addr) (cap : Nat) (w : World) (hs : t.Sane) (hl : Lies w ao t.l) (hok : t.Ok) (hk : t.k = 1 ∨ t.k = 2 ∨ t.k = 3 ∨ t.k = 4) :
    Calls Try.prog 53 #[tv t ao cap] w (AnsMay (wrongHF t) w) := by
  have HQ0 := Lib.hid (twoW_zero w t ao cap)
  have HB0 := Lib.hid (twoW_box w t ao cap)
  have HO0 := Lib.hid (twoW_only w t ao cap)
  have HZ0 := Lib.hid (twoW_size w t ao cap)
  have hz : t.size ≤ 4096 := hok.size
  have HUN := Lib.hid (unnamed_any t ao cap (twoW w t ao cap) hs (hl.later HO0.out) (by omega))
  have HBU := Lib.hid (fun W => Builtin_any t.s t.l.length W)
  have HIN : Hid (unF t = none → ∀ W, Only (fun _ => False) w W → Calls Try.prog 84 #[tv t ao cap] W (AnsSlash t W)) := Lib.hid (fun hu W ho => by
    have hne : t.k = 3 ∨ t.k = 4 := by
      unfold unF at hu
      rcases hk with h | h | h | h
      · rw [if_pos h] at hu; cases hu
      · rw [if_neg (by omega), if_pos h] at hu; cases hu
      · exact .inl h
      · exact .inr h
    rcases hne with h | h
    · exact Ind_ok3 t ao cap W h hs (hl.later ho) (by omega) hok
    · exact Ind_ok4 t ao cap W h hs (hl.later ho) (by omega) hok)
  obtain ⟨c0, c1, c2, c3⟩ := HB0.out.cells
  obtain ⟨d0, d1, d2, d3⟩ := HQ0.out.cells
  obtain ⟨f0, f1, f2, f3⟩ := HQ0.out.free
  have HW : Hid (wrongHF t = match unF t with | some x => some x | none => if builtB t.s t.l.length = true then some (permF t) else none) := Lib.hid rfl
  generalize wrongHF t = R at *
  have HTK : Hid (t.k = 3 ∨ t.k = 4 ∨ t.k = 1 ∨ t.k = 2) := Lib.hid (by omega)
  show Calls Try.prog 53 #[.agg #[.int .i64 t.k, .int .i64 t.n, .string t.s, .slice ao t.l.length cap]] w _
  clear hs hl hok hk hz
  cases hu : unF t with
  | some x =>
    have hR := HW.out
    rw [hu] at hR
    subst hR
    rw [hu] at HUN
    clear hu HIN HBU HW
    go_enter Try.func53, Try.ntmps53
    go_wp2_with fail
    refine HUN.out.mono ?_
    intro e w1 h1
    obtain ⟨a1, p1, rfl, hr1, ho1⟩ := h1.some_
    have oB := Only.alloc (fun _ => False) w1 (.cells #[.int .i64 4, .int .i64 0, .string nError, .slice a1 1 p1] 24)
    have g0 : Quad w1.heap.size (.int .i64 4) (.int .i64 0) (.string nError) (.slice a1 1 p1) (w1.alloc (.cells #[.int .i64 4, .int .i64 0, .string nError, .slice a1 1 p1] 24)) := heap_alloc_new _ _
    have HO1 := Lib.hid ((HO0.out.same ho1).same oB)
    have HQ1 := Lib.hid (HQ0.out.only (ho1.same oB) (fun e => e))
    have HR1 : Hid (Row (NewP no (twoW w t ao cap) (w1.alloc (.cells #[.int .i64 4, .int .i64 0, .string nError, .slice a1 1 p1] 24))) (w1.alloc (.cells #[.int .i64 4, .int .i64 0, .string nError, .slice a1 1 p1] 24)) a1 [x]) := Lib.hid ((hr1.only oB (fun k hk => by rcases hk with hk | hk; exact hk.elim; exact hk.2) (fun _ _ e => e)).mono (fun k hk => by rcases hk with hk | hk; exact hk.elim; exact .inr ⟨hk.1, Nat.lt_of_lt_of_le hk.2 oB.size⟩))
    have HSZ : Hid ((twoW w t ao cap).heap.size ≤ (w1.alloc (.cells #[.int .i64 4, .int .i64 0, .string nError, .slice a1 1 p1] 24)).heap.size) := Lib.hid (Nat.le_trans ho1.size oB.size)
    clear h1 hr1 ho1 oB c0 c1 c2 c3 d0 d1 d2 d3 f0 f1 f2 f3 HUN HQ0 HB0
    obtain ⟨g0, g1, g2, g3⟩ := g0.cells
    generalize hw3 : w1.alloc (.cells #[.int .i64 4, .int .i64 0, .string nError, .slice a1 1 p1] 24) = w3 at *
    obtain ⟨d0, d1, d2, d3⟩ := HQ1.out.cells
    obtain ⟨f0, f1, f2, f3⟩ := HQ1.out.free
    have HS3 := Lib.hid (HQ1.out.set (.int .i64 4) (.int .i64 0) (.string nError) (.slice a1 1 p1))
    go_wp2_with fail
    clear hw3
    have hc := HS3.out.1.cells
    refine bodyPost_ret (v := .tuple #[.agg #[.int .i64 4, .int .i64 0, .string nError, .slice a1 1 p1], .bool true]) (results_may rfl _ _ (w.heap.size + 1) _ _ _ _ _ rfl rfl hc.1 hc.2.1 hc.2.2.1 hc.2.2.2) rfl ?_
    exact ⟨a1, p1, rfl, Row.fin (W := twoW w t ao cap) HR1.out HS3.out.2 (by omega) (by have := HZ0.out; omega) HSZ.out no_lt, Only.cut HO1.out HS3.out.2 (fun k e => by omega)⟩
  | none =>
    have HI := Lib.hid (HIN.out hu)
    have hR := HW.out
    rw [hu] at hR
    rw [hu] at HUN
    have HR := Lib.hid hR
    clear hu hR HIN HW
    cases hb : builtB t.s t.l.length with
    | false =>
      obtain rfl : R = none := by rw [HR.out, hb]; rfl
      rw [hb] at HBU
      clear HR hb HI
      go_enter Try.func53, Try.ntmps53
      go_wp2_with fail
      refine HUN.out.mono ?_
      intro e w1 h1
      obtain ⟨rfl, ho1⟩ := h1.none_
      have oB := Only.alloc (fun _ => False) w1 (.cells #[.int .i64 0, .int .i64 0, .string ⟨#[]⟩, .slice none 0 0] 24)
      have HO1 := Lib.hid ((HO0.out.same ho1).same oB)
      have HQ1 := Lib.hid (HQ0.out.only (ho1.same oB) (fun e => e))
      have HB1 := Lib.hid (HB0.out.only (ho1.same oB) (fun e => e))
      clear h1 ho1 oB c0 c1 c2 c3 d0 d1 d2 d3 f0 f1 f2 f3 HUN HQ0 HB0
      obtain ⟨c0, c1, c2, c3⟩ := HB1.out.cells
      obtain ⟨d0, d1, d2, d3⟩ := HQ1.out.cells
      obtain ⟨f0, f1, f2, f3⟩ := HQ1.out.free
      go_wp2_with fail
      generalize w1.alloc (.cells #[.int .i64 0, .int .i64 0, .string ⟨#[]⟩, .slice none 0 0] 24) = w3 at *
      refine (HBU.out w3).mono ?_
      rintro e w4 ⟨rfl, rfl⟩
      have HS3 := Lib.hid (HQ1.out.set (.int .i64 0) (.int .i64 0) (.string ⟨#[]⟩) (.slice none 0 0))
      go_wp2_with fail
      have hc := HS3.out.1.cells
      refine bodyPost_ret (v := .tuple #[.agg #[.int .i64 0, .int .i64 0, .string ⟨#[]⟩, .slice none 0 0], .bool false]) (results_may rfl _ _ (w.heap.size + 1) _ _ _ _ _ rfl rfl hc.1 hc.2.1 hc.2.2.1 hc.2.2.2) rfl ?_
      exact ⟨rfl, Only.cut HO1.out HS3.out.2 (fun k e => by omega)⟩
    | true =>
      obtain rfl : R = some (permF t) := by rw [HR.out, hb]; rfl
      rw [hb] at HBU
      clear HR hb
      go_enter Try.func53, Try.ntmps53
      go_wp2_with fail
      refine HUN.out.mono ?_
      intro e w1 h1
      obtain ⟨rfl, ho1⟩ := h1.none_
      have oB := Only.alloc (fun _ => False) w1 (.cells #[.int .i64 0, .int .i64 0, .string ⟨#[]⟩, .slice none 0 0] 24)
      have HO1 := Lib.hid ((HO0.out.same ho1).same oB)
      have HO1' := Lib.hid (ho1.same oB)
      have HQ1 := Lib.hid (HQ0.out.only (ho1.same oB) (fun e => e))
      have HB1 := Lib.hid (HB0.out.only (ho1.same oB) (fun e => e))
      clear h1 ho1 oB c0 c1 c2 c3 d0 d1 d2 d3 f0 f1 f2 f3 HUN HQ0 HB0
      obtain ⟨c0, c1, c2, c3⟩ := HB1.out.cells
      go_wp2_with fail
      generalize w1.alloc (.cells #[.int .i64 0, .int .i64 0, .string ⟨#[]⟩, .slice none 0 0] 24) = w3 at *
      refine (HBU.out w3).mono ?_
      rintro e w4 ⟨rfl, rfl⟩
      go_wp2_with fail
      refine (HI.out w4 HO1.out).mono ?_
      rintro e w5 ⟨a5, p5, rfl, hr5, ho5⟩
      have HR5 := Lib.hid hr5
      have HO5 := Lib.hid ho5
      clear hr5 ho5 c0 c1 c2 c3
      go_wp2_with fail
      refine (Comp_one nPerm (.mk 4 0 ⟨#[47]⟩ (slashF t)) a5 p5 w5 _ rfl (by decide +kernel) (sane_comp (by decide +kernel) (by show 2 ≤ maxLen; exact small_lit (by omega))) (lies_no HR5.out) (by simp [T.size, slashF, sizes, size_atom, size_int])).mono ?_
      rintro e w6 ⟨a6, p6, rfl, hr6, ho6⟩
      have HR6 := Lib.hid hr6
      have HO6 := Lib.hid ho6
      clear hr6 ho6
      go_wp2_with fail
      refine (Error_comp nPerm [.mk 4 0 ⟨#[47]⟩ (slashF t)] 1 rfl a6 p6 w6 _ rfl (by decide +kernel) (by show 1 ≤ maxLen; exact small_lit (by omega)) (lies_no HR6.out) (by simp [T.size, slashF, sizes, size_atom, size_int])).mono ?_
      rintro e w7 ⟨a7, p7, rfl, hr7, ho7⟩
      have HO7 : Hid (Only (fun _ => False) w4 w7) := Lib.hid ((HO5.out.same HO6.out).same ho7)
      have HOW : Hid (Only (fun _ => False) w w7) := Lib.hid (HO1.out.same HO7.out)
      have HR7 : Hid (Row (NewP no w4 w7) w7 a7 [permF t]) := Lib.hid (hr7.mono (fun k hk => by
        rcases hk with hk | hk
        · exact hk.elim
        · exact .inr ⟨Nat.le_trans (Nat.le_trans HO5.out.size HO6.out.size) hk.1, hk.2⟩))
      have HQ7 := Lib.hid (HQ1.out.only HO7.out (fun e => e))
      clear hr7 ho7
      obtain ⟨d0, d1, d2, d3⟩ := HQ7.out.cells
      obtain ⟨f0, f1, f2, f3⟩ := HQ7.out.free
      have HS3 := Lib.hid (HQ7.out.set (.int .i64 4) (.int .i64 0) (.string nError) (.slice a7 1 p7))
      go_wp2_with fail
      have hc := HS3.out.1.cells
      refine bodyPost_ret (v := .tuple #[.agg #[.int .i64 4, .int .i64 0, .string nError, .slice a7 1 p7], .bool true]) (results_may rfl _ _ (w.heap.size + 1) _ _ _ _ _ rfl rfl hc.1 hc.2.1 hc.2.2.1 hc.2.2.2) rfl ?_
      refine ⟨a7, p7, rfl, Row.fin (W := w4) HR7.out HS3.out.2 (by omega) (by have := HZ0.out; have := HO1'.out.size; omega) HO7.out.size no_lt, Only.cut HOW.out HS3.out.2 (fun k e => by omega)⟩
end Go.Proofs.Ytoogmlgaeipenaa.terms
