/- Clauses by generations: the facts that the laws add. -/
import Derived.Test.YthfilpacmllhpabBas15
import Derived.Test.YthfilpacmllhpabArith1
namespace Go.Proofs.Ythfilpacmllhpab.bases
set_option maxRecDepth 100000
open Go.RowKit Go.Proofs.Ythfilpacmllhpab.own Go.Lib Go.Maps Go.WideMaps Go.Proofs.Ythfilpacmllhpab.idx Go.Proofs.Ythfilpacmllhpab.terms
def nP : ByteArray := ⟨#[112]⟩
def factT (n : Int) : T := .mk 4 0 nP [sInt n]
theorem rint_plain (n : Int) (w : World) : Calls Try.prog 55 #[.int .i64 n] w fun e w' => e = .returned (.agg #[.int .i64 2, .int .i64 n, .string ⟨#[]⟩, .slice none 0 0]) ∧ Only (fun _ => False) w w' := rint_any n w
theorem rvar_plain (n : Int) (w : World) : Calls Try.prog 27 #[.int .i64 n] w fun e w' => e = .returned (.agg #[.int .i64 1, .int .i64 n, .string ⟨#[]⟩, .slice none 0 0]) ∧ Only (fun _ => False) w w' := rvar_any n w
/-- Comp of "p" and a term without parts, just laid. -/
theorem comp_p (k n : Int) (hs : (T.mk k n ⟨#[]⟩ []).Sane) (w : World) (b : Nat) (hb : w.heap.size = b) :
    Calls Try.prog 26 #[.string ⟨#[112]⟩, .slice (some ⟨b, 0, none⟩) 1 1] (w.alloc (.cells #[.int .i64 k, .int .i64 n, .string ⟨#[]⟩, .slice none 0 0] 31)) fun e w' => ∃ ao' cap', e = .returned (.agg #[.int .i64 4, .int .i64 0, .string ⟨#[112]⟩, .slice ao' 1 cap']) ∧ Row (fun q => w.heap.size ≤ q ∧ q < w'.heap.size) w' ao' [T.mk k n ⟨#[]⟩ []] ∧ Only (fun _ => False) w w' := by
  refine (rComp_one (P := no) ⟨#[112]⟩ (T.mk k n ⟨#[]⟩ []) none 0 w b hb (by decide +kernel) hs (Row.nil _ _ _) no_lt).mono ?_
  rintro e w' ⟨a, c, rfl, hr, ho⟩
  exact ⟨a, c, rfl, hr.mono (fun q hq => hq.elim (fun e => e.elim) id), ho⟩
set_option maxHeartbeats 4000000 in
theorem fact_any (n : Int) (hn : Fits n) (w : World) : Calls Try.prog 29 #[.int .i64 n] w fun e w' => ∃ ao cap, e = .returned (.agg #[.int .i64 4, .int .i64 0, .string ⟨#[112]⟩, .slice ao 1 cap, .slice none 0 0, .int .i64 0]) ∧ Row (fun k => w.heap.size ≤ k ∧ k < w'.heap.size) w' ao [sInt n] ∧ Only (fun _ => False) w w' := by
  obtain ⟨E, hE⟩ : ∃ E, E = w.alloc (.cells zH 34) := ⟨_, rfl⟩
  have HX : Hid (Hex w.heap.size (.int .i64 0) (.int .i64 0) (.string ⟨#[]⟩) (.slice none 0 0) (.slice none 0 0) (.int .i64 0) E) := Lib.hid (by rw [hE]; exact heap_alloc_new _ _)
  have HO : Hid (Only (fun _ => False) w E) := Lib.hid (by rw [hE]; exact Only.alloc _ _ _)
  have HSZ : Hid (E.heap.size = w.heap.size + 1) := Lib.hid (by rw [hE]; simp)
  have HI := Lib.hid (rint_plain n E)
  have HCM : Hid (∀ (W : World) (b : Nat), W.heap.size = b → _) := Lib.hid (fun W b hb => comp_p 2 n (sane_int hn) W b hb)
  generalize hbk : w.heap.size = bk at *
  go_enter Try.func29, Try.ntmps29
  go_upto_region 1 with fail
  rw [← hE]
  clear hE
  go_wp2_with fail
  refine HI.out.mono ?_
  rintro e w1 ⟨rfl, ho1⟩
  have HO1 := Lib.hid ho1
  clear ho1
  go_wp2_with fail
  refine (HCM.out w1 _ rfl).mono ?_
  rintro e w2 ⟨a, c, rfl, hr, ho⟩
  have HX2 := Lib.hid (HX.out.only (HO1.out.same ho) (fun e => e))
  obtain ⟨z0, z1, z2, z3, z4, z5⟩ := HX2.out.cells
  obtain ⟨f0, f1, f2, f3, f4, f5⟩ := HX2.out.free
  have HS := Lib.hid (HX2.out.set (.int .i64 4) (.int .i64 0) (.string ⟨#[112]⟩) (.slice a 1 c) (.slice none 0 0) (.int .i64 0))
  have HR := Lib.hid hr
  have HO2 := Lib.hid ((HO.out.same HO1.out).same ho)
  have HZ2 := Lib.hid HO1.out.size
  clear hr ho
  obtain ⟨WF, hWF⟩ : ∃ WF, WF = hexW w2 bk (.int .i64 4) (.int .i64 0) (.string ⟨#[112]⟩) (.slice a 1 c) (.slice none 0 0) (.int .i64 0) := ⟨_, rfl⟩
  rw [← hWF] at HS
  go_wp2_with fail
  first | rw [← hWF] | (unfold hexW at hWF; rw [← hWF])
  clear hWF
  refine bodyPost_ret (v := .agg #[.int .i64 4, .int .i64 0, .string ⟨#[112]⟩, .slice a 1 c, .slice none 0 0, .int .i64 0]) (results_clause rfl _ WF bk _ _ _ _ _ _ rfl HS.out.1) rfl ?_
  have hsz := HSZ.out
  have hz2 := HZ2.out
  have h3 := HS.out.2.size
  exact ⟨a, c, rfl, (HR.out.only HS.out.2 (fun k hk => hk.2) (fun k hk e => by have e' : k = bk := e; have := hk.1; omega)).mono (fun k hk => ⟨by have := hk.1; omega, Nat.lt_of_lt_of_le hk.2 h3⟩), idx.Only.cut HO2.out HS.out.2 (fun k e => by have e' : k = bk := e; omega)⟩
end Go.Proofs.Ythfilpacmllhpab.bases
