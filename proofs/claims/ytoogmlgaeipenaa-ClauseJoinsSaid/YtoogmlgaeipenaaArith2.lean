/- Arithmetic: the program's balls. -/
import Derived.Test.YtoogmlgaeipenaaArith1
namespace Go.Proofs.Ytoogmlgaeipenaa.terms
set_option maxRecDepth 100000
open Go.RowKit Go.Proofs.Ytoogmlgaeipenaa.own Go.Maps
/-- A ball is answered. -/
abbrev AnsBall (P : Nat → Prop) (x : T) (w : World) (e : Ending) (w' : World) : Prop := ∃ ao' cap', e = .returned (.agg #[.int .i64 4, .int .i64 0, .string nError, .slice ao' 1 cap']) ∧ Row (NewP P w w') w' ao' [x] ∧ Only (fun _ => False) w w'
theorem size_atom (s : ByteArray) : (sAtom s).size = 1 := by simp [sAtom, T.size, sizes]
theorem size_int (n : Int) : (sInt n).size = 1 := by simp [sInt, T.size, sizes]
set_option maxHeartbeats 2000000 in
theorem Error_one (t : T) (ao : Option Addr) (cap : Nat) (w : World) (b : Nat) (hbk : w.heap.size = b) (ht : t.Sane) (hl : Lies w ao t.l) (hz : t.size ≤ 900000) :
    Calls Try.prog 42 #[.slice (some ⟨b, 0, none⟩) 1 1] (w.alloc (.cells #[.int .i64 t.k, .int .i64 t.n, .string t.s, .slice ao t.l.length cap] 24)) (AnsBall no t w) := by
  subst hbk
  have HO0 : Hid (Only (fun _ => False) w (zeroW (w.alloc (.cells #[.int .i64 t.k, .int .i64 t.n, .string t.s, .slice ao t.l.length cap] 24)))) := Lib.hid ((Only.alloc _ _ _).same (Only.alloc _ _ _))
  have hz0 : (w.alloc (.cells #[.int .i64 t.k, .int .i64 t.n, .string t.s, .slice ao t.l.length cap] 24)).heap.size = w.heap.size + 1 := by simp
  have hq0 := Zero.new (w.alloc (.cells #[.int .i64 t.k, .int .i64 t.n, .string t.s, .slice ao t.l.length cap] 24))
  rw [hz0] at hq0
  have hb0 : Quad w.heap.size (.int .i64 t.k) (.int .i64 t.n) (.string t.s) (.slice ao t.l.length cap) (w.alloc (.cells #[.int .i64 t.k, .int .i64 t.n, .string t.s, .slice ao t.l.length cap] 24)) := heap_alloc_new _ _
  have HQ0 := Lib.hid hq0
  obtain ⟨c0, c1, c2, c3⟩ := (hb0.only (Only.alloc (fun _ => False) _ (.cells #[.int .i64 0, .int .i64 0, .string ⟨#[]⟩, .slice none 0 0] 24)) (fun e => e)).cells
  have HC := Lib.hid (fun (W : World) (b : Nat) (hb : W.heap.size = b) (ho : Only (fun _ => False) w W) => Comp_one nError t ao cap W b hb (by decide +kernel) ht (hl.later ho) hz)
  clear hb0 hq0 ht hl hz hz0
  go_enter Try.func42, Try.ntmps42
  go_wp2_with fail
  refine (HC.out _ _ (by simp) HO0.out).mono ?_
  rintro e w1 ⟨a1, p1, rfl, hl1, ho1⟩
  have HL1 := Lib.hid hl1
  have HSZ1 := Lib.hid ho1.size
  have HO1 := Lib.hid (HO0.out.same ho1)
  have HQ1 := Lib.hid (HQ0.out.only ho1 (fun e => e))
  have HS1 := Lib.hid (HQ1.out.set (.int .i64 4) (.int .i64 0) (.string nError) (.slice a1 1 p1))
  clear c0 c1 c2 c3 hl1 ho1
  obtain ⟨c0, c1, c2, c3⟩ := HQ1.out.cells
  obtain ⟨f0, f1, f2, f3⟩ := HQ1.out.free
  go_wp2_with fail
  have hc := HS1.out.1.cells
  refine bodyPost_ret (v := .agg #[.int .i64 4, .int .i64 0, .string nError, .slice a1 1 p1]) (results_term rfl _ _ (w.heap.size + 1) _ _ _ _ rfl hc.1 hc.2.1 hc.2.2.1 hc.2.2.2) rfl ?_
  exact ⟨a1, p1, rfl, HL1.out.fin HS1.out.2 (by omega) (by first | omega | simp) HSZ1.out no_lt, Only.cut HO1.out HS1.out.2 (fun k e => by omega)⟩
theorem Error_atom (s : ByteArray) (w : World) (b : Nat) (hbk : w.heap.size = b) (hs : s.size ≤ maxLen) :
    Calls Try.prog 42 #[.slice (some ⟨b, 0, none⟩) 1 1] (w.alloc (.cells #[.int .i64 3, .int .i64 0, .string s, .slice none 0 0] 24)) (AnsBall no (sAtom s) w) :=
  Error_one (sAtom s) none 0 w b hbk (sane_atom hs) (Row.nil _ _ _) (by rw [size_atom]; omega)
theorem Error_comp (s : ByteArray) (l : List T) (n : Nat) (hn : n = l.length) (ao : Option Addr) (cap : Nat) (w : World) (b : Nat) (hbk : w.heap.size = b) (hs : s.size ≤ maxLen) (hln : n ≤ maxLen) (hl : Lies w ao l) (hz : sizes l ≤ 800000) :
    Calls Try.prog 42 #[.slice (some ⟨b, 0, none⟩) 1 1] (w.alloc (.cells #[.int .i64 4, .int .i64 0, .string s, .slice ao n cap] 24)) (AnsBall no (.mk 4 0 s l) w) := by
  subst hn
  exact Error_one (.mk 4 0 s l) ao cap w b hbk (sane_comp hs hln) hl (by simp only [T.size]; omega)
set_option maxHeartbeats 2000000 in
/-- None, or more than one. -/
theorem Error_many (n : Nat) (ao : Option Addr) (cap : Nat) (w : World) (hn : n ≠ 1) :
    Calls Try.prog 42 #[.slice ao n cap] w (AnsBall no (sAtom nInst) w) := by
  have HQ0 := Lib.hid (Zero.new w)
  have HO0 : Hid (Only (fun _ => False) w (zeroW w)) := Lib.hid (Only.alloc _ _ _)
  have hne : ((n : Int) != 1) = true := by simp; omega
  have HN := Lib.hid hne
  clear hn
  go_enter Try.func42, Try.ntmps42
  go_wp2_with fail
  refine (atom_plain _ _).mono ?_
  rintro e w0 ⟨rfl, ho0⟩
  have HOA := Lib.hid (HO0.out.same ho0)
  have HQA := Lib.hid (HQ0.out.only ho0 (fun e => e))
  have hsa := ho0.size
  simp at hsa
  clear ho0 HO0 HQ0
  go_wp2_with fail
  refine (Error_atom nInst w0 _ rfl (by decide +kernel)).mono ?_
  rintro e w1 ⟨a1, p1, rfl, hl1, ho1⟩
  have HL1 := Lib.hid hl1
  have HSZ1 := Lib.hid ho1.size
  have HO1 := Lib.hid (HOA.out.same ho1)
  have HQ1 := Lib.hid (HQA.out.only ho1 (fun e => e))
  have HS1 := Lib.hid (HQ1.out.set (.int .i64 4) (.int .i64 0) (.string nError) (.slice a1 1 p1))
  clear  hl1 ho1
  obtain ⟨c0, c1, c2, c3⟩ := HQ1.out.cells
  obtain ⟨f0, f1, f2, f3⟩ := HQ1.out.free
  go_wp2_with fail
  have hc := HS1.out.1.cells
  refine bodyPost_ret (v := .agg #[.int .i64 4, .int .i64 0, .string nError, .slice a1 1 p1]) (results_term rfl _ _ (w.heap.size) _ _ _ _ rfl hc.1 hc.2.1 hc.2.2.1 hc.2.2.2) rfl ?_
  exact ⟨a1, p1, rfl, HL1.out.fin HS1.out.2 (by omega) (by first | omega | simp) HSZ1.out no_lt, Only.cut HO1.out HS1.out.2 (fun k e => by omega)⟩
theorem Error_none (w : World) : Calls Try.prog 42 #[.slice none 0 0] w (AnsBall no (sAtom nInst) w) := Error_many 0 none 0 w (by omega)
set_option maxHeartbeats 2000000 in
theorem wrong_any (s : ByteArray) (w : World) (hs : s.size ≤ maxLen) : Calls Try.prog 117 #[.string s] w (AnsBall no (.mk 4 0 nEval [sAtom s]) w) := by
  have HS := Lib.hid hs
  have HQ0 := Lib.hid (Zero.new w)
  have HO0 : Hid (Only (fun _ => False) w (zeroW w)) := Lib.hid (Only.alloc _ _ _)
  clear hs
  go_enter Try.func117, Try.ntmps117
  go_wp2_with fail
  refine (atom_plain _ _).mono ?_
  rintro e w0 ⟨rfl, ho0⟩
  have HOA := Lib.hid (HO0.out.same ho0)
  have HQA := Lib.hid (HQ0.out.only ho0 (fun e => e))
  have hsa := ho0.size
  simp at hsa
  clear ho0 HO0 HQ0
  go_wp2_with fail
  refine (Comp_one nEval (sAtom s) none 0 w0 _ rfl (by decide +kernel) (sane_atom HS.out) (Row.nil _ _ _) (by rw [size_atom]; omega)).mono ?_
  rintro e wb ⟨ab, pb, rfl, hlb, hob⟩
  have HLB := Lib.hid hlb
  have HOB := Lib.hid (HOA.out.same hob)
  have HQB := Lib.hid (HQA.out.only hob (fun e => e))
  have hsb := hob.size
  clear hlb hob HOA HQA
  go_wp2_with fail
  refine (Error_comp nEval [sAtom s] 1 rfl ab pb wb _ rfl (by decide +kernel) (by decide +kernel) (HLB.out.mono (fun k hk => by rcases hk with hk | hk; exact hk.elim; exact hk.2)) (by simp [sizes, size_atom])).mono ?_
  rintro e w1 ⟨a1, p1, rfl, hl1, ho1⟩
  have HL1 := Lib.hid hl1
  have HSZ1 := Lib.hid ho1.size
  have HO1 := Lib.hid (HOB.out.same ho1)
  have HQ1 := Lib.hid (HQB.out.only ho1 (fun e => e))
  have HS1 := Lib.hid (HQ1.out.set (.int .i64 4) (.int .i64 0) (.string nError) (.slice a1 1 p1))
  clear  hl1 ho1
  obtain ⟨c0, c1, c2, c3⟩ := HQ1.out.cells
  obtain ⟨f0, f1, f2, f3⟩ := HQ1.out.free
  go_wp2_with fail
  have hc := HS1.out.1.cells
  refine bodyPost_ret (v := .agg #[.int .i64 4, .int .i64 0, .string nError, .slice a1 1 p1]) (results_term rfl _ _ (w.heap.size) _ _ _ _ rfl hc.1 hc.2.1 hc.2.2.1 hc.2.2.2) rfl ?_
  exact ⟨a1, p1, rfl, HL1.out.fin HS1.out.2 (by omega) (by first | omega | simp) HSZ1.out no_lt, Only.cut HO1.out HS1.out.2 (fun k e => by omega)⟩
end Go.Proofs.Ytoogmlgaeipenaa.terms
