/- Clauses: the kind of a goal; balls. -/
import Derived.Test.YtoogmlgaeipenaaClause1
namespace Go.Proofs.Ytoogmlgaeipenaa.terms
set_option maxRecDepth 100000
open Go.RowKit Go.Proofs.Ytoogmlgaeipenaa.own Go.Maps
def nCut : ByteArray := ⟨#[33]⟩
def nOr : ByteArray := ⟨#[59]⟩
def nThen : ByteArray := ⟨#[45, 62]⟩
def nNot : ByteArray := ⟨#[92, 43]⟩
def nComma : ByteArray := ⟨#[44]⟩
def nTrue : ByteArray := ⟨#[116, 114, 117, 101]⟩
def nIf : ByteArray := ⟨#[58, 45]⟩
def nCallable : ByteArray := ⟨#[99, 97, 108, 108, 97, 98, 108, 101]⟩
/-- Which kind of goal a term is. -/
def kindF (t : T) : Int := if t.k = 1 then 4 else if goesB t nCut 0 = true then 2 else if goesB t nOr 2 = true then 3 else if goesB t nThen 2 = true then 3 else if goesB t nNot 1 = true then 3 else 1
set_option maxHeartbeats 4000000 in
theorem kind_any (t : T) (ao : Option Addr) (cap : Nat) (w : World) : Calls Try.prog 92 #[tv t ao cap] w fun e w' => e = .returned (.int .i64 (kindF t)) ∧ Only (fun _ => False) w w' := by
  have HB0 : Hid (Quad w.heap.size (.int .i64 t.k) (.int .i64 t.n) (.string t.s) (.slice ao t.l.length cap) (w.alloc (.cells #[.int .i64 t.k, .int .i64 t.n, .string t.s, .slice ao t.l.length cap] 24))) := Lib.hid (heap_alloc_new w _)
  have HO0 : Hid (Only (fun _ => False) w (w.alloc (.cells #[.int .i64 t.k, .int .i64 t.n, .string t.s, .slice ao t.l.length cap] 24))) := Lib.hid (Only.alloc _ _ _)
  obtain ⟨c0, c1, c2, c3⟩ := HB0.out.cells
  have HG := Lib.hid (fun (s : ByteArray) (n : Int) W => goesBy_any t s n ao cap W)
  have HK : Hid (kindF t = if t.k = 1 then 4 else if goesB t nCut 0 = true then 2 else if goesB t nOr 2 = true then 3 else if goesB t nThen 2 = true then 3 else if goesB t nNot 1 = true then 3 else 1) := Lib.hid rfl
  generalize kindF t = K at *
  show Calls Try.prog 92 #[.agg #[.int .i64 t.k, .int .i64 t.n, .string t.s, .slice ao t.l.length cap]] w _
  by_cases h1 : t.k = 1
  · have e1 : (t.k == 1) = true := by simpa using h1
    obtain rfl : K = 4 := by rw [HK.out, if_pos h1]
    clear h1 HK
    go_enter Try.func92, Try.ntmps92
    go_wp2_with fail
    go_ret
    exact ⟨rfl, HO0.out⟩
  · have e1 : (t.k == 1) = false := by simpa using h1
    have HK1 := HK.out
    rw [if_neg h1] at HK1
    have HG0 := Lib.hid (fun W => HG.out nCut 0 W)
    have HG1 := Lib.hid (fun W => HG.out nOr 2 W)
    have HG2 := Lib.hid (fun W => HG.out nThen 2 W)
    have HG3 := Lib.hid (fun W => HG.out nNot 1 W)
    generalize goesB t nCut 0 = b0 at *
    generalize goesB t nOr 2 = b1 at *
    generalize goesB t nThen 2 = b2 at *
    generalize goesB t nNot 1 = b3 at *
    clear h1 HK HG
    cases b0 with
    | true =>
      obtain rfl : K = 2 := by simpa using HK1
      clear HK1
      go_enter Try.func92, Try.ntmps92
      go_wp2_with fail
      refine (HG0.out _).mono ?_
      rintro e w1 ⟨rfl, ho⟩
      have HO1 := Lib.hid (HO0.out.same ho)
      have HB1 := Lib.hid (HB0.out.only ho (fun e => e))
      clear ho c0 c1 c2 c3
      obtain ⟨c0, c1, c2, c3⟩ := HB1.out.cells
      go_wp2_with fail
      go_ret
      exact ⟨rfl, HO1.out⟩
    | false =>
      cases b1 with
      | true =>
        obtain rfl : K = 3 := by simpa using HK1
        clear HK1
        go_enter Try.func92, Try.ntmps92
        go_wp2_with fail
        refine (HG0.out _).mono ?_
        rintro e w1 ⟨rfl, ho⟩
        have HO1 := Lib.hid (HO0.out.same ho)
        have HB1 := Lib.hid (HB0.out.only ho (fun e => e))
        clear ho c0 c1 c2 c3
        obtain ⟨c0, c1, c2, c3⟩ := HB1.out.cells
        go_wp2_with fail
        refine (HG1.out _).mono ?_
        rintro e w2 ⟨rfl, ho⟩
        have HO2 := Lib.hid (HO1.out.same ho)
        have HB2 := Lib.hid (HB1.out.only ho (fun e => e))
        clear ho c0 c1 c2 c3
        obtain ⟨c0, c1, c2, c3⟩ := HB2.out.cells
        go_wp2_with fail
        go_ret
        exact ⟨rfl, HO2.out⟩
      | false =>
        cases b2 with
        | true =>
          obtain rfl : K = 3 := by simpa using HK1
          clear HK1
          go_enter Try.func92, Try.ntmps92
          go_wp2_with fail
          refine (HG0.out _).mono ?_
          rintro e w1 ⟨rfl, ho⟩
          have HO1 := Lib.hid (HO0.out.same ho)
          have HB1 := Lib.hid (HB0.out.only ho (fun e => e))
          clear ho c0 c1 c2 c3
          obtain ⟨c0, c1, c2, c3⟩ := HB1.out.cells
          go_wp2_with fail
          refine (HG1.out _).mono ?_
          rintro e w2 ⟨rfl, ho⟩
          have HO2 := Lib.hid (HO1.out.same ho)
          have HB2 := Lib.hid (HB1.out.only ho (fun e => e))
          clear ho c0 c1 c2 c3
          obtain ⟨c0, c1, c2, c3⟩ := HB2.out.cells
          go_wp2_with fail
          refine (HG2.out _).mono ?_
          rintro e w3 ⟨rfl, ho⟩
          have HO3 := Lib.hid (HO2.out.same ho)
          have HB3 := Lib.hid (HB2.out.only ho (fun e => e))
          clear ho c0 c1 c2 c3
          obtain ⟨c0, c1, c2, c3⟩ := HB3.out.cells
          go_wp2_with fail
          go_ret
          exact ⟨rfl, HO3.out⟩
        | false =>
          cases b3 with
          | true =>
            obtain rfl : K = 3 := by simpa using HK1
            clear HK1
            go_enter Try.func92, Try.ntmps92
            go_wp2_with fail
            refine (HG0.out _).mono ?_
            rintro e w1 ⟨rfl, ho⟩
            have HO1 := Lib.hid (HO0.out.same ho)
            have HB1 := Lib.hid (HB0.out.only ho (fun e => e))
            clear ho c0 c1 c2 c3
            obtain ⟨c0, c1, c2, c3⟩ := HB1.out.cells
            go_wp2_with fail
            refine (HG1.out _).mono ?_
            rintro e w2 ⟨rfl, ho⟩
            have HO2 := Lib.hid (HO1.out.same ho)
            have HB2 := Lib.hid (HB1.out.only ho (fun e => e))
            clear ho c0 c1 c2 c3
            obtain ⟨c0, c1, c2, c3⟩ := HB2.out.cells
            go_wp2_with fail
            refine (HG2.out _).mono ?_
            rintro e w3 ⟨rfl, ho⟩
            have HO3 := Lib.hid (HO2.out.same ho)
            have HB3 := Lib.hid (HB2.out.only ho (fun e => e))
            clear ho c0 c1 c2 c3
            obtain ⟨c0, c1, c2, c3⟩ := HB3.out.cells
            go_wp2_with fail
            refine (HG3.out _).mono ?_
            rintro e w4 ⟨rfl, ho⟩
            have HO4 := Lib.hid (HO3.out.same ho)
            have HB4 := Lib.hid (HB3.out.only ho (fun e => e))
            clear ho c0 c1 c2 c3
            obtain ⟨c0, c1, c2, c3⟩ := HB4.out.cells
            go_wp2_with fail
            go_ret
            exact ⟨rfl, HO4.out⟩
          | false =>
            obtain rfl : K = 1 := by simpa using HK1
            clear HK1
            go_enter Try.func92, Try.ntmps92
            go_wp2_with fail
            refine (HG0.out _).mono ?_
            rintro e w1 ⟨rfl, ho⟩
            have HO1 := Lib.hid (HO0.out.same ho)
            have HB1 := Lib.hid (HB0.out.only ho (fun e => e))
            clear ho c0 c1 c2 c3
            obtain ⟨c0, c1, c2, c3⟩ := HB1.out.cells
            go_wp2_with fail
            refine (HG1.out _).mono ?_
            rintro e w2 ⟨rfl, ho⟩
            have HO2 := Lib.hid (HO1.out.same ho)
            have HB2 := Lib.hid (HB1.out.only ho (fun e => e))
            clear ho c0 c1 c2 c3
            obtain ⟨c0, c1, c2, c3⟩ := HB2.out.cells
            go_wp2_with fail
            refine (HG2.out _).mono ?_
            rintro e w3 ⟨rfl, ho⟩
            have HO3 := Lib.hid (HO2.out.same ho)
            have HB3 := Lib.hid (HB2.out.only ho (fun e => e))
            clear ho c0 c1 c2 c3
            obtain ⟨c0, c1, c2, c3⟩ := HB3.out.cells
            go_wp2_with fail
            refine (HG3.out _).mono ?_
            rintro e w4 ⟨rfl, ho⟩
            have HO4 := Lib.hid (HO3.out.same ho)
            have HB4 := Lib.hid (HB3.out.only ho (fun e => e))
            clear ho c0 c1 c2 c3
            obtain ⟨c0, c1, c2, c3⟩ := HB4.out.cells
            go_wp2_with fail
            go_ret
            exact ⟨rfl, HO4.out⟩
set_option maxHeartbeats 2000000 in
theorem csize_any (w : World) : Calls Try.prog 49 #[] w (AnsBall no (sAtom nSize) w) := by
  have HQ0 := Lib.hid (Zero.new w)
  have HO0 : Hid (Only (fun _ => False) w (zeroW w)) := Lib.hid (Only.alloc _ _ _)
  go_enter Try.func49, Try.ntmps49
  go_wp2_with fail
  refine (atom_plain _ _).mono ?_
  rintro e w0 ⟨rfl, ho0⟩
  have HOA := Lib.hid (HO0.out.same ho0)
  have HQA := Lib.hid (HQ0.out.only ho0 (fun e => e))
  have hsa := ho0.size
  simp at hsa
  clear ho0 HO0 HQ0
  go_wp2_with fail
  refine (Error_atom nSize w0 _ rfl (by decide +kernel)).mono ?_
  rintro e w1 ⟨a1, p1, rfl, hl1, ho1⟩
  have HL1 := Lib.hid hl1
  have HSZ1 := Lib.hid ho1.size
  have HO1 := Lib.hid (HOA.out.same ho1)
  have HQ1 := Lib.hid (HQA.out.only ho1 (fun e => e))
  have HS1 := Lib.hid (HQ1.out.set (.int .i64 4) (.int .i64 0) (.string nError) (.slice a1 1 p1))
  clear hl1 ho1
  obtain ⟨c0, c1, c2, c3⟩ := HQ1.out.cells
  obtain ⟨f0, f1, f2, f3⟩ := HQ1.out.free
  go_wp2_with fail
  have hc := HS1.out.1.cells
  refine bodyPost_ret (v := .agg #[.int .i64 4, .int .i64 0, .string nError, .slice a1 1 p1]) (results_term rfl _ _ w.heap.size _ _ _ _ rfl hc.1 hc.2.1 hc.2.2.1 hc.2.2.2) rfl ?_
  exact ⟨a1, p1, rfl, HL1.out.fin HS1.out.2 (by omega) (by omega) HSZ1.out no_lt, Only.cut HO1.out HS1.out.2 (fun k e => by omega)⟩
/-- The ball of what is no name, if it is none. -/
def unF (t : T) : Option T := if t.k = 1 then some (sAtom nInst) else if t.k = 2 then some (.mk 4 0 nType [sAtom nCallable, t]) else none
/-- What is answered where there may be a ball. -/
def AnsMay (r : Option T) (w : World) (e : Ending) (w' : World) : Prop :=
  match r with
  | none => e = .returned (.tuple #[.agg #[.int .i64 0, .int .i64 0, .string ⟨#[]⟩, .slice none 0 0], .bool false]) ∧ Only (fun _ => False) w w'
  | some x => ∃ a p, e = .returned (.tuple #[.agg #[.int .i64 4, .int .i64 0, .string nError, .slice a 1 p], .bool true]) ∧ Row (NewP no w w') w' a [x] ∧ Only (fun _ => False) w w'
theorem results_may {fn : Func} {p u : Tmp} (h : fn.results = #[.cell p 24, .tmp u]) (tmps : Array Value) (w : World) (b : Nat) (x0 x1 x2 x3 x4 : Value) (ha : tmps.getD p undef = .pointer (some ⟨b, 0, none⟩)) (hu : tmps.getD u undef = x4) (h0 : w.cell? ⟨b, 0, none⟩ = some x0) (h1 : w.cell? ⟨b, 1, none⟩ = some x1) (h2 : w.cell? ⟨b, 2, none⟩ = some x2) (h3 : w.cell? ⟨b, 3, none⟩ = some x3) :
    (results fn tmps).run Try.prog w = .ok (.tuple #[.agg #[x0, x1, x2, x3], x4]) w := by
  have ha' : tmps[p]?.getD undef = .pointer (some ⟨b, 0, none⟩) := by simpa using ha
  have hu' : tmps[u]?.getD undef = x4 := by simpa using hu
  simp only [results, h]
  go_simp
set_option maxHeartbeats 4000000 in
theorem unnamed_any (t : T) (ao : Option Addr) (cap : Nat) (w : World) (hs : t.Sane) (hl : Lies w ao t.l) (hz : t.size ≤ 300000) : Calls Try.prog 59 #[tv t ao cap] w (AnsMay (unF t) w) := by
  have HQ0 := Lib.hid (twoW_zero w t ao cap)
  have HB0 := Lib.hid (twoW_box w t ao cap)
  have HO0 := Lib.hid (twoW_only w t ao cap)
  have HZ0 := Lib.hid (twoW_size w t ao cap)
  obtain ⟨c0, c1, c2, c3⟩ := HB0.out.cells
  obtain ⟨d0, d1, d2, d3⟩ := HQ0.out.cells
  obtain ⟨f0, f1, f2, f3⟩ := HQ0.out.free
  have HTY := Lib.hid (fun (W : World) (ho : Only (fun _ => False) w W) => Type_any nCallable t ao cap W (by decide +kernel) hs (hl.later ho) hz)
  show Calls Try.prog 59 #[.agg #[.int .i64 t.k, .int .i64 t.n, .string t.s, .slice ao t.l.length cap]] w _
  clear hs hl hz
  by_cases h1 : t.k = 1
  · have e1 : (t.k == 1) = true := by simpa using h1
    have HE : unF t = some (sAtom nInst) := if_pos h1
    rw [HE]
    clear h1 HE
    go_enter Try.func59, Try.ntmps59
    go_wp2_with fail
    refine (Error_none _).mono ?_
    rintro e w1 ⟨a1, p1, rfl, hl1, ho1⟩
    have HL1 := Lib.hid hl1
    have HSZ1 := Lib.hid ho1.size
    have HO1 := Lib.hid (HO0.out.same ho1)
    have HQ1 := Lib.hid (HQ0.out.only ho1 (fun e => e))
    have HS1 := Lib.hid (HQ1.out.set (.int .i64 4) (.int .i64 0) (.string nError) (.slice a1 1 p1))
    clear hl1 ho1 c0 c1 c2 c3 d0 d1 d2 d3 f0 f1 f2 f3
    obtain ⟨c0, c1, c2, c3⟩ := HQ1.out.cells
    obtain ⟨f0, f1, f2, f3⟩ := HQ1.out.free
    go_wp2_with fail
    have hc := HS1.out.1.cells
    refine bodyPost_ret (v := .tuple #[.agg #[.int .i64 4, .int .i64 0, .string nError, .slice a1 1 p1], .bool true]) (results_may rfl _ _ (w.heap.size + 1) _ _ _ _ _ rfl rfl hc.1 hc.2.1 hc.2.2.1 hc.2.2.2) rfl ?_
    exact ⟨a1, p1, rfl, HL1.out.fin HS1.out.2 (by omega) (by simp) HSZ1.out no_lt, Only.cut HO1.out HS1.out.2 (fun k e => by omega)⟩
  · have e1 : (t.k == 1) = false := by simpa using h1
    by_cases h2 : t.k = 2
    · have e2 : (t.k == 2) = true := by simpa using h2
      have HE : unF t = some (.mk 4 0 nType [sAtom nCallable, t]) := by unfold unF; rw [if_neg h1, if_pos h2]
      rw [HE]
      clear h1 h2 HE
      go_enter Try.func59, Try.ntmps59
      go_wp2_with fail
      refine (HTY.out _ HO0.out).mono ?_
      rintro e w1 ⟨a1, p1, rfl, hl1, ho1⟩
      have HL1 := Lib.hid hl1
      have HSZ1 := Lib.hid ho1.size
      have HO1 := Lib.hid (HO0.out.same ho1)
      have HQ1 := Lib.hid (HQ0.out.only ho1 (fun e => e))
      have HS1 := Lib.hid (HQ1.out.set (.int .i64 4) (.int .i64 0) (.string nError) (.slice a1 1 p1))
      clear hl1 ho1 c0 c1 c2 c3 d0 d1 d2 d3 f0 f1 f2 f3
      obtain ⟨c0, c1, c2, c3⟩ := HQ1.out.cells
      obtain ⟨f0, f1, f2, f3⟩ := HQ1.out.free
      go_wp2_with fail
      have hc := HS1.out.1.cells
      refine bodyPost_ret (v := .tuple #[.agg #[.int .i64 4, .int .i64 0, .string nError, .slice a1 1 p1], .bool true]) (results_may rfl _ _ (w.heap.size + 1) _ _ _ _ _ rfl rfl hc.1 hc.2.1 hc.2.2.1 hc.2.2.2) rfl ?_
      exact ⟨a1, p1, rfl, HL1.out.fin HS1.out.2 (by omega) (by simp) HSZ1.out no_lt, Only.cut HO1.out HS1.out.2 (fun k e => by omega)⟩
    · have e2 : (t.k == 2) = false := by simpa using h2
      have HE : unF t = none := by unfold unF; rw [if_neg h1, if_neg h2]
      rw [HE]
      clear h1 h2 HE
      go_enter Try.func59, Try.ntmps59
      go_wp2_with fail
      have hc := HQ0.out.cells
      refine bodyPost_ret (v := .tuple #[.agg #[.int .i64 0, .int .i64 0, .string ⟨#[]⟩, .slice none 0 0], .bool false]) (results_may rfl _ _ (w.heap.size + 1) _ _ _ _ _ rfl rfl hc.1 hc.2.1 hc.2.2.1 hc.2.2.2) rfl ?_
      exact ⟨rfl, HO0.out⟩
end Go.Proofs.Ytoogmlgaeipenaa.terms
