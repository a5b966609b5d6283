/- Arithmetic: the program's Type and Indicator. -/
import Derived.Test.YtoogmlgaeipenaaArith2
namespace Go.Proofs.Ytoogmlgaeipenaa.terms
set_option maxRecDepth 100000
open Go.RowKit Go.Proofs.Ytoogmlgaeipenaa.own Go.Maps
/-- A term's box, and a result's cell, just laid. -/
abbrev twoW (w : World) (t : T) (ao : Option Addr) (cap : Nat) : World := zeroW (w.alloc (.cells #[.int .i64 t.k, .int .i64 t.n, .string t.s, .slice ao t.l.length cap] 24))
theorem twoW_box (w : World) (t : T) (ao : Option Addr) (cap : Nat) : Quad w.heap.size (.int .i64 t.k) (.int .i64 t.n) (.string t.s) (.slice ao t.l.length cap) (twoW w t ao cap) := Quad.only (b := w.heap.size) (heap_alloc_new w _) (Only.alloc (fun _ => False) _ _) (fun e => e)
theorem twoW_zero (w : World) (t : T) (ao : Option Addr) (cap : Nat) : Zero (w.heap.size + 1) (twoW w t ao cap) := by
  have := Zero.new (w.alloc (.cells #[.int .i64 t.k, .int .i64 t.n, .string t.s, .slice ao t.l.length cap] 24))
  rwa [show (w.alloc (.cells #[.int .i64 t.k, .int .i64 t.n, .string t.s, .slice ao t.l.length cap] 24)).heap.size = w.heap.size + 1 by simp] at this
theorem twoW_only (w : World) (t : T) (ao : Option Addr) (cap : Nat) : Only (fun _ => False) w (twoW w t ao cap) := (Only.alloc _ _ _).same (Only.alloc _ _ _)
theorem twoW_size (w : World) (t : T) (ao : Option Addr) (cap : Nat) : (twoW w t ao cap).heap.size = w.heap.size + 2 := by simp
set_option maxHeartbeats 4000000 in
theorem Type_any (s : ByteArray) (t : T) (ao : Option Addr) (cap : Nat) (w : World) (hs : s.size ≤ maxLen) (ht : t.Sane) (hl : Lies w ao t.l) (hz : t.size ≤ 300000) :
    Calls Try.prog 83 #[.string s, tv t ao cap] w (AnsBall no (.mk 4 0 nType [sAtom s, t]) w) := by
  have HQ0 := Lib.hid (twoW_zero w t ao cap)
  have HB0 := Lib.hid (twoW_box w t ao cap)
  have HO0 := Lib.hid (twoW_only w t ao cap)
  have HZ0 := Lib.hid (twoW_size w t ao cap)
  have HD0 : Hid (Only (fun _ => False) (twoW w t ao cap) (twoW w t ao cap).drew) := Lib.hid (Only.drew _ _)
  have HK : Hid (∀ W', Only (· = w.heap.size + 1) (twoW w t ao cap) W' → W'.cell? ⟨w.heap.size, 0, none⟩ = some (.int .i64 t.k) ∧ W'.cell? ⟨w.heap.size, 1, none⟩ = some (.int .i64 t.n) ∧ W'.cell? ⟨w.heap.size, 2, none⟩ = some (.string t.s) ∧ W'.cell? ⟨w.heap.size, 3, none⟩ = some (.slice ao t.l.length cap)) := Lib.hid (fun W' ho => (HB0.out.only ho (by omega)).cells)
  have HC := Lib.hid (fun (W : World) (ho : Only (fun _ => False) (twoW w t ao cap) W) => Comp_two nType (sAtom s) t none ao 0 cap W _ rfl (by decide +kernel) (sane_atom hs) (Row.nil _ _ _) ht (hl.later (HO0.out.same ho)) (by rw [size_atom]; omega) (by omega))
  have HE := Lib.hid (fun (W : World) (a : Option Addr) (p : Nat) (h : Lies W a [sAtom s, t]) => Error_comp nType [sAtom s, t] 2 rfl a p W _ rfl (by decide +kernel) (by decide +kernel) h (by simp [sizes, size_atom]; omega))
  show Calls Try.prog 83 #[.string s, .agg #[.int .i64 t.k, .int .i64 t.n, .string t.s, .slice ao t.l.length cap]] w _
  clear hs ht hl hz
  go_enter Try.func83, Try.ntmps83
  go_wp2_with fail
  go_region_held3 (fun W' => W'.cell? ⟨w.heap.size, 0, none⟩ = some (.int .i64 t.k) ∧ W'.cell? ⟨w.heap.size, 1, none⟩ = some (.int .i64 t.n) ∧ W'.cell? ⟨w.heap.size, 2, none⟩ = some (.string t.s) ∧ W'.cell? ⟨w.heap.size, 3, none⟩ = some (.slice ao t.l.length cap)) (first | exact HK.out _ ((HO1.out.no _).same HS1.out.2) | exact HK.out _ (HO1.out.no _) | exact HK.out _ (HOB.out.no _) | exact HK.out _ (HOB2.out.no _) | exact HK.out _ (HOA.out.no _) | exact HK.out _ (HOA2.out.no _) | exact HK.out _ (HD0.out.no _) | go_keep) (first
    | (go_at_call 45; refine (atom_plain _ _).mono ?_; rintro e wa ⟨rfl, hoa⟩; have HOA : Hid (Only (fun _ => False) (twoW w t ao cap) wa) := Lib.hid (HD0.out.same hoa); have HOA2 : Hid (∀ o, Only (fun _ => False) (twoW w t ao cap) (wa.alloc o)) := Lib.hid (fun o => HOA.out.same (Only.alloc _ _ _)); clear hoa)
    | (go_at_call 78; refine (HC.out wa HOA.out).mono ?_; rintro e wb ⟨ab, pb, rfl, hlb, hob⟩; have HLB := Lib.hid hlb; have HOB : Hid (Only (fun _ => False) (twoW w t ao cap) wb) := Lib.hid (HOA.out.same hob); have HOB2 : Hid (∀ o, Only (fun _ => False) (twoW w t ao cap) (wb.alloc o)) := Lib.hid (fun o => HOB.out.same (Only.alloc _ _ _)); clear hlb hob)
    | (go_at_call 42; refine (HE.out wb ab pb (HLB.out.mono (fun k hk => by rcases hk with hk | hk; exact hk.elim; exact hk.2))).mono ?_; rintro e w1 ⟨a1, p1, rfl, hl1, ho1⟩; have HL1 := Lib.hid hl1; have HSZ1 := Lib.hid ho1.size; have HO1 : Hid (Only (fun _ => False) (twoW w t ao cap) w1) := Lib.hid (HOB.out.same ho1); have HQ1 := Lib.hid (HQ0.out.only HO1.out (fun e => e)); have HS1 := Lib.hid (HQ1.out.set (.int .i64 4) (.int .i64 0) (.string nError) (.slice a1 1 p1)); clear hl1 ho1; obtain ⟨c0, c1, c2, c3⟩ := HQ1.out.cells; obtain ⟨f0, f1, f2, f3⟩ := HQ1.out.free))
  go_wp2_with fail
  have hc := HS1.out.1.cells
  refine bodyPost_ret (v := .agg #[.int .i64 4, .int .i64 0, .string nError, .slice a1 1 p1]) (results_term rfl _ _ (w.heap.size + 1) _ _ _ _ rfl hc.1 hc.2.1 hc.2.2.1 hc.2.2.2) rfl ?_
  exact ⟨a1, p1, rfl, HL1.out.fin HS1.out.2 (by omega) (by have := HOB.out.size; have := HZ0.out; omega) HSZ1.out no_lt, Only.cut (HO0.out.same HO1.out) HS1.out.2 (fun k e => by omega)⟩
theorem intA (n : Int) (w : World) : Calls Try.prog 114 #[.int .i64 n] w fun e w' => e = .returned (.agg #[.int .i64 2, .int .i64 n, .string ⟨#[]⟩, .slice none 0 0]) ∧ Only (fun _ => False) w w' := int_any n w
/-- Nothing is answered. -/
abbrev AnsZero (w : World) (e : Ending) (w' : World) : Prop := e = .returned (.agg #[.int .i64 0, .int .i64 0, .string ⟨#[]⟩, .slice none 0 0]) ∧ Only (fun _ => False) w w'
def slashF (t : T) : List T := [sAtom t.s, sInt t.l.length]
abbrev AnsSlash (t : T) (w : World) (e : Ending) (w' : World) : Prop := ∃ a p, e = .returned (.agg #[.int .i64 4, .int .i64 0, .string ⟨#[47]⟩, .slice a 2 p]) ∧ Row (NewP no w w') w' a (slashF t) ∧ Only (fun _ => False) w w'
set_option maxHeartbeats 4000000 in
theorem Ind_not (t : T) (ao : Option Addr) (cap : Nat) (w : World) (h3 : t.k ≠ 3) (h4 : t.k ≠ 4) :
    Calls Try.prog 84 #[tv t ao cap] w (AnsZero w) := by
  have HQ0 := Lib.hid (twoW_zero w t ao cap)
  have HO0 := Lib.hid (twoW_only w t ao cap)
  obtain ⟨c0, c1, c2, c3⟩ := (twoW_box w t ao cap).cells
  obtain ⟨d0, d1, d2, d3⟩ := HQ0.out.cells
  obtain ⟨f0, f1, f2, f3⟩ := HQ0.out.free
  have e3 : (t.k == 3) = false := by simpa using h3
  have e4 : (t.k == 4) = false := by simpa using h4
  show Calls Try.prog 84 #[.agg #[.int .i64 t.k, .int .i64 t.n, .string t.s, .slice ao t.l.length cap]] w _
  go_enter Try.func84, Try.ntmps84
  go_wp2_with fail
  have hc := HQ0.out.cells
  refine bodyPost_ret (v := .agg #[.int .i64 0, .int .i64 0, .string ⟨#[]⟩, .slice none 0 0]) (results_term rfl _ _ (w.heap.size + 1) _ _ _ _ rfl hc.1 hc.2.1 hc.2.2.1 hc.2.2.2) rfl ?_
  exact ⟨rfl, HO0.out⟩
set_option maxHeartbeats 4000000 in
theorem Ind_no3 (t : T) (ao : Option Addr) (cap : Nat) (w : World) (hk : t.k = 3) (hs : t.Sane) (hl : Lies w ao t.l) (hz : t.size ≤ 900000) (hno : ¬ t.Ok) :
    Calls Try.prog 84 #[tv t ao cap] w (AnsZero w) := by
  have HQ0 := Lib.hid (twoW_zero w t ao cap)
  have HB0 := Lib.hid (twoW_box w t ao cap)
  have HO0 := Lib.hid (twoW_only w t ao cap)
  obtain ⟨c0, c1, c2, c3⟩ := HB0.out.cells
  have HCH := Lib.hid (fun (W : World) (ho : Only (fun _ => False) w W) => check_any t W ao cap (hl.later ho) hs hz)
  have HNO := Lib.hid hno
  have e3 : (t.k == 3) = true := by simpa using hk
  show Calls Try.prog 84 #[.agg #[.int .i64 t.k, .int .i64 t.n, .string t.s, .slice ao t.l.length cap]] w _
  clear hs hl hz hno hk
  go_enter Try.func84, Try.ntmps84
  go_wp2_with fail
  refine (HCH.out _ HO0.out).mono ?_
  rintro e w1 ⟨⟨c, rfl, hc⟩, ho1⟩
  have hcn : (c != 0) = true := by simpa using fun e => HNO.out (hc.1 e)
  have HQ1 := Lib.hid (HQ0.out.only ho1 (fun e => e))
  have HO1 := Lib.hid (HO0.out.same ho1)
  have HS1 := Lib.hid (HQ1.out.set (.int .i64 0) (.int .i64 0) (.string ⟨#[]⟩) (.slice none 0 0))
  clear c0 c1 c2 c3 ho1 hc
  obtain ⟨d0, d1, d2, d3⟩ := HQ1.out.cells
  obtain ⟨f0, f1, f2, f3⟩ := HQ1.out.free
  go_wp2_with fail
  have hc := HS1.out.1.cells
  refine bodyPost_ret (v := .agg #[.int .i64 0, .int .i64 0, .string ⟨#[]⟩, .slice none 0 0]) (results_term rfl _ _ (w.heap.size + 1) _ _ _ _ rfl hc.1 hc.2.1 hc.2.2.1 hc.2.2.2) rfl ?_
  exact ⟨rfl, Only.cut HO1.out HS1.out.2 (fun k e => by omega)⟩
set_option maxHeartbeats 4000000 in
theorem Ind_no4 (t : T) (ao : Option Addr) (cap : Nat) (w : World) (hk : t.k = 4) (hs : t.Sane) (hl : Lies w ao t.l) (hz : t.size ≤ 900000) (hno : ¬ t.Ok) :
    Calls Try.prog 84 #[tv t ao cap] w (AnsZero w) := by
  have HQ0 := Lib.hid (twoW_zero w t ao cap)
  have HB0 := Lib.hid (twoW_box w t ao cap)
  have HO0 := Lib.hid (twoW_only w t ao cap)
  obtain ⟨c0, c1, c2, c3⟩ := HB0.out.cells
  have HCH := Lib.hid (fun (W : World) (ho : Only (fun _ => False) w W) => check_any t W ao cap (hl.later ho) hs hz)
  have HNO := Lib.hid hno
  have e3 : (t.k == 3) = false := by simpa using (show t.k ≠ 3 by omega)
  have e4 : (t.k == 4) = true := by simpa using hk
  show Calls Try.prog 84 #[.agg #[.int .i64 t.k, .int .i64 t.n, .string t.s, .slice ao t.l.length cap]] w _
  clear hs hl hz hno hk
  go_enter Try.func84, Try.ntmps84
  go_wp2_with fail
  refine (HCH.out _ HO0.out).mono ?_
  rintro e w1 ⟨⟨c, rfl, hc⟩, ho1⟩
  have hcn : (c != 0) = true := by simpa using fun e => HNO.out (hc.1 e)
  have HQ1 := Lib.hid (HQ0.out.only ho1 (fun e => e))
  have HO1 := Lib.hid (HO0.out.same ho1)
  have HS1 := Lib.hid (HQ1.out.set (.int .i64 0) (.int .i64 0) (.string ⟨#[]⟩) (.slice none 0 0))
  clear c0 c1 c2 c3 ho1 hc
  obtain ⟨d0, d1, d2, d3⟩ := HQ1.out.cells
  obtain ⟨f0, f1, f2, f3⟩ := HQ1.out.free
  go_wp2_with fail
  have hc := HS1.out.1.cells
  refine bodyPost_ret (v := .agg #[.int .i64 0, .int .i64 0, .string ⟨#[]⟩, .slice none 0 0]) (results_term rfl _ _ (w.heap.size + 1) _ _ _ _ rfl hc.1 hc.2.1 hc.2.2.1 hc.2.2.2) rfl ?_
  exact ⟨rfl, Only.cut HO1.out HS1.out.2 (fun k e => by omega)⟩
set_option maxHeartbeats 4000000 in
theorem Ind_ok3 (t : T) (ao : Option Addr) (cap : Nat) (w : World) (hk : t.k = 3) (hs : t.Sane) (hl : Lies w ao t.l) (hz : t.size ≤ 900000) (hok : t.Ok) :
    Calls Try.prog 84 #[tv t ao cap] w (AnsSlash t w) := by
  have HQ0 := Lib.hid (twoW_zero w t ao cap)
  have HB0 := Lib.hid (twoW_box w t ao cap)
  have HO0 := Lib.hid (twoW_only w t ao cap)
  have HZ0 := Lib.hid (twoW_size w t ao cap)
  obtain ⟨c0, c1, c2, c3⟩ := HB0.out.cells
  have HCH := Lib.hid (fun (W : World) (ho : Only (fun _ => False) w W) => check_any t W ao cap (hl.later ho) hs hz)
  have HOK := Lib.hid hok
  have hlen := hs.l
  have HC := Lib.hid (fun (W : World) => Comp_two ⟨#[47]⟩ (sAtom t.s) (sInt t.l.length) none none 0 0 W _ rfl (by decide +kernel) (sane_atom hs.s) (Row.nil _ _ _) (sane_int ⟨by omega, by unfold maxLen at hlen; omega⟩) (Row.nil _ _ _) (by rw [size_atom]; omega) (by rw [size_int]; omega))
  have e3 : (t.k == 3) = true := by simpa using hk
  show Calls Try.prog 84 #[.agg #[.int .i64 t.k, .int .i64 t.n, .string t.s, .slice ao t.l.length cap]] w _
  clear hs hl hz hok hk hlen
  go_enter Try.func84, Try.ntmps84
  go_wp2_with fail
  refine (HCH.out _ HO0.out).mono ?_
  rintro e w0 ⟨⟨c, rfl, hc⟩, ho0⟩
  obtain rfl := hc.2 HOK.out
  have HB1 := Lib.hid (HB0.out.only ho0 (fun e => e))
  have HQ1 := Lib.hid (HQ0.out.only ho0 (fun e => e))
  have HON := Lib.hid (HO0.out.same ho0)
  have HSZ0 := Lib.hid ho0.size
  have HD0 : Hid (Only (fun _ => False) w0 w0.drew) := Lib.hid (Only.drew _ _)
  have HK : Hid (∀ W', Only (· = w.heap.size + 1) w0 W' → W'.cell? ⟨w.heap.size, 0, none⟩ = some (.int .i64 t.k) ∧ W'.cell? ⟨w.heap.size, 1, none⟩ = some (.int .i64 t.n) ∧ W'.cell? ⟨w.heap.size, 2, none⟩ = some (.string t.s) ∧ W'.cell? ⟨w.heap.size, 3, none⟩ = some (.slice ao t.l.length cap)) := Lib.hid (fun W' ho => (HB1.out.only ho (by omega)).cells)
  clear c0 c1 c2 c3 ho0 hc
  go_wp2_with fail
  go_region_held3 (fun W' => W'.cell? ⟨w.heap.size, 0, none⟩ = some (.int .i64 t.k) ∧ W'.cell? ⟨w.heap.size, 1, none⟩ = some (.int .i64 t.n) ∧ W'.cell? ⟨w.heap.size, 2, none⟩ = some (.string t.s) ∧ W'.cell? ⟨w.heap.size, 3, none⟩ = some (.slice ao t.l.length cap)) (first | exact HK.out _ ((HO1.out.no _).same HS1.out.2) | exact HK.out _ (HO1.out.no _) | exact HK.out _ (HOB.out.no _) | exact HK.out _ (HOB2.out.no _) | exact HK.out _ (HOA.out.no _) | exact HK.out _ (HD0.out.no _) | go_keep) (first
    | (go_at_call 45; refine (atom_plain _ _).mono ?_; rintro e wa ⟨rfl, hoa⟩; have HOA : Hid (Only (fun _ => False) w0 wa) := Lib.hid (by first | exact HOB.out.same hoa | exact HD0.out.same hoa); clear hoa)
    | (go_at_call 114; refine (intA _ _).mono ?_; rintro e wb ⟨rfl, hob⟩; have HOB : Hid (Only (fun _ => False) w0 wb) := Lib.hid (by first | exact HOA.out.same hob | exact HD0.out.same hob); have HOB2 : Hid (∀ o, Only (fun _ => False) w0 (wb.alloc o)) := Lib.hid (fun o => HOB.out.same (Only.alloc _ _ _)); clear hob)
    | (go_at_call 78; refine (HC.out _).mono ?_; rintro e w1 ⟨a1, p1, rfl, hl1, ho1⟩; have HL1 := Lib.hid hl1; have HSZ1 := Lib.hid ho1.size; have HO1 : Hid (Only (fun _ => False) w0 w1) := Lib.hid (by first | exact HOB.out.same ho1 | exact HOA.out.same ho1); have HQ2 := Lib.hid (HQ1.out.only HO1.out (fun e => e)); have HS1 := Lib.hid (HQ2.out.set (.int .i64 4) (.int .i64 0) (.string ⟨#[47]⟩) (.slice a1 2 p1)); clear hl1 ho1; obtain ⟨c0, c1, c2, c3⟩ := HQ2.out.cells; obtain ⟨f0, f1, f2, f3⟩ := HQ2.out.free))
  all_goals
    go_wp2_with fail
    have hc := HS1.out.1.cells
    refine bodyPost_ret (v := .agg #[.int .i64 4, .int .i64 0, .string ⟨#[47]⟩, .slice a1 2 p1]) (results_term rfl _ _ (w.heap.size + 1) _ _ _ _ rfl hc.1 hc.2.1 hc.2.2.1 hc.2.2.2) rfl ?_
    exact ⟨a1, p1, rfl, HL1.out.fin HS1.out.2 (by omega) (by have := HOB.out.size; have := HOA.out.size; have := HSZ0.out; have := HZ0.out; omega) HSZ1.out no_lt, Only.cut (HON.out.same HO1.out) HS1.out.2 (fun k e => by omega)⟩
set_option maxHeartbeats 4000000 in
theorem Ind_ok4 (t : T) (ao : Option Addr) (cap : Nat) (w : World) (hk : t.k = 4) (hs : t.Sane) (hl : Lies w ao t.l) (hz : t.size ≤ 900000) (hok : t.Ok) :
    Calls Try.prog 84 #[tv t ao cap] w (AnsSlash t w) := by
  have HQ0 := Lib.hid (twoW_zero w t ao cap)
  have HB0 := Lib.hid (twoW_box w t ao cap)
  have HO0 := Lib.hid (twoW_only w t ao cap)
  have HZ0 := Lib.hid (twoW_size w t ao cap)
  obtain ⟨c0, c1, c2, c3⟩ := HB0.out.cells
  have HCH := Lib.hid (fun (W : World) (ho : Only (fun _ => False) w W) => check_any t W ao cap (hl.later ho) hs hz)
  have HOK := Lib.hid hok
  have hlen := hs.l
  have HC := Lib.hid (fun (W : World) => Comp_two ⟨#[47]⟩ (sAtom t.s) (sInt t.l.length) none none 0 0 W _ rfl (by decide +kernel) (sane_atom hs.s) (Row.nil _ _ _) (sane_int ⟨by omega, by unfold maxLen at hlen; omega⟩) (Row.nil _ _ _) (by rw [size_atom]; omega) (by rw [size_int]; omega))
  have e3 : (t.k == 3) = false := by simpa using (show t.k ≠ 3 by omega)
  have e4 : (t.k == 4) = true := by simpa using hk
  show Calls Try.prog 84 #[.agg #[.int .i64 t.k, .int .i64 t.n, .string t.s, .slice ao t.l.length cap]] w _
  clear hs hl hz hok hk hlen
  go_enter Try.func84, Try.ntmps84
  go_wp2_with fail
  refine (HCH.out _ HO0.out).mono ?_
  rintro e w0 ⟨⟨c, rfl, hc⟩, ho0⟩
  obtain rfl := hc.2 HOK.out
  have HB1 := Lib.hid (HB0.out.only ho0 (fun e => e))
  have HQ1 := Lib.hid (HQ0.out.only ho0 (fun e => e))
  have HON := Lib.hid (HO0.out.same ho0)
  have HSZ0 := Lib.hid ho0.size
  have HD0 : Hid (Only (fun _ => False) w0 w0.drew) := Lib.hid (Only.drew _ _)
  have HK : Hid (∀ W', Only (· = w.heap.size + 1) w0 W' → W'.cell? ⟨w.heap.size, 0, none⟩ = some (.int .i64 t.k) ∧ W'.cell? ⟨w.heap.size, 1, none⟩ = some (.int .i64 t.n) ∧ W'.cell? ⟨w.heap.size, 2, none⟩ = some (.string t.s) ∧ W'.cell? ⟨w.heap.size, 3, none⟩ = some (.slice ao t.l.length cap)) := Lib.hid (fun W' ho => (HB1.out.only ho (by omega)).cells)
  clear c0 c1 c2 c3 ho0 hc
  go_wp2_with fail
  go_region_held3 (fun W' => W'.cell? ⟨w.heap.size, 0, none⟩ = some (.int .i64 t.k) ∧ W'.cell? ⟨w.heap.size, 1, none⟩ = some (.int .i64 t.n) ∧ W'.cell? ⟨w.heap.size, 2, none⟩ = some (.string t.s) ∧ W'.cell? ⟨w.heap.size, 3, none⟩ = some (.slice ao t.l.length cap)) (first | exact HK.out _ ((HO1.out.no _).same HS1.out.2) | exact HK.out _ (HO1.out.no _) | exact HK.out _ (HOB.out.no _) | exact HK.out _ (HOB2.out.no _) | exact HK.out _ (HOA.out.no _) | exact HK.out _ (HD0.out.no _) | go_keep) (first
    | (go_at_call 45; refine (atom_plain _ _).mono ?_; rintro e wa ⟨rfl, hoa⟩; have HOA : Hid (Only (fun _ => False) w0 wa) := Lib.hid (by first | exact HOB.out.same hoa | exact HD0.out.same hoa); clear hoa)
    | (go_at_call 114; refine (intA _ _).mono ?_; rintro e wb ⟨rfl, hob⟩; have HOB : Hid (Only (fun _ => False) w0 wb) := Lib.hid (by first | exact HOA.out.same hob | exact HD0.out.same hob); have HOB2 : Hid (∀ o, Only (fun _ => False) w0 (wb.alloc o)) := Lib.hid (fun o => HOB.out.same (Only.alloc _ _ _)); clear hob)
    | (go_at_call 78; refine (HC.out _).mono ?_; rintro e w1 ⟨a1, p1, rfl, hl1, ho1⟩; have HL1 := Lib.hid hl1; have HSZ1 := Lib.hid ho1.size; have HO1 : Hid (Only (fun _ => False) w0 w1) := Lib.hid (by first | exact HOB.out.same ho1 | exact HOA.out.same ho1); have HQ2 := Lib.hid (HQ1.out.only HO1.out (fun e => e)); have HS1 := Lib.hid (HQ2.out.set (.int .i64 4) (.int .i64 0) (.string ⟨#[47]⟩) (.slice a1 2 p1)); clear hl1 ho1; obtain ⟨c0, c1, c2, c3⟩ := HQ2.out.cells; obtain ⟨f0, f1, f2, f3⟩ := HQ2.out.free))
  all_goals
    go_wp2_with fail
    have hc := HS1.out.1.cells
    refine bodyPost_ret (v := .agg #[.int .i64 4, .int .i64 0, .string ⟨#[47]⟩, .slice a1 2 p1]) (results_term rfl _ _ (w.heap.size + 1) _ _ _ _ rfl hc.1 hc.2.1 hc.2.2.1 hc.2.2.2) rfl ?_
    exact ⟨a1, p1, rfl, HL1.out.fin HS1.out.2 (by omega) (by have := HOB.out.size; have := HOA.out.size; have := HSZ0.out; have := HZ0.out; omega) HSZ1.out no_lt, Only.cut (HON.out.same HO1.out) HS1.out.2 (fun k e => by omega)⟩
end Go.Proofs.Ytoogmlgaeipenaa.terms
