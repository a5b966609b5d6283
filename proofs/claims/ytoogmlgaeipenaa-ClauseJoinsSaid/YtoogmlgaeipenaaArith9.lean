
/- Arithmetic: the reference's balls. -/
import Derived.Test.YtoogmlgaeipenaaArith3
namespace Go.Proofs.Ytoogmlgaeipenaa.terms
set_option maxRecDepth 100000
open Go.RowKit Go.Proofs.Ytoogmlgaeipenaa.own Go.Maps
theorem Row.nest {P : Nat → Prop} {W wb w1 : World} {ao : Option Addr} {l : List T} (h : Row (NewP (NewP P W wb) wb w1) w1 ao l) (h1 : W.heap.size ≤ wb.heap.size) (h2 : wb.heap.size ≤ w1.heap.size) : Row (NewP P W w1) w1 ao l := h.mono (fun k hk => by
  rcases hk with (hk | hk) | hk
  · exact .inl hk
  · exact .inr ⟨hk.1, by omega⟩
  · exact .inr ⟨by omega, hk.2⟩)
theorem newP_lt {P : Nat → Prop} {W wb : World} (hP : ∀ k, P k → k < W.heap.size) (h1 : W.heap.size ≤ wb.heap.size) : ∀ k, NewP P W wb k → k < wb.heap.size := fun k hk => by
  rcases hk with hk | hk
  · have := hP k hk; omega
  · exact hk.2
set_option maxHeartbeats 2000000 in
theorem rError_any {P : Nat → Prop} (t : T) (ao : Option Addr) (cap : Nat) (w : World) (ht : t.Sane) (hl : Row P w ao t.l) (hP : ∀ k, P k → k < w.heap.size) :
    Calls Try.prog 40 #[tv t ao cap] w (AnsBall P t w) := by
  have HQ0 := Lib.hid (twoW_zero w t ao cap)
  have HO0 := Lib.hid (twoW_only w t ao cap)
  have HZ0 := Lib.hid (twoW_size w t ao cap)
  have HPP := Lib.hid hP
  obtain ⟨c0, c1, c2, c3⟩ := (twoW_box w t ao cap).cells
  have HC := Lib.hid (fun (W : World) (b : Nat) (hb : W.heap.size = b) (ho : Only (fun _ => False) w W) => rComp_one (P := P) nError t ao cap W b hb (by decide +kernel) ht (hl.only ho hP (fun _ _ e => e)) (fun k hk => Nat.lt_of_lt_of_le (hP k hk) ho.size))
  show Calls Try.prog 40 #[.agg #[.int .i64 t.k, .int .i64 t.n, .string t.s, .slice ao t.l.length cap]] w _
  clear ht hl hP
  go_enter Try.func40, Try.ntmps40
  go_wp2_with fail
  refine (HC.out _ _ (by simp) HO0.out).mono ?_
  rintro e w1 ⟨a1, p1, rfl, hl1, ho1⟩
  have HL1 := Lib.hid hl1
  have HSZ1 := Lib.hid ho1.size
  have HO1 := Lib.hid (HO0.out.same ho1)
  have HQ1 := Lib.hid (HQ0.out.only ho1 (fun e => e))
  have HS1 := Lib.hid (HQ1.out.set (.int .i64 4) (.int .i64 0) (.string nError) (.slice a1 1 p1))
  clear c0 c1 c2 c3 hl1 ho1
  obtain ⟨c0, c1, c2, c3⟩ := HQ1.out.cells
  obtain ⟨f0, f1, f2, f3⟩ := HQ1.out.free
  go_wp2_with fail
  have hc := HS1.out.1.cells
  refine bodyPost_ret (v := .agg #[.int .i64 4, .int .i64 0, .string nError, .slice a1 1 p1]) (results_term rfl _ _ (w.heap.size + 1) _ _ _ _ rfl hc.1 hc.2.1 hc.2.2.1 hc.2.2.2) rfl ?_
  exact ⟨a1, p1, rfl, HL1.out.fin HS1.out.2 (by omega) (by have := HZ0.out; omega) HSZ1.out HPP.out, Only.cut HO1.out HS1.out.2 (fun k e => by omega)⟩
theorem rError_atom (s : ByteArray) (w : World) (hs : s.size ≤ maxLen) : Calls Try.prog 40 #[.agg #[.int .i64 3, .int .i64 0, .string s, .slice none 0 0]] w (AnsBall no (sAtom s) w) :=
  rError_any (sAtom s) none 0 w (sane_atom hs) (Row.nil _ _ _) no_lt
theorem rError_comp {P : Nat → Prop} (s : ByteArray) (l : List T) (n : Nat) (hn : n = l.length) (ao : Option Addr) (cap : Nat) (w : World) (hs : s.size ≤ maxLen) (hln : n ≤ maxLen) (hl : Row P w ao l) (hP : ∀ k, P k → k < w.heap.size) :
    Calls Try.prog 40 #[.agg #[.int .i64 4, .int .i64 0, .string s, .slice ao n cap]] w (AnsBall P (.mk 4 0 s l) w) := by
  subst hn
  exact rError_any (.mk 4 0 s l) ao cap w (sane_comp hs hln) hl hP
set_option maxHeartbeats 2000000 in
theorem rInst_any (w : World) : Calls Try.prog 43 #[] w (AnsBall no (sAtom nInst) w) := by
  have HQ0 := Lib.hid (Zero.new w)
  have HO0 : Hid (Only (fun _ => False) w (zeroW w)) := Lib.hid (Only.alloc _ _ _)
  go_enter Try.func43, Try.ntmps43
  go_wp2_with fail
  refine (ratom_plain _ _).mono ?_
  rintro e w0 ⟨rfl, ho0⟩
  have HOA := Lib.hid (HO0.out.same ho0)
  have HQA := Lib.hid (HQ0.out.only ho0 (fun e => e))
  have hsa := ho0.size
  simp at hsa
  clear ho0 HO0 HQ0
  go_wp2_with fail
  refine (rError_atom nInst w0 (by decide +kernel)).mono ?_
  rintro e w1 ⟨a1, p1, rfl, hl1, ho1⟩
  have HL1 := Lib.hid hl1
  have HSZ1 := Lib.hid ho1.size
  have HO1 := Lib.hid (HOA.out.same ho1)
  have HQ1 := Lib.hid (HQA.out.only ho1 (fun e => e))
  have HS1 := Lib.hid (HQ1.out.set (.int .i64 4) (.int .i64 0) (.string nError) (.slice a1 1 p1))
  clear hl1 ho1
  obtain ⟨c0, c1, c2, c3⟩ := HQ1.out.cells
  obtain ⟨f0, f1, f2, f3⟩ := HQ1.out.free
  go_wp2_with fail
  have hc := HS1.out.1.cells
  refine bodyPost_ret (v := .agg #[.int .i64 4, .int .i64 0, .string nError, .slice a1 1 p1]) (results_term rfl _ _ w.heap.size _ _ _ _ rfl hc.1 hc.2.1 hc.2.2.1 hc.2.2.2) rfl ?_
  exact ⟨a1, p1, rfl, HL1.out.fin HS1.out.2 (by omega) (by omega) HSZ1.out no_lt, Only.cut HO1.out HS1.out.2 (fun k e => by omega)⟩
set_option maxHeartbeats 2000000 in
theorem rSize_any (w : World) : Calls Try.prog 61 #[] w (AnsBall no (sAtom nSize) w) := by
  have HQ0 := Lib.hid (Zero.new w)
  have HO0 : Hid (Only (fun _ => False) w (zeroW w)) := Lib.hid (Only.alloc _ _ _)
  go_enter Try.func61, Try.ntmps61
  go_wp2_with fail
  refine (ratom_plain _ _).mono ?_
  rintro e w0 ⟨rfl, ho0⟩
  have HOA := Lib.hid (HO0.out.same ho0)
  have HQA := Lib.hid (HQ0.out.only ho0 (fun e => e))
  have hsa := ho0.size
  simp at hsa
  clear ho0 HO0 HQ0
  go_wp2_with fail
  refine (rError_atom nSize w0 (by decide +kernel)).mono ?_
  rintro e w1 ⟨a1, p1, rfl, hl1, ho1⟩
  have HL1 := Lib.hid hl1
  have HSZ1 := Lib.hid ho1.size
  have HO1 := Lib.hid (HOA.out.same ho1)
  have HQ1 := Lib.hid (HQA.out.only ho1 (fun e => e))
  have HS1 := Lib.hid (HQ1.out.set (.int .i64 4) (.int .i64 0) (.string nError) (.slice a1 1 p1))
  clear hl1 ho1
  obtain ⟨c0, c1, c2, c3⟩ := HQ1.out.cells
  obtain ⟨f0, f1, f2, f3⟩ := HQ1.out.free
  go_wp2_with fail
  have hc := HS1.out.1.cells
  refine bodyPost_ret (v := .agg #[.int .i64 4, .int .i64 0, .string nError, .slice a1 1 p1]) (results_term rfl _ _ w.heap.size _ _ _ _ rfl hc.1 hc.2.1 hc.2.2.1 hc.2.2.2) rfl ?_
  exact ⟨a1, p1, rfl, HL1.out.fin HS1.out.2 (by omega) (by omega) HSZ1.out no_lt, Only.cut HO1.out HS1.out.2 (fun k e => by omega)⟩
set_option maxHeartbeats 4000000 in
theorem rType_any {P : Nat → Prop} (s : ByteArray) (t : T) (ao : Option Addr) (cap : Nat) (w : World) (hs : s.size ≤ maxLen) (ht : t.Sane) (hl : Row P w ao t.l) (hP : ∀ k, P k → k < w.heap.size) :
    Calls Try.prog 41 #[.string s, tv t ao cap] w (AnsBall P (.mk 4 0 nType [sAtom s, t]) w) := by
  have HQ0 := Lib.hid (twoW_zero w t ao cap)
  have HB0 := Lib.hid (twoW_box w t ao cap)
  have HO0 := Lib.hid (twoW_only w t ao cap)
  have HZ0 := Lib.hid (twoW_size w t ao cap)
  have HPP := Lib.hid hP
  have HD0 : Hid (Only (fun _ => False) (twoW w t ao cap) (twoW w t ao cap).drew) := Lib.hid (Only.drew _ _)
  have HK : Hid (∀ W', Only (· = w.heap.size + 1) (twoW w t ao cap) W' → W'.cell? ⟨w.heap.size, 0, none⟩ = some (.int .i64 t.k) ∧ W'.cell? ⟨w.heap.size, 1, none⟩ = some (.int .i64 t.n) ∧ W'.cell? ⟨w.heap.size, 2, none⟩ = some (.string t.s) ∧ W'.cell? ⟨w.heap.size, 3, none⟩ = some (.slice ao t.l.length cap)) := Lib.hid (fun W' ho => (HB0.out.only ho (by omega)).cells)
  have HC := Lib.hid (fun (W : World) (ho : Only (fun _ => False) (twoW w t ao cap) W) => rComp_two (P := P) nType (sAtom s) t none ao 0 cap W _ rfl (by decide +kernel) (sane_atom hs) (Row.nil _ _ _) ht (hl.only (HO0.out.same ho) hP (fun _ _ e => e)) (fun k hk => Nat.lt_of_lt_of_le (hP k hk) (HO0.out.same ho).size))
  have HE := Lib.hid (fun (W wa : World) (a : Option Addr) (p : Nat) (h1 : (twoW w t ao cap).heap.size ≤ wa.heap.size) (h2 : wa.heap.size ≤ W.heap.size) (h : Row (NewP P wa W) W a [sAtom s, t]) => rError_comp nType [sAtom s, t] 2 rfl a p W (by decide +kernel) (by decide +kernel) h (newP_lt (fun k hk => Nat.lt_of_lt_of_le (hP k hk) (by have := HZ0.out; omega)) h2))
  show Calls Try.prog 41 #[.string s, .agg #[.int .i64 t.k, .int .i64 t.n, .string t.s, .slice ao t.l.length cap]] w _
  clear hs ht hl hP
  go_enter Try.func41, Try.ntmps41
  go_wp2_with fail
  go_region_held3 (fun W' => W'.cell? ⟨w.heap.size, 0, none⟩ = some (.int .i64 t.k) ∧ W'.cell? ⟨w.heap.size, 1, none⟩ = some (.int .i64 t.n) ∧ W'.cell? ⟨w.heap.size, 2, none⟩ = some (.string t.s) ∧ W'.cell? ⟨w.heap.size, 3, none⟩ = some (.slice ao t.l.length cap)) (first | exact HK.out _ ((HO1.out.no _).same HS1.out.2) | exact HK.out _ (HO1.out.no _) | exact HK.out _ (HOB.out.no _) | exact HK.out _ (HOA2.out.no _) | exact HK.out _ (HOA.out.no _) | exact HK.out _ (HD0.out.no _) | go_keep) (first
    | (go_at_call 38; refine (ratom_plain _ _).mono ?_; rintro e wa ⟨rfl, hoa⟩; have HOA : Hid (Only (fun _ => False) (twoW w t ao cap) wa) := Lib.hid (HD0.out.same hoa); have HOA2 : Hid (∀ o, Only (fun _ => False) (twoW w t ao cap) (wa.alloc o)) := Lib.hid (fun o => HOA.out.same (Only.alloc _ _ _)); clear hoa)
    | (go_at_call 13; refine (HC.out wa HOA.out).mono ?_; rintro e wb ⟨ab, pb, rfl, hlb, hob⟩; have HLB := Lib.hid hlb; have HSB := Lib.hid hob.size; have HOB : Hid (Only (fun _ => False) (twoW w t ao cap) wb) := Lib.hid (HOA.out.same hob); clear hlb hob)
    | (go_at_call 40; refine (HE.out wb wa ab pb HOA.out.size HSB.out HLB.out).mono ?_; rintro e w1 ⟨a1, p1, rfl, hl1, ho1⟩; have HL1 := Lib.hid (hl1.nest HSB.out ho1.size); have HSZ1 := Lib.hid ho1.size; have HO1 : Hid (Only (fun _ => False) (twoW w t ao cap) w1) := Lib.hid (HOB.out.same ho1); have HQ1 := Lib.hid (HQ0.out.only HO1.out (fun e => e)); have HS1 := Lib.hid (HQ1.out.set (.int .i64 4) (.int .i64 0) (.string nError) (.slice a1 1 p1)); clear hl1 ho1; obtain ⟨c0, c1, c2, c3⟩ := HQ1.out.cells; obtain ⟨f0, f1, f2, f3⟩ := HQ1.out.free))
  go_wp2_with fail
  have hc := HS1.out.1.cells
  refine bodyPost_ret (v := .agg #[.int .i64 4, .int .i64 0, .string nError, .slice a1 1 p1]) (results_term rfl _ _ (w.heap.size + 1) _ _ _ _ rfl hc.1 hc.2.1 hc.2.2.1 hc.2.2.2) rfl ?_
  exact ⟨a1, p1, rfl, HL1.out.fin HS1.out.2 (by omega) (by have := HOA.out.size; have := HZ0.out; omega) (Nat.le_trans HSB.out HSZ1.out) HPP.out, Only.cut (HO0.out.same HO1.out) HS1.out.2 (fun k e => by omega)⟩
theorem rintA (n : Int) (w : World) : Calls Try.prog 9 #[.int .i64 n] w fun e w' => e = .returned (.agg #[.int .i64 2, .int .i64 n, .string ⟨#[]⟩, .slice none 0 0]) ∧ Only (fun _ => False) w w' := rint_any n w
end Go.Proofs.Ytoogmlgaeipenaa.terms
