/- Arithmetic: the law ArithParts. -/
import Derived.Test.YtleofkmfeooaaaaArith20
namespace Go.Proofs.Ytleofkmfeooaaaa.terms
set_option maxRecDepth 100000
open Go.RowKit Go.Proofs.Ytleofkmfeooaaaa.own Go.Maps
/-- Two integers, each in a cell of its own. -/
structure IntsAt (bx by_ : Nat) (a b : Int) (W : World) : Prop where
  x : Quad bx (.int .i64 2) (.int .i64 a) (.string ⟨#[]⟩) (.slice none 0 0) W
  y : Quad by_ (.int .i64 2) (.int .i64 b) (.string ⟨#[]⟩) (.slice none 0 0) W
theorem IntsAt.later {bx by_ : Nat} {a b : Int} {W W' : World} (h : IntsAt bx by_ a b W) (ho : Only (fun _ => False) W W') : IntsAt bx by_ a b W' := ⟨h.x.only ho (fun e => e), h.y.only ho (fun e => e)⟩
theorem IntsAt.new (a b : Int) (w : World) : IntsAt w.heap.size (w.heap.size + 1) a b ((w.alloc (.cells #[.int .i64 2, .int .i64 a, .string ⟨#[]⟩, .slice none 0 0] 24)).alloc (.cells #[.int .i64 2, .int .i64 b, .string ⟨#[]⟩, .slice none 0 0] 24)) := by
  refine ⟨Quad.only (b := w.heap.size) (heap_alloc_new w _) (Only.alloc (fun _ => False) _ _) (fun e => e), ?_⟩
  have h := heap_alloc_new (w.alloc (.cells #[.int .i64 2, .int .i64 a, .string ⟨#[]⟩, .slice none 0 0] 24)) (.cells #[.int .i64 2, .int .i64 b, .string ⟨#[]⟩, .slice none 0 0] 24)
  rwa [show (w.alloc (.cells #[.int .i64 2, .int .i64 a, .string ⟨#[]⟩, .slice none 0 0] 24)).heap.size = w.heap.size + 1 by simp] at h
theorem chk_int (a : Int) (hf : Fits a) (W : World) : Calls Try.prog 21 #[.agg #[.int .i64 2, .int .i64 a, .string ⟨#[]⟩, .slice none 0 0]] W fun e w' => e = .returned (.int .i64 (rcheckF (sInt a))) ∧ Only (fun _ => False) W w' :=
  rCheck_any (sInt a) W none 0 (Row.nil _ _ _) (sane_int hf) (by rw [depth_int]; omega) (by rw [size_int]; omega)
theorem Eval_num {s : ByteArray} {a b n : Int} (hr : evalR (.mk 4 0 s [sInt a, sInt b]) = .num n) (hs : s.size ≤ maxLen) (w : World) (ao : Option Addr) (cap : Nat) (hl : Lies w ao [sInt a, sInt b]) :
    Calls Try.prog 14 #[.agg #[.int .i64 4, .int .i64 0, .string s, .slice ao 2 cap]] w fun e w' => e = .returned (.tuple #[.int .i64 n, .agg #[.int .i64 0, .int .i64 0, .string ⟨#[]⟩, .slice none 0 0], .bool true]) ∧ Only (fun _ => False) w w' :=
  Eval_leaf2 hr hs w ao cap hl
theorem rComp_intsB (s : ByteArray) (a b : Int) (w : World) (k : Nat) (hk : w.heap.size = k) (hs : s.size ≤ maxLen) (ha : Fits a) (hb : Fits b) :
    Calls Try.prog 22 #[.string s, .slice (some ⟨k, 0, none⟩) 2 2] (w.alloc (.cells #[.int .i64 2, .int .i64 a, .string ⟨#[]⟩, .slice none 0 0, .int .i64 2, .int .i64 b, .string ⟨#[]⟩, .slice none 0 0] 24)) fun e w' => ∃ ao' cap', e = .returned (.agg #[.int .i64 4, .int .i64 0, .string s, .slice ao' 2 cap']) ∧ Lies w' ao' [sInt a, sInt b] ∧ Only (fun _ => False) w w' := by
  subst hk
  exact rComp_ints s a b w hs ha hb
set_option maxHeartbeats 8000000 in
theorem law_parts (a b : Int) (hfa : Fits a) (hfb : Fits b) (w : World) :
    Calls Try.prog 5 #[.int .i64 a, .int .i64 b] w fun e w' => e = .returned (.bool true) ∧ Below w.heap.size w w' := by
  have HLV := Lib.hid (fun W => arithLives_any W)
  have HCA := Lib.hid (fun W => chk_int a hfa W)
  have HCB := Lib.hid (fun W => chk_int b hfb W)
  have HCO := Lib.hid (fun (s : ByteArray) (hs : s.size ≤ maxLen) W k (hk : W.heap.size = k) => rComp_intsB s a b W k hk hs hfa hfb)
  have HA0 := Lib.hid (int_chk a)
  have HB0 := Lib.hid (int_chk b)
  by_cases ha : rcheckF (sInt a) = 0
  · rw [ha] at HCA
    by_cases hb : rcheckF (sInt b) = 0
    · rw [hb] at HCB
      have hra := HA0.out.1 ha
      have hrb := HB0.out.1 hb
      clear ha hb
      by_cases hbz : b = 0
      · have hb0 : (b == 0) = true := by simpa using hbz
        clear hra hrb hbz
        go_enter Try.func5, Try.ntmps5
        go_wp2_with fail
        refine (rintA _ _).mono ?_
        rintro e w1 ⟨rfl, ho1⟩
        go_wp2_with fail
        refine (rintA _ _).mono ?_
        rintro e w2 ⟨rfl, ho2⟩
        have HO2 := Lib.hid ((ho1.same ho2).same ((Only.alloc _ _ (.cells #[.int .i64 2, .int .i64 a, .string ⟨#[]⟩, .slice none 0 0] 24)).same (Only.alloc _ _ (.cells #[.int .i64 2, .int .i64 b, .string ⟨#[]⟩, .slice none 0 0] 24))))
        have HI2 := Lib.hid (IntsAt.new a b w2)
        clear ho1 ho2
        go_wp2_with fail
        generalize (w2.alloc (.cells #[.int .i64 2, .int .i64 a, .string ⟨#[]⟩, .slice none 0 0] 24)).alloc (.cells #[.int .i64 2, .int .i64 b, .string ⟨#[]⟩, .slice none 0 0] 24) = w3 at *
        generalize w2.heap.size + 1 = by0 at *
        generalize w2.heap.size = bx0 at *
        refine (HCA.out _).mono ?_
        rintro e w4 ⟨rfl, ho4⟩
        have HO4 := Lib.hid (HO2.out.same ho4)
        have HI4 := Lib.hid (HI2.out.later ho4)
        clear ho4
        obtain ⟨c0, c1, c2, c3⟩ := HI4.out.y.cells
        go_wp2_with fail
        refine (HCB.out _).mono ?_
        rintro e w5 ⟨rfl, ho5⟩
        have HO5 := Lib.hid (HO4.out.same ho5)
        have HI5 := Lib.hid (HI4.out.later ho5)
        clear ho5 c0 c1 c2 c3
        go_wp2_with fail
        refine (HLV.out _).mono ?_
        rintro e w9 ⟨rfl, ho9⟩
        have HO9 := Lib.hid (HO5.out.same ho9)
        clear ho9
        go_wp2_with fail
        go_ret
        exact ⟨rfl, HO9.out.to_below⟩
      · have hb0 : (b == 0) = false := by simpa using hbz
        obtain ⟨l1, l2, l3, l4⟩ := parts_laws hra hbz
        have e1 : evalR (.mk 4 0 ⟨#[47, 47]⟩ [sInt a, sInt b]) = .num (a.tdiv b) := (eval_two (by decide +kernel) (by kernel_rfl) hra hrb).trans (fin_div (by kernel_rfl) hbz (tdiv_rng hra))
        have e2 : evalR (.mk 4 0 ⟨#[114, 101, 109]⟩ [sInt a, sInt b]) = .num (a.tmod b) := (eval_two (by decide +kernel) (by kernel_rfl) hra hrb).trans (fin_div (by kernel_rfl) hbz (tmod_rng hra))
        have e3 : evalR (.mk 4 0 ⟨#[109, 111, 100]⟩ [sInt a, sInt b]) = .num (modF a b) := (eval_two (by decide +kernel) (by kernel_rfl) hra hrb).trans (fin_div (by kernel_rfl) hbz (mod_rng hra hrb hbz))
        have HEQ := Lib.hid (fun W ao cap h => Eval_num e1 (by decide +kernel) W ao cap h)
        have HER := Lib.hid (fun W ao cap h => Eval_num e2 (by decide +kernel) W ao cap h)
        have HEM := Lib.hid (fun W ao cap h => Eval_num e3 (by decide +kernel) W ao cap h)
        have r1 := tdiv_rng (b := b) hra
        have r2 := tmod_rng (b := b) hra
        have r3 := mod_rng hra hrb hbz
        clear e1 e2 e3
        generalize a.tdiv b = q at *
        generalize a.tmod b = n at *
        generalize modF a b = m at *
        obtain ⟨p1, p2⟩ := r1
        obtain ⟨p3, p4⟩ := r2
        obtain ⟨p5, p6⟩ := r3
        obtain ⟨p7, p8⟩ := hra
        obtain ⟨p9, p10⟩ := hrb
        have w1' : wrap64 (q * b) = q * b := by unfold wrap64; generalize q * b = z at *; omega
        have w2' : wrap64 (q * b + n) = a := by rw [l1]; unfold wrap64; omega
        have HWQ := Lib.hid w1'
        have HWA := Lib.hid w2'
        have HF : Hid (∀ x y z v : Bool, (x = true) → (y = true) → (z = true) → True) := Lib.hid (fun _ _ _ _ _ _ _ => trivial)
        have L2 : (m == 0) = true ∨ ((m == 0) = false ∧ (decide (m < 0) == decide (b < 0)) = true) := by
          by_cases h : m = 0
          · exact .inl (by simpa using h)
          · refine .inr ⟨by simpa using h, ?_⟩
            have := l2.resolve_left h
            simpa using this
        have L3 : (m - n == 0) = true ∨ ((m - n == 0) = false ∧ (m - n == b) = true) := by
          by_cases h : m - n = 0
          · exact .inl (by simpa using h)
          · refine .inr ⟨by simpa using h, ?_⟩
            have := l3.resolve_left h
            simpa using this
        have L4 : (n == 0) = true ∨ ((n == 0) = false ∧ (decide (n < 0) == decide (a < 0)) = true) := by
          by_cases h : n = 0
          · exact .inl (by simpa using h)
          · refine .inr ⟨by simpa using h, ?_⟩
            have := l4.resolve_left h
            simpa using this
        have HL2 := Lib.hid L2
        have HL3 := Lib.hid L3
        have HL4 := Lib.hid L4
        clear l1 l2 l3 l4 w1' w2' L2 L3 L4 hbz
        go_enter Try.func5, Try.ntmps5
        go_wp2_with fail
        refine (rintA _ _).mono ?_
        rintro e w1 ⟨rfl, ho1⟩
        go_wp2_with fail
        refine (rintA _ _).mono ?_
        rintro e w2 ⟨rfl, ho2⟩
        have HO2 := Lib.hid ((ho1.same ho2).same ((Only.alloc _ _ (.cells #[.int .i64 2, .int .i64 a, .string ⟨#[]⟩, .slice none 0 0] 24)).same (Only.alloc _ _ (.cells #[.int .i64 2, .int .i64 b, .string ⟨#[]⟩, .slice none 0 0] 24))))
        have HI2 := Lib.hid (IntsAt.new a b w2)
        clear ho1 ho2
        go_wp2_with fail
        generalize (w2.alloc (.cells #[.int .i64 2, .int .i64 a, .string ⟨#[]⟩, .slice none 0 0] 24)).alloc (.cells #[.int .i64 2, .int .i64 b, .string ⟨#[]⟩, .slice none 0 0] 24) = w3 at *
        generalize w2.heap.size + 1 = by0 at *
        generalize w2.heap.size = bx0 at *
        refine (HCA.out _).mono ?_
        rintro e w4 ⟨rfl, ho4⟩
        have HO4 := Lib.hid (HO2.out.same ho4)
        have HI4 := Lib.hid (HI2.out.later ho4)
        clear ho4
        obtain ⟨c0, c1, c2, c3⟩ := HI4.out.y.cells
        go_wp2_with fail
        refine (HCB.out _).mono ?_
        rintro e w5 ⟨rfl, ho5⟩
        have HO5 := Lib.hid (HO4.out.same ho5)
        have HI5 := Lib.hid (HI4.out.later ho5)
        clear ho5 c0 c1 c2 c3
        obtain ⟨c0, c1, c2, c3⟩ := HI5.out.x.cells
        obtain ⟨d0, d1, d2, d3⟩ := HI5.out.y.cells
        go_wp2_with fail
        refine (HCO.out _ (by decide +kernel) _ _ (by simp)).mono ?_
        rintro e u11 ⟨a11, p11', rfl, hl11, ho11⟩
        have HOa11 := Lib.hid (HO5.out.same ho11)
        have HIa11 := Lib.hid (HI5.out.later ho11)
        have HL11' := Lib.hid hl11
        clear c0 c1 c2 c3 d0 d1 d2 d3 hl11 ho11
        go_wp2_with fail
        refine (HEQ.out _ _ _ HL11'.out).mono ?_
        rintro e v11 ⟨rfl, ho11⟩
        have ho := ho11.same (Only.alloc (fun _ => False) v11 (.cells #[.int .i64 0, .int .i64 0, .string ⟨#[]⟩, .slice none 0 0] 24))
        have HO11 := Lib.hid (HOa11.out.same ho)
        have HI11 := Lib.hid (HIa11.out.later ho)
        clear ho11 ho
        obtain ⟨c0, c1, c2, c3⟩ := HI11.out.x.cells
        obtain ⟨d0, d1, d2, d3⟩ := HI11.out.y.cells
        go_wp2_with fail
        refine (HCO.out _ (by decide +kernel) _ _ (by simp)).mono ?_
        rintro e u12 ⟨a12, p12', rfl, hl12, ho12⟩
        have HOa12 := Lib.hid (HO11.out.same ho12)
        have HIa12 := Lib.hid (HI11.out.later ho12)
        have HL12' := Lib.hid hl12
        clear c0 c1 c2 c3 d0 d1 d2 d3 hl12 ho12
        go_wp2_with fail
        refine (HER.out _ _ _ HL12'.out).mono ?_
        rintro e v12 ⟨rfl, ho12⟩
        have ho := ho12.same (Only.alloc (fun _ => False) v12 (.cells #[.int .i64 0, .int .i64 0, .string ⟨#[]⟩, .slice none 0 0] 24))
        have HO12 := Lib.hid (HOa12.out.same ho)
        have HI12 := Lib.hid (HIa12.out.later ho)
        clear ho12 ho
        obtain ⟨c0, c1, c2, c3⟩ := HI12.out.x.cells
        obtain ⟨d0, d1, d2, d3⟩ := HI12.out.y.cells
        go_wp2_with fail
        refine (HCO.out _ (by decide +kernel) _ _ (by simp)).mono ?_
        rintro e u13 ⟨a13, p13', rfl, hl13, ho13⟩
        have HOa13 := Lib.hid (HO12.out.same ho13)
        have HIa13 := Lib.hid (HI12.out.later ho13)
        have HL13' := Lib.hid hl13
        clear c0 c1 c2 c3 d0 d1 d2 d3 hl13 ho13
        go_wp2_with fail
        refine (HEM.out _ _ _ HL13'.out).mono ?_
        rintro e v13 ⟨rfl, ho13⟩
        have ho := ho13.same (Only.alloc (fun _ => False) v13 (.cells #[.int .i64 0, .int .i64 0, .string ⟨#[]⟩, .slice none 0 0] 24))
        have HO13 := Lib.hid (HOa13.out.same ho)
        have HI13 := Lib.hid (HIa13.out.later ho)
        clear ho13 ho
        go_wp2_with fail
        refine (HLV.out _).mono ?_
        rintro e w9 ⟨rfl, ho9⟩
        have HO9 := Lib.hid (HO13.out.same ho9)
        clear ho9
        have w1' := HWQ.out
        have w2' := HWA.out
        rcases HL2.out with f2 | ⟨f2, g2⟩ <;> rcases HL3.out with f3 | ⟨f3, g3⟩ <;> rcases HL4.out with f4 | ⟨f4, g4⟩ <;>
          (go_wp2_with fail
           go_ret
           exact ⟨rfl, HO9.out.to_below⟩)
    · have hne : (rcheckF (sInt b) != 0) = true := by simpa using hb
      clear hb ha HA0 HB0
      generalize rcheckF (sInt b) = cb at *
      go_enter Try.func5, Try.ntmps5
      go_wp2_with fail
      refine (rintA _ _).mono ?_
      rintro e w1 ⟨rfl, ho1⟩
      go_wp2_with fail
      refine (rintA _ _).mono ?_
      rintro e w2 ⟨rfl, ho2⟩
      have HO2 := Lib.hid ((ho1.same ho2).same ((Only.alloc _ _ (.cells #[.int .i64 2, .int .i64 a, .string ⟨#[]⟩, .slice none 0 0] 24)).same (Only.alloc _ _ (.cells #[.int .i64 2, .int .i64 b, .string ⟨#[]⟩, .slice none 0 0] 24))))
      have HI2 := Lib.hid (IntsAt.new a b w2)
      clear ho1 ho2
      go_wp2_with fail
      generalize (w2.alloc (.cells #[.int .i64 2, .int .i64 a, .string ⟨#[]⟩, .slice none 0 0] 24)).alloc (.cells #[.int .i64 2, .int .i64 b, .string ⟨#[]⟩, .slice none 0 0] 24) = w3 at *
      generalize w2.heap.size + 1 = by0 at *
      generalize w2.heap.size = bx0 at *
      refine (HCA.out _).mono ?_
      rintro e w4 ⟨rfl, ho4⟩
      have HO4 := Lib.hid (HO2.out.same ho4)
      have HI4 := Lib.hid (HI2.out.later ho4)
      clear ho4
      obtain ⟨c0, c1, c2, c3⟩ := HI4.out.y.cells
      go_wp2_with fail
      refine (HCB.out _).mono ?_
      rintro e w5 ⟨rfl, ho5⟩
      have HO5 := Lib.hid (HO4.out.same ho5)
      have HI5 := Lib.hid (HI4.out.later ho5)
      clear ho5 c0 c1 c2 c3
      go_wp2_with fail
      refine (HLV.out _).mono ?_
      rintro e w9 ⟨rfl, ho9⟩
      have HO9 := Lib.hid (HO5.out.same ho9)
      clear ho9
      go_wp2_with fail
      go_ret
      exact ⟨rfl, HO9.out.to_below⟩
  · have hne : (rcheckF (sInt a) != 0) = true := by simpa using ha
    clear ha HA0 HB0
    generalize rcheckF (sInt a) = ca at *
    go_enter Try.func5, Try.ntmps5
    go_wp2_with fail
    refine (rintA _ _).mono ?_
    rintro e w1 ⟨rfl, ho1⟩
    go_wp2_with fail
    refine (rintA _ _).mono ?_
    rintro e w2 ⟨rfl, ho2⟩
    have HO2 := Lib.hid ((ho1.same ho2).same ((Only.alloc _ _ (.cells #[.int .i64 2, .int .i64 a, .string ⟨#[]⟩, .slice none 0 0] 24)).same (Only.alloc _ _ (.cells #[.int .i64 2, .int .i64 b, .string ⟨#[]⟩, .slice none 0 0] 24))))
    have HI2 := Lib.hid (IntsAt.new a b w2)
    clear ho1 ho2
    go_wp2_with fail
    generalize (w2.alloc (.cells #[.int .i64 2, .int .i64 a, .string ⟨#[]⟩, .slice none 0 0] 24)).alloc (.cells #[.int .i64 2, .int .i64 b, .string ⟨#[]⟩, .slice none 0 0] 24) = w3 at *
    generalize w2.heap.size + 1 = by0 at *
    generalize w2.heap.size = bx0 at *
    refine (HCA.out _).mono ?_
    rintro e w4 ⟨rfl, ho4⟩
    have HO4 := Lib.hid (HO2.out.same ho4)
    have HI4 := Lib.hid (HI2.out.later ho4)
    clear ho4
    go_wp2_with fail
    refine (HLV.out _).mono ?_
    rintro e w9 ⟨rfl, ho9⟩
    have HO9 := Lib.hid (HO4.out.same ho9)
    clear ho9
    go_wp2_with fail
    go_ret
    exact ⟨rfl, HO9.out.to_below⟩
end Go.Proofs.Ytleofkmfeooaaaa.terms
