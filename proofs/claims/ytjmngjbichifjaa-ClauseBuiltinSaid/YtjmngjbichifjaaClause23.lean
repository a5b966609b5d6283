/- Clauses: the law ClauseBuiltin. -/
import Derived.Test.YtjmngjbichifjaaClause22
import Derived.Test.YtjmngjbichifjaaClause5
namespace Go.Proofs.Ytjmngjbichifjaa.terms
set_option maxRecDepth 100000
open Go.RowKit Go.Proofs.Ytjmngjbichifjaa.own Go.Maps
def vIts (j : Nat) : List It := (List.range j).map (fun (i : Nat) => (⟨sVar (i : Int), none, 0⟩ : It))
def vTs (j : Nat) : List T := (List.range j).map (fun (i : Nat) => sVar (i : Int))
theorem vIts_len (j : Nat) : (vIts j).length = j := by simp [vIts]
theorem vIts_map (j : Nat) : (vIts j).map (·.t) = vTs j := by simp [vIts, vTs]
theorem vIts_succ (j : Nat) : vIts (j + 1) = vIts j ++ [⟨sVar (j : Int), none, 0⟩] := by simp [vIts, List.range_succ]
set_option maxHeartbeats 4000000 in
theorem from_built {s : ByteArray} {n : Int} (h : builtB s n = true) (hne : s ≠ ⟨#[58, 45]⟩) : ∃ m : Nat, m ≤ 4 ∧ n = (m : Int) ∧ s.size ≤ 64 ∧ fromF (compF s (vTs m)) = .ball (permF (compF s (vTs m))) := by
  unfold builtB at h
  by_cases h0 : n = 0
  · rw [if_pos h0] at h
    refine ⟨0, by omega, by omega, ?_⟩
    rcases in0 (of_decide_eq_true h) with rfl | rfl | rfl | rfl | rfl
    all_goals exact ⟨by decide +kernel, by kernel_rfl⟩
  rw [if_neg h0] at h
  by_cases h1 : n = 1
  · rw [if_pos h1] at h
    refine ⟨1, by omega, by omega, ?_⟩
    rcases in1 (of_decide_eq_true h) with rfl | rfl | rfl | rfl | rfl | rfl | rfl | rfl | rfl | rfl | rfl | rfl | rfl
    · exact absurd rfl hne
    all_goals exact ⟨by decide +kernel, by kernel_rfl⟩
  rw [if_neg h1] at h
  by_cases h2 : n = 2
  · rw [if_pos h2] at h
    refine ⟨2, by omega, by omega, ?_⟩
    rcases in2 (of_decide_eq_true h) with rfl | rfl | rfl | rfl | rfl | rfl | rfl | rfl | rfl | rfl | rfl | rfl | rfl | rfl | rfl | rfl | rfl | rfl | rfl | rfl | rfl | rfl | rfl
    · exact absurd rfl hne
    all_goals exact ⟨by decide +kernel, by kernel_rfl⟩
  rw [if_neg h2] at h
  by_cases h3 : n = 3
  · rw [if_pos h3] at h
    refine ⟨3, by omega, by omega, ?_⟩
    rcases in3 (of_decide_eq_true h) with rfl | rfl | rfl | rfl | rfl | rfl
    all_goals exact ⟨by decide +kernel, by kernel_rfl⟩
  rw [if_neg h3] at h
  by_cases h4 : n = 4
  · rw [if_pos h4] at h
    refine ⟨4, by omega, by omega, ?_⟩
    obtain rfl := in4 (of_decide_eq_true h)
    exact ⟨by decide +kernel, by kernel_rfl⟩
  rw [if_neg h4] at h
  cases h
set_option maxHeartbeats 16000000 in
theorem law_builtin (s : ByteArray) (n : Int) (hs : s.size ≤ maxLen) (hn : Fits n) (w : World) :
    Calls Try.prog 6 #[.string s, .int .i64 n] w fun e w' => e = .returned (.bool true) ∧ Below w.heap.size w w' := by
  have HLV := Lib.hid (fun W => clauseLives_any W)
  have HB := Lib.hid (fun W => Builtin_any s n W)
  have HRB := Lib.hid (fun W => rBuiltin_any s n W)
  have HSZ : Hid ((s.size : Int) = (s.size : Int)) := Lib.hid rfl
  by_cases hbig : (s.size : Int) > 1000
  · go_enter Try.func6, Try.ntmps6
    go_wp2_with fail
    refine (HLV.out _).mono ?_
    rintro e w1 ⟨rfl, ho1⟩
    have HO1 := Lib.hid ho1
    clear ho1
    go_wp2_with fail
    go_ret
    exact ⟨rfl, HO1.out.to_below⟩
  · cases hb : builtB s n with
    | false =>
      rw [hb] at HB HRB
      clear hb
      go_enter Try.func6, Try.ntmps6
      go_wp2_with fail
      refine (HB.out _).mono ?_
      rintro e w1 ⟨rfl, rfl⟩
      go_wp2_with fail
      refine (HLV.out _).mono ?_
      rintro e w2 ⟨rfl, ho2⟩
      have HO2 := Lib.hid ho2
      clear ho2
      go_wp2_with fail
      refine (HRB.out _).mono ?_
      rintro e w3 ⟨rfl, ho3⟩
      have HO3 := Lib.hid (HO2.out.same ho3)
      clear ho3
      go_wp2_with fail
      go_ret
      exact ⟨rfl, HO3.out.to_below⟩
    | true =>
      by_cases hne : s.toList = [58, 45]
      · rw [hb] at HB HRB
        have hcmp : (s.toList == [58, 45]) = true := by simpa using hne
        have hcmp2 : ([58, 45] == s.toList) = true := by simpa using hne.symm
        by_cases hn16 : n > 16
        · clear hb hne
          go_enter Try.func6, Try.ntmps6
          go_wp2_with fail
          refine (HB.out _).mono ?_
          rintro e w1 ⟨rfl, rfl⟩
          go_wp2_with fail
          refine (HLV.out _).mono ?_
          rintro e w2 ⟨rfl, ho2⟩
          have HO2 := Lib.hid ho2
          clear ho2
          go_wp2_with fail
          refine (HRB.out _).mono ?_
          rintro e w3 ⟨rfl, ho3⟩
          have HO3 := Lib.hid (HO2.out.same ho3)
          clear ho3
          go_wp2_with fail
          go_ret
          exact ⟨rfl, HO3.out.to_below⟩
        · clear hb hne
          go_enter Try.func6, Try.ntmps6
          go_wp2_with fail
          refine (HB.out _).mono ?_
          rintro e w1 ⟨rfl, rfl⟩
          go_wp2_with fail
          refine (HLV.out _).mono ?_
          rintro e w2 ⟨rfl, ho2⟩
          have HO2 := Lib.hid ho2
          clear ho2
          go_wp2_with fail
          refine (HRB.out _).mono ?_
          rintro e w3 ⟨rfl, ho3⟩
          have HO3 := Lib.hid (HO2.out.same ho3)
          clear ho3
          go_wp2_with fail
          go_ret
          exact ⟨rfl, HO3.out.to_below⟩
      · obtain ⟨m, hm4, rfl, hs64, hff⟩ := from_built hb (fun e => hne (by rw [e]; kernel_rfl))
        have hcmp : (s.toList == [58, 45]) = false := by simpa using hne
        have hcmp2 : ([58, 45] == s.toList) = false := by simpa using fun e => hne e.symm
        have hn16 : ¬ (m : Int) > 16 := by omega
        rw [hb] at HB HRB
        have HFF := Lib.hid hff
        have HM := Lib.hid hm4
        have HS64 := Lib.hid hs64
        have HSS := Lib.hid hs
        obtain ⟨i0, hi0, hz0, hz1, hz2⟩ := info_parts infoT
        clear hb hne hff hs64 hs
        go_enter Try.func6, Try.ntmps6
        go_wp2_with fail
        refine (HB.out _).mono ?_
        rintro e w1 ⟨rfl, rfl⟩
        go_wp2_with fail
        refine (HLV.out _).mono ?_
        rintro e w2 ⟨rfl, ho2⟩
        have HO2 := Lib.hid ho2
        clear ho2
        go_wp2_with fail
        refine (HRB.out _).mono ?_
        rintro e w3 ⟨rfl, ho3⟩
        have HO3 := Lib.hid (HO2.out.same ho3)
        clear ho3 HO2
        go_wp2_with fail
        go_loopw [6, 7] (fun lv iv wr => ∃ (j : Nat) (ao : Option Addr) (cap : Nat), lv = .slice ao j cap ∧ iv = .int .i64 j ∧ j ≤ m ∧ Hid (ItsP w3.heap.size ao cap (vIts j) wr ∧ Only (fun _ => False) w3 wr)) (fun _ iv _ => m - (intOf iv).toNat)
        case atStart => exact ⟨0, none, 0, rfl, rfl, by omega, Lib.hid ⟨RowOf.nil _ _ _ _ _, Only.refl _ _⟩⟩
        case round =>
          obtain ⟨j, ao, cap, rfl, rfl, hj, hI⟩ := hrel
          by_cases hlt : j < m
          · have hlti : (j : Int) < (m : Int) := by omega
            go_wp2_with fail
            refine (rvarC _ _).mono ?_
            rintro e w4 ⟨rfl, ho4⟩
            have HI4 : Hid (ItsP w3.heap.size ao cap (vIts j) w4 ∧ Only (fun _ => False) w3 w4) := Lib.hid ⟨hI.out.1.only ho4 (fun _ _ e => e), hI.out.2.same ho4⟩
            have HV := Lib.hid (vIts_len j)
            clear ho4
            go_wp2_with (first
              | (at_builtin; refine wp_append_one liesIt rfl (.tmp 42) (.tmp 45) 22 rfl w3.heap.size 24 i0 _ 56 Try.underlying22 hi0 hz0 hz1 hz2 rfl (by omega) w4 ao cap (vIts j) ⟨sVar (j : Int), none, 0⟩ [.int .i64 1, .int .i64 j, .string ⟨#[]⟩, .slice none 0 0] rfl (by rw [HV.out]; rfl) HI4.out.1 rfl (by rw [HV.out]; have := HM.out; omega) HI4.out.2.size ?_; intro ao2 cap2 w5 hrow5 ho5 _
                 rw [← vIts_succ] at hrow5
                 have HR5 := Lib.hid hrow5
                 have HO5 : Hid (Only (fun _ => False) w3 w5) := Lib.hid (Only.cut HI4.out.2 ho5 (by rintro k ⟨g, hg, e⟩; have := (HI4.out.1.head g hg).2.1; omega))
                 rw [show (vIts j ++ [(⟨sVar (j : Int), none, 0⟩ : It)]).length = j + 1 by rw [← vIts_succ, vIts_len]]
                 clear hrow5 ho5)
              | fail)
            go_roundw
            case rel => exact ⟨j + 1, ao2, cap2, rfl, by go_num, by omega, Lib.hid ⟨HR5.out, HO5.out⟩⟩
            case measure => simp [intOf]; omega
          · have hlti : ¬ (j : Int) < (m : Int) := by omega
            obtain rfl : j = m := by omega
            have HRW : Hid (Lies wr ao (vTs j)) := Lib.hid (by
              rw [← vIts_map]
              exact hI.out.1.rowAny (fun q _ h => h) (fun i x hx => by
                simp only [vIts, List.getElem?_map, List.getElem?_range] at hx
                have hm := List.mem_of_getElem? (show (vIts j)[i]? = some x by simpa [vIts] using hx)
                simp only [vIts, List.mem_map, List.mem_range] at hm
                obtain ⟨i', hi', rfl⟩ := hm
                exact ⟨sane_var _ ⟨by omega, by omega⟩, Row.nil _ _ _⟩))
            have HVL : Hid ((vTs j).length = j) := Lib.hid (by simp [vTs])
            have HCM : Hid (Calls Try.prog 13 #[.string s, .slice ao j cap] wr fun e w' => ∃ a c, e = .returned (tv (compF s (vTs j)) a c) ∧ Lies w' a (compF s (vTs j)).l ∧ (compF s (vTs j)).Sane ∧ Only (fun _ => False) wr w') := Lib.hid (by
              have := rComp_any s (vTs j) wr ao cap HSS.out HRW.out (by rw [HVL.out]; omega)
              rwa [HVL.out] at this)
            have HUS : Hid ((compF s (vTs j)).size ≤ 900000) := Lib.hid (by
              by_cases h0 : (vTs j).length = 0
              · rw [compF_zero h0, T.size_eq]; show 1 + 0 ≤ 900000; omega
              · rw [compF_some h0, T.size_eq]
                have : sizes (vTs j) = j := by
                  have : ∀ l : List Nat, sizes (l.map (fun (i : Nat) => sVar (i : Int))) = l.length := by
                    intro l
                    induction l with
                    | nil => rfl
                    | cons x r ih => rw [List.map_cons, sizes, ih]; simp [sVar, T.size, sizes]; omega
                  unfold vTs
                  rw [this, List.length_range]
                show 1 + sizes (vTs j) ≤ _
                omega)
            generalize hu : compF s (vTs j) = u at *
            have HPF : Hid (permF u = .mk 4 0 nPerm [.mk 4 0 nSlash (slashF u)]) := Lib.hid rfl
            clear hu hlt
            go_wp2_with fail
            refine HCM.out.mono ?_
            rintro e w4 ⟨a4, c4, rfl, hl4, hs4, ho4⟩
            have HFR : Hid (Calls Try.prog 16 #[tv u a4 c4] w4 (AnsFrom (.ball (permF u)) w4)) := Lib.hid (by
              have := From_any u a4 c4 w4 hs4 hl4 HUS.out
              rwa [HFF.out] at this)
            have HO4 := Lib.hid (HO3.out.same (hI.out.2.same ho4))
            clear hl4 hs4 ho4 HCM
            go_wp2_with fail
            refine HFR.out.mono ?_
            rintro e w5 ⟨a5, p5, rfl, hl5, ho5⟩
            rw [HPF.out] at hl5
            have o7 : Only (fun _ => False) w5 ((w5.alloc (.cells #[.int .i64 0, .int .i64 0, .string ⟨#[]⟩, .slice none 0 0, .slice none 0 0, .int .i64 0] 37)).alloc (.cells #[.int .i64 4, .int .i64 0, .string nError, .slice a5 1 p5] 24)) := (Only.alloc _ _ _).same (Only.alloc _ _ _)
            have HO7 := Lib.hid (HO4.out.same (ho5.same o7))
            have HBL : Hid (Quad (w5.heap.size + 1) (.int .i64 4) (.int .i64 0) (.string nError) (.slice a5 1 p5) ((w5.alloc (.cells #[.int .i64 0, .int .i64 0, .string ⟨#[]⟩, .slice none 0 0, .slice none 0 0, .int .i64 0] 37)).alloc (.cells #[.int .i64 4, .int .i64 0, .string nError, .slice a5 1 p5] 24))) := Lib.hid (at21 _ _ _)
            have HL7 := Lib.hid (hl5.later o7)
            clear hl5 ho5 o7 HFR
            obtain ⟨b, off, ro, rc, rfl, hb, x0, x1, x2, x3, _, _⟩ := HL7.out.at (i := 0) (x := .mk 4 0 nPerm [.mk 4 0 nSlash (slashF u)]) rfl
            obtain ⟨y0, y1, y2, y3⟩ := HBL.out.cells
            simp only [Nat.zero_mul, Nat.add_zero] at x0 x1 x2 x3
            have x2' : ((w5.alloc (.cells #[.int .i64 0, .int .i64 0, .string ⟨#[]⟩, .slice none 0 0, .slice none 0 0, .int .i64 0] 37)).alloc (.cells #[.int .i64 4, .int .i64 0, .string nError, .slice (some ⟨b, off, none⟩) 1 p5] 24)).cell? ⟨b, off + 2, none⟩ = some (.string ⟨#[112, 101, 114, 109]⟩) := x2
            clear x0 x1 x2 x3 hb
            go_wp2_with fail
            go_ret
            exact ⟨by first | rfl | simp, HO7.out.to_below⟩
end Go.Proofs.Ytjmngjbichifjaa.terms
