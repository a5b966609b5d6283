/- Clauses: the law ClauseAdds. -/
import Derived.Test.YtjmngjbichifjaaClause24
namespace Go.Proofs.Ytjmngjbichifjaa.terms
set_option maxRecDepth 100000
open Go.RowKit Go.Proofs.Ytjmngjbichifjaa.own Go.Maps
def frT : T ⊕ T → T
  | .inl _ => zeroT
  | .inr u => u
def snT : T ⊕ T → T
  | .inl x => .mk 4 0 nError [x]
  | .inr _ => zeroT
def okT : T ⊕ T → Bool
  | .inl _ => false
  | .inr _ => true
theorem ansAdd_tv {R : T ⊕ T} {w w' : World} {e : Ending} (h : AnsAdd R w e w') : ∃ a p b q, e = .returned (.tuple #[.agg #[.int .i64 (frT R).k, .int .i64 (frT R).n, .string (frT R).s, .slice a (frT R).l.length p], .agg #[.int .i64 (snT R).k, .int .i64 (snT R).n, .string (snT R).s, .slice b (snT R).l.length q], .bool (okT R)]) ∧ Lies w' a (frT R).l ∧ Lies w' b (snT R).l ∧ Only (fun _ => False) w w' := by
  cases R with
  | inl x =>
    obtain ⟨a, p, h1, h2, h3⟩ := h
    exact ⟨none, 0, a, p, h1, Row.nil _ _ _, h2, h3⟩
  | inr u =>
    obtain ⟨a, p, h1, h2, h3⟩ := h
    exact ⟨a, p, none, 0, h1, h2, Row.nil _ _ _, h3⟩
theorem addF_sane {t : T} {l : List T} (hs : t.Sane) (hl : t.l.length + l.length ≤ maxLen) : (frT (addF t l)).Sane ∧ (snT (addF t l)).Sane := by
  have hb : ∀ x : T, (T.mk 4 0 nError [x]).Sane := fun x => sane_comp (by decide +kernel) (by show 1 ≤ maxLen; exact small_lit (by omega))
  unfold addF
  split
  · split
    · exact ⟨sane_zero, hb _⟩
    · split
      · refine ⟨?_, sane_zero⟩
        show (compF t.s (t.l ++ l)).Sane
        by_cases h0 : (t.l ++ l).length = 0
        · rw [compF_zero h0]
          exact sane_atom hs.s
        · rw [compF_some h0]
          exact sane_comp hs.s (by rw [List.length_append]; exact hl)
      · exact ⟨sane_zero, hb _⟩
  · exact ⟨sane_zero, hb _⟩
set_option maxHeartbeats 16000000 in
theorem law_adds (ao lo : Option Addr) (cap lcap : Nat) (t : T) (l : List T) (w : World) (hl : Lies w ao t.l) (hs : t.Sane) (hll : Lies w lo l) (hlm : l.length ≤ maxLen) :
    Calls Try.prog 5 #[tv t ao cap, .slice lo l.length lcap] w fun e w' => e = .returned (.bool true) ∧ Below w.heap.size w w' := by
  have HLV := Lib.hid (fun W => clauseLives_any W)
  have HQ0 : Hid (Quad w.heap.size (.int .i64 t.k) (.int .i64 t.n) (.string t.s) (.slice ao t.l.length cap) (w.alloc (.cells #[.int .i64 t.k, .int .i64 t.n, .string t.s, .slice ao t.l.length cap] 24))) := Lib.hid (heap_alloc_new w _)
  have HO0 : Hid (Only (fun _ => False) w (w.alloc (.cells #[.int .i64 t.k, .int .i64 t.n, .string t.s, .slice ao t.l.length cap] 24))) := Lib.hid (Only.alloc _ _ _)
  have HLT : Hid (∀ W, Only (fun _ => False) w W → Calls Try.prog 14 #[tv t ao cap] W fun e w' => e = .returned (.bool t.Big) ∧ Only (fun _ => False) W w') := Lib.hid (fun W ho => rlarge_any t W ao cap (hl.later ho) hs)
  have HL := Lib.hid hl
  have HS := Lib.hid hs
  have HLL := Lib.hid hll
  have HLM := Lib.hid hlm
  obtain ⟨c0, c1, c2, c3⟩ := HQ0.out.cells
  show Calls Try.prog 5 #[.agg #[.int .i64 t.k, .int .i64 t.n, .string t.s, .slice ao t.l.length cap], .slice lo l.length lcap] w _
  clear hl hs hll hlm
  obtain ⟨Bg, hBg⟩ : ∃ Bg, t.Big = Bg := ⟨_, rfl⟩
  rw [hBg] at HLT
  have HBG := Lib.hid hBg
  clear hBg
  by_cases hbig : (l.length : Int) > 20
  · cases Bg with
    | true =>
      go_enter Try.func5, Try.ntmps5
      go_wp2_with fail
      refine (HLT.out _ HO0.out).mono ?_
      rintro e w1 ⟨rfl, ho1⟩
      have HO1 := Lib.hid (HO0.out.same ho1)
      clear ho1 c0 c1 c2 c3
      go_wp2_with fail
      refine (HLV.out _).mono ?_
      rintro e w2 ⟨rfl, ho2⟩
      have HO2 := Lib.hid (HO1.out.same ho2)
      clear ho2
      go_wp2_with fail
      go_ret
      exact ⟨rfl, HO2.out.to_below⟩
    | false =>
      go_enter Try.func5, Try.ntmps5
      go_wp2_with fail
      refine (HLT.out _ HO0.out).mono ?_
      rintro e w1 ⟨rfl, ho1⟩
      have HO1 := Lib.hid (HO0.out.same ho1)
      clear ho1 c0 c1 c2 c3
      go_wp2_with fail
      refine (HLV.out _).mono ?_
      rintro e w2 ⟨rfl, ho2⟩
      have HO2 := Lib.hid (HO1.out.same ho2)
      clear ho2
      go_wp2_with fail
      go_ret
      exact ⟨rfl, HO2.out.to_below⟩
  · cases Bg with
    | true =>
      go_enter Try.func5, Try.ntmps5
      go_wp2_with fail
      refine (HLT.out _ HO0.out).mono ?_
      rintro e w1 ⟨rfl, ho1⟩
      have HO1 := Lib.hid (HO0.out.same ho1)
      clear ho1 c0 c1 c2 c3
      go_wp2_with fail
      refine (HLV.out _).mono ?_
      rintro e w2 ⟨rfl, ho2⟩
      have HO2 := Lib.hid (HO1.out.same ho2)
      clear ho2
      go_wp2_with fail
      go_ret
      exact ⟨rfl, HO2.out.to_below⟩
    | false =>
      have hlen : l.length ≤ 20 := by omega
      go_enter Try.func5, Try.ntmps5
      go_wp2_with fail
      generalize w.alloc (.cells #[.int .i64 t.k, .int .i64 t.n, .string t.s, .slice ao t.l.length cap] 24) = E at *
      refine (HLT.out _ HO0.out).mono ?_
      rintro e w1 ⟨rfl, ho1⟩
      have HO1 := Lib.hid (HO0.out.same ho1)
      have HQ1 := Lib.hid (HQ0.out.only ho1 (fun e => e))
      clear ho1 c0 c1 c2 c3 HQ0 HO0
      go_wp2_with fail
      go_loopw [5, 6] (fun nv iv wr => ∃ (j m : Nat), nv = .int .i64 m ∧ iv = .int .i64 j ∧ j ≤ l.length ∧ m ≤ 6000 * j ∧ Hid (sizes (l.take j) = m ∧ Only (fun _ => False) w1 wr)) (fun _ iv _ => l.length - (intOf iv).toNat)
      case atStart => exact ⟨0, 0, rfl, rfl, by omega, by omega, Lib.hid ⟨rfl, Only.refl _ _⟩⟩
      case round =>
        obtain ⟨j, m, rfl, rfl, hj, hm, hI⟩ := hrel
        by_cases hlt : j < l.length
        · obtain ⟨x, hx⟩ : ∃ x, l[j]? = some x := ⟨_, List.getElem?_eq_getElem hlt⟩
          obtain ⟨b, off, ro, rc, rfl, hb, c0, c1, c2, c3, hsane, hsub⟩ := (HLL.out.later (HO1.out.same hI.out.2)).at hx
          have HX := Lib.hid hx
          have HLX := Lib.hid (rlarge_any x wr ro rc hsub hsane)
          have HKX : Hid (∀ W, Only (fun _ => False) wr W → W.cell? ⟨b, off + j * 4, none⟩ = some (.int .i64 x.k) ∧ W.cell? ⟨b, off + j * 4 + 1, none⟩ = some (.int .i64 x.n) ∧ W.cell? ⟨b, off + j * 4 + 2, none⟩ = some (.string x.s) ∧ W.cell? ⟨b, off + j * 4 + 3, none⟩ = some (.slice ro x.l.length rc)) := Lib.hid (fun W ho => ⟨(ho.cell (p := ⟨b, off + j * 4, none⟩) hb (fun e => e)).trans c0, (ho.cell (p := ⟨b, off + j * 4 + 1, none⟩) hb (fun e => e)).trans c1, (ho.cell (p := ⟨b, off + j * 4 + 2, none⟩) hb (fun e => e)).trans c2, (ho.cell (p := ⟨b, off + j * 4 + 3, none⟩) hb (fun e => e)).trans c3⟩)
          have HSA := Lib.hid hsane
          have HSUB := Lib.hid hsub
          clear hx hsane hsub
          cases hbx : x.Big with
          | true =>
            rw [hbx] at HLX
            clear hbx
            go_wp2_with fail
            refine HLX.out.mono ?_
            rintro e w2 ⟨rfl, ho2⟩
            have HO2 := Lib.hid (HO1.out.same (hI.out.2.same ho2))
            clear ho2 c0 c1 c2 c3
            go_wp2_with fail
            refine (HLV.out _).mono ?_
            rintro e w3 ⟨rfl, ho3⟩
            have HO3 := Lib.hid (HO2.out.same ho3)
            clear ho3
            go_wp2_with fail
            go_ret
            exact ⟨rfl, HO3.out.to_below⟩
          | false =>
            have hfew := T.few hbx
            have HSX : Hid (∀ W, Only (fun _ => False) wr W → Calls Try.prog 21 #[tv x ro rc] W fun e w' => e = .returned (.int .i64 (x.size : Nat)) ∧ Only (fun _ => False) W w') := Lib.hid (fun W ho => rsize_any x W ro rc (HSUB.out.later ho) HSA.out (by omega))
            rw [hbx] at HLX
            clear hbx
            have hsum : IntKind.i64.wrap ((m : Int) + (x.size : Nat)) = ((m + x.size : Nat) : Int) := by rw [IntWalk.i64_in _ (by omega)]; omega
            go_wp2_with fail
            refine HLX.out.mono ?_
            rintro e w2 ⟨rfl, ho2⟩
            have HO2 := Lib.hid ho2
            clear ho2 c0 c1 c2 c3
            obtain ⟨c0, c1, c2, c3⟩ := HKX.out _ HO2.out
            go_wp2_with fail
            refine (HSX.out _ HO2.out).mono ?_
            rintro e w3 ⟨rfl, ho3⟩
            have HO3 := Lib.hid (HO2.out.same ho3)
            clear ho3 c0 c1 c2 c3
            go_wp2_with fail
            go_roundw
            case rel => exact ⟨j + 1, m + x.size, by go_num, by go_num, by omega, by omega, Lib.hid ⟨by
              have := hI.out.1
              rw [take_snoc HX.out, sizes_append, this]; simp [sizes], hI.out.2.same HO3.out⟩⟩
            case measure => simp [intOf]; omega
        · obtain rfl : j = l.length := by omega
          have hsz : sizes l = m := by have := hI.out.1; rwa [List.take_length] at this
          have HSF : Hid ((frT (addF t l)).Sane ∧ (snT (addF t l)).Sane) := Lib.hid (addF_sane HS.out (by
            have h1 := T.few HBG.out
            have h2 := length_le_sizes t.l
            rw [T.size_eq] at h1
            unfold maxLen
            omega))
          have HT6 : Hid (t.size ≤ 6000) := Lib.hid (T.few HBG.out)
          have how : Only (fun _ => False) w wr := HO1.out.same hI.out.2
          have HAD := Lib.hid ((Add_any t l ao lo cap lcap wr HS.out (HL.out.later how) (HLL.out.later how) (by have := HT6.out; omega) (by omega) (by omega)).mono (fun e w' h => ansAdd_tv h))
          have HRA : Hid (∀ W, Only (fun _ => False) wr W → Calls Try.prog 23 #[tv t ao cap, .slice lo l.length lcap] W fun e w' => ∃ a p b q, e = .returned (.tuple #[.agg #[.int .i64 (frT (addF t l)).k, .int .i64 (frT (addF t l)).n, .string (frT (addF t l)).s, .slice a (frT (addF t l)).l.length p], .agg #[.int .i64 (snT (addF t l)).k, .int .i64 (snT (addF t l)).n, .string (snT (addF t l)).s, .slice b (snT (addF t l)).l.length q], .bool (okT (addF t l))]) ∧ Lies w' a (frT (addF t l)).l ∧ Lies w' b (snT (addF t l)).l ∧ Only (fun _ => False) W w') := Lib.hid (fun W ho => (rAdd_head t l ao lo cap lcap W HS.out (HL.out.later (how.same ho)) (HLL.out.later (how.same ho)) (by have := HT6.out; omega) (by omega) (by omega)).mono (fun e w' h => ansAdd_tv h))
          have HOW := Lib.hid how
          generalize addF t l = R at *
          obtain ⟨F, hF⟩ : ∃ F, frT R = F := ⟨_, rfl⟩
          obtain ⟨G, hG⟩ : ∃ G, snT R = G := ⟨_, rfl⟩
          obtain ⟨ok, hok⟩ : ∃ ok, okT R = ok := ⟨_, rfl⟩
          rw [hF, hG] at HSF
          simp only [hF, hG, hok] at HAD HRA
          clear hF hG hok how
          have HQR := Lib.hid (HQ1.out.only hI.out.2 (fun e => e))
          obtain ⟨c0, c1, c2, c3⟩ := HQR.out.cells
          clear hlt hj hm
          go_wp2_with fail
          refine HAD.out.mono ?_
          rintro e w2 ⟨a2, p2, b2, q2, rfl, hl2, hm2, ho2⟩
          have HL2 := Lib.hid hl2
          have HM2 := Lib.hid hm2
          have HO2 := Lib.hid ho2
          have HQ2 := Lib.hid (HQR.out.only ho2 (fun e => e))
          clear hl2 hm2 ho2 c0 c1 c2 c3 HAD
          have o3 : Only (fun _ => False) w2 ((w2.alloc (.cells #[.int .i64 F.k, .int .i64 F.n, .string F.s, .slice a2 F.l.length p2] 24)).alloc (.cells #[.int .i64 G.k, .int .i64 G.n, .string G.s, .slice b2 G.l.length q2] 24)) := (Only.alloc _ _ _).same (Only.alloc _ _ _)
          have HQ3 := Lib.hid (HQ2.out.only o3 (fun e => e))
          have HO3 := Lib.hid (HO2.out.same o3)
          have HF3 : Hid (Quad w2.heap.size (.int .i64 F.k) (.int .i64 F.n) (.string F.s) (.slice a2 F.l.length p2) ((w2.alloc (.cells #[.int .i64 F.k, .int .i64 F.n, .string F.s, .slice a2 F.l.length p2] 24)).alloc (.cells #[.int .i64 G.k, .int .i64 G.n, .string G.s, .slice b2 G.l.length q2] 24))) := Lib.hid (at20 _ _ _)
          have HG3 : Hid (Quad (w2.heap.size + 1) (.int .i64 G.k) (.int .i64 G.n) (.string G.s) (.slice b2 G.l.length q2) ((w2.alloc (.cells #[.int .i64 F.k, .int .i64 F.n, .string F.s, .slice a2 F.l.length p2] 24)).alloc (.cells #[.int .i64 G.k, .int .i64 G.n, .string G.s, .slice b2 G.l.length q2] 24))) := Lib.hid (at21 _ _ _)
          have HL3 := Lib.hid (HL2.out.later o3)
          have HM3 := Lib.hid (HM2.out.later o3)
          obtain ⟨c0, c1, c2, c3⟩ := HQ3.out.cells
          clear o3 HL2 HM2 HQ2 HO2
          go_wp2_with fail
          generalize (w2.alloc (.cells #[.int .i64 F.k, .int .i64 F.n, .string F.s, .slice a2 F.l.length p2] 24)).alloc (.cells #[.int .i64 G.k, .int .i64 G.n, .string G.s, .slice b2 G.l.length q2] 24) = w3 at *
          generalize w2.heap.size + 1 = bg at *
          generalize w2.heap.size = bf at *
          refine (HRA.out _ HO3.out).mono ?_
          rintro e w4 ⟨a4, p4, b4, q4, rfl, hl4, hm4, ho4⟩
          have o5 : Only (fun _ => False) w4 ((w4.alloc (.cells #[.int .i64 F.k, .int .i64 F.n, .string F.s, .slice a4 F.l.length p4] 24)).alloc (.cells #[.int .i64 G.k, .int .i64 G.n, .string G.s, .slice b4 G.l.length q4] 24)) := (Only.alloc _ _ _).same (Only.alloc _ _ _)
          have HO5 := Lib.hid (HO3.out.same (ho4.same o5))
          have HF5 := Lib.hid (HF3.out.only (ho4.same o5) (fun e => e))
          have HG5 := Lib.hid (HG3.out.only (ho4.same o5) (fun e => e))
          have HF6 : Hid (Quad w4.heap.size (.int .i64 F.k) (.int .i64 F.n) (.string F.s) (.slice a4 F.l.length p4) ((w4.alloc (.cells #[.int .i64 F.k, .int .i64 F.n, .string F.s, .slice a4 F.l.length p4] 24)).alloc (.cells #[.int .i64 G.k, .int .i64 G.n, .string G.s, .slice b4 G.l.length q4] 24))) := Lib.hid (at20 _ _ _)
          have HG6 : Hid (Quad (w4.heap.size + 1) (.int .i64 G.k) (.int .i64 G.n) (.string G.s) (.slice b4 G.l.length q4) ((w4.alloc (.cells #[.int .i64 F.k, .int .i64 F.n, .string F.s, .slice a4 F.l.length p4] 24)).alloc (.cells #[.int .i64 G.k, .int .i64 G.n, .string G.s, .slice b4 G.l.length q4] 24))) := Lib.hid (at21 _ _ _)
          have HEF := Lib.hid (fun W (ho : Only (fun _ => False) ((w4.alloc (.cells #[.int .i64 F.k, .int .i64 F.n, .string F.s, .slice a4 F.l.length p4] 24)).alloc (.cells #[.int .i64 G.k, .int .i64 G.n, .string G.s, .slice b4 G.l.length q4] 24)) W) => exact_any F F W a2 a4 p2 p4 ((HL3.out.later (ho4.same o5)).later ho) HSF.out.1 ((hl4.later o5).later ho) HSF.out.1)
          have HEG := Lib.hid (fun W (ho : Only (fun _ => False) ((w4.alloc (.cells #[.int .i64 F.k, .int .i64 F.n, .string F.s, .slice a4 F.l.length p4] 24)).alloc (.cells #[.int .i64 G.k, .int .i64 G.n, .string G.s, .slice b4 G.l.length q4] 24)) W) => exact_any G G W b2 b4 q2 q4 ((HM3.out.later (ho4.same o5)).later ho) HSF.out.2 ((hm4.later o5).later ho) HSF.out.2)
          simp only [T.eqb_refl, tv] at HEF HEG
          clear hl4 hm4 ho4 o5 c0 c1 c2 c3 HRA
          have hok : (ok == ok) = true := by simp
          by_cases hmm : (m : Int) > 20000
          all_goals
            go_wp2_with fail
            generalize ((w4.alloc (.cells #[.int .i64 F.k, .int .i64 F.n, .string F.s, .slice a4 F.l.length p4] 24)).alloc (.cells #[.int .i64 G.k, .int .i64 G.n, .string G.s, .slice b4 G.l.length q4] 24)) = w5 at *
            generalize w4.heap.size + 1 = bk at *
            generalize w4.heap.size = bh at *
            have HK5 : Hid (∀ W', Only (fun _ => False) w5 W' → W'.cell? ⟨bf, 0, none⟩ = some (.int .i64 F.k) ∧ W'.cell? ⟨bf, 1, none⟩ = some (.int .i64 F.n) ∧ W'.cell? ⟨bf, 2, none⟩ = some (.string F.s) ∧ W'.cell? ⟨bf, 3, none⟩ = some (.slice a2 F.l.length p2) ∧ W'.cell? ⟨bg, 0, none⟩ = some (.int .i64 G.k) ∧ W'.cell? ⟨bg, 1, none⟩ = some (.int .i64 G.n) ∧ W'.cell? ⟨bg, 2, none⟩ = some (.string G.s) ∧ W'.cell? ⟨bg, 3, none⟩ = some (.slice b2 G.l.length q2) ∧ W'.cell? ⟨bh, 0, none⟩ = some (.int .i64 F.k) ∧ W'.cell? ⟨bh, 1, none⟩ = some (.int .i64 F.n) ∧ W'.cell? ⟨bh, 2, none⟩ = some (.string F.s) ∧ W'.cell? ⟨bh, 3, none⟩ = some (.slice a4 F.l.length p4) ∧ W'.cell? ⟨bk, 0, none⟩ = some (.int .i64 G.k) ∧ W'.cell? ⟨bk, 1, none⟩ = some (.int .i64 G.n) ∧ W'.cell? ⟨bk, 2, none⟩ = some (.string G.s) ∧ W'.cell? ⟨bk, 3, none⟩ = some (.slice b4 G.l.length q4)) := Lib.hid (fun W' ho => by
              obtain ⟨x0, x1, x2, x3⟩ := (HF5.out.only ho (fun e => e)).cells
              obtain ⟨y0, y1, y2, y3⟩ := (HG5.out.only ho (fun e => e)).cells
              obtain ⟨z0, z1, z2, z3⟩ := (HF6.out.only ho (fun e => e)).cells
              obtain ⟨u0, u1, u2, u3⟩ := (HG6.out.only ho (fun e => e)).cells
              exact ⟨x0, x1, x2, x3, y0, y1, y2, y3, z0, z1, z2, z3, u0, u1, u2, u3⟩)
            have HEF' : Hid (∀ W, Only (fun _ => False) w5 W → Calls Try.prog 18 #[.agg #[.int .i64 F.k, .int .i64 F.n, .string F.s, .slice a2 F.l.length p2], .agg #[.int .i64 F.k, .int .i64 F.n, .string F.s, .slice a4 F.l.length p4]] W fun e w' => e = .returned (.bool true) ∧ Only (fun _ => False) W w') := HEF
            have HEG' : Hid (∀ W, Only (fun _ => False) w5 W → Calls Try.prog 18 #[.agg #[.int .i64 G.k, .int .i64 G.n, .string G.s, .slice b2 G.l.length q2], .agg #[.int .i64 G.k, .int .i64 G.n, .string G.s, .slice b4 G.l.length q4]] W fun e w' => e = .returned (.bool true) ∧ Only (fun _ => False) W w') := HEG
            refine (HLV.out _).mono ?_
            rintro e w6 ⟨rfl, ho6⟩
            have HA := Lib.hid ho6
            clear ho6
          · go_wp2_with fail
            go_ret
            exact ⟨by first | rfl | simp, (HOW.out.same (HO5.out.same HA.out)).to_below⟩
          · obtain ⟨x0, x1, x2, x3, y0, y1, y2, y3, z0, z1, z2, z3, u0, u1, u2, u3⟩ := HK5.out _ HA.out
            go_wp2_with fail
            refine (HEF'.out _ HA.out).mono ?_
            rintro e w7 ⟨rfl, ho7⟩
            have HB := Lib.hid (HA.out.same ho7)
            clear ho7 x0 x1 x2 x3 y0 y1 y2 y3 z0 z1 z2 z3 u0 u1 u2 u3
            obtain ⟨x0, x1, x2, x3, y0, y1, y2, y3, z0, z1, z2, z3, u0, u1, u2, u3⟩ := HK5.out _ HB.out
            go_wp2_with fail
            refine (HEG'.out _ HB.out).mono ?_
            rintro e w8 ⟨rfl, ho8⟩
            have HC := Lib.hid (HB.out.same ho8)
            clear ho8 x0 x1 x2 x3 y0 y1 y2 y3 z0 z1 z2 z3 u0 u1 u2 u3
            go_wp2_with fail
            go_ret
            exact ⟨by first | rfl | simp, (HOW.out.same (HO5.out.same HC.out)).to_below⟩
end Go.Proofs.Ytjmngjbichifjaa.terms
