/- Operators: the law OperForks. -/
import Derived.Test.YtodgjkdhkohckaaDoorOper24
namespace Go.Proofs.YtodgjkdhkohckaaDoor.opers
open Go.RowKit Go.Proofs.YtodgjkdhkohckaaDoor.own Go.Maps Go.Proofs.YtodgjkdhkohckaaDoor.toks
/-- These operators lie where an argument says. -/
def ArgL (ao : Option Addr) (l : List Op3) (W : World) : Prop := ∀ (i : Nat) (x : Op3), l[i]? = some x → ∃ b off, ao = some ⟨b, off, none⟩ ∧ b < W.heap.size ∧ W.cell? ⟨b, off + i * 3, none⟩ = some (.int .i64 x.p) ∧ W.cell? ⟨b, off + i * 3 + 1, none⟩ = some (.int .i64 x.k) ∧ W.cell? ⟨b, off + i * 3 + 2, none⟩ = some (.string x.n) ∧ x.n.size ≤ maxLen
theorem ArgL.only {ao : Option Addr} {l : List Op3} {W W' : World} {S : Nat → Prop} (h : ArgL ao l W) (ho : Only S W W') (hS : ∀ q, q < W.heap.size → ¬ S q) : ArgL ao l W' := fun i x hx => by
  obtain ⟨b, off, h1, h2, c0, c1, c2, h3⟩ := h i x hx
  exact ⟨b, off, h1, Nat.lt_of_lt_of_le h2 ho.size, (ho.cell (p := ⟨b, _, none⟩) h2 (hS b h2)).trans c0, (ho.cell (p := ⟨b, _, none⟩) h2 (hS b h2)).trans c1, (ho.cell (p := ⟨b, _, none⟩) h2 (hS b h2)).trans c2, h3⟩
/-- A table that was set so often. -/
def SetI (b mi mp n j : Nat) (W0 W : World) : Prop := ∃ Di Dp, Tb b mi mp (n + j) (n + j) Di Dp W ∧ Fine false Di ∧ Fine true Dp ∧ Only (fun q => q = mi ∨ q = mp) W0 W
theorem SetI.step {b mi mp n j : Nat} {W0 W : World} (h : SetI b mi mp n j W0 W) (x : Op3) (hx : x.n.size ≤ maxLen) (hn : n + j ≤ 100000) :
    Calls Tryd.prog 24 #[.pointer (some ⟨b, 0, none⟩), .agg #[.int .i64 x.p, .int .i64 x.k, .string x.n]] W fun e w' => (∃ m : Int, e = .returned (.int .i64 m)) ∧ SetI b mi mp n (j + 1) W0 w' := by
  obtain ⟨Di, Dp, ht, fi, fp, ho⟩ := h
  refine Calls.mono (set_any ht x.p x.k x.n hx hn) ?_
  rintro e w' ⟨rfl, h1, h2⟩
  obtain ⟨g1, g2⟩ := fine_set fi fp x.p x.k x.n
  exact ⟨⟨_, rfl⟩, _, _, h1, g1, g2, ho.same h2⟩
set_option maxRecDepth 100000 in
set_option maxHeartbeats 8000000 in
theorem law_forks (ao : Option Addr) (ac : Nat) (l : List Op3) (bo : Option Addr) (bc : Nat) (m : List Op3) (w : World) (hl : ArgL ao l w) (hm : ArgL bo m w) (hll : l.length ≤ maxLen) (hml : m.length ≤ maxLen) (hT : Typed w) :
    Calls Tryd.prog 7 #[.slice ao l.length ac, .slice bo m.length bc] w fun e w' => e = .returned (.bool true) ∧ Below w.heap.size w w' := by
  have HT := Lib.hid hT
  have HL := Lib.hid hl
  have HM := Lib.hid hm
  have HLV := Lib.hid lives
  clear hl hm hT
  by_cases h1 : l.length ≤ 40
  · by_cases h2 : m.length ≤ 40
    · have i1 : ¬ (40 : Int) < (l.length : Int) := by omega
      have i2 : ¬ (40 : Int) < (m.length : Int) := by omega
      clear hll hml
      go_enter Tryd.func7, Tryd.ntmps7
      go_wp2_with fail
      refine (New_any w).mono ?_
      rintro e w1 ⟨b, mi, mp, rfl, ht, ho, hb1, hb2, hb3⟩
      have HA := Lib.hid (And.intro (ht.mono (ni' := 40) (np' := 40) (by decide) (by decide)) ho)
      have HB := Lib.hid (And.intro hb2 hb3)
      clear ht ho hb1 hb2 hb3
      go_wp2_with fail
      refine (HLV.out _ (HT.out.later HA.out.2)).mono ?_
      rintro e w2 ⟨rfl, ho⟩
      replace HA := Lib.hid (And.intro (HA.out.1.later ho) (HA.out.2.same ho))
      clear ho
      go_wp2_with fail
      refine (fork_any HA.out.1).mono ?_
      rintro e w3 ⟨b2, mi2, mp2, rfl, ht, ho, hb1, hb2, hb3⟩
      have HF := Lib.hid (And.intro ht (And.intro hb2 hb3))
      have HMS := Lib.hid (And.intro HA.out.1.i.lt HA.out.1.p.lt)
      have HBX := Lib.hid (lt_of_block HA.out.1.box)
      replace HA := Lib.hid (And.intro (HA.out.1.later ho) (HA.out.2.same ho))
      clear ht ho hb1 hb2 hb3
      go_wp2_with fail
      refine (all_any HA.out.1 (by decide)).mono ?_
      rintro e w4 ⟨xs, xo, xc, rfl, hx, hr, ho⟩
      have HX := Lib.hid hx
      have HXR := Lib.hid hr
      have HFS := Lib.hid (And.intro HF.out.1.i.lt HF.out.1.p.lt)
      have HF4 := Lib.hid (HF.out.1.later ho)
      replace HA := Lib.hid (And.intro (HA.out.1.later ho) (HA.out.2.same ho))
      have HS0 : Hid (SetI b2 mi2 mp2 40 0 w4 w4) := Lib.hid ⟨Di0, Dp0, HF4.out, fine_Di0, fine_Dp0, Only.refl _ _⟩
      have HL4 : Hid (∀ W, Only (fun q => q = mi2 ∨ q = mp2) w4 W → ArgL ao l W) := Lib.hid (fun W hW => by
        have h0 := HA.out.2.size
        have hmi := HF.out.2
        have hms := HMS.out
        have hwi := HB.out
        have hcut : Only (fun _ => False) w W := Only.cut HA.out.2 hW (fun q e => by rcases e with e | e <;> omega)
        exact HL.out.only hcut (fun _ _ e => e))
      clear hx hr ho
      go_wp2_with fail
      go_loopw [8] (fun i wr => ∃ j : Nat, i = .int .i64 j ∧ j ≤ l.length ∧ Hid (SetI b2 mi2 mp2 40 j w4 wr)) (fun i _ => l.length - (intOf i).toNat)
      case atStart => exact ⟨0, rfl, by omega, HS0⟩
      case round =>
        obtain ⟨j, rfl, hj, hI⟩ := hrel
        clear HS0
        by_cases hlt : j < l.length
        · obtain ⟨x, hx⟩ : ∃ x, l[j]? = some x := ⟨_, List.getElem?_eq_getElem hlt⟩
          have hal : ArgL ao l wr := by
            obtain ⟨_, _, _, _, _, ho⟩ := hI.out
            exact HL4.out wr ho
          obtain ⟨g1, off, rfl, hg1, c0, c1, c2, hsz⟩ := hal j x hx
          have q0 : (0 : Int) ≤ (j : Int) := by omega
          have q1 : (j : Int) < (l.length : Int) := by omega
          have HST := Lib.hid (hI.out.step x hsz (by omega))
          clear hx hg1 hal hsz
          go_wp2_with fail
          refine HST.out.mono ?_
          rintro e w5 ⟨⟨mm, rfl⟩, hs5⟩
          have HS5 := Lib.hid hs5
          clear hs5
          go_wp2_with fail
          go_roundw
          case rel => exact ⟨j + 1, by go_num, by omega, HS5⟩
          case measure => simp [intOf]; omega
        · obtain rfl : j = l.length := by omega
          obtain ⟨Df, Dg, htf, ff, fg, ho⟩ := hI.out
          have hmi := HF.out.2
          have hms := HMS.out
          have hbx := HBX.out
          have hfs := HFS.out
          have HW5 : Hid (Only (fun _ => False) w wr) := Lib.hid (Only.cut HA.out.2 ho (fun q e => by have := HB.out; rcases e with e | e <;> omega))
          have HT5 : Hid (Tb b mi mp 40 40 Di0 Dp0 wr) := Lib.hid (HA.out.1.only ho (fun e => by rcases e with e | e <;> omega) (fun e => by rcases e with e | e <;> omega) (fun e => by rcases e with e | e <;> omega))
          have HR5 : Hid (RowO w3.heap.size xo xs wr) := Lib.hid (HXR.out.only ho (fun q h1 _ e => by rcases e with e | e <;> omega))
          have HF5 : Hid (Tb b2 mi2 mp2 (40 + l.length) (40 + l.length) Df Dg wr ∧ Fine false Df ∧ Fine true Dg) := Lib.hid ⟨htf, ff, fg⟩
          clear hI htf ff fg ho hmi hms hbx hfs HL4 HF4 HXR HA
          go_wp2_with fail
          refine (all_any HT5.out (by decide)).mono ?_
          rintro e w5 ⟨xs2, xo2, xc2, rfl, hx2, hr2, ho⟩
          obtain rfl : xs2 = xs := all_same fine_Di0 fine_Dp0 hx2 HX.out
          have HS5 := Lib.hid (same_any xs2 _ _ xo2 xo xc2 xc w5 hr2 (HR5.out.only ho (fun _ _ _ e => e)) (by have := allIs_len hx2; have := HT5.out.i.size_le; have := HT5.out.p.size_le; omega))
          have HO5 := Lib.hid ho
          clear hx2 hr2 ho
          go_wp2_with fail
          refine HS5.out.mono ?_
          rintro e w6 ⟨rfl, ho⟩
          have HO6 := Lib.hid (HO5.out.same ho)
          clear ho HS5 HO5 HR5
          go_wp2_with fail
          refine (all_any (HF5.out.1.later HO6.out) (by have := h1; omega)).mono ?_
          rintro e w7 ⟨ys, yo, yc, rfl, hy, hr, ho⟩
          have HY := Lib.hid hy
          have HYR := Lib.hid hr
          have HO7 := Lib.hid (HO6.out.same ho)
          have HL6 : Hid (mi < w6.heap.size ∧ mp < w6.heap.size) := Lib.hid (by have q1 := (HT5.out.later HO6.out).i.lt; have q2 := (HT5.out.later HO6.out).p.lt; exact ⟨q1, q2⟩)
          have HT7 := Lib.hid (HT5.out.later HO7.out)
          have HF7 := Lib.hid (HF5.out.1.later HO7.out)
          have HW7 := Lib.hid (HW5.out.same HO7.out)
          have HS0 : Hid (SetI b mi mp 40 0 w7 w7) := Lib.hid ⟨Di0, Dp0, HT7.out, fine_Di0, fine_Dp0, Only.refl _ _⟩
          have HM7 : Hid (∀ W, Only (fun q => q = mi ∨ q = mp) w7 W → ArgL bo m W) := Lib.hid (fun W hW => by
            have hcut : Only (fun _ => False) w W := Only.cut HW7.out hW (fun q e => by have := HB.out; rcases e with e | e <;> omega)
            exact HM.out.only hcut (fun _ _ e => e))
          clear hy hr ho HO6 HO7 HT5 HW5
          go_wp2_with fail
          go_loopw [10] (fun i wr => ∃ j : Nat, i = .int .i64 j ∧ j ≤ m.length ∧ Hid (SetI b mi mp 40 j w7 wr)) (fun i _ => m.length - (intOf i).toNat)
          case atStart => exact ⟨0, rfl, by omega, HS0⟩
          case round =>
            obtain ⟨j, rfl, hj, hI⟩ := hrel
            clear HS0
            by_cases hlt : j < m.length
            · obtain ⟨x, hx⟩ : ∃ x, m[j]? = some x := ⟨_, List.getElem?_eq_getElem hlt⟩
              have hal : ArgL bo m wr := by
                obtain ⟨_, _, _, _, _, ho⟩ := hI.out
                exact HM7.out wr ho
              obtain ⟨g1, off, rfl, hg1, c0, c1, c2, hsz⟩ := hal j x hx
              have q0 : (0 : Int) ≤ (j : Int) := by omega
              have q1 : (j : Int) < (m.length : Int) := by omega
              have HST := Lib.hid (hI.out.step x hsz (by omega))
              clear hx hg1 hal hsz
              go_wp2_with fail
              refine HST.out.mono ?_
              rintro e w8 ⟨⟨mm, rfl⟩, hs8⟩
              have HS8 := Lib.hid hs8
              clear hs8
              go_wp2_with fail
              go_roundw
              case rel => exact ⟨j + 1, by go_num, by omega, HS8⟩
              case measure => simp [intOf]; omega
            · obtain rfl : j = m.length := by omega
              obtain ⟨Dh, Dk, hth, fh, fk, ho⟩ := hI.out
              have hmi := HF.out.2
              have hms := HMS.out
              have hl6 := HL6.out
              have HW8 : Hid (Only (fun _ => False) w wr) := Lib.hid (Only.cut HW7.out ho (fun q e => by have := HB.out; rcases e with e | e <;> omega))
              have HF8 : Hid (Tb b2 mi2 mp2 (40 + l.length) (40 + l.length) Df Dg wr) := Lib.hid (HF7.out.only ho (fun e => by have h3 := map_ne HT7.out.i HF7.out.box; have h4 := map_ne HT7.out.p HF7.out.box; rcases e with e | e <;> omega) (fun e => by rcases e with e | e <;> omega) (fun e => by rcases e with e | e <;> omega))
              have HR8 : Hid (RowO w6.heap.size yo ys wr) := Lib.hid (HYR.out.only ho (fun q h1 _ e => by rcases e with e | e <;> omega))
              clear hI hth fh fk ho hmi hms hl6 HM7
              go_wp2_with fail
              refine (all_any HF8.out (by have := h1; omega)).mono ?_
              rintro e w8 ⟨ys2, yo2, yc2, rfl, hy2, hr2, ho⟩
              obtain rfl : ys2 = ys := all_same HF5.out.2.1 HF5.out.2.2 hy2 HY.out
              have HS8 := Lib.hid (same_any ys2 _ _ yo2 yo yc2 yc w8 hr2 (HR8.out.only ho (fun _ _ _ e => e)) (by have := allIs_len hy2; have := HF8.out.i.size_le; have := HF8.out.p.size_le; have := h1; omega))
              have HO8 := Lib.hid ho
              clear hy2 hr2 ho
              go_wp2_with fail
              refine HS8.out.mono ?_
              rintro e w9 ⟨rfl, ho⟩
              have HO9 := Lib.hid ((HW8.out.same HO8.out).same ho)
              clear ho
              go_wp2_with fail
              go_ret
              exact ⟨rfl, HO9.out.to_below⟩
    · have i1 : ¬ (40 : Int) < (l.length : Int) := by omega
      have i2 : (40 : Int) < (m.length : Int) := by omega
      go_enter Tryd.func7, Tryd.ntmps7
      go_wp2_with fail
      refine (New_any w).mono ?_
      rintro e w1 ⟨b, mi, mp, rfl, ht, ho, hb1, hb2, hb3⟩
      have HO := Lib.hid ho
      clear ht ho hb1 hb2 hb3
      go_wp2_with fail
      refine (HLV.out _ (HT.out.later HO.out)).mono ?_
      rintro e w2 ⟨rfl, ho⟩
      replace HO := Lib.hid (HO.out.same ho)
      clear ho
      go_wp2_with fail
      refine (HLV.out _ (HT.out.later HO.out)).mono ?_
      rintro e w3 ⟨rfl, ho⟩
      replace HO := Lib.hid (HO.out.same ho)
      clear ho
      go_wp2_with fail
      go_ret
      exact ⟨rfl, HO.out.to_below⟩
  · have i1 : (40 : Int) < (l.length : Int) := by omega
    go_enter Tryd.func7, Tryd.ntmps7
    go_wp2_with fail
    refine (New_any w).mono ?_
    rintro e w1 ⟨b, mi, mp, rfl, ht, ho, hb1, hb2, hb3⟩
    have HO := Lib.hid ho
    clear ht ho hb1 hb2 hb3
    go_wp2_with fail
    refine (HLV.out _ (HT.out.later HO.out)).mono ?_
    rintro e w2 ⟨rfl, ho⟩
    replace HO := Lib.hid (HO.out.same ho)
    clear ho
    go_wp2_with fail
    refine (HLV.out _ (HT.out.later HO.out)).mono ?_
    rintro e w3 ⟨rfl, ho⟩
    replace HO := Lib.hid (HO.out.same ho)
    clear ho
    go_wp2_with fail
    go_ret
    exact ⟨rfl, HO.out.to_below⟩
end Go.Proofs.YtodgjkdhkohckaaDoor.opers
