/- Operators: the law OperDoes. -/
import Derived.Test.YtodgjkdhkohckaaDoorOper42
import Derived.Test.YtodgjkdhkohckaaDoorOper22
import Derived.Test.YtodgjkdhkohckaaDoorOper33
namespace Go.Proofs.YtodgjkdhkohckaaDoor.opers
open Go.RowKit Go.Proofs.YtodgjkdhkohckaaDoor.own Go.Maps Go.Sort Go.Shelf Go.Proofs.YtodgjkdhkohckaaDoor.toks
/-- One call of the law. -/
structure Op5 where
  c : Int
  p : Int
  k : Int
  s : ByteArray
  m : ByteArray
deriving Inhabited
/-- These calls lie where an argument says. -/
def ArgQ (ao : Option Addr) (q : List Op5) (W : World) : Prop := ∀ (i : Nat) (y : Op5), q[i]? = some y → ∃ b off, ao = some ⟨b, off, none⟩ ∧ b < W.heap.size ∧ W.cell? ⟨b, off + i * 5, none⟩ = some (.int .i64 y.c) ∧ W.cell? ⟨b, off + i * 5 + 1, none⟩ = some (.int .i64 y.p) ∧ W.cell? ⟨b, off + i * 5 + 2, none⟩ = some (.int .i64 y.k) ∧ W.cell? ⟨b, off + i * 5 + 3, none⟩ = some (.string y.s) ∧ W.cell? ⟨b, off + i * 5 + 4, none⟩ = some (.string y.m) ∧ y.s.size ≤ maxLen ∧ y.m.size ≤ maxLen
theorem ArgQ.later {ao : Option Addr} {q : List Op5} {W W' : World} (h : ArgQ ao q W) (ho : Only (fun _ => False) W W') : ArgQ ao q W' := fun i y hy => by
  obtain ⟨b, off, h1, h2, c0, c1, c2, c3, c4, h3, h4⟩ := h i y hy
  exact ⟨b, off, h1, Nat.lt_of_lt_of_le h2 ho.size, (ho.cell (p := ⟨b, _, none⟩) h2 (fun e => e)).trans c0, (ho.cell (p := ⟨b, _, none⟩) h2 (fun e => e)).trans c1, (ho.cell (p := ⟨b, _, none⟩) h2 (fun e => e)).trans c2, (ho.cell (p := ⟨b, _, none⟩) h2 (fun e => e)).trans c3, (ho.cell (p := ⟨b, _, none⟩) h2 (fun e => e)).trans c4, h3, h4⟩
theorem Rel.fnd {Di Dp : D1} {l : List Op3} (h : Rel Di Dp l) (s : ByteArray) : (∃ p k x, fndV (l.find? (keyB s false)) = .tuple #[.agg #[.int .i64 p, .int .i64 k, .string x], .bool (Maps.has Di (keyN s))]) ∧ (∃ p k x, fndV (l.find? (keyB s true)) = .tuple #[.agg #[.int .i64 p, .int .i64 k, .string x], .bool (Maps.has Dp (keyN s))]) := by
  constructor
  · have hf := h.find s 1
    show ∃ p k x, fndV (l.find? (keyB s (isPreF 1))) = .tuple #[.agg #[.int .i64 p, .int .i64 k, .string x], .bool (Maps.has (sideD 1 Di Dp) (keyN s))]
    cases he : l.find? (keyB s (isPreF 1)) with
    | some y => rw [he] at hf; rw [hf.1]; exact ⟨_, _, _, rfl⟩
    | none => rw [he] at hf; rw [show Maps.has (sideD 1 Di Dp) (keyN s) = false from hf]; exact ⟨_, _, _, rfl⟩
  · have hf := h.find s 4
    show ∃ p k x, fndV (l.find? (keyB s (isPreF 4))) = .tuple #[.agg #[.int .i64 p, .int .i64 k, .string x], .bool (Maps.has (sideD 4 Di Dp) (keyN s))]
    cases he : l.find? (keyB s (isPreF 4)) with
    | some y => rw [he] at hf; rw [hf.1]; exact ⟨_, _, _, rfl⟩
    | none => rw [he] at hf; rw [show Maps.has (sideD 4 Di Dp) (keyN s) = false from hf]; exact ⟨_, _, _, rfl⟩
/-- Both beside each other, of calls so far. -/
def Side (w : World) (b mi mp n x : Nat) (Di Dp : D1) (ao : Option Addr) (cap : Nat) (l : List Op3) (W : World) : Prop := Two w.heap.size b mi mp n Di Dp x ao cap l W ∧ Rel Di Dp l ∧ Only (fun _ => False) w W
theorem Side.later {w : World} {b mi mp n x : Nat} {Di Dp : D1} {ao : Option Addr} {cap : Nat} {l : List Op3} {W W' : World} (h : Side w b mi mp n x Di Dp ao cap l W) (ho : Only (fun _ => False) W W') : Side w b mi mp n x Di Dp ao cap l W' := ⟨h.1.later ho, h.2.1, h.2.2.same ho⟩
set_option maxRecDepth 100000 in
set_option maxHeartbeats 16000000 in
theorem law_does (qo : Option Addr) (qc : Nat) (q : List Op5) (w : World) (hq : ArgQ qo q w) (hql : q.length ≤ maxLen) (hT : Typed w) :
    Calls Tryd.prog 3 #[.slice qo q.length qc] w fun e w' => e = .returned (.bool true) ∧ Below w.heap.size w w' := by
  have HT := Lib.hid hT
  have HQ := Lib.hid hq
  have HLV := Lib.hid lives
  clear hq hT
  go_enter Tryd.func3, Tryd.ntmps3
  go_wp2_with fail
  refine (New_any w).mono ?_
  rintro e w1 ⟨b, mi, mp, rfl, ht, ho, hb1, hb2, hb3⟩
  have HA := Lib.hid (And.intro (ht.mono (ni' := 40) (np' := 40) (by decide) (by decide)) ho)
  have HB := Lib.hid (And.intro hb2 hb3)
  clear ht ho hb1 hb2 hb3
  go_wp2_with fail
  refine (rNew_any w1).mono ?_
  rintro e w2 ⟨x, ao, cap, rfl, hr, ho⟩
  have HS : Hid (Side w b mi mp 40 x Di0 Dp0 ao cap l0 w2) := Lib.hid ⟨⟨HA.out.1.later ho, ⟨hr.box, row_base hr.row HA.out.2.size, Nat.le_trans HA.out.2.size hr.ge, hr.apart⟩, HB.out.1, HB.out.2⟩, rel0, HA.out.2.same ho⟩
  clear hr ho HA HB
  go_wp2_with fail
  refine (HLV.out _ (HT.out.later HS.out.2.2)).mono ?_
  rintro e w3 ⟨rfl, ho⟩
  replace HS := Lib.hid (HS.out.later ho)
  clear ho HT HLV
  go_wp2_with fail
  refine (all_any HS.out.1.t (by decide)).mono ?_
  rintro e w4 ⟨xs, xo, xc, rfl, hx, hxr, ho⟩
  have HX := Lib.hid (HS.out.2.1.all hx)
  have HXL : Hid (xs.length ≤ 1000000) := Lib.hid (by have e1 := allIs_len hx; have e2 := HS.out.1.t.i.size_le; have e3 := HS.out.1.t.p.size_le; omega)
  have HXR := Lib.hid hxr
  replace HS := Lib.hid (HS.out.later ho)
  clear hx hxr ho
  go_wp2_with fail
  refine (rAll_any _ _ _ _ _ _ HS.out.1.r (by decide)).mono ?_
  rintro e w5 ⟨⟨ro, rc, rfl, hrr⟩, ho⟩
  rw [HX.out.1] at hrr ⊢
  have HSM := Lib.hid (same_any xs _ _ xo ro xc rc w5 (HXR.out.only ho (fun _ _ _ e => e)) hrr HXL.out)
  replace HS := Lib.hid (HS.out.later ho)
  clear hrr ho HXR
  go_wp2_with fail
  refine HSM.out.mono ?_
  rintro e w6 ⟨rfl, ho⟩
  have HSL : Hid (Side w b mi mp 40 x Di0 Dp0 ao cap l0 w6 ∧ l0.length = Maps.size Di0 + Maps.size Dp0) := Lib.hid ⟨HS.out.later ho, HX.out.2⟩
  clear ho HSM HS HX
  go_wp2_with fail
  go_loopw [3, 5, 6] (fun tv okv iv wr => ∃ (j b mi mp : Nat) (Di Dp : D1) (ao : Option Addr) (cap : Nat) (l : List Op3), tv = .pointer (some ⟨b, 0, none⟩) ∧ okv = .bool true ∧ iv = .int .i64 j ∧ j ≤ q.length ∧ j ≤ 60 ∧ Hid (Side w b mi mp (40 + 2 * j) x Di Dp ao cap l wr ∧ l.length = Maps.size Di + Maps.size Dp)) (fun _ _ iv _ => q.length - (intOf iv).toNat)
  case atStart => exact ⟨0, b, mi, mp, Di0, Dp0, ao, cap, l0, rfl, rfl, rfl, by omega, by omega, HSL⟩
  case round =>
    obtain ⟨j, b, mi, mp, Di, Dp, ao, cap, l, rfl, rfl, rfl, hj, hj60, hI⟩ := hrel
    clear HSL
    have j0 : (0 : Int) ≤ (j : Int) := by omega
    by_cases hlt : j < q.length
    · have j1 : (j : Int) < (q.length : Int) := by omega
      by_cases hlt2 : j < 60
      · have j2 : (j : Int) < 60 := by omega
        obtain ⟨y, hy⟩ : ∃ y, q[j]? = some y := ⟨_, List.getElem?_eq_getElem hlt⟩
        obtain ⟨g, off, rfl, _, _, _, _, _, _, hs1, hs2⟩ := HQ.out j y hy
        have HC : Hid (∀ W, Only (fun _ => False) w W → W.cell? ⟨g, off + j * 5, none⟩ = some (.int .i64 y.c) ∧ W.cell? ⟨g, off + j * 5 + 1, none⟩ = some (.int .i64 y.p) ∧ W.cell? ⟨g, off + j * 5 + 2, none⟩ = some (.int .i64 y.k) ∧ W.cell? ⟨g, off + j * 5 + 3, none⟩ = some (.string y.s) ∧ W.cell? ⟨g, off + j * 5 + 4, none⟩ = some (.string y.m)) := Lib.hid (fun W ho => by
          obtain ⟨b', off', e, _, c0, c1, c2, c3, c4, _, _⟩ := HQ.out.later ho j y hy
          cases e
          exact ⟨c0, c1, c2, c3, c4⟩)
        clear hy
        obtain ⟨c, p, k, s, m⟩ := y
        simp only at HC hs1 hs2
        obtain ⟨c0, c1, c2, c3, c4⟩ := HC.out _ hI.out.1.2.2
        by_cases hm : m.size ≤ 1000
        · have hm1 : ¬ (m.size : Int) > 1000 := by omega
          by_cases hs : s.size ≤ 1000
          · have hs3 : ¬ (s.size : Int) > 1000 := by omega
            have HD := Lib.hid (do_any hI.out.1.1 hI.out.1.2.1 hI.out.2 (by omega) c p k s m hs hm)
            have HO := Lib.hid hI.out.1.2.2
            clear hI
            go_wp2_with fail
            refine HD.out.mono ?_
            rintro e w7 ⟨b, mi, mp, Di, Dp, ao, cap, l, rfl, ht, hr, ho⟩
            have HS : Hid (Side w b mi mp (40 + 2 * j + 2) x Di Dp ao cap l w7) := Lib.hid ⟨ht, hr, Only.cut HO.out ho (fun _ e => e)⟩
            clear ht hr ho HD HO c0 c1 c2 c3 c4
            go_wp2_with fail
            refine (all_any HS.out.1.t (by omega)).mono ?_
            rintro e w8 ⟨xs, xo, xc, rfl, hx, hxr, ho⟩
            have HX := Lib.hid (HS.out.2.1.all hx)
            have HXL : Hid (xs.length ≤ 1000) := Lib.hid (by have e1 := allIs_len hx; have e2 := HS.out.1.t.i.size_le; have e3 := HS.out.1.t.p.size_le; omega)
            have HLL : Hid (l.length ≤ 1000) := Lib.hid (by have e1 := allIs_len hx; rw [HX.out.2, ← e1]; exact HXL.out)
            have HXR := Lib.hid hxr
            replace HS := Lib.hid (HS.out.later ho)
            clear hx hxr ho
            go_wp2_with fail
            refine (rAll_any _ _ _ _ _ _ HS.out.1.r (by have := HLL.out; omega)).mono ?_
            rintro e w9 ⟨⟨ro, rc, rfl, hrr⟩, ho⟩
            rw [HX.out.1] at hrr ⊢
            have HSM := Lib.hid (same_any xs _ _ xo ro xc rc w9 (HXR.out.only ho (fun _ _ _ e => e)) hrr (by have := HXL.out; omega))
            replace HS := Lib.hid (HS.out.later ho)
            clear hrr ho HXR
            go_wp2_with fail
            refine HSM.out.mono ?_
            rintro e w10 ⟨rfl, ho⟩
            replace HS := Lib.hid (HS.out.later ho)
            clear ho HSM
            obtain ⟨⟨p1, k1, x1, hf1⟩, ⟨p2, k2, x2, hf2⟩⟩ := HS.out.2.1.fnd m
            have HF1 := Lib.hid hf1
            have HF2 := Lib.hid hf2
            obtain ⟨c0, c1, c2, c3, c4⟩ := HC.out _ HS.out.2.2
            clear hf1 hf2
            go_wp2_with fail
            refine (find_any _ _ _ _ _ m false _ HS.out.1.r (by have := HLL.out; omega)).mono ?_
            rintro e w11 ⟨rfl, ho⟩
            rw [HF1.out]
            replace HS := Lib.hid (HS.out.later (ho.same (Only.alloc _ _ (opC p1 k1 x1))))
            have HQ1 := Lib.hid (OpAt.new p1 k1 x1 w11)
            clear ho c0 c1 c2 c3 c4 HF1
            obtain ⟨c0, c1, c2, c3, c4⟩ := HC.out _ HS.out.2.2
            go_wp2_with fail
            generalize w11.alloc (opC p1 k1 x1) = w12 at *
            refine (find_any _ _ _ _ _ m true _ HS.out.1.r (by have := HLL.out; omega)).mono ?_
            rintro e w13 ⟨rfl, ho⟩
            rw [HF2.out]
            replace HS := Lib.hid (HS.out.later (ho.same (Only.alloc _ _ (opC p2 k2 x2))))
            clear ho c0 c1 c2 c3 c4 HF2
            obtain ⟨c0, c1, c2, c3, c4⟩ := HC.out _ HS.out.2.2
            go_wp2_with fail
            generalize w13.alloc (opC p2 k2 x2) = w14 at *
            refine (is_any HS.out.1.t m (by omega)).mono ?_
            rintro e w15 ⟨rfl, ho⟩
            replace HS := Lib.hid (HS.out.later ho)
            have HSL : Hid (Side w b mi mp (40 + 2 * (j + 1)) x Di Dp ao cap l w15 ∧ l.length = Maps.size Di + Maps.size Dp) := Lib.hid ⟨HS.out, HX.out.2⟩
            clear ho c0 c1 c2 c3 c4 HS HX HC HLL HXL HQ1
            generalize Maps.has Di (keyN m) = r1 at *
            generalize Maps.has Dp (keyN m) = r2 at *
            cases r1 <;> cases r2
            all_goals
              go_wp2_with fail
              go_roundw
              case rel => exact ⟨j + 1, b, mi, mp, Di, Dp, ao, cap, l, rfl, rfl, by go_num, by omega, by omega, HSL⟩
              case measure => simp [intOf]; omega
          · have hs3 : (s.size : Int) > 1000 := by omega
            have HSL : Hid (Side w b mi mp (40 + 2 * (j + 1)) x Di Dp ao cap l wr ∧ l.length = Maps.size Di + Maps.size Dp) := Lib.hid ⟨⟨hI.out.1.1.more (by omega), hI.out.1.2⟩, hI.out.2⟩
            clear hI HC
            go_wp2_with fail
            go_roundw
            case rel => exact ⟨j + 1, b, mi, mp, Di, Dp, ao, cap, l, rfl, rfl, by go_num, by omega, by omega, HSL⟩
            case measure => simp [intOf]; omega
        · have hm1 : (m.size : Int) > 1000 := by omega
          have HSL : Hid (Side w b mi mp (40 + 2 * (j + 1)) x Di Dp ao cap l wr ∧ l.length = Maps.size Di + Maps.size Dp) := Lib.hid ⟨⟨hI.out.1.1.more (by omega), hI.out.1.2⟩, hI.out.2⟩
          clear hI HC
          go_wp2_with fail
          go_roundw
          case rel => exact ⟨j + 1, b, mi, mp, Di, Dp, ao, cap, l, rfl, rfl, by go_num, by omega, by omega, HSL⟩
          case measure => simp [intOf]; omega
      · have j2 : ¬ (j : Int) < 60 := by omega
        have HFIN := Lib.hid hI.out.1.2.2
        clear hI
        go_wp2_with fail
        go_ret
        exact ⟨rfl, HFIN.out.to_below⟩
    · have j1 : ¬ (j : Int) < (q.length : Int) := by omega
      have HFIN := Lib.hid hI.out.1.2.2
      clear hI
      go_wp2_with fail
      go_ret
      exact ⟨rfl, HFIN.out.to_below⟩
end Go.Proofs.YtodgjkdhkohckaaDoor.opers
