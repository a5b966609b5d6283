/- Order: Merge's comparison, and the library's compaction of three places of which the last two are alike. -/
import Derived.Test.YtgedhmnkhoajbaaOrder6
import Derived.Lib.SliceRun
namespace Go.Proofs.Ytgedhmnkhoajbaa.orders
open Go.RowKit Go.Proofs.Ytgedhmnkhoajbaa.own Go.Maps Go.Proofs.Ytgedhmnkhoajbaa.terms
/-- What is asked of a question about two places. -/
def Eqs (f : Nat) (cb : Array Value) (N : Nat) (ef : Int → Int → Bool) (w0 : World) : Prop := ∀ (W : World) (i j : Int), Only (fun _ => False) w0 W → 0 ≤ i ∧ i < N → 0 ≤ j ∧ j < N → Calls Try.prog f (#[.int .i64 i, .int .i64 j] ++ cb) W fun e w' => e = .returned (.bool (ef i j)) ∧ Only (fun _ => False) W w'
set_option maxRecDepth 100000 in
set_option maxHeartbeats 2000000 in
theorem eqs_l (l : List T) (lo : Option Addr) (lc bx : Nat) (w0 : World) (hl : Lies w0 lo l) (hb : w0.heap[bx]? = some (.cells #[.slice lo l.length lc] 22 (0, 0))) : Eqs 34 #[.pointer (some ⟨bx, 0, none⟩)] l.length (fun i j => cfL l i j == 0) w0 := by
  intro W i j ho hi hj
  obtain ⟨p, rfl⟩ : ∃ p : Nat, i = (p : Int) := ⟨i.toNat, by omega⟩
  obtain ⟨q, rfl⟩ : ∃ q : Nat, j = (q : Int) := ⟨j.toNat, by omega⟩
  obtain ⟨x, hx⟩ : ∃ x, l[p]? = some x := ⟨_, List.getElem?_eq_getElem (by omega)⟩
  obtain ⟨y, hy⟩ : ∃ y, l[q]? = some y := ⟨_, List.getElem?_eq_getElem (by omega)⟩
  have hcf : cfL l p q = (meetF x y).1 := by
    unfold cfL
    rw [Int.toNat_natCast, Int.toNat_natCast, List.getD_eq_getElem?_getD, List.getD_eq_getElem?_getD, hx, hy]
    rfl
  dsimp only
  rw [hcf]
  have hlW := hl.later ho
  obtain ⟨b, off, xo, xc, rfl, hbl, t0, t1, t2, t3, hxs, hxl⟩ := hlW.at hx
  obtain ⟨b', off', yo, yc, he, hbl', s0, s1, s2, s3, hys, hyl⟩ := hlW.at hy
  cases he
  have HX := Lib.hid (And.intro hxs hxl)
  have HY := Lib.hid (And.intro hys hyl)
  have hbW := blk_later hb ho
  have hj0 : (0 : Int) ≤ (p : Int) := by omega
  have hj1 : (0 : Int) ≤ (q : Int) := by omega
  have hi1 := hi.2
  have hi2 := hj.2
  have HK : Hid (∀ w', Only (fun _ => False) W w' → w'.cell? ⟨bx, 0, none⟩ = some (.slice (some ⟨b, off, none⟩) l.length lc) ∧ w'.cell? ⟨b, off + p * 4, none⟩ = some (.int .i64 x.k) ∧ w'.cell? ⟨b, off + p * 4 + 1, none⟩ = some (.int .i64 x.n) ∧ w'.cell? ⟨b, off + p * 4 + 2, none⟩ = some (.string x.s) ∧ w'.cell? ⟨b, off + p * 4 + 3, none⟩ = some (.slice xo x.l.length xc) ∧ w'.cell? ⟨b, off + q * 4, none⟩ = some (.int .i64 y.k) ∧ w'.cell? ⟨b, off + q * 4 + 1, none⟩ = some (.int .i64 y.n) ∧ w'.cell? ⟨b, off + q * 4 + 2, none⟩ = some (.string y.s) ∧ w'.cell? ⟨b, off + q * 4 + 3, none⟩ = some (.slice yo y.l.length yc)) := Lib.hid (fun w' ho2 => by
    have hc := cell_of_blk (blk_later hbW ho2) 0
    simp only [List.getElem?_toArray, List.getElem?_cons_zero, List.getElem?_cons_succ] at hc
    exact ⟨hc, (ho2.cell (p := ⟨b, off + p * 4, none⟩) hbl (fun e => e)).trans t0, (ho2.cell (p := ⟨b, off + p * 4 + 1, none⟩) hbl (fun e => e)).trans t1, (ho2.cell (p := ⟨b, off + p * 4 + 2, none⟩) hbl (fun e => e)).trans t2, (ho2.cell (p := ⟨b, off + p * 4 + 3, none⟩) hbl (fun e => e)).trans t3, (ho2.cell (p := ⟨b, off + q * 4, none⟩) hbl (fun e => e)).trans s0, (ho2.cell (p := ⟨b, off + q * 4 + 1, none⟩) hbl (fun e => e)).trans s1, (ho2.cell (p := ⟨b, off + q * 4 + 2, none⟩) hbl (fun e => e)).trans s2, (ho2.cell (p := ⟨b, off + q * 4 + 3, none⟩) hbl (fun e => e)).trans s3⟩)
  have HA : Hid (Only (fun _ => False) W W.drew) := Lib.hid (Only.drew _ _)
  clear hlW hx hy hxs hxl hys hyl t0 t1 t2 t3 s0 s1 s2 s3 hcf hl hb hbW
  go_enter Try.func34, Try.ntmps34
  go_wp2_with fail
  go_region_held3 (fun w' => w'.cell? ⟨bx, 0, none⟩ = some (.slice (some ⟨b, off, none⟩) l.length lc) ∧ w'.cell? ⟨b, off + p * 4, none⟩ = some (.int .i64 x.k) ∧ w'.cell? ⟨b, off + p * 4 + 1, none⟩ = some (.int .i64 x.n) ∧ w'.cell? ⟨b, off + p * 4 + 2, none⟩ = some (.string x.s) ∧ w'.cell? ⟨b, off + p * 4 + 3, none⟩ = some (.slice xo x.l.length xc) ∧ w'.cell? ⟨b, off + q * 4, none⟩ = some (.int .i64 y.k) ∧ w'.cell? ⟨b, off + q * 4 + 1, none⟩ = some (.int .i64 y.n) ∧ w'.cell? ⟨b, off + q * 4 + 2, none⟩ = some (.string y.s) ∧ w'.cell? ⟨b, off + q * 4 + 3, none⟩ = some (.slice yo y.l.length yc)) (first | exact HK.out _ HA.out | go_keep) (first
    | (go_at_call 35; refine (rank_any x y _ xo yo xc yc (HX.out.2.later HA.out) HX.out.1 (HY.out.2.later HA.out) HY.out.1).mono ?_; rintro e wx ⟨rfl, ho⟩; have HA := Lib.hid (HA.out.same ho); clear ho))
  go_wp2_with fail
  go_ret
  exact ⟨rfl, HA.out⟩
theorem infoN_zero : ∀ w, (zeroValue 3).run Try.prog w = .ok (.int .i64 0) w := fun _ => rfl
set_option maxRecDepth 100000 in
set_option maxHeartbeats 4000000 in
theorem compact3 (ef : Int → Int → Bool) (cb : Array Value) (N : Nat) (w0 : World) (hc : Eqs 34 cb N ef w0) (g cap : Nat) (p0 p1 p2 : Int) (w : World) (hp : Pl w0 g cap N #[p0, p1, p2] w) (h1 : ef p1 p0 = false) (h2 : ef p2 p1 = true) :
    Calls Try.prog 33 #[.slice (some ⟨g, 0, none⟩) 3 cap, .func (.func 34) #[] cb] w fun e w' => e = .returned (.slice (some ⟨g, 0, none⟩) 2 cap) ∧ Pl w0 g cap N #[p0, p1] w' := by
  have HC := Lib.hid hc
  have hE : ∀ args w, (callFunc 34 args).run Try.prog w = .ok (.enter 34 args) w := fun _ _ => rfl
  have hcap := hp.row.cap_ge
  simp only [Array.toList, List.length_cons, List.length_nil] at hcap
  have hc1 : 3 ≤ cap := by omega
  have hc2 : cap ≤ maxLen := hcap.2
  clear hcap
  have HP := Lib.hid hp
  have L0 := hp.low 0 (by simp)
  have L1 := hp.low 1 (by simp)
  have L2 := hp.low 2 (by simp)
  simp only [show (#[p0, p1, p2] : Array Int)[0]! = p0 from rfl] at L0
  simp only [show (#[p0, p1, p2] : Array Int)[1]! = p1 from rfl] at L1
  simp only [show (#[p0, p1, p2] : Array Int)[2]! = p2 from rfl] at L2
  have H1 : Hid (ef p1 p0 = false ∧ ef p2 p1 = true) := Lib.hid ⟨h1, h2⟩
  have HL : Hid ((0 ≤ p0 ∧ p0 < N) ∧ (0 ≤ p1 ∧ p1 < N) ∧ (0 ≤ p2 ∧ p2 < N)) := Lib.hid ⟨L0, L1, L2⟩
  have hw1 : IntKind.i64.wrap ((1 : Int) - 1) = 0 := rfl
  have hw2 : IntKind.i64.wrap ((2 : Int) - 1) = 1 := rfl
  clear hc hp L0 L1 L2 h1 h2
  go_enter Try.func33, Try.ntmps33
  go_wp2_with fail
  go_loopw [5] (fun i wr => ∃ j : Nat, i = .int .i64 j ∧ Hid (j = 1 ∨ j = 2) ∧ Hid (Pl w0 g cap N #[p0, p1, p2] wr)) (fun i _ => 3 - (intOf i).toNat)
  case atStart => exact ⟨1, rfl, Lib.hid (.inl rfl), HP⟩
  case round =>
    obtain ⟨j, rfl, hi, hR⟩ := hrel
    clear HP
    have hj3 : j < 3 := by have := hi.out; omega
    obtain ⟨r, hr⟩ : ∃ r : Nat, j = r + 1 := ⟨j - 1, by have := hi.out; omega⟩
    have q1 := hR.out.cell (i := j) (by simpa using hj3)
    have q0 := hR.out.cell (i := r) (by simp; omega)
    have l1 := hR.out.low j (by simpa using hj3)
    have l0 := hR.out.low r (by simp; omega)
    have hxy : (j = 1 → (#[p0, p1, p2] : Array Int)[j]! = p1 ∧ (#[p0, p1, p2] : Array Int)[r]! = p0) ∧ (j = 2 → (#[p0, p1, p2] : Array Int)[j]! = p2 ∧ (#[p0, p1, p2] : Array Int)[r]! = p1) := by
      constructor
      · intro e; obtain rfl : r = 0 := by omega
        subst e; exact ⟨rfl, rfl⟩
      · intro e; obtain rfl : r = 1 := by omega
        subst e; exact ⟨rfl, rfl⟩
    generalize (#[p0, p1, p2] : Array Int)[j]! = x at *
    generalize (#[p0, p1, p2] : Array Int)[r]! = y at *
    have HXY := Lib.hid hxy
    have HLO := Lib.hid (And.intro l1 l0)
    have hg : g < wr.heap.size := lt_of_cell q0.1
    have HK : Hid (∀ w', Only (fun _ => False) wr w' → w'.cell? ⟨g, j, none⟩ = some (.int .i64 x) ∧ w'.cell? ⟨g, r, none⟩ = some (.int .i64 y)) := Lib.hid (fun w' ho => ⟨(ho.cell (p := ⟨g, j, none⟩) hg (fun e => e)).trans q1.1, (ho.cell (p := ⟨g, r, none⟩) hg (fun e => e)).trans q0.1⟩)
    have HA : Hid (Only (fun _ => False) wr wr.drew) := Lib.hid (Only.drew _ _)
    have hwr : IntKind.i64.wrap ((j : Int) - 1) = (r : Int) := by rw [show (j : Int) - 1 = (r : Int) by omega]; exact IntWalk.i64_in _ (by omega)
    have i0 : (0 : Int) ≤ (r : Int) := by omega
    have i1 : (r : Int) < 3 := by omega
    have i2 : (0 : Int) ≤ (j : Int) := by omega
    have i3 : (j : Int) < 3 := by omega
    have HR0 := Lib.hid hr
    clear q0 q1 l0 l1 hxy hr
    by_cases h1 : j = 1
    · have HF : Hid (ef x y = false) := Lib.hid (by rw [(HXY.out.1 h1).1, (HXY.out.1 h1).2]; exact H1.out.1)
      have HJ := Lib.hid h1
      clear h1 hj3
      go_wp2_with fail
      go_region_held3 (fun w' => w'.cell? ⟨g, j, none⟩ = some (.int .i64 x) ∧ w'.cell? ⟨g, r, none⟩ = some (.int .i64 y)) (first | exact HK.out _ HA.out | go_keep) (first
        | (go_at_call 34; refine (HC.out _ x y (hR.out.own.same HA.out) HLO.out.1 HLO.out.2).mono ?_; rintro e wx ⟨rfl, ho⟩; rw [HF.out]; have HA := Lib.hid (HA.out.same ho); clear ho))
      have HR2 := Lib.hid (hR.out.later HA.out)
      go_wp2_with fail
      go_roundw
      case rel => exact ⟨j + 1, by go_num, Lib.hid (.inr (by have := HJ.out; omega)), HR2⟩
      case measure => have := HJ.out; simp [intOf]; omega
    · have HJ : Hid (j = 2) := Lib.hid (by have := hi.out; omega)
      have HF : Hid (ef x y = true) := Lib.hid (by rw [(HXY.out.2 HJ.out).1, (HXY.out.2 HJ.out).2]; exact H1.out.2)
      clear h1 hj3
      go_wp2_with fail
      go_region_held3 (fun w' => w'.cell? ⟨g, j, none⟩ = some (.int .i64 x) ∧ w'.cell? ⟨g, r, none⟩ = some (.int .i64 y)) (first | exact HK.out _ HA.out | go_keep) (first
        | (go_at_call 34; refine (HC.out _ x y (hR.out.own.same HA.out) HLO.out.1 HLO.out.2).mono ?_; rintro e wx ⟨rfl, ho⟩; rw [HF.out]; have HA := Lib.hid (HA.out.same ho); clear ho))
      have hj2 := HJ.out
      have HRA := Lib.hid (hR.out.later HA.out)
      clear HK HA HXY HLO HF HJ HR0 hR hi hwr i0 i1 i2 i3
      subst hj2
      have HR2 := HRA
      generalize (wx : World) = wy at *
      have c2 := HR2.out.cell (i := 2) (by simp)
      simp only [show (#[p0, p1, p2] : Array Int)[2]! = p2 from rfl] at c2
      have hcl : ∀ ty, (Builtin.clear_ #[49] ty #[.slice (some ⟨g, 2, none⟩) 1 (cap - 2)]).run Try.prog wy = .ok (.tuple #[]) (wy.setCell ⟨g, 2, none⟩ (.int .i64 0)) := fun ty => by
        have h := Lib.run_clear_slice wy 49 3 ty (.int .i64 0) Try.underlying49 infoN_zero rfl rfl g 2 1 (cap - 2) (by omega) (fun j hj => by
          obtain rfl : j = 0 := by omega
          rw [show 2 + 0 = 2 from rfl, c2.1]; rfl) (fun j hj => by
          obtain rfl : j = 0 := by omega
          exact c2.2.1)
        exact h
      have HEND : Hid (Pl w0 g cap N #[p0, p1] (wy.setCell ⟨g, 2, none⟩ (.int .i64 0))) := Lib.hid (by
        have h := HR2.out.set (i := 2) (by simp) 0 ⟨by omega, by have := HL.out.1; omega⟩
        have hr := h.row.take liesN 2 (by simp)
        refine ⟨?_, h.own, fun i hi => ?_⟩
        · simpa using hr
        · have hi2 : i < 2 := by simpa using hi
          rcases (show i = 0 ∨ i = 1 by omega) with rfl | rfl
          · exact HL.out.1
          · exact HL.out.2.1)
      have hx0 : ¬ (1 : Int) < (1 : Int) := by omega
      have hx1 : (2 : Int) ≤ (cap : Int) := by omega
      have hx2 : (3 : Int) ≤ (cap : Int) := by omega
      clear c2 HR2 HRA
      go_wp2_with fail
      go_loopw [5, 7] (fun i k wr => i = .int .i64 2 ∧ k = .int .i64 1 ∧ wr = wy) (fun _ _ _ => 0)
      case atStart => exact ⟨rfl, rfl, rfl⟩
      case round =>
        obtain ⟨rfl, rfl, rfl⟩ := hrel
        go_wp2_with fail
        go_ret
        exact ⟨rfl, HEND.out⟩
end Go.Proofs.Ytgedhmnkhoajbaa.orders
