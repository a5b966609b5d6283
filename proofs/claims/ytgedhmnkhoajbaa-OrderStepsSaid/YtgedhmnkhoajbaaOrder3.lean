/- Order: the insertion sort of places, by a comparison that makes memory. -/
import Derived.Test.YtgedhmnkhoajbaaOrder2
import Derived.Sort.Defs
import Derived.Deep.LoopGhost
namespace Go.Proofs.Ytgedhmnkhoajbaa.orders
open Go.RowKit Go.Proofs.Ytgedhmnkhoajbaa.own Go.Maps Go.Proofs.Ytgedhmnkhoajbaa.terms
def encN (x : Int) : List Value := [.int .i64 x]
theorem liesN : Go.Proofs.Ytgedhmnkhoajbaa.own.Lies encN 1 := ⟨fun _ => rfl, by intro x u hu; simp [encN] at hu; subst hu; rfl, by omega⟩
abbrev Ints (B : Nat) (ao : Option Addr) (cap : Nat) (l : List Int) (w : World) : Prop := RowOf encN 1 3 B ao cap l w
/-- What is asked of the comparison: a function of places below N, in whatever world that comes of w0. -/
def Cmps (f : Nat) (cb : Array Value) (N : Nat) (cf : Int → Int → Int) (w0 : World) : Prop := ∀ (W : World) (i j : Int), Only (fun _ => False) w0 W → 0 ≤ i ∧ i < N → 0 ≤ j ∧ j < N → Calls Try.prog f (#[.int .i64 i, .int .i64 j] ++ cb) W fun e w' => e = .returned (.int .i64 (cf i j)) ∧ Only (fun _ => False) W w'
def ltI (cf : Int → Int → Int) (x y : Int) : Bool := decide (cf x y < 0)
/-- Places below N. -/
def LowN (N : Nat) (d : Array Int) : Prop := ∀ i, i < d.size → 0 ≤ d[i]! ∧ d[i]! < N
/-- Places in a row of their own. -/
structure Pl (w0 : World) (g cap N : Nat) (d : Array Int) (W : World) : Prop where
  row : Ints w0.heap.size (some ⟨g, 0, none⟩) cap d.toList W
  own : Only (fun _ => False) w0 W
  low : LowN N d
theorem Pl.later {w0 : World} {g cap N : Nat} {d : Array Int} {W W' : World} (h : Pl w0 g cap N d W) (ho : Only (fun _ => False) W W') : Pl w0 g cap N d W' := ⟨h.row.only ho (fun _ _ e => e), h.own.same ho, h.low⟩
theorem Pl.cell {w0 : World} {g cap N : Nat} {d : Array Int} {W : World} (h : Pl w0 g cap N d W) {i : Nat} (hi : i < d.size) : W.cell? ⟨g, i, none⟩ = some (.int .i64 d[i]!) ∧ W.frozen? ⟨g, i, none⟩ = false ∧ w0.heap.size ≤ g := by
  have hx : d.toList[i]? = some d[i]! := by
    rw [Array.getElem?_toList, getElem!_pos d i hi, Array.getElem?_eq_getElem hi]
  obtain ⟨g', hg, hB, hc⟩ := h.row.at liesN i _ hx
  cases hg
  have := hc 0 (by omega)
  simp only [encN, List.getElem?_cons_zero, Nat.mul_one, Nat.add_zero] at this
  exact ⟨this.1, this.2, hB⟩
theorem Pl.set {w0 : World} {g cap N : Nat} {d : Array Int} {W : World} (h : Pl w0 g cap N d W) {i : Nat} (hi : i < d.size) (x : Int) (hx : 0 ≤ x ∧ x < N) : Pl w0 g cap N (d.setIfInBounds i x) (W.setCell ⟨g, i, none⟩ (.int .i64 x)) := by
  have hy : d.toList[i]? = some d[i]! := by
    rw [Array.getElem?_toList, getElem!_pos d i hi, Array.getElem?_eq_getElem hi]
  obtain ⟨h1, h2⟩ := h.row.stored liesN i 0 d[i]! x (.int .i64 x) hy (by omega) rfl
  rw [show i * 1 + 0 = i by omega] at h1 h2
  refine ⟨by rw [Array.toList_setIfInBounds]; exact h1, Only.cut h.own h2 (fun k e => by rw [e]; exact (h.cell hi).2.2), fun k hk => ?_⟩
  have hk2 : k < d.size := by simpa using hk
  by_cases e : k = i
  · subst e
    rw [getElem!_pos _ k hk, Array.getElem_setIfInBounds_self]
    exact hx
  · rw [getElem!_pos _ k hk, Array.getElem_setIfInBounds_ne hk2 (fun e' => e e'.symm), ← getElem!_pos d k hk2]
    exact h.low k hk2
set_option maxRecDepth 100000 in
set_option maxHeartbeats 4000000 in
theorem ins_any (cf : Int → Int → Int) (cb : Array Value) (N : Nat) (w0 : World) (hc : Cmps 45 cb N cf w0) (g cap a b : Nat) (d : Array Int) (w : World) (hp : Pl w0 g cap N d w) (hab : a ≤ b) (hb : b ≤ d.size) (hn : d.size ≤ 100000) :
    Calls Try.prog 59 #[.slice (some ⟨g, 0, none⟩) d.size cap, .int .i64 a, .int .i64 b, .func (.func 45) #[] cb] w fun e w' => e = .returned (.tuple #[]) ∧ Pl w0 g cap N (Sort.insertionSort (ltI cf) d a b) w' ∧ (Sort.insertionSort (ltI cf) d a b).size = d.size := by
  have HC := Lib.hid hc
  have hE : ∀ args w, (callFunc 45 args).run Try.prog w = .ok (.enter 45 args) w := fun _ _ => rfl
  have HI0 : Hid (Sort.insOuter (ltI cf) a b (a + 1) d = Sort.insOuter (ltI cf) a b (a + 1) d ∧ Pl w0 g cap N d w ∧ d.size = d.size) := ⟨rfl, hp, rfl⟩
  clear hc hp
  go_enter Try.func59, Try.ntmps59
  go_wp2_with fail
  go_loopw [8] (fun vi wr => ∃ (i : Nat) (dk : Array Int), vi = .int .i64 i ∧ a < i ∧ i ≤ b + 1 ∧ Hid (Sort.insOuter (ltI cf) a b i dk = Sort.insOuter (ltI cf) a b (a + 1) d ∧ Pl w0 g cap N dk wr ∧ dk.size = d.size)) (fun vi _ => b + 1 - (intOf vi).toNat)
  case atStart => exact ⟨a + 1, d, by go_num, by omega, by omega, Lib.hid ⟨rfl, (HI0 : Hid (_ ∧ Pl w0 g cap N d w ∧ True)).out.2.1, rfl⟩⟩
  case round =>
    obtain ⟨i, dk, rfl, hi1, hi2, hI⟩ := hrel
    clear HI0
    by_cases hlt : i < b
    · have hlt1 : (i : Int) < (b : Int) := by omega
      have HJ0 : Hid (Sort.insInner (ltI cf) a i dk = Sort.insInner (ltI cf) a i dk ∧ Pl w0 g cap N dk wr ∧ dk.size = d.size) := Lib.hid ⟨rfl, hI.out.2⟩
      go_wp2_with fail
      go_loopw [9] (fun vj wr2 => ∃ (j : Nat) (dj : Array Int), vj = .int .i64 j ∧ a ≤ j ∧ j ≤ i ∧ Hid (Sort.insInner (ltI cf) a j dj = Sort.insInner (ltI cf) a i dk ∧ Pl w0 g cap N dj wr2 ∧ dj.size = d.size)) (fun vj _ => (intOf vj).toNat)
      case atStart => exact ⟨i, dk, rfl, by omega, by omega, Lib.hid ⟨rfl, hI.out.2⟩⟩
      case round =>
        obtain ⟨j, dj, rfl, hj1, hj2, hJ⟩ := hrel
        clear HJ0
        by_cases hgt : a < j
        · obtain ⟨p, hjp⟩ : ∃ p, j = p + 1 := ⟨j - 1, by omega⟩
          have HJP := Lib.hid hjp
          have q0 := hJ.out.2.1.cell (i := p) (by have := hJ.out.2.2; omega)
          have q1 := hJ.out.2.1.cell (i := j) (by have := hJ.out.2.2; omega)
          have hz0 := hJ.out.2.1.low p (by have := hJ.out.2.2; omega)
          have hz1 := hJ.out.2.1.low j (by have := hJ.out.2.2; omega)
          have HSW := Lib.hid (fun (h : cf dj[j]! dj[p]! < 0) => show Sort.insInner (ltI cf) a p (Sort.swp dj j p) = Sort.insInner (ltI cf) a i dk from by
            rw [← hJ.out.1]
            subst hjp
            simp [Sort.insInner, ltI, h]
            omega)
          have HNS := Lib.hid (fun (h : ¬ cf dj[j]! dj[p]! < 0) => show dj = Sort.insInner (ltI cf) a i dk from by
            rw [← hJ.out.1]
            subst hjp
            simp [Sort.insInner, ltI, h])
          have HCC := Lib.hid (fun (W : World) (ho : Only (fun _ => False) wr W) => HC.out W dj[j]! dj[p]! (hJ.out.2.1.own.same ho) hz1 hz0)
          have HK : Hid (∀ w', Only (fun _ => False) wr w' → w'.cell? ⟨g, p, none⟩ = some (.int .i64 dj[p]!) ∧ w'.cell? ⟨g, j, none⟩ = some (.int .i64 dj[j]!)) := Lib.hid (fun w' ho => ⟨((hJ.out.2.1.later ho).cell (i := p) (by have := hJ.out.2.2; omega)).1, ((hJ.out.2.1.later ho).cell (i := j) (by have := hJ.out.2.2; omega)).1⟩)
          have HA : Hid (Only (fun _ => False) wr wr.drew) := Lib.hid (Only.drew _ _)
          have hdz := hJ.out.2.2
          have hgt1 : (a : Int) < (j : Int) := by omega
          have hgt2 : (decide ((a : Int) < (j : Int))) = true := decide_eq_true hgt1
          have hpp : IntKind.i64.wrap ((j : Int) - 1) = (p : Int) := by rw [show (j : Int) - 1 = (p : Int) by omega]; exact IntWalk.i64_in _ (by omega)
          have hb0 : (0 : Int) ≤ (p : Int) := by omega
          have hb1 : (p : Int) < (d.size : Int) := by omega
          have hb2 : (j : Int) < (d.size : Int) := by omega
          have hb3 : (0 : Int) ≤ (j : Int) := by omega
          generalize hy : dj[j]! = y at *
          generalize hx : dj[p]! = x at *
          have HYX := Lib.hid (And.intro hy hx)
          clear hjp hy hx
          go_wp2_with fail
          go_region_held3 (fun w' => w'.cell? ⟨g, p, none⟩ = some (.int .i64 x) ∧ w'.cell? ⟨g, j, none⟩ = some (.int .i64 y)) (first | exact HK.out _ HA.out | go_keep) (first
            | (go_at_call 45; refine (HCC.out _ HA.out).mono ?_; rintro e wx ⟨rfl, ho⟩; have HA := Lib.hid (HA.out.same ho); clear ho))
          by_cases hlt2 : cf y x < 0
          · have HK2 := HK.out _ HA.out
            have hs1 := (hJ.out.2.1.later HA.out).set (i := j) (by omega) x hz0
            have hs2 := hs1.set (i := p) (by simp; omega) y hz1
            have HS2 : Hid (Pl w0 g cap N (Sort.swp dj j p) (((wx.setCell ⟨g, j, none⟩ (.int .i64 x)).setCell ⟨g, p, none⟩ (.int .i64 y)))) := Lib.hid (by
              have e : Sort.swp dj j p = (dj.setIfInBounds j x).setIfInBounds p y := by unfold Sort.swp; rw [HYX.out.1, HYX.out.2]
              rw [e]; exact hs2)
            have f0 := ((hJ.out.2.1.later HA.out).cell (i := p) (by omega)).2.1
            have f1 := ((hJ.out.2.1.later HA.out).cell (i := j) (by omega)).2.1
            obtain ⟨k0, k1⟩ := HK2
            have hne1 : ¬ p = j := by have := HJP.out; omega
            have hne2 : ¬ j = p := fun e => hne1 e.symm
            clear hs1 hs2
            go_wp2_with fail
            go_region
            have HEX : Hid (Sort.insInner (ltI cf) a p (Sort.swp dj j p) = Sort.insInner (ltI cf) a i dk ∧ Pl w0 g cap N (Sort.swp dj j p) ((wx.setCell ⟨g, j, none⟩ (.int .i64 x)).setCell ⟨g, p, none⟩ (.int .i64 y)).drew ∧ (Sort.swp dj j p).size = d.size) := Lib.hid ⟨HSW.out hlt2, HS2.out.later (Only.drew _ _), by simp [Sort.swp]; exact hJ.out.2.2⟩
            generalize ((wx.setCell ⟨g, j, none⟩ (.int .i64 x)).setCell ⟨g, p, none⟩ (.int .i64 y)).drew = wz at *
            clear k0 k1 f0 f1
            go_wp2_with fail
            go_roundw
            case rel => exact ⟨p, Sort.swp dj j p, rfl, by have := HJP.out; omega, by have := HJP.out; omega, HEX⟩
            case measure =>
              simp [intOf]
              exact Nat.lt_of_lt_of_eq (Nat.lt_succ_self p) HJP.out.symm
          · have HEND : Hid (Sort.insOuter (ltI cf) a b (i + 1) dj = Sort.insOuter (ltI cf) a b (a + 1) d ∧ Pl w0 g cap N dj wx ∧ dj.size = d.size) := Lib.hid ⟨by
              have h1 := hI.out.1
              rw [Sort.insOuter, if_pos hlt, ← HNS.out (Int.not_lt.1 hlt2)] at h1
              exact h1, hJ.out.2.1.later HA.out, hJ.out.2.2⟩
            go_wp2_with fail
            go_roundw
            case rel => exact ⟨i + 1, dj, by go_num, by omega, by omega, HEND⟩
            case measure => simp [intOf]; omega
        · have hng1 : ¬ (a : Int) < (j : Int) := by omega
          have hng2 : (decide ((a : Int) < (j : Int))) = false := decide_eq_false hng1
          go_wp2_with fail
          have hja : j = a := by omega
          have HEND : Hid (∀ q, Sort.insOuter (ltI cf) a b (i + 1) dj = Sort.insOuter (ltI cf) a b (a + 1) d ∧ Pl w0 g cap N dj (wr.drewN q) ∧ dj.size = d.size) := Lib.hid (fun q => ⟨by
            have h1 := hI.out.1
            have h2 := hJ.out.1
            rw [hja] at h2
            have h3 : Sort.insInner (ltI cf) a a dj = dj := by
              cases a with
              | zero => rfl
              | succ a => simp [Sort.insInner]
            rw [h3] at h2
            rw [Sort.insOuter, if_pos hlt, ← h2] at h1
            exact h1, hJ.out.2.1.later (Only.drewN _ _ _), hJ.out.2.2⟩)
          clear hja
          go_quiet (fail)
          have HEQ := Lib.hid (HEND.out nq)
          generalize wr.drewN nq = wq at *
          go_wp2_with fail
          go_roundw
          case rel => exact ⟨i + 1, dj, by go_num, by omega, by omega, HEQ⟩
          case measure => simp [intOf]; omega
    · have hng1 : ¬ (i : Int) < (b : Int) := by omega
      have HE : Hid (dk = Sort.insertionSort (ltI cf) d a b) := Lib.hid (by
        have h1 := hI.out.1
        rw [Sort.insOuter, if_neg hlt] at h1
        exact h1)
      go_wp2_with fail
      go_end0
      rw [← HE.out]
      exact ⟨rfl, hI.out.2⟩
end Go.Proofs.Ytgedhmnkhoajbaa.orders
