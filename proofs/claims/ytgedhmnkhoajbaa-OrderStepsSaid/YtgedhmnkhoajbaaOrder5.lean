/- Order: the places of few terms in order. -/
import Derived.Test.YtgedhmnkhoajbaaOrder4
import Derived.RangeFuncOwn
namespace Go.Proofs.Ytgedhmnkhoajbaa.orders
open Go.RowKit Go.Proofs.Ytgedhmnkhoajbaa.own Go.Maps Go.Proofs.Ytgedhmnkhoajbaa.terms
theorem lt_of_cell {w : World} {a : Addr} {v : Value} (h : w.cell? a = some v) : a.block < w.heap.size := by
  obtain ⟨o, ho, _⟩ := cells_of_cell h
  exact (Array.getElem?_eq_some_iff.1 ho).1
def rngI (n : Nat) : List Int := (List.range n).map (fun (i : Nat) => (i : Int))
theorem rngI_len (n : Nat) : (rngI n).length = n := by simp [rngI]
/-- The places so far, and zeros behind. -/
def rngZ (j n : Nat) : List Int := rngI j ++ List.replicate (n - j) 0
theorem rngZ_len {j n : Nat} (h : j ≤ n) : (rngZ j n).length = n := by simp [rngZ, rngI_len]; omega
theorem rngZ_step {j n : Nat} (h : j < n) : (rngZ j n)[j]? = some 0 ∧ (rngZ j n).set j (j : Int) = rngZ (j + 1) n := by
  constructor
  · unfold rngZ
    rw [List.getElem?_append_right (by rw [rngI_len]; exact Nat.le_refl _), rngI_len, Nat.sub_self, List.getElem?_replicate, if_pos (by omega)]
  · unfold rngZ
    rw [List.set_append_right _ _ (by rw [rngI_len]; exact Nat.le_refl _), rngI_len, Nat.sub_self]
    obtain ⟨k, hk⟩ : ∃ k, n - j = k + 1 := ⟨n - j - 1, by omega⟩
    rw [hk, show n - (j + 1) = k by omega]
    simp [rngI, List.range_succ, List.replicate_succ]
def plA (n : Nat) : Array Int := (rngI n).toArray
theorem plA_size (n : Nat) : (plA n).size = n := by simp [plA, rngI_len]
theorem plA_low (n : Nat) : LowN n (plA n) := by
  intro i hi
  have hi2 : i < n := by rwa [plA_size] at hi
  have e : (plA n)[i]! = (i : Int) := by
    rw [getElem!_pos _ i hi]
    simp [plA, rngI]
  rw [e]
  omega
/-- The places in order. -/
def srt (l : List T) : Array Int := Sort.insertionSort (ltI (cfL l)) (plA l.length) 0 l.length
set_option maxRecDepth 100000 in
set_option maxHeartbeats 8000000 in
theorem sorted_few (l : List T) (w : World) (lo : Option Addr) (lc : Nat) (hl : Lies w lo l) (hlen : l.length ≤ 19) (hok : ∀ x ∈ l, x.Ok) (hun : ∀ i, 1 ≤ i → i < l.length → (meetF (l.getD (srt l)[i - 1]!.toNat default) (l.getD (srt l)[i]!.toNat default)).2 = false) :
    Calls Try.prog 31 #[.slice lo l.length lc] w fun e w' => ∃ g cap B, w.heap.size ≤ B ∧ e = .returned (.tuple #[.slice (some ⟨g, 0, none⟩) l.length cap, .int .i64 0]) ∧ Ints B (some ⟨g, 0, none⟩) cap (srt l).toList w' ∧ (srt l).size = l.length ∧ LowN l.length (srt l) ∧ Only (fun _ => False) w w' := by
  have HL := Lib.hid hl
  have HUN := Lib.hid hun
  have HCH : Hid (∀ W, Only (fun _ => False) w W → Calls Try.prog 27 #[.slice lo l.length lc] W fun e w' => e = .returned (.int .i64 0) ∧ Only (fun _ => False) W w') := Lib.hid (fun W ho => (chk_any l W lo lc (hl.later ho) (by omega) (fun x hx => by have := (hok x hx).size; omega)).mono (fun e w' h => by
    obtain ⟨⟨c, h1, h2⟩, h3⟩ := h
    obtain rfl := h2.2 hok
    exact ⟨h1, h3⟩))
  have hb0 := heap_alloc_new w (.cells #[.slice lo l.length lc] 22)
  have HO0 : Hid (Only (fun _ => False) w (w.alloc (.cells #[.slice lo l.length lc] 22))) := Lib.hid (Only.alloc _ _ _)
  have HB0 := Lib.hid hb0
  have hs0 : (w.alloc (.cells #[.slice lo l.length lc] 22)).heap.size = w.heap.size + 1 := by simp
  have HS0 := Lib.hid hs0
  have b0 := cell_of_blk hb0 0
  simp only [List.getElem?_toArray, List.getElem?_cons_zero, List.getElem?_cons_succ] at b0
  have hlong : ¬ (256 : Int) < (l.length : Int) := by omega
  clear hl hun hok hb0 hs0
  go_enter Try.func31, Try.ntmps31
  go_wp2_with fail
  generalize w.alloc (.cells #[.slice lo l.length lc] 22) = w1 at *
  refine (HCH.out _ HO0.out).mono ?_
  rintro e w2 ⟨rfl, ho2⟩
  have HO2 := Lib.hid ho2
  have b1 := cell_of_blk (blk_later HB0.out ho2) 0
  simp only [List.getElem?_toArray, List.getElem?_cons_zero, List.getElem?_cons_succ] at b1
  clear ho2 b0 HCH
  go_wp2_with (first
    | (at_make; refine wp_makeN _ rfl _ _ rfl w1.heap.size .i64 .i64 _ _ l.length rfl rfl rfl rfl (by omega) HO2.out.size ?_; intro w3 hrow3 ho3
       have HI0 : Hid (Ints w1.heap.size (some ⟨w2.heap.size, 0, none⟩) l.length (rngZ 0 l.length) w3 ∧ Only (fun _ => False) w1 w3) := Lib.hid ⟨by simpa [rngZ, rngI] using hrow3, HO2.out.same ho3⟩
       clear hrow3 ho3 b1)
    | fail)
  generalize w2.heap.size = g at *
  go_loopw [23] (fun i wr => ∃ j : Nat, i = .int .i64 j ∧ j ≤ l.length ∧ Hid (Ints w1.heap.size (some ⟨g, 0, none⟩) l.length (rngZ j l.length) wr ∧ Only (fun _ => False) w1 wr)) (fun i _ => l.length - (intOf i).toNat)
  case atStart => exact ⟨0, rfl, by omega, HI0⟩
  case round =>
    obtain ⟨j, rfl, hj, hI⟩ := hrel
    clear HI0
    by_cases hlt : j < l.length
    · have hj0 : (0 : Int) ≤ (j : Int) := by omega
      have hj1 : (j : Int) < (l.length : Int) := by omega
      obtain ⟨g', hg, hB, hc⟩ := hI.out.1.at liesN j 0 (rngZ_step hlt).1
      cases hg
      have hc0 := hc 0 (by omega)
      simp only [encN, List.getElem?_cons_zero, Nat.mul_one, Nat.add_zero] at hc0
      obtain ⟨k0, f0⟩ := hc0
      have hst := hI.out.1.stored liesN j 0 0 (j : Int) (.int .i64 j) (rngZ_step hlt).1 (by omega) rfl
      rw [(rngZ_step hlt).2, show j * 1 + 0 = j by omega] at hst
      have HST : Hid (Ints w1.heap.size (some ⟨g, 0, none⟩) l.length (rngZ (j + 1) l.length) (wr.setCell ⟨g, j, none⟩ (.int .i64 j)) ∧ Only (fun _ => False) w1 (wr.setCell ⟨g, j, none⟩ (.int .i64 j))) := Lib.hid ⟨hst.1, Only.cut hI.out.2 hst.2 (fun k e => by rw [e]; exact hB)⟩
      clear hst hc
      go_wp2_with fail
      go_roundw
      case rel => exact ⟨j + 1, by go_num, by omega, HST⟩
      case measure => simp [intOf]; omega
    · obtain rfl : j = l.length := by omega
      have HP0 : Hid (Pl w1 g l.length l.length (plA l.length) wr) := Lib.hid ⟨by have := hI.out.1; simpa [rngZ, plA] using this, hI.out.2, plA_low _⟩
      have HSF : Hid (Calls Try.prog 44 #[.slice (some ⟨g, 0, none⟩) l.length l.length, .func (.func 45) #[] #[.pointer (some ⟨w.heap.size, 0, none⟩)]] wr fun e w' => e = .returned (.tuple #[]) ∧ Pl w1 g l.length l.length (srt l) w' ∧ (srt l).size = l.length) := by
        have h := stable_few (cfL l) #[.pointer (some ⟨w.heap.size, 0, none⟩)] l.length w1 (cmps_l l lo lc w.heap.size w1 (HL.out.later HO0.out) HB0.out) g l.length (plA l.length) wr HP0.out (by rw [plA_size]; exact hlen)
        rw [plA_size] at h
        exact Lib.hid h
      clear hI HP0
      go_wp2_with fail
      refine HSF.out.mono ?_
      rintro e w4 ⟨rfl, h4⟩
      have H4 := Lib.hid h4
      clear h4 HSF
      go_wp2_with fail
      go_loopw [7] (fun i wr => ∃ j : Nat, i = .int .i64 j ∧ 1 ≤ j ∧ j ≤ l.length + 1 ∧ Hid (Pl w1 g l.length l.length (srt l) wr)) (fun i _ => l.length + 1 - (intOf i).toNat)
      case atStart => exact ⟨1, rfl, by omega, by omega, Lib.hid H4.out.1⟩
      case round =>
        obtain ⟨j, rfl, hj1, hj2, hJ⟩ := hrel
        by_cases hlt2 : j < l.length
        · have q0 := hJ.out.cell (i := j - 1) (by have := H4.out.2; omega)
          have q1 := hJ.out.cell (i := j) (by have := H4.out.2; omega)
          have z0 := hJ.out.low (j - 1) (by have := H4.out.2; omega)
          have z1 := hJ.out.low j (by have := H4.out.2; omega)
          have hU := HUN.out j hj1 hlt2
          obtain ⟨p, hp⟩ : ∃ p : Nat, (srt l)[j - 1]! = (p : Int) := ⟨(srt l)[j - 1]!.toNat, by omega⟩
          obtain ⟨q, hq⟩ : ∃ q : Nat, (srt l)[j]! = (q : Int) := ⟨(srt l)[j]!.toNat, by omega⟩
          rw [hp] at q0 z0 hU
          rw [hq] at q1 z1 hU
          obtain ⟨x, hx⟩ : ∃ x, l[p]? = some x := ⟨_, List.getElem?_eq_getElem (by omega)⟩
          obtain ⟨y, hy⟩ : ∃ y, l[q]? = some y := ⟨_, List.getElem?_eq_getElem (by omega)⟩
          rw [Int.toNat_natCast, Int.toNat_natCast, List.getD_eq_getElem?_getD, List.getD_eq_getElem?_getD, hx, hy] at hU
          simp only [Option.getD_some] at hU
          have HUU := Lib.hid hU
          have hlW := (HL.out.later HO0.out).later hJ.out.own
          obtain ⟨b, off, xo, xc, rfl, hbl, t0, t1, t2, t3, hxs, hxl⟩ := hlW.at hx
          obtain ⟨b', off', yo, yc, he, hbl', s0, s1, s2, s3, hys, hyl⟩ := hlW.at hy
          cases he
          have HX := Lib.hid (And.intro hxs hxl)
          have HY := Lib.hid (And.intro hys hyl)
          obtain ⟨r, hr⟩ : ∃ r : Nat, j = r + 1 := ⟨j - 1, by omega⟩
          have hwr : IntKind.i64.wrap ((j : Int) - 1) = (r : Int) := by rw [show (j : Int) - 1 = (r : Int) by omega]; exact IntWalk.i64_in _ (by omega)
          rw [show j - 1 = r by omega] at q0
          have hK0 : ∀ w', Only (fun _ => False) wr w' → w'.cell? ⟨w.heap.size, 0, none⟩ = some (.slice (some ⟨b, off, none⟩) l.length lc) ∧ w'.cell? ⟨g, r, none⟩ = some (.int .i64 (p : Int)) ∧ w'.cell? ⟨g, j, none⟩ = some (.int .i64 (q : Int)) ∧ w'.cell? ⟨b, off + p * 4, none⟩ = some (.int .i64 x.k) ∧ w'.cell? ⟨b, off + p * 4 + 1, none⟩ = some (.int .i64 x.n) ∧ w'.cell? ⟨b, off + p * 4 + 2, none⟩ = some (.string x.s) ∧ w'.cell? ⟨b, off + p * 4 + 3, none⟩ = some (.slice xo x.l.length xc) ∧ w'.cell? ⟨b, off + q * 4, none⟩ = some (.int .i64 y.k) ∧ w'.cell? ⟨b, off + q * 4 + 1, none⟩ = some (.int .i64 y.n) ∧ w'.cell? ⟨b, off + q * 4 + 2, none⟩ = some (.string y.s) ∧ w'.cell? ⟨b, off + q * 4 + 3, none⟩ = some (.slice yo y.l.length yc) := fun w' ho2 => by
            have hc := cell_of_blk (blk_later HB0.out (hJ.out.own.same ho2)) 0
            simp only [List.getElem?_toArray, List.getElem?_cons_zero, List.getElem?_cons_succ] at hc
            exact ⟨hc, ((ho2.cell (p := ⟨g, r, none⟩) (lt_of_cell q0.1) (fun e => e)).trans q0.1), ((ho2.cell (p := ⟨g, j, none⟩) (lt_of_cell q1.1) (fun e => e)).trans q1.1), (ho2.cell (p := ⟨b, off + p * 4, none⟩) hbl (fun e => e)).trans t0, (ho2.cell (p := ⟨b, off + p * 4 + 1, none⟩) hbl (fun e => e)).trans t1, (ho2.cell (p := ⟨b, off + p * 4 + 2, none⟩) hbl (fun e => e)).trans t2, (ho2.cell (p := ⟨b, off + p * 4 + 3, none⟩) hbl (fun e => e)).trans t3, (ho2.cell (p := ⟨b, off + q * 4, none⟩) hbl (fun e => e)).trans s0, (ho2.cell (p := ⟨b, off + q * 4 + 1, none⟩) hbl (fun e => e)).trans s1, (ho2.cell (p := ⟨b, off + q * 4 + 2, none⟩) hbl (fun e => e)).trans s2, (ho2.cell (p := ⟨b, off + q * 4 + 3, none⟩) hbl (fun e => e)).trans s3⟩
          have HK := Lib.hid hK0
          have HA : Hid (Only (fun _ => False) wr wr.drew) := Lib.hid (Only.drew _ _)
          have i0 : (0 : Int) ≤ (r : Int) := by omega
          have i1 : (r : Int) < (l.length : Int) := by omega
          have i2 : (0 : Int) ≤ (j : Int) := by omega
          have i3 : (j : Int) < (l.length : Int) := by omega
          have i4 := z0.2
          have i5 := z1.2
          have i6 : (0 : Int) ≤ (p : Int) := by omega
          have i7 : (0 : Int) ≤ (q : Int) := by omega
          clear hlW hx hy hxs hxl hys hyl t0 t1 t2 t3 s0 s1 s2 s3 hK0 q0 q1 hU hr hp hq
          go_wp2_with fail
          go_region_held3 (fun w' => w'.cell? ⟨w.heap.size, 0, none⟩ = some (.slice (some ⟨b, off, none⟩) l.length lc) ∧ w'.cell? ⟨g, r, none⟩ = some (.int .i64 (p : Int)) ∧ w'.cell? ⟨g, j, none⟩ = some (.int .i64 (q : Int)) ∧ w'.cell? ⟨b, off + p * 4, none⟩ = some (.int .i64 x.k) ∧ w'.cell? ⟨b, off + p * 4 + 1, none⟩ = some (.int .i64 x.n) ∧ w'.cell? ⟨b, off + p * 4 + 2, none⟩ = some (.string x.s) ∧ w'.cell? ⟨b, off + p * 4 + 3, none⟩ = some (.slice xo x.l.length xc) ∧ w'.cell? ⟨b, off + q * 4, none⟩ = some (.int .i64 y.k) ∧ w'.cell? ⟨b, off + q * 4 + 1, none⟩ = some (.int .i64 y.n) ∧ w'.cell? ⟨b, off + q * 4 + 2, none⟩ = some (.string y.s) ∧ w'.cell? ⟨b, off + q * 4 + 3, none⟩ = some (.slice yo y.l.length yc)) (first | exact HK.out _ HA.out | go_keep) (first
            | (go_at_call 28; refine (meet_any x y _ xo yo xc yc (HX.out.2.later HA.out) HX.out.1 (HY.out.2.later HA.out) HY.out.1).mono ?_; rintro e wx ⟨rfl, ho⟩; have HA := Lib.hid (HA.out.same ho); clear ho))
          rw [HUU.out]
          have HJ2 := Lib.hid (hJ.out.later HA.out)
          go_wp2_with fail
          go_roundw
          case rel => exact ⟨j + 1, by go_num, by omega, by omega, HJ2⟩
          case measure => simp [intOf]; omega
        · have hng : ¬ (j : Int) < (l.length : Int) := by omega
          go_wp2_with fail
          go_ret2
          exact ⟨g, l.length, w1.heap.size, HO0.out.size, rfl, hJ.out.row, H4.out.2, hJ.out.low, HO0.out.same hJ.out.own⟩
end Go.Proofs.Ytgedhmnkhoajbaa.orders
