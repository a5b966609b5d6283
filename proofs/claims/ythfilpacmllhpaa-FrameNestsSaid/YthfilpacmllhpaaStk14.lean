/- Environments and choices: the law FrameNests. -/
import Derived.Test.YthfilpacmllhpaaStk13
namespace Go.Proofs.Ythfilpacmllhpaa.stk
set_option maxRecDepth 100000
open Go.RowKit Go.Proofs.Ythfilpacmllhpaa.own
/-- Numbers that came in. -/
def ArgI (ao : Option Addr) (l : List Int) (W : World) : Prop := ∀ i z, l[i]? = some z → ∃ b off, ao = some ⟨b, off, none⟩ ∧ b < W.heap.size ∧ W.cell? ⟨b, off + i, none⟩ = some (.int .i64 z) ∧ Fits z
def nF (z : Int) : Nat := ((z.tmod 20 + 20).tmod 20).toNat
theorem nF_val (z : Int) : (z.tmod 20 + 20).tmod 20 = (nF z : Int) ∧ nF z < 20 ∧ -20 < z.tmod 20 ∧ z.tmod 20 < 20 := by
  have h1 : -20 < z.tmod 20 := by
    by_cases hz : 0 ≤ z
    · have := Int.tmod_nonneg 20 hz; omega
    · have h := Int.tmod_lt_of_pos (-z) (show (0 : Int) < 20 by decide)
      rw [Int.neg_tmod] at h
      omega
  have h2 : z.tmod 20 < 20 := Int.tmod_lt_of_pos z (by decide)
  have h3 : 0 ≤ (z.tmod 20 + 20).tmod 20 := Int.tmod_nonneg _ (by omega)
  have h4 : (z.tmod 20 + 20).tmod 20 < 20 := Int.tmod_lt_of_pos _ (by decide)
  refine ⟨?_, ?_, h1, h2⟩
  · unfold nF; omega
  · unfold nF; omega
def slotsOf (j n : Nat) : List Int := (List.range n).map (fun k : Nat => 100 * (j : Int) + ((k : Int) + 1))
theorem slotsOf_len (j n : Nat) : (slotsOf j n).length = n := by simp [slotsOf]
theorem slotsOf_get {j n k : Nat} (hk : k < n) : (slotsOf j n).getD k 0 = 100 * (j : Int) + ((k : Int) + 1) := by simp [slotsOf, List.getD, hk]
def frs (l : List Int) : Nat → List Fr
  | 0 => []
  | i + 1 => ⟨endF (frs l i), slotsOf i (nF (l.getD i 0)), i, l.getD i 0⟩ :: frs l i
theorem frs_end (l : List Int) : ∀ i, endF (frs l i) ≤ 24 * i
  | 0 => Nat.le_refl _
  | i + 1 => by
    have h1 := frs_end l i
    have h2 := (nF_val (l.getD i 0)).2.1
    show endF (frs l i) + 4 + (slotsOf i (nF (l.getD i 0))).length ≤ 24 * (i + 1)
    rw [slotsOf_len]
    omega
/-- The slots of the environment under way: k are set. -/
def part (j n k : Nat) : List Int := (slotsOf j n).take k ++ List.replicate (n - k) 0
theorem part_len {j n k : Nat} (hk : k ≤ n) : (part j n k).length = n := by simp [part, slotsOf_len]; omega
theorem part_zero (j n : Nat) : part j n 0 = List.replicate n 0 := by simp [part]
theorem part_all (j n : Nat) : part j n n = slotsOf j n := by simp [part, List.take_of_length_le (Nat.le_of_eq (slotsOf_len j n))]
theorem part_set {j n k : Nat} (hk : k < n) : (part j n k).set k (100 * (j : Int) + ((k : Int) + 1)) = part j n (k + 1) := by
  have hl : ((slotsOf j n).take k).length = k := by rw [List.length_take, slotsOf_len]; omega
  have hr : List.replicate (n - k) (0 : Int) = 0 :: List.replicate (n - (k + 1)) 0 := by
    rw [show n - k = (n - (k + 1)) + 1 by omega]; rfl
  unfold part
  rw [hr, List.set_append_right _ _ (by omega), hl, Nat.sub_self, List.set_cons_zero, List.take_succ_eq_append_getElem (by rw [slotsOf_len]; exact hk), List.append_assoc]
  congr 1
  have : (slotsOf j n)[k]'(by rw [slotsOf_len]; exact hk) = 100 * (j : Int) + ((k : Int) + 1) := by simp [slotsOf]
  rw [this]
  rfl
theorem put_head {s : St} (h : s.Ok) {f : Fr} {fs : List Fr} (hn : s.cur = f :: fs) (i : Nat) (v : Int) : (s.put f.base i v).cur = { f with ys := f.ys.set i v } :: fs := by
  have hC := h.cur
  rw [hn] at hC
  show s.cur.map (setF f.base i v) = _
  rw [hn, List.map_cons]
  congr 1
  · unfold setF; rw [if_pos rfl]
  · have : ∀ g ∈ fs, setF f.base i v g = g := fun g hg => by
      have h1 := hC.2.2.mem_end hg
      have h2 := hC.2.1
      unfold setF
      rw [if_neg (by omega)]
    rw [List.map_congr_left this, List.map_id']
/-- The stack under way: i environments. -/
structure Nst (N b : Nat) (l : List Int) (i : Nat) (w W : World) : Prop where
  s : ∃ s, Has N (fun _ => False) b s 65536 10 W ∧ s.cs = [] ∧ s.cur = frs l i
  o : Only (fun _ => False) w W
/-- The same, k slots of the next one set. -/
structure Nsk (N b : Nat) (l : List Int) (i k : Nat) (w W : World) : Prop where
  s : ∃ s, Has N (fun _ => False) b s 65536 10 W ∧ s.cs = [] ∧ s.cur = ⟨endF (frs l i), part i (nF (l.getD i 0)) k, i, l.getD i 0⟩ :: frs l i
  o : Only (fun _ => False) w W
section
variable {N b : Nat} {l : List Int} {i k : Nat} {w W W' : World}
theorem Nst.later (h : Nst N b l i w W) (ho : Only (fun _ => False) W W') : Nst N b l i w W' := by
  obtain ⟨s, h1, h2⟩ := h.s
  exact ⟨⟨s, h1.later ho, h2⟩, h.o.same ho⟩
theorem n_alloc (h : Nst N b l i w W) (hN : w.heap.size ≤ N) (hi : i < 100) (z : Int) (hz : l.getD i 0 = z) (hf : Fits z) : Calls Try.prog 26 #[.pointer (some ⟨b, 0, none⟩), .int .i64 (nF z), .agg #[.int .i64 i, .int .i64 z]] W fun e w' => e = .returned (.int .i64 0) ∧ Nsk N b l i 0 w w' := by
  obtain ⟨s, h1, h2, h3⟩ := h.s
  have hn := (nF_val z).2.1
  have htop : s.top = endF (frs l i) := by unfold St.top; rw [h2, h3]; simp [topOf]
  have hend := frs_end l i
  refine (has_Alloc h1 (nF z) i z ⟨by omega, by omega⟩ hf (by omega) (by rw [htop]; omega)).mono ?_
  rintro e w' ⟨rfl, h4, h5⟩
  refine ⟨rfl, ⟨_, h4, h2, ?_⟩, Only.zed h.o h5 hN⟩
  show (⟨s.top, List.replicate (nF z) 0, (i : Int), z⟩ : Fr) :: s.cur = _
  rw [htop, h3, hz, part_zero]
theorem n_slots (h : Nsk N b l i k w W) (hk : k ≤ nF (l.getD i 0)) : Calls Try.prog 29 #[.pointer (some ⟨b, 0, none⟩)] W fun e w' => e = .returned (.int .i64 (nF (l.getD i 0))) ∧ w' = W := by
  obtain ⟨s, h1, h2, h3⟩ := h.s
  have := has_Slots h1
  rw [h3] at this
  rwa [show slotsF (⟨endF (frs l i), part i (nF (l.getD i 0)) k, (i : Int), l.getD i 0⟩ :: frs l i) = nF (l.getD i 0) from part_len hk] at this
theorem n_set (h : Nsk N b l i k w W) (hN : w.heap.size ≤ N) (hk : k < nF (l.getD i 0)) : Calls Try.prog 27 #[.pointer (some ⟨b, 0, none⟩), .int .i64 ((k : Int) + 1), .int .u64 (100 * (i : Int) + ((k : Int) + 1))] W fun e w' => e = .returned (.int .i64 0) ∧ Nsk N b l i (k + 1) w w' := by
  obtain ⟨s, h1, h2, h3⟩ := h.s
  refine (has_Set h1 h3 k (by rw [show (⟨endF (frs l i), part i (nF (l.getD i 0)) k, (i : Int), l.getD i 0⟩ : Fr).ys.length = nF (l.getD i 0) from part_len (Nat.le_of_lt hk)]; exact hk) _).mono ?_
  rintro e w' ⟨rfl, h4, h5⟩
  refine ⟨rfl, ⟨_, h4, ?_, ?_⟩, Only.zed h.o h5 hN⟩
  · show s.cs.map _ = []
    rw [h2]; rfl
  · rw [put_head h1.ok h3]
    show (⟨endF (frs l i), (part i (nF (l.getD i 0)) k).set k _, (i : Int), l.getD i 0⟩ : Fr) :: frs l i = _
    rw [part_set hk]
theorem Nsk.all (h : Nsk N b l i (nF (l.getD i 0)) w W) : Nst N b l (i + 1) w W := by
  obtain ⟨s, h1, h2, h3⟩ := h.s
  exact ⟨⟨s, h1, h2, by rw [h3, part_all]; rfl⟩, h.o⟩
theorem n_get (h : Nst N b l (i + 1) w W) (hk : k < nF (l.getD i 0)) : Calls Try.prog 21 #[.pointer (some ⟨b, 0, none⟩), .int .i64 ((k : Int) + 1)] W fun e w' => e = .returned (.tuple #[.int .u64 (100 * (i : Int) + ((k : Int) + 1)), .int .i64 0]) ∧ Nst N b l (i + 1) w w' := by
  obtain ⟨s, h1, h2, h3⟩ := h.s
  have hc := has_Get h1 (f := ⟨endF (frs l i), slotsOf i (nF (l.getD i 0)), i, l.getD i 0⟩) (fs := frs l i) h3 k (by rw [show (⟨endF (frs l i), slotsOf i (nF (l.getD i 0)), (i : Int), l.getD i 0⟩ : Fr).ys.length = nF (l.getD i 0) from slotsOf_len _ _]; exact hk)
  rw [show (⟨endF (frs l i), slotsOf i (nF (l.getD i 0)), (i : Int), l.getD i 0⟩ : Fr).ys.getD k 0 = 100 * (i : Int) + ((k : Int) + 1) from slotsOf_get hk] at hc
  refine hc.mono ?_
  rintro e w' ⟨rfl, _, ho⟩
  exact ⟨rfl, h.later ho⟩
theorem n_leave (h : Nst N b l (i + 1) w W) (hN : w.heap.size ≤ N) : Calls Try.prog 20 #[.pointer (some ⟨b, 0, none⟩)] W fun e w' => e = .returned (.tuple #[.agg #[.int .i64 i, .int .i64 (l.getD i 0)], .int .i64 0]) ∧ Nst N b l i w w' := by
  obtain ⟨s, h1, h2, h3⟩ := h.s
  refine (has_Dealloc h1 (f := ⟨endF (frs l i), slotsOf i (nF (l.getD i 0)), i, l.getD i 0⟩) (fs := frs l i) h3).mono ?_
  rintro e w' ⟨rfl, h4, h5⟩
  exact ⟨rfl, ⟨_, h4, h2, rfl⟩, Only.zed h.o h5 hN⟩
theorem n_env (h : Nst N b l 0 w W) : Calls Try.prog 15 #[.pointer (some ⟨b, 0, none⟩)] W fun e w' => e = .returned (.int .i64 (-1)) ∧ w' = W := by
  obtain ⟨s, h1, h2, h3⟩ := h.s
  have := has_Env h1
  rwa [h3] at this
end
set_option maxHeartbeats 8000000 in
theorem nests_some (ao : Option Addr) (cap : Nat) (l : List Int) (w : World) (hA : ArgI ao l w) (hl : l.length ≤ 100) : Calls Try.prog 6 #[.slice ao l.length cap] w fun e w' => e = .returned (.bool true) ∧ Below w.heap.size w w' := by
  have HNW := Lib.hid (has_New 65536 10 w (by decide) (by decide) (by decide) (by decide))
  have HA := Lib.hid hA
  clear hA
  have hgt : decide ((100 : Int) < (l.length : Int)) = false := decide_eq_false (by omega)
  go_enter Try.func6, Try.ntmps6
  go_wp2_with fail
  refine HNW.out.mono ?_
  rintro e w1 ⟨b, rfl, h1, o1⟩
  have HN1 : Hid (Nst w.heap.size b l 0 w w1) := Lib.hid ⟨⟨_, h1, rfl, rfl⟩, o1⟩
  clear h1 o1 HNW
  go_wp2_with fail
  refine (lives_any _).mono ?_
  rintro e w2 ⟨rfl, ho⟩
  have HN2 := Lib.hid (HN1.out.later ho)
  clear ho HN1
  go_wp2_with fail
  go_loopw [5] (fun i wr => ∃ k : Nat, i = .int .i64 k ∧ k ≤ l.length ∧ Hid (Nst w.heap.size b l k w wr)) (fun i _ => l.length - (intOf i).toNat)
  case atStart => exact ⟨0, rfl, Nat.zero_le _, HN2⟩
  case round =>
    obtain ⟨i, rfl, hi, hR⟩ := hrel
    by_cases hlt : i < l.length
    · obtain ⟨z, hz⟩ : ∃ z, l[i]? = some z := ⟨l[i], List.getElem?_eq_getElem hlt⟩
      obtain ⟨ab, off, hao, hab, hc, hf⟩ := HA.out i z hz
      have HC : Hid (∀ W', Only (fun _ => False) w W' → W'.cell? ⟨ab, off + i, none⟩ = some (.int .i64 z)) := Lib.hid (fun W' o => (o.cell (p := ⟨ab, off + i, none⟩) hab (fun e => e)).trans hc)
      have HGZ : Hid (l.getD i 0 = z) := Lib.hid (by simp [List.getD, hz])
      have HF := Lib.hid hf
      have hv := nF_val z
      have hval : (wrap64 (z.tmod 20 + 20)).tmod 20 = (nF z : Int) := by rw [IntWalk.wrap64_in _ ⟨by omega, by omega⟩]; exact hv.1
      have hn20 : nF z < 20 := hv.2.1
      have HAL := Lib.hid (n_alloc hR.out (Nat.le_refl _) (by omega) z HGZ.out hf)
      have HNZ : Hid (nF (l.getD i 0) = nF z) := Lib.hid (by rw [HGZ.out])
      have cz := HC.out wr hR.out.o
      subst hao
      clear hz hab hc hf hv
      generalize nF z = n at *
      go_wp2_with fail
      refine HAL.out.mono ?_
      rintro e w3 ⟨rfl, hk3⟩
      have HK3 := Lib.hid hk3
      have HS3 := n_slots hk3 (Nat.zero_le _)
      rw [HNZ.out] at HS3
      have HSL := Lib.hid HS3
      clear hk3 HS3 hval cz HAL
      go_wp2_with fail
      refine HSL.out.mono ?_
      rintro e u ⟨rfl, hu⟩
      obtain rfl : w3 = u := hu.symm
      clear HSL
      go_wp2_with fail
      obtain ⟨wo, rfl⟩ : ∃ wo : World, wo = wr := ⟨_, rfl⟩
      go_loopw [7] (fun j wq => ∃ k : Nat, j = .int .i64 ((k : Int) + 1) ∧ k ≤ n ∧ Hid (Nsk w.heap.size b l i k w wq)) (fun j _ => (n + 1) - (intOf j).toNat)
      case atStart => exact ⟨0, rfl, Nat.zero_le _, HK3⟩
      case round =>
        obtain ⟨k, rfl, hk, hQ⟩ := hrel
        by_cases hkn : k < n
        · have HST := Lib.hid (n_set hQ.out (Nat.le_refl _) (by rw [HNZ.out]; exact hkn))
          go_wp2_with fail
          refine HST.out.mono ?_
          rintro e w4 ⟨rfl, hk4⟩
          have HK4 := Lib.hid hk4
          clear hk4 HST
          go_wp2_with fail
          go_roundw
          case rel => exact ⟨k + 1, by go_num, by omega, HK4⟩
          case measure => simp [intOf]; omega
        · obtain rfl : k = n := by omega
          have hall := hQ.out
          rw [← HNZ.out] at hall
          have HNX := Lib.hid hall.all
          clear hall
          go_wp2_with fail
          go_roundw
          case rel => exact ⟨i + 1, by go_num, by omega, HNX⟩
          case measure => simp [intOf]; omega
    · obtain rfl : i = l.length := by omega
      have HE := hR
      clear hR hlt
      go_wp2_with fail
      obtain ⟨wo, rfl⟩ : ∃ wo : World, wo = wr := ⟨_, rfl⟩
      go_loopw [8] (fun i wq => ∃ j : Nat, i = .int .i64 ((j : Int) - 1) ∧ j ≤ l.length ∧ Hid (Nst w.heap.size b l j w wq)) (fun i _ => (intOf i + 1).toNat)
      case atStart => exact ⟨l.length, rfl, Nat.le_refl _, HE⟩
      case round =>
        obtain ⟨j, rfl, hj, hQ⟩ := hrel
        by_cases hj0 : 0 < j
        · obtain ⟨i, rfl⟩ : ∃ i, j = i + 1 := ⟨j - 1, by omega⟩
          have e1 : (((i + 1 : Nat) : Int) - 1) = (i : Int) := by omega
          rw [e1]
          obtain ⟨z, hz⟩ : ∃ z, l[i]? = some z := ⟨l[i], List.getElem?_eq_getElem (by omega)⟩
          obtain ⟨ab, off, hao, hab, hc, hf⟩ := HA.out i z hz
          have HC : Hid (∀ W', Only (fun _ => False) w W' → W'.cell? ⟨ab, off + i, none⟩ = some (.int .i64 z)) := Lib.hid (fun W' o => (o.cell (p := ⟨ab, off + i, none⟩) hab (fun e => e)).trans hc)
          have HGZ : Hid (l.getD i 0 = z) := Lib.hid (by simp [List.getD, hz])
          have hv := nF_val z
          have hval : (wrap64 (z.tmod 20 + 20)).tmod 20 = (nF z : Int) := by rw [IntWalk.wrap64_in _ ⟨by omega, by omega⟩]; exact hv.1
          have hn20 : nF z < 20 := hv.2.1
          have HNZ : Hid (nF (l.getD i 0) = nF z) := Lib.hid (by rw [HGZ.out])
          have cz := HC.out wr hQ.out.o
          have hil : (i : Int) < (l.length : Int) := by omega
          have hi100 : (i : Int) ≤ 100 := by omega
          subst hao
          clear hz hab hc hf hv e1 hj0
          generalize nF z = n at *
          go_wp2_with fail
          clear hval cz
          obtain ⟨wo2, rfl⟩ : ∃ wo2 : World, wo2 = wr := ⟨_, rfl⟩
          go_loopw [10] (fun k wq => ∃ m : Nat, k = .int .i64 ((m : Int) + 1) ∧ m ≤ n ∧ Hid (Nst w.heap.size b l (i + 1) w wq)) (fun k _ => (n + 1) - (intOf k).toNat)
          case atStart => exact ⟨0, rfl, Nat.zero_le _, hQ⟩
          case round =>
            obtain ⟨m, rfl, hm, hT⟩ := hrel
            by_cases hmn : m < n
            · have HG := Lib.hid (n_get (k := m) hT.out (by rw [HNZ.out]; exact hmn))
              go_wp2_with fail
              refine HG.out.mono ?_
              rintro e w4 ⟨rfl, hk4⟩
              have HK4 := Lib.hid hk4
              clear hk4 HG
              go_wp2_with fail
              go_roundw
              case rel => exact ⟨m + 1, by go_num, by omega, HK4⟩
              case measure => simp [intOf]; omega
            · obtain rfl : m = n := by omega
              have HLV := n_leave hT.out (Nat.le_refl _)
              rw [HGZ.out] at HLV
              have HL := Lib.hid HLV
              clear HLV
              go_wp2_with fail
              refine HL.out.mono ?_
              rintro e w4 ⟨rfl, hk4⟩
              obtain ⟨W5, hW5⟩ : ∃ E, E = w4.alloc (.cells #[.int .i64 i, .int .i64 z] 32) := ⟨_, rfl⟩
              have HD : Hid (Duo w4.heap.size (.int .i64 i) (.int .i64 z) W5) := Lib.hid ⟨by rw [hW5]; exact heap_alloc_new _ _⟩
              have HK5 : Hid (Nst w.heap.size b l i w W5) := Lib.hid (hk4.later (by rw [hW5]; exact Only.alloc _ _ _))
              clear hk4 HL
              go_upto_region 25 with fail
              rw [← hW5]
              clear hW5
              generalize w4.heap.size = dk at *
              obtain ⟨d0, d1⟩ := HD.out.cells
              have cz := HC.out W5 HK5.out.o
              go_quiet (fail)
              have HK6 : Hid (Nst w.heap.size b l i w (W5.drewN nq)) := Lib.hid (HK5.out.later (Only.drewN _ _ _))
              generalize W5.drewN nq = W6 at *
              go_wp2_with fail
              go_roundw
              case rel => exact ⟨i, by go_num, by omega, HK6⟩
              case measure => simp [intOf]
        · obtain rfl : j = 0 := by omega
          have HEV := Lib.hid (n_env hQ.out)
          go_wp2_with fail
          refine HEV.out.mono ?_
          rintro e u ⟨rfl, hu⟩
          obtain rfl : wr = u := hu.symm
          go_wp2_with fail
          go_ret
          exact ⟨rfl, hQ.out.o.to_below⟩
theorem nests_long (ao : Option Addr) (n cap : Nat) (w : World) (h : 100 < n) (hm : n ≤ maxLen) : Calls Try.prog 6 #[.slice ao n cap] w fun e w' => e = .returned (.bool true) ∧ Below w.heap.size w w' := by
  unfold maxLen at hm
  have HNW := Lib.hid (has_New 65536 10 w (by decide) (by decide) (by decide) (by decide))
  have hgt : decide ((100 : Int) < (n : Int)) = true := decide_eq_true (by omega)
  go_enter Try.func6, Try.ntmps6
  go_wp2_with fail
  refine HNW.out.mono ?_
  rintro e w1 ⟨b, rfl, h1, o1⟩
  have HO := Lib.hid o1
  clear h1 o1 HNW
  go_wp2_with fail
  refine (lives_any _).mono ?_
  rintro e w2 ⟨rfl, ho⟩
  have HO2 := Lib.hid (HO.out.same ho)
  clear ho HO
  go_wp2_with fail
  refine (lives_any _).mono ?_
  rintro e w3 ⟨rfl, ho⟩
  have HO3 := Lib.hid (HO2.out.same ho)
  clear ho HO2
  go_wp2_with fail
  go_ret
  exact ⟨rfl, HO3.out.to_below⟩
theorem law_nests (ao : Option Addr) (cap : Nat) (l : List Int) (w : World) (hA : ArgI ao l w) (hm : l.length ≤ maxLen) : Calls Try.prog 6 #[.slice ao l.length cap] w fun e w' => e = .returned (.bool true) ∧ Below w.heap.size w w' := by
  by_cases h : l.length ≤ 100
  · exact nests_some ao cap l w hA h
  · exact nests_long ao l.length cap w (by omega) hm
end Go.Proofs.Ythfilpacmllhpaa.stk
