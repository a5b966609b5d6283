
/- Selection by keys: the law of a full table. -/
import Derived.Test.YthgjedcelcanbaaIdx41
namespace Go.Proofs.Ythgjedcelcanbaa.idx
set_option maxRecDepth 100000
open Go.RowKit Go.Proofs.Ythgjedcelcanbaa.own Go.Lib Go.Maps Go.WideMaps
/-- The entries' numbers are 0, 1, .. -/
def Up (s : St) (m : Nat) : Prop := s.L.map (·.id) = (List.range m).map (fun i : Nat => (i : Int))
theorem Up.len {s : St} {m : Nat} (h : Up s m) : s.L.length = m := by
  have := congrArg List.length h
  simpa using this
theorem Up.mem {s : St} {m : Nat} (h : Up s m) (i : Int) : (∃ e ∈ s.L, e.id = i) ↔ ∃ j : Nat, j < m ∧ (j : Int) = i := by
  have h1 : i ∈ s.L.map (·.id) ↔ i ∈ (List.range m).map (fun i : Nat => (i : Int)) := by rw [h]
  simpa [List.mem_map, List.mem_range] using h1
theorem idF_is (i : Int) (L : List En) : (idF i L).isSome = true ↔ ∃ e ∈ L, e.id = i := by
  unfold idF
  rw [List.find?_isSome]
  simp
theorem Up.not {s : St} {m : Nat} (h : Up s m) {j : Nat} (hj : m ≤ j) : (idF (j : Int) s.L).isSome = false := by
  cases hc : (idF (j : Int) s.L).isSome with
  | false => rfl
  | true =>
    obtain ⟨i, h1, h2⟩ := (h.mem _).1 ((idF_is _ _).1 hc)
    omega
theorem Up.add {s : St} {m : Nat} (h : Up s m) (hm : m < 4096) (k : Ky) : (addS s (m : Int) k false).1 = 0 ∧ Up (addS s (m : Int) k false).2 (m + 1) := by
  have hn := h.not (Nat.le_refl m)
  have hl := h.len
  have he : addS s (m : Int) k false = (0, ⟨insF false (newE m k false s.lo s.hi) s.L, s.lo, s.hi + 1⟩) := by unfold addS; rw [hn, if_neg (by simp), if_neg (by omega)]; rfl
  rw [he]
  refine ⟨rfl, ?_⟩
  unfold Up
  show (insF false (newE m k false s.lo s.hi) s.L).map (·.id) = _
  unfold insF
  simp only [Bool.false_eq_true, if_false, List.map_append]
  rw [h, List.range_succ, List.map_append]
  rfl
theorem Up.full {s : St} (h : Up s 4096) {j : Nat} (hj : 4096 ≤ j) (k : Ky) : addS s (j : Int) k false = (2, s) := by
  have hn := h.not hj
  have hl := h.len
  unfold addS
  rw [hn, if_neg (by simp), if_pos (by omega)]
theorem Up.drop {s : St} (h : Up s 4096) (k : Ky) : (dropS s 5).1 = 0 ∧ (addS (dropS s 5).2 9999 k true).1 = 0 := by
  have h5 : (idF 5 s.L).isSome = true := (idF_is _ _).2 ((h.mem 5).2 ⟨5, by omega, rfl⟩)
  have he : dropS s 5 = (0, ⟨outF 5 s.L, s.lo, s.hi⟩) := by unfold dropS; rw [if_pos h5]
  rw [he]
  refine ⟨rfl, ?_⟩
  have hl := h.len
  obtain ⟨e, hem, hei⟩ := (idF_is _ _).1 h5
  have hlt : (outF 5 s.L).length < 4096 := by
    rw [← hl]
    refine Nat.lt_of_le_of_ne (List.length_filter_le _ _) (fun hq => ?_)
    have := List.length_filter_eq_length_iff.1 hq e hem
    simp [hei] at this
  have hn : (idF 9999 (outF 5 s.L)).isSome = false := by
    cases hc : (idF 9999 (outF 5 s.L)).isSome with
    | false => rfl
    | true =>
      obtain ⟨x, hx, hxi⟩ := (idF_is _ _).1 hc
      obtain ⟨i, h1, h2⟩ := (h.mem 9999).1 ⟨x, (List.mem_filter.1 hx).1, hxi⟩
      omega
  unfold addS
  rw [hn, if_neg (by simp), if_neg (by show ¬ 4096 ≤ (outF 5 s.L).length; omega)]
theorem fit_of {i : Int} (h0 : -100000 ≤ i) (h1 : i ≤ 100000) : Fit i := by
  have k1 : IntKind.i64.min = -9223372036854775808 := rfl
  have k2 : IntKind.i64.max = 9223372036854775807 := rfl
  simp [Fit, Lit.wf, k1, k2]
  omega
set_option maxHeartbeats 16000000 in
theorem law_full_away (n : Int) (k1 : Ky) (w : World) (h : n < 0 ∨ (0 ≤ n ∧ n > 4200) ∨ (0 ≤ n ∧ ¬ n > 4200 ∧ n > 300 ∧ n < 4090)) :
    Calls Try.prog 5 #[.int .i64 n, kyV k1] w fun e w' => e = .returned (.bool true) ∧ Below w.heap.size w w' := by
  obtain ⟨E, hE⟩ : ∃ E, E = w.alloc (.cells #[.int .i64 k1.k, .string k1.s, .int .i64 k1.n] 32) := ⟨_, rfl⟩
  have HE : Hid (Only (fun _ => False) w E) := Lib.hid (by rw [hE]; exact Only.alloc _ _ _)
  have HLV := Lib.hid (lives_any E)
  rcases h with h1 | ⟨h0, h1⟩ | ⟨h0, h1, h2, h3⟩
  all_goals
    try have hn0 : ¬ n < 0 := by omega
    go_enter Try.func5, Try.ntmps5
    go_upto_region 1 with fail
    rw [← hE]
    clear hE
    go_wp2_with fail
    refine HLV.out.mono ?_
    rintro e w1 ⟨rfl, ho⟩
    have HO := Lib.hid (HE.out.same ho)
    clear ho
    go_wp2_with fail
    go_ret
    exact ⟨rfl, HO.out.to_below⟩
set_option maxHeartbeats 16000000 in
theorem law_full_here (m : Nat) (k1 : Ky) (w : World) (hk1 : k1.Ok) (h1 : ¬ (m : Int) > 4200) (h2 : ¬ (m : Int) > 300 ∨ ((m : Int) > 300 ∧ ¬ (m : Int) < 4090)) :
    Calls Try.prog 5 #[.int .i64 m, kyV k1] w fun e w' => e = .returned (.bool true) ∧ Below w.heap.size w w' := by
  have HLV := Lib.hid lives_any
  have HOK := Lib.hid hk1
  obtain ⟨E, hE⟩ : ∃ E, E = w.alloc (.cells #[.int .i64 k1.k, .string k1.s, .int .i64 k1.n] 32) := ⟨_, rfl⟩
  have hx : Three w.heap.size k1 E := by unfold Three; rw [hE]; exact heap_alloc_new _ _
  have HX := Lib.hid hx
  have HE : Hid (Only (fun _ => False) w E) := Lib.hid (by rw [hE]; exact Only.alloc _ _ _)
  have HES : Hid (E.heap.size = w.heap.size + 1) := Lib.hid (by rw [hE]; simp)
  have HNE : Hid (Calls Try.prog 6 #[] E fun e w' => e = .returned (.pointer (some ⟨E.heap.size + 2, 0, none⟩)) ∧ TabB E.heap.size (E.heap.size + 2) 0 [] (-1) 0 w' ∧ Only (fun _ => False) E w') := Lib.hid (new_tab E)
  have hn0 : ¬ (m : Int) < 0 := by omega
  have hmm : m ≤ 4200 := by omega
  have HFI : Hid (∀ j : Nat, j ≤ 4200 → Fit (j : Int)) := Lib.hid (fun j hj => fit_of (by omega) (by omega))
  clear hx hk1
  rcases h2 with h2 | ⟨h2, h3⟩
  all_goals
    go_enter Try.func5, Try.ntmps5
    go_upto_region 1 with fail
    rw [← hE]
    clear hE
    go_wp2_with fail
    refine HNE.out.mono ?_
    rintro e w1 ⟨rfl, ht, ho⟩
    have HS : Hid (SideT w (E.heap.size + 2) w.heap.size 0 k1 ⟨[], -1, 0⟩ w1) := Lib.hid ⟨by rw [← HES.out]; exact ht, HX.out.only ho (fun e => e), HE.out.same ho⟩
    clear ht ho HX HE HES HNE
    generalize E.heap.size + 2 = b at *
    go_wp2_with fail
    refine (HLV.out w1).mono ?_
    rintro e w3 ⟨rfl, ho⟩
    replace HS := Lib.hid (HS.out.later ho)
    clear ho HLV
    go_wp2_with fail
    go_loopw [6] (fun iv wr => ∃ (j : Nat) (s : St), iv = .int .i64 j ∧ j ≤ m ∧ Hid (SideT w b w.heap.size j k1 s wr ∧ Up s (min j 4096))) (fun iv _ => m - (RowKit.intOf iv).toNat)
    case atStart => exact ⟨0, _, rfl, by omega, Lib.hid ⟨HS.out, rfl⟩⟩
    case round =>
      obtain ⟨j, s, rfl, hj, hI⟩ := hrel
      clear HS
      by_cases hlt : j < m
      · have j1 : (j : Int) < (m : Int) := by omega
        obtain ⟨c0, c1, c2⟩ := hI.out.1.x.cells
        have HD := Lib.hid (hI.out.1.add (by omega) (j : Int) (HFI.out j (by omega)) k1 HOK.out false)
        by_cases h4 : j < 4096
        · have j2 : ¬ (j : Int) ≥ 4096 := by omega
          have hmin : min j 4096 = j := by omega
          have hmin2 : min (j + 1) 4096 = j + 1 := by omega
          have HU := Lib.hid hI.out.2
          rw [hmin] at HU
          have HA := Lib.hid (HU.out.add h4 k1)
          rw [HA.out.1] at HD
          have HU2 : Hid (Up (addS s (j : Int) k1 false).2 (min (j + 1) 4096)) := Lib.hid (by rw [hmin2]; exact HA.out.2)
          clear hI HA HU hmin hmin2
          go_wp2_with fail
          refine HD.out.mono ?_
          rintro e w4 ⟨rfl, hs⟩
          have HS := Lib.hid hs
          clear hs HD c0 c1 c2
          go_wp2_with fail
          go_roundw
          case rel => exact ⟨j + 1, _, by go_num, by omega, Lib.hid ⟨HS.out, HU2.out⟩⟩
          case measure => simp [RowKit.intOf]; omega
        · have j2 : (j : Int) ≥ 4096 := by omega
          have hmin : min j 4096 = 4096 := by omega
          have hmin2 : min (j + 1) 4096 = 4096 := by omega
          have HU := Lib.hid hI.out.2
          rw [hmin] at HU
          have HA := Lib.hid (HU.out.full (by omega : 4096 ≤ j) k1)
          rw [HA.out] at HD
          have HU2 : Hid (Up s (min (j + 1) 4096)) := Lib.hid (by rw [hmin2]; exact HU.out)
          clear hI HA HU hmin hmin2
          go_wp2_with fail
          refine HD.out.mono ?_
          rintro e w4 ⟨rfl, hs⟩
          have HS := Lib.hid hs
          clear hs HD c0 c1 c2
          go_wp2_with fail
          go_roundw
          case rel => exact ⟨j + 1, _, by go_num, by omega, Lib.hid ⟨HS.out, HU2.out⟩⟩
          case measure => simp [RowKit.intOf]; omega
      · obtain rfl : j = m := by omega
        have j1 : ¬ (j : Int) < (j : Int) := by omega
        have HS := Lib.hid hI.out.1
        have HU := Lib.hid hI.out.2
        clear hI
        have HTL := Lib.hid (len_tab HS.out.t)
        rw [HU.out.len] at HTL
        by_cases h4 : j ≤ 4096
        · have hmin : min j 4096 = j := by omega
          rw [hmin] at HTL
          have j2 : (j : Int) ≤ 4096 := by omega
          clear hmin
          go_wp2_with fail
          refine HTL.out.mono ?_
          rintro e w4 ⟨rfl, rfl⟩
          go_wp2_with fail
          go_ret
          exact ⟨by first | rfl | simp, HS.out.o.to_below⟩
        · have hmin : min j 4096 = 4096 := by omega
          rw [hmin] at HTL HU
          have j2 : ¬ (j : Int) ≤ 4096 := by omega
          have j3 : (j : Int) > 4096 := by omega
          have HDR := Lib.hid (HU.out.drop k1)
          have HDC := Lib.hid (HS.out.drop (by omega) 5 (fit_of (by omega) (by omega)))
          rw [HDR.out.1] at HDC
          have HTC : Hid (Calls Try.prog 9 #[.pointer (some ⟨b, 0, none⟩)] wr fun e w' => e = .returned (.int .i64 4096) ∧ w' = wr) := Lib.hid HTL.out
          clear hmin HTL
          go_wp2_with fail
          refine HTC.out.mono ?_
          rintro e w4 ⟨rfl, rfl⟩
          go_wp2_with fail
          refine HDC.out.mono ?_
          rintro e w5 ⟨rfl, hs⟩
          have HS5 := Lib.hid hs
          clear hs HDC
          obtain ⟨c0, c1, c2⟩ := HS5.out.x.cells
          have HAC := Lib.hid (HS5.out.add (by omega) 9999 (fit_of (by omega) (by omega)) k1 HOK.out true)
          rw [HDR.out.2] at HAC
          go_wp2_with fail
          refine HAC.out.mono ?_
          rintro e w6 ⟨rfl, hs⟩
          have HS6 := Lib.hid hs
          clear hs HAC c0 c1 c2
          go_wp2_with fail
          go_ret
          exact ⟨by first | rfl | simp, HS6.out.o.to_below⟩
theorem law_full (n : Int) (k1 : Ky) (w : World) (hk1 : k1.Ok) :
    Calls Try.prog 5 #[.int .i64 n, kyV k1] w fun e w' => e = .returned (.bool true) ∧ Below w.heap.size w w' := by
  by_cases h : n < 0 ∨ (0 ≤ n ∧ n > 4200) ∨ (0 ≤ n ∧ ¬ n > 4200 ∧ n > 300 ∧ n < 4090)
  · exact law_full_away n k1 w h
  · obtain ⟨m, rfl⟩ : ∃ m : Nat, n = m := ⟨n.toNat, by omega⟩
    exact law_full_here m k1 w hk1 (by omega) (by omega)
end Go.Proofs.Ythgjedcelcanbaa.idx
