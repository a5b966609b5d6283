
/- Selection by keys: the law that Head and Next tell all. -/
import Derived.Test.YthgjedcelcanbaaIdx40
namespace Go.Proofs.Ythgjedcelcanbaa.idx
set_option maxRecDepth 100000
open Go.RowKit Go.Proofs.Ythgjedcelcanbaa.own Go.Lib Go.Maps Go.WideMaps
theorem idF_mem {L : List En} (h : Alone L) {e : En} (he : e ∈ L) : idF e.id L = some e := by
  obtain ⟨A, C, rfl⟩ := List.append_of_mem he
  exact idF_in h
theorem next_met {L : List En} {k : Ky} (ha : Alone L) (hr : Rises L) {t : Nat} {x : En} (hx : (metF k L)[t]? = some x) : nextF x.id k L = (metF k L)[t + 1]? := by
  have hm : x ∈ L := (List.mem_filter.1 (List.mem_of_getElem? hx)).1
  unfold nextF
  rw [idF_mem ha hm]
  exact first_next hr hx
theorem add_len (s : St) (i : Int) (k : Ky) (f : Bool) : (addS s i k f).2.L.length ≤ s.L.length + 1 := by
  unfold addS
  split
  · exact Nat.le_succ _
  · split
    · exact Nat.le_succ _
    · show (insF f _ s.L).length ≤ _
      rw [ins_len]
      exact Nat.le_refl _
theorem drop_len (s : St) (i : Int) : (dropS s i).2.L.length ≤ s.L.length + 1 := by
  unfold dropS
  split
  · exact Nat.le_succ_of_le (List.length_filter_le _ _)
  · exact Nat.le_succ _
/-- A table, and a key's box, made since w. -/
structure SideT (w : World) (b bk N : Nat) (k : Ky) (s : St) (W : World) : Prop where
  t : TabS (w.heap.size + 1) b N s W
  x : Three bk k W
  o : Only (fun _ => False) w W
section
variable {b bk N : Nat} {k : Ky} {s s' : St} {w W W' : World}
theorem SideT.later (h : SideT w b bk N k s W) (ho : Only (fun _ => False) W W') : SideT w b bk N k s W' := ⟨TabB.later h.t ho, h.x.only ho (fun e => e), h.o.same ho⟩
theorem SideT.turn (h : SideT w b bk N k s W) {N' : Nat} (t : TabS (w.heap.size + 1) b N' s' W') (ho : Only (Ixy (w.heap.size + 1) W) W W') : SideT w b bk N' k s' W' := ⟨t, h.x.ixy ho, Only.cut h.o ho (fun q e => by have := e.1; omega)⟩
theorem SideT.add (h : SideT w b bk N k s W) (hN : N + 1 ≤ 1000000) (i : Int) (hi : Fit i) (k1 : Ky) (hk : k1.Ok) (f : Bool) :
    Calls Try.prog 14 #[.pointer (some ⟨b, 0, none⟩), .int .i64 i, kyV k1, .bool f] W fun e w' => e = .returned (.int .i64 (addS s i k1 f).1) ∧ SideT w b bk (N + 1) k (addS s i k1 f).2 w' := by
  refine (add_all h.t hN i hi k1 hk f).mono ?_
  rintro e w1 ⟨rfl, ht, ho⟩
  exact ⟨rfl, h.turn ht ho⟩
theorem SideT.drop (h : SideT w b bk N k s W) (hN : N + 1 ≤ 1000000) (i : Int) (hi : Fit i) :
    Calls Try.prog 13 #[.pointer (some ⟨b, 0, none⟩), .int .i64 i] W fun e w' => e = .returned (.int .i64 (dropS s i).1) ∧ SideT w b bk (N + 1) k (dropS s i).2 w' := by
  refine (drop_all h.t hN i hi).mono ?_
  rintro e w1 ⟨rfl, ht, ho⟩
  exact ⟨rfl, h.turn ht ho⟩
theorem SideT.head (h : SideT w b bk N k s W) (k1 : Ky) (hk : k1.Ok) : Calls Try.prog 15 #[.pointer (some ⟨b, 0, none⟩), kyV k1] W fun e w' => e = .returned (.tuple #[.int .i64 (((metF k1 s.L)[0]?).getD zE).id, .bool ((metF k1 s.L)[0]?).isSome]) ∧ Only (fun _ => False) W w' := by
  have := head_all h.t k1 hk
  rwa [first_low h.t.between] at this
theorem SideT.next (h : SideT w b bk N k s W) (k1 : Ky) (hk : k1.Ok) {t : Nat} {x : En} (hx : (metF k1 s.L)[t]? = some x) (hi : Fit x.id) : Calls Try.prog 16 #[.pointer (some ⟨b, 0, none⟩), .int .i64 x.id, kyV k1] W fun e w' => e = .returned (.tuple #[.int .i64 (((metF k1 s.L)[t + 1]?).getD zE).id, .bool ((metF k1 s.L)[t + 1]?).isSome]) ∧ Only (fun _ => False) W w' := by
  have := next_all h.t x.id hi k1 hk
  rwa [next_met h.t.alone h.t.between.rises hx] at this
theorem SideT.fit (h : SideT w b bk N k s W) {x : En} (hx : x ∈ s.L) : Fit x.id := by
  obtain ⟨mr, mi, ks, ao, cap, nr, ni, Dr, Di, h1, h2⟩ := h.t
  exact (h1.keys x hx).2.1
end
set_option maxHeartbeats 16000000 in
theorem law_tells (qo : Option Addr) (qc : Nat) (q : List OpI) (k1 : Ky) (w : World) (hq : ArgI qo q w) (hql : q.length ≤ maxLen) (hk1 : k1.Ok) :
    Calls Try.prog 4 #[.slice qo q.length qc, kyV k1] w fun e w' => e = .returned (.bool true) ∧ Below w.heap.size w w' := by
  have HQ := Lib.hid hq
  have HLV := Lib.hid lives_any
  have HOK := Lib.hid hk1
  obtain ⟨E, hE⟩ : ∃ E, E = w.alloc (.cells #[.int .i64 k1.k, .string k1.s, .int .i64 k1.n] 32) := ⟨_, rfl⟩
  have hx : Three w.heap.size k1 E := by unfold Three; rw [hE]; exact heap_alloc_new _ _
  have HX := Lib.hid hx
  have HE : Hid (Only (fun _ => False) w E) := Lib.hid (by rw [hE]; exact Only.alloc _ _ _)
  have HES : Hid (E.heap.size = w.heap.size + 1) := Lib.hid (by rw [hE]; simp)
  have HNE : Hid (Calls Try.prog 6 #[] E fun e w' => e = .returned (.pointer (some ⟨E.heap.size + 2, 0, none⟩)) ∧ TabB E.heap.size (E.heap.size + 2) 0 [] (-1) 0 w' ∧ Only (fun _ => False) E w') := Lib.hid (new_tab E)
  clear hq hx hk1
  go_enter Try.func4, Try.ntmps4
  go_upto_region 1 with fail
  rw [← hE]
  clear hE
  go_wp2_with fail
  refine HNE.out.mono ?_
  rintro e w1 ⟨rfl, ht, ho⟩
  have HS : Hid (SideT w (E.heap.size + 2) w.heap.size 0 k1 ⟨[], -1, 0⟩ w1) := Lib.hid ⟨by rw [← HES.out]; exact ht, HX.out.only ho (fun e => e), HE.out.same ho⟩
  clear ht ho HX HE HES HNE
  generalize E.heap.size + 2 = b at *
  go_wp2_with fail
  refine (HLV.out w1).mono ?_
  rintro e w3 ⟨rfl, ho⟩
  replace HS := Lib.hid (HS.out.later ho)
  clear ho HLV
  go_wp2_with fail
  go_loopw [6] (fun iv wr => ∃ (j : Nat) (s : St), iv = .int .i64 j ∧ j ≤ q.length ∧ j ≤ 60 ∧ Hid (SideT w b w.heap.size j k1 s wr ∧ s.L.length ≤ j)) (fun iv _ => q.length - (RowKit.intOf iv).toNat)
  case atStart => exact ⟨0, _, rfl, by omega, by omega, Lib.hid ⟨HS.out, Nat.zero_le _⟩⟩
  case round =>
    obtain ⟨j, s, rfl, hj, hj60, hI⟩ := hrel
    clear HS
    have j0 : (0 : Int) ≤ (j : Int) := by omega
    by_cases hlt : j < q.length ∧ j < 60
    · obtain ⟨hlt, hlt2⟩ := hlt
      have j1 : (j : Int) < (q.length : Int) := by omega
      have j2 : (j : Int) < 60 := by omega
      obtain ⟨y, hy⟩ : ∃ y, q[j]? = some y := ⟨_, List.getElem?_eq_getElem hlt⟩
      obtain ⟨g, off, rfl, _, _, hf1, hf2, hf3⟩ := HQ.out j y hy
      have HC : Hid (∀ W, Only (fun _ => False) w W → W.cell? ⟨g, off + j * 6, none⟩ = some (.int .i64 y.kd) ∧ W.cell? ⟨g, off + j * 6 + 1, none⟩ = some (.int .i64 y.i) ∧ W.cell? ⟨g, off + j * 6 + 2, none⟩ = some (.int .i64 y.k.k) ∧ W.cell? ⟨g, off + j * 6 + 3, none⟩ = some (.string y.k.s) ∧ W.cell? ⟨g, off + j * 6 + 4, none⟩ = some (.int .i64 y.k.n) ∧ W.cell? ⟨g, off + j * 6 + 5, none⟩ = some (.bool y.f)) := Lib.hid (fun W ho => by
        obtain ⟨b', off', e, _, h, _⟩ := HQ.out.later ho j y hy
        cases e
        exact h)
      clear hy
      obtain ⟨kd, i, k, f⟩ := y
      simp only at HC hf1 hf2 hf3
      obtain ⟨c0, c1, c2, c3, c4, c5⟩ := HC.out _ hI.out.1.o
      by_cases hkd : kd = 2
      · subst hkd
        have HD := Lib.hid (hI.out.1.drop (by omega) i hf2)
        have HLN : Hid ((dropS s i).2.L.length ≤ j + 1) := Lib.hid (Nat.le_trans (drop_len s i) (by have := hI.out.2; omega))
        clear hI hf1 hf2 hf3
        go_wp2_with fail
        refine HD.out.mono ?_
        rintro e w4 ⟨rfl, hs⟩
        have HS := Lib.hid hs
        clear hs HD c0 c1 c2 c3 c4 c5
        go_wp2_with fail
        go_roundw
        case rel => exact ⟨j + 1, _, by go_num, by omega, by omega, Lib.hid ⟨HS.out, HLN.out⟩⟩
        case measure => simp [RowKit.intOf]; omega
      · have hkd' : (kd == 2) = false := by simpa using hkd
        have HD := Lib.hid ((hI.out.1.later (Only.drew (fun _ => False) wr)).add (by omega) i hf2 k hf3 f)
        have HLN : Hid ((addS s i k f).2.L.length ≤ j + 1) := Lib.hid (Nat.le_trans (add_len s i k f) (by have := hI.out.2; omega))
        have HO : Hid (Only (fun _ => False) w wr.drew) := Lib.hid (hI.out.1.o.same (Only.drew _ _))
        clear hI hf1 hf2 hf3 hkd
        go_upto_region 9 with fail
        go_region_held3 (fun W => W.cell? ⟨g, off + j * 6, none⟩ = some (.int .i64 kd) ∧ W.cell? ⟨g, off + j * 6 + 1, none⟩ = some (.int .i64 i) ∧ W.cell? ⟨g, off + j * 6 + 2, none⟩ = some (.int .i64 k.k) ∧ W.cell? ⟨g, off + j * 6 + 3, none⟩ = some (.string k.s) ∧ W.cell? ⟨g, off + j * 6 + 4, none⟩ = some (.int .i64 k.n) ∧ W.cell? ⟨g, off + j * 6 + 5, none⟩ = some (.bool f)) (with_reducible first | exact HC.out _ HS.out.o | exact HC.out _ HO.out) (first
          | (go_at_call 14; (with_reducible refine HD.out.mono ?_); rintro e w4 ⟨rfl, hs⟩; have HS := Lib.hid hs; clear hs))
        all_goals
          go_wp2_with fail
          go_roundw
          case rel => exact ⟨j + 1, _, by go_num, by omega, by omega, Lib.hid ⟨HS.out, HLN.out⟩⟩
          case measure => simp [RowKit.intOf]; omega
    · obtain ⟨v, hv⟩ : ∃ v, v = wr := ⟨_, rfl⟩
      subst hv
      have HSX := Lib.hid hI.out.1
      have HM60 : Hid ((metF k1 s.L).length ≤ 60) := Lib.hid (Nat.le_trans (List.length_filter_le _ _) (by have := hI.out.2; omega))
      have hdone : (¬ (j : Int) < (q.length : Int)) ∨ (¬ (j : Int) < 60 ∧ (j : Int) < (q.length : Int)) := by
        by_cases h1 : j < q.length
        · exact .inr ⟨by omega, by omega⟩
        · exact .inl (by omega)
      clear hI hlt
      have HXS : Hid (∀ W, Only (fun _ => False) v W → SideT w b w.heap.size j k1 s W) := Lib.hid (fun W o => HSX.out.later o)
      obtain ⟨M, hM⟩ : ∃ M, M = metF k1 s.L := ⟨_, rfl⟩
      have HHD : Hid (Calls Try.prog 15 #[.pointer (some ⟨b, 0, none⟩), kyV k1] v fun e w' => e = .returned (.tuple #[.int .i64 ((M[0]?).getD zE).id, .bool (M[0]?).isSome]) ∧ Only (fun _ => False) v w') := Lib.hid (by rw [hM]; exact HSX.out.head k1 HOK.out)
      have HNX : Hid (∀ (t : Nat) (x : En) (W : World), M[t]? = some x → Only (fun _ => False) v W → Calls Try.prog 16 #[.pointer (some ⟨b, 0, none⟩), .int .i64 x.id, kyV k1] W fun e w' => e = .returned (.tuple #[.int .i64 ((M[t + 1]?).getD zE).id, .bool (M[t + 1]?).isSome]) ∧ Only (fun _ => False) W w') := Lib.hid (fun t x W hx o => by
        rw [hM] at hx ⊢
        exact (HXS.out W o).next k1 HOK.out hx (HSX.out.fit (List.mem_filter.1 (List.mem_of_getElem? hx)).1))
      have HAL : Hid (∀ W, Only (fun _ => False) v W → Calls Try.prog 11 #[.pointer (some ⟨b, 0, none⟩), kyV k1] W fun e w' => ∃ a c, e = .returned (.slice a M.length c) ∧ NumsAt w' a (M.map (·.id)) ∧ Only (fun _ => False) W w') := Lib.hid (fun W o => by
        refine (all_tab (HXS.out W o).t k1 HOK.out).mono ?_
        rintro e w1 ⟨a, c, rfl, hn, ho⟩
        rw [hM]
        exact ⟨a, c, rfl, NumsAt.row hn, ho⟩)
      rw [← hM] at HM60
      have HKC : Hid (∀ W, Only (fun _ => False) v W → W.cell? ⟨w.heap.size, 0, none⟩ = some (.int .i64 k1.k) ∧ W.cell? ⟨w.heap.size, 1, none⟩ = some (.string k1.s) ∧ W.cell? ⟨w.heap.size, 2, none⟩ = some (.int .i64 k1.n)) := Lib.hid (fun W o => (HSX.out.x.only o (fun e => e)).cells)
      have HWR := Lib.hid HSX.out.o
      clear hM HXS HSX HQ
      obtain ⟨i0, hi0, hz0, hz1, hz2⟩ := info_parts infoN
      have HTAIL : Hid True := Lib.hid trivial
      obtain ⟨k0, k2, k3⟩ := HKC.out v (Only.refl _ _)
      rcases hdone with hd | ⟨hd, hd2⟩
      all_goals
        go_upto_region 11 with fail
        go_wp2_with fail
        refine HHD.out.mono ?_
        rintro e w5 ⟨rfl, ho5⟩
        have HO5 := Lib.hid ho5
        clear ho5 k0 k2 k3 HHD
        go_wp2_with fail
        go_loopw [7, 8, 9, 10] (fun s7 s8 s9 s10 wr => ∃ (t : Nat) (a : Option Addr) (c : Nat), s7 = .slice a t c ∧ s8 = .int .i64 ((M[t]?).getD zE).id ∧ s9 = .bool (M[t]?).isSome ∧ s10 = .int .i64 t ∧ t ≤ M.length ∧ Hid (RowN v.heap.size a c ((M.take t).map (·.id)) wr ∧ Only (fun _ => False) v wr)) (fun _ _ _ s10 _ => M.length - (RowKit.intOf s10).toNat)
        case atStart => exact ⟨0, none, 0, rfl, rfl, rfl, rfl, Nat.zero_le _, Lib.hid ⟨RowOf.nil _ _ _ _ _, HO5.out⟩⟩
        case round =>
          obtain ⟨t, a, c, rfl, rfl, rfl, rfl, ht, hI⟩ := hrel
          have t0 : (t : Int) < 100 := by have := HM60.out; omega
          cases hx : M[t]? with
          | some x =>
            have HXX := Lib.hid hx
            have htl : t < M.length := (List.getElem?_eq_some_iff.1 hx).1
            have HTK : Hid ((M.take (t + 1)).map (·.id) = (M.take t).map (·.id) ++ [x.id]) := Lib.hid (by rw [List.take_add_one, hx]; simp)
            have HSZ : Hid (v.heap.size ≤ wr.heap.size) := Lib.hid hI.out.2.size
            have HLT : Hid (((M.take t).map (·.id)).length = t ∧ ((M.take t).map (·.id) ++ [x.id]).length = t + 1 ∧ t ≤ 60) := Lib.hid ⟨by rw [List.length_map, List.length_take]; omega, by rw [List.length_append, List.length_map, List.length_take, List.length_singleton]; omega, by have := HM60.out; omega⟩
            have HKX := Lib.hid (fun W (o : Only (fun _ => False) wr W) => HKC.out W (hI.out.2.same o))
            clear hx
            simp only [Option.getD_some, Option.isSome_some]
            go_wp2_with (first
              | (at_builtin; refine wp_append_one liesN (by rfl) (.tmp 71) (.tmp 73) 37 (by rfl) v.heap.size 3 i0 _ 8 Try.underlying37 hi0 hz0 hz1 hz2 rfl (by omega) wr a c ((M.take t).map (·.id)) x.id [.int .i64 x.id] rfl (by rw [HLT.out.1]; rfl) hI.out.1 (by rfl) (by have := HLT.out; omega) HSZ.out ?_
                 intro a2 c2 w6 hrow2 ho2 hnew2
                 have HR2 : Hid (RowN v.heap.size a2 c2 ((M.take (t + 1)).map (·.id)) w6) := Lib.hid (by rw [HTK.out]; exact hrow2)
                 have HO6 : Hid (Only (fun _ => False) v w6) := Lib.hid (Only.cut hI.out.2 ho2 (fun q e => by obtain ⟨g, hg, e⟩ := e; rw [e]; exact (hI.out.1.head g hg).2.1))
                 rw [HLT.out.2.1]
                 obtain ⟨z0, z1, z2⟩ := HKC.out w6 HO6.out
                 clear hrow2 ho2 hnew2)
              | fail)
            refine (HNX.out t x w6 HXX.out HO6.out).mono ?_
            rintro e w7 ⟨rfl, ho7⟩
            have HI7 : Hid (RowN v.heap.size a2 c2 ((M.take (t + 1)).map (·.id)) w7 ∧ Only (fun _ => False) v w7) := Lib.hid ⟨HR2.out.only ho7 (fun _ _ e => e), HO6.out.same ho7⟩
            clear ho7 z0 z1 z2
            go_wp2_with fail
            go_roundw
            case rel => exact ⟨t + 1, a2, c2, rfl, rfl, rfl, by go_num, by omega, HI7⟩
            case measure => simp [RowKit.intOf]; omega
          | none =>
            obtain rfl : t = M.length := by have := List.getElem?_eq_none_iff.1 hx; omega
            have HFN : Hid (NumsAt wr a (M.map (·.id)) ∧ Only (fun _ => False) v wr) := Lib.hid ⟨by have := NumsAt.row hI.out.1; rwa [List.take_length] at this, hI.out.2⟩
            obtain ⟨z0, z1, z2⟩ := HKC.out wr hI.out.2
            have HXL : Hid ((M.map (·.id)).length ≤ 1000000) := Lib.hid (by rw [List.length_map]; have := HM60.out; omega)
            clear hx hI
            simp only [Option.getD_none, Option.isSome_none]
            go_wp2_with fail
            refine (HAL.out _ HFN.out.2).mono ?_
            rintro e w7 ⟨a7, c7, rfl, hn7, ho7⟩
            have HSM : Hid (Calls Try.prog 10 #[.slice a M.length c, .slice a7 M.length c7] w7 fun e w' => e = .returned (.bool true) ∧ Only (fun _ => False) w7 w') := Lib.hid (by
              have := same_same (M.map (·.id)) HXL.out c c7 (HFN.out.1.later ho7) hn7
              rwa [List.length_map] at this)
            have HO7 := Lib.hid ((HWR.out.same HFN.out.2).same ho7)
            clear ho7 hn7 z0 z1 z2
            go_wp2_with fail
            refine HSM.out.mono ?_
            rintro e w8 ⟨rfl, ho8⟩
            have HO8 := Lib.hid (HO7.out.same ho8)
            clear ho8
            go_wp2_with fail
            go_ret
            exact ⟨rfl, HO8.out.to_below⟩
end Go.Proofs.Ythgjedcelcanbaa.idx
