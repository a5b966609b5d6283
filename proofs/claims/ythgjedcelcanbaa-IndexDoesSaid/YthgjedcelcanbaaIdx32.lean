
/- Selection by keys: the call Drop, of an entry: up to the key's row. -/
import Derived.Test.YthgjedcelcanbaaIdx31
namespace Go.Proofs.Ythgjedcelcanbaa.idx
set_option maxRecDepth 100000
open Go.RowKit Go.Proofs.Ythgjedcelcanbaa.own Go.Lib Go.Maps Go.WideMaps
section
variable {b mr mi N : Nat} {L A C : List En} {e : En} {lo hi : Int} {ks : Ks} {ao : Option Addr} {cap nr ni : Nat} {Dr : D2} {Di : D1} {w W w' : World}
theorem TabI.more (h : TabI b mr mi N L lo hi ks ao cap nr ni Dr Di W) (hN : N + 1 ≤ 1000000) : TabI b mr mi (N + 1) L lo hi ks ao cap nr ni Dr Di W :=
  { h with nums := by have := h.nums; omega }
theorem _root_.Go.Proofs.Ythgjedcelcanbaa.own.NewRow.refl' (n : Nat) (ao : Option Addr) : NewRow n ao ao := fun _ hg => .inl hg
theorem idF_in (h : Alone (A ++ e :: C)) : idF e.id (A ++ e :: C) = some e := by
  unfold idF
  rw [List.find?_append, List.find?_eq_none.2 (fun x hx => by have := (List.pairwise_append.1 h).2.2 x hx e (by simp); simpa using this)]
  simp
set_option maxHeartbeats 16000000 in
theorem drop_yes {B : Nat} (h : TabI b mr mi N (A ++ e :: C) lo hi ks ao cap nr ni Dr Di w) (hab : Ab B b mr mi ao ks) (hN : N + 1 ≤ 1000000) :
    Calls Try.prog 13 #[.pointer (some ⟨b, 0, none⟩), .int .i64 e.id] w fun r w' => r = .returned (.int .i64 0) ∧ TabB B b (N + 1) (A ++ C) lo hi w' ∧ Only (Ixy B w) w w' := by
  have HAB := Lib.hid hab
  clear hab
  obtain ⟨E, hE⟩ : ∃ E, E = w.alloc (.cells #[.int .i64 e.id, .int .i64 e.key.k, .string e.key.s, .int .i64 e.key.n, .int .i64 e.pl] 60) := ⟨_, rfl⟩
  have hx : Five w.heap.size e E := by rw [hE]; exact Five.new w e
  have ho : Only (fun _ => False) w E := by rw [hE]; exact Only.alloc _ _ _
  have HCL := Lib.hid (closed_no h)
  have hky := h.keys e (by simp)
  have hlk := h.look_id hky.2.1
  rw [idF_in h.alone] at hlk
  simp only [Option.getD_some, Option.isSome_some] at hlk
  have HT0 : Hid (TabI b mr mi (N + 1) (A ++ e :: C) lo hi ks ao cap nr ni Dr Di E) := Lib.hid ((h.later ho).more hN)
  have HX0 := Lib.hid hx
  have HO0 := Lib.hid ho
  have HH := Lib.hid h
  have HKY := Lib.hid hky
  have HNN := Lib.hid hN
  obtain ⟨c0, c1, c2, c3, c4⟩ := h.cells
  obtain ⟨d0, d1, d2, d3, d4⟩ := (h.later ho).cells
  obtain ⟨x0, x1, x2, x3, x4⟩ := hx.cells
  have hkn := keyOfN hky.2.1
  have hown := HT0.out.idm
  obtain ⟨n, hnl⟩ : ∃ n, n = (A ++ e :: C).length := ⟨_, rfl⟩
  have HNL := Lib.hid hnl
  rw [← hnl] at c0 d0
  clear h hx ho hky hN hnl
  go_enter Try.func13, Try.ntmps13
  go_wp2_with fail
  refine HCL.out.mono ?_
  rintro r w0 ⟨rfl, rfl⟩
  go_upto_region 6 with fail
  rw [← hE]
  clear hE
  generalize hbt : w0.heap.size = bt at *
  go_wp2_with (first
    | (at_delete; refine wpList_delete_own _ rfl _ _ 49 3 rfl 60 keyedI Try.underlying49 enR mi ni Di rfl hown _ _ rfl hkn ?_; intro w7 hown7 hturn7)
    | fail)
  have HO7 : Hid (Only (· = mi) E w7) := Lib.hid (Only.turned hturn7)
  have HI7 := Lib.hid hown7
  have HAP : Hid (∀ k, RowAt ao k → k < w0.heap.size ∧ k ≠ b ∧ k ≠ mi ∧ k ≠ mr) := Lib.hid (fun k hk => by
    refine ⟨?_, fun e => row_apart HH.out.row HH.out.box (by decide) (e ▸ hk), fun e => row_ne_map HH.out.row HH.out.idm (e ▸ hk), fun e => row_ne_map HH.out.row HH.out.rkm (e ▸ hk)⟩
    obtain ⟨g, hg, e⟩ := hk
    rw [e]; exact (HH.out.row.head g hg).2.2)
  have HBM : Hid (b ≠ mi ∧ b ≠ mr ∧ bt ≠ mi ∧ bt ≠ mr ∧ bt ≠ b) := Lib.hid (by
    obtain ⟨_, _, hmi0, _⟩ := id HH.out.idm
    obtain ⟨_, _, hmr0, _⟩ := id HH.out.rkm
    have hb := HH.out.box
    have l1 := lt_of_block hb
    have l2 := lt_of_block hmi0
    have l3 := lt_of_block hmr0
    refine ⟨fun e => ?_, fun e => ?_, by omega, by omega, by omega⟩
    · rw [e, hmi0] at hb; cases hb
    · rw [e, hmr0] at hb; cases hb)
  have HB7 : Hid (∀ W, Only (RowAt ao) w7 W → W.heap[b]? = some (.cells #[.slice ao n cap, .map (some mr), .map (some mi), .int .i64 lo, .int .i64 hi] 53 (0, 0)) ∧ Five bt e W ∧ W.ownsMap Try.prog 32 hdR mr nr Dr) := Lib.hid (fun W o => by
    have hb6 := lt_of_block HT0.out.box
    have hbx : w7.heap[b]? = _ := (HO7.out.block b hb6 HBM.out.1).trans HT0.out.box
    have he7 : Five bt e w7 := HX0.out.only HO7.out (fun e => HBM.out.2.2.1 e)
    have hm7 := ownsMap_only HT0.out.rkm HO7.out HT0.out.apm
    rw [HNL.out]
    refine ⟨(o.block b (lt_of_block hbx) (fun e => (HAP.out b e).2.1 rfl)).trans hbx, he7.only o (fun e => by have := (HAP.out bt e).1; omega), ownsMap_only hm7 o (fun e => (HAP.out mr e).2.2.2 rfl)⟩)
  have HR7 : Hid (RowE ao cap (A ++ e :: C) w7) := Lib.hid (HT0.out.row.only HO7.out (fun g hg => not_at (row_ne_map HT0.out.row HT0.out.idm) g hg))
  have HWA : Hid (∀ W, Only (fun _ => False) w7 W → Calls Try.prog 27 #[.slice ao n cap, .agg #[.int .i64 e.id, .int .i64 e.key.k, .string e.key.s, .int .i64 e.key.n, .int .i64 e.pl]] W fun r w' => r = .returned (.slice ao (A ++ C).length cap) ∧ RowE ao cap (A ++ C) w' ∧ Only (RowAt ao) W w') := Lib.hid (fun W o => by
    rw [HNL.out]
    exact without_any ao cap A e C W (HR7.out.later o) HT0.out.pl.rises (by have := HT0.out.few; omega))
  clear hown hown7 hturn7 hkn hlk c0 c1 c2 c3 c4 d0 d1 d2 d3 d4 x0 x1 x2 x3 x4
  obtain ⟨n2, hn2⟩ : ∃ n2, n2 = (A ++ C).length := ⟨_, rfl⟩
  have HN2 := Lib.hid hn2
  rw [← hn2] at HWA
  clear hn2
  simp only [Act.put]
  go_cut [31] (fun s31 wx => s31 = .slice ao n2 cap ∧ Hid (∃ W2, Only (RowAt ao) w7 W2 ∧ RowE ao cap (A ++ C) W2 ∧ wx = W2.setCell ⟨b, 0, none⟩ (.slice ao n2 cap)))
  case first =>
    have q0 := HB7.out w7 (Only.refl _ _)
    have p0 := cell_of_blk q0.1 0
    simp only [List.getElem?_toArray, List.getElem?_cons_zero] at p0
    obtain ⟨v0, v1, v2, v3, v4⟩ := q0.2.1.cells
    clear q0
    go_region_with (go_at_call 27; refine (HWA.out _ (by first | exact Only.drew _ _ | exact Only.refl _ _)).mono ?_; rintro r u ⟨rfl, hr2, ho2⟩; have HA2 : Hid (Only (RowAt ao) w7 u ∧ RowE ao cap (A ++ C) u) := Lib.hid ⟨(by first | exact ((Only.drew (fun _ => False) _).mono (fun _ _ e => e.elim)).same ho2 | exact ho2), hr2⟩; have q1 := HB7.out u HA2.out.1; have p1 := cell_of_blk q1.1 0; simp only [List.getElem?_toArray, List.getElem?_cons_zero] at p1; have f1 : u.frozen? ⟨b, 0, none⟩ = false := free_of_blk q1.1 0; clear hr2 ho2 q1)
    all_goals
      go_wp2_with fail
      go_meet
      exact ⟨rfl, Lib.hid ⟨_, HA2.out.1, HA2.out.2, rfl⟩⟩
  case rest =>
    obtain ⟨rfl, hC⟩ := hcut
    obtain ⟨W2, ho2, hr2, hw3⟩ := hC.out
    obtain ⟨box2, he2, hm2⟩ := HB7.out W2 ho2
    have o3 : Only (· = b) W2 wc := by rw [hw3]; exact Only.setCell (S := (· = b)) (p := ⟨b, 0, none⟩) W2 rfl _
    have box3 : wc.heap[b]? = some (.cells #[.slice ao n2 cap, .map (some mr), .map (some mi), .int .i64 lo, .int .i64 hi] 53 (0, 0)) := by rw [hw3, blk_set box2 0]; rfl
    have he3 : Five bt e wc := he2.only o3 (fun e => HBM.out.2.2.2.2 e)
    have hm3 : wc.ownsMap Try.prog 32 hdR mr nr Dr := ownsMap_only hm2 o3 (fun e => HBM.out.2.1 e.symm)
    have hkx := HKY.out.1
    obtain ⟨a, c, hlk, hrow6, hat0⟩ := HT0.out.look_row hkx
    have hat : (e.key, (a, (cls e.key (A ++ e :: C)).length, c)) ∈ ks := by
      rcases hat0 with ⟨_, _, hno⟩ | hat
      · obtain ⟨hd, hm⟩ := HT0.out.cover e (by simp)
        exact absurd rfl (hno _ hm)
      · exact hat
    have HAT := Lib.hid hat
    have hra : ∀ k, RowAt a k → k < w0.heap.size ∧ k ≠ b ∧ k ≠ mi ∧ k ≠ mr ∧ Ixy B w0 k := fun k hk => by
      have hr := (HH.out.rows _ hat).1
      refine ⟨?_, fun e => row_apart hr HH.out.box (by decide) (e ▸ hk), fun e => row_ne_map hr HH.out.idm (e ▸ hk), fun e => row_ne_map hr HH.out.rkm (e ▸ hk), HAB.out.rows _ hat k hk, .inr (.inl (row_kind hr hk))⟩
      obtain ⟨g, hg, e⟩ := hk
      rw [e]; exact (hr.head g hg).2.2
    have haa : ∀ k, RowAt a k → ¬ RowAt ao k := fun k hk hk' => by
      obtain ⟨g, hg, e⟩ := hk
      obtain ⟨g', hg', e'⟩ := hk'
      exact HT0.out.ap1 _ hat g' g hg' hg (by omega)
    have hrow3 : RowE a c (cls e.key (A ++ e :: C)) wc := ((hrow6.only HO7.out (fun g hg e => (hra _ ⟨g, hg, rfl⟩).2.2.1 e)).only ho2 (fun g hg e => haa _ ⟨g, hg, rfl⟩ e)).only o3 (fun g hg e => (hra _ ⟨g, hg, rfl⟩).2.1 e)
    have HRA := Lib.hid hra
    have HM3 : Hid (∀ u, Only (RowAt a) wc u → u.ownsMap Try.prog 32 hdR mr nr Dr) := Lib.hid (fun u o => ownsMap_only hm3 o (fun e => (HRA.out mr e).2.2.2.1 rfl))
    have HWC : Hid (∀ W, Only (fun _ => False) wc W → Calls Try.prog 27 #[.slice a (cls e.key (A ++ e :: C)).length c, .agg #[.int .i64 e.id, .int .i64 e.key.k, .string e.key.s, .int .i64 e.key.n, .int .i64 e.pl]] W fun r w' => r = .returned (.slice a (cls e.key (A ++ C)).length c) ∧ RowE a c (cls e.key (A ++ C)) w' ∧ Only (RowAt a) W w') := Lib.hid (fun W o => by
      have h1 := hrow3.later o
      have h2 := cls_rises (k := e.key) HT0.out.pl.rises
      have h3 : (cls e.key (A ++ e :: C)).length ≤ 1000000 := by have := cls_len e.key (A ++ e :: C); have := HT0.out.few; omega
      rw [cls_in] at h1 h2 h3 ⊢
      rw [cls_two]
      exact without_any a c (cls e.key A) e (cls e.key C) W h1 h2 h3)
    have HK11 : Hid (∀ W, Only (RowAt a) wc W → W.cell? ⟨b, 1, none⟩ = some (.map (some mr)) ∧ W.cell? ⟨bt, 0, none⟩ = some (.int .i64 e.id) ∧ W.cell? ⟨bt, 1, none⟩ = some (.int .i64 e.key.k) ∧ W.cell? ⟨bt, 2, none⟩ = some (.string e.key.s) ∧ W.cell? ⟨bt, 3, none⟩ = some (.int .i64 e.key.n) ∧ W.cell? ⟨bt, 4, none⟩ = some (.int .i64 e.pl)) := Lib.hid (fun W o => ⟨by
      rw [cell_of_blk ((o.block b (lt_of_block box3) (fun e => (HRA.out b e).2.1 rfl)).trans box3)]; rfl, (he3.only o (fun e => by have := (HRA.out bt e).1; omega)).cells⟩)
    have HK12 : Hid (∀ u W, Only (RowAt a) wc u → Only (· = mr) u W → W.cell? ⟨b, 1, none⟩ = some (.map (some mr)) ∧ W.cell? ⟨bt, 0, none⟩ = some (.int .i64 e.id) ∧ W.cell? ⟨bt, 1, none⟩ = some (.int .i64 e.key.k) ∧ W.cell? ⟨bt, 2, none⟩ = some (.string e.key.s) ∧ W.cell? ⟨bt, 3, none⟩ = some (.int .i64 e.key.n) ∧ W.cell? ⟨bt, 4, none⟩ = some (.int .i64 e.pl)) := Lib.hid (fun u W o o' => by
      have hbu := (o.block b (lt_of_block box3) (fun e => (HRA.out b e).2.1 rfl)).trans box3
      have heu := he3.only o (fun e => by have := (HRA.out bt e).1; omega)
      exact ⟨by rw [cell_of_blk ((o'.block b (lt_of_block hbu) HBM.out.2.1).trans hbu)]; rfl, (heu.only o' (fun e => HBM.out.2.2.2.1 e)).cells⟩)
    have hq := hlk wc.drew (ownsMap_only hm3 (Only.drew (fun _ => False) _) (fun e => e))
    simp only [kyV] at hq
    have hkk := keyOfK hkx
    simp only [kyV] at hkk
    have HFIN : Hid (∀ (u w9 : World), RowE a c (cls e.key (A ++ C)) u → Only (RowAt a) wc u → Only (· = mr) u w9 → w9.ownsMap Try.prog 32 hdR mr (nr + 1) (Dr.put (keyK e.key) (.held (a, (cls e.key (A ++ C)).length, c))) → TabI b mr mi (N + 1) (A ++ C) lo hi (setK ks e.key (a, (cls e.key (A ++ C)).length, c)) ao cap (nr + 1) ni (Dr.put (keyK e.key) (.held (a, (cls e.key (A ++ C)).length, c))) (Di.del (keyN e.id)) w9 ∧ Ab B b mr mi ao (setK ks e.key (a, (cls e.key (A ++ C)).length, c)) ∧ Only (Ixy B w0) w0 w9) := Lib.hid (fun u w9 hr4 ho4 ho5 hm5 => by
      have hnum := HH.out.nums
      refine ⟨HT0.out.dropped (by omega) hat HO7.out HI7.out ho2 hr2 o3 (by rw [← HN2.out]; exact box3) ho4 hr4 ho5 hm5, ?_, ?_⟩
      · exact HAB.out.put (Nat.le_refl B) (Nat.le_refl B) (NewRow.refl' B ao) (fun k hk => (HRA.out k hk).2.2.2.2.1) (NewRow.refl' B a)
      have ib : Ixy B w0 b := ⟨HAB.out.b, .inl ⟨_, HH.out.box⟩⟩
      have ii : Ixy B w0 mi := ⟨HAB.out.mi, .inr (.inr (by obtain ⟨es, cl, hb, _⟩ := HH.out.idm; exact ⟨es, cl, hb⟩))⟩
      have ir : Ixy B w0 mr := ⟨HAB.out.mr, .inr (.inr (by obtain ⟨es, cl, hb, _⟩ := HH.out.rkm; exact ⟨es, cl, hb⟩))⟩
      exact (((((HO0.out.mono (S' := Ixy B w0) (fun k _ e => e.elim)).trans HO7.out (fun k _ e => by rw [e]; exact ii)).trans ho2 (fun k _ e => ⟨HAB.out.row k e, .inr (.inl (row_kind HH.out.row e))⟩)).trans o3 (fun k _ e => by rw [e]; exact ib)).trans ho4 (fun k _ e => (HRA.out k e).2.2.2.2)).trans ho5 (fun k _ e => by rw [e]; exact ir))
    have hnr : nr < maxLen := by have := HT0.out.nums; unfold maxLen; omega
    clear hw3 hlk hat hat0 hra haa hrow6 hrow3 ho2 hr2 o3 box2 box3 he2 he3 hm2 hm3 hC
    obtain ⟨m2, hm2⟩ : ∃ m2, m2 = (cls e.key (A ++ C)).length := ⟨_, rfl⟩
    have HMM2 := Lib.hid hm2
    rw [← hm2] at HWC HFIN
    clear hm2
    generalize (cls e.key (A ++ e :: C)).length = m at *
    go_wp2_with fail
    go_cut [] (fun wx => Hid (∃ u, RowE a c (cls e.key (A ++ C)) u ∧ Only (RowAt a) wc u ∧ Only (· = mr) u wx ∧ wx.ownsMap Try.prog 32 hdR mr (nr + 1) (Dr.put (keyK e.key) (.held (a, m2, c)))))
    case first =>
      go_region_held3 (fun W => W.cell? ⟨b, 1, none⟩ = some (.map (some mr)) ∧ W.cell? ⟨bt, 0, none⟩ = some (.int .i64 e.id) ∧ W.cell? ⟨bt, 1, none⟩ = some (.int .i64 e.key.k) ∧ W.cell? ⟨bt, 2, none⟩ = some (.string e.key.s) ∧ W.cell? ⟨bt, 3, none⟩ = some (.int .i64 e.key.n) ∧ W.cell? ⟨bt, 4, none⟩ = some (.int .i64 e.pl)) (with_reducible first | exact HK12.out _ _ HOu.out HOM.out | exact HK11.out _ HOu.out | exact HK11.out _ (Only.drew _ _)) (first
        | (go_at_call 27; refine (HWC.out _ (Only.drew _ _)).mono ?_; intro r u hu; obtain ⟨rfl, hr4, ho4⟩ := hu; have HOu : Hid (Only (RowAt a) wc u) := Lib.hid (((Only.drew (fun _ => False) _).mono (fun _ _ e => e.elim)).same ho4); have HRu := Lib.hid hr4; obtain ⟨w9, hrun9, hown9, hturn9⟩ := (HM3.out u HOu.out).store keyedK Try.underlying48 hnr hkk (hdR_mk a m2 c); have HOM : Hid (Only (· = mr) u w9) := Lib.hid (Only.turned hturn9); have HMM := Lib.hid hown9; clear hr4 ho4 hown9 hturn9))
      all_goals
        go_wp2_with fail
        go_meet
        exact Lib.hid ⟨_, HRu.out, HOu.out, HOM.out, HMM.out⟩
    case rest =>
      obtain ⟨u, hr4, ho4, ho5, hm5⟩ := hcut.out
      obtain ⟨hT, hA, hO⟩ := HFIN.out _ _ hr4 ho4 ho5 hm5
      have HT := Lib.hid hT
      have HA := Lib.hid hA
      have HO := Lib.hid hO
      have hcs := HK12.out _ _ ho4 ho5
      clear HFIN HWC HM3 HK11 HK12 hq hkk hT hA hO hr4 ho4 ho5 hm5 hcut
      obtain ⟨y0, y1, y2, y3, y4, y5⟩ := hcs
      obtain ⟨a', c', hlk, _, _⟩ := HT.out.look_row hkx
      rw [← HMM2.out] at hlk
      have hq : ∀ q, (Instr.lookup 48 (.map (some mr)) (.agg #[.int .i64 e.key.k, .string e.key.s, .int .i64 e.key.n]) false).run Try.prog (World.drewN _ q) = .ok (.slice a' m2 c') (World.drewN _ q) := fun q => hlk _ (ownsMap_only HT.out.rkm (Only.drewN (fun _ => False) _ q) (fun e => e))
      clear hlk
      go_upto_region 9 with fail
      go_cut [57] (fun s57 wx => s57 = .bool ((m2 : Int) == 0) ∧ Hid (TabI b mr mi (N + 1) (A ++ C) lo hi (setK ks e.key (a, m2, c)) ao cap (nr + 1) ni (Dr.put (keyK e.key) (.held (a, m2, c))) (Di.del (keyN e.id)) wx ∧ Only (Ixy B w0) w0 wx ∧ wx.cell? ⟨bt, 1, none⟩ = some (.int .i64 e.key.k) ∧ wx.cell? ⟨bt, 2, none⟩ = some (.string e.key.s) ∧ wx.cell? ⟨bt, 3, none⟩ = some (.int .i64 e.key.n)))
      case first =>
        have HY := Lib.hid (And.intro y2 (And.intro y3 y4))
        go_quiet (fail)
        go_wp2_with fail
        go_meet
        exact ⟨rfl, Lib.hid ⟨HT.out.later (Only.drewN _ _ _), HO.out.same (Only.drewN _ _ _), by simpa using HY.out.1, by simpa using HY.out.2.1, by simpa using HY.out.2.2⟩⟩
      case rest =>
        obtain ⟨rfl, hC⟩ := hcut
        obtain ⟨hT, hO, z1, z2, z3⟩ := hC.out
        have HT2 := Lib.hid hT
        have HO2 := Lib.hid hO
        clear hq hT hO hC y0 y1 y2 y3 y4 y5
        obtain ⟨b0, b1, b2, b3, b4⟩ := HT2.out.cells
        by_cases hz : m2 = 0
        · have hz' : ((m2 : Int) == 0) = true := by simp [hz]
          have HZ := Lib.hid hz
          clear hz
          rw [hz']
          go_upto_region 10 with fail
          go_still_tail 6, (by kernel_rfl)
          change wpList _ _ _ _ _ wc.drew
          have HT3 := Lib.hid (HT2.out.later (Only.drew (fun _ => False) wc))
          have HO3 := Lib.hid (HO2.out.same (Only.drew (Ixy B w0) wc))
          clear HT2 HO2 z1 z2 z3 b0 b1 b2 b3 b4
          generalize wc.drew = w10 at *
          have hkk := keyOfK hkx
          simp only [kyV] at hkk
          have hown := HT3.out.rkm
          go_wp2_with (first
            | (at_delete; refine wpList_delete_own _ rfl _ _ 48 32 rfl 51 keyedK Try.underlying48 hdR mr (nr + 1) _ rfl hown _ _ rfl hkk ?_; intro w11 hown11 hturn11)
            | fail)
          go_ret
          have hO11 : Only (· = mr) w10 w11 := Only.turned hturn11
          have h0 : cls e.key (A ++ C) = [] := List.eq_nil_of_length_eq_zero (by rw [← HMM2.out]; exact HZ.out)
          have ir : Ixy B w0 mr := ⟨HAB.out.mr, .inr (.inr (by obtain ⟨es, cl, hb, _⟩ := HH.out.rkm; exact ⟨es, cl, hb⟩))⟩
          exact ⟨rfl, ⟨mr, mi, _, ao, cap, nr + 1, ni, _, _, HT3.out.forget hkx h0 hO11 hown11, ⟨HA.out.b, HA.out.mr, HA.out.mi, HA.out.row, fun p hp => HA.out.rows p (mem_delK.1 hp).1⟩⟩, HO3.out.trans hO11 (fun k _ e => by rw [e]; exact ir)⟩
        · have hz' : ((m2 : Int) == 0) = false := by simp [hz]
          clear hz
          rw [hz']
          go_wp2_with fail
          go_ret
          exact ⟨rfl, ⟨mr, mi, _, ao, cap, nr + 1, ni, _, _, HT2.out, HA.out⟩, HO2.out⟩
end
end Go.Proofs.Ythgjedcelcanbaa.idx
