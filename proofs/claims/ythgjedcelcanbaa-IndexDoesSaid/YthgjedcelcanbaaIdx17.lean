/- Selection by keys: the call Add, of a new entry. -/
import Derived.Test.YthgjedcelcanbaaIdx16
namespace Go.Proofs.Ythgjedcelcanbaa.idx
set_option maxRecDepth 100000
open Go.RowKit Go.Proofs.Ythgjedcelcanbaa.own Go.Lib Go.Maps Go.WideMaps
theorem row_kind {ao : Option Addr} {cap : Nat} {xs : List En} {w : World} (h : RowE ao cap xs w) {k : Nat} (hk : RowAt ao k) : ∃ cs, w.heap[k]? = some (.cells cs 60 (0, 0)) := by
  obtain ⟨g, hg, e⟩ := hk
  rcases h.2 with ⟨h1, _⟩ | ⟨g', cap', cur, hv, _, hbb, _⟩
  · simp only [Value.slice.injEq] at h1
    rw [h1.1] at hg; cases hg
  · simp only [Value.slice.injEq] at hv
    rw [hv.1] at hg
    cases hg
    exact ⟨cur, by rw [e]; exact hbb⟩
/-- The entry that is put in. -/
def newE (i : Int) (k : Ky) (f : Bool) (lo hi : Int) : En := ⟨i, plainF k, if f = true then lo else hi⟩
theorem plain_ok {k : Ky} (h : k.Ok) : (plainF k).Ok ∧ ((plainF k).k = 0 → plainF k = zK) := by
  unfold plainF
  split
  · exact ⟨zK_ok, fun _ => rfl⟩
  · exact ⟨h, fun e => absurd e (by assumption)⟩
section
variable {b mr mi N : Nat} {L : List En} {lo hi : Int} {ks : Ks} {ao : Option Addr} {cap nr ni : Nat} {Dr : D2} {Di : D1} {w w' : World}
set_option maxHeartbeats 16000000 in
theorem add_new {B : Nat} (x : En) (lo' hi2 : Int) (h : TabI b mr mi N L lo hi ks ao cap nr ni Dr Di w) (hab : Ab B b mr mi ao ks) (hN : N + 1 ≤ 1000000) (i : Int) (hi' : Fit i) (k : Ky) (hko : k.Ok) (f : Bool) (hx : idF i L = none) (hn : L.length < 4096)
    (hx1 : x.id = i) (hx2 : x.key = plainF k) (hx3 : x.pl = if f = true then lo else hi) (hlo : lo' = if f = true then lo - 1 else lo) (hhi : hi2 = if f = true then hi else hi + 1) :
    Calls Try.prog 14 #[.pointer (some ⟨b, 0, none⟩), .int .i64 i, kyV k, .bool f] w fun e w' => e = .returned (.int .i64 0) ∧ TabB B b (N + 1) (insF f x L) lo' hi2 w' ∧ Only (Ixy B w) w w' := by
  have HAB := Lib.hid hab
  clear hab
  obtain ⟨E, hE⟩ : ∃ E, E = w.alloc (.cells #[.int .i64 k.k, .string k.s, .int .i64 k.n] 32) := ⟨_, rfl⟩
  have hxk : Three w.heap.size k E := by unfold Three; rw [hE]; exact heap_alloc_new _ _
  have ho : Only (fun _ => False) w E := by rw [hE]; exact Only.alloc _ _ _
  have HO := Lib.hid ho
  have HCL := Lib.hid (closed_no (h.later ho))
  have hlk := (h.later ho).look_id hi'
  rw [hx] at hlk
  simp only [Option.getD_none, Option.isSome_none, zE] at hlk
  obtain ⟨E2, hE2⟩ : ∃ E2, E2 = E.alloc (.cells #[.int .i64 0, .int .i64 0, .string ⟨#[]⟩, .int .i64 0, .int .i64 0] 60) := ⟨_, rfl⟩
  have o2 : Only (fun _ => False) w E2 := by rw [hE2]; exact ho.same (Only.alloc _ _ _)
  have HO2 := Lib.hid o2
  have HT2 := Lib.hid (h.later o2)
  obtain ⟨c0, c1, c2, c3, c4⟩ := (h.later ho).cells
  obtain ⟨e0, e1, e2, e3, e4⟩ := (h.later o2).cells
  obtain ⟨x0, x1, x2⟩ := (hxk.only (S := fun _ => False) (by rw [hE2]; exact Only.alloc _ _ _) (fun e => e) : Three w.heap.size k E2).cells
  have hlen := (h.later o2).idm.len Try.underlying49
  rw [h.idl.size] at hlen
  have hge : ¬ (L.length : Int) ≥ 4096 := by omega
  have HH := Lib.hid h
  have HIX := Lib.hid hx
  have HLN := Lib.hid hn
  have HKO := Lib.hid hko
  have HNN := Lib.hid hN
  have HFI := Lib.hid hi'
  have HPF : Hid (∀ W, Calls Try.prog 28 #[.agg #[.int .i64 k.k, .string k.s, .int .i64 k.n]] W fun e w' => e = .returned (.agg #[.int .i64 x.key.k, .string x.key.s, .int .i64 x.key.n]) ∧ Only (fun _ => False) W w') := Lib.hid (fun W => by rw [hx2]; exact plain_any k W)
  have HPC : Hid (∀ W, TabI b mr mi N L lo hi ks ao cap nr ni Dr Di W → Calls Try.prog 29 #[.pointer (some ⟨b, 0, none⟩), .bool f] W fun e w' => e = .returned (.int .i64 x.pl) ∧ TabI b mr mi (N + 1) L lo' hi2 ks ao cap nr ni Dr Di w' ∧ Only (· = b) W w') := Lib.hid (fun W hT => by rw [hx3, hlo, hhi]; exact hT.placed hN f)
  have HB4 : Hid (lo' < x.pl ∧ x.pl < hi2 ∧ Ends f x L) := Lib.hid (by
    rw [hx3, hlo, hhi]
    have h1 := h.nums
    unfold Ends
    rw [hx3]
    cases f with
    | true => exact ⟨by simp; omega, by simp; omega, fun y hy => h.pl.low y hy⟩
    | false => exact ⟨by simp; omega, by simp; omega, fun y hy => h.pl.high y hy⟩)
  have HX2 := Lib.hid hx2
  subst hx1
  obtain ⟨n, hnl⟩ : ∃ n, n = L.length := ⟨_, rfl⟩
  have HNL := Lib.hid hnl
  rw [← hnl] at c0 e0 hlen hge
  clear h ho hx hn hko hN o2 hxk hi' hnl hx2 hx3 hlo hhi
  go_enter Try.func14, Try.ntmps14
  go_upto_region 1 with fail
  rw [← hE]
  clear hE
  go_wp2_with fail
  refine HCL.out.mono ?_
  rintro e w1 ⟨rfl, rfl⟩
  go_upto_region 6 with fail
  rw [← hE2]
  clear hE2 c0 c1 c2 c3 c4 hlk
  go_wp2_with fail
  refine (HPF.out _).mono ?_
  rintro e w3 ⟨rfl, ho3⟩
  have HT3 := Lib.hid (HT2.out.later ho3)
  have HO3 := Lib.hid (HO2.out.same ho3)
  clear ho3 e0 e1 e2 e3 e4 x0 x1 x2 hlen
  go_wp2_with fail
  refine (HPC.out _ HT3.out).mono ?_
  rintro e w4 ⟨rfl, hT4, ho4⟩
  obtain ⟨w5, hw5⟩ : ∃ w5, w5 = w4.alloc (.cells #[.int .i64 x.id, .int .i64 x.key.k, .string x.key.s, .int .i64 x.key.n, .int .i64 x.pl] 60) := ⟨_, rfl⟩
  have o45 : Only (fun _ => False) w4 w5 := by rw [hw5]; exact Only.alloc _ _ _
  have HT5 : Hid (TabI b mr mi (N + 1) L lo' hi2 ks ao cap nr ni Dr Di w5) := Lib.hid (hT4.later o45)
  have HE5 : Hid (Five w4.heap.size x w5) := Lib.hid (by rw [hw5]; exact Five.new w4 x)
  have HO5 : Hid (Only (· = b) w w5) := Lib.hid (((HO3.out.no _).same ho4).same (o45.no _))
  have HBT : Hid (w.heap.size ≤ w4.heap.size) := Lib.hid (by have := HO3.out.size; have := ho4.size; omega)
  clear hT4 ho4 o45
  go_upto_region 9 with fail
  rw [← hw5]
  clear hw5
  generalize w4.heap.size = bt at *
  obtain ⟨t0, t1, t2, t3, t4⟩ := HT5.out.cells
  obtain ⟨v0, v1, v2, v3, v4⟩ := HE5.out.cells
  go_still_tail 6, (by kernel_rfl)
  change wpList _ _ _ _ _ w5.drew
  have HT6 : Hid (TabI b mr mi (N + 1) L lo' hi2 ks ao cap nr ni Dr Di w5.drew) := Lib.hid (HT5.out.later (Only.drew _ _))
  have HE6 : Hid (Five bt x w5.drew) := Lib.hid (HE5.out.only (Only.drew (fun _ => False) _) (fun e => e))
  have HO6 : Hid (Only (· = b) w w5.drew) := Lib.hid (HO5.out.same (Only.drew _ _))
  clear t0 t1 t2 t3 t4 v0 v1 v2 v3 v4
  generalize w5.drew = w6 at *
  have hni : ni < maxLen := by have := HT6.out.nums; unfold maxLen; omega
  have hkn := keyOfN HFI.out
  have hown6 := HT6.out.idm
  go_wp2_with (first
    | (at_mapUpdate; refine wpList_mapUpdate_in _ rfl _ _ _ 49 rfl 3 60 keyedI Try.underlying49 enR mi ni Di rfl hown6 hni _ _ _ rfl rfl hkn _ [] (enR_mk x) ?_; intro w7 hown7 hturn7)
    | fail)
  have HO7 : Hid (Only (· = mi) w6 w7) := Lib.hid (Only.turned hturn7)
  have HI7 := Lib.hid hown7
  have HAP : Hid (∀ k, RowAt ao k → k < w.heap.size ∧ k ≠ b ∧ k ≠ mi ∧ k ≠ mr) := Lib.hid (fun k hk => by
    refine ⟨?_, fun e => row_apart HH.out.row HH.out.box (by decide) (e ▸ hk), fun e => row_ne_map HH.out.row HH.out.idm (e ▸ hk), fun e => row_ne_map HH.out.row HH.out.rkm (e ▸ hk)⟩
    obtain ⟨g, hg, e⟩ := hk
    rw [e]; exact (HH.out.row.head g hg).2.2)
  have HBM : Hid (b ≠ mi ∧ b ≠ mr ∧ bt ≠ mi ∧ bt ≠ mr ∧ bt ≠ b) := Lib.hid (by
    obtain ⟨_, _, hmi0, _⟩ := id HT6.out.idm
    obtain ⟨_, _, hmr0, _⟩ := id HT6.out.rkm
    have hb := HT6.out.box
    have he := HE6.out
    unfold Five at he
    refine ⟨fun e => ?_, fun e => ?_, fun e => ?_, fun e => ?_, fun e => ?_⟩
    · rw [e, hmi0] at hb; cases hb
    · rw [e, hmr0] at hb; cases hb
    · rw [e, hmi0] at he; cases he
    · rw [e, hmr0] at he; cases he
    · have := lt_of_block HH.out.box
      have := HBT.out
      omega)
  have HB7 : Hid (∀ W, Only (RowAt ao) w7 W → W.heap[b]? = some (.cells #[.slice ao n cap, .map (some mr), .map (some mi), .int .i64 lo', .int .i64 hi2] 53 (0, 0)) ∧ Five bt x W ∧ W.ownsMap Try.prog 32 hdR mr nr Dr) := Lib.hid (fun W o => by
    have hb6 := lt_of_block HT6.out.box
    have hbx : w7.heap[b]? = _ := (HO7.out.block b hb6 HBM.out.1).trans HT6.out.box
    have he7 : Five bt x w7 := HE6.out.only HO7.out (fun e => HBM.out.2.2.1 e)
    have hm7 := ownsMap_only HT6.out.rkm HO7.out HT6.out.apm
    rw [HNL.out]
    refine ⟨(o.block b (lt_of_block hbx) (fun e => (HAP.out b e).2.1 rfl)).trans hbx, he7.only o (fun e => by have := (HAP.out bt e).1; have := HBT.out; omega), ownsMap_only hm7 o (fun e => (HAP.out mr e).2.2.2 rfl)⟩)
  have HR7 : Hid (RowE ao cap L w7) := Lib.hid (HT6.out.row.only HO7.out (fun g hg => not_at (row_ne_map HT6.out.row HT6.out.idm) g hg))
  have HWA : Hid (∀ W, Only (fun _ => False) w7 W → Calls Try.prog 30 #[.slice ao n cap, .agg #[.int .i64 x.id, .int .i64 x.key.k, .string x.key.s, .int .i64 x.key.n, .int .i64 x.pl]] W (AnsRow ao (insF f x L) W)) := Lib.hid (fun W o => by
    rw [HNL.out]
    exact with_any f ao cap L x W (HR7.out.later o) HT6.out.pl.rises (by have := HLN.out; omega) HB4.out.2.2)
  have HIL : Hid ((insF f x L).length = n + 1) := Lib.hid (by rw [ins_len, HNL.out])
  clear hown6 hown7 hturn7 hkn hni
  go_upto_region 10 with fail
  simp only [Act.put]
  go_cut [49] (fun s49 wx => ∃ ao2 cap2, s49 = .slice ao2 (n + 1) cap2 ∧ Hid (∃ W2, Only (RowAt ao) w7 W2 ∧ RowE ao2 cap2 (insF f x L) W2 ∧ NewRow w7.heap.size ao ao2 ∧ wx = W2.setCell ⟨b, 0, none⟩ (.slice ao2 (n + 1) cap2)))
  case first =>
    have q0 := HB7.out w7 (Only.refl _ _)
    have p0 := cell_of_blk q0.1 0
    simp only [List.getElem?_toArray, List.getElem?_cons_zero] at p0
    obtain ⟨v0, v1, v2, v3, v4⟩ := q0.2.1.cells
    clear q0
    go_region_with (go_at_call 30; refine (HWA.out _ (by first | exact Only.drew _ _ | exact Only.refl _ _)).mono ?_; intro r u hu; obtain ⟨ao2, cap2, rfl, hr2, ho2, hn2⟩ := AnsRow.from hu (by first | exact Only.drew (fun _ => False) _ | exact Only.refl (fun _ => False) _); rw [HIL.out]; have HA2 : Hid (Only (RowAt ao) w7 u ∧ RowE ao2 cap2 (insF f x L) u ∧ NewRow w7.heap.size ao ao2) := Lib.hid ⟨ho2, hr2, hn2⟩; have q1 := HB7.out u HA2.out.1; have p1 := cell_of_blk q1.1 0; simp only [List.getElem?_toArray, List.getElem?_cons_zero] at p1; have f1 : u.frozen? ⟨b, 0, none⟩ = false := free_of_blk q1.1 0; clear hu hr2 ho2 hn2 q1)
    all_goals
      go_wp2_with fail
      go_meet
      exact ⟨_, _, rfl, Lib.hid ⟨_, HA2.out.1, HA2.out.2.1, HA2.out.2.2, rfl⟩⟩
  case rest =>
    obtain ⟨ao2, cap2, rfl, hC⟩ := hcut
    obtain ⟨W2, ho2, hr2, hn2, hw3⟩ := hC.out
    obtain ⟨box2, he2, hm2⟩ := HB7.out W2 ho2
    have o3 : Only (· = b) W2 wc := by rw [hw3]; exact Only.setCell (S := (· = b)) (p := ⟨b, 0, none⟩) W2 rfl _
    have box3 : wc.heap[b]? = some (.cells #[.slice ao2 (n + 1) cap2, .map (some mr), .map (some mi), .int .i64 lo', .int .i64 hi2] 53 (0, 0)) := by rw [hw3, blk_set box2 0]; rfl
    have he3 : Five bt x wc := he2.only o3 (fun e => HBM.out.2.2.2.2 e)
    have hm3 : wc.ownsMap Try.prog 32 hdR mr nr Dr := ownsMap_only hm2 o3 (fun e => HBM.out.2.1 e.symm)
    have hkx : x.key.Ok := by rw [HX2.out]; exact (plain_ok HKO.out).1
    obtain ⟨a, c, hlk, hrow6, hat⟩ := HT6.out.look_row hkx
    have hra : ∀ k, RowAt a k → k < w.heap.size ∧ k ≠ b ∧ k ≠ mi ∧ k ≠ mr ∧ Ixy B w k := fun k hk => by
      rcases hat with ⟨rfl, _, _⟩ | hat
      · obtain ⟨g, hg, _⟩ := hk; cases hg
      · have hr := (HH.out.rows _ hat).1
        refine ⟨?_, fun e => row_apart hr HH.out.box (by decide) (e ▸ hk), fun e => row_ne_map hr HH.out.idm (e ▸ hk), fun e => row_ne_map hr HH.out.rkm (e ▸ hk), .intro (HAB.out.rows _ hat k hk) (.inr (.inl (row_kind hr hk)))⟩
        obtain ⟨g, hg, e⟩ := hk
        rw [e]; exact (hr.head g hg).2.2
    have haa : ∀ k, RowAt a k → ¬ RowAt ao k := fun k hk hk' => by
      rcases hat with ⟨rfl, _, _⟩ | hat
      · obtain ⟨g, hg, _⟩ := hk; cases hg
      · obtain ⟨g, hg, e⟩ := hk
        obtain ⟨g', hg', e'⟩ := hk'
        exact HT6.out.ap1 _ hat g' g hg' hg (by omega)
    have hrow3 : RowE a c (cls x.key L) wc := ((hrow6.only HO7.out (fun g hg e => (hra _ ⟨g, hg, rfl⟩).2.2.1 e)).only ho2 (fun g hg e => haa _ ⟨g, hg, rfl⟩ e)).only o3 (fun g hg e => (hra _ ⟨g, hg, rfl⟩).2.1 e)
    have HRA := Lib.hid hra
    have HM3 : Hid (∀ u, Only (RowAt a) wc u → u.ownsMap Try.prog 32 hdR mr nr Dr) := Lib.hid (fun u o => ownsMap_only hm3 o (fun e => (HRA.out mr e).2.2.2.1 rfl))
    have HWC : Hid (∀ W, Only (fun _ => False) wc W → Calls Try.prog 30 #[.slice a (cls x.key L).length c, .agg #[.int .i64 x.id, .int .i64 x.key.k, .string x.key.s, .int .i64 x.key.n, .int .i64 x.pl]] W (AnsRow a (insF f x (cls x.key L)) W)) := Lib.hid (fun W o => with_any f a c _ x W (hrow3.later o) (cls_rises HT6.out.pl.rises) (by have := cls_len x.key L; have := HLN.out; omega) (HB4.out.2.2.sub (fun y hy => (mem_cls.1 hy).1)))
    have HK11 : Hid (∀ W, Only (RowAt a) wc W → W.cell? ⟨b, 1, none⟩ = some (.map (some mr)) ∧ W.cell? ⟨bt, 0, none⟩ = some (.int .i64 x.id) ∧ W.cell? ⟨bt, 1, none⟩ = some (.int .i64 x.key.k) ∧ W.cell? ⟨bt, 2, none⟩ = some (.string x.key.s) ∧ W.cell? ⟨bt, 3, none⟩ = some (.int .i64 x.key.n) ∧ W.cell? ⟨bt, 4, none⟩ = some (.int .i64 x.pl)) := Lib.hid (fun W o => ⟨by
      rw [cell_of_blk ((o.block b (lt_of_block box3) (fun e => (HRA.out b e).2.1 rfl)).trans box3)]; rfl, (he3.only o (fun e => by have := (HRA.out bt e).1; have := HBT.out; omega)).cells⟩)
    have HK12 : Hid (∀ u W, Only (RowAt a) wc u → Only (· = mr) u W → W.cell? ⟨b, 1, none⟩ = some (.map (some mr)) ∧ W.cell? ⟨bt, 0, none⟩ = some (.int .i64 x.id) ∧ W.cell? ⟨bt, 1, none⟩ = some (.int .i64 x.key.k) ∧ W.cell? ⟨bt, 2, none⟩ = some (.string x.key.s) ∧ W.cell? ⟨bt, 3, none⟩ = some (.int .i64 x.key.n) ∧ W.cell? ⟨bt, 4, none⟩ = some (.int .i64 x.pl)) := Lib.hid (fun u W o o' => by
      have hbu := (o.block b (lt_of_block box3) (fun e => (HRA.out b e).2.1 rfl)).trans box3
      have heu := he3.only o (fun e => by have := (HRA.out bt e).1; have := HBT.out; omega)
      exact ⟨by rw [cell_of_blk ((o'.block b (lt_of_block hbu) HBM.out.2.1).trans hbu)]; rfl, (heu.only o' (fun e => HBM.out.2.2.2.1 e)).cells⟩)
    have hq := hlk wc.drew (ownsMap_only hm3 (Only.drew (fun _ => False) _) (fun e => e))
    simp only [kyV] at hq
    have hkk := keyOfK hkx
    simp only [kyV] at hkk
    have HFIN : Hid (∀ (u w9 : World) (a' : Option Addr) (c' : Nat), RowE a' c' (insF f x (cls x.key L)) u → Only (RowAt a) wc u → NewRow wc.heap.size a a' → Only (· = mr) u w9 → w9.ownsMap Try.prog 32 hdR mr (nr + 1) (Dr.put (keyK x.key) (.held (a', (insF f x (cls x.key L)).length, c'))) → TabB B b (N + 1) (insF f x L) lo' hi2 w9 ∧ Only (Ixy B w) w w9) := Lib.hid (fun u w9 a' c' hr4 ho4 hn4 ho5 hm5 => by
      have hnum := HH.out.nums
      refine ⟨⟨mr, mi, _, ao2, cap2, nr + 1, ni + 1, _, _, HT6.out.added (a := a) (c := c) ⟨by omega, by omega⟩ ⟨HB4.out.1, HB4.out.2.1⟩ HB4.out.2.2 ⟨hkx, HFI.out, by rw [HX2.out]; exact (plain_ok HKO.out).2⟩ (fun y hy => idF_none HIX.out y hy) HLN.out HO7.out HI7.out ho2 hr2 hn2 o3 (by rw [HIL.out]; exact box3) hrow6 hat ho4 hr4 hn4 ho5 hm5, ?_⟩, ?_⟩
      · have hbl := lt_of_block HH.out.box
        have hB := HAB.out.b
        have s1 := HO6.out.size
        have s2 := HO7.out.size
        have s3 := ho2.size
        have s4 := o3.size
        exact HAB.out.put (by omega) (by omega) hn2 (fun k hk => (HRA.out k hk).2.2.2.2.1) hn4
      have ib : Ixy B w b := ⟨HAB.out.b, .inl ⟨_, HH.out.box⟩⟩
      have ii : Ixy B w mi := ⟨HAB.out.mi, .inr (.inr (by obtain ⟨es, cl, hb, _⟩ := HH.out.idm; exact ⟨es, cl, hb⟩))⟩
      have ir : Ixy B w mr := ⟨HAB.out.mr, .inr (.inr (by obtain ⟨es, cl, hb, _⟩ := HH.out.rkm; exact ⟨es, cl, hb⟩))⟩
      exact (((((HO6.out.mono (S' := Ixy B w) (fun k _ e => by rw [e]; exact ib)).trans HO7.out (fun k _ e => by rw [e]; exact ii)).trans ho2 (fun k _ e => ⟨HAB.out.row k e, .inr (.inl (row_kind HH.out.row e))⟩)).trans o3 (fun k _ e => by rw [e]; exact ib)).trans ho4 (fun k _ e => (HRA.out k e).2.2.2.2)).trans ho5 (fun k _ e => by rw [e]; exact ir))
    have hnr : nr < maxLen := by have := HT6.out.nums; unfold maxLen; omega
    have HLEN := Lib.hid (ins_len f x (cls x.key L))
    clear hw3 hlk hat hra haa hrow6 hrow3 ho2 hr2 hn2 o3 box2 box3 he2 he3 hm2 hm3 hC hkx
    generalize (cls x.key L).length = m at *
    go_wp2_with fail
    go_region_held3 (fun W => W.cell? ⟨b, 1, none⟩ = some (.map (some mr)) ∧ W.cell? ⟨bt, 0, none⟩ = some (.int .i64 x.id) ∧ W.cell? ⟨bt, 1, none⟩ = some (.int .i64 x.key.k) ∧ W.cell? ⟨bt, 2, none⟩ = some (.string x.key.s) ∧ W.cell? ⟨bt, 3, none⟩ = some (.int .i64 x.key.n) ∧ W.cell? ⟨bt, 4, none⟩ = some (.int .i64 x.pl)) (with_reducible first | exact HK12.out _ _ HOu.out HOM.out | exact HK11.out _ HOu.out | exact HK11.out _ (Only.drew _ _)) (first
      | (go_at_call 30; refine (HWC.out _ (Only.drew _ _)).mono ?_; intro r u hu; obtain ⟨a4, c4, rfl, hr4, ho4, hn4⟩ := AnsRow.from hu (Only.drew (fun _ => False) _); have HOu : Hid (Only (RowAt a) wc u) := Lib.hid ho4; have HRu := Lib.hid hr4; have HNu := Lib.hid hn4; obtain ⟨w9, hrun9, hown9, hturn9⟩ := (HM3.out u HOu.out).store keyedK Try.underlying48 hnr hkk (hdR_mk a4 (insF f x (cls x.key L)).length c4); have HOM : Hid (Only (· = mr) u w9) := Lib.hid (Only.turned hturn9); have HMM := Lib.hid hown9; clear hu hr4 ho4 hn4 hown9 hturn9))
    all_goals
      go_wp2_with fail
      go_ret
      exact ⟨rfl, HFIN.out _ _ _ _ HRu.out HOu.out HNu.out HOM.out HMM.out⟩
end
end Go.Proofs.Ythgjedcelcanbaa.idx
