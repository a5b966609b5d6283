/- Clauses by generations: a clause is killed. -/
import Derived.Test.YthfilpacmllhpabBas9
namespace Go.Proofs.Ythfilpacmllhpab.bases
set_option maxRecDepth 100000
open Go.RowKit Go.Proofs.Ythfilpacmllhpab.own Go.Lib Go.Maps Go.WideMaps Go.Proofs.Ythfilpacmllhpab.idx Go.Proofs.Ythfilpacmllhpab.terms
section
variable {b pm N : Nat} {sl : List Sl} {ps A C : List Pc} {p p' : Pc} {lim gen low us : Int} {so : Option Addr} {sc np : Nat} {Dp : D3} {w w' W W' : World}
/-- A slot alone has turned. -/
theorem BK.marked (h : BK b pm N sl ps lim gen low us so sc np Dp W) {i : Nat} {x : Sl} (hx : 0 < x.ad) (o : Only (RowAt so) W W') (hr : RowS so sc (sl.set i x) W') : BK b pm N (sl.set i x) ps lim gen low us so sc np Dp W' := by
  obtain ⟨k1, k2, k3, k4⟩ := h.kinds
  refine { h with box := by rw [List.length_set]; exact h.box.only o k1, row := hr, pmap := ownsMap_only h.pmap o k3, pds := fun p hp => (h.pds p hp).only o (k4 p hp).2.1 (fun k hk e => (k4 p hp).2.2.2.2.1 k e hk), used := fun y hy => ?_, nums := by have := h.nums; rw [List.length_set]; omega }
  rcases List.mem_or_eq_of_mem_set hy with hy | rfl
  · exact h.used y hy
  · exact hx
theorem BK.slot (h : BK b pm N sl ps lim gen low us so sc np Dp W) {i : Nat} {s : Sl} (hs : sl[i]? = some s) : ∃ g, so = some ⟨g, 0, none⟩ ∧ g < W.heap.size ∧ W.cell? ⟨g, i * 11, none⟩ = some (.string s.nm.s) ∧ W.cell? ⟨g, i * 11 + 1, none⟩ = some (.int .i64 s.nm.a) ∧ W.cell? ⟨g, i * 11 + 10, none⟩ = some (.int .i64 s.ki) ∧ W.frozen? ⟨g, i * 11 + 10, none⟩ = false := by
  obtain ⟨g, rfl, _, hc⟩ := h.row.at liesS i s hs
  exact ⟨g, rfl, (h.row.head _ rfl).2.2, (hc 0 (by decide)).1, (hc 1 (by decide)).1, (hc 10 (by decide)).1, (hc 10 (by decide)).2⟩
theorem rel_kill {i : Nat} {s x : Sl} (hi : InsP sl (A ++ p :: C)) (ho : OutsP sl (A ++ p :: C)) (hs : sl[i]? = some s) (hx : x.nm = s.nm) (hp : p'.nm = p.nm) (hL : p'.st = p.st) : InsP (sl.set i x) (A ++ p' :: C) ∧ OutsP (sl.set i x) (A ++ p' :: C) := by
  have hlt : i < sl.length := (List.getElem?_eq_some_iff.1 hs).1
  have hget : ∀ (j : Nat) (y : Sl), sl[j]? = some y → ∃ z, (sl.set i x)[j]? = some z ∧ z.nm = y.nm := fun j y hy => by
    by_cases e : i = j
    · subst e
      rw [hs] at hy
      cases hy
      exact ⟨x, by simp [hlt], hx⟩
    · exact ⟨y, by rw [List.getElem?_set_ne e]; exact hy, rfl⟩
  have hback : ∀ (j : Nat) (z : Sl), (sl.set i x)[j]? = some z → ∃ y, sl[j]? = some y ∧ z.nm = y.nm := fun j z hz => by
    by_cases e : i = j
    · subst e
      rw [List.getElem?_set_self hlt] at hz
      cases hz
      exact ⟨s, hs, hx⟩
    · rw [List.getElem?_set_ne e] at hz
      exact ⟨z, hz, rfl⟩
  refine ⟨fun j z hz => ?_, fun q hq e he => ?_⟩
  · obtain ⟨y, hy, h1⟩ := hback j z hz
    obtain ⟨q, hq, h2, h3⟩ := hi j y hy
    rcases List.mem_append.1 hq with hq | hq
    · exact ⟨q, by simp [hq], by rw [h1, h2], h3⟩
    · rcases List.mem_cons.1 hq with rfl | hq
      · exact ⟨p', by simp, by rw [hp, h1, h2], by rw [hL]; exact h3⟩
      · exact ⟨q, by simp [hq], by rw [h1, h2], h3⟩
  · have hold : ∀ {q : Pc} {e : En}, q ∈ A ++ p :: C → e ∈ q.st.L → ∃ (j : Nat) (z : Sl), e.id = j ∧ (sl.set i x)[j]? = some z ∧ z.nm = q.nm := fun {q e} hq he => by
      obtain ⟨j, y, h1, h2, h3⟩ := ho q hq e he
      obtain ⟨z, h4, h5⟩ := hget j y h2
      exact ⟨j, z, h1, h4, by rw [h5, h3]⟩
    rcases List.mem_append.1 hq with hq | hq
    · exact hold (by simp [hq]) he
    · rcases List.mem_cons.1 hq with rfl | hq
      · rw [hL] at he
        obtain ⟨j, z, h1, h2, h3⟩ := hold (q := p) (by simp) he
        exact ⟨j, z, h1, h2, by rw [h3, hp]⟩
      · exact hold (by simp [hq]) he
set_option maxHeartbeats 8000000 in
theorem kill_yes (h : BI b pm N sl (A ++ p :: C) lim gen low so sc np Dp w) {i : Nat} {s : Sl} (hs : sl[i]? = some s) (hnm : p.nm = s.nm) (hki : ¬ s.ki > 0) (hN : N + 1 ≤ 100000) :
    Calls Try.prog 10 #[.pointer (some ⟨b, 0, none⟩), .int .i64 i] w fun e w' => e = .returned (.int .i64 0) ∧ BI b pm (N + 1) (sl.set i { s with ki := gen + 1 }) (A ++ { p with lv := p.lv - 1 } :: C) lim (gen + 1) low so sc np Dp w' ∧ Only (BaseS b pm so (A ++ p :: C)) w w' := by
  have HC := Lib.hid (closed_no h)
  have HH := Lib.hid (has_yes h hs)
  have HI := Lib.hid h
  obtain ⟨c0, c1, c2, c3, c4, c5⟩ := h.cells
  obtain ⟨g0, hso, hg, _, _, _, _, _, _, _, _, _, d9, d10, df⟩ := h.slot hs
  have hi : i < sl.length := (List.getElem?_eq_some_iff.1 hs).1
  have h0' : (0 : Int) ≤ (i : Int) := by omega
  have h1 : (i : Int) < (sl.length : Int) := by omega
  have f3 := h.k.box.free 3
  have hgw : IntKind.i64.wrap (gen + 1) = gen + 1 := by have := h.nums; rw [IntWalk.i64_in _ (by omega)]
  have hpm : p ∈ A ++ p :: C := by simp
  obtain ⟨W1, hW1⟩ : ∃ W1, W1 = w.setCell ⟨b, 3, none⟩ (.int .i64 (gen + 1)) := ⟨_, rfl⟩
  have HK1 : Hid (BK b pm (N + 1) sl (A ++ p :: C) lim (gen + 1) low sl.length so sc np Dp W1 ∧ Only (· = b) w W1) := Lib.hid (by
    have h1 := h.k.box.setGen (gen + 1)
    rw [← hW1] at h1
    exact ⟨(h.k.more hN).reboxed h1.2 h1.1 (by have := h.nums; omega), h1.2⟩)
  have HSI := Lib.hid hs
  have HNM := Lib.hid hnm
  have HAD : Hid (0 < s.ad) := Lib.hid (h.used s (List.mem_of_getElem? hs))
  have HRE := Lib.hid (rel_kill (p' := { p with lv := p.lv - 1 }) h.ins h.outs hs (x := { s with ki := gen + 1 }) rfl rfl rfl)
  clear h hs hpm hnm
  go_enter Try.func10, Try.ntmps10
  go_wp2_with fail
  refine HC.out.mono ?_
  rintro e w1 ⟨rfl, rfl⟩
  go_wp2_with fail
  refine HH.out.mono ?_
  rintro e w1 ⟨rfl, rfl⟩
  go_upto_region 6 with fail
  rw [← hW1]
  clear hW1 c0 c1 c2 c3 c4 c5 d9 d10 df f3 hgw
  subst hso
  obtain ⟨c0, c1, c2, c3, c4, c5⟩ := HK1.out.1.box.cells
  have oD : Only (fun _ => False) W1 W1.drew := Only.drew _ _
  obtain ⟨g', e', _, _, _, d10, df⟩ := HK1.out.1.slot HSI.out
  cases e'
  go_still_tail 11, (by kernel_rfl)
  change wpList _ _ _ _ _ W1.drew
  have HK2 := Lib.hid (HK1.out.1.later oD)
  have HO2 : Hid (Only (· = b) w1 W1.drew) := Lib.hid (HK1.out.2.same (oD.mono (fun _ _ e => e.elim)))
  clear c0 c1 c2 c3 c4 c5 d10 df oD
  generalize W1.drew = W2 at *
  obtain ⟨c0, c1, c2, c3, c4, c5⟩ := HK2.out.box.cells
  obtain ⟨g', e', _, _, _, d10, df⟩ := HK2.out.slot HSI.out
  cases e'
  obtain ⟨W3, hW3⟩ : ∃ W3, W3 = W2.setCell ⟨g0, i * 11 + 10, none⟩ (.int .i64 (gen + 1)) := ⟨_, rfl⟩
  have HK3 : Hid (BK b pm (N + 1) (sl.set i { s with ki := gen + 1 }) (A ++ p :: C) lim (gen + 1) low sl.length (some ⟨g0, 0, none⟩) sc np Dp W3 ∧ Only (· = g0) W2 W3) := Lib.hid (by
    have h1 := HK2.out.row.stored liesS i 10 s { s with ki := gen + 1 } (.int .i64 (gen + 1)) HSI.out (by decide) rfl
    rw [← hW3] at h1
    exact ⟨HK2.out.marked HAD.out (h1.2.mono (fun k _ e => ⟨_, rfl, e⟩)) h1.1, h1.2⟩)
  go_upto_region 7 with fail
  rw [← hW3]
  clear hW3 c0 c1 c2 c3 c4 c5 d10 df
  have HSJ : Hid ((sl.set i { s with ki := gen + 1 })[i]? = some { s with ki := gen + 1 }) := Lib.hid (by simp [hi])
  have HPM : Hid (p ∈ A ++ p :: C) := Lib.hid (by simp)
  have HPX : Hid (∀ W, Only (fun _ => False) W3 W → W.heap[p.pb]? = some (.cells #[.pointer (some ⟨p.tb, 0, none⟩), .int .i64 p.lv] 88 (0, 0))) := Lib.hid (fun W o => ((HK3.out.1.later o).pds p HPM.out).box)
  have hlk : (Instr.lookup 77 (.map (some pm)) (.agg #[.string s.nm.s, .int .i64 s.nm.a]) false).run Try.prog W3.drew = .ok (.pointer (some ⟨p.pb, 0, none⟩)) W3.drew := by
    have hq := HK3.out.1.later (Only.drew (fun _ => False) W3)
    have := look_ns hq.pmap hq.nmap hq.nok (hq.nok.ok (p.nm, p.pb) (List.mem_map.2 ⟨p, HPM.out, rfl⟩))
    rw [nsF_mem hq.nok (List.mem_map.2 ⟨p, HPM.out, rfl⟩)] at this
    rw [← HNM.out]
    exact this
  have HLN : Hid ((sl.set i { s with ki := gen + 1 }).length = sl.length) := Lib.hid (List.length_set ..)
  have HLV : Hid (-((N + 1 : Nat) : Int) ≤ p.lv ∧ p.lv ≤ ((N + 1 : Nat) : Int)) := Lib.hid (HK1.out.1.lvs p HPM.out)
  obtain ⟨c0, c1, c2, c3, c4, c5⟩ := HK3.out.1.box.cells
  rw [HLN.out] at c1
  obtain ⟨g', e', _, d0, d1, _, _⟩ := HK3.out.1.slot HSJ.out
  cases e'
  have hpx := HPX.out W3 (Only.refl _ _)
  have q1 := cell_of_blk hpx 1
  simp only [List.getElem?_toArray, List.getElem?_cons_zero, List.getElem?_cons_succ] at q1
  have qf := free_of_blk hpx 1
  clear hpx
  have hlw : IntKind.i64.wrap (p.lv - 1) = p.lv - 1 := by have := HLV.out; rw [IntWalk.i64_in _ (by omega)]
  go_still_tail 19, (by kernel_rfl)
  change wpList _ _ _ _ _ W3.drew
  have oD : Only (fun _ => False) W3 W3.drew := Only.drew _ _
  have HK4 := Lib.hid (HK3.out.1.later oD)
  have HO4 : Hid (Only (BaseS b pm (some ⟨g0, 0, none⟩) (A ++ p :: C)) w1 W3.drew) := Lib.hid (((HO2.out.mono (fun k _ e => .inl e)).same (HK3.out.2.mono (fun k _ e => .inr (.inl ⟨_, rfl, e⟩)))).same (oD.mono (fun _ _ e => e.elim)))
  have hpx := HPX.out W3.drew oD
  clear c0 c1 c2 c3 c4 c5 d0 d1 q1 qf hlk oD
  generalize W3.drew = W4 at *
  have q1 := cell_of_blk hpx 1
  simp only [List.getElem?_toArray, List.getElem?_cons_zero, List.getElem?_cons_succ] at q1
  have qf := free_of_blk hpx 1
  clear hpx
  obtain ⟨W5, hW5⟩ : ∃ W5, W5 = W4.setCell ⟨p.pb, 1, none⟩ (.int .i64 (p.lv - 1)) := ⟨_, rfl⟩
  have HK5 : Hid (BK b pm (N + 1) (sl.set i { s with ki := gen + 1 }) (A ++ { p with lv := p.lv - 1 } :: C) lim (gen + 1) low sl.length (some ⟨g0, 0, none⟩) sc np Dp W5 ∧ Only (· = p.pb) W4 W5) := Lib.hid (by
    have h1 := HK4.out.counted (lv' := p.lv - 1) (by have h1 := HI.out.lvs p HPM.out; omega)
    rw [hW5]
    exact h1)
  go_wp2_with fail
  rw [← hW5]
  clear hW5 q1 qf
  go_ret
  have hBK := HK5.out.1
  rw [show (sl.length : Int) = ((sl.set i { s with ki := gen + 1 }).length : Int) by rw [List.length_set]] at hBK
  refine ⟨rfl, hBK.i (by have := HI.out.lown; rw [List.length_set]; exact this) HRE.out.1 HRE.out.2, HO4.out.same (HK5.out.2.mono (fun k _ e => .inr (.inr (.inr ⟨p, HPM.out, .inl e⟩))))⟩
end
end Go.Proofs.Ythfilpacmllhpab.bases
