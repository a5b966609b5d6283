/- Clauses by generations: any Add, any Kill, and what is told of elder generations. -/
import Derived.Test.YthfilpacmllhpabBas29
namespace Go.Proofs.Ythfilpacmllhpab.bases
set_option maxRecDepth 100000
open Go.RowKit Go.Proofs.Ythfilpacmllhpab.own Go.Lib Go.Maps Go.WideMaps Go.Proofs.Ythfilpacmllhpab.idx Go.Proofs.Ythfilpacmllhpab.terms
section
variable {b pm N : Nat} {sl : List Sl} {ps A C : List Pc} {p p' : Pc} {lim gen low us : Int} {so : Option Addr} {sc np : Nat} {Dp : D3} {w w' W W' w0 : World} {Q : Nat → Prop}
/-- A clause whose head is none is refused. -/
theorem add_refused (h : BI b pm N sl ps lim gen low so sc np Dp w) (k n : Int) (s : ByteArray) (ao : Option Addr) (m cap : Nat) (go : Option Addr) (gl gc : Nat) (v : Int) (co : Option Addr) (cl cc : Nat) (f : Bool) (hi : indF k s m = none) :
    Calls Try.prog 9 #[.pointer (some ⟨b, 0, none⟩), .agg #[.int .i64 k, .int .i64 n, .string s, .slice ao m cap, .slice go gl gc, .int .i64 v], .slice co cl cc, .bool f] w fun e w' => e = .returned (.tuple #[.int .i64 0, .int .i64 1]) ∧ Only (fun _ => False) w w' := by
  obtain ⟨E, hE⟩ : ∃ E, E = w.alloc (.cells #[.int .i64 k, .int .i64 n, .string s, .slice ao m cap, .slice go gl gc, .int .i64 v] 34) := ⟨_, rfl⟩
  have HX : Hid (Hex w.heap.size (.int .i64 k) (.int .i64 n) (.string s) (.slice ao m cap) (.slice go gl gc) (.int .i64 v) E) := Lib.hid (by rw [hE]; exact heap_alloc_new _ _)
  have HO : Hid (Only (fun _ => False) w E) := Lib.hid (by rw [hE]; exact Only.alloc _ _ _)
  have HC := Lib.hid (closed_no (h.later HO.out))
  obtain ⟨x0, x1, x2, x3, x4, x5⟩ := HX.out.cells
  have HIN := Lib.hid (indicator_any k n s ao m cap E)
  rw [hi] at HIN
  simp only [Option.getD_none, Option.isSome_none] at HIN
  clear h
  generalize hbk : w.heap.size = bk at *
  go_enter Try.func9, Try.ntmps9
  go_upto_region 1 with fail
  rw [← hE]
  clear hE
  go_wp2_with fail
  refine HC.out.mono ?_
  rintro e w1 ⟨rfl, rfl⟩
  go_wp2_with fail
  refine HIN.out.mono ?_
  rintro e w2 ⟨rfl, ho2⟩
  have HO3 := Lib.hid (HO.out.same (ho2.same (Only.alloc _ w2 (.cells #[.string zN.s, .int .i64 zN.a] 82))))
  clear ho2 x0 x1 x2 x3 x4 x5
  go_wp2_with fail
  go_ret2
  exact ⟨rfl, HO3.out⟩
/-- A base behind a row of calls. -/
structure Lg (b pm N : Nat) (sl : List Sl) (ps : List Pc) (gen low : Int) (Q : Nat → Prop) (w0 w : World) : Prop where
  bs : Bs b pm N sl ps 16384 gen low Q w0 w
  ct : ∀ p ∈ ps, p.lv = ((p.st.L.filter (liveE sl gen)).length : Int)
  ads : Ads sl gen
  few : ∀ p ∈ ps, p.st.L.length ≤ sl.length
  pn : ps.length ≤ sl.length
theorem Lg.later (h : Lg b pm N sl ps gen low Q w0 w) (o : Only (fun _ => False) w w') : Lg b pm N sl ps gen low Q w0 w' := { h with bs := h.bs.later o }
/-- .. what a call makes of it. -/
structure Gon (b pm N : Nat) (sl : List Sl) (ps : List Pc) (gen : Int) (Q : Nat → Prop) (w0 w w' : World) : Prop where
  lg : ∃ N' sl' ps' gen' low', Lg b pm N' sl' ps' gen' low' Q w0 w' ∧ Kee sl ps gen sl' ps' gen' ∧ N' ≤ N + 2 ∧ sl'.length ≤ sl.length + 1
  o : Only (fun q => w0.heap.size ≤ q ∧ ¬ Q q) w w'
theorem Lg.same (h : Lg b pm N sl ps gen low Q w0 w) (o : Only (fun _ => False) w w') : Gon b pm N sl ps gen Q w0 w w' :=
  ⟨⟨N, sl, ps, gen, low, h.later o, Kee.refl _ _ _, by omega, by omega⟩, o.mono (fun _ _ e => e.elim)⟩
theorem outs_of (ho : OutsP sl ps) (hp : p ∈ ps) : Outs sl p.st.L := fun e he => by
  obtain ⟨i, s, h1, h2, _⟩ := ho p hp e he
  exact ⟨i, s, h1, h2⟩
theorem Lg.add (h : Lg b pm N sl ps gen low Q w0 W) (t : T) (ao : Option Addr) (cap : Nat) (v : Int) (ht : t.Sane) (hl : Row (fun k => k < w0.heap.size) w0 ao t.l) (hz : t.size ≤ 900000)
    (go : Option Addr) (gs : List GI) (gc : Nat) (hg : ArgG go gs w0) (hgl : gs.length ≤ 100000) (co : Option Addr) (cc : Nat) (is : List In) (hc : co = none → cc = 0) (hs : SrcOf encI w0 co is) (hb : ∀ ad, co = some ad → is ≠ [] → ad.block < w0.heap.size) (hil : is.length ≤ 100000) (f : Bool) (hN : N + 2 ≤ 100000) (hsl : sl.length ≤ 4000) :
    Calls Try.prog 9 #[.pointer (some ⟨b, 0, none⟩), .agg #[.int .i64 t.k, .int .i64 t.n, .string t.s, .slice ao t.l.length cap, .slice go gs.length gc, .int .i64 v], .slice co is.length cc, .bool f] W fun e w' => (∃ i e', e = .returned (.tuple #[.int .i64 i, .int .i64 e'])) ∧ Gon b pm N sl ps gen Q w0 W w' := by
  obtain ⟨so, sc, np, Dp, h1, h2, h3, h4⟩ := h.bs
  have h5 := h4.size
  cases hi : indF t.k t.s t.l.length with
  | none =>
    refine (add_refused h1 t.k t.n t.s ao t.l.length cap go gs.length gc v co is.length cc f hi).mono ?_
    rintro e w' ⟨rfl, ho⟩
    exact ⟨⟨_, _, rfl⟩, h.same ho⟩
  | some nm =>
    refine (add_all h1 t ao cap v ht (fun k => k < w0.heap.size) (hl.only h4 (fun k hk => hk) (fun _ _ e => e)) (fun k hk => ⟨by omega, fun e => ?_, fun e => ?_, fun e => ?_⟩) hz go gs gc (fun W' o => hg.later (h4.trans o (fun k hk e => ?_))) hgl co cc is hc (src_only hs h4 (fun ad e he => ⟨hb ad e he, fun e => e⟩)) (fun ad e he => ⟨by have := hb ad e he; omega, fun e' => ?_, fun e' => ?_⟩) hil nm hi (indF_ok ht hi) (by omega) (fun p hp _ => by have := h.few p hp; omega) f (firstK_ok hl) hN (by omega)).mono ?_
    · subst e; have := (h2 k (.inl rfl)).1; omega
    · subst e; have := (h2 k (.inr (.inr (.inl rfl)))).1; omega
    · have := (h2 k (.inr (.inl e))).1; omega
    · rcases e with rfl | rfl
      · have := (h2 k (.inl rfl)).1; omega
      · have := (h2 k (.inr (.inr (.inl rfl)))).1; omega
    · have := (h2 _ (.inl e')).1; have := hb ad e he; omega
    · have := (h2 _ (.inr (.inr (.inl e')))).1; have := hb ad e he; omega
    · rintro e w' ⟨rfl, A, C, p, own', np', Dp', so', sc', a, c, ga, gg, ca, cc', hA⟩
      have hout := IsP.outs hA.isp h1.outs
      have hpm : p ∈ A ++ p :: C := by simp
      have hid := outs_none hout hpm
      have hfew : p.st.L.length ≤ sl.length := by
        rcases hA.isp with e | ⟨_, _, e, _, _⟩
        · exact h.few p (by rw [e]; simp)
        · rw [e]; simp
      have hL := add_L (k := firstK t) (f := f) hid (by omega)
      have hgen := h1.nums.2.2.1
      have hold : ∀ q ∈ A ++ C, q ∈ ps := fun q hq => by
        rcases hA.isp with e | ⟨e1, e2, _⟩
        · rw [e]
          rcases List.mem_append.1 hq with hq | hq
          · simp [hq]
          · simp [hq]
        · rw [e1, e2] at hq
          exact hq
      have hx : ∀ g, liveE (sl ++ [⟨nm, t.k, t.n, t.s, a, t.l.length, c, ga, gs.length, gg, v, ca, is.length, cc', gen + 1, 0⟩]) g (newE sl.length (firstK t) f p.st.lo p.st.hi) = decide (gen + 1 ≤ g) := fun g => by
        rw [liveE_of (new_id _ _ _ _ _) (s := ⟨nm, t.k, t.n, t.s, a, t.l.length, c, ga, gs.length, gg, v, ca, is.length, cc', gen + 1, 0⟩) (by simp)]
        unfold liveS
        simp
      have hct : ∀ q ∈ A ++ p :: C, q.lv = ((q.st.L.filter (liveE sl gen)).length : Int) := fun q hq => by
        rcases hA.isp with e | ⟨e1, e2, e3, e4, _⟩
        · exact h.ct q (by rw [e]; exact hq)
        · rw [e1, e2] at hq
          rcases List.mem_cons.1 hq with rfl | hq
          · rw [e3, e4]; rfl
          · exact h.ct q hq
      have hadn : Ads (sl ++ [⟨nm, t.k, t.n, t.s, a, t.l.length, c, ga, gs.length, gg, v, ca, is.length, cc', gen + 1, 0⟩]) (gen + 1) := fun s hs' => by
        rcases List.mem_append.1 hs' with hs' | hs'
        · have := h.ads s hs'; omega
        · rw [List.mem_singleton.1 hs']; show gen + 1 ≤ gen + 1 ∧ (0 : Int) ≤ 0 ∧ (0 : Int) ≤ gen + 1; omega
      have hpn : (A ++ { p with own := own', st := (addS p.st sl.length (firstK t) f).2, lv := p.lv + 1 } :: C).length ≤ (sl ++ [(⟨nm, t.k, t.n, t.s, a, t.l.length, c, ga, gs.length, gg, v, ca, is.length, cc', gen + 1, 0⟩ : Sl)]).length := by
        have := h.pn
        rcases hA.isp with e | ⟨e1, e2, _⟩
        · rw [e] at this; simp at this ⊢; omega
        · rw [e1, e2]; simp; omega
      refine ⟨⟨_, _, rfl⟩, ⟨_, _, _, _, _, ⟨⟨so', sc', np', Dp', hA.bi, fun q hq => ?_, fun q hq => Nat.lt_of_lt_of_le (h3 q hq) hA.o.size, h4.trans hA.o (fun q hq e => by have := (h2 q e).1; omega)⟩, fun q hq => ?_, hadn, fun q hq => ?_, hpn⟩, ⟨by omega, fun q hq => ?_⟩, by omega, by simp⟩, hA.o.mono (fun q _ e => h2 q e)⟩
      · rcases hA.nw q hq with e | e
        · exact h2 q e
        · exact ⟨by omega, fun hq => by have := h3 q hq; omega⟩
      · rcases mem_mid (p := p) hq with rfl | hq'
        · show p.lv + 1 = (((addS p.st sl.length (firstK t) f).2.L.filter _).length : Int)
          rw [hL, filt_ins_yes (by rw [hx]; simp), filt_app (outs_of hout hpm), filt_now h.ads (outs_of hout hpm) (by omega), hct p hpm]
          omega
        · rw [filt_app (outs_of hout hq'), filt_now h.ads (outs_of hout hq') (by omega)]
          exact hct q hq'
      · rw [List.length_append, List.length_singleton]
        rcases List.mem_append.1 hq with hq | hq
        · have := h.few q (hold q (by simp [hq])); omega
        · rcases List.mem_cons.1 hq with rfl | hq
          · show (addS p.st sl.length (firstK t) f).2.L.length ≤ _
            rw [hL, ins_len]; omega
          · have := h.few q (hold q (by simp [hq])); omega
      · have hq' : q ∈ A ++ p :: C := by
          rcases hA.isp with e | ⟨e1, e2, _⟩
          · rw [← e]; exact hq
          · rw [e1, e2]; simp [hq]
        rcases List.mem_append.1 hq' with hm | hm
        · exact ⟨q, by simp [hm], rfl, fun g hg => by unfold tells; rw [filt_app (outs_of hout hq')]⟩
        · rcases List.mem_cons.1 hm with rfl | hm
          · refine ⟨_, List.mem_append_right _ (List.mem_cons_self), rfl, fun g hg => ?_⟩
            unfold tells
            show ((addS q.st sl.length (firstK t) f).2.L.filter _).map _ = _
            rw [hL, filt_ins_no (by rw [hx]; exact decide_eq_false (by omega)), filt_app (outs_of hout hq')]
          · exact ⟨q, by simp [hm], rfl, fun g hg => by unfold tells; rw [filt_app (outs_of hout hq')]⟩
theorem Lg.kill (h : Lg b pm N sl ps gen low Q w0 W) (n : Int) (hN : N + 1 ≤ 100000) :
    Calls Try.prog 10 #[.pointer (some ⟨b, 0, none⟩), .int .i64 n] W fun e w' => (∃ e', e = .returned (.int .i64 e')) ∧ Gon b pm N sl ps gen Q w0 W w' := by
  obtain ⟨so, sc, np, Dp, h1, h2, h3, h4⟩ := h.bs
  by_cases hn : n < 0 ∨ (sl.length : Int) ≤ n
  · refine (kill_out h1 hn).mono ?_
    rintro e w' ⟨rfl, hw⟩
    obtain rfl : W = w' := hw.symm
    exact ⟨⟨_, rfl⟩, h.same (Only.refl _ _)⟩
  · obtain ⟨i, rfl⟩ : ∃ i : Nat, n = i := ⟨n.toNat, by omega⟩
    have hlt : i < sl.length := by omega
    obtain ⟨s, hs⟩ : ∃ s, sl[i]? = some s := ⟨sl[i], List.getElem?_eq_getElem hlt⟩
    by_cases hki : s.ki > 0
    · refine (kill_dead h1 hs hki).mono ?_
      rintro e w' ⟨rfl, hw⟩
      obtain rfl : W = w' := hw.symm
      exact ⟨⟨_, rfl⟩, h.same (Only.refl _ _)⟩
    · obtain ⟨p, hp, hnm, x, hx, hxi⟩ := h1.ins i s hs
      obtain ⟨A, C, rfl⟩ := List.append_of_mem hp
      have hgen := h1.nums.2.2.1
      have hsa := h.ads s (List.mem_of_getElem? hs)
      have hk0 : s.ki = 0 := by omega
      refine (kill_yes (A := A) (C := C) h1 hs hnm hki hN).mono ?_
      rintro e w' ⟨rfl, hb, ho⟩
      have hpar : ∀ q ∈ A ++ C, q.pb ≠ p.pb := fun q hq => by
        have hap := h1.apart
        rcases List.mem_append.1 hq with hq | hq
        · exact ((List.pairwise_append.1 hap).2.2 q hq p (by simp)).1
        · exact (((List.pairwise_cons.1 (List.pairwise_append.1 hap).2.1).1 q hq).1).symm
      have hdif : ∀ q ∈ A ++ p :: C, q.pb ≠ p.pb → ∀ e ∈ q.st.L, e.id ≠ (i : Int) := fun q hq hqp e he hei => by
        obtain ⟨j, s', g1, g2, g3⟩ := h1.outs q hq e he
        have : j = i := by omega
        subst this
        rw [hs] at g2
        cases g2
        have n1 := nsF_mem h1.nok (k := p.nm) (pb := p.pb) (List.mem_map.2 ⟨p, hp, rfl⟩)
        have n2 := nsF_mem h1.nok (k := q.nm) (pb := q.pb) (List.mem_map.2 ⟨q, hq, rfl⟩)
        rw [← g3, ← hnm, n1] at n2
        exact hqp (Option.some.inj n2).symm
      have hals : Alone p.st.L := (h1.pds p hp).tab.tab.alone
      have hone : ((p.st.L.filter (liveE sl gen)).filter (fun x : En => decide (x.id ≠ (i : Int)))).length + 1 = (p.st.L.filter (liveE sl gen)).length := die_one hals hx (by rw [liveE_of hxi hs, liveS_now hsa (Int.le_refl _), hk0]; rfl) hxi
      refine ⟨⟨_, rfl⟩, ⟨_, _, _, _, _, ⟨⟨so, sc, np, Dp, hb, fun k hk => h2 k ?_, fun k hk => Nat.lt_of_lt_of_le (h3 k hk) ho.size, h4.trans ho (fun q hq e => by have := (h2 q e).1; omega)⟩, fun q hq => ?_, fun y hy => ?_, fun q hq => ?_, by have := h.pn; simp at this ⊢; omega⟩, ⟨by omega, fun q hq => ?_⟩, by omega, by simp⟩, ho.mono (fun q _ e => h2 q e)⟩
      · rcases hk with hk | hk | hk | ⟨q, hq, hk⟩
        · exact .inl hk
        · exact .inr (.inl hk)
        · exact .inr (.inr (.inl hk))
        · rcases mem_mid (p := p) hq with rfl | hq
          · exact .inr (.inr (.inr ⟨p, hp, hk⟩))
          · exact .inr (.inr (.inr ⟨q, hq, hk⟩))
      · rcases List.mem_append.1 hq with hm | hm
        · have hq' : q ∈ A ++ p :: C := by simp [hm]
          rw [filt_die h.ads hs hgen (outs_of h1.outs hq'), die_no (fun y hy => hdif q hq' (hpar q (by simp [hm])) y (List.mem_filter.1 hy).1)]
          exact h.ct q hq'
        · rcases List.mem_cons.1 hm with rfl | hm
          · show p.lv - 1 = ((p.st.L.filter _).length : Int)
            rw [filt_die h.ads hs hgen (outs_of h1.outs hp)]
            have := h.ct p hp
            omega
          · have hq' : q ∈ A ++ p :: C := by simp [hm]
            rw [filt_die h.ads hs hgen (outs_of h1.outs hq'), die_no (fun y hy => hdif q hq' (hpar q (by simp [hm])) y (List.mem_filter.1 hy).1)]
            exact h.ct q hq'
      · rcases List.mem_or_eq_of_mem_set hy with hy | rfl
        · have := h.ads y hy; omega
        · show s.ad ≤ gen + 1 ∧ 0 ≤ gen + 1 ∧ gen + 1 ≤ gen + 1
          omega
      · rw [List.length_set]
        rcases mem_mid (p := p) hq with rfl | hq
        · exact h.few p hp
        · exact h.few q hq
      · rcases List.mem_append.1 hq with hm | hm
        · exact ⟨q, by simp [hm], rfl, fun g hg => by unfold tells; rw [filt_set hs hk0 hgen hg (outs_of h1.outs hq)]⟩
        · rcases List.mem_cons.1 hm with rfl | hm
          · refine ⟨_, List.mem_append_right _ (List.mem_cons_self), rfl, fun g hg => ?_⟩
            unfold tells
            show (q.st.L.filter _).map _ = _
            rw [filt_set hs hk0 hgen hg (outs_of h1.outs hq)]
          · exact ⟨q, by simp [hm], rfl, fun g hg => by unfold tells; rw [filt_set hs hk0 hgen hg (outs_of h1.outs hq)]⟩
end
end Go.Proofs.Ythfilpacmllhpab.bases
