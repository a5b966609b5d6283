
/- Selection by keys: a table without an entry. -/
import Derived.Test.YthgjedcelcanbaaIdx30
namespace Go.Proofs.Ythgjedcelcanbaa.idx
set_option maxRecDepth 100000
open Go.RowKit Go.Proofs.Ythgjedcelcanbaa.own Go.Lib Go.Maps Go.WideMaps
theorem cls_in (A C : List En) (e : En) : cls e.key (A ++ e :: C) = cls e.key A ++ e :: cls e.key C := by
  unfold cls
  rw [List.filter_append, List.filter_cons, if_pos (by exact eqK_refl _)]
theorem cls_out {A C : List En} {e : En} {k : Ky} (h : k ≠ e.key) : cls k (A ++ e :: C) = cls k (A ++ C) := by
  unfold cls
  rw [List.filter_append, List.filter_cons, if_neg (by rw [eqK_ne (fun x => h x.symm)]; simp), List.filter_append]
theorem cls_two (k : Ky) (A C : List En) : cls k (A ++ C) = cls k A ++ cls k C := by unfold cls; rw [List.filter_append]
theorem alone_out {A C : List En} {e : En} (h : Alone (A ++ e :: C)) : (A ++ e :: C).filter (fun x => decide (x.id ≠ e.id)) = A ++ C := by
  have hA : ∀ x ∈ A, x.id ≠ e.id := fun x hx => (List.pairwise_append.1 h).2.2 x hx e (by simp)
  have hC : ∀ x ∈ C, x.id ≠ e.id := fun x hx => ((List.pairwise_cons.1 (List.pairwise_append.1 h).2.1).1 x hx).symm
  rw [List.filter_append, List.filter_cons, if_neg (by simp), List.filter_eq_self.2 (fun x hx => by simpa using hA x hx), List.filter_eq_self.2 (fun x hx => by simpa using hC x hx)]
theorem sub_out (A C : List En) (e : En) : List.Sublist (A ++ C) (A ++ e :: C) := (List.Sublist.refl A).append (List.sublist_cons_self e C)
section
variable {b mr mi N : Nat} {A C : List En} {e : En} {lo hi : Int} {ks : Ks} {ao a : Option Addr} {cap c nr ni : Nat} {Dr : D2} {Di : D1} {W0 W1 W2 W3 W4 W5 : World}
set_option maxHeartbeats 4000000 in
/-- An entry is taken out: the worlds one behind the other. -/
theorem TabI.dropped (h : TabI b mr mi N (A ++ e :: C) lo hi ks ao cap nr ni Dr Di W0) (hN : nr + 1 ≤ N) (hat : (e.key, (a, (cls e.key (A ++ e :: C)).length, c)) ∈ ks)
    (o1 : Only (· = mi) W0 W1) (hi1 : W1.ownsMap Try.prog 3 enR mi ni (Di.del (keyN e.id)))
    (o2 : Only (RowAt ao) W1 W2) (r2 : RowE ao cap (A ++ C) W2)
    (o3 : Only (· = b) W2 W3) (box3 : W3.heap[b]? = some (.cells #[.slice ao (A ++ C).length cap, .map (some mr), .map (some mi), .int .i64 lo, .int .i64 hi] 53 (0, 0)))
    (o4 : Only (RowAt a) W3 W4) (r4 : RowE a c (cls e.key (A ++ C)) W4)
    (o5 : Only (· = mr) W4 W5) (hm5 : W5.ownsMap Try.prog 32 hdR mr (nr + 1) (Dr.put (keyK e.key) (.held (a, (cls e.key (A ++ C)).length, c)))) :
    TabI b mr mi N (A ++ C) lo hi (setK ks e.key (a, (cls e.key (A ++ C)).length, c)) ao cap (nr + 1) ni (Dr.put (keyK e.key) (.held (a, (cls e.key (A ++ C)).length, c))) (Di.del (keyN e.id)) W5 := by
  have hrow : RowE a c (cls e.key (A ++ e :: C)) W0 := (h.rows _ hat).1
  have hkey := h.keys e (by simp)
  have hb0 := lt_of_block h.box
  obtain ⟨_, _, hmi0, _⟩ := id h.idm
  obtain ⟨_, _, hmr0, _⟩ := id h.rkm
  have hmiL := lt_of_block hmi0
  have hmrL := lt_of_block hmr0
  have hbm : b ≠ mi ∧ b ≠ mr := by
    constructor <;> (intro e; have := h.box; rw [e] at this; first | (rw [hmi0] at this; cases this) | (rw [hmr0] at this; cases this))
  -- rows that stood at the beginning
  have hstay : ∀ (q : Option Addr) (cq : Nat) (xs : List En), RowE q cq xs W0 → (∀ g g', ao = some g → q = some g' → g.block ≠ g'.block) → (∀ g g', a = some g → q = some g' → g.block ≠ g'.block) → RowE q cq xs W5 := fun q cq xs hq ha1 ha2 => by
    have q1 := hq.only o1 (fun g hg => not_at (row_ne_map hq h.idm) g hg)
    have q2 := q1.only o2 (fun g hg x => by obtain ⟨g2, hg2, e2⟩ := x; exact ha1 g2 g hg2 hg e2.symm)
    have hb1 : W1.heap[b]? = _ := (o1.block b hb0 hbm.1).trans h.box
    have hb2 : W2.heap[b]? = _ := (o2.block b (Nat.lt_of_lt_of_le hb0 o1.size) (row_apart (h.row.only o1 (fun g hg => not_at (row_ne_map h.row h.idm) g hg)) hb1 (by decide))).trans hb1
    have q3 := q2.only o3 (fun g hg x => row_apart q2 hb2 (by decide) ⟨g, hg, x.symm⟩)
    have q4 := q3.only o4 (fun g hg x => by obtain ⟨g2, hg2, e2⟩ := x; exact ha2 g2 g hg2 hg e2.symm)
    have m1 : W1.ownsMap Try.prog 32 hdR mr nr Dr := ownsMap_only h.rkm o1 h.apm
    have m2 := ownsMap_only m1 o2 (row_ne_map (h.row.only o1 (fun g hg => not_at (row_ne_map h.row h.idm) g hg)) m1)
    have m3 := ownsMap_only m2 o3 (fun e => hbm.2 e.symm)
    have ra1 := hrow.only o1 (fun g hg => not_at (row_ne_map hrow h.idm) g hg)
    have q4' := o4
    have m4 : W4.ownsMap Try.prog 32 hdR mr nr Dr := ownsMap_only m3 o4 (by
      rintro ⟨g, hg, e⟩
      rcases hrow.2 with ⟨h1, _⟩ | ⟨g', cap2, cur, hv, _, hbb, _⟩
      · simp only [Value.slice.injEq] at h1
        rw [h1.1] at hg; cases hg
      · simp only [Value.slice.injEq] at hv
        rw [hv.1] at hg
        cases hg
        have e' : mr = g' := e
        rw [e', hbb] at hmr0
        cases hmr0)
    exact q4.only o5 (fun g hg x => row_ne_map q4 m4 ⟨g, hg, x.symm⟩)
  have hra : ∀ k, RowAt a k → k < W0.heap.size ∧ k ≠ b ∧ k ≠ mi ∧ k ≠ mr := fun k hk => by
    refine ⟨?_, fun e => row_apart hrow h.box (by decide) (e ▸ hk), fun e => row_ne_map hrow h.idm (e ▸ hk), fun e => row_ne_map hrow h.rkm (e ▸ hk)⟩
    obtain ⟨g, hg, e⟩ := hk
    rw [e]; exact (hrow.head g hg).2.2
  have hrao : ∀ k, RowAt ao k → k < W0.heap.size ∧ k ≠ b ∧ k ≠ mi ∧ k ≠ mr := fun k hk => by
    refine ⟨?_, fun e => row_apart h.row h.box (by decide) (e ▸ hk), fun e => row_ne_map h.row h.idm (e ▸ hk), fun e => row_ne_map h.row h.rkm (e ▸ hk)⟩
    obtain ⟨g, hg, e⟩ := hk
    rw [e]; exact (h.row.head g hg).2.2
  have s1 := o1.size
  have s2 := o2.size
  have s3 := o3.size
  have s4 := o4.size
  have ha_ao : ∀ g g', ao = some g → a = some g' → g.block ≠ g'.block := h.ap1 _ hat
  have hold2 : ∀ p ∈ ks, p.1 ≠ e.key → ∀ g g', a = some g → p.2.1 = some g' → g.block ≠ g'.block := fun p hp hne g g' hg hg' ee => by
    have := pairs (R := fun p q : Ky × Hd => ∀ g g', p.2.1 = some g → q.2.1 = some g' → g.block ≠ g'.block) (fun x y hxy g g' h1 h2 e => hxy g' g h2 h1 e.symm) h.ap2 p hp _ hat (fun e' => hne (by rw [e']))
    exact this g' g hg' hg ee.symm
  have hb3 := lt_of_block box3
  have box5 := (o5.block b (Nat.lt_of_lt_of_le hb3 s4) hbm.2).trans ((o4.block b hb3 (fun x => (hra b x).2.1 rfl)).trans box3)
  have row5 : RowE ao cap (A ++ C) W5 := by
    have hb1 : W1.heap[b]? = _ := (o1.block b hb0 hbm.1).trans h.box
    have hb2 : W2.heap[b]? = _ := (o2.block b (Nat.lt_of_lt_of_le hb0 s1) (fun x => (hrao b x).2.1 rfl)).trans hb1
    have q3 := r2.only o3 (fun g hg x => row_apart r2 hb2 (by decide) ⟨g, hg, x.symm⟩)
    have q4 := q3.only o4 (fun g hg x => by
      obtain ⟨g2, hg2, e2⟩ := x
      exact ha_ao g g2 hg hg2 e2)
    exact q4.only o5 (fun g hg x => (hrao _ ⟨g, hg, rfl⟩).2.2.2 x)
  have idm5 : W5.ownsMap Try.prog 3 enR mi ni (Di.del (keyN e.id)) :=
    ownsMap_only (ownsMap_only (ownsMap_only (ownsMap_only hi1 o2 (fun x => (hrao mi x).2.2.1 rfl)) o3 (fun x => hbm.1 x.symm)) o4 (fun x => (hra mi x).2.2.1 rfl)) o5 (fun x => h.apm x.symm)
  have r5 : RowE a c (cls e.key (A ++ C)) W5 := r4.only o5 (fun g hg x => (hra _ ⟨g, hg, rfl⟩).2.2.2 x)
  have hidl : IdMap (Di.del (keyN e.id)) (A ++ C) := by
    have := h.idl.del e.id
    rwa [alone_out h.alone] at this
  have hsub := sub_out A C e
  refine ⟨box5, row5, idm5, hidl, hm5, h.rkl.put h.ksok hkey.1 _, h.ksok.set hkey.1 _, fun p hp => ?_, fun x hx => ?_, fun p hp => ?_, ?_, h.apm, ⟨h.pl.rises.sublist hsub, fun x hx => h.pl.low x (hsub.subset hx), fun x hx => h.pl.high x (hsub.subset hx)⟩, List.Pairwise.sublist hsub h.alone, fun x hx => h.keys x (hsub.subset hx), Nat.le_trans hsub.length_le h.few, by have := h.nums; omega⟩
  · rcases List.mem_cons.1 hp with rfl | hp
    · exact ⟨r5, rfl⟩
    · obtain ⟨hp1, hp2⟩ := mem_delK.1 hp
      rw [← cls_out (e := e) hp2]
      exact ⟨hstay _ _ _ (h.rows p hp1).1 (h.ap1 p hp1) (hold2 p hp1 hp2), (h.rows p hp1).2⟩
  · by_cases hk : x.key = e.key
    · exact ⟨_, List.mem_cons.2 (.inl (by rw [hk]))⟩
    · obtain ⟨hd, hm⟩ := h.cover x (hsub.subset hx)
      exact ⟨hd, List.mem_cons.2 (.inr (mem_delK.2 ⟨hm, hk⟩))⟩
  · rcases List.mem_cons.1 hp with rfl | hp
    · exact ha_ao
    · exact h.ap1 p (mem_delK.1 hp).1
  · refine List.pairwise_cons.2 ⟨fun p hp => ?_, h.ap2.sublist List.filter_sublist⟩
    obtain ⟨hp1, hp2⟩ := mem_delK.1 hp
    exact hold2 p hp1 hp2
end
section
variable {b mr mi N : Nat} {L : List En} {k : Ky} {lo hi : Int} {ks : Ks} {ao : Option Addr} {cap nr ni : Nat} {Dr : D2} {Di : D1} {W0 W1 : World}
/-- A key of which there is no entry is forgotten. -/
theorem TabI.forget (h : TabI b mr mi N L lo hi ks ao cap nr ni Dr Di W0) (hk : k.Ok) (h0 : cls k L = []) (o : Only (· = mr) W0 W1) (hm : W1.ownsMap Try.prog 32 hdR mr nr (Dr.del (keyK k))) :
    TabI b mr mi N L lo hi (delK ks k) ao cap nr ni (Dr.del (keyK k)) Di W1 := by
  obtain ⟨_, _, hmr0, _⟩ := id h.rkm
  have hb : b ≠ mr := by intro e; have := h.box; rw [e, hmr0] at this; cases this
  refine ⟨(o.block b (lt_of_block h.box) hb).trans h.box, h.row.only o (fun g hg => not_at (row_ne_map h.row h.rkm) g hg), ownsMap_only h.idm o (fun e => h.apm e.symm), h.idl, hm, h.rkl.del h.ksok hk, h.ksok.del k, fun p hp => ?_, fun x hx => ?_, fun p hp => h.ap1 p (mem_delK.1 hp).1, h.ap2.sublist List.filter_sublist, h.apm, h.pl, h.alone, h.keys, h.few, h.nums⟩
  · have hq := h.rows p (mem_delK.1 hp).1
    exact ⟨hq.1.only o (fun g hg => not_at (row_ne_map hq.1 h.rkm) g hg), hq.2⟩
  · obtain ⟨hd, hm'⟩ := h.cover x hx
    refine ⟨hd, mem_delK.2 ⟨hm', fun e => ?_⟩⟩
    have : x ∈ cls k L := mem_cls.2 ⟨hx, e⟩
    rw [h0] at this
    cases this
end
end Go.Proofs.Ythgjedcelcanbaa.idx
