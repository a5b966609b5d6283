/- The laws' arguments as the walks see them: a list of a base's calls. -/
import Derived.Test.YthfilpacmllhpabBasArgs
import Derived.Test.YthfilpacmllhpabBas32
namespace Go.Proofs.Ythfilpacmllhpab.bases
open Go.ChangeShapes Go.WideShapes Go.ChangeAt Go.RowKit Go.Proofs.Ythfilpacmllhpab.frames Go.Proofs.Ythfilpacmllhpab.own Go.Proofs.Ythfilpacmllhpab.terms Go.Proofs.Ythfilpacmllhpab.idx
theorem cellsGoal : Try.prog.cellsOf 113 = 5 := by kernel_rfl
theorem cellsInstr : Try.prog.cellsOf 61 = 5 := by kernel_rfl
theorem five {α : Type} {l : List α} (h : l.length = 5) : ∃ c0 c1 c2 c3 c4, l = [c0, c1, c2, c3, c4] := by
  match l, h with
  | [c0, c1, c2, c3, c4], _ => exact ⟨c0, c1, c2, c3, c4, rfl⟩
theorem adp {b off : Nat} {j : Nat} : (⟨b, off, none⟩ : Addr).add j = ⟨b, off + j, none⟩ := by unfold Addr.add; split <;> simp_all
section
variable {H : Type} {enc : TypeId × Value → H} {W : World} {held : Bool}
set_option maxRecDepth 100000 in
theorem open_tm {fuel : Nat} {c0 c1 c2 c3 : Value} {x : DataW H × List MemPlace} (h : DataW.trod enc Try.prog W 0 (fun _ => true) held fuel 31 [c0, c1, c2, c3] = some x) (hlt : ∀ q ∈ x.2, q.block < W.heap.size) (hfz : W.noneFrozen x.2) : ReadsT W c0 c1 c2 c3 := by
  obtain ⟨xs, m, _, hxs, _, hxl, hfs⟩ := DataW.trod_struct Try.underlying31 h
  obtain ⟨y0, y1, y2, y3, rfl⟩ : ∃ y0 y1 y2 y3, xs = [y0, y1, y2, y3] := by
    match xs, hxl with
    | [y0, y1, y2, y3], _ => exact ⟨y0, y1, y2, y3, rfl⟩
  have g0 : DataW.trod enc Try.prog W 0 (fun _ => true) held m 3 [c0] = some y0 := hfs 0 _ rfl
  have g1 : DataW.trod enc Try.prog W 0 (fun _ => true) held m 3 [c1] = some y1 := hfs 1 _ rfl
  have g2 : DataW.trod enc Try.prog W 0 (fun _ => true) held m 9 [c2] = some y2 := hfs 2 _ rfl
  have g3 : DataW.trod enc Try.prog W 0 (fun _ => true) held m 29 [c3] = some y3 := hfs 3 _ rfl
  exact open_fields g0 g1 g2 (open_list_at m c3 y3 g3 (fun q hq => hlt q (by rw [hxs]; simp [hq])) (fun b off hq => hfz b off (by rw [hxs]; simp [hq])))
set_option maxRecDepth 100000 in
theorem open_goals {fuel : Nat} {c : Value} {x : DataW H × List MemPlace} (hf : DataW.trod enc Try.prog W 0 (fun _ => true) held fuel 32 [c] = some x) (hlt : ∀ q ∈ x.2, q.block < W.heap.size) (hfz : W.noneFrozen x.2) : ∃ go gs gc, c = .slice go (gs : List GI).length gc ∧ ArgG0 go gs W := by
  rcases DataW.trod_slice Try.underlying32 hf with ⟨hcs, hx⟩ | ⟨a, len, cap, elems, rest, n, rfl, hcs, rfl, _, hl, hm, hlen, hel, _, _⟩
  · simp only [List.cons.injEq, and_true] at hcs
    exact ⟨none, [], 0, hcs, fun i x hx => by simp at hx⟩
  · simp only [List.cons.injEq, and_true] at hcs
    subst hcs
    rw [cellsGoal] at hel hlt hfz
    have each : ∀ i, i < len → ∃ q : GI, (W.cell? (a.add (i * 5)) = some (.int .i64 q.k) ∧ W.cell? ((a.add (i * 5)).add 1) = some (.int .i64 q.t.k) ∧ W.cell? ((a.add (i * 5)).add 2) = some (.int .i64 q.t.n) ∧ W.cell? ((a.add (i * 5)).add 3) = some (.string q.t.s) ∧ W.cell? ((a.add (i * 5)).add 4) = some (.slice q.ao q.t.l.length q.cap)) ∧ q.t.Sane ∧ Lies W q.ao q.t.l := by
      intro i hi
      have he := hel i hi
      rw [List.getElem?_eq_getElem (by omega)] at he
      obtain ⟨cs', hc', ht⟩ := Option.bind_eq_some_iff.1 he
      obtain ⟨hb1, hc1, hc2⟩ := World.cells?_some hc'
      obtain ⟨c0, c1, c2, c3, c4, rfl⟩ := five hc1
      obtain ⟨xs, m, hnm, hxs, _, hxl, hfs⟩ := DataW.trod_struct Try.underlying113 ht
      obtain ⟨y0, y1, rfl⟩ : ∃ y0 y1, xs = [y0, y1] := by
        match xs, hxl with
        | [y0, y1], _ => exact ⟨y0, y1, rfl⟩
      have g0 : DataW.trod enc Try.prog W 0 (fun _ => true) held m 3 [c0] = some y0 := hfs 0 _ rfl
      have g1 : DataW.trod enc Try.prog W 0 (fun _ => true) held m 31 [c1, c2, c3, c4] = some y1 := hfs 1 _ rfl
      have hin : ∀ q ∈ y1.2, q ∈ (MemPlace.row a len ++ (elems ++ rest).flatMap (·.2)) ∨ True := fun _ _ => .inr trivial
      obtain ⟨k, r0, _, _⟩ := DataW.trod_int Try.underlying3 g0
      simp only [List.cons.injEq, and_true] at r0
      obtain ⟨t, ao, cap', rfl, rfl, rfl, rfl, hs, hr⟩ := open_tm g1 (fun q hq => hlt q (List.mem_append_right _ (List.mem_flatMap.2 ⟨elems[i]'(by omega), List.mem_append_left _ (List.getElem_mem _), by rw [hxs]; simp [hq]⟩))) (fun b off hq => hfz b off (List.mem_append_right _ (List.mem_flatMap.2 ⟨elems[i]'(by omega), List.mem_append_left _ (List.getElem_mem _), by rw [hxs]; simp [hq]⟩)))
      subst r0
      have k0 := hc2 0 (by omega)
      exact ⟨⟨k, t, ao, cap'⟩, ⟨by simpa [Addr.add] using k0, hc2 1 (by omega), hc2 2 (by omega), hc2 3 (by omega), hc2 4 (by omega)⟩, hs, hr⟩
    have inh : Inhabited GI := ⟨⟨0, default, none, 0⟩⟩
    obtain ⟨f, hff⟩ := Deep.choose_lt each
    have hln : ((List.range len).map f).length = len := by simp
    refine ⟨some a, (List.range len).map f, cap, by rw [hln], fun i y hy => ?_⟩
    have hi : i < len := by have := (List.getElem?_eq_some_iff.1 hy).1; omega
    have hyf : f i = y := by simpa [hi] using hy
    obtain ⟨⟨g0, g1, g2, g3, g4⟩, hs, hr⟩ := hff i hi
    rw [hyf] at g0 g1 g2 g3 g4 hs hr
    obtain ⟨b, off, spot⟩ := a
    have hspot : spot = none := by simpa [Addr.add] using World.cell?_spot (hff 0 (by omega)).1.1
    subst hspot
    rw [adp] at g0
    rw [adp, adp] at g1 g2 g3 g4
    exact ⟨b, off, rfl, hlt (.cell b off) (List.mem_append_left _ (MemPlace.mem_row.2 ⟨0, by omega, by simp⟩)), ⟨g0, g1, g2, g3, g4⟩, hs, hr⟩
set_option maxRecDepth 100000 in
theorem open_code {fuel : Nat} {c : Value} {x : DataW H × List MemPlace} (hf : DataW.trod enc Try.prog W 0 (fun _ => true) held fuel 35 [c] = some x) (hlt : ∀ q ∈ x.2, q.block < W.heap.size) : ∃ co is cc, c = .slice co (is : List In).length cc ∧ (co = none → cc = 0) ∧ SrcOf encI W co is ∧ ∀ ad, co = some ad → is ≠ [] → ad.block < W.heap.size := by
  rcases Deep.open_slice Try.underlying35 hf with ⟨hcs, hx⟩ | ⟨a, len, cap, m, n, D, Pl, hcs, _, hl, hm, hmm, hx, hel⟩
  · simp only [List.cons.injEq, and_true] at hcs
    exact ⟨none, [], 0, hcs, fun _ => rfl, ⟨fun _ => rfl, fun ad e => (by cases e)⟩, fun ad e => (by cases e)⟩
  · simp only [List.cons.injEq, and_true] at hcs
    subst hcs
    subst hx
    simp only [if_true] at hmm
    rw [cellsInstr] at hel hlt
    have each : ∀ i, i < len → ∃ q : In, ∀ r u, (encI q)[r]? = some u → W.cell? ((a.add (i * 5)).add r) = some u := by
      intro i hi
      obtain ⟨cs', h1, h2⟩ := hel i (by omega)
      obtain ⟨hb1, hc1, hc2⟩ := World.cells?_some h1
      obtain ⟨c0, c1, c2, c3, c4, rfl⟩ := five hc1
      obtain ⟨xs, m2, _, _, _, hxl, hfs⟩ := DataW.trod_struct Try.underlying61 h2
      obtain ⟨y0, q0⟩ := at_some hxl (i := 0) (by decide)
      obtain ⟨y1, q1⟩ := at_some hxl (i := 1) (by decide)
      obtain ⟨y2, q2⟩ := at_some hxl (i := 2) (by decide)
      obtain ⟨y3, q3⟩ := at_some hxl (i := 3) (by decide)
      obtain ⟨y4, q4⟩ := at_some hxl (i := 4) (by decide)
      have e0 : DataW.trod enc Try.prog W 0 (fun _ => true) held m2 3 [c0] = some y0 := (hfs 0 _ rfl).trans q0
      have e1 : DataW.trod enc Try.prog W 0 (fun _ => true) held m2 9 [c1] = some y1 := (hfs 1 _ rfl).trans q1
      have e2 : DataW.trod enc Try.prog W 0 (fun _ => true) held m2 3 [c2] = some y2 := (hfs 2 _ rfl).trans q2
      have e3 : DataW.trod enc Try.prog W 0 (fun _ => true) held m2 3 [c3] = some y3 := (hfs 3 _ rfl).trans q3
      have e4 : DataW.trod enc Try.prog W 0 (fun _ => true) held m2 3 [c4] = some y4 := (hfs 4 _ rfl).trans q4
      obtain ⟨z0, r0, _, _⟩ := DataW.trod_int Try.underlying3 e0
      obtain ⟨z1, r1, _, _⟩ := DataW.trod_string Try.underlying9 e1
      obtain ⟨z2, r2, _, _⟩ := DataW.trod_int Try.underlying3 e2
      obtain ⟨z3, r3, _, _⟩ := DataW.trod_int Try.underlying3 e3
      obtain ⟨z4, r4, _, _⟩ := DataW.trod_int Try.underlying3 e4
      simp only [List.cons.injEq, and_true] at r0 r1 r2 r3 r4
      subst r0 r1 r2 r3 r4
      refine ⟨⟨z0, z1, z2, z3, z4⟩, fun r u hu => ?_⟩
      match r, hu with
      | 0, hu => have := hc2 0 (by omega); simp only [encI, List.getElem?_cons_zero] at hu this ⊢; rw [← hu]; exact this
      | 1, hu => have := hc2 1 (by omega); simp only [encI, List.getElem?_cons_zero, List.getElem?_cons_succ] at hu this ⊢; rw [← hu]; exact this
      | 2, hu => have := hc2 2 (by omega); simp only [encI, List.getElem?_cons_zero, List.getElem?_cons_succ] at hu this ⊢; rw [← hu]; exact this
      | 3, hu => have := hc2 3 (by omega); simp only [encI, List.getElem?_cons_zero, List.getElem?_cons_succ] at hu this ⊢; rw [← hu]; exact this
      | 4, hu => have := hc2 4 (by omega); simp only [encI, List.getElem?_cons_zero, List.getElem?_cons_succ] at hu this ⊢; rw [← hu]; exact this
      | r + 5, hu => simp [encI] at hu
    have inh : Inhabited In := ⟨⟨0, ⟨#[]⟩, 0, 0, 0⟩⟩
    obtain ⟨f, hff⟩ := Deep.choose_lt each
    have hln : ((List.range len).map f).length = len := by simp
    refine ⟨some a, (List.range len).map f, cap, by rw [hln], fun e => (by cases e), ⟨fun e => (by cases e), fun ad e j u hu => ?_⟩, fun ad e hne => ?_⟩
    · cases e
      have hj : j < len * 5 := by
        have h1 := (List.getElem?_eq_some_iff.1 hu).1
        have h2 : ∀ l : List In, (l.flatMap encI).length = l.length * 5 := fun l => by
          induction l with
          | nil => rfl
          | cons x r ih => rw [List.flatMap_cons, List.length_append, ih, List.length_cons]; show 5 + _ = _; omega
        rw [h2, hln] at h1
        exact h1
      have hi : j / 5 < len := by omega
      have hg := flat_get liesI ((List.range len).map f) (j / 5) (j % 5) (f (j / 5)) (by simp [hi]) (Nat.mod_lt _ (by decide))
      rw [show j / 5 * 5 + j % 5 = j by omega, hu] at hg
      have := hff (j / 5) hi (j % 5) u hg.symm
      obtain ⟨b, off, spot⟩ := a
      have hspot : spot = none := by simpa [Addr.add] using World.cell?_spot (hff 0 (by omega) 0 _ rfl)
      subst hspot
      rw [adp, adp, show off + j / 5 * 5 + j % 5 = off + j by omega] at this
      rw [adp]
      exact this
    · cases e
      have h0 : len ≠ 0 := fun h0 => hne (by rw [h0]; rfl)
      exact hlt (.cell a.block a.off) (List.mem_append_left _ (MemPlace.mem_row.2 ⟨0, by omega, by simp [Addr.add]⟩))
end
end Go.Proofs.Ythfilpacmllhpab.bases
