/- The laws' arguments as the walks see them: lists of a base's calls. -/
import Derived.Test.YthfilpacmllhpabBasArgs3
namespace Go.Proofs.Ythfilpacmllhpab.bases
open Go.ChangeShapes Go.WideShapes Go.ChangeAt Go.RowKit Go.Proofs.Ythfilpacmllhpab.frames Go.Proofs.Ythfilpacmllhpab.own Go.Proofs.Ythfilpacmllhpab.terms Go.Proofs.Ythfilpacmllhpab.idx
section
variable {H : Type} {enc : TypeId × Value → H} {W : World} {held : Bool}
set_option maxRecDepth 100000 in
theorem open_bo {fuel : Nat} {c0 c1 c2 c3 c4 c5 c6 c7 c8 c9 c10 c11 c12 c13 : Value} {x : DataW H × List MemPlace} (h : DataW.trod enc Try.prog W 0 (fun _ => true) held fuel 39 [c0, c1, c2, c3, c4, c5, c6, c7, c8, c9, c10, c11, c12, c13] = some x) (hlt : ∀ q ∈ x.2, q.block < W.heap.size) (hfz : W.noneFrozen x.2) :
    ∃ o : BO, (c0 = .int .i64 o.k ∧ c1 = .int .i64 o.t.k ∧ c2 = .int .i64 o.t.n ∧ c3 = .string o.t.s ∧ c4 = .slice o.ao o.t.l.length o.cap) ∧ (c5 = .slice o.go o.gs.length o.gc ∧ c6 = .int .i64 o.v ∧ c7 = .slice o.co o.is.length o.cc ∧ c8 = .bool o.f ∧ c9 = .int .i64 o.n) ∧ o.Ok W := by
  obtain ⟨xs, m, _, hxs, _, hxl, hf⟩ := DataW.trod_struct Try.underlying39 h
  obtain ⟨y0, y1, y2, y3, y4, y5, y6, rfl⟩ : ∃ y0 y1 y2 y3 y4 y5 y6, xs = [y0, y1, y2, y3, y4, y5, y6] := by
    match xs, hxl with
    | [y0, y1, y2, y3, y4, y5, y6], _ => exact ⟨y0, y1, y2, y3, y4, y5, y6, rfl⟩
  have e0 : DataW.trod enc Try.prog W 0 (fun _ => true) held m 3 [c0] = some y0 := hf 0 _ rfl
  have e1 : DataW.trod enc Try.prog W 0 (fun _ => true) held m 34 [c1, c2, c3, c4, c5, c6] = some y1 := hf 1 _ rfl
  have e2 : DataW.trod enc Try.prog W 0 (fun _ => true) held m 35 [c7] = some y2 := hf 2 _ rfl
  have e3 : DataW.trod enc Try.prog W 0 (fun _ => true) held m 4 [c8] = some y3 := hf 3 _ rfl
  have e4 : DataW.trod enc Try.prog W 0 (fun _ => true) held m 3 [c9] = some y4 := hf 4 _ rfl
  have m1 : ∀ q ∈ y1.2, q ∈ x.2 := fun q hq => by rw [hxs]; simp [hq]
  have m2 : ∀ q ∈ y2.2, q ∈ x.2 := fun q hq => by rw [hxs]; simp [hq]
  obtain ⟨zs, m', _, hzs, _, hzl, hg⟩ := DataW.trod_struct Try.underlying34 e1
  obtain ⟨z0, z1, z2, rfl⟩ : ∃ z0 z1 z2, zs = [z0, z1, z2] := by
    match zs, hzl with
    | [z0, z1, z2], _ => exact ⟨z0, z1, z2, rfl⟩
  have f0 : DataW.trod enc Try.prog W 0 (fun _ => true) held m' 31 [c1, c2, c3, c4] = some z0 := hg 0 _ rfl
  have f1 : DataW.trod enc Try.prog W 0 (fun _ => true) held m' 32 [c5] = some z1 := hg 1 _ rfl
  have f2 : DataW.trod enc Try.prog W 0 (fun _ => true) held m' 3 [c6] = some z2 := hg 2 _ rfl
  have n0 : ∀ q ∈ z0.2, q ∈ x.2 := fun q hq => m1 q (by rw [hzs]; simp [hq])
  have n1 : ∀ q ∈ z1.2, q ∈ x.2 := fun q hq => m1 q (by rw [hzs]; simp [hq])
  obtain ⟨t, ao, cap, rfl, rfl, rfl, rfl, ht, hl⟩ := open_tm f0 (fun q hq => hlt q (n0 q hq)) (fun b off hq => hfz b off (n0 _ hq))
  obtain ⟨go, gs, gc, rfl, hgs⟩ := open_goals f1 (fun q hq => hlt q (n1 q hq)) (fun b off hq => hfz b off (n1 _ hq))
  obtain ⟨co, is, cc, rfl, hc0, hcs, hcb⟩ := open_code e2 (fun q hq => hlt q (m2 q hq))
  obtain ⟨k, r0, _, _⟩ := DataW.trod_int Try.underlying3 e0
  obtain ⟨f, r3, _⟩ := DataW.trod_bool Try.underlying4 e3
  obtain ⟨n, r4, _, _⟩ := DataW.trod_int Try.underlying3 e4
  obtain ⟨v, r5, _, _⟩ := DataW.trod_int Try.underlying3 f2
  simp only [List.cons.injEq, and_true] at r0 r3 r4 r5
  exact ⟨⟨k, t, ao, cap, go, gs, gc, v, co, is, cc, f, n⟩, ⟨r0, rfl, rfl, rfl, rfl⟩, ⟨rfl, r5, rfl, r3, r4⟩, ⟨ht, hl, hgs, hc0, hcs, hcb⟩⟩
set_option maxRecDepth 100000 in
theorem open_bos {r : Reach} {b0 : Nat} {v : Value} {d : DataW H} {p : List MemPlace}
    (hv : Value.okWide Try.prog W r b0 22 v) (h : DataW.Trod enc Try.prog W 0 (fun _ => true) held 22 v d p) (hlt : ∀ x ∈ p, x.block < W.heap.size) (hfz : W.noneFrozen p) : ∃ ao cap l, v = .slice ao (l : List BO).length cap ∧ ArgBO ao l W ∧ l.length ≤ maxLen := by
  obtain ⟨a0, len0, cap0, rfl⟩ := okWide_slice Try.underlying22 hv
  obtain ⟨fuel, hf⟩ := h
  have hf' : DataW.trod enc Try.prog W 0 (fun _ => true) held fuel 22 [.slice a0 len0 cap0] = some (d, p) := hf
  rcases DataW.trod_slice Try.underlying22 hf' with ⟨hcs, hx⟩ | ⟨a, len, cap, elems, rest, n, hxx, hcs, hm0, _, hl, hm, hlen, hel, _, _⟩
  · simp only [List.cons.injEq, and_true] at hcs
    exact ⟨none, 0, [], hcs, fun i x hx => by simp at hx, by simp⟩
  · simp only [List.cons.injEq, and_true] at hcs
    rw [hcs]
    simp only [Prod.mk.injEq] at hm0
    obtain ⟨_, rfl⟩ := hm0
    rw [cellsBop] at hel hlt hfz
    have each : ∀ i, i < len → ∃ q : BO, ((W.cell? (a.add (i * 14)) = some (.int .i64 q.k) ∧ W.cell? ((a.add (i * 14)).add 1) = some (.int .i64 q.t.k) ∧ W.cell? ((a.add (i * 14)).add 2) = some (.int .i64 q.t.n) ∧ W.cell? ((a.add (i * 14)).add 3) = some (.string q.t.s) ∧ W.cell? ((a.add (i * 14)).add 4) = some (.slice q.ao q.t.l.length q.cap)) ∧
        (W.cell? ((a.add (i * 14)).add 5) = some (.slice q.go q.gs.length q.gc) ∧ W.cell? ((a.add (i * 14)).add 6) = some (.int .i64 q.v) ∧ W.cell? ((a.add (i * 14)).add 7) = some (.slice q.co q.is.length q.cc) ∧ W.cell? ((a.add (i * 14)).add 8) = some (.bool q.f) ∧ W.cell? ((a.add (i * 14)).add 9) = some (.int .i64 q.n))) ∧ q.Ok W := by
      intro i hi
      have he := hel i hi
      rw [List.getElem?_eq_getElem (by omega)] at he
      obtain ⟨cs', hc', ht⟩ := Option.bind_eq_some_iff.1 he
      obtain ⟨hb1, hc1, hc2⟩ := World.cells?_some hc'
      obtain ⟨c0, c1, c2, c3, c4, c5, c6, c7, c8, c9, c10, c11, c12, c13, rfl⟩ := fourteen hc1
      obtain ⟨o, ⟨rfl, rfl, rfl, rfl, rfl⟩, ⟨rfl, rfl, rfl, rfl, rfl⟩, hok⟩ := open_bo ht (fun q hq => hlt q (List.mem_append_right _ (List.mem_flatMap.2 ⟨elems[i]'(by omega), List.mem_append_left _ (List.getElem_mem _), hq⟩))) (fun b off hq => hfz b off (List.mem_append_right _ (List.mem_flatMap.2 ⟨elems[i]'(by omega), List.mem_append_left _ (List.getElem_mem _), hq⟩)))
      have k0 := hc2 0 (by omega)
      exact ⟨o, ⟨⟨by simpa [Addr.add] using k0, hc2 1 (by omega), hc2 2 (by omega), hc2 3 (by omega), hc2 4 (by omega)⟩, hc2 5 (by omega), hc2 6 (by omega), hc2 7 (by omega), hc2 8 (by omega), hc2 9 (by omega)⟩, hok⟩
    have inh : Inhabited BO := ⟨⟨0, default, none, 0, none, [], 0, 0, none, [], 0, false, 0⟩⟩
    obtain ⟨f, hff⟩ := Deep.choose_lt each
    have hln : ((List.range len).map f).length = len := by simp
    refine ⟨some a, cap, (List.range len).map f, by rw [hln], fun i y hy => ?_, by rw [hln]; omega⟩
    have hi : i < len := by have := (List.getElem?_eq_some_iff.1 hy).1; omega
    have hyf : f i = y := by simpa [hi] using hy
    obtain ⟨⟨⟨g0, g1, g2, g3, g4⟩, g5, g6, g7, g8, g9⟩, hok⟩ := hff i hi
    rw [hyf] at g0 g1 g2 g3 g4 g5 g6 g7 g8 g9 hok
    obtain ⟨b, off, spot⟩ := a
    have hspot : spot = none := by simpa [Addr.add] using World.cell?_spot (hff 0 (by omega)).1.1.1
    subst hspot
    rw [adp] at g0
    rw [adp, adp] at g1 g2 g3 g4 g5 g6 g7 g8 g9
    exact ⟨b, off, rfl, hlt (.cell b off) (List.mem_append_left _ (MemPlace.mem_row.2 ⟨0, by omega, by simp⟩)), hok, ⟨g0, g1, g2, g3, g4⟩, g5, g6, g7, g8, g9⟩
end
end Go.Proofs.Ythfilpacmllhpab.bases
