/- Selection by keys: the call All. -/
import Derived.Test.YthgjedcelcanbaaIdx13
namespace Go.Proofs.Ythgjedcelcanbaa.idx
set_option maxRecDepth 100000
open Go.RowKit Go.Proofs.Ythgjedcelcanbaa.own Go.Lib Go.Maps Go.WideMaps
def encN (i : Int) : List Value := [.int .i64 i]
theorem liesN : Lies encN 1 := ⟨fun _ => rfl, by
  intro x u hu
  simp [encN] at hu
  rw [hu]; rfl, by omega⟩
theorem infoN : (Try.prog.info? 3).map (fun i => (i.zero, i.size, i.bytes)) = some (some (.int .i64 0), 1, 8) := by kernel_rfl
abbrev RowN (B : Nat) (ao : Option Addr) (cap : Nat) (xs : List Int) (w : World) : Prop := RowOf encN 1 3 B ao cap xs w
theorem row_apart {α : Type} {enc : α → List Value} {s E B : Nat} {ao : Option Addr} {cap : Nat} {xs : List α} {w : World} {b : Nat} {cs : Array Value} {t : TypeId} (h : RowOf enc s E B ao cap xs w) (hb : w.heap[b]? = some (.cells cs t (0, 0))) (hne : t ≠ E) : ¬ RowAt ao b := by
  rintro ⟨g, hg, e⟩
  rcases h.2 with ⟨h1, _⟩ | ⟨g', cap', cur, hv, _, hbb, _⟩
  · simp only [Value.slice.injEq] at h1
    rw [h1.1] at hg; cases hg
  · simp only [Value.slice.injEq] at hv
    rw [hv.1] at hg
    cases hg
    have e' : b = g' := e
    rw [e', hbb] at hb
    injection hb with hb
    injection hb with _ h2 _
    exact hne h2.symm
set_option maxHeartbeats 16000000 in
theorem all_any {b mr mi N : Nat} {L : List En} {lo hi : Int} {ks : Ks} {ao : Option Addr} {cap nr ni : Nat} {Dr : D2} {Di : D1} {w : World} (h : TabI b mr mi N L lo hi ks ao cap nr ni Dr Di w) (k : Ky) (hko : k.Ok) :
    Calls Try.prog 11 #[.pointer (some ⟨b, 0, none⟩), kyV k] w fun e w' => ∃ a c, e = .returned (.slice a (metF k L).length c) ∧ RowN w.heap.size a c ((metF k L).map (·.id)) w' ∧ Only (fun _ => False) w w' := by
  obtain ⟨E, hE⟩ : ∃ E, E = w.alloc (.cells #[.int .i64 k.k, .string k.s, .int .i64 k.n] 32) := ⟨_, rfl⟩
  have hE0 : E.heap.size = w.heap.size + 1 := by rw [hE]; simp
  have hx : Three w.heap.size k E := by unfold Three; rw [hE]; exact heap_alloc_new _ _
  have ho : Only (fun _ => False) w E := by rw [hE]; exact Only.alloc _ _ _
  have HO := Lib.hid ho
  have HX := Lib.hid hx
  have HE0 := Lib.hid hE0
  have HCL := Lib.hid (closed_no (h.later ho))
  have HC : Hid (∀ W, Only (fun _ => False) E W → W.cell? ⟨b, 3, none⟩ = some (.int .i64 lo) ∧ W.cell? ⟨w.heap.size, 0, none⟩ = some (.int .i64 k.k) ∧ W.cell? ⟨w.heap.size, 1, none⟩ = some (.string k.s) ∧ W.cell? ⟨w.heap.size, 2, none⟩ = some (.int .i64 k.n)) := Lib.hid (fun W o => ⟨((h.later ho).later o).cells.2.2.2.1, (hx.only o (fun e => e)).cells⟩)
  obtain ⟨M, hM⟩ : ∃ M, M = metF k L := ⟨_, rfl⟩
  have HF0 : Hid (∀ W, Only (fun _ => False) E W → Calls Try.prog 25 #[.pointer (some ⟨b, 0, none⟩), .int .i64 lo, kyV k] W fun e w' => e = .returned (.tuple #[enV ((M[0]?).getD zE), .bool (M[0]?).isSome]) ∧ Only (fun _ => False) W w') := Lib.hid (fun W o => by
    rw [hM, ← first_low h.pl]
    exact first_call ((h.later ho).later o) lo k hko)
  have HF : Hid (∀ (j : Nat) (x : En) (W : World), M[j]? = some x → Only (fun _ => False) w W → Calls Try.prog 25 #[.pointer (some ⟨b, 0, none⟩), .int .i64 (x.pl + 1), kyV k] W fun e w' => e = .returned (.tuple #[enV ((M[j + 1]?).getD zE), .bool (M[j + 1]?).isSome]) ∧ Only (fun _ => False) W w') := Lib.hid (fun j x W hj o => by
    rw [hM] at hj ⊢
    rw [← first_next h.pl.rises hj]
    exact first_call (h.later o) _ k hko)
  have HW : Hid (∀ (j : Nat) (x : En), M[j]? = some x → IntKind.i64.wrap (x.pl + 1) = x.pl + 1) := Lib.hid (fun j x hj => by
    rw [hM] at hj
    have hm : x ∈ L := (List.mem_filter.1 (List.mem_of_getElem? hj)).1
    have := h.pl.low x hm
    have := h.pl.high x hm
    have := h.nums
    exact IntWalk.i64_in _ (by omega))
  have HML : Hid (M.length ≤ 4096) := Lib.hid (by rw [hM]; exact Nat.le_trans (List.length_filter_le _ _) h.few)
  rw [← hM]
  obtain ⟨i0, hi0, hz0, hz1, hz2⟩ := info_parts infoN
  clear h hx ho hko hM hE0
  go_enter Try.func11, Try.ntmps11
  go_upto_region 1 with fail
  rw [← hE]
  clear hE
  go_wp2_with fail
  refine HCL.out.mono ?_
  rintro e w1 ⟨rfl, rfl⟩
  go_upto_region 4 with fail
  go_cut [6, 7] (fun t6 s7 wx => ∃ b6, t6 = .pointer (some ⟨b6, 0, none⟩) ∧ s7 = .bool (M[0]?).isSome ∧ Hid (Only (fun _ => False) w1 wx ∧ Five b6 ((M[0]?).getD zE) wx ∧ w1.heap.size ≤ b6))
  case first =>
    generalize (M[0]?).getD zE = x at *
    generalize (M[0]?).isSome = y at *
    go_region_held3 (fun W => W.cell? ⟨b, 3, none⟩ = some (.int .i64 lo) ∧ W.cell? ⟨w.heap.size, 0, none⟩ = some (.int .i64 k.k) ∧ W.cell? ⟨w.heap.size, 1, none⟩ = some (.string k.s) ∧ W.cell? ⟨w.heap.size, 2, none⟩ = some (.int .i64 k.n)) (with_reducible first | exact HC.out _ HOS.out | exact HC.out _ HOu.out | exact HC.out _ (HOu.out.same (Only.alloc _ _ _)) | exact HC.out _ (Only.drew _ _) | exact HC.out _ ((Only.alloc _ _ _).same (Only.drew _ _))) (first
      | (go_at_call 25; first
        | ((with_reducible refine (HF0.out w1.drew (Only.drew _ _)).mono ?_); rintro r u ⟨rfl, hou⟩; have HOu : Hid (Only (fun _ => False) w1 u) := Lib.hid ((Only.drew _ _).same hou); clear hou)
        | ((with_reducible refine (HF0.out _ ((Only.alloc _ _ _).same (Only.drew _ _))).mono ?_); rintro r u ⟨rfl, hou⟩; have HOu : Hid (Only (fun _ => False) w1 u) := Lib.hid (((Only.alloc _ _ _).same (Only.drew _ _)).same hou); have HZu : Hid (Five w1.heap.size zE u) := Lib.hid (Five.only (b := w1.heap.size) (e := zE) (heap_alloc_new w1 _) ((Only.drew _ _).same hou) (fun e => e)); have HSu := Lib.hid (HZu.out.set x); have HOS := Lib.hid (Only.cut HOu.out HSu.out.2 (fun k e => by omega)); obtain ⟨d0, d1, d2, d3, d4⟩ := HZu.out.cells; obtain ⟨q0, q1, q2, q3, q4⟩ := HZu.out.free; clear hou)))
    all_goals
      go_wp2_with fail
      go_meet
      first
        | exact ⟨_, rfl, rfl, Lib.hid ⟨HOS.out, HSu.out.1, Nat.le_refl _⟩⟩
        | exact ⟨_, rfl, rfl, Lib.hid ⟨HOu.out.same (Only.alloc _ _ _), Five.new _ x, HOu.out.size⟩⟩
  case rest =>
    obtain ⟨b6, rfl, rfl, hC⟩ := hcut
    have HI0 : Hid (Only (fun _ => False) w wc ∧ Five b6 ((M[0]?).getD zE) wc ∧ Three w.heap.size k wc ∧ w.heap.size + 1 ≤ b6) := Lib.hid ⟨HO.out.same hC.out.1, hC.out.2.1, HX.out.only hC.out.1 (fun e => e), by have := hC.out.2.2; have := HE0.out; omega⟩
    clear hC HF0 HX HC HCL
    go_wp2_with fail
    go_loopw [5, 7] (fun s5 s7 wr => ∃ (j : Nat) (a : Option Addr) (c : Nat), s5 = .slice a j c ∧ s7 = .bool (M[j]?).isSome ∧ j ≤ M.length ∧ Hid (Only (fun _ => False) w wr ∧ Five b6 ((M[j]?).getD zE) wr ∧ Three w.heap.size k wr ∧ RowN w.heap.size a c ((M.take j).map (·.id)) wr)) (fun s5 _ _ => M.length - (match s5 with | .slice _ n _ => n | _ => 0))
    case atStart => exact ⟨0, none, 0, rfl, rfl, Nat.zero_le _, Lib.hid ⟨HI0.out.1, HI0.out.2.1, HI0.out.2.2.1, RowOf.nil _ _ _ _ _⟩⟩
    case round =>
      obtain ⟨j, a, c, rfl, rfl, hj, hI⟩ := hrel
      cases hm : M[j]? with
      | none =>
        have hjl : j = M.length := by
          rcases Nat.lt_or_ge j M.length with h | h
          · rw [List.getElem?_eq_getElem h] at hm; cases hm
          · omega
        subst hjl
        have HFN : Hid (RowN w.heap.size a c (M.map (·.id)) wr ∧ Only (fun _ => False) w wr) := Lib.hid (by have := hI.out; rw [List.take_length] at this; exact ⟨this.2.2.2, this.1⟩)
        simp only [Option.isSome_none]
        clear hm hI
        go_wp2_with fail
        go_ret
        exact ⟨a, c, rfl, HFN.out.1, HFN.out.2⟩
      | some x =>
        have hjl : j < M.length := (List.getElem?_eq_some_iff.1 hm).1
        have HI : Hid (Only (fun _ => False) w wr ∧ Five b6 x wr ∧ Three w.heap.size k wr ∧ RowN w.heap.size a c ((M.take j).map (·.id)) wr) := Lib.hid (by have := hI.out; rw [hm] at this; exact this)
        have HT : Hid ((M.take (j + 1)).map (·.id) = (M.take j).map (·.id) ++ [x.id] ∧ ((M.take j).map (·.id)).length = j) := Lib.hid (by
          refine ⟨?_, by rw [List.length_map, List.length_take]; omega⟩
          rw [List.take_add_one, hm]
          simp)
        have HFX := Lib.hid (fun W o => HF.out j x W hm o)
        have hw := HW.out j x hm
        have HJ := Lib.hid hjl
        simp only [Option.isSome_some]
        obtain ⟨y0, y1, y2, y3, y4⟩ := HI.out.2.1.cells
        clear hm hI
        go_wp2_with (first
          | (at_builtin; refine wp_append_one liesN (by rfl) (.tmp 21) (.tmp 24) 37 (by rfl) w.heap.size 3 i0 _ 8 Try.underlying37 hi0 hz0 hz1 hz2 rfl (by omega) wr a c ((M.take j).map (·.id)) x.id [.int .i64 x.id] rfl (by rw [HT.out.2]; rfl) HI.out.2.2.2 (by rfl) (by rw [HT.out.2]; have := HML.out; omega) HI.out.1.size ?_
             intro a2 c2 w2 hrow2 ho2 hnew2
             have hna6 := row_apart HI.out.2.2.2 HI.out.2.1 (by decide)
             have hnak := row_apart HI.out.2.2.2 HI.out.2.2.1 (by decide)
             have HR2 : Hid (RowN w.heap.size a2 c2 ((M.take (j + 1)).map (·.id)) w2) := Lib.hid (by rw [HT.out.1]; exact hrow2)
             have HO2 : Hid (Only (fun _ => False) w w2) := Lib.hid (Only.cut HI.out.1 ho2 (by rintro q ⟨g, hg, e⟩; have := (HI.out.2.2.2.head g hg).2.1; omega))
             have HB2 : Hid (Five b6 x w2 ∧ Three w.heap.size k w2) := Lib.hid ⟨HI.out.2.1.only ho2 hna6, HI.out.2.2.1.only ho2 hnak⟩
             obtain ⟨v0, v1, v2, v3, v4⟩ := HB2.out.1.cells
             obtain ⟨m0, m1, m2⟩ := HB2.out.2.cells
             have hlen2 : ((M.take j).map (·.id) ++ [x.id]).length = j + 1 := by simp; omega
             rw [hlen2]
             clear hrow2 ho2 hnew2 hna6 hnak hlen2)
          | fail)
        refine (HFX.out _ HO2.out).mono ?_
        rintro r u ⟨rfl, hou⟩
        have HBU := Lib.hid (HB2.out.1.only hou (fun e => e))
        have HKU := Lib.hid (HB2.out.2.only hou (fun e => e))
        have HSU := Lib.hid (HBU.out.set ((M[j + 1]?).getD zE))
        have HOU : Hid (Only (fun _ => False) w (fiveW u b6 ((M[j + 1]?).getD zE))) := Lib.hid (Only.cut (HO2.out.same hou) HSU.out.2 (fun q e => by have := HI0.out.2.2.2; omega))
        have HRU : Hid (RowN w.heap.size a2 c2 ((M.take (j + 1)).map (·.id)) (fiveW u b6 ((M[j + 1]?).getD zE))) := Lib.hid ((HR2.out.only hou (fun _ _ e => e)).only HSU.out.2 (fun g hg e => row_apart (HR2.out.only hou (fun _ _ e => e)) HBU.out (by decide) ⟨g, hg, e.symm⟩))
        have HKS : Hid (Three w.heap.size k (fiveW u b6 ((M[j + 1]?).getD zE))) := Lib.hid (HKU.out.only HSU.out.2 (fun e => by have := HI0.out.2.2.2; omega))
        have HFS : Hid (Five b6 ((M[j + 1]?).getD zE) (fiveW u b6 ((M[j + 1]?).getD zE))) := Lib.hid HSU.out.1
        clear hou v0 v1 v2 v3 v4 m0 m1 m2 y0 y1 y2 y3 y4 HSU
        obtain ⟨d0, d1, d2, d3, d4⟩ := HBU.out.cells
        obtain ⟨q0, q1, q2, q3, q4⟩ := HBU.out.free
        have HSM : Hid ((M[j + 1]?).isSome = (M[j + 1]?).isSome) := Lib.hid rfl
        go_wp2_with fail
        go_roundw
        case rel => exact ⟨j + 1, a2, c2, rfl, rfl, by have := HJ.out; omega, Lib.hid ⟨HOU.out, HFS.out, HKS.out, HRU.out⟩⟩
        case measure => have := HJ.out; simp; omega
end Go.Proofs.Ythgjedcelcanbaa.idx
