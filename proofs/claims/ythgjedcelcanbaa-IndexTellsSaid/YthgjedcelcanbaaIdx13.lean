/- Selection by keys: the calls Head and Next. -/
import Derived.Test.YthgjedcelcanbaaIdx12
namespace Go.Proofs.Ythgjedcelcanbaa.idx
set_option maxRecDepth 100000
open Go.RowKit Go.Proofs.Ythgjedcelcanbaa.own Go.Lib Go.Maps Go.WideMaps
section
variable {b mr mi N : Nat} {L : List En} {lo hi : Int} {ks : Ks} {ao : Option Addr} {cap nr ni : Nat} {Dr : D2} {Di : D1} {w : World}
theorem first_call (h : TabI b mr mi N L lo hi ks ao cap nr ni Dr Di w) (p : Int) (k : Ky) (hko : k.Ok) :
    Calls Try.prog 25 #[.pointer (some ⟨b, 0, none⟩), .int .i64 p, kyV k] w fun e w' => e = .returned (.tuple #[enV ((firstF p k L).getD zE), .bool (firstF p k L).isSome]) ∧ Only (fun _ => False) w w' := by
  by_cases hk : k.k = 0
  · exact first_zero h p k hk
  · exact first_some h p k hko hk
/-- The entries that a key meets. -/
def metF (k : Ky) (L : List En) : List En := L.filter (fun e => meetB e.key k)
theorem met_rises {k : Ky} (h : Rises L) : Rises (metF k L) := h.sublist List.filter_sublist
theorem first_met {p : Int} {k : Ky} (h : Rises L) : firstF p k L = fromF p (metF k L) := by
  rw [from_find (met_rises h)]
  unfold metF firstF
  rw [List.find?_filter]
  apply find_congr
  intro e _
  cases meetB e.key k <;> simp
theorem first_low {k : Ky} (h : Between L lo hi) : firstF lo k L = (metF k L)[0]? := by
  rw [first_met h.rises]
  unfold fromF
  rw [cnt_none (xs := metF k L) (fun x hx => Int.le_of_lt (h.low x (List.mem_filter.1 hx).1))]
theorem cnt_next {M : List En} (h : Rises M) {j : Nat} {x : En} (hx : M[j]? = some x) : cntF (x.pl + 1) M = j + 1 := by
  refine cnt_at _ M (j + 1) ?_ (fun t y ht hy => ?_) (fun t y ht hy => ?_)
  · have := (List.getElem?_eq_some_iff.1 hx).1; omega
  · have := h.le hy hx (by omega); omega
  · have := h.at hx hy (by omega); omega
theorem first_next {k : Ky} (h : Rises L) {j : Nat} {x : En} (hx : (metF k L)[j]? = some x) : firstF (x.pl + 1) k L = (metF k L)[j + 1]? := by
  rw [first_met h]
  unfold fromF
  rw [cnt_next (met_rises h) hx]
set_option maxHeartbeats 4000000 in
theorem head_any (h : TabI b mr mi N L lo hi ks ao cap nr ni Dr Di w) (k : Ky) (hko : k.Ok) :
    Calls Try.prog 15 #[.pointer (some ⟨b, 0, none⟩), kyV k] w fun e w' => e = .returned (.tuple #[.int .i64 ((firstF lo k L).getD zE).id, .bool (firstF lo k L).isSome]) ∧ Only (fun _ => False) w w' := by
  obtain ⟨E, hE⟩ : ∃ E, E = w.alloc (.cells #[.int .i64 k.k, .string k.s, .int .i64 k.n] 32) := ⟨_, rfl⟩
  have hx : Three w.heap.size k E := by unfold Three; rw [hE]; exact heap_alloc_new _ _
  have ho : Only (fun _ => False) w E := by rw [hE]; exact Only.alloc _ _ _
  have HO := Lib.hid ho
  have HCL := Lib.hid (closed_no (h.later ho))
  have HC : Hid (∀ W, Only (fun _ => False) E W → W.cell? ⟨b, 3, none⟩ = some (.int .i64 lo) ∧ W.cell? ⟨w.heap.size, 0, none⟩ = some (.int .i64 k.k) ∧ W.cell? ⟨w.heap.size, 1, none⟩ = some (.string k.s) ∧ W.cell? ⟨w.heap.size, 2, none⟩ = some (.int .i64 k.n)) := Lib.hid (fun W o => ⟨((h.later ho).later o).cells.2.2.2.1, (hx.only o (fun e => e)).cells⟩)
  have HF : Hid (∀ W, Only (fun _ => False) E W → Calls Try.prog 25 #[.pointer (some ⟨b, 0, none⟩), .int .i64 lo, kyV k] W fun e w' => e = .returned (.tuple #[enV ((firstF lo k L).getD zE), .bool (firstF lo k L).isSome]) ∧ Only (fun _ => False) W w') := Lib.hid (fun W o => first_call ((h.later ho).later o) lo k hko)
  generalize (firstF lo k L).getD zE = x at *
  generalize (firstF lo k L).isSome = y at *
  clear h hx ho hko
  go_enter Try.func15, Try.ntmps15
  go_upto_region 1 with fail
  rw [← hE]
  clear hE
  go_wp2_with fail
  refine HCL.out.mono ?_
  rintro e w1 ⟨rfl, rfl⟩
  go_upto_region 3 with fail
  go_cut [6, 7] (fun t6 s7 wx => ∃ b6, t6 = .pointer (some ⟨b6, 0, none⟩) ∧ s7 = .bool y ∧ Hid (Only (fun _ => False) w1 wx ∧ Five b6 x wx))
  case first =>
    go_region_held3 (fun W => W.cell? ⟨b, 3, none⟩ = some (.int .i64 lo) ∧ W.cell? ⟨w.heap.size, 0, none⟩ = some (.int .i64 k.k) ∧ W.cell? ⟨w.heap.size, 1, none⟩ = some (.string k.s) ∧ W.cell? ⟨w.heap.size, 2, none⟩ = some (.int .i64 k.n)) (with_reducible first | exact HC.out _ HOS.out | exact HC.out _ HOu.out | exact HC.out _ (HOu.out.same (Only.alloc _ _ _)) | exact HC.out _ (Only.drew _ _) | exact HC.out _ ((Only.alloc _ _ _).same (Only.drew _ _))) (first
      | (go_at_call 25; first
        | ((with_reducible refine (HF.out w1.drew (Only.drew _ _)).mono ?_); rintro r u ⟨rfl, hou⟩; have HOu : Hid (Only (fun _ => False) w1 u) := Lib.hid ((Only.drew _ _).same hou); clear hou)
        | ((with_reducible refine (HF.out _ ((Only.alloc _ _ _).same (Only.drew _ _))).mono ?_); rintro r u ⟨rfl, hou⟩; have HOu : Hid (Only (fun _ => False) w1 u) := Lib.hid (((Only.alloc _ _ _).same (Only.drew _ _)).same hou); have HZu : Hid (Five w1.heap.size zE u) := Lib.hid (Five.only (b := w1.heap.size) (e := zE) (heap_alloc_new w1 _) ((Only.drew _ _).same hou) (fun e => e)); have HSu := Lib.hid (HZu.out.set x); have HOS := Lib.hid (Only.cut HOu.out HSu.out.2 (fun k e => by omega)); obtain ⟨d0, d1, d2, d3, d4⟩ := HZu.out.cells; obtain ⟨q0, q1, q2, q3, q4⟩ := HZu.out.free; clear hou)))
    all_goals
      go_wp2_with fail
      go_meet
      first
        | exact ⟨_, rfl, rfl, Lib.hid ⟨HOS.out, HSu.out.1⟩⟩
        | exact ⟨_, rfl, rfl, Lib.hid ⟨HOu.out.same (Only.alloc _ _ _), Five.new _ x⟩⟩
  case rest =>
    obtain ⟨b6, rfl, rfl, hC⟩ := hcut
    obtain ⟨y0, y1, y2, y3, y4⟩ := hC.out.2.cells
    go_wp2_with fail
    go_ret2
    exact ⟨rfl, HO.out.same hC.out.1⟩
/-- What Next answers. -/
def nextF (i : Int) (k : Ky) (L : List En) : Option En := match idF i L with
  | none => none
  | some e => firstF (e.pl + 1) k L
set_option maxHeartbeats 8000000 in
theorem next_any (h : TabI b mr mi N L lo hi ks ao cap nr ni Dr Di w) (i : Int) (hi : Fit i) (k : Ky) (hko : k.Ok) :
    Calls Try.prog 16 #[.pointer (some ⟨b, 0, none⟩), .int .i64 i, kyV k] w fun e w' => e = .returned (.tuple #[.int .i64 ((nextF i k L).getD zE).id, .bool (nextF i k L).isSome]) ∧ Only (fun _ => False) w w' := by
  obtain ⟨E, hE⟩ : ∃ E, E = w.alloc (.cells #[.int .i64 k.k, .string k.s, .int .i64 k.n] 32) := ⟨_, rfl⟩
  have hx : Three w.heap.size k E := by unfold Three; rw [hE]; exact heap_alloc_new _ _
  have ho : Only (fun _ => False) w E := by rw [hE]; exact Only.alloc _ _ _
  have HO := Lib.hid ho
  have HCL := Lib.hid (closed_no (h.later ho))
  obtain ⟨c0, c1, c2, c3, c4⟩ := (h.later ho).cells
  have hlk := (h.later ho).look_id hi
  have HX := Lib.hid hx
  have HH := Lib.hid h
  cases hf : idF i L with
  | none =>
    have he : nextF i k L = none := by unfold nextF; rw [hf]
    rw [hf] at hlk
    rw [he]
    simp only [Option.getD_none, Option.isSome_none, zE] at hlk
    clear h hx ho hko hf he
    go_enter Try.func16, Try.ntmps16
    go_upto_region 1 with fail
    rw [← hE]
    clear hE
    go_wp2_with fail
    refine HCL.out.mono ?_
    rintro e w1 ⟨rfl, rfl⟩
    go_wp2_with fail
    go_ret2
    exact ⟨rfl, HO.out.same (Only.alloc _ _ _)⟩
  | some x =>
    have he : nextF i k L = firstF (x.pl + 1) k L := by unfold nextF; rw [hf]
    rw [hf] at hlk
    simp only [Option.getD_some, Option.isSome_some] at hlk
    rw [he]
    have hxm := (idF_some hf).1
    have hb1 := h.pl.low x hxm
    have hb2 := h.pl.high x hxm
    have hn := h.nums
    have hw : IntKind.i64.wrap (x.pl + 1) = x.pl + 1 := IntWalk.i64_in _ (by omega)
    have HF : Hid (∀ W, Only (fun _ => False) E W → Calls Try.prog 25 #[.pointer (some ⟨b, 0, none⟩), .int .i64 (x.pl + 1), kyV k] W fun e w' => e = .returned (.tuple #[enV ((firstF (x.pl + 1) k L).getD zE), .bool (firstF (x.pl + 1) k L).isSome]) ∧ Only (fun _ => False) W w') := Lib.hid (fun W o => first_call ((h.later ho).later o) _ k hko)
    generalize (firstF (x.pl + 1) k L).getD zE = gx at *
    generalize (firstF (x.pl + 1) k L).isSome = gy at *
    have HN : Hid (Only (fun _ => False) E (enW E x) ∧ Five E.heap.size x (enW E x)) := Lib.hid ⟨Only.alloc _ _ _, Five.new E x⟩
    obtain ⟨v0, v1, v2, v3, v4⟩ := HN.out.2.cells
    obtain ⟨m0, m1, m2⟩ := (HX.out.only HN.out.1 (fun e => e)).cells
    clear h hx ho hko hf he hxm hb1 hb2 hn
    go_enter Try.func16, Try.ntmps16
    go_upto_region 1 with fail
    rw [← hE]
    clear hE
    go_wp2_with fail
    refine HCL.out.mono ?_
    rintro e w1 ⟨rfl, rfl⟩
    go_wp2_with fail
    refine (HF.out _ HN.out.1).mono ?_
    rintro r u ⟨rfl, hou⟩
    have HU : Hid (Only (fun _ => False) w1 (enW u gx) ∧ Five u.heap.size gx (enW u gx)) := Lib.hid ⟨HN.out.1.same (hou.same (Only.alloc _ _ _)), Five.new u gx⟩
    obtain ⟨y0, y1, y2, y3, y4⟩ := HU.out.2.cells
    clear hou v0 v1 v2 v3 v4 m0 m1 m2 c0 c1 c2 c3 c4 hlk
    go_wp2_with fail
    go_ret2
    exact ⟨rfl, HO.out.same HU.out.1⟩
end
end Go.Proofs.Ythgjedcelcanbaa.idx
