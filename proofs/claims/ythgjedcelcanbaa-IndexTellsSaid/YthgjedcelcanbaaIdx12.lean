/- Selection by keys: the call first. -/
import Derived.Test.YthgjedcelcanbaaIdx11
namespace Go.Proofs.Ythgjedcelcanbaa.idx
set_option maxRecDepth 100000
open Go.RowKit Go.Proofs.Ythgjedcelcanbaa.own Go.Lib Go.Maps Go.WideMaps
abbrev zeW (w : World) : World := w.alloc (.cells #[.int .i64 0, .int .i64 0, .string ⟨#[]⟩, .int .i64 0, .int .i64 0] 60)
abbrev enW (w : World) (e : En) : World := w.alloc (.cells #[.int .i64 e.id, .int .i64 e.key.k, .string e.key.s, .int .i64 e.key.n, .int .i64 e.pl] 60)
set_option maxHeartbeats 8000000 in
theorem first_zero {b mr mi N : Nat} {L : List En} {lo hi : Int} {ks : Ks} {ao : Option Addr} {cap nr ni : Nat} {Dr : D2} {Di : D1} {w : World} (h : TabI b mr mi N L lo hi ks ao cap nr ni Dr Di w) (p : Int) (k : Ky) (hk : k.k = 0) :
    Calls Try.prog 25 #[.pointer (some ⟨b, 0, none⟩), .int .i64 p, kyV k] w fun e w' => e = .returned (.tuple #[enV ((firstF p k L).getD zE), .bool (firstF p k L).isSome]) ∧ Only (fun _ => False) w w' := by
  rw [first_any h.pl.rises hk]
  obtain ⟨A, hA⟩ : ∃ A, A = w.alloc (.cells #[.int .i64 k.k, .string k.s, .int .i64 k.n] 32) := ⟨_, rfl⟩
  obtain ⟨E, hE⟩ : ∃ E, E = A.alloc (.cells #[.int .i64 0, .int .i64 0, .string ⟨#[]⟩, .int .i64 0, .int .i64 0] 60) := ⟨_, rfl⟩
  have hA0 : A.heap.size = w.heap.size + 1 := by rw [hA]; simp
  have hx : Three w.heap.size k E := Three.only (w := A) (by unfold Three; rw [hA]; exact heap_alloc_new _ _) (by rw [hE]; exact Only.alloc (fun _ => False) _ _) (fun e => e)
  have HZ : Hid (Five (w.heap.size + 1) zE E) := Lib.hid (by rw [← hA0, hE]; exact Five.new A zE)
  have ho : Only (fun _ => False) w E := by rw [hE, hA]; exact (Only.alloc _ _ _).same (Only.alloc _ _ _)
  have HO := Lib.hid ho
  obtain ⟨x0, x1, x2⟩ := hx.cells
  obtain ⟨c0, c1, c2, c3, c4⟩ := (h.later ho).cells
  have hk' : (k.k == 0) = true := by simpa using hk
  have HFR : Hid (∀ W, Only (fun _ => False) w W → Calls Try.prog 33 #[.slice ao L.length cap, .int .i64 p] W fun r w' => r = .returned (.tuple #[enV ((fromF p L).getD zE), .bool (fromF p L).isSome]) ∧ Only (fun _ => False) W w') := Lib.hid (fun W o => from_any ao cap L p W ((h.later o).row) h.pl.rises (by have := h.few; omega))
  generalize fromF p L = F at *
  generalize F.getD zE = x at *
  generalize F.isSome = y at *
  generalize L.length = n at *
  rw [hA] at hE
  clear h hx ho hk hA hA0
  go_enter Try.func25, Try.ntmps25
  go_upto_region 1 with fail
  rw [← hE]
  clear hE
  go_wp2_with fail
  refine (HFR.out _ HO.out).mono ?_
  rintro e w1 ⟨rfl, ho1⟩
  have HO1 := Lib.hid (HO.out.same ho1)
  have HZ1 := Lib.hid (HZ.out.only ho1 (fun e => e))
  have HS := Lib.hid (HZ1.out.set x)
  clear ho1 x0 x1 x2 c0 c1 c2 c3 c4
  obtain ⟨z0, z1, z2, z3, z4⟩ := HZ1.out.cells
  obtain ⟨f0, f1, f2, f3, f4⟩ := HZ1.out.free
  go_wp2_with fail
  refine bodyPost_ret (v := .tuple #[enV x, .bool y]) (results_entry rfl _ _ (w.heap.size + 1) x _ rfl rfl HS.out.1) rfl ?_
  exact ⟨rfl, Only.cut HO1.out HS.out.2 (fun k e => by omega)⟩
set_option maxHeartbeats 16000000 in
theorem first_some {b mr mi N : Nat} {L : List En} {lo hi : Int} {ks : Ks} {ao : Option Addr} {cap nr ni : Nat} {Dr : D2} {Di : D1} {w : World} (h : TabI b mr mi N L lo hi ks ao cap nr ni Dr Di w) (p : Int) (k : Ky) (hko : k.Ok) (hk : k.k ≠ 0) :
    Calls Try.prog 25 #[.pointer (some ⟨b, 0, none⟩), .int .i64 p, kyV k] w fun e w' => e = .returned (.tuple #[enV ((firstF p k L).getD zE), .bool (firstF p k L).isSome]) ∧ Only (fun _ => False) w w' := by
  rw [first_two h.pl.rises (fun e he => (h.keys e he).2.2) hk]
  obtain ⟨A, hA⟩ : ∃ A, A = w.alloc (.cells #[.int .i64 k.k, .string k.s, .int .i64 k.n] 32) := ⟨_, rfl⟩
  obtain ⟨E, hE⟩ : ∃ E, E = A.alloc (.cells #[.int .i64 0, .int .i64 0, .string ⟨#[]⟩, .int .i64 0, .int .i64 0] 60) := ⟨_, rfl⟩
  have hA0 : A.heap.size = w.heap.size + 1 := by rw [hA]; simp
  have hx : Three w.heap.size k E := Three.only (w := A) (by unfold Three; rw [hA]; exact heap_alloc_new _ _) (by rw [hE]; exact Only.alloc (fun _ => False) _ _) (fun e => e)
  have HZ : Hid (Five (w.heap.size + 1) zE E) := Lib.hid (by rw [← hA0, hE]; exact Five.new A zE)
  have ho : Only (fun _ => False) w E := by rw [hE, hA]; exact (Only.alloc _ _ _).same (Only.alloc _ _ _)
  have HO := Lib.hid ho
  have HX := Lib.hid hx
  obtain ⟨x0, x1, x2⟩ := hx.cells
  obtain ⟨c0, c1, c2, c3, c4⟩ := (h.later ho).cells
  have hk' : (k.k == 0) = false := by simpa using hk
  obtain ⟨a1, p1, hl1, hr1, _⟩ := (h.later ho).look_row hko
  obtain ⟨a2, p2, hl2, hr2, _⟩ := (h.later ho).look_row zK_ok
  have HL2 := Lib.hid hl2
  have HF1 : Hid (∀ W, Only (fun _ => False) E W → Calls Try.prog 33 #[.slice a1 (cls k L).length p1, .int .i64 p] W fun r w' => r = .returned (.tuple #[enV ((fromF p (cls k L)).getD zE), .bool (fromF p (cls k L)).isSome]) ∧ Only (fun _ => False) W w') := Lib.hid (fun W o => from_any a1 p1 (cls k L) p W (hr1.later o) (cls_rises h.pl.rises) (by have := cls_len k L; have := h.few; omega))
  have HF2 : Hid (∀ W, Only (fun _ => False) E W → Calls Try.prog 33 #[.slice a2 (cls zK L).length p2, .int .i64 p] W fun r w' => r = .returned (.tuple #[enV ((fromF p (cls zK L)).getD zE), .bool (fromF p (cls zK L)).isSome]) ∧ Only (fun _ => False) W w') := Lib.hid (fun W o => from_any a2 p2 (cls zK L) p W (hr2.later o) (cls_rises h.pl.rises) (by have := cls_len zK L; have := h.few; omega))
  have hq1 := hl1 E.drew ((h.later ho).later (Only.drew _ _)).rkm
  have hq2 := hl1 (E.alloc (.cells #[.int .i64 0, .int .i64 0, .string ⟨#[]⟩, .int .i64 0, .int .i64 0] 60)).drew ((h.later ho).later ((Only.alloc _ _ _).same (Only.drew _ _))).rkm
  have HRM : Hid (∀ W, Only (fun _ => False) E W → W.ownsMap Try.prog 32 hdR mr nr Dr) := Lib.hid (fun W o => ((h.later ho).later o).rkm)
  have HC : Hid (∀ W, Only (fun _ => False) E W → W.cell? ⟨b, 1, none⟩ = some (.map (some mr)) ∧ W.cell? ⟨w.heap.size, 0, none⟩ = some (.int .i64 k.k) ∧ W.cell? ⟨w.heap.size, 1, none⟩ = some (.string k.s) ∧ W.cell? ⟨w.heap.size, 2, none⟩ = some (.int .i64 k.n)) := Lib.hid (fun W o => ⟨((h.later ho).later o).cells.2.1, (hx.only o (fun e => e)).cells⟩)
  generalize fromF p (cls k L) = F1 at *
  generalize fromF p (cls zK L) = F2 at *
  generalize (cls k L).length = n1 at *
  generalize (cls zK L).length = n2 at *
  obtain ⟨g1, hg1⟩ : ∃ g1, F1.getD zE = g1 := ⟨_, rfl⟩
  obtain ⟨g2, hg2⟩ : ∃ g2, F2.getD zE = g2 := ⟨_, rfl⟩
  obtain ⟨s1, hs1⟩ : ∃ s1, F1.isSome = s1 := ⟨_, rfl⟩
  obtain ⟨s2, hs2⟩ : ∃ s2, F2.isSome = s2 := ⟨_, rfl⟩
  simp only [hg1, hg2, hs1, hs2] at HF1 HF2
  have HPK : Hid ((pickF F1 F2).getD zE = (if s1 = false ∨ (s2 = true ∧ g2.pl < g1.pl) then g2 else g1) ∧ (pickF F1 F2).isSome = (if s1 = false ∨ (s2 = true ∧ g2.pl < g1.pl) then s2 else s1)) := Lib.hid (by
    cases F1 with
    | none => subst hg1 hg2 hs1 hs2; simp [pickF]
    | some x1 =>
      cases F2 with
      | none => subst hg1 hg2 hs1 hs2; simp [pickF]
      | some x2 =>
        subst hg1 hg2 hs1 hs2
        simp only [pickF, Option.getD_some, Option.isSome_some]
        by_cases hlt : x2.pl < x1.pl
        · rw [if_pos hlt, if_pos (by simp [hlt])]; simp
        · rw [if_neg hlt, if_neg (by simp [hlt])]; simp)
  generalize (pickF F1 F2).getD zE = gx at *
  generalize (pickF F1 F2).isSome = sx at *
  clear hg1 hg2 hs1 hs2
  rw [hA] at hE
  clear h hx ho hk hA hA0 hr1 hr2 hl1 hl2
  go_enter Try.func25, Try.ntmps25
  go_upto_region 1 with fail
  rw [← hE]
  clear hE
  go_upto_region 3 with fail
  go_cut [8, 9] (fun t8 s9 wx => ∃ b8, t8 = .pointer (some ⟨b8, 0, none⟩) ∧ s9 = .bool s1 ∧ Hid (Only (fun _ => False) E wx ∧ Five b8 g1 wx))
  case first =>
    go_region_held3 (fun W => W.cell? ⟨b, 1, none⟩ = some (.map (some mr)) ∧ W.cell? ⟨w.heap.size, 0, none⟩ = some (.int .i64 k.k) ∧ W.cell? ⟨w.heap.size, 1, none⟩ = some (.string k.s) ∧ W.cell? ⟨w.heap.size, 2, none⟩ = some (.int .i64 k.n)) (with_reducible first | exact HC.out _ HOS.out | exact HC.out _ HOu.out | exact HC.out _ (HOu.out.same (Only.alloc _ _ _)) | exact HC.out _ (Only.drew _ _) | exact HC.out _ ((Only.alloc _ _ _).same (Only.drew _ _))) (first
      | (go_at_call 33; first
        | ((with_reducible refine (HF1.out E.drew (Only.drew _ _)).mono ?_); rintro r u ⟨rfl, hou⟩; have HOu : Hid (Only (fun _ => False) E u) := Lib.hid ((Only.drew _ _).same hou); clear hou)
        | ((with_reducible refine (HF1.out _ ((Only.alloc _ _ _).same (Only.drew _ _))).mono ?_); rintro r u ⟨rfl, hou⟩; have HOu : Hid (Only (fun _ => False) E u) := Lib.hid (((Only.alloc _ _ _).same (Only.drew _ _)).same hou); have HZu : Hid (Five E.heap.size zE u) := Lib.hid (Five.only (b := E.heap.size) (e := zE) (heap_alloc_new E _) ((Only.drew _ _).same hou) (fun e => e)); have HSu := Lib.hid (HZu.out.set g1); have HOS := Lib.hid (Only.cut HOu.out HSu.out.2 (fun k e => by omega)); obtain ⟨d0, d1, d2, d3, d4⟩ := HZu.out.cells; obtain ⟨q0, q1, q2, q3, q4⟩ := HZu.out.free; clear hou)))
    all_goals
      go_wp2_with fail
      go_meet
      first
        | exact ⟨_, rfl, rfl, Lib.hid ⟨HOS.out, HSu.out.1⟩⟩
        | exact ⟨_, rfl, rfl, Lib.hid ⟨HOu.out.same (Only.alloc _ _ _), Five.new _ g1⟩⟩
  case rest =>
    obtain ⟨b8, rfl, rfl, hC⟩ := hcut
    have hq3 := HL2.out _ (HRM.out _ hC.out.1)
    simp only [kyV, zK] at hq3
    obtain ⟨m1, m2, m3, m4⟩ := HC.out _ hC.out.1
    clear hq1 hq2 x0 x1 x2 c0 c1 c2 c3 c4
    go_wp2_with fail
    refine (HF2.out _ hC.out.1).mono ?_
    rintro r u2 ⟨rfl, hou2⟩
    have HO2 : Hid (Only (fun _ => False) E (enW u2 g2)) := Lib.hid (hC.out.1.same (hou2.same (Only.alloc _ _ _)))
    have HG1 : Hid (Five b8 g1 (enW u2 g2)) := Lib.hid (hC.out.2.only (hou2.same (Only.alloc _ _ _)) (fun e => e))
    have HG2 : Hid (Five u2.heap.size g2 (enW u2 g2)) := Lib.hid (Five.new u2 g2)
    have HZ2 := Lib.hid (HZ.out.only HO2.out (fun e => e))
    have HS1 := Lib.hid (HZ2.out.set g1)
    have HS2 := Lib.hid (HZ2.out.set g2)
    clear hou2 m1 m2 m3 m4 hq3
    obtain ⟨y0, y1, y2, y3, y4⟩ := HG1.out.cells
    obtain ⟨v0, v1, v2, v3, v4⟩ := HG2.out.cells
    obtain ⟨z0, z1, z2, z3, z4⟩ := HZ2.out.cells
    obtain ⟨q0, q1, q2, q3, q4⟩ := HZ2.out.free
    have hfin1 : Hid (Only (fun _ => False) w (fiveW (enW u2 g2) (w.heap.size + 1) g1)) := Lib.hid (Only.cut (HO.out.same HO2.out) HS1.out.2 (fun k e => by omega))
    have hfin2 : Hid (Only (fun _ => False) w (fiveW (enW u2 g2) (w.heap.size + 1) g2)) := Lib.hid (Only.cut (HO.out.same HO2.out) HS2.out.2 (fun k e => by omega))
    cases s1 with
    | false =>
      have he1 : gx = g2 := HPK.out.1
      have he2 : sx = s2 := HPK.out.2
      go_upto_region 5 with fail
      go_wp2_with fail
      rw [he1, he2]
      refine bodyPost_ret (v := .tuple #[enV g2, .bool s2]) (results_entry rfl _ _ (w.heap.size + 1) g2 _ rfl rfl HS2.out.1) rfl ?_
      exact ⟨rfl, hfin2.out⟩
    | true =>
      cases s2 with
      | false =>
        have he1 : gx = g1 := by rw [HPK.out.1, if_neg (by simp)]
        have he2 : sx = true := by rw [HPK.out.2, if_neg (by simp)]
        go_upto_region 5 with fail
        go_wp2_with fail
        rw [he1, he2]
        refine bodyPost_ret (v := .tuple #[enV g1, .bool true]) (results_entry rfl _ _ (w.heap.size + 1) g1 _ rfl rfl HS1.out.1) rfl ?_
        exact ⟨rfl, hfin1.out⟩
      | true =>
        by_cases hlt : g2.pl < g1.pl
        · have he1 : gx = g2 := by rw [HPK.out.1, if_pos (by simp [hlt])]
          have he2 : sx = true := by rw [HPK.out.2, if_pos (by simp [hlt])]
          go_upto_region 5 with fail
          go_wp2_with fail
          rw [he1, he2]
          refine bodyPost_ret (v := .tuple #[enV g2, .bool true]) (results_entry rfl _ _ (w.heap.size + 1) g2 _ rfl rfl HS2.out.1) rfl ?_
          exact ⟨rfl, hfin2.out⟩
        · have he1 : gx = g1 := by rw [HPK.out.1, if_neg (by simp [hlt])]
          have he2 : sx = true := by rw [HPK.out.2, if_neg (by simp [hlt])]
          go_upto_region 5 with fail
          go_wp2_with fail
          rw [he1, he2]
          refine bodyPost_ret (v := .tuple #[enV g1, .bool true]) (results_entry rfl _ _ (w.heap.size + 1) g1 _ rfl rfl HS1.out.1) rfl ?_
          exact ⟨rfl, hfin1.out⟩
end Go.Proofs.Ythgjedcelcanbaa.idx
