
/- Terms: sound. -/
import Derived.Test.YtoogmlgaeipenaaTerm61
import Derived.Test.YtoogmlgaeipenaaTermRow
import Derived.Deep.LoopGhost
namespace Go.Proofs.Ytoogmlgaeipenaa.terms
set_option maxRecDepth 100000
open Go.RowKit Go.Proofs.Ytoogmlgaeipenaa.own Go.Maps
theorem WaysM.pop {w : World} {k : Nat} {so : Option Addr} {sc m : Nat} {xs : List Ls} {wr : World} (h : WaysM w k so sc xs wr) (hm : xs.length = m + 1) : ∃ ys x, xs = ys ++ [x] ∧ ys.length = m ∧ xs[m]? = some x ∧ WaysM w k so sc ys wr ∧ Row (fun q => q < w.heap.size ∧ q ≠ k) w x.ao x.l ∧ x.l.length ≤ maxLen := by
  obtain ⟨x, hx⟩ : ∃ x, xs[m]? = some x := ⟨_, List.getElem?_eq_getElem (by omega)⟩
  have e : xs = xs.take m ++ [x] := by
    have := take_snoc hx
    rw [← this, ← hm, List.take_length]
  have hr := h.row.take liesL m (by omega)
  exact ⟨xs.take m, x, e, by rw [List.length_take]; omega, hx, ⟨hr, h.own, fun y hy => h.lies y (List.mem_of_mem_take hy), h.set⟩, (h.lies x (List.mem_of_getElem? hx))⟩
/-- The first list under way: the term alone. -/
theorem WaysM.start {t : T} {w W2 : World} {ao : Option Addr} {cap m b : Nat} (hl : Lies w ao t.l) (hs : t.Sane) (ho : Only (fun _ => False) w W2) (hm : w.heap.size ≤ m) (hmap : W2.heap[m]? = some (.map #[] 0)) (hb : W2.heap[b]? = some (.cells #[.int .i64 t.k, .int .i64 t.n, .string t.s, .slice ao t.l.length cap] 24 (0, 0))) :
    WaysM W2 m (some ⟨W2.heap.size, 0, none⟩) 1 [⟨[t], some ⟨b, 0, none⟩, 1⟩] (W2.alloc (.cells #[.slice (some ⟨b, 0, none⟩) 1 1] 22)) := by
  have hbm : b ≠ m := by rintro rfl; rw [hb] at hmap; cases hmap
  have h1 := lt_of_block hb
  have h2 := ho.size
  have ho3 : Only (fun k => k = m) W2 (W2.alloc (.cells #[.slice (some ⟨b, 0, none⟩) 1 1] 22)) := Only.alloc _ _ _
  refine ⟨LsP.one (x := ⟨[t], some ⟨b, 0, none⟩, 1⟩) (Nat.le_refl _) (heap_alloc_new W2 _), ho3, fun x hx => ?_, ?_⟩
  · rw [List.mem_singleton.1 hx]
    refine ⟨?_, by simp [maxLen]⟩
    have h := Row.ofBlock (P := fun q => q < W2.heap.size ∧ q ≠ m) (its := [⟨t, ao, cap⟩]) hb (by simp [encIt]) ⟨h1, hbm⟩ (fun i x hx => by
      have hm := List.mem_of_getElem? hx
      rw [List.mem_singleton.1 hm]
      exact ⟨hs, (Row.only hl ho (fun _ e => e) (fun _ _ e => e)).mono (fun k hk => ⟨by omega, by omega⟩)⟩)
    exact h
  · exact ⟨#[], 0, by rw [(Only.alloc (fun _ => False) W2 _).block _ (lt_of_block hmap) (fun e => e)]; exact hmap, fun e he => by simp at he⟩
set_option maxRecDepth 100000 in
set_option maxHeartbeats 4000000 in
theorem sound_any (t : T) (w : World) (ao : Option Addr) (cap : Nat) (hl : Lies w ao t.l) (hs : t.Sane) (hz : t.size ≤ 900000) :
    Calls Try.prog 80 #[tv t ao cap] w fun e w' => (∃ b, e = .returned (.bool b)) ∧ Only (fun _ => False) w w' := by
  have hmk : ∀ W : World, (Instr.makeMap 128 none).run Try.prog W = .ok (.map (some W.heap.size)) (W.alloc (.map #[] 0)) := fun W => by first | rfl | simp [Instr.makeMap]
  have HZ := Lib.hid hz
  have HO2 : Hid (Only (fun _ => False) w (((w.alloc (.cells #[.int .i64 t.k, .int .i64 t.n, .string t.s, .slice ao t.l.length cap] 24)).alloc (.map #[] 0)).alloc (.cells #[.int .i64 t.k, .int .i64 t.n, .string t.s, .slice ao t.l.length cap] 24))) := Lib.hid (((Only.alloc _ _ _).same (Only.alloc _ _ _)).same (Only.alloc _ _ _))
  have HW0 : Hid (WaysM (((w.alloc (.cells #[.int .i64 t.k, .int .i64 t.n, .string t.s, .slice ao t.l.length cap] 24)).alloc (.map #[] 0)).alloc (.cells #[.int .i64 t.k, .int .i64 t.n, .string t.s, .slice ao t.l.length cap] 24)) (w.heap.size + 1) (some ⟨w.heap.size + 3, 0, none⟩) 1 [⟨[t], some ⟨w.heap.size + 2, 0, none⟩, 1⟩] ((((w.alloc (.cells #[.int .i64 t.k, .int .i64 t.n, .string t.s, .slice ao t.l.length cap] 24)).alloc (.map #[] 0)).alloc (.cells #[.int .i64 t.k, .int .i64 t.n, .string t.s, .slice ao t.l.length cap] 24)).alloc (.cells #[.slice (some ⟨w.heap.size + 2, 0, none⟩) 1 1] 22))) := by
    have hsA : (w.alloc (.cells #[.int .i64 t.k, .int .i64 t.n, .string t.s, .slice ao t.l.length cap] 24)).heap.size = w.heap.size + 1 := by simp
    have hsB : ((w.alloc (.cells #[.int .i64 t.k, .int .i64 t.n, .string t.s, .slice ao t.l.length cap] 24)).alloc (.map #[] 0)).heap.size = w.heap.size + 2 := by simp
    have hmp := heap_alloc_new (w.alloc (.cells #[.int .i64 t.k, .int .i64 t.n, .string t.s, .slice ao t.l.length cap] 24)) (.map #[] 0)
    rw [hsA] at hmp
    have hmp2 := ((Only.alloc (fun _ => False) ((w.alloc (.cells #[.int .i64 t.k, .int .i64 t.n, .string t.s, .slice ao t.l.length cap] 24)).alloc (.map #[] 0)) (.cells #[.int .i64 t.k, .int .i64 t.n, .string t.s, .slice ao t.l.length cap] 24)).block (w.heap.size + 1) (by rw [hsB]; omega) (fun e => e)).trans hmp
    have hbb := heap_alloc_new ((w.alloc (.cells #[.int .i64 t.k, .int .i64 t.n, .string t.s, .slice ao t.l.length cap] 24)).alloc (.map #[] 0)) (.cells #[.int .i64 t.k, .int .i64 t.n, .string t.s, .slice ao t.l.length cap] 24)
    rw [hsB] at hbb
    have h := WaysM.start (cap := cap) (m := w.heap.size + 1) (b := w.heap.size + 2) hl hs HO2.out (by omega) hmp2 hbb
    rw [show (((w.alloc (.cells #[.int .i64 t.k, .int .i64 t.n, .string t.s, .slice ao t.l.length cap] 24)).alloc (.map #[] 0)).alloc (.cells #[.int .i64 t.k, .int .i64 t.n, .string t.s, .slice ao t.l.length cap] 24)).heap.size = w.heap.size + 3 by simp] at h
    exact Lib.hid h
  have hw1 : wt [(⟨[t], some ⟨w.heap.size + 2, 0, none⟩, 1⟩ : Ls)] ≤ 1 + t.size := by rw [wt_one]; simp [sizes]
  clear hl hs hz
  go_enter Try.func80, Try.ntmps80
  go_wp2_with fail
  generalize ((w.alloc (.cells #[.int .i64 t.k, .int .i64 t.n, .string t.s, .slice ao t.l.length cap] 24)).alloc (.map #[] 0)).alloc (.cells #[.int .i64 t.k, .int .i64 t.n, .string t.s, .slice ao t.l.length cap] 24) = w2 at *
  have hx0 : [(⟨[t], some ⟨w.heap.size + 2, 0, none⟩, 1⟩ : Ls)].length = 1 := rfl
  generalize [(⟨[t], some ⟨w.heap.size + 2, 0, none⟩, 1⟩ : Ls)] = xs0 at *
  have HEND : Hid (∀ W, Only (fun q => q = w.heap.size + 1) w2 W → Only (fun _ => False) w W) := Lib.hid (fun W ho => Only.cut HO2.out ho (fun q e => by omega))
  go_loopg [4] (1 + t.size) (fun gk v4 wr => ∃ (k : Nat) (so : Option Addr) (sc : Nat) (xs : List Ls), v4 = .slice so k sc ∧ Hid (xs.length = k ∧ wt xs ≤ gk ∧ gk ≤ 1 + t.size ∧ WaysM w2 (w.heap.size + 1) so sc xs wr))
  case atStart => exact ⟨1, _, 1, xs0, rfl, Lib.hid ⟨hx0, hw1, Nat.le_refl _, HW0.out⟩⟩
  case round =>
    obtain ⟨k, so, sc, xs, rfl, hI⟩ := hrel
    clear HW0
    cases k with
    | zero =>
      go_wp2_with fail
      go_ret
      exact ⟨⟨true, rfl⟩, HEND.out _ hI.out.2.2.2.own⟩
    | succ k =>
      obtain ⟨ys, x, hxs, hys, hx, hW, hxl, hxlen⟩ := hI.out.2.2.2.pop hI.out.1
      obtain ⟨g, rfl, _, hcell⟩ := hI.out.2.2.2.row.at liesL k x hx
      have r0 := (hcell 0 (by omega)).1
      simp only [encL, List.getElem?_cons_zero, Nat.mul_one, Nat.add_zero] at r0
      have HXS := Lib.hid hxs
      have HYS := Lib.hid hys
      have HW := Lib.hid hW
      have HXL := Lib.hid hxl
      have hm0 : (0 : Int) < ((k + 1 : Nat) : Int) := by omega
      have hcap := hI.out.2.2.2.row.cap_ge
      rw [hI.out.1] at hcap
      have hcap1 := hcap.1
      have hcap2 := hcap.2
      unfold maxLen at hcap2 hxlen
      have hw1 : IntKind.i64.wrap (((k + 1 : Nat) : Int) - 1) = (k : Int) := by rw [show ((k + 1 : Nat) : Int) - 1 = (k : Int) by omega]; exact IntWalk.i64_in _ (by omega)
      clear hxs hys hx hW hxl hcap hcell
      go_wp2_with fail
      have HJ0 : Hid (Only (fun _ => False) wr wr) := Lib.hid (Only.refl _ _)
      clear r0 hw1 hm0 hcap1 hcap2
      go_loopw [28] (fun i wr2 => ∃ j : Nat, i = .int .i64 j ∧ j ≤ x.l.length ∧ Hid (Only (fun _ => False) wr wr2)) (fun i _ => x.l.length - (intOf i).toNat)
      case atStart => exact ⟨0, rfl, by omega, HJ0⟩
      case round =>
        obtain ⟨j, rfl, hj, hJ⟩ := hrel
        clear HJ0
        have HW2 := Lib.hid (HW.out.later hJ.out)
        by_cases hlt : j < x.l.length
        · obtain ⟨y, hy⟩ : ∃ y, x.l[j]? = some y := ⟨_, List.getElem?_eq_getElem hlt⟩
          obtain ⟨b, off, yo, yc, hxo, hb, d0, d1, d2, d3, hysane, hyl⟩ := HXL.out.at hy
          have hcell : ∀ r, (wr.cell? ⟨b, off + j * 4 + r, none⟩) = w2.cell? ⟨b, off + j * 4 + r, none⟩ := fun r => HW2.out.own.cell (p := ⟨b, off + j * 4 + r, none⟩) hb.1 hb.2
          have c0 : wr.cell? ⟨b, off + j * 4, none⟩ = some (.int .i64 y.k) := (hcell 0).trans d0
          have c1 := (hcell 1).trans d1
          have c2 := (hcell 2).trans d2
          have c3 := (hcell 3).trans d3
          rw [hxo]
          have HP := Lib.hid (fun W => isPart_any y.k y.n y.s y.l W yo yc hysane.s hysane.l)
          have hj1 : (j : Int) < (x.l.length : Int) := by omega
          clear hysane hyl hy hcell d0 d1 d2 d3
          go_wp2_with fail
          refine (HP.out _).mono ?_
          rintro e w6 ⟨rfl, ho6⟩
          have HO6 := Lib.hid (hJ.out.same ((Only.alloc _ _ _).same ho6))
          clear ho6
          cases (T.mk y.k y.n y.s y.l).part with
          | true =>
            go_wp2_with fail
            go_roundw
            case rel => exact ⟨j + 1, by go_num, by omega, HO6⟩
            case measure => simp [intOf]; omega
          | false =>
            go_wp2_with fail
            go_ret
            exact ⟨⟨false, rfl⟩, HEND.out _ (HW.out.own.same (HO6.out.mono (fun _ _ e => e.elim)))⟩
        · obtain rfl : j = x.l.length := by omega
          go_wp2_with fail
          have HWT : Hid (wt ys + 1 + sizes x.l ≤ gk ∧ gk ≤ 1 + t.size) := Lib.hid ⟨by have h1 := hI.out.2.1; rw [HXS.out, wt_append, wt_one] at h1; omega, hI.out.2.2.1⟩
          rw [← HYS.out]
          refine (further_any w2 (w.heap.size + 1) x HXL.out (by have := HWT.out; have := HZ.out; omega) _ _ ys _ HW2.out (by have := HWT.out; have := HZ.out; omega)).mono ?_
          rintro e w7 ⟨so', sc', zs, rfl, hw7, hz7, _, _⟩
          have HW7 := Lib.hid hw7
          clear hw7
          go_wp2_with fail
          go_roundg (wt zs)
          case measure => have := HWT.out; omega
          case rel => exact ⟨zs.length, so', sc', zs, rfl, Lib.hid ⟨rfl, Nat.le_refl _, by have := HWT.out; omega, HW7.out⟩⟩
end Go.Proofs.Ytoogmlgaeipenaa.terms
