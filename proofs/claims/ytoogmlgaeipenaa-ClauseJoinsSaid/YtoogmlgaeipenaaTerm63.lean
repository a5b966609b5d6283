
/- Terms: deep. -/
import Derived.Test.YtoogmlgaeipenaaTerm62
namespace Go.Proofs.Ytoogmlgaeipenaa.terms
set_option maxRecDepth 100000
open Go.RowKit Go.Proofs.Ytoogmlgaeipenaa.own Go.Maps
theorem wt_step {xs : List Ls} {j : Nat} {x : Ls} (h : xs[j]? = some x) : wt (xs.take (j + 1)) = wt (xs.take j) + 1 + sizes x.l := by
  rw [take_snoc h, wt_append, wt_one]
  omega
theorem wt_take (xs : List Ls) (j : Nat) : wt (xs.take j) ≤ wt xs := by
  have e : wt xs = wt (xs.take j) + wt (xs.drop j) := by rw [← wt_append, List.take_append_drop]
  omega
theorem WaysM.start0 {w wr : World} {m : Nat} (ho : Only (fun _ => False) w wr) (hm : wr.heap[m]? = some (.map #[] 0)) : WaysM w m none 0 [] wr :=
  ⟨RowOf.nil _ _ _ _ _, ho.mono (fun _ _ e => e.elim), fun x hx => absurd hx (by simp), ⟨#[], 0, hm, fun e he => by simp at he⟩⟩
set_option maxRecDepth 100000 in
set_option maxHeartbeats 4000000 in
theorem deep_any (t : T) (w : World) (ao : Option Addr) (cap : Nat) (hl : Lies w ao t.l) (hs : t.Sane) (hz : t.size ≤ 900000) :
    Calls Try.prog 81 #[tv t ao cap] w fun e w' => (∃ b, e = .returned (.bool b)) ∧ Only (fun _ => False) w w' := by
  have hmk : ∀ W : World, (Instr.makeMap 128 none).run Try.prog W = .ok (.map (some W.heap.size)) (W.alloc (.map #[] 0)) := fun W => by first | rfl | simp [Instr.makeMap]
  have HZ := Lib.hid hz
  have HO2 : Hid (Only (fun _ => False) w ((w.alloc (.cells #[.int .i64 t.k, .int .i64 t.n, .string t.s, .slice ao t.l.length cap] 24)).alloc (.cells #[.int .i64 t.k, .int .i64 t.n, .string t.s, .slice ao t.l.length cap] 24))) := Lib.hid ((Only.alloc _ _ _).same (Only.alloc _ _ _))
  have HW0 : Hid (Ways ((w.alloc (.cells #[.int .i64 t.k, .int .i64 t.n, .string t.s, .slice ao t.l.length cap] 24)).alloc (.cells #[.int .i64 t.k, .int .i64 t.n, .string t.s, .slice ao t.l.length cap] 24)) (w.heap.size + 2) (some ⟨w.heap.size + 2, 0, none⟩) 1 [⟨[t], some ⟨w.heap.size + 1, 0, none⟩, 1⟩] (((w.alloc (.cells #[.int .i64 t.k, .int .i64 t.n, .string t.s, .slice ao t.l.length cap] 24)).alloc (.cells #[.int .i64 t.k, .int .i64 t.n, .string t.s, .slice ao t.l.length cap] 24)).alloc (.cells #[.slice (some ⟨w.heap.size + 1, 0, none⟩) 1 1] 22))) := by
    have hsA : (w.alloc (.cells #[.int .i64 t.k, .int .i64 t.n, .string t.s, .slice ao t.l.length cap] 24)).heap.size = w.heap.size + 1 := by simp
    have hsB : ((w.alloc (.cells #[.int .i64 t.k, .int .i64 t.n, .string t.s, .slice ao t.l.length cap] 24)).alloc (.cells #[.int .i64 t.k, .int .i64 t.n, .string t.s, .slice ao t.l.length cap] 24)).heap.size = w.heap.size + 2 := by simp
    have hbb := heap_alloc_new (w.alloc (.cells #[.int .i64 t.k, .int .i64 t.n, .string t.s, .slice ao t.l.length cap] 24)) (.cells #[.int .i64 t.k, .int .i64 t.n, .string t.s, .slice ao t.l.length cap] 24)
    rw [hsA] at hbb
    have hnew := heap_alloc_new ((w.alloc (.cells #[.int .i64 t.k, .int .i64 t.n, .string t.s, .slice ao t.l.length cap] 24)).alloc (.cells #[.int .i64 t.k, .int .i64 t.n, .string t.s, .slice ao t.l.length cap] 24)) (.cells #[.slice (some ⟨w.heap.size + 1, 0, none⟩) 1 1] 22)
    rw [hsB] at hnew
    exact Lib.hid ⟨LsP.one (x := ⟨[t], some ⟨w.heap.size + 1, 0, none⟩, 1⟩) (Nat.le_refl _) hnew, Only.alloc _ _ _, fun x hx => by
      rw [List.mem_singleton.1 hx]
      exact ⟨Row.one hl hs _ HO2.out _ hbb, by simp [maxLen]⟩⟩
  have hw1 : wt [(⟨[t], some ⟨w.heap.size + 1, 0, none⟩, 1⟩ : Ls)] ≤ 1 + t.size := by rw [wt_one]; simp [sizes]
  have HSZ : Hid (((w.alloc (.cells #[.int .i64 t.k, .int .i64 t.n, .string t.s, .slice ao t.l.length cap] 24)).alloc (.cells #[.int .i64 t.k, .int .i64 t.n, .string t.s, .slice ao t.l.length cap] 24)).heap.size = w.heap.size + 2) := Lib.hid (by simp)
  clear hl hs hz
  go_enter Try.func81, Try.ntmps81
  go_wp2_with fail
  generalize (w.alloc (.cells #[.int .i64 t.k, .int .i64 t.n, .string t.s, .slice ao t.l.length cap] 24)).alloc (.cells #[.int .i64 t.k, .int .i64 t.n, .string t.s, .slice ao t.l.length cap] 24) = w2 at *
  have hx0 : [(⟨[t], some ⟨w.heap.size + 1, 0, none⟩, 1⟩ : Ls)].length = 1 := rfl
  generalize [(⟨[t], some ⟨w.heap.size + 1, 0, none⟩, 1⟩ : Ls)] = xs0 at *
  have HI0 : Hid (xs0.length = 1 ∧ wt xs0 ≤ 1 + t.size ∧ Ways w2 w2.heap.size (some ⟨w.heap.size + 2, 0, none⟩) 1 xs0 (w2.alloc (.cells #[.slice (some ⟨w.heap.size + 1, 0, none⟩) 1 1] 22))) := Lib.hid ⟨hx0, hw1, by rw [HSZ.out]; exact HW0.out⟩
  clear hx0 hw1 HW0
  go_loopw [3, 11] (fun v3 i wr => ∃ (j k : Nat) (so : Option Addr) (sc : Nat) (xs : List Ls), i = .int .i64 j ∧ j ≤ 200 ∧ v3 = .slice so k sc ∧ Hid (xs.length = k ∧ wt xs ≤ 1 + t.size ∧ Ways w2 w2.heap.size so sc xs wr)) (fun _ i _ => 200 - (intOf i).toNat)
  case atStart => exact ⟨0, 1, _, 1, xs0, rfl, by omega, rfl, HI0⟩
  case round =>
    obtain ⟨j, k, so, sc, xs, rfl, hj, rfl, hI⟩ := hrel
    clear HI0
    by_cases hlt : j < 200
    · have hj1 : (j : Int) < 200 := by omega
      go_wp2_with fail
      have HSW := Lib.hid hI.out.2.2.own.size
      have hk9 : k ≤ 1000000 := by have h1 := wt_len xs; have h2 := hI.out.1; have h3 := hI.out.2.1; have h4 := HZ.out; omega
      have HN0 : Hid (([] : List Ls).length = 0 ∧ wt [] ≤ wt (xs.take 0) ∧ WaysM w2 wr.heap.size none 0 [] (wr.alloc (.map #[] 0)) ∧ Only (fun _ => False) wr (wr.alloc (.map #[] 0)) ∧ (∀ q, RowAt none q → wr.heap.size ≤ q)) := Lib.hid ⟨rfl, by simp [wt], WaysM.start0 (hI.out.2.2.own.same (Only.alloc _ _ _)) (heap_alloc_new wr _), Only.alloc _ _ _, fun q hq => by obtain ⟨g, hg, _⟩ := hq; cases hg⟩
      go_loopw [5, 16] (fun v5 i wr2 => ∃ (p k2 : Nat) (so2 : Option Addr) (sc2 : Nat) (zs : List Ls), i = .int .i64 p ∧ p ≤ k ∧ v5 = .slice so2 k2 sc2 ∧ Hid (zs.length = k2 ∧ wt zs ≤ wt (xs.take p) ∧ WaysM w2 wr.heap.size so2 sc2 zs wr2 ∧ Only (fun _ => False) wr wr2 ∧ (∀ q, RowAt so2 q → wr.heap.size ≤ q))) (fun _ i _ => k - (intOf i).toNat)
      case atStart => exact ⟨0, 0, none, 0, [], rfl, by omega, rfl, HN0⟩
      case round =>
        obtain ⟨p, k2, so2, sc2, zs, rfl, hp, rfl, hJ⟩ := hrel
        clear HN0
        by_cases hlt2 : p < k
        · obtain ⟨x, hx⟩ : ∃ x, xs[p]? = some x := ⟨_, List.getElem?_eq_getElem (by rw [hI.out.1]; exact hlt2)⟩
          obtain ⟨g, rfl, _, hcell⟩ := (hI.out.2.2.row.only hJ.out.2.2.2.1 (fun _ _ e => e)).at liesL p x hx
          have r0 := (hcell 0 (by omega)).1
          simp only [encL, List.getElem?_cons_zero, Nat.mul_one, Nat.add_zero] at r0
          have HXL : Hid (Lies w2 x.ao x.l) := Lib.hid (hI.out.2.2.lies x (List.mem_of_getElem? hx)).1
          have HWT := Lib.hid (show wt (xs.take (p + 1)) = wt (xs.take p) + 1 + sizes x.l ∧ wt (xs.take (p + 1)) ≤ 1 + t.size from ⟨wt_step hx, by have := wt_take xs (p + 1); have := hI.out.2.1; omega⟩)
          have hp1 : (p : Int) < (k : Int) := by omega
          clear hcell hx
          rw [← hJ.out.1]
          go_wp2_with fail
          refine (further_any w2 _ x (HXL.out.mono (fun q hq => ⟨hq, by have := HSW.out; omega⟩)) (by have := HWT.out; have := HZ.out; omega) so2 sc2 zs _ hJ.out.2.2.1 (by have := HWT.out; have := HZ.out; have := hJ.out.2.1; omega)).mono ?_
          rintro e w7 ⟨so', sc', zs', rfl, hw7, hz7, ho7, hr7⟩
          have HI7 : Hid (wt zs' ≤ wt zs + sizes x.l ∧ WaysM w2 _ so' sc' zs' w7 ∧ Only (fun _ => False) _ w7 ∧ (∀ q, RowAt so' q → _ ≤ q)) := Lib.hid ⟨hz7, hw7, Only.cut hJ.out.2.2.2.1 ho7 (fun q e => by rcases e with e | e; exact hJ.out.2.2.2.2 q e; omega), fun q hq => by
            rcases hr7 q hq with h | h
            · exact hJ.out.2.2.2.2 q h
            · exact Nat.le_trans hJ.out.2.2.2.1.size h⟩
          clear hw7 hz7 ho7 hr7
          go_wp2_with fail
          go_roundw
          case rel => exact ⟨p + 1, zs'.length, so', sc', zs', by go_num, by omega, rfl, Lib.hid ⟨rfl, by have h1 := HI7.out.1; have h2 := HWT.out.1; have h3 := hJ.out.2.1; omega, HI7.out.2⟩⟩
          case measure => simp [intOf]; omega
        · obtain rfl : p = k := by omega
          have HE : Hid (zs.length = k2 ∧ wt zs ≤ 1 + t.size ∧ Ways w2 w2.heap.size so2 sc2 zs _) := Lib.hid ⟨hJ.out.1, by have h1 := hJ.out.2.1; have h2 := wt_take xs p; have h3 := hI.out.2.1; omega, hJ.out.2.2.1.row, hJ.out.2.2.1.own.mono (fun q hq e => by have := HSW.out; omega), fun z hz => ⟨(hJ.out.2.2.1.lies z hz).1.mono (fun q hq => hq.1), (hJ.out.2.2.1.lies z hz).2⟩⟩
          go_wp2_with fail
          go_roundw
          case rel => exact ⟨j + 1, k2, so2, sc2, zs, by go_num, by omega, rfl, HE⟩
          case measure => simp [intOf]; omega
    · obtain rfl : j = 200 := by omega
      go_wp2_with fail
      go_ret
      exact ⟨⟨_, rfl⟩, HO2.out.same hI.out.2.2.own⟩
end Go.Proofs.Ytoogmlgaeipenaa.terms
