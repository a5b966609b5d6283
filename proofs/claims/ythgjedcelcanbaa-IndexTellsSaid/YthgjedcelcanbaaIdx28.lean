
/- Selection by keys: the reference's table: All. -/
import Derived.Test.YthgjedcelcanbaaIdx27
namespace Go.Proofs.Ythgjedcelcanbaa.idx
set_option maxRecDepth 100000
open Go.RowKit Go.Proofs.Ythgjedcelcanbaa.own Go.Lib Go.Maps Go.WideMaps
def metP (k : Ky) (M : List Pr) : List Pr := M.filter (fun e => meetB e.key k)
theorem metP_len (k : Ky) (M : List Pr) : (metP k M).length ≤ M.length := List.length_filter_le _ _
theorem metP_yes {k : Ky} {M : List Pr} {j : Nat} {x : Pr} (hx : M[j]? = some x) (hm : meetB x.key k = true) : (metP k (M.take (j + 1))).map (·.id) = (metP k (M.take j)).map (·.id) ++ [x.id] := by
  unfold metP
  rw [List.take_add_one, hx]
  simp [List.filter_append, hm]
theorem metP_not {k : Ky} {M : List Pr} {j : Nat} {x : Pr} (hx : M[j]? = some x) (hm : meetB x.key k = false) : metP k (M.take (j + 1)) = metP k (M.take j) := by
  unfold metP
  rw [List.take_add_one, hx]
  simp [List.filter_append, hm]
section
variable {B b : Nat} {M : List Pr} {ao : Option Addr} {cap : Nat} {w W W' : World}
set_option maxHeartbeats 16000000 in
theorem rall_any (h : RT B b M ao cap w) (k : Ky) (hn : M.length ≤ 100000) : Calls Try.prog 12 #[.pointer (some ⟨b, 0, none⟩), kyV k] w fun e w' => ∃ a c, e = .returned (.slice a (metP k M).length c) ∧ RowN w.heap.size a c ((metP k M).map (·.id)) w' ∧ Only (fun _ => False) w w' := by
  obtain ⟨E, hE⟩ : ∃ E, E = w.alloc (.cells #[.int .i64 k.k, .string k.s, .int .i64 k.n] 32) := ⟨_, rfl⟩
  have hx : Three w.heap.size k E := by unfold Three; rw [hE]; exact heap_alloc_new _ _
  have ho : Only (fun _ => False) w E := by rw [hE]; exact Only.alloc _ _ _
  have HE0 : Hid (E.heap.size = w.heap.size + 1) := Lib.hid (by rw [hE]; simp)
  have HX := Lib.hid hx
  have HO := Lib.hid ho
  have HH := Lib.hid (h.later ho)
  obtain ⟨n, hnn⟩ : ∃ n, n = M.length := ⟨_, rfl⟩
  have HN := Lib.hid hnn
  have hnm : n ≤ 100000 := by omega
  obtain ⟨i0, hi0, hz0, hz1, hz2⟩ := info_parts infoN
  clear h hnn hx ho hn
  go_enter Try.func12, Try.ntmps12
  go_upto_region 1 with fail
  rw [← hE]
  clear hE
  go_wp2_with fail
  go_loopw [5, 6] (fun s5 s6 wr => ∃ (j m : Nat) (a : Option Addr) (c : Nat), s5 = .slice a m c ∧ s6 = .int .i64 j ∧ j ≤ n ∧ Hid (m = ((metP k (M.take j)).map (·.id)).length ∧ Only (fun _ => False) E wr ∧ RowN w.heap.size a c ((metP k (M.take j)).map (·.id)) wr)) (fun _ s6 _ => n - (RowKit.intOf s6).toNat)
  case atStart => exact ⟨0, 0, none, 0, rfl, rfl, Nat.zero_le _, Lib.hid ⟨by simp [metP], Only.refl _ _, RowOf.nil _ _ _ _ _⟩⟩
  case round =>
    obtain ⟨j, m, a, c, rfl, rfl, hj, hI⟩ := hrel
    have c0 := (HH.out.later hI.out.2.1).cell
    rw [← HN.out] at c0
    by_cases hlt : j < n
    · obtain ⟨x, hx⟩ : ∃ x, M[j]? = some x := ⟨_, List.getElem?_eq_getElem (by rw [← HN.out]; exact hlt)⟩
      obtain ⟨g, rfl, hg, _, _, _, _⟩ := pr_cells HH.out.row hx
      have HXX := Lib.hid hx
      have hlti : (j : Int) < (n : Int) := by omega
      have hge : (0 : Int) ≤ (j : Int) := by omega
      have hwj : IntKind.i64.wrap ((j : Int) + 1) = ((j + 1 : Nat) : Int) := by rw [IntWalk.i64_in _ (by omega)]; omega
      obtain ⟨bk, hbk⟩ : ∃ bk, bk = w.heap.size := ⟨_, rfl⟩
      have HS : Hid (∀ W, Only (fun _ => False) wr W → W.cell? ⟨b, 0, none⟩ = some (.slice (some ⟨g, 0, none⟩) n cap) ∧ (W.cell? ⟨g, j * 4, none⟩ = some (.int .i64 x.id) ∧ W.cell? ⟨g, j * 4 + 1, none⟩ = some (.int .i64 x.key.k) ∧ W.cell? ⟨g, j * 4 + 2, none⟩ = some (.string x.key.s) ∧ W.cell? ⟨g, j * 4 + 3, none⟩ = some (.int .i64 x.key.n)) ∧ W.cell? ⟨w.heap.size, 0, none⟩ = some (.int .i64 k.k) ∧ W.cell? ⟨w.heap.size, 1, none⟩ = some (.string k.s) ∧ W.cell? ⟨w.heap.size, 2, none⟩ = some (.int .i64 k.n)) := Lib.hid (fun W o => by
        have o' := hI.out.2.1.same o
        have hr := HH.out.later o'
        obtain ⟨g', e, _, k0, k1, k2, k3⟩ := pr_cells hr.row HXX.out
        cases e
        have hc := hr.cell
        rw [← HN.out] at hc
        exact ⟨hc, ⟨k0, k1, k2, k3⟩, (HX.out.only o' (fun e => e)).cells⟩)
      have HME : Hid (∀ W, Calls Try.prog 26 #[.agg #[.int .i64 x.key.k, .string x.key.s, .int .i64 x.key.n], .agg #[.int .i64 k.k, .string k.s, .int .i64 k.n]] W fun e w' => e = .returned (.bool (meetB x.key k)) ∧ Only (fun _ => False) W w') := Lib.hid (fun W => rmeet_any x.key k W)
      clear hx hg c0 hbk bk
      cases hm : meetB x.key k
      all_goals
        have HMM := Lib.hid hm
        rw [hm] at HME
        clear hm
        have hc0 := (HS.out wr (Only.refl _ _)).1
        go_upto_region 5 with fail
        clear hc0
        go_region_held3 (fun W => W.cell? ⟨b, 0, none⟩ = some (.slice (some ⟨g, 0, none⟩) n cap) ∧ (W.cell? ⟨g, j * 4, none⟩ = some (.int .i64 x.id) ∧ W.cell? ⟨g, j * 4 + 1, none⟩ = some (.int .i64 x.key.k) ∧ W.cell? ⟨g, j * 4 + 2, none⟩ = some (.string x.key.s) ∧ W.cell? ⟨g, j * 4 + 3, none⟩ = some (.int .i64 x.key.n)) ∧ W.cell? ⟨w.heap.size, 0, none⟩ = some (.int .i64 k.k) ∧ W.cell? ⟨w.heap.size, 1, none⟩ = some (.string k.s) ∧ W.cell? ⟨w.heap.size, 2, none⟩ = some (.int .i64 k.n)) (with_reducible first | exact HS.out _ HU.out | exact HS.out _ (Only.drew _ _) | exact HS.out _ (Only.refl _ _)) (first
          | (go_at_call 26; (with_reducible refine (HME.out _).mono ?_); rintro r u ⟨rfl, hou⟩; have HU : Hid (Only (fun _ => False) wr u) := Lib.hid ((Only.drew _ _).same hou); clear hou))
      · go_wp2_with fail
        go_roundw
        case rel => exact ⟨j + 1, m, a, c, rfl, by go_num, by omega, Lib.hid (by rw [metP_not HXX.out HMM.out]; exact ⟨hI.out.1, hI.out.2.1.same HU.out, hI.out.2.2.only HU.out (fun _ _ e => e)⟩)⟩
        case measure => simp [RowKit.intOf]; omega
      · obtain ⟨q0, ⟨q1, q2, q3, q4⟩, q5⟩ := HS.out u HU.out
        have HRU : Hid (RowN w.heap.size a c ((metP k (M.take j)).map (·.id)) u) := Lib.hid (hI.out.2.2.only HU.out (fun _ _ e => e))
        have HLE : Hid (((metP k (M.take j)).map (·.id)).length ≤ 100000) := Lib.hid (by rw [List.length_map]; have := metP_len k (M.take j); rw [List.length_take] at this; omega)
        have HSZ : Hid (w.heap.size ≤ u.heap.size) := Lib.hid ((HO.out.same (hI.out.2.1.same HU.out)).size)
        go_wp2_with (first
          | (at_builtin; refine wp_append_one liesN (by rfl) (.tmp 26) (.tmp 35) 37 (by rfl) w.heap.size 3 i0 _ 8 Try.underlying37 hi0 hz0 hz1 hz2 rfl (by omega) u a c ((metP k (M.take j)).map (·.id)) x.id [.int .i64 x.id] rfl (by rw [← hI.out.1]; rfl) HRU.out (by rfl) (by have := HLE.out; omega) HSZ.out ?_
             intro a2 c2 w2 hrow2 ho2 hnew2
             have HR2 : Hid (RowN w.heap.size a2 c2 ((metP k (M.take (j + 1))).map (·.id)) w2) := Lib.hid (by rw [metP_yes HXX.out HMM.out]; exact hrow2)
             have HO2 : Hid (Only (fun _ => False) E w2) := Lib.hid (by
               have hnk := row_apart HRU.out (HX.out.only (hI.out.2.1.same HU.out) (fun e => e)) (by decide)
               refine Only.cut (hI.out.2.1.same HU.out) ho2 ?_
               rintro q ⟨g', hg', e⟩
               have h1 := (HRU.out.head g' hg').2.1
               have h2 : g'.block ≠ w.heap.size := fun e' => hnk ⟨g', hg', e'.symm⟩
               have h3 : E.heap.size = w.heap.size + 1 := HE0.out
               omega)
             have HL2 : Hid (((metP k (M.take j)).map (·.id) ++ [x.id]).length = ((metP k (M.take (j + 1))).map (·.id)).length) := Lib.hid (by rw [metP_yes HXX.out HMM.out])
             rw [HL2.out]
             clear hrow2 ho2 hnew2)
          | fail)
        go_roundw
        case rel => exact ⟨j + 1, _, a2, c2, rfl, by go_num, by omega, Lib.hid ⟨by simp, HO2.out, HR2.out⟩⟩
        case measure => simp [RowKit.intOf]; omega
    · obtain rfl : j = n := by omega
      have HFN : Hid (m = (metP k M).length ∧ RowN w.heap.size a c ((metP k M).map (·.id)) wr ∧ Only (fun _ => False) w wr) := Lib.hid (by
        have hi := hI.out
        rw [HN.out, List.take_length] at hi
        exact ⟨by rw [hi.1, List.length_map], hi.2.2, HO.out.same hi.2.1⟩)
      go_wp2_with fail
      go_ret
      exact ⟨a, c, by rw [HFN.out.1]; rfl, HFN.out.2.1, HFN.out.2.2⟩
end
end Go.Proofs.Ythgjedcelcanbaa.idx
