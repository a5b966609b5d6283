/- Clauses by generations: the clauses that live, as they are told one by one (the law's all). -/
import Derived.Test.YthfilpacmllhpabBas22
namespace Go.Proofs.Ythfilpacmllhpab.bases
set_option maxRecDepth 100000
open Go.RowKit Go.Proofs.Ythfilpacmllhpab.own Go.Lib Go.Maps Go.WideMaps Go.Proofs.Ythfilpacmllhpab.idx Go.Proofs.Ythfilpacmllhpab.terms
theorem flt {α : Type} (q : α → Bool) : ∀ (L : List α) (k : Nat) (x : α), (L.filter q)[k]? = some x → ∃ j, L[j]? = some x ∧ (L.drop (j + 1)).find? q = (L.filter q)[k + 1]?
  | [], k, x, h => by simp at h
  | a :: l, k, x, h => by
    by_cases ha : q a = true
    · rw [List.filter_cons_of_pos ha] at h ⊢
      cases k with
      | zero =>
        refine ⟨0, h, ?_⟩
        show l.find? q = _
        rw [List.getElem?_cons_succ, ← List.head?_eq_getElem?, List.head?_filter]
      | succ k =>
        obtain ⟨j, h1, h2⟩ := flt q l k x h
        exact ⟨j + 1, h1, h2⟩
    · rw [List.filter_cons_of_neg ha] at h ⊢
      obtain ⟨j, h1, h2⟩ := flt q l k x h
      exact ⟨j + 1, h1, h2⟩
section
variable {b pm N : Nat} {sl : List Sl} {ps : List Pc} {lim gen low : Int} {so : Option Addr} {sc np : Nat} {Dp : D3} {w : World} {p : Pc}
set_option maxHeartbeats 8000000 in
theorem told_any (h : BI b pm N sl ps lim gen low so sc np Dp w) (hp : p ∈ ps) (g : Int) :
    Calls Try.prog 13 #[.pointer (some ⟨b, 0, none⟩), .string p.nm.s, .int .i64 p.nm.a, .int .i64 g] w fun e w' => ∃ ao cap, e = .returned (.slice ao ((p.st.L.filter (liveE sl g)).take 100).length cap) ∧ RowN w.heap.size ao cap (((p.st.L.filter (liveE sl g)).take 100).map (·.id)) w' ∧ Only (fun _ => False) w w' := by
  obtain ⟨F, hF⟩ : ∃ F, F = p.st.L.filter (liveE sl g) := ⟨_, rfl⟩
  have HHD : Hid (Calls Try.prog 15 #[.pointer (some ⟨b, 0, none⟩), .string p.nm.s, .int .i64 p.nm.a, .agg #[.int .i64 0, .string ⟨#[]⟩, .int .i64 0], .int .i64 g] w fun e w' => e = .returned (.tuple #[.int .i64 ((F[0]?).getD zE).id, .bool (F[0]?).isSome]) ∧ Only (fun _ => False) w w') := Lib.hid (by
    have := head_yes h hp g
    unfold ansE at this
    rwa [← List.head?_filter, ← hF, List.head?_eq_getElem?] at this)
  have HNX : Hid (∀ (k : Nat) (x : En) (W : World), F[k]? = some x → Only (fun _ => False) w W → Calls Try.prog 16 #[.pointer (some ⟨b, 0, none⟩), .int .i64 x.id, .agg #[.int .i64 0, .string ⟨#[]⟩, .int .i64 0], .int .i64 g] W fun e w' => e = .returned (.tuple #[.int .i64 ((F[k + 1]?).getD zE).id, .bool (F[k + 1]?).isSome]) ∧ Only (fun _ => False) W w') := Lib.hid (fun k x W hx o => by
    rw [hF] at hx ⊢
    obtain ⟨j, h1, h2⟩ := flt _ _ _ _ hx
    have := next_yes (h.later o) hp h1 g
    unfold ansE at this
    rwa [h2] at this)
  rw [← hF]
  clear hF
  obtain ⟨X, hX⟩ : ∃ X, X = (F.take 100).map (·.id) := ⟨_, rfl⟩
  rw [show (F.take 100).length = X.length by rw [hX, List.length_map], ← hX]
  have HXX := Lib.hid hX
  clear hX
  obtain ⟨i0, hi0, hz0, hz1, hz2⟩ := info_parts infoN
  clear h hp
  go_enter Try.func13, Try.ntmps13
  go_wp2_with fail
  refine HHD.out.mono ?_
  rintro e w1 ⟨rfl, ho1⟩
  have HO1 := Lib.hid ho1
  clear ho1 HHD
  go_wp2_with fail
  go_loopw [9, 10, 11, 12] (fun s9 s10 s11 s12 wr => ∃ (j : Nat) (a : Option Addr) (c : Nat), s9 = .slice a j c ∧ s10 = .int .i64 ((F[j]?).getD zE).id ∧ s11 = .bool (F[j]?).isSome ∧ s12 = .int .i64 j ∧ j ≤ F.length ∧ j ≤ 100 ∧ Hid (Only (fun _ => False) w wr ∧ RowN w.heap.size a c ((F.take j).map (·.id)) wr)) (fun _ _ _ s12 _ => 100 - (RowKit.intOf s12).toNat)
  case atStart => exact ⟨0, none, 0, rfl, rfl, rfl, rfl, Nat.zero_le _, Nat.zero_le _, Lib.hid ⟨HO1.out, RowOf.nil _ _ _ _ _⟩⟩
  case round =>
    obtain ⟨j, a, c, rfl, rfl, rfl, rfl, hj, hj100, hI⟩ := hrel
    by_cases hlt : j < 100
    · cases hm : F[j]? with
      | none =>
        have hjl : j = F.length := by
          rcases Nat.lt_or_ge j F.length with h | h
          · rw [List.getElem?_eq_getElem h] at hm; cases hm
          · omega
        have HFN : Hid (RowN w.heap.size a c X wr ∧ Only (fun _ => False) w wr ∧ j = X.length) := Lib.hid (by
          rw [HXX.out]
          have := hI.out
          rw [hjl, List.take_length] at this
          rw [List.take_of_length_le (by omega)]
          exact ⟨this.2, this.1, by rw [List.length_map]; exact hjl⟩)
        simp only [Option.isSome_none]
        clear hm hI hjl hj
        go_wp2_with fail
        go_ret
        exact ⟨a, c, by rw [← HFN.out.2.2]; rfl, HFN.out.1, HFN.out.2.1⟩
      | some x =>
        have hjl : j < F.length := (List.getElem?_eq_some_iff.1 hm).1
        have HI : Hid (Only (fun _ => False) w wr ∧ RowN w.heap.size a c ((F.take j).map (·.id)) wr) := hI
        have HT : Hid ((F.take (j + 1)).map (·.id) = (F.take j).map (·.id) ++ [x.id] ∧ ((F.take j).map (·.id)).length = j) := Lib.hid (by
          refine ⟨?_, by rw [List.length_map, List.length_take]; omega⟩
          rw [List.take_add_one, hm]
          simp)
        have HFX := Lib.hid (fun W o => HNX.out j x W hm o)
        have HJ := Lib.hid hjl
        simp only [Option.isSome_some, Option.getD_some]
        clear hm hI hjl
        go_wp2_with (first
          | (at_builtin; (refine wp_append_one liesN (by rfl) (.tmp 29) (.tmp 31) 47 (by rfl) w.heap.size 3 i0 _ 8 Try.underlying47 hi0 hz0 hz1 hz2 rfl (by omega) wr a c ((F.take j).map (·.id)) x.id [.int .i64 x.id] rfl (by rw [HT.out.2]; rfl) HI.out.2 (by rfl) (by rw [HT.out.2]; omega) HI.out.1.size ?_)
             intro a2 c2 w2 hrow2 ho2 hnew2
             have HR2 : Hid (RowN w.heap.size a2 c2 ((F.take (j + 1)).map (·.id)) w2) := Lib.hid (by rw [HT.out.1]; exact hrow2)
             have HO2 : Hid (Only (fun _ => False) w w2) := Lib.hid (idx.Only.cut HI.out.1 ho2 (by rintro q ⟨g, hg, e⟩; have := (HI.out.2.head g hg).2.1; omega))
             have hlen2 : ((F.take j).map (·.id) ++ [x.id]).length = j + 1 := by simp; omega
             rw [hlen2]
             clear hrow2 ho2 hnew2 hlen2)
          | fail)
        refine (HFX.out _ HO2.out).mono ?_
        rintro r u ⟨rfl, hou⟩
        have HOU := Lib.hid (HO2.out.same hou)
        have HRU := Lib.hid (HR2.out.only hou (fun _ _ e => e))
        clear hou HR2 HO2
        go_wp2_with fail
        go_roundw
        case rel => exact ⟨j + 1, a2, c2, rfl, rfl, rfl, by go_num, by have := HJ.out; omega, by omega, Lib.hid ⟨HOU.out, HRU.out⟩⟩
        case measure => simp [RowKit.intOf]; omega
    · have HFN : Hid (RowN w.heap.size a c X wr ∧ Only (fun _ => False) w wr ∧ j = X.length) := Lib.hid (by
        rw [HXX.out]
        have hjj : j = 100 := by omega
        have := hI.out
        rw [hjj] at this
        exact ⟨this.2, this.1, by rw [List.length_map, List.length_take]; omega⟩)
      clear hI hj hj100
      go_wp2_with fail
      go_ret
      exact ⟨a, c, by rw [← HFN.out.2.2]; rfl, HFN.out.1, HFN.out.2.1⟩
end
end Go.Proofs.Ythfilpacmllhpab.bases
