/- Order: check, Compare, rank. -/
import Derived.Test.YtgedhmnkhoajbaaOrder1
import Derived.Test.YtgedhmnkhoajbaaTerm64
namespace Go.Proofs.Ytgedhmnkhoajbaa.orders
open Go.RowKit Go.Proofs.Ytgedhmnkhoajbaa.own Go.Maps Go.Proofs.Ytgedhmnkhoajbaa.terms
set_option maxRecDepth 100000 in
set_option maxHeartbeats 1000000 in
/-- check: 0 just if all may be. -/
theorem chk_any (l : List T) (w : World) (ao : Option Addr) (cap : Nat) (hl : Lies w ao l) (hlen : l.length ≤ 1048576) (hz : ∀ x ∈ l, x.size ≤ 900000) : Calls Try.prog 27 #[.slice ao l.length cap] w fun e w' => (∃ c : Int, e = .returned (.int .i64 c) ∧ (c = 0 ↔ ∀ x ∈ l, x.Ok)) ∧ Only (fun _ => False) w w' := by
  have HL := Lib.hid hl
  have HZ := Lib.hid hz
  clear hl hz
  go_enter Try.func27, Try.ntmps27
  go_wp2_with fail
  go_loopw [8] (fun i wr => ∃ j : Nat, i = .int .i64 j ∧ j ≤ l.length ∧ Hid (Only (fun _ => False) w wr ∧ ∀ x ∈ l.take j, x.Ok)) (fun i _ => l.length - (intOf i).toNat)
  case atStart => exact ⟨0, rfl, by omega, Lib.hid ⟨Only.refl _ _, fun x hx => absurd hx (by simp)⟩⟩
  case round =>
    obtain ⟨j, rfl, hj, hR⟩ := hrel
    by_cases hlt : j < l.length
    · obtain ⟨x, hx⟩ : ∃ x, l[j]? = some x := ⟨_, List.getElem?_eq_getElem hlt⟩
      obtain ⟨b, off, ro, rc, rfl, hb, c0, c1, c2, c3, hsane, hsub⟩ := (HL.out.later hR.out.1).at hx
      have HX := Lib.hid hx
      have HSA := Lib.hid hsane
      have HSUB := Lib.hid hsub
      clear hx hsane hsub
      go_wp2_with fail
      have ho : Only (fun _ => False) wr (wr.alloc (.cells #[.int .i64 x.k, .int .i64 x.n, .string x.s, .slice ro x.l.length rc] 24)) := Only.alloc _ _ _
      refine (check_any x _ ro rc (HSUB.out.later ho) HSA.out (HZ.out x (List.mem_of_getElem? HX.out))).mono ?_
      rintro e w2 ⟨⟨c, rfl, hc⟩, ho2⟩
      have HC := Lib.hid hc
      have H2 : Hid (Only (fun _ => False) w w2) := Lib.hid ((hR.out.1.same ho).same ho2)
      clear ho ho2 hc
      by_cases hc0 : c = 0
      · subst hc0
        go_wp2_with fail
        go_roundw
        case rel => exact ⟨j + 1, by go_num, by omega, Lib.hid ⟨H2.out, fun y hy => by
          rw [take_snoc HX.out] at hy
          rcases List.mem_append.1 hy with hy | hy
          · exact hR.out.2 y hy
          · rw [List.mem_singleton.1 hy]; exact (by simpa using HC.out)⟩⟩
        case measure => simp [intOf]; omega
      · have hc1 : (c == 0) = false := by simpa using hc0
        go_wp2_with fail
        go_ret
        exact ⟨⟨c, rfl, ⟨fun e => absurd e hc0, fun e => absurd (HC.out.2 (e x (List.mem_of_getElem? HX.out))) hc0⟩⟩, H2.out⟩
    · obtain rfl : j = l.length := by omega
      go_wp2_with fail
      go_ret
      exact ⟨⟨0, rfl, ⟨fun _ x hx => hR.out.2 x (by rw [List.take_length]; exact hx), fun _ => rfl⟩⟩, hR.out.1⟩
/-- What Compare answers. -/
def CmpIs (t u : T) (n c : Int) : Prop := (t.Ok ∧ u.Ok → (meetF t u).2 = true → n = 0 ∧ c = 70) ∧ (t.Ok ∧ u.Ok → (meetF t u).2 = false → n = (meetF t u).1 ∧ c = 0) ∧ (¬ (t.Ok ∧ u.Ok) → n = 0 ∧ c ≠ 0)
theorem pair_two (w : World) (t u : T) (ao bo : Option Addr) (cap bcap : Nat) (hl : Lies w ao t.l) (hs : t.Sane) (hl' : Lies w bo u.l) (hs' : u.Sane) (W : World) (hW : Two w t u ao bo cap bcap W) : Two w t u ao bo cap bcap (W.alloc (.cells #[.int .i64 t.k, .int .i64 t.n, .string t.s, .slice ao t.l.length cap, .int .i64 u.k, .int .i64 u.n, .string u.s, .slice bo u.l.length bcap] 24)) ∧ Lies (W.alloc (.cells #[.int .i64 t.k, .int .i64 t.n, .string t.s, .slice ao t.l.length cap, .int .i64 u.k, .int .i64 u.n, .string u.s, .slice bo u.l.length bcap] 24)) (some ⟨W.heap.size, 0, none⟩) [t, u] := by
  have ho := Only.alloc (fun _ => False) W (.cells #[.int .i64 t.k, .int .i64 t.n, .string t.s, .slice ao t.l.length cap, .int .i64 u.k, .int .i64 u.n, .string u.s, .slice bo u.l.length bcap] 24)
  exact ⟨hW.later ho, Row.two hl hs hl' hs' _ (hW.o.same ho) _ (heap_alloc_new _ _)⟩
set_option maxRecDepth 100000 in
set_option maxHeartbeats 1000000 in
theorem Compare_any (t u : T) (w : World) (ao bo : Option Addr) (cap bcap : Nat) (hl : Lies w ao t.l) (hs : t.Sane) (hl' : Lies w bo u.l) (hs' : u.Sane) (hz : t.size ≤ 900000) (hz' : u.size ≤ 900000) :
    Calls Try.prog 10 #[tv t ao cap, tv u bo bcap] w fun e w' => (∃ n c : Int, e = .returned (.tuple #[.int .i64 n, .int .i64 c]) ∧ CmpIs t u n c) ∧ Only (fun _ => False) w w' := by
  have HT0 := Lib.hid (Two.new (cap := cap) (bcap := bcap) hl hl')
  have HPT := Lib.hid (pair_two w t u ao bo cap bcap hl hs hl' hs')
  have HM : Hid (∀ W, Only (fun _ => False) w W → Calls Try.prog 28 #[tv t ao cap, tv u bo bcap] W fun e w' => e = .returned (.tuple #[.int .i64 (meetF t u).1, .bool (meetF t u).2]) ∧ Only (fun _ => False) W w') := Lib.hid (fun W ho => meet_any t u W ao bo cap bcap (hl.later ho) hs (hl'.later ho) hs')
  have HCH : Hid (∀ W (b : Nat), Lies W (some ⟨b, 0, none⟩) [t, u] → Calls Try.prog 27 #[.slice (some ⟨b, 0, none⟩) 2 2] W fun e w' => (∃ c : Int, e = .returned (.int .i64 c) ∧ (c = 0 ↔ t.Ok ∧ u.Ok)) ∧ Only (fun _ => False) W w') := Lib.hid (fun W b h => (chk_any [t, u] W _ 2 h (by simp) (fun x hx => by
    rcases List.mem_cons.1 hx with rfl | hx
    · exact hz
    · rw [List.mem_singleton.1 hx]; exact hz')).mono (fun e w' h => by
      obtain ⟨⟨c, h1, h2⟩, h3⟩ := h
      exact ⟨⟨c, h1, by rw [h2]; simp⟩, h3⟩))
  obtain ⟨c0, c1, c2, c3⟩ := HT0.out.t.q.cells
  obtain ⟨d0, d1, d2, d3⟩ := HT0.out.u.q.cells
  clear hl hs hl' hs' hz hz'
  go_enter Try.func10, Try.ntmps10
  go_wp2_with fail
  have hp := HPT.out _ HT0.out
  rw [show ((w.alloc (.cells #[.int .i64 t.k, .int .i64 t.n, .string t.s, .slice ao t.l.length cap] 24)).alloc (.cells #[.int .i64 u.k, .int .i64 u.n, .string u.s, .slice bo u.l.length bcap] 24)).heap.size = w.heap.size + 2 by simp] at hp
  refine (HCH.out _ _ hp.2).mono ?_
  rintro e w1 ⟨⟨c, rfl, hc⟩, ho1⟩
  have HT1 := Lib.hid (hp.1.later ho1)
  have HC := Lib.hid hc
  clear hp ho1 hc c0 c1 c2 c3 d0 d1 d2 d3
  by_cases hc0 : c = 0
  · have HOK := Lib.hid (HC.out.1 hc0)
    subst hc0
    obtain ⟨c0, c1, c2, c3⟩ := HT1.out.t.q.cells
    obtain ⟨d0, d1, d2, d3⟩ := HT1.out.u.q.cells
    go_wp2_with fail
    refine (HM.out _ HT1.out.o).mono ?_
    rintro e w2 ⟨rfl, ho2⟩
    have HO2 := Lib.hid (HT1.out.o.same ho2)
    clear ho2
    generalize hm : meetF t u = m at *
    obtain ⟨m1, m2⟩ := m
    dsimp only
    have HMM := Lib.hid hm
    clear hm
    cases m2 with
    | true =>
      go_wp2_with fail
      go_ret2
      exact ⟨⟨0, 70, rfl, by rw [CmpIs, HMM.out]; exact ⟨fun _ _ => ⟨rfl, rfl⟩, fun _ h => (by cases h), fun h => absurd HOK.out h⟩⟩, HO2.out⟩
    | false =>
      go_wp2_with fail
      go_ret2
      exact ⟨⟨m1, 0, rfl, by rw [CmpIs, HMM.out]; exact ⟨fun _ h => (by cases h), fun _ _ => ⟨rfl, rfl⟩, fun h => absurd HOK.out h⟩⟩, HO2.out⟩
  · have hc1 : (c == 0) = false := by simpa using hc0
    have HNO : Hid (¬ (t.Ok ∧ u.Ok)) := Lib.hid (fun h => hc0 (HC.out.2 h))
    go_wp2_with fail
    go_ret2
    exact ⟨⟨0, c, rfl, ⟨fun h => absurd h HNO.out, fun h => absurd h HNO.out, fun _ => ⟨rfl, hc0⟩⟩⟩, HT1.out.o⟩
end Go.Proofs.Ytgedhmnkhoajbaa.orders
