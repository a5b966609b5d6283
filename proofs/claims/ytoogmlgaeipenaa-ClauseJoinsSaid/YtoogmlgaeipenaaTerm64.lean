
/- Terms: Check of any term; may, of any. -/
import Derived.Test.YtoogmlgaeipenaaTerm63
namespace Go.Proofs.Ytoogmlgaeipenaa.terms
set_option maxRecDepth 100000
open Go.RowKit Go.Proofs.Ytoogmlgaeipenaa.own Go.Maps
theorem look_Ok {t : T} : (t.lookF 1 4096).1 = 0 ↔ t.Ok := by
  refine ⟨fun h => ?_, fun h => h.look⟩
  obtain ⟨h1, h2, h3, _⟩ := (look_is t 1 4096 (by omega)).ok h
  exact ⟨h1, by omega, by omega⟩
set_option maxRecDepth 100000 in
set_option maxHeartbeats 4000000 in
/-- Check, of any term: 0 just if it may be. -/
theorem check_any (t : T) (w : World) (ao : Option Addr) (cap : Nat) (hl : Lies w ao t.l) (hs : t.Sane) (hz : t.size ≤ 900000) : Calls Try.prog 44 #[tv t ao cap] w fun e w' => (∃ c : Int, e = .returned (.int .i64 c) ∧ (c = 0 ↔ t.Ok)) ∧ Only (fun _ => False) w w' := by
  by_cases h : (t.lookF 1 4096).1 = 0 ∨ (t.lookF 1 4096).1 = 60
  · refine (check_look t w ao cap hl hs h).mono ?_
    rintro e w' ⟨rfl, ho⟩
    exact ⟨⟨_, rfl, look_Ok⟩, ho⟩
  · have HNO : Hid (¬ t.Ok) := Lib.hid (fun ho => h (.inl ho.look))
    have HLK := Lib.hid (fun (w1 : World) (ho : Only (fun _ => False) w w1) (hc : Cnt (w.heap.size + 1) 4096 w1) => look_any w.heap.size (w.heap.size + 1) (by omega) t w1 ao cap 1 4096 (hl.only ho (fun _ e => e) (fun _ _ e => e)) hs hc (by omega) (by omega) (by omega) (by omega))
    have HSO := Lib.hid (fun (w1 : World) (ho : Only (fun _ => False) w w1) => sound_any t w1 ao cap (hl.later ho) hs hz)
    have HDE := Lib.hid (fun (w1 : World) (ho : Only (fun _ => False) w w1) => deep_any t w1 ao cap (hl.later ho) hs hz)
    obtain ⟨k, n, s, l⟩ := t
    generalize hr : ((T.mk k n s l).lookF 1 4096) = rr at *
    obtain ⟨r, rc⟩ := rr
    simp only at h HLK
    show Calls Try.prog 44 #[.agg #[.int .i64 k, .int .i64 n, .string s, .slice ao l.length cap]] w fun e w' => _
    have h1 : (r == 0) = false := by simpa using fun e => h (.inl e)
    have h2 : (r == 60) = false := by simpa using fun e => h (.inr e)
    generalize (T.mk k n s l).Ok = OK at *
    clear hl hs hr hz h
    go_enter Try.func44, Try.ntmps44
    go_wp2_with fail
    have ho : Only (fun _ => False) w ((w.alloc (.cells #[.int .i64 k, .int .i64 n, .string s, .slice ao l.length cap] 24)).alloc (.cells #[.int .i64 4096] 3)) := (Only.alloc _ _ _).same (Only.alloc _ _ _)
    have hc : Cnt (w.heap.size + 1) 4096 ((w.alloc (.cells #[.int .i64 k, .int .i64 n, .string s, .slice ao l.length cap] 24)).alloc (.cells #[.int .i64 4096] 3)) := by
      have := heap_alloc_new (w.alloc (.cells #[.int .i64 k, .int .i64 n, .string s, .slice ao l.length cap] 24)) (.cells #[.int .i64 4096] 3)
      unfold Cnt
      simpa using this
    have hq : Quad w.heap.size (.int .i64 k) (.int .i64 n) (.string s) (.slice ao l.length cap) ((w.alloc (.cells #[.int .i64 k, .int .i64 n, .string s, .slice ao l.length cap] 24)).alloc (.cells #[.int .i64 4096] 3)) := Quad.only (b := w.heap.size) (heap_alloc_new w _) (Only.alloc (fun _ => False) _ _) (fun e => e)
    refine (HLK.out _ ho hc).mono ?_
    rintro e w2 ⟨rfl, _, ho2⟩
    have HQ2 := Lib.hid (hq.only ho2 (by omega))
    have HO2 := Lib.hid (Only.cut ho ho2 (fun q e => by omega))
    obtain ⟨c0, c1, c2, c3⟩ := HQ2.out.cells
    clear ho ho2 hc hq
    go_wp2_with fail
    refine (HSO.out _ HO2.out).mono ?_
    rintro e w3 ⟨⟨b, rfl⟩, ho3⟩
    have HQ3 := Lib.hid (HQ2.out.only ho3 (fun e => e))
    have HO3 := Lib.hid (HO2.out.same ho3)
    clear ho3 c0 c1 c2 c3
    obtain ⟨c0, c1, c2, c3⟩ := HQ3.out.cells
    cases b with
    | false =>
      go_wp2_with fail
      go_ret
      exact ⟨⟨60, rfl, ⟨fun e => by omega, fun e => absurd e HNO.out⟩⟩, HO3.out⟩
    | true =>
      go_wp2_with fail
      refine (HDE.out _ HO3.out).mono ?_
      rintro e w4 ⟨⟨b, rfl⟩, ho4⟩
      have HO4 := Lib.hid (HO3.out.same ho4)
      clear ho4 c0 c1 c2 c3
      cases b with
      | false =>
        go_wp2_with fail
        go_ret
        exact ⟨⟨62, rfl, ⟨fun e => by omega, fun e => absurd e HNO.out⟩⟩, HO4.out⟩
      | true =>
        go_wp2_with fail
        go_ret
        exact ⟨⟨61, rfl, ⟨fun e => by omega, fun e => absurd e HNO.out⟩⟩, HO4.out⟩
set_option maxRecDepth 100000 in
set_option maxHeartbeats 1000000 in
theorem may_any (l : List T) (w : World) (ao : Option Addr) (cap : Nat) (hl : Lies w ao l) (hlen : l.length ≤ 1048576) (hz : ∀ x ∈ l, x.size ≤ 900000) : Calls Try.prog 86 #[.slice ao l.length cap] w fun e w' => (∃ b, e = .returned (.bool b) ∧ (b = true ↔ ∀ x ∈ l, x.Ok)) ∧ Only (fun _ => False) w w' := by
  have HL := Lib.hid hl
  have HZ := Lib.hid hz
  clear hl hz
  go_enter Try.func86, Try.ntmps86
  go_wp2_with fail
  go_loopw [7] (fun i wr => ∃ j : Nat, i = .int .i64 j ∧ j ≤ l.length ∧ Hid (Only (fun _ => False) w wr ∧ ∀ x ∈ l.take j, x.Ok)) (fun i _ => l.length - (intOf i).toNat)
  case atStart => exact ⟨0, rfl, by omega, Lib.hid ⟨Only.refl _ _, fun x hx => absurd hx (by simp)⟩⟩
  case round =>
    obtain ⟨j, rfl, hj, hR⟩ := hrel
    by_cases hlt : j < l.length
    · obtain ⟨x, hx⟩ : ∃ x, l[j]? = some x := ⟨_, List.getElem?_eq_getElem hlt⟩
      obtain ⟨b, off, ro, rc, rfl, hb, c0, c1, c2, c3, hsane, hsub⟩ := (HL.out.later hR.out.1).at hx
      have HX := Lib.hid hx
      have HSA := Lib.hid hsane
      have HSUB := Lib.hid hsub
      clear hx hsane hsub
      go_wp2_with fail
      have ho : Only (fun _ => False) wr (wr.alloc (.cells #[.int .i64 x.k, .int .i64 x.n, .string x.s, .slice ro x.l.length rc] 24)) := Only.alloc _ _ _
      refine (check_any x _ ro rc (HSUB.out.later ho) HSA.out (HZ.out x (List.mem_of_getElem? HX.out))).mono ?_
      rintro e w2 ⟨⟨c, rfl, hc⟩, ho2⟩
      have HC := Lib.hid hc
      have H2 : Hid (Only (fun _ => False) w w2) := Lib.hid ((hR.out.1.same ho).same ho2)
      clear ho ho2 hc
      by_cases hc0 : c = 0
      · subst hc0
        go_wp2_with fail
        go_roundw
        case rel => exact ⟨j + 1, by go_num, by omega, Lib.hid ⟨H2.out, fun y hy => by
          rw [take_snoc HX.out] at hy
          rcases List.mem_append.1 hy with hy | hy
          · exact hR.out.2 y hy
          · rw [List.mem_singleton.1 hy]; exact (by simpa using HC.out)⟩⟩
        case measure => simp [intOf]; omega
      · have hc1 : (c == 0) = false := by simpa using hc0
        go_wp2_with fail
        go_ret
        exact ⟨⟨false, rfl, ⟨fun e => (by cases e), fun e => absurd (HC.out.2 (e x (List.mem_of_getElem? HX.out))) hc0⟩⟩, H2.out⟩
    · obtain rfl : j = l.length := by omega
      go_wp2_with fail
      go_ret
      exact ⟨⟨true, rfl, ⟨fun _ x hx => hR.out.2 x (by rw [List.take_length]; exact hx), fun _ => rfl⟩⟩, hR.out.1⟩
end Go.Proofs.Ytoogmlgaeipenaa.terms
