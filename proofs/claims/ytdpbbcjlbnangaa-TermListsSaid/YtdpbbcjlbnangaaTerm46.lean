/- Terms: the reference's Rename, Replace. -/
import Derived.Test.YtdpbbcjlbnangaaTerm45
import Derived.Test.YtdpbbcjlbnangaaTermB
namespace Go.Proofs.Ytdpbbcjlbnangaa.terms
open Go.RowKit Go.Proofs.Ytdpbbcjlbnangaa.own Go.Maps
theorem varsF_len (t : T) : (varsF t).length ≤ t.size := by
  have := eachL_len t []
  simpa [varsF] using this
set_option maxRecDepth 100000 in
set_option maxHeartbeats 2000000 in
theorem rRename_any (t : T) (w : World) (ao : Option Addr) (cap : Nat) (hl : Lies w ao t.l) (hs : t.Sane) (hr : t.right = true) (hz : t.size ≤ 1000000) :
    Calls Try.prog 35 #[tv t ao cap] w fun e w' => ∃ ao' cap', e = .returned (.tuple #[tv (renamedF (varsF t) t) ao' cap', .int .i64 ((varsF t).length : Nat)]) ∧ Row (Since w w') w' ao' (renamedF (varsF t) t).l ∧ (renamedF (varsF t) t).Sane ∧ Only (fun _ => False) w w' := by
  have hvl := varsF_len t
  have HSA := Lib.hid (renamedF_sane (varsF t) t hs (by omega))
  have HV := Lib.hid (fun (w1 : World) (ho : Only (fun _ => False) w w1) => rVars_any t w1 ao cap (hl.later ho) hs hr hz)
  have HI := Lib.hid (fun (w1 : World) (ho : Only (fun _ => False) w w1) (B : Nat) (so : Option Addr) (sc : Nat) (h : OrdB B so sc (varsF t) w1) => renamed_any (varsF t) (by omega) B so sc t w1 ao cap (hl.later ho) hs h hz)
  obtain ⟨k, n, s, l⟩ := t
  generalize varsF (T.mk k n s l) = v at *
  generalize renamedF v (T.mk k n s l) = r at *
  show Calls Try.prog 35 #[.agg #[.int .i64 k, .int .i64 n, .string s, .slice ao l.length cap]] w _
  clear hl hs hr hz hvl
  go_enter Try.func35, Try.ntmps35
  go_wp2_with fail
  have ho : Only (fun _ => False) w ((w.alloc (.cells #[.int .i64 k, .int .i64 n, .string s, .slice ao l.length cap] 24)).alloc (.cells #[.int .i64 0, .int .i64 0, .string ⟨#[]⟩, .slice none 0 0] 24)) := (Only.alloc _ _ _).same (Only.alloc _ _ _)
  have hbx : BoxAt w.heap.size k n s ao l.length cap ((w.alloc (.cells #[.int .i64 k, .int .i64 n, .string s, .slice ao l.length cap] 24)).alloc (.cells #[.int .i64 0, .int .i64 0, .string ⟨#[]⟩, .slice none 0 0] 24)) := (BoxAt.new w k n s ao l.length cap).later (Only.alloc _ _ _)
  have hq : Quad (w.heap.size + 1) (.int .i64 0) (.int .i64 0) (.string ⟨#[]⟩) (.slice none 0 0) ((w.alloc (.cells #[.int .i64 k, .int .i64 n, .string s, .slice ao l.length cap] 24)).alloc (.cells #[.int .i64 0, .int .i64 0, .string ⟨#[]⟩, .slice none 0 0] 24)) := by
    have h1 := heap_alloc_new (w.alloc (.cells #[.int .i64 k, .int .i64 n, .string s, .slice ao l.length cap] 24)) (.cells #[.int .i64 0, .int .i64 0, .string ⟨#[]⟩, .slice none 0 0] 24)
    unfold Quad
    simpa using h1
  refine (HV.out _ ho).mono ?_
  rintro e w1 ⟨so, sc, rfl, hord, ho1⟩
  have HO := Lib.hid (ho.same ho1)
  have HQ := Lib.hid (hq.only ho1 (fun e => e))
  have HORD := Lib.hid hord
  obtain ⟨d0, d1, d2, d3⟩ := (hbx.later ho1).cells
  clear ho hbx ho1 hq hord
  go_wp2_with fail
  refine (HI.out _ HO.out _ so sc HORD.out).mono ?_
  rintro e w2 ⟨ao', cap', rfl, hrow, ho2⟩
  have HROW := Lib.hid hrow
  have HO2 := Lib.hid (HO.out.same ho2)
  have HS1 := Lib.hid HO.out.size
  have hq2 := HQ.out.only ho2 (fun e => e)
  have HS2 := Lib.hid (hq2.set (.int .i64 r.k) (.int .i64 r.n) (.string r.s) (.slice ao' r.l.length cap'))
  obtain ⟨c0, c1, c2, c3⟩ := hq2.cells
  obtain ⟨f0, f1, f2, f3⟩ := hq2.free
  have HLT := Lib.hid HQ.out.lt
  clear hrow ho2 hq2 d0 d1 d2 d3
  go_wp2_with fail
  have hc := HS2.out.1.cells
  have o4 := HS2.out.2
  have s4 := o4.size
  refine bodyPost_ret (v := .tuple #[tv r ao' cap', .int .i64 (v.length : Nat)]) (results_term_tmp rfl _ _ (w.heap.size + 1) _ _ _ _ _ rfl rfl hc.1 hc.2.1 hc.2.2.1 hc.2.2.2) rfl ?_
  refine ⟨ao', cap', rfl, ?_, HSA.out, Only.cut HO2.out o4 (fun k e => by omega)⟩
  have hlt := HLT.out
  have hs1 := HS1.out
  exact (HROW.out.only o4 (fun q hq => hq.2) (fun q hq e => by have := hq.1; omega)).mono (fun q hq => ⟨by have := hq.1; omega, Nat.lt_of_lt_of_le hq.2 s4⟩)
theorem rReplace_any (v : List T) (hv : v.length ≤ 1000000) (so : Option Addr) (sc : Nat) (t : T) (w : World) (ao : Option Addr) (cap : Nat) (hl : Lies w ao t.l) (hs : t.Sane) (hlv : Lies w so v) (hz : t.size ≤ 1000000) (hr : t.right = true) :
    Calls Try.prog 40 #[tv t ao cap, .slice so v.length sc] w fun e w' => ∃ ao' cap', e = .returned (tv (replacedF v t) ao' cap') ∧ Lies w' ao' (replacedF v t).l ∧ (replacedF v t).Sane ∧ Only (fun _ => False) w w' := by
  have hvs : ∀ x ∈ v, x.Sane := fun x hx => by
    obtain ⟨i, hi⟩ := List.mem_iff_getElem?.1 hx
    obtain ⟨_, _, _, _, _, _, _, _, _, _, h, _⟩ := hlv.at hi
    exact h
  refine (rReplace_row v hv w.heap.size so sc t w ao cap hl hs hlv hz hr (Nat.le_refl _)).mono ?_
  rintro e w' ⟨ao', cap', h1, h2, h3⟩
  exact ⟨ao', cap', h1, h2.mono (fun q hq => by
    have := h3.size
    rcases hq with hq | hq
    · omega
    · exact hq.2), replacedF_sane v t hs hvs hr, h3⟩
end Go.Proofs.Ytdpbbcjlbnangaa.terms
