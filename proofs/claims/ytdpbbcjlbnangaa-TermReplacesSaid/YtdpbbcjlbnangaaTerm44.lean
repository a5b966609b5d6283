/- Terms: the reference's renamed, Rename. -/
import Derived.Test.YtdpbbcjlbnangaaTerm43
import Derived.Test.YtdpbbcjlbnangaaTermE
namespace Go.Proofs.Ytdpbbcjlbnangaa.terms
open Go.RowKit Go.Proofs.Ytdpbbcjlbnangaa.own Go.Maps
theorem renamedL_len (v : List Int) (l : List T) : (renamedL v l).length = l.length := by
  induction l with
  | nil => rfl
  | cons x r ih => simp only [renamedL, List.length_cons, ih]
theorem renamedL_append (v : List Int) (a b : List T) : renamedL v (a ++ b) = renamedL v a ++ renamedL v b := by
  induction a with
  | nil => rfl
  | cons x r ih => simp only [List.cons_append, renamedL, ih]
theorem renamedL_step (v : List Int) {l : List T} {j : Nat} {x : T} (h : l[j]? = some x) : renamedL v (l.take (j + 1)) = renamedL v (l.take j) ++ [renamedF v x] := by
  rw [take_snoc h, renamedL_append]
  rfl
theorem place_fits (v : List Int) (n : Int) (h : v.length ≤ 1000000) : Fits (placeF v n) := by
  unfold placeF
  cases hp : pos v n with
  | none => exact ⟨by show (-9223372036854775808 : Int) ≤ -1; omega, by show (-1 : Int) ≤ 9223372036854775807; omega⟩
  | some i =>
    have h1 := pos_some hp
    have hi := (List.getElem?_eq_some_iff.1 h1).1
    exact ⟨by show (-9223372036854775808 : Int) ≤ (i : Int); omega, by show (i : Int) ≤ 9223372036854775807; omega⟩
theorem renamedF_sane (v : List Int) (t : T) (hs : t.Sane) (h : v.length ≤ 1000000) : (renamedF v t).Sane := by
  obtain ⟨k, n, s, l⟩ := t
  unfold renamedF
  by_cases hk : k = 1
  · rw [if_pos hk]
    exact ⟨⟨by show (-9223372036854775808 : Int) ≤ 1; omega, by show (1 : Int) ≤ 9223372036854775807; omega⟩, place_fits v n h, Nat.zero_le _, Nat.zero_le _⟩
  · rw [if_neg hk]
    exact ⟨hs.k, hs.n, hs.s, by show (renamedL v l).length ≤ maxLen; rw [renamedL_len]; exact hs.l⟩
theorem rvar_plain (n : Int) (w : World) : Calls Try.prog 14 #[.int .i64 n] w fun e w' => e = .returned (.agg #[.int .i64 1, .int .i64 n, .string ⟨#[]⟩, .slice none 0 0]) ∧ Only (fun _ => False) w w' := rvar_any n w
set_option maxRecDepth 100000 in
set_option maxHeartbeats 4000000 in
theorem renamed_any (v : List Int) (hv : v.length ≤ 1000000) (Bv : Nat) (so : Option Addr) (sc : Nat) (t : T) : ∀ (w : World) (ao : Option Addr) (cap : Nat), Lies w ao t.l → t.Sane → OrdB Bv so sc v w → t.size ≤ 1000000 →
    Calls Try.prog 64 #[tv t ao cap, .slice so v.length sc] w fun e w' => ∃ ao' cap', e = .returned (tv (renamedF v t) ao' cap') ∧ Row (Since w w') w' ao' (renamedF v t).l ∧ Only (fun _ => False) w w' := by
  obtain ⟨i0, hi, hz0, hz1, hz2⟩ := info_parts infoT
  induction t using T.ind with
  | h k n s l ih =>
    intro w ao cap hl hs ho hz
    have HL := Lib.hid hl
    have HI := Lib.hid ih
    have HORD := Lib.hid ho
    have HZ := Lib.hid hz
    have hll := length_le_sizes l
    have hlen : l.length ≤ 1000000 := by have h1 : (T.mk k n s l).size = 1 + sizes l := rfl; omega
    have HS := Lib.hid hs
    show Calls Try.prog 64 #[.agg #[.int .i64 k, .int .i64 n, .string s, .slice ao l.length cap], .slice so v.length sc] w _
    have hb0 : Quad w.heap.size (.int .i64 k) (.int .i64 n) (.string s) (.slice ao l.length cap) ((w.alloc (.cells #[.int .i64 k, .int .i64 n, .string s, .slice ao l.length cap] 24)).alloc (.cells #[.int .i64 0, .int .i64 0, .string ⟨#[]⟩, .slice none 0 0] 24)) := blk_later (heap_alloc_new w _) (Only.alloc _ _ _)
    have hq0 : Quad (w.heap.size + 1) (.int .i64 0) (.int .i64 0) (.string ⟨#[]⟩) (.slice none 0 0) ((w.alloc (.cells #[.int .i64 k, .int .i64 n, .string s, .slice ao l.length cap] 24)).alloc (.cells #[.int .i64 0, .int .i64 0, .string ⟨#[]⟩, .slice none 0 0] 24)) := by
      have := heap_alloc_new (w.alloc (.cells #[.int .i64 k, .int .i64 n, .string s, .slice ao l.length cap] 24)) (.cells #[.int .i64 0, .int .i64 0, .string ⟨#[]⟩, .slice none 0 0] 24)
      unfold Quad
      simpa using this
    have ho0 : Only (fun _ => False) w ((w.alloc (.cells #[.int .i64 k, .int .i64 n, .string s, .slice ao l.length cap] 24)).alloc (.cells #[.int .i64 0, .int .i64 0, .string ⟨#[]⟩, .slice none 0 0] 24)) := (Only.alloc _ _ _).same (Only.alloc _ _ _)
    have hs0 : ((w.alloc (.cells #[.int .i64 k, .int .i64 n, .string s, .slice ao l.length cap] 24)).alloc (.cells #[.int .i64 0, .int .i64 0, .string ⟨#[]⟩, .slice none 0 0] 24)).heap.size = w.heap.size + 2 := by simp
    clear hl ih ho hs hz hll
    by_cases hk : k = 1
    · subst hk
      have HE : Hid (renamedF v (.mk 1 n s l) = .mk 1 (placeF v n) ⟨#[]⟩ []) := Lib.hid (by unfold renamedF; rw [if_pos rfl])
      have hk1 : ((1 : Int) == 1) = true := rfl
      go_enter Try.func64, Try.ntmps64
      have HPL : Hid (∀ w1, Only (fun _ => False) w w1 → Calls Try.prog 74 #[.slice so v.length sc, .int .i64 n] w1 fun e w' => e = .returned (.int .i64 (placeF v n)) ∧ w' = w1) := Lib.hid (fun w1 ho1 => place_any v n w1 Bv so sc (HORD.out.only ho1 (fun _ _ e => e)) hv)
      go_wp2_with fail
      generalize ((w.alloc (.cells #[.int .i64 1, .int .i64 n, .string s, .slice ao l.length cap] 24)).alloc (.cells #[.int .i64 0, .int .i64 0, .string ⟨#[]⟩, .slice none 0 0] 24)) = w1 at *
      have HQ1 := Lib.hid hq0
      have HO1 := Lib.hid ho0
      clear hq0 ho0 hb0
      refine (HPL.out w1 HO1.out).mono ?_
      rintro e w2 ⟨rfl, rfl⟩
      go_wp2_with fail
      refine (rvar_plain _ _).mono ?_
      rintro e w3 ⟨rfl, ho3⟩
      have HO3 := Lib.hid (HO1.out.same ho3)
      have hq3 := HQ1.out.only ho3 (fun e => e)
      have HS3 := Lib.hid (hq3.set (.int .i64 1) (.int .i64 (placeF v n)) (.string ⟨#[]⟩) (.slice none 0 0))
      obtain ⟨e0, e1, e2, e3⟩ := hq3.cells
      obtain ⟨f0, f1, f2, f3⟩ := hq3.free
      clear ho3 hq3
      go_wp2_with fail
      have hc := HS3.out.1.cells
      rw [HE.out]
      refine bodyPost_ret (v := tv (T.mk 1 (placeF v n) ⟨#[]⟩ []) none 0) (results_term rfl _ _ (w.heap.size + 1) _ _ _ _ rfl hc.1 hc.2.1 hc.2.2.1 hc.2.2.2) rfl ?_
      exact ⟨none, 0, rfl, Row.nil _ _ _, Only.cut HO3.out HS3.out.2 (fun k e => by omega)⟩
    · have hk1 : (k == 1) = false := by simpa using hk
      have HE : Hid (renamedF v (.mk k n s l) = .mk k n s (renamedL v l)) := Lib.hid (by unfold renamedF; rw [if_neg hk])
      clear hk
      go_enter Try.func64, Try.ntmps64
      go_wp2_with fail
      have hb2 : (((w.alloc (.cells #[.int .i64 k, .int .i64 n, .string s, .slice ao l.length cap] 24)).alloc (.cells #[.int .i64 0, .int .i64 0, .string ⟨#[]⟩, .slice none 0 0] 24)).alloc (.cells #[.int .i64 k, .int .i64 n, .string s, .slice none 0 0] 24)).heap.size = w.heap.size + 3 := by simp
      have HI0 : Hid (BuildI 0 w (w.heap.size + 2) k n s [] [] none 0 (((w.alloc (.cells #[.int .i64 k, .int .i64 n, .string s, .slice ao l.length cap] 24)).alloc (.cells #[.int .i64 0, .int .i64 0, .string ⟨#[]⟩, .slice none 0 0] 24)).alloc (.cells #[.int .i64 k, .int .i64 n, .string s, .slice none 0 0] 24)) ∧ Quad w.heap.size (.int .i64 k) (.int .i64 n) (.string s) (.slice ao l.length cap) (((w.alloc (.cells #[.int .i64 k, .int .i64 n, .string s, .slice ao l.length cap] 24)).alloc (.cells #[.int .i64 0, .int .i64 0, .string ⟨#[]⟩, .slice none 0 0] 24)).alloc (.cells #[.int .i64 k, .int .i64 n, .string s, .slice none 0 0] 24))) := Lib.hid (by
        have o3 : Only (fun _ => False) ((w.alloc (.cells #[.int .i64 k, .int .i64 n, .string s, .slice ao l.length cap] 24)).alloc (.cells #[.int .i64 0, .int .i64 0, .string ⟨#[]⟩, .slice none 0 0] 24)) (((w.alloc (.cells #[.int .i64 k, .int .i64 n, .string s, .slice ao l.length cap] 24)).alloc (.cells #[.int .i64 0, .int .i64 0, .string ⟨#[]⟩, .slice none 0 0] 24)).alloc (.cells #[.int .i64 k, .int .i64 n, .string s, .slice none 0 0] 24)) := Only.alloc _ _ _
        have h3 := heap_alloc_new ((w.alloc (.cells #[.int .i64 k, .int .i64 n, .string s, .slice ao l.length cap] 24)).alloc (.cells #[.int .i64 0, .int .i64 0, .string ⟨#[]⟩, .slice none 0 0] 24)) (.cells #[.int .i64 k, .int .i64 n, .string s, .slice none 0 0] 24)
        rw [hs0] at h3
        exact ⟨⟨h3, RowOf.nil _ _ _ _ _, rfl, fun i x hx => by simp at hx, hq0.only o3 (fun e => e), ho0.same o3⟩, hb0.only o3 (fun e => e)⟩)
      generalize (((w.alloc (.cells #[.int .i64 k, .int .i64 n, .string s, .slice ao l.length cap] 24)).alloc (.cells #[.int .i64 0, .int .i64 0, .string ⟨#[]⟩, .slice none 0 0] 24)).alloc (.cells #[.int .i64 k, .int .i64 n, .string s, .slice none 0 0] 24)) = w3 at *
      clear hb0 hq0 ho0 hs0
      rw [show w.heap.size + 1 + 1 = w.heap.size + 2 from rfl]
      go_loopw [6] (fun i wr => ∃ (j : Nat) (its : List It) (oo : Option Addr) (oc : Nat), i = .int .i64 j ∧ j ≤ l.length ∧ Hid (its.length = j ∧ BuildI 0 w (w.heap.size + 2) k n s (renamedL v (l.take j)) its oo oc wr ∧ Quad w.heap.size (.int .i64 k) (.int .i64 n) (.string s) (.slice ao l.length cap) wr)) (fun i _ => l.length - (intOf i).toNat)
      case atStart => exact ⟨0, [], none, 0, rfl, by omega, Lib.hid ⟨rfl, HI0.out⟩⟩
      case round =>
        obtain ⟨j, its, oo, oc, rfl, hj, hI⟩ := hrel
        clear HI0
        obtain ⟨c0, c1, c2, c3⟩ := hI.out.2.2.cells
        by_cases hlt : j < l.length
        · obtain ⟨x, hx⟩ : ∃ x, l[j]? = some x := ⟨_, List.getElem?_eq_getElem hlt⟩
          have hss := sizes_split hx
          have HST := Lib.hid (renamedL_step v hx)
          have HX := Lib.hid (HI.out x (List.mem_of_getElem? hx))
          have hxz : x.size ≤ 1000000 := by have h1 : (T.mk k n s l).size = 1 + sizes l := rfl; have := HZ.out; omega
          have HXZ := Lib.hid hxz
          obtain ⟨b, off, ro, rc, rfl, hb, t0, t1, t2, t3, hsane, hsub⟩ := (HL.out.later hI.out.2.1.own).at hx
          have HSA := Lib.hid hsane
          have HSUB := Lib.hid hsub
          have HSX := Lib.hid (renamedF_sane v x hsane hv)
          have hj0 : (0 : Int) ≤ (j : Int) := by omega
          have hj1 : (j : Int) < (l.length : Int) := by omega
          have HD0 : Hid (Only (fun _ => False) wr wr.drew) := Lib.hid (Only.drew _ _)
          have HORD1 : Hid (OrdB Bv so sc v wr.drew) := Lib.hid (HORD.out.only (S := fun _ => False) (hI.out.2.1.own.same HD0.out) (fun _ _ e => e))
          clear hx hss hsane hsub hxz
          go_wp2_with fail
          have t0 := (HD0.out.cell (p := ⟨b, off + j * 4, none⟩) hb (fun e => e)).trans t0
          have t1 := (HD0.out.cell (p := ⟨b, off + j * 4 + 1, none⟩) hb (fun e => e)).trans t1
          have t2 := (HD0.out.cell (p := ⟨b, off + j * 4 + 2, none⟩) hb (fun e => e)).trans t2
          have t3 := (HD0.out.cell (p := ⟨b, off + j * 4 + 3, none⟩) hb (fun e => e)).trans t3
          obtain ⟨g0, g1, g2, g3⟩ := (hI.out.2.2.only HD0.out (fun e => e)).cells
          obtain ⟨o0, o1, o2, o3⟩ := (hI.out.2.1.out.only HD0.out (fun e => e)).cells
          clear c0 c1 c2 c3
          go_region_law (first
            | (refine step_callTo rfl 64 #[.agg #[.int .i64 x.k, .int .i64 x.n, .string x.s, .slice ro x.l.length rc], .slice so v.length sc] ?_ _ (HX.out wr.drew ro rc (HSUB.out.later HD0.out) HSA.out HORD1.out HXZ.out) ?_
               · go_simp
               rintro e w3 ⟨xo, xc, rfl, hrow, ho⟩
               refine ⟨_, rfl, ?_⟩
               have HO3 : Hid (Only (fun _ => False) wr w3) := Lib.hid (HD0.out.same ho)
               have HROW := Lib.hid hrow
               obtain ⟨p0, p1, p2, p3⟩ := (hI.out.2.1.out.only HO3.out (fun e => e)).cells
               obtain ⟨q0, q1, q2, q3⟩ := (hI.out.2.1.out.only HO3.out (fun e => e)).free
               obtain ⟨m0, m1, m2, m3⟩ := (hI.out.2.1.out.only (HO3.out.same (Only.alloc (fun _ => False) w3 (.cells #[.int .i64 (renamedF v x).k, .int .i64 (renamedF v x).n, .string (renamedF v x).s, .slice xo (renamedF v x).l.length xc] 24))) (fun e => e)).cells
               clear hrow ho)
            | (refine step_append_one liesIt rfl (.tmp 30) (.tmp 38) 22 rfl (w.heap.size + 2 + 1) 24 i0 _ 56 Try.underlying22 hi hz0 hz1 hz2 rfl (by omega) (w3.alloc (.cells #[.int .i64 (renamedF v x).k, .int .i64 (renamedF v x).n, .string (renamedF v x).s, .slice xo (renamedF v x).l.length xc] 24)) oo oc its ⟨renamedF v x, xo, xc⟩ [.int .i64 (renamedF v x).k, .int .i64 (renamedF v x).n, .string (renamedF v x).s, .slice xo (renamedF v x).l.length xc] rfl rfl (hI.out.2.1.row.only (S := fun _ => False) (HO3.out.same (Only.alloc _ _ _)) (fun _ _ e => e)) w3.heap.size 24 (heap_alloc_new w3 _) rfl (by have := hI.out.1; omega) (by have := lt_of_block hI.out.2.1.out; have := HO3.out.size; simp; omega) ?_
               intro oo' oc' w5 hrow5 ho5 hnew5
               have HSTEP := Lib.hid (hI.out.2.1.step (Nat.zero_le _) rfl HO3.out HSX.out (HROW.out.mono (fun q hq => .inr hq)) (Only.alloc _ _ _) hrow5 ho5 hnew5)
               have HNO : Hid (∀ q, q ≤ w.heap.size + 2 → ¬ RowAt oo q) := Lib.hid (by rintro q hq ⟨g, hg, e⟩; have := (hI.out.2.1.row.head g hg).2.1; omega)
               have HQ5 := Lib.hid ((hI.out.2.2.only (HO3.out.same (Only.alloc _ _ _)) (fun e => e)).only ho5 (HNO.out _ (by omega)))
               obtain ⟨r0, r1, r2, r3⟩ := ((hI.out.2.1.out.only (HO3.out.same (Only.alloc _ _ _)) (fun e => e)).only ho5 (HNO.out _ (by omega))).cells
               obtain ⟨y0, y1, y2, y3⟩ := ((hI.out.2.1.out.only (HO3.out.same (Only.alloc _ _ _)) (fun e => e)).only ho5 (HNO.out _ (by omega))).free
               clear hrow5 ho5 hnew5))
          all_goals
            have HNX : Hid ((its ++ [(⟨renamedF v x, xo, xc⟩ : It)]).length = j + 1 ∧ BuildI 0 w (w.heap.size + 2) k n s (renamedL v (l.take (j + 1))) (its ++ [⟨renamedF v x, xo, xc⟩]) oo' oc' (w5.setCell ⟨w.heap.size + 2, 3, none⟩ (.slice oo' (its.length + 1) oc')) ∧ Quad w.heap.size (.int .i64 k) (.int .i64 n) (.string s) (.slice (some ⟨b, off, none⟩) l.length cap) (w5.setCell ⟨w.heap.size + 2, 3, none⟩ (.slice oo' (its.length + 1) oc'))) := Lib.hid ⟨by rw [List.length_append, hI.out.1]; rfl, by rw [HST.out]; exact HSTEP.out, HQ5.out.only (Only.setCell (S := fun q => q = w.heap.size + 2) _ (p := ⟨w.heap.size + 2, 3, none⟩) rfl _) (by omega)⟩
            clear HSTEP HNO HQ5 HO3 HROW HORD1 HD0
            go_wp2_with fail
            go_roundw
            case rel => exact ⟨j + 1, _, oo', oc', by go_num, by omega, HNX⟩
            case measure => simp [intOf]; omega
        · obtain rfl : j = l.length := by omega
          have HT : Hid (renamedL v (l.take l.length) = renamedL v l) := Lib.hid (by rw [List.take_length])
          have hli : its.length = (renamedL v l).length := by rw [← HT.out, ← hI.out.2.1.eq, List.length_map]
          have HLI := Lib.hid hli
          have hq := hI.out.2.1.res
          have HSET := Lib.hid (hq.set (.int .i64 k) (.int .i64 n) (.string s) (.slice oo its.length oc))
          obtain ⟨e0, e1, e2, e3⟩ := hq.cells
          obtain ⟨f0, f1, f2, f3⟩ := hq.free
          obtain ⟨o0, o1, o2, o3⟩ := hI.out.2.1.out.cells
          clear hq hli
          go_wp2_with fail
          have hc := HSET.out.1.cells
          have hc3 : (quadW wr (w.heap.size + 1) (.int .i64 k) (.int .i64 n) (.string s) (.slice oo its.length oc)).cell? ⟨w.heap.size + 1, 3, none⟩ = some (.slice oo (renamedL v l).length oc) := by rw [← HLI.out]; exact hc.2.2.2
          rw [HE.out]
          have o4 := HSET.out.2
          have s4 := o4.size
          refine bodyPost_ret (v := tv (T.mk k n s (renamedL v l)) oo oc) (results_term rfl _ _ (w.heap.size + 1) _ _ _ _ rfl hc.1 hc.2.1 hc.2.2.1 hc3) rfl ?_
          refine ⟨oo, oc, rfl, ?_, Only.cut hI.out.2.1.own o4 (fun k e => by omega)⟩
          have hb2 := lt_of_block hI.out.2.1.out
          have hr := Row.tail (P := fun q => w.heap.size + 2 < q ∧ q < wr.heap.size) hI.out.2.1.row (fun q h1 h2 => ⟨by omega, h2⟩) (fun i x hx => ⟨(hI.out.2.1.subs i x hx).1, (hI.out.2.1.subs i x hx).2.mono (fun q hq => ⟨by have := hq.1; omega, hq.2.1⟩)⟩)
          rw [hI.out.2.1.eq, HT.out] at hr
          exact (hr.only o4 (fun q hq => hq.2) (fun q hq e => by have := hq.1; omega)).mono (fun q hq => ⟨by have := hq.1; omega, Nat.lt_of_lt_of_le hq.2 s4⟩)
end Go.Proofs.Ytdpbbcjlbnangaa.terms
