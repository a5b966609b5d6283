/- Terms: the reference's Replace. -/
import Derived.Test.YtdpbbcjlbnangaaTerm44
namespace Go.Proofs.Ytdpbbcjlbnangaa.terms
open Go.RowKit Go.Proofs.Ytdpbbcjlbnangaa.own Go.Maps
theorem right_var {n : Int} {s : ByteArray} {l : List T} (h : (T.mk 1 n s l).right = true) : 0 ≤ n := (var_form h).2.2.1
theorem right_item {k n : Int} {s : ByteArray} {l : List T} (h : (T.mk k n s l).right = true) {j : Nat} {x : T} (hx : l[j]? = some x) : x.right = true := by
  rw [T.right_eq, Bool.and_eq_true] at h
  exact rights_iff.1 h.2 x (List.mem_of_getElem? hx)
mutual
def replacedF (v : List T) : T → T | .mk k n s l => if k = 1 then (if n < (v.length : Int) then v.getD n.toNat default else .mk k n s l) else .mk k n s (replacedL v l)
def replacedL (v : List T) : List T → List T | [] => [] | x :: r => replacedF v x :: replacedL v r
end
theorem replacedL_len (v : List T) (l : List T) : (replacedL v l).length = l.length := by
  induction l with
  | nil => rfl
  | cons x r ih => simp only [replacedL, List.length_cons, ih]
theorem replacedL_append (v : List T) (a b : List T) : replacedL v (a ++ b) = replacedL v a ++ replacedL v b := by
  induction a with
  | nil => rfl
  | cons x r ih => simp only [List.cons_append, replacedL, ih]
theorem replacedL_step (v : List T) {l : List T} {j : Nat} {x : T} (h : l[j]? = some x) : replacedL v (l.take (j + 1)) = replacedL v (l.take j) ++ [replacedF v x] := by
  rw [take_snoc h, replacedL_append]
  rfl
theorem replacedF_sane (v : List T) (t : T) (hs : t.Sane) (h : ∀ x ∈ v, x.Sane) (hr : t.right = true) : (replacedF v t).Sane := by
  obtain ⟨k, n, s, l⟩ := t
  unfold replacedF
  by_cases hk : k = 1
  · rw [if_pos hk]
    have hn := right_var (hk ▸ hr)
    by_cases hn2 : n < (v.length : Int)
    · rw [if_pos hn2]
      obtain ⟨y, hy⟩ : ∃ y, v[n.toNat]? = some y := ⟨_, List.getElem?_eq_getElem (by omega)⟩
      have : v.getD n.toNat default = y := by simp [List.getD, hy]
      rw [this]
      exact h y (List.mem_of_getElem? hy)
    · rw [if_neg hn2]
      exact hs
  · rw [if_neg hk]
    exact ⟨hs.k, hs.n, hs.s, by show (replacedL v l).length ≤ maxLen; rw [replacedL_len]; exact hs.l⟩
set_option maxRecDepth 100000 in
set_option maxHeartbeats 3000000 in
theorem rReplace_row (v : List T) (hv : v.length ≤ 1000000) (B0 : Nat) (so : Option Addr) (sc : Nat) (t : T) : ∀ (w : World) (ao : Option Addr) (cap : Nat), Row (· < B0) w ao t.l → t.Sane → Row (· < B0) w so v → t.size ≤ 1000000 → t.right = true → B0 ≤ w.heap.size →
    Calls Try.prog 40 #[tv t ao cap, .slice so v.length sc] w fun e w' => ∃ ao' cap', e = .returned (tv (replacedF v t) ao' cap') ∧ Row (fun q => q < B0 ∨ Since w w' q) w' ao' (replacedF v t).l ∧ Only (fun _ => False) w w' := by
  obtain ⟨i0, hi, hz0, hz1, hz2⟩ := info_parts infoT
  induction t using T.ind with
  | h k n s l ih =>
    intro w ao cap hl hs ho hz hr hB0
    have HR := Lib.hid hr
    have HB0 := Lib.hid hB0
    have HL := Lib.hid hl
    have HI := Lib.hid ih
    have HORD := Lib.hid ho
    have HVS : Hid (∀ x ∈ v, x.Sane) := Lib.hid (fun x hx => by
      obtain ⟨i, hi⟩ := List.mem_iff_getElem?.1 hx
      obtain ⟨_, _, _, _, _, _, _, _, _, _, h, _⟩ := ho.at hi
      exact h)
    have HZ := Lib.hid hz
    have hll := length_le_sizes l
    have hlen : l.length ≤ 1000000 := by have h1 : (T.mk k n s l).size = 1 + sizes l := rfl; omega
    have HS := Lib.hid hs
    show Calls Try.prog 40 #[.agg #[.int .i64 k, .int .i64 n, .string s, .slice ao l.length cap], .slice so v.length sc] w _
    have hb0 : Quad w.heap.size (.int .i64 k) (.int .i64 n) (.string s) (.slice ao l.length cap) ((w.alloc (.cells #[.int .i64 k, .int .i64 n, .string s, .slice ao l.length cap] 24)).alloc (.cells #[.int .i64 0, .int .i64 0, .string ⟨#[]⟩, .slice none 0 0] 24)) := blk_later (heap_alloc_new w _) (Only.alloc _ _ _)
    have hq0 : Quad (w.heap.size + 1) (.int .i64 0) (.int .i64 0) (.string ⟨#[]⟩) (.slice none 0 0) ((w.alloc (.cells #[.int .i64 k, .int .i64 n, .string s, .slice ao l.length cap] 24)).alloc (.cells #[.int .i64 0, .int .i64 0, .string ⟨#[]⟩, .slice none 0 0] 24)) := by
      have := heap_alloc_new (w.alloc (.cells #[.int .i64 k, .int .i64 n, .string s, .slice ao l.length cap] 24)) (.cells #[.int .i64 0, .int .i64 0, .string ⟨#[]⟩, .slice none 0 0] 24)
      unfold Quad
      simpa using this
    have ho0 : Only (fun _ => False) w ((w.alloc (.cells #[.int .i64 k, .int .i64 n, .string s, .slice ao l.length cap] 24)).alloc (.cells #[.int .i64 0, .int .i64 0, .string ⟨#[]⟩, .slice none 0 0] 24)) := (Only.alloc _ _ _).same (Only.alloc _ _ _)
    have hs0 : ((w.alloc (.cells #[.int .i64 k, .int .i64 n, .string s, .slice ao l.length cap] 24)).alloc (.cells #[.int .i64 0, .int .i64 0, .string ⟨#[]⟩, .slice none 0 0] 24)).heap.size = w.heap.size + 2 := by simp
    clear hl ih ho hs hz hll hr hB0
    by_cases hk : k = 1
    · subst hk
      have hn := right_var HR.out
      by_cases hlt : n < (v.length : Int)
      · obtain ⟨y, hy⟩ : ∃ y, v[n.toNat]? = some y := ⟨_, List.getElem?_eq_getElem (by omega)⟩
        have HE : Hid (replacedF v (.mk 1 n s l) = y) := Lib.hid (by unfold replacedF; rw [if_pos rfl, if_pos hlt]; simp [List.getD, hy])
        obtain ⟨j, rfl⟩ : ∃ j : Nat, n = (j : Int) := ⟨n.toNat, by omega⟩
        simp only [Int.toNat_natCast] at hy
        obtain ⟨b, off, yo, yc, rfl, hb, t0, t1, t2, t3, hys, hyl⟩ := (HORD.out.only (S := fun _ => False) ho0 (fun q hq => by have := HB0.out; omega) (fun _ _ e => e)).at hy
        have hbw : b < w.heap.size := by have := HB0.out; omega
        have ho0' := Lib.hid ho0
        have hj0 : (0 : Int) ≤ (j : Int) := by omega
        have hk1 : ((1 : Int) == 1) = true := rfl
        have HSET : Hid (Quad (w.heap.size + 1) (.int .i64 y.k) (.int .i64 y.n) (.string y.s) (.slice yo y.l.length yc) ((w.alloc (.cells #[.int .i64 1, .int .i64 (j : Int), .string s, .slice ao l.length cap] 24)).alloc (.cells #[.int .i64 y.k, .int .i64 y.n, .string y.s, .slice yo y.l.length yc] 24)) ∧ Only (fun _ => False) w ((w.alloc (.cells #[.int .i64 1, .int .i64 (j : Int), .string s, .slice ao l.length cap] 24)).alloc (.cells #[.int .i64 y.k, .int .i64 y.n, .string y.s, .slice yo y.l.length yc] 24))) := Lib.hid ⟨by
          have := heap_alloc_new (w.alloc (.cells #[.int .i64 1, .int .i64 (j : Int), .string s, .slice ao l.length cap] 24)) (.cells #[.int .i64 y.k, .int .i64 y.n, .string y.s, .slice yo y.l.length yc] 24)
          unfold Quad
          simpa using this, (Only.alloc _ _ _).same (Only.alloc _ _ _)⟩
        have HORDO := Lib.hid (HORD.out.at hy)
        obtain ⟨e0, e1, e2, e3⟩ := hq0.cells
        obtain ⟨f0, f1, f2, f3⟩ := hq0.free
        obtain ⟨c0, c1, c2, c3⟩ := hb0.cells
        clear hb0 hq0 ho0 hyl hy hys
        go_enter Try.func40, Try.ntmps40
        go_wp2_with fail
        have hc := HSET.out.1.cells
        rw [HE.out]
        have o4 := HSET.out.2
        refine bodyPost_ret (v := tv y yo yc) (results_term rfl _ _ (w.heap.size + 1) _ _ _ _ rfl hc.1 hc.2.1 hc.2.2.1 hc.2.2.2) rfl ?_
        obtain ⟨b2, off2, yo2, yc2, he2, hb2, d0, d1, d2, d3, _, hyl2⟩ := HORDO.out
        cases he2
        have hyo : yo2 = yo := by
          have e3 := (ho0'.out.cell (p := ⟨b, off + j * 4 + 3, none⟩) hbw (fun e => e)).trans d3
          rw [t3] at e3
          simp only [Option.some.injEq, Value.slice.injEq] at e3
          exact e3.1.symm
        subst hyo
        exact ⟨yo2, ⟨yc, rfl⟩, (hyl2.only o4 (fun q hq => by have := HB0.out; omega) (fun q hq e => e)).mono (fun q hq => .inl hq), o4⟩
      · have HE : Hid (replacedF v (.mk 1 n s l) = .mk 1 n s l) := Lib.hid (by unfold replacedF; rw [if_pos rfl, if_neg hlt])
        have hk1 : ((1 : Int) == 1) = true := rfl
        have HSET : Hid (Quad (w.heap.size + 1) (.int .i64 1) (.int .i64 n) (.string s) (.slice ao l.length cap) ((w.alloc (.cells #[.int .i64 1, .int .i64 n, .string s, .slice ao l.length cap] 24)).alloc (.cells #[.int .i64 1, .int .i64 n, .string s, .slice ao l.length cap] 24)) ∧ Only (fun _ => False) w ((w.alloc (.cells #[.int .i64 1, .int .i64 n, .string s, .slice ao l.length cap] 24)).alloc (.cells #[.int .i64 1, .int .i64 n, .string s, .slice ao l.length cap] 24))) := Lib.hid ⟨by
          have := heap_alloc_new (w.alloc (.cells #[.int .i64 1, .int .i64 n, .string s, .slice ao l.length cap] 24)) (.cells #[.int .i64 1, .int .i64 n, .string s, .slice ao l.length cap] 24)
          unfold Quad
          simpa using this, (Only.alloc _ _ _).same (Only.alloc _ _ _)⟩
        obtain ⟨e0, e1, e2, e3⟩ := hq0.cells
        obtain ⟨f0, f1, f2, f3⟩ := hq0.free
        obtain ⟨c0, c1, c2, c3⟩ := hb0.cells
        clear hb0 hq0 ho0
        go_enter Try.func40, Try.ntmps40
        go_wp2_with fail
        have hc := HSET.out.1.cells
        rw [HE.out]
        have o4 := HSET.out.2
        refine bodyPost_ret (v := tv (T.mk 1 n s l) ao cap) (results_term rfl _ _ (w.heap.size + 1) _ _ _ _ rfl hc.1 hc.2.1 hc.2.2.1 hc.2.2.2) rfl ?_
        exact ⟨ao, ⟨cap, rfl⟩, (HL.out.only o4 (fun q hq => by have := HB0.out; omega) (fun _ _ e => e)).mono (fun q hq => .inl hq), o4⟩
    · have hk1 : (k == 1) = false := by simpa using hk
      have HE : Hid (replacedF v (.mk k n s l) = .mk k n s (replacedL v l)) := Lib.hid (by unfold replacedF; rw [if_neg hk])
      clear hk
      go_enter Try.func40, Try.ntmps40
      go_wp2_with fail
      have hb2 : (((w.alloc (.cells #[.int .i64 k, .int .i64 n, .string s, .slice ao l.length cap] 24)).alloc (.cells #[.int .i64 0, .int .i64 0, .string ⟨#[]⟩, .slice none 0 0] 24)).alloc (.cells #[.int .i64 k, .int .i64 n, .string s, .slice none 0 0] 24)).heap.size = w.heap.size + 3 := by simp
      have HI0 : Hid (BuildI B0 w (w.heap.size + 2) k n s [] [] none 0 (((w.alloc (.cells #[.int .i64 k, .int .i64 n, .string s, .slice ao l.length cap] 24)).alloc (.cells #[.int .i64 0, .int .i64 0, .string ⟨#[]⟩, .slice none 0 0] 24)).alloc (.cells #[.int .i64 k, .int .i64 n, .string s, .slice none 0 0] 24)) ∧ Quad w.heap.size (.int .i64 k) (.int .i64 n) (.string s) (.slice ao l.length cap) (((w.alloc (.cells #[.int .i64 k, .int .i64 n, .string s, .slice ao l.length cap] 24)).alloc (.cells #[.int .i64 0, .int .i64 0, .string ⟨#[]⟩, .slice none 0 0] 24)).alloc (.cells #[.int .i64 k, .int .i64 n, .string s, .slice none 0 0] 24))) := Lib.hid (by
        have o3 : Only (fun _ => False) ((w.alloc (.cells #[.int .i64 k, .int .i64 n, .string s, .slice ao l.length cap] 24)).alloc (.cells #[.int .i64 0, .int .i64 0, .string ⟨#[]⟩, .slice none 0 0] 24)) (((w.alloc (.cells #[.int .i64 k, .int .i64 n, .string s, .slice ao l.length cap] 24)).alloc (.cells #[.int .i64 0, .int .i64 0, .string ⟨#[]⟩, .slice none 0 0] 24)).alloc (.cells #[.int .i64 k, .int .i64 n, .string s, .slice none 0 0] 24)) := Only.alloc _ _ _
        have h3 := heap_alloc_new ((w.alloc (.cells #[.int .i64 k, .int .i64 n, .string s, .slice ao l.length cap] 24)).alloc (.cells #[.int .i64 0, .int .i64 0, .string ⟨#[]⟩, .slice none 0 0] 24)) (.cells #[.int .i64 k, .int .i64 n, .string s, .slice none 0 0] 24)
        rw [hs0] at h3
        exact ⟨⟨h3, RowOf.nil _ _ _ _ _, rfl, fun i x hx => by simp at hx, hq0.only o3 (fun e => e), ho0.same o3⟩, hb0.only o3 (fun e => e)⟩)
      generalize (((w.alloc (.cells #[.int .i64 k, .int .i64 n, .string s, .slice ao l.length cap] 24)).alloc (.cells #[.int .i64 0, .int .i64 0, .string ⟨#[]⟩, .slice none 0 0] 24)).alloc (.cells #[.int .i64 k, .int .i64 n, .string s, .slice none 0 0] 24)) = w3 at *
      clear hb0 hq0 ho0 hs0
      rw [show w.heap.size + 1 + 1 = w.heap.size + 2 from rfl]
      go_loopw [6] (fun i wr => ∃ (j : Nat) (its : List It) (oo : Option Addr) (oc : Nat), i = .int .i64 j ∧ j ≤ l.length ∧ Hid (its.length = j ∧ BuildI B0 w (w.heap.size + 2) k n s (replacedL v (l.take j)) its oo oc wr ∧ Quad w.heap.size (.int .i64 k) (.int .i64 n) (.string s) (.slice ao l.length cap) wr)) (fun i _ => l.length - (intOf i).toNat)
      case atStart => exact ⟨0, [], none, 0, rfl, by omega, Lib.hid ⟨rfl, HI0.out⟩⟩
      case round =>
        obtain ⟨j, its, oo, oc, rfl, hj, hI⟩ := hrel
        clear HI0
        obtain ⟨c0, c1, c2, c3⟩ := hI.out.2.2.cells
        by_cases hlt : j < l.length
        · obtain ⟨x, hx⟩ : ∃ x, l[j]? = some x := ⟨_, List.getElem?_eq_getElem hlt⟩
          have hss := sizes_split hx
          have HST := Lib.hid (replacedL_step v hx)
          have HX := Lib.hid (HI.out x (List.mem_of_getElem? hx))
          have hxz : x.size ≤ 1000000 := by have h1 : (T.mk k n s l).size = 1 + sizes l := rfl; have := HZ.out; omega
          have HXZ := Lib.hid hxz
          obtain ⟨b, off, ro, rc, rfl, hb, t0, t1, t2, t3, hsane, hsub⟩ := (HL.out.only (S := fun _ => False) hI.out.2.1.own (fun q hq => by have := HB0.out; omega) (fun _ _ e => e)).at hx
          have HSA := Lib.hid hsane
          have HSUB := Lib.hid hsub
          have hrx := right_item HR.out hx
          have HSX := Lib.hid (replacedF_sane v x hsane HVS.out hrx)
          have hj0 : (0 : Int) ≤ (j : Int) := by omega
          have hj1 : (j : Int) < (l.length : Int) := by omega
          have HD0 : Hid (Only (fun _ => False) wr wr.drew) := Lib.hid (Only.drew _ _)
          have HORD1 : Hid (Row (· < B0) wr.drew so v) := Lib.hid (HORD.out.only (S := fun _ => False) (hI.out.2.1.own.same HD0.out) (fun q hq => by have := HB0.out; omega) (fun _ _ e => e))
          have HBW : Hid (B0 ≤ wr.drew.heap.size) := Lib.hid (by have := HB0.out; have := hI.out.2.1.own.size; have := HD0.out.size; omega)
          have HRX : Hid (x.right = true) := Lib.hid (hrx)
          have hb : b < wr.heap.size := by have := HB0.out; have := hI.out.2.1.own.size; omega
          clear hx hss hsane hsub hxz
          go_wp2_with fail
          have t0 := (HD0.out.cell (p := ⟨b, off + j * 4, none⟩) hb (fun e => e)).trans t0
          have t1 := (HD0.out.cell (p := ⟨b, off + j * 4 + 1, none⟩) hb (fun e => e)).trans t1
          have t2 := (HD0.out.cell (p := ⟨b, off + j * 4 + 2, none⟩) hb (fun e => e)).trans t2
          have t3 := (HD0.out.cell (p := ⟨b, off + j * 4 + 3, none⟩) hb (fun e => e)).trans t3
          obtain ⟨g0, g1, g2, g3⟩ := (hI.out.2.2.only HD0.out (fun e => e)).cells
          obtain ⟨o0, o1, o2, o3⟩ := (hI.out.2.1.out.only HD0.out (fun e => e)).cells
          clear c0 c1 c2 c3
          go_region_law (first
            | (refine step_callTo rfl 40 #[.agg #[.int .i64 x.k, .int .i64 x.n, .string x.s, .slice ro x.l.length rc], .slice so v.length sc] ?_ _ (HX.out wr.drew ro rc (HSUB.out.only HD0.out (fun q hq => by have := HBW.out; exact Nat.lt_of_lt_of_le hq this) (fun _ _ e => e)) HSA.out HORD1.out HXZ.out HRX.out HBW.out) ?_
               · go_simp
               rintro e w3 ⟨xo, xc, rfl, hrow, ho⟩
               refine ⟨_, rfl, ?_⟩
               have HO3 : Hid (Only (fun _ => False) wr w3) := Lib.hid (HD0.out.same ho)
               have HROW := Lib.hid hrow
               obtain ⟨p0, p1, p2, p3⟩ := (hI.out.2.1.out.only HO3.out (fun e => e)).cells
               obtain ⟨q0, q1, q2, q3⟩ := (hI.out.2.1.out.only HO3.out (fun e => e)).free
               obtain ⟨m0, m1, m2, m3⟩ := (hI.out.2.1.out.only (HO3.out.same (Only.alloc (fun _ => False) w3 (.cells #[.int .i64 (replacedF v x).k, .int .i64 (replacedF v x).n, .string (replacedF v x).s, .slice xo (replacedF v x).l.length xc] 24))) (fun e => e)).cells
               clear hrow ho)
            | (refine step_append_one liesIt rfl (.tmp 36) (.tmp 44) 22 rfl (w.heap.size + 2 + 1) 24 i0 _ 56 Try.underlying22 hi hz0 hz1 hz2 rfl (by omega) (w3.alloc (.cells #[.int .i64 (replacedF v x).k, .int .i64 (replacedF v x).n, .string (replacedF v x).s, .slice xo (replacedF v x).l.length xc] 24)) oo oc its ⟨replacedF v x, xo, xc⟩ [.int .i64 (replacedF v x).k, .int .i64 (replacedF v x).n, .string (replacedF v x).s, .slice xo (replacedF v x).l.length xc] rfl rfl (hI.out.2.1.row.only (S := fun _ => False) (HO3.out.same (Only.alloc _ _ _)) (fun _ _ e => e)) w3.heap.size 24 (heap_alloc_new w3 _) rfl (by have := hI.out.1; omega) (by have := lt_of_block hI.out.2.1.out; have := HO3.out.size; simp; omega) ?_
               intro oo' oc' w5 hrow5 ho5 hnew5
               have HSTEP := Lib.hid (hI.out.2.1.step (by have := HB0.out; omega) rfl HO3.out HSX.out (HROW.out.mono (fun q hq => hq)) (Only.alloc _ _ _) hrow5 ho5 hnew5)
               have HNO : Hid (∀ q, q ≤ w.heap.size + 2 → ¬ RowAt oo q) := Lib.hid (by rintro q hq ⟨g, hg, e⟩; have := (hI.out.2.1.row.head g hg).2.1; omega)
               have HQ5 := Lib.hid ((hI.out.2.2.only (HO3.out.same (Only.alloc _ _ _)) (fun e => e)).only ho5 (HNO.out _ (by omega)))
               obtain ⟨r0, r1, r2, r3⟩ := ((hI.out.2.1.out.only (HO3.out.same (Only.alloc _ _ _)) (fun e => e)).only ho5 (HNO.out _ (by omega))).cells
               obtain ⟨y0, y1, y2, y3⟩ := ((hI.out.2.1.out.only (HO3.out.same (Only.alloc _ _ _)) (fun e => e)).only ho5 (HNO.out _ (by omega))).free
               clear hrow5 ho5 hnew5))
          all_goals
            have HNX : Hid ((its ++ [(⟨replacedF v x, xo, xc⟩ : It)]).length = j + 1 ∧ BuildI B0 w (w.heap.size + 2) k n s (replacedL v (l.take (j + 1))) (its ++ [⟨replacedF v x, xo, xc⟩]) oo' oc' (w5.setCell ⟨w.heap.size + 2, 3, none⟩ (.slice oo' (its.length + 1) oc')) ∧ Quad w.heap.size (.int .i64 k) (.int .i64 n) (.string s) (.slice (some ⟨b, off, none⟩) l.length cap) (w5.setCell ⟨w.heap.size + 2, 3, none⟩ (.slice oo' (its.length + 1) oc'))) := Lib.hid ⟨by rw [List.length_append, hI.out.1]; rfl, by rw [HST.out]; exact HSTEP.out, HQ5.out.only (Only.setCell (S := fun q => q = w.heap.size + 2) _ (p := ⟨w.heap.size + 2, 3, none⟩) rfl _) (by omega)⟩
            clear HSTEP HNO HQ5 HO3 HROW HORD1 HD0
            go_wp2_with fail
            go_roundw
            case rel => exact ⟨j + 1, _, oo', oc', by go_num, by omega, HNX⟩
            case measure => simp [intOf]; omega
        · obtain rfl : j = l.length := by omega
          have HT : Hid (replacedL v (l.take l.length) = replacedL v l) := Lib.hid (by rw [List.take_length])
          have hli : its.length = (replacedL v l).length := by rw [← HT.out, ← hI.out.2.1.eq, List.length_map]
          have HLI := Lib.hid hli
          have hq := hI.out.2.1.res
          have HSET := Lib.hid (hq.set (.int .i64 k) (.int .i64 n) (.string s) (.slice oo its.length oc))
          obtain ⟨e0, e1, e2, e3⟩ := hq.cells
          obtain ⟨f0, f1, f2, f3⟩ := hq.free
          obtain ⟨o0, o1, o2, o3⟩ := hI.out.2.1.out.cells
          clear hq hli
          go_wp2_with fail
          have hc := HSET.out.1.cells
          have hc3 : (quadW wr (w.heap.size + 1) (.int .i64 k) (.int .i64 n) (.string s) (.slice oo its.length oc)).cell? ⟨w.heap.size + 1, 3, none⟩ = some (.slice oo (replacedL v l).length oc) := by rw [← HLI.out]; exact hc.2.2.2
          rw [HE.out]
          have o4 := HSET.out.2
          have s4 := o4.size
          refine bodyPost_ret (v := tv (T.mk k n s (replacedL v l)) oo oc) (results_term rfl _ _ (w.heap.size + 1) _ _ _ _ rfl hc.1 hc.2.1 hc.2.2.1 hc3) rfl ?_
          refine ⟨oo, oc, rfl, ?_, Only.cut hI.out.2.1.own o4 (fun k e => by omega)⟩
          have hb2 := lt_of_block hI.out.2.1.out
          have hr := Row.tail (P := fun q => (q < B0 ∨ w.heap.size + 2 < q) ∧ q < wr.heap.size) hI.out.2.1.row (fun q h1 h2 => ⟨by omega, h2⟩) (fun i x hx => ⟨(hI.out.2.1.subs i x hx).1, (hI.out.2.1.subs i x hx).2.mono (fun q hq => ⟨hq.1, hq.2.1⟩)⟩)
          rw [hI.out.2.1.eq, HT.out] at hr
          exact (hr.only o4 (fun q hq => hq.2) (fun q hq e => by have := hq.1; have := HB0.out; omega)).mono (fun q hq => by
            rcases hq.1 with h | h
            · exact .inl h
            · exact .inr ⟨by omega, Nat.lt_of_lt_of_le hq.2 s4⟩)
end Go.Proofs.Ytdpbbcjlbnangaa.terms
