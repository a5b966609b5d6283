/- Clauses: arguments behind others. -/
import Derived.Test.YtoogmlgaeipenaaClause20
namespace Go.Proofs.Ytoogmlgaeipenaa.terms
set_option maxRecDepth 100000
open Go.RowKit Go.Proofs.Ytoogmlgaeipenaa.own Go.Maps
theorem quadStores {W : World} {r1 r2 : Nat} {x0 x1 x2 x3 z0 z1 z2 z3 : Value} (q : Quad r1 x0 x1 x2 x3 W) (p : Quad r2 z0 z1 z2 z3 W) (hne : r1 ≠ r2) (y0 y1 y2 y3 u0 u1 u2 u3 : Value) (W1 : World) (h : W1 = quadW (quadW W r1 y0 y1 y2 y3) r2 u0 u1 u2 u3 ∨ W1 = quadW (quadW W r2 u0 u1 u2 u3) r1 y0 y1 y2 y3) :
    Quad r1 y0 y1 y2 y3 W1 ∧ Quad r2 u0 u1 u2 u3 W1 ∧ Only (fun k => k = r1 ∨ k = r2) W W1 := by
  rcases h with rfl | rfl
  · have h1 := q.set y0 y1 y2 y3
    have h2 := (p.only h1.2 (fun e => hne e.symm)).set u0 u1 u2 u3
    exact ⟨h1.1.only h2.2 hne, h2.1, (h1.2.mono (fun _ _ e => .inl e)).same (h2.2.mono (fun _ _ e => .inr e))⟩
  · have h1 := p.set u0 u1 u2 u3
    have h2 := (q.only h1.2 hne).set y0 y1 y2 y3
    exact ⟨h2.1, h1.1.only h2.2 (fun e => hne e.symm), (h1.2.mono (fun _ _ e => .inr e)).same (h2.2.mono (fun _ _ e => .inl e))⟩
theorem results_add {fn : Func} {p q u : Tmp} (h : fn.results = #[.cell p 24, .cell q 24, .tmp u]) (tmps : Array Value) (w : World) (b c : Nat) (x0 x1 x2 x3 y0 y1 y2 y3 z : Value) (hb : tmps.getD p undef = .pointer (some ⟨b, 0, none⟩)) (hc : tmps.getD q undef = .pointer (some ⟨c, 0, none⟩)) (hu : tmps.getD u undef = z)
    (h0 : w.cell? ⟨b, 0, none⟩ = some x0) (h1 : w.cell? ⟨b, 1, none⟩ = some x1) (h2 : w.cell? ⟨b, 2, none⟩ = some x2) (h3 : w.cell? ⟨b, 3, none⟩ = some x3) (g0 : w.cell? ⟨c, 0, none⟩ = some y0) (g1 : w.cell? ⟨c, 1, none⟩ = some y1) (g2 : w.cell? ⟨c, 2, none⟩ = some y2) (g3 : w.cell? ⟨c, 3, none⟩ = some y3) :
    (results fn tmps).run Try.prog w = .ok (.tuple #[.agg #[x0, x1, x2, x3], .agg #[y0, y1, y2, y3], z]) w := by
  have hb' : tmps[p]?.getD undef = .pointer (some ⟨b, 0, none⟩) := by simpa using hb
  have hc' : tmps[q]?.getD undef = .pointer (some ⟨c, 0, none⟩) := by simpa using hc
  have hu' : tmps[u]?.getD undef = z := by simpa using hu
  simp only [results, h]
  go_simp
/-- What Add answers: the inside of the ball, or the term. -/
def addF (t : T) (l : List T) : T ⊕ T := if rcheckF t = 0 then (match unF t with
  | some x => .inl x
  | none => if rcheckF (compF t.s (t.l ++ l)) = 0 then .inr (compF t.s (t.l ++ l)) else .inl (sAtom nSize)) else .inl (sAtom nSize)
def AnsAdd (r : T ⊕ T) (w : World) (e : Ending) (w' : World) : Prop :=
  match r with
  | .inl x => ∃ a p, e = .returned (.tuple #[.agg #[.int .i64 0, .int .i64 0, .string ⟨#[]⟩, .slice none 0 0], .agg #[.int .i64 4, .int .i64 0, .string nError, .slice a 1 p], .bool false]) ∧ Lies w' a [x] ∧ Only (fun _ => False) w w'
  | .inr u => ∃ a p, e = .returned (.tuple #[tv u a p, .agg #[.int .i64 0, .int .i64 0, .string ⟨#[]⟩, .slice none 0 0], .bool true]) ∧ Lies w' a u.l ∧ Only (fun _ => False) w w'
structure AdI (w E : World) : Prop where
  x : Zero (w.heap.size + 1) E
  z : Zero (w.heap.size + 1 + 1) E
  o : Only (fun _ => False) w E
  n : w.heap.size + 3 ≤ E.heap.size
theorem AdI.later {w E E' : World} (h : AdI w E) (ho : Only (fun _ => False) E E') : AdI w E' := ⟨h.x.only ho (fun e => e), h.z.only ho (fun e => e), h.o.same ho, Nat.le_trans h.n ho.size⟩
theorem AdI.new (w : World) (t : T) (ao : Option Addr) (cap : Nat) : AdI w (((w.alloc (.cells #[.int .i64 t.k, .int .i64 t.n, .string t.s, .slice ao t.l.length cap] 24)).alloc (.cells #[.int .i64 0, .int .i64 0, .string ⟨#[]⟩, .slice none 0 0] 24)).alloc (.cells #[.int .i64 0, .int .i64 0, .string ⟨#[]⟩, .slice none 0 0] 24)) ∧ Quad w.heap.size (.int .i64 t.k) (.int .i64 t.n) (.string t.s) (.slice ao t.l.length cap) (((w.alloc (.cells #[.int .i64 t.k, .int .i64 t.n, .string t.s, .slice ao t.l.length cap] 24)).alloc (.cells #[.int .i64 0, .int .i64 0, .string ⟨#[]⟩, .slice none 0 0] 24)).alloc (.cells #[.int .i64 0, .int .i64 0, .string ⟨#[]⟩, .slice none 0 0] 24)) := by
  obtain ⟨A, hA⟩ : ∃ A, A = tBox w t ao cap := ⟨_, rfl⟩
  obtain ⟨C, hC⟩ : ∃ C, C = zeroW A := ⟨_, rfl⟩
  obtain ⟨E, hE⟩ : ∃ E, E = zeroW C := ⟨_, rfl⟩
  have hA0 : A.heap.size = w.heap.size + 1 := by rw [hA]; simp
  have hC0 : C.heap.size = w.heap.size + 1 + 1 := by rw [hC]; simp [hA0]
  have hE0 : E.heap.size = w.heap.size + 1 + 1 + 1 := by rw [hE]; simp [hC0]
  have oA : Only (fun _ => False) w A := by rw [hA]; exact Only.alloc _ _ _
  have oC : Only (fun _ => False) A C := by rw [hC]; exact Only.alloc _ _ _
  have oE : Only (fun _ => False) C E := by rw [hE]; exact Only.alloc _ _ _
  have h : AdI w E ∧ Quad w.heap.size (.int .i64 t.k) (.int .i64 t.n) (.string t.s) (.slice ao t.l.length cap) E := by
    refine ⟨⟨?_, ?_, (oA.same oC).same oE, by omega⟩, ?_⟩
    · have h : Zero A.heap.size C := by rw [hC]; exact Zero.new _
      rw [hA0] at h
      exact h.only oE (fun e => e)
    · rw [← hC0, hE]; exact Zero.new _
    · have h : Quad w.heap.size (.int .i64 t.k) (.int .i64 t.n) (.string t.s) (.slice ao t.l.length cap) A := by rw [hA]; exact heap_alloc_new _ _
      exact h.only (oC.same oE) (fun e => e)
  rw [hE, hC, hA] at h
  exact h
set_option maxHeartbeats 16000000 in
theorem Add_any (t : T) (l : List T) (ao lo : Option Addr) (cap lcap : Nat) (w : World) (hs : t.Sane) (hl : Lies w ao t.l) (hll : Lies w lo l) (hz : t.size ≤ 900000) (hlz : l.length ≤ 1000) (hz2 : sizes l ≤ 200000) :
    Calls Try.prog 22 #[tv t ao cap, .slice lo l.length lcap] w (AnsAdd (addF t l) w) := by
  have HF0 := Lib.hid (AdI.new w t ao cap)
  have HCH := Lib.hid (fun (W : World) (ho : Only (fun _ => False) w W) => check_any t W ao cap (hl.later ho) hs hz)
  obtain ⟨R, hR⟩ : ∃ R, addF t l = R := ⟨_, rfl⟩
  rw [hR]
  have HR : Hid (R = if rcheckF t = 0 then (match unF t with
    | some x => .inl x
    | none => if rcheckF (compF t.s (t.l ++ l)) = 0 then .inr (compF t.s (t.l ++ l)) else .inl (sAtom nSize)) else .inl (sAtom nSize)) := Lib.hid hR.symm
  clear hR
  have HL := Lib.hid hl
  have HLL := Lib.hid hll
  have HS := Lib.hid hs
  have HLZ := Lib.hid hlz
  have HZ2 := Lib.hid hz2
  obtain ⟨c0, c1, c2, c3⟩ := HF0.out.2.cells
  have HRC := Lib.hid (@rcheck_iff t)
  show Calls Try.prog 22 #[.agg #[.int .i64 t.k, .int .i64 t.n, .string t.s, .slice ao t.l.length cap], .slice lo l.length lcap] w _
  clear hl hll hs hz hlz hz2
  go_enter Try.func22, Try.ntmps22
  go_wp2_with fail
  clear c0 c1 c2 c3
  generalize ((w.alloc (.cells #[.int .i64 t.k, .int .i64 t.n, .string t.s, .slice ao t.l.length cap] 24)).alloc (.cells #[.int .i64 0, .int .i64 0, .string ⟨#[]⟩, .slice none 0 0] 24)).alloc (.cells #[.int .i64 0, .int .i64 0, .string ⟨#[]⟩, .slice none 0 0] 24) = E at *
  refine (HCH.out _ HF0.out.1.o).mono ?_
  rintro e w1 ⟨⟨c, rfl, hc⟩, ho1⟩
  have HF1 := Lib.hid (HF0.out.1.later ho1)
  by_cases hok : t.Ok
  · obtain rfl := hc.2 hok
    have HB1 := Lib.hid (HF0.out.2.only ho1 (fun e => e))
    have hr1 := HR.out
    rw [if_pos (HRC.out.2 hok)] at hr1
    have HR1 := Lib.hid hr1
    have HOK := Lib.hid hok
    clear hc ho1 HF0 HCH hok hr1 HR HRC
    obtain ⟨c0, c1, c2, c3⟩ := HB1.out.cells
    have HUN := Lib.hid (unnamed_any t ao cap w1 HS.out (HL.out.later HF1.out.o) (by have := HOK.out.size; omega))
    cases hu : unF t with
    | some x =>
      rw [hu] at HUN
      obtain rfl : R = .inl x := by have := HR1.out; rw [hu] at this; exact this
      clear hu HR1
      go_wp2_with fail
      refine HUN.out.mono ?_
      intro e w2 h2
      obtain ⟨a6, p6, rfl, hr2, ho2⟩ := h2.some_
      have oB := Only.alloc (fun _ => False) w2 (.cells #[.int .i64 4, .int .i64 0, .string nError, .slice a6 1 p6] 24)
      have hG : Quad w2.heap.size (.int .i64 4) (.int .i64 0) (.string nError) (.slice a6 1 p6) (w2.alloc (.cells #[.int .i64 4, .int .i64 0, .string nError, .slice a6 1 p6] 24)) := heap_alloc_new _ _
      have HF3 := Lib.hid (HF1.out.later (ho2.same oB))
      have HR3 := Lib.hid (row_later (row_above hr2 HF1.out.n) oB)
      have HN7 : Hid (w.heap.size + 3 ≤ w2.heap.size) := Lib.hid (Nat.le_trans HF1.out.n ho2.size)
      clear h2 hr2 ho2 oB c0 c1 c2 c3 HUN
      generalize hw3 : w2.alloc (.cells #[.int .i64 4, .int .i64 0, .string nError, .slice a6 1 p6] 24) = w3 at *
      have HX3 := Lib.hid HF3.out.x
      have HZ3 := Lib.hid HF3.out.z
      have HO3 := Lib.hid HF3.out.o
      obtain ⟨WF, hWF⟩ : ∃ WF, WF = ((((((((w3.setCell ⟨w.heap.size + 1, 0, none⟩ (.int .i64 0)).setCell ⟨w.heap.size + 1, 1, none⟩ (.int .i64 0)).setCell ⟨w.heap.size + 1, 2, none⟩ (.string ⟨#[]⟩)).setCell ⟨w.heap.size + 1, 3, none⟩ (.slice none 0 0)).setCell ⟨w.heap.size + 1 + 1, 0, none⟩ (.int .i64 4)).setCell ⟨w.heap.size + 1 + 1, 1, none⟩ (.int .i64 0)).setCell ⟨w.heap.size + 1 + 1, 2, none⟩ (.string nError)).setCell ⟨w.heap.size + 1 + 1, 3, none⟩ (.slice a6 1 p6)) := ⟨_, rfl⟩
      have HST := Lib.hid (quadStores HX3.out HZ3.out (by omega) (.int .i64 0) (.int .i64 0) (.string ⟨#[]⟩) (.slice none 0 0) (.int .i64 4) (.int .i64 0) (.string nError) (.slice a6 1 p6) _ (.inl hWF))
      have HWF := Lib.hid hWF
      clear hWF
      have hZS := HZ3.out.only (HX3.out.set (.int .i64 0) (.int .i64 0) (.string ⟨#[]⟩) (.slice none 0 0)).2 (fun e => by omega)
      have hG2 := hG.only (HX3.out.set (.int .i64 0) (.int .i64 0) (.string ⟨#[]⟩) (.slice none 0 0)).2 (fun e => by have := HN7.out; omega)
      obtain ⟨g0, g1, g2, g3⟩ := hG.cells
      obtain ⟨k0, k1, k2, k3⟩ := hG2.cells
      clear hG hG2
      obtain ⟨x0, x1, x2, x3⟩ := HX3.out.cells
      obtain ⟨e0, e1, e2, e3⟩ := HX3.out.free
      obtain ⟨d0, d1, d2, d3⟩ := hZS.cells
      obtain ⟨f0, f1, f2, f3⟩ := hZS.free
      clear hZS
      go_wp2_with fail
      go_region
      all_goals
        go_wp2_with fail
        rw [← HWF.out]
        have hcc := HST.out.1.cells
        have hpp := HST.out.2.1.cells
        refine bodyPost_ret (v := .tuple #[.agg #[.int .i64 0, .int .i64 0, .string ⟨#[]⟩, .slice none 0 0], .agg #[.int .i64 4, .int .i64 0, .string nError, .slice a6 1 p6], .bool false]) (results_add rfl _ WF.drew (w.heap.size + 1) (w.heap.size + 1 + 1) _ _ _ _ _ _ _ _ _ rfl rfl rfl hcc.1 hcc.2.1 hcc.2.2.1 hcc.2.2.2 hpp.1 hpp.2.1 hpp.2.2.1 hpp.2.2.2) rfl ?_
        have oF := HST.out.2.2.same (Only.drewN (fun k => k = w.heap.size + 1 ∨ k = w.heap.size + 1 + 1) WF 1)
        have hfin : Only (fun _ => False) w WF.drew := Only.cut HO3.out oF (fun k e => by omega)
        exact ⟨a6, p6, rfl, (HR3.out.only oF (fun k hk => hk.2) (fun k hk e => by have := hk.1; omega)).mono (fun k hk => Nat.lt_of_lt_of_le hk.2 oF.size), hfin⟩

    | none =>
      rw [hu] at HUN
      have HR2 : Hid (R = if rcheckF (compF t.s (t.l ++ l)) = 0 then .inr (compF t.s (t.l ++ l)) else .inl (sAtom nSize)) := Lib.hid (by have := HR1.out; rw [hu] at this; exact this)
      clear hu HR1
      go_wp2_with fail
      refine HUN.out.mono ?_
      intro e w2 h2
      obtain ⟨rfl, ho2⟩ := h2.none_
      have HF3 := Lib.hid (HF1.out.later (ho2.same (Only.alloc (fun _ => False) w2 (.cells #[.int .i64 0, .int .i64 0, .string ⟨#[]⟩, .slice none 0 0] 24))))
      have HB3 := Lib.hid (HB1.out.only (ho2.same (Only.alloc (fun _ => False) w2 (.cells #[.int .i64 0, .int .i64 0, .string ⟨#[]⟩, .slice none 0 0] 24))) (fun e => e))
      clear h2 ho2 c0 c1 c2 c3 HUN HF1 HB1
      obtain ⟨c0, c1, c2, c3⟩ := HB3.out.cells
      go_wp2_with fail
      have hz3 : (w2.alloc (.cells #[.int .i64 0, .int .i64 0, .string ⟨#[]⟩, .slice none 0 0] 24)).heap.size = w2.heap.size + 1 := by simp
      generalize w2.alloc (.cells #[.int .i64 0, .int .i64 0, .string ⟨#[]⟩, .slice none 0 0] 24) = w3 at *
      rw [← hz3]
      clear hz3
      have oL := Only.alloc (fun _ => False) w3 (.cells #[.slice ao t.l.length cap, .slice lo l.length lcap] 22)
      have HNM : Hid (Calls Try.prog 60 #[.string t.s, .slice (some ⟨w3.heap.size, 0, none⟩) 2 2] (w3.alloc (.cells #[.slice ao t.l.length cap, .slice lo l.length lcap] 22)) fun e w' => ∃ a c, e = .returned (tv (compF t.s (t.l ++ l)) a c) ∧ Lies w' a (compF t.s (t.l ++ l)).l ∧ Only (fun _ => False) (w3.alloc (.cells #[.slice ao t.l.length cap, .slice lo l.length lcap] 22)) w') := Lib.hid (by
        obtain ⟨its, hm, hsrc, hsub⟩ := Row.src (HL.out.later (HF3.out.o.same oL)) (fun _ h => h)
        obtain ⟨jts, hm', hsrc', hsub'⟩ := Row.src (HLL.out.later (HF3.out.o.same oL)) (fun _ h => h)
        have hlen : its.length = t.l.length := by rw [← hm, List.length_map]
        have hlen' : jts.length = l.length := by rw [← hm', List.length_map]
        have hcat : catF [⟨its, ao, cap⟩, ⟨jts, lo, lcap⟩] = its ++ jts := by simp [catF]
        have htl : t.l.length ≤ 4096 := by have h1 := length_le_sizes t.l; have h2 := HOK.out.size; rw [T.size_eq] at h2; omega
        have hlz := HLZ.out
        have := named_any (P := fun k => k < (w3.alloc (.cells #[.slice ao t.l.length cap, .slice lo l.length lcap] 22)).heap.size) t.s [⟨its, ao, cap⟩, ⟨jts, lo, lcap⟩] (w3.alloc (.cells #[.slice ao t.l.length cap, .slice lo l.length lcap] 22)) w3.heap.size (by simp only [List.map_cons, List.map_nil, hlen, hlen']; exact heap_alloc_new _ _) (fun y hy => by
          rcases List.mem_cons.1 hy with rfl | hy
          · exact hsrc
          · rw [List.mem_singleton.1 hy]; exact hsrc') (fun x hx => by
          rw [hcat] at hx
          rcases List.mem_append.1 hx with hx | hx
          · obtain ⟨i, hi⟩ := List.getElem?_of_mem hx
            exact hsub i x hi
          · obtain ⟨i, hi⟩ := List.getElem?_of_mem hx
            exact hsub' i x hi) (fun _ h => h) (by rw [hcat, List.length_append]; omega) (by simp)
        rw [hcat, List.map_append, hm, hm'] at this
        refine this.mono ?_
        rintro e w' ⟨a, c, h1, h2, h3⟩
        exact ⟨a, c, h1, h2.mono (fun k hk => by rcases hk with hk | hk; exact Nat.lt_of_lt_of_le hk h3.size; exact hk.2), h3⟩)
      have HSU : Hid ((compF t.s (t.l ++ l)).Sane ∧ (compF t.s (t.l ++ l)).size ≤ 900000) := Lib.hid (by
        have h2 := HOK.out.size
        have h3 := HZ2.out
        have h4 := HLZ.out
        have h5 := length_le_sizes t.l
        rw [T.size_eq] at h2
        by_cases h0 : (t.l ++ l).length = 0
        · rw [compF_zero h0]
          exact ⟨sane_atom HS.out.s, by rw [show (T.mk 3 0 t.s []).size = 1 from rfl]; omega⟩
        · rw [compF_some h0]
          exact ⟨sane_comp HS.out.s (by rw [List.length_append]; unfold maxLen; omega), by rw [T.size_eq]; show 1 + sizes (t.l ++ l) ≤ _; rw [sizes_append]; omega⟩)
      refine HNM.out.mono ?_
      rintro e w4 ⟨au, cu, rfl, hlu, ho4⟩
      have HF4 := Lib.hid (HF3.out.later (oL.same ho4))
      clear oL HNM HF3 HB3 c0 c1 c2 c3
      generalize compF t.s (t.l ++ l) = u at *
      have HLU := Lib.hid hlu
      have HF5 : Hid (AdI w (w4.alloc (.cells #[.int .i64 u.k, .int .i64 u.n, .string u.s, .slice au u.l.length cu] 24))) := Lib.hid (HF4.out.later (Only.alloc _ _ _))
      have HB5 : Hid (Quad w4.heap.size (.int .i64 u.k) (.int .i64 u.n) (.string u.s) (.slice au u.l.length cu) (w4.alloc (.cells #[.int .i64 u.k, .int .i64 u.n, .string u.s, .slice au u.l.length cu] 24))) := Lib.hid (heap_alloc_new _ _)
      have HL5 : Hid (Lies (w4.alloc (.cells #[.int .i64 u.k, .int .i64 u.n, .string u.s, .slice au u.l.length cu] 24)) au u.l) := Lib.hid (HLU.out.later (Only.alloc _ _ _))
      clear hlu ho4 HF4 HLU
      show _
      go_wp2_with fail
      generalize w4.alloc (.cells #[.int .i64 u.k, .int .i64 u.n, .string u.s, .slice au u.l.length cu] 24) = w5 at *
      generalize w4.heap.size = bu at *
      refine (check_any u w5 au cu HL5.out HSU.out.1 HSU.out.2).mono ?_
      rintro e w6 ⟨⟨c, rfl, hc⟩, ho6⟩
      have HF6 := Lib.hid (HF5.out.later ho6)
      have HB6 := Lib.hid (HB5.out.only ho6 (fun e => e))
      have HL6 := Lib.hid (HL5.out.later ho6)
      by_cases huk : u.Ok
      · obtain rfl := hc.2 huk
        obtain rfl : R = .inr u := by rw [HR2.out, if_pos (rcheck_iff.2 huk)]
        have HUO := Lib.hid huk
        clear hc ho6 huk HR2
        obtain ⟨c0, c1, c2, c3⟩ := HB6.out.cells
        go_wp2_with fail
        refine (Clone_ok u w6 au cu HL6.out HSU.out.1 HUO.out).mono ?_
        rintro e w7 ⟨av, cv, rfl, hr7, ho7⟩
        have HF7 := Lib.hid (HF6.out.later ho7)
        have HR7 := Lib.hid (hr7.mono (fun k hk => (⟨Nat.le_trans HF6.out.n hk.1, hk.2⟩ : w.heap.size + 3 ≤ k ∧ k < w7.heap.size)))
        have HX7 := Lib.hid HF7.out.x
        have HZ7 := Lib.hid HF7.out.z
        have HO7 := Lib.hid HF7.out.o
        clear hr7 ho7 c0 c1 c2 c3
        obtain ⟨WF, hWF⟩ : ∃ WF, WF = ((((((((w7.setCell ⟨w.heap.size + 1, 0, none⟩ (.int .i64 u.k)).setCell ⟨w.heap.size + 1, 1, none⟩ (.int .i64 u.n)).setCell ⟨w.heap.size + 1, 2, none⟩ (.string u.s)).setCell ⟨w.heap.size + 1, 3, none⟩ (.slice av u.l.length cv)).setCell ⟨w.heap.size + 1 + 1, 0, none⟩ (.int .i64 0)).setCell ⟨w.heap.size + 1 + 1, 1, none⟩ (.int .i64 0)).setCell ⟨w.heap.size + 1 + 1, 2, none⟩ (.string ⟨#[]⟩)).setCell ⟨w.heap.size + 1 + 1, 3, none⟩ (.slice none 0 0)) := ⟨_, rfl⟩
        have HST := Lib.hid (quadStores HX7.out HZ7.out (by omega) (.int .i64 u.k) (.int .i64 u.n) (.string u.s) (.slice av u.l.length cv) (.int .i64 0) (.int .i64 0) (.string ⟨#[]⟩) (.slice none 0 0) _ (.inl hWF))
        have HWF := Lib.hid hWF
        clear hWF
        have hZS := HZ7.out.only (HX7.out.set (.int .i64 u.k) (.int .i64 u.n) (.string u.s) (.slice av u.l.length cv)).2 (fun e => by omega)
        obtain ⟨x0, x1, x2, x3⟩ := HX7.out.cells
        obtain ⟨e0, e1, e2, e3⟩ := HX7.out.free
        obtain ⟨d0, d1, d2, d3⟩ := hZS.cells
        obtain ⟨f0, f1, f2, f3⟩ := hZS.free
        clear hZS
        go_wp2_with fail
        rw [← HWF.out]
        have hcc := HST.out.1.cells
        have hpp := HST.out.2.1.cells
        refine bodyPost_ret (v := .tuple #[.agg #[.int .i64 u.k, .int .i64 u.n, .string u.s, .slice av u.l.length cv], .agg #[.int .i64 0, .int .i64 0, .string ⟨#[]⟩, .slice none 0 0], .bool true]) (results_add rfl _ WF (w.heap.size + 1) (w.heap.size + 1 + 1) _ _ _ _ _ _ _ _ _ rfl rfl rfl hcc.1 hcc.2.1 hcc.2.2.1 hcc.2.2.2 hpp.1 hpp.2.1 hpp.2.2.1 hpp.2.2.2) rfl ?_
        have oF := HST.out.2.2.same (Only.drewN (fun k => k = w.heap.size + 1 ∨ k = w.heap.size + 1 + 1) WF 0)
        have hfin : Only (fun _ => False) w WF := Only.cut HO7.out oF (fun k e => by omega)
        exact ⟨av, cv, rfl, (HR7.out.only oF (fun k hk => hk.2) (fun k hk e => by have := hk.1; omega)).mono (fun k hk => Nat.lt_of_lt_of_le hk.2 oF.size), hfin⟩

      · have hcn : (c != 0) = true := by simpa using fun e => huk (hc.1 e)
        obtain rfl : R = .inl (sAtom nSize) := by rw [HR2.out, if_neg (fun e => huk (rcheck_iff.1 e))]
        clear hc ho6 huk HR2
        go_wp2_with fail
        refine (csize_any _).mono ?_
        rintro e w7 ⟨a7, p7, rfl, hr7, ho7⟩
        have HF7 := Lib.hid (HF6.out.later ho7)
        have HX7 := Lib.hid HF7.out.x
        have HZ7 := Lib.hid HF7.out.z
        have HO7 := Lib.hid HF7.out.o
        have HR7 := Lib.hid (row_above hr7 HF6.out.n)
        clear hr7 ho7
        obtain ⟨WF, hWF⟩ : ∃ WF, WF = ((((((((w7.setCell ⟨w.heap.size + 1, 0, none⟩ (.int .i64 0)).setCell ⟨w.heap.size + 1, 1, none⟩ (.int .i64 0)).setCell ⟨w.heap.size + 1, 2, none⟩ (.string ⟨#[]⟩)).setCell ⟨w.heap.size + 1, 3, none⟩ (.slice none 0 0)).setCell ⟨w.heap.size + 1 + 1, 0, none⟩ (.int .i64 4)).setCell ⟨w.heap.size + 1 + 1, 1, none⟩ (.int .i64 0)).setCell ⟨w.heap.size + 1 + 1, 2, none⟩ (.string nError)).setCell ⟨w.heap.size + 1 + 1, 3, none⟩ (.slice a7 1 p7)) := ⟨_, rfl⟩
        have HST := Lib.hid (quadStores HX7.out HZ7.out (by omega) (.int .i64 0) (.int .i64 0) (.string ⟨#[]⟩) (.slice none 0 0) (.int .i64 4) (.int .i64 0) (.string nError) (.slice a7 1 p7) _ (.inl hWF))
        have HWF := Lib.hid hWF
        clear hWF
        have hZS := HZ7.out.only (HX7.out.set (.int .i64 0) (.int .i64 0) (.string ⟨#[]⟩) (.slice none 0 0)).2 (fun e => by omega)
        obtain ⟨x0, x1, x2, x3⟩ := HX7.out.cells
        obtain ⟨e0, e1, e2, e3⟩ := HX7.out.free
        obtain ⟨d0, d1, d2, d3⟩ := hZS.cells
        obtain ⟨f0, f1, f2, f3⟩ := hZS.free
        clear hZS
        go_wp2_with fail
        rw [← HWF.out]
        have hcc := HST.out.1.cells
        have hpp := HST.out.2.1.cells
        refine bodyPost_ret (v := .tuple #[.agg #[.int .i64 0, .int .i64 0, .string ⟨#[]⟩, .slice none 0 0], .agg #[.int .i64 4, .int .i64 0, .string nError, .slice a7 1 p7], .bool false]) (results_add rfl _ WF (w.heap.size + 1) (w.heap.size + 1 + 1) _ _ _ _ _ _ _ _ _ rfl rfl rfl hcc.1 hcc.2.1 hcc.2.2.1 hcc.2.2.2 hpp.1 hpp.2.1 hpp.2.2.1 hpp.2.2.2) rfl ?_
        have oF := HST.out.2.2.same (Only.drewN (fun k => k = w.heap.size + 1 ∨ k = w.heap.size + 1 + 1) WF 0)
        have hfin : Only (fun _ => False) w WF := Only.cut HO7.out oF (fun k e => by omega)
        exact ⟨a7, p7, rfl, (HR7.out.only oF (fun k hk => hk.2) (fun k hk e => by have := hk.1; omega)).mono (fun k hk => Nat.lt_of_lt_of_le hk.2 oF.size), hfin⟩

  · have hcn : (c != 0) = true := by simpa using fun e => hok (hc.1 e)
    obtain rfl : R = .inl (sAtom nSize) := by rw [HR.out, if_neg (fun e => hok (HRC.out.1 e))]
    clear hc ho1 HF0 HCH hok HR HRC
    go_wp2_with fail
    refine (csize_any _).mono ?_
    rintro e w2 ⟨a2, p2, rfl, hr2, ho2⟩
    have HF2 := Lib.hid (HF1.out.later ho2)
    have HX2 := Lib.hid HF2.out.x
    have HZ2 := Lib.hid HF2.out.z
    have HO2 := Lib.hid HF2.out.o
    have HR2 := Lib.hid (row_above hr2 HF1.out.n)
    clear hr2 ho2
    obtain ⟨WF, hWF⟩ : ∃ WF, WF = ((((((((w2.setCell ⟨w.heap.size + 1, 0, none⟩ (.int .i64 0)).setCell ⟨w.heap.size + 1, 1, none⟩ (.int .i64 0)).setCell ⟨w.heap.size + 1, 2, none⟩ (.string ⟨#[]⟩)).setCell ⟨w.heap.size + 1, 3, none⟩ (.slice none 0 0)).setCell ⟨w.heap.size + 1 + 1, 0, none⟩ (.int .i64 4)).setCell ⟨w.heap.size + 1 + 1, 1, none⟩ (.int .i64 0)).setCell ⟨w.heap.size + 1 + 1, 2, none⟩ (.string nError)).setCell ⟨w.heap.size + 1 + 1, 3, none⟩ (.slice a2 1 p2)) := ⟨_, rfl⟩
    have HST := Lib.hid (quadStores HX2.out HZ2.out (by omega) (.int .i64 0) (.int .i64 0) (.string ⟨#[]⟩) (.slice none 0 0) (.int .i64 4) (.int .i64 0) (.string nError) (.slice a2 1 p2) _ (.inl hWF))
    have HWF := Lib.hid hWF
    clear hWF
    have hZS := HZ2.out.only (HX2.out.set (.int .i64 0) (.int .i64 0) (.string ⟨#[]⟩) (.slice none 0 0)).2 (fun e => by omega)
    obtain ⟨x0, x1, x2, x3⟩ := HX2.out.cells
    obtain ⟨e0, e1, e2, e3⟩ := HX2.out.free
    obtain ⟨d0, d1, d2, d3⟩ := hZS.cells
    obtain ⟨f0, f1, f2, f3⟩ := hZS.free
    clear hZS
    go_wp2_with fail
    rw [← HWF.out]
    have hcc := HST.out.1.cells
    have hpp := HST.out.2.1.cells
    refine bodyPost_ret (v := .tuple #[.agg #[.int .i64 0, .int .i64 0, .string ⟨#[]⟩, .slice none 0 0], .agg #[.int .i64 4, .int .i64 0, .string nError, .slice a2 1 p2], .bool false]) (results_add rfl _ WF (w.heap.size + 1) (w.heap.size + 1 + 1) _ _ _ _ _ _ _ _ _ rfl rfl rfl hcc.1 hcc.2.1 hcc.2.2.1 hcc.2.2.2 hpp.1 hpp.2.1 hpp.2.2.1 hpp.2.2.2) rfl ?_
    have oF := HST.out.2.2.same (Only.drewN (fun k => k = w.heap.size + 1 ∨ k = w.heap.size + 1 + 1) WF 0)
    have hfin : Only (fun _ => False) w WF := Only.cut HO2.out oF (fun k e => by omega)
    exact ⟨a2, p2, rfl, (HR2.out.only oF (fun k hk => hk.2) (fun k hk e => by have := hk.1; omega)).mono (fun k hk => Nat.lt_of_lt_of_le hk.2 oF.size), hfin⟩

end Go.Proofs.Ytoogmlgaeipenaa.terms
