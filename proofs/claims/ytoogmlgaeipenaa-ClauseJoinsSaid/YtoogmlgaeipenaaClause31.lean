/- Clauses: the goals of a body. -/
import Derived.Test.YtoogmlgaeipenaaClause17
import Derived.Test.YtoogmlgaeipenaaClause18
namespace Go.Proofs.Ytoogmlgaeipenaa.terms
set_option maxRecDepth 100000
open Go.RowKit Go.Proofs.Ytoogmlgaeipenaa.own Go.Maps
/-- The goals of a body, or the inside of its ball. -/
def bodyU (t : T) : T ⊕ List T := if 64 < (goalsF (flatF t)).length then .inl (sAtom nSize) else match uncF (flatF t) with
  | some x => .inl x
  | none => .inr (goalsF (flatF t))
def bodyF (t : T) : T ⊕ List T := if rcheckF t = 0 then bodyU t else .inl (sAtom nSize)
theorem bodyU_many {t : T} (h : 64 < (goalsF (flatF t)).length) : bodyU t = .inl (sAtom nSize) := by unfold bodyU; rw [if_pos h]
theorem bodyU_int {t x : T} (h : ¬ 64 < (goalsF (flatF t)).length) (hu : uncF (flatF t) = some x) : bodyU t = .inl x := by unfold bodyU; rw [if_neg h, hu]
theorem bodyU_ok {t : T} (h : ¬ 64 < (goalsF (flatF t)).length) (hu : uncF (flatF t) = none) : bodyU t = .inr (goalsF (flatF t)) := by unfold bodyU; rw [if_neg h, hu]
def AnsBody (r : T ⊕ List T) (w : World) (e : Ending) (w' : World) : Prop :=
  match r with
  | .inl x => ∃ a p, e = .returned (.tuple #[.slice none 0 0, .agg #[.int .i64 4, .int .i64 0, .string nError, .slice a 1 p], .bool false]) ∧ Lies w' a [x] ∧ Only (fun _ => False) w w'
  | .inr gs => ∃ go gc gl, e = .returned (.tuple #[.slice go (gl : List Gl).length gc, .agg #[.int .i64 0, .int .i64 0, .string ⟨#[]⟩, .slice none 0 0], .bool true]) ∧ GlP 0 go gc gl w' ∧ GoodG (· < w'.heap.size) w' gl ∧ gl.map (·.x.t) = gs ∧ Only (fun _ => False) w w'
theorem results_body {fn : Func} {p q u : Tmp} (h : fn.results = #[.tmp p, .cell q 24, .tmp u]) (tmps : Array Value) (w : World) (b : Nat) (x0 x1 x2 x3 y z : Value) (hp : tmps.getD p undef = y) (hb : tmps.getD q undef = .pointer (some ⟨b, 0, none⟩)) (hu : tmps.getD u undef = z)
    (h0 : w.cell? ⟨b, 0, none⟩ = some x0) (h1 : w.cell? ⟨b, 1, none⟩ = some x1) (h2 : w.cell? ⟨b, 2, none⟩ = some x2) (h3 : w.cell? ⟨b, 3, none⟩ = some x3) :
    (results fn tmps).run Try.prog w = .ok (.tuple #[y, .agg #[x0, x1, x2, x3], z]) w := by
  have hp' : tmps[p]?.getD undef = y := by simpa using hp
  have hb' : tmps[q]?.getD undef = .pointer (some ⟨b, 0, none⟩) := by simpa using hb
  have hu' : tmps[u]?.getD undef = z := by simpa using hu
  simp only [results, h]
  go_simp
structure BdI (w E : World) : Prop where
  z : Zero (w.heap.size + 1) E
  o : Only (fun _ => False) w E
  n : w.heap.size + 2 ≤ E.heap.size
theorem BdI.later {w E E' : World} (h : BdI w E) (ho : Only (fun _ => False) E E') : BdI w E' := ⟨h.z.only ho (fun e => e), h.o.same ho, Nat.le_trans h.n ho.size⟩
theorem BdI.new (w : World) (t : T) (ao : Option Addr) (cap : Nat) : BdI w ((w.alloc (.cells #[.int .i64 t.k, .int .i64 t.n, .string t.s, .slice ao t.l.length cap] 24)).alloc (.cells #[.int .i64 0, .int .i64 0, .string ⟨#[]⟩, .slice none 0 0] 24)) ∧
    Quad w.heap.size (.int .i64 t.k) (.int .i64 t.n) (.string t.s) (.slice ao t.l.length cap) ((w.alloc (.cells #[.int .i64 t.k, .int .i64 t.n, .string t.s, .slice ao t.l.length cap] 24)).alloc (.cells #[.int .i64 0, .int .i64 0, .string ⟨#[]⟩, .slice none 0 0] 24)) := by
  obtain ⟨A, hA⟩ : ∃ A, A = tBox w t ao cap := ⟨_, rfl⟩
  obtain ⟨E, hE⟩ : ∃ E, E = zeroW A := ⟨_, rfl⟩
  have hA0 : A.heap.size = w.heap.size + 1 := by rw [hA]; simp
  have hE0 : E.heap.size = w.heap.size + 1 + 1 := by rw [hE]; simp [hA0]
  have oA : Only (fun _ => False) w A := by rw [hA]; exact Only.alloc _ _ _
  have oE : Only (fun _ => False) A E := by rw [hE]; exact Only.alloc _ _ _
  have h : BdI w E ∧ Quad w.heap.size (.int .i64 t.k) (.int .i64 t.n) (.string t.s) (.slice ao t.l.length cap) E := by
    refine ⟨⟨?_, oA.same oE, by omega⟩, ?_⟩
    · rw [← hA0, hE]; exact Zero.new _
    · have h : Quad w.heap.size (.int .i64 t.k) (.int .i64 t.n) (.string t.s) (.slice ao t.l.length cap) A := by rw [hA]; exact heap_alloc_new _ _
      exact h.only oE (fun e => e)
  rw [hE, hA] at h
  exact h
set_option maxHeartbeats 8000000 in
theorem Body_not (t : T) (ao : Option Addr) (cap : Nat) (w : World) (hs : t.Sane) (hl : Lies w ao t.l) (hz : t.size ≤ 900000) (hno : ¬ t.Ok) :
    Calls Try.prog 27 #[tv t ao cap] w (AnsBody (.inl (sAtom nSize)) w) := by
  have HF0 := Lib.hid (BdI.new w t ao cap)
  have HCH := Lib.hid (fun (W : World) (ho : Only (fun _ => False) w W) => check_any t W ao cap (hl.later ho) hs hz)
  have HNO := Lib.hid hno
  clear hno
  obtain ⟨c0, c1, c2, c3⟩ := HF0.out.2.cells
  show Calls Try.prog 27 #[.agg #[.int .i64 t.k, .int .i64 t.n, .string t.s, .slice ao t.l.length cap]] w _
  clear hs hl hz
  go_enter Try.func27, Try.ntmps27
  go_wp2_with fail
  clear c0 c1 c2 c3
  generalize (w.alloc (.cells #[.int .i64 t.k, .int .i64 t.n, .string t.s, .slice ao t.l.length cap] 24)).alloc (.cells #[.int .i64 0, .int .i64 0, .string ⟨#[]⟩, .slice none 0 0] 24) = E at *
  refine (HCH.out _ HF0.out.1.o).mono ?_
  rintro e w1 ⟨⟨c, rfl, hc⟩, ho1⟩
  have hcn : (c != 0) = true := by simpa using fun e => HNO.out (hc.1 e)
  have HF1 := Lib.hid (HF0.out.1.later ho1)
  clear hc ho1 HF0 HCH
  go_wp2_with fail
  refine (csize_any _).mono ?_
  rintro e w2 ⟨a2, p2, rfl, hr2, ho2⟩
  have HZ2 := Lib.hid (HF1.out.later ho2).z
  have HO2 := Lib.hid (HF1.out.later ho2).o
  have HR2 := Lib.hid (row_above hr2 HF1.out.n)
  clear hr2 ho2
  have HS := Lib.hid (HZ2.out.set (.int .i64 4) (.int .i64 0) (.string nError) (.slice a2 1 p2))
  obtain ⟨d0, d1, d2, d3⟩ := HZ2.out.cells
  obtain ⟨f0, f1, f2, f3⟩ := HZ2.out.free
  go_wp2_with fail
  have hcc := HS.out.1.cells
  refine bodyPost_ret (v := .tuple #[.slice none 0 0, .agg #[.int .i64 4, .int .i64 0, .string nError, .slice a2 1 p2], .bool false]) (results_body rfl _ _ (w.heap.size + 1) _ _ _ _ _ _ rfl rfl rfl hcc.1 hcc.2.1 hcc.2.2.1 hcc.2.2.2) rfl ?_
  exact ⟨a2, p2, rfl, (HR2.out.only HS.out.2 (fun k hk => hk.2) (fun k hk e => by have := hk.1; omega)).mono (fun k hk => Nat.lt_of_lt_of_le hk.2 HS.out.2.size), Only.cut HO2.out HS.out.2 (fun k e => by omega)⟩
set_option maxHeartbeats 16000000 in
theorem Body_ok (t : T) (ao : Option Addr) (cap : Nat) (w : World) (hs : t.Sane) (hl : Lies w ao t.l) (hok : t.Ok) :
    Calls Try.prog 27 #[tv t ao cap] w (AnsBody (bodyU t) w) := by
  have HF0 := Lib.hid (BdI.new w t ao cap)
  have HCH := Lib.hid (fun (W : World) (ho : Only (fun _ => False) w W) => check_any t W ao cap (hl.later ho) hs (by have := hok.size; omega))
  have HCL : Hid (∀ W, Only (fun _ => False) w W → Calls Try.prog 55 #[tv t ao cap] W fun e w' => ∃ a c, e = .returned (.agg #[.int .i64 t.k, .int .i64 t.n, .string t.s, .slice a t.l.length c]) ∧ Row (fun k => W.heap.size ≤ k ∧ k < w'.heap.size) w' a t.l ∧ Only (fun _ => False) W w') := Lib.hid (fun W o => by
    have hc : clF t = t := by unfold clF; rw [if_pos (rcheck_iff.2 hok)]
    have := Clone_any t W ao cap (hl.later o) hs (by have := hok.size; omega)
    rwa [hc] at this)
  have HOK := Lib.hid hok
  have HS := Lib.hid hs
  have HFO := Lib.hid (flat_ok t hok)
  have HU : Hid (bodyU t = bodyU t ∧ t.size ≤ 4096 ∧ (goalsF (flatF t)).length ≤ t.size) := Lib.hid ⟨rfl, hok.size, Nat.le_trans (goals_len _) (flat_len t)⟩
  obtain ⟨c0, c1, c2, c3⟩ := HF0.out.2.cells
  obtain ⟨R, hR⟩ : ∃ R, bodyU t = R := ⟨_, rfl⟩
  rw [hR]
  have HR := Lib.hid hR
  clear hR
  show Calls Try.prog 27 #[.agg #[.int .i64 t.k, .int .i64 t.n, .string t.s, .slice ao t.l.length cap]] w _
  clear hs hl hok
  go_enter Try.func27, Try.ntmps27
  go_wp2_with fail
  clear c0 c1 c2 c3
  generalize (w.alloc (.cells #[.int .i64 t.k, .int .i64 t.n, .string t.s, .slice ao t.l.length cap] 24)).alloc (.cells #[.int .i64 0, .int .i64 0, .string ⟨#[]⟩, .slice none 0 0] 24) = E at *
  refine (HCH.out _ HF0.out.1.o).mono ?_
  rintro e w1 ⟨⟨c, rfl, hc⟩, ho1⟩
  obtain rfl := hc.2 HOK.out
  have o2 : Only (fun _ => False) w1 (w1.alloc (.cells #[.slice none 0 0, .slice none 0 0] 75)) := Only.alloc _ _ _
  have HF2 := Lib.hid (HF0.out.1.later (ho1.same o2))
  have HP2 : Hid (Pair w1.heap.size (.slice none 0 0) (.slice none 0 0) (w1.alloc (.cells #[.slice none 0 0, .slice none 0 0] 75))) := Lib.hid (heap_alloc_new w1 _)
  have HN1 : Hid (w.heap.size + 2 ≤ w1.heap.size) := Lib.hid (HF0.out.1.later ho1).n
  obtain ⟨c0, c1, c2, c3⟩ := (HF0.out.2.only (ho1.same o2) (fun e => e)).cells
  clear hc ho1 HF0 HCH o2
  go_wp2_with fail
  generalize w1.alloc (.cells #[.slice none 0 0, .slice none 0 0] 75) = w2 at *
  generalize w1.heap.size = bb at *
  refine (HCL.out _ HF2.out.o).mono ?_
  rintro e w3 ⟨a3, p3, rfl, hr3, ho3⟩
  have HF3 := Lib.hid (HF2.out.later ho3)
  have HR3 := Lib.hid hr3
  have HN2 : Hid (w.heap.size + 2 ≤ w2.heap.size) := Lib.hid HF2.out.n
  have HB3 : Hid (BodyC (fun k => w2.heap.size ≤ k ∧ k < w3.heap.size) (w.heap.size + 2) bb (· = bb) none 0 none 0 [] [] w3) := Lib.hid (body_apart (fun k hk => ⟨hk.2, fun e => by have := lt_of_block HP2.out; omega⟩) (HP2.out.only ho3 (fun e => e)) HN1.out)
  clear hr3 ho3 c0 c1 c2 c3 HCL
  go_wp2_with fail
  refine (add_any (fun k => w2.heap.size ≤ k ∧ k < w3.heap.size) (w.heap.size + 2) bb t (· = bb) none none 0 0 [] [] w3 a3 p3 HR3.out HS.out HB3.out (by have := HU.out; simp; omega) (by have := HU.out; simp; omega)).mono ?_
  rintro e w4 ⟨rfl, gl, il, ⟨S, go, gc, io, ic, hB4, ho4, hg4⟩, hm1, hm2⟩
  rw [List.nil_append, List.nil_append] at hB4
  have HB4 := Lib.hid hB4
  have HF4 : Hid (BdI w w4) := Lib.hid ⟨HF3.out.z.only ho4 (fun e => by have := HN1.out; omega), Only.cut HF3.out.o ho4 (fun k e => by have := HN1.out; omega), Nat.le_trans HF3.out.n ho4.size⟩
  have HM1 := Lib.hid hm1
  have HM2 := Lib.hid hm2
  have hgl : gl.length = (goalsF (flatF t)).length := by have := congrArg List.length hm1; rwa [List.length_map] at this
  have HGL := Lib.hid hgl
  have HLE : Hid (gl.length ≤ 1000000) := Lib.hid (by have := HU.out; omega)
  have HIL : Hid (∀ x ∈ il, x.t.size ≤ 300000) := Lib.hid (fun x hx => by
    have hm : x.t ∈ intsF (flatF t) := by rw [← hm2]; exact List.mem_map_of_mem hx
    have := (HFO.out x.t (List.mem_filter.1 hm).1).size
    omega)
  have HUC0 : Hid (uncF (flatF t) = match il.map (·.t) with | [] => none | x :: _ => some (.mk 4 0 nType [sAtom nCallable, x])) := Lib.hid (by rw [hm2]; rfl)
  clear hB4 ho4 hg4 hm1 hm2 hgl HF3 HR3 HB3 HF2 HP2
  go_wp2_with fail
  refine (tooMany_any _ _ _ _ _ _ _ _ gl il w4 HB4.out HLE.out).mono ?_
  rintro e w5 ⟨rfl, rfl⟩
  by_cases h64 : 64 < gl.length
  · rw [decide_eq_true h64]
    obtain rfl : R = _ := HR.out.symm.trans (bodyU_many (by rw [← HGL.out]; exact h64))
    clear h64 HUC0
    go_wp2_with fail
    refine (csize_any _).mono ?_
    rintro e w7 ⟨a7, p7, rfl, hr7, ho7⟩
    have HZ7 := Lib.hid (HF4.out.later ho7).z
    have HO7 := Lib.hid (HF4.out.later ho7).o
    have HR7 := Lib.hid (row_above hr7 HF4.out.n)
    clear hr7 ho7
    have HSS := Lib.hid (HZ7.out.set (.int .i64 4) (.int .i64 0) (.string nError) (.slice a7 1 p7))
    obtain ⟨d0, d1, d2, d3⟩ := HZ7.out.cells
    obtain ⟨f0, f1, f2, f3⟩ := HZ7.out.free
    go_wp2_with fail
    have hcc := HSS.out.1.cells
    refine bodyPost_ret (v := .tuple #[.slice none 0 0, .agg #[.int .i64 4, .int .i64 0, .string nError, .slice a7 1 p7], .bool false]) (results_body rfl _ _ (w.heap.size + 1) _ _ _ _ _ _ rfl rfl rfl hcc.1 hcc.2.1 hcc.2.2.1 hcc.2.2.2) rfl ?_
    exact ⟨a7, p7, rfl, (HR7.out.only HSS.out.2 (fun k hk => hk.2) (fun k hk e => by have := hk.1; omega)).mono (fun k hk => Nat.lt_of_lt_of_le hk.2 HSS.out.2.size), Only.cut HO7.out HSS.out.2 (fun k e => by omega)⟩
  · rw [decide_eq_false h64]
    have H64 : Hid (¬ 64 < (goalsF (flatF t)).length) := Lib.hid (by rw [← HGL.out]; exact h64)
    clear h64
    have HUC : Hid (Calls Try.prog 54 #[.pointer (some ⟨bb, 0, none⟩)] w5 (AnsMay (uncF (flatF t)) w5)) := Lib.hid (by
      rw [HUC0.out]
      exact uncallable_any _ _ _ _ _ _ _ _ _ _ w5 HB4.out HIL.out)
    go_wp2_with fail
    refine HUC.out.mono ?_
    intro e w9 h9
    cases hu : uncF (flatF t) with
    | some x =>
      rw [hu] at h9
      obtain rfl : R = _ := HR.out.symm.trans (bodyU_int H64.out hu)
      obtain ⟨a8, p8, rfl, hr9, ho9⟩ := h9.some_
      have oB := Only.alloc (fun _ => False) w9 (.cells #[.int .i64 4, .int .i64 0, .string nError, .slice a8 1 p8] 24)
      have hG : Quad w9.heap.size (.int .i64 4) (.int .i64 0) (.string nError) (.slice a8 1 p8) (w9.alloc (.cells #[.int .i64 4, .int .i64 0, .string nError, .slice a8 1 p8] 24)) := heap_alloc_new _ _
      have HF8 := Lib.hid (HF4.out.later (ho9.same oB))
      have HR8 := Lib.hid (row_later (row_above hr9 HF4.out.n) oB)
      have HN7 : Hid (w.heap.size + 2 ≤ w9.heap.size) := Lib.hid (Nat.le_trans HF4.out.n ho9.size)
      clear h9 hr9 ho9 oB hu HUC HUC0
      generalize hw10 : w9.alloc (.cells #[.int .i64 4, .int .i64 0, .string nError, .slice a8 1 p8] 24) = w10 at *
      have HZ8 := Lib.hid HF8.out.z
      have HO8 := Lib.hid HF8.out.o
      have HSS := Lib.hid (HZ8.out.set (.int .i64 4) (.int .i64 0) (.string nError) (.slice a8 1 p8))
      obtain ⟨g0, g1, g2, g3⟩ := hG.cells
      clear hG
      obtain ⟨d0, d1, d2, d3⟩ := HZ8.out.cells
      obtain ⟨f0, f1, f2, f3⟩ := HZ8.out.free
      go_wp2_with fail
      go_region
      all_goals
        go_wp2_with fail
        have hcc := HSS.out.1.cells
        refine bodyPost_ret (v := .tuple #[.slice none 0 0, .agg #[.int .i64 4, .int .i64 0, .string nError, .slice a8 1 p8], .bool false]) (results_body rfl _ _ (w.heap.size + 1) _ _ _ _ _ _ rfl rfl rfl hcc.1 hcc.2.1 hcc.2.2.1 hcc.2.2.2) rfl ?_
        have oF := HSS.out.2.same (Only.drew (fun k => k = w.heap.size + 1) _)
        exact ⟨a8, p8, rfl, (HR8.out.only oF (fun k hk => hk.2) (fun k hk e => by have := hk.1; omega)).mono (fun k hk => Nat.lt_of_lt_of_le hk.2 oF.size), Only.cut HO8.out oF (fun k e => by omega)⟩
    | none =>
      rw [hu] at h9
      obtain rfl : R = _ := HR.out.symm.trans (bodyU_ok H64.out hu)
      obtain ⟨rfl, ho9⟩ := h9.none_
      have o10 := ho9.same (Only.alloc (fun _ => False) w9 (.cells #[.int .i64 0, .int .i64 0, .string ⟨#[]⟩, .slice none 0 0] 24))
      have HF9 := Lib.hid (HF4.out.later o10)
      have HB9 := Lib.hid (HB4.out.later o10 (fun _ e => e.elim))
      clear h9 ho9 hu HUC HUC0 o10
      have HZ9 := Lib.hid HF9.out.z
      have HSS := Lib.hid (HZ9.out.set (.int .i64 0) (.int .i64 0) (.string ⟨#[]⟩) (.slice none 0 0))
      obtain ⟨d0, d1, d2, d3⟩ := HZ9.out.cells
      obtain ⟨f0, f1, f2, f3⟩ := HZ9.out.free
      obtain ⟨k0, k1, k2, k3⟩ := HB9.out.cells
      go_wp2_with fail
      have hcc := HSS.out.1.cells
      refine bodyPost_ret (v := .tuple #[.slice go gl.length gc, .agg #[.int .i64 0, .int .i64 0, .string ⟨#[]⟩, .slice none 0 0], .bool true]) (results_body rfl _ _ (w.heap.size + 1) _ _ _ _ _ _ rfl rfl rfl hcc.1 hcc.2.1 hcc.2.2.1 hcc.2.2.2) rfl ?_
      have hS : ∀ k, S k → ¬ (k = w.heap.size + 1) := fun k hk e => by have := HB9.out.low k hk; omega
      have oF := HSS.out.2
      refine ⟨go, gc, gl, rfl, (RowOf.low HB9.out.rowG (Nat.zero_le _)).only oF (fun g hg e => hS _ (HB9.out.hasG _ ⟨g, hg, rfl⟩) e), (HB9.out.gs.only oF (fun k hk => (HB9.out.pb k hk).1) (fun k hk e => ?_)).mono (fun k hk => Nat.lt_of_lt_of_le (HB9.out.pb k hk).1 oF.size), HM1.out, Only.cut HF9.out.o oF (fun k e => by omega)⟩
      have := hk.1
      have := HN2.out
      have e' : k = w.heap.size + 1 := e
      omega
theorem Body_any (t : T) (ao : Option Addr) (cap : Nat) (w : World) (hs : t.Sane) (hl : Lies w ao t.l) (hz : t.size ≤ 900000) : Calls Try.prog 27 #[tv t ao cap] w (AnsBody (bodyF t) w) := by
  unfold bodyF
  by_cases h : rcheckF t = 0
  · rw [if_pos h]
    exact Body_ok t ao cap w hs hl (rcheck_iff.1 h)
  · rw [if_neg h]
    exact Body_not t ao cap w hs hl hz (fun e => h (rcheck_iff.2 e))
end Go.Proofs.Ytoogmlgaeipenaa.terms
