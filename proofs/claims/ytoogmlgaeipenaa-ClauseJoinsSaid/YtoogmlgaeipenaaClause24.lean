/- Clauses: arguments behind others, the reference's. -/
import Derived.Test.YtoogmlgaeipenaaArith9
import Derived.Deep.CutRange
import Derived.Deep.DeepCutAuto
import Derived.Test.YtoogmlgaeipenaaClause22
namespace Go.Proofs.Ytoogmlgaeipenaa.terms
set_option maxRecDepth 100000
open Go.RowKit Go.Proofs.Ytoogmlgaeipenaa.own Go.Maps
theorem at20d (w : World) (o p : Obj) : ((w.alloc o).alloc p).drew.heap[w.heap.size]? = some o := at20 w o p
theorem at21d (w : World) (o p : Obj) : ((w.alloc o).alloc p).drew.heap[w.heap.size + 1]? = some p := at21 w o p
theorem rComp_its2 {P : Nat → Prop} (u : T) (s : ByteArray) (l : List T) (hu : compF s l = u) (ao : Option Addr) (cap : Nat) (W : World) (xs : List It) (n : Nat) (hs : s.size ≤ maxLen) (hm : xs.map (·.t) = l) (hn : xs.length = n) {B : Nat} (h : ItsP B ao cap xs W) (hx : ∀ x ∈ xs, x.t.Sane ∧ Row P W x.ao x.t.l) (hP : ∀ q, P q → q < W.heap.size) (hz : n ≤ 1000000) :
    Calls Try.prog 13 #[.string s, .slice ao n cap] W fun e w' => ∃ a c Z, e = .returned (tv u a c) ∧ Row Z w' a u.l ∧ (∀ q, Z q → (P q ∨ RowAt ao q) ∨ (W.heap.size ≤ q ∧ q < w'.heap.size)) ∧ Only (fun _ => False) W w' := by
  have hrow : Row (fun q => P q ∨ RowAt ao q) W ao l := by
    rw [← hm]
    cases ao with
    | none =>
      have : xs = [] := (RowOf.src h).1 rfl
      subst this
      exact Row.nil _ _ _
    | some g =>
      obtain ⟨h1, h2, h3⟩ := h.head g rfl
      obtain ⟨gb, rfl⟩ : ∃ gb, g = ⟨gb, 0, none⟩ := ⟨_, h1⟩
      exact ItsP.row h (.inr ⟨_, rfl, rfl⟩) (fun i x hi => ⟨(hx x (List.mem_of_getElem? hi)).1, (hx x (List.mem_of_getElem? hi)).2.mono (fun _ hq => .inl hq)⟩)
  have hl : l.length = n := by rw [← hm, List.length_map, hn]
  rw [← hl]
  refine (rComp_row s l W ao cap hs hrow (fun q hq => ?_) (by omega)).mono ?_
  · rcases hq with hq | ⟨g, hg, e⟩
    · exact hP q hq
    · rw [e]; exact (h.head g hg).2.2
  rintro e w' ⟨a, c, h1, h2, _, h4⟩
  subst hu
  exact ⟨a, c, _, h1, h2, fun _ hq => hq, h4⟩
theorem int_leaf {t : T} (h : t.Ok) (hk : t.k = 2) : t.l = [] := by
  have h1 := h.right
  rw [T.right_eq, Bool.and_eq_true] at h1
  have hp := h1.1
  unfold T.part at hp
  rw [if_neg (by omega), if_pos hk] at hp
  split at hp
  · split at hp
    · split at hp
      · cases hl : t.l with
        | nil => rfl
        | cons x r => rw [hl] at hp; simp at hp; omega
      · cases hp
    · cases hp
  · cases hp
theorem emptyRow {W : World} {n B : Nat} (h : W.heap[n]? = some (.cells #[] 24 (0, 0))) (hB : B ≤ n) : ItsP B (some ⟨n, 0, none⟩) 0 [] W := ⟨rfl, .inr ⟨n, 0, _, rfl, hB, h, Nat.le_refl _, Nat.zero_le _, rfl, rfl⟩⟩
set_option maxHeartbeats 16000000 in
theorem rAdd_head (t : T) (l : List T) (ao lo : Option Addr) (cap lcap : Nat) (w : World) (hs : t.Sane) (hl : Lies w ao t.l) (hll : Lies w lo l) (hz : t.size ≤ 900000) (hlz : l.length ≤ 1000) (hz2 : sizes l ≤ 200000) :
    Calls Try.prog 23 #[tv t ao cap, .slice lo l.length lcap] w (AnsAdd (addF t l) w) := by
  have HF0 := Lib.hid (AdI.new w t ao cap)
  obtain ⟨R, hR⟩ : ∃ R, addF t l = R := ⟨_, rfl⟩
  rw [hR]
  have HR : Hid (R = if rcheckF t = 0 then (match unF t with
    | some x => .inl x
    | none => if rcheckF (compF t.s (t.l ++ l)) = 0 then .inr (compF t.s (t.l ++ l)) else .inl (sAtom nSize)) else .inl (sAtom nSize)) := Lib.hid hR.symm
  clear hR
  have HCH := Lib.hid (fun (W : World) (ho : Only (fun _ => False) w W) => rCheck_any t W ao cap (hl.later ho) hs (by have := depth_le_size t; omega) (by omega))
  have HL := Lib.hid hl
  have HLL := Lib.hid hll
  have HS := Lib.hid hs
  have HLZ0 := Lib.hid hlz
  have HZ2 := Lib.hid hz2
  obtain ⟨c0, c1, c2, c3⟩ := HF0.out.2.cells
  have HRC := Lib.hid (@rcheck_iff t)
  obtain ⟨C, hC⟩ : ∃ C, rcheckF t = C := ⟨_, rfl⟩
  rw [hC] at HR HCH HRC
  show Calls Try.prog 23 #[.agg #[.int .i64 t.k, .int .i64 t.n, .string t.s, .slice ao t.l.length cap], .slice lo l.length lcap] w _
  clear hl hll hs hz hlz hz2 hC
  go_enter Try.func23, Try.ntmps23
  go_wp2_with fail
  clear c0 c1 c2 c3
  generalize ((w.alloc (.cells #[.int .i64 t.k, .int .i64 t.n, .string t.s, .slice ao t.l.length cap] 24)).alloc (.cells #[.int .i64 0, .int .i64 0, .string ⟨#[]⟩, .slice none 0 0] 24)).alloc (.cells #[.int .i64 0, .int .i64 0, .string ⟨#[]⟩, .slice none 0 0] 24) = E at *
  refine (HCH.out _ HF0.out.1.o).mono ?_
  rintro e w1 ⟨rfl, ho1⟩
  have HF1 := Lib.hid (HF0.out.1.later ho1)
  have HB1 := Lib.hid (HF0.out.2.only ho1 (fun e => e))
  clear ho1 HF0 HCH
  by_cases hc0 : C = 0
  · subst hc0
    have hok := HRC.out.1 rfl
    have hr1 := HR.out
    rw [if_pos rfl] at hr1
    have HR1 := Lib.hid hr1
    have HOK := Lib.hid hok
    clear hok hr1 HR HRC
    obtain ⟨c0, c1, c2, c3⟩ := HB1.out.cells
    by_cases h1 : t.k = 1
    · have e1 : (t.k == 1) = true := by simpa using h1
      obtain rfl : R = .inl (sAtom nInst) := by have := HR1.out; unfold unF at this; rw [if_pos h1] at this; exact this
      clear h1 HR1
      go_wp2_with fail
      refine (rInst_any _).mono ?_
      rintro e w2 ⟨a2, p2, rfl, hr2, ho2⟩
      have HF2 := Lib.hid (HF1.out.later ho2)
      have HX2 := Lib.hid HF2.out.x
      have HZ2 := Lib.hid HF2.out.z
      have HO2 := Lib.hid HF2.out.o
      have HR2 := Lib.hid (row_above hr2 HF1.out.n)
      clear hr2 ho2 c0 c1 c2 c3
      obtain ⟨WF, hWF⟩ : ∃ WF, WF = ((((((((w2.setCell ⟨w.heap.size + 1, 0, none⟩ (.int .i64 0)).setCell ⟨w.heap.size + 1, 1, none⟩ (.int .i64 0)).setCell ⟨w.heap.size + 1, 2, none⟩ (.string ⟨#[]⟩)).setCell ⟨w.heap.size + 1, 3, none⟩ (.slice none 0 0)).setCell ⟨w.heap.size + 1 + 1, 0, none⟩ (.int .i64 4)).setCell ⟨w.heap.size + 1 + 1, 1, none⟩ (.int .i64 0)).setCell ⟨w.heap.size + 1 + 1, 2, none⟩ (.string nError)).setCell ⟨w.heap.size + 1 + 1, 3, none⟩ (.slice a2 1 p2)) := ⟨_, rfl⟩
      have HST := Lib.hid (quadStores HX2.out HZ2.out (by omega) (.int .i64 0) (.int .i64 0) (.string ⟨#[]⟩) (.slice none 0 0) (.int .i64 4) (.int .i64 0) (.string nError) (.slice a2 1 p2) _ (.inl hWF))
      have HWF := Lib.hid hWF
      clear hWF
      have hZS := HZ2.out.only (HX2.out.set (.int .i64 0) (.int .i64 0) (.string ⟨#[]⟩) (.slice none 0 0)).2 (fun e => by omega)
      obtain ⟨x0, x1, x2, x3⟩ := HX2.out.cells
      obtain ⟨e0, e1, e2, e3⟩ := HX2.out.free
      obtain ⟨d0, d1, d2, d3⟩ := hZS.cells
      obtain ⟨f0, f1, f2, f3⟩ := hZS.free
      clear hZS
      go_wp2_with fail
      rw [← HWF.out]
      have hcc := HST.out.1.cells
      have hpp := HST.out.2.1.cells
      refine bodyPost_ret (v := .tuple #[.agg #[.int .i64 0, .int .i64 0, .string ⟨#[]⟩, .slice none 0 0], .agg #[.int .i64 4, .int .i64 0, .string nError, .slice a2 1 p2], .bool false]) (results_add rfl _ WF (w.heap.size + 1) (w.heap.size + 1 + 1) _ _ _ _ _ _ _ _ _ rfl rfl rfl hcc.1 hcc.2.1 hcc.2.2.1 hcc.2.2.2 hpp.1 hpp.2.1 hpp.2.2.1 hpp.2.2.2) rfl ?_
      have oF := HST.out.2.2.same (Only.drewN (fun k => k = w.heap.size + 1 ∨ k = w.heap.size + 1 + 1) WF 0)
      have hfin : Only (fun _ => False) w WF := Only.cut HO2.out oF (fun k e => by omega)
      exact ⟨a2, p2, rfl, (HR2.out.only oF (fun k hk => hk.2) (fun k hk e => by have := hk.1; omega)).mono (fun k hk => Nat.lt_of_lt_of_le hk.2 oF.size), hfin⟩

    · have e1 : (t.k == 1) = false := by simpa using h1
      by_cases h2 : t.k = 2
      · have e2 : (t.k == 2) = true := by simpa using h2
        obtain rfl : R = .inl (.mk 4 0 nType [sAtom nCallable, t]) := by have := HR1.out; unfold unF at this; rw [if_neg h1, if_pos h2] at this; exact this
        have HTL : Hid (t.l = []) := Lib.hid (int_leaf HOK.out h2)
        have HTY := Lib.hid (rType_any (P := no) nCallable t ao cap w1 (by decide +kernel) HS.out (by rw [HTL.out]; exact Row.nil _ _ _) no_lt)
        clear h1 h2 HR1
        go_wp2_with fail
        refine HTY.out.mono ?_
        rintro e w2 ⟨a2, p2, rfl, hr2, ho2⟩
        have HF2 := Lib.hid (HF1.out.later ho2)
        have HX2 := Lib.hid HF2.out.x
        have HZ2 := Lib.hid HF2.out.z
        have HO2 := Lib.hid HF2.out.o
        have HR2 := Lib.hid (row_above hr2 HF1.out.n)
        clear hr2 ho2 c0 c1 c2 c3 HTY
        obtain ⟨WF, hWF⟩ : ∃ WF, WF = ((((((((w2.setCell ⟨w.heap.size + 1, 0, none⟩ (.int .i64 0)).setCell ⟨w.heap.size + 1, 1, none⟩ (.int .i64 0)).setCell ⟨w.heap.size + 1, 2, none⟩ (.string ⟨#[]⟩)).setCell ⟨w.heap.size + 1, 3, none⟩ (.slice none 0 0)).setCell ⟨w.heap.size + 1 + 1, 0, none⟩ (.int .i64 4)).setCell ⟨w.heap.size + 1 + 1, 1, none⟩ (.int .i64 0)).setCell ⟨w.heap.size + 1 + 1, 2, none⟩ (.string nError)).setCell ⟨w.heap.size + 1 + 1, 3, none⟩ (.slice a2 1 p2)) := ⟨_, rfl⟩
        have HST := Lib.hid (quadStores HX2.out HZ2.out (by omega) (.int .i64 0) (.int .i64 0) (.string ⟨#[]⟩) (.slice none 0 0) (.int .i64 4) (.int .i64 0) (.string nError) (.slice a2 1 p2) _ (.inl hWF))
        have HWF := Lib.hid hWF
        clear hWF
        have hZS := HZ2.out.only (HX2.out.set (.int .i64 0) (.int .i64 0) (.string ⟨#[]⟩) (.slice none 0 0)).2 (fun e => by omega)
        obtain ⟨x0, x1, x2, x3⟩ := HX2.out.cells
        obtain ⟨e0, e1, e2, e3⟩ := HX2.out.free
        obtain ⟨d0, d1, d2, d3⟩ := hZS.cells
        obtain ⟨f0, f1, f2, f3⟩ := hZS.free
        clear hZS
        go_wp2_with fail
        rw [← HWF.out]
        have hcc := HST.out.1.cells
        have hpp := HST.out.2.1.cells
        refine bodyPost_ret (v := .tuple #[.agg #[.int .i64 0, .int .i64 0, .string ⟨#[]⟩, .slice none 0 0], .agg #[.int .i64 4, .int .i64 0, .string nError, .slice a2 1 p2], .bool false]) (results_add rfl _ WF (w.heap.size + 1) (w.heap.size + 1 + 1) _ _ _ _ _ _ _ _ _ rfl rfl rfl hcc.1 hcc.2.1 hcc.2.2.1 hcc.2.2.2 hpp.1 hpp.2.1 hpp.2.2.1 hpp.2.2.2) rfl ?_
        have oF := HST.out.2.2.same (Only.drewN (fun k => k = w.heap.size + 1 ∨ k = w.heap.size + 1 + 1) WF 0)
        have hfin : Only (fun _ => False) w WF := Only.cut HO2.out oF (fun k e => by omega)
        exact ⟨a2, p2, rfl, (HR2.out.only oF (fun k hk => hk.2) (fun k hk e => by have := hk.1; omega)).mono (fun k hk => Nat.lt_of_lt_of_le hk.2 oF.size), hfin⟩

      · have e2 : (t.k == 2) = false := by simpa using h2
        have HR2 : Hid (R = if rcheckF (compF t.s (t.l ++ l)) = 0 then .inr (compF t.s (t.l ++ l)) else .inl (sAtom nSize)) := Lib.hid (by have := HR1.out; unfold unF at this; rw [if_neg h1, if_neg h2] at this; exact this)
        clear h1 h2 HR1
        obtain ⟨u, hu⟩ : ∃ u, compF t.s (t.l ++ l) = u := ⟨_, rfl⟩
        rw [hu] at HR2
        have HU := Lib.hid hu
        obtain ⟨its, hma, hsa, hua⟩ := Row.src HL.out (fun _ h => h)
        obtain ⟨jts, hmb, hsb, hub⟩ := Row.src HLL.out (fun _ h => h)
        have HMA := Lib.hid hma
        have HMB := Lib.hid hmb
        have HLA : Hid (its.length = t.l.length) := Lib.hid (by rw [← hma, List.length_map])
        have HLB : Hid (jts.length = l.length) := Lib.hid (by rw [← hmb, List.length_map])
        have HTL : Hid (t.l.length ≤ 4096) := Lib.hid (by have h1 := length_le_sizes t.l; have h2 := HOK.out.size; rw [T.size_eq] at h2; omega)
        have HSA : Hid (∀ W, Only (fun _ => False) w1 W → SrcOf encIt W ao its) := Lib.hid (fun W ho => Src.of (hsa.later (HF1.out.o.same ho)))
        have HSB : Hid (∀ W, Only (fun _ => False) w1 W → SrcOf encIt W lo jts) := Lib.hid (fun W ho => Src.of (hsb.later (HF1.out.o.same ho)))
        have HSUB : Hid (∀ W, Only (fun _ => False) w1 W → ∀ x ∈ its ++ jts, x.t.Sane ∧ Row (fun q => q < w.heap.size) W x.ao x.t.l) := Lib.hid (fun W ho x hx => by
          have hm : x.t.Sane ∧ Lies w x.ao x.t.l := by
            rcases List.mem_append.1 hx with hx | hx
            · obtain ⟨i, hi⟩ := List.getElem?_of_mem hx; exact hua i x hi
            · obtain ⟨i, hi⟩ := List.getElem?_of_mem hx; exact hub i x hi
          exact ⟨hm.1, hm.2.only (HF1.out.o.same ho) (fun _ h => h) (fun _ _ e => e)⟩)
        obtain ⟨i0, hi0, hz0, hz1, hz2⟩ := info_parts infoT
        have HK : Hid (∀ W', Only (fun _ => False) w1 W' → W'.cell? ⟨w.heap.size, 2, none⟩ = some (.string t.s) ∧ W'.cell? ⟨w.heap.size, 3, none⟩ = some (.slice ao t.l.length cap)) := Lib.hid (fun W' ho => by
          obtain ⟨_, _, q2, q3⟩ := (HB1.out.only ho (fun e => e)).cells
          exact ⟨q2, q3⟩)
        clear hu hma hmb hsa hsb hua hub
        go_upto_region 7 with fail
        clear c0 c1 c2 c3
        go_cut [7] from 27 to 36 (fun t7 wx => ∃ bt au cu, t7 = .pointer (some ⟨bt, 0, none⟩) ∧ Hid (AdI w wx ∧ Quad bt (.int .i64 u.k) (.int .i64 u.n) (.string u.s) (.slice au u.l.length cu) wx ∧ Row (fun q => (q < w.heap.size ∨ w.heap.size + 3 ≤ q) ∧ q < wx.heap.size) wx au u.l))
        case first =>
          go_region_held3 (fun W' => W'.cell? ⟨w.heap.size, 2, none⟩ = some (.string t.s) ∧ W'.cell? ⟨w.heap.size, 3, none⟩ = some (.slice ao t.l.length cap)) (with_reducible first | exact HK.out _ HOS.out | exact HK.out _ HO7.out | exact HK.out _ (HO7.out.same (by with_reducible first | exact Only.refl _ _ | exact Only.alloc _ _ _)) | exact HK.out _ HO6.out | exact HK.out _ (HO6.out.same (by with_reducible first | exact Only.refl _ _ | exact Only.alloc _ _ _)) | exact HK.out _ HO5.out | exact HK.out _ (HO5.out.same (by with_reducible first | exact Only.refl _ _ | exact Only.alloc _ _ _)) | exact HK.out _ (by with_reducible first | exact (Only.alloc _ _ _).same (Only.drew _ _) | exact ((Only.alloc _ _ _).same (Only.alloc _ _ _)).same (Only.drew _ _)) | exact HK.out _ (Only.drew _ _)) (first
            | (refine step_append_many liesIt (by rfl) (.tmp 29) (.tmp 31) 22 (by rfl) w1.heap.size 24 i0 _ 56 Try.underlying22 hi0 hz0 hz1 hz2 rfl (by omega) _ (some ⟨_, 0, none⟩) 0 [] (by rfl) (emptyRow (by with_reducible first | exact at1d _ _ | exact at20d _ _ _ | exact at21d _ _ _) (by simp)) ao cap its (by rw [HLA.out]; rfl) (HSA.out _ (by with_reducible first | exact (Only.alloc _ _ _).same (Only.drew _ _) | exact ((Only.alloc _ _ _).same (Only.alloc _ _ _)).same (Only.drew _ _))) (by have := HLA.out; have := HTL.out; simp; omega) (by simp <;> omega) ?_
               intro ao5 cap5 w5 hrow5 ho5 hnew5
               rw [List.nil_append] at hrow5
               rw [show ([] : List It).length + its.length = its.length by simp]
               have HR5 := Lib.hid hrow5
               have HW5 := Lib.hid ho5
               have HN5 := Lib.hid hnew5
               have HO5 : Hid (Only (fun _ => False) w1 w5) := Lib.hid (Only.cut (by with_reducible first | exact (Only.alloc _ _ _).same (Only.drew _ _) | exact ((Only.alloc _ _ _).same (Only.alloc _ _ _)).same (Only.drew _ _)) ho5 (by rintro k ⟨g, hg, e⟩; cases hg; simp at e; omega))
               (first
                 | (have HZ5 : Hid (Zero (w1.heap.size) w5) := Lib.hid (Quad.only (at20d _ _ _) HW5.out (by rintro ⟨g, hg, e⟩; cases hg; simp at e)))
                 | (have HZ5 : Hid (Zero (w1.heap.size + 1) w5) := Lib.hid (Quad.only (at21d _ _ _) HW5.out (by rintro ⟨g, hg, e⟩; cases hg; simp at e)))
                 | skip)
               clear hrow5 ho5 hnew5)
            | (refine step_append_many liesIt (by rfl) (.tmp 32) (.tmp 33) 22 (by rfl) w1.heap.size 24 i0 _ 56 Try.underlying22 hi0 hz0 hz1 hz2 rfl (by omega) _ ao5 cap5 its (by rfl) (HR5.out.only (S := fun _ => False) (by with_reducible first | exact Only.refl _ _ | exact Only.alloc _ _ _) (fun _ _ e => e)) lo lcap jts (by rw [HLB.out]; rfl) (HSB.out _ (HO5.out.same (by with_reducible first | exact Only.refl _ _ | exact Only.alloc _ _ _))) (by have := HLA.out; have := HTL.out; have := HLB.out; have := HLZ0.out; omega) (by have := HO5.out.size; simp; omega) ?_
               intro ao6 cap6 w6 hrow6 ho6 hnew6
               have HR6 := Lib.hid hrow6
               have HW6 := Lib.hid ho6
               have HN6 := Lib.hid hnew6
               have HO6 : Hid (Only (fun _ => False) w1 w6) := Lib.hid (Only.cut (HO5.out.same (by with_reducible first | exact Only.refl _ _ | exact Only.alloc _ _ _)) ho6 (by rintro k ⟨g, hg, e⟩; have := (HR5.out.head g hg).2.1; omega))
               (first
                 | (have HZ6 := Lib.hid ((HZ5.out.only (S := fun _ => False) (by with_reducible first | exact Only.refl _ _ | exact Only.alloc _ _ _) (fun e => e)).only HW6.out (by rintro ⟨g, hg, e⟩; have h1 := HN5.out g hg; have h2 := (HR5.out.head g hg).2; rcases h1 with h1 | h1 <;> first | (cases h1; simp at e; done) | (simp at h1 e; omega))))
                 | (have HZ6 : Hid (Zero (w5.heap.size) w6) := Lib.hid (Quad.only (at1 _ _) HW6.out (by rintro ⟨g, hg, e⟩; have h2 := (HR5.out.head g hg).2; omega)))
                 | skip)
               clear hrow6 ho6 hnew6)
            | (go_at_call 13; (refine (rComp_its2 (P := fun q => q < w.heap.size) u t.s (t.l ++ l) HU.out ao6 cap6 _ (its ++ jts) _ HS.out.s (by rw [List.map_append, HMA.out, HMB.out]) (by rw [List.length_append, HLA.out, HLB.out]) (HR6.out.only (S := fun _ => False) (by with_reducible first | exact Only.refl _ _ | exact Only.alloc _ _ _) (fun _ _ e => e)) (HSUB.out _ (HO6.out.same (by with_reducible first | exact Only.refl _ _ | exact Only.alloc _ _ _))) (fun q hq => by have h6 := HO6.out.size; have h1 := HF1.out.n; first | (show q < w6.heap.size; omega) | (simp; omega)) (by have := HTL.out; have := HLZ0.out; have := HLA.out; have := HLB.out; omega)).mono ?_); rintro e w7 ⟨au, cu, Z7, rfl, hl7, hz7, ho7⟩; have HL7 := Lib.hid hl7; have HQ7 := Lib.hid hz7; have HW7 := Lib.hid ho7; have HO7 : Hid (Only (fun _ => False) w1 w7) := Lib.hid (HO6.out.same (Only.same (by with_reducible first | exact Only.refl _ _ | exact Only.alloc _ _ _) ho7)); (first | (have HZ7 := Lib.hid (HZ6.out.only (S := fun _ => False) (Only.same (by with_reducible first | exact Only.refl _ _ | exact Only.alloc _ _ _) ho7) (fun e => e))) | (have HZ7 : Hid (Zero (w6.heap.size) w7) := Lib.hid (blk_later (at1 _ _) HW7.out)) | skip); have HZL : Hid (∀ q, Z7 q → (q < w.heap.size ∨ w.heap.size + 3 ≤ q) ∧ q < w7.heap.size) := Lib.hid (fun q hq => by have h1 := HF1.out.n; have h6 := HO6.out.size; have h7 := HO7.out.size; have hw := HW7.out.size; (try simp at hw); rcases HQ7.out q hq with (hq | ⟨g, hg, e⟩) | hq; exact ⟨.inl hq, by omega⟩; have := (HR6.out.head g hg).2; exact ⟨.inr (by omega), by omega⟩; have hq1 := hq.1; (try simp at hq1); exact ⟨.inr (by omega), hq.2⟩); clear hl7 hz7 ho7; (first | (have HST := Lib.hid (HZ7.out.set (.int .i64 u.k) (.int .i64 u.n) (.string u.s) (.slice au u.l.length cu)); obtain ⟨z0, z1, z2, z3⟩ := HZ7.out.cells; obtain ⟨f0, f1, f2, f3⟩ := HZ7.out.free; have HLF := Lib.hid (HL7.out.only HST.out.2 (fun q hq => (HZL.out q hq).2) (fun q hq e0 => by (try dsimp only at e0); have h1 := HF1.out.n; have hs6 := HW6.out.size; (try simp at hs6); have hs5 := HW5.out.size; (try simp at hs5); have h5 := HO5.out.size; have h6 := HO6.out.size; rcases HQ7.out q hq with (hq | ⟨g, hg, e⟩) | hq; (omega); (have g6 := (HR6.out.head g hg).2; rcases HN6.out g hg with k6 | k6; (have g5 := (HR5.out.head g k6).2; rcases HN5.out g k6 with k5 | k5; (cases k5; simp at e g5; omega); ((try simp at k5); omega)); ((try simp at k6); omega)); (have hq1 := hq.1; (try simp at hq1); omega))); have HOS := Lib.hid (Only.cut HO7.out HST.out.2 (fun k e => by have s5 := HO5.out.size; have s6 := HO6.out.size; omega))) | skip)))
          all_goals
            go_wp2_with fail
            go_meet
            first
              | exact ⟨_, au, cu, rfl, Lib.hid ⟨HF1.out.later HOS.out, HST.out.1, HLF.out.mono (fun q hq => ⟨(HZL.out q hq).1, Nat.lt_of_lt_of_le (HZL.out q hq).2 HST.out.2.size⟩)⟩⟩
              | exact ⟨_, au, cu, rfl, Lib.hid ⟨HF1.out.later (HO7.out.same (Only.alloc _ _ _)), at1 _ _, (HL7.out.only (Only.alloc (fun _ => False) _ _) (fun q hq => (HZL.out q hq).2) (fun _ _ e => e)).mono (fun q hq => ⟨(HZL.out q hq).1, Nat.lt_of_lt_of_le (HZL.out q hq).2 (Only.alloc (fun _ => False) _ _).size⟩)⟩⟩
        case rest =>
          obtain ⟨bt, au, cu, rfl, hC⟩ := hcut
          have HSU : Hid (u.Sane ∧ u.size ≤ 900000) := Lib.hid (by
            have h2 := HOK.out.size
            have h3 := HZ2.out
            have h4 := HLZ0.out
            have h5 := length_le_sizes t.l
            rw [T.size_eq] at h2
            rw [← HU.out]
            by_cases h0 : (t.l ++ l).length = 0
            · rw [compF_zero h0]
              exact ⟨sane_atom HS.out.s, by rw [show (T.mk 3 0 t.s []).size = 1 from rfl]; omega⟩
            · rw [compF_some h0]
              exact ⟨sane_comp HS.out.s (by rw [List.length_append]; unfold maxLen; omega), by rw [T.size_eq]; show 1 + sizes (t.l ++ l) ≤ _; rw [sizes_append]; omega⟩)
          have HCU := Lib.hid (rCheck_any u wc au cu (hC.out.2.2.mono (fun q hq => hq.2)) HSU.out.1 (by have := depth_le_size u; have := HSU.out.2; omega) (by have := HSU.out.2; omega))
          obtain ⟨c0, c1, c2, c3⟩ := hC.out.2.1.cells
          obtain ⟨C2, hC2⟩ : ∃ C2, rcheckF u = C2 := ⟨_, rfl⟩
          rw [hC2] at HR2 HCU
          clear hC2
          go_wp2_with fail
          refine HCU.out.mono ?_
          rintro e w8 ⟨rfl, ho8⟩
          have HF8 := Lib.hid (hC.out.1.later ho8)
          have HB8 := Lib.hid (hC.out.2.1.only ho8 (fun e => e))
          have HL8 := Lib.hid ((hC.out.2.2.only ho8 (fun q hq => hq.2) (fun _ _ e => e)).mono (fun q hq => (⟨hq.1, Nat.lt_of_lt_of_le hq.2 ho8.size⟩ : (q < w.heap.size ∨ w.heap.size + 3 ≤ q) ∧ q < w8.heap.size)))
          clear ho8 c0 c1 c2 c3 HCU
          by_cases hd0 : C2 = 0
          · subst hd0
            obtain rfl : R = .inr u := by rw [HR2.out, if_pos rfl]
            have HX8 := Lib.hid HF8.out.x
            have HZ8 := Lib.hid HF8.out.z
            have HO8 := Lib.hid HF8.out.o
            obtain ⟨c0, c1, c2, c3⟩ := HB8.out.cells
            clear HR2
            obtain ⟨WF, hWF⟩ : ∃ WF, WF = ((((((((w8.setCell ⟨w.heap.size + 1, 0, none⟩ (.int .i64 u.k)).setCell ⟨w.heap.size + 1, 1, none⟩ (.int .i64 u.n)).setCell ⟨w.heap.size + 1, 2, none⟩ (.string u.s)).setCell ⟨w.heap.size + 1, 3, none⟩ (.slice au u.l.length cu)).setCell ⟨w.heap.size + 1 + 1, 0, none⟩ (.int .i64 0)).setCell ⟨w.heap.size + 1 + 1, 1, none⟩ (.int .i64 0)).setCell ⟨w.heap.size + 1 + 1, 2, none⟩ (.string ⟨#[]⟩)).setCell ⟨w.heap.size + 1 + 1, 3, none⟩ (.slice none 0 0)) := ⟨_, rfl⟩
            have HST := Lib.hid (quadStores HX8.out HZ8.out (by omega) (.int .i64 u.k) (.int .i64 u.n) (.string u.s) (.slice au u.l.length cu) (.int .i64 0) (.int .i64 0) (.string ⟨#[]⟩) (.slice none 0 0) _ (.inl hWF))
            have HWF := Lib.hid hWF
            clear hWF
            have hZS := HZ8.out.only (HX8.out.set (.int .i64 u.k) (.int .i64 u.n) (.string u.s) (.slice au u.l.length cu)).2 (fun e => by omega)
            obtain ⟨x0, x1, x2, x3⟩ := HX8.out.cells
            obtain ⟨e0, e1, e2, e3⟩ := HX8.out.free
            obtain ⟨d0, d1, d2, d3⟩ := hZS.cells
            obtain ⟨f0, f1, f2, f3⟩ := hZS.free
            clear hZS
            go_wp2_with fail
            rw [← HWF.out]
            have hcc := HST.out.1.cells
            have hpp := HST.out.2.1.cells
            refine bodyPost_ret (v := .tuple #[.agg #[.int .i64 u.k, .int .i64 u.n, .string u.s, .slice au u.l.length cu], .agg #[.int .i64 0, .int .i64 0, .string ⟨#[]⟩, .slice none 0 0], .bool true]) (results_add rfl _ WF (w.heap.size + 1) (w.heap.size + 1 + 1) _ _ _ _ _ _ _ _ _ rfl rfl rfl hcc.1 hcc.2.1 hcc.2.2.1 hcc.2.2.2 hpp.1 hpp.2.1 hpp.2.2.1 hpp.2.2.2) rfl ?_
            have oF := HST.out.2.2.same (Only.drewN (fun k => k = w.heap.size + 1 ∨ k = w.heap.size + 1 + 1) WF 0)
            have hfin : Only (fun _ => False) w WF := Only.cut HO8.out oF (fun k e => by omega)
            exact ⟨au, cu, rfl, (HL8.out.only oF (fun k hk => hk.2) (fun k hk e => by have := hk.1; omega)).mono (fun k hk => Nat.lt_of_lt_of_le hk.2 oF.size), hfin⟩

          · have hdn : (C2 != 0) = true := by simpa using hd0
            obtain rfl : R = .inl (sAtom nSize) := by rw [HR2.out, if_neg hd0]
            clear hd0 HR2
            go_wp2_with fail
            refine (rSize_any _).mono ?_
            rintro e w9 ⟨a9, p9, rfl, hr9, ho9⟩
            have HF9 := Lib.hid (HF8.out.later ho9)
            have HX9 := Lib.hid HF9.out.x
            have HZ9 := Lib.hid HF9.out.z
            have HO9 := Lib.hid HF9.out.o
            have HR9 := Lib.hid (row_above hr9 HF8.out.n)
            clear hr9 ho9
            obtain ⟨WF, hWF⟩ : ∃ WF, WF = ((((((((w9.setCell ⟨w.heap.size + 1, 0, none⟩ (.int .i64 0)).setCell ⟨w.heap.size + 1, 1, none⟩ (.int .i64 0)).setCell ⟨w.heap.size + 1, 2, none⟩ (.string ⟨#[]⟩)).setCell ⟨w.heap.size + 1, 3, none⟩ (.slice none 0 0)).setCell ⟨w.heap.size + 1 + 1, 0, none⟩ (.int .i64 4)).setCell ⟨w.heap.size + 1 + 1, 1, none⟩ (.int .i64 0)).setCell ⟨w.heap.size + 1 + 1, 2, none⟩ (.string nError)).setCell ⟨w.heap.size + 1 + 1, 3, none⟩ (.slice a9 1 p9)) := ⟨_, rfl⟩
            have HST := Lib.hid (quadStores HX9.out HZ9.out (by omega) (.int .i64 0) (.int .i64 0) (.string ⟨#[]⟩) (.slice none 0 0) (.int .i64 4) (.int .i64 0) (.string nError) (.slice a9 1 p9) _ (.inl hWF))
            have HWF := Lib.hid hWF
            clear hWF
            have hZS := HZ9.out.only (HX9.out.set (.int .i64 0) (.int .i64 0) (.string ⟨#[]⟩) (.slice none 0 0)).2 (fun e => by omega)
            obtain ⟨x0, x1, x2, x3⟩ := HX9.out.cells
            obtain ⟨e0, e1, e2, e3⟩ := HX9.out.free
            obtain ⟨d0, d1, d2, d3⟩ := hZS.cells
            obtain ⟨f0, f1, f2, f3⟩ := hZS.free
            clear hZS
            go_wp2_with fail
            rw [← HWF.out]
            have hcc := HST.out.1.cells
            have hpp := HST.out.2.1.cells
            refine bodyPost_ret (v := .tuple #[.agg #[.int .i64 0, .int .i64 0, .string ⟨#[]⟩, .slice none 0 0], .agg #[.int .i64 4, .int .i64 0, .string nError, .slice a9 1 p9], .bool false]) (results_add rfl _ WF (w.heap.size + 1) (w.heap.size + 1 + 1) _ _ _ _ _ _ _ _ _ rfl rfl rfl hcc.1 hcc.2.1 hcc.2.2.1 hcc.2.2.2 hpp.1 hpp.2.1 hpp.2.2.1 hpp.2.2.2) rfl ?_
            have oF := HST.out.2.2.same (Only.drewN (fun k => k = w.heap.size + 1 ∨ k = w.heap.size + 1 + 1) WF 0)
            have hfin : Only (fun _ => False) w WF := Only.cut HO9.out oF (fun k e => by omega)
            exact ⟨a9, p9, rfl, (HR9.out.only oF (fun k hk => hk.2) (fun k hk e => by have := hk.1; omega)).mono (fun k hk => Nat.lt_of_lt_of_le hk.2 oF.size), hfin⟩

  · have hcn : (C != 0) = true := by simpa using hc0
    obtain rfl : R = .inl (sAtom nSize) := by rw [HR.out, if_neg hc0]
    clear hc0 HR HRC
    go_wp2_with fail
    refine (rSize_any _).mono ?_
    rintro e w2 ⟨a2, p2, rfl, hr2, ho2⟩
    have HF2 := Lib.hid (HF1.out.later ho2)
    have HX2 := Lib.hid HF2.out.x
    have HZ2 := Lib.hid HF2.out.z
    have HO2 := Lib.hid HF2.out.o
    have HR2 := Lib.hid (row_above hr2 HF1.out.n)
    clear hr2 ho2
    obtain ⟨WF, hWF⟩ : ∃ WF, WF = ((((((((w2.setCell ⟨w.heap.size + 1, 0, none⟩ (.int .i64 0)).setCell ⟨w.heap.size + 1, 1, none⟩ (.int .i64 0)).setCell ⟨w.heap.size + 1, 2, none⟩ (.string ⟨#[]⟩)).setCell ⟨w.heap.size + 1, 3, none⟩ (.slice none 0 0)).setCell ⟨w.heap.size + 1 + 1, 0, none⟩ (.int .i64 4)).setCell ⟨w.heap.size + 1 + 1, 1, none⟩ (.int .i64 0)).setCell ⟨w.heap.size + 1 + 1, 2, none⟩ (.string nError)).setCell ⟨w.heap.size + 1 + 1, 3, none⟩ (.slice a2 1 p2)) := ⟨_, rfl⟩
    have HST := Lib.hid (quadStores HX2.out HZ2.out (by omega) (.int .i64 0) (.int .i64 0) (.string ⟨#[]⟩) (.slice none 0 0) (.int .i64 4) (.int .i64 0) (.string nError) (.slice a2 1 p2) _ (.inl hWF))
    have HWF := Lib.hid hWF
    clear hWF
    have hZS := HZ2.out.only (HX2.out.set (.int .i64 0) (.int .i64 0) (.string ⟨#[]⟩) (.slice none 0 0)).2 (fun e => by omega)
    obtain ⟨x0, x1, x2, x3⟩ := HX2.out.cells
    obtain ⟨e0, e1, e2, e3⟩ := HX2.out.free
    obtain ⟨d0, d1, d2, d3⟩ := hZS.cells
    obtain ⟨f0, f1, f2, f3⟩ := hZS.free
    clear hZS
    go_wp2_with fail
    rw [← HWF.out]
    have hcc := HST.out.1.cells
    have hpp := HST.out.2.1.cells
    refine bodyPost_ret (v := .tuple #[.agg #[.int .i64 0, .int .i64 0, .string ⟨#[]⟩, .slice none 0 0], .agg #[.int .i64 4, .int .i64 0, .string nError, .slice a2 1 p2], .bool false]) (results_add rfl _ WF (w.heap.size + 1) (w.heap.size + 1 + 1) _ _ _ _ _ _ _ _ _ rfl rfl rfl hcc.1 hcc.2.1 hcc.2.2.1 hcc.2.2.2 hpp.1 hpp.2.1 hpp.2.2.1 hpp.2.2.2) rfl ?_
    have oF := HST.out.2.2.same (Only.drewN (fun k => k = w.heap.size + 1 ∨ k = w.heap.size + 1 + 1) WF 0)
    have hfin : Only (fun _ => False) w WF := Only.cut HO2.out oF (fun k e => by omega)
    exact ⟨a2, p2, rfl, (HR2.out.only oF (fun k hk => hk.2) (fun k hk e => by have := hk.1; omega)).mono (fun k hk => Nat.lt_of_lt_of_le hk.2 oF.size), hfin⟩

end Go.Proofs.Ytoogmlgaeipenaa.terms
