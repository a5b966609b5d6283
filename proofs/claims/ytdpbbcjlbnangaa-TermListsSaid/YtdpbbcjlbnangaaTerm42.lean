/- Terms: List. -/
import Derived.Deep.RegionHeld3
import Derived.Test.YtdpbbcjlbnangaaTerm41
namespace Go.Proofs.Ytdpbbcjlbnangaa.terms
open Go.RowKit Go.Proofs.Ytdpbbcjlbnangaa.own Go.Maps Go.Shelf
attribute [local go_sem] Oper.semAt_some
theorem all_row {items : List T} {its : List It} {t : T} {ao : Option Addr} {cap B g c : Nat} {w w5 : World} (hm : its.map (·.t) = items) (hsub : ∀ (i : Nat) (x : It), its[i]? = some x → x.t.Sane ∧ Lies w x.ao x.t.l) (hl : Lies w ao t.l) (hs : t.Sane) (ho : Only (fun _ => False) w w5)
    (hown : w5.ownsRow B 24 4 (.slice (some ⟨g, 0, none⟩) (items.length + 1) c) (items.length + 1) (its.flatMap encIt ++ [.int .i64 t.k, .int .i64 t.n, .string t.s, .slice ao t.l.length cap])) : Lies w5 (some ⟨g, 0, none⟩) (items ++ [t]) := by
  have hn : its.length = items.length := by rw [← hm, List.length_map]
  have h : ItsP B (some ⟨g, 0, none⟩) c (its ++ [⟨t, ao, cap⟩]) w5 := by
    unfold ItsP RowOf
    rw [← flat_snoc, List.length_append, hn]
    exact hown
  have := Row.tail (P := fun k => k < w5.heap.size) h (fun q _ hq => hq) (fun i x hx => by
    by_cases hi : i < its.length
    · rw [List.getElem?_append_left hi] at hx
      exact ⟨(hsub i x hx).1, (hsub i x hx).2.later ho⟩
    · rw [List.getElem?_append_right (by omega)] at hx
      have : i - its.length = 0 := by have := (List.getElem?_eq_some_iff.1 hx).1; simp at this; omega
      rw [this] at hx
      simp at hx
      subst hx
      exact ⟨hs, hl.later ho⟩)
  rwa [List.map_append, hm] at this
set_option maxRecDepth 100000 in
set_option maxHeartbeats 4000000 in
theorem List_any (items : List T) (t : T) (w : World) (io ao : Option Addr) (ic cap : Nat) (hil : Lies w io items) (hl : Lies w ao t.l) (hs : t.Sane) (hz : sizes (items ++ [t]) ≤ 1000000) :
    Calls Try.prog 21 #[.slice io items.length ic, tv t ao cap] w fun e w' => ∃ ao' cap', e = .returned (tv (listF items t) ao' cap') ∧ Row (Since w w') w' ao' (listF items t).l ∧ (listF items t).Sane ∧ Only (fun _ => False) w w' := by
  obtain ⟨i0, hi, hz0, hz1, hz2⟩ := info_parts infoT
  have hza : sizes items ≤ 1000000 := by rw [sizes_append] at hz; omega
  obtain ⟨its, hm, hsub, hf⟩ := fresh_row ic hil hza
  have hin : its.length = items.length := by rw [← hm, List.length_map]
  have hnl := length_le_sizes items
  have HF := Lib.hid hf
  have HM := Lib.hid hm
  have HSUB := Lib.hid hsub
  have HL := Lib.hid hl
  have HS := Lib.hid hs
  have HZ := Lib.hid hz
  have HIL := Lib.hid hil
  have HN : Hid (items.length ≤ 1000000) := Lib.hid (by omega)
  have hin2 := Lib.hid hin
  have hw0 : Quad w.heap.size (.int .i64 t.k) (.int .i64 t.n) (.string t.s) (.slice ao t.l.length cap) ((w.alloc (.cells #[.int .i64 t.k, .int .i64 t.n, .string t.s, .slice ao t.l.length cap] 24)).alloc (.cells #[.int .i64 0, .int .i64 0, .string ⟨#[]⟩, .slice none 0 0] 24)) := blk_later (heap_alloc_new w _) (Only.alloc _ _ _)
  have hq0 : Quad (w.heap.size + 1) (.int .i64 0) (.int .i64 0) (.string ⟨#[]⟩) (.slice none 0 0) ((w.alloc (.cells #[.int .i64 t.k, .int .i64 t.n, .string t.s, .slice ao t.l.length cap] 24)).alloc (.cells #[.int .i64 0, .int .i64 0, .string ⟨#[]⟩, .slice none 0 0] 24)) := by
    have := heap_alloc_new (w.alloc (.cells #[.int .i64 t.k, .int .i64 t.n, .string t.s, .slice ao t.l.length cap] 24)) (.cells #[.int .i64 0, .int .i64 0, .string ⟨#[]⟩, .slice none 0 0] 24)
    unfold Quad
    simpa using this
  have ho0 : Only (fun _ => False) w ((w.alloc (.cells #[.int .i64 t.k, .int .i64 t.n, .string t.s, .slice ao t.l.length cap] 24)).alloc (.cells #[.int .i64 0, .int .i64 0, .string ⟨#[]⟩, .slice none 0 0] 24)) := (Only.alloc _ _ _).same (Only.alloc _ _ _)
  have hz0' : ((w.alloc (.cells #[.int .i64 t.k, .int .i64 t.n, .string t.s, .slice ao t.l.length cap] 24)).alloc (.cells #[.int .i64 0, .int .i64 0, .string ⟨#[]⟩, .slice none 0 0] 24)).heap.size = w.heap.size + 2 := by simp
  show Calls Try.prog 21 #[.slice io items.length ic, .agg #[.int .i64 t.k, .int .i64 t.n, .string t.s, .slice ao t.l.length cap]] w _
  clear hil hl hs hz hf hm hsub hza
  refine (callsIn_wide (n := 5)).1 (callsIn_of_wp_marks Try.func21 rfl trivial (wpIn_wide.2 ?_))
  simp only [Try.ntmps21, List.size_toArray, List.length_cons, List.length_nil, Nat.reduceAdd, Nat.reduceSub, Array.replicate_succ, Array.replicate_zero, List.push_toArray, List.append_toArray, List.nil_append, List.cons_append]
  go_wp2_with fail
  generalize ((w.alloc (.cells #[.int .i64 t.k, .int .i64 t.n, .string t.s, .slice ao t.l.length cap] 24)).alloc (.cells #[.int .i64 0, .int .i64 0, .string ⟨#[]⟩, .slice none 0 0] 24)) = w1 at *
  have HQ := Lib.hid hq0
  have HW := Lib.hid hw0
  have HO := Lib.hid ho0
  have HD0 : Hid (Only (fun _ => False) w1 w1.drew) := Lib.hid (Only.drew _ _)
  have HB := Lib.hid hz0'
  clear hq0 hw0 ho0 hz0'
  have HK : Hid (∀ w', Only (fun _ => False) w1 w' → w'.cell? ⟨w.heap.size, 0, none⟩ = some (.int .i64 t.k) ∧ w'.cell? ⟨w.heap.size, 1, none⟩ = some (.int .i64 t.n) ∧ w'.cell? ⟨w.heap.size, 2, none⟩ = some (.string t.s) ∧ w'.cell? ⟨w.heap.size, 3, none⟩ = some (.slice ao t.l.length cap)) := Lib.hid (fun w' ho => (HW.out.only ho (fun e => e)).cells)
  obtain ⟨d0, d1, d2, d3⟩ := HK.out _ HD0.out
  have HA : Hid (∀ (w3 w4 w5 : World) (B gg cap' : Nat) (fo : Option Addr) (fc : Nat), Only (fun _ => False) w1 w3 → w1.heap.size ≤ B → ItsP B fo fc its w3 → Only (fun _ => False) w3 w4 → w4.grownBy w5 (Value.slice fo items.length fc).ownBlock → w5.ownsRow B 24 4 (.slice (some ⟨gg, 0, none⟩) (items.length + 1) cap') (items.length + 1) (its.flatMap encIt ++ [.int .i64 t.k, .int .i64 t.n, .string t.s, .slice ao t.l.length cap]) → Only (fun _ => False) w1 w5 ∧ Lies w5 (some ⟨gg, 0, none⟩) (items ++ [t])) := Lib.hid (fun w3 w4 w5 B gg cap' fo fc h3 hB hr h4 hg hown => by
    have o5 : Only (fun _ => False) w1 w5 := (h3.same h4).trans (Only.grown hg) (fun k hk e => by
      cases fo with
      | none => simp [Value.ownBlock] at e
      | some f =>
        have hh := hr.head f rfl
        have e2 : k = f.block := Option.some.inj (show some k = some f.block from e)
        have := hh.2.1
        omega)
    exact ⟨o5, all_row HM.out HSUB.out HL.out HS.out (HO.out.same o5) hown⟩)
  have HINL : Hid (∀ (B : Nat) (fo : Option Addr) (fc : Nat) (w3 : World), ItsP B fo fc its w3 → w3.ownsRow B 24 4 (.slice fo items.length fc) items.length (its.flatMap encIt)) := Lib.hid (fun B fo fc w3 h => by
    have h2 : w3.ownsRow B 24 4 (.slice fo its.length fc) its.length (its.flatMap encIt) := h
    rwa [hin2.out] at h2)
  go_region_held3 (fun w' => w'.cell? ⟨w.heap.size, 0, none⟩ = some (.int .i64 t.k) ∧ w'.cell? ⟨w.heap.size, 1, none⟩ = some (.int .i64 t.n) ∧ w'.cell? ⟨w.heap.size, 2, none⟩ = some (.string t.s) ∧ w'.cell? ⟨w.heap.size, 3, none⟩ = some (.slice ao t.l.length cap)) (first | exact HK.out _ HO3.out | exact HK.out _ (HO3.out.same (Only.alloc _ _ _)) | exact HK.out _ HD0.out | exact HK.out _ (HD0.out.same (Only.alloc _ _ _)) | exact HK.out _ ((Only.alloc _ _ _).same (Only.drew _ _)) | exact HK.out _ HO5.out | go_keep) (first
    | (go_at_call 47; refine (HF.out w1.drew (HO.out.same HD0.out)).mono ?_; rintro e w3 ⟨fo, fcf, rfl, hrow, _, ho3⟩; have HROW := Lib.hid hrow; have HO3 : Hid (Only (fun _ => False) w1 w3) := Lib.hid (HD0.out.same ho3); clear hrow ho3)
    | (go_at_call 47; refine (HF.out _ (by first | exact (HO.out.same HD0.out).same (Only.alloc _ _ _) | exact (HO.out.same (Only.alloc _ _ _)).same (Only.drew _ _))).mono ?_; rintro e w3 ⟨fo, fcf, rfl, hrow, _, ho3⟩; have HNEW : Hid (w3.heap[w1.heap.size]? = some (.cells #[.int .i64 t.k, .int .i64 t.n, .string t.s, .slice ao t.l.length cap] 24 (0, 0))) := Lib.hid (blk_later (by first | exact heap_alloc_new _ _ | exact heap_alloc_new w1 _) ho3); have HROW := Lib.hid hrow; have HO3 : Hid (Only (fun _ => False) w1 w3) := Lib.hid (by first | exact (HD0.out.same (Only.alloc _ _ _)).same ho3 | exact ((Only.alloc _ _ _).same (Only.drew _ _)).same ho3); clear hrow ho3)
    | (refine step_append_lies _ (by rfl) _ _ _ (by rfl) w1.drew.heap.size 24 i0 _ 4 56 Try.underlying22 hi hz0 hz1 hz2 rfl (by omega) (.slice fo items.length fcf) items.length (its.flatMap encIt) (by rfl) ((HINL.out _ _ _ _ HROW.out).alloc _)
         ⟨w3.heap.size, 0, none⟩ 1 1 [.int .i64 t.k, .int .i64 t.n, .string t.s, .slice ao t.l.length cap] (by rfl) (by rfl) (World.news_of_block (cs := #[.int .i64 t.k, .int .i64 t.n, .string t.s, .slice ao t.l.length cap]) (t := 24) (fr := (0, 0)) (heap_alloc_new w3 _)) (by simp [Value.oneCell'])
         (by omega) (by have := HN.out; unfold maxLen; omega) (by have := HN.out; omega) (by have := HO3.out.size; simp; omega) (w3.heap.size + 1) (by simp) ?_
       intro gg cap' w5 hown5 hgrow hat hlt5; have HR := Lib.hid (HA.out w3 _ w5 _ gg cap' fo fcf HO3.out (by simp) HROW.out (Only.alloc _ _ _) hgrow hown5); have HO5 : Hid (Only (fun _ => False) w1 w5) := Lib.hid HR.out.1; clear hown5 hgrow hat hlt5)
    | (refine step_append_lies _ (by rfl) _ _ _ (by rfl) (w1.heap.size + 1) 24 i0 _ 4 56 Try.underlying22 hi hz0 hz1 hz2 rfl (by omega) (.slice fo items.length fcf) items.length (its.flatMap encIt) (by rfl) (HINL.out _ _ _ _ (by simpa using HROW.out))
         ⟨w1.heap.size, 0, none⟩ 1 1 [.int .i64 t.k, .int .i64 t.n, .string t.s, .slice ao t.l.length cap] (by rfl) (by rfl) (World.news_of_block (cs := #[.int .i64 t.k, .int .i64 t.n, .string t.s, .slice ao t.l.length cap]) (t := 24) (fr := (0, 0)) HNEW.out) (by simp [Value.oneCell'])
         (by omega) (by have := HN.out; unfold maxLen; omega) (by have := HN.out; omega) (by have := HO3.out.size; have := lt_of_block HNEW.out; omega) w3.heap.size rfl ?_
       intro gg cap' w5 hown5 hgrow hat hlt5; have HR := Lib.hid (HA.out w3 _ w5 _ gg cap' fo fcf HO3.out (by omega) (by simpa using HROW.out) (Only.refl _ _) hgrow hown5); have HO5 : Hid (Only (fun _ => False) w1 w5) := Lib.hid HR.out.1; clear hown5 hgrow hat hlt5))
  all_goals
    have HLA := Lib.hid HR.out.2
    have HQ5 := Lib.hid (HQ.out.only HO5.out (fun e => e))
    have HFIT : Hid (Calls Try.prog 45 #[.slice (some ⟨gg, 0, none⟩) (items.length + 1) cap'] w5 fun e w' => e = .returned (.bool true) ∧ Only (fun _ => False) w5 w') := Lib.hid (by
      have := fits_any (items ++ [t]) w5 (some ⟨gg, 0, none⟩) cap' HLA.out (by have := HN.out; simp; unfold maxLen; omega) HZ.out
      simpa using this)
    have HCOP : Hid (∀ w6, Only (fun _ => False) w5 w6 → Calls Try.prog 46 #[.slice (some ⟨gg, 0, none⟩) (items.length + 1) cap'] w6 fun e w' => ∃ g fc, e = .returned (.slice (some ⟨g, 0, none⟩) (items.length + 1) fc) ∧ Row (Since w6 w') w' (some ⟨g, 0, none⟩) (items ++ [t]) ∧ Only (fun _ => False) w6 w' ∧ items.length + 1 ≤ fc) := Lib.hid (fun w6 ho => by
      have := copied_cap (items ++ [t]) (by simp) w6 (some ⟨gg, 0, none⟩) cap' (HLA.out.later ho) HZ.out
      simpa using this)
    have HO5w := Lib.hid (HO.out.same HO5.out)
    have HB5 : Hid (w.heap.size + 2 ≤ w5.heap.size) := Lib.hid (by have := HO5.out.size; have := HB.out; omega)
    clear HK HF HA HINL HR HROW HO3 HO5 HD0 HQ HW
    go_wp2_with fail
    refine HFIT.out.mono ?_
    rintro e w6 ⟨rfl, ho6⟩
    have HO6 := Lib.hid ho6
    clear ho6 HFIT
    go_wp2_with fail
    refine (HCOP.out w6 HO6.out).mono ?_
    rintro e w7 ⟨g, fc, rfl, hrow7, ho7, hcap7⟩
    have hO7 := HO5w.out.same (HO6.out.same ho7)
    have hQ7 := HQ5.out.only (HO6.out.same ho7) (fun e => e)
    have hB7 : w.heap.size + 2 ≤ w6.heap.size := by have := HB5.out; have := HO6.out.size; omega
    obtain ⟨b, off, ro, rc, hbo, hbs, c0, c1, c2, c3, _, hsub7⟩ := hrow7.at (i := items.length) (x := t) (by simp)
    cases hbo
    have hROW7 := Lib.hid hrow7
    have hSUB7 := Lib.hid hsub7
    have HO7 := Lib.hid hO7
    have HQ7 := Lib.hid hQ7
    have HB7 := Lib.hid hB7
    have h67 := Lib.hid ho7.size
    clear hrow7 hsub7 hO7 hQ7 hB7 ho7 HCOP HO6 HO5w HQ5 HB5 HLA
    have hi0 : (0 : Int) ≤ (items.length : Int) := by omega
    have hi1 : (items.length : Int) < ((items.length + 1 : Nat) : Int) := by omega
    have hi2 : ((items.length : Int)).toNat = items.length := by omega
    have hi3 : items.length ≤ fc := by omega
    simp only [Nat.zero_add] at c0 c1 c2 c3
    go_wp2_with fail
    refine (backward_any _ _ _ _).mono ?_
    rintro e w9 ⟨rfl, rfl⟩
    go_wp2_with fail
    first
      | (obtain ⟨u12, hu12⟩ : ∃ u : Value, Value.slice (some ⟨w3.heap.size, 0, none⟩) 1 1 = u := ⟨_, rfl⟩
         rw [hu12]
         clear hu12)
      | (obtain ⟨u12, hu12⟩ : ∃ u : Value, Value.slice (some ⟨w1.heap.size, 0, none⟩) 1 1 = u := ⟨_, rfl⟩
         rw [hu12]
         clear hu12)
    have ho9 : Only (fun _ => False) w7 ((w7.alloc (.cells #[.int .i64 t.k, .int .i64 t.n, .string t.s, .slice ro t.l.length rc] 24)).alloc (.cells #[.slice (some ⟨g, 0, none⟩) items.length fc] 22)) := (Only.alloc _ _ _).same (Only.alloc _ _ _)
    have hq9 : Quad w7.heap.size (.int .i64 t.k) (.int .i64 t.n) (.string t.s) (.slice ro t.l.length rc) ((w7.alloc (.cells #[.int .i64 t.k, .int .i64 t.n, .string t.s, .slice ro t.l.length rc] 24)).alloc (.cells #[.slice (some ⟨g, 0, none⟩) items.length fc] 22)) := blk_later (heap_alloc_new w7 _) (Only.alloc _ _ _)
    have hb9 : ((w7.alloc (.cells #[.int .i64 t.k, .int .i64 t.n, .string t.s, .slice ro t.l.length rc] 24)).alloc (.cells #[.slice (some ⟨g, 0, none⟩) items.length fc] 22)).cell? ⟨w7.heap.size + 1, 0, none⟩ = some (.slice (some ⟨g, 0, none⟩) items.length fc) := by
      have := heap_alloc_new (w7.alloc (.cells #[.int .i64 t.k, .int .i64 t.n, .string t.s, .slice ro t.l.length rc] 24)) (.cells #[.slice (some ⟨g, 0, none⟩) items.length fc] 22)
      rw [show (w7.alloc (.cells #[.int .i64 t.k, .int .i64 t.n, .string t.s, .slice ro t.l.length rc] 24)).heap.size = w7.heap.size + 1 by simp] at this
      rw [cell_of_blk this]
      rfl
    have hs9 : ((w7.alloc (.cells #[.int .i64 t.k, .int .i64 t.n, .string t.s, .slice ro t.l.length rc] 24)).alloc (.cells #[.slice (some ⟨g, 0, none⟩) items.length fc] 22)).heap.size = w7.heap.size + 2 := by simp
    generalize ((w7.alloc (.cells #[.int .i64 t.k, .int .i64 t.n, .string t.s, .slice ro t.l.length rc] 24)).alloc (.cells #[.slice (some ⟨g, 0, none⟩) items.length fc] 22)) = w9 at *
    obtain ⟨B6, hB6⟩ : ∃ B6, w7.heap.size = B6 := ⟨_, rfl⟩
    rw [hB6] at hq9 hb9 hs9
    have h67' := h67.out
    have hB7' := HB7.out
    have hrow9 : Row (Cur w w9 B6) w9 (some ⟨g, 0, none⟩) (items ++ [t]) := (hROW7.out.only ho9 (fun q hq => hq.2) (fun _ _ e => e)).mono (fun q hq => ⟨by have := hq.1; omega, by have := hq.2; omega, by have := hq.2; omega⟩)
    have hgc : g < w9.heap.size ∧ g ≠ B6 := by
      obtain ⟨b', off', _, _, hbo', hbs', _⟩ := hrow9.at (i := items.length) (x := t) (by simp)
      cases hbo'
      exact ⟨hbs'.2.1, hbs'.2.2⟩
    obtain ⟨zs, hzm, hzs⟩ := els_of (S := fun k => k = B6 ∨ w9.heap.size ≤ k) hrow9 hgc.1 (by omega)
    have hseq : SeqStopsK Fence.wide (5 - 1) Try.prog 68 #[.pointer (some ⟨B6 + 1, 0, none⟩)] El.enc (Only (fun k => k = B6 ∨ w9.heap.size ≤ k)) (fun ys => ys = zs) (fun pre => pre <+: zs) items.length w9 :=
      fun l J Jx W hW _ _ hY h0 => backward1_in (5 - 1) (by omega) l (B6 + 1) g 0 items.length fc _ zs HN.out J Jx hY W ((hW.cell (p := ⟨B6 + 1, 0, none⟩) (by show B6 + 1 < _; omega)).trans hb9) ⟨by have := hW.size; omega, by omega⟩ (hzs.only (Only.of_below hW _)) h0
    have HST : Hid (BackI w w9 B6 t w9) := Lib.hid ⟨⟨ro, rc, hq9, (hSUB7.out.only ho9 (fun q hq => hq.2) (fun _ _ e => e)).mono (fun q hq => ⟨by have := hq.1; omega, by have := hq.2; omega, by have := hq.2; omega⟩)⟩, HS.out, Only.refl _ _⟩
    have HRES : Hid (Quad (w.heap.size + 1) (.int .i64 0) (.int .i64 0) (.string ⟨#[]⟩) (.slice none 0 0) w9) := Lib.hid (HQ7.out.only ho9 (fun e => e))
    have HO9 : Hid (Only (fun _ => False) w w9) := Lib.hid (HO7.out.same ho9)
    have HBB : Hid (w.heap.size + 2 ≤ B6 ∧ B6 < w9.heap.size) := Lib.hid ⟨by omega, by omega⟩
    have HZM := Lib.hid hzm
    rw [hB6]
    clear hzs hq9 hb9 hrow9 ho9 hROW7 hSUB7 HQ7 HO7 h67' hB7' hzm
    refine wpIn_wide.1 (wpIn_rangeFunc_ownH (F := Fence.wide) (n := 5) rfl (by omega) (gf := 68) (lb := #[.pointer (some ⟨B6 + 1, 0, none⟩)]) rfl trivial (enters_of Try.func68 (by kernel_rfl) rfl) hseq (fun h k => h.same k)
      (fun W l o o' hl _ _ _ => (Only.grown (grownBy_putObj' W l o')).mono (fun k _ e => by
        have e2 : k = l := Option.some.inj (show some k = some l from e)
        right; omega)) (Below.refl _ _) (fun _ => rfl)
      (fun (pre : List (El (Cur w w9 B6) w9)) W => BackI w w9 B6 (backCur t pre) W) (fun _ _ _ => False)
      (fun pre A B row h hg hr => h.kept hg hr) (fun _ _ _ _ _ h _ _ => h) HST.out
      (fun x a' W => ∃ Bx, w9.heap.size ≤ Bx ∧ Quad Bx (.int .i64 x.t.k) (.int .i64 x.t.n) (.string x.t.s) (.slice x.ao x.t.l.length x.cap) W ∧ a' = { tmps := #[.slice io items.length ic, .agg #[.int .i64 t.k, .int .i64 t.n, .string t.s, .slice ao t.l.length cap], undef, .pointer (some ⟨w.heap.size, 0, none⟩), .pointer (some ⟨w.heap.size + 1, 0, none⟩), .slice (some ⟨g, 0, none⟩) (items.length + 1) fc, .pointer (some ⟨B6, 0, none⟩), undef, .pointer (some ⟨Bx, 0, none⟩), .slice io items.length ic, .slice fo items.length fcf, .agg #[.int .i64 t.k, .int .i64 t.n, .string t.s, .slice ao t.l.length cap], u12, .slice (some ⟨gg, 0, none⟩) (items.length + 1) cap', .slice (some ⟨gg, 0, none⟩) (items.length + 1) cap', .bool true, .bool false, undef, .slice (some ⟨gg, 0, none⟩) (items.length + 1) cap', .slice (some ⟨g, 0, none⟩) (items.length + 1) fc, .slice (some ⟨g, 0, none⟩) (items.length + 1) fc, .slice io items.length ic, .int .i64 (items.length : Int), .pointer (some ⟨g, items.length * 4, none⟩), .agg #[.int .i64 t.k, .int .i64 t.n, .string t.s, .slice ro t.l.length rc], .slice (some ⟨g, 0, none⟩) (items.length + 1) fc, .slice io items.length ic, .int .i64 (items.length : Int), .slice (some ⟨g, 0, none⟩) items.length fc, .func (.func 68) #[] #[.pointer (some ⟨B6 + 1, 0, none⟩)], .int .i64 (x.i : Int), .agg #[.int .i64 x.t.k, .int .i64 x.t.n, .string x.t.s, .slice x.ao x.t.l.length x.cap], undef, undef, undef, undef, undef], defers := [] })
      (fun x a' _ A B row h hg hr => by
        obtain ⟨Bx, h1, h2, h3⟩ := h
        exact ⟨Bx, h1, h2.kept hg (fun r e => (hr r e).2), h3⟩) ?assign ?body ?done ?stop)
    case stop => intro D c pre W _ _ h _; exact h.elim
    case assign =>
      intro l pre x W K hI hK
      have HI := Lib.hid hI
      have HKK := Lib.hid hK
      clear hI hK
      gi_wp2
      refine HKK.out _ _ ((KeepsOthers.alloc _ _).from _) (Only.alloc _ _ _) (HI.out.only (Only.alloc _ _ _)) ⟨W.heap.size, HI.out.own.size, heap_alloc_new W _, rfl⟩
    case body =>
      rintro l pre x a' W hl ⟨r, hr⟩ hI ⟨Bx, hBx, hqx, rfl⟩ hlt
      obtain ⟨uo, uc, hq6, hrow6⟩ := hI.box
      have HSTEP := Lib.hid (hI.step hq6 hrow6 x ⟨by have := HBB.out; omega, HBB.out.2⟩)
      rw [← backCur_snoc] at HSTEP
      have HX : Hid (Quad Bx (.int .i64 x.t.k) (.int .i64 x.t.n) (.string x.t.s) (.slice x.ao x.t.l.length x.cap) W) := Lib.hid hqx
      generalize hcu : backCur t pre = cur at *
      clear hcu
      obtain ⟨x0, x1, x2, x3⟩ := hqx.cells
      obtain ⟨y0, y1, y2, y3⟩ := hq6.cells
      obtain ⟨f0, f1, f2, f3⟩ := hq6.free
      have hkf : KeepsFrom w9.heap.size W (quadW (W.alloc (.cells #[.int .i64 x.t.k, .int .i64 x.t.n, .string x.t.s, .slice x.ao x.t.l.length x.cap, .int .i64 cur.k, .int .i64 cur.n, .string cur.s, .slice uo cur.l.length uc] 24)) B6 (.int .i64 4) (.int .i64 0) (.string dot) (.slice (some ⟨W.heap.size, 0, none⟩) 2 2)) := KeepsOthers.from ((((KeepsOthers.alloc _ _).trans (KeepsOthers.setCell _ _ _)).trans (KeepsOthers.setCell _ _ _)).trans (KeepsOthers.setCell _ _ _) |>.trans (KeepsOthers.setCell _ _ _)) _
      have HKF := Lib.hid hkf
      obtain ⟨z0, z1, z2, z3⟩ := (hq6.only (Only.alloc (fun _ => False) W (.cells #[.int .i64 x.t.k, .int .i64 x.t.n, .string x.t.s, .slice x.ao x.t.l.length x.cap, .int .i64 cur.k, .int .i64 cur.n, .string cur.s, .slice uo cur.l.length uc] 24)) (fun e => e)).cells
      obtain ⟨q0, q1, q2, q3⟩ := (hq6.only (Only.alloc (fun _ => False) W (.cells #[.int .i64 x.t.k, .int .i64 x.t.n, .string x.t.s, .slice x.ao x.t.l.length x.cap, .int .i64 cur.k, .int .i64 cur.n, .string cur.s, .slice uo cur.l.length uc] 24)) (fun e => e)).free
      clear hkf hqx hq6 hrow6 hI
      gi_wp2
      exact ⟨HKF.out, HSTEP.out.2.mono (fun _ _ e => .inl e), HSTEP.out.1⟩
    case done =>
      rintro D ys W hD rfl hI hK
      have hcu0 : backCur t ys = listF items t := by unfold backCur; rw [HZM.out, List.reverse_reverse]
      rw [hcu0] at hI
      have HI := Lib.hid hI
      obtain ⟨uo, uc, hq6, hrow6⟩ := hI.box
      have hres := HRES.out.only hI.own (fun e => by have := HBB.out; omega)
      obtain ⟨y0, y1, y2, y3⟩ := hq6.cells
      obtain ⟨e0, e1, e2, e3⟩ := hres.cells
      obtain ⟨f0, f1, f2, f3⟩ := hres.free
      have HSET := Lib.hid (hres.set (.int .i64 (listF items t).k) (.int .i64 (listF items t).n) (.string (listF items t).s) (.slice uo (listF items t).l.length uc))
      have HROW := Lib.hid hrow6
      have HKD := Lib.hid hK
      clear hI hq6 hrow6 hres hK
      generalize hcu : listF items t = u at *
      have HU := Lib.hid hcu
      clear hcu
      go_wp2_with fail
      have hD2 := HBB.out
      have hK2 := (HSET.out.2.block D (lt_of_block HKD.out) (fun e => by omega)).trans HKD.out
      have op : Only (fun k => k = D) (quadW W (w.heap.size + 1) (.int .i64 u.k) (.int .i64 u.n) (.string u.s) (.slice uo u.l.length uc)) ((quadW W (w.heap.size + 1) (.int .i64 u.k) (.int .i64 u.n) (.string u.s) (.slice uo u.l.length uc)).putObj D (.deferred none)) := (Only.grown (grownBy_putObj' _ D (.deferred none))).mono (fun k _ e => Option.some.inj (show some k = some D from e))
      have hqe := HSET.out.1.only op (fun e => by omega)
      have hc := hqe.cells
      refine ⟨by simp, .inl ⟨_, _, rfl, run_takeDeferred hK2, ?_⟩⟩
      have o1 : Only (fun k => k = B6 ∨ k = w.heap.size + 1 ∨ k = D) w9 ((quadW W (w.heap.size + 1) (.int .i64 u.k) (.int .i64 u.n) (.string u.s) (.slice uo u.l.length uc)).putObj D (.deferred none)) := ((HI.out.own.mono (fun _ _ e => .inl e)).trans (HSET.out.2.mono (fun _ _ e => .inr (.inl e))) (fun _ _ e => e)).trans (op.mono (fun _ _ e => .inr (.inr e))) (fun _ _ e => e)
      refine ⟨tv u uo uc, results_term rfl _ _ (w.heap.size + 1) _ _ _ _ rfl hc.1 hc.2.1 hc.2.2.1 hc.2.2.2, ?_⟩
      rw [HU.out]
      refine ⟨uo, uc, rfl, ?_, HI.out.sane, Only.cut HO9.out o1 (fun k e => by omega)⟩
      have hr1 := HROW.out.only HSET.out.2 (fun q hq => hq.2.1) (fun q hq e => by have := hq.1; omega)
      have hs1 := HSET.out.2.size
      have hs2 := op.size
      exact (hr1.kept (grownBy_putObj' _ D (.deferred none)) (fun r e => by cases e; exact ⟨_, hK2, rfl⟩)).mono (fun q hq => ⟨by have := hq.1; omega, Nat.lt_of_lt_of_le (Nat.lt_of_lt_of_le hq.2.1 hs1) hs2⟩)
end Go.Proofs.Ytdpbbcjlbnangaa.terms
