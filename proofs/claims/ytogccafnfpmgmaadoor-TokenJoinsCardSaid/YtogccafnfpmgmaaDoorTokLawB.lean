/- Tokens: the law of joins. -/
import Derived.Test.YtogccafnfpmgmaaDoorTokT
namespace Go.Proofs.YtogccafnfpmgmaaDoor.toks
open Go.RowKit Go.Proofs.YtogccafnfpmgmaaDoor.own
def AllSh (e : Ending) : Prop := ∃ (v : Value) (n er : Int), e = .returned (.tuple #[v, .int .i64 n, .int .i64 er])
theorem all_sh (ao : Option Addr) (cap : Nat) (bs : List UInt8) (w : World) (hb : Byts ao bs w) (hl : bs.length ≤ 65536) (hc : bs.length ≤ cap) :
    Calls Tryd.prog 8 #[.slice ao bs.length cap] w fun e w' => AllSh e ∧ Only (fun _ => False) w w' := by
  refine (all_any ao cap bs w hb hl hc).mono ?_
  rintro e w' ⟨h, ho⟩
  refine ⟨?_, ho⟩
  cases hf : allF bs with
  | ok l n => rw [hf] at h; obtain ⟨ro, rc, rfl, _⟩ := h; exact ⟨_, _, _, rfl⟩
  | no n er => rw [hf] at h; obtain ⟨rfl, _⟩ := h; exact ⟨_, _, _, rfl⟩
theorem rowAt_new {B : Nat} {ao : Option Addr} {cap : Nat} {xs : List UInt8} {w w' : World} (h : RowOf encU 1 5 B ao cap xs w) (ho : Only (RowAt ao) w w') : Only (fun q => B ≤ q) w w' := ho.mono (fun q _ e => by
  obtain ⟨g, hg, rfl⟩ := e
  exact (h.head g hg).2.1)
theorem row_empty (w : World) : RowOf encU 1 5 w.heap.size (some ⟨w.heap.size, 0, none⟩) 0 [] (w.alloc (.cells #[] 5)) := by
  have h := World.ownsRow_lit (base := w.heap.size) (e := 5) (size := 1) w #[] 0 (Nat.le_refl _) (by unfold maxLen; omega) rfl
  unfold RowOf
  simpa using h
set_option maxRecDepth 100000 in
set_option maxHeartbeats 8000000 in
theorem law_joins (ao bo : Option Addr) (ac bc : Nat) (a b : List UInt8) (w : World) (ha : ArgB ao ac a w) (hb : ArgB bo bc b w) (hT : Tabled w) :
    Calls Tryd.prog 6 #[.slice ao a.length ac, .slice bo b.length bc] w fun e w' => e = .returned (.bool true) ∧ Below w.heap.size w w' := by
  obtain ⟨i0, hinf, hz0, hz1, hz2⟩ := info_parts infoU
  have HA := Lib.hid ha
  have HB := Lib.hid hb
  have HLV : Hid (∀ W, Only (fun _ => False) w W → Calls Tryd.prog 7 #[] W fun e w' => e = .returned (.bool true) ∧ Only (fun _ => False) W w') := Lib.hid (fun W ho => lives_any W (hT.later ho))
  clear ha hb hT
  by_cases hbig : (2000 : Int) < (a.length : Int)
  · go_enter Tryd.func6, Tryd.ntmps6
    go_wp2_with fail
    refine (HLV.out _ (Only.refl _ _)).mono ?_
    rintro e w1 ⟨rfl, ho⟩
    go_wp2_with fail
    go_ret
    exact ⟨rfl, ho.to_below⟩
  by_cases hbig2 : (2000 : Int) < (b.length : Int)
  · go_enter Tryd.func6, Tryd.ntmps6
    go_wp2_with fail
    refine (HLV.out _ (Only.refl _ _)).mono ?_
    rintro e w1 ⟨rfl, ho⟩
    go_wp2_with fail
    go_ret
    exact ⟨rfl, ho.to_below⟩
  have hla : a.length ≤ 2000 := by omega
  have hlb : b.length ≤ 2000 := by omega
  have HA1 := Lib.hid (all_any ao ac a w HA.out.byts (by omega) HA.out.fits)
  have HB1 : Hid (∀ W, Only (fun _ => False) w W → Calls Tryd.prog 8 #[.slice bo b.length bc] W fun e w' => AllIs W.heap.size e w' (allF b) ∧ Only (fun _ => False) W w') := Lib.hid (fun W ho => all_any bo bc b W (HB.out.byts.later ho) (by omega) HB.out.fits)
  have HB0 : Hid (∀ W, Only (fun _ => False) w W → Calls Tryd.prog 8 #[.slice bo b.length bc] W fun e w' => AllSh e ∧ Only (fun _ => False) W w') := Lib.hid (fun W ho => all_sh bo bc b W (HB.out.byts.later ho) (by omega) HB.out.fits)
  cases hfa : allF a with
  | no na ea =>
    rw [hfa] at HA1
    clear hfa HB1
    go_enter Tryd.func6, Tryd.ntmps6
    go_wp2_with fail
    refine HA1.out.mono ?_
    rintro e w1 ⟨⟨rfl, hea⟩, ho1⟩
    have HO1 := Lib.hid ho1
    have hea1 : (ea != 0) = true := by rw [bne_iff_ne]; exact hea
    have hea2 : (ea == 0) = false := by rw [beq_eq_false_iff_ne]; exact hea
    clear ho1 HA1 hea
    go_wp2_with fail
    refine (HB0.out w1 HO1.out).mono ?_
    rintro e w2 ⟨⟨v2, n2, e2, rfl⟩, ho2⟩
    have HO2 : Hid (Only (fun _ => False) w w2) := Lib.hid (HO1.out.same ho2)
    clear ho2 HB0 HO1
    go_wp2_with (first | (at_builtin; apply Classical.byContradiction; intro hstop) | fail)
    apply hstop
    clear hstop
    refine wp_append_bytes rfl (.tmp 38) (.tmp 39) rfl w2.heap.size (some ⟨w2.heap.size, 0, none⟩) ao 0 ac [] a rfl (row_empty w2) rfl (HA.out.byts.later (HO2.out.same (Only.alloc _ _ _))) HA.out.nul HA.out.spot (by simp; omega) (by simp) ?_
    intro o3 c3 w3 hr3 ho3 hn3
    have HO3 : Hid (Only (fun q => w2.heap.size ≤ q) w2 w3) := Lib.hid ((Only.alloc _ _ _).same (rowAt_new (row_empty w2) ho3))
    rw [List.nil_append] at hr3 ⊢
    have HR3 := Lib.hid hr3
    clear hr3 ho3 hn3
    go_wp2_with (first | (at_builtin; apply Classical.byContradiction; intro hstop) | fail)
    apply hstop
    clear hstop
    refine wp_append_one lieU rfl (.tmp 40) (.tmp 41) 22 rfl w2.heap.size 5 i0 _ 1 Tryd.underlying22 hinf hz0 hz1 hz2 rfl (by omega) w3 o3 c3 a 10 [.int .u8 (iv 10)] rfl rfl HR3.out rfl (by omega) HO3.out.size ?_
    intro o4 c4 w4 hr4 ho4 hn4
    have HO4 : Hid (Only (fun q => w2.heap.size ≤ q) w2 w4) := Lib.hid (HO3.out.same (rowAt_new HR3.out ho4))
    have ha1 : (a ++ [(10 : UInt8)]).length = a.length + 1 := by simp
    have HAB : Hid (∀ l, a ++ [(10 : UInt8)] ++ l = a ++ 10 :: l) := Lib.hid (fun l => by simp)
    have HR4 := Lib.hid hr4
    clear hr4 ho4 hn4 HR3 HO3
    generalize a ++ [(10 : UInt8)] = a1 at *
    rw [ha1]
    have HA1L := Lib.hid ha1
    clear ha1
    go_wp2_with (first | (at_builtin; apply Classical.byContradiction; intro hstop) | fail)
    apply hstop
    clear hstop
    refine wp_append_bytes rfl (.tmp 42) (.tmp 43) rfl w2.heap.size o4 bo c4 bc a1 b (by rw [HA1L.out]; rfl) HR4.out rfl (HB.out.byts.later (HO2.out.same (Only.cut (Only.refl _ _) HO4.out (fun q e => e)))) HB.out.nul HB.out.spot (by have := HA1L.out; omega) HO4.out.size ?_
    intro o5 c5 w5 hr5 ho5 hn5
    have HO5 : Hid (Only (fun _ => False) w2 w5) := Lib.hid (Only.cut (Only.refl _ _) (HO4.out.same (rowAt_new HR4.out ho5)) (fun q e => e))
    rw [HAB.out] at hr5 ⊢
    have hab : (a ++ (10 : UInt8) :: b).length = a.length + 1 + b.length := by simp; omega
    have HR5 := Lib.hid hr5
    clear hr5 ho5 hn5 HR4 HO4 HA1L HAB
    generalize a ++ (10 : UInt8) :: b = ab at *
    have HAL := Lib.hid hab
    have hb5 := HR5.out.cap_ge.1
    have hab2 := hab
    rw [hab]
    clear hab
    have HZ : Hid (Calls Tryd.prog 8 #[.slice o5 (a.length + 1 + b.length) c5] w5 fun e w' => AllSh e ∧ Only (fun _ => False) w5 w') := Lib.hid (by
      have h := all_sh o5 c5 ab w5 (RowOf.byts HR5.out) (by omega) hb5
      rwa [hab2] at h)
    clear hab2 hb5
    go_wp2_with fail
    refine HZ.out.mono ?_
    rintro e w6 ⟨⟨v6, n6, e6, rfl⟩, ho6⟩
    have HO6 : Hid (Only (fun _ => False) w w6) := Lib.hid ((HO2.out.same HO5.out).same ho6)
    clear ho6 HZ HR5 HO5
    go_wp2_with fail
    refine (HLV.out w6 HO6.out).mono ?_
    rintro e w7 ⟨rfl, ho7⟩
    have HO7 : Hid (Only (fun _ => False) w w7) := Lib.hid (HO6.out.same ho7)
    clear ho7
    go_wp2_with fail
    refine (HLV.out w7 HO7.out).mono ?_
    rintro e w8 ⟨rfl, ho8⟩
    go_wp2_with fail
    go_ret
    exact ⟨rfl, (HO7.out.same ho8).to_below⟩
  | ok x n =>
    rw [hfa] at HA1
    cases hfb : allF b with
    | no nb eb =>
      rw [hfb] at HB1
      clear hfa hfb HB0
      go_enter Tryd.func6, Tryd.ntmps6
      go_wp2_with fail
      refine HA1.out.mono ?_
      rintro e w1 ⟨⟨xo, xc, rfl, hrx, _⟩, ho1⟩
      have HO1 := Lib.hid ho1
      clear hrx ho1 HA1
      go_wp2_with fail
      refine (HB1.out w1 HO1.out).mono ?_
      rintro e w2 ⟨⟨rfl, heb⟩, ho2⟩
      have HO2 : Hid (Only (fun _ => False) w w2) := Lib.hid (HO1.out.same ho2)
      have heb1 : (eb != 0) = true := by rw [bne_iff_ne]; exact heb
      have heb2 : (eb == 0) = false := by rw [beq_eq_false_iff_ne]; exact heb
      clear ho2 HB1 HO1 heb
      go_wp2_with (first | (at_builtin; apply Classical.byContradiction; intro hstop) | fail)
      apply hstop
      clear hstop
      refine wp_append_bytes rfl (.tmp 38) (.tmp 39) rfl w2.heap.size (some ⟨w2.heap.size, 0, none⟩) ao 0 ac [] a rfl (row_empty w2) rfl (HA.out.byts.later (HO2.out.same (Only.alloc _ _ _))) HA.out.nul HA.out.spot (by simp; omega) (by simp) ?_
      intro o3 c3 w3 hr3 ho3 hn3
      have HO3 : Hid (Only (fun q => w2.heap.size ≤ q) w2 w3) := Lib.hid ((Only.alloc _ _ _).same (rowAt_new (row_empty w2) ho3))
      rw [List.nil_append] at hr3 ⊢
      have HR3 := Lib.hid hr3
      clear hr3 ho3 hn3
      go_wp2_with (first | (at_builtin; apply Classical.byContradiction; intro hstop) | fail)
      apply hstop
      clear hstop
      refine wp_append_one lieU rfl (.tmp 40) (.tmp 41) 22 rfl w2.heap.size 5 i0 _ 1 Tryd.underlying22 hinf hz0 hz1 hz2 rfl (by omega) w3 o3 c3 a 10 [.int .u8 (iv 10)] rfl rfl HR3.out rfl (by omega) HO3.out.size ?_
      intro o4 c4 w4 hr4 ho4 hn4
      have HO4 : Hid (Only (fun q => w2.heap.size ≤ q) w2 w4) := Lib.hid (HO3.out.same (rowAt_new HR3.out ho4))
      have ha1 : (a ++ [(10 : UInt8)]).length = a.length + 1 := by simp
      have HAB : Hid (∀ l, a ++ [(10 : UInt8)] ++ l = a ++ 10 :: l) := Lib.hid (fun l => by simp)
      have HR4 := Lib.hid hr4
      clear hr4 ho4 hn4 HR3 HO3
      generalize a ++ [(10 : UInt8)] = a1 at *
      rw [ha1]
      have HA1L := Lib.hid ha1
      clear ha1
      go_wp2_with (first | (at_builtin; apply Classical.byContradiction; intro hstop) | fail)
      apply hstop
      clear hstop
      refine wp_append_bytes rfl (.tmp 42) (.tmp 43) rfl w2.heap.size o4 bo c4 bc a1 b (by rw [HA1L.out]; rfl) HR4.out rfl (HB.out.byts.later (HO2.out.same (Only.cut (Only.refl _ _) HO4.out (fun q e => e)))) HB.out.nul HB.out.spot (by have := HA1L.out; omega) HO4.out.size ?_
      intro o5 c5 w5 hr5 ho5 hn5
      have HO5 : Hid (Only (fun _ => False) w2 w5) := Lib.hid (Only.cut (Only.refl _ _) (HO4.out.same (rowAt_new HR4.out ho5)) (fun q e => e))
      rw [HAB.out] at hr5 ⊢
      have hab : (a ++ (10 : UInt8) :: b).length = a.length + 1 + b.length := by simp; omega
      have HR5 := Lib.hid hr5
      clear hr5 ho5 hn5 HR4 HO4 HA1L HAB
      generalize a ++ (10 : UInt8) :: b = ab at *
      have HAL := Lib.hid hab
      have hb5 := HR5.out.cap_ge.1
      have hab2 := hab
      rw [hab]
      clear hab
      have HZ : Hid (Calls Tryd.prog 8 #[.slice o5 (a.length + 1 + b.length) c5] w5 fun e w' => AllSh e ∧ Only (fun _ => False) w5 w') := Lib.hid (by
        have h := all_sh o5 c5 ab w5 (RowOf.byts HR5.out) (by omega) hb5
        rwa [hab2] at h)
      clear hab2 hb5
      go_wp2_with fail
      refine HZ.out.mono ?_
      rintro e w6 ⟨⟨v6, n6, e6, rfl⟩, ho6⟩
      have HO6 : Hid (Only (fun _ => False) w w6) := Lib.hid ((HO2.out.same HO5.out).same ho6)
      clear ho6 HZ HR5 HO5
      go_wp2_with fail
      refine (HLV.out w6 HO6.out).mono ?_
      rintro e w7 ⟨rfl, ho7⟩
      have HO7 : Hid (Only (fun _ => False) w w7) := Lib.hid (HO6.out.same ho7)
      clear ho7
      go_wp2_with fail
      refine (HLV.out w7 HO7.out).mono ?_
      rintro e w8 ⟨rfl, ho8⟩
      go_wp2_with fail
      go_ret
      exact ⟨rfl, (HO7.out.same ho8).to_below⟩
    | ok y m =>
      rw [hfb] at HB1
      obtain ⟨hj1, rfl⟩ := all_join hfa hfb
      have hbx := allF_bound a
      rw [hfa] at hbx
      have hby := allF_bound b
      rw [hfb] at hby
      have HBT := Lib.hid hby.2.1
      have hm : m ≤ b.length := hby.1
      have HJ1 := Lib.hid hj1
      clear hfa hfb HB0 hbx hby hj1
      go_enter Tryd.func6, Tryd.ntmps6
      go_wp2_with fail
      refine HA1.out.mono ?_
      rintro e w1 ⟨⟨xo, xc, rfl, hrx, hxl⟩, ho1⟩
      have HX1 := Lib.hid hrx
      have HO1 := Lib.hid ho1
      clear hrx ho1 HA1
      go_wp2_with fail
      refine (HB1.out w1 HO1.out).mono ?_
      rintro e w2 ⟨⟨yo, yc, rfl, hry, hyl⟩, ho2⟩
      have HX2 := Lib.hid (HX1.out.only ho2 (fun _ _ e => e))
      have HY2 := Lib.hid hry
      have HO2 : Hid (Only (fun _ => False) w w2) := Lib.hid (HO1.out.same ho2)
      clear ho2 HB1 HO1 HX1 hry
      go_wp2_with (first | (at_builtin; apply Classical.byContradiction; intro hstop) | fail)
      apply hstop
      clear hstop
      refine wp_append_bytes rfl (.tmp 38) (.tmp 39) rfl w2.heap.size (some ⟨w2.heap.size, 0, none⟩) ao 0 ac [] a rfl (row_empty w2) rfl (HA.out.byts.later (HO2.out.same (Only.alloc _ _ _))) HA.out.nul HA.out.spot (by simp; omega) (by simp) ?_
      intro o3 c3 w3 hr3 ho3 hn3
      have HO3 : Hid (Only (fun q => w2.heap.size ≤ q) w2 w3) := Lib.hid ((Only.alloc _ _ _).same (rowAt_new (row_empty w2) ho3))
      rw [List.nil_append] at hr3 ⊢
      have HR3 := Lib.hid hr3
      clear hr3 ho3 hn3
      go_wp2_with (first | (at_builtin; apply Classical.byContradiction; intro hstop) | fail)
      apply hstop
      clear hstop
      refine wp_append_one lieU rfl (.tmp 40) (.tmp 41) 22 rfl w2.heap.size 5 i0 _ 1 Tryd.underlying22 hinf hz0 hz1 hz2 rfl (by omega) w3 o3 c3 a 10 [.int .u8 (iv 10)] rfl rfl HR3.out rfl (by omega) HO3.out.size ?_
      intro o4 c4 w4 hr4 ho4 hn4
      have HO4 : Hid (Only (fun q => w2.heap.size ≤ q) w2 w4) := Lib.hid (HO3.out.same (rowAt_new HR3.out ho4))
      have ha1 : (a ++ [(10 : UInt8)]).length = a.length + 1 := by simp
      have HAB : Hid (∀ l, a ++ [(10 : UInt8)] ++ l = a ++ 10 :: l) := Lib.hid (fun l => by simp)
      have HR4 := Lib.hid hr4
      clear hr4 ho4 hn4 HR3 HO3
      generalize a ++ [(10 : UInt8)] = a1 at *
      rw [ha1]
      have HA1L := Lib.hid ha1
      clear ha1
      go_wp2_with (first | (at_builtin; apply Classical.byContradiction; intro hstop) | fail)
      apply hstop
      clear hstop
      refine wp_append_bytes rfl (.tmp 42) (.tmp 43) rfl w2.heap.size o4 bo c4 bc a1 b (by rw [HA1L.out]; rfl) HR4.out rfl (HB.out.byts.later (HO2.out.same (Only.cut (Only.refl _ _) HO4.out (fun q e => e)))) HB.out.nul HB.out.spot (by have := HA1L.out; omega) HO4.out.size ?_
      intro o5 c5 w5 hr5 ho5 hn5
      have HO5 : Hid (Only (fun _ => False) w2 w5) := Lib.hid (Only.cut (Only.refl _ _) (HO4.out.same (rowAt_new HR4.out ho5)) (fun q e => e))
      rw [HAB.out] at hr5 ⊢
      have hab : (a ++ (10 : UInt8) :: b).length = a.length + 1 + b.length := by simp; omega
      have HR5 := Lib.hid hr5
      clear hr5 ho5 hn5 HR4 HO4 HA1L HAB
      have hb5 := HR5.out.cap_ge.1
      have HZL : Hid ((x ++ layL (y.map (shT (a.length + 1)))).length = x.length + y.length) := Lib.hid (by rw [List.length_append, lay_len, List.length_map])
      have HZ1 : Hid (∀ (j : Nat) (t : Tk), j < x.length → x[j]? = some t → (x ++ layL (y.map (shT (a.length + 1))))[j]? = some t) := Lib.hid (fun j t hj h => by rw [List.getElem?_append_left hj]; exact h)
      have HZ2 : Hid (∀ (k : Nat) (t : Tk), y[k]? = some t → (x ++ layL (y.map (shT (a.length + 1))))[x.length + k]? = some (⟨t.kd, t.s, t.n, a.length + 1 + t.at_, t.lay || decide (k = 0)⟩ : Tk)) := Lib.hid (fun k t h => by rw [List.getElem?_append_right (by omega), Nat.add_sub_cancel_left]; exact lay_get h)
      generalize x ++ layL (y.map (shT (a.length + 1))) = z at *
      have hab2 := hab
      have HZ : Hid (Calls Tryd.prog 8 #[.slice o5 (a.length + 1 + b.length) c5] w5 fun e w' => AllIs w5.heap.size e w' (.ok z (a.length + 1 + m)) ∧ Only (fun _ => False) w5 w') := Lib.hid (by
        have h := all_any o5 c5 (a ++ 10 :: b) w5 (RowOf.byts HR5.out) (by omega) hb5
        rwa [hab2, HJ1.out] at h)
      rw [hab]
      clear hab hab2 hb5 HJ1
      go_wp2_with fail
      refine HZ.out.mono ?_
      rintro e w6 ⟨⟨zo, zc, rfl, hrz, hzl⟩, ho6⟩
      have HO6 : Hid (Only (fun _ => False) w w6) := Lib.hid ((HO2.out.same HO5.out).same ho6)
      have HX6 := Lib.hid (HX2.out.only (HO5.out.same ho6) (fun _ _ e => e))
      have HY6 := Lib.hid (HY2.out.only (HO5.out.same ho6) (fun _ _ e => e))
      have HZ6 := Lib.hid hrz
      clear ho6 HZ HR5 HO5 HX2 HY2 hrz
      have hzz := HZL.out
      rw [hzz]
      clear hzz
      have c1 : (a.length : Int) ≤ 2000 := by omega
      have c2 : (m : Int) ≤ 2000 := by omega
      have c3 : (x.length : Int) ≤ 65536 := by omega
      have c4 : (y.length : Int) ≤ 65536 := by omega
      go_wp2_with fail
      refine (HLV.out w6 HO6.out).mono ?_
      rintro e w7 ⟨rfl, ho7⟩
      have HO7 : Hid (Only (fun _ => False) w w7) := Lib.hid (HO6.out.same ho7)
      have HX7 := Lib.hid (HX6.out.only ho7 (fun _ _ e => e))
      have HY7 := Lib.hid (HY6.out.only ho7 (fun _ _ e => e))
      have HZ7 := Lib.hid (HZ6.out.only ho7 (fun _ _ e => e))
      clear ho7 HX6 HY6 HZ6 HO6 HLV
      go_wp2_with fail
      go_loopw [15] (fun c wr => ∃ j : Nat, c = .int .i64 j ∧ j ≤ x.length + y.length ∧ Hid (Only (fun _ => False) w7 wr)) (fun c _ => x.length + y.length - (intOf c).toNat)
      case atStart => exact ⟨0, rfl, Nat.zero_le _, Lib.hid (Only.refl _ _)⟩
      case round =>
        obtain ⟨j, rfl, hj, hI⟩ := hrel
        have p0 : (0 : Int) ≤ (j : Int) := by omega
        by_cases hjl : j < x.length
        · obtain ⟨t, ht⟩ : ∃ t, x[j]? = some t := ⟨_, List.getElem?_eq_getElem hjl⟩
          obtain ⟨g1, rfl, hg1, hz1, a0, a1, a2, a3, a4⟩ := RowOf.tk (HX7.out.only hI.out (fun _ _ e => e)) ht
          obtain ⟨g2, rfl, hg2, hz2, b0, b1, b2, b3, b4⟩ := RowOf.tk (HZ7.out.only hI.out (fun _ _ e => e)) (HZ1.out j t hjl ht)
          have hq : ∀ q, (binOp .neq 30 (.agg #[.int .i64 t.kd, .string (bstr t.s), .int .i64 t.n, .int .i64 t.at_, .bool t.lay]) (.agg #[.int .i64 t.kd, .string (bstr t.s), .int .i64 t.n, .int .i64 t.at_, .bool t.lay])).run Tryd.prog (wr.drewN q) = .ok (.bool false) (wr.drewN q) := fun q => neqT t (wr.drewN q)
          have p1 : (j : Int) < (x.length : Int) := by omega
          have p2 : (j : Int) < (x.length : Int) + (y.length : Int) := by omega
          have p3 : j < x.length + y.length := by omega
          clear ht
          go_wp2_with fail
          go_quiet (fail)
          go_wp2_with fail
          go_roundw
          case rel => exact ⟨j + 1, by go_num, by omega, Lib.hid (hI.out.same (Only.drewN _ _ _))⟩
          case measure => simp [intOf]; omega
        · by_cases hjz : j < x.length + y.length
          · obtain ⟨k, rfl⟩ : ∃ k, j = x.length + k := ⟨j - x.length, by omega⟩
            have hk : k < y.length := by omega
            obtain ⟨t, ht⟩ : ∃ t, y[k]? = some t := ⟨_, List.getElem?_eq_getElem hk⟩
            obtain ⟨g1, rfl, hg1, hz1, a0, a1, a2, a3, a4⟩ := RowOf.tk (HY7.out.only hI.out (fun _ _ e => e)) ht
            obtain ⟨g2, rfl, hg2, hz2, b0, b1, b2, b3, b4⟩ := RowOf.tk (HZ7.out.only hI.out (fun _ _ e => e)) (HZ2.out k t ht)
            have htb := HBT.out t (List.mem_of_getElem? ht)
            have r0 : (0 : Int) ≤ (k : Int) := by omega
            have r1 : (k : Int) < (y.length : Int) := by omega
            have r2 : ((x.length : Int) + (k : Int)) - (x.length : Int) = (k : Int) := by omega
            have r3 : ¬ ((x.length : Int) + (k : Int) < (x.length : Int)) := by omega
            have r4 : (x.length : Int) + (k : Int) < (x.length : Int) + (y.length : Int) := by omega
            have r5 : ((x.length : Int) + (k : Int)).toNat = x.length + k := by omega
            have r6 : (0 : Int) ≤ (x.length : Int) + (k : Int) := by omega
            clear ht
            obtain ⟨kd, ts, tn, tat, tlay⟩ := t
            have htb2 : tat < b.length := htb
            have s2 : (0 : Int) ≤ (tat : Int) := by omega
            have s3 : (tat : Int) ≤ 2000 := by omega
            have s4 : (a.length : Int) ≤ 2000 := by omega
            have b3' : wr.cell? ⟨g2, (x.length + k) * 5 + 3, none⟩ = some (.int .i64 ((tat : Int) + (a.length : Int) + 1)) := by
              rw [b3]
              show some (Value.int .i64 ((a.length + 1 + tat : Nat) : Int)) = _
              rw [show ((a.length + 1 + tat : Nat) : Int) = (tat : Int) + (a.length : Int) + 1 by omega]
            have HB4 := Lib.hid b4
            clear htb htb2 b3 b4
            simp only at a0 a1 a2 a3 a4 b0 b1 b2
            cases tlay with
            | true =>
              have b4' : wr.cell? ⟨g2, (x.length + k) * 5 + 4, none⟩ = some (.bool true) := by rw [HB4.out]; rfl
              have hq : ∀ q, (binOp .neq 30 (.agg #[.int .i64 kd, .string (bstr ts), .int .i64 tn, .int .i64 ((tat : Int) + (a.length : Int) + 1), .bool true]) (.agg #[.int .i64 kd, .string (bstr ts), .int .i64 tn, .int .i64 ((tat : Int) + (a.length : Int) + 1), .bool true])).run Tryd.prog ((wr.alloc (.cells #[.int .i64 kd, .string (bstr ts), .int .i64 tn, .int .i64 ((tat : Int) + (a.length : Int) + 1), .bool true] 30)).drewN q) = .ok (.bool false) ((wr.alloc (.cells #[.int .i64 kd, .string (bstr ts), .int .i64 tn, .int .i64 ((tat : Int) + (a.length : Int) + 1), .bool true] 30)).drewN q) := fun q => by
                have := neqT ⟨kd, ts, tn, a.length + 1 + tat, true⟩ ((wr.alloc (.cells #[.int .i64 kd, .string (bstr ts), .int .i64 tn, .int .i64 ((tat : Int) + (a.length : Int) + 1), .bool true] 30)).drewN q)
                unfold aggT at this
                rwa [show ((a.length + 1 + tat : Nat) : Int) = (tat : Int) + (a.length : Int) + 1 by omega] at this
              go_wp2_with fail
              go_quiet (fail)
              go_wp2_with fail
              go_roundw
              case rel => exact ⟨x.length + k + 1, by go_num, by omega, Lib.hid ((hI.out.same (Only.alloc _ _ _)).same (Only.drewN _ _ _))⟩
              case measure => simp [intOf]; omega
            | false =>
              by_cases hk0 : k = 0
              · have b4' : wr.cell? ⟨g2, (x.length + k) * 5 + 4, none⟩ = some (.bool true) := by rw [HB4.out]; show some (Value.bool (false || decide (k = 0))) = _; rw [decide_eq_true hk0]; rfl
                have hj1 : ((x.length : Int) + (k : Int) == (x.length : Int)) = true := by rw [beq_iff_eq]; omega
                clear hk0
                have hq : ∀ q, (binOp .neq 30 (.agg #[.int .i64 kd, .string (bstr ts), .int .i64 tn, .int .i64 ((tat : Int) + (a.length : Int) + 1), .bool true]) (.agg #[.int .i64 kd, .string (bstr ts), .int .i64 tn, .int .i64 ((tat : Int) + (a.length : Int) + 1), .bool true])).run Tryd.prog ((wr.alloc (.cells #[.int .i64 kd, .string (bstr ts), .int .i64 tn, .int .i64 ((tat : Int) + (a.length : Int) + 1), .bool true] 30)).drewN q) = .ok (.bool false) ((wr.alloc (.cells #[.int .i64 kd, .string (bstr ts), .int .i64 tn, .int .i64 ((tat : Int) + (a.length : Int) + 1), .bool true] 30)).drewN q) := fun q => by
                  have := neqT ⟨kd, ts, tn, a.length + 1 + tat, true⟩ ((wr.alloc (.cells #[.int .i64 kd, .string (bstr ts), .int .i64 tn, .int .i64 ((tat : Int) + (a.length : Int) + 1), .bool true] 30)).drewN q)
                  unfold aggT at this
                  rwa [show ((a.length + 1 + tat : Nat) : Int) = (tat : Int) + (a.length : Int) + 1 by omega] at this
                go_wp2_with fail
                go_quiet (fail)
                go_wp2_with fail
                go_roundw
                case rel => exact ⟨x.length + k + 1, by go_num, by omega, Lib.hid ((hI.out.same (Only.alloc _ _ _)).same (Only.drewN _ _ _))⟩
                case measure => simp [intOf]; omega
              · have b4' : wr.cell? ⟨g2, (x.length + k) * 5 + 4, none⟩ = some (.bool false) := by rw [HB4.out]; show some (Value.bool (false || decide (k = 0))) = _; rw [decide_eq_false hk0]; rfl
                have hj1 : ((x.length : Int) + (k : Int) == (x.length : Int)) = false := by rw [beq_eq_false_iff_ne]; omega
                clear hk0
                have hq : ∀ q, (binOp .neq 30 (.agg #[.int .i64 kd, .string (bstr ts), .int .i64 tn, .int .i64 ((tat : Int) + (a.length : Int) + 1), .bool false]) (.agg #[.int .i64 kd, .string (bstr ts), .int .i64 tn, .int .i64 ((tat : Int) + (a.length : Int) + 1), .bool false])).run Tryd.prog ((wr.alloc (.cells #[.int .i64 kd, .string (bstr ts), .int .i64 tn, .int .i64 ((tat : Int) + (a.length : Int) + 1), .bool false] 30)).drewN q) = .ok (.bool false) ((wr.alloc (.cells #[.int .i64 kd, .string (bstr ts), .int .i64 tn, .int .i64 ((tat : Int) + (a.length : Int) + 1), .bool false] 30)).drewN q) := fun q => by
                  have := neqT ⟨kd, ts, tn, a.length + 1 + tat, false⟩ ((wr.alloc (.cells #[.int .i64 kd, .string (bstr ts), .int .i64 tn, .int .i64 ((tat : Int) + (a.length : Int) + 1), .bool false] 30)).drewN q)
                  unfold aggT at this
                  rwa [show ((a.length + 1 + tat : Nat) : Int) = (tat : Int) + (a.length : Int) + 1 by omega] at this
                go_wp2_with fail
                go_quiet (fail)
                go_wp2_with fail
                go_roundw
                case rel => exact ⟨x.length + k + 1, by go_num, by omega, Lib.hid ((hI.out.same (Only.alloc _ _ _)).same (Only.drewN _ _ _))⟩
                case measure => simp [intOf]; omega
          · obtain rfl : j = x.length + y.length := by omega
            go_wp2_with fail
            go_ret
            exact ⟨rfl, (HO7.out.same hI.out).to_below⟩
end Go.Proofs.YtogccafnfpmgmaaDoor.toks
