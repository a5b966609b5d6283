/- Operators: the law OperSets. -/
import Derived.Test.YtodgjkdhkohckaaDoorOper27
namespace Go.Proofs.YtodgjkdhkohckaaDoor.opers
open Go.RowKit Go.Proofs.YtodgjkdhkohckaaDoor.own Go.Maps Go.Proofs.YtodgjkdhkohckaaDoor.toks
theorem rowO_of_row {B : Nat} {ao : Option Addr} {cap : Nat} {xs : List Op3} {W : World} (h : RowOf encO 3 32 B ao cap xs W) : RowO B ao xs W := fun i x hx => by
  obtain ⟨g, rfl, h1, h2⟩ := h.at lieO i x hx
  have h3 := (h.head _ rfl).2.2
  have c0 := (h2 0 (by decide)).1
  have c1 := (h2 1 (by decide)).1
  have c2 := (h2 2 (by decide)).1
  exact ⟨g, rfl, h1, h3, c0, c1, c2⟩
theorem take_filter {α : Type} (f : α → Bool) (l : List α) (j : Nat) (x : α) (hx : l[j]? = some x) : (l.take (j + 1)).filter f = if f x = true then (l.take j).filter f ++ [x] else (l.take j).filter f := by
  rw [List.take_add_one, hx, List.filter_append]
  cases h : f x <;> simp [h]
/-- A list under way, of what was kept so far. -/
def KeepI (f : Op3 → Bool) (xs : List Op3) (j : Nat) (W0 : World) (ao : Option Addr) (cap : Nat) (W : World) : Prop := RowOf encO 3 32 W0.heap.size ao cap ((xs.take j).filter f) W ∧ Only (fun _ => False) W0 W
theorem KeepI.start (f : Op3 → Bool) (xs : List Op3) (W0 : World) : KeepI f xs 0 W0 none 0 W0 := ⟨by rw [List.take_zero]; exact RowOf.nil _ _ _ _ _, Only.refl _ _⟩
theorem KeepI.later {f : Op3 → Bool} {xs : List Op3} {j : Nat} {W0 W W' : World} {ao : Option Addr} {cap : Nat} (h : KeepI f xs j W0 ao cap W) (ho : Only (fun _ => False) W W') : KeepI f xs j W0 ao cap W' := ⟨h.1.only ho (fun _ _ e => e), h.2.same ho⟩
theorem KeepI.not {f : Op3 → Bool} {xs : List Op3} {j : Nat} {W0 W : World} {ao : Option Addr} {cap : Nat} (h : KeepI f xs j W0 ao cap W) {x : Op3} (hx : xs[j]? = some x) (hf : f x = false) : KeepI f xs (j + 1) W0 ao cap W := by
  refine ⟨?_, h.2⟩
  rw [take_filter f xs j x hx, if_neg (by rw [hf]; decide)]
  exact h.1
theorem KeepI.took {f : Op3 → Bool} {xs : List Op3} {j : Nat} {W0 W W' : World} {ao ao' : Option Addr} {cap cap' : Nat} (h : KeepI f xs j W0 ao cap W) {x : Op3} (hx : xs[j]? = some x) (hf : f x = true) (hr : RowOf encO 3 32 W0.heap.size ao' cap' ((xs.take j).filter f ++ [x]) W') (ho : Only (RowAt ao) W W') : KeepI f xs (j + 1) W0 ao' cap' W' ∧ ((xs.take (j + 1)).filter f) = (xs.take j).filter f ++ [x] := by
  have e : ((xs.take (j + 1)).filter f) = (xs.take j).filter f ++ [x] := by rw [take_filter f xs j x hx, if_pos hf]
  refine ⟨⟨by rw [e]; exact hr, ?_⟩, e⟩
  refine h.2.trans ho ?_
  rintro k hk ⟨g, hg, e⟩
  have := (h.1.head g hg).2.1
  omega
theorem KeepI.len {f : Op3 → Bool} (xs : List Op3) (j : Nat) : ((xs.take j).filter f).length ≤ xs.length := Nat.le_trans (List.length_filter_le _ _) (by rw [List.length_take]; omega)
set_option maxRecDepth 100000 in
set_option maxHeartbeats 16000000 in
theorem law_sets (ao : Option Addr) (ac : Nat) (l : List Op3) (p k : Int) (s : ByteArray) (w : World) (hl : ArgL ao l w) (hll : l.length ≤ maxLen) (hsl : s.size ≤ maxLen) (hT : Typed w) :
    Calls Tryd.prog 5 #[.slice ao l.length ac, .agg #[.int .i64 p, .int .i64 k, .string s]] w fun e w' => e = .returned (.bool true) ∧ Below w.heap.size w w' := by
  have HB0 : Hid (∀ W, Only (fun _ => False) (w.alloc (opC p k s)) W → OpAt w.heap.size p k s W) := Lib.hid (fun W ho => (OpAt.new p k s w).later ho)
  have HO0 : Hid (Only (fun _ => False) w (w.alloc (opC p k s))) := Lib.hid (Only.alloc _ _ _)
  have HT := Lib.hid hT
  have HL := Lib.hid hl
  have HLV := Lib.hid lives
  clear hl hT
  by_cases h1 : s.size ≤ 1000
  · by_cases h2 : l.length ≤ 80
    · have i1 : ¬ (1000 : Int) < (s.size : Int) := by omega
      have i2 : ¬ (80 : Int) < (l.length : Int) := by omega
      clear hll
      go_enter Tryd.func5, Tryd.ntmps5
      go_wp2_with fail
      generalize w.alloc (opC p k s) = w0 at *
      refine (New_any w0).mono ?_
      rintro e w1 ⟨b, mi, mp, rfl, ht, ho, hb1, hb2, hb3⟩
      have HA := Lib.hid (And.intro (ht.mono (ni' := 40) (np' := 40) (by decide) (by decide)) ho)
      have HB := Lib.hid (And.intro hb2 hb3)
      clear ht ho hb1 hb2 hb3
      go_wp2_with fail
      refine (HLV.out _ (HT.out.later (HO0.out.same HA.out.2))).mono ?_
      rintro e w2 ⟨rfl, ho⟩
      replace HA := Lib.hid (And.intro (HA.out.1.later ho) (HA.out.2.same ho))
      clear ho
      obtain ⟨c0, c1, c2⟩ := (HB0.out _ HA.out.2).cells
      go_wp2_with fail
      have HS0 : Hid (SetI b mi mp 40 0 w2 w2) := Lib.hid ⟨Di0, Dp0, HA.out.1, fine_Di0, fine_Dp0, Only.refl _ _⟩
      have HCUT : Hid (∀ W, Only (fun q => q = mi ∨ q = mp) w2 W → Only (fun _ => False) w0 W) := Lib.hid (fun W hW => Only.cut HA.out.2 hW (fun q e => by have := HB.out; rcases e with e | e <;> omega))
      clear c0 c1 c2
      go_loopw [6] (fun i wr => ∃ j : Nat, i = .int .i64 j ∧ j ≤ l.length ∧ Hid (SetI b mi mp 40 j w2 wr)) (fun i _ => l.length - (intOf i).toNat)
      case atStart => exact ⟨0, rfl, by omega, HS0⟩
      case round =>
        obtain ⟨j, rfl, hj, hI⟩ := hrel
        clear HS0
        by_cases hlt : j < l.length
        · obtain ⟨x, hx⟩ : ∃ x, l[j]? = some x := ⟨_, List.getElem?_eq_getElem hlt⟩
          have hal : ArgL ao l wr := by
            obtain ⟨_, _, _, _, _, ho⟩ := hI.out
            exact HL.out.only (HO0.out.same (HCUT.out wr ho)) (fun _ _ e => e)
          obtain ⟨g1, off, rfl, hg1, c0, c1, c2, hsz⟩ := hal j x hx
          have q0 : (0 : Int) ≤ (j : Int) := by omega
          have q1 : (j : Int) < (l.length : Int) := by omega
          have HST := Lib.hid (hI.out.step x hsz (by omega))
          clear hx hg1 hal hsz
          go_wp2_with fail
          refine HST.out.mono ?_
          rintro e w5 ⟨⟨mm, rfl⟩, hs5⟩
          have HS5 := Lib.hid hs5
          clear hs5
          go_wp2_with fail
          go_roundw
          case rel => exact ⟨j + 1, by go_num, by omega, HS5⟩
          case measure => simp [intOf]; omega
        · obtain rfl : j = l.length := by omega
          obtain ⟨Di, Dp, ht, fi, fp, ho⟩ := hI.out
          have HT5 : Hid (Tb b mi mp (40 + l.length) (40 + l.length) Di Dp wr ∧ Fine false Di ∧ Fine true Dp) := Lib.hid ⟨ht, fi, fp⟩
          have HW5 : Hid (Only (fun _ => False) w0 wr) := Lib.hid (HCUT.out wr ho)
          clear hI ht fi fp ho HA HCUT HL
          go_wp2_with fail
          refine (all_any HT5.out.1 (by omega)).mono ?_
          rintro e w6 ⟨was, wo, wc, rfl, hwas, hr, ho⟩
          have HWAS := Lib.hid hwas
          have HWR := Lib.hid hr
          have HT6 := Lib.hid (HT5.out.1.later ho)
          have HW6 := Lib.hid (HW5.out.same ho)
          have HML : Hid (mi < wr.heap.size ∧ mp < wr.heap.size) := Lib.hid (by have a1 := HT5.out.1.i.lt; have a2 := HT5.out.1.p.lt; exact ⟨a1, a2⟩)
          have HWL : Hid (was.length ≤ 2000) := Lib.hid (by have := allIs_len hwas; have := HT5.out.1.i.size_le; have := HT5.out.1.p.size_le; omega)
          obtain ⟨c0, c1, c2⟩ := (HB0.out _ HW6.out).cells
          clear hwas hr ho
          go_wp2_with fail
          refine Calls.mono (set_any HT6.out p k s hsl (by omega)) ?_
          rintro e w7 ⟨rfl, ht, ho⟩
          obtain ⟨gi, gp⟩ := fine_set HT5.out.2.1 HT5.out.2.2 p k s
          have HT7 := Lib.hid ht
          have HWR7 : Hid (RowO wr.heap.size wo was w7) := Lib.hid (HWR.out.only ho (fun q h1 _ e => by have := HML.out; rcases e with e | e <;> omega))
          have HW7 : Hid (Only (fun _ => False) w0 w7) := Lib.hid (Only.cut HW6.out ho (fun q e => by have := HB.out; rcases e with e | e <;> omega))
          have HG := Lib.hid (And.intro gi gp)
          clear ht ho gi gp c0 c1 c2
          go_wp2_with fail
          refine (all_any HT7.out (by omega)).mono ?_
          rintro e w8 ⟨now, no, nc, rfl, hnow, hr, ho⟩
          have HNL : Hid (now.length ≤ 2000) := Lib.hid (by have := allIs_len hnow; have := HT7.out.i.size_le; have := HT7.out.p.size_le; omega)
          have HNR := Lib.hid hr
          have HWR8 : Hid (RowO wr.heap.size wo was w8) := Lib.hid (HWR7.out.only ho (fun _ _ _ e => e))
          have HW8 := Lib.hid (HW7.out.same ho)
          clear hr ho
          by_cases hE : setE Di Dp p k s = 0
          · have HP := Lib.hid (sets_plain HT5.out.2.1 HT5.out.2.2 hE HWAS.out hnow)
            rw [hE]
            clear hnow hE HWAS HT5 HT6 HT7 HG HWR HWR7 HW5 HW6 HW7
            go_wp2_with fail
            obtain ⟨i0, hi, hz0, hz1, hz2⟩ := info_parts infoO
            have HST0 : Hid (KeepI (fun x => !(eqO x ⟨p, k, s⟩)) now 0 w8 none 0 w8) := Lib.hid (KeepI.start _ _ _)
            have hnl := HNL.out
            have hwl := HWL.out
            go_loopw [10, 11] (fun sl i wr => ∃ (j : Nat) (ko : Option Addr) (kc : Nat), i = .int .i64 j ∧ j ≤ now.length ∧ sl = .slice ko ((now.take j).filter (fun x => !(eqO x ⟨p, k, s⟩))).length kc ∧ Hid (KeepI (fun x => !(eqO x ⟨p, k, s⟩)) now j w8 ko kc wr)) (fun _ i _ => now.length - (intOf i).toNat)
            case atStart => exact ⟨0, none, 0, rfl, by omega, by simp, HST0⟩
            case round =>
              obtain ⟨j, ko, kc, rfl, hj, rfl, hI⟩ := hrel
              clear HST0
              by_cases hlt : j < now.length
              · obtain ⟨x, hx⟩ : ∃ x, now[j]? = some x := ⟨_, List.getElem?_eq_getElem hlt⟩
                obtain ⟨g1, rfl, hg1, hl1, c0, c1, c2⟩ := (HNR.out.only hI.out.2 (fun _ _ _ e => e)) j x hx
                obtain ⟨d0, d1, d2⟩ := (HB0.out _ (HW8.out.same hI.out.2)).cells
                have q0 : (0 : Int) ≤ (j : Int) := by omega
                have q1 : (j : Int) < (now.length : Int) := by omega
                have HX := Lib.hid hx
                have HCX : Hid (∀ W, Only (fun _ => False) wr W → W.cell? ⟨g1, j * 3, none⟩ = some (.int .i64 x.p) ∧ W.cell? ⟨g1, j * 3 + 1, none⟩ = some (.int .i64 x.k) ∧ W.cell? ⟨g1, j * 3 + 2, none⟩ = some (.string x.n)) := Lib.hid (fun W ho => ⟨(ho.cell (p := ⟨g1, _, none⟩) hl1 (fun e => e)).trans c0, (ho.cell (p := ⟨g1, _, none⟩) hl1 (fun e => e)).trans c1, (ho.cell (p := ⟨g1, _, none⟩) hl1 (fun e => e)).trans c2⟩)
                cases e1 : (x.p == p) with
                | false =>
                  have hb : eqO x ⟨p, k, s⟩ = false := by unfold eqO; rw [e1]; rfl
                  have hf : (!(eqO x ⟨p, k, s⟩)) = true := by rw [hb]; rfl
                  clear hx hg1 hb
                  go_wp2_with fail
                  go_quiet (fail)
                  have HI5 := Lib.hid (hI.out.later (Only.drewN (fun _ => False) wr nq))
                  have hcx := HCX.out _ (Only.drewN (fun _ => False) wr nq)
                  clear hI c0 c1 c2 d0 d1 d2 HCX
                  generalize wr.drewN nq = w5 at *
                  obtain ⟨c0, c1, c2⟩ := hcx
                  have HK5 : Hid (RowOf encO 3 32 w8.heap.size ko kc ((now.take j).filter (fun x => !(eqO x ⟨p, k, s⟩))) w5 ∧ w8.heap.size ≤ w5.heap.size) := Lib.hid ⟨HI5.out.1, HI5.out.2.size⟩
                  have HTOOK : Hid (∀ ko' kc' w6, RowOf encO 3 32 w8.heap.size ko' kc' ((now.take j).filter (fun x => !(eqO x ⟨p, k, s⟩)) ++ [x]) w6 → Only (RowAt ko) w5 w6 → KeepI (fun x => !(eqO x ⟨p, k, s⟩)) now (j + 1) w8 ko' kc' w6) := Lib.hid (fun ko' kc' w6 h1 h2 => (HI5.out.took HX.out hf h1 h2).1)
                  have HTK : Hid ((now.take (j + 1)).filter (fun x => !(eqO x ⟨p, k, s⟩)) = (now.take j).filter (fun x => !(eqO x ⟨p, k, s⟩)) ++ [x]) := Lib.hid (by rw [take_filter (fun x => !(eqO x ⟨p, k, s⟩)) now j x HX.out, if_pos hf])
                  have HYL : Hid (((now.take j).filter (fun x => !(eqO x ⟨p, k, s⟩))).length ≤ 2000) := Lib.hid (Nat.le_trans (KeepI.len (f := (fun x => !(eqO x ⟨p, k, s⟩))) now j) (by omega))
                  clear HI5 hf
                  generalize (now.take j).filter (fun x => !(eqO x ⟨p, k, s⟩)) = ys at *
                  go_wp2_with (first
                    | (at_builtin; refine wp_append_one lieO rfl (.tmp 70) (.tmp 75) 29 rfl w8.heap.size 32 i0 _ 32 Tryd.underlying29 hi hz0 hz1 hz2 rfl (by omega) w5 ko kc ys x [.int .i64 x.p, .int .i64 x.k, .string x.n] rfl rfl HK5.out.1 rfl (by have := HYL.out; omega) HK5.out.2 ?_; intro ko' kc' w6 hrow6 ho6 hnew6
                       have HK6 := Lib.hid (HTOOK.out ko' kc' w6 hrow6 ho6)
                       clear hrow6 ho6 hnew6)
                    | fail)
                  go_roundw
                  case rel => exact ⟨j + 1, ko', kc', by go_num, by omega, by rw [HTK.out]; simp, HK6⟩
                  case measure => simp [intOf]; omega
                | true =>
                  cases e2 : (x.k == k) with
                  | false =>
                    have hb : eqO x ⟨p, k, s⟩ = false := by unfold eqO; rw [e1, e2]; rfl
                    have hf : (!(eqO x ⟨p, k, s⟩)) = true := by rw [hb]; rfl
                    clear hx hg1 hb
                    go_wp2_with fail
                    go_quiet (fail)
                    have HI5 := Lib.hid (hI.out.later (Only.drewN (fun _ => False) wr nq))
                    have hcx := HCX.out _ (Only.drewN (fun _ => False) wr nq)
                    clear hI c0 c1 c2 d0 d1 d2 HCX
                    generalize wr.drewN nq = w5 at *
                    obtain ⟨c0, c1, c2⟩ := hcx
                    have HK5 : Hid (RowOf encO 3 32 w8.heap.size ko kc ((now.take j).filter (fun x => !(eqO x ⟨p, k, s⟩))) w5 ∧ w8.heap.size ≤ w5.heap.size) := Lib.hid ⟨HI5.out.1, HI5.out.2.size⟩
                    have HTOOK : Hid (∀ ko' kc' w6, RowOf encO 3 32 w8.heap.size ko' kc' ((now.take j).filter (fun x => !(eqO x ⟨p, k, s⟩)) ++ [x]) w6 → Only (RowAt ko) w5 w6 → KeepI (fun x => !(eqO x ⟨p, k, s⟩)) now (j + 1) w8 ko' kc' w6) := Lib.hid (fun ko' kc' w6 h1 h2 => (HI5.out.took HX.out hf h1 h2).1)
                    have HTK : Hid ((now.take (j + 1)).filter (fun x => !(eqO x ⟨p, k, s⟩)) = (now.take j).filter (fun x => !(eqO x ⟨p, k, s⟩)) ++ [x]) := Lib.hid (by rw [take_filter (fun x => !(eqO x ⟨p, k, s⟩)) now j x HX.out, if_pos hf])
                    have HYL : Hid (((now.take j).filter (fun x => !(eqO x ⟨p, k, s⟩))).length ≤ 2000) := Lib.hid (Nat.le_trans (KeepI.len (f := (fun x => !(eqO x ⟨p, k, s⟩))) now j) (by omega))
                    clear HI5 hf
                    generalize (now.take j).filter (fun x => !(eqO x ⟨p, k, s⟩)) = ys at *
                    go_wp2_with (first
                      | (at_builtin; refine wp_append_one lieO rfl (.tmp 70) (.tmp 75) 29 rfl w8.heap.size 32 i0 _ 32 Tryd.underlying29 hi hz0 hz1 hz2 rfl (by omega) w5 ko kc ys x [.int .i64 x.p, .int .i64 x.k, .string x.n] rfl rfl HK5.out.1 rfl (by have := HYL.out; omega) HK5.out.2 ?_; intro ko' kc' w6 hrow6 ho6 hnew6
                         have HK6 := Lib.hid (HTOOK.out ko' kc' w6 hrow6 ho6)
                         clear hrow6 ho6 hnew6)
                      | fail)
                    go_roundw
                    case rel => exact ⟨j + 1, ko', kc', by go_num, by omega, by rw [HTK.out]; simp, HK6⟩
                    case measure => simp [intOf]; omega
                  | true =>
                    cases e3 : (x.n.toList == s.toList) with
                    | false =>
                      have hb : eqO x ⟨p, k, s⟩ = false := by unfold eqO; rw [e1, e2, e3]; rfl
                      have hf : (!(eqO x ⟨p, k, s⟩)) = true := by rw [hb]; rfl
                      clear hx hg1 hb
                      go_wp2_with fail
                      go_quiet (fail)
                      have HI5 := Lib.hid (hI.out.later (Only.drewN (fun _ => False) wr nq))
                      have hcx := HCX.out _ (Only.drewN (fun _ => False) wr nq)
                      clear hI c0 c1 c2 d0 d1 d2 HCX
                      generalize wr.drewN nq = w5 at *
                      obtain ⟨c0, c1, c2⟩ := hcx
                      have HK5 : Hid (RowOf encO 3 32 w8.heap.size ko kc ((now.take j).filter (fun x => !(eqO x ⟨p, k, s⟩))) w5 ∧ w8.heap.size ≤ w5.heap.size) := Lib.hid ⟨HI5.out.1, HI5.out.2.size⟩
                      have HTOOK : Hid (∀ ko' kc' w6, RowOf encO 3 32 w8.heap.size ko' kc' ((now.take j).filter (fun x => !(eqO x ⟨p, k, s⟩)) ++ [x]) w6 → Only (RowAt ko) w5 w6 → KeepI (fun x => !(eqO x ⟨p, k, s⟩)) now (j + 1) w8 ko' kc' w6) := Lib.hid (fun ko' kc' w6 h1 h2 => (HI5.out.took HX.out hf h1 h2).1)
                      have HTK : Hid ((now.take (j + 1)).filter (fun x => !(eqO x ⟨p, k, s⟩)) = (now.take j).filter (fun x => !(eqO x ⟨p, k, s⟩)) ++ [x]) := Lib.hid (by rw [take_filter (fun x => !(eqO x ⟨p, k, s⟩)) now j x HX.out, if_pos hf])
                      have HYL : Hid (((now.take j).filter (fun x => !(eqO x ⟨p, k, s⟩))).length ≤ 2000) := Lib.hid (Nat.le_trans (KeepI.len (f := (fun x => !(eqO x ⟨p, k, s⟩))) now j) (by omega))
                      clear HI5 hf
                      generalize (now.take j).filter (fun x => !(eqO x ⟨p, k, s⟩)) = ys at *
                      go_wp2_with (first
                        | (at_builtin; refine wp_append_one lieO rfl (.tmp 70) (.tmp 75) 29 rfl w8.heap.size 32 i0 _ 32 Tryd.underlying29 hi hz0 hz1 hz2 rfl (by omega) w5 ko kc ys x [.int .i64 x.p, .int .i64 x.k, .string x.n] rfl rfl HK5.out.1 rfl (by have := HYL.out; omega) HK5.out.2 ?_; intro ko' kc' w6 hrow6 ho6 hnew6
                           have HK6 := Lib.hid (HTOOK.out ko' kc' w6 hrow6 ho6)
                           clear hrow6 ho6 hnew6)
                        | fail)
                      go_roundw
                      case rel => exact ⟨j + 1, ko', kc', by go_num, by omega, by rw [HTK.out]; simp, HK6⟩
                      case measure => simp [intOf]; omega
                    | true =>
                      have hb : eqO x ⟨p, k, s⟩ = true := by unfold eqO; rw [e1, e2, e3]; rfl
                      have hf : (!(eqO x ⟨p, k, s⟩)) = false := by rw [hb]; rfl
                      have HTK : Hid ((now.take (j + 1)).filter (fun x => !(eqO x ⟨p, k, s⟩)) = (now.take j).filter (fun x => !(eqO x ⟨p, k, s⟩))) := Lib.hid (by rw [take_filter _ now j x HX.out, if_neg (by rw [hf]; decide)])
                      clear hx hg1 hb
                      go_wp2_with fail
                      go_quiet (fail)
                      have HI5 := Lib.hid ((hI.out.not HX.out hf).later (Only.drewN (fun _ => False) wr nq))
                      go_wp2_with fail
                      go_roundw
                      case rel => exact ⟨j + 1, ko, kc, by go_num, by omega, by rw [HTK.out], HI5⟩
                      case measure => simp [intOf]; omega
              · obtain rfl : j = now.length := by omega
                obtain ⟨w10, hw10⟩ : ∃ w10, w10 = wr := ⟨_, rfl⟩
                subst hw10
                have hfin := hI.out
                rw [KeepI, List.take_length] at hfin
                have HLEFT := Lib.hid hfin
                have HPP := HP.out
                clear hfin hI hlt hj
                rw [show (now.take now.length).filter (fun x => !(eqO x ⟨p, k, s⟩)) = was.filter (otherB s k) by rw [List.take_length]; exact HP.out.1]
                rw [HPP.1] at HLEFT
                have HST0 : Hid (KeepI (otherB s k) was 0 w10 none 0 w10) := Lib.hid (KeepI.start _ _ _)
                generalize hlw : was.filter (otherB s k) = fin at HPP HLEFT ⊢
                go_wp2_with fail
                go_loopw [12, 13] (fun sl i wr => ∃ (j : Nat) (ko : Option Addr) (kc : Nat), i = .int .i64 j ∧ j ≤ was.length ∧ sl = .slice ko ((was.take j).filter (otherB s k)).length kc ∧ Hid (KeepI (otherB s k) was j w10 ko kc wr)) (fun _ i _ => was.length - (intOf i).toNat)
                case atStart => exact ⟨0, none, 0, rfl, by omega, by simp, HST0⟩
                case round =>
                  obtain ⟨j, mo, mc, rfl, hj, rfl, hI⟩ := hrel
                  clear HST0
                  by_cases hlt : j < was.length
                  · obtain ⟨x, hx⟩ : ∃ x, was[j]? = some x := ⟨_, List.getElem?_eq_getElem hlt⟩
                    have HRW : Hid (Only (fun _ => False) w8 wr) := Lib.hid (HLEFT.out.2.same hI.out.2)
                    obtain ⟨g1, rfl, hg1, hl1, c0, c1, c2⟩ := (HWR8.out.only HRW.out (fun _ _ _ e => e)) j x hx
                    obtain ⟨d0, d1, d2⟩ := (HB0.out _ (HW8.out.same HRW.out)).cells
                    have q0 : (0 : Int) ≤ (j : Int) := by omega
                    have q1 : (j : Int) < (was.length : Int) := by omega
                    have HX := Lib.hid hx
                    have HCX : Hid (∀ W, Only (fun _ => False) wr W → W.cell? ⟨g1, j * 3, none⟩ = some (.int .i64 x.p) ∧ W.cell? ⟨g1, j * 3 + 1, none⟩ = some (.int .i64 x.k) ∧ W.cell? ⟨g1, j * 3 + 2, none⟩ = some (.string x.n)) := Lib.hid (fun W ho => ⟨(ho.cell (p := ⟨g1, _, none⟩) hl1 (fun e => e)).trans c0, (ho.cell (p := ⟨g1, _, none⟩) hl1 (fun e => e)).trans c1, (ho.cell (p := ⟨g1, _, none⟩) hl1 (fun e => e)).trans c2⟩)
                    cases en : (x.n.toList == s.toList) with
                    | false =>
                      cases ex4 : (x.k == 4) with
                      | true =>
                        have hf : otherB s k x = true := by unfold otherB isPreF; rw [en]; rfl
                        clear hx hg1
                        go_wp2_with fail
                        go_quiet (fail)
                        have HI5 := Lib.hid (hI.out.later (Only.drewN (fun _ => False) wr nq))
                        have hcx := HCX.out _ (Only.drewN (fun _ => False) wr nq)
                        clear hI c0 c1 c2 d0 d1 d2 HCX HRW
                        generalize wr.drewN nq = w5 at *
                        obtain ⟨c0, c1, c2⟩ := hcx
                        have HK5 : Hid (RowOf encO 3 32 w10.heap.size mo mc ((was.take j).filter (otherB s k)) w5 ∧ w10.heap.size ≤ w5.heap.size) := Lib.hid ⟨HI5.out.1, HI5.out.2.size⟩
                        have HTOOK : Hid (∀ ko' kc' w6, RowOf encO 3 32 w10.heap.size ko' kc' ((was.take j).filter (otherB s k) ++ [x]) w6 → Only (RowAt mo) w5 w6 → KeepI (otherB s k) was (j + 1) w10 ko' kc' w6) := Lib.hid (fun ko' kc' w6 h1 h2 => (HI5.out.took HX.out hf h1 h2).1)
                        have HTK : Hid ((was.take (j + 1)).filter (otherB s k) = (was.take j).filter (otherB s k) ++ [x]) := Lib.hid (by rw [take_filter (otherB s k) was j x HX.out, if_pos hf])
                        have HYL : Hid (((was.take j).filter (otherB s k)).length ≤ 2000) := Lib.hid (Nat.le_trans (KeepI.len (f := (otherB s k)) was j) (by omega))
                        clear HI5 hf
                        generalize (was.take j).filter (otherB s k) = ys at *
                        go_wp2_with (first
                          | (at_builtin; refine wp_append_one lieO rfl (.tmp 117) (.tmp 122) 29 rfl w10.heap.size 32 i0 _ 32 Tryd.underlying29 hi hz0 hz1 hz2 rfl (by omega) w5 mo mc ys x [.int .i64 x.p, .int .i64 x.k, .string x.n] rfl rfl HK5.out.1 rfl (by have := HYL.out; omega) HK5.out.2 ?_; intro ko' kc' w6 hrow6 ho6 hnew6
                             have HK6 := Lib.hid (HTOOK.out ko' kc' w6 hrow6 ho6)
                             clear hrow6 ho6 hnew6)
                          | fail)
                        go_roundw
                        case rel => exact ⟨j + 1, ko', kc', by go_num, by omega, by rw [HTK.out]; simp, HK6⟩
                        case measure => simp [intOf]; omega
                      | false =>
                        cases ex5 : (x.k == 5) with
                        | true =>
                          have hf : otherB s k x = true := by unfold otherB isPreF; rw [en]; rfl
                          clear hx hg1
                          go_wp2_with fail
                          go_quiet (fail)
                          have HI5 := Lib.hid (hI.out.later (Only.drewN (fun _ => False) wr nq))
                          have hcx := HCX.out _ (Only.drewN (fun _ => False) wr nq)
                          clear hI c0 c1 c2 d0 d1 d2 HCX HRW
                          generalize wr.drewN nq = w5 at *
                          obtain ⟨c0, c1, c2⟩ := hcx
                          have HK5 : Hid (RowOf encO 3 32 w10.heap.size mo mc ((was.take j).filter (otherB s k)) w5 ∧ w10.heap.size ≤ w5.heap.size) := Lib.hid ⟨HI5.out.1, HI5.out.2.size⟩
                          have HTOOK : Hid (∀ ko' kc' w6, RowOf encO 3 32 w10.heap.size ko' kc' ((was.take j).filter (otherB s k) ++ [x]) w6 → Only (RowAt mo) w5 w6 → KeepI (otherB s k) was (j + 1) w10 ko' kc' w6) := Lib.hid (fun ko' kc' w6 h1 h2 => (HI5.out.took HX.out hf h1 h2).1)
                          have HTK : Hid ((was.take (j + 1)).filter (otherB s k) = (was.take j).filter (otherB s k) ++ [x]) := Lib.hid (by rw [take_filter (otherB s k) was j x HX.out, if_pos hf])
                          have HYL : Hid (((was.take j).filter (otherB s k)).length ≤ 2000) := Lib.hid (Nat.le_trans (KeepI.len (f := (otherB s k)) was j) (by omega))
                          clear HI5 hf
                          generalize (was.take j).filter (otherB s k) = ys at *
                          go_wp2_with (first
                            | (at_builtin; refine wp_append_one lieO rfl (.tmp 117) (.tmp 122) 29 rfl w10.heap.size 32 i0 _ 32 Tryd.underlying29 hi hz0 hz1 hz2 rfl (by omega) w5 mo mc ys x [.int .i64 x.p, .int .i64 x.k, .string x.n] rfl rfl HK5.out.1 rfl (by have := HYL.out; omega) HK5.out.2 ?_; intro ko' kc' w6 hrow6 ho6 hnew6
                               have HK6 := Lib.hid (HTOOK.out ko' kc' w6 hrow6 ho6)
                               clear hrow6 ho6 hnew6)
                            | fail)
                          go_roundw
                          case rel => exact ⟨j + 1, ko', kc', by go_num, by omega, by rw [HTK.out]; simp, HK6⟩
                          case measure => simp [intOf]; omega
                        | false =>
                          have hf : otherB s k x = true := by unfold otherB isPreF; rw [en]; rfl
                          clear hx hg1
                          go_wp2_with fail
                          go_quiet (fail)
                          have HI5 := Lib.hid (hI.out.later (Only.drewN (fun _ => False) wr nq))
                          have hcx := HCX.out _ (Only.drewN (fun _ => False) wr nq)
                          clear hI c0 c1 c2 d0 d1 d2 HCX HRW
                          generalize wr.drewN nq = w5 at *
                          obtain ⟨c0, c1, c2⟩ := hcx
                          have HK5 : Hid (RowOf encO 3 32 w10.heap.size mo mc ((was.take j).filter (otherB s k)) w5 ∧ w10.heap.size ≤ w5.heap.size) := Lib.hid ⟨HI5.out.1, HI5.out.2.size⟩
                          have HTOOK : Hid (∀ ko' kc' w6, RowOf encO 3 32 w10.heap.size ko' kc' ((was.take j).filter (otherB s k) ++ [x]) w6 → Only (RowAt mo) w5 w6 → KeepI (otherB s k) was (j + 1) w10 ko' kc' w6) := Lib.hid (fun ko' kc' w6 h1 h2 => (HI5.out.took HX.out hf h1 h2).1)
                          have HTK : Hid ((was.take (j + 1)).filter (otherB s k) = (was.take j).filter (otherB s k) ++ [x]) := Lib.hid (by rw [take_filter (otherB s k) was j x HX.out, if_pos hf])
                          have HYL : Hid (((was.take j).filter (otherB s k)).length ≤ 2000) := Lib.hid (Nat.le_trans (KeepI.len (f := (otherB s k)) was j) (by omega))
                          clear HI5 hf
                          generalize (was.take j).filter (otherB s k) = ys at *
                          go_wp2_with (first
                            | (at_builtin; refine wp_append_one lieO rfl (.tmp 117) (.tmp 122) 29 rfl w10.heap.size 32 i0 _ 32 Tryd.underlying29 hi hz0 hz1 hz2 rfl (by omega) w5 mo mc ys x [.int .i64 x.p, .int .i64 x.k, .string x.n] rfl rfl HK5.out.1 rfl (by have := HYL.out; omega) HK5.out.2 ?_; intro ko' kc' w6 hrow6 ho6 hnew6
                               have HK6 := Lib.hid (HTOOK.out ko' kc' w6 hrow6 ho6)
                               clear hrow6 ho6 hnew6)
                            | fail)
                          go_roundw
                          case rel => exact ⟨j + 1, ko', kc', by go_num, by omega, by rw [HTK.out]; simp, HK6⟩
                          case measure => simp [intOf]; omega
                    | true =>
                      cases ex4 : (x.k == 4) with
                      | true =>
                        cases ek4 : (k == 4) with
                        | true =>
                          have hf : otherB s k x = false := by unfold otherB isPreF; rw [en, ex4, ek4]; rfl
                          clear hx hg1
                          go_wp2_with fail
                          go_quiet (fail)
                          have HTK : Hid ((was.take (j + 1)).filter (otherB s k) = (was.take j).filter (otherB s k)) := Lib.hid (by rw [take_filter _ was j x HX.out, if_neg (by rw [hf]; decide)])
                          have HI5 := Lib.hid ((hI.out.not HX.out hf).later (Only.drewN (fun _ => False) wr nq))
                          go_wp2_with fail
                          go_roundw
                          case rel => exact ⟨j + 1, mo, mc, by go_num, by omega, by rw [HTK.out], HI5⟩
                          case measure => simp [intOf]; omega
                        | false =>
                          cases ek5 : (k == 5) with
                          | true =>
                            have hf : otherB s k x = false := by unfold otherB isPreF; rw [en, ex4, ek4, ek5]; rfl
                            clear hx hg1
                            go_wp2_with fail
                            go_quiet (fail)
                            have HTK : Hid ((was.take (j + 1)).filter (otherB s k) = (was.take j).filter (otherB s k)) := Lib.hid (by rw [take_filter _ was j x HX.out, if_neg (by rw [hf]; decide)])
                            have HI5 := Lib.hid ((hI.out.not HX.out hf).later (Only.drewN (fun _ => False) wr nq))
                            go_wp2_with fail
                            go_roundw
                            case rel => exact ⟨j + 1, mo, mc, by go_num, by omega, by rw [HTK.out], HI5⟩
                            case measure => simp [intOf]; omega
                          | false =>
                            have hf : otherB s k x = true := by unfold otherB isPreF; rw [en, ex4, ek4, ek5]; rfl
                            clear hx hg1
                            go_wp2_with fail
                            go_quiet (fail)
                            have HI5 := Lib.hid (hI.out.later (Only.drewN (fun _ => False) wr nq))
                            have hcx := HCX.out _ (Only.drewN (fun _ => False) wr nq)
                            clear hI c0 c1 c2 d0 d1 d2 HCX HRW
                            generalize wr.drewN nq = w5 at *
                            obtain ⟨c0, c1, c2⟩ := hcx
                            have HK5 : Hid (RowOf encO 3 32 w10.heap.size mo mc ((was.take j).filter (otherB s k)) w5 ∧ w10.heap.size ≤ w5.heap.size) := Lib.hid ⟨HI5.out.1, HI5.out.2.size⟩
                            have HTOOK : Hid (∀ ko' kc' w6, RowOf encO 3 32 w10.heap.size ko' kc' ((was.take j).filter (otherB s k) ++ [x]) w6 → Only (RowAt mo) w5 w6 → KeepI (otherB s k) was (j + 1) w10 ko' kc' w6) := Lib.hid (fun ko' kc' w6 h1 h2 => (HI5.out.took HX.out hf h1 h2).1)
                            have HTK : Hid ((was.take (j + 1)).filter (otherB s k) = (was.take j).filter (otherB s k) ++ [x]) := Lib.hid (by rw [take_filter (otherB s k) was j x HX.out, if_pos hf])
                            have HYL : Hid (((was.take j).filter (otherB s k)).length ≤ 2000) := Lib.hid (Nat.le_trans (KeepI.len (f := (otherB s k)) was j) (by omega))
                            clear HI5 hf
                            generalize (was.take j).filter (otherB s k) = ys at *
                            go_wp2_with (first
                              | (at_builtin; refine wp_append_one lieO rfl (.tmp 117) (.tmp 122) 29 rfl w10.heap.size 32 i0 _ 32 Tryd.underlying29 hi hz0 hz1 hz2 rfl (by omega) w5 mo mc ys x [.int .i64 x.p, .int .i64 x.k, .string x.n] rfl rfl HK5.out.1 rfl (by have := HYL.out; omega) HK5.out.2 ?_; intro ko' kc' w6 hrow6 ho6 hnew6
                                 have HK6 := Lib.hid (HTOOK.out ko' kc' w6 hrow6 ho6)
                                 clear hrow6 ho6 hnew6)
                              | fail)
                            go_roundw
                            case rel => exact ⟨j + 1, ko', kc', by go_num, by omega, by rw [HTK.out]; simp, HK6⟩
                            case measure => simp [intOf]; omega
                      | false =>
                        cases ex5 : (x.k == 5) with
                        | true =>
                          cases ek4 : (k == 4) with
                          | true =>
                            have hf : otherB s k x = false := by unfold otherB isPreF; rw [en, ex4, ex5, ek4]; rfl
                            clear hx hg1
                            go_wp2_with fail
                            go_quiet (fail)
                            have HTK : Hid ((was.take (j + 1)).filter (otherB s k) = (was.take j).filter (otherB s k)) := Lib.hid (by rw [take_filter _ was j x HX.out, if_neg (by rw [hf]; decide)])
                            have HI5 := Lib.hid ((hI.out.not HX.out hf).later (Only.drewN (fun _ => False) wr nq))
                            go_wp2_with fail
                            go_roundw
                            case rel => exact ⟨j + 1, mo, mc, by go_num, by omega, by rw [HTK.out], HI5⟩
                            case measure => simp [intOf]; omega
                          | false =>
                            cases ek5 : (k == 5) with
                            | true =>
                              have hf : otherB s k x = false := by unfold otherB isPreF; rw [en, ex4, ex5, ek4, ek5]; rfl
                              clear hx hg1
                              go_wp2_with fail
                              go_quiet (fail)
                              have HTK : Hid ((was.take (j + 1)).filter (otherB s k) = (was.take j).filter (otherB s k)) := Lib.hid (by rw [take_filter _ was j x HX.out, if_neg (by rw [hf]; decide)])
                              have HI5 := Lib.hid ((hI.out.not HX.out hf).later (Only.drewN (fun _ => False) wr nq))
                              go_wp2_with fail
                              go_roundw
                              case rel => exact ⟨j + 1, mo, mc, by go_num, by omega, by rw [HTK.out], HI5⟩
                              case measure => simp [intOf]; omega
                            | false =>
                              have hf : otherB s k x = true := by unfold otherB isPreF; rw [en, ex4, ex5, ek4, ek5]; rfl
                              clear hx hg1
                              go_wp2_with fail
                              go_quiet (fail)
                              have HI5 := Lib.hid (hI.out.later (Only.drewN (fun _ => False) wr nq))
                              have hcx := HCX.out _ (Only.drewN (fun _ => False) wr nq)
                              clear hI c0 c1 c2 d0 d1 d2 HCX HRW
                              generalize wr.drewN nq = w5 at *
                              obtain ⟨c0, c1, c2⟩ := hcx
                              have HK5 : Hid (RowOf encO 3 32 w10.heap.size mo mc ((was.take j).filter (otherB s k)) w5 ∧ w10.heap.size ≤ w5.heap.size) := Lib.hid ⟨HI5.out.1, HI5.out.2.size⟩
                              have HTOOK : Hid (∀ ko' kc' w6, RowOf encO 3 32 w10.heap.size ko' kc' ((was.take j).filter (otherB s k) ++ [x]) w6 → Only (RowAt mo) w5 w6 → KeepI (otherB s k) was (j + 1) w10 ko' kc' w6) := Lib.hid (fun ko' kc' w6 h1 h2 => (HI5.out.took HX.out hf h1 h2).1)
                              have HTK : Hid ((was.take (j + 1)).filter (otherB s k) = (was.take j).filter (otherB s k) ++ [x]) := Lib.hid (by rw [take_filter (otherB s k) was j x HX.out, if_pos hf])
                              have HYL : Hid (((was.take j).filter (otherB s k)).length ≤ 2000) := Lib.hid (Nat.le_trans (KeepI.len (f := (otherB s k)) was j) (by omega))
                              clear HI5 hf
                              generalize (was.take j).filter (otherB s k) = ys at *
                              go_wp2_with (first
                                | (at_builtin; refine wp_append_one lieO rfl (.tmp 117) (.tmp 122) 29 rfl w10.heap.size 32 i0 _ 32 Tryd.underlying29 hi hz0 hz1 hz2 rfl (by omega) w5 mo mc ys x [.int .i64 x.p, .int .i64 x.k, .string x.n] rfl rfl HK5.out.1 rfl (by have := HYL.out; omega) HK5.out.2 ?_; intro ko' kc' w6 hrow6 ho6 hnew6
                                   have HK6 := Lib.hid (HTOOK.out ko' kc' w6 hrow6 ho6)
                                   clear hrow6 ho6 hnew6)
                                | fail)
                              go_roundw
                              case rel => exact ⟨j + 1, ko', kc', by go_num, by omega, by rw [HTK.out]; simp, HK6⟩
                              case measure => simp [intOf]; omega
                        | false =>
                          cases ek4 : (k == 4) with
                          | true =>
                            have hf : otherB s k x = true := by unfold otherB isPreF; rw [en, ex4, ex5, ek4]; rfl
                            clear hx hg1
                            go_wp2_with fail
                            go_quiet (fail)
                            have HI5 := Lib.hid (hI.out.later (Only.drewN (fun _ => False) wr nq))
                            have hcx := HCX.out _ (Only.drewN (fun _ => False) wr nq)
                            clear hI c0 c1 c2 d0 d1 d2 HCX HRW
                            generalize wr.drewN nq = w5 at *
                            obtain ⟨c0, c1, c2⟩ := hcx
                            have HK5 : Hid (RowOf encO 3 32 w10.heap.size mo mc ((was.take j).filter (otherB s k)) w5 ∧ w10.heap.size ≤ w5.heap.size) := Lib.hid ⟨HI5.out.1, HI5.out.2.size⟩
                            have HTOOK : Hid (∀ ko' kc' w6, RowOf encO 3 32 w10.heap.size ko' kc' ((was.take j).filter (otherB s k) ++ [x]) w6 → Only (RowAt mo) w5 w6 → KeepI (otherB s k) was (j + 1) w10 ko' kc' w6) := Lib.hid (fun ko' kc' w6 h1 h2 => (HI5.out.took HX.out hf h1 h2).1)
                            have HTK : Hid ((was.take (j + 1)).filter (otherB s k) = (was.take j).filter (otherB s k) ++ [x]) := Lib.hid (by rw [take_filter (otherB s k) was j x HX.out, if_pos hf])
                            have HYL : Hid (((was.take j).filter (otherB s k)).length ≤ 2000) := Lib.hid (Nat.le_trans (KeepI.len (f := (otherB s k)) was j) (by omega))
                            clear HI5 hf
                            generalize (was.take j).filter (otherB s k) = ys at *
                            go_wp2_with (first
                              | (at_builtin; refine wp_append_one lieO rfl (.tmp 117) (.tmp 122) 29 rfl w10.heap.size 32 i0 _ 32 Tryd.underlying29 hi hz0 hz1 hz2 rfl (by omega) w5 mo mc ys x [.int .i64 x.p, .int .i64 x.k, .string x.n] rfl rfl HK5.out.1 rfl (by have := HYL.out; omega) HK5.out.2 ?_; intro ko' kc' w6 hrow6 ho6 hnew6
                                 have HK6 := Lib.hid (HTOOK.out ko' kc' w6 hrow6 ho6)
                                 clear hrow6 ho6 hnew6)
                              | fail)
                            go_roundw
                            case rel => exact ⟨j + 1, ko', kc', by go_num, by omega, by rw [HTK.out]; simp, HK6⟩
                            case measure => simp [intOf]; omega
                          | false =>
                            cases ek5 : (k == 5) with
                            | true =>
                              have hf : otherB s k x = true := by unfold otherB isPreF; rw [en, ex4, ex5, ek4, ek5]; rfl
                              clear hx hg1
                              go_wp2_with fail
                              go_quiet (fail)
                              have HI5 := Lib.hid (hI.out.later (Only.drewN (fun _ => False) wr nq))
                              have hcx := HCX.out _ (Only.drewN (fun _ => False) wr nq)
                              clear hI c0 c1 c2 d0 d1 d2 HCX HRW
                              generalize wr.drewN nq = w5 at *
                              obtain ⟨c0, c1, c2⟩ := hcx
                              have HK5 : Hid (RowOf encO 3 32 w10.heap.size mo mc ((was.take j).filter (otherB s k)) w5 ∧ w10.heap.size ≤ w5.heap.size) := Lib.hid ⟨HI5.out.1, HI5.out.2.size⟩
                              have HTOOK : Hid (∀ ko' kc' w6, RowOf encO 3 32 w10.heap.size ko' kc' ((was.take j).filter (otherB s k) ++ [x]) w6 → Only (RowAt mo) w5 w6 → KeepI (otherB s k) was (j + 1) w10 ko' kc' w6) := Lib.hid (fun ko' kc' w6 h1 h2 => (HI5.out.took HX.out hf h1 h2).1)
                              have HTK : Hid ((was.take (j + 1)).filter (otherB s k) = (was.take j).filter (otherB s k) ++ [x]) := Lib.hid (by rw [take_filter (otherB s k) was j x HX.out, if_pos hf])
                              have HYL : Hid (((was.take j).filter (otherB s k)).length ≤ 2000) := Lib.hid (Nat.le_trans (KeepI.len (f := (otherB s k)) was j) (by omega))
                              clear HI5 hf
                              generalize (was.take j).filter (otherB s k) = ys at *
                              go_wp2_with (first
                                | (at_builtin; refine wp_append_one lieO rfl (.tmp 117) (.tmp 122) 29 rfl w10.heap.size 32 i0 _ 32 Tryd.underlying29 hi hz0 hz1 hz2 rfl (by omega) w5 mo mc ys x [.int .i64 x.p, .int .i64 x.k, .string x.n] rfl rfl HK5.out.1 rfl (by have := HYL.out; omega) HK5.out.2 ?_; intro ko' kc' w6 hrow6 ho6 hnew6
                                   have HK6 := Lib.hid (HTOOK.out ko' kc' w6 hrow6 ho6)
                                   clear hrow6 ho6 hnew6)
                                | fail)
                              go_roundw
                              case rel => exact ⟨j + 1, ko', kc', by go_num, by omega, by rw [HTK.out]; simp, HK6⟩
                              case measure => simp [intOf]; omega
                            | false =>
                              have hf : otherB s k x = false := by unfold otherB isPreF; rw [en, ex4, ex5, ek4, ek5]; rfl
                              clear hx hg1
                              go_wp2_with fail
                              go_quiet (fail)
                              have HTK : Hid ((was.take (j + 1)).filter (otherB s k) = (was.take j).filter (otherB s k)) := Lib.hid (by rw [take_filter _ was j x HX.out, if_neg (by rw [hf]; decide)])
                              have HI5 := Lib.hid ((hI.out.not HX.out hf).later (Only.drewN (fun _ => False) wr nq))
                              go_wp2_with fail
                              go_roundw
                              case rel => exact ⟨j + 1, mo, mc, by go_num, by omega, by rw [HTK.out], HI5⟩
                              case measure => simp [intOf]; omega
                  · obtain rfl : j = was.length := by omega
                    have hfin := hI.out
                    rw [KeepI, List.take_length, hlw] at hfin
                    have HOTH := Lib.hid hfin
                    have hfl : fin.length ≤ 2000 := by rw [← hlw]; exact Nat.le_trans (List.length_filter_le _ _) hwl
                    have HSM := Lib.hid (same_any fin _ _ ko mo kc mc wr (rowO_of_row (HLEFT.out.1.only HOTH.out.2 (fun _ _ e => e))) (rowO_of_row HOTH.out.1) (by omega))
                    rw [show (was.take was.length).filter (otherB s k) = fin by rw [List.take_length]; exact hlw]
                    have HO10 := Lib.hid ((HO0.out.same HW8.out).same (HLEFT.out.2.same HOTH.out.2))
                    have HBX : Hid (∀ W, Only (fun _ => False) wr W → OpAt w.heap.size p k s W) := Lib.hid (fun W ho => HB0.out W ((HW8.out.same (HLEFT.out.2.same HOTH.out.2)).same ho))
                    have hgt : ¬ p = 0 → now.length = fin.length + 1 := fun hne => HPP.2.1 (by have := HPP.2.2; omega)
                    clear hfin hI hlt hj HOTH HLEFT hlw HPP HP
                    by_cases hz : p = 0
                    · have e0 : (p == 0) = true := by simpa using hz
                      clear hgt hz
                      go_wp2_with fail
                      refine HSM.out.mono ?_
                      rintro e w11 ⟨rfl, ho⟩
                      have HO11 := Lib.hid (HO10.out.same ho)
                      obtain ⟨d0, d1, d2⟩ := (HBX.out _ ho).cells
                      clear ho
                      go_wp2_with fail
                      go_ret
                      exact ⟨rfl, HO11.out.to_below⟩
                    · have e0 : (p == 0) = false := by simpa using hz
                      have hg := hgt hz
                      have hw1 : wrap64 ((fin.length : Int) + 1) = (fin.length : Int) + 1 := by unfold wrap64; omega
                      have hw2 : ((now.length : Int) == (fin.length : Int) + 1) = true := by rw [hg]; simp
                      clear hgt hz hg
                      go_wp2_with fail
                      refine HSM.out.mono ?_
                      rintro e w11 ⟨rfl, ho⟩
                      have HO11 := Lib.hid (HO10.out.same ho)
                      obtain ⟨d0, d1, d2⟩ := (HBX.out _ ho).cells
                      clear ho
                      go_wp2_with fail
                      go_ret
                      exact ⟨rfl, HO11.out.to_below⟩
          · have HNE : Hid (now = was) := Lib.hid (by
              rw [setI_no hE, setP_no hE] at hnow
              exact all_same HT5.out.2.1 HT5.out.2.2 hnow HWAS.out)
            obtain rfl := HNE.out
            have HSM := Lib.hid (same_any now _ _ wo no wc nc w8 HWR8.out HNR.out (by have := HNL.out; omega))
            generalize setE Di Dp p k s = em at *
            have hem : (em == 0) = false := by simpa using hE
            clear hE hnow
            go_wp2_with fail
            refine HSM.out.mono ?_
            rintro e w9 ⟨rfl, ho⟩
            have HO9 := Lib.hid ((HO0.out.same HW8.out).same ho)
            clear ho
            go_wp2_with fail
            go_ret
            exact ⟨rfl, HO9.out.to_below⟩
    · have i1 : ¬ (1000 : Int) < (s.size : Int) := by omega
      have i2 : (80 : Int) < (l.length : Int) := by omega
      clear hll
      go_enter Tryd.func5, Tryd.ntmps5
      go_wp2_with fail
      generalize w.alloc (opC p k s) = w0 at *
      refine (New_any w0).mono ?_
      rintro e w1 ⟨b, mi, mp, rfl, ht, ho, hb1, hb2, hb3⟩
      have HO := Lib.hid ho
      clear ht ho hb1 hb2 hb3
      go_wp2_with fail
      refine (HLV.out _ (HT.out.later (HO0.out.same HO.out))).mono ?_
      rintro e w2 ⟨rfl, ho⟩
      replace HO := Lib.hid (HO.out.same ho)
      clear ho
      obtain ⟨c0, c1, c2⟩ := (HB0.out _ HO.out).cells
      go_wp2_with fail
      refine (HLV.out _ (HT.out.later (HO0.out.same HO.out))).mono ?_
      rintro e w3 ⟨rfl, ho⟩
      replace HO := Lib.hid (HO.out.same ho)
      clear ho c0 c1 c2
      go_wp2_with fail
      go_ret
      exact ⟨rfl, (HO0.out.same HO.out).to_below⟩
  · have i1 : (1000 : Int) < (s.size : Int) := by omega
    go_enter Tryd.func5, Tryd.ntmps5
    go_wp2_with fail
    generalize w.alloc (opC p k s) = w0 at *
    refine (New_any w0).mono ?_
    rintro e w1 ⟨b, mi, mp, rfl, ht, ho, hb1, hb2, hb3⟩
    have HO := Lib.hid ho
    clear ht ho hb1 hb2 hb3
    go_wp2_with fail
    refine (HLV.out _ (HT.out.later (HO0.out.same HO.out))).mono ?_
    rintro e w2 ⟨rfl, ho⟩
    replace HO := Lib.hid (HO.out.same ho)
    clear ho
    obtain ⟨c0, c1, c2⟩ := (HB0.out _ HO.out).cells
    go_wp2_with fail
    refine (HLV.out _ (HT.out.later (HO0.out.same HO.out))).mono ?_
    rintro e w3 ⟨rfl, ho⟩
    replace HO := Lib.hid (HO.out.same ho)
    clear ho c0 c1 c2
    go_wp2_with fail
    go_ret
    exact ⟨rfl, (HO0.out.same HO.out).to_below⟩
end Go.Proofs.YtodgjkdhkohckaaDoor.opers
