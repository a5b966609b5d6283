/- Cells are laid: a row, or a part of one. -/
import Derived.Test.YtaplfibhhdngbaaPool18
namespace Go.Proofs.Ytaplfibhhdngbaa.pools
open Go.RowKit Go.Proofs.Ytaplfibhhdngbaa.own Go.Proofs.Ytaplfibhhdngbaa.trees Go.Proofs.Ytaplfibhhdngbaa.rows
variable {Sm S : Nat → Prop} {B b k sz : Nat} {so : Option Addr} {scap : Nat} {ao : Option Addr} {cap : Nat} {T : List Int} {f : Nat → Nat} {lim : Nat} {F : List Bool} {St : List Nat} {w w' : World} {o : Nat}
/-- Where the laid cells' row begins: at them, or at the row that ends where they begin. -/
def LayR (f : Nat → Nat) (st a r : Nat) : Prop := (r = a ∧ ∀ q, st ≤ q → q < a → q + f q ≠ a) ∨ (st ≤ r ∧ r < a ∧ r + f r = a)
theorem PoolAt.run_le (h : PoolAt Sm S B b k sz so scap ao cap T f lim F St w) (q : Nat) (hq : 0 < f q) : q + f q ≤ F.length := by
  have hfree := (h.inv.run q hq).free
  rcases Nat.lt_or_ge F.length (q + f q) with hl | hg
  · have hx := hfree (q + f q - 1) (by omega) (by omega)
    simp only [List.getD_eq_getElem?_getD] at hx
    rw [List.getElem?_eq_none (by omega)] at hx
    cases hx
  · exact hg
/-- The last row ahead of the cells tells whether one ends there. -/
theorem LayR.none {Sm : Nat → Prop} {fr : Nat → Bool} {f f1 : Nat → Nat} {st a : Nat} (hi : Inv fr Sm f) (ha : 0 < a) (h1 : ∀ q, q < a → f1 q = f q) {r : Int} (hr : LastF f1 (a - 1) r) (hn : ∀ p : Nat, r = p → st ≤ p → p + f1 p ≠ a) : LayR f st a a := by
  refine .inl ⟨rfl, fun q g1 g2 => ?_⟩
  rcases hr with ⟨_, hz⟩ | ⟨p, hp, hp1, hp2, hp3⟩
  · have := hz q (by omega)
    rw [h1 q g2] at this
    omega
  · rcases Nat.lt_trichotomy q p with hl | he | hg
    · rw [h1 p (by omega)] at hp2
      rcases Nat.eq_zero_or_pos (f q) with e | e
      · omega
      · have := hi.apart hl e (by omega)
        omega
    · subst he
      have := hn q hp g1
      rw [h1 q g2] at this
      exact this
    · have := hp3 q hg (by omega)
      rw [h1 q g2] at this
      omega
theorem laid_one {f f1 : Nat → Nat} {sm : Bool} {a n n1 : Nat} (hn : n1 = n + tailOf f sm (a + n)) (hf : f1 = fun q => if q = a + n ∧ sm = false then 0 else f q) : (fun q => if q = a then n1 else f1 q) = laid f sm a a n := by
  funext q
  unfold laid
  subst hf hn
  by_cases e : q = a
  · rw [if_pos e, if_pos e]; omega
  · rw [if_neg e, if_neg e, if_neg e]
theorem laid_two {f f1 : Nat → Nat} {sm : Bool} {a n n1 r : Nat} (hr : r < a) (hn : n1 = n + tailOf f sm (a + n)) (hf : f1 = fun q => if q = a + n ∧ sm = false then 0 else f q) : (fun q => if q = r then n1 + a - r else if q = a then 0 else f1 q) = laid f sm r a n := by
  funext q
  unfold laid
  subst hf hn
  by_cases e : q = r
  · rw [if_pos e, if_pos e]; omega
  · rw [if_neg e, if_neg e]
/-- What the last row ahead of the cells is. -/
inductive LayLast (f : Nat → Nat) (st a : Nat) : Int → Prop
  | less (r : Int) (h0 : -1 ≤ r) (h1 : r < st) (h : LayR f st a a) : LayLast f st a r
  | other (p : Nat) (h1 : p < a) (h2 : st ≤ p) (h3 : p + f p ≠ a) (h : LayR f st a a) : LayLast f st a p
  | join (p : Nat) (h1 : p < a) (h2 : st ≤ p) (h3 : p + f p = a) : LayLast f st a p
theorem last_lay {fr : Nat → Bool} {f1 : Nat → Nat} (a st : Nat) (h : RunsF B b o k sz ao cap f1 T w) (ha : a < sz) (hi : Inv fr Sm f) (h1 : ∀ q, q < a → f1 q = f q) :
    Calls Try.prog 47 #[.pointer (some ⟨b, o, none⟩), .int .i64 ((a : Int) - 1)] w fun e w' => (∃ r, e = .returned (.int .i64 r) ∧ LayLast f st a r) ∧ w = w' := by
  rcases Nat.eq_zero_or_pos a with e | e
  · subst e
    refine (last_neg _ (by omega) w).mono ?_
    rintro e w' ⟨rfl, rfl⟩
    exact ⟨⟨-1, rfl, .less _ (by omega) (by omega) (.inl ⟨rfl, fun q _ hq => by omega⟩)⟩, rfl⟩
  · rw [show ((a : Int) - 1) = ((a - 1 : Nat) : Int) by omega]
    refine (last_f (a - 1) h (by omega)).mono ?_
    rintro e2 w' ⟨⟨r, rfl, hr⟩, rfl⟩
    refine ⟨⟨r, rfl, ?_⟩, rfl⟩
    have hno := LayR.none (st := st) hi e h1 hr
    rcases hr with ⟨rfl, hz⟩ | ⟨p, rfl, hp1, hp2, hp3⟩
    · exact .less _ (by omega) (by omega) (hno (fun p hp _ => by omega))
    · rcases Nat.lt_or_ge p st with hl | hg
      · exact .less _ (by omega) (by omega) (hno (fun p' hp' g => by omega))
      · by_cases hj : p + f p = a
        · exact .join p (by omega) hg hj
        · refine .other p (by omega) hg hj (hno (fun p' hp' g => ?_))
          have : p' = p := by omega
          subst this
          rw [h1 p' (by omega)]
          exact hj
set_option maxRecDepth 100000 in
set_option maxHeartbeats 8000000 in
theorem lay_any (a n s : Nat) (hn : 1 ≤ n) (h : PoolAt Sm S B b k sz so scap ao cap T f lim F St w) (hs : Seg St a s) (hle : a + n ≤ endOf St F s) :
    Calls Try.prog 43 #[.pointer (some ⟨b, 0, none⟩), .int .i64 a, .int .i64 n] w fun e w' => e = .returned (.tuple #[]) ∧ ∃ r T', LayR f (St.getD s 0) a r ∧ RunsF B b 3 k sz ao cap (laid f (decide (endOf St F s ≤ a + n)) r a n) T' w' ∧ Only (RowAt ao) w w' := by
  have hend := h.end_le s
  have hroom := h.room
  have hfew := h.few
  have hlim := h.limit
  have hsg := h.segs
  have hsl := hs.lt
  have hsa := hs.le
  have hsz : 0 < sz := by omega
  have H := Lib.hid h
  have HS := Lib.hid hs
  have HRun := Lib.hid (fun q hq => h.run_le q hq)
  have HSep := Lib.hid h.apart.2.1
  have hnb : ¬ RowAt ao b := fun ⟨g, hg, e⟩ => h.apart.2.1 g hg e.symm
  have HNB := Lib.hid hnb
  have hbl := (h.own b h.inS.1).2
  obtain ⟨g, hg, _⟩ := h.start 0 0 h.first
  have hng : ¬ RowAt ao g := fun ⟨g', hg', e⟩ => h.apart.2.2 _ g' hg hg' e
  have HNG := Lib.hid hng
  have C2 := Lib.hid h.c2
  subst hg
  have hgl : g < w.heap.size := (h.starts.head _ rfl).2.2
  have CS := Lib.hid (start_cell h.starts s hsl)
  have HSg := Lib.hid (segment_in a h (by omega))
  generalize hE : endOf St F s = E at *
  have HE := Lib.hid hE
  generalize hst : St.getD s 0 = st at *
  clear h hs hnb hng hE
  go_enter Try.func43, Try.ntmps43
  go_wp2_with fail
  refine HSg.out.mono ?_
  rintro e w1 ⟨⟨s', rfl, hs'⟩, q, rfl⟩
  have := HS.out.same hs'
  subst this
  clear hs'
  have H1 := Lib.hid (H.out.drewN q)
  have HO1 : Hid (Only (RowAt ao) w (w.drewN q)) := Lib.hid (Only.drewN _ _ _)
  generalize w.drewN q = w2 at *
  go_wp2_with fail
  refine (end_any s H1.out hsl).mono ?_
  rintro e w3 ⟨rfl, ho⟩
  rw [HE.out]
  have HR2 := Lib.hid ((H1.out.only ho).runsF hsz)
  have HO2 := Lib.hid (HO1.out.same (ho.no _))
  clear ho HO1 H1
  rcases Nat.lt_or_ge (a + n) E with hlt | hge
  case' inl =>
    go_wp2_with fail
    refine (at_f (a + n) (by omega) HR2.out).mono ?_
    rintro e w4 ⟨rfl, ho⟩
    have HR3 := Lib.hid (HR2.out.only0 ho)
    have HO3 := Lib.hid (HO2.out.same (ho.no _))
    clear ho HO2 HR2
    have hfa : a + n + f (a + n) ≤ F.length := by
      rcases Nat.eq_zero_or_pos (f (a + n)) with e | e
      · omega
      · exact HRun.out _ e
    have HT : Hid (n + f (a + n) = n + tailOf f (decide (E ≤ a + n)) (a + n)) := Lib.hid (by rw [decide_eq_false (by omega)]; rfl)
    generalize f (a + n) = x at *
    go_wp2_with fail
    refine (set_f (a + n) 0 HR3.out (by omega) (by omega) HSep.out).mono ?_
    rintro e w5 ⟨rfl, T1, hr, ho⟩
    have HR := Lib.hid hr
    have HO := Lib.hid (HO3.out.same ho)
    have hf1 : (fun q => if q = a + n then 0 else f q) = (fun q => if q = a + n ∧ decide (E ≤ a + n) = false then 0 else f q) := by
      rw [decide_eq_false (show ¬ E ≤ a + n by omega)]
      simp
    rw [hf1] at HR
    rw [show ((n : Int) + (x : Int)) = ((n + x : Nat) : Int) by omega]
    generalize hx1 : n + x = n1 at *
    have hn1 : a + n1 ≤ F.length ∧ n ≤ n1 := by omega
    clear hr ho HO3 HR3 hf1 hfa hx1
  case' inr =>
    have hf1 : f = (fun q => if q = a + n ∧ decide (E ≤ a + n) = false then 0 else f q) := by
      rw [decide_eq_true hge]
      simp
    have HR := HR2
    rw [hf1] at HR
    have HO := HO2
    have hge' : ¬ ((a : Int) + (n : Int) < (E : Int)) := by omega
    obtain ⟨n1, hx1⟩ : ∃ m, m = n := ⟨n, rfl⟩
    have hn1 : a + n1 ≤ F.length ∧ n ≤ n1 := by omega
    have HT : Hid (n1 = n + tailOf f (decide (E ≤ a + n)) (a + n)) := Lib.hid (by rw [decide_eq_true hge]; exact hx1)
    go_wp2_with fail
    rw [show (n : Int) = (n1 : Int) by omega]
    have HN1 := Lib.hid hx1
    clear hf1 HO2 HR2 hx1
  all_goals
    obtain ⟨f1, hf1⟩ : ∃ f1, f1 = (fun q => if q = a + n ∧ decide (E ≤ a + n) = false then 0 else f q) := ⟨_, rfl⟩
    rw [← hf1] at HR
    have HA : Hid (∀ q, q < a → f1 q = f q) := Lib.hid (fun q hq => by rw [hf1]; exact if_neg (by omega))
    have HF := Lib.hid hf1
    clear hf1
    go_wp2_with fail
    refine (last_lay a st HR.out (by omega) H.out.inv HA.out).mono ?_
    rintro e w7 ⟨⟨r, rfl, hr⟩, rfl⟩
    have d2 := (HO.out.cell (p := ⟨b, 2, none⟩) hbl HNB.out).trans C2.out
    have ds := (HO.out.cell (p := ⟨g, s, none⟩) hgl HNG.out).trans CS.out
    cases hr with
    | less r h0 h1 hL =>
      have hlt : ¬ ((st : Int) ≤ r) := by omega
      go_wp2_with fail
      refine (set_f a n1 HR.out (by omega) (by omega) HSep.out).mono ?_
      rintro e w8 ⟨rfl, T8, hr, ho⟩
      rw [laid_one HT.out HF.out] at hr
      go_wp2_with fail
      go_end0
      exact ⟨rfl, a, T8, hL, hr, HO.out.same ho⟩
    | other p h1 h2 h3 hL =>
      have hap := HA.out p h1
      have hle2 := HRun.out p
      have hpe : ¬ ((p : Int) + (f p : Int) = (a : Int)) := by omega
      go_wp2_with fail
      refine (at_f p (by omega) HR.out).mono ?_
      rintro e w8 ⟨rfl, ho⟩
      rw [hap]
      have HR8 := Lib.hid (HR.out.only0 ho)
      have HO8 := Lib.hid (HO.out.same (ho.no _))
      have hfp : f p ≤ 1048576 := by omega
      clear ho hle2 h3 hap d2 ds
      generalize f p = x at *
      go_wp2_with fail
      refine (set_f a n1 HR8.out (by omega) (by omega) HSep.out).mono ?_
      rintro e w9 ⟨rfl, T8, hr, ho⟩
      rw [laid_one HT.out HF.out] at hr
      go_wp2_with fail
      go_end0
      exact ⟨rfl, a, T8, hL, hr, HO8.out.same ho⟩
    | join p h1 h2 h3 =>
      have hap := HA.out p h1
      have HJ : Hid (LayR f st a p) := Lib.hid (.inr ⟨h2, h1, h3⟩)
      go_wp2_with fail
      refine (at_f p (by omega) HR.out).mono ?_
      rintro e w8 ⟨rfl, ho⟩
      rw [hap]
      have HR8 := Lib.hid (HR.out.only0 ho)
      have HO8 := Lib.hid (HO.out.same (ho.no _))
      have hfp : f p ≤ 1048576 := by omega
      have hpe : (((p : Int) + (f p : Int)) == (a : Int)) = true := by simp; omega
      clear ho h3 hap d2 ds
      generalize f p = x at *
      go_wp2_with fail
      clear hpe
      refine (set_f a 0 HR8.out (by omega) (by omega) HSep.out).mono ?_
      rintro e w9 ⟨rfl, T9, hr, ho⟩
      have HR9 := Lib.hid hr
      have HO9 := Lib.hid (HO8.out.same ho)
      clear hr ho
      have hbd : (n1 : Int) + (a : Int) ≤ 1048576 := by omega
      have hpa : (p : Int) < (a : Int) := by omega
      go_wp2_with fail
      rw [show ((n1 : Int) + (a : Int) - (p : Int)) = ((n1 + a - p : Nat) : Int) by omega]
      refine (set_f p (n1 + a - p) HR9.out (by omega) (by omega) HSep.out).mono ?_
      rintro e w10 ⟨rfl, T10, hr, ho⟩
      rw [laid_two h1 HT.out HF.out] at hr
      go_wp2_with fail
      go_end0
      exact ⟨rfl, p, T10, HJ.out, hr, HO9.out.same ho⟩
end Go.Proofs.Ytaplfibhhdngbaa.pools
