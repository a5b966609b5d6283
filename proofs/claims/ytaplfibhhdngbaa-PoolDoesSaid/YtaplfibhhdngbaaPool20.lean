/- Cells are laid: a row, or a part of one, and what follows: 2 texts in one. -/
import Derived.Test.YtaplfibhhdngbaaPool18
/- Cells are laid: a row, or a part of one. -/
namespace Go.Proofs.Ytaplfibhhdngbaa.pools
section
open Go.RowKit Go.Proofs.Ytaplfibhhdngbaa.own Go.Proofs.Ytaplfibhhdngbaa.trees Go.Proofs.Ytaplfibhhdngbaa.rows
variable {Sm S : Nat → Prop} {B b k sz : Nat} {so : Option Addr} {scap : Nat} {ao : Option Addr} {cap : Nat} {T : List Int} {f : Nat → Nat} {lim : Nat} {F : List Bool} {St : List Nat} {w w' : World} {o : Nat}
/-- Where the laid cells' row begins: at them, or at the row that ends where they begin. -/
def LayR (f : Nat → Nat) (st a r : Nat) : Prop := (r = a ∧ ∀ q, st ≤ q → q < a → q + f q ≠ a) ∨ (st ≤ r ∧ r < a ∧ r + f r = a)
theorem PoolAt.run_le (h : PoolAt Sm S B b k sz so scap ao cap T f lim F St w) (q : Nat) (hq : 0 < f q) : q + f q ≤ F.length := by
  have hfree := (h.inv.run q hq).free
  rcases Nat.lt_or_ge F.length (q + f q) with hl | hg
  · have hx := hfree (q + f q - 1) (by omega) (by omega)
    simp only [List.getD_eq_getElem?_getD] at hx
    rw [List.getElem?_eq_none (by omega)] at hx
    cases hx
  · exact hg
/-- The last row ahead of the cells tells whether one ends there. -/
theorem LayR.none {Sm : Nat → Prop} {fr : Nat → Bool} {f f1 : Nat → Nat} {st a : Nat} (hi : Inv fr Sm f) (ha : 0 < a) (h1 : ∀ q, q < a → f1 q = f q) {r : Int} (hr : LastF f1 (a - 1) r) (hn : ∀ p : Nat, r = p → st ≤ p → p + f1 p ≠ a) : LayR f st a a := by
  refine .inl ⟨rfl, fun q g1 g2 => ?_⟩
  rcases hr with ⟨_, hz⟩ | ⟨p, hp, hp1, hp2, hp3⟩
  · have := hz q (by omega)
    rw [h1 q g2] at this
    omega
  · rcases Nat.lt_trichotomy q p with hl | he | hg
    · rw [h1 p (by omega)] at hp2
      rcases Nat.eq_zero_or_pos (f q) with e | e
      · omega
      · have := hi.apart hl e (by omega)
        omega
    · subst he
      have := hn q hp g1
      rw [h1 q g2] at this
      exact this
    · have := hp3 q hg (by omega)
      rw [h1 q g2] at this
      omega
theorem laid_one {f f1 : Nat → Nat} {sm : Bool} {a n n1 : Nat} (hn : n1 = n + tailOf f sm (a + n)) (hf : f1 = fun q => if q = a + n ∧ sm = false then 0 else f q) : (fun q => if q = a then n1 else f1 q) = laid f sm a a n := by
  funext q
  unfold laid
  subst hf hn
  by_cases e : q = a
  · rw [if_pos e, if_pos e]; omega
  · rw [if_neg e, if_neg e, if_neg e]
theorem laid_two {f f1 : Nat → Nat} {sm : Bool} {a n n1 r : Nat} (hr : r < a) (hn : n1 = n + tailOf f sm (a + n)) (hf : f1 = fun q => if q = a + n ∧ sm = false then 0 else f q) : (fun q => if q = r then n1 + a - r else if q = a then 0 else f1 q) = laid f sm r a n := by
  funext q
  unfold laid
  subst hf hn
  by_cases e : q = r
  · rw [if_pos e, if_pos e]; omega
  · rw [if_neg e, if_neg e]
/-- What the last row ahead of the cells is. -/
inductive LayLast (f : Nat → Nat) (st a : Nat) : Int → Prop
  | less (r : Int) (h0 : -1 ≤ r) (h1 : r < st) (h : LayR f st a a) : LayLast f st a r
  | other (p : Nat) (h1 : p < a) (h2 : st ≤ p) (h3 : p + f p ≠ a) (h : LayR f st a a) : LayLast f st a p
  | join (p : Nat) (h1 : p < a) (h2 : st ≤ p) (h3 : p + f p = a) : LayLast f st a p
theorem last_lay {fr : Nat → Bool} {f1 : Nat → Nat} (a st : Nat) (h : RunsF B b o k sz ao cap f1 T w) (ha : a < sz) (hi : Inv fr Sm f) (h1 : ∀ q, q < a → f1 q = f q) :
    Calls Try.prog 47 #[.pointer (some ⟨b, o, none⟩), .int .i64 ((a : Int) - 1)] w fun e w' => (∃ r, e = .returned (.int .i64 r) ∧ LayLast f st a r) ∧ w = w' := by
  rcases Nat.eq_zero_or_pos a with e | e
  · subst e
    refine (last_neg _ (by omega) w).mono ?_
    rintro e w' ⟨rfl, rfl⟩
    exact ⟨⟨-1, rfl, .less _ (by omega) (by omega) (.inl ⟨rfl, fun q _ hq => by omega⟩)⟩, rfl⟩
  · rw [show ((a : Int) - 1) = ((a - 1 : Nat) : Int) by omega]
    refine (last_f (a - 1) h (by omega)).mono ?_
    rintro e2 w' ⟨⟨r, rfl, hr⟩, rfl⟩
    refine ⟨⟨r, rfl, ?_⟩, rfl⟩
    have hno := LayR.none (st := st) hi e h1 hr
    rcases hr with ⟨rfl, hz⟩ | ⟨p, rfl, hp1, hp2, hp3⟩
    · exact .less _ (by omega) (by omega) (hno (fun p hp _ => by omega))
    · rcases Nat.lt_or_ge p st with hl | hg
      · exact .less _ (by omega) (by omega) (hno (fun p' hp' g => by omega))
      · by_cases hj : p + f p = a
        · exact .join p (by omega) hg hj
        · refine .other p (by omega) hg hj (hno (fun p' hp' g => ?_))
          have : p' = p := by omega
          subst this
          rw [h1 p' (by omega)]
          exact hj
set_option maxRecDepth 100000 in
set_option maxHeartbeats 8000000 in
theorem lay_any (a n s : Nat) (hn : 1 ≤ n) (h : PoolAt Sm S B b k sz so scap ao cap T f lim F St w) (hs : Seg St a s) (hle : a + n ≤ endOf St F s) :
    Calls Try.prog 43 #[.pointer (some ⟨b, 0, none⟩), .int .i64 a, .int .i64 n] w fun e w' => e = .returned (.tuple #[]) ∧ ∃ r T', LayR f (St.getD s 0) a r ∧ RunsF B b 3 k sz ao cap (laid f (decide (endOf St F s ≤ a + n)) r a n) T' w' ∧ Only (RowAt ao) w w' := by
  have hend := h.end_le s
  have hroom := h.room
  have hfew := h.few
  have hlim := h.limit
  have hsg := h.segs
  have hsl := hs.lt
  have hsa := hs.le
  have hsz : 0 < sz := by omega
  have H := Lib.hid h
  have HS := Lib.hid hs
  have HRun := Lib.hid (fun q hq => h.run_le q hq)
  have HSep := Lib.hid h.apart.2.1
  have hnb : ¬ RowAt ao b := fun ⟨g, hg, e⟩ => h.apart.2.1 g hg e.symm
  have HNB := Lib.hid hnb
  have hbl := (h.own b h.inS.1).2
  obtain ⟨g, hg, _⟩ := h.start 0 0 h.first
  have hng : ¬ RowAt ao g := fun ⟨g', hg', e⟩ => h.apart.2.2 _ g' hg hg' e
  have HNG := Lib.hid hng
  have C2 := Lib.hid h.c2
  subst hg
  have hgl : g < w.heap.size := (h.starts.head _ rfl).2.2
  have CS := Lib.hid (start_cell h.starts s hsl)
  have HSg := Lib.hid (segment_in a h (by omega))
  generalize hE : endOf St F s = E at *
  have HE := Lib.hid hE
  generalize hst : St.getD s 0 = st at *
  clear h hs hnb hng hE
  go_enter Try.func43, Try.ntmps43
  go_wp2_with fail
  refine HSg.out.mono ?_
  rintro e w1 ⟨⟨s', rfl, hs'⟩, q, rfl⟩
  have := HS.out.same hs'
  subst this
  clear hs'
  have H1 := Lib.hid (H.out.drewN q)
  have HO1 : Hid (Only (RowAt ao) w (w.drewN q)) := Lib.hid (Only.drewN _ _ _)
  generalize w.drewN q = w2 at *
  go_wp2_with fail
  refine (end_any s H1.out hsl).mono ?_
  rintro e w3 ⟨rfl, ho⟩
  rw [HE.out]
  have HR2 := Lib.hid ((H1.out.only ho).runsF hsz)
  have HO2 := Lib.hid (HO1.out.same (ho.no _))
  clear ho HO1 H1
  rcases Nat.lt_or_ge (a + n) E with hlt | hge
  case' inl =>
    go_wp2_with fail
    refine (at_f (a + n) (by omega) HR2.out).mono ?_
    rintro e w4 ⟨rfl, ho⟩
    have HR3 := Lib.hid (HR2.out.only0 ho)
    have HO3 := Lib.hid (HO2.out.same (ho.no _))
    clear ho HO2 HR2
    have hfa : a + n + f (a + n) ≤ F.length := by
      rcases Nat.eq_zero_or_pos (f (a + n)) with e | e
      · omega
      · exact HRun.out _ e
    have HT : Hid (n + f (a + n) = n + tailOf f (decide (E ≤ a + n)) (a + n)) := Lib.hid (by rw [decide_eq_false (by omega)]; rfl)
    generalize f (a + n) = x at *
    go_wp2_with fail
    refine (set_f (a + n) 0 HR3.out (by omega) (by omega) HSep.out).mono ?_
    rintro e w5 ⟨rfl, T1, hr, ho⟩
    have HR := Lib.hid hr
    have HO := Lib.hid (HO3.out.same ho)
    have hf1 : (fun q => if q = a + n then 0 else f q) = (fun q => if q = a + n ∧ decide (E ≤ a + n) = false then 0 else f q) := by
      rw [decide_eq_false (show ¬ E ≤ a + n by omega)]
      simp
    rw [hf1] at HR
    rw [show ((n : Int) + (x : Int)) = ((n + x : Nat) : Int) by omega]
    generalize hx1 : n + x = n1 at *
    have hn1 : a + n1 ≤ F.length ∧ n ≤ n1 := by omega
    clear hr ho HO3 HR3 hf1 hfa hx1
  case' inr =>
    have hf1 : f = (fun q => if q = a + n ∧ decide (E ≤ a + n) = false then 0 else f q) := by
      rw [decide_eq_true hge]
      simp
    have HR := HR2
    rw [hf1] at HR
    have HO := HO2
    have hge' : ¬ ((a : Int) + (n : Int) < (E : Int)) := by omega
    obtain ⟨n1, hx1⟩ : ∃ m, m = n := ⟨n, rfl⟩
    have hn1 : a + n1 ≤ F.length ∧ n ≤ n1 := by omega
    have HT : Hid (n1 = n + tailOf f (decide (E ≤ a + n)) (a + n)) := Lib.hid (by rw [decide_eq_true hge]; exact hx1)
    go_wp2_with fail
    rw [show (n : Int) = (n1 : Int) by omega]
    have HN1 := Lib.hid hx1
    clear hf1 HO2 HR2 hx1
  all_goals
    obtain ⟨f1, hf1⟩ : ∃ f1, f1 = (fun q => if q = a + n ∧ decide (E ≤ a + n) = false then 0 else f q) := ⟨_, rfl⟩
    rw [← hf1] at HR
    have HA : Hid (∀ q, q < a → f1 q = f q) := Lib.hid (fun q hq => by rw [hf1]; exact if_neg (by omega))
    have HF := Lib.hid hf1
    clear hf1
    go_wp2_with fail
    refine (last_lay a st HR.out (by omega) H.out.inv HA.out).mono ?_
    rintro e w7 ⟨⟨r, rfl, hr⟩, rfl⟩
    have d2 := (HO.out.cell (p := ⟨b, 2, none⟩) hbl HNB.out).trans C2.out
    have ds := (HO.out.cell (p := ⟨g, s, none⟩) hgl HNG.out).trans CS.out
    cases hr with
    | less r h0 h1 hL =>
      have hlt : ¬ ((st : Int) ≤ r) := by omega
      go_wp2_with fail
      refine (set_f a n1 HR.out (by omega) (by omega) HSep.out).mono ?_
      rintro e w8 ⟨rfl, T8, hr, ho⟩
      rw [laid_one HT.out HF.out] at hr
      go_wp2_with fail
      go_end0
      exact ⟨rfl, a, T8, hL, hr, HO.out.same ho⟩
    | other p h1 h2 h3 hL =>
      have hap := HA.out p h1
      have hle2 := HRun.out p
      have hpe : ¬ ((p : Int) + (f p : Int) = (a : Int)) := by omega
      go_wp2_with fail
      refine (at_f p (by omega) HR.out).mono ?_
      rintro e w8 ⟨rfl, ho⟩
      rw [hap]
      have HR8 := Lib.hid (HR.out.only0 ho)
      have HO8 := Lib.hid (HO.out.same (ho.no _))
      have hfp : f p ≤ 1048576 := by omega
      clear ho hle2 h3 hap d2 ds
      generalize f p = x at *
      go_wp2_with fail
      refine (set_f a n1 HR8.out (by omega) (by omega) HSep.out).mono ?_
      rintro e w9 ⟨rfl, T8, hr, ho⟩
      rw [laid_one HT.out HF.out] at hr
      go_wp2_with fail
      go_end0
      exact ⟨rfl, a, T8, hL, hr, HO8.out.same ho⟩
    | join p h1 h2 h3 =>
      have hap := HA.out p h1
      have HJ : Hid (LayR f st a p) := Lib.hid (.inr ⟨h2, h1, h3⟩)
      go_wp2_with fail
      refine (at_f p (by omega) HR.out).mono ?_
      rintro e w8 ⟨rfl, ho⟩
      rw [hap]
      have HR8 := Lib.hid (HR.out.only0 ho)
      have HO8 := Lib.hid (HO.out.same (ho.no _))
      have hfp : f p ≤ 1048576 := by omega
      have hpe : (((p : Int) + (f p : Int)) == (a : Int)) = true := by simp; omega
      clear ho h3 hap d2 ds
      generalize f p = x at *
      go_wp2_with fail
      clear hpe
      refine (set_f a 0 HR8.out (by omega) (by omega) HSep.out).mono ?_
      rintro e w9 ⟨rfl, T9, hr, ho⟩
      have HR9 := Lib.hid hr
      have HO9 := Lib.hid (HO8.out.same ho)
      clear hr ho
      have hbd : (n1 : Int) + (a : Int) ≤ 1048576 := by omega
      have hpa : (p : Int) < (a : Int) := by omega
      go_wp2_with fail
      rw [show ((n1 : Int) + (a : Int) - (p : Int)) = ((n1 + a - p : Nat) : Int) by omega]
      refine (set_f p (n1 + a - p) HR9.out (by omega) (by omega) HSep.out).mono ?_
      rintro e w10 ⟨rfl, T10, hr, ho⟩
      rw [laid_two h1 HT.out HF.out] at hr
      go_wp2_with fail
      go_end0
      exact ⟨rfl, p, T10, HJ.out, hr, HO9.out.same ho⟩
end
end Go.Proofs.Ytaplfibhhdngbaa.pools
/- Cells are given back. -/
namespace Go.Proofs.Ytaplfibhhdngbaa.pools
section
open Go.RowKit Go.Proofs.Ytaplfibhhdngbaa.own Go.Proofs.Ytaplfibhhdngbaa.trees Go.Proofs.Ytaplfibhhdngbaa.rows
variable {Sm S : Nat → Prop} {B b k sz : Nat} {so : Option Addr} {scap : Nat} {ao : Option Addr} {cap : Nat} {T : List Int} {f : Nat → Nat} {lim : Nat} {F : List Bool} {St : List Nat} {w w' : World} {o : Nat}
theorem mem_getD {j : Nat} (h : j ∈ St) : ∃ t, t < St.length ∧ St.getD t 0 = j := by
  obtain ⟨t, ht, e⟩ := List.mem_iff_getElem.1 h
  exact ⟨t, ht, by rw [List.getD_eq_getElem?_getD, List.getElem?_eq_getElem ht]; exact e⟩
theorem getD_mem {t : Nat} (h : t < St.length) : St.getD t 0 ∈ St := by
  rw [List.getD_eq_getElem?_getD, List.getElem?_eq_getElem h]
  exact List.getElem_mem _
/-- No segment begins among cells of one segment. -/
theorem Seg.no_seam {a n s : Nat} (hs : Seg St a s) (hr : St.Pairwise (· ≤ ·)) (hle : a + n ≤ endOf St F s) {j : Nat} (h1 : a < j) (h2 : j < a + n) : j ∉ St := by
  intro hm
  obtain ⟨t, ht, rfl⟩ := mem_getD hm
  rcases Nat.lt_or_ge s t with hl | hg
  · unfold endOf at hle
    rw [if_pos (by omega)] at hle
    have := getD_le hr (show s + 1 ≤ t by omega) ht
    omega
  · have := getD_le hr hg hs.lt
    have := hs.le
    omega
theorem Seg.seam_at {a s : Nat} (hs : Seg St a s) (hr : St.Pairwise (· ≤ ·)) (h : a ∈ St) : a = St.getD s 0 := by
  obtain ⟨t, ht, rfl⟩ := mem_getD h
  rcases Nat.lt_or_ge s t with hl | hg
  · have := hs.gt t hl ht; omega
  · have := getD_le hr hg hs.lt
    have := hs.le
    omega
theorem laid_same {sm sm' : Bool} {r a n : Nat} (h : sm ≠ sm' → f (a + n) = 0) : laid f sm r a n = laid f sm' r a n := by
  by_cases e : sm = sm'
  · rw [e]
  · have h0 := h e
    funext q
    unfold laid tailOf
    have e1 : (if sm = true then 0 else f (a + n)) = 0 := by split; rfl; exact h0
    have e2 : (if sm' = true then 0 else f (a + n)) = 0 := by split; rfl; exact h0
    rw [e1, e2]
    by_cases g1 : q = r
    · rw [if_pos g1, if_pos g1]
    · rw [if_neg g1, if_neg g1]
      by_cases g2 : q = a
      · rw [if_pos g2, if_pos g2]
      · rw [if_neg g2, if_neg g2]
        by_cases g3 : q = a + n
        · subst g3
          rw [h0]
          split <;> split <;> rfl
        · rw [if_neg (fun hh => g3 hh.1), if_neg (fun hh => g3 hh.1)]
/-- Which cells are free when n from a on are given. -/
theorem PoolAt.giving (h : PoolAt (· ∈ St) S B b k sz so scap ao cap T f lim F St w) {a n s r : Nat} (hn : 1 ≤ n) (ha : a < F.length) (hs : Seg St a s) (hle : a + n ≤ endOf St F s) (hoff : ∀ j, a ≤ j → j < a + n → F.getD j false = false) (hr : LayR f (St.getD s 0) a r) :
    Inv (fun j => (put F a true n).getD j false) (· ∈ St) (laid f (decide (endOf St F s ≤ a + n)) r a n) ∧ count (put F a true n) = count F + n := by
  have hend := h.end_le s
  refine ⟨?_, put_on_count F a n (by omega) hoff⟩
  have hst : St.getD s 0 ∈ St := getD_mem hs.lt
  have h0 : (0 : Nat) ∈ St := List.mem_of_getElem? h.first
  have hl := Inv.lay (a := a) (n := n) (r := r) (sm := decide (a + n ∈ St)) h.inv hn hoff (fun j g1 g2 => hs.no_seam h.rising hle g1 g2) (by simp) h0 (by
    rcases hr with ⟨rfl, hz⟩ | ⟨g1, g2, g3⟩
    · refine .inl ⟨rfl, ?_⟩
      by_cases e : r = St.getD s 0
      · left; rw [e]; exact hst
      · right
        have hlt := hs.le
        refine ⟨by omega, ?_⟩
        cases hf : F.getD (r - 1) false with
        | false => rfl
        | true =>
          exfalso
          obtain ⟨q, hq1, hq2⟩ := h.inv.all (r - 1) hf
          have hqs : St.getD s 0 ≤ q := by
            rcases Nat.lt_or_ge q (St.getD s 0) with hl | hg
            · have := h.inv.stops hst hl
              omega
            · exact hg
          have := hz q hqs (by omega)
          have hx : F.getD r false = true := h.inv.free_of (q := q) (j := r) (by omega) (by omega)
          rw [hoff r (by omega) (by omega)] at hx
          cases hx
    · refine .inr ⟨g2, g3, fun hm => ?_⟩
      have := hs.seam_at h.rising hm
      omega)
  rw [laid_same (sm' := decide (endOf St F s ≤ a + n)) (r := r) (f := f) (a := a) (n := n) (fun hne => ?_)] at hl
  · refine hl.congr (fun j => ?_) (fun _ => Iff.rfl) (fun _ => rfl)
    rw [put_get F a true n (by omega)]
    rfl
  · by_cases hm : a + n ∈ St
    · exfalso
      obtain ⟨t, ht, et⟩ := mem_getD hm
      have hts : s < t := by
        rcases Nat.lt_or_ge s t with hl | hg
        · exact hl
        · have := getD_le h.rising hg hs.lt
          have := hs.le
          omega
      have := getD_le h.rising (show s + 1 ≤ t by omega) ht
      have he : endOf St F s ≤ a + n := by
        unfold endOf
        rw [if_pos (by omega)]
        omega
      apply hne
      rw [decide_eq_true hm, decide_eq_true he]
    · by_cases he : endOf St F s ≤ a + n
      · rcases Nat.lt_or_ge (s + 1) St.length with hl | hg
        · exfalso
          apply hm
          have e : endOf St F s = St.getD (s + 1) 0 := by unfold endOf; rw [if_pos hl]
          rw [show a + n = St.getD (s + 1) 0 by omega]
          exact getD_mem hl
        · have e : endOf St F s = F.length := by unfold endOf; rw [if_neg (by omega)]
          rcases Nat.eq_zero_or_pos (f (a + n)) with e0 | e0
          · exact e0
          · have := h.run_le (a + n) e0
            omega
      · exfalso
        apply hne
        rw [decide_eq_false hm, decide_eq_false he]
/-- May n cells from a on be given? -/
def TakenI (St : List Nat) (F : List Bool) (a n : Int) : Prop := 1 ≤ n ∧ 0 ≤ a ∧ Taken St F a.toNat n.toNat
theorem taken_any (a n : Int) (h : PoolAt Sm S B b k sz so scap ao cap T f lim F St w) :
    Calls Try.prog 42 #[.pointer (some ⟨b, 0, none⟩), .int .i64 a, .int .i64 n] w fun e w' => (∃ v, e = .returned (.bool v) ∧ (v = true ↔ TakenI St F a n)) ∧ Only (fun _ => False) w w' := by
  by_cases hn : n < 1
  · refine (taken_small a n hn w).mono ?_
    rintro e w' ⟨rfl, rfl⟩
    exact ⟨⟨false, rfl, by simp [TakenI]; omega⟩, Only.refl _ _⟩
  · by_cases hin : 0 ≤ a ∧ a < (F.length : Int)
    · obtain ⟨a', rfl⟩ : ∃ m : Nat, a = m := ⟨a.toNat, by omega⟩
      obtain ⟨n', rfl⟩ : ∃ m : Nat, n = m := ⟨n.toNat, by omega⟩
      refine (taken_in a' n' (by omega) h (by omega)).mono ?_
      rintro e w' ⟨⟨v, rfl, hv⟩, ho⟩
      refine ⟨⟨v, rfl, hv.trans ?_⟩, ho⟩
      unfold TakenI
      simp only [Int.toNat_natCast]
      exact ⟨fun hh => ⟨by omega, by omega, hh⟩, fun hh => hh.2.2⟩
    · refine (taken_out a n (by omega) h hin).mono ?_
      rintro e w' ⟨rfl, rfl⟩
      refine ⟨⟨false, rfl, ?_⟩, Only.refl _ _⟩
      simp only [Bool.false_eq_true, false_iff]
      rintro ⟨_, h1, _, h2, _⟩
      omega
theorem give_no (a n : Int) (h : PoolAt Sm S B b k sz so scap ao cap T f lim F St w) (hno : ¬ TakenI St F a n) :
    Calls Try.prog 14 #[.pointer (some ⟨b, 0, none⟩), .int .i64 a, .int .i64 n] w fun e w' => e = .returned (.int .i64 1) ∧ Only (fun _ => False) w w' := by
  have HC := Lib.hid (closed_no h)
  have HT := Lib.hid (taken_any a n h)
  have HN := Lib.hid hno
  clear h hno
  go_enter Try.func14, Try.ntmps14
  go_wp2_with fail
  refine HC.out.mono ?_
  rintro e w1 ⟨rfl, rfl⟩
  go_wp2_with fail
  refine HT.out.mono ?_
  rintro e w1 ⟨⟨v, rfl, hv⟩, ho⟩
  have hv : v = false := by
    cases v with
    | false => rfl
    | true => exact absurd (hv.1 rfl) HN.out
  subst hv
  go_wp2_with fail
  go_ret
  exact ⟨rfl, ho⟩
set_option maxRecDepth 100000 in
set_option maxHeartbeats 4000000 in
theorem give_ok (a n : Nat) (h : PoolAt (· ∈ St) S B b k sz so scap ao cap T f lim F St w) (hy : Taken St F a n) :
    Calls Try.prog 14 #[.pointer (some ⟨b, 0, none⟩), .int .i64 a, .int .i64 n] w fun e w' => e = .returned (.int .i64 0) ∧ ∃ f' T', PoolAt (· ∈ St) S B b k sz so scap ao cap T' f' lim (put F a true n) St w' ∧ Only S w w' := by
  have HC := Lib.hid (closed_no h)
  have HT := Lib.hid (taken_any a n h)
  have HY : Hid (TakenI St F a n) := Lib.hid ⟨by have := hy.1; omega, by omega, by simpa using hy⟩
  obtain ⟨hn, ha, ⟨s, hs, hle⟩, hoff⟩ := hy
  have hend := h.end_le s
  have hroom := h.room
  have hfew := h.few
  have hsz : 0 < sz := by omega
  have H := Lib.hid h
  have HS := Lib.hid hs
  have HG := Lib.hid (fun r hr => h.giving (r := r) hn ha hs hle hoff hr)
  have hbl := (h.own b h.inS.1).2
  have HNB : Hid (¬ RowAt ao b) := Lib.hid (fun ⟨g, hg, e⟩ => h.apart.2.1 g hg e.symm)
  have C5 := Lib.hid h.c5
  have FZ := Lib.hid (free_of_blk h.blk 5)
  have hcl := count_le F
  generalize hc : count F = c at *
  have HCnt := Lib.hid hc
  clear h hs hoff hc
  go_enter Try.func14, Try.ntmps14
  go_wp2_with fail
  refine HC.out.mono ?_
  rintro e w1 ⟨rfl, rfl⟩
  go_wp2_with fail
  refine HT.out.mono ?_
  rintro e w1 ⟨⟨v, rfl, hv⟩, ho⟩
  have hv : v = true := hv.2 HY.out
  subst hv
  have H1 := Lib.hid (H.out.only ho)
  have HO1 : Hid (Only (RowAt ao) w w1) := Lib.hid (ho.no _)
  clear ho
  go_wp2_with fail
  refine (lay_any a n s hn H1.out HS.out hle).mono ?_
  rintro e w2 ⟨rfl, r, T2, hL, hr, ho⟩
  have HI := Lib.hid (HG.out r hL)
  have HR := Lib.hid hr
  have HO := Lib.hid (HO1.out.same ho)
  clear hL hr ho HO1 H1
  have d5 : w2.cell? ⟨b, 5, none⟩ = some (.int .i64 c) := (HO.out.cell (p := ⟨b, 5, none⟩) hbl HNB.out).trans C5.out
  have g5 : w2.frozen? ⟨b, 5, none⟩ = false := (HO.out.frozen (p := ⟨b, 5, none⟩) hbl HNB.out).trans FZ.out
  have hcb : (c : Int) + (n : Int) ≤ 1048576 := by
    have := count_le (put F a true n)
    rw [HI.out.2, put_len] at this
    omega
  clear hv hle hend hroom hfew hn ha
  go_wp2_with fail
  rw [show ((c : Int) + (n : Int)) = (count (put F a true n) : Int) by rw [HI.out.2]; omega]
  go_ret
  exact ⟨rfl, _, T2, H.out.again hsz HR.out HO.out HI.out.1 (put_len F a true n) rfl⟩
end
end Go.Proofs.Ytaplfibhhdngbaa.pools
