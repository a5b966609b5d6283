/- A segment's rows, told. -/
import Derived.Test.YtaplfibhhdngbaaPool24
import Derived.Test.YtaplfibhhdngbaaPoolMath3
namespace Go.Proofs.Ytaplfibhhdngbaa.pools
open Go.RowKit Go.Proofs.Ytaplfibhhdngbaa.own Go.Proofs.Ytaplfibhhdngbaa.trees Go.Proofs.Ytaplfibhhdngbaa.rows
variable {Sm S : Nat → Prop} {B b k sz : Nat} {so : Option Addr} {scap : Nat} {ao : Option Addr} {cap : Nat} {T : List Int} {f : Nat → Nat} {lim : Nat} {F : List Bool} {St : List Nat} {w w' : World} {o : Nat}
def encR (x : Nat × Nat) : List Value := [.int .i64 x.1, .int .i64 x.2]
theorem liesR : Lies encR 2 := ⟨fun _ => rfl, by intro x u hu; simp [encR] at hu; rcases hu with rfl | rfl <;> rfl, by omega⟩
theorem infoR : (Try.prog.info? 61).map (fun i => (i.zero, i.size, i.bytes)) = some (some (.agg #[.int .i64 0, .int .i64 0]), 2, 16) := by kernel_rfl
theorem FirstF.uniq {a n : Nat} {r r' : Int} (h : FirstF f a n r) (h' : FirstF f a n r') (hn : 1 ≤ n) : r = r' := by
  rcases h with ⟨rfl, hz⟩ | ⟨p, rfl, h1, h2, h3⟩ <;> rcases h' with ⟨rfl, hz'⟩ | ⟨p', rfl, g1, g2, g3⟩
  · rfl
  · have := hz p' g1; omega
  · have := hz' p h1; omega
  · rcases Nat.lt_trichotomy p p' with e | e | e
    · have := g3 p h1 e; omega
    · rw [e]
    · have := h3 p' g1 e; omega
theorem FirstF.some_ (f : Nat → Nat) (a n : Nat) : ∃ r, FirstF f a n r := by
  by_cases h : ∃ q, a ≤ q ∧ n ≤ f q
  · obtain ⟨q, hq⟩ := h
    induction q using Nat.strongRecOn with
    | ind q ih =>
      by_cases h' : ∃ p, p < q ∧ a ≤ p ∧ n ≤ f p
      · obtain ⟨p, h1, h2⟩ := h'
        exact ih p h1 h2
      · exact ⟨q, .inr ⟨q, rfl, hq.1, hq.2, fun p h1 h2 => by
          rcases Nat.lt_or_ge (f p) n with g | g
          · exact g
          · exact absurd ⟨p, h2, h1, g⟩ h'⟩⟩
  · exact ⟨-1, .inl ⟨rfl, fun q hq => by
      rcases Nat.lt_or_ge (f q) n with g | g
      · exact g
      · exact absurd ⟨q, hq, g⟩ h⟩⟩
theorem first_is (a n : Nat) (r : Int) (h : PoolAt Sm S B b k sz so scap ao cap T f lim F St w) (hn : 1 ≤ n) (hn1 : n ≤ 9223372036854775807) (hr : FirstF f a n r) :
    Calls Try.prog 38 #[.pointer (some ⟨b, 3, none⟩), .int .i64 a, .int .i64 n] w fun e w' => e = .returned (.int .i64 r) ∧ w = w' := by
  refine (first_p a n h hn hn1).mono ?_
  rintro e w' ⟨⟨r', rfl, hr'⟩, rfl⟩
  exact ⟨by rw [hr.uniq hr' hn], rfl⟩
/-- A row of a segment ends where the segment does, or ahead of it. -/
theorem PoolAt.row_le (h : PoolAt (· ∈ St) S B b k sz so scap ao cap T f lim F St w) {s q : Nat} (hq : q < endOf St F s) : q + f q ≤ endOf St F s := by
  unfold endOf at hq ⊢
  by_cases e : s + 1 < St.length
  · rw [if_pos e] at hq ⊢
    exact h.inv.stops (getD_mem e) hq
  · rw [if_neg e] at hq ⊢
    rcases Nat.eq_zero_or_pos (f q) with e0 | e0
    · omega
    · exact h.run_le q e0
/-- What Runs answers. -/
def rowsOf (f : Nat → Nat) (F : List Bool) (St : List Nat) (s : Nat) : List (Nat × Nat) := rowsF f (St.getD s 0) (endOf St F s - St.getD s 0)
/-- The rows ahead of x are told; the next one is at r. -/
structure RunsI (f : Nat → Nat) (st E : Nat) (w : World) (ro : Option Addr) (rcap : Nat) (rows : List (Nat × Nat)) (r : Int) (wr : World) : Prop where
  row : RowOf encR 2 61 w.heap.size ro rcap rows wr
  only : Only (fun _ => False) w wr
  told : ∃ x, st ≤ x ∧ x ≤ E ∧ rows = rowsF f st (x - st) ∧ FirstF f x 1 r
theorem RunsI.done {st E : Nat} {ro : Option Addr} {rcap : Nat} {rows : List (Nat × Nat)} {r : Int} {wr : World} (h : RunsI f st E w ro rcap rows r wr) (hr : r < 0 ∨ (E : Int) ≤ r) : rows = rowsF f st (E - st) := by
  obtain ⟨x, h1, h2, h3, h4⟩ := h.told
  rw [h3]
  refine (rowsF_to _ _ (by omega) (fun q g1 g2 => ?_)).symm
  rcases h4 with ⟨_, hz⟩ | ⟨p, rfl, _, _, hz⟩
  · have := hz q (by omega); omega
  · have := hz q (by omega) (by omega); omega
set_option maxRecDepth 100000 in
set_option maxHeartbeats 8000000 in
theorem runs_any (s : Nat) (hs : s < St.length) (h : PoolAt (· ∈ St) S B b k sz so scap ao cap T f lim F St w) :
    Calls Try.prog 21 #[.pointer (some ⟨b, 0, none⟩), .int .i64 s] w fun e w' => ∃ ro rcap, e = .returned (.slice ro (rowsOf f F St s).length rcap) ∧ RowOf encR 2 61 w.heap.size ro rcap (rowsOf f F St s) w' ∧ Only (fun _ => False) w w' := by
  obtain ⟨i0, hi, hz0, hz1, hz2⟩ := info_parts infoR
  have HC := Lib.hid (closed_no h)
  have H := Lib.hid h
  have hsg := h.segs
  have hfew := h.few
  have hroom := h.room
  have c2 := h.c2
  have hend := h.end_le s
  obtain ⟨g, hg, _⟩ := h.start 0 0 h.first
  subst hg
  have cs := start_cell h.starts s hs
  have hse : St.getD s 0 ≤ endOf St F s := by
    unfold endOf
    split
    · exact getD_le h.rising (by omega) (by omega)
    · exact h.below _ (getD_mem hs)
  have hEnd := Lib.hid (end_any s h hs)
  have HRow := Lib.hid (fun q hq => h.row_le (s := s) (q := q) hq)
  have hs0 : ¬ ((s : Int) < 0) := by omega
  have hs1 : ¬ ((s : Int) ≥ (St.length : Int)) := by omega
  unfold rowsOf
  generalize hst : St.getD s 0 = st at *
  generalize hE : endOf St F s = E at *
  clear hst hE
  have hi1 : (s : Int) < (St.length : Int) := by omega
  clear h
  go_enter Try.func21, Try.ntmps21
  go_wp2_with fail
  refine HC.out.mono ?_
  rintro e w1 ⟨rfl, rfl⟩
  go_wp2_with fail
  refine hEnd.out.mono ?_
  rintro e w2 ⟨rfl, ho⟩
  have H2 := Lib.hid (H.out.only ho)
  have HO2 := Lib.hid ho
  have c2 := H2.out.c2
  have cs := (ho.cell (p := ⟨g, s, none⟩) (H.out.starts.head _ rfl).2.2 (fun e => e)).trans cs
  obtain ⟨r, hr⟩ := FirstF.some_ f st 1
  have HR := Lib.hid hr
  have HQ : Hid (∀ N, Calls Try.prog 38 #[.pointer (some ⟨b, 3, none⟩), .int .i64 st, .int .i64 1] (w2.drewN N) fun e w' => e = .returned (.int .i64 r) ∧ w' = w2.drewN N) := Lib.hid (fun N => (first_is st 1 r (H2.out.drewN N) (by omega) (by omega) hr).mono (fun _ _ hh => ⟨hh.1, hh.2.symm⟩))
  clear ho hr
  go_wp2_with fail
  go_quiet ((go_at_call 38; exact Calls.quiet_of_same (HQ.out _)))
  have HI : Hid (RunsI f st E w none 0 [] r (w2.drewN nq)) := Lib.hid ⟨RowOf.nil _ _ _ _ _, HO2.out.same (Only.drewN _ _ _), st, Nat.le_refl _, hse, by rw [Nat.sub_self]; rfl, HR.out⟩
  generalize w2.drewN nq = w3 at *
  have HB : Hid (-1 ≤ r ∧ r < sz) := Lib.hid (by
    rcases HR.out with ⟨rfl, _⟩ | ⟨p, rfl, _, h2, _⟩
    · omega
    · rcases Nat.lt_or_ge p sz with hl | hg
      · omega
      · have := H.out.rest p hg; omega)
  clear c2 cs HR HQ
  go_wp2_with fail
  go_loopw [5, 7] (fun v i wr => ∃ (ro : Option Addr) (rcap : Nat) (rows : List (Nat × Nat)) (r : Int), v = .slice ro rows.length rcap ∧ i = .int .i64 r ∧ -1 ≤ r ∧ r < sz ∧ Hid (RunsI f st E w ro rcap rows r wr)) (fun _ i _ => backM sz (intOf i))
  case atStart => exact ⟨none, 0, [], r, rfl, rfl, HB.out.1, HB.out.2, HI⟩
  case round =>
    obtain ⟨ro, rcap, rows, r, rfl, rfl, hr0, hr1, HI⟩ := hrel
    by_cases hneg : r = -1
    · subst hneg
      have HD := Lib.hid (HI.out.done (.inl (by omega)))
      have HRW := Lib.hid HI.out.row
      have HOW := Lib.hid HI.out.only
      rw [HD.out] at HRW ⊢
      clear HI
      go_wp2_with fail
      go_ret
      exact ⟨ro, rcap, rfl, HRW.out, HOW.out⟩
    · obtain ⟨p, rfl⟩ : ∃ p : Nat, r = p := ⟨r.toNat, by omega⟩
      by_cases hpE : p < E
      · obtain ⟨x, hx1, hx2, hx3, hx4⟩ := HI.out.told
        have hp : x ≤ p ∧ 1 ≤ f p ∧ ∀ q, x ≤ q → q < p → f q < 1 := by
          rcases hx4 with ⟨e, _⟩ | ⟨p', e, h1, h2, h3⟩
          · omega
          · have : p = p' := by omega
            subst this
            exact ⟨h1, h2, h3⟩
        have hsz : 0 < sz := by omega
        have hps : p < sz := by omega
        have hle := HRow.out p hpE
        have hrl : rows.length ≤ 16777216 := by
          rw [hx3]
          have := rowsF_len (f := f) (a := st) (x - st)
          omega
        have HN : Hid (rows ++ [(p, f p)] = rowsF f st (p + f p - st)) := Lib.hid (by
          have h1 : rows = rowsF f st (p - st) := by
            rw [hx3]
            exact (rowsF_to _ _ (by omega) (fun q g1 g2 => by have := hp.2.2 q (by omega) (by omega); omega)).symm
          have h2 := H.out.inv.rowsF_one (a := st) (p - st) (by rw [show st + (p - st) = p by omega]; omega)
          rw [show st + (p - st) = p by omega] at h2
          rw [h1, ← h2]
          congr 1
          omega)
        have HRN := Lib.hid ((H.out.only HI.out.only).runsF hsz)
        have hpm : ((p : Int) != -1) = true := by simp
        have hf1 := hp.2.1
        have hstp : st ≤ p := by omega
        clear hp hx1 hx2 hx3 hx4
        go_wp2_with fail
        refine (at_f p hps HRN.out).mono ?_
        rintro e w4 ⟨rfl, ho⟩
        have HO4 := Lib.hid (HI.out.only.same ho)
        have HROW4 := Lib.hid (HI.out.row.only ho (fun _ _ e => e))
        have hbw := HO4.out.size
        generalize hc : f p = c at *
        have HCc := Lib.hid hc
        clear ho HRN hc HI
        go_wp2_with (first
          | (at_builtin; refine wp_append_one liesR rfl (.tmp 50) (.tmp 54) 45 rfl w.heap.size 61 i0 _ 16 Try.underlying45 hi hz0 hz1 hz2 rfl (by omega) w4 ro rcap rows (p, c) [.int .i64 p, .int .i64 c] rfl rfl HROW4.out rfl hrl hbw ?_; intro ro' rcap' w5 hrow5 ho5 hnew5
             have HO5 := Lib.hid (HO4.out.trans ho5 (by rintro j hj ⟨g', hg', rfl⟩; have := (HROW4.out.head g' hg').2.1; omega)))
          | fail)
        have H5 := Lib.hid (H.out.only HO5.out)
        have HROW5 := Lib.hid hrow5
        rw [show ((p : Int) + (c : Int)) = ((p + c : Nat) : Int) by omega]
        clear hrow5 ho5 hnew5
        refine (first_p (p + c) 1 H5.out (by omega) (by omega)).mono ?_
        rintro e w6 ⟨⟨r', rfl, hr'⟩, rfl⟩
        have HR' := Lib.hid hr'
        have HB' : Hid (-1 ≤ r' ∧ r' < sz ∧ (r' < 0 ∨ (p : Int) < r')) := Lib.hid (by
          rcases hr' with ⟨rfl, _⟩ | ⟨p', rfl, g1, g2, _⟩
          · omega
          · rcases Nat.lt_or_ge p' sz with hl2 | hg2
            · omega
            · have := H.out.rest p' hg2; omega)
        have HN5 : Hid (RunsI f st E w ro' rcap' (rows ++ [(p, c)]) r' w5) := Lib.hid ⟨HROW5.out, HO5.out, p + c, by omega, by omega, HN.out, HR'.out⟩
        clear hr'
        go_wp2_with fail
        go_roundw
        case rel => exact ⟨ro', rcap', rows ++ [(p, c)], r', by simp, rfl, HB'.out.1, HB'.out.2.1, HN5⟩
        case measure => exact backM_lt hps HB'.out.2.2
      · have HD := Lib.hid (HI.out.done (.inr (by omega)))
        have HRW := Lib.hid HI.out.row
        have HOW := Lib.hid HI.out.only
        rw [HD.out] at HRW ⊢
        have hn1 : ((p : Int) != -1) = true := by simp
        have hn2 : ¬ ((p : Int) < (E : Int)) := by omega
        clear HI
        go_wp2_with fail
        go_ret
        exact ⟨ro, rcap, rfl, HRW.out, HOW.out⟩
set_option maxRecDepth 100000 in
theorem runs_out (s : Int) (hs : ¬ (0 ≤ s ∧ s < St.length)) (h : PoolAt Sm S B b k sz so scap ao cap T f lim F St w) :
    Calls Try.prog 21 #[.pointer (some ⟨b, 0, none⟩), .int .i64 s] w fun e w' => e = .returned (.slice none 0 0) ∧ w = w' := by
  have HC := Lib.hid (closed_no h)
  have hsg := h.segs
  have c2 := h.c2
  clear h
  by_cases h0 : s < 0
  · go_enter Try.func21, Try.ntmps21
    go_wp2_with fail
    refine HC.out.mono ?_
    rintro e w1 ⟨rfl, rfl⟩
    go_wp2_with fail
    go_ret
    exact ⟨rfl, rfl⟩
  · have h1 : s ≥ (St.length : Int) := by omega
    go_enter Try.func21, Try.ntmps21
    go_wp2_with fail
    refine HC.out.mono ?_
    rintro e w1 ⟨rfl, rfl⟩
    go_wp2_with fail
    go_ret
    exact ⟨rfl, rfl⟩
end Go.Proofs.Ytaplfibhhdngbaa.pools
