/- A segment's rows, told, and what follows: 3 texts in one. -/
import Derived.Test.YtaplfibhhdngbaaPool24
import Derived.Test.YtaplfibhhdngbaaPoolMath
import Derived.Test.YtaplfibhhdngbaaPoolMath
/- A segment's rows, told. -/
namespace Go.Proofs.Ytaplfibhhdngbaa.pools
section
open Go.RowKit Go.Proofs.Ytaplfibhhdngbaa.own Go.Proofs.Ytaplfibhhdngbaa.trees Go.Proofs.Ytaplfibhhdngbaa.rows
variable {Sm S : Nat → Prop} {B b k sz : Nat} {so : Option Addr} {scap : Nat} {ao : Option Addr} {cap : Nat} {T : List Int} {f : Nat → Nat} {lim : Nat} {F : List Bool} {St : List Nat} {w w' : World} {o : Nat}
def encR (x : Nat × Nat) : List Value := [.int .i64 x.1, .int .i64 x.2]
theorem liesR : Lies encR 2 := ⟨fun _ => rfl, by intro x u hu; simp [encR] at hu; rcases hu with rfl | rfl <;> rfl, by omega⟩
theorem infoR : (Try.prog.info? 61).map (fun i => (i.zero, i.size, i.bytes)) = some (some (.agg #[.int .i64 0, .int .i64 0]), 2, 16) := by kernel_rfl
theorem FirstF.uniq {a n : Nat} {r r' : Int} (h : FirstF f a n r) (h' : FirstF f a n r') (hn : 1 ≤ n) : r = r' := by
  rcases h with ⟨rfl, hz⟩ | ⟨p, rfl, h1, h2, h3⟩ <;> rcases h' with ⟨rfl, hz'⟩ | ⟨p', rfl, g1, g2, g3⟩
  · rfl
  · have := hz p' g1; omega
  · have := hz' p h1; omega
  · rcases Nat.lt_trichotomy p p' with e | e | e
    · have := g3 p h1 e; omega
    · rw [e]
    · have := h3 p' g1 e; omega
theorem FirstF.some_ (f : Nat → Nat) (a n : Nat) : ∃ r, FirstF f a n r := by
  by_cases h : ∃ q, a ≤ q ∧ n ≤ f q
  · obtain ⟨q, hq⟩ := h
    induction q using Nat.strongRecOn with
    | ind q ih =>
      by_cases h' : ∃ p, p < q ∧ a ≤ p ∧ n ≤ f p
      · obtain ⟨p, h1, h2⟩ := h'
        exact ih p h1 h2
      · exact ⟨q, .inr ⟨q, rfl, hq.1, hq.2, fun p h1 h2 => by
          rcases Nat.lt_or_ge (f p) n with g | g
          · exact g
          · exact absurd ⟨p, h2, h1, g⟩ h'⟩⟩
  · exact ⟨-1, .inl ⟨rfl, fun q hq => by
      rcases Nat.lt_or_ge (f q) n with g | g
      · exact g
      · exact absurd ⟨q, hq, g⟩ h⟩⟩
theorem first_is (a n : Nat) (r : Int) (h : PoolAt Sm S B b k sz so scap ao cap T f lim F St w) (hn : 1 ≤ n) (hn1 : n ≤ 9223372036854775807) (hr : FirstF f a n r) :
    Calls Try.prog 38 #[.pointer (some ⟨b, 3, none⟩), .int .i64 a, .int .i64 n] w fun e w' => e = .returned (.int .i64 r) ∧ w = w' := by
  refine (first_p a n h hn hn1).mono ?_
  rintro e w' ⟨⟨r', rfl, hr'⟩, rfl⟩
  exact ⟨by rw [hr.uniq hr' hn], rfl⟩
/-- A row of a segment ends where the segment does, or ahead of it. -/
theorem PoolAt.row_le (h : PoolAt (· ∈ St) S B b k sz so scap ao cap T f lim F St w) {s q : Nat} (hq : q < endOf St F s) : q + f q ≤ endOf St F s := by
  unfold endOf at hq ⊢
  by_cases e : s + 1 < St.length
  · rw [if_pos e] at hq ⊢
    exact h.inv.stops (getD_mem e) hq
  · rw [if_neg e] at hq ⊢
    rcases Nat.eq_zero_or_pos (f q) with e0 | e0
    · omega
    · exact h.run_le q e0
/-- What Runs answers. -/
def rowsOf (f : Nat → Nat) (F : List Bool) (St : List Nat) (s : Nat) : List (Nat × Nat) := rowsF f (St.getD s 0) (endOf St F s - St.getD s 0)
/-- The rows ahead of x are told; the next one is at r. -/
structure RunsI (f : Nat → Nat) (st E : Nat) (w : World) (ro : Option Addr) (rcap : Nat) (rows : List (Nat × Nat)) (r : Int) (wr : World) : Prop where
  row : RowOf encR 2 61 w.heap.size ro rcap rows wr
  only : Only (fun _ => False) w wr
  told : ∃ x, st ≤ x ∧ x ≤ E ∧ rows = rowsF f st (x - st) ∧ FirstF f x 1 r
theorem RunsI.done {st E : Nat} {ro : Option Addr} {rcap : Nat} {rows : List (Nat × Nat)} {r : Int} {wr : World} (h : RunsI f st E w ro rcap rows r wr) (hr : r < 0 ∨ (E : Int) ≤ r) : rows = rowsF f st (E - st) := by
  obtain ⟨x, h1, h2, h3, h4⟩ := h.told
  rw [h3]
  refine (rowsF_to _ _ (by omega) (fun q g1 g2 => ?_)).symm
  rcases h4 with ⟨_, hz⟩ | ⟨p, rfl, _, _, hz⟩
  · have := hz q (by omega); omega
  · have := hz q (by omega) (by omega); omega
set_option maxRecDepth 100000 in
set_option maxHeartbeats 8000000 in
theorem runs_any (s : Nat) (hs : s < St.length) (h : PoolAt (· ∈ St) S B b k sz so scap ao cap T f lim F St w) :
    Calls Try.prog 21 #[.pointer (some ⟨b, 0, none⟩), .int .i64 s] w fun e w' => ∃ ro rcap, e = .returned (.slice ro (rowsOf f F St s).length rcap) ∧ RowOf encR 2 61 w.heap.size ro rcap (rowsOf f F St s) w' ∧ Only (fun _ => False) w w' := by
  obtain ⟨i0, hi, hz0, hz1, hz2⟩ := info_parts infoR
  have HC := Lib.hid (closed_no h)
  have H := Lib.hid h
  have hsg := h.segs
  have hfew := h.few
  have hroom := h.room
  have c2 := h.c2
  have hend := h.end_le s
  obtain ⟨g, hg, _⟩ := h.start 0 0 h.first
  subst hg
  have cs := start_cell h.starts s hs
  have hse : St.getD s 0 ≤ endOf St F s := by
    unfold endOf
    split
    · exact getD_le h.rising (by omega) (by omega)
    · exact h.below _ (getD_mem hs)
  have hEnd := Lib.hid (end_any s h hs)
  have HRow := Lib.hid (fun q hq => h.row_le (s := s) (q := q) hq)
  have hs0 : ¬ ((s : Int) < 0) := by omega
  have hs1 : ¬ ((s : Int) ≥ (St.length : Int)) := by omega
  unfold rowsOf
  generalize hst : St.getD s 0 = st at *
  generalize hE : endOf St F s = E at *
  clear hst hE
  have hi1 : (s : Int) < (St.length : Int) := by omega
  clear h
  go_enter Try.func21, Try.ntmps21
  go_wp2_with fail
  refine HC.out.mono ?_
  rintro e w1 ⟨rfl, rfl⟩
  go_wp2_with fail
  refine hEnd.out.mono ?_
  rintro e w2 ⟨rfl, ho⟩
  have H2 := Lib.hid (H.out.only ho)
  have HO2 := Lib.hid ho
  have c2 := H2.out.c2
  have cs := (ho.cell (p := ⟨g, s, none⟩) (H.out.starts.head _ rfl).2.2 (fun e => e)).trans cs
  obtain ⟨r, hr⟩ := FirstF.some_ f st 1
  have HR := Lib.hid hr
  have HQ : Hid (∀ N, Calls Try.prog 38 #[.pointer (some ⟨b, 3, none⟩), .int .i64 st, .int .i64 1] (w2.drewN N) fun e w' => e = .returned (.int .i64 r) ∧ w' = w2.drewN N) := Lib.hid (fun N => (first_is st 1 r (H2.out.drewN N) (by omega) (by omega) hr).mono (fun _ _ hh => ⟨hh.1, hh.2.symm⟩))
  clear ho hr
  go_wp2_with fail
  go_quiet ((go_at_call 38; exact Calls.quiet_of_same (HQ.out _)))
  have HI : Hid (RunsI f st E w none 0 [] r (w2.drewN nq)) := Lib.hid ⟨RowOf.nil _ _ _ _ _, HO2.out.same (Only.drewN _ _ _), st, Nat.le_refl _, hse, by rw [Nat.sub_self]; rfl, HR.out⟩
  generalize w2.drewN nq = w3 at *
  have HB : Hid (-1 ≤ r ∧ r < sz) := Lib.hid (by
    rcases HR.out with ⟨rfl, _⟩ | ⟨p, rfl, _, h2, _⟩
    · omega
    · rcases Nat.lt_or_ge p sz with hl | hg
      · omega
      · have := H.out.rest p hg; omega)
  clear c2 cs HR HQ
  go_wp2_with fail
  go_loopw [5, 7] (fun v i wr => ∃ (ro : Option Addr) (rcap : Nat) (rows : List (Nat × Nat)) (r : Int), v = .slice ro rows.length rcap ∧ i = .int .i64 r ∧ -1 ≤ r ∧ r < sz ∧ Hid (RunsI f st E w ro rcap rows r wr)) (fun _ i _ => backM sz (intOf i))
  case atStart => exact ⟨none, 0, [], r, rfl, rfl, HB.out.1, HB.out.2, HI⟩
  case round =>
    obtain ⟨ro, rcap, rows, r, rfl, rfl, hr0, hr1, HI⟩ := hrel
    by_cases hneg : r = -1
    · subst hneg
      have HD := Lib.hid (HI.out.done (.inl (by omega)))
      have HRW := Lib.hid HI.out.row
      have HOW := Lib.hid HI.out.only
      rw [HD.out] at HRW ⊢
      clear HI
      go_wp2_with fail
      go_ret
      exact ⟨ro, rcap, rfl, HRW.out, HOW.out⟩
    · obtain ⟨p, rfl⟩ : ∃ p : Nat, r = p := ⟨r.toNat, by omega⟩
      by_cases hpE : p < E
      · obtain ⟨x, hx1, hx2, hx3, hx4⟩ := HI.out.told
        have hp : x ≤ p ∧ 1 ≤ f p ∧ ∀ q, x ≤ q → q < p → f q < 1 := by
          rcases hx4 with ⟨e, _⟩ | ⟨p', e, h1, h2, h3⟩
          · omega
          · have : p = p' := by omega
            subst this
            exact ⟨h1, h2, h3⟩
        have hsz : 0 < sz := by omega
        have hps : p < sz := by omega
        have hle := HRow.out p hpE
        have hrl : rows.length ≤ 16777216 := by
          rw [hx3]
          have := rowsF_len (f := f) (a := st) (x - st)
          omega
        have HN : Hid (rows ++ [(p, f p)] = rowsF f st (p + f p - st)) := Lib.hid (by
          have h1 : rows = rowsF f st (p - st) := by
            rw [hx3]
            exact (rowsF_to _ _ (by omega) (fun q g1 g2 => by have := hp.2.2 q (by omega) (by omega); omega)).symm
          have h2 := H.out.inv.rowsF_one (a := st) (p - st) (by rw [show st + (p - st) = p by omega]; omega)
          rw [show st + (p - st) = p by omega] at h2
          rw [h1, ← h2]
          congr 1
          omega)
        have HRN := Lib.hid ((H.out.only HI.out.only).runsF hsz)
        have hpm : ((p : Int) != -1) = true := by simp
        have hf1 := hp.2.1
        have hstp : st ≤ p := by omega
        clear hp hx1 hx2 hx3 hx4
        go_wp2_with fail
        refine (at_f p hps HRN.out).mono ?_
        rintro e w4 ⟨rfl, ho⟩
        have HO4 := Lib.hid (HI.out.only.same ho)
        have HROW4 := Lib.hid (HI.out.row.only ho (fun _ _ e => e))
        have hbw := HO4.out.size
        generalize hc : f p = c at *
        have HCc := Lib.hid hc
        clear ho HRN hc HI
        go_wp2_with (first
          | (at_builtin; refine wp_append_one liesR rfl (.tmp 50) (.tmp 54) 45 rfl w.heap.size 61 i0 _ 16 Try.underlying45 hi hz0 hz1 hz2 rfl (by omega) w4 ro rcap rows (p, c) [.int .i64 p, .int .i64 c] rfl rfl HROW4.out rfl hrl hbw ?_; intro ro' rcap' w5 hrow5 ho5 hnew5
             have HO5 := Lib.hid (HO4.out.trans ho5 (by rintro j hj ⟨g', hg', rfl⟩; have := (HROW4.out.head g' hg').2.1; omega)))
          | fail)
        have H5 := Lib.hid (H.out.only HO5.out)
        have HROW5 := Lib.hid hrow5
        rw [show ((p : Int) + (c : Int)) = ((p + c : Nat) : Int) by omega]
        clear hrow5 ho5 hnew5
        refine (first_p (p + c) 1 H5.out (by omega) (by omega)).mono ?_
        rintro e w6 ⟨⟨r', rfl, hr'⟩, rfl⟩
        have HR' := Lib.hid hr'
        have HB' : Hid (-1 ≤ r' ∧ r' < sz ∧ (r' < 0 ∨ (p : Int) < r')) := Lib.hid (by
          rcases hr' with ⟨rfl, _⟩ | ⟨p', rfl, g1, g2, _⟩
          · omega
          · rcases Nat.lt_or_ge p' sz with hl2 | hg2
            · omega
            · have := H.out.rest p' hg2; omega)
        have HN5 : Hid (RunsI f st E w ro' rcap' (rows ++ [(p, c)]) r' w5) := Lib.hid ⟨HROW5.out, HO5.out, p + c, by omega, by omega, HN.out, HR'.out⟩
        clear hr'
        go_wp2_with fail
        go_roundw
        case rel => exact ⟨ro', rcap', rows ++ [(p, c)], r', by simp, rfl, HB'.out.1, HB'.out.2.1, HN5⟩
        case measure => exact backM_lt hps HB'.out.2.2
      · have HD := Lib.hid (HI.out.done (.inr (by omega)))
        have HRW := Lib.hid HI.out.row
        have HOW := Lib.hid HI.out.only
        rw [HD.out] at HRW ⊢
        have hn1 : ((p : Int) != -1) = true := by simp
        have hn2 : ¬ ((p : Int) < (E : Int)) := by omega
        clear HI
        go_wp2_with fail
        go_ret
        exact ⟨ro, rcap, rfl, HRW.out, HOW.out⟩
set_option maxRecDepth 100000 in
theorem runs_out (s : Int) (hs : ¬ (0 ≤ s ∧ s < St.length)) (h : PoolAt Sm S B b k sz so scap ao cap T f lim F St w) :
    Calls Try.prog 21 #[.pointer (some ⟨b, 0, none⟩), .int .i64 s] w fun e w' => e = .returned (.slice none 0 0) ∧ w = w' := by
  have HC := Lib.hid (closed_no h)
  have hsg := h.segs
  have c2 := h.c2
  clear h
  by_cases h0 : s < 0
  · go_enter Try.func21, Try.ntmps21
    go_wp2_with fail
    refine HC.out.mono ?_
    rintro e w1 ⟨rfl, rfl⟩
    go_wp2_with fail
    go_ret
    exact ⟨rfl, rfl⟩
  · have h1 : s ≥ (St.length : Int) := by omega
    go_enter Try.func21, Try.ntmps21
    go_wp2_with fail
    refine HC.out.mono ?_
    rintro e w1 ⟨rfl, rfl⟩
    go_wp2_with fail
    go_ret
    exact ⟨rfl, rfl⟩
end
end Go.Proofs.Ytaplfibhhdngbaa.pools
/- A pool is made; the calls of a pool, told by plain functions of its cells and its starts. -/
namespace Go.Proofs.Ytaplfibhhdngbaa.pools
section
open Go.RowKit Go.Proofs.Ytaplfibhhdngbaa.own Go.Proofs.Ytaplfibhhdngbaa.trees Go.Proofs.Ytaplfibhhdngbaa.rows
variable {Sm S : Nat → Prop} {B b k sz : Nat} {so : Option Addr} {scap : Nat} {ao : Option Addr} {cap : Nat} {T : List Int} {f : Nat → Nat} {lim : Nat} {F : List Bool} {St : List Nat} {w w' : World} {o : Nat}
/-! ### Made -/
theorem new_bad (l : Int) (hl : ¬ (0 ≤ l ∧ l ≤ 1048576)) (w : World) :
    Calls Try.prog 7 #[.int .i64 l] w fun e w' => e = .returned (.tuple #[.pointer none, .int .i64 1]) ∧ w = w' := by
  by_cases h0 : l < 0
  · clear hl
    go_enter Try.func7, Try.ntmps7
    go_wp2_with fail
    go_ret2
    exact ⟨rfl, rfl⟩
  · have h1 : l > 1048576 := by omega
    clear hl
    go_enter Try.func7, Try.ntmps7
    go_wp2_with fail
    go_ret2
    exact ⟨rfl, rfl⟩
theorem new_at (lim : Nat) (hl : lim ≤ 1048576) (w : World) {w1 w2 : World} (e1 : w1 = w.alloc (.cells #[.int .i64 0] 3))
    (e2 : w2 = w1.alloc (.cells (poolCells lim [] (some ⟨w.heap.size, 0, none⟩) 1 1 0 none 0 0) 56)) :
    PoolAt (· ∈ [0]) (fun j => w.heap.size ≤ j ∧ j < w2.heap.size) w.heap.size (w.heap.size + 1) 0 0 (some ⟨w.heap.size, 0, none⟩) 1 none 0 [] (fun _ => 0) lim [] [0] w2 ∧ Only (fun _ => False) w w2 := by
  have hs1 : w1.heap.size = w.heap.size + 1 := by rw [e1]; simp
  have hs2 : w2.heap.size = w.heap.size + 2 := by rw [e2]; simp [hs1]
  have o1 : Only (fun _ => False) w w1 := by rw [e1]; exact Only.alloc _ _ _
  have o2 : Only (fun _ => False) w1 w2 := by rw [e2]; exact Only.alloc _ _ _
  refine ⟨⟨?_, ?_, RowOf.nil _ _ _ _ _, .inl ⟨rfl, rfl, rfl, rfl⟩, by omega, ?_, fun q hq => by omega, fun _ _ => rfl, ⟨fun q hq => by simp at hq, fun j hj => by simp at hj⟩, by simp, ⟨by simp, hl⟩, rfl, by simp, by simp, by simp, ⟨by constructor <;> omega, fun g hg => ?_, fun g hg => by cases hg⟩, fun j hj => hj, fun g hg => ?_, (fun g hg => by cases hg), (fun g g' _ hg => by cases hg)⟩, o1.same o2⟩
  · have := heap_alloc_new w1 (.cells (poolCells lim [] (some ⟨w.heap.size, 0, none⟩) 1 1 0 none 0 0) 56)
    rw [← e2, hs1] at this
    exact this
  · have h0 : RowOf enc64 1 3 w.heap.size (some ⟨w.heap.size, 0, none⟩) 1 [0] w1 := by
      rw [e1]
      exact World.ownsRow_lit w #[.int .i64 0] 1 (Nat.le_refl _) (by unfold maxLen; omega) rfl
    exact h0.only o2 (fun _ _ e => e)
  · intro j
    simp
  · simp only [Option.some.injEq] at hg
    subst hg
    constructor
    · exact Nat.le_refl _
    · show w.heap.size < _; omega
  · simp only [Option.some.injEq] at hg
    subst hg
    show w.heap.size ≠ w.heap.size + 1
    omega
set_option maxRecDepth 100000 in
theorem new_ok (lim : Nat) (hl : lim ≤ 1048576) (w : World) :
    Calls Try.prog 7 #[.int .i64 lim] w fun e w' => e = .returned (.tuple #[.pointer (some ⟨w.heap.size + 1, 0, none⟩), .int .i64 0]) ∧ Pool (fun j => w.heap.size ≤ j ∧ j < w'.heap.size) w.heap.size (w.heap.size + 1) lim [] [0] w' ∧ Only (fun _ => False) w w' := by
  have HN := Lib.hid (fun w1 w2 e1 e2 => new_at lim hl w (w1 := w1) (w2 := w2) e1 e2)
  go_enter Try.func7, Try.ntmps7
  go_wp2_with fail
  go_ret2
  have := HN.out _ _ rfl rfl
  exact ⟨rfl, ⟨_, _, _, _, _, _, _, _, this.1⟩, this.2⟩
end
end Go.Proofs.Ytaplfibhhdngbaa.pools
/- A pool's calls, told by plain functions of its cells and its starts. -/
namespace Go.Proofs.Ytaplfibhhdngbaa.pools
section
open Go.RowKit Go.Proofs.Ytaplfibhhdngbaa.own Go.Proofs.Ytaplfibhhdngbaa.trees Go.Proofs.Ytaplfibhhdngbaa.rows
variable {Sm Sm' S : Nat → Prop} {B b k sz : Nat} {so : Option Addr} {scap : Nat} {ao : Option Addr} {cap : Nat} {T : List Int} {f : Nat → Nat} {lim : Nat} {F : List Bool} {St : List Nat} {w w' : World} {o : Nat}
theorem PoolAt.wide (h : PoolAt Sm S B b k sz so scap ao cap T f lim F St w) {k' sz' : Nat} {so' : Option Addr} {scap' : Nat} {ao' : Option Addr} {cap' : Nat} {T' : List Int} {f' : Nat → Nat} {F' : List Bool} {St' : List Nat} (h' : PoolAt Sm' S B b k' sz' so' scap' ao' cap' T' f' lim F' St' w') : PoolAt Sm' (Grew S w w') B b k' sz' so' scap' ao' cap' T' f' lim F' St' w' := by
  refine ⟨h'.blk, h'.starts, h'.most, h'.tree, h'.few, h'.small, h'.leaf, h'.rest, h'.inv, h'.room, h'.limit, h'.first, h'.rising, h'.below, h'.segs, ⟨.inl h'.inS.1, fun g hg => .inl (h'.inS.2.1 g hg), fun g hg => .inl (h'.inS.2.2 g hg)⟩, fun j hj => ?_, h'.apart⟩
  have hB := h.own b h.inS.1
  rcases hj with hj | hj
  · exact h'.own j hj
  · omega
theorem Pool.only (h : Pool S B b lim F St w) (ho : Only (fun _ => False) w w') : Pool S B b lim F St w' := by
  obtain ⟨k, sz, so, scap, ao, cap, T, f, h⟩ := h
  exact ⟨k, sz, so, scap, ao, cap, T, f, h.only ho⟩
theorem Pool.grew (h : Pool S B b lim F St w) (ho : Only (fun _ => False) w w') : Pool (Grew S w w') B b lim F St w' := by
  obtain ⟨k, sz, so, scap, ao, cap, T, f, h⟩ := h
  exact ⟨k, sz, so, scap, ao, cap, T, f, h.wide (h.only ho)⟩
theorem Pool.own (h : Pool S B b lim F St w) : ∀ j, S j → B ≤ j ∧ j < w.heap.size := by
  obtain ⟨k, sz, so, scap, ao, cap, T, f, h⟩ := h
  exact h.own
/-- A world that turned outside the pool's blocks. -/
theorem Pool.far (h : Pool S B b lim F St w) {Q : Nat → Prop} (ho : Only Q w w') (hq : ∀ j, S j → ¬ Q j) : Pool S B b lim F St w' := by
  obtain ⟨k, sz, so, scap, ao, cap, T, f, h⟩ := h
  refine ⟨k, sz, so, scap, ao, cap, T, f, ?_, h.starts.only ho (fun g hg => hq _ (h.inS.2.1 g hg)), h.most.only ho (fun g hg => hq _ (h.inS.2.2 g hg)), h.tree, h.few, h.small, h.leaf, h.rest, h.inv, h.room, h.limit, h.first, h.rising, h.below, h.segs, h.inS, fun j hj => ?_, h.apart⟩
  · rw [ho.block b (h.own b h.inS.1).2 (hq _ h.inS.1)]; exact h.blk
  · have := h.own j hj
    exact ⟨this.1, Nat.lt_of_lt_of_le this.2 ho.size⟩
structure Facts (lim : Nat) (F : List Bool) (St : List Nat) : Prop where
  limit : F.length ≤ lim ∧ lim ≤ 1048576
  first : St[0]? = some 0
  rising : St.Pairwise (· ≤ ·)
  below : ∀ s, s ∈ St → s ≤ F.length
  segs : St.length ≤ 4096
  one : 0 < St.length
theorem Pool.facts (h : Pool S B b lim F St w) : Facts lim F St := by
  obtain ⟨k, sz, so, scap, ao, cap, T, f, h⟩ := h
  exact ⟨h.limit, h.first, h.rising, h.below, h.segs, h.one⟩
/-! ### The answers -/
def runsP (F : List Bool) (St : List Nat) (s : Nat) : List (Nat × Nat) := refRuns (fun j => F.getD j false) (St.getD s 0) (endOf St F s - St.getD s 0)
theorem PoolAt.rows_plain (h : PoolAt (· ∈ St) S B b k sz so scap ao cap T f lim F St w) {s : Nat} (hs : s < St.length) : rowsOf f F St s = runsP F St s := by
  refine (h.inv.rows_ref (getD_mem hs) _ (fun j g1 g2 hm => ?_) (fun q g1 g2 => ?_)).symm
  · obtain ⟨t, ht, rfl⟩ := mem_getD hm
    rcases Nat.lt_or_ge s t with g | g
    · have e : endOf St F s = St.getD (s + 1) 0 := by unfold endOf; rw [if_pos (by omega)]
      have := getD_le h.rising (show s + 1 ≤ t by omega) ht
      omega
    · have := getD_le h.rising g hs
      omega
  · have := h.row_le (s := s) (q := q) (by omega)
    omega
def takeF (lim : Nat) (F : List Bool) (St : List Nat) (n : Int) : Int × Int × List Bool :=
  if n < 1 then (0, 1, F) else
  match (runsP F St (St.length - 1)).find? (fun x => decide (n.toNat ≤ x.2)) with
  | some x => (x.1, 0, put F x.1 false n.toNat)
  | none => if lim - F.length < n.toNat then (0, 2, F) else (F.length, 0, F ++ List.replicate n.toNat false)
theorem take_p (n : Int) (hn : n ≤ 9223372036854775807) (h : Pool S B b lim F St w) :
    Calls Try.prog 12 #[.pointer (some ⟨b, 0, none⟩), .int .i64 n] w fun e w' => e = .returned (.tuple #[.int .i64 (takeF lim F St n).1, .int .i64 (takeF lim F St n).2.1]) ∧ Pool (Grew S w w') B b lim (takeF lim F St n).2.2 St w' ∧ Only S w w' := by
  obtain ⟨k, sz, so, scap, ao, cap, T, f, h⟩ := h
  unfold takeF
  by_cases h1 : n < 1
  · rw [if_pos h1]
    refine (take_small n h1 h).mono ?_
    rintro e w' ⟨rfl, rfl⟩
    exact ⟨rfl, ⟨k, sz, so, scap, ao, cap, T, f, h.wide h⟩, Only.refl _ _⟩
  · rw [if_neg h1]
    obtain ⟨m, rfl⟩ : ∃ m : Nat, n = m := ⟨n.toNat, by omega⟩
    have hlast : St.length - 1 < St.length := by have := h.one; omega
    have hE : endOf St F (St.length - 1) = F.length := by unfold endOf; rw [if_neg (by omega)]
    have hle : lastOf St ≤ F.length := h.below _ (getD_mem hlast)
    have hF := rowsF_find (f := f) (a := lastOf St) m (by omega) (F.length - lastOf St)
    have hfar : ∀ q, F.length ≤ q → f q = 0 := fun q hq => by
      rcases Nat.eq_zero_or_pos (f q) with e | e
      · exact e
      · have := h.run_le q e; omega
    rw [← h.rows_plain hlast]
    unfold rowsOf
    rw [hE]
    simp only [Int.toNat_natCast]
    rw [show St.getD (St.length - 1) 0 = lastOf St from rfl]
    split at hF
    · rename_i x hx
      rw [hx]
      obtain ⟨g1, g2, g3, g4, g5⟩ := hF
      refine (take_found m x.1 (by omega) (by omega) h g1 g4 g5).mono ?_
      rintro e w' ⟨rfl, T', hT, ho⟩
      exact ⟨rfl, ⟨_, _, _, _, _, _, _, _, h.wide hT⟩, ho⟩
    · rename_i hx
      rw [hx]
      have hz : ∀ q, lastOf St ≤ q → f q < m := fun q hq => by
        rcases Nat.lt_or_ge q F.length with g | g
        · exact hF q hq (by omega)
        · rw [hfar q g]; omega
      by_cases hl : lim - F.length < m
      · simp only [if_pos hl]
        refine (take_full m (by omega) (by omega) h hz hl).mono ?_
        rintro e w' ⟨rfl, N, rfl⟩
        exact ⟨rfl, ⟨_, _, _, _, _, _, _, _, h.wide (h.drewN N)⟩, Only.drewN _ _ _⟩
      · simp only [if_neg hl]
        have := h.limit
        refine (take_top m (by omega) h hz (by omega)).mono ?_
        rintro e w' ⟨rfl, k', s', ao', cap', T', hP, ho⟩
        exact ⟨rfl, ⟨_, _, _, _, _, _, _, _, hP⟩, ho⟩
open Classical in
noncomputable def giveF (F : List Bool) (St : List Nat) (a n : Int) : Int × List Bool := if TakenI St F a n then (0, put F a.toNat true n.toNat) else (1, F)
theorem give_p (a n : Int) (h : Pool S B b lim F St w) :
    Calls Try.prog 14 #[.pointer (some ⟨b, 0, none⟩), .int .i64 a, .int .i64 n] w fun e w' => e = .returned (.int .i64 (giveF F St a n).1) ∧ Pool (Grew S w w') B b lim (giveF F St a n).2 St w' ∧ Only S w w' := by
  obtain ⟨k, sz, so, scap, ao, cap, T, f, h⟩ := h
  unfold giveF
  by_cases ht : TakenI St F a n
  · rw [if_pos ht]
    obtain ⟨h1, h2, h3⟩ := ht
    obtain ⟨a', rfl⟩ : ∃ m : Nat, a = m := ⟨a.toNat, by omega⟩
    obtain ⟨n', rfl⟩ : ∃ m : Nat, n = m := ⟨n.toNat, by omega⟩
    simp only [Int.toNat_natCast] at h3 ⊢
    refine (give_ok a' n' h h3).mono ?_
    rintro e w' ⟨rfl, f', T', hP, ho⟩
    exact ⟨rfl, ⟨_, _, _, _, _, _, _, _, h.wide hP⟩, ho⟩
  · rw [if_neg ht]
    refine (give_no a n h ht).mono ?_
    rintro e w' ⟨rfl, ho⟩
    exact ⟨rfl, ⟨_, _, _, _, _, _, _, _, h.wide (h.only ho)⟩, ho.no S⟩
def openF (F : List Bool) (St : List Nat) : Int × List Nat := if St.length < 4096 then (0, St ++ [F.length]) else (2, St)
theorem open_p (h : Pool S B b lim F St w) :
    Calls Try.prog 15 #[.pointer (some ⟨b, 0, none⟩)] w fun e w' => e = .returned (.int .i64 (openF F St).1) ∧ Pool (Grew S w w') B b lim F (openF F St).2 w' ∧ Only S w w' := by
  obtain ⟨k, sz, so, scap, ao, cap, T, f, h⟩ := h
  unfold openF
  by_cases hf : St.length < 4096
  · rw [if_pos hf]
    refine (open_any h hf).mono ?_
    rintro e w' ⟨rfl, so', scap', hP, ho⟩
    exact ⟨rfl, ⟨_, _, _, _, _, _, _, _, hP⟩, ho⟩
  · rw [if_neg hf]
    refine (open_full h hf).mono ?_
    rintro e w' ⟨rfl, rfl⟩
    exact ⟨rfl, ⟨_, _, _, _, _, _, _, _, h.wide h⟩, Only.refl _ _⟩
def closeF (St : List Nat) : Int × List Nat := if St.length = 1 then (4, St) else (0, St.take (St.length - 1))
theorem close_p (h : Pool S B b lim F St w) :
    Calls Try.prog 16 #[.pointer (some ⟨b, 0, none⟩)] w fun e w' => e = .returned (.int .i64 (closeF St).1) ∧ Pool (Grew S w w') B b lim F (closeF St).2 w' ∧ Only S w w' := by
  obtain ⟨k, sz, so, scap, ao, cap, T, f, h⟩ := h
  unfold closeF
  have := h.one
  by_cases hf : St.length = 1
  · rw [if_pos hf]
    refine (close_one h hf).mono ?_
    rintro e w' ⟨rfl, rfl⟩
    exact ⟨rfl, ⟨_, _, _, _, _, _, _, _, h.wide h⟩, Only.refl _ _⟩
  · rw [if_neg hf]
    refine (close_any (St.length - 1) h (by omega) (by omega)).mono ?_
    rintro e w' ⟨rfl, T', f', hP, ho⟩
    exact ⟨rfl, ⟨_, _, _, _, _, _, _, _, h.wide hP⟩, ho⟩
theorem back_p (h : Pool S B b lim F St w) :
    Calls Try.prog 17 #[.pointer (some ⟨b, 0, none⟩)] w fun e w' => e = .returned (.int .i64 0) ∧ Pool (Grew S w w') B b lim (F.take (lastOf St)) St w' ∧ Only S w w' := by
  obtain ⟨k, sz, so, scap, ao, cap, T, f, h⟩ := h
  refine (back_any h).mono ?_
  rintro e w' ⟨rfl, T', f', hP, ho⟩
  exact ⟨rfl, ⟨_, _, _, _, _, _, _, _, h.wide hP⟩, ho⟩
theorem top_p (h : Pool S B b lim F St w) : Calls Try.prog 18 #[.pointer (some ⟨b, 0, none⟩)] w fun e w' => e = .returned (.int .i64 F.length) ∧ w = w' := by
  obtain ⟨k, sz, so, scap, ao, cap, T, f, h⟩ := h
  exact top_any h
theorem limit_p (h : Pool S B b lim F St w) : Calls Try.prog 20 #[.pointer (some ⟨b, 0, none⟩)] w fun e w' => e = .returned (.int .i64 lim) ∧ w = w' := by
  obtain ⟨k, sz, so, scap, ao, cap, T, f, h⟩ := h
  exact limit_any h
theorem left_p (h : Pool S B b lim F St w) : Calls Try.prog 22 #[.pointer (some ⟨b, 0, none⟩)] w fun e w' => e = .returned (.int .i64 ((count F : Int) + lim - F.length)) ∧ ∃ n, w' = w.drewN n := by
  obtain ⟨k, sz, so, scap, ao, cap, T, f, h⟩ := h
  exact left_any h
theorem free_p (a : Int) (h : Pool S B b lim F St w) : Calls Try.prog 19 #[.pointer (some ⟨b, 0, none⟩), .int .i64 a] w fun e w' => e = .returned (.bool (isFree F a)) ∧ Only (fun _ => False) w w' := by
  obtain ⟨k, sz, so, scap, ao, cap, T, f, h⟩ := h
  exact free_any a h
/-- The segment of a cell, -1 where there is none. -/
def SegI (St : List Nat) (F : List Bool) (a s : Int) : Prop := (¬ (0 ≤ a ∧ a < F.length) ∧ s = -1) ∨ ((0 ≤ a ∧ a < F.length) ∧ ∃ t : Nat, s = t ∧ Seg St a.toNat t)
theorem SegI.uniq {a s s' : Int} (h : SegI St F a s) (h' : SegI St F a s') : s = s' := by
  rcases h with ⟨h1, rfl⟩ | ⟨h1, t, rfl, ht⟩ <;> rcases h' with ⟨g1, rfl⟩ | ⟨g1, t', rfl, ht'⟩
  · rfl
  · exact absurd g1 h1
  · exact absurd h1 g1
  · rw [ht.same ht']
theorem segment_p (a : Int) (h : Pool S B b lim F St w) : Calls Try.prog 25 #[.pointer (some ⟨b, 0, none⟩), .int .i64 a] w fun e w' => (∃ s, e = .returned (.int .i64 s) ∧ SegI St F a s) ∧ ∃ n, w' = w.drewN n := by
  obtain ⟨k, sz, so, scap, ao, cap, T, f, h⟩ := h
  by_cases hin : 0 ≤ a ∧ a < (F.length : Int)
  · obtain ⟨a', rfl⟩ : ∃ m : Nat, a = m := ⟨a.toNat, by omega⟩
    refine (segment_in a' h (by omega)).mono ?_
    rintro e w' ⟨⟨s, rfl, hs⟩, q, rfl⟩
    exact ⟨⟨_, rfl, .inr ⟨hin, s, rfl, hs⟩⟩, q, rfl⟩
  · refine (segment_out a h hin).mono ?_
    rintro e w' ⟨rfl, rfl⟩
    exact ⟨⟨_, rfl, .inl ⟨hin, rfl⟩⟩, 0, rfl⟩
theorem starts_p (h : Pool S B b lim F St w) : Calls Try.prog 13 #[.pointer (some ⟨b, 0, none⟩)] w fun e w' => ∃ ro rcap, e = .returned (.slice ro St.length rcap) ∧ RowOf enc64 1 3 w.heap.size ro rcap St w' ∧ Only (fun _ => False) w w' := by
  obtain ⟨k, sz, so, scap, ao, cap, T, f, h⟩ := h
  exact starts_any h
/-- What Runs answers, of any number. -/
def runsI (F : List Bool) (St : List Nat) (s : Int) : List (Nat × Nat) := if 0 ≤ s ∧ s < St.length then runsP F St s.toNat else []
theorem runs_p (s : Int) (h : Pool S B b lim F St w) : Calls Try.prog 21 #[.pointer (some ⟨b, 0, none⟩), .int .i64 s] w fun e w' => ∃ ro rcap, e = .returned (.slice ro (runsI F St s).length rcap) ∧ RowOf encR 2 61 w.heap.size ro rcap (runsI F St s) w' ∧ Only (fun _ => False) w w' := by
  obtain ⟨k, sz, so, scap, ao, cap, T, f, h⟩ := h
  unfold runsI
  by_cases hs : 0 ≤ s ∧ s < (St.length : Int)
  · rw [if_pos hs]
    obtain ⟨s', rfl⟩ : ∃ m : Nat, s = m := ⟨s.toNat, by omega⟩
    rw [Int.toNat_natCast, ← h.rows_plain (by omega)]
    exact runs_any s' (by omega) h
  · rw [if_neg hs]
    refine (runs_out s hs h).mono ?_
    rintro e w' ⟨rfl, rfl⟩
    exact ⟨none, 0, rfl, RowOf.nil _ _ _ _ _, Only.refl _ _⟩
end
end Go.Proofs.Ytaplfibhhdngbaa.pools
