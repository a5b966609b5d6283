/- The document's own pool: which cells are free, where segments begin, a limit, and what follows: 4 texts in one. -/
import Derived.Test.YtaplfibhhdngbaaPool37
/- The document's own pool: which cells are free, where segments begin, a limit. -/
namespace Go.Proofs.Ytaplfibhhdngbaa.pools
section
open Go.RowKit Go.Proofs.Ytaplfibhhdngbaa.own Go.Proofs.Ytaplfibhhdngbaa.trees Go.Proofs.Ytaplfibhhdngbaa.rows Go.Proofs.Ytaplfibhhdngbaa.frames
def encB (x : Bool) : List Value := [.bool x]
theorem liesB : Lies encB 1 := ⟨fun _ => rfl, by intro x u hu; simp [encB] at hu; subst hu; rfl, by omega⟩
def refCells (lim : Nat) (F : List Bool) (fo : Option Addr) (fcap : Nat) (so : Option Addr) (n scap : Nat) : Array Value := #[.slice fo F.length fcap, .slice so n scap, .int .i64 lim]
structure RefAt (R : Nat → Prop) (B b : Nat) (fo : Option Addr) (fcap : Nat) (so : Option Addr) (scap : Nat) (lim : Nat) (F : List Bool) (St : List Nat) (w : World) : Prop where
  blk : w.heap[b]? = some (.cells (refCells lim F fo fcap so St.length scap) 59 (0, 0))
  free : RowOf encB 1 4 B fo fcap F w
  starts : RowOf enc64 1 3 B so scap St w
  inR : R b ∧ (∀ g, fo = some g → R g.block) ∧ (∀ g, so = some g → R g.block)
  own : ∀ j, R j → B ≤ j ∧ j < w.heap.size
  apart : (∀ g, fo = some g → g.block ≠ b) ∧ (∀ g, so = some g → g.block ≠ b) ∧ (∀ g g', so = some g → fo = some g' → g.block ≠ g'.block)
  facts : Facts lim F St
def Ref (R : Nat → Prop) (B b lim : Nat) (F : List Bool) (St : List Nat) (w : World) : Prop := ∃ fo fcap so scap, RefAt R B b fo fcap so scap lim F St w
variable {R : Nat → Prop} {B b : Nat} {fo : Option Addr} {fcap : Nat} {so : Option Addr} {scap : Nat} {lim : Nat} {F : List Bool} {St : List Nat} {w w' : World}
theorem RefAt.c0 (h : RefAt R B b fo fcap so scap lim F St w) : w.cell? ⟨b, 0, none⟩ = some (.slice fo F.length fcap) := by rw [cell_of_blk h.blk]; rfl
theorem RefAt.c1 (h : RefAt R B b fo fcap so scap lim F St w) : w.cell? ⟨b, 1, none⟩ = some (.slice so St.length scap) := by rw [cell_of_blk h.blk]; rfl
theorem RefAt.c2 (h : RefAt R B b fo fcap so scap lim F St w) : w.cell? ⟨b, 2, none⟩ = some (.int .i64 lim) := by rw [cell_of_blk h.blk]; rfl
theorem RefAt.far {Q : Nat → Prop} (h : RefAt R B b fo fcap so scap lim F St w) (ho : Only Q w w') (hq : ∀ j, R j → ¬ Q j) : RefAt R B b fo fcap so scap lim F St w' := by
  refine ⟨?_, h.free.only ho (fun g hg => hq _ (h.inR.2.1 g hg)), h.starts.only ho (fun g hg => hq _ (h.inR.2.2 g hg)), h.inR, fun j hj => ?_, h.apart, h.facts⟩
  · rw [ho.block b (h.own b h.inR.1).2 (hq _ h.inR.1)]; exact h.blk
  · have := h.own j hj
    exact ⟨this.1, Nat.lt_of_lt_of_le this.2 ho.size⟩
theorem RefAt.only (h : RefAt R B b fo fcap so scap lim F St w) (ho : Only (fun _ => False) w w') : RefAt R B b fo fcap so scap lim F St w' := h.far ho (fun _ _ e => e)
theorem RefAt.start (h : RefAt R B b fo fcap so scap lim F St w) (i : Nat) (hi : i < St.length) : ∃ g, so = some ⟨g, 0, none⟩ ∧ w.cell? ⟨g, i, none⟩ = some (.int .i64 (St.getD i 0)) := by
  obtain ⟨g, hg, hc⟩ := row_cell h.starts i hi
  refine ⟨g, hg, ?_⟩
  rw [hc, List.getD_eq_getElem?_getD, List.getElem?_eq_getElem hi]
  rfl
theorem RefAt.cell (h : RefAt R B b fo fcap so scap lim F St w) (i : Nat) (hi : i < F.length) : ∃ g, fo = some ⟨g, 0, none⟩ ∧ w.cell? ⟨g, i, none⟩ = some (.bool (F.getD i false)) ∧ w.frozen? ⟨g, i, none⟩ = false := by
  obtain ⟨g, hg, _, hc⟩ := h.free.at liesB i F[i] (List.getElem?_eq_getElem hi)
  have h0 := hc 0 (by omega)
  simp only [encB, List.getElem?_cons_zero, Nat.mul_one, Nat.add_zero] at h0
  refine ⟨g, hg, ?_, h0.2⟩
  rw [h0.1, List.getD_eq_getElem?_getD, List.getElem?_eq_getElem hi]
  rfl
set_option maxRecDepth 100000 in
theorem rend_any (s : Nat) (h : RefAt R B b fo fcap so scap lim F St w) (hs : s < St.length) :
    Calls Try.prog 52 #[.pointer (some ⟨b, 0, none⟩), .int .i64 s] w fun e w' => e = .returned (.int .i64 (endOf St F s)) ∧ Only (fun _ => False) w w' := by
  have c0 := h.c0
  have c1 := h.c1
  have hsg := h.facts.segs
  by_cases hl : s + 1 < St.length
  · have e1 : endOf St F s = St.getD (s + 1) 0 := by unfold endOf; rw [if_pos hl]
    rw [e1]
    obtain ⟨g, hg, cs⟩ := h.start (s + 1) hl
    subst hg
    have hl2 : (s : Int) + 1 < (St.length : Int) := by omega
    clear h e1
    generalize St.getD (s + 1) 0 = v at *
    go_enter Try.func52, Try.ntmps52
    go_wp2_with fail
    go_ret
    exact ⟨rfl, Only.refl _ _⟩
  · have e1 : endOf St F s = F.length := by unfold endOf; rw [if_neg hl]
    rw [e1]
    have hl2 : ¬ ((s : Int) + 1 < (St.length : Int)) := by omega
    clear h e1
    go_enter Try.func52, Try.ntmps52
    go_wp2_with fail
    go_ret
    exact ⟨rfl, Only.refl _ _⟩
end
end Go.Proofs.Ytaplfibhhdngbaa.pools
/- The document's rows. -/
namespace Go.Proofs.Ytaplfibhhdngbaa.pools
section
open Go.RowKit Go.Proofs.Ytaplfibhhdngbaa.own Go.Proofs.Ytaplfibhhdngbaa.trees Go.Proofs.Ytaplfibhhdngbaa.rows Go.Proofs.Ytaplfibhhdngbaa.frames
variable {R : Nat → Prop} {B b : Nat} {fo : Option Addr} {fcap : Nat} {so : Option Addr} {scap : Nat} {lim : Nat} {F : List Bool} {St : List Nat} {w w' : World}
theorem row_cells_at {xs : List (Nat × Nat)} {E cap : Nat} {ro : Option Addr} (h : RowOf encR 2 61 E ro cap xs w) (i : Nat) (x : Nat × Nat) (hx : xs[i]? = some x) : ∃ g, ro = some ⟨g, 0, none⟩ ∧ w.cell? ⟨g, i * 2, none⟩ = some (.int .i64 x.1) ∧ w.cell? ⟨g, i * 2 + 1, none⟩ = some (.int .i64 x.2) ∧ w.frozen? ⟨g, i * 2 + 1, none⟩ = false := by
  obtain ⟨g, hg, _, hc⟩ := h.at liesR i x hx
  have h0 := hc 0 (by omega)
  have h1 := hc 1 (by omega)
  simp only [encR, List.getElem?_cons_zero, List.getElem?_cons_succ, Nat.add_zero] at h0 h1
  exact ⟨g, hg, h0.1, h1.1, h1.2⟩
/-- The rows of the first cells of a segment that begins at st. -/
structure RRunsI (fr : Nat → Bool) (st : Nat) (w : World) (ro : Option Addr) (rcap : Nat) (rows : List (Nat × Nat)) (k : Nat) (wr : World) : Prop where
  row : RowOf encR 2 61 w.heap.size ro rcap rows wr
  only : Only (fun _ => False) w wr
  told : rows = refRuns fr st k
theorem ref_none {fr : Nat → Bool} {a k : Nat} (hf : fr (a + k) = false) : refRuns fr a (k + 1) = refRuns fr a k := by
  rw [ref_succ]
  unfold refStep
  rw [hf]
  rfl
theorem ref_first {fr : Nat → Bool} {a k : Nat} (hf : fr (a + k) = true) (hn : refRuns fr a k = []) : refRuns fr a (k + 1) = refRuns fr a k ++ [(a + k, 1)] := by
  rw [ref_succ]
  unfold refStep
  rw [hf, hn]
  rfl
theorem ref_more {fr : Nat → Bool} {a k : Nat} {ys : List (Nat × Nat)} {x : Nat × Nat} (hf : fr (a + k) = true) (hn : refRuns fr a k = ys ++ [x]) (hx : x.1 + x.2 = a + k) : refRuns fr a (k + 1) = ys ++ [(x.1, x.2 + 1)] := by
  rw [ref_succ]
  unfold refStep
  rw [hf, hn]
  simp [hx]
theorem ref_other {fr : Nat → Bool} {a k : Nat} {ys : List (Nat × Nat)} {x : Nat × Nat} (hf : fr (a + k) = true) (hn : refRuns fr a k = ys ++ [x]) (hx : x.1 + x.2 ≠ a + k) : refRuns fr a (k + 1) = ys ++ [x] ++ [(a + k, 1)] := by
  rw [ref_succ]
  unfold refStep
  rw [hf, hn]
  simp [hx]
theorem set_last (ys : List (Nat × Nat)) (x x' : Nat × Nat) : (ys ++ [x]).set ys.length x' = ys ++ [x'] := by
  rw [List.set_append_right _ _ (Nat.le_refl _)]
  simp
set_option maxRecDepth 100000 in
set_option maxHeartbeats 8000000 in
theorem rruns_any (s : Nat) (hs : s < St.length) (h : RefAt R B b fo fcap so scap lim F St w) :
    Calls Try.prog 36 #[.pointer (some ⟨b, 0, none⟩), .int .i64 s] w fun e w' => ∃ ro rcap, e = .returned (.slice ro (runsP F St s).length rcap) ∧ RowOf encR 2 61 w.heap.size ro rcap (runsP F St s) w' ∧ Only (fun _ => False) w w' := by
  obtain ⟨i0, hi, hz0, hz1, hz2⟩ := info_parts infoR
  have H := Lib.hid h
  have hsg := h.facts.segs
  have hlim := h.facts.limit
  have c1 := h.c1
  obtain ⟨g, hg, cs⟩ := h.start s hs
  subst hg
  have hE : endOf St F s ≤ F.length := by
    unfold endOf
    split
    · rename_i hl; exact h.facts.below _ (getD_mem hl)
    · exact Nat.le_refl _
  have hse : St.getD s 0 ≤ endOf St F s := by
    unfold endOf
    split
    · exact getD_le h.facts.rising (by omega) (by omega)
    · exact h.facts.below _ (getD_mem hs)
  have HEnd := Lib.hid (fun (wr : World) (ho : Only (fun _ => False) w wr) => rend_any s (h.only ho) hs)
  have hs0 : ¬ ((s : Int) < 0) := by omega
  have hs1 : ¬ ((s : Int) ≥ (St.length : Int)) := by omega
  have hs2 : (s : Int) < (St.length : Int) := by omega
  unfold runsP
  generalize hst : St.getD s 0 = st at *
  generalize hEE : endOf St F s = E at *
  clear hst hEE h
  go_enter Try.func36, Try.ntmps36
  go_wp2_with fail
  go_loopw [5, 6] (fun v i wr => ∃ (k : Nat) (ro : Option Addr) (rcap : Nat) (rows : List (Nat × Nat)), v = .slice ro rows.length rcap ∧ i = .int .i64 ((st + k : Nat) : Int) ∧ st + k ≤ E ∧ Hid (RRunsI (fun j => F.getD j false) st w ro rcap rows k wr)) (fun _ i _ => E - (intOf i).toNat)
  case atStart => exact ⟨0, none, 0, [], rfl, rfl, hse, Lib.hid ⟨RowOf.nil _ _ _ _ _, Only.refl _ _, rfl⟩⟩
  case round =>
    obtain ⟨k, ro, rcap, rows, rfl, rfl, hk, HI⟩ := hrel
    go_wp2_with fail
    refine (HEnd.out wr HI.out.only).mono ?_
    rintro e w2 ⟨rfl, ho⟩
    have HO2 := Lib.hid (HI.out.only.same ho)
    have HR2 := Lib.hid (HI.out.row.only ho (fun _ _ e => e))
    have HT := Lib.hid HI.out.told
    clear ho HI
    by_cases hlt : st + k < E
    · have H2 := Lib.hid (H.out.only HO2.out)
      have c0 := H2.out.c0
      obtain ⟨g2, hg2, hcell, _⟩ := H2.out.cell (st + k) (by omega)
      subst hg2
      have hrl : rows.length ≤ 16777216 := by
        rw [HT.out]
        have := ref_len (fr := fun j => F.getD j false) (a := st) k
        omega
      have hbw := HO2.out.size
      have hltF : ((st + k : Nat) : Int) < (F.length : Int) := by omega
      have hltE : ((st + k : Nat) : Int) < (E : Int) := by omega
      obtain ⟨i, hi9⟩ : ∃ i, i = st + k := ⟨_, rfl⟩
      rw [← hi9] at hcell hltF hltE ⊢
      have HI9 := Lib.hid hi9
      cases hf : F.getD i false with
      | false =>
        rw [hf] at hcell
        have HN : Hid (RRunsI (fun j => F.getD j false) st w ro rcap rows (k + 1) w2) := Lib.hid ⟨HR2.out, HO2.out, by rw [HT.out]; exact (ref_none (by rw [hi9] at hf; exact hf)).symm⟩
        clear c1 cs hi9
        go_wp2_with fail
        go_roundw
        case rel => exact ⟨k + 1, ro, rcap, rows, rfl, by have := HI9.out; go_num, by have := HI9.out; omega, HN⟩
        case measure => have := HI9.out; simp [intOf]; omega
      | true =>
        rw [hf] at hcell
        have hf' : (fun j => F.getD j false) (st + k) = true := by rw [hi9] at hf; exact hf
        have HF' := Lib.hid hf'
        clear hf'
        rcases List.eq_nil_or_concat rows with hnil | ⟨ys, x, hys⟩
        · have hl0 : rows.length = 0 := by rw [hnil]; rfl
          have hgt : decide ((rows.length : Int) > 0) = false := by simp [hl0]
          have hgt2 : decide (0 < rows.length) = false := by simp [hl0]
          have HNil := Lib.hid hnil
          clear c1 cs hi9 hnil hl0
          go_wp2_with fail
          go_quiet (fail)
          have HO3 := Lib.hid (HO2.out.same (Only.drewN _ w2 nq))
          have HR3 := Lib.hid (HR2.out.only (Only.drewN (fun _ => False) w2 nq) (fun _ _ e => e))
          have hbw3 : w.heap.size ≤ (w2.drewN nq).heap.size := HO3.out.size
          generalize w2.drewN nq = w3 at *
          have HNew : Hid (∀ ro' rcap' w5, RowOf encR 2 61 w.heap.size ro' rcap' (rows ++ [(i, 1)]) w5 → Only (RowAt ro) w3 w5 → RRunsI (fun j => F.getD j false) st w ro' rcap' (rows ++ [(i, 1)]) (k + 1) w5) := Lib.hid (fun ro' rcap' w5 hr ho => ⟨hr, HO3.out.trans ho (by rintro j hj ⟨g', hg', rfl⟩; have := (HR3.out.head g' hg').2.1; omega), by rw [ref_first HF'.out (HT.out.symm.trans HNil.out), ← HT.out, HI9.out]⟩)
          go_wp2_with (first
            | (at_builtin; go_loud (refine wp_append_one liesR rfl (.tmp 71) (.tmp 74) 45 rfl w.heap.size 61 i0 _ 16 Try.underlying45 hi hz0 hz1 hz2 rfl (by omega) w3 ro rcap rows (i, 1) [.int .i64 i, .int .i64 1] rfl rfl HR3.out rfl hrl hbw3 ?_); intro ro' rcap' w5 hrow5 ho5 hnew5
               have HN := Lib.hid (HNew.out ro' rcap' w5 hrow5 ho5))
            | fail)
          clear hrow5 ho5 hnew5
          go_roundw
          case rel => exact ⟨k + 1, ro', rcap', rows ++ [(i, 1)], by simp, by have := HI9.out; go_num, by have := HI9.out; omega, HN⟩
          case measure => have := HI9.out; simp [intOf]; omega
        · rw [List.concat_eq_append] at hys
          have hl1 : rows.length = ys.length + 1 := by rw [hys]; simp
          have hgt : decide ((rows.length : Int) > 0) = true := by simp; omega
          have hgt2 : decide (0 < rows.length) = true := by simp; omega
          obtain ⟨g3, hg3, r0, r1, rf⟩ := row_cells_at HR2.out ys.length x (by rw [hys]; simp)
          subst hg3
          have hx0 : (0 : Int) ≤ (rows.length : Int) - 1 := by omega
          have hx1 : (rows.length : Int) - 1 < (rows.length : Int) := by omega
          have hx2 : ((rows.length : Int) - 1).toNat = ys.length := by omega
          have hxb : x.1 + x.2 ≤ 1048576 := by
            have := ref_ends (fr := fun j => F.getD j false) (a := st) k x (by rw [← HT.out, hys]; simp)
            omega
          have HYs := Lib.hid hys
          clear c1 cs hi9 hys hl1
          by_cases hxe : x.1 + x.2 = i
          · have hxe2 : (((x.1 : Int) + (x.2 : Int)) == (i : Int)) = true := by simp; omega
            have HXe := Lib.hid hxe
            obtain ⟨x1, x2⟩ := x
            simp only at r0 r1 hxb hxe2
            clear hxe
            go_wp2_with fail
            go_quiet (fail)
            have HO3 := Lib.hid (HO2.out.same (Only.drewN _ w2 nq))
            have HR3 := Lib.hid (HR2.out.only (Only.drewN (fun _ => False) w2 nq) (fun _ _ e => e))
            obtain ⟨g4, hg4, r0', r1', rf'⟩ := row_cells_at HR3.out ys.length (x1, x2) (by rw [HYs.out]; simp)
            obtain rfl : g3 = g4 := by simpa using hg4
            have hst3 := RowOf.stored liesR HR3.out ys.length 1 (x1, x2) (x1, x2 + 1) (.int .i64 ((x2 : Int) + 1)) (by rw [HYs.out]; simp) (by omega) rfl
            rw [HYs.out, set_last] at hst3
            have HS := Lib.hid hst3
            clear r0 r1 rf hst3 hg4
            generalize w2.drewN nq = w3 at *
            clear hxe2
            have hxb2 : (x2 : Int) + 1 ≤ 1048577 := by omega
            go_wp2_with fail
            have HN : Hid (RRunsI (fun j => F.getD j false) st w (some ⟨g3, 0, none⟩) rcap (ys ++ [(x1, x2 + 1)]) (k + 1) (w3.setCell ⟨g3, ys.length * 2 + 1, none⟩ (.int .i64 ((x2 : Int) + 1)))) := Lib.hid ⟨HS.out.1, HO3.out.trans HS.out.2 (fun j hj e => by have := (HR3.out.head _ rfl).2.1; simp only at this; omega), by rw [ref_more HF'.out (HT.out.symm.trans HYs.out) (by have := HI9.out; have := HXe.out; simp only at this ⊢; omega)]⟩
            go_roundw
            case rel => exact ⟨k + 1, some ⟨g3, 0, none⟩, rcap, ys ++ [(x1, x2 + 1)], by rw [HYs.out]; simp, by have := HI9.out; go_num, by have := HI9.out; omega, HN⟩
            case measure => have := HI9.out; simp [intOf]; omega
          · have hxe2 : (((x.1 : Int) + (x.2 : Int)) == (i : Int)) = false := by simp; omega
            have HXn : Hid (¬ x.1 + x.2 = i) := Lib.hid hxe
            go_wp2_with fail
            go_quiet (fail)
            have HO3 := Lib.hid (HO2.out.same (Only.drewN _ w2 nq))
            have HR3 := Lib.hid (HR2.out.only (Only.drewN (fun _ => False) w2 nq) (fun _ _ e => e))
            have hbw3 : w.heap.size ≤ (w2.drewN nq).heap.size := HO3.out.size
            clear r0 r1 rf
            generalize w2.drewN nq = w3 at *
            have HNew : Hid (∀ ro' rcap' w5, RowOf encR 2 61 w.heap.size ro' rcap' (rows ++ [(i, 1)]) w5 → Only (RowAt (some ⟨g3, 0, none⟩)) w3 w5 → RRunsI (fun j => F.getD j false) st w ro' rcap' (rows ++ [(i, 1)]) (k + 1) w5) := Lib.hid (fun ro' rcap' w5 hr ho => ⟨hr, HO3.out.trans ho (by rintro j hj ⟨g', hg', rfl⟩; have := (HR3.out.head g' hg').2.1; omega), by rw [ref_other HF'.out (HT.out.symm.trans HYs.out) (fun e => HXn.out (by have := HI9.out; omega)), ← HYs.out, HI9.out]⟩)
            go_wp2_with (first
              | (at_builtin; go_loud (refine wp_append_one liesR rfl (.tmp 71) (.tmp 74) 45 rfl w.heap.size 61 i0 _ 16 Try.underlying45 hi hz0 hz1 hz2 rfl (by omega) w3 (some ⟨g3, 0, none⟩) rcap rows (i, 1) [.int .i64 i, .int .i64 1] rfl rfl HR3.out rfl hrl hbw3 ?_); intro ro' rcap' w5 hrow5 ho5 hnew5
                 have HN := Lib.hid (HNew.out ro' rcap' w5 hrow5 ho5))
              | fail)
            clear hrow5 ho5 hnew5
            go_roundw
            case rel => exact ⟨k + 1, ro', rcap', rows ++ [(i, 1)], by simp, by have := HI9.out; go_num, by have := HI9.out; omega, HN⟩
            case measure => have := HI9.out; simp [intOf]; omega
    · have HX : Hid (rows = refRuns (fun j => F.getD j false) st (E - st)) := Lib.hid (by rw [HT.out]; congr 1; omega)
      have hltE : ¬ (((st + k : Nat) : Int) < (E : Int)) := by omega
      have hlt2 : ¬ ((st : Int) + (k : Int) < (E : Int)) := by omega
      go_wp2_with fail
      go_ret
      exact ⟨ro, rcap, by rw [← HX.out]; rfl, by rw [← HX.out]; exact HR2.out, HO2.out⟩
end
end Go.Proofs.Ytaplfibhhdngbaa.pools
/- What a step does to the document's pool. -/
namespace Go.Proofs.Ytaplfibhhdngbaa.pools
section
open Go.RowKit Go.Proofs.Ytaplfibhhdngbaa.own Go.Proofs.Ytaplfibhhdngbaa.trees Go.Proofs.Ytaplfibhhdngbaa.rows Go.Proofs.Ytaplfibhhdngbaa.frames
variable {R : Nat → Prop} {B b : Nat} {fo fo' : Option Addr} {fcap fcap' : Nat} {so so' : Option Addr} {scap scap' : Nat} {lim : Nat} {F F' : List Bool} {St St' : List Nat} {w w' w2 w3 : World}
theorem Facts.len (h : Facts lim F St) (hl : F'.length = F.length) : Facts lim F' St := ⟨by rw [hl]; exact h.limit, h.first, h.rising, by rw [hl]; exact h.below, h.segs, h.one⟩
theorem Facts.more (h : Facts lim F St) (hl : F.length ≤ F'.length) (hm : F'.length ≤ lim) : Facts lim F' St := ⟨⟨hm, h.limit.2⟩, h.first, h.rising, fun s hs => Nat.le_trans (h.below s hs) hl, h.segs, h.one⟩
theorem RefAt.wide (h : RefAt R B b fo fcap so scap lim F St w) (h' : RefAt R B b fo' fcap' so' scap' lim F' St' w') : RefAt (Grew R w w') B b fo' fcap' so' scap' lim F' St' w' := by
  refine ⟨h'.blk, h'.free, h'.starts, ⟨.inl h'.inR.1, fun g hg => .inl (h'.inR.2.1 g hg), fun g hg => .inl (h'.inR.2.2 g hg)⟩, fun j hj => ?_, h'.apart, h'.facts⟩
  have hB := h.own b h.inR.1
  rcases hj with hj | hj
  · exact h'.own j hj
  · omega
/-- A cell is turned. -/
theorem RefAt.turned {g : Nat} (h : RefAt R B b (some ⟨g, 0, none⟩) fcap so scap lim F St w) (i : Nat) (hi : i < F.length) (v : Bool) (e : w2 = w.setCell ⟨g, i, none⟩ (.bool v)) : RefAt R B b (some ⟨g, 0, none⟩) fcap so scap lim (F.set i v) St w2 ∧ Only R w w2 := by
  have hs := RowOf.stored liesB h.free i 0 F[i] v (.bool v) (List.getElem?_eq_getElem hi) (by omega) rfl
  rw [Nat.mul_one, Nat.add_zero, ← e] at hs
  have ho := hs.2
  have hall : Only R w w2 := ho.mono (fun j _ hj => by rw [hj]; exact h.inR.2.1 _ rfl)
  refine ⟨⟨?_, hs.1, h.starts.only ho (fun g' hg' e' => h.apart.2.2 g' _ hg' rfl e'), h.inR, fun j hj => ?_, h.apart, h.facts.len (by simp)⟩, hall⟩
  · rw [ho.block b (h.own b h.inR.1).2 (fun e' => h.apart.1 _ rfl e'.symm), h.blk]
    unfold refCells
    rw [List.length_set]
  · have := h.own j hj
    exact ⟨this.1, Nat.lt_of_lt_of_le this.2 hall.size⟩
/-- A cell more. -/
theorem RefAt.longer (h : RefAt R B b fo fcap so scap lim F St w) {v : Bool} (hr : RowOf encB 1 4 B fo' fcap' (F ++ [v]) w2) (ho : Only (RowAt fo) w w2) (hn : NewRow w.heap.size fo fo') (hl : F.length + 1 ≤ lim)
    (e : w3 = w2.setCell ⟨b, 0, none⟩ (.slice fo' (F ++ [v]).length fcap')) : RefAt (Grew R w w3) B b fo' fcap' so scap lim (F ++ [v]) St w3 ∧ Only R w w3 := by
  have hnb : ¬ RowAt fo b := fun ⟨g, hg, e⟩ => h.apart.1 g hg e.symm
  have hblk : w2.heap[b]? = some (.cells (refCells lim F fo fcap so St.length scap) 59 (0, 0)) := by
    rw [ho.block b (h.own b h.inR.1).2 hnb]; exact h.blk
  have o3 : Only (· = b) w2 w3 := by rw [e]; exact Only.setCell (S := (· = b)) w2 (p := ⟨b, 0, none⟩) rfl _
  have hbw := h.own b h.inR.1
  have hfb : ∀ g, fo' = some g → g.block ≠ b := fun g hg => by
    rcases hn g hg with h1 | h1
    · exact h.apart.1 g h1
    · omega
  have hall : Only R w w3 := (ho.mono (fun j _ hj => by obtain ⟨g, hg, rfl⟩ := hj; exact h.inR.2.1 g hg)).same (o3.mono (fun j _ hj => by rw [hj]; exact h.inR.1))
  have hs3 := hall.size
  have hs23 := o3.size
  refine ⟨⟨?_, hr.only o3 (fun g hg e' => hfb g hg e'), (h.starts.only ho (fun g hg e' => by obtain ⟨g', hg', e''⟩ := e'; exact h.apart.2.2 g g' hg hg' e'')).only o3 (fun g hg e' => h.apart.2.1 g hg e'), ⟨.inl h.inR.1, fun g hg => ?_, fun g hg => .inl (h.inR.2.2 g hg)⟩, fun j hj => ?_, ⟨hfb, h.apart.2.1, fun g g' hg hg' e' => ?_⟩, h.facts.more (by simp) (by simp; omega)⟩, hall⟩
  · rw [e, blk_set hblk 0 _]
    rfl
  · rcases hn g hg with h1 | h1
    · exact .inl (h.inR.2.1 g h1)
    · have := (hr.head g hg).2.2
      exact .inr ⟨h1, by omega⟩
  · rcases hj with hj | hj
    · have := h.own j hj
      omega
    · omega
  · rcases hn g' hg' with h1 | h1
    · exact h.apart.2.2 g g' hg h1 e'
    · have := (h.starts.head g hg).2.2
      omega
/-- The last cells are taken away. -/
theorem RefAt.cutF (h : RefAt R B b fo fcap so scap lim F St w) {m : Nat} (hm : m ≤ F.length) (hb : ∀ s, s ∈ St → s ≤ m) (e : w2 = w.setCell ⟨b, 0, none⟩ (.slice fo m fcap)) : RefAt R B b fo fcap so scap lim (F.take m) St w2 ∧ Only R w w2 := by
  have o3 : Only (· = b) w w2 := by rw [e]; exact Only.setCell (S := (· = b)) w (p := ⟨b, 0, none⟩) rfl _
  have hall : Only R w w2 := o3.mono (fun j _ hj => by rw [hj]; exact h.inR.1)
  have hl : (F.take m).length = m := by rw [List.length_take]; omega
  refine ⟨⟨?_, (h.free.take liesB m hm).only o3 (fun g hg e' => h.apart.1 g hg e'), h.starts.only o3 (fun g hg e' => h.apart.2.1 g hg e'), h.inR, fun j hj => ?_, h.apart, ⟨by rw [hl]; have := h.facts.limit; omega, h.facts.first, h.facts.rising, fun s hs => by rw [hl]; exact hb s hs, h.facts.segs, h.facts.one⟩⟩, hall⟩
  · rw [e, blk_set h.blk 0 _]
    unfold refCells
    rw [hl]
    rfl
  · have := h.own j hj
    exact ⟨this.1, Nat.lt_of_lt_of_le this.2 hall.size⟩
/-- A segment more. -/
theorem RefAt.opened (h : RefAt R B b fo fcap so scap lim F St w) (hfew : St.length < 4096) (hr : RowOf enc64 1 3 B so' scap' (St ++ [F.length]) w2) (ho : Only (RowAt so) w w2) (hn : NewRow w.heap.size so so')
    (e : w3 = w2.setCell ⟨b, 1, none⟩ (.slice so' (St ++ [F.length]).length scap')) : RefAt (Grew R w w3) B b fo fcap so' scap' lim F (St ++ [F.length]) w3 ∧ Only R w w3 := by
  have hnb : ¬ RowAt so b := fun ⟨g, hg, e⟩ => h.apart.2.1 g hg e.symm
  have hblk : w2.heap[b]? = some (.cells (refCells lim F fo fcap so St.length scap) 59 (0, 0)) := by
    rw [ho.block b (h.own b h.inR.1).2 hnb]; exact h.blk
  have o3 : Only (· = b) w2 w3 := by rw [e]; exact Only.setCell (S := (· = b)) w2 (p := ⟨b, 1, none⟩) rfl _
  have hbw := h.own b h.inR.1
  have hfb : ∀ g, so' = some g → g.block ≠ b := fun g hg => by
    rcases hn g hg with h1 | h1
    · exact h.apart.2.1 g h1
    · omega
  have hall : Only R w w3 := (ho.mono (fun j _ hj => by obtain ⟨g, hg, rfl⟩ := hj; exact h.inR.2.2 g hg)).same (o3.mono (fun j _ hj => by rw [hj]; exact h.inR.1))
  have hs3 := hall.size
  have hs23 := o3.size
  refine ⟨⟨?_, (h.free.only ho (fun g hg e' => by obtain ⟨g', hg', e''⟩ := e'; exact h.apart.2.2 g' g hg' hg e''.symm)).only o3 (fun g hg e' => h.apart.1 g hg e'), hr.only o3 (fun g hg e' => hfb g hg e'), ⟨.inl h.inR.1, fun g hg => .inl (h.inR.2.1 g hg), fun g hg => ?_⟩, fun j hj => ?_, ⟨h.apart.1, hfb, fun g g' hg hg' e' => ?_⟩, ⟨h.facts.limit, ?_, ?_, ?_, by simp; omega, by simp⟩⟩, hall⟩
  · rw [e, blk_set hblk 1 _]
    rfl
  · rcases hn g hg with h1 | h1
    · exact .inl (h.inR.2.2 g h1)
    · have := (hr.head g hg).2.2
      exact .inr ⟨h1, by omega⟩
  · rcases hj with hj | hj
    · have := h.own j hj
      omega
    · omega
  · rcases hn g hg with h1 | h1
    · exact h.apart.2.2 g g' h1 hg' e'
    · have := (h.free.head g' hg').2.2
      omega
  · have := h.facts.one
    rw [List.getElem?_append_left this]
    exact h.facts.first
  · rw [List.pairwise_append]
    exact ⟨h.facts.rising, by simp, fun x hx y hy => by simp at hy; subst hy; exact h.facts.below x hx⟩
  · intro s hs
    simp only [List.mem_append, List.mem_singleton] at hs
    rcases hs with hs | hs
    · exact h.facts.below s hs
    · omega
/-- A segment less. -/
theorem RefAt.closed (h : RefAt R B b fo fcap so scap lim F St w) {m : Nat} (hm : St.length = m + 1) (h1 : 1 ≤ m) (e : w2 = w.setCell ⟨b, 1, none⟩ (.slice so m scap)) : RefAt R B b fo fcap so scap lim F (St.take m) w2 ∧ Only R w w2 := by
  have o3 : Only (· = b) w w2 := by rw [e]; exact Only.setCell (S := (· = b)) w (p := ⟨b, 1, none⟩) rfl _
  have hall : Only R w w2 := o3.mono (fun j _ hj => by rw [hj]; exact h.inR.1)
  have hl : (St.take m).length = m := by rw [List.length_take]; omega
  refine ⟨⟨?_, h.free.only o3 (fun g hg e' => h.apart.1 g hg e'), (h.starts.take lies64 m (by omega)).only o3 (fun g hg e' => h.apart.2.1 g hg e'), h.inR, fun j hj => ?_, h.apart, ⟨h.facts.limit, ?_, h.facts.rising.sublist (List.take_sublist _ _), fun s hs => h.facts.below s (List.mem_of_mem_take hs), by have := h.facts.segs; omega, by omega⟩⟩, hall⟩
  · rw [e, blk_set h.blk 1 _, hl]
    rfl
  · have := h.own j hj
    exact ⟨this.1, Nat.lt_of_lt_of_le this.2 hall.size⟩
  · rw [List.getElem?_take_of_lt (by omega)]
    exact h.facts.first
end
end Go.Proofs.Ytaplfibhhdngbaa.pools
/- The document's Take. -/
namespace Go.Proofs.Ytaplfibhhdngbaa.pools
section
open Go.RowKit Go.Proofs.Ytaplfibhhdngbaa.own Go.Proofs.Ytaplfibhhdngbaa.trees Go.Proofs.Ytaplfibhhdngbaa.rows Go.Proofs.Ytaplfibhhdngbaa.frames
variable {R : Nat → Prop} {B b : Nat} {fo fo' : Option Addr} {fcap fcap' : Nat} {so so' : Option Addr} {scap scap' : Nat} {lim : Nat} {F F' : List Bool} {St St' : List Nat} {w w' w2 w3 : World}
theorem find_at {l : List (Nat × Nat)} {n i : Nat} {x : Nat × Nat} (hx : l[i]? = some x) (hn : n ≤ x.2) (hb : ∀ (j : Nat) (y : Nat × Nat), j < i → l[j]? = some y → y.2 < n) : l.find? (fun x => decide (n ≤ x.2)) = some x := by
  obtain ⟨hi, e⟩ := List.getElem?_eq_some_iff.1 hx
  refine List.find?_eq_some_iff_getElem.2 ⟨by simpa using hn, i, hi, e, fun j hj => ?_⟩
  have := hb j l[j] hj (List.getElem?_eq_getElem (by omega))
  simp
  omega
theorem find_no {l : List (Nat × Nat)} {n : Nat} (hb : ∀ (j : Nat) (y : Nat × Nat), j < l.length → l[j]? = some y → y.2 < n) : l.find? (fun x => decide (n ≤ x.2)) = none := by
  rw [List.find?_eq_none]
  intro x hx
  obtain ⟨j, hj, e⟩ := List.mem_iff_getElem.1 hx
  have := hb j x hj (by rw [List.getElem?_eq_getElem hj, e])
  simp
  omega
theorem info8 : (Try.prog.info? 4).map (fun i => (i.zero, i.size, i.bytes)) = some (some (.bool false), 1, 1) := by kernel_rfl
/-- Some cells of the row are set off. -/
structure TakeI (R : Nat → Prop) (B b : Nat) (fo : Option Addr) (fcap : Nat) (so : Option Addr) (scap lim : Nat) (F : List Bool) (St : List Nat) (a k : Nat) (l : List (Nat × Nat)) (ro : Option Addr) (rcap : Nat) (w wr : World) : Prop where
  ref : RefAt R B b fo fcap so scap lim (put F a false k) St wr
  row : RowOf encR 2 61 0 ro rcap l wr
  far : ∀ g, ro = some g → ¬ R g.block
  only : Only R w wr
/-- Some cells are added. -/
def AddI (R : Nat → Prop) (B b : Nat) (lim : Nat) (F : List Bool) (St : List Nat) (k : Nat) (w wr : World) : Prop := ∃ R' fo fcap so scap, RefAt R' B b fo fcap so scap lim (F ++ List.replicate k false) St wr ∧ (∀ j, R' j → R j ∨ (w.heap.size ≤ j ∧ j < wr.heap.size)) ∧ Only R w wr
theorem AddI.next {k : Nat} (h : AddI R B b lim F St k w w2) {R' : Nat → Prop} (hr : RefAt (Grew R' w2 w3) B b fo' fcap' so scap lim (F ++ List.replicate (k + 1) false) St w3) (hs : ∀ j, R' j → R j ∨ (w.heap.size ≤ j ∧ j < w2.heap.size)) (ho : Only R' w2 w3) : AddI R B b lim F St (k + 1) w w3 := by
  obtain ⟨_, _, _, _, _, _, _, ho2⟩ := h
  have h1 := ho2.size
  have h2 := ho.size
  refine ⟨_, _, _, _, _, hr, ?_, ho2.trans ho (fun j hj e => ?_)⟩
  · rintro j (e | e)
    · rcases hs j e with e | e
      · exact .inl e
      · right; omega
    · right; omega
  · rcases hs j e with e | e
    · exact e
    · omega
theorem RefAt.sub {R' : Nat → Prop} (h : RefAt R B b fo fcap so scap lim F St w) (hs : ∀ j, R j → R' j) (hb : ∀ j, R' j → B ≤ j ∧ j < w.heap.size) : RefAt R' B b fo fcap so scap lim F St w :=
  ⟨h.blk, h.free, h.starts, ⟨hs _ h.inR.1, fun g hg => hs _ (h.inR.2.1 g hg), fun g hg => hs _ (h.inR.2.2 g hg)⟩, hb, h.apart, h.facts⟩
set_option maxRecDepth 100000 in
set_option maxHeartbeats 8000000 in
theorem rtake_any (n : Int) (hn : n ≤ 9223372036854775807) (h : RefAt R B b fo fcap so scap lim F St w) :
    Calls Try.prog 28 #[.pointer (some ⟨b, 0, none⟩), .int .i64 n] w fun e w' => e = .returned (.tuple #[.int .i64 (takeF lim F St n).1, .int .i64 (takeF lim F St n).2.1]) ∧ Ref (Grew R w w') B b lim (takeF lim F St n).2.2 St w' ∧ Only R w w' := by
  obtain ⟨i0, hi, hz0, hz1, hz2⟩ := info_parts info8
  have H := Lib.hid h
  have c1 := h.c1
  have hone := h.facts.one
  have hsg := h.facts.segs
  have hlim := h.facts.limit
  have HRun := Lib.hid (rruns_any (St.length - 1) (by omega) h)
  have hs1 : ((St.length : Int) - 1) = ((St.length - 1 : Nat) : Int) := by omega
  clear h
  by_cases h1 : n < 1
  · have hT : takeF lim F St n = (0, 1, F) := by unfold takeF; rw [if_pos h1]
    rw [hT]
    go_enter Try.func28, Try.ntmps28
    go_wp2_with fail
    go_ret2
    exact ⟨rfl, ⟨_, _, _, _, H.out.wide H.out⟩, Only.refl _ _⟩
  · obtain ⟨m, rfl⟩ : ∃ m : Nat, n = m := ⟨n.toNat, by omega⟩
    obtain ⟨l, hl⟩ : ∃ l, l = runsP F St (St.length - 1) := ⟨_, rfl⟩
    have hll : l.length ≤ 1048576 := by
      rw [hl]
      unfold runsP
      have := ref_len (fr := fun j => F.getD j false) (a := St.getD (St.length - 1) 0) (endOf St F (St.length - 1) - St.getD (St.length - 1) 0)
      have he : endOf St F (St.length - 1) ≤ F.length := by
        unfold endOf
        rw [if_neg (by omega)]
        exact Nat.le_refl _
      omega
    have hfits : ∀ x ∈ l, x.1 + x.2 ≤ F.length := fun x hx => by
      rw [hl] at hx
      have := (ref_free _ x hx).2.1
      have he : endOf St F (St.length - 1) = F.length := by
        unfold endOf
        rw [if_neg (by omega)]
      rw [he] at this
      have hb := H.out.facts.below _ (getD_mem (St := St) (t := St.length - 1) (by omega))
      omega
    have hTF : ∀ (i : Nat) (x : Nat × Nat), l[i]? = some x → m ≤ x.2 → (∀ (j : Nat) (y : Nat × Nat), j < i → l[j]? = some y → y.2 < m) → takeF lim F St (m : Int) = ((x.1 : Int), 0, put F x.1 false m) := fun i x h2 h3 h4 => by
      unfold takeF
      rw [if_neg h1, Int.toNat_natCast, ← hl, find_at h2 h3 h4]
    have hTN : (∀ (j : Nat) (y : Nat × Nat), j < l.length → l[j]? = some y → y.2 < m) → takeF lim F St (m : Int) = if lim - F.length < m then (0, 2, F) else ((F.length : Int), 0, F ++ List.replicate m false) := fun h4 => by
      unfold takeF
      rw [if_neg h1, Int.toNat_natCast, ← hl, find_no h4]
    have HTF := Lib.hid hTF
    have HTN := Lib.hid hTN
    have HFit := Lib.hid hfits
    rw [← hl] at HRun
    clear hTF hTN hl hfits
    generalize takeF lim F St (m : Int) = tf at *
    go_enter Try.func28, Try.ntmps28
    go_wp2_with fail
    clear hs1
    refine HRun.out.mono ?_
    rintro e w1 ⟨ro, rcap, rfl, hrow, ho⟩
    have H1 := Lib.hid (H.out.only ho)
    have HRow := Lib.hid hrow
    have HO1 := Lib.hid ho
    clear hrow ho HRun c1
    go_wp2_with fail
    go_loopw [7] (fun v wr => ∃ i : Nat, v = .int .i64 i ∧ i ≤ l.length ∧ wr = w1 ∧ Hid (∀ (j : Nat) (y : Nat × Nat), j < i → l[j]? = some y → y.2 < m)) (fun v _ => l.length - (intOf v).toNat)
    case atStart => exact ⟨0, rfl, by omega, rfl, Lib.hid (fun j y hj => by omega)⟩
    case round =>
      obtain ⟨i, rfl, hil, rfl, HB⟩ := hrel
      by_cases hlt : i < l.length
      · have hx : l[i]? = some l[i] := List.getElem?_eq_getElem hlt
        obtain ⟨g3, hg3, r0, r1, _⟩ := row_cells_at HRow.out i l[i] hx
        subst hg3
        have HX := Lib.hid hx
        have hfx := HFit.out l[i] (List.getElem_mem _)
        have hltI : (i : Int) < (l.length : Int) := by omega
        generalize l[i] = x at *
        obtain ⟨xa, xn⟩ := x
        simp only at r0 r1 hfx
        clear hx
        by_cases hm : m ≤ xn
        · have hmI : (xn : Int) ≥ (m : Int) := by omega
          have HT := Lib.hid (HTF.out i (xa, xn) HX.out hm HB.out)
          have hfar : ¬ R g3 := fun e => by
            have h5 := (HRow.out.head _ rfl).2.1
            have h6 := (H.out.own _ e).2
            simp only at h5
            omega
          have I0 : Hid (TakeI R B b fo fcap so scap lim F St xa 0 l (some ⟨g3, 0, none⟩) rcap w wr) := Lib.hid ⟨H1.out, World.ownsRow.mono HRow.out (Nat.zero_le _), fun g hg => by cases hg; exact hfar, HO1.out.no R⟩
          go_wp2_with fail
          clear r0 r1
          go_loopw [8] (fun v wq => ∃ k : Nat, v = .int .i64 k ∧ k ≤ m ∧ Hid (TakeI R B b fo fcap so scap lim F St xa k l (some ⟨g3, 0, none⟩) rcap w wq)) (fun v _ => m - (intOf v).toNat)
          case atStart => exact ⟨0, rfl, by omega, I0⟩
          case round =>
            obtain ⟨k, rfl, hk, HI⟩ := hrel
            obtain ⟨g5, hg5, r0, r1, _⟩ := row_cells_at HI.out.row i (xa, xn) HX.out
            obtain rfl : g3 = g5 := by simpa using hg5
            clear hg5
            by_cases hkm : k < m
            · have hF : (put F xa false k).length = F.length := put_len _ _ _ _
              obtain ⟨gf, hgf, hcf, hfz⟩ := HI.out.ref.cell (xa + k) (by rw [hF]; omega)
              subst hgf
              have c0 := HI.out.ref.c0
              rw [hF] at c0
              have hkI : (k : Int) < (m : Int) := by omega
              have hbd : (xa : Int) + (k : Int) < (F.length : Int) := by omega
              have HN := Lib.hid (fun wq e => HI.out.ref.turned (w2 := wq) (xa + k) (by rw [hF]; omega) false e)
              clear hF
              have hw1 : IntKind.i64.wrap ((xa : Int) + (k : Int)) = (xa : Int) + (k : Int) := IntWalk.i64_in _ (by omega)
              have ht1 : ((xa : Int) + (k : Int)).toNat = xa + k := by omega
              have hi1 : (0 : Int) ≤ (xa : Int) + (k : Int) := by omega
              go_wp2_with fail
              go_still_tail 12, (by kernel_rfl)
              change wpList _ _ _ _ _ wr.drew
              have hfz2 : wr.drew.frozen? ⟨gf, xa + k, none⟩ = false := hfz
              have hcf2 : wr.drew.cell? ⟨gf, xa + k, none⟩ = some (.bool ((put F xa false k).getD (xa + k) false)) := hcf
              have HI2 : Hid (TakeI R B b (some ⟨gf, 0, none⟩) fcap so scap lim F St xa (k + 1) l (some ⟨g3, 0, none⟩) rcap w (wr.drew.setCell ⟨gf, xa + k, none⟩ (.bool false))) := Lib.hid (by
                have hd : Only (fun _ => False) wr wr.drew := Only.drew _ _
                have h1 := (HI.out.ref.only hd).turned (w2 := wr.drew.setCell ⟨gf, xa + k, none⟩ (.bool false)) (xa + k) (by rw [put_len]; omega) false rfl
                exact ⟨h1.1, (HI.out.row.only hd (fun _ _ e => e)).only h1.2 HI.out.far, HI.out.far, (HI.out.only.same (hd.no R)).same h1.2⟩)
              clear hw1 ht1 hi1 r0 r1 c0 hfz hcf hbd HN
              generalize wr.drew = w5 at *
              go_wp2_with fail
              go_roundw
              case rel => exact ⟨k + 1, by go_num, by omega, HI2⟩
              case measure => simp [intOf]; omega
            · have hke : k = m := by omega
              subst hke
              have hkI : ¬ ((k : Int) < (k : Int)) := by omega
              have HRf : Hid (RefAt (Grew R w wr) B b fo fcap so scap lim (put F xa false k) St wr) := Lib.hid (H.out.wide HI.out.ref)
              have HOf := Lib.hid HI.out.only
              have hTo := HT.out
              clear HI
              go_wp2_with fail
              go_ret2
              exact ⟨rfl, ⟨_, _, _, _, HRf.out⟩, HOf.out⟩
        · have hmI : ¬ ((xn : Int) ≥ (m : Int)) := by omega
          go_wp2_with fail
          go_roundw
          case rel => exact ⟨i + 1, by go_num, by omega, by first | rfl | trivial, Lib.hid (fun j y hj hy => by
            rcases Nat.lt_or_ge j i with g | g
            · exact HB.out j y g hy
            · have : j = i := by omega
              subst this
              have := HX.out
              rw [hy] at this
              have := Option.some.inj this
              subst this
              simp only
              omega)⟩
          case measure => simp [intOf]; omega
      · have hT := HTN.out (fun j y hj hy => HB.out j y (by omega) hy)
        have hltI : ¬ ((i : Int) < (l.length : Int)) := by omega
        have c0 := H1.out.c0
        have c2 := H1.out.c2
        by_cases hfull : lim - F.length < m
        · rw [if_pos hfull] at hT
          have hfI : (m : Int) > (lim : Int) - (F.length : Int) := by omega
          have hdec : decide ((m : Int) > (lim : Int) - (F.length : Int)) = true := by simp; omega
          have HO := Lib.hid HO1.out
          clear HTF HTN HFit
          go_wp2_with fail
          go_quiet (fail)
          have HF : Hid (Ref (Grew R w (wr.drewN nq)) B b lim F St (wr.drewN nq) ∧ Only R w (wr.drewN nq)) := Lib.hid ⟨⟨_, _, _, _, H.out.wide (H1.out.only (Only.drewN _ _ _))⟩, (HO.out.same (Only.drewN _ _ _)).no R⟩
          generalize wr.drewN nq = w5 at *
          go_wp2_with fail
          go_ret2
          rw [hT]
          exact ⟨rfl, HF.out⟩
        · rw [if_neg hfull] at hT
          have hfI : ¬ ((m : Int) > (lim : Int) - (F.length : Int)) := by omega
          have hdec : decide ((m : Int) > (lim : Int) - (F.length : Int)) = false := by simp; omega
          have HO := Lib.hid HO1.out
          clear HTF HTN HFit
          go_wp2_with fail
          go_quiet (fail)
          have H5 := Lib.hid (H1.out.only (Only.drewN (fun _ => False) wr nq))
          have HO5 := Lib.hid (HO.out.same (Only.drewN _ wr nq))
          have c0 := H5.out.c0
          generalize wr.drewN nq = w5 at *
          have I0 : Hid (AddI R B b lim F St 0 w w5) := Lib.hid ⟨R, _, _, _, _, by simpa using H5.out, fun j hj => .inl hj, HO5.out.no R⟩
          go_wp2_with fail
          clear c0 hdec hfI hltI
          go_loopw [10] (fun v wq => ∃ k : Nat, v = .int .i64 k ∧ k ≤ m ∧ Hid (AddI R B b lim F St k w wq)) (fun v _ => m - (intOf v).toNat)
          case atStart => exact ⟨0, rfl, by omega, I0⟩
          case round =>
            obtain ⟨k, rfl, hk, HI⟩ := hrel
            obtain ⟨R', fo', fcap', so', scap', hR', hs', ho'⟩ := HI.out
            by_cases hkm : k < m
            · have c0 := hR'.c0
              have HR := Lib.hid hR'
              have HS := Lib.hid hs'
              have hBw : B ≤ wr.heap.size := by have := hR'.own b hR'.inR.1; omega
              have hln : (F ++ List.replicate k false).length = F.length + k := by simp
              have hll2 : (F ++ List.replicate k false).length ≤ 16777216 := by omega
              have hbl := (hR'.own b hR'.inR.1).2
              have hap := hR'.apart.1
              have hkI : (k : Int) < (m : Int) := by omega
              have HL : Hid ((F ++ List.replicate k false).length + 1 ≤ lim) := Lib.hid (by omega)
              have HE : Hid (F ++ List.replicate k false ++ [false] = F ++ List.replicate (k + 1) false) := Lib.hid (by rw [List.replicate_succ', List.append_assoc])
              clear hR' hs' ho' hln
              generalize F ++ List.replicate k false = Fk at *
              go_wp2_with (first
                | (at_builtin; refine wp_append_one liesB rfl (.tmp 82) (.tmp 83) 57 rfl B 4 i0 _ 1 Try.underlying57 hi hz0 hz1 hz2 rfl (by omega) wr fo' fcap' Fk false [.bool false] rfl rfl HR.out.free rfl hll2 hBw ?_; intro fo2 fcap2 w6 hrow6 ho6 hnew6
                   have hb6 : w6.heap[b]? = some (.cells (refCells lim Fk fo' fcap' so' St.length scap') 59 (0, 0)) := by
                     rw [ho6.block b hbl (fun ⟨g, hg, e⟩ => hap g hg e.symm)]
                     exact HR.out.blk
                   have d0 : w6.cell? ⟨b, 0, none⟩ = some (.slice fo' Fk.length fcap') := by rw [cell_of_blk hb6]; rfl
                   have e0 := free_of_blk hb6 0
                   have HN := Lib.hid (fun w7 e => HR.out.longer (w3 := w7) hrow6 ho6 hnew6 HL.out e)
                   clear hrow6 ho6 hnew6 hb6 c0)
                | fail)
              have hN := HN.out _ rfl
              have hAdd : Hid (AddI R B b lim F St (k + 1) w (w6.setCell ⟨b, 0, none⟩ (.slice fo2 (Fk ++ [false]).length fcap2))) := Lib.hid (HI.out.next (by rw [← HE.out]; exact hN.1) HS.out hN.2)
              go_roundw
              case rel => exact ⟨k + 1, by go_num, by omega, by have := hAdd; simpa using this⟩
              case measure => simp [intOf]; omega
            · have hke : k = m := by omega
              subst hke
              have hkI : ¬ ((k : Int) < (k : Int)) := by omega
              have hRf : Hid (Ref (Grew R w wr) B b lim (F ++ List.replicate k false) St wr ∧ Only R w wr) := Lib.hid (by
                refine ⟨⟨_, _, _, _, hR'.sub (fun j hj => hs' j hj) (fun j hj => ?_)⟩, ho'⟩
                have h6 := ho'.size
                have h7 := H.out.own b H.out.inR.1
                rcases hj with e | e
                · have := H.out.own j e; omega
                · omega)
              clear hR' hs' ho' HI
              go_wp2_with fail
              go_ret2
              exact ⟨rfl, hRf.out⟩
end
end Go.Proofs.Ytaplfibhhdngbaa.pools
