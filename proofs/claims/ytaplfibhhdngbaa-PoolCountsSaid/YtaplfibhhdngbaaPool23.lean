/- The last segment's cells are taken away. -/
import Derived.Test.YtaplfibhhdngbaaPool22
import Derived.Deep.RegionHeld3
namespace Go.Proofs.Ytaplfibhhdngbaa.pools
open Go.RowKit Go.Proofs.Ytaplfibhhdngbaa.own Go.Proofs.Ytaplfibhhdngbaa.trees Go.Proofs.Ytaplfibhhdngbaa.rows
variable {Sm S : Nat → Prop} {B b k sz : Nat} {so : Option Addr} {scap : Nat} {ao : Option Addr} {cap : Nat} {T : List Int} {f : Nat → Nat} {lim : Nat} {F : List Bool} {St : List Nat} {w w' : World} {o : Nat}
/-- The first row, of whatever tree. -/
theorem first_p (a n : Nat) (h : PoolAt Sm S B b k sz so scap ao cap T f lim F St w) (hn : 1 ≤ n) (hn1 : n ≤ 9223372036854775807) :
    Calls Try.prog 38 #[.pointer (some ⟨b, 3, none⟩), .int .i64 a, .int .i64 n] w fun e w' => (∃ r, e = .returned (.int .i64 r) ∧ FirstF f a n r) ∧ w = w' := by
  rcases Nat.eq_zero_or_pos sz with e | e
  · refine (first_out a n h.c3 (by omega)).mono ?_
    rintro e2 w' ⟨rfl, rfl⟩
    exact ⟨⟨-1, rfl, .inl ⟨rfl, fun q _ => by rw [h.rest q (by omega)]; omega⟩⟩, rfl⟩
  · exact first_f a n (h.runsF e) hn hn1
theorem count_take {s : Nat} (h : ∀ j, s ≤ j → F.getD j false = false) : count (F.take s) = count F := by
  unfold count
  conv => rhs; rw [← List.take_append_drop s F]
  rw [List.filter_append, List.length_append]
  have : (F.drop s).filter id = [] := by
    rw [List.filter_eq_nil_iff]
    intro x hx
    obtain ⟨i, hi, e⟩ := List.mem_iff_getElem.1 hx
    rw [List.length_drop] at hi
    rw [List.getElem_drop] at e
    have := h (s + i) (by omega)
    rw [List.getD_eq_getElem?_getD, List.getElem?_eq_getElem (by omega)] at this
    simp only [Option.getD_some] at this
    rw [← e, this]
    decide
  rw [this]
  rfl
/-- The last segment's rows are taken away one by one: the next one is at r. -/
structure BackI (S : Nat → Prop) (B b k sz : Nat) (so : Option Addr) (scap : Nat) (ao : Option Addr) (cap lim : Nat) (F : List Bool) (St : List Nat) (s : Nat) (w : World) (r : Int) (T : List Int) (f : Nat → Nat) (F' : List Bool) (wr : World) : Prop where
  pool : PoolAt (· ∈ St) S B b k sz so scap ao cap T f lim F' St wr
  only : Only S w wr
  len : F'.length = F.length
  low : ∀ j, j < s → F'.getD j false = F.getD j false
  first : FirstF f s 1 r
/-- A pool behind the store of how many are loose, and one call of set. -/
theorem PoolAt.loosed (h : PoolAt Sm S B b k sz so scap ao cap T f lim F St w) {T' : List Int} {f' : Nat → Nat} {F' : List Bool} {w1 w2 : World} (hs : 0 < sz) (e : w1 = w.setCell ⟨b, 5, none⟩ (.int .i64 (count F'))) (hr : RunsF B b 3 k sz ao cap f' T' w2) (ho : Only (RowAt ao) w1 w2)
    (hinv : Inv (fun j => F'.getD j false) Sm f') (hlen : F'.length = F.length) : PoolAt Sm S B b k sz so scap ao cap T' f' lim F' St w2 ∧ Only S w w2 := by
  have hnb : ¬ RowAt ao b := fun ⟨g, hg, e⟩ => h.apart.2.1 g hg e.symm
  have hTl : T'.length = T.length := by
    rw [hr.runs.len]
    exact (h.runs hs).len.symm
  have hbl := h.own b h.inS.1
  have o1 : Only (· = b) w w1 := by subst e; exact Only.setCell (S := (· = b)) w (p := ⟨b, 5, none⟩) rfl _
  have hall : Only S w w2 := (o1.mono (fun j _ hj => by rw [hj]; exact h.inS.1)).same (ho.mono (fun j _ hj => by obtain ⟨g, hg, rfl⟩ := hj; exact h.inS.2.2 g hg))
  refine ⟨⟨?_, ?_, hr.runs.row, .inr ⟨hr.runs.tree, hr.runs.size⟩, h.few, hr.runs.small, hr.leaf, hr.rest, hinv, by rw [hlen]; exact h.room, by rw [hlen]; exact h.limit, h.first, h.rising, by rw [hlen]; exact h.below, h.segs, h.inS, fun j hj => ?_, h.apart⟩, hall⟩
  · rw [ho.block b (by have := o1.size; omega) hnb]
    subst e
    rw [blk_set h.blk 5 _]
    unfold poolCells
    rw [hlen, hTl]
    rfl
  · exact (h.starts.only o1 (fun g hg e => h.apart.1 g hg e)).only ho (fun g hg e => by obtain ⟨g', hg', e'⟩ := e; exact h.apart.2.2 g g' hg hg' e')
  · have := h.own j hj
    exact ⟨this.1, Nat.lt_of_lt_of_le this.2 hall.size⟩
/-- The tree's calls at the pool whose number of loose cells has turned. -/
theorem PoolAt.runsF5 (h : PoolAt Sm S B b k sz so scap ao cap T f lim F St w) (hs : 0 < sz) {w1 : World} {v : Value} (e : w1 = w.setCell ⟨b, 5, none⟩ v) : RunsF B b 3 k sz ao cap f T w1 := by
  have o1 : Only (· = b) w w1 := by subst e; exact Only.setCell (S := (· = b)) w (p := ⟨b, 5, none⟩) rfl _
  have hb1 : w1.heap[b]? = some (.cells ((poolCells lim F so St.length scap sz ao T.length cap).setIfInBounds 5 v) 56 (0, 0)) := by subst e; exact blk_set h.blk 5 _
  have hr := h.runsF hs
  refine ⟨⟨?_, ?_, h.most.only o1 (fun g hg e => h.apart.2.1 g hg e), hr.runs.tree, hr.runs.size, hr.runs.few, hr.runs.small⟩, h.leaf, h.rest⟩
  · rw [cell_of_blk hb1]; rfl
  · rw [cell_of_blk hb1]; rfl
theorem PoolAt.drop (h : PoolAt (· ∈ St) S B b k sz so scap ao cap T f lim F St w) {s p : Nat} (hp1 : s ≤ p) (hp2 : 1 ≤ f p) (hs : ∀ q, s ≤ q → q < p → f q < 1) {r : Int} (hr : FirstF (fun q => if q = p then 0 else f q) p 1 r) : FirstF (fun q => if q = p then 0 else f q) s 1 r := by
  rcases hr with ⟨rfl, hz⟩ | ⟨q', rfl, g1, g2, g3⟩
  · refine .inl ⟨rfl, fun q hq => ?_⟩
    rcases Nat.lt_or_ge q p with hl | hg
    · show (if q = p then 0 else f q) < 1; rw [if_neg (by omega)]; exact hs q hq hl
    · exact hz q hg
  · refine .inr ⟨q', rfl, by omega, g2, fun q hq hq2 => ?_⟩
    rcases Nat.lt_or_ge q p with hl | hg
    · show (if q = p then 0 else f q) < 1; rw [if_neg (by omega)]; exact hs q hq hl
    · exact g3 q hg hq2
theorem cut_whole (f : Nat → Nat) (p : Nat) : cut f p (f p) = fun q => if q = p then 0 else f q := by
  funext q
  unfold cut
  by_cases e : q = p
  · rw [if_pos e, if_pos e]
  · rw [if_neg e, if_neg e, if_neg (by omega)]
/-- Behind Back. -/
theorem PoolAt.backed {s : Nat} (h : PoolAt (· ∈ St) S B b k sz so scap ao cap T f lim F St w) (hs : s = lastOf St) {w1 : World} (hz : ∀ q, s ≤ q → f q < 1) (e : w1 = w.setCell ⟨b, 1, none⟩ (.int .i64 s)) :
    PoolAt (· ∈ St) S B b k sz so scap ao cap T f lim (F.take s) St w1 ∧ Only S w w1 := by
  have hone := h.one
  have hsm : s ∈ St := by rw [hs]; exact getD_mem (by omega)
  have hsl := h.below s hsm
  have hlen : (F.take s).length = s := by rw [List.length_take]; omega
  have o2 : Only (· = b) w w1 := by subst e; exact Only.setCell (S := (· = b)) w (p := ⟨b, 1, none⟩) rfl _
  have hall : Only S w w1 := o2.mono (fun j _ hj => by rw [hj]; exact h.inS.1)
  have hfr : ∀ j, s ≤ j → F.getD j false = false := by
    intro j hj
    cases hf : F.getD j false with
    | false => rfl
    | true =>
      exfalso
      obtain ⟨q, hq1, hq2⟩ := h.inv.all j hf
      rcases Nat.lt_or_ge q s with hl | hg
      · have := h.inv.stops hsm hl
        omega
      · have := hz q hg
        omega
  have hget : ∀ j, (F.take s).getD j false = if s ≤ j then false else F.getD j false := by
    intro j
    simp only [List.getD_eq_getElem?_getD]
    by_cases g : s ≤ j
    · rw [if_pos g, List.getElem?_eq_none (by omega)]; rfl
    · rw [if_neg g, List.getElem?_take_of_lt (by omega)]
  refine ⟨⟨?_, h.starts.only o2 (fun g hg e => h.apart.1 g hg e), h.most.only o2 (fun g hg e => h.apart.2.1 g hg e), h.tree, h.few, h.small, h.leaf, h.rest, ?_, by have := h.room; omega, ⟨by have := h.limit.1; omega, h.limit.2⟩, h.first, h.rising, fun t ht => ?_, h.segs, h.inS, fun j hj => ?_, h.apart⟩, hall⟩
  · subst e
    rw [blk_set h.blk 1 _]
    unfold poolCells
    rw [hlen, count_take hfr]
    rfl
  · refine (h.inv.back hsm).congr (fun j => ?_) (fun _ => Iff.rfl) (fun q => ?_)
    · exact hget j
    · split
      · rename_i g; have := hz q g; omega
      · rfl
  · rw [hlen]
    obtain ⟨i, hi, rfl⟩ := mem_getD ht
    rw [hs]
    exact getD_le h.rising (by omega) (by omega)
  · have := h.own j hj
    exact ⟨this.1, Nat.lt_of_lt_of_le this.2 hall.size⟩
def backM (sz : Nat) (r : Int) : Nat := if r < 0 then 0 else sz + 1 - r.toNat
theorem backM_lt {sz p : Nat} {r : Int} (hp : p < sz) (hr : r < 0 ∨ (p : Int) < r) : backM sz r < backM sz (p : Int) := by
  unfold backM
  rw [if_neg (show ¬ (p : Int) < 0 by omega)]
  by_cases e : r < 0
  · rw [if_pos e]; omega
  · rw [if_neg e]; omega
set_option maxRecDepth 100000 in
set_option maxHeartbeats 4000000 in
theorem back_any (h : PoolAt (· ∈ St) S B b k sz so scap ao cap T f lim F St w) :
    Calls Try.prog 17 #[.pointer (some ⟨b, 0, none⟩)] w fun e w' => e = .returned (.int .i64 0) ∧ ∃ T' f', PoolAt (· ∈ St) S B b k sz so scap ao cap T' f' lim (F.take (lastOf St)) St w' ∧ Only S w w' := by
  have HC := Lib.hid (closed_no h)
  have H := Lib.hid h
  have hone := h.one
  have hsg := h.segs
  have hfew := h.few
  have hroom := h.room
  have c2 := h.c2
  obtain ⟨g, hg, _⟩ := h.start 0 0 h.first
  subst hg
  have cs := start_cell h.starts (St.length - 1) (by omega)
  change w.cell? _ = some (.int .i64 (lastOf St : Int)) at cs
  have HQ1 : Hid (∀ N, Calls Try.prog 39 #[.pointer (some ⟨b, 0, none⟩)] (w.drewN N) fun e w' => e = .returned (.int .i64 ((St.length - 1 : Nat) : Int)) ∧ w' = w.drewN N) := Lib.hid (fun N => (last_seg (H.out.drewN N)).mono (fun _ _ hh => ⟨hh.1, hh.2.symm⟩))
  have HSep := Lib.hid h.apart.2.1
  have hi1 : ((St.length - 1 : Nat) : Int) < (St.length : Int) := by omega
  obtain ⟨s, hs⟩ : ∃ s, s = lastOf St := ⟨_, rfl⟩
  have HS := Lib.hid hs
  rw [← hs] at cs ⊢
  clear h hs
  generalize hm : St.length - 1 = m at *
  have HM := Lib.hid hm
  clear hm
  go_enter Try.func17, Try.ntmps17
  go_wp2_with fail
  refine HC.out.mono ?_
  rintro e w1 ⟨rfl, rfl⟩
  go_wp2_with fail
  go_quiet ((go_at_call 39; exact Calls.quiet_of_same (HQ1.out _)))
  have H1 := Lib.hid (H.out.drewN nq)
  have HO1 : Hid (Only S w (w.drewN nq)) := Lib.hid (Only.drewN _ _ _)
  clear c2 cs HQ1 HC
  generalize w.drewN nq = w2 at *
  go_wp2_with fail
  refine (first_p s 1 H1.out (by omega) (by omega)).mono ?_
  rintro e w3 ⟨⟨r, rfl, hr⟩, rfl⟩
  have HB : Hid (BackI S B b k sz (some ⟨g, 0, none⟩) scap ao cap lim F St s w r T f F w2) := Lib.hid ⟨H1.out, HO1.out, rfl, fun _ _ => rfl, hr⟩
  clear hr
  go_wp2_with fail
  go_loopw [4] (fun v wr => ∃ (r : Int) (T' : List Int) (f' : Nat → Nat) (F' : List Bool), v = .int .i64 r ∧ -1 ≤ r ∧ r < sz ∧ Hid (BackI S B b k sz (some ⟨g, 0, none⟩) scap ao cap lim F St s w r T' f' F' wr)) (fun v _ => backM sz (intOf v))
  case atStart =>
    refine ⟨r, T, f, F, rfl, ?_, ?_, HB⟩
    · rcases HB.out.first with ⟨rfl, _⟩ | ⟨p, rfl, _⟩ <;> omega
    · rcases HB.out.first with ⟨rfl, _⟩ | ⟨p, rfl, _, h2, _⟩
      · omega
      · rcases Nat.lt_or_ge p sz with hl | hg
        · omega
        · have := H.out.rest p hg; omega
  case round =>
    obtain ⟨r, T1, f1, F1, rfl, hr0, hr1, HI⟩ := hrel
    rcases HI.out.first with ⟨rfl, hz⟩ | ⟨p, rfl, hp1, hp2, hp3⟩
    · have hbl := (H1.out.own b H1.out.inS.1).2
      have HF := Lib.hid (fun w6 e => HI.out.pool.backed (w1 := w6) HS.out hz e)
      have HO := Lib.hid HI.out.only
      have HT : Hid (F1.take s = F.take s) := Lib.hid (by
        have hl := HI.out.len
        have hlow := HI.out.low
        refine List.ext_getElem? (fun j => ?_)
        by_cases hj : j < s
        · rw [List.getElem?_take_of_lt hj, List.getElem?_take_of_lt hj]
          have := hlow j hj
          simp only [List.getD_eq_getElem?_getD] at this
          rcases Nat.lt_or_ge j F.length with g | g
          · rw [List.getElem?_eq_getElem (by omega), List.getElem?_eq_getElem g] at this ⊢
            simpa using this
          · rw [List.getElem?_eq_none (by omega), List.getElem?_eq_none g]
        · rw [List.getElem?_eq_none (by rw [List.length_take]; omega), List.getElem?_eq_none (by rw [List.length_take]; omega)])
      have d1 := HI.out.pool.c1
      have g1 := free_of_blk HI.out.pool.blk 1
      rw [HT.out] at HF
      clear hz HI
      go_wp2_with fail
      go_ret
      exact ⟨rfl, T1, f1, (HF.out _ rfl).1, HO.out.same (HF.out _ rfl).2⟩
    · have hsz : 0 < sz := by omega
      have hps : p < sz := by omega
      have HDrop := Lib.hid (fun r hr => HI.out.pool.drop (r := r) hp1 hp2 hp3 hr)
      have c5 := HI.out.pool.c5
      have g5 := free_of_blk HI.out.pool.blk 5
      have hcut := HI.out.pool.cutting (a := p) (n := f1 p) hp2 (Nat.le_refl _)
      have hcl := count_le F1
      have hl := HI.out.len
      have HRN := Lib.hid (HI.out.pool.runsF hsz)
      have hcnt : ((count F1 : Int) - (f1 p : Int)) = (count (put F1 p false (f1 p)) : Int) := by omega
      have HCut := Lib.hid hcut
      have HCnt := Lib.hid hcnt
      clear hcnt
      have HRD : Hid (RunsF B b 3 k sz ao cap f1 T1 wr.drew) := Lib.hid (HRN.out.drewN 1)
      have hbl := (HI.out.pool.own b HI.out.pool.inS.1).2
      have hb1 : (f1 p : Int) ≤ 1048576 := by omega
      have hb2 : (count F1 : Int) ≤ 1048576 := by omega
      generalize hx : f1 p = x at *
      have HX := Lib.hid hx
      generalize hcc : count F1 = c at *
      have HCC := Lib.hid hcc
      clear hx hcc hcut hp3 hcl
      have hw1 : IntKind.i64.wrap ((c : Int) - (x : Int)) = (c : Int) - x := IntWalk.i64_in _ (by omega)
      go_wp2_with fail
      go_region_law (first
        | (go_simp; go_at_call 44; refine (at_f p hps HRD.out).mono ?_; rintro e w4 ⟨rfl, ho⟩; (try rw [HX.out]); have HO4 := Lib.hid ho; have hsz4 := ho.size; clear ho; have c5' : w4.cell? ⟨b, 5, none⟩ = some (.int .i64 c) := (((Only.drew (fun _ => False) wr).same HO4.out).cell (p := ⟨b, 5, none⟩) hbl (fun e => e)).trans c5; have g5' : w4.frozen? ⟨b, 5, none⟩ = false := (((Only.drew (fun _ => False) wr).same HO4.out).frozen (p := ⟨b, 5, none⟩) hbl (fun e => e)).trans g5))
      all_goals
        clear hw1 c5 g5 c5' g5'
        have H4 := Lib.hid ((HI.out.pool.drewN 1).only HO4.out)
        rw [HCnt.out]
        have HR4 := Lib.hid (H4.out.runsF5 (v := .int .i64 (count (put F1 p false x))) hsz rfl)
        have HP4 := Lib.hid (fun w5 T' f' => H4.out.loosed (T' := T') (f' := f') (F' := put F1 p false x) (w2 := w5) hsz rfl)
        go_wp2_with fail
        refine (set_f p 0 HR4.out hps (by omega) HSep.out).mono ?_
        rintro e w5 ⟨rfl, T5, hr, ho⟩
        have H5 := Lib.hid (HP4.out w5 T5 _ hr ho (by have hci := HCut.out.1; rw [← HX.out, cut_whole, HX.out] at hci; exact hci) (put_len _ _ _ _))
        clear hr ho
        go_wp2_with fail
        refine (first_p p 1 H5.out.1 (by omega) (by omega)).mono ?_
        rintro e w6 ⟨⟨r', rfl, hr'⟩, rfl⟩
        have HN : Hid (BackI S B b k sz (some ⟨g, 0, none⟩) scap ao cap lim F St s w r' T5 (fun q => if q = p then 0 else f1 q) (put F1 p false x) w5) := Lib.hid ⟨H5.out.1, (((HI.out.only.same (Only.drew S wr)).same (HO4.out.no S)).same H5.out.2), by rw [put_len]; exact hl, fun j hj => by
            rw [put_get F1 p false x (by have := HCut.out.2.1; omega), if_neg (by omega)]; exact HI.out.low j hj, HDrop.out r' hr'⟩
        have hr2 : -1 ≤ r' ∧ r' < sz ∧ (r' < 0 ∨ (p : Int) < r') := by
          rcases hr' with ⟨rfl, _⟩ | ⟨p', rfl, g1, g2, _⟩
          · omega
          · replace g2 : 1 ≤ (if p' = p then 0 else f1 p') := g2
            have h1 : p' ≠ p := by intro e; rw [if_pos e] at g2; omega
            rw [if_neg h1] at g2
            rcases Nat.lt_or_ge p' sz with hl2 | hg2
            · omega
            · have := HI.out.pool.rest p' hg2; omega
        clear hr'
        go_wp2_with fail
        go_roundw
        case rel => exact ⟨r', T5, _, _, rfl, hr2.1, hr2.2.1, HN⟩
        case measure => exact backM_lt hps hr2.2.2
end Go.Proofs.Ytaplfibhhdngbaa.pools
