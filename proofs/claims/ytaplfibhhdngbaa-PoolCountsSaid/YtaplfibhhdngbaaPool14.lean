/- A row is shortened. -/
import Derived.Test.YtaplfibhhdngbaaPool13
namespace Go.Proofs.Ytaplfibhhdngbaa.pools
open Go.RowKit Go.Proofs.Ytaplfibhhdngbaa.own Go.Proofs.Ytaplfibhhdngbaa.trees Go.Proofs.Ytaplfibhhdngbaa.rows
variable {Sm S : Nat → Prop} {B b k sz : Nat} {so : Option Addr} {scap : Nat} {ao : Option Addr} {cap : Nat} {T : List Int} {f : Nat → Nat} {lim : Nat} {F : List Bool} {St : List Nat} {w w' : World}
/-- The tree has turned, and so has how many cells are loose: a pool again. -/
theorem PoolAt.again (h : PoolAt Sm S B b k sz so scap ao cap T f lim F St w) {T' : List Int} {f' : Nat → Nat} {F' : List Bool} {w1 w2 : World} (hs : 0 < sz) (hr : RunsF B b 3 k sz ao cap f' T' w1) (ho : Only (RowAt ao) w w1)
    (hinv : Inv (fun j => F'.getD j false) Sm f') (hlen : F'.length = F.length) (e : w2 = w1.setCell ⟨b, 5, none⟩ (.int .i64 (count F'))) : PoolAt Sm S B b k sz so scap ao cap T' f' lim F' St w2 ∧ Only S w w2 := by
  have hnb : ¬ RowAt ao b := fun ⟨g, hg, e⟩ => h.apart.2.1 g hg e.symm
  have hTl : T'.length = T.length := by
    rw [hr.runs.len]
    exact (h.runs hs).len.symm
  have hblk : w1.heap[b]? = some (.cells (poolCells lim F so St.length scap sz ao T.length cap) 56 (0, 0)) := by
    rw [ho.block b (h.own b h.inS.1).2 hnb]; exact h.blk
  have o2 : Only (· = b) w1 w2 := by subst e; exact Only.setCell (S := (· = b)) w1 (p := ⟨b, 5, none⟩) rfl _
  have hall : Only S w w2 := (ho.mono (fun j _ hj => by obtain ⟨g, hg, rfl⟩ := hj; exact h.inS.2.2 g hg)).same (o2.mono (fun j _ hj => by rw [hj]; exact h.inS.1))
  refine ⟨⟨?_, ?_, ?_, .inr ⟨hr.runs.tree, hr.runs.size⟩, h.few, hr.runs.small, hr.leaf, hr.rest, hinv, by rw [hlen]; exact h.room, by rw [hlen]; exact h.limit, h.first, h.rising, by rw [hlen]; exact h.below, h.segs, h.inS, fun j hj => ?_, h.apart⟩, hall⟩
  · subst e
    rw [blk_set hblk 5 _]
    unfold poolCells
    rw [hlen, hTl]
    rfl
  · exact (h.starts.only ho (fun g hg e => by obtain ⟨g', hg', e'⟩ := e; exact h.apart.2.2 g g' hg hg' e')).only o2 (fun g hg e => h.apart.1 g hg e)
  · exact hr.runs.row.only o2 (fun g hg e => h.apart.2.1 g hg e)
  · have := h.own j hj
    exact ⟨this.1, Nat.lt_of_lt_of_le this.2 hall.size⟩
theorem RunsF.only0 {o : Nat} (h : RunsF B b o k sz ao cap f T w) (ho : Only (fun _ => False) w w') : RunsF B b o k sz ao cap f T w' := by
  refine ⟨⟨?_, ?_, h.runs.row.only ho (fun _ _ e => e), h.runs.tree, h.runs.size, h.runs.few, h.runs.small⟩, h.leaf, h.rest⟩
  · rw [ho.cell (lt_of_cell h.runs.c0) (fun e => e)]; exact h.runs.c0
  · rw [ho.cell (lt_of_cell h.runs.c1) (fun e => e)]; exact h.runs.c1
theorem PoolAt.cutting (h : PoolAt Sm S B b k sz so scap ao cap T f lim F St w) {a n : Nat} (hn : 1 ≤ n) (hle : n ≤ f a) : Inv (fun j => (put F a false n).getD j false) Sm (cut f a n) ∧ a + f a ≤ F.length ∧ count (put F a false n) + n = count F := by
  have hfree := (h.inv.run a (by omega)).free
  have hlen : a + f a ≤ F.length := by
    rcases Nat.lt_or_ge F.length (a + f a) with hl | hg
    · have hx := hfree (a + f a - 1) (by omega) (by omega)
      simp only [List.getD_eq_getElem?_getD] at hx
      rw [List.getElem?_eq_none (by omega)] at hx
      cases hx
    · exact hg
  refine ⟨(h.inv.take hn hle).congr (fun j => ?_) (fun _ => Iff.rfl) (fun _ => rfl), hlen, put_off_count F a n (by omega) (fun j g1 g2 => hfree j g1 (by omega))⟩
  rw [put_get F a false n (by omega)]
  rfl
set_option maxRecDepth 100000 in
set_option maxHeartbeats 4000000 in
theorem shorten_any (a n : Nat) (hn : 1 ≤ n) (h : PoolAt Sm S B b k sz so scap ao cap T f lim F St w) (hle : n ≤ f a) :
    Calls Try.prog 40 #[.pointer (some ⟨b, 0, none⟩), .int .i64 a, .int .i64 n] w fun e w' => e = .returned (.tuple #[]) ∧ ∃ T', PoolAt Sm S B b k sz so scap ao cap T' (cut f a n) lim (put F a false n) St w' ∧ Only S w w' := by
  have hcut := h.cutting hn hle
  have hroom := h.room
  have hfew := h.few
  have hcl := count_le F
  have hlen := hcut.2.1
  have hcnt := hcut.2.2
  have hsz : 0 < sz := by omega
  have ha : a < sz := by omega
  have HI := Lib.hid hcut.1
  have H := Lib.hid h
  have HR := Lib.hid (h.runsF hsz)
  have hsep := h.apart.2.1
  have HSep := Lib.hid hsep
  have c5 := h.c5
  have fz := free_of_blk h.blk 5
  have hbl := (h.own b h.inS.1).2
  have hnb : ¬ RowAt ao b := fun ⟨g, hg, e⟩ => h.apart.2.1 g hg e.symm
  have HNB := Lib.hid hnb
  have HAg : Hid (∀ (T' : List Int) (f' : Nat → Nat) (w1 w2 : World), RunsF B b 3 k sz ao cap f' T' w1 → Only (RowAt ao) w w1 → f' = cut f a n → w2 = w1.setCell ⟨b, 5, none⟩ (.int .i64 (count (put F a false n))) → PoolAt Sm S B b k sz so scap ao cap T' (cut f a n) lim (put F a false n) St w2 ∧ Only S w w2) :=
    Lib.hid (fun T' f' w1 w2 hr ho hf e => by subst hf; exact H.out.again hsz hr ho HI.out (put_len F a false n) e)
  have HC1 : Hid (0 < f a - n → (fun q => if q = a + n then f a - n else if q = a then 0 else f q) = cut f a n) := Lib.hid (by
    intro hp
    funext q
    unfold cut
    by_cases e1 : q = a
    · rw [if_pos e1, if_neg (by omega), if_pos e1]
    · rw [if_neg e1, if_neg e1]
      by_cases e2 : q = a + n
      · rw [if_pos e2, if_pos ⟨e2, hp⟩]
      · rw [if_neg e2, if_neg (fun hh => e2 hh.1)])
  have HC0 : Hid (¬ 0 < f a - n → (fun q => if q = a then 0 else f q) = cut f a n) := Lib.hid (by
    intro hp
    funext q
    unfold cut
    by_cases e1 : q = a
    · rw [if_pos e1, if_pos e1]
    · rw [if_neg e1, if_neg e1, if_neg (fun hh => hp hh.2)])
  clear h hcut hsep hnb
  generalize hG : count (put F a false n) = c' at *
  clear hG
  generalize hc : count F = c at *
  clear hc
  generalize hfa : f a = x at *
  have HX := Lib.hid hfa
  clear hfa
  have hx : x ≤ 1048576 := by omega
  go_enter Try.func40, Try.ntmps40
  go_wp2_with fail
  refine (at_f a ha HR.out).mono ?_
  rintro e w1 ⟨rfl, ho⟩
  rw [HX.out]
  have HR1 : Hid (RunsF B b 3 k sz ao cap f T w1) := Lib.hid (HR.out.only0 ho)
  have HO1 : Hid (Only (RowAt ao) w w1) := Lib.hid (ho.no _)
  clear ho
  have hw : IntKind.i64.wrap ((x : Int) - (n : Int)) = ((x - n : Nat) : Int) := by rw [IntWalk.i64_in _ (by omega)]; omega
  have hxn : ((x : Int) - (n : Int)) = ((x - n : Nat) : Int) := by omega
  go_wp2_with fail
  refine (set_f a 0 HR1.out ha (by omega) HSep.out).mono ?_
  rintro e w2 ⟨rfl, T2, hr2, ho2⟩
  have HR2 := Lib.hid hr2
  have HO2 := Lib.hid (HO1.out.same ho2)
  clear hr2 ho2 HR1 HO1 hw
  by_cases hp : 0 < x - n
  · have hpi : (0 : Int) < (x : Int) - (n : Int) := by omega
    have HE := Lib.hid (HC1.out hp)
    go_wp2_with fail
    try rw [hxn]
    try rw [show ((a : Int) + (n : Int)) = ((a + n : Nat) : Int) by omega]
    refine (set_f (a + n) (x - n) HR2.out (by omega) (by omega) HSep.out).mono ?_
    rintro e w3 ⟨rfl, T3, hr3, ho3⟩
    have HR3 := Lib.hid hr3
    have HO3 := Lib.hid (HO2.out.same ho3)
    clear hr3 ho3 HR2 HO2
    have d5 : w3.cell? ⟨b, 5, none⟩ = some (.int .i64 c) := by rw [HO3.out.cell (p := ⟨b, 5, none⟩) hbl HNB.out]; exact c5
    have g5 : w3.frozen? ⟨b, 5, none⟩ = false := by rw [HO3.out.frozen (p := ⟨b, 5, none⟩) hbl HNB.out]; exact fz
    clear c5 fz
    have hcc : ((c : Int) - (n : Int)) = (c' : Int) := by omega
    go_wp2_with fail
    try rw [hcc]
    go_end0
    exact ⟨rfl, T3, HAg.out T3 _ w3 _ HR3.out HO3.out HE.out rfl⟩
  · have hpi : ¬ ((0 : Int) < (x : Int) - (n : Int)) := by omega
    have HE := Lib.hid (HC0.out hp)
    have d5 : w2.cell? ⟨b, 5, none⟩ = some (.int .i64 c) := by rw [HO2.out.cell (p := ⟨b, 5, none⟩) hbl HNB.out]; exact c5
    have g5 : w2.frozen? ⟨b, 5, none⟩ = false := by rw [HO2.out.frozen (p := ⟨b, 5, none⟩) hbl HNB.out]; exact fz
    clear c5 fz
    have hcc : ((c : Int) - (n : Int)) = (c' : Int) := by omega
    go_wp2_with fail
    try rw [hcc]
    go_end0
    exact ⟨rfl, T2, HAg.out T2 _ w2 _ HR2.out HO2.out HE.out rfl⟩
end Go.Proofs.Ytaplfibhhdngbaa.pools
