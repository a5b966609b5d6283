/- The last segment is closed. -/
import Derived.Test.YtaplfibhhdngbaaPool21
namespace Go.Proofs.Ytaplfibhhdngbaa.pools
open Go.RowKit Go.Proofs.Ytaplfibhhdngbaa.own Go.Proofs.Ytaplfibhhdngbaa.trees Go.Proofs.Ytaplfibhhdngbaa.rows
variable {Sm S : Nat → Prop} {B b k sz : Nat} {so : Option Addr} {scap : Nat} {ao : Option Addr} {cap : Nat} {T : List Int} {f : Nat → Nat} {lim : Nat} {F : List Bool} {St : List Nat} {w w' : World} {o : Nat}
theorem PoolAt.reseam {Sm' : Nat → Prop} (h : PoolAt Sm S B b k sz so scap ao cap T f lim F St w) (hi : Inv (fun j => F.getD j false) Sm' f) : PoolAt Sm' S B b k sz so scap ao cap T f lim F St w :=
  ⟨h.blk, h.starts, h.most, h.tree, h.few, h.small, h.leaf, h.rest, hi, h.room, h.limit, h.first, h.rising, h.below, h.segs, h.inS, h.own, h.apart⟩
/-- The tree alone has turned. -/
theorem PoolAt.relaid {Sm' : Nat → Prop} (h : PoolAt Sm S B b k sz so scap ao cap T f lim F St w) {T' : List Int} {f' : Nat → Nat} {w1 : World} (hs : 0 < sz) (hr : RunsF B b 3 k sz ao cap f' T' w1) (ho : Only (RowAt ao) w w1)
    (hinv : Inv (fun j => F.getD j false) Sm' f') : PoolAt Sm' S B b k sz so scap ao cap T' f' lim F St w1 ∧ Only S w w1 := by
  have hnb : ¬ RowAt ao b := fun ⟨g, hg, e⟩ => h.apart.2.1 g hg e.symm
  have hTl : T'.length = T.length := by
    rw [hr.runs.len]
    exact (h.runs hs).len.symm
  have hall : Only S w w1 := ho.mono (fun j _ hj => by obtain ⟨g, hg, rfl⟩ := hj; exact h.inS.2.2 g hg)
  refine ⟨⟨?_, ?_, hr.runs.row, .inr ⟨hr.runs.tree, hr.runs.size⟩, h.few, hr.runs.small, hr.leaf, hr.rest, hinv, h.room, h.limit, h.first, h.rising, h.below, h.segs, h.inS, fun j hj => ?_, h.apart⟩, hall⟩
  · rw [ho.block b (h.own b h.inS.1).2 hnb, hTl]
    exact h.blk
  · exact h.starts.only ho (fun g hg e => by obtain ⟨g', hg', e'⟩ := e; exact h.apart.2.2 g g' hg hg' e')
  · have := h.own j hj
    exact ⟨this.1, Nat.lt_of_lt_of_le this.2 hall.size⟩
/-- The starts are fewer by one. -/
theorem PoolAt.fewer (h : PoolAt Sm S B b k sz so scap ao cap T f lim F St w) {m : Nat} {w1 : World} (hm : St.length = m + 1) (h1 : 1 ≤ m) (e : w1 = w.setCell ⟨b, 2, none⟩ (.slice so m scap)) :
    PoolAt Sm S B b k sz so scap ao cap T f lim F (St.take m) w1 ∧ Only S w w1 := by
  have hbl := h.own b h.inS.1
  have o2 : Only (· = b) w w1 := by subst e; exact Only.setCell (S := (· = b)) w (p := ⟨b, 2, none⟩) rfl _
  have hall : Only S w w1 := o2.mono (fun j _ hj => by rw [hj]; exact h.inS.1)
  have hl : (St.take m).length = m := by rw [List.length_take]; omega
  refine ⟨⟨?_, (h.starts.take lies64 m (by omega)).only o2 (fun g hg e => h.apart.1 g hg e), h.most.only o2 (fun g hg e => h.apart.2.1 g hg e), h.tree, h.few, h.small, h.leaf, h.rest, h.inv, h.room, h.limit, ?_, h.rising.sublist (List.take_sublist _ _), fun s hs => h.below s (List.mem_of_mem_take hs), by have := h.segs; omega, h.inS, fun j hj => ?_, h.apart⟩, hall⟩
  · subst e
    rw [blk_set h.blk 2 _, hl]
    rfl
  · rw [List.getElem?_take_of_lt (by omega)]
    exact h.first
  · have := h.own j hj
    exact ⟨this.1, Nat.lt_of_lt_of_le this.2 hall.size⟩
theorem take_getD {m t : Nat} (ht : t < m) : (St.take m).getD t 0 = St.getD t 0 := by
  simp only [List.getD_eq_getElem?_getD]
  rw [List.getElem?_take_of_lt ht]
/-- The last of the starts that are left, and what is at the seam that goes. -/
theorem closing_seg {m : Nat} (hm : St.length = m + 1) (h1 : 1 ≤ m) (hr : St.Pairwise (· ≤ ·)) : Seg (St.take m) (St.getD m 0) (m - 1) ∧ endOf (St.take m) F (m - 1) = F.length ∧ (∀ j, j ∈ St.take m → j ∈ St) ∧ (∀ j, j ∈ St → j ∉ St.take m → j = St.getD m 0) ∧
    (∀ j, j ∈ St.take m → j ≤ (St.take m).getD (m - 1) 0) ∧ (St.take m).getD (m - 1) 0 ∈ St.take m ∧ (St.take m).getD (m - 1) 0 ≤ St.getD m 0 := by
  have hl : (St.take m).length = m := by rw [List.length_take]; omega
  have hle : (St.take m).getD (m - 1) 0 ≤ St.getD m 0 := by
    rw [take_getD (by omega)]
    exact getD_le hr (by omega) (by omega)
  refine ⟨⟨by omega, hle, fun t g1 g2 => by omega⟩, ?_, fun j hj => List.mem_of_mem_take hj, fun j hj hn => ?_, fun j hj => ?_, getD_mem (by omega), hle⟩
  · unfold endOf
    rw [if_neg (by omega)]
  · obtain ⟨t, ht, rfl⟩ := mem_getD hj
    rcases Nat.lt_or_ge t m with hlt | hge
    · exfalso
      apply hn
      rw [← take_getD hlt]
      exact getD_mem (by omega)
    · rw [show t = m by omega]
  · obtain ⟨t, ht, rfl⟩ := mem_getD hj
    exact getD_le (hr.sublist (List.take_sublist _ _)) (by omega) (by omega)
theorem PoolAt.closing (h : PoolAt (· ∈ St) S B b k sz so scap ao cap T f lim F St w) {m r : Nat} (hm : St.length = m + 1) (h1 : 1 ≤ m) (hp : 0 < f (St.getD m 0)) (hr : LayR f ((St.take m).getD (m - 1) 0) (St.getD m 0) r) :
    Inv (fun j => F.getD j false) (· ∈ St.take m) (laid f (decide (F.length ≤ St.getD m 0 + f (St.getD m 0))) r (St.getD m 0) (f (St.getD m 0))) := by
  obtain ⟨hs, _, hsub, hd, hmax, hst, hle⟩ := closing_seg (F := F) hm h1 h.rising
  have hin : St.getD m 0 ∈ St := getD_mem (by omega)
  have h0 : (0 : Nat) ∈ St.take m := List.mem_of_getElem? (i := 0) (by rw [List.getElem?_take_of_lt (by omega)]; exact h.first)
  have hl := Inv.close (seam' := (· ∈ St.take m)) (r := r) (sm := decide (St.getD m 0 + f (St.getD m 0) ∈ St.take m)) h.inv hin hsub hd h0 hp (by simp) (by
    rcases hr with ⟨e, hz⟩ | ⟨g1, g2, g3⟩
    · refine .inl ⟨e, ?_⟩
      by_cases hmem : St.getD m 0 ∈ St.take m
      · exact .inl hmem
      · right
        have hlt : (St.take m).getD (m - 1) 0 < St.getD m 0 := by
          rcases Nat.lt_or_ge ((St.take m).getD (m - 1) 0) (St.getD m 0) with g | g
          · exact g
          · exfalso
            apply hmem
            rw [show St.getD m 0 = (St.take m).getD (m - 1) 0 by omega]
            exact hst
        refine ⟨by omega, ?_⟩
        cases hf : F.getD (St.getD m 0 - 1) false with
        | false => rfl
        | true =>
          exfalso
          obtain ⟨q, hq1, hq2⟩ := h.inv.all (St.getD m 0 - 1) hf
          have hqs : (St.take m).getD (m - 1) 0 ≤ q := by
            rcases Nat.lt_or_ge q ((St.take m).getD (m - 1) 0) with g | g
            · have := h.inv.stops (hsub _ hst) g
              omega
            · exact g
          have := hz q hqs (by omega)
          have := h.inv.stops hin (show q < St.getD m 0 by omega)
          omega
    · refine .inr ⟨g2, g3, fun hmem => ?_⟩
      have := hmax _ hmem
      omega)
  rw [laid_same (sm' := decide (F.length ≤ St.getD m 0 + f (St.getD m 0))) (fun hne => ?_)] at hl
  · exact hl
  · have e1 : decide (St.getD m 0 + f (St.getD m 0) ∈ St.take m) = false := by
      refine decide_eq_false (fun hmem => ?_)
      have := hmax _ hmem
      omega
    rw [e1] at hne
    have e2 : F.length ≤ St.getD m 0 + f (St.getD m 0) := by
      have : decide (F.length ≤ St.getD m 0 + f (St.getD m 0)) = true := by
        cases hh : decide (F.length ≤ St.getD m 0 + f (St.getD m 0)) with
        | true => rfl
        | false => rw [hh] at hne; exact absurd rfl hne
      exact of_decide_eq_true this
    rcases Nat.eq_zero_or_pos (f (St.getD m 0 + f (St.getD m 0))) with e0 | e0
    · exact e0
    · have := h.run_le _ e0
      omega
theorem PoolAt.closing_none (h : PoolAt (· ∈ St) S B b k sz so scap ao cap T f lim F St w) {m : Nat} (hm : St.length = m + 1) (h1 : 1 ≤ m) (hp : f (St.getD m 0) = 0) : Inv (fun j => F.getD j false) (· ∈ St.take m) f := by
  obtain ⟨hs, _, hsub, hd, _⟩ := closing_seg (F := F) hm h1 h.rising
  exact Inv.close_none (seam' := (· ∈ St.take m)) h.inv (getD_mem (by omega)) hsub hd hp
set_option maxRecDepth 100000 in
theorem close_one (h : PoolAt Sm S B b k sz so scap ao cap T f lim F St w) (hf : St.length = 1) :
    Calls Try.prog 16 #[.pointer (some ⟨b, 0, none⟩)] w fun e w' => e = .returned (.int .i64 4) ∧ w = w' := by
  have HC := Lib.hid (closed_no h)
  have HL := last_seg h
  rw [hf] at HL
  have HL := Lib.hid HL
  clear h hf
  go_enter Try.func16, Try.ntmps16
  go_wp2_with fail
  refine HC.out.mono ?_
  rintro e w1 ⟨rfl, rfl⟩
  go_wp2_with fail
  refine HL.out.mono ?_
  rintro e w1 ⟨rfl, rfl⟩
  go_wp2_with fail
  go_ret
  exact ⟨rfl, rfl⟩
set_option maxRecDepth 100000 in
set_option maxHeartbeats 4000000 in
theorem close_any (m : Nat) (h : PoolAt (· ∈ St) S B b k sz so scap ao cap T f lim F St w) (hm : St.length = m + 1) (h1 : 1 ≤ m) :
    Calls Try.prog 16 #[.pointer (some ⟨b, 0, none⟩)] w fun e w' => e = .returned (.int .i64 0) ∧ ∃ T' f', PoolAt (· ∈ St.take m) S B b k sz so scap ao cap T' f' lim F (St.take m) w' ∧ Only S w w' := by
  have HC := Lib.hid (closed_no h)
  have HL := last_seg h
  rw [show St.length - 1 = m by omega] at HL
  have HL := Lib.hid HL
  have H := Lib.hid h
  have hB := h.own b h.inS.1
  have hroom := h.room
  have hfew := h.few
  have hsg := h.segs
  have c1 := h.c1
  have c2 := h.c2
  have g2 := free_of_blk h.blk 2
  have hcap := h.starts.cap_ge
  unfold maxLen at hcap
  obtain ⟨g, hg, _⟩ := h.start 0 0 h.first
  subst hg
  have ds := start_cell h.starts m (by omega)
  have hbelow := h.below _ (getD_mem (show m < St.length by omega))
  have HP := Lib.hid (fun w1 e => h.fewer (w1 := w1) hm h1 e)
  have HCl := Lib.hid (fun r hp hr => h.closing (r := r) hm h1 hp hr)
  have HCn := Lib.hid (fun hp => h.closing_none hm h1 hp)
  have HSeg := Lib.hid (closing_seg (F := F) hm h1 h.rising)
  have HRun := Lib.hid (fun q hq => h.run_le q hq)
  have HM := Lib.hid hm
  rw [hm] at c2 hcap
  generalize hs : St.getD m 0 = s at *
  have hm0 : ((m : Int) == 0) = false := by simp; omega
  have HP0 := Lib.hid (HP.out _ rfl)
  have HPN : Hid (f s = 0 → PoolAt (· ∈ St.take m) S B b k sz (some ⟨g, 0, none⟩) scap ao cap T f lim F (St.take m) (w.setCell ⟨b, 2, none⟩ (.slice (some ⟨g, 0, none⟩) m scap))) := Lib.hid (fun e => HP0.out.1.reseam (HCn.out e))
  clear h hm hs h1 HP
  by_cases hlt : s < F.length
  · have hsz : 0 < sz := by omega
    have HR := Lib.hid (HP0.out.1.runsF hsz)
    go_enter Try.func16, Try.ntmps16
    go_wp2_with fail
    refine HC.out.mono ?_
    rintro e w1 ⟨rfl, rfl⟩
    go_wp2_with fail
    refine HL.out.mono ?_
    rintro e w1 ⟨rfl, rfl⟩
    go_wp2_with fail
    refine (at_f s (by omega) HR.out).mono ?_
    rintro e w2 ⟨rfl, ho⟩
    rcases Nat.eq_zero_or_pos (f s) with e0 | e0
    · have HF := Lib.hid (HPN.out e0)
      rw [e0]
      go_wp2_with fail
      go_ret
      exact ⟨rfl, T, f, HF.out.only ho, HP0.out.2.same (ho.no _)⟩
    · have HO : Hid (Only S w w2) := Lib.hid (HP0.out.2.same (ho.no _))
      have H2 := Lib.hid (HP0.out.1.only ho)
      have HR2 := Lib.hid (HR.out.only0 ho)
      have hbd := HRun.out s e0
      have HE := Lib.hid e0
      clear ho
      have hcut : (0 : Int) < (f s : Int) := by omega
      generalize hn : f s = n at *
      have HN := Lib.hid hn
      clear hn e0
      go_wp2_with fail
      refine (at_f s (by omega) HR2.out).mono ?_
      rintro e w3 ⟨rfl, ho⟩
      rw [HN.out]
      have HO3 : Hid (Only S w w3) := Lib.hid (HO.out.same (ho.no _))
      have H3 := Lib.hid (H2.out.only ho)
      clear ho H2 HO HR2
      go_wp2_with fail
      refine (lay_any s n (m - 1) HE.out H3.out HSeg.out.1 (by rw [HSeg.out.2.1]; exact hbd)).mono ?_
      rintro e w4 ⟨rfl, r, T4, hL, hr, ho⟩
      have hI := HCl.out r HE.out hL
      rw [HSeg.out.2.1] at hr
      have HF := Lib.hid (H3.out.relaid hsz hr ho hI)
      clear hL hr ho hI
      go_wp2_with fail
      go_ret
      exact ⟨rfl, _, _, HF.out.1, HO3.out.same HF.out.2⟩
  · have hle : ¬ ((s : Int) < (F.length : Int)) := by omega
    have HF := Lib.hid (HPN.out (by
      rcases Nat.eq_zero_or_pos (f s) with e | e
      · exact e
      · have := HRun.out s e
        omega))
    go_enter Try.func16, Try.ntmps16
    go_wp2_with fail
    refine HC.out.mono ?_
    rintro e w1 ⟨rfl, rfl⟩
    go_wp2_with fail
    refine HL.out.mono ?_
    rintro e w1 ⟨rfl, rfl⟩
    go_wp2_with fail
    go_ret
    exact ⟨rfl, T, f, HF.out, HP0.out.2⟩
end Go.Proofs.Ytaplfibhhdngbaa.pools
