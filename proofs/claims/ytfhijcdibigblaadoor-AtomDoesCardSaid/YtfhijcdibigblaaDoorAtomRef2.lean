/- The document's answer for a table: Intern, Sweep, New. -/
import Derived.Test.YtfhijcdibigblaaDoorAtomRef
import Derived.Deep.RegionLaw
import Derived.Deep.AppendLies
namespace Go.Proofs.YtfhijcdibigblaaDoor.atoms
open Go.RowKit Go.Proofs.YtfhijcdibigblaaDoor.own Go.Maps
section
variable {R : Nat → Prop} {B b : Nat} {lim made : Int} {sl : List ASlot} {w : World}

theorem rslot_stored {g cap : Nat} (h : RSlotsP B (some ⟨g, 0, none⟩) cap sl w) {j : Nat} (hj : j < sl.length) (y : ASlot) : RSlotsP B (some ⟨g, 0, none⟩) cap (sl.set j y) (storedS w g j y) ∧ Only (· = g) w (storedS w g j y) := by
  obtain ⟨x, hx⟩ : ∃ x, sl[j]? = some x := ⟨_, List.getElem?_eq_getElem hj⟩
  obtain ⟨r1, o1⟩ := h.stored liesS j 0 x ⟨y.name, x.used, x.mark⟩ (.string y.name) hx (by omega) rfl
  have h1 : (sl.set j ⟨y.name, x.used, x.mark⟩)[j]? = some ⟨y.name, x.used, x.mark⟩ := by rw [get_set _ hj, if_pos rfl]
  obtain ⟨r2, o2⟩ := r1.stored liesS j 1 _ ⟨y.name, y.used, x.mark⟩ (.bool y.used) h1 (by omega) rfl
  have h2 : ((sl.set j ⟨y.name, x.used, x.mark⟩).set j ⟨y.name, y.used, x.mark⟩)[j]? = some ⟨y.name, y.used, x.mark⟩ := by rw [get_set _ (by rw [List.length_set]; exact hj), if_pos rfl]
  obtain ⟨r3, o3⟩ := r2.stored liesS j 2 _ y (.bool y.mark) h2 (by omega) rfl
  simp only [List.set_set] at r3
  exact ⟨r3, (o1.same o2).same o3⟩
theorem RCore.turned {ao : Option Addr} {cap : Nat} {w' : World} {made' : Int} (h : RCore R B b lim made ao cap sl w) (ho : Only (· = b) w w') (hb' : w'.heap[b]? = some (.cells #[.slice ao sl.length cap, .int .i64 lim, .int .i64 made'] 36 (0, 0))) : RCore R B b lim made' ao cap sl w' :=
  ⟨hb', h.row.only ho (fun g hg => h.other g hg), h.own, fun k hk => ⟨(h.lt k hk).1, Nat.lt_of_lt_of_le (h.lt k hk).2 ho.size⟩, h.other, h.few⟩
theorem RCore.setMade {ao : Option Addr} {cap : Nat} (h : RCore R B b lim made ao cap sl w) (x : Int) : RCore R B b lim x ao cap sl (w.setCell ⟨b, 2, none⟩ (.int .i64 x)) ∧ Only (· = b) w (w.setCell ⟨b, 2, none⟩ (.int .i64 x)) := by
  have ho : Only (· = b) w (w.setCell ⟨b, 2, none⟩ (.int .i64 x)) := Only.setCell (S := (· = b)) _ (p := ⟨b, 2, none⟩) rfl _
  exact ⟨h.turned ho (by simpa using blk_set h.blk 2 (.int .i64 x)), ho⟩
theorem RCore.stored {g cap : Nat} (h : RCore R B b lim made (some ⟨g, 0, none⟩) cap sl w) {j : Nat} (hj : j < sl.length) (y : ASlot) : RCore R B b lim made (some ⟨g, 0, none⟩) cap (sl.set j y) (storedS w g j y) ∧ Only R w (storedS w g j y) := by
  obtain ⟨r, o⟩ := rslot_stored h.row hj y
  have hb := blk_field h.blk o (fun e => h.other _ rfl e.symm)
  refine ⟨⟨by rw [List.length_set]; exact hb, r, h.own, fun k hk => ⟨(h.lt k hk).1, Nat.lt_of_lt_of_le (h.lt k hk).2 o.size⟩, h.other, by rw [List.length_set]; exact h.few⟩, o.mono (fun k _ e => by subst e; exact h.own _ (.inr ⟨_, rfl, rfl⟩))⟩
/-- Behind the append of a slot. -/
theorem RCore.appended {ao ao' : Option Addr} {cap cap' : Nat} {w2 : World} {y : ASlot} (h : RCore R B b lim made ao cap sl w) (hrow : RSlotsP B ao' cap' (sl ++ [y]) w2) (ho : Only (RowAt ao) w w2) (hn : NewRow w.heap.size ao ao') (hl : sl.length < 16384) :
    RTbl (Grew R w (w2.setCell ⟨b, 0, none⟩ (.slice ao' (sl ++ [y]).length cap'))) B b lim made (sl ++ [y]) (w2.setCell ⟨b, 0, none⟩ (.slice ao' (sl ++ [y]).length cap')) ∧ Only R w (w2.setCell ⟨b, 0, none⟩ (.slice ao' (sl ++ [y]).length cap')) := by
  have hb2 : w2.heap[b]? = _ := blk_field h.blk ho (by rintro ⟨g, hg, e⟩; exact h.other g hg e.symm)
  have hbb := h.lt b (h.own b (.inl rfl))
  have of : Only (· = b) w2 (w2.setCell ⟨b, 0, none⟩ (.slice ao' (sl ++ [y]).length cap')) := Only.setCell (S := (· = b)) _ (p := ⟨b, 0, none⟩) rfl _
  have hoth : ∀ g, ao' = some g → g.block ≠ b := by
    intro g hg
    rcases hn g hg with h1 | h1
    · exact h.other g h1
    · omega
  have oR : Only R w (w2.setCell ⟨b, 0, none⟩ (.slice ao' (sl ++ [y]).length cap')) := (ho.mono (fun k _ e => h.own k (.inr e))).trans of (fun k _ e => by subst e; exact h.own _ (.inl rfl))
  have s1 := ho.size
  have s2 := of.size
  refine ⟨⟨ao', cap', ⟨?_, hrow.only of (fun g hg e => hoth g hg e), ?_, ?_, hoth, by simp; omega⟩⟩, oR⟩
  · simpa using blk_set hb2 0 (.slice ao' (sl ++ [y]).length cap')
  · rintro k (rfl | ⟨g, hg, rfl⟩)
    · exact .inl (h.own _ (.inl rfl))
    · rcases hn g hg with h1 | h1
      · exact .inl (h.own _ (.inr ⟨g, h1, rfl⟩))
      · exact .inr ⟨h1, by have := (hrow.head g hg).2.2; omega⟩
  · rintro k (hk | hk)
    · have := h.lt k hk; omega
    · omega

theorem putS_at {k : Nat} {n : ByteArray} (h : k < sl.length) : putS sl k n = sl.set k ⟨n, true, false⟩ := by simp [putS, h]
theorem putS_end {n : ByteArray} : putS sl sl.length n = sl ++ [⟨n, true, false⟩] := by simp [putS]

set_option maxRecDepth 100000 in
set_option maxHeartbeats 4000000 in
theorem rintern_any (n : ByteArray) (h : RTbl R B b lim made sl w) (hn : n.size ≤ maxLen) (hl0 : 15 ≤ lim) (hl : lim ≤ 16384) (hm0 : 0 ≤ made) (hm1 : made ≤ 4294967296) (hcap : (sl.length : Int) ≤ lim) :
    Calls Tryd.prog 25 #[.pointer (some ⟨b, 0, none⟩), .string n] w fun e w' => e = .returned (.tuple #[.int .i64 (internF lim made sl n).id, .int .i64 (internF lim made sl n).err]) ∧
      (RTbl (Grew R w w') B b lim (internF lim made sl n).made (internF lim made sl n).sl w' ∧ Only R w w') := by
  have hbd := h.bound
  obtain ⟨ao, cap, hc⟩ := h
  unfold maxLen at hn
  by_cases hn64 : n.size ≤ 64
  · cases hf : findF sl n with
    | some j =>
      have HE : Hid (internF lim made sl n = ⟨j, 0, sl, made⟩) := by
        refine Lib.hid ?_
        unfold internF
        rw [if_neg (by omega), hf]
      have HR : Hid (findR sl n = (j : Int)) := by
        refine Lib.hid ?_
        unfold findR
        rw [hf]
      have HC := Lib.hid hc
      have HK : Hid (RTbl (Grew R w w) B b lim made sl w ∧ Only R w w) := Lib.hid ⟨RTbl.grew ⟨ao, cap, hc⟩ (Only.refl _ _) (by omega), Only.refl _ _⟩
      clear hc hbd hf
      rw [HE.out]
      go_enter Tryd.func25, Tryd.ntmps25
      go_wp2_with fail
      refine (rfind_any n HC.out).mono ?_
      rintro e w1 ⟨rfl, rfl⟩
      rw [HR.out]
      go_wp2_with fail
      go_ret2
      exact ⟨rfl, HK.out⟩
    | none =>
      have HR : Hid (findR sl n = -1) := by
        refine Lib.hid ?_
        unfold findR
        rw [hf]
      have HLO := Lib.hid (lowestF_is sl)
      have HE : Hid (internF lim made sl n = if (lowestF sl : Int) < lim then ⟨lowestF sl, 0, putS sl (lowestF sl) n, made + 1⟩ else ⟨0, 2, sl, made⟩) := by
        refine Lib.hid ?_
        unfold internF
        rw [if_neg (by omega), hf]
      have HC := Lib.hid hc
      have c0 := cell_of_blk hc.blk 0
      simp at c0
      have hfew := hc.few
      have hcp := hc.row.cap_ge
      clear hc hf
      generalize lowestF sl = lo at *
      generalize internF lim made sl n = r at *
      go_enter Tryd.func25, Tryd.ntmps25
      go_wp2_with fail
      refine (rfind_any n HC.out).mono ?_
      rintro e w1 ⟨rfl, rfl⟩
      rw [HR.out]
      go_wp2_with fail
      go_loop [7] (fun i => ∃ k : Nat, i = .int .i64 k ∧ k ≤ sl.length ∧ Hid (k ≤ lo ∧ AllUsed sl k)) (fun i => sl.length - (intOf i).toNat)
      case atStart => exact ⟨0, rfl, by omega, Lib.hid ⟨by omega, fun j x hj => by omega⟩⟩
      case round =>
        obtain ⟨k, rfl, hk, HN⟩ := hrel
        by_cases hlt : k < sl.length
        · obtain ⟨x, hx⟩ : ∃ x, sl[k]? = some x := ⟨_, List.getElem?_eq_getElem hlt⟩
          obtain ⟨g, rfl, hg, hcell⟩ := HC.out.row.at liesS k x hx
          have HX := Lib.hid hx
          have k0 := (hcell 0 (by omega)).1; have k1 := (hcell 1 (by omega)).1; have k2 := (hcell 2 (by omega)).1
          have f0 := (hcell 0 (by omega)).2; have f1 := (hcell 1 (by omega)).2; have f2 := (hcell 2 (by omega)).2
          simp only [encS, List.getElem?_cons_zero, List.getElem?_cons_succ, Nat.add_zero] at k0 k1 k2 f0
          clear hcell hx
          cases hu : x.used with
          | true =>
            rw [hu] at k1
            have HF : Hid (k + 1 ≤ lo ∧ AllUsed sl (k + 1)) := by
              refine Lib.hid ⟨?_, ?_⟩
              · rcases Nat.lt_or_ge k lo with h1 | h1
                · exact h1
                · have : k = lo := by have := HN.out.1; omega
                  subst this
                  obtain ⟨y, hy, hyu⟩ := HLO.out.2.2 hlt
                  have := HX.out.symm.trans hy
                  cases this
                  rw [hu] at hyu
                  cases hyu
              · intro j y hj hy
                by_cases e : j = k
                · subst e; have := HX.out.symm.trans hy; cases this; exact hu
                · exact HN.out.2 j y (by omega) hy
            have HU := Lib.hid hu
            clear hu
            go_wp2_with fail
            go_round
            case rel => exact ⟨k + 1, by go_num, by omega, HF⟩
            case measure => simp [intOf]; omega
          | false =>
            rw [hu] at k1
            obtain rfl : k = lo := by
              rcases Nat.lt_or_ge k lo with h1 | h1
              · have := HLO.out.2.1 k x h1 HX.out
                rw [hu] at this
                cases this
              · have := HN.out.1; omega
            have HU := Lib.hid hu
            have hgb : ¬ g = b := HC.out.other _ rfl
            have HS := Lib.hid (HC.out.stored hlt ⟨n, true, false⟩)
            have c2 := cell_of_blk HC.out.blk 2
            have f2b := free_of_blk HC.out.blk 2
            simp at c2
            have HF := Lib.hid (HS.out.1.setMade (made + 1))
            clear hu
            go_wp2_with fail
            go_ret2
            have hE := HE.out
            rw [if_pos (by omega), putS_at hlt] at hE
            subst hE
            refine ⟨rfl, ?_⟩
            have oo : Only R w _ := HS.out.2.same (HF.out.2.mono (fun j _ e => by subst e; exact hbd.2.2.1))
            exact ⟨RTbl.grew ⟨_, _, HF.out.1⟩ oo (by omega), oo⟩
        · obtain rfl : k = sl.length := by omega
          obtain rfl : lo = sl.length := by have := HN.out.1; have := HLO.out.1; omega
          have c1 := cell_of_blk HC.out.blk 1
          simp at c1
          obtain ⟨i0, hi, hz0, hz1, hz2⟩ := info_parts infoR
          by_cases hlim : (sl.length : Int) < lim
          · have hd : decide (lim ≤ (sl.length : Int)) = false := by simp; omega
            go_wp2_with fail
            go_quiet (fail)
            have O1 := Lib.hid (Only.drewN (fun _ => False) w nq)
            have HC1 := Lib.hid (HC.out.only O1.out (fun _ _ e => e))
            clear c0 c1
            generalize w.drewN nq = w1 at *
            have c0 := cell_of_blk HC1.out.blk 0
            simp at c0
            have hbw : B ≤ w1.heap.size := by have := O1.out.size; omega
            go_wp2_with (first
              | (at_builtin; refine wp_append_one liesS rfl (.tmp 65) (.tmp 68) 34 rfl B 39 i0 _ 24 Tryd.underlying34 hi hz0 hz1 hz2 rfl (by omega) w1 ao cap sl ⟨n, true, false⟩ [.string n, .bool true, .bool false] rfl rfl HC1.out.row rfl (by omega) hbw ?_; intro ao' cap' w2 hrow2 ho2 hnew2
                 have HA := Lib.hid (HC1.out.appended hrow2 ho2 hnew2 (by omega))
                 have hb2 : w2.heap[b]? = _ := blk_field HC1.out.blk ho2 (by rintro ⟨g, hg, e⟩; exact HC1.out.other g hg e.symm)
                 have HB2 := Lib.hid hb2
                 have c0 := cell_of_blk hb2 0; have f0 := free_of_blk hb2 0; have c2 := cell_of_blk hb2 2; have f2 := free_of_blk hb2 2
                 simp at c0 c2
                 clear hrow2 ho2 hnew2 hb2)
              | fail)
            go_ret2
            have hE := HE.out
            rw [if_pos (by omega), putS_end] at hE
            subst hE
            have hl1 : (sl ++ [(⟨n, true, false⟩ : ASlot)]).length = sl.length + 1 := by simp
            have hT := HA.out
            rw [hl1] at hT
            obtain ⟨⟨ao3, cap3, hc3⟩, o3⟩ := hT
            obtain ⟨hc4, o4⟩ := hc3.setMade (made + 1)
            have oo : Only R w _ := (O1.out.no R).same (o3.same (o4.mono (fun j _ e => by subst e; exact hbd.2.2.1)))
            refine ⟨rfl, RTbl.wider ⟨_, _, hc4⟩ ?_ ?_, oo⟩
            · rintro j (hj | hj)
              · exact .inl hj
              · exact .inr ⟨Nat.le_trans O1.out.size hj.1, Nat.lt_of_lt_of_le hj.2 o4.size⟩
            · rintro j (hj | hj)
              · exact ⟨(hbd.2.2.2 j hj).1, Nat.lt_of_lt_of_le (hbd.2.2.2 j hj).2 oo.size⟩
              · exact ⟨by omega, hj.2⟩
          · have hd : decide (lim ≤ (sl.length : Int)) = true := by simp; omega
            go_wp2_with fail
            go_quiet (fail)
            have O1 := Lib.hid (Only.drewN (fun _ => False) w nq)
            have HC1 := Lib.hid (HC.out.only O1.out (fun _ _ e => e))
            clear c0 c1
            generalize w.drewN nq = w1 at *
            go_wp2_with fail
            go_ret2
            have hE := HE.out
            rw [if_neg (by omega)] at hE
            subst hE
            exact ⟨rfl, RTbl.grew ⟨_, _, HC1.out⟩ (O1.out.no R) (by omega), O1.out.no R⟩
  · have HE : Hid (internF lim made sl n = ⟨0, 3, sl, made⟩) := by
      refine Lib.hid ?_
      unfold internF
      rw [if_pos (by omega)]
    have HK : Hid (RTbl (Grew R w w) B b lim made sl w ∧ Only R w w) := Lib.hid ⟨RTbl.grew ⟨ao, cap, hc⟩ (Only.refl _ _) (by omega), Only.refl _ _⟩
    have hgt : 64 < (n.size : Int) := by omega
    clear hc hbd hn64
    rw [HE.out]
    go_enter Tryd.func25, Tryd.ntmps25
    go_wp2_with fail
    go_ret2
    exact ⟨rfl, HK.out⟩

/-- A slot that is freed has one name less. -/
theorem used_free {j : Nat} {x : ASlot} (h : sl[j]? = some x) (hu : x.used = true) : used sl = used (sl.set j freeSlot) + 1 := by
  have hj := (List.getElem?_eq_some_iff.1 h).1
  have h1 : (sl.set j freeSlot)[j]? = some freeSlot := by rw [get_set _ hj, if_pos rfl]
  have h2 := (prs_put (y := x) h1 rfl hu).length_eq
  rw [List.set_set] at h2
  have h3 : sl.set j x = sl := by
    apply List.ext_getElem?
    intro i
    rw [get_set _ hj]
    split
    · rename_i e; subst e; exact h.symm
    · rfl
  rw [h3] at h2
  unfold used
  rw [h2]
  rfl
theorem used_keep {j : Nat} {x : ASlot} (h : sl[j]? = some x) (m : Bool) : used (sl.set j ⟨x.name, x.used, m⟩) = used sl := by
  unfold used
  rw [prs_mark (y := ⟨x.name, x.used, m⟩) h rfl rfl]
theorem used_sweep {k : Nat} {x : ASlot} (h : sl[k]? = some x) : (used (sweepTo sl k) : Int) = used (sweepTo sl (k + 1)) + if x.used = true ∧ x.mark = false ∧ 15 ≤ k then 1 else 0 := by
  have hx2 : (sweepTo sl k)[k]? = some x := by rw [sweepTo_get h, if_neg (by omega)]
  rw [← sweepTo_step h]
  unfold swp
  split
  · rename_i hs
    rw [used_free hx2 hs.1]
    push_cast
    rfl
  · rw [used_keep hx2]
    omega

def RSweepR (R : Nat → Prop) (B b : Nat) (lim made : Int) (ao : Option Addr) (cap : Nat) (sl : List ASlot) (k : Nat) (w1 wr : World) : Prop := RCore R B b lim made ao cap (sweepTo sl k) wr ∧ Only R w1 wr

theorem RCore.marked {g cap : Nat} (h : RCore R B b lim made (some ⟨g, 0, none⟩) cap sl w) {j : Nat} {x : ASlot} (hx : sl[j]? = some x) (v : Bool) :
    RCore R B b lim made (some ⟨g, 0, none⟩) cap (sl.set j ⟨x.name, x.used, v⟩) (w.setCell ⟨g, j * 3 + 2, none⟩ (.bool v)) ∧ Only R w (w.setCell ⟨g, j * 3 + 2, none⟩ (.bool v)) := by
  obtain ⟨r1, o1⟩ := h.row.stored liesS j 2 x ⟨x.name, x.used, v⟩ (.bool v) hx (by omega) rfl
  have hb := blk_field h.blk o1 (fun e => h.other _ rfl e.symm)
  exact ⟨⟨by rw [List.length_set]; exact hb, r1, h.own, fun k hk => ⟨(h.lt k hk).1, Nat.lt_of_lt_of_le (h.lt k hk).2 o1.size⟩, h.other, by rw [List.length_set]; exact h.few⟩, o1.mono (fun k _ e => by subst e; exact h.own _ (.inr ⟨_, rfl, rfl⟩))⟩
theorem RSweepR.keep {g cap k : Nat} {x : ASlot} {w1 wr w2 : World} {n : Int} {us : Int} (hn : n = us - (used (sweepTo sl k) : Int)) (h : RSweepR R B b lim made (some ⟨g, 0, none⟩) cap sl k w1 wr) (hx : sl[k]? = some x) (hk : ¬ (x.used = true ∧ x.mark = false ∧ 15 ≤ k))
    (o2 : Only (fun _ => False) wr w2) : n = us - (used (sweepTo sl (k + 1)) : Int) ∧ RSweepR R B b lim made (some ⟨g, 0, none⟩) cap sl (k + 1) w1 (w2.setCell ⟨g, k * 3 + 2, none⟩ (.bool false)) := by
  have hx2 : (sweepTo sl k)[k]? = some x := by rw [sweepTo_get hx, if_neg (by omega)]
  have hu := used_sweep hx
  rw [if_neg hk] at hu
  have h1 := (h.1.only o2 (fun _ _ e => e)).marked hx2 false
  have e : swp k x = ⟨x.name, x.used, false⟩ := by unfold swp; rw [if_neg hk]
  rw [← e, sweepTo_step hx] at h1
  exact ⟨by omega, h1.1, (h.2.same (o2.no R)).same h1.2⟩
theorem RSweepR.free {g cap k : Nat} {x : ASlot} {w1 wr w2 : World} {n : Int} {us : Int} (hn : n = us - (used (sweepTo sl k) : Int)) (h : RSweepR R B b lim made (some ⟨g, 0, none⟩) cap sl k w1 wr) (hx : sl[k]? = some x) (hk : x.used = true ∧ x.mark = false ∧ 15 ≤ k)
    (o2 : Only (fun _ => False) wr w2) : n + 1 = us - (used (sweepTo sl (k + 1)) : Int) ∧ RSweepR R B b lim made (some ⟨g, 0, none⟩) cap sl (k + 1) w1 (freedW w2 g k) := by
  have hk2 := (List.getElem?_eq_some_iff.1 hx).1
  have hu := used_sweep hx
  rw [if_pos hk] at hu
  have h1 := (h.1.only o2 (fun _ _ e => e)).stored (j := k) (by rw [sweepTo_len]; exact hk2) freeSlot
  have e : swp k x = freeSlot := by unfold swp; rw [if_pos hk]
  have h2 := h1.1.marked (j := k) (x := freeSlot) (by rw [get_set _ (by rw [sweepTo_len]; exact hk2), if_pos rfl]) false
  have e2 : (⟨freeSlot.name, freeSlot.used, false⟩ : ASlot) = freeSlot := rfl
  have hset : (sweepTo sl k).set k freeSlot = sweepTo sl (k + 1) := by rw [← e]; exact sweepTo_step hx
  rw [e2, List.set_set, hset] at h2
  exact ⟨by omega, h2.1, ((h.2.same (o2.no R)).same h1.2).same h2.2⟩

set_option maxRecDepth 100000 in
set_option maxHeartbeats 4000000 in
theorem rsweep_any (h : RTbl R B b lim made sl w) :
    Calls Tryd.prog 27 #[.pointer (some ⟨b, 0, none⟩)] w fun e w' => e = .returned (.int .i64 ((used sl : Int) - (used (sweepTo sl sl.length) : Int))) ∧
      (RTbl (Grew R w w') B b lim made (sweepTo sl sl.length) w' ∧ Only R w w') := by
  have hbd := h.bound
  obtain ⟨ao, cap, hc⟩ := h
  have hnot := run_not
  have hfew := hc.few
  have hul := used_le sl
  have HS : Hid (RSweepR R B b lim made ao cap sl 0 w w) := Lib.hid ⟨by rw [sweepTo_zero]; exact hc, Only.refl _ _⟩
  have HB := Lib.hid hbd
  clear hc hbd
  go_enter Tryd.func27, Tryd.ntmps27
  go_wp2_with fail
  go_loopw [3, 4] (fun c i wr => ∃ (k : Nat) (n : Int), i = .int .i64 k ∧ k ≤ sl.length ∧ c = .int .i64 n ∧ 0 ≤ n ∧ n ≤ k ∧ Hid (n = (used sl : Int) - (used (sweepTo sl k) : Int) ∧ RSweepR R B b lim made ao cap sl k w wr)) (fun _ i _ => sl.length - (intOf i).toNat)
  case atStart => exact ⟨0, 0, rfl, by omega, rfl, by omega, by omega, Lib.hid ⟨by rw [sweepTo_zero]; omega, HS.out⟩⟩
  case round =>
    obtain ⟨k, n, rfl, hk, rfl, hn0, hn1, hR⟩ := hrel
    obtain ⟨hn, hc, ho⟩ := hR.out
    have c0 := cell_of_blk hc.blk 0
    simp [sweepTo_len] at c0
    have hcap := hc.row.cap_ge
    rw [sweepTo_len] at hcap
    by_cases hlt : k < sl.length
    · obtain ⟨x, hx⟩ : ∃ x, sl[k]? = some x := ⟨_, List.getElem?_eq_getElem hlt⟩
      have hx2 : (sweepTo sl k)[k]? = some x := by rw [sweepTo_get hx, if_neg (by omega)]
      obtain ⟨g, rfl, hg, hcell⟩ := hc.row.at liesS k x hx2
      have k0 := (hcell 0 (by omega)).1; have k1 := (hcell 1 (by omega)).1; have k2 := (hcell 2 (by omega)).1
      have f0 := (hcell 0 (by omega)).2; have f1 := (hcell 1 (by omega)).2; have f2 := (hcell 2 (by omega)).2
      simp only [encS, List.getElem?_cons_zero, List.getElem?_cons_succ, Nat.add_zero] at k0 k1 k2 f0
      have HN := Lib.hid hn
      have HC := Lib.hid hc
      have HO := Lib.hid ho
      have HX := Lib.hid hx
      have HX2 := Lib.hid hx2
      have HU := Lib.hid (used_sweep hx)
      have hgb : ¬ g = b := hc.other _ rfl
      have hgl := (hc.row.head _ rfl).2.2
      have hbl := (hc.lt b (hc.own b (.inl rfl))).2
      clear hn hc ho hcell hx hx2 hR HS
      have HR := Lib.hid (show RSweepR R B b lim made (some ⟨g, 0, none⟩) cap sl k w wr from ⟨HC.out, HO.out⟩)
      cases hus : x.used with
      | false =>
        have HF := Lib.hid (HR.out.keep HN.out HX.out (by rw [hus]; simp) (Only.refl _ wr))
        rw [hus] at k1
        clear hus
        go_wp2_with fail
        go_roundw
        case rel => exact ⟨k + 1, n, by go_num, by omega, rfl, hn0, by omega, HF⟩
        case measure => simp [intOf]; omega
      | true =>
        cases hmk : x.mark with
        | true =>
          have HF := Lib.hid (HR.out.keep HN.out HX.out (by rw [hmk]; simp) (Only.refl _ wr))
          rw [hus] at k1
          rw [hmk] at k2
          clear hus hmk
          go_wp2_with fail
          go_roundw
          case rel => exact ⟨k + 1, n, by go_num, by omega, rfl, hn0, by omega, HF⟩
          case measure => simp [intOf]; omega
        | false =>
          rw [hus] at k1
          rw [hmk] at k2
          have HUS := Lib.hid hus
          have HMK := Lib.hid hmk
          clear hus hmk
          go_wp2_with fail
          refine (rreserved_any _).mono ?_
          rintro e w4 ⟨rfl, _, b4⟩
          have o4 := Only.of_below b4 (fun _ => False)
          have r4 := HC.out.row.only o4 (fun _ _ e => e)
          obtain ⟨g', hg', _, hcell⟩ := r4.at liesS k x HX2.out
          cases hg'
          have k0 := (hcell 0 (by omega)).1; have k1 := (hcell 1 (by omega)).1; have k2 := (hcell 2 (by omega)).1
          have f0 := (hcell 0 (by omega)).2; have f1 := (hcell 1 (by omega)).2; have f2 := (hcell 2 (by omega)).2
          simp only [encS, List.getElem?_cons_zero, List.getElem?_cons_succ, Nat.add_zero] at k0 k1 k2 f0
          have c0 := cell_of_blk (blk_field HC.out.blk o4 (fun e => e)) 0
          simp [sweepTo_len] at c0
          by_cases h15 : 15 ≤ k
          · have HF := Lib.hid (HR.out.free HN.out HX.out ⟨HUS.out, HMK.out, h15⟩ o4)
            have hki : (15 : Int) ≤ (k : Int) := by omega
            clear o4 r4 hcell b4
            go_wp2_with fail
            go_roundw
            case rel => exact ⟨k + 1, n + 1, by go_num, by omega, rfl, by omega, by omega, HF⟩
            case measure => simp [intOf]; omega
          · have HF := Lib.hid (HR.out.keep HN.out HX.out (fun e => h15 e.2.2) o4)
            have hki : (k : Int) < 15 := by omega
            clear o4 r4 hcell b4
            go_wp2_with fail
            go_roundw
            case rel => exact ⟨k + 1, n, by go_num, by omega, rfl, hn0, by omega, HF⟩
            case measure => simp [intOf]; omega
    · obtain rfl : k = sl.length := by omega
      have HN := Lib.hid hn
      have HT : Hid (RTbl (Grew R w wr) B b lim made (sweepTo sl sl.length) wr ∧ Only R w wr) := Lib.hid ⟨RTbl.grew ⟨_, _, hc⟩ ho (by have := HB.out.1; have := HB.out.2.1; omega), ho⟩
      clear hn hc ho hR HS
      go_wp2_with fail
      go_ret
      exact ⟨by rw [← HN.out]; rfl, HT.out⟩
end

def NewR (B b : Nat) (lim : Int) (k : Nat) (w1 wr : World) : Prop := RTbl (Grew (fun _ => False) w1 wr) B b lim 0 (firstS k) wr ∧ Only (fun _ => False) w1 wr
theorem rnew_no (lim : Int) (w : World) (h : lim < 15 ∨ 16384 < lim) : Calls Tryd.prog 9 #[.int .i64 lim] w fun e w' => e = .returned (.pointer none) ∧ Below w.heap.size w w' := by
  by_cases h0 : lim < 15
  · clear h
    go_enter Tryd.func9, Tryd.ntmps9
    go_wp2_with fail
    refine (rreserved_any _).mono ?_
    rintro e w1 ⟨rfl, _, b1⟩
    go_wp2_with fail
    go_ret
    exact ⟨rfl, b1⟩
  · have h1 : 16384 < lim := by omega
    clear h
    go_enter Tryd.func9, Tryd.ntmps9
    go_wp2_with fail
    refine (rreserved_any _).mono ?_
    rintro e w1 ⟨rfl, _, b1⟩
    go_wp2_with fail
    go_ret
    exact ⟨rfl, b1⟩
theorem NewR.step {B b k : Nat} {lim : Int} {ao : Option Addr} {cap gg cap' : Nat} {w1 wr w5 : World} {o : Obj} (hk : k < 15) (hc : RCore (Grew (fun _ => False) w1 wr) B b lim 0 ao cap (firstS k) wr) (ho : Only (fun _ => False) w1 wr) (hB : B ≤ w1.heap.size)
    (hown5 : w5.ownsRow B 39 3 (.slice (some ⟨gg, 0, none⟩) (k + 1) cap') (k + 1) ((firstS k).flatMap encS ++ [.string (resB k), .bool true, .bool false])) (hgrow : ((wr.alloc o).drew).grownBy w5 (Value.slice ao k cap).ownBlock)
    (hat : (Value.slice ao k cap).ownBlock = some gg ∨ gg = wr.heap.size + 1) : NewR B b lim (k + 1) w1 (w5.setCell ⟨b, 0, none⟩ (.slice (some ⟨gg, 0, none⟩) (k + 1) cap')) := by
  have hfs : firstS k ++ [(⟨resB k, true, false⟩ : ASlot)] = firstS (k + 1) := by simp [firstS, List.range_succ]
  have hrow : RSlotsP B (some ⟨gg, 0, none⟩) cap' (firstS k ++ [(⟨resB k, true, false⟩ : ASlot)]) w5 := by
    show w5.ownsRow B 39 3 (.slice (some ⟨gg, 0, none⟩) (firstS k ++ [(⟨resB k, true, false⟩ : ASlot)]).length cap') (firstS k ++ [(⟨resB k, true, false⟩ : ASlot)]).length ((firstS k ++ [(⟨resB k, true, false⟩ : ASlot)]).flatMap encS)
    rw [List.flatMap_append, hfs, firstS_len]
    exact hown5
  have o1 : Only (RowAt ao) wr w5 := by
    refine ((Only.alloc (RowAt ao) wr o).same (Only.drew (RowAt ao) _)).same ((Only.grown hgrow).mono ?_)
    intro j _ hj
    cases ao with
    | none => simp [Value.ownBlock] at hj
    | some g => exact ⟨g, rfl, by simpa [Value.ownBlock] using hj⟩
  have hn : NewRow wr.heap.size ao (some ⟨gg, 0, none⟩) := by
    intro g hg
    cases hg
    rcases hat with hat | hat
    · cases ao with
      | none => simp [Value.ownBlock] at hat
      | some g' =>
        have hh := hc.row.head g' rfl
        simp only [Value.ownBlock, Option.some.injEq] at hat
        left
        rw [hh.1, hat]
    · right
      show wr.heap.size ≤ gg
      omega
  have hA := hc.appended hrow o1 hn (by rw [firstS_len]; omega)
  rw [hfs, firstS_len] at hA
  have s1 := ho.size
  have s2 := hA.2.size
  refine ⟨hA.1.wider ?_ ?_, ?_⟩
  · rintro j ((hj | hj) | hj)
    · exact hj.elim
    · exact .inr ⟨hj.1, by omega⟩
    · exact .inr ⟨by omega, hj.2⟩
  · rintro j (hj | hj)
    · exact hj.elim
    · exact ⟨by omega, hj.2⟩
  · exact ho.next hA.2
set_option maxRecDepth 100000 in
set_option maxHeartbeats 4000000 in
theorem rnew_yes (lim : Int) (w : World) (h0 : 15 ≤ lim) (h1 : lim ≤ 16384) : Calls Tryd.prog 9 #[.int .i64 lim] w fun e w' => ∃ b, e = .returned (.pointer (some ⟨b, 0, none⟩)) ∧ (RTbl (Grew (fun _ => False) w w') w.heap.size b lim 0 (firstS 15) w' ∧ Below w.heap.size w w') := by
  obtain ⟨i0, hi, hz0, hz1, hz2⟩ := info_parts infoR
  go_enter Tryd.func9, Tryd.ntmps9
  go_wp2_with fail
  refine (rreserved_any _).mono ?_
  rintro e w1 ⟨rfl, n1, b1⟩
  have B1 := Lib.hid b1
  have N1 := Lib.hid n1
  clear b1 n1
  go_wp2_with fail
  have HS : Hid (NewR w.heap.size w1.heap.size lim 0 w1 (w1.alloc (.cells #[.slice none 0 0, .int .i64 lim, .int .i64 0] 36))) := by
    have := B1.out.size
    refine Lib.hid ⟨⟨none, 0, ⟨heap_alloc_new w1 _, RowOf.nil _ _ _ _ _, ?_, ?_, (fun g hg => by cases hg), by simp [firstS]⟩⟩, Only.alloc _ _ _⟩
    · rintro k (rfl | ⟨g, hg, _⟩)
      · exact .inr ⟨Nat.le_refl _, by simp⟩
      · cases hg
    · rintro k (hk | hk)
      · exact hk.elim
      · exact ⟨by omega, hk.2⟩
  generalize w1.alloc (.cells #[.slice none 0 0, .int .i64 lim, .int .i64 0] 36) = w2 at *
  go_loopw [5] (fun i wr => ∃ k : Nat, i = .int .i64 k ∧ k ≤ 15 ∧ Hid (NewR w.heap.size w1.heap.size lim k w1 wr)) (fun i _ => 15 - (intOf i).toNat)
  case atStart => exact ⟨0, rfl, by omega, HS⟩
  case round =>
    obtain ⟨k, rfl, hk, hR⟩ := hrel
    obtain ⟨⟨ao, cap, hc⟩, ho⟩ := hR.out
    have HC := Lib.hid hc
    have HO := Lib.hid ho
    by_cases hlt : k < 15
    · have d0 := (ho.cell (p := ⟨w.heap.size, k, none⟩) N1.out.lt (fun e => e)).trans (N1.out k hlt)
      have c0 := cell_of_blk hc.blk 0
      have f0 := free_of_blk hc.blk 0
      simp [firstS_len] at c0
      have hb1 := B1.out.size
      have hbw : w.heap.size ≤ wr.heap.size := by have := HO.out.size; omega
      have hown : wr.ownsRow w.heap.size 39 3 (.slice ao k cap) k ((firstS k).flatMap encS) := by
        have h9 : wr.ownsRow w.heap.size 39 3 (.slice ao (firstS k).length cap) (firstS k).length ((firstS k).flatMap encS) := hc.row
        rw [firstS_len] at h9
        exact h9
      have HOWN := Lib.hid hown
      have hga : ∀ g, ao = some g → g.block ≠ w.heap.size := fun g hg e => by
        have h1 := hc.own _ (.inr ⟨g, hg, rfl⟩)
        have hw := N1.out.lt
        rcases h1 with h1 | h1
        · exact h1
        · omega
      have hgb : ∀ g, ao = some g → g.block ≠ w1.heap.size := hc.other
      have ag : (Value.slice ao k cap).ownBlock ≠ some w.heap.size := by
        cases ao with
        | none => simp [Value.ownBlock]
        | some g => have := hga g rfl; simp only [Value.ownBlock, ne_eq, Option.some.injEq]; exact this
      have ab : (Value.slice ao k cap).ownBlock ≠ some w1.heap.size := by
        cases ao with
        | none => simp [Value.ownBlock]
        | some g => have := hgb g rfl; simp only [Value.ownBlock, ne_eq, Option.some.injEq]; exact this
      have hk0 : (0 : Int) ≤ (k : Int) := by omega
      have hk15 : (k : Int) < 15 := by omega
      have lw := lt_of_cell? d0
      have lb := lt_of_cell? c0
      simp only at lw lb
      have hf0 : ((wr.alloc (.cells #[.string (resB k), .bool true, .bool false] 39)).drew).frozen? ⟨w1.heap.size, 0, none⟩ = false :=
        (((Only.alloc (fun _ => False) wr _).same (Only.drew (fun _ => False) _)).frozen (p := ⟨w1.heap.size, 0, none⟩) lb (fun e => e)).trans f0
      have hc0 : ((wr.alloc (.cells #[.string (resB k), .bool true, .bool false] 39)).drew).cell? ⟨w1.heap.size, 0, none⟩ = some (.slice ao k cap) :=
        (((Only.alloc (fun _ => False) wr _).same (Only.drew (fun _ => False) _)).cell (p := ⟨w1.heap.size, 0, none⟩) lb (fun e => e)).trans c0
      clear hc ho hR HS hown
      go_wp2_with fail
      go_region_law
        ((refine step_append_lies _ (by rfl) _ _ _ (by rfl) w.heap.size 39 i0 _ 3 24 Tryd.underlying34 hi hz0 hz1 hz2 rfl (by omega) (.slice ao k cap) k ((firstS k).flatMap encS) (by rfl) ((HOWN.out.alloc _).drew)
              ⟨wr.heap.size, 0, none⟩ 1 1 [.string (resB k), .bool true, .bool false] (by rfl) (by rfl) (World.news_of_block (cs := #[.string (resB k), .bool true, .bool false]) (t := 39) (fr := (0, 0)) (heap_alloc_new wr _)) (by simp [Value.oneCell'])
              (by omega) (by unfold maxLen; omega) (by omega) (by simp; omega) (wr.heap.size + 1) (by simp) ?_; intro gg cap' w5 hown5 hgrow hat hlt5; have hfz : w5.frozen? ⟨w1.heap.size, 0, none⟩ = false := (hgrow.frozen_far ⟨w1.heap.size, 0, none⟩ (by simp; omega) (Ne.symm ab)).trans hf0; have hcb : w5.cell? ⟨w1.heap.size, 0, none⟩ = some (.slice ao k cap) := (hgrow.cell_far ⟨w1.heap.size, 0, none⟩ (by simp; omega) (Ne.symm ab)).trans hc0))
      all_goals
        have HF := Lib.hid (NewR.step hlt HC.out HO.out (by omega) hown5 hgrow hat)
        clear hown5 hgrow hat hlt5 hfz hcb
        go_wp2_with fail
        go_roundw
        case rel => exact ⟨k + 1, by go_num, by omega, HF⟩
        case measure => simp [intOf]; omega
    · obtain rfl : k = 15 := by omega
      have hs1 := B1.out.size
      have HF : Hid (RTbl (Grew (fun _ => False) w wr) w.heap.size w1.heap.size lim 0 (firstS 15) wr ∧ Below w.heap.size w wr) := by
        refine Lib.hid ⟨RTbl.wider ⟨ao, cap, hc⟩ ?_ ?_, B1.out.trans (ho.below hs1 (fun _ _ e => e.elim))⟩
        · rintro j (hj | hj)
          · exact hj.elim
          · exact .inr ⟨by omega, hj.2⟩
        · rintro j (hj | hj)
          · exact hj.elim
          · exact hj
      clear hc ho hR HS
      go_wp2_with fail
      go_ret
      exact ⟨_, rfl, HF.out⟩
end Go.Proofs.YtfhijcdibigblaaDoor.atoms
