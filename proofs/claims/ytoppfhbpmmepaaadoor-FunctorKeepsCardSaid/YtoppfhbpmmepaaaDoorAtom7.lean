
/- Sweep. -/
import Derived.Test.YtoppfhbpmmepaaaDoorAtom6
import Derived.StillTailTactics
namespace Go.Proofs.YtoppfhbpmmepaaaDoor.atoms
open Go.RowKit Go.Proofs.YtoppfhbpmmepaaaDoor.own Go.Maps

/-- What a sweep makes of the slot i. -/
def swp (i : Nat) (x : ASlot) : ASlot := if x.used = true ∧ x.mark = false ∧ 15 ≤ i then freeSlot else ⟨x.name, x.used, false⟩
/-- The slots, the first k of them swept. -/
def sweepTo (sl : List ASlot) (k : Nat) : List ASlot := sl.mapIdx fun i x => if i < k then swp i x else x
theorem sweepTo_len (sl : List ASlot) (k : Nat) : (sweepTo sl k).length = sl.length := by simp [sweepTo]
theorem sweepTo_zero (sl : List ASlot) : sweepTo sl 0 = sl := by
  apply List.ext_getElem?
  intro i
  simp [sweepTo, List.getElem?_mapIdx]
theorem sweepTo_get {sl : List ASlot} {k i : Nat} {x : ASlot} (h : sl[i]? = some x) : (sweepTo sl k)[i]? = some (if i < k then swp i x else x) := by simp [sweepTo, List.getElem?_mapIdx, h]
theorem sweepTo_step {sl : List ASlot} {k : Nat} {x : ASlot} (h : sl[k]? = some x) : (sweepTo sl k).set k (swp k x) = sweepTo sl (k + 1) := by
  have hk := (List.getElem?_eq_some_iff.1 h).1
  apply List.ext_getElem?
  intro i
  rw [get_set _ (by rw [sweepTo_len]; exact hk)]
  by_cases e : i = k
  · subst e
    rw [if_pos rfl, sweepTo_get h, if_pos (by omega)]
  · rw [if_neg e]
    cases hi : sl[i]? with
    | none =>
      have h1 : sl.length ≤ i := by rwa [List.getElem?_eq_none_iff] at hi
      rw [List.getElem?_eq_none (by rw [sweepTo_len]; exact h1), List.getElem?_eq_none (by rw [sweepTo_len]; exact h1)]
    | some y =>
      rw [sweepTo_get hi, sweepTo_get hi]
      by_cases h2 : i < k
      · rw [if_pos h2, if_pos (by omega)]
      · rw [if_neg h2, if_neg (by omega)]
section
variable {S : Nat → Prop} {B b : Nat} {lim d st low made : Int} {sl : List ASlot} {w : World}

def SweepR (S : Nat → Prop) (B b : Nat) (lim low made : Int) (g cap m : Nat) (sl : List ASlot) (k : Nat) (w1 wr : World) : Prop := Core S B b lim 1 0 (some ⟨g, 0, none⟩) cap m low made (sweepTo sl k) wr ∧ Only S w1 wr

/-- The world behind a slot that was made free. -/
abbrev freedW (w3 : World) (g k : Nat) : World := (storedS w3 g k freeSlot).setCell ⟨g, k * 3 + 2, none⟩ (.bool false)
theorem Core.freed {d st : Int} {g cap m k : Nat} {x : ASlot} {D : D1} {w2 w3 : World} (h : Core S B b lim d st (some ⟨g, 0, none⟩) cap m low made sl w) (hx : sl[k]? = some x) (hu : x.used = true) (hM : MapOf D sl)
    (o2 : Only (fun _ => False) w w2) (h3 : MapP m (used sl) (D.del (keyN x.name)) w3) (t3 : w2.mapTurned w3 m) :
    Core S B b lim d st (some ⟨g, 0, none⟩) cap m low made (sl.set k freeSlot) (freedW w3 g k) ∧ Only S w (freedW w3 g k) := by
  have hk := (List.getElem?_eq_some_iff.1 hx).1
  have hgb := h.other _ rfl
  have o3 : Only (· = m) w2 w3 := Only.turned t3
  have r3 : SlotsP B (some ⟨g, 0, none⟩) cap sl w3 := (h.row.only o2 (fun _ _ e => e)).only o3 (fun g' hg' => (h.other g' hg').2)
  obtain ⟨r4, o4⟩ := slot_stored r3 hk freeSlot
  have hl : k < (sl.set k freeSlot).length := by rw [List.length_set]; exact hk
  have hx4 : (sl.set k freeSlot)[k]? = some freeSlot := by rw [get_set _ hk, if_pos rfl]
  obtain ⟨r5, o5⟩ := r4.stored liesS k 2 freeSlot freeSlot (.bool false) hx4 (by omega) rfl
  simp only [List.set_set] at r5
  have o45 : Only (· = g) w3 (freedW w3 g k) := o4.same o5
  have hb : w3.heap[b]? = _ := blk_field (blk_field h.blk o2 (fun e => e)) o3 (fun e => h.bm e)
  have hb5 := blk_field hb o45 (fun e => hgb.1 e.symm)
  have oS : Only S w (freedW w3 g k) := ((o2.no S).same (o3.mono (fun j _ e => by subst e; exact h.own _ (.inr (.inl rfl))))).same (o45.mono (fun j _ e => by subst e; exact h.own _ (.inr (.inr ⟨_, rfl, rfl⟩))))
  have hM' : MapOf (D.del (keyN x.name)) (sl.set k freeSlot) := hM.del h.apart hx hu rfl
  refine ⟨⟨?_, r5, ⟨_, ?_, hM'⟩, h.apart.less hx (fun e => by cases e), ?_, by rw [List.length_set]; exact h.few, h.own, fun j hj => ⟨(h.lt j hj).1, Nat.lt_of_lt_of_le (h.lt j hj).2 oS.size⟩, h.bm, h.other⟩, oS⟩
  · rw [List.length_set]; exact hb5
  · rw [← hM'.size]
    exact tight (map_only h3 o45 (fun e => hgb.2 e.symm))
  · intro i y hy
    rw [get_set _ hk] at hy
    split at hy
    · cases hy; simp [freeSlot, ByteArray.size]
    · exact h.names i y hy

theorem SweepR.free {g cap m k : Nat} {nm : ByteArray} {D : D1} {w1 wr w2 w3 : World} (h : SweepR S B b lim low made g cap m sl k w1 wr) (hx : sl[k]? = some ⟨nm, true, false⟩) (hk : 15 ≤ k) (hM : MapOf D (sweepTo sl k))
    (o2 : Only (fun _ => False) wr w2) (h3 : MapP m (used (sweepTo sl k)) (D.del (keyN nm)) w3) (t3 : w2.mapTurned w3 m) : SweepR S B b lim low made g cap m sl (k + 1) w1 (freedW w3 g k) := by
  have hx2 : (sweepTo sl k)[k]? = some ⟨nm, true, false⟩ := by rw [sweepTo_get hx, if_neg (by omega)]
  have h1 := h.1.freed (x := ⟨nm, true, false⟩) hx2 rfl hM o2 h3 t3
  have e : swp k ⟨nm, true, false⟩ = freeSlot := by simp [swp, hk]
  rw [← e, sweepTo_step hx] at h1
  exact ⟨h1.1, h.2.same h1.2⟩
theorem SweepR.keep {g cap m k : Nat} {x : ASlot} {w1 wr : World} (h : SweepR S B b lim low made g cap m sl k w1 wr) (hx : sl[k]? = some x) (hk : ¬ (x.used = true ∧ x.mark = false ∧ 15 ≤ k))
    (o : Obj) : SweepR S B b lim low made g cap m sl (k + 1) w1 ((wr.setCell ⟨g, k * 3 + 2, none⟩ (.bool false)).alloc o) := by
  have hx2 : (sweepTo sl k)[k]? = some x := by rw [sweepTo_get hx, if_neg (by omega)]
  have h1 := h.1.marked hx2 false
  have e : swp k x = ⟨x.name, x.used, false⟩ := by unfold swp; rw [if_neg hk]
  unfold markS at h1
  rw [← e, sweepTo_step hx] at h1
  exact ⟨h1.1.only (Only.alloc (fun _ => False) _ o) (fun _ _ e => e), (h.2.same h1.2).same (Only.alloc S _ o)⟩

set_option maxRecDepth 100000 in
set_option maxHeartbeats 4000000 in
theorem sweep_any (h : Tab S B b lim made sl w) (hL : Listed w) (hl : 15 ≤ lim) (hgl : ¬ S 0) (h15 : 15 ≤ sl.length) (hres : AllUsed sl 15) :
    Calls Tryd.prog 22 #[.pointer (some ⟨b, 0, none⟩)] w fun e w' => e = .returned (.int .i64 ((used sl : Int) - (used (sweepTo sl sl.length) : Int))) ∧ Kept S B b lim made (sweepTo sl sl.length) w w' := by
  have hnot := run_not
  have HB := Lib.hid h.bound
  have HR := Lib.hid (ready_any h hL hl hgl)
  have HRES := Lib.hid hres
  clear h hL hres
  go_enter Tryd.func22, Tryd.ntmps22
  go_wp2_with fail
  refine HR.out.mono ?_
  rintro e w1 ⟨rfl, h1, o1⟩
  have O1 := Lib.hid o1
  obtain ⟨low, ⟨ao, cap, m, hc⟩, hlow⟩ := h1
  have hfew := hc.few
  have hcap := hc.row.cap_ge
  obtain ⟨x0, hx0⟩ : ∃ x, sl[0]? = some x := ⟨_, List.getElem?_eq_getElem (by omega)⟩
  obtain ⟨g, rfl, hg, hcell⟩ := hc.row.at liesS 0 x0 hx0
  have c5 := cell_of_blk hc.blk 5
  have c4 := cell_of_blk hc.blk 4
  simp at c5 c4
  obtain ⟨D, hD, hM⟩ := hc.map
  have hlen := hD.len Tryd.underlying67
  rw [hM.size] at hlen
  have HS : Hid (SweepR (Grew S w w1) B b lim low made g cap m sl 0 w1 w1) := Lib.hid ⟨by rw [sweepTo_zero]; exact hc, Only.refl _ _⟩
  have hul := used_le sl
  clear hcell hx0 hM hD o1 hlow hc
  go_wp2_with fail
  clear hlen c4 c5
  go_loopw [19] (fun i wr => ∃ k : Nat, i = .int .i64 k ∧ k ≤ sl.length ∧ Hid (SweepR (Grew S w w1) B b lim low made g cap m sl k w1 wr)) (fun i _ => sl.length - (intOf i).toNat)
  case atStart => exact ⟨0, rfl, by omega, HS⟩
  case round =>
    obtain ⟨k, rfl, hk, hR⟩ := hrel
    obtain ⟨hc, ho⟩ := hR.out
    by_cases hlt : k < sl.length
    · obtain ⟨x, hx⟩ : ∃ x, sl[k]? = some x := ⟨_, List.getElem?_eq_getElem hlt⟩
      have hx2 : (sweepTo sl k)[k]? = some x := by rw [sweepTo_get hx, if_neg (by omega)]
      obtain ⟨g', hg', _, hcell⟩ := hc.row.at liesS k x hx2
      cases hg'
      have k0 := (hcell 0 (by omega)).1; have k1 := (hcell 1 (by omega)).1; have k2 := (hcell 2 (by omega)).1
      have f0 := (hcell 0 (by omega)).2; have f1 := (hcell 1 (by omega)).2; have f2 := (hcell 2 (by omega)).2
      simp only [encS, List.getElem?_cons_zero, List.getElem?_cons_succ, Nat.add_zero] at k0 k1 k2 f0
      have c4 := cell_of_blk hc.blk 4
      have c5 := cell_of_blk hc.blk 5
      simp [sweepTo_len] at c4 c5
      have hgl := (hc.row.head _ rfl).2.2
      have hbl := hc.low_le.2
      have HX := Lib.hid hx
      obtain ⟨nm, us, mk⟩ := x
      have HC := Lib.hid hc
      have HO := Lib.hid ho
      clear hc ho hcell hx2 hx
      simp only at k0 k1 k2
      have hgb : ¬ g = b := (HC.out.other _ rfl).1
      by_cases hdel : us = true ∧ mk = false ∧ 15 ≤ k
      · obtain ⟨rfl, rfl, hk15⟩ := hdel
        have hbk : (15 : Int) ≤ (k : Int) := by omega
        go_wp2_with fail
        have e0 : (wr.alloc (.cells #[.string nm, .bool true, .bool false] 95)).cell? ⟨wr.heap.size, 0, none⟩ = some (.string nm) := by simp
        have e5 : (wr.alloc (.cells #[.string nm, .bool true, .bool false] 95)).cell? ⟨b, 5, none⟩ = some (.map (some m)) := by
          rw [(Only.alloc (fun _ => False) wr _).cell (p := ⟨b, 5, none⟩) hbl (fun e => e)]; exact c5
        have HQ : Hid (Only (fun _ => False) wr (wr.alloc (.cells #[.string nm, .bool true, .bool false] 95))) := Lib.hid (Only.alloc _ _ _)
        generalize wr.alloc (.cells #[.string nm, .bool true, .bool false] 95) = wq at *
        clear k0 k1 k2 f0 f1 f2 c4 c5
        go_still_tail 6, (by kernel_rfl)
        change wpList _ _ _ _ _ wq.drew
        have HQ2 : Hid (Only (fun _ => False) wr wq.drew) := Lib.hid (HQ.out.same (Only.drew _ wq))
        generalize wq.drew = w2 at *
        have hkey := keyOfN (HC.out.names k ⟨nm, true, false⟩ (by rw [sweepTo_get HX.out, if_neg (by omega)]))
        obtain ⟨D, hD, hM⟩ := HC.out.map
        have HD := Lib.hid (map_only hD HQ2.out (fun e => e))
        have HM := Lib.hid hM
        clear hD hM e0 e5
        go_wp2_with (first
          | (at_delete; refine wpList_delete_own _ rfl _ _ 67 9 rfl 3 keyed Tryd.underlying67 _ m (used (sweepTo sl k)) D rfl HD.out _ _ rfl hkey ?_; intro w3 hown3 hturn3
             have hF := hR.out.free HX.out hk15 HM.out HQ2.out hown3 hturn3
             have HF := Lib.hid hF
             have hx2 : (sweepTo sl k)[k]? = some ⟨nm, true, false⟩ := by rw [sweepTo_get HX.out, if_neg (by omega)]
             have o3 := Only.turned hturn3
             have r3 := (HC.out.row.only HQ2.out (fun _ _ e => e)).only o3 (fun g' hg' => (HC.out.other g' hg').2)
             obtain ⟨g', hg', _, hcell⟩ := r3.at liesS k _ hx2
             cases hg'
             have k0 := (hcell 0 (by omega)).1; have k1 := (hcell 1 (by omega)).1; have k2 := (hcell 2 (by omega)).1
             have f0 := (hcell 0 (by omega)).2; have f1 := (hcell 1 (by omega)).2; have f2 := (hcell 2 (by omega)).2
             simp only [encS, List.getElem?_cons_zero, List.getElem?_cons_succ, Nat.add_zero] at k0 k1 k2 f0
             have hb3 := blk_field (blk_field HC.out.blk HQ2.out (fun e => e)) o3 (fun e => HC.out.bm e)
             have c4 := cell_of_blk hb3 4
             simp [sweepTo_len] at c4
             clear hown3 hturn3 hF hx2 o3 r3 hcell hb3)
          | fail)
        go_roundw
        case rel => exact ⟨k + 1, by go_num, by omega, HF⟩
        case measure => simp [intOf]; omega
      · have HF := Lib.hid (hR.out.keep HX.out hdel (.cells #[.string nm, .bool us, .bool mk] 95))
        cases us with
        | false =>
          clear hdel
          go_wp2_with fail
          go_roundw
          case rel => exact ⟨k + 1, by go_num, by omega, HF⟩
          case measure => simp [intOf]; omega
        | true =>
          cases mk with
          | true =>
            clear hdel
            go_wp2_with fail
            go_roundw
            case rel => exact ⟨k + 1, by go_num, by omega, HF⟩
            case measure => simp [intOf]; omega
          | false =>
            have hk15 : ¬ 15 ≤ k := fun e => hdel ⟨rfl, rfl, e⟩
            have hk15' : (k : Int) < 15 := by omega
            clear hdel
            go_wp2_with fail
            go_roundw
            case rel => exact ⟨k + 1, by go_num, by omega, HF⟩
            case measure => simp [intOf]; omega
    · obtain rfl : k = sl.length := by omega
      have c5 := cell_of_blk hc.blk 5
      have c6 := cell_of_blk hc.blk 6
      have f6 := free_of_blk hc.blk 6
      simp at c5 c6
      have hset := Tbl.setLow ⟨_, _, _, hc⟩ 15
      have hbmw : b ≠ m := hc.bm
      obtain ⟨D, hD, hM⟩ := hc.map
      have hlen := (map_only hD hset.2 (fun e => hbmw e.symm)).len Tryd.underlying67
      rw [hM.size] at hlen
      have hul2 := used_le (sweepTo sl sl.length)
      rw [sweepTo_len] at hul2
      have HK : Hid (Kept S B b lim made (sweepTo sl sl.length) w (wr.setCell ⟨b, 6, none⟩ (.int .i64 15))) := by
        have hsz : (wr.setCell ⟨b, 6, none⟩ (.int .i64 15)).heap.size = wr.heap.size := by simp [World.setCell]
        have s1 := O1.out.size
        have s2 := ho.size
        have hoo : Only S w (wr.setCell ⟨b, 6, none⟩ (.int .i64 15)) := O1.out.next (ho.same (hset.2.mono (fun j _ e => by subst e; exact hc.own _ (.inl rfl))))
        refine Lib.hid ⟨⟨15, hset.1.wider ?_ ?_, by omega, by rw [sweepTo_len]; omega, ?_⟩, hoo⟩
        · rintro j (hj | hj)
          · exact .inl hj
          · exact .inr ⟨hj.1, by rw [hsz]; omega⟩
        · rintro j (hj | hj)
          · have := HB.out.2.2.2 j hj; omega
          · have := HB.out.2.1; have := HB.out.1; omega
        · intro j x hj hx
          have hjl : j < sl.length := by have := (List.getElem?_eq_some_iff.1 hx).1; rwa [sweepTo_len] at this
          obtain ⟨y, hy⟩ : ∃ y, sl[j]? = some y := ⟨_, List.getElem?_eq_getElem hjl⟩
          rw [sweepTo_get hy, if_pos hjl] at hx
          cases hx
          have := HRES.out j y (by omega) hy
          unfold swp
          rw [if_neg (by omega)]
          exact this
      clear hc ho hD hM hset
      go_wp2_with fail
      go_ret
      exact ⟨rfl, HK.out⟩
end
end Go.Proofs.YtoppfhbpmmepaaaDoor.atoms
