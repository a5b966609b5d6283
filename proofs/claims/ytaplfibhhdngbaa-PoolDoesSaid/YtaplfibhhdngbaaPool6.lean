/- grow, walked. -/
import Derived.Test.YtaplfibhhdngbaaPool5
import Derived.StillTailTactics
namespace Go.Proofs.Ytaplfibhhdngbaa.pools
open Go.RowKit Go.Proofs.Ytaplfibhhdngbaa.own Go.Proofs.Ytaplfibhhdngbaa.trees
variable {B b o k sz : Nat} {ao : Option Addr} {cap : Nat} {T : List Int} {w : World}
theorem info32 : (Try.prog.info? 21).map (fun i => (i.zero, i.size, i.bytes)) = some (some (.int .i32 0), 1, 4) := by kernel_rfl
theorem copied {g : Nat} {w1 : World} (h : MostP B (some ⟨g, 0, none⟩) cap T w) (h1 : Only (fun _ => False) w w1) (hg : g < w.heap.size) : ∀ j x, (T.drop sz)[j]? = some x → w1.drew.cell? ((⟨g, sz, none⟩ : Addr).add j) = some (.int .i32 x) := by
  intro j x hj
  rw [List.getElem?_drop] at hj
  have hlt : sz + j < T.length := (List.getElem?_eq_some_iff.1 hj).1
  have hc := (MostP.get h (sz + j) hlt).1
  rw [List.getD_eq_getElem?_getD, hj] at hc
  have e : (⟨g, sz, none⟩ : Addr).add j = ⟨g, sz + j, none⟩ := by unfold Addr.add; split <;> simp_all
  rw [e]
  have := h1.cell (p := ⟨g, sz + j, none⟩) hg (fun e => e)
  exact this.trans hc

set_option maxRecDepth 100000 in
set_option maxHeartbeats 4000000 in
theorem grow_any (s0 p : Nat) (cs : Array Value) (t : TypeId) (hrow : MostP B ao cap T w) (hsmall : Small T) (hlen : T.length = 2 * sz) (hblk : w.heap[b]? = some (.cells cs t (0, 0))) (ho1 : o + 1 < cs.size)
    (k0 : cs[o]? = some (.int .i64 sz)) (k1 : cs[o + 1]? = some (.slice ao T.length cap)) (hB : B ≤ w.heap.size)
    (hs0 : s0 = if sz = 0 then 1 else sz) (hpow : Pow s0) (hp : sz < p) (hn : p ≤ 1048576) (hno : sz = 0 → ao = none ∧ cap = 0) :
    Calls Try.prog 41 #[.pointer (some ⟨b, o, none⟩), .int .i64 p] w fun e w' => e = .returned (.tuple #[]) ∧ ∃ k s T', Grown B b o sz p T cs t w w' k s T' := by
  have c0 : w.cell? ⟨b, o, none⟩ = some (.int .i64 sz) := by rw [cell_of_blk hblk]; exact k0
  have c1 : w.cell? ⟨b, o + 1, none⟩ = some (.slice ao T.length cap) := by rw [cell_of_blk hblk]; exact k1
  have f0 := free_of_blk hblk o
  have f1 := free_of_blk hblk (o + 1)
  have hb := lt_of_cell c0
  simp only at hb
  obtain ⟨i0, hi, hin⟩ : ∃ i0, Try.prog.info? 21 = some i0 ∧ (i0.zero, i0.size, i0.bytes) = (some (.int .i32 0), 1, 4) := by
    have := info32
    cases h : Try.prog.info? 21 with
    | none => rw [h] at this; simp at this
    | some i => rw [h] at this; simp at this; exact ⟨i, rfl, by simp [this]⟩
  simp only [Prod.mk.injEq] at hin
  obtain ⟨hz0, hz1, hz2⟩ := hin
  have hcap := hrow.cap_ge
  have hcm := hcap.2
  have hcl := hcap.1
  unfold maxLen at hcm
  have hle := hpow.le
  have HP0 := Lib.hid hpow
  have HR := Lib.hid hrow
  have HSM := Lib.hid hsmall
  have HBLK := Lib.hid hblk
  have HO := Lib.hid ho1
  have hs0i : (if (sz : Int) < 1 then (1 : Int) else sz) = s0 := by
    rw [hs0]; split <;> split <;> omega
  have hsz0 : sz ≤ s0 := by rw [hs0]; split <;> omega
  have HT := Lib.hid hlen
  clear hrow hpow hs0 hblk ho1 k0 k1 hcap hsmall
  generalize hTL : T.length = L at *
  have HTL := Lib.hid hTL
  clear hTL
  go_enter Try.func41, Try.ntmps41
  go_wp2_with fail
  try rw [hs0i]
  go_loop [4] (fun v => ∃ s : Nat, v = .int .i64 s ∧ s0 ≤ s ∧ s ≤ 1048576 ∧ Hid (Pow s)) (fun v => p - (intOf v).toNat)
  case atStart => exact ⟨s0, by first | rfl | (simp; omega), by omega, by omega, HP0⟩
  case round =>
    obtain ⟨s, rfl, hs1, hs2, HP⟩ := hrel
    by_cases hsp : s < p
    · have HN := Lib.hid (HP.out.next hsp hn)
      have hsm := HN.out.le
      go_wp2_with fail
      go_round
      case rel => exact ⟨2 * s, by simp; omega, by omega, by omega, HN⟩
      case measure => simp only [intOf]; omega
    · go_wp2_with (at_make; refine wp_make32 w rfl (.tmp 24) (.tmp 24) 52 rfl B i0 Try.underlying52 hi hz0 hz1 hz2 .i64 .i64 _ _ (2 * s) rfl rfl (by omega) (by omega) (by omega) hB ?_; intro w1 hrow1 hw1; have d0 := hw1.cell (p := ⟨b, o, none⟩) hb (fun e => e); have d1 := hw1.cell (p := ⟨b, o + 1, none⟩) hb (fun e => e); rw [c0] at d0; rw [c1] at d1)
      have C0 := Lib.hid c0
      have C1 := Lib.hid c1
      have F0 := Lib.hid f0
      have F1 := Lib.hid f1
      clear c0 c1 f0 f1
      have hL2 : (L : Int) = 2 * (sz : Int) := by have := HT.out; omega
      have hszL : (sz : Int) ≤ (L : Int) := by omega
      have hsz2 : (sz : Int) ≤ 2 * (sz : Int) := by omega
      have hss : (s : Int) ≤ 2 * (s : Int) := by omega
      have HZs : Hid (sz ≤ s) := Lib.hid (by omega)
      have hne : ¬ (2 * s = s) := by omega
      rcases ao with _ | ga
      · have hz : sz = 0 := by
          rcases Nat.eq_zero_or_pos sz with h | h
          · exact h
          · obtain ⟨g, hg, _⟩ := (HR.out).at lies32 0 (T.getD 0 0) (by have := HT.out; have := HTL.out; rw [List.getD_eq_getElem?_getD, List.getElem?_eq_getElem (by omega)]; rfl)
            cases hg
        obtain ⟨_, hcap0⟩ := hno hz
        subst hcap0 hz
        have hL0 : L = 0 := by omega
        subst hL0
        have HS0 := Lib.hid hs0i
        have HPP := Lib.hid hp
        have HZ := Lib.hid hsz0
        clear hL2 hno hlen hcl hcm hszL hsz2 hs0i hp hsz0
        go_still_tail 12, (by kernel_rfl)
        change wpList _ _ _ _ _ w1.drew
        refine wp_copy32 (o := ⟨some 38, _, _, _, _, _⟩) rfl (.tmp 28) (.tmp 37) 52 52 rfl i0 Try.underlying52 hi hz1 _ B w.heap.size (2 * s) s (2 * s - s) (2 * s - s) 0 0 none (List.replicate (2 * s) 0) (T.drop 0) rfl rfl (by rw [List.length_drop]; have := HTL.out; simp only [Nat.min_def]; split <;> omega) (by rw [List.length_drop, List.length_replicate]; have := HTL.out; omega) (hrow1.only (Only.drew (fun _ => False) w1) (fun _ _ e => e)) (fun hh => by rw [List.length_drop] at hh; have := HTL.out; omega) ?_
        intro w2 hrow2 hw2
        have ho2 : Only (fun _ => False) w w2 := (hw1.same (Only.drew _ w1)).trans hw2 (fun k hk e => by omega)
        have HB0 := Lib.hid (Building.start (s := s) (by have := HT.out; have := HTL.out; omega) HZs.out HSM.out hrow2 ho2 rfl)
        clear hrow1 hrow2 hw1 hw2 ho2 d0 d1 hss hne
        have hse : ((s : Int) - 1) = ((s - 1 : Nat) : Int) := by omega
        go_wp2_with fail
        try rw [hse]
        clear hse
        go_loopw [6] (fun v wr => ∃ (i : Nat) (T' : List Int), v = .int .i64 i ∧ i < s ∧ Hid (Building B s w.heap.size 0 T w i T' wr)) (fun v _ => (intOf v).toNat)
        case atStart => exact ⟨s - 1, _, by first | rfl | (congr 1; omega), by omega, HB0⟩
        case round =>
          obtain ⟨i, T', rfl, hi9, HX⟩ := hrel
          clear HB0
          have hT' := HX.out.len
          by_cases hz : i = 0
          · subst hz
            have d0 := HX.out.only.cell (p := ⟨b, o, none⟩) hb (fun e => e)
            have d1 := HX.out.only.cell (p := ⟨b, o + 1, none⟩) hb (fun e => e)
            have g0 := HX.out.only.frozen (p := ⟨b, o, none⟩) hb (fun e => e)
            have g1 := HX.out.only.frozen (p := ⟨b, o + 1, none⟩) hb (fun e => e)
            rw [C0.out] at d0
            rw [C1.out] at d1
            rw [F0.out] at g0
            rw [F1.out] at g1
            have HD := Lib.hid (fun wr2 => HX.out.done (wr2 := wr2) HP.out (Nat.le_of_not_lt hsp) HBLK.out hb HO.out)
            go_wp2_with fail
            go_end0
            exact ⟨rfl, HD.out _ rfl⟩
          · have rl := (MostP.get HX.out.row (2 * i) (by omega)).1
            have rr := (MostP.get HX.out.row (2 * i + 1) (by omega)).1
            have ri := (MostP.get HX.out.row i (by omega)).1
            have fi := (MostP.get HX.out.row i (by omega)).2
            have HN := Lib.hid (fun wr2 => HX.out.next (wr2 := wr2) (by omega) hi9 1)
            have HI := Lib.hid hT'
            clear hT'
            generalize T'.getD i 0 = xi at *
            generalize T'.getD (2 * i) 0 = xl at *
            generalize T'.getD (2 * i + 1) 0 = xr at *
            have i0 : (0 : Int) ≤ 2 * (i : Int) := by omega
            have i1 : 2 * (i : Int) < 2 * (s : Int) := by omega
            have i2 : (0 : Int) ≤ 2 * (i : Int) + 1 := by omega
            have i3 : 2 * (i : Int) + 1 < 2 * (s : Int) := by omega
            have i4 : (i : Int) < 2 * (s : Int) := by omega
            have w1 : IntKind.i64.wrap (2 * (i : Int)) = 2 * (i : Int) := IntWalk.i64_in _ (by omega)
            have w2 : IntKind.i64.wrap (2 * (i : Int) + 1) = 2 * (i : Int) + 1 := IntWalk.i64_in _ (by omega)
            have t1 : (2 * (i : Int)).toNat = 2 * i := by omega
            have t2 : (2 * (i : Int) + 1).toNat = 2 * i + 1 := by omega
            go_wp2_with fail
            go_still_tail 15, (by kernel_rfl)
            change wpList _ _ _ _ _ wr.drew
            rw [show (if xl < xr then xr else xl) = max xl xr by split <;> omega]
            clear w1 w2 t1 t2 i0 i1 i2 i3 rl rr
            generalize max xl xr = xm at *
            have ri2 : wr.drew.cell? ⟨w.heap.size, i, none⟩ = some (.int .i32 xi) := ri
            have fi2 : wr.drew.frozen? ⟨w.heap.size, i, none⟩ = false := fi
            have HN2 := Lib.hid (HN.out (wr.drew.setCell ⟨w.heap.size, i, none⟩ (.int .i32 xm)) rfl)
            clear ri fi HN
            generalize wr.drew = wq at *
            go_wp2_with fail
            go_roundw
            case rel => exact ⟨i - 1, _, by first | rfl | (congr 1; omega) | (simp; omega), by omega, HN2⟩
            case measure =>
              simp only [intOf]
              omega
      · obtain ⟨hga, _, hgl⟩ := HR.out.head ga rfl
        generalize ga.block = g at *
        subst hga
        have hcne : ¬ (cap = sz) := by
          intro e
          have : sz = 0 := by omega
          exact absurd (hno this).1 (by simp)
        have HNO := Lib.hid hno
        have HL2 := Lib.hid hL2
        clear hL2 hno
        go_still_tail 12, (by kernel_rfl)
        change wpList _ _ _ _ _ w1.drew
        refine wp_copy32 (o := ⟨some 38, _, _, _, _, _⟩) rfl (.tmp 28) (.tmp 37) 52 52 rfl i0 Try.underlying52 hi hz1 _ B w.heap.size (2 * s) s (2 * s - s) (2 * s - s) (2 * sz - sz) (cap - sz) (some ⟨g, sz, none⟩) (List.replicate (2 * s) 0) (T.drop sz) rfl rfl (by rw [List.length_drop]; have := HTL.out; have := HT.out; simp only [Nat.min_def]; split <;> omega) (by rw [List.length_drop, List.length_replicate]; have := HTL.out; have := HT.out; omega) (hrow1.only (Only.drew (fun _ => False) w1) (fun _ _ e => e)) (fun _ => ⟨_, rfl, copied HR.out hw1 hgl⟩) ?_
        intro w2 hrow2 hw2
        have ho2 : Only (fun _ => False) w w2 := (hw1.same (Only.drew _ w1)).trans hw2 (fun k hk e => by omega)
        have HB0 := Lib.hid (Building.start (s := s) (by have := HT.out; have := HTL.out; omega) HZs.out HSM.out hrow2 ho2 rfl)
        clear hrow1 hrow2 hw1 hw2 ho2 d0 d1 hss hne
        have hse : ((s : Int) - 1) = ((s - 1 : Nat) : Int) := by omega
        go_wp2_with fail
        try rw [hse]
        clear hse
        go_loopw [6] (fun v wr => ∃ (i : Nat) (T' : List Int), v = .int .i64 i ∧ i < s ∧ Hid (Building B s w.heap.size sz T w i T' wr)) (fun v _ => (intOf v).toNat)
        case atStart => exact ⟨s - 1, _, by first | rfl | (congr 1; omega), by omega, HB0⟩
        case round =>
          obtain ⟨i, T', rfl, hi9, HX⟩ := hrel
          clear HB0
          have hT' := HX.out.len
          by_cases hz : i = 0
          · subst hz
            have d0 := HX.out.only.cell (p := ⟨b, o, none⟩) hb (fun e => e)
            have d1 := HX.out.only.cell (p := ⟨b, o + 1, none⟩) hb (fun e => e)
            have g0 := HX.out.only.frozen (p := ⟨b, o, none⟩) hb (fun e => e)
            have g1 := HX.out.only.frozen (p := ⟨b, o + 1, none⟩) hb (fun e => e)
            rw [C0.out] at d0
            rw [C1.out] at d1
            rw [F0.out] at g0
            rw [F1.out] at g1
            have HD := Lib.hid (fun wr2 => HX.out.done (wr2 := wr2) HP.out (Nat.le_of_not_lt hsp) HBLK.out hb HO.out)
            go_wp2_with fail
            go_end0
            exact ⟨rfl, HD.out _ rfl⟩
          · have rl := (MostP.get HX.out.row (2 * i) (by omega)).1
            have rr := (MostP.get HX.out.row (2 * i + 1) (by omega)).1
            have ri := (MostP.get HX.out.row i (by omega)).1
            have fi := (MostP.get HX.out.row i (by omega)).2
            have HN := Lib.hid (fun wr2 => HX.out.next (wr2 := wr2) (by omega) hi9 1)
            have HI := Lib.hid hT'
            clear hT'
            generalize T'.getD i 0 = xi at *
            generalize T'.getD (2 * i) 0 = xl at *
            generalize T'.getD (2 * i + 1) 0 = xr at *
            have i0 : (0 : Int) ≤ 2 * (i : Int) := by omega
            have i1 : 2 * (i : Int) < 2 * (s : Int) := by omega
            have i2 : (0 : Int) ≤ 2 * (i : Int) + 1 := by omega
            have i3 : 2 * (i : Int) + 1 < 2 * (s : Int) := by omega
            have i4 : (i : Int) < 2 * (s : Int) := by omega
            have w1 : IntKind.i64.wrap (2 * (i : Int)) = 2 * (i : Int) := IntWalk.i64_in _ (by omega)
            have w2 : IntKind.i64.wrap (2 * (i : Int) + 1) = 2 * (i : Int) + 1 := IntWalk.i64_in _ (by omega)
            have t1 : (2 * (i : Int)).toNat = 2 * i := by omega
            have t2 : (2 * (i : Int) + 1).toNat = 2 * i + 1 := by omega
            go_wp2_with fail
            go_still_tail 15, (by kernel_rfl)
            change wpList _ _ _ _ _ wr.drew
            rw [show (if xl < xr then xr else xl) = max xl xr by split <;> omega]
            clear w1 w2 t1 t2 i0 i1 i2 i3 rl rr
            generalize max xl xr = xm at *
            have ri2 : wr.drew.cell? ⟨w.heap.size, i, none⟩ = some (.int .i32 xi) := ri
            have fi2 : wr.drew.frozen? ⟨w.heap.size, i, none⟩ = false := fi
            have HN2 := Lib.hid (HN.out (wr.drew.setCell ⟨w.heap.size, i, none⟩ (.int .i32 xm)) rfl)
            clear ri fi HN
            generalize wr.drew = wq at *
            go_wp2_with fail
            go_roundw
            case rel => exact ⟨i - 1, _, by first | rfl | (congr 1; omega) | (simp; omega), by omega, HN2⟩
            case measure =>
              simp only [intOf]
              omega
end Go.Proofs.Ytaplfibhhdngbaa.pools
