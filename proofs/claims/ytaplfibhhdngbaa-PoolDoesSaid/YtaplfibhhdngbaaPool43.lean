/- The document's Give. -/
import Derived.Test.YtaplfibhhdngbaaPool42
namespace Go.Proofs.Ytaplfibhhdngbaa.pools
open Go.RowKit Go.Proofs.Ytaplfibhhdngbaa.own Go.Proofs.Ytaplfibhhdngbaa.trees Go.Proofs.Ytaplfibhhdngbaa.rows Go.Proofs.Ytaplfibhhdngbaa.frames
variable {R : Nat → Prop} {B b : Nat} {fo fo' : Option Addr} {fcap fcap' : Nat} {so so' : Option Addr} {scap scap' : Nat} {lim : Nat} {F F' : List Bool} {St St' : List Nat} {w w' w2 w3 : World}
theorem Seg.both (h : Facts lim F St) {a n s t : Nat} (hs : Seg St a s) (hn : 1 ≤ n) (hl : a + n ≤ F.length) (ht : Seg St (a + n - 1) t) : s = t ↔ a + n ≤ endOf St F s := by
  constructor
  · intro e
    subst e
    unfold endOf
    split
    · rename_i hl2
      have := ht.gt (s + 1) (by omega) hl2
      omega
    · exact hl
  · intro he
    refine Seg.same (a := a + n - 1) ⟨hs.lt, by have := hs.le; omega, fun t g1 g2 => ?_⟩ ht
    have h1 : endOf St F s = St.getD (s + 1) 0 := by unfold endOf; rw [if_pos (by omega)]
    have := getD_le h.rising (show s + 1 ≤ t by omega) g2
    omega
theorem giveF_no {a n : Int} (h : ¬ TakenI St F a n) : giveF F St a n = (1, F) := by
  unfold giveF
  rw [if_neg h]
theorem giveF_yes {a n : Nat} (h : Taken St F a n) : giveF F St a n = (0, put F a true n) := by
  unfold giveF
  rw [if_pos ⟨by have := h.1; omega, by omega, by simpa using h⟩]
  simp
/-- Some cells are set on. -/
structure GiveI (R : Nat → Prop) (B b : Nat) (fo : Option Addr) (fcap : Nat) (so : Option Addr) (scap lim : Nat) (F : List Bool) (St : List Nat) (a k : Nat) (w wr : World) : Prop where
  ref : RefAt R B b fo fcap so scap lim (put F a true k) St wr
  only : Only R w wr
set_option maxRecDepth 100000 in
set_option maxHeartbeats 8000000 in
theorem rgive_any (a n : Int) (h : RefAt R B b fo fcap so scap lim F St w) (hfa : -9223372036854775808 ≤ a ∧ a ≤ 9223372036854775807) (hfn : -9223372036854775808 ≤ n ∧ n ≤ 9223372036854775807) :
    Calls Try.prog 29 #[.pointer (some ⟨b, 0, none⟩), .int .i64 a, .int .i64 n] w fun e w' => e = .returned (.int .i64 (giveF F St a n).1) ∧ Ref (Grew R w w') B b lim (giveF F St a n).2 St w' ∧ Only R w w' := by
  have c0 := h.c0
  have H := Lib.hid h
  have hlim := h.facts.limit
  clear h
  by_cases hin : 1 ≤ n ∧ 0 ≤ a ∧ a + n ≤ F.length
  · obtain ⟨m, rfl⟩ : ∃ m : Nat, n = m := ⟨n.toNat, by omega⟩
    obtain ⟨a', rfl⟩ : ∃ m : Nat, a = m := ⟨a.toNat, by omega⟩
    have hm1 : 1 ≤ m := by omega
    have hle : a' + m ≤ F.length := by omega
    have g1 : ¬ ((m : Int) < 1) := by omega
    have g2 : ¬ ((a' : Int) < 0) := by omega
    have g3 : ¬ ((a' : Int) ≥ (F.length : Int)) := by omega
    have g4 : ¬ ((m : Int) > (F.length : Int) - (a' : Int)) := by omega
    have hx : ((a' : Int) + (m : Int) - 1) = ((a' + m - 1 : Nat) : Int) := by omega
    clear hin hfa hfn
    go_enter Try.func29, Try.ntmps29
    go_wp2_with fail
    refine (rsegment_any (a' : Int) H.out).mono ?_
    rintro e w1 ⟨⟨s, rfl, hs⟩, rfl⟩
    obtain ⟨sn, rfl, hseg⟩ : ∃ sn : Nat, s = sn ∧ Seg St a' sn := by
      rcases hs with ⟨h0, _⟩ | ⟨_, t, h1, h2⟩
      · exact absurd ⟨by omega, by omega⟩ h0
      · exact ⟨t, h1, by simpa using h2⟩
    have HSeg := Lib.hid hseg
    clear hs hseg
    go_wp2_with fail
    try rw [hx]
    clear hx
    refine (rsegment_any ((a' + m - 1 : Nat) : Int) H.out).mono ?_
    rintro e w1 ⟨⟨s2, rfl, hs2⟩, rfl⟩
    obtain ⟨tn, rfl, hseg2⟩ : ∃ tn : Nat, s2 = tn ∧ Seg St (a' + m - 1) tn := by
      rcases hs2 with ⟨h0, _⟩ | ⟨_, t, h1, h2⟩
      · exact absurd ⟨by omega, by omega⟩ h0
      · exact ⟨t, h1, by simpa using h2⟩
    have hboth := Seg.both H.out.facts HSeg.out hm1 hle hseg2
    have HBoth := Lib.hid hboth
    clear hs2 hseg2 hboth
    by_cases hst : sn = tn
    · subst hst
      have hend := HBoth.out.1 rfl
      have HEnd := Lib.hid hend
      have hne : ((sn : Int) != (sn : Int)) = false := by simp
      clear hend
      go_wp2_with fail
      go_loopw [7] (fun v wr => ∃ k : Nat, v = .int .i64 k ∧ k ≤ m ∧ wr = w ∧ Hid (∀ j, a' ≤ j → j < a' + k → F.getD j false = false)) (fun v _ => m - (intOf v).toNat)
      case atStart => exact ⟨0, rfl, by omega, rfl, Lib.hid (fun j h1 h2 => by omega)⟩
      case round =>
        obtain ⟨k, rfl, hk, rfl, HOff⟩ := hrel
        by_cases hkm : k < m
        · have hkI : (k : Int) < (m : Int) := by omega
          obtain ⟨g, hg, hcell, _⟩ := H.out.cell (a' + k) (by omega)
          subst hg
          have hbd : (a' : Int) + (k : Int) < (F.length : Int) := by omega
          have ht1 : ((a' : Int) + (k : Int)).toNat = a' + k := by omega
          cases hf : F.getD (a' + k) false with
          | true =>
            rw [hf] at hcell
            have hno : ¬ TakenI St F (a' : Int) (m : Int) := fun ht => by
              have := ht.2.2.2.2.2 (a' + k) (by simp) (by simp; omega)
              rw [hf] at this
              cases this
            have hG := giveF_no hno
            have HR := Lib.hid (H.out.wide H.out)
            clear hno hf
            go_wp2_with fail
            go_ret
            rw [hG]
            exact ⟨rfl, ⟨_, _, _, _, HR.out⟩, Only.refl _ _⟩
          | false =>
            rw [hf] at hcell
            have HOff' : Hid (∀ j, a' ≤ j → j < a' + (k + 1) → F.getD j false = false) := Lib.hid (fun j h1 h2 => by
              rcases Nat.lt_or_ge j (a' + k) with g | g
              · exact HOff.out j h1 g
              · rw [show j = a' + k by omega]; exact hf)
            clear hf
            go_wp2_with fail
            go_roundw
            case rel => exact ⟨k + 1, by go_num, by omega, by first | rfl | trivial, HOff'⟩
            case measure => simp [intOf]; omega
        · have hke : k = m := by omega
          subst hke
          have hkI : ¬ ((k : Int) < (k : Int)) := by omega
          have hG := giveF_yes (St := St) (F := F) (a := a') (n := k) ⟨hm1, by omega, ⟨sn, HSeg.out, HEnd.out⟩, HOff.out⟩
          have HG := Lib.hid hG
          have J0 : Hid (GiveI R B b fo fcap so scap lim F St a' 0 wr wr) := Lib.hid ⟨H.out, Only.refl _ _⟩
          clear hG
          go_wp2_with fail
          clear c0
          go_loopw [8] (fun v wq => ∃ j : Nat, v = .int .i64 j ∧ j ≤ k ∧ Hid (GiveI R B b fo fcap so scap lim F St a' j wr wq)) (fun v _ => k - (intOf v).toNat)
          case atStart => exact ⟨0, rfl, by omega, J0⟩
          case round =>
            obtain ⟨j, rfl, hj, HJ⟩ := hrel
            by_cases hjk : j < k
            · have hF : (put F a' true j).length = F.length := put_len _ _ _ _
              obtain ⟨g, hg, hcf, hfz⟩ := HJ.out.ref.cell (a' + j) (by rw [hF]; omega)
              subst hg
              have c0 := HJ.out.ref.c0
              rw [hF] at c0
              have hjI : (j : Int) < (k : Int) := by omega
              have hbd : (a' : Int) + (j : Int) < (F.length : Int) := by omega
              have ht1 : ((a' : Int) + (j : Int)).toNat = a' + j := by omega
              have HN := Lib.hid (fun wq e => HJ.out.ref.turned (w2 := wq) (a' + j) (by rw [hF]; omega) true e)
              have HO := Lib.hid HJ.out.only
              clear hF
              go_wp2_with fail
              have hN := HN.out _ rfl
              have HK : Hid (GiveI R B b (some ⟨g, 0, none⟩) fcap so scap lim F St a' (j + 1) _ _) := Lib.hid ⟨hN.1, HO.out.same hN.2⟩
              clear hN
              go_roundw
              case rel => exact ⟨j + 1, by go_num, by omega, HK⟩
              case measure => simp [intOf]; omega
            · have hje : j = k := by omega
              subst hje
              have hjI : ¬ ((j : Int) < (j : Int)) := by omega
              have HRf := Lib.hid (H.out.wide HJ.out.ref)
              have HO := Lib.hid HJ.out.only
              clear HJ
              go_wp2_with fail
              go_ret
              rw [HG.out]
              exact ⟨rfl, ⟨_, _, _, _, HRf.out⟩, HO.out⟩
    · have hno : ¬ TakenI St F (a' : Int) (m : Int) := fun ht => by
        obtain ⟨_, _, _, _, ⟨s', hs', he'⟩, _⟩ := ht
        simp only [Int.toNat_natCast] at hs' he'
        obtain rfl := hs'.same HSeg.out
        exact hst (HBoth.out.2 he')
      have hG := giveF_no hno
      have HR := Lib.hid (H.out.wide H.out)
      have hne : ((sn : Int) != (tn : Int)) = true := by simp; omega
      clear hno
      go_wp2_with fail
      go_ret
      rw [hG]
      exact ⟨rfl, ⟨_, _, _, _, HR.out⟩, Only.refl _ _⟩
  · have hno : ¬ TakenI St F a n := fun ht => by
      obtain ⟨h1, h2, h3, h4, ⟨s, hs, he⟩, _⟩ := ht
      have : endOf St F s ≤ F.length := by
        unfold endOf
        split
        · rename_i hl; exact H.out.facts.below _ (getD_mem hl)
        · exact Nat.le_refl _
      omega
    have hG := giveF_no hno
    have HR := Lib.hid (H.out.wide H.out)
    clear hno
    by_cases h1 : n < 1
    · go_enter Try.func29, Try.ntmps29
      go_wp2_with fail
      go_ret
      rw [hG]
      exact ⟨rfl, ⟨_, _, _, _, HR.out⟩, Only.refl _ _⟩
    · by_cases h2 : a < 0
      · go_enter Try.func29, Try.ntmps29
        go_wp2_with fail
        go_ret
        try rw [hG]
        exact ⟨rfl, ⟨_, _, _, _, HR.out⟩, Only.refl _ _⟩
      · by_cases h3 : a ≥ (F.length : Int)
        · go_enter Try.func29, Try.ntmps29
          go_wp2_with fail
          go_ret
          try rw [hG]
          exact ⟨rfl, ⟨_, _, _, _, HR.out⟩, Only.refl _ _⟩
        · have h4 : n > (F.length : Int) - a := by omega
          have hw1 : IntKind.i64.wrap ((F.length : Int) - a) = (F.length : Int) - a := IntWalk.i64_in _ (by omega)
          go_enter Try.func29, Try.ntmps29
          go_wp2_with fail
          go_ret
          try rw [hG]
          exact ⟨rfl, ⟨_, _, _, _, HR.out⟩, Only.refl _ _⟩
end Go.Proofs.Ytaplfibhhdngbaa.pools
