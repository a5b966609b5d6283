/- Tokens: the law of all tokens. -/
import Derived.Test.YtogccafnfpmgmaaDoorTokSame
namespace Go.Proofs.YtogccafnfpmgmaaDoor.toks
open Go.RowKit Go.Proofs.YtogccafnfpmgmaaDoor.own
set_option maxRecDepth 100000 in
set_option maxHeartbeats 8000000 in
theorem law_all (ao : Option Addr) (cap : Nat) (bs : List UInt8) (w : World) (hb : ArgB ao cap bs w) (hT : Tabled w) :
    Calls Tryd.prog 3 #[.slice ao bs.length cap] w fun e w' => e = .returned (.bool true) ∧ Below w.heap.size w w' := by
  have HB := Lib.hid hb
  have HLV : Hid (∀ W, Only (fun _ => False) w W → Calls Tryd.prog 7 #[] W fun e w' => e = .returned (.bool true) ∧ Only (fun _ => False) W w') := Lib.hid (fun W ho => lives_any W (hT.later ho))
  clear hb hT
  by_cases hbig : (3000 : Int) < (bs.length : Int)
  · go_enter Tryd.func3, Tryd.ntmps3
    go_wp2_with fail
    refine (HLV.out _ (Only.refl _ _)).mono ?_
    rintro e w1 ⟨rfl, ho⟩
    go_wp2_with fail
    go_ret
    exact ⟨rfl, ho.to_below⟩
  have hl3 : bs.length ≤ 3000 := by omega
  have HA1 := Lib.hid (all_any ao cap bs w HB.out.byts (by omega) HB.out.fits)
  have HA2 : Hid (∀ W, Only (fun _ => False) w W → Calls Tryd.prog 9 #[.slice ao bs.length cap] W fun e w' => AllIs W.heap.size e w' (allF bs) ∧ Only (fun _ => False) W w') := Lib.hid (fun W ho => rall_any ao cap bs W (HB.out.byts.later ho) (by omega) HB.out.fits)
  cases hal : allF bs with
  | no n er =>
    rw [hal] at HA1 HA2
    clear hal
    have HSA : Hid (∀ W, Calls Tryd.prog 10 #[.slice none 0 0, .slice none 0 0] W fun e w' => e = .returned (.bool true) ∧ Only (fun _ => False) W w') := Lib.hid (fun W => sameAll_any [] 0 0 none none 0 0 W (RowOf.nil _ _ _ _ _) (RowOf.nil _ _ _ _ _) (by simp))
    go_enter Tryd.func3, Tryd.ntmps3
    go_wp2_with fail
    refine HA1.out.mono ?_
    rintro e w1 ⟨⟨rfl, her⟩, ho1⟩
    have HO1 := Lib.hid ho1
    clear ho1 HA1
    go_wp2_with fail
    refine (HA2.out w1 HO1.out).mono ?_
    rintro e w2 ⟨⟨rfl, _⟩, ho2⟩
    have HO2 := Lib.hid (HO1.out.same ho2)
    clear ho2
    go_wp2_with fail
    refine (HLV.out w2 HO2.out).mono ?_
    rintro e w3 ⟨rfl, ho3⟩
    have HO3 := Lib.hid (HO2.out.same ho3)
    clear ho3
    go_wp2_with fail
    refine (HSA.out w3).mono ?_
    rintro e w4 ⟨rfl, ho4⟩
    have HO4 := Lib.hid (HO3.out.same ho4)
    clear ho4
    go_wp2_with fail
    refine wp_loop_rounds 1 ?_
    rw [rounds_succ]
    go_wp2_with fail
    go_ret
    exact ⟨rfl, HO4.out.to_below⟩
  | ok l n =>
    have hbd := allF_bound bs
    rw [hal] at HA1 HA2 hbd
    have HBT : Hid (∀ (i : Nat) (s t : Tk), l[i]? = some s → l[i + 1]? = some t → s.at_ < t.at_) := Lib.hid hbd.2.2
    clear hal hbd
    go_enter Tryd.func3, Tryd.ntmps3
    go_wp2_with fail
    refine HA1.out.mono ?_
    rintro e w1 ⟨⟨ro, rc, rfl, hr1, hll⟩, ho1⟩
    have HO1 := Lib.hid ho1
    have HR1 := Lib.hid hr1
    clear ho1 HA1 hr1
    go_wp2_with fail
    refine (HA2.out w1 HO1.out).mono ?_
    rintro e w2 ⟨⟨mo, mc, rfl, hm2, _⟩, ho2⟩
    have HO2 := Lib.hid (HO1.out.same ho2)
    have HR2 := Lib.hid (HR1.out.only ho2 (fun _ _ e => e))
    have HM2 := Lib.hid hm2
    clear ho2 HR1 hm2
    go_wp2_with fail
    refine (HLV.out w2 HO2.out).mono ?_
    rintro e w3 ⟨rfl, ho3⟩
    have HO3 := Lib.hid (HO2.out.same ho3)
    have HR3 := Lib.hid (HR2.out.only ho3 (fun _ _ e => e))
    have HM3 := Lib.hid (HM2.out.only ho3 (fun _ _ e => e))
    clear ho3 HR2 HM2
    go_wp2_with fail
    refine (sameAll_any l _ _ ro mo rc mc w3 HR3.out HM3.out hll).mono ?_
    rintro e w4 ⟨rfl, ho4⟩
    have HO4 := Lib.hid (HO3.out.same ho4)
    have HR4 := Lib.hid (HR3.out.only ho4 (fun _ _ e => e))
    clear ho4 HR3 HM3
    go_wp2_with fail
    go_loopw [9] (fun c wr => ∃ j : Nat, c = .int .i64 j ∧ 1 ≤ j ∧ j ≤ l.length + 1 ∧ Hid (Only (fun _ => False) w4 wr)) (fun c _ => l.length + 1 - (intOf c).toNat)
    case atStart => exact ⟨1, rfl, by omega, by omega, Lib.hid (Only.refl _ _)⟩
    case round =>
      obtain ⟨j, rfl, hj1, hj2, hI⟩ := hrel
      by_cases hlt : j < l.length
      · obtain ⟨k, hk⟩ : ∃ k, j = k + 1 := ⟨j - 1, by omega⟩
        obtain ⟨s, hs⟩ : ∃ s, l[k]? = some s := ⟨_, List.getElem?_eq_getElem (by omega)⟩
        obtain ⟨t, ht⟩ : ∃ t, l[j]? = some t := ⟨_, List.getElem?_eq_getElem hlt⟩
        have hst := HBT.out k s t hs (by rw [← hk]; exact ht)
        obtain ⟨g, rfl, hg, hz, a0, a1, a2, a3, a4⟩ := RowOf.tk (HR4.out.only hI.out (fun _ _ e => e)) hs
        obtain ⟨g', he, hg', hz', b0, b1, b2, b3, b4⟩ := RowOf.tk (HR4.out.only hI.out (fun _ _ e => e)) ht
        cases he
        have p0 : (0 : Int) ≤ (j : Int) := by omega
        have p1 : (j : Int) < (l.length : Int) := by omega
        have p2 : (j : Int) - 1 = (k : Int) := by omega
        have p3 : (0 : Int) ≤ (k : Int) := by omega
        have p4 : (k : Int) < (l.length : Int) := by omega
        have p5 : ¬ ((t.at_ : Int) ≤ (s.at_ : Int)) := by omega
        have p6 : ((j : Int) - 1).toNat = k := by omega
        have p7 : (1 : Int) ≤ (j : Int) := by omega
        clear hs ht hst hk
        go_wp2_with fail
        go_quiet (fail)
        go_wp2_with fail
        go_roundw
        case rel => exact ⟨j + 1, by go_num, by omega, by omega, Lib.hid (hI.out.same (Only.drewN _ _ _))⟩
        case measure => simp [intOf]; omega
      · have p1 : ¬ ((j : Int) < (l.length : Int)) := by omega
        go_wp2_with fail
        go_ret
        exact ⟨rfl, (HO4.out.same hI.out).to_below⟩
end Go.Proofs.YtogccafnfpmgmaaDoor.toks
