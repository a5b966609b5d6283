/- The law PoolDoes, walked. -/
import Derived.Test.YtaplfibhhdngbaaPool46
import Derived.Test.YtaplfibhhdngbaaPool47
import Derived.Test.YtaplfibhhdngbaaPool48
import Derived.Test.YtaplfibhhdngbaaPool51
namespace Go.Proofs.Ytaplfibhhdngbaa.pools
open Go.RowKit Go.Proofs.Ytaplfibhhdngbaa.own Go.Proofs.Ytaplfibhhdngbaa.trees Go.Proofs.Ytaplfibhhdngbaa.rows Go.Proofs.Ytaplfibhhdngbaa.frames
variable {S R : Nat → Prop} {p x lim : Nat} {F F' : List Bool} {St St' : List Nat} {w0 w w' w2 w3 : World}
theorem alike_all (a : Int) (h : Two S R p x lim F St w0 w) :
    Calls Try.prog 11 #[.pointer (some ⟨p, 0, none⟩), .pointer (some ⟨x, 0, none⟩), .int .i64 a] w fun e w' => e = .returned (.bool true) ∧ Two S R p x lim F St w0 w' := by
  obtain ⟨fo, fcap, so, scap, hr⟩ := h.ref
  have all : Calls Try.prog 11 #[.pointer (some ⟨p, 0, none⟩), .pointer (some ⟨x, 0, none⟩), .int .i64 a] w fun e w' => e = .returned (.bool true) ∧ Only (fun _ => False) w w' := by
    by_cases h1 : a < 0
    · exact alike_neg a h1 h.pool hr
    · by_cases h2 : a < (F.length : Int)
      · exact alike_in a ⟨by omega, h2⟩ h.pool hr
      · exact alike_big a (by omega) h.pool hr
  refine all.mono ?_
  rintro e w' ⟨rfl, ho⟩
  exact ⟨rfl, h.still ho⟩
set_option maxRecDepth 100000 in
set_option maxHeartbeats 8000000 in
theorem does_yes (lim : Nat) (hl : lim ≤ 5000) (l0 : Int) (hl0 : l0 = lim ∨ (5000 < l0 ∧ l0 ≤ 1048576 ∧ lim = 5000)) (ao : Option Addr) (cp : Nat) (os : List OpP) (w : World) (hos : ArgOps w ao os) (hol : os.length ≤ maxLen) :
    Calls Try.prog 3 #[.int .i64 l0, .slice ao os.length cp] w fun e w' => e = .returned (.bool true) ∧ Below w.heap.size w w' := by
  have HA := Lib.hid hos
  unfold maxLen at hol
  clear hos
  rcases hl0 with hl0 | ⟨h1, h2, h3⟩
  case' inl =>
    subst hl0
    have hx : ¬ ((lim : Int) > 5000) := by omega
    go_enter Try.func3, Try.ntmps3
    go_wp2_with fail
  case' inr =>
    have hx : (5000 : Int) = (lim : Int) := by omega
    have HX := Lib.hid hx
    clear hx h3
    go_enter Try.func3, Try.ntmps3
    go_wp2_with fail
    rw [HX.out]
  all_goals
    refine (new_ok lim (by omega) _).mono ?_
    rintro e w1 ⟨rfl, hp1, ho1⟩
    have HP1 := Lib.hid hp1
    have HO1 := Lib.hid ho1
    have hs1 := ho1.size
    clear hp1 ho1
    go_wp2_with fail
    refine (rnew_ok lim (by omega) _).mono ?_
    rintro e w2 ⟨rfl, hr2, ho2⟩
    have T2 : Hid (Two (fun j => w.heap.size ≤ j ∧ j < w1.heap.size) (fun j => w1.heap.size ≤ j ∧ j < w2.heap.size) (w.heap.size + 1) (w1.heap.size + 1) lim [] [0] w w2) := Lib.hid ⟨HP1.out.only ho2, by
      obtain ⟨fo, fcap, so, scap, hr⟩ := hr2
      exact ⟨fo, fcap, so, scap, ⟨hr.blk, World.ownsRow.mono hr.free hs1, World.ownsRow.mono hr.starts hs1, hr.inR, fun j hj => by have := hr.own j hj; omega, hr.apart, hr.facts⟩⟩, fun j h1 h2 => by omega, HO1.out.to_below.trans (ho2.below hs1 (fun _ _ e => e.elim))⟩
    clear hr2 ho2 HP1
    generalize w.heap.size + 1 = p at *
    generalize w1.heap.size + 1 = x at *
    go_wp2_with fail
    refine (lives_any _).mono ?_
    rintro e w3 ⟨rfl, bd⟩
    have T3 : Hid (BothE p x lim w w3) := Lib.hid (T2.out.still (Only.of_below bd _)).bothE
    clear bd T2
    go_wp2_with fail
    go_loopw [8] (fun i wr => ∃ k : Nat, i = .int .i64 k ∧ k ≤ os.length ∧ Hid (BothE p x lim w wr)) (fun i _ => os.length - (intOf i).toNat)
    case atStart => exact ⟨0, rfl, by omega, T3⟩
    case round =>
      obtain ⟨k, rfl, hk, HI⟩ := hrel
      obtain ⟨F, St, S, R, hT⟩ := HI.out
      have HT := Lib.hid hT
      have HB := Lib.hid hT.below
      clear hT HI
      by_cases hlt : k < os.length
      · obtain ⟨b', off, ⟨ok, oa, on⟩, ho, hao, hfk, hfa, hfn, hcell⟩ := HA.out.cell k hlt
        subst hao
        simp only at hfk hfa hfn hcell
        have HCL := Lib.hid hcell
        have hkl : (k : Int) < (os.length : Int) := by omega
        have hk0 : (0 : Int) ≤ (k : Int) := by omega
        clear ho
        by_cases h60 : k < 50
        · obtain ⟨c0, c1, c2⟩ := hcell _ HT.out.below
          clear hcell
          go_wp2_with fail
          refine (do_any ok oa on hfk hfa hfn HT.out).mono ?_
          rintro e w5 ⟨rfl, hb⟩
          obtain ⟨F5, St5, S5, R5, h5⟩ := hb
          have H5 := Lib.hid h5
          clear c0 c1 c2 h5
          obtain ⟨c0, c1, c2⟩ := HCL.out _ H5.out.below
          go_wp2_with fail
          refine (alike_all oa H5.out).mono ?_
          rintro e w6 ⟨rfl, h6⟩
          have H6 := Lib.hid h6.bothE
          clear c0 c1 c2 h6
          go_wp2_with fail
          go_roundw
          case rel => exact ⟨k + 1, by go_num, by omega, H6⟩
          case measure => simp [intOf]; omega
        · have hk6 : ¬ ((k : Int) < 50) := by omega
          clear hcell
          go_wp2_with fail
          go_ret
          exact ⟨rfl, HB.out⟩
      · have hk6 : ¬ ((k : Int) < (os.length : Int)) := by omega
        go_wp2_with fail
        go_ret
        exact ⟨rfl, HB.out⟩
set_option maxRecDepth 100000 in
set_option maxHeartbeats 8000000 in
theorem does_no (l0 : Int) (h0 : l0 < 0 ∨ 1048576 < l0) (ao : Option Addr) (cp : Nat) (os : List OpP) (w : World) (hol : os.length ≤ maxLen) :
    Calls Try.prog 3 #[.int .i64 l0, .slice ao os.length cp] w fun e w' => e = .returned (.bool true) ∧ Below w.heap.size w w' := by
  unfold maxLen at hol
  have hbad : ¬ (0 ≤ l0 ∧ l0 ≤ 1048576) := by omega
  have HBad := Lib.hid hbad
  clear hbad
  by_cases hb : l0 > 5000
  case' pos =>
    have hb2 : ¬ (l0 ≤ 1048576) := by omega
    go_enter Try.func3, Try.ntmps3
    go_wp2_with fail
  case' neg =>
    go_enter Try.func3, Try.ntmps3
    go_wp2_with fail
  all_goals
    refine (new_bad l0 HBad.out _).mono ?_
    rintro e w1 ⟨rfl, rfl⟩
    go_wp2_with fail
    refine (rnew_bad l0 HBad.out _).mono ?_
    rintro e w1 ⟨rfl, rfl⟩
    go_wp2_with fail
    refine (lives_any _).mono ?_
    rintro e w3 ⟨rfl, bd⟩
    have HB := Lib.hid bd
    clear bd
    go_wp2_with fail
    by_cases hos0 : (0 : Int) < (os.length : Int)
    · refine wp_loop_rounds 1 ?_
      rw [rounds_succ]
      go_wp2_with fail
      go_ret
      exact ⟨rfl, HB.out⟩
    · refine wp_loop_rounds 1 ?_
      rw [rounds_succ]
      go_wp2_with fail
      go_ret
      exact ⟨rfl, HB.out⟩
theorem law_does (l0 : Int) (ao : Option Addr) (cp : Nat) (os : List OpP) (w : World) (hos : ArgOps w ao os) (hol : os.length ≤ maxLen) :
    Calls Try.prog 3 #[.int .i64 l0, .slice ao os.length cp] w fun e w' => e = .returned (.bool true) ∧ Below w.heap.size w w' := by
  by_cases h1 : l0 < 0 ∨ 1048576 < l0
  · exact does_no l0 h1 ao cp os w hol
  · by_cases h2 : l0 ≤ 5000
    · exact does_yes l0.toNat (by omega) l0 (.inl (by omega)) ao cp os w hos hol
    · exact does_yes 5000 (by omega) l0 (.inr ⟨by omega, by omega, rfl⟩) ao cp os w hos hol
end Go.Proofs.Ytaplfibhhdngbaa.pools
