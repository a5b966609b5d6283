/- One call of both. -/
import Derived.Test.YtaplfibhhdngbaaPool50
namespace Go.Proofs.Ytaplfibhhdngbaa.pools
open Go.RowKit Go.Proofs.Ytaplfibhhdngbaa.own Go.Proofs.Ytaplfibhhdngbaa.trees Go.Proofs.Ytaplfibhhdngbaa.rows Go.Proofs.Ytaplfibhhdngbaa.frames
variable {S R : Nat → Prop} {p x lim : Nat} {F F' : List Bool} {St St' : List Nat} {w0 w w' w2 w3 : World}
def BothE (p x lim : Nat) (w0 w : World) : Prop := ∃ F St, Both p x lim F St w0 w
theorem Two.bothE (h : Two S R p x lim F St w0 w) : BothE p x lim w0 w := ⟨F, St, S, R, h⟩
set_option maxRecDepth 100000 in
set_option maxHeartbeats 8000000 in
theorem do_any (k a n : Int) (hfk : Fits k) (hfa : Fits a) (hfn : Fits n) (h : Two S R p x lim F St w0 w) :
    Calls Try.prog 10 #[.pointer (some ⟨p, 0, none⟩), .pointer (some ⟨x, 0, none⟩), .agg #[.int .i64 k, .int .i64 a, .int .i64 n]] w fun e w' => e = .returned (.bool true) ∧ BothE p x lim w0 w' := by
  have hw1 : Only (fun _ => False) w (w.alloc (.cells #[.int .i64 k, .int .i64 a, .int .i64 n] 32)) := Only.alloc _ _ _
  have H1 := Lib.hid (h.still hw1)
  have HOP : Hid (OpAt w.heap.size a n (w.alloc (.cells #[.int .i64 k, .int .i64 a, .int .i64 n] 32))) := Lib.hid (by
    have hb := heap_alloc_new w (.cells #[.int .i64 k, .int .i64 a, .int .i64 n] 32)
    exact ⟨by rw [cell_of_blk hb]; rfl, by rw [cell_of_blk hb]; rfl⟩)
  have HNS : Hid (¬ S w.heap.size ∧ ¬ R w.heap.size) := Lib.hid ⟨fun e => by have := (h.pool.own _ e).2; omega, fun e => by have := (h.ref.own _ e).2; omega⟩
  have HFA := Lib.hid hfa
  have HFN := Lib.hid hfn
  unfold Fits at hfk hfa hfn
  clear h hw1
  by_cases k1 : k = 1
  · subst k1
    have take : ∀ (m : Int) (wA : World), m ≤ 9223372036854775807 → Two S R p x lim F St w0 wA → Calls Try.prog 12 #[.pointer (some ⟨p, 0, none⟩), .int .i64 m] wA fun e wB => e = .returned (.tuple #[.int .i64 (takeF lim F St m).1, .int .i64 (takeF lim F St m).2.1]) ∧
        Calls Try.prog 28 #[.pointer (some ⟨x, 0, none⟩), .int .i64 m] wB fun e wC => e = .returned (.tuple #[.int .i64 (takeF lim F St m).1, .int .i64 (takeF lim F St m).2.1]) ∧ BothE p x lim w0 wC := by
      intro m wA hm hT
      refine (take_p m hm hT.pool).mono ?_
      rintro e wB ⟨rfl, hp, ho⟩
      refine ⟨rfl, ?_⟩
      obtain ⟨fo, fcap, so, scap, hr⟩ := hT.ref.far ho (fun j hj e => hT.apart j e hj)
      refine (rtake_any m hm hr).mono ?_
      rintro e wC ⟨rfl, hr2, ho2⟩
      exact ⟨rfl, (hT.stepped hp ho hr2 ho2).bothE⟩
    have HT := Lib.hid take
    clear take
    by_cases hbig : 1000 < n ∧ n ≤ 1048576
    · obtain ⟨hb1, hb2⟩ := hbig
      go_enter Try.func10, Try.ntmps10
      go_wp2_with fail
      refine (HT.out 1000 _ (by omega) H1.out).mono ?_
      rintro e w5 ⟨rfl, hc⟩
      have HC := Lib.hid hc
      clear hc
      generalize (takeF lim F St 1000).1 = r1 at *
      generalize (takeF lim F St 1000).2.1 = r2 at *
      go_wp2_with fail
      refine HC.out.mono ?_
      rintro e w6 ⟨rfl, hb⟩
      have HB := Lib.hid hb
      clear hb
      go_wp2_with fail
      go_ret
      exact ⟨by simp, HB.out⟩
    · have hb3 : n ≤ 1000 ∨ 1048576 < n := by omega
      by_cases hb1 : 1000 < n
      case' pos =>
        have hb2 : ¬ (n ≤ 1048576) := by omega
        go_enter Try.func10, Try.ntmps10
        go_wp2_with fail
      case' neg =>
        go_enter Try.func10, Try.ntmps10
        go_wp2_with fail
      all_goals
        refine (HT.out n _ (by omega) H1.out).mono ?_
        rintro e w5 ⟨rfl, hc⟩
        have HC := Lib.hid hc
        clear hc
        generalize (takeF lim F St n).1 = r1 at *
        generalize (takeF lim F St n).2.1 = r2 at *
        go_wp2_with fail
        refine HC.out.mono ?_
        rintro e w6 ⟨rfl, hb⟩
        have HB := Lib.hid hb
        clear hb
        go_wp2_with fail
        go_ret
        exact ⟨by simp, HB.out⟩
  by_cases k2 : k = 2
  · subst k2
    have H1d := Lib.hid (H1.out.still (Only.drew _ _))
    have HOPd := Lib.hid (HOP.out.only (Only.drew (fun _ => False) _) (fun e => e))
    have d1 := HOPd.out.c1
    have d2 := HOPd.out.c2
    go_enter Try.func10, Try.ntmps10
    go_wp2_with fail
    go_region_law (first
      | (go_simp; go_at_call 14; refine (give_p a n H1d.out.pool).mono ?_; rintro e w5 ⟨rfl, hp5, ho5⟩
         have HP5 := Lib.hid hp5; have HO5 := Lib.hid ho5; have e1 := (HOPd.out.only ho5 HNS.out.1).c1; have e2 := (HOPd.out.only ho5 HNS.out.1).c2; clear hp5 ho5
         have HR5 := Lib.hid (H1d.out.ref.far HO5.out (fun j hj e => H1d.out.apart j e hj)))
      | (go_simp; go_at_call 29; obtain ⟨fo, fcap, so, scap, hr⟩ := HR5.out; refine (rgive_any a n hr HFA.out HFN.out).mono ?_; rintro e w6 ⟨rfl, hr6, ho6⟩
         have HB6 := Lib.hid (H1d.out.stepped HP5.out HO5.out hr6 ho6).bothE; clear hr6 ho6 hr))
    all_goals
      generalize (giveF F St a n).1 = r1 at *
      go_wp2_with fail
      go_ret
      exact ⟨by first | rfl | simp, HB6.out⟩
  by_cases k3 : k = 3
  · subst k3
    go_enter Try.func10, Try.ntmps10
    go_wp2_with fail
    refine (open_p H1.out.pool).mono ?_
    rintro e w5 ⟨rfl, hp5, ho5⟩
    have HP5 := Lib.hid hp5
    have HO5 := Lib.hid ho5
    obtain ⟨fo, fcap, so, scap, hr⟩ := H1.out.ref.far ho5 (fun j hj e => H1.out.apart j e hj)
    have HR5 := Lib.hid hr
    clear hp5 ho5 hr
    go_wp2_with fail
    refine (ropen_any HR5.out).mono ?_
    rintro e w6 ⟨rfl, hr6, ho6⟩
    have HB6 := Lib.hid (H1.out.stepped HP5.out HO5.out hr6 ho6).bothE
    clear hr6 ho6
    generalize (openF F St).1 = r1 at *
    go_wp2_with fail
    go_ret
    exact ⟨by simp, HB6.out⟩
  by_cases k4 : k = 4
  · subst k4
    go_enter Try.func10, Try.ntmps10
    go_wp2_with fail
    refine (close_p H1.out.pool).mono ?_
    rintro e w5 ⟨rfl, hp5, ho5⟩
    have HP5 := Lib.hid hp5
    have HO5 := Lib.hid ho5
    obtain ⟨fo, fcap, so, scap, hr⟩ := H1.out.ref.far ho5 (fun j hj e => H1.out.apart j e hj)
    have HR5 := Lib.hid hr
    clear hp5 ho5 hr
    go_wp2_with fail
    refine (rclose_any HR5.out).mono ?_
    rintro e w6 ⟨rfl, hr6, ho6⟩
    have HB6 := Lib.hid (H1.out.stepped HP5.out HO5.out hr6 ho6).bothE
    clear hr6 ho6
    generalize (closeF St).1 = r1 at *
    go_wp2_with fail
    go_ret
    exact ⟨by simp, HB6.out⟩
  by_cases k5 : k = 5
  · subst k5
    obtain ⟨fo, fcap, so, scap, hr⟩ := H1.out.ref
    have HR := Lib.hid hr
    clear hr
    go_enter Try.func10, Try.ntmps10
    go_wp2_with fail
    refine (rback_any HR.out).mono ?_
    rintro e w5 ⟨rfl, hr5, ho5⟩
    have HR5 := Lib.hid hr5
    have HO5 := Lib.hid ho5
    have HP5 := Lib.hid (H1.out.pool.far ho5 (fun j hj e => H1.out.apart j hj e))
    clear hr5 ho5
    go_wp2_with fail
    refine (back_p HP5.out).mono ?_
    rintro e w6 ⟨rfl, hp6, ho6⟩
    have HB6 := Lib.hid (H1.out.stepped' HR5.out HO5.out hp6 ho6).bothE
    clear hp6 ho6
    go_wp2_with fail
    go_ret
    exact ⟨rfl, HB6.out⟩
  by_cases k6 : k = 6
  · subst k6
    go_enter Try.func10, Try.ntmps10
    go_wp2_with fail
    refine (sweep_both n _ rfl H1.out).mono ?_
    rintro e w5 ⟨rfl, hb⟩
    have HB := Lib.hid hb
    clear hb
    go_wp2_with fail
    go_ret
    exact ⟨rfl, _, _, HB.out⟩
  have g1 : (k == 1) = false := by simpa using k1
  have g2 : (k == 2) = false := by simpa using k2
  have g3 : (k == 3) = false := by simpa using k3
  have g4 : (k == 4) = false := by simpa using k4
  have g5 : (k == 5) = false := by simpa using k5
  have g6 : (k == 6) = false := by simpa using k6
  clear k1 k2 k3 k4 k5 k6
  go_enter Try.func10, Try.ntmps10
  go_wp2_with fail
  go_ret
  exact ⟨rfl, H1.out.bothE⟩
end Go.Proofs.Ytaplfibhhdngbaa.pools
