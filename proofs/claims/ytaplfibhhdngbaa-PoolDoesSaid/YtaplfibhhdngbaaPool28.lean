/- A pool through many calls; what must come of every program; the law PoolNobody, walked. -/
import Derived.Test.YtaplfibhhdngbaaPool27
namespace Go.Proofs.Ytaplfibhhdngbaa.pools
open Go.RowKit Go.Proofs.Ytaplfibhhdngbaa.own Go.Proofs.Ytaplfibhhdngbaa.trees Go.Proofs.Ytaplfibhhdngbaa.rows
/-- A pool, in a world that came of w0. -/
structure St (S : Nat → Prop) (b lim : Nat) (F : List Bool) (Ss : List Nat) (w0 w : World) : Prop where
  pool : Pool S w0.heap.size b lim F Ss w
  below : Below w0.heap.size w0 w
variable {S : Nat → Prop} {b lim : Nat} {F F' : List Bool} {Ss Ss' : List Nat} {w0 w w' : World}
theorem St.kept (h : St S b lim F Ss w0 w) (hk : Pool (Grew S w w') w0.heap.size b lim F' Ss' w' ∧ Only S w w') : St (Grew S w w') b lim F' Ss' w0 w' :=
  ⟨hk.1, h.below.trans (hk.2.below h.below.size (fun k _ e => (h.pool.own k e).1))⟩
theorem St.still (h : St S b lim F Ss w0 w) (ho : Only (fun _ => False) w w') : St S b lim F Ss w0 w' := ⟨h.pool.only ho, h.below.trans (ho.below h.below.size (fun _ _ e => e.elim))⟩
theorem St.new (h : Pool (fun j => w.heap.size ≤ j ∧ j < w'.heap.size) w.heap.size (w.heap.size + 1) lim [] [0] w' ∧ Only (fun _ => False) w w') : St (fun j => w.heap.size ≤ j ∧ j < w'.heap.size) (w.heap.size + 1) lim [] [0] w w' := ⟨h.1, h.2.to_below⟩
theorem st_take (n : Int) (h : St S b lim F Ss w0 w) (hn : n ≤ 9223372036854775807) :
    Calls Try.prog 12 #[.pointer (some ⟨b, 0, none⟩), .int .i64 n] w fun e w' => e = .returned (.tuple #[.int .i64 (takeF lim F Ss n).1, .int .i64 (takeF lim F Ss n).2.1]) ∧ St (Grew S w w') b lim (takeF lim F Ss n).2.2 Ss w0 w' ∧ Only S w w' := by
  refine (take_p n hn h.pool).mono ?_
  rintro e w' ⟨rfl, hk⟩
  exact ⟨rfl, h.kept hk, hk.2⟩
theorem st_give (a n : Int) (h : St S b lim F Ss w0 w) :
    Calls Try.prog 14 #[.pointer (some ⟨b, 0, none⟩), .int .i64 a, .int .i64 n] w fun e w' => e = .returned (.int .i64 (giveF F Ss a n).1) ∧ St (Grew S w w') b lim (giveF F Ss a n).2 Ss w0 w' ∧ Only S w w' := by
  refine (give_p a n h.pool).mono ?_
  rintro e w' ⟨rfl, hk⟩
  exact ⟨rfl, h.kept hk, hk.2⟩
theorem st_open (h : St S b lim F Ss w0 w) :
    Calls Try.prog 15 #[.pointer (some ⟨b, 0, none⟩)] w fun e w' => e = .returned (.int .i64 (openF F Ss).1) ∧ St (Grew S w w') b lim F (openF F Ss).2 w0 w' ∧ Only S w w' := by
  refine (open_p h.pool).mono ?_
  rintro e w' ⟨rfl, hk⟩
  exact ⟨rfl, h.kept hk, hk.2⟩
theorem st_close (h : St S b lim F Ss w0 w) :
    Calls Try.prog 16 #[.pointer (some ⟨b, 0, none⟩)] w fun e w' => e = .returned (.int .i64 (closeF Ss).1) ∧ St (Grew S w w') b lim F (closeF Ss).2 w0 w' ∧ Only S w w' := by
  refine (close_p h.pool).mono ?_
  rintro e w' ⟨rfl, hk⟩
  exact ⟨rfl, h.kept hk, hk.2⟩
theorem st_back (h : St S b lim F Ss w0 w) :
    Calls Try.prog 17 #[.pointer (some ⟨b, 0, none⟩)] w fun e w' => e = .returned (.int .i64 0) ∧ St (Grew S w w') b lim (F.take (lastOf Ss)) Ss w0 w' ∧ Only S w w' := by
  refine (back_p h.pool).mono ?_
  rintro e w' ⟨rfl, hk⟩
  exact ⟨rfl, h.kept hk, hk.2⟩
def f3 : List Bool := [false, false, false]
def t3 : List Bool := [true, true, true]
def q1 : List Bool := [false, false, true]
def q2 : List Bool := [false, false, true, false, false]
theorem l1 : takeF 9 [] [0] 3 = (0, 0, f3) := by kernel_rfl
theorem l2 : giveF f3 [0] 0 3 = (0, t3) := by
  unfold giveF
  rw [if_pos]
  · rfl
  · refine ⟨by decide, by decide, by decide, by decide, ⟨0, ⟨by decide, by decide, fun t h1 h2 => by simp at h2; omega⟩, by decide⟩, fun j h1 h2 => ?_⟩
    have hj : j = 0 ∨ j = 1 ∨ j = 2 := by
      have : j < 0 + 3 := h2
      omega
    rcases hj with rfl | rfl | rfl <;> rfl
theorem l3 : takeF 9 t3 [0] 2 = (0, 0, q1) := by kernel_rfl
theorem l4 : takeF 9 q1 [0] 2 = (3, 0, q2) := by kernel_rfl
theorem l5 : runsI q2 [0] 0 = [(2, 1)] := by kernel_rfl
theorem l6 : isFree q2 2 = true := by kernel_rfl
theorem l7 : isFree q2 1 = false := by kernel_rfl
theorem l8 : ((count q2 : Int) + (9 : Nat) - q2.length) = 5 := by kernel_rfl
theorem l9 : openF q2 [0] = (0, [0, 5]) := by kernel_rfl
theorem l10 : SegI [0, 5] q2 4 0 := .inr ⟨by decide, 0, rfl, by decide, by decide, fun t h1 h2 => by
  have ht : t = 1 := by simp at h2; omega
  subst ht
  decide⟩
theorem l11 : closeF [0, 5] = (0, [0]) := by kernel_rfl
theorem l12 : closeF [0] = (4, [0]) := by kernel_rfl
theorem l13 : q2.take (lastOf [0]) = [] := by kernel_rfl
set_option maxRecDepth 100000 in
set_option maxHeartbeats 4000000 in
theorem lives_any (w : World) : Calls Try.prog 9 #[] w fun e w' => e = .returned (.bool true) ∧ Below w.heap.size w w' := by
  go_enter Try.func9, Try.ntmps9
  go_wp2_with fail
  refine (new_ok 9 (by omega) _).mono ?_
  rintro e w1 ⟨rfl, t⟩
  have T1 := Lib.hid (St.new t)
  clear t
  generalize w.heap.size + 1 = b at *
  go_wp2_with fail
  refine (st_take 3 T1.out (by omega)).mono ?_
  rintro e w2 ⟨rfl, t, _⟩
  rw [l1] at t ⊢
  have T2 := Lib.hid t
  clear t T1
  go_wp2_with fail
  refine (st_give 0 3 T2.out).mono ?_
  rintro e w3 ⟨rfl, t, _⟩
  rw [l2] at t ⊢
  have T3 := Lib.hid t
  clear t T2
  go_wp2_with fail
  refine (st_take 2 T3.out (by omega)).mono ?_
  rintro e w4 ⟨rfl, t, _⟩
  rw [l3] at t ⊢
  have T4 := Lib.hid t
  clear t T3
  go_wp2_with fail
  refine (st_take 2 T4.out (by omega)).mono ?_
  rintro e w5 ⟨rfl, t, _⟩
  rw [l4] at t ⊢
  have T5 := Lib.hid t
  clear t T4
  go_wp2_with fail
  refine (runs_p 0 T5.out.pool).mono ?_
  rintro e w6 ⟨ro, rcap, rfl, hrow, ho⟩
  rw [l5] at hrow ⊢
  have T6 := Lib.hid (T5.out.still ho)
  obtain ⟨g, hg, hgb, hc⟩ := hrow.at liesR 0 (2, 1) rfl
  subst hg
  have r0 := (hc 0 (by omega)).1
  have r1 := (hc 1 (by omega)).1
  simp only [encR, List.getElem?_cons_zero, List.getElem?_cons_succ, Nat.zero_mul, Nat.zero_add] at r0 r1
  clear hrow ho hc T5
  go_wp2_with fail
  refine (new_bad (-1) (by omega) _).mono ?_
  rintro e w7 ⟨rfl, rfl⟩
  go_wp2_with fail
  refine (free_p 2 T6.out.pool).mono ?_
  rintro e w7 ⟨rfl, ho⟩
  rw [l6]
  have T7 := Lib.hid (T6.out.still ho)
  clear ho r0 r1 T6
  go_wp2_with fail
  refine (free_p 1 T7.out.pool).mono ?_
  rintro e w8 ⟨rfl, ho⟩
  rw [l7]
  have T8 := Lib.hid (T7.out.still ho)
  clear ho T7
  go_wp2_with fail
  refine (top_p T8.out.pool).mono ?_
  rintro e w9 ⟨rfl, rfl⟩
  rw [show ((q2.length : Nat) : Int) = 5 from rfl]
  go_wp2_with fail
  refine (limit_p T8.out.pool).mono ?_
  rintro e w9 ⟨rfl, rfl⟩
  go_wp2_with fail
  refine (left_p T8.out.pool).mono ?_
  rintro e w9 ⟨rfl, N, rfl⟩
  rw [l8]
  have T9 := Lib.hid (T8.out.still (Only.drewN _ _ N))
  clear T8
  generalize w8.drewN N = w9 at *
  go_wp2_with fail
  refine (st_open T9.out).mono ?_
  rintro e w10 ⟨rfl, t, _⟩
  rw [l9] at t ⊢
  have T10 := Lib.hid t
  clear t T9
  go_wp2_with fail
  refine (segment_p 4 T10.out.pool).mono ?_
  rintro e w11 ⟨⟨s, rfl, hs⟩, N, rfl⟩
  obtain rfl := hs.uniq l10
  have T11 := Lib.hid (T10.out.still (Only.drewN _ _ N))
  clear T10 hs
  generalize w10.drewN N = w11 at *
  go_wp2_with fail
  refine (starts_p T11.out.pool).mono ?_
  rintro e w12 ⟨ro, rcap2, rfl, _, ho⟩
  rw [show ([0, 5] : List Nat).length = 2 from rfl]
  have T12 := Lib.hid (T11.out.still ho)
  clear ho T11
  go_wp2_with fail
  refine (st_close T12.out).mono ?_
  rintro e w13 ⟨rfl, t, _⟩
  rw [l11] at t ⊢
  have T13 := Lib.hid t
  clear t T12
  go_wp2_with fail
  refine (st_close T13.out).mono ?_
  rintro e w14 ⟨rfl, t, _⟩
  rw [l12] at t ⊢
  have T14 := Lib.hid t
  clear t T13
  go_wp2_with fail
  refine (st_back T14.out).mono ?_
  rintro e w15 ⟨rfl, t, _⟩
  rw [l13] at t
  have T15 := Lib.hid t
  clear t T14
  go_wp2_with fail
  refine (top_p T15.out.pool).mono ?_
  rintro e w16 ⟨rfl, rfl⟩
  rw [show ((([] : List Bool).length : Nat) : Int) = 0 from rfl]
  go_wp2_with fail
  go_ret
  exact ⟨rfl, T15.out.below⟩
end Go.Proofs.Ytaplfibhhdngbaa.pools
