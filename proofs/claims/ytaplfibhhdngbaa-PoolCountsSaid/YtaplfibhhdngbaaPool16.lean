/- No row is long enough, and no more cells may be. -/
import Derived.Test.YtaplfibhhdngbaaPool15
namespace Go.Proofs.Ytaplfibhhdngbaa.pools
open Go.RowKit Go.Proofs.Ytaplfibhhdngbaa.own Go.Proofs.Ytaplfibhhdngbaa.trees Go.Proofs.Ytaplfibhhdngbaa.rows
variable {Sm S : Nat → Prop} {B b k sz : Nat} {so : Option Addr} {scap : Nat} {ao : Option Addr} {cap : Nat} {T : List Int} {f : Nat → Nat} {lim : Nat} {F : List Bool} {St : List Nat} {w w' : World} {o : Nat}
theorem first_none (n a : Nat) (hn : 1 ≤ n) (hn1 : n ≤ 9223372036854775807) (h : PoolAt Sm S B b k sz so scap ao cap T f lim F St w) (hz : ∀ q, a ≤ q → f q < n) :
    Calls Try.prog 38 #[.pointer (some ⟨b, 3, none⟩), .int .i64 a, .int .i64 n] w fun e w' => e = .returned (.int .i64 (-1)) ∧ w' = w := by
  rcases Nat.eq_zero_or_pos sz with e | e
  · refine (first_out a n h.c3 (by omega)).mono ?_
    rintro e w' ⟨rfl, rfl⟩
    exact ⟨rfl, rfl⟩
  · refine (first_f a n (h.runsF e) hn hn1).mono ?_
    rintro e w' ⟨⟨r, rfl, hr⟩, rfl⟩
    rcases hr with ⟨rfl, _⟩ | ⟨p, rfl, g1, g2, _⟩
    · exact ⟨rfl, rfl⟩
    · have := hz p g1; omega
set_option maxRecDepth 100000 in
theorem take_full (n : Nat) (hn : 1 ≤ n) (hn1 : n ≤ 9223372036854775807) (h : PoolAt Sm S B b k sz so scap ao cap T f lim F St w) (hz : ∀ q, lastOf St ≤ q → f q < n) (hf : lim - F.length < n) :
    Calls Try.prog 12 #[.pointer (some ⟨b, 0, none⟩), .int .i64 n] w fun e w' => e = .returned (.tuple #[.int .i64 0, .int .i64 2]) ∧ ∃ N, w' = w.drewN N := by
  have HC := Lib.hid (closed_no h)
  have H := Lib.hid h
  have hone := h.one
  have hsg := h.segs
  have hlim := h.limit
  have c0 := h.c0
  have c1 := h.c1
  have c2 := h.c2
  obtain ⟨g, rfl, _⟩ := h.start 0 0 h.first
  have cs := start_cell h.starts (St.length - 1) (by omega)
  change w.cell? _ = some (.int .i64 (lastOf St : Int)) at cs
  have hn2 : ¬ ((n : Int) < 1) := by omega
  have HQ1 : Hid (∀ N, Calls Try.prog 39 #[.pointer (some ⟨b, 0, none⟩)] (w.drewN N) fun e w' => e = .returned (.int .i64 ((St.length - 1 : Nat) : Int)) ∧ w' = w.drewN N) := Lib.hid (fun N => (last_seg (H.out.drewN N)).mono (fun _ _ hh => ⟨hh.1, hh.2.symm⟩))
  have HQ2 : Hid (∀ N, Calls Try.prog 38 #[.pointer (some ⟨b, 3, none⟩), .int .i64 (lastOf St), .int .i64 n] (w.drewN N) fun e w' => e = .returned (.int .i64 (-1)) ∧ w' = w.drewN N) := Lib.hid (fun N => first_none n (lastOf St) hn hn1 (H.out.drewN N) hz)
  have hi1 : ((St.length - 1 : Nat) : Int) < (St.length : Int) := by omega
  have hfi : (n : Int) > (lim : Int) - (F.length : Int) := by omega
  clear h hz
  generalize hm : St.length - 1 = m at *
  generalize lastOf St = s0 at *
  generalize F.length = len at *
  go_enter Try.func12, Try.ntmps12
  go_wp2_with fail
  refine HC.out.mono ?_
  rintro e w1 ⟨rfl, rfl⟩
  go_wp2_with fail
  go_quiet (first | (go_at_call 39; exact Calls.quiet_of_same (HQ1.out _)) | (go_at_call 38; exact Calls.quiet_of_same (HQ2.out _)))
  go_wp2_with fail
  first
    | (go_ret2; exact ⟨rfl, _, rfl⟩)
    | (go_quiet (fail); go_wp2_with fail; go_ret2; exact ⟨rfl, _, by first | rfl | rw [World.drewN_drewN]⟩)
end Go.Proofs.Ytaplfibhhdngbaa.pools
