/- slices.BinarySearch over the segments' starts. -/
import Derived.Test.YtaplfibhhdngbaaPool10
import Derived.Deep.LoopGhost
namespace Go.Proofs.Ytaplfibhhdngbaa.pools
open Go.RowKit Go.Proofs.Ytaplfibhhdngbaa.own Go.Proofs.Ytaplfibhhdngbaa.trees Go.Proofs.Ytaplfibhhdngbaa.rows
variable {B : Nat} {so : Option Addr} {scap : Nat} {St : List Nat} {w : World}
theorem nan_any (x : Int) (w : World) : Calls Try.prog 56 #[.int .i64 x] w fun e w' => e = .returned (.bool false) ∧ w = w' := by
  go_enter Try.func56, Try.ntmps56
  go_wp2_with fail
  go_ret
  exact ⟨by simp, rfl⟩
theorem nan_any2 (x : Int) (w : World) : Calls Try.prog 55 #[.int .i64 x] w fun e w' => e = .returned (.bool false) ∧ w = w' := by
  go_enter Try.func55, Try.ntmps55
  go_wp2_with fail
  go_ret
  exact ⟨by simp, rfl⟩
theorem less_any (x y : Int) (w : World) : Calls Try.prog 54 #[.int .i64 x, .int .i64 y] w fun e w' => e = .returned (.bool (decide (x < y))) ∧ w = w' := by
  go_enter Try.func54, Try.ntmps54
  go_wp2_with ((refine (nan_any _ _).mono ?_); rintro e w' ⟨rfl, rfl⟩)
  go_ret
  exact ⟨rfl, rfl⟩
theorem getD_le (hs : St.Pairwise (· ≤ ·)) {a b : Nat} (hab : a ≤ b) (hb : b < St.length) : St.getD a 0 ≤ St.getD b 0 := by
  rcases Nat.eq_or_lt_of_le hab with rfl | hlt
  · exact Nat.le_refl _
  · have := List.pairwise_iff_getElem.1 hs a b (by omega) hb hlt
    simpa [List.getD_eq_getElem?_getD, List.getElem?_eq_getElem hb, List.getElem?_eq_getElem (show a < St.length by omega)] using this
theorem start_cell {g : Nat} (h : RowOf enc64 1 3 B (some ⟨g, 0, none⟩) scap St w) (i : Nat) (hi : i < St.length) : w.cell? ⟨g, i, none⟩ = some (.int .i64 ((St.getD i 0 : Nat) : Int)) := by
  have hx : St[i]? = some (St.getD i 0) := by rw [List.getD_eq_getElem?_getD, List.getElem?_eq_getElem hi]; rfl
  obtain ⟨g', hg', _, hc⟩ := h.at lies64 i _ hx
  cases hg'
  have h0 := (hc 0 (by omega)).1
  simpa only [Nat.mul_one, Nat.add_zero, enc64, List.getElem?_cons_zero] using h0
set_option maxRecDepth 100000 in
set_option maxHeartbeats 4000000 in
theorem search_any {g : Nat} (x : Nat) (h : RowOf enc64 1 3 B (some ⟨g, 0, none⟩) scap St w) (hl : St.length ≤ 4096) (hx : x ≤ 1048577) (hs : St.Pairwise (· ≤ ·)) :
    Calls Try.prog 50 #[.slice (some ⟨g, 0, none⟩) St.length scap, .int .i64 x] w fun e w' => (∃ (i : Nat) (v : Value), e = .returned (.tuple #[.int .i64 i, v]) ∧ i ≤ St.length ∧ (∀ t, t < i → St.getD t 0 < x) ∧ (∀ t, i ≤ t → t < St.length → x ≤ St.getD t 0)) ∧ ∃ q, w' = w.drewN q := by
  have HS := Lib.hid (fun a b (hab : a ≤ b) (hb : b < St.length) => getD_le hs hab hb)
  have HC := Lib.hid (fun i (hi : i < St.length) => start_cell h i hi)
  clear h hs
  generalize hn : St.length = n at *
  have HN := Lib.hid hn
  clear hn
  go_enter Try.func50, Try.ntmps50
  go_wp2_with fail
  go_loopg [7, 8] n (fun gk s7 s8 wr => ∃ lo hi q : Nat, s7 = .int .i64 lo ∧ s8 = .int .i64 hi ∧ lo ≤ hi ∧ hi ≤ n ∧ hi - lo ≤ gk ∧ wr = w.drewN q ∧ Hid ((∀ t, t < lo → St.getD t 0 < x) ∧ (∀ t, hi ≤ t → t < n → x ≤ St.getD t 0)))
  case atStart => exact ⟨0, n, 0, rfl, rfl, Nat.zero_le _, Nat.le_refl _, by omega, rfl, Lib.hid ⟨fun t ht => absurd ht (Nat.not_lt_zero _), fun t h1 h2 => by omega⟩⟩
  case round =>
    obtain ⟨lo, hi, q, rfl, rfl, hlh, hin, hg, rfl, I⟩ := hrel
    by_cases hlt : lo < hi
    · have cm : w.cell? ⟨g, (lo + hi) / 2, none⟩ = some (.int .i64 ((St.getD ((lo + hi) / 2) 0 : Nat) : Int)) := HC.out _ (by omega)
      generalize hy : St.getD ((lo + hi) / 2) 0 = y at cm
      have Y := Lib.hid hy
      clear hy
      by_cases hyx : y < x
      · go_wp2_with ((refine (less_any _ _ _).mono ?_); rintro e w' ⟨rfl, rfl⟩)
        go_roundg (hi - ((lo + hi) / 2 + 1))
        case measure => omega
        case rel =>
          refine ⟨(lo + hi) / 2 + 1, hi, _, by rw [show ((lo : Int) + (hi : Int)) / 2 + 1 = (((lo + hi) / 2 + 1 : Nat) : Int) by omega], rfl, by omega, hin, Nat.le_refl _, rfl, Lib.hid ⟨fun t ht => ?_, I.out.2⟩⟩
          have := HS.out t ((lo + hi) / 2) (by omega) (by omega)
          rw [Y.out] at this
          omega
      · go_wp2_with ((refine (less_any _ _ _).mono ?_); rintro e w' ⟨rfl, rfl⟩)
        go_roundg ((lo + hi) / 2 - lo)
        case measure => omega
        case rel =>
          refine ⟨lo, (lo + hi) / 2, _, rfl, by rw [show ((lo : Int) + (hi : Int)) / 2 = (((lo + hi) / 2 : Nat) : Int) by omega], by omega, by omega, Nat.le_refl _, rfl, Lib.hid ⟨I.out.1, fun t ht htn => ?_⟩⟩
          have := HS.out ((lo + hi) / 2) t ht (by omega)
          rw [Y.out] at this
          omega
    · have : hi = lo := by omega
      subst this
      by_cases hn : hi < n
      · have cl : w.cell? ⟨g, hi, none⟩ = some (.int .i64 ((St.getD hi 0 : Nat) : Int)) := HC.out _ (by omega)
        generalize hy : St.getD hi 0 = y at cl
        clear hy
        by_cases hyx : y = x
        · go_wp2_with ((refine (nan_any2 _ _).mono ?_); rintro e w' ⟨rfl, rfl⟩)
          go_ret2
          exact ⟨⟨hi, _, rfl, hin, I.out.1, I.out.2⟩, _, rfl⟩
        · go_wp2_with ((refine (nan_any2 _ _).mono ?_); rintro e w' ⟨rfl, rfl⟩)
          go_ret2
          exact ⟨⟨hi, _, rfl, hin, I.out.1, I.out.2⟩, _, rfl⟩
      · go_wp2_with ((refine (nan_any2 _ _).mono ?_); rintro e w' ⟨rfl, rfl⟩)
        go_ret2
        exact ⟨⟨hi, _, rfl, hin, I.out.1, I.out.2⟩, _, rfl⟩
end Go.Proofs.Ytaplfibhhdngbaa.pools
