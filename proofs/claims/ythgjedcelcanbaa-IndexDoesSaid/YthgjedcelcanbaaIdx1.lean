/- Selection by keys: an entry in memory; where a place stands in a row. -/
import Derived.Test.YthgjedcelcanbaaRows
import Derived.Test.YthgjedcelcanbaaOwn
import Derived.Lib.Hide
import Derived.Deep.LoopGhost
namespace Go.Proofs.Ythgjedcelcanbaa.idx
open Go.RowKit Go.Proofs.Ythgjedcelcanbaa.own
/-- A key: its kind, a name, a number. -/
structure Ky where
  k : Int
  s : ByteArray
  n : Int
/-- An entry: its number, its key, its place. -/
structure En where
  id : Int
  key : Ky
  pl : Int
def encE (e : En) : List Value := [.int .i64 e.id, .int .i64 e.key.k, .string e.key.s, .int .i64 e.key.n, .int .i64 e.pl]
theorem liesE : Lies encE 5 := ⟨fun _ => rfl, by
  intro x u hu
  simp [encE] at hu
  rcases hu with rfl | rfl | rfl | rfl | rfl <;> rfl, by omega⟩
abbrev RowE (ao : Option Addr) (cap : Nat) (xs : List En) (w : World) : Prop := RowOf encE 5 60 0 ao cap xs w
theorem RowE.cells {ao : Option Addr} {cap : Nat} {xs : List En} {w : World} (h : RowE ao cap xs w) {t : Nat} {x : En} (hx : xs[t]? = some x) : ∃ g, ao = some ⟨g, 0, none⟩ ∧ g < w.heap.size ∧ w.cell? ⟨g, t * 5, none⟩ = some (.int .i64 x.id) ∧ w.cell? ⟨g, t * 5 + 1, none⟩ = some (.int .i64 x.key.k) ∧ w.cell? ⟨g, t * 5 + 2, none⟩ = some (.string x.key.s) ∧ w.cell? ⟨g, t * 5 + 3, none⟩ = some (.int .i64 x.key.n) ∧ w.cell? ⟨g, t * 5 + 4, none⟩ = some (.int .i64 x.pl) := by
  obtain ⟨g, rfl, _, hc⟩ := h.at liesE t x hx
  exact ⟨g, rfl, (h.head _ rfl).2.2, (hc 0 (by decide)).1, (hc 1 (by decide)).1, (hc 2 (by decide)).1, (hc 3 (by decide)).1, (hc 4 (by decide)).1⟩
theorem RowE.later {ao : Option Addr} {cap : Nat} {xs : List En} {w w' : World} (h : RowE ao cap xs w) (ho : Only (fun _ => False) w w') : RowE ao cap xs w' := h.only ho (fun _ _ e => e)
/-- The places rise. -/
def Rises (xs : List En) : Prop := xs.Pairwise (fun a b => a.pl < b.pl)
/-- How many stand at lower places. -/
def cntF (p : Int) (xs : List En) : Nat := xs.countP (fun e => decide (e.pl < p))
theorem cnt_le (p : Int) (xs : List En) : cntF p xs ≤ xs.length := List.countP_le_length
theorem cnt_at (p : Int) : ∀ (xs : List En) (i : Nat), i ≤ xs.length → (∀ t x, t < i → xs[t]? = some x → x.pl < p) → (∀ t x, i ≤ t → xs[t]? = some x → p ≤ x.pl) → cntF p xs = i := by
  intro xs
  induction xs with
  | nil => intro i hi _ _; simp at hi; simp [hi, cntF]
  | cons a r ih =>
    intro i hi h1 h2
    cases i with
    | zero =>
      have ha := h2 0 a (Nat.le_refl _) rfl
      have hr := ih 0 (Nat.zero_le _) (fun t x ht => absurd ht (Nat.not_lt_zero _)) (fun t x _ hx => h2 (t + 1) x (Nat.zero_le _) (by simpa using hx))
      unfold cntF at *
      rw [List.countP_cons_of_neg (by simp; omega), hr]
    | succ i =>
      have ha := h1 0 a (by omega) rfl
      have hr := ih i (by simpa using hi) (fun t x ht hx => h1 (t + 1) x (by omega) (by simpa using hx)) (fun t x ht hx => h2 (t + 1) x (by omega) (by simpa using hx))
      unfold cntF at *
      rw [List.countP_cons_of_pos (by simpa using ha), hr]
theorem Rises.at {xs : List En} (h : Rises xs) {i j : Nat} {x y : En} (hi : xs[i]? = some x) (hj : xs[j]? = some y) (hij : i < j) : x.pl < y.pl := by
  obtain ⟨h1, e1⟩ := List.getElem?_eq_some_iff.1 hi
  obtain ⟨h2, e2⟩ := List.getElem?_eq_some_iff.1 hj
  have := List.pairwise_iff_getElem.1 h i j h1 h2 hij
  rw [e1, e2] at this
  exact this
theorem Rises.le {xs : List En} (h : Rises xs) {i j : Nat} {x y : En} (hi : xs[i]? = some x) (hj : xs[j]? = some y) (hij : i ≤ j) : x.pl ≤ y.pl := by
  rcases Nat.eq_or_lt_of_le hij with rfl | hlt
  · rw [hi] at hj; cases hj; exact Int.le_refl _
  · exact Int.le_of_lt (h.at hi hj hlt)
def cmpF (x y : Int) : Int := if x < y then -1 else if y < x then 1 else 0
theorem nan_any (x : Int) (w : World) : Calls Try.prog 42 #[.int .i64 x] w fun e w' => e = .returned (.bool false) ∧ w' = w := by
  go_enter Try.func42, Try.ntmps42
  go_wp2_with fail
  go_ret
  exact ⟨by simp, rfl⟩
theorem compare_any (x y : Int) (w : World) : Calls Try.prog 39 #[.int .i64 x, .int .i64 y] w fun e w' => e = .returned (.int .i64 (cmpF x y)) ∧ w' = w := by
  unfold cmpF
  by_cases h1 : x < y
  · rw [if_pos h1]
    go_enter Try.func39, Try.ntmps39
    go_wp2_with ((refine (nan_any _ _).mono ?_); rintro e w' ⟨rfl, rfl⟩)
    go_ret
    exact ⟨rfl, rfl⟩
  · rw [if_neg h1]
    by_cases h2 : y < x
    · rw [if_pos h2]
      go_enter Try.func39, Try.ntmps39
      go_wp2_with ((refine (nan_any _ _).mono ?_); rintro e w' ⟨rfl, rfl⟩)
      go_ret
      exact ⟨rfl, rfl⟩
    · rw [if_neg h2]
      go_enter Try.func39, Try.ntmps39
      go_wp2_with ((refine (nan_any _ _).mono ?_); rintro e w' ⟨rfl, rfl⟩)
      go_ret
      exact ⟨rfl, rfl⟩
theorem ask_any (x : En) (p : Int) (w : World) : Calls Try.prog 38 #[.agg #[.int .i64 x.id, .int .i64 x.key.k, .string x.key.s, .int .i64 x.key.n, .int .i64 x.pl], .int .i64 p] w fun e w' => e = .returned (.int .i64 (cmpF x.pl p)) ∧ Only (fun _ => False) w w' := by
  have HO : Hid (Only (fun _ => False) w (w.alloc (.cells #[.int .i64 x.id, .int .i64 x.key.k, .string x.key.s, .int .i64 x.key.n, .int .i64 x.pl] 60))) := Lib.hid (Only.alloc _ _ _)
  have c4 : (w.alloc (.cells #[.int .i64 x.id, .int .i64 x.key.k, .string x.key.s, .int .i64 x.key.n, .int .i64 x.pl] 60)).cell? ⟨w.heap.size, 4, none⟩ = some (.int .i64 x.pl) := by rw [cell_of_blk (heap_alloc_new w _)]; rfl
  go_enter Try.func38, Try.ntmps38
  go_wp2_with fail
  refine (compare_any _ _ _).mono ?_
  rintro e w1 ⟨rfl, rfl⟩
  go_wp2_with fail
  go_ret
  exact ⟨rfl, HO.out⟩
set_option maxRecDepth 100000 in
set_option maxHeartbeats 4000000 in
theorem search_any (ao : Option Addr) (cap : Nat) (xs : List En) (p : Int) (w : World) (h : RowE ao cap xs w) (hs : Rises xs) (hl : xs.length ≤ 1000000) :
    Calls Try.prog 37 #[.slice ao xs.length cap, .int .i64 p, .func (.func 38) #[] #[]] w fun e w' => (∃ v, e = .returned (.tuple #[.int .i64 (cntF p xs), v])) ∧ Only (fun _ => False) w w' := by
  have HS := Lib.hid hs
  have HC : Hid (∀ W, Only (fun _ => False) w W → ∀ t x, xs[t]? = some x → ∃ g, ao = some ⟨g, 0, none⟩ ∧ g < W.heap.size ∧ W.cell? ⟨g, t * 5, none⟩ = some (.int .i64 x.id) ∧ W.cell? ⟨g, t * 5 + 1, none⟩ = some (.int .i64 x.key.k) ∧ W.cell? ⟨g, t * 5 + 2, none⟩ = some (.string x.key.s) ∧ W.cell? ⟨g, t * 5 + 3, none⟩ = some (.int .i64 x.key.n) ∧ W.cell? ⟨g, t * 5 + 4, none⟩ = some (.int .i64 x.pl)) := Lib.hid (fun W o t x hx => RowE.cells (h.later o) hx)
  obtain ⟨n, hn⟩ : ∃ n, n = xs.length := ⟨_, rfl⟩
  rw [← hn] at hl ⊢
  have HN := Lib.hid hn
  clear h hs hn
  go_enter Try.func37, Try.ntmps37
  go_wp2_with fail
  go_loopg [9, 10] n (fun gk s9 s10 wr => ∃ lo hi : Nat, s9 = .int .i64 lo ∧ s10 = .int .i64 hi ∧ lo ≤ hi ∧ hi ≤ n ∧ hi - lo ≤ gk ∧ Hid (Only (fun _ => False) w wr) ∧ Hid ((∀ t x, t < lo → xs[t]? = some x → x.pl < p) ∧ (∀ t x, hi ≤ t → xs[t]? = some x → p ≤ x.pl)))
  case atStart => exact ⟨0, n, rfl, rfl, Nat.zero_le _, Nat.le_refl _, by omega, Lib.hid (Only.refl _ _), Lib.hid ⟨fun t x ht => absurd ht (Nat.not_lt_zero _), fun t x h1 h2 => by
    have := (List.getElem?_eq_some_iff.1 h2).1
    have := HN.out
    omega⟩⟩
  case round =>
    obtain ⟨lo, hi, rfl, rfl, hlh, hin, hg, HO, I⟩ := hrel
    by_cases hlt : lo < hi
    · obtain ⟨y, hy⟩ : ∃ y, xs[(lo + hi) / 2]? = some y := ⟨_, List.getElem?_eq_getElem (by have := HN.out; omega)⟩
      obtain ⟨g, rfl, hgl, c0, c1, c2, c3, c4⟩ := HC.out _ HO.out _ _ hy
      have Y := Lib.hid hy
      clear hy
      by_cases hyx : y.pl < p
      · go_wp2_with fail
        refine (ask_any y p _).mono ?_
        rintro e w1 ⟨rfl, ho1⟩
        have HO1 := Lib.hid (HO.out.same ho1)
        have hc : (cmpF y.pl p) < 0 := by unfold cmpF; rw [if_pos hyx]; decide
        generalize cmpF y.pl p = cc at *
        clear ho1 c0 c1 c2 c3 c4
        go_wp2_with fail
        go_roundg (hi - ((lo + hi) / 2 + 1))
        case measure => omega
        case rel =>
          refine ⟨(lo + hi) / 2 + 1, hi, by rw [show ((lo : Int) + (hi : Int)) / 2 + 1 = (((lo + hi) / 2 + 1 : Nat) : Int) by omega], rfl, by omega, hin, Nat.le_refl _, HO1, Lib.hid ⟨fun t x ht hx => ?_, I.out.2⟩⟩
          have := HS.out.le hx Y.out (by omega)
          omega
      · go_wp2_with fail
        refine (ask_any y p _).mono ?_
        rintro e w1 ⟨rfl, ho1⟩
        have HO1 := Lib.hid (HO.out.same ho1)
        have hc : ¬ (cmpF y.pl p) < 0 := by unfold cmpF; rw [if_neg (by omega)]; split <;> decide
        generalize cmpF y.pl p = cc at *
        clear ho1 c0 c1 c2 c3 c4
        go_wp2_with fail
        go_roundg ((lo + hi) / 2 - lo)
        case measure => omega
        case rel =>
          refine ⟨lo, (lo + hi) / 2, rfl, by rw [show ((lo : Int) + (hi : Int)) / 2 = (((lo + hi) / 2 : Nat) : Int) by omega], by omega, by omega, Nat.le_refl _, HO1, Lib.hid ⟨I.out.1, fun t x ht hx => ?_⟩⟩
          have := HS.out.le Y.out hx ht
          omega
    · have : hi = lo := by omega
      subst this
      have HE : Hid (cntF p xs = hi) := Lib.hid (cnt_at p xs hi (by have := HN.out; omega) I.out.1 I.out.2)
      by_cases hn : hi < n
      · obtain ⟨y, hy⟩ : ∃ y, xs[hi]? = some y := ⟨_, List.getElem?_eq_getElem (by have := HN.out; omega)⟩
        obtain ⟨g, rfl, hgl, c0, c1, c2, c3, c4⟩ := HC.out _ HO.out _ _ hy
        clear hy
        go_wp2_with fail
        refine (ask_any y p _).mono ?_
        rintro e w1 ⟨rfl, ho1⟩
        have HO1 := Lib.hid (HO.out.same ho1)
        generalize cmpF y.pl p = cc at *
        clear ho1 c0 c1 c2 c3 c4
        go_wp2_with fail
        go_ret2
        rw [HE.out]
        exact ⟨⟨_, rfl⟩, HO1.out⟩
      · go_wp2_with fail
        go_ret2
        rw [HE.out]
        exact ⟨⟨_, rfl⟩, HO.out⟩
theorem find_any (ao : Option Addr) (cap : Nat) (xs : List En) (p : Int) (w : World) (h : RowE ao cap xs w) (hs : Rises xs) (hl : xs.length ≤ 1000000) :
    Calls Try.prog 34 #[.slice ao xs.length cap, .int .i64 p] w fun e w' => e = .returned (.int .i64 (cntF p xs)) ∧ Only (fun _ => False) w w' := by
  have H := Lib.hid (search_any ao cap xs p w h hs hl)
  clear h hs hl
  generalize xs.length = n at *
  go_enter Try.func34, Try.ntmps34
  go_wp2_with fail
  refine H.out.mono ?_
  rintro e w1 ⟨⟨v, rfl⟩, ho1⟩
  have HO := Lib.hid ho1
  clear ho1
  go_wp2_with fail
  go_ret
  exact ⟨rfl, HO.out⟩
end Go.Proofs.Ythgjedcelcanbaa.idx
