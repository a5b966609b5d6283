/- Is a cell free?, and what follows: 6 texts in one. -/
import Derived.Test.YtaplfibhhdngbaaPool9
import Derived.Deep.LoopGhost
/- Is a cell free? -/
namespace Go.Proofs.Ytaplfibhhdngbaa.pools
section
open Go.RowKit Go.Proofs.Ytaplfibhhdngbaa.own Go.Proofs.Ytaplfibhhdngbaa.trees Go.Proofs.Ytaplfibhhdngbaa.rows
variable {Sm S : Nat → Prop} {B b k sz : Nat} {so : Option Addr} {scap : Nat} {ao : Option Addr} {cap : Nat} {T : List Int} {f : Nat → Nat} {lim : Nat} {F : List Bool} {St : List Nat} {w w' : World}
theorem PoolAt.only (h : PoolAt Sm S B b k sz so scap ao cap T f lim F St w) (ho : Only (fun _ => False) w w') : PoolAt Sm S B b k sz so scap ao cap T f lim F St w' := by
  refine ⟨?_, h.starts.only ho (fun _ _ e => e), h.most.only ho (fun _ _ e => e), h.tree, h.few, h.small, h.leaf, h.rest, h.inv, h.room, h.limit, h.first, h.rising, h.below, h.segs, h.inS, fun j hj => ?_, h.apart⟩
  · rw [ho.block b (h.own b h.inS.1).2 (fun e => e)]; exact h.blk
  · have := h.own j hj
    exact ⟨this.1, Nat.lt_of_lt_of_le this.2 ho.size⟩
/-- The cell's answer. -/
def isFree (F : List Bool) (a : Int) : Bool := if 0 ≤ a then F.getD a.toNat false else false
set_option maxRecDepth 100000 in
theorem free_any (a : Int) (h : PoolAt Sm S B b k sz so scap ao cap T f lim F St w) :
    Calls Try.prog 19 #[.pointer (some ⟨b, 0, none⟩), .int .i64 a] w fun e w' => e = .returned (.bool (isFree F a)) ∧ Only (fun _ => False) w w' := by
  have H := Lib.hid h
  have HC := Lib.hid (closed_no h)
  have HH := Lib.hid (has_any h a)
  by_cases hin : 0 ≤ a ∧ a < (F.length : Int)
  · obtain ⟨n, rfl⟩ : ∃ n : Nat, a = n := ⟨a.toNat, by omega⟩
    have hn : n < F.length := by omega
    have hr := h.room
    have hsz : 0 < sz := by omega
    have hf := h.few
    have HR := Lib.hid (h.runsF hsz)
    have e1 : isFree F (n : Int) = F.getD n false := by unfold isFree; rw [if_pos (by omega)]; rfl
    rw [e1]
    have hd : decide (0 ≤ (n : Int) ∧ (n : Int) < (F.length : Int)) = true := by simp; omega
    rw [hd] at HH
    have HI := Lib.hid h.inv
    have HSM := Lib.hid (fun q => show f q ≤ 1048576 from by
      rcases Nat.lt_or_ge q sz with hq | hq
      · have := h.leaf q hq; have := h.small (sz + q); omega
      · rw [h.rest q hq]; omega)
    clear h hd e1 hin
    go_enter Try.func19, Try.ntmps19
    go_wp2_with fail
    refine HC.out.mono ?_
    rintro e w1 ⟨rfl, rfl⟩
    go_wp2_with fail
    refine HH.out.mono ?_
    rintro e w1 ⟨rfl, rfl⟩
    go_wp2_with fail
    refine (last_f n HR.out (by omega)).mono ?_
    rintro e w1 ⟨⟨r, rfl, hr⟩, rfl⟩
    rcases hr with ⟨rfl, hz⟩ | ⟨p, rfl, h1, h2, h3⟩
    · have hF : F.getD n false = false := HI.out.none_tells (fun q hq => hz q hq)
      go_wp2_with fail
      go_ret
      exact ⟨by rw [hF]; rfl, Only.refl _ _⟩
    · have hF := HI.out.tells h1 h2 h3
      have hs := HSM.out p
      have hpm : ((p : Int) == -1) = false := by simp
      go_wp2_with fail
      refine (at_f p (by omega) HR.out).mono ?_
      rintro e w1 ⟨rfl, ho⟩
      have hx : ((n : Int) < (p : Int) + (f p : Int)) ↔ n < p + f p := by omega
      have hans : decide ((n : Int) < (p : Int) + (f p : Int)) = F.getD n false := by
        cases hb : F.getD n false with
        | true => simp only [hb, true_iff] at hF; simp; omega
        | false => simp only [hb] at hF; simp at hF; simp; omega
      clear hx hF h3 h2
      generalize f p = c at *
      have hpm2 : ((p : Int) != -1) = true := by simp
      go_wp2_with fail
      go_ret
      refine ⟨?_, ho⟩
      first | exact congrArg (fun x => Ending.returned (Value.bool x)) hans | (simp [hans]; rw [List.getElem?_eq_getElem hn]; rfl)
  · have e1 : isFree F a = false := by
      unfold isFree
      split
      · rw [List.getD_eq_getElem?_getD, List.getElem?_eq_none (by omega)]; rfl
      · rfl
    rw [e1]
    have hd : decide (0 ≤ a ∧ a < (F.length : Int)) = false := by simpa using hin
    rw [hd] at HH
    clear h hin e1 hd
    go_enter Try.func19, Try.ntmps19
    go_wp2_with fail
    refine HC.out.mono ?_
    rintro e w1 ⟨rfl, rfl⟩
    go_wp2_with fail
    refine HH.out.mono ?_
    rintro e w1 ⟨rfl, rfl⟩
    go_wp2_with fail
    go_ret
    exact ⟨rfl, Only.refl _ _⟩
end
end Go.Proofs.Ytaplfibhhdngbaa.pools
/- slices.BinarySearch over the segments' starts. -/
namespace Go.Proofs.Ytaplfibhhdngbaa.pools
section
open Go.RowKit Go.Proofs.Ytaplfibhhdngbaa.own Go.Proofs.Ytaplfibhhdngbaa.trees Go.Proofs.Ytaplfibhhdngbaa.rows
variable {B : Nat} {so : Option Addr} {scap : Nat} {St : List Nat} {w : World}
theorem nan_any (x : Int) (w : World) : Calls Try.prog 56 #[.int .i64 x] w fun e w' => e = .returned (.bool false) ∧ w = w' := by
  go_enter Try.func56, Try.ntmps56
  go_wp2_with fail
  go_ret
  exact ⟨by simp, rfl⟩
theorem nan_any2 (x : Int) (w : World) : Calls Try.prog 55 #[.int .i64 x] w fun e w' => e = .returned (.bool false) ∧ w = w' := by
  go_enter Try.func55, Try.ntmps55
  go_wp2_with fail
  go_ret
  exact ⟨by simp, rfl⟩
theorem less_any (x y : Int) (w : World) : Calls Try.prog 54 #[.int .i64 x, .int .i64 y] w fun e w' => e = .returned (.bool (decide (x < y))) ∧ w = w' := by
  go_enter Try.func54, Try.ntmps54
  go_wp2_with ((refine (nan_any _ _).mono ?_); rintro e w' ⟨rfl, rfl⟩)
  go_ret
  exact ⟨rfl, rfl⟩
theorem getD_le (hs : St.Pairwise (· ≤ ·)) {a b : Nat} (hab : a ≤ b) (hb : b < St.length) : St.getD a 0 ≤ St.getD b 0 := by
  rcases Nat.eq_or_lt_of_le hab with rfl | hlt
  · exact Nat.le_refl _
  · have := List.pairwise_iff_getElem.1 hs a b (by omega) hb hlt
    simpa [List.getD_eq_getElem?_getD, List.getElem?_eq_getElem hb, List.getElem?_eq_getElem (show a < St.length by omega)] using this
theorem start_cell {g : Nat} (h : RowOf enc64 1 3 B (some ⟨g, 0, none⟩) scap St w) (i : Nat) (hi : i < St.length) : w.cell? ⟨g, i, none⟩ = some (.int .i64 ((St.getD i 0 : Nat) : Int)) := by
  have hx : St[i]? = some (St.getD i 0) := by rw [List.getD_eq_getElem?_getD, List.getElem?_eq_getElem hi]; rfl
  obtain ⟨g', hg', _, hc⟩ := h.at lies64 i _ hx
  cases hg'
  have h0 := (hc 0 (by omega)).1
  simpa only [Nat.mul_one, Nat.add_zero, enc64, List.getElem?_cons_zero] using h0
set_option maxRecDepth 100000 in
set_option maxHeartbeats 4000000 in
theorem search_any {g : Nat} (x : Nat) (h : RowOf enc64 1 3 B (some ⟨g, 0, none⟩) scap St w) (hl : St.length ≤ 4096) (hx : x ≤ 1048577) (hs : St.Pairwise (· ≤ ·)) :
    Calls Try.prog 50 #[.slice (some ⟨g, 0, none⟩) St.length scap, .int .i64 x] w fun e w' => (∃ (i : Nat) (v : Value), e = .returned (.tuple #[.int .i64 i, v]) ∧ i ≤ St.length ∧ (∀ t, t < i → St.getD t 0 < x) ∧ (∀ t, i ≤ t → t < St.length → x ≤ St.getD t 0)) ∧ ∃ q, w' = w.drewN q := by
  have HS := Lib.hid (fun a b (hab : a ≤ b) (hb : b < St.length) => getD_le hs hab hb)
  have HC := Lib.hid (fun i (hi : i < St.length) => start_cell h i hi)
  clear h hs
  generalize hn : St.length = n at *
  have HN := Lib.hid hn
  clear hn
  go_enter Try.func50, Try.ntmps50
  go_wp2_with fail
  go_loopg [7, 8] n (fun gk s7 s8 wr => ∃ lo hi q : Nat, s7 = .int .i64 lo ∧ s8 = .int .i64 hi ∧ lo ≤ hi ∧ hi ≤ n ∧ hi - lo ≤ gk ∧ wr = w.drewN q ∧ Hid ((∀ t, t < lo → St.getD t 0 < x) ∧ (∀ t, hi ≤ t → t < n → x ≤ St.getD t 0)))
  case atStart => exact ⟨0, n, 0, rfl, rfl, Nat.zero_le _, Nat.le_refl _, by omega, rfl, Lib.hid ⟨fun t ht => absurd ht (Nat.not_lt_zero _), fun t h1 h2 => by omega⟩⟩
  case round =>
    obtain ⟨lo, hi, q, rfl, rfl, hlh, hin, hg, rfl, I⟩ := hrel
    by_cases hlt : lo < hi
    · have cm : w.cell? ⟨g, (lo + hi) / 2, none⟩ = some (.int .i64 ((St.getD ((lo + hi) / 2) 0 : Nat) : Int)) := HC.out _ (by omega)
      generalize hy : St.getD ((lo + hi) / 2) 0 = y at cm
      have Y := Lib.hid hy
      clear hy
      by_cases hyx : y < x
      · go_wp2_with ((refine (less_any _ _ _).mono ?_); rintro e w' ⟨rfl, rfl⟩)
        go_roundg (hi - ((lo + hi) / 2 + 1))
        case measure => omega
        case rel =>
          refine ⟨(lo + hi) / 2 + 1, hi, _, by rw [show ((lo : Int) + (hi : Int)) / 2 + 1 = (((lo + hi) / 2 + 1 : Nat) : Int) by omega], rfl, by omega, hin, Nat.le_refl _, rfl, Lib.hid ⟨fun t ht => ?_, I.out.2⟩⟩
          have := HS.out t ((lo + hi) / 2) (by omega) (by omega)
          rw [Y.out] at this
          omega
      · go_wp2_with ((refine (less_any _ _ _).mono ?_); rintro e w' ⟨rfl, rfl⟩)
        go_roundg ((lo + hi) / 2 - lo)
        case measure => omega
        case rel =>
          refine ⟨lo, (lo + hi) / 2, _, rfl, by rw [show ((lo : Int) + (hi : Int)) / 2 = (((lo + hi) / 2 : Nat) : Int) by omega], by omega, by omega, Nat.le_refl _, rfl, Lib.hid ⟨I.out.1, fun t ht htn => ?_⟩⟩
          have := HS.out ((lo + hi) / 2) t ht (by omega)
          rw [Y.out] at this
          omega
    · have : hi = lo := by omega
      subst this
      by_cases hn : hi < n
      · have cl : w.cell? ⟨g, hi, none⟩ = some (.int .i64 ((St.getD hi 0 : Nat) : Int)) := HC.out _ (by omega)
        generalize hy : St.getD hi 0 = y at cl
        clear hy
        by_cases hyx : y = x
        · go_wp2_with ((refine (nan_any2 _ _).mono ?_); rintro e w' ⟨rfl, rfl⟩)
          go_ret2
          exact ⟨⟨hi, _, rfl, hin, I.out.1, I.out.2⟩, _, rfl⟩
        · go_wp2_with ((refine (nan_any2 _ _).mono ?_); rintro e w' ⟨rfl, rfl⟩)
          go_ret2
          exact ⟨⟨hi, _, rfl, hin, I.out.1, I.out.2⟩, _, rfl⟩
      · go_wp2_with ((refine (nan_any2 _ _).mono ?_); rintro e w' ⟨rfl, rfl⟩)
        go_ret2
        exact ⟨⟨hi, _, rfl, hin, I.out.1, I.out.2⟩, _, rfl⟩
end
end Go.Proofs.Ytaplfibhhdngbaa.pools
/- Which segment has a cell, and where a segment ends. -/
namespace Go.Proofs.Ytaplfibhhdngbaa.pools
section
open Go.RowKit Go.Proofs.Ytaplfibhhdngbaa.own Go.Proofs.Ytaplfibhhdngbaa.trees Go.Proofs.Ytaplfibhhdngbaa.rows
variable {Sm S : Nat → Prop} {B b k sz : Nat} {so : Option Addr} {scap : Nat} {ao : Option Addr} {cap : Nat} {T : List Int} {f : Nat → Nat} {lim : Nat} {F : List Bool} {St : List Nat} {w w' : World}
/-- The last segment that begins at a or ahead of it. -/
structure Seg (St : List Nat) (a s : Nat) : Prop where
  lt : s < St.length
  le : St.getD s 0 ≤ a
  gt : ∀ t, s < t → t < St.length → a < St.getD t 0
theorem Seg.of {i a : Nat} (h0 : St[0]? = some 0) (hi : i ≤ St.length) (h1 : ∀ t, t < i → St.getD t 0 < a + 1) (h2 : ∀ t, i ≤ t → t < St.length → a + 1 ≤ St.getD t 0) : 1 ≤ i ∧ Seg St a (i - 1) := by
  have hl : 0 < St.length := (List.getElem?_eq_some_iff.1 h0).1
  have hz : St.getD 0 0 = 0 := by rw [List.getD_eq_getElem?_getD, h0]; rfl
  have hi1 : 1 ≤ i := by
    rcases Nat.eq_zero_or_pos i with e | e
    · have := h2 0 (by omega) hl
      omega
    · exact e
  exact ⟨hi1, by omega, by have := h1 (i - 1) (by omega); omega, fun t g1 g2 => by have := h2 t (by omega) g2; omega⟩
theorem segment_out (a : Int) (h : PoolAt Sm S B b k sz so scap ao cap T f lim F St w) (hout : ¬ (0 ≤ a ∧ a < (F.length : Int))) :
    Calls Try.prog 25 #[.pointer (some ⟨b, 0, none⟩), .int .i64 a] w fun e w' => e = .returned (.int .i64 (-1)) ∧ w = w' := by
  have HC := Lib.hid (closed_no h)
  have HH := has_any h a
  rw [decide_eq_false hout] at HH
  have HH := Lib.hid HH
  clear h hout
  go_enter Try.func25, Try.ntmps25
  go_wp2_with fail
  refine HC.out.mono ?_
  rintro e w1 ⟨rfl, rfl⟩
  go_wp2_with fail
  refine HH.out.mono ?_
  rintro e w1 ⟨rfl, rfl⟩
  go_wp2_with fail
  go_ret
  exact ⟨rfl, rfl⟩
set_option maxRecDepth 100000 in
theorem segment_in (a : Nat) (h : PoolAt Sm S B b k sz so scap ao cap T f lim F St w) (hin : a < F.length) :
    Calls Try.prog 25 #[.pointer (some ⟨b, 0, none⟩), .int .i64 a] w fun e w' => (∃ s : Nat, e = .returned (.int .i64 s) ∧ Seg St a s) ∧ ∃ q, w' = w.drewN q := by
  have HC := Lib.hid (closed_no h)
  have HH := has_any h (a : Int)
  rw [decide_eq_true (by omega)] at HH
  have HH := Lib.hid HH
  have H := Lib.hid h
  have c2 := h.c2
  have hf := h.few
  have hr := h.room
  have hsg := h.segs
  obtain ⟨g, rfl, _⟩ := h.start 0 0 h.first
  have hlt : a + 1 ≤ 1048577 := by omega
  clear h hr hf
  go_enter Try.func25, Try.ntmps25
  go_wp2_with fail
  refine HC.out.mono ?_
  rintro e w1 ⟨rfl, rfl⟩
  go_wp2_with fail
  refine HH.out.mono ?_
  rintro e w1 ⟨rfl, rfl⟩
  go_wp2_with fail
  refine (search_any (a + 1) H.out.starts hsg hlt H.out.rising).mono ?_
  rintro e w1 ⟨⟨i, v, rfl, hi, h1, h2⟩, q, rfl⟩
  have HX := Lib.hid (Seg.of (a := a) H.out.first hi h1 h2)
  have hi1 := HX.out.1
  have his : ((i : Int) - 1) = ((i - 1 : Nat) : Int) := by omega
  clear h1 h2
  go_wp2_with fail
  go_ret
  exact ⟨⟨i - 1, by first | rfl | (rw [← his]; rfl) | simp [his], HX.out.2⟩, _, rfl⟩
end
end Go.Proofs.Ytaplfibhhdngbaa.pools
/- Where a segment ends; whether cells are taken. -/
namespace Go.Proofs.Ytaplfibhhdngbaa.pools
section
open Go.RowKit Go.Proofs.Ytaplfibhhdngbaa.own Go.Proofs.Ytaplfibhhdngbaa.trees Go.Proofs.Ytaplfibhhdngbaa.rows
variable {Sm S : Nat → Prop} {B b k sz : Nat} {so : Option Addr} {scap : Nat} {ao : Option Addr} {cap : Nat} {T : List Int} {f : Nat → Nat} {lim : Nat} {F : List Bool} {St : List Nat} {w w' : World}
def endOf (St : List Nat) (F : List Bool) (s : Nat) : Nat := if s + 1 < St.length then St.getD (s + 1) 0 else F.length
theorem PoolAt.end_le (h : PoolAt Sm S B b k sz so scap ao cap T f lim F St w) (s : Nat) : endOf St F s ≤ F.length := by
  unfold endOf
  split
  · rename_i hl
    exact h.below _ (by rw [List.getD_eq_getElem?_getD, List.getElem?_eq_getElem hl]; exact List.getElem_mem _)
  · exact Nat.le_refl _
theorem PoolAt.end_gt (h : PoolAt Sm S B b k sz so scap ao cap T f lim F St w) {a s : Nat} (ha : a < F.length) (hs : Seg St a s) : a < endOf St F s := by
  unfold endOf
  split
  · rename_i hl; exact hs.gt _ (by omega) hl
  · exact ha
set_option maxRecDepth 100000 in
theorem end_any (s : Nat) (h : PoolAt Sm S B b k sz so scap ao cap T f lim F St w) (hs : s < St.length) :
    Calls Try.prog 48 #[.pointer (some ⟨b, 0, none⟩), .int .i64 s] w fun e w' => e = .returned (.int .i64 (endOf St F s)) ∧ Only (fun _ => False) w w' := by
  have HL := Lib.hid (last_seg h)
  have H := Lib.hid h
  have c1 := h.c1
  have c2 := h.c2
  have hsg := h.segs
  obtain ⟨g, rfl, _⟩ := h.start 0 0 h.first
  have HR := Lib.hid h.starts
  by_cases hl : s + 1 < St.length
  · have e1 : endOf St F s = St.getD (s + 1) 0 := by unfold endOf; rw [if_pos hl]
    rw [e1]
    have cs := start_cell h.starts (s + 1) hl
    have hne : ((s : Int) == ((St.length - 1 : Nat) : Int)) = false := by simp; omega
    have hw1 : IntKind.i64.wrap ((s : Int) + 1) = (s : Int) + 1 := IntWalk.i64_in _ (by omega)
    have ht1 : ((s : Int) + 1).toNat = s + 1 := by omega
    have hi0 : (0 : Int) ≤ (s : Int) + 1 := by omega
    have hi1 : (s : Int) + 1 < (St.length : Int) := by omega
    clear h e1
    generalize St.getD (s + 1) 0 = v at *
    generalize hm : St.length - 1 = m at *
    go_enter Try.func48, Try.ntmps48
    go_wp2_with fail
    refine HL.out.mono ?_
    rintro e w1 ⟨rfl, rfl⟩
    go_wp2_with fail
    go_ret
    exact ⟨rfl, Only.refl _ _⟩
  · have e1 : endOf St F s = F.length := by unfold endOf; rw [if_neg hl]
    rw [e1]
    have hne : ((s : Int) == ((St.length - 1 : Nat) : Int)) = true := by simp; omega
    clear h e1
    generalize hm : St.length - 1 = m at *
    go_enter Try.func48, Try.ntmps48
    go_wp2_with fail
    refine HL.out.mono ?_
    rintro e w1 ⟨rfl, rfl⟩
    go_wp2_with fail
    go_ret
    exact ⟨rfl, Only.refl _ _⟩
end
end Go.Proofs.Ytaplfibhhdngbaa.pools
/- May cells be given back? -/
namespace Go.Proofs.Ytaplfibhhdngbaa.pools
section
open Go.RowKit Go.Proofs.Ytaplfibhhdngbaa.own Go.Proofs.Ytaplfibhhdngbaa.trees Go.Proofs.Ytaplfibhhdngbaa.rows
variable {Sm S : Nat → Prop} {B b k sz : Nat} {so : Option Addr} {scap : Nat} {ao : Option Addr} {cap : Nat} {T : List Int} {f : Nat → Nat} {lim : Nat} {F : List Bool} {St : List Nat} {w w' : World}
/-- The n cells from a on are there, of one segment, all of them taken. -/
def Taken (St : List Nat) (F : List Bool) (a n : Nat) : Prop := 1 ≤ n ∧ a < F.length ∧ (∃ s, Seg St a s ∧ a + n ≤ endOf St F s) ∧ ∀ j, a ≤ j → j < a + n → F.getD j false = false
theorem Seg.same {a s t : Nat} (h1 : Seg St a s) (h2 : Seg St a t) : s = t := by
  rcases Nat.lt_trichotomy s t with h | h | h
  · have := h1.gt t h h2.lt; have := h2.le; omega
  · exact h
  · have := h2.gt s h h1.lt; have := h1.le; omega
theorem taken_small (a n : Int) (hn : n < 1) (w : World) : Calls Try.prog 42 #[.pointer (some ⟨b, 0, none⟩), .int .i64 a, .int .i64 n] w fun e w' => e = .returned (.bool false) ∧ w = w' := by
  go_enter Try.func42, Try.ntmps42
  go_wp2_with fail
  go_ret
  exact ⟨rfl, rfl⟩
theorem taken_out (a n : Int) (hn : 1 ≤ n) (h : PoolAt Sm S B b k sz so scap ao cap T f lim F St w) (hout : ¬ (0 ≤ a ∧ a < (F.length : Int))) : Calls Try.prog 42 #[.pointer (some ⟨b, 0, none⟩), .int .i64 a, .int .i64 n] w fun e w' => e = .returned (.bool false) ∧ w = w' := by
  have HH := has_any h a
  rw [decide_eq_false hout] at HH
  have HH := Lib.hid HH
  have hn1 : ¬ n < 1 := by omega
  clear h hout hn
  go_enter Try.func42, Try.ntmps42
  go_wp2_with fail
  refine HH.out.mono ?_
  rintro e w1 ⟨rfl, rfl⟩
  go_wp2_with fail
  go_ret
  exact ⟨rfl, rfl⟩
set_option maxRecDepth 100000 in
set_option maxHeartbeats 4000000 in
theorem taken_in (a n : Nat) (hn : 1 ≤ n) (h : PoolAt Sm S B b k sz so scap ao cap T f lim F St w) (hin : a < F.length) : Calls Try.prog 42 #[.pointer (some ⟨b, 0, none⟩), .int .i64 a, .int .i64 n] w fun e w' => (∃ v, e = .returned (.bool v) ∧ (v = true ↔ Taken St F a n)) ∧ Only (fun _ => False) w w' := by
  have HH := has_any h (a : Int)
  rw [decide_eq_true (by omega)] at HH
  have HH := Lib.hid HH
  have H := Lib.hid h
  have HSg := Lib.hid (segment_in a h hin)
  have hn1 : ¬ ((n : Int) < 1) := by omega
  have hfew := h.few
  have hroom := h.room
  clear h
  go_enter Try.func42, Try.ntmps42
  go_wp2_with fail
  refine HH.out.mono ?_
  rintro e w1 ⟨rfl, rfl⟩
  go_wp2_with fail
  refine HSg.out.mono ?_
  rintro e w1 ⟨⟨s, rfl, hs⟩, q, rfl⟩
  have HS := Lib.hid hs
  have hsl := hs.lt
  have hend := H.out.end_gt hin hs
  have hendl := H.out.end_le s
  have H1 := Lib.hid (H.out.drewN q)
  have HO1 : Hid (Only (fun _ => False) w (w.drewN q)) := Lib.hid (Only.drewN _ _ _)
  clear hs
  generalize w.drewN q = w2 at *
  go_wp2_with fail
  refine (end_any s H1.out hsl).mono ?_
  rintro e w3 ⟨rfl, ho⟩
  have H2 := Lib.hid (H1.out.only ho)
  have HO2 := Lib.hid (HO1.out.same ho)
  clear ho HO1 H1
  have HT0 : Hid (endOf St F s < a + n → ¬ Taken St F a n) := Lib.hid (by
    rintro hlt ⟨_, _, ⟨t, ht, hle⟩, _⟩
    have := HS.out.same ht
    subst this
    omega)
  have HT1 : Hid (F.getD a false = true → ¬ Taken St F a n) := Lib.hid (by
    rintro hf ⟨_, _, _, hz⟩
    rw [hz a (by omega) (by omega)] at hf
    cases hf)
  generalize hE : endOf St F s = E at *
  have HE := Lib.hid hE
  clear hE
  by_cases hlt : (n : Int) > (E : Int) - (a : Int)
  · have HN := Lib.hid (HT0.out (by omega))
    go_wp2_with fail
    go_ret
    exact ⟨⟨false, rfl, by simp [HN.out]⟩, HO2.out⟩
  · have hfe : isFree F (a : Int) = F.getD a false := by unfold isFree; rw [if_pos (by omega)]; rfl
    have HFr := free_any (a : Int) H2.out
    rw [hfe] at HFr
    have HFr := Lib.hid HFr
    clear hfe
    go_wp2_with fail
    refine HFr.out.mono ?_
    rintro e w4 ⟨rfl, ho⟩
    have H3 := Lib.hid (H2.out.only ho)
    have HO3 := Lib.hid (HO2.out.same ho)
    clear ho H2 HO2 HFr
    cases hb : F.getD a false with
    | true =>
      have HN := Lib.hid (HT1.out hb)
      go_wp2_with fail
      go_ret
      exact ⟨⟨false, rfl, by simp [HN.out]⟩, HO3.out⟩
    | false =>
      have hsz : 0 < sz := by omega
      have HTk := Lib.hid (H3.out.inv.taken (a := a) (n := n) (by omega))
      go_wp2_with fail
      refine (first_f a 1 (H3.out.runsF hsz) (by omega) (by omega)).mono ?_
      rintro e w5 ⟨⟨r, rfl, hr⟩, rfl⟩
      rcases hr with ⟨rfl, hz⟩ | ⟨p, rfl, hp1, hp2, hp3⟩
      · have HF : Hid (Taken St F a n) := Lib.hid ⟨hn, hin, ⟨s, HS.out, by rw [HE.out]; omega⟩, HTk.out.2 ⟨hb, fun q g1 g2 => by have := hz q g1; omega⟩⟩
        clear hz
        go_wp2_with fail
        go_ret
        exact ⟨⟨true, rfl, by simp [HF.out]⟩, HO3.out⟩
      · have HF : Hid (((a : Int) + (n : Int) ≤ (p : Int)) ↔ Taken St F a n) := Lib.hid (by
          constructor
          · intro hle
            exact ⟨hn, hin, ⟨s, HS.out, by rw [HE.out]; omega⟩, HTk.out.2 ⟨hb, fun q g1 g2 => by have := hp3 q g1 (by omega); omega⟩⟩
          · rintro ⟨_, _, _, hz⟩
            rcases Nat.lt_or_ge p (a + n) with hl | hg
            · have := (HTk.out.1 hz).2 p hp1 hl
              omega
            · omega)
        have hpm : ((p : Int) == -1) = false := by simp
        clear hp3 hp2
        go_wp2_with fail
        go_ret
        exact ⟨⟨decide ((a : Int) + (n : Int) ≤ (p : Int)), by first | rfl | simp, by rw [decide_eq_true_iff]; exact HF.out⟩, HO3.out⟩
end
end Go.Proofs.Ytaplfibhhdngbaa.pools
/- A row is shortened. -/
namespace Go.Proofs.Ytaplfibhhdngbaa.pools
section
open Go.RowKit Go.Proofs.Ytaplfibhhdngbaa.own Go.Proofs.Ytaplfibhhdngbaa.trees Go.Proofs.Ytaplfibhhdngbaa.rows
variable {Sm S : Nat → Prop} {B b k sz : Nat} {so : Option Addr} {scap : Nat} {ao : Option Addr} {cap : Nat} {T : List Int} {f : Nat → Nat} {lim : Nat} {F : List Bool} {St : List Nat} {w w' : World}
/-- The tree has turned, and so has how many cells are loose: a pool again. -/
theorem PoolAt.again (h : PoolAt Sm S B b k sz so scap ao cap T f lim F St w) {T' : List Int} {f' : Nat → Nat} {F' : List Bool} {w1 w2 : World} (hs : 0 < sz) (hr : RunsF B b 3 k sz ao cap f' T' w1) (ho : Only (RowAt ao) w w1)
    (hinv : Inv (fun j => F'.getD j false) Sm f') (hlen : F'.length = F.length) (e : w2 = w1.setCell ⟨b, 5, none⟩ (.int .i64 (count F'))) : PoolAt Sm S B b k sz so scap ao cap T' f' lim F' St w2 ∧ Only S w w2 := by
  have hnb : ¬ RowAt ao b := fun ⟨g, hg, e⟩ => h.apart.2.1 g hg e.symm
  have hTl : T'.length = T.length := by
    rw [hr.runs.len]
    exact (h.runs hs).len.symm
  have hblk : w1.heap[b]? = some (.cells (poolCells lim F so St.length scap sz ao T.length cap) 56 (0, 0)) := by
    rw [ho.block b (h.own b h.inS.1).2 hnb]; exact h.blk
  have o2 : Only (· = b) w1 w2 := by subst e; exact Only.setCell (S := (· = b)) w1 (p := ⟨b, 5, none⟩) rfl _
  have hall : Only S w w2 := (ho.mono (fun j _ hj => by obtain ⟨g, hg, rfl⟩ := hj; exact h.inS.2.2 g hg)).same (o2.mono (fun j _ hj => by rw [hj]; exact h.inS.1))
  refine ⟨⟨?_, ?_, ?_, .inr ⟨hr.runs.tree, hr.runs.size⟩, h.few, hr.runs.small, hr.leaf, hr.rest, hinv, by rw [hlen]; exact h.room, by rw [hlen]; exact h.limit, h.first, h.rising, by rw [hlen]; exact h.below, h.segs, h.inS, fun j hj => ?_, h.apart⟩, hall⟩
  · subst e
    rw [blk_set hblk 5 _]
    unfold poolCells
    rw [hlen, hTl]
    rfl
  · exact (h.starts.only ho (fun g hg e => by obtain ⟨g', hg', e'⟩ := e; exact h.apart.2.2 g g' hg hg' e')).only o2 (fun g hg e => h.apart.1 g hg e)
  · exact hr.runs.row.only o2 (fun g hg e => h.apart.2.1 g hg e)
  · have := h.own j hj
    exact ⟨this.1, Nat.lt_of_lt_of_le this.2 hall.size⟩
theorem RunsF.only0 {o : Nat} (h : RunsF B b o k sz ao cap f T w) (ho : Only (fun _ => False) w w') : RunsF B b o k sz ao cap f T w' := by
  refine ⟨⟨?_, ?_, h.runs.row.only ho (fun _ _ e => e), h.runs.tree, h.runs.size, h.runs.few, h.runs.small⟩, h.leaf, h.rest⟩
  · rw [ho.cell (lt_of_cell h.runs.c0) (fun e => e)]; exact h.runs.c0
  · rw [ho.cell (lt_of_cell h.runs.c1) (fun e => e)]; exact h.runs.c1
theorem PoolAt.cutting (h : PoolAt Sm S B b k sz so scap ao cap T f lim F St w) {a n : Nat} (hn : 1 ≤ n) (hle : n ≤ f a) : Inv (fun j => (put F a false n).getD j false) Sm (cut f a n) ∧ a + f a ≤ F.length ∧ count (put F a false n) + n = count F := by
  have hfree := (h.inv.run a (by omega)).free
  have hlen : a + f a ≤ F.length := by
    rcases Nat.lt_or_ge F.length (a + f a) with hl | hg
    · have hx := hfree (a + f a - 1) (by omega) (by omega)
      simp only [List.getD_eq_getElem?_getD] at hx
      rw [List.getElem?_eq_none (by omega)] at hx
      cases hx
    · exact hg
  refine ⟨(h.inv.take hn hle).congr (fun j => ?_) (fun _ => Iff.rfl) (fun _ => rfl), hlen, put_off_count F a n (by omega) (fun j g1 g2 => hfree j g1 (by omega))⟩
  rw [put_get F a false n (by omega)]
  rfl
set_option maxRecDepth 100000 in
set_option maxHeartbeats 4000000 in
theorem shorten_any (a n : Nat) (hn : 1 ≤ n) (h : PoolAt Sm S B b k sz so scap ao cap T f lim F St w) (hle : n ≤ f a) :
    Calls Try.prog 40 #[.pointer (some ⟨b, 0, none⟩), .int .i64 a, .int .i64 n] w fun e w' => e = .returned (.tuple #[]) ∧ ∃ T', PoolAt Sm S B b k sz so scap ao cap T' (cut f a n) lim (put F a false n) St w' ∧ Only S w w' := by
  have hcut := h.cutting hn hle
  have hroom := h.room
  have hfew := h.few
  have hcl := count_le F
  have hlen := hcut.2.1
  have hcnt := hcut.2.2
  have hsz : 0 < sz := by omega
  have ha : a < sz := by omega
  have HI := Lib.hid hcut.1
  have H := Lib.hid h
  have HR := Lib.hid (h.runsF hsz)
  have hsep := h.apart.2.1
  have HSep := Lib.hid hsep
  have c5 := h.c5
  have fz := free_of_blk h.blk 5
  have hbl := (h.own b h.inS.1).2
  have hnb : ¬ RowAt ao b := fun ⟨g, hg, e⟩ => h.apart.2.1 g hg e.symm
  have HNB := Lib.hid hnb
  have HAg : Hid (∀ (T' : List Int) (f' : Nat → Nat) (w1 w2 : World), RunsF B b 3 k sz ao cap f' T' w1 → Only (RowAt ao) w w1 → f' = cut f a n → w2 = w1.setCell ⟨b, 5, none⟩ (.int .i64 (count (put F a false n))) → PoolAt Sm S B b k sz so scap ao cap T' (cut f a n) lim (put F a false n) St w2 ∧ Only S w w2) :=
    Lib.hid (fun T' f' w1 w2 hr ho hf e => by subst hf; exact H.out.again hsz hr ho HI.out (put_len F a false n) e)
  have HC1 : Hid (0 < f a - n → (fun q => if q = a + n then f a - n else if q = a then 0 else f q) = cut f a n) := Lib.hid (by
    intro hp
    funext q
    unfold cut
    by_cases e1 : q = a
    · rw [if_pos e1, if_neg (by omega), if_pos e1]
    · rw [if_neg e1, if_neg e1]
      by_cases e2 : q = a + n
      · rw [if_pos e2, if_pos ⟨e2, hp⟩]
      · rw [if_neg e2, if_neg (fun hh => e2 hh.1)])
  have HC0 : Hid (¬ 0 < f a - n → (fun q => if q = a then 0 else f q) = cut f a n) := Lib.hid (by
    intro hp
    funext q
    unfold cut
    by_cases e1 : q = a
    · rw [if_pos e1, if_pos e1]
    · rw [if_neg e1, if_neg e1, if_neg (fun hh => hp hh.2)])
  clear h hcut hsep hnb
  generalize hG : count (put F a false n) = c' at *
  clear hG
  generalize hc : count F = c at *
  clear hc
  generalize hfa : f a = x at *
  have HX := Lib.hid hfa
  clear hfa
  have hx : x ≤ 1048576 := by omega
  go_enter Try.func40, Try.ntmps40
  go_wp2_with fail
  refine (at_f a ha HR.out).mono ?_
  rintro e w1 ⟨rfl, ho⟩
  rw [HX.out]
  have HR1 : Hid (RunsF B b 3 k sz ao cap f T w1) := Lib.hid (HR.out.only0 ho)
  have HO1 : Hid (Only (RowAt ao) w w1) := Lib.hid (ho.no _)
  clear ho
  have hw : IntKind.i64.wrap ((x : Int) - (n : Int)) = ((x - n : Nat) : Int) := by rw [IntWalk.i64_in _ (by omega)]; omega
  have hxn : ((x : Int) - (n : Int)) = ((x - n : Nat) : Int) := by omega
  go_wp2_with fail
  refine (set_f a 0 HR1.out ha (by omega) HSep.out).mono ?_
  rintro e w2 ⟨rfl, T2, hr2, ho2⟩
  have HR2 := Lib.hid hr2
  have HO2 := Lib.hid (HO1.out.same ho2)
  clear hr2 ho2 HR1 HO1 hw
  by_cases hp : 0 < x - n
  · have hpi : (0 : Int) < (x : Int) - (n : Int) := by omega
    have HE := Lib.hid (HC1.out hp)
    go_wp2_with fail
    try rw [hxn]
    try rw [show ((a : Int) + (n : Int)) = ((a + n : Nat) : Int) by omega]
    refine (set_f (a + n) (x - n) HR2.out (by omega) (by omega) HSep.out).mono ?_
    rintro e w3 ⟨rfl, T3, hr3, ho3⟩
    have HR3 := Lib.hid hr3
    have HO3 := Lib.hid (HO2.out.same ho3)
    clear hr3 ho3 HR2 HO2
    have d5 : w3.cell? ⟨b, 5, none⟩ = some (.int .i64 c) := by rw [HO3.out.cell (p := ⟨b, 5, none⟩) hbl HNB.out]; exact c5
    have g5 : w3.frozen? ⟨b, 5, none⟩ = false := by rw [HO3.out.frozen (p := ⟨b, 5, none⟩) hbl HNB.out]; exact fz
    clear c5 fz
    have hcc : ((c : Int) - (n : Int)) = (c' : Int) := by omega
    go_wp2_with fail
    try rw [hcc]
    go_end0
    exact ⟨rfl, T3, HAg.out T3 _ w3 _ HR3.out HO3.out HE.out rfl⟩
  · have hpi : ¬ ((0 : Int) < (x : Int) - (n : Int)) := by omega
    have HE := Lib.hid (HC0.out hp)
    have d5 : w2.cell? ⟨b, 5, none⟩ = some (.int .i64 c) := by rw [HO2.out.cell (p := ⟨b, 5, none⟩) hbl HNB.out]; exact c5
    have g5 : w2.frozen? ⟨b, 5, none⟩ = false := by rw [HO2.out.frozen (p := ⟨b, 5, none⟩) hbl HNB.out]; exact fz
    clear c5 fz
    have hcc : ((c : Int) - (n : Int)) = (c' : Int) := by omega
    go_wp2_with fail
    try rw [hcc]
    go_end0
    exact ⟨rfl, T2, HAg.out T2 _ w2 _ HR2.out HO2.out HE.out rfl⟩
end
end Go.Proofs.Ytaplfibhhdngbaa.pools
