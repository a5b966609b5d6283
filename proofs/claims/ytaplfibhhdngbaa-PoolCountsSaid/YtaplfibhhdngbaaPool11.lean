/- Which segment has a cell, and where a segment ends. -/
import Derived.Test.YtaplfibhhdngbaaPoolSearch
namespace Go.Proofs.Ytaplfibhhdngbaa.pools
open Go.RowKit Go.Proofs.Ytaplfibhhdngbaa.own Go.Proofs.Ytaplfibhhdngbaa.trees Go.Proofs.Ytaplfibhhdngbaa.rows
variable {Sm S : Nat → Prop} {B b k sz : Nat} {so : Option Addr} {scap : Nat} {ao : Option Addr} {cap : Nat} {T : List Int} {f : Nat → Nat} {lim : Nat} {F : List Bool} {St : List Nat} {w w' : World}
/-- The last segment that begins at a or ahead of it. -/
structure Seg (St : List Nat) (a s : Nat) : Prop where
  lt : s < St.length
  le : St.getD s 0 ≤ a
  gt : ∀ t, s < t → t < St.length → a < St.getD t 0
theorem Seg.of {i a : Nat} (h0 : St[0]? = some 0) (hi : i ≤ St.length) (h1 : ∀ t, t < i → St.getD t 0 < a + 1) (h2 : ∀ t, i ≤ t → t < St.length → a + 1 ≤ St.getD t 0) : 1 ≤ i ∧ Seg St a (i - 1) := by
  have hl : 0 < St.length := (List.getElem?_eq_some_iff.1 h0).1
  have hz : St.getD 0 0 = 0 := by rw [List.getD_eq_getElem?_getD, h0]; rfl
  have hi1 : 1 ≤ i := by
    rcases Nat.eq_zero_or_pos i with e | e
    · have := h2 0 (by omega) hl
      omega
    · exact e
  exact ⟨hi1, by omega, by have := h1 (i - 1) (by omega); omega, fun t g1 g2 => by have := h2 t (by omega) g2; omega⟩
theorem segment_out (a : Int) (h : PoolAt Sm S B b k sz so scap ao cap T f lim F St w) (hout : ¬ (0 ≤ a ∧ a < (F.length : Int))) :
    Calls Try.prog 25 #[.pointer (some ⟨b, 0, none⟩), .int .i64 a] w fun e w' => e = .returned (.int .i64 (-1)) ∧ w = w' := by
  have HC := Lib.hid (closed_no h)
  have HH := has_any h a
  rw [decide_eq_false hout] at HH
  have HH := Lib.hid HH
  clear h hout
  go_enter Try.func25, Try.ntmps25
  go_wp2_with fail
  refine HC.out.mono ?_
  rintro e w1 ⟨rfl, rfl⟩
  go_wp2_with fail
  refine HH.out.mono ?_
  rintro e w1 ⟨rfl, rfl⟩
  go_wp2_with fail
  go_ret
  exact ⟨rfl, rfl⟩
set_option maxRecDepth 100000 in
theorem segment_in (a : Nat) (h : PoolAt Sm S B b k sz so scap ao cap T f lim F St w) (hin : a < F.length) :
    Calls Try.prog 25 #[.pointer (some ⟨b, 0, none⟩), .int .i64 a] w fun e w' => (∃ s : Nat, e = .returned (.int .i64 s) ∧ Seg St a s) ∧ ∃ q, w' = w.drewN q := by
  have HC := Lib.hid (closed_no h)
  have HH := has_any h (a : Int)
  rw [decide_eq_true (by omega)] at HH
  have HH := Lib.hid HH
  have H := Lib.hid h
  have c2 := h.c2
  have hf := h.few
  have hr := h.room
  have hsg := h.segs
  obtain ⟨g, rfl, _⟩ := h.start 0 0 h.first
  have hlt : a + 1 ≤ 1048577 := by omega
  clear h hr hf
  go_enter Try.func25, Try.ntmps25
  go_wp2_with fail
  refine HC.out.mono ?_
  rintro e w1 ⟨rfl, rfl⟩
  go_wp2_with fail
  refine HH.out.mono ?_
  rintro e w1 ⟨rfl, rfl⟩
  go_wp2_with fail
  refine (search_any (a + 1) H.out.starts hsg hlt H.out.rising).mono ?_
  rintro e w1 ⟨⟨i, v, rfl, hi, h1, h2⟩, q, rfl⟩
  have HX := Lib.hid (Seg.of (a := a) H.out.first hi h1 h2)
  have hi1 := HX.out.1
  have his : ((i : Int) - 1) = ((i - 1 : Nat) : Int) := by omega
  clear h1 h2
  go_wp2_with fail
  go_ret
  exact ⟨⟨i - 1, by first | rfl | (rw [← his]; rfl) | simp [his], HX.out.2⟩, _, rfl⟩
end Go.Proofs.Ytaplfibhhdngbaa.pools
