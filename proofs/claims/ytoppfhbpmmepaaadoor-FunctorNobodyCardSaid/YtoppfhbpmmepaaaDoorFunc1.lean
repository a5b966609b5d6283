/- A table of functors: what none answers; the object. -/
import Derived.Test.YtoppfhbpmmepaaaDoorFuncLib
import Derived.Test.YtoppfhbpmmepaaaDoorAtom9
namespace Go.Proofs.YtoppfhbpmmepaaaDoor.functors
open Go.RowKit Go.Proofs.YtoppfhbpmmepaaaDoor.own Go.Maps
theorem closed_nil (w : World) : Calls Tryd.prog 35 #[.pointer none] w fun e w' => e = .returned (.bool true) ∧ w = w' := by
  go_enter Tryd.func35, Tryd.ntmps35
  go_wp2_with fail
  go_ret
  exact ⟨rfl, rfl⟩
theorem nil_put (n : ByteArray) (k : Int) (w : World) : Calls Tryd.prog 18 #[.pointer none, .string n, .int .i64 k] w fun e w' => e = .returned (.tuple #[.int .i64 0, .int .i64 6]) ∧ w = w' := by
  go_enter Tryd.func18, Tryd.ntmps18
  go_wp2_with fail
  refine (closed_nil _).mono ?_
  rintro e w1 ⟨rfl, rfl⟩
  go_wp2_with fail
  go_ret2
  exact ⟨rfl, rfl⟩
theorem nil_find (n : ByteArray) (k : Int) (w : World) : Calls Tryd.prog 24 #[.pointer none, .string n, .int .i64 k] w fun e w' => e = .returned (.tuple #[.int .i64 0, .bool false]) ∧ w = w' := by
  go_enter Tryd.func24, Tryd.ntmps24
  go_wp2_with fail
  refine (closed_nil _).mono ?_
  rintro e w1 ⟨rfl, rfl⟩
  go_wp2_with fail
  go_ret2
  exact ⟨rfl, rfl⟩
theorem nil_get (k : Int) (w : World) : Calls Tryd.prog 23 #[.pointer none, .int .i64 k] w fun e w' => e = .returned (.tuple #[.string ⟨#[]⟩, .int .i64 0, .int .i64 6]) ∧ w = w' := by
  go_enter Tryd.func23, Tryd.ntmps23
  go_wp2_with fail
  refine (closed_nil _).mono ?_
  rintro e w1 ⟨rfl, rfl⟩
  go_wp2_with fail
  go_ret3
  exact ⟨rfl, rfl⟩
theorem nil_len  (w : World) : Calls Tryd.prog 13 #[.pointer none] w fun e w' => e = .returned (.int .i64 0) ∧ w = w' := by
  go_enter Tryd.func13, Tryd.ntmps13
  go_wp2_with fail
  refine (closed_nil _).mono ?_
  rintro e w1 ⟨rfl, rfl⟩
  go_wp2_with fail
  go_ret
  exact ⟨rfl, rfl⟩
theorem nil_slots  (w : World) : Calls Tryd.prog 15 #[.pointer none] w fun e w' => e = .returned (.int .i64 0) ∧ w = w' := by
  go_enter Tryd.func15, Tryd.ntmps15
  go_wp2_with fail
  refine (closed_nil _).mono ?_
  rintro e w1 ⟨rfl, rfl⟩
  go_wp2_with fail
  go_ret
  exact ⟨rfl, rfl⟩
theorem nil_mark (k : Int) (w : World) : Calls Tryd.prog 19 #[.pointer none, .int .i64 k] w fun e w' => e = .returned (.int .i64 6) ∧ w = w' := by
  go_enter Tryd.func19, Tryd.ntmps19
  go_wp2_with fail
  refine (closed_nil _).mono ?_
  rintro e w1 ⟨rfl, rfl⟩
  go_wp2_with fail
  go_ret
  exact ⟨rfl, rfl⟩
theorem nil_sweep  (w : World) : Calls Tryd.prog 20 #[.pointer none] w fun e w' => e = .returned (.int .i64 0) ∧ w = w' := by
  go_enter Tryd.func20, Tryd.ntmps20
  go_wp2_with fail
  refine (closed_nil _).mono ?_
  rintro e w1 ⟨rfl, rfl⟩
  go_wp2_with fail
  go_ret
  exact ⟨rfl, rfl⟩
theorem nil_atoms  (w : World) : Calls Tryd.prog 21 #[.pointer none] w fun e w' => e = .returned (.int .i64 0) ∧ w = w' := by
  go_enter Tryd.func21, Tryd.ntmps21
  go_wp2_with fail
  refine (closed_nil _).mono ?_
  rintro e w1 ⟨rfl, rfl⟩
  go_wp2_with fail
  go_ret
  exact ⟨rfl, rfl⟩

abbrev MapP (m n : Nat) (D : D1) (w : World) : Prop := w.ownsMap Tryd.prog 90 (plainElem Tryd.prog 3) m n D
abbrev SlotsP (B : Nat) (ao : Option Addr) (cap : Nat) (sl : List FSlot) (w : World) : Prop := RowOf encS 3 93 B ao cap sl w
theorem used_le (sl : List FSlot) : used sl ≤ sl.length := by
  unfold used
  generalize 0 = i
  induction sl generalizing i with
  | nil => simp [prs]
  | cons x r ih =>
    unfold prs
    have := ih (i + 1)
    split <;> simp <;> omega
/-- A table of functors beside the atoms at ta. -/
structure Core (S : Nat → Prop) (B b : Nat) (lim : Int) (ta : Nat) (ao : Option Addr) (cap m low : Nat) (sl : List FSlot) (w : World) : Prop where
  blk : w.heap[b]? = some (.cells #[.int .i64 lim, .pointer (some ⟨ta, 0, none⟩), .slice ao sl.length cap, .map (some m), .int .i64 low] 83 (0, 0))
  row : SlotsP B ao cap sl w
  map : ∃ D, MapP m (used sl) D w ∧ MapOf D sl
  apart : Apart sl
  wf : ∀ (j : Nat) (x : FSlot), sl[j]? = some x → (x.used = true ↔ 1 ≤ x.name.n)
  few : sl.length ≤ 16384
  bound : 1 ≤ lim ∧ lim ≤ 16384 ∧ (sl.length : Int) ≤ lim
  lows : low ≤ sl.length ∧ ∀ (j : Nat) (x : FSlot), j < low → sl[j]? = some x → x.used = true
  own : ∀ k, (k = b ∨ k = m ∨ RowAt ao k) → S k
  lt : ∀ k, S k → B ≤ k ∧ k < w.heap.size
  bm : b ≠ m
  other : ∀ g, ao = some g → g.block ≠ b ∧ g.block ≠ m
variable {S : Nat → Prop} {B b : Nat} {lim : Int} {ta : Nat} {ao : Option Addr} {cap m low : Nat} {sl : List FSlot} {w w' : World}
theorem map_only {P : Program} {k : TypeId} {R : Value → Option (D1 × List MemPlace)} {S : Nat → Prop} {w w' : World} {b n : Nat} {D : D1} (h : w.ownsMap P k R b n D) (ho : Only S w w') (hS : ¬ S b) : w'.ownsMap P k R b n D := by
  have hlt := h.lt
  obtain ⟨es, clock, hb, F, hs, hD⟩ := h
  exact ⟨es, clock, (ho.block b hlt hS).trans hb, F, hs, hD⟩
theorem Core.only {S' : Nat → Prop} (h : Core S B b lim ta ao cap m low sl w) (ho : Only S' w w') (hS : ∀ k, S k → ¬ S' k) : Core S B b lim ta ao cap m low sl w' := by
  obtain ⟨D, h1, h2⟩ := h.map
  have hb := h.own b (.inl rfl)
  have hm := h.own m (.inr (.inl rfl))
  refine ⟨?_, h.row.only ho (fun g hg => hS _ (h.own _ (.inr (.inr ⟨g, hg, rfl⟩)))), ⟨D, map_only h1 ho (hS m hm), h2⟩, h.apart, h.wf, h.few, h.bound, h.lows, h.own, fun k hk => ⟨(h.lt k hk).1, Nat.lt_of_lt_of_le (h.lt k hk).2 ho.size⟩, h.bm, h.other⟩
  rw [ho.block b (h.lt b hb).2 (hS b hb)]
  exact h.blk
theorem closed_no (h : Core S B b lim ta ao cap m low sl w) : Calls Tryd.prog 35 #[.pointer (some ⟨b, 0, none⟩)] w fun e w' => e = .returned (.bool false) ∧ w = w' := by
  have c1 := cell_of_blk h.blk 1
  clear h
  go_enter Tryd.func35, Tryd.ntmps35
  go_wp2_with fail
  go_ret
  exact ⟨rfl, rfl⟩
theorem Core.slot (h : Core S B b lim ta ao cap m low sl w) (j : Nat) (x : FSlot) (hx : sl[j]? = some x) : ∃ g, ao = some ⟨g, 0, none⟩ ∧ w.cell? ⟨g, j * 3, none⟩ = some (.int .i64 x.name.a) ∧ w.cell? ⟨g, j * 3 + 1, none⟩ = some (.int .i64 x.name.n) ∧ w.cell? ⟨g, j * 3 + 2, none⟩ = some (.bool x.mark) ∧ w.frozen? ⟨g, j * 3, none⟩ = false ∧ w.frozen? ⟨g, j * 3 + 1, none⟩ = false ∧ w.frozen? ⟨g, j * 3 + 2, none⟩ = false := by
  obtain ⟨g, hg, _, hc⟩ := h.row.at liesS j x hx
  have h0 := hc 0 (by omega)
  have h1 := hc 1 (by omega)
  have h2 := hc 2 (by omega)
  simp only [encS, List.getElem?_cons_zero, List.getElem?_cons_succ, Nat.add_zero] at h0 h1 h2
  exact ⟨g, hg, h0.1, h1.1, h2.1, h0.2, h1.2, h2.2⟩
/-- Is there a functor of that number? -/
def hasS (sl : List FSlot) (i : Int) : Bool := if 0 ≤ i then (sl[i.toNat]?).any (·.used) else false
set_option maxRecDepth 100000 in
theorem has_any (i : Int) (h : Core S B b lim ta ao cap m low sl w) : Calls Tryd.prog 39 #[.pointer (some ⟨b, 0, none⟩), .int .i64 i] w fun e w' => e = .returned (.bool (hasS sl i)) ∧ w = w' := by
  have c2 := cell_of_blk h.blk 2
  simp at c2
  have hfew := h.few
  unfold hasS
  by_cases h0 : i < 0
  · rw [if_neg (by omega)]
    clear h
    go_enter Tryd.func39, Tryd.ntmps39
    go_wp2_with fail
    go_ret
    exact ⟨rfl, rfl⟩
  · rw [if_pos (by omega)]
    obtain ⟨j, rfl⟩ : ∃ j : Nat, i = j := ⟨i.toNat, by omega⟩
    rw [Int.toNat_natCast]
    by_cases hl : j < sl.length
    · obtain ⟨x, hx⟩ : ∃ x, sl[j]? = some x := ⟨_, List.getElem?_eq_getElem hl⟩
      obtain ⟨g, hg, k0, k1, k2, _⟩ := h.slot j x hx
      subst hg
      have hw := h.wf j x hx
      rw [hx]
      simp only [Option.any_some]
      have hlI : (j : Int) < (sl.length : Int) := by omega
      have hval : x.used = decide ((x.name.n : Int) > 0) := by
        cases hu : x.used with
        | true => have := hw.1 hu; simp; omega
        | false =>
          symm
          simp only [decide_eq_false_iff_not]
          intro e
          have := hw.2 (by omega)
          rw [hu] at this
          cases this
      rw [hval]
      clear h hw hval k0 k2
      generalize x.name.n = n at *
      go_enter Tryd.func39, Tryd.ntmps39
      go_wp2_with fail
      go_ret
      first | exact ⟨rfl, rfl⟩ | exact ⟨by simp, rfl⟩
    · rw [List.getElem?_eq_none (by omega)]
      have hlI : ¬ ((j : Int) < (sl.length : Int)) := by omega
      clear h
      go_enter Tryd.func39, Tryd.ntmps39
      go_wp2_with fail
      go_ret
      exact ⟨rfl, rfl⟩
end Go.Proofs.YtoppfhbpmmepaaaDoor.functors
