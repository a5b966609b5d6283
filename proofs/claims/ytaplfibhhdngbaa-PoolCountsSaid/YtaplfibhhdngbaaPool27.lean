/- A pool's calls, told by plain functions of its cells and its starts. -/
import Derived.Test.YtaplfibhhdngbaaPool26
import Derived.Test.YtaplfibhhdngbaaPoolMath4
namespace Go.Proofs.Ytaplfibhhdngbaa.pools
open Go.RowKit Go.Proofs.Ytaplfibhhdngbaa.own Go.Proofs.Ytaplfibhhdngbaa.trees Go.Proofs.Ytaplfibhhdngbaa.rows
variable {Sm Sm' S : Nat → Prop} {B b k sz : Nat} {so : Option Addr} {scap : Nat} {ao : Option Addr} {cap : Nat} {T : List Int} {f : Nat → Nat} {lim : Nat} {F : List Bool} {St : List Nat} {w w' : World} {o : Nat}
theorem PoolAt.wide (h : PoolAt Sm S B b k sz so scap ao cap T f lim F St w) {k' sz' : Nat} {so' : Option Addr} {scap' : Nat} {ao' : Option Addr} {cap' : Nat} {T' : List Int} {f' : Nat → Nat} {F' : List Bool} {St' : List Nat} (h' : PoolAt Sm' S B b k' sz' so' scap' ao' cap' T' f' lim F' St' w') : PoolAt Sm' (Grew S w w') B b k' sz' so' scap' ao' cap' T' f' lim F' St' w' := by
  refine ⟨h'.blk, h'.starts, h'.most, h'.tree, h'.few, h'.small, h'.leaf, h'.rest, h'.inv, h'.room, h'.limit, h'.first, h'.rising, h'.below, h'.segs, ⟨.inl h'.inS.1, fun g hg => .inl (h'.inS.2.1 g hg), fun g hg => .inl (h'.inS.2.2 g hg)⟩, fun j hj => ?_, h'.apart⟩
  have hB := h.own b h.inS.1
  rcases hj with hj | hj
  · exact h'.own j hj
  · omega
theorem Pool.only (h : Pool S B b lim F St w) (ho : Only (fun _ => False) w w') : Pool S B b lim F St w' := by
  obtain ⟨k, sz, so, scap, ao, cap, T, f, h⟩ := h
  exact ⟨k, sz, so, scap, ao, cap, T, f, h.only ho⟩
theorem Pool.grew (h : Pool S B b lim F St w) (ho : Only (fun _ => False) w w') : Pool (Grew S w w') B b lim F St w' := by
  obtain ⟨k, sz, so, scap, ao, cap, T, f, h⟩ := h
  exact ⟨k, sz, so, scap, ao, cap, T, f, h.wide (h.only ho)⟩
theorem Pool.own (h : Pool S B b lim F St w) : ∀ j, S j → B ≤ j ∧ j < w.heap.size := by
  obtain ⟨k, sz, so, scap, ao, cap, T, f, h⟩ := h
  exact h.own
/-- A world that turned outside the pool's blocks. -/
theorem Pool.far (h : Pool S B b lim F St w) {Q : Nat → Prop} (ho : Only Q w w') (hq : ∀ j, S j → ¬ Q j) : Pool S B b lim F St w' := by
  obtain ⟨k, sz, so, scap, ao, cap, T, f, h⟩ := h
  refine ⟨k, sz, so, scap, ao, cap, T, f, ?_, h.starts.only ho (fun g hg => hq _ (h.inS.2.1 g hg)), h.most.only ho (fun g hg => hq _ (h.inS.2.2 g hg)), h.tree, h.few, h.small, h.leaf, h.rest, h.inv, h.room, h.limit, h.first, h.rising, h.below, h.segs, h.inS, fun j hj => ?_, h.apart⟩
  · rw [ho.block b (h.own b h.inS.1).2 (hq _ h.inS.1)]; exact h.blk
  · have := h.own j hj
    exact ⟨this.1, Nat.lt_of_lt_of_le this.2 ho.size⟩
structure Facts (lim : Nat) (F : List Bool) (St : List Nat) : Prop where
  limit : F.length ≤ lim ∧ lim ≤ 1048576
  first : St[0]? = some 0
  rising : St.Pairwise (· ≤ ·)
  below : ∀ s, s ∈ St → s ≤ F.length
  segs : St.length ≤ 4096
  one : 0 < St.length
theorem Pool.facts (h : Pool S B b lim F St w) : Facts lim F St := by
  obtain ⟨k, sz, so, scap, ao, cap, T, f, h⟩ := h
  exact ⟨h.limit, h.first, h.rising, h.below, h.segs, h.one⟩
/-! ### The answers -/
def runsP (F : List Bool) (St : List Nat) (s : Nat) : List (Nat × Nat) := refRuns (fun j => F.getD j false) (St.getD s 0) (endOf St F s - St.getD s 0)
theorem PoolAt.rows_plain (h : PoolAt (· ∈ St) S B b k sz so scap ao cap T f lim F St w) {s : Nat} (hs : s < St.length) : rowsOf f F St s = runsP F St s := by
  refine (h.inv.rows_ref (getD_mem hs) _ (fun j g1 g2 hm => ?_) (fun q g1 g2 => ?_)).symm
  · obtain ⟨t, ht, rfl⟩ := mem_getD hm
    rcases Nat.lt_or_ge s t with g | g
    · have e : endOf St F s = St.getD (s + 1) 0 := by unfold endOf; rw [if_pos (by omega)]
      have := getD_le h.rising (show s + 1 ≤ t by omega) ht
      omega
    · have := getD_le h.rising g hs
      omega
  · have := h.row_le (s := s) (q := q) (by omega)
    omega
def takeF (lim : Nat) (F : List Bool) (St : List Nat) (n : Int) : Int × Int × List Bool :=
  if n < 1 then (0, 1, F) else
  match (runsP F St (St.length - 1)).find? (fun x => decide (n.toNat ≤ x.2)) with
  | some x => (x.1, 0, put F x.1 false n.toNat)
  | none => if lim - F.length < n.toNat then (0, 2, F) else (F.length, 0, F ++ List.replicate n.toNat false)
theorem take_p (n : Int) (hn : n ≤ 9223372036854775807) (h : Pool S B b lim F St w) :
    Calls Try.prog 12 #[.pointer (some ⟨b, 0, none⟩), .int .i64 n] w fun e w' => e = .returned (.tuple #[.int .i64 (takeF lim F St n).1, .int .i64 (takeF lim F St n).2.1]) ∧ Pool (Grew S w w') B b lim (takeF lim F St n).2.2 St w' ∧ Only S w w' := by
  obtain ⟨k, sz, so, scap, ao, cap, T, f, h⟩ := h
  unfold takeF
  by_cases h1 : n < 1
  · rw [if_pos h1]
    refine (take_small n h1 h).mono ?_
    rintro e w' ⟨rfl, rfl⟩
    exact ⟨rfl, ⟨k, sz, so, scap, ao, cap, T, f, h.wide h⟩, Only.refl _ _⟩
  · rw [if_neg h1]
    obtain ⟨m, rfl⟩ : ∃ m : Nat, n = m := ⟨n.toNat, by omega⟩
    have hlast : St.length - 1 < St.length := by have := h.one; omega
    have hE : endOf St F (St.length - 1) = F.length := by unfold endOf; rw [if_neg (by omega)]
    have hle : lastOf St ≤ F.length := h.below _ (getD_mem hlast)
    have hF := rowsF_find (f := f) (a := lastOf St) m (by omega) (F.length - lastOf St)
    have hfar : ∀ q, F.length ≤ q → f q = 0 := fun q hq => by
      rcases Nat.eq_zero_or_pos (f q) with e | e
      · exact e
      · have := h.run_le q e; omega
    rw [← h.rows_plain hlast]
    unfold rowsOf
    rw [hE]
    simp only [Int.toNat_natCast]
    rw [show St.getD (St.length - 1) 0 = lastOf St from rfl]
    split at hF
    · rename_i x hx
      rw [hx]
      obtain ⟨g1, g2, g3, g4, g5⟩ := hF
      refine (take_found m x.1 (by omega) (by omega) h g1 g4 g5).mono ?_
      rintro e w' ⟨rfl, T', hT, ho⟩
      exact ⟨rfl, ⟨_, _, _, _, _, _, _, _, h.wide hT⟩, ho⟩
    · rename_i hx
      rw [hx]
      have hz : ∀ q, lastOf St ≤ q → f q < m := fun q hq => by
        rcases Nat.lt_or_ge q F.length with g | g
        · exact hF q hq (by omega)
        · rw [hfar q g]; omega
      by_cases hl : lim - F.length < m
      · simp only [if_pos hl]
        refine (take_full m (by omega) (by omega) h hz hl).mono ?_
        rintro e w' ⟨rfl, N, rfl⟩
        exact ⟨rfl, ⟨_, _, _, _, _, _, _, _, h.wide (h.drewN N)⟩, Only.drewN _ _ _⟩
      · simp only [if_neg hl]
        have := h.limit
        refine (take_top m (by omega) h hz (by omega)).mono ?_
        rintro e w' ⟨rfl, k', s', ao', cap', T', hP, ho⟩
        exact ⟨rfl, ⟨_, _, _, _, _, _, _, _, hP⟩, ho⟩
open Classical in
noncomputable def giveF (F : List Bool) (St : List Nat) (a n : Int) : Int × List Bool := if TakenI St F a n then (0, put F a.toNat true n.toNat) else (1, F)
theorem give_p (a n : Int) (h : Pool S B b lim F St w) :
    Calls Try.prog 14 #[.pointer (some ⟨b, 0, none⟩), .int .i64 a, .int .i64 n] w fun e w' => e = .returned (.int .i64 (giveF F St a n).1) ∧ Pool (Grew S w w') B b lim (giveF F St a n).2 St w' ∧ Only S w w' := by
  obtain ⟨k, sz, so, scap, ao, cap, T, f, h⟩ := h
  unfold giveF
  by_cases ht : TakenI St F a n
  · rw [if_pos ht]
    obtain ⟨h1, h2, h3⟩ := ht
    obtain ⟨a', rfl⟩ : ∃ m : Nat, a = m := ⟨a.toNat, by omega⟩
    obtain ⟨n', rfl⟩ : ∃ m : Nat, n = m := ⟨n.toNat, by omega⟩
    simp only [Int.toNat_natCast] at h3 ⊢
    refine (give_ok a' n' h h3).mono ?_
    rintro e w' ⟨rfl, f', T', hP, ho⟩
    exact ⟨rfl, ⟨_, _, _, _, _, _, _, _, h.wide hP⟩, ho⟩
  · rw [if_neg ht]
    refine (give_no a n h ht).mono ?_
    rintro e w' ⟨rfl, ho⟩
    exact ⟨rfl, ⟨_, _, _, _, _, _, _, _, h.wide (h.only ho)⟩, ho.no S⟩
def openF (F : List Bool) (St : List Nat) : Int × List Nat := if St.length < 4096 then (0, St ++ [F.length]) else (2, St)
theorem open_p (h : Pool S B b lim F St w) :
    Calls Try.prog 15 #[.pointer (some ⟨b, 0, none⟩)] w fun e w' => e = .returned (.int .i64 (openF F St).1) ∧ Pool (Grew S w w') B b lim F (openF F St).2 w' ∧ Only S w w' := by
  obtain ⟨k, sz, so, scap, ao, cap, T, f, h⟩ := h
  unfold openF
  by_cases hf : St.length < 4096
  · rw [if_pos hf]
    refine (open_any h hf).mono ?_
    rintro e w' ⟨rfl, so', scap', hP, ho⟩
    exact ⟨rfl, ⟨_, _, _, _, _, _, _, _, hP⟩, ho⟩
  · rw [if_neg hf]
    refine (open_full h hf).mono ?_
    rintro e w' ⟨rfl, rfl⟩
    exact ⟨rfl, ⟨_, _, _, _, _, _, _, _, h.wide h⟩, Only.refl _ _⟩
def closeF (St : List Nat) : Int × List Nat := if St.length = 1 then (4, St) else (0, St.take (St.length - 1))
theorem close_p (h : Pool S B b lim F St w) :
    Calls Try.prog 16 #[.pointer (some ⟨b, 0, none⟩)] w fun e w' => e = .returned (.int .i64 (closeF St).1) ∧ Pool (Grew S w w') B b lim F (closeF St).2 w' ∧ Only S w w' := by
  obtain ⟨k, sz, so, scap, ao, cap, T, f, h⟩ := h
  unfold closeF
  have := h.one
  by_cases hf : St.length = 1
  · rw [if_pos hf]
    refine (close_one h hf).mono ?_
    rintro e w' ⟨rfl, rfl⟩
    exact ⟨rfl, ⟨_, _, _, _, _, _, _, _, h.wide h⟩, Only.refl _ _⟩
  · rw [if_neg hf]
    refine (close_any (St.length - 1) h (by omega) (by omega)).mono ?_
    rintro e w' ⟨rfl, T', f', hP, ho⟩
    exact ⟨rfl, ⟨_, _, _, _, _, _, _, _, h.wide hP⟩, ho⟩
theorem back_p (h : Pool S B b lim F St w) :
    Calls Try.prog 17 #[.pointer (some ⟨b, 0, none⟩)] w fun e w' => e = .returned (.int .i64 0) ∧ Pool (Grew S w w') B b lim (F.take (lastOf St)) St w' ∧ Only S w w' := by
  obtain ⟨k, sz, so, scap, ao, cap, T, f, h⟩ := h
  refine (back_any h).mono ?_
  rintro e w' ⟨rfl, T', f', hP, ho⟩
  exact ⟨rfl, ⟨_, _, _, _, _, _, _, _, h.wide hP⟩, ho⟩
theorem top_p (h : Pool S B b lim F St w) : Calls Try.prog 18 #[.pointer (some ⟨b, 0, none⟩)] w fun e w' => e = .returned (.int .i64 F.length) ∧ w = w' := by
  obtain ⟨k, sz, so, scap, ao, cap, T, f, h⟩ := h
  exact top_any h
theorem limit_p (h : Pool S B b lim F St w) : Calls Try.prog 20 #[.pointer (some ⟨b, 0, none⟩)] w fun e w' => e = .returned (.int .i64 lim) ∧ w = w' := by
  obtain ⟨k, sz, so, scap, ao, cap, T, f, h⟩ := h
  exact limit_any h
theorem left_p (h : Pool S B b lim F St w) : Calls Try.prog 22 #[.pointer (some ⟨b, 0, none⟩)] w fun e w' => e = .returned (.int .i64 ((count F : Int) + lim - F.length)) ∧ ∃ n, w' = w.drewN n := by
  obtain ⟨k, sz, so, scap, ao, cap, T, f, h⟩ := h
  exact left_any h
theorem free_p (a : Int) (h : Pool S B b lim F St w) : Calls Try.prog 19 #[.pointer (some ⟨b, 0, none⟩), .int .i64 a] w fun e w' => e = .returned (.bool (isFree F a)) ∧ Only (fun _ => False) w w' := by
  obtain ⟨k, sz, so, scap, ao, cap, T, f, h⟩ := h
  exact free_any a h
/-- The segment of a cell, -1 where there is none. -/
def SegI (St : List Nat) (F : List Bool) (a s : Int) : Prop := (¬ (0 ≤ a ∧ a < F.length) ∧ s = -1) ∨ ((0 ≤ a ∧ a < F.length) ∧ ∃ t : Nat, s = t ∧ Seg St a.toNat t)
theorem SegI.uniq {a s s' : Int} (h : SegI St F a s) (h' : SegI St F a s') : s = s' := by
  rcases h with ⟨h1, rfl⟩ | ⟨h1, t, rfl, ht⟩ <;> rcases h' with ⟨g1, rfl⟩ | ⟨g1, t', rfl, ht'⟩
  · rfl
  · exact absurd g1 h1
  · exact absurd h1 g1
  · rw [ht.same ht']
theorem segment_p (a : Int) (h : Pool S B b lim F St w) : Calls Try.prog 25 #[.pointer (some ⟨b, 0, none⟩), .int .i64 a] w fun e w' => (∃ s, e = .returned (.int .i64 s) ∧ SegI St F a s) ∧ ∃ n, w' = w.drewN n := by
  obtain ⟨k, sz, so, scap, ao, cap, T, f, h⟩ := h
  by_cases hin : 0 ≤ a ∧ a < (F.length : Int)
  · obtain ⟨a', rfl⟩ : ∃ m : Nat, a = m := ⟨a.toNat, by omega⟩
    refine (segment_in a' h (by omega)).mono ?_
    rintro e w' ⟨⟨s, rfl, hs⟩, q, rfl⟩
    exact ⟨⟨_, rfl, .inr ⟨hin, s, rfl, hs⟩⟩, q, rfl⟩
  · refine (segment_out a h hin).mono ?_
    rintro e w' ⟨rfl, rfl⟩
    exact ⟨⟨_, rfl, .inl ⟨hin, rfl⟩⟩, 0, rfl⟩
theorem starts_p (h : Pool S B b lim F St w) : Calls Try.prog 13 #[.pointer (some ⟨b, 0, none⟩)] w fun e w' => ∃ ro rcap, e = .returned (.slice ro St.length rcap) ∧ RowOf enc64 1 3 w.heap.size ro rcap St w' ∧ Only (fun _ => False) w w' := by
  obtain ⟨k, sz, so, scap, ao, cap, T, f, h⟩ := h
  exact starts_any h
/-- What Runs answers, of any number. -/
def runsI (F : List Bool) (St : List Nat) (s : Int) : List (Nat × Nat) := if 0 ≤ s ∧ s < St.length then runsP F St s.toNat else []
theorem runs_p (s : Int) (h : Pool S B b lim F St w) : Calls Try.prog 21 #[.pointer (some ⟨b, 0, none⟩), .int .i64 s] w fun e w' => ∃ ro rcap, e = .returned (.slice ro (runsI F St s).length rcap) ∧ RowOf encR 2 61 w.heap.size ro rcap (runsI F St s) w' ∧ Only (fun _ => False) w w' := by
  obtain ⟨k, sz, so, scap, ao, cap, T, f, h⟩ := h
  unfold runsI
  by_cases hs : 0 ≤ s ∧ s < (St.length : Int)
  · rw [if_pos hs]
    obtain ⟨s', rfl⟩ : ∃ m : Nat, s = m := ⟨s.toNat, by omega⟩
    rw [Int.toNat_natCast, ← h.rows_plain (by omega)]
    exact runs_any s' (by omega) h
  · rw [if_neg hs]
    refine (runs_out s hs h).mono ?_
    rintro e w' ⟨rfl, rfl⟩
    exact ⟨none, 0, rfl, RowOf.nil _ _ _ _ _, Only.refl _ _⟩
end Go.Proofs.Ytaplfibhhdngbaa.pools
