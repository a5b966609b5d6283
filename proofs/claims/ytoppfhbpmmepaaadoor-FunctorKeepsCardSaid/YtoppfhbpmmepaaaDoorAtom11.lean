
/- AtomTells. -/
import Derived.Test.YtoppfhbpmmepaaaDoorAtom10
namespace Go.Proofs.YtoppfhbpmmepaaaDoor.atoms
open Go.RowKit Go.Proofs.YtoppfhbpmmepaaaDoor.own Go.Maps

theorem used_all {sl : List ASlot} (h : AllUsed sl sl.length) : used sl = sl.length := by
  unfold used
  generalize 0 = i
  induction sl generalizing i with
  | nil => rfl
  | cons x r ih =>
    unfold prs
    rw [if_pos (h 0 x (by simp) rfl), List.length_cons, List.length_cons, ih]
    intro j y hj hy
    exact h (j + 1) y (by simp; omega) (by simpa using hy)
/-- No slot is free, and so many names were made. -/
structure Dense (made : Int) (sl : List ASlot) : Prop where
  all : AllUsed sl sl.length
  len : (sl.length : Int) = 15 + made
theorem Dense.first : Dense 0 (firstS 15) := ⟨fun j x _ hx => by rw [(firstS_some hx).2], by simp [firstS_len]⟩
theorem Dense.lowest {made : Int} {sl : List ASlot} (h : Dense made sl) : lowestF sl = sl.length :=
  (lowestF_is sl).eq ⟨Nat.le_refl _, h.all, fun e => absurd e (Nat.lt_irrefl _)⟩
/-- What a first Intern of a name leaves. -/
structure Told (made : Int) (n : ByteArray) (r : IRes) : Prop where
  err : r.err = 0
  dense : Dense r.made r.sl
  id : ∃ j : Nat, r.id = (j : Int) ∧ findF r.sl n = some j
  lo : made ≤ r.made
  hi : r.made ≤ made + 1
theorem findF_snoc {sl : List ASlot} {n : ByteArray} (h : findF sl n = none) : findF (sl ++ [⟨n, true, false⟩]) n = some sl.length := by
  unfold findF at h ⊢
  have hx : isN n ⟨n, true, false⟩ = true := isN_iff.2 ⟨rfl, rfl⟩
  rw [List.findIdx?_append, h]
  simp [hx]
theorem told_of {lim made : Int} {sl : List ASlot} {n : ByteArray} (h : Dense made sl) (hl : 15 + made < lim) (hn : n.size ≤ 64) : Told made n (internF lim made sl n) := by
  have hm := internF_made lim made sl n
  revert hm
  unfold internF
  rw [if_neg (by omega)]
  cases hf : findF sl n with
  | some j => intro hm; exact ⟨rfl, h, ⟨j, rfl, hf⟩, hm.1, hm.2⟩
  | none =>
    have hlo := h.lowest
    have hlen := h.len
    dsimp only
    rw [if_pos (by rw [hlo]; omega), hlo]
    intro hm
    have hp : putS sl sl.length n = sl ++ [⟨n, true, false⟩] := by simp [putS]
    refine ⟨rfl, ⟨?_, ?_⟩, ⟨sl.length, rfl, ?_⟩, hm.1, hm.2⟩
    · intro j x hj hx
      dsimp only at hj hx
      rw [hp] at hj hx
      rw [List.getElem?_append] at hx
      split at hx
      · rename_i hlt; exact h.all j x hlt hx
      · rcases hq : j - sl.length with _ | q
        · rw [hq] at hx; simp at hx; subst hx; rfl
        · rw [hq] at hx; simp at hx
    · dsimp only
      rw [hp]
      simp
      omega
    · dsimp only
      rw [hp]
      exact findF_snoc hf
theorem Told.name {made : Int} {n : ByteArray} {r : IRes} (h : Told made n r) : nameS r.sl r.id = n ∧ errS r.sl r.id = 0 := by
  obtain ⟨j, hj, hf⟩ := h.id
  obtain ⟨x, hx, hu, hn⟩ := findF_some hf
  have hs : slotAt r.sl r.id = some x := by
    unfold slotAt
    rw [hj, if_pos (by omega), Int.toNat_natCast, hx, Option.filter_some, if_pos (by simpa using hu)]
  unfold nameS errS
  rw [hs]
  exact ⟨hn, rfl⟩
theorem Told.find {made : Int} {n : ByteArray} {r : IRes} (h : Told made n r) : findI r.sl n = r.id ∧ findB r.sl n = true := by
  obtain ⟨j, hj, hf⟩ := h.id
  unfold findI findB
  rw [hf, hj]
  exact ⟨rfl, rfl⟩
theorem Told.again {lim made : Int} {n : ByteArray} {r : IRes} (h : Told made n r) (hn : n.size ≤ 64) : internF lim r.made r.sl n = r := by
  obtain ⟨j, hj, hf⟩ := h.id
  have he := h.err
  unfold internF
  rw [if_neg (by omega), hf]
  cases r
  simp_all

/-- The table behind k names. -/
def TellR (b : Nat) (k : Nat) (w0 w : World) : Prop := ∃ S made sl, St S b 16384 made sl w0 w ∧ Dense made sl ∧ 0 ≤ made ∧ made ≤ (k : Int)

end Go.Proofs.YtoppfhbpmmepaaaDoor.atoms
