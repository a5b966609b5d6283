
/- Selection by keys: Add and Drop, whatever they answer. -/
import Derived.Test.YthgjedcelcanbaaIdx32
namespace Go.Proofs.Ythgjedcelcanbaa.idx
set_option maxRecDepth 100000
open Go.RowKit Go.Proofs.Ythgjedcelcanbaa.own Go.Lib Go.Maps Go.WideMaps
/-- A table's plain content: its entries, and the places that come next. -/
structure St where
  L : List En
  lo : Int
  hi : Int
def addS (s : St) (i : Int) (k : Ky) (f : Bool) : Int × St :=
  if (idF i s.L).isSome = true then (5, s)
  else if 4096 ≤ s.L.length then (2, s)
  else (0, ⟨insF f (newE i k f s.lo s.hi) s.L, if f = true then s.lo - 1 else s.lo, if f = true then s.hi else s.hi + 1⟩)
def outF (i : Int) (L : List En) : List En := L.filter (fun e => decide (e.id ≠ i))
def dropS (s : St) (i : Int) : Int × St := if (idF i s.L).isSome = true then (0, ⟨outF i s.L, s.lo, s.hi⟩) else (4, s)
abbrev TabS (B b N : Nat) (s : St) (W : World) : Prop := TabB B b N s.L s.lo s.hi W
section
variable {B b N : Nat} {s : St} {w : World}
theorem TabS.more (h : TabS B b N s w) (hN : N + 1 ≤ 1000000) : TabS B b (N + 1) s w := by
  obtain ⟨mr, mi, ks, ao, cap, nr, ni, Dr, Di, h1, h2⟩ := h
  exact ⟨mr, mi, ks, ao, cap, nr, ni, Dr, Di, h1.more hN, h2⟩
theorem TabS.alone (h : TabS B b N s w) : Alone s.L := by
  obtain ⟨mr, mi, ks, ao, cap, nr, ni, Dr, Di, h1, h2⟩ := h
  exact h1.alone
theorem TabS.between (h : TabS B b N s w) : Between s.L s.lo s.hi := by
  obtain ⟨mr, mi, ks, ao, cap, nr, ni, Dr, Di, h1, h2⟩ := h
  exact h1.pl
theorem TabS.few (h : TabS B b N s w) : s.L.length ≤ 4096 := by
  obtain ⟨mr, mi, ks, ao, cap, nr, ni, Dr, Di, h1, h2⟩ := h
  exact h1.few
theorem TabS.zero (h : TabS B b N s w) : ∀ e ∈ s.L, e.key.k = 0 → e.key = zK := by
  obtain ⟨mr, mi, ks, ao, cap, nr, ni, Dr, Di, h1, h2⟩ := h
  exact fun e he => (h1.keys e he).2.2
theorem add_all (h : TabS B b N s w) (hN : N + 1 ≤ 1000000) (i : Int) (hi : Fit i) (k : Ky) (hk : k.Ok) (f : Bool) :
    Calls Try.prog 14 #[.pointer (some ⟨b, 0, none⟩), .int .i64 i, kyV k, .bool f] w fun e w' => e = .returned (.int .i64 (addS s i k f).1) ∧ TabS B b (N + 1) (addS s i k f).2 w' ∧ Only (Ixy B w) w w' := by
  cases hx : idF i s.L with
  | some x =>
    have he : addS s i k f = (5, s) := by unfold addS; rw [hx]; rfl
    rw [he]
    obtain ⟨mr, mi, ks, ao, cap, nr, ni, Dr, Di, h1, h2⟩ := id h
    refine (add_there h1 i hi k f x hx).mono ?_
    rintro e w1 ⟨rfl, ho⟩
    exact ⟨rfl, TabS.more (s := s) (TabB.later h ho) hN, ho.mono (fun _ _ e => e.elim)⟩
  | none =>
    by_cases hn : 4096 ≤ s.L.length
    · have he : addS s i k f = (2, s) := by unfold addS; rw [hx, if_neg (by simp), if_pos hn]
      rw [he]
      obtain ⟨mr, mi, ks, ao, cap, nr, ni, Dr, Di, h1, h2⟩ := id h
      refine (add_full h1 i hi k f hx hn).mono ?_
      rintro e w1 ⟨rfl, ho⟩
      exact ⟨rfl, TabS.more (s := s) (TabB.later h ho) hN, ho.mono (fun _ _ e => e.elim)⟩
    · have he : addS s i k f = (0, ⟨insF f (newE i k f s.lo s.hi) s.L, if f = true then s.lo - 1 else s.lo, if f = true then s.hi else s.hi + 1⟩) := by unfold addS; rw [hx, if_neg (by simp), if_neg hn]
      rw [he]
      exact add_tab h hN i hi k hk f hx (by omega)
theorem drop_all (h : TabS B b N s w) (hN : N + 1 ≤ 1000000) (i : Int) (hi : Fit i) :
    Calls Try.prog 13 #[.pointer (some ⟨b, 0, none⟩), .int .i64 i] w fun e w' => e = .returned (.int .i64 (dropS s i).1) ∧ TabS B b (N + 1) (dropS s i).2 w' ∧ Only (Ixy B w) w w' := by
  cases hx : idF i s.L with
  | none =>
    have he : dropS s i = (4, s) := by unfold dropS; rw [hx]; rfl
    rw [he]
    refine (drop_no h i hi hx).mono ?_
    rintro e w1 ⟨rfl, ho⟩
    exact ⟨rfl, TabS.more (s := s) (TabB.later h ho) hN, ho.mono (fun _ _ e => e.elim)⟩
  | some x =>
    have he : dropS s i = (0, ⟨outF i s.L, s.lo, s.hi⟩) := by unfold dropS; rw [hx]; rfl
    rw [he]
    obtain ⟨hm, rfl⟩ := idF_some hx
    obtain ⟨A, C, hL⟩ := List.append_of_mem hm
    have hal := h.alone
    rw [hL] at hal
    have ho : outF x.id s.L = A ++ C := by unfold outF; rw [hL]; exact alone_out hal
    rw [ho]
    obtain ⟨mr, mi, ks, ao, cap, nr, ni, Dr, Di, h1, h2⟩ := h
    rw [hL] at h1
    exact drop_yes h1 h2 hN
end
end Go.Proofs.Ythgjedcelcanbaa.idx
