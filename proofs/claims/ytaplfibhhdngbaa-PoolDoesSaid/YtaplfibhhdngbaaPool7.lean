/- A pool as an object, and the calls that only read its fields. -/
import Derived.Test.YtaplfibhhdngbaaPool6
import Derived.Test.YtaplfibhhdngbaaPoolMath
namespace Go.Proofs.Ytaplfibhhdngbaa.pools
open Go.RowKit Go.Proofs.Ytaplfibhhdngbaa.own Go.Proofs.Ytaplfibhhdngbaa.trees Go.Proofs.Ytaplfibhhdngbaa.rows

def enc64 (x : Nat) : List Value := [.int .i64 x]
theorem lies64 : Lies enc64 1 := ⟨fun _ => rfl, by intro x u hu; simp [enc64] at hu; subst hu; rfl, by omega⟩
/-- A pool's struct. -/
def poolCells (lim : Nat) (F : List Bool) (so : Option Addr) (n scap sz : Nat) (ao : Option Addr) (m cap : Nat) : Array Value :=
  #[.int .i64 lim, .int .i64 F.length, .slice so n scap, .int .i64 sz, .slice ao m cap, .int .i64 (count F)]
/-- A pool at block b, in the blocks S, all of them from B on: cells F (true: free), segments that begin at St. -/
structure PoolAt (Sm S : Nat → Prop) (B b k sz : Nat) (so : Option Addr) (scap : Nat) (ao : Option Addr) (cap : Nat) (T : List Int) (f : Nat → Nat) (lim : Nat) (F : List Bool) (St : List Nat) (w : World) : Prop where
  blk : w.heap[b]? = some (.cells (poolCells lim F so St.length scap sz ao T.length cap) 56 (0, 0))
  starts : RowOf enc64 1 3 B so scap St w
  most : MostP B ao cap T w
  tree : (sz = 0 ∧ ao = none ∧ cap = 0 ∧ T = []) ∨ (Tree k T ∧ sz = 2 ^ k)
  few : sz ≤ 1048576
  small : Small T
  leaf : ∀ q, q < sz → T.getD (sz + q) 0 = (f q : Int)
  rest : ∀ q, sz ≤ q → f q = 0
  inv : Inv (fun j => F.getD j false) Sm f
  room : F.length ≤ sz
  limit : F.length ≤ lim ∧ lim ≤ 1048576
  first : St[0]? = some 0
  rising : St.Pairwise (· ≤ ·)
  below : ∀ s, s ∈ St → s ≤ F.length
  segs : St.length ≤ 4096
  inS : S b ∧ (∀ g, so = some g → S g.block) ∧ (∀ g, ao = some g → S g.block)
  own : ∀ j, S j → B ≤ j ∧ j < w.heap.size
  apart : (∀ g, so = some g → g.block ≠ b) ∧ (∀ g, ao = some g → g.block ≠ b) ∧ (∀ g g', so = some g → ao = some g' → g.block ≠ g'.block)

variable {Sm S : Nat → Prop} {B b k sz : Nat} {so : Option Addr} {scap : Nat} {ao : Option Addr} {cap : Nat} {T : List Int} {f : Nat → Nat} {lim : Nat} {F : List Bool} {St : List Nat} {w : World}
theorem PoolAt.c0 (h : PoolAt Sm S B b k sz so scap ao cap T f lim F St w) : w.cell? ⟨b, 0, none⟩ = some (.int .i64 lim) := by rw [cell_of_blk h.blk]; rfl
theorem PoolAt.c1 (h : PoolAt Sm S B b k sz so scap ao cap T f lim F St w) : w.cell? ⟨b, 1, none⟩ = some (.int .i64 F.length) := by rw [cell_of_blk h.blk]; rfl
theorem PoolAt.c2 (h : PoolAt Sm S B b k sz so scap ao cap T f lim F St w) : w.cell? ⟨b, 2, none⟩ = some (.slice so St.length scap) := by rw [cell_of_blk h.blk]; rfl
theorem PoolAt.c3 (h : PoolAt Sm S B b k sz so scap ao cap T f lim F St w) : w.cell? ⟨b, 3, none⟩ = some (.int .i64 sz) := by rw [cell_of_blk h.blk]; rfl
theorem PoolAt.c4 (h : PoolAt Sm S B b k sz so scap ao cap T f lim F St w) : w.cell? ⟨b, 4, none⟩ = some (.slice ao T.length cap) := by rw [cell_of_blk h.blk]; rfl
theorem PoolAt.c5 (h : PoolAt Sm S B b k sz so scap ao cap T f lim F St w) : w.cell? ⟨b, 5, none⟩ = some (.int .i64 (count F)) := by rw [cell_of_blk h.blk]; rfl
theorem PoolAt.runs (h : PoolAt Sm S B b k sz so scap ao cap T f lim F St w) (hs : 0 < sz) : Runs B b 3 k sz ao cap T w := by
  rcases h.tree with ⟨h0, _⟩ | ⟨h1, h2⟩
  · omega
  · exact ⟨h.c3, h.c4, h.most, h1, h2, h.few, h.small⟩
theorem PoolAt.one (h : PoolAt Sm S B b k sz so scap ao cap T f lim F St w) : 0 < St.length := (List.getElem?_eq_some_iff.1 h.first).1
theorem PoolAt.start (h : PoolAt Sm S B b k sz so scap ao cap T f lim F St w) (i s : Nat) (hi : St[i]? = some s) : ∃ g, so = some ⟨g, 0, none⟩ ∧ w.cell? ⟨g, i, none⟩ = some (.int .i64 s) := by
  obtain ⟨g, hg, _, hc⟩ := h.starts.at lies64 i s hi
  have h0 := (hc 0 (by omega)).1
  simp only [Nat.mul_one, Nat.add_zero, enc64, List.getElem?_cons_zero] at h0
  exact ⟨g, hg, h0⟩
theorem PoolAt.drewN (h : PoolAt Sm S B b k sz so scap ao cap T f lim F St w) (n : Nat) : PoolAt Sm S B b k sz so scap ao cap T f lim F St (w.drewN n) :=
  ⟨h.blk, h.starts.only (Only.drewN (fun _ => False) w n) (fun _ _ e => e), h.most.only (Only.drewN (fun _ => False) w n) (fun _ _ e => e), h.tree, h.few, h.small, h.leaf, h.rest, h.inv, h.room, h.limit, h.first, h.rising, h.below, h.segs, h.inS, h.own, h.apart⟩
/-- A pool, whatever its tree looks like. -/
def Pool (S : Nat → Prop) (B b lim : Nat) (F : List Bool) (St : List Nat) (w : World) : Prop := ∃ k sz so scap ao cap T f, PoolAt (· ∈ St) S B b k sz so scap ao cap T f lim F St w

theorem closed_nil (w : World) : Calls Try.prog 37 #[.pointer none] w fun e w' => e = .returned (.bool true) ∧ w = w' := by
  go_enter Try.func37, Try.ntmps37
  go_wp2_with fail
  go_ret
  exact ⟨rfl, rfl⟩
theorem closed_no (h : PoolAt Sm S B b k sz so scap ao cap T f lim F St w) : Calls Try.prog 37 #[.pointer (some ⟨b, 0, none⟩)] w fun e w' => e = .returned (.bool false) ∧ w = w' := by
  have c2 := h.c2
  have h1 := h.one
  have hb : ((St.length : Int) == 0) = false := by simp; (intro e; rw [e] at h1; simp at h1)
  clear h
  generalize St.length = n at *
  go_enter Try.func37, Try.ntmps37
  go_wp2_with fail
  go_ret
  exact ⟨rfl, rfl⟩
theorem last_seg (h : PoolAt Sm S B b k sz so scap ao cap T f lim F St w) : Calls Try.prog 39 #[.pointer (some ⟨b, 0, none⟩)] w fun e w' => e = .returned (.int .i64 ((St.length - 1 : Nat) : Int)) ∧ w = w' := by
  have c2 := h.c2
  have h1 := h.one
  have h2 := h.segs
  clear h
  generalize St.length = n at *
  have hs : ((n : Int) - 1) = ((n - 1 : Nat) : Int) := by omega
  go_enter Try.func39, Try.ntmps39
  go_wp2_with fail
  go_ret
  first | exact ⟨rfl, rfl⟩ | exact ⟨by rw [← hs], rfl⟩
theorem has_any (h : PoolAt Sm S B b k sz so scap ao cap T f lim F St w) (a : Int) : Calls Try.prog 46 #[.pointer (some ⟨b, 0, none⟩), .int .i64 a] w fun e w' => e = .returned (.bool (decide (0 ≤ a ∧ a < F.length))) ∧ w = w' := by
  have c1 := h.c1
  clear h
  generalize F.length = n at *
  by_cases h0 : a < 0
  · have hd : decide (0 ≤ a ∧ a < (n : Int)) = false := by simp; omega
    rw [hd]
    go_enter Try.func46, Try.ntmps46
    go_wp2_with fail
    go_ret
    exact ⟨rfl, rfl⟩
  · have h0' : 0 ≤ a := by omega
    have hd : decide (0 ≤ a ∧ a < (n : Int)) = decide (a < (n : Int)) := by simp [h0']
    rw [hd]
    go_enter Try.func46, Try.ntmps46
    go_wp2_with fail
    go_ret
    exact ⟨rfl, rfl⟩
end Go.Proofs.Ytaplfibhhdngbaa.pools
