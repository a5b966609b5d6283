/- Selection by keys: a new table; the next place; the first entry that meets a key. -/
import Derived.Test.YthgjedcelcanbaaIdx10
namespace Go.Proofs.Ythgjedcelcanbaa.idx
set_option maxRecDepth 100000
open Go.RowKit Go.Proofs.Ythgjedcelcanbaa.own Go.Lib Go.Maps Go.WideMaps
theorem zK_ok : zK.Ok := ⟨(by show (Lit.int .i64 0).wf = true; decide), (by show (Lit.int .i64 0).wf = true; decide), Nat.zero_le _⟩
theorem new_any (w : World) : Calls Try.prog 6 #[] w fun e w' => e = .returned (.pointer (some ⟨w.heap.size + 2, 0, none⟩)) ∧ TabI (w.heap.size + 2) w.heap.size (w.heap.size + 1) 0 [] (-1) 0 [] none 0 0 0 (.map []) (.map []) w' ∧ Only (fun _ => False) w w' := by
  obtain ⟨A, hA⟩ : ∃ A, A = w.alloc (.map #[] 0) := ⟨_, rfl⟩
  obtain ⟨C, hC⟩ : ∃ C, C = A.alloc (.map #[] 0) := ⟨_, rfl⟩
  obtain ⟨E, hE⟩ : ∃ E, E = C.alloc (.cells #[.slice none 0 0, .map (some w.heap.size), .map (some (w.heap.size + 1)), .int .i64 (-1), .int .i64 0] 53) := ⟨_, rfl⟩
  have hA0 : A.heap.size = w.heap.size + 1 := by rw [hA]; simp
  have hC0 : C.heap.size = w.heap.size + 2 := by rw [hC]; simp [hA0]
  have oA : Only (fun _ => False) w A := by rw [hA]; exact Only.alloc _ _ _
  have oC : Only (fun _ => False) A C := by rw [hC]; exact Only.alloc _ _ _
  have oE : Only (fun _ => False) C E := by rw [hE]; exact Only.alloc _ _ _
  have h1 : C.ownsMap Try.prog 32 hdR w.heap.size 0 (.map []) := by
    rw [hC]
    refine World.ownsMap.alloc ?_ _
    rw [hA]
    exact World.ownsMap_made (H := Hd) w Try.prog 32 hdR
  have h2 : C.ownsMap Try.prog 3 enR (w.heap.size + 1) 0 (.map []) := by
    rw [hC, ← hA0]
    exact World.ownsMap_made (H := Unit) A Try.prog 3 enR
  have HT : Hid (TabI (w.heap.size + 2) w.heap.size (w.heap.size + 1) 0 [] (-1) 0 [] none 0 0 0 (.map []) (.map []) E ∧ Only (fun _ => False) w E) := Lib.hid ⟨⟨by rw [← hC0, hE]; exact heap_alloc_new C _, RowOf.nil _ _ _ _ _, ownsMap_only h2 oE (fun e => e), IdMap.empty, ownsMap_only h1 oE (fun e => e), RkMap.empty, ⟨(fun p hp => nomatch hp), List.Pairwise.nil⟩, (fun p hp => nomatch hp), (fun e he => nomatch he), (fun p hp => nomatch hp), List.Pairwise.nil, by omega, ⟨List.Pairwise.nil, (fun x hx => nomatch hx), (fun x hx => nomatch hx)⟩, List.Pairwise.nil, (fun e he => nomatch he), Nat.zero_le _, by omega⟩, (oA.same oC).same oE⟩
  have hmk1 : ∀ W : World, (Instr.makeMap 48 none).run Try.prog W = .ok (.map (some W.heap.size)) (W.alloc (.map #[] 0)) := fun W => by first | rfl | simp [Instr.makeMap]
  have hmk2 : ∀ W : World, (Instr.makeMap 49 none).run Try.prog W = .ok (.map (some W.heap.size)) (W.alloc (.map #[] 0)) := fun W => by first | rfl | simp [Instr.makeMap]
  rw [hC, hA] at hE
  clear h1 h2 oA oC oE hA0 hC0 hA hC
  go_enter Try.func6, Try.ntmps6
  go_wp2_with fail
  go_ret
  first
    | (rw [← hE]; exact ⟨rfl, HT.out.1, HT.out.2⟩)
    | (refine ⟨rfl, ?_, ?_⟩ <;> (subst hE; first | exact HT.out.1 | exact HT.out.2))
section
variable {b mr mi N : Nat} {L : List En} {lo hi : Int} {ks : Ks} {ao : Option Addr} {cap nr ni : Nat} {Dr : D2} {Di : D1} {w : World}
theorem place_front (h : TabI b mr mi N L lo hi ks ao cap nr ni Dr Di w) : Calls Try.prog 29 #[.pointer (some ⟨b, 0, none⟩), .bool true] w fun e w' => e = .returned (.int .i64 lo) ∧ w' = w.setCell ⟨b, 3, none⟩ (.int .i64 (lo - 1)) := by
  obtain ⟨c0, c1, c2, c3, c4⟩ := h.cells
  obtain ⟨f0, f3, f4⟩ := h.free
  have hn := h.nums
  have hw1 : IntKind.i64.wrap (lo - 1) = lo - 1 := IntWalk.i64_in _ (by omega)
  have hw2 : IntKind.i64.wrap (lo - 1 + 1) = lo := by rw [IntWalk.i64_in _ (by omega)]; omega
  have hw3 : IntKind.i64.wrap lo = lo := IntWalk.i64_in _ (by omega)
  have hb := h.box
  have c3' : (w.setCell ⟨b, 3, none⟩ (.int .i64 (lo - 1))).cell? ⟨b, 3, none⟩ = some (.int .i64 (lo - 1)) := by rw [cell_of_blk (blk_set hb 3 _)]; rfl
  clear h hn hb
  go_enter Try.func29, Try.ntmps29
  go_wp2_with fail
  go_ret
  exact ⟨by first | rfl | (congr 2; omega), rfl⟩
theorem place_back (h : TabI b mr mi N L lo hi ks ao cap nr ni Dr Di w) : Calls Try.prog 29 #[.pointer (some ⟨b, 0, none⟩), .bool false] w fun e w' => e = .returned (.int .i64 hi) ∧ w' = w.setCell ⟨b, 4, none⟩ (.int .i64 (hi + 1)) := by
  obtain ⟨c0, c1, c2, c3, c4⟩ := h.cells
  obtain ⟨f0, f3, f4⟩ := h.free
  have hn := h.nums
  have hw1 : IntKind.i64.wrap (hi + 1) = hi + 1 := IntWalk.i64_in _ (by omega)
  have hw2 : IntKind.i64.wrap (hi + 1 - 1) = hi := by rw [IntWalk.i64_in _ (by omega)]; omega
  have hw3 : IntKind.i64.wrap hi = hi := IntWalk.i64_in _ (by omega)
  have hb := h.box
  have c4' : (w.setCell ⟨b, 4, none⟩ (.int .i64 (hi + 1))).cell? ⟨b, 4, none⟩ = some (.int .i64 (hi + 1)) := by rw [cell_of_blk (blk_set hb 4 _)]; rfl
  clear h hn hb
  go_enter Try.func29, Try.ntmps29
  go_wp2_with fail
  go_ret
  exact ⟨by first | rfl | (congr 2; omega), rfl⟩
end
def meetB (a k : Ky) : Bool := a.k == 0 || k.k == 0 || eqK a k
/-- The first entry from a place on whose key meets another one. -/
def firstF (p : Int) (k : Ky) (L : List En) : Option En := L.find? (fun e => decide (p ≤ e.pl) && meetB e.key k)
theorem first_any {p : Int} {k : Ky} {L : List En} (hs : Rises L) (hk : k.k = 0) : firstF p k L = fromF p L := by
  rw [from_find hs]
  unfold firstF meetB
  congr 1
  funext e
  simp [hk]
theorem find_cls {p : Int} {k : Ky} {L : List En} (hs : Rises L) : fromF p (cls k L) = L.find? (fun e => decide (p ≤ e.pl) && eqK e.key k) := by
  rw [from_find (cls_rises hs)]
  unfold cls
  rw [List.find?_filter]
  congr 1
  funext e
  cases eqK e.key k <;> simp
theorem find_congr {f g : En → Bool} : ∀ {L : List En}, (∀ e ∈ L, f e = g e) → L.find? f = L.find? g := by
  intro L
  induction L with
  | nil => intro _; rfl
  | cons x r ih =>
    intro h
    rw [List.find?_cons, List.find?_cons, h x (by simp), ih (fun e he => h e (by simp [he]))]
theorem first_two {p : Int} {k : Ky} {L : List En} (hs : Rises L) (hz : ∀ e ∈ L, e.key.k = 0 → e.key = zK) (hk : k.k ≠ 0) : firstF p k L = pickF (fromF p (cls k L)) (fromF p (cls zK L)) := by
  rw [find_cls hs, find_cls hs, ← find_two _ _ hs]
  unfold firstF
  apply find_congr
  intro e he
  unfold meetB
  have h1 : (k.k == 0) = false := by simpa using hk
  have h2 : (e.key.k == 0) = eqK e.key zK := by
    by_cases h : e.key.k = 0
    · rw [hz e he h, eqK_refl]; rfl
    · rw [eqK_ne (fun x => h (by rw [x]; rfl))]; simpa using h
  rw [h1, h2]
  cases decide (p ≤ e.pl) <;> cases eqK e.key zK <;> cases eqK e.key k <;> rfl
end Go.Proofs.Ythgjedcelcanbaa.idx
