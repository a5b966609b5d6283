/- A new table of functors. -/
import Derived.Test.YtoppfhbpmmepaaaDoorFunc7
namespace Go.Proofs.YtoppfhbpmmepaaaDoor.functors
open Go.RowKit Go.Proofs.YtoppfhbpmmepaaaDoor.own Go.Maps
variable {SA SF : Nat → Prop} {ta b : Nat} {la made made' lim : Int} {al al' : List atoms.ASlot} {sl : List FSlot} {w0 w w' : World} {low : Nat}
/-- The world behind New. -/
abbrev newW (w : World) (lim : Int) (ta : Nat) : World := (w.alloc (.map #[] 0)).alloc (.cells #[.int .i64 lim, .pointer (some ⟨ta, 0, none⟩), .slice none 0 0, .map (some w.heap.size), .int .i64 0] 83)
theorem Core.new (h0 : 1 ≤ lim) (h1 : lim ≤ 16384) {B : Nat} (hB : B ≤ w.heap.size) : Core (Grew (fun _ => False) w (newW w lim ta)) B (w.heap.size + 1) lim ta none 0 w.heap.size 0 [] (newW w lim ta) := by
  have hs : (newW w lim ta).heap.size = w.heap.size + 2 := by simp
  refine ⟨?_, RowOf.nil _ _ _ _ _, ⟨.map [], ?_, MapOf.empty⟩, ?_, ?_, by simp, ⟨h0, h1, by simp; omega⟩, ⟨by simp, ?_⟩, ?_, ?_, by omega, ?_⟩
  · have := heap_alloc_new (w.alloc (.map #[] 0)) (.cells #[.int .i64 lim, .pointer (some ⟨ta, 0, none⟩), .slice none 0 0, .map (some w.heap.size), .int .i64 0] 83)
    simpa using this
  · exact (World.ownsMap_made (H := Unit) w Tryd.prog 90 (plainElem Tryd.prog 3)).alloc _
  · intro i j x y hx; simp at hx
  · intro j x hx; simp at hx
  · intro j x hj; omega
  · rintro k (rfl | rfl | ⟨g, hg, _⟩)
    · exact .inr ⟨by omega, by omega⟩
    · exact .inr ⟨by omega, by omega⟩
    · cases hg
  · rintro k (hk | hk)
    · exact hk.elim
    · omega
  · intro g hg; cases hg
theorem new_any (h0 : 1 ≤ lim) (h1 : lim ≤ 16384) (ta : Nat) (w : World) : Calls Tryd.prog 10 #[.int .i64 lim, .pointer (some ⟨ta, 0, none⟩)] w fun e w' => e = .returned (.tuple #[.pointer (some ⟨w.heap.size + 1, 0, none⟩), .int .i64 0]) ∧ w' = newW w lim ta := by
  have hmk : ∀ W : World, (Instr.makeMap 80 none).run Tryd.prog W = .ok (.map (some W.heap.size)) (W.alloc (.map #[] 0)) := fun W => by first | rfl | simp [Instr.makeMap]
  go_enter Tryd.func10, Tryd.ntmps10
  go_wp2_with fail
  go_ret2
  exact ⟨rfl, rfl⟩
/-- A new table beside atoms that are there. -/
theorem FSt.new (h : atoms.St SA ta la made al w0 w) (h0 : 1 ≤ lim) (h1 : lim ≤ 16384) : FSt SA (Grew (fun _ => False) w (newW w lim ta)) ta (w.heap.size + 1) la made al lim 0 [] w0 (newW w lim ta) := by
  have o : Only (fun _ => False) w (newW w lim ta) := (Only.alloc _ _ _).same (Only.alloc _ _ _)
  have hl := h.listed.lt
  have hB := h.below.size
  refine ⟨h.still o (fun _ _ e => e) (fun e => e) (o.below hB (fun _ _ e => e.elim)), ⟨_, _, _, Core.new h0 h1 hB⟩, fun k hk e => ?_, fun e => ?_⟩
  · rcases hk with hk | hk
    · exact hk
    · have := (h.tab.bound.2.2.2 k e).2; omega
  · rcases e with e | e
    · exact e
    · omega
end Go.Proofs.YtoppfhbpmmepaaaDoor.functors
