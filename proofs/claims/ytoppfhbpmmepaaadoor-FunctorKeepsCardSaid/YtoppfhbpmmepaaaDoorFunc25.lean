/- FunctorKeeps: the list of numbers beside the functors; where the list is long. -/
import Derived.Test.YtoppfhbpmmepaaaDoorFunc24
import Derived.Deep.RegionHeld3
namespace Go.Proofs.YtoppfhbpmmepaaaDoor.functors
open Go.RowKit Go.Proofs.YtoppfhbpmmepaaaDoor.own Go.Maps
open Go.Proofs.YtoppfhbpmmepaaaDoor.atoms (IdsP IdsOut encI liesI infoI OpA ArgOps)
variable {SA SF : Nat → Prop} {ta b : Nat} {la made made' lim : Int} {al al' : List atoms.ASlot} {sl sl' : List FSlot} {w0 w w' : World} {low low' : Nat}
/-- What neither owns was turned. -/
theorem FSt.still {S' : Nat → Prop} (h : FSt SA SF ta b la made al lim low sl w0 w) (ho : Only S' w w') (hS : ∀ k, SA k ∨ SF k → ¬ S' k) (hg : ¬ S' 0) (hb : Below w0.heap.size w w') : FSt SA SF ta b la made al lim low sl w0 w' :=
  ⟨h.at_.still ho (fun k hk => hS k (.inl hk)) hg hb, h.fn.only ho (fun k hk => hS k (.inr hk)), h.apart, h.free⟩
theorem FSt.own_lt (h : FSt SA SF ta b la made al lim low sl w0 w) {k : Nat} (hk : SA k ∨ SF k) : w0.heap.size ≤ k ∧ k < w.heap.size := by
  rcases hk with hk | hk
  · exact h.at_.tab.bound.2.2.2 k hk
  · exact h.fn.lt hk
/-- A list of numbers that neither owns, when the pair came on. -/
theorem Moved.ids {io : Option Addr} {icap : Nat} {ids : List Int} (h : Moved SA SF ta b la made al lim low sl w0 w w') (hr : IdsP w0.heap.size io icap ids w) (ho : IdsOut (fun k => SA k ∨ SF k) io) :
    ∃ SA' SF', FSt SA' SF' ta b la made al lim low sl w0 w' ∧ IdsP w0.heap.size io icap ids w' ∧ IdsOut (fun k => SA' k ∨ SF' k) io := by
  obtain ⟨SA', SF', h1, h2, h3⟩ := h
  refine ⟨SA', SF', h1, hr.only h3 ho, fun g hg e => ?_⟩
  rcases h2 _ e with e | e
  · exact ho g hg e
  · have := (hr.head g hg).2.2; omega
/-- The functors and the list through the law's rounds. -/
def KeepF (ta b : Nat) (os : List OpA) (io : Option Addr) (icap : Nat) (ids : List Int) (most q : Nat) (w0 w : World) : Prop := ∃ SA SF low made al sl, FSt SA SF ta b 16384 made al 16384 low sl w0 w ∧ 0 ≤ made ∧ made ≤ (most : Int) ∧ IdsP w0.heap.size io icap ids w ∧ IdsOut (fun k => SA k ∨ SF k) io ∧ KInv os ids al sl q
/-- Behind the append of a number. -/
theorem keepF_add {os : List OpA} {io io' : Option Addr} {icap icap' : Nat} {ids : List Int} {id : Int} {o : OpA} {most : Nat} (h : FSt SA SF ta b 16384 made al 16384 low sl w0 w) (h0 : 0 ≤ made) (h1 : made ≤ (most : Int)) (hr : IdsP w0.heap.size io icap ids w) (ho : IdsOut (fun k => SA k ∨ SF k) io) (hI : KInv os ids al sl 0)
    (hn : os[ids.length]? = some o) (hi : 0 ≤ id → FSits al sl o.n o.x id) (hr' : IdsP w0.heap.size io' icap' (ids ++ [id]) w') (o' : Only (RowAt io) w w') (hnew : NewRow w.heap.size io io') (hL : (0 : Nat) < w0.heap.size) : KeepF ta b os io' icap' (ids ++ [id]) most 0 w0 w' := by
  have hb : Below w0.heap.size w w' := o'.below h.at_.below.size (by rintro k _ ⟨g, hg, rfl⟩; exact (hr.head g hg).2.1)
  refine ⟨SA, SF, low, made, al, sl, h.still o' ?_ ?_ hb, h0, h1, hr', ho.append hnew (fun k hk => (h.own_lt hk).2), hI.add hn hi⟩
  · rintro k hk ⟨g, hg, rfl⟩; exact ho g hg hk
  · rintro ⟨g, hg, e⟩; have := (hr.head g hg).2.1; omega
set_option maxRecDepth 100000 in
set_option maxHeartbeats 4000000 in
theorem keeps_far (ao : Option Addr) (cap : Nat) (os : List OpA) (n : Int) (w : World) (hL : atoms.Listed w) (hm : os.length ≤ maxLen) (hlen : 50 < os.length) : Calls Tryd.prog 4 #[.slice ao os.length cap, .int .i64 n] w fun e w' => e = .returned (.bool true) ∧ Below w.heap.size w w' := by
  unfold maxLen at hm
  have HL := Lib.hid hL
  have hnot := Go.Proofs.YtoppfhbpmmepaaaDoor.atoms.run_not
  clear hL
  go_enter Tryd.func4, Tryd.ntmps4
  go_wp2_with fail
  refine (atoms.new_yes 16384 _ (by omega) (by omega)).mono ?_
  rintro e w1 ⟨rfl, t1⟩
  have T1 := Lib.hid (atoms.St.new HL.out t1 (by omega) (by omega))
  clear t1
  generalize hta : w.heap.size = ta at *
  clear hta
  go_wp2_with fail
  refine (any_new T1.out (by omega) (by omega)).mono ?_
  rintro e w2 ⟨rfl, t2⟩
  have T2 := Lib.hid t2
  clear t2
  generalize w1.heap.size + 1 = b at *
  go_wp2_with fail
  refine (lives_any _ T2.out.listed).mono ?_
  rintro e w3 ⟨rfl, b3⟩
  have T3 := Lib.hid (T2.out.quiet (Only.of_below b3 (fun _ => False)) (b3.mono T2.out.below.size))
  clear b3
  go_wp2_with fail
  refine (lives_any _ T3.out.listed).mono ?_
  rintro e w4 ⟨rfl, b4⟩
  have T4 := Lib.hid (T3.out.quiet (Only.of_below b4 (fun _ => False)) (b4.mono T3.out.below.size))
  clear b4
  go_wp2_with fail
  go_ret
  exact ⟨rfl, T4.out.below⟩
end Go.Proofs.YtoppfhbpmmepaaaDoor.functors
