

/- Terms: further. -/
import Derived.Test.YthfilpacmllhpabTerm60
import Derived.Test.YthfilpacmllhpabTermD
import Derived.RegionTactic
import Derived.BigQuiet
import Derived.RangeFuncOwn
import Derived.StillTailTactics
namespace Go.Proofs.Ythfilpacmllhpab.terms
set_option maxRecDepth 100000
open Go.RowKit Go.Proofs.Ythfilpacmllhpab.own Go.Maps
/-- Lists under way beside a set of rows. -/
structure WaysM (w : World) (m : Nat) (so : Option Addr) (sc : Nat) (xs : List Ls) (wr : World) : Prop where
  row : LsP w.heap.size so sc xs wr
  own : Only (fun k => k = m) w wr
  lies : ∀ x ∈ xs, Row (fun k => k < w.heap.size ∧ k ≠ m) w x.ao x.l ∧ x.l.length ≤ maxLen
  set : SetC w.heap.size m wr
theorem not_row {w : World} {m : Nat} {so : Option Addr} {sc : Nat} {xs : List Ls} {wr : World} (h : WaysM w m so sc xs wr) : ¬ RowAt so m := by
  rintro ⟨g, rfl, e⟩
  obtain ⟨cur, hb⟩ := ls_block h.row
  obtain ⟨es, clock, hm, _⟩ := h.set
  subst e
  rw [hb] at hm
  cases hm
theorem WaysM.later {w : World} {m : Nat} {so : Option Addr} {sc : Nat} {xs : List Ls} {wr w' : World} (h : WaysM w m so sc xs wr) (ho : Only (fun _ => False) wr w') : WaysM w m so sc xs w' :=
  ⟨h.row.only ho (fun _ _ e => e), h.own.same (ho.mono (fun _ _ e => e.elim)), h.lies, h.set.only ho (fun e => e) (fun _ _ e => e)⟩
end Go.Proofs.Ythfilpacmllhpab.terms
