

/- Terms: Check of any term; may, of any. -/
import Derived.Test.YthfilpacmllhpabTerm63
namespace Go.Proofs.Ythfilpacmllhpab.terms
set_option maxRecDepth 100000
open Go.RowKit Go.Proofs.Ythfilpacmllhpab.own Go.Maps
theorem look_Ok {t : T} : (t.lookF 1 4096).1 = 0 ↔ t.Ok := by
  refine ⟨fun h => ?_, fun h => h.look⟩
  obtain ⟨h1, h2, h3, _⟩ := (look_is t 1 4096 (by omega)).ok h
  exact ⟨h1, by omega, by omega⟩
end Go.Proofs.Ythfilpacmllhpab.terms
