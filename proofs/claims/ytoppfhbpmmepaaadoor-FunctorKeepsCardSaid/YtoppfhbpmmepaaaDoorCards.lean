/-
  DERIVED. GIVEN WITH THE SEED: THE CARDS: each row of YtoppfhbpmmepaaaDoorRows.lean that lists a variable, with what it lists TIED to the program's text (the seventh form; the later family's looks); each row that meets fmt, with fmt's text TOLD by the authors' own Lean function (tested against real Go, not proved from fmt's source: count such statements apart). THE CARD IS WHAT COUNTS. Prove the row's statement (the work); the ties are given (YtoppfhbpmmepaaaDoorTie.lean); close each card by the builder's one call (the guide's Derived/Test/ToyasCard.lean, 'card_holds'). Laid BY PROGRAM, IN A SANDBOX (cutbox-door.mjs). By AI agents, Wed Nov 11 2026. No macro, syntax, notation, axiom, sorry.
-/
import Derived.Test.YtoppfhbpmmepaaaDoorRows
import GoSem.ClaimSeven
namespace Go.Proofs.YtoppfhbpmmepaaaDoor
namespace Rows

/-- THE TIED CARD OF 'elenchuslaw05.FunctorDoes'. -/
def functorDoesCard : Claim7 := { stood := { row := functorDoesRow, standIns := [], harness := (true, "406b9d864d2a0454e83bb6438990494ca6a71d534d672eaa8dda90b5b0afb88e"), looks := false }, kinds := [], alts := [], laidByText := true, laidKinds := [.data], laidTests := true, laidLooks := .later }
def FunctorDoesCardSaid : Prop := Claim7.holds Tryd.pinned (.plain (OpenSpec.ofChange functorDoesSpec)) functorDoesCard

/-- THE TIED CARD OF 'elenchuslaw05.FunctorKeeps'. -/
def functorKeepsCard : Claim7 := { stood := { row := functorKeepsRow, standIns := [], harness := (true, "406b9d864d2a0454e83bb6438990494ca6a71d534d672eaa8dda90b5b0afb88e"), looks := false }, kinds := [], alts := [], laidByText := true, laidKinds := [.data], laidTests := true, laidLooks := .later }
def FunctorKeepsCardSaid : Prop := Claim7.holds Tryd.pinned (.plain (OpenSpec.ofChange functorKeepsSpec)) functorKeepsCard

/-- THE TIED CARD OF 'elenchuslaw05.FunctorNobody'. -/
def functorNobodyCard : Claim7 := { stood := { row := functorNobodyRow, standIns := [], harness := (true, "406b9d864d2a0454e83bb6438990494ca6a71d534d672eaa8dda90b5b0afb88e"), looks := false }, kinds := [], alts := [], laidByText := true, laidKinds := [.data], laidTests := true, laidLooks := .later }
def FunctorNobodyCardSaid : Prop := Claim7.holds Tryd.pinned (.plain (OpenSpec.ofChange functorNobodySpec)) functorNobodyCard

/-- THE TIED CARD OF 'elenchuslaw05.FunctorApart'. -/
def functorApartCard : Claim7 := { stood := { row := functorApartRow, standIns := [], harness := (true, "406b9d864d2a0454e83bb6438990494ca6a71d534d672eaa8dda90b5b0afb88e"), looks := false }, kinds := [], alts := [], laidByText := true, laidKinds := [.data], laidTests := true, laidLooks := .later }
def FunctorApartCardSaid : Prop := Claim7.holds Tryd.pinned (.plain (OpenSpec.ofChange functorApartSpec)) functorApartCard

/-- THE SECOND FORM's CARD OF 'elenchuslaw05.FunctorDoes'. -/
def functorDoesUptoCard : Claim7 := { stood := { row := functorDoesUptoRow, standIns := [], harness := (true, "406b9d864d2a0454e83bb6438990494ca6a71d534d672eaa8dda90b5b0afb88e"), looks := false }, kinds := [], alts := [], laidByText := true, laidKinds := [.data], laidTests := true, laidLooks := .later }
def FunctorDoesUptoCardSaid : Prop := Claim7.holds Tryd.pinned (.plain (OpenSpec.upto functorDoesSpec)) functorDoesUptoCard

/-- THE SECOND FORM's CARD OF 'elenchuslaw05.FunctorKeeps'. -/
def functorKeepsUptoCard : Claim7 := { stood := { row := functorKeepsUptoRow, standIns := [], harness := (true, "406b9d864d2a0454e83bb6438990494ca6a71d534d672eaa8dda90b5b0afb88e"), looks := false }, kinds := [], alts := [], laidByText := true, laidKinds := [.data], laidTests := true, laidLooks := .later }
def FunctorKeepsUptoCardSaid : Prop := Claim7.holds Tryd.pinned (.plain (OpenSpec.upto functorKeepsSpec)) functorKeepsUptoCard

/-- THE SECOND FORM's CARD OF 'elenchuslaw05.FunctorNobody'. -/
def functorNobodyUptoCard : Claim7 := { stood := { row := functorNobodyUptoRow, standIns := [], harness := (true, "406b9d864d2a0454e83bb6438990494ca6a71d534d672eaa8dda90b5b0afb88e"), looks := false }, kinds := [], alts := [], laidByText := true, laidKinds := [.data], laidTests := true, laidLooks := .later }
def FunctorNobodyUptoCardSaid : Prop := Claim7.holds Tryd.pinned (.plain (OpenSpec.upto functorNobodySpec)) functorNobodyUptoCard

/-- THE SECOND FORM's CARD OF 'elenchuslaw05.FunctorApart'. -/
def functorApartUptoCard : Claim7 := { stood := { row := functorApartUptoRow, standIns := [], harness := (true, "406b9d864d2a0454e83bb6438990494ca6a71d534d672eaa8dda90b5b0afb88e"), looks := false }, kinds := [], alts := [], laidByText := true, laidKinds := [.data], laidTests := true, laidLooks := .later }
def FunctorApartUptoCardSaid : Prop := Claim7.holds Tryd.pinned (.plain (OpenSpec.upto functorApartSpec)) functorApartUptoCard
end Rows
end Go.Proofs.YtoppfhbpmmepaaaDoor
