/-
  DERIVED. GIVEN WITH THE SEED: THE CARDS: each row of YtfhijcdibigblaaDoorRows.lean that lists a variable, with what it lists TIED to the program's text (the seventh form; the later family's looks); each row that meets fmt, with fmt's text TOLD by the authors' own Lean function (tested against real Go, not proved from fmt's source: count such statements apart). THE CARD IS WHAT COUNTS. Prove the row's statement (the work); the ties are given (YtfhijcdibigblaaDoorTie.lean); close each card by the builder's one call (the guide's Derived/Test/ToyasCard.lean, 'card_holds'). Laid BY PROGRAM, IN A SANDBOX (cutbox-door.mjs). By AI agents, Wed Nov 11 2026. No macro, syntax, notation, axiom, sorry.
-/
import Derived.Test.YtfhijcdibigblaaDoorRows
import GoSem.ClaimSeven
namespace Go.Proofs.YtfhijcdibigblaaDoor
namespace Rows

/-- THE TIED CARD OF 'elenchuslaw04.AtomDoes'. -/
def atomDoesCard : Claim7 := { stood := { row := atomDoesRow, standIns := [], harness := (true, "4bfb9c6e397ba4fce581cd451db7fcc0424f2435c427eef831b945ee5fffd62e"), looks := false }, kinds := [], alts := [], laidByText := true, laidKinds := [.data], laidTests := true, laidLooks := .later }
def AtomDoesCardSaid : Prop := Claim7.holds Tryd.pinned (.plain (OpenSpec.ofChange atomDoesSpec)) atomDoesCard

/-- THE TIED CARD OF 'elenchuslaw04.AtomKeeps'. -/
def atomKeepsCard : Claim7 := { stood := { row := atomKeepsRow, standIns := [], harness := (true, "4bfb9c6e397ba4fce581cd451db7fcc0424f2435c427eef831b945ee5fffd62e"), looks := false }, kinds := [], alts := [], laidByText := true, laidKinds := [.data], laidTests := true, laidLooks := .later }
def AtomKeepsCardSaid : Prop := Claim7.holds Tryd.pinned (.plain (OpenSpec.ofChange atomKeepsSpec)) atomKeepsCard

/-- THE TIED CARD OF 'elenchuslaw04.AtomReserved'. -/
def atomReservedCard : Claim7 := { stood := { row := atomReservedRow, standIns := [], harness := (true, "4bfb9c6e397ba4fce581cd451db7fcc0424f2435c427eef831b945ee5fffd62e"), looks := false }, kinds := [], alts := [], laidByText := true, laidKinds := [.data], laidTests := true, laidLooks := .later }
def AtomReservedCardSaid : Prop := Claim7.holds Tryd.pinned (.plain (OpenSpec.ofChange atomReservedSpec)) atomReservedCard

/-- THE TIED CARD OF 'elenchuslaw04.AtomNobody'. -/
def atomNobodyCard : Claim7 := { stood := { row := atomNobodyRow, standIns := [], harness := (true, "4bfb9c6e397ba4fce581cd451db7fcc0424f2435c427eef831b945ee5fffd62e"), looks := false }, kinds := [], alts := [], laidByText := true, laidKinds := [.data], laidTests := true, laidLooks := .later }
def AtomNobodyCardSaid : Prop := Claim7.holds Tryd.pinned (.plain (OpenSpec.ofChange atomNobodySpec)) atomNobodyCard

/-- THE TIED CARD OF 'elenchuslaw04.AtomTells'. -/
def atomTellsCard : Claim7 := { stood := { row := atomTellsRow, standIns := [], harness := (true, "4bfb9c6e397ba4fce581cd451db7fcc0424f2435c427eef831b945ee5fffd62e"), looks := false }, kinds := [], alts := [], laidByText := true, laidKinds := [.data], laidTests := true, laidLooks := .later }
def AtomTellsCardSaid : Prop := Claim7.holds Tryd.pinned (.plain (OpenSpec.ofChange atomTellsSpec)) atomTellsCard

/-- THE SECOND FORM's CARD OF 'elenchuslaw04.AtomDoes'. -/
def atomDoesUptoCard : Claim7 := { stood := { row := atomDoesUptoRow, standIns := [], harness := (true, "4bfb9c6e397ba4fce581cd451db7fcc0424f2435c427eef831b945ee5fffd62e"), looks := false }, kinds := [], alts := [], laidByText := true, laidKinds := [.data], laidTests := true, laidLooks := .later }
def AtomDoesUptoCardSaid : Prop := Claim7.holds Tryd.pinned (.plain (OpenSpec.upto atomDoesSpec)) atomDoesUptoCard

/-- THE SECOND FORM's CARD OF 'elenchuslaw04.AtomKeeps'. -/
def atomKeepsUptoCard : Claim7 := { stood := { row := atomKeepsUptoRow, standIns := [], harness := (true, "4bfb9c6e397ba4fce581cd451db7fcc0424f2435c427eef831b945ee5fffd62e"), looks := false }, kinds := [], alts := [], laidByText := true, laidKinds := [.data], laidTests := true, laidLooks := .later }
def AtomKeepsUptoCardSaid : Prop := Claim7.holds Tryd.pinned (.plain (OpenSpec.upto atomKeepsSpec)) atomKeepsUptoCard

/-- THE SECOND FORM's CARD OF 'elenchuslaw04.AtomReserved'. -/
def atomReservedUptoCard : Claim7 := { stood := { row := atomReservedUptoRow, standIns := [], harness := (true, "4bfb9c6e397ba4fce581cd451db7fcc0424f2435c427eef831b945ee5fffd62e"), looks := false }, kinds := [], alts := [], laidByText := true, laidKinds := [.data], laidTests := true, laidLooks := .later }
def AtomReservedUptoCardSaid : Prop := Claim7.holds Tryd.pinned (.plain (OpenSpec.upto atomReservedSpec)) atomReservedUptoCard

/-- THE SECOND FORM's CARD OF 'elenchuslaw04.AtomNobody'. -/
def atomNobodyUptoCard : Claim7 := { stood := { row := atomNobodyUptoRow, standIns := [], harness := (true, "4bfb9c6e397ba4fce581cd451db7fcc0424f2435c427eef831b945ee5fffd62e"), looks := false }, kinds := [], alts := [], laidByText := true, laidKinds := [.data], laidTests := true, laidLooks := .later }
def AtomNobodyUptoCardSaid : Prop := Claim7.holds Tryd.pinned (.plain (OpenSpec.upto atomNobodySpec)) atomNobodyUptoCard

/-- THE SECOND FORM's CARD OF 'elenchuslaw04.AtomTells'. -/
def atomTellsUptoCard : Claim7 := { stood := { row := atomTellsUptoRow, standIns := [], harness := (true, "4bfb9c6e397ba4fce581cd451db7fcc0424f2435c427eef831b945ee5fffd62e"), looks := false }, kinds := [], alts := [], laidByText := true, laidKinds := [.data], laidTests := true, laidLooks := .later }
def AtomTellsUptoCardSaid : Prop := Claim7.holds Tryd.pinned (.plain (OpenSpec.upto atomTellsSpec)) atomTellsUptoCard
end Rows
end Go.Proofs.YtfhijcdibigblaaDoor
