/-
  NARROWER THAN 'FOR EVERY INPUT', by the rows' own cells (each row's printed sentence says how): BaseStays: loops · BaseNobody: loops.
  DERIVED. THE GIVEN ROWS OF THIS SEAT. 3 by the template 'for every input the law returns true; each argument reads behind the call as it read before'; 0 by the template 'total and deterministic' (their statements: YthfilpacmllhpabTotals.lean).
  GIVEN WITH THE SEED: the statements are not yours to turn. If you find one false, say at which input.
  Laid BY PROGRAM, IN A SANDBOX (cutbox-rows.mjs): the forced cells as the released guide's own fill.sh prints them over the translation 4b7259264de9497b… (all of the seat's roots in one cut). By AI agents, Wed Nov 11 2026. No macro, syntax, notation, axiom, sorry.
-/
import Derived.Test.YthfilpacmllhpabChecked
import GoSem.Claim
import GoSem.ClaimJoined
import GoSem.ClaimMapViews
import Derived.JoinedTies
import Derived.KernelRfl
namespace Go.Proofs.Ythfilpacmllhpab
/- THE CELL 'sum', in the pinned program and in every row, IS THE sha256 OF THE DUMP (.gsa) THAT YthfilpacmllhpabProg.lean LOADS. Nothing in Lean hashes anything: it is a label: what it is worth is what the hold of that sum in a sandbox is worth. -/
noncomputable def Try.pinned : Pinned := { name := "ythfilpacmllhpab", sum := "4b7259264de9497bf4e848aecaa7e8ce964d3a90c98ad303e1e849726731bd02", checked := Try.checked }
namespace Rows
def none {H : Type} : Left H := { results := [], args := [] }

/-- 'elenchuslaw19.BaseStays': WHATEVER THE INPUT: true; the input reads as it did. -/
def baseStaysSpec : ChangeSpec := { name := "baseStays", fn := fun _ => fun
  | [d1, d2] => { results := [.lit (.bool true)], args := [d1, d2] }
  | _ => none }
def baseStaysRow : OpenClaim := { program := "ythfilpacmllhpab", sum := "4b7259264de9497bf4e848aecaa7e8ce964d3a90c98ad303e1e849726731bd02", func := "elenchus/elenchuslaw19.BaseStays", spec := "baseStays", inPlace := ["slices.overlaps[elenchus/index.entry]"], unfollowed := true, recurses := true, loops := true, plainKeys := false, apart := false }
def BaseStaysSaid : Prop := baseStaysRow.holds Try.pinned (OpenSpec.ofChange baseStaysSpec)

/-- ITS FALSE NEIGHBOUR: 'it returns false'. Refute it at one input. -/
def baseStaysWrong : ChangeSpec := { name := "baseStays", fn := fun _ => fun
  | [d1, d2] => { results := [.lit (.bool false)], args := [d1, d2] }
  | _ => none }
def BaseStaysWrongFalsely : Prop := baseStaysRow.holds Try.pinned (OpenSpec.ofChange baseStaysWrong)

/-- 'elenchuslaw19.BaseNobody': WHATEVER THE INPUT: true; the input reads as it did. -/
def baseNobodySpec : ChangeSpec := { name := "baseNobody", fn := fun _ => fun
  | [d] => { results := [.lit (.bool true)], args := [d] }
  | _ => none }
def baseNobodyRow : OpenClaim := { program := "ythfilpacmllhpab", sum := "4b7259264de9497bf4e848aecaa7e8ce964d3a90c98ad303e1e849726731bd02", func := "elenchus/elenchuslaw19.BaseNobody", spec := "baseNobody", inPlace := ["slices.overlaps[elenchus/index.entry]"], unfollowed := true, recurses := true, loops := true, plainKeys := false, apart := false }
def BaseNobodySaid : Prop := baseNobodyRow.holds Try.pinned (OpenSpec.ofChange baseNobodySpec)

/-- ITS FALSE NEIGHBOUR: 'it returns false'. Refute it at one input. -/
def baseNobodyWrong : ChangeSpec := { name := "baseNobody", fn := fun _ => fun
  | [d] => { results := [.lit (.bool false)], args := [d] }
  | _ => none }
def BaseNobodyWrongFalsely : Prop := baseNobodyRow.holds Try.pinned (OpenSpec.ofChange baseNobodyWrong)

/-- 'elenchuslaw19.BaseEnds': WHATEVER THE INPUT: true; the input reads as it did. -/
def baseEndsSpec : ChangeSpec := { name := "baseEnds", fn := fun _ => fun
  | [d] => { results := [.lit (.bool true)], args := [d] }
  | _ => none }
def baseEndsRow : OpenClaim := { program := "ythfilpacmllhpab", sum := "4b7259264de9497bf4e848aecaa7e8ce964d3a90c98ad303e1e849726731bd02", func := "elenchus/elenchuslaw19.BaseEnds", spec := "baseEnds", inPlace := ["slices.overlaps[elenchus/index.entry]"], unfollowed := true, recurses := true, plainKeys := false, apart := false }
def BaseEndsSaid : Prop := baseEndsRow.holds Try.pinned (OpenSpec.ofChange baseEndsSpec)

/-- ITS FALSE NEIGHBOUR: 'it returns false'. Refute it at one input. -/
def baseEndsWrong : ChangeSpec := { name := "baseEnds", fn := fun _ => fun
  | [d] => { results := [.lit (.bool false)], args := [d] }
  | _ => none }
def BaseEndsWrongFalsely : Prop := baseEndsRow.holds Try.pinned (OpenSpec.ofChange baseEndsWrong)

/- THE SECOND FORM. 'bulk': how many values and letters a reading holds, each counted each time it is reached (what is shared counts as often as it is met; a slice's spare places count too). A statement '..UptoSaid' is the law's where the arguments, and the package variables that the reading takes, are together of bulk at most 1048576: NARROWER than '..Said'. Prove '..Said' where nothing that the law and all that it calls make is longer than what came in: it says more and counts as full. Else prove '..UptoSaid'. A law counts once. -/
mutual
def uptoBulk {H : Type} : DataW H → Nat
  | .lit (.string bytes) => bytes.length + 1
  | .lit _ => 1
  | .nil => 1
  | .ptr d => uptoBulk d + 1
  | .slice elems spare => uptoBulkAll elems + uptoBulkAll spare + 1
  | .agg parts => uptoBulkAll parts + 1
  | .iface _ d => uptoBulk d + 1
  | .map entries => uptoBulkEntries entries + 1
  | .held _ => 1
def uptoBulkAll {H : Type} : List (DataW H) → Nat
  | [] => 0
  | d :: r => uptoBulk d + uptoBulkAll r
def uptoBulkEntries {H : Type} : List (Lit × DataW H) → Nat
  | [] => 0
  | x :: r => uptoBulkEntry x + uptoBulkEntries r
def uptoBulkEntry {H : Type} : Lit × DataW H → Nat
  | (.string bytes, d) => bytes.length + uptoBulk d + 1
  | (_, d) => uptoBulk d + 1
 end
def uptoSmall : (H : Type) → List (DataW H) → Bool := fun _ ds => decide (uptoBulkAll ds ≤ 1048576)
def OpenSpec.upto (s : _root_.Go.ChangeSpec) : _root_.Go.OpenSpec := { _root_.Go.OpenSpec.ofChange s with cond := some uptoSmall }

/-- 'elenchuslaw19.BaseStays', WHERE WHAT IT READS IS OF BULK AT MOST 1048576: true; the input reads as it did. -/
def baseStaysUptoRow : OpenClaim := { program := "ythfilpacmllhpab", sum := "4b7259264de9497bf4e848aecaa7e8ce964d3a90c98ad303e1e849726731bd02", func := "elenchus/elenchuslaw19.BaseStays", spec := "baseStays", inPlace := ["slices.overlaps[elenchus/index.entry]"], unfollowed := true, recurses := true, loops := true, plainKeys := false, apart := false, narrowed := true }
def BaseStaysUptoSaid : Prop := baseStaysUptoRow.holds Try.pinned (OpenSpec.upto baseStaysSpec)

/-- 'elenchuslaw19.BaseNobody', WHERE WHAT IT READS IS OF BULK AT MOST 1048576: true; the input reads as it did. -/
def baseNobodyUptoRow : OpenClaim := { program := "ythfilpacmllhpab", sum := "4b7259264de9497bf4e848aecaa7e8ce964d3a90c98ad303e1e849726731bd02", func := "elenchus/elenchuslaw19.BaseNobody", spec := "baseNobody", inPlace := ["slices.overlaps[elenchus/index.entry]"], unfollowed := true, recurses := true, loops := true, plainKeys := false, apart := false, narrowed := true }
def BaseNobodyUptoSaid : Prop := baseNobodyUptoRow.holds Try.pinned (OpenSpec.upto baseNobodySpec)

/-- 'elenchuslaw19.BaseEnds', WHERE WHAT IT READS IS OF BULK AT MOST 1048576: true; the input reads as it did. -/
def baseEndsUptoRow : OpenClaim := { program := "ythfilpacmllhpab", sum := "4b7259264de9497bf4e848aecaa7e8ce964d3a90c98ad303e1e849726731bd02", func := "elenchus/elenchuslaw19.BaseEnds", spec := "baseEnds", inPlace := ["slices.overlaps[elenchus/index.entry]"], unfollowed := true, recurses := true, plainKeys := false, apart := false, narrowed := true }
def BaseEndsUptoSaid : Prop := baseEndsUptoRow.holds Try.pinned (OpenSpec.upto baseEndsSpec)

end Rows
end Go.Proofs.Ythfilpacmllhpab
