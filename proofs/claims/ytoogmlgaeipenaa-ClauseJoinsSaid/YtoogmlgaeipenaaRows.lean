/-
  NARROWER THAN 'FOR EVERY INPUT', by the rows' own cells (each row's printed sentence says how): ClauseBack: loops · ClauseAdds: loops · ClauseJoins: loops · PlanKeeps: loops.
  DERIVED. THE GIVEN ROWS OF THIS SEAT. 6 by the template 'for every input the law returns true; each argument reads behind the call as it read before'; 0 by the template 'total and deterministic' (their statements: YtoogmlgaeipenaaTotals.lean).
  GIVEN WITH THE SEED: the statements are not yours to turn. If you find one false, say at which input.
  Laid BY PROGRAM, IN A SANDBOX (cutbox-rows.mjs): the forced cells as the released guide's own fill.sh prints them over the translation ff0be8b778894689… (all of the seat's roots in one cut). By AI agents, Wed Nov 11 2026. No macro, syntax, notation, axiom, sorry.
-/
import Derived.Test.YtoogmlgaeipenaaChecked
import GoSem.Claim
import GoSem.ClaimJoined
import GoSem.ClaimMapViews
import Derived.JoinedTies
import Derived.KernelRfl
namespace Go.Proofs.Ytoogmlgaeipenaa
/- THE CELL 'sum', in the pinned program and in every row, IS THE sha256 OF THE DUMP (.gsa) THAT YtoogmlgaeipenaaProg.lean LOADS. Nothing in Lean hashes anything: it is a label: what it is worth is what the hold of that sum in a sandbox is worth. -/
noncomputable def Try.pinned : Pinned := { name := "ytoogmlgaeipenaa", sum := "ff0be8b7788946892390024e0b4794f059008fc6a0da98fae27efc6dde3d9cee", checked := Try.checked }
namespace Rows
def none {H : Type} : Left H := { results := [], args := [] }

/-- 'elenchuslaw13.ArithLaws': WHATEVER THE INPUT: true; the input reads as it did. -/
def arithLawsSpec : ChangeSpec := { name := "arithLaws", fn := fun _ => fun
  | [d1, d2] => { results := [.lit (.bool true)], args := [d1, d2] }
  | _ => none }
def arithLawsRow : OpenClaim := { program := "ytoogmlgaeipenaa", sum := "ff0be8b7788946892390024e0b4794f059008fc6a0da98fae27efc6dde3d9cee", func := "elenchus/elenchuslaw13.ArithLaws", spec := "arithLaws", unfollowed := true, recurses := true, plainKeys := false, apart := false }
def ArithLawsSaid : Prop := arithLawsRow.holds Try.pinned (OpenSpec.ofChange arithLawsSpec)

/-- ITS FALSE NEIGHBOUR: 'it returns false'. Refute it at one input. -/
def arithLawsWrong : ChangeSpec := { name := "arithLaws", fn := fun _ => fun
  | [d1, d2] => { results := [.lit (.bool false)], args := [d1, d2] }
  | _ => none }
def ArithLawsWrongFalsely : Prop := arithLawsRow.holds Try.pinned (OpenSpec.ofChange arithLawsWrong)

/-- 'elenchuslaw14.ClauseBack': WHATEVER THE INPUT: true; the input reads as it did. -/
def clauseBackSpec : ChangeSpec := { name := "clauseBack", fn := fun _ => fun
  | [d] => { results := [.lit (.bool true)], args := [d] }
  | _ => none }
def clauseBackRow : OpenClaim := { program := "ytoogmlgaeipenaa", sum := "ff0be8b7788946892390024e0b4794f059008fc6a0da98fae27efc6dde3d9cee", func := "elenchus/elenchuslaw14.ClauseBack", spec := "clauseBack", unfollowed := true, recurses := true, loops := true, plainKeys := false, apart := false }
def ClauseBackSaid : Prop := clauseBackRow.holds Try.pinned (OpenSpec.ofChange clauseBackSpec)

/-- ITS FALSE NEIGHBOUR: 'it returns false'. Refute it at one input. -/
def clauseBackWrong : ChangeSpec := { name := "clauseBack", fn := fun _ => fun
  | [d] => { results := [.lit (.bool false)], args := [d] }
  | _ => none }
def ClauseBackWrongFalsely : Prop := clauseBackRow.holds Try.pinned (OpenSpec.ofChange clauseBackWrong)

/-- 'elenchuslaw14.ClauseAdds': WHATEVER THE INPUT: true; the input reads as it did. -/
def clauseAddsSpec : ChangeSpec := { name := "clauseAdds", fn := fun _ => fun
  | [d1, d2] => { results := [.lit (.bool true)], args := [d1, d2] }
  | _ => none }
def clauseAddsRow : OpenClaim := { program := "ytoogmlgaeipenaa", sum := "ff0be8b7788946892390024e0b4794f059008fc6a0da98fae27efc6dde3d9cee", func := "elenchus/elenchuslaw14.ClauseAdds", spec := "clauseAdds", unfollowed := true, recurses := true, loops := true, plainKeys := false, apart := false }
def ClauseAddsSaid : Prop := clauseAddsRow.holds Try.pinned (OpenSpec.ofChange clauseAddsSpec)

/-- ITS FALSE NEIGHBOUR: 'it returns false'. Refute it at one input. -/
def clauseAddsWrong : ChangeSpec := { name := "clauseAdds", fn := fun _ => fun
  | [d1, d2] => { results := [.lit (.bool false)], args := [d1, d2] }
  | _ => none }
def ClauseAddsWrongFalsely : Prop := clauseAddsRow.holds Try.pinned (OpenSpec.ofChange clauseAddsWrong)

/-- 'elenchuslaw14.ClauseBuiltin': WHATEVER THE INPUT: true; the input reads as it did. -/
def clauseBuiltinSpec : ChangeSpec := { name := "clauseBuiltin", fn := fun _ => fun
  | [d1, d2] => { results := [.lit (.bool true)], args := [d1, d2] }
  | _ => none }
def clauseBuiltinRow : OpenClaim := { program := "ytoogmlgaeipenaa", sum := "ff0be8b7788946892390024e0b4794f059008fc6a0da98fae27efc6dde3d9cee", func := "elenchus/elenchuslaw14.ClauseBuiltin", spec := "clauseBuiltin", unfollowed := true, recurses := true, plainKeys := false, apart := false }
def ClauseBuiltinSaid : Prop := clauseBuiltinRow.holds Try.pinned (OpenSpec.ofChange clauseBuiltinSpec)

/-- ITS FALSE NEIGHBOUR: 'it returns false'. Refute it at one input. -/
def clauseBuiltinWrong : ChangeSpec := { name := "clauseBuiltin", fn := fun _ => fun
  | [d1, d2] => { results := [.lit (.bool false)], args := [d1, d2] }
  | _ => none }
def ClauseBuiltinWrongFalsely : Prop := clauseBuiltinRow.holds Try.pinned (OpenSpec.ofChange clauseBuiltinWrong)

/-- 'elenchuslaw14.ClauseJoins': WHATEVER THE INPUT: true; the input reads as it did. -/
def clauseJoinsSpec : ChangeSpec := { name := "clauseJoins", fn := fun _ => fun
  | [d1, d2] => { results := [.lit (.bool true)], args := [d1, d2] }
  | _ => none }
def clauseJoinsRow : OpenClaim := { program := "ytoogmlgaeipenaa", sum := "ff0be8b7788946892390024e0b4794f059008fc6a0da98fae27efc6dde3d9cee", func := "elenchus/elenchuslaw14.ClauseJoins", spec := "clauseJoins", unfollowed := true, recurses := true, loops := true, plainKeys := false, apart := false }
def ClauseJoinsSaid : Prop := clauseJoinsRow.holds Try.pinned (OpenSpec.ofChange clauseJoinsSpec)

/-- ITS FALSE NEIGHBOUR: 'it returns false'. Refute it at one input. -/
def clauseJoinsWrong : ChangeSpec := { name := "clauseJoins", fn := fun _ => fun
  | [d1, d2] => { results := [.lit (.bool false)], args := [d1, d2] }
  | _ => none }
def ClauseJoinsWrongFalsely : Prop := clauseJoinsRow.holds Try.pinned (OpenSpec.ofChange clauseJoinsWrong)

/-- 'elenchuslaw15.PlanKeeps': WHATEVER THE INPUT: true; the input reads as it did. -/
def planKeepsSpec : ChangeSpec := { name := "planKeeps", fn := fun _ => fun
  | [d] => { results := [.lit (.bool true)], args := [d] }
  | _ => none }
def planKeepsRow : OpenClaim := { program := "ytoogmlgaeipenaa", sum := "ff0be8b7788946892390024e0b4794f059008fc6a0da98fae27efc6dde3d9cee", func := "elenchus/elenchuslaw15.PlanKeeps", spec := "planKeeps", unfollowed := true, recurses := true, loops := true, plainKeys := false, apart := false }
def PlanKeepsSaid : Prop := planKeepsRow.holds Try.pinned (OpenSpec.ofChange planKeepsSpec)

/-- ITS FALSE NEIGHBOUR: 'it returns false'. Refute it at one input. -/
def planKeepsWrong : ChangeSpec := { name := "planKeeps", fn := fun _ => fun
  | [d] => { results := [.lit (.bool false)], args := [d] }
  | _ => none }
def PlanKeepsWrongFalsely : Prop := planKeepsRow.holds Try.pinned (OpenSpec.ofChange planKeepsWrong)

/- THE SECOND FORM. 'bulk': how many values and letters a reading holds, each counted each time it is reached (what is shared counts as often as it is met; a slice's spare places count too). A statement '..UptoSaid' is the law's where the arguments, and the package variables that the reading takes, are together of bulk at most 1048576: NARROWER than '..Said'. Prove '..Said' where nothing that the law and all that it calls make is longer than what came in: it says more and counts as full. Else prove '..UptoSaid'. A law counts once. -/
mutual
def uptoBulk {H : Type} : DataW H → Nat
  | .lit (.string bytes) => bytes.length + 1
  | .lit _ => 1
  | .nil => 1
  | .ptr d => uptoBulk d + 1
  | .slice elems spare => uptoBulkAll elems + uptoBulkAll spare + 1
  | .agg parts => uptoBulkAll parts + 1
  | .iface _ d => uptoBulk d + 1
  | .map entries => uptoBulkEntries entries + 1
  | .held _ => 1
def uptoBulkAll {H : Type} : List (DataW H) → Nat
  | [] => 0
  | d :: r => uptoBulk d + uptoBulkAll r
def uptoBulkEntries {H : Type} : List (Lit × DataW H) → Nat
  | [] => 0
  | x :: r => uptoBulkEntry x + uptoBulkEntries r
def uptoBulkEntry {H : Type} : Lit × DataW H → Nat
  | (.string bytes, d) => bytes.length + uptoBulk d + 1
  | (_, d) => uptoBulk d + 1
 end
def uptoSmall : (H : Type) → List (DataW H) → Bool := fun _ ds => decide (uptoBulkAll ds ≤ 1048576)
def OpenSpec.upto (s : _root_.Go.ChangeSpec) : _root_.Go.OpenSpec := { _root_.Go.OpenSpec.ofChange s with cond := some uptoSmall }

/-- 'elenchuslaw13.ArithLaws', WHERE WHAT IT READS IS OF BULK AT MOST 1048576: true; the input reads as it did. -/
def arithLawsUptoRow : OpenClaim := { program := "ytoogmlgaeipenaa", sum := "ff0be8b7788946892390024e0b4794f059008fc6a0da98fae27efc6dde3d9cee", func := "elenchus/elenchuslaw13.ArithLaws", spec := "arithLaws", unfollowed := true, recurses := true, plainKeys := false, apart := false, narrowed := true }
def ArithLawsUptoSaid : Prop := arithLawsUptoRow.holds Try.pinned (OpenSpec.upto arithLawsSpec)

/-- 'elenchuslaw14.ClauseBack', WHERE WHAT IT READS IS OF BULK AT MOST 1048576: true; the input reads as it did. -/
def clauseBackUptoRow : OpenClaim := { program := "ytoogmlgaeipenaa", sum := "ff0be8b7788946892390024e0b4794f059008fc6a0da98fae27efc6dde3d9cee", func := "elenchus/elenchuslaw14.ClauseBack", spec := "clauseBack", unfollowed := true, recurses := true, loops := true, plainKeys := false, apart := false, narrowed := true }
def ClauseBackUptoSaid : Prop := clauseBackUptoRow.holds Try.pinned (OpenSpec.upto clauseBackSpec)

/-- 'elenchuslaw14.ClauseAdds', WHERE WHAT IT READS IS OF BULK AT MOST 1048576: true; the input reads as it did. -/
def clauseAddsUptoRow : OpenClaim := { program := "ytoogmlgaeipenaa", sum := "ff0be8b7788946892390024e0b4794f059008fc6a0da98fae27efc6dde3d9cee", func := "elenchus/elenchuslaw14.ClauseAdds", spec := "clauseAdds", unfollowed := true, recurses := true, loops := true, plainKeys := false, apart := false, narrowed := true }
def ClauseAddsUptoSaid : Prop := clauseAddsUptoRow.holds Try.pinned (OpenSpec.upto clauseAddsSpec)

/-- 'elenchuslaw14.ClauseBuiltin', WHERE WHAT IT READS IS OF BULK AT MOST 1048576: true; the input reads as it did. -/
def clauseBuiltinUptoRow : OpenClaim := { program := "ytoogmlgaeipenaa", sum := "ff0be8b7788946892390024e0b4794f059008fc6a0da98fae27efc6dde3d9cee", func := "elenchus/elenchuslaw14.ClauseBuiltin", spec := "clauseBuiltin", unfollowed := true, recurses := true, plainKeys := false, apart := false, narrowed := true }
def ClauseBuiltinUptoSaid : Prop := clauseBuiltinUptoRow.holds Try.pinned (OpenSpec.upto clauseBuiltinSpec)

/-- 'elenchuslaw14.ClauseJoins', WHERE WHAT IT READS IS OF BULK AT MOST 1048576: true; the input reads as it did. -/
def clauseJoinsUptoRow : OpenClaim := { program := "ytoogmlgaeipenaa", sum := "ff0be8b7788946892390024e0b4794f059008fc6a0da98fae27efc6dde3d9cee", func := "elenchus/elenchuslaw14.ClauseJoins", spec := "clauseJoins", unfollowed := true, recurses := true, loops := true, plainKeys := false, apart := false, narrowed := true }
def ClauseJoinsUptoSaid : Prop := clauseJoinsUptoRow.holds Try.pinned (OpenSpec.upto clauseJoinsSpec)

/-- 'elenchuslaw15.PlanKeeps', WHERE WHAT IT READS IS OF BULK AT MOST 1048576: true; the input reads as it did. -/
def planKeepsUptoRow : OpenClaim := { program := "ytoogmlgaeipenaa", sum := "ff0be8b7788946892390024e0b4794f059008fc6a0da98fae27efc6dde3d9cee", func := "elenchus/elenchuslaw15.PlanKeeps", spec := "planKeeps", unfollowed := true, recurses := true, loops := true, plainKeys := false, apart := false, narrowed := true }
def PlanKeepsUptoSaid : Prop := planKeepsUptoRow.holds Try.pinned (OpenSpec.upto planKeepsSpec)

end Rows
end Go.Proofs.Ytoogmlgaeipenaa
