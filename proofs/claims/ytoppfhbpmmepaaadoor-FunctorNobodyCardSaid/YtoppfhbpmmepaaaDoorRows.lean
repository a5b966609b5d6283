/-
  NARROWER THAN 'FOR EVERY INPUT', by the rows' own cells (each row's printed sentence says how): FunctorDoes: laid · FunctorKeeps: laid · FunctorNobody: laid · FunctorApart: laid.
  DERIVED. THE GIVEN ROWS OF THIS SEAT. 4 by the template 'for every input the law returns true; each argument reads behind the call as it read before'; 0 by the template 'total and deterministic' (their statements: YtoppfhbpmmepaaaDoorTotals.lean).
  GIVEN WITH THE SEED: the statements are not yours to turn. If you find one false, say at which input.
  Laid BY PROGRAM, IN A SANDBOX (cutbox-rows.mjs): the forced cells as the released guide's own fill.sh prints them over the translation 3fe5a429aea90ab5… (all of the seat's roots in one cut). By AI agents, Wed Nov 11 2026. No macro, syntax, notation, axiom, sorry.
-/
import Derived.Test.YtoppfhbpmmepaaaDoorChecked
import GoSem.Claim
import GoSem.ClaimJoined
import GoSem.ClaimMapViews
import Derived.JoinedTies
import Derived.KernelRfl
namespace Go.Proofs.YtoppfhbpmmepaaaDoor
/- THE CELL 'sum', in the pinned program and in every row, IS THE sha256 OF THE DUMP (.gsa) THAT YtoppfhbpmmepaaaDoorProg.lean LOADS. Nothing in Lean hashes anything: it is a label: what it is worth is what the hold of that sum in a sandbox is worth. -/
noncomputable def Tryd.pinned : Pinned := { name := "ytoppfhbpmmepaaadoor", sum := "3fe5a429aea90ab5d4d8d672b6bddf5bdffad0f25a4750002d8811a3aa49e77d", checked := Tryd.checked }
namespace Rows
def none {H : Type} : Left H := { results := [], args := [] }

/- WHAT THE LISTED PACKAGE-LEVEL VARIABLES READ AS WHEN THE CALL BEGINS. Each datum BY PROGRAM (the guide's laid-datum.mjs) off the statement by which the dump's own 'gosem.cut.vars' lays the variable. In a bare row this is a premise. The card (YtoppfhbpmmepaaaDoorCards.lean) ties it to the program's text. -/
def laid_elenchus_atom_reserved {H : Type} : DataW H := .agg [.lit (.string [91, 93]), .lit (.string [46]), .lit (.string [123, 125]), .lit (.string [45]), .lit (.string [44]), .lit (.string [59]), .lit (.string [45, 62]), .lit (.string [58, 45]), .lit (.string [124]), .lit (.string [33]), .lit (.string [92, 43]), .lit (.string [116, 114, 117, 101]), .lit (.string [102, 97, 105, 108]), .lit (.string [99, 97, 108, 108]), .lit (.string [101, 114, 114, 111, 114])]

/-- 'elenchuslaw05.FunctorDoes': WHATEVER THE INPUT: true; the input reads as it did. -/
def functorDoesSpec : ChangeSpec := { name := "functorDoes", fn := fun _ => fun
  | [d1, d2, d3] => { results := [.lit (.bool true)], args := [d1, d2, d3] }
  | _ => none }
def functorDoesRow : OpenClaim := { program := "ytoppfhbpmmepaaadoor", sum := "3fe5a429aea90ab5d4d8d672b6bddf5bdffad0f25a4750002d8811a3aa49e77d", func := "elenchus/elenchuslaw05.FunctorDoes", spec := "functorDoes", inPlace := ["sync/atomic.LoadUint32", "(*internal/sync.Mutex).Lock", "internal/race.Disable", "sync/atomic.CompareAndSwapInt32", "internal/race.Enable", "internal/race.Acquire", "(*internal/sync.Mutex).lockSlow", "internal/sync.runtime_canSpin", "internal/sync.runtime_doSpin", "internal/sync.throw", "internal/sync.runtime_nanotime", "internal/sync.runtime_SemacquireMutex", "sync/atomic.AddInt32", "(*internal/sync.Mutex).Unlock", "internal/race.ReleaseMerge", "(*internal/sync.Mutex).unlockSlow", "internal/sync.fatal", "internal/sync.runtime_Semrelease", "sync/atomic.StoreUint32", "sync/atomic.AddInt64"], unfollowed := true, recurses := true, named := ["elenchus/atom.reserved"], plainKeys := false, apart := false, laid := [("elenchus/atom.reserved", laid_elenchus_atom_reserved)] }
def FunctorDoesSaid : Prop := functorDoesRow.holds Tryd.pinned (OpenSpec.ofChange functorDoesSpec)

/-- ITS FALSE NEIGHBOUR: 'it returns false'. Refute it at one input. -/
def functorDoesWrong : ChangeSpec := { name := "functorDoes", fn := fun _ => fun
  | [d1, d2, d3] => { results := [.lit (.bool false)], args := [d1, d2, d3] }
  | _ => none }
def FunctorDoesWrongFalsely : Prop := functorDoesRow.holds Tryd.pinned (OpenSpec.ofChange functorDoesWrong)

/-- 'elenchuslaw05.FunctorKeeps': WHATEVER THE INPUT: true; the input reads as it did. -/
def functorKeepsSpec : ChangeSpec := { name := "functorKeeps", fn := fun _ => fun
  | [d1, d2] => { results := [.lit (.bool true)], args := [d1, d2] }
  | _ => none }
def functorKeepsRow : OpenClaim := { program := "ytoppfhbpmmepaaadoor", sum := "3fe5a429aea90ab5d4d8d672b6bddf5bdffad0f25a4750002d8811a3aa49e77d", func := "elenchus/elenchuslaw05.FunctorKeeps", spec := "functorKeeps", inPlace := ["sync/atomic.LoadUint32", "(*internal/sync.Mutex).Lock", "internal/race.Disable", "sync/atomic.CompareAndSwapInt32", "internal/race.Enable", "internal/race.Acquire", "(*internal/sync.Mutex).lockSlow", "internal/sync.runtime_canSpin", "internal/sync.runtime_doSpin", "internal/sync.throw", "internal/sync.runtime_nanotime", "internal/sync.runtime_SemacquireMutex", "sync/atomic.AddInt32", "(*internal/sync.Mutex).Unlock", "internal/race.ReleaseMerge", "(*internal/sync.Mutex).unlockSlow", "internal/sync.fatal", "internal/sync.runtime_Semrelease", "sync/atomic.StoreUint32", "sync/atomic.AddInt64"], unfollowed := true, recurses := true, named := ["elenchus/atom.reserved"], plainKeys := false, apart := false, laid := [("elenchus/atom.reserved", laid_elenchus_atom_reserved)] }
def FunctorKeepsSaid : Prop := functorKeepsRow.holds Tryd.pinned (OpenSpec.ofChange functorKeepsSpec)

/-- ITS FALSE NEIGHBOUR: 'it returns false'. Refute it at one input. -/
def functorKeepsWrong : ChangeSpec := { name := "functorKeeps", fn := fun _ => fun
  | [d1, d2] => { results := [.lit (.bool false)], args := [d1, d2] }
  | _ => none }
def FunctorKeepsWrongFalsely : Prop := functorKeepsRow.holds Tryd.pinned (OpenSpec.ofChange functorKeepsWrong)

/-- 'elenchuslaw05.FunctorNobody': WHATEVER THE INPUT: true; the input reads as it did. -/
def functorNobodySpec : ChangeSpec := { name := "functorNobody", fn := fun _ => fun
  | [d] => { results := [.lit (.bool true)], args := [d] }
  | _ => none }
def functorNobodyRow : OpenClaim := { program := "ytoppfhbpmmepaaadoor", sum := "3fe5a429aea90ab5d4d8d672b6bddf5bdffad0f25a4750002d8811a3aa49e77d", func := "elenchus/elenchuslaw05.FunctorNobody", spec := "functorNobody", inPlace := ["sync/atomic.LoadUint32", "(*internal/sync.Mutex).Lock", "internal/race.Disable", "sync/atomic.CompareAndSwapInt32", "internal/race.Enable", "internal/race.Acquire", "(*internal/sync.Mutex).lockSlow", "internal/sync.runtime_canSpin", "internal/sync.runtime_doSpin", "internal/sync.throw", "internal/sync.runtime_nanotime", "internal/sync.runtime_SemacquireMutex", "sync/atomic.AddInt32", "(*internal/sync.Mutex).Unlock", "internal/race.ReleaseMerge", "(*internal/sync.Mutex).unlockSlow", "internal/sync.fatal", "internal/sync.runtime_Semrelease", "sync/atomic.StoreUint32", "sync/atomic.AddInt64"], unfollowed := true, recurses := true, named := ["elenchus/atom.reserved"], plainKeys := false, apart := false, laid := [("elenchus/atom.reserved", laid_elenchus_atom_reserved)] }
def FunctorNobodySaid : Prop := functorNobodyRow.holds Tryd.pinned (OpenSpec.ofChange functorNobodySpec)

/-- ITS FALSE NEIGHBOUR: 'it returns false'. Refute it at one input. -/
def functorNobodyWrong : ChangeSpec := { name := "functorNobody", fn := fun _ => fun
  | [d] => { results := [.lit (.bool false)], args := [d] }
  | _ => none }
def FunctorNobodyWrongFalsely : Prop := functorNobodyRow.holds Tryd.pinned (OpenSpec.ofChange functorNobodyWrong)

/-- 'elenchuslaw05.FunctorApart': WHATEVER THE INPUT: true; the input reads as it did. -/
def functorApartSpec : ChangeSpec := { name := "functorApart", fn := fun _ => fun
  | [d1, d2, d3, d4] => { results := [.lit (.bool true)], args := [d1, d2, d3, d4] }
  | _ => none }
def functorApartRow : OpenClaim := { program := "ytoppfhbpmmepaaadoor", sum := "3fe5a429aea90ab5d4d8d672b6bddf5bdffad0f25a4750002d8811a3aa49e77d", func := "elenchus/elenchuslaw05.FunctorApart", spec := "functorApart", inPlace := ["sync/atomic.LoadUint32", "(*internal/sync.Mutex).Lock", "internal/race.Disable", "sync/atomic.CompareAndSwapInt32", "internal/race.Enable", "internal/race.Acquire", "(*internal/sync.Mutex).lockSlow", "internal/sync.runtime_canSpin", "internal/sync.runtime_doSpin", "internal/sync.throw", "internal/sync.runtime_nanotime", "internal/sync.runtime_SemacquireMutex", "sync/atomic.AddInt32", "(*internal/sync.Mutex).Unlock", "internal/race.ReleaseMerge", "(*internal/sync.Mutex).unlockSlow", "internal/sync.fatal", "internal/sync.runtime_Semrelease", "sync/atomic.StoreUint32", "sync/atomic.AddInt64"], unfollowed := true, recurses := true, named := ["elenchus/atom.reserved"], plainKeys := false, apart := false, laid := [("elenchus/atom.reserved", laid_elenchus_atom_reserved)] }
def FunctorApartSaid : Prop := functorApartRow.holds Tryd.pinned (OpenSpec.ofChange functorApartSpec)

/-- ITS FALSE NEIGHBOUR: 'it returns false'. Refute it at one input. -/
def functorApartWrong : ChangeSpec := { name := "functorApart", fn := fun _ => fun
  | [d1, d2, d3, d4] => { results := [.lit (.bool false)], args := [d1, d2, d3, d4] }
  | _ => none }
def FunctorApartWrongFalsely : Prop := functorApartRow.holds Tryd.pinned (OpenSpec.ofChange functorApartWrong)

/- THE SECOND FORM. 'bulk': how many values and letters a reading holds, each counted each time it is reached (what is shared counts as often as it is met; a slice's spare places count too). A statement '..UptoSaid' is the law's where the arguments, and the package variables that the reading takes, are together of bulk at most 1048576: NARROWER than '..Said'. Prove '..Said' where nothing that the law and all that it calls make is longer than what came in: it says more and counts as full. Else prove '..UptoSaid'. A law counts once. -/
mutual
def uptoBulk {H : Type} : DataW H → Nat
  | .lit (.string bytes) => bytes.length + 1
  | .lit _ => 1
  | .nil => 1
  | .ptr d => uptoBulk d + 1
  | .slice elems spare => uptoBulkAll elems + uptoBulkAll spare + 1
  | .agg parts => uptoBulkAll parts + 1
  | .iface _ d => uptoBulk d + 1
  | .map entries => uptoBulkEntries entries + 1
  | .held _ => 1
def uptoBulkAll {H : Type} : List (DataW H) → Nat
  | [] => 0
  | d :: r => uptoBulk d + uptoBulkAll r
def uptoBulkEntries {H : Type} : List (Lit × DataW H) → Nat
  | [] => 0
  | x :: r => uptoBulkEntry x + uptoBulkEntries r
def uptoBulkEntry {H : Type} : Lit × DataW H → Nat
  | (.string bytes, d) => bytes.length + uptoBulk d + 1
  | (_, d) => uptoBulk d + 1
 end
def uptoSmall : (H : Type) → List (DataW H) → Bool := fun _ ds => decide (uptoBulkAll ds ≤ 1048576)
def OpenSpec.upto (s : _root_.Go.ChangeSpec) : _root_.Go.OpenSpec := { _root_.Go.OpenSpec.ofChange s with cond := some uptoSmall }

/-- 'elenchuslaw05.FunctorDoes', WHERE WHAT IT READS IS OF BULK AT MOST 1048576: true; the input reads as it did. -/
def functorDoesUptoRow : OpenClaim := { program := "ytoppfhbpmmepaaadoor", sum := "3fe5a429aea90ab5d4d8d672b6bddf5bdffad0f25a4750002d8811a3aa49e77d", func := "elenchus/elenchuslaw05.FunctorDoes", spec := "functorDoes", inPlace := ["sync/atomic.LoadUint32", "(*internal/sync.Mutex).Lock", "internal/race.Disable", "sync/atomic.CompareAndSwapInt32", "internal/race.Enable", "internal/race.Acquire", "(*internal/sync.Mutex).lockSlow", "internal/sync.runtime_canSpin", "internal/sync.runtime_doSpin", "internal/sync.throw", "internal/sync.runtime_nanotime", "internal/sync.runtime_SemacquireMutex", "sync/atomic.AddInt32", "(*internal/sync.Mutex).Unlock", "internal/race.ReleaseMerge", "(*internal/sync.Mutex).unlockSlow", "internal/sync.fatal", "internal/sync.runtime_Semrelease", "sync/atomic.StoreUint32", "sync/atomic.AddInt64"], unfollowed := true, recurses := true, named := ["elenchus/atom.reserved"], plainKeys := false, apart := false, laid := [("elenchus/atom.reserved", laid_elenchus_atom_reserved)], narrowed := true }
def FunctorDoesUptoSaid : Prop := functorDoesUptoRow.holds Tryd.pinned (OpenSpec.upto functorDoesSpec)

/-- 'elenchuslaw05.FunctorKeeps', WHERE WHAT IT READS IS OF BULK AT MOST 1048576: true; the input reads as it did. -/
def functorKeepsUptoRow : OpenClaim := { program := "ytoppfhbpmmepaaadoor", sum := "3fe5a429aea90ab5d4d8d672b6bddf5bdffad0f25a4750002d8811a3aa49e77d", func := "elenchus/elenchuslaw05.FunctorKeeps", spec := "functorKeeps", inPlace := ["sync/atomic.LoadUint32", "(*internal/sync.Mutex).Lock", "internal/race.Disable", "sync/atomic.CompareAndSwapInt32", "internal/race.Enable", "internal/race.Acquire", "(*internal/sync.Mutex).lockSlow", "internal/sync.runtime_canSpin", "internal/sync.runtime_doSpin", "internal/sync.throw", "internal/sync.runtime_nanotime", "internal/sync.runtime_SemacquireMutex", "sync/atomic.AddInt32", "(*internal/sync.Mutex).Unlock", "internal/race.ReleaseMerge", "(*internal/sync.Mutex).unlockSlow", "internal/sync.fatal", "internal/sync.runtime_Semrelease", "sync/atomic.StoreUint32", "sync/atomic.AddInt64"], unfollowed := true, recurses := true, named := ["elenchus/atom.reserved"], plainKeys := false, apart := false, laid := [("elenchus/atom.reserved", laid_elenchus_atom_reserved)], narrowed := true }
def FunctorKeepsUptoSaid : Prop := functorKeepsUptoRow.holds Tryd.pinned (OpenSpec.upto functorKeepsSpec)

/-- 'elenchuslaw05.FunctorNobody', WHERE WHAT IT READS IS OF BULK AT MOST 1048576: true; the input reads as it did. -/
def functorNobodyUptoRow : OpenClaim := { program := "ytoppfhbpmmepaaadoor", sum := "3fe5a429aea90ab5d4d8d672b6bddf5bdffad0f25a4750002d8811a3aa49e77d", func := "elenchus/elenchuslaw05.FunctorNobody", spec := "functorNobody", inPlace := ["sync/atomic.LoadUint32", "(*internal/sync.Mutex).Lock", "internal/race.Disable", "sync/atomic.CompareAndSwapInt32", "internal/race.Enable", "internal/race.Acquire", "(*internal/sync.Mutex).lockSlow", "internal/sync.runtime_canSpin", "internal/sync.runtime_doSpin", "internal/sync.throw", "internal/sync.runtime_nanotime", "internal/sync.runtime_SemacquireMutex", "sync/atomic.AddInt32", "(*internal/sync.Mutex).Unlock", "internal/race.ReleaseMerge", "(*internal/sync.Mutex).unlockSlow", "internal/sync.fatal", "internal/sync.runtime_Semrelease", "sync/atomic.StoreUint32", "sync/atomic.AddInt64"], unfollowed := true, recurses := true, named := ["elenchus/atom.reserved"], plainKeys := false, apart := false, laid := [("elenchus/atom.reserved", laid_elenchus_atom_reserved)], narrowed := true }
def FunctorNobodyUptoSaid : Prop := functorNobodyUptoRow.holds Tryd.pinned (OpenSpec.upto functorNobodySpec)

/-- 'elenchuslaw05.FunctorApart', WHERE WHAT IT READS IS OF BULK AT MOST 1048576: true; the input reads as it did. -/
def functorApartUptoRow : OpenClaim := { program := "ytoppfhbpmmepaaadoor", sum := "3fe5a429aea90ab5d4d8d672b6bddf5bdffad0f25a4750002d8811a3aa49e77d", func := "elenchus/elenchuslaw05.FunctorApart", spec := "functorApart", inPlace := ["sync/atomic.LoadUint32", "(*internal/sync.Mutex).Lock", "internal/race.Disable", "sync/atomic.CompareAndSwapInt32", "internal/race.Enable", "internal/race.Acquire", "(*internal/sync.Mutex).lockSlow", "internal/sync.runtime_canSpin", "internal/sync.runtime_doSpin", "internal/sync.throw", "internal/sync.runtime_nanotime", "internal/sync.runtime_SemacquireMutex", "sync/atomic.AddInt32", "(*internal/sync.Mutex).Unlock", "internal/race.ReleaseMerge", "(*internal/sync.Mutex).unlockSlow", "internal/sync.fatal", "internal/sync.runtime_Semrelease", "sync/atomic.StoreUint32", "sync/atomic.AddInt64"], unfollowed := true, recurses := true, named := ["elenchus/atom.reserved"], plainKeys := false, apart := false, laid := [("elenchus/atom.reserved", laid_elenchus_atom_reserved)], narrowed := true }
def FunctorApartUptoSaid : Prop := functorApartUptoRow.holds Tryd.pinned (OpenSpec.upto functorApartSpec)

end Rows
end Go.Proofs.YtoppfhbpmmepaaaDoor
