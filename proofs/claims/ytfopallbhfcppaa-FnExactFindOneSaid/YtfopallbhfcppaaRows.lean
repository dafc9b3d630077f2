/-
  No cell of these rows narrows 'for every input' (looked for: loops, veiled, ifaces, maps, wideKeys, modest, calm, conditions, laid).
  DERIVED. THE GIVEN ROWS OF THIS SEAT. 12 by the template 'for every input the law returns true; each argument reads behind the call as it read before'; 0 by the template 'total and deterministic' (their statements: YtfopallbhfcppaaTotals.lean).
  GIVEN WITH THE SEED: the statements are not yours to turn. If you find one false, say at which input.
  Laid BY PROGRAM, IN A SANDBOX (cutbox-rows.mjs): the forced cells as the released guide's own fill.sh prints them over the translation 3d50ad70f58e88e6… (all of the seat's roots in one cut). By AI agents, Wed Nov 11 2026. No macro, syntax, notation, axiom, sorry.
-/
import Derived.Test.YtfopallbhfcppaaChecked
import GoSem.Claim
import GoSem.ClaimJoined
import GoSem.ClaimMapViews
import Derived.JoinedTies
import Derived.KernelRfl
namespace Go.Proofs.Ytfopallbhfcppaa
/- THE CELL 'sum', in the pinned program and in every row, IS THE sha256 OF THE DUMP (.gsa) THAT YtfopallbhfcppaaProg.lean LOADS. Nothing in Lean hashes anything: it is a label: what it is worth is what the hold of that sum in a sandbox is worth. -/
noncomputable def Try.pinned : Pinned := { name := "ytfopallbhfcppaa", sum := "3d50ad70f58e88e6fb81ed7e1ffde93bf60d750c4b5c86e46075ecd6b410736c", checked := Try.checked }
namespace Rows
def none {H : Type} : Left H := { results := [], args := [] }

/-- 'laws.FnHalving': WHATEVER THE INPUT: true; the input reads as it did. -/
def fnHalvingSpec : ChangeSpec := { name := "fnHalving", fn := fun _ => fun
  | [d] => { results := [.lit (.bool true)], args := [d] }
  | _ => none }
def fnHalvingRow : OpenClaim := { program := "ytfopallbhfcppaa", sum := "3d50ad70f58e88e6fb81ed7e1ffde93bf60d750c4b5c86e46075ecd6b410736c", func := "loop.example/g01040/laws.FnHalving", spec := "fnHalving", inPlace := ["(*sync.WaitGroup).Add", "internal/race.ReleaseMerge", "internal/race.Disable", "internal/race.Enable", "internal/synctest.IsInBubble", "internal/synctest.Associate[sync.WaitGroup]", "sync.fatal", "sync/atomic.OrUint64", "sync/atomic.AddUint64", "internal/race.Read", "sync/atomic.LoadUint64", "sync/atomic.StoreUint64", "internal/synctest.Disassociate[sync.WaitGroup]", "sync.runtime_Semrelease", "(*sync.WaitGroup).Done", "(*sync.WaitGroup).Wait", "internal/race.Acquire", "internal/synctest.IsAssociated[sync.WaitGroup]", "sync/atomic.CompareAndSwapUint64", "internal/race.Write", "sync.runtime_SemacquireWaitGroup"], unfollowed := true, recurses := true, leaving := true, apart := false }
def FnHalvingSaid : Prop := fnHalvingRow.holds Try.pinned (OpenSpec.ofChange fnHalvingSpec)

/-- ITS FALSE NEIGHBOUR: 'it returns false'. Refute it at one input. -/
def fnHalvingWrong : ChangeSpec := { name := "fnHalving", fn := fun _ => fun
  | [d] => { results := [.lit (.bool false)], args := [d] }
  | _ => none }
def FnHalvingWrongFalsely : Prop := fnHalvingRow.holds Try.pinned (OpenSpec.ofChange fnHalvingWrong)

/-- 'laws.FnWorsts': WHATEVER THE INPUT: true; the input reads as it did. -/
def fnWorstsSpec : ChangeSpec := { name := "fnWorsts", fn := fun _ => fun
  | [d] => { results := [.lit (.bool true)], args := [d] }
  | _ => none }
def fnWorstsRow : OpenClaim := { program := "ytfopallbhfcppaa", sum := "3d50ad70f58e88e6fb81ed7e1ffde93bf60d750c4b5c86e46075ecd6b410736c", func := "loop.example/g01040/laws.FnWorsts", spec := "fnWorsts", inPlace := ["(*sync.WaitGroup).Add", "internal/race.ReleaseMerge", "internal/race.Disable", "internal/race.Enable", "internal/synctest.IsInBubble", "internal/synctest.Associate[sync.WaitGroup]", "sync.fatal", "sync/atomic.OrUint64", "sync/atomic.AddUint64", "internal/race.Read", "sync/atomic.LoadUint64", "sync/atomic.StoreUint64", "internal/synctest.Disassociate[sync.WaitGroup]", "sync.runtime_Semrelease", "(*sync.WaitGroup).Done", "(*sync.WaitGroup).Wait", "internal/race.Acquire", "internal/synctest.IsAssociated[sync.WaitGroup]", "sync/atomic.CompareAndSwapUint64", "internal/race.Write", "sync.runtime_SemacquireWaitGroup"], unfollowed := true, recurses := true, leaving := true, apart := false }
def FnWorstsSaid : Prop := fnWorstsRow.holds Try.pinned (OpenSpec.ofChange fnWorstsSpec)

/-- ITS FALSE NEIGHBOUR: 'it returns false'. Refute it at one input. -/
def fnWorstsWrong : ChangeSpec := { name := "fnWorsts", fn := fun _ => fun
  | [d] => { results := [.lit (.bool false)], args := [d] }
  | _ => none }
def FnWorstsWrongFalsely : Prop := fnWorstsRow.holds Try.pinned (OpenSpec.ofChange fnWorstsWrong)

/-- 'laws.FnExactFindOne': WHATEVER THE INPUT: true; the input reads as it did. -/
def fnExactFindOneSpec : ChangeSpec := { name := "fnExactFindOne", fn := fun _ => fun
  | [d1, d2] => { results := [.lit (.bool true)], args := [d1, d2] }
  | _ => none }
def fnExactFindOneRow : OpenClaim := { program := "ytfopallbhfcppaa", sum := "3d50ad70f58e88e6fb81ed7e1ffde93bf60d750c4b5c86e46075ecd6b410736c", func := "loop.example/g01040/laws.FnExactFindOne", spec := "fnExactFindOne", unfollowed := true, recurses := true, leaving := true, apart := false }
def FnExactFindOneSaid : Prop := fnExactFindOneRow.holds Try.pinned (OpenSpec.ofChange fnExactFindOneSpec)

/-- ITS FALSE NEIGHBOUR: 'it returns false'. Refute it at one input. -/
def fnExactFindOneWrong : ChangeSpec := { name := "fnExactFindOne", fn := fun _ => fun
  | [d1, d2] => { results := [.lit (.bool false)], args := [d1, d2] }
  | _ => none }
def FnExactFindOneWrongFalsely : Prop := fnExactFindOneRow.holds Try.pinned (OpenSpec.ofChange fnExactFindOneWrong)

/-- 'laws.FnExactFindAll': WHATEVER THE INPUT: true; the input reads as it did. -/
def fnExactFindAllSpec : ChangeSpec := { name := "fnExactFindAll", fn := fun _ => fun
  | [d1, d2] => { results := [.lit (.bool true)], args := [d1, d2] }
  | _ => none }
def fnExactFindAllRow : OpenClaim := { program := "ytfopallbhfcppaa", sum := "3d50ad70f58e88e6fb81ed7e1ffde93bf60d750c4b5c86e46075ecd6b410736c", func := "loop.example/g01040/laws.FnExactFindAll", spec := "fnExactFindAll", inPlace := ["(*sync.WaitGroup).Add", "internal/race.ReleaseMerge", "internal/race.Disable", "internal/race.Enable", "internal/synctest.IsInBubble", "internal/synctest.Associate[sync.WaitGroup]", "sync.fatal", "sync/atomic.OrUint64", "sync/atomic.AddUint64", "internal/race.Read", "sync/atomic.LoadUint64", "sync/atomic.StoreUint64", "internal/synctest.Disassociate[sync.WaitGroup]", "sync.runtime_Semrelease", "(*sync.WaitGroup).Done", "(*sync.WaitGroup).Wait", "internal/race.Acquire", "internal/synctest.IsAssociated[sync.WaitGroup]", "sync/atomic.CompareAndSwapUint64", "internal/race.Write", "sync.runtime_SemacquireWaitGroup"], unfollowed := true, recurses := true, leaving := true, apart := false }
def FnExactFindAllSaid : Prop := fnExactFindAllRow.holds Try.pinned (OpenSpec.ofChange fnExactFindAllSpec)

/-- ITS FALSE NEIGHBOUR: 'it returns false'. Refute it at one input. -/
def fnExactFindAllWrong : ChangeSpec := { name := "fnExactFindAll", fn := fun _ => fun
  | [d1, d2] => { results := [.lit (.bool false)], args := [d1, d2] }
  | _ => none }
def FnExactFindAllWrongFalsely : Prop := fnExactFindAllRow.holds Try.pinned (OpenSpec.ofChange fnExactFindAllWrong)

/-- 'laws.FnExactCountHalving': WHATEVER THE INPUT: true; the input reads as it did. -/
def fnExactCountHalvingSpec : ChangeSpec := { name := "fnExactCountHalving", fn := fun _ => fun
  | [d1, d2] => { results := [.lit (.bool true)], args := [d1, d2] }
  | _ => none }
def fnExactCountHalvingRow : OpenClaim := { program := "ytfopallbhfcppaa", sum := "3d50ad70f58e88e6fb81ed7e1ffde93bf60d750c4b5c86e46075ecd6b410736c", func := "loop.example/g01040/laws.FnExactCountHalving", spec := "fnExactCountHalving", inPlace := ["(*sync.WaitGroup).Add", "internal/race.ReleaseMerge", "internal/race.Disable", "internal/race.Enable", "internal/synctest.IsInBubble", "internal/synctest.Associate[sync.WaitGroup]", "sync.fatal", "sync/atomic.OrUint64", "sync/atomic.AddUint64", "internal/race.Read", "sync/atomic.LoadUint64", "sync/atomic.StoreUint64", "internal/synctest.Disassociate[sync.WaitGroup]", "sync.runtime_Semrelease", "(*sync.WaitGroup).Done", "(*sync.WaitGroup).Wait", "internal/race.Acquire", "internal/synctest.IsAssociated[sync.WaitGroup]", "sync/atomic.CompareAndSwapUint64", "internal/race.Write", "sync.runtime_SemacquireWaitGroup"], unfollowed := true, recurses := true, leaving := true, apart := false }
def FnExactCountHalvingSaid : Prop := fnExactCountHalvingRow.holds Try.pinned (OpenSpec.ofChange fnExactCountHalvingSpec)

/-- ITS FALSE NEIGHBOUR: 'it returns false'. Refute it at one input. -/
def fnExactCountHalvingWrong : ChangeSpec := { name := "fnExactCountHalving", fn := fun _ => fun
  | [d1, d2] => { results := [.lit (.bool false)], args := [d1, d2] }
  | _ => none }
def FnExactCountHalvingWrongFalsely : Prop := fnExactCountHalvingRow.holds Try.pinned (OpenSpec.ofChange fnExactCountHalvingWrong)

/-- 'laws.FnExactWorstHalving': WHATEVER THE INPUT: true; the input reads as it did. -/
def fnExactWorstHalvingSpec : ChangeSpec := { name := "fnExactWorstHalving", fn := fun _ => fun
  | [d1, d2] => { results := [.lit (.bool true)], args := [d1, d2] }
  | _ => none }
def fnExactWorstHalvingRow : OpenClaim := { program := "ytfopallbhfcppaa", sum := "3d50ad70f58e88e6fb81ed7e1ffde93bf60d750c4b5c86e46075ecd6b410736c", func := "loop.example/g01040/laws.FnExactWorstHalving", spec := "fnExactWorstHalving", inPlace := ["(*sync.WaitGroup).Add", "internal/race.ReleaseMerge", "internal/race.Disable", "internal/race.Enable", "internal/synctest.IsInBubble", "internal/synctest.Associate[sync.WaitGroup]", "sync.fatal", "sync/atomic.OrUint64", "sync/atomic.AddUint64", "internal/race.Read", "sync/atomic.LoadUint64", "sync/atomic.StoreUint64", "internal/synctest.Disassociate[sync.WaitGroup]", "sync.runtime_Semrelease", "(*sync.WaitGroup).Done", "(*sync.WaitGroup).Wait", "internal/race.Acquire", "internal/synctest.IsAssociated[sync.WaitGroup]", "sync/atomic.CompareAndSwapUint64", "internal/race.Write", "sync.runtime_SemacquireWaitGroup"], unfollowed := true, recurses := true, leaving := true, apart := false }
def FnExactWorstHalvingSaid : Prop := fnExactWorstHalvingRow.holds Try.pinned (OpenSpec.ofChange fnExactWorstHalvingSpec)

/-- ITS FALSE NEIGHBOUR: 'it returns false'. Refute it at one input. -/
def fnExactWorstHalvingWrong : ChangeSpec := { name := "fnExactWorstHalving", fn := fun _ => fun
  | [d1, d2] => { results := [.lit (.bool false)], args := [d1, d2] }
  | _ => none }
def FnExactWorstHalvingWrongFalsely : Prop := fnExactWorstHalvingRow.holds Try.pinned (OpenSpec.ofChange fnExactWorstHalvingWrong)

/-- 'laws.FnExactSkipTests': WHATEVER THE INPUT: true; the input reads as it did. -/
def fnExactSkipTestsSpec : ChangeSpec := { name := "fnExactSkipTests", fn := fun _ => fun
  | [d1, d2] => { results := [.lit (.bool true)], args := [d1, d2] }
  | _ => none }
def fnExactSkipTestsRow : OpenClaim := { program := "ytfopallbhfcppaa", sum := "3d50ad70f58e88e6fb81ed7e1ffde93bf60d750c4b5c86e46075ecd6b410736c", func := "loop.example/g01040/laws.FnExactSkipTests", spec := "fnExactSkipTests", inPlace := ["(*sync.WaitGroup).Add", "internal/race.ReleaseMerge", "internal/race.Disable", "internal/race.Enable", "internal/synctest.IsInBubble", "internal/synctest.Associate[sync.WaitGroup]", "sync.fatal", "sync/atomic.OrUint64", "sync/atomic.AddUint64", "internal/race.Read", "sync/atomic.LoadUint64", "sync/atomic.StoreUint64", "internal/synctest.Disassociate[sync.WaitGroup]", "sync.runtime_Semrelease", "(*sync.WaitGroup).Done", "(*sync.WaitGroup).Wait", "internal/race.Acquire", "internal/synctest.IsAssociated[sync.WaitGroup]", "sync/atomic.CompareAndSwapUint64", "internal/race.Write", "sync.runtime_SemacquireWaitGroup"], unfollowed := true, recurses := true, leaving := true, apart := false }
def FnExactSkipTestsSaid : Prop := fnExactSkipTestsRow.holds Try.pinned (OpenSpec.ofChange fnExactSkipTestsSpec)

/-- ITS FALSE NEIGHBOUR: 'it returns false'. Refute it at one input. -/
def fnExactSkipTestsWrong : ChangeSpec := { name := "fnExactSkipTests", fn := fun _ => fun
  | [d1, d2] => { results := [.lit (.bool false)], args := [d1, d2] }
  | _ => none }
def FnExactSkipTestsWrongFalsely : Prop := fnExactSkipTestsRow.holds Try.pinned (OpenSpec.ofChange fnExactSkipTestsWrong)

/-- 'laws.FnExactOneByOne': WHATEVER THE INPUT: true; the input reads as it did. -/
def fnExactOneByOneSpec : ChangeSpec := { name := "fnExactOneByOne", fn := fun _ => fun
  | [d1, d2] => { results := [.lit (.bool true)], args := [d1, d2] }
  | _ => none }
def fnExactOneByOneRow : OpenClaim := { program := "ytfopallbhfcppaa", sum := "3d50ad70f58e88e6fb81ed7e1ffde93bf60d750c4b5c86e46075ecd6b410736c", func := "loop.example/g01040/laws.FnExactOneByOne", spec := "fnExactOneByOne", inPlace := ["(*sync.WaitGroup).Add", "internal/race.ReleaseMerge", "internal/race.Disable", "internal/race.Enable", "internal/synctest.IsInBubble", "internal/synctest.Associate[sync.WaitGroup]", "sync.fatal", "sync/atomic.OrUint64", "sync/atomic.AddUint64", "internal/race.Read", "sync/atomic.LoadUint64", "sync/atomic.StoreUint64", "internal/synctest.Disassociate[sync.WaitGroup]", "sync.runtime_Semrelease", "(*sync.WaitGroup).Done", "(*sync.WaitGroup).Wait", "internal/race.Acquire", "internal/synctest.IsAssociated[sync.WaitGroup]", "sync/atomic.CompareAndSwapUint64", "internal/race.Write", "sync.runtime_SemacquireWaitGroup"], unfollowed := true, recurses := true, leaving := true, apart := false }
def FnExactOneByOneSaid : Prop := fnExactOneByOneRow.holds Try.pinned (OpenSpec.ofChange fnExactOneByOneSpec)

/-- ITS FALSE NEIGHBOUR: 'it returns false'. Refute it at one input. -/
def fnExactOneByOneWrong : ChangeSpec := { name := "fnExactOneByOne", fn := fun _ => fun
  | [d1, d2] => { results := [.lit (.bool false)], args := [d1, d2] }
  | _ => none }
def FnExactOneByOneWrongFalsely : Prop := fnExactOneByOneRow.holds Try.pinned (OpenSpec.ofChange fnExactOneByOneWrong)

/-- 'laws.FnBits': WHATEVER THE INPUT: true; the input reads as it did. -/
def fnBitsSpec : ChangeSpec := { name := "fnBits", fn := fun _ => fun
  | [d] => { results := [.lit (.bool true)], args := [d] }
  | _ => none }
def fnBitsRow : OpenClaim := { program := "ytfopallbhfcppaa", sum := "3d50ad70f58e88e6fb81ed7e1ffde93bf60d750c4b5c86e46075ecd6b410736c", func := "loop.example/g01040/laws.FnBits", spec := "fnBits", unfollowed := true, recurses := true, leaving := true, apart := false }
def FnBitsSaid : Prop := fnBitsRow.holds Try.pinned (OpenSpec.ofChange fnBitsSpec)

/-- ITS FALSE NEIGHBOUR: 'it returns false'. Refute it at one input. -/
def fnBitsWrong : ChangeSpec := { name := "fnBits", fn := fun _ => fun
  | [d] => { results := [.lit (.bool false)], args := [d] }
  | _ => none }
def FnBitsWrongFalsely : Prop := fnBitsRow.holds Try.pinned (OpenSpec.ofChange fnBitsWrong)

/-- 'laws.FnExactIsDisjunct': WHATEVER THE INPUT: true; the input reads as it did. -/
def fnExactIsDisjunctSpec : ChangeSpec := { name := "fnExactIsDisjunct", fn := fun _ => fun
  | [d1, d2, d3] => { results := [.lit (.bool true)], args := [d1, d2, d3] }
  | _ => none }
def fnExactIsDisjunctRow : OpenClaim := { program := "ytfopallbhfcppaa", sum := "3d50ad70f58e88e6fb81ed7e1ffde93bf60d750c4b5c86e46075ecd6b410736c", func := "loop.example/g01040/laws.FnExactIsDisjunct", spec := "fnExactIsDisjunct", unfollowed := true, recurses := true, leaving := true, apart := false }
def FnExactIsDisjunctSaid : Prop := fnExactIsDisjunctRow.holds Try.pinned (OpenSpec.ofChange fnExactIsDisjunctSpec)

/-- ITS FALSE NEIGHBOUR: 'it returns false'. Refute it at one input. -/
def fnExactIsDisjunctWrong : ChangeSpec := { name := "fnExactIsDisjunct", fn := fun _ => fun
  | [d1, d2, d3] => { results := [.lit (.bool false)], args := [d1, d2, d3] }
  | _ => none }
def FnExactIsDisjunctWrongFalsely : Prop := fnExactIsDisjunctRow.holds Try.pinned (OpenSpec.ofChange fnExactIsDisjunctWrong)

/-- 'laws.FnExactSinglePools': WHATEVER THE INPUT: true; the input reads as it did. -/
def fnExactSinglePoolsSpec : ChangeSpec := { name := "fnExactSinglePools", fn := fun _ => fun
  | [d] => { results := [.lit (.bool true)], args := [d] }
  | _ => none }
def fnExactSinglePoolsRow : OpenClaim := { program := "ytfopallbhfcppaa", sum := "3d50ad70f58e88e6fb81ed7e1ffde93bf60d750c4b5c86e46075ecd6b410736c", func := "loop.example/g01040/laws.FnExactSinglePools", spec := "fnExactSinglePools", unfollowed := true, recurses := true, leaving := true, apart := false }
def FnExactSinglePoolsSaid : Prop := fnExactSinglePoolsRow.holds Try.pinned (OpenSpec.ofChange fnExactSinglePoolsSpec)

/-- ITS FALSE NEIGHBOUR: 'it returns false'. Refute it at one input. -/
def fnExactSinglePoolsWrong : ChangeSpec := { name := "fnExactSinglePools", fn := fun _ => fun
  | [d] => { results := [.lit (.bool false)], args := [d] }
  | _ => none }
def FnExactSinglePoolsWrongFalsely : Prop := fnExactSinglePoolsRow.holds Try.pinned (OpenSpec.ofChange fnExactSinglePoolsWrong)

/-- 'laws.FnExactFewestPools': WHATEVER THE INPUT: true; the input reads as it did. -/
def fnExactFewestPoolsSpec : ChangeSpec := { name := "fnExactFewestPools", fn := fun _ => fun
  | [d1, d2] => { results := [.lit (.bool true)], args := [d1, d2] }
  | _ => none }
def fnExactFewestPoolsRow : OpenClaim := { program := "ytfopallbhfcppaa", sum := "3d50ad70f58e88e6fb81ed7e1ffde93bf60d750c4b5c86e46075ecd6b410736c", func := "loop.example/g01040/laws.FnExactFewestPools", spec := "fnExactFewestPools", unfollowed := true, recurses := true, leaving := true, apart := false }
def FnExactFewestPoolsSaid : Prop := fnExactFewestPoolsRow.holds Try.pinned (OpenSpec.ofChange fnExactFewestPoolsSpec)

/-- ITS FALSE NEIGHBOUR: 'it returns false'. Refute it at one input. -/
def fnExactFewestPoolsWrong : ChangeSpec := { name := "fnExactFewestPools", fn := fun _ => fun
  | [d1, d2] => { results := [.lit (.bool false)], args := [d1, d2] }
  | _ => none }
def FnExactFewestPoolsWrongFalsely : Prop := fnExactFewestPoolsRow.holds Try.pinned (OpenSpec.ofChange fnExactFewestPoolsWrong)

/- THE SECOND FORM. 'bulk': how many values and letters a reading holds, each counted each time it is reached (what is shared counts as often as it is met; a slice's spare places count too). A statement '..UptoSaid' is the law's where the arguments, and the package variables that the reading takes, are together of bulk at most 1048576: NARROWER than '..Said'. Prove '..Said' where nothing that the law and all that it calls make is longer than what came in: it says more and counts as full. Else prove '..UptoSaid'. A law counts once. -/
mutual
def uptoBulk {H : Type} : DataW H → Nat
  | .lit (.string bytes) => bytes.length + 1
  | .lit _ => 1
  | .nil => 1
  | .ptr d => uptoBulk d + 1
  | .slice elems spare => uptoBulkAll elems + uptoBulkAll spare + 1
  | .agg parts => uptoBulkAll parts + 1
  | .iface _ d => uptoBulk d + 1
  | .map entries => uptoBulkEntries entries + 1
  | .held _ => 1
def uptoBulkAll {H : Type} : List (DataW H) → Nat
  | [] => 0
  | d :: r => uptoBulk d + uptoBulkAll r
def uptoBulkEntries {H : Type} : List (Lit × DataW H) → Nat
  | [] => 0
  | x :: r => uptoBulkEntry x + uptoBulkEntries r
def uptoBulkEntry {H : Type} : Lit × DataW H → Nat
  | (.string bytes, d) => bytes.length + uptoBulk d + 1
  | (_, d) => uptoBulk d + 1
 end
def uptoSmall : (H : Type) → List (DataW H) → Bool := fun _ ds => decide (uptoBulkAll ds ≤ 1048576)
def OpenSpec.upto (s : _root_.Go.ChangeSpec) : _root_.Go.OpenSpec := { _root_.Go.OpenSpec.ofChange s with cond := some uptoSmall }

/-- 'laws.FnHalving', WHERE WHAT IT READS IS OF BULK AT MOST 1048576: true; the input reads as it did. -/
def fnHalvingUptoRow : OpenClaim := { program := "ytfopallbhfcppaa", sum := "3d50ad70f58e88e6fb81ed7e1ffde93bf60d750c4b5c86e46075ecd6b410736c", func := "loop.example/g01040/laws.FnHalving", spec := "fnHalving", inPlace := ["(*sync.WaitGroup).Add", "internal/race.ReleaseMerge", "internal/race.Disable", "internal/race.Enable", "internal/synctest.IsInBubble", "internal/synctest.Associate[sync.WaitGroup]", "sync.fatal", "sync/atomic.OrUint64", "sync/atomic.AddUint64", "internal/race.Read", "sync/atomic.LoadUint64", "sync/atomic.StoreUint64", "internal/synctest.Disassociate[sync.WaitGroup]", "sync.runtime_Semrelease", "(*sync.WaitGroup).Done", "(*sync.WaitGroup).Wait", "internal/race.Acquire", "internal/synctest.IsAssociated[sync.WaitGroup]", "sync/atomic.CompareAndSwapUint64", "internal/race.Write", "sync.runtime_SemacquireWaitGroup"], unfollowed := true, recurses := true, leaving := true, apart := false, narrowed := true }
def FnHalvingUptoSaid : Prop := fnHalvingUptoRow.holds Try.pinned (OpenSpec.upto fnHalvingSpec)

/-- 'laws.FnWorsts', WHERE WHAT IT READS IS OF BULK AT MOST 1048576: true; the input reads as it did. -/
def fnWorstsUptoRow : OpenClaim := { program := "ytfopallbhfcppaa", sum := "3d50ad70f58e88e6fb81ed7e1ffde93bf60d750c4b5c86e46075ecd6b410736c", func := "loop.example/g01040/laws.FnWorsts", spec := "fnWorsts", inPlace := ["(*sync.WaitGroup).Add", "internal/race.ReleaseMerge", "internal/race.Disable", "internal/race.Enable", "internal/synctest.IsInBubble", "internal/synctest.Associate[sync.WaitGroup]", "sync.fatal", "sync/atomic.OrUint64", "sync/atomic.AddUint64", "internal/race.Read", "sync/atomic.LoadUint64", "sync/atomic.StoreUint64", "internal/synctest.Disassociate[sync.WaitGroup]", "sync.runtime_Semrelease", "(*sync.WaitGroup).Done", "(*sync.WaitGroup).Wait", "internal/race.Acquire", "internal/synctest.IsAssociated[sync.WaitGroup]", "sync/atomic.CompareAndSwapUint64", "internal/race.Write", "sync.runtime_SemacquireWaitGroup"], unfollowed := true, recurses := true, leaving := true, apart := false, narrowed := true }
def FnWorstsUptoSaid : Prop := fnWorstsUptoRow.holds Try.pinned (OpenSpec.upto fnWorstsSpec)

/-- 'laws.FnExactFindOne', WHERE WHAT IT READS IS OF BULK AT MOST 1048576: true; the input reads as it did. -/
def fnExactFindOneUptoRow : OpenClaim := { program := "ytfopallbhfcppaa", sum := "3d50ad70f58e88e6fb81ed7e1ffde93bf60d750c4b5c86e46075ecd6b410736c", func := "loop.example/g01040/laws.FnExactFindOne", spec := "fnExactFindOne", unfollowed := true, recurses := true, leaving := true, apart := false, narrowed := true }
def FnExactFindOneUptoSaid : Prop := fnExactFindOneUptoRow.holds Try.pinned (OpenSpec.upto fnExactFindOneSpec)

/-- 'laws.FnExactFindAll', WHERE WHAT IT READS IS OF BULK AT MOST 1048576: true; the input reads as it did. -/
def fnExactFindAllUptoRow : OpenClaim := { program := "ytfopallbhfcppaa", sum := "3d50ad70f58e88e6fb81ed7e1ffde93bf60d750c4b5c86e46075ecd6b410736c", func := "loop.example/g01040/laws.FnExactFindAll", spec := "fnExactFindAll", inPlace := ["(*sync.WaitGroup).Add", "internal/race.ReleaseMerge", "internal/race.Disable", "internal/race.Enable", "internal/synctest.IsInBubble", "internal/synctest.Associate[sync.WaitGroup]", "sync.fatal", "sync/atomic.OrUint64", "sync/atomic.AddUint64", "internal/race.Read", "sync/atomic.LoadUint64", "sync/atomic.StoreUint64", "internal/synctest.Disassociate[sync.WaitGroup]", "sync.runtime_Semrelease", "(*sync.WaitGroup).Done", "(*sync.WaitGroup).Wait", "internal/race.Acquire", "internal/synctest.IsAssociated[sync.WaitGroup]", "sync/atomic.CompareAndSwapUint64", "internal/race.Write", "sync.runtime_SemacquireWaitGroup"], unfollowed := true, recurses := true, leaving := true, apart := false, narrowed := true }
def FnExactFindAllUptoSaid : Prop := fnExactFindAllUptoRow.holds Try.pinned (OpenSpec.upto fnExactFindAllSpec)

/-- 'laws.FnExactCountHalving', WHERE WHAT IT READS IS OF BULK AT MOST 1048576: true; the input reads as it did. -/
def fnExactCountHalvingUptoRow : OpenClaim := { program := "ytfopallbhfcppaa", sum := "3d50ad70f58e88e6fb81ed7e1ffde93bf60d750c4b5c86e46075ecd6b410736c", func := "loop.example/g01040/laws.FnExactCountHalving", spec := "fnExactCountHalving", inPlace := ["(*sync.WaitGroup).Add", "internal/race.ReleaseMerge", "internal/race.Disable", "internal/race.Enable", "internal/synctest.IsInBubble", "internal/synctest.Associate[sync.WaitGroup]", "sync.fatal", "sync/atomic.OrUint64", "sync/atomic.AddUint64", "internal/race.Read", "sync/atomic.LoadUint64", "sync/atomic.StoreUint64", "internal/synctest.Disassociate[sync.WaitGroup]", "sync.runtime_Semrelease", "(*sync.WaitGroup).Done", "(*sync.WaitGroup).Wait", "internal/race.Acquire", "internal/synctest.IsAssociated[sync.WaitGroup]", "sync/atomic.CompareAndSwapUint64", "internal/race.Write", "sync.runtime_SemacquireWaitGroup"], unfollowed := true, recurses := true, leaving := true, apart := false, narrowed := true }
def FnExactCountHalvingUptoSaid : Prop := fnExactCountHalvingUptoRow.holds Try.pinned (OpenSpec.upto fnExactCountHalvingSpec)

/-- 'laws.FnExactWorstHalving', WHERE WHAT IT READS IS OF BULK AT MOST 1048576: true; the input reads as it did. -/
def fnExactWorstHalvingUptoRow : OpenClaim := { program := "ytfopallbhfcppaa", sum := "3d50ad70f58e88e6fb81ed7e1ffde93bf60d750c4b5c86e46075ecd6b410736c", func := "loop.example/g01040/laws.FnExactWorstHalving", spec := "fnExactWorstHalving", inPlace := ["(*sync.WaitGroup).Add", "internal/race.ReleaseMerge", "internal/race.Disable", "internal/race.Enable", "internal/synctest.IsInBubble", "internal/synctest.Associate[sync.WaitGroup]", "sync.fatal", "sync/atomic.OrUint64", "sync/atomic.AddUint64", "internal/race.Read", "sync/atomic.LoadUint64", "sync/atomic.StoreUint64", "internal/synctest.Disassociate[sync.WaitGroup]", "sync.runtime_Semrelease", "(*sync.WaitGroup).Done", "(*sync.WaitGroup).Wait", "internal/race.Acquire", "internal/synctest.IsAssociated[sync.WaitGroup]", "sync/atomic.CompareAndSwapUint64", "internal/race.Write", "sync.runtime_SemacquireWaitGroup"], unfollowed := true, recurses := true, leaving := true, apart := false, narrowed := true }
def FnExactWorstHalvingUptoSaid : Prop := fnExactWorstHalvingUptoRow.holds Try.pinned (OpenSpec.upto fnExactWorstHalvingSpec)

/-- 'laws.FnExactSkipTests', WHERE WHAT IT READS IS OF BULK AT MOST 1048576: true; the input reads as it did. -/
def fnExactSkipTestsUptoRow : OpenClaim := { program := "ytfopallbhfcppaa", sum := "3d50ad70f58e88e6fb81ed7e1ffde93bf60d750c4b5c86e46075ecd6b410736c", func := "loop.example/g01040/laws.FnExactSkipTests", spec := "fnExactSkipTests", inPlace := ["(*sync.WaitGroup).Add", "internal/race.ReleaseMerge", "internal/race.Disable", "internal/race.Enable", "internal/synctest.IsInBubble", "internal/synctest.Associate[sync.WaitGroup]", "sync.fatal", "sync/atomic.OrUint64", "sync/atomic.AddUint64", "internal/race.Read", "sync/atomic.LoadUint64", "sync/atomic.StoreUint64", "internal/synctest.Disassociate[sync.WaitGroup]", "sync.runtime_Semrelease", "(*sync.WaitGroup).Done", "(*sync.WaitGroup).Wait", "internal/race.Acquire", "internal/synctest.IsAssociated[sync.WaitGroup]", "sync/atomic.CompareAndSwapUint64", "internal/race.Write", "sync.runtime_SemacquireWaitGroup"], unfollowed := true, recurses := true, leaving := true, apart := false, narrowed := true }
def FnExactSkipTestsUptoSaid : Prop := fnExactSkipTestsUptoRow.holds Try.pinned (OpenSpec.upto fnExactSkipTestsSpec)

/-- 'laws.FnExactOneByOne', WHERE WHAT IT READS IS OF BULK AT MOST 1048576: true; the input reads as it did. -/
def fnExactOneByOneUptoRow : OpenClaim := { program := "ytfopallbhfcppaa", sum := "3d50ad70f58e88e6fb81ed7e1ffde93bf60d750c4b5c86e46075ecd6b410736c", func := "loop.example/g01040/laws.FnExactOneByOne", spec := "fnExactOneByOne", inPlace := ["(*sync.WaitGroup).Add", "internal/race.ReleaseMerge", "internal/race.Disable", "internal/race.Enable", "internal/synctest.IsInBubble", "internal/synctest.Associate[sync.WaitGroup]", "sync.fatal", "sync/atomic.OrUint64", "sync/atomic.AddUint64", "internal/race.Read", "sync/atomic.LoadUint64", "sync/atomic.StoreUint64", "internal/synctest.Disassociate[sync.WaitGroup]", "sync.runtime_Semrelease", "(*sync.WaitGroup).Done", "(*sync.WaitGroup).Wait", "internal/race.Acquire", "internal/synctest.IsAssociated[sync.WaitGroup]", "sync/atomic.CompareAndSwapUint64", "internal/race.Write", "sync.runtime_SemacquireWaitGroup"], unfollowed := true, recurses := true, leaving := true, apart := false, narrowed := true }
def FnExactOneByOneUptoSaid : Prop := fnExactOneByOneUptoRow.holds Try.pinned (OpenSpec.upto fnExactOneByOneSpec)

/-- 'laws.FnBits', WHERE WHAT IT READS IS OF BULK AT MOST 1048576: true; the input reads as it did. -/
def fnBitsUptoRow : OpenClaim := { program := "ytfopallbhfcppaa", sum := "3d50ad70f58e88e6fb81ed7e1ffde93bf60d750c4b5c86e46075ecd6b410736c", func := "loop.example/g01040/laws.FnBits", spec := "fnBits", unfollowed := true, recurses := true, leaving := true, apart := false, narrowed := true }
def FnBitsUptoSaid : Prop := fnBitsUptoRow.holds Try.pinned (OpenSpec.upto fnBitsSpec)

/-- 'laws.FnExactIsDisjunct', WHERE WHAT IT READS IS OF BULK AT MOST 1048576: true; the input reads as it did. -/
def fnExactIsDisjunctUptoRow : OpenClaim := { program := "ytfopallbhfcppaa", sum := "3d50ad70f58e88e6fb81ed7e1ffde93bf60d750c4b5c86e46075ecd6b410736c", func := "loop.example/g01040/laws.FnExactIsDisjunct", spec := "fnExactIsDisjunct", unfollowed := true, recurses := true, leaving := true, apart := false, narrowed := true }
def FnExactIsDisjunctUptoSaid : Prop := fnExactIsDisjunctUptoRow.holds Try.pinned (OpenSpec.upto fnExactIsDisjunctSpec)

/-- 'laws.FnExactSinglePools', WHERE WHAT IT READS IS OF BULK AT MOST 1048576: true; the input reads as it did. -/
def fnExactSinglePoolsUptoRow : OpenClaim := { program := "ytfopallbhfcppaa", sum := "3d50ad70f58e88e6fb81ed7e1ffde93bf60d750c4b5c86e46075ecd6b410736c", func := "loop.example/g01040/laws.FnExactSinglePools", spec := "fnExactSinglePools", unfollowed := true, recurses := true, leaving := true, apart := false, narrowed := true }
def FnExactSinglePoolsUptoSaid : Prop := fnExactSinglePoolsUptoRow.holds Try.pinned (OpenSpec.upto fnExactSinglePoolsSpec)

/-- 'laws.FnExactFewestPools', WHERE WHAT IT READS IS OF BULK AT MOST 1048576: true; the input reads as it did. -/
def fnExactFewestPoolsUptoRow : OpenClaim := { program := "ytfopallbhfcppaa", sum := "3d50ad70f58e88e6fb81ed7e1ffde93bf60d750c4b5c86e46075ecd6b410736c", func := "loop.example/g01040/laws.FnExactFewestPools", spec := "fnExactFewestPools", unfollowed := true, recurses := true, leaving := true, apart := false, narrowed := true }
def FnExactFewestPoolsUptoSaid : Prop := fnExactFewestPoolsUptoRow.holds Try.pinned (OpenSpec.upto fnExactFewestPoolsSpec)

end Rows
end Go.Proofs.Ytfopallbhfcppaa
