/-
  NARROWER THAN 'FOR EVERY INPUT', by the rows' own cells (each row's printed sentence says how): FnExactWorstArray: calm · FnArrays: calm.
  DERIVED. THE GIVEN ROWS OF THIS SEAT. 8 by the template 'for every input the law returns true; each argument reads behind the call as it read before'; 0 by the template 'total and deterministic' (their statements: YtljodgdnimiliaaTotals.lean).
  GIVEN WITH THE SEED: the statements are not yours to turn. If you find one false, say at which input.
  Laid BY PROGRAM, IN A SANDBOX (cutbox-rows.mjs): the forced cells as the released guide's own fill.sh prints them over the translation dbe073b91a215e4a… (all of the seat's roots in one cut). By AI agents, Wed Nov 11 2026. No macro, syntax, notation, axiom, sorry.
-/
import Derived.Test.YtljodgdnimiliaaChecked
import GoSem.Claim
import GoSem.ClaimJoined
import GoSem.ClaimMapViews
import Derived.JoinedTies
import Derived.KernelRfl
namespace Go.Proofs.Ytljodgdnimiliaa
/- THE CELL 'sum', in the pinned program and in every row, IS THE sha256 OF THE DUMP (.gsa) THAT YtljodgdnimiliaaProg.lean LOADS. Nothing in Lean hashes anything: it is a label: what it is worth is what the hold of that sum in a sandbox is worth. -/
noncomputable def Try.pinned : Pinned := { name := "ytljodgdnimiliaa", sum := "dbe073b91a215e4afdceb727cc7c4146054a3fff843ed50dee510871d14f8eee", checked := Try.checked }
namespace Rows
def none {H : Type} : Left H := { results := [], args := [] }

/-- 'laws.FnExactArrayOk': WHATEVER THE INPUT: true; the input reads as it did. -/
def fnExactArrayOkSpec : ChangeSpec := { name := "fnExactArrayOk", fn := fun _ => fun
  | [d1, d2] => { results := [.lit (.bool true)], args := [d1, d2] }
  | _ => none }
def fnExactArrayOkRow : OpenClaim := { program := "ytljodgdnimiliaa", sum := "dbe073b91a215e4afdceb727cc7c4146054a3fff843ed50dee510871d14f8eee", func := "loop.example/g01040/laws.FnExactArrayOk", spec := "fnExactArrayOk", apart := false }
def FnExactArrayOkSaid : Prop := fnExactArrayOkRow.holds Try.pinned (OpenSpec.ofChange fnExactArrayOkSpec)

/-- ITS FALSE NEIGHBOUR: 'it returns false'. Refute it at one input. -/
def fnExactArrayOkWrong : ChangeSpec := { name := "fnExactArrayOk", fn := fun _ => fun
  | [d1, d2] => { results := [.lit (.bool false)], args := [d1, d2] }
  | _ => none }
def FnExactArrayOkWrongFalsely : Prop := fnExactArrayOkRow.holds Try.pinned (OpenSpec.ofChange fnExactArrayOkWrong)

/-- 'laws.FnExactTestArray': WHATEVER THE INPUT: true; the input reads as it did. -/
def fnExactTestArraySpec : ChangeSpec := { name := "fnExactTestArray", fn := fun _ => fun
  | [d1, d2, d3] => { results := [.lit (.bool true)], args := [d1, d2, d3] }
  | _ => none }
def fnExactTestArrayRow : OpenClaim := { program := "ytljodgdnimiliaa", sum := "dbe073b91a215e4afdceb727cc7c4146054a3fff843ed50dee510871d14f8eee", func := "loop.example/g01040/laws.FnExactTestArray", spec := "fnExactTestArray", unfollowed := true, recurses := true, leaving := true, apart := false }
def FnExactTestArraySaid : Prop := fnExactTestArrayRow.holds Try.pinned (OpenSpec.ofChange fnExactTestArraySpec)

/-- ITS FALSE NEIGHBOUR: 'it returns false'. Refute it at one input. -/
def fnExactTestArrayWrong : ChangeSpec := { name := "fnExactTestArray", fn := fun _ => fun
  | [d1, d2, d3] => { results := [.lit (.bool false)], args := [d1, d2, d3] }
  | _ => none }
def FnExactTestArrayWrongFalsely : Prop := fnExactTestArrayRow.holds Try.pinned (OpenSpec.ofChange fnExactTestArrayWrong)

/-- 'laws.FnExactSuspectsOf': WHATEVER THE INPUT: true; the input reads as it did. -/
def fnExactSuspectsOfSpec : ChangeSpec := { name := "fnExactSuspectsOf", fn := fun _ => fun
  | [d1, d2, d3, d4] => { results := [.lit (.bool true)], args := [d1, d2, d3, d4] }
  | _ => none }
def fnExactSuspectsOfRow : OpenClaim := { program := "ytljodgdnimiliaa", sum := "dbe073b91a215e4afdceb727cc7c4146054a3fff843ed50dee510871d14f8eee", func := "loop.example/g01040/laws.FnExactSuspectsOf", spec := "fnExactSuspectsOf", apart := false }
def FnExactSuspectsOfSaid : Prop := fnExactSuspectsOfRow.holds Try.pinned (OpenSpec.ofChange fnExactSuspectsOfSpec)

/-- ITS FALSE NEIGHBOUR: 'it returns false'. Refute it at one input. -/
def fnExactSuspectsOfWrong : ChangeSpec := { name := "fnExactSuspectsOf", fn := fun _ => fun
  | [d1, d2, d3, d4] => { results := [.lit (.bool false)], args := [d1, d2, d3, d4] }
  | _ => none }
def FnExactSuspectsOfWrongFalsely : Prop := fnExactSuspectsOfRow.holds Try.pinned (OpenSpec.ofChange fnExactSuspectsOfWrong)

/-- 'laws.FnExactIsClear': WHATEVER THE INPUT: true; the input reads as it did. -/
def fnExactIsClearSpec : ChangeSpec := { name := "fnExactIsClear", fn := fun _ => fun
  | [d1, d2, d3, d4] => { results := [.lit (.bool true)], args := [d1, d2, d3, d4] }
  | _ => none }
def fnExactIsClearRow : OpenClaim := { program := "ytljodgdnimiliaa", sum := "dbe073b91a215e4afdceb727cc7c4146054a3fff843ed50dee510871d14f8eee", func := "loop.example/g01040/laws.FnExactIsClear", spec := "fnExactIsClear", apart := false }
def FnExactIsClearSaid : Prop := fnExactIsClearRow.holds Try.pinned (OpenSpec.ofChange fnExactIsClearSpec)

/-- ITS FALSE NEIGHBOUR: 'it returns false'. Refute it at one input. -/
def fnExactIsClearWrong : ChangeSpec := { name := "fnExactIsClear", fn := fun _ => fun
  | [d1, d2, d3, d4] => { results := [.lit (.bool false)], args := [d1, d2, d3, d4] }
  | _ => none }
def FnExactIsClearWrongFalsely : Prop := fnExactIsClearRow.holds Try.pinned (OpenSpec.ofChange fnExactIsClearWrong)

/-- 'laws.FnExactCountArrayTests': WHATEVER THE INPUT: true; the input reads as it did. -/
def fnExactCountArrayTestsSpec : ChangeSpec := { name := "fnExactCountArrayTests", fn := fun _ => fun
  | [d1, d2, d3] => { results := [.lit (.bool true)], args := [d1, d2, d3] }
  | _ => none }
def fnExactCountArrayTestsRow : OpenClaim := { program := "ytljodgdnimiliaa", sum := "dbe073b91a215e4afdceb727cc7c4146054a3fff843ed50dee510871d14f8eee", func := "loop.example/g01040/laws.FnExactCountArrayTests", spec := "fnExactCountArrayTests", unfollowed := true, recurses := true, leaving := true, apart := false }
def FnExactCountArrayTestsSaid : Prop := fnExactCountArrayTestsRow.holds Try.pinned (OpenSpec.ofChange fnExactCountArrayTestsSpec)

/-- ITS FALSE NEIGHBOUR: 'it returns false'. Refute it at one input. -/
def fnExactCountArrayTestsWrong : ChangeSpec := { name := "fnExactCountArrayTests", fn := fun _ => fun
  | [d1, d2, d3] => { results := [.lit (.bool false)], args := [d1, d2, d3] }
  | _ => none }
def FnExactCountArrayTestsWrongFalsely : Prop := fnExactCountArrayTestsRow.holds Try.pinned (OpenSpec.ofChange fnExactCountArrayTestsWrong)

/-- 'laws.FnExactArraySets': WHATEVER THE INPUT: true; the input reads as it did. -/
def fnExactArraySetsSpec : ChangeSpec := { name := "fnExactArraySets", fn := fun _ => fun
  | [d1, d2, d3, d4] => { results := [.lit (.bool true)], args := [d1, d2, d3, d4] }
  | _ => none }
def fnExactArraySetsRow : OpenClaim := { program := "ytljodgdnimiliaa", sum := "dbe073b91a215e4afdceb727cc7c4146054a3fff843ed50dee510871d14f8eee", func := "loop.example/g01040/laws.FnExactArraySets", spec := "fnExactArraySets", inPlace := ["sync/atomic.AddInt64", "(*sync.WaitGroup).Add", "internal/race.ReleaseMerge", "internal/race.Disable", "internal/race.Enable", "internal/synctest.IsInBubble", "internal/synctest.Associate[sync.WaitGroup]", "sync.fatal", "sync/atomic.OrUint64", "sync/atomic.AddUint64", "internal/race.Read", "sync/atomic.LoadUint64", "sync/atomic.StoreUint64", "internal/synctest.Disassociate[sync.WaitGroup]", "sync.runtime_Semrelease", "(*sync.WaitGroup).Done", "(*sync.WaitGroup).Wait", "internal/race.Acquire", "internal/synctest.IsAssociated[sync.WaitGroup]", "sync/atomic.CompareAndSwapUint64", "internal/race.Write", "sync.runtime_SemacquireWaitGroup", "sync/atomic.LoadInt64"], unfollowed := true, recurses := true, leaving := true, apart := false }
def FnExactArraySetsSaid : Prop := fnExactArraySetsRow.holds Try.pinned (OpenSpec.ofChange fnExactArraySetsSpec)

/-- ITS FALSE NEIGHBOUR: 'it returns false'. Refute it at one input. -/
def fnExactArraySetsWrong : ChangeSpec := { name := "fnExactArraySets", fn := fun _ => fun
  | [d1, d2, d3, d4] => { results := [.lit (.bool false)], args := [d1, d2, d3, d4] }
  | _ => none }
def FnExactArraySetsWrongFalsely : Prop := fnExactArraySetsRow.holds Try.pinned (OpenSpec.ofChange fnExactArraySetsWrong)

/-- 'laws.FnExactWorstArray': WHATEVER THE INPUT: true; the input reads as it did. -/
def fnExactWorstArraySpec : ChangeSpec := { name := "fnExactWorstArray", fn := fun _ => fun
  | [d1, d2, d3] => { results := [.lit (.bool true)], args := [d1, d2, d3] }
  | _ => none }
def fnExactWorstArrayRow : OpenClaim := { program := "ytljodgdnimiliaa", sum := "dbe073b91a215e4afdceb727cc7c4146054a3fff843ed50dee510871d14f8eee", func := "loop.example/g01040/laws.FnExactWorstArray", spec := "fnExactWorstArray", inPlace := ["(*internal/sync.Mutex).Lock", "internal/race.Disable", "sync/atomic.CompareAndSwapInt32", "internal/race.Enable", "internal/race.Acquire", "(*internal/sync.Mutex).lockSlow", "internal/sync.runtime_canSpin", "internal/sync.runtime_doSpin", "internal/sync.throw", "internal/sync.runtime_nanotime", "internal/sync.runtime_SemacquireMutex", "sync/atomic.AddInt32", "(*internal/sync.Mutex).Unlock", "internal/race.ReleaseMerge", "(*internal/sync.Mutex).unlockSlow", "internal/sync.fatal", "internal/sync.runtime_Semrelease", "(*sync.WaitGroup).Add", "internal/synctest.IsInBubble", "internal/synctest.Associate[sync.WaitGroup]", "sync.fatal", "sync/atomic.OrUint64", "sync/atomic.AddUint64", "internal/race.Read", "sync/atomic.LoadUint64", "sync/atomic.StoreUint64", "internal/synctest.Disassociate[sync.WaitGroup]", "sync.runtime_Semrelease", "(*sync.WaitGroup).Done", "(*sync.WaitGroup).Wait", "internal/synctest.IsAssociated[sync.WaitGroup]", "sync/atomic.CompareAndSwapUint64", "internal/race.Write", "sync.runtime_SemacquireWaitGroup"], unfollowed := true, recurses := true, leaving := true, apart := false, calm := true, outside := [.timePasses] }
def FnExactWorstArraySaid : Prop := fnExactWorstArrayRow.holds Try.pinned (OpenSpec.ofChange fnExactWorstArraySpec)

/-- ITS FALSE NEIGHBOUR: 'it returns false'. Refute it at one input. -/
def fnExactWorstArrayWrong : ChangeSpec := { name := "fnExactWorstArray", fn := fun _ => fun
  | [d1, d2, d3] => { results := [.lit (.bool false)], args := [d1, d2, d3] }
  | _ => none }
def FnExactWorstArrayWrongFalsely : Prop := fnExactWorstArrayRow.holds Try.pinned (OpenSpec.ofChange fnExactWorstArrayWrong)

/-- 'laws.FnArrays': WHATEVER THE INPUT: true; the input reads as it did. -/
def fnArraysSpec : ChangeSpec := { name := "fnArrays", fn := fun _ => fun
  | [d] => { results := [.lit (.bool true)], args := [d] }
  | _ => none }
def fnArraysRow : OpenClaim := { program := "ytljodgdnimiliaa", sum := "dbe073b91a215e4afdceb727cc7c4146054a3fff843ed50dee510871d14f8eee", func := "loop.example/g01040/laws.FnArrays", spec := "fnArrays", inPlace := ["sync/atomic.AddInt64", "(*sync.WaitGroup).Add", "internal/race.ReleaseMerge", "internal/race.Disable", "internal/race.Enable", "internal/synctest.IsInBubble", "internal/synctest.Associate[sync.WaitGroup]", "sync.fatal", "sync/atomic.OrUint64", "sync/atomic.AddUint64", "internal/race.Read", "sync/atomic.LoadUint64", "sync/atomic.StoreUint64", "internal/synctest.Disassociate[sync.WaitGroup]", "sync.runtime_Semrelease", "(*sync.WaitGroup).Done", "(*sync.WaitGroup).Wait", "internal/race.Acquire", "internal/synctest.IsAssociated[sync.WaitGroup]", "sync/atomic.CompareAndSwapUint64", "internal/race.Write", "sync.runtime_SemacquireWaitGroup", "sync/atomic.LoadInt64", "(*internal/sync.Mutex).Lock", "sync/atomic.CompareAndSwapInt32", "(*internal/sync.Mutex).lockSlow", "internal/sync.runtime_canSpin", "internal/sync.runtime_doSpin", "internal/sync.throw", "internal/sync.runtime_nanotime", "internal/sync.runtime_SemacquireMutex", "sync/atomic.AddInt32", "(*internal/sync.Mutex).Unlock", "(*internal/sync.Mutex).unlockSlow", "internal/sync.fatal", "internal/sync.runtime_Semrelease"], unfollowed := true, recurses := true, leaving := true, apart := false, calm := true, outside := [.timePasses] }
def FnArraysSaid : Prop := fnArraysRow.holds Try.pinned (OpenSpec.ofChange fnArraysSpec)

/-- ITS FALSE NEIGHBOUR: 'it returns false'. Refute it at one input. -/
def fnArraysWrong : ChangeSpec := { name := "fnArrays", fn := fun _ => fun
  | [d] => { results := [.lit (.bool false)], args := [d] }
  | _ => none }
def FnArraysWrongFalsely : Prop := fnArraysRow.holds Try.pinned (OpenSpec.ofChange fnArraysWrong)

/- THE SECOND FORM. 'bulk': how many values and letters a reading holds, each counted each time it is reached (what is shared counts as often as it is met; a slice's spare places count too). A statement '..UptoSaid' is the law's where the arguments, and the package variables that the reading takes, are together of bulk at most 1048576: NARROWER than '..Said'. Prove '..Said' where nothing that the law and all that it calls make is longer than what came in: it says more and counts as full. Else prove '..UptoSaid'. A law counts once. -/
mutual
def uptoBulk {H : Type} : DataW H → Nat
  | .lit (.string bytes) => bytes.length + 1
  | .lit _ => 1
  | .nil => 1
  | .ptr d => uptoBulk d + 1
  | .slice elems spare => uptoBulkAll elems + uptoBulkAll spare + 1
  | .agg parts => uptoBulkAll parts + 1
  | .iface _ d => uptoBulk d + 1
  | .map entries => uptoBulkEntries entries + 1
  | .held _ => 1
def uptoBulkAll {H : Type} : List (DataW H) → Nat
  | [] => 0
  | d :: r => uptoBulk d + uptoBulkAll r
def uptoBulkEntries {H : Type} : List (Lit × DataW H) → Nat
  | [] => 0
  | x :: r => uptoBulkEntry x + uptoBulkEntries r
def uptoBulkEntry {H : Type} : Lit × DataW H → Nat
  | (.string bytes, d) => bytes.length + uptoBulk d + 1
  | (_, d) => uptoBulk d + 1
 end
def uptoSmall : (H : Type) → List (DataW H) → Bool := fun _ ds => decide (uptoBulkAll ds ≤ 1048576)
def OpenSpec.upto (s : _root_.Go.ChangeSpec) : _root_.Go.OpenSpec := { _root_.Go.OpenSpec.ofChange s with cond := some uptoSmall }

/-- 'laws.FnExactArrayOk', WHERE WHAT IT READS IS OF BULK AT MOST 1048576: true; the input reads as it did. -/
def fnExactArrayOkUptoRow : OpenClaim := { program := "ytljodgdnimiliaa", sum := "dbe073b91a215e4afdceb727cc7c4146054a3fff843ed50dee510871d14f8eee", func := "loop.example/g01040/laws.FnExactArrayOk", spec := "fnExactArrayOk", apart := false, narrowed := true }
def FnExactArrayOkUptoSaid : Prop := fnExactArrayOkUptoRow.holds Try.pinned (OpenSpec.upto fnExactArrayOkSpec)

/-- 'laws.FnExactTestArray', WHERE WHAT IT READS IS OF BULK AT MOST 1048576: true; the input reads as it did. -/
def fnExactTestArrayUptoRow : OpenClaim := { program := "ytljodgdnimiliaa", sum := "dbe073b91a215e4afdceb727cc7c4146054a3fff843ed50dee510871d14f8eee", func := "loop.example/g01040/laws.FnExactTestArray", spec := "fnExactTestArray", unfollowed := true, recurses := true, leaving := true, apart := false, narrowed := true }
def FnExactTestArrayUptoSaid : Prop := fnExactTestArrayUptoRow.holds Try.pinned (OpenSpec.upto fnExactTestArraySpec)

/-- 'laws.FnExactSuspectsOf', WHERE WHAT IT READS IS OF BULK AT MOST 1048576: true; the input reads as it did. -/
def fnExactSuspectsOfUptoRow : OpenClaim := { program := "ytljodgdnimiliaa", sum := "dbe073b91a215e4afdceb727cc7c4146054a3fff843ed50dee510871d14f8eee", func := "loop.example/g01040/laws.FnExactSuspectsOf", spec := "fnExactSuspectsOf", apart := false, narrowed := true }
def FnExactSuspectsOfUptoSaid : Prop := fnExactSuspectsOfUptoRow.holds Try.pinned (OpenSpec.upto fnExactSuspectsOfSpec)

/-- 'laws.FnExactIsClear', WHERE WHAT IT READS IS OF BULK AT MOST 1048576: true; the input reads as it did. -/
def fnExactIsClearUptoRow : OpenClaim := { program := "ytljodgdnimiliaa", sum := "dbe073b91a215e4afdceb727cc7c4146054a3fff843ed50dee510871d14f8eee", func := "loop.example/g01040/laws.FnExactIsClear", spec := "fnExactIsClear", apart := false, narrowed := true }
def FnExactIsClearUptoSaid : Prop := fnExactIsClearUptoRow.holds Try.pinned (OpenSpec.upto fnExactIsClearSpec)

/-- 'laws.FnExactCountArrayTests', WHERE WHAT IT READS IS OF BULK AT MOST 1048576: true; the input reads as it did. -/
def fnExactCountArrayTestsUptoRow : OpenClaim := { program := "ytljodgdnimiliaa", sum := "dbe073b91a215e4afdceb727cc7c4146054a3fff843ed50dee510871d14f8eee", func := "loop.example/g01040/laws.FnExactCountArrayTests", spec := "fnExactCountArrayTests", unfollowed := true, recurses := true, leaving := true, apart := false, narrowed := true }
def FnExactCountArrayTestsUptoSaid : Prop := fnExactCountArrayTestsUptoRow.holds Try.pinned (OpenSpec.upto fnExactCountArrayTestsSpec)

/-- 'laws.FnExactArraySets', WHERE WHAT IT READS IS OF BULK AT MOST 1048576: true; the input reads as it did. -/
def fnExactArraySetsUptoRow : OpenClaim := { program := "ytljodgdnimiliaa", sum := "dbe073b91a215e4afdceb727cc7c4146054a3fff843ed50dee510871d14f8eee", func := "loop.example/g01040/laws.FnExactArraySets", spec := "fnExactArraySets", inPlace := ["sync/atomic.AddInt64", "(*sync.WaitGroup).Add", "internal/race.ReleaseMerge", "internal/race.Disable", "internal/race.Enable", "internal/synctest.IsInBubble", "internal/synctest.Associate[sync.WaitGroup]", "sync.fatal", "sync/atomic.OrUint64", "sync/atomic.AddUint64", "internal/race.Read", "sync/atomic.LoadUint64", "sync/atomic.StoreUint64", "internal/synctest.Disassociate[sync.WaitGroup]", "sync.runtime_Semrelease", "(*sync.WaitGroup).Done", "(*sync.WaitGroup).Wait", "internal/race.Acquire", "internal/synctest.IsAssociated[sync.WaitGroup]", "sync/atomic.CompareAndSwapUint64", "internal/race.Write", "sync.runtime_SemacquireWaitGroup", "sync/atomic.LoadInt64"], unfollowed := true, recurses := true, leaving := true, apart := false, narrowed := true }
def FnExactArraySetsUptoSaid : Prop := fnExactArraySetsUptoRow.holds Try.pinned (OpenSpec.upto fnExactArraySetsSpec)

/-- 'laws.FnExactWorstArray', WHERE WHAT IT READS IS OF BULK AT MOST 1048576: true; the input reads as it did. -/
def fnExactWorstArrayUptoRow : OpenClaim := { program := "ytljodgdnimiliaa", sum := "dbe073b91a215e4afdceb727cc7c4146054a3fff843ed50dee510871d14f8eee", func := "loop.example/g01040/laws.FnExactWorstArray", spec := "fnExactWorstArray", inPlace := ["(*internal/sync.Mutex).Lock", "internal/race.Disable", "sync/atomic.CompareAndSwapInt32", "internal/race.Enable", "internal/race.Acquire", "(*internal/sync.Mutex).lockSlow", "internal/sync.runtime_canSpin", "internal/sync.runtime_doSpin", "internal/sync.throw", "internal/sync.runtime_nanotime", "internal/sync.runtime_SemacquireMutex", "sync/atomic.AddInt32", "(*internal/sync.Mutex).Unlock", "internal/race.ReleaseMerge", "(*internal/sync.Mutex).unlockSlow", "internal/sync.fatal", "internal/sync.runtime_Semrelease", "(*sync.WaitGroup).Add", "internal/synctest.IsInBubble", "internal/synctest.Associate[sync.WaitGroup]", "sync.fatal", "sync/atomic.OrUint64", "sync/atomic.AddUint64", "internal/race.Read", "sync/atomic.LoadUint64", "sync/atomic.StoreUint64", "internal/synctest.Disassociate[sync.WaitGroup]", "sync.runtime_Semrelease", "(*sync.WaitGroup).Done", "(*sync.WaitGroup).Wait", "internal/synctest.IsAssociated[sync.WaitGroup]", "sync/atomic.CompareAndSwapUint64", "internal/race.Write", "sync.runtime_SemacquireWaitGroup"], unfollowed := true, recurses := true, leaving := true, apart := false, calm := true, outside := [.timePasses], narrowed := true }
def FnExactWorstArrayUptoSaid : Prop := fnExactWorstArrayUptoRow.holds Try.pinned (OpenSpec.upto fnExactWorstArraySpec)

/-- 'laws.FnArrays', WHERE WHAT IT READS IS OF BULK AT MOST 1048576: true; the input reads as it did. -/
def fnArraysUptoRow : OpenClaim := { program := "ytljodgdnimiliaa", sum := "dbe073b91a215e4afdceb727cc7c4146054a3fff843ed50dee510871d14f8eee", func := "loop.example/g01040/laws.FnArrays", spec := "fnArrays", inPlace := ["sync/atomic.AddInt64", "(*sync.WaitGroup).Add", "internal/race.ReleaseMerge", "internal/race.Disable", "internal/race.Enable", "internal/synctest.IsInBubble", "internal/synctest.Associate[sync.WaitGroup]", "sync.fatal", "sync/atomic.OrUint64", "sync/atomic.AddUint64", "internal/race.Read", "sync/atomic.LoadUint64", "sync/atomic.StoreUint64", "internal/synctest.Disassociate[sync.WaitGroup]", "sync.runtime_Semrelease", "(*sync.WaitGroup).Done", "(*sync.WaitGroup).Wait", "internal/race.Acquire", "internal/synctest.IsAssociated[sync.WaitGroup]", "sync/atomic.CompareAndSwapUint64", "internal/race.Write", "sync.runtime_SemacquireWaitGroup", "sync/atomic.LoadInt64", "(*internal/sync.Mutex).Lock", "sync/atomic.CompareAndSwapInt32", "(*internal/sync.Mutex).lockSlow", "internal/sync.runtime_canSpin", "internal/sync.runtime_doSpin", "internal/sync.throw", "internal/sync.runtime_nanotime", "internal/sync.runtime_SemacquireMutex", "sync/atomic.AddInt32", "(*internal/sync.Mutex).Unlock", "(*internal/sync.Mutex).unlockSlow", "internal/sync.fatal", "internal/sync.runtime_Semrelease"], unfollowed := true, recurses := true, leaving := true, apart := false, calm := true, outside := [.timePasses], narrowed := true }
def FnArraysUptoSaid : Prop := fnArraysUptoRow.holds Try.pinned (OpenSpec.upto fnArraysSpec)

end Rows
end Go.Proofs.Ytljodgdnimiliaa
