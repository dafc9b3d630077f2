/-
  No cell of these rows narrows 'for every input' (looked for: loops, veiled, ifaces, maps, wideKeys, modest, calm, conditions, laid).
  DERIVED. THE GIVEN ROWS OF THIS SEAT. 7 by the template 'for every input the law returns true; each argument reads behind the call as it read before'; 0 by the template 'total and deterministic' (their statements: YtfabcaodiohmaaaTotals.lean).
  GIVEN WITH THE SEED: the statements are not yours to turn. If you find one false, say at which input.
  Laid BY PROGRAM, IN A SANDBOX (cutbox-rows.mjs): the forced cells as the released guide's own fill.sh prints them over the translation 99894b762141e0d1… (all of the seat's roots in one cut). By AI agents, Wed Nov 11 2026. No macro, syntax, notation, axiom, sorry.
-/
import Derived.Test.YtfabcaodiohmaaaChecked
import GoSem.Claim
import GoSem.ClaimJoined
import GoSem.ClaimMapViews
import Derived.JoinedTies
import Derived.KernelRfl
namespace Go.Proofs.Ytfabcaodiohmaaa
/- THE CELL 'sum', in the pinned program and in every row, IS THE sha256 OF THE DUMP (.gsa) THAT YtfabcaodiohmaaaProg.lean LOADS. Nothing in Lean hashes anything: it is a label: what it is worth is what the hold of that sum in a sandbox is worth. -/
noncomputable def Try.pinned : Pinned := { name := "ytfabcaodiohmaaa", sum := "99894b762141e0d18495e9061cbb7237c0d24c54d1db0cd2d4ad7f2568bf39f0", checked := Try.checked }
namespace Rows
def none {H : Type} : Left H := { results := [], args := [] }

/-- 'laws.FnExactStateOk': WHATEVER THE INPUT: true; the input reads as it did. -/
def fnExactStateOkSpec : ChangeSpec := { name := "fnExactStateOk", fn := fun _ => fun
  | [d] => { results := [.lit (.bool true)], args := [d] }
  | _ => none }
def fnExactStateOkRow : OpenClaim := { program := "ytfabcaodiohmaaa", sum := "99894b762141e0d18495e9061cbb7237c0d24c54d1db0cd2d4ad7f2568bf39f0", func := "loop.example/g01040/laws.FnExactStateOk", spec := "fnExactStateOk", plainKeys := false, apart := false }
def FnExactStateOkSaid : Prop := fnExactStateOkRow.holds Try.pinned (OpenSpec.ofChange fnExactStateOkSpec)

/-- ITS FALSE NEIGHBOUR: 'it returns false'. Refute it at one input. -/
def fnExactStateOkWrong : ChangeSpec := { name := "fnExactStateOk", fn := fun _ => fun
  | [d] => { results := [.lit (.bool false)], args := [d] }
  | _ => none }
def FnExactStateOkWrongFalsely : Prop := fnExactStateOkRow.holds Try.pinned (OpenSpec.ofChange fnExactStateOkWrong)

/-- 'laws.FnExactCountCases': WHATEVER THE INPUT: true; the input reads as it did. -/
def fnExactCountCasesSpec : ChangeSpec := { name := "fnExactCountCases", fn := fun _ => fun
  | [d] => { results := [.lit (.bool true)], args := [d] }
  | _ => none }
def fnExactCountCasesRow : OpenClaim := { program := "ytfabcaodiohmaaa", sum := "99894b762141e0d18495e9061cbb7237c0d24c54d1db0cd2d4ad7f2568bf39f0", func := "loop.example/g01040/laws.FnExactCountCases", spec := "fnExactCountCases", plainKeys := false, apart := false }
def FnExactCountCasesSaid : Prop := fnExactCountCasesRow.holds Try.pinned (OpenSpec.ofChange fnExactCountCasesSpec)

/-- ITS FALSE NEIGHBOUR: 'it returns false'. Refute it at one input. -/
def fnExactCountCasesWrong : ChangeSpec := { name := "fnExactCountCases", fn := fun _ => fun
  | [d] => { results := [.lit (.bool false)], args := [d] }
  | _ => none }
def FnExactCountCasesWrongFalsely : Prop := fnExactCountCasesRow.holds Try.pinned (OpenSpec.ofChange fnExactCountCasesWrong)

/-- 'laws.FnExactPickOk': WHATEVER THE INPUT: true; the input reads as it did. -/
def fnExactPickOkSpec : ChangeSpec := { name := "fnExactPickOk", fn := fun _ => fun
  | [d1, d2] => { results := [.lit (.bool true)], args := [d1, d2] }
  | _ => none }
def fnExactPickOkRow : OpenClaim := { program := "ytfabcaodiohmaaa", sum := "99894b762141e0d18495e9061cbb7237c0d24c54d1db0cd2d4ad7f2568bf39f0", func := "loop.example/g01040/laws.FnExactPickOk", spec := "fnExactPickOk", plainKeys := false, apart := false }
def FnExactPickOkSaid : Prop := fnExactPickOkRow.holds Try.pinned (OpenSpec.ofChange fnExactPickOkSpec)

/-- ITS FALSE NEIGHBOUR: 'it returns false'. Refute it at one input. -/
def fnExactPickOkWrong : ChangeSpec := { name := "fnExactPickOk", fn := fun _ => fun
  | [d1, d2] => { results := [.lit (.bool false)], args := [d1, d2] }
  | _ => none }
def FnExactPickOkWrongFalsely : Prop := fnExactPickOkRow.holds Try.pinned (OpenSpec.ofChange fnExactPickOkWrong)

/-- 'laws.FnExactAfterPick': WHATEVER THE INPUT: true; the input reads as it did. -/
def fnExactAfterPickSpec : ChangeSpec := { name := "fnExactAfterPick", fn := fun _ => fun
  | [d1, d2, d3] => { results := [.lit (.bool true)], args := [d1, d2, d3] }
  | _ => none }
def fnExactAfterPickRow : OpenClaim := { program := "ytfabcaodiohmaaa", sum := "99894b762141e0d18495e9061cbb7237c0d24c54d1db0cd2d4ad7f2568bf39f0", func := "loop.example/g01040/laws.FnExactAfterPick", spec := "fnExactAfterPick", plainKeys := false, apart := false }
def FnExactAfterPickSaid : Prop := fnExactAfterPickRow.holds Try.pinned (OpenSpec.ofChange fnExactAfterPickSpec)

/-- ITS FALSE NEIGHBOUR: 'it returns false'. Refute it at one input. -/
def fnExactAfterPickWrong : ChangeSpec := { name := "fnExactAfterPick", fn := fun _ => fun
  | [d1, d2, d3] => { results := [.lit (.bool false)], args := [d1, d2, d3] }
  | _ => none }
def FnExactAfterPickWrongFalsely : Prop := fnExactAfterPickRow.holds Try.pinned (OpenSpec.ofChange fnExactAfterPickWrong)

/-- 'laws.FnExactCanFind': WHATEVER THE INPUT: true; the input reads as it did. -/
def fnExactCanFindSpec : ChangeSpec := { name := "fnExactCanFind", fn := fun _ => fun
  | [d1, d2] => { results := [.lit (.bool true)], args := [d1, d2] }
  | _ => none }
def fnExactCanFindRow : OpenClaim := { program := "ytfabcaodiohmaaa", sum := "99894b762141e0d18495e9061cbb7237c0d24c54d1db0cd2d4ad7f2568bf39f0", func := "loop.example/g01040/laws.FnExactCanFind", spec := "fnExactCanFind", unfollowed := true, recurses := true, plainKeys := false, apart := false }
def FnExactCanFindSaid : Prop := fnExactCanFindRow.holds Try.pinned (OpenSpec.ofChange fnExactCanFindSpec)

/-- ITS FALSE NEIGHBOUR: 'it returns false'. Refute it at one input. -/
def fnExactCanFindWrong : ChangeSpec := { name := "fnExactCanFind", fn := fun _ => fun
  | [d1, d2] => { results := [.lit (.bool false)], args := [d1, d2] }
  | _ => none }
def FnExactCanFindWrongFalsely : Prop := fnExactCanFindRow.holds Try.pinned (OpenSpec.ofChange fnExactCanFindWrong)

/-- 'laws.FnExactFewestFor': WHATEVER THE INPUT: true; the input reads as it did. -/
def fnExactFewestForSpec : ChangeSpec := { name := "fnExactFewestFor", fn := fun _ => fun
  | [d] => { results := [.lit (.bool true)], args := [d] }
  | _ => none }
def fnExactFewestForRow : OpenClaim := { program := "ytfabcaodiohmaaa", sum := "99894b762141e0d18495e9061cbb7237c0d24c54d1db0cd2d4ad7f2568bf39f0", func := "loop.example/g01040/laws.FnExactFewestFor", spec := "fnExactFewestFor", unfollowed := true, recurses := true, plainKeys := false, apart := false }
def FnExactFewestForSaid : Prop := fnExactFewestForRow.holds Try.pinned (OpenSpec.ofChange fnExactFewestForSpec)

/-- ITS FALSE NEIGHBOUR: 'it returns false'. Refute it at one input. -/
def fnExactFewestForWrong : ChangeSpec := { name := "fnExactFewestFor", fn := fun _ => fun
  | [d] => { results := [.lit (.bool false)], args := [d] }
  | _ => none }
def FnExactFewestForWrongFalsely : Prop := fnExactFewestForRow.holds Try.pinned (OpenSpec.ofChange fnExactFewestForWrong)

/-- 'laws.FnExactFirstPick': WHATEVER THE INPUT: true; the input reads as it did. -/
def fnExactFirstPickSpec : ChangeSpec := { name := "fnExactFirstPick", fn := fun _ => fun
  | [d1, d2] => { results := [.lit (.bool true)], args := [d1, d2] }
  | _ => none }
def fnExactFirstPickRow : OpenClaim := { program := "ytfabcaodiohmaaa", sum := "99894b762141e0d18495e9061cbb7237c0d24c54d1db0cd2d4ad7f2568bf39f0", func := "loop.example/g01040/laws.FnExactFirstPick", spec := "fnExactFirstPick", unfollowed := true, recurses := true, plainKeys := false, apart := false }
def FnExactFirstPickSaid : Prop := fnExactFirstPickRow.holds Try.pinned (OpenSpec.ofChange fnExactFirstPickSpec)

/-- ITS FALSE NEIGHBOUR: 'it returns false'. Refute it at one input. -/
def fnExactFirstPickWrong : ChangeSpec := { name := "fnExactFirstPick", fn := fun _ => fun
  | [d1, d2] => { results := [.lit (.bool false)], args := [d1, d2] }
  | _ => none }
def FnExactFirstPickWrongFalsely : Prop := fnExactFirstPickRow.holds Try.pinned (OpenSpec.ofChange fnExactFirstPickWrong)

/- THE SECOND FORM. 'bulk': how many values and letters a reading holds, each counted each time it is reached (what is shared counts as often as it is met; a slice's spare places count too). A statement '..UptoSaid' is the law's where the arguments, and the package variables that the reading takes, are together of bulk at most 1048576: NARROWER than '..Said'. Prove '..Said' where nothing that the law and all that it calls make is longer than what came in: it says more and counts as full. Else prove '..UptoSaid'. A law counts once. -/
mutual
def uptoBulk {H : Type} : DataW H → Nat
  | .lit (.string bytes) => bytes.length + 1
  | .lit _ => 1
  | .nil => 1
  | .ptr d => uptoBulk d + 1
  | .slice elems spare => uptoBulkAll elems + uptoBulkAll spare + 1
  | .agg parts => uptoBulkAll parts + 1
  | .iface _ d => uptoBulk d + 1
  | .map entries => uptoBulkEntries entries + 1
  | .held _ => 1
def uptoBulkAll {H : Type} : List (DataW H) → Nat
  | [] => 0
  | d :: r => uptoBulk d + uptoBulkAll r
def uptoBulkEntries {H : Type} : List (Lit × DataW H) → Nat
  | [] => 0
  | x :: r => uptoBulkEntry x + uptoBulkEntries r
def uptoBulkEntry {H : Type} : Lit × DataW H → Nat
  | (.string bytes, d) => bytes.length + uptoBulk d + 1
  | (_, d) => uptoBulk d + 1
 end
def uptoSmall : (H : Type) → List (DataW H) → Bool := fun _ ds => decide (uptoBulkAll ds ≤ 1048576)
def OpenSpec.upto (s : _root_.Go.ChangeSpec) : _root_.Go.OpenSpec := { _root_.Go.OpenSpec.ofChange s with cond := some uptoSmall }

/-- 'laws.FnExactStateOk', WHERE WHAT IT READS IS OF BULK AT MOST 1048576: true; the input reads as it did. -/
def fnExactStateOkUptoRow : OpenClaim := { program := "ytfabcaodiohmaaa", sum := "99894b762141e0d18495e9061cbb7237c0d24c54d1db0cd2d4ad7f2568bf39f0", func := "loop.example/g01040/laws.FnExactStateOk", spec := "fnExactStateOk", plainKeys := false, apart := false, narrowed := true }
def FnExactStateOkUptoSaid : Prop := fnExactStateOkUptoRow.holds Try.pinned (OpenSpec.upto fnExactStateOkSpec)

/-- 'laws.FnExactCountCases', WHERE WHAT IT READS IS OF BULK AT MOST 1048576: true; the input reads as it did. -/
def fnExactCountCasesUptoRow : OpenClaim := { program := "ytfabcaodiohmaaa", sum := "99894b762141e0d18495e9061cbb7237c0d24c54d1db0cd2d4ad7f2568bf39f0", func := "loop.example/g01040/laws.FnExactCountCases", spec := "fnExactCountCases", plainKeys := false, apart := false, narrowed := true }
def FnExactCountCasesUptoSaid : Prop := fnExactCountCasesUptoRow.holds Try.pinned (OpenSpec.upto fnExactCountCasesSpec)

/-- 'laws.FnExactPickOk', WHERE WHAT IT READS IS OF BULK AT MOST 1048576: true; the input reads as it did. -/
def fnExactPickOkUptoRow : OpenClaim := { program := "ytfabcaodiohmaaa", sum := "99894b762141e0d18495e9061cbb7237c0d24c54d1db0cd2d4ad7f2568bf39f0", func := "loop.example/g01040/laws.FnExactPickOk", spec := "fnExactPickOk", plainKeys := false, apart := false, narrowed := true }
def FnExactPickOkUptoSaid : Prop := fnExactPickOkUptoRow.holds Try.pinned (OpenSpec.upto fnExactPickOkSpec)

/-- 'laws.FnExactAfterPick', WHERE WHAT IT READS IS OF BULK AT MOST 1048576: true; the input reads as it did. -/
def fnExactAfterPickUptoRow : OpenClaim := { program := "ytfabcaodiohmaaa", sum := "99894b762141e0d18495e9061cbb7237c0d24c54d1db0cd2d4ad7f2568bf39f0", func := "loop.example/g01040/laws.FnExactAfterPick", spec := "fnExactAfterPick", plainKeys := false, apart := false, narrowed := true }
def FnExactAfterPickUptoSaid : Prop := fnExactAfterPickUptoRow.holds Try.pinned (OpenSpec.upto fnExactAfterPickSpec)

/-- 'laws.FnExactCanFind', WHERE WHAT IT READS IS OF BULK AT MOST 1048576: true; the input reads as it did. -/
def fnExactCanFindUptoRow : OpenClaim := { program := "ytfabcaodiohmaaa", sum := "99894b762141e0d18495e9061cbb7237c0d24c54d1db0cd2d4ad7f2568bf39f0", func := "loop.example/g01040/laws.FnExactCanFind", spec := "fnExactCanFind", unfollowed := true, recurses := true, plainKeys := false, apart := false, narrowed := true }
def FnExactCanFindUptoSaid : Prop := fnExactCanFindUptoRow.holds Try.pinned (OpenSpec.upto fnExactCanFindSpec)

/-- 'laws.FnExactFewestFor', WHERE WHAT IT READS IS OF BULK AT MOST 1048576: true; the input reads as it did. -/
def fnExactFewestForUptoRow : OpenClaim := { program := "ytfabcaodiohmaaa", sum := "99894b762141e0d18495e9061cbb7237c0d24c54d1db0cd2d4ad7f2568bf39f0", func := "loop.example/g01040/laws.FnExactFewestFor", spec := "fnExactFewestFor", unfollowed := true, recurses := true, plainKeys := false, apart := false, narrowed := true }
def FnExactFewestForUptoSaid : Prop := fnExactFewestForUptoRow.holds Try.pinned (OpenSpec.upto fnExactFewestForSpec)

/-- 'laws.FnExactFirstPick', WHERE WHAT IT READS IS OF BULK AT MOST 1048576: true; the input reads as it did. -/
def fnExactFirstPickUptoRow : OpenClaim := { program := "ytfabcaodiohmaaa", sum := "99894b762141e0d18495e9061cbb7237c0d24c54d1db0cd2d4ad7f2568bf39f0", func := "loop.example/g01040/laws.FnExactFirstPick", spec := "fnExactFirstPick", unfollowed := true, recurses := true, plainKeys := false, apart := false, narrowed := true }
def FnExactFirstPickUptoSaid : Prop := fnExactFirstPickUptoRow.holds Try.pinned (OpenSpec.upto fnExactFirstPickSpec)

end Rows
end Go.Proofs.Ytfabcaodiohmaaa
