/-
  No cell of these rows narrows 'for every input' (looked for: loops, veiled, ifaces, maps, wideKeys, modest, calm, conditions, laid).
  DERIVED. THE GIVEN ROWS OF THIS SEAT. 8 by the template 'for every input the law returns true; each argument reads behind the call as it read before'; 0 by the template 'total and deterministic' (their statements: YtoliloophjeooaaTotals.lean).
  GIVEN WITH THE SEED: the statements are not yours to turn. If you find one false, say at which input.
  Laid BY PROGRAM, IN A SANDBOX (cutbox-rows.mjs): the forced cells as the released guide's own fill.sh prints them over the translation a6ae6b7822b7518c… (all of the seat's roots in one cut). By AI agents, Wed Nov 11 2026. No macro, syntax, notation, axiom, sorry.
-/
import Derived.Test.YtoliloophjeooaaChecked
import GoSem.Claim
import GoSem.ClaimJoined
import GoSem.ClaimMapViews
import Derived.JoinedTies
import Derived.KernelRfl
namespace Go.Proofs.Ytoliloophjeooaa
/- THE CELL 'sum', in the pinned program and in every row, IS THE sha256 OF THE DUMP (.gsa) THAT YtoliloophjeooaaProg.lean LOADS. Nothing in Lean hashes anything: it is a label: what it is worth is what the hold of that sum in a sandbox is worth. -/
noncomputable def Try.pinned : Pinned := { name := "ytoliloophjeooaa", sum := "a6ae6b7822b7518c29b38ae08dbc3dde73743ed35e24bc518a349be41b68b7da", checked := Try.checked }
namespace Rows
def none {H : Type} : Left H := { results := [], args := [] }

/-- 'laws.FnExactSumPools': WHATEVER THE INPUT: true; the input reads as it did. -/
def fnExactSumPoolsSpec : ChangeSpec := { name := "fnExactSumPools", fn := fun _ => fun
  | [d1, d2, d3] => { results := [.lit (.bool true)], args := [d1, d2, d3] }
  | _ => none }
def fnExactSumPoolsRow : OpenClaim := { program := "ytoliloophjeooaa", sum := "a6ae6b7822b7518c29b38ae08dbc3dde73743ed35e24bc518a349be41b68b7da", func := "loop.example/g01040/laws.FnExactSumPools", spec := "fnExactSumPools", unfollowed := true, recurses := true, apart := false }
def FnExactSumPoolsSaid : Prop := fnExactSumPoolsRow.holds Try.pinned (OpenSpec.ofChange fnExactSumPoolsSpec)

/-- ITS FALSE NEIGHBOUR: 'it returns false'. Refute it at one input. -/
def fnExactSumPoolsWrong : ChangeSpec := { name := "fnExactSumPools", fn := fun _ => fun
  | [d1, d2, d3] => { results := [.lit (.bool false)], args := [d1, d2, d3] }
  | _ => none }
def FnExactSumPoolsWrongFalsely : Prop := fnExactSumPoolsRow.holds Try.pinned (OpenSpec.ofChange fnExactSumPoolsWrong)

/-- 'laws.FnExactSumsTell': WHATEVER THE INPUT: true; the input reads as it did. -/
def fnExactSumsTellSpec : ChangeSpec := { name := "fnExactSumsTell", fn := fun _ => fun
  | [d1, d2] => { results := [.lit (.bool true)], args := [d1, d2] }
  | _ => none }
def fnExactSumsTellRow : OpenClaim := { program := "ytoliloophjeooaa", sum := "a6ae6b7822b7518c29b38ae08dbc3dde73743ed35e24bc518a349be41b68b7da", func := "loop.example/g01040/laws.FnExactSumsTell", spec := "fnExactSumsTell", unfollowed := true, recurses := true, apart := false }
def FnExactSumsTellSaid : Prop := fnExactSumsTellRow.holds Try.pinned (OpenSpec.ofChange fnExactSumsTellSpec)

/-- ITS FALSE NEIGHBOUR: 'it returns false'. Refute it at one input. -/
def fnExactSumsTellWrong : ChangeSpec := { name := "fnExactSumsTell", fn := fun _ => fun
  | [d1, d2] => { results := [.lit (.bool false)], args := [d1, d2] }
  | _ => none }
def FnExactSumsTellWrongFalsely : Prop := fnExactSumsTellRow.holds Try.pinned (OpenSpec.ofChange fnExactSumsTellWrong)

/-- 'laws.FnExactIsDetecting': WHATEVER THE INPUT: true; the input reads as it did. -/
def fnExactIsDetectingSpec : ChangeSpec := { name := "fnExactIsDetecting", fn := fun _ => fun
  | [d1, d2] => { results := [.lit (.bool true)], args := [d1, d2] }
  | _ => none }
def fnExactIsDetectingRow : OpenClaim := { program := "ytoliloophjeooaa", sum := "a6ae6b7822b7518c29b38ae08dbc3dde73743ed35e24bc518a349be41b68b7da", func := "loop.example/g01040/laws.FnExactIsDetecting", spec := "fnExactIsDetecting", unfollowed := true, recurses := true, apart := false }
def FnExactIsDetectingSaid : Prop := fnExactIsDetectingRow.holds Try.pinned (OpenSpec.ofChange fnExactIsDetectingSpec)

/-- ITS FALSE NEIGHBOUR: 'it returns false'. Refute it at one input. -/
def fnExactIsDetectingWrong : ChangeSpec := { name := "fnExactIsDetecting", fn := fun _ => fun
  | [d1, d2] => { results := [.lit (.bool false)], args := [d1, d2] }
  | _ => none }
def FnExactIsDetectingWrongFalsely : Prop := fnExactIsDetectingRow.holds Try.pinned (OpenSpec.ofChange fnExactIsDetectingWrong)

/-- 'laws.FnExactDecodeSums': WHATEVER THE INPUT: true; the input reads as it did. -/
def fnExactDecodeSumsSpec : ChangeSpec := { name := "fnExactDecodeSums", fn := fun _ => fun
  | [d1, d2, d3] => { results := [.lit (.bool true)], args := [d1, d2, d3] }
  | _ => none }
def fnExactDecodeSumsRow : OpenClaim := { program := "ytoliloophjeooaa", sum := "a6ae6b7822b7518c29b38ae08dbc3dde73743ed35e24bc518a349be41b68b7da", func := "loop.example/g01040/laws.FnExactDecodeSums", spec := "fnExactDecodeSums", unfollowed := true, recurses := true, apart := false }
def FnExactDecodeSumsSaid : Prop := fnExactDecodeSumsRow.holds Try.pinned (OpenSpec.ofChange fnExactDecodeSumsSpec)

/-- ITS FALSE NEIGHBOUR: 'it returns false'. Refute it at one input. -/
def fnExactDecodeSumsWrong : ChangeSpec := { name := "fnExactDecodeSums", fn := fun _ => fun
  | [d1, d2, d3] => { results := [.lit (.bool false)], args := [d1, d2, d3] }
  | _ => none }
def FnExactDecodeSumsWrongFalsely : Prop := fnExactDecodeSumsRow.holds Try.pinned (OpenSpec.ofChange fnExactDecodeSumsWrong)

/-- 'laws.FnExactFirstDetecting': WHATEVER THE INPUT: true; the input reads as it did. -/
def fnExactFirstDetectingSpec : ChangeSpec := { name := "fnExactFirstDetecting", fn := fun _ => fun
  | [d] => { results := [.lit (.bool true)], args := [d] }
  | _ => none }
def fnExactFirstDetectingRow : OpenClaim := { program := "ytoliloophjeooaa", sum := "a6ae6b7822b7518c29b38ae08dbc3dde73743ed35e24bc518a349be41b68b7da", func := "loop.example/g01040/laws.FnExactFirstDetecting", spec := "fnExactFirstDetecting", unfollowed := true, recurses := true, apart := false }
def FnExactFirstDetectingSaid : Prop := fnExactFirstDetectingRow.holds Try.pinned (OpenSpec.ofChange fnExactFirstDetectingSpec)

/-- ITS FALSE NEIGHBOUR: 'it returns false'. Refute it at one input. -/
def fnExactFirstDetectingWrong : ChangeSpec := { name := "fnExactFirstDetecting", fn := fun _ => fun
  | [d] => { results := [.lit (.bool false)], args := [d] }
  | _ => none }
def FnExactFirstDetectingWrongFalsely : Prop := fnExactFirstDetectingRow.holds Try.pinned (OpenSpec.ofChange fnExactFirstDetectingWrong)

/-- 'laws.FnExactFewestSums': WHATEVER THE INPUT: true; the input reads as it did. -/
def fnExactFewestSumsSpec : ChangeSpec := { name := "fnExactFewestSums", fn := fun _ => fun
  | [d] => { results := [.lit (.bool true)], args := [d] }
  | _ => none }
def fnExactFewestSumsRow : OpenClaim := { program := "ytoliloophjeooaa", sum := "a6ae6b7822b7518c29b38ae08dbc3dde73743ed35e24bc518a349be41b68b7da", func := "loop.example/g01040/laws.FnExactFewestSums", spec := "fnExactFewestSums", unfollowed := true, recurses := true, apart := false }
def FnExactFewestSumsSaid : Prop := fnExactFewestSumsRow.holds Try.pinned (OpenSpec.ofChange fnExactFewestSumsSpec)

/-- ITS FALSE NEIGHBOUR: 'it returns false'. Refute it at one input. -/
def fnExactFewestSumsWrong : ChangeSpec := { name := "fnExactFewestSums", fn := fun _ => fun
  | [d] => { results := [.lit (.bool false)], args := [d] }
  | _ => none }
def FnExactFewestSumsWrongFalsely : Prop := fnExactFewestSumsRow.holds Try.pinned (OpenSpec.ofChange fnExactFewestSumsWrong)

/-- 'laws.FnExactExtendDetecting': WHATEVER THE INPUT: true; the input reads as it did. -/
def fnExactExtendDetectingSpec : ChangeSpec := { name := "fnExactExtendDetecting", fn := fun _ => fun
  | [d1, d2] => { results := [.lit (.bool true)], args := [d1, d2] }
  | _ => none }
def fnExactExtendDetectingRow : OpenClaim := { program := "ytoliloophjeooaa", sum := "a6ae6b7822b7518c29b38ae08dbc3dde73743ed35e24bc518a349be41b68b7da", func := "loop.example/g01040/laws.FnExactExtendDetecting", spec := "fnExactExtendDetecting", unfollowed := true, recurses := true, apart := false }
def FnExactExtendDetectingSaid : Prop := fnExactExtendDetectingRow.holds Try.pinned (OpenSpec.ofChange fnExactExtendDetectingSpec)

/-- ITS FALSE NEIGHBOUR: 'it returns false'. Refute it at one input. -/
def fnExactExtendDetectingWrong : ChangeSpec := { name := "fnExactExtendDetecting", fn := fun _ => fun
  | [d1, d2] => { results := [.lit (.bool false)], args := [d1, d2] }
  | _ => none }
def FnExactExtendDetectingWrongFalsely : Prop := fnExactExtendDetectingRow.holds Try.pinned (OpenSpec.ofChange fnExactExtendDetectingWrong)

/-- 'laws.FnSums': WHATEVER THE INPUT: true; the input reads as it did. -/
def fnSumsSpec : ChangeSpec := { name := "fnSums", fn := fun _ => fun
  | [d] => { results := [.lit (.bool true)], args := [d] }
  | _ => none }
def fnSumsRow : OpenClaim := { program := "ytoliloophjeooaa", sum := "a6ae6b7822b7518c29b38ae08dbc3dde73743ed35e24bc518a349be41b68b7da", func := "loop.example/g01040/laws.FnSums", spec := "fnSums", unfollowed := true, recurses := true, apart := false }
def FnSumsSaid : Prop := fnSumsRow.holds Try.pinned (OpenSpec.ofChange fnSumsSpec)

/-- ITS FALSE NEIGHBOUR: 'it returns false'. Refute it at one input. -/
def fnSumsWrong : ChangeSpec := { name := "fnSums", fn := fun _ => fun
  | [d] => { results := [.lit (.bool false)], args := [d] }
  | _ => none }
def FnSumsWrongFalsely : Prop := fnSumsRow.holds Try.pinned (OpenSpec.ofChange fnSumsWrong)

/- THE SECOND FORM. 'bulk': how many values and letters a reading holds, each counted each time it is reached (what is shared counts as often as it is met; a slice's spare places count too). A statement '..UptoSaid' is the law's where the arguments, and the package variables that the reading takes, are together of bulk at most 1048576: NARROWER than '..Said'. Prove '..Said' where nothing that the law and all that it calls make is longer than what came in: it says more and counts as full. Else prove '..UptoSaid'. A law counts once. -/
mutual
def uptoBulk {H : Type} : DataW H → Nat
  | .lit (.string bytes) => bytes.length + 1
  | .lit _ => 1
  | .nil => 1
  | .ptr d => uptoBulk d + 1
  | .slice elems spare => uptoBulkAll elems + uptoBulkAll spare + 1
  | .agg parts => uptoBulkAll parts + 1
  | .iface _ d => uptoBulk d + 1
  | .map entries => uptoBulkEntries entries + 1
  | .held _ => 1
def uptoBulkAll {H : Type} : List (DataW H) → Nat
  | [] => 0
  | d :: r => uptoBulk d + uptoBulkAll r
def uptoBulkEntries {H : Type} : List (Lit × DataW H) → Nat
  | [] => 0
  | x :: r => uptoBulkEntry x + uptoBulkEntries r
def uptoBulkEntry {H : Type} : Lit × DataW H → Nat
  | (.string bytes, d) => bytes.length + uptoBulk d + 1
  | (_, d) => uptoBulk d + 1
 end
def uptoSmall : (H : Type) → List (DataW H) → Bool := fun _ ds => decide (uptoBulkAll ds ≤ 1048576)
def OpenSpec.upto (s : _root_.Go.ChangeSpec) : _root_.Go.OpenSpec := { _root_.Go.OpenSpec.ofChange s with cond := some uptoSmall }

/-- 'laws.FnExactSumPools', WHERE WHAT IT READS IS OF BULK AT MOST 1048576: true; the input reads as it did. -/
def fnExactSumPoolsUptoRow : OpenClaim := { program := "ytoliloophjeooaa", sum := "a6ae6b7822b7518c29b38ae08dbc3dde73743ed35e24bc518a349be41b68b7da", func := "loop.example/g01040/laws.FnExactSumPools", spec := "fnExactSumPools", unfollowed := true, recurses := true, apart := false, narrowed := true }
def FnExactSumPoolsUptoSaid : Prop := fnExactSumPoolsUptoRow.holds Try.pinned (OpenSpec.upto fnExactSumPoolsSpec)

/-- 'laws.FnExactSumsTell', WHERE WHAT IT READS IS OF BULK AT MOST 1048576: true; the input reads as it did. -/
def fnExactSumsTellUptoRow : OpenClaim := { program := "ytoliloophjeooaa", sum := "a6ae6b7822b7518c29b38ae08dbc3dde73743ed35e24bc518a349be41b68b7da", func := "loop.example/g01040/laws.FnExactSumsTell", spec := "fnExactSumsTell", unfollowed := true, recurses := true, apart := false, narrowed := true }
def FnExactSumsTellUptoSaid : Prop := fnExactSumsTellUptoRow.holds Try.pinned (OpenSpec.upto fnExactSumsTellSpec)

/-- 'laws.FnExactIsDetecting', WHERE WHAT IT READS IS OF BULK AT MOST 1048576: true; the input reads as it did. -/
def fnExactIsDetectingUptoRow : OpenClaim := { program := "ytoliloophjeooaa", sum := "a6ae6b7822b7518c29b38ae08dbc3dde73743ed35e24bc518a349be41b68b7da", func := "loop.example/g01040/laws.FnExactIsDetecting", spec := "fnExactIsDetecting", unfollowed := true, recurses := true, apart := false, narrowed := true }
def FnExactIsDetectingUptoSaid : Prop := fnExactIsDetectingUptoRow.holds Try.pinned (OpenSpec.upto fnExactIsDetectingSpec)

/-- 'laws.FnExactDecodeSums', WHERE WHAT IT READS IS OF BULK AT MOST 1048576: true; the input reads as it did. -/
def fnExactDecodeSumsUptoRow : OpenClaim := { program := "ytoliloophjeooaa", sum := "a6ae6b7822b7518c29b38ae08dbc3dde73743ed35e24bc518a349be41b68b7da", func := "loop.example/g01040/laws.FnExactDecodeSums", spec := "fnExactDecodeSums", unfollowed := true, recurses := true, apart := false, narrowed := true }
def FnExactDecodeSumsUptoSaid : Prop := fnExactDecodeSumsUptoRow.holds Try.pinned (OpenSpec.upto fnExactDecodeSumsSpec)

/-- 'laws.FnExactFirstDetecting', WHERE WHAT IT READS IS OF BULK AT MOST 1048576: true; the input reads as it did. -/
def fnExactFirstDetectingUptoRow : OpenClaim := { program := "ytoliloophjeooaa", sum := "a6ae6b7822b7518c29b38ae08dbc3dde73743ed35e24bc518a349be41b68b7da", func := "loop.example/g01040/laws.FnExactFirstDetecting", spec := "fnExactFirstDetecting", unfollowed := true, recurses := true, apart := false, narrowed := true }
def FnExactFirstDetectingUptoSaid : Prop := fnExactFirstDetectingUptoRow.holds Try.pinned (OpenSpec.upto fnExactFirstDetectingSpec)

/-- 'laws.FnExactFewestSums', WHERE WHAT IT READS IS OF BULK AT MOST 1048576: true; the input reads as it did. -/
def fnExactFewestSumsUptoRow : OpenClaim := { program := "ytoliloophjeooaa", sum := "a6ae6b7822b7518c29b38ae08dbc3dde73743ed35e24bc518a349be41b68b7da", func := "loop.example/g01040/laws.FnExactFewestSums", spec := "fnExactFewestSums", unfollowed := true, recurses := true, apart := false, narrowed := true }
def FnExactFewestSumsUptoSaid : Prop := fnExactFewestSumsUptoRow.holds Try.pinned (OpenSpec.upto fnExactFewestSumsSpec)

/-- 'laws.FnExactExtendDetecting', WHERE WHAT IT READS IS OF BULK AT MOST 1048576: true; the input reads as it did. -/
def fnExactExtendDetectingUptoRow : OpenClaim := { program := "ytoliloophjeooaa", sum := "a6ae6b7822b7518c29b38ae08dbc3dde73743ed35e24bc518a349be41b68b7da", func := "loop.example/g01040/laws.FnExactExtendDetecting", spec := "fnExactExtendDetecting", unfollowed := true, recurses := true, apart := false, narrowed := true }
def FnExactExtendDetectingUptoSaid : Prop := fnExactExtendDetectingUptoRow.holds Try.pinned (OpenSpec.upto fnExactExtendDetectingSpec)

/-- 'laws.FnSums', WHERE WHAT IT READS IS OF BULK AT MOST 1048576: true; the input reads as it did. -/
def fnSumsUptoRow : OpenClaim := { program := "ytoliloophjeooaa", sum := "a6ae6b7822b7518c29b38ae08dbc3dde73743ed35e24bc518a349be41b68b7da", func := "loop.example/g01040/laws.FnSums", spec := "fnSums", unfollowed := true, recurses := true, apart := false, narrowed := true }
def FnSumsUptoSaid : Prop := fnSumsUptoRow.holds Try.pinned (OpenSpec.upto fnSumsSpec)

end Rows
end Go.Proofs.Ytoliloophjeooaa
