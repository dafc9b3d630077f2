/-
  No cell of these rows narrows 'for every input' (looked for: loops, veiled, ifaces, maps, wideKeys, modest, calm, conditions, laid).
  DERIVED. THE GIVEN ROWS OF THIS SEAT. 10 by the template 'for every input the law returns true; each argument reads behind the call as it read before'; 0 by the template 'total and deterministic' (their statements: YtnpmkoeceihepaaTotals.lean).
  GIVEN WITH THE SEED: the statements are not yours to turn. If you find one false, say at which input.
  Laid BY PROGRAM, IN A SANDBOX (cutbox-rows.mjs): the forced cells as the released guide's own fill.sh prints them over the translation 93de82e5402bc3ad… (all of the seat's roots in one cut). By AI agents, Wed Nov 11 2026. No macro, syntax, notation, axiom, sorry.
-/
import Derived.Test.YtnpmkoeceihepaaChecked
import GoSem.Claim
import GoSem.ClaimJoined
import GoSem.ClaimMapViews
import Derived.JoinedTies
import Derived.KernelRfl
namespace Go.Proofs.Ytnpmkoeceihepaa
/- THE CELL 'sum', in the pinned program and in every row, IS THE sha256 OF THE DUMP (.gsa) THAT YtnpmkoeceihepaaProg.lean LOADS. Nothing in Lean hashes anything: it is a label: what it is worth is what the hold of that sum in a sandbox is worth. -/
noncomputable def Try.pinned : Pinned := { name := "ytnpmkoeceihepaa", sum := "93de82e5402bc3adefdd63e7f4d94353c978faa3acca886e761875395be49526", checked := Try.checked }
namespace Rows
def none {H : Type} : Left H := { results := [], args := [] }

/-- 'laws.FnExactAsksOk': WHATEVER THE INPUT: true; the input reads as it did. -/
def fnExactAsksOkSpec : ChangeSpec := { name := "fnExactAsksOk", fn := fun _ => fun
  | [d1, d2, d3] => { results := [.lit (.bool true)], args := [d1, d2, d3] }
  | _ => none }
def fnExactAsksOkRow : OpenClaim := { program := "ytnpmkoeceihepaa", sum := "93de82e5402bc3adefdd63e7f4d94353c978faa3acca886e761875395be49526", func := "loop.example/g01040/laws.FnExactAsksOk", spec := "fnExactAsksOk", plainKeys := false, apart := false }
def FnExactAsksOkSaid : Prop := fnExactAsksOkRow.holds Try.pinned (OpenSpec.ofChange fnExactAsksOkSpec)

/-- ITS FALSE NEIGHBOUR: 'it returns false'. Refute it at one input. -/
def fnExactAsksOkWrong : ChangeSpec := { name := "fnExactAsksOk", fn := fun _ => fun
  | [d1, d2, d3] => { results := [.lit (.bool false)], args := [d1, d2, d3] }
  | _ => none }
def FnExactAsksOkWrongFalsely : Prop := fnExactAsksOkRow.holds Try.pinned (OpenSpec.ofChange fnExactAsksOkWrong)

/-- 'laws.FnExactFitsAfter': WHATEVER THE INPUT: true; the input reads as it did. -/
def fnExactFitsAfterSpec : ChangeSpec := { name := "fnExactFitsAfter", fn := fun _ => fun
  | [d1, d2, d3] => { results := [.lit (.bool true)], args := [d1, d2, d3] }
  | _ => none }
def fnExactFitsAfterRow : OpenClaim := { program := "ytnpmkoeceihepaa", sum := "93de82e5402bc3adefdd63e7f4d94353c978faa3acca886e761875395be49526", func := "loop.example/g01040/laws.FnExactFitsAfter", spec := "fnExactFitsAfter", plainKeys := false, apart := false }
def FnExactFitsAfterSaid : Prop := fnExactFitsAfterRow.holds Try.pinned (OpenSpec.ofChange fnExactFitsAfterSpec)

/-- ITS FALSE NEIGHBOUR: 'it returns false'. Refute it at one input. -/
def fnExactFitsAfterWrong : ChangeSpec := { name := "fnExactFitsAfter", fn := fun _ => fun
  | [d1, d2, d3] => { results := [.lit (.bool false)], args := [d1, d2, d3] }
  | _ => none }
def FnExactFitsAfterWrongFalsely : Prop := fnExactFitsAfterRow.holds Try.pinned (OpenSpec.ofChange fnExactFitsAfterWrong)

/-- 'laws.FnExactIsFound': WHATEVER THE INPUT: true; the input reads as it did. -/
def fnExactIsFoundSpec : ChangeSpec := { name := "fnExactIsFound", fn := fun _ => fun
  | [d1, d2, d3] => { results := [.lit (.bool true)], args := [d1, d2, d3] }
  | _ => none }
def fnExactIsFoundRow : OpenClaim := { program := "ytnpmkoeceihepaa", sum := "93de82e5402bc3adefdd63e7f4d94353c978faa3acca886e761875395be49526", func := "loop.example/g01040/laws.FnExactIsFound", spec := "fnExactIsFound", unfollowed := true, recurses := true, plainKeys := false, apart := false }
def FnExactIsFoundSaid : Prop := fnExactIsFoundRow.holds Try.pinned (OpenSpec.ofChange fnExactIsFoundSpec)

/-- ITS FALSE NEIGHBOUR: 'it returns false'. Refute it at one input. -/
def fnExactIsFoundWrong : ChangeSpec := { name := "fnExactIsFound", fn := fun _ => fun
  | [d1, d2, d3] => { results := [.lit (.bool false)], args := [d1, d2, d3] }
  | _ => none }
def FnExactIsFoundWrongFalsely : Prop := fnExactIsFoundRow.holds Try.pinned (OpenSpec.ofChange fnExactIsFoundWrong)

/-- 'laws.FnExactWeightOf': WHATEVER THE INPUT: true; the input reads as it did. -/
def fnExactWeightOfSpec : ChangeSpec := { name := "fnExactWeightOf", fn := fun _ => fun
  | [d1, d2, d3] => { results := [.lit (.bool true)], args := [d1, d2, d3] }
  | _ => none }
def fnExactWeightOfRow : OpenClaim := { program := "ytnpmkoeceihepaa", sum := "93de82e5402bc3adefdd63e7f4d94353c978faa3acca886e761875395be49526", func := "loop.example/g01040/laws.FnExactWeightOf", spec := "fnExactWeightOf", plainKeys := false, apart := false }
def FnExactWeightOfSaid : Prop := fnExactWeightOfRow.holds Try.pinned (OpenSpec.ofChange fnExactWeightOfSpec)

/-- ITS FALSE NEIGHBOUR: 'it returns false'. Refute it at one input. -/
def fnExactWeightOfWrong : ChangeSpec := { name := "fnExactWeightOf", fn := fun _ => fun
  | [d1, d2, d3] => { results := [.lit (.bool false)], args := [d1, d2, d3] }
  | _ => none }
def FnExactWeightOfWrongFalsely : Prop := fnExactWeightOfRow.holds Try.pinned (OpenSpec.ofChange fnExactWeightOfWrong)

/-- 'laws.FnExactCanWin': WHATEVER THE INPUT: true; the input reads as it did. -/
def fnExactCanWinSpec : ChangeSpec := { name := "fnExactCanWin", fn := fun _ => fun
  | [d1, d2, d3] => { results := [.lit (.bool true)], args := [d1, d2, d3] }
  | _ => none }
def fnExactCanWinRow : OpenClaim := { program := "ytnpmkoeceihepaa", sum := "93de82e5402bc3adefdd63e7f4d94353c978faa3acca886e761875395be49526", func := "loop.example/g01040/laws.FnExactCanWin", spec := "fnExactCanWin", unfollowed := true, recurses := true, plainKeys := false, apart := false }
def FnExactCanWinSaid : Prop := fnExactCanWinRow.holds Try.pinned (OpenSpec.ofChange fnExactCanWinSpec)

/-- ITS FALSE NEIGHBOUR: 'it returns false'. Refute it at one input. -/
def fnExactCanWinWrong : ChangeSpec := { name := "fnExactCanWin", fn := fun _ => fun
  | [d1, d2, d3] => { results := [.lit (.bool false)], args := [d1, d2, d3] }
  | _ => none }
def FnExactCanWinWrongFalsely : Prop := fnExactCanWinRow.holds Try.pinned (OpenSpec.ofChange fnExactCanWinWrong)

/-- 'laws.FnExactFirstAsk': WHATEVER THE INPUT: true; the input reads as it did. -/
def fnExactFirstAskSpec : ChangeSpec := { name := "fnExactFirstAsk", fn := fun _ => fun
  | [d1, d2, d3] => { results := [.lit (.bool true)], args := [d1, d2, d3] }
  | _ => none }
def fnExactFirstAskRow : OpenClaim := { program := "ytnpmkoeceihepaa", sum := "93de82e5402bc3adefdd63e7f4d94353c978faa3acca886e761875395be49526", func := "loop.example/g01040/laws.FnExactFirstAsk", spec := "fnExactFirstAsk", unfollowed := true, recurses := true, plainKeys := false, apart := false }
def FnExactFirstAskSaid : Prop := fnExactFirstAskRow.holds Try.pinned (OpenSpec.ofChange fnExactFirstAskSpec)

/-- ITS FALSE NEIGHBOUR: 'it returns false'. Refute it at one input. -/
def fnExactFirstAskWrong : ChangeSpec := { name := "fnExactFirstAsk", fn := fun _ => fun
  | [d1, d2, d3] => { results := [.lit (.bool false)], args := [d1, d2, d3] }
  | _ => none }
def FnExactFirstAskWrongFalsely : Prop := fnExactFirstAskRow.holds Try.pinned (OpenSpec.ofChange fnExactFirstAskWrong)

/-- 'laws.FnExactFewestAsks': WHATEVER THE INPUT: true; the input reads as it did. -/
def fnExactFewestAsksSpec : ChangeSpec := { name := "fnExactFewestAsks", fn := fun _ => fun
  | [d] => { results := [.lit (.bool true)], args := [d] }
  | _ => none }
def fnExactFewestAsksRow : OpenClaim := { program := "ytnpmkoeceihepaa", sum := "93de82e5402bc3adefdd63e7f4d94353c978faa3acca886e761875395be49526", func := "loop.example/g01040/laws.FnExactFewestAsks", spec := "fnExactFewestAsks", unfollowed := true, recurses := true, plainKeys := false, apart := false }
def FnExactFewestAsksSaid : Prop := fnExactFewestAsksRow.holds Try.pinned (OpenSpec.ofChange fnExactFewestAsksSpec)

/-- ITS FALSE NEIGHBOUR: 'it returns false'. Refute it at one input. -/
def fnExactFewestAsksWrong : ChangeSpec := { name := "fnExactFewestAsks", fn := fun _ => fun
  | [d] => { results := [.lit (.bool false)], args := [d] }
  | _ => none }
def FnExactFewestAsksWrongFalsely : Prop := fnExactFewestAsksRow.holds Try.pinned (OpenSpec.ofChange fnExactFewestAsksWrong)

/-- 'laws.FnLies': WHATEVER THE INPUT: true; the input reads as it did. -/
def fnLiesSpec : ChangeSpec := { name := "fnLies", fn := fun _ => fun
  | [d] => { results := [.lit (.bool true)], args := [d] }
  | _ => none }
def fnLiesRow : OpenClaim := { program := "ytnpmkoeceihepaa", sum := "93de82e5402bc3adefdd63e7f4d94353c978faa3acca886e761875395be49526", func := "loop.example/g01040/laws.FnLies", spec := "fnLies", unfollowed := true, recurses := true, plainKeys := false, apart := false }
def FnLiesSaid : Prop := fnLiesRow.holds Try.pinned (OpenSpec.ofChange fnLiesSpec)

/-- ITS FALSE NEIGHBOUR: 'it returns false'. Refute it at one input. -/
def fnLiesWrong : ChangeSpec := { name := "fnLies", fn := fun _ => fun
  | [d] => { results := [.lit (.bool false)], args := [d] }
  | _ => none }
def FnLiesWrongFalsely : Prop := fnLiesRow.holds Try.pinned (OpenSpec.ofChange fnLiesWrong)

/-- 'laws.FnWeights': WHATEVER THE INPUT: true; the input reads as it did. -/
def fnWeightsSpec : ChangeSpec := { name := "fnWeights", fn := fun _ => fun
  | [d] => { results := [.lit (.bool true)], args := [d] }
  | _ => none }
def fnWeightsRow : OpenClaim := { program := "ytnpmkoeceihepaa", sum := "93de82e5402bc3adefdd63e7f4d94353c978faa3acca886e761875395be49526", func := "loop.example/g01040/laws.FnWeights", spec := "fnWeights", unfollowed := true, recurses := true, plainKeys := false, apart := false }
def FnWeightsSaid : Prop := fnWeightsRow.holds Try.pinned (OpenSpec.ofChange fnWeightsSpec)

/-- ITS FALSE NEIGHBOUR: 'it returns false'. Refute it at one input. -/
def fnWeightsWrong : ChangeSpec := { name := "fnWeights", fn := fun _ => fun
  | [d] => { results := [.lit (.bool false)], args := [d] }
  | _ => none }
def FnWeightsWrongFalsely : Prop := fnWeightsRow.holds Try.pinned (OpenSpec.ofChange fnWeightsWrong)

/-- 'laws.FnAsks': WHATEVER THE INPUT: true; the input reads as it did. -/
def fnAsksSpec : ChangeSpec := { name := "fnAsks", fn := fun _ => fun
  | [d] => { results := [.lit (.bool true)], args := [d] }
  | _ => none }
def fnAsksRow : OpenClaim := { program := "ytnpmkoeceihepaa", sum := "93de82e5402bc3adefdd63e7f4d94353c978faa3acca886e761875395be49526", func := "loop.example/g01040/laws.FnAsks", spec := "fnAsks", unfollowed := true, recurses := true, plainKeys := false, apart := false }
def FnAsksSaid : Prop := fnAsksRow.holds Try.pinned (OpenSpec.ofChange fnAsksSpec)

/-- ITS FALSE NEIGHBOUR: 'it returns false'. Refute it at one input. -/
def fnAsksWrong : ChangeSpec := { name := "fnAsks", fn := fun _ => fun
  | [d] => { results := [.lit (.bool false)], args := [d] }
  | _ => none }
def FnAsksWrongFalsely : Prop := fnAsksRow.holds Try.pinned (OpenSpec.ofChange fnAsksWrong)

/- THE SECOND FORM. 'bulk': how many values and letters a reading holds, each counted each time it is reached (what is shared counts as often as it is met; a slice's spare places count too). A statement '..UptoSaid' is the law's where the arguments, and the package variables that the reading takes, are together of bulk at most 1048576: NARROWER than '..Said'. Prove '..Said' where nothing that the law and all that it calls make is longer than what came in: it says more and counts as full. Else prove '..UptoSaid'. A law counts once. -/
mutual
def uptoBulk {H : Type} : DataW H → Nat
  | .lit (.string bytes) => bytes.length + 1
  | .lit _ => 1
  | .nil => 1
  | .ptr d => uptoBulk d + 1
  | .slice elems spare => uptoBulkAll elems + uptoBulkAll spare + 1
  | .agg parts => uptoBulkAll parts + 1
  | .iface _ d => uptoBulk d + 1
  | .map entries => uptoBulkEntries entries + 1
  | .held _ => 1
def uptoBulkAll {H : Type} : List (DataW H) → Nat
  | [] => 0
  | d :: r => uptoBulk d + uptoBulkAll r
def uptoBulkEntries {H : Type} : List (Lit × DataW H) → Nat
  | [] => 0
  | x :: r => uptoBulkEntry x + uptoBulkEntries r
def uptoBulkEntry {H : Type} : Lit × DataW H → Nat
  | (.string bytes, d) => bytes.length + uptoBulk d + 1
  | (_, d) => uptoBulk d + 1
 end
def uptoSmall : (H : Type) → List (DataW H) → Bool := fun _ ds => decide (uptoBulkAll ds ≤ 1048576)
def OpenSpec.upto (s : _root_.Go.ChangeSpec) : _root_.Go.OpenSpec := { _root_.Go.OpenSpec.ofChange s with cond := some uptoSmall }

/-- 'laws.FnExactAsksOk', WHERE WHAT IT READS IS OF BULK AT MOST 1048576: true; the input reads as it did. -/
def fnExactAsksOkUptoRow : OpenClaim := { program := "ytnpmkoeceihepaa", sum := "93de82e5402bc3adefdd63e7f4d94353c978faa3acca886e761875395be49526", func := "loop.example/g01040/laws.FnExactAsksOk", spec := "fnExactAsksOk", plainKeys := false, apart := false, narrowed := true }
def FnExactAsksOkUptoSaid : Prop := fnExactAsksOkUptoRow.holds Try.pinned (OpenSpec.upto fnExactAsksOkSpec)

/-- 'laws.FnExactFitsAfter', WHERE WHAT IT READS IS OF BULK AT MOST 1048576: true; the input reads as it did. -/
def fnExactFitsAfterUptoRow : OpenClaim := { program := "ytnpmkoeceihepaa", sum := "93de82e5402bc3adefdd63e7f4d94353c978faa3acca886e761875395be49526", func := "loop.example/g01040/laws.FnExactFitsAfter", spec := "fnExactFitsAfter", plainKeys := false, apart := false, narrowed := true }
def FnExactFitsAfterUptoSaid : Prop := fnExactFitsAfterUptoRow.holds Try.pinned (OpenSpec.upto fnExactFitsAfterSpec)

/-- 'laws.FnExactIsFound', WHERE WHAT IT READS IS OF BULK AT MOST 1048576: true; the input reads as it did. -/
def fnExactIsFoundUptoRow : OpenClaim := { program := "ytnpmkoeceihepaa", sum := "93de82e5402bc3adefdd63e7f4d94353c978faa3acca886e761875395be49526", func := "loop.example/g01040/laws.FnExactIsFound", spec := "fnExactIsFound", unfollowed := true, recurses := true, plainKeys := false, apart := false, narrowed := true }
def FnExactIsFoundUptoSaid : Prop := fnExactIsFoundUptoRow.holds Try.pinned (OpenSpec.upto fnExactIsFoundSpec)

/-- 'laws.FnExactWeightOf', WHERE WHAT IT READS IS OF BULK AT MOST 1048576: true; the input reads as it did. -/
def fnExactWeightOfUptoRow : OpenClaim := { program := "ytnpmkoeceihepaa", sum := "93de82e5402bc3adefdd63e7f4d94353c978faa3acca886e761875395be49526", func := "loop.example/g01040/laws.FnExactWeightOf", spec := "fnExactWeightOf", plainKeys := false, apart := false, narrowed := true }
def FnExactWeightOfUptoSaid : Prop := fnExactWeightOfUptoRow.holds Try.pinned (OpenSpec.upto fnExactWeightOfSpec)

/-- 'laws.FnExactCanWin', WHERE WHAT IT READS IS OF BULK AT MOST 1048576: true; the input reads as it did. -/
def fnExactCanWinUptoRow : OpenClaim := { program := "ytnpmkoeceihepaa", sum := "93de82e5402bc3adefdd63e7f4d94353c978faa3acca886e761875395be49526", func := "loop.example/g01040/laws.FnExactCanWin", spec := "fnExactCanWin", unfollowed := true, recurses := true, plainKeys := false, apart := false, narrowed := true }
def FnExactCanWinUptoSaid : Prop := fnExactCanWinUptoRow.holds Try.pinned (OpenSpec.upto fnExactCanWinSpec)

/-- 'laws.FnExactFirstAsk', WHERE WHAT IT READS IS OF BULK AT MOST 1048576: true; the input reads as it did. -/
def fnExactFirstAskUptoRow : OpenClaim := { program := "ytnpmkoeceihepaa", sum := "93de82e5402bc3adefdd63e7f4d94353c978faa3acca886e761875395be49526", func := "loop.example/g01040/laws.FnExactFirstAsk", spec := "fnExactFirstAsk", unfollowed := true, recurses := true, plainKeys := false, apart := false, narrowed := true }
def FnExactFirstAskUptoSaid : Prop := fnExactFirstAskUptoRow.holds Try.pinned (OpenSpec.upto fnExactFirstAskSpec)

/-- 'laws.FnExactFewestAsks', WHERE WHAT IT READS IS OF BULK AT MOST 1048576: true; the input reads as it did. -/
def fnExactFewestAsksUptoRow : OpenClaim := { program := "ytnpmkoeceihepaa", sum := "93de82e5402bc3adefdd63e7f4d94353c978faa3acca886e761875395be49526", func := "loop.example/g01040/laws.FnExactFewestAsks", spec := "fnExactFewestAsks", unfollowed := true, recurses := true, plainKeys := false, apart := false, narrowed := true }
def FnExactFewestAsksUptoSaid : Prop := fnExactFewestAsksUptoRow.holds Try.pinned (OpenSpec.upto fnExactFewestAsksSpec)

/-- 'laws.FnLies', WHERE WHAT IT READS IS OF BULK AT MOST 1048576: true; the input reads as it did. -/
def fnLiesUptoRow : OpenClaim := { program := "ytnpmkoeceihepaa", sum := "93de82e5402bc3adefdd63e7f4d94353c978faa3acca886e761875395be49526", func := "loop.example/g01040/laws.FnLies", spec := "fnLies", unfollowed := true, recurses := true, plainKeys := false, apart := false, narrowed := true }
def FnLiesUptoSaid : Prop := fnLiesUptoRow.holds Try.pinned (OpenSpec.upto fnLiesSpec)

/-- 'laws.FnWeights', WHERE WHAT IT READS IS OF BULK AT MOST 1048576: true; the input reads as it did. -/
def fnWeightsUptoRow : OpenClaim := { program := "ytnpmkoeceihepaa", sum := "93de82e5402bc3adefdd63e7f4d94353c978faa3acca886e761875395be49526", func := "loop.example/g01040/laws.FnWeights", spec := "fnWeights", unfollowed := true, recurses := true, plainKeys := false, apart := false, narrowed := true }
def FnWeightsUptoSaid : Prop := fnWeightsUptoRow.holds Try.pinned (OpenSpec.upto fnWeightsSpec)

/-- 'laws.FnAsks', WHERE WHAT IT READS IS OF BULK AT MOST 1048576: true; the input reads as it did. -/
def fnAsksUptoRow : OpenClaim := { program := "ytnpmkoeceihepaa", sum := "93de82e5402bc3adefdd63e7f4d94353c978faa3acca886e761875395be49526", func := "loop.example/g01040/laws.FnAsks", spec := "fnAsks", unfollowed := true, recurses := true, plainKeys := false, apart := false, narrowed := true }
def FnAsksUptoSaid : Prop := fnAsksUptoRow.holds Try.pinned (OpenSpec.upto fnAsksSpec)

end Rows
end Go.Proofs.Ytnpmkoeceihepaa
