/-
  No cell of these rows narrows 'for every input' (looked for: loops, veiled, ifaces, maps, wideKeys, modest, calm, conditions, laid).
  DERIVED. THE GIVEN ROWS OF THIS SEAT. 6 by the template 'for every input the law returns true; each argument reads behind the call as it read before'; 0 by the template 'total and deterministic' (their statements: YtdfcjdepfikboaaTotals.lean).
  GIVEN WITH THE SEED: the statements are not yours to turn. If you find one false, say at which input.
  Laid BY PROGRAM, IN A SANDBOX (cutbox-rows.mjs): the forced cells as the released guide's own fill.sh prints them over the translation 451a4f5c7576588a… (all of the seat's roots in one cut). By AI agents, Wed Nov 11 2026. No macro, syntax, notation, axiom, sorry.
-/
import Derived.Test.YtdfcjdepfikboaaChecked
import GoSem.Claim
import GoSem.ClaimJoined
import GoSem.ClaimMapViews
import Derived.JoinedTies
import Derived.KernelRfl
namespace Go.Proofs.Ytdfcjdepfikboaa
/- THE CELL 'sum', in the pinned program and in every row, IS THE sha256 OF THE DUMP (.gsa) THAT YtdfcjdepfikboaaProg.lean LOADS. Nothing in Lean hashes anything: it is a label: what it is worth is what the hold of that sum in a sandbox is worth. -/
noncomputable def Try.pinned : Pinned := { name := "ytdfcjdepfikboaa", sum := "451a4f5c7576588a9a5b20d1d18beb6089eaa1f56bdfbd27e2cc259aaaf8d64b", checked := Try.checked }
namespace Rows
def none {H : Type} : Left H := { results := [], args := [] }

/-- 'laws.FnOutcomes': WHATEVER THE INPUT: true; the input reads as it did. -/
def fnOutcomesSpec : ChangeSpec := { name := "fnOutcomes", fn := fun _ => fun
  | [d] => { results := [.lit (.bool true)], args := [d] }
  | _ => none }
def fnOutcomesRow : OpenClaim := { program := "ytdfcjdepfikboaa", sum := "451a4f5c7576588a9a5b20d1d18beb6089eaa1f56bdfbd27e2cc259aaaf8d64b", func := "loop.example/g01040/laws.FnOutcomes", spec := "fnOutcomes", unfollowed := true, recurses := true, apart := false }
def FnOutcomesSaid : Prop := fnOutcomesRow.holds Try.pinned (OpenSpec.ofChange fnOutcomesSpec)

/-- ITS FALSE NEIGHBOUR: 'it returns false'. Refute it at one input. -/
def fnOutcomesWrong : ChangeSpec := { name := "fnOutcomes", fn := fun _ => fun
  | [d] => { results := [.lit (.bool false)], args := [d] }
  | _ => none }
def FnOutcomesWrongFalsely : Prop := fnOutcomesRow.holds Try.pinned (OpenSpec.ofChange fnOutcomesWrong)

/-- 'laws.FnExactWeighingOk': WHATEVER THE INPUT: true; the input reads as it did. -/
def fnExactWeighingOkSpec : ChangeSpec := { name := "fnExactWeighingOk", fn := fun _ => fun
  | [d1, d2] => { results := [.lit (.bool true)], args := [d1, d2] }
  | _ => none }
def fnExactWeighingOkRow : OpenClaim := { program := "ytdfcjdepfikboaa", sum := "451a4f5c7576588a9a5b20d1d18beb6089eaa1f56bdfbd27e2cc259aaaf8d64b", func := "loop.example/g01040/laws.FnExactWeighingOk", spec := "fnExactWeighingOk", unfollowed := true, recurses := true, apart := false }
def FnExactWeighingOkSaid : Prop := fnExactWeighingOkRow.holds Try.pinned (OpenSpec.ofChange fnExactWeighingOkSpec)

/-- ITS FALSE NEIGHBOUR: 'it returns false'. Refute it at one input. -/
def fnExactWeighingOkWrong : ChangeSpec := { name := "fnExactWeighingOk", fn := fun _ => fun
  | [d1, d2] => { results := [.lit (.bool false)], args := [d1, d2] }
  | _ => none }
def FnExactWeighingOkWrongFalsely : Prop := fnExactWeighingOkRow.holds Try.pinned (OpenSpec.ofChange fnExactWeighingOkWrong)

/-- 'laws.FnExactOutcomeOf': WHATEVER THE INPUT: true; the input reads as it did. -/
def fnExactOutcomeOfSpec : ChangeSpec := { name := "fnExactOutcomeOf", fn := fun _ => fun
  | [d1, d2] => { results := [.lit (.bool true)], args := [d1, d2] }
  | _ => none }
def fnExactOutcomeOfRow : OpenClaim := { program := "ytdfcjdepfikboaa", sum := "451a4f5c7576588a9a5b20d1d18beb6089eaa1f56bdfbd27e2cc259aaaf8d64b", func := "loop.example/g01040/laws.FnExactOutcomeOf", spec := "fnExactOutcomeOf", unfollowed := true, recurses := true, apart := false }
def FnExactOutcomeOfSaid : Prop := fnExactOutcomeOfRow.holds Try.pinned (OpenSpec.ofChange fnExactOutcomeOfSpec)

/-- ITS FALSE NEIGHBOUR: 'it returns false'. Refute it at one input. -/
def fnExactOutcomeOfWrong : ChangeSpec := { name := "fnExactOutcomeOf", fn := fun _ => fun
  | [d1, d2] => { results := [.lit (.bool false)], args := [d1, d2] }
  | _ => none }
def FnExactOutcomeOfWrongFalsely : Prop := fnExactOutcomeOfRow.holds Try.pinned (OpenSpec.ofChange fnExactOutcomeOfWrong)

/-- 'laws.FnExactSplitBy': WHATEVER THE INPUT: true; the input reads as it did. -/
def fnExactSplitBySpec : ChangeSpec := { name := "fnExactSplitBy", fn := fun _ => fun
  | [d1, d2] => { results := [.lit (.bool true)], args := [d1, d2] }
  | _ => none }
def fnExactSplitByRow : OpenClaim := { program := "ytdfcjdepfikboaa", sum := "451a4f5c7576588a9a5b20d1d18beb6089eaa1f56bdfbd27e2cc259aaaf8d64b", func := "loop.example/g01040/laws.FnExactSplitBy", spec := "fnExactSplitBy", unfollowed := true, recurses := true, apart := false }
def FnExactSplitBySaid : Prop := fnExactSplitByRow.holds Try.pinned (OpenSpec.ofChange fnExactSplitBySpec)

/-- ITS FALSE NEIGHBOUR: 'it returns false'. Refute it at one input. -/
def fnExactSplitByWrong : ChangeSpec := { name := "fnExactSplitBy", fn := fun _ => fun
  | [d1, d2] => { results := [.lit (.bool false)], args := [d1, d2] }
  | _ => none }
def FnExactSplitByWrongFalsely : Prop := fnExactSplitByRow.holds Try.pinned (OpenSpec.ofChange fnExactSplitByWrong)

/-- 'laws.FnExactTellsMost': WHATEVER THE INPUT: true; the input reads as it did. -/
def fnExactTellsMostSpec : ChangeSpec := { name := "fnExactTellsMost", fn := fun _ => fun
  | [d1, d2] => { results := [.lit (.bool true)], args := [d1, d2] }
  | _ => none }
def fnExactTellsMostRow : OpenClaim := { program := "ytdfcjdepfikboaa", sum := "451a4f5c7576588a9a5b20d1d18beb6089eaa1f56bdfbd27e2cc259aaaf8d64b", func := "loop.example/g01040/laws.FnExactTellsMost", spec := "fnExactTellsMost", unfollowed := true, recurses := true, apart := false }
def FnExactTellsMostSaid : Prop := fnExactTellsMostRow.holds Try.pinned (OpenSpec.ofChange fnExactTellsMostSpec)

/-- ITS FALSE NEIGHBOUR: 'it returns false'. Refute it at one input. -/
def fnExactTellsMostWrong : ChangeSpec := { name := "fnExactTellsMost", fn := fun _ => fun
  | [d1, d2] => { results := [.lit (.bool false)], args := [d1, d2] }
  | _ => none }
def FnExactTellsMostWrongFalsely : Prop := fnExactTellsMostRow.holds Try.pinned (OpenSpec.ofChange fnExactTellsMostWrong)

/-- 'laws.FnExactTurnWeighing': WHATEVER THE INPUT: true; the input reads as it did. -/
def fnExactTurnWeighingSpec : ChangeSpec := { name := "fnExactTurnWeighing", fn := fun _ => fun
  | [d] => { results := [.lit (.bool true)], args := [d] }
  | _ => none }
def fnExactTurnWeighingRow : OpenClaim := { program := "ytdfcjdepfikboaa", sum := "451a4f5c7576588a9a5b20d1d18beb6089eaa1f56bdfbd27e2cc259aaaf8d64b", func := "loop.example/g01040/laws.FnExactTurnWeighing", spec := "fnExactTurnWeighing", unfollowed := true, recurses := true, apart := false }
def FnExactTurnWeighingSaid : Prop := fnExactTurnWeighingRow.holds Try.pinned (OpenSpec.ofChange fnExactTurnWeighingSpec)

/-- ITS FALSE NEIGHBOUR: 'it returns false'. Refute it at one input. -/
def fnExactTurnWeighingWrong : ChangeSpec := { name := "fnExactTurnWeighing", fn := fun _ => fun
  | [d] => { results := [.lit (.bool false)], args := [d] }
  | _ => none }
def FnExactTurnWeighingWrongFalsely : Prop := fnExactTurnWeighingRow.holds Try.pinned (OpenSpec.ofChange fnExactTurnWeighingWrong)

/- THE SECOND FORM. 'bulk': how many values and letters a reading holds, each counted each time it is reached (what is shared counts as often as it is met; a slice's spare places count too). A statement '..UptoSaid' is the law's where the arguments, and the package variables that the reading takes, are together of bulk at most 1048576: NARROWER than '..Said'. Prove '..Said' where nothing that the law and all that it calls make is longer than what came in: it says more and counts as full. Else prove '..UptoSaid'. A law counts once. -/
mutual
def uptoBulk {H : Type} : DataW H → Nat
  | .lit (.string bytes) => bytes.length + 1
  | .lit _ => 1
  | .nil => 1
  | .ptr d => uptoBulk d + 1
  | .slice elems spare => uptoBulkAll elems + uptoBulkAll spare + 1
  | .agg parts => uptoBulkAll parts + 1
  | .iface _ d => uptoBulk d + 1
  | .map entries => uptoBulkEntries entries + 1
  | .held _ => 1
def uptoBulkAll {H : Type} : List (DataW H) → Nat
  | [] => 0
  | d :: r => uptoBulk d + uptoBulkAll r
def uptoBulkEntries {H : Type} : List (Lit × DataW H) → Nat
  | [] => 0
  | x :: r => uptoBulkEntry x + uptoBulkEntries r
def uptoBulkEntry {H : Type} : Lit × DataW H → Nat
  | (.string bytes, d) => bytes.length + uptoBulk d + 1
  | (_, d) => uptoBulk d + 1
 end
def uptoSmall : (H : Type) → List (DataW H) → Bool := fun _ ds => decide (uptoBulkAll ds ≤ 1048576)
def OpenSpec.upto (s : _root_.Go.ChangeSpec) : _root_.Go.OpenSpec := { _root_.Go.OpenSpec.ofChange s with cond := some uptoSmall }

/-- 'laws.FnOutcomes', WHERE WHAT IT READS IS OF BULK AT MOST 1048576: true; the input reads as it did. -/
def fnOutcomesUptoRow : OpenClaim := { program := "ytdfcjdepfikboaa", sum := "451a4f5c7576588a9a5b20d1d18beb6089eaa1f56bdfbd27e2cc259aaaf8d64b", func := "loop.example/g01040/laws.FnOutcomes", spec := "fnOutcomes", unfollowed := true, recurses := true, apart := false, narrowed := true }
def FnOutcomesUptoSaid : Prop := fnOutcomesUptoRow.holds Try.pinned (OpenSpec.upto fnOutcomesSpec)

/-- 'laws.FnExactWeighingOk', WHERE WHAT IT READS IS OF BULK AT MOST 1048576: true; the input reads as it did. -/
def fnExactWeighingOkUptoRow : OpenClaim := { program := "ytdfcjdepfikboaa", sum := "451a4f5c7576588a9a5b20d1d18beb6089eaa1f56bdfbd27e2cc259aaaf8d64b", func := "loop.example/g01040/laws.FnExactWeighingOk", spec := "fnExactWeighingOk", unfollowed := true, recurses := true, apart := false, narrowed := true }
def FnExactWeighingOkUptoSaid : Prop := fnExactWeighingOkUptoRow.holds Try.pinned (OpenSpec.upto fnExactWeighingOkSpec)

/-- 'laws.FnExactOutcomeOf', WHERE WHAT IT READS IS OF BULK AT MOST 1048576: true; the input reads as it did. -/
def fnExactOutcomeOfUptoRow : OpenClaim := { program := "ytdfcjdepfikboaa", sum := "451a4f5c7576588a9a5b20d1d18beb6089eaa1f56bdfbd27e2cc259aaaf8d64b", func := "loop.example/g01040/laws.FnExactOutcomeOf", spec := "fnExactOutcomeOf", unfollowed := true, recurses := true, apart := false, narrowed := true }
def FnExactOutcomeOfUptoSaid : Prop := fnExactOutcomeOfUptoRow.holds Try.pinned (OpenSpec.upto fnExactOutcomeOfSpec)

/-- 'laws.FnExactSplitBy', WHERE WHAT IT READS IS OF BULK AT MOST 1048576: true; the input reads as it did. -/
def fnExactSplitByUptoRow : OpenClaim := { program := "ytdfcjdepfikboaa", sum := "451a4f5c7576588a9a5b20d1d18beb6089eaa1f56bdfbd27e2cc259aaaf8d64b", func := "loop.example/g01040/laws.FnExactSplitBy", spec := "fnExactSplitBy", unfollowed := true, recurses := true, apart := false, narrowed := true }
def FnExactSplitByUptoSaid : Prop := fnExactSplitByUptoRow.holds Try.pinned (OpenSpec.upto fnExactSplitBySpec)

/-- 'laws.FnExactTellsMost', WHERE WHAT IT READS IS OF BULK AT MOST 1048576: true; the input reads as it did. -/
def fnExactTellsMostUptoRow : OpenClaim := { program := "ytdfcjdepfikboaa", sum := "451a4f5c7576588a9a5b20d1d18beb6089eaa1f56bdfbd27e2cc259aaaf8d64b", func := "loop.example/g01040/laws.FnExactTellsMost", spec := "fnExactTellsMost", unfollowed := true, recurses := true, apart := false, narrowed := true }
def FnExactTellsMostUptoSaid : Prop := fnExactTellsMostUptoRow.holds Try.pinned (OpenSpec.upto fnExactTellsMostSpec)

/-- 'laws.FnExactTurnWeighing', WHERE WHAT IT READS IS OF BULK AT MOST 1048576: true; the input reads as it did. -/
def fnExactTurnWeighingUptoRow : OpenClaim := { program := "ytdfcjdepfikboaa", sum := "451a4f5c7576588a9a5b20d1d18beb6089eaa1f56bdfbd27e2cc259aaaf8d64b", func := "loop.example/g01040/laws.FnExactTurnWeighing", spec := "fnExactTurnWeighing", unfollowed := true, recurses := true, apart := false, narrowed := true }
def FnExactTurnWeighingUptoSaid : Prop := fnExactTurnWeighingUptoRow.holds Try.pinned (OpenSpec.upto fnExactTurnWeighingSpec)

end Rows
end Go.Proofs.Ytdfcjdepfikboaa
