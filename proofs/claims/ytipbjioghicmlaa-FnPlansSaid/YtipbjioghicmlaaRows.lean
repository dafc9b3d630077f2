/-
  No cell of these rows narrows 'for every input' (looked for: loops, veiled, ifaces, maps, wideKeys, modest, calm, conditions, laid).
  DERIVED. THE GIVEN ROWS OF THIS SEAT. 9 by the template 'for every input the law returns true; each argument reads behind the call as it read before'; 0 by the template 'total and deterministic' (their statements: YtipbjioghicmlaaTotals.lean).
  GIVEN WITH THE SEED: the statements are not yours to turn. If you find one false, say at which input.
  Laid BY PROGRAM, IN A SANDBOX (cutbox-rows.mjs): the forced cells as the released guide's own fill.sh prints them over the translation c38ecae0e7382211… (all of the seat's roots in one cut). By AI agents, Wed Nov 11 2026. No macro, syntax, notation, axiom, sorry.
-/
import Derived.Test.YtipbjioghicmlaaChecked
import GoSem.Claim
import GoSem.ClaimJoined
import GoSem.ClaimMapViews
import Derived.JoinedTies
import Derived.KernelRfl
namespace Go.Proofs.Ytipbjioghicmlaa
/- THE CELL 'sum', in the pinned program and in every row, IS THE sha256 OF THE DUMP (.gsa) THAT YtipbjioghicmlaaProg.lean LOADS. Nothing in Lean hashes anything: it is a label: what it is worth is what the hold of that sum in a sandbox is worth. -/
noncomputable def Try.pinned : Pinned := { name := "ytipbjioghicmlaa", sum := "c38ecae0e7382211e2c63e655450a5ccfc4713b03d55cc56083b6ffbe37eb54f", checked := Try.checked }
namespace Rows
def none {H : Type} : Left H := { results := [], args := [] }

/-- 'laws.FnPlans': WHATEVER THE INPUT: true; the input reads as it did. -/
def fnPlansSpec : ChangeSpec := { name := "fnPlans", fn := fun _ => fun
  | [d] => { results := [.lit (.bool true)], args := [d] }
  | _ => none }
def fnPlansRow : OpenClaim := { program := "ytipbjioghicmlaa", sum := "c38ecae0e7382211e2c63e655450a5ccfc4713b03d55cc56083b6ffbe37eb54f", func := "loop.example/g01040/laws.FnPlans", spec := "fnPlans", unfollowed := true, recurses := true, apart := false }
def FnPlansSaid : Prop := fnPlansRow.holds Try.pinned (OpenSpec.ofChange fnPlansSpec)

/-- ITS FALSE NEIGHBOUR: 'it returns false'. Refute it at one input. -/
def fnPlansWrong : ChangeSpec := { name := "fnPlans", fn := fun _ => fun
  | [d] => { results := [.lit (.bool false)], args := [d] }
  | _ => none }
def FnPlansWrongFalsely : Prop := fnPlansRow.holds Try.pinned (OpenSpec.ofChange fnPlansWrong)

/-- 'laws.FnSolves': WHATEVER THE INPUT: true; the input reads as it did. -/
def fnSolvesSpec : ChangeSpec := { name := "fnSolves", fn := fun _ => fun
  | [d] => { results := [.lit (.bool true)], args := [d] }
  | _ => none }
def fnSolvesRow : OpenClaim := { program := "ytipbjioghicmlaa", sum := "c38ecae0e7382211e2c63e655450a5ccfc4713b03d55cc56083b6ffbe37eb54f", func := "loop.example/g01040/laws.FnSolves", spec := "fnSolves", unfollowed := true, recurses := true, apart := false }
def FnSolvesSaid : Prop := fnSolvesRow.holds Try.pinned (OpenSpec.ofChange fnSolvesSpec)

/-- ITS FALSE NEIGHBOUR: 'it returns false'. Refute it at one input. -/
def fnSolvesWrong : ChangeSpec := { name := "fnSolves", fn := fun _ => fun
  | [d] => { results := [.lit (.bool false)], args := [d] }
  | _ => none }
def FnSolvesWrongFalsely : Prop := fnSolvesRow.holds Try.pinned (OpenSpec.ofChange fnSolvesWrong)

/-- 'laws.FnExactPlanOk': WHATEVER THE INPUT: true; the input reads as it did. -/
def fnExactPlanOkSpec : ChangeSpec := { name := "fnExactPlanOk", fn := fun _ => fun
  | [d1, d2] => { results := [.lit (.bool true)], args := [d1, d2] }
  | _ => none }
def fnExactPlanOkRow : OpenClaim := { program := "ytipbjioghicmlaa", sum := "c38ecae0e7382211e2c63e655450a5ccfc4713b03d55cc56083b6ffbe37eb54f", func := "loop.example/g01040/laws.FnExactPlanOk", spec := "fnExactPlanOk", unfollowed := true, recurses := true, apart := false }
def FnExactPlanOkSaid : Prop := fnExactPlanOkRow.holds Try.pinned (OpenSpec.ofChange fnExactPlanOkSpec)

/-- ITS FALSE NEIGHBOUR: 'it returns false'. Refute it at one input. -/
def fnExactPlanOkWrong : ChangeSpec := { name := "fnExactPlanOk", fn := fun _ => fun
  | [d1, d2] => { results := [.lit (.bool false)], args := [d1, d2] }
  | _ => none }
def FnExactPlanOkWrongFalsely : Prop := fnExactPlanOkRow.holds Try.pinned (OpenSpec.ofChange fnExactPlanOkWrong)

/-- 'laws.FnExactFollowPlan': WHATEVER THE INPUT: true; the input reads as it did. -/
def fnExactFollowPlanSpec : ChangeSpec := { name := "fnExactFollowPlan", fn := fun _ => fun
  | [d1, d2, d3] => { results := [.lit (.bool true)], args := [d1, d2, d3] }
  | _ => none }
def fnExactFollowPlanRow : OpenClaim := { program := "ytipbjioghicmlaa", sum := "c38ecae0e7382211e2c63e655450a5ccfc4713b03d55cc56083b6ffbe37eb54f", func := "loop.example/g01040/laws.FnExactFollowPlan", spec := "fnExactFollowPlan", unfollowed := true, recurses := true, apart := false }
def FnExactFollowPlanSaid : Prop := fnExactFollowPlanRow.holds Try.pinned (OpenSpec.ofChange fnExactFollowPlanSpec)

/-- ITS FALSE NEIGHBOUR: 'it returns false'. Refute it at one input. -/
def fnExactFollowPlanWrong : ChangeSpec := { name := "fnExactFollowPlan", fn := fun _ => fun
  | [d1, d2, d3] => { results := [.lit (.bool false)], args := [d1, d2, d3] }
  | _ => none }
def FnExactFollowPlanWrongFalsely : Prop := fnExactFollowPlanRow.holds Try.pinned (OpenSpec.ofChange fnExactFollowPlanWrong)

/-- 'laws.FnExactPlanDepth': WHATEVER THE INPUT: true; the input reads as it did. -/
def fnExactPlanDepthSpec : ChangeSpec := { name := "fnExactPlanDepth", fn := fun _ => fun
  | [d1, d2] => { results := [.lit (.bool true)], args := [d1, d2] }
  | _ => none }
def fnExactPlanDepthRow : OpenClaim := { program := "ytipbjioghicmlaa", sum := "c38ecae0e7382211e2c63e655450a5ccfc4713b03d55cc56083b6ffbe37eb54f", func := "loop.example/g01040/laws.FnExactPlanDepth", spec := "fnExactPlanDepth", unfollowed := true, recurses := true, apart := false }
def FnExactPlanDepthSaid : Prop := fnExactPlanDepthRow.holds Try.pinned (OpenSpec.ofChange fnExactPlanDepthSpec)

/-- ITS FALSE NEIGHBOUR: 'it returns false'. Refute it at one input. -/
def fnExactPlanDepthWrong : ChangeSpec := { name := "fnExactPlanDepth", fn := fun _ => fun
  | [d1, d2] => { results := [.lit (.bool false)], args := [d1, d2] }
  | _ => none }
def FnExactPlanDepthWrongFalsely : Prop := fnExactPlanDepthRow.holds Try.pinned (OpenSpec.ofChange fnExactPlanDepthWrong)

/-- 'laws.FnExactSolvesFor': WHATEVER THE INPUT: true; the input reads as it did. -/
def fnExactSolvesForSpec : ChangeSpec := { name := "fnExactSolvesFor", fn := fun _ => fun
  | [d1, d2] => { results := [.lit (.bool true)], args := [d1, d2] }
  | _ => none }
def fnExactSolvesForRow : OpenClaim := { program := "ytipbjioghicmlaa", sum := "c38ecae0e7382211e2c63e655450a5ccfc4713b03d55cc56083b6ffbe37eb54f", func := "loop.example/g01040/laws.FnExactSolvesFor", spec := "fnExactSolvesFor", unfollowed := true, recurses := true, apart := false }
def FnExactSolvesForSaid : Prop := fnExactSolvesForRow.holds Try.pinned (OpenSpec.ofChange fnExactSolvesForSpec)

/-- ITS FALSE NEIGHBOUR: 'it returns false'. Refute it at one input. -/
def fnExactSolvesForWrong : ChangeSpec := { name := "fnExactSolvesFor", fn := fun _ => fun
  | [d1, d2] => { results := [.lit (.bool false)], args := [d1, d2] }
  | _ => none }
def FnExactSolvesForWrongFalsely : Prop := fnExactSolvesForRow.holds Try.pinned (OpenSpec.ofChange fnExactSolvesForWrong)

/-- 'laws.FnExactFindsCoin': WHATEVER THE INPUT: true; the input reads as it did. -/
def fnExactFindsCoinSpec : ChangeSpec := { name := "fnExactFindsCoin", fn := fun _ => fun
  | [d1, d2] => { results := [.lit (.bool true)], args := [d1, d2] }
  | _ => none }
def fnExactFindsCoinRow : OpenClaim := { program := "ytipbjioghicmlaa", sum := "c38ecae0e7382211e2c63e655450a5ccfc4713b03d55cc56083b6ffbe37eb54f", func := "loop.example/g01040/laws.FnExactFindsCoin", spec := "fnExactFindsCoin", unfollowed := true, recurses := true, apart := false }
def FnExactFindsCoinSaid : Prop := fnExactFindsCoinRow.holds Try.pinned (OpenSpec.ofChange fnExactFindsCoinSpec)

/-- ITS FALSE NEIGHBOUR: 'it returns false'. Refute it at one input. -/
def fnExactFindsCoinWrong : ChangeSpec := { name := "fnExactFindsCoin", fn := fun _ => fun
  | [d1, d2] => { results := [.lit (.bool false)], args := [d1, d2] }
  | _ => none }
def FnExactFindsCoinWrongFalsely : Prop := fnExactFindsCoinRow.holds Try.pinned (OpenSpec.ofChange fnExactFindsCoinWrong)

/-- 'laws.FnExactTotalCost': WHATEVER THE INPUT: true; the input reads as it did. -/
def fnExactTotalCostSpec : ChangeSpec := { name := "fnExactTotalCost", fn := fun _ => fun
  | [d1, d2] => { results := [.lit (.bool true)], args := [d1, d2] }
  | _ => none }
def fnExactTotalCostRow : OpenClaim := { program := "ytipbjioghicmlaa", sum := "c38ecae0e7382211e2c63e655450a5ccfc4713b03d55cc56083b6ffbe37eb54f", func := "loop.example/g01040/laws.FnExactTotalCost", spec := "fnExactTotalCost", unfollowed := true, recurses := true, apart := false }
def FnExactTotalCostSaid : Prop := fnExactTotalCostRow.holds Try.pinned (OpenSpec.ofChange fnExactTotalCostSpec)

/-- ITS FALSE NEIGHBOUR: 'it returns false'. Refute it at one input. -/
def fnExactTotalCostWrong : ChangeSpec := { name := "fnExactTotalCost", fn := fun _ => fun
  | [d1, d2] => { results := [.lit (.bool false)], args := [d1, d2] }
  | _ => none }
def FnExactTotalCostWrongFalsely : Prop := fnExactTotalCostRow.holds Try.pinned (OpenSpec.ofChange fnExactTotalCostWrong)

/-- 'laws.FnExactWorstCase': WHATEVER THE INPUT: true; the input reads as it did. -/
def fnExactWorstCaseSpec : ChangeSpec := { name := "fnExactWorstCase", fn := fun _ => fun
  | [d1, d2] => { results := [.lit (.bool true)], args := [d1, d2] }
  | _ => none }
def fnExactWorstCaseRow : OpenClaim := { program := "ytipbjioghicmlaa", sum := "c38ecae0e7382211e2c63e655450a5ccfc4713b03d55cc56083b6ffbe37eb54f", func := "loop.example/g01040/laws.FnExactWorstCase", spec := "fnExactWorstCase", unfollowed := true, recurses := true, apart := false }
def FnExactWorstCaseSaid : Prop := fnExactWorstCaseRow.holds Try.pinned (OpenSpec.ofChange fnExactWorstCaseSpec)

/-- ITS FALSE NEIGHBOUR: 'it returns false'. Refute it at one input. -/
def fnExactWorstCaseWrong : ChangeSpec := { name := "fnExactWorstCase", fn := fun _ => fun
  | [d1, d2] => { results := [.lit (.bool false)], args := [d1, d2] }
  | _ => none }
def FnExactWorstCaseWrongFalsely : Prop := fnExactWorstCaseRow.holds Try.pinned (OpenSpec.ofChange fnExactWorstCaseWrong)

/- THE SECOND FORM. 'bulk': how many values and letters a reading holds, each counted each time it is reached (what is shared counts as often as it is met; a slice's spare places count too). A statement '..UptoSaid' is the law's where the arguments, and the package variables that the reading takes, are together of bulk at most 1048576: NARROWER than '..Said'. Prove '..Said' where nothing that the law and all that it calls make is longer than what came in: it says more and counts as full. Else prove '..UptoSaid'. A law counts once. -/
mutual
def uptoBulk {H : Type} : DataW H → Nat
  | .lit (.string bytes) => bytes.length + 1
  | .lit _ => 1
  | .nil => 1
  | .ptr d => uptoBulk d + 1
  | .slice elems spare => uptoBulkAll elems + uptoBulkAll spare + 1
  | .agg parts => uptoBulkAll parts + 1
  | .iface _ d => uptoBulk d + 1
  | .map entries => uptoBulkEntries entries + 1
  | .held _ => 1
def uptoBulkAll {H : Type} : List (DataW H) → Nat
  | [] => 0
  | d :: r => uptoBulk d + uptoBulkAll r
def uptoBulkEntries {H : Type} : List (Lit × DataW H) → Nat
  | [] => 0
  | x :: r => uptoBulkEntry x + uptoBulkEntries r
def uptoBulkEntry {H : Type} : Lit × DataW H → Nat
  | (.string bytes, d) => bytes.length + uptoBulk d + 1
  | (_, d) => uptoBulk d + 1
 end
def uptoSmall : (H : Type) → List (DataW H) → Bool := fun _ ds => decide (uptoBulkAll ds ≤ 1048576)
def OpenSpec.upto (s : _root_.Go.ChangeSpec) : _root_.Go.OpenSpec := { _root_.Go.OpenSpec.ofChange s with cond := some uptoSmall }

/-- 'laws.FnPlans', WHERE WHAT IT READS IS OF BULK AT MOST 1048576: true; the input reads as it did. -/
def fnPlansUptoRow : OpenClaim := { program := "ytipbjioghicmlaa", sum := "c38ecae0e7382211e2c63e655450a5ccfc4713b03d55cc56083b6ffbe37eb54f", func := "loop.example/g01040/laws.FnPlans", spec := "fnPlans", unfollowed := true, recurses := true, apart := false, narrowed := true }
def FnPlansUptoSaid : Prop := fnPlansUptoRow.holds Try.pinned (OpenSpec.upto fnPlansSpec)

/-- 'laws.FnSolves', WHERE WHAT IT READS IS OF BULK AT MOST 1048576: true; the input reads as it did. -/
def fnSolvesUptoRow : OpenClaim := { program := "ytipbjioghicmlaa", sum := "c38ecae0e7382211e2c63e655450a5ccfc4713b03d55cc56083b6ffbe37eb54f", func := "loop.example/g01040/laws.FnSolves", spec := "fnSolves", unfollowed := true, recurses := true, apart := false, narrowed := true }
def FnSolvesUptoSaid : Prop := fnSolvesUptoRow.holds Try.pinned (OpenSpec.upto fnSolvesSpec)

/-- 'laws.FnExactPlanOk', WHERE WHAT IT READS IS OF BULK AT MOST 1048576: true; the input reads as it did. -/
def fnExactPlanOkUptoRow : OpenClaim := { program := "ytipbjioghicmlaa", sum := "c38ecae0e7382211e2c63e655450a5ccfc4713b03d55cc56083b6ffbe37eb54f", func := "loop.example/g01040/laws.FnExactPlanOk", spec := "fnExactPlanOk", unfollowed := true, recurses := true, apart := false, narrowed := true }
def FnExactPlanOkUptoSaid : Prop := fnExactPlanOkUptoRow.holds Try.pinned (OpenSpec.upto fnExactPlanOkSpec)

/-- 'laws.FnExactFollowPlan', WHERE WHAT IT READS IS OF BULK AT MOST 1048576: true; the input reads as it did. -/
def fnExactFollowPlanUptoRow : OpenClaim := { program := "ytipbjioghicmlaa", sum := "c38ecae0e7382211e2c63e655450a5ccfc4713b03d55cc56083b6ffbe37eb54f", func := "loop.example/g01040/laws.FnExactFollowPlan", spec := "fnExactFollowPlan", unfollowed := true, recurses := true, apart := false, narrowed := true }
def FnExactFollowPlanUptoSaid : Prop := fnExactFollowPlanUptoRow.holds Try.pinned (OpenSpec.upto fnExactFollowPlanSpec)

/-- 'laws.FnExactPlanDepth', WHERE WHAT IT READS IS OF BULK AT MOST 1048576: true; the input reads as it did. -/
def fnExactPlanDepthUptoRow : OpenClaim := { program := "ytipbjioghicmlaa", sum := "c38ecae0e7382211e2c63e655450a5ccfc4713b03d55cc56083b6ffbe37eb54f", func := "loop.example/g01040/laws.FnExactPlanDepth", spec := "fnExactPlanDepth", unfollowed := true, recurses := true, apart := false, narrowed := true }
def FnExactPlanDepthUptoSaid : Prop := fnExactPlanDepthUptoRow.holds Try.pinned (OpenSpec.upto fnExactPlanDepthSpec)

/-- 'laws.FnExactSolvesFor', WHERE WHAT IT READS IS OF BULK AT MOST 1048576: true; the input reads as it did. -/
def fnExactSolvesForUptoRow : OpenClaim := { program := "ytipbjioghicmlaa", sum := "c38ecae0e7382211e2c63e655450a5ccfc4713b03d55cc56083b6ffbe37eb54f", func := "loop.example/g01040/laws.FnExactSolvesFor", spec := "fnExactSolvesFor", unfollowed := true, recurses := true, apart := false, narrowed := true }
def FnExactSolvesForUptoSaid : Prop := fnExactSolvesForUptoRow.holds Try.pinned (OpenSpec.upto fnExactSolvesForSpec)

/-- 'laws.FnExactFindsCoin', WHERE WHAT IT READS IS OF BULK AT MOST 1048576: true; the input reads as it did. -/
def fnExactFindsCoinUptoRow : OpenClaim := { program := "ytipbjioghicmlaa", sum := "c38ecae0e7382211e2c63e655450a5ccfc4713b03d55cc56083b6ffbe37eb54f", func := "loop.example/g01040/laws.FnExactFindsCoin", spec := "fnExactFindsCoin", unfollowed := true, recurses := true, apart := false, narrowed := true }
def FnExactFindsCoinUptoSaid : Prop := fnExactFindsCoinUptoRow.holds Try.pinned (OpenSpec.upto fnExactFindsCoinSpec)

/-- 'laws.FnExactTotalCost', WHERE WHAT IT READS IS OF BULK AT MOST 1048576: true; the input reads as it did. -/
def fnExactTotalCostUptoRow : OpenClaim := { program := "ytipbjioghicmlaa", sum := "c38ecae0e7382211e2c63e655450a5ccfc4713b03d55cc56083b6ffbe37eb54f", func := "loop.example/g01040/laws.FnExactTotalCost", spec := "fnExactTotalCost", unfollowed := true, recurses := true, apart := false, narrowed := true }
def FnExactTotalCostUptoSaid : Prop := fnExactTotalCostUptoRow.holds Try.pinned (OpenSpec.upto fnExactTotalCostSpec)

/-- 'laws.FnExactWorstCase', WHERE WHAT IT READS IS OF BULK AT MOST 1048576: true; the input reads as it did. -/
def fnExactWorstCaseUptoRow : OpenClaim := { program := "ytipbjioghicmlaa", sum := "c38ecae0e7382211e2c63e655450a5ccfc4713b03d55cc56083b6ffbe37eb54f", func := "loop.example/g01040/laws.FnExactWorstCase", spec := "fnExactWorstCase", unfollowed := true, recurses := true, apart := false, narrowed := true }
def FnExactWorstCaseUptoSaid : Prop := fnExactWorstCaseUptoRow.holds Try.pinned (OpenSpec.upto fnExactWorstCaseSpec)

end Rows
end Go.Proofs.Ytipbjioghicmlaa
