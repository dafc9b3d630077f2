/-
  No cell of these rows narrows 'for every input' (looked for: loops, veiled, ifaces, maps, wideKeys, modest, calm, conditions, laid).
  DERIVED. THE GIVEN ROWS OF THIS SEAT. 10 by the template 'for every input the law returns true; each argument reads behind the call as it read before'; 0 by the template 'total and deterministic' (their statements: YtbkhmlkicafheaaTotals.lean).
  GIVEN WITH THE SEED: the statements are not yours to turn. If you find one false, say at which input.
  Laid BY PROGRAM, IN A SANDBOX (cutbox-rows.mjs): the forced cells as the released guide's own fill.sh prints them over the translation a30234cd3afbb3ea… (all of the seat's roots in one cut). By AI agents, Wed Nov 11 2026. No macro, syntax, notation, axiom, sorry.
-/
import Derived.Test.YtbkhmlkicafheaaChecked
import GoSem.Claim
import GoSem.ClaimJoined
import GoSem.ClaimMapViews
import Derived.JoinedTies
import Derived.KernelRfl
namespace Go.Proofs.Ytbkhmlkicafheaa
/- THE CELL 'sum', in the pinned program and in every row, IS THE sha256 OF THE DUMP (.gsa) THAT YtbkhmlkicafheaaProg.lean LOADS. Nothing in Lean hashes anything: it is a label: what it is worth is what the hold of that sum in a sandbox is worth. -/
noncomputable def Try.pinned : Pinned := { name := "ytbkhmlkicafheaa", sum := "a30234cd3afbb3ea4d7f57dabf97dd4366e6c58714363e3567963ee3c8a1f3f9", checked := Try.checked }
namespace Rows
def none {H : Type} : Left H := { results := [], args := [] }

/-- 'laws.FnExactInfoBound': WHATEVER THE INPUT: true; the input reads as it did. -/
def fnExactInfoBoundSpec : ChangeSpec := { name := "fnExactInfoBound", fn := fun _ => fun
  | [d] => { results := [.lit (.bool true)], args := [d] }
  | _ => none }
def fnExactInfoBoundRow : OpenClaim := { program := "ytbkhmlkicafheaa", sum := "a30234cd3afbb3ea4d7f57dabf97dd4366e6c58714363e3567963ee3c8a1f3f9", func := "loop.example/g01040/laws.FnExactInfoBound", spec := "fnExactInfoBound", plainKeys := false, apart := false }
def FnExactInfoBoundSaid : Prop := fnExactInfoBoundRow.holds Try.pinned (OpenSpec.ofChange fnExactInfoBoundSpec)

/-- ITS FALSE NEIGHBOUR: 'it returns false'. Refute it at one input. -/
def fnExactInfoBoundWrong : ChangeSpec := { name := "fnExactInfoBound", fn := fun _ => fun
  | [d] => { results := [.lit (.bool false)], args := [d] }
  | _ => none }
def FnExactInfoBoundWrongFalsely : Prop := fnExactInfoBoundRow.holds Try.pinned (OpenSpec.ofChange fnExactInfoBoundWrong)

/-- 'laws.FnExactMostUnknown': WHATEVER THE INPUT: true; the input reads as it did. -/
def fnExactMostUnknownSpec : ChangeSpec := { name := "fnExactMostUnknown", fn := fun _ => fun
  | [d1, d2] => { results := [.lit (.bool true)], args := [d1, d2] }
  | _ => none }
def fnExactMostUnknownRow : OpenClaim := { program := "ytbkhmlkicafheaa", sum := "a30234cd3afbb3ea4d7f57dabf97dd4366e6c58714363e3567963ee3c8a1f3f9", func := "loop.example/g01040/laws.FnExactMostUnknown", spec := "fnExactMostUnknown", plainKeys := false, apart := false }
def FnExactMostUnknownSaid : Prop := fnExactMostUnknownRow.holds Try.pinned (OpenSpec.ofChange fnExactMostUnknownSpec)

/-- ITS FALSE NEIGHBOUR: 'it returns false'. Refute it at one input. -/
def fnExactMostUnknownWrong : ChangeSpec := { name := "fnExactMostUnknown", fn := fun _ => fun
  | [d1, d2] => { results := [.lit (.bool false)], args := [d1, d2] }
  | _ => none }
def FnExactMostUnknownWrongFalsely : Prop := fnExactMostUnknownRow.holds Try.pinned (OpenSpec.ofChange fnExactMostUnknownWrong)

/-- 'laws.FnExactWorstOutcome': WHATEVER THE INPUT: true; the input reads as it did. -/
def fnExactWorstOutcomeSpec : ChangeSpec := { name := "fnExactWorstOutcome", fn := fun _ => fun
  | [d1, d2] => { results := [.lit (.bool true)], args := [d1, d2] }
  | _ => none }
def fnExactWorstOutcomeRow : OpenClaim := { program := "ytbkhmlkicafheaa", sum := "a30234cd3afbb3ea4d7f57dabf97dd4366e6c58714363e3567963ee3c8a1f3f9", func := "loop.example/g01040/laws.FnExactWorstOutcome", spec := "fnExactWorstOutcome", unfollowed := true, recurses := true, plainKeys := false, apart := false }
def FnExactWorstOutcomeSaid : Prop := fnExactWorstOutcomeRow.holds Try.pinned (OpenSpec.ofChange fnExactWorstOutcomeSpec)

/-- ITS FALSE NEIGHBOUR: 'it returns false'. Refute it at one input. -/
def fnExactWorstOutcomeWrong : ChangeSpec := { name := "fnExactWorstOutcome", fn := fun _ => fun
  | [d1, d2] => { results := [.lit (.bool false)], args := [d1, d2] }
  | _ => none }
def FnExactWorstOutcomeWrongFalsely : Prop := fnExactWorstOutcomeRow.holds Try.pinned (OpenSpec.ofChange fnExactWorstOutcomeWrong)

/-- 'laws.FnExactPlayAgainst': WHATEVER THE INPUT: true; the input reads as it did. -/
def fnExactPlayAgainstSpec : ChangeSpec := { name := "fnExactPlayAgainst", fn := fun _ => fun
  | [d1, d2] => { results := [.lit (.bool true)], args := [d1, d2] }
  | _ => none }
def fnExactPlayAgainstRow : OpenClaim := { program := "ytbkhmlkicafheaa", sum := "a30234cd3afbb3ea4d7f57dabf97dd4366e6c58714363e3567963ee3c8a1f3f9", func := "loop.example/g01040/laws.FnExactPlayAgainst", spec := "fnExactPlayAgainst", unfollowed := true, recurses := true, plainKeys := false, apart := false }
def FnExactPlayAgainstSaid : Prop := fnExactPlayAgainstRow.holds Try.pinned (OpenSpec.ofChange fnExactPlayAgainstSpec)

/-- ITS FALSE NEIGHBOUR: 'it returns false'. Refute it at one input. -/
def fnExactPlayAgainstWrong : ChangeSpec := { name := "fnExactPlayAgainst", fn := fun _ => fun
  | [d1, d2] => { results := [.lit (.bool false)], args := [d1, d2] }
  | _ => none }
def FnExactPlayAgainstWrongFalsely : Prop := fnExactPlayAgainstRow.holds Try.pinned (OpenSpec.ofChange fnExactPlayAgainstWrong)

/-- 'laws.FnExactCasesLeft': WHATEVER THE INPUT: true; the input reads as it did. -/
def fnExactCasesLeftSpec : ChangeSpec := { name := "fnExactCasesLeft", fn := fun _ => fun
  | [d1, d2] => { results := [.lit (.bool true)], args := [d1, d2] }
  | _ => none }
def fnExactCasesLeftRow : OpenClaim := { program := "ytbkhmlkicafheaa", sum := "a30234cd3afbb3ea4d7f57dabf97dd4366e6c58714363e3567963ee3c8a1f3f9", func := "loop.example/g01040/laws.FnExactCasesLeft", spec := "fnExactCasesLeft", unfollowed := true, recurses := true, plainKeys := false, apart := false }
def FnExactCasesLeftSaid : Prop := fnExactCasesLeftRow.holds Try.pinned (OpenSpec.ofChange fnExactCasesLeftSpec)

/-- ITS FALSE NEIGHBOUR: 'it returns false'. Refute it at one input. -/
def fnExactCasesLeftWrong : ChangeSpec := { name := "fnExactCasesLeft", fn := fun _ => fun
  | [d1, d2] => { results := [.lit (.bool false)], args := [d1, d2] }
  | _ => none }
def FnExactCasesLeftWrongFalsely : Prop := fnExactCasesLeftRow.holds Try.pinned (OpenSpec.ofChange fnExactCasesLeftWrong)

/-- 'laws.FnExactLostCases': WHATEVER THE INPUT: true; the input reads as it did. -/
def fnExactLostCasesSpec : ChangeSpec := { name := "fnExactLostCases", fn := fun _ => fun
  | [d1, d2] => { results := [.lit (.bool true)], args := [d1, d2] }
  | _ => none }
def fnExactLostCasesRow : OpenClaim := { program := "ytbkhmlkicafheaa", sum := "a30234cd3afbb3ea4d7f57dabf97dd4366e6c58714363e3567963ee3c8a1f3f9", func := "loop.example/g01040/laws.FnExactLostCases", spec := "fnExactLostCases", unfollowed := true, recurses := true, plainKeys := false, apart := false }
def FnExactLostCasesSaid : Prop := fnExactLostCasesRow.holds Try.pinned (OpenSpec.ofChange fnExactLostCasesSpec)

/-- ITS FALSE NEIGHBOUR: 'it returns false'. Refute it at one input. -/
def fnExactLostCasesWrong : ChangeSpec := { name := "fnExactLostCases", fn := fun _ => fun
  | [d1, d2] => { results := [.lit (.bool false)], args := [d1, d2] }
  | _ => none }
def FnExactLostCasesWrongFalsely : Prop := fnExactLostCasesRow.holds Try.pinned (OpenSpec.ofChange fnExactLostCasesWrong)

/-- 'laws.FnFinds': WHATEVER THE INPUT: true; the input reads as it did. -/
def fnFindsSpec : ChangeSpec := { name := "fnFinds", fn := fun _ => fun
  | [d] => { results := [.lit (.bool true)], args := [d] }
  | _ => none }
def fnFindsRow : OpenClaim := { program := "ytbkhmlkicafheaa", sum := "a30234cd3afbb3ea4d7f57dabf97dd4366e6c58714363e3567963ee3c8a1f3f9", func := "loop.example/g01040/laws.FnFinds", spec := "fnFinds", unfollowed := true, recurses := true, plainKeys := false, apart := false }
def FnFindsSaid : Prop := fnFindsRow.holds Try.pinned (OpenSpec.ofChange fnFindsSpec)

/-- ITS FALSE NEIGHBOUR: 'it returns false'. Refute it at one input. -/
def fnFindsWrong : ChangeSpec := { name := "fnFinds", fn := fun _ => fun
  | [d] => { results := [.lit (.bool false)], args := [d] }
  | _ => none }
def FnFindsWrongFalsely : Prop := fnFindsRow.holds Try.pinned (OpenSpec.ofChange fnFindsWrong)

/-- 'laws.FnEveryState': WHATEVER THE INPUT: true; the input reads as it did. -/
def fnEveryStateSpec : ChangeSpec := { name := "fnEveryState", fn := fun _ => fun
  | [d] => { results := [.lit (.bool true)], args := [d] }
  | _ => none }
def fnEveryStateRow : OpenClaim := { program := "ytbkhmlkicafheaa", sum := "a30234cd3afbb3ea4d7f57dabf97dd4366e6c58714363e3567963ee3c8a1f3f9", func := "loop.example/g01040/laws.FnEveryState", spec := "fnEveryState", unfollowed := true, recurses := true, plainKeys := false, apart := false }
def FnEveryStateSaid : Prop := fnEveryStateRow.holds Try.pinned (OpenSpec.ofChange fnEveryStateSpec)

/-- ITS FALSE NEIGHBOUR: 'it returns false'. Refute it at one input. -/
def fnEveryStateWrong : ChangeSpec := { name := "fnEveryState", fn := fun _ => fun
  | [d] => { results := [.lit (.bool false)], args := [d] }
  | _ => none }
def FnEveryStateWrongFalsely : Prop := fnEveryStateRow.holds Try.pinned (OpenSpec.ofChange fnEveryStateWrong)

/-- 'laws.FnAdversaries': WHATEVER THE INPUT: true; the input reads as it did. -/
def fnAdversariesSpec : ChangeSpec := { name := "fnAdversaries", fn := fun _ => fun
  | [d] => { results := [.lit (.bool true)], args := [d] }
  | _ => none }
def fnAdversariesRow : OpenClaim := { program := "ytbkhmlkicafheaa", sum := "a30234cd3afbb3ea4d7f57dabf97dd4366e6c58714363e3567963ee3c8a1f3f9", func := "loop.example/g01040/laws.FnAdversaries", spec := "fnAdversaries", unfollowed := true, recurses := true, plainKeys := false, apart := false }
def FnAdversariesSaid : Prop := fnAdversariesRow.holds Try.pinned (OpenSpec.ofChange fnAdversariesSpec)

/-- ITS FALSE NEIGHBOUR: 'it returns false'. Refute it at one input. -/
def fnAdversariesWrong : ChangeSpec := { name := "fnAdversaries", fn := fun _ => fun
  | [d] => { results := [.lit (.bool false)], args := [d] }
  | _ => none }
def FnAdversariesWrongFalsely : Prop := fnAdversariesRow.holds Try.pinned (OpenSpec.ofChange fnAdversariesWrong)

/-- 'laws.FnDesigns': WHATEVER THE INPUT: true; the input reads as it did. -/
def fnDesignsSpec : ChangeSpec := { name := "fnDesigns", fn := fun _ => fun
  | [d] => { results := [.lit (.bool true)], args := [d] }
  | _ => none }
def fnDesignsRow : OpenClaim := { program := "ytbkhmlkicafheaa", sum := "a30234cd3afbb3ea4d7f57dabf97dd4366e6c58714363e3567963ee3c8a1f3f9", func := "loop.example/g01040/laws.FnDesigns", spec := "fnDesigns", unfollowed := true, recurses := true, plainKeys := false, apart := false }
def FnDesignsSaid : Prop := fnDesignsRow.holds Try.pinned (OpenSpec.ofChange fnDesignsSpec)

/-- ITS FALSE NEIGHBOUR: 'it returns false'. Refute it at one input. -/
def fnDesignsWrong : ChangeSpec := { name := "fnDesigns", fn := fun _ => fun
  | [d] => { results := [.lit (.bool false)], args := [d] }
  | _ => none }
def FnDesignsWrongFalsely : Prop := fnDesignsRow.holds Try.pinned (OpenSpec.ofChange fnDesignsWrong)

/- THE SECOND FORM. 'bulk': how many values and letters a reading holds, each counted each time it is reached (what is shared counts as often as it is met; a slice's spare places count too). A statement '..UptoSaid' is the law's where the arguments, and the package variables that the reading takes, are together of bulk at most 1048576: NARROWER than '..Said'. Prove '..Said' where nothing that the law and all that it calls make is longer than what came in: it says more and counts as full. Else prove '..UptoSaid'. A law counts once. -/
mutual
def uptoBulk {H : Type} : DataW H → Nat
  | .lit (.string bytes) => bytes.length + 1
  | .lit _ => 1
  | .nil => 1
  | .ptr d => uptoBulk d + 1
  | .slice elems spare => uptoBulkAll elems + uptoBulkAll spare + 1
  | .agg parts => uptoBulkAll parts + 1
  | .iface _ d => uptoBulk d + 1
  | .map entries => uptoBulkEntries entries + 1
  | .held _ => 1
def uptoBulkAll {H : Type} : List (DataW H) → Nat
  | [] => 0
  | d :: r => uptoBulk d + uptoBulkAll r
def uptoBulkEntries {H : Type} : List (Lit × DataW H) → Nat
  | [] => 0
  | x :: r => uptoBulkEntry x + uptoBulkEntries r
def uptoBulkEntry {H : Type} : Lit × DataW H → Nat
  | (.string bytes, d) => bytes.length + uptoBulk d + 1
  | (_, d) => uptoBulk d + 1
 end
def uptoSmall : (H : Type) → List (DataW H) → Bool := fun _ ds => decide (uptoBulkAll ds ≤ 1048576)
def OpenSpec.upto (s : _root_.Go.ChangeSpec) : _root_.Go.OpenSpec := { _root_.Go.OpenSpec.ofChange s with cond := some uptoSmall }

/-- 'laws.FnExactInfoBound', WHERE WHAT IT READS IS OF BULK AT MOST 1048576: true; the input reads as it did. -/
def fnExactInfoBoundUptoRow : OpenClaim := { program := "ytbkhmlkicafheaa", sum := "a30234cd3afbb3ea4d7f57dabf97dd4366e6c58714363e3567963ee3c8a1f3f9", func := "loop.example/g01040/laws.FnExactInfoBound", spec := "fnExactInfoBound", plainKeys := false, apart := false, narrowed := true }
def FnExactInfoBoundUptoSaid : Prop := fnExactInfoBoundUptoRow.holds Try.pinned (OpenSpec.upto fnExactInfoBoundSpec)

/-- 'laws.FnExactMostUnknown', WHERE WHAT IT READS IS OF BULK AT MOST 1048576: true; the input reads as it did. -/
def fnExactMostUnknownUptoRow : OpenClaim := { program := "ytbkhmlkicafheaa", sum := "a30234cd3afbb3ea4d7f57dabf97dd4366e6c58714363e3567963ee3c8a1f3f9", func := "loop.example/g01040/laws.FnExactMostUnknown", spec := "fnExactMostUnknown", plainKeys := false, apart := false, narrowed := true }
def FnExactMostUnknownUptoSaid : Prop := fnExactMostUnknownUptoRow.holds Try.pinned (OpenSpec.upto fnExactMostUnknownSpec)

/-- 'laws.FnExactWorstOutcome', WHERE WHAT IT READS IS OF BULK AT MOST 1048576: true; the input reads as it did. -/
def fnExactWorstOutcomeUptoRow : OpenClaim := { program := "ytbkhmlkicafheaa", sum := "a30234cd3afbb3ea4d7f57dabf97dd4366e6c58714363e3567963ee3c8a1f3f9", func := "loop.example/g01040/laws.FnExactWorstOutcome", spec := "fnExactWorstOutcome", unfollowed := true, recurses := true, plainKeys := false, apart := false, narrowed := true }
def FnExactWorstOutcomeUptoSaid : Prop := fnExactWorstOutcomeUptoRow.holds Try.pinned (OpenSpec.upto fnExactWorstOutcomeSpec)

/-- 'laws.FnExactPlayAgainst', WHERE WHAT IT READS IS OF BULK AT MOST 1048576: true; the input reads as it did. -/
def fnExactPlayAgainstUptoRow : OpenClaim := { program := "ytbkhmlkicafheaa", sum := "a30234cd3afbb3ea4d7f57dabf97dd4366e6c58714363e3567963ee3c8a1f3f9", func := "loop.example/g01040/laws.FnExactPlayAgainst", spec := "fnExactPlayAgainst", unfollowed := true, recurses := true, plainKeys := false, apart := false, narrowed := true }
def FnExactPlayAgainstUptoSaid : Prop := fnExactPlayAgainstUptoRow.holds Try.pinned (OpenSpec.upto fnExactPlayAgainstSpec)

/-- 'laws.FnExactCasesLeft', WHERE WHAT IT READS IS OF BULK AT MOST 1048576: true; the input reads as it did. -/
def fnExactCasesLeftUptoRow : OpenClaim := { program := "ytbkhmlkicafheaa", sum := "a30234cd3afbb3ea4d7f57dabf97dd4366e6c58714363e3567963ee3c8a1f3f9", func := "loop.example/g01040/laws.FnExactCasesLeft", spec := "fnExactCasesLeft", unfollowed := true, recurses := true, plainKeys := false, apart := false, narrowed := true }
def FnExactCasesLeftUptoSaid : Prop := fnExactCasesLeftUptoRow.holds Try.pinned (OpenSpec.upto fnExactCasesLeftSpec)

/-- 'laws.FnExactLostCases', WHERE WHAT IT READS IS OF BULK AT MOST 1048576: true; the input reads as it did. -/
def fnExactLostCasesUptoRow : OpenClaim := { program := "ytbkhmlkicafheaa", sum := "a30234cd3afbb3ea4d7f57dabf97dd4366e6c58714363e3567963ee3c8a1f3f9", func := "loop.example/g01040/laws.FnExactLostCases", spec := "fnExactLostCases", unfollowed := true, recurses := true, plainKeys := false, apart := false, narrowed := true }
def FnExactLostCasesUptoSaid : Prop := fnExactLostCasesUptoRow.holds Try.pinned (OpenSpec.upto fnExactLostCasesSpec)

/-- 'laws.FnFinds', WHERE WHAT IT READS IS OF BULK AT MOST 1048576: true; the input reads as it did. -/
def fnFindsUptoRow : OpenClaim := { program := "ytbkhmlkicafheaa", sum := "a30234cd3afbb3ea4d7f57dabf97dd4366e6c58714363e3567963ee3c8a1f3f9", func := "loop.example/g01040/laws.FnFinds", spec := "fnFinds", unfollowed := true, recurses := true, plainKeys := false, apart := false, narrowed := true }
def FnFindsUptoSaid : Prop := fnFindsUptoRow.holds Try.pinned (OpenSpec.upto fnFindsSpec)

/-- 'laws.FnEveryState', WHERE WHAT IT READS IS OF BULK AT MOST 1048576: true; the input reads as it did. -/
def fnEveryStateUptoRow : OpenClaim := { program := "ytbkhmlkicafheaa", sum := "a30234cd3afbb3ea4d7f57dabf97dd4366e6c58714363e3567963ee3c8a1f3f9", func := "loop.example/g01040/laws.FnEveryState", spec := "fnEveryState", unfollowed := true, recurses := true, plainKeys := false, apart := false, narrowed := true }
def FnEveryStateUptoSaid : Prop := fnEveryStateUptoRow.holds Try.pinned (OpenSpec.upto fnEveryStateSpec)

/-- 'laws.FnAdversaries', WHERE WHAT IT READS IS OF BULK AT MOST 1048576: true; the input reads as it did. -/
def fnAdversariesUptoRow : OpenClaim := { program := "ytbkhmlkicafheaa", sum := "a30234cd3afbb3ea4d7f57dabf97dd4366e6c58714363e3567963ee3c8a1f3f9", func := "loop.example/g01040/laws.FnAdversaries", spec := "fnAdversaries", unfollowed := true, recurses := true, plainKeys := false, apart := false, narrowed := true }
def FnAdversariesUptoSaid : Prop := fnAdversariesUptoRow.holds Try.pinned (OpenSpec.upto fnAdversariesSpec)

/-- 'laws.FnDesigns', WHERE WHAT IT READS IS OF BULK AT MOST 1048576: true; the input reads as it did. -/
def fnDesignsUptoRow : OpenClaim := { program := "ytbkhmlkicafheaa", sum := "a30234cd3afbb3ea4d7f57dabf97dd4366e6c58714363e3567963ee3c8a1f3f9", func := "loop.example/g01040/laws.FnDesigns", spec := "fnDesigns", unfollowed := true, recurses := true, plainKeys := false, apart := false, narrowed := true }
def FnDesignsUptoSaid : Prop := fnDesignsUptoRow.holds Try.pinned (OpenSpec.upto fnDesignsSpec)

end Rows
end Go.Proofs.Ytbkhmlkicafheaa
