/-
  No cell of these rows narrows 'for every input' (looked for: loops, veiled, ifaces, maps, wideKeys, modest, calm, conditions, laid).
  DERIVED. THE GIVEN ROWS OF THIS SEAT. 7 by the template 'for every input the law returns true; each argument reads behind the call as it read before'; 0 by the template 'total and deterministic' (their statements: YthfnbnjajcigeaaTotals.lean).
  GIVEN WITH THE SEED: the statements are not yours to turn. If you find one false, say at which input.
  Laid BY PROGRAM, IN A SANDBOX (cutbox-rows.mjs): the forced cells as the released guide's own fill.sh prints them over the translation 57e7c8039eae7b64… (all of the seat's roots in one cut). By AI agents, Wed Nov 11 2026. No macro, syntax, notation, axiom, sorry.
-/
import Derived.Test.YthfnbnjajcigeaaChecked
import GoSem.Claim
import GoSem.ClaimJoined
import GoSem.ClaimMapViews
import Derived.JoinedTies
import Derived.KernelRfl
namespace Go.Proofs.Ythfnbnjajcigeaa
/- THE CELL 'sum', in the pinned program and in every row, IS THE sha256 OF THE DUMP (.gsa) THAT YthfnbnjajcigeaaProg.lean LOADS. Nothing in Lean hashes anything: it is a label: what it is worth is what the hold of that sum in a sandbox is worth. -/
noncomputable def Try.pinned : Pinned := { name := "ythfnbnjajcigeaa", sum := "57e7c8039eae7b6401815478ea5935924ba7a405934fe2c17d47e40e4890f6da", checked := Try.checked }
namespace Rows
def none {H : Type} : Left H := { results := [], args := [] }

/-- 'laws.FnExactRoundsOk': WHATEVER THE INPUT: true; the input reads as it did. -/
def fnExactRoundsOkSpec : ChangeSpec := { name := "fnExactRoundsOk", fn := fun _ => fun
  | [d1, d2, d3, d4] => { results := [.lit (.bool true)], args := [d1, d2, d3, d4] }
  | _ => none }
def fnExactRoundsOkRow : OpenClaim := { program := "ythfnbnjajcigeaa", sum := "57e7c8039eae7b6401815478ea5935924ba7a405934fe2c17d47e40e4890f6da", func := "loop.example/g01040/laws.FnExactRoundsOk", spec := "fnExactRoundsOk", unfollowed := true, recurses := true, apart := false }
def FnExactRoundsOkSaid : Prop := fnExactRoundsOkRow.holds Try.pinned (OpenSpec.ofChange fnExactRoundsOkSpec)

/-- ITS FALSE NEIGHBOUR: 'it returns false'. Refute it at one input. -/
def fnExactRoundsOkWrong : ChangeSpec := { name := "fnExactRoundsOk", fn := fun _ => fun
  | [d1, d2, d3, d4] => { results := [.lit (.bool false)], args := [d1, d2, d3, d4] }
  | _ => none }
def FnExactRoundsOkWrongFalsely : Prop := fnExactRoundsOkRow.holds Try.pinned (OpenSpec.ofChange fnExactRoundsOkWrong)

/-- 'laws.FnExactGreedyRounds': WHATEVER THE INPUT: true; the input reads as it did. -/
def fnExactGreedyRoundsSpec : ChangeSpec := { name := "fnExactGreedyRounds", fn := fun _ => fun
  | [d1, d2, d3] => { results := [.lit (.bool true)], args := [d1, d2, d3] }
  | _ => none }
def fnExactGreedyRoundsRow : OpenClaim := { program := "ythfnbnjajcigeaa", sum := "57e7c8039eae7b6401815478ea5935924ba7a405934fe2c17d47e40e4890f6da", func := "loop.example/g01040/laws.FnExactGreedyRounds", spec := "fnExactGreedyRounds", unfollowed := true, recurses := true, apart := false }
def FnExactGreedyRoundsSaid : Prop := fnExactGreedyRoundsRow.holds Try.pinned (OpenSpec.ofChange fnExactGreedyRoundsSpec)

/-- ITS FALSE NEIGHBOUR: 'it returns false'. Refute it at one input. -/
def fnExactGreedyRoundsWrong : ChangeSpec := { name := "fnExactGreedyRounds", fn := fun _ => fun
  | [d1, d2, d3] => { results := [.lit (.bool false)], args := [d1, d2, d3] }
  | _ => none }
def FnExactGreedyRoundsWrongFalsely : Prop := fnExactGreedyRoundsRow.holds Try.pinned (OpenSpec.ofChange fnExactGreedyRoundsWrong)

/-- 'laws.FnExactUsesOf': WHATEVER THE INPUT: true; the input reads as it did. -/
def fnExactUsesOfSpec : ChangeSpec := { name := "fnExactUsesOf", fn := fun _ => fun
  | [d1, d2] => { results := [.lit (.bool true)], args := [d1, d2] }
  | _ => none }
def fnExactUsesOfRow : OpenClaim := { program := "ythfnbnjajcigeaa", sum := "57e7c8039eae7b6401815478ea5935924ba7a405934fe2c17d47e40e4890f6da", func := "loop.example/g01040/laws.FnExactUsesOf", spec := "fnExactUsesOf", unfollowed := true, recurses := true, apart := false }
def FnExactUsesOfSaid : Prop := fnExactUsesOfRow.holds Try.pinned (OpenSpec.ofChange fnExactUsesOfSpec)

/-- ITS FALSE NEIGHBOUR: 'it returns false'. Refute it at one input. -/
def fnExactUsesOfWrong : ChangeSpec := { name := "fnExactUsesOf", fn := fun _ => fun
  | [d1, d2] => { results := [.lit (.bool false)], args := [d1, d2] }
  | _ => none }
def FnExactUsesOfWrongFalsely : Prop := fnExactUsesOfRow.holds Try.pinned (OpenSpec.ofChange fnExactUsesOfWrong)

/-- 'laws.FnExactRoundBound': WHATEVER THE INPUT: true; the input reads as it did. -/
def fnExactRoundBoundSpec : ChangeSpec := { name := "fnExactRoundBound", fn := fun _ => fun
  | [d1, d2, d3] => { results := [.lit (.bool true)], args := [d1, d2, d3] }
  | _ => none }
def fnExactRoundBoundRow : OpenClaim := { program := "ythfnbnjajcigeaa", sum := "57e7c8039eae7b6401815478ea5935924ba7a405934fe2c17d47e40e4890f6da", func := "loop.example/g01040/laws.FnExactRoundBound", spec := "fnExactRoundBound", unfollowed := true, recurses := true, apart := false }
def FnExactRoundBoundSaid : Prop := fnExactRoundBoundRow.holds Try.pinned (OpenSpec.ofChange fnExactRoundBoundSpec)

/-- ITS FALSE NEIGHBOUR: 'it returns false'. Refute it at one input. -/
def fnExactRoundBoundWrong : ChangeSpec := { name := "fnExactRoundBound", fn := fun _ => fun
  | [d1, d2, d3] => { results := [.lit (.bool false)], args := [d1, d2, d3] }
  | _ => none }
def FnExactRoundBoundWrongFalsely : Prop := fnExactRoundBoundRow.holds Try.pinned (OpenSpec.ofChange fnExactRoundBoundWrong)

/-- 'laws.FnExactFewestRounds': WHATEVER THE INPUT: true; the input reads as it did. -/
def fnExactFewestRoundsSpec : ChangeSpec := { name := "fnExactFewestRounds", fn := fun _ => fun
  | [d1, d2, d3] => { results := [.lit (.bool true)], args := [d1, d2, d3] }
  | _ => none }
def fnExactFewestRoundsRow : OpenClaim := { program := "ythfnbnjajcigeaa", sum := "57e7c8039eae7b6401815478ea5935924ba7a405934fe2c17d47e40e4890f6da", func := "loop.example/g01040/laws.FnExactFewestRounds", spec := "fnExactFewestRounds", unfollowed := true, recurses := true, apart := false }
def FnExactFewestRoundsSaid : Prop := fnExactFewestRoundsRow.holds Try.pinned (OpenSpec.ofChange fnExactFewestRoundsSpec)

/-- ITS FALSE NEIGHBOUR: 'it returns false'. Refute it at one input. -/
def fnExactFewestRoundsWrong : ChangeSpec := { name := "fnExactFewestRounds", fn := fun _ => fun
  | [d1, d2, d3] => { results := [.lit (.bool false)], args := [d1, d2, d3] }
  | _ => none }
def FnExactFewestRoundsWrongFalsely : Prop := fnExactFewestRoundsRow.holds Try.pinned (OpenSpec.ofChange fnExactFewestRoundsWrong)

/-- 'laws.FnExactDaysFor': WHATEVER THE INPUT: true; the input reads as it did. -/
def fnExactDaysForSpec : ChangeSpec := { name := "fnExactDaysFor", fn := fun _ => fun
  | [d1, d2, d3, d4] => { results := [.lit (.bool true)], args := [d1, d2, d3, d4] }
  | _ => none }
def fnExactDaysForRow : OpenClaim := { program := "ythfnbnjajcigeaa", sum := "57e7c8039eae7b6401815478ea5935924ba7a405934fe2c17d47e40e4890f6da", func := "loop.example/g01040/laws.FnExactDaysFor", spec := "fnExactDaysFor", unfollowed := true, recurses := true, apart := false }
def FnExactDaysForSaid : Prop := fnExactDaysForRow.holds Try.pinned (OpenSpec.ofChange fnExactDaysForSpec)

/-- ITS FALSE NEIGHBOUR: 'it returns false'. Refute it at one input. -/
def fnExactDaysForWrong : ChangeSpec := { name := "fnExactDaysFor", fn := fun _ => fun
  | [d1, d2, d3, d4] => { results := [.lit (.bool false)], args := [d1, d2, d3, d4] }
  | _ => none }
def FnExactDaysForWrongFalsely : Prop := fnExactDaysForRow.holds Try.pinned (OpenSpec.ofChange fnExactDaysForWrong)

/-- 'laws.FnRounds': WHATEVER THE INPUT: true; the input reads as it did. -/
def fnRoundsSpec : ChangeSpec := { name := "fnRounds", fn := fun _ => fun
  | [d] => { results := [.lit (.bool true)], args := [d] }
  | _ => none }
def fnRoundsRow : OpenClaim := { program := "ythfnbnjajcigeaa", sum := "57e7c8039eae7b6401815478ea5935924ba7a405934fe2c17d47e40e4890f6da", func := "loop.example/g01040/laws.FnRounds", spec := "fnRounds", unfollowed := true, recurses := true, apart := false }
def FnRoundsSaid : Prop := fnRoundsRow.holds Try.pinned (OpenSpec.ofChange fnRoundsSpec)

/-- ITS FALSE NEIGHBOUR: 'it returns false'. Refute it at one input. -/
def fnRoundsWrong : ChangeSpec := { name := "fnRounds", fn := fun _ => fun
  | [d] => { results := [.lit (.bool false)], args := [d] }
  | _ => none }
def FnRoundsWrongFalsely : Prop := fnRoundsRow.holds Try.pinned (OpenSpec.ofChange fnRoundsWrong)

/- THE SECOND FORM. 'bulk': how many values and letters a reading holds, each counted each time it is reached (what is shared counts as often as it is met; a slice's spare places count too). A statement '..UptoSaid' is the law's where the arguments, and the package variables that the reading takes, are together of bulk at most 1048576: NARROWER than '..Said'. Prove '..Said' where nothing that the law and all that it calls make is longer than what came in: it says more and counts as full. Else prove '..UptoSaid'. A law counts once. -/
mutual
def uptoBulk {H : Type} : DataW H → Nat
  | .lit (.string bytes) => bytes.length + 1
  | .lit _ => 1
  | .nil => 1
  | .ptr d => uptoBulk d + 1
  | .slice elems spare => uptoBulkAll elems + uptoBulkAll spare + 1
  | .agg parts => uptoBulkAll parts + 1
  | .iface _ d => uptoBulk d + 1
  | .map entries => uptoBulkEntries entries + 1
  | .held _ => 1
def uptoBulkAll {H : Type} : List (DataW H) → Nat
  | [] => 0
  | d :: r => uptoBulk d + uptoBulkAll r
def uptoBulkEntries {H : Type} : List (Lit × DataW H) → Nat
  | [] => 0
  | x :: r => uptoBulkEntry x + uptoBulkEntries r
def uptoBulkEntry {H : Type} : Lit × DataW H → Nat
  | (.string bytes, d) => bytes.length + uptoBulk d + 1
  | (_, d) => uptoBulk d + 1
 end
def uptoSmall : (H : Type) → List (DataW H) → Bool := fun _ ds => decide (uptoBulkAll ds ≤ 1048576)
def OpenSpec.upto (s : _root_.Go.ChangeSpec) : _root_.Go.OpenSpec := { _root_.Go.OpenSpec.ofChange s with cond := some uptoSmall }

/-- 'laws.FnExactRoundsOk', WHERE WHAT IT READS IS OF BULK AT MOST 1048576: true; the input reads as it did. -/
def fnExactRoundsOkUptoRow : OpenClaim := { program := "ythfnbnjajcigeaa", sum := "57e7c8039eae7b6401815478ea5935924ba7a405934fe2c17d47e40e4890f6da", func := "loop.example/g01040/laws.FnExactRoundsOk", spec := "fnExactRoundsOk", unfollowed := true, recurses := true, apart := false, narrowed := true }
def FnExactRoundsOkUptoSaid : Prop := fnExactRoundsOkUptoRow.holds Try.pinned (OpenSpec.upto fnExactRoundsOkSpec)

/-- 'laws.FnExactGreedyRounds', WHERE WHAT IT READS IS OF BULK AT MOST 1048576: true; the input reads as it did. -/
def fnExactGreedyRoundsUptoRow : OpenClaim := { program := "ythfnbnjajcigeaa", sum := "57e7c8039eae7b6401815478ea5935924ba7a405934fe2c17d47e40e4890f6da", func := "loop.example/g01040/laws.FnExactGreedyRounds", spec := "fnExactGreedyRounds", unfollowed := true, recurses := true, apart := false, narrowed := true }
def FnExactGreedyRoundsUptoSaid : Prop := fnExactGreedyRoundsUptoRow.holds Try.pinned (OpenSpec.upto fnExactGreedyRoundsSpec)

/-- 'laws.FnExactUsesOf', WHERE WHAT IT READS IS OF BULK AT MOST 1048576: true; the input reads as it did. -/
def fnExactUsesOfUptoRow : OpenClaim := { program := "ythfnbnjajcigeaa", sum := "57e7c8039eae7b6401815478ea5935924ba7a405934fe2c17d47e40e4890f6da", func := "loop.example/g01040/laws.FnExactUsesOf", spec := "fnExactUsesOf", unfollowed := true, recurses := true, apart := false, narrowed := true }
def FnExactUsesOfUptoSaid : Prop := fnExactUsesOfUptoRow.holds Try.pinned (OpenSpec.upto fnExactUsesOfSpec)

/-- 'laws.FnExactRoundBound', WHERE WHAT IT READS IS OF BULK AT MOST 1048576: true; the input reads as it did. -/
def fnExactRoundBoundUptoRow : OpenClaim := { program := "ythfnbnjajcigeaa", sum := "57e7c8039eae7b6401815478ea5935924ba7a405934fe2c17d47e40e4890f6da", func := "loop.example/g01040/laws.FnExactRoundBound", spec := "fnExactRoundBound", unfollowed := true, recurses := true, apart := false, narrowed := true }
def FnExactRoundBoundUptoSaid : Prop := fnExactRoundBoundUptoRow.holds Try.pinned (OpenSpec.upto fnExactRoundBoundSpec)

/-- 'laws.FnExactFewestRounds', WHERE WHAT IT READS IS OF BULK AT MOST 1048576: true; the input reads as it did. -/
def fnExactFewestRoundsUptoRow : OpenClaim := { program := "ythfnbnjajcigeaa", sum := "57e7c8039eae7b6401815478ea5935924ba7a405934fe2c17d47e40e4890f6da", func := "loop.example/g01040/laws.FnExactFewestRounds", spec := "fnExactFewestRounds", unfollowed := true, recurses := true, apart := false, narrowed := true }
def FnExactFewestRoundsUptoSaid : Prop := fnExactFewestRoundsUptoRow.holds Try.pinned (OpenSpec.upto fnExactFewestRoundsSpec)

/-- 'laws.FnExactDaysFor', WHERE WHAT IT READS IS OF BULK AT MOST 1048576: true; the input reads as it did. -/
def fnExactDaysForUptoRow : OpenClaim := { program := "ythfnbnjajcigeaa", sum := "57e7c8039eae7b6401815478ea5935924ba7a405934fe2c17d47e40e4890f6da", func := "loop.example/g01040/laws.FnExactDaysFor", spec := "fnExactDaysFor", unfollowed := true, recurses := true, apart := false, narrowed := true }
def FnExactDaysForUptoSaid : Prop := fnExactDaysForUptoRow.holds Try.pinned (OpenSpec.upto fnExactDaysForSpec)

/-- 'laws.FnRounds', WHERE WHAT IT READS IS OF BULK AT MOST 1048576: true; the input reads as it did. -/
def fnRoundsUptoRow : OpenClaim := { program := "ythfnbnjajcigeaa", sum := "57e7c8039eae7b6401815478ea5935924ba7a405934fe2c17d47e40e4890f6da", func := "loop.example/g01040/laws.FnRounds", spec := "fnRounds", unfollowed := true, recurses := true, apart := false, narrowed := true }
def FnRoundsUptoSaid : Prop := fnRoundsUptoRow.holds Try.pinned (OpenSpec.upto fnRoundsSpec)

end Rows
end Go.Proofs.Ythfnbnjajcigeaa
