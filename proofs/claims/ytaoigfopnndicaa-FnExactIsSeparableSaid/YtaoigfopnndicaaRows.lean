/-
  No cell of these rows narrows 'for every input' (looked for: loops, veiled, ifaces, maps, wideKeys, modest, calm, conditions, laid).
  DERIVED. THE GIVEN ROWS OF THIS SEAT. 8 by the template 'for every input the law returns true; each argument reads behind the call as it read before'; 0 by the template 'total and deterministic' (their statements: YtaoigfopnndicaaTotals.lean).
  GIVEN WITH THE SEED: the statements are not yours to turn. If you find one false, say at which input.
  Laid BY PROGRAM, IN A SANDBOX (cutbox-rows.mjs): the forced cells as the released guide's own fill.sh prints them over the translation 51d5b02523d8a538… (all of the seat's roots in one cut). By AI agents, Wed Nov 11 2026. No macro, syntax, notation, axiom, sorry.
-/
import Derived.Test.YtaoigfopnndicaaChecked
import GoSem.Claim
import GoSem.ClaimJoined
import GoSem.ClaimMapViews
import Derived.JoinedTies
import Derived.KernelRfl
namespace Go.Proofs.Ytaoigfopnndicaa
/- THE CELL 'sum', in the pinned program and in every row, IS THE sha256 OF THE DUMP (.gsa) THAT YtaoigfopnndicaaProg.lean LOADS. Nothing in Lean hashes anything: it is a label: what it is worth is what the hold of that sum in a sandbox is worth. -/
noncomputable def Try.pinned : Pinned := { name := "ytaoigfopnndicaa", sum := "51d5b02523d8a538c2e0e526c34234986497d17a8878b8294631f0e09dd0502d", checked := Try.checked }
namespace Rows
def none {H : Type} : Left H := { results := [], args := [] }

/-- 'laws.FnBits': WHATEVER THE INPUT: true; the input reads as it did. -/
def fnBitsSpec : ChangeSpec := { name := "fnBits", fn := fun _ => fun
  | [d] => { results := [.lit (.bool true)], args := [d] }
  | _ => none }
def fnBitsRow : OpenClaim := { program := "ytaoigfopnndicaa", sum := "51d5b02523d8a538c2e0e526c34234986497d17a8878b8294631f0e09dd0502d", func := "loop.example/g01040/laws.FnBits", spec := "fnBits", unfollowed := true, recurses := true, leaving := true, apart := false }
def FnBitsSaid : Prop := fnBitsRow.holds Try.pinned (OpenSpec.ofChange fnBitsSpec)

/-- ITS FALSE NEIGHBOUR: 'it returns false'. Refute it at one input. -/
def fnBitsWrong : ChangeSpec := { name := "fnBits", fn := fun _ => fun
  | [d] => { results := [.lit (.bool false)], args := [d] }
  | _ => none }
def FnBitsWrongFalsely : Prop := fnBitsRow.holds Try.pinned (OpenSpec.ofChange fnBitsWrong)

/-- 'laws.FnExactIsDisjunct': WHATEVER THE INPUT: true; the input reads as it did. -/
def fnExactIsDisjunctSpec : ChangeSpec := { name := "fnExactIsDisjunct", fn := fun _ => fun
  | [d1, d2, d3] => { results := [.lit (.bool true)], args := [d1, d2, d3] }
  | _ => none }
def fnExactIsDisjunctRow : OpenClaim := { program := "ytaoigfopnndicaa", sum := "51d5b02523d8a538c2e0e526c34234986497d17a8878b8294631f0e09dd0502d", func := "loop.example/g01040/laws.FnExactIsDisjunct", spec := "fnExactIsDisjunct", unfollowed := true, recurses := true, leaving := true, apart := false }
def FnExactIsDisjunctSaid : Prop := fnExactIsDisjunctRow.holds Try.pinned (OpenSpec.ofChange fnExactIsDisjunctSpec)

/-- ITS FALSE NEIGHBOUR: 'it returns false'. Refute it at one input. -/
def fnExactIsDisjunctWrong : ChangeSpec := { name := "fnExactIsDisjunct", fn := fun _ => fun
  | [d1, d2, d3] => { results := [.lit (.bool false)], args := [d1, d2, d3] }
  | _ => none }
def FnExactIsDisjunctWrongFalsely : Prop := fnExactIsDisjunctRow.holds Try.pinned (OpenSpec.ofChange fnExactIsDisjunctWrong)

/-- 'laws.FnExactWeakness': WHATEVER THE INPUT: true; the input reads as it did. -/
def fnExactWeaknessSpec : ChangeSpec := { name := "fnExactWeakness", fn := fun _ => fun
  | [d1, d2, d3] => { results := [.lit (.bool true)], args := [d1, d2, d3] }
  | _ => none }
def fnExactWeaknessRow : OpenClaim := { program := "ytaoigfopnndicaa", sum := "51d5b02523d8a538c2e0e526c34234986497d17a8878b8294631f0e09dd0502d", func := "loop.example/g01040/laws.FnExactWeakness", spec := "fnExactWeakness", unfollowed := true, recurses := true, leaving := true, apart := false }
def FnExactWeaknessSaid : Prop := fnExactWeaknessRow.holds Try.pinned (OpenSpec.ofChange fnExactWeaknessSpec)

/-- ITS FALSE NEIGHBOUR: 'it returns false'. Refute it at one input. -/
def fnExactWeaknessWrong : ChangeSpec := { name := "fnExactWeakness", fn := fun _ => fun
  | [d1, d2, d3] => { results := [.lit (.bool false)], args := [d1, d2, d3] }
  | _ => none }
def FnExactWeaknessWrongFalsely : Prop := fnExactWeaknessRow.holds Try.pinned (OpenSpec.ofChange fnExactWeaknessWrong)

/-- 'laws.FnExactIsSeparable': WHATEVER THE INPUT: true; the input reads as it did. -/
def fnExactIsSeparableSpec : ChangeSpec := { name := "fnExactIsSeparable", fn := fun _ => fun
  | [d1, d2, d3] => { results := [.lit (.bool true)], args := [d1, d2, d3] }
  | _ => none }
def fnExactIsSeparableRow : OpenClaim := { program := "ytaoigfopnndicaa", sum := "51d5b02523d8a538c2e0e526c34234986497d17a8878b8294631f0e09dd0502d", func := "loop.example/g01040/laws.FnExactIsSeparable", spec := "fnExactIsSeparable", unfollowed := true, recurses := true, leaving := true, apart := false }
def FnExactIsSeparableSaid : Prop := fnExactIsSeparableRow.holds Try.pinned (OpenSpec.ofChange fnExactIsSeparableSpec)

/-- ITS FALSE NEIGHBOUR: 'it returns false'. Refute it at one input. -/
def fnExactIsSeparableWrong : ChangeSpec := { name := "fnExactIsSeparable", fn := fun _ => fun
  | [d1, d2, d3] => { results := [.lit (.bool false)], args := [d1, d2, d3] }
  | _ => none }
def FnExactIsSeparableWrongFalsely : Prop := fnExactIsSeparableRow.holds Try.pinned (OpenSpec.ofChange fnExactIsSeparableWrong)

/-- 'laws.FnExactBitPools': WHATEVER THE INPUT: true; the input reads as it did. -/
def fnExactBitPoolsSpec : ChangeSpec := { name := "fnExactBitPools", fn := fun _ => fun
  | [d] => { results := [.lit (.bool true)], args := [d] }
  | _ => none }
def fnExactBitPoolsRow : OpenClaim := { program := "ytaoigfopnndicaa", sum := "51d5b02523d8a538c2e0e526c34234986497d17a8878b8294631f0e09dd0502d", func := "loop.example/g01040/laws.FnExactBitPools", spec := "fnExactBitPools", apart := false }
def FnExactBitPoolsSaid : Prop := fnExactBitPoolsRow.holds Try.pinned (OpenSpec.ofChange fnExactBitPoolsSpec)

/-- ITS FALSE NEIGHBOUR: 'it returns false'. Refute it at one input. -/
def fnExactBitPoolsWrong : ChangeSpec := { name := "fnExactBitPools", fn := fun _ => fun
  | [d] => { results := [.lit (.bool false)], args := [d] }
  | _ => none }
def FnExactBitPoolsWrongFalsely : Prop := fnExactBitPoolsRow.holds Try.pinned (OpenSpec.ofChange fnExactBitPoolsWrong)

/-- 'laws.FnExactSinglePools': WHATEVER THE INPUT: true; the input reads as it did. -/
def fnExactSinglePoolsSpec : ChangeSpec := { name := "fnExactSinglePools", fn := fun _ => fun
  | [d] => { results := [.lit (.bool true)], args := [d] }
  | _ => none }
def fnExactSinglePoolsRow : OpenClaim := { program := "ytaoigfopnndicaa", sum := "51d5b02523d8a538c2e0e526c34234986497d17a8878b8294631f0e09dd0502d", func := "loop.example/g01040/laws.FnExactSinglePools", spec := "fnExactSinglePools", unfollowed := true, recurses := true, leaving := true, apart := false }
def FnExactSinglePoolsSaid : Prop := fnExactSinglePoolsRow.holds Try.pinned (OpenSpec.ofChange fnExactSinglePoolsSpec)

/-- ITS FALSE NEIGHBOUR: 'it returns false'. Refute it at one input. -/
def fnExactSinglePoolsWrong : ChangeSpec := { name := "fnExactSinglePools", fn := fun _ => fun
  | [d] => { results := [.lit (.bool false)], args := [d] }
  | _ => none }
def FnExactSinglePoolsWrongFalsely : Prop := fnExactSinglePoolsRow.holds Try.pinned (OpenSpec.ofChange fnExactSinglePoolsWrong)

/-- 'laws.FnExactDecodeItems': WHATEVER THE INPUT: true; the input reads as it did. -/
def fnExactDecodeItemsSpec : ChangeSpec := { name := "fnExactDecodeItems", fn := fun _ => fun
  | [d1, d2, d3] => { results := [.lit (.bool true)], args := [d1, d2, d3] }
  | _ => none }
def fnExactDecodeItemsRow : OpenClaim := { program := "ytaoigfopnndicaa", sum := "51d5b02523d8a538c2e0e526c34234986497d17a8878b8294631f0e09dd0502d", func := "loop.example/g01040/laws.FnExactDecodeItems", spec := "fnExactDecodeItems", unfollowed := true, recurses := true, leaving := true, apart := false }
def FnExactDecodeItemsSaid : Prop := fnExactDecodeItemsRow.holds Try.pinned (OpenSpec.ofChange fnExactDecodeItemsSpec)

/-- ITS FALSE NEIGHBOUR: 'it returns false'. Refute it at one input. -/
def fnExactDecodeItemsWrong : ChangeSpec := { name := "fnExactDecodeItems", fn := fun _ => fun
  | [d1, d2, d3] => { results := [.lit (.bool false)], args := [d1, d2, d3] }
  | _ => none }
def FnExactDecodeItemsWrongFalsely : Prop := fnExactDecodeItemsRow.holds Try.pinned (OpenSpec.ofChange fnExactDecodeItemsWrong)

/-- 'laws.FnExactFewestPools': WHATEVER THE INPUT: true; the input reads as it did. -/
def fnExactFewestPoolsSpec : ChangeSpec := { name := "fnExactFewestPools", fn := fun _ => fun
  | [d1, d2] => { results := [.lit (.bool true)], args := [d1, d2] }
  | _ => none }
def fnExactFewestPoolsRow : OpenClaim := { program := "ytaoigfopnndicaa", sum := "51d5b02523d8a538c2e0e526c34234986497d17a8878b8294631f0e09dd0502d", func := "loop.example/g01040/laws.FnExactFewestPools", spec := "fnExactFewestPools", unfollowed := true, recurses := true, leaving := true, apart := false }
def FnExactFewestPoolsSaid : Prop := fnExactFewestPoolsRow.holds Try.pinned (OpenSpec.ofChange fnExactFewestPoolsSpec)

/-- ITS FALSE NEIGHBOUR: 'it returns false'. Refute it at one input. -/
def fnExactFewestPoolsWrong : ChangeSpec := { name := "fnExactFewestPools", fn := fun _ => fun
  | [d1, d2] => { results := [.lit (.bool false)], args := [d1, d2] }
  | _ => none }
def FnExactFewestPoolsWrongFalsely : Prop := fnExactFewestPoolsRow.holds Try.pinned (OpenSpec.ofChange fnExactFewestPoolsWrong)

/- THE SECOND FORM. 'bulk': how many values and letters a reading holds, each counted each time it is reached (what is shared counts as often as it is met; a slice's spare places count too). A statement '..UptoSaid' is the law's where the arguments, and the package variables that the reading takes, are together of bulk at most 1048576: NARROWER than '..Said'. Prove '..Said' where nothing that the law and all that it calls make is longer than what came in: it says more and counts as full. Else prove '..UptoSaid'. A law counts once. -/
mutual
def uptoBulk {H : Type} : DataW H → Nat
  | .lit (.string bytes) => bytes.length + 1
  | .lit _ => 1
  | .nil => 1
  | .ptr d => uptoBulk d + 1
  | .slice elems spare => uptoBulkAll elems + uptoBulkAll spare + 1
  | .agg parts => uptoBulkAll parts + 1
  | .iface _ d => uptoBulk d + 1
  | .map entries => uptoBulkEntries entries + 1
  | .held _ => 1
def uptoBulkAll {H : Type} : List (DataW H) → Nat
  | [] => 0
  | d :: r => uptoBulk d + uptoBulkAll r
def uptoBulkEntries {H : Type} : List (Lit × DataW H) → Nat
  | [] => 0
  | x :: r => uptoBulkEntry x + uptoBulkEntries r
def uptoBulkEntry {H : Type} : Lit × DataW H → Nat
  | (.string bytes, d) => bytes.length + uptoBulk d + 1
  | (_, d) => uptoBulk d + 1
 end
def uptoSmall : (H : Type) → List (DataW H) → Bool := fun _ ds => decide (uptoBulkAll ds ≤ 1048576)
def OpenSpec.upto (s : _root_.Go.ChangeSpec) : _root_.Go.OpenSpec := { _root_.Go.OpenSpec.ofChange s with cond := some uptoSmall }

/-- 'laws.FnBits', WHERE WHAT IT READS IS OF BULK AT MOST 1048576: true; the input reads as it did. -/
def fnBitsUptoRow : OpenClaim := { program := "ytaoigfopnndicaa", sum := "51d5b02523d8a538c2e0e526c34234986497d17a8878b8294631f0e09dd0502d", func := "loop.example/g01040/laws.FnBits", spec := "fnBits", unfollowed := true, recurses := true, leaving := true, apart := false, narrowed := true }
def FnBitsUptoSaid : Prop := fnBitsUptoRow.holds Try.pinned (OpenSpec.upto fnBitsSpec)

/-- 'laws.FnExactIsDisjunct', WHERE WHAT IT READS IS OF BULK AT MOST 1048576: true; the input reads as it did. -/
def fnExactIsDisjunctUptoRow : OpenClaim := { program := "ytaoigfopnndicaa", sum := "51d5b02523d8a538c2e0e526c34234986497d17a8878b8294631f0e09dd0502d", func := "loop.example/g01040/laws.FnExactIsDisjunct", spec := "fnExactIsDisjunct", unfollowed := true, recurses := true, leaving := true, apart := false, narrowed := true }
def FnExactIsDisjunctUptoSaid : Prop := fnExactIsDisjunctUptoRow.holds Try.pinned (OpenSpec.upto fnExactIsDisjunctSpec)

/-- 'laws.FnExactWeakness', WHERE WHAT IT READS IS OF BULK AT MOST 1048576: true; the input reads as it did. -/
def fnExactWeaknessUptoRow : OpenClaim := { program := "ytaoigfopnndicaa", sum := "51d5b02523d8a538c2e0e526c34234986497d17a8878b8294631f0e09dd0502d", func := "loop.example/g01040/laws.FnExactWeakness", spec := "fnExactWeakness", unfollowed := true, recurses := true, leaving := true, apart := false, narrowed := true }
def FnExactWeaknessUptoSaid : Prop := fnExactWeaknessUptoRow.holds Try.pinned (OpenSpec.upto fnExactWeaknessSpec)

/-- 'laws.FnExactIsSeparable', WHERE WHAT IT READS IS OF BULK AT MOST 1048576: true; the input reads as it did. -/
def fnExactIsSeparableUptoRow : OpenClaim := { program := "ytaoigfopnndicaa", sum := "51d5b02523d8a538c2e0e526c34234986497d17a8878b8294631f0e09dd0502d", func := "loop.example/g01040/laws.FnExactIsSeparable", spec := "fnExactIsSeparable", unfollowed := true, recurses := true, leaving := true, apart := false, narrowed := true }
def FnExactIsSeparableUptoSaid : Prop := fnExactIsSeparableUptoRow.holds Try.pinned (OpenSpec.upto fnExactIsSeparableSpec)

/-- 'laws.FnExactBitPools', WHERE WHAT IT READS IS OF BULK AT MOST 1048576: true; the input reads as it did. -/
def fnExactBitPoolsUptoRow : OpenClaim := { program := "ytaoigfopnndicaa", sum := "51d5b02523d8a538c2e0e526c34234986497d17a8878b8294631f0e09dd0502d", func := "loop.example/g01040/laws.FnExactBitPools", spec := "fnExactBitPools", apart := false, narrowed := true }
def FnExactBitPoolsUptoSaid : Prop := fnExactBitPoolsUptoRow.holds Try.pinned (OpenSpec.upto fnExactBitPoolsSpec)

/-- 'laws.FnExactSinglePools', WHERE WHAT IT READS IS OF BULK AT MOST 1048576: true; the input reads as it did. -/
def fnExactSinglePoolsUptoRow : OpenClaim := { program := "ytaoigfopnndicaa", sum := "51d5b02523d8a538c2e0e526c34234986497d17a8878b8294631f0e09dd0502d", func := "loop.example/g01040/laws.FnExactSinglePools", spec := "fnExactSinglePools", unfollowed := true, recurses := true, leaving := true, apart := false, narrowed := true }
def FnExactSinglePoolsUptoSaid : Prop := fnExactSinglePoolsUptoRow.holds Try.pinned (OpenSpec.upto fnExactSinglePoolsSpec)

/-- 'laws.FnExactDecodeItems', WHERE WHAT IT READS IS OF BULK AT MOST 1048576: true; the input reads as it did. -/
def fnExactDecodeItemsUptoRow : OpenClaim := { program := "ytaoigfopnndicaa", sum := "51d5b02523d8a538c2e0e526c34234986497d17a8878b8294631f0e09dd0502d", func := "loop.example/g01040/laws.FnExactDecodeItems", spec := "fnExactDecodeItems", unfollowed := true, recurses := true, leaving := true, apart := false, narrowed := true }
def FnExactDecodeItemsUptoSaid : Prop := fnExactDecodeItemsUptoRow.holds Try.pinned (OpenSpec.upto fnExactDecodeItemsSpec)

/-- 'laws.FnExactFewestPools', WHERE WHAT IT READS IS OF BULK AT MOST 1048576: true; the input reads as it did. -/
def fnExactFewestPoolsUptoRow : OpenClaim := { program := "ytaoigfopnndicaa", sum := "51d5b02523d8a538c2e0e526c34234986497d17a8878b8294631f0e09dd0502d", func := "loop.example/g01040/laws.FnExactFewestPools", spec := "fnExactFewestPools", unfollowed := true, recurses := true, leaving := true, apart := false, narrowed := true }
def FnExactFewestPoolsUptoSaid : Prop := fnExactFewestPoolsUptoRow.holds Try.pinned (OpenSpec.upto fnExactFewestPoolsSpec)

end Rows
end Go.Proofs.Ytaoigfopnndicaa
