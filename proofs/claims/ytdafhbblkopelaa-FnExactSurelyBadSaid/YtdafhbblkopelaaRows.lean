/-
  No cell of these rows narrows 'for every input' (looked for: loops, veiled, ifaces, maps, wideKeys, modest, calm, conditions, laid).
  DERIVED. THE GIVEN ROWS OF THIS SEAT. 6 by the template 'for every input the law returns true; each argument reads behind the call as it read before'; 0 by the template 'total and deterministic' (their statements: YtdafhbblkopelaaTotals.lean).
  GIVEN WITH THE SEED: the statements are not yours to turn. If you find one false, say at which input.
  Laid BY PROGRAM, IN A SANDBOX (cutbox-rows.mjs): the forced cells as the released guide's own fill.sh prints them over the translation 265c089fd7e2ce61… (all of the seat's roots in one cut). By AI agents, Wed Nov 11 2026. No macro, syntax, notation, axiom, sorry.
-/
import Derived.Test.YtdafhbblkopelaaChecked
import GoSem.Claim
import GoSem.ClaimJoined
import GoSem.ClaimMapViews
import Derived.JoinedTies
import Derived.KernelRfl
namespace Go.Proofs.Ytdafhbblkopelaa
/- THE CELL 'sum', in the pinned program and in every row, IS THE sha256 OF THE DUMP (.gsa) THAT YtdafhbblkopelaaProg.lean LOADS. Nothing in Lean hashes anything: it is a label: what it is worth is what the hold of that sum in a sandbox is worth. -/
noncomputable def Try.pinned : Pinned := { name := "ytdafhbblkopelaa", sum := "265c089fd7e2ce61ddf90a1ddaaa4f1de5e2b23e414509fb8d12f81668462987", checked := Try.checked }
namespace Rows
def none {H : Type} : Left H := { results := [], args := [] }

/-- 'laws.FnExactPoolsOk': WHATEVER THE INPUT: true; the input reads as it did. -/
def fnExactPoolsOkSpec : ChangeSpec := { name := "fnExactPoolsOk", fn := fun _ => fun
  | [d1, d2] => { results := [.lit (.bool true)], args := [d1, d2] }
  | _ => none }
def fnExactPoolsOkRow : OpenClaim := { program := "ytdafhbblkopelaa", sum := "265c089fd7e2ce61ddf90a1ddaaa4f1de5e2b23e414509fb8d12f81668462987", func := "loop.example/g01040/laws.FnExactPoolsOk", spec := "fnExactPoolsOk", apart := false }
def FnExactPoolsOkSaid : Prop := fnExactPoolsOkRow.holds Try.pinned (OpenSpec.ofChange fnExactPoolsOkSpec)

/-- ITS FALSE NEIGHBOUR: 'it returns false'. Refute it at one input. -/
def fnExactPoolsOkWrong : ChangeSpec := { name := "fnExactPoolsOk", fn := fun _ => fun
  | [d1, d2] => { results := [.lit (.bool false)], args := [d1, d2] }
  | _ => none }
def FnExactPoolsOkWrongFalsely : Prop := fnExactPoolsOkRow.holds Try.pinned (OpenSpec.ofChange fnExactPoolsOkWrong)

/-- 'laws.FnExactTestPools': WHATEVER THE INPUT: true; the input reads as it did. -/
def fnExactTestPoolsSpec : ChangeSpec := { name := "fnExactTestPools", fn := fun _ => fun
  | [d1, d2, d3] => { results := [.lit (.bool true)], args := [d1, d2, d3] }
  | _ => none }
def fnExactTestPoolsRow : OpenClaim := { program := "ytdafhbblkopelaa", sum := "265c089fd7e2ce61ddf90a1ddaaa4f1de5e2b23e414509fb8d12f81668462987", func := "loop.example/g01040/laws.FnExactTestPools", spec := "fnExactTestPools", unfollowed := true, recurses := true, apart := false }
def FnExactTestPoolsSaid : Prop := fnExactTestPoolsRow.holds Try.pinned (OpenSpec.ofChange fnExactTestPoolsSpec)

/-- ITS FALSE NEIGHBOUR: 'it returns false'. Refute it at one input. -/
def fnExactTestPoolsWrong : ChangeSpec := { name := "fnExactTestPools", fn := fun _ => fun
  | [d1, d2, d3] => { results := [.lit (.bool false)], args := [d1, d2, d3] }
  | _ => none }
def FnExactTestPoolsWrongFalsely : Prop := fnExactTestPoolsRow.holds Try.pinned (OpenSpec.ofChange fnExactTestPoolsWrong)

/-- 'laws.FnExactCountItems': WHATEVER THE INPUT: true; the input reads as it did. -/
def fnExactCountItemsSpec : ChangeSpec := { name := "fnExactCountItems", fn := fun _ => fun
  | [d] => { results := [.lit (.bool true)], args := [d] }
  | _ => none }
def fnExactCountItemsRow : OpenClaim := { program := "ytdafhbblkopelaa", sum := "265c089fd7e2ce61ddf90a1ddaaa4f1de5e2b23e414509fb8d12f81668462987", func := "loop.example/g01040/laws.FnExactCountItems", spec := "fnExactCountItems", unfollowed := true, recurses := true, apart := false }
def FnExactCountItemsSaid : Prop := fnExactCountItemsRow.holds Try.pinned (OpenSpec.ofChange fnExactCountItemsSpec)

/-- ITS FALSE NEIGHBOUR: 'it returns false'. Refute it at one input. -/
def fnExactCountItemsWrong : ChangeSpec := { name := "fnExactCountItems", fn := fun _ => fun
  | [d] => { results := [.lit (.bool false)], args := [d] }
  | _ => none }
def FnExactCountItemsWrongFalsely : Prop := fnExactCountItemsRow.holds Try.pinned (OpenSpec.ofChange fnExactCountItemsWrong)

/-- 'laws.FnExactConsistentSets': WHATEVER THE INPUT: true; the input reads as it did. -/
def fnExactConsistentSetsSpec : ChangeSpec := { name := "fnExactConsistentSets", fn := fun _ => fun
  | [d1, d2, d3, d4] => { results := [.lit (.bool true)], args := [d1, d2, d3, d4] }
  | _ => none }
def fnExactConsistentSetsRow : OpenClaim := { program := "ytdafhbblkopelaa", sum := "265c089fd7e2ce61ddf90a1ddaaa4f1de5e2b23e414509fb8d12f81668462987", func := "loop.example/g01040/laws.FnExactConsistentSets", spec := "fnExactConsistentSets", unfollowed := true, recurses := true, apart := false }
def FnExactConsistentSetsSaid : Prop := fnExactConsistentSetsRow.holds Try.pinned (OpenSpec.ofChange fnExactConsistentSetsSpec)

/-- ITS FALSE NEIGHBOUR: 'it returns false'. Refute it at one input. -/
def fnExactConsistentSetsWrong : ChangeSpec := { name := "fnExactConsistentSets", fn := fun _ => fun
  | [d1, d2, d3, d4] => { results := [.lit (.bool false)], args := [d1, d2, d3, d4] }
  | _ => none }
def FnExactConsistentSetsWrongFalsely : Prop := fnExactConsistentSetsRow.holds Try.pinned (OpenSpec.ofChange fnExactConsistentSetsWrong)

/-- 'laws.FnExactSurelyGood': WHATEVER THE INPUT: true; the input reads as it did. -/
def fnExactSurelyGoodSpec : ChangeSpec := { name := "fnExactSurelyGood", fn := fun _ => fun
  | [d1, d2, d3] => { results := [.lit (.bool true)], args := [d1, d2, d3] }
  | _ => none }
def fnExactSurelyGoodRow : OpenClaim := { program := "ytdafhbblkopelaa", sum := "265c089fd7e2ce61ddf90a1ddaaa4f1de5e2b23e414509fb8d12f81668462987", func := "loop.example/g01040/laws.FnExactSurelyGood", spec := "fnExactSurelyGood", apart := false }
def FnExactSurelyGoodSaid : Prop := fnExactSurelyGoodRow.holds Try.pinned (OpenSpec.ofChange fnExactSurelyGoodSpec)

/-- ITS FALSE NEIGHBOUR: 'it returns false'. Refute it at one input. -/
def fnExactSurelyGoodWrong : ChangeSpec := { name := "fnExactSurelyGood", fn := fun _ => fun
  | [d1, d2, d3] => { results := [.lit (.bool false)], args := [d1, d2, d3] }
  | _ => none }
def FnExactSurelyGoodWrongFalsely : Prop := fnExactSurelyGoodRow.holds Try.pinned (OpenSpec.ofChange fnExactSurelyGoodWrong)

/-- 'laws.FnExactSurelyBad': WHATEVER THE INPUT: true; the input reads as it did. -/
def fnExactSurelyBadSpec : ChangeSpec := { name := "fnExactSurelyBad", fn := fun _ => fun
  | [d1, d2, d3] => { results := [.lit (.bool true)], args := [d1, d2, d3] }
  | _ => none }
def fnExactSurelyBadRow : OpenClaim := { program := "ytdafhbblkopelaa", sum := "265c089fd7e2ce61ddf90a1ddaaa4f1de5e2b23e414509fb8d12f81668462987", func := "loop.example/g01040/laws.FnExactSurelyBad", spec := "fnExactSurelyBad", unfollowed := true, recurses := true, apart := false }
def FnExactSurelyBadSaid : Prop := fnExactSurelyBadRow.holds Try.pinned (OpenSpec.ofChange fnExactSurelyBadSpec)

/-- ITS FALSE NEIGHBOUR: 'it returns false'. Refute it at one input. -/
def fnExactSurelyBadWrong : ChangeSpec := { name := "fnExactSurelyBad", fn := fun _ => fun
  | [d1, d2, d3] => { results := [.lit (.bool false)], args := [d1, d2, d3] }
  | _ => none }
def FnExactSurelyBadWrongFalsely : Prop := fnExactSurelyBadRow.holds Try.pinned (OpenSpec.ofChange fnExactSurelyBadWrong)

/- THE SECOND FORM. 'bulk': how many values and letters a reading holds, each counted each time it is reached (what is shared counts as often as it is met; a slice's spare places count too). A statement '..UptoSaid' is the law's where the arguments, and the package variables that the reading takes, are together of bulk at most 1048576: NARROWER than '..Said'. Prove '..Said' where nothing that the law and all that it calls make is longer than what came in: it says more and counts as full. Else prove '..UptoSaid'. A law counts once. -/
mutual
def uptoBulk {H : Type} : DataW H → Nat
  | .lit (.string bytes) => bytes.length + 1
  | .lit _ => 1
  | .nil => 1
  | .ptr d => uptoBulk d + 1
  | .slice elems spare => uptoBulkAll elems + uptoBulkAll spare + 1
  | .agg parts => uptoBulkAll parts + 1
  | .iface _ d => uptoBulk d + 1
  | .map entries => uptoBulkEntries entries + 1
  | .held _ => 1
def uptoBulkAll {H : Type} : List (DataW H) → Nat
  | [] => 0
  | d :: r => uptoBulk d + uptoBulkAll r
def uptoBulkEntries {H : Type} : List (Lit × DataW H) → Nat
  | [] => 0
  | x :: r => uptoBulkEntry x + uptoBulkEntries r
def uptoBulkEntry {H : Type} : Lit × DataW H → Nat
  | (.string bytes, d) => bytes.length + uptoBulk d + 1
  | (_, d) => uptoBulk d + 1
 end
def uptoSmall : (H : Type) → List (DataW H) → Bool := fun _ ds => decide (uptoBulkAll ds ≤ 1048576)
def OpenSpec.upto (s : _root_.Go.ChangeSpec) : _root_.Go.OpenSpec := { _root_.Go.OpenSpec.ofChange s with cond := some uptoSmall }

/-- 'laws.FnExactPoolsOk', WHERE WHAT IT READS IS OF BULK AT MOST 1048576: true; the input reads as it did. -/
def fnExactPoolsOkUptoRow : OpenClaim := { program := "ytdafhbblkopelaa", sum := "265c089fd7e2ce61ddf90a1ddaaa4f1de5e2b23e414509fb8d12f81668462987", func := "loop.example/g01040/laws.FnExactPoolsOk", spec := "fnExactPoolsOk", apart := false, narrowed := true }
def FnExactPoolsOkUptoSaid : Prop := fnExactPoolsOkUptoRow.holds Try.pinned (OpenSpec.upto fnExactPoolsOkSpec)

/-- 'laws.FnExactTestPools', WHERE WHAT IT READS IS OF BULK AT MOST 1048576: true; the input reads as it did. -/
def fnExactTestPoolsUptoRow : OpenClaim := { program := "ytdafhbblkopelaa", sum := "265c089fd7e2ce61ddf90a1ddaaa4f1de5e2b23e414509fb8d12f81668462987", func := "loop.example/g01040/laws.FnExactTestPools", spec := "fnExactTestPools", unfollowed := true, recurses := true, apart := false, narrowed := true }
def FnExactTestPoolsUptoSaid : Prop := fnExactTestPoolsUptoRow.holds Try.pinned (OpenSpec.upto fnExactTestPoolsSpec)

/-- 'laws.FnExactCountItems', WHERE WHAT IT READS IS OF BULK AT MOST 1048576: true; the input reads as it did. -/
def fnExactCountItemsUptoRow : OpenClaim := { program := "ytdafhbblkopelaa", sum := "265c089fd7e2ce61ddf90a1ddaaa4f1de5e2b23e414509fb8d12f81668462987", func := "loop.example/g01040/laws.FnExactCountItems", spec := "fnExactCountItems", unfollowed := true, recurses := true, apart := false, narrowed := true }
def FnExactCountItemsUptoSaid : Prop := fnExactCountItemsUptoRow.holds Try.pinned (OpenSpec.upto fnExactCountItemsSpec)

/-- 'laws.FnExactConsistentSets', WHERE WHAT IT READS IS OF BULK AT MOST 1048576: true; the input reads as it did. -/
def fnExactConsistentSetsUptoRow : OpenClaim := { program := "ytdafhbblkopelaa", sum := "265c089fd7e2ce61ddf90a1ddaaa4f1de5e2b23e414509fb8d12f81668462987", func := "loop.example/g01040/laws.FnExactConsistentSets", spec := "fnExactConsistentSets", unfollowed := true, recurses := true, apart := false, narrowed := true }
def FnExactConsistentSetsUptoSaid : Prop := fnExactConsistentSetsUptoRow.holds Try.pinned (OpenSpec.upto fnExactConsistentSetsSpec)

/-- 'laws.FnExactSurelyGood', WHERE WHAT IT READS IS OF BULK AT MOST 1048576: true; the input reads as it did. -/
def fnExactSurelyGoodUptoRow : OpenClaim := { program := "ytdafhbblkopelaa", sum := "265c089fd7e2ce61ddf90a1ddaaa4f1de5e2b23e414509fb8d12f81668462987", func := "loop.example/g01040/laws.FnExactSurelyGood", spec := "fnExactSurelyGood", apart := false, narrowed := true }
def FnExactSurelyGoodUptoSaid : Prop := fnExactSurelyGoodUptoRow.holds Try.pinned (OpenSpec.upto fnExactSurelyGoodSpec)

/-- 'laws.FnExactSurelyBad', WHERE WHAT IT READS IS OF BULK AT MOST 1048576: true; the input reads as it did. -/
def fnExactSurelyBadUptoRow : OpenClaim := { program := "ytdafhbblkopelaa", sum := "265c089fd7e2ce61ddf90a1ddaaa4f1de5e2b23e414509fb8d12f81668462987", func := "loop.example/g01040/laws.FnExactSurelyBad", spec := "fnExactSurelyBad", unfollowed := true, recurses := true, apart := false, narrowed := true }
def FnExactSurelyBadUptoSaid : Prop := fnExactSurelyBadUptoRow.holds Try.pinned (OpenSpec.upto fnExactSurelyBadSpec)

end Rows
end Go.Proofs.Ytdafhbblkopelaa
