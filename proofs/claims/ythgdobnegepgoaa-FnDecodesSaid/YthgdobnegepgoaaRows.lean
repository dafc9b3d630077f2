/-
  No cell of these rows narrows 'for every input' (looked for: loops, veiled, ifaces, maps, wideKeys, modest, calm, conditions, laid).
  DERIVED. THE GIVEN ROWS OF THIS SEAT. 8 by the template 'for every input the law returns true; each argument reads behind the call as it read before'; 0 by the template 'total and deterministic' (their statements: YthgdobnegepgoaaTotals.lean).
  GIVEN WITH THE SEED: the statements are not yours to turn. If you find one false, say at which input.
  Laid BY PROGRAM, IN A SANDBOX (cutbox-rows.mjs): the forced cells as the released guide's own fill.sh prints them over the translation b0e77b26074f0b3d… (all of the seat's roots in one cut). By AI agents, Wed Nov 11 2026. No macro, syntax, notation, axiom, sorry.
-/
import Derived.Test.YthgdobnegepgoaaChecked
import GoSem.Claim
import GoSem.ClaimJoined
import GoSem.ClaimMapViews
import Derived.JoinedTies
import Derived.KernelRfl
namespace Go.Proofs.Ythgdobnegepgoaa
/- THE CELL 'sum', in the pinned program and in every row, IS THE sha256 OF THE DUMP (.gsa) THAT YthgdobnegepgoaaProg.lean LOADS. Nothing in Lean hashes anything: it is a label: what it is worth is what the hold of that sum in a sandbox is worth. -/
noncomputable def Try.pinned : Pinned := { name := "ythgdobnegepgoaa", sum := "b0e77b26074f0b3d182bc9c88af80a8369922aee5575bc4afdf110a9e3423b21", checked := Try.checked }
namespace Rows
def none {H : Type} : Left H := { results := [], args := [] }

/-- 'laws.FnDecodes': WHATEVER THE INPUT: true; the input reads as it did. -/
def fnDecodesSpec : ChangeSpec := { name := "fnDecodes", fn := fun _ => fun
  | [d] => { results := [.lit (.bool true)], args := [d] }
  | _ => none }
def fnDecodesRow : OpenClaim := { program := "ythgdobnegepgoaa", sum := "b0e77b26074f0b3d182bc9c88af80a8369922aee5575bc4afdf110a9e3423b21", func := "loop.example/g01040/laws.FnDecodes", spec := "fnDecodes", unfollowed := true, recurses := true, plainKeys := false, apart := false }
def FnDecodesSaid : Prop := fnDecodesRow.holds Try.pinned (OpenSpec.ofChange fnDecodesSpec)

/-- ITS FALSE NEIGHBOUR: 'it returns false'. Refute it at one input. -/
def fnDecodesWrong : ChangeSpec := { name := "fnDecodes", fn := fun _ => fun
  | [d] => { results := [.lit (.bool false)], args := [d] }
  | _ => none }
def FnDecodesWrongFalsely : Prop := fnDecodesRow.holds Try.pinned (OpenSpec.ofChange fnDecodesWrong)

/-- 'laws.FnExactDesignOk': WHATEVER THE INPUT: true; the input reads as it did. -/
def fnExactDesignOkSpec : ChangeSpec := { name := "fnExactDesignOk", fn := fun _ => fun
  | [d1, d2] => { results := [.lit (.bool true)], args := [d1, d2] }
  | _ => none }
def fnExactDesignOkRow : OpenClaim := { program := "ythgdobnegepgoaa", sum := "b0e77b26074f0b3d182bc9c88af80a8369922aee5575bc4afdf110a9e3423b21", func := "loop.example/g01040/laws.FnExactDesignOk", spec := "fnExactDesignOk", unfollowed := true, recurses := true, plainKeys := false, apart := false }
def FnExactDesignOkSaid : Prop := fnExactDesignOkRow.holds Try.pinned (OpenSpec.ofChange fnExactDesignOkSpec)

/-- ITS FALSE NEIGHBOUR: 'it returns false'. Refute it at one input. -/
def fnExactDesignOkWrong : ChangeSpec := { name := "fnExactDesignOk", fn := fun _ => fun
  | [d1, d2] => { results := [.lit (.bool false)], args := [d1, d2] }
  | _ => none }
def FnExactDesignOkWrongFalsely : Prop := fnExactDesignOkRow.holds Try.pinned (OpenSpec.ofChange fnExactDesignOkWrong)

/-- 'laws.FnExactSignsOf': WHATEVER THE INPUT: true; the input reads as it did. -/
def fnExactSignsOfSpec : ChangeSpec := { name := "fnExactSignsOf", fn := fun _ => fun
  | [d1, d2, d3] => { results := [.lit (.bool true)], args := [d1, d2, d3] }
  | _ => none }
def fnExactSignsOfRow : OpenClaim := { program := "ythgdobnegepgoaa", sum := "b0e77b26074f0b3d182bc9c88af80a8369922aee5575bc4afdf110a9e3423b21", func := "loop.example/g01040/laws.FnExactSignsOf", spec := "fnExactSignsOf", unfollowed := true, recurses := true, plainKeys := false, apart := false }
def FnExactSignsOfSaid : Prop := fnExactSignsOfRow.holds Try.pinned (OpenSpec.ofChange fnExactSignsOfSpec)

/-- ITS FALSE NEIGHBOUR: 'it returns false'. Refute it at one input. -/
def fnExactSignsOfWrong : ChangeSpec := { name := "fnExactSignsOf", fn := fun _ => fun
  | [d1, d2, d3] => { results := [.lit (.bool false)], args := [d1, d2, d3] }
  | _ => none }
def FnExactSignsOfWrongFalsely : Prop := fnExactSignsOfRow.holds Try.pinned (OpenSpec.ofChange fnExactSignsOfWrong)

/-- 'laws.FnExactCountSigns': WHATEVER THE INPUT: true; the input reads as it did. -/
def fnExactCountSignsSpec : ChangeSpec := { name := "fnExactCountSigns", fn := fun _ => fun
  | [d1, d2] => { results := [.lit (.bool true)], args := [d1, d2] }
  | _ => none }
def fnExactCountSignsRow : OpenClaim := { program := "ythgdobnegepgoaa", sum := "b0e77b26074f0b3d182bc9c88af80a8369922aee5575bc4afdf110a9e3423b21", func := "loop.example/g01040/laws.FnExactCountSigns", spec := "fnExactCountSigns", unfollowed := true, recurses := true, plainKeys := false, apart := false }
def FnExactCountSignsSaid : Prop := fnExactCountSignsRow.holds Try.pinned (OpenSpec.ofChange fnExactCountSignsSpec)

/-- ITS FALSE NEIGHBOUR: 'it returns false'. Refute it at one input. -/
def fnExactCountSignsWrong : ChangeSpec := { name := "fnExactCountSigns", fn := fun _ => fun
  | [d1, d2] => { results := [.lit (.bool false)], args := [d1, d2] }
  | _ => none }
def FnExactCountSignsWrongFalsely : Prop := fnExactCountSignsRow.holds Try.pinned (OpenSpec.ofChange fnExactCountSignsWrong)

/-- 'laws.FnExactDesignSolves': WHATEVER THE INPUT: true; the input reads as it did. -/
def fnExactDesignSolvesSpec : ChangeSpec := { name := "fnExactDesignSolves", fn := fun _ => fun
  | [d1, d2] => { results := [.lit (.bool true)], args := [d1, d2] }
  | _ => none }
def fnExactDesignSolvesRow : OpenClaim := { program := "ythgdobnegepgoaa", sum := "b0e77b26074f0b3d182bc9c88af80a8369922aee5575bc4afdf110a9e3423b21", func := "loop.example/g01040/laws.FnExactDesignSolves", spec := "fnExactDesignSolves", unfollowed := true, recurses := true, plainKeys := false, apart := false }
def FnExactDesignSolvesSaid : Prop := fnExactDesignSolvesRow.holds Try.pinned (OpenSpec.ofChange fnExactDesignSolvesSpec)

/-- ITS FALSE NEIGHBOUR: 'it returns false'. Refute it at one input. -/
def fnExactDesignSolvesWrong : ChangeSpec := { name := "fnExactDesignSolves", fn := fun _ => fun
  | [d1, d2] => { results := [.lit (.bool false)], args := [d1, d2] }
  | _ => none }
def FnExactDesignSolvesWrongFalsely : Prop := fnExactDesignSolvesRow.holds Try.pinned (OpenSpec.ofChange fnExactDesignSolvesWrong)

/-- 'laws.FnExactDecodeSigns': WHATEVER THE INPUT: true; the input reads as it did. -/
def fnExactDecodeSignsSpec : ChangeSpec := { name := "fnExactDecodeSigns", fn := fun _ => fun
  | [d1, d2, d3] => { results := [.lit (.bool true)], args := [d1, d2, d3] }
  | _ => none }
def fnExactDecodeSignsRow : OpenClaim := { program := "ythgdobnegepgoaa", sum := "b0e77b26074f0b3d182bc9c88af80a8369922aee5575bc4afdf110a9e3423b21", func := "loop.example/g01040/laws.FnExactDecodeSigns", spec := "fnExactDecodeSigns", unfollowed := true, recurses := true, plainKeys := false, apart := false }
def FnExactDecodeSignsSaid : Prop := fnExactDecodeSignsRow.holds Try.pinned (OpenSpec.ofChange fnExactDecodeSignsSpec)

/-- ITS FALSE NEIGHBOUR: 'it returns false'. Refute it at one input. -/
def fnExactDecodeSignsWrong : ChangeSpec := { name := "fnExactDecodeSigns", fn := fun _ => fun
  | [d1, d2, d3] => { results := [.lit (.bool false)], args := [d1, d2, d3] }
  | _ => none }
def FnExactDecodeSignsWrongFalsely : Prop := fnExactDecodeSignsRow.holds Try.pinned (OpenSpec.ofChange fnExactDecodeSignsWrong)

/-- 'laws.FnExactVectorDesign': WHATEVER THE INPUT: true; the input reads as it did. -/
def fnExactVectorDesignSpec : ChangeSpec := { name := "fnExactVectorDesign", fn := fun _ => fun
  | [d] => { results := [.lit (.bool true)], args := [d] }
  | _ => none }
def fnExactVectorDesignRow : OpenClaim := { program := "ythgdobnegepgoaa", sum := "b0e77b26074f0b3d182bc9c88af80a8369922aee5575bc4afdf110a9e3423b21", func := "loop.example/g01040/laws.FnExactVectorDesign", spec := "fnExactVectorDesign", plainKeys := false, apart := false }
def FnExactVectorDesignSaid : Prop := fnExactVectorDesignRow.holds Try.pinned (OpenSpec.ofChange fnExactVectorDesignSpec)

/-- ITS FALSE NEIGHBOUR: 'it returns false'. Refute it at one input. -/
def fnExactVectorDesignWrong : ChangeSpec := { name := "fnExactVectorDesign", fn := fun _ => fun
  | [d] => { results := [.lit (.bool false)], args := [d] }
  | _ => none }
def FnExactVectorDesignWrongFalsely : Prop := fnExactVectorDesignRow.holds Try.pinned (OpenSpec.ofChange fnExactVectorDesignWrong)

/-- 'laws.FnExactSpareWeighing': WHATEVER THE INPUT: true; the input reads as it did. -/
def fnExactSpareWeighingSpec : ChangeSpec := { name := "fnExactSpareWeighing", fn := fun _ => fun
  | [d1, d2] => { results := [.lit (.bool true)], args := [d1, d2] }
  | _ => none }
def fnExactSpareWeighingRow : OpenClaim := { program := "ythgdobnegepgoaa", sum := "b0e77b26074f0b3d182bc9c88af80a8369922aee5575bc4afdf110a9e3423b21", func := "loop.example/g01040/laws.FnExactSpareWeighing", spec := "fnExactSpareWeighing", unfollowed := true, recurses := true, plainKeys := false, apart := false }
def FnExactSpareWeighingSaid : Prop := fnExactSpareWeighingRow.holds Try.pinned (OpenSpec.ofChange fnExactSpareWeighingSpec)

/-- ITS FALSE NEIGHBOUR: 'it returns false'. Refute it at one input. -/
def fnExactSpareWeighingWrong : ChangeSpec := { name := "fnExactSpareWeighing", fn := fun _ => fun
  | [d1, d2] => { results := [.lit (.bool false)], args := [d1, d2] }
  | _ => none }
def FnExactSpareWeighingWrongFalsely : Prop := fnExactSpareWeighingRow.holds Try.pinned (OpenSpec.ofChange fnExactSpareWeighingWrong)

/- THE SECOND FORM. 'bulk': how many values and letters a reading holds, each counted each time it is reached (what is shared counts as often as it is met; a slice's spare places count too). A statement '..UptoSaid' is the law's where the arguments, and the package variables that the reading takes, are together of bulk at most 1048576: NARROWER than '..Said'. Prove '..Said' where nothing that the law and all that it calls make is longer than what came in: it says more and counts as full. Else prove '..UptoSaid'. A law counts once. -/
mutual
def uptoBulk {H : Type} : DataW H → Nat
  | .lit (.string bytes) => bytes.length + 1
  | .lit _ => 1
  | .nil => 1
  | .ptr d => uptoBulk d + 1
  | .slice elems spare => uptoBulkAll elems + uptoBulkAll spare + 1
  | .agg parts => uptoBulkAll parts + 1
  | .iface _ d => uptoBulk d + 1
  | .map entries => uptoBulkEntries entries + 1
  | .held _ => 1
def uptoBulkAll {H : Type} : List (DataW H) → Nat
  | [] => 0
  | d :: r => uptoBulk d + uptoBulkAll r
def uptoBulkEntries {H : Type} : List (Lit × DataW H) → Nat
  | [] => 0
  | x :: r => uptoBulkEntry x + uptoBulkEntries r
def uptoBulkEntry {H : Type} : Lit × DataW H → Nat
  | (.string bytes, d) => bytes.length + uptoBulk d + 1
  | (_, d) => uptoBulk d + 1
 end
def uptoSmall : (H : Type) → List (DataW H) → Bool := fun _ ds => decide (uptoBulkAll ds ≤ 1048576)
def OpenSpec.upto (s : _root_.Go.ChangeSpec) : _root_.Go.OpenSpec := { _root_.Go.OpenSpec.ofChange s with cond := some uptoSmall }

/-- 'laws.FnDecodes', WHERE WHAT IT READS IS OF BULK AT MOST 1048576: true; the input reads as it did. -/
def fnDecodesUptoRow : OpenClaim := { program := "ythgdobnegepgoaa", sum := "b0e77b26074f0b3d182bc9c88af80a8369922aee5575bc4afdf110a9e3423b21", func := "loop.example/g01040/laws.FnDecodes", spec := "fnDecodes", unfollowed := true, recurses := true, plainKeys := false, apart := false, narrowed := true }
def FnDecodesUptoSaid : Prop := fnDecodesUptoRow.holds Try.pinned (OpenSpec.upto fnDecodesSpec)

/-- 'laws.FnExactDesignOk', WHERE WHAT IT READS IS OF BULK AT MOST 1048576: true; the input reads as it did. -/
def fnExactDesignOkUptoRow : OpenClaim := { program := "ythgdobnegepgoaa", sum := "b0e77b26074f0b3d182bc9c88af80a8369922aee5575bc4afdf110a9e3423b21", func := "loop.example/g01040/laws.FnExactDesignOk", spec := "fnExactDesignOk", unfollowed := true, recurses := true, plainKeys := false, apart := false, narrowed := true }
def FnExactDesignOkUptoSaid : Prop := fnExactDesignOkUptoRow.holds Try.pinned (OpenSpec.upto fnExactDesignOkSpec)

/-- 'laws.FnExactSignsOf', WHERE WHAT IT READS IS OF BULK AT MOST 1048576: true; the input reads as it did. -/
def fnExactSignsOfUptoRow : OpenClaim := { program := "ythgdobnegepgoaa", sum := "b0e77b26074f0b3d182bc9c88af80a8369922aee5575bc4afdf110a9e3423b21", func := "loop.example/g01040/laws.FnExactSignsOf", spec := "fnExactSignsOf", unfollowed := true, recurses := true, plainKeys := false, apart := false, narrowed := true }
def FnExactSignsOfUptoSaid : Prop := fnExactSignsOfUptoRow.holds Try.pinned (OpenSpec.upto fnExactSignsOfSpec)

/-- 'laws.FnExactCountSigns', WHERE WHAT IT READS IS OF BULK AT MOST 1048576: true; the input reads as it did. -/
def fnExactCountSignsUptoRow : OpenClaim := { program := "ythgdobnegepgoaa", sum := "b0e77b26074f0b3d182bc9c88af80a8369922aee5575bc4afdf110a9e3423b21", func := "loop.example/g01040/laws.FnExactCountSigns", spec := "fnExactCountSigns", unfollowed := true, recurses := true, plainKeys := false, apart := false, narrowed := true }
def FnExactCountSignsUptoSaid : Prop := fnExactCountSignsUptoRow.holds Try.pinned (OpenSpec.upto fnExactCountSignsSpec)

/-- 'laws.FnExactDesignSolves', WHERE WHAT IT READS IS OF BULK AT MOST 1048576: true; the input reads as it did. -/
def fnExactDesignSolvesUptoRow : OpenClaim := { program := "ythgdobnegepgoaa", sum := "b0e77b26074f0b3d182bc9c88af80a8369922aee5575bc4afdf110a9e3423b21", func := "loop.example/g01040/laws.FnExactDesignSolves", spec := "fnExactDesignSolves", unfollowed := true, recurses := true, plainKeys := false, apart := false, narrowed := true }
def FnExactDesignSolvesUptoSaid : Prop := fnExactDesignSolvesUptoRow.holds Try.pinned (OpenSpec.upto fnExactDesignSolvesSpec)

/-- 'laws.FnExactDecodeSigns', WHERE WHAT IT READS IS OF BULK AT MOST 1048576: true; the input reads as it did. -/
def fnExactDecodeSignsUptoRow : OpenClaim := { program := "ythgdobnegepgoaa", sum := "b0e77b26074f0b3d182bc9c88af80a8369922aee5575bc4afdf110a9e3423b21", func := "loop.example/g01040/laws.FnExactDecodeSigns", spec := "fnExactDecodeSigns", unfollowed := true, recurses := true, plainKeys := false, apart := false, narrowed := true }
def FnExactDecodeSignsUptoSaid : Prop := fnExactDecodeSignsUptoRow.holds Try.pinned (OpenSpec.upto fnExactDecodeSignsSpec)

/-- 'laws.FnExactVectorDesign', WHERE WHAT IT READS IS OF BULK AT MOST 1048576: true; the input reads as it did. -/
def fnExactVectorDesignUptoRow : OpenClaim := { program := "ythgdobnegepgoaa", sum := "b0e77b26074f0b3d182bc9c88af80a8369922aee5575bc4afdf110a9e3423b21", func := "loop.example/g01040/laws.FnExactVectorDesign", spec := "fnExactVectorDesign", plainKeys := false, apart := false, narrowed := true }
def FnExactVectorDesignUptoSaid : Prop := fnExactVectorDesignUptoRow.holds Try.pinned (OpenSpec.upto fnExactVectorDesignSpec)

/-- 'laws.FnExactSpareWeighing', WHERE WHAT IT READS IS OF BULK AT MOST 1048576: true; the input reads as it did. -/
def fnExactSpareWeighingUptoRow : OpenClaim := { program := "ythgdobnegepgoaa", sum := "b0e77b26074f0b3d182bc9c88af80a8369922aee5575bc4afdf110a9e3423b21", func := "loop.example/g01040/laws.FnExactSpareWeighing", spec := "fnExactSpareWeighing", unfollowed := true, recurses := true, plainKeys := false, apart := false, narrowed := true }
def FnExactSpareWeighingUptoSaid : Prop := fnExactSpareWeighingUptoRow.holds Try.pinned (OpenSpec.upto fnExactSpareWeighingSpec)

end Rows
end Go.Proofs.Ythgdobnegepgoaa
