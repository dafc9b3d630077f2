/-
  No cell of these rows narrows 'for every input' (looked for: loops, veiled, ifaces, maps, wideKeys, modest, calm, conditions, laid).
  DERIVED. THE GIVEN ROWS OF THIS SEAT. 4 by the template 'for every input the law returns true; each argument reads behind the call as it read before'; 0 by the template 'total and deterministic' (their statements: YtmlldbbomfgohaaTotals.lean).
  GIVEN WITH THE SEED: the statements are not yours to turn. If you find one false, say at which input.
  Laid BY PROGRAM, IN A SANDBOX (cutbox-rows.mjs): the forced cells as the released guide's own fill.sh prints them over the translation d862261687b4359a… (all of the seat's roots in one cut). By AI agents, Wed Nov 11 2026. No macro, syntax, notation, axiom, sorry.
-/
import Derived.Test.YtmlldbbomfgohaaChecked
import GoSem.Claim
import GoSem.ClaimJoined
import GoSem.ClaimMapViews
import Derived.JoinedTies
import Derived.KernelRfl
namespace Go.Proofs.Ytmlldbbomfgohaa
/- THE CELL 'sum', in the pinned program and in every row, IS THE sha256 OF THE DUMP (.gsa) THAT YtmlldbbomfgohaaProg.lean LOADS. Nothing in Lean hashes anything: it is a label: what it is worth is what the hold of that sum in a sandbox is worth. -/
noncomputable def Try.pinned : Pinned := { name := "ytmlldbbomfgohaa", sum := "d862261687b4359acb49f6f09e77ad32b403c6cb5e0b58eb762b2252e9dbdfd9", checked := Try.checked }
namespace Rows
def none {H : Type} : Left H := { results := [], args := [] }

/-- 'laws.FnExactProblemOk': WHATEVER THE INPUT: true; the input reads as it did. -/
def fnExactProblemOkSpec : ChangeSpec := { name := "fnExactProblemOk", fn := fun _ => fun
  | [d] => { results := [.lit (.bool true)], args := [d] }
  | _ => none }
def fnExactProblemOkRow : OpenClaim := { program := "ytmlldbbomfgohaa", sum := "d862261687b4359acb49f6f09e77ad32b403c6cb5e0b58eb762b2252e9dbdfd9", func := "loop.example/g01040/laws.FnExactProblemOk", spec := "fnExactProblemOk", apart := false }
def FnExactProblemOkSaid : Prop := fnExactProblemOkRow.holds Try.pinned (OpenSpec.ofChange fnExactProblemOkSpec)

/-- ITS FALSE NEIGHBOUR: 'it returns false'. Refute it at one input. -/
def fnExactProblemOkWrong : ChangeSpec := { name := "fnExactProblemOk", fn := fun _ => fun
  | [d] => { results := [.lit (.bool false)], args := [d] }
  | _ => none }
def FnExactProblemOkWrongFalsely : Prop := fnExactProblemOkRow.holds Try.pinned (OpenSpec.ofChange fnExactProblemOkWrong)

/-- 'laws.FnExactCaseOk': WHATEVER THE INPUT: true; the input reads as it did. -/
def fnExactCaseOkSpec : ChangeSpec := { name := "fnExactCaseOk", fn := fun _ => fun
  | [d1, d2] => { results := [.lit (.bool true)], args := [d1, d2] }
  | _ => none }
def fnExactCaseOkRow : OpenClaim := { program := "ytmlldbbomfgohaa", sum := "d862261687b4359acb49f6f09e77ad32b403c6cb5e0b58eb762b2252e9dbdfd9", func := "loop.example/g01040/laws.FnExactCaseOk", spec := "fnExactCaseOk", apart := false }
def FnExactCaseOkSaid : Prop := fnExactCaseOkRow.holds Try.pinned (OpenSpec.ofChange fnExactCaseOkSpec)

/-- ITS FALSE NEIGHBOUR: 'it returns false'. Refute it at one input. -/
def fnExactCaseOkWrong : ChangeSpec := { name := "fnExactCaseOk", fn := fun _ => fun
  | [d1, d2] => { results := [.lit (.bool false)], args := [d1, d2] }
  | _ => none }
def FnExactCaseOkWrongFalsely : Prop := fnExactCaseOkRow.holds Try.pinned (OpenSpec.ofChange fnExactCaseOkWrong)

/-- 'laws.FnExactCasesOf': WHATEVER THE INPUT: true; the input reads as it did. -/
def fnExactCasesOfSpec : ChangeSpec := { name := "fnExactCasesOf", fn := fun _ => fun
  | [d] => { results := [.lit (.bool true)], args := [d] }
  | _ => none }
def fnExactCasesOfRow : OpenClaim := { program := "ytmlldbbomfgohaa", sum := "d862261687b4359acb49f6f09e77ad32b403c6cb5e0b58eb762b2252e9dbdfd9", func := "loop.example/g01040/laws.FnExactCasesOf", spec := "fnExactCasesOf", apart := false }
def FnExactCasesOfSaid : Prop := fnExactCasesOfRow.holds Try.pinned (OpenSpec.ofChange fnExactCasesOfSpec)

/-- ITS FALSE NEIGHBOUR: 'it returns false'. Refute it at one input. -/
def fnExactCasesOfWrong : ChangeSpec := { name := "fnExactCasesOf", fn := fun _ => fun
  | [d] => { results := [.lit (.bool false)], args := [d] }
  | _ => none }
def FnExactCasesOfWrongFalsely : Prop := fnExactCasesOfRow.holds Try.pinned (OpenSpec.ofChange fnExactCasesOfWrong)

/-- 'laws.FnExactCoinOf': WHATEVER THE INPUT: true; the input reads as it did. -/
def fnExactCoinOfSpec : ChangeSpec := { name := "fnExactCoinOf", fn := fun _ => fun
  | [d] => { results := [.lit (.bool true)], args := [d] }
  | _ => none }
def fnExactCoinOfRow : OpenClaim := { program := "ytmlldbbomfgohaa", sum := "d862261687b4359acb49f6f09e77ad32b403c6cb5e0b58eb762b2252e9dbdfd9", func := "loop.example/g01040/laws.FnExactCoinOf", spec := "fnExactCoinOf", apart := false }
def FnExactCoinOfSaid : Prop := fnExactCoinOfRow.holds Try.pinned (OpenSpec.ofChange fnExactCoinOfSpec)

/-- ITS FALSE NEIGHBOUR: 'it returns false'. Refute it at one input. -/
def fnExactCoinOfWrong : ChangeSpec := { name := "fnExactCoinOf", fn := fun _ => fun
  | [d] => { results := [.lit (.bool false)], args := [d] }
  | _ => none }
def FnExactCoinOfWrongFalsely : Prop := fnExactCoinOfRow.holds Try.pinned (OpenSpec.ofChange fnExactCoinOfWrong)

/- THE SECOND FORM. 'bulk': how many values and letters a reading holds, each counted each time it is reached (what is shared counts as often as it is met; a slice's spare places count too). A statement '..UptoSaid' is the law's where the arguments, and the package variables that the reading takes, are together of bulk at most 1048576: NARROWER than '..Said'. Prove '..Said' where nothing that the law and all that it calls make is longer than what came in: it says more and counts as full. Else prove '..UptoSaid'. A law counts once. -/
mutual
def uptoBulk {H : Type} : DataW H → Nat
  | .lit (.string bytes) => bytes.length + 1
  | .lit _ => 1
  | .nil => 1
  | .ptr d => uptoBulk d + 1
  | .slice elems spare => uptoBulkAll elems + uptoBulkAll spare + 1
  | .agg parts => uptoBulkAll parts + 1
  | .iface _ d => uptoBulk d + 1
  | .map entries => uptoBulkEntries entries + 1
  | .held _ => 1
def uptoBulkAll {H : Type} : List (DataW H) → Nat
  | [] => 0
  | d :: r => uptoBulk d + uptoBulkAll r
def uptoBulkEntries {H : Type} : List (Lit × DataW H) → Nat
  | [] => 0
  | x :: r => uptoBulkEntry x + uptoBulkEntries r
def uptoBulkEntry {H : Type} : Lit × DataW H → Nat
  | (.string bytes, d) => bytes.length + uptoBulk d + 1
  | (_, d) => uptoBulk d + 1
 end
def uptoSmall : (H : Type) → List (DataW H) → Bool := fun _ ds => decide (uptoBulkAll ds ≤ 1048576)
def OpenSpec.upto (s : _root_.Go.ChangeSpec) : _root_.Go.OpenSpec := { _root_.Go.OpenSpec.ofChange s with cond := some uptoSmall }

/-- 'laws.FnExactProblemOk', WHERE WHAT IT READS IS OF BULK AT MOST 1048576: true; the input reads as it did. -/
def fnExactProblemOkUptoRow : OpenClaim := { program := "ytmlldbbomfgohaa", sum := "d862261687b4359acb49f6f09e77ad32b403c6cb5e0b58eb762b2252e9dbdfd9", func := "loop.example/g01040/laws.FnExactProblemOk", spec := "fnExactProblemOk", apart := false, narrowed := true }
def FnExactProblemOkUptoSaid : Prop := fnExactProblemOkUptoRow.holds Try.pinned (OpenSpec.upto fnExactProblemOkSpec)

/-- 'laws.FnExactCaseOk', WHERE WHAT IT READS IS OF BULK AT MOST 1048576: true; the input reads as it did. -/
def fnExactCaseOkUptoRow : OpenClaim := { program := "ytmlldbbomfgohaa", sum := "d862261687b4359acb49f6f09e77ad32b403c6cb5e0b58eb762b2252e9dbdfd9", func := "loop.example/g01040/laws.FnExactCaseOk", spec := "fnExactCaseOk", apart := false, narrowed := true }
def FnExactCaseOkUptoSaid : Prop := fnExactCaseOkUptoRow.holds Try.pinned (OpenSpec.upto fnExactCaseOkSpec)

/-- 'laws.FnExactCasesOf', WHERE WHAT IT READS IS OF BULK AT MOST 1048576: true; the input reads as it did. -/
def fnExactCasesOfUptoRow : OpenClaim := { program := "ytmlldbbomfgohaa", sum := "d862261687b4359acb49f6f09e77ad32b403c6cb5e0b58eb762b2252e9dbdfd9", func := "loop.example/g01040/laws.FnExactCasesOf", spec := "fnExactCasesOf", apart := false, narrowed := true }
def FnExactCasesOfUptoSaid : Prop := fnExactCasesOfUptoRow.holds Try.pinned (OpenSpec.upto fnExactCasesOfSpec)

/-- 'laws.FnExactCoinOf', WHERE WHAT IT READS IS OF BULK AT MOST 1048576: true; the input reads as it did. -/
def fnExactCoinOfUptoRow : OpenClaim := { program := "ytmlldbbomfgohaa", sum := "d862261687b4359acb49f6f09e77ad32b403c6cb5e0b58eb762b2252e9dbdfd9", func := "loop.example/g01040/laws.FnExactCoinOf", spec := "fnExactCoinOf", apart := false, narrowed := true }
def FnExactCoinOfUptoSaid : Prop := fnExactCoinOfUptoRow.holds Try.pinned (OpenSpec.upto fnExactCoinOfSpec)

end Rows
end Go.Proofs.Ytmlldbbomfgohaa
