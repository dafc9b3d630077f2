/-
  NARROWER THAN 'FOR EVERY INPUT', by the rows' own cells (each row's printed sentence says how): FnExactRoundsLine: ifaces, laid · FnCases: ifaces, laid · FnSplits: ifaces, laid · FnStates: laid · FnTop: ifaces, laid · FnPools: ifaces, laid · FnDisjunct: ifaces, laid · FnExactFormatWeighing: laid.
  DERIVED. THE GIVEN ROWS OF THIS SEAT. 8 by the template 'for every input the law returns true; each argument reads behind the call as it read before'; 0 by the template 'total and deterministic' (their statements: YtlflblngbneacabDoorTotals.lean).
  GIVEN WITH THE SEED: the statements are not yours to turn. If you find one false, say at which input.
  Laid BY PROGRAM, IN A SANDBOX (cutbox-rows.mjs): the forced cells as the released guide's own fill.sh prints them over the translation bd654318919f9192… (all of the seat's roots in one cut). By AI agents, Wed Nov 11 2026. No macro, syntax, notation, axiom, sorry.
-/
import Derived.Test.YtlflblngbneacabDoorChecked
import GoSem.Claim
import GoSem.ClaimJoined
import GoSem.ClaimMapViews
import Derived.JoinedTies
import Derived.KernelRfl
namespace Go.Proofs.YtlflblngbneacabDoor
/- THE CELL 'sum', in the pinned program and in every row, IS THE sha256 OF THE DUMP (.gsa) THAT YtlflblngbneacabDoorProg.lean LOADS. Nothing in Lean hashes anything: it is a label: what it is worth is what the hold of that sum in a sandbox is worth. -/
noncomputable def Tryd.pinned : Pinned := { name := "ytlflblngbneacabdoor", sum := "bd654318919f91924230d3e8795285e192655873a3362426c21f20436fd957a5", checked := Tryd.checked }
namespace Rows
def none {H : Type} : Left H := { results := [], args := [] }

/- WHAT THE LISTED PACKAGE-LEVEL VARIABLES READ AS WHEN THE CALL BEGINS. Each datum BY PROGRAM (the guide's laid-datum.mjs) off the statement by which the dump's own 'gosem.cut.vars' lays the variable. In a bare row this is a premise. The card (YtlflblngbneacabDoorCards.lean) ties it to the program's text. -/
def laid_math_bits_deBruijn32tab {H : Type} : DataW H := .agg [.lit (.int .u8 0), .lit (.int .u8 1), .lit (.int .u8 28), .lit (.int .u8 2), .lit (.int .u8 29), .lit (.int .u8 14), .lit (.int .u8 24), .lit (.int .u8 3), .lit (.int .u8 30), .lit (.int .u8 22), .lit (.int .u8 20), .lit (.int .u8 15), .lit (.int .u8 25), .lit (.int .u8 17), .lit (.int .u8 4), .lit (.int .u8 8), .lit (.int .u8 31), .lit (.int .u8 27), .lit (.int .u8 13), .lit (.int .u8 23), .lit (.int .u8 21), .lit (.int .u8 19), .lit (.int .u8 16), .lit (.int .u8 7), .lit (.int .u8 26), .lit (.int .u8 12), .lit (.int .u8 18), .lit (.int .u8 6), .lit (.int .u8 11), .lit (.int .u8 5), .lit (.int .u8 10), .lit (.int .u8 9)]
def laid_math_bits_deBruijn64tab {H : Type} : DataW H := .agg [.lit (.int .u8 0), .lit (.int .u8 1), .lit (.int .u8 56), .lit (.int .u8 2), .lit (.int .u8 57), .lit (.int .u8 49), .lit (.int .u8 28), .lit (.int .u8 3), .lit (.int .u8 61), .lit (.int .u8 58), .lit (.int .u8 42), .lit (.int .u8 50), .lit (.int .u8 38), .lit (.int .u8 29), .lit (.int .u8 17), .lit (.int .u8 4), .lit (.int .u8 62), .lit (.int .u8 47), .lit (.int .u8 59), .lit (.int .u8 36), .lit (.int .u8 45), .lit (.int .u8 43), .lit (.int .u8 51), .lit (.int .u8 22), .lit (.int .u8 53), .lit (.int .u8 39), .lit (.int .u8 33), .lit (.int .u8 30), .lit (.int .u8 24), .lit (.int .u8 18), .lit (.int .u8 12), .lit (.int .u8 5), .lit (.int .u8 63), .lit (.int .u8 55), .lit (.int .u8 48), .lit (.int .u8 27), .lit (.int .u8 60), .lit (.int .u8 41), .lit (.int .u8 37), .lit (.int .u8 16), .lit (.int .u8 46), .lit (.int .u8 35), .lit (.int .u8 44), .lit (.int .u8 21), .lit (.int .u8 52), .lit (.int .u8 32), .lit (.int .u8 23), .lit (.int .u8 11), .lit (.int .u8 54), .lit (.int .u8 26), .lit (.int .u8 40), .lit (.int .u8 15), .lit (.int .u8 34), .lit (.int .u8 20), .lit (.int .u8 31), .lit (.int .u8 10), .lit (.int .u8 25), .lit (.int .u8 14), .lit (.int .u8 19), .lit (.int .u8 9), .lit (.int .u8 13), .lit (.int .u8 8), .lit (.int .u8 7), .lit (.int .u8 6)]
def laid_internal_strconv_uint64pow10 {H : Type} : DataW H := .agg [.lit (.int .u64 1), .lit (.int .u64 10), .lit (.int .u64 100), .lit (.int .u64 1000), .lit (.int .u64 10000), .lit (.int .u64 100000), .lit (.int .u64 1000000), .lit (.int .u64 10000000), .lit (.int .u64 100000000), .lit (.int .u64 1000000000), .lit (.int .u64 10000000000), .lit (.int .u64 100000000000), .lit (.int .u64 1000000000000), .lit (.int .u64 10000000000000), .lit (.int .u64 100000000000000), .lit (.int .u64 1000000000000000), .lit (.int .u64 10000000000000000), .lit (.int .u64 100000000000000000), .lit (.int .u64 1000000000000000000), .lit (.int .u64 10000000000000000000)]
def laid_errors_errorType {H : Type} : DataW H := .iface "internal/reflectlite.rtype" (.agg [.ptr (.lit (.string [101, 114, 114, 111, 114]))])
def laid_loop_example_g01040_impl_errEmpty {H : Type} : DataW H := .iface "*errors.errorString" (.ptr (.agg [.lit (.string [116, 104, 101, 114, 101, 32, 97, 114, 101, 32, 110, 111, 32, 101, 108, 101, 109, 101, 110, 116, 115])]))
def laid_loop_example_g01040_impl_errInvalid {H : Type} : DataW H := .iface "*errors.errorString" (.ptr (.agg [.lit (.string [116, 104, 101, 32, 119, 101, 105, 103, 104, 105, 110, 103, 32, 105, 115, 32, 110, 111, 116, 32, 118, 97, 108, 105, 100])]))

/-- 'laws.FnExactRoundsLine': WHATEVER THE INPUT: true; the input reads as it did. -/
def fnExactRoundsLineSpec : ChangeSpec := { name := "fnExactRoundsLine", vars := ["loop.example/g01040/impl.errEmpty"], fn := fun _ => fun
  | [d, g1] => { results := [.lit (.bool true)], args := [d], vars := [g1] }
  | _ => none }
def fnExactRoundsLineRow : OpenClaim := { program := "ytlflblngbneacabdoor", sum := "bd654318919f91924230d3e8795285e192655873a3362426c21f20436fd957a5", func := "loop.example/g01040/laws.FnExactRoundsLine", spec := "fnExactRoundsLine", inPlace := ["internal/abi.NoEscape", "internal/bytealg.MakeNoZero", "internal/reflectlite.ValueOf", "(internal/reflectlite.Value).Type", "(internal/reflectlite.Value).IsNil", "internal/reflectlite.TypeOf", "(internal/reflectlite.Value).Elem", "(internal/reflectlite.Value).Set"], unfollowed := true, recurses := true, named := ["loop.example/g01040/impl.errEmpty", "internal/strconv.uint64pow10", "math/bits.deBruijn32tab", "math/bits.deBruijn64tab", "errors.errorType"], ifaces := true, plainKeys := false, leaving := true, apart := false, laid := [("math/bits.deBruijn32tab", laid_math_bits_deBruijn32tab), ("math/bits.deBruijn64tab", laid_math_bits_deBruijn64tab), ("internal/strconv.uint64pow10", laid_internal_strconv_uint64pow10), ("errors.errorType", laid_errors_errorType), ("loop.example/g01040/impl.errEmpty", laid_loop_example_g01040_impl_errEmpty)] }
def FnExactRoundsLineSaid : Prop := fnExactRoundsLineRow.holds Tryd.pinned (OpenSpec.ofChange fnExactRoundsLineSpec)

/-- ITS FALSE NEIGHBOUR: 'it returns false'. Refute it at one input. -/
def fnExactRoundsLineWrong : ChangeSpec := { name := "fnExactRoundsLine", vars := ["loop.example/g01040/impl.errEmpty"], fn := fun _ => fun
  | [d, g1] => { results := [.lit (.bool false)], args := [d], vars := [g1] }
  | _ => none }
def FnExactRoundsLineWrongFalsely : Prop := fnExactRoundsLineRow.holds Tryd.pinned (OpenSpec.ofChange fnExactRoundsLineWrong)

/-- 'laws.FnCases': WHATEVER THE INPUT: true; the input reads as it did. -/
def fnCasesSpec : ChangeSpec := { name := "fnCases", vars := ["loop.example/g01040/impl.errEmpty"], fn := fun _ => fun
  | [d, g1] => { results := [.lit (.bool true)], args := [d], vars := [g1] }
  | _ => none }
def fnCasesRow : OpenClaim := { program := "ytlflblngbneacabdoor", sum := "bd654318919f91924230d3e8795285e192655873a3362426c21f20436fd957a5", func := "loop.example/g01040/laws.FnCases", spec := "fnCases", inPlace := ["internal/abi.NoEscape", "internal/bytealg.MakeNoZero", "internal/reflectlite.ValueOf", "(internal/reflectlite.Value).Type", "(internal/reflectlite.Value).IsNil", "internal/reflectlite.TypeOf", "(internal/reflectlite.Value).Elem", "(internal/reflectlite.Value).Set"], unfollowed := true, recurses := true, named := ["loop.example/g01040/impl.errEmpty", "internal/strconv.uint64pow10", "math/bits.deBruijn32tab", "math/bits.deBruijn64tab", "errors.errorType"], ifaces := true, plainKeys := false, leaving := true, apart := false, laid := [("math/bits.deBruijn32tab", laid_math_bits_deBruijn32tab), ("math/bits.deBruijn64tab", laid_math_bits_deBruijn64tab), ("internal/strconv.uint64pow10", laid_internal_strconv_uint64pow10), ("errors.errorType", laid_errors_errorType), ("loop.example/g01040/impl.errEmpty", laid_loop_example_g01040_impl_errEmpty)] }
def FnCasesSaid : Prop := fnCasesRow.holds Tryd.pinned (OpenSpec.ofChange fnCasesSpec)

/-- ITS FALSE NEIGHBOUR: 'it returns false'. Refute it at one input. -/
def fnCasesWrong : ChangeSpec := { name := "fnCases", vars := ["loop.example/g01040/impl.errEmpty"], fn := fun _ => fun
  | [d, g1] => { results := [.lit (.bool false)], args := [d], vars := [g1] }
  | _ => none }
def FnCasesWrongFalsely : Prop := fnCasesRow.holds Tryd.pinned (OpenSpec.ofChange fnCasesWrong)

/-- 'laws.FnSplits': WHATEVER THE INPUT: true; the input reads as it did. -/
def fnSplitsSpec : ChangeSpec := { name := "fnSplits", vars := ["loop.example/g01040/impl.errInvalid", "loop.example/g01040/impl.errEmpty"], fn := fun _ => fun
  | [d, g1, g2] => { results := [.lit (.bool true)], args := [d], vars := [g1, g2] }
  | _ => none }
def fnSplitsRow : OpenClaim := { program := "ytlflblngbneacabdoor", sum := "bd654318919f91924230d3e8795285e192655873a3362426c21f20436fd957a5", func := "loop.example/g01040/laws.FnSplits", spec := "fnSplits", inPlace := ["internal/abi.NoEscape", "internal/bytealg.MakeNoZero", "internal/reflectlite.ValueOf", "(internal/reflectlite.Value).Type", "(internal/reflectlite.Value).IsNil", "internal/reflectlite.TypeOf", "(internal/reflectlite.Value).Elem", "(internal/reflectlite.Value).Set"], unfollowed := true, recurses := true, named := ["loop.example/g01040/impl.errInvalid", "internal/strconv.uint64pow10", "math/bits.deBruijn32tab", "math/bits.deBruijn64tab", "loop.example/g01040/impl.errEmpty", "errors.errorType"], ifaces := true, plainKeys := false, leaving := true, apart := false, laid := [("math/bits.deBruijn32tab", laid_math_bits_deBruijn32tab), ("math/bits.deBruijn64tab", laid_math_bits_deBruijn64tab), ("internal/strconv.uint64pow10", laid_internal_strconv_uint64pow10), ("errors.errorType", laid_errors_errorType), ("loop.example/g01040/impl.errEmpty", laid_loop_example_g01040_impl_errEmpty), ("loop.example/g01040/impl.errInvalid", laid_loop_example_g01040_impl_errInvalid)] }
def FnSplitsSaid : Prop := fnSplitsRow.holds Tryd.pinned (OpenSpec.ofChange fnSplitsSpec)

/-- ITS FALSE NEIGHBOUR: 'it returns false'. Refute it at one input. -/
def fnSplitsWrong : ChangeSpec := { name := "fnSplits", vars := ["loop.example/g01040/impl.errInvalid", "loop.example/g01040/impl.errEmpty"], fn := fun _ => fun
  | [d, g1, g2] => { results := [.lit (.bool false)], args := [d], vars := [g1, g2] }
  | _ => none }
def FnSplitsWrongFalsely : Prop := fnSplitsRow.holds Tryd.pinned (OpenSpec.ofChange fnSplitsWrong)

/-- 'laws.FnStates': WHATEVER THE INPUT: true; the input reads as it did. -/
def fnStatesSpec : ChangeSpec := { name := "fnStates", fn := fun _ => fun
  | [d] => { results := [.lit (.bool true)], args := [d] }
  | _ => none }
def fnStatesRow : OpenClaim := { program := "ytlflblngbneacabdoor", sum := "bd654318919f91924230d3e8795285e192655873a3362426c21f20436fd957a5", func := "loop.example/g01040/laws.FnStates", spec := "fnStates", inPlace := ["internal/abi.NoEscape", "internal/bytealg.MakeNoZero"], named := ["internal/strconv.uint64pow10", "math/bits.deBruijn32tab", "math/bits.deBruijn64tab"], plainKeys := false, apart := false, laid := [("math/bits.deBruijn32tab", laid_math_bits_deBruijn32tab), ("math/bits.deBruijn64tab", laid_math_bits_deBruijn64tab), ("internal/strconv.uint64pow10", laid_internal_strconv_uint64pow10)] }
def FnStatesSaid : Prop := fnStatesRow.holds Tryd.pinned (OpenSpec.ofChange fnStatesSpec)

/-- ITS FALSE NEIGHBOUR: 'it returns false'. Refute it at one input. -/
def fnStatesWrong : ChangeSpec := { name := "fnStates", fn := fun _ => fun
  | [d] => { results := [.lit (.bool false)], args := [d] }
  | _ => none }
def FnStatesWrongFalsely : Prop := fnStatesRow.holds Tryd.pinned (OpenSpec.ofChange fnStatesWrong)

/-- 'laws.FnTop': WHATEVER THE INPUT: true; the input reads as it did. -/
def fnTopSpec : ChangeSpec := { name := "fnTop", vars := ["loop.example/g01040/impl.errEmpty"], fn := fun _ => fun
  | [d, g1] => { results := [.lit (.bool true)], args := [d], vars := [g1] }
  | _ => none }
def fnTopRow : OpenClaim := { program := "ytlflblngbneacabdoor", sum := "bd654318919f91924230d3e8795285e192655873a3362426c21f20436fd957a5", func := "loop.example/g01040/laws.FnTop", spec := "fnTop", inPlace := ["internal/abi.NoEscape", "internal/bytealg.MakeNoZero", "internal/reflectlite.ValueOf", "(internal/reflectlite.Value).Type", "(internal/reflectlite.Value).IsNil", "internal/reflectlite.TypeOf", "(internal/reflectlite.Value).Elem", "(internal/reflectlite.Value).Set"], unfollowed := true, recurses := true, named := ["internal/strconv.uint64pow10", "math/bits.deBruijn32tab", "math/bits.deBruijn64tab", "loop.example/g01040/impl.errEmpty", "errors.errorType"], ifaces := true, plainKeys := false, leaving := true, apart := false, laid := [("math/bits.deBruijn32tab", laid_math_bits_deBruijn32tab), ("math/bits.deBruijn64tab", laid_math_bits_deBruijn64tab), ("internal/strconv.uint64pow10", laid_internal_strconv_uint64pow10), ("errors.errorType", laid_errors_errorType), ("loop.example/g01040/impl.errEmpty", laid_loop_example_g01040_impl_errEmpty)] }
def FnTopSaid : Prop := fnTopRow.holds Tryd.pinned (OpenSpec.ofChange fnTopSpec)

/-- ITS FALSE NEIGHBOUR: 'it returns false'. Refute it at one input. -/
def fnTopWrong : ChangeSpec := { name := "fnTop", vars := ["loop.example/g01040/impl.errEmpty"], fn := fun _ => fun
  | [d, g1] => { results := [.lit (.bool false)], args := [d], vars := [g1] }
  | _ => none }
def FnTopWrongFalsely : Prop := fnTopRow.holds Tryd.pinned (OpenSpec.ofChange fnTopWrong)

/-- 'laws.FnPools': WHATEVER THE INPUT: true; the input reads as it did. -/
def fnPoolsSpec : ChangeSpec := { name := "fnPools", vars := ["loop.example/g01040/impl.errEmpty"], fn := fun _ => fun
  | [d, g1] => { results := [.lit (.bool true)], args := [d], vars := [g1] }
  | _ => none }
def fnPoolsRow : OpenClaim := { program := "ytlflblngbneacabdoor", sum := "bd654318919f91924230d3e8795285e192655873a3362426c21f20436fd957a5", func := "loop.example/g01040/laws.FnPools", spec := "fnPools", inPlace := ["internal/abi.NoEscape", "internal/bytealg.MakeNoZero", "internal/reflectlite.ValueOf", "(internal/reflectlite.Value).Type", "(internal/reflectlite.Value).IsNil", "internal/reflectlite.TypeOf", "(internal/reflectlite.Value).Elem", "(internal/reflectlite.Value).Set"], unfollowed := true, recurses := true, named := ["loop.example/g01040/impl.errEmpty", "errors.errorType"], ifaces := true, plainKeys := false, leaving := true, apart := false, laid := [("errors.errorType", laid_errors_errorType), ("loop.example/g01040/impl.errEmpty", laid_loop_example_g01040_impl_errEmpty)] }
def FnPoolsSaid : Prop := fnPoolsRow.holds Tryd.pinned (OpenSpec.ofChange fnPoolsSpec)

/-- ITS FALSE NEIGHBOUR: 'it returns false'. Refute it at one input. -/
def fnPoolsWrong : ChangeSpec := { name := "fnPools", vars := ["loop.example/g01040/impl.errEmpty"], fn := fun _ => fun
  | [d, g1] => { results := [.lit (.bool false)], args := [d], vars := [g1] }
  | _ => none }
def FnPoolsWrongFalsely : Prop := fnPoolsRow.holds Tryd.pinned (OpenSpec.ofChange fnPoolsWrong)

/-- 'laws.FnDisjunct': WHATEVER THE INPUT: true; the input reads as it did. -/
def fnDisjunctSpec : ChangeSpec := { name := "fnDisjunct", vars := ["loop.example/g01040/impl.errEmpty"], fn := fun _ => fun
  | [d, g1] => { results := [.lit (.bool true)], args := [d], vars := [g1] }
  | _ => none }
def fnDisjunctRow : OpenClaim := { program := "ytlflblngbneacabdoor", sum := "bd654318919f91924230d3e8795285e192655873a3362426c21f20436fd957a5", func := "loop.example/g01040/laws.FnDisjunct", spec := "fnDisjunct", inPlace := ["internal/abi.NoEscape", "internal/bytealg.MakeNoZero", "internal/reflectlite.ValueOf", "(internal/reflectlite.Value).Type", "(internal/reflectlite.Value).IsNil", "internal/reflectlite.TypeOf", "(internal/reflectlite.Value).Elem", "(internal/reflectlite.Value).Set"], unfollowed := true, recurses := true, named := ["loop.example/g01040/impl.errEmpty", "errors.errorType"], ifaces := true, plainKeys := false, leaving := true, apart := false, laid := [("errors.errorType", laid_errors_errorType), ("loop.example/g01040/impl.errEmpty", laid_loop_example_g01040_impl_errEmpty)] }
def FnDisjunctSaid : Prop := fnDisjunctRow.holds Tryd.pinned (OpenSpec.ofChange fnDisjunctSpec)

/-- ITS FALSE NEIGHBOUR: 'it returns false'. Refute it at one input. -/
def fnDisjunctWrong : ChangeSpec := { name := "fnDisjunct", vars := ["loop.example/g01040/impl.errEmpty"], fn := fun _ => fun
  | [d, g1] => { results := [.lit (.bool false)], args := [d], vars := [g1] }
  | _ => none }
def FnDisjunctWrongFalsely : Prop := fnDisjunctRow.holds Tryd.pinned (OpenSpec.ofChange fnDisjunctWrong)

/-- 'laws.FnExactFormatWeighing': WHATEVER THE INPUT: true; the input reads as it did. -/
def fnExactFormatWeighingSpec : ChangeSpec := { name := "fnExactFormatWeighing", fn := fun _ => fun
  | [d] => { results := [.lit (.bool true)], args := [d] }
  | _ => none }
def fnExactFormatWeighingRow : OpenClaim := { program := "ytlflblngbneacabdoor", sum := "bd654318919f91924230d3e8795285e192655873a3362426c21f20436fd957a5", func := "loop.example/g01040/laws.FnExactFormatWeighing", spec := "fnExactFormatWeighing", inPlace := ["internal/abi.NoEscape", "internal/bytealg.MakeNoZero"], unfollowed := true, recurses := true, named := ["internal/strconv.uint64pow10", "math/bits.deBruijn32tab", "math/bits.deBruijn64tab"], plainKeys := false, leaving := true, apart := false, laid := [("math/bits.deBruijn32tab", laid_math_bits_deBruijn32tab), ("math/bits.deBruijn64tab", laid_math_bits_deBruijn64tab), ("internal/strconv.uint64pow10", laid_internal_strconv_uint64pow10)] }
def FnExactFormatWeighingSaid : Prop := fnExactFormatWeighingRow.holds Tryd.pinned (OpenSpec.ofChange fnExactFormatWeighingSpec)

/-- ITS FALSE NEIGHBOUR: 'it returns false'. Refute it at one input. -/
def fnExactFormatWeighingWrong : ChangeSpec := { name := "fnExactFormatWeighing", fn := fun _ => fun
  | [d] => { results := [.lit (.bool false)], args := [d] }
  | _ => none }
def FnExactFormatWeighingWrongFalsely : Prop := fnExactFormatWeighingRow.holds Tryd.pinned (OpenSpec.ofChange fnExactFormatWeighingWrong)

/- THE SECOND FORM. 'bulk': how many values and letters a reading holds, each counted each time it is reached (what is shared counts as often as it is met; a slice's spare places count too). A statement '..UptoSaid' is the law's where the arguments, and the package variables that the reading takes, are together of bulk at most 1048576: NARROWER than '..Said'. Prove '..Said' where nothing that the law and all that it calls make is longer than what came in: it says more and counts as full. Else prove '..UptoSaid'. A law counts once. -/
mutual
def uptoBulk {H : Type} : DataW H → Nat
  | .lit (.string bytes) => bytes.length + 1
  | .lit _ => 1
  | .nil => 1
  | .ptr d => uptoBulk d + 1
  | .slice elems spare => uptoBulkAll elems + uptoBulkAll spare + 1
  | .agg parts => uptoBulkAll parts + 1
  | .iface _ d => uptoBulk d + 1
  | .map entries => uptoBulkEntries entries + 1
  | .held _ => 1
def uptoBulkAll {H : Type} : List (DataW H) → Nat
  | [] => 0
  | d :: r => uptoBulk d + uptoBulkAll r
def uptoBulkEntries {H : Type} : List (Lit × DataW H) → Nat
  | [] => 0
  | x :: r => uptoBulkEntry x + uptoBulkEntries r
def uptoBulkEntry {H : Type} : Lit × DataW H → Nat
  | (.string bytes, d) => bytes.length + uptoBulk d + 1
  | (_, d) => uptoBulk d + 1
 end
def uptoSmall : (H : Type) → List (DataW H) → Bool := fun _ ds => decide (uptoBulkAll ds ≤ 1048576)
def OpenSpec.upto (s : _root_.Go.ChangeSpec) : _root_.Go.OpenSpec := { _root_.Go.OpenSpec.ofChange s with cond := some uptoSmall }

/-- 'laws.FnExactRoundsLine', WHERE WHAT IT READS IS OF BULK AT MOST 1048576: true; the input reads as it did. -/
def fnExactRoundsLineUptoRow : OpenClaim := { program := "ytlflblngbneacabdoor", sum := "bd654318919f91924230d3e8795285e192655873a3362426c21f20436fd957a5", func := "loop.example/g01040/laws.FnExactRoundsLine", spec := "fnExactRoundsLine", inPlace := ["internal/abi.NoEscape", "internal/bytealg.MakeNoZero", "internal/reflectlite.ValueOf", "(internal/reflectlite.Value).Type", "(internal/reflectlite.Value).IsNil", "internal/reflectlite.TypeOf", "(internal/reflectlite.Value).Elem", "(internal/reflectlite.Value).Set"], unfollowed := true, recurses := true, named := ["loop.example/g01040/impl.errEmpty", "internal/strconv.uint64pow10", "math/bits.deBruijn32tab", "math/bits.deBruijn64tab", "errors.errorType"], ifaces := true, plainKeys := false, leaving := true, apart := false, laid := [("math/bits.deBruijn32tab", laid_math_bits_deBruijn32tab), ("math/bits.deBruijn64tab", laid_math_bits_deBruijn64tab), ("internal/strconv.uint64pow10", laid_internal_strconv_uint64pow10), ("errors.errorType", laid_errors_errorType), ("loop.example/g01040/impl.errEmpty", laid_loop_example_g01040_impl_errEmpty)], narrowed := true }
def FnExactRoundsLineUptoSaid : Prop := fnExactRoundsLineUptoRow.holds Tryd.pinned (OpenSpec.upto fnExactRoundsLineSpec)

/-- 'laws.FnCases', WHERE WHAT IT READS IS OF BULK AT MOST 1048576: true; the input reads as it did. -/
def fnCasesUptoRow : OpenClaim := { program := "ytlflblngbneacabdoor", sum := "bd654318919f91924230d3e8795285e192655873a3362426c21f20436fd957a5", func := "loop.example/g01040/laws.FnCases", spec := "fnCases", inPlace := ["internal/abi.NoEscape", "internal/bytealg.MakeNoZero", "internal/reflectlite.ValueOf", "(internal/reflectlite.Value).Type", "(internal/reflectlite.Value).IsNil", "internal/reflectlite.TypeOf", "(internal/reflectlite.Value).Elem", "(internal/reflectlite.Value).Set"], unfollowed := true, recurses := true, named := ["loop.example/g01040/impl.errEmpty", "internal/strconv.uint64pow10", "math/bits.deBruijn32tab", "math/bits.deBruijn64tab", "errors.errorType"], ifaces := true, plainKeys := false, leaving := true, apart := false, laid := [("math/bits.deBruijn32tab", laid_math_bits_deBruijn32tab), ("math/bits.deBruijn64tab", laid_math_bits_deBruijn64tab), ("internal/strconv.uint64pow10", laid_internal_strconv_uint64pow10), ("errors.errorType", laid_errors_errorType), ("loop.example/g01040/impl.errEmpty", laid_loop_example_g01040_impl_errEmpty)], narrowed := true }
def FnCasesUptoSaid : Prop := fnCasesUptoRow.holds Tryd.pinned (OpenSpec.upto fnCasesSpec)

/-- 'laws.FnSplits', WHERE WHAT IT READS IS OF BULK AT MOST 1048576: true; the input reads as it did. -/
def fnSplitsUptoRow : OpenClaim := { program := "ytlflblngbneacabdoor", sum := "bd654318919f91924230d3e8795285e192655873a3362426c21f20436fd957a5", func := "loop.example/g01040/laws.FnSplits", spec := "fnSplits", inPlace := ["internal/abi.NoEscape", "internal/bytealg.MakeNoZero", "internal/reflectlite.ValueOf", "(internal/reflectlite.Value).Type", "(internal/reflectlite.Value).IsNil", "internal/reflectlite.TypeOf", "(internal/reflectlite.Value).Elem", "(internal/reflectlite.Value).Set"], unfollowed := true, recurses := true, named := ["loop.example/g01040/impl.errInvalid", "internal/strconv.uint64pow10", "math/bits.deBruijn32tab", "math/bits.deBruijn64tab", "loop.example/g01040/impl.errEmpty", "errors.errorType"], ifaces := true, plainKeys := false, leaving := true, apart := false, laid := [("math/bits.deBruijn32tab", laid_math_bits_deBruijn32tab), ("math/bits.deBruijn64tab", laid_math_bits_deBruijn64tab), ("internal/strconv.uint64pow10", laid_internal_strconv_uint64pow10), ("errors.errorType", laid_errors_errorType), ("loop.example/g01040/impl.errEmpty", laid_loop_example_g01040_impl_errEmpty), ("loop.example/g01040/impl.errInvalid", laid_loop_example_g01040_impl_errInvalid)], narrowed := true }
def FnSplitsUptoSaid : Prop := fnSplitsUptoRow.holds Tryd.pinned (OpenSpec.upto fnSplitsSpec)

/-- 'laws.FnStates', WHERE WHAT IT READS IS OF BULK AT MOST 1048576: true; the input reads as it did. -/
def fnStatesUptoRow : OpenClaim := { program := "ytlflblngbneacabdoor", sum := "bd654318919f91924230d3e8795285e192655873a3362426c21f20436fd957a5", func := "loop.example/g01040/laws.FnStates", spec := "fnStates", inPlace := ["internal/abi.NoEscape", "internal/bytealg.MakeNoZero"], named := ["internal/strconv.uint64pow10", "math/bits.deBruijn32tab", "math/bits.deBruijn64tab"], plainKeys := false, apart := false, laid := [("math/bits.deBruijn32tab", laid_math_bits_deBruijn32tab), ("math/bits.deBruijn64tab", laid_math_bits_deBruijn64tab), ("internal/strconv.uint64pow10", laid_internal_strconv_uint64pow10)], narrowed := true }
def FnStatesUptoSaid : Prop := fnStatesUptoRow.holds Tryd.pinned (OpenSpec.upto fnStatesSpec)

/-- 'laws.FnTop', WHERE WHAT IT READS IS OF BULK AT MOST 1048576: true; the input reads as it did. -/
def fnTopUptoRow : OpenClaim := { program := "ytlflblngbneacabdoor", sum := "bd654318919f91924230d3e8795285e192655873a3362426c21f20436fd957a5", func := "loop.example/g01040/laws.FnTop", spec := "fnTop", inPlace := ["internal/abi.NoEscape", "internal/bytealg.MakeNoZero", "internal/reflectlite.ValueOf", "(internal/reflectlite.Value).Type", "(internal/reflectlite.Value).IsNil", "internal/reflectlite.TypeOf", "(internal/reflectlite.Value).Elem", "(internal/reflectlite.Value).Set"], unfollowed := true, recurses := true, named := ["internal/strconv.uint64pow10", "math/bits.deBruijn32tab", "math/bits.deBruijn64tab", "loop.example/g01040/impl.errEmpty", "errors.errorType"], ifaces := true, plainKeys := false, leaving := true, apart := false, laid := [("math/bits.deBruijn32tab", laid_math_bits_deBruijn32tab), ("math/bits.deBruijn64tab", laid_math_bits_deBruijn64tab), ("internal/strconv.uint64pow10", laid_internal_strconv_uint64pow10), ("errors.errorType", laid_errors_errorType), ("loop.example/g01040/impl.errEmpty", laid_loop_example_g01040_impl_errEmpty)], narrowed := true }
def FnTopUptoSaid : Prop := fnTopUptoRow.holds Tryd.pinned (OpenSpec.upto fnTopSpec)

/-- 'laws.FnPools', WHERE WHAT IT READS IS OF BULK AT MOST 1048576: true; the input reads as it did. -/
def fnPoolsUptoRow : OpenClaim := { program := "ytlflblngbneacabdoor", sum := "bd654318919f91924230d3e8795285e192655873a3362426c21f20436fd957a5", func := "loop.example/g01040/laws.FnPools", spec := "fnPools", inPlace := ["internal/abi.NoEscape", "internal/bytealg.MakeNoZero", "internal/reflectlite.ValueOf", "(internal/reflectlite.Value).Type", "(internal/reflectlite.Value).IsNil", "internal/reflectlite.TypeOf", "(internal/reflectlite.Value).Elem", "(internal/reflectlite.Value).Set"], unfollowed := true, recurses := true, named := ["loop.example/g01040/impl.errEmpty", "errors.errorType"], ifaces := true, plainKeys := false, leaving := true, apart := false, laid := [("errors.errorType", laid_errors_errorType), ("loop.example/g01040/impl.errEmpty", laid_loop_example_g01040_impl_errEmpty)], narrowed := true }
def FnPoolsUptoSaid : Prop := fnPoolsUptoRow.holds Tryd.pinned (OpenSpec.upto fnPoolsSpec)

/-- 'laws.FnDisjunct', WHERE WHAT IT READS IS OF BULK AT MOST 1048576: true; the input reads as it did. -/
def fnDisjunctUptoRow : OpenClaim := { program := "ytlflblngbneacabdoor", sum := "bd654318919f91924230d3e8795285e192655873a3362426c21f20436fd957a5", func := "loop.example/g01040/laws.FnDisjunct", spec := "fnDisjunct", inPlace := ["internal/abi.NoEscape", "internal/bytealg.MakeNoZero", "internal/reflectlite.ValueOf", "(internal/reflectlite.Value).Type", "(internal/reflectlite.Value).IsNil", "internal/reflectlite.TypeOf", "(internal/reflectlite.Value).Elem", "(internal/reflectlite.Value).Set"], unfollowed := true, recurses := true, named := ["loop.example/g01040/impl.errEmpty", "errors.errorType"], ifaces := true, plainKeys := false, leaving := true, apart := false, laid := [("errors.errorType", laid_errors_errorType), ("loop.example/g01040/impl.errEmpty", laid_loop_example_g01040_impl_errEmpty)], narrowed := true }
def FnDisjunctUptoSaid : Prop := fnDisjunctUptoRow.holds Tryd.pinned (OpenSpec.upto fnDisjunctSpec)

/-- 'laws.FnExactFormatWeighing', WHERE WHAT IT READS IS OF BULK AT MOST 1048576: true; the input reads as it did. -/
def fnExactFormatWeighingUptoRow : OpenClaim := { program := "ytlflblngbneacabdoor", sum := "bd654318919f91924230d3e8795285e192655873a3362426c21f20436fd957a5", func := "loop.example/g01040/laws.FnExactFormatWeighing", spec := "fnExactFormatWeighing", inPlace := ["internal/abi.NoEscape", "internal/bytealg.MakeNoZero"], unfollowed := true, recurses := true, named := ["internal/strconv.uint64pow10", "math/bits.deBruijn32tab", "math/bits.deBruijn64tab"], plainKeys := false, leaving := true, apart := false, laid := [("math/bits.deBruijn32tab", laid_math_bits_deBruijn32tab), ("math/bits.deBruijn64tab", laid_math_bits_deBruijn64tab), ("internal/strconv.uint64pow10", laid_internal_strconv_uint64pow10)], narrowed := true }
def FnExactFormatWeighingUptoSaid : Prop := fnExactFormatWeighingUptoRow.holds Tryd.pinned (OpenSpec.upto fnExactFormatWeighingSpec)

end Rows
end Go.Proofs.YtlflblngbneacabDoor
