/-
  NARROWER THAN 'FOR EVERY INPUT', by the rows' own cells (each row's printed sentence says how): FnExactFormatCases: ifaces, laid · FnExactFormatSigns: ifaces, laid · FnExactReadSigns: ifaces, laid · FnExactFormatResults: ifaces, laid · FnExactReadResults: ifaces, laid · FnExactFormatState: laid · FnExactFormatPick: laid · FnExactFormatSets: ifaces, laid · FnExactReadSets: ifaces, laid.
  DERIVED. THE GIVEN ROWS OF THIS SEAT. 9 by the template 'for every input the law returns true; each argument reads behind the call as it read before'; 0 by the template 'total and deterministic' (their statements: YtlflblngbneacaaDoorTotals.lean).
  GIVEN WITH THE SEED: the statements are not yours to turn. If you find one false, say at which input.
  Laid BY PROGRAM, IN A SANDBOX (cutbox-rows.mjs): the forced cells as the released guide's own fill.sh prints them over the translation 792400e519b7dbad… (all of the seat's roots in one cut). By AI agents, Wed Nov 11 2026. No macro, syntax, notation, axiom, sorry.
-/
import Derived.Test.YtlflblngbneacaaDoorChecked
import GoSem.PinnedTables
import GoSem.Claim
import GoSem.ClaimJoined
import GoSem.ClaimMapViews
import Derived.JoinedTies
import Derived.KernelRfl
namespace Go.Proofs.YtlflblngbneacaaDoor
/- THE CELL 'sum', in the pinned program and in every row, IS THE sha256 OF THE DUMP (.gsa) THAT YtlflblngbneacaaDoorProg.lean LOADS. Nothing in Lean hashes anything: it is a label: what it is worth is what the hold of that sum in a sandbox is worth. -/
noncomputable def Tryd.pinned : Pinned := { name := "ytlflblngbneacaadoor", sum := "792400e519b7dbadea3ca19e1071dce672de26f8dd6dfa09565f1ebd89b8a33e", checked := Tryd.checked }
namespace Rows
def none {H : Type} : Left H := { results := [], args := [] }

/- WHAT THE LISTED PACKAGE-LEVEL VARIABLES READ AS WHEN THE CALL BEGINS. Each datum BY PROGRAM (the guide's laid-datum.mjs) off the statement by which the dump's own 'gosem.cut.vars' lays the variable. In a bare row this is a premise. The card (YtlflblngbneacaaDoorCards.lean) ties it to the program's text. -/
def laid_math_bits_deBruijn32tab {H : Type} : DataW H := .agg [.lit (.int .u8 0), .lit (.int .u8 1), .lit (.int .u8 28), .lit (.int .u8 2), .lit (.int .u8 29), .lit (.int .u8 14), .lit (.int .u8 24), .lit (.int .u8 3), .lit (.int .u8 30), .lit (.int .u8 22), .lit (.int .u8 20), .lit (.int .u8 15), .lit (.int .u8 25), .lit (.int .u8 17), .lit (.int .u8 4), .lit (.int .u8 8), .lit (.int .u8 31), .lit (.int .u8 27), .lit (.int .u8 13), .lit (.int .u8 23), .lit (.int .u8 21), .lit (.int .u8 19), .lit (.int .u8 16), .lit (.int .u8 7), .lit (.int .u8 26), .lit (.int .u8 12), .lit (.int .u8 18), .lit (.int .u8 6), .lit (.int .u8 11), .lit (.int .u8 5), .lit (.int .u8 10), .lit (.int .u8 9)]
def laid_math_bits_deBruijn64tab {H : Type} : DataW H := .agg [.lit (.int .u8 0), .lit (.int .u8 1), .lit (.int .u8 56), .lit (.int .u8 2), .lit (.int .u8 57), .lit (.int .u8 49), .lit (.int .u8 28), .lit (.int .u8 3), .lit (.int .u8 61), .lit (.int .u8 58), .lit (.int .u8 42), .lit (.int .u8 50), .lit (.int .u8 38), .lit (.int .u8 29), .lit (.int .u8 17), .lit (.int .u8 4), .lit (.int .u8 62), .lit (.int .u8 47), .lit (.int .u8 59), .lit (.int .u8 36), .lit (.int .u8 45), .lit (.int .u8 43), .lit (.int .u8 51), .lit (.int .u8 22), .lit (.int .u8 53), .lit (.int .u8 39), .lit (.int .u8 33), .lit (.int .u8 30), .lit (.int .u8 24), .lit (.int .u8 18), .lit (.int .u8 12), .lit (.int .u8 5), .lit (.int .u8 63), .lit (.int .u8 55), .lit (.int .u8 48), .lit (.int .u8 27), .lit (.int .u8 60), .lit (.int .u8 41), .lit (.int .u8 37), .lit (.int .u8 16), .lit (.int .u8 46), .lit (.int .u8 35), .lit (.int .u8 44), .lit (.int .u8 21), .lit (.int .u8 52), .lit (.int .u8 32), .lit (.int .u8 23), .lit (.int .u8 11), .lit (.int .u8 54), .lit (.int .u8 26), .lit (.int .u8 40), .lit (.int .u8 15), .lit (.int .u8 34), .lit (.int .u8 20), .lit (.int .u8 31), .lit (.int .u8 10), .lit (.int .u8 25), .lit (.int .u8 14), .lit (.int .u8 19), .lit (.int .u8 9), .lit (.int .u8 13), .lit (.int .u8 8), .lit (.int .u8 7), .lit (.int .u8 6)]
def laid_internal_strconv_uint64pow10 {H : Type} : DataW H := .agg [.lit (.int .u64 1), .lit (.int .u64 10), .lit (.int .u64 100), .lit (.int .u64 1000), .lit (.int .u64 10000), .lit (.int .u64 100000), .lit (.int .u64 1000000), .lit (.int .u64 10000000), .lit (.int .u64 100000000), .lit (.int .u64 1000000000), .lit (.int .u64 10000000000), .lit (.int .u64 100000000000), .lit (.int .u64 1000000000000), .lit (.int .u64 10000000000000), .lit (.int .u64 100000000000000), .lit (.int .u64 1000000000000000), .lit (.int .u64 10000000000000000), .lit (.int .u64 100000000000000000), .lit (.int .u64 1000000000000000000), .lit (.int .u64 10000000000000000000)]
def laid_errors_errorType {H : Type} : DataW H := .iface "internal/reflectlite.rtype" (.agg [.ptr (.lit (.string [101, 114, 114, 111, 114]))])
def laid_loop_example_g01040_impl_errEmpty {H : Type} : DataW H := .iface "*errors.errorString" (.ptr (.agg [.lit (.string [116, 104, 101, 114, 101, 32, 97, 114, 101, 32, 110, 111, 32, 101, 108, 101, 109, 101, 110, 116, 115])]))
def laid_unicode_utf8_acceptRanges {H : Type} : DataW H := .agg [.agg [.lit (.int .u8 128), .lit (.int .u8 191)], .agg [.lit (.int .u8 160), .lit (.int .u8 191)], .agg [.lit (.int .u8 128), .lit (.int .u8 159)], .agg [.lit (.int .u8 144), .lit (.int .u8 191)], .agg [.lit (.int .u8 128), .lit (.int .u8 143)], .agg [.lit (.int .u8 0), .lit (.int .u8 0)], .agg [.lit (.int .u8 0), .lit (.int .u8 0)], .agg [.lit (.int .u8 0), .lit (.int .u8 0)], .agg [.lit (.int .u8 0), .lit (.int .u8 0)], .agg [.lit (.int .u8 0), .lit (.int .u8 0)], .agg [.lit (.int .u8 0), .lit (.int .u8 0)], .agg [.lit (.int .u8 0), .lit (.int .u8 0)], .agg [.lit (.int .u8 0), .lit (.int .u8 0)], .agg [.lit (.int .u8 0), .lit (.int .u8 0)], .agg [.lit (.int .u8 0), .lit (.int .u8 0)], .agg [.lit (.int .u8 0), .lit (.int .u8 0)]]
def laid_loop_example_g01040_impl_errUnknown {H : Type} : DataW H := .iface "*errors.errorString" (.ptr (.agg [.lit (.string [116, 104, 101, 114, 101, 32, 105, 115, 32, 110, 111, 32, 115, 117, 99, 104, 32, 116, 101, 120, 116])]))
/-- One of Go's own tables, pinned by name: the form's constant. -/
def laid_unicode_utf8_first : DataW Unit := Go.Pinned.utf8First

/-- 'laws.FnExactFormatCases': WHATEVER THE INPUT: true; the input reads as it did. -/
def fnExactFormatCasesSpec : ChangeSpec := { name := "fnExactFormatCases", vars := ["loop.example/g01040/impl.errEmpty"], fn := fun _ => fun
  | [d, g1] => { results := [.lit (.bool true)], args := [d], vars := [g1] }
  | _ => none }
def fnExactFormatCasesRow : OpenClaim := { program := "ytlflblngbneacaadoor", sum := "792400e519b7dbadea3ca19e1071dce672de26f8dd6dfa09565f1ebd89b8a33e", func := "loop.example/g01040/laws.FnExactFormatCases", spec := "fnExactFormatCases", inPlace := ["internal/abi.NoEscape", "internal/bytealg.MakeNoZero", "internal/reflectlite.ValueOf", "(internal/reflectlite.Value).Type", "(internal/reflectlite.Value).IsNil", "internal/reflectlite.TypeOf", "(internal/reflectlite.Value).Elem", "(internal/reflectlite.Value).Set"], unfollowed := true, recurses := true, named := ["loop.example/g01040/impl.errEmpty", "internal/strconv.uint64pow10", "math/bits.deBruijn32tab", "math/bits.deBruijn64tab", "errors.errorType"], ifaces := true, apart := false, laid := [("math/bits.deBruijn32tab", laid_math_bits_deBruijn32tab), ("math/bits.deBruijn64tab", laid_math_bits_deBruijn64tab), ("internal/strconv.uint64pow10", laid_internal_strconv_uint64pow10), ("errors.errorType", laid_errors_errorType), ("loop.example/g01040/impl.errEmpty", laid_loop_example_g01040_impl_errEmpty)] }
def FnExactFormatCasesSaid : Prop := fnExactFormatCasesRow.holds Tryd.pinned (OpenSpec.ofChange fnExactFormatCasesSpec)

/-- ITS FALSE NEIGHBOUR: 'it returns false'. Refute it at one input. -/
def fnExactFormatCasesWrong : ChangeSpec := { name := "fnExactFormatCases", vars := ["loop.example/g01040/impl.errEmpty"], fn := fun _ => fun
  | [d, g1] => { results := [.lit (.bool false)], args := [d], vars := [g1] }
  | _ => none }
def FnExactFormatCasesWrongFalsely : Prop := fnExactFormatCasesRow.holds Tryd.pinned (OpenSpec.ofChange fnExactFormatCasesWrong)

/-- 'laws.FnExactFormatSigns': WHATEVER THE INPUT: true; the input reads as it did. -/
def fnExactFormatSignsSpec : ChangeSpec := { name := "fnExactFormatSigns", vars := ["loop.example/g01040/impl.errEmpty"], fn := fun _ => fun
  | [d, g1] => { results := [.lit (.bool true)], args := [d], vars := [g1] }
  | _ => none }
def fnExactFormatSignsRow : OpenClaim := { program := "ytlflblngbneacaadoor", sum := "792400e519b7dbadea3ca19e1071dce672de26f8dd6dfa09565f1ebd89b8a33e", func := "loop.example/g01040/laws.FnExactFormatSigns", spec := "fnExactFormatSigns", inPlace := ["internal/abi.NoEscape", "internal/bytealg.MakeNoZero", "internal/reflectlite.ValueOf", "(internal/reflectlite.Value).Type", "(internal/reflectlite.Value).IsNil", "internal/reflectlite.TypeOf", "(internal/reflectlite.Value).Elem", "(internal/reflectlite.Value).Set"], unfollowed := true, recurses := true, named := ["loop.example/g01040/impl.errEmpty", "errors.errorType"], ifaces := true, apart := false, laid := [("errors.errorType", laid_errors_errorType), ("loop.example/g01040/impl.errEmpty", laid_loop_example_g01040_impl_errEmpty)] }
def FnExactFormatSignsSaid : Prop := fnExactFormatSignsRow.holds Tryd.pinned (OpenSpec.ofChange fnExactFormatSignsSpec)

/-- ITS FALSE NEIGHBOUR: 'it returns false'. Refute it at one input. -/
def fnExactFormatSignsWrong : ChangeSpec := { name := "fnExactFormatSigns", vars := ["loop.example/g01040/impl.errEmpty"], fn := fun _ => fun
  | [d, g1] => { results := [.lit (.bool false)], args := [d], vars := [g1] }
  | _ => none }
def FnExactFormatSignsWrongFalsely : Prop := fnExactFormatSignsRow.holds Tryd.pinned (OpenSpec.ofChange fnExactFormatSignsWrong)

/-- 'laws.FnExactReadSigns': WHATEVER THE INPUT: true; the input reads as it did. -/
def fnExactReadSignsSpec : ChangeSpec := { name := "fnExactReadSigns", vars := ["loop.example/g01040/impl.errEmpty", "loop.example/g01040/impl.errUnknown"], fn := fun _ => fun
  | [d, g1, g2] => { results := [.lit (.bool true)], args := [d], vars := [g1, g2] }
  | _ => none }
def fnExactReadSignsRow : OpenClaim := { program := "ytlflblngbneacaadoor", sum := "792400e519b7dbadea3ca19e1071dce672de26f8dd6dfa09565f1ebd89b8a33e", func := "loop.example/g01040/laws.FnExactReadSigns", spec := "fnExactReadSigns", inPlace := ["internal/bytealg.CountString", "internal/bytealg.IndexByteString", "internal/bytealg.IndexString", "internal/reflectlite.TypeOf"], unfollowed := true, recurses := true, named := ["loop.example/g01040/impl.errEmpty", "unicode/utf8.first", "unicode/utf8.acceptRanges", "internal/bytealg.MaxLen", "loop.example/g01040/impl.errUnknown"], ifaces := true, apart := false, laid := [("unicode/utf8.acceptRanges", laid_unicode_utf8_acceptRanges), ("loop.example/g01040/impl.errEmpty", laid_loop_example_g01040_impl_errEmpty), ("loop.example/g01040/impl.errUnknown", laid_loop_example_g01040_impl_errUnknown), ("unicode/utf8.first", laid_unicode_utf8_first)] }
def FnExactReadSignsSaid : Prop := fnExactReadSignsRow.holds Tryd.pinned (OpenSpec.ofChange fnExactReadSignsSpec)

/-- ITS FALSE NEIGHBOUR: 'it returns false'. Refute it at one input. -/
def fnExactReadSignsWrong : ChangeSpec := { name := "fnExactReadSigns", vars := ["loop.example/g01040/impl.errEmpty", "loop.example/g01040/impl.errUnknown"], fn := fun _ => fun
  | [d, g1, g2] => { results := [.lit (.bool false)], args := [d], vars := [g1, g2] }
  | _ => none }
def FnExactReadSignsWrongFalsely : Prop := fnExactReadSignsRow.holds Tryd.pinned (OpenSpec.ofChange fnExactReadSignsWrong)

/-- 'laws.FnExactFormatResults': WHATEVER THE INPUT: true; the input reads as it did. -/
def fnExactFormatResultsSpec : ChangeSpec := { name := "fnExactFormatResults", vars := ["loop.example/g01040/impl.errEmpty"], fn := fun _ => fun
  | [d, g1] => { results := [.lit (.bool true)], args := [d], vars := [g1] }
  | _ => none }
def fnExactFormatResultsRow : OpenClaim := { program := "ytlflblngbneacaadoor", sum := "792400e519b7dbadea3ca19e1071dce672de26f8dd6dfa09565f1ebd89b8a33e", func := "loop.example/g01040/laws.FnExactFormatResults", spec := "fnExactFormatResults", inPlace := ["internal/abi.NoEscape", "internal/bytealg.MakeNoZero", "internal/reflectlite.ValueOf", "(internal/reflectlite.Value).Type", "(internal/reflectlite.Value).IsNil", "internal/reflectlite.TypeOf", "(internal/reflectlite.Value).Elem", "(internal/reflectlite.Value).Set"], unfollowed := true, recurses := true, named := ["loop.example/g01040/impl.errEmpty", "errors.errorType"], ifaces := true, apart := false, laid := [("errors.errorType", laid_errors_errorType), ("loop.example/g01040/impl.errEmpty", laid_loop_example_g01040_impl_errEmpty)] }
def FnExactFormatResultsSaid : Prop := fnExactFormatResultsRow.holds Tryd.pinned (OpenSpec.ofChange fnExactFormatResultsSpec)

/-- ITS FALSE NEIGHBOUR: 'it returns false'. Refute it at one input. -/
def fnExactFormatResultsWrong : ChangeSpec := { name := "fnExactFormatResults", vars := ["loop.example/g01040/impl.errEmpty"], fn := fun _ => fun
  | [d, g1] => { results := [.lit (.bool false)], args := [d], vars := [g1] }
  | _ => none }
def FnExactFormatResultsWrongFalsely : Prop := fnExactFormatResultsRow.holds Tryd.pinned (OpenSpec.ofChange fnExactFormatResultsWrong)

/-- 'laws.FnExactReadResults': WHATEVER THE INPUT: true; the input reads as it did. -/
def fnExactReadResultsSpec : ChangeSpec := { name := "fnExactReadResults", vars := ["loop.example/g01040/impl.errEmpty", "loop.example/g01040/impl.errUnknown"], fn := fun _ => fun
  | [d, g1, g2] => { results := [.lit (.bool true)], args := [d], vars := [g1, g2] }
  | _ => none }
def fnExactReadResultsRow : OpenClaim := { program := "ytlflblngbneacaadoor", sum := "792400e519b7dbadea3ca19e1071dce672de26f8dd6dfa09565f1ebd89b8a33e", func := "loop.example/g01040/laws.FnExactReadResults", spec := "fnExactReadResults", inPlace := ["internal/bytealg.CountString", "internal/bytealg.IndexByteString", "internal/bytealg.IndexString", "internal/reflectlite.TypeOf"], unfollowed := true, recurses := true, named := ["loop.example/g01040/impl.errEmpty", "unicode/utf8.first", "unicode/utf8.acceptRanges", "internal/bytealg.MaxLen", "loop.example/g01040/impl.errUnknown"], ifaces := true, apart := false, laid := [("unicode/utf8.acceptRanges", laid_unicode_utf8_acceptRanges), ("loop.example/g01040/impl.errEmpty", laid_loop_example_g01040_impl_errEmpty), ("loop.example/g01040/impl.errUnknown", laid_loop_example_g01040_impl_errUnknown), ("unicode/utf8.first", laid_unicode_utf8_first)] }
def FnExactReadResultsSaid : Prop := fnExactReadResultsRow.holds Tryd.pinned (OpenSpec.ofChange fnExactReadResultsSpec)

/-- ITS FALSE NEIGHBOUR: 'it returns false'. Refute it at one input. -/
def fnExactReadResultsWrong : ChangeSpec := { name := "fnExactReadResults", vars := ["loop.example/g01040/impl.errEmpty", "loop.example/g01040/impl.errUnknown"], fn := fun _ => fun
  | [d, g1, g2] => { results := [.lit (.bool false)], args := [d], vars := [g1, g2] }
  | _ => none }
def FnExactReadResultsWrongFalsely : Prop := fnExactReadResultsRow.holds Tryd.pinned (OpenSpec.ofChange fnExactReadResultsWrong)

/-- 'laws.FnExactFormatState': WHATEVER THE INPUT: true; the input reads as it did. -/
def fnExactFormatStateSpec : ChangeSpec := { name := "fnExactFormatState", fn := fun _ => fun
  | [d] => { results := [.lit (.bool true)], args := [d] }
  | _ => none }
def fnExactFormatStateRow : OpenClaim := { program := "ytlflblngbneacaadoor", sum := "792400e519b7dbadea3ca19e1071dce672de26f8dd6dfa09565f1ebd89b8a33e", func := "loop.example/g01040/laws.FnExactFormatState", spec := "fnExactFormatState", inPlace := ["internal/abi.NoEscape", "internal/bytealg.MakeNoZero"], recurses := true, named := ["internal/strconv.uint64pow10", "math/bits.deBruijn32tab", "math/bits.deBruijn64tab"], apart := false, laid := [("math/bits.deBruijn32tab", laid_math_bits_deBruijn32tab), ("math/bits.deBruijn64tab", laid_math_bits_deBruijn64tab), ("internal/strconv.uint64pow10", laid_internal_strconv_uint64pow10)] }
def FnExactFormatStateSaid : Prop := fnExactFormatStateRow.holds Tryd.pinned (OpenSpec.ofChange fnExactFormatStateSpec)

/-- ITS FALSE NEIGHBOUR: 'it returns false'. Refute it at one input. -/
def fnExactFormatStateWrong : ChangeSpec := { name := "fnExactFormatState", fn := fun _ => fun
  | [d] => { results := [.lit (.bool false)], args := [d] }
  | _ => none }
def FnExactFormatStateWrongFalsely : Prop := fnExactFormatStateRow.holds Tryd.pinned (OpenSpec.ofChange fnExactFormatStateWrong)

/-- 'laws.FnExactFormatPick': WHATEVER THE INPUT: true; the input reads as it did. -/
def fnExactFormatPickSpec : ChangeSpec := { name := "fnExactFormatPick", fn := fun _ => fun
  | [d] => { results := [.lit (.bool true)], args := [d] }
  | _ => none }
def fnExactFormatPickRow : OpenClaim := { program := "ytlflblngbneacaadoor", sum := "792400e519b7dbadea3ca19e1071dce672de26f8dd6dfa09565f1ebd89b8a33e", func := "loop.example/g01040/laws.FnExactFormatPick", spec := "fnExactFormatPick", inPlace := ["internal/abi.NoEscape", "internal/bytealg.MakeNoZero"], recurses := true, named := ["internal/strconv.uint64pow10", "math/bits.deBruijn32tab", "math/bits.deBruijn64tab"], apart := false, laid := [("math/bits.deBruijn32tab", laid_math_bits_deBruijn32tab), ("math/bits.deBruijn64tab", laid_math_bits_deBruijn64tab), ("internal/strconv.uint64pow10", laid_internal_strconv_uint64pow10)] }
def FnExactFormatPickSaid : Prop := fnExactFormatPickRow.holds Tryd.pinned (OpenSpec.ofChange fnExactFormatPickSpec)

/-- ITS FALSE NEIGHBOUR: 'it returns false'. Refute it at one input. -/
def fnExactFormatPickWrong : ChangeSpec := { name := "fnExactFormatPick", fn := fun _ => fun
  | [d] => { results := [.lit (.bool false)], args := [d] }
  | _ => none }
def FnExactFormatPickWrongFalsely : Prop := fnExactFormatPickRow.holds Tryd.pinned (OpenSpec.ofChange fnExactFormatPickWrong)

/-- 'laws.FnExactFormatSets': WHATEVER THE INPUT: true; the input reads as it did. -/
def fnExactFormatSetsSpec : ChangeSpec := { name := "fnExactFormatSets", vars := ["loop.example/g01040/impl.errEmpty"], fn := fun _ => fun
  | [d, g1] => { results := [.lit (.bool true)], args := [d], vars := [g1] }
  | _ => none }
def fnExactFormatSetsRow : OpenClaim := { program := "ytlflblngbneacaadoor", sum := "792400e519b7dbadea3ca19e1071dce672de26f8dd6dfa09565f1ebd89b8a33e", func := "loop.example/g01040/laws.FnExactFormatSets", spec := "fnExactFormatSets", inPlace := ["internal/abi.NoEscape", "internal/bytealg.MakeNoZero", "internal/reflectlite.ValueOf", "(internal/reflectlite.Value).Type", "(internal/reflectlite.Value).IsNil", "internal/reflectlite.TypeOf", "(internal/reflectlite.Value).Elem", "(internal/reflectlite.Value).Set"], unfollowed := true, recurses := true, named := ["loop.example/g01040/impl.errEmpty", "internal/strconv.uint64pow10", "math/bits.deBruijn32tab", "math/bits.deBruijn64tab", "errors.errorType"], ifaces := true, apart := false, laid := [("math/bits.deBruijn32tab", laid_math_bits_deBruijn32tab), ("math/bits.deBruijn64tab", laid_math_bits_deBruijn64tab), ("internal/strconv.uint64pow10", laid_internal_strconv_uint64pow10), ("errors.errorType", laid_errors_errorType), ("loop.example/g01040/impl.errEmpty", laid_loop_example_g01040_impl_errEmpty)] }
def FnExactFormatSetsSaid : Prop := fnExactFormatSetsRow.holds Tryd.pinned (OpenSpec.ofChange fnExactFormatSetsSpec)

/-- ITS FALSE NEIGHBOUR: 'it returns false'. Refute it at one input. -/
def fnExactFormatSetsWrong : ChangeSpec := { name := "fnExactFormatSets", vars := ["loop.example/g01040/impl.errEmpty"], fn := fun _ => fun
  | [d, g1] => { results := [.lit (.bool false)], args := [d], vars := [g1] }
  | _ => none }
def FnExactFormatSetsWrongFalsely : Prop := fnExactFormatSetsRow.holds Tryd.pinned (OpenSpec.ofChange fnExactFormatSetsWrong)

/-- 'laws.FnExactReadSets': WHATEVER THE INPUT: true; the input reads as it did. -/
def fnExactReadSetsSpec : ChangeSpec := { name := "fnExactReadSets", vars := ["loop.example/g01040/impl.errUnknown", "loop.example/g01040/impl.errEmpty"], fn := fun _ => fun
  | [d, g1, g2] => { results := [.lit (.bool true)], args := [d], vars := [g1, g2] }
  | _ => none }
def fnExactReadSetsRow : OpenClaim := { program := "ytlflblngbneacaadoor", sum := "792400e519b7dbadea3ca19e1071dce672de26f8dd6dfa09565f1ebd89b8a33e", func := "loop.example/g01040/laws.FnExactReadSets", spec := "fnExactReadSets", inPlace := ["internal/bytealg.IndexByteString", "internal/abi.NoEscape", "internal/bytealg.MakeNoZero", "internal/reflectlite.TypeOf"], unfollowed := true, recurses := true, named := ["loop.example/g01040/impl.errUnknown", "internal/strconv.uint64pow10", "math/bits.deBruijn32tab", "math/bits.deBruijn64tab", "loop.example/g01040/impl.errEmpty"], ifaces := true, apart := false, laid := [("math/bits.deBruijn32tab", laid_math_bits_deBruijn32tab), ("math/bits.deBruijn64tab", laid_math_bits_deBruijn64tab), ("internal/strconv.uint64pow10", laid_internal_strconv_uint64pow10), ("loop.example/g01040/impl.errEmpty", laid_loop_example_g01040_impl_errEmpty), ("loop.example/g01040/impl.errUnknown", laid_loop_example_g01040_impl_errUnknown)] }
def FnExactReadSetsSaid : Prop := fnExactReadSetsRow.holds Tryd.pinned (OpenSpec.ofChange fnExactReadSetsSpec)

/-- ITS FALSE NEIGHBOUR: 'it returns false'. Refute it at one input. -/
def fnExactReadSetsWrong : ChangeSpec := { name := "fnExactReadSets", vars := ["loop.example/g01040/impl.errUnknown", "loop.example/g01040/impl.errEmpty"], fn := fun _ => fun
  | [d, g1, g2] => { results := [.lit (.bool false)], args := [d], vars := [g1, g2] }
  | _ => none }
def FnExactReadSetsWrongFalsely : Prop := fnExactReadSetsRow.holds Tryd.pinned (OpenSpec.ofChange fnExactReadSetsWrong)

/- THE SECOND FORM. 'bulk': how many values and letters a reading holds, each counted each time it is reached (what is shared counts as often as it is met; a slice's spare places count too). A statement '..UptoSaid' is the law's where the arguments, and the package variables that the reading takes, are together of bulk at most 1048576: NARROWER than '..Said'. Prove '..Said' where nothing that the law and all that it calls make is longer than what came in: it says more and counts as full. Else prove '..UptoSaid'. A law counts once. -/
mutual
def uptoBulk {H : Type} : DataW H → Nat
  | .lit (.string bytes) => bytes.length + 1
  | .lit _ => 1
  | .nil => 1
  | .ptr d => uptoBulk d + 1
  | .slice elems spare => uptoBulkAll elems + uptoBulkAll spare + 1
  | .agg parts => uptoBulkAll parts + 1
  | .iface _ d => uptoBulk d + 1
  | .map entries => uptoBulkEntries entries + 1
  | .held _ => 1
def uptoBulkAll {H : Type} : List (DataW H) → Nat
  | [] => 0
  | d :: r => uptoBulk d + uptoBulkAll r
def uptoBulkEntries {H : Type} : List (Lit × DataW H) → Nat
  | [] => 0
  | x :: r => uptoBulkEntry x + uptoBulkEntries r
def uptoBulkEntry {H : Type} : Lit × DataW H → Nat
  | (.string bytes, d) => bytes.length + uptoBulk d + 1
  | (_, d) => uptoBulk d + 1
 end
def uptoSmall : (H : Type) → List (DataW H) → Bool := fun _ ds => decide (uptoBulkAll ds ≤ 1048576)
def OpenSpec.upto (s : _root_.Go.ChangeSpec) : _root_.Go.OpenSpec := { _root_.Go.OpenSpec.ofChange s with cond := some uptoSmall }

/-- 'laws.FnExactFormatCases', WHERE WHAT IT READS IS OF BULK AT MOST 1048576: true; the input reads as it did. -/
def fnExactFormatCasesUptoRow : OpenClaim := { program := "ytlflblngbneacaadoor", sum := "792400e519b7dbadea3ca19e1071dce672de26f8dd6dfa09565f1ebd89b8a33e", func := "loop.example/g01040/laws.FnExactFormatCases", spec := "fnExactFormatCases", inPlace := ["internal/abi.NoEscape", "internal/bytealg.MakeNoZero", "internal/reflectlite.ValueOf", "(internal/reflectlite.Value).Type", "(internal/reflectlite.Value).IsNil", "internal/reflectlite.TypeOf", "(internal/reflectlite.Value).Elem", "(internal/reflectlite.Value).Set"], unfollowed := true, recurses := true, named := ["loop.example/g01040/impl.errEmpty", "internal/strconv.uint64pow10", "math/bits.deBruijn32tab", "math/bits.deBruijn64tab", "errors.errorType"], ifaces := true, apart := false, laid := [("math/bits.deBruijn32tab", laid_math_bits_deBruijn32tab), ("math/bits.deBruijn64tab", laid_math_bits_deBruijn64tab), ("internal/strconv.uint64pow10", laid_internal_strconv_uint64pow10), ("errors.errorType", laid_errors_errorType), ("loop.example/g01040/impl.errEmpty", laid_loop_example_g01040_impl_errEmpty)], narrowed := true }
def FnExactFormatCasesUptoSaid : Prop := fnExactFormatCasesUptoRow.holds Tryd.pinned (OpenSpec.upto fnExactFormatCasesSpec)

/-- 'laws.FnExactFormatSigns', WHERE WHAT IT READS IS OF BULK AT MOST 1048576: true; the input reads as it did. -/
def fnExactFormatSignsUptoRow : OpenClaim := { program := "ytlflblngbneacaadoor", sum := "792400e519b7dbadea3ca19e1071dce672de26f8dd6dfa09565f1ebd89b8a33e", func := "loop.example/g01040/laws.FnExactFormatSigns", spec := "fnExactFormatSigns", inPlace := ["internal/abi.NoEscape", "internal/bytealg.MakeNoZero", "internal/reflectlite.ValueOf", "(internal/reflectlite.Value).Type", "(internal/reflectlite.Value).IsNil", "internal/reflectlite.TypeOf", "(internal/reflectlite.Value).Elem", "(internal/reflectlite.Value).Set"], unfollowed := true, recurses := true, named := ["loop.example/g01040/impl.errEmpty", "errors.errorType"], ifaces := true, apart := false, laid := [("errors.errorType", laid_errors_errorType), ("loop.example/g01040/impl.errEmpty", laid_loop_example_g01040_impl_errEmpty)], narrowed := true }
def FnExactFormatSignsUptoSaid : Prop := fnExactFormatSignsUptoRow.holds Tryd.pinned (OpenSpec.upto fnExactFormatSignsSpec)

/-- 'laws.FnExactReadSigns', WHERE WHAT IT READS IS OF BULK AT MOST 1048576: true; the input reads as it did. -/
def fnExactReadSignsUptoRow : OpenClaim := { program := "ytlflblngbneacaadoor", sum := "792400e519b7dbadea3ca19e1071dce672de26f8dd6dfa09565f1ebd89b8a33e", func := "loop.example/g01040/laws.FnExactReadSigns", spec := "fnExactReadSigns", inPlace := ["internal/bytealg.CountString", "internal/bytealg.IndexByteString", "internal/bytealg.IndexString", "internal/reflectlite.TypeOf"], unfollowed := true, recurses := true, named := ["loop.example/g01040/impl.errEmpty", "unicode/utf8.first", "unicode/utf8.acceptRanges", "internal/bytealg.MaxLen", "loop.example/g01040/impl.errUnknown"], ifaces := true, apart := false, laid := [("unicode/utf8.acceptRanges", laid_unicode_utf8_acceptRanges), ("loop.example/g01040/impl.errEmpty", laid_loop_example_g01040_impl_errEmpty), ("loop.example/g01040/impl.errUnknown", laid_loop_example_g01040_impl_errUnknown), ("unicode/utf8.first", laid_unicode_utf8_first)], narrowed := true }
def FnExactReadSignsUptoSaid : Prop := fnExactReadSignsUptoRow.holds Tryd.pinned (OpenSpec.upto fnExactReadSignsSpec)

/-- 'laws.FnExactFormatResults', WHERE WHAT IT READS IS OF BULK AT MOST 1048576: true; the input reads as it did. -/
def fnExactFormatResultsUptoRow : OpenClaim := { program := "ytlflblngbneacaadoor", sum := "792400e519b7dbadea3ca19e1071dce672de26f8dd6dfa09565f1ebd89b8a33e", func := "loop.example/g01040/laws.FnExactFormatResults", spec := "fnExactFormatResults", inPlace := ["internal/abi.NoEscape", "internal/bytealg.MakeNoZero", "internal/reflectlite.ValueOf", "(internal/reflectlite.Value).Type", "(internal/reflectlite.Value).IsNil", "internal/reflectlite.TypeOf", "(internal/reflectlite.Value).Elem", "(internal/reflectlite.Value).Set"], unfollowed := true, recurses := true, named := ["loop.example/g01040/impl.errEmpty", "errors.errorType"], ifaces := true, apart := false, laid := [("errors.errorType", laid_errors_errorType), ("loop.example/g01040/impl.errEmpty", laid_loop_example_g01040_impl_errEmpty)], narrowed := true }
def FnExactFormatResultsUptoSaid : Prop := fnExactFormatResultsUptoRow.holds Tryd.pinned (OpenSpec.upto fnExactFormatResultsSpec)

/-- 'laws.FnExactReadResults', WHERE WHAT IT READS IS OF BULK AT MOST 1048576: true; the input reads as it did. -/
def fnExactReadResultsUptoRow : OpenClaim := { program := "ytlflblngbneacaadoor", sum := "792400e519b7dbadea3ca19e1071dce672de26f8dd6dfa09565f1ebd89b8a33e", func := "loop.example/g01040/laws.FnExactReadResults", spec := "fnExactReadResults", inPlace := ["internal/bytealg.CountString", "internal/bytealg.IndexByteString", "internal/bytealg.IndexString", "internal/reflectlite.TypeOf"], unfollowed := true, recurses := true, named := ["loop.example/g01040/impl.errEmpty", "unicode/utf8.first", "unicode/utf8.acceptRanges", "internal/bytealg.MaxLen", "loop.example/g01040/impl.errUnknown"], ifaces := true, apart := false, laid := [("unicode/utf8.acceptRanges", laid_unicode_utf8_acceptRanges), ("loop.example/g01040/impl.errEmpty", laid_loop_example_g01040_impl_errEmpty), ("loop.example/g01040/impl.errUnknown", laid_loop_example_g01040_impl_errUnknown), ("unicode/utf8.first", laid_unicode_utf8_first)], narrowed := true }
def FnExactReadResultsUptoSaid : Prop := fnExactReadResultsUptoRow.holds Tryd.pinned (OpenSpec.upto fnExactReadResultsSpec)

/-- 'laws.FnExactFormatState', WHERE WHAT IT READS IS OF BULK AT MOST 1048576: true; the input reads as it did. -/
def fnExactFormatStateUptoRow : OpenClaim := { program := "ytlflblngbneacaadoor", sum := "792400e519b7dbadea3ca19e1071dce672de26f8dd6dfa09565f1ebd89b8a33e", func := "loop.example/g01040/laws.FnExactFormatState", spec := "fnExactFormatState", inPlace := ["internal/abi.NoEscape", "internal/bytealg.MakeNoZero"], recurses := true, named := ["internal/strconv.uint64pow10", "math/bits.deBruijn32tab", "math/bits.deBruijn64tab"], apart := false, laid := [("math/bits.deBruijn32tab", laid_math_bits_deBruijn32tab), ("math/bits.deBruijn64tab", laid_math_bits_deBruijn64tab), ("internal/strconv.uint64pow10", laid_internal_strconv_uint64pow10)], narrowed := true }
def FnExactFormatStateUptoSaid : Prop := fnExactFormatStateUptoRow.holds Tryd.pinned (OpenSpec.upto fnExactFormatStateSpec)

/-- 'laws.FnExactFormatPick', WHERE WHAT IT READS IS OF BULK AT MOST 1048576: true; the input reads as it did. -/
def fnExactFormatPickUptoRow : OpenClaim := { program := "ytlflblngbneacaadoor", sum := "792400e519b7dbadea3ca19e1071dce672de26f8dd6dfa09565f1ebd89b8a33e", func := "loop.example/g01040/laws.FnExactFormatPick", spec := "fnExactFormatPick", inPlace := ["internal/abi.NoEscape", "internal/bytealg.MakeNoZero"], recurses := true, named := ["internal/strconv.uint64pow10", "math/bits.deBruijn32tab", "math/bits.deBruijn64tab"], apart := false, laid := [("math/bits.deBruijn32tab", laid_math_bits_deBruijn32tab), ("math/bits.deBruijn64tab", laid_math_bits_deBruijn64tab), ("internal/strconv.uint64pow10", laid_internal_strconv_uint64pow10)], narrowed := true }
def FnExactFormatPickUptoSaid : Prop := fnExactFormatPickUptoRow.holds Tryd.pinned (OpenSpec.upto fnExactFormatPickSpec)

/-- 'laws.FnExactFormatSets', WHERE WHAT IT READS IS OF BULK AT MOST 1048576: true; the input reads as it did. -/
def fnExactFormatSetsUptoRow : OpenClaim := { program := "ytlflblngbneacaadoor", sum := "792400e519b7dbadea3ca19e1071dce672de26f8dd6dfa09565f1ebd89b8a33e", func := "loop.example/g01040/laws.FnExactFormatSets", spec := "fnExactFormatSets", inPlace := ["internal/abi.NoEscape", "internal/bytealg.MakeNoZero", "internal/reflectlite.ValueOf", "(internal/reflectlite.Value).Type", "(internal/reflectlite.Value).IsNil", "internal/reflectlite.TypeOf", "(internal/reflectlite.Value).Elem", "(internal/reflectlite.Value).Set"], unfollowed := true, recurses := true, named := ["loop.example/g01040/impl.errEmpty", "internal/strconv.uint64pow10", "math/bits.deBruijn32tab", "math/bits.deBruijn64tab", "errors.errorType"], ifaces := true, apart := false, laid := [("math/bits.deBruijn32tab", laid_math_bits_deBruijn32tab), ("math/bits.deBruijn64tab", laid_math_bits_deBruijn64tab), ("internal/strconv.uint64pow10", laid_internal_strconv_uint64pow10), ("errors.errorType", laid_errors_errorType), ("loop.example/g01040/impl.errEmpty", laid_loop_example_g01040_impl_errEmpty)], narrowed := true }
def FnExactFormatSetsUptoSaid : Prop := fnExactFormatSetsUptoRow.holds Tryd.pinned (OpenSpec.upto fnExactFormatSetsSpec)

/-- 'laws.FnExactReadSets', WHERE WHAT IT READS IS OF BULK AT MOST 1048576: true; the input reads as it did. -/
def fnExactReadSetsUptoRow : OpenClaim := { program := "ytlflblngbneacaadoor", sum := "792400e519b7dbadea3ca19e1071dce672de26f8dd6dfa09565f1ebd89b8a33e", func := "loop.example/g01040/laws.FnExactReadSets", spec := "fnExactReadSets", inPlace := ["internal/bytealg.IndexByteString", "internal/abi.NoEscape", "internal/bytealg.MakeNoZero", "internal/reflectlite.TypeOf"], unfollowed := true, recurses := true, named := ["loop.example/g01040/impl.errUnknown", "internal/strconv.uint64pow10", "math/bits.deBruijn32tab", "math/bits.deBruijn64tab", "loop.example/g01040/impl.errEmpty"], ifaces := true, apart := false, laid := [("math/bits.deBruijn32tab", laid_math_bits_deBruijn32tab), ("math/bits.deBruijn64tab", laid_math_bits_deBruijn64tab), ("internal/strconv.uint64pow10", laid_internal_strconv_uint64pow10), ("loop.example/g01040/impl.errEmpty", laid_loop_example_g01040_impl_errEmpty), ("loop.example/g01040/impl.errUnknown", laid_loop_example_g01040_impl_errUnknown)], narrowed := true }
def FnExactReadSetsUptoSaid : Prop := fnExactReadSetsUptoRow.holds Tryd.pinned (OpenSpec.upto fnExactReadSetsSpec)

end Rows
end Go.Proofs.YtlflblngbneacaaDoor
