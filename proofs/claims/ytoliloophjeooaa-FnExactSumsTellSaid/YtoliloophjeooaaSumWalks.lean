/- The walks of the exact laws of SumPools, SumsTell, IsDetecting, DecodeSums, FirstDetecting, FewestSums and ExtendDetecting: each returns true for every argument. No condition. -/
import Derived.Test.YtoliloophjeooaaSumDecImpl
import Derived.Test.YtoliloophjeooaaFirstImplS
import Derived.Test.YtoliloophjeooaaExtImpl
import Derived.Test.YtoliloophjeooaaSumLaws
import Derived.Test.YtoliloophjeooaaSumExtLaw
namespace Go.Proofs.Ytoliloophjeooaa
open Go.RowKit

theorem walkFnExactSumPools (w : World) (n : Int) (_ : (Lit.int .i64 n).wf = true) (v : Value) (P : List Int) (cp : CameInts w v P) (b : Int) (_ : (Lit.int .i64 b).wf = true) :
    Calls Try.prog 3 #[.int .i64 n, v, .int .i64 b] w fun e w' => e = .returned (.bool true) ∧ Below w.heap.size w w' :=
  lawSumPools n P b w v cp.1 fun hm W vP hP => implSumPools n vP P b W hP hm
theorem walkFnExactSumsTell (w : World) (n : Int) (_ : (Lit.int .i64 n).wf = true) (v : Value) (P : List Int) (cp : CameInts w v P) :
    Calls Try.prog 4 #[.int .i64 n, v] w fun e w' => e = .returned (.bool true) ∧ Below w.heap.size w w' :=
  lawSumsTell n P w v cp.1 fun hm W vP hP => implTell n vP P W hP hm
theorem walkFnExactIsDetecting (w : World) (n : Int) (_ : (Lit.int .i64 n).wf = true) (v : Value) (P : List Int) (cp : CameInts w v P) :
    Calls Try.prog 5 #[.int .i64 n, v] w fun e w' => e = .returned (.bool true) ∧ Below w.heap.size w w' :=
  lawIsDetecting n P w v cp.1 fun hm W vP hP => implDetecting n vP P W hP hm
theorem walkFnExactDecodeSums (w : World) (n : Int) (_ : (Lit.int .i64 n).wf = true) (v : Value) (P : List Int) (cp : CameInts w v P) (vs : Value) (S : List Int) (cs : CameInts w vs S) :
    Calls Try.prog 6 #[.int .i64 n, v, vs] w fun e w' => e = .returned (.bool true) ∧ Below w.heap.size w w' :=
  lawDecodeSums n P S w v vs cp.1 cs.1 fun hm hs W vP vS hP hS => implDecodeS n vP vS P S W hP hS hm hs
theorem walkFnExactFirstDetecting (n : Int) (_ : (Lit.int .i64 n).wf = true) (w : World) :
    Calls Try.prog 7 #[.int .i64 n] w fun e w' => e = .returned (.bool true) ∧ Below w.heap.size w w' :=
  lawFirstDetecting n w fun W => implFirst n W
theorem walkFnExactFewestSums (n : Int) (_ : (Lit.int .i64 n).wf = true) (w : World) :
    Calls Try.prog 8 #[.int .i64 n] w fun e w' => e = .returned (.bool true) ∧ Below w.heap.size w w' :=
  lawFewestSums n w fun W => implFewestS n W
theorem walkFnExactExtendDetecting (w : World) (n : Int) (_ : (Lit.int .i64 n).wf = true) (v : Value) (P : List Int) (cp : CameInts w v P) :
    Calls Try.prog 9 #[.int .i64 n, v] w fun e w' => e = .returned (.bool true) ∧ Below w.heap.size w w' :=
  lawExtendDetecting n P w v cp.1 fun hm W vP hP => implExtend n vP P W hP hm
end Go.Proofs.Ytoliloophjeooaa
