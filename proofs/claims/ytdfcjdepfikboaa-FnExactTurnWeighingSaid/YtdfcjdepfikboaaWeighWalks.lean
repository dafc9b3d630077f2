/- The walks of the laws of WeighingOk and OutcomeOf: each returns true for every argument. Condition: the sides that came in read as integers. -/
import Derived.Test.YtdfcjdepfikboaaOutImpl
import Derived.Test.YtdfcjdepfikboaaWeighLaw
namespace Go.Proofs.Ytdfcjdepfikboaa
open Go.RowKit

theorem okIs (L R : List Int) (n : Int) (ml : L.length ≤ 1048576) (mr : R.length ≤ 1048576) (_ : -9223372036854775808 ≤ n) (_ : n ≤ 9223372036854775807) : OkIs 12 L R n :=
  fun W vl vr h1 h2 => implWeighingOk vl vr L R n W h1 h2 (by omega) (by omega)
theorem outIs (L R : List Int) (n : Int) (ml : L.length ≤ 1048576) (mr : R.length ≤ 1048576) (n0 : -9223372036854775808 ≤ n) (n1 : n ≤ 9223372036854775807) : OutIs 13 L R n :=
  fun W vl vr h1 h2 => implOutcome vl vr L R n W h1 h2 (by omega) (by omega) n0 n1
theorem walkFnExactWeighingOk (w : World) (vl : Value) (L : List Int) (cl : CameInts w vl L) (vr : Value) (R : List Int) (cr : CameInts w vr R) (n : Int) (wn : (Lit.int .i64 n).wf = true) :
    Calls Try.prog 4 #[.agg #[vl, vr], .int .i64 n] w fun e w' => e = .returned (.bool true) ∧ Below w.heap.size w w' :=
  lawWeighingOk okIs w vl L cl vr R cr n wn
theorem walkFnExactOutcomeOf (w : World) (vl : Value) (L : List Int) (cl : CameInts w vl L) (vr : Value) (R : List Int) (cr : CameInts w vr R) (n : Int) (wn : (Lit.int .i64 n).wf = true) :
    Calls Try.prog 5 #[.agg #[vl, vr], .int .i64 n] w fun e w' => e = .returned (.bool true) ∧ Below w.heap.size w w' :=
  lawOutcomeOf outIs w vl L cl vr R cr n wn
end Go.Proofs.Ytdfcjdepfikboaa
