/- The walks of the laws of TurnWeighing and of outcomes: each returns true for every argument. Condition: the lists that came in read as integers, or as bytes. -/
import Derived.Test.YtdfcjdepfikboaaTurnImpl
import Derived.Test.YtdfcjdepfikboaaWeighWalks
import Derived.Test.YtdfcjdepfikboaaOutcomesLaw
import Derived.Test.YtdfcjdepfikboaaMakeW
namespace Go.Proofs.Ytdfcjdepfikboaa
open Go.RowKit

theorem turnIs (L R : List Int) (ml : L.length ≤ 1048576) (mr : R.length ≤ 1048576) : TurnIs 11 L R :=
  fun W gl cl gr cr h1 h2 _ _ => implTurn gl gr cl cr L R W h1 h2 (by omega) (by omega)
theorem walkFnExactTurnWeighing (w : World) (vl : Value) (L : List Int) (cl : CameInts w vl L) (vr : Value) (R : List Int) (cr : CameInts w vr R) :
    Calls Try.prog 8 #[.agg #[vl, vr]] w fun e w' => e = .returned (.bool true) ∧ Below w.heap.size w w' :=
  lawTurnWeighing turnIs w vl L cl vr R cr
theorem walkFnOutcomes (w : World) (a : Option Addr) (len cap : Nat) (zs : List Int) (h : IsBytes w a len cap zs) :
    Calls Try.prog 3 #[.slice a len cap] w fun e w' => e = .returned (.bool true) ∧ Below w.heap.size w w' :=
  lawOutcomes specMakeW okIs outIs turnIs w a len cap (bytesAt_of h) (bytes_len h)
end Go.Proofs.Ytdfcjdepfikboaa
