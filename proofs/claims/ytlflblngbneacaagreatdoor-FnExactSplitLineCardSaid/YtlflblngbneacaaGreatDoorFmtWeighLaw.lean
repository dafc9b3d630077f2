/- The walk of the law of FormatWeighing round the contract of the program's function: it returns true for every argument. Conditions: the sides that came in read as integers; the library's table of powers of ten is as its text lays it. -/
import Derived.Test.YtlflblngbneacaaGreatDoorWeighLaw
import Derived.Test.YtlflblngbneacaaGreatDoorFmtWeighSpec
namespace Go.Proofs.YtlflblngbneacaaGreatDoor
open Go.RowKit

/-- The contract of a function that writes a weighing as text. -/
def FmtIs (f : FuncId) (L R : List Int) : Prop :=
  ∀ W vl vr, IntsAt W vl L → IntsAt W vr R → TabOk W → Calls Tryz.prog f #[.agg #[vl, vr]] W fun e w' => e = .returned (.string (weighT L R)) ∧ Below W.heap.size W w'

end Go.Proofs.YtlflblngbneacaaGreatDoor
