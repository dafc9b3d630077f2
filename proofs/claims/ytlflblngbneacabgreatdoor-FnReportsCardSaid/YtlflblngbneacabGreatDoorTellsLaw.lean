/- The walk of the law of TellsMost round the contract of the program's function: it returns true for every argument. Condition: the slices that came in read as integers. -/
import Derived.Test.YtlflblngbneacabGreatDoorWeighLaw
import Derived.Test.YtlflblngbneacabGreatDoorSplitBySpec
namespace Go.Proofs.YtlflblngbneacabGreatDoor
open Go.RowKit

/-- Every number fits Go's int. -/
def AllIn (l : List Int) : Prop := ∀ x ∈ l, -9223372036854775808 ≤ x ∧ x ≤ 9223372036854775807
theorem allIn_of {l : List Int} (h : ∀ x ∈ l, (Lit.int .i64 x).wf = true) : AllIn l := fun x hx => range_of (h x hx)

/-- The contract of a function that tells the length of the longest part. -/
def MostIs (f : FuncId) (L R l : List Int) : Prop :=
  ∀ W vl vr vc, IntsAt W vl L → IntsAt W vr R → IntsAt W vc l → Calls Tryz.prog f #[.agg #[vl, vr], vc] W fun e w' => e = .returned (.int .i64 (mostI (outI L R) l)) ∧ Below W.heap.size W w'

end Go.Proofs.YtlflblngbneacabGreatDoor
