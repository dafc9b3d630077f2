/- The contracts of the model's SumPools, IsDetecting and DecodeSums, and of what they call. Conditions: the slices read as integers. -/
import Derived.Test.YthfnbnjajcigeaaSumPlain
import Derived.Test.YthfnbnjajcigeaaPoolsSpec
import Derived.Test.YthfnbnjajcigeaaSameI
namespace Go.Proofs.Ythfnbnjajcigeaa
open Go.RowKit

/-- A list of the call's own. -/
def ListsS (L : List Int) (w : World) (e : Ending) (w' : World) : Prop := ∃ v, e = .returned v ∧ Own w' w.heap.size v L ∧ Below w.heap.size w w'
/-- .. and whether it is one. -/
def GivesS (L : List Int) (b : Bool) (w : World) (e : Ending) (w' : World) : Prop :=
  ∃ u, e = .returned (.tuple #[u, .bool b]) ∧ Own w' w.heap.size u L ∧ Below w.heap.size w w'

end Go.Proofs.Ythfnbnjajcigeaa
