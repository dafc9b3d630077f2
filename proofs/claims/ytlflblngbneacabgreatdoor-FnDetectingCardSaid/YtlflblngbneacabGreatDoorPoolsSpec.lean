/- The contracts of the model's CountItems, PoolsOk, TestPools and their helpers. Conditions: the slices read as integers and as truth values. -/
import Derived.Test.YtlflblngbneacabGreatDoorGPool
import Derived.Test.YtlflblngbneacabGreatDoorBools
import Derived.Test.YtlflblngbneacabGreatDoorGBase
import Derived.Test.YtlflblngbneacabGreatDoorGWei
namespace Go.Proofs.YtlflblngbneacabGreatDoor
open Go.RowKit

/-- A function that gives back a list of truth values of its own. -/
def ListsB (L : List Bool) (w : World) (e : Ending) (w' : World) : Prop := ∃ v, e = .returned v ∧ OwnB w' w.heap.size v L ∧ Below w.heap.size w w'
theorem OwnB.lit (X : World) (B : Nat) (hB : B ≤ X.heap.size) : OwnB (X.alloc (.cells #[] 4)) B (.slice (some ⟨X.heap.size, 0, none⟩) 0 0) [] :=
  World.ownsRow_lit (base := B) (e := 4) (size := 1) X #[] 0 hB (by unfold maxLen; omega) rfl

end Go.Proofs.YtlflblngbneacabGreatDoor
