/- The contracts of the model's FormatSigns, ReadSigns, FormatResults and ReadResults. Conditions: the slices read as integers and as truth values; what comes in is short enough to be counted. -/
import Derived.Test.YtlflblngbneacabGreatDoorGRun
import Derived.Test.YtlflblngbneacabGreatDoorPoolsSpec
import Derived.Test.YtlflblngbneacabGreatDoorGBase
namespace Go.Proofs.YtlflblngbneacabGreatDoor
open Go.RowKit

/-- A list of the call's own, and whether it is one. -/
def GivesN (L : List Int) (b : Bool) (w : World) (e : Ending) (w' : World) : Prop := ∃ u, e = .returned (.tuple #[u, .bool b]) ∧ Own w' w.heap.size u L ∧ Below w.heap.size w w'
def GivesT (L : List Bool) (b : Bool) (w : World) (e : Ending) (w' : World) : Prop := ∃ u, e = .returned (.tuple #[u, .bool b]) ∧ OwnB w' w.heap.size u L ∧ Below w.heap.size w w'

end Go.Proofs.YtlflblngbneacabGreatDoor
