/- The contracts of the model's SplitBy and TellsMost: three lists of the call's own, in different blocks. Conditions: the sides and the list of cases read as integers and are short enough to be counted. -/
import Derived.Test.YtlflblngbneacabGreatDoorGWei
namespace Go.Proofs.YtlflblngbneacabGreatDoor
open Go.RowKit

/-- What a function that parts a list into three gives back. -/
def Parts (f : Int → Int) (l : List Int) (w : World) (e : Ending) (w' : World) : Prop :=
  ∃ v1 v2 v3, e = .returned (.tuple #[v1, v2, v3]) ∧ Three w' w.heap.size v1 v2 v3 (lessL f l) (evenL f l) (moreL f l) ∧ Below w.heap.size w w'

/-- The length of the longest part. -/
def mostI (f : Int → Int) (l : List Int) : Int := max (max ((lessL f l).length : Int) ((evenL f l).length : Int)) ((moreL f l).length : Int)

end Go.Proofs.YtlflblngbneacabGreatDoor
