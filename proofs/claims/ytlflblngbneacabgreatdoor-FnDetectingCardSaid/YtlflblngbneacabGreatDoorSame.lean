/- The contract of the model's comparison of two lists of integers. Conditions: both read as integers and are short enough to be counted. -/
import Derived.Test.YtlflblngbneacabGreatDoorGBase
namespace Go.Proofs.YtlflblngbneacabGreatDoor
open Go.RowKit

end Go.Proofs.YtlflblngbneacabGreatDoor
