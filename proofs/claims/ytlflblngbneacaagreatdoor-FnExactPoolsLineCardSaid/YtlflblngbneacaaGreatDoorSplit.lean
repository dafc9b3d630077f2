/- The contracts of SplitAny, in the model and in the program: both return the parts of the text in a list of the call's own. Condition: the texts have at most 1048576 bytes each. -/
import Derived.Test.YtlflblngbneacaaGreatDoorGBase
import Derived.Test.YtlflblngbneacaaGreatDoorGSpl
import Derived.Test.YtlflblngbneacaaGreatDoorShelf
import Derived.Lib.IndexAny
namespace Go.Proofs.YtlflblngbneacaaGreatDoor
open Go.RowKit

theorem infoStr : (Tryz.prog.info? 9).map (fun i => (i.zero, i.size, i.bytes)) = some (some (.string ByteArray.empty), 1, 16) := by kernel_rfl

theorem has_yes {y : ByteArray} {c : UInt8} (h : isBy y c = true) : 0 ≤ Lib.indexByte y.data.toList c := by
  unfold isBy at h
  rw [Lib.contains_iff_indexByte] at h
  exact of_decide_eq_true h
theorem has_no {y : ByteArray} {c : UInt8} (h : isBy y c = false) : Lib.indexByte y.data.toList c < 0 := by
  unfold isBy at h
  rw [Lib.contains_iff_indexByte] at h
  have := of_decide_eq_false h
  omega

/-- What a function that splits s by the bytes of y gives back. -/
def Splits (s y : ByteArray) (w : World) (e : Ending) (w' : World) : Prop :=
  ∃ v, e = .returned v ∧ w'.ownsRow w.heap.size 9 1 v (parts s (isBy y)).length ((parts s (isBy y)).map Value.string) ∧ Below w.heap.size w w'

end Go.Proofs.YtlflblngbneacaaGreatDoor
