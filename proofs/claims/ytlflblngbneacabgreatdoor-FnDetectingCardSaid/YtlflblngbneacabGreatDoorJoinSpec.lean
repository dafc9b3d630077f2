/- The contract of the model's Join: it returns the elements joined. Condition: the list reads as strings of at most 33554432 bytes each. -/
import Derived.Test.YtlflblngbneacabGreatDoorGSpl
import Derived.Test.YtlflblngbneacabGreatDoorGBase
import Derived.Test.YtlflblngbneacabGreatDoorSplit
namespace Go.Proofs.YtlflblngbneacabGreatDoor
open Go.RowKit

theorem joinB_none (y : ByteArray) : joinB [] y = ⟨#[]⟩ := rfl

theorem joinB_first {l : List ByteArray} (y : ByteArray) (h : 0 < l.length) : joinB (l.take 1) y = ⟨#[]⟩ ++ l[0] := by
  cases l with
  | nil => simp at h
  | cons x r =>
    apply bytes_eq
    simp [joinB, Lib.join_one, ByteArray.data_append]

theorem joinB_next {l : List ByteArray} (y : ByteArray) {k : Nat} (h0 : 0 < k) (h : k < l.length) : joinB (l.take (k + 1)) y = (joinB (l.take k) y ++ y) ++ l[k] := by
  apply bytes_eq
  rw [List.take_succ_eq_append_getElem h]
  unfold joinB
  rw [List.map_append, List.map_cons, List.map_nil, join_snoc _ _ _ (by
    intro hn
    have h1 := congrArg List.length hn
    rw [List.length_map, List.length_take, List.length_nil] at h1
    omega)]
  simp [ByteArray.data_append]

end Go.Proofs.YtlflblngbneacabGreatDoor
