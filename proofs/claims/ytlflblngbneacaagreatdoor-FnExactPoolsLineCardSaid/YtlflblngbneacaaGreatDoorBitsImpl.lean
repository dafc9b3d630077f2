/- The contracts of the program's allItems, maybeBad, itemsOk, itemsWithBit, BitPools and DecodeItems. Conditions: the slices read as integers and as truth values, and are short enough to be counted. -/
import Derived.Test.YtlflblngbneacaaGreatDoorTopPlain
import Derived.Test.YtlflblngbneacaaGreatDoorItemsSpec
import Derived.Test.YtlflblngbneacaaGreatDoorConsImpl
namespace Go.Proofs.YtlflblngbneacaaGreatDoor
open Go.RowKit

set_option maxHeartbeats 1000000 in
theorem implHas (s : Int) (i : Nat) (hi : i ≤ 10) (w : World) : Calls Tryz.prog 148 #[.int .i64 s, .int .i64 i] w fun e w' => e = .returned (.bool (bits .and .i64 s (2 ^ i) != 0)) ∧ w = w' := by
  obtain ⟨q1, q2, q3⟩ := pow_in hi
  have hi0 : (0 : Int) ≤ i := by omega
  have hi1 : (i : Int) ≤ 64 := by omega
  go_enter Tryz.func148, Tryz.ntmps148
  go_wp2
  go_ret
  exact ⟨rfl, rfl⟩

end Go.Proofs.YtlflblngbneacaaGreatDoor
