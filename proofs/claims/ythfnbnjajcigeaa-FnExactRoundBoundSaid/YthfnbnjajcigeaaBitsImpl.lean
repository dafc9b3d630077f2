/- The contracts of the program's allItems, maybeBad, itemsOk, itemsWithBit, BitPools and DecodeItems. Conditions: the slices read as integers and as truth values, and are short enough to be counted. -/
import Derived.Test.YthfnbnjajcigeaaTopPlain
import Derived.Test.YthfnbnjajcigeaaItemsSpec
import Derived.Test.YthfnbnjajcigeaaConsImpl
namespace Go.Proofs.Ythfnbnjajcigeaa
open Go.RowKit

set_option maxHeartbeats 1600000 in
theorem implAll (n : Int) (n1 : 1 ≤ n) (n10 : n ≤ 10) (w : World) : Calls Try.prog 41 #[.int .i64 n] w fun e w' => e = .returned (.int .i64 (topI n)) ∧ w = w' := by
  obtain ⟨hs1, hs2, hs3, hs4⟩ := shl_top n1 n10
  rw [hs2] at hs1
  generalize topI n = T at hs1 hs2 hs3 hs4 ⊢
  have hw : IntKind.i64.wrap (T + 1 - 1) = T := by rw [IntKind.wrap_i64]; omega
  go_enter Try.func41, Try.ntmps41
  go_wp2
  go_ret
  exact ⟨ret_int (by first | exact hw | rfl | (rw [IntKind.wrap_i64]; omega)), rfl⟩

set_option maxHeartbeats 1000000 in
theorem implHas (s : Int) (i : Nat) (hi : i ≤ 10) (w : World) : Calls Try.prog 40 #[.int .i64 s, .int .i64 i] w fun e w' => e = .returned (.bool (bits .and .i64 s (2 ^ i) != 0)) ∧ w = w' := by
  obtain ⟨q1, q2, q3⟩ := pow_in hi
  have hi0 : (0 : Int) ≤ i := by omega
  have hi1 : (i : Int) ≤ 64 := by omega
  go_enter Try.func40, Try.ntmps40
  go_wp2
  go_ret
  exact ⟨rfl, rfl⟩

end Go.Proofs.Ythfnbnjajcigeaa
