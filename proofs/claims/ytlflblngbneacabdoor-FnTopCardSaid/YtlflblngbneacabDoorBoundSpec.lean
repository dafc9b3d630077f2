/- The contracts of the model's InfoBound and MostUnknown. No condition. -/
import Derived.Test.YtlflblngbneacabDoorGStates
import Derived.Test.YtlflblngbneacabDoorGBounds
namespace Go.Proofs.YtlflblngbneacabDoor
open Go.RowKit

theorem pow_in : ∀ i, i ≤ 13 → (1 : Int) ≤ 3 ^ i ∧ (3 : Int) ^ i ≤ 1594323 := by decide
theorem pow_half (k : Nat) (hk : k ≤ 12) : (0 : Int) ≤ 3 ^ k - 1 ∧ (3 : Int) ^ k - 1 ≤ 1594323 ∧ (-2 : Int) ≤ 3 ^ k - 3 := by have := pow_in k (by omega); omega
theorem tdiv2_in {a : Int} (h0 : -2 ≤ a) (h1 : a ≤ 1594323) : -1 ≤ a.tdiv 2 ∧ a.tdiv 2 ≤ 1594323 := by
  by_cases h : 0 ≤ a
  · rw [Int.tdiv_eq_ediv_of_nonneg h]; omega
  · rcases (show a = -1 ∨ a = -2 by omega) with rfl | rfl <;> decide
end Go.Proofs.YtlflblngbneacabDoor
