/- What FnDetecting asks of the first detecting lists: plain facts. -/
import Derived.Test.YtlflblngbneacabGreatDoorGSum
import Derived.Test.YtlflblngbneacabGreatDoorGSumL
import Derived.Test.YtlflblngbneacabGreatDoorGRep
namespace Go.Proofs.YtlflblngbneacabGreatDoor
open Go.RowKit

def detNum (n : Int) : Nat := if n ≤ 1 then 1 else if n ≤ 2 then 2 else 3
theorem det_check : ∀ m : Nat, m ≤ 4 → 1 ≤ m → firstB (m : Int) = true ∧ extB (m : Int) (firstL (m : Int)) = true ∧ fewS (m : Int) = (detNum (m : Int) : Nat) ∧ (firstL (m : Int)).length = detNum (m : Int) ∧ detB (m : Int) (firstL (m : Int)) = true ∧
    detB ((m : Int) + 1) (extL (m : Int) (firstL (m : Int))) = true ∧ (extL (m : Int) (firstL (m : Int))).length = detNum (m : Int) + 1 ∧ detB (m : Int) ((firstL (m : Int)).drop 1) = false ∧ poolsB (m : Int) (firstL (m : Int)) = true := by decide +kernel
theorem det_facts {n : Int} (h1 : 1 ≤ n) (h4 : n ≤ 4) : firstB n = true ∧ extB n (firstL n) = true ∧ fewS n = (detNum n : Nat) ∧ (firstL n).length = detNum n ∧ detB n (firstL n) = true ∧
    detB (n + 1) (extL n (firstL n)) = true ∧ (extL n (firstL n)).length = detNum n + 1 ∧ detB n ((firstL n).drop 1) = false ∧ poolsB n (firstL n) = true := by
  obtain ⟨m, rfl⟩ := Int.eq_ofNat_of_zero_le (show 0 ≤ n by omega)
  exact det_check m (by omega) (by omega)
theorem det_num (n : Int) : 1 ≤ detNum n ∧ detNum n ≤ 3 := by
  unfold detNum
  split
  · omega
  · split <;> omega
theorem det_cell {n : Int} (h1 : 1 ≤ n) (h4 : n ≤ 4) (w : World) (t : TypeId) : (w.alloc (.cells #[.int .i64 0, .int .i64 1, .int .i64 2, .int .i64 3, .int .i64 3] t)).cell? ⟨w.heap.size, n.toNat, none⟩ = some (.int .i64 (detNum n : Nat)) := by
  rcases (show n = 1 ∨ n = 2 ∨ n = 3 ∨ n = 4 by omega) with rfl | rfl | rfl | rfl <;> simp [detNum]
theorem pools_some {n : Int} {P : List Int} (h : poolsB n P = true) : (poolsT n P).toList.isEmpty = false := by
  unfold poolsT
  rw [if_pos h, ByteArray.toList_eq]
  simp [ByteArray.data_append]
end Go.Proofs.YtlflblngbneacabGreatDoor
