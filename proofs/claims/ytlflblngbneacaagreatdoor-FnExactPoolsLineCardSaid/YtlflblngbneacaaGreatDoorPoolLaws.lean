/- The walks of the exact laws of PoolsOk, TestPools, CountItems, ConsistentSets, SurelyGood and SurelyBad round the contracts of the program's functions: each returns true for every argument. Condition: the slices that came in read as integers and as truth values. -/
import Derived.Test.YtlflblngbneacaaGreatDoorGDis
namespace Go.Proofs.YtlflblngbneacaaGreatDoor
open Go.RowKit

/-- The contracts of the program's functions. -/
def PoolsOkIs (f : FuncId) (n : Int) (P : List Int) : Prop := ∀ W vP, IntsAt W vP P → Calls Tryz.prog f #[.int .i64 n, vP] W fun e w' => e = .returned (.bool (poolsB n P)) ∧ Below W.heap.size W w'
def TestPoolsIs (f : FuncId) (n : Int) (P : List Int) (bad : Int) : Prop := ∀ W vP, IntsAt W vP P → Calls Tryz.prog f #[.int .i64 n, vP, .int .i64 bad] W (TestsR n P bad W)
def ConsistentSetsIs (f : FuncId) (n : Int) (P : List Int) (R : List Bool) (most : Int) : Prop := ∀ W vP vR, IntsAt W vP P → BoolsAt W vR R → Calls Tryz.prog f #[.int .i64 n, vP, vR, .int .i64 most] W (ListsI2 (consR n P R most) W)
def SurelyGoodIs (f : FuncId) (n : Int) (P : List Int) (R : List Bool) : Prop := ∀ W vP vR, IntsAt W vP P → BoolsAt W vR R → Calls Tryz.prog f #[.int .i64 n, vP, vR] W fun e w' => e = .returned (.int .i64 (goodR n P R)) ∧ Below W.heap.size W w'
def SurelyBadIs (f : FuncId) (n : Int) (P : List Int) (R : List Bool) : Prop := ∀ W vP vR, IntsAt W vP P → BoolsAt W vR R → Calls Tryz.prog f #[.int .i64 n, vP, vR] W fun e w' => e = .returned (.int .i64 (badR n P R)) ∧ Below W.heap.size W w'
def CountItemsIs (f : FuncId) (s : Int) : Prop := ∀ W, Calls Tryz.prog f #[.int .i64 s] W fun e w' => e = .returned (.int .i64 (cntI s)) ∧ Below W.heap.size W w'
theorem testR_len (n : Int) (P : List Int) (bad : Int) : (testR n P bad).length ≤ 12 := by
  unfold testR
  split
  · rename_i h
    unfold testsB at h
    rw [Bool.and_eq_true] at h
    rw [resL_len]
    exact (pools_in h.1).2.1
  · simp
theorem consR_len (n : Int) (P : List Int) (R : List Bool) (most : Int) : (consR n P R most).length ≤ 1024 := by
  unfold consR
  split
  · rename_i h
    obtain ⟨⟨h1, h2⟩, -⟩ := pools_in h
    unfold consL
    refine Nat.le_trans (List.length_filter_le _ _) ?_
    rw [List.length_map, List.length_range]
    have : n.toNat ≤ 10 := by omega
    exact Nat.le_trans (Nat.pow_le_pow_right (by decide) this) (by decide)
  · simp

end Go.Proofs.YtlflblngbneacaaGreatDoor
