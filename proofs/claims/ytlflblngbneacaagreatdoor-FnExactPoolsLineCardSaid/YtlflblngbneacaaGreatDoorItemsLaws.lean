/- The walks of the exact laws of DecodeItems, SinglePools and BitPools round the contracts of the program's functions: each returns true for every argument. Condition: the slices that came in read as integers and as truth values. -/
import Derived.Test.YtlflblngbneacaaGreatDoorItemsSpec
namespace Go.Proofs.YtlflblngbneacaaGreatDoor
open Go.RowKit

theorem singO_len (n : Int) : (singO n).length ≤ 20 := by
  unfold singO
  split
  · rename_i h
    unfold itemsB at h
    rw [Bool.and_eq_true, decide_eq_true_eq, decide_eq_true_eq] at h
    rw [singK_len]
    omega
  · simp
theorem bitsO_len (n : Int) : (bitsO n).length ≤ 20 := by
  unfold bitsO
  split
  · rw [bitsK_len]
    have := bitN_is n
    omega
  · simp
/-- The contracts of the program's functions. -/
def DecodeItemsIs (f : FuncId) (n : Int) (P : List Int) (R : List Bool) : Prop := ∀ W vP vR, IntsAt W vP P → BoolsAt W vR R → Calls Tryz.prog f #[.int .i64 n, vP, vR] W fun e w' => e = .returned (.tuple #[.int .i64 (decV n P R), .bool (decB n P R)]) ∧ Below W.heap.size W w'
def SinglePoolsIs (f : FuncId) (n : Int) : Prop := ∀ W, Calls Tryz.prog f #[.int .i64 n] W (Gives (singO n) (itemsB n) W)
def BitPoolsIs (f : FuncId) (n : Int) : Prop := ∀ W, Calls Tryz.prog f #[.int .i64 n] W (Gives (bitsO n) (itemsB n) W)

end Go.Proofs.YtlflblngbneacaaGreatDoor
