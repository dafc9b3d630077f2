/- The search for a list of separable pools, plainly. No condition. -/
import Derived.Test.YtlflblngbneacaaGreatDoorGDis
namespace Go.Proofs.YtlflblngbneacaaGreatDoor
open Go.RowKit

def natL (Q : List Nat) : List Int := Q.map fun (q : Nat) => (q : Int)
theorem natL_len (Q : List Nat) : (natL Q).length = Q.length := by simp [natL]
theorem natL_snoc (Q : List Nat) (p : Nat) : natL (Q ++ [p]) = natL Q ++ [(p : Int)] := by simp [natL]
/-- Any of so many numbers from one on. -/
def anyFrom (f : Nat → Bool) : Nat → Nat → Bool
  | 0, _ => false
  | m + 1, a => f a || anyFrom f m (a + 1)
theorem anyFrom_step (f : Nat → Bool) {N a : Nat} (h : a < N) : anyFrom f (N - a) a = (f a || anyFrom f (N - (a + 1)) (a + 1)) := by
  rw [show N - a = (N - (a + 1)) + 1 by omega]
  rfl
theorem anyFrom_end (f : Nat → Bool) {m : Nat} (a : Nat) (h : m = 0) : anyFrom f m a = false := by subst h; rfl
/-- The least pool that may follow. -/
def fromN (Q : List Nat) : Nat := match Q.getLast? with
  | none => 1
  | some x => x + 1
theorem fromN_nil {Q : List Nat} (h : Q.length = 0) : fromN Q = 1 := by
  obtain rfl := List.eq_nil_of_length_eq_zero h
  rfl
theorem fromN_last {Q : List Nat} (h : 0 < Q.length) : fromN Q = Q[Q.length - 1]'(by omega) + 1 := by
  unfold fromN
  rw [List.getLast?_eq_getElem?, List.getElem?_eq_getElem (by omega)]
/-- Whether so many pools more, in ascending order, make the list separable. -/
def searchB (n d : Int) : Nat → List Nat → Bool
  | 0, Q => sepR n (natL Q) d
  | l + 1, Q => anyFrom (fun p => searchB n d l (Q ++ [p])) (2 ^ n.toNat - fromN Q) (fromN Q)
end Go.Proofs.YtlflblngbneacaaGreatDoor
