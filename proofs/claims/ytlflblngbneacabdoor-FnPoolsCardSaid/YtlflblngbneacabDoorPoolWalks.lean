/- The walks of the exact laws of PoolsOk, TestPools, CountItems, ConsistentSets, SurelyGood and SurelyBad: each returns true for every argument. No condition. -/
import Derived.Test.YtlflblngbneacabDoorConsSets
import Derived.Test.YtlflblngbneacabDoorPoolLaws
namespace Go.Proofs.YtlflblngbneacabDoor
open Go.RowKit

theorem pure_below {P : Program} {f : FuncId} {args : Array Value} {W : World} {v : Value} (h : Calls P f args W fun e w' => e = .returned v ∧ W = w') : Calls P f args W fun e w' => e = .returned v ∧ Below W.heap.size W w' :=
  h.mono fun _ _ ⟨he, hw⟩ => ⟨he, by rw [← hw]; exact Below.refl _ _⟩
theorem int_span {s : Int} (h : (Lit.int .i64 s).wf = true) : -9223372036854775808 ≤ s ∧ s ≤ 9223372036854775807 := by
  simpa [Lit.wf, IntKind.min, IntKind.max, IntKind.signed, IntKind.bits] using h
end Go.Proofs.YtlflblngbneacabDoor
