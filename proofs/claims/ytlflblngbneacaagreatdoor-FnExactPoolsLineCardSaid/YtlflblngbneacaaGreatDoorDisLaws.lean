/- The walks of the exact laws of IsDisjunct, Weakness and IsSeparable round the contracts of the program's functions: each returns true for every argument. Condition: the slice that came in reads as integers. -/
import Derived.Test.YtlflblngbneacaaGreatDoorGDis
namespace Go.Proofs.YtlflblngbneacaaGreatDoor
open Go.RowKit

/-- The contracts of the program's functions. -/
def IsDisjunctIs (f : FuncId) (n : Int) (P : List Int) (d : Int) : Prop := ∀ W vP, IntsAt W vP P → Calls Tryz.prog f #[.int .i64 n, vP, .int .i64 d] W fun e w' => e = .returned (.bool (disR n P d)) ∧ Below W.heap.size W w'
def WeaknessIs (f : FuncId) (n : Int) (P : List Int) (d : Int) : Prop := ∀ W vP, IntsAt W vP P → Calls Tryz.prog f #[.int .i64 n, vP, .int .i64 d] W (Weaks (weakO n P d) W)
def IsSeparableIs (f : FuncId) (n : Int) (P : List Int) (d : Int) : Prop := ∀ W vP, IntsAt W vP P → Calls Tryz.prog f #[.int .i64 n, vP, .int .i64 d] W fun e w' => e = .returned (.bool (sepR n P d)) ∧ Below W.heap.size W w'

end Go.Proofs.YtlflblngbneacaaGreatDoor
