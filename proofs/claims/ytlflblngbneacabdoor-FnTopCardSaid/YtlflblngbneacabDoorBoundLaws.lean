/- The walks of the exact laws of InfoBound, MostUnknown, WorstOutcome and LostCases round the contracts of the program's functions: each returns true for every argument. No condition. -/
import Derived.Test.YtlflblngbneacabDoorBoundSpec
import Derived.Test.YtlflblngbneacabDoorWorstSpec
import Derived.Test.YtlflblngbneacabDoorGStates
namespace Go.Proofs.YtlflblngbneacabDoor
open Go.RowKit

/-- The contracts of the program's functions. -/
def InfoBoundIs (f : FuncId) (n : Int) : Prop := ∀ W, Calls Tryd.prog f #[.int .i64 n] W fun e w' => e = .returned (.int .i64 (infoI n)) ∧ Below W.heap.size W w'
def MostUnknownIs (f : FuncId) (k : Int) (g : Bool) : Prop := ∀ W, Calls Tryd.prog f #[.int .i64 k, .bool g] W fun e w' => e = .returned (.int .i64 (mostI k g)) ∧ Below W.heap.size W w'
def WorstOutcomeIs (f : FuncId) (s : SD) (p : PD) : Prop := ∀ W, Calls Tryd.prog f #[stateV s, pickV p] W fun e w' => e = .returned (.tuple #[.int .i64 ((worstO s p).getD 0), .bool (worstO s p).isSome]) ∧ Below W.heap.size W w'
def LostCasesIs (f : FuncId) (s : SD) (p : PD) : Prop := ∀ W, Calls Tryd.prog f #[stateV s, pickV p] W fun e w' => e = .returned (.int .i64 (lostI s p)) ∧ Below W.heap.size W w'

end Go.Proofs.YtlflblngbneacabDoor
