/- The walks of the exact laws of SplitLine, FormatState, StateLine, FormatPick and RoundsLine round the contracts of the program's functions (in every world that lies above the one that the law starts in): each returns true for every argument. Conditions: what came in reads as integers that fit Go's int. -/
import Derived.Test.YtlflblngbneacabGreatDoorGRep
import Derived.Test.YtlflblngbneacabGreatDoorRepState
import Derived.Test.YtlflblngbneacabGreatDoorTellsLaw
import Derived.Test.YtlflblngbneacabGreatDoorGStates
namespace Go.Proofs.YtlflblngbneacabGreatDoor
open Go.RowKit

/-- The contracts of the program's functions. -/
def SplitLineIs (f : FuncId) (L R l : List Int) (w : World) : Prop :=
  ∀ W, Below w.heap.size w W → ∀ vl vr vc, IntsAt W vl L → IntsAt W vr R → IntsAt W vc l → Calls Tryz.prog f #[.agg #[vl, vr], vc] W fun e w' => e = .returned (.string (splitT L R l)) ∧ Below W.heap.size W w'
def FormatStateIs (f : FuncId) (s : SD) (w : World) : Prop := ∀ W, Below w.heap.size w W → Calls Tryz.prog f #[stateV s] W fun e w' => e = .returned (.string (listB s.list)) ∧ Below W.heap.size W w'
def StateLineIs (f : FuncId) (s : SD) (w : World) : Prop := ∀ W, Below w.heap.size w W → Calls Tryz.prog f #[stateV s] W fun e w' => e = .returned (.string (stateT s)) ∧ Below W.heap.size W w'
def FormatPickIs (f : FuncId) (p : PD) (w : World) : Prop := ∀ W, Below w.heap.size w W → Calls Tryz.prog f #[pickV p] W fun e w' => e = .returned (.string (listB p.list)) ∧ Below W.heap.size W w'
def RoundsLineIs (f : FuncId) (S : List (List Int)) (w : World) : Prop := ∀ W, Below w.heap.size w W → ∀ v, LsAt W v S → Calls Tryz.prog f #[v] W fun e w' => e = .returned (.string (roundsT S)) ∧ Below W.heap.size W w'

end Go.Proofs.YtlflblngbneacabGreatDoor
