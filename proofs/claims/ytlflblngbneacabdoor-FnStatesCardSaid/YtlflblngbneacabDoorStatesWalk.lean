/- The walk through FnStates. Condition: strconv's table is as the program's text lays it. -/
import Derived.Test.YtlflblngbneacabDoorStatesLaw
import Derived.Test.YtlflblngbneacabDoorFmtState
namespace Go.Proofs.YtlflblngbneacabDoor
open Go.RowKit
theorem walkFnStates (w : World) (a : Option Addr) (len cap : Nat) (zs : List Int) (h : IsBytes w a len cap zs) (ht : TabOk w) :
    Calls Tryd.prog 6 #[.slice a len cap] w fun e w' => e = .returned (.bool true) ∧ Below w.heap.size w w' :=
  walkStates w a len cap (bytesAt_of h) (fun s hs W hW => implFormatState s (state_fit hs) W (ht.below hW))
end Go.Proofs.YtlflblngbneacabDoor
