/- The walk through FnTop. Condition: strconv's table is as the program's text lays it. -/
import Derived.Test.YtlflblngbneacabDoorTopLaw
import Derived.Test.YtlflblngbneacabDoorStateLine2
namespace Go.Proofs.YtlflblngbneacabDoor
open Go.RowKit
theorem walkFnTop (w : World) (a : Option Addr) (len cap : Nat) (zs : List Int) (h : IsBytes w a len cap zs) (ht : TabOk w) :
    Calls Tryd.prog 7 #[.slice a len cap] w fun e w' => e = .returned (.bool true) ∧ Below w.heap.size w w' :=
  walkTop w a len cap (bytesAt_of h) (fun s _ W hW => implStateLine s W (ht.below hW))
end Go.Proofs.YtlflblngbneacabDoor
