/- The walk through FnDetecting. Conditions: the variables that the code reads hold what the program's text lays. -/
import Derived.Test.YtlflblngbneacabGreatDoorDetDone
import Derived.Test.YtlflblngbneacabGreatDoorPoolsLine2
import Derived.Test.YtlflblngbneacabGreatDoorGLeast
import Derived.Test.YtlflblngbneacabGreatDoorExtImpl
namespace Go.Proofs.YtlflblngbneacabGreatDoor
open Go.RowKit
theorem walkFnDetecting (w : World) (a : Option Addr) (len cap : Nat) (zs : List Int) (h : IsBytes w a len cap zs) (ht : TabOk w) (hh : HandleOk w) (he : EmptyOk w) :
    Calls Tryz.prog 4 #[.slice a len cap] w fun e w' => e = .returned (.bool true) ∧ Below w.heap.size w w' := by
  obtain ⟨x, he⟩ := he
  exact walkDetecting w a len cap (bytesAt_of h) (fun n W => implFirst n W) (fun n P hm W vP hP => implExtend n vP P W hP (by omega))
    (fun n W => implFewestS n W) (fun n P hm W vP hP => implDetecting n vP P W hP (by omega))
    (fun n P hm W hW v hv => implPoolsLine n v P W hv (by omega) (ht.below hW) (hh.below hW) x (he.below hW))
end Go.Proofs.YtlflblngbneacabGreatDoor
