/- The walk through FnCases. Conditions: the variables that the code reads hold what the program's text lays. -/
import Derived.Test.YtlflblngbneacabDoorCasesDone
import Derived.Test.YtlflblngbneacabDoorFormats
namespace Go.Proofs.YtlflblngbneacabDoor
open Go.RowKit
theorem walkFnCases (w : World) (a : Option Addr) (len cap : Nat) (zs : List Int) (h : IsBytes w a len cap zs) (ht : TabOk w) (hh : HandleOk w) (he : EmptyOk w) :
    Calls Tryd.prog 4 #[.slice a len cap] w fun e w' => e = .returned (.bool true) ∧ Below w.heap.size w w' := by
  obtain ⟨x, he⟩ := he
  exact walkCases w a len cap (bytesAt_of h) (fun L hL hr W hW v hv => implFormatCases v L W hv (by omega) hr (ht.below hW) (hh.below hW) x (he.below hW))
end Go.Proofs.YtlflblngbneacabDoor
