/- The walk through FnReports. Conditions: the variables that the code reads hold what the program's text lays. -/
import Derived.Test.YtlflblngbneacabGreatDoorReportsDone
import Derived.Test.YtlflblngbneacabGreatDoorGLine
import Derived.Test.YtlflblngbneacabGreatDoorReadSets
import Derived.Test.YtlflblngbneacabGreatDoorRoundsLine
namespace Go.Proofs.YtlflblngbneacabGreatDoor
open Go.RowKit
theorem walkFnReports (w : World) (a : Option Addr) (len cap : Nat) (zs : List Int) (h : IsBytes w a len cap zs) (ht : TabOk w) (hh : HandleOk w) (he : ErrsOk w) :
    Calls Tryz.prog 5 #[.slice a len cap] w fun e w' => e = .returned (.bool true) ∧ Below w.heap.size w w' := by
  obtain ⟨x, y, he⟩ := he
  exact walkReports w a len cap (bytesAt_of h) ht (fun s hs W hW => implFormatState s (state_fit hs) W (ht.below hW)) (fun s _ W hW => implStateLine s W (ht.below hW))
    (fun W hW => implReadSetsOf _ (by decide) W (ht.below hW) x y (he.below hW))
    (fun W hW v hv => implFormatSets v _ W hv (by decide) (ht.below hW) (hh.below hW) x (he.e.below hW))
    (fun W hW v hv => implRoundsLine v _ W hv (by decide) (by decide) (ht.below hW) (hh.below hW) x (he.e.below hW))
    (fun W hW => implFormatPick _ (by unfold Fit; decide) W (ht.below hW))
end Go.Proofs.YtlflblngbneacabGreatDoor
