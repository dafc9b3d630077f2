/- The walk through FnPools. Conditions: the variables that the code reads hold what the program's text lays. -/
import Derived.Test.YtlflblngbneacabDoorPoolsLaw
import Derived.Test.YtlflblngbneacabDoorFormats
import Derived.Test.YtlflblngbneacabDoorPoolWalks
namespace Go.Proofs.YtlflblngbneacabDoor
open Go.RowKit
theorem walkFnPools (w : World) (a : Option Addr) (len cap : Nat) (zs : List Int) (h : IsBytes w a len cap zs) (hh : HandleOk w) (he : EmptyOk w) :
    Calls Tryd.prog 8 #[.slice a len cap] w fun e w' => e = .returned (.bool true) ∧ Below w.heap.size w w' := by
  obtain ⟨x, he⟩ := he
  exact walkPools w (fun n P b hm W vP hP => implTestPools n vP P b W hP hm) (fun n P R m hm _ W vP vR hP hR => implCons n vP vR P R m W hP hR hm)
    (fun n P R hm _ W vP vR hP hR => pure_below (implGood n vP vR P R W hP hR hm)) (fun n P R hm _ W vP vR hP hR => implBad n vP vR P R W hP hR hm)
    (fun n P hm W vP hP => pure_below (implPoolsOk n vP P W hP (by unfold maxLen; omega))) (fun s hs W => implCount s (by omega) W)
    (fun l hl W hW v hv => implFormatResultsOf v l W hv hl (hh.below hW) x (he.below hW)) a len cap (bytesAt_of h)
end Go.Proofs.YtlflblngbneacabDoor
