/- The walk through FnSplits. Conditions: the variables that the code reads hold what the program's text lays. -/
import Derived.Test.YtlflblngbneacabDoorSplitsDone
import Derived.Test.YtlflblngbneacabDoorSplitLine
namespace Go.Proofs.YtlflblngbneacabDoor
open Go.RowKit
theorem walkFnSplits (w : World) (a : Option Addr) (len cap : Nat) (zs : List Int) (h : IsBytes w a len cap zs) (ht : TabOk w) (hh : HandleOk w) (he : EmptyOk w) (hi : InvalidOk w) :
    Calls Tryd.prog 5 #[.slice a len cap] w fun e w' => e = .returned (.bool true) ∧ Below w.heap.size w w' := by
  obtain ⟨x, he⟩ := he
  obtain ⟨d, hd⟩ := hi
  exact walkSplits w a len cap (bytesAt_of h) (fun L R l ml mr mc hl W hW vl vr vc h1 h2 h3 => implSplitLine vl vr vc L R l W h1 h2 h3 (by omega) (by omega) (by omega) hl (ht.below hW) (hh.below hW) x (he.below hW) d (hd.below hW))
end Go.Proofs.YtlflblngbneacabDoor
