/- The walk through the exact law of PoolsLine. Conditions: the variables that the code reads hold what the program's text lays. -/
import Derived.Test.YtlflblngbneacaaGreatDoorPoolsLine2
import Derived.Test.YtlflblngbneacaaGreatDoorRepLaws
namespace Go.Proofs.YtlflblngbneacaaGreatDoor
open Go.RowKit
theorem walkFnExactPoolsLine (w : World) (n : Int) (_ : (Lit.int .i64 n).wf = true) (v : Value) (P : List Int) (c : CameInts w v P) (ht : TabOk w) (hh : HandleOk w) (he : EmptyOk w) :
    Calls Tryz.prog 5 #[.int .i64 n, v] w fun e w' => e = .returned (.bool true) ∧ Below w.heap.size w w' := by
  obtain ⟨a, he⟩ := he
  exact lawPoolsLine n P w v c.1 (fun hm W hW u hu => implPoolsLine n u P W hu hm (ht.below hW) (hh.below hW) a (he.below hW))
end Go.Proofs.YtlflblngbneacaaGreatDoor
