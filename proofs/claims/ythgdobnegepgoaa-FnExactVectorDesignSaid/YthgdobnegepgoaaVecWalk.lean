/- The walk of the exact law of VectorDesign: the law returns true for every argument. No condition. -/
import Derived.Test.YthgdobnegepgoaaVecImpl
namespace Go.Proofs.Ythgdobnegepgoaa
open Go.RowKit

theorem walkFnExactVectorDesign (k : Int) (wk : (Lit.int .i64 k).wf = true) (w : World) :
    Calls Try.prog 9 #[.int .i64 k] w fun e w' => e = .returned (.bool true) ∧ Below w.heap.size w w' :=
  lawVectorDesign specVec implVec k wk w
end Go.Proofs.Ythgdobnegepgoaa
