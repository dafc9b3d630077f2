/- The walk of FnEveryState about the program itself: it returns true for every state. No condition. -/
import Derived.Test.YtbkhmlkicafheaaEveryWalk
import Derived.Test.YtbkhmlkicafheaaFindImpl
import Derived.Test.YtbkhmlkicafheaaBoundImpl
namespace Go.Proofs.Ytbkhmlkicafheaa
open Go.RowKit

theorem walkFnEveryState (b : Int) (_ : (Lit.int .i64 b).wf = true) (h : Int) (_ : (Lit.int .i64 h).wf = true) (l : Int) (_ : (Lit.int .i64 l).wf = true) (g : Int) (_ : (Lit.int .i64 g).wf = true) (W : World) :
    Calls Try.prog 10 #[.agg #[.int .i64 b, .int .i64 h, .int .i64 l, .int .i64 g]] W fun e w' => e = .returned (.bool true) ∧ Below W.heap.size W w' :=
  lawEveryState ⟨b, h, l, g⟩ (fun W => implStateOk ⟨b, h, l, g⟩ W) implFewest implInfoBound implMostUnknownE W
end Go.Proofs.Ytbkhmlkicafheaa
