/- The walk of FnAdversaries as its claim wants it. No condition. -/
import Derived.Test.YtbkhmlkicafheaaAdvLaw
namespace Go.Proofs.Ytbkhmlkicafheaa
open Go.RowKit

theorem walkFnAdversaries (W : World) (a : Option Addr) (len cap : Nat) (zs : List Int) (h : IsBytes W a len cap zs) :
    Calls Try.prog 11 #[.slice a len cap] W fun e w' => e = .returned (.bool true) ∧ Below W.heap.size W w' := walkAdversaries W a len cap (bytesAt_of h)
end Go.Proofs.Ytbkhmlkicafheaa
