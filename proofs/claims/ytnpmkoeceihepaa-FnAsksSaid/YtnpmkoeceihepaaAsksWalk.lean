/- The walk of FnAsks: it returns true for every argument. Condition: the slice reads as bytes. -/
import Derived.Test.YtnpmkoeceihepaaLieWalks
import Derived.Test.YtnpmkoeceihepaaAsksLaw
namespace Go.Proofs.Ytnpmkoeceihepaa
open Go.RowKit

theorem walkFnAsks (w : World) (a : Option Addr) (len cap : Nat) (zs : List Int) (h : IsBytes w a len cap zs) :
    Calls Try.prog 12 #[.slice a len cap] w fun e w' => e = .returned (.bool true) ∧ Below w.heap.size w w' :=
  walkAsks implFewestAsks implCanWin implWeightIs w a len cap (bytesAt_of h)
end Go.Proofs.Ytnpmkoeceihepaa
