/- The walk of FnWeights: it returns true for every code. No condition. -/
import Derived.Test.YtnpmkoeceihepaaLieWalks
import Derived.Test.YtnpmkoeceihepaaLieWeights
namespace Go.Proofs.Ytnpmkoeceihepaa
open Go.RowKit

theorem walkFnWeights (w : World) (a : Option Addr) (len cap : Nat) (zs : List Int) (h : IsBytes w a len cap zs) :
    Calls Try.prog 11 #[.slice a len cap] w fun e w' => e = .returned (.bool true) ∧ Below w.heap.size w w' :=
  walkWeights implWeight implCanWin implFirstAsk w a len cap (bytesAt_of h)
end Go.Proofs.Ytnpmkoeceihepaa
