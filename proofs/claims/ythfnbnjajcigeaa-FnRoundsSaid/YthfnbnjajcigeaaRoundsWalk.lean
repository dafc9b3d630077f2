/- The walk of the law FnRounds: it returns true for every code. Condition: the slice that came in reads as bytes. -/
import Derived.Test.YthfnbnjajcigeaaGRndI
import Derived.Test.YthfnbnjajcigeaaRoundsLaw
import Derived.Test.YthfnbnjajcigeaaCountImpl
namespace Go.Proofs.Ythfnbnjajcigeaa
open Go.RowKit

theorem walkFnRounds (w : World) (a : Option Addr) (len cap : Nat) (zs : List Int) (h : IsBytes w a len cap zs) :
    Calls Try.prog 9 #[.slice a len cap] w fun e w' => e = .returned (.bool true) ∧ Below w.heap.size w w' :=
  walkRounds w (fun n P m hm W _ h => implGreedyLs n m _ P W h hm) (fun n P m hm W _ h => implBoundR n m _ P W h hm) (fun n P m hm W _ h => implFewest n m _ P W h hm) (fun n P m S hm hmS W _ _ h hS => implRoundsOk n m _ _ P S W h hS hm hmS)
    (fun n P hm W _ h => implUses n _ P W h hm) (fun s hs W => implCount s (by omega) W) (fun n P m d hm W _ h => implDays n m d _ P W h hm) a len cap (bytesAt_of h)
end Go.Proofs.Ythfnbnjajcigeaa
