/- The walk of FnSums: it returns true for every code. No condition. -/
import Derived.Test.YtoliloophjeooaaSumDecImpl
import Derived.Test.YtoliloophjeooaaSumsLaw
import Derived.Test.YtoliloophjeooaaConsSets
namespace Go.Proofs.Ytoliloophjeooaa
open Go.RowKit

theorem walkFnSums (w : World) (a : Option Addr) (len cap : Nat) (zs : List Int) (h : IsBytes w a len cap zs) :
    Calls Try.prog 10 #[.slice a len cap] w fun e w' => e = .returned (.bool true) ∧ Below w.heap.size w w' :=
  walkSums (fun n P b hm W vP hP => implSumPools n vP P b W hP hm) (fun n P b hm W vP hP => implTestPools n vP P b W hP hm) (fun n P S hm hs W vP vS hP hS => implDecodeS n vP vS P S W hP hS hm hs)
    (fun n P hm W vP hP => implDetecting n vP P W hP hm) (fun n P hm W vP hP => implTell n vP P W hP hm) (fun n P R most hm _ W vP vR hP hR => implCons n vP vR P R most W hP hR hm) w a len cap (bytesAt_of h)
end Go.Proofs.Ytoliloophjeooaa
