/- The walk of the law FnDecodes: it returns true for every argument. Condition: the bytes that came in read as bytes. -/
import Derived.Test.YthgdobnegepgoaaDecodesLaw
import Derived.Test.YthgdobnegepgoaaSolvesImpl
namespace Go.Proofs.Ythgdobnegepgoaa
open Go.RowKit

theorem walkFnDecodes (w : World) (a : Option Addr) (len cap : Nat) (zs : List Int) (h : IsBytes w a len cap zs) :
    Calls Try.prog 3 #[.slice a len cap] w fun e w' => e = .returned (.bool true) ∧ Below w.heap.size w w' :=
  lawDecodes specMakeProb
    (fun P n h l z hs _ W v hW => implDesignSolves v P n h l z W hW (sizesW_len hs) (SzW.lists hs))
    (fun P m hs _ W v hW => implDesignOk v P m W hW (sizesW_len hs) (SzW.lists hs))
    (fun P m c hs _ hc W v hW => implSignsOf v P m c W hW (sizesW_len hs) (SzW.lists hs) (rangeW hc).1 (rangeW hc).2)
    (fun P n h l z S hs _ hS hw W v vs hW hV => implDecodeSigns v vs P n h l z S W hW hV (sizesW_len hs) (SzW.lists hs) ⟨hS, hw⟩)
    (fun P n h l z hs _ W v hW => implCountSigns v P n h l z W hW (sizesW_len hs) (SzW.lists hs))
    w a len cap (bytesAt_of h) (bytes_len h)
end Go.Proofs.Ythgdobnegepgoaa
