/- The walks of the exact laws of DesignOk and SignsOf: each law returns true for every argument. Condition: the list that came in reads as weighings. -/
import Derived.Test.YthgdobnegepgoaaDesignLaws
import Derived.Test.YthgdobnegepgoaaDesignImpl
namespace Go.Proofs.Ythgdobnegepgoaa
open Go.RowKit

theorem walkFnExactDesignOk (w : World) (v : Value) (P : List WD) (cp : CameWds w v P) (m : Int) (wm : (Lit.int .i64 m).wf = true) :
    Calls Try.prog 4 #[v, .int .i64 m] w fun e w' => e = .returned (.bool true) ∧ Below w.heap.size w w' :=
  lawDesignOk (fun P m hs _ W v hW => implDesignOk v P m W hW (sizesW_len hs) (SzW.lists hs)) w v P cp m wm
theorem walkFnExactSignsOf (w : World) (v : Value) (P : List WD) (cp : CameWds w v P) (m : Int) (wm : (Lit.int .i64 m).wf = true) (c : Int) (wc : (Lit.int .i64 c).wf = true) :
    Calls Try.prog 5 #[v, .int .i64 m, .int .i64 c] w fun e w' => e = .returned (.bool true) ∧ Below w.heap.size w w' :=
  lawSignsOf (fun P m c hs _ hc W v hW => implSignsOf v P m c W hW (sizesW_len hs) (SzW.lists hs) (rangeW hc).1 (rangeW hc).2) w v P cp m wm c wc
end Go.Proofs.Ythgdobnegepgoaa
