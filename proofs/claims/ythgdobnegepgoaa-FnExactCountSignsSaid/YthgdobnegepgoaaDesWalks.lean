/- The walks of the exact laws of CountSigns, DesignSolves, DecodeSigns and SpareWeighing: each law returns true for every argument. Condition: the list that came in reads as weighings. -/
import Derived.Test.YthgdobnegepgoaaSpareImpl
namespace Go.Proofs.Ythgdobnegepgoaa
open Go.RowKit

theorem walkFnExactCountSigns (w : World) (n : Int) (wn : (Lit.int .i64 n).wf = true) (h l z : Bool) (v : Value) (P : List WD) (cp : CameWds w v P) :
    Calls Try.prog 6 #[probV n h l z, v] w fun e w' => e = .returned (.bool true) ∧ Below w.heap.size w w' :=
  lawCountSigns (fun P n h l z hs _ W v hW => implCountSigns v P n h l z W hW (sizesW_len hs) (SzW.lists hs)) w n wn h l z v P cp
theorem walkFnExactDesignSolves (w : World) (n : Int) (wn : (Lit.int .i64 n).wf = true) (h l z : Bool) (v : Value) (P : List WD) (cp : CameWds w v P) :
    Calls Try.prog 7 #[probV n h l z, v] w fun e w' => e = .returned (.bool true) ∧ Below w.heap.size w w' :=
  lawDesignSolves (fun P n h l z hs _ W v hW => implDesignSolves v P n h l z W hW (sizesW_len hs) (SzW.lists hs)) w n wn h l z v P cp
theorem walkFnExactSpareWeighing (w : World) (n : Int) (wn : (Lit.int .i64 n).wf = true) (h l z : Bool) (v : Value) (P : List WD) (cp : CameWds w v P) :
    Calls Try.prog 10 #[probV n h l z, v] w fun e w' => e = .returned (.bool true) ∧ Below w.heap.size w w' :=
  lawSpareWeighing (fun P n h l z hs _ W v hW => implSpare v P n h l z W hW (sizesW_len hs) (SzW.lists hs)) w n wn h l z v P cp
theorem walkFnExactDecodeSigns (w : World) (n : Int) (wn : (Lit.int .i64 n).wf = true) (h l z : Bool) (v : Value) (P : List WD) (cp : CameWds w v P) (vs : Value) (S : List Int) (cs : CameInts w vs S) :
    Calls Try.prog 8 #[probV n h l z, v, vs] w fun e w' => e = .returned (.bool true) ∧ Below w.heap.size w w' :=
  lawDecodeSigns (fun P n h l z S hs _ hS hw W v vs hW hV => implDecodeSigns v vs P n h l z S W hW hV (sizesW_len hs) (SzW.lists hs) ⟨hS, hw⟩) w n wn h l z v P cp vs S cs
end Go.Proofs.Ythgdobnegepgoaa
