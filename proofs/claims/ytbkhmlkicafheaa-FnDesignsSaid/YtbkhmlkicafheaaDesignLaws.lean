/- The walks of the exact laws of DesignOk, SignsOf, CountSigns, DesignSolves and SpareWeighing round the contracts of the program's functions: each law returns true for every argument. Condition: the list that came in reads as weighings. -/
import Derived.Test.YtbkhmlkicafheaaSpareSpec
import Derived.Test.YtbkhmlkicafheaaCameWds
import Derived.Test.YtbkhmlkicafheaaMarkWds
namespace Go.Proofs.Ytbkhmlkicafheaa
open Go.RowKit

/-- The contract of a function that answers as DesignOk does. -/
def DesignOkIs (f : FuncId) (P : List WD) (m : Int) : Prop :=
  ∀ W v, WdsAt W v P → Calls Try.prog f #[v, .int .i64 m] W fun e w' => e = .returned (.bool (designB P m)) ∧ Below W.heap.size W w'

/-- The contract of a function that answers as CountSigns does. -/
def CountSignsIs (f : FuncId) (P : List WD) (n : Int) (h l z : Bool) : Prop :=
  ∀ W v, WdsAt W v P → Calls Try.prog f #[probV n h l z, v] W fun e w' => e = .returned (.int .i64 (cntR P n h l z)) ∧ Below W.heap.size W w'

/-- The contract of a function that answers as DesignSolves does. -/
def DesignSolvesIs (f : FuncId) (P : List WD) (n : Int) (h l z : Bool) : Prop :=
  ∀ W v, WdsAt W v P → Calls Try.prog f #[probV n h l z, v] W fun e w' => e = .returned (.bool (dsolB P n h l z)) ∧ Below W.heap.size W w'

/-- The contract of a function that answers as SpareWeighing does. -/
def SpareWeighingIs (f : FuncId) (P : List WD) (n : Int) (h l z : Bool) : Prop :=
  ∀ W v, WdsAt W v P → Calls Try.prog f #[probV n h l z, v] W fun e w' => e = .returned (.int .i64 (spareR P n h l z)) ∧ Below W.heap.size W w'

/-- The contract of a function that tells the signs of a case. -/
def SignsIs (f : FuncId) (P : List WD) (m c : Int) : Prop :=
  ∀ W v, WdsAt W v P → Calls Try.prog f #[v, .int .i64 m, .int .i64 c] W (SignsR P m c W)

end Go.Proofs.Ytbkhmlkicafheaa
