/- The walks of the laws of SplitBy and TellsMost: each returns true for every argument. Condition: the lists that came in read as integers. -/
import Derived.Test.YtdfcjdepfikboaaSplitByImpl
import Derived.Test.YtdfcjdepfikboaaSplitByLaw
import Derived.Test.YtdfcjdepfikboaaTellsLaw
namespace Go.Proofs.Ytdfcjdepfikboaa
open Go.RowKit

theorem partsIs (L R l : List Int) (ml : L.length ≤ 1048576) (mr : R.length ≤ 1048576) (mc : l.length ≤ 1048576) (hw : AllIn l) : PartsIs 22 L R l :=
  fun W vl vr vc h1 h2 h3 => implSplitBy vl vr vc L R l W h1 h2 h3 (by omega) (by omega) (by omega) hw
theorem mostIs (L R l : List Int) (ml : L.length ≤ 1048576) (mr : R.length ≤ 1048576) (mc : l.length ≤ 1048576) (hw : AllIn l) : MostIs 28 L R l :=
  fun W vl vr vc h1 h2 h3 => implTells vl vr vc L R l W h1 h2 h3 (by omega) (by omega) (by omega) hw
theorem walkFnExactSplitBy (w : World) (vl : Value) (L : List Int) (cl : CameInts w vl L) (vr : Value) (R : List Int) (cr : CameInts w vr R) (vc : Value) (l : List Int) (cc : CameInts w vc l) :
    Calls Try.prog 6 #[.agg #[vl, vr], vc] w fun e w' => e = .returned (.bool true) ∧ Below w.heap.size w w' :=
  lawSplitBy partsIs w vl L cl vr R cr vc l cc
theorem walkFnExactTellsMost (w : World) (vl : Value) (L : List Int) (cl : CameInts w vl L) (vr : Value) (R : List Int) (cr : CameInts w vr R) (vc : Value) (l : List Int) (cc : CameInts w vc l) :
    Calls Try.prog 7 #[.agg #[vl, vr], vc] w fun e w' => e = .returned (.bool true) ∧ Below w.heap.size w w' :=
  lawTellsMost mostIs w vl L cl vr R cr vc l cc
end Go.Proofs.Ytdfcjdepfikboaa
