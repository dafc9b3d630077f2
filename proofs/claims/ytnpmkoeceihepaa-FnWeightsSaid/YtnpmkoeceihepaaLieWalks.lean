/- The walks of the exact laws of WeightOf, CanWin, FirstAsk and FewestAsks: each returns true for every argument. No condition. -/
import Derived.Test.YtnpmkoeceihepaaLieWinImpl
namespace Go.Proofs.Ytnpmkoeceihepaa
open Go.RowKit

theorem implWeightIs (a b q : Int) : WeightOfIs 24 a b q := fun W => (implWeight a b q W).mono fun _ _ h => ⟨h.1, h.2 ▸ Below.refl _ _⟩
theorem walkFnExactWeightOf (a : Int) (_ : (Lit.int .i64 a).wf = true) (b : Int) (_ : (Lit.int .i64 b).wf = true) (q : Int) (_ : (Lit.int .i64 q).wf = true) (w : World) :
    Calls Try.prog 6 #[.int .i64 a, .int .i64 b, .int .i64 q] w fun e w' => e = .returned (.bool true) ∧ Below w.heap.size w w' :=
  lawWeightOf a b q w (implWeightIs a b q)
theorem walkFnExactCanWin (a : Int) (_ : (Lit.int .i64 a).wf = true) (b : Int) (_ : (Lit.int .i64 b).wf = true) (q : Int) (_ : (Lit.int .i64 q).wf = true) (w : World) :
    Calls Try.prog 7 #[.int .i64 a, .int .i64 b, .int .i64 q] w fun e w' => e = .returned (.bool true) ∧ Below w.heap.size w w' :=
  lawCanWin a b q w (implCanWin a b q)
theorem walkFnExactFirstAsk (a : Int) (_ : (Lit.int .i64 a).wf = true) (b : Int) (_ : (Lit.int .i64 b).wf = true) (q : Int) (_ : (Lit.int .i64 q).wf = true) (w : World) :
    Calls Try.prog 8 #[.int .i64 a, .int .i64 b, .int .i64 q] w fun e w' => e = .returned (.bool true) ∧ Below w.heap.size w w' :=
  lawFirstAsk a b q w (implFirstAsk a b q)
theorem walkFnExactFewestAsks (n : Int) (_ : (Lit.int .i64 n).wf = true) (w : World) :
    Calls Try.prog 9 #[.int .i64 n] w fun e w' => e = .returned (.bool true) ∧ Below w.heap.size w w' :=
  lawFewestAsks n w (implFewestAsks n)
end Go.Proofs.Ytnpmkoeceihepaa
