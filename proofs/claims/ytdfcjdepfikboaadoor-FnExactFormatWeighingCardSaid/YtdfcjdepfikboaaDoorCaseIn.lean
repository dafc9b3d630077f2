/- The contracts of the program's own functions on cases: known, kind, coin, in, CaseOk and CoinOf, and the model's CoinOf. Condition: a number of coins and a case that fit Go's int. -/
import Derived.Test.YtdfcjdepfikboaaDoorCase
namespace Go.Proofs.YtdfcjdepfikboaaDoor
open Go.RowKit

/-- What is wrong in a case, as a number. -/
def kindI (c : Int) : Int := if 0 < c then 1 else if c < 0 then 2 else 0

theorem inB_bounds {c : Int} (h : inB c = true) : -13 ≤ c ∧ c ≤ 13 := by
  simpa [inB] using h

end Go.Proofs.YtdfcjdepfikboaaDoor
