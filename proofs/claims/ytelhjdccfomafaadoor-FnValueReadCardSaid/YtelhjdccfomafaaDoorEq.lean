/- The functions that compare, at strings and records: where both sides read as the same, they answer true. -/
import Derived.Test.YtelhjdccfomafaaDoorRows
import Derived.Test.YtelhjdccfomafaaDoorKit
namespace Go.Proofs.YtelhjdccfomafaaDoor
open Go.RowKit

end Go.Proofs.YtelhjdccfomafaaDoor
