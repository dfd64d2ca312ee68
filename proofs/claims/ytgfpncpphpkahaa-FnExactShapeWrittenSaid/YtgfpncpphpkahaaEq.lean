/- The functions that compare, at strings and records: where both sides read as the same, they answer true. -/
import Derived.Test.YtgfpncpphpkahaaRows
import Derived.Test.YtgfpncpphpkahaaKit
namespace Go.Proofs.Ytgfpncpphpkahaa
open Go.RowKit

end Go.Proofs.Ytgfpncpphpkahaa
