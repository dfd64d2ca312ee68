/- The functions that compare, at values: where both sides read as the same, they answer true. -/
import Derived.Test.YtbjnjdhkillbiaaDoorEq
import Derived.Test.YtbjnjdhkillbiaaDoorVsz
namespace Go.Proofs.YtbjnjdhkillbiaaDoor
open Go.RowKit

end Go.Proofs.YtbjnjdhkillbiaaDoor
