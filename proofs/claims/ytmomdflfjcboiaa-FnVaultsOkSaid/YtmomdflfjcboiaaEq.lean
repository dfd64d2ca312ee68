/- The functions that compare, at strings and records: where both sides read as the same, they answer true. -/
import Derived.Test.YtmomdflfjcboiaaRows
import Derived.Test.YtmomdflfjcboiaaKit
namespace Go.Proofs.Ytmomdflfjcboiaa
open Go.RowKit

end Go.Proofs.Ytmomdflfjcboiaa
