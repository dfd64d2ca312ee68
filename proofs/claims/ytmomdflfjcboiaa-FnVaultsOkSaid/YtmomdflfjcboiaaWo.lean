/- Vaults as arguments: from the form's reading to the kit's. -/
import Derived.Test.YtmomdflfjcboiaaWb
import Derived.Test.YtmomdflfjcboiaaVlk
namespace Go.Proofs.Ytmomdflfjcboiaa
open Go.ChangeShapes Go.WideShapes Go.ChangeAt Go.RowKit Go.Deep

end Go.Proofs.Ytmomdflfjcboiaa
