import Derived.Test.YtokpjegiinggdaaDoorOwn
import Derived.Test.YtokpjegiinggdaaDoorOne
namespace Go.Proofs.YtokpjegiinggdaaDoor
open Go.ChangeShapes Go.WideShapes Go.ChangeAt Go.RowKit Go.Cn

end Go.Proofs.YtokpjegiinggdaaDoor
