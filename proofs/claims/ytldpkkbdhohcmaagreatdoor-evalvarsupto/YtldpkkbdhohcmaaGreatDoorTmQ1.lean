import Derived.Test.YtldpkkbdhohcmaaGreatDoorTmQ0
import Derived.Test.YtldpkkbdhohcmaaGreatDoorTmP
import Derived.Test.YtldpkkbdhohcmaaGreatDoorTmX
import Derived.Test.YtldpkkbdhohcmaaGreatDoorTmJ
namespace Go.Proofs.YtldpkkbdhohcmaaGreatDoor
open Go.ChangeShapes Go.WideShapes Go.ChangeAt Go.RowKit Go.Lib Go.Tm Go.Bw Go.Bn Go.WideMaps Go.Maps Go.ChangeMaps

end Go.Proofs.YtldpkkbdhohcmaaGreatDoor
