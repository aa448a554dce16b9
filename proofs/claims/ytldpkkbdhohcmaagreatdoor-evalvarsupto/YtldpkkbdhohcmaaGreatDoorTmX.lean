import Derived.Test.YtldpkkbdhohcmaaGreatDoorTmW
import Derived.Test.YtldpkkbdhohcmaaGreatDoorTmS
namespace Go.Proofs.YtldpkkbdhohcmaaGreatDoor
open Go.ChangeShapes Go.WideShapes Go.ChangeAt Go.RowKit Go.Lib Go.Tm Go.Bw Go.Bn Go.WideMaps Go.Maps Go.ChangeMaps

end Go.Proofs.YtldpkkbdhohcmaaGreatDoor
