import Derived.Test.YtdgmilmhdcmbgaaGreatDoorTmW
import Derived.Test.YtdgmilmhdcmbgaaGreatDoorTmS
namespace Go.Proofs.YtdgmilmhdcmbgaaGreatDoor
open Go.ChangeShapes Go.WideShapes Go.ChangeAt Go.RowKit Go.Lib Go.Tm Go.Bw Go.Bn Go.WideMaps Go.Maps Go.ChangeMaps

end Go.Proofs.YtdgmilmhdcmbgaaGreatDoor
