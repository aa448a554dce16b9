import Derived.Test.YtobgedjpghokcaaGreatDoorTmW
import Derived.Test.YtobgedjpghokcaaGreatDoorTmS
namespace Go.Proofs.YtobgedjpghokcaaGreatDoor
open Go.ChangeShapes Go.WideShapes Go.ChangeAt Go.RowKit Go.Lib Go.Tm Go.Bw Go.Bn Go.WideMaps Go.Maps Go.ChangeMaps

end Go.Proofs.YtobgedjpghokcaaGreatDoor
