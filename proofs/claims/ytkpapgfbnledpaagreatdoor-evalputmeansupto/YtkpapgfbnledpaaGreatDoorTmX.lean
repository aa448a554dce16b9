import Derived.Test.YtkpapgfbnledpaaGreatDoorTmW
import Derived.Test.YtkpapgfbnledpaaGreatDoorTmS
namespace Go.Proofs.YtkpapgfbnledpaaGreatDoor
open Go.ChangeShapes Go.WideShapes Go.ChangeAt Go.RowKit Go.Lib Go.Tm Go.Bw Go.Bn Go.WideMaps Go.Maps Go.ChangeMaps

end Go.Proofs.YtkpapgfbnledpaaGreatDoor
