import Derived.Test.YtkpapgfbnledpaaGreatDoorTmQ0
import Derived.Test.YtkpapgfbnledpaaGreatDoorTmP
import Derived.Test.YtkpapgfbnledpaaGreatDoorTmX
import Derived.Test.YtkpapgfbnledpaaGreatDoorTmJ
namespace Go.Proofs.YtkpapgfbnledpaaGreatDoor
open Go.ChangeShapes Go.WideShapes Go.ChangeAt Go.RowKit Go.Lib Go.Tm Go.Bw Go.Bn Go.WideMaps Go.Maps Go.ChangeMaps

end Go.Proofs.YtkpapgfbnledpaaGreatDoor
