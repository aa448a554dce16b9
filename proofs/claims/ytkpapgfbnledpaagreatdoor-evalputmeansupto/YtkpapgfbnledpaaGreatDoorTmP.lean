import Derived.Test.YtkpapgfbnledpaaGreatDoorTmD
import Derived.Lib.Hide
namespace Go.Proofs.YtkpapgfbnledpaaGreatDoor
open Go.ChangeShapes Go.WideShapes Go.ChangeAt Go.RowKit Go.Lib Go.Tm Go.Bw Go.Bn Go.WideMaps Go.Maps Go.ChangeMaps

end Go.Proofs.YtkpapgfbnledpaaGreatDoor
