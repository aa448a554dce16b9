import Derived.Test.YtopdbhkkmolllaaGreatDoorKnV
namespace Go.Proofs.YtopdbhkkmolllaaGreatDoor
open Go.ChangeShapes Go.WideShapes Go.ChangeAt Go.RowKit Go.Lib Go.Kn

end Go.Proofs.YtopdbhkkmolllaaGreatDoor
