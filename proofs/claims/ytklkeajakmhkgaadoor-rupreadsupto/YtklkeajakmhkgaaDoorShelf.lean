import Derived.Test.YtklkeajakmhkgaaDoorProg
import Derived.WalkKit
import Derived.Lib.Walk
import Derived.Lib.AppendIntMem
namespace Go.Proofs.YtklkeajakmhkgaaDoor
end Go.Proofs.YtklkeajakmhkgaaDoor
