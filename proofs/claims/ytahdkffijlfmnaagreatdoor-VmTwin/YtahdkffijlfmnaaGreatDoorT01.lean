import Derived.Lib.ParseIntBTie
import Derived.Lib.ItoaMem
import Derived.Test.YtahdkffijlfmnaaGreatDoorT00
namespace Go.Proofs.YtahdkffijlfmnaaGreatDoor
open Go.RowKit
end Go.Proofs.YtahdkffijlfmnaaGreatDoor
