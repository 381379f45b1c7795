import Derived.Test.YtgcaionclkbehaaGreatDoorW0
set_option linter.all false
set_option maxHeartbeats 2000000
set_option maxRecDepth 100000
namespace Go.Proofs.YtgcaionclkbehaaGreatDoor
open Go.Conc Go.RowKit Go.Lib
def e40:Ef (jf 37 L0) 40 #[aC 37 0] sD (.slice (sq 164) 11 11) sE:=iQ 10000<|Sx kq
