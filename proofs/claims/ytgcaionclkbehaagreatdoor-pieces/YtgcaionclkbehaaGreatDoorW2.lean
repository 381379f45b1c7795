import Derived.Test.YtgcaionclkbehaaGreatDoorW0
set_option linter.all false
set_option maxHeartbeats 2000000
set_option maxRecDepth 100000
namespace Go.Proofs.YtgcaionclkbehaaGreatDoor
open Go.Conc Go.RowKit Go.Lib
def e39:Q9 Tryz.prog (ck Tryz.prog kg (jf 37 L0) 10000 39 #[.slice (sq 164) 11 11] sE)=true:=kq
