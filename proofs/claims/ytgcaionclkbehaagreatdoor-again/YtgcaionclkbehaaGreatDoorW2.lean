import Derived.Test.YtgcaionclkbehaaGreatDoorE31
set_option linter.all false
set_option maxHeartbeats 2000000
set_option maxRecDepth 100000
namespace Go.Proofs.YtgcaionclkbehaaGreatDoor
open Go.Conc Go.RowKit Go.Lib
def Ww:Lx Tryz.prog (bG Tryz.prog lF (dl 37 L0) 10000 39 #[.slice (sq 164) 11 11] sE)=true:=kq
end Go.Proofs.YtgcaionclkbehaaGreatDoor
