import Derived.Test.YtgcaionclkbehaaGreatDoorW0
set_option linter.all false
set_option maxHeartbeats 2000000
set_option maxRecDepth 100000
namespace Go.Proofs.YtgcaionclkbehaaGreatDoor
open Go.Conc Go.RowKit Go.Lib
theorem ZQ:K5 Tryz.prog (br Tryz.prog mB (cR 37 L0) 10000 39 #[.slice (sq 164) 11 11] sE)=true:=by kernel_rfl
end Go.Proofs.YtgcaionclkbehaaGreatDoor
