import Derived.Test.YtgcaionclkbehaaGreatDoorW0
set_option linter.all false
namespace Go.Proofs.YtgcaionclkbehaaGreatDoor
open Go.Conc Go.RowKit Go.Lib
theorem e40 : EF Tryz.prog ktB (prRow 37 L0) 40 #[aptr 37 0] sD (.slice (some ⟨164,0,none⟩) 11 11) sE := EF.eval 10000 (chk_eq (by kernel_rfl))
end Go.Proofs.YtgcaionclkbehaaGreatDoor
