import Derived.Test.YtgcaionclkbehaaGreatDoorW0
set_option linter.all false
namespace Go.Proofs.YtgcaionclkbehaaGreatDoor
open Go.Conc Go.RowKit Go.Lib
theorem e39 : fin39 Tryz.prog (zb8 Tryz.prog ktB (prRow 37 L0) 10000 39 #[.slice (some ⟨164,0,none⟩) 11 11] sE) = true := by kernel_rfl
end Go.Proofs.YtgcaionclkbehaaGreatDoor
