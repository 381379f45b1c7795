import Derived.Test.YtgcaionclkbehaaGreatDoorRows
import Derived.Test.YtgcaionclkbehaaGreatDoorChecked
import Derived.KernelRfl
import Derived.JoinedOf
set_option linter.all false
set_option maxHeartbeats 0
set_option maxRecDepth 100000
namespace Go.Proofs.YtgcaionclkbehaaGreatDoor
theorem NA : (Rows.tokenizedUptoRow.wf (OpenSpec.ofChange Rows.tokenizedSpec)) = true := by kernel_rfl
theorem NB : (laidOutB Tryz.pinned.checked.prog) = true := by kernel_rfl
theorem NC : (mapsRowed Tryz.pinned.checked.prog) = true := by kernel_rfl
theorem ND : (Tryz.f4.params.all (Tryz.pinned.checked.prog.readableRec ·)) = true := by kernel_rfl
theorem NE : (namedTie Tryz.pinned.checked.prog Rows.tokenizedUptoRow.named Rows.tokenizedSpec.vars) = true := by kernel_rfl
theorem NF : ((Rows.tokenizedUptoRow.stops == [])) = true := by kernel_rfl
theorem NG : ((Tryz.pinned.checked.prog.stops == [])) = true := by kernel_rfl
theorem NH : ((Rows.tokenizedUptoRow.knobs == [])) = true := by kernel_rfl
theorem NI : ((Tryz.pinned.checked.prog.stopKnobs == [])) = true := by kernel_rfl
theorem NJ : ((Rows.tokenizedUptoRow.inPlace == Tryz.pinned.checked.prog.inPlace 4)) = true := by kernel_rfl
theorem I7 : ((Rows.tokenizedUptoRow.unfollowed == Tryz.pinned.checked.prog.unfollowed 4)) = true := by kernel_rfl
theorem I8 : ((Rows.tokenizedUptoRow.recurses == Tryz.pinned.checked.prog.recurses 4)) = true := by kernel_rfl
theorem I9 : ((Rows.tokenizedUptoRow.named == Tryz.pinned.checked.prog.varsNamed 4)) = true := by kernel_rfl
theorem Ja : ((Rows.tokenizedUptoRow.maps == (Tryz.f4.params.toList ++ Rows.tokenizedSpec.plain.varTypes Tryz.pinned.checked.prog).any (Tryz.pinned.checked.prog.mapsRec ·))) = true := by kernel_rfl
theorem Jb : ((Rows.tokenizedUptoRow.ifaces == (Tryz.f4.params.toList ++ Rows.tokenizedSpec.plain.varTypes Tryz.pinned.checked.prog).any (Tryz.pinned.checked.prog.ifacesRec ·))) = true := by kernel_rfl
theorem Jc : ((Rows.tokenizedUptoRow.mapsOut == Tryz.pinned.checked.prog.mapsAmong Tryz.f4.resultTypes.toList)) = true := by kernel_rfl
theorem Jd : ((Rows.tokenizedUptoRow.loops == (Tryz.f4.params.toList ++ Rows.tokenizedSpec.plain.varTypes Tryz.pinned.checked.prog).any (Tryz.pinned.checked.prog.loopsFrom ·))) = true := by kernel_rfl
theorem Je : ((Rows.tokenizedUptoRow.wideKeys == (Tryz.f4.params.toList ++ Rows.tokenizedSpec.plain.varTypes Tryz.pinned.checked.prog ++ Tryz.f4.resultTypes.toList).any (Tryz.pinned.checked.prog.wideKeysFrom ·))) = true := by kernel_rfl
theorem Jf : (Rows.tokenizedSpec.vars.all (Tryz.pinned.checked.prog.varReadable ·)) = true := by kernel_rfl
theorem Jg : (Tryz.f4.resultTypes.all (λt => Tryz.pinned.checked.prog.readableRec t && decide (t < Tryz.pinned.checked.prog.types.size))) = true := by kernel_rfl
theorem Jh : ((Rows.tokenizedUptoRow.ifacesOut == Tryz.f4.resultTypes.toList.any (Tryz.pinned.checked.prog.ifacesRec ·))) = true := by kernel_rfl
theorem Ji : ((Rows.tokenizedUptoRow.loopsOut == Tryz.f4.resultTypes.toList.any (Tryz.pinned.checked.prog.loopsFrom ·))) = true := by kernel_rfl
theorem Jj : ((Rows.tokenizedUptoRow.plainKeys == Tryz.pinned.checked.prog.plainKeys)) = true := by kernel_rfl
theorem Jk : (Rows.tokenizedUptoRow.shortTexts.isNone) = true := by kernel_rfl
theorem Jl : (Tryz.pinned.checked.prog.stopsHeard) = true := by kernel_rfl
theorem Jm : (Tryz.pinned.checked.prog.mayEnter) = true := by kernel_rfl
theorem Jn : ((Rows.tokenizedUptoRow.lifted == Tryz.pinned.checked.prog.liftsFinal)) = true := by kernel_rfl
theorem Jo : ((Tryz.pinned.checked.prog.make == some Rows.tokenizedUptoRow.make)) = true := by kernel_rfl
theorem Jp : ((Rows.tokenizedUptoRow.kinds == (if Rows.tokenizedUptoRow.domain.isEmpty then [] else Tryz.f4.params.toList.map λt => match Tryz.pinned.checked.prog.underlying t with | some (.int k) => some k | _ => none))) = true := by kernel_rfl
theorem Jq : ((Rows.tokenizedUptoRow.pinned == Rows.tokenizedUptoRow.pinnedBy)) = true := by kernel_rfl
theorem Jr : ((Rows.tokenizedUptoRow.veiled == (Tryz.f4.params.toList ++ Rows.tokenizedSpec.plain.varTypes Tryz.pinned.checked.prog ++ Tryz.f4.resultTypes.toList).any (Tryz.pinned.checked.prog.veiledRec ·))) = true := by kernel_rfl
theorem Js : (Rows.tokenizedUptoRow.veiledFits Tryz.pinned.checked.prog Tryz.f4.params.toList (Tryz.f4.params.toList ++ Rows.tokenizedSpec.plain.varTypes Tryz.pinned.checked.prog ++ Tryz.f4.resultTypes.toList)) = true := by kernel_rfl
