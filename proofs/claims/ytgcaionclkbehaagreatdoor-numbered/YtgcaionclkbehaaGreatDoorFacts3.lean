import Derived.Test.YtgcaionclkbehaaGreatDoorRows
import Derived.JoinedOf
set_option linter.all false
set_option maxRecDepth 100000
namespace Go.Proofs.YtgcaionclkbehaaGreatDoor
open Tryz
theorem numbered_k0 : (Rows.numberedRow.wf (OpenSpec.ofChange Rows.numberedSpec)) = true := by kernel_rfl
theorem numbered_k1 : (laidOutB Tryz.pinned.checked.prog) = true := by kernel_rfl
theorem numbered_k2 : (mapsRowed Tryz.pinned.checked.prog) = true := by kernel_rfl
theorem numbered_k3 : (Tryz.f11.params.all (Tryz.pinned.checked.prog.readableRec ·)) = true := by kernel_rfl
theorem numbered_k4 : (namedTie Tryz.pinned.checked.prog Rows.numberedRow.named Rows.numberedSpec.vars) = true := by kernel_rfl
theorem numbered_k5 : ((Rows.numberedRow.stops == [])) = true := by kernel_rfl
theorem numbered_k6 : ((Tryz.pinned.checked.prog.stops == [])) = true := by kernel_rfl
theorem numbered_k7 : ((Rows.numberedRow.knobs == [])) = true := by kernel_rfl
theorem numbered_k8 : ((Tryz.pinned.checked.prog.stopKnobs == [])) = true := by kernel_rfl
theorem numbered_k9 : ((Rows.numberedRow.inPlace == Tryz.pinned.checked.prog.inPlace 11)) = true := by kernel_rfl
theorem numbered_k10 : ((Rows.numberedRow.unfollowed == Tryz.pinned.checked.prog.unfollowed 11)) = true := by kernel_rfl
theorem numbered_k11 : ((Rows.numberedRow.recurses == Tryz.pinned.checked.prog.recurses 11)) = true := by kernel_rfl
theorem numbered_k12 : ((Rows.numberedRow.named == Tryz.pinned.checked.prog.varsNamed 11)) = true := by kernel_rfl
theorem numbered_k13 : ((Rows.numberedRow.maps == (Tryz.f11.params.toList ++ Rows.numberedSpec.plain.varTypes Tryz.pinned.checked.prog).any (Tryz.pinned.checked.prog.mapsRec ·))) = true := by kernel_rfl
theorem numbered_k14 : ((Rows.numberedRow.ifaces == (Tryz.f11.params.toList ++ Rows.numberedSpec.plain.varTypes Tryz.pinned.checked.prog).any (Tryz.pinned.checked.prog.ifacesRec ·))) = true := by kernel_rfl
theorem numbered_k15 : ((Rows.numberedRow.mapsOut == Tryz.pinned.checked.prog.mapsAmong Tryz.f11.resultTypes.toList)) = true := by kernel_rfl
theorem numbered_k16 : ((Rows.numberedRow.loops == (Tryz.f11.params.toList ++ Rows.numberedSpec.plain.varTypes Tryz.pinned.checked.prog).any (Tryz.pinned.checked.prog.loopsFrom ·))) = true := by kernel_rfl
theorem numbered_k17 : ((Rows.numberedRow.wideKeys == (Tryz.f11.params.toList ++ Rows.numberedSpec.plain.varTypes Tryz.pinned.checked.prog ++ Tryz.f11.resultTypes.toList).any (Tryz.pinned.checked.prog.wideKeysFrom ·))) = true := by kernel_rfl
theorem numbered_k18 : (Rows.numberedSpec.vars.all (Tryz.pinned.checked.prog.varReadable ·)) = true := by kernel_rfl
theorem numbered_k19 : (Tryz.f11.resultTypes.all (fun t => Tryz.pinned.checked.prog.readableRec t && decide (t < Tryz.pinned.checked.prog.types.size))) = true := by kernel_rfl
theorem numbered_k20 : ((Rows.numberedRow.ifacesOut == Tryz.f11.resultTypes.toList.any (Tryz.pinned.checked.prog.ifacesRec ·))) = true := by kernel_rfl
theorem numbered_k21 : ((Rows.numberedRow.loopsOut == Tryz.f11.resultTypes.toList.any (Tryz.pinned.checked.prog.loopsFrom ·))) = true := by kernel_rfl
theorem numbered_k22 : ((Rows.numberedRow.plainKeys == Tryz.pinned.checked.prog.plainKeys)) = true := by kernel_rfl
theorem numbered_k23 : (Rows.numberedRow.shortTexts.isNone) = true := by kernel_rfl
theorem numbered_k24 : (Tryz.pinned.checked.prog.stopsHeard) = true := by kernel_rfl
theorem numbered_k25 : (Tryz.pinned.checked.prog.mayEnter) = true := by kernel_rfl
theorem numbered_k26 : ((Rows.numberedRow.lifted == Tryz.pinned.checked.prog.liftsFinal)) = true := by kernel_rfl
theorem numbered_k27 : ((Tryz.pinned.checked.prog.make == some Rows.numberedRow.make)) = true := by kernel_rfl
theorem numbered_k28 : ((Rows.numberedRow.kinds == (if Rows.numberedRow.domain.isEmpty then [] else Tryz.f11.params.toList.map fun t => match Tryz.pinned.checked.prog.underlying t with | some (.int k) => some k | _ => none))) = true := by kernel_rfl
theorem numbered_k29 : ((Rows.numberedRow.pinned == Rows.numberedRow.pinnedBy)) = true := by kernel_rfl
theorem numbered_k30 : ((Rows.numberedRow.veiled == (Tryz.f11.params.toList ++ Rows.numberedSpec.plain.varTypes Tryz.pinned.checked.prog ++ Tryz.f11.resultTypes.toList).any (Tryz.pinned.checked.prog.veiledRec ·))) = true := by kernel_rfl
theorem numbered_k31 : (Rows.numberedRow.veiledFits Tryz.pinned.checked.prog Tryz.f11.params.toList (Tryz.f11.params.toList ++ Rows.numberedSpec.plain.varTypes Tryz.pinned.checked.prog ++ Tryz.f11.resultTypes.toList)) = true := by kernel_rfl
end Go.Proofs.YtgcaionclkbehaaGreatDoor
