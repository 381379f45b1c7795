import Derived.Test.YtgcaionclkbehaaGreatDoorRows
import Derived.JoinedOf
set_option linter.all false
set_option maxRecDepth 100000
namespace Go.Proofs.YtgcaionclkbehaaGreatDoor
theorem raw_k0 : (Rows.rawRow.wf (OpenSpec.ofChange Rows.rawSpec)) = true := by kernel_rfl
theorem raw_k1 : (laidOutB Tryz.pinned.checked.prog) = true := by kernel_rfl
theorem raw_k2 : (mapsRowed Tryz.pinned.checked.prog) = true := by kernel_rfl
theorem raw_k3 : (Tryz.f12.params.all (Tryz.pinned.checked.prog.readableRec ·)) = true := by kernel_rfl
theorem raw_k4 : (namedTie Tryz.pinned.checked.prog Rows.rawRow.named Rows.rawSpec.vars) = true := by kernel_rfl
theorem raw_k5 : ((Rows.rawRow.stops == [])) = true := by kernel_rfl
theorem raw_k6 : ((Tryz.pinned.checked.prog.stops == [])) = true := by kernel_rfl
theorem raw_k7 : ((Rows.rawRow.knobs == [])) = true := by kernel_rfl
theorem raw_k8 : ((Tryz.pinned.checked.prog.stopKnobs == [])) = true := by kernel_rfl
theorem raw_k9 : ((Rows.rawRow.inPlace == Tryz.pinned.checked.prog.inPlace 12)) = true := by kernel_rfl
theorem raw_k10 : ((Rows.rawRow.unfollowed == Tryz.pinned.checked.prog.unfollowed 12)) = true := by kernel_rfl
theorem raw_k11 : ((Rows.rawRow.recurses == Tryz.pinned.checked.prog.recurses 12)) = true := by kernel_rfl
theorem raw_k12 : ((Rows.rawRow.named == Tryz.pinned.checked.prog.varsNamed 12)) = true := by kernel_rfl
theorem raw_k13 : ((Rows.rawRow.maps == (Tryz.f12.params.toList ++ Rows.rawSpec.plain.varTypes Tryz.pinned.checked.prog).any (Tryz.pinned.checked.prog.mapsRec ·))) = true := by kernel_rfl
theorem raw_k14 : ((Rows.rawRow.ifaces == (Tryz.f12.params.toList ++ Rows.rawSpec.plain.varTypes Tryz.pinned.checked.prog).any (Tryz.pinned.checked.prog.ifacesRec ·))) = true := by kernel_rfl
theorem raw_k15 : ((Rows.rawRow.mapsOut == Tryz.pinned.checked.prog.mapsAmong Tryz.f12.resultTypes.toList)) = true := by kernel_rfl
theorem raw_k16 : ((Rows.rawRow.loops == (Tryz.f12.params.toList ++ Rows.rawSpec.plain.varTypes Tryz.pinned.checked.prog).any (Tryz.pinned.checked.prog.loopsFrom ·))) = true := by kernel_rfl
theorem raw_k17 : ((Rows.rawRow.wideKeys == (Tryz.f12.params.toList ++ Rows.rawSpec.plain.varTypes Tryz.pinned.checked.prog ++ Tryz.f12.resultTypes.toList).any (Tryz.pinned.checked.prog.wideKeysFrom ·))) = true := by kernel_rfl
theorem raw_k18 : (Rows.rawSpec.vars.all (Tryz.pinned.checked.prog.varReadable ·)) = true := by kernel_rfl
theorem raw_k19 : (Tryz.f12.resultTypes.all (fun t => Tryz.pinned.checked.prog.readableRec t && decide (t < Tryz.pinned.checked.prog.types.size))) = true := by kernel_rfl
theorem raw_k20 : ((Rows.rawRow.ifacesOut == Tryz.f12.resultTypes.toList.any (Tryz.pinned.checked.prog.ifacesRec ·))) = true := by kernel_rfl
theorem raw_k21 : ((Rows.rawRow.loopsOut == Tryz.f12.resultTypes.toList.any (Tryz.pinned.checked.prog.loopsFrom ·))) = true := by kernel_rfl
theorem raw_k22 : ((Rows.rawRow.plainKeys == Tryz.pinned.checked.prog.plainKeys)) = true := by kernel_rfl
theorem raw_k23 : (Rows.rawRow.shortTexts.isNone) = true := by kernel_rfl
theorem raw_k24 : (Tryz.pinned.checked.prog.stopsHeard) = true := by kernel_rfl
theorem raw_k25 : (Tryz.pinned.checked.prog.mayEnter) = true := by kernel_rfl
theorem raw_k26 : ((Rows.rawRow.lifted == Tryz.pinned.checked.prog.liftsFinal)) = true := by kernel_rfl
theorem raw_k27 : ((Tryz.pinned.checked.prog.make == some Rows.rawRow.make)) = true := by kernel_rfl
theorem raw_k28 : ((Rows.rawRow.kinds == (if Rows.rawRow.domain.isEmpty then [] else Tryz.f12.params.toList.map fun t => match Tryz.pinned.checked.prog.underlying t with | some (.int k) => some k | _ => none))) = true := by kernel_rfl
theorem raw_k29 : ((Rows.rawRow.pinned == Rows.rawRow.pinnedBy)) = true := by kernel_rfl
theorem raw_k30 : ((Rows.rawRow.veiled == (Tryz.f12.params.toList ++ Rows.rawSpec.plain.varTypes Tryz.pinned.checked.prog ++ Tryz.f12.resultTypes.toList).any (Tryz.pinned.checked.prog.veiledRec ·))) = true := by kernel_rfl
theorem raw_k31 : (Rows.rawRow.veiledFits Tryz.pinned.checked.prog Tryz.f12.params.toList (Tryz.f12.params.toList ++ Rows.rawSpec.plain.varTypes Tryz.pinned.checked.prog ++ Tryz.f12.resultTypes.toList)) = true := by kernel_rfl
end Go.Proofs.YtgcaionclkbehaaGreatDoor
