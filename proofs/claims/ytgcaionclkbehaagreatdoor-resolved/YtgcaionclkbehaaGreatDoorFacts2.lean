/-
 The closed facts of the row of resolved, one by one.
-/
import Derived.Test.YtgcaionclkbehaaGreatDoorRows
import Derived.Test.YtgcaionclkbehaaGreatDoorChecked
import Derived.KernelRfl
import Derived.JoinedOf
set_option linter.all false
set_option maxRecDepth 100000
namespace Go.Proofs.YtgcaionclkbehaaGreatDoor
theorem resolved_k0 : (Rows.resolvedRow.wf (OpenSpec.ofChange Rows.resolvedSpec)) = true := by kernel_rfl
theorem resolved_k1 : (laidOutB Tryz.pinned.checked.prog) = true := by kernel_rfl
theorem resolved_k2 : (mapsRowed Tryz.pinned.checked.prog) = true := by kernel_rfl
theorem resolved_k3 : (Tryz.f13.params.all (Tryz.pinned.checked.prog.readableRec ·)) = true := by kernel_rfl
theorem resolved_k4 : (namedTie Tryz.pinned.checked.prog Rows.resolvedRow.named Rows.resolvedSpec.vars) = true := by kernel_rfl
theorem resolved_k5 : ((Rows.resolvedRow.stops == [])) = true := by kernel_rfl
theorem resolved_k6 : ((Tryz.pinned.checked.prog.stops == [])) = true := by kernel_rfl
theorem resolved_k7 : ((Rows.resolvedRow.knobs == [])) = true := by kernel_rfl
theorem resolved_k8 : ((Tryz.pinned.checked.prog.stopKnobs == [])) = true := by kernel_rfl
theorem resolved_k9 : ((Rows.resolvedRow.inPlace == Tryz.pinned.checked.prog.inPlace 13)) = true := by kernel_rfl
theorem resolved_k10 : ((Rows.resolvedRow.unfollowed == Tryz.pinned.checked.prog.unfollowed 13)) = true := by kernel_rfl
theorem resolved_k11 : ((Rows.resolvedRow.recurses == Tryz.pinned.checked.prog.recurses 13)) = true := by kernel_rfl
theorem resolved_k12 : ((Rows.resolvedRow.named == Tryz.pinned.checked.prog.varsNamed 13)) = true := by kernel_rfl
theorem resolved_k13 : ((Rows.resolvedRow.maps == (Tryz.f13.params.toList ++ Rows.resolvedSpec.plain.varTypes Tryz.pinned.checked.prog).any (Tryz.pinned.checked.prog.mapsRec ·))) = true := by kernel_rfl
theorem resolved_k14 : ((Rows.resolvedRow.ifaces == (Tryz.f13.params.toList ++ Rows.resolvedSpec.plain.varTypes Tryz.pinned.checked.prog).any (Tryz.pinned.checked.prog.ifacesRec ·))) = true := by kernel_rfl
theorem resolved_k15 : ((Rows.resolvedRow.mapsOut == Tryz.pinned.checked.prog.mapsAmong Tryz.f13.resultTypes.toList)) = true := by kernel_rfl
theorem resolved_k16 : ((Rows.resolvedRow.loops == (Tryz.f13.params.toList ++ Rows.resolvedSpec.plain.varTypes Tryz.pinned.checked.prog).any (Tryz.pinned.checked.prog.loopsFrom ·))) = true := by kernel_rfl
theorem resolved_k17 : ((Rows.resolvedRow.wideKeys == (Tryz.f13.params.toList ++ Rows.resolvedSpec.plain.varTypes Tryz.pinned.checked.prog ++ Tryz.f13.resultTypes.toList).any (Tryz.pinned.checked.prog.wideKeysFrom ·))) = true := by kernel_rfl
theorem resolved_k18 : (Rows.resolvedSpec.vars.all (Tryz.pinned.checked.prog.varReadable ·)) = true := by kernel_rfl
theorem resolved_k19 : (Tryz.f13.resultTypes.all (fun t => Tryz.pinned.checked.prog.readableRec t && decide (t < Tryz.pinned.checked.prog.types.size))) = true := by kernel_rfl
theorem resolved_k20 : ((Rows.resolvedRow.ifacesOut == Tryz.f13.resultTypes.toList.any (Tryz.pinned.checked.prog.ifacesRec ·))) = true := by kernel_rfl
theorem resolved_k21 : ((Rows.resolvedRow.loopsOut == Tryz.f13.resultTypes.toList.any (Tryz.pinned.checked.prog.loopsFrom ·))) = true := by kernel_rfl
theorem resolved_k22 : ((Rows.resolvedRow.plainKeys == Tryz.pinned.checked.prog.plainKeys)) = true := by kernel_rfl
theorem resolved_k23 : (Rows.resolvedRow.shortTexts.isNone) = true := by kernel_rfl
theorem resolved_k24 : (Tryz.pinned.checked.prog.stopsHeard) = true := by kernel_rfl
theorem resolved_k25 : (Tryz.pinned.checked.prog.mayEnter) = true := by kernel_rfl
theorem resolved_k26 : ((Rows.resolvedRow.lifted == Tryz.pinned.checked.prog.liftsFinal)) = true := by kernel_rfl
theorem resolved_k27 : ((Tryz.pinned.checked.prog.make == some Rows.resolvedRow.make)) = true := by kernel_rfl
theorem resolved_k28 : ((Rows.resolvedRow.kinds == (if Rows.resolvedRow.domain.isEmpty then [] else Tryz.f13.params.toList.map fun t => match Tryz.pinned.checked.prog.underlying t with | some (.int k) => some k | _ => none))) = true := by kernel_rfl
theorem resolved_k29 : ((Rows.resolvedRow.pinned == Rows.resolvedRow.pinnedBy)) = true := by kernel_rfl
theorem resolved_k30 : ((Rows.resolvedRow.veiled == (Tryz.f13.params.toList ++ Rows.resolvedSpec.plain.varTypes Tryz.pinned.checked.prog ++ Tryz.f13.resultTypes.toList).any (Tryz.pinned.checked.prog.veiledRec ·))) = true := by kernel_rfl
theorem resolved_k31 : (Rows.resolvedRow.veiledFits Tryz.pinned.checked.prog Tryz.f13.params.toList (Tryz.f13.params.toList ++ Rows.resolvedSpec.plain.varTypes Tryz.pinned.checked.prog ++ Tryz.f13.resultTypes.toList)) = true := by kernel_rfl
end Go.Proofs.YtgcaionclkbehaaGreatDoor
