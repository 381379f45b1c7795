import Derived.Test.YtgcaionclkbehaaGreatDoorRows
import Derived.JoinedOf
set_option linter.all false
set_option maxHeartbeats 2000000
set_option maxRecDepth 100000
namespace Go.Proofs.YtgcaionclkbehaaGreatDoor
theorem II:(Rows.grownRow.wf (OpenSpec.ofChange Rows.grownSpec))=true:=by kernel_rfl
theorem IJ:(laidOutB Tryz.pinned.checked.prog)=true:=by kernel_rfl
theorem IK:(mapsRowed Tryz.pinned.checked.prog)=true:=by kernel_rfl
theorem IL:(Tryz.f7.params.all (Tryz.pinned.checked.prog.readableRec ·))=true:=by kernel_rfl
theorem IM:(namedTie Tryz.pinned.checked.prog Rows.grownRow.named Rows.grownSpec.vars)=true:=by kernel_rfl
theorem IP:((Rows.grownRow.stops==[]))=true:=by kernel_rfl
theorem IQ:((Tryz.pinned.checked.prog.stops==[]))=true:=by kernel_rfl
theorem IU:((Rows.grownRow.knobs==[]))=true:=by kernel_rfl
theorem IV:((Tryz.pinned.checked.prog.stopKnobs==[]))=true:=by kernel_rfl
theorem IW:((Rows.grownRow.inPlace==Tryz.pinned.checked.prog.inPlace 7))=true:=by kernel_rfl
theorem FK:((Rows.grownRow.unfollowed==Tryz.pinned.checked.prog.unfollowed 7))=true:=by kernel_rfl
theorem FL:((Rows.grownRow.recurses==Tryz.pinned.checked.prog.recurses 7))=true:=by kernel_rfl
theorem FM:((Rows.grownRow.named==Tryz.pinned.checked.prog.varsNamed 7))=true:=by kernel_rfl
theorem FN:((Rows.grownRow.maps==(Tryz.f7.params.toList++Rows.grownSpec.plain.varTypes Tryz.pinned.checked.prog).any (Tryz.pinned.checked.prog.mapsRec ·)))=true:=by kernel_rfl
theorem FO:((Rows.grownRow.ifaces==(Tryz.f7.params.toList++Rows.grownSpec.plain.varTypes Tryz.pinned.checked.prog).any (Tryz.pinned.checked.prog.ifacesRec ·)))=true:=by kernel_rfl
theorem FP:((Rows.grownRow.mapsOut==Tryz.pinned.checked.prog.mapsAmong Tryz.f7.resultTypes.toList))=true:=by kernel_rfl
theorem FQ:((Rows.grownRow.loops==(Tryz.f7.params.toList++Rows.grownSpec.plain.varTypes Tryz.pinned.checked.prog).any (Tryz.pinned.checked.prog.loopsFrom ·)))=true:=by kernel_rfl
theorem FR:((Rows.grownRow.wideKeys==(Tryz.f7.params.toList++Rows.grownSpec.plain.varTypes Tryz.pinned.checked.prog++Tryz.f7.resultTypes.toList).any (Tryz.pinned.checked.prog.wideKeysFrom ·)))=true:=by kernel_rfl
theorem FU:(Rows.grownSpec.vars.all (Tryz.pinned.checked.prog.varReadable ·))=true:=by kernel_rfl
theorem FV:(Tryz.f7.resultTypes.all (λt=>Tryz.pinned.checked.prog.readableRec t&&decide (t<Tryz.pinned.checked.prog.types.size)))=true:=by kernel_rfl
theorem FW:((Rows.grownRow.ifacesOut==Tryz.f7.resultTypes.toList.any (Tryz.pinned.checked.prog.ifacesRec ·)))=true:=by kernel_rfl
theorem FX:((Rows.grownRow.loopsOut==Tryz.f7.resultTypes.toList.any (Tryz.pinned.checked.prog.loopsFrom ·)))=true:=by kernel_rfl
theorem FY:((Rows.grownRow.plainKeys==Tryz.pinned.checked.prog.plainKeys))=true:=by kernel_rfl
theorem FZ:(Rows.grownRow.shortTexts.isNone)=true:=by kernel_rfl
theorem F0:(Tryz.pinned.checked.prog.stopsHeard)=true:=by kernel_rfl
theorem F1:(Tryz.pinned.checked.prog.mayEnter)=true:=by kernel_rfl
theorem F2:((Rows.grownRow.lifted==Tryz.pinned.checked.prog.liftsFinal))=true:=by kernel_rfl
theorem F3:((Tryz.pinned.checked.prog.make==some Rows.grownRow.make))=true:=by kernel_rfl
theorem F4:((Rows.grownRow.kinds==(if Rows.grownRow.domain.isEmpty then [] else Tryz.f7.params.toList.map λt=>match Tryz.pinned.checked.prog.underlying t with|some (.int k)=>some k|_=>none)))=true:=by kernel_rfl
theorem F5:((Rows.grownRow.pinned==Rows.grownRow.pinnedBy))=true:=by kernel_rfl
theorem F6:((Rows.grownRow.veiled==(Tryz.f7.params.toList++Rows.grownSpec.plain.varTypes Tryz.pinned.checked.prog++Tryz.f7.resultTypes.toList).any (Tryz.pinned.checked.prog.veiledRec ·)))=true:=by kernel_rfl
theorem F7:(Rows.grownRow.veiledFits Tryz.pinned.checked.prog Tryz.f7.params.toList (Tryz.f7.params.toList++Rows.grownSpec.plain.varTypes Tryz.pinned.checked.prog++Tryz.f7.resultTypes.toList))=true:=by kernel_rfl
end Go.Proofs.YtgcaionclkbehaaGreatDoor
