import Derived.Test.YtgcaionclkbehaaGreatDoorRows
import Derived.JoinedOf
set_option linter.all false
set_option maxHeartbeats 2000000
set_option maxRecDepth 100000
namespace Go.Proofs.YtgcaionclkbehaaGreatDoor
theorem zX:(Rows.escapedRow.wf (OpenSpec.ofChange Rows.escapedSpec))=true:=by kernel_rfl
theorem zY:(laidOutB Tryz.pinned.checked.prog)=true:=by kernel_rfl
theorem zZ:(mapsRowed Tryz.pinned.checked.prog)=true:=by kernel_rfl
theorem z6:(Tryz.f10.params.all (Tryz.pinned.checked.prog.readableRec ·))=true:=by kernel_rfl
theorem z7:(namedTie Tryz.pinned.checked.prog Rows.escapedRow.named Rows.escapedSpec.vars)=true:=by kernel_rfl
theorem z8:((Rows.escapedRow.stops==[]))=true:=by kernel_rfl
theorem z9:((Tryz.pinned.checked.prog.stops==[]))=true:=by kernel_rfl
theorem Aa:((Rows.escapedRow.knobs==[]))=true:=by kernel_rfl
theorem Ab:((Tryz.pinned.checked.prog.stopKnobs==[]))=true:=by kernel_rfl
theorem Ac:((Rows.escapedRow.inPlace==Tryz.pinned.checked.prog.inPlace 10))=true:=by kernel_rfl
theorem xn:((Rows.escapedRow.unfollowed==Tryz.pinned.checked.prog.unfollowed 10))=true:=by kernel_rfl
theorem xo:((Rows.escapedRow.recurses==Tryz.pinned.checked.prog.recurses 10))=true:=by kernel_rfl
theorem xp:((Rows.escapedRow.named==Tryz.pinned.checked.prog.varsNamed 10))=true:=by kernel_rfl
theorem xq:((Rows.escapedRow.maps==(Tryz.f10.params.toList++Rows.escapedSpec.plain.varTypes Tryz.pinned.checked.prog).any (Tryz.pinned.checked.prog.mapsRec ·)))=true:=by kernel_rfl
theorem xr:((Rows.escapedRow.ifaces==(Tryz.f10.params.toList++Rows.escapedSpec.plain.varTypes Tryz.pinned.checked.prog).any (Tryz.pinned.checked.prog.ifacesRec ·)))=true:=by kernel_rfl
theorem xt:((Rows.escapedRow.mapsOut==Tryz.pinned.checked.prog.mapsAmong Tryz.f10.resultTypes.toList))=true:=by kernel_rfl
theorem xv:((Rows.escapedRow.loops==(Tryz.f10.params.toList++Rows.escapedSpec.plain.varTypes Tryz.pinned.checked.prog).any (Tryz.pinned.checked.prog.loopsFrom ·)))=true:=by kernel_rfl
theorem xw:((Rows.escapedRow.wideKeys==(Tryz.f10.params.toList++Rows.escapedSpec.plain.varTypes Tryz.pinned.checked.prog++Tryz.f10.resultTypes.toList).any (Tryz.pinned.checked.prog.wideKeysFrom ·)))=true:=by kernel_rfl
theorem xx:(Rows.escapedSpec.vars.all (Tryz.pinned.checked.prog.varReadable ·))=true:=by kernel_rfl
theorem xy:(Tryz.f10.resultTypes.all (fun t=>Tryz.pinned.checked.prog.readableRec t&&decide (t<Tryz.pinned.checked.prog.types.size)))=true:=by kernel_rfl
theorem xz:((Rows.escapedRow.ifacesOut==Tryz.f10.resultTypes.toList.any (Tryz.pinned.checked.prog.ifacesRec ·)))=true:=by kernel_rfl
theorem xC:((Rows.escapedRow.loopsOut==Tryz.f10.resultTypes.toList.any (Tryz.pinned.checked.prog.loopsFrom ·)))=true:=by kernel_rfl
theorem xD:((Rows.escapedRow.plainKeys==Tryz.pinned.checked.prog.plainKeys))=true:=by kernel_rfl
theorem xE:(Rows.escapedRow.shortTexts.isNone)=true:=by kernel_rfl
theorem xF:(Tryz.pinned.checked.prog.stopsHeard)=true:=by kernel_rfl
theorem xG:(Tryz.pinned.checked.prog.mayEnter)=true:=by kernel_rfl
theorem xH:((Rows.escapedRow.lifted==Tryz.pinned.checked.prog.liftsFinal))=true:=by kernel_rfl
theorem xI:((Tryz.pinned.checked.prog.make==some Rows.escapedRow.make))=true:=by kernel_rfl
theorem xJ:((Rows.escapedRow.kinds==(if Rows.escapedRow.domain.isEmpty then [] else Tryz.f10.params.toList.map fun t=>match Tryz.pinned.checked.prog.underlying t with|some (.int k)=>some k|_=>none)))=true:=by kernel_rfl
theorem xK:((Rows.escapedRow.pinned==Rows.escapedRow.pinnedBy))=true:=by kernel_rfl
theorem xL:((Rows.escapedRow.veiled==(Tryz.f10.params.toList++Rows.escapedSpec.plain.varTypes Tryz.pinned.checked.prog++Tryz.f10.resultTypes.toList).any (Tryz.pinned.checked.prog.veiledRec ·)))=true:=by kernel_rfl
theorem xM:(Rows.escapedRow.veiledFits Tryz.pinned.checked.prog Tryz.f10.params.toList (Tryz.f10.params.toList++Rows.escapedSpec.plain.varTypes Tryz.pinned.checked.prog++Tryz.f10.resultTypes.toList))=true:=by kernel_rfl
end Go.Proofs.YtgcaionclkbehaaGreatDoor
