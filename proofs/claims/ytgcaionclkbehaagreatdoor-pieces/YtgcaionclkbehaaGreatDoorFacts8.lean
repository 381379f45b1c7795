import Derived.Test.YtgcaionclkbehaaGreatDoorRows
import Derived.JoinedOf
set_option linter.all false
set_option maxHeartbeats 2000000
set_option maxRecDepth 100000
namespace Go.Proofs.YtgcaionclkbehaaGreatDoor
theorem JX:(Rows.piecesRow.wf<|OpenSpec.ofChange Rows.piecesSpec)=true:=by kernel_rfl
theorem JY:(laidOutB Tryz.pinned.checked.prog)=true:=by kernel_rfl
theorem JZ:(mapsRowed Tryz.pinned.checked.prog)=true:=by kernel_rfl
theorem J0:(Tryz.f6.params.all (Tryz.pinned.checked.prog.readableRec ·))=true:=by kernel_rfl
theorem J1:(namedTie Tryz.pinned.checked.prog Rows.piecesRow.named Rows.piecesSpec.vars)=true:=by kernel_rfl
theorem J2:((Rows.piecesRow.stops==[]))=true:=by kernel_rfl
theorem J3:((Tryz.pinned.checked.prog.stops==[]))=true:=by kernel_rfl
theorem J4:((Rows.piecesRow.knobs==[]))=true:=by kernel_rfl
theorem J5:((Tryz.pinned.checked.prog.stopKnobs==[]))=true:=by kernel_rfl
theorem J6:((Rows.piecesRow.inPlace==Tryz.pinned.checked.prog.inPlace 6))=true:=by kernel_rfl
theorem F8:((Rows.piecesRow.unfollowed==Tryz.pinned.checked.prog.unfollowed 6))=true:=by kernel_rfl
theorem F9:((Rows.piecesRow.recurses==Tryz.pinned.checked.prog.recurses 6))=true:=by kernel_rfl
theorem Ga:((Rows.piecesRow.named==Tryz.pinned.checked.prog.varsNamed 6))=true:=by kernel_rfl
theorem Gb:((Rows.piecesRow.maps==(Tryz.f6.params.toList++Rows.piecesSpec.plain.varTypes Tryz.pinned.checked.prog).any (Tryz.pinned.checked.prog.mapsRec ·)))=true:=by kernel_rfl
theorem Gd:((Rows.piecesRow.ifaces==(Tryz.f6.params.toList++Rows.piecesSpec.plain.varTypes Tryz.pinned.checked.prog).any (Tryz.pinned.checked.prog.ifacesRec ·)))=true:=by kernel_rfl
theorem Ge:((Rows.piecesRow.mapsOut==Tryz.pinned.checked.prog.mapsAmong Tryz.f6.resultTypes.toList))=true:=by kernel_rfl
theorem Gf:((Rows.piecesRow.loops==(Tryz.f6.params.toList++Rows.piecesSpec.plain.varTypes Tryz.pinned.checked.prog).any (Tryz.pinned.checked.prog.loopsFrom ·)))=true:=by kernel_rfl
theorem Gg:((Rows.piecesRow.wideKeys==(Tryz.f6.params.toList++Rows.piecesSpec.plain.varTypes Tryz.pinned.checked.prog++Tryz.f6.resultTypes.toList).any (Tryz.pinned.checked.prog.wideKeysFrom ·)))=true:=by kernel_rfl
theorem Gh:(Rows.piecesSpec.vars.all (Tryz.pinned.checked.prog.varReadable ·))=true:=by kernel_rfl
theorem Gi:(Tryz.f6.resultTypes.all<|λt=>Tryz.pinned.checked.prog.readableRec t&&decide (t<Tryz.pinned.checked.prog.types.size))=true:=by kernel_rfl
theorem Gj:((Rows.piecesRow.ifacesOut==Tryz.f6.resultTypes.toList.any (Tryz.pinned.checked.prog.ifacesRec ·)))=true:=by kernel_rfl
theorem Gk:((Rows.piecesRow.loopsOut==Tryz.f6.resultTypes.toList.any (Tryz.pinned.checked.prog.loopsFrom ·)))=true:=by kernel_rfl
theorem Gl:((Rows.piecesRow.plainKeys==Tryz.pinned.checked.prog.plainKeys))=true:=by kernel_rfl
theorem Gm:(Rows.piecesRow.shortTexts.isNone)=true:=by kernel_rfl
theorem Gn:(Tryz.pinned.checked.prog.stopsHeard)=true:=by kernel_rfl
theorem Gp:(Tryz.pinned.checked.prog.mayEnter)=true:=by kernel_rfl
theorem Gr:((Rows.piecesRow.lifted==Tryz.pinned.checked.prog.liftsFinal))=true:=by kernel_rfl
theorem Gt:((Tryz.pinned.checked.prog.make==some Rows.piecesRow.make))=true:=by kernel_rfl
theorem Gu:((Rows.piecesRow.kinds==(if Rows.piecesRow.domain.isEmpty then [] else Tryz.f6.params.toList.map λt=>match Tryz.pinned.checked.prog.underlying t with|some (.int k)=>some k|_=>none)))=true:=by kernel_rfl
theorem Gw:((Rows.piecesRow.pinned==Rows.piecesRow.pinnedBy))=true:=by kernel_rfl
theorem Gx:((Rows.piecesRow.veiled==(Tryz.f6.params.toList++Rows.piecesSpec.plain.varTypes Tryz.pinned.checked.prog++Tryz.f6.resultTypes.toList).any (Tryz.pinned.checked.prog.veiledRec ·)))=true:=by kernel_rfl
theorem Gy:(Rows.piecesRow.veiledFits Tryz.pinned.checked.prog Tryz.f6.params.toList<|Tryz.f6.params.toList++Rows.piecesSpec.plain.varTypes Tryz.pinned.checked.prog++Tryz.f6.resultTypes.toList)=true:=by kernel_rfl
