import Derived.Test.YtgcaionclkbehaaGreatDoorRows
import Derived.JoinedOf
set_option linter.all false
set_option maxHeartbeats 2000000
set_option maxRecDepth 100000
namespace Go.Proofs.YtgcaionclkbehaaGreatDoor
def FC:(Rows.againRow.wf (OpenSpec.ofChange Rows.againSpec))=true:=by kernel_rfl
def FD:(laidOutB Tryz.pinned.checked.prog)=true:=by kernel_rfl
def FE:(mapsRowed Tryz.pinned.checked.prog)=true:=by kernel_rfl
def FF:(Tryz.f9.params.all (Tryz.pinned.checked.prog.readableRec ·))=true:=by kernel_rfl
def FG:(namedTie Tryz.pinned.checked.prog Rows.againRow.named Rows.againSpec.vars)=true:=by kernel_rfl
def FH:(Rows.againRow.stops==[])=true:=by kernel_rfl
def FI:(Tryz.pinned.checked.prog.stops==[])=true:=by kernel_rfl
def FJ:(Rows.againRow.knobs==[])=true:=by kernel_rfl
def FK:(Tryz.pinned.checked.prog.stopKnobs==[])=true:=by kernel_rfl
def FL:(Rows.againRow.inPlace==Tryz.pinned.checked.prog.inPlace 9)=true:=by kernel_rfl
def C5:(Rows.againRow.unfollowed==Tryz.pinned.checked.prog.unfollowed 9)=true:=by kernel_rfl
def C6:(Rows.againRow.recurses==Tryz.pinned.checked.prog.recurses 9)=true:=by kernel_rfl
def C7:(Rows.againRow.named==Tryz.pinned.checked.prog.varsNamed 9)=true:=by kernel_rfl
def C8:(Rows.againRow.maps==(Tryz.f9.params.toList++Rows.againSpec.plain.varTypes Tryz.pinned.checked.prog).any (Tryz.pinned.checked.prog.mapsRec ·))=true:=by kernel_rfl
def C9:(Rows.againRow.ifaces==(Tryz.f9.params.toList++Rows.againSpec.plain.varTypes Tryz.pinned.checked.prog).any (Tryz.pinned.checked.prog.ifacesRec ·))=true:=by kernel_rfl
def Da:(Rows.againRow.mapsOut==Tryz.pinned.checked.prog.mapsAmong Tryz.f9.resultTypes.toList)=true:=by kernel_rfl
def Db:(Rows.againRow.loops==(Tryz.f9.params.toList++Rows.againSpec.plain.varTypes Tryz.pinned.checked.prog).any (Tryz.pinned.checked.prog.loopsFrom ·))=true:=by kernel_rfl
def Dc:(Rows.againRow.wideKeys==(Tryz.f9.params.toList++Rows.againSpec.plain.varTypes Tryz.pinned.checked.prog++Tryz.f9.resultTypes.toList).any (Tryz.pinned.checked.prog.wideKeysFrom ·))=true:=by kernel_rfl
def Dd:(Rows.againSpec.vars.all (Tryz.pinned.checked.prog.varReadable ·))=true:=by kernel_rfl
def De:(Tryz.f9.resultTypes.all (fun t=>Tryz.pinned.checked.prog.readableRec t&&decide (t<Tryz.pinned.checked.prog.types.size)))=true:=by kernel_rfl
def Df:(Rows.againRow.ifacesOut==Tryz.f9.resultTypes.toList.any (Tryz.pinned.checked.prog.ifacesRec ·))=true:=by kernel_rfl
def Dg:(Rows.againRow.loopsOut==Tryz.f9.resultTypes.toList.any (Tryz.pinned.checked.prog.loopsFrom ·))=true:=by kernel_rfl
def Dh:(Rows.againRow.plainKeys==Tryz.pinned.checked.prog.plainKeys)=true:=by kernel_rfl
def Di:(Rows.againRow.shortTexts.isNone)=true:=by kernel_rfl
def Dj:(Tryz.pinned.checked.prog.stopsHeard)=true:=by kernel_rfl
def Dk:(Tryz.pinned.checked.prog.mayEnter)=true:=by kernel_rfl
def Dl:(Rows.againRow.lifted==Tryz.pinned.checked.prog.liftsFinal)=true:=by kernel_rfl
def Dm:(Tryz.pinned.checked.prog.make==some Rows.againRow.make)=true:=by kernel_rfl
def Dn:(Rows.againRow.kinds==(if Rows.againRow.domain.isEmpty then [] else Tryz.f9.params.toList.map fun t=>match Tryz.pinned.checked.prog.underlying t with|some (.int k)=>some k|_=>none))=true:=by kernel_rfl
def Dp:(Rows.againRow.pinned==Rows.againRow.pinnedBy)=true:=by kernel_rfl
def Dq:(Rows.againRow.veiled==(Tryz.f9.params.toList++Rows.againSpec.plain.varTypes Tryz.pinned.checked.prog++Tryz.f9.resultTypes.toList).any (Tryz.pinned.checked.prog.veiledRec ·))=true:=by kernel_rfl
def Dr:(Rows.againRow.veiledFits Tryz.pinned.checked.prog Tryz.f9.params.toList (Tryz.f9.params.toList++Rows.againSpec.plain.varTypes Tryz.pinned.checked.prog++Tryz.f9.resultTypes.toList))=true:=by kernel_rfl
end Go.Proofs.YtgcaionclkbehaaGreatDoor
