import Derived.Test.YtgcaionclkbehaaGreatDoorH2
set_option linter.all false
set_option maxHeartbeats 2000000
set_option maxRecDepth 100000
namespace Go.Proofs.YtgcaionclkbehaaGreatDoor
open Go.Conc Go.RowKit Go.Lib
abbrev NQ:Value:=.slice (some ⟨73,0,none⟩) 1 1
abbrev Sf:Value:=.slice (some ⟨77,0,none⟩) 1 1
abbrev SN:Obj:=.cells #[str [97],str [49]] 47
abbrev OE(nm:List UInt8):List Value:=[num 2,str [],str nm,NQ,.bool false]
abbrev OD(k:Nat)(p q l:Value):Obj:=.cells #[am 65 0,num (k:Nat),p,q,l] 121
def qB (nm:List UInt8)(s:AS):AS:=((((((s.add Pk).add (Kw nm NQ)).add SN).add SN).add SN).add SN).add (.cells #[str [97],str [49]] 47 (1,1))
def qA (nm:List UInt8)(s:AS):AS:=((((qB nm s).add (Kw nm NQ)).add (.cells (OE nm).toArray 60)).add (.cells (OE nm).toArray 60)).add (.cells (OE nm).toArray 60 (1,1))
def q0 (nm:List UInt8)(k:Nat):AS:=qA nm (To.add (OD k (.pointer none) aG Sf))
end Go.Proofs.YtgcaionclkbehaaGreatDoor
