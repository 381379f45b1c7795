import Derived.Test.YtgcaionclkbehaaGreatDoorN8
set_option linter.all false
set_option maxHeartbeats 2000000
set_option maxRecDepth 100000
namespace Go.Proofs.YtgcaionclkbehaaGreatDoor
open Go.Conc Go.RowKit Go.Lib
abbrev NK:Value:=.slice (some ⟨73,0,none⟩) 1 1
abbrev Qu:Value:=.slice (some ⟨77,0,none⟩) 1 1
abbrev QZ:Obj:=.cells #[str [97],str [49]] 47
abbrev Ol(nm:Bq):Vq:=[num 2,str [],str nm,NK,.bool false]
abbrev Oi(k:Nat)(p q l:Value):Obj:=.cells #[am 65 0,num (k:Nat),p,q,l] 121
def qB (nm:Bq)(s:AS):AS:=((((((s.add OJ).add (K5 nm NK)).add QZ).add QZ).add QZ).add QZ).add (.cells #[str [97],str [49]] 47 (1,1))
def qA (nm:Bq)(s:AS):AS:=((((qB nm s).add (K5 nm NK)).add (.cells (Ol nm).toArray 60)).add (.cells (Ol nm).toArray 60)).add (.cells (Ol nm).toArray 60 (1,1))
def q0 (nm:Bq)(k:Nat):AS:=qA nm (Rh.add (Oi k (.pointer none) aD Qu))
end Go.Proofs.YtgcaionclkbehaaGreatDoor
