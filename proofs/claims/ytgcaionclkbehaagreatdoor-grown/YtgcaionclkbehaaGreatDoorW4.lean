
import Derived.Test.YtgcaionclkbehaaGreatDoorW3
set_option linter.all false
set_option maxHeartbeats 2000000
set_option maxRecDepth 100000
namespace Go.Proofs.YtgcaionclkbehaaGreatDoor
open Go.Conc Go.RowKit Go.Lib
def Lu{n:Nat}(h:Ef (nz Tryz.prog n) 37 #[.slice (sq 35) 1 1,.func (.func 38) #[] #[am 36 0]] sC (.tuple #[]) sG):∃s',Ef (nz Tryz.prog n) 15 #[] sA (.bool true) s'/\s'.get 1=some (.cells cR.toArray 335):=by refine EF.iy kq Tryz.func15 rfl ?_;refine zs (zr (EO.gd #[.string ot] kq rfl rfl kq kq (s1:=sH) (v:=am 36 0) (by rw[show cS _=sA by kernel_rfl];exact Ra h) (zf (EW.mono (EW.VE (n:=10000) kq) λe a' s' q=>?_))));obtain⟨rfl,q1,q2⟩:=q;exact⟨.inr rfl,by rw[<-q1];rfl,q2⟩
end Go.Proofs.YtgcaionclkbehaaGreatDoor
