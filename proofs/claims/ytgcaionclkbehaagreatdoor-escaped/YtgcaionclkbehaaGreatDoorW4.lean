import Derived.Test.YtgcaionclkbehaaGreatDoorW3
set_option linter.all false
set_option maxHeartbeats 2000000
set_option maxRecDepth 100000
namespace Go.Proofs.YtgcaionclkbehaaGreatDoor
open Go.Conc Go.RowKit Go.Lib
theorem IE{n:Nat}(h:Ef (kO Tryz.prog n) 37 #[.slice (sq 35) 1 1,.func (.func 38) #[] #[am 36 0]] sC (.tuple #[]) sG):∃s',Ef (kO Tryz.prog n) 15 #[] sA (.bool true) s'∧s'.get 1=some (.cells cY.toArray 335):=by refine EF.gu (by kernel_rfl) Tryz.func15 rfl ?_;refine EW.seq (EW.go 50 (by kernel_rfl) (EW.seq (EW.region (by kernel_rfl) (EO.fR #[.string mV] (by kernel_rfl) rfl rfl (by kernel_rfl) (by kernel_rfl) (s1:=sH) (v:=am 36 0) (by rw[show cS _=sA by kernel_rfl]; exact Nt h) (EO.fin 50 (by kernel_rfl) ?_)))));refine EW.mono (EW.SO (n:=10000) (by kernel_rfl)) fun e U s' q=>?_;obtain⟨rfl,q1,q2⟩:=q;exact⟨.inr rfl,by rw[← q1]; rfl,q2⟩
end Go.Proofs.YtgcaionclkbehaaGreatDoor
