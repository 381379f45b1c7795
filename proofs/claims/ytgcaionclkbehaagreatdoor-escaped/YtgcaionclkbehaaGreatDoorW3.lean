import Derived.Test.YtgcaionclkbehaaGreatDoorW1
import Derived.Test.YtgcaionclkbehaaGreatDoorW2
import Derived.Test.YtgcaionclkbehaaGreatDoorE31
set_option linter.all false
set_option maxHeartbeats 2000000
set_option maxRecDepth 100000
namespace Go.Proofs.YtgcaionclkbehaaGreatDoor
open Tryz
open Go.Conc Go.RowKit Go.Lib
variable {P:Program}{kt:TypeId→Bool}{n:Nat}{a:TL}{s s':AS}
def kO(P:Program)(n:Nat):Prim:=mN P n 37 mV (AS.tidy 37) (cR 37 L0) bL
theorem EW.SO{pr:Prim}{c:Code}(h:SO (eJ P kt pr n c a s)=true):EW P kt pr c a s (fun e U s1=>e=.ret∧U.getD 0 undef=.bool true∧s1.get 1=some (.cells cY.toArray 335)):=by
 generalize hq:eJ P kt pr n c a s=q at h;unfold YtgcaionclkbehaaGreatDoor.SO at h;split at h
 ·simp only[Bool.and_eq_true] at h;exact⟨n,_,_,_,hq,rfl,ic h.1,pU h.2⟩
 ·cases h
theorem Nk{c:fj}{o:Oper}{t:TypeId}{x y:Operand}{u v:Value}(U:o.op=.store t x y)(hx:a.at x=u)(hy:a.at y=v)(h:iM P t u v s=some s'):bK P kt c a o s=some (undef,s'):=by unfold bK;rw[if_neg (by rw[U]; simp[eV]),U];simp only;rw[hx,hy,h]
theorem Xh:∃n,Ef (kO prog n) 37 #[.slice (sq 35) 1 1,.func (.func 38) #[] #[am 36 0]] sC (.tuple #[]) sG:=by
 have U:=ZQ;unfold K5 at U;split at U
 ·next v s1 h1 =>
  split at U
  ·next s2 h2 =>simp only[Bool.and_eq_true] at U;obtain⟨n,hn⟩:=GN (str:=mV) (r0:=37) (c0:=1) (bp:=35) (sS:=AS.tidy 37) (oI:=cR 37 L0) (s:=sC) (s1:=sG) (f:=38) (aJ:=Tryz.f38) (y:=#[am 36 0]) (cs:=#[.string mV]) (fz:=(1,1)) (rest:=[]) (by kernel_rfl) rfl func38 rfl (by kernel_rfl) rfl (by kernel_rfl) (by kernel_rfl) (by decide) (by refine EW.gm sD (by kernel_rfl) ?_;refine EW.region (by kernel_rfl) ?_;refine EO.go 1 5 (by kernel_rfl) ?_;refine EO.fR #[am 37 0] (by kernel_rfl) rfl rfl (by kernel_rfl) (by kernel_rfl) ZS ?_;refine EO.fR #[.slice (sq 164) 11 11] (by kernel_rfl) rfl rfl (by kernel_rfl) (by kernel_rfl) (EF.eval 10000 h1) ?_;refine EO.go 1 5 (by kernel_rfl) ?_;refine EO.gm s1 (by kernel_rfl) ?_;refine EO.op (v:=undef) (s1:=s2) (by kernel_rfl) (Nk rfl (by kernel_rfl) (by kernel_rfl) h2) ?_;exact EO.nil ⟨.inl rfl,U.1,nH U.2⟩);exact⟨n,hn bL⟩
  ·cases U
 ·cases U
theorem Pr(h:Ef (kO prog n) 37 #[.slice (sq 35) 1 1,.func (.func 38) #[] #[am 36 0]] sC (.tuple #[]) sG):Ef (kO prog n) 21 #[am 32 0] sB (.tuple #[am 36 0,.int .i64 0]) sH:=by
 refine EF.of (by kernel_rfl) func21 rfl ?_;iterate 3 refine EW.seq (EW.go 50 (by kernel_rfl) ?_)
 refine EW.gm sC (by kernel_rfl) (EW.seq (EW.region (by kernel_rfl) (EO.go 5 50 (by kernel_rfl) (EO.fR #[.slice (sq 35) 1 1,.func (.func 38) #[] #[am 36 0]] (by kernel_rfl) rfl rfl (by kernel_rfl) (by kernel_rfl) (by rw[show oS _=sC by kernel_rfl]; exact h) (EO.nil (EW.zh 50 .ret (by kernel_rfl) ?_))))));exact⟨.inr rfl,by kernel_rfl,by kernel_rfl⟩
theorem Nt(h:Ef (kO prog n) 37 #[.slice (sq 35) 1 1,.func (.func 38) #[] #[am 36 0]] sC (.tuple #[]) sG):Ef (kO prog n) 17 #[.string mV] sA (am 36 0) sH:=by
 refine EF.of (by kernel_rfl) func17 rfl ?_;iterate 4 refine EW.seq (EW.go 500 (by kernel_rfl) ?_)
 refine EW.gm sB (nH (by kernel_rfl)) (EW.seq (EW.region (by kernel_rfl) (EO.go 1 50 (by kernel_rfl) (EO.fR #[am 32 0] (by kernel_rfl) rfl rfl (by kernel_rfl) (by kernel_rfl) (s1:=sH) (v:=.tuple #[am 36 0,.int .i64 0]) (by rw[show oS _=sB by kernel_rfl]; exact Pr h) (EO.fin 50 (by kernel_rfl) (EW.zh 50 .ret (by kernel_rfl) ?_))))));exact⟨.inr rfl,by kernel_rfl,by kernel_rfl⟩
end Go.Proofs.YtgcaionclkbehaaGreatDoor
