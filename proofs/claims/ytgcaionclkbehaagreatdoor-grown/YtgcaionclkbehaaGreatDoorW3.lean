
import Derived.Test.YtgcaionclkbehaaGreatDoorW1
import Derived.Test.YtgcaionclkbehaaGreatDoorW2
import Derived.Test.YtgcaionclkbehaaGreatDoorE31
set_option linter.all false
set_option maxHeartbeats 2000000
set_option maxRecDepth 100000
namespace Go.Proofs.YtgcaionclkbehaaGreatDoor
open Tryz
open Go.Conc Go.RowKit Go.Lib
variable {P:Program}{kt:TypeId->Bool}{n:Nat}{a:TL}{s s':AS}
def nz(P:Program)(n:Nat):Prim:=jY P n 37 ot (AS.tidy 37) (gC 37 L0) bu
def EW.VE{pr:Prim}{c:Code}(h:VE (fe P kt pr n c a s)=true):EW P kt pr c a s (λe a' s1=>e=.ret/\a'.getD 0 undef=.bool true/\s1.get 1=some (.cells cR.toArray 335)):=by
 generalize hq:fe P kt pr n c a s=q at h;unfold YtgcaionclkbehaaGreatDoor.VE at h;split at h
 .simp only[lV] at h;exact⟨n,_,_,_,hq,rfl,iL h.1,rA h.2⟩
 .cases h
def QV{c:fI}{o:Oper}{t:TypeId}{x y:Operand}{u v:Value}(ko:o.op=.store t x y)(hx:a.at x=u)(hy:a.at y=v)(h:jr P t u v s=some s'):bN P kt c a o s=some (undef,s'):=by unfold bN;rw[iw (by rw[ko];simp[eF]),ko];simp only;rw[hx,hy,h]
def ZB:∃n,Ef (nz prog n) 37 #[.slice (sq 35) 1 1,.func (.func 38) #[] #[am 36 0]] sC (.tuple #[]) sG:=by
 have Ol:=e39;unfold Oi at Ol;split at Ol
 .next v s1 h1 =>
  split at Ol
  .next s2 h2 =>simp only[lV] at Ol;have⟨n,hn⟩:=CV (str:=ot) (r0:=37) (pv:=.slice (sq 35) 1 1) (ps:=[ot]) (sB:=sC.set 35 none) (uG:=AS.tidy 37) (nC:=gC 37 L0) (s:=sC) (s1:=sG) (f:=38) (aS:=Tryz.f38) (y:=#[am 36 0]) kq iq iq func38 rfl kq rfl kq kq (by refine za sD ?_;refine zx ?_;refine zk 1 ?_;refine EO.gd #[am 37 0] kq rfl rfl kq kq e40 ?_;refine EO.gd #[.slice (sq 164) 11 11] kq rfl rfl kq kq (EF.eval 10000 h1) ?_;refine zk 1 ?_;refine zo s1 ?_;refine EO.op (v:=undef) (s1:=s2) kq (QV rfl kq kq h2) ?_;exact EO.nil ⟨.inl rfl,Ol.1,oV Ol.2⟩);exact⟨n,hn bu⟩
  .cases Ol
 .cases Ol
section
variable (h:Ef (nz prog n) 37 #[.slice (sq 35) 1 1,.func (.func 38) #[] #[am 36 0]] sC (.tuple #[]) sG)
def SU:Ef (nz prog n) 21 #[am 32 0] sB (.tuple #[am 36 0,.int .i64 0]) sH:=by
 refine EF.of kq func21 rfl ?_;iterate 3 refine zs ?_
 refine za sC (zr (zk 5 (EO.gd #[.slice (sq 35) 1 1,.func (.func 38) #[] #[am 36 0]] kq rfl rfl kq kq (by rw[show oS _=sC by kernel_rfl];exact h) (EO.nil (EW.Oj 50 .ret kq ?_)))));exact⟨.inr rfl,by kernel_rfl,by kernel_rfl⟩
def Ra:Ef (nz prog n) 17 #[.string ot] sA (am 36 0) sH:=by
 refine EF.of kq func17 rfl ?_;iterate 4 refine EW.seq (EW.go 500 kq ?_)
 refine EW.kZ sB (oV kq) (EW.seq (EW.region kq (EO.go 1 50 kq (EO.gd #[am 32 0] kq rfl rfl kq kq (s1:=sH) (v:=.tuple #[am 36 0,.int .i64 0]) (by rw[show oS _=sB by kernel_rfl];exact SU h) (EO.fin 50 kq (EW.Oj 50 .ret kq ?_))))));exact⟨.inr rfl,by kernel_rfl,by kernel_rfl⟩
end
end Go.Proofs.YtgcaionclkbehaaGreatDoor
