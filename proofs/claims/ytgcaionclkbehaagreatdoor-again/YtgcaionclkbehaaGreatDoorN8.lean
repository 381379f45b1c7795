import Derived.Test.YtgcaionclkbehaaGreatDoorW1
import Derived.Test.YtgcaionclkbehaaGreatDoorW2
import Derived.Test.YtgcaionclkbehaaGreatDoorE31
set_option linter.all false
set_option maxHeartbeats 2000000
set_option maxRecDepth 100000
namespace Go.Proofs.YtgcaionclkbehaaGreatDoor
section
open Tryz
open Go.Conc Go.RowKit Go.Lib
variable {P:Program}{kt:TypeId→Bool}{n:Nat}{a:TL}{s s':AS}
def kZ(P:Program)(n:Nat):Prim:=lb P n 37 nu (AS.tidy 37) (dl 37 L0) bB
def EW.Q0{pr:Prim}{c:Code}(h:Q0 (eW P kt pr n c a s)=true):EW P kt pr c a s (fun e U d=>e=.ret∧U.getD 0 undef=.bool true∧d.get 1=some (.cells db.toArray 335)):=by
 generalize b:eW P kt pr n c a s=q at h;unfold YtgcaionclkbehaaGreatDoor.Q0 at h;split at h
 ·simp only[Bool.and_eq_true] at h;exact⟨n,_,_,_,b,rfl,ir h.1,qx h.2⟩
 ·cases h
def Nn{c:ft}{o:Oper}{t:TypeId}{x y:Operand}{u v:Value}(U:o.op=.store t x y)(b:a.at x=u)(d:a.at y=v)(h:iS P t u v s=some s'):bM P kt c a o s=some (undef,s'):=by unfold bM;rw[iw (by rw[U];simp[eI]),U];simp only;rw[b,d,h]
def Un:∃n,Ef (kZ prog n) 37 #[.slice (sq 35) 1 1,.func (.func 38) #[] #[am 36 0]] sC (.tuple #[]) sG:=by
 have U:=Ww;unfold Lx at U;split at U
 ·next v s1 h1 =>
  split at U
  ·next b h2 =>simp only[Bool.and_eq_true] at U;have⟨n,a⟩:=Hw (str:=nu) (r0:=37) (c0:=1) (bp:=35) (tV:=AS.tidy 37) (oj:=dl 37 L0) (s:=sC) (s1:=sG) (f:=38) (aM:=Tryz.f38) (y:=#[am 36 0]) (cs:=#[.string nu]) (fz:=(1,1)) (rest:=[]) kq rfl func38 rfl kq rfl kq kq dq (by refine EW.cV sD kq ?_;refine EW.region kq ?_;refine EO.go 1 5 kq ?_;refine EO.fA #[am 37 0] kq rfl rfl kq kq Wy ?_;refine EO.fA #[.slice (sq 164) 11 11] kq rfl rfl kq kq (EF.eval 10000 h1) ?_;refine EO.go 1 5 kq ?_;refine EO.cV s1 kq ?_;refine EO.op (v:=undef) (s1:=b) kq (Nn rfl kq kq h2) ?_;exact EO.nil ⟨.inl rfl,U.1,oa U.2⟩);exact⟨n,a bB⟩
  ·cases U
 ·cases U
def OP(h:Ef (kZ prog n) 37 #[.slice (sq 35) 1 1,.func (.func 38) #[] #[am 36 0]] sC (.tuple #[]) sG):Ef (kZ prog n) 21 #[am 32 0] sB (.tuple #[am 36 0,.int .i64 0]) sH:=by
 refine EF.of kq func21 rfl ?_;iterate 3 refine EW.seq (EW.go 50 kq ?_)
 refine EW.cV sC kq (EW.seq (EW.region kq (EO.go 5 50 kq (EO.fA #[.slice (sq 35) 1 1,.func (.func 38) #[] #[am 36 0]] kq rfl rfl kq kq (by rw[show oS _=sC by kernel_rfl];exact h) (EO.nil (EW.xt 50 .ret kq ?_))))));exact⟨.inr rfl,kq,kq⟩
def Nv(h:Ef (kZ prog n) 37 #[.slice (sq 35) 1 1,.func (.func 38) #[] #[am 36 0]] sC (.tuple #[]) sG):Ef (kZ prog n) 17 #[.string nu] sA (am 36 0) sH:=by
 refine EF.of kq func17 rfl ?_;iterate 4 refine EW.seq (EW.go 500 kq ?_)
 refine EW.cV sB (oa kq) (EW.seq (EW.region kq (EO.go 1 50 kq (EO.fA #[am 32 0] kq rfl rfl kq kq (s1:=sH) (v:=.tuple #[am 36 0,.int .i64 0]) (by rw[show oS _=sB by kernel_rfl];exact OP h) (EO.fin 50 kq (EW.xt 50 .ret kq ?_))))));exact⟨.inr rfl,kq,kq⟩
end
section
open Go.Conc Go.RowKit Go.Lib
def Jj{n:Nat}(h:Ef (kZ Tryz.prog n) 37 #[.slice (sq 35) 1 1,.func (.func 38) #[] #[am 36 0]] sC (.tuple #[]) sG):∃a,Ef (kZ Tryz.prog n) 15 #[] sA (.bool true) a∧a.get 1=some (.cells db.toArray 335):=by refine EF.gq kq Tryz.func15 rfl ?_;refine EW.seq (EW.go 50 kq (EW.seq (EW.region kq (EO.fA #[.string nu] kq rfl rfl kq kq (s1:=sH) (v:=am 36 0) (by rw[show cS _=sA by kernel_rfl];exact Nv h) (EO.fin 50 kq ?_)))));refine EW.mono (EW.Q0 (n:=10000) kq) fun e U a q=>?_;obtain⟨rfl,q1,q2⟩:=q;exact⟨.inr rfl,by rw[← q1];rfl,q2⟩
end
section
open Go.Conc Go.RowKit Go.Lib Tryz
variable {N b cp k n off p pos sz z1:Nat}{c:UInt8}{a:TL}{e t ty:TypeId}{i x y:Operand}{j r:Int}{cs:Aq}{fz:Nat × Nat}{P:Program}{kt:TypeId→Bool}{s s':AS}{o:Oper}{f:FuncId}{l sm stops:Bq}
section
variable {Post:Value→World→Prop}{Ex:Nat→Prop}{w₀:World}{An:bJ}
def dG:prog.follows .mixedOrders=true:=kq
def EE{e1:Nat}(h1:An 1=some (1,z1,e1))(U:∀b,32≤b→An b=none)(n:Nat):cN prog eO An (fun _:Zx=>AtRel) (fun j=>DZ j.1) (fun j=>ZI prog Post 0 j.1) (ua Ex w₀) (kZ prog n) :=
 CI h1 U oq (K6 37) ⟨pw 37 L0,fun _ _ _ h=>J1▸h⟩ dq (qF wm)
def iE (P:Program)(n:Nat):Prim:=fun f=>if f.beq 15 then some (fun a s=>if a.toList.isEmpty∧PZ (s.get 1) (some (.cells db.toArray 335))=true then some (.bool true,s) else none) else kZ P n f
def wu:db.all dW=true:=by decide +kernel
def HZ(b:Nat):sA.get b=if b=1 then some (.cells db.toArray 335) else none:=by
 unfold AS.get sA;by_cases h:b<16
 ·have U:b / 16=0:=oq
  have c:b % 16=b:=oq
  rw[U,c];match b,h with
  | 0,_=>rfl
  | 1,_=>rfl
  | b+2,_=>rw[iw oq];simp
 ·rw[iw oq];have U:1≤b / 16:=oq
  obtain⟨k,a⟩:∃k,b / 16=k+1:=⟨b / 16-1,oq⟩;rw[a];simp
def Ky{e1:Nat}(h1:An 1=some (1,z1,e1))(q:∀b,32≤b→An b=none):∃n,cN prog eO An (fun _:Zx=>AtRel) (fun j=>DZ j.1) (fun j=>ZI prog Post 0 j.1) (ua Ex w₀) (iE prog n):=by
 have⟨n,t⟩:=Un;obtain⟨p,⟨m,i⟩,o⟩:=Jj t;have d:=EE (Post:=Post) (Ex:=Ex) (w₀:=w₀) h1 q n;refine⟨n,?_,?_⟩
 ·intro f g a s v p U h;unfold iE at U;split at U
  ·cases U;simp only at h;split at h
   ·cases h;exact Nat.le_refl _
   ·cases h
  ·exact d.nx f g a s v p U h
 ·intro f g a s v w U h;unfold iE at U;split at U
  ·next l =>
   have l:=Nat.eq_of_beq_eq_true l;subst l;cases U;simp only at h;split at h
   ·next r =>
    have⟨e,u⟩:=r;cases h;have e:a=#[]:=by apply Array.toList_inj.1;simpa using e
    subst e;exact Sound.FN (k:=32) (m:=1) (c:=1) (s0:=sA) (s1:=p) wm h1 q wu HZ rfl o (qx u) rfl rfl ((gR wm dG eo d dD m).2 _ _ _ _ _ i).IH
   ·cases h
  ·exact d.sound f g a s v w U h
end
def rK:∀{l:Bq} {k:Nat},c∉l→jR c.toNat l k = -1
 | [],k,_=>rfl
 | b::l,k,h=>by unfold jR;rw[lQ];simp only[List.mem_cons,not_or] at h;rw[show(b==c)=false by simp;exact fun e=>h.1 e.symm];simp only[if_false,Bool.false_eq_true];exact rK h.2
def oV{b:Bq}:∀{a:Bq} {k:Nat},c∉a→jR c.toNat (a++c::b) k=a.length+k
 | [],k,_=>by rw[List.nil_append];unfold jR;rw[lQ];simp
 | x::a,k,h=>by rw[List.cons_append];unfold jR;rw[lQ];simp only[List.mem_cons,not_or] at h;rw[show(x==c)=false by simp;exact fun e=>h.1 e.symm];simp only[if_false,Bool.false_eq_true];rw[oV h.2];simp only[lC];omega
section
variable {n:Nat}{s:AS}
def GM(l:Bq)(c:UInt8)(s:AS):Ef (iE prog n) 341 #[str l,str [c]] s (.int .i64 (if aY [c] l=true then 0 else jR (((c.toNat:Nat):Int).toNat % 256) l 0)) s:=by
 refine EF.of kq func341 rfl ?_;iterate 2 refine EW.seq (EW.go 50 kq ?_)
 refine EW.seq (EW.block (EW.seq (EW.go 50 kq (EW.cond (b:=aY [c] l) kq (fun U=>?_) (fun U=>?_)))))
 ·rw[ip U];refine EW.xt 50 .ret kq ?_;exact⟨.inr rfl,kq,kq⟩
 ·rw[iw (by rw[U];simp)];refine EW.xt 50 .ret kq ?_;exact⟨.inr rfl,kq,kq⟩
def toNat_mod(c:UInt8):((c.toNat:Nat):Int).toNat % 256=c.toNat:=by have:=c.toNat_lt;rw[Int.toNat_natCast];exact Nat.mod_eq_of_lt this
def D9{a b:Bq}(h:c∉a):Ef (iE prog n) 341 #[str (a++c::b),str [c]] s (num a.length) s:=by
 have:=GM (n:=n) (a++c::b) c s;rw[toNat_mod,oV h] at this;by_cases d:aY [c] (a++c::b)=true
 ·have e:=(eQ _ _).1 d;have f:a=[]:=by
   cases a with
   | nil=>rfl
   | cons x a=>simp at e
  subst f;rw[ip d] at this;exact this
 ·rw[iw d] at this;exact this
def Ja (c:UInt8)(x a b:Bq)(t:Bool):Prop:=(t=false∧c∉x∧a=x∧b=[])∨(t=true∧c∉a∧x=a++c::b)
def ID(a b:Bq)(c:UInt8):((a++c::b).take a.length).drop 0=a:=iq
def Gp(a b:Bq)(c:UInt8):((a++c::b).take (a++c::b).length).drop (a.length+1)=b:=by rw[List.take_length,show a++c::b=(a++[c])++b by simp,show a.length+1=(a++[c]).length by simp,List.drop_left]
end
section
variable {n:Nat}{s:AS}{pr:Prim}
abbrev z0:AS:=⟨[],32⟩
end
section
variable {P:Program}{kt:TypeId→Bool}{c:ft}{a:TL}{s s':AS}{o:Oper}{v:Value}
def qz{lo d:Option Operand}{i j:Nat}(U:o.op=.slice t x lo d none)(k:P.underlying t=some (.slice e))(l:a.at x=.slice (some ⟨b,off,none⟩) n cp)(h:s.get b=some (.cells cs e fz))(m:bQ P e=some sz)(g:bH n cp (lo.map a.at) (d.map a.at)=some (i,j))(f:i<cp):bM P kt c a o s=some (.slice (some ⟨b,off+i*sz,none⟩) (j-i) (cp-i),s):=by
 have e:fP P t (a.at x) (lo.map a.at) (d.map a.at) ((none:Option Operand).map a.at) s=some (.slice (some ⟨b,off+i*sz,none⟩) (j-i) (cp-i)):=by unfold fP;rw[k,l];simp only[Option.map_none];rw[m,h];simp only;rw[ip trivial,g];simp only;rw[ip f]
 unfold bM;rw[iw (by rw[U];simp[eI]),U];simp only;rw[e]
end
def iv{c:ft}{sp:Option Nat}{kd:IntKind}(U:o.op=.indexAddr t x i)(l:P.underlying t=some (.slice e))(d:bQ P e=some sz)(m:a.at x=.slice (some ⟨b,off,sp⟩) n cp)(g:a.at i=.int kd j)(f:0≤j)(h1:j<n)(h:off+j.toNat*sz=k):bM P kt c a o s=some (am b k,s):=by rw[Cz U l d m g f h1,h]
def Vw (P:Program)(t:TypeId):Bool:=match P.underlying t with
 | some d=>!d.isRow
 | none=>false
def VM (P:Program)(t:TypeId):Option Nat:=match P.underlying t with
 | some (.slice e)=>bQ P e
 | _=>none
def yn{L:List FuncId}{pr:Prim}(h:∀f,f∈L→pr f=none)(f:FuncId)(U:f∈L:=by decide):pr f=none:=h f U
section
variable {P:Program}{kt:TypeId→Bool}{pr:Prim}{c:ft}{a:TL}{s s1:AS}{o:Oper}{x y:Operand}{t:TypeId}{v:Value}{ops:Array Oper}{rest:List Oper}{K:TL→AS→Prop}{KT:List (TL × Value × AS)→Prop}{g:FuncId}{args:Aq}{cl:Call}
def yl(b off:Nat)(v:Value)(f:s.get b=some (.cells cs ty fz))(e:o.op=.load t x:=by rfl)(U:Vw P t=true:=by kernel_rfl)(i:a.at x=am b off:=by kernel_rfl)(g:cs[off]?=some v:=by rfl):bM P kt c a o s=some (v,s):=by
 unfold Vw at U;cases h:P.underlying t with
 | none=>rw[h] at U;cases U
 | some d=>rw[h] at U;exact bP e h (by simpa using U) i f g
def yA(b off n:Nat)(r:Aq)(i:s.get b=some (.cells cs ty fz))(e:off+n≤cs.size)(f:o.op=.load t x:=by rfl)(U:Qn P t=true:=by kernel_rfl)(k:bQ P t=some n:=by kernel_rfl)(j:a.at x=am b off:=by kernel_rfl)(g:(cs.toList.drop off |>.take n).toArray=r:=by kernel_rfl):bM P kt c a o s=some (.agg r,s):=by
 unfold Qn at U;cases h:P.underlying t with
 | none=>rw[h] at U;cases U
 | some d=>rw[h] at U;exact gX f h U k j i e g
def yb{b:BinOp}{z}(u w:Value)(h:dj b u w=some v)(U:o.op=.binOp b t x y z:=by rfl)(d:a.at x=u:=by kernel_rfl)(e:a.at y=w:=by kernel_rfl):bM P kt c a o s=some (v,s):=aU U d e h
def yi(b off n cp k:Nat)(sp:Option Nat)(kd:IntKind)(j:Int)(sz:Nat)(d:0≤j)(h1:j<n)(g:off+j.toNat*sz=k)(l:o.op=.indexAddr t x i:=by rfl)(U:VM P t=some sz:=by kernel_rfl)(m:a.at x=.slice (some ⟨b,off,sp⟩) n cp:=by kernel_rfl)(f:a.at i=.int kd j:=by kernel_rfl):bM P kt c a o s=some (am b k,s):=by
 unfold VM at U;split at U
 ·next e h=>exact iv l h U m f d h1 g
 ·cases U
def ys(b off:Nat)(w:Value)(f:s.get b=some (.cells cs ty fz))(d:off+1≤cs.size)(e:o.op=.store t x y:=by rfl)(g:a.at x=am b off:=by kernel_rfl)(h:a.at y=w:=by kernel_rfl)(U:w.cells=#[w]:=by rfl)(h1:w.oneCell'=true:=by rfl)(i:bQ P t=some 1:=by kernel_rfl):bM P kt c a o s=some (undef,s.set b (some (.cells (putAt cs off [w]) ty fz))):=gC e g h U h1 i f d
def yp{z}(i j r:Int)(b:i+j=r)(d : -2000000000≤r∧r≤2000000000)(U:o.op=.binOp .add t x y z:=by rfl)(e:a.at x=num i:=by kernel_rfl)(f:a.at y=num j:=by kernel_rfl):bM P kt c a o s=some (num r,s):=gW U e f b d
def yf(h:EF P kt pr g args s v s1)(k:EO P kt pr ops rest (a.put o.dst v) s1 K)(e:Region.wanted o (bK ops a)=true:=by kernel_rfl)(d:o.op=.call cl:=by rfl)(b:cl.callee=.value (.func g):=by rfl)(c:js P (.func g)=false:=by kernel_rfl)(U:(#[]++cl.args.map a.at++#[]:Aq)=args:=by kernel_rfl):EO P kt pr ops (o::rest) a s K:=EO.fA args e d b c U h k
def yt(h:EF P kt pr g args s v s1)(k:ET P kt pr ops rest (a.put o.dst v) s1 (fun f=>KT ((a,v,s1)::f)))(e:Region.wanted o (bK ops a)=true:=by kernel_rfl)(d:o.op=.call cl:=by rfl)(b:cl.callee=.value (.func g):=by rfl)(c:js P (.func g)=false:=by kernel_rfl)(U:(#[]++cl.args.map a.at++#[]:Aq)=args:=by kernel_rfl):ET P kt pr ops (o::rest) a s KT:=ET.fA args e d b c U h k
def yc{f:Operand}(first cap:Aq)(h:EF P kt pr g args s v s1)(k:EO P kt pr ops rest (a.put o.dst v) s1 K)(i:Region.wanted o (bK ops a)=true:=by kernel_rfl)(e:o.op=.call cl:=by rfl)(b:cl.callee=.value f:=by rfl)(d:js P f=false:=by kernel_rfl)(c:a.at f=.func (.func g) first cap:=by kernel_rfl)(U:first++cl.args.map a.at++cap=args:=by kernel_rfl):EO P kt pr ops (o::rest) a s K:=EO.call i e b d c U h k
def yR{fn:Func}(h1:du P fn a s=some v:=by kernel_rfl)(h2:s=s':=by kernel_rfl):EW P kt pr .ret a s (fun e U b=>(e=.normal∨e=.ret)∧du P fn U b=some v∧b=s'):=EW.ret ⟨.inr rfl,h1,h2⟩
end
def zO(h : -9223372036854775808≤r∧r≤9223372036854775807):iO .i64 r=r:=by
 unfold iO;simp only;split
 ·rfl
 ·rw[IntKind.wrap_i64];omega
def fQ{c:ft}{z}{i:Int}(U:o.op=.binOp .sub t x y z)(e:a.at x=num i)(f:a.at y=num j)(b:i-j=r)(d : -9223372036854775808≤r∧r≤9223372036854775807):bM P kt c a o s=some (num r,s):=by refine ec (by rw[U];rfl) (by rw[U];trivial) ?_;unfold cb;rw[U];simp only;rw[e,f];unfold dj;simp only[ip];rw[b,zO d]
def L4(h : -9223372036854775808≤r∧r≤9223372036854775807):IntKind.i64.wrap r=r:=by rw[IntKind.wrap_i64];omega
section
variable {pr:Prim}{s:AS}{n:Nat}
def MF {K:Nat} {p:Value} (i:N≤b) (t:b<s.nx) (m:s.get b=some (.cells #[p,.slice none 0 0] 119)) (l:p=.pointer none∨p=am b 0) (r:K≤1000000):∃e,EF prog lF (iE prog n) 272 #[am b 0,num ((K+1:Nat):Int)] s (.tuple #[]) e∧BW e N b []∧kD N s e:=by
 obtain ⟨a,j,o,d,h⟩:=wj (pr:=iE prog n) kq m l
 have f:aC prog 55 (am b 1) a=some (.slice none 0 0):=by
  unfold aC
  simp only [am,d,underlying55]
  rfl
 refine EF.gq kq func272 rfl ?_
 refine EW.seq (EW.region kq ?_)
 refine EO.go 1 5 kq ?_
 refine EO.cV s kq ?_
 refine EO.fA #[am b 0] kq rfl rfl kq kq j ?_
 refine EO.nil ?_
 refine EW.seq (EW.go 5 kq ?_)
 refine EW.cV a kq ?_
 refine EW.seq (EW.draw kq kq kq ?_)
 iterate 2
  refine ET.q kq kq ?_
  refine ET.q kq kq ?_
  refine ET.q kq kq ?_
  refine ET.cV a kq ?_
  refine ET.op kq (bP (b:=b) (off:=1) (v:=.slice none 0 0) rfl underlying55 rfl kq d rfl) ?_
  refine ET.q kq kq ?_
 iterate 2
  refine ET.q kq kq ?_
 refine ET.op kq (aU (u:=num 0) (w:=num ((K+1:Nat):Int)) rfl kq kq (aX (b:=true) (tD oq))) ?_
 refine ET.nil ⟨aK [(aC prog 55 (am b 1) a,.slice none 0 0),(aC prog 55 (am b 1) a,.slice none 0 0)] kq (by simp [bu,f]),_,_,_,_,_,_,rfl,rfl,?_⟩
 refine EW.ew kq ?_
 refine EW.region kq ?_
 refine EO.go 2 5 kq ?_
 refine EO.cV a kq ?_
 have U:EF prog lF (iE prog n) 344 #[am b 0,num ((K+1:Nat):Int)] a (.tuple #[]) ((a.set b (some (.cells #[am b 0,.slice (some ⟨a.nx,0,none⟩) 0 0] 119 (0,0)))).add (.cells #[] 5 (1,1))):=by
  refine EF.rC (g:=fun c s=>match c.toList with
   | [.pointer (some ⟨b,0,none⟩),.int .i64 n]=>match s.get b with
    | some (.cells cs 119 (0,0))=>match cs.toList with
     | [p,.slice none 0 0]=>if 0≤n∧n≤1000000000 then some (.tuple #[],(s.set b (some (.cells #[p,.slice (some ⟨s.nx,0,none⟩) 0 0] 119 (0,0)))).add (.cells #[] 5 (1,1))) else none
     | _=>none
    | _=>none
   | _=>none) kq ?_
  simp only [am]
  rw [d]
  simp only
  rw [ip ⟨oq,oq⟩]
  rfl
 refine EO.fA #[am b 0,num ((K+1:Nat):Int)] kq rfl rfl kq kq U ?_
 refine EO.nil ⟨.inl rfl,kq,?_⟩
 refine ⟨⟨i,by simp;omega,am b 0,.slice (some ⟨a.nx,0,none⟩) 0 0,by rw [AS.aG,iw (by simp;omega),AS.aH,ip rfl],.inr rfl,.inr ⟨a.nx,(1,1),rfl,oq,iq,oq,by rw [AS.aG,ip iq];rfl⟩⟩,by simp;omega,fun k x=>?_⟩
 rw [AS.aG,iw (by simp;omega),AS.aH,iw oq,h k oq]
end
def Cx{c:ft}{v:Value}{sl z w:Value}{d bytes:Nat}(U:o.op=.call { callee:=.builtin .append,args:=#[x,y],argTypes:=#[t,t] })(r:a.at x=sl)(u:a.at y=.slice (sq d) 1 k)(q:P.underlying t=some (.slice e))(m:(P.info? e).map (fun i=>(i.zero,i.size,i.bytes))=some (some z,1,bytes))(A:z.cells.size=1)(g:bytes≤1000)(f:kt e=false)(l:s.get d=some (.cells #[w] e fz))(b:dz sl (sq d)=true)(n:w.oneCell'=true)(h:bn P e sl [w] 1 s=some (v,s')):bM P kt c a o s=some (v,s'):=by
 have p:cb P a o=none:=by unfold cb;rw[U]
 have j:eh s 1 (sq d) 1=some [w]:=by unfold eh;simp only;rw[l];rfl
 unfold bM;rw[iw (by rw[U];simp[eI])];rw[U];simp only;rw[p];simp only[List.map_cons,List.map_nil];rw[r,u];unfold eS;simp only[if_true];rw[q];simp only;rw[m];simp only;rw[j];simp only;rw[ip ⟨A,oq,g,oq,f,b,by simp[n]⟩];exact h
def pf{c:ft}{z}{i:Int}(U:o.op=.binOp .add t x y z)(e:a.at x=num i)(f:a.at y=num j)(b:i+j=r)(d : -9223372036854775808≤r∧r≤9223372036854775807):bM P kt c a o s=some (num r,s):=by refine ec (by rw[U];rfl) (by rw[U];trivial) ?_;unfold cb;rw[U];simp only;rw[e,f];unfold dj;simp only[ip];rw[b,zO d]
def mq(y:Int)(m:Int):Nat:=((if y<0 then -(y+1) else y) % m).toNat
def Ht(y:Int)(m:Nat)(U:0<m):mq y m<m:=by unfold mq;have h1:=Int.emod_nonneg (if y<0 then -(y+1) else y) (b:=(m:Int)) oq;have h2:=Int.emod_lt_of_pos (if y<0 then -(y+1) else y) (b:=(m:Int)) oq;omega
def EP (q out:Bq)(i:Nat)(x:Nq):TL:=[str q,x 1,str [],str out,num ((i:Nat):Int),x 5,x 6,x 7,x 8,x 9,x 10,x 11,x 12,x 13,x 14,x 15,x 16,x 17,x 18,x 19,x 20,x 21,x 22,x 23,x 24,x 25,x 26,x 27,x 28,x 29,x 30,x 31,x 32,x 33]
def iX(out:Bq):Prop:=out.length≤8∧∀c∈out,97≤c.toNat∧c.toNat≤122
section
variable {pr:Prim}{s:AS}
def KU{q:Bq}(J:pr 31=none)(O:q.length≤9223372036854775807):∃a,iX a∧Ef pr 31 #[str q] s (str a) s:=by
 suffices h:Ew pr (match Tryz.f31.body with|some c=>c|none=>.skip) ((#[str q]:Aq).toList++List.replicate (Tryz.f31.ntmps-(#[str q]:Aq).toList.length) undef) s (fun e d o=>(e=.normal∨e=.ret)∧o=s∧∃a,iX a∧du prog Tryz.f31 d o=some (str a)) by have⟨m,e,d,o,h1,H,h2,a,h3,G⟩:=h;exact⟨a,h3,EF.of J func31 rfl ⟨m,e,d,o,h1,H,G,h2⟩⟩
 iterate 2 refine EW.seq (EW.go 5 kq ?_)
 refine EW.seq (EW.seq (EW.go 5 kq (EW.cV s kq ?_)));refine EW.fill (EP q [] 0) kq ?_;intro K;refine EW.block ?_;refine EW.mono (EW.dS (Q:=fun e d g=>e=.exit 0∧g=s∧∃a i,iX a∧∃x,d=EP q a i x) (fun m d g=>g=s∧∃a i,i+m=q.length+1∧i≤q.length∧iX a∧∃x,d=EP q a i x) ?_ (q.length+1) _ _ ⟨rfl,[],0,oq,oq,⟨iq,iq⟩,K,rfl⟩) ?_
 ·rintro m d g ⟨rfl,a,i,L,N,U,x,rfl⟩;obtain⟨k,rfl⟩:∃k,m=k+1:=⟨m-1,oq⟩;refine EW.seq (EW.seq (EW.region kq (EO.go 2 5 kq (EO.op kq (da (l:=q) rfl underlying9 kq) ?_))));by_cases C:i<q.length
  ·refine EO.op kq (aU (u:=num ((i:Nat):Int)) (w:=num q.length) rfl kq kq (aX (b:=true) (tD oq))) (EO.go 2 5 kq (EO.op kq (da (l:=a) rfl underlying9 kq) ?_));by_cases M:a.length<8
   ·refine EO.op kq (aU (u:=num a.length) (w:=num 8) rfl kq kq (aX (b:=true) (tD oq))) (EO.fin 5 kq (EW.ew kq (EW.skip (EW.seq (EW.block ?_)))));have B:q[i]?=some q[i]:=gE C;generalize q[i]=c at B;have f:q[((i:Nat):Int).toNat]?=some c:=by rw[Int.toNat_natCast];exact B
    have A:∀(v:Bq) (z:TL) (o:AS),iX v→o=g→(∃x,z=EP q v i x)→Ew pr (match Tryz.f31.body with|some (.seq _ (.seq _ (.seq (.seq _ (.block _ (.loop (.seq _ (.seq _ c))))) _)))=>c|_=>.skip) z o (fun e d t=>match e with|.normal=>∃D,D<k+1∧t=g∧∃a i,i+D=q.length+1∧i≤q.length∧iX a∧∃x,d=EP q a i x|e=>e=.exit 0∧t=g∧∃a i,iX a∧∃x,d=EP q a i x):=by rintro v z o I rfl ⟨P,rfl⟩;refine EW.region kq (EO.go 1 5 kq (EO.op kq (pf (i:=((i:Nat):Int)) (j:=1) (r:=((i+1:Nat):Int)) rfl kq kq oq oq) (EO.fin 5 kq ?_)));exact⟨k,Nat.lt_succ_self k,kq,v,i+1,oq,oq,I,aN kq⟩
    refine EW.seq (EW.region kq (EO.go 2 5 kq (EO.op kq (kU (l:=q) (k:=.i64) (n:=((i:Nat):Int)) (b:=c) rfl underlying9 kq kq oq f) ?_)));by_cases F:97≤c.toNat
    ·refine EO.op kq (aU (u:=.int .u8 c.toNat) (w:=.int .u8 97) rfl kq kq (oE (b:=true) (tD oq))) (EO.go 3 5 kq (EO.op kq (kU (l:=q) (k:=.i64) (n:=((i:Nat):Int)) (b:=c) rfl underlying9 kq kq oq f) ?_));by_cases E:c.toNat≤122
     ·refine EO.op kq (aU (u:=.int .u8 c.toNat) (w:=.int .u8 122) rfl kq kq (di (b:=true) (tD oq))) (EO.fin 5 kq (EW.ew kq (EW.region kq (EO.go 4 5 kq (EO.op kq (pf (i:=((i:Nat):Int)) (j:=1) (r:=((i+1:Nat):Int)) rfl kq kq oq oq) (EO.op kq (jU (l:=q) (m:=[c]) (i:=i) (j:=i+1) rfl underlying9 kq ((show _=bH q.length q.length (some (num ((i:Nat):Int))) (some (num ((i+1:Nat):Int))) by kernel_rfl).trans ((sb oq oq oq).trans (by rw[Int.toNat_natCast,Int.toNat_natCast]))) (by rw[List.take_add_one,B,List.drop_append_of_le_length (by simp;omega),List.drop_eq_nil_of_le (by simp;omega)];rfl)) (EO.op kq (pg (l:=a) (m:=[c]) rfl kq kq (by simp;omega)) (EO.fin 5 kq ?_))))))));refine A (a++[c]) _ _ ⟨by simp;omega,fun y p=>?_⟩ kq (aN kq);rcases List.mem_append.1 p with p|p
      ·exact U.2 y p
      ·rw[List.mem_singleton.1 p];exact⟨F,E⟩
     ·refine EO.op kq (aU (u:=.int .u8 c.toNat) (w:=.int .u8 122) rfl kq kq (di (b:=false) (fD oq))) (EO.fin 5 kq (EW.dL kq (EW.skip ?_)));exact A a _ _ U kq (aN kq)
    ·refine EO.op kq (aU (u:=.int .u8 c.toNat) (w:=.int .u8 97) rfl kq kq (oE (b:=false) (fD oq))) (EO.fin 5 kq (EW.dL kq (EW.skip ?_)));exact A a _ _ U kq (aN kq)
   ·refine EO.op kq (aU (u:=num a.length) (w:=num 8) rfl kq kq (aX (b:=false) (fD oq))) (EO.fin 5 kq (EW.dL kq (EW.exit ?_)));exact⟨rfl,kq,a,i,U,aN kq⟩
  ·refine EO.op kq (aU (u:=num ((i:Nat):Int)) (w:=num q.length) rfl kq kq (aX (b:=false) (fD oq))) (EO.fin 5 kq (EW.dL kq (EW.exit ?_)));exact⟨rfl,kq,a,i,U,aN kq⟩
 ·rintro e d g ⟨rfl,rfl,a,i,U,x,rfl⟩;refine EW.xt 5 .ret kq ?_;exact⟨.inr rfl,kq,a,U,kq⟩
end
section
variable {P:Program}{kt:TypeId→Bool}{c:ft}{a:TL}{o:Oper}{s:AS}
def LI(U:o.op=.range t x)(d:P.underlying t=some .string)(e:a.at x=str l)(b:kt (1000+l.length)=false):bM P kt c a o s=some (am s.nx 0,s.add (.stringIter ⟨l.toArray⟩ 0)):=by unfold bM;rw[ip (by rw[U];rfl)];unfold ss;rw[U];simp only[d,e];rw[iw (by rw[show ByteArray.size ⟨l.toArray⟩=l.length from by simp[ByteArray.size],b];simp)]
def LH{r:UInt8}(d:o.op=.next x true)(m:a.at x=am b 0)(k:s.get b=some (.stringIter ⟨l.toArray⟩ pos))(i:l[pos]?=some r)(j:r.toNat<128)(h:kt (1000+l.length)=false) :
  bM P kt c a o s=some (.tuple #[.bool true,num pos,.int .i32 r.toNat],s.set b (some (.stringIter ⟨l.toArray⟩ (pos+1)))):=by
 have f:ByteArray.size ⟨l.toArray⟩=l.length:=by simp[ByteArray.size]
 have⟨e,U⟩:=gS.1 i;have g:Utf8.decode ⟨l.toArray⟩ pos=(r.toNat,1):=by
  have h1:pos<ByteArray.size ⟨l.toArray⟩:=oq
  have h2:(ByteArray.mk l.toArray)[pos]'h1=r:=by show l.toArray[pos]=r;simpa using U
  rw[Ao h1 (by rw[h2];exact j),h2]
 unfold bM;rw[iw (by rw[d];simp[eI]),d];simp only[m,am,k,f,g];rw[ip e,iw (by rw[h];simp)];rfl
def Hh(U:o.op=.next x true)(f:a.at x=am b 0)(e:s.get b=some (.stringIter ⟨l.toArray⟩ pos))(g:l.length≤pos):bM P kt c a o s=some (.tuple #[.bool false],s):=by
 have d:ByteArray.size ⟨l.toArray⟩=l.length:=by simp[ByteArray.size]
 unfold bM;rw[iw (by rw[U];simp[eI]),U];simp only[f,am,e,d];rw[iw oq]
end
def Cd:∀m,m<16→lF (1000+m)=false:=dq
section
variable {rn:Nat}{all:Iq}{s:AS}
def uV(l:Bq)(c:UInt8)(s:AS):Ef (dl rn all) 341 #[str l,str [c]] s (.int .i64 (if aY [c] l=true then 0 else jR (((c.toNat:Nat):Int).toNat % 256) l 0)) s:=by
 refine EF.of kq func341 rfl ?_;iterate 2 refine EW.seq (EW.go 50 kq ?_)
 refine EW.seq (EW.block (EW.seq (EW.go 50 kq (EW.cond (b:=aY [c] l) kq (fun U=>?_) (fun U=>?_)))))
 ·rw[ip U];refine EW.xt 50 .ret kq ?_;exact⟨.inr rfl,kq,kq⟩
 ·rw[iw (by rw[U];simp)];refine EW.xt 50 .ret kq ?_;exact⟨.inr rfl,kq,kq⟩
def D8(h:c∉l):Ef (dl rn all) 341 #[str l,str [c]] s (num (-1)) s:=by have:=uV (rn:=rn) (all:=all) l c s;rw[toNat_mod,rK h,gL (by rintro rfl;simp at h)] at this;exact this
def AH{a b:Bq}(h:c∉a):Ef (dl rn all) 341 #[str (a++c::b),str [c]] s (num a.length) s:=by
 have:=uV (rn:=rn) (all:=all) (a++c::b) c s;rw[toNat_mod,oV h] at this;by_cases d:aY [c] (a++c::b)=true
 ·have e:=(eQ _ _).1 d;have f:a=[]:=by
   cases a with
   | nil=>rfl
   | cons x a=>simp at e
  subst f;rw[ip d] at this;exact this
 ·rw[iw d] at this;exact this
def Jv{x a b:Bq}{t:Bool}(h:Ja c x a b t)(U:x.length≤1000000):Ef (dl rn all) 331 #[str x,str [c]] s (.tuple #[str a,str b,.bool t]) s:=by
 refine EF.of kq func331 rfl ?_;refine EW.seq (EW.go 50 kq (EW.seq (EW.seq (EW.region kq (EO.go 2 50 kq ?_)))));rcases h with ⟨rfl,h,rfl,rfl⟩|⟨rfl,h,rfl⟩
 ·refine EO.fA #[str a,str [c]] kq rfl rfl kq kq (D8 h) (EO.fin 50 kq (EW.go 50 kq (EW.xt 50 .ret kq ?_)));exact⟨.inr rfl,kq,kq⟩
 ·have d:a.length+(b.length+1)≤1000000:=by simpa using U
  refine EO.fA #[str (a++c::b),str [c]] kq rfl rfl kq kq (AH h) (EO.fin 50 kq (EW.seq (EW.go 50 kq (EW.ew kq (EW.seq (EW.draw kq kq kq ?_))))));iterate 2 refine ET.q kq kq ?_
  refine ET.op kq (jU (l:=a++c::b) (i:=0) (j:=a.length) rfl underlying9 kq ((show _=bH (a++c::b).length (a++c::b).length none (some (num a.length)) by kernel_rfl).trans (p9 oq (by simp;omega))) (ID _ _ _)) ?_;iterate 4 refine ET.q kq kq ?_
  refine ET.op kq (gW (i:=a.length) (j:=1) (r:=a.length+1) rfl kq kq rfl oq) (ET.op kq (jU (l:=a++c::b) (i:=a.length+1) (j:=(a++c::b).length) rfl underlying9 kq ((show _=bH (a++c::b).length (a++c::b).length (some (num (a.length+1))) none by kernel_rfl).trans (lR oq (by simp;omega))) (Gp _ _ _)) ?_);iterate 3 refine ET.q kq kq ?_
  refine ET.nil ⟨kq,_,_,_,_,_,_,rfl,rfl,?_⟩;refine EW.ret ?_;exact⟨.inr rfl,kq,kq⟩
def Am{x a b:Bq}{t:Bool}(h:Ja c x a b t)(U:x.length≤1000000):Ef (dl rn all) 262 #[str x,str [c]] s (.tuple #[str a,str b,.bool t]) s:=by refine EF.of kq func262 rfl ?_;refine EW.seq (EW.go 50 kq (EW.seq (EW.region kq (EO.go 2 50 kq (EO.fA #[str x,str [c]] kq rfl rfl kq kq (Jv h U) (EO.fin 50 kq (EW.ret ?_)))))));exact⟨.inr rfl,kq,kq⟩
end
section
variable {rn:Nat}{all:Iq}{s:AS}
def kD.low{M:Nat}(h:kD M s s')(a:N≤M):kD N s s':=⟨h.1,fun k U=>h.2 k oq⟩
end
def dx (all:Iq)(k:Nat):Int:=all[k]?.getD (-1)
section
variable {rn:Nat}{all:Iq}{s:AS}{pr:Prim}
def R6(U:pr 146=dl rn all 146)(k:Nat):Ef pr 146 #[am rn 0,num (k:Nat)] s (.int .i32 (dx all k)) s:=by refine EF.rC (U.trans rfl) ?_;simp only[am];rw[ip ⟨trivial,oq⟩];simp[dx]
def iP(i:pr 70=none)(U:pr 146=dl rn all 146){c:Nat}(a:s.get c=some (.cells cs t fz))(f:cs[0]?=some (am rn 0))(h1:cs[1]?=some (num (k:Nat)))(l:k+p≤1000000):Ef pr 70 #[am c 0,num (p:Nat)] s (.int .i32 (dx all (k+p))) s:=by
 have e:=R6 (s:=s) U (k+p);generalize dx all (k+p)=r at e ⊢;have d:aC prog 84 (am c 0) s=some (am rn 0):=by unfold aC;simp only[am,a,underlying84];exact f
 have j:aC prog 3 (am c 1) s=some (num (k:Nat)):=by unfold aC;simp only[am,a,underlying3];exact h1
 have h:∀x∈[(aC prog 84 (am c 0) s,am rn 0),(aC prog 3 (am c 1) s,num (k:Nat))],x.1=some x.2∧bu 20 x.2=true:=by
  intro x g;simp only[List.mem_cons,List.not_mem_nil,or_false] at g;rcases g with rfl|rfl
  ·exact⟨d,rfl⟩
  ·exact⟨j,rfl⟩
 refine EF.of i func70 rfl ?_;refine zs (EW.seq (EW.draw kq kq kq ?_));iterate 3 refine zq ?_
 refine zt s (zu (bP (b:=c) (off:=0) (v:=am rn 0) rfl underlying84 rfl kq a f) ?_);iterate 3 refine zq ?_
 refine zt s (zu (bP (b:=c) (off:=1) (v:=num (k:Nat)) rfl underlying3 rfl kq a h1) (zq (zt s (zu (yp (k:Nat) (p:Nat) ((k+p:Nat):Int) oq oq) (yt e (zq (ET.nil ⟨aK [(aC prog 84 (am c 0) s,am rn 0),(aC prog 3 (am c 1) s,num (k:Nat))] kq h,_,_,_,_,_,_,rfl,rfl,?_⟩)))))));exact yR
def FZ(g:pr 70=none)(h:pr 71=none)(f:pr 146=dl rn all 146){c:Nat}(l:c<s.nx)(j:s.get c=some (.cells cs t fz))(i:cs[0]?=some (am rn 0))(h1:cs[1]?=some (num (k:Nat)))(m:k≤1000000)(e:dx all k≠60):Ef pr 71 #[am c 0] s .nilFunc (s.add (.cells #[am c 0] 196)):=by
 have a:(s.add (.cells #[am c 0] 196)).get c=some (.cells cs t fz):=by rw[AS.aG,iw oq];exact j
 have U:=iP (s:=s.add (.cells #[am c 0] 196)) g f (p:=0) a i h1 oq;rw[Nat.add_zero] at U;have d:(s.add (.cells #[am c 0] 196)).get s.nx=some (.cells #[am c 0] 196):=by rw[AS.aG,ip rfl]
 refine EF.of h func71 rfl ?_;refine zs (za (s.add (.cells #[am c 0] 196)) ?_);generalize s.add (.cells #[am c 0] 196)=n at a U d;generalize dx all k=r at U e;refine EW.seq (zr (zp (yl s.nx 0 (am c 0) d) (yf U (zp (yb (.int .i32 r) (.int .i32 60) (ca (b:=true) (by simp[e]))) (EO.nil (zH (EW.xt 5 .ret kq ?_)))))));exact⟨.inr rfl,kq,kq⟩
end
def GJ(h:c∈l):0≤jR c.toNat l 0:=by obtain⟨a,b,rfl,U⟩:=List.eq_append_cons_of_mem h;rw[oV U];omega
def PW:List FuncId:=[70,150,160,247,257,259,260,264,324,328,334,366]
structure E9(rn:Nat)(all:Iq)(pr:Prim):Prop where
 y5:pr 146=dl rn all 146
 Uq:pr 92=dl rn all 92
 Qf:pr 373=bB 373
 no:∀f,f∈PW→pr f=none
section
variable {rn:Nat}{all:Iq}{s:AS}{pr:Prim}
def Cc(d:E9 rn all pr){b:UInt8}(l:b.toNat<128)(stops:Bq):Ef pr 328 #[.int .i32 ((b.toNat:Nat):Int),str stops] s (.bool (decide (0≤jR b.toNat stops 0))) s:=by
 have e:Ef pr 334 #[str stops,.int .u8 ((b.toNat:Nat):Int)] s (num (jR b.toNat stops 0)) s:=by
  have h:Ef pr 373 #[str stops,.int .u8 ((b.toNat:Nat):Int)] s (num (jR b.toNat stops 0)) s:=by obtain⟨g,i⟩:∃g,bB 373=some g:=⟨_,rfl⟩;have c:=EF.eval (P:=prog) (kt:=lF) (pr:=bB) (f:=373) (args:=#[str stops,.int .u8 ((b.toNat:Nat):Int)]) (s:=s) (v:=num (jR (((b.toNat:Nat):Int).toNat % 256) stops 0)) (s':=s) 1 kq;rw[toNat_mod] at c;have⟨m,c⟩:=c;refine EF.rC (d.Qf.trans i) ?_;unfold bG at c;rw[i] at c;exact c
  generalize jR b.toNat stops 0=a at h ⊢;refine EF.of (d.no 334 dq) func334 rfl ?_;refine zs (zr (zc 2 h (zf ?_)));exact EW.ret ⟨.inr rfl,kq,kq⟩
 generalize jR b.toNat stops 0=a at e;have j:Ef pr 264 #[str stops,.int .i32 ((b.toNat:Nat):Int)] s (num a) s:=by refine EF.of (d.no 264 dq) func264 rfl ?_;refine zs (EW.block (zr (zk 1 (zp (yb (.int .i32 0) (.int .i32 ((b.toNat:Nat):Int)) (di (b:=true) (tD oq))) (zk 2 (zp (yb (.int .i32 ((b.toNat:Nat):Int)) (.int .i32 128) (oF (b:=true) (tD oq))) (zf (zH (zr (zg 2 s (EO.op (v:=.int .u8 ((b.toNat:Nat):Int)) (s1:=s) kq ((show _=some (Value.int .u8 (IntKind.u8.wrap ((b.toNat:Nat):Int)),s) by kernel_rfl).trans (by rw[IntKind.wrap_u8,show((b.toNat:Nat):Int) % 256=(b.toNat:Nat) by omega])) (zo s (yf e (zf ?_))))))))))))));exact EW.ret ⟨.inr rfl,kq,kq⟩
 have U:Ef pr 160 #[str stops,.int .i32 ((b.toNat:Nat):Int)] s (.bool (decide (0≤a))) s:=by refine EF.of (d.no 160 dq) func160 rfl ?_;refine zs (zr (zc 2 j (zp (yb (num a) (num 0) (iQ (b:=decide (0≤a)) rfl)) ?_)));generalize decide (0≤a)=k;refine zf ?_;exact EW.ret ⟨.inr rfl,kq,kq⟩
 generalize decide (0≤a)=k at U ⊢;refine EF.of (d.no 328 dq) func328 rfl ?_;refine zs (zr (zc 2 U (zf ?_)));exact EW.ret ⟨.inr rfl,kq,kq⟩
def GP(a:E9 rn all pr){b:UInt8}(U:b.toNat<128)(h:b∉stops):Ef pr 328 #[.int .i32 ((b.toNat:Nat):Int),str stops] s (.bool false) s:=by have:=Cc a (s:=s) U stops;rw[rK h] at this;exact this
def Ea(a:E9 rn all pr){b:UInt8}(U:b.toNat<128)(h:b∈stops):Ef pr 328 #[.int .i32 ((b.toNat:Nat):Int),str stops] s (.bool true) s:=by have:=Cc a (s:=s) U stops;rw[tD (GJ h)] at this;exact this
variable {St:Nat→AS}{c:Nat}{p q r:Value}
def mh{a b:Option Value × Value}(c:a.1=some a.2∧bu 20 a.2=true)(d:b.1=some b.2∧bu 20 b.2=true):∀x∈[a,b],x.1=some x.2∧bu 20 x.2=true:=by
 intro x U;simp only[List.mem_cons,List.not_mem_nil,or_false] at U;rcases U with rfl|rfl
 ·exact c
 ·exact d
def Ic(c:Nat)(stops:Bq)(k:Nat)(x:Nq):TL:=[am c 0,str stops,x 2,x 3,x 4,num (k:Nat)]++iy x 6 31
abbrev ce:Bq:=[9,10,12,13,32]
end
def Rh:AS:=⟨((⟨sA.hp,64⟩:AS).add (.cells #[.slice none 0 0] 56)).hp,66⟩
def KI (k:Nat):AS:=Rh.add (.cells #[am 65 0,num (k:Nat),.pointer none,.slice none 0 0,.slice none 0 0] 121)
abbrev OJ:Obj:=.cells #[am 66 0] 196
def Y2 (bs:Bq)(k:Nat):AS:=((Rh.add (.cells #[am 65 0,num (k:Nat),am 66 2,.slice (some ⟨68,0,none⟩) bs.length bs.length,.slice none 0 0] 121)).add OJ).add (.cells (lI bs) 5 (1,1))
def NC (bs:Bq)(k:Nat):AS:=(Y2 bs k).add OJ
def lG (r:Int):Int:=if 65≤r∧r≤90 then r+32 else r
def oU (all:Iq):Nat→Bq→Bool
 | _,[]=>true
 | q,b::l=>(lG (dx all q)==((b.toNat:Nat):Int))&&oU all (q+1) l
def rW(h : -2000000000≤r∧r≤2000000000):iO .i32 r=r:=by unfold iO;simp only;rw[ip h]
section
variable {n rn:Nat}{V:Aq→Option Value}{all:Iq}{s:AS}{pr:Prim}
def LD(U:E9 rn all pr)(a : -1≤r∧r≤1114111):Ef pr 247 #[.int .i32 r] s (.int .i32 (lG r)) s:=by
 unfold lG;refine EF.of (U.no 247 dq) func247 rfl ?_;refine zs (EW.seq (zr (zk 1 ?_)));by_cases h1:65≤r
 ·refine zp (yb (.int .i32 65) (.int .i32 r) (di (b:=true) (tD h1))) (zk 2 ?_);by_cases h2:r≤90
  ·rw[ip ⟨h1,h2⟩];refine zp (yb (.int .i32 r) (.int .i32 90) (di (b:=true) (tD h2))) (zf (zH (zr (zg 1 s (EO.op (v:=.int .i32 (r-65)) (s1:=s) kq ((show _=some (Value.int .i32 (iO .i32 (r-65)),s) by kernel_rfl).trans (by rw[rW oq])) (zo s (EO.op (v:=.int .i32 (r+32)) (s1:=s) kq ((show _=some (Value.int .i32 (iO .i32 (r-65+97)),s) by kernel_rfl).trans (by rw[rW oq,show r-65+97=r+32 by omega])) (zf ?_))))))));exact EW.ret ⟨.inr rfl,kq,kq⟩
  ·rw[iw oq];refine zp (yb (.int .i32 r) (.int .i32 90) (di (b:=false) (fD h2))) (zf (zF (zs ?_)));exact EW.ret ⟨.inr rfl,kq,kq⟩
 ·rw[iw oq];refine zp (yb (.int .i32 65) (.int .i32 r) (di (b:=false) (fD h1))) (zf (zF (zs ?_)));exact EW.ret ⟨.inr rfl,kq,kq⟩
def H8(c p:Nat)(sm:Bq)(b:Nat)(x:Nq):TL:=[am c 0,num (p:Nat),str sm,x 3,x 4,x 5,x 6,x 7,x 8,str sm,am b 0]++iy x 11 12
def O3(w:E9 rn all pr)(J:∀k,-1≤dx all k∧dx all k≤1114111){c:Nat}(I:∀b∈sm,b.toNat<128)(G:sm.length<16)(D:c<s.nx)(L:s.get c=some (.cells cs t fz))(H:cs[0]?=some (am rn 0))(h1:cs[1]?=some (num (k:Nat)))(N:k+p≤900000) :
  ∃a,Ef pr 150 #[am c 0,num (p:Nat),str sm] s (.bool (oU all (k+p) sm)) a∧kD s.nx s a:=by
 have B:lF (1000+sm.length)=false:=Cd _ G;suffices U:Ew pr (match Tryz.f150.body with|some c=>c|none=>.skip) ((#[am c 0,num (p:Nat),str sm]:Aq).toList++List.replicate (Tryz.f150.ntmps-(#[am c 0,num (p:Nat),str sm]:Aq).toList.length) undef) s (fun e g v=>(e=.normal∨e=.ret)∧du prog Tryz.f150 g v=some (.bool (oU all (k+p) sm))∧kD s.nx s v) by have⟨m,e,g,v,q1,q2,q3,q4⟩:=U;exact⟨v,EF.of (w.no 150 dq) func150 rfl ⟨m,e,g,v,q1,q2,q3,rfl⟩,q4⟩
 refine zs (EW.seq (zr (zg 1 s (zp (LI (l:=sm) rfl underlying9 kq B) (EO.nil ?_)))));refine EW.fill (H8 c p sm s.nx) kq ?_;intro M;refine EW.block ?_;refine EW.mono (EW.dS (Q:=fun e g a=>kD s.nx s a∧((e=.exit 0∧oU all (k+p) sm=true∧∃x,g=H8 c p sm s.nx x)∨(e=.ret∧oU all (k+p) sm=false∧du prog Tryz.f150 g a=some (.bool false)))) (fun m g a=>∃j,m+j=sm.length∧a.get s.nx=some (.stringIter ⟨sm.toArray⟩ j)∧s.nx<a.nx∧kD s.nx s a∧oU all (k+p) sm=oU all (k+p+j) (sm.drop j)∧∃x,g=H8 c p sm s.nx x) ?_ sm.length _ _ ⟨0,oq,by rw[AS.aG,ip rfl],iq,kD.add lr,iq,M,rfl⟩) ?_
 ·rintro m g a ⟨j,O,A,E,u,U,x,rfl⟩;by_cases y:j<sm.length
  ·have z:sm[j]?=some sm[j]:=gE y;have C:=I sm[j] (List.getElem_mem y);rw[List.drop_eq_getElem_cons y] at U;generalize sm[j]=b at z C U;generalize i:a.set s.nx (some (.stringIter ⟨sm.toArray⟩ (j+1)))=n;have d:kD s.nx s n:=by rw[← i];exact⟨u.1,fun q K=>by rw[AS.aH,iw oq];exact u.2 q K⟩
   have F:n.get c=some (.cells cs t fz):=(d.2 c D).trans L;have o:=iP (rn:=rn) (all:=all) (pr:=pr) (s:=n) (w.no 70 dq) w.y5 (p:=p+j) F H h1 oq;rw[show k+(p+j)=k+p+j by omega] at o;have f:=LD w (s:=n) (J (k+p+j));simp only[oU] at U;generalize P:dx all (k+p+j)=r at o f U;generalize lG r=lr at f U;refine zr (zp (LH (b:=s.nx) (pos:=j) (l:=sm) (r:=b) rfl kq A z C B) ?_);rw[i];refine zf (za n (EW.seq (zT (EW.block (zs (za n (zr (zk 3 (zp (yp (p:Nat) (j:Nat) ((p+j:Nat):Int) oq oq) (zo n (yf o (yf f (zk 1 ?_)))))))))))));by_cases h:lr=((b.toNat:Nat):Int)
   ·refine zp (yb (.int .i32 lr) (.int .i32 ((b.toNat:Nat):Int)) (ca (b:=false) (by simp[h]))) (EO.nil (zF ?_));refine⟨m-1,oq,j+1,oq,?_,?_,d,?_,aN kq⟩
    ·show n.get s.nx=_;rw[← i,AS.aH,ip rfl]
    ·show s.nx<n.nx;rw[← i];exact E
    ·rw[U,h];simp;rfl
   ·refine zp (yb (.int .i32 lr) (.int .i32 ((b.toNat:Nat):Int)) (ca (b:=true) (by simp[h]))) (EO.nil (zH (zs (EW.ret ⟨d,.inr ⟨rfl,?_,kq⟩⟩))));rw[U];simp[h]
  ·obtain rfl:j=sm.length:=oq
   refine zr (zp (Hh (b:=s.nx) (pos:=sm.length) (l:=sm) rfl kq A lr) (zf (za a (EW.seq (zG (EW.exit ?_))))));refine⟨u,.inl ⟨rfl,?_,aN kq⟩⟩;rw[U,List.drop_of_length_le lr];rfl
 ·rintro e g a ⟨u,(⟨rfl,U,x,rfl⟩|⟨rfl,U,a4⟩)⟩
  ·rw[U];refine zs ?_;exact EW.ret ⟨.inr rfl,kq,u⟩
  ·rw[U];exact⟨.inr rfl,a4,u⟩
end
section
variable {n rn m:Nat}{V:Aq→Option Value}{all:Iq}{pr:Prim}
def zZ.add(h:zZ rn pr all)(i:∀a v,V a=some v→a.toList.all (fF m)=true∧fF m v=true∧∃n,Ef pr f a ⟨[],rn+1⟩ v n):zZ rn (ly f V pr) all:=by
 have⟨e,U⟩:=h;refine⟨fun g k a s v l c b=>?_,fun Y A d j=>cN.add Y dG eo dD d (U Y A d j) i⟩;unfold ly at c;split at c
 ·cases c;simp only at b;split at b
  ·cases b;exact Nat.le_refl _
  ·cases b
 ·exact e g k a s v l c b
def DV(d:∀f g a s v b,pr f=some g→g a s=some (v,b)→s.nx≤b.nx){e:Aq→AS→Option Value}:∀g k a s v b,kp f e (bG prog lF pr n f) pr g=some k→k a s=some (v,b)→s.nx≤b.nx:=by
 intro g k a s v b c U;unfold kp at c;split at c
 ·cases c;simp only at U;split at U
  ·cases U;exact Nat.le_refl _
  ·exact(yx (P:=prog) (kt:=lF) d n).2 _ _ _ _ _ U
 ·exact d g k a s v b c U
end
abbrev aD:Value:=.slice none 0 0
abbrev K5(nm:Bq)(at_:Value):Obj:=.cells #[str nm,at_,.bool false] 262
abbrev PF(b:UInt8):Obj:=.stringIter ⟨#[b]⟩ 1
abbrev OH:Obj:=.cells #[.pointer none,.slice none 0 0] 119
abbrev Lu(a b:Bq):Obj:=.cells #[str a,str b] 47
def g1 (bs:Bq)(k:Nat):AS:=(NC bs k).add (K5 [] aD)
def g2 (bs:Bq)(k:Nat):AS:=(((NC bs k).add (K5 [97] aD)).add OH).add (PF 97)
def g3 (bs:Bq)(k:Nat):AS:=(g2 bs k).add (Lu [] [])
def g4 (bs:Bq)(k:Nat):AS:=(((g3 bs k).add OH).add (PF 98)).add (Lu [98] [])
def g5 (bs vU:Bq)(k:Nat):AS:=((((g2 bs k).add (Lu [98] vU)).add OH).add (PF 98)).add (Lu [98] vU)
def g6 (bs vU:Bq)(k:Nat):AS:=((((((((((NC bs k).add (K5 [97] (.slice (some ⟨79,0,none⟩) 1 1))).add OH).add (PF 97)).add (Lu [98] vU)).add OH).add (PF 98)).add (Lu [98] vU)).add (Lu [98] vU)).add (Lu [98] vU)).add (.cells #[str [98],str vU] 47 (1,1))
abbrev Qv:Value:=.slice (some ⟨79,0,none⟩) 1 1
abbrev xf(bs:Bq):Vq:=[num 1,str bs,str [],aD,.bool false]
abbrev NR:Vq:=[num 2,str [],str [97],Qv,.bool false]
abbrev Qp(k:Nat)(l:Value):Obj:=.cells #[am 65 0,num (k:Nat),.pointer none,aD,l] 121
def h1 (bs vU:Bq)(k:Nat):AS:=(g6 bs vU k).add (K5 [97] Qv)
def MH (bs vU:Bq)(k:Nat):AS:=(h1 bs vU k).add (.cells NR.toArray 60)
def e1 (bs vU:Bq)(k:Nat):AS:=((((MH bs vU k).set 68 none).add (.cells (xf bs).toArray 60)).add (.cells (xf bs).toArray 60 (1,1))).set 66 (some (Qp k (.slice (some ⟨83,0,none⟩) 1 1)))
def h2 (bs vU:Bq)(k:Nat):AS:=((((e1 bs vU k).add (.cells NR.toArray 60)).set 83 none).add (.cells (xf bs++NR).toArray 60 (1,1))).set 66 (some (Qp k (.slice (some ⟨85,0,none⟩) 2 2)))
def h3 (bs vU:Bq)(k:Nat):AS:=((h2 bs vU k).add (.cells #[str [115,99,114,105,112,116],str [115,116,121,108,101]] 9)).add (.cells #[str [116,105,116,108,101],str [116,101,120,116,97,114,101,97]] 9)
section
variable {n:Nat}{V:Aq→Option Value}{all:Iq}{s:AS}{bs vU:Bq}
def M3{a:Option Value × Value}(b:a.1=some a.2∧bu 20 a.2=true):∀x∈[a],x.1=some x.2∧bu 20 x.2=true:=by intro x U;simp only[List.mem_cons,List.not_mem_nil,or_false] at U;subst U;exact b
end
end
end Go.Proofs.YtgcaionclkbehaaGreatDoor
