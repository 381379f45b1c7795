
import Derived.Test.YtgcaionclkbehaaGreatDoorW4
set_option linter.all false
set_option maxHeartbeats 2000000
set_option maxRecDepth 100000
namespace Go.Proofs.YtgcaionclkbehaaGreatDoor
open Go.Conc Go.RowKit Go.Lib Tryz
variable {b cp d i j k m n off pos sz z1:Nat}{c:fI}{e t t' ty u:TypeId}{x y:Operand}{cs o9:Aq}{fz S8:Nat × Nat}{P:Program}{kt:TypeId->Bool}{a:TL}{o:Oper}{r:Int}{sl v w z:Value}{l stops:Bq}{α:Type}{K K':Nat->Prop}
section
variable {Post:Value->World->Prop}{Ex:Nat->Prop}{w₀:World}{An:cb}
def gO:prog.follows .mixedOrders=true:=kq
def GD{e1:Nat}(h1:An 1=some (1,z1,e1))(L3:∀b,32<=b->An b=none)(n:Nat):ck prog eg An (λ_:Zx=>AtRel) (λj=>DZ j.1) (λj=>ZI prog Post 0 j.1) (BE Ex w₀) (nz prog n) :=
 EL h1 L3 oq (NI 37) ⟨qj 37 L0,λ_ _ _ _ _ h=>Mp▸h⟩ dq (lD LN)
def sJ (P:Program)(n:Nat):Prim:=λf=>if f.beq 15 then some (λa s=>if a.toList.isEmpty/\UB (s.get 1) (some (.cells cR.toArray 335))=true then some (.bool true,s) else none) else nz P n f
def xc:cR.all dX=true:=by decide +kernel
theorem mo(b:Nat):sA.get b=if b=1 then some (.cells cR.toArray 335) else none:=by unfold AS.get sA;grind
theorem MZ{e1:Nat}(h1:An 1=some (1,z1,e1))(p:∀b,32<=b->An b=none):∃n,ck prog eg An (λ_:Zx=>AtRel) (λj=>DZ j.1) (λj=>ZI prog Post 0 j.1) (BE Ex w₀) (sJ prog n):=by
 have⟨n,t⟩:=ZB;obtain⟨o,⟨m,e⟩,l⟩:=Lu t;have d:=GD (Post:=Post) (Ex:=Ex) (w₀:=w₀) h1 p n;refine⟨n,?_,?_⟩
 .intro f g a s v o U h;unfold sJ at U;split at U
  .grind
  .exact d.nx f g a s v o U h
 .intro f g a s v w U h;unfold sJ at U;split at U
  .next i =>
   have i:=gh i;subst i;cases U;simp only at h;split at h
   .next r =>
    have⟨q,u⟩:=r;cases h;have q:a=#[]:=gq
    subst q;exact Sound.BI (k:=32) (m:=1) (c:=1) (s0:=sA) (s1:=o) LN h1 p xc mo rfl l (rA u) rfl rfl ((ij LN gO cv d cn m).2 _ _ _ _ _ e).toW
   .cases h
  .exact d.sound f g a s v w U h
end
def pQ{c:UInt8}:∀{l:Bq} {k:Nat},c∉l->ju c.toNat l k = -1
 | [],k,_=>rfl
 | b::l,k,h=>by unfold ju;rw[mR];simp only[nk,not_or] at h;rw[show(b==c)=false by simp;exact λe=>h.1 e.symm];simp only[if_false,kj];exact pQ h.2
theorem ud{c:UInt8}{b:Bq}:∀{a:Bq} {k:Nat},c∉a->ju c.toNat (a++c::b) k=a.length+k
 | [],k,_=>by rw[List.nil_append];unfold ju;rw[mR];simp
 | x::a,k,h=>by rw[List.cons_append];unfold ju;rw[mR];simp only[nk,not_or] at h;rw[show(x==c)=false by simp;exact λe=>h.1 e.symm];simp only[if_false,kj];rw[ud h.2];grind
section
variable {n:Nat}{s:AS}
theorem toNat_mod(c:UInt8):((c.toNat:Nat):Int).toNat % 256=c.toNat:=by have:=c.toNat_lt;grind
def Sp (c:UInt8)(x a b:Bq)(t:Bool):Prop:=(t=false/\c∉x/\a=x/\b=[])\/(t=true/\c∉a/\x=a++c::b)
def KI(a b:Bq)(c:UInt8):((a++c::b).take a.length).drop 0=a:=iq
def Im(a b:Bq)(c:UInt8):((a++c::b).take (a++c::b).length).drop (a.length+1)=b:=by rw[List.take_length,show a++c::b=(a++[c])++b by simp,show a.length+1=(a++[c]).length by simp,List.drop_left]
end
variable {pr:Prim}
section
variable {n:Nat}{s:AS}
abbrev z0:AS:=⟨[],32⟩
end
variable {P:Program}{kt:TypeId->Bool}{c:fI}{a:TL}{s s':AS}{o:Oper}{v:Value}
section
theorem mh{lo hi:Option Operand}(U:o.op=.slice t x lo hi none)(h:P.underlying t=some (.slice e))(k:a.at x=.slice (some ⟨b,off,none⟩) n cp)(g:s.get b=some (.cells cs e fz))(l:bP P e=some sz)(f:bD n cp (lo.map a.at) (hi.map a.at)=some (i,j))(d:i<cp):bN P kt c a o s=some (.slice (some ⟨b,off+i*sz,none⟩) (j-i) (cp-i),s):=by
 have e:fX P t (a.at x) (lo.map a.at) (hi.map a.at) ((none:Option Operand).map a.at) s=some (.slice (some ⟨b,off+i*sz,none⟩) (j-i) (cp-i)):=by unfold fX;grind
 unfold bN;rw[iw (by rw[U];simp[eF]),U];simp only;rw[e]
end
def xJ{s:AS}{i:Operand}{sp:Option Nat}{kd:IntKind}{j:Int}(d:o.op=.indexAddr t x i)(l:P.underlying t=some (.slice e))(f:bP P e=some sz)(m:a.at x=.slice (some ⟨b,off,sp⟩) n cp)(hi:a.at i=.int kd j)(g:0<=j)(h1:j<n)(h:off+j.toNat*sz=k):bN P kt c a o s=some (am b k,s):=by rw[qf d l f m hi g h1,h]
def ldT (P:Program)(t:TypeId):Bool:=match P.underlying t with
 | some d=>!d.isRow
 | none=>false
def slT (P:Program)(t:TypeId):Option Nat:=match P.underlying t with
 | some (.slice e)=>bP P e
 | _=>none
def yn{L:List FuncId}{pr:Prim}(h:∀f,f∈L->pr f=none)(f:FuncId)(a:f∈L:=by decide):pr f=none:=h f a
variable {s1:AS}
section
variable {P:Program}{kt:TypeId->Bool}{c:fI}{a:TL}{s:AS}{o:Oper}{x y:Operand}{t:TypeId}{v:Value}{ops:Array Oper}{rest:List Oper}{K:TL->AS->Prop}{KT:List (TL × Value × AS)->Prop}{g:FuncId}{args:Aq}{cl:Call}
def yl(b off:Nat)(v:Value)(g:s.get b=some (.cells cs ty fz))(f:o.op=.load t x:=by rfl)(e:ldT P t=true:=by kernel_rfl)(j:a.at x=am b off:=by kernel_rfl)(i:cs[off]?=some v:=by rfl):bN P kt c a o s=some (v,s):=by
 unfold ldT at e;cases h:P.underlying t with
 | none=>rw[h] at e;cases e
 | some d=>rw[h] at e;exact bw f h (by simpa using e) j g i
def yA(b off n:Nat)(r:Aq)(j:s.get b=some (.cells cs ty fz))(f:off+n<=cs.size)(g:o.op=.load t x:=by rfl)(e:UY P t=true:=by kernel_rfl)(l:bP P t=some n:=by kernel_rfl)(k:a.at x=am b off:=by kernel_rfl)(i:(cs.toList.drop off |>.take n).toArray=r:=by kernel_rfl):bN P kt c a o s=some (.agg r,s):=by
 unfold UY at e;cases h:P.underlying t with
 | none=>rw[h] at e;cases e
 | some d=>rw[h] at e;exact rB g h e l k j f i
def yb{b:BinOp}{z}(u w:Value)(h:dw b u w=some v)(d:o.op=.binOp b t x y z:=by rfl)(e:a.at x=u:=by kernel_rfl)(f:a.at y=w:=by kernel_rfl):bN P kt c a o s=some (v,s):=aQ d e f h
def yi{i:Operand}(b off n cp k:Nat)(sp:Option Nat)(kd:IntKind)(j:Int)(sz:Nat)(f:0<=j)(h1:j<n)(g:off+j.toNat*sz=k)(l:o.op=.indexAddr t x i:=by rfl)(d:slT P t=some sz:=by kernel_rfl)(m:a.at x=.slice (some ⟨b,off,sp⟩) n cp:=by kernel_rfl)(hi:a.at i=.int kd j:=by kernel_rfl):bN P kt c a o s=some (am b k,s):=by
 unfold slT at d;split at d
 .next e h=>exact xJ l h d m hi f h1 g
 .cases d
def ys(b off:Nat)(w:Value)(g:s.get b=some (.cells cs ty fz))(e:off+1<=cs.size)(f:o.op=.store t x y:=by rfl)(h:a.at x=am b off:=by kernel_rfl)(i:a.at y=w:=by kernel_rfl)(d:w.cells=#[w]:=by rfl)(h1:w.oneCell'=true:=by rfl)(j:bP P t=some 1:=by kernel_rfl):bN P kt c a o s=some (undef,s.set b (some (.cells (putAt cs off [w]) ty fz))):=gA f h i d h1 j g e
def yp{z}(i j r:Int)(d:i+j=r)(e : -2000000000<=r/\r<=2000000000)(b:o.op=.binOp .add t x y z:=by rfl)(f:a.at x=num i:=by kernel_rfl)(g:a.at y=num j:=by kernel_rfl):bN P kt c a o s=some (num r,s):=iP b f g d e
section
variable (h:EF P kt pr g args s v s1)
def yf(k:EO P kt pr ops rest (a.put o.dst v) s1 K)(f:Region.wanted o (bL ops a)=true:=by kernel_rfl)(e:o.op=.call cl:=by rfl)(c:cl.callee=.value (.func g):=by rfl)(d:jV P (.func g)=false:=by kernel_rfl)(b:(#[]++cl.args.map a.at++#[]:Aq)=args:=by kernel_rfl):EO P kt pr ops (o::rest) a s K:=EO.gd args f e c d b h k
def yt(k:ET P kt pr ops rest (a.put o.dst v) s1 (λi=>KT ((a,v,s1)::i)))(f:Region.wanted o (bL ops a)=true:=by kernel_rfl)(e:o.op=.call cl:=by rfl)(c:cl.callee=.value (.func g):=by rfl)(d:jV P (.func g)=false:=by kernel_rfl)(b:(#[]++cl.args.map a.at++#[]:Aq)=args:=by kernel_rfl):ET P kt pr ops (o::rest) a s KT:=ET.gd args f e c d b h k
end
def yc{f:Operand}(first cap:Aq)(h:EF P kt pr g args s v s1)(k:EO P kt pr ops rest (a.put o.dst v) s1 K)(j:Region.wanted o (bL ops a)=true:=by kernel_rfl)(i:o.op=.call cl:=by rfl)(c:cl.callee=.value f:=by rfl)(e:jV P f=false:=by kernel_rfl)(d:a.at f=.func (.func g) first cap:=by kernel_rfl)(b:first++cl.args.map a.at++cap=args:=by kernel_rfl):EO P kt pr ops (o::rest) a s K:=EO.call j i c e d b h k
def yR{fn:Func}{s':AS}(h1:c8 P fn a s=some v:=by kernel_rfl)(h2:s=s':=by kernel_rfl):EW P kt pr .ret a s (λe c b=>(e=.normal\/e=.ret)/\c8 P fn c b=some v/\b=s'):=EW.ret ⟨.inr rfl,h1,h2⟩
end
def KY(h : -9223372036854775808<=r/\r<=9223372036854775807):eQ .i64 r=r:=by
 unfold eQ;simp only;split
 .rfl
 .rw[IntKind.wrap_i64];omega
theorem gJ{s:AS}{z}{i j:Int}(U:o.op=.binOp .sub t x y z)(e:a.at x=num i)(f:a.at y=num j)(b:i-j=r)(d : -9223372036854775808<=r/\r<=9223372036854775807):bN P kt c a o s=some (num r,s):=by refine ej (by rw[U];rfl) gq ?_;unfold cj;rw[U];simp only;rw[e,f];unfold dw;simp only[ip];rw[b,KY d]
def Vs(h : -9223372036854775808<=r/\r<=9223372036854775807):IntKind.i64.wrap r=r:=by rw[IntKind.wrap_i64];omega
theorem MM{s s':AS}{bytes:Nat}(U:o.op=.call { callee:=.builtin .append,args:=#[x,y],argTypes:=#[t,t] })(g:a.at x=sl)(j:a.at y=.slice (sq d) 1 k)(r:P.underlying t=some (.slice e))(hi:(P.info? e).map (λi=>(i.zero,i.size,i.bytes))=some (some z,1,bytes))(u:z.cells.size=1)(n:bytes<=1000)(m:kt e=false)(b:s.get d=some (.cells #[w] e fz))(l:dR sl (sq d)=true)(q:w.oneCell'=true)(h:bK P e sl [w] 1 s=some (v,s')):bN P kt c a o s=some (v,s'):=by
 have f:cj P a o=none:=by unfold cj;rw[U]
 have p:ep s 1 (sq d) 1=some [w]:=by unfold ep;simp only;rw[b];rfl
 unfold bN;rw[iw (by rw[U];simp[eF])];rw[U];simp only;rw[f];simp only[rp,List.map_nil];rw[g,j];unfold eN;grind
section
variable {P:Program}{kt:TypeId->Bool}{c:fI}{a:TL}{o:Oper}{s:AS}
def Aj(b:o.op=.range t x)(e:P.underlying t=some .string)(f:a.at x=str l)(d:kt (1000+l.length)=false):bN P kt c a o s=some (am s.nx 0,s.add (.stringIter ⟨l.toArray⟩ 0)):=by unfold bN;rw[ip (by rw[b];rfl)];unfold tO;rw[b];simp only[e,f];rw[iw (by rw[show ByteArray.size ⟨l.toArray⟩=l.length from by simp[ByteArray.size],d];simp)]
theorem JK{r:UInt8}(d:o.op=.next x true)(k:a.at x=am b 0)(j:s.get b=some (.stringIter ⟨l.toArray⟩ pos))(i:l[pos]?=some r)(m:r.toNat<128)(h:kt (1000+l.length)=false) :
  bN P kt c a o s=some (.tuple #[.bool true,num pos,.int .i32 r.toNat],s.set b (some (.stringIter ⟨l.toArray⟩ (pos+1)))):=by
 have f:ByteArray.size ⟨l.toArray⟩=l.length:=by simp[ByteArray.size]
 have⟨e,U⟩:=gS.1 i;have g:Utf8.decode ⟨l.toArray⟩ pos=(r.toNat,1):=by
  have h1:pos<ByteArray.size ⟨l.toArray⟩:=oq
  have h2:(ByteArray.mk l.toArray)[pos]'h1=r:=by show l.toArray[pos]=r;simpa using U
  rw[BV h1 gq,h2]
 unfold bN;rw[iw (by rw[d];simp[eF]),d];simp only[k,am,j,f,g];rw[ip e,iw (by rw[h];simp)];rfl
def uw(d:o.op=.next x true)(g:a.at x=am b 0)(f:s.get b=some (.stringIter ⟨l.toArray⟩ pos))(h:l.length<=pos):bN P kt c a o s=some (.tuple #[.bool false],s):=by
 have e:ByteArray.size ⟨l.toArray⟩=l.length:=by simp[ByteArray.size]
 unfold bN;rw[iw (by rw[d];simp[eF]),d];simp only[g,am,f,e];rw[iw oq]
end
def Mo:∀m,m<16->kg (1000+m)=false:=dq
def dL (all:Iq)(k:Nat):Int:=all[k]?.getD (-1)
variable {rn:Nat}
section
variable {all:Iq}{s:AS}
def Xh(a:pr 146=gC rn all 146)(k:Nat):Ef pr 146 #[am rn 0,num (k:Nat)] s (.int .i32 (dL all k)) s:=by refine EF.vp (a.trans rfl) ?_;simp only[am];rw[ip ⟨trivial,by omega⟩];simp[dL]
def nL(g:pr 70=none)(a:pr 146=gC rn all 146){c:Nat}{p:Nat}(f:s.get c=some (.cells cs t fz))(j:cs[0]?=some (am rn 0))(h1:cs[1]?=some (num (k:Nat)))(m:k+p<=1000000):Ef pr 70 #[am c 0,num (p:Nat)] s (.int .i32 (dL all (k+p))) s:=by
 have d:=Xh (s:=s) a (k+p);generalize dL all (k+p)=r at d |-;have h:aB prog 84 (am c 0) s=some (am rn 0):=by unfold aB;simp only[am,f,underlying84];exact j
 have i:aB prog 3 (am c 1) s=some (num (k:Nat)):=by unfold aB;simp only[am,f,underlying3];exact h1
 have e:∀x∈[(aB prog 84 (am c 0) s,am rn 0),(aB prog 3 (am c 1) s,num (k:Nat))],x.1=some x.2/\bB 20 x.2=true:=by
  intro x l;simp only[nk,vh,or_false] at l;rcases l with rfl|rfl
  .exact⟨h,rfl⟩
  .exact⟨i,rfl⟩
 refine EF.of g func70 rfl ?_;refine zs (EW.seq (EW.draw kq kq kq ?_));iterate 3 refine zq ?_
 refine zt s (zu (bw (b:=c) (off:=0) (v:=am rn 0) rfl underlying84 rfl kq f j) ?_);iterate 3 refine zq ?_
 refine zt s (zu (bw (b:=c) (off:=1) (v:=num (k:Nat)) rfl underlying3 rfl kq f h1) (zq (zt s (zu (yp (k:Nat) (p:Nat) ((k+p:Nat):Int) oq oq) (yt d (zq (ET.nil ⟨aI [(aB prog 84 (am c 0) s,am rn 0),(aB prog 3 (am c 1) s,num (k:Nat))] kq e,_,_,_,_,_,_,rfl,rfl,?_⟩)))))));exact yR
end
def I7{c:UInt8}(h:c∈l):0<=ju c.toNat l 0:=by obtain⟨a,b,rfl,d⟩:=List.eq_append_cons_of_mem h;rw[ud d];omega
def Uv:List FuncId:=[70,150,160,247,257,259,260,264,324,328,334,366]
structure VB(rn:Nat)(all:Iq)(pr:Prim):Prop where
 xN:pr 146=gC rn all 146
 ZE:pr 92=gC rn all 92
 JQ:pr 373=bu 373
 no:∀f,f∈Uv->pr f=none
variable {r p q:Value}
section
variable {all:Iq}{s:AS}
section
variable (hp:VB rn all pr)
def Ec{b:UInt8}(l:b.toNat<128)(stops:Bq):Ef pr 328 #[.int .i32 ((b.toNat:Nat):Int),str stops] s (.bool (decide (0<=ju b.toNat stops 0))) s:=by
 have c:Ef pr 334 #[str stops,.int .u8 ((b.toNat:Nat):Int)] s (num (ju b.toNat stops 0)) s:=by
  have d:Ef pr 373 #[str stops,.int .u8 ((b.toNat:Nat):Int)] s (num (ju b.toNat stops 0)) s:=by obtain⟨g,j⟩:∃g,bu 373=some g:=⟨_,rfl⟩;have h:=EF.eval (P:=prog) (kt:=kg) (pr:=bu) (f:=373) (args:=#[str stops,.int .u8 ((b.toNat:Nat):Int)]) (s:=s) (v:=num (ju (((b.toNat:Nat):Int).toNat % 256) stops 0)) (s':=s) 1 kq;rw[toNat_mod] at h;have⟨m,h⟩:=h;refine EF.vp (hp.JQ.trans j) ?_;unfold bH at h;rw[j] at h;exact h
  generalize ju b.toNat stops 0=e at d |-;refine EF.of (hp.no 334 dq) func334 rfl (zs (zr (zc 2 d (zf ?_))));exact EW.ret ⟨.inr rfl,by kernel_rfl,by kernel_rfl⟩
 generalize ju b.toNat stops 0=e at c;have i:Ef pr 264 #[str stops,.int .i32 ((b.toNat:Nat):Int)] s (num e) s:=by refine EF.of (hp.no 264 dq) func264 rfl ?_;refine zs (EW.block (zr (zk 1 (zp (aQ (u:=.int .i32 0) (w:=.int .i32 ((b.toNat:Nat):Int)) rfl kq kq (bU (b:=true) (tD oq))) (zk 2 (zp (aQ (u:=.int .i32 ((b.toNat:Nat):Int)) (w:=.int .i32 128) rfl kq kq (dV (b:=true) (tD oq))) (zf (zH (zr (zg 2 s (EO.op (v:=.int .u8 ((b.toNat:Nat):Int)) (s1:=s) kq ((show _=some (Value.int .u8 (IntKind.u8.wrap ((b.toNat:Nat):Int)),s) by kernel_rfl).trans (by rw[IntKind.wrap_u8,show((b.toNat:Nat):Int) % 256=(b.toNat:Nat) by omega])) (zo s (EO.gd #[str stops,.int .u8 ((b.toNat:Nat):Int)] kq rfl rfl kq kq c (zf ?_))))))))))))));exact EW.ret ⟨.inr rfl,by kernel_rfl,by kernel_rfl⟩
 have a:Ef pr 160 #[str stops,.int .i32 ((b.toNat:Nat):Int)] s (.bool (decide (0<=e))) s:=by refine EF.of (hp.no 160 dq) func160 rfl ?_;refine zs (zr (zc 2 i (zp (aQ (u:=num e) (w:=num 0) rfl kq kq (eZ (b:=decide (0<=e)) rfl)) ?_)));generalize decide (0<=e)=k;refine zf ?_;exact EW.ret ⟨.inr rfl,by kernel_rfl,by kernel_rfl⟩
 generalize decide (0<=e)=k at a |-;refine EF.of (hp.no 328 dq) func328 rfl (zs (zr (zc 2 a (zf ?_))));exact EW.ret ⟨.inr rfl,by kernel_rfl,by kernel_rfl⟩
def Jc{b:UInt8}(a:b.toNat<128)(h:b∉stops):Ef pr 328 #[.int .i32 ((b.toNat:Nat):Int),str stops] s (.bool false) s:=by have:=Ec hp (s:=s) a stops;rw[pQ h] at this;exact this
def Gb{b:UInt8}(a:b.toNat<128)(h:b∈stops):Ef pr 328 #[.int .i32 ((b.toNat:Nat):Int),str stops] s (.bool true) s:=by have:=Ec hp (s:=s) a stops;rw[tD (I7 h)] at this;exact this
end
variable {St:Nat->AS}{c:Nat}
theorem iD{a b:Option Value × Value}(U:a.1=some a.2/\bB 20 a.2=true)(c:b.1=some b.2/\bB 20 b.2=true):∀x∈[a,b],x.1=some x.2/\bB 20 x.2=true:=gq
def Kl(c:Nat)(stops:Bq)(k:Nat)(x:Nq):TL:=[am c 0,str stops,x 2,x 3,x 4,num (k:Nat)]++gD x 6 31
abbrev cz:Bq:=[9,10,12,13,32]
end
def rd0:AS:=⟨((⟨sA.hp,64⟩:AS).add (.cells #[.slice none 0 0] 56)).hp,66⟩
def Le (k:Nat):AS:=rd0.add (.cells #[am 65 0,num (k:Nat),.pointer none,.slice none 0 0,.slice none 0 0] 121)
abbrev bxO:Obj:=.cells #[am 66 0] 196
def sc2 (bs:Bq)(k:Nat):AS:=((rd0.add (.cells #[am 65 0,num (k:Nat),am 66 2,.slice (some ⟨68,0,none⟩) bs.length bs.length,.slice none 0 0] 121)).add bxO).add (.cells (od bs) 5 (1,1))
def Rg (bs:Bq)(k:Nat):AS:=(sc2 bs k).add bxO
abbrev aD:Value:=.slice none 0 0
abbrev Wa(nm:Bq)(at_:Value):Obj:=.cells #[str nm,at_,.bool false] 262
abbrev T6(b:UInt8):Obj:=.stringIter ⟨#[b]⟩ 1
abbrev SJ:Obj:=.cells #[.pointer none,.slice none 0 0] 119
abbrev Oc(a b:Bq):Obj:=.cells #[str a,str b] 47
def g1 (bs:Bq)(k:Nat):AS:=(Rg bs k).add (Wa [] aD)
def g2 (bs:Bq)(k:Nat):AS:=(((Rg bs k).add (Wa [97] aD)).add SJ).add (T6 97)
def g3 (bs:Bq)(k:Nat):AS:=(g2 bs k).add (Oc [] [])
def g4 (bs:Bq)(k:Nat):AS:=(((g3 bs k).add SJ).add (T6 98)).add (Oc [98] [])
def g5 (bs w6:Bq)(k:Nat):AS:=((((g2 bs k).add (Oc [98] w6)).add SJ).add (T6 98)).add (Oc [98] w6)
def g6 (bs w6:Bq)(k:Nat):AS:=((((((((((Rg bs k).add (Wa [97] (.slice (some ⟨79,0,none⟩) 1 1))).add SJ).add (T6 97)).add (Oc [98] w6)).add SJ).add (T6 98)).add (Oc [98] w6)).add (Oc [98] w6)).add (Oc [98] w6)).add (.cells #[str [98],str w6] 47 (1,1))
abbrev Vd:Value:=.slice (some ⟨79,0,none⟩) 1 1
abbrev Rx(bs:Bq):Vq:=[num 1,str bs,str [],aD,.bool false]
abbrev Rw:Vq:=[num 2,str [],str [97],Vd,.bool false]
abbrev U5(k:Nat)(l:Value):Obj:=.cells #[am 65 0,num (k:Nat),.pointer none,aD,l] 121
def h1 (bs w6:Bq)(k:Nat):AS:=(g6 bs w6 k).add (Wa [97] Vd)
def P5 (bs w6:Bq)(k:Nat):AS:=(h1 bs w6 k).add (.cells Rw.toArray 60)
def e1 (bs w6:Bq)(k:Nat):AS:=((((P5 bs w6 k).set 68 none).add (.cells (Rx bs).toArray 60)).add (.cells (Rx bs).toArray 60 (1,1))).set 66 (some (U5 k (.slice (some ⟨83,0,none⟩) 1 1)))
def h2 (bs w6:Bq)(k:Nat):AS:=((((e1 bs w6 k).add (.cells Rw.toArray 60)).set 83 none).add (.cells (Rx bs++Rw).toArray 60 (1,1))).set 66 (some (U5 k (.slice (some ⟨85,0,none⟩) 2 2)))
def h3 (bs w6:Bq)(k:Nat):AS:=((h2 bs w6 k).add (.cells #[str OB,str OC] 9)).add (.cells #[str OA,str lql] 9)
section
variable {n:Nat}{V:Aq->Option Value}{all:Iq}{s:AS}{bs w6:Bq}
theorem QE{a:Option Value × Value}(U:a.1=some a.2/\bB 20 a.2=true):∀x∈[a],x.1=some x.2/\bB 20 x.2=true:=gq
end
def Hf (l:Bq):Prop:=∀b∈l,b.toNat<128
def SS{b:UInt8}(h:b.toNat<128):Lib.encodeRune ((b.toNat:Nat):Int)=[b]:=by unfold Lib.encodeRune;rw[Lib.encodeRuneZ_one oq oq];simp
def AS.only(s:AS):List Nat->AS
 | []=>⟨[],s.nx⟩
 | b::l=>match s.get b with
  | some o=>if oO o=true then (s.only l).set b (some o) else s.only l
  | none=>s.only l
theorem Ez(l:List Nat):yJ λs=>s.only l:=by
 intro s;induction l with
 | nil=>exact⟨rfl,λb o h=>by simp only[AS.only] at h;unfold AS.get at h;simp at h⟩
 | cons b l U =>
  simp only[AS.only];split
  .next o d =>
   split
   .next a =>refine⟨U.1,λc e h=>?_⟩;rw[AS.bn] at h;grind
   .exact U
  .exact U
def rj(d:α):∀(n:Nat) (l:List α) (x y:α),nj d n (nj d n l x) y=nj d n l y
 | 0,l,x,y=>by simp[nj]
 | n+1,l,x,y=>by have:=rj d n l.tail x y;simp[nj,this]
def rk(d:α):∀(n:Nat) (l:List α),n<l.length->nj d n l (l.getD n d)=l
 | 0,x::l,h=>by simp[nj]
 | n+1,x::l,h=>by have:=rk d n l (by simpa using h);simp only[nj,List.headD_cons,List.tail_cons,List.getD_cons_succ];rw[this]
 | _,[],h=>by simp at h
def AS.set_set(s:AS)(b:Nat)(x y:Option Obj):(s.set b x).set b y=s.set b y:=by unfold AS.set;simp only[nS,if_true];rw[rj,rj]
theorem AS.AQ{s:AS}{o:Obj}(h:s.get b=some o):s.set b (some o)=s:=by
 unfold AS.get at h;have h1:b % 16<(s.hp.getD (b / 16) []).length:=gq
 have h2:b / 16<s.hp.length:=gq
 unfold AS.set;have e:nj none (b % 16) (s.hp.getD (b / 16) []) (some o)=s.hp.getD (b / 16) []:=by have:=rk none (b % 16) (s.hp.getD (b / 16) []) h1;rw[h] at this;exact this
 rw[e,rk [] (b / 16) s.hp h2]
def Has (s:AS)(b:Nat)(o:Obj):Prop:=b<s.nx/\s.get b=some o
variable {s2:AS}
section
variable {s s':AS}{b c:Nat}{o o':Obj}
def Has.add(h:Has s b o)(x:Obj):Has (s.add x) b o:=⟨by have:=h.1;simp;omega,by rw[AS.bv,iw (by have:=h.1;omega)];exact h.2⟩
def Has.new(s:AS)(o:Obj):Has (s.add o) s.nx o:=⟨iq,by rw[AS.bv,ip rfl]⟩
def Has.set(h:Has s b o)(a:b≠c)(x:Option Obj):Has (s.set c x) b o:=⟨h.1,by rw[AS.bn,iw a];exact h.2⟩
def Has.put(h:Has s b o)(o':Obj):Has (s.set b (some o')) b o':=⟨h.1,by rw[AS.bn,ip rfl]⟩
theorem Has.ne(h:Has s b (.cells cs t fz))(U:Has s c (.cells o9 t' S8))(a:t≠t'):b≠c:=λe=>by have h1:=h.2;rw[e,U.2] at h1;grind
def aO (K:Nat->Prop)(s s':AS):Prop:=s.nx<=s'.nx/\∀b,b<s.nx->¬K b->s'.get b=s.get b
def aO.refl(s:AS):aO K s s:=⟨lr,λ_ _ _=>rfl⟩
def aO.add(h:aO K s s')(x:Obj):aO K s (s'.add x):=⟨by have:=h.1;simp;omega,λb a c=>by rw[AS.bv,iw (by have:=h.1;omega)];exact h.2 b a c⟩
theorem aO.set(h:aO K s s')(d:c<s.nx->K c)(x:Option Obj):aO K s (s'.set c x):=⟨h.1,λb a U=>by rw[AS.bn,iw (λe=>U gq)];exact h.2 b a U⟩
def aO.trans(h:aO K s s1)(a:aO K' s1 s2)(e:∀b,b<s.nx->K' b->K b):aO K s s2:=⟨lT h.1 a.1,λb c d=>by have:=h.1;rw[a.2 b oq λz=>d (e b c z),h.2 b c d]⟩
def Has.fr(h:Has s b o)(a:aO K s s')(c:¬K b):Has s' b o:=⟨by have:=h.1;have:=a.1;omega,(a.2 b h.1 c).trans h.2⟩
end
abbrev fG(rn k:Nat)(p q r:Value):Obj:=.cells #[am rn 0,num (k:Nat),p,q,r] 121
def sp (s:AS)(c rn:Nat)(p q r:Value)(k:Nat):AS:=s.set c (some (fG rn k p q r))
variable {k':Nat}
section
variable {s:AS}{c k:Nat}
def ew:(sp s c rn p q r k).get c=some (fG rn k p q r):=by unfold sp;rw[AS.bn,ip rfl]
def oX:(sp s c rn p q r k).set c (some (fG rn k' p q r))=sp s c rn p q r k':=by unfold sp;rw[AS.set_set]
def mq(h:s.get c=some (fG rn k p q r)):sp s c rn p q r k=s:=AS.AQ h
end
def gz (l:Int)(stops:Bq):Bool:=stops.any λb=>l==((b.toNat:Nat):Int)
def v5:List FuncId:=[40,70,71,72,73,84,148,149,156,158,159,248,249,252,253,257,259,260,261,322,324,325,326,364,365,366]
structure Dj(rn:Nat)(all:Iq)(pr:Prim):Prop where
 xN:pr 146=gC rn all 146
 ZE:pr 92=gC rn all 92
 one:∀(s:AS) (l:Int) (stops:Bq),(l = -1\/l∈all)->Hf stops->EF prog kg pr 328 #[.int .i32 l,str stops] s (.bool (gz l stops)) s
 no:∀f,f∈v5->pr f=none
 pos:∀l∈all,0<=l
 len:all.length<=100000
def eL (all:Iq)(stops:Bq)(k:Nat):Nat:=k+((all.drop k).takeWhile λl=>!gz l stops).length
def nG (all:Iq)(some_:Bq)(k:Nat):Nat:=k+((all.drop k).takeWhile λl=>gz l some_).length
def E4{f:α->Bool}:∀{l:List α} {j:Nat},j<(l.takeWhile f).length->∃x,l[j]?=some x/\f x=true
 | [],j,h=>by simp at h
 | x::l,j,h=>by
  rw[List.takeWhile_cons] at h;split at h
  .next hx =>
   cases j with
   | zero=>exact⟨x,rfl,hx⟩
   | succ j=>exact E4 (l:=l) (by simpa using h)
  .simp at h
theorem ye(f:α->Bool):∀l:List α,l[(l.takeWhile f).length]?=none\/∃x,l[(l.takeWhile f).length]?=some x/\f x=false
 | []=>.inl rfl
 | x::l=>by
  rw[List.takeWhile_cons];split
  .simpa using ye f l
  .grind
def pU(all:Iq)(k j:Nat):dL all (k+j)=((all.drop k)[j]?).getD (-1):=by unfold dL;rw[K2]
def lw{all:Iq}{x:Int}(h:(all.drop k)[j]?=some x):dL all (k+j)=x/\x∈all:=⟨by rw[pU,h];rfl,List.mem_of_mem_drop (mG h)⟩
def rL(f:α->Bool)(l:List α):(l.takeWhile f).length<=l.length:=(List.takeWhile_sublist f).length_le
def cP (all:Iq)(k j:Nat):Bq:=aJ ((all.drop k).take (j-k))
section
variable {all:Iq}{s:AS}{c:Nat}
def Dj.at(a:Dj rn all pr)(k:Nat):dL all k = -1\/dL all k∈all:=by
 unfold dL;cases h:all[k]? with
 | none=>exact .inl rfl
 | some x=>exact .inr (mG h)
section
variable (hp:Dj rn all pr)
def Ln(i:Nat)(hk:k+i<=1000000):Ef pr 70 #[am c 0,num (i:Nat)] (sp s c rn p q r k) (.int .i32 (dL all (k+i))) (sp s c rn p q r k):=nL (hp.no 70 dq) hp.xN ew rfl rfl hk
def h9(hk:k<=1000000):Ef pr 70 #[am c 0,num 0] (sp s c rn p q r k) (.int .i32 (dL all k)) (sp s c rn p q r k):=Ln hp 0 hk
def qm(a:j<=1000000):Ef pr 92 #[am rn 0,num (k:Nat),num (j:Nat)] s (str (cP all k j)) s:=by refine EF.vp (hp.ZE.trans rfl) ?_;simp only[am];rw[ip ⟨trivial,by omega,by omega,by omega⟩];simp[cP]
end
def EX(k:Nat):aB prog 84 (am c 0) (sp s c rn p q r k)=some (am rn 0):=by unfold aB;simp only[am,ew,underlying84];rfl
def Kw(k:Nat):aB prog 3 (am c 1) (sp s c rn p q r k)=some (num (k:Nat)):=by unfold aB;simp only[am,ew,underlying3];rfl
section
variable (hp:Dj rn all pr)
def KP(y:Hf stops)(G:k<=200000):Ef pr 259 #[am c 0,str stops] (sp s c rn p q r k) (str (cP all k (eL all stops k))) (sp s c rn p q r (eL all stops k)):=by
 have v:=λ(j:Nat)=>E4 (f:=λl=>!gz l stops) (l:=all.drop k) (j:=j);have i:=ye (λl=>!gz l stops) (all.drop k);have w:=rL (λl=>!gz l stops) (all.drop k);have C:(all.drop k).length<=all.length:=iq
 have D:=hp.len;unfold eL;generalize ((all.drop k).takeWhile λl=>!gz l stops).length=m at v i w |-;refine EF.of (hp.no 259 dq) func259 rfl (zs (za (sp s c rn p q r k) (zr (zg 3 (sp s c rn p q r k) (zp (yl c 1 (num (k:Nat)) ew) (zf (za (sp s c rn p q r k) (EW.fill (Kl c stops k) kq ?_))))))));intro F;refine EW.seq (EW.block ?_);refine EW.mono (EW.dG (Q:=λe t A=>e=.exit 0/\A=sp s c rn p q r (k+m)/\∃x,t=Kl c stops k x) (λu t A=>∃j,u+j=m/\A=sp s c rn p q r (k+j)/\∃x,t=Kl c stops k x) ?_ m _ _ ⟨0,by omega,rfl,F,rfl⟩) ?_
 .rintro u t A ⟨j,H,rfl,x,rfl⟩;have d:=h9 (s:=s) (c:=c) (p:=p) (q:=q) (r:=r) hp (k:=k+j) oq;by_cases E:j<m
  .have⟨l,g,n⟩:=v j E;have⟨o,h⟩:=lw g;have B:=hp.pos l h;rw[o] at d;have a:=hp.one (sp s c rn p q r (k+j)) l stops (.inr h) y;rw[show gz l stops=false by simpa using n] at a;refine EW.seq (zr (zc 1 d (zp (yb (.int .i32 l) (.int .i32 (-1)) (cM (b:=true) (bne_iff_ne.2 oq))) (zc 2 d (zc 1 a (zf (za (sp s c rn p q r (k+j)) (zT (EW.block (zx (zg 3 (sp s c rn p q r (k+j)) (zp (yl c 1 (num ((k+j:Nat):Int)) ew) (zp (yp ((k+j:Nat):Int) 1 ((k+(j+1):Nat):Int) oq oq) (zg 2 (sp s c rn p q r (k+j)) (zp (ys c 1 (num ((k+(j+1):Nat):Int)) ew iq) (EO.nil ?_))))))))))))))));exact⟨u-1,by omega,j+1,by omega,oX,aR kq⟩
  .obtain rfl:j=m:=oq
   rcases i with g|⟨l,g,n⟩
   .have e:dL all (k+j) = -1:=by rw[pU,g];rfl
    rw[e] at d;exact EW.seq (zr (zc 1 d (zf (za (sp s c rn p q r (k+j)) (zG (EW.exit ⟨rfl,rfl,aR kq⟩))))))
   .have⟨o,h⟩:=lw g;have B:=hp.pos l h;rw[o] at d;have a:=hp.one (sp s c rn p q r (k+j)) l stops (.inr h) y;rw[show gz l stops=true by simpa using n] at a;exact EW.seq (zr (zc 1 d (zp (yb (.int .i32 l) (.int .i32 (-1)) (cM (b:=true) (bne_iff_ne.2 oq))) (zc 2 d (zc 1 a (zf (za (sp s c rn p q r (k+j)) (zG (EW.exit ⟨rfl,rfl,aR kq⟩)))))))))
 rintro e t A ⟨rfl,rfl,x,rfl⟩;have z:=qm hp (s:=sp s c rn p q r (k+m)) (k:=k) (j:=k+m) oq;generalize cP all k (k+m)=I at z |-;refine EW.seq (EW.draw kq kq kq ?_);iterate 3 refine zq ?_
 refine zt (sp s c rn p q r (k+m)) (zu (yl c 0 (am rn 0) ew) ?_);iterate 4 refine zq ?_
 refine zt (sp s c rn p q r (k+m)) (zu (yl c 1 (num ((k+m:Nat):Int)) ew) (yt z (zq (ET.nil ⟨aI [(aB prog 84 (am c 0) (sp s c rn p q r (k+m)),am rn 0),(aB prog 3 (am c 1) (sp s c rn p q r (k+m)),num ((k+m:Nat):Int))] kq (iD ⟨EX _,rfl⟩ ⟨Kw _,rfl⟩),_,_,_,_,_,_,rfl,rfl,?_⟩))));exact yR
def RB(stops:Bq)(k:Nat):k<=eL all stops k/\eL all stops k<=k+100000:=by
 have h1:=rL (λl=>!gz l stops) (all.drop k);have h2:(all.drop k).length<=all.length:=iq
 have h3:=hp.len;unfold eL;omega
def E6{b0:UInt8}(e:b0.toNat<128)(f:k<=200000):Ef pr 260 #[am c 0,str [b0]] (sp s c rn p q r k) (str (cP all k (eL all [b0] k))) (sp s c rn p q r (eL all [b0] k+1)):=by have d:=KP (s:=s) (c:=c) (p:=p) (q:=q) (r:=r) hp (stops:=[b0]) (by intro b h;simp at h;subst h;exact e) (k:=k) f;have g:=RB hp [b0] k;generalize cP all k (eL all [b0] k)=i at d |-;generalize eL all [b0] k=a at *;exact EF.of (hp.no 260 dq) func260 rfl (zs (zr (zc 2 d (zf (za (sp s c rn p q r a) (zr (zg 3 (sp s c rn p q r a) (zp (yl c 1 (num (a:Nat)) ew) (zk 2 (zp (yp (a:Nat) 1 ((a+1:Nat):Int) oq oq) (zg 2 (sp s c rn p q r a) (zp (ys c 1 (num ((a+1:Nat):Int)) ew iq) (EO.nil (EW.kZ (sp s c rn p q r (a+1)) oX (zs yR)))))))))))))))
end
def uK:Hf cz:=by intro b h;simp at h;rcases h with rfl|rfl|rfl|rfl|rfl<;>decide
def Kk(c:Nat)(x:Nq):TL:=[am c 0]++gD x 1 11
theorem C0(a:Dj rn all pr)(C:k<=200000):Ef pr 257 #[am c 0] (sp s c rn p q r k) (.tuple #[]) (sp s c rn p q r (nG all cz k)):=by
 have w:=λ(j:Nat)=>E4 (f:=λl=>gz l cz) (l:=all.drop k) (j:=j);have v:=ye (λl=>gz l cz) (all.drop k);have g:=rL (λl=>gz l cz) (all.drop k);have t:(all.drop k).length<=all.length:=iq
 have B:=a.len;unfold nG;generalize ((all.drop k).takeWhile λl=>gz l cz).length=m at w v g |-;refine EF.of (a.no 257 dq) func257 rfl (za (sp s c rn p q r k) (EW.fill (Kk c) kq ?_));intro A;refine EW.block ?_;refine EW.mono (EW.dG (Q:=λe b h=>e=.exit 0/\h=sp s c rn p q r (k+m)/\∃x,b=Kk c x) (λu b h=>∃j,u+j=m/\h=sp s c rn p q r (k+j)/\∃x,b=Kk c x) ?_ m _ _ ⟨0,by omega,rfl,A,rfl⟩) ?_
 .rintro u b h ⟨j,D,rfl,x,rfl⟩;have i:=h9 (s:=s) (c:=c) (p:=p) (q:=q) (r:=r) a (k:=k+j) oq;by_cases z:j<m
  .have⟨l,d,y⟩:=w j z;have⟨n,o⟩:=lw d;rw[n] at i;have U:=a.one (sp s c rn p q r (k+j)) l cz (.inr o) uK;rw[show gz l cz=true by simpa using y] at U;refine EW.seq (zr (zc 1 i (zc 0 U (EO.nil (zT (EW.block (zx (zg 3 (sp s c rn p q r (k+j)) (zp (yl c 1 (num ((k+j:Nat):Int)) ew) (zp (yp ((k+j:Nat):Int) 1 ((k+(j+1):Nat):Int) oq oq) (zg 2 (sp s c rn p q r (k+j)) (zp (ys c 1 (num ((k+(j+1):Nat):Int)) ew iq) (EO.nil ?_)))))))))))));exact⟨u-1,by omega,j+1,by omega,oX,aR kq⟩
  .obtain rfl:j=m:=oq
   have U:Ef pr 328 #[.int .i32 (dL all (k+j)),str cz] (sp s c rn p q r (k+j)) (.bool false) (sp s c rn p q r (k+j)):=by
    rcases v with d|⟨l,d,y⟩
    .have e:dL all (k+j) = -1:=by rw[pU,d];rfl
     rw[e];exact a.one _ _ cz (.inl rfl) uK
    .have⟨n,o⟩:=lw d;rw[n]
     have:=a.one (sp s c rn p q r (k+j)) l cz (.inr o) uK;grind
   generalize dL all (k+j)=l at i U;exact EW.seq (zr (zc 1 i (zc 0 U (EO.nil (zG (EW.exit ⟨rfl,rfl,aR kq⟩))))))
 rintro e b h ⟨rfl,rfl,x,rfl⟩;exact⟨.inl rfl,kq,kq⟩
def xV(all:Iq)(k:Nat):Bool:=decide (k<nG all (cz++[47]) k)&&(dL all (nG all (cz++[47]) k-1)==47)
def Ku:Hf (cz++[47]):=by intro b h;simp at h;rcases h with rfl|rfl|rfl|rfl|rfl|rfl<;>decide
def xU(c:Nat)(b:Bool)(x:Nq):TL:=[am c 0,x 1,.bool b]++gD x 3 14
theorem Nk(a:Dj rn all pr)(H:k<=200000):Ef pr 324 #[am c 0] (sp s c rn p q r k) (.bool (xV all k)) (sp s c rn p q r (nG all (cz++[47]) k)):=by
 have z:=λ(j:Nat)=>E4 (f:=λl=>gz l (cz++[47])) (l:=all.drop k) (j:=j);have y:=ye (λl=>gz l (cz++[47])) (all.drop k);have n:=rL (λl=>gz l (cz++[47])) (all.drop k);have w:(all.drop k).length<=all.length:=iq
 have F:=a.len;unfold xV nG;generalize ((all.drop k).takeWhile λl=>gz l (cz++[47])).length=m at z y n |-;refine EF.of (a.no 324 dq) func324 rfl (zs (za (sp s c rn p q r k) (EW.fill (xU c false) kq ?_)));intro E;refine EW.seq (EW.block ?_);refine EW.mono (EW.dG (Q:=λe d o=>e=.exit 0/\o=sp s c rn p q r (k+m)/\∃x,d=xU c (decide (k<k+m)&&(dL all (k+m-1)==47)) x) (λu d o=>∃j,u+j=m/\o=sp s c rn p q r (k+j)/\∃x,d=xU c (decide (k<k+j)&&(dL all (k+j-1)==47)) x) ?_ m _ _ ⟨0,by omega,rfl,E,by simp[xU]⟩) ?_
 .rintro u d o ⟨j,I,rfl,x,rfl⟩;have g:=h9 (s:=s) (c:=c) (p:=p) (q:=q) (r:=r) a (k:=k+j) oq;by_cases D:j<m
  .have⟨l,h,A⟩:=z j D;have⟨t,v⟩:=lw h;have i:(decide (k<k+(j+1))&&(dL all (k+(j+1)-1)==47))=(l==47):=gq
   rw[t] at g;have U:=a.one (sp s c rn p q r (k+j)) l (cz++[47]) (.inr v) Ku;rw[show gz l (cz++[47])=true by simpa using A] at U;generalize (decide (k<k+j)&&(dL all (k+j-1)==47))=B;refine EW.seq (zr (zc 1 g (zc 0 U (EO.nil (zT (EW.block (zr (zc 1 g (zp (yb (.int .i32 l) (.int .i32 47) (cL (b:=l==47) rfl)) ?_)))))))));generalize C:(l==(47:Int))=G at i;refine zf (za (sp s c rn p q r (k+j)) (zx (zg 3 (sp s c rn p q r (k+j)) (zp (yl c 1 (num ((k+j:Nat):Int)) ew) (zp (yp ((k+j:Nat):Int) 1 ((k+(j+1):Nat):Int) oq oq) (zg 2 (sp s c rn p q r (k+j)) (zp (ys c 1 (num ((k+(j+1):Nat):Int)) ew iq) (EO.nil ?_))))))));exact⟨u-1,by omega,j+1,by omega,oX,by rw[i];exact aR kq⟩
  .obtain rfl:j=m:=oq
   have U:Ef pr 328 #[.int .i32 (dL all (k+j)),str (cz++[47])] (sp s c rn p q r (k+j)) (.bool false) (sp s c rn p q r (k+j)):=by
    rcases y with h|⟨l,h,A⟩
    .have e:dL all (k+j) = -1:=by rw[pU,h];rfl
     rw[e];exact a.one _ _ (cz++[47]) (.inl rfl) Ku
    .have⟨t,v⟩:=lw h;rw[t]
     have:=a.one (sp s c rn p q r (k+j)) l (cz++[47]) (.inr v) Ku;grind
   generalize (decide (k<k+j)&&(dL all (k+j-1)==47))=B;generalize dL all (k+j)=l at g U;exact EW.seq (zr (zc 1 g (zc 0 U (EO.nil (zG (EW.exit ⟨rfl,rfl,aR kq⟩))))))
 rintro e d o ⟨rfl,rfl,x,rfl⟩;generalize (decide (k<k+m)&&(dL all (k+m-1)==47))=B;exact zs yR
def iK (all:Iq)(k:Nat):Bq × Nat:=if dL all k=34 then (cP all (k+1) (eL all [34] (k+1)),eL all [34] (k+1)+1) else if dL all k=39 then (cP all (k+1) (eL all [39] (k+1)),eL all [39] (k+1)+1) else (cP all k (eL all (cz++[62]) k),eL all (cz++[62]) k)
def NQ(f:Dj rn all pr)(g:k<=150000)(d:dL all k=34):Ef pr 366 #[am c 0] (sp s c rn p q r k) (str (iK all k).1) (sp s c rn p q r (iK all k).2):=by have e:=h9 (s:=s) (c:=c) (p:=p) (q:=q) (r:=r) f (k:=k) oq;unfold iK;rw[ip d];rw[d] at e;have a:=E6 (s:=s) (c:=c) (p:=p) (q:=q) (r:=r) f (b0:=34) dq (k:=k+1) oq;generalize cP all (k+1) (eL all [34] (k+1))=l at a |-;generalize eL all [34] (k+1)+1=h at a |-;exact EF.of (f.no 366 dq) func366 rfl (zs (EW.seq (zr (zc 1 e (zf (za (sp s c rn p q r k) (zs (EW.block (zs (za (sp s c rn p q r k) (zH (zr (zg 3 (sp s c rn p q r k) (zp (bw (b:=c) (off:=1) (v:=num (k:Nat)) rfl underlying3 rfl kq ew rfl) (zp (iP (i:=(k:Nat)) (j:=1) (r:=((k+1:Nat):Int)) rfl kq kq oq oq) (zg 2 (sp s c rn p q r k) (zp (gA (b:=c) (off:=1) (w:=num ((k+1:Nat):Int)) rfl kq kq rfl rfl kq ew iq) (EO.nil (EW.kZ (sp s c rn p q r (k+1)) oX (zr (zc 3 a (zf (EW.ret ⟨.inr rfl,kq,kq⟩)))))))))))))))))))))))
end
section
theorem Pu{x:Value}(c:x=am b off)(U:P.underlying t=some (.pointer e))(a:P.underlying u=some .unsafePointer)(f:s.get b=some (.cells cs ty fz))(g:bP P e=some (k+1))(d:off<cs.size):fB P t u x s=some (am b off):=by subst c;unfold fB;rw[U,a];simp only[am];grind
theorem Pv{x:Value}(c:x=am b off)(U:P.underlying t=some .unsafePointer)(a:P.underlying u=some (.pointer e))(f:s.get b=some (.cells cs ty (0,0)))(g:bP P e=some (k+1))(d:liesAt P P.depth ty (cs.size / P.cellsOf ty) off e 1=true):fB P t u x s=some (am b off):=by subst c;unfold fB;rw[U,a];simp only[am];grind
theorem JI{z}(U:o.op=.binOp .neq t x y z)(f:a.at x=am b off)(g:a.at y=am b off)(d:P.underlying t=some (.pointer e))(h:bP P e=some (k+1)):bN P kt c a o s=some (.bool false,s):=by
 refine ej (by rw[U];rfl) gq ?_;unfold cj;rw[U];simp only;rw[f,g];have h1:dw .neq (am b off) (am b off)=none:=rfl;have h2:oJ P .neq t (am b off) (am b off)=some (.bool false):=by unfold oJ;simp only[am,d];rw[h];simp
 rw[h1,h2]
end
structure gp where
 kind:Int
 text:Bq
 name:Bq
 at_:Value
 closed:Bool
abbrev dU(t:gp):Vq:=[num t.kind,str t.text,str t.name,t.at_,.bool t.closed]
section
variable (ts:List gp)
def ox:Aq:=(ts.flatMap dU).toArray
def rK:(ox ts).size=ts.length*5:=by
 unfold ox;induction ts with
 | nil=>rfl
 | cons t ts ih=>simp at ih |-;omega
def GR(t:gp):((ox ts).toList.take (ts.length*5)++dU t).toArray=ox (ts++[t]):=by rw[tL (by rw[KF,rK];exact lr)];unfold ox;simp
end
def Dk (s:AS)(q:Value)(tx:Bq):Prop:=(q=aD/\tx=[])\/∃d fz,q=.slice (some ⟨d,0,none⟩) tx.length tx.length/\Has s d (.cells (od tx) 5 fz)
def rQ (s:AS)(r:Value)(ts:List gp):Prop:=(r=aD/\ts=[])\/∃d fz,r=.slice (some ⟨d,0,none⟩) ts.length ts.length/\Has s d (.cells (ox ts) 60 fz)
def SC (rn c:Nat)(s:AS)(k:Nat)(tx:Bq)(ts:List gp):Prop:=∃p q r,Has s c (fG rn k p q r)/\(p=.pointer none\/p=am c 2)/\Dk s q tx/\rQ s r ts
def blk (v:Value)(b:Nat):Prop:=∃off sp n m,v=.slice (some ⟨b,off,sp⟩) n m
def KS (c:Nat)(s:AS)(b:Nat):Prop:=b=c\/∃rn k p q r,s.get c=some (fG rn k p q r)/\(blk q b\/blk r b)
def fS (c:Nat)(s s':AS):Prop:=aO (KS c s) s s'/\∀b,b<s.nx->KS c s' b->KS c s b
variable {tx:Bq}{ts:List gp}
section
variable {c k:Nat}{s s':AS}{p' q' r':Value}
def fS.refl(s:AS):fS c s s:=⟨aO.refl s,λ_ _ h=>h⟩
def fS.trans(h:fS c s s1)(d:fS c s1 s2):fS c s s2:=by have e:=h.1.1;exact⟨h.1.trans d.1 λb a z=>h.2 b a z,λb a z=>h.2 b a (d.2 b oq z)⟩
theorem KS.at(h:s.get c=some (fG rn k p q r)):KS c s b↔b=c\/blk q b\/blk r b:=by
 constructor
 .rintro(z|⟨_,_,_,_,_,z,w⟩)
  .exact .inl z
  .grind
 .rintro(z|z)
  .exact .inl z
  .exact .inr ⟨_,_,_,_,_,h,z⟩
theorem fS.mk'(h1:Has s c (fG rn k p q r))(h2:Has s' c (fG rn k' p' q' r'))(U:aO (KS c s) s s')(d:q'=q\/∀b,blk q' b->s.nx<=b)(e:r'=r\/∀b,blk r' b->s.nx<=b):fS c s s':=by
 refine⟨U,λb a z=>(KS.at h1.2).2 ?_⟩;rcases(KS.at h2.2).1 z with z|z|z
 .exact .inl z
 .grind
 .grind
def bR(h:blk aD b):False:=by have⟨_,_,_,_,h⟩:=h;cases h
def cH(h:blk (.slice (sq d) n m) b):b=d:=by have⟨_,_,_,_,h⟩:=h;cases h;rfl
def dj(d n m:Nat):blk (.slice (sq d) n m) d:=⟨0,none,n,m,rfl⟩
def Dk.blk(h:Dk s q tx)(c:YtgcaionclkbehaaGreatDoor.blk q b):∃e a,Has s b (.cells e 5 a):=by
 rcases h with ⟨rfl,_⟩|⟨d,a,rfl,h⟩
 .exact(bR c).elim
 .rw[cH c];exact⟨_,_,h⟩
def rQ.blk(h:rQ s r ts)(c:YtgcaionclkbehaaGreatDoor.blk r b):∃e a,Has s b (.cells e 60 a):=by
 rcases h with ⟨rfl,_⟩|⟨d,a,rfl,h⟩
 .exact(bR c).elim
 .rw[cH c];exact⟨_,_,h⟩
def SC.no(h:SC rn c s k tx ts)(a:Has s b (.cells cs t fz))(h1:t≠121)(e:t≠5)(f:t≠60):¬KS c s b:=by
 have⟨p,q,r,d,j,g,i⟩:=h;intro z;rcases(KS.at d.2).1 z with z|z|z
 .exact a.ne d h1 z
 .have⟨_,_,z⟩:=g.blk z;exact a.ne z e rfl
 .have⟨_,_,z⟩:=i.blk z;exact a.ne z f rfl
def Dk.add(h:Dk s q tx)(x:Obj):Dk (s.add x) q tx:=h.imp id λ⟨d,a,h1,h3⟩=>⟨d,a,h1,h3.add x⟩
def rQ.add(h:rQ s r ts)(x:Obj):rQ (s.add x) r ts:=h.imp id λ⟨d,a,h1,h3⟩=>⟨d,a,h1,h3.add x⟩
def SC.add(h:SC rn c s k tx ts)(x:Obj):SC rn c (s.add x) k tx ts:=by have⟨p,q,r,h1,h2,h3,a⟩:=h;exact⟨p,q,r,h1.add x,h2,h3.add x,a.add x⟩
def fS.add(h:SC rn c s k tx ts)(x:Obj):fS c s (s.add x):=by have⟨p,q,r,h1,_⟩:=h;exact fS.mk' h1 (h1.add x) ((aO.refl s).add x) (.inl rfl) (.inl rfl)
def Dk.set(h:Dk s q tx)(a:Has s b (.cells cs t fz))(c:t≠5)(x:Option Obj):Dk (s.set b x) q tx:=h.imp id λ⟨d,f,h1,h3⟩=>⟨d,f,h1,h3.set (h3.ne a (Ne.symm c)) x⟩
def rQ.set(h:rQ s r ts)(a:Has s b (.cells cs t fz))(c:t≠60)(x:Option Obj):rQ (s.set b x) r ts:=h.imp id λ⟨d,f,h1,h3⟩=>⟨d,f,h1,h3.set (h3.ne a (Ne.symm c)) x⟩
section
variable (h1:Has s c (fG rn k p q r))
def SC.sp(h2:p=.pointer none\/p=am c 2)(h3:Dk s q tx)(h4:rQ s r ts):SC rn c (sp s c rn p q r k') k' tx ts :=
 ⟨p,q,r,h1.put _,h2,h3.set h1 dq _,h4.set h1 dq _⟩
def fS.sp:fS c s (sp s c rn p q r k'):=fS.mk' h1 (h1.put _) (aO.set (aO.refl s) (λ_=>.inl rfl) _) (.inl rfl) (.inl rfl)
end
variable {x0 x1 x4:Value}
def LL(d:pr 261=none)(a:s.get c=some (.cells #[x0,x1,p,q,x4] 121))(e:p=.pointer none\/p=am c 2):Ef pr 261 #[am c 2] s (.tuple #[]) (s.set c (some (.cells #[x0,x1,am c 2,q,x4] 121))):=by
 refine EF.of d func261 rfl (zr (zg 3 s (zp (yl c 2 p a) ?_)));rcases e with rfl|rfl
 .exact zf (zH (zx (zg 2 s (zp (xH rfl kq (Pu (off:=2) (b:=c) (k:=1) kq underlying117 underlying244 a kq iq)) (EO.q kq kq (zo s (zp (xH rfl kq (Pv (off:=2) (b:=c) (k:=1) kq underlying244 underlying117 a kq kq)) (zg 2 s (zp (ys c 2 (am c 2) a iq) (EO.nil ⟨.inl rfl,kq,kq⟩))))))))))
 .exact zf (zG (zr (zg 3 s (zp (yl c 2 (am c 2) a) (zg 1 s (zp (JI (off:=2) (b:=c) (k:=1) rfl kq kq underlying117 kq) (EO.nil (zF ⟨.inl rfl,kq,(AS.AQ a).symm⟩))))))))
theorem Bl{m:Bq}(u:pr 261=none)(t:pr 156=none)(h:SC rn c s k tx ts)(K:tx.length+m.length<=1000000):∃v f,Ef pr 156 #[am c 2,str m] s v f/\SC rn c f k (tx++m) ts/\fS c s f:=by
 have⟨p,q,r,h1,h2,h3,H⟩:=h;have I:=LL u h1.2 h2;have e:Has (s.set c (some (fG rn k (am c 2) q r))) c (fG rn k (am c 2) q r):=h1.put _;have o:Dk (s.set c (some (fG rn k (am c 2) q r))) q tx:=h3.set h1 dq _;have i:rQ (s.set c (some (fG rn k (am c 2) q r))) r ts:=H.set h1 dq _;have y:fS c s (s.set c (some (fG rn k (am c 2) q r))):=fS.mk' h1 e (aO.set (aO.refl s) (λ_=>.inl rfl) _) (.inl rfl) (.inl rfl);generalize s.set c (some (fG rn k (am c 2) q r))=a at *;have n:∃w U,bK prog 5 q (strCells ⟨m.toArray⟩) m.length a=some (w,U)/\w.cells=#[w]/\w.oneCell'=true/\iU q=true/\Has U c (fG rn k (am c 2) q r)/\Dk U w (tx++m)/\rQ U r ts/\aO (KS c a) a U/\(w=q\/∀b,blk w b->a.nx<=b):=by
  cases m with
  | nil =>
   rcases o with ⟨rfl,rfl⟩|⟨d,fz,rfl,q3⟩
   .exact⟨_,a,vB (.inl rfl),rfl,rfl,rfl,e,.inl ⟨rfl,rfl⟩,i,aO.refl a,.inl rfl⟩
   .exact⟨_,a,vB (.inr ⟨d,_,_,rfl⟩),rfl,rfl,rfl,e,.inr ⟨d,fz,by rw[List.append_nil],by rw[List.append_nil];exact q3⟩,i,aO.refl a,.inl rfl⟩
  | cons x m =>
   rcases o with ⟨rfl,rfl⟩|⟨d,fz,rfl,q3⟩
   .exact⟨_,_,ia iq,rfl,rfl,rfl,e.add _,.inr ⟨a.nx,(1,1),rfl,Has.new a _⟩,i.add _,(aO.refl a).add _,.inr λb z=>Nat.le_of_eq (cH z).symm⟩
   .have J:(od tx).size=tx.length:=by simp[strCells]
    refine⟨_,_,gH (sz:=1) iq q3.2 kq gq oq,rfl,rfl,rfl,(e.set (e.ne q3 dq) none).add _,.inr ⟨a.nx,(1,1),by rw[lA],?_⟩,(i.set q3 dq none).add _,(aO.set (aO.refl a) (λ_=>(KS.at e.2).2 (.inr (.inl (dj _ _ _)))) none).add _,.inr λb z=>Nat.le_of_eq (cH z).symm⟩;have:List.take (tx.length*1) (od tx).toList=strCells ⟨tx.toArray⟩:=gq
    rw[this,mw];exact Has.new (a.set d none) _
 have⟨w,U,e1,A,B,C,g,D,E,F,G⟩:=n;have j:fS c a (U.set c (some (fG rn k (am c 2) w r))):=fS.mk' e (g.put _) (aO.set F (λ_=>.inl rfl) _) G (.inl rfl);suffices h:∃f,Ef pr 156 #[am c 2,str m] s (.tuple #[num m.length,.nilIface]) f/\SC rn c f k (tx++m) ts/\fS c s f by grind
 exact EF.iy t func156 rfl (zs (zr (zc 1 I (EO.nil (zr (zg 4 a (zp (yl c 3 q e.2) (zg 1 a (zp (xG (sl:=q) (m:=m) rfl kq kq underlying55 underlying9 kq kq oq C e1) (zg 2 U (zp (gA (b:=c) (off:=3) rfl kq kq A B kq g.2 iq) (EO.nil (zr (zk 1 (zp (cY (l:=m) rfl underlying9 kq) (zf (EW.ret ⟨.inr rfl,kq,⟨am c 2,w,r,g.put _,.inr rfl,D.set g dq _,E.set g dq _⟩,y.trans j⟩)))))))))))))))))
def GQ(b:pr 84=none)(e:s.get c=some (.cells #[x0,x1,p,.slice (sq d) l.length l.length,x4] 121))(g:s.get d=some (.cells (od l) 5 fz))(f:l≠[])(i:l.length<=1000000):Ef pr 84 #[am c 2] s (str l) (s.set d none):=by
 obtain⟨y,l,rfl⟩:∃y h,l=y::h:=by
  cases l with
  | nil=>exact absurd rfl f
  | cons y l=>exact⟨y,l,rfl⟩
 refine EF.of b func84 rfl ?_;refine zs (EW.seq (EW.draw kq kq kq ?_));iterate 3 refine zq ?_
 refine zt s (zu (yl c 3 (.slice (sq d) (y::l).length (y::l).length) e) ?_);iterate 4 refine zq ?_
 refine zt s (zu (yl c 3 (.slice (sq d) (y::l).length (y::l).length) e) (zq (zt s (zu (CN rfl kq kq kq g kq iq oq) (zq ?_)))));have a:aB prog 55 (am c 3) s=some (.slice (sq d) (y::l).length (y::l).length):=by unfold aB;simp only[am,e,underlying55];rfl
 refine ET.nil ⟨aI [(aB prog 55 (am c 3) s,.slice (sq d) (y::l).length (y::l).length),(aB prog 55 (am c 3) s,.slice (sq d) (y::l).length (y::l).length)] kq (iD ⟨a,rfl⟩ ⟨a,rfl⟩),_,_,_,_,_,_,rfl,rfl,?_⟩;exact yR
def QG(a:pr 158=none){ad:Option Addr}(b:s.get c=some (.cells #[x0,x1,p,.slice ad n m,x4] 121)):Ef pr 158 #[am c 2] s (num (n:Nat)) s:=by refine EF.of a func158 rfl ?_;exact zs (zr (zg 3 s (zp (yl c 3 (.slice ad n m) b) (zf yR))))
end
structure bY where
 kind:Int
 parent:Int
 name:Bq
 text:Bq
 aM:Value
def bY.cells(x:bY):Vq:=[num x.kind,num x.parent,str x.name,str x.text,x.aM]
abbrev aY(l:List bY):Aq:=(l.flatMap bY.cells).toArray
def dt{l:List bY}{x:bY}(h:l[i]?=some x)(j:Nat)(b:j<5):(aY l)[i*5+j]?=x.cells[j]?:=by
 rw[IE];induction l generalizing i with
 | nil=>simp at h
 | cons y l a =>
  cases i with
  | zero =>simp only[K5,sK] at h;subst h;rw[List.flatMap_cons,vA (by simp[bY.cells];omega),Nat.zero_mul,Nat.zero_add]
  | succ i =>rw[List.getElem?_cons_succ] at h;rw[List.flatMap_cons,Bp (by simp[bY.cells];omega),show(i+1)*5+j-(bY.cells y).length=i*5+j by simp[bY.cells];omega];exact a h
theorem Cq{a b c:Option Value × Value}(U:a.1=some a.2/\bB 20 a.2=true)(d:b.1=some b.2/\bB 20 b.2=true)(e:c.1=some c.2/\bB 20 c.2=true):∀x∈[a,b,c],x.1=some x.2/\bB 20 x.2=true:=gq
def bE{d:TypeDesc}{s:AS}(e:P.underlying t=some d)(a:d.isRow=false)(c:s.get b=some (.cells cs ty fz))(f:cs[off]?=some v):aB P t (am b off) s=some v:=by unfold aB;simp only[am,c,e,a];exact f
theorem fx{s:AS}{ws:Vq}(U:o.op=.store t x y)(f:a.at x=am b off)(g:a.at y=w)(d:w.cells=ws.toArray)(j:ws.all Value.oneCell'=true)(h:bP P t=some ws.length)(e:s.get b=some (.cells cs ty fz))(i:off+ws.length<=cs.size):bN P kt c a o s=some (undef,s.set b (some (.cells (putAt cs off ws) ty fz))):=by unfold bN;rw[iw (by rw[U];simp[eF]),U];simp only;unfold jr;rw[f,g];simp only[am,e,d];grind
abbrev ft(l:List (Bq × Bq)):Aq:=(l.flatMap λp=>[str p.1,str p.2]).toArray
def bS (s:AS)(v:Value)(l:List (Bq × Bq)):Prop:=(v=.slice none 0 0/\l=[])\/∃ab c fz,v=.slice (some ⟨ab,0,none⟩) l.length c/\ab<s.nx/\s.get ab=some (.cells (ft l) 47 fz)
theorem sT{l:List (Bq × Bq)}{p:Bq × Bq}(h:l[i]?=some p):i*2+2<=(ft l).size/\(((ft l).toList.drop (i*2)).take 2).toArray=#[str p.1,str p.2]:=by
 induction l generalizing i with
 | nil=>simp at h
 | cons q l U =>
  cases i with
  | zero =>grind
  | succ i =>grind
theorem gl{s s':AS}{news:Vq}{bytes:Nat}(U:o.op=.call { callee:=.builtin .append,args:=#[x,y],argTypes:=#[t,t] })(f:a.at x=sl)(g:a.at y=.slice (sq d) m k)(C:P.underlying t=some (.slice e))(hi:(P.info? e).map (λi=>(i.zero,i.size,i.bytes))=some (some z,sz,bytes))(D:z.cells.size=sz)(n:0<sz)(p:bytes<=1000)(l:kt e=false)(r:s.get d=some (.cells cs e fz))(j:dR sl (sq d)=true)(w:m<=1000000000)(u:m*sz<=cs.size)(A:cs.toList.take (m*sz)=news)(B:news.all Value.oneCell'=true)(h:bK P e sl news m s=some (v,s')):bN P kt c a o s=some (v,s'):=by
 have b:cj P a o=none:=by unfold cj;rw[U]
 have q:ep s sz (sq d) m=some news:=by unfold ep;grind
 unfold bN;rw[iw (by rw[U];simp[eF])];rw[U];simp only;rw[b];simp only[rp,List.map_nil];rw[f,g];unfold eN;grind
abbrev Vy:Value:=.agg #[num 0,str [],str [],aD,.bool false]
def E3(t:gp)(h:t.at_.oneCell'=true):(dU t).all Value.oneCell'=true:=by show((num t.kind).oneCell'&&((str t.text).oneCell'&&((str t.name).oneCell'&&(t.at_.oneCell'&&((Value.bool t.closed).oneCell'&&true)))))=true;rw[h];rfl
def gv(h:∀b,blk v b->b<n):dR v (sq n)=true:=by
 unfold dR;split
 .next b a f m d g c e =>
  cases e
  have:=h b ⟨a,none,_,_,rfl⟩;cases hq:Nat.beq b n with
  | false=>rfl
  | true=>exact absurd (gh hq) oq
 .rfl
section
variable {c k:Nat}{s:AS}
section
variable (h:rQ s r ts)
def rQ.lt:∀b,YtgcaionclkbehaaGreatDoor.blk r b->b<s.nx:=λb a=>by have⟨_,_,z⟩:=rQ.blk h a;exact z.1
def rQ.og:bB 20 r=true:=by rcases h with ⟨rfl,_⟩|⟨d',S8,rfl,_⟩<;>rfl
def OM{x:Obj}(h1:Has s c x)(f:¬blk r c)(i:ts.length<=1000000)(t:gp):∃w a,bK prog 60 r (dU t) 1 s=some (w,a)/\w.cells=#[w]/\w.oneCell'=true/\rQ a w (ts++[t])/\Has a c x/\aO (λb=>blk r b) s a/\∀b,blk w b->s.nx<=b:=by
 rcases h with ⟨rfl,rfl⟩|⟨d,fz,rfl,q3⟩
 .exact⟨_,_,ia dq,rfl,rfl,.inr ⟨s.nx,(1,1),rfl,Has.new s _⟩,h1.add _,(aO.refl s).add _,λb z=>Nat.le_of_eq (cH z).symm⟩
 .have g:=rK ts;refine⟨_,_,gH (sz:=5) dq q3.2 kq oq oq,rfl,rfl,?_,(h1.set (λe=>f (e▸dj _ _ _)) none).add _,(aO.set (aO.refl s) (λ_=>dj _ _ _) none).add _,λb z=>Nat.le_of_eq (cH z).symm⟩;rw[GR];exact .inr ⟨s.nx,(1,1),by rw[lA];rfl,Has.new (s.set d none) _⟩
end
def sx (tx:Bq)(a:List gp):List gp:=if tx=[] then a else a++[⟨1,tx,[],aD,false⟩]
def SC.rc{p q:Value}(h1:Has s c (fG rn k p q r))(a:rQ s r ts):¬blk r c:=λz=>by have⟨_,_,w⟩:=a.blk z;exact h1.ne w dq rfl
section
variable (dD:∀f,f∈v5->pr f=none)
def vM(h:SC rn c s k tx ts)(hx:tx.length<=1000000)(Y:ts.length<=1000000):∃G,Ef pr 73 #[am c 0] s (.tuple #[]) G/\SC rn c G k [] (sx tx ts)/\fS c s G:=by
 have F:=h;have⟨p,q,r,h1,h2,h3,D⟩:=h;obtain⟨L,M,Z⟩:∃L M,q=.slice L tx.length M:=by
  rcases h3 with ⟨rfl,rfl⟩|⟨d,fz,rfl,_⟩
  .exact⟨none,0,rfl⟩
  .exact⟨_,_,rfl⟩
 have t:Ef pr 158 #[am c 2] s (num (tx.length:Nat)) s:=by have o:=h1;rw[Z] at o;exact QG (dD 158 dq) o.2
 refine EF.iy (dD 73 dq) func73 rfl (zr (zc 3 t ?_));by_cases y:tx=[]
 .subst y;exact zp (yb (num (([]:Bq).length:Nat)) (num 0) (dQ (b:=false) dq)) (EO.nil (za s (zF ⟨.inl rfl,kq,F,fS.refl s⟩)))
 .have T:0<tx.length:=Eg.2 y;rcases h3 with ⟨_,z⟩|⟨d,fz,Yy,q3⟩
  .exact absurd z y
  rw[Yy] at h1;have v:=GQ (dD 84 dq) h1.2 q3.2 y hx;have E:aB prog 56 (am c 4) s=some r:=bE underlying56 rfl h1.2 (off:=4) rfl;have e1:Has (s.set d none) c (fG rn k p (.slice (sq d) tx.length tx.length) r):=h1.set (h1.ne q3 dq) none;have e:aB prog 56 (am c 4) (s.set d none)=some r:=bE underlying56 rfl e1.2 (off:=4) rfl;have x:=D.og;have Q:aO (KS c s) s (s.set d none):=aO.set (aO.refl s) (λ_=>(KS.at h1.2).2 (.inr (.inl (dj _ _ _)))) none;have B:rQ (s.set d none) r ts:=D.set q3 dq none;have a:=gv B.lt;have N:=B.add (.cells (dU ⟨1,tx,[],aD,false⟩).toArray 60);have O:=Has.new (s.set d none) (.cells (dU ⟨1,tx,[],aD,false⟩).toArray 60);have P:=e1.add (.cells (dU ⟨1,tx,[],aD,false⟩).toArray 60);have R:=Q.add (.cells (dU ⟨1,tx,[],aD,false⟩).toArray 60);have⟨w,A,I,U,V,W,C,J,K⟩:=OM N P (SC.rc h1 D) Y ⟨1,tx,[],aD,false⟩;have X:aO (KS c s) s A:=R.trans J λb _ z=>(KS.at h1.2).2 (.inr (.inr z));have hw:∀b,blk w b->s.nx<=b:=λb z=>by have:=K b z;simp at this;omega
  generalize s.set d none=H at e1 e B a N O P I J K v Q R;refine zp (yb (num (tx.length:Nat)) (num 0) (dQ (b:=true) (tD oq))) (EO.nil (zH (za s (EW.seq (EW.draw kq kq kq ?_)))));iterate 4 refine zq ?_
  refine zt s (zu (yl c 4 r h1.2) ?_);iterate 3 refine zq ?_
  refine zt s (yt v ?_);iterate 2 refine zq ?_
  refine zt (H.add (.cells (dU ⟨1,tx,[],aD,false⟩).toArray 60)) (zu (gl (sl:=r) (news:=dU ⟨1,tx,[],aD,false⟩) (d:=H.nx) (m:=1) (k:=1) (sz:=5) (z:=Vy) (bytes:=72) rfl kq kq underlying56 kq rfl dq dq kq O.2 a dq iq iq (E3 _ rfl) I) ?_);iterate 2 refine zq ?_
  refine zt A (zu (gA (b:=c) (off:=4) rfl kq kq U V kq C.2 iq) (ET.nil ⟨aI [(aB prog 56 (am c 4) s,r),(aB prog 56 (am c 4) H,r)] kq (iD ⟨E,x⟩ ⟨e,x⟩),_,_,_,_,_,_,rfl,rfl,?_⟩));have n:=C.put (fG rn k p (.slice (sq d) tx.length tx.length) w);have g:=W.set C dq (some (fG rn k p (.slice (sq d) tx.length tx.length) w));have S:aO (KS c s) s (A.set c (some (fG rn k p (.slice (sq d) tx.length tx.length) w))):=aO.set X (λ_=>.inl rfl) _;refine za (A.set c (some (fG rn k p (.slice (sq d) tx.length tx.length) w))) ?_;generalize A.set c (some (fG rn k p (.slice (sq d) tx.length tx.length) w))=f at n g S |-;have u:Ef pr 159 #[am c 2] f (.tuple #[]) (f.set c (some (fG rn k (.pointer none) aD w))):=by refine EF.of (dD 159 dq) func159 rfl ?_;refine zr (zg 3 f (zp (ys c 2 (.pointer none) n.2 iq) (EO.nil ?_)));have i:=n.put (fG rn k (.pointer none) (.slice (sq d) tx.length tx.length) w);have j:=AS.set_set f c (some (fG rn k (.pointer none) (.slice (sq d) tx.length tx.length) w)) (some (fG rn k (.pointer none) aD w));refine za (f.set c (some (fG rn k (.pointer none) (.slice (sq d) tx.length tx.length) w))) ?_;generalize f.set c (some (fG rn k (.pointer none) (.slice (sq d) tx.length tx.length) w))=s5 at i j |-;refine zx (zg 3 s5 (zp (ys c 3 aD i.2 iq) ?_));exact EO.nil ⟨.inl rfl,kq,by rw[<-j];kernel_rfl⟩
  have l:Has (f.set c (some (fG rn k (.pointer none) aD w))) c (fG rn k (.pointer none) aD w):=n.put _;refine zx (zc 3 u (EO.nil ⟨.inl rfl,kq,⟨.pointer none,aD,w,l,.inl rfl,.inl ⟨rfl,rfl⟩,?_⟩,fS.mk' h1 l (aO.set S (λ_=>.inl rfl) _) (.inr λb z=>(bR z).elim) (.inr hw)⟩));unfold sx;rw[iw y];exact g.set n dq _
def Iu(tx:Bq)(a:List gp):(sx tx a).length<=a.length+1:=by unfold sx;split<;>simp
def N8(h:SC rn c s k tx ts)(V:tx.length<=1000000)(Z:ts.length<=900000)(t:gp)(x:t.at_.oneCell'=true)(y:bB 19 t.at_=true):∃B,Ef pr 249 #[am c 0,.agg (dU t).toArray] s (.tuple #[]) B/\SC rn c B k [] (sx tx ts++[t])/\fS c s B:=by
 have o:=fS.add h (.cells (dU t).toArray 60);have⟨a,S,v,g⟩:=vM dD (h.add (.cells (dU t).toArray 60)) V oq;have T:=Iu tx ts;have f:Has a s.nx (.cells (dU t).toArray 60):=by
  refine(Has.new s _).fr g.1 λz=>?_;have⟨p,q,r,E,q2,W,X⟩:=h;have Y:=E.1;rcases(KS.at (E.add (.cells (dU t).toArray 60)).2).1 z with z|z|z
  .omega
  .have⟨_,_,z⟩:=W.blk z;have:=z.1;omega
  .have⟨_,_,z⟩:=X.blk z;have:=z.1;omega
 have⟨p,q,r,h1,h2,h3,e⟩:=v;have u:aB prog 56 (am c 4) a=some r:=bE (P:=prog) (t:=56) underlying56 rfl h1.2 (off:=4) rfl;have i:aB prog 60 (am s.nx 0) a=some (.agg (dU t).toArray):=by unfold aB;simp only[am,f.2,underlying60];kernel_rfl
 have A:bB 20 (.agg (dU t).toArray)=true:=by show((bB 19 (num t.kind))&&((bB 19 (str t.text))&&((bB 19 (str t.name))&&(bB 19 t.at_&&(bB 19 (.bool t.closed)&&true)))))=true;rw[y];rfl
 have L:=e.add (.cells (dU t).toArray 60);have M:=Has.new a (.cells (dU t).toArray 60);have N:=h1.add (.cells (dU t).toArray 60);have O:=(aO.refl (K:=KS c a) a).add (.cells (dU t).toArray 60);have⟨w,j,F,G,H,I,l,C,J⟩:=OM L N (SC.rc h1 e) oq t;have Q:aO (KS c a) a j:=O.trans C λb _ z=>(KS.at h1.2).2 (.inr (.inr z));have U:∀b,blk w b->a.nx<=b:=λb z=>by have:=J b z;simp at this;omega
 have D:Has (j.set c (some (fG rn k p q w))) c (fG rn k p q w):=l.put _;have R:fS c a (j.set c (some (fG rn k p q w))):=fS.mk' h1 D (aO.set Q (λ_=>.inl rfl) _) (.inl rfl) (.inr U);have n:Dk j q []:=by
  rcases h3 with z|⟨d,fz,z1,z2⟩
  .exact .inl z
  .refine .inr ⟨d,fz,z1,(z2.add _).fr C λz=>?_⟩;have⟨_,_,z⟩:=e.blk z;exact z2.ne z dq rfl
 refine EF.iy (dD 249 dq) func249 rfl ?_;refine zs (za (s.add (.cells (dU t).toArray 60)) (zr (zc 1 S (EO.nil (za a ?_)))));refine EW.draw kq kq kq ?_;iterate 4 refine zq ?_
 refine zt a (zu (yl c 4 r h1.2) (zu (yA s.nx 0 5 ((dU t).toArray) f.2 iq) (zq (zt (a.add (.cells (dU t).toArray 60)) (zu (gl (sl:=r) (news:=dU t) (d:=a.nx) (m:=1) (k:=1) (sz:=5) (z:=Vy) (bytes:=72) rfl kq kq underlying56 kq rfl dq dq kq M.2 (gv e.lt) dq iq iq (E3 _ x) F) ?_)))));iterate 2 refine zq ?_
 refine zt j (zu (gA (b:=c) (off:=4) (w:=w) rfl kq kq G H kq l.2 iq) (ET.nil ⟨aI [(aB prog 56 (am c 4) a,r),(aB prog 60 (am s.nx 0) a,.agg (dU t).toArray)] kq (iD ⟨u,e.og⟩ ⟨i,A⟩),_,_,_,_,_,_,rfl,rfl,?_⟩));exact⟨.inl rfl,kq,⟨p,q,w,D,h2,n.set l dq _,I.set l dq _⟩,(o.trans g).trans R⟩
end
end
end Go.Proofs.YtgcaionclkbehaaGreatDoor
