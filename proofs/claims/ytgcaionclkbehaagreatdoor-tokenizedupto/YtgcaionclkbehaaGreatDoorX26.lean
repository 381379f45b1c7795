import Derived.Test.YtgcaionclkbehaaGreatDoorX14
set_option linter.all false
set_option maxHeartbeats 8000000
set_option maxRecDepth 100000
namespace Go.Proofs.YtgcaionclkbehaaGreatDoor
open Go.Conc Go.RowKit Go.Lib Tryz
variable [Inhabited KC]
def dO (n:Nat):Nat × Nat × Nat :=
 if 194<=n/\n<=223 then (1,128,191) else if n=224 then (2,160,191) else if n=237 then (2,128,159) else if 225<=n/\n<=239 then (2,128,191) else if n=240 then (3,144,191) else if 241<=n/\n<=243 then (3,128,191) else if n=244 then (3,128,143) else (0,0,0)
section
variable {pr:Prim}{s:AS}
def Ie(h:pr 181=none)(c:UInt8):Ef pr 181 #[.int .u8 (c.toNat:Int)] s (.tuple #[num ((dO c.toNat).1:Nat),num ((dO c.toNat).2.1:Nat),num ((dO c.toNat).2.2:Nat)]) s:=by
 have k:BB (λn=>Ef pr 181 #[.int .u8 (n:Int)] s (.tuple #[num ((dO n).1:Nat),num ((dO n).2.1:Nat),num ((dO n).2.2:Nat)]) s) 256:=by
  iterate 256 refine⟨?_,fH 30<|by unfold bW;rw[h];kernel_rfl⟩
  trivial
 exact lj k c.toNat_lt
end
def iQ:Nat->Nat->Nat->Bq->Nat
 | 0,_,_,_=>0
 | _+1,_,_,[]=>0
 | n+1,lo,hi,c::l=>if c.toNat<lo\/hi<c.toNat then 0 else iQ n 128 191 l+1
def FY:∀(n lo a:Nat) (l:Bq),iQ n lo a l<=n
 | 0,_,_,_=>l8 _
 | _+1,_,_,[]=>Nat.zero_le _
 | n+1,lo,a,c::l=>by
  unfold iQ;split
  .omega
  .have:=FY n 128 191 l;omega
def qu (b:UInt8)(l:Bq):Nat × Bool :=
 if b.toNat<128 then (1,true) else (1+iQ (dO b.toNat).1 (dO b.toNat).2.1 (dO b.toNat).2.2 l,decide (0<(dO b.toNat).1)&&(iQ (dO b.toNat).1 (dO b.toNat).2.1 (dO b.toNat).2.2 l==(dO b.toNat).1))
def Uq (t:Bq)(p n lo hi q:Nat)(x:Nq):TL:=[str t,num p,x 2,x 3,num 0,.bool false,num n,num lo,num hi,num q]++fW x 10 51
section
variable {pr:Prim}{s:AS}{t:Bq}{p:Nat}{b:UInt8}
def Gg(n:Nat):(dO n).1<=3/\(dO n).2.1<=191/\(dO n).2.2<=191:=by
 unfold dO;repeat' split
 all_goals decide
def Cl(h:pr 93=none)(z:pr 181=none)(ht:t.length<=1000000)(M:t[p]?=some b):Ef pr 93 #[str t,num p] s (.tuple #[num ((qu b<|t.drop<|p+1).1:Nat),.bool (qu b<|t.drop<|p+1).2]) s:=by
 have⟨Y,_⟩:=gS.1 M;have A:t[(p:Int).toNat]?=some b:=by rw[Iu];exact M
 unfold qu;refine aQ h func93 rfl<|zs<|EW.seq<|zr<|zk 2<|zp (gp (k:=.i64) (l:=t) (n:=(p:Int)) (b:=b) rfl underlying9 kq kq oq A) ?_;by_cases m:b.toNat<128
 .rw[ip m];exact zp (aI (u:=.int .u8 (b.toNat:Int)) (w:=.int .u8 128) rfl kq kq<|eh (b:=true)<|tD oq)<|EO.nil<|bU kq<|zs<|EW.ret ⟨.inr rfl,kq,kq⟩
 .rw[iw m];refine zp (aI (u:=.int .u8 (b.toNat:Int)) (w:=.int .u8 128) rfl kq kq<|eh (b:=false)<|fD oq)<|EO.nil<|aJ kq<|EW.skip ?_;have N:=Ie (s:=s) z b;have⟨R,J,K⟩:=Gg b.toNat;generalize dO b.toNat=F at *;have⟨n,d,a⟩:=F;simp only at R J K N |-;refine zr<|zk 2<|zp (gp (k:=.i64) (l:=t) (n:=(p:Int)) (b:=b) rfl underlying9 kq kq oq A)<|zc 0 N<|zf<|za s<|zs<|EW.fill (Uq t p n d a 0) kq ?_;intro x0;generalize L:iQ n d a (t.drop<|p+1)=H;have T:H<=n:=L▸FY n d a _;refine EW.seq<|EW.block<|EW.mono (aZ (Q:=λe y I=>e=.exit 0/\I=s/\∃d a x,y=Uq t p n d a H x) (λu y I=>I=s/\∃q d a,d<=191/\a<=191/\u+q=n/\iQ u d a (t.drop<|p+1+q)+q=H/\∃x,y=Uq t p n d a q x) ?_ n _ _ ⟨kq,0,d,a,J,K,rfl,L,x0,rfl⟩) ?_
  .rintro u y S ⟨rfl,q,d,a,X,V,huq,f,x,rfl⟩;refine EW.seq<|zr<|zk 2 ?_;by_cases Z:q<n
   .refine zp (aI (u:=num (q:Int)) (w:=num (n:Int)) rfl kq kq<|cj (b:=true)<|tD oq)<|zk 2<|zp (dV (i:=(p:Int)) (j:=1) (r:=((p+1:Nat):Int)) rfl kq kq oq oq)<|zk 1<|zp (dV (i:=((p+1:Nat):Int)) (j:=(q:Int)) (r:=((p+1+q:Nat):Int)) rfl kq kq oq oq)<|zk 1<|zp (di (l:=t) rfl underlying9 kq) ?_;by_cases P:p+1+q<t.length
    .refine zp (aI (u:=num ((p+1+q:Nat):Int)) (w:=num (t.length:Int)) rfl kq kq<|cj (b:=true)<|tD oq)<|zf<|za S<|bU kq<|EW.skip ?_;have B:t[p+1+q]?=some t[p+1+q]:=gE P;rw[List.drop_eq_getElem_cons P] at f;generalize t[p+1+q]=c at B f;have C:t[((p+1+q:Nat):Int).toNat]?=some c:=by rw[Iu];exact B
     have E:=c.toNat_lt;obtain⟨u,rfl⟩:∃v,u=v+1:=⟨u-1,oq⟩;unfold iQ at f;refine EW.block<|zr<|zk 2<|zp (dV (i:=(p:Int)) (j:=1) (r:=((p+1:Nat):Int)) rfl kq kq oq oq)<|zk 1<|zp (dV (i:=((p+1:Nat):Int)) (j:=(q:Int)) (r:=((p+1+q:Nat):Int)) rfl kq kq oq oq)<|zp (gp (k:=.i64) (l:=t) (n:=((p+1+q:Nat):Int)) (b:=c) rfl underlying9 kq kq oq C)<|zo S<|zp (v:=num (c.toNat:Int)) (s1:=S) ((show _=some (num<|fv .i64 (c.toNat:Int),S) from kq).trans (by rw[show fv .i64 (c.toNat:Int)=(c.toNat:Int) by unfold fv;simp only;first|(rw[ip oq])|(split<;>omega)]))<|zf<|za S<|EW.seq<|zr<|zk 2 ?_;by_cases W:c.toNat<d
     .rw[ip (.inl W)] at f;refine zp (aI (u:=num (c.toNat:Int)) (w:=num (d:Int)) rfl kq kq<|cj (b:=true)<|tD oq)<|zf<|bU kq<|EW.exit ?_;have o:q=H:=oq
      subst o;exact⟨rfl,kq,d,a,aP kq⟩
     .refine zp (aI (u:=num (c.toNat:Int)) (w:=num (d:Int)) rfl kq kq<|cj (b:=false)<|fD oq)<|zk 3 ?_;by_cases U:a<c.toNat
      .rw[ip (.inr U)] at f;refine zp (aI (u:=num (c.toNat:Int)) (w:=num (a:Int)) rfl kq kq<|db (b:=true)<|tD oq)<|zf<|bU kq<|EW.exit ?_;have o:q=H:=oq
       subst o;exact⟨rfl,kq,d,a,aP kq⟩
      .rw[iw oq] at f;exact zp (aI (u:=num (c.toNat:Int)) (w:=num (a:Int)) rfl kq kq<|db (b:=false)<|fD oq)<|zf<|aJ kq<|EW.skip<|zs<|zs<|zx<|zk 1<|zp (dV (i:=(q:Int)) (j:=1) (r:=((q+1:Nat):Int)) rfl kq kq oq oq)<|zf ⟨u,oq,kq,q+1,128,191,oq,oq,oq,by rw[show p+1+(q+1)=p+1+q+1 by omega];omega,aP kq⟩
    .have D:t.drop (p+1+q)=[]:=List.drop_eq_nil_of_le oq;obtain⟨u,rfl⟩:∃v,u=v+1:=⟨u-1,oq⟩;rw[D] at f;have o:q=H:=by simp only[iQ] at f;omega
     refine zp (aI (u:=num ((p+1+q:Nat):Int)) (w:=num (t.length:Int)) rfl kq kq<|cj (b:=false)<|fD oq)<|zf<|aJ kq<|EW.exit ?_;subst o;exact⟨rfl,kq,d,a,aP kq⟩
   .have G:u=0:=oq
    subst G;have o:q=H:=by simp only[iQ] at f;omega
    refine zp (aI (u:=num (q:Int)) (w:=num (n:Int)) rfl kq kq<|cj (b:=false)<|fD oq)<|zf<|aJ kq<|EW.exit ?_;subst o;exact⟨rfl,kq,d,a,aP kq⟩
  .rintro e y S ⟨rfl,rfl,d,a,x,rfl⟩;refine zr<|zk 1<|zp (dV (i:=1) (j:=(H:Int)) (r:=((1+H:Nat):Int)) rfl kq kq oq oq)<|zk 1 ?_;by_cases O:0<n
   .refine zp (aI (u:=num (n:Int)) (w:=num 0) rfl kq kq<|db (b:=true)<|tD oq)<|zk 3 ?_;rw[tD O,Bool.true_and];have D:((H:Int)==(n:Int))=(H==n):=by
     by_cases g:H=n
     .subst g;simp
     .rw[bF.2 g,bF.2 oq]
    refine zp (aI (u:=num (H:Int)) (w:=num (n:Int)) rfl kq kq<|fh D) ?_;generalize (H==n)=r;exact zf<|EW.ret ⟨.inr rfl,kq,kq⟩
   .refine zp (aI (u:=num (n:Int)) (w:=num 0) rfl kq kq<|db (b:=false)<|fD oq) ?_;rw[fD O,Bool.false_and];exact zf<|EW.ret ⟨.inr rfl,kq,kq⟩
end
def BQ:∀(n lo a:Nat) (l:Bq),iQ n lo a l<=l.length
 | 0,_,_,_=>Nat.zero_le _
 | _+1,_,_,[]=>Nat.zero_le _
 | n+1,lo,a,c::l=>by
  unfold iQ;split
  .omega
  .have:=BQ n 128 191 l;simp;omega
def Ak(b:UInt8)(l:Bq):1<=(qu b l).1/\(qu b l).1<=l.length+1:=by
 unfold qu;split
 .exact⟨lr,iq⟩
 .have:=BQ (dO b.toNat).1 (dO b.toNat).2.1 (dO b.toNat).2.2 l;exact⟨by show 1<=1+_;omega,by show 1+_<=_;omega⟩
def Bn:Nat->Bq->Bq
 | 0,_=>[]
 | _+1,[]=>[]
 | n+1,b::l=>bif (qu b l).2 then (b::l).take (qu b l).1++Bn n ((b::l).drop (qu b l).1) else [239,191,189]++Bn n l
def P7(n:Nat):Bn n []=[]:=by cases n<;>rfl
def MM(t o:Bq)(i:Nat)(x:Nq):TL:=[str t,x 1,str [],str o,num i]++fW x 5 29
section
variable {pr:Prim}{s:AS}{t:Bq}
def P8(h:pr 183=none)(k:pr 93=none)(f:pr 181=none)(H:t.length<=1000000):Ef pr 183 #[str t] s (str<|Bn t.length t) s:=by
 refine aQ h func183 O<|zs<|zs<|EW.seq<|zs<|EW.fill (MM t [] 0) kq ?_;intro J;generalize F:Bn t.length t=R;refine EW.block<|EW.mono (aZ (Q:=λe d q=>e=.exit 0/\q=s/\∃i x,d=MM t R i x) (λu d q=>q=s/\∃i o,i<=t.length/\o.length<=3*i/\(t.drop i).length<=u/\o++Bn u (t.drop i)=R/\∃x,d=MM t o i x) ?_ t.length _ _ ⟨kq,0,[],oq,iq,iq,by simpa using F,J,O⟩) ?_
 .rintro u d S ⟨rfl,i,o,K,L,B,c,x,rfl⟩;refine EW.seq<|zr<|zk 2<|zp (di (l:=t) O underlying9 kq) ?_;by_cases A:i<t.length
  .refine zp (aI (u:=num (i:Int)) (w:=num (t.length:Int)) O kq kq<|cj (b:=true)<|tD oq)<|EO.nil<|bU kq<|EW.skip ?_;have y:t[i]?=some t[i]:=gE A;have a:=List.drop_eq_getElem_cons A;generalize t[i]=b at y a;have z:(t.drop<|i+1).length=t.length-(i+1):=List.length_drop;have r:=Cl (s:=S) k f H y;have⟨D,E⟩:=Ak b<|t.drop<|i+1;obtain⟨u,rfl⟩:∃v,u=v+1:=⟨u-1,by rw[a,lC] at B;omega⟩;rw[a,lC] at B;rw[a] at c;unfold Bn at c;rw[<-a] at c;generalize qu b (t.drop<|i+1)=N at *;have⟨n,I⟩:=N;simp only at D E c r;refine EW.block<|zr<|zc 2 r ?_;cases I with
   | true =>
    rw[cond_true,List.drop_drop] at c;refine zf<|za S<|zs<|bU kq ?_;have g:i+n<=t.length:=oq
    have p:(t.take<|i+n).drop i=(t.drop i).take n:=by rw[List.drop_take,Nat.add_sub_cancel_left]
    have G:((t.drop i).take n).length=n:=by rw[List.length_take,List.length_drop];omega
    refine zr<|zk 5<|zp (yp (i:Int) (n:Int) ((i+n:Nat):Int) oq oq)<|zp (iL (l:=t) (i:=i) (j:=i+n) O underlying9 kq ((show _=bM t.length t.length (some<|num (i:Int)) (some<|num ((i+n:Nat):Int)) from kq).trans<|zM oq g) p) ?_;generalize (t.drop i).take n=w at *;exact zp (vj (l:=o) (m:=w) O kq kq oq)<|zf<|za S<|zx<|zk 2<|zp (yp (i:Int) (n:Int) ((i+n:Nat):Int) oq oq)<|zf ⟨u,oq,kq,i+n,o++w,g,by rw[lA];omega,by rw[List.length_drop];omega,by rw[uW];exact c,aP kq⟩
   | false =>rw[cond_false] at c;exact zf<|za S<|zs<|aJ kq<|zr<|zk 1<|zp (vj (l:=o) (m:=[239,191,189]) O kq kq<|by simp;omega)<|zf<|za S<|zx<|zk 1<|zp (yp (i:Int) 1 ((i+1:Nat):Int) oq oq)<|zf ⟨u,oq,kq,i+1,o++[239,191,189],oq,by simp;omega,oq,by rw[uW];exact c,aP kq⟩
  .have C:t.drop i=[]:=List.drop_eq_nil_of_le oq;rw[C,P7,List.append_nil] at c;subst c;exact zp (aI (u:=num (i:Int)) (w:=num (t.length:Int)) O kq kq<|cj (b:=false)<|fD oq)<|EO.nil<|aJ kq<|EW.exit ⟨O,O,i,aP kq⟩
 .rintro e d S ⟨rfl,rfl,i,x,rfl⟩;exact zs<|yR
end
def aO (t:Bq):Iq:=t.map λb=>(b.toNat:Int)
section
variable {t w:Bq}{k:Nat}
def BL:bH (aO t):=by intro r a;obtain⟨b,_,rfl⟩:=List.mem_map.1 a;omega
def bD:(aO t).drop k=aO (t.drop k):=by unfold aO;rw[List.map_drop]
def eT:(aO t).length=t.length:=List.length_map ..
def C9:dl (aO t)=t:=by
 unfold dl aO;rw[List.map_map];conv=>rhs;rw[<-List.map_id t]
 congr 1;funext b;simp
def vW:dG (aO t) k=match t[k]? with|none => -1|some b=>(b.toNat:Int):=by unfold dG aO;rw[List.getElem?_map];cases t[k]?<;>rfl
def UE:Hp t w=λj=>dG (aO t) j == -1||da (dG (aO t) j) w:=by
 funext j;unfold Hp;rw[vW];cases t[j]? with
 | none=>rfl
 | some b =>show JK b w=_;have:((b.toNat:Int) == -1)=false:=bF.2 oq;show _=(((b.toNat:Int) == -1)||da _ w);rw[this,Bool.false_or];rfl
def Fy:uE t w k=k+(dm w<|aO<|t.drop k).1.length:=by unfold uE;rw[UE,vu BL (G:=λl=>da (ei l) w) (λj=>by rw[j9]) _ k<|by rw[eT];omega,bD];rfl
def LK(b:UInt8):((if 65<=b.toNat/\b.toNat<=90 then UInt8.ofNat (b.toNat+32) else b).toNat:Int)=dC (b.toNat:Int):=by
 unfold dC;split
 .rw[if_pos (by omega)];have:(UInt8.ofNat<|b.toNat+32).toNat=b.toNat+32:=by simp; omega
  rw[this];omega
 .rw[if_neg (by omega)]
def AO:∀{w l:Bq},(decide (w.length<=l.length)&&ce (cU<|l.take w.length) w)=dg (aO l) w
 | [],l=>by cases l<;>rfl
 | c::w,[]=>by unfold dg;show(false&&_)=((dC (-1)==_)&&_);rw[bF.2 (by unfold dC;rw[iw oq];omega)];rfl
 | c::w,b::l=>by
  have ih:=AO (w:=w) (l:=l);unfold dg;show _=((dC (b.toNat:Int)==_)&&dg (aO l) w);rw[<-ih,<-LK];have e:cU ((b::l).take (c::w).length)=(if 65<=b.toNat/\b.toNat<=90 then UInt8.ofNat _ else b)::cU _:=O;rw[e];generalize (if 65<=b.toNat/\b.toNat<=90 then UInt8.ofNat _ else b)=y;conv=>lhs;unfold ce
  simp only[lC,Nat.add_le_add_iff_right];cases hq:y.toNat.beq c.toNat with
  | true =>rw[ja hq];simp
  | false =>rw[bF.2 (λe=>Nat.ne_of_beq_eq_false hq oq)];simp
def M8(a:k<=t.length):Vf t w k=dg (aO<|t.drop k) w:=by rw[<-AO];unfold Vf;rw[List.drop_take,Nat.add_sub_cancel_left,List.length_drop];congr 1;exact decide_eq_decide.2 oq
end
section
variable {t:Bq}{k:Nat}{c:UInt8}
def OU:Ic t [c]=Hp t [c]:=by
 funext i;unfold Ic Hp;by_cases h:i<t.length
 .rw[gE h,fD<|by simp;omega,Bool.false_or];have e:(t.take<|i+[c].length).drop i=[t[i]]:=by rw[List.drop_take,show i+[c].length-i=1 by simp,List.drop_eq_getElem_cons h];rfl
  rw[e];show ce [t[i]] [c]=JK t[i] [c];generalize t[i]=b;unfold JK;rw[List.any_cons,List.any_nil,Bool.or_false];unfold ce;cases hq:b.toNat.beq c.toNat with
  | true=>rw[ja hq];simp[ce]
  | false=>rw[bF.2 (λe=>Nat.ne_of_beq_eq_false hq oq)];rfl
 .rw[List.getElem?_eq_none oq,tD<|by simp;omega];rfl
def SH(b:k<=t.length):Bh t [c] k=if (dm [c]<|aO<|t.drop k).2=[] then -1 else ((k+(dm [c]<|aO<|t.drop k).1.length:Nat):Int):=by
 have e:VZ t [c] k=k+(dm [c]<|aO<|t.drop k).1.length:=by rw[<-Fy];unfold VZ uE;rw[OU]
 unfold Bh;rw[e];have a:=congrArg List.length<|eg (λl=>da (ei l) [c])<|aO<|t.drop k;rw[lA,eT,List.length_drop] at a;show(if k+(dF (λl=>da _ [c])<|aO<|t.drop k).1.length+1<=t.length then _ else _)=if (dF (λl=>da _ [c])<|aO<|t.drop k).2=[] then _ else _;by_cases h:(dF (λl=>da (ei l) [c])<|aO<|t.drop k).2=[]
 .rw[ip h];rw[h,List.length_nil] at a;rw[iw oq]
 .have:=EA.2 h;rw[iw h,ip oq]
end
section
variable {P:Program}{kt:TypeId->Bool}{c:FuncId->Aq->AS->Option (Value × AS)}{a:TL}{o:Oper}{s:AS}{t:TypeId}{x y:Operand}
def nl(l:Bq)(h:o.op=.call { callee:=.builtin .len,args:=#[x],argTypes:=#[9] }:=by rfl)(g:a.at x=str l:=by kernel_rfl):bS prog kt c a o s=some (num (l.length:Nat),s):=di h underlying9 g
def na{z}(i j:Nat)(h:i+j<=2000000000)(b:o.op=.binOp .add t x y z:=by rfl)(f:a.at x=num (i:Int):=by kernel_rfl)(g:a.at y=num (j:Int):=by kernel_rfl):bS P kt c a o s=some (num ((i+j:Nat):Int),s):=dV b f g oq oq
def nT{z}(i j:Nat)(h:i<j)(b:o.op=.binOp .lss t x y z:=by rfl)(f:a.at x=num (i:Int):=by kernel_rfl)(g:a.at y=num (j:Int):=by kernel_rfl):bS P kt c a o s=some (.bool true,s):=aI b f g<|cj<|tD oq
def nF{z}(i j:Nat)(h:¬i<j)(b:o.op=.binOp .lss t x y z:=by rfl)(f:a.at x=num (i:Int):=by kernel_rfl)(g:a.at y=num (j:Int):=by kernel_rfl):bS P kt c a o s=some (.bool false,s):=aI b f g<|cj<|fD oq
def nG{z}(i j:Nat)(h:j<=i)(b:o.op=.binOp .geq t x y z:=by rfl)(f:a.at x=num (i:Int):=by kernel_rfl)(g:a.at y=num (j:Int):=by kernel_rfl):bS P kt c a o s=some (.bool true,s):=aI b f g<|jp<|tD oq
def nH{z}(i j:Nat)(h:¬j<=i)(b:o.op=.binOp .geq t x y z:=by rfl)(f:a.at x=num (i:Int):=by kernel_rfl)(g:a.at y=num (j:Int):=by kernel_rfl):bS P kt c a o s=some (.bool false,s):=aI b f g<|jp<|fD oq
def nx(l:Bq)(i:Nat)(b:UInt8)(h:l[i]?=some b)(e:o.op=.index 9 x y:=by rfl)(f:a.at x=str l:=by kernel_rfl)(g:a.at y=num (i:Int):=by kernel_rfl):bS prog kt c a o s=some (.int .u8 (b.toNat:Int),s):=gp e underlying9 f g oq<|by rw[Iu];exact h
def ns{z:Operand}(l m:Bq)(i j:Nat)(d:i<=j)(g:j<=l.length)(e:(l.take j).drop i=m)(b:o.op=.slice 9 x (some y) (some z) none:=by rfl)(f:a.at x=str l:=by kernel_rfl)(g1:a.at y=num (i:Int):=by kernel_rfl)(g2:a.at z=num (j:Int):=by kernel_rfl):bS prog kt c a o s=some (str m,s) :=
 iL b underlying9 f (by show bM _ _ (some<|a.at y) (some<|a.at z)=_;rw[g1,g2];exact zM d g) e
theorem VH{n c:Nat}{a:IntKind}{i:Nat}(b:i<=n):bM n c (some<|.int a (i:Int)) none=some (i,n):=by unfold bM;simp only;grind
def ns1(l m:Bq)(i:Nat)(d:i<=l.length)(e:l.drop i=m)(b:o.op=.slice 9 x (some y) none none:=by rfl)(f:a.at x=str l:=by kernel_rfl)(g1:a.at y=num (i:Int):=by kernel_rfl):bS prog kt c a o s=some (str m,s) :=
 iL b underlying9 f (by show bM _ _ (some<|a.at y) none=_;rw[g1];exact VH d) (by rw[List.take_length];exact e)
def nb{z}(b:UInt8)(n:Nat)(r:Bool)(h:((b.toNat:Int)==(n:Int))=r)(e:o.op=.binOp .eql t x y z:=by rfl)(f:a.at x=.int .u8 (b.toNat:Int):=by kernel_rfl)(g:a.at y=.int .u8 (n:Int):=by kernel_rfl):bS P kt c a o s=some (.bool r,s):=aI e f g<|cQ h
def Yz{z}(b:UInt8)(n:Nat)(r:Bool)(h:((b.toNat:Int) != (n:Int))=r)(e:o.op=.binOp .neq t x y z:=by rfl)(f:a.at x=.int .u8 (b.toNat:Int):=by kernel_rfl)(g:a.at y=.int .u8 (n:Int):=by kernel_rfl):bS P kt c a o s=some (.bool r,s):=aI e f g<|dI h
def nS{z}(l m:Bq)(h:l.length+m.length<=1000000000)(e:o.op=.binOp .add t x y z:=by rfl)(f:a.at x=str l:=by kernel_rfl)(g:a.at y=str m:=by kernel_rfl):bS P kt c a o s=some (str<|l++m,s):=vj e f g h
def nE{z}(l m:Bq)(r:Bool)(h:ce l m=r)(e:o.op=.binOp .eql t x y z:=by rfl)(f:a.at x=str l:=by kernel_rfl)(g:a.at y=str m:=by kernel_rfl):bS P kt c a o s=some (.bool r,s):=aI e f g<|nt h
end
def yG (t:Bq)(i:Nat):Bool:=match t[i]? with
 | none=>true
 | some b=>!AN b.toNat
def GZ (t:Bq)(k:Nat):Nat:=Qq (yG t) (t.length+1) k
def sx(t:Bq)(k:Nat):∃m,GZ t k=k+m/\m<=t.length+1/\(∀j,j<m->yG t (k+j)=false)/\yG t (k+m)=true:=by
 have⟨m,a,b,c,d⟩:=py (yG t) (t.length+1) k;refine⟨m,a,b,c,?_⟩;by_cases h:m<t.length+1
 .exact d h
 .unfold yG;rw[List.getElem?_eq_none oq]
section
variable {t w:Bq}{k:Nat}
def E9(h:k<=t.length):k<=GZ t k/\GZ t k<=t.length:=by
 have⟨m,a,d,b,e⟩:=sx t k;rw[a];refine⟨oq,?_⟩;by_cases c:k+m<=t.length
 .exact c
 .have:=b (t.length-k) oq;unfold yG at this;rw[List.getElem?_eq_none oq] at this;cases this
def ua(h:k<=t.length):k<=uE t w k/\uE t w k<=t.length:=by
 have⟨m,a,d,b,e⟩:=Di t w k;rw[a];refine⟨oq,?_⟩;by_cases c:k+m<=t.length
 .exact c
 .have:=b (t.length-k) oq;unfold Hp at this;rw[List.getElem?_eq_none oq] at this;cases this
def Ur(b:UInt8):da (b.toNat:Int) aK=AN b.toNat:=by
 have k:∀n:_root_.Fin 256,da (n.val:Int) aK=AN n.val:=dq
 exact k ⟨b.toNat,b.toNat_lt⟩
def TU:yG t=λj=>dG (aO t) j == -1||!da (dG (aO t) j) aK:=by
 funext j;unfold yG;rw[vW];cases t[j]? with
 | none=>rfl
 | some b =>have:((b.toNat:Int) == -1)=false:=bF.2 oq;show _=(((b.toNat:Int) == -1)||!da _ aK);rw[this,Bool.false_or,Ur]
def Uj:GZ t k=k+(fM aK<|aO<|t.drop k).1.length:=by unfold GZ;rw[TU,vu BL (G:=λl=>!da (ei l) aK) (λj=>by rw[j9]) _ k<|by rw[eT];omega,bD];rfl
def Fa:aO (t.drop<|GZ t k)=(fM aK<|aO<|t.drop k).2:=by rw[Uj,<-bD,<-bD];exact(gL _).2
def ub:aO (t.drop<|uE t w k)=(dm w<|aO<|t.drop k).2:=by rw[Fy,<-bD,<-bD];exact(gL _).2
def xR{l:Bq}{n:Nat}:aO (l.take n)=(aO l).take n:=by unfold aO;rw[List.map_take]
def zN{g:Iq->Bool}{m:Nat}(h:m=k+(dF g<|aO<|t.drop k).1.length):(t.take m).drop k=dl (dF g<|aO<|t.drop k).1:=by
 subst h;have e:(t.take<|k+(dF g<|aO<|t.drop k).1.length).drop k=(t.drop k).take (dF g<|aO<|t.drop k).1.length:=by rw[List.drop_take,Nat.add_sub_cancel_left]
 rw[e];generalize t.drop k=l;have e:=eg g<|aO l;generalize dF g _=q at e |-;have a:aO (l.take q.1.length)=q.1:=by rw[xR,<-e,List.take_left' O]
 rw[<-a,C9,a]
def Dj:(t.take<|uE t w k).drop k=dl (dm w<|aO<|t.drop k).1:=zN Fy
end
abbrev jK(t:Bq)(k:Nat)(r:Value)(d x:Bq):Obj:=.cells #[str t,num k,r,str d,str x] 277
def iV (N:Nat)(s s':AS):Prop:=s.nx<=s'.nx/\∀b,b<s.nx->(b<N\/∃cs ty fz,s.get b=some (.cells cs ty fz)/\ty≠277/\ty≠60)->s'.get b=s.get b
def SR (N c:Nat)(s:AS)(t:Bq)(k:Nat)(d x:Bq)(us:List Tok):Prop:=∃r ts,N<=c/\(∀b,blk r b->N<=b)/\Has s c (jK t k r d x)/\jl s r ts/\eR s ts us
section
variable {N c b k k':Nat}{s s' s1 s2:AS}{t d x d' x':Bq}{us:List Tok}{r:Value}{ts:List fA}{u:Tok}
def iV.refl(s:AS):iV N s s:=⟨lr,λ_ _ _=>O⟩
def iV.trans(h:iV N s s1)(a:iV N s1 s2):iV N s s2:=by have:=h.1;refine⟨lT h.1 a.1,λb j c=>?_⟩;have e:=h.2 b j c;rw[a.2 b oq (c.imp id λ⟨d,k,i,f,g⟩=>⟨d,k,i,e.trans f,g⟩),e]
def iV.of(h:eQ s.nx s s'):iV N s s':=⟨h.1,λb a _=>h.2 b a⟩
def iV.has{cs:Aq}{ty:TypeId}{fz:Nat × Nat}(h:iV N s s')(a:Has s b (.cells cs ty fz))(c:ty≠277)(d:ty≠60):Has s' b (.cells cs ty fz):=⟨by have:=h.1;have:=a.1;omega,(h.2 b a.1<|.inr ⟨cs,ty,fz,a.2,c,d⟩).trans a.2⟩
def iV.Y7{v:Value}{l:jE}(h:iV N s s')(g:fw s v l):fw s' v l:=g.imp id λ⟨a,b,f,c,d,e⟩=>by have:=h.has ⟨d,e⟩ dq dq;exact⟨a,b,f,c,this.1,this.2⟩
def iV.Qn(h:iV N s s')(a:eR s ts us):eR s' ts us:=⟨a.1,λi t u g j=>by have⟨b,c,d,e,f⟩:=a.2 i t u g j;exact⟨b,c,d,e,h.Y7 f⟩⟩
def iV.self(e:N<=c)(h:Has s c (jK t k r d x))(o:Option Obj):iV N s (s.set c o):=⟨lr,λb f a=>by
 rw[AS.aU,iw];rintro rfl;rcases a with a|⟨cs,ty,fz,e1,e2,e3⟩
 .omega
 .rw[h.2] at e1;cases e1;exact e2 O⟩
def jl.fy(h:eQ s.nx s s')(d:jl s r ts):jl s' r ts:=d.imp id λ⟨e,c,a,b⟩=>⟨e,c,a,b.oj h⟩
def SR.fr(h:SR N c s t k d x us)(a:eQ s.nx s s'):SR N c s' t k d x us:=by have⟨r,j,b,e,f,g,i⟩:=h;exact⟨r,j,b,e,f.oj a,jl.fy a g,(iV.of (N:=N) a).Qn i⟩
def eU(g:N<=c)(a:Has s c (jK t k r d x))(e:jl s r ts)(f:eR s ts us)(k':Nat)(d' x':Bq):Has (s.set c<|some<|jK t k' r d' x') c (jK t k' r d' x')/\jl (s.set c<|some<|jK t k' r d' x') r ts/\eR (s.set c<|some<|jK t k' r d' x') ts us/\iV N s (s.set c<|some<|jK t k' r d' x'):=by have b:=iV.self g a<|some<|jK t k' r d' x';exact⟨a.put _,jl.set e a dq _,b.Qn f,b⟩
end
def Xg:List FuncId:=[276,277,278,279,284,294,186,347,348,349,350,351,352,353,380,182,94,93,181,183]
structure qm(pr:Prim):Prop where
 no:∀f,f∈Xg->pr f=none
 low:∀(u:Bq) (s:AS),u.length<=1000000->EF prog kJ pr 379 #[str u] s (str<|cU u) s
 ref:∀(u:Bq) (w:Bool) (s:AS),u.length<=1000000->EF prog kJ pr 381 #[str u,.bool w] s (str<|e8 u<|bif w then 1 else 0) s
def Qy(t:Bq)(w:Int):(e8 t w).length<=4*t.length:=A5 _ t w
section
variable {N c b k k':Nat}{s s' s1 s2:AS}{t d x d' x':Bq}{us:List Tok}{r:Value}{ts:List fA}{u:Tok}{pr:Prim}
def m6 (a:Bool)(x:Bq):Bq:=bif a then e8 x 0 else x
def C7(a:Bool)(x:Bq):(m6 a x).length<=4*x.length:=by
 cases a
 .show x.length<=_;omega
 .exact Qy x 0
def Ny(m:qm pr)(a:Bool)(h:SR N c s t k d x us)(A:x.length<=1000000)(G:d.length<=10000000):∃i,Ef pr 349 #[aF c 0,.bool a] s (.tuple #[]) i/\SR N c i t k (d++m6 a x) [] us/\iV N s i:=by
 have⟨r,F,g,w,f,u,v⟩:=h;have⟨l,o,p,q⟩:=eU g f u v k (d++m6 a x) x;have H:=C7 a x;refine cm (m.no 349 dq) func349 O<|zr<|zg 3 s<|zp (yl c 4 (str x) f.2)<|zf<|za s ?_;have b:∀y:Nq,Ew pr (match f349.body with|some (.seq _<|.seq _ z)=>z|_=>.skip) ([aF c 0,.bool a,y 2,y 3,str<|m6 a x]++fW y 5 19) s λe n j=>(e=.normal\/e=.ret)/\cN prog f349 n j=some (.tuple #[])/\SR N c j t k (d++m6 a x) [] us/\iV N s j:=λy=>by refine zr<|zg 4 s<|zp (yl c 3 (str d) f.2)<|zg 1 s<|zp (nS d (m6 a x) oq)<|zg 2 s<|zp (ys c 3 (str<|d++m6 a x) f.2 iq)<|aB<|za (s.set c<|some<|jK t k r (d++m6 a x) x) ?_;have⟨B,C,D,E⟩:=eU g l o p k (d++m6 a x) [];generalize s.set c _=S at *;exact zx<|zg 3 S<|zp (ys c 4 (str []) l.2 iq)<|aB ⟨.inl O,kq,⟨r,F,g,w,B,C,D⟩,q.trans E⟩
 cases a with
 | false =>exact am<|zs<|za s<|zF<|EW.fill (λy=>[aF c 0,.bool false,y 2,y 3,str<|m6 false x]++fW y 5 19) kq b
 | true =>exact am<|zs<|za s<|zH<|zx<|zc 1 (m.ref x false s A)<|zf<|za s<|EW.fill (λy=>[aF c 0,.bool true,y 2,y 3,str<|m6 true x]++fW y 5 19) kq b
def yK(p:N<=c)(I:∀b,blk r b->N<=b)(n:Has s c (jK t k r d x))(j:jl s r ts)(o:eR s ts us)(L:us.length<=900000)(H:N<=s.nx)(a:fA)(u:Tok)(J:zA s a u):∃w S,cf prog 60 r (cR a) 1 (s.add<|.cells (cR a).toArray 60)=some (w,S)/\w.cells=#[w]/\w.oneCell'=true/\Has S c (jK t k r d x)/\(∀e f,SR N c (S.set c<|some<|jK t k w e f) t k e f (us++[u])/\iV N s (S.set c<|some<|jK t k w e f))/\(s.nx<=S.nx/\∀b,b<s.nx->¬blk r b->S.get b=s.get b):=by
 have l:¬blk r c:=λz=>by have⟨_,_,w⟩:=j.blk z;exact n.ne w dq O
 have y:=o.1;have⟨w,S,A,B,C,D,g,h,E⟩:=Mt (j.add<|.cells (cR a).toArray 60) (n.add _) l oq a;have i:iV N s S:=by
  have:=h.1;refine⟨by simp at this;omega,λb F v=>?_⟩;rw[h.2 b (by simp;omega) λz=>?_,AS.bu,iw oq];rcases v with v|⟨cs,ty,fz,e1,e2,e3⟩
  .have:=I b z;omega
  .have⟨_,_,q⟩:=j.blk z;rw[q.2] at e1;cases e1;exact e3 O
 refine⟨w,S,A,B,C,g,λe f=>?_,i.1,λb F G=>by rw[h.2 b (by simp;omega) G,AS.bu,iw oq]⟩;have m:=iV.self p g<|some<|jK t k w e f;have K:∀b,blk w b->N<=b:=λb z=>by have:=E b z;simp at this;omega
 exact⟨⟨w,ts++[a],p,K,g.put _,jl.set D g dq _,(i.trans m).Qn<|o.snoc J⟩,i.trans m⟩
end
section
variable {cl:FuncId->Aq->AS->Option (Value × AS)}{a:TL}{o:Oper}{x y:Operand}
def Va{S S':AS}{w r:Value}(b:fA)(e:b.at_.oneCell'=true)(c:dZ r (sq S.nx)=true)(d:cf prog 60 r (cR b) 1 (S.add<|.cells (cR b).toArray 60)=some (w,S'))(h:o.op=.call { callee:=.builtin .append,args:=#[x,y],argTypes:=#[56,56] }:=by rfl)(f:a.at x=r:=by kernel_rfl)(g:a.at y=.slice (sq S.nx) 1 1:=by kernel_rfl):bS prog kJ cl a o (S.add<|.cells (cR b).toArray 60)=some (w,S') :=
 qP (sz:=5) (z:=US) (bytes:=72) h f g underlying56 kq O dq dq kq (Has.new S _).2 c dq iq iq (nW _ e) d
end
section
variable {N c k:Nat}{s:AS}{t d x:Bq}{us:List Tok}{pr:Prim}
def nJ(G:qm pr)(g:Bool)(h:SR N c s t k d x us)(Z:x.length<=1000000)(V:d.length<=10000000)(W:us.length<=900000)(Y:N<=s.nx):∃B,Ef pr 277 #[aF c 0,.bool g] s (.tuple #[]) B/\SR N c B t k [] [] (cZ (d++m6 g x) us)/\iV N s B:=by
 have⟨S,T,h,n⟩:=Ny G g h Z V;have X:=n.1;generalize d++m6 g x=D at *;refine cm (G.no 277 dq) func277 rfl<|zr<|zc 2 T<|aB ?_;have l:∀(j:AS) (E:Bq) (i:List Tok) (y:Nq),SR N c j t k E [] i->iV N s j->Ew pr (match f277.body with|some (.seq _<|.seq _ z)=>z|_=>.skip) ([aF c 0,.bool g]++fW y 2 27) j λe I C=>(e=.normal\/e=.ret)/\cN prog f277 I C=some (.tuple #[])/\SR N c C t k [] [] i/\iV N s C:=λj E i y h n=>by have⟨r,H,p,A,a,m,q⟩:=h;have⟨q3,q4,q5,qf⟩:=eU p a m q k [] [];exact zx<|zg 3 j<|zp (ys c 3 (str []) a.2 iq)<|aB ⟨.inl rfl,kq,⟨r,H,p,A,q3,q4,q5⟩,n.trans qf⟩
 have⟨r,H,p,A,a,m,q⟩:=h;refine am<|zr<|zg 3 S<|zp (yl c 3 (str D) a.2) ?_;cases D with
 | nil =>exact zf<|za S<|zF<|EW.fill (λy=>[aF c 0,.bool g]++fW y 2 27) kq λy=>l S [] us y h n
 | cons f D =>
  refine zf<|za S<|zH ?_;have v:=e9 (P:=prog) underlying56 rfl a.2 (off:=2) rfl;have o:=e9 (P:=prog) underlying9 rfl a.2 (off:=3) rfl;have⟨w,F,J,K,L,M,O,_⟩:=yK p A a m q W oq ⟨1,f::D,[],aX,false⟩ ⟨1,f::D,[],[],false⟩ ⟨rfl,rfl,rfl,rfl,.inl ⟨rfl,rfl⟩⟩;refine bO kq kq kq ?_;iterate 4 refine zq ?_
  refine zt S<|zu (yl c 2 r a.2) ?_;iterate 3 refine zq ?_
  refine zt S<|zu (yl c 3 (str (f::D)) a.2) ?_;iterate 2 refine zq ?_
  refine zt _<|zu (Va ⟨1,f::D,[],aX,false⟩ rfl (fJ<|jl.lt m) J) ?_;iterate 2 refine zq ?_
  refine zt F<|zu (kB (b:=c) (off:=2) (w:=w) rfl kq kq K L kq M.2 iq)<|cg ⟨dh [(bA prog 56 (aF c 2) S,r),(bA prog 9 (aF c 3) S,str (f::D))] kq<|o9 v o<|jl.qz m,_,_,_,_,_,_,rfl,rfl,za (F.set c<|some<|jK t k w (f::D) []) ?_⟩;have⟨Q,R⟩:=O (f::D) [];exact EW.fill (λy=>[aF c 0,.bool g]++fW y 2 27) kq λy=>l _ _ _ y Q<|n.trans R
def Hr(p:qm pr){fr n:Nat}(h:SR N c s t k d x us)(b:fr<=t.length):∃e,Ef pr 353 #[aF c 0,num fr,num<|-1,num n] s (str<|t.drop fr) e/\SR N c e t t.length d x us/\iV N s e:=by have⟨r,u,g,q,a,m,o⟩:=h;have⟨f,i,j,l⟩:=eU g a m o t.length d x;refine cm (p.no 353 dq) func353 O<|zs<|za s<|am<|zr<|zf<|za s<|zH<|zr<|zg 4 s<|zp (yl c 0 _ a.2)<|zp (nl t)<|zg 2 s<|zp (ys c 1 (num t.length) a.2 iq)<|aB<|za (s.set c<|some<|jK t t.length r d x) ?_;generalize s.set c _=S at *;exact zr<|zg 3 S<|zp (yl c 0 _ f.2)<|zg 1 S<|zp (ns1 t _ fr b O)<|zf<|za S<|aE ⟨.inr O,kq,⟨r,u,g,q,f,i,j⟩,l⟩
def Hs(v:qm pr){fr m n:Nat}(h:SR N c s t k d x us)(a:fr<=m)(u:m<=t.length)(A:t.length<=1000000)(z:n<=100):∃e,Ef pr 353 #[aF c 0,num fr,num m,num n] s (str<|(t.take m).drop fr) e/\SR N c e t (m+n) d x us/\iV N s e:=by have⟨r,y,i,w,g,p,q⟩:=h;have⟨f,j,l,o⟩:=eU i g p q (m+n) d x;refine cm (v.no 353 dq) func353 O<|zs<|za s<|am<|zr<|zk 1<|zp (yb (num m) (num 0)<|cj<|fD oq)<|zf<|za s<|zF<|zr<|zg 3 s<|zp (na m n oq)<|zg 2 s<|zp (ys c 1 (num ((m+n:Nat):Int)) g.2 iq)<|aB<|za (s.set c<|some<|jK t (m+n) r d x) ?_;generalize s.set c _=S at *;exact zr<|zg 3 S<|zp (yl c 0 _ f.2)<|zg 2 S<|zp (ns t _ fr m a u O)<|zf<|za S<|aE ⟨.inr O,kq,⟨r,y,i,w,f,j,l⟩,o⟩
end
section
variable {t w:Bq}{k:Nat}{l:Iq}{g g1 g2:Iq->Bool}
def FN:∀{u w:Bq},(∀b∈w,b.toNat<65)->ce (cU u) w=ce u w
 | [],[],_=>rfl
 | [],_::_,_=>rfl
 | _::_,[],_=>rfl
 | b::u,c::w,h=>by
  show(if (if 65<=b.toNat/\b.toNat<=90 then UInt8.ofNat (b.toNat+32) else b).toNat.beq c.toNat then ce (cU u) w else false)=if b.toNat.beq c.toNat then ce u w else false;rw[FN λx e=>h x<|List.mem_cons_of_mem _ e];have hc:=h c<|List.mem_cons_self ..;by_cases a:65<=b.toNat/\b.toNat<=90
  .rw[if_pos a];have d:(UInt8.ofNat<|b.toNat+32).toNat=b.toNat+32:=by simp; omega
   rw[d,show(b.toNat+32).beq c.toNat=false from by
    cases hq:(b.toNat+32).beq c.toNat with
    | false=>rfl
    | true=>have:=Nat.eq_of_beq_eq_true hq; omega,show b.toNat.beq c.toNat=false from by
    cases hq:b.toNat.beq c.toNat with
    | false=>rfl
    | true=>have:=Nat.eq_of_beq_eq_true hq; omega]
  .rw[if_neg a]
def Lw{j:Nat}(h:j<t.length):(dG (aO t) j == -1)=false:=by rw[vW,gE h];exact bF.2<|by show((t[j].toNat:Nat):Int) ≠ -1;omega
def KZ(c:∀b∈w,b.toNat<65)(a:w≠[]):∀j,Ic t w j=(dG (aO t) j == -1||dg ((aO t).drop j) w||decide (t.length<j+w.length)):=by
 intro j;have d:=EA.2 a;unfold Ic;rw[bD,<-AO,FN c,List.length_drop,List.drop_take,Nat.add_sub_cancel_left];by_cases h:t.length<j+w.length
 .rw[tD h,Bool.or_true,Bool.true_or]
 .rw[fD h,Bool.or_false,Bool.false_or,tD oq,Bool.true_and];have:(dG (aO t) j == -1)=false:=by exact Lw oq
  rw[this,Bool.false_or]
def rR:∀{w:Bq} {l:Bq},dg (aO l) w=true->w.length<=l.length:=by intro w l h;rw[<-AO,vy] at h;exact of_decide_eq_true h.1
def QZ(E:∀b∈w,b.toNat<65)(x:w≠[])(D:k<=t.length):Bh t w k=if (dF (λl=>dg l w)<|aO<|t.drop k).2=[] then -1 else ((k+(dF (λl=>dg l w)<|aO<|t.drop k).1.length:Nat):Int):=by
 have⟨m,G,M,H,s⟩:=B4 t w k;have N:=EA.2 x;have g:=congrArg List.length<|eg (λl=>dg l w)<|aO<|t.drop k;rw[lA,eT,List.length_drop] at g;have B:∀(n k:Nat),k<=t.length->(∀j,j<n->dg (aO<|t.drop<|k+j) w=false)->n<=(dF (λl=>dg l w)<|aO<|t.drop k).1.length\/t.length<k+n:=by
  intro n;induction n with
  | zero=>intro k _ _;exact .inl<|Nat.zero_le _
  | succ n A =>
   intro k D r;by_cases v:k<t.length
   .have e:=List.drop_eq_getElem_cons v;rcases A (k+1) oq λj K=>by have:=r (j+1) oq;rwa [show k+(j+1)=k+1+j by omega] at this with q|q
    .left;have C:=r 0 oq;rw[Nat.add_zero,e] at C;rw[e];show n+1<=(dF (λl=>dg l w) (_::aO (t.drop<|k+1))).1.length;unfold dF;rw[iw (by rw[show dg (_::aO (t.drop<|k+1)) w=false from C];simp)];show n+1<=(dF (λl=>dg l w)<|aO<|t.drop<|k+1).1.length+1;omega
    .right;omega
   .right;omega
 unfold Bh;rw[G];generalize o:dF (λl=>dg l w) (aO<|t.drop k)=p at *;have c:∀j,j<m->dg (aO<|t.drop<|k+j) w=false:=λj r=>by have:=H j r;rw[KZ E x,bD] at this;simp only[Bool.or_eq_false_iff] at this;exact this.1.2
 have i:aO (t.drop<|k+p.1.length)=p.2:=by rw[<-o,<-bD,<-bD];exact(gL _).2
 have z:p.1.length<=m->k+m+w.length<=t.length->m=p.1.length:=by
  intro L d;by_cases h:p.1.length<m
  .have:=c _ h;rw[i] at this;rcases lW (λl=>dg l w) (aO<|t.drop k) with e|e
   .rw[o] at e;rw[e,List.length_nil] at g;omega
   .rw[o] at e;rw[e] at this;cases this
  .omega
 rcases B m k D c with q|q
 .rw[o] at q;rw[KZ E x,bD] at s;by_cases d:k+m+w.length<=t.length
  .have J:dg (aO<|t.drop<|k+m) w=true:=by
    have:(dG (aO t) (k+m) == -1)=false:=by exact Lw oq
    rw[this,fD oq,Bool.or_false,Bool.false_or] at s;exact s
   have u:p.1.length<=m:=by
    have f:∀(n:Nat) (l:Iq),n<(dF (λl=>dg l w) l).1.length->dg (l.drop n) w=false:=by
     intro n;induction n with
     | zero =>
      intro l a;cases l with
      | nil=>simp[dF] at a
      | cons y l =>
       unfold dF at a;split at a
       .simp at a
       .next I=>simpa using I
     | succ n A =>
      intro l a;cases l with
      | nil=>simp[dF] at a
      | cons y l =>
       unfold dF at a;split at a
       .simp at a
       .simp only[lC,Nat.add_lt_add_iff_right] at a;exact A l a
    by_cases h:m<p.1.length
    .have:=f m (aO<|t.drop k) (by rw[o];exact h);rw[bD,List.drop_drop,J] at this;cases this
    .omega
   have e:=z u d;rw[ip d,e,iw];intro F;rw[F,List.length_nil] at g;omega
  .rw[iw d];have:p.2=[]:=by
    rcases lW (λl=>dg l w) (aO<|t.drop k) with e|e
    .rw[o] at e;exact e
    .rw[o] at e;rw[<-i] at e
     have:=rR e;rw[List.length_drop] at this;omega
   rw[ip this]
 .rw[iw oq];have:p.2=[]:=by
   rcases lW (λl=>dg l w) (aO<|t.drop k) with e|e
   .rw[o] at e;exact e
   .rw[o] at e;by_cases h:p.1.length<m
    .have:=c _ h;rw[i,e] at this;cases this
    .rw[<-i] at e
     have:=rR e;rw[List.length_drop] at this;omega
  rw[ip this]
theorem FQ:∀l:Iq,((dF (λl=>g1 l||g2 l) l).2=[]->(dF g1 l).2=[]/\(dF g2 l).2=[])/\((dF (λl=>g1 l||g2 l) l).2≠[] ->
  (g1 (dF (λl=>g1 l||g2 l) l).2=true->dF g1 l=dF (λl=>g1 l||g2 l) l)/\(g1 (dF (λl=>g1 l||g2 l) l).2=false->(dF g1 l).2=[]\/(dF (λl=>g1 l||g2 l) l).1.length<(dF g1 l).1.length) /\
  (g2 (dF (λl=>g1 l||g2 l) l).2=true->dF g2 l=dF (λl=>g1 l||g2 l) l)/\(g2 (dF (λl=>g1 l||g2 l) l).2=false->(dF g2 l).2=[]\/(dF (λl=>g1 l||g2 l) l).1.length<(dF g2 l).1.length))
 | []=>by simp[dF]
 | y::l=>by have ih:=FQ l;unfold dF;cases h1:g1 (y::l)<;>cases h2:g2 (y::l)<;>simp_all<;>grind
end
section
variable {t w:Bq}{k:Nat}{l:Iq}
abbrev Kv(l:Iq):Bool:=!(pK l).isEmpty
def Kw:Kv=λl=>dg l [45,45,62]||dg l [45,45,33,62]:=by funext l;unfold Kv pK;cases dg l [45,45,62]<;>cases dg l [45,45,33,62]<;>rfl
def OB(o:k<=t.length){p:Iq × Iq}(g:dF Kv (aO<|t.drop k)=p) :
  (p.2=[]/\Bh t [45,45,62] k = -1/\Bh t [45,45,33,62] k = -1) \/
  (p.2≠[]/\pK p.2=[45,45,62]/\k+p.1.length+3<=t.length/\Bh t [45,45,62] k=((k+p.1.length:Nat):Int)/\(Bh t [45,45,33,62] k = -1\/∃b:Nat,k+p.1.length<b/\b<=t.length/\Bh t [45,45,33,62] k=(b:Int))) \/
  (p.2≠[]/\pK p.2=[45,45,33,62]/\k+p.1.length+4<=t.length/\Bh t [45,45,33,62] k=((k+p.1.length:Nat):Int)/\(Bh t [45,45,62] k = -1\/∃b:Nat,k+p.1.length<b/\b<=t.length/\Bh t [45,45,62] k=(b:Int))):=by
 have h:=FQ (g1:=λl=>dg l [45,45,62]) (g2:=λl=>dg l [45,45,33,62])<|aO<|t.drop k;rw[<-Kw,g] at h;rw[QZ dq dq o,QZ dq dq o];have f:aO (t.drop<|k+p.1.length)=p.2:=by rw[<-g,<-bD,<-bD];exact(gL _).2
 have m:=congrArg List.length<|eg (λl=>dg l [45,45,62])<|aO<|t.drop k;have n:=congrArg List.length<|eg (λl=>dg l [45,45,33,62])<|aO<|t.drop k;have r:=congrArg List.length<|eg Kv<|aO<|t.drop k;rw[g] at r;rw[lA,eT,List.length_drop] at r m n;by_cases d:p.2=[]
 .have⟨j,c⟩:=h.1 d;exact .inl ⟨d,ip j,ip c⟩
 .have⟨u,v,x,y⟩:=h.2 d;right;cases q1:dg p.2 [45,45,62] with
  | true =>
   left;have a:3<=(t.drop<|k+p.1.length).length:=rR (w:=[45,45,62]) (by rw[f];exact q1);rw[List.length_drop] at a;rw[u q1];have i:dg p.2 [45,45,33,62]=false:=by
    cases q:dg p.2 [45,45,33,62] with
    | false=>rfl
    | true =>exfalso;unfold dg dg dg at q1 q;simp only[vy,beq_iff_eq] at q1 q;have j:=q1.2.2.1;have c:=q.2.2.1;rw[j] at c;revert c;decide
   refine⟨d,by unfold pK;rw[q1];rfl,oq,iw d,?_⟩;rcases y i with e|e
   .exact .inl<|ip e
   .by_cases c:(dF (λl=>dg l [45,45,33,62])<|aO<|t.drop k).2=[]
    .exact .inl<|ip c
    .exact .inr ⟨_,oq,oq,iw c⟩
  | false =>
   right;have i:dg p.2 [45,45,33,62]=true:=by
    rcases lW Kv (aO<|t.drop k) with e|e
    .rw[g] at e;exact absurd e d
    .rw[g,Kw] at e;simp only[q1,Bool.false_or] at e;exact e
   have a:4<=(t.drop<|k+p.1.length).length:=rR (w:=[45,45,33,62]) (by rw[f];exact i);rw[List.length_drop] at a;rw[x i];refine⟨d,by unfold pK;rw[q1,i];rfl,oq,iw d,?_⟩;rcases v q1 with e|e
   .exact .inl<|ip e
   .by_cases c:(dF (λl=>dg l [45,45,62])<|aO<|t.drop k).2=[]
    .exact .inl<|ip c
    .exact .inr ⟨_,oq,oq,iw c⟩
end
section
variable {N c k:Nat}{s:AS}{t d x:Bq}{us:List Tok}{pr:Prim}
def OC(C:qm pr)(h:SR N c s t k d x us)(E:t.length<=1000000){m n:Nat}(H:m+n<=t.length)(G:k<=t.length)(B:n<=100)(y:Nq):Ew pr (match f351.body with|some (.seq _<|.seq _<|.seq _<|.seq _<|.seq _<|.seq _<|.seq _ z)=>z|_=>.skip) ([aF c 0,y 1,str [],str t,num ((k+4:Nat):Int),num m,y 6,num n]++fW y 8 53) s λe i b=>(e=.normal\/e=.ret)/\cN prog f351 i b=some (str<|(t.take m).drop<|k+4)/\SR N c b t (m+n) d x us/\iV N s b:=by
 refine am<|zr<|zk 1<|zp (nG m 0 oq) ?_;by_cases a:m<k+4
 .refine zk 3<|zp (nT m (k+4) a)<|zf<|za s<|zH ?_;have⟨r,F,g,D,f,w,A⟩:=h;have⟨p,q,u,v⟩:=eU g f w A (m+n) d x;refine zr<|zg 3 s<|zp (na m n oq)<|zg 2 s<|zp (ys c 1 (num ((m+n:Nat):Int)) f.2 iq)<|aB<|za (s.set c<|some<|jK t (m+n) r d x) ?_;generalize s.set c _=S at *;refine zs<|za S ?_;have e:(t.take m).drop (k+4)=[]:=List.drop_eq_nil_of_le (by rw[List.length_take];omega);rw[e];exact aE ⟨.inr O,kq,⟨r,F,g,D,p,q,u⟩,v⟩
 .refine zk 3<|zp (nF m (k+4) a)<|zf<|za s<|zF ?_;have⟨S,j,l,o⟩:=Hs C h (fr:=k+4) (m:=m) (n:=n) oq oq E B;exact zr<|zc 4 j<|zf<|za S<|aE ⟨.inr O,kq,l,o⟩
theorem H0(D:qm pr)(h:SR N c s t k d x us)(M:t.length<=1000000)(hk:k+4<=t.length){p:Iq × Iq}(L:dF Kv (aO (t.drop (k+2)))=p):∃u P,Ef pr 351 #[aF c 0] s (str (dl (p.1.drop 2))) u/\SR N c u t P d x us/\aO (t.drop P)=p.2.drop (pK p.2).length/\P<=t.length/\iV N s u:=by
 have Z:=OB oq L;have C:aO (t.drop (k+2+p.1.length))=p.2:=by rw[<-L,<-bD,<-bD];exact(gL _).2
 have E:=zN (t:=t) (k:=k+2) (g:=Kv) rfl;rw[L] at E;have T:(t.take (k+2+p.1.length)).drop (k+4)=dl (p.1.drop 2):=by have:=congrArg (List.drop 2) E;rw[List.drop_drop] at this;rw[show k+4=k+2+2 by omega,this];unfold dl;rw[List.map_drop]
 have R:=h;have⟨r,ts,hN,hr,J,h4,h5⟩:=h;have f:∀(G:AS->Prop) (V:Value),(∀A B:Int,A=Bh t [45,45,62] (k+2)->B=Bh t [45,45,33,62] (k+2)->∀y:Nq,Ew pr _ ([aF c 0,y 1,str [],str t,num ((k+4:Nat):Int),num A,num B,num 3]++fW y 8 53) s λe K a=>(e=.normal\/e=.ret)/\cN prog f351 K a=some V/\G a)->∃u,Ef pr 351 #[aF c 0] s V u/\G u:=λG V hh=>by refine cm (D.no 351 dq) func351 rfl ?_;refine zs (za s (zr (zg 3 s (zp (yl c 0 (str t) J.2) (zf (za s ?_))))));refine zr (zg 3 s (zp (yl c 1 (num (k:Nat)) J.2) (zp (na k 4 oq) (zf (za s ?_)))));refine zr (zg 4 s (zp (yl c 1 (num (k:Nat)) J.2) (zp (na k 2 oq) (zc 0 (El (s:=s) (k:=k+2) (w:=[45,45,62]) (D.no 294 dq) M oq dq) (zf (za s ?_))))));refine zr (zg 4 s (zp (yl c 1 (num (k:Nat)) J.2) (zp (na k 2 oq) (zc 0 (El (s:=s) (k:=k+2) (w:=[45,45,33,62]) (D.no 294 dq) M oq dq) (zf (za s ?_))))));refine zs (za s ?_);exact EW.fill (λy=>[aF c 0,y 1,str [],str t,num ((k+4:Nat):Int),num (Bh t [45,45,62] (k+2)),num (Bh t [45,45,33,62] (k+2)),num 3]++fW y 8 53) kq (hh _ _ rfl rfl)
 have o:∀m n,k+2+p.1.length=m->n=(pK p.2).length->m+n<=t.length->n<=100->(∀(y:Nq),Ew pr (match f351.body with|some (.seq _ (.seq _ (.seq _ (.seq _ (.seq _ (.seq _ (.seq _ z)))))))=>z|_=>.skip) ([aF c 0,y 1,str [],str t,num ((k+4:Nat):Int),num (m:Nat),y 6,num (n:Nat)]++fW y 8 53) s λe K a=>(e=.normal\/e=.ret)/\cN prog f351 K a=some (str (dl (p.1.drop 2)))/\SR N c a t (m+n) d x us/\iV N s a)/\aO (t.drop (m+n))=p.2.drop (pK p.2).length:=by
  rintro m n rfl rfl X Y;refine⟨λy=>?_,?_⟩
  .rw[<-T];exact OC D R M X oq Y y
  .rw[<-C,bD,List.drop_drop]
 rcases Z with ⟨h0,hA,hB⟩|⟨h0,O4,Ci,hA,hB⟩|⟨h0,O4,Ci,hB,hA⟩
 .have⟨S,Q,U,W⟩:=Hr D R (fr:=k+4) (n:=3) hk;have O:t.drop (k+4)=dl (p.1.drop 2):=by have hl:=congrArg List.length C;rw[h0,eT,List.length_drop,List.length_nil] at hl;rw[<-T,tL oq]
  rw[O] at Q;have⟨v,F,H,I⟩:=f (λa=>SR N c a t t.length d x us/\iV N s a) (str (dl (p.1.drop 2))) (λA B j l y=>by rw[hA] at j;rw[hB] at l;subst j l;refine am (am (cu 9 kq (za s (zF ?_))));refine am (am (cu 9 kq (za s (zF ?_))));refine zr (zc 4 Q (zf (za S ?_)));exact aE ⟨.inr rfl,kq,U,W⟩);exact⟨v,t.length,F,H,by rw[List.drop_length,h0];rfl,lr,I⟩
 .have⟨i,q⟩:=o _ 3 rfl (by rw[O4];rfl) Ci oq;have⟨v,F,H,I⟩:=f (λa=>SR N c a t (k+2+p.1.length+3) d x us/\iV N s a) (str (dl (p.1.drop 2))) (λA B j l y=>by
   rw[hA] at j;subst j;rcases hB with hB|⟨b,U6,xq,hB⟩
   .rw[hB] at l;subst l;refine am (am (cu 9 kq (za s (zF ?_))));exact EW.fill (λy=>[aF c 0,y 1,str [],str t,num ((k+4:Nat):Int),num ((k+2+p.1.length:Nat):Int),y 6,num ((3:Nat):Int)]++fW y 8 53) kq i
   .rw[hB] at l;subst l;refine am <| zr <| zk 1 <| zp (nG b 0 oq) <| zk 2 <| zp (nF (k+2+p.1.length) 0 oq) <| zk 3 <| zp (nF b (k+2+p.1.length) oq) <| zf <| za s <| zF ?_;exact EW.fill (λy=>[aF c 0,y 1,str [],str t,num ((k+4:Nat):Int),num ((k+2+p.1.length:Nat):Int),y 6,num ((3:Nat):Int)]++fW y 8 53) kq i);exact⟨v,_,F,H,q,Ci,I⟩
 .have⟨i,q⟩:=o _ 4 rfl (by rw[O4];rfl) Ci oq;have⟨v,F,H,I⟩:=f (λa=>SR N c a t (k+2+p.1.length+4) d x us/\iV N s a) (str (dl (p.1.drop 2))) (λA B j l y=>by
   rw[hB] at l;subst l;rcases hA with hA|⟨b,U6,xq,hA⟩
   .rw[hA] at j;subst j;refine am <| zr <| zk 1 <| zp (nG (k+2+p.1.length) 0 oq) <| zf <| za s <| zH ?_;refine cu 9 kq (za s ?_);exact EW.fill (λy=>[aF c 0,y 1,str [],str t,num ((k+4:Nat):Int),num ((k+2+p.1.length:Nat):Int),y 6,num ((4:Nat):Int)]++fW y 8 53) kq i
   .rw[hA] at j;subst j;refine am <| zr <| zk 1 <| zp (nG (k+2+p.1.length) 0 oq) <| zk 2 <| zp (nF b 0 oq) <| zk 3 <| zp (nT (k+2+p.1.length) b oq) <| zf <| za s <| zH ?_;refine cu 9 kq (za s ?_);exact EW.fill (λy=>[aF c 0,y 1,str [],str t,num ((k+4:Nat):Int),num ((k+2+p.1.length:Nat):Int),y 6,num ((4:Nat):Int)]++fW y 8 53) kq i);exact⟨v,_,F,H,q,Ci,I⟩
end
def Ha(c:Nat)(t:Bq)(k:Nat)(x:Nq):TL:=[aF c 0,x 1,str [],str t,num k]++fW x 5 47
section
variable {N c k:Nat}{s:AS}{t d x:Bq}{us:List Tok}{pr:Prim}
def XB(r:qm pr) {a:Nat}(y:Nq)(A:t.length<=1000000)(q:a<=t.length):Ew pr (match f352.body with|some (.seq _<|.seq _<|.seq _<|.seq (.block _<|.loop z) _)=>.loop z|_=>.skip) (Ha c t (a) y) s λe f l=>e=.exit 0/\l=s/\∃v,f=Ha c t (GZ t a) v:=by
 have⟨m,n,w,o,g⟩:=sx t a;rw[n];refine aZ (λu f l=>l=s/\∃j,u+j=m/\∃x,f=Ha c t (a+j) x) ?_ m _ _ ⟨O,0,O,y,O⟩;rintro u f S ⟨rfl,j,B,x,rfl⟩;have d:yG t (a+j)=true->j=m:=λe=>by
  by_cases i:j<m
  .rw[o j i] at e;cases e
  .omega
 refine am<|zr<|zk 2<|zp (nl t) ?_;by_cases k:a+j<t.length
 .have h:=gE k;generalize t[a+j]=b at h;refine zp (nT (a+j) t.length k)<|zk 3<|zp (nx t (a+j) b h)<|zc 0 (sD (s:=S) (r.no 284 dq) b)<|zf<|za S ?_;cases hs:AN b.toNat with
  | true =>
   refine zT ?_;have p:j<m:=by
    by_cases i:j<m
    .exact i
    .have:j=m:=oq
     subst this;unfold yG at g;rw[h] at g;simp only[hs] at g;cases g
   exact aD<|zx<|zk 1<|zp (na (a+j) 1 oq)<|zf ⟨u-1,oq,kq,j+1,oq,aP kq⟩
  | false =>refine aJ kq<|EW.exit ?_;obtain rfl:=d (by unfold yG;rw[h];simp only[hs];rfl);exact⟨O,O,aP kq⟩
 .refine zp (nF (a+j) t.length k)<|zf<|za S<|aJ kq<|EW.exit ?_;obtain rfl:=d (by unfold yG;rw[List.getElem?_eq_none oq]);exact⟨O,O,aP kq⟩
def H9(o:qm pr)(h:SR N c s t k d x us)(D:t.length<=1000000)(O:k+9<=t.length){p:Iq × Iq}(B:dm (aK++[62]) (fM aK<|aO<|t.drop<|k+9).2=p):∃i f,Ef pr 352 #[aF c 0] s (str<|cU<|dl p.1) i/\SR N c i t f d x us/\aO (t.drop f)=(dm [62] p.2).2.tail/\f<=t.length/\iV N s i:=by
 have⟨r,Q,v,P,u,W,X⟩:=h;have⟨b1,R⟩:=E9 (t:=t) O;have T:aO (t.drop<|GZ t<|k+9)=(fM aK<|aO<|t.drop<|k+9).2:=Fa;have C:=λy=>XB (c:=c) (s:=s) o y D O;generalize GZ t (k+9)=g at *;rw[<-T] at B;have⟨c1,c2⟩:=ua (t:=t) (w:=aK++[62]) R;have U:aO (t.drop<|uE t (aK++[62]) g)=p.2:=by rw[ub,B]
 have J:(t.take<|uE t (aK++[62]) g).drop g=dl p.1:=by rw[Dj,B]
 have E:=pZ (s:=s) (w:=aK++[62]) (o.no 186 dq) D (show g<=1000000 by omega) dq;generalize uE t (aK++[62]) g=j at *;have⟨d1,d2⟩:=ua (t:=t) (w:=[62]) c2;have V:aO (t.drop<|uE t [62] j)=(dm [62] p.2).2:=by rw[ub,U]
 have F:=pZ (s:=s) (w:=[62]) (o.no 186 dq) D (show j<=1000000 by omega) dq;generalize uE t [62] j=a at *;have n:∀S,Ef pr 379 #[str (dl p.1)] S (str<|cU<|dl p.1) S:=λS=>o.low _ S (by rw[<-J];simp;omega);generalize dl p.1=w at *;have⟨A,K,L,M⟩:=eU v u W X a d x;have m:∀(f:Nat) (S:AS) (y:Nq),SR N c S t f d x us->iV N s S->Ew pr (match f352.body with|some (.seq _<|.seq _<|.seq _<|.seq _<|.seq _<|.seq _<|.seq _<|.seq _ z)=>z|_=>.skip) ([aF c 0,y 1,str [],str t,num g,num j,num a]++fW y 7 45) S λe I H=>(e=.normal\/e=.ret)/\cN prog f352 I H=some (str<|cU w)/\SR N c H t f d x us/\iV N s H:=λf S y h Z=>by exact zr<|zk 3<|zp (ns t w g j oq c2 J)<|zo S<|zc 0 (n S)<|zf<|za S<|aE ⟨.inr rfl,kq,h,Z⟩
 have q:∀f,f=(if a<t.length then a+1 else a)->∃i,Ef pr 352 #[aF c 0] s (str<|cU w) i/\SR N c i t f d x us/\iV N s i:=by
  rintro f rfl;refine cm (o.no 352 dq) func352 rfl<|zs<|za s<|zr<|zg 3 s<|zp (yl c 0 (str t) u.2)<|zf<|za s<|zr<|zg 3 s<|zp (yl c 1 (num k) u.2)<|zp (na k 9 oq)<|zf<|za s<|EW.fill (Ha c t<|k+9) kq λy=>(am<|aD<|aN (C y) ?_);rintro e I S ⟨rfl,rfl,y,rfl⟩;refine zr<|zc 2 E<|zf<|za S<|zr<|zc 2 F<|zf<|za S<|zr<|zg 4 S<|zp (ys c 1 (num a) u.2 iq)<|aB<|za (S.set c<|some<|jK t a r d x) ?_;generalize Y:S.set c (some<|jK t a r d x)=l at *;refine am<|zr<|zk 2<|zp (nl t) ?_;by_cases b:a<t.length
  .rw[ip b];refine zp (nT a t.length b)<|zf<|za l<|zH ?_;have⟨G,q4,q5,qf⟩:=eU v A K L (a+1) d x;exact zx<|zg 2 l<|zp (na a 1 oq)<|zg 2 l<|zp (ys c 1 (num ((a+1:Nat):Int)) A.2 iq)<|aB<|za _<|EW.fill (λy=>[aF c 0,y 1,str [],str t,num g,num j,num a]++fW y 7 45) kq λy=>m _ _ y ⟨r,Q,v,P,G,q4,q5⟩<|M.trans qf
  .rw[iw b];exact zp (nF a t.length b)<|zf<|za l<|zF<|EW.fill (λy=>[aF c 0,y 1,str [],str t,num g,num j,num a]++fW y 7 45) kq λy=>m _ _ y ⟨r,Q,v,P,A,K,L⟩ M
 have⟨S,q1,q2,G⟩:=q _ rfl;refine⟨S,_,q1,q2,?_,?_,G⟩
 .rw[<-V];by_cases b:a<t.length
  .rw[ip b,<-bD,<-bD,List.tail_drop]
  .rw[iw b,List.drop_eq_nil_of_le oq];rfl
 .split<;>omega
end
def jL(c p b0:Nat)(t:Bq)(en b1 k:Nat)(x:Nq):TL:=[aF c 0,num p,x 2,x 3,aF b0 0,num 0,str t,num en,aF b1 0,num k]++fW x 10 113
def NP (nm:Bq)(r:Iq):(Bq × Bq) × Iq :=
 if r=[]\/ei r=62 then ((nm,[]),r)
 else if ei r=34 then ((nm,e8 (dl (dm [34] r.tail).1) 1),(dm [34] r.tail).2.tail)
 else if ei r=39 then ((nm,e8 (dl (dm [39] r.tail).1) 1),(dm [39] r.tail).2.tail)
 else ((nm,e8 (dl (dm (aK++[62]) r).1) 1),(dm (aK++[62]) r).2)
def qp(l:Iq):(Bq × Bq) × Iq :=
 if ei (fM aK (dm cz l.tail).2).2=61 then NP (cU<|dl<|l.take 1++(dm cz l.tail).1) (fM aK (fM aK (dm cz l.tail).2).2.tail).2
 else ((cU<|dl<|l.take 1++(dm cz l.tail).1,[]),(dm cz l.tail).2)
def rS{t:Bq}{k:Nat}{b:UInt8}(h:t[k]?=some b):ei (aO<|t.drop k)=(b.toNat:Int)/\aO (t.drop k)≠[]/\(aO<|t.drop k).tail=aO (t.drop<|k+1):=by have⟨a,e⟩:=gS.1 h;rw[List.drop_eq_getElem_cons a,e];exact⟨O,by simp[aO],O⟩
def v7{t:Bq}{k:Nat}(h:¬k<t.length):aO (t.drop k)=[]:=by rw[List.drop_eq_nil_of_le oq];rfl
section
variable {N c k:Nat}{s:AS}{t d x:Bq}{us:List Tok}{pr:Prim}
variable {p b0 en b1:Nat}
def Uh(v:qm pr) {a:Nat}(y:Nq)(B:t.length<=1000000)(r:a<=t.length):Ew pr (match f380.body with|some (.seq _<|.seq _<|.seq _<|.seq _<|.seq _<|.seq (.block _<|.loop z) _)=>.loop z|_=>.skip) (jL c p b0 t en b1 (a) y) s λe f l=>e=.exit 0/\l=s/\∃w,f=jL c p b0 t en b1 (GZ t a) w:=by
 have⟨m,n,A,o,g⟩:=sx t a;rw[n];refine aZ (λu f l=>l=s/\∃j,u+j=m/\∃x,f=jL c p b0 t en b1 (a+j) x) ?_ m _ _ ⟨O,0,O,y,O⟩;rintro u f S ⟨rfl,j,C,x,rfl⟩;have d:yG t (a+j)=true->j=m:=λe=>by
  by_cases i:j<m
  .rw[o j i] at e;cases e
  .omega
 refine am<|zr<|zk 2<|zp (nl t) ?_;by_cases k:a+j<t.length
 .have h:=gE k;generalize t[a+j]=b at h;refine zp (nT (a+j) t.length k)<|zk 3<|zp (nx t (a+j) b h)<|zc 0 (sD (s:=S) (v.no 284 dq) b)<|zf<|za S ?_;cases hs:AN b.toNat with
  | true =>
   refine zT ?_;have q:j<m:=by
    by_cases i:j<m
    .exact i
    .have:j=m:=oq
     subst this;unfold yG at g;rw[h] at g;simp only[hs] at g;cases g
   exact aD<|zx<|zk 1<|zp (na (a+j) 1 oq)<|zf ⟨u-1,oq,kq,j+1,oq,aP kq⟩
  | false =>refine aJ kq<|EW.exit ?_;obtain rfl:=d (by unfold yG;rw[h];simp only[hs];rfl);exact⟨O,O,aP kq⟩
 .refine zp (nF (a+j) t.length k)<|zf<|za S<|aJ kq<|EW.exit ?_;obtain rfl:=d (by unfold yG;rw[List.getElem?_eq_none oq]);exact⟨O,O,aP kq⟩
def Ui(v:qm pr) {a:Nat}(y:Nq)(B:t.length<=1000000)(r:a<=t.length):Ew pr (match f380.body with|some (.seq _<|.seq _<|.seq _<|.seq _<|.seq _<|.seq _<|.seq _<|.seq _<|.seq (.block _<|.loop z) _)=>.loop z|_=>.skip) (jL c p b0 t en b1 (a) y) s λe f l=>e=.exit 2/\l=s/\∃w,f=jL c p b0 t en b1 (GZ t a) w:=by
 have⟨m,n,A,o,g⟩:=sx t a;rw[n];refine aZ (λu f l=>l=s/\∃j,u+j=m/\∃x,f=jL c p b0 t en b1 (a+j) x) ?_ m _ _ ⟨O,0,O,y,O⟩;rintro u f S ⟨rfl,j,C,x,rfl⟩;have d:yG t (a+j)=true->j=m:=λe=>by
  by_cases i:j<m
  .rw[o j i] at e;cases e
  .omega
 refine am<|zr<|zk 2<|zp (nl t) ?_;by_cases k:a+j<t.length
 .have h:=gE k;generalize t[a+j]=b at h;refine zp (nT (a+j) t.length k)<|zk 3<|zp (nx t (a+j) b h)<|zc 0 (sD (s:=S) (v.no 284 dq) b)<|zf<|za S ?_;cases hs:AN b.toNat with
  | true =>
   refine zT ?_;have q:j<m:=by
    by_cases i:j<m
    .exact i
    .have:j=m:=oq
     subst this;unfold yG at g;rw[h] at g;simp only[hs] at g;cases g
   exact aD<|zx<|zk 1<|zp (na (a+j) 1 oq)<|zf ⟨u-1,oq,kq,j+1,oq,aP kq⟩
  | false =>refine aJ kq<|EW.exit ?_;obtain rfl:=d (by unfold yG;rw[h];simp only[hs];rfl);exact⟨O,O,aP kq⟩
 .refine zp (nF (a+j) t.length k)<|zf<|za S<|aJ kq<|EW.exit ?_;obtain rfl:=d (by unfold yG;rw[List.getElem?_eq_none oq]);exact⟨O,O,aP kq⟩
def AK (b0 b1:Nat)(nm v:Bq)(s S:AS):Prop:=s.nx<=b0/\s.nx<=b1/\b0≠b1/\Has S b0 (.cells #[str [],str []] 47)/\Has S b1 (.cells #[str nm,str v] 47)/\eQ s.nx s S
def AK.val{S:AS}{nm v:Bq}(h:AK b0 b1 nm v s S)(w:Bq):AK b0 b1 nm w s (S.set b1<|some<|.cells #[str nm,str w] 47):=by have⟨c,d,a,e,f,b⟩:=h;exact⟨c,d,a,e.set a _,f.put _,⟨b.1,λk g=>by rw[AS.aU,iw oq];exact b.2 k g⟩⟩
def AK.fin{S:AS}{nm v:Bq}(h:AK b0 b1 nm v s S):Has (S.set b0<|some<|.cells #[str nm,str v] 47) b0 (.cells #[str nm,str v] 47)/\eQ s.nx s (S.set b0<|some<|.cells #[str nm,str v] 47):=by have⟨d,e,f,b,g,a⟩:=h;exact⟨b.put _,⟨a.1,λk c=>by rw[AS.aU,iw oq];exact a.2 k c⟩⟩
def XV(K:qm pr)(X:t.length<=1000000){S:AS}{nm:Bq}(G:k<=t.length)(h:AK b0 b1 nm [] s S)(y:Nq){A:Bq × Bq}{r:Iq}(d:NP nm (aO<|t.drop k)=(A,r)):Ew pr (match f380.body with|some (.seq _<|.seq _<|.seq _<|.seq _<|.seq _<|.seq _<|.seq _<|.seq _<|.seq _ z)=>z|_=>.skip) (jL c p b0 t en b1 k y) S λe l g=>(e=.normal\/e=.ret)/\∃f:Nat,cN prog f380 l g=some (.tuple #[.agg #[str A.1,str A.2],num f])/\eQ s.nx s g/\k<=f/\f<=t.length/\aO (t.drop f)=r:=by
 have Q:=h;have⟨h1,h2,h3,h4,J,h6⟩:=h;have v:k<=t.length->A=(nm,[])->r=aO (t.drop k)->∀y,Ew pr (match f380.body with|some (.seq _<|.seq _<|.seq _<|.seq _<|.seq _<|.seq _<|.seq _<|.seq _<|.seq _<|.seq (.seq _<|.cond _ z _) _)=>z|_=>.skip) (jL c p b0 t en b1 k y) S λe l g=>e=.ret/\∃f:Nat,cN prog f380 l g=some (.tuple #[.agg #[str A.1,str A.2],num f])/\eQ s.nx s g/\k<=f/\f<=t.length/\aO (t.drop f)=r:=by rintro G rfl rfl y;have⟨D,E⟩:=Q.fin;exact zr<|zp (yA b1 0 2 #[str nm,str []] J.2 iq)<|zk 1<|zo S<|zp (eA (b:=b0) (off:=0) (w:=.agg #[str nm,str []]) (ws:=[str nm,str []]) rfl kq kq rfl rfl kq h4.2 iq)<|zf<|za _<|aE ⟨rfl,k,kX rfl kq (iK (off:=0) (n:=2) underlying47 rfl kq D.2 iq) kq,E,lr,G,rfl⟩
 unfold NP at d;refine am<|zr<|zk 2<|zp (nl t) ?_;by_cases x:k<t.length
 .have B:t[k]?=some t[k]:=gE x;generalize t[k]=b at B;have⟨Y,Z,e3⟩:=rS B;rw[Y] at d;refine zp (nH k t.length oq)<|zk 3<|zp (nx t k b B) ?_;by_cases u:(b.toNat:Int)=62
  .refine zp (nb b 62 true<|by rw[u];rfl)<|zf<|za S<|zH ?_;rw[ip (.inr u)] at d;cases d;exact EW.fill (jL c p b0 t en b1 k) kq λy=>aN (v G rfl rfl y)<|by rintro e l g ⟨rfl,h⟩;exact⟨.inr rfl,h⟩
  .refine zp (nb b 62 false<|bF.2 u)<|zf<|za S<|zF ?_;rw[iw (λq=>q.elim Z u),e3] at d;have I:∀q:UInt8,b=q->(A,r)=((nm,e8 (dl (dm [q]<|aO<|t.drop<|k+1).1) 1),(dm [q]<|aO<|t.drop<|k+1).2.tail)->∀y,Ew pr (match f380.body with|some (.seq _<|.seq _<|.seq _<|.seq _<|.seq _<|.seq _<|.seq _<|.seq _<|.seq _<|.seq _<|.seq (.seq _<|.cond _ z _) _)=>z|_=>.skip) (jL c p b0 t en b1 k y) S λe l g=>e=.ret/\∃f:Nat,cN prog f380 l g=some (.tuple #[.agg #[str A.1,str A.2],num f])/\eQ s.nx s g/\k<=f/\f<=t.length/\aO (t.drop f)=r:=by
    rintro q rfl C y;have⟨N,c2⟩:=ua (t:=t) (w:=[b]) (k:=k+1) oq;have O:aO (t.drop<|uE t [b]<|k+1)=(dm [b]<|aO<|t.drop<|k+1).2:=ub;have P:(t.take<|uE t [b]<|k+1).drop (k+1)=dl (dm [b]<|aO<|t.drop<|k+1).1:=Dj;have U:=pZ (s:=S) (w:=[b]) (K.no 186 dq) X (show k+1<=1000000 by omega) iq;rw[<-O,<-P] at C;generalize uE t [b] (k+1)=a at *;have T:(t.take<|k+1).drop k=[b]:=by rw[List.drop_take,show k+1-k=1 by omega,List.drop_eq_getElem_cons x];have⟨_,e⟩:=gS.1 B;rw[e];rfl
    refine zr<|zk 2<|zp (na k 1 oq)<|zk 3<|zp (na k 1 oq)<|zp (ns t [b] k (k+1) oq oq T)<|zo S<|zc 0 U<|zf<|za S ?_;have R:((t.take a).drop<|k+1).length<=1000000:=by rw[List.length_drop,List.length_take];omega
    have i:=K.ref ((t.take a).drop<|k+1) true S R;generalize e8 ((t.take a).drop<|k+1) 1=W at *;have F:=Q.val W;refine zr<|zk 2<|zp (na k 1 oq)<|zk 1<|zp (ns t _ (k+1) a N c2 rfl)<|zo S<|zc 0 i<|zg 1 S<|zp (ys b1 1 (str W) J.2 iq)<|aB<|za (S.set b1<|some<|.cells #[str nm,str W] 47) ?_;generalize S.set b1 (some<|.cells #[str nm,str W] 47)=j at *;have⟨D,E⟩:=F.fin;have⟨_,_,_,L,M,v6⟩:=F;cases C;refine am<|zr<|zk 2<|zp (nl t) ?_;by_cases H:a=t.length
    .exact zp (yb (num a) (num t.length)<|cQ (b:=true)<|by rw[H];simp)<|zf<|za j<|zH<|zr<|zp (yA b1 0 2 #[str nm,str W] M.2 iq)<|zk 1<|zo j<|zp (eA (b:=b0) (off:=0) (w:=.agg #[str nm,str W]) (ws:=[str nm,str W]) rfl kq kq rfl rfl kq L.2 iq)<|zf<|za (j.set b0<|some<|.cells #[str nm,str W] 47)<|aE ⟨rfl,a,kX rfl kq (iK (off:=0) (n:=2) underlying47 rfl kq D.2 iq) kq,E,oq,c2,by rw[H,List.drop_length];rfl⟩
    .refine zp (yb (num a) (num t.length)<|cQ (b:=false)<|bF.2 oq)<|zf<|za j<|zF<|zr<|zp (yA b1 0 2 #[str nm,str W] M.2 iq)<|zk 1<|zp (na a 1 oq)<|zo j<|zp (eA (b:=b0) (off:=0) (w:=.agg #[str nm,str W]) (ws:=[str nm,str W]) rfl kq kq rfl rfl kq L.2 iq)<|zf<|za (j.set b0<|some<|.cells #[str nm,str W] 47)<|aE ⟨rfl,a+1,kX rfl kq (iK (off:=0) (n:=2) underlying47 rfl kq D.2 iq) kq,E,oq,oq,?_⟩;rw[<-bD,<-bD,List.tail_drop]
   refine am<|zr<|zk 2<|zp (nx t k b B) ?_;by_cases m:(b.toNat:Int)=34
   .refine zp (nb b 34 true<|by rw[m];rfl)<|zf<|za S<|zH ?_;rw[ip m] at d;have C:b=34:=UInt8.toNat_inj.1 (by show b.toNat=34;omega);exact EW.fill (jL c p b0 t en b1 k) kq λy=>aN (I 34 C d.symm y)<|by rintro e l g ⟨rfl,h⟩;exact⟨.inr rfl,h⟩
   .refine zp (nb b 34 false<|bF.2 m)<|zk 3<|zp (nx t k b B) ?_;rw[iw m] at d;by_cases o:(b.toNat:Int)=39
    .refine zp (nb b 39 true<|by rw[o];rfl)<|zf<|za S<|zH ?_;rw[ip o] at d;have C:b=39:=UInt8.toNat_inj.1 (by show b.toNat=39;omega);exact EW.fill (jL c p b0 t en b1 k) kq λy=>aN (I 39 C d.symm y)<|by rintro e l g ⟨rfl,h⟩;exact⟨.inr rfl,h⟩
    .refine zp (nb b 39 false<|bF.2 o)<|zf<|za S<|zF ?_;rw[iw o] at d;have⟨N,c2⟩:=ua (t:=t) (w:=aK++[62]) G;have O:aO (t.drop<|uE t (aK++[62]) k)=(dm (aK++[62])<|aO<|t.drop k).2:=ub;have P:(t.take<|uE t (aK++[62]) k).drop k=dl (dm (aK++[62])<|aO<|t.drop k).1:=Dj;have U:=pZ (s:=S) (w:=aK++[62]) (K.no 186 dq) X (show k<=1000000 by omega) dq;rw[<-O,<-P] at d;generalize uE t (aK++[62]) k=a at *;refine zr<|zc 2 U<|zf<|za S ?_;have R:((t.take a).drop k).length<=1000000:=by rw[List.length_drop,List.length_take];omega
     have i:=K.ref ((t.take a).drop k) true S R;generalize e8 ((t.take a).drop k) 1=W at *;have F:=Q.val W;refine zr<|zk 3<|zp (ns t _ k a N c2 rfl)<|zo S<|zc 0 i<|zg 1 S<|zp (ys b1 1 (str W) J.2 iq)<|aB<|za (S.set b1<|some<|.cells #[str nm,str W] 47) ?_;generalize S.set b1 (some<|.cells #[str nm,str W] 47)=j at *;have⟨D,E⟩:=F.fin;have⟨_,_,_,L,M,v6⟩:=F;cases d;exact zr<|zp (yA b1 0 2 #[str nm,str W] M.2 iq)<|zk 1<|zo j<|zp (eA (b:=b0) (off:=0) (w:=.agg #[str nm,str W]) (ws:=[str nm,str W]) rfl kq kq rfl rfl kq L.2 iq)<|zf<|za (j.set b0<|some<|.cells #[str nm,str W] 47)<|aE ⟨.inr rfl,a,kX rfl kq (iK (off:=0) (n:=2) underlying47 rfl kq D.2 iq) kq,E,oq,c2,rfl⟩
 .refine zp (nG k t.length oq)<|zf<|za S<|zH ?_;rw[ip (.inl<|v7 x)] at d;cases d;exact EW.fill (jL c p b0 t en b1 k) kq λy=>aN (v G rfl rfl y)<|by rintro e l g ⟨rfl,h⟩;exact⟨.inr rfl,h⟩
def R4(E:qm pr){r0:Value}(h3:Has s c (jK t k r0 d x))(J:t.length<=1000000)(H:p<t.length){A:Bq × Bq}{r:Iq}(f:qp (aO<|t.drop p)=(A,r)):∃(k':Nat) (s':AS),Ef pr 380 #[aF c 0,num p] s (.tuple #[.agg #[str A.1,str A.2],num k']) s'/\eQ s.nx s s'/\p<k'/\k'<=t.length/\aO (t.drop k')=r:=by
 have Q:t[p]?=some t[p]:=gE H;generalize t[p]=b at Q;have⟨e1,e2,W⟩:=rS Q;have⟨c1,c2⟩:=ua (t:=t) (w:=cz) (k:=p+1) oq;have X:aO (t.drop<|uE t cz<|p+1)=(dm cz<|aO<|t.drop<|p+1).2:=ub;have Y:(t.take<|uE t cz<|p+1).drop (p+1)=dl (dm cz<|aO<|t.drop<|p+1).1:=Dj;have hu:=λS=>pZ (s:=S) (w:=cz) (E.no 186 dq) J (show p+1<=1000000 by omega) dq;have Z:(t.take<|uE t cz<|p+1).drop p=dl ((aO<|t.drop p).take 1++(dm cz<|aO<|t.drop<|p+1).1):=by
  have:dl ((aO<|t.drop p).take 1++(dm cz<|aO<|t.drop<|p+1).1)=dl ((aO<|t.drop p).take 1)++dl (dm cz<|aO<|t.drop<|p+1).1:=by simp[dl]
  rw[this,<-Y,<-xR,C9,List.drop_eq_getElem_cons (l:=t) H];rw[List.drop_eq_getElem_cons (l:=t.take _) (by rw[List.length_take];omega),List.getElem_take];rfl
 unfold qp at f;rw[W,<-X,<-Z] at f;generalize uE t cz (p+1)=en at *;have hl:((t.take en).drop p).length<=1000000:=by rw[List.length_drop,List.length_take];omega
 have F:=λS=>E.low ((t.take en).drop p) S hl;generalize Bj:cU ((t.take en).drop p)=i at *;have g1:aO (t.drop<|GZ t en)=(fM aK<|aO<|t.drop en).2:=Fa;have⟨m1,m2⟩:=E9 (t:=t) c2;rw[<-g1] at f;have K:=λS b0 b1 y=>Uh (c:=c) (s:=S) (p:=p) (b0:=b0) (en:=en) (b1:=b1) E y J c2;generalize GZ t en=a at *;suffices hh:Ew pr (match f380.body with|some c=>c|none=>.skip) ((#[aF c 0,num p]:Aq).toList++List.replicate (f380.ntmps-(#[aF c 0,num p]:Aq).toList.length) undef) s (λe o j=>(e=.normal\/e=.ret)/\∃k':Nat,cN prog f380 o j=some (.tuple #[.agg #[str A.1,str A.2],num k'])/\eQ s.nx s j/\p<k'/\k'<=t.length/\aO (t.drop k')=r) by have⟨n,e,o,j,L,M,k',N,T,O⟩:=hh;exact⟨k',j,aQ (E.no 380 dq) func380 rfl ⟨n,e,o,j,L,M,N,rfl⟩,T,O⟩
 refine zs<|za (s.add<|.cells #[str [],str []] 47) ?_;have i0:=Has.new s<|.cells #[str [],str []] 47;have i1:eQ s.nx s (s.add<|.cells #[str [],str []] 47):=⟨iq,λk R=>by rw[AS.bu,iw oq]⟩;have i2:=h3.add<|.cells #[str [],str []] 47;have i3:(s.add<|.cells #[str [],str []] 47).nx=s.nx+1:=rfl;generalize s.add (.cells #[str [],str []] 47)=S at *;refine zr<|zg 3 S<|zp (yl c 0 (str t) i2.2)<|zf<|za S<|zr<|zk 2<|zp (na p 1 oq)<|zo S<|zc 0 (hu S)<|zf<|za S<|zr<|zk 3<|zp (ns t _ p en oq c2 rfl)<|zo S<|zc 0 (F S) ?_;have g:AK s.nx S.nx i [] s ((S.add<|.cells #[str [],str []] 47).set S.nx<|some<|.cells #[str i,str []] 47):=by refine⟨lr,oq,oq,(i0.add _).set oq _,(Has.new S _).put _,⟨by simp;omega,λk R=>?_⟩⟩;rw[AS.aU,iw oq,AS.bu,iw oq];exact i1.2 k R
 refine zg 2 (S.add<|.cells #[str [],str []] 47)<|zp (eA (b:=S.nx) (off:=0) (w:=.agg #[str i,str []]) (ws:=[str i,str []]) rfl kq kq rfl rfl kq (Has.new S _).2 iq)<|aB<|za ((S.add<|.cells #[str [],str []] 47).set S.nx<|some<|.cells #[str i,str []] 47) ?_;generalize (S.add<|.cells #[str [],str []] 47).set S.nx (some<|.cells #[str i,str []] 47)=P at *;generalize C:s.nx=m at *;generalize S.nx=v at *;refine zs<|za P<|EW.fill (jL c p m t en v en) kq λy=>(am<|aD<|aN (K P m v y) ?_);rintro e o B ⟨rfl,rfl,y,rfl⟩;have I:(A,r)=((i,[]),aO<|t.drop en)->∀y,Ew pr (match f380.body with|some (.seq _<|.seq _<|.seq _<|.seq _<|.seq _<|.seq _<|.seq (.seq _<|.cond _ z _) _)=>z|_=>.skip) (jL c p m t en v a y) B λe o j=>e=.ret/\∃k':Nat,cN prog f380 o j=some (.tuple #[.agg #[str A.1,str A.2],num k'])/\eQ m s j/\p<k'/\k'<=t.length/\aO (t.drop k')=r:=by intro hq y;cases hq;rw[<-C] at g;have⟨z1,z2⟩:=g.fin;rw[C] at *;have⟨_,_,_,v4,v5,v6⟩:=g;exact zr<|zp (yA v 0 2 #[str i,str []] v5.2 iq)<|zk 1<|zo B<|zp (eA (b:=m) (off:=0) (w:=.agg #[str i,str []]) (ws:=[str i,str []]) rfl kq kq rfl rfl kq v4.2 iq)<|zf<|za _<|aE ⟨rfl,en,kX rfl kq (iK (off:=0) (n:=2) underlying47 rfl kq z1.2 iq) kq,z2,oq,c2,rfl⟩
 refine am<|zr<|zk 2<|zp (nl t) ?_;by_cases G:a<t.length
 .have D:t[a]?=some t[a]:=gE G;generalize t[a]=q at D;have⟨U,a2,V⟩:=rS D;rw[U] at f;refine zp (nH a t.length oq)<|zk 3<|zp (nx t a q D) ?_;by_cases u:(q.toNat:Int)=61
  .refine zp (Yz q 61 false<|by rw[u];rfl)<|zf<|za B<|zF ?_;rw[ip u,V] at f;have g2:aO (t.drop<|GZ t<|a+1)=(fM aK<|aO<|t.drop<|a+1).2:=Fa;have⟨n1,n2⟩:=E9 (t:=t) (k:=a+1) oq;rw[<-g2] at f;refine zr<|zk 1<|zp (na a 1 oq)<|zf<|za B<|EW.fill (jL c p m t en v<|a+1) kq λy=>(am<|aD<|aN (Ui (c:=c) (s:=B) (p:=p) (b0:=m) (en:=en) (b1:=v) E y J oq) ?_);rintro e o S3 ⟨rfl,rfl,y,rfl⟩;rw[<-C] at g |-;refine aN (XV E J n2 g y f) ?_;rintro e o j ⟨L,k',M,N,T,O⟩;exact⟨L,k',M,N,oq,O⟩
  .refine zp (Yz q 61 true<|by simp[u])<|zf<|za B<|zH ?_;rw[iw u] at f;exact EW.fill (jL c p m t en v a) kq λy=>aN (I f.symm y)<|by rintro e o j ⟨rfl,h⟩;exact⟨.inr rfl,h⟩
 .refine zp (nG a t.length oq)<|zf<|za B<|zH ?_;rw[v7 G,iw dq] at f;exact EW.fill (jL c p m t en v a) kq λy=>aN (I f.symm y)<|by rintro e o j ⟨rfl,h⟩;exact⟨.inr rfl,h⟩
end
