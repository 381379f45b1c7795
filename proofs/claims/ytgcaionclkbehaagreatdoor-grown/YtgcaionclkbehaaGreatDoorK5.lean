
import Derived.Test.YtgcaionclkbehaaGreatDoorM9
set_option linter.all false
set_option maxHeartbeats 2000000
set_option maxRecDepth 100000
namespace Go.Proofs.YtgcaionclkbehaaGreatDoor
open Go.Conc Go.RowKit Go.Lib Tryz
variable {all:Iq}{s s':AS}{B k2 n w:Nat}{nm stops ZY:Bq}{aF:fF}{cl wh:Bool}
def Is (all:Iq)(k:Nat)(nm:Bq):Bool:=kn all k (60::47::nm)&&gz (dL all (k+(nm.length+2))) [9,10,12,13,32,47,62]
def C3(c:Nat)(nm:Bq)(k:Nat)(x:Nq):TL:=[am c 0,str nm,x 2,x 3,num (k:Nat)]++gD x 5 40
def Qz(k:Nat):dL all k = -1\/dL all k∈all:=by
 unfold dL;cases h:all[k]? with
 | none=>exact .inl rfl
 | some x=>exact .inr (mG h)
variable {rn c k k':Nat}{tx:Bq}{ts:List gp}{us:List Tok}{p q r:Value}{pr:Prim}{lo:Bq->Bq}{T:Bq->Prop}{W:Bq->Int->Prop}
section
variable {s s':AS}{nm:Bq}
variable {all:Iq}{wr:Bq->Int->Bq}
def SC.D1(h:SC rn c s k tx ts)(a:iz s.nx s s'):SC rn c s' k tx ts/\fS c s s':=by have⟨p,q,r,h1,h2,h3,d⟩:=h;have f:aO (λb=>b=c) s s':=⟨a.1,λb e _=>a.2 b e⟩;exact SC.mv h1 h2 h3 d f ⟨by have:=h1.1;have:=a.1;omega,(a.2 c h1.1).trans h1.2⟩
theorem PK(d:Hr rn all lo wr T W pr)(u:wV rn all pr)(U:pr 327=none)(x:∀b∈nm,b.toNat<128)(z:nm.length<14)(y:k<=200000)(h:SC rn c s k tx ts):∃i,Ef pr 327 #[am c 0,str nm] s (.bool (Is all k nm)) i/\SC rn c i k tx ts/\fS c s i:=by
 have f:=h;have⟨p,q,r,h1,_⟩:=f;have⟨S,e1,t⟩:=zS u d.at (p:=0) (k:=k) (sm:=60::47::nm) (by simp_all) (by simp;omega) h1.1 h1.2 rfl rfl oq;have⟨n,v⟩:=h.D1 t;have j:((60::47::nm).length:Nat)=nm.length+2:=iq
 have f:=n;have⟨A,B,C,h2,_⟩:=f;have e:=nL (rn:=rn) (all:=all) (d.h.g.no 70 dq) d.h.g.xN (p:=(60::47::nm).length) (k:=k) h2.2 rfl rfl oq;have a:=d.h.g.one S (dL all (k+(60::47::nm).length)) [9,10,12,13,32,47,62] (Qz _) (show ∀b∈([9,10,12,13,32,47,62]:Bq),b.toNat<128 by decide);unfold Is;rw[j] at e a;generalize kn all k (60::47::nm)=o at e1 |-;generalize gz (dL all (k+(nm.length+2))) [9,10,12,13,32,47,62]=w at a |-;generalize dL all (k+(nm.length+2))=l at e a;refine⟨S,?_,n,v⟩;refine EF.of U func327 rfl ?_;refine zs (zr (zk 1 (zp (EA (l:=[60,47]) (m:=nm) rfl kq kq (by simp;omega)) (zf (za s (zr ?_))))));cases o with
 | false =>refine zc 2 e1 ?_;refine zf (za S ?_);exact yR
 | true =>refine zc 2 e1 ?_;refine zk 3 (zp (cY (l:=60::47::nm) rfl underlying9 kq) ?_);rw[show(((60::47::nm).length:Nat):Int)=((nm.length+2:Nat):Int) by rw[j]];refine zc 0 e (zc 0 a (zf (za S ?_)));exact yR
end
def EF.UC{P:Program}{kt:TypeId->Bool}{pr:Prim}{f:FuncId}{fn:Func}{b:Code}{args:Aq}{G:Value->AS->Prop}(k:pr f=none)(j:P.funcs[f]?=some fn)(g:fn.body=some b)(h:EW P kt pr b (args.toList++List.replicate (fn.ntmps-args.toList.length) undef) s (λe c a=>(e=.normal\/e=.ret)/\∃v,c8 P fn c a=some v/\G v a)):∃v d,EF P kt pr f args s v d/\G v d:=by have⟨n,e,c,a,h1,i,v,h2,h3⟩:=h;exact⟨v,a,EF.of k j g ⟨n,e,c,a,h1,i,h2,rfl⟩,h3⟩
def V9 (all:Iq)(k:Nat):Nat:=bif kI (dL all (k+2)) then 2 else bif dL all (k+2)==62 then 3 else bif dL all (k+2) == -1 then 0 else 4
abbrev Xo:Bq:=[33,100,111,99,116,121,112,101]
def qP (all:Iq)(k:Nat):Nat:=bif dL all k==60 then (bif kI (dL all (k+1)) then 1 else bif dL all (k+1)==47 then V9 all k else bif kn all (k+1) [33,45,45] then 5 else bif kn all (k+1) Xo then 6 else bif dL all (k+1)==33 then 7 else bif dL all (k+1)==63 then 8 else 0) else 0
def Hm (s:AS)(c:Nat):Nat->Value->Prop
 | 0,v=>v=.nilFunc
 | 1,v=>v=.func (.func 148) #[am c 0] #[]
 | 2,v=>v=.func (.func 253) #[am c 0] #[]
 | 3,v=>∃B,v=.func (.func 254) #[] #[am B 0]/\Has s B (uT c)
 | 4,v=>∃B,v=.func (.func 255) #[] #[am B 0]/\Has s B (uT c)
 | 5,v=>v=.func (.func 151) #[am c 0] #[]
 | 6,v=>v=.func (.func 152) #[am c 0] #[]
 | 7,v=>∃B,v=.func (.func 153) #[] #[am B 0]/\Has s B (uT c)
 | _,v=>∃B,v=.func (.func 155) #[] #[am B 0]/\Has s B (uT c)
def Has.D1{b:Nat}{o:Obj}(h:Has s b o)(a:iz s.nx s s'):Has s' b o:=⟨by have:=h.1;have:=a.1;omega,(a.2 b h.1).trans h.2⟩
section
variable {s s':AS}
variable {all:Iq}{wr:Bq->Int->Bq}
section
variable (hp:Hr rn all lo wr T W pr)
def Nm(h1:Has s c (fG rn k p q r))(m:k<=800000):∃v j,Ef pr 149 #[am c 0] s v j/\Hm j c (V9 all k) v/\iz s.nx s j:=by
 have d:iz s.nx s (s.add (uT c)):=iz.add lr;have i:=h1.add (uT c);have a:=Has.new s (uT c);have e:=nL (rn:=rn) (all:=all) (pr:=pr) (s:=s.add (uT c)) (hp.h.g.no 70 dq) hp.h.g.xN (p:=2) i.2 rfl rfl oq;have f:=oM (pr:=pr) (s:=s.add (uT c)) hp.QL hp.Jq (hp.at (k+2));unfold V9;generalize dL all (k+2)=l at *;generalize kI l=b at *;refine EF.UC (hp.h.g.no 149 dq) func149 rfl ?_;refine zs (za (s.add (uT c)) ?_);generalize s.add (uT c)=S at *;refine EW.seq (zr (zp (yl s.nx 0 (am c 0) a.2) (zc 0 e (zf (za S (EW.block (zr (zc 1 f (zf (za S ?_))))))))));cases b with
 | true =>refine zH ?_;refine zr (zp (yl s.nx 0 (am c 0) a.2) (zf ?_));exact EW.ret ⟨.inr rfl,.func (.func 253) #[am c 0] #[],kq,rfl,d⟩
 | false =>
  refine zG (zr (zk 1 (zp (yb (.int .i32 l) (.int .i32 62) (cL (b:=l==62) rfl)) (zf (za S ?_)))));cases h62:(l==(62:Int)) with
  | true =>refine zH ?_;refine zr (zf ?_);exact EW.ret ⟨.inr rfl,.func (.func 254) #[] #[am s.nx 0],kq,⟨_,rfl,a⟩,d⟩
  | false =>
   refine zG (zr (zk 1 (zp (yb (.int .i32 l) (.int .i32 (-1)) (cL (b:=l == -1) rfl)) (zf (za S ?_)))));cases h01:(l==(-1:Int)) with
   | true =>refine zH ?_;refine zr (zf ?_);exact EW.ret ⟨.inr rfl,.nilFunc,kq,rfl,d⟩
   | false =>refine zF ?_;refine zr (zf ?_);exact EW.ret ⟨.inr rfl,.func (.func 255) #[] #[am s.nx 0],kq,⟨_,rfl,a⟩,d⟩
def Od(J:wV rn all pr)(h1:Has s c (fG rn k p q r))(O:k<=800000):∃v H,Ef pr 71 #[am c 0] s v H/\Hm H c (qP all k) v/\iz s.nx s H:=by
 have z:iz s.nx s (s.add (uT c)):=iz.add lr;have d:=h1.add (uT c);have e:=Has.new s (uT c);have P:s.nx<=(s.add (uT c)).nx:=iq
 have t:=nL (rn:=rn) (all:=all) (pr:=pr) (s:=s.add (uT c)) (hp.h.g.no 70 dq) hp.h.g.xN (p:=0) d.2 rfl rfl oq;have A:=nL (rn:=rn) (all:=all) (pr:=pr) (s:=s.add (uT c)) (hp.h.g.no 70 dq) hp.h.g.xN (p:=1) d.2 rfl rfl oq;have D:=oM (pr:=pr) (s:=s.add (uT c)) hp.QL hp.Jq (hp.at (k+1));have⟨Q,L,E,F,u⟩:=Nm hp d O;have⟨I,B,i⟩:=zS J hp.at (p:=1) (k:=k) (sm:=[33,45,45]) dq dq d.1 d.2 rfl rfl oq;have x:=d.D1 i;have n:=e.D1 i;have f:iz s.nx s I:=z.trans ⟨i.1,λj K=>i.2 j oq⟩;have⟨y,C,m⟩:=zS J hp.at (p:=1) (k:=k) (sm:=Xo) dq dq x.1 x.2 rfl rfl oq;have o:=n.D1 m;have a:iz s.nx s y:=f.trans ⟨m.1,λj K=>m.2 j (by have:=f.1;omega)⟩;have w:iz s.nx s L:=z.trans ⟨u.1,λj K=>u.2 j oq⟩;unfold qP;rw[Nat.add_zero] at t;generalize V9 all k=R at *;generalize kn all (k+1) [33,45,45]=M at *;generalize kn all (k+1) Xo=N at *;generalize dL all (k+1)=l at *;generalize dL all k=G at *;generalize kI l=b at *;refine EF.UC (hp.h.g.no 71 dq) func71 rfl ?_;refine zs (za (s.add (uT c)) ?_);generalize s.add (uT c)=S at *;refine EW.seq (zr (zp (yl s.nx 0 (am c 0) e.2) (zc 0 t (zp (yb (.int .i32 G) (.int .i32 60) (cM (b:=!(G==60)) rfl)) (EO.nil ?_)))));cases h60:(G==(60:Int)) with
 | false =>refine zH ?_;refine zr (zf ?_);exact EW.ret ⟨.inr rfl,.nilFunc,kq,rfl,z⟩
 | true =>
  refine zF (EW.seq (zr (zp (yl s.nx 0 (am c 0) e.2) (zc 0 A (zf (za S (EW.block (zr (zc 1 D (zf (za S ?_)))))))))));cases b with
  | true =>refine zH ?_;refine zr (zp (yl s.nx 0 (am c 0) e.2) (zf ?_));exact EW.ret ⟨.inr rfl,.func (.func 148) #[am c 0] #[],kq,rfl,z⟩
  | false =>
   refine zG (zr (zk 1 (zp (yb (.int .i32 l) (.int .i32 47) (cL (b:=l==47) rfl)) (zf (za S ?_)))));cases XN:(l==(47:Int)) with
   | true =>refine zH ?_;refine zr (zp (yl s.nx 0 (am c 0) e.2) (zc 0 E (zf ?_)));exact EW.ret ⟨.inr rfl,Q,kq,F,w⟩
   | false =>
    refine zG (zr (zp (yl s.nx 0 (am c 0) e.2) (zc 0 B (zf (za I ?_)))));cases M with
    | true =>refine zH ?_;refine zr (zp (yl s.nx 0 (am c 0) n.2) (zf ?_));exact EW.ret ⟨.inr rfl,.func (.func 151) #[am c 0] #[],kq,rfl,f⟩
    | false =>
     refine zG (zr (zp (yl s.nx 0 (am c 0) n.2) (zc 0 C (zf (za y ?_)))));cases N with
     | true =>refine zH ?_;refine zr (zp (yl s.nx 0 (am c 0) o.2) (zf ?_));exact EW.ret ⟨.inr rfl,.func (.func 152) #[am c 0] #[],kq,rfl,a⟩
     | false =>
      refine zG (zr (zk 1 (zp (yb (.int .i32 l) (.int .i32 33) (cL (b:=l==33) rfl)) (zf (za y ?_)))));cases h33:(l==(33:Int)) with
      | true =>refine zH ?_;refine zr (zf ?_);exact EW.ret ⟨.inr rfl,.func (.func 153) #[] #[am s.nx 0],kq,⟨_,rfl,o⟩,a⟩
      | false =>
       refine zG (zr (zk 1 (zp (yb (.int .i32 l) (.int .i32 63) (cL (b:=l==63) rfl)) (zf (za y ?_)))));cases h63:(l==(63:Int)) with
       | true =>refine zH ?_;refine zr (zf ?_);exact EW.ret ⟨.inr rfl,.func (.func 155) #[] #[am s.nx 0],kq,⟨_,rfl,o⟩,a⟩
       | false =>refine zF ?_;refine zr (zf ?_);exact EW.ret ⟨.inr rfl,.nilFunc,kq,rfl,a⟩
end
end
def Wb (f:Nat->Bool):Nat->Nat->Nat
 | 0,k=>k
 | n+1,k=>if f k then k else Wb f n (k+1)
theorem Ba(f:Nat->Bool):∀(n k:Nat),∃m,Wb f n k=k+m/\m<=n/\(∀j,j<m->f (k+j)=false)/\(m<n->f (k+m)=true)
 | 0,k=>⟨0,rfl,lr,λj U=>by omega,λh=>by omega⟩
 | n+1,k=>by
  unfold Wb;split
  .grind
  .next h =>
   have⟨m,h1,h2,h3,h4⟩:=Ba f n (k+1);refine⟨m+1,by omega,by omega,λj U=>?_,λa=>?_⟩
   .cases j with
    | zero=>simpa using h
    | succ j=>have:=h3 j oq;rwa [show k+1+j=k+(j+1) by omega] at this
   .grind
def xX(all:Iq)(g:Nat->Bool)(k:Nat):Nat:=Wb (λj=>dL all j == -1||g j) (all.length+1) k
def Ee{k:Nat}(h:all.length<=k):dL all k = -1:=by unfold dL;rw[List.getElem?_eq_none h];rfl
theorem eX(all:Iq)(g:Nat->Bool)(k:Nat):∃m,xX all g k=k+m/\(∀j,j<m->dL all (k+j) ≠ -1/\g (k+j)=false)/\(dL all (k+m) = -1\/(dL all (k+m) ≠ -1/\g (k+m)=true))/\(m=0\/k+m<=all.length):=by
 have⟨m,h1,h2,h3,a⟩:=Ba (λj=>dL all j == -1||g j) (all.length+1) k;have U:∀j,j<m->dL all (k+j) ≠ -1/\g (k+j)=false:=λj h=>by grind
 have b:m=0\/k+m<=all.length:=by
  by_cases f:m=0
  .exact .inl f
  .refine .inr ?_
   have:=(U (m-1) oq).1;by_cases e:all.length<=k+(m-1)
   .exact absurd (Ee e) this
   .omega
 have c:m<all.length+1:=oq
 have d:=a c;simp only[BM,beq_iff_eq] at d;refine⟨m,h1,U,?_,b⟩;grind
def Bt (all:Iq)(k:Nat):Bq:=bif kn all k [45,45,62] then [45,45,62] else bif kn all k [45,45,33,62] then [45,45,33,62] else []
def Kg(c k:Nat)(x:Nq):TL:=[am c 0,x 1,num (k:Nat)]++gD x 3 52
section
variable {s s':AS}
variable {all:Iq}{wr:Bq->Int->Bq}
def lS.open(h:lS rn c s k tx us):∃p q r,Has s c (fG rn k p q r)/\sp s c rn p q r k=s/\∀a,lS rn c (sp s c rn p q r a) a tx us/\fS c s (sp s c rn p q r a):=by obtain⟨e,⟨p,q,r,h1,h2,h3,b⟩,d⟩:=h;exact⟨p,q,r,h1,mq h1.2,λa=>⟨⟨e,SC.sp h1 h2 h3 b,d.fr ⟨p,q,r,h1,h2,h3,b⟩ (fS.sp h1)⟩,fS.sp h1⟩⟩
def lS.D1(h:lS rn c s k tx us)(b:iz s.nx s s'):lS rn c s' k tx us/\fS c s s':=by have⟨f,h1,d⟩:=h;have⟨e,a⟩:=h1.D1 b;exact⟨⟨f,e,d.fr h1 a⟩,a⟩
def lS.ahead(b:Dj rn all pr)(h:lS rn c s k tx us)(a:k<=900000):Ef pr 70 #[am c 0,num 0] s (.int .i32 (dL all k)) s:=by have⟨d,h1,_⟩:=h;exact h1.ahead b a
def oB.frS(h:oB rn c s)(b:lS rn c s k tx us)(a:fS c s s'):oB rn c s':=by have⟨d,h1,_⟩:=b;exact h.fr h1 a
def wW(b:∀f,f∈v5->pr f=none)(h:lS rn c s k tx us)(l:tx.length<=1000000)(m:us.length<=900000)(kd:Int)(e d:Bq):∃a,Ef pr 249 #[am c 0,.agg #[num kd,str e,str d,aD,.bool false]] s (.tuple #[]) a/\lS rn c a k [] (ig tx us++[⟨kd,e,d,[],false⟩])/\fS c s a:=by have⟨n,h1,i⟩:=h;have⟨a,e1,j,g⟩:=N8 b h1 l (by have:=i.1;omega) ⟨kd,e,d,aD,false⟩ rfl rfl;exact⟨a,e1,⟨_,j,gu.snoc ((i.fr h1 g).sx) ⟨rfl,rfl,rfl,rfl,.inl ⟨rfl,rfl⟩⟩⟩,g⟩
def Dw(l:Hr rn all lo wr T W pr)(i:wV rn all pr)(a:pr 256=none)(h1:Has s c (fG rn k p q r))(u:k<=800000):∃m,Ef pr 256 #[am c 0] s (str (Bt all k)) m/\iz s.nx s m:=by
 have⟨e,e1,d⟩:=zS i l.at (p:=0) (sm:=[45,45,62]) dq dq h1.1 h1.2 rfl rfl oq;have h2:=h1.D1 d;have⟨b,f,g⟩:=zS i l.at (p:=0) (sm:=[45,45,33,62]) dq dq h2.1 h2.2 rfl rfl oq;have h:iz s.nx s b:=d.trans ⟨g.1,λj t=>g.2 j (by have:=d.1;omega)⟩;unfold Bt;rw[Nat.add_zero] at e1 f;generalize kn all k [45,45,62]=n at *;generalize kn all k [45,45,33,62]=o at *;refine EF.iy a func256 rfl ?_;refine zs (EW.seq (zs (EW.block ?_)));refine EW.loop ?_;iterate 2 refine zs ?_
 refine EW.seq (EW.block (zs (zr (zc 2 e1 (EO.nil ?_)))));cases n with
 | true =>refine zH ?_;refine zr (zf (za e ?_));exact EW.ret ⟨.inr rfl,kq,d⟩
 | false =>
  refine zF (EW.go 5 kq (za e ?_));refine EW.loop ?_;iterate 2 refine zs ?_
  refine EW.seq (EW.block (zs (zr (zc 2 f (EO.nil ?_)))));cases o with
  | true =>refine zH ?_;refine zr (zf (za b ?_));exact EW.ret ⟨.inr rfl,kq,h⟩
  | false =>refine zF ?_;refine EW.go 5 kq (za b ?_);refine EW.loop ?_;refine zs (EW.seq (zG (EW.exit (zs (za b ?_)))));exact EW.ret ⟨.inr rfl,kq,h⟩
def Fs (all:Iq)(k:Nat):Nat:=xX all (λj=>!(Bt all j).isEmpty) (k+2)
theorem Ft(A:Hr rn all lo wr T W pr)(O:wV rn all pr)(N:pr 256=none)(X:pr 151=none)(hk:k<=100000)(h:lS rn c s k tx us)(hx:tx.length<=1000000)(R:us.length<=900000) :
  ∃o,Ef pr 151 #[am c 0] s (.tuple #[]) o/\lS rn c o (Fs all k+(Bt all (Fs all k)).length) [] (ig tx us++[⟨4,cP all (k+4) (Fs all k),[],[],false⟩])/\fS c s o:=by
 have a8:=A.h.g.len;have⟨m,F,I,Z,hm4⟩:=eX all (λj=>!(Bt all j).isEmpty) (k+2);have hkm:k+2+m<=200002:=oq
 unfold Fs;rw[F];clear F;have⟨p,q,r,h1,a9,a6⟩:=h.open;have⟨G,E⟩:=a6 (k+2);refine EF.iy X func151 rfl (zr (zg 3 s (zp (yl c 1 (num (k:Nat)) h1.2) (zp (yp (k:Nat) 4 ((k+4:Nat):Int) oq oq) (zf (za s (zr (zg 3 s (zp (yl c 1 (num (k:Nat)) h1.2) (zp (yp (k:Nat) 2 ((k+2:Nat):Int) oq oq) (zg 2 s (zp (ys c 1 (num ((k+2:Nat):Int)) h1.2 iq) (EO.nil (za (sp s c rn p q r (k+2)) (EW.fill (Kg c (k+4)) kq ?_)))))))))))))));intro x0;generalize sp s c rn p q r (k+2)=S0 at G E;refine EW.seq (EW.block ?_);refine EW.mono (EW.dG (Q:=λe B o=>e=.exit 0/\lS rn c o (k+2+m) tx us/\fS c s o/\∃x,B=Kg c (k+4) x) (λu B o=>∃j,u+j=m/\lS rn c o (k+2+j) tx us/\fS c s o/\∃x,B=Kg c (k+4) x) ?_ m _ _ ⟨0,by omega,G,E,x0,rfl⟩) ?_
 .rintro u B S ⟨j,R,w,D,x,rfl⟩;have U:=w.ahead A.h.g oq;have⟨K,L,M,g1,_,_⟩:=w.open;have⟨d,a,y⟩:=Dw A O N g1 oq;have⟨f,i⟩:=w.D1 y;by_cases hj:j<m
  .have⟨C,z⟩:=I j hj;have z:Bt all (k+2+j)=[]:=gq
   rw[z] at a;generalize dL all (k+2+j)=l at U C;refine EW.seq (zr (zc 1 U (zp (yb (.int .i32 l) (.int .i32 (-1)) (cM (b:=true) (bne_iff_ne.2 C))) (zc 2 a (zf (za d (zT (EW.block ?_))))))));have⟨p,q,r,n,_,q3⟩:=f.open;have⟨q4,q5⟩:=q3 (k+2+(j+1));refine zx (zg 3 d (zp (yl c 1 (num ((k+2+j:Nat):Int)) n.2) (zp (yp ((k+2+j:Nat):Int) 1 ((k+2+(j+1):Nat):Int) oq oq) (zg 2 d (zp (ys c 1 (num ((k+2+(j+1):Nat):Int)) n.2 iq) (EO.nil ?_))))));exact⟨u-1,by omega,j+1,by omega,q4,(D.trans i).trans q5,aR kq⟩
  .obtain rfl:j=m:=oq
   rcases Z with e|⟨C,z⟩
   .rw[e] at U;exact EW.seq (zr (zc 1 U (zf (za S (zG (EW.exit ⟨rfl,w,D,aR kq⟩))))))
   .have z:Bt all (k+2+j)≠[]:=by simpa using z
    generalize dL all (k+2+j)=l at U C;refine EW.seq (zr (zc 1 U (zp (yb (.int .i32 l) (.int .i32 (-1)) (cM (b:=true) (bne_iff_ne.2 C))) ?_)));have⟨x1,J,e1⟩:=List.exists_cons_of_ne_nil z;rw[e1] at a;exact zc 2 a (zp (yb (str (x1::J)) (str []) (dP (b:=false) rfl)) (zf (za d (zG (EW.exit ⟨rfl,f,D.trans i,aR kq⟩)))))
 rintro e B S ⟨rfl,w,D,x,rfl⟩;have H:=qm A.h.g (s:=S) (k:=k+4) (j:=k+2+m) oq;generalize cP all (k+4) (k+2+m)=t at H |-;have⟨p,q,r,n,_,_⟩:=w.open;have⟨d,a,y⟩:=Dw A O N n oq;have⟨f,i⟩:=w.D1 y;have R5:(Bt all (k+2+m)).length<=4:=by unfold Bt;cases kn all (k+2+m) [45,45,62]<;>cases kn all (k+2+m) [45,45,33,62]<;>decide
 generalize Bt all (k+2+m)=v at *;have⟨K,L,M,g1,_,g3⟩:=f.open;have⟨g4,g5⟩:=g3 (k+2+m+v.length);have J:aB prog 84 (am c 0) S=some (am rn 0):=bE (P:=prog) (t:=84) underlying84 rfl n.2 (off:=0) rfl;have V:aB prog 3 (am c 1) S=some (num ((k+2+m:Nat):Int)):=bE (P:=prog) (t:=3) underlying3 rfl n.2 (off:=1) rfl;have l3:aB prog 3 (am c 1) d=some (num ((k+2+m:Nat):Int)):=bE (P:=prog) (t:=3) underlying3 rfl g1.2 (off:=1) rfl;refine EW.seq (EW.draw kq kq kq ?_);iterate 3 refine zq ?_
 refine zt S (zu (yl c 0 (am rn 0) n.2) ?_);iterate 4 refine zq ?_
 refine zt S (zu (yl c 1 (num ((k+2+m:Nat):Int)) n.2) (yt H (zq (ET.nil ⟨aI [(aB prog 84 (am c 0) S,am rn 0),(aB prog 3 (am c 1) S,num ((k+2+m:Nat):Int))] kq (iD ⟨J,rfl⟩ ⟨V,rfl⟩),_,_,_,_,_,_,rfl,rfl,?_⟩))));refine za S (EW.seq (EW.draw kq kq kq ?_));iterate 3 refine zq ?_
 refine zt S (zu (yl c 1 (num ((k+2+m:Nat):Int)) n.2) (zq (yt a (zu (cY (l:=v) rfl underlying9 kq) (zu (yp ((k+2+m:Nat):Int) ((v.length:Nat):Int) ((k+2+m+v.length:Nat):Int) oq oq) ?_)))));iterate 2 refine zq ?_
 refine zt d (zu (ys c 1 (num ((k+2+m+v.length:Nat):Int)) g1.2 iq) (ET.nil ⟨aI [(aB prog 3 (am c 1) S,num ((k+2+m:Nat):Int)),(aB prog 3 (am c 1) d,num ((k+2+m:Nat):Int))] kq (iD ⟨V,rfl⟩ ⟨l3,rfl⟩),_,_,_,_,_,_,rfl,rfl,?_⟩));refine za (sp d c rn K L M (k+2+m+v.length)) ?_;generalize sp d c rn K L M (k+2+m+v.length)=S3 at g4 g5;have⟨S4,ha,a7,Y⟩:=wW A.h.g.no g4 hx R 4 t [];exact zx (zc 3 ha (EO.nil ⟨.inl rfl,kq,a7,((D.trans i).trans g5).trans Y⟩))
section
variable (hp:Hr rn all lo wr T W pr)
def UA(a:pr 154=none)(A:w<=4)(z:k<=100000)(h:lS rn c s k tx us)(o:tx.length<=1000000)(n:us.length<=900000) :
  ∃i,Ef pr 154 #[am c 0,num (w:Nat)] s (.tuple #[]) i/\lS rn c i (eL all [62] (k+w)+1) [] (ig tx us++[⟨4,cP all (k+w) (eL all [62] (k+w)),[],[],false⟩])/\fS c s i:=by have l:=hp.h.g.len;have⟨p,q,r,h1,m,e⟩:=h.open;have b:=E6 (s:=s) (c:=c) (p:=p) (q:=q) (r:=r) hp.h.g (b0:=62) dq (k:=k+w) oq;have⟨g1,g2⟩:=e (eL all [62] (k+w)+1);generalize cP all (k+w) (eL all [62] (k+w))=t at b |-;generalize eL all [62] (k+w)+1=u at *;have⟨y,j,f,d⟩:=wW hp.h.g.no g1 o n 4 t [];refine EF.iy a func154 rfl (zr (zg 3 s (zp (yl c 1 (num (k:Nat)) h1.2) (zk 1 (zp (yp (k:Nat) (w:Nat) ((k+w:Nat):Int) oq oq) (zg 2 s (zp (ys c 1 (num ((k+w:Nat):Int)) h1.2 iq) (EO.nil (za (sp s c rn p q r (k+w)) ?_)))))))));generalize sp s c rn p q r (k+w)=v at *;generalize sp s c rn p q r u=x at *;exact zx (zc 2 b (zc 1 j (EO.nil ⟨.inl rfl,kq,f,g2.trans d⟩)))
def CF(a:pr 154=none){F:Nat}(e:Has s B (uT c))(i:(F=153/\w=2)\/(F=155/\w=1)\/(F=255/\w=2))(d:pr F=none)(j:k<=100000)(h:lS rn c s k tx us)(m:tx.length<=1000000)(l:us.length<=900000) :
  ∃b,Ef pr F #[am B 0] s (.tuple #[]) b/\lS rn c b (eL all [62] (k+w)+1) [] (ig tx us++[⟨4,cP all (k+w) (eL all [62] (k+w)),[],[],false⟩])/\fS c s b:=by
 have⟨b,e1,f,g⟩:=UA (w:=w) hp a oq j h m l;refine⟨b,?_,f,g⟩;rcases i with ⟨rfl,rfl⟩|⟨rfl,rfl⟩|⟨rfl,rfl⟩
 .exact EF.of d func153 rfl (zx (zp (yl B 0 (am c 0) e.2) (zc 0 e1 (EO.nil ⟨.inl rfl,kq,rfl⟩))))
 .exact EF.of d func155 rfl (zx (zp (yl B 0 (am c 0) e.2) (zc 0 e1 (EO.nil ⟨.inl rfl,kq,rfl⟩))))
 .exact EF.of d func255 rfl (zx (zp (yl B 0 (am c 0) e.2) (zc 0 e1 (EO.nil ⟨.inl rfl,kq,rfl⟩))))
end
def QY(e:Has s B (uT c))(d:pr 254=none)(g:k<=100000)(h:lS rn c s k tx us):∃b,Ef pr 254 #[am B 0] s (.tuple #[]) b/\lS rn c b (k+3) tx us/\fS c s b:=by have⟨p,q,r,h1,f,a⟩:=h.open;have⟨g1,g2⟩:=a (k+3);refine⟨_,?_,g1,g2⟩;exact EF.of d func254 rfl (zx (zp (yl B 0 (am c 0) e.2) (zg 2 s (zp (yl c 1 (num (k:Nat)) h1.2) (zp (yp (k:Nat) 3 ((k+3:Nat):Int) oq oq) (zg 2 s (zp (ys c 1 (num ((k+3:Nat):Int)) h1.2 iq) (EO.nil ⟨.inl rfl,kq,rfl⟩))))))))
def EU:nG all stops k<=max k all.length:=by
 by_cases h:k<=all.length
 .have:=tg (stops:=stops) h;omega
 .unfold nG;rw[K3 oq];simp;omega
def th:eL all stops k<=max k all.length:=by
 by_cases h:k<=all.length
 .have:=mz (stops:=stops) h;omega
 .unfold eL;rw[K3 oq];simp;omega
def vL (all:Iq)(k:Nat):Nat:=nG all cz (k+9)
def qG (all:Iq)(k:Nat):Nat:=eL all (cz++[62]) (vL all k)
def FA(a:Hr rn all lo wr T W pr)(d:pr 152=none)(I:k<=100000)(u:T (cP all (vL all k) (qG all k)))(h:lS rn c s k tx us)(z:tx.length<=1000000)(y:us.length<=900000) :
  ∃o,Ef pr 152 #[am c 0] s (.tuple #[]) o/\lS rn c o (eL all [62] (qG all k)+1) [] (ig tx us++[⟨5,[],lo (cP all (vL all k) (qG all k)),[],false⟩])/\fS c s o:=by have w:=a.h.g.len;have⟨p,q,r,h1,x,m⟩:=h.open;have G:vL all k<=max (k+9) all.length:=EU;have H:qG all k<=max (vL all k) all.length:=th;have e:=C0 (s:=s) (c:=c) (p:=p) (q:=q) (r:=r) a.h.g (k:=k+9) oq;have i:=KP (s:=s) (c:=c) (p:=p) (q:=q) (r:=r) a.h.g (stops:=cz++[62]) (by intro b h;simp at h;rcases h with rfl|rfl|rfl|rfl|rfl|rfl<;>decide) (k:=vL all k) oq;have f:=E6 (s:=s) (c:=c) (p:=p) (q:=q) (r:=r) a.h.g (b0:=62) dq (k:=qG all k) oq;have l:=a.h.low (sp s c rn p q r (qG all k)) _ u;change EF _ _ _ _ _ _ _ (sp s c rn p q r (vL all k)) at e;change EF _ _ _ _ _ _ (str (cP all (vL all k) (qG all k))) (sp s c rn p q r (qG all k)) at i;have⟨g1,g2⟩:=m (eL all [62] (qG all k)+1);generalize cP all (qG all k) (eL all [62] (qG all k))=K at f;generalize eL all [62] (qG all k)+1=A at *;generalize lo (cP all (vL all k) (qG all k))=B at *;generalize cP all (vL all k) (qG all k)=J at *;have⟨E,v,n,j⟩:=wW a.h.g.no g1 z y 5 [] B;refine EF.iy d func152 rfl ?_;refine zr (zg 3 s (zp (yl c 1 (num (k:Nat)) h1.2) (zp (yp (k:Nat) 9 ((k+9:Nat):Int) oq oq) (zg 2 s (zp (ys c 1 (num ((k+9:Nat):Int)) h1.2 iq) (EO.nil (za (sp s c rn p q r (k+9)) ?_)))))));generalize sp s c rn p q r (k+9)=C at *;generalize sp s c rn p q r (vL all k)=D at *;generalize sp s c rn p q r (qG all k)=t at *;generalize sp s c rn p q r A=F at *;refine zr (zc 1 e (EO.nil (zr (zc 1 i (zc 0 l (zf (za t (zr (zc 1 f (EO.nil (zx (zc 3 v (EO.nil ?_)))))))))))));exact⟨.inl rfl,kq,n,g2.trans j⟩
end
def nb (all:Iq)(nm:Bq)(k:Nat):Nat:=xX all (λj=>Is all j nm) k
def vg (all:Iq)(wr:Bq->Int->Bq)(nm:Bq)(k:Nat):Bq:=bif aH nm dM then wr (cP all k (nb all nm k)) 0 else cP all k (nb all nm k)
def Jb(h:(aH nm nE||aH nm dM)=true):(∀b∈nm,b.toNat<128)/\nm.length<14:=by rw[BM] at h;simp only[aH,List.any_cons,List.any_nil,BM,Bool.or_false] at h;rcases h with (h|h)|(h|h)<;>(have:=(dz _ _).1 h;subst this;decide)
section
variable {s s':AS}{nm:Bq}
variable {all:Iq}{wr:Bq->Int->Bq}
def ue:k<=nb all nm k/\nb all nm k<=max k all.length:=by have⟨m,h1,_,_,a⟩:=eX all (λj=>Is all j nm) k;unfold nb;omega
section
variable (hp:Hr rn all lo wr T W pr)
def Mj(hT:wV rn all pr)(F:pr 327=none)(V:(aH nm nE||aH nm dM)=true)(hk:k<=120000)(Z:aH nm dM=true->W (cP all k (nb all nm k)) 0)(h:lS rn c s k tx us)(he:oB rn c s)(hl:tx.length+(vg all wr nm k).length<=1000000) :
  ∃z,Ef pr 252 #[am c 0,str nm] s (.tuple #[]) z/\lS rn c z (nb all nm k) (tx++vg all wr nm k) us/\fS c s z:=by
 have hal:=hp.h.g.len;have⟨ha,V⟩:=Jb V;have⟨m,I,M,H,hm4⟩:=eX all (λj=>Is all j nm) k;change nb all nm k=k+m at I;unfold vg at *;rw[I] at Z hl |-;have hm:k+m<=150000:=oq
 have⟨ts,h,T⟩:=h;have O:=h;have⟨p,q,r,h1,_⟩:=O;refine EF.iy (hp.h.g.no 252 dq) func252 rfl (zr (zg 3 s (zp (yl c 1 (num (k:Nat)) h1.2) (zf (za s (EW.fill (C3 c nm k) kq ?_))))));intro x0;refine EW.seq (EW.block ?_);clear h1;refine EW.mono (EW.dG (Q:=λe E z=>e=.exit 0/\SC rn c z (k+m) tx ts/\fS c s z/\∃x,E=C3 c nm k x) (λu E z=>∃j,u+j=m/\SC rn c z (k+j) tx ts/\fS c s z/\∃x,E=C3 c nm k x) ?_ m _ _ ⟨0,by omega,h,fS.refl s,x0,rfl⟩) ?_
 .rintro u E S ⟨j,hu,n,A,x,rfl⟩;have d:=n.ahead hp.h.g oq;have⟨C,o,a,f⟩:=PK hp hT F ha V oq n;by_cases hj:j<m
  .have⟨i,L⟩:=M j hj;rw[L] at o;generalize dL all (k+j)=l at d i;refine EW.seq (zr (zc 1 d (zp (yb (.int .i32 l) (.int .i32 (-1)) (cM (b:=true) (bne_iff_ne.2 i))) (zc 3 o (zf (za C (zT (EW.block ?_))))))));have⟨p,q,r,y,q2,q3,q4⟩:=a;refine zx (zg 3 C (zp (yl c 1 (num ((k+j:Nat):Int)) y.2) (zp (yp ((k+j:Nat):Int) 1 ((k+(j+1):Nat):Int) oq oq) (zg 2 C (zp (ys c 1 (num ((k+(j+1):Nat):Int)) y.2 iq) (EO.nil ?_))))));exact⟨u-1,by omega,j+1,by omega,SC.sp (k':=k+(j+1)) y q2 q3 q4,(A.trans f).trans (fS.sp y),aR kq⟩
  .obtain rfl:j=m:=oq
   rcases H with e|⟨i,L⟩
   .rw[e] at d;exact EW.seq (zr (zc 1 d (zf (za S (zG (EW.exit ⟨rfl,n,A,aR kq⟩))))))
   .rw[L] at o;generalize dL all (k+j)=l at d i;exact EW.seq (zr (zc 1 d (zp (yb (.int .i32 l) (.int .i32 (-1)) (cM (b:=true) (bne_iff_ne.2 i))) (zc 3 o (zf (za C (zG (EW.exit ⟨rfl,a,A.trans f,aR kq⟩))))))))
 rintro e E S ⟨rfl,n,A,x,rfl⟩;have U:=qm hp.h.g (s:=S) (k:=k) (j:=k+m) oq;have R:=T.fr h A;have X:=n.add (.cells (dM.map str).toArray 9);have J:=fS.add n (.cells (dM.map str).toArray 9);have b3:=R.fr n J;have N:=EI (pr:=pr) (s:=S) hp.fP hp.QN nm;have G:=(he.fr h A).fr n J;have K:=n;generalize S.add (.cells (dM.map str).toArray 9)=D at *;generalize cP all k (k+m)=t at *;have⟨v,C,B,a,f⟩:=Bl (pr:=pr) (m:=bif aH nm dM then wr t 0 else t) (hp.h.g.no 261 dq) (hp.h.g.no 156 dq) X hl;have Y:=b3.fr X f;have⟨p,q,r,y,_⟩:=K;have l1:aB prog 84 (am c 0) S=some (am rn 0):=bE (P:=prog) (t:=84) underlying84 rfl y.2 (off:=0) rfl;have l2:aB prog 3 (am c 1) S=some (num ((k+m:Nat):Int)):=bE (P:=prog) (t:=3) underlying3 rfl y.2 (off:=1) rfl;refine EW.seq (EW.draw kq kq kq ?_);iterate 3 refine zq ?_
 refine zt S (zu (yl c 0 (am rn 0) y.2) ?_);iterate 4 refine zq ?_
 refine zt S (zu (yl c 1 (num ((k+m:Nat):Int)) y.2) (yt U (zq (ET.nil ⟨aI [(aB prog 84 (am c 0) S,am rn 0),(aB prog 3 (am c 1) S,num ((k+m:Nat):Int))] kq (iD ⟨l1,rfl⟩ ⟨l2,rfl⟩),_,_,_,_,_,_,rfl,rfl,?_⟩))));refine za S (EW.seq (zr (zc 1 N (EO.nil (za D ?_)))));generalize aH nm dM=b at *;cases b with
 | true =>have hw:=hp.h.Wd D _ 0 (Z rfl) G.1.2 G.2.1;change EF _ _ _ _ #[_,str (wr t 0)] _ _ _ at B;change SC rn c C _ (tx++wr t 0) _ at a;generalize wr t 0=w at *;refine zH (zx (zc 1 hw (zf (za D (zx (zk 4 (zo D (zc 0 B (EO.nil ?_)))))))));exact⟨.inl rfl,kq,⟨_,a,Y⟩,(A.trans J).trans f⟩
 | false =>refine zF ?_;refine zx (zk 4 (zo D (zc 0 B (EO.nil ?_))));exact⟨.inl rfl,kq,⟨_,a,Y⟩,(A.trans J).trans f⟩
def Nr(hk:k+1<=all.length)(hT:T (cP all (k+1) (eL all dE (k+1))))(U:lo (cP all (k+1) (eL all dE (k+1)))=nm)(G:qy all lo wr n (eL all dE (k+1)) []=some (aF,cl,wh,k'))(V:rR all lo wr T W n (eL all dE (k+1)))(h:lS rn c s k tx us)(he:oB rn c s)(hx:tx.length<=500000)(hu:us.length<=500000)(m:wh=true->(aH nm nE||aH nm dM)=true->∀S vs,lS rn c S k' [] vs->oB rn c S->∃O,Ef pr 252 #[am c 0,str nm] S (.tuple #[]) O/\lS rn c O k2 ZY vs/\fS c S O) :
  ∃Y,Ef pr 148 #[am c 0] s (.tuple #[]) Y/\lS rn c Y (bif wh&&(aH nm nE||aH nm dM) then k2 else k') (bif wh then (bif aH nm nE||aH nm dM then ZY else []) else tx) (bif wh then ig tx us++[⟨2,[],nm,aF,cl⟩] else us)/\fS c s Y:=by
 have hal:=hp.h.g.len;have⟨f,av,M,m1,m2,X,N⟩:=KH hp hk hT G V h he;obtain⟨ts0,⟨p0,q0,r0,h1,_⟩,_⟩:=h;rw[h1.2] at M;have⟨ts,Le,Z⟩:=m1;rw[U] at M;obtain⟨j,i,rfl⟩:=X.len;obtain⟨a,l⟩:∃a,a=if wh=true then nm else []:=⟨_,rfl⟩;rw[<-l] at M;have o:=Le.add (gK a (.slice j aF.length i) cl);have y:=Has.new f (gK a (.slice j aF.length i) cl);have p:=fS.add Le (gK a (.slice j aF.length i) cl);have J:gu (f.add (gK a (.slice j aF.length i) cl)) ts us:=Z.fr Le p;have P:bS (f.add (gK a (.slice j aF.length i) cl)) (.slice j aF.length i) aF:=X.fk ((aO.refl (K:=λ_=>False) f).add _) λ_ _=>id;have hZ:=Has.new f (gK [] aD false);have E:(f.add (gK [] aD false)).set f.nx (some (gK a (.slice j aF.length i) cl))=f.add (gK a (.slice j aF.length i) cl):=AS.set_set (⟨f.hp,f.nx+1⟩:AS) f.nx (some (gK [] aD false)) (some (gK a (.slice j aF.length i) cl));generalize f.add (gK a (.slice j aF.length i) cl)=B at o y p J P E;have v:=X.og;have⟨H,F,C,q⟩:=N8 hp.h.g.no o oq (by have:=J.1;omega) ⟨2,[],a,(.slice j aF.length i),cl⟩ v.2.2.1 v.2.1;have c3:=y.fr q.1 (o.no y dq dq dq);have c4:gu H (sx tx ts++[⟨2,[],a,(.slice j aF.length i),cl⟩]) (ig tx us++[⟨2,[],a,aF,cl⟩]):=by
  refine gu.snoc ((J.fr o q).sx) ⟨rfl,rfl,rfl,rfl,P.fk q.1 λb z=>?_⟩;rcases P with ⟨e,_⟩|⟨d,i,fz,e,q1,q2⟩
  .rw[e] at z;exact(bR z).elim
  .rw[e] at z;rw[cH z];exact o.no (⟨q1,q2⟩:Has B d _) dq dq dq
 have u:=UT (pr:=pr) (s:=H) hp.fP hp.Ut a;have A:=C.add (.cells (nE.map str).toArray 9);have r:=fS.add C (.cells (nE.map str).toArray 9);have Q:=c4.fr C r;have L:=c3.add (.cells (nE.map str).toArray 9);generalize H.add (.cells (nE.map str).toArray 9)=x at u A r Q L;have t:=EI (pr:=pr) (s:=x) hp.fP hp.QN a;have e1:=A.add (.cells (dM.map str).toArray 9);have D:=fS.add A (.cells (dM.map str).toArray 9);have R:=Q.fr A D;have e4:=L.add (.cells (dM.map str).toArray 9);generalize x.add (.cells (dM.map str).toArray 9)=I at t e1 D R e4;refine EF.iy (hp.h.g.no 148 dq) func148 rfl ?_;refine zr (zg 3 s (zp (yl c 1 (num (k:Nat)) h1.2) (zp (yp (k:Nat) 1 ((k+1:Nat):Int) oq oq) (zg 2 s (zp (ys c 1 (num ((k+1:Nat):Int)) h1.2 iq) (EO.nil (zr (zc 1 M (zg 4 (f.add (gK [] aD false)) (zp (fx (b:=f.nx) (off:=0) (w:=.agg #[str a,(.slice j aF.length i),.bool cl]) (ws:=[str a,(.slice j aF.length i),.bool cl]) rfl kq kq rfl (by show((str a).oneCell'&&((Value.slice j aF.length i).oneCell'&&((Value.bool cl).oneCell'&&true)))=true;rw[v.2.2.1];rfl) kq hZ.2 iq) (zf (za ((f.add (gK [] aD false)).set f.nx (some (gK a (.slice j aF.length i) cl))) ?_))))))))))));rw[E];refine EW.seq (zs (za B ?_));cases wh with
 | false =>exact zH (EW.ret ⟨.inr rfl,kq,⟨_,o,J⟩,N.trans p⟩)
 | true =>
  rw[ip rfl] at l;subst l;refine zF (zr (zg 2 B (zp (yl f.nx 0 (str a) y.2) (zg 1 B (zp (yl f.nx 1 (.slice j aF.length i) y.2) (zg 1 B (zp (yl f.nx 2 (.bool cl) y.2) (zc 1 F (EO.nil (zr (zg 1 H (zp (yl f.nx 0 (str a) c3.2) ?_))))))))))));have m:=m rfl;generalize aH a nE=br at *;cases br with
  | true =>obtain⟨S6,w1,w2,w3⟩:=m rfl x _ ⟨_,A,Q⟩ (((m2.fr Le p).fr o q).fr C r);refine zc 0 u (zf (za x (zH (zx (zg 2 x (zp (yl f.nx 0 (str a) L.2) (zc 0 w1 (EO.nil ?_))))))));exact⟨.inl rfl,kq,w2,(((N.trans p).trans q).trans r).trans w3⟩
  | false =>
   refine zc 0 u (zg 2 x (zp (yl f.nx 0 (str a) L.2) ?_));generalize aH a dM=bp at *;cases bp with
   | false =>refine zc 0 t ?_;refine zf (za I (zF ?_));exact⟨.inl rfl,kq,⟨_,e1,R⟩,(((N.trans p).trans q).trans r).trans D⟩
   | true =>obtain⟨S6,w1,w2,w3⟩:=m rfl I _ ⟨_,e1,R⟩ ((((m2.fr Le p).fr o q).fr C r).fr A D);refine zc 0 t (zf (za I (zH (zx (zg 2 I (zp (yl f.nx 0 (str a) e4.2) (zc 0 w1 (EO.nil ?_))))))));exact⟨.inl rfl,kq,w2,((((N.trans p).trans q).trans r).trans D).trans w3⟩
def SV(H:k+2<=all.length)(D:T (cP all (k+2) (eL all dE (k+2))))(t:lo (cP all (k+2) (eL all dE (k+2)))=nm)(l:qy all lo wr n (eL all dE (k+2)) []=some (aF,cl,wh,k'))(u:rR all lo wr T W n (eL all dE (k+2)))(h:lS rn c s k tx us)(G:oB rn c s)(O:tx.length<=500000)(N:us.length<=500000) :
  ∃x,Ef pr 253 #[am c 0] s (.tuple #[]) x/\lS rn c x k' (bif wh then [] else tx) (bif wh then ig tx us++[⟨3,[],nm,[],false⟩] else us)/\fS c s x:=by
 have F:=hp.h.g.len;have⟨d,e,o,I,P,J,A⟩:=KH hp H D l u h G;obtain⟨L,⟨Q,R,S,h1,_⟩,_⟩:=h;rw[h1.2] at o;have⟨K,Le,y⟩:=I;rw[t] at o;obtain⟨a,f⟩:∃a,a=if wh=true then nm else []:=⟨_,rfl⟩;rw[<-f] at o;have q:=Le.add (gK a e cl);have z:=Has.new d (gK a e cl);have m:=fS.add Le (gK a e cl);have r:gu (d.add (gK a e cl)) K us:=y.fr Le m;have E:=Has.new d (gK [] aD false);have i:(d.add (gK [] aD false)).set d.nx (some (gK a e cl))=d.add (gK a e cl):=AS.set_set (⟨d.hp,d.nx+1⟩:AS) d.nx (some (gK [] aD false)) (some (gK a e cl));generalize d.add (gK a e cl)=p at q z m r i;have v:=J.og;have⟨M,j,B,C⟩:=wW hp.h.g.no (⟨_,q,r⟩:lS rn c p k' tx us) oq oq 3 [] a;refine EF.iy (hp.h.g.no 253 dq) func253 rfl ?_;refine zr (zg 3 s (zp (yl c 1 (num (k:Nat)) h1.2) (zp (yp (k:Nat) 2 ((k+2:Nat):Int) oq oq) (zg 2 s (zp (ys c 1 (num ((k+2:Nat):Int)) h1.2 iq) (EO.nil (zr (zc 1 o (zg 4 (d.add (gK [] aD false)) (zp (fx (b:=d.nx) (off:=0) (w:=.agg #[str a,e,.bool cl]) (ws:=[str a,e,.bool cl]) rfl kq kq rfl (by show((str a).oneCell'&&(e.oneCell'&&((Value.bool cl).oneCell'&&true)))=true;rw[v.2.2.1];rfl) kq E.2 iq) (zf (za ((d.add (gK [] aD false)).set d.nx (some (gK a e cl))) ?_))))))))))));rw[i];refine zs (za p ?_);cases wh with
 | false =>exact zF ⟨.inl rfl,kq,⟨_,q,r⟩,A.trans m⟩
 | true =>rw[ip rfl] at f;subst f;refine zH (zx (zg 2 p (zp (yl d.nx 0 (str a) z.2) (zc 1 j (EO.nil ?_)))));exact⟨.inl rfl,kq,B,(A.trans m).trans C⟩
end
end
def GX (all:Iq)(k:Nat):Nat:=xX all (λj=>qP all j != 0) k
theorem Hm.some{c:Nat}{v:Value}(h:Hm s c n v)(b:(n != 0)=true):∃f a U,v=.func (.func f) a U:=by unfold Hm at h;grind
section
variable {s s':AS}{nm:Bq}
variable {all:Iq}{wr:Bq->Int->Bq}
def E8:k<=GX all k/\GX all k<=max k all.length:=by have⟨m,h1,_,_,a⟩:=eX all (λj=>qP all j != 0) k;unfold GX;omega
theorem NV(o:Hr rn all lo wr T W pr)(X:wV rn all pr)(hk:k<=120000)(N:W (cP all k (GX all k)) 0)(h:lS rn c s k tx us)(Y:oB rn c s)(O:tx.length+(wr (cP all k (GX all k)) 0).length<=1000000) :
  ∃n,Ef pr 72 #[am c 0] s (.tuple #[]) n/\lS rn c n (GX all k) (tx++wr (cP all k (GX all k)) 0) us/\fS c s n:=by
 have a3:=o.h.g.len;have⟨m,F,J,R,hm4⟩:=eX all (λj=>qP all j != 0) k;change GX all k=k+m at F;rw[F] at N O |-;have hm:k+m<=150000:=oq
 have⟨p,q,r,h1,_⟩:=h.open;refine EF.iy (o.h.g.no 72 dq) func72 rfl (zr (zg 3 s (zp (yl c 1 (num (k:Nat)) h1.2) (zf (za s (EW.fill (Kt c k) kq ?_))))));intro x0;refine EW.seq (EW.block ?_);clear h1;refine EW.mono (EW.dG (Q:=λe B n=>e=.exit 0/\lS rn c n (k+m) tx us/\fS c s n/\∃x,B=Kt c k x) (λu B n=>∃j,u+j=m/\lS rn c n (k+j) tx us/\fS c s n/\∃x,B=Kt c k x) ?_ m _ _ ⟨0,by omega,h,fS.refl s,x0,rfl⟩) ?_
 .rintro u B S ⟨j,hu,d,z,x,rfl⟩;have U:=d.ahead o.h.g oq;have⟨p,q,r,g1,_⟩:=d.open;have⟨v,A,D,L,I⟩:=Od o X g1 oq;have⟨i,a⟩:=d.D1 I;by_cases Z:j<m
  .have⟨C,G⟩:=J j Z;have G:qP all (k+j)=0:=gq
   rw[G] at L;cases L;generalize dL all (k+j)=l at U C;have⟨p,q,r,y,_,q3⟩:=i.open;have⟨q4,q5⟩:=q3 (k+(j+1));refine EW.seq (zr (zc 1 U (zp (yb (.int .i32 l) (.int .i32 (-1)) (cM (b:=true) (bne_iff_ne.2 C))) (zc 2 D (zf (za A (zT (EW.block (zx (zg 3 A (zp (yl c 1 (num ((k+j:Nat):Int)) y.2) (zp (yp ((k+j:Nat):Int) 1 ((k+(j+1):Nat):Int) oq oq) (zg 2 A (zp (ys c 1 (num ((k+(j+1):Nat):Int)) y.2 iq) (EO.nil ?_)))))))))))))));exact⟨u-1,by omega,j+1,by omega,q4,(z.trans a).trans q5,aR kq⟩
  .obtain rfl:j=m:=oq
   rcases R with e|⟨C,G⟩
   .rw[e] at U;exact EW.seq (zr (zc 1 U (zf (za S (zG (EW.exit ⟨rfl,d,z,aR kq⟩))))))
   .obtain⟨f,fi,ca,rfl⟩:=L.some G;generalize dL all (k+j)=l at U C;exact EW.seq (zr (zc 1 U (zp (yb (.int .i32 l) (.int .i32 (-1)) (cM (b:=true) (bne_iff_ne.2 C))) (zc 2 D (zf (za A (zG (EW.exit ⟨rfl,i,z.trans a,aR kq⟩))))))))
 rintro e B S ⟨rfl,d,z,x,rfl⟩;have K:=qm o.h.g (s:=S) (k:=k) (j:=k+m) oq;have E:=Y.frS h z;have hw:=o.h.Wd S _ 0 N E.1.2 E.2.1;have⟨ts,d,V⟩:=d;have⟨v,A,M,i,a⟩:=Bl (pr:=pr) (m:=wr (cP all k (k+m)) 0) (o.h.g.no 261 dq) (o.h.g.no 156 dq) d O;have H:=V.fr d a;generalize wr (cP all k (k+m)) 0=w at *;generalize cP all k (k+m)=t at *;have⟨p,q,r,y,_⟩:=d;have l1:aB prog 84 (am c 0) S=some (am rn 0):=bE (P:=prog) (t:=84) underlying84 rfl y.2 (off:=0) rfl;have l2:aB prog 3 (am c 1) S=some (num ((k+m:Nat):Int)):=bE (P:=prog) (t:=3) underlying3 rfl y.2 (off:=1) rfl;refine EW.draw kq kq kq ?_;iterate 6 refine zq ?_
 refine zt S (zu (yl c 0 (am rn 0) y.2) ?_);iterate 4 refine zq ?_
 refine zt S (zu (yl c 1 (num ((k+m:Nat):Int)) y.2) (yt K (yt hw (yt M (ET.nil ⟨aI [(aB prog 84 (am c 0) S,am rn 0),(aB prog 3 (am c 1) S,num ((k+m:Nat):Int))] kq (iD ⟨l1,rfl⟩ ⟨l2,rfl⟩),_,_,_,_,_,_,rfl,rfl,?_⟩)))));exact⟨.inl rfl,kq,⟨_,i,H⟩,z.trans a⟩
def N6(pr:Prim)(rn c:Nat)(all:Iq)(x y:St):Prop:=dL all x.k ≠ -1/\∀s,Sv rn c s x->oB rn c s ->
 (∃f e d b a,EF prog kg pr 71 #[am c 0] s (.func (.func f) e d) b/\EF prog kg pr f (e++d) b (.tuple #[]) a/\Sv rn c a y/\fS c s a) \/
 (∃b a,EF prog kg pr 71 #[am c 0] s .nilFunc b/\EF prog kg pr 72 #[am c 0] b (.tuple #[]) a/\Sv rn c a y/\fS c s a)
theorem ZC(T:Dj rn all pr){st:Nat->St}(h0:st 0=⟨0,[],[]⟩)(aa:∀i,i<n->N6 pr rn s.nx all (st i) (st (i+1)))(a7:dL all (st n).k = -1)(D:∀i,i<=n->(st i).k<=150000/\(st i).tx.length<=500000/\(st i).us.length<=500000)(h1:Has s 1 (.cells cR.toArray 335))(hr:rn<s.nx) :
  ∃y v o,Ef pr 40 #[am rn 0] s v y/\rQ y v o/\gu y o (ig (st n).tx (st n).us)/\aO (λ_=>False) s y/\(∀b,blk v b->s.nx<b):=by
 suffices h:Ew pr (match Tryz.f40.body with|some c=>c|none=>.skip) ((#[am rn 0]:Aq).toList++List.replicate (Tryz.f40.ntmps-(#[am rn 0]:Aq).toList.length) undef) s (λe U a=>(e=.normal\/e=.ret)/\∃v o,c8 prog Tryz.f40 U a=some v/\rQ a v o/\gu a o (ig (st n).tx (st n).us)/\aO (λ_=>False) s a/\(∀b,blk v b->s.nx<b)) by have⟨m,e,U,a,h1,P,v,o,h2,h3⟩:=h;exact⟨a,v,o,EF.of (T.no 40 dq) func40 rfl ⟨m,e,U,a,h1,P,h2,rfl⟩,h3⟩
 have J:=Has.new s (fG rn 0 (.pointer none) aD aD);have L:SC rn s.nx (s.add (fG rn 0 (.pointer none) aD aD)) 0 [] []:=⟨_,_,_,J,.inl rfl,.inl ⟨rfl,rfl⟩,.inl ⟨rfl,rfl⟩⟩;have X:oB rn s.nx (s.add (fG rn 0 (.pointer none) aD aD)):=⟨h1.add _,by simp;omega,by have:=h1.1;omega⟩;have Y:=(aO.refl (K:=λ_=>False) s).add (fG rn 0 (.pointer none) aD aD);have hZ:=Has.new s (.cells #[.pointer none,num 0,.pointer none,aD,aD] 121);have O:(s.add (.cells #[.pointer none,num 0,.pointer none,aD,aD] 121)).set s.nx (some (fG rn 0 (.pointer none) aD aD))=s.add (fG rn 0 (.pointer none) aD aD):=AS.set_set (⟨s.hp,s.nx+1⟩:AS) s.nx (some (.cells #[.pointer none,num 0,.pointer none,aD,aD] 121)) (some (fG rn 0 (.pointer none) aD aD));have a9:(s.add (fG rn 0 (.pointer none) aD aD)).nx=s.nx+1:=rfl;have W:∀b,b<s.nx->¬KS s.nx (s.add (fG rn 0 (.pointer none) aD aD)) b:=λb D z=>by
  rcases(KS.at J.2).1 z with z|z|z
  .omega
  iterate 2
   .exact bR z
 refine zs (zr (zg 3 (s.add (.cells #[.pointer none,num 0,.pointer none,aD,aD] 121)) (zp (fx (b:=s.nx) (off:=0) (w:=.agg #[am rn 0,num 0,.pointer none,aD,aD]) (ws:=[am rn 0,num 0,.pointer none,aD,aD]) rfl kq kq rfl rfl kq hZ.2 iq) (EO.nil (za ((s.add (.cells #[.pointer none,num 0,.pointer none,aD,aD] 121)).set s.nx (some (fG rn 0 (.pointer none) aD aD))) ?_)))));rw[O];generalize s.add (fG rn 0 (.pointer none) aD aD)=H at L X Y a9 W J |-;refine EW.fill (Rn rn s.nx) kq ?_;intro x0;refine EW.seq (EW.block ?_);refine EW.mono (EW.dG (Q:=λe U y=>e=.exit 0/\Sv rn s.nx y (st n)/\fS s.nx H y/\∃x,U=Rn rn s.nx x) (λu U y=>∃j,u+j=n/\Sv rn s.nx y (st j)/\fS s.nx H y/\∃x,U=Rn rn s.nx x) ?_ n _ _ ⟨0,by omega,by rw[h0];exact⟨[],L,rfl,λi t u h=>by simp at h⟩,fS.refl H,x0,rfl⟩) ?_
 .rintro u U S ⟨j,hu,⟨o,A,C⟩,B,x,rfl⟩;have hbj:=D j oq;have d:=A.ahead T oq;by_cases hj:j<n
  .have⟨I,a4⟩:=aa j hj;have P:=X.fr L B;have G:=a4 S ⟨o,A,C⟩ P;generalize dL all (st j).k=l at d I;rcases G with ⟨f,fi,ca,a,s2,g1,g2,g3,g4⟩|⟨a,s2,g1,g2,g3,g4⟩
   .refine EW.seq (zr (zc 0 d (zp (yb (.int .i32 l) (.int .i32 (-1)) (cM (b:=true) (bne_iff_ne.2 I))) (EO.nil (za S (zT (EW.block (zr (zc 0 g1 (zf (za a (zs (za a (zH (zx (zg 1 a (EO.call (f:=.tmp 12) (g:=f) (first:=fi) (cap:=ca) (args:=fi++ca) kq rfl rfl kq kq iq g2 (EO.nil ?_))))))))))))))))));exact⟨u-1,by omega,j+1,by omega,g3,B.trans g4,aR kq⟩
   .refine EW.seq (zr (zc 0 d (zp (yb (.int .i32 l) (.int .i32 (-1)) (cM (b:=true) (bne_iff_ne.2 I))) (EO.nil (za S (zT (EW.block (zr (zc 0 g1 (zf (za a (zs (za a (zG (zx (zc 0 g2 (EO.nil ?_)))))))))))))))));exact⟨u-1,by omega,j+1,by omega,g3,B.trans g4,aR kq⟩
  .obtain rfl:j=n:=oq
   rw[a7] at d;exact EW.seq (zr (zc 0 d (zf (za S (zG (EW.exit ⟨rfl,⟨o,A,C⟩,B,aR kq⟩))))))
 rintro e U S ⟨rfl,⟨o,A,C⟩,B,x,rfl⟩;have VM:=D n (jl n);have⟨S2,hE,N,E⟩:=vM T.no A oq (by have:=C.1;omega);have M:=(C.fr A E).sx (tx:=(st n).tx);have F:=B.trans E;have⟨p,q,r,V,q2,q3,q4⟩:=N;refine zr (zc 0 hE (EO.nil (zr (zg 1 S2 (zp (yl s.nx 4 r V.2) (zf (EW.ret ⟨.inr rfl,r,_,kq,q4,M,Y.trans F.1 λb D z=>W b D z,λb z=>?_⟩)))))));by_cases R:b<H.nx
 .have:=F.2 b R ((KS.at V.2).2 (.inr (.inr z)));by_cases Ym:b<s.nx
  .grind
  .have⟨_,_,w⟩:=q4.blk z;have Z:b≠s.nx:=w.ne V dq;omega
 .omega
end
section
variable {s s':AS}{nm:Bq}
variable {all:Iq}{wr:Bq->Int->Bq}
theorem wJ:∀(n k:Nat) (aF:fF),k<=all.length+1->all.length+2-k<=n->∃a c d b,qy all lo wr n k aF=some (a,c,d,b)/\b<=all.length+1/\k<=b
 | 0,k,aF,h1,h2=>by omega
 | n+1,k,aF,h1,h2=>by
  have hs:=ES (stops:=gR) h1;unfold qy;split
  .grind
  .next g =>
   have f:=jQ g;split
   .grind
   .have U:=vD (lo:=lo) (wr:=wr) f;have⟨a,c,d,b,e,h3,h⟩:=wJ n (lb all lo wr (nG all gR k)).2 (dW aF (lb all lo wr (nG all gR k)).1) U.2 oq;grind
def KU(k:Nat):∃i j,(iK all k).1=cP all i j:=by
 unfold iK;split
 .exact⟨_,_,rfl⟩
 .split<;>exact⟨_,_,rfl⟩
structure wS(all:Iq)(wr:Bq->Int->Bq)(T:Bq->Prop)(W:Bq->Int->Prop):Prop where
 t:∀i j,T (cP all i j)
 w:∀i j n,W (cP all i j) n
 l:∀i j n,(wr (cP all i j) n).length<=4*(cP all i j).length
def rI(ht:wS all wr T W):∀(n k:Nat),rR all lo wr T W n k
 | 0,_=>trivial
 | n+1,k=>λ_ _=>⟨⟨ht.t _ _,λ_=>by have⟨i,j,e⟩:=KU (all:=all) (yo all (nG all gR k));rw[e];exact ht.w _ _ _⟩,rI ht n _⟩
def lJ(i j:Nat):(cP all i j).length<=4*(j-i):=by
 have h1:=gG ((all.drop i).take (j-i));have h2:((all.drop i).take (j-i)).length<=j-i:=by simp;omega
 unfold cP;omega
def wS.wl(a:wS all wr T W)(i j:Nat)(n:Int):(wr (cP all i j) n).length<=16*(j-i):=by
 have:=a.l i j n
 have:=lJ (all:=all) i j;omega
def eB (all:Iq)(lo:Bq->Bq)(wr:Bq->Int->Bq)(k:Nat):fF × Bool × Bool × Nat:=(qy all lo wr (all.length+2) (eL all dE k) []).getD ([],false,false,k)
theorem jF(U:k<=all.length):qy all lo wr (all.length+2) (eL all dE k) []=some ((eB all lo wr k).1,(eB all lo wr k).2.1,(eB all lo wr k).2.2.1,(eB all lo wr k).2.2.2)/\(eB all lo wr k).2.2.2<=all.length+1/\k<=(eB all lo wr k).2.2.2:=by have c:=mz (all:=all) (stops:=dE) U;have⟨a,b,f,d,e,h1,h2⟩:=wJ (all:=all) (lo:=lo) (wr:=wr) (all.length+2) (eL all dE k) [] oq oq;unfold eB;grind
section
variable (all:Iq)
section
variable (lo:Bq->Bq)
def ef(k:Nat):Bq:=lo (cP all k (eL all dE k))
def Qv (nm:Bq):Bool:=aH nm nE||aH nm dM
def kU(wr:Bq->Int->Bq)(x:St):St :=
 ⟨bif (eB all lo wr (x.k+1)).2.2.1&&Qv (ef all lo (x.k+1)) then nb all (ef all lo (x.k+1)) (eB all lo wr (x.k+1)).2.2.2 else (eB all lo wr (x.k+1)).2.2.2,
 bif (eB all lo wr (x.k+1)).2.2.1 then (bif Qv (ef all lo (x.k+1)) then vg all wr (ef all lo (x.k+1)) (eB all lo wr (x.k+1)).2.2.2 else []) else x.tx,
 bif (eB all lo wr (x.k+1)).2.2.1 then ig x.tx x.us++[⟨2,[],ef all lo (x.k+1),(eB all lo wr (x.k+1)).1,(eB all lo wr (x.k+1)).2.1⟩] else x.us⟩
def ve(wr:Bq->Int->Bq)(x:St):St :=
 ⟨(eB all lo wr (x.k+2)).2.2.2,bif (eB all lo wr (x.k+2)).2.2.1 then [] else x.tx,bif (eB all lo wr (x.k+2)).2.2.1 then ig x.tx x.us++[⟨3,[],ef all lo (x.k+2),[],false⟩] else x.us⟩
end
def vk(w:Nat)(x:St):St:=⟨eL all [62] (x.k+w)+1,[],ig x.tx x.us++[⟨4,cP all (x.k+w) (eL all [62] (x.k+w)),[],[],false⟩]⟩
end
def jp(all:Iq)(lo:Bq->Bq)(wr:Bq->Int->Bq)(x:St):St:=match qP all x.k with
 | 0=>⟨GX all x.k,x.tx++wr (cP all x.k (GX all x.k)) 0,x.us⟩
 | 1=>kU all lo wr x
 | 2=>ve all lo wr x
 | 3=>⟨x.k+3,x.tx,x.us⟩
 | 4=>vk all 2 x
 | 5=>⟨Fs all x.k+(Bt all (Fs all x.k)).length,[],ig x.tx x.us++[⟨4,cP all (x.k+4) (Fs all x.k),[],[],false⟩]⟩
 | 6=>⟨eL all [62] (qG all x.k)+1,[],ig x.tx x.us++[⟨5,[],lo (cP all (vL all x.k) (qG all x.k)),[],false⟩]⟩
 | 7=>vk all 2 x
 | _=>vk all 1 x
theorem wY(h:qP all k=2):dL all (k+1)=47:=by
 unfold qP at h;cases h1:(dL all k==60)<;>rw[h1] at h
 .cases h
 cases h2:kI (dL all (k+1))<;>rw[h2] at h
 .grind
 .cases h
def OG:List FuncId:=[151,152,153,154,155,254,255,256,327]
structure Wp(rn:Nat)(all:Iq)(lo:Bq->Bq)(wr:Bq->Int->Bq)(T:Bq->Prop)(W:Bq->Int->Prop)(pr:Prim):Prop where
 j:Hr rn all lo wr T W pr
 t:wV rn all pr
 no:∀f,f∈OG->pr f=none
 a:wS all wr T W
 len:all.length<=20000
theorem Rs(b:Wp rn all lo wr T W pr)(x:St)(y:dL all x.k ≠ -1)(R:x.tx.length<=400000)(P:x.us.length<=400000):N6 pr rn c all x (jp all lo wr x):=by
 refine⟨y,λs o F=>?_⟩;have E:=b.len;have z:x.k<all.length:=jQ y;have⟨p,q,r,h1,_,_⟩:=o.open;have⟨v,h,e1,g,G⟩:=Od b.j b.t h1 oq;have⟨e,d⟩:=o.D1 G;have l:=F.frS o d;unfold jp;generalize A:qP all x.k=n at *;rcases n with _|_|_|_|_|_|_|_|n
 .cases g;have Q:=E8 (all:=all) (k:=x.k);have⟨f,U,g1,g2⟩:=NV b.j b.t oq (b.a.w _ _ _) e l (by have:=b.a.wl x.k (GX all x.k) 0;omega);exact .inr ⟨h,f,e1,U,g1,d.trans g2⟩
 .cases g;have⟨u,I,J⟩:=jF (lo:=lo) (wr:=wr) (k:=x.k+1) z;have⟨f,U,g1,g2⟩:=Nr (k2:=nb all (ef all lo (x.k+1)) (eB all lo wr (x.k+1)).2.2.2) (ZY:=vg all wr (ef all lo (x.k+1)) (eB all lo wr (x.k+1)).2.2.2) b.j z (b.a.t _ _) rfl u (rI b.a _ _) e l oq oq λ_ H S V D C=>by
   have O:=ue (all:=all) (nm:=ef all lo (x.k+1)) (k:=(eB all lo wr (x.k+1)).2.2.2);have N:(vg all wr (ef all lo (x.k+1)) (eB all lo wr (x.k+1)).2.2.2).length<=400000:=by
    have L:=b.a.wl (eB all lo wr (x.k+1)).2.2.2 (nb all (ef all lo (x.k+1)) (eB all lo wr (x.k+1)).2.2.2) 0;have M:=lJ (all:=all) (eB all lo wr (x.k+1)).2.2.2 (nb all (ef all lo (x.k+1)) (eB all lo wr (x.k+1)).2.2.2);unfold vg;cases aH (ef all lo (x.k+1)) dM
    .grind
    .grind
   exact Mj b.j b.t (b.no 327 dq) H oq (λ_=>b.a.w _ _ _) D C (by rw[List.length_nil];change 0+(vg all wr (ef all lo (x.k+1)) _).length<=_;omega)
  exact .inl ⟨_,_,_,h,f,e1,U,g1,d.trans g2⟩
 .cases g;have K:=wY A;have m:x.k+1<all.length:=jQ gq;have⟨u,I,J⟩:=jF (lo:=lo) (wr:=wr) (k:=x.k+2) m;have⟨f,U,g1,g2⟩:=SV b.j m (b.a.t _ _) rfl u (rI b.a _ _) e l oq oq;exact .inl ⟨_,_,_,h,f,e1,U,g1,d.trans g2⟩
 .obtain⟨B,rfl,i⟩:=g;have⟨f,U,g1,g2⟩:=QY i (b.no 254 dq) oq e;exact .inl ⟨_,_,_,h,f,e1,U,g1,d.trans g2⟩
 .obtain⟨B,rfl,i⟩:=g;have⟨f,U,g1,g2⟩:=CF b.j (b.no 154 dq) i (.inr (.inr ⟨rfl,rfl⟩)) (b.no 255 dq) oq e oq oq;exact .inl ⟨_,_,_,h,f,e1,U,g1,d.trans g2⟩
 .cases g;have⟨f,U,g1,g2⟩:=Ft b.j b.t (b.no 256 dq) (b.no 151 dq) oq e oq oq;exact .inl ⟨_,_,_,h,f,e1,U,g1,d.trans g2⟩
 .cases g;have⟨f,U,g1,g2⟩:=FA b.j (b.no 152 dq) oq (b.a.t _ _) e oq oq;exact .inl ⟨_,_,_,h,f,e1,U,g1,d.trans g2⟩
 .obtain⟨B,rfl,i⟩:=g;have⟨f,U,g1,g2⟩:=CF b.j (b.no 154 dq) i (.inl ⟨rfl,rfl⟩) (b.no 153 dq) oq e oq oq;exact .inl ⟨_,_,_,h,f,e1,U,g1,d.trans g2⟩
 .obtain⟨B,rfl,i⟩:=g;have⟨f,U,g1,g2⟩:=CF b.j (b.no 154 dq) i (.inr (.inl ⟨rfl,rfl⟩)) (b.no 155 dq) oq e oq oq;exact .inl ⟨_,_,_,h,f,e1,U,g1,d.trans g2⟩
def zi(tx:Bq)(a:List Tok):(ig tx a).length<=a.length+1:=by
 unfold ig;split
 .omega
 .simp
def LJ(k:Nat):(Bt all k).length<=4:=by unfold Bt;cases kn all k [45,45,62]<;>cases kn all k [45,45,33,62]<;>decide
theorem A6(c:wS all wr T W)(x:St)(f:dL all x.k ≠ -1)(u:x.tx.length<=16*x.k)(s:x.us.length<=2*x.k) :
  x.k<(jp all lo wr x).k/\(jp all lo wr x).k<=all.length+20/\(jp all lo wr x).tx.length<=16*(jp all lo wr x).k/\(jp all lo wr x).us.length<=2*(jp all lo wr x).k:=by
 have i:x.k<all.length:=jQ f;have r:=zi x.tx x.us;have a:∀w,w<=4->x.k<(vk all w x).k/\(vk all w x).k<=all.length+20/\(vk all w x).tx.length<=16*(vk all w x).k/\(vk all w x).us.length<=2*(vk all w x).k:=λw t=>by
  have h1:=th (all:=all) (stops:=[62]) (k:=x.k+w);have h2:x.k+w<=eL all [62] (x.k+w):=by unfold eL;omega
  refine⟨?_,?_,Nat.zero_le _,?_⟩
  .show x.k<eL all [62] (x.k+w)+1;omega
  .show eL all [62] (x.k+w)+1<=_;omega
  .show(ig x.tx x.us++[_]).length<=2*(eL all [62] (x.k+w)+1);simp;omega
 unfold jp;generalize h:qP all x.k=n;rcases n with _|_|_|_|_|_|_|_|n
 .have⟨m,h1,h2,h3,b⟩:=eX all (λj=>qP all j != 0) x.k;change GX all x.k=x.k+m at h1;have l:m≠0:=λe=>by grind
  have U:=c.wl x.k (x.k+m) 0;grind
 .have⟨o,p,q⟩:=jF (lo:=lo) (wr:=wr) (k:=x.k+1) i;have l:=ue (all:=all) (nm:=ef all lo (x.k+1)) (k:=(eB all lo wr (x.k+1)).2.2.2);have U:=c.wl (eB all lo wr (x.k+1)).2.2.2 (nb all (ef all lo (x.k+1)) (eB all lo wr (x.k+1)).2.2.2) 0;have g:=lJ (all:=all) (eB all lo wr (x.k+1)).2.2.2 (nb all (ef all lo (x.k+1)) (eB all lo wr (x.k+1)).2.2.2);show x.k<(kU all lo wr x).k/\(kU all lo wr x).k<=_/\(kU all lo wr x).tx.length<=16*(kU all lo wr x).k/\(kU all lo wr x).us.length<=2*(kU all lo wr x).k;unfold kU vg;grind
 .have d:x.k+1<all.length:=jQ (by rw[wY h];decide);have⟨o,p,q⟩:=jF (lo:=lo) (wr:=wr) (k:=x.k+2) d;show x.k<(ve all lo wr x).k/\(ve all lo wr x).k<=_/\(ve all lo wr x).tx.length<=16*(ve all lo wr x).k/\(ve all lo wr x).us.length<=2*(ve all lo wr x).k;unfold ve;grind
 .grind
 .exact a 2 oq
 .have⟨m,h1,h2,h3,b⟩:=eX all (λj=>!(Bt all j).isEmpty) (x.k+2);change Fs all x.k=x.k+2+m at h1;have U:=LJ (all:=all) (Fs all x.k);grind
 .have h1:vL all x.k<=max (x.k+9) all.length:=EU;have h2:qG all x.k<=max (vL all x.k) all.length:=th;have h3:=th (all:=all) (stops:=[62]) (k:=qG all x.k);have b:x.k+9<=vL all x.k:=by unfold vL nG;omega
  have U:vL all x.k<=qG all x.k:=by unfold qG eL;omega
  have g:qG all x.k<=eL all [62] (qG all x.k):=by unfold eL;omega
  grind
 .exact a 2 oq
 .exact a 1 oq
def runK (all:Iq)(lo:Bq->Bq)(wr:Bq->Int->Bq):Nat->St->St
 | 0,x=>x
 | n+1,x=>if dL all x.k = -1 then x else runK all lo wr n (jp all lo wr x)
def Mk (all:Iq)(lo:Bq->Bq)(wr:Bq->Int->Bq)(x:St):Nat->St
 | 0=>x
 | n+1=>jp all lo wr (Mk all lo wr x n)
def nh(x:St):∀n,Mk all lo wr x (n+1)=Mk all lo wr (jp all lo wr x) n
 | 0=>rfl
 | n+1=>by show jp all lo wr (Mk all lo wr x (n+1))=_;rw[nh x n];rfl
def Lk (all:Iq)(x:St):Prop:=x.k<=all.length+20/\x.tx.length<=16*x.k/\x.us.length<=2*x.k
def J8(ht:wS all wr T W):∀(m:Nat) (x:St),Lk all x->all.length<x.k+m->∃n,(∀i,i<n->dL all (Mk all lo wr x i).k ≠ -1)/\dL all (Mk all lo wr x n).k = -1/\(∀i,i<=n->Lk all (Mk all lo wr x i))/\runK all lo wr m x=Mk all lo wr x n
 | 0,x,hI,hm=>⟨0,λi hi=>by omega,Ee (by show all.length<=x.k;omega),λi hi=>by rw[Nat.le_zero.1 hi];exact hI,rfl⟩
 | m+1,x,hI,hm=>by
  by_cases hl:dL all x.k = -1
  .exact⟨0,λi hi=>by omega,hl,λi hi=>by rw[Nat.le_zero.1 hi];exact hI,by unfold runK;rw[ip hl];rfl⟩
  .have⟨a1,a2,a3,a4⟩:=A6 (lo:=lo) ht x hl hI.2.1 hI.2.2;have⟨n,h1,h2,h3,h4⟩:=J8 ht m (jp all lo wr x) ⟨a2,a3,a4⟩ oq;refine⟨n+1,λi hi=>?_,?_,λi hi=>?_,?_⟩
   .cases i with
    | zero=>exact hl
    | succ i=>rw[nh];exact h1 i oq
   .rw[nh];exact h2
   .cases i with
    | zero=>exact hI
    | succ i=>rw[nh];exact h3 i oq
   .unfold runK;rw[iw hl,nh];exact h4
def sM (all:Iq)(lo:Bq->Bq)(wr:Bq->Int->Bq):List Tok:=ig (runK all lo wr (all.length+1) ⟨0,[],[]⟩).tx (runK all lo wr (all.length+1) ⟨0,[],[]⟩).us
theorem MI(d:Wp rn all lo wr T W pr)(h1:Has s 1 (.cells cR.toArray 335))(q:rn<s.nx) :
  ∃e v l,Ef pr 40 #[am rn 0] s v e/\rQ e v l/\gu e l (sM all lo wr)/\aO (λ_=>False) s e/\(∀b,blk v b->s.nx<b):=by
 have U:=d.len;have⟨n,m,o,k,p⟩:=J8 (lo:=lo) d.a (all.length+1) ⟨0,[],[]⟩ ⟨Nat.zero_le _,Nat.zero_le _,Nat.zero_le _⟩ gq
 have:=ZC d.j.h.g (st:=Mk all lo wr ⟨0,[],[]⟩) rfl (λi f=>by have c:=k i oq;exact Rs d _ (m i f) (by have:=c.1;have:=c.2.1;omega) (by have:=c.1;have:=c.2.2;omega)) o (λi f=>by have c:=k i f;exact⟨by have:=c.1;omega,by have:=c.1;have:=c.2.1;omega,by have:=c.1;have:=c.2.2;omega⟩) h1 q;unfold sM;rw[p];exact this
end
end Go.Proofs.YtgcaionclkbehaaGreatDoor
