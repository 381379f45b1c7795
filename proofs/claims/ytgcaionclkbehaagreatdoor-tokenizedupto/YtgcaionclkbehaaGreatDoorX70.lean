import Derived.Test.YtgcaionclkbehaaGreatDoorX57
import Derived.Lib.ConvBytes
set_option linter.all false
set_option maxHeartbeats 4000000
set_option maxRecDepth 100000
namespace Go.Proofs.YtgcaionclkbehaaGreatDoor
open Go.Conc Go.RowKit Go.Lib Tryz
variable [Inhabited KC]
def yD(l:Bq):dj .neq (str l) (str l)=some (.bool false):=by unfold dj;simp only;rw[(eS l l).2 O];rfl
def Y1 (s:AS)(v:Value)(m:Bq):Prop:=∃ad n c,v=.slice ad n c/\n<=1000000000/\(0<n->∃b cs fz,ad=some ⟨b,0,none⟩/\Has s b (.cells cs 47 fz)/\∀k,k<n->cs[k*2+0]?=some (str m)/\cs[k*2+1]?=some (str []))
def Bw(s:AS)(e:TypeId)(St:AS->Value->Bq->Prop)(v w:Value):Prop:=∃av N cv aw cw,v=.slice av N cv/\w=.slice aw N cw/\N<=1000000000/\(0<N->∃b1 Ky f1 b2 xo f2,av=some ⟨b1,0,none⟩/\aw=some ⟨b2,0,none⟩/\Has s b1 (.cells Ky e f1)/\Has s b2 (.cells xo 9 f2)/\∀i,i<N->∃x m,Ky[i]?=some x/\xo[i]?=some (str m)/\St s x m)
def G8(wb i:Nat)(x:Nq):TL:=[aF wb 0,x 1,.bool false,num i]++fW x 4 225
def MS(wb i k:Nat)(x:Nq):TL:=[aF wb 0,x 1,.bool false,num i,num k]++fW x 5 224
section
variable {pr:Prim}{s:AS}{wb n:Nat}{v:Nq}
def Ut(h:Has s wb (lS v n))(V:Bw s 42 Y1 (v 6) (v 7))(M:Nq) :
  Ew pr (match f34.body with|some (.seq _<|.seq (.seq _ c) _)=>c|_=>.skip) (G8 wb 0 M) s λe d S=>e=.normal/\S=s/\∃i x,d=G8 wb i x:=by
 have⟨G,N,j,R,B,hv,Z,hN,C⟩:=V;have o:(#[v 0,v 1,v 2,v 3,v 4,v 5,v 6,v 7,v 8,v 9,num n]:Aq)[6]?=some (.slice G N j):=by show some (v 6)=_;rw[hv]
 have J:(#[v 0,v 1,v 2,v 3,v 4,v 5,v 6,v 7,v 8,v 9,num n]:Aq)[7]?=some (.slice R N B):=by show some (v 7)=_;rw[Z]
 have h:=h.2;unfold lS at h;generalize (#[v 0,v 1,v 2,v 3,v 4,v 5,v 6,v 7,v 8,v 9,num n]:Aq)=wc at *;refine aD <| aN (aZ (Q:=λe d S=>e=.exit 0/\S=s/\∃i x,d=G8 wb i x) (λm d S=>S=s/\∃i,i+m=N/\∃x,d=G8 wb i x) ?_ N _ _ ⟨rfl,0,oq,M,rfl⟩) ?_
 .rintro m d S ⟨rfl,i,X,x,rfl⟩;by_cases D:i<N
  .obtain⟨f,T,f1,A,U,f2,rfl,rfl,⟨_,q⟩,⟨_,I⟩,r⟩:=C oq;obtain⟨xv,z,p,c2,O,l,cA,rfl,hnA,F⟩:=r i D;refine am <| zr <| zg 4 S <| zp (yl wb 6 (.slice (sq f) N j) h (i:=o)) <| zk 1 <| zp (nT i N D) <| zf <| za S <| zT <| am <| aD (zs <| za S (EW.fill (MS wb i 0) kq λy0=>aD <| aN (aZ (Q:=λe d a=>e=.exit 2/\a=S/\∃k x,d=MS wb i k x) (λm d a=>a=S/\∃k,k+m=l/\∃x,d=MS wb i k x) ?_ l _ _ ⟨rfl,0,oq,y0,rfl⟩) ?_))
   .rintro m' d a ⟨rfl,k,Y,y,rfl⟩;by_cases E:k<l
    .obtain⟨b,cs,fz,rfl,⟨_,g⟩,W⟩:=F oq;have⟨d0,H⟩:=W k E;have K:=e9 (P:=prog) (t:=71) underlying71 rfl h o;have L:=e9 (P:=prog) (t:=42) underlying42 rfl q p;have m3:=e9 (P:=prog) (t:=9) underlying9 rfl g d0;have m4:=e9 (P:=prog) (t:=62) underlying62 rfl h J;have m5:=e9 (P:=prog) (t:=9) underlying9 rfl I c2;exact am <| zr <| zg 4 a <| zp (yl wb 6 (.slice (sq f) N j) h (i:=o)) <| zk 1 (zp (yi f 0 N j i none .i64 (i:Nat) 1 oq oq oq)<|zo a <| zp (yl f i (.slice (sq b) l cA) q (i:=p)) <| zk 1 <| zp (nT k l E) <| zf <| za a <| zT <| am <| aD (am <| bO kq kq kq (zq <| zq <| zq <| zt a <| zu (yl wb 6 (.slice (sq f) N j) h (i:=o)) (zq <| zu (yi f 0 N j i none .i64 (i:Nat) 1 oq oq oq) (zt a <| zu (yl f i (.slice (sq b) l cA) q (i:=p)) (zq <| zu (yi b 0 l cA (k*2) none .i64 (k:Nat) 2 oq oq oq) (zq <| zt a <| zu (yl b (k*2+0) (str z) g (i:=d0)) (zq <| zq <| zq <| zt a <| zu (yl wb 7 (.slice (sq A) N B) h (i:=J)) (zq <| zu (yi A 0 N B i none .i64 (i:Nat) 1 oq oq oq) (zt a <| zu (yl A i (str z) I (i:=c2)) (zu (aI (u:=str z) (w:=str z) rfl kq kq<|yD _)<|zq <| zq <| zq <| zq <| zt a <| zu (yl wb 6 (.slice (sq f) N j) h (i:=o)) (zq <| zu (yi f 0 N j i none .i64 (i:Nat) 1 oq oq oq) (zt a <| zu (yl f i (.slice (sq b) l cA) q (i:=p)) (zq <| zu (yi b 0 l cA (k*2) none .i64 (k:Nat) 2 oq oq oq) (zq <| zt a <| zu (yl b (k*2+1) (str []) g (i:=H)) (zq <| zq <| cg ⟨Dz<|Bm K <| Bm L <| Bm m3 <| Bm m4 <| Bm m5 <| Bm K <| Bm L ldz,_,_,_,_,_,_,rfl,rfl,za a <| zF <| zx <| zk 1 <| zp (na k 1 oq) <| zf ⟨m'-1,oq,rfl,k+1,oq,aP kq⟩⟩))))))))))))))))
    .obtain rfl:k=l:=oq
     exact am <| zr <| zg 4 a <| zp (yl wb 6 (.slice (sq f) N j) h (i:=o)) <| zk 1 (zp (yi f 0 N j i none .i64 (i:Nat) 1 oq oq oq)<|zo a <| zp (yl f i (.slice O k cA) q (i:=p)) <| zk 1 <| zp (nF k k E) <| zf <| za a <| aJ kq (EW.exit ⟨rfl,rfl,k,aP kq⟩))
   .rintro e d a ⟨rfl,rfl,k,y,rfl⟩;exact zx <| zk 1 <| zp (na i 1 oq) <| zf ⟨m-1,oq,rfl,i+1,oq,aP kq⟩
  .obtain rfl:i=N:=oq
   exact am <| zr <| zg 4 S <| zp (yl wb 6 (.slice G i j) h (i:=o)) <| zk 1 <| zp (nF i i D) <| zf <| za S <| aJ kq (EW.exit ⟨rfl,rfl,i,aP kq⟩)
 .rintro e d S ⟨rfl,rfl,i,x,rfl⟩;exact⟨rfl,rfl,i,x,rfl⟩
end
def Y2 (s:AS)(v:Value)(m:Bq):Prop:=∃ad n c,v=.slice ad n c/\n<=1000000000/\(0<n->∃b cs fz,ad=some ⟨b,0,none⟩/\Has s b (.cells cs 60 fz)/\∀k,k<n->k*5+5<=cs.size/\((cs.toList.drop<|k*5).take 5).toArray=#[num 0,str m,str [],aX,.bool false])
def G9(wb i:Nat)(x:Nq):TL:=[aF wb 0,x 1,.bool false,x 3,x 4,num i]++fW x 6 223
def MT(wb i k:Nat)(x:Nq):TL:=[aF wb 0,x 1,.bool false,x 3,x 4,num i,num k]++fW x 7 222
abbrev Oc(m:Bq):Obj:=.cells #[num 0,str m,str [],aX,.bool false] 60
section
variable {pr:Prim}{s:AS}{wb n:Nat}{v:Nq}
def Uu(I:Has s wb (lS v n))(hR:Bw s 56 Y2 (v 2) (v 3))(Z:Nq) :
  Ew pr (match f34.body with|some (.seq _<|.seq _<|.seq (.seq _ c) _)=>c|_=>.skip) (G9 wb 0 Z) s λe h S=>e=.normal/\eQ s.nx s S/\∃i x,h=G9 wb i x:=by
 have⟨W,N,o,aw,M,hv,hm,hN,O⟩:=hR;have G:(#[v 0,v 1,v 2,v 3,v 4,v 5,v 6,v 7,v 8,v 9,num n]:Aq)[2]?=some (.slice W N o):=by show some (v 2)=_;rw[hv]
 have Y:(#[v 0,v 1,v 2,v 3,v 4,v 5,v 6,v 7,v 8,v 9,num n]:Aq)[3]?=some (.slice aw N M):=by show some (v 3)=_;rw[hm]
 unfold lS at I;generalize (#[v 0,v 1,v 2,v 3,v 4,v 5,v 6,v 7,v 8,v 9,num n]:Aq)=wc at *;refine aD <| aN (aZ (Q:=λe h S=>e=.exit 4/\eQ s.nx s S/\∃i x,h=G9 wb i x) (λm h S=>eQ s.nx s S/\∃i,i+m=N/\∃x,h=G9 wb i x) ?_ N _ _ ⟨⟨lr,λ_ _=>rfl⟩,0,oq,Z,rfl⟩) ?_
 .rintro m h S ⟨A,i,him,x,rfl⟩;have D:=(I.oj A).2;by_cases R:i<N
  .obtain⟨l,Ky,f1,K,xo,f2,rfl,rfl,g1,X,C⟩:=O oq;obtain⟨xv,f,L,c2,ad,p,cA,rfl,hnA,U⟩:=C i R;refine am <| zr <| zg 4 S <| zp (yl wb 2 (.slice (sq l) N o) D (i:=G)) <| zk 1 <| zp (nT i N R) <| zf <| za S <| zT <| am <| aD (zs <| za S (EW.fill (MT wb i 0) kq λy0=>aD <| aN (aZ (Q:=λe h a=>e=.exit 6/\eQ s.nx s a/\∃k x,h=MT wb i k x) (λm h a=>eQ s.nx s a/\∃k,k+m=p/\∃x,h=MT wb i k x) ?_ p _ _ ⟨A,0,oq,y0,rfl⟩) ?_))
   .rintro m' h a ⟨d,k,hkm,y,rfl⟩;have z:=(I.oj d).2;have J:=(g1.oj d).2;by_cases B:k<p
    .obtain⟨b,cs,fz,rfl,g,hc⟩:=U oq;have g:=(g.oj d).2;have⟨z1,z2⟩:=hc k B;refine am <| zr <| zg 4 a <| zp (yl wb 2 (.slice (sq l) N o) z (i:=G)) <| zk 1 (zp (yi l 0 N o i none .i64 (i:Nat) 1 oq oq oq)<|zo a <| zp (yl l i (.slice (sq b) p cA) J (i:=L)) <| zk 1 <| zp (nT k p B) <| zf <| za a <| zT <| am <| aD (zr <| zg 3 a <| zp (yl wb 2 (.slice (sq l) N o) z (i:=G)) <| zk 1 (zp (yi l 0 N o i none .i64 (i:Nat) 1 oq oq oq)<|zo a <| zp (yl l i (.slice (sq b) p cA) J (i:=L)) <| zk 1 (zp (yi b 0 p cA (k*5) none .i64 (k:Nat) 5 oq oq oq)<|zo a <| zp (wm (b:=b) (off:=k*5) (n:=5) rfl underlying60 rfl kq kq g z1 z2) ?_))));have hz:=Has.new a<|Oc [];refine zg 1 (a.add<|Oc [])<|zp (eA (b:=a.nx) (off:=0) (w:=.agg #[num 0,str f,str [],aX,.bool false]) rfl kq kq rfl rfl kq hz.2 iq) <| aB ?_;have E:=AS.set_set (⟨a.hp,a.nx+1⟩:AS) a.nx (some<|Oc [])<|some<|Oc f;refine za (a.add<|Oc f) ?_<|(show _=(a.add<|Oc []).set a.nx (some<|Oc f) by kernel_rfl).trans E;have j:=(Has.new a<|Oc f).2;have q:eQ s.nx s (a.add<|Oc f):=⟨by have:=d.1;simp;omega,λk B=>by rw[AS.bu,iw<|by have:=d.1;omega];exact d.2 k B⟩;have F:=(I.oj q).2;have V:=(X.oj q).2;generalize a.nx=H at *;generalize a.add (Oc f)=T at *;have m1:=e9 (P:=prog) (t:=9) (off:=1) (v:=str f) underlying9 rfl j rfl;have m4:=e9 (P:=prog) (t:=62) underlying62 rfl F Y;have m5:=e9 (P:=prog) (t:=9) underlying9 rfl V c2;exact am <| bO kq kq kq (zq <| zt T <| zu (yl H 1 (str f) j) (zq <| zq <| zq <| zt T <| zu (yl wb 3 (.slice (sq K) N M) F (i:=Y)) (zq <| zu (yi K 0 N M i none .i64 (i:Nat) 1 oq oq oq) (zt T <| zu (yl K i (str f) V (i:=c2)) (zu (aI (u:=str f) (w:=str f) rfl kq kq<|yD _)<|zq <| zq <| zt T <| zu (yl H 0 (num 0) j) (zq <| zq <| zq <| zq <| zt T <| zu (yl H 2 (str []) j) (zq <| zq <| zq <| zq <| zt T <| zu (yl H 3 aX j) (zq <| zq <| zq <| zq <| zq <| zt T <| zu (yl H 4 (.bool false) j) (zq <| cg ⟨Dz<|Bm m1 <| Bm m4 <| Bm m5 ldz,_,_,_,_,_,_,rfl,rfl,za T <| zF <| zx <| zk 1 <| zp (na k 1 oq) <| zf ⟨m'-1,oq,q,k+1,oq,aP kq⟩⟩)))))))))
    .obtain rfl:k=p:=oq
     exact am <| zr <| zg 4 a <| zp (yl wb 2 (.slice (sq l) N o) z (i:=G)) <| zk 1 (zp (yi l 0 N o i none .i64 (i:Nat) 1 oq oq oq)<|zo a <| zp (yl l i (.slice ad k cA) J (i:=L)) <| zk 1 <| zp (nF k k B) <| zf <| za a <| aJ kq (EW.exit ⟨rfl,d,k,aP kq⟩))
   .rintro e h a ⟨rfl,d,k,y,rfl⟩;exact zx <| zk 1 <| zp (na i 1 oq) <| zf ⟨m-1,oq,d,i+1,oq,aP kq⟩
  .obtain rfl:i=N:=oq
   exact am <| zr <| zg 4 S <| zp (yl wb 2 (.slice W i o) D (i:=G)) <| zk 1 <| zp (nF i i R) <| zf <| za S <| aJ kq (EW.exit ⟨rfl,A,i,aP kq⟩)
 .rintro e h S ⟨rfl,A,i,x,rfl⟩;exact⟨rfl,A,i,x,rfl⟩
end
def MU(wb:Nat)(x:Nq):TL:=[aF wb 0,x 1,.bool false,x 3,x 4,x 5,x 6,x 7,num 0]++fW x 9 220
def MV(wb:Nat)(x:Nq):TL:=[aF wb 0,x 1,.bool false,x 3,x 4,x 5,x 6,x 7,x 8,x 9,x 10,num 0]++fW x 12 217
section
variable {pr:Prim}{s:AS}{wb n:Nat}{v:Nq}
def Qd(h:pr 34=none)(d:Has s wb (lS v n))(l:Bw s 42 Y1 (v 6) (v 7))(o:Bw s 56 Y2 (v 2) (v 3))(j:v 4=aX)(k:v 8=aX):∃g,Ef pr 34 #[aF wb 0] s (.bool true) g/\eQ s.nx s g:=by
 refine cm h func34 O<|zs <| za s <| am <| zs <| za s (EW.fill _ kq λr=>(aN (Ut d l r) ?_));rintro e a S ⟨rfl,rfl,i,A,rfl⟩;refine am <| zs <| za S (EW.fill _ kq λt=>(aN (Uu d o t) ?_));rintro e a T ⟨rfl,f,i2,B,rfl⟩;have d:=(d.oj f).2;have p:(#[v 0,v 1,v 2,v 3,v 4,v 5,v 6,v 7,v 8,v 9,num n]:Aq)[4]?=some aX:=by show some (v 4)=_;rw[j]
 have q:(#[v 0,v 1,v 2,v 3,v 4,v 5,v 6,v 7,v 8,v 9,num n]:Aq)[8]?=some aX:=by show some (v 8)=_;rw[k]
 unfold lS at d;generalize (#[v 0,v 1,v 2,v 3,v 4,v 5,v 6,v 7,v 8,v 9,num n]:Aq)=z at *;refine am <| zs <| za T (EW.fill (MU wb) kq λu=>aD <| aN (aZ (Q:=λe a b=>e=.exit 8/\b=T/\∃x,a=MU wb x) (λm a b=>b=T/\∃x,a=MU wb x) ?_ 0 _ _ ⟨O,u,O⟩) ?_)
 .rintro m a b ⟨rfl,y,rfl⟩;exact am <| zr <| zg 4 b <| zp (yl wb 4 aX d (i:=p)) <| zf <| za b <| aJ kq (EW.exit ⟨O,O,aP kq⟩)
 rintro e a b ⟨rfl,rfl,C,rfl⟩;refine am <| zs <| za b (EW.fill (MV wb) kq λw=>aD <| aN (aZ (Q:=λe a c=>e=.exit 12/\c=b/\∃x,a=MV wb x) (λm a c=>c=b/\∃x,a=MV wb x) ?_ 0 _ _ ⟨O,w,O⟩) ?_)
 .rintro m a c ⟨rfl,y,rfl⟩;exact am <| zr <| zg 4 c <| zp (yl wb 8 aX d (i:=q)) <| zf <| za c <| aJ kq (EW.exit ⟨O,O,aP kq⟩)
 rintro e a c ⟨rfl,rfl,D,rfl⟩;exact zs <| za c (aE ⟨.inr O,kq,f⟩)
end
abbrev qF(t:Bq):Obj:=.cells #[str t] 9
section
variable {s:AS}{rn b c:Nat}{all:Iq}{t:Bq}
def T8(i:rn<s.nx)(d:Has s b (qF t))(g:Has s c (qF []))(f:b≠c)(j:t.length<=1000000) :
  Ew (gz rn all) (match f91.body with|some c=>c|none=>.skip) ([aF rn 0,aF b 0,aF c 0]++List.replicate 5 undef) s (λe _ h=>(e=.normal\/e=.ret)/\h=s.set c (some<|qF<|cV all 0 t.length)):=by
 have a:Ef (gz rn all) 92 #[aF rn 0,num 0,num t.length] s (str<|cV all 0 t.length) s:=by refine fI O ?_;simp only[aF];rw[ip (by refine⟨trivial,?_,?_,?_⟩<;>omega)];simp[cV]
 exact zx <| zg 1 s <| zp (yl b 0 _ d.2) <| zp (nl t) <| zc 0 a (zp (ys c 0 (str<|cV all 0 t.length) g.2 iq) <| aB ⟨.inl O,kq⟩)
end
section
variable {s:AS}
structure YO(pr:Prim)(t o:Bq)(s:AS):Prop where
 ex:∃s',EF prog kJ pr 50 #[str t] s (.tuple #[str o,num 0]) s'/\(∀k ob,k<s.nx->s.get k=some ob->ot ob=true->Has s' k ob)/\(∀k,k<s.nx->s.get k=none->s'.get k=none)/\s.nx<=s'.nx
theorem D9{t:Bq}(ht:t.length<=20000)(hT:Tm s) :
  ∃m,∀q:Prim,q 50=none->YO (wA prog m (s.nx+3) ⟨t.toArray⟩ AS.all (gz (s.nx+3) (dH ⟨t.toArray⟩)) q) t (cV (dH ⟨t.toArray⟩) 0 t.length) s:=by
 generalize dH ⟨t.toArray⟩=all;have D:=Has.new s (qF t);have V:Tm (s.add (qF t)):=hT.add rfl;have o1:∀k,k<s.nx->(s.add (qF t)).get k=s.get k:=λk i=>by rw[AS.bu,iw oq]
 have P:(s.add (qF t)).nx=s.nx+1:=rfl;generalize I:s.add (qF t)=j at D V o1 P;have c2:=Has.new j (qF []);have E:=D.add (qF []);have W:Tm (j.add (qF [])):=V.add rfl;have o2:∀k,k<s.nx->(j.add (qF [])).get k=s.get k:=λk i=>by rw[AS.bu,iw oq];exact o1 k i
 have Q:(j.add (qF [])).nx=s.nx+2:=by show j.nx+1=_;omega
 generalize J:j.add (qF [])=n at E c2 W o2 Q;have w:=Has.new n (qF t);have Y:=E.add (qF t);have c3:=c2.add (qF t);have X:Tm (n.add (qF t)):=W.add rfl;have S:∀k,k<s.nx->(n.add (qF t)).get k=s.get k:=λk i=>by rw[AS.bu,iw oq];exact o2 k i
 have B:(n.add (qF t)).nx=s.nx+3:=by show n.nx+1=_;omega
 generalize K:n.add (qF t)=d at Y c3 w X S B;rw[P] at c2 c3;rw[Q] at w;have O:CH (.slice (sq (s.nx+2)) 1 1) d=some ([(⟨t.toArray⟩:ByteArray)],d.set (s.nx+2) none):=by show(match d.get (s.nx+2) with|some (.cells cs 9 _)=>_|_=>_)=_;rw[w.2];simp only;rw[ip ⟨iq,w.1⟩];rfl
 obtain⟨R,A⟩:∃R:AS,R=⟨(d.set (s.nx+2) none).hp,s.nx+3+1⟩:=⟨_,rfl⟩;have g:∀b,b≠s.nx+2->R.get b=d.get b:=λb hb=>by
  have:R.get b=(d.set (s.nx+2) none).get b:=by rw[A];rfl
  rw[this,AS.aU,iw hb]
 have hRn:R.get (s.nx+2)=none:=by
  have:R.get (s.nx+2)=(d.set (s.nx+2) none).get (s.nx+2):=by rw[A];rfl
  rw[this,AS.aU,ip rfl]
 have U:R.nx=s.nx+3+1:=by rw[A]
 have r:=T8 (s:=R) (rn:=s.nx+3) (b:=s.nx) (c:=s.nx+1) (all:=all) (t:=t) oq ⟨oq,(g _ oq).trans Y.2⟩ ⟨oq,(g _ oq).trans c3.2⟩ oq oq;have F:Has _ (s.nx+1) (qF (cV all 0 t.length)):=Has.put (s:=R) (b:=s.nx+1) (o:=qF []) ⟨oq,(g _ oq).trans c3.2⟩ _;have z:∀k,k≠s.nx+1->(R.set (s.nx+1) (some (qF (cV all 0 t.length)))).get k=R.get k:=λk i=>by rw[AS.aU,iw i]
 have nq:(R.set (s.nx+1) (some (qF (cV all 0 t.length)))).nx=s.nx+4:=U;generalize hs3:R.set (s.nx+1) _=l at r F z nq;have p:AS.keeps (d.set (s.nx+2) none) l=true:=by
  unfold AS.keeps;rw[aT];intro b hb;by_cases h1:b=s.nx+1
  .rw[h1,F.2];simp
  .rw[z b h1];by_cases G:b=s.nx+2
   .rw[G,AS.aU,ip rfl];rfl
   .rw[g b G,AS.aU,iw G];cases d.get b<;>rfl
 have⟨m,hm⟩:=T2 (str:=⟨t.toArray⟩) (r0:=s.nx+3) (sB:=d.set (s.nx+2) none) (od:=AS.all) (sj:=gz (s.nx+3) all) (s:=d) (s1:=l.all) (f:=91) (aY:=f91) (y:=#[aF s.nx 0,aF (s.nx+1) 0]) O iq iq func91 rfl rfl B (Hm X) (by show(Nat.blt s.nx d.nx&&(Nat.blt (s.nx+1) d.nx&&true))=true;rw[B];simp[Nat.blt_eq]) (by have r:=r;rw[A] at r;rw[B];exact aN r λe a s' h=>⟨h.1,by rw[h.2];exact p,by rw[h.2]⟩);refine⟨m,λq H=>⟨l.all,?_,λk ob i M N=>?_,λk i M=>?_,?_⟩⟩
 .have u:=hm q;have v:wA prog m (s.nx+3) ⟨t.toArray⟩ AS.all (gz (s.nx+3) all) q 50=none:=by unfold wA;rw[iw dq];exact H
  have L:=F.all rfl;generalize wA prog m (s.nx+3) ⟨t.toArray⟩ AS.all (gz (s.nx+3) all) q=P2 at *;generalize l.all=Z at *;refine aQ v func50 rfl ?_;refine zs <| za j ?_ ((show _=s.add (qF t) by kernel_rfl).trans I);refine am <| zr <| zp (yl s.nx 0 (str t) D.2) <| zp (nl t) <| zp (yb (num (t.length:Nat)) (num 20000) (db (b:=false) (fD oq))) <| zf <| za j <| zF ?_;refine zr <| zf <| za n ?_ ((show _=j.add (qF []) by kernel_rfl).trans J);refine EW.fill (λx=>[str t,aF s.nx 0,str [],num 0,aF (s.nx+1) 0]++fW x 5 8) (by rw[<-P];kernel_rfl) λy=>?_;refine zr <| zp (yl s.nx 0 (str t) E.2) ?_;refine zg 1 d ?_ ((show _=some (n.add (qF t)) by kernel_rfl).trans (by rw[K]));rw[<-Q] at u;refine zc 1 u <| zf <| za Z ?_;refine zr <| zp (yl (s.nx+1) 0 (str (cV all 0 t.length)) L.2) <| zf ?_;exact aE ⟨.inr rfl,kq,kq⟩
 .have T:Has R k ob:=⟨oq,(g k oq).trans ((S k i).trans M)⟩;have C:Has l k ob:=⟨oq,(z k oq).trans T.2⟩;exact C.all N
 .have T:R.get k=none:=(g k oq).trans ((S k i).trans M);have C:l.get k=none:=(z k oq).trans T;cases h:l.all.get k with
  | none=>rfl
  | some o=>rw[((nN (List.range l.nx) l).2 k o h).1] at C;cases C
 .rw[AS.DV];omega
end
section
variable {pr:Prim}{s:AS}{t:Bq}
def Ju(h:pr 30=none)(a:20000<t.length):Ef pr 30 #[str t] s (.tuple #[aX,num 1]) s:=by exact aQ h func30 O<|zs <| za s <| am <| zr <| zk 1 <| zp (nl t) <| zp (yb (num t.length) (num 20000)<|db<|tD oq) <| zf <| za s <| zH (zs <| za s (aE ⟨.inr O,kq,O⟩))
def H3(h:pr 50=none)(g:20000<t.length):∃c,Ef pr 50 #[str t] s (.tuple #[str [],num 1]) c/\eQ s.nx s c:=by refine cm h func50 O ?_;have d:=Has.new s<|qF t;have e:eQ s.nx s (s.add<|qF t):=⟨iq,λk f=>by rw[AS.bu,iw oq]⟩;refine zs <| za (s.add<|qF t) ?_;generalize s.add _=a at *;exact am <| zr <| zp (yl s.nx 0 _ d.2) <| zp (nl t) <| zp (yb (num t.length) (num 20000)<|db<|tD oq) <| zf <| za a <| zH (zs <| za a (aE ⟨.inr O,kq,e⟩))
def H4(h:pr 51=none)(a:20000<t.length):Ef pr 51 #[str t] s (.tuple #[str [],num 1]) s:=by exact aQ h func51 O<|zs <| za s <| am <| zr <| zk 1 <| zp (nl t) <| zp (yb (num t.length) (num 20000)<|db<|tD oq) <| zf <| za s <| zH (zs <| za s (aE ⟨.inr O,kq,O⟩))
end
def QX (ok:Bool)(w:Bq)(nx:Option UInt8):Bq:=bif !ok||ce w [0] then [239,191,189] else bif ce w [13] then (if nx=some 10 then [] else [10]) else w
def N3:Nat->Bq->Bq
 | 0,_=>[]
 | _+1,[]=>[]
 | n+1,b::l=>QX (qu b l).2 ((b::l).take (qu b l).1) l.head?++N3 n ((b::l).drop (qu b l).1)
def OH(n:Nat):N3 n []=[]:=by cases n<;>rfl
def d51 (t:Bq):Bq:=if t.take 3=[239,187,191] then N3 (t.drop 3).length (t.drop 3) else N3 t.length t
def Fo (t o:Bq)(i:Nat)(x:Nq):TL:=[str t,x 1,str [],num 0,str o,num i]++fW x 6 66
def XD(t o:Bq)(i n:Nat)(ok:Bool)(w:Bq)(x:Nq):TL:=[str t,x 1,str [],num 0,str o,num i,num n,.bool ok,str w]++fW x 9 63
def XE(t o:Bq)(i n:Nat)(w:Bq)(x:Nq):TL:=[str t,x 1,str [],num 0,str o,num i,num n,x 7,str w]++fW x 9 63
section
variable {pr:Prim}{s:AS}{t:Bq}
theorem VG{n c:Nat}{a:IntKind}{j:Nat}(b:j<=c):bM n c none (some<|.int a (j:Int))=some (0,j):=by unfold bM;simp only;grind
def EI(h93:pr 93=none)(Zi:pr 181=none)(ht:t.length<=20000)(x0:Nq) :
  Ew pr (match f51.body with|some (.seq _<|.seq _<|.seq _<|.seq _<|.seq (.seq _ c) _)=>c|_=>.skip) (Fo t [] 0 x0) s λe a' S=>e=.normal/\S=s/\∃i x,a'=Fo t (N3 t.length t) i x:=by
 generalize hR:N3 t.length t=R;refine aD <| aN (aZ (Q:=λe a' S=>e=.exit 0/\S=s/\∃i x,a'=Fo t R i x) (λu a' S=>S=s/\∃i o,i<=t.length/\o.length<=3*i/\(t.drop i).length<=u/\o++N3 u (t.drop i)=R/\∃x,a'=Fo t o i x) ?_ t.length _ _ ⟨O,0,[],oq,iq,iq,by simpa using hR,x0,O⟩) ?_
 .rintro u a' S ⟨rfl,i,o,hi,ho,hu,hs,x,rfl⟩;by_cases hr:i<t.length
  .refine am <| zr <| zk 2 <| zp (nl t) <| zp (nT i t.length hr) <| zf <| za S <| zT <| aD ?_;have hb:t[i]?=some t[i]:=gE hr;have Q8:=List.drop_eq_getElem_cons hr;generalize t[i]=b at hb Q8;have Et:(t.drop<|i+1).length=t.length-(i+1):=List.length_drop;have hL:=Cl (s:=S) h93 Zi oq hb;have⟨g1,g2⟩:=Ak b<|t.drop<|i+1;obtain⟨u,rfl⟩:∃v,u=v+1:=⟨u-1,by rw[Q8,lC] at hu;omega⟩;rw[Q8,lC] at hu;rw[Q8] at hs;unfold N3 at hs;rw[<-Q8] at hs;have hhd:(t.drop<|i+1).head?=t[i+1]?:=by rw[List.head?_drop]
   rw[hhd] at hs;generalize qu b (t.drop<|i+1)=N at *;have⟨n,ok⟩:=N;simp only at g1 g2 hs hL;rw[List.drop_drop] at hs;have hin:i+n<=t.length:=oq
   have hsl:(t.take<|i+n).drop i=(t.drop i).take n:=by rw[List.drop_take,Nat.add_sub_cancel_left]
   have hsn:((t.drop i).take n).length=n:=by rw[List.length_take,List.length_drop];omega
   refine zr <| zc 2 hL <| zf <| za S (zr <| zk 4 <| zp (na i n oq) <| zp (ns t ((t.drop i).take n) i (i+n) oq hin hsl) <| zf <| za S ?_);generalize (t.drop i).take n=w at *;refine EW.fill (XD t o i n ok w) kq λy=>am <| aN (Q:=λe a' S'=>e=.normal/\S'=S/\∃y,a'=XE t o i n (QX ok w t[i+1]?) y) ?_ ?_
   .refine aD ?_;unfold QX;cases ok with
    | false =>exact zs <| za S <| zH <| zx <| zf ⟨O,kq,aP kq⟩
    | true =>
     cases h0:ce w [0] with
     | true =>exact zr <| zk 4 <| zp (nE w [0] true h0) <| zf <| za S <| zH <| zx <| zf ⟨O,kq,aP kq⟩
     | false =>
      refine zr <| zk 4 <| zp (nE w [0] false h0) <| zf <| za S <| zG ?_;simp only[Bool.not_true,Bool.false_or,cond_false];cases SV:ce w [13] with
      | false =>rw[cond_false];exact zr <| zk 1 <| zp (nE w [13] false SV) <| zf <| za S <| zG<|zr <| zk 1 <| zp (nE w [13] false SV) <| zf <| za S <| zF ⟨O,kq,aP kq⟩
      | true =>
       rw[cond_true];by_cases vT:i+1<t.length
       .have hc:t[i+1]?=some t[i+1]:=gE vT;rw[hc];generalize t[i+1]=c at hc;by_cases Yh:c=10
        .rw[ip (by rw[Yh])];exact zr <| zk 1 <| zp (nE w [13] true SV) <| zk 2 <| zp (na i 1 oq) <| zk 1 <| zp (nl t) <| zp (nT (i+1) t.length vT) <| zk 4 <| zp (na i 1 oq) <| zp (nx t (i+1) c hc) <| zp (nb c 10 true<|by rw[Yh];rfl) <| zf <| za S <| zH <| zx <| zf ⟨O,kq,aP kq⟩
        .rw[iw (λz=>Yh<|by injection z)];have hcn:((c.toNat:Int)==((10:Nat):Int))=false:=by
          rw[bF];intro z;have h2:c.toNat=10:=oq
          exact Yh<|UInt8.toNat_inj.1 h2
         exact zr <| zk 1 <| zp (nE w [13] true SV) <| zk 2 <| zp (na i 1 oq) <| zk 1 <| zp (nl t) <| zp (nT (i+1) t.length vT) <| zk 4 <| zp (na i 1 oq) <| zp (nx t (i+1) c hc) <| zp (nb c 10 false hcn) <| zf <| za S <| zG (zr <| zk 1 <| zp (nE w [13] true SV) <| zf <| za S <| zH <| zx <| zf ⟨O,kq,aP kq⟩)
       .have hc:t[i+1]?=none:=List.getElem?_eq_none oq;rw[hc,iw iq];exact zr <| zk 1 <| zp (nE w [13] true SV) <| zk 2 <| zp (na i 1 oq) <| zk 1 <| zp (nl t) <| zp (nF (i+1) t.length vT) <| zf <| za S <| zG (zr <| zk 1 <| zp (nE w [13] true SV) <| zf <| za S <| zH <| zx <| zf ⟨O,kq,aP kq⟩)
   .rintro e a' S' ⟨rfl,rfl,y,rfl⟩;have hd:(QX ok w t[i+1]?).length<=3*n:=by
     unfold QX;cases (!ok||ce w [0]) with
     | true=>show 3<=3*n;omega
     | false =>
      cases ce w [13] with
      | true =>
       show(if t[i+1]?=some 10 then ([]:Bq) else [10]).length<=3*n;split
       .exact Nat.zero_le _
       .show 1<=3*n;omega
      | false=>show w.length<=3*n;omega
    generalize QX ok w t[i+1]?=p at *;exact zr <| zk 2 <| zp (nS o p oq) <| zf <| za S' (zx <| zk 2 <| zp (na i n oq) <| zf (⟨u,oq,O,i+n,o++p,hin,by rw[lA];omega,by rw[List.length_drop];omega,by rw[uW];exact hs,aP kq⟩))
  .have e1:t.drop i=[]:=List.drop_eq_nil_of_le oq;rw[e1,OH,List.append_nil] at hs;subst hs;exact am <| zr <| zk 2 <| zp (nl t) <| zp (nF i t.length hr) <| zf <| za S <| aJ kq (EW.exit ⟨O,O,i,aP kq⟩)
 .rintro e a' S ⟨rfl,rfl,i,x,rfl⟩;exact⟨O,O,i,x,O⟩
def Ea(k:pr 51=none)(c:pr 93=none)(a:pr 181=none)(p:t.length<=20000):Ef pr 51 #[str t] s (.tuple #[str (d51 t),num 0]) s:=by
 refine aQ k func51 O<|zs <| za s <| am <| zr <| zk 1 <| zp (nl t) <| zp (yb (num t.length) (num 20000)<|db (b:=false)<|fD oq) <| zf <| za s <| zF ?_;unfold d51;by_cases g:3<=t.length
 .refine am <| zr <| zk 1 <| zp (nl t) <| zp (nG t.length 3 g) <| zk 2<|zp (iL (l:=t) (i:=0) (j:=3) O underlying9 kq ((show _=bM t.length t.length none (some<|num ((3:Nat):Int)) from kq).trans<|VG g) O) ?_;by_cases d:t.take 3=[239,187,191]
  .rw[ip d];refine zp (nE (t.take 3) [239,187,191] true<|(eS _ _).2 d) <| zf <| za s <| zH (zx <| zk 1 <| zp (ns1 t (t.drop 3) 3 g O) <| zf <| za s ?_);have n:(t.drop 3).length<=20000:=by rw[List.length_drop];omega
   generalize t.drop 3=q at *;refine zs <| za s <| am <| zs <| za s (EW.fill (Fo q [] 0) kq λf=>(aN (EI c a n f) ?_));rintro e o S ⟨rfl,rfl,i,r,rfl⟩;exact zs <| za S (aE ⟨.inr O,kq,O⟩)
  .rw[iw d];have u:ce (t.take 3) [239,187,191]=false:=by
    cases h:ce (t.take 3) [239,187,191] with
    | false=>rfl
    | true=>exact absurd ((eS _ _).1 h) d
   refine zp (nE (t.take 3) [239,187,191] false u) <| zf <| za s <| zF (zs <| za s <| am <| zs <| za s (EW.fill (Fo t [] 0) kq λf=>(aN (EI c a p f) ?_)));rintro e o S ⟨rfl,rfl,i,r,rfl⟩;exact zs <| za S (aE ⟨.inr O,kq,O⟩)
 .have d:t.take 3≠[239,187,191]:=λz=>by have:=congrArg List.length z;simp at this;omega
  rw[iw d];refine am <| zr <| zk 1 <| zp (nl t) <| zp (nH t.length 3 g) <| zf <| za s <| zF (zs <| za s <| am <| zs <| za s (EW.fill (Fo t [] 0) kq λf=>(aN (EI c a p f) ?_)));rintro e o S ⟨rfl,rfl,i,r,rfl⟩;exact zs <| za S (aE ⟨.inr O,kq,O⟩)
end
def ku (c:Int):Int × Int × Int :=
 if 194<=c/\c<=223 then (1,128,191) else if c=224 then (2,160,191) else if c=237 then (2,128,159) else if 225<=c/\c<=239 then (2,128,191) else if c=240 then (3,144,191) else if 241<=c/\c<=243 then (3,128,191) else if c=244 then (3,128,143) else (0,0,0)
def dK:Nat->Int->Int->Iq->Nat
 | 0,_,_,_=>0
 | _+1,_,_,[]=>0
 | n+1,lo,hi,c::l=>if lo<=c/\c<=hi then dK n 128 191 l+1 else 0
def TD (l:Iq)(at_:Nat)(c:Int):Nat × Bool :=
 if c<128 then (1,true) else (1+dK (ku c).1.toNat (ku c).2.1 (ku c).2.2 (l.drop<|at_+1),decide (0<(ku c).1)&&decide (dK (ku c).1.toNat (ku c).2.1 (ku c).2.2 (l.drop<|at_+1)=(ku c).1.toNat))
def fC (d:DS):Iq->Iq
 | []=>(gQ d).2
 | b::l=>(cX d b).2++fC (cX d b).1 l
def K6(l:Iq):∀(c:CS) (d:DS),dv c d l=(bq c<|fC d l).2:=by
 induction l with
 | nil=>intro c d;rw[iY];rfl
 | cons b l a=>intro c d;rw[iA,a,fC,kK]
def jz (l:Bq):Iq:=l.map λb=>(b.toNat:Int)
def Mw(d d':DS)(h:d.missing=0)(f:d'.missing=0)(b:Int):(cX d b).2=(cX d' b).2/\((cX d b).1=(cX d' b).1\/(cX d b).1.missing=0/\(cX d' b).1.missing=0):=by
 have e:cX d b=cD d b:=by unfold cX;rw[iw oq]
 have i:cX d' b=cD d' b:=by unfold cX;rw[iw oq]
 rw[e,i];unfold cD;by_cases a:b<128
 .simp only[ip a];exact⟨trivial,.inr ⟨h,f⟩⟩
 by_cases c2:b<194
 .simp only[iw a,ip c2];exact⟨trivial,.inr ⟨h,f⟩⟩
 by_cases c3:b>244
 .simp only[iw a,iw c2,ip c3];exact⟨trivial,.inr ⟨h,f⟩⟩
 by_cases c:b<224
 .simp only[iw a,iw c2,iw c3,ip c];exact⟨trivial,.inl trivial⟩
 by_cases g:b<240
 .simp only[iw a,iw c2,iw c3,iw c,ip g];exact⟨trivial,.inl trivial⟩
 .simp only[iw a,iw c2,iw c3,iw c,iw g];exact⟨trivial,.inl trivial⟩
def sn(l:Iq):∀(d d':DS),d.missing=0->d'.missing=0->fC d l=fC d' l:=by
 induction l with
 | nil=>intro d d' h c;simp[fC,gQ,h,c]
 | cons b l f =>
  intro d d' h c;have⟨e,a⟩:=Mw d d' h c b;rw[fC,fC,e];rcases a with a|⟨a,h3⟩
  .rw[a]
  .rw[f _ _ a h3]
def d0:DS:=⟨0,0,0,0⟩
def A3:Nat->Int->Iq->Int
 | 0,L,_=>L
 | _+1,L,[]=>L
 | n+1,L,b::l=>A3 n (cG L b) l
def pend(n:Nat)(m:n<=2):∀(L lo a:Int) (l:Iq),(dK (n+1) lo a l=n+1->fC ⟨L,((n+1:Nat):Int),lo,a⟩ l=A3 (n+1) L l::fC d0 (l.drop<|n+1))/\(dK (n+1) lo a l≠n+1->fC ⟨L,((n+1:Nat):Int),lo,a⟩ l=65533::fC d0 (l.drop<|dK (n+1) lo a l)):=by
 induction n with
 | zero =>
  intro L lo a l;cases l with
  | nil=>simp[dK,fC,gQ,d0]
  | cons b l =>
   by_cases c:lo<=b/\b<=a
   .refine⟨λ_=>?_,λh=>absurd (by simp[dK,c]) h⟩;have e:cX ⟨L,((0+1:Nat):Int),lo,a⟩ b=(⟨cG L b,0,128,191⟩,[cG L b]):=by unfold cX;rw[ip (by show(0:Int)<((0+1:Nat):Int);omega),ip c];unfold dr;rfl
    rw[fC,e];simp only[List.cons_append,List.nil_append,A3,List.drop_succ_cons,List.drop_zero];rw[sn l ⟨cG L b,0,128,191⟩ d0 O O]
   .refine⟨λh=>absurd h<|by simp[dK,c],λ_=>?_⟩;have e:cX ⟨L,((0+1:Nat):Int),lo,a⟩ b=((cD ⟨L,0,lo,a⟩ b).1,65533::(cD ⟨L,0,lo,a⟩ b).2):=by unfold cX;rw[ip (by show(0:Int)<((0+1:Nat):Int);omega),iw c];rfl
    have d:fC ⟨L,0,lo,a⟩ (b::l)=(cD ⟨L,0,lo,a⟩ b).2++fC (cD ⟨L,0,lo,a⟩ b).1 l:=by rw[fC];rfl
    rw[fC,e];simp only[dK,iw c,List.drop_zero,List.cons_append];rw[<-d,sn (b::l) ⟨L,0,lo,a⟩ d0 O O]
 | succ n k =>
  intro L lo a l;cases l with
  | nil =>
   have g:(0:Int)<((n+1+1:Nat):Int):=oq
   refine⟨λh=>by simp[dK] at h,λ_=>?_⟩;have e:gQ ⟨L,((n+1+1:Nat):Int),lo,a⟩=(⟨L,0,lo,a⟩,[65533]):=by unfold gQ;rw[ip g]
   rw[fC,e];rfl
  | cons b l =>
   by_cases c:lo<=b/\b<=a
   .have⟨j,i2⟩:=k oq (cG L b) 128 191 l;have i:IntKind.i64.wrap (((n+1+1:Nat):Int)-1)=((n+1:Nat):Int):=by rw[IntKind.wrap_i64];omega
    have e:cX ⟨L,((n+1+1:Nat):Int),lo,a⟩ b=(⟨cG L b,((n+1:Nat):Int),128,191⟩,[]):=by unfold cX;rw[ip (by show(0:Int)<((n+1+1:Nat):Int);omega),ip c];unfold dr;simp only[i];rw[iw oq]
    have f:dK (n+1+1) lo a (b::l)=dK (n+1) 128 191 l+1:=by rw[dK,ip c]
    rw[fC,e,f];simp only[List.nil_append,List.drop_succ_cons];refine⟨λh=>?_,λh=>?_⟩
    .rw[j oq,A3]
    .rw[i2 oq]
   .refine⟨λh=>absurd h<|by simp[dK,c],λ_=>?_⟩;have e:cX ⟨L,((n+1+1:Nat):Int),lo,a⟩ b=((cD ⟨L,0,lo,a⟩ b).1,65533::(cD ⟨L,0,lo,a⟩ b).2):=by unfold cX;rw[ip (by show(0:Int)<((n+1+1:Nat):Int);omega),iw c];unfold gQ;rw[ip (by show(0:Int)<((n+1+1:Nat):Int);omega)];rfl
    have d:fC ⟨L,0,lo,a⟩ (b::l)=(cD ⟨L,0,lo,a⟩ b).2++fC (cD ⟨L,0,lo,a⟩ b).1 l:=by rw[fC];rfl
    rw[fC,e];simp only[dK,iw c,List.drop_zero,List.cons_append];rw[<-d,sn (b::l) ⟨L,0,lo,a⟩ d0 O O]
def lf{n:Nat}{lo c:Int}{t:Bq}(h:dK (n+1) lo c (jz t)=n+1):∃b a,t=b::a/\lo<=(b.toNat:Int)/\(b.toNat:Int)<=c/\dK n 128 191 (jz a)=n:=by
 cases t with
 | nil=>simp[jz,dK] at h
 | cons b a =>
  by_cases d:lo<=(b.toNat:Int)/\(b.toNat:Int)<=c
  .have e:dK (n+1) lo c (jz (b::a))=dK n 128 191 (jz a)+1:=by show dK _ lo c ((b.toNat:Int)::jz a)=_;rw[dK,ip d]
   exact⟨b,a,O,d.1,d.2,oq⟩
  .have e:dK (n+1) lo c (jz (b::a))=0:=by show dK _ lo c ((b.toNat:Int)::jz a)=_;rw[dK,iw d]
   omega
def O2(n:Nat):∀(lo a:Int) (l:Iq),dK n lo a l<=n/\dK n lo a l<=l.length:=by
 induction n with
 | zero=>intro lo a l;simp[dK]
 | succ n c =>
  intro lo a l;cases l with
  | nil=>simp[dK]
  | cons b l =>
   rw[dK];split
   .have:=c 128 191 l;simp only[lC];omega
   .simp
def KY(c:Int):128<=(iF c).1/\(iF c).2<=191/\(c=224->(iF c).1=160)/\(c=237->(iF c).2=159)/\(c=240->(iF c).1=144)/\(c=244->(iF c).2=143):=by unfold iF;(repeat' split)<;>simp<;>omega
def K1(c:Int)(h:194<=c)(a:c<=244):ku c=(if c<224 then 1 else if c<240 then 2 else 3,(iF c).1,(iF c).2):=by unfold ku iF;(repeat' split)<;>first|rfl|(exfalso;omega)
def K2(c:Int)(h:c<194\/244<c):ku c=(0,0,0):=by unfold ku;(repeat' split)<;>first|rfl|(exfalso;omega)
def u6{r:Int}{l:Bq}(h:Lib.encodeRuneZ r=jz l):Lib.encodeRune r=l:=by
 unfold Lib.encodeRune;rw[h,jz,List.map_map];conv=>rhs;rw[<-List.map_id l]
 refine List.map_congr_left λb _=>?_;simp
def fU:Bq->Nat × Bool
 | []=>(0,false)
 | c::t=>TD (jz (c::t)) 0 c.toNat
def rY(c:UInt8)(t:Bq)(h:(c.toNat:Int)<128):fU (c::t)=(1,true):=by simp only[fU,TD,ip h]
def yz(c:UInt8)(t:Bq)(h:¬(c.toNat:Int)<128):fU (c::t)=(1+dK (ku c.toNat).1.toNat (ku c.toNat).2.1 (ku c.toNat).2.2 (jz t),decide (0<(ku c.toNat).1)&&decide (dK (ku c.toNat).1.toNat (ku c.toNat).2.1 (ku c.toNat).2.2 (jz t)=(ku c.toNat).1.toNat)):=by simp only[fU,TD,iw h];rfl
def wF(c:UInt8)(t:Bq):∃r,fC d0 (jz (c::t))=r::fC d0 (jz<|(c::t).drop (fU (c::t)).1)/\1<=(fU (c::t)).1/\(fU (c::t)).1<=(c::t).length/\(((c.toNat:Int)<128/\fU (c::t)=(1,true)/\r=(c.toNat:Int))\/(128<=(c.toNat:Int)/\(fU (c::t)).2=true/\128<=r/\Lib.encodeRune r=(c::t).take (fU (c::t)).1)\/(128<=(c.toNat:Int)/\(fU (c::t)).2=false/\r=65533)):=by
 have hc:=c.toNat_lt;have A:∀r,(cX d0 (c.toNat:Int))=(d0,[r])->fC d0 (jz (c::t))=r::fC d0 (jz t):=λr h=>by show fC d0 ((c.toNat:Int)::jz t)=_;rw[fC,h];rfl
 have o:cX d0 (c.toNat:Int)=cD d0 c.toNat:=by unfold cX;rw[iw (by show ¬(0:Int)<0;omega)]
 by_cases d:(c.toNat:Int)<128
 .rw[rY c t d];have R:IntKind.i32.wrap (c.toNat:Int)=(c.toNat:Int):=by rw[IntKind.wrap_i32];omega
  refine⟨(c.toNat:Int),?_,lr,iq,.inl ⟨d,rfl,rfl⟩⟩;rw[A (c.toNat:Int) (by rw[o,cD,ip d,R])];rfl
 have s:=yz c t d;by_cases c2:(c.toNat:Int)<194\/244<(c.toNat:Int)
 .rw[K2 _ c2] at s;have u:fU (c::t)=(1,false):=by rw[s];simp[dK]
  rw[u];refine⟨65533,?_,lr,iq,.inr<|.inr ⟨oq,rfl,rfl⟩⟩;rw[A 65533 (by
   rw[o,cD,iw d];by_cases c3:(c.toNat:Int)<194
   .rw[ip c3]
   .rw[iw c3,ip oq])];rfl
 have i:=K1 (c.toNat:Int) oq oq;have⟨X,Y,Z,b4,b5,b6⟩:=KY (c.toNat:Int)
 -- a lead
 have b:∀(n:Nat) (L:Int),n<=2->(ku (c.toNat:Int)).1=((n+1:Nat):Int)->cD d0 c.toNat=(⟨L,((n+1:Nat):Int),(iF c.toNat).1,(iF c.toNat).2⟩,[])->(dK (n+1) (iF c.toNat).1 (iF c.toNat).2 (jz t)=n+1->128<=A3 (n+1) L (jz t)/\Lib.encodeRuneZ (A3 (n+1) L<|jz t)=jz (c::t.take (n+1)))->∃r,fC d0 (jz (c::t))=r::fC d0 (jz<|(c::t).drop (fU (c::t)).1)/\1<=(fU (c::t)).1/\(fU (c::t)).1<=(c::t).length/\(((c.toNat:Int)<128/\fU (c::t)=(1,true)/\r=(c.toNat:Int))\/(128<=(c.toNat:Int)/\(fU (c::t)).2=true/\128<=r/\Lib.encodeRune r=(c::t).take (fU (c::t)).1)\/(128<=(c.toNat:Int)/\(fU (c::t)).2=false/\r=65533)):=by
  intro n L P I J K;have v:fU (c::t)=(1+dK (n+1) (iF c.toNat).1 (iF c.toNat).2 (jz t),decide (dK (n+1) (iF c.toNat).1 (iF c.toNat).2 (jz t)=n+1)):=by
   rw[s];have F:(ku (c.toNat:Int)).2.1=(iF c.toNat).1:=by rw[i]
   have G:(ku (c.toNat:Int)).2.2=(iF c.toNat).2:=by rw[i]
   have H:decide (0<(ku (c.toNat:Int)).1)=true:=tD oq;rw[F,G,H,I,Bool.true_and,Iu]
  have O:=O2 (n+1) (iF c.toNat).1 (iF c.toNat).2<|jz t;have C:(jz t).length=t.length:=by simp[jz]
  have Q:fC d0 (jz (c::t))=fC ⟨L,((n+1:Nat):Int),(iF c.toNat).1,(iF c.toNat).2⟩ (jz t):=by show fC d0 ((c.toNat:Int)::jz t)=_;rw[fC,o,J];rfl
  have⟨S,T⟩:=pend n P L (iF c.toNat).1 (iF c.toNat).2<|jz t;rw[Q,v];have B:∀k,jz ((c::t).drop<|1+k)=(jz t).drop k:=λk=>by rw[Nat.add_comm,List.drop_succ_cons,jz,jz,List.map_drop]
  by_cases e:dK (n+1) (iF c.toNat).1 (iF c.toNat).2 (jz t)=n+1
  .have⟨M,N⟩:=K e;refine⟨_,by rw[S e,B,e],iq,by simp;omega,.inr<|.inl ⟨oq,by simp[e],M,?_⟩⟩;rw[u6 N];simp only[e];rw[Nat.add_comm 1 (n+1),List.take_succ_cons]
  .refine⟨_,by rw[T e,B],iq,by simp;omega,.inr<|.inr ⟨oq,by simp[e],rfl⟩⟩
 by_cases f:(c.toNat:Int)<224
 .refine b 0 (ey c.toNat 31) oq (by rw[i];simp[f]) (by rw[cD,iw d,iw oq,iw oq,ip f];rfl) λh=>?_;obtain⟨x,w,rfl,D,E,_⟩:=lf h;have g:ey c.toNat 31=(c.toNat:Int)-192:=by rw[lz _ 31 oq oq iq];omega
  have j:A3 (0+1) (ey c.toNat 31) (jz (x::w))=((c.toNat:Int)-192)*64+(x.toNat:Int) % 64:=by show cG (ey c.toNat 31) (x.toNat:Int)=_;rw[g,eK _ _ oq oq oq oq]
  rw[j];refine⟨oq,?_⟩;rw[Lib.encodeRuneZ_two oq oq];simp only[jz,yB,List.take_succ_cons,List.take_zero,List.map_nil,List.cons.injEq,and_true,Nat.zero_add,Nat.reduceAdd];omega
 by_cases m:(c.toNat:Int)<240
 .refine b 1 (ey c.toNat 15) oq (by rw[i];simp[f,m]) (by rw[cD,iw d,iw oq,iw oq,iw f,ip m];rfl) λh=>?_;obtain⟨x,w,rfl,D,E,p⟩:=lf h;obtain⟨y,l,rfl,V,W,_⟩:=lf (n:=0) p;have g:ey c.toNat 15=(c.toNat:Int)-224:=by rw[lz _ 15 oq oq iq];omega
  have j:A3 (1+1) (ey c.toNat 15) (jz (x::y::l))=(((c.toNat:Int)-224)*64+(x.toNat:Int) % 64)*64+(y.toNat:Int) % 64:=by show cG (cG (ey c.toNat 15) (x.toNat:Int)) (y.toNat:Int)=_;rw[g,eK ((c.toNat:Int)-224) _ oq oq oq oq,eK _ _ oq oq oq oq]
  rw[j];refine⟨oq,?_⟩;rw[Lib.encodeRuneZ_three oq];simp only[jz,yB,List.take_succ_cons,List.take_zero,List.map_nil,List.cons.injEq,and_true,Nat.zero_add,Nat.reduceAdd];omega
 .refine b 2 (ey c.toNat 7) oq (by rw[i];simp[f,m]) (by rw[cD,iw d,iw oq,iw oq,iw f,iw m];rfl) λh=>?_;obtain⟨x,w,rfl,D,E,p⟩:=lf h;obtain⟨y,l,rfl,V,W,q⟩:=lf (n:=1) p;obtain⟨z,U,rfl,z1,z2,_⟩:=lf (n:=0) q;have g:ey c.toNat 7=(c.toNat:Int)-240:=by rw[lz _ 7 oq oq iq];omega
  have j:A3 (2+1) (ey c.toNat 7) (jz (x::y::z::U))=((((c.toNat:Int)-240)*64+(x.toNat:Int) % 64)*64+(y.toNat:Int) % 64)*64+(z.toNat:Int) % 64:=by show cG (cG (cG (ey c.toNat 7) (x.toNat:Int)) (y.toNat:Int)) (z.toNat:Int)=_;rw[g,eK ((c.toNat:Int)-240) _ oq oq oq oq,eK (((c.toNat:Int)-240)*64+(x.toNat:Int) % 64) _ oq oq oq oq,eK _ _ oq oq oq oq]
  rw[j];refine⟨oq,?_⟩;rw[Lib.encodeRuneZ_four oq oq];simp only[jz,yB,List.take_succ_cons,List.take_zero,List.map_nil,List.cons.injEq,and_true,Nat.zero_add,Nat.reduceAdd];omega
def pm(c:UInt8)(t:Bq):Bq :=
 if (fU (c::t)).2=false\/(c::t).take (fU (c::t)).1=[0] then [239,191,189] else if (c::t).take (fU (c::t)).1=[13] then (if t.head?=some 10 then [] else [10]) else (c::t).take (fU (c::t)).1
def qw:Nat->Bq->Bq
 | 0,_=>[]
 | _+1,[]=>[]
 | f+1,c::t=>pm c t++qw f ((c::t).drop (fU (c::t)).1)
def Ck(c:UInt8)(t:Bq):1<=(fU (c::t)).1/\(fU (c::t)).1<=(c::t).length:=by have⟨_,_,a,b,_⟩:=wF c t;exact⟨a,b⟩
def E4(f:Nat):∀(a:Nat) (l:Bq),l.length<=f->l.length<=a->qw f l=qw a l:=by
 induction f with
 | zero =>intro a l h _;have:l=[]:=List.length_eq_zero_iff.1 oq;subst this;cases a<;>rfl
 | succ f d =>
  intro a l h b;cases l with
  | nil=>cases a<;>rfl
  | cons c t =>
   have g:=Ck c t;cases a with
   | zero=>simp at b
   | succ a =>have e:((c::t).drop (fU _).1).length=(c::t).length-(fU (c::t)).1:=List.length_drop;rw[qw,qw,d a _ oq oq]
def sr (l:Bq):Bq:=qw l.length l
def pX(c:UInt8)(t:Bq):sr (c::t)=pm c t++sr ((c::t).drop (fU (c::t)).1):=by have b:=Ck c t;have a:((c::t).drop (fU (c::t)).1).length=(c::t).length-(fU _).1:=List.length_drop;show qw (t.length+1) _=_;rw[qw,sr];rw[E4 t.length ((c::t).drop (fU _).1).length _ (by simp only[lC] at a;omega) lr]
def gK:Bq->Bq
 | []=>[]
 | c::t=>if c=10 then sr t else sr (c::t)
def qy(x y:Iq):aG (x++y)=aG x++aG y:=by simp[aG]
def F9:aG [65533]=[239,191,189]:=by
 have:Lib.encodeRuneZ 65533=jz [239,191,189]:=by rw[Lib.encodeRuneZ_three oq];rfl
 simp[aG,u6 this]
def zY(c:UInt8)(h:(c.toNat:Int)<128):aG [(c.toNat:Int)]=[c]:=by
 have:Lib.encodeRuneZ (c.toNat:Int)=jz [c]:=by rw[Lib.encodeRuneZ_one oq oq];rfl
 simp[aG,u6 this]
def iP(c:CS)(r:Int)(l:Iq):(bq c (r::l)).2=(dB c r).2++(bq ⟨true,r==13⟩ l).2:=O
def zQ{c d:UInt8}(h:(c.toNat:Int)=(d.toNat:Int)):c=d:=UInt8.toNat_inj.1 oq
def wz(c:UInt8)(t:Bq)(h:(c.toNat:Int)<128):pm c t=if c=0 then [239,191,189] else if c=13 then (if t.head?=some 10 then [] else [10]) else [c]:=by unfold pm;rw[rY c t h];simp
theorem xW(n:Nat):∀l:Bq,l.length<=n->aG (bq ⟨true,false⟩ (fC d0 (jz l))).2=sr l/\aG (bq ⟨true,true⟩ (fC d0 (jz l))).2=gK l:=by
 induction n with
 | zero =>intro l h;have:l=[]:=List.length_eq_zero_iff.1 oq;subst this;exact⟨rfl,rfl⟩
 | succ n I =>
  intro l B;cases l with
  | nil=>exact⟨rfl,rfl⟩
  | cons c t =>
   have⟨r,H,J,u,E⟩:=wF c t;have K:((c::t).drop (fU (c::t)).1).length=(c::t).length-(fU (c::t)).1:=List.length_drop;have⟨s,i2⟩:=I ((c::t).drop (fU (c::t)).1) oq;rw[H,iP,iP,qy,qy];rcases E with ⟨c1,hu,rfl⟩|⟨c1,hu,r1,he⟩|⟨c1,hu,rfl⟩
   .rw[hu] at s i2;simp only[List.drop_succ_cons,List.drop_zero] at s i2;have m:=pX c t;rw[hu,wz c t c1] at m;simp only[hu,List.drop_succ_cons,List.drop_zero] at m |-;by_cases g:c=13
    .subst g;have y:((13:UInt8).toNat:Int)=13:=rfl;rw[y];have G:((13:Int)==13)=true:=rfl;have a:∀q,(dB ⟨true,q⟩ 13).2=[10]:=λq=>by simp[dB]
     rw[a,a,G,i2];have i:aG [10]=[10]:=zY 10 dq;have j:gK (13::t)=sr (13::t):=by rw[gK,iw dq]
     rw[i,j];have A:[10]++gK t=sr (13::t):=by
      rw[m,iw dq,ip rfl];cases t with
      | nil=>simp[gK];rfl
      | cons e t =>
       by_cases z:e=10
       .subst z;have u:=pX 10 t;rw[rY 10 t dq,wz 10 t dq,iw dq,iw dq] at u;simp only[List.drop_succ_cons,List.drop_zero] at u;simp[gK,u]
       .simp[gK,z]
     exact⟨A,A⟩
    .have b:((c.toNat:Int)==13)=false:=by rw[Bool.eq_false_iff];intro h;exact g (zQ (by simpa using h))
     rw[b,s];rw[iw g] at m;by_cases f:c=10
     .subst f;rw[iw dq] at m;have y:((10:UInt8).toNat:Int)=10:=rfl;rw[y];have i:aG [10]=[10]:=zY 10 dq;have C:(dB ⟨true,false⟩ 10).2=[10]:=by simp[dB]
      have D:(dB ⟨true,true⟩ 10).2=[]:=by simp[dB]
      rw[C,D,i,m,gK,ip rfl];exact⟨rfl,by simp[aG]⟩
     .have j:gK (c::t)=sr (c::t):=by rw[gK,iw f]
      rw[j,m];have d:((c.toNat:Int)==10)=false:=by rw[Bool.eq_false_iff];intro h;exact f (zQ (by simpa using h))
      have p:¬(c.toNat:Int)=13:=by simpa using b
      by_cases v:c=0
      .subst v;have a:∀q,(dB ⟨true,q⟩ (((0:UInt8).toNat:Int))).2=[65533]:=λq=>by cases q<;>rfl
       rw[a,a,F9,ip rfl];exact⟨rfl,rfl⟩
      .have w:¬(c.toNat:Int)=0:=λh=>v (zQ (by simpa using h));have a:∀q,(dB ⟨true,q⟩ (c.toNat:Int)).2=[(c.toNat:Int)]:=λq=>by unfold dB;simp only[d,Bool.and_false,Bool.not_true,Bool.false_and,iw p,iw w,j6,if_false]
       rw[a,a,zY c c1,iw v];exact⟨rfl,rfl⟩
   .have j:gK (c::t)=sr (c::t):=by rw[gK,iw (λh=>by rw[h] at c1;revert c1;decide)]
    have a:∀q,(dB ⟨true,q⟩ r).2=[r]:=λq=>by
     have d:(r==10)=false:=by rw[Bool.eq_false_iff];intro h;have:r=10:=(by simpa using h);omega
     unfold dB;simp only[d,Bool.and_false,Bool.not_true,Bool.false_and,iw (show ¬r=13 by omega),iw (show ¬r=0 by omega),j6,if_false]
    have b:(r==13)=false:=by rw[Bool.eq_false_iff];intro h;have:r=13:=(by simpa using h);omega
    have o:∀x:UInt8,(x.toNat:Int)<128->¬(c::t).take (fU (c::t)).1=[x]:=λx L h=>by
     obtain⟨k,F⟩:∃k,(fU (c::t)).1=k+1:=⟨(fU (c::t)).1-1,oq⟩;rw[F,List.take_succ_cons] at h;have:c=x:=by injection h
     rw[this] at c1;omega
    rw[a,a,b,s,j,pX c t,pm,iw (by
     rintro(h|h)
     .rw[hu] at h;cases h
     .exact o 0 dq h),iw (o 13 dq),<-he];have:aG [r]=Lib.encodeRune r:=by simp[aG]
    rw[this];exact⟨rfl,rfl⟩
   .have j:gK (c::t)=sr (c::t):=by rw[gK,iw (λh=>by rw[h] at c1;revert c1;decide)]
    have a:∀q,(dB ⟨true,q⟩ 65533).2=[65533]:=λq=>by cases q<;>rfl
    have b:((65533:Int)==13)=false:=rfl;rw[a,a,b,s,j,pX c t,pm,ip (.inl hu),F9];exact⟨rfl,rfl⟩
def Mx (l:Bq):Bq:=if l.take 3=[239,187,191] then sr (l.drop 3) else sr l
def Cn(s:ByteArray):aG (dH s)=Mx s.data.toList:=by
 unfold dH;rw[K6];show aG (bq ⟨false,false⟩<|fC d0<|jz s.data.toList).2=_;generalize s.data.toList=l;cases l with
 | nil=>rfl
 | cons c t =>
  have⟨r,p,v,j,k⟩:=wF c t;have m:=(xW _ (c::t) lr).1;by_cases b:(c::t).take 3=[239,187,191]
  .obtain⟨u,q⟩:∃u,c::t=239::187::191::u:=⟨(c::t).drop 3,by rw[<-List.take_append_drop 3 (c::t),b];rfl⟩;have a:fC d0 (jz (239::187::191::u))=65279::fC d0 (jz u):=by
    have f:cX d0 239=(⟨15,2,128,191⟩,[]):=by show((⟨ey 239 15,2,(iF 239).1,(iF 239).2⟩:DS),([]:Iq))=_;rw[lz 239 15 oq oq iq];rfl
    have g:cX ⟨15,2,128,191⟩ 187=(⟨1019,1,128,191⟩,[]):=by show((⟨cG 15 187,1,128,191⟩:DS),([]:Iq))=_;rw[eK 15 187 oq oq oq oq];rfl
    have i:cX ⟨1019,1,128,191⟩ 191=(⟨65279,0,128,191⟩,[65279]):=by show((⟨cG 1019 191,0,128,191⟩:DS),[cG 1019 191])=_;rw[eK 1019 191 oq oq oq oq];rfl
    show fC d0 (239::187::191::jz u)=_;rw[fC,f,fC,g,fC,i,sn (jz u) ⟨65279,0,128,191⟩ d0 O O];rfl
   unfold Mx;rw[ip b,q,a,iP];have:(dB ⟨false,false⟩ 65279).2=[]:=O;rw[this,List.nil_append];exact(xW _ u lr).1
  .unfold Mx;rw[iw b,<-m,p,iP,iP];have d:r≠65279:=by
    rintro rfl;rcases k with ⟨c1,_,h⟩|⟨_,_,_,h⟩|⟨_,_,h⟩
    .omega
    .have e:Lib.encodeRuneZ 65279=jz [239,187,191]:=by rw[Lib.encodeRuneZ_three oq];rfl
     rw[u6 e] at h;have o:(fU (c::t)).1=3:=by have:=congrArg List.length h;simp only[List.length_take,lC,List.length_nil] at this j;omega
     rw[o] at h;exact b h.symm
    .omega
   have:(dB ⟨false,false⟩ r).2=(dB ⟨true,false⟩ r).2:=by
    unfold dB;have n:(r==65279)=false:=by rw[Bool.eq_false_iff];intro h;exact d<|by simpa using h
    simp only[n,Bool.and_false]
   rw[this]
def SJ(n:Nat):ku (n:Int)=(((dO n).1:Int),((dO n).2.1:Int),((dO n).2.2:Int)):=by
 unfold ku dO;by_cases a:194<=n/\n<=223
 .rw[ip a,ip oq];rfl
 rw[iw a,iw oq];by_cases b:n=224
 .rw[ip b,ip oq];rfl
 rw[iw b,iw oq];by_cases c:n=237
 .rw[ip c,ip oq];rfl
 rw[iw c,iw oq];by_cases d:225<=n/\n<=239
 .rw[ip d,ip oq];rfl
 rw[iw d,iw oq];by_cases e:n=240
 .rw[ip e,ip oq];rfl
 rw[iw e,iw oq];by_cases f:241<=n/\n<=243
 .rw[ip f,ip oq];rfl
 rw[iw f,iw oq];by_cases g:n=244
 .rw[ip g,ip oq];rfl
 rw[iw g,iw oq];rfl
def Cc:∀(n lo a:Nat) (t:Bq),dK n (lo:Int) (a:Int) (jz t)=iQ n lo a t
 | 0,_,_,_=>rfl
 | _+1,_,_,[]=>rfl
 | n+1,lo,a,c::t=>by
  show(if (lo:Int)<=(c.toNat:Int)/\(c.toNat:Int)<=(a:Int) then dK n 128 191 (jz t)+1 else 0)=(if c.toNat<lo\/a<c.toNat then 0 else iQ n 128 191 t+1);by_cases h:c.toNat<lo\/a<c.toNat
  .rw[ip h,iw oq]
  .rw[iw h,ip oq];exact congrArg (·+1)<|Cc n 128 191 t
def LD(c:UInt8)(t:Bq):fU (c::t)=qu c t:=by
 by_cases h:c.toNat<128
 .rw[rY c t oq];unfold qu;rw[ip h]
 .rw[yz c t oq];unfold qu;rw[iw h,SJ];have b:dK ((dO c.toNat).1:Int).toNat ((dO c.toNat).2.1:Int) ((dO c.toNat).2.2:Int) (jz t)=iQ (dO c.toNat).1 (dO c.toNat).2.1 (dO c.toNat).2.2 t:=by rw[Iu];exact Cc _ _ _ t
  have d:((dO c.toNat).1:Int).toNat=(dO c.toNat).1:=Iu _;show(1+dK ((dO c.toNat).1:Int).toNat _ _ (jz t),decide _&&decide _)=_;generalize dK ((dO c.toNat).1:Int).toNat _ _ (jz t)=a at b |-;rw[<-b];generalize ((dO c.toNat).1:Int).toNat=q at d |-;subst d;have f:decide (0<((dO c.toNat).1:Int))=decide (0<(dO c.toNat).1):=decide_eq_decide.2 oq;have g:decide (a=(dO c.toNat).1)=(a==(dO c.toNat).1):=by
   by_cases e:a=(dO c.toNat).1
   .rw[tD e,beq_iff_eq.2 e]
   .rw[fD e,bF.2 e]
  rw[f,g]
def Mj(c:UInt8)(t:Bq):pm c t=QX (qu c t).2 ((c::t).take (qu c t).1) t.head?:=by
 unfold pm QX;rw[LD];generalize qu c t=N;have⟨n,e⟩:=N;simp only;generalize (c::t).take n=w;have d:∀q:Bq,ce w q=decide (w=q):=λq=>by
  by_cases h:w=q
  .rw[tD h];exact(eS _ _).2 h
  .rw[fD h];cases z:ce w q with
   | false=>rfl
   | true=>exact absurd ((eS _ _).1 z) h
 rw[d,d];cases e with
 | false=>rw[ip (.inl O)];rfl
 | true =>
  by_cases b:w=[0]
  .rw[ip (.inr b),tD b];rfl
  .rw[iw (λz=>z.elim (λz=>by cases z) b),fD b];by_cases a:w=[13]
   .rw[ip a,tD a];rfl
   .rw[iw a,fD a];rfl
def AH:∀(n:Nat) (l:Bq),qw n l=N3 n l
 | 0,_=>rfl
 | _+1,[]=>rfl
 | n+1,c::t=>by unfold qw N3;rw[Mj,LD,AH n]
def Ua(t:Bq):Mx t=d51 t:=by unfold Mx d51 sr;rw[AH,AH]
def H5(t:Bq)(c:t.length<=20000):cV (dH ⟨t.toArray⟩) 0 t.length=d51 t:=by rw[<-Ua];have a:=uB ⟨t.toArray⟩;have b:(⟨t.toArray⟩:ByteArray).size=t.length:=O;unfold cV;rw[List.drop_zero,tL oq];exact (Cn ⟨t.toArray⟩)
section
variable {ι:Type}{N0:ι->Nat}{M:ι->World->Nat->Prop}{R:ι->Wq}{D:ι->World->World->Array Event->Prop}{X:ι->Gq}{Hd:ι->Hq->World->Prop}{pr:Prim}
variable {P:Program}{KT:TypeId->Prop}{An:dQ}{kt:TypeId->Bool}
section
variable {O:ι->Nat->Prop}{YF:Prim}
open Classical in
theorem og(Y:Cy P KT N0 M O R D X Hd)(hm:P.follows .mixedOrders=true)(Cg:∀ t,kt t=false->¬ KT t)(Bj:∀ (f:FuncId) (aY:Func),P.funcs[f]?=some aY->(aY.name == "runtime.NumGoroutine")=false){k m:Nat}(O1:∀ b,k<=b->An b=none)(WJ:cb P KT An R D X Hd YF)(hp:cb P KT An R D X Hd pr)(f:FuncId):∃ V,cb P KT An R D X Hd (tP f V pr)/\∀ args v s1,args.toList.all (gj m)=true->gj m v=true->EF P kt YF f args ⟨[],k⟩ v s1->V args=some v:=by
 refine⟨λargs=>if h:∃v s1,args.toList.all (gj m)=true/\gj m v=true/\EF P kt YF f args ⟨[],k⟩ v s1 then some (Classical.choose h) else none,⟨?_,?_⟩,?_⟩
 .intro g h args s v s' hf hh;unfold tP at hf;split at hf
  .cases hf;unfold Vz at hh;grind
  .exact hp.nx g h args s v s' hf hh
 .intro g h args s v s' hf hh;unfold tP at hf;split at hf
  .next he =>
   have he:=ja he;subst he;cases hf;unfold Vz at hh;split at hh
   .next v' hv =>
    cases hh;dsimp only at hv;split at hv
    .next hex =>cases hv;have⟨s1,h1,h2,n,h3⟩:=Classical.choose_spec hex;exact qA Y O1 h1 h2<|(kr Y hm Cg WJ Bj n).2 _ _ _ _ _ h3
    .cases hv
   .cases hh
  .exact hp.sound g h args s v s' hf hh
 .intro args v s1 h1 h2 h3;have hex:∃v s1,args.toList.all (gj m)=true/\gj m v=true/\EF P kt YF f args ⟨[],k⟩ v s1:=⟨v,s1,h1,h2,h3⟩;simp only[dif_pos hex];have⟨s2,_,_,h4⟩:=Classical.choose_spec hex;rw[(EF.one h4 h3).1]
end

section
variable {O:ι->Nat->Prop}
def IU(Y:Cy prog dt N0 M O R D X Hd)(d:∀b,32<=b->An b=none)(q:cb prog dt An R D X Hd pr)(e:∀f,f∈[381,388,391,279,392,393,389,278,390]->pr f=none) :
  ∃c i,cb prog dt An R D X Hd (tP 381 i<|tP 390 c pr)/\∀(u:Bq) (w:Bool),u.length<=1000000->i #[str u,.bool w]=some (str<|e8 u<|bif w then 1 else 0):=by
 have⟨c,g,j⟩:=og Y nM cx cL (m:=1) d q q 390;have y:∀(r:Int) (s:AS),Good r->Ef (tP 390 c pr) 390 #[num r] s _ s:=λr s v=>by have⟨o,h⟩:=XR (s:=⟨[],32⟩) (e 390 iq) v;exact Hw I<|j _ _ o I I h
 have a:∀f,f∈[381,388,391,279,392,393,389,278]->tP 390 c pr f=none:=λf p=>by unfold tP;rw[iw (λz=>by have:=ja z;subst this;revert p;decide)];exact e f<|yC [390] p
 have⟨i,n,l⟩:=og Y nM cx cL (m:=1) d g g 381;refine⟨c,i,n,λu w x=>?_⟩;have⟨o,h,_⟩:=DR (s:=⟨[],32⟩) (t:=u) (w:=w) (a 381 iq) (a 388 iq) (a 391 iq) (a 279 iq) (a 392 iq) (a 393 iq) (a 389 iq) (a 278 iq) y x;exact l _ _ o I I h
end
end
def BM(w:World)(e:TypeId)(s:ByteArray):bytesWorld w e s=w.drew.alloc (.cells (bytesCells w e s) e ((bytesCells w e s).size,(bytesCells w e s).size+1)):=by
 have b:(bytesWorld w e s).heap=(w.drew.alloc<|.cells (bytesCells w e s) e ((bytesCells w e s).size,(bytesCells w e s).size+1)).heap:=by
  apply Array.ext_getElem?;intro i;by_cases h:i<w.heap.size
  .rw[bytesWorld_at_old w e s i h];simp[World.alloc,World.drew,-World.alloc_eq,-World.drew_eq,Array.getElem?_push,h,Nat.ne_of_lt h]
  .by_cases a:i=w.heap.size
   .subst a;rw[bytesWorld_at_new];simp[World.alloc,World.drew,-World.alloc_eq,-World.drew_eq]
   .have c:=bytesWorld_size w e s;rw[Array.getElem?_eq_none oq,Array.getElem?_eq_none<|by simp[World.alloc,World.drew,-World.alloc_eq,-World.drew_eq];omega]
 have:bytesWorld w e s={ w.drew.alloc (.cells (bytesCells w e s) e ((bytesCells w e s).size,(bytesCells w e s).size+1)) with heap:=(bytesWorld w e s).heap }:=by simp[bytesWorld,World.freeze,World.alloc,World.drew,-World.alloc_eq,-World.drew_eq]
 rw[this,b]
def mM{P:Program}(w:World)(src dst e:TypeId)(s:ByteArray){u:TypeDesc}(es:Array Event)
 (f:P.underlying src=some u)(b:P.underlying dst=some (.slice e))(d:P.underlying e=some (.int .u8)) :
  (convert src dst<|.string s).events P w es=es:=by
 have a:∀c:Aq,(w.drew.alloc<|.cells c e).shape? w.heap.size=some (e,c.size):=by intro c;simp[World.shape?,World.alloc,World.drew,-World.alloc_eq,-World.drew_eq]
 simp[convert,underlying,run_underlying f,run_underlying b,run_underlying d,f,b,d,Conv.stringToBytes,newRow,markStringish,Question.forced,bytesWorld,bytesCells,grownCap,a,Result.andThen]

section
variable {ι:Type}{N0:ι->Nat}{M:ι->World->Nat->Prop}{O:ι->Nat->Prop}{R:ι->Wq}{D:ι->World->World->Array Event->Prop}{X:ι->Gq}{Hd:ι->Hq->World->Prop}{KT:TypeId->Prop}{fn:FuncId}{Q:fO ι}{a:Act}{w:World}{i:ι}{l:Hq}{ops:Array Oper}{g j k:Nat}{rest:List Nat}{cs xo:Aq}{o:Oper}{t:TypeId}{fz:Nat × Nat}{v:Value}{x:Operand}
def CG{M:World->Nat->Prop}(p:w.heap[g]?=some (.cells cs t fz))(y:M w g)(r:¬KT t):Own KT M w (w.setRow g xo):=by
 have a:∀b,b≠g->(w.setRow g xo).heap[b]?=w.heap[b]?:=λb c=>by simp[World.setRow,Ii,Ne.symm c]
 refine⟨Y,Y,Y,by simp[World.setRow],λb _ d=>a b λe=>d<|e▸y,λb h c f=>?_⟩;by_cases e:b=g
 .subst e;rw[setRow_heap w b cs xo t fz p] at c;cases c;exact absurd f r
 .exact a b e
def Mg(Y:Cy prog dt N0 M O R D X Hd){s:ByteArray}(u:Hd i l w)(E:ops[j]?=some o)(G:Region.wanted o (yielded ops a.tmps)=true)(f:o.op=.convert 9 55 x)(v:a.eval x=.string s)
 (H:∀g c k z,s.size<=k.size->(∀p,p<s.size->k[p]?=some (.int .u8 ((s.data.toList.getD p 0).toNat:Int)))->Hd i ((g,.cells k 5 (k.size,k.size+1))::l) z->cM X fn ops rest i Q (a.put o.dst<|.slice (sq g) s.size c) z):cM X fn ops (j::rest) i Q a w:=by
 have Z:=Y.Z u;refine aM Y.C E G λb B K A=>?_;have c:=Z.rely u B;have r:=Lib.run_convert_string_bytes (P:=prog) b 9 55 5 s underlying9 underlying55 underlying5;have e:=mM (P:=prog) b 9 55 5 s #[] underlying9 underlying55 underlying5;rw[BM] at r;have n:(execOp a.eval o).run prog b=.ok (.value<|.slice (sq b.heap.size) s.size<|grownCap b s.size 0 5) (b.drew.alloc<|.cells (bytesCells b 5 s) 5 ((bytesCells b 5 s).size,(bytesCells b 5 s).size+1)):=by unfold execOp;simp only[f,v,Sem.run_bind,r,Result.andThen_ok,Sem.run_pure]
 have t:(execOp a.eval o).events prog b #[]=#[]:=by unfold execOp;simp only[f,v,Sem.events_bind,r,e,Sem.events_pure,Result.evThen_ok]
 have c2:Hd i l b.drew:=Z.past c ⟨W,W,W,lr,λ_ _ _=>W,λq m=>Z.env.mine (KT:=dt) (w:=b) ⟨W,W,W,lr,λ_ _ _=>W,λ_ _ h _=>W⟩ m,λ_ z _ _=>W⟩ (have h:=Z.size c;h);have d:Own dt (M i) b.drew (b.drew.alloc<|.cells (bytesCells b 5 s) 5 ((bytesCells b 5 s).size,(bytesCells b 5 s).size+1)):=pF (by show ¬dt 5;simp[dt]);have I:Own dt (M i) b _:=⟨d.tape,d.os,d.output,d.grow,λq m L=>heap_alloc_old b.drew _ q m,λq J m y=>d.kt q J m y⟩;rw[n];refine A _ _ ⟨?_,H _ _ _ _ (by simp[bytesCells]) (λp F=>by simp[bytesCells,Array.getElem?_append,List.getD,F])<|Z.grown c2 d⟩;rw[listed_nil t];exact Z.env.jb (Z.size c) I λe g=>by simp at g
end
section
variable {ι:Type}{N0:ι->Nat}{M:ι->World->Nat->Prop}{O:ι->Nat->Prop}{R:ι->Wq}{D:ι->World->World->Array Event->Prop}{X:ι->Gq}{Hd:ι->Hq->World->Prop}{KT:TypeId->Prop}{fn:FuncId}{Q:fO ι}{a:Act}{w:World}{i:ι}{l:Hq}{ops:Array Oper}{g j k off n:Nat}{rest:List Nat}{cs:Aq}{o:Oper}{t:TypeId}{v:Value}{x y:Operand}
theorem P0{P:Program}(f:w.heap[g]?=some (.cells cs t (n,n+1)))(k:off<cs.size)(m:off<n)(j:v.oneCell'=true):(storeCells ⟨g,off,none⟩ [v]).run P w=.ok () (w.setRow g<|cs.setIfInBounds off v)/\(∀i∈(storeCells ⟨g,off,none⟩ [v]).events P w #[],∃h:Addr,i.loc=.cell h/\h.block=g):=by
 have b:(⟨g,off,none⟩:Addr).add 0=⟨g,off,none⟩:=by unfold Addr.add;split<;>simp_all
 have a:w.cell? ⟨g,off,none⟩=some cs[off]:=by simp[World.cell?,f,k]
 have c:w.frozen? ⟨g,off,none⟩=false:=by simp[World.frozen?,f];omega
 have e:(store (⟨g,off,none⟩:Addr) v).run P w=.ok () (w.setRow g<|cs.setIfInBounds off v):=by rw[run_store P w _ v _ j,a];simp[c,setCell_eq_setRow w g off cs t _ v f]
 constructor
 .simp only[storeCells,b,Sem.run_bind,e,Result.andThen_ok];rfl
 .intro i d;have l:(store (⟨g,off,none⟩:Addr) v).events P w #[]=#[⟨.cell ⟨g,off,none⟩,true,false⟩]:=by rw[events_store P w #[] _ v _ j,a];simp only[c,j6,if_false];rfl
  simp only[storeCells,b,Sem.events_bind,e,Result.evThen_ok,l,Sem.events_pure] at d;simp at d;subst d;exact⟨_,Y,Y⟩
def Mf(Y:Cy prog KT N0 M O R D X Hd)(u:Hd i l w)(h:l[k]?=some (g,.cells cs t (n,n+1)))(r:¬KT t)(ho:ops[j]?=some o)(hw:Region.wanted o (yielded ops a.tmps)=true){ty:TypeId}(q:o.op=.store ty x y)(L:a.eval x=.pointer (some ⟨g,off,none⟩))(A:(a.eval y).cells=#[v])(b:(prog.info? ty).map (·.size)=some 1)(hv:v.oneCell'=true)(V:off<cs.size)(W:off<n)
 (H:∀z,Hd i (l.set k (g,.cells (cs.setIfInBounds off v) t (n,n+1))) z->cM X fn ops rest i Q (a.put o.dst undef) z):cM X fn ops (j::rest) i Q a w:=by
 have Z:=Y.Z u;refine aM Y.C ho hw λc S K N=>?_;have d:=Z.rely u S;have⟨B,f⟩:=Z.own d<|mG h;cases hq:prog.info? ty with
 | none=>simp[hq] at b
 | some I =>
  have s:I.size=1:=by simpa[hq] using b
  have⟨U,p⟩:=P0 (P:=prog) (v:=v) f V W hv;have e:(Instr.storeAt ty (.pointer<|some ⟨g,off,none⟩)<|a.eval y).run prog c=.ok () (c.setRow g<|cs.setIfInBounds off v):=by simp[Instr.storeAt,Instr.sureAddr,storeVar,sizeOf,typeInfo,hq,s,A,U]
  have G:(Instr.storeAt ty (.pointer<|some ⟨g,off,none⟩)<|a.eval y).events prog c #[]=(storeCells ⟨g,off,none⟩ [v]).events prog c #[]:=by simp[Instr.storeAt,Instr.sureAddr,storeVar,sizeOf,typeInfo,hq,s,A]
  have m:Own KT (M i) c (c.setRow g<|cs.setIfInBounds off v):=CG f B r;have nn:(execOp a.eval o).run prog c=.ok .skip (c.setRow g<|cs.setIfInBounds off v):=by unfold execOp;simp only[q,L,Sem.run_bind,Sem.run_pure,Result.andThen_ok,e]
  have F:(execOp a.eval o).events prog c #[]=(Instr.storeAt ty (.pointer<|some ⟨g,off,none⟩)<|a.eval y).events prog c #[]:=by unfold execOp;simp only[q,L,Sem.events_bind,e,Result.evThen_ok,Sem.events_pure]
  rw[nn];refine N _ _ ⟨Z.env.jb (Z.size d) m λJ j=>?_,H _<|Z.wX d k h m (setRow_heap c g cs _ t _ f) λq E=>by simp[World.setRow,Ii,Ne.symm E]⟩;have j:=mem_listed j;rw[F,G] at j;have⟨T,z1,z2⟩:=p J j;exact .inl ⟨T,z1,by rw[z2];exact Z.env.mine m B⟩
end
def lZ{a:Act}{o:Oper}{b:BinOp}{x y:Operand}{t z:TypeId}{u v r:Value}(h:o.op=.binOp b t x y z)(d:a.eval x=u)(e:a.eval y=v)(c:dj b u v=some r):ik prog (execOp a.eval o)=some (.value r):=by have⟨_,_,_,s,I⟩:=ut (P:=prog) t c;simp only[execOp,h,d,e,dA,I,s];rfl
def vd{a:Act}{o:Oper}{x y:Operand}{g n c i:Nat}(h:o.op=.indexAddr 55 x y)(e:a.eval x=.slice (sq g) n c)(f:a.eval y=num i)(d:i<n):ik prog (execOp a.eval o)=some (.value<|.pointer<|some ⟨g,i,none⟩):=by
 have j:cH prog 5=some 1:=kq
 have b:(0:Int)<=(i:Int)/\(i:Int)<(n:Int):=oq
 simp[execOp,h,e,f,Instr.indexAt,dA,dU,underlying55,nD,j,num,asIntOf,b,d,mL,Addr.add];exact Eq.symm
section
variable {P:Program}{ι:Type}{N0:ι->Nat}{M:ι->World->Nat->Prop}{O:ι->Nat->Prop}{R:ι->Wq}{D:ι->World->World->Array Event->Prop}{X:ι->Gq}{Hd:ι->Hq->World->Prop}{KT:TypeId->Prop}{fn:FuncId}{Q:fO ι}{a:Act}{w:World}{i:ι}{l:Hq}{ops:Array Oper}{rest:List Nat}
def bX(Y:Cy P KT N0 M O R D X Hd){v:Value}{o:Oper}{j:Nat}(ho:ops[j]?=some o)(hw:Region.wanted o (yielded ops a.tmps)=true)(h:ik P (execOp a.eval o)=some (.value v))(k:cM X fn ops rest i Q (a.put o.dst v) w):cM X fn ops (j::rest) i Q a w :=
 dD Y.C Y.T ho hw λaL K hK=>by rw[(l5 h aL #[]).1];exact hK _ k (l5 h aL #[]).2

def Mh(Y:Cy prog KT N0 M O R D X Hd){o:Oper}{j k g c:Nat}{x:Operand}{cs:Aq}{fz:Nat × Nat}{t:TypeId}{bs:Bq}(u:Hd i l w)(N:l[k]?=some (g,.cells cs t fz))(I:ops[j]?=some o)(L:Region.wanted o (yielded ops a.tmps)=true)(f:o.op=.convert 55 9 x)(r:a.eval x=.slice (sq g) bs.length c)(F:∀q (n:q<bs.length),cs[q]?=some (.int .u8 (bs[q].toNat:Int)))
 (H:∀z,Hd i l z->cM X fn ops rest i Q (a.put o.dst<|.string ⟨bs.toArray⟩) z):cM X fn ops (j::rest) i Q a w:=by
 have Z:=Y.Z u;refine aM Y.C I L λb B K A=>?_;have d:=Z.rely u B;have⟨y,p⟩:=Z.own d<|mG N;have⟨m,E⟩:=xP (w:=b) (e:=5) (g:=g) (c:=c) (l:=bs) underlying55 underlying5 underlying9 (λq n=>by simp[World.cell?,p,F q n]);have J:(execOp a.eval o).run prog b=.ok (.value<|.string ⟨bs.toArray⟩) b:=by unfold execOp;simp only[f,r,Sem.run_bind,m,Result.andThen_ok,Sem.run_pure]
 have G:(execOp a.eval o).events prog b #[]=(convert 55 9<|.slice (sq g) bs.length c).events prog b #[]:=by unfold execOp;simp only[f,r,Sem.events_bind,m,Result.evThen_ok,Sem.events_pure]
 rw[J];refine A _ _ ⟨Z.env.jb (Z.size d) (dM _) λv h=>?_,H _ d⟩;have h:=mem_listed h;rw[G] at h;have⟨s,S,T⟩:=E v h;exact .inl ⟨s,S,by rw[T];exact y⟩
def Kg(i:Nat)(h:i<=1000000):dj .add (num i) (num 1)=some (num ((i+1:Nat):Int)):=by unfold dj;simp only[ip];rw[show(i:Int)+1=((i+1:Nat):Int) by omega,pB oq]
def HN(n:Nat)(h:n<=90):dj .add (.int .u8 (n:Int)) (.int .u8 32)=some (.int .u8 ((n+32:Nat):Int)):=by unfold dj;simp only[fv];rw[IntKind.wrap_u8];simp;omega
def Gf{f:(Nq)->Act}{a:Act}(h:f (λi=>a.tmps.getD i undef)=a):∃x:Nq,a=f x:=⟨_,h.symm⟩
def Ai (b:UInt8):UInt8:=if 65<=b.toNat/\b.toNat<=90 then UInt8.ofNat (b.toNat+32) else b
def sC(u:Bq)(g c i:Nat)(x:Nq):Act:=⟨#[str u,x 1,str [],.slice (some ⟨g,0,none⟩) u.length c,num i,x 5,x 6,x 7,x 8,x 9,x 10,x 11,x 12,x 13,x 14,x 15,x 16,x 17,x 18,x 19,x 20,x 21,x 22,x 23,x 24,x 25,x 26,x 27,x 28,x 29,x 30,x 31,x 32,x 33,x 34],[]⟩
def FE(u:Bq)(i:Nat)(cs:Aq):Prop:=u.length<=cs.size/\∀(p:Nat) (b:UInt8),u[p]?=some b->cs[p]?=some (.int .u8 (((if p<i then Ai b else b).toNat:Nat):Int))
def Iz(Y:Cy prog dt N0 M O R D X Hd){u:Bq}(hu:u.length<=1000000){E:ι}(hj:Hd E l w):lh prog R D X 379 #[str u] E w λi' v' P=>i'=E/\v'=str (cU u)/\∃q,Hd E (q::l) P:=by
 refine⟨_,_,func379,rq,W,?_⟩;simp only[ntmps379,bZ,Nat.reduceAdd,Nat.reduceSub];refine qb (f:=λx=>⟨#[str u,x 1,x 2,x 3,x 4,x 5,x 6,x 7,x 8,x 9,x 10,x 11,x 12,x 13,x 14,x 15,x 16,x 17,x 18,x 19,x 20,x 21,x 22,x 23,x 24,x 25,x 26,x 27,x 28,x 29,x 30,x 31,x 32,x 33,x 34],[]⟩) kq ?_;intro x;refine bY Y.C Y.T <| aW Y.C Y.T ?_;simp only[iB];refine bX Y W kq (v:=str []) kq <| bv Y.C Y.T (bY Y.C Y.T <| aW Y.C Y.T ?_);simp only[iB,Nat.reduceAdd];refine bX Y W kq (v:=str u) kq<|Mg Y (s:=⟨u.toArray⟩) hj W kq W kq λg c cs z uN Es a=>(bX Y W kq (v:=.slice (sq g) u.length c) kq <| bv Y.C Y.T ?_);have o:FE u 0 cs:=⟨uN,λp b A=>by have⟨L,h2⟩:=gS.1 A;rw[Es p L];simp[List.getD,A]⟩;refine bY Y.C Y.T <| bY Y.C Y.T <| aW Y.C Y.T ?_;simp only[iB,Nat.reduceAdd];refine bX Y W kq (v:=num 0) kq <| bv Y.C Y.T (qb (f:=sC u g c 0) kq ?_);intro x1;refine fX Y.C Y.T <| w5 Y.C Y.T (λm i' F P=>i'=E/\∃i cs,i+m=u.length/\FE u i cs/\Hd E ((g,.cells cs 5 (cs.size,cs.size+1))::l) P/\∃x,F=sC u g c i x) u.length ⟨W,0,cs,oq,o,a,x1,W⟩ ?_;rintro m vs F P ⟨rfl,i,cs,him,o,a,x,rfl⟩;refine bY Y.C Y.T <| bY Y.C Y.T <| aW Y.C Y.T ?_;simp only[iB,Nat.reduceAdd];refine bX Y W kq (v:=num i) kq <| bX Y W kq (v:=.slice (sq g) u.length c) kq <| bX Y W kq (v:=num u.length) kq ?_;by_cases H:i<u.length
 .refine bX Y W kq (v:=.bool true) (lZ (u:=num i) (v:=num u.length) W kq kq<|cj (b:=true)<|tD oq) <| bv Y.C Y.T (dP Y.C Y.T (t:=true) kq ?_);simp only[if_true];refine kI Y.C Y.T ?_;have A:u[i]?=some u[i]:=gE H;generalize u[i]=b at A;have h:cs[i]?=some (.int .u8 (b.toNat:Int)):=by have:=o.2 i b A;rwa [iw (Nat.lt_irrefl i)] at this
  refine bY Y.C Y.T <| lK (Q:=λK e F z=>e=.normal/\K=vs/\∃j,FE u (i+1) j/\Hd vs ((g,.cells j 5 (j.size,j.size+1))::l) z/\∃x,F=sC u g c i x) (fX Y.C Y.T ?_) ?_
  .refine qb (f:=sC u g c i) kq ?_;intro x2;refine bY Y.C Y.T <| aW Y.C Y.T ?_;simp only[iB,Nat.reduceAdd];refine bX Y W kq (v:=.slice (sq g) u.length c) kq <| bX Y W kq (v:=num i) kq <| bX Y W kq (v:=.pointer<|some ⟨g,i,none⟩) (vd (n:=u.length) (c:=c) W kq kq H) (jc Y.C (Y.Z a) 0 W kq W kq underlying5 W a W h λz1 a=>?_);have r:(¬(65<=b.toNat/\b.toNat<=90))->FE u (i+1) cs:=λhn=>⟨o.1,λp d B=>by
    rw[o.2 p d B];by_cases J:p<i
    .rw[ip J,ip oq]
    .rw[iw J];by_cases y:p=i
     .subst y;rw[A] at B;cases B;rw[ip oq];unfold Ai;rw[iw hn]
     .rw[iw oq]⟩;by_cases S:65<=b.toNat
   .refine bX Y W kq (v:=.bool true) (lZ (u:=.int .u8 (b.toNat:Int)) (v:=.int .u8 65) W kq kq<|rA (b:=true)<|tD oq)<|bX Y W kq (v:=.bool true) kq <| bX Y W kq (v:=.slice (sq g) u.length c) kq <| bX Y W kq (v:=num i) kq <| bX Y W kq (v:=.pointer<|some ⟨g,i,none⟩) (vd (n:=u.length) (c:=c) W kq kq H) (jc Y.C (Y.Z a) 0 W kq W kq underlying5 W a W h λz2 a=>?_);by_cases G:b.toNat<=90
    .refine bX Y W kq (v:=.bool true) (lZ (u:=.int .u8 (b.toNat:Int)) (v:=.int .u8 90) W kq kq<|ck (b:=true)<|tD oq)<|bX Y W kq (v:=.bool true) kq <| bv Y.C Y.T (dP Y.C Y.T (t:=true) kq ?_);simp only[if_true];refine aW Y.C Y.T ?_;simp only[iB,Nat.reduceAdd];refine bX Y W kq (v:=.slice (sq g) u.length c) kq <| bX Y W kq (v:=num i) kq <| bX Y W kq (v:=.slice (sq g) u.length c) kq <| bX Y W kq (v:=num i) kq <| bX Y W kq (v:=.pointer<|some ⟨g,i,none⟩) (vd (n:=u.length) (c:=c) W kq kq H) (jc Y.C (Y.Z a) 0 W kq W kq underlying5 W a W h λz3 a=>?_);have I:(Ai b).toNat=b.toNat+32:=by unfold Ai;rw[ip ⟨S,G⟩,UInt8.toNat_ofNat'];omega
     refine bX Y W kq (v:=.int .u8 ((Ai b).toNat:Int)) (lZ (u:=.int .u8 (b.toNat:Int)) (v:=.int .u8 32) W kq kq<|I▸HN b.toNat G)<|bX Y W kq (v:=.pointer<|some ⟨g,i,none⟩) (vd (n:=u.length) (c:=c) W kq kq H)<|Mf Y (k:=0) (off:=i) (n:=cs.size) (cs:=cs) (v:=.int .u8 ((Ai b).toNat:Int)) a W (by simp[dt]) W kq W kq kq kq W (by have:=o.1;omega) (by have:=o.1;omega) λz4 a=>(bv Y.C Y.T<|⟨W,W,cs.setIfInBounds i<|.int .u8 ((Ai b).toNat:Int),⟨by rw[Array.size_setIfInBounds];exact o.1,λp d B=>?_⟩,by rw[Array.size_setIfInBounds];exact a,Gf (f:=sC u g c i) kq⟩);rw[Array.getElem?_setIfInBounds];by_cases y:i=p
     .subst y;rw[A] at B;cases B;rw[ip W,ip<|by have:=o.1;omega,ip oq]
     .rw[iw y,o.2 p d B];by_cases J:p<i
      .rw[ip J,ip oq]
      .rw[iw J,iw oq]
    .refine bX Y W kq (v:=.bool false) (lZ (u:=.int .u8 (b.toNat:Int)) (v:=.int .u8 90) W kq kq<|ck (b:=false)<|fD oq)<|bX Y W kq (v:=.bool false) kq <| bv Y.C Y.T (dP Y.C Y.T (t:=false) kq ?_);simp only[j6,if_false];exact kI Y.C Y.T ⟨W,W,cs,r oq,a,Gf (f:=sC u g c i) kq⟩
   .refine bX Y W kq (v:=.bool false) (lZ (u:=.int .u8 (b.toNat:Int)) (v:=.int .u8 65) W kq kq<|rA (b:=false)<|fD oq)<|bX Y W kq (v:=.bool false) kq<|dR Y.C Y.T W kq <| dR Y.C Y.T W kq <| dR Y.C Y.T W kq <| dR Y.C Y.T W kq <| dR Y.C Y.T W kq (bX Y W kq (v:=.bool false) kq <| bv Y.C Y.T (dP Y.C Y.T (t:=false) kq ?_));simp only[j6,if_false];exact kI Y.C Y.T ⟨W,W,cs,r oq,a,Gf (f:=sC u g c i) kq⟩
  .rintro K e F z5 ⟨rfl,rfl,j,V,U,x3,rfl⟩;refine aW Y.C Y.T ?_;simp only[iB,Nat.reduceAdd];exact bX Y W kq (v:=num i) kq <| bX Y W kq (v:=num ((i+1:Nat):Int)) (lZ (u:=num i) (v:=num 1) W kq kq<|Kg i oq) <| bX Y W kq (v:=num ((i+1:Nat):Int)) kq <| bv Y.C Y.T ⟨m-1,oq,W,i+1,j,oq,V,U,Gf (f:=sC u g c<|i+1) kq⟩
 .refine bX Y W kq (v:=.bool false) (lZ (u:=num i) (v:=num u.length) W kq kq<|cj (b:=false)<|fD oq) <| bv Y.C Y.T (dP Y.C Y.T (t:=false) kq ?_);simp only[j6,if_false];refine pz Y.C Y.T<|qb (f:=sC u g c i) kq ?_;intro x2;refine bY Y.C Y.T <| aW Y.C Y.T ?_;simp only[iB,Nat.reduceAdd];refine bX Y W kq (v:=.slice (sq g) u.length c) kq<|Mh Y (k:=0) (bs:=cU u) a W W kq W (show _=Value.slice (sq g) (cU u).length c by unfold cU;rw[List.length_map];kernel_rfl) (λq hq=>?_) λz hz=>?_
  .have Z9:q<u.length:=by unfold cU at hq;rwa [List.length_map] at hq
   have L:=o.2 q u[q] (gE Z9);rw[ip oq] at L;have hm:(cU u)[q]=Ai u[q]:=by simp[cU,Ai]
   rw[L,hm]
  .refine bX Y W kq (v:=str<|cU u) kq <| bv Y.C Y.T<|qc Y.C Y.T ⟨.inr W,W,λb N=>⟨str<|cU u,?_,?_,W,W,_,(Y.Z hz).rely hz N⟩⟩
   .kernel_rfl
   .have he:∀(tm:Aq) (w:World),(results f379 tm).events prog w #[]=#[]:=λtm w=>kq
    rw[he];exact(Y.T _).idle _
end
def LJ (args:Aq)(s:AS):Option (Value × AS):=match args.toList with
 | [.string x]=>if x.data.toList.length<=1000000 then some (str<|cU x.data.toList,s) else none
 | _=>none
def yM(pr:Prim):Prim:=λg=>if g.beq 379 then some LJ else pr g
section
variable {ι:Type}{N0:ι->Nat}{M:ι->World->Nat->Prop}{O:ι->Nat->Prop}{R:ι->Wq}{D:ι->World->World->Array Event->Prop}{X:ι->Gq}{Hd:ι->Hq->World->Prop}{An:dQ}{pr:Prim}
def W7(Y:Cy prog dt N0 M O R D X Hd)(args:Aq)(v:Value)(s s':AS)(h:LJ args s=some (v,s')):Sound prog dt An R D X Hd 379 args s v s':=by
 intro S l K Q w a V T d I;unfold LJ at h;split at h
 .next x p =>
  split at h
  .next y =>
   cases h;have c:args=#[.string x]:=by apply vp.1;simp[p]
   subst c;have r:a.size=1:=by have:=d.1;simpa using this.symm
   obtain⟨b,rfl⟩:∃b,a=#[b]:=⟨a[0],by
    apply Array.ext
    .simpa using r
    .intro q L N;have:q=0:=oq
     subst this;rfl⟩;have G:=d.2 0 _ _ rfl rfl;have g:b=.string x:=G.sc rfl;have i:str x.data.toList=.string x:=by cases x;simp[str]
   rw[g,<-i];have⟨t,f,j,k,m,n⟩:=Iz Y y T;refine⟨t,f,j,k,m,lK n λP J H W=>?_⟩;rintro⟨C,E,F⟩;refine⟨C,E,λA o=>?_⟩;obtain⟨U,z,B,rfl,rfl,q,e⟩:=F A o;exact⟨_,z,B,S,l,aR S,λ_ _=>rfl,V,(Y.Z e).drop e,bn rfl⟩
  .cases h
 .cases h
def Mq(Y:Cy prog dt N0 M O R D X Hd)(i:cb prog dt An R D X Hd pr):cb prog dt An R D X Hd (yM pr):=by
 constructor
 .intro f g a s v b d h;unfold yM at d;split at d
  .cases d;unfold LJ at h;split at h
   .split at h
    .cases h;exact l8 _
    .cases h
   .cases h
  .exact i.nx _ _ _ _ _ _ d h
 .intro f g a s v e d h;unfold yM at d;split at d
  .next c =>have c:=ja c;subst c;cases d;exact W7 Y a v s e h
  .exact i.sound _ _ _ _ _ _ d h
end
def TF{pr:Prim}(h:pr 379=some LJ)(u:Bq)(s:AS)(a:u.length<=1000000):Ef pr 379 #[str u] s (str<|cU u) s:=by refine fI h ?_;show(if u.length<=1000000 then some _ else none)=_;rw[ip a]
