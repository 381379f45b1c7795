import Derived.Test.YtgcaionclkbehaaGreatDoorH3
set_option linter.all false
set_option maxHeartbeats 4000000
set_option maxRecDepth 100000
namespace Go.Proofs.YtgcaionclkbehaaGreatDoor
open Go.Conc Go.RowKit Go.Lib Tryz
section
variable {B9 Bo Br b:Nat}{s s0:AS}{nm:Bq}{av:Value}
variable {P:Program}{kt:TypeId->Bool}{B c cp n off rd sz:Nat}{a:TL}{o:Oper}{e t t':TypeId}{x:Operand}{hi lo:Option Operand}{cs qG:Aq}{fz Oh:Nat × Nat}{aY:kH}{K:Nat->Prop}{l vs ws:Vq}{at_ dv wv:Value}{m:List (Bq)}
theorem Un{c:gX}(U:o.op=.slice t x lo hi none)(g:P.underlying t=some (.slice e))(h:a.at x=.slice (some ⟨b,off,none⟩) 0 0)(f:s.get b=some (.cells cs e fz))(i:cz P e=some sz)(d:bS 0 0 (lo.map a.at) (hi.map a.at)=some (0,0)):cf P kt c a o s=some (.slice (some ⟨b,off,some 0⟩) 0 1,s):=by unfold cf;rw[iw (by rw[U];simp[fR]),U];unfold jh;grind
def TS.fS(σ:TS)(nm:Bq)(aY:kH):TS:=if aW nm eE then σ.put ⟨1,0,nm,[],aY⟩ else σ.open_ nm aY
variable {s':AS}{nv rv v v2 Cs yx:Value}{xs:List bH}{σ:TS}{pr:Prim}
section
variable {Nk jH:List Nat}{w':Int}
section
variable (h:BT s b nv rv av xs σ)
def BT.upd(u:dB s Cs Nk)(r:dB s yx jH)(o:∀x,blk Cs x->¬blk yx x)(i:∀k∈Nk,k<σ.nodes.length)(g:∀k∈jH,k<σ.nodes.length)(j:Nk≠[])(e:Nk.length<=40/\jH.length<=100000)(l:(∀x,blk Cs x->blk rv x)\/∀x,blk Cs x->s.nx<=x)(f:(∀x,blk yx x->blk av x)\/∀x,blk yx x->s.nx<=x):BT (s.set b<|some<|lU nv Cs yx w') b nv Cs yx xs ⟨σ.nodes,Nk,jH,w'⟩/\dJ b s (s.set b<|some<|lU nv Cs yx w'):=by have d:cL (λy=>y=b) s (s.set b<|some<|lU nv Cs yx w'):=aL (K:=λy=>y=b) (aE s) (λ_=>O) _;have a:∀{y:Nat} {p:Aq} {t:TypeId} {q:Nat × Nat},Has s y (.cells p t q)->t≠183->y≠b:=λc v=>c.ne h.b v;have g1:=h.b.put<|lU nv Cs yx w';refine⟨⟨h.sp,g1,h.n.fk d λy c=>by have⟨_,_,z⟩:=h.n.blk c;exact a z dq,h.m.fk d λy p q c=>a c dq,u.fk d λy c=>by have⟨_,_,z⟩:=u.blk c;exact a z dq,r.fk d λy c=>by have⟨_,_,z⟩:=r.blk c;exact a z dq,o,i,g,j,h.sz.1,e.1,e.2⟩,eY h.b g1 (d.mono λy _ z=>.inl z) (.inl O) l f⟩
def BT.Nv(w':Int):BT (s.set b<|some<|lU nv rv av w') b nv rv av xs ⟨σ.nodes,σ.row,σ.again,w'⟩/\dJ b s (s.set b<|some<|lU nv rv av w'):=h.upd h.r h.a h.ra h.lt h.la h.ne ⟨h.sz.2.1,h.sz.2.2⟩ (.inl λ_ z=>z)<|.inl λ_ z=>z
end
def FF(c:pr 220=none)(d:pr 223=none)(a:pr 217=none)(e:pr 232=none)(h:BX s b σ)(l:dI s at_ aY)(m:∀y,blk at_ y->y<b)(k:σ.nodes.length<400000000) :
  ∃f,Ef pr 220 #[aC b 0,at_] s (.tuple #[]) f/\BX f b { σ.open_ KI aY with w:=1 }/\dJ b s f:=by have⟨r,t,q,u,h⟩:=h;obtain⟨S,h1,⟨n,o,g,p,h2⟩,h3⟩:=BB d a e h (nm:=KI) l (λy z=>⟨m y z,O⟩) k;have⟨i,j⟩:=h2.Nv 1;exact aX c func220 O<|zr<|zc 2 h1<|am<|za S<|zx<|zg 3 S<|zp (ys b 3 _ h2.b.2 iq)<|am ⟨.inl O,kq,⟨_,_,_,_,i⟩,h3.trans j⟩
abbrev fp(t:jm):Obj:=.cells (fq t).toArray 60
def qn(n:pr 228=none)(l:pr 138=none)(k:pr 127=bP 127)(m:pr 223=none)(e:pr 217=none)(f:pr 232=none)(h:BX s b σ){t:jm}(p:dI s t.at_ aY)(F:KU b t.name t.at_)(D:σ.nodes.length<400000000) :
  ∃o,Ef pr 228 #[aC b 0,.agg (fq t).toArray] s (.tuple #[]) o/\BX o b (σ.fS t.name aY)/\dJ b s o:=by
 have⟨nv,X,H,Y,h⟩:=h;have⟨kd,tx,nm,r,g⟩:=t;have p:=p;have⟨a,c,u⟩:=p.len;subst u;generalize aY.length=d at *;have w:=h.add<|fp ⟨kd,tx,nm,.slice a d c,g⟩;have q:=aI s<|fp ⟨kd,tx,nm,.slice a d c,g⟩;have z:=c9 h<|fp ⟨kd,tx,nm,.slice a d c,g⟩;have G:dI (s.add<|fp ⟨kd,tx,nm,.slice a d c,g⟩) (.slice a d c) aY:=p.fk ((aE s).add _) λ_ _=>id;generalize L:s.add _=S at *;have M:=xq (s:=S) l;have A:=w.add<|.cells (eE.map str).toArray 9;have j:=q.add<|.cells (eE.map str).toArray 9;have B:=c9 w<|.cells (eE.map str).toArray 9;have C:dI (S.add<|.cells (eE.map str).toArray 9) (.slice a d c) aY:=G.fk ((aE S).add _) λ_ _=>id;have E:=(bR S eE 13 rfl dq).is (pr:=pr) k nm;have N:=gW 9 q.2 (off:=2) rfl;have O:=gW 9 j.2 (off:=2) rfl;generalize S.add _=U at *;obtain⟨i,e1,Q,R,T⟩:∃i,Ef pr 217 #[aC b 0,.agg #[num 1,num 0,str nm,str [],.slice a d c]] U (.tuple #[]) i/\∃v,BT i b v X H _ _/\dJ b U i:=by have⟨x,y,Z,z2⟩:=D2 e f A (kd:=1) (pa:=0) (nm:=nm) (tx:=[]) C F D;exact⟨x,Z,y,z2⟩
 have⟨V2,J,V,W⟩:=BB m e f A (nm:=nm) C F D;unfold TS.fS;show ∃o,_/\BX o b _/\_;generalize aW nm eE=I at E |-;refine aX n func228 rfl<|zs<|za (s.add<|fp ⟨kd,tx,nm,.slice a d c,g⟩) ?_;rw[L];refine aB<|aB<|aP kq kq kq<|zq<|zt S<|zu (yl s.nx 2 (str nm) q.2)<|yt M<|yt E<|bq ⟨kN<|jT N O,_,_,_,_,_,_,rfl,rfl,za U ?_⟩;cases I with
 | true =>exact zH<|zr<|zg 2 U<|zp (yl s.nx 2 (str nm) j.2)<|zg 1 U<|zp (yl s.nx 3 (.slice a d c) j.2)<|zc 1 e1<|am<|za i<|aD ⟨.inr rfl,kq,⟨_,_,_,_,R⟩,(z.trans B).trans T⟩
 | false =>exact zF<|zx<|zg 2 U<|zp (yl s.nx 2 (str nm) j.2)<|zg 1 U<|zp (yl s.nx 3 (.slice a d c) j.2)<|zc 0 J<|am ⟨.inl rfl,kq,V,(z.trans B).trans W⟩
end
theorem Yd{a b c d e f:Option Value}{u v w m n y:Value}(g:a=some u)(h:b=some v)(i:c=some w)(j:d=some m)(k:e=some n)(l:f=some y)(p:bQ 20 u=true:=by rfl)(q:bQ 20 v=true:=by rfl)(r:bQ 20 w=true:=by rfl)(s:bQ 20 m=true:=by rfl)(t:bQ 20 n=true:=by rfl)(o:bQ 20 y=true:=by rfl):∀x∈[(a,u),(b,v),(c,w),(d,m),(e,n),(f,y)],x.1=some x.2/\bQ 20 x.2=true:=gq
section
variable {tx:Bq}
def QE(p:pr 315=none)(o:pr 217=none)(k:pr 232=none)(h:BX s b σ){u:Nd}(hu:σ.nodes[σ.nodes.length-1]?=some u)(G:u.kind=2->u.parent≠(σ.cur:Int))(W:σ.nodes.length<400000000):∃J,Ef pr 315 #[aC b 0,str tx] s (.tuple #[]) J/\BX J b (σ.put ⟨2,0,[],tx,[]⟩)/\dJ b s J:=by
 have⟨nv,rv,av,V,h⟩:=h;have L:=wM k h;have⟨S,VU,Z,p1,p2⟩:=D2 o k h (kd:=2) (pa:=0) (nm:=[]) (tx:=tx) (at_:=aO) (aY:=[]) (.inl ⟨rfl,rfl⟩) (KU.nil _ _) W;have⟨d,A,nf,x,H,g,O,M,Tn⟩:=h.node hu;have⟨m,C,cs,rf,I,O6,z,q,Rm⟩:=h.r.at<|TS.nX h.ne;have l:=h.b;rw[H,I] at l;have t:(bN V)[(σ.nodes.length-1)*5+0]?=some (num u.kind):=by rw[eu O 0 dq,<-M.1];rfl
 have w:(bN V)[(σ.nodes.length-1)*5+1]?=some (num u.parent):=by rw[eu O 1 dq,<-M.2.1];rfl
 have P:=jS underlying38 rfl l.2 (off:=0) rfl;have Q:=jS underlying25 rfl l.2 (off:=1) rfl;have T:=jS underlying3 rfl g.2 t;have U:=jS underlying3 rfl g.2 w;have l5:=jS underlying3 rfl z.2 q;have E:(σ.row.length:Int)-1=((σ.row.length-1:Nat):Int):=oq
 rw[E] at L;generalize σ.cur=D at *;generalize hR1:σ.row.length-1=B at *;generalize hR:σ.row.length=R at *;generalize X:σ.nodes.length-1=f at *;generalize Y:σ.nodes.length=N at *;refine aX p func315 rfl<|aB<|aP kq kq kq<|zq<|zq<|zq<|zt s<|zu (yl b 0 (.slice (sq d) N A) l.2)<|zq<|zq<|zq<|zt s<|zu (yl b 0 (.slice (sq d) N A) l.2)<|zq<|zu (gO (i:=(N:Int)) (j:=1) (r:=(f:Int)) rfl kq kq oq oq)<|zu (yi d 0 N A (f*5) none .i64 (f:Nat) 5 oq oq oq)<|zq<|bq ⟨kN<|jT P P,_,_,_,_,_,_,rfl,rfl,za s ?_⟩;have a:∀n:TL,(∃y:Nq,n=[aC b 0,str tx]++gG y 2 46)->Ew pr (match f315.body with|some (.seq _<|.seq _ c)=>c|_=>.skip) n s (λe n K=>(e=.normal\/e=.ret)/\di prog f315 n K=some (.tuple #[])/\BX K b (σ.put ⟨2,0,[],tx,[]⟩)/\dJ b s K):=by rintro n ⟨y,rfl⟩;exact zx<|zc 3 Z<|am ⟨.inl rfl,kq,⟨_,_,_,_,p1⟩,p2⟩
 refine aB<|aB<|aP kq kq kq<|zq<|zq<|zq<|zt s<|zu (yl d (f*5+0) (num u.kind) g.2 (i:=t)) ?_;by_cases h2:u.kind=2
 .have F:=G h2;exact zu (yb (num u.kind) (num 2)<|cW (b:=true)<|beq_iff_eq.2 h2)<|zq<|zq<|zq<|zq<|zt s<|zu (yl d (f*5+1) (num u.parent) g.2 (i:=w))<|zq<|zq<|zq<|zt s<|zu (yl b 1 (.slice (sq m) R C) l.2)<|zq<|zt s<|yt L<|zu (yi m 0 R C B none .i64 (B:Nat) 1 oq oq oq)<|zt s<|zu (yl m B (num D) z.2 (i:=q))<|zu (yb (num u.parent) (num D)<|cW (b:=false)<|bF.2 F)<|zq<|bq ⟨kN<|Yd T U U Q Q l5,_,_,_,_,_,_,rfl,rfl,za s<|zF<|a _<|bu kq⟩
 .refine zu (yb (num u.kind) (num 2)<|cW (b:=false)<|bF.2 h2)<|zq ?_;iterate 13 refine qv kq ?_
  exact zq<|bq ⟨kN<|JG T,_,_,_,_,_,_,rfl,rfl,za s<|zF<|a _<|bu kq⟩
end
theorem F1{c:gX}{i:Nat}(U:o.op=.slice t x lo hi none)(h:P.underlying t=some (.slice e))(j:a.at x=.slice (some ⟨b,off,none⟩) n cp)(g:s.get b=some (.cells cs e fz))(k:cz P e=some sz)(f:bS n cp (lo.map a.at) (hi.map a.at)=some (i,i))(d:¬i<cp):cf P kt c a o s=some (.slice (some ⟨b,off,some 0⟩) 0 1,s):=by unfold cf;rw[iw (by rw[U];simp[fR]),U];unfold jh;grind
def TS.fs(σ:TS)(k:Nat):Bq:=match σ.nodes[k]? with
 | some u=>u.name
 | none=>[]
def TS.xS(σ:TS)(k:Nat):Bool:=aW (σ.fs k) cC
def TS.pop(σ:TS):TS:=⟨σ.nodes,σ.row.dropLast,if σ.xS σ.cur then [] else σ.again,σ.w⟩
abbrev Dd(b:Nat):Value:=.func (.func 319) #[aC b 0] #[]
def NI(rd off n c b i:Nat)(x:Nq):TL:=[.slice (some ⟨rd,off,none⟩) n c,Dd b,x 2,x 3,num 0,x 5,.slice (some ⟨rd,off,none⟩) n c,num n,num i]++gG x 9 10
theorem NW(J:pr 318=none)(L:pr 363=none)(o:pr 127=bP 127)(K:pr 319=none)(I:pr 142=none)(h:BT s b nv rv av xs σ){ks:List Nat}(Y:ks.length=n)(O:Has s rd (.cells cs 3 fz))(M:∀j k:Nat,ks[j]?=some k->cs[off+j]?=some (num k))(N:∀k∈ks,k<σ.nodes.length)(hn:n<=1000):∃f,Ef pr 318 #[.slice (some ⟨rd,off,none⟩) n c,Dd b] s (.bool<|ks.any σ.xS) f/\cL (λ_=>False) s f:=by
 have H:∃f j,Ef pr 363 #[.slice (some ⟨rd,off,none⟩) n c,Dd b] s (num j) f/\cL (λ_=>False) s f/\decide (j>=0)=ks.any σ.xS:=by
  suffices h:Ew pr (match f363.body with|some c=>c|none=>.skip) ((#[.slice (some ⟨rd,off,none⟩) n c,Dd b]:Aq).toList++List.replicate (f363.ntmps-(#[.slice (some ⟨rd,off,none⟩) n c,Dd b]:Aq).toList.length) undef) s (λe d g=>(e=.normal\/e=.ret)/\cL (λ_=>False) s g/\∃j,di prog f363 d g=some (num j)/\decide (j>=0)=ks.any σ.xS) by have⟨m,e,d,g,h1,V,h2,j,h3,P⟩:=h;exact⟨g,j,aH L func363 rfl ⟨m,e,d,g,h1,V,h3,rfl⟩,h2,P⟩
  refine zs<|za s<|aB<|zs<|za s<|aV (NI rd off n c b 0) kq ?_;intro W;refine aF<|bn (bw (Q:=λe d g=>(e=.exit 0/\cL (λ_=>False) s g/\(ks.any σ.xS)=false/\∃x,d=NI rd off n c b n x)\/(e=.ret/\cL (λ_=>False) s g/\∃j,di prog f363 d g=some (num j)/\decide (j>=0)=ks.any σ.xS)) (λm d f=>∃i,i+m=n/\cL (λ_=>False) s f/\((ks.take i).any σ.xS)=false/\∃x,d=NI rd off n c b i x) ?_ n _ _ ⟨0,oq,aE s,rfl,W,rfl⟩) ?_
  .rintro m d S ⟨i,X,l,A,x,rfl⟩;by_cases Z:0<m
   .have y:i<ks.length:=oq
    have F:ks[i]?=some ks[i]:=gE y;have w:ks.take (i+1)=ks.take i++[ks[i]]:=by simp_all
    have U:ks[i]∈ks:=zB y;generalize ks[i]=k at F w U;have t:=N k U;have E:σ.nodes[k]?=some σ.nodes[k]:=gE t;have R:=h.fk l λ_ _ _ _ _ z=>z.elim;have a:=FI o K I R E;have u:aW (σ.nodes[k]).name cC=σ.xS k:=by unfold TS.xS TS.fs;rw[E]
    rw[u] at a;have C:=l.add<|.cells (cC.map str).toArray 9;have q:=O.fr l id;have r:=M i k F;have p:(ks.take<|i+1).any σ.xS=σ.xS k:=gq
    have B:σ.xS k=true->(ks.any σ.xS)=true:=λh=>List.any_eq_true.2 ⟨_,U,h⟩;generalize σ.xS k=D at a p B;generalize T:S.add (.cells (cC.map str).toArray 9)=G at *;refine zr<|zp (yb (num i) (num n)<|bE<|tD oq)<|am<|aB<|zT<|aB<|aF<|zs<|za S<|zr<|zg 3 S<|zp (yi rd off n c (off+i) none .i64 (i:Nat) 1 oq oq oq)<|zo S<|zp (yl _ (off+i) (num k) q.2 (i:=r))<|yc #[aC b 0] #[] a<|am<|za G ?_;cases D with
    | true =>exact zH<|zs<|aD<|.inr ⟨rfl,C,(i:Nat),kq,by rw[B rfl];exact tD oq⟩
    | false =>exact zF<|zx<|zp (yp i 1 ((i+1:Nat):Int) oq oq)<|zf ⟨m-1,oq,i+1,oq,C,p,bu kq⟩
   .obtain rfl:i=n:=oq
    rw[tL oq] at A;exact zr<|zp (yb (num i) (num i)<|bE<|fD oq)<|am<|aB<|zG<|aR<|.inl ⟨rfl,l,A,bu kq⟩
  .rintro e d f (⟨rfl,l,h1,x,rfl⟩|⟨rfl,h⟩)
   .exact zs<|aD ⟨.inr rfl,l,-1,kq,by rw[h1];rfl⟩
   .exact⟨.inr rfl,h⟩
 have⟨f,j,h1,h2,h3⟩:=H;refine⟨f,aH J func318 rfl<|zs<|zr<|zc 2 h1<|zp (yb (num j) (num 0)<|fQ h3) ?_,h2⟩;generalize ks.any σ.xS=D;exact zf yR
theorem CV(T:pr 221=none)(W:pr 318=none)(Y:pr 363=none)(u:pr 127=bP 127)(X:pr 319=none)(S:pr 142=none)(h:BX s b σ)(h2:2<=σ.row.length):∃H,Ef pr 221 #[aC b 0,num ((σ.row.length-1:Nat):Int)] s (.tuple #[]) H/\BX H b σ.pop/\dJ b s H:=by
 have⟨G,rv,B,xs,h⟩:=h;have F:=h.sz;have⟨rd,g,D,Q,o,O6,m,E,Rm⟩:=h.r.at<|TS.nX h.ne;have v:∀i k:Nat,σ.row[i]?=some k->D[i]?=some (num k):=by
  rcases h.r with ⟨e,_⟩|⟨d,cp,qG,fz,e,q0,q1,q2,q3⟩
  .rw[o] at e;cases e
  .rw[o] at e;cases e
   have:=m.2;rw[q2] at this;cases this;exact q3
 generalize C:σ.row.length-1=f at *
 have O:σ.row.dropLast=σ.row.take f:=by rw[List.dropLast_eq_take,C]
 have R:dB s (.slice (sq rd) f g) σ.row.dropLast:=.inr ⟨rd,g,D,Q,by rw[List.length_dropLast,C],by rw[List.length_dropLast,C];omega,m.1,m.2,λi k l=>v i k (by
  rw[O,HA] at l;split at l
  .exact l
  .cases l)⟩;have N:∀x,blk (.slice (sq rd) f g) x->blk rv x:=λx z=>by rw[o,dk z];exact eg _ _ _
 have ab:σ.row.dropLast≠[]:=λe=>by have:=congrArg List.length e;simp at this;omega
 have Z:∀k∈σ.row.dropLast,k∈σ.row:=λk l=>by rw[O] at l;exact List.mem_of_mem_take l
 have⟨K,L⟩:=h.upd (yx:=B) (w':=σ.w) R h.a (λx z=>h.ra x<|N x z) (λk l=>h.lt k<|Z k l) h.la ab ⟨by rw[List.length_dropLast];omega,F.2.2⟩ (.inl N)<|.inl λ_ z=>z;have y:=h.b;rw[o] at y;have q:Has (s.set b<|some<|lU G (.slice (sq rd) f g) B σ.w) rd (.cells D 3 Q):=m.set (m.ne h.b dq) _;generalize hU:s.set b _=U at *;have⟨V,I,J⟩:=NW W Y u X S K (rd:=rd) (off:=f) (n:=1) (c:=g-f) (ks:=[σ.cur]) rfl q (λj k l=>by
  match j with
  | 0=>simp at l;subst l;exact E
  | j+1=>simp at l) (λk l=>by simp at l;subst l;exact h.lt _<|mG<|TS.nX h.ne) dq;have p:=K.fk J λ_ _ _ _ _ z=>z.elim;have M:dJ b U V:=eY K.b p.b (J.mono λ_ _ z=>z.elim) (.inl rfl) (.inl λ_ z=>z)<|.inl λ_ z=>z;have t:=q.fr J id;have A:([σ.cur].any (⟨σ.nodes,σ.row.dropLast,σ.again,σ.w⟩:TS).xS)=σ.xS σ.cur:=by simp[TS.xS,TS.fs]
 rw[A] at I;unfold TS.pop;generalize σ.xS σ.cur=bb at I |-;refine aX T func221 rfl<|aB<|zr<|zk 1<|zp (yb (num f) (num<|-1)<|cW (b:=false)<|bF.2 oq)<|zg 5 s<|zp (yl b 1 _ y.2)<|zk 1<|zp (yb (num f) (num σ.row.length)<|fQ (b:=false)<|fD oq)<|zf<|za s<|zF<|zr<|zg 3 s<|zp (yl b 1 _ y.2)<|zg 1 s<|zp (me (b:=rd) (off:=0) (n:=σ.row.length) (cp:=g) (i:=f) (j:=σ.row.length) (sz:=1) rfl underlying25 kq m.2 kq ((show _=bS σ.row.length g (some<|num f) none by kernel_rfl).trans<|(ig oq oq).trans gq) oq) ?_;rw[show 0+f*1=f by omega,show σ.row.length-f=1 by omega];refine zf<|za s<|zr<|zg 4 s<|zp (yl b 1 _ y.2)<|zg 1 s<|zp (me (b:=rd) (off:=0) (n:=σ.row.length) (cp:=g) (i:=0) (j:=f) (sz:=1) rfl underlying25 kq m.2 kq ((show _=bS σ.row.length g none (some<|num f) by kernel_rfl).trans<|(nV oq oq).trans gq) oq) ?_;rw[show f-0=f by omega,show g-0=g by omega];refine zg 2 s<|zp (ys b 1 (.slice (sq rd) f g) y.2 iq)<|am<|za (s.set b<|some<|lU G (.slice (sq rd) f g) B σ.w) ?_;rw[hU];refine aB<|zr<|zc 3 I<|am<|za V ?_;cases bb with
 | true =>obtain⟨w1,w2⟩:=p.upd (yx:=aO) (w':=σ.w) p.r (.inl ⟨rfl,rfl⟩) (λx _ z=>cw z) p.lt iq p.ne ⟨p.sz.2.1,by simp⟩ (.inl λ_ z=>z)<|.inr λx z=>(cw z).elim;exact zH<|zr<|zg 3 V<|zp (ys b 2 aO p.b.2 iq)<|am<|aD ⟨.inr rfl,kq,⟨_,_,_,_,w1⟩,(L.trans M).trans w2⟩
 | false =>
  refine zF<|zr<|zg 1 V ?_;by_cases P:1<g-f
  .exact zp (me (b:=rd) (off:=f) (n:=1) (cp:=g-f) (i:=1) (j:=1) (sz:=1) rfl underlying25 kq t.2 kq kq P)<|zf<|za V<|aF<|ic<|zs<|za V<|aB<|zG<|aR ⟨.inl rfl,kq,⟨_,_,_,_,p⟩,L.trans M⟩
  .have ae:g-f=1:=oq
   exact zp (F1 (b:=rd) (off:=f) (n:=1) (cp:=g-f) (i:=1) (sz:=1) rfl underlying25 kq t.2 kq kq P)<|zf<|za V<|aF<|ic<|zs<|za V<|aB<|zG<|aR ⟨.inl rfl,kq,⟨_,_,_,_,p⟩,L.trans M⟩
structure DC where
 f:Nat
 a:List (Bq)
 b:List (Bq)
def OG (t:TypeId)(fz:Nat × Nat):Prop:=t=9\/t=62\/t=72\/(t=187/\fz=(0,0))
def uG(s:AS)(v:Value)(ls:List (List<|Bq)):Prop:=(v=aO/\ls=[])\/∃(d:Nat) (vs:Vq),v=.slice (some ⟨d,0,none⟩) vs.length vs.length/\Has s d (.cells vs.toArray 62)/\vs.length=ls.length/\∀(i:Nat) (v:Value) (l:List (Bq)),vs[i]?=some v->ls[i]?=some l->gx s v l
def lp(a b:List (Bq)):List (List<|Bq):=(if a=[] then [] else [a])++(if b=[] then [] else [b])
def dO(s:AS)(v:Value)(d:DC):Prop:=∃x,v=.func (.func d.f) #[] x /\
 (d.f=224\/d.f=241\/d.f=244->∃B nm,d.a=[nm]/\x=#[aC B 0]/\Has s B (.cells #[str nm] 9)) /\
 (d.f=230->∃B av,x=#[aC B 0]/\Has s B (.cells #[av] 62)/\gx s av d.a) /\
 (d.f=234->∃B C wv av,x=#[aC B 0,aC C 0]/\Has s B (.cells #[wv] 62)/\Has s C (.cells #[av] 62)/\gx s wv d.a/\gx s av d.b) /\
 (d.f∈[226,227,229,233,238,240,246]->x=#[]) /\
 (d.f=236->∃B v,x=#[aC B 0]/\Has s B (.cells #[v] 72)/\uG s v (lp d.a d.b)) /\
 (d.f=242->∃B C E F G wv av,x=#[aC B 0,aC C 0]/\Has s B (.cells #[.func (.func 241) #[] #[aC E 0]] 187)/\Has s E (.cells #[str [112]] 9)/\Has s C (.cells #[.func (.func 234) #[] #[aC F 0,aC G 0]] 187)/\Has s F (.cells #[wv] 62)/\Has s G (.cells #[av] 62)/\gx s wv bG/\gx s av [[112]])
def fI:List FuncId:=[39,64,65,66,67,68,69,119,120,121,122,123,124,125,126,128,129,130,131,132,133,134,135,136,137,138,139,140,141,142,143,144,145,216,217,218,219,220,221,222,223,224,225,226,227,228,229,230,231,232,233,234,235,238,239,240,243,244,246,314,315,317,318,319,363]
def qw (s:AS)(v:Value)(l:Vq):Prop:=(v=aO/\l=[])\/∃d,v=.slice (some ⟨d,0,none⟩) l.length l.length/\Has s d (.cells l.toArray 187 (1,1))
def I4 (s:AS)(vs:Vq)(ds:List DC):Prop:=vs.length=ds.length/\∀(i:Nat) (v:Value) (d:DC),vs[i]?=some v->ds[i]?=some d->dO s v d
abbrev rS:=DC × List (Bq)
def tc (nm:Bq)(l:List rS):List DC:=(l.filter λx=>aW nm x.2).map (·.1)
def nI(nm:Bq)(l:List rS):List DC:=(l.filter λx=>!aW nm x.2&&aW [] x.2).map (·.1)
section
variable {d:DC}
def Has.neF(h:Has s b (.cells cs t fz))(a:Has s c (.cells qG t' Oh))(d:fz≠Oh):b≠c:=λe=>by
 subst e
 have:=h.2.symm.trans a.2;cases this;exact d O
def uG.fk{ls:List (List<|Bq)}(h:uG s v ls)(c:cL K s s')(e:∀x b t a,Has s x (.cells b t a)->OG t a->¬K x):uG s' v ls:=by
 rcases h with h|⟨d,vs,h1,h2,h3,h4⟩
 .exact .inl h
 .exact .inr ⟨d,vs,h1,h2.fr c<|e _ _ _ _ h2<|.inr<|.inl O,h3,λi v l g f=>(h4 i v l g f).fk c λx b a j=>e _ _ _ _ j<|.inl O⟩
def dO.fk(h:dO s v d)(a:cL K s s')(k:∀x i t g,Has s x (.cells i t g)->OG t g->¬K x):dO s' v d:=by
 have j:∀x i g,Has s x (.cells i 9 g)->¬K x:=λx i g o=>k _ _ _ _ o<|.inl O;have e:∀x i g,Has s x (.cells i 62 g)->¬K x:=λx i g o=>k _ _ _ _ o<|.inr<|.inl O;have⟨x,u,e1,w,y,z,A,D⟩:=h;refine⟨x,u,λq=>?_,λq=>?_,λq=>?_,z,λq=>?_,λq=>?_⟩
 .have⟨B,H,f,b,c⟩:=e1 q;exact⟨B,H,f,b,c.fr a<|j _ _ _ c⟩
 .have⟨B,l,f,b,c⟩:=w q;exact⟨B,l,f,b.fr a<|e _ _ _ b,c.fk a j⟩
 .have⟨B,C,p,l,f,b,c,m,n⟩:=y q;exact⟨B,C,p,l,f,b.fr a<|e _ _ _ b,c.fr a<|e _ _ _ c,m.fk a j,n.fk a j⟩
 .have⟨B,v,f,b,c⟩:=A q;exact⟨B,v,f,b.fr a<|k _ _ _ _ b<|.inr<|.inr<|.inl O,c.fk a k⟩
 .have⟨B,C,E,F,G,p,l,f,b,c,m,n,r,I,J⟩:=D q;exact⟨B,C,E,F,G,p,l,f,b.fr a<|k _ _ _ _ b<|i3 ⟨O,O⟩,c.fr a<|j _ _ _ c,m.fr a<|k _ _ _ _ m<|i3 ⟨O,O⟩,n.fr a<|e _ _ _ n,r.fr a<|e _ _ _ r,I.fk a j,J.fk a j⟩
def dO.fn(h:dO s v d):∃x,v=.func (.func d.f) #[] x:=⟨h.choose,h.choose_spec.1⟩
def dO.c0(f:Nat)(h:f∈[226,227,229,233,238,240,246]):dO s (.func (.func f) #[] #[]) ⟨f,[],[]⟩:=by refine⟨#[],O,λq=>?_,λq=>?_,λq=>?_,λ_=>O,λq=>?_,λq=>?_⟩<;>(simp at h q;omega)
def ox(f:Nat)(h:f=224\/f=241\/f=244)(a:Has s B (.cells #[str nm] 9)):dO s (.func (.func f) #[] #[aC B 0]) ⟨f,[nm],[]⟩:=by refine⟨#[aC B 0],O,λq=>⟨B,nm,O,O,a⟩,λq=>?_,λq=>?_,λq=>?_,λq=>?_,λq=>?_⟩<;>(simp at q;omega)
def I4.fk{a:List DC}(h:I4 s vs a)(f:cL K s s')(g:∀x c t b,Has s x (.cells c t b)->OG t b->¬K x):I4 s' vs a:=⟨h.1,λi v d j e=>(h.2 i v d j e).fk f g⟩
def I4.snoc{a:List DC}(h:I4 s vs a)(e:dO s v d):I4 s (vs++[v]) (a++[d]):=⟨by simp[h.1],λi f c h1 h2=>by
 by_cases b:i<vs.length
 .rw[Cg b] at h1;rw[Cg (by rw[<-h.1];exact b)] at h2;exact h.2 i f c h1 h2
 .rw[EN oq] at h1;rw[EN (by rw[<-h.1];omega),<-h.1] at h2;match hq:i-vs.length with
  | 0=>rw[hq] at h1 h2;cases h1;cases h2;exact e
  | q+1=>rw[hq] at h1;simp at h1⟩
structure RS(s0:AS)(B9 Bo Br:Nat)(nm:Bq)(s:AS)(l:List rS):Prop where
 n9:Has s B9 (.cells #[str nm] 9)
 bo:Bo<s0.nx/\Br<s0.nx/\Bo≠Br
 ex:∃ov rv ows rws,Has s Bo (.cells #[ov] 191)/\Has s Br (.cells #[rv] 191)/\qw s ov ows/\qw s rv rws/\(∀x,blk ov x->s0.nx<=x)/\(∀x,blk rv x->s0.nx<=x)/\(∀x,blk ov x->¬blk rv x)/\I4 s ows (tc nm l)/\I4 s rws (nI nm l)
 fr:cL (λx=>x=Bo\/x=Br) s0 s
 sz:l.length<=1000
def qw.fk(h:qw s v l)(a:cL K s s')(b:∀x,blk v x->¬K x):qw s' v l:=by
 rcases h with h|⟨d,rfl,h⟩
 .exact .inl h
 .exact .inr ⟨d,O,h.fr a<|b d<|eg _ _ _⟩
def qw.lt(h:qw s v l):∀x,blk v x->∃b,Has s x (.cells b 187 (1,1)):=λx a=>by
 rcases h with ⟨rfl,_⟩|⟨d,rfl,h⟩
 .exact(cw a).elim
 .rw[dk a];exact⟨_,h⟩
variable {l:List rS}
def RS.fk(h:RS s0 B9 Bo Br nm s l)(a:cL (λ_=>False) s s'):RS s0 B9 Bo Br nm s' l:=by have⟨k,m,b,c,h1,h2,h3,d,e,f,g,i,j⟩:=h.ex;exact⟨h.n9.fr a id,h.bo,⟨k,m,b,c,h1.fr a id,h2.fr a id,h3.fk a λ_ _=>id,d.fk a λ_ _=>id,e,f,g,i.fk a λ_ _ _ _ _ _=>id,j.fk a λ_ _ _ _ _ _=>id⟩,h.fr.trans a λ_ _ z=>z.elim,h.sz⟩
def YP{w:Value}(h:qw s v ws)(c:ws.length<=1000000):∃u a,ce prog 187 v [w] 1 s=some (u,a)/\u.cells=#[u]/\u.oneCell'=true/\qw a u (ws++[w])/\cL (λy=>blk v y) s a/\∀y,blk u y->s.nx<=y:=by
 rcases h with ⟨rfl,rfl⟩|⟨d,rfl,q3⟩
 .exact⟨_,_,kI dq,O,O,.inr ⟨s.nx,O,aI s _⟩,(aE s).add _,λb z=>Nat.le_of_eq (dk z).symm⟩
 .refine⟨_,_,im (sz:=1) dq q3.2 kq iq oq,O,O,?_,(aL (aE s) (λ_=>eg _ _ _) none).add _,λb z=>Nat.le_of_eq (dk z).symm⟩;rw[show((List.take _ ws.toArray.toList++[w]).toArray)=(ws++[w]).toArray by rw[Nat.mul_one,tL iq]];exact .inr ⟨s.nx,by rw[lA];rfl,aI _ _⟩
theorem vi(Z:pr 126=none)(o:pr 127=bP 127)(h:RS s0 B9 Bo Br nm s l){a:List (Bq)}(hd:dO s dv d)(ha:gx s av a)(hl:l.length<1000):∃s',Ef pr 126 #[dv,av,aC B9 0,aC Bo 0,aC Br 0] s (.tuple #[]) s'/\RS s0 B9 Bo Br nm s' (l++[(d,a)])/\cL (λx=>(x=Bo\/x=Br)\/∃D,Has s x<|.cells D 187 (1,1)) s s':=by
 have⟨G,H,T,V,h1,h2,h3,E,h5,h6,h7,W,X⟩:=h.ex;have⟨x,hdv⟩:=hd.fn;have Y:=ha.is (pr:=pr) o nm;have a8:=ha.is (pr:=pr) o [];have R:tc nm (l++[(d,a)])=if aW nm a then tc nm l++[d] else tc nm l:=by unfold tc;grind
 have U:nI nm (l++[(d,a)])=if !aW nm a&&aW [] a then nI nm l++[d] else nI nm l:=by unfold nI;grind
 have ag:T.length<=1000:=by rw[W.1];unfold tc;rw[List.length_map];exact lT (List.length_filter_le _ _) h.sz
 have ah:V.length<=1000:=by rw[X.1];unfold nI;rw[List.length_map];exact lT (List.length_filter_le _ _) h.sz
 have P:∀(B C:Nat) (c A:Value) (I w2:Vq),Has s B (.cells #[c] 191)->Has s C (.cells #[A] 191)->B≠C->qw s c I->qw s A w2->(∀x,blk c x->¬blk A x)->I.length<=1000->∃u i g,Has (s.add<|.cells #[dv] 187) s.nx (.cells #[dv] 187)/\ce prog 187 c [dv] 1 (s.add<|.cells #[dv] 187)=some (u,i)/\u.cells=#[u]/\u.oneCell'=true/\Has i B (.cells #[c] 191)/\g=i.set B (some<|.cells #[u] 191)/\ej c (sq s.nx)=true/\Has g B (.cells #[u] 191)/\Has g C (.cells #[A] 191)/\qw g u (I++[dv])/\qw g A w2/\(∀x,blk u x->s.nx<=x)/\cL (λx=>x=B\/blk c x) s g:=by
  intro B C c A I w2 g1 g2 g3 g4 g5 g6 g7;have hf0:=(aE (K:=λ_=>False) s).add<|.cells #[dv] 187;have e4:=g4.fk hf0 λ_ _=>id;have⟨u,i,c1,c2,c3,c4,c5,c6⟩:=YP (w:=dv) e4 oq;have n:=((aE s).add _).trans c5 λy _ z=>z;have M:∀{y:Nat} {D:Aq} {L:Nat × Nat},Has s y (.cells D 191 L)->¬blk c y:=λp z=>by have⟨_,z⟩:=g4.lt _ z;exact p.ne z dq rfl
  have F:=g1.fr n<|M g1;have N:=g2.fr n<|M g2;have O:=g5.fk n λy p z=>g6 y z p;have hnB:∀y,blk u y->y≠B:=λy p e=>by have:=c6 y p;have:=g1.1;simp at *;omega
  have ae:∀y,blk A y->y≠B:=λy p e=>by have⟨_,z⟩:=g5.lt y p;exact z.ne g1 dq e
  have S:cL (λy=>y=B) i (i.set B<|some<|.cells #[u] 191):=aL (K:=λy=>y=B) (aE i) (λ_=>rfl) _;refine⟨u,i,_,aI s _,c1,c2,c3,F,rfl,jc λb hb=>by have⟨_,z⟩:=g4.lt b hb;exact z.1,F.put _,N.fr S<|Ne.symm g3,c4.fk S hnB,O.fk S ae,λx z=>by have:=c6 x z;simp at this;omega,(n.mono λ_ _ z=>.inr z).trans S λy _ z=>.inl z⟩
 have ab:∀{g:AS} {B:Nat} {c:Value},(B=Bo\/B=Br)->(∀x,blk c x->s0.nx<=x)->cL (λx=>x=B\/blk c x) s g->cL (λx=>x=Bo\/x=Br) s0 g:=λM hb hf=>h.fr.trans hf λy p z=>gq
 have aa:∀{B:Nat} {c:Value} {I:Vq} {q:Value},Has s B (.cells #[q] 191)->qw s c I->∀x D t L,Has s x (.cells D t L)->OG t L->¬(x=B\/blk c x):=λM hv x D t L hx hc z=>by
  rcases z with z|z
  .exact hx.ne M (by rcases hc with rfl|rfl|rfl|⟨rfl,_⟩<;>decide) z
  .have⟨_,z⟩:=hv.lt x z;rcases hc with rfl|rfl|rfl|⟨rfl,rfl⟩
   iterate 3
    .exact hx.ne z dq rfl
   .exact hx.neF z dq rfl
 subst hdv;generalize hA:aW nm a=bA at Y R U;generalize ai:aW [] a=af at a8 U;cases bA with
 | true =>
  have⟨u,i,g,k0,F,N,k3,k4,O,k6,k7,k8,k9,a9,J,j⟩:=P Bo Br G H T V h1 h2 h.bo.2.2 h3 E h7 ag;have v:=aa h1 h3;have r:RS s0 B9 Bo Br nm g (l++[(d,a)]):=by
   refine⟨h.n9.fr j<|v _ _ _ _ h.n9<|.inl rfl,h.bo,⟨u,H,_,_,k7,k8,k9,a9,λx z=>by have:=J x z;have:=h.fr.1;omega,h6,λx z Q=>?_,?_,?_⟩,ab (.inl rfl) h5 j,by simp;omega⟩
   .have:=J x z;have⟨_,y⟩:=E.lt x Q
    have:=y.1;omega
   .rw[R,ip rfl];exact(W.snoc hd).fk j v
   .rw[U,iw iq];exact X.fk j v
  exact⟨g,aH Z func126 rfl<|zr<|zp (yl B9 0 (str nm) h.n9.2)<|zc 1 Y<|am<|za s<|zH<|zx<|zp (yl Bo 0 G h1.2)<|zg 2 _<|zp (iG (sl:=G) (d:=s.nx) (m:=1) (k:=1) (sz:=1) (z:=.nilFunc) (bytes:=8) rfl kq kq underlying191 kq rfl dq dq kq k0.2 k6 dq iq iq rfl F)<|zp (iH (b:=Bo) (off:=0) (w:=u) rfl kq kq N k3 kq k4.2 iq) (am ⟨.inl rfl,kq,by rw[O];kernel_rfl⟩),r,j.mono λy _ z=>z.elim (λz=>.inl<|.inl z) λz=>.inr<|h3.lt y z⟩
 | false =>
  cases af with
  | true =>
   have⟨u,i,g,k0,F,N,k3,k4,O,k6,k7,k8,k9,a9,J,j⟩:=P Br Bo H G V T h2 h1 (Ne.symm h.bo.2.2) E h3 (λx z Q=>h7 x Q z) ah;have v:=aa h2 E;have r:RS s0 B9 Bo Br nm g (l++[(d,a)]):=by
    refine⟨h.n9.fr j<|v _ _ _ _ h.n9<|.inl rfl,h.bo,⟨G,u,_,_,k8,k7,a9,k9,h5,λx z=>by have:=J x z;have:=h.fr.1;omega,λx z Q=>?_,?_,?_⟩,ab (.inr rfl) h6 j,by simp;omega⟩
    .have:=J x Q;have⟨_,y⟩:=h3.lt x z
     have:=y.1;omega
    .rw[R,iw iq];exact W.fk j v
    .rw[U,ip<|show(!false&&true)=true from rfl];exact(X.snoc hd).fk j v
   exact⟨g,aH Z func126 rfl<|zr<|zp (yl B9 0 (str nm) h.n9.2)<|zc 1 Y<|am<|za s<|zG<|zr<|zc 1 a8<|am<|za s<|zH<|zx<|zp (yl Br 0 H h2.2)<|zg 2 _<|zp (iG (sl:=H) (d:=s.nx) (m:=1) (k:=1) (sz:=1) (z:=.nilFunc) (bytes:=8) rfl kq kq underlying191 kq rfl dq dq kq k0.2 k6 dq iq iq rfl F)<|zp (iH (b:=Br) (off:=0) (w:=u) rfl kq kq N k3 kq k4.2 iq) (am ⟨.inl rfl,kq,by rw[O];kernel_rfl⟩),r,j.mono λy _ z=>z.elim (λz=>.inl<|.inr z) λz=>.inr<|E.lt y z⟩
  | false =>exact⟨s,aH Z func126 rfl<|zr<|zp (yl B9 0 (str nm) h.n9.2)<|zc 1 Y<|am<|za s<|zG<|zr<|zc 1 a8<|am<|za s<|zF (⟨.inl rfl,kq,kq⟩),⟨h.n9,h.bo,⟨G,H,T,V,h1,h2,h3,E,h5,h6,h7,by rw[R,iw iq];exact W,by rw[U,iw iq];exact X⟩,h.fr,by simp;omega⟩,aE s⟩
section
variable (eo:∀f,f∈fI->pr f=none)
def Pr:∃a b,Ef pr 122 #[] s b a/\dO a b ⟨226,[],[]⟩/\cL (λ_=>False) s a:=by
 refine⟨s,.func _ #[] #[],aH (eo 122 dq) func122 O ?_,dO.c0 _ dq,aE s⟩;iterate 2 refine zs ?_
 exact yR
def Ps:∃a b,Ef pr 123 #[] s b a/\dO a b ⟨227,[],[]⟩/\cL (λ_=>False) s a:=by
 refine⟨s,.func _ #[] #[],aH (eo 123 dq) func123 O ?_,dO.c0 _ dq,aE s⟩;iterate 2 refine zs ?_
 exact yR
def H3:∃a b,Ef pr 125 #[] s b a/\dO a b ⟨229,[],[]⟩/\cL (λ_=>False) s a:=by
 refine⟨s,.func _ #[] #[],aH (eo 125 dq) func125 O ?_,dO.c0 _ dq,aE s⟩;iterate 2 refine zs ?_
 exact yR
end
def tP(s:AS)(l:List (Bq)):cL (λ_=>False) s (s.add<|.cells (l.map str).toArray 9):=(aE s).add _
def gx.zy{l:List (Bq)}(h:gx s v l)(a:cL (λ_=>False) s s'):gx s' v l:=h.fk a λ_ _ _ _=>id
def dO.zy(h:dO s v d)(a:cL (λ_=>False) s s'):dO s' v d:=h.fk a λ_ _ _ _ _ _=>id
def mB(aaW:pr 126=none)(kK:pr 127=bP 127)(h:RS s0 B9 Bo Br nm s l)(hd:dO s dv d)(ask:List (Bq))(n:Nat)(hn:n=ask.length)(ha:ask.length<=1000)(hl:l.length<1000):∃s',Ef pr 126 #[dv,.slice (sq s.nx) n n,aC B9 0,aC Bo 0,aC Br 0] (s.add<|.cells (ask.map str).toArray 9) (.tuple #[]) s'/\RS s0 B9 Bo Br nm s' (l++[(d,ask)])/\cL (λx=>(x=Bo\/x=Br)\/∃cs,Has (s.add<|.cells (ask.map str).toArray 9) x<|.cells cs 187 (1,1)) (s.add<|.cells (ask.map str).toArray 9) s':=vi aaW kK (h.fk<|tP s ask) (hd.zy<|tP s ask) (bR s ask n hn ha) hl
section
variable (h:RS s0 B9 Bo Br nm s l)
def RS.ask{a:List (Bq)}(d:gx s v a)(e:cL (λx=>(x=Bo\/x=Br)\/∃c,Has s x<|.cells c 187 (1,1)) s s'):gx s' v a:=d.fk e λx c f b z=>by
 have⟨g,i,_,_,h1,h2,_⟩:=h.ex;rcases z with (rfl|rfl)|⟨_,z⟩
 .exact b.ne h1 dq O
 .exact b.ne h2 dq O
 .exact b.ne z dq O
def RS.OB{a ask:List (Bq)}(ha:gx s v a)(hf:cL (λx=>(x=Bo\/x=Br)\/∃cs,Has (s.add<|.cells (ask.map str).toArray 9) x<|.cells cs 187 (1,1)) (s.add<|.cells (ask.map str).toArray 9) s'):gx s' v a:=(h.fk<|tP s ask).ask (ha.zy<|tP s ask) hf
end
section
variable (eo:∀f,f∈fI->pr f=none)
def Bi:∃a b,Ef pr 129 #[] s b a/\dO a b ⟨233,[],[]⟩/\cL (λ_=>False) s a:=by
 refine⟨s,.func _ #[] #[],aH (eo 129 dq) func129 O ?_,dO.c0 _ dq,aE s⟩;iterate 2 refine zs ?_
 exact yR
def H4:∃a b,Ef pr 136 #[] s b a/\dO a b ⟨238,[],[]⟩/\cL (λ_=>False) s a:=by
 refine⟨s,.func _ #[] #[],aH (eo 136 dq) func136 O ?_,dO.c0 _ dq,aE s⟩;iterate 2 refine zs ?_
 exact yR
def Pt:∃a b,Ef pr 139 #[] s b a/\dO a b ⟨240,[],[]⟩/\cL (λ_=>False) s a:=by
 refine⟨s,.func _ #[] #[],aH (eo 139 dq) func139 O ?_,dO.c0 _ dq,aE s⟩;iterate 2 refine zs ?_
 exact yR
def Px:∃a b,Ef pr 145 #[] s b a/\dO a b ⟨246,[],[]⟩/\cL (λ_=>False) s a:=by
 refine⟨s,.func _ #[] #[],aH (eo 145 dq) func145 O ?_,dO.c0 _ dq,aE s⟩;iterate 2 refine zs ?_
 exact yR
def Bg(nm:Bq):∃a b,Ef pr 121 #[str nm] s b a/\dO a b ⟨224,[nm],[]⟩/\cL (λ_=>False) s a:=by
 refine⟨s.add<|.cells _ 9,.func _ #[] _,aH (eo 121 dq) func121 O ?_,ox _ dq<|aI s _,(aE s).add _⟩;iterate 2 refine zs ?_
 exact yR
def H5(nm:Bq):∃a b,Ef pr 140 #[str nm] s b a/\dO a b ⟨241,[nm],[]⟩/\cL (λ_=>False) s a:=by
 refine⟨s.add<|.cells _ 9,.func _ #[] _,aH (eo 140 dq) func140 O ?_,ox _ dq<|aI s _,(aE s).add _⟩;iterate 2 refine zs ?_
 exact yR
def Pw(nm:Bq):∃a b,Ef pr 144 #[str nm] s b a/\dO a b ⟨244,[nm],[]⟩/\cL (λ_=>False) s a:=by
 refine⟨s.add<|.cells _ 9,.func _ #[] _,aH (eo 144 dq) func144 O ?_,ox _ dq<|aI s _,(aE s).add _⟩;iterate 2 refine zs ?_
 exact yR
end
end
def ye{C:Nat}{l:List (Bq)}(a:Has s B (.cells #[wv] 62))(b:Has s C (.cells #[av] 62))(d:gx s wv l)(c:gx s av m):dO s (.func (.func 234) #[] #[aC B 0,aC C 0]) ⟨234,l,m⟩:=⟨_,O,λq=>absurd q iq,λq=>absurd q iq,λ_=>⟨B,C,wv,av,O,a,b,d,c⟩,λq=>absurd q iq,λq=>absurd q iq,λq=>absurd q iq⟩
def GV(a:Has s B (.cells #[av] 62))(b:gx s av m):dO s (.func (.func 230) #[] #[aC B 0]) ⟨230,m,[]⟩:=⟨_,O,λq=>absurd q iq,λ_=>⟨B,av,O,a,b⟩,λq=>absurd q iq,λq=>absurd q iq,λq=>absurd q iq,λq=>absurd q iq⟩
section
variable (eo:∀f,f∈fI->pr f=none)
def wa{l:List (Bq)}(q:gx s wv l)(o:gx s av m):∃h i,Ef pr 130 #[wv,av] s i h/\dO h i ⟨234,l,m⟩/\cL (λ_=>False) s h:=by
 obtain⟨t,d,c,k,rfl,h1⟩:=q;obtain⟨u,b,a,e,rfl,r⟩:=o;generalize p:l.length=n at *;generalize g:m.length=j at *;have f:=((aE (K:=λ_=>False) s).add<|.cells #[.slice (sq d) n c] 62).add<|.cells #[.slice (sq b) j a] 62;refine⟨(s.add<|.cells _ 62).add<|.cells _ 62,.func _ #[] _,aH (eo 130 dq) func130 O ?_,ye ((aI s _).add _) (aI _ _) ⟨oq,d,c,k,by rw[p],h1.fr f id⟩ ⟨oq,b,a,e,by rw[g],r.fr f id⟩,f⟩;iterate 2 refine zs ?_
 exact yR
def Bh(i:gx s av m):∃e f,Ef pr 128 #[av] s f e/\dO e f ⟨230,m,[]⟩/\cL (λ_=>False) s e:=by
 obtain⟨k,b,a,c,rfl,j⟩:=i;generalize d:m.length=h at *;have g:=(aE (K:=λ_=>False) s).add<|.cells #[.slice (sq b) h a] 62;refine⟨s.add<|.cells _ 62,.func _ #[] _,aH (eo 128 dq) func128 O ?_,GV (aI s _) ⟨oq,b,a,c,by rw[d],j.fr g id⟩,g⟩;iterate 2 refine zs ?_
 exact yR
def we(e:gx s av m):∃a b,Ef pr 132 #[av] s b a/\dO a b ⟨234,bG,m⟩/\cL (λ_=>False) s a:=by have⟨a,b,e1,c,d⟩:=wa eo (bR s bG 6 O dq)<|e.add _;exact⟨a,b,aH (eo 132 dq) func132 O<|zs<|zr<|zc 0 (ql (s:=s)<|eo 131 dq)<|zc 1 e1<|zf yR,c,((aE s).add _).trans d λ_ _ z=>z⟩
def Bj(a b:List (Bq))(ad:Option Addr)(n c:Nat)(g:uG s (.slice ad n c) (lp a b)):∃d e,Ef pr 135 #[.slice ad n c] s e d/\dO d e ⟨236,a,b⟩/\cL (λ_=>False) s d:=by
 have f:=(aE (K:=λ_=>False) s).add<|.cells #[.slice ad n c] 72;refine⟨s.add<|.cells _ 72,.func _ #[] _,aH (eo 135 dq) func135 O ?_,⟨_,O,λq=>absurd q iq,λq=>absurd q iq,λq=>absurd q iq,λq=>absurd q iq,λ_=>⟨s.nx,_,O,aI s _,g.fk f λ_ _ _ _ _ _=>id⟩,λq=>absurd q iq⟩,f⟩;iterate 2 refine zs ?_
 exact yR
def Pv(nm:Bq):∃a b,Ef pr 143 #[str nm] s b a/\dO a b ⟨234,[Ua],[nm]⟩/\cL (λ_=>False) s a:=by have e:=(bR s [Ua] 1 O dq).add<|.cells ([nm].map str).toArray 9;have f:=bR (s.add<|.cells ([Ua].map str).toArray 9) [nm] 1 O iq;have⟨a,b,e1,c,d⟩:=wa eo e f;exact⟨a,b,aH (eo 143 dq) func143 O<|zs<|zr<|zc 3 e1<|zf yR,c,(((aE s).add _).add _).trans d λ_ _ z=>z⟩
def Pu:∃d k,Ef pr 141 #[] s k d/\dO d k ⟨242,[],[]⟩/\cL (λ_=>False) s d:=by
 have⟨d,H,e1,o,p⟩:=H5 (pr:=pr) (s:=s) eo [112];have x:=bR d [[112]] 1 O dq;have⟨a,I,g1,g2,g3⟩:=we (pr:=pr) eo x;obtain⟨e,rfl,A,_⟩:=o;obtain⟨E,J,D,rfl,r⟩:=A<|.inr<|.inl O;cases D;obtain⟨f,rfl,_,_,B,_⟩:=g2;obtain⟨F,G,C,n,rfl,t,u,w,v⟩:=B O;generalize i:#[aC E 0]=e;generalize j:#[aC F 0,aC G 0]=f at *;have g:=p.trans (((aE d).add<|.cells ([[112]].map str).toArray 9).trans g3 λ_ _ z=>z) λ_ _ z=>z;have l:=(aI a<|.cells #[.nilFunc] 187).add<|.cells #[.nilFunc] 187;have y:Has ((a.add<|.cells #[.nilFunc] 187).add<|.cells #[.nilFunc] 187) (a.nx+1) _:=aI _ _;have m:=y.set (show a.nx+1≠a.nx by omega)<|some<|.cells #[.func (.func 241) #[] e] 187;refine⟨(((a.add<|.cells #[.nilFunc] 187).add<|.cells #[.nilFunc] 187).set a.nx<|some<|.cells #[.func (.func 241) #[] e] 187).set (a.nx+1)<|some<|.cells #[.func (.func 234) #[] f] 187,.func (.func 242) #[] #[aC a.nx 0,aC (a.nx+1) 0],?_,?_,aL (aL ((g.add _).add _) (λz=>absurd z<|by have:=g.1;omega) _) (λz=>absurd z<|by have:=g.1;omega) _⟩;rotate_left
 .have b:=aL (aL (((aE (K:=λ_=>False) a).add<|.cells #[.nilFunc] 187).add<|.cells #[.nilFunc] 187) (c:=a.nx) (λz=>absurd z oq)<|some<|.cells #[.func (.func 241) #[] e] 187) (c:=a.nx+1) (λz=>absurd z oq)<|some<|.cells #[.func (.func 234) #[] f] 187;have h:=(((aE d).add<|.cells ([[112]].map str).toArray 9).trans g3 λ_ _ z=>z).trans b λ_ _ z=>z;refine⟨_,O,λq=>absurd q iq,λq=>absurd q iq,λq=>absurd q iq,λq=>absurd q iq,λq=>absurd q iq,λ_=>⟨a.nx,a.nx+1,E,F,G,C,n,O,?_,r.fr h id,?_,t.fr b id,u.fr b id,w.zy b,v.zy b⟩⟩
  .rw[i];exact(l.put _).set oq _
  .rw[j];exact m.put _
 exact aH (eo 141 dq) func141 O<|zs<|zr<|zc 0 e1<|zg 1 (d.add<|.cells ([[112]].map str).toArray 9)<|zc 0 g1<|zg 2 _<|zp (ys a.nx 0 (.func (.func 241) #[] e) l.2 iq)<|zo _<|zp (ys (a.nx+1) 0 (.func (.func 234) #[] f) m.2 iq)<|am<|zs yR
end
def La(s:AS)(l m:List (Bq))(n k:Nat)(d:n=l.length)(c:k=m.length)(e:l.length+m.length<=1000/\0<m.length):∃T,ce prog 9 (.slice (sq s.nx) n n) (m.map str) k ((s.add<|.cells (l.map str).toArray 9).add<|.cells (m.map str).toArray 9)=some (.slice (some ⟨((s.add<|.cells (l.map str).toArray 9).add<|.cells (m.map str).toArray 9).nx,0,none⟩) (n+k)<|n+k,T)/\gx T (.slice (some ⟨((s.add<|.cells (l.map str).toArray 9).add<|.cells (m.map str).toArray 9).nx,0,none⟩) (n+k)<|n+k) (l++m)/\cL (λ_=>False) s T/\Has ((s.add<|.cells (l.map str).toArray 9).add<|.cells (m.map str).toArray 9) (s.add<|.cells (l.map str).toArray 9).nx (.cells (m.map str).toArray 9)/\ej (.slice (sq s.nx) n n) (some ⟨(s.add<|.cells (l.map str).toArray 9).nx,0,none⟩)=true:=by subst d c;have h1:=(aI s<|.cells (l.map str).toArray 9).add<|.cells (m.map str).toArray 9;have h2:=aI (s.add<|.cells (l.map str).toArray 9)<|.cells (m.map str).toArray 9;have a:=(tP s l).add<|.cells (m.map str).toArray 9;refine⟨_,im (sz:=1) oq h1.2 kq iq oq,?_,(aL a (λz=>absurd z<|Nat.lt_irrefl _) none).add _,h2,jc λb z=>by rw[dk z];simp⟩;rw[show(List.take _ (l.map str).toArray.toList++m.map str).toArray=((l++m).map str).toArray by rw[Nat.mul_one,tL iq];simp];exact⟨by simp;omega,((s.add<|.cells (l.map str).toArray 9).add<|.cells (m.map str).toArray 9).nx,l.length+m.length,(1,1),by rw[lA],aI _ _⟩
abbrev uS(B9 Bo Br:Nat):Value:=.func (.func 126) #[] #[aC B9 0,aC Bo 0,aC Br 0]
def mi:List rS:=[]++[(⟨224,[qz],[]⟩,[qz])]++[(⟨226,[],[]⟩,[KI])]++[(⟨227,[],[]⟩,jj)]++[(⟨229,[],[]⟩,[[]])]
section
variable (eo:∀f,f∈fI->pr f=none)
section
variable (kK:pr 127=bP 127)
section
variable (h:RS s0 B9 Bo Br nm s [])
def Ea:∃G,Ef pr 65 #[uS B9 Bo Br] s (.tuple #[]) G/\RS s0 B9 Bo Br nm G mi:=by refine aX (eo 65 dq) func65 Y ?_;have⟨H,R,L,M,N⟩:=Bg (s:=s) eo qz;have K:=h.fk N;have⟨k,C,f,_⟩:=mB (eo 126 dq) kK K M [qz] 1 Y dq iq;refine zr<|zc 1 L<|zg 1 _<|yc #[] #[aC B9 0,aC Bo 0,aC Br 0] C<|am ?_;have⟨l,O,t,u,v⟩:=Pr (s:=k) eo;have p:=f.fk v;have⟨m,D,g,_⟩:=mB (eo 126 dq) kK p u [KI] 1 Y dq iq;refine zr<|zc 1 t<|zg 1 _<|yc #[] #[aC B9 0,aC Bo 0,aC Br 0] D<|am ?_;have⟨a,P,w,x,y⟩:=Ps (s:=m) eo;have q:=g.fk y;have e:=JI (s:=a)<|eo 124 dq;have d:=bR a jj 6 Y dq;have b:=q.fk<|tP a jj;have c:=x.zy<|tP a jj;have⟨n,E,i,_⟩:=vi (eo 126 dq) kK b c d iq;refine zr<|zc 1 w<|zc 0 e<|yc #[] #[aC B9 0,aC Bo 0,aC Br 0] E<|am ?_;have⟨o,Q,z,A,B⟩:=H3 (s:=n) eo;have r:=i.fk B;have⟨J,F,j,_⟩:=mB (eo 126 dq) kK r A [[]] 1 Y dq iq;exact zx<|zc 1 z<|zg 1 _<|yc #[] #[aC B9 0,aC Bo 0,aC Br 0] F<|am ⟨.inl Y,kq,j⟩
def mZ:List rS:=[]++[(⟨230,Ru,[]⟩,Ru)]++[(⟨229,[],[]⟩,ZX)]++[(⟨233,[],[]⟩,[T7,T8,T6,KI,[]])]
def D9:∃y,Ef pr 67 #[uS B9 Bo Br] s (.tuple #[]) y/\RS s0 B9 Bo Br nm y mZ:=by refine aX (eo 67 dq) func67 O ?_;have x:=bR s Ru 3 O dq;have w:=h.fk<|tP s Ru;generalize B:s.add _=v at x w;have⟨A,H,C,D,E⟩:=Bh eo  x;have i:=w.fk E;have⟨d,r,a,_⟩:=mB (eo 126 dq) kK i D Ru 3 O dq iq;refine zr<|zg 2 _<|dY v B<|zc 0 C<|zg 1 _<|yc #[] #[aC B9 0,aC Bo 0,aC Br 0] r<|am ?_;have⟨e,F,l,m,n⟩:=H3 (s:=d) eo;have j:=a.fk n;have⟨f,t,b,_⟩:=mB (eo 126 dq) kK j m ZX 5 O dq iq;refine zr<|zc 1 l<|zg 1 _<|yc #[] #[aC B9 0,aC Bo 0,aC Br 0] t<|am ?_;have⟨g,G,o,p,q⟩:=Bi (s:=f) eo;have k:=b.fk q;have⟨z,u,c,_⟩:=mB (eo 126 dq) kK k p [T7,T8,T6,KI,[]] 5 O dq iq;exact zx<|zc 1 o<|zg 1 _<|yc #[] #[aC B9 0,aC Bo 0,aC Br 0] u<|am ⟨.inl O,kq,c⟩
end
end
end
def gm:List rS:=[]++[(⟨224,[qz],[]⟩,[qz])]++[(⟨224,[T9],[]⟩,[T9])]++[(⟨233,[],[]⟩,[KI])]++[(⟨234,bG++[[111,108],Yi],[JH]⟩,[JH])]++[(⟨234,bG++[[100,108]],[[100,100],[100,116]]⟩,[[100,100],[100,116]])]++[(⟨234,bG,[[112]]⟩,(jV++[JH,[100,100],[100,116]]))]++[(⟨230,bW,[]⟩,bW)]++[(⟨230,[Rv],[]⟩,[Rv])]++[(⟨236,[],[]⟩,[Yj,ZZ,ZY,Z0])]++[(⟨236,EV,[]⟩,[[116,114]])]++[(⟨236,EV,[[116,114]]⟩,[[116,100],[116,104]])]++[(⟨234,bG,[[97]]⟩,[[97]])]++[(⟨238,[],[]⟩,(bX++eE))]++[(⟨238,[],[]⟩,[[]])]++[(⟨240,[],[]⟩,Ru)]
def Ec(a:∀f,f∈fI->pr f=none)(c:pr 127=bP 127)(h:RS s0 B9 Bo Br nm s []):∃s',Ef pr 68 #[uS B9 Bo Br] s (.tuple #[]) s'/\RS s0 B9 Bo Br nm s' gm:=by
 refine aX (a 68 dq) func68 rfl ?_;have⟨S1,v2,m3,m4,m5⟩:=Bg (pr:=pr) (s:=s) a qz;have f6:=h.fk m5;have⟨S12,Z7,R14,_⟩:=mB (a 126 dq) c f6 m4 [qz] 1 rfl dq iq;refine zr<|zc 1 m3<|zg 1 (S1.add<|.cells ([qz].map str).toArray 9)<|yc #[] #[aC B9 0,aC Bo 0,aC Br 0] Z7<|am ?_;have⟨S15,v16,m17,m18,m19⟩:=Bg (pr:=pr) (s:=S12) a T9;have f20:=R14.fk m19;have⟨S26,q27,R28,_⟩:=mB (a 126 dq) c f20 m18 [T9] 1 rfl dq iq;refine zr<|zc 1 m17<|zg 1 (S15.add<|.cells ([T9].map str).toArray 9)<|yc #[] #[aC B9 0,aC Bo 0,aC Br 0] q27<|am ?_;have⟨S29,v30,m31,m32,m33⟩:=Bi (pr:=pr) (s:=S26) a;have f34:=R28.fk m33;have⟨w,q41,R42,_⟩:=mB (a 126 dq) c f34 m32 [KI] 1 rfl dq iq;refine zr<|zc 1 m31<|zg 1 (S29.add<|.cells ([KI].map str).toArray 9)<|yc #[] #[aC B9 0,aC Bo 0,aC Br 0] q41<|am ?_;have⟨x,a45,a46,a47,a48,a49⟩:=La w bG [[111,108],Yi] 6 2 rfl rfl dq;have f50:=R42.fk a47;have k51:=bR x [JH] 1 rfl dq;have f52:=f50.fk<|tP x [JH];have f53:=a46.zy<|tP x [JH];generalize e55:x.add (.cells ([JH].map str).toArray 9)=S54 at k51 f52 f53;have⟨S56,v57,m58,m59,m60⟩:=wa (pr:=pr) (s:=S54) a  f53 k51;have f61:=f52.fk m60;have⟨y,q72,R73,_⟩:=mB (a 126 dq) c f61 m59 [JH] 1 rfl dq iq;refine zr<|zc 1 (ql (pr:=pr) (s:=w)<|a 131 dq)<|zg 1 ((w.add<|.cells (bG.map str).toArray 9).add<|.cells ([[111,108],Yi].map str).toArray 9)<|zp (iG (sl:=.slice (sq w.nx) 6 6) (news:=[[111,108],Yi].map str) (d:=(w.add<|.cells (bG.map str).toArray 9).nx) (m:=2) (k:=2) (sz:=1) (z:=str []) (bytes:=16) rfl kq kq underlying62 kq rfl dq dq kq a48.2 a49 dq dq rfl dq a45)<|zg 1 (x.add<|.cells ([JH].map str).toArray 9)<|dY S54 e55<|zc 0 m58<|zg 1 (S56.add<|.cells ([JH].map str).toArray 9)<|yc #[] #[aC B9 0,aC Bo 0,aC Br 0] q72<|am ?_;have⟨A,a76,a77,a78,a79,a80⟩:=La y bG [[100,108]] 6 1 rfl rfl dq;have f81:=R73.fk a78;have k82:=bR A [[100,100],[100,116]] 2 rfl dq;have f83:=f81.fk<|tP A [[100,100],[100,116]];have f84:=a77.zy<|tP A [[100,100],[100,116]];generalize e86:A.add (.cells ([[100,100],[100,116]].map str).toArray 9)=S85 at k82 f83 f84;have⟨S87,v88,m89,m90,m91⟩:=wa (pr:=pr) (s:=S85) a  f84 k82;have f92:=f83.fk m91;have⟨p,acy,aac,_⟩:=mB (a 126 dq) c f92 m90 [[100,100],[100,116]] 2 rfl dq iq;refine zr<|zc 1 (ql (pr:=pr) (s:=y)<|a 131 dq)<|zg 1 ((y.add<|.cells (bG.map str).toArray 9).add<|.cells ([[100,108]].map str).toArray 9)<|zp (iG (sl:=.slice (sq y.nx) 6 6) (news:=[[100,108]].map str) (d:=(y.add<|.cells (bG.map str).toArray 9).nx) (m:=1) (k:=1) (sz:=1) (z:=str []) (bytes:=16) rfl kq kq underlying62 kq rfl dq dq kq a79.2 a80 dq dq rfl dq a76)<|zg 1 (A.add<|.cells ([[100,100],[100,116]].map str).toArray 9)<|dY S85 e86<|zc 0 m89<|zg 1 (S87.add<|.cells ([[100,100],[100,116]].map str).toArray 9)<|yc #[] #[aC B9 0,aC Bo 0,aC Br 0] acy<|am ?_;have X4:=bR p [[112]] 1 rfl dq;have V:=aac.fk<|tP p [[112]];generalize aaN:p.add (.cells ([[112]].map str).toArray 9)=O at X4 V;have⟨j,v110,abU,abV,abW⟩:=we (pr:=pr) (s:=O) a  X4;have f114:=V.fk abW;have⟨S117,aaA,aaB,T,aaC,aaD⟩:=La j jV [JH,[100,100],[100,116]] 33 3 rfl rfl dq;have f123:=f114.fk T;have f125:=abV.zy T;have⟨q,acz,aae,_⟩:=vi (a 126 dq) c f123 f125 aaB iq;refine zr<|zg 2 (p.add<|.cells ([[112]].map str).toArray 9)<|dY O aaN<|zc 0 abU<|zc 0 (xo (pr:=pr) (s:=j)<|a 133 dq)<|zg 1 ((j.add<|.cells (jV.map str).toArray 9).add<|.cells ([JH,[100,100],[100,116]].map str).toArray 9)<|zp (iG (sl:=.slice (sq j.nx) 33 33) (news:=[JH,[100,100],[100,116]].map str) (d:=(j.add<|.cells (jV.map str).toArray 9).nx) (m:=3) (k:=3) (sz:=1) (z:=str []) (bytes:=16) rfl kq kq underlying62 kq rfl dq dq kq aaC.2 aaD dq dq rfl dq aaA)<|yc #[] #[aC B9 0,aC Bo 0,aC Br 0] acz<|am ?_;have Ya:=lF (pr:=pr) (s:=q)<|a 134 dq;have X5:=bR q bW 6 rfl dq;have W:=aae.fk<|tP q bW;generalize q.add (.cells (bW.map str).toArray 9)=aao at Ya X5 W;have⟨n,v134,abX,abY,abZ⟩:=Bh (pr:=pr) (s:=aao) a  X5;have f138:=W.fk abZ;have Yc:=lF (pr:=pr) (s:=n)<|a 134 dq;have X6:=bR n bW 6 rfl dq;have X:=f138.fk<|tP n bW;have Y:=abY.zy<|tP n bW;generalize n.add (.cells (bW.map str).toArray 9)=S142 at Yc X6 X Y;have⟨r,acA,aaf,_⟩:=vi (a 126 dq) c X Y X6 iq;refine zr<|zc 1 Ya<|zc 0 abX<|zc 0 Yc<|yc #[] #[aC B9 0,aC Bo 0,aC Br 0] acA<|am ?_;have X7:=bR r [Rv] 1 rfl dq;have Z:=aaf.fk<|tP r [Rv];generalize aaO:r.add (.cells ([Rv].map str).toArray 9)=P at X7 Z;have⟨aap,v154,ab0,ab1,ab2⟩:=Bh (pr:=pr) (s:=P) a  X7;have f158:=Z.fk ab2;have⟨b,acB,aag,_⟩:=mB (a 126 dq) c f158 ab1 [Rv] 1 rfl dq iq;refine zr<|zg 2 (r.add<|.cells ([Rv].map str).toArray 9)<|dY P aaO<|zc 0 ab0<|zg 1 (aap.add<|.cells ([Rv].map str).toArray 9)<|yc #[] #[aC B9 0,aC Bo 0,aC Br 0] acB<|am ?_;have L:=aag.fk<|(tP b EV).add<|.cells ([[116,114]].map str).toArray 9;have G:=(bR b EV 3 rfl dq).add<|.cells ([[116,114]].map str).toArray 9;have H:=bR (b.add<|.cells (EV.map str).toArray 9) [[116,114]] 1 rfl dq;generalize aaP:(b.add<|.cells (EV.map str).toArray 9).add (.cells ([[116,114]].map str).toArray 9)=u at L G H;refine zr<|zg 2 ((b.add<|.cells (EV.map str).toArray 9).add<|.cells ([[116,114]].map str).toArray 9)<|dY u aaP<|zf<|za u ?_;have⟨aaq,v173,ab3,ab4,E⟩:=Bj (pr:=pr) (s:=u) a [] [] none 0 0<|.inl ⟨rfl,rfl⟩;have B:=L.fk E;have⟨e,acC,aah,I⟩:=mB (a 126 dq) c B ab4 [Yj,ZZ,ZY,Z0] 4 rfl dq iq;refine zr<|zc 1 ab3<|zg 1 (aaq.add<|.cells ([Yj,ZZ,ZY,Z0].map str).toArray 9)<|yc #[] #[aC B9 0,aC Bo 0,aC Br 0] acC<|am ?_;replace G:=B.OB (G.zy E) I;replace H:=B.OB (H.zy E) I;have M:=aah.fk<|(aE (K:=λ_=>False) e).add<|.cells #[.slice (sq b.nx) 3 3] 62;have kP:uG (e.add<|.cells #[.slice (sq b.nx) 3 3] 62) (.slice (sq e.nx) 1 1) (lp EV []):=.inr ⟨e.nx,[.slice (sq b.nx) 3 3],rfl,aI e _,rfl,λi v l hv hl=>by
  match i with
  | 0=>cases hv;cases hl;exact G.add _
  | i+1=>cases hv⟩;replace G:=G.add<|.cells #[.slice (sq b.nx) 3 3] 62;replace H:=H.add<|.cells #[.slice (sq b.nx) 3 3] 62;generalize aaQ:e.add (.cells #[.slice (sq b.nx) 3 3] 62)=Q at M kP G H;have⟨aar,v190,ab5,ab6,F⟩:=Bj (pr:=pr) (s:=Q) a EV [] (sq e.nx) 1 1 kP;have C:=M.fk F;have⟨g,acD,aai,J⟩:=mB (a 126 dq) c C ab6 [[116,114]] 1 rfl dq iq;refine zr<|zg 3 (e.add<|.cells #[.slice (sq b.nx) 3 3] 62)<|dY Q aaQ<|zc 0 ab5<|zg 1 (aar.add<|.cells ([[116,114]].map str).toArray 9)<|yc #[] #[aC B9 0,aC Bo 0,aC Br 0] acD<|am ?_;replace G:=C.OB (G.zy F) J;replace H:=C.OB (H.zy F) J;have N:=aai.fk<|(aE (K:=λ_=>False) g).add<|.cells #[.slice (sq b.nx) 3 3,.slice (some ⟨(b.add<|.cells (EV.map str).toArray 9).nx,0,none⟩) 1 1] 62;have kP:uG (g.add<|.cells #[.slice (sq b.nx) 3 3,.slice (some ⟨(b.add<|.cells (EV.map str).toArray 9).nx,0,none⟩) 1 1] 62) (.slice (sq g.nx) 2 2) (lp EV [[116,114]]):=.inr ⟨g.nx,[.slice (sq b.nx) 3 3,.slice (some ⟨(b.add<|.cells (EV.map str).toArray 9).nx,0,none⟩) 1 1],rfl,aI g _,rfl,λi v l hv hl=>by
  match i with
  | 0=>cases hv;cases hl;exact G.add _
  | 1=>cases hv;cases hl;exact H.add _
  | i+2=>cases hv⟩;generalize aaR:g.add (.cells #[.slice (sq b.nx) 3 3,.slice (some ⟨(b.add<|.cells (EV.map str).toArray 9).nx,0,none⟩) 1 1] 62)=R at N kP;have⟨aas,v207,ab7,ab8,ab9⟩:=Bj (pr:=pr) (s:=R) a EV [[116,114]] (sq g.nx) 2 2 kP;have f211:=N.fk ab9;have⟨t,acE,aaj,_⟩:=mB (a 126 dq) c f211 ab8 [[116,100],[116,104]] 2 rfl dq iq;refine zr<|zg 4 (g.add<|.cells #[.slice (sq b.nx) 3 3,.slice (some ⟨(b.add<|.cells (EV.map str).toArray 9).nx,0,none⟩) 1 1] 62)<|dY R aaR<|zc 0 ab7<|zg 1 (aas.add<|.cells ([[116,100],[116,104]].map str).toArray 9)<|yc #[] #[aC B9 0,aC Bo 0,aC Br 0] acE<|am ?_;have D:=bR t [[97]] 1 rfl dq;have f221:=aaj.fk<|tP t [[97]];generalize aaS:t.add (.cells ([[97]].map str).toArray 9)=S at D f221;have⟨aat,v225,aca,acb,Yk⟩:=we (pr:=pr) (s:=S) a  D;have f229:=f221.fk Yk;have f230:=D.zy Yk;have⟨aau,acF,aak,_⟩:=mB (a 126 dq) c f229 acb [[97]] 1 rfl dq iq;refine zr<|zg 2 (t.add<|.cells ([[97]].map str).toArray 9)<|dY S aaS<|zc 0 aca<|zg 1 (aat.add<|.cells ([[97]].map str).toArray 9)<|yc #[] #[aC B9 0,aC Bo 0,aC Br 0] acF<|am ?_;have⟨o,v241,acd,ace,acf⟩:=H4 (pr:=pr) (s:=aau) a;have f245:=aak.fk acf;have⟨S247,aaE,aaF,U,aaG,aaH⟩:=La o bX eE 14 13 rfl rfl dq;have f254:=f245.fk U;have f255:=ace.zy U;have⟨aav,acG,aal,_⟩:=vi (a 126 dq) c f254 f255 aaF iq;refine zr<|zc 1 acd<|zc 0 (um (pr:=pr) (s:=o)<|a 137 dq)<|zc 0 (xq (pr:=pr) (s:=(o.add<|.cells (bX.map str).toArray 9))<|a 138 dq)<|zp (iG (sl:=.slice (sq o.nx) 14 14) (news:=eE.map str) (d:=(o.add<|.cells (bX.map str).toArray 9).nx) (m:=13) (k:=13) (sz:=1) (z:=str []) (bytes:=16) rfl kq kq underlying62 kq rfl dq dq kq aaG.2 aaH dq dq rfl dq aaE)<|yc #[] #[aC B9 0,aC Bo 0,aC Br 0] acG<|am ?_;have⟨aaw,v260,acg,ach,aci⟩:=H4 (pr:=pr) (s:=aav) a;have f264:=aal.fk aci;have⟨aax,acH,aam,_⟩:=mB (a 126 dq) c f264 ach [[]] 1 rfl dq iq;refine zr<|zc 1 acg<|zg 1 (aaw.add<|.cells ([[]].map str).toArray 9)<|yc #[] #[aC B9 0,aC Bo 0,aC Br 0] acH<|am ?_;have⟨aay,v274,acj,ack,acl⟩:=Pt (pr:=pr) (s:=aax) a;have f278:=aam.fk acl;have⟨S284,acI,aan,_⟩:=mB (a 126 dq) c f278 ack Ru 3 rfl dq iq;exact zx<|zc 1 acj<|zg 1 (aay.add<|.cells (Ru.map str).toArray 9)<|yc #[] #[aC B9 0,aC Bo 0,aC Br 0] acI<|am ⟨.inl rfl,kq,aan⟩
end
section
variable {v:Value}{aY:kH}
variable {nm:Bq}{F:FuncId}{mI:List rS}{at_:Value}{l m:List (Bq)}{ds:List DC}{g:Bool}{ts:List jm}{us:List Tok}{d:DC}
def rT (n:Bq):rS:=(⟨234,[Ua],[n]⟩,[n])
def rF (n:Bq):rS:=(⟨244,[n],[]⟩,[n])
def NK(B9 Bo Br d i:Nat)(x:Nq):TL:=[uS B9 Bo Br]++gG x 1 22++[.slice (some ⟨d,0,none⟩) 8 8,num 8,num i]++gG x 26 27
def NM(B9 Bo Br d i:Nat)(x:Nq):TL:=[uS B9 Bo Br]++gG x 1 35++[.slice (some ⟨d,0,none⟩) 14 14,num 14,num i]++gG x 39 14
variable {s s':AS}{pr:Prim}
def iZ:List rS:=(([]++[(⟨233,[],[]⟩,Pp)]++[(⟨241,[Cq],[]⟩,[Cq])]++[(⟨242,[],[]⟩,[[112]])]++[(⟨234,bG,bW⟩,bW)]++cC.map rT)++bX.map rF)++[(⟨246,[],[]⟩,[[]])]
theorem Eb(a:∀f,f∈fI->pr f=none)(c:pr 127=bP 127){s0:AS}{U g j:Nat}(h:RS s0 U g j nm s []):∃o,Ef pr 69 #[uS U g j] s (.tuple #[]) o/\RS s0 U g j nm o iZ:=by
 refine aX (a 69 dq) func69 rfl ?_;have⟨p,v2,F,m4,m5⟩:=Bi (pr:=pr) (s:=s) a;have f6:=h.fk m5;have⟨S12,Z7,Z,_⟩:=mB (a 126 dq) c f6 m4 Pp 3 rfl dq iq;refine zr<|zc 1 F<|zg 1 (p.add<|.cells (Pp.map str).toArray 9)<|yc #[] #[aC U 0,aC g 0,aC j 0] Z7<|am ?_;have⟨S15,v16,m17,m18,m19⟩:=H5 (pr:=pr) (s:=S12) a Cq;have f20:=Z.fk m19;have⟨S26,q27,R28,_⟩:=mB (a 126 dq) c f20 m18 [Cq] 1 rfl dq iq;refine zr<|zc 1 m17<|zg 1 (S15.add<|.cells ([Cq].map str).toArray 9)<|yc #[] #[aC U 0,aC g 0,aC j 0] q27<|am ?_;have⟨S29,v30,m31,m32,m33⟩:=Pu (pr:=pr) (s:=S26) a;have f34:=R28.fk m33;have⟨u,q41,R42,_⟩:=mB (a 126 dq) c f34 m32 [[112]] 1 rfl dq iq;refine zr<|zc 1 m31<|zg 1 (S29.add<|.cells ([[112]].map str).toArray 9)<|yc #[] #[aC U 0,aC g 0,aC j 0] q41<|am ?_;have W:=lF (pr:=pr) (s:=u)<|a 134 dq;have T:=bR u bW 6 rfl dq;have M:=R42.fk<|tP u bW;generalize u.add (.cells (bW.map str).toArray 9)=S45 at W T M;have⟨q,v48,m49,m50,m51⟩:=we (pr:=pr) (s:=S45) a  T;have f52:=M.fk m51;have X:=lF (pr:=pr) (s:=q)<|a 134 dq;have V:=bR q bW 6 rfl dq;have N:=f52.fk<|tP q bW;have O:=m50.zy<|tP q bW;generalize q.add (.cells (bW.map str).toArray 9)=S56 at X V N O;have⟨r,q61,R62,_⟩:=vi (a 126 dq) c N O V iq;refine zr<|zc 1 W<|zc 0 m49<|zc 0 X<|yc #[] #[aC U 0,aC g 0,aC j 0] q61<|am ?_;have D:=xp (pr:=pr) (s:=r)<|a 142 dq;have G:=aI r<|.cells (cC.map str).toArray 9;have I:=R62.fk<|tP r cC;generalize r.add (.cells (cC.map str).toArray 9)=S63 at D G I;obtain⟨k,A⟩:∃d,d=r.nx:=⟨_,rfl⟩;rw[<-A] at D G;refine aB<|zr<|zc 0 D<|zf<|za S63<|aV (NK U g j k 0) kq ?_;intro x0;refine aF<|bn (bw (Q:=λe t o=>e=.exit 0/\RS s0 U g j nm o ([]++[(⟨233,[],[]⟩,Pp)]++[(⟨241,[Cq],[]⟩,[Cq])]++[(⟨242,[],[]⟩,[[112]])]++[(⟨234,bG,bW⟩,bW)]++cC.map rT)/\∃x,t=NK U g j k 8 x) (λm t o=>∃i,i+m=8/\RS s0 U g j nm o ([]++[(⟨233,[],[]⟩,Pp)]++[(⟨241,[Cq],[]⟩,[Cq])]++[(⟨242,[],[]⟩,[[112]])]++[(⟨234,bG,bW⟩,bW)]++(cC.take i).map rT)/\Has o k (.cells (cC.map str).toArray 9)/\∃x,t=NK U g j k i x) ?_ 8 _ _ ⟨0,oq,by simpa using I,G,x0,rfl⟩) ?_
 .rintro m t S ⟨i,a6,R,P,x,rfl⟩;by_cases hm:0<m
  .have a3:i<cC.length:=by show i<8;omega
   have C:cC[i]?=some cC[i]:=gE a3;have L:(cC.take<|i+1).map rT=(cC.take i).map rT++[rT cC[i]]:=by rw[List.take_add_one,C,Option.toList_some,Bf];rfl
   generalize cC[i]=n at C L;have a1:(cC.map str).toArray[i]?=some (str n):=by simp[C]
   have⟨p,dv,m1,m2,F⟩:=Pv (pr:=pr) (s:=S) a n;have r1:=R.fk F;have d1:=P.fr F id;have k2:=bR p [n] 1 rfl iq;have Y:=r1.fk<|tP p [n];have w:=d1.add<|.cells ([n].map str).toArray 9;have e2:=m2.zy<|tP p [n];have⟨S3,q1,y,f3⟩:=vi (a 126 dq) c Y e2 k2 gq;have d3:=w.fr f3 (by
    have⟨ov,rv,a7,a8,g1,g2,_⟩:=Y.ex;rintro((z|z)|⟨_,z⟩)
    .exact w.ne g1 dq z
    .exact w.ne g2 dq z
    .exact w.ne z dq rfl);replace y:RS s0 U g j nm S3 ([]++[(⟨233,[],[]⟩,Pp)]++[(⟨241,[Cq],[]⟩,[Cq])]++[(⟨242,[],[]⟩,[[112]])]++[(⟨234,bG,bW⟩,bW)]++(cC.take i).map rT++[rT n]):=y;rw[vt,<-L] at y;refine zr<|zp (yb (num i) (num 8)<|bE (b:=true)<|tD oq)<|am<|aB<|zT<|aB<|aF<|za S<|zr<|zp (yi k 0 8 8 i none .i64 (i:Nat) 1 oq oq oq)<|zo S<|zp (yl k i (str n) P.2 (i:=a1))<|zf<|za S<|zx<|zc 2 m1<|zg 2 (p.add<|.cells ([n].map str).toArray 9)<|yc #[] #[aC U 0,aC g 0,aC j 0] q1<|am<|zx<|zp (yp i 1 ((i+1:Nat):Int) oq oq)<|zf ⟨m-1,oq,i+1,oq,?_,?_,bu kq⟩
   .exact y
   .exact d3
  .obtain rfl:i=8:=oq
   exact zr<|zf<|za S<|aB<|zG<|aR ⟨rfl,R,bu kq⟩
 rintro e t K ⟨rfl,a4,xA,rfl⟩;have E:=um (pr:=pr) (s:=K)<|a 137 dq;have H:=aI K<|.cells (bX.map str).toArray 9;have J:=a4.fk<|tP K bX;generalize K.add (.cells (bX.map str).toArray 9)=S67 at E H J;obtain⟨l,B⟩:∃d,d=K.nx:=⟨_,rfl⟩;rw[<-B] at E H;refine aB<|zr<|zc 0 E<|zf<|za S67<|aV (NM U g j l 0) kq ?_;intro x0;refine aF<|bn (bw (Q:=λe t o=>e=.exit 2/\RS s0 U g j nm o (([]++[(⟨233,[],[]⟩,Pp)]++[(⟨241,[Cq],[]⟩,[Cq])]++[(⟨242,[],[]⟩,[[112]])]++[(⟨234,bG,bW⟩,bW)]++cC.map rT)++bX.map rF)/\∃x,t=NM U g j l 14 x) (λm t o=>∃i,i+m=14/\RS s0 U g j nm o (([]++[(⟨233,[],[]⟩,Pp)]++[(⟨241,[Cq],[]⟩,[Cq])]++[(⟨242,[],[]⟩,[[112]])]++[(⟨234,bG,bW⟩,bW)]++cC.map rT)++(bX.take i).map rF)/\Has o l (.cells (bX.map str).toArray 9)/\∃x,t=NM U g j l i x) ?_ 14 _ _ ⟨0,oq,by simpa using J,H,x0,rfl⟩) ?_
 .rintro m t S ⟨i,a6,R,P,x,rfl⟩;by_cases hm:0<m
  .have a3:i<bX.length:=by show i<14;omega
   have C:bX[i]?=some bX[i]:=gE a3;have L:(bX.take<|i+1).map rF=(bX.take i).map rF++[rF bX[i]]:=by rw[List.take_add_one,C,Option.toList_some,Bf];rfl
   generalize bX[i]=n at C L;have a1:(bX.map str).toArray[i]?=some (str n):=by simp[C]
   have⟨p,dv,m1,m2,F⟩:=Pw (pr:=pr) (s:=S) a n;have r1:=R.fk F;have d1:=P.fr F id;have k2:=bR p [n] 1 rfl iq;have Y:=r1.fk<|tP p [n];have w:=d1.add<|.cells ([n].map str).toArray 9;have e2:=m2.zy<|tP p [n];have⟨S3,q1,y,f3⟩:=vi (a 126 dq) c Y e2 k2 (by simp[List.length_take,show cC.length=8 from rfl,show bX.length=14 from rfl];omega);replace y:RS s0 U g j nm S3 (([]++[(⟨233,[],[]⟩,Pp)]++[(⟨241,[Cq],[]⟩,[Cq])]++[(⟨242,[],[]⟩,[[112]])]++[(⟨234,bG,bW⟩,bW)]++cC.map rT)++(bX.take i).map rF++[rF n]):=y;rw[vt,<-L] at y;refine zr<|zp (yb (num i) (num 14)<|bE (b:=true)<|tD oq)<|am<|aB<|zT<|aB<|aF<|za S<|zr<|zp (yi l 0 14 14 i none .i64 (i:Nat) 1 oq oq oq)<|zo S<|zp (yl l i (str n) P.2 (i:=a1))<|zf<|za S<|zx<|zc 2 m1<|zg 2 (p.add<|.cells ([n].map str).toArray 9)<|yc #[] #[aC U 0,aC g 0,aC j 0] q1<|am<|zx<|zp (yp i 1 ((i+1:Nat):Int) oq oq)<|zf ⟨m-1,oq,i+1,oq,?_,?_,bu kq⟩
   .exact y
   .exact (w.fr f3 (by
    have⟨ov,rv,a7,a8,g1,g2,_⟩:=Y.ex;rintro((z|z)|⟨_,z⟩)
    .exact w.ne g1 dq z
    .exact w.ne g2 dq z
    .exact w.ne z dq rfl))
  .obtain rfl:i=14:=oq
   exact zr<|zf<|za S<|aB<|zG<|aR ⟨rfl,R,bu kq⟩
 rintro e t SB ⟨rfl,a5,xB,rfl⟩;have⟨S71,v72,m73,m74,m75⟩:=Px (pr:=pr) (s:=SB) a;have f76:=a5.fk m75;have⟨S82,q83,R84,_⟩:=mB (a 126 dq) c f76 m74 [[]] 1 rfl dq (by simp[show cC.length=8 from rfl,show bX.length=14 from rfl]);exact zx<|zc 1 m73<|zg 1 (S71.add<|.cells ([[]].map str).toArray 9)<|yc #[] #[aC U 0,aC g 0,aC j 0] q83<|am ⟨.inl rfl,kq,R84⟩
def cF(nm:Bq)(l:List rS):List DC:=if (tc nm l).length>0 then tc nm l else nI nm l
variable {b:Nat}{σ my:TS}
def Uk(B:∀f,f∈fI->pr f=none)(N:∀{s0 s:AS} {q r t:Nat} {nm:Bq},RS s0 q r t nm s []->∃k,Ef pr F #[uS q r t] s (.tuple #[]) k/\RS s0 q r t nm k mI)(nm:Bq):∃k v l,Ef pr 66 #[.func (.func F) #[] #[],str nm] s v k/\qw k v l/\I4 k l (cF nm mI)/\cL (λ_=>False) s k/\(cF nm mI).length<=1000:=by
 have D:=(aI (s.add<|.cells #[str nm] 9)<|.cells #[aO] 191).add<|.cells #[aO] 191;have E:=aI ((s.add<|.cells #[str nm] 9).add<|.cells #[aO] 191)<|.cells #[aO] 191;have w:=(((aE (K:=λ_=>False) s).add<|.cells #[str nm] 9).add<|.cells #[aO] 191).add<|.cells #[aO] 191;have O:RS _ s.nx (s.nx+1) (s.nx+2) nm _ [] :=
  ⟨(((aI s<|.cells #[str nm] 9).add<|.cells #[aO] 191).add<|.cells #[aO] 191),⟨D.1,E.1,oq⟩,⟨aO,aO,[],[],D,E,.inl ⟨Y,Y⟩,.inl ⟨Y,Y⟩,λx z=>(cw z).elim,λx z=>(cw z).elim,λx z=>(cw z).elim,⟨Y,λi v d h=>by simp at h⟩,⟨Y,λi v d h=>by simp at h⟩⟩,aE _,iq⟩;have⟨S,M,j⟩:=N O;have⟨P,Q,a,R,h1,h2,h3,J,T,U,V,G,L⟩:=j.ex;have A:=w.trans j.fr λy W z=>oq
 suffices h:Ew pr _ _ s (λe u n=>(e=.normal\/e=.ret)/\n=S/\∃v l,di prog f66 u n=some v/\qw S v l/\I4 S l (cF nm mI)) by obtain⟨m,e,u,n,g1,I,rfl,v,l,g2,g3,g4⟩:=h;exact⟨n,v,l,aH (B 66 dq) func66 Y ⟨m,e,u,n,g1,I,g2,Y⟩,g3,g4,A,by unfold cF tc nI;split<;>rw[List.length_map]<;>exact lT (List.length_filter_le _ _) j.sz⟩
 obtain⟨o,p,C⟩:∃o p,P=.slice o a.length p:=by
  rcases h3 with ⟨rfl,rfl⟩|⟨d,rfl,_⟩
  .exact⟨none,0,Y⟩
  .exact⟨_,_,Y⟩
 subst C;unfold cF;rw[<-G.1];iterate 2 refine zs ?_
 refine za (((s.add<|.cells #[str nm] 9).add<|.cells #[aO] 191).add<|.cells #[aO] 191)<|zr<|zk 2<|zo _<|yc #[] #[] M<|am<|za S<|aB<|zr<|zp (yl (s.nx+1) 0 _ h1.2)<|zk 1 ?_;by_cases g:a.length>0
 .rw[ip g];exact zp (yb (num a.length) (num 0)<|fA (b:=true)<|tD oq)<|am<|za S<|zH<|zr<|zp (yl (s.nx+1) 0 _ h1.2)<|zf<|aD ⟨.inr Y,kq,_,_,kq,h3,G⟩
 .rw[iw g];exact zp (yb (num a.length) (num 0)<|fA (b:=false)<|fD oq)<|am<|za S<|zF<|zr<|zp (yl (s.nx+2) 0 Q h2.2)<|zf<|aD ⟨.inr Y,kq,_,_,kq,J,L⟩
def dz(pr:Prim)(b:Nat)(t:jm)(aY:kH)(d:DC)(σ my:TS)(g:Bool):Prop:=(∀y,blk t.at_ y->y<b)->∀s x,BX s b σ->dO s (.func (.func d.f) #[] x) d->dI s t.at_ aY->∃s',EF prog kg pr d.f (#[aC b 0,.agg (fq t).toArray]++x) s (.bool g) s'/\BX s' b my/\dJ b s s'
def e9(pr:Prim)(b:Nat)(t:jm)(aY:kH):List DC->TS->TS->Bool->Prop
 | [],σ,my,g=>my=σ/\g=true
 | d::ds,σ,my,g=>∃Oy g1,dz pr b t aY d σ Oy g1/\((g1=true/\e9 pr b t aY ds Oy my g)\/(g1=false/\my=Oy/\g=false))
section
variable (h:BX s b σ)
def BX.no{x:Nat}{cs:Aq}{t:TypeId}{fz:Nat × Nat}(c:Has s x (.cells cs t fz))(h1:t≠183)(h2:t≠44)(h3:t≠3)(a:t≠47:=by decide):¬KB b s x:=by have⟨_,_,_,_,h⟩:=h;exact h.no c h1 h2 h3 a
def BX.add(o:Obj):BX (s.add o) b σ:=by have⟨_,_,_,_,h⟩:=h;exact⟨_,_,_,_,h.add o⟩
def BX.fk(c:cL (λ_=>False) s s'):BX s' b σ/\dJ b s s':=by have⟨_,_,_,_,h⟩:=h;have a:=h.fk c λ_ _ _ _ _ z=>z.elim;exact⟨⟨_,_,_,_,a⟩,eY h.b a.b (c.mono λ_ _ z=>z.elim) (.inl O) (.inl λ_ z=>z)<|.inl λ_ z=>z⟩
end
theorem dI.fb{l:kH}(h:dI s v l)(i:∀y,blk v y->y<b)(j:BX s b σ)(k:dJ b s s'):dI s' v l:=h.fk k.1 λy U=>by
 rcases h with ⟨e,_⟩|⟨d,c,fz,e,q1,q2⟩
 .rw[e] at U;exact(cw U).elim
 .have m:=i y U;rw[e] at U;rw[dk U] at m |-;have⟨_,_,_,_,f⟩:=j;have g:Has s d _:=⟨q1,q2⟩;intro z;rcases(gT f.b.2).1 z with z|z|z|z|z
  .grind
  .have⟨_,_,z⟩:=f.n.blk z;exact g.ne z dq O
  .have⟨_,_,z⟩:=f.r.blk z;exact g.ne z dq O
  .have⟨_,_,z⟩:=f.a.blk z;exact g.ne z dq O
  .omega
def I4.fb{vs:Vq}(h:I4 s vs ds)(a:BX s b σ)(d:dJ b s s'):I4 s' vs ds:=h.fk d.1 λx f t g e c=>by rcases c with rfl|rfl|rfl|⟨rfl,_⟩<;>exact a.no e dq dq dq
def NH(b B:Nat)(v aY:Value)(n i:Nat)(x:Nq):TL:=[aC b 0,x 1,x 2,x 3,x 4,aC B 0,.bool false,x 7,x 8,x 9,x 10,x 11,v,num n,num i]++gG x 15 9
theorem CY(V:∀f,f∈fI->pr f=none)(hF:∀{s0 s:AS} {Z Bo Br:Nat} {nm:Bq},RS s0 Z Bo Br nm s []->∃E,Ef pr F #[uS Z Bo Br] s (.tuple #[]) E/\RS s0 Z Bo Br nm E mI){t:jm}(aa:∀y,blk t.at_ y->y<b)(h:BX s b σ)(ha:dI s t.at_ aY)(W:e9 pr b t aY (cF t.name mI) σ my g):∃E,Ef pr 317 #[aC b 0,eD F,.agg (fq t).toArray] s (.bool g) E/\BX E b my/\dJ b s E:=by
 have⟨o,p,nm,at_,l⟩:=t;have N:=ha;have⟨c,j,sy⟩:=N.len;subst sy;have a1:=h.add<|fp ⟨o,p,nm,.slice c aY.length j,l⟩;have a2:=aI s<|fp ⟨o,p,nm,.slice c aY.length j,l⟩;have T:=(aE (K:=λ_=>False) s).add<|fp ⟨o,p,nm,.slice c aY.length j,l⟩;have a3:=(h.fk T).2;have a4:=N.fk T λ_ _=>id;generalize hS:s.add _=S at *;have⟨A,v,H,e1,e2,Y,e4,e5⟩:=Uk (s:=S) V hF nm;have⟨J,b2⟩:=a1.fk e4;have b3:=a2.fr e4 id;have b4:=a4.fk e4 λ_ _=>id;generalize cF nm mI=q at W Y e5;obtain⟨C,D,hv⟩:∃C D,v=.slice C q.length D:=by
  rw[<-Y.1];rcases e2 with ⟨rfl,rfl⟩|⟨d,rfl,_⟩
  .exact⟨none,0,rfl⟩
  .exact⟨_,_,rfl⟩
 subst hv;generalize hn:q.length=n at *;refine aX (V 317 dq) func317 rfl<|zs<|za (s.add<|fp ⟨o,p,nm,.slice c aY.length j,l⟩) ?_;rw[hS];refine aB<|zr<|zg 2 S<|zp (yl s.nx 2 (str nm) a2.2)<|yc #[.func (.func F) #[] #[]] #[] e1<|zf<|za A<|aV (NH b s.nx (.slice C n D) undef n 0) kq ?_;intro x0;refine aF<|bn (bw (Q:=λe B G=>((e=.exit 0/\g=true/\∃x,B=NH b s.nx (.slice C n D) undef n n x)\/(e=.ret/\di prog f317 B G=some (.bool g)))/\BX G b my/\dJ b A G) (λm B G=>∃i w,i+m=n/\BX G b w/\dJ b A G/\e9 pr b ⟨o,p,nm,.slice c aY.length j,l⟩ aY (q.drop i) w my g/\∃x,B=NH b s.nx (.slice C n D) undef n i x) ?_ n _ _ ⟨0,σ,oq,J,dU A,W,x0,rfl⟩) ?_
 .rintro m B U ⟨i,w,ah,M,k,I,x,rfl⟩;by_cases hm:0<m
  .have ae:i<q.length:=oq
   have hx:=gE ae;rw[List.drop_eq_getElem_cons ae] at I;generalize q[i]=d at hx I;have r:i<H.length:=by rw[Y.1];omega
   have a9:=gE r;generalize H[i]=dv at a9;have e3U:=Y.fb J k;have R:=e3U.2 i dv d a9 hx;obtain⟨X,rfl⟩:=R.fn;obtain⟨L,fz,rfl,P⟩:∃L fz,C=some ⟨L,0,none⟩/\Has A L (.cells H.toArray 187 fz):=by
    rcases e2 with ⟨_,z⟩|⟨d,z,hh⟩
    .rw[z] at r;simp at r
    .grind
   have ab:=P.fr k.1<|J.no P dq dq dq;have O:H.toArray[i]?=some (.func (.func d.f) #[] X):=by simp[a9]
   have ag:=b3.fr k.1<|J.no b3 dq dq dq;have VI:=b4.fb aa J k;have⟨Oy,g1,u,a⟩:=I;have⟨U2,f1,f2,f3⟩:=u aa U X M R VI;generalize aY.length=nA at *;refine zr<|zp (yb (num i) (num n)<|bE (b:=true)<|tD oq)<|am<|aB<|zT<|aB<|aF<|za U<|zr<|zp (yi L 0 n D i none .i64 (i:Nat) 1 oq oq oq)<|zo U<|zp (yl L i _ ab.2 (i:=O))<|zf<|za U<|zr<|zg 2 U<|zp (yA s.nx 0 5 #[num o,str p,str nm,.slice c nA j,.bool l] ag.2 iq)<|yc #[] X f1 ?_;rcases a with ⟨rfl,a⟩|⟨rfl,rfl,rfl⟩
   .exact zf<|za U2<|zF<|zx<|zp (yp i 1 ((i+1:Nat):Int) oq oq)<|zf ⟨m-1,oq,i+1,Oy,oq,f2,k.trans f3,a,bu kq⟩
   .exact zf<|za U2<|zH<|zs<|aD ⟨.inr ⟨rfl,kq⟩,f2,k.trans f3⟩
  .obtain rfl:i=n:=oq
   rw[Jk oq] at I;obtain⟨rfl,rfl⟩:=I;exact zr<|zp (yb (num i) (num i)<|bE (b:=false)<|fD oq)<|am<|za U<|aB<|zG<|aR ⟨.inl ⟨rfl,rfl,bu kq⟩,M,k⟩
 .rintro e B U ⟨⟨rfl,rfl,x,rfl⟩|⟨rfl,af⟩,M,k⟩
  .exact zs<|aD ⟨.inr rfl,kq,M,(a3.trans b2).trans k⟩
  .exact⟨.inr rfl,af,M,(a3.trans b2).trans k⟩
variable {t:jm}
section
variable (eo:∀f,f∈fI->pr f=none)
def eV:dz pr b t aY ⟨233,[],[]⟩ σ σ false:=by intro r s x h q j;have⟨y,o,u,v,w,n,_⟩:=q;cases o;have⟨f,g,a,i,d⟩:=t;have⟨c,e,k⟩:=j.len;subst k;have l:=h.add<|fp ⟨f,g,a,.slice c aY.length e,d⟩;have m:=(h.fk<|(aE s).add<|fp ⟨f,g,a,.slice c aY.length e,d⟩).2;obtain rfl:=n dq;generalize p:s.add _=S at *;refine aX (eo 233 dq) func233 O<|zs<|za (s.add<|fp ⟨f,g,a,.slice c aY.length e,d⟩) ?_;rw[p];exact zs<|za S<|aD ⟨.inr O,kq,l,m⟩
def dz.head(E:σ.w=0)(B:σ.nodes.length<400000000):dz pr b t aY ⟨226,[],[]⟩ σ { σ.open_ KI aY with w:=1 } false:=by intro m s x h D i;have⟨L,v,G,H,I,u,_⟩:=D;cases v;have⟨f,g,a,k,e⟩:=t;have i:=i;have⟨c,d,l⟩:=i.len;subst l;have n:=h.add<|fp ⟨f,g,a,.slice c aY.length d,e⟩;have p:=aI s<|fp ⟨f,g,a,.slice c aY.length d,e⟩;have q:=(h.fk<|(aE s).add<|fp ⟨f,g,a,.slice c aY.length d,e⟩).2;have r:dI (s.add<|fp ⟨f,g,a,.slice c aY.length d,e⟩) _ aY:=i.fk ((aE s).add _) λ_ _=>id;obtain rfl:=u dq;generalize C:s.add _=S at *;have⟨U,y,z,A⟩:=FF (eo 220 dq) (eo 223 dq) (eo 217 dq) (eo 232 dq) n r m B;have⟨J,K,F,M,j⟩:=n;have j:=j.b;rw[E] at j;generalize aY.length=o at *;refine aX (eo 226 dq) func226 O<|zs<|za (s.add<|fp ⟨f,g,a,.slice c o d,e⟩) ?_;rw[C];exact aB<|zr<|zg 3 S<|zp (yl b 3 (num 0) j.2)<|zf<|za S<|zH<|zx<|zg 2 S<|zp (yl s.nx 3 _ p.2)<|zc 0 y<|am<|za U<|zs<|za U<|aD ⟨.inr O,kq,z,q.trans A⟩
end
def fU(pr:Prim)(F:FuncId)(b:Nat)(t:jm)(aY:kH)(σ my:TS):Prop:=(∀y,blk t.at_ y->y<b)->∀s,BX s b σ->dI s t.at_ aY->∃s',EF prog kg pr F #[aC b 0,.agg (fq t).toArray] s (.tuple #[]) s'/\BX s' b my/\dJ b s s'
section
variable (eo:∀f,f∈fI->pr f=none)
section
variable (kK:pr 127=bP 127)
def tp(E:σ.w≠2)(D:e9 pr b t aY (cF t.name mi) σ my false):fU pr 218 b t aY σ my:=by
 intro q s h k;have⟨f,i,g,o,e⟩:=t;have⟨a,c,p⟩:=k.len;subst p;generalize aY.length=d at *;have m:=h.add<|fp ⟨f,i,g,.slice a d c,e⟩;have r:=aI s<|fp ⟨f,i,g,.slice a d c,e⟩;have j:=(aE (K:=λ_=>False) s).add<|fp ⟨f,i,g,.slice a d c,e⟩;have v:=(h.fk j).2;have x:=k.fk j λ_ _=>id;generalize C:s.add _=S at *;have⟨U,y,A,B⟩:=CY (s:=S) eo (F:=65) (mI:=mi) (λz=>Ea eo kK z) q m x D;have⟨M,N,L,O,u⟩:=m;have l:=u.b;have H:=gW 181 l.2 (off:=3) Y;have I:=gW 112 l.2 (off:=4) Y;have J:=fX (P:=prog) (t:=60) (n:=5) underlying60 Y kq r.2 (off:=0)<|iz 5;generalize G:σ.w=w at *;refine aX (eo 218 dq) func218 Y<|zs<|za (s.add<|fp ⟨f,i,g,.slice a d c,e⟩) ?_;rw[C];exact aB<|aB<|aP kq kq kq<|zq<|zq<|zq<|zt S<|zu (yl b 3 (num w) l.2)<|zu (yb (num w) (num 2)<|cM (b:=true)<|bne_iff_ne.2 E)<|zq<|zq<|zq<|zq<|zq<|zq<|zt S<|zu (yl b 4 (eD 65) l.2)<|zu (yA s.nx 0 5 #[num f,str i,str g,.slice a d c,.bool e] r.2 iq)<|yt y<|zq<|zq<|bq ⟨kN<|vD H I J Y Y (by cases a<;>rfl),_,_,_,_,_,_,Y,Y,za U<|zH (aD ⟨.inr Y,kq,A,v.trans B⟩)⟩
def NR(R:σ.w=2){k:TS}(Q:e9 pr b t aY (cF t.name gm) σ k g)(A:g=true->jR t.name=false)(N:k.nodes.length<400000000):fU pr 218 b t aY σ (if g then k.fS t.name aY else k):=by
 intro l s h u;have⟨f,j,i,v,e⟩:=t;have u:dI s v aY:=u;have⟨a,c,x⟩:=u.len;subst x;generalize aY.length=d at *;have m:=h.add<|fp ⟨f,j,i,.slice a d c,e⟩;have q:=aI s<|fp ⟨f,j,i,.slice a d c,e⟩;have p:=(aE (K:=λ_=>False) s).add<|fp ⟨f,j,i,.slice a d c,e⟩;have C:=(h.fk p).2;have D:=u.fk p λ_ _=>id;generalize O:s.add (fp ⟨f,j,i,.slice a d c,e⟩)=S at *;have⟨U,M,E,r⟩:=CY (s:=S) eo (F:=68) (mI:=gm) (λz=>Ec eo kK z) (t:=⟨f,j,i,.slice a d c,e⟩) l m D Q;have I:dI U (.slice a d c) aY:=D.fb l m r;have B:=λhg:g=true=>qn (eo 228 dq) (eo 138 dq) kK (eo 223 dq) (eo 217 dq) (eo 232 dq) E (t:=⟨f,j,i,.slice a d c,e⟩) I (λy z=>⟨l y z,A hg⟩) N;have⟨Z,rv,Y,xs,G⟩:=m;have o:=G.b;have m:BX S b σ:=⟨_,_,_,_,G⟩;rw[R] at o;refine aX (eo 218 dq) func218 W<|zs<|za (s.add<|fp ⟨f,j,i,.slice a d c,e⟩) ?_;rw[O];refine aB<|aB<|aP kq kq kq<|zq<|zq<|zq<|zt S<|zu (yl b 3 (num 2) o.2) ?_;iterate 2 refine zq ?_
 iterate 9 refine qv kq ?_
 refine zq<|bq ⟨kN<|JG (gW 181 o.2 (off:=3) W),_,_,_,_,_,_,W,W,za S<|zF<|aB<|aP kq kq kq (zq<|zq<|zq<|zq<|zq (zt S (zu (yl b 6 (eD 68) o.2) (zu (yA s.nx 0 5 #[num f,str j,str i,.slice a d c,.bool e] q.2 iq) (yt M (zq (bq ⟨kN<|jT (gW 112 o.2 (off:=6) W) (fX (P:=prog) (t:=60) (n:=5) underlying60 W kq q.2 (off:=0)<|iz 5) W (by cases a<;>rfl),_,_,_,_,_,_,W,W,za U ?_⟩)))))))⟩;cases g with
 | true =>obtain⟨V,e1,J,L⟩:=B W;exact zH<|zx<|zg 1 U<|zp (yA s.nx 0 5 #[num f,str j,str i,.slice a d c,.bool e] (q.fr r.1<|m.no q dq dq dq).2 iq)<|zc 0 e1<|am ⟨.inl W,kq,J,(C.trans r).trans L⟩
 | false =>exact zF ⟨.inl W,kq,E,C.trans r⟩
def Fs(E:σ.w≠2)(D:e9 pr b t aY (cF t.name mZ) σ my false):fU pr 219 b t aY σ my:=by
 intro q s h k;have⟨f,i,g,o,e⟩:=t;have⟨a,c,p⟩:=k.len;subst p;generalize aY.length=d at *;have m:=h.add<|fp ⟨f,i,g,.slice a d c,e⟩;have r:=aI s<|fp ⟨f,i,g,.slice a d c,e⟩;have j:=(aE (K:=λ_=>False) s).add<|fp ⟨f,i,g,.slice a d c,e⟩;have v:=(h.fk j).2;have x:=k.fk j λ_ _=>id;generalize C:s.add _=S at *;have⟨U,y,A,B⟩:=CY (s:=S) eo (F:=67) (mI:=mZ) (λz=>D9 eo kK z) q m x D;have⟨M,N,L,O,u⟩:=m;have l:=u.b;have H:=gW 181 l.2 (off:=3) Y;have I:=gW 112 l.2 (off:=5) Y;have J:=fX (P:=prog) (t:=60) (n:=5) underlying60 Y kq r.2 (off:=0)<|iz 5;generalize G:σ.w=w at *;refine aX (eo 219 dq) func219 Y<|zs<|za (s.add<|fp ⟨f,i,g,.slice a d c,e⟩) ?_;rw[C];exact aB<|aP kq kq kq<|zq<|zq<|zq<|zt S<|zu (yl b 3 (num w) l.2)<|zu (yb (num w) (num 2)<|cW (b:=false)<|bF.2 E)<|zq<|zq<|zq<|zq<|zq<|zq<|zt S<|zu (yl b 5 (eD 67) l.2)<|zu (yA s.nx 0 5 #[num f,str i,str g,.slice a d c,.bool e] r.2 iq)<|yt y<|zq<|zq<|bq ⟨kN<|vD H I J Y Y (by cases a<;>rfl),_,_,_,_,_,_,Y,Y,za U<|zF (⟨.inl Y,kq,A,v.trans B⟩)⟩
def SG(G:σ.w=2)(E:e9 pr b t aY (cF t.name iZ) σ my g):fU pr 219 b t aY σ my:=by
 intro r s h m;have⟨f,j,i,p,e⟩:=t;have m:=m;have⟨a,c,q⟩:=m.len;subst q;generalize aY.length=d at *;have o:=h.add<|fp ⟨f,j,i,.slice a d c,e⟩;have u:=aI s<|fp ⟨f,j,i,.slice a d c,e⟩;have l:=(aE (K:=λ_=>False) s).add<|fp ⟨f,j,i,.slice a d c,e⟩;have x:=(h.fk l).2;have y:=m.fk l λ_ _=>id;generalize D:s.add _=S at *;have⟨U,A,B,C⟩:=CY eo (λz=>Eb eo kK z) r o y E;have⟨M,N,L,O,v⟩:=o;have k:=v.b;rw[G] at k;refine aX (eo 219 dq) func219 Y<|zs<|za (s.add<|fp ⟨f,j,i,.slice a d c,e⟩) ?_;rw[D];refine aB<|aP kq kq kq<|zq<|zq<|zq<|zt S<|zu (yl b 3 (num 2) k.2) ?_;iterate 2 refine zq ?_
 iterate 9 refine qv kq ?_
 exact zq<|bq ⟨kN<|JG (gW 181 k.2 (off:=3) Y) Y,_,_,_,_,_,_,Y,Y,za S<|zH (aP kq kq kq (zq<|zq<|zq<|zq<|zq (zt S (zu (yl b 7 (eD 69) k.2) (zu (yA s.nx 0 5 #[num f,str j,str i,.slice a d c,.bool e] u.2 iq) (yt A (bq ⟨kN<|jT (gW 112 k.2 (off:=7) Y) (fX (n:=5) underlying60 Y kq u.2<|iz 5) Y (by cases a<;>rfl),_,_,_,_,_,_,Y,Y,⟨.inl Y,kq,B,x.trans C⟩⟩)))))))⟩
end
def Qt(q:pr 127=bP 127)(z:t.kind=1)(f:∀s,BX s b σ->∃o,Ef pr 216 #[aC b 0,str t.text] s (.tuple #[]) o/\BX o b my/\dJ b s o):fU pr 119 b t aY σ my:=by intro A s h l;have⟨g,a,j,k,d⟩:=t;have l:=l;have⟨c,e,m⟩:=l.len;subst m;generalize aY.length=i at *;have r:=h.add<|fp ⟨g,a,j,.slice c i e,d⟩;have p:=aI s<|fp ⟨g,a,j,.slice c i e,d⟩;have n:=(aE (K:=λ_=>False) s).add<|fp ⟨g,a,j,.slice c i e,d⟩;have u:=(h.fk n).2;generalize y:s.add _=S at *;have⟨U,v,w,x⟩:=f S r;obtain rfl:g=1:=z;refine aX (eo 119 dq) func119 O<|zs<|za (s.add<|fp ⟨1,a,j,.slice c i e,d⟩) ?_;rw[y];exact zr<|zg 1 S<|zp (yl s.nx 0 _ p.2)<|zf<|za S<|aF<|zr<|zf<|za S<|zH<|zx<|zg 2 S<|zp (yl s.nx 1 _ p.2)<|zc 0 v<|am ⟨.inl O,kq,w,u.trans x⟩
def Qs(p:pr 127=bP 127)(z:t.kind=2)(A:fU pr 218 b t aY σ my):fU pr 119 b t aY σ my:=by
 intro n s h k;have⟨i,g,f,l,e⟩:=t;have⟨a,c,m⟩:=k.len;subst m;generalize aY.length=d at *;have q:=h.add<|fp ⟨i,g,f,.slice a d c,e⟩;have o:=aI s<|fp ⟨i,g,f,.slice a d c,e⟩;have j:=(aE (K:=λ_=>False) s).add<|fp ⟨i,g,f,.slice a d c,e⟩;have r:=(h.fk j).2;have u:=k.fk j λ_ _=>id;generalize y:s.add _=S at *;have⟨U,v,w,x⟩:=A n S q u;obtain rfl:i=2:=z;refine aX (eo 119 dq) func119 O<|zs<|za (s.add<|fp ⟨2,g,f,.slice a d c,e⟩) ?_;rw[y];refine zr<|zg 1 S<|zp (yl s.nx 0 (num 2) o.2)<|zf<|za S<|aF ?_;iterate 2
  refine zr ?_
  refine zf ?_
  refine za S ?_
  refine zG ?_
 exact zr<|zf<|za S<|zH<|zx<|zg 1 S<|zp (yA s.nx 0 5 #[num 2,str g,str f,.slice a d c,.bool e] o.2 iq)<|zc 0 v<|am ⟨.inl O,kq,w,r.trans x⟩
def Qr(p:pr 127=bP 127)(z:t.kind=3)(A:fU pr 219 b t aY σ my):fU pr 119 b t aY σ my:=by
 intro n s h k;have⟨i,g,f,l,e⟩:=t;have⟨a,c,m⟩:=k.len;subst m;generalize aY.length=d at *;have q:=h.add<|fp ⟨i,g,f,.slice a d c,e⟩;have o:=aI s<|fp ⟨i,g,f,.slice a d c,e⟩;have j:=(aE (K:=λ_=>False) s).add<|fp ⟨i,g,f,.slice a d c,e⟩;have r:=(h.fk j).2;have u:=k.fk j λ_ _=>id;generalize y:s.add _=S at *;have⟨U,v,w,x⟩:=A n S q u;obtain rfl:i=3:=z;refine aX (eo 119 dq) func119 O<|zs<|za (s.add<|fp ⟨3,g,f,.slice a d c,e⟩) ?_;rw[y];refine zr<|zg 1 S<|zp (yl s.nx 0 (num 3) o.2)<|zf<|za S<|aF ?_;iterate 3
  refine zr ?_
  refine zf ?_
  refine za S ?_
  refine zG ?_
 exact zr<|zf<|za S<|zH<|zx<|zg 1 S<|zp (yA s.nx 0 5 #[num 3,str g,str f,.slice a d c,.bool e] o.2 iq)<|zc 0 v<|am ⟨.inl O,kq,w,r.trans x⟩
end
def Qx:∀(a:List jm) (i:Nat) (t:jm),a[i]?=some t->(((qM a).toList.drop<|i*5).take 5).toArray=(fq t).toArray:=by
 intro a i t h;have b:∀(a:List jm) i,a[i]?=some t->((a.flatMap fq).drop<|i*5).take 5=fq t:=by
  intro a;induction a with
  | nil=>intro i h;simp at h
  | cons x l c =>
   intro i h;match i with
   | 0=>simp at h;subst h;rfl
   | i+1=>rw[show(i+1)*5=i*5+5 by omega];exact c i<|by simpa using h
 rw[show(qM a).toList=a.flatMap fq by simp[qM],b a i h]
def vM(pr:Prim):List Tok->TS->TS->Prop
 | [],σ,my=>my=σ
 | u::us,σ,my=>∃Oy,(∀b at_,fU pr 119 b ⟨u.kind,u.text,u.name,at_,u.closed⟩ u.bC σ Oy)/\vM pr us Oy my
def TS.zero:TS:=⟨[⟨1,-1,qz,[],[]⟩],[0],[],0⟩
def UZ (B:Nat)(v:Value)(n i:Nat)(x:Nq):TL:=[v,x 1,x 2,x 3,x 4,x 5,aC B 0,x 7,x 8,x 9,x 10,x 11,x 12,x 13,x 14,v,num n,num i]++gG x 18 9
def Ve(e:∀f,f∈fI->pr f=none)(m:vr s v ts)(p:j9 s ts us)(q:us.length<=1000000)(r:vM pr us TS.zero my){KQ:TS}(c:∀(s:AS) (b:Nat),BX s b my->∃a,Ef pr 120 #[aC b 0] s (.tuple #[]) a/\BX a b KQ/\dJ b s a):∃a w i,Ef pr 39 #[v] s w a/\nR a w i/\fK a i KQ.nodes/\cL (λ_=>False) s a/\∀x,blk w x->s.nx<=x:=by
 have⟨a,w,i,h1,h2,h3,n,o⟩:∃s' w xs,Ef pr 64 #[v,.agg #[eD 65,eD 67,eD 68,eD 69]] s w s'/\nR s' w xs/\fK s' xs KQ.nodes/\cL (λ_=>False) s s'/\∀x,blk w x->s.nx<=x:=by
  suffices h:Ew pr (match f64.body with|some A=>A|none=>.skip) ((#[v,.agg #[eD 65,eD 67,eD 68,eD 69]]:Aq).toList++List.replicate (f64.ntmps-(#[v,.agg #[eD 65,eD 67,eD 68,eD 69]]:Aq).toList.length) undef) s (λC a' s1=>(C=.normal\/C=.ret)/\∃w xs,di prog f64 a' s1=some w/\nR s1 w xs/\fK s1 xs KQ.nodes/\cL (λ_=>False) s s1/\∀x,blk w x->s.nx<=x) by have⟨D,C,a',s1,h1,he,w,xs,h2,h3⟩:=h;exact⟨s1,w,xs,aH (e 64 dq) func64 O ⟨D,C,a',s1,h1,he,h2,O⟩,h3⟩
  obtain⟨V1,V5,hvv⟩:∃V1 V5,v=.slice V1 ts.length V5:=by
   rcases m with ⟨rfl,rfl⟩|⟨d,fz,rfl,_⟩
   .exact⟨none,0,O⟩
   .exact⟨_,_,O⟩
  subst hvv;have hlen:ts.length=us.length:=p.1;have a0:=aI s<|.cells #[eD 65,eD 67,eD 68,eD 69] 116;have f0:=(aE (K:=λ_=>False) s).add<|.cells #[eD 65,eD 67,eD 68,eD 69] 116;have n0:(s.add<|.cells #[eD 65,eD 67,eD 68,eD 69] 116).nx=s.nx+1:=O;generalize ZC:s.add (.cells #[eD 65,eD 67,eD 68,eD 69] 116)=A0 at a0 f0 n0;have z1:=aI A0<|.cells #[num 0,num 0,str [],str [],aO] 44;have y1:(A0.add<|.cells #[num 0,num 0,str [],str [],aO] 44).set A0.nx (some<|.cells #[num 1,num<|-1,str qz,str [],aO] 44)=A0.add (.cells #[num 1,num<|-1,str qz,str [],aO] 44):=AS.set_set (⟨A0.hp,A0.nx+1⟩:AS) A0.nx (some<|.cells #[num 0,num 0,str [],str [],aO] 44)<|some<|.cells #[num 1,num<|-1,str qz,str [],aO] 44;have a1:=aI A0<|.cells #[num 1,num<|-1,str qz,str [],aO] 44;have b1:=a0.add<|.cells #[num 1,num<|-1,str qz,str [],aO] 44;have f1:=f0.add<|.cells #[num 1,num<|-1,str qz,str [],aO] 44;have n1:(A0.add<|.cells #[num 1,num<|-1,str qz,str [],aO] 44).nx=s.nx+2:=by show A0.nx+1=_;omega
  generalize hA1:A0.add (.cells #[num 1,num<|-1,str qz,str [],aO] 44)=A1 at y1 a1 b1 f1 n1;have a2:=aI A1<|.cells #[num 1,num<|-1,str qz,str [],aO] 44;have b2:=b1.add<|.cells #[num 1,num<|-1,str qz,str [],aO] 44;have f2:=f1.add<|.cells #[num 1,num<|-1,str qz,str [],aO] 44;have n2:(A1.add<|.cells #[num 1,num<|-1,str qz,str [],aO] 44).nx=s.nx+3:=by show A1.nx+1=_;omega
  generalize Te:A1.add (.cells #[num 1,num<|-1,str qz,str [],aO] 44)=A2 at a2 b2 f2 n2;have a3:=aI A2<|.cells #[num 0] 3;have c2:=a2.add<|.cells #[num 0] 3;have b3:=b2.add<|.cells #[num 0] 3;have f3:=f2.add<|.cells #[num 0] 3;have n3:(A2.add<|.cells #[num 0] 3).nx=s.nx+4:=by show A2.nx+1=_;omega
  generalize WT:A2.add (.cells #[num 0] 3)=A3 at a3 c2 b3 f3 n3;have z4:=aI A3<|.cells #[aO,aO,aO,num 0,.nilFunc,.nilFunc,.nilFunc,.nilFunc] 183;have y4:(A3.add<|.cells #[aO,aO,aO,num 0,.nilFunc,.nilFunc,.nilFunc,.nilFunc] 183).set A3.nx (some<|lU (.slice (sq A1.nx) 1 1) (.slice (sq A2.nx) 1 1) aO 0)=A3.add (lU (.slice (sq A1.nx) 1 1) (.slice (sq A2.nx) 1 1) aO 0):=AS.set_set (⟨A3.hp,A3.nx+1⟩:AS) A3.nx (some<|.cells #[aO,aO,aO,num 0,.nilFunc,.nilFunc,.nilFunc,.nilFunc] 183)<|some _;have a4:=aI A3<|lU (.slice (sq A1.nx) 1 1) (.slice (sq A2.nx) 1 1) aO 0;have c3:=a3.add<|lU (.slice (sq A1.nx) 1 1) (.slice (sq A2.nx) 1 1) aO 0;have d2:=c2.add<|lU (.slice (sq A1.nx) 1 1) (.slice (sq A2.nx) 1 1) aO 0;have f4:=f3.add<|lU (.slice (sq A1.nx) 1 1) (.slice (sq A2.nx) 1 1) aO 0;have n4:(A3.add<|lU (.slice (sq A1.nx) 1 1) (.slice (sq A2.nx) 1 1) aO 0).nx=s.nx+5:=by show A3.nx+1=_;omega
  generalize hA4:A3.add (lU (.slice (sq A1.nx) 1 1) (.slice (sq A2.nx) 1 1) aO 0)=A4 at y4 a4 c3 d2 f4 n4;have XP:CH A3.nx [⟨1,-1,qz,[],aO⟩]:=by
   have key:∀(i:Nat) (x:bH) (y:Nat),[(⟨1,-1,qz,[],aO⟩:bH)][i]?=some x->¬blk x.bC y:=λi x y hx hy=>by
    match i with
    | 0=>cases hx;exact cw hy
    | i+1=>cases hx
   exact⟨λi x y hx hy=>(key i x y hx hy).elim,λi j x x' y hx _ _ hy _=>(key i x y hx hy).elim⟩
  have hT:BT A4 A3.nx (.slice (sq A1.nx) 1 1) (.slice (sq A2.nx) 1 1) aO [⟨1,-1,qz,[],aO⟩] TS.zero :=
   ⟨XP,a4,⟨_,0,_,O,d2⟩,⟨O,λi x u h1 h2=>by
    match i with
    | 0=>cases h1;cases h2;exact⟨O,O,O,O,.inl ⟨O,O⟩⟩
    | i+1=>simp at h1⟩,.inr ⟨_,_,_,_,O,iz 1,c3.1,c3.2,λi k h=>by
    match i with
    | 0=>cases h;rfl
    | i+1=>simp[TS.zero] at h⟩,.inl ⟨O,O⟩,λx _ z=>cw z,λk hk=>by simp[TS.zero] at hk;subst hk;decide,λk hk=>by simp[TS.zero] at hk,by simp[TS.zero],dq⟩;have hK:∀x,KB A3.nx A4 x->s.nx<=x:=λx z=>by
   rcases(gT a4.2).1 z with z|z|z|z|z
   .omega
   iterate 2
    .rw[dk z];omega
   .exact(cw z).elim
   .have:=z.1;omega
  have hX:BX A4 A3.nx TS.zero:=⟨_,_,_,_,hT⟩;refine zs<|za (s.add<|.cells #[eD 65,eD 67,eD 68,eD 69] 116) ?_;rw[ZC];refine zr<|zg 2 (A0.add<|.cells #[num 0,num 0,str [],str [],aO] 44)<|zp (eX (b:=A0.nx) (off:=0) (w:=.agg #[num 1,num<|-1,str qz,str [],aO]) (ws:=[num 1,num<|-1,str qz,str [],aO]) O kq kq O O kq (aI A0 _).2 iq)<|am<|za ((A0.add<|.cells #[num 0,num 0,str [],str [],aO] 44).set A0.nx<|some<|.cells #[num 1,num<|-1,str qz,str [],aO] 44) ?_;rw[y1];refine zr<|zp (yA A0.nx 0 5 #[num 1,num<|-1,str qz,str [],aO] a1.2 iq)<|zk 1<|zo (A1.add<|.cells #[num 1,num<|-1,str qz,str [],aO] 44) ?_;rw[Te];refine zk 1<|zo (A2.add<|.cells #[num 0] 3) ?_;rw[WT];refine zp (yA s.nx 0 4 #[eD 65,eD 67,eD 68,eD 69] b3.2 iq)<|zk 2<|zo (A3.add<|.cells #[aO,aO,aO,num 0,.nilFunc,.nilFunc,.nilFunc,.nilFunc] 183)<|zp (eX (b:=A3.nx) (off:=0) (w:=.agg #[.slice (sq A1.nx) 1 1,.slice (sq A2.nx) 1 1,aO,num 0,eD 65,eD 67,eD 68,eD 69]) (ws:=[.slice (sq A1.nx) 1 1,.slice (sq A2.nx) 1 1,aO,num 0,eD 65,eD 67,eD 68,eD 69]) O kq kq O O kq z4.2 iq)<|am<|za ((A3.add<|.cells #[aO,aO,aO,num 0,.nilFunc,.nilFunc,.nilFunc,.nilFunc] 183).set A3.nx<|some<|lU (.slice (sq A1.nx) 1 1) (.slice (sq A2.nx) 1 1) aO 0) ?_;rw[y4];refine aB<|zr<|zf<|za A4 ?_;generalize A3.nx=B at *;generalize Tx:ts.length=n at *;refine aV (UZ B (.slice V1 n V5) n 0) kq ?_;intro x0;refine aF<|bn (bw (Q:=λC a' s1=>C=.exit 0/\BX s1 B my/\dJ B A4 s1/\∃x,a'=UZ B (.slice V1 n V5) n n x) (λD a' s1=>∃i σi,i+D=n/\BX s1 B σi/\dJ B A4 s1/\vM pr (us.drop i) σi my/\∃x,a'=UZ B (.slice V1 n V5) n i x) ?_ n _ _ ⟨0,TS.zero,oq,hX,dU A4,r,x0,O⟩) ?_
  .rintro D a' U ⟨i,σi,ZJ,hU,O0,Xk,x,rfl⟩;by_cases hi:i<n
   .have hlu:i<us.length:=oq
    rw[List.drop_eq_getElem_cons hlu] at Xk;have hux:us[i]?=some us[i]:=gE hlu;generalize us[i]=u at hux Xk;have mH:i<ts.length:=oq
    have htx:ts[i]?=some ts[i]:=gE mH;generalize ts[i]=t at htx;have⟨m1,m2,m3,m4,m5⟩:=p.2 i t u htx hux;obtain⟨dd,fz,rfl,hdd⟩:∃dd fz,V1=some ⟨dd,0,none⟩/\Has s dd (.cells (qM ts) 60 fz):=by
     rcases m with ⟨_,z⟩|⟨d,fz,z,hh⟩
     .rw[z] at mH;simp at mH
     .grind
    have hdA:=hdd.fr f4 id;have hdU:=hdA.fr O0.1<|hX.no hdA dq dq dq;have hbr:∀y,blk t.at_ y->y<B:=λy hy=>by
     rcases m5 with ⟨C,_⟩|⟨d,A,fz,C,q1,q2⟩
     .rw[C] at hy;exact(cw hy).elim
     .rw[C] at hy;rw[dk hy];omega
    have VI:dI U t.at_ u.bC:=(m5.fk f4 λ_ _=>id).fb hbr hX O0;have⟨Oy,Dp,Xg⟩:=Xk;have Dp:=Dp B t.at_;rw[<-m1,<-m2,<-m3,<-m4] at Dp;have O7:=Qx ts i t htx;have vC:=uB ts;have⟨kd,tx,nm,at_,cl⟩:=t;have VI:dI U at_ u.bC:=VI;have⟨ad,cp,sy⟩:=VI.len;subst sy;generalize u.bC.length=nA at *;have e1:=hU.add<|fp ⟨kd,tx,nm,.slice ad nA cp,cl⟩;have e2:=aI U<|fp ⟨kd,tx,nm,.slice ad nA cp,cl⟩;have Xm:=(aE (K:=λ_=>False) U).add<|fp ⟨kd,tx,nm,.slice ad nA cp,cl⟩;have e3:=(hU.fk Xm).2;have e4:dI (U.add<|fp ⟨kd,tx,nm,.slice ad nA cp,cl⟩) (.slice ad nA cp) u.bC:=VI.fk Xm λ_ _=>id;have ez:=aI U<|.cells #[num 0,str [],str [],aO,.bool false] 60;have ey:(U.add<|.cells #[num 0,str [],str [],aO,.bool false] 60).set U.nx (some<|fp ⟨kd,tx,nm,.slice ad nA cp,cl⟩)=U.add (fp ⟨kd,tx,nm,.slice ad nA cp,cl⟩):=AS.set_set (⟨U.hp,U.nx+1⟩:AS) U.nx (some<|.cells #[num 0,str [],str [],aO,.bool false] 60)<|some _;generalize hW:U.add (fp ⟨kd,tx,nm,.slice ad nA cp,cl⟩)=W at *;have⟨W2,g1,g2,g3⟩:=Dp hbr W e1 e4;refine zr<|zp (yb (num i) (num n)<|bE (b:=true)<|tD oq)<|am<|aB<|zT<|aB<|aF<|za U<|zr<|zp (yi dd 0 n V5 (i*5) none .i64 (i:Nat) 5 oq oq oq)<|zo U<|zp (jq (b:=dd) (off:=i*5) (n:=5) (r:=#[num kd,str tx,str nm,.slice ad nA cp,.bool cl]) O underlying60 O kq kq hdU.2 (by rw[vC];omega) O7)<|zk 1<|zo (U.add<|.cells #[num 0,str [],str [],aO,.bool false] 60)<|zp (eX (b:=U.nx) (off:=0) (w:=.agg #[num kd,str tx,str nm,.slice ad nA cp,.bool cl]) (ws:=[num kd,str tx,str nm,.slice ad nA cp,.bool cl]) O kq kq O O kq ez.2 iq)<|am<|za ((U.add<|.cells #[num 0,str [],str [],aO,.bool false] 60).set U.nx<|some<|fp ⟨kd,tx,nm,.slice ad nA cp,cl⟩) ?_;rw[ey];exact zx<|zp (yA U.nx 0 5 #[num kd,str tx,str nm,.slice ad nA cp,.bool cl] e2.2 iq)<|zc 0 g1<|am<|za W2<|zx<|zp (yp i 1 ((i+1:Nat):Int) oq oq)<|zf ⟨D-1,oq,i+1,Oy,oq,g2,(O0.trans e3).trans g3,Xg,bu kq⟩
   .obtain rfl:i=n:=oq
    rw[Jk oq] at Xk;cases Xk;exact zr<|zp (yb (num i) (num i)<|bE (b:=false)<|fD oq)<|am<|za U<|aB<|zG<|aR ⟨O,hU,O0,bu kq⟩
  .rintro C a' U ⟨rfl,hU,O0,x,rfl⟩;have⟨V,hbo,hV,hfV⟩:=c U B hU;have⟨nv,rv,av,xs,hB⟩:=hV;have hb:=hB.b;have⟨nd,nc,nf,O4,O2⟩:=hB.n.old;subst O4;refine zr<|zc 0 hbo<|am<|za V<|zr<|zg 1 V<|zp (yl B 0 (.slice (sq nd) xs.length nc) hb.2)<|zf<|za V ?_;have O0:=O0.trans hfV;refine aD ⟨.inr O,_,xs,kq,hB.n,hB.m,f4.trans O0.1 λy hy z=>by have:=hK y z;omega,λx z=>?_⟩;by_cases mH:x<A4.nx
   .exact hK x<|O0.2 x mH<|(gT hb.2).2<|.inr<|.inl z
   .omega
 obtain⟨g,h,l⟩:∃g h,v=.slice g ts.length h:=by
  rcases m with ⟨rfl,rfl⟩|⟨d,fz,rfl,_⟩
  .exact⟨none,0,O⟩
  .exact⟨_,_,O⟩
 subst l;have⟨u,t,y,k,j⟩:=h2;subst k;exact⟨a,_,i,aH (e 39 dq) func39 O<|zs<|zr<|zk 6<|zc 0 h1<|zf yR,⟨u,t,y,O,j⟩,h3,n,o⟩
def e9.no(h:dz pr b t aY d σ my false):e9 pr b t aY (d::ds) σ my false:=⟨my,false,h,.inr ⟨O,O,O⟩⟩
def gd:=@e9.no
def e9.ok{a:TS}(h:dz pr b t aY d σ a true)(c:e9 pr b t aY ds a my g):e9 pr b t aY (d::ds) σ my g:=⟨a,true,h,.inl ⟨O,c⟩⟩
def e9.nil:e9 pr b t aY [] σ σ true:=⟨O,O⟩
def dz.go{fn:Func}{c:Code}(q:pr F=none)(A:prog.funcs[F]?=some fn)(w:fn.body=some c)
 (h:∀(s S:AS) (x:Aq) (kd:Int) (tx a:Bq) (ad:Option Addr) (B cp:Nat) (f:Bool),t=⟨kd,tx,a,.slice ad B cp,f⟩->s.add (fp t)=S->Has S s.nx (fp t)->dO S (.func (.func F) #[] x) ⟨F,l,m⟩->BX S b σ->dI S t.at_ aY->(∀y,blk t.at_ y->y<b) ->
   Ew pr c ((#[aC b 0,.agg (fq t).toArray]++x).toList++List.replicate (fn.ntmps-(#[aC b 0,.agg (fq t).toArray]++x).toList.length) undef) s λe j d=>(e=.normal\/e=.ret)/\di prog fn j d=some (.bool g)/\BX d b my/\dJ b S d):dz pr b t aY ⟨F,l,m⟩ σ my g:=by intro p s x v z i;have⟨kd,tx,a,k,f⟩:=t;have i:=i;obtain⟨ad,cp,rfl⟩:=i.len;have o:=(aE (K:=λ_=>False) s).add<|fp ⟨kd,tx,a,.slice ad aY.length cp,f⟩;have⟨C,D⟩:=v.fk o;have⟨n,e,j,d,h1,h2,h3,r,u⟩:=h s _ x kd tx a ad aY.length cp f O O (aI s _) (z.zy o) C (i.fk o λ_ _=>id) p;exact⟨d,aH q A w ⟨n,e,j,d,h1,h2,h3,O⟩,r,D.trans u⟩
def dw:=@dz.go
def tH(a:∀f,f∈fI->pr f=none)(e:pr 127=bP 127){u:Nd}(H:σ.nodes[σ.cur]?=some u)(E:aW u.name l=true)(h2:2<=σ.row.length):dz pr b t aY ⟨230,l,[]⟩ σ σ.pop true:=by
 refine dw (a 230 dq) func230 rfl λs S x K N h m M p o G A O D i P F=>?_;subst G;have⟨x',r,T,q,V,W,_⟩:=D;cases r;obtain⟨B,v,rfl,j,C⟩:=q rfl;have⟨U,w,y,z⟩:=CV (a 221 dq) (a 318 dq) (a 363 dq) e (a 319 dq) (a 142 dq) i h2;have⟨Z,rv,Q,xs,g⟩:=i;have g1:=wM (a 232 dq) g;have g2:=FP (a 231 dq) g (TS.nX g.ne) H;obtain⟨I,d,c,X,rfl,J⟩:=C;have g3:=re e (c:=c) J.2 I E;have e1:((σ.row.length:Nat)-1:Int)=(σ.row.length-1:Nat):=oq
 rw[e1] at g1;have L:=jS underlying62 rfl j.2 (off:=0) rfl;refine zs<|za (s.add<|fp ⟨K,N,h,.slice m M p,o⟩) ?_;rw[A];exact aB<|aB<|aP kq kq kq<|zq<|zq<|zt S<|yt g1<|yt g2<|zu (yl B 0 _ j.2)<|yt g3<|bq ⟨kN<|vD L L L,_,_,_,_,_,_,rfl,rfl,za S<|zH<|zx<|zk 2<|zo S<|zc 0 g1<|zc 0 w<|am<|za U<|zs<|za U<|aD ⟨.inr rfl,kq,y,z⟩⟩
def TS.wV(σ:TS)(k:Nat):Bool:=aW (σ.fs k) bX
def TS.gH(σ:TS)(i:Nat):TS:=⟨σ.nodes,σ.row.take i,if (σ.row.drop i).any σ.xS then [] else σ.again++((σ.row.drop i).drop 1).filter σ.wV,σ.w⟩
def RO(b i rd L rc j:Nat)(x:Nq):TL:=[aC b 0,num i,x 2,x 3,.slice (some ⟨rd,i,none⟩) (L+1) rc]++gG x 5 36++[.slice (some ⟨rd,i+1,none⟩) L (rc-1),num L,num j]++gG x 44 17
variable {nv rv av v2 Cs yx:Value}{xs:List bH}
theorem TS.r8(h:2<=σ.row.length):σ.gH (σ.row.length-1)=σ.pop:=by
 have U:σ.row≠[]:=λe=>by rw[e] at h;simp at h
 have a:σ.row.drop (σ.row.length-1)=[σ.cur]:=by
  have e:=List.dropLast_concat_getLast U;have b:σ.cur=σ.row.getLast U:=by show σ.row.getLastD 0=_;grind
  grind
 unfold TS.gH TS.pop;rw[a,List.dropLast_eq_take];simp
def TS.dx(σ:TS)(j:Int):TS:=if j<1 then σ else σ.gH j.toNat
section
variable (eo:∀f,f∈fI->pr f=none)
def o0(c:pr 320=none)(a:pr 127=bP 127)(h:BX s b σ){j:Int}(g:j≠0)(h1 : -1<=j)(h2:j<σ.row.length)(d:σ.again.length<=50000) :
  ∃e,Ef pr 221 #[aC b 0,num j] s (.tuple #[]) e/\BX e b (σ.dx j)/\dJ b s e:=by
 unfold TS.dx;by_cases f:j<1
 .rw[ip f];have:j = -1:=oq
  subst this;exact⟨s,(by exact aH (eo 221 dq) func221 O<|aB<|zr<|zf<|za s<|zH<|aD ⟨.inr O,kq,kq⟩),h,dU s⟩
 .rw[iw f];obtain⟨i,rfl⟩:=Int.eq_ofNat_of_zero_le (show 0<=j by omega);rw[show(i:Int).toNat=i from yE i];exact (λW X Z Y T=>by
   by_cases Xt:i=σ.row.length-1
   .subst Xt;rw[TS.r8 oq];exact CV W X Z a Y T h oq
   have⟨E,rv,A,xs,h⟩:=h;have vC:=h.sz;have⟨rd,f,G,rf,P,O6,B,ER,Rm⟩:=h.r.at<|TS.nX h.ne;have I:∀i k:Nat,σ.row[i]?=some k->G[i]?=some (num k):=by
    rcases h.r with ⟨e,_⟩|⟨v,cp,qG,fz,e,q0,q1,q2,q3⟩
    .rw[P] at e;cases e
    .rw[P] at e;cases e
     have:=B.2;rw[q2] at this;cases this;exact q3
   obtain⟨L,hL⟩:∃L,σ.row.length=i+(L+1):=⟨σ.row.length-i-1,by omega⟩
   have HK:(σ.row.take i).length=i:=by rw[List.length_take];omega
   have hdl:(σ.row.drop i).length=L+1:=by rw[List.length_drop];omega
   have XN:dB s (.slice (sq rd) i f) (σ.row.take i):=.inr ⟨rd,f,G,rf,by rw[HK],by rw[HK];omega,B.1,B.2,λj k o=>I j k (by
    rw[HA] at o;split at o
    .exact o
    .cases o)⟩;have W9:∀x,blk (.slice (sq rd) i f) x->blk rv x:=λx z=>by rw[P,dk z];exact eg _ _ _
   have abm:σ.row.take i≠[]:=λe=>by have:=congrArg List.length e;rw[HK] at this;simp at this;omega
   have Tt:∀k∈σ.row.take i,k∈σ.row:=λk o=>List.mem_of_mem_take o;have⟨u1,u2⟩:=h.upd (Cs:=.slice (sq rd) i f) (yx:=A) (w':=σ.w) XN h.a (λx z=>h.ra x<|W9 x z) (λk o=>h.lt k<|Tt k o) h.la abm ⟨oq,vC.2.2⟩ (.inl W9)<|.inl λ_ z=>z;have hb:=h.b;rw[P] at hb;have XI:Has (s.set b<|some<|lU E (.slice (sq rd) i f) A σ.w) rd (.cells G 3 rf):=B.set (B.ne h.b dq) _;generalize hU:s.set b (some<|lU E (.slice (sq rd) i f) A σ.w)=U at *;have⟨V,t1,t2⟩:=NW (σ:=⟨σ.nodes,σ.row.take i,σ.again,σ.w⟩) X Z a Y T u1 (rd:=rd) (off:=i) (n:=L+1) (c:=f-i) (ks:=σ.row.drop i) hdl XI (λj k o=>I _ _<|by rw[LA] at o;exact o) (λk o=>h.lt _<|List.mem_of_mem_drop o) oq;have v1:=u1.fk t2 λ_ _ _ _ _ z=>z.elim;have v2:dJ b U V:=eY u1.b v1.b (t2.mono λ_ _ z=>z.elim) (.inl rfl) (.inl λ_ z=>z)<|.inl λ_ z=>z;have XJ:=XI.fr t2 id;have abF:((σ.row.drop i).any (⟨σ.nodes,σ.row.take i,σ.again,σ.w⟩:TS).xS)=(σ.row.drop i).any σ.xS:=rfl;rw[abF] at t1;unfold TS.gH;generalize hbb:(σ.row.drop i).any σ.xS=bb at t1 |-;refine aX W func221 rfl<|aB<|zr<|zk 1<|zp (yb (num i) (num<|-1)<|cW (b:=false)<|bF.2 oq)<|zg 5 s<|zp (yl b 1 (.slice (sq rd) σ.row.length f) hb.2)<|zk 1<|zp (yb (num i) (num σ.row.length)<|fQ (b:=false)<|fD oq)<|zf<|za s<|zF<|zr<|zg 3 s<|zp (yl b 1 (.slice (sq rd) σ.row.length f) hb.2)<|zg 1 s<|zp (me (b:=rd) (off:=0) (n:=σ.row.length) (cp:=f) (i:=i) (j:=σ.row.length) (sz:=1) rfl underlying25 kq B.2 kq ((show _=bS σ.row.length f (some<|num i) none by kernel_rfl).trans<|(ig oq oq).trans<|by rw[yE]) oq) ?_;rw[show 0+i*1=i by omega,show σ.row.length-i=L+1 by omega];refine zf<|za s<|zr<|zg 4 s<|zp (yl b 1 (.slice (sq rd) σ.row.length f) hb.2)<|zg 1 s<|zp (me (b:=rd) (off:=0) (n:=σ.row.length) (cp:=f) (i:=0) (j:=i) (sz:=1) rfl underlying25 kq B.2 kq ((show _=bS σ.row.length f none (some<|num i) by kernel_rfl).trans<|(nV oq oq).trans<|by rw[yE]) oq) ?_;rw[show i-0=i by omega,show f-0=f by omega];refine zg 2 s<|zp (ys b 1 (.slice (sq rd) i f) hb.2 iq)<|am<|za (s.set b<|some<|lU E (.slice (sq rd) i f) A σ.w) ?_;rw[hU];refine aB<|zr<|zc 3 t1<|am<|za V ?_;cases bb with
   | true =>obtain⟨w1,w2⟩:=v1.upd (Cs:=.slice (sq rd) i f) (yx:=aO) (w':=σ.w) v1.r (.inl ⟨rfl,rfl⟩) (λx _ z=>cw z) v1.lt iq v1.ne ⟨v1.sz.2.1,by simp⟩ (.inl λ_ z=>z)<|.inr λx z=>(cw z).elim;exact zH<|zr<|zg 3 V<|zp (ys b 2 aO v1.b.2 iq)<|am<|aD ⟨.inr rfl,kq,⟨_,_,_,_,w1⟩,(u2.trans v2).trans w2⟩
   | false =>
    refine zF<|zr<|zg 1 V<|zp (me (b:=rd) (off:=i) (n:=L+1) (cp:=f-i) (i:=1) (j:=L+1) (sz:=1) rfl underlying25 kq XJ.2 kq ((show _=bS (L+1) (f-i) (some<|num ((1:Nat):Int)) none by kernel_rfl).trans<|(ig oq oq).trans<|by rw[yE]) oq) ?_;rw[show i+1*1=i+1 by omega,show L+1-1=L by omega];refine zf<|za V<|aV (RO b i rd L (f-i) 0) kq ?_;intro x0;refine aF ?_;have hdd:(σ.row.drop i).drop 1=σ.row.drop (i+1):=by rw[List.drop_drop]
    rw[hdd];have ZM:(σ.row.drop<|i+1).length=L:=by rw[List.length_drop];omega
    have Tn:∀k∈σ.row.drop (i+1),k<σ.nodes.length:=λk o=>h.lt _<|List.mem_of_mem_drop o;have hkc:∀j k:Nat,(σ.row.drop<|i+1)[j]?=some k->G[i+1+j]?=some (num k):=λj k o=>I _ _ (by rw[LA] at o;exact o);generalize σ.row.drop (i+1)=ks at ZM Tn hkc |-;refine bn (bw (Q:=λe a' S=>e=.exit 0/\∃A,BT S b E (.slice (sq rd) i f) A xs ⟨σ.nodes,σ.row.take i,σ.again++ks.filter σ.wV,σ.w⟩/\dJ b V S) (λm a' S=>∃j A,j+m=L/\BT S b E (.slice (sq rd) i f) A xs ⟨σ.nodes,σ.row.take i,σ.again++(ks.take j).filter σ.wV,σ.w⟩/\dJ b V S/\Has S rd (.cells G 3 rf)/\∃x,a'=RO b i rd L (f-i) j x) ?_ L _ _ ⟨0,A,by omega,by simpa using v1,dU _,XJ,x0,rfl⟩) ?_
    .rintro m a' S ⟨j,A,hjm,h1,h2,h3,x,rfl⟩;by_cases hm:0<m
     .have A8:j<ks.length:=oq
      have hx:ks[j]?=some ks[j]:=gE A8;have R:(ks.take<|j+1).filter σ.wV=(ks.take j).filter σ.wV++(if σ.wV ks[j]=true then [ks[j]] else []):=by rw[List.take_add_one,hx,List.filter_append];simp only[Option.toList_some,List.filter_cons,List.filter_nil]
      have W6:ks[j]∈ks:=zB A8;have Xe:((ks.take j).filter σ.wV).length<=40:=by have:=List.length_filter_le σ.wV<|ks.take j;rw[List.length_take] at this;omega
      generalize ks[j]=k at hx R W6;have VP:=Tn k W6;have hck:=hkc j k hx;obtain⟨u,hu⟩:∃u,σ.nodes[k]?=some u:=⟨_,gE VP⟩;have tQ:σ.wV k=aW u.name bX:=by simp[TS.wV,TS.fs,hu]
      have D:=JD a c (eo 137 dq) h1 (k:=k) hu;rw[<-tQ] at D;have g:=h1.add<|.cells (bX.map str).toArray 9;have f2:=c9 h1<|.cells (bX.map str).toArray 9;have f3:Has (S.add<|.cells (bX.map str).toArray 9) rd (.cells G 3 rf):=h3.add _;generalize S.add (.cells (bX.map str).toArray 9)=C at D g f2 f3;generalize Rj:σ.wV k=ff at D R;refine zr<|zp (yb (num j) (num L)<|bE (b:=true)<|tD oq)<|am<|za S<|aB<|zT<|aB<|aF<|zr<|zp (yi rd (i+1) L (f-i-1) (i+1+j) none .i64 (j:Nat) 1 oq oq oq)<|zp (yl rd (i+1+j) (num k) h3.2 (i:=hck))<|zf<|za S<|zr<|zc 2 D<|am<|za C ?_;cases ff with
      | false =>
       have n1:BT C b E (.slice (sq rd) i f) A xs ⟨σ.nodes,σ.row.take i,σ.again++(ks.take<|j+1).filter σ.wV,σ.w⟩:=by rw[R];simpa using g
       exact zF<|zx<|zp (yp j 1 ((j+1:Nat):Int) oq oq)<|zf ⟨m-1,by omega,j+1,A,by omega,n1,h2.trans f2,f3,bu kq⟩
      | true =>
       have hagl:(σ.again++(ks.take j).filter σ.wV).length<=60000:=by rw[lA];omega
       have abH:σ.again++(ks.take<|j+1).filter σ.wV=(σ.again++(ks.take j).filter σ.wV)++[k]:=by rw[R,ip rfl,vt]
       have hla:=g.la;have J:=g.sz;have Ts:=g.lt;have XB:=g.ne;simp only at hla J Ts XB;have⟨ad,acp,hav⟩:=g.a.len;have e4:=g.a.fk ((aE (K:=λ_=>False) C).add<|.cells #[num k] 3) λ_ _=>id;have e6:=aI C<|.cells #[num k] 3;have⟨w,M,c1,c2,c3,c4,c5,c6⟩:=Ni e4 k (by show(σ.again++(ks.take j).filter σ.wV).length<=100000;omega);have F:cL (λy=>blk A y) C M:=((aE C).add _).trans c5 λy _ z=>z;have h3':∀{y:Nat} {G:Aq} {t:TypeId} {fz:Nat × Nat},Has C y (.cells G t fz)->t≠3->¬blk A y:=λl ht z=>by have⟨_,_,z⟩:=g.a.blk z;exact l.ne z ht rfl
       have d1:=g.b.fr F<|h3' g.b dq;have d3:=g.n.fk F λy l=>by have⟨_,_,z⟩:=g.n.blk l;exact h3' z dq
       have d5:=g.r.fk F λy l z=>g.ra y l z;have d6:=g.m.fk F λy G fz l=>h3' l dq;have d7:=f3.fr F λz=>g.ra rd (eg _ _ _) z;have N:cL (λy=>y=b) M (M.set b<|some<|lU E (.slice (sq rd) i f) w σ.w):=aL (K:=λy=>y=b) (aE M) (λ_=>rfl) _;have p:∀{y:Nat} {G:Aq} {t:TypeId} {fz:Nat × Nat},Has M y (.cells G t fz)->t≠183->y≠b:=λl ht=>l.ne d1 ht;have g1:=d1.put<|lU E (.slice (sq rd) i f) w σ.w;have g3:=d3.fk N λy l=>by have⟨_,_,z⟩:=d3.blk l;exact p z dq
       have g4:=c4.fk N λy l=>by have⟨_,_,z⟩:=c4.blk l;exact p z dq
       have g5:=d5.fk N λy l=>by have⟨_,_,z⟩:=d5.blk l;exact p z dq
       have g6:=d6.fk N λy G fz l=>p l dq;have gf:cL (KB b C) C (M.set b<|some<|lU E (.slice (sq rd) i f) w σ.w):=aL (F.mono λy _ q=>(gT g.b.2).2<|i3<|.inl q) (λ_=>.inl rfl) _;have Rr:∀y,blk w y->C.nx<=y:=λy z=>by have:=c6 y z;simp at this;omega
       have hrl:=g.r.lt;have n1:BT (M.set b<|some<|lU E (.slice (sq rd) i f) w σ.w) b E (.slice (sq rd) i f) w xs ⟨σ.nodes,σ.row.take i,σ.again++(ks.take<|j+1).filter σ.wV,σ.w⟩:=by
        rw[abH];refine⟨g.sp,g1,g3,g6,g5,g4,λy l hz=>?_,Ts,λq O=>?_,XB,J.1,J.2.1,?_⟩
        .have:=Rr y hz
         have:=hrl y l;omega
        .have O:q∈(σ.again++(ks.take j).filter σ.wV)++[k]:=O;rw[List.mem_append] at O;rcases O with O|O
         .exact hla q O
         .simp at O;subst O;exact VP
        .show((σ.again++(ks.take j).filter σ.wV)++[k]).length<=100000;rw[lA,List.length_singleton];omega
       have n2:dJ b C (M.set b<|some<|lU E (.slice (sq rd) i f) w σ.w):=eY g.b g1 gf (.inl rfl) (.inl λ_ z=>z)<|.inr Rr;have fal:=g.a.lt;simp only at hav;subst hav;exact zH<|zx<|zg 4 C<|zp (yl b 2 (.slice ad (σ.again++(ks.take j).filter σ.wV).length acp) g.b.2)<|zg 2 (C.add<|.cells #[num k] 3)<|zp (iG (sl:=.slice ad (σ.again++(ks.take j).filter σ.wV).length acp) (news:=[num k]) (d:=C.nx) (m:=1) (k:=1) (sz:=1) (z:=num 0) (bytes:=8) rfl kq kq underlying25 kq rfl dq dq kq e6.2 (jc fal) dq iq iq rfl c1)<|zg 2 M<|zp (iH (b:=b) (off:=2) (w:=w) rfl kq kq c2 c3 kq d1.2 iq)<|am<|za (M.set b<|some<|lU E (.slice (sq rd) i f) w σ.w)<|zx<|zp (yp j 1 ((j+1:Nat):Int) oq oq)<|zf ⟨m-1,by omega,j+1,w,by omega,n1,(h2.trans f2).trans n2,(d7.set (p d7 dq)<|some<|lU E (.slice (sq rd) i f) w σ.w),bu kq⟩
     .have hj:j=L:=oq
      subst hj;rw[show ks.take j=ks from tL oq] at h1;exact zr<|zp (yb (num j) (num j)<|bE (b:=false)<|fD oq)<|am<|za S<|aB<|zG<|aR ⟨rfl,A,h1,h2⟩
    .rintro e a' S ⟨rfl,A,h1,h2⟩;exact⟨.inl rfl,kq,⟨_,_,_,_,h1⟩,(u2.trans v2).trans h2⟩) (eo 221 dq) (eo 318 dq) (eo 363 dq) (eo 319 dq) (eo 142 dq)
def mo(c:pr 320=none)(a:pr 127=bP 127)(y:cj σ l m≠0)(f:σ.again.length<=50000):dz pr b t aY ⟨234,l,m⟩ σ (σ.dx<|cj σ l m) true:=by refine dw (eo 234 dq) func234 rfl λs S x K M g k L u r I D O G i P H=>?_;subst I;have⟨X,w,R,T,v,U,_⟩:=G;cases w;obtain⟨B,C,N,e,rfl,z,A,J,F⟩:=v rfl;have d:=qX σ l m;have⟨h,o,p,q⟩:=o0 eo c a i y d.1 d.2 f;have⟨V,W,Q,Y,E⟩:=i;have n:=CP (eo 235 dq) (eo 222 dq) (eo 231 dq) (eo 232 dq) a E J F;refine zs<|za (s.add<|fp ⟨K,M,g,.slice k L u,r⟩) ?_;rw[D];exact zr<|zg 2 S<|zp (yl B 0 N z.2)<|zp (yl C 0 e A.2)<|zc 0 n<|zc 0 o<|am<|za h<|zs<|za h<|aD ⟨.inr rfl,kq,p,q⟩
end
theorem ya(a:∀f,f∈fI->pr f=none)(p:pr 320=none)(d:pr 127=bP 127)(i:cj σ bG [t.name]≠0)(q:σ.again.length<=50000):dz pr b t aY ⟨246,[],[]⟩ σ (σ.dx<|cj σ bG [t.name]) false:=by refine dw (a 246 dq) func246 rfl λs S x J M c r K A z I G o H n P Q=>?_;subst I;have⟨Z,C,T,V,W,B,_⟩:=H;cases C;obtain rfl:=B dq;have i:=i;have g:=qX σ bG [c];have⟨X,Y,R,xs,l⟩:=n;have h:=l.add<|.cells ([c].map str).toArray 9;have u:=c9 l<|.cells ([c].map str).toArray 9;have v:=Bl (a 243 dq) (a 131 dq) (a 235 dq) (a 222 dq) (a 231 dq) (a 232 dq) d h<|bR S [c] 1 rfl gq;generalize k:S.add _=m at *;have w:=h.add<|.cells (bG.map str).toArray 9;have y:=c9 h<|.cells (bG.map str).toArray 9;have⟨U,D,E,F⟩:=o0 a p d ⟨_,_,_,_,w⟩ i g.1 g.2 q;refine zs<|za (s.add<|fp ⟨J,M,c,.slice r K A,z⟩) ?_;rw[G];refine zr<|zg 3 S<|zp (yl s.nx 2 (str c) o.2)<|zk 1<|zo (S.add<|.cells ([c].map str).toArray 9) ?_;rw[k];exact zc 0 v<|zc 0 D<|am<|za U<|zs<|za U<|aD ⟨.inr rfl,kq,E,(u.trans y).trans F⟩
theorem vI(a:∀f,f∈fI->pr f=none)(l:pr 320=none)(c:pr 127=bP 127)(X:1<=cj σ bG [nm])(n:σ.again.length<=50000):dz pr b t aY ⟨244,[nm],[]⟩ σ (σ.dx<|cj σ bG [nm]) false:=by refine dw (a 244 dq) func244 rfl λs S x J N o p K y w I G O H m P Q=>?_;subst I;have⟨x',A,z,T,V,W,_⟩:=H;cases A;obtain⟨B,L,M,rfl,F⟩:=z<|.inr<|.inr rfl;cases M;have d:=qX σ bG [nm];have⟨Y,Z,R,xs,i⟩:=m;have e:=i.add<|.cells ([nm].map str).toArray 9;have q:=c9 i<|.cells ([nm].map str).toArray 9;have r:=Bl (a 243 dq) (a 131 dq) (a 235 dq) (a 222 dq) (a 231 dq) (a 232 dq) c e<|bR S [nm] 1 rfl gq;generalize g:S.add _=k at *;have u:=e.add<|.cells (bG.map str).toArray 9;have v:=c9 e<|.cells (bG.map str).toArray 9;generalize k.add _=h at *;have⟨U,C,D,E⟩:=o0 a l c ⟨_,_,_,_,u⟩ oq d.1 d.2 n;generalize cj σ bG [nm]=j at *;refine zs<|za (s.add<|fp ⟨J,N,o,.slice p K y,w⟩) ?_;rw[G];refine aB<|zr<|zg 1 S<|zp (yl B 0 (str nm) F.2)<|zk 1<|zo (S.add<|.cells ([nm].map str).toArray 9) ?_;rw[g];exact zc 0 r<|zf<|za h<|zr<|zk 1<|zp (yb (num j) (num<|-1)<|cM<|by rw[bne_iff_ne];omega)<|zf<|zH<|zx<|zk 2<|zo h<|zc 0 C<|am<|za U<|zs<|za U<|aD ⟨.inr rfl,kq,D,(q.trans v).trans E⟩
theorem PX(a5:pr 223=none)(a4:pr 217=none)(a6:pr 232=none)(h:BT s b nv rv av xs σ)(X:dI s at_ aY)(hq:KU b nm at_)(hN:σ.nodes.length<400000000) :
  ∃Q,Ef pr 223 #[aC b 0,str nm,at_] s (.tuple #[]) Q/\(∃N O R,BT Q b N O av R<|σ.open_ nm aY)/\dJ b s Q:=by
 have⟨S,G,hP,c,p2⟩:=D2 a4 a6 h (kd:=1) (pa:=0) (nm:=nm) (tx:=[]) X hq hN;have⟨ad,cp,I⟩:=X.len;subst I;generalize aY.length=nA at *;have⟨A,p,E⟩:=c.r.len;have L:(σ.put ⟨1,0,nm,[],aY⟩).row=σ.row:=rfl;have l:=c.b;rw[L] at E;refine aX a5 func223 rfl<|zr<|zc 4 hP<|am<|za S<|zr<|zg 3 S<|zp (yl b 1 rv l.2) ?_;subst E;refine zk 1 ?_;by_cases u:σ.row.length<40
 .have a7:(σ.nodes++[(⟨1,(σ.cur:Int),nm,[],aY⟩:Nd)]).length=σ.nodes.length+1:=iq
  have a8:=c.n.old;have⟨Z,Y,nf,D,O2⟩:=a8;rw[c.m.1,show(σ.put ⟨1,0,nm,[],aY⟩).nodes.length=σ.nodes.length+1 from a7] at D;have e4:=c.r.fk ((aE (K:=λ_=>False) S).add<|.cells #[num (σ.nodes.length:Int)] 3) λ_ _=>id;have e6:=aI S<|.cells #[num (σ.nodes.length:Int)] 3;have⟨w,U,c1,c2,c3,T,c5,c6⟩:=Ni e4 σ.nodes.length gq;have o:cL (λy=>blk (.slice A σ.row.length p) y) S U:=((aE S).add _).trans c5 λy _ z=>z;have h3:∀{y:Nat} {B:Aq} {t:TypeId} {C:Nat × Nat},Has S y (.cells B t C)->t≠3->¬blk (.slice A σ.row.length p) y:=λf M z=>by have⟨_,_,z⟩:=c.r.blk z;exact f.ne z M rfl
  have H:=c.b.fr o<|h3 c.b dq;have V:=c.n.fk o λy f=>by have⟨_,_,z⟩:=c.n.blk f;exact h3 z dq
  have W:=c.a.fk o λy f z=>c.ra y z f;have d6:=c.m.fk o λy B C f=>h3 f dq;have v:cL (λy=>y=b) U (U.set b<|some<|lU G w av σ.w):=aL (K:=λy=>y=b) (aE U) (λ_=>rfl) _;have g:∀{y:Nat} {B:Aq} {t:TypeId} {C:Nat × Nat},Has U y (.cells B t C)->t≠183->y≠b:=λf M=>f.ne H M;have g1:=H.put<|lU G w av σ.w;have g3:=V.fk v λy f=>by have⟨_,_,z⟩:=V.blk f;exact g z dq
  have g4:=T.fk v λy f=>by have⟨_,_,z⟩:=T.blk f;exact g z dq
  have g5:=W.fk v λy f=>by have⟨_,_,z⟩:=W.blk f;exact g z dq
  have g6:=d6.fk v λy B C f=>g f dq;have gf:cL (KB b S) S (U.set b<|some<|lU G w av σ.w):=aL (o.mono λy _ q=>(gT c.b.2).2<|.inr<|.inr<|.inl q) (λ_=>.inl rfl) _;have F:∀y,blk w y->S.nx<=y:=λy z=>by have:=c6 y z;simp at this;omega
  subst D;refine zp (yb (num σ.row.length) (num 40)<|bE (b:=true)<|tD oq)<|am<|za S<|zH<|aP kq kq kq<|zq<|zq<|zq<|zq<|zt S<|zu (yl b 1 (.slice A σ.row.length p) l.2)<|zq<|zq<|zq<|zt S<|zu (yl b 0 (.slice (sq Z) (σ.nodes.length+1) Y) l.2)<|zq<|zu (gO (i:=((σ.nodes.length+1:Nat):Int)) (j:=1) (r:=(σ.nodes.length:Int)) rfl kq kq oq oq)<|zq<|zt (S.add<|.cells #[num (σ.nodes.length:Int)] 3)<|zu (iG (sl:=.slice A σ.row.length p) (news:=[num (σ.nodes.length:Int)]) (d:=S.nx) (m:=1) (k:=1) (sz:=1) (z:=num 0) (bytes:=8) rfl kq kq underlying25 kq rfl dq dq kq e6.2 (jc c.r.lt) dq iq iq rfl c1)<|zq<|zq<|zt U (zu (iH (b:=b) (off:=1) (w:=w) rfl kq kq c2 c3 kq H.2 iq) (bq ⟨kN<|jT (gW 25 l.2 (off:=1) rfl) (gW 38 l.2 (off:=0) rfl) (by cases A<;>rfl),_,_,_,_,_,_,rfl,rfl,⟨.inl rfl,kq,⟨_,w,_,c.sp,g1,g3,g6,?_,g5,λy f hz=>?_,λk J=>?_,λk J=>?_,?_,?_⟩,p2.trans<|eY c.b g1 gf (.inl rfl) (.inr F)<|.inl λ_ z=>z⟩⟩))
  .show dB _ _ (if σ.row.length<40 then σ.row++[σ.nodes.length] else σ.row);rw[ip u];exact g4
  .have:=F y f
   have:=c.a.lt y hz;omega
  .have x:k∈(if σ.row.length<40 then σ.row++[σ.nodes.length] else σ.row):=J;rw[ip u,List.mem_append] at x;show k<(σ.put ⟨1,0,nm,[],aY⟩).nodes.length;rcases x with x|x
   .exact c.lt k x
   .simp at x;simp[TS.put];omega
  .exact c.la k J
  .show(if σ.row.length<40 then σ.row++[σ.nodes.length] else σ.row)≠[];rw[ip u];simp
  .have:=c.sz;refine⟨this.1,?_,this.2.2⟩;show(if σ.row.length<40 then σ.row++[σ.nodes.length] else σ.row).length<=40;grind
 .refine zp (yb (num σ.row.length) (num 40)<|bE (b:=false)<|fD oq)<|am<|za S<|zF ?_;have e:σ.open_ nm aY=σ.put ⟨1,0,nm,[],aY⟩:=by unfold TS.open_;rw[iw u];rfl
  rw[e];exact⟨.inl rfl,kq,⟨_,_,_,c⟩,p2⟩
def TS.mA(σ:TS)(k:Nat):Nd:=σ.nodes.getD k ⟨0,0,[],[],[]⟩
def TS.fJ(σ:TS)(k:Nat):TS:=σ.open_ (σ.mA k).name (σ.mA k).bC
def TS.dZ(σ:TS):TS:={ (σ.again.take<|40-σ.row.length).foldl TS.fJ σ with again:=[] }
theorem LU(l:List Nat):∀b:TS,(l.foldl TS.fJ b).again=b.again/\(l.foldl TS.fJ b).w=b.w/\(l.foldl TS.fJ b).nodes.length=b.nodes.length+l.length/\∀k,k<b.nodes.length->(l.foldl TS.fJ b).nodes[k]?=b.nodes[k]?:=by
 induction l with
 | nil=>intro b;exact⟨O,O,O,λ_ _=>O⟩
 | cons a l U =>
  intro b;have⟨h1,h2,h3,c⟩:=U<|b.fJ a;have e:(b.fJ a).nodes=b.nodes++[⟨1,b.cur,(b.mA a).name,[],(b.mA a).bC⟩]:=O;refine⟨h1,h2,?_,λk d=>?_⟩
  .grind
  .grind
def NA(b m d cp j:Nat)(x:Nq):TL:=[aC b 0,x 1,num m,x 3,x 4,x 5]++gG x 6 17++[.slice (some ⟨d,0,none⟩) m cp,num m,num j]++gG x 26 20
theorem G3(a1:pr 239=none)(a7:pr 223=none)(a6:pr 217=none)(a8:pr 232=none)(h:BX s b σ)(ab:∀k∈σ.again,jR (σ.mA k).name=false)(hN:σ.nodes.length+50<400000000):∃s',Ef pr 239 #[aC b 0] s (.tuple #[]) s'/\BX s' b σ.dZ/\dJ b s s':=by
 by_cases U:σ.again=[]
 .have:σ.dZ=σ:=by unfold TS.dZ;rw[U];simp;rw[<-U]
  rw[this];have⟨S,O,K,T,h⟩:=h;have u:=h.sz;have⟨q,l,k⟩:=h.r.len;have g:=h.b;rw[k] at g;have D:=h.a;rw[U] at D;have⟨G,P⟩:=h.upd (Cs:=O) (yx:=aO) (w':=σ.w) h.r (.inl ⟨Y,Y⟩) (λx _ z=>cw z) h.lt iq h.ne ⟨u.2.1,by simp⟩ (.inl λ_ z=>z)<|.inr λx z=>(cw z).elim;have y:(⟨σ.nodes,σ.row,[],σ.w⟩:TS)=σ:=by rw[<-U]
  rw[y] at G;obtain⟨f,a,E,J⟩:∃f a,K=.slice f 0 a/\((f=none/\a=0)\/∃d m o,f=some ⟨d,0,none⟩/\Has s d (.cells m 3 o)):=by
   rcases D with ⟨e,_⟩|⟨d,cp,m,o,e,_,q1,q2,_⟩
   .grind
   .exact⟨_,cp,e,.inr ⟨d,m,o,Y,q1,q2⟩⟩
  rw[E] at g;have M:=jS underlying25 Y g.2 (off:=1) Y;have N:=jS underlying25 Y g.2 (off:=2) Y;subst k;subst E;generalize Q:σ.row.length=R at *;have t:(if (0:Int)<40-(R:Int) then (0:Int) else 40-(R:Int))=0:=gq
  have p:∀(B:Option Addr) (C:Nat) (x:Nq),Ew pr (match f239.body with|some (.seq _<|.seq (.seq _ c) _)=>c|_=>.skip) ([aC b 0,x 1,num 0,x 3,x 4,x 5]++gG x 6 17++[.slice B 0 C,num 0,num 0]++gG x 26 20) s (xV prog kg pr (match f239.body with|some (.seq _<|.seq _ c)=>c|_=>.skip)<|λe H s1=>(e=.normal\/e=.ret)/\di prog f239 H s1=some (.tuple #[])/\BX s1 b σ/\dJ b s s1):=by intro B C x;exact aF<|ic<|zs<|aB<|zG<|aR<|za s<|zx<|zg 3 s<|zp (ys b 2 aO g.2 iq)<|am ⟨.inl Y,kq,⟨_,_,_,_,G⟩,P⟩
  refine aX a1 func239 Y<|aB<|aP kq kq kq<|zq<|zq<|zq<|zt s<|zu (yl b 1 (.slice q R l) g.2)<|zq<|zu (gO (i:=40) (j:=(R:Int)) (r:=40-(R:Int)) Y kq kq Y oq)<|zq<|zq<|zq<|zt s (zu (yl b 2 (.slice f 0 a) g.2) (zq (zt s (ET.op (v:=num 0) (s1:=s) kq ((show _=some (num<|if (0:Int)<40-(R:Int) then 0 else 40-(R:Int),s) by kernel_rfl).trans<|by rw[t]) (zq (bq ⟨kN<|jT M N (by cases q<;>rfl) (by cases f<;>rfl),_,_,_,_,_,_,Y,Y,za s<|aB<|zr<|zg 3 s<|zp (yl b 2 (.slice f 0 a) g.2) ?_⟩))))));rcases J with ⟨rfl,rfl⟩|⟨d,m,o,rfl,hd⟩
  .exact zf<|za s<|aV (λx=>[aC b 0,x 1,num 0,x 3,x 4,x 5]++gG x 6 17++[.slice none 0 0,num 0,num 0]++gG x 26 20) kq<|λx=>p none 0 x
  .refine zg 1 s ?_;by_cases L:0<a
   .exact zp (me (b:=d) (off:=0) (n:=0) (cp:=a) (i:=0) (j:=0) (sz:=1) Y underlying25 kq hd.2 kq kq L)<|zf<|za s<|aV (λx=>[aC b 0,x 1,num 0,x 3,x 4,x 5]++gG x 6 17++[.slice (sq d) 0 (a-0),num 0,num 0]++gG x 26 20) kq<|λx=>p _ _ x
   .obtain rfl:a=0:=oq
    exact zp (Un (b:=d) (off:=0) (sz:=1) Y underlying25 kq hd.2 kq kq)<|zf<|za s<|aV (λx=>[aC b 0,x 1,num 0,x 3,x 4,x 5]++gG x 6 17++[.slice (some ⟨d,0,some 0⟩) 0 1,num 0,num 0]++gG x 26 20) kq<|λx=>p _ _ x
 have⟨B,C,V,D,h⟩:=h;have vC:=h.sz;have⟨T,L,I⟩:=h.r.len;have p:=h.b;rw[I] at p;obtain⟨d,cp,o,hcp⟩:∃d cp,V=.slice (sq d) σ.again.length cp/\σ.again.length<=cp:=by
  rcases h.a with ⟨e,e2⟩|⟨d,cp,F,M,e,q0,_⟩
  .exact absurd e2 U
  .exact⟨d,cp,e,q0⟩
 obtain⟨ah,ai,aa⟩:∃F M,Has s d (.cells F 3 M):=by have⟨F,M,q⟩:=h.a.blk (x:=d) (by rw[o];exact eg _ _ _);exact⟨F,M,q⟩
 have ao:0<σ.again.length:=HU.2 U;obtain⟨m,hm⟩:∃m,m=min σ.again.length (40-σ.row.length):=⟨_,rfl⟩;have c:σ.again.take (40-σ.row.length)=σ.again.take m:=gq
 unfold TS.dZ;rw[c];rw[o] at p;have l1:=gW 25 p.2 (off:=1) rfl;have l2:=gW 25 p.2 (off:=2) rfl;subst I;have Y:(if (σ.again.length:Int)<40-(σ.row.length:Int) then (σ.again.length:Int) else 40-(σ.row.length:Int))=(m:Int):=gq
 have ag:m<=σ.again.length:=oq
 have af:m<=40:=oq
 generalize hR:σ.row.length=R at *;generalize hA:σ.again.length=A at *;refine aX a1 func239 rfl<|aB<|aP kq kq kq<|zq<|zq<|zq<|zt s<|zu (yl b 1 (.slice T R L) p.2)<|zq<|zu (gO (i:=40) (j:=(R:Int)) (r:=40-(R:Int)) rfl kq kq rfl oq)<|zq<|zq<|zq<|zt s (zu (yl b 2 (.slice (sq d) A cp) p.2) (zq (zt s (ET.op (v:=num (m:Int)) (s1:=s) kq ((show _=some (num<|if (A:Int)<40-(R:Int) then (A:Int) else 40-(R:Int),s) by kernel_rfl).trans<|by rw[Y]) (zq (bq ⟨kN<|jT l1 l2 (by cases T<;>rfl),_,_,_,_,_,_,rfl,rfl,za s<|aB<|zr<|zg 3 s<|zp (yl b 2 (.slice (sq d) A cp) p.2)<|zg 1 s<|zp (me (b:=d) (off:=0) (n:=A) (cp:=cp) (i:=0) (j:=m) (sz:=1) rfl underlying25 kq aa.2 kq ((show _=bS A cp none (some<|num m) by kernel_rfl).trans<|(nV oq oq).trans gq) oq) ?_⟩))))));rw[show m-0=m by omega,show cp-0=cp by omega];refine zf<|za s<|aV (NA b m d cp 0) kq ?_;intro x0;refine aF<|bn (bw (Q:=λe E S=>e=.exit 0/\(∃B C D,BT S b B C V D<|(σ.again.take m).foldl TS.fJ σ)/\dJ b s S/\∃x,E=NA b m d cp m x) (λu E S=>∃j B C D,j+u=m/\BT S b B C V D ((σ.again.take j).foldl TS.fJ σ)/\dJ b s S/\∃x,E=NA b m d cp j x) ?_ m _ _ ⟨0,B,_,D,by omega,h,dU s,x0,rfl⟩) ?_
 .rintro u E S ⟨j,B,C,D,al,h1,h2,x,rfl⟩;by_cases hu:0<u
  .have a3:j<σ.again.length:=oq
   have hx:=gE a3;have c:(σ.again.take<|j+1).foldl TS.fJ σ=((σ.again.take j).foldl TS.fJ σ).fJ σ.again[j]:=by rw[List.take_add_one,hx,List.foldl_append];rfl
   have N:σ.again[j]∈σ.again:=zB a3;generalize σ.again[j]=k at hx c N;have VP:=h.la k N;have⟨k1,k2,k3,k4⟩:=LU (σ.again.take j) σ;have X:(σ.again.take j).length=j:=gq
   rw[X] at k3;generalize (σ.again.take j).foldl TS.fJ σ=l at *;have ae:l.again[j]?=some k:=gq
   have⟨rd,rc,F,rf,e1,e2,e3,e4,e5⟩:=h1.a.at ae;rw[o] at e1;cases e1;obtain⟨g,J⟩:∃g,l.nodes[k]?=some g:=⟨_,gE<|show k<l.nodes.length by omega⟩;have⟨nd,nc,nf,y,O4,Z,hy,f,Tn⟩:=h1.node J;have XC:l.mA k=g:=by unfold TS.mA;rw[Dj,J];rfl
   have⟨c1,c2⟩:=ko hy;have H:y.cells.all Value.oneCell'=true:=by simp only[bH.cells,List.all_cons,List.all_nil,f.2.2.2.2.one];rfl
   have f1:=h1.add<|.cells y.cells.toArray 44;have f2:=c9 h1<|.cells y.cells.toArray 44;have f3:=aI S<|.cells y.cells.toArray 44;have JC:(S.add dG).get S.nx=some dG:=by rw[AS.aZ,ip rfl]
   have a9:(S.add dG).set S.nx (some<|.cells y.cells.toArray 44)=S.add (.cells y.cells.toArray 44):=AS.set_set (⟨S.hp,S.nx+1⟩:AS) S.nx (some dG)<|some<|.cells y.cells.toArray 44;have W:dI (S.add<|.cells y.cells.toArray 44) y.bC g.bC:=f.2.2.2.2.fk ((aE (K:=λ_=>False) S).add _) λ_ _=>id;have G:jR g.name=false:=by have:=ab k N;unfold TS.mA at this;grind
   have⟨S2,g1,g2,g3⟩:=PX a7 a6 a8 f1 (nm:=g.name) W (λz hz=>by
    rcases f1.sp.1 k y z hy hz with q|q
    .exact⟨q.1,G⟩
    .rw[f.2.2.1,G] at q;exact absurd q.2 dq) oq;rw[<-f.2.2.1] at g1;have O:=h1.b;have lz:l.fJ k=l.open_ g.name g.bC:=by unfold TS.fJ;rw[XC]
   rw[lz] at c;have aq:l.nodes.length<=400000000:=oq
   subst O4;generalize aj:l.nodes.length=NL at *;generalize ak:S.add (.cells y.cells.toArray 44)=S1 at *;refine zr<|zp (yb (num j) (num m)<|bE (b:=true)<|tD oq)<|am<|za S<|aB<|zT<|aB<|aF<|zr<|zp (yi d 0 m cp j none .i64 (j:Nat) 1 oq oq oq)<|zp (yl d j (num k) e3.2 (i:=e4))<|zf<|za S<|zr<|zg 3 S<|zp (yl b 0 (.slice (sq nd) NL nc) O.2)<|zg 1 S<|zp (yi nd 0 NL nc (k*5) none .i64 (k:Nat) 5 oq oq oq)<|zp (jq (b:=nd) (off:=k*5) (n:=5) (r:=y.cells.toArray) rfl underlying44 rfl kq kq Z.2 c1 c2)<|zg 1 (S.add dG)<|zp (eX (b:=S.nx) (off:=0) (w:=.agg y.cells.toArray) (ws:=y.cells) rfl kq kq rfl H kq JC gq)<|am<|za ((S.add dG).set S.nx<|some<|.cells y.cells.toArray 44) ?_;rw[a9];refine zx<|zg 2 S1<|zp (yl S.nx 2 (str y.name) f3.2)<|zg 1 S1<|zp (yl S.nx 4 y.bC f3.2)<|zc 0 g1<|am<|za S2<|zx<|zp (yp j 1 ((j+1:Nat):Int) oq oq)<|zf ?_;have⟨VU,YY,V8,g2⟩:=g2;rw[<-c] at g2;exact⟨u-1,by omega,j+1,VU,YY,V8,by omega,g2,(h2.trans f2).trans g3,bu kq⟩
  .have hj:j=m:=oq
   subst hj;exact zr<|zp (yb (num j) (num j)<|bE (b:=false)<|fD oq)<|am<|za S<|aB<|zG<|aR ⟨rfl,⟨_,_,_,h1⟩,h2,bu kq⟩
 .rintro e E S ⟨rfl,⟨B,C,D,h1⟩,h2,x,rfl⟩;have⟨k1,k2,k3,k4⟩:=LU (σ.again.take m) σ;have⟨u1,u2⟩:=h1.upd (Cs:=C) (yx:=aO) (w':=((σ.again.take m).foldl TS.fJ σ).w) h1.r (.inl ⟨rfl,rfl⟩) (λx _ z=>cw z) h1.lt iq h1.ne ⟨h1.sz.2.1,by simp⟩ (.inl λ_ z=>z)<|.inr λx z=>(cw z).elim;exact zx<|zg 3 S<|zp (ys b 2 aO h1.b.2 iq)<|am ⟨.inl rfl,kq,⟨_,_,_,_,u1⟩,h2.trans u2⟩
end
section
variable {i k:Nat}{nm:Bq}{av v:Value}{aY:kH}
variable {l:List bH}{B cp off:Nat}{x:bH}{u:Nd}{g:Bool}{n1 tr v1 vl:Bq}
theorem JK(h:l[i]?=some x)(t:Bq):(bN l).setIfInBounds (i*5+3) (str t)=bN (l.set i { x with text:=t }):=by
 congr 1;induction l generalizing i with
 | nil=>simp at h
 | cons y l a =>
  match i with
  | 0 =>simp at h;subst h;rfl
  | i+1 =>
   have h:l[i]?=some x:=by simpa using h
   have U:y.cells.length=5:=O;grind
theorem Ka{cs:Aq}(h:off+1<=cs.size)(w:Value):putAt cs off [w]=cs.setIfInBounds off w:=by apply wu.1;rw[Array.toList_setIfInBounds,List.set_eq_take_append_cons_drop,ip gq];simp[putAt]
def TS.join(σ:TS)(tx:Bq):TS:={ σ with nodes:=σ.nodes.set (σ.nodes.length-1) { σ.mA (σ.nodes.length-1) with text:=(σ.mA<|σ.nodes.length-1).text++tx } }
def TS.words(σ:TS)(tx:Bq):TS:=if (σ.mA<|σ.nodes.length-1).kind=2/\(σ.mA<|σ.nodes.length-1).parent=(σ.cur:Int) then σ.join tx else σ.put ⟨2,0,[],tx,[]⟩
variable {s s':AS}{b:Nat}{σ:TS}{pr:Prim}{tx:Bq}
theorem TU(a3:pr 315=none)(a1:pr 232=none)(h:BX s b σ)(Y:σ.nodes[σ.nodes.length-1]?=some u)(h2:u.kind=2)(a7:u.parent=(σ.cur:Int))(hl:u.text.length+tx.length<=1000000000):∃Z,Ef pr 315 #[aC b 0,str tx] s (.tuple #[]) Z/\BX Z b (σ.join tx)/\dJ b s Z:=by
 have a6:σ.mA (σ.nodes.length-1)=u:=by unfold TS.mA;rw[Dj,Y];rfl
 unfold TS.join;rw[a6];have⟨nv,rv,av,e,h⟩:=h;have X:=h.sz;have hc:=wM a1 h;have⟨c,B,o,x,n,d,A,V,F⟩:=h.node Y;have⟨C,M,O,rf,W,O6,H,D,Rm⟩:=h.r.at<|TS.nX h.ne;have p:=h.b;rw[n,W] at p;have E:(bN e)[(σ.nodes.length-1)*5+0]?=some (num u.kind):=by rw[eu A 0 dq,<-V.1];rfl
 have a4:(bN e)[(σ.nodes.length-1)*5+1]?=some (num u.parent):=by rw[eu A 1 dq,<-V.2.1];rfl
 have a5:(bN e)[(σ.nodes.length-1)*5+3]?=some (str u.text):=by rw[eu A 3 dq,<-V.2.2.2.1];rfl
 have l1:=gW 38 p.2 (off:=0) rfl;have l2:=gW 25 p.2 (off:=1) rfl;have l3:=gW 3 d.2 E;have l4:=gW 3 d.2 a4;have l5:=gW 3 H.2 D;have S:(σ.row.length:Int)-1=((σ.row.length-1:Nat):Int):=oq
 rw[S] at hc;have a0:=JK A<|u.text++tx;have G:(σ.nodes.length-1)*5+3+1<=(bN e).size:=(oF.1 a5).1;have w:cL (λy=>y=c) s (s.set c<|some<|.cells (bN<|e.set (σ.nodes.length-1) { x with text:=u.text++tx }) 44 o):=aL (K:=λy=>y=c) (aE s) (λ_=>rfl) _;have g:∀{y:Nat} {O:Aq} {t:TypeId} {fz:Nat × Nat},Has s y (.cells O t fz)->t≠44->y≠c:=λU ht=>U.ne d ht;have g1:=h.b.fr w<|g h.b dq;have g2:=d.put<|.cells (bN<|e.set (σ.nodes.length-1) { x with text:=u.text++tx }) 44 o;have g3:=h.m.fk w λy O fz U=>g U dq;have g4:=h.r.fk w λy U=>by have⟨_,_,z⟩:=h.r.blk U;exact g z dq
 have g5:=h.a.fk w λy U=>by have⟨_,_,z⟩:=h.a.blk U;exact g z dq
 have g6:fK (s.set c<|some<|.cells (bN<|e.set (σ.nodes.length-1) { x with text:=u.text++tx }) 44 o) (e.set (σ.nodes.length-1) { x with text:=u.text++tx }) (σ.nodes.set (σ.nodes.length-1) { u with text:=u.text++tx }):=by
  refine⟨by rw[List.length_set,List.length_set];exact g3.1,λi y v U I=>?_⟩;rw[List.getElem?_set] at U I;by_cases hi:σ.nodes.length-1=i
  .subst hi;rw[ip rfl,ip<|show σ.nodes.length-1<e.length by rw[g3.1];exact F] at U;rw[ip rfl,ip F] at I;cases U;cases I;have⟨q1,q2,q3,q4,q5⟩:=g3.2 _ _ _ A Y;exact⟨q1,q2,q3,rfl,q5⟩
  .rw[iw hi] at U I;exact g3.2 i y v U I
 have L:BT (s.set c<|some<|.cells (bN<|e.set (σ.nodes.length-1) { x with text:=u.text++tx }) 44 o) b nv rv av (e.set (σ.nodes.length-1) { x with text:=u.text++tx }) { σ with nodes:=σ.nodes.set (σ.nodes.length-1) { u with text:=u.text++tx } }:=by
  refine⟨h.sp.set A rfl rfl,g1,⟨c,(h.n.cap n).choose,o,by rw[List.length_set,<-(h.n.cap n).choose_spec,h.m.1];exact n,g2⟩,g6,g4,g5,h.ra,λk T=>?_,λk T=>?_,h.ne,?_,X.2⟩
  .show k<(σ.nodes.set _ _).length;rw[List.length_set];exact h.lt k T
  .show k<(σ.nodes.set _ _).length;rw[List.length_set];exact h.la k T
  .grind
 have n2:=eY h.b g1 (w.mono λy _ z=>(gT h.b.2).2<|.inr<|.inl<|by rw[z,n];exact eg _ _ _) (.inl rfl) (.inl λ_ z=>z)<|.inl λ_ z=>z;rw[<-a0,<-Ka G] at L n2;generalize e.set (σ.nodes.length-1) { x with text:=u.text++tx }=V8 at L;clear a0 g6 g3 g2 w g1 g4 g5;generalize σ.cur=Q at *;generalize hR1:σ.row.length-1=J at *;generalize hR:σ.row.length=R at *;generalize hN1:σ.nodes.length-1=f at *;generalize hNN:σ.nodes.length=N at *;exact aX a3 func315 rfl<|aB<|aP kq kq kq<|zq<|zq<|zq<|zt s<|zu (yl b 0 (.slice (sq c) N B) p.2)<|zq<|zq<|zq<|zt s<|zu (yl b 0 (.slice (sq c) N B) p.2)<|zq<|zu (gO (i:=(N:Int)) (j:=1) (r:=(f:Int)) rfl kq kq oq oq)<|zu (yi c 0 N B (f*5) none .i64 (f:Nat) 5 oq oq oq)<|zq<|bq ⟨kN<|jT l1 l1,_,_,_,_,_,_,rfl,rfl,za s<|aB<|aB<|aP kq kq kq (zq<|zq<|zq (zt s<|zu (yl c (f*5+0) (num u.kind) d.2 (i:=E))<|zu (yb (num u.kind) (num 2)<|cW (b:=true)<|beq_iff_eq.2 h2) (zq<|zq<|zq<|zq (zt s<|zu (yl c (f*5+1) (num u.parent) d.2 (i:=a4)) (zq<|zq<|zq (zt s<|zu (yl b 1 (.slice (sq C) R M) p.2)<|zq<|zt s<|yt hc<|zu (yi C 0 R M J none .i64 (J:Nat) 1 oq oq oq)<|zt s<|zu (yl C J (num Q) H.2 (i:=D))<|zu (yb (num u.parent) (num Q)<|cW (b:=true)<|beq_iff_eq.2 a7)<|zq<|bq ⟨kN<|Yd l3 l4 l4 l2 l2 l5,_,_,_,_,_,_,rfl,rfl,za s<|zH<|zr<|zg 3 s<|zp (yl c (f*5+3) (str u.text) d.2 (i:=a5))<|zk 1<|zp (Ie (l:=u.text) (m:=tx) rfl kq kq hl)<|zg 2 s<|zp (ys c (f*5+3) (str<|u.text++tx) d.2 G)<|am<|za (s.set c<|some<|.cells (putAt (bN e) (f*5+3) [str (u.text++tx)]) 44 o)<|aD ⟨.inr rfl,kq,⟨_,_,_,_,L⟩,n2⟩⟩))))))⟩
theorem xZ(d:pr 315=none)(f:pr 217=none)(U:pr 232=none)(h:BX s b σ)(i:σ.nodes.length<400000000)(j:(σ.mA<|σ.nodes.length-1).text.length+tx.length<=1000000000)(g:σ.nodes≠[]):∃c,Ef pr 315 #[aC b 0,str tx] s (.tuple #[]) c/\BX c b (σ.words tx)/\dJ b s c:=by
 have k:σ.nodes.length-1<σ.nodes.length:=by have:=HU.2 g;omega
 have e:σ.nodes[σ.nodes.length-1]?=some (σ.mA<|σ.nodes.length-1):=by unfold TS.mA;grind
 unfold TS.words;by_cases a:(σ.mA<|σ.nodes.length-1).kind=2/\(σ.mA<|σ.nodes.length-1).parent=σ.cur
 .rw[ip a];exact TU d U h e a.1 a.2 j
 .rw[iw a];exact QE d f U h e (λh1 h2=>a ⟨h1,h2⟩) i
variable {t:jm}
abbrev lN:Bq:=[104,101,97,100]
abbrev Cr:Bq:=[98,111,100,121]
def TS.jP(σ:TS)(aY:kH):TS:={ σ.open_ lN aY with w:=1 }
def TS.jd(σ:TS):TS:={ (σ.dx<|dg σ [lN]).open_ Cr [] with w:=2 }
def TS.cT(σ:TS):TS:=if σ.w=2 then σ else if σ.w=0 then (σ.jP []).jd else σ.jd
def r9(σ:TS)(j:Int):(σ.dx j).nodes=σ.nodes:=by unfold TS.dx TS.gH;split<;>rfl
def G7(eo:∀f,f∈fI->pr f=none)(aa1:pr 320=none)(kK:pr 127=bP 127)(h:BX s b σ)(h0:dg σ [lN]≠0)(W5:σ.again.length<=50000)(hN:σ.nodes.length<400000000)(x:Nq) :
  Ew pr (match f120.body with|some (.seq _<|.seq _ c)=>c|_=>.skip) ([aC b 0]++gG x 1 23) s (λe a' s1=>(e=.normal\/e=.ret)/\di prog f120 a' s1=some (.tuple #[])/\BX s1 b σ.jd/\dJ b s s1):=by have⟨nv,rv,av,xs,h⟩:=h;have Cn:=pB σ [lN];have e1:=h.add<|.cells ([lN].map str).toArray 9;have e2:=c9 h<|.cells ([lN].map str).toArray 9;have e3:=xg (eo 222 dq) (eo 231 dq) (eo 232 dq) kK e1<|bR s [lN] 1 O dq;have⟨U,f1,f2,f3⟩:=o0 eo aa1 kK ⟨_,_,_,_,e1⟩ h0 Cn.1 Cn.2 W5;have⟨nu,ru,au,xu,fu⟩:=f2;obtain⟨V,g1,⟨VU,YY,av2,V8,g2⟩,g3⟩:=BB (eo 223 dq) (eo 217 dq) (eo 232 dq) fu (nm:=Cr) (.inl ⟨O,O⟩) (KU.nil _ _) (by rw[r9];exact hN);have⟨k1,k2⟩:=g2.Nv 2;unfold TS.jd;generalize hS:s.add _=S at *;refine zr<|zk 3<|zo (s.add<|.cells ([lN].map str).toArray 9) ?_;rw[hS];exact zc 0 e3<|zc 0 f1<|am<|za U<|zr<|zc 1 g1<|am<|za V<|zx<|zg 3 V<|zp (ys b 3 (num 2) g2.b.2 iq)<|am ⟨.inl O,kq,⟨_,_,_,_,k1⟩,((e2.trans f3).trans g3).trans k2⟩
theorem AH(U:∀f,f∈fI->pr f=none)(j:pr 320=none)(i:pr 127=bP 127)(h:BX s b σ)(a:σ.w=0\/σ.w=1\/σ.w=2)(l:σ.w=1->dg σ [lN]≠0)(h1:σ.w=0->dg (σ.jP []) [lN]≠0)(k:σ.again.length<=50000)(t:σ.nodes.length+2<400000000) :
  ∃g,Ef pr 120 #[aC b 0] s (.tuple #[]) g/\BX g b σ.cT/\dJ b s g:=by
 have d:=h;have⟨u,v,r,B,h⟩:=h;have c:=h.b;unfold TS.cT;rcases a with a|a|a
 .rw[iw gq,ip a];have⟨S,m,n,o⟩:=FF (U 220 dq) (U 223 dq) (U 217 dq) (U 232 dq) d (.inl ⟨O,O⟩) (λy z=>(cw z).elim) oq;have q:=G7 U j i n (h1 a) k (by show(σ.nodes++[_]).length<400000000;rw[lA,List.length_singleton];omega);rw[a] at c;refine aX (U 120 dq) func120 O<|aB<|zr<|zg 3 s<|zp (yl b 3 (num 0) c.2)<|zf<|za s<|zF<|aB<|zr<|zg 3 s<|zp (yl b 3 (num 0) c.2)<|zf<|za s<|zH<|zx<|zc 1 m<|am<|za S<|aV (λx=>[aC b 0]++gG x 1 23) kq ?_;intro x;exact bn (q x) λe p A z=>⟨z.1,z.2.1,z.2.2.1,o.trans z.2.2.2⟩
 .rw[iw gq,iw gq];have q:=G7 U j i d (l a) k oq;rw[a] at c;refine aX (U 120 dq) func120 O ?_;iterate 2
   refine aB<|zr ?_
   refine zg 3 s ?_
   refine zp (yl b 3 (num 1) c.2) ?_
   refine zf ?_
   refine za s ?_
   refine zF ?_
  refine aV (λx=>[aC b 0]++gG x 1 23) kq ?_;intro x;exact q x
 .rw[ip a];exact⟨s,(by have⟨e,f,C,g,d⟩:=d;have w:=d.b;rw[a] at w;exact aH (U 120 dq) func120 O<|aB<|zr<|zg 3 s<|zp (yl _ 3 _ w.2)<|zf<|za s<|zH<|aD ⟨.inr O,kq,kq⟩),d,dU s⟩
def oH(d:∀f,f∈fI->pr f=none)(c:pr 320=none)(a:pr 127=bP 127)(A:σ.w=0\/σ.w=1\/σ.w=2)(q:σ.w=1->dg σ [lN]≠0)(h1:σ.w=0->dg (σ.jP []) [lN]≠0)(e:σ.again.length<=50000)(r:σ.nodes.length+2<400000000):dz pr b t aY ⟨229,[],[]⟩ σ σ.cT true:=by refine dw (d 229 dq) func229 O λs S x B D g i C k j z u E v h F y=>?_;subst z;have⟨J,m,G,H,I,l,_⟩:=v;cases m;obtain rfl:=l dq;have⟨U,n,o,p⟩:=AH d c a h A q h1 e r;refine zs<|za (s.add<|fp ⟨B,D,g,.slice i C k,j⟩) ?_;rw[u];exact zr<|zc 1 n<|am<|za U<|zs<|za U<|aD ⟨.inr O,kq,o,p⟩
def TS.mU(σ:TS):TS:=if σ.w=0 then σ.jP [] else σ
def tI(a:∀f,f∈fI->pr f=none)(d:pr 127=bP 127)(Y:σ.w=0\/σ.w=1\/σ.w=2)(h:jR t.name=false)(X:σ.nodes.length+2<400000000):dz pr b t aY ⟨227,[],[]⟩ σ (σ.mU.fS t.name aY) false:=by
 refine dw (a 227 dq) func227 rfl λs S x n p c i o k j M E q L g D e=>?_;subst M;have⟨Z,K,T,V,W,J,_⟩:=L;cases K;obtain rfl:=J dq;unfold TS.mU;by_cases l:σ.w=0
 .rw[ip l];have⟨C,O,P,B⟩:=FF (a 220 dq) (a 223 dq) (a 217 dq) (a 232 dq) g (.inl ⟨rfl,rfl⟩) (λy z=>(cw z).elim) oq;have G:=q.fr B.1<|g.no q dq dq dq;have H:=D.fb e g B;have⟨U,r,u,v⟩:=qn (a 228 dq) (a 138 dq) d (a 223 dq) (a 217 dq) (a 232 dq) P H (λy z=>⟨e y z,h⟩) (by show(σ.nodes++[_]).length<400000000;rw[lA,List.length_singleton];omega);have⟨N,Q,I,R,A⟩:=g;have m:=A.b;rw[l] at m;refine zs<|za (s.add<|fp ⟨n,p,c,.slice i o k,j⟩) ?_;rw[E];exact aB<|zr<|zg 3 S<|zp (yl b 3 (num 0) m.2)<|zf<|za S<|zH<|zx<|zc 1 O<|am<|za C<|zr<|zg 1 C<|zp (yA s.nx 0 5 ((fq ⟨n,p,c,.slice i o k,j⟩).toArray) G.2 iq)<|zc 0 r<|am<|za U<|zs<|za U<|aD ⟨.inr rfl,kq,u,B.trans v⟩
 .rw[iw l];have⟨U,r,u,v⟩:=qn (a 228 dq) (a 138 dq) d (a 223 dq) (a 217 dq) (a 232 dq) g D (λy z=>⟨e y z,h⟩) oq;have⟨N,Q,I,R,A⟩:=g;have m:=A.b;generalize σ.w=F at *;refine zs<|za (s.add<|fp ⟨n,p,c,.slice i o k,j⟩) ?_;rw[E];exact aB<|zr<|zg 3 S<|zp (yl b 3 (num F) m.2)<|zp (yb (num F) (num 0)<|cW<|bF.2 l)<|am<|za S<|zF<|zr<|zg 1 S<|zp (yA s.nx 0 5 ((fq ⟨n,p,c,.slice i o k,j⟩).toArray) q.2 iq)<|zc 0 r<|am<|za U<|zs<|za U<|aD ⟨.inr rfl,kq,u,v⟩
def rJ(a:∀f,f∈fI->pr f=none)(e:pr 127=bP 127){l:List (Bq)}(G:σ.nodes[σ.cur]?=some u)(D:aW u.name l=false):dz pr b t aY ⟨230,l,[]⟩ σ σ true:=by
 refine dw (a 230 dq) func230 rfl λs S x K N h o M r p F z O C i P E=>?_;subst F;have⟨x',y,T,w,U,V,_⟩:=C;cases y;obtain⟨B,v,rfl,j,A⟩:=w rfl;have m:=i;have⟨Z,rv,Q,xs,g⟩:=i;have Y:=g.sz;have H:=HU.2 g.ne;have g1:=wM (a 232 dq) g;have g2:=FP (a 231 dq) g (TS.nX g.ne) G;obtain⟨I,d,c,W,rfl,J⟩:=A;have g3:=re e (c:=c) J.2 I D;have e1:((σ.row.length:Nat)-1:Int)=(σ.row.length-1:Nat):=oq
 rw[e1] at g1;have L:=jS underlying62 rfl j.2 (off:=0) rfl;refine zs<|za (s.add<|fp ⟨K,N,h,.slice o M r,p⟩) ?_;rw[z];exact aB<|aB<|aP kq kq kq<|zq<|zq<|zt S<|yt g1<|yt g2<|zu (yl B 0 _ j.2)<|yt g3<|bq ⟨kN<|vD L L L,_,_,_,_,_,_,rfl,rfl,za S<|zF<|zs<|za S<|aD ⟨.inr rfl,kq,m,dU S⟩⟩
def ua(σ:TS):σ.jd.nodes.length=σ.nodes.length+1:=by show(((σ.dx<|dg σ [lN]).nodes)++[_]).length=_;rw[r9,lA,List.length_singleton]
theorem sI(σ:TS):σ.cT.nodes.length<=σ.nodes.length+2:=by
 unfold TS.cT;split
 .omega
 .split
  .rw[ua];show(σ.nodes++[_]).length+1<=_;grind
  .rw[ua];omega
def TS.fin(σ:TS)(tr tx:Bq):TS:=(if tr=[] then σ else σ.dZ).words tx
def TS.text(σ:TS)(tr tl:Bq->Bq)(tx:Bq):TS :=
 if aW (nameAt σ<|σ.row.length-1) qj=true then σ.words tx
 else if σ.w=2 then σ.fin (tr tx) tx
 else if tl tx=[] then σ else σ.cT.fin (tr<|tl tx) (tl tx)
theorem BX.xr(h:BX s b σ):σ.nodes≠[]:=by
 have⟨_,_,_,_,h⟩:=h;intro e;have⟨k,l,a⟩:=List.exists_cons_of_ne_nil h.ne
 have:=h.lt k gq;rw[e] at this;simp at this
def IF(aa0:pr 239=none)(aaZ:pr 223=none)(WS:pr 315=none)(Tc:pr 217=none)(Td:pr 232=none)(aaY:∀s,Ef pr 198 #[str tx,str KJ] s (str tr) s)(h:BX s b σ)(Xn:∀k∈σ.again,jR (σ.mA k).name=false)(hN:σ.nodes.length+60<400000000)(hx:tx.length<=400000000)(h1:(σ.mA<|σ.nodes.length-1).text.length<=500000000)(h2:(σ.dZ.mA<|σ.dZ.nodes.length-1).text.length<=500000000)(x:Nq) :
  Ew pr (match f216.body with|some (.seq _<|.seq _ c)=>c|_=>.skip) ([aC b 0,str tx]++gG x 2 30) s (λe a' s1=>(e=.normal\/e=.ret)/\di prog f216 a' s1=some (.tuple #[])/\BX s1 b (σ.fin tr tx)/\dJ b s s1):=by
 have hol:σ.dZ.nodes.length<=σ.nodes.length+40:=by have:=(LU (σ.again.take<|40-σ.row.length) σ).2.2.1;show(List.foldl TS.fJ σ<|σ.again.take<|40-σ.row.length).nodes.length<=_;grind
 have⟨V,e1,e2,e3⟩:=xZ (tx:=tx) WS Tc Td h oq oq h.xr;have⟨U,f1,f2,f3⟩:=G3 aa0 aaZ Tc Td h Xn oq;have⟨V2,g1,g2,g3⟩:=xZ (tx:=tx) WS Tc Td f2 oq oq f2.xr;unfold TS.fin;refine aB<|zr<|zc 1 (aaY s) ?_;by_cases VT:tr=[]
 .subst VT;rw[ip O];exact zf<|za s<|zF<|zx<|zc 2 e1<|am ⟨.inl O,kq,e2,e3⟩
 .rw[iw VT];exact zp (bz (u:=str tr) (w:=str []) O kq kq<|by unfold dV;simp only;rw[p9 VT])<|am<|za s<|zH<|zx<|zc 1 f1<|am<|za U<|zx<|zc 2 g1<|am ⟨.inl O,kq,g2,f3.trans g3⟩
theorem Qu(a:∀f,f∈fI->pr f=none)(J:pr 320=none)(y:pr 127=bP 127){tr tl:Bq->Bq}(H:∀s,Ef pr 198 #[str tx,str KJ] s (str<|tr tx) s)(G:∀s,Ef pr 198 #[str (tl tx),str KJ] s (str<|tr<|tl tx) s)(I:∀s,Ef pr 316 #[str tx,str KJ] s (str<|tl tx) s)
 (h:BX s b σ)(A:∀j,j∈[σ,σ.cT]->∀k∈j.again,jR (j.mA k).name=false)(hN:σ.nodes.length+70<400000000)(Y:tx.length<=400000000)(L:(tl tx).length<=400000000)(n:∀j,j∈[σ,σ.dZ,σ.cT,σ.cT.dZ]->(j.mA<|j.nodes.length-1).text.length<=500000000)
 (X:σ.w=0\/σ.w=1\/σ.w=2)(T:σ.w=1->dg σ [lN]≠0)(h1:σ.w=0->dg (σ.jP []) [lN]≠0)(K:σ.again.length<=50000) :
  ∃r,Ef pr 216 #[aC b 0,str tx] s (.tuple #[]) r/\BX r b (σ.text tr tl tx)/\dJ b s r:=by
 have⟨nv,rv,av,xs,h⟩:=h;have C:=HU.2 h.ne;have p:=wM (a 232 dq) h;have g:=h.name (pr:=pr) (a 231 dq) (i:=σ.row.length-1) oq;rw[show(σ.row.length:Int)-1=((σ.row.length-1:Nat):Int) by omega] at p;unfold TS.text;generalize nameAt σ (σ.row.length-1)=D at g |-;generalize σ.row.length-1=R1 at p g;have W:Ef pr 314 #[] s (.slice (sq s.nx) 4 4) (s.add<|.cells (qj.map str).toArray 9):=by
  refine aH (a 314 dq) func314 O ?_;iterate 2 refine zs ?_
  exact yR
 have t:=h.add<|.cells (qj.map str).toArray 9;have m:=c9 h<|.cells (qj.map str).toArray 9;have B:=(bR s qj 4 rfl dq).is (pr:=pr) y D;generalize s.add _=S at *;have o:=t.b;have c:BX S b σ:=⟨_,_,_,_,t⟩;have⟨V,e1,N,O⟩:=xZ (tx:=tx) (a 315 dq) (a 217 dq) (a 232 dq) c oq gq c.xr;generalize aW D qj=M at B |-;refine aX (a 216 dq) func216 rfl<|aB<|zr<|zc 2 p<|zc 0 g<|zc 0 W<|zc 0 B<|am<|za S ?_;cases M with
 | true =>rw[ip rfl];exact zH<|zr<|zc 2 e1<|am<|za V<|aD ⟨.inr rfl,kq,N,m.trans O⟩
 | false =>
  rw[iw dq];refine zF ?_;by_cases h2:σ.w=2
  .rw[ip h2];rw[h2] at o;have q:=IF (tx:=tx) (a 239 dq) (a 223 dq) (a 315 dq) (a 217 dq) (a 232 dq) H c (A _ iq) oq Y (n _ iq)<|n _ iq;refine aB<|zr<|zg 3 S<|zp (yl b 3 (num 2) o.2)<|zf<|za S<|zF<|aV (λx=>[aC b 0,str tx]++gG x 2 30) kq ?_;intro x;exact bn (q x) λe F Z z=>⟨z.1,z.2.1,z.2.2.1,m.trans z.2.2.2⟩
  .rw[iw h2];have ab:=sI σ;have⟨U,P,Q,R⟩:=AH a J y c X T h1 K oq;generalize σ.w=E at o h2;refine aB<|zr<|zg 3 S<|zp (yl b 3 (num E) o.2)<|zp (bz (u:=num E) (w:=num 2) rfl kq kq<|cM (b:=true) gq)<|am<|za S<|zH<|zr<|zc 1 (I S)<|zf<|za S ?_;by_cases d:tl tx=[]
   .rw[ip d];rw[d];exact aB<|zr<|zf<|za S<|zH<|aD ⟨.inr rfl,kq,c,m⟩
   .rw[iw d];have q:=IF (a 239 dq) (a 223 dq) (a 315 dq) (a 217 dq) (a 232 dq) G Q (A _ iq) oq L (n _ iq)<|n _ iq;generalize tl tx=l at *;refine aB<|zr<|zk 1<|zp (bz (u:=str l) (w:=str []) rfl kq kq<|by unfold dV;simp only;rw[p9 d])<|am<|za S<|zF<|zx<|zc 1 P<|am<|za U<|aV (λx=>[aC b 0,str l]++gG x 2 30) kq ?_;intro x;exact bn (q x) λe F Z z=>⟨z.1,z.2.1,z.2.2.1,(m.trans R).trans z.2.2.2⟩
def Y4(b n:Nat)(v:Value)(x:Nq):TL:=[aC b 0,v,x 2,aC n 0]++gG x 4 28
variable {my:TS}
def NS(a:∀f,f∈fI->pr f=none)(m:pr 127=bP 127)(hw:σ.w≠2){p KQ:TS}(M:e9 pr b t aY (cF t.name mi) σ KQ true)(hr:e9 pr b t aY (cF t.name gm) KQ p g)(J:g=true->jR t.name=false)(hN:p.nodes.length<400000000):fU pr 218 b t aY σ (if g then p.fS t.name aY else p):=by
 intro o s h D;have⟨j,l,k,G,i⟩:=t;have D:dI s G aY:=D;have⟨c,d,I⟩:=D.len;subst I;generalize aY.length=e at *;have r:=h.add<|fp ⟨j,l,k,.slice c e d,i⟩;have x:=aI s<|fp ⟨j,l,k,.slice c e d,i⟩;have v:=(aE (K:=λ_=>False) s).add<|fp ⟨j,l,k,.slice c e d,i⟩;have N:=(h.fk v).2;have O:=D.fk v λ_ _=>id;generalize hS:s.add (fp ⟨j,l,k,.slice c e d,i⟩)=S at *;have⟨T,f1,B,C⟩:=CY (s:=S) a (F:=65) (mI:=mi) (λz=>Ea a m z) (t:=⟨j,l,k,.slice c e d,i⟩) o r O M;have A:=x.fr C.1<|r.no x dq dq dq;have Q:dI T (.slice c e d) aY:=O.fb o r C;have⟨U,g1,g2,g3⟩:=CY (s:=T) a (F:=68) (mI:=gm) (λz=>Ec a m z) (t:=⟨j,l,k,.slice c e d,i⟩) o B Q hr;have X:=A.fr g3.1<|B.no A dq dq dq;have Y:dI U (.slice c e d) aY:=Q.fb o B g3;have L:=λhg:g=true=>qn (a 228 dq) (a 138 dq) m (a 223 dq) (a 217 dq) (a 232 dq) g2 (t:=⟨j,l,k,.slice c e d,i⟩) Y (λy z=>⟨o y z,J hg⟩) hN;have⟨nv,rv,av,xs,R⟩:=r;have E:=R.b;have r:BX S b σ:=⟨_,_,_,_,R⟩;have l1:=gW 181 E.2 (off:=3) rfl;have l2:=gW 112 E.2 (off:=4) rfl;have l3:=fX (P:=prog) (t:=60) (n:=5) underlying60 rfl kq x.2 (off:=0)<|iz 5;have⟨VU,YY,W,V8,H⟩:=B;have u:=H.b;have m2:=gW 112 u.2 (off:=6) rfl;have m3:=fX (P:=prog) (t:=60) (n:=5) underlying60 rfl kq A.2 (off:=0)<|iz 5;generalize hww:σ.w=w at *;generalize KQ.w=w2 at *;refine aX (a 218 dq) func218 rfl<|zs<|za (s.add<|fp ⟨j,l,k,.slice c e d,i⟩) ?_;rw[hS];refine aB<|aB<|aP kq kq kq<|zq<|zq<|zq<|zt S<|zu (yl b 3 (num w) E.2)<|zu (yb (num w) (num 2)<|cM (b:=true)<|bne_iff_ne.2 hw)<|zq<|zq<|zq<|zq<|zq<|zq<|zt S<|zu (yl b 4 (eD 65) E.2)<|zu (yA s.nx 0 5 #[num j,str l,str k,.slice c e d,.bool i] x.2 iq)<|yt f1<|zq<|zq<|bq ⟨kN<|vD l1 l2 l3 rfl rfl (by cases c<;>rfl),_,_,_,_,_,_,rfl,rfl,za T<|zF (aV (Y4 b s.nx<|.agg #[num j,str l,str k,.slice c e d,.bool i]) kq ?_)⟩;intro x0;refine aB<|aP kq kq kq<|zq<|zq<|zq<|zq<|zq<|zt T (zu (yl b 6 (eD 68) u.2) (zu (yA s.nx 0 5 #[num j,str l,str k,.slice c e d,.bool i] A.2 iq) (yt g1 (zq (bq ⟨kN<|jT m2 m3 rfl (by cases c<;>rfl),_,_,_,_,_,_,rfl,rfl,za U ?_⟩)))));cases g with
 | true =>obtain⟨V,e1,Z,e3⟩:=L rfl;exact zH<|zx<|zg 1 U<|zp (yA s.nx 0 5 #[num j,str l,str k,.slice c e d,.bool i] X.2 iq)<|zc 0 e1<|am ⟨.inl rfl,kq,Z,((N.trans C).trans g3).trans e3⟩
 | false =>exact zF ⟨.inl rfl,kq,g2,(N.trans C).trans g3⟩
def SH(l:∀f,f∈fI->pr f=none)(m:pr 127=bP 127)(V:σ.w≠2){KQ:TS}(E:e9 pr b t aY (cF t.name mZ) σ KQ true)(R:e9 pr b t aY (cF t.name iZ) KQ my g):fU pr 219 b t aY σ my:=by
 intro o s h x;have⟨i,k,j,A,e⟩:=t;have x:dI s A aY:=x;have⟨a,c,D⟩:=x.len;subst D;generalize aY.length=d at *;have p:=h.add<|fp ⟨i,k,j,.slice a d c,e⟩;have v:=aI s<|fp ⟨i,k,j,.slice a d c,e⟩;have u:=(aE (K:=λ_=>False) s).add<|fp ⟨i,k,j,.slice a d c,e⟩;have L:=(h.fk u).2;have G:dI (s.add<|fp ⟨i,k,j,.slice a d c,e⟩) (.slice a d c) aY:=x.fk u λ_ _=>id;generalize Q:s.add (fp ⟨i,k,j,.slice a d c,e⟩)=S at *;have⟨T,O,I,B⟩:=CY (s:=S) l (F:=67) (mI:=mZ) (λz=>D9 l m z) (t:=⟨i,k,j,.slice a d c,e⟩) o p G E;have H:=v.fr B.1<|p.no v dq dq dq;have N:dI T (.slice a d c) aY:=G.fb o p B;have⟨U,g1,g2,g3⟩:=CY (s:=T) l (F:=69) (mI:=iZ) (λz=>Eb l m z) (t:=⟨i,k,j,.slice a d c,e⟩) o I N R;have⟨nv,rv,av,xs,J⟩:=p;have y:=J.b;have p:BX S b σ:=⟨_,_,_,_,J⟩;have X:=gW 181 y.2 (off:=3) rfl;have Y:=gW 112 y.2 (off:=5) rfl;have Z:=fX (P:=prog) (t:=60) (n:=5) underlying60 rfl kq v.2 (off:=0)<|iz 5;have⟨VU,YY,M,V8,C⟩:=I;have r:=C.b;have m2:=gW 112 r.2 (off:=7) rfl;have m3:=fX (P:=prog) (t:=60) (n:=5) underlying60 rfl kq H.2 (off:=0)<|iz 5;generalize W:σ.w=w at *;generalize KQ.w=w2 at *;refine aX (l 219 dq) func219 rfl<|zs<|za (s.add<|fp ⟨i,k,j,.slice a d c,e⟩) ?_;rw[Q];exact aB<|aP kq kq kq<|zq<|zq<|zq<|zt S<|zu (yl b 3 (num w) y.2)<|zu (yb (num w) (num 2)<|dp (b:=false)<|bF.2 V)<|zq<|zq<|zq<|zq<|zq<|zq<|zt S<|zu (yl b 5 (eD 67) y.2)<|zu (yA s.nx 0 5 #[num i,str k,str j,.slice a d c,.bool e] v.2 iq)<|yt O<|zq<|zq<|bq ⟨kN<|vD X Y Z rfl rfl (by cases a<;>rfl),_,_,_,_,_,_,rfl,rfl,za T<|zH (aP kq kq kq (zq<|zq<|zq<|zq<|zq (zt T (zu (yl b 7 (eD 69) r.2) (zu (yA s.nx 0 5 #[num i,str k,str j,.slice a d c,.bool e] H.2 iq) (yt g1 (bq ⟨kN<|jT m2 m3 rfl (by cases a<;>rfl),_,_,_,_,_,_,rfl,rfl,⟨.inl rfl,kq,g2,(L.trans B).trans g3⟩⟩)))))))⟩
def Qp(a:∀f,f∈fI->pr f=none)(w:t.kind=4)(u:σ.nodes.length<400000000):fU pr 119 b t aY σ (σ.put ⟨3,0,[],t.text,[]⟩):=by intro x s h i;have⟨kd,tx,nm,at_,d⟩:=t;have⟨c,e,j⟩:=i.len;subst j;generalize aY.length=g at *;have m:=h.add<|fp ⟨kd,tx,nm,.slice c g e,d⟩;have l:=aI s<|fp ⟨kd,tx,nm,.slice c g e,d⟩;have k:=(aE (K:=λ_=>False) s).add<|fp ⟨kd,tx,nm,.slice c g e,d⟩;have n:=(h.fk k).2;generalize v:s.add _=S at *;have⟨A,B,z,C,r⟩:=m;have⟨U,y,o,p,q⟩:=D2 (a 217 dq) (a 232 dq) r (kd:=3) (pa:=0) (nm:=[]) (tx:=tx) (at_:=aO) (aY:=[]) (.inl ⟨O,O⟩) (KU.nil _ _) u;obtain rfl:kd=4:=w;refine aX (a 119 dq) func119 O<|zs<|za (s.add<|fp ⟨4,tx,nm,.slice c g e,d⟩) ?_;rw[v];exact zr<|zg 1 S<|zp (yl s.nx 0 (num 4) l.2)<|zf<|za S<|aF<|zr<|zf<|za S<|zG<|zr<|zf<|za S<|zH<|zx<|zg 2 S<|zp (yl s.nx 1 (str tx) l.2)<|zg 1 S<|zc 0 o<|am ⟨.inl O,kq,⟨_,_,_,_,p⟩,n.trans q⟩
def Qq(o:∀f,f∈fI->pr f=none)(v:t.kind=5):fU pr 119 b t aY σ σ:=by
 intro w s h l;have⟨e,j,i,k,c⟩:=t;have⟨a,d,m⟩:=l.len;subst m;generalize aY.length=g at *;have p:=h.add<|fp ⟨e,j,i,.slice a g d,c⟩;have q:=aI s<|fp ⟨e,j,i,.slice a g d,c⟩;have n:=(aE (K:=λ_=>False) s).add<|fp ⟨e,j,i,.slice a g d,c⟩;have r:=(h.fk n).2;generalize u:s.add _=S at *;obtain rfl:e=5:=v;refine aX (o 119 dq) func119 O<|zs<|za (s.add<|fp ⟨5,j,i,.slice a g d,c⟩) ?_;rw[u];refine zr<|zg 1 S<|zp (yl s.nx 0 (num 5) q.2)<|zf<|za S<|aF ?_;iterate 4
  refine zr ?_
  refine zf ?_
  refine za S ?_
  refine zG ?_
 exact EW.skip ⟨.inl O,kq,p,r⟩
def mM(a:pr 241=none)(q:fU pr 218 b ⟨2,[],nm,aO,false⟩ [] σ my):dz pr b t aY ⟨241,[nm],[]⟩ σ my true:=by refine dw a func241 O λs S x u C c e v g f r n D o d E p=>?_;subst r;have⟨I,i,h,F,G,H,_⟩:=o;cases i;obtain⟨B,w,A,rfl,m⟩:=h<|.inr<|.inl O;cases A;have⟨U,j,k,l⟩:=q (λy z=>(cw z).elim) S d<|.inl ⟨O,O⟩;refine zs<|za (s.add<|fp ⟨u,C,c,.slice e v g,f⟩) ?_;rw[n];exact zr<|zg 1 S<|zp (yl B 0 (str nm) m.2)<|zg 1 S<|zc 0 j<|am<|za U<|zs<|za U<|aD ⟨.inr O,kq,k,l⟩
def dO.fb{d:DC}(h:dO s v d)(a:BX s b σ)(e:dJ b s s'):dO s' v d:=h.fk e.1 λx g t i f c=>by rcases c with rfl|rfl|rfl|⟨rfl,_⟩<;>exact a.no f dq dq dq
def NB(b B C n:Nat)(v:Value)(x:Nq):TL:=[aC b 0,v,aC B 0,aC C 0,x 4,aC n 0]++gG x 6 13
theorem yd(k:∀f,f∈fI->pr f=none)(a9:pr 320=none)(a7:pr 241=none)(a8:pr 242=none)(W:pr 127=bP 127){a:TS}(hr:cj σ bG [[112]] = -1->fU pr 218 b ⟨2,[],[112],aO,false⟩ [] σ a)(ab:cj σ bG [[112]] ≠ -1->a=σ)(h0:cj a bG [[112]]≠0)(aa:a.again.length<=50000):dz pr b t aY ⟨242,[],[]⟩ σ (a.dx<|cj a bG [[112]]) true:=by
 refine dw a8 func242 rfl λs S x u v q l o m r ht hS V hd j a4 A=>?_;subst ht;have⟨x',e0,d1,d2,d3,d4,d5,d6⟩:=hd;cases e0;obtain⟨B,C,E,F,G,wv,yx,rfl,X,hE,Y,hF,hG,hw,Q⟩:=d6 rfl;have dS:=ox _ (.inr<|.inl rfl) hE;have dN:=ye hF hG hw Q;have⟨nv,rv,av,xs,P⟩:=j;have j:BX S b σ:=⟨_,_,_,_,P⟩;have I:=P.add<|.cells ([[112]].map str).toArray 9;have c2:=c9 P<|.cells ([[112]].map str).toArray 9;have c3:=Bl (k 243 dq) (k 131 dq) (k 235 dq) (k 222 dq) (k 231 dq) (k 232 dq) W I<|bR S [[112]] 1 rfl gq;generalize O:S.add (.cells ([[112]].map str).toArray 9)=S2 at *;have c4:=I.add<|.cells (bG.map str).toArray 9;have c5:=c9 I<|.cells (bG.map str).toArray 9;generalize S2.add (.cells (bG.map str).toArray 9)=i at *;have n:=c2.trans c5;have d:BX i b σ:=⟨_,_,_,_,c4⟩;have Z:=X.fr n.1<|j.no X dq dq dq;have T:=Y.fr n.1<|j.no Y dq dq dq;have H:=V.fr n.1<|j.no V dq dq dq;have K:=dS.fb j n;have J:=dN.fb j n;have y:dI i (.slice l o m) aY:=a4.fb A j n;have z:∀(p:AS) (w:Nq),BX p b a->dJ b i p->Ew pr (match f242.body with|some (.seq _<|.seq _ c)=>c|_=>.skip) (NB b B C s.nx (.agg (fq ⟨u,v,q,.slice l o m,r⟩).toArray) w) p λe a' R=>(e=.normal\/e=.ret)/\di prog f242 a' R=some (.bool true)/\BX R b (a.dx<|cj a bG [[112]])/\dJ b S R:=by intro p w hX h;have C2:=T.fr h.1<|d.no T dq dq dq;have T2:=H.fr h.1<|d.no H dq dq dq;have⟨U,L,M,N⟩:=(mo k a9 W h0 aa) A p _ hX (J.fb d h)<|y.fb A d h;exact zr<|zp (yl C 0 (.func (.func 234) #[] #[aC F 0,aC G 0]) C2.2)<|zg 1 p<|zp (yA s.nx 0 5 #[num u,str v,str q,.slice l o m,.bool r] T2.2 iq)<|EO.call (f:=.tmp 15) (g:=234) (first:=#[]) (cap:=#[aC F 0,aC G 0]) kq rfl rfl kq kq kq L<|zf<|za U<|aD ⟨.inr rfl,kq,M,(n.trans h).trans N⟩
 refine zs<|za (s.add<|fp ⟨u,v,q,.slice l o m,r⟩) ?_;rw[hS];refine aB<|zr<|zk 2<|zo (S.add<|.cells ([[112]].map str).toArray 9) ?_;rw[O];refine zc 0 c3 ?_;by_cases D:cj σ bG [[112]] = -1
 .have⟨U,L,M,N⟩:=(mM a7<|hr D) A i _ d K y;rw[D];refine zf<|za i<|zH<|zx<|zp (yl B 0 (.func (.func 241) #[] #[aC E 0]) Z.2)<|zg 1 i<|zp (yA s.nx 0 5 #[num u,str v,str q,.slice l o m,.bool r] H.2 iq)<|EO.call (f:=.tmp 11) (g:=241) (first:=#[]) (cap:=#[aC E 0]) kq rfl rfl kq kq kq L<|am<|za U<|aV (NB b B C s.nx<|.agg (fq ⟨u,v,q,.slice l o m,r⟩).toArray) kq ?_;intro w;exact z U w M N
 .have e:=ab D;subst e;refine zp (yb (num<|cj a bG [[112]]) (num<|-1)<|dp<|bF.2 D)<|am<|za i<|zF<|aV (NB b B C s.nx<|.agg (fq ⟨u,v,q,.slice l o m,r⟩).toArray) kq ?_;intro w;exact z i w d<|dU _
abbrev FO:Bq:=[116,97,98,108,101]
def TS.pL(σ:TS):Nat->List (List<|Bq)->Nat
 | _,[]=>0
 | i,l::ls=>if (decide (i<σ.row.length)&&aW (nameAt σ i) l)=true then σ.pL (i+1) ls+1 else 0
def TS.jp(σ:TS)(i:Nat):TS:=if i<σ.row.length then σ.gH i else σ
def TS.opens(σ:TS)(ls:List (List<|Bq)):TS:=ls.foldl (λa l=>a.open_ (l.headD []) []) σ
def TS.Ij(σ:TS)(i:Nat)(ls:List (List<|Bq)):TS:=(σ.jp<|i+σ.pL i ls).opens<|ls.drop<|σ.pL i ls
def TS.part(σ:TS)(ls:List (List<|Bq)):TS:=if dg σ [FO] = -1 then σ else σ.Ij ((dg σ [FO]).toNat+1) ls
def DV(σ:TS):∀(ls:List (List<|Bq)) (i:Nat),σ.pL i ls<=ls.length
 | [],_=>iz _
 | l::ls,i=>by
  unfold TS.pL;split
  .have:=DV σ ls<|i+1;simp;omega
  .omega
variable {nv rv:Value}{xs:List bH}
def MX(e:∀f,f∈fI->pr f=none)(c:pr 237=none)(a:pr 127=bP 127)(h:BT s b nv rv av xs σ){l:List (Bq)}(n:gx s v l)(i:Nat)(o:i<=1000):Ef pr 237 #[aC b 0,num i,v] s (.bool<|decide (i<σ.row.length)&&aW (nameAt σ i) l) s:=by
 have⟨k,m,q⟩:=h.r.len;have g:=h.b;rw[q] at g;refine aH c func237 O<|zs<|zr<|zg 4 s<|zp (yl b 1 _ g.2)<|zk 1 ?_;by_cases d:i<σ.row.length
 .have p:=h.name (e 231 dq) d;have j:=n.is a<|nameAt σ i;refine zp (yb (num i) (num σ.row.length)<|bE<|tD oq) ?_;rw[tD d,Bool.true_and];exact zg 3 s<|zc 0 p<|zc 1 j<|zf yR
 .refine zp (yb (num i) (num σ.row.length)<|bE<|fD oq) ?_;rw[fD d,Bool.false_and];exact zf yR
def Lv(d:∀f,f∈fI->pr f=none)(c:pr 320=none)(a:pr 127=bP 127)(h:BX s b σ)(x:1<=i)(p:i<=1000)(g:σ.again.length<=50000):∃k,Ef pr 221 #[aC b 0,num i] s (.tuple #[]) k/\BX k b (σ.jp i)/\dJ b s k:=by
 unfold TS.jp;by_cases m:i<σ.row.length
 .rw[ip m]
  have:=o0 d c a h (j:=(i:Nat)) oq oq oq g;rw[show σ.dx (i:Int)=σ.gH i by unfold TS.dx;rw[iw oq,yE]] at this;exact this
 .rw[iw m];have⟨y,z,t,A,e⟩:=h;have⟨n,o,q⟩:=e.r.len;have l:=e.b;rw[q] at l;exact⟨s,aH (d 221 dq) func221 O<|aB<|zr<|zk 1<|zp (bz (u:=num i) (w:=num<|-1) O kq kq<|dp (b:=false)<|bF.2 oq)<|zg 5 s<|zp (yl b 1 _ l.2 (i:=O))<|zk 1<|zp (bz (u:=num i) (w:=num σ.row.length) O kq kq<|fQ (b:=true)<|tD oq)<|zf<|za s<|zH<|aD ⟨.inr O,kq,kq⟩,⟨_,_,_,_,e⟩,dU s⟩
def GY(d n i:Nat)(v:Value):Prop:=(i<n/\v=.slice (some ⟨d,i,none⟩) (n-i) (n-i))\/(n<=i/\∃ad c,v=.slice ad 0 c)
def Ac(b B n i:Nat)(tv v:Value)(x:Nq):TL:=[aC b 0,tv,aC B 0,x 3,aC n 0,.bool false,num i,v]++gG x 8 40
def GG(b B n i m j:Nat)(tv:Value)(ad:Option Addr)(c:Nat)(x:Nq):TL:=[aC b 0,tv,aC B 0,x 3,aC n 0,.bool false,num i,.slice ad m c]++gG x 8 28++[.slice ad m c,num m,num j]++gG x 39 9
def zX(ls:List (List<|Bq)):∀a:TS,(a.opens ls).nodes.length=a.nodes.length+ls.length:=by
 induction ls with
 | nil=>intro a;rfl
 | cons l ls b =>
  intro a;show((a.open_ _ []).opens ls).nodes.length=_;rw[b];have:(a.open_ (l.headD []) []).nodes.length=a.nodes.length+1:=by unfold TS.open_ TS.put;split<;>simp
  rw[this];simp;omega
theorem dz.part(M:∀f,f∈fI->pr f=none)(aq:pr 320=none)(al:pr 236=none)(ao:pr 237=none)(a9:pr 127=bP 127){Y Z:List (Bq)}(au:∀l∈lp Y Z,l≠[])(b1:σ.again.length<=50000)(hN:σ.nodes.length+4<400000000):dz pr b t aY ⟨236,Y,Z⟩ σ (σ.part<|lp Y Z) (decide (dg σ [FO] ≠ -1)):=by
 refine dw al func236 rfl λs S x H J E F I cp G ht hS a2 hd a1 a4 ba=>?_;subst ht;have⟨x',e0,d1,d2,d3,d4,d5,d6⟩:=hd;cases e0;obtain⟨B,v0,rfl,hB,hP⟩:=d5 rfl;have Tp:(lp Y Z).length<=2:=by unfold lp;split<;>split<;>simp
 have hP:uG S v0 (lp Y Z):=hP;generalize lp Y Z=p at hP Tp au |-;have⟨nv,rv,av,xs,hT⟩:=a1;have a1:BX S b σ:=⟨_,_,_,_,hT⟩;have hrow:=hT.sz.2.1;have Cn:=pB σ [FO];have c1:=hT.add<|.cells ([FO].map str).toArray 9;have c2:=c9 hT<|.cells ([FO].map str).toArray 9;have c3:=xg (M 222 dq) (M 231 dq) (M 232 dq) a9 c1<|bR S [FO] 1 rfl gq;have B1:=hB.fr c2.1<|a1.no hB dq dq dq;have P1:=hP.fk c2.1 λx W t fz hx hc=>by rcases hc with rfl|rfl|rfl|⟨rfl,_⟩<;>exact a1.no hx dq dq dq
 generalize az:S.add (.cells ([FO].map str).toArray 9)=A at *;have af:BX A b σ:=⟨_,_,_,_,c1⟩;refine zs<|za (s.add<|fp ⟨H,J,E,.slice F I cp,G⟩) ?_;rw[hS];refine zr<|zk 2<|zo (S.add<|.cells ([FO].map str).toArray 9) ?_;rw[az];refine zc 0 c3 ?_;unfold TS.part;by_cases hj:dg σ [FO] = -1
 .rw[hj,ip rfl];exact zf<|za A<|aB<|zr<|zf<|za A<|zH<|zs<|za A<|aD ⟨.inr rfl,kq,af,c2⟩
 .rw[iw hj,tD hj];have⟨g,b2⟩:=Int.eq_ofNat_of_zero_le (show 0<=dg σ [FO] by omega);rw[b2] at Cn hj |-;rw[yE];have hi1:g<σ.row.length:=oq
  refine zf<|za A<|aB<|zr<|zk 1<|zp (yb (num g) (num<|-1)<|dp (b:=false)<|bF.2 oq)<|am<|za A<|zF<|zr<|zk 1<|zp (yp (g:Int) 1 ((g+1:Nat):Int) oq oq)<|zf<|za A ?_;obtain⟨ab,vn,vc,rfl⟩:∃ab vn vc,v0=.slice ab vn vc:=by
   rcases P1 with ⟨rfl,_⟩|⟨d,vs,rfl,_⟩
   iterate 2
    .exact⟨_,_,_,rfl⟩
  refine zr<|zp (yl B 0 (.slice ab vn vc) B1.2)<|zf<|za A<|aV (Ac b B s.nx (g+1) (.agg (fq ⟨H,J,E,.slice F I cp,G⟩).toArray)<|.slice ab vn vc) kq ?_;intro x0;generalize P:σ.pL (g+1) p=u;have hD:σ.Ij (g+1) p=(σ.jp<|g+1+u).opens (p.drop u):=by unfold TS.Ij;rw[P]
  rw[hD];have b5:u<=p.length:=by rw[<-P];exact DV _ _ _
  obtain⟨d,ay,aa⟩:∃d:Nat,GY d p.length 0 (.slice ab vn vc)/\∀(k:Nat) (l:List (Bq)),p[k]?=some l->∃(v:Value) (W:Aq),Has A d (.cells W 62)/\W[k]?=some v/\gx A v l:=by
   rcases P1 with ⟨e,ar⟩|⟨d,vs,e,bc,ak,bd⟩
   .cases e;refine⟨0,.inr ⟨by rw[ar];exact lr,none,0,rfl⟩,λk l h=>?_⟩;rw[ar] at h;cases h
   .cases e;by_cases h0:vs.length=0
    .refine⟨d,.inr ⟨oq,some ⟨d,0,none⟩,0,by rw[h0]⟩,λk l h=>?_⟩;grind
    .refine⟨d,.inl ⟨oq,by rw[ak];rfl⟩,λk l h=>?_⟩;have hk:=(gS.1 h).1;have hvk:vs[k]?=some (vs[k]'oq):=gE _;grind
  refine aB<|aF<|bn (bw (Q:=λe C w=>e=.exit 0/\w=A/\∃v x,GY d p.length u v/\C=Ac b B s.nx (g+1+u) (.agg (fq ⟨H,J,E,.slice F I cp,G⟩).toArray) v x) (λm C w=>w=A/\∃i v x,i+m=p.length/\i+σ.pL (g+1+i) (p.drop i)=u/\GY d p.length i v/\C=Ac b B s.nx (g+1+i) (.agg (fq ⟨H,J,E,.slice F I cp,G⟩).toArray) v x) ?_ p.length _ _ ⟨rfl,0,_,x0,by omega,by rw[List.drop_zero];simpa using P,ay,rfl⟩) ?_
  .rintro m C w ⟨rfl,i,v,x1,b6,N,hv,rfl⟩;rcases hv with ⟨a7,rfl⟩|⟨a7,Zj,T,rfl⟩
   .obtain⟨l,X⟩:∃l,p[i]?=some l:=⟨_,gE a7⟩;have⟨vl,W,z,O,K⟩:=aa i l X;have a5:p.drop i=l::p.drop (i+1):=by have hi':=(gS.1 X);rw[List.drop_eq_getElem_cons hi'.1,hi'.2]
    rw[a5] at N;unfold TS.pL at N;have b3:=MX M ao a9 c1 K (g+1+i) oq;obtain⟨vd,T,hvl⟩:∃vd T,vl=.slice vd l.length T:=by have⟨_,d',c',fz,e,_⟩:=K;exact⟨_,_,e⟩
    subst hvl;obtain⟨L,hL⟩:∃L,p.length-i=L+1:=⟨p.length-i-1,by omega⟩;rw[hL];refine aB<|zr<|zk 2<|zp (yb (num ((L+1:Nat):Int)) (num 0)<|fA (b:=true)<|tD oq)<|zg 4 w<|zp (ta (b:=d) (off:=i) (n:=L+1) (cp:=L+1) (sp:=none) (k:=.i64) (j:=0) (sz:=1) rfl underlying72 kq kq kq oq oq)<|zp (yl d (i+(0:Int).toNat*1) (.slice vd l.length T) z.2 (i:=O))<|zc 0 b3 ?_;generalize hbb:(decide (g+1+i<σ.row.length)&&aW (nameAt σ<|g+1+i) l)=bb at N;cases bb with
    | false =>
     rw[iw dq] at N;refine zf<|za w<|zG<|aR ?_;obtain rfl:i=u:=oq
     exact⟨rfl,rfl,.slice (some ⟨d,i,none⟩) (L+1)<|L+1,(bu (f:=λx=>Ac b B s.nx (g+1+i) (.agg (fq ⟨H,J,E,.slice F I cp,G⟩).toArray) (.slice (some ⟨d,i,none⟩) (L+1)<|L+1) x) kq).imp λx e=>⟨.inl ⟨a7,by rw[hL]⟩,e⟩⟩
    | true =>
     rw[ip rfl] at N;refine zf<|za w<|zT<|aF<|zr<|zk 1 ?_;obtain⟨v2,ak,aj⟩:∃v2,GY d p.length (i+1) v2/\∃ah ai ag,v2=.slice ah ai ag/\∀{c:gX} {a:TL} {o:Oper} {y:Operand} {lo:Operand},o.op=.slice 72 y (some lo) none none->a.at y=.slice (some ⟨d,i,none⟩) (L+1) (L+1)->a.at lo=num 1->cf prog kg c a o w=some (v2,w):=by
      by_cases ax:L=0
      .subst ax;exact⟨.slice (some ⟨d,i,some 0⟩) 0 1,.inr ⟨oq,_,_,rfl⟩,_,_,_,rfl,λh1 h2 h3=>F1 (b:=d) (off:=i) (n:=1) (cp:=1) (i:=1) (sz:=1) h1 underlying72 h2 z.2 kq (by simp only[Option.map_some,Option.map_none,h3];kernel_rfl) oq⟩
      .exact⟨.slice (some ⟨d,i+1,none⟩) L L,.inl ⟨oq,by rw[show p.length-(i+1)=L by omega]⟩,_,_,_,rfl,λh1 h2 h3=>me (kt:=kg) (b:=d) (off:=i) (n:=L+1) (cp:=L+1) (i:=1) (j:=L+1) (sz:=1) h1 underlying72 h2 z.2 kq (by simp only[Option.map_some,Option.map_none,h3];exact ig dq oq) oq⟩
     obtain⟨ah,ai,ag,rfl,aj⟩:=aj;exact zp (aj rfl kq kq)<|zf<|za w<|zx<|zk 1<|zp (yp ((g+1+i:Nat):Int) 1 ((g+1+(i+1):Nat):Int) oq oq)<|zf ⟨m-1,by omega,rfl,i+1,.slice ah ai ag,(bu (f:=λx=>Ac b B s.nx (g+1+(i+1)) (.agg (fq ⟨H,J,E,.slice F I cp,G⟩).toArray) (.slice ah ai ag) x) kq).imp λx e=>⟨oq,by rw[show g+1+(i+1)=g+1+i+1 by omega];omega,ak,e⟩⟩
   .have a5:p.drop i=[]:=Jk a7;rw[a5] at N;unfold TS.pL at N;obtain rfl:i=u:=oq
    exact aB<|zr<|zf<|za w<|zG<|aR ⟨rfl,rfl,.slice Zj 0 T,(bu (f:=λx=>Ac b B s.nx (g+1+i) (.agg (fq ⟨H,J,E,.slice F I cp,G⟩).toArray) (.slice Zj 0 T) x) kq).imp λx e=>⟨.inr ⟨a7,_,_,rfl⟩,e⟩⟩
  .rintro e C w ⟨rfl,rfl,v,x1,hv,rfl⟩;have⟨U,f1,f2,f3⟩:=Lv M aq a9 af (i:=g+1+u) oq oq b1;obtain⟨ae,wn,wc,rfl⟩:∃ae wn wc,v=.slice ae wn wc:=by rcases hv with ⟨_,rfl⟩|⟨_,_,_,rfl⟩<;>exact⟨_,_,_,rfl⟩
   refine zr<|zk 2<|zo w<|zc 0 f1<|am<|za U<|aB<|zr<|zf<|za U<|aV (GG b B s.nx (g+1+u) wn 0 (.agg (fq ⟨H,J,E,.slice F I cp,G⟩).toArray) ae wc) kq ?_;intro x2;have Rr:wn=p.length-u:=by
    rcases hv with ⟨_,e⟩|⟨h,_,_,e⟩
    .cases e;rfl
    .cases e;omega
   have aw:(σ.jp<|g+1+u).nodes=σ.nodes:=by unfold TS.jp TS.gH;split<;>rfl
   refine aF<|bn (bw (Q:=λe C V=>e=.exit 2/\BX V b ((σ.jp<|g+1+u).opens<|p.drop u)/\dJ b U V/\∃x,C=GG b B s.nx (g+1+u) wn wn (.agg (fq ⟨H,J,E,.slice F I cp,G⟩).toArray) ae wc x) (λm C V=>∃j,j+m=wn/\BX V b ((σ.jp<|g+1+u).opens<|(p.drop u).take j)/\dJ b U V/\∃x,C=GG b B s.nx (g+1+u) wn j (.agg (fq ⟨H,J,E,.slice F I cp,G⟩).toArray) ae wc x) ?_ wn _ _ ⟨0,by omega,by rw[List.take_zero];exact f2,dU _,x2,rfl⟩) ?_
   .rintro m C V ⟨j,b8,hX,hF,x3,rfl⟩;by_cases hm:0<m
    .rcases hv with ⟨a7,e⟩|⟨a7,_,_,e⟩
     .cases e;obtain⟨l,X⟩:∃l,p[u+j]?=some l:=⟨_,gE oq⟩;have⟨vl,W,z,O,K⟩:=aa (u+j) l X;have D:=au l<|mG X;obtain⟨q,hq⟩:∃q,l[0]?=some q:=by cases l with
       | nil=>exact absurd rfl D
       | cons q r=>exact⟨q,rfl⟩
      have b4:l.headD []=q:=by cases l with
       | nil=>exact absurd rfl D
       | cons y r=>cases hq;rfl
      have fV:=f3.trans hF;have aa9:=z.fr fV.1<|af.no z dq dq dq;have aba:gx V vl l:=K.fk fV.1 λx W fz hx=>af.no hx dq dq dq;obtain⟨hl9,dl,cl',fzl,rfl,hdl⟩:=aba;have R:(p.drop u).take (j+1)=(p.drop u).take j++[l]:=by rw[List.take_add_one,LA,X];rfl
      have b9:0<l.length:=HU.2 D;have⟨VU,YY,av2,V8,hX⟩:=hX;have⟨V2,g1,g2,g3⟩:=BB (M 223 dq) (M 217 dq) (M 232 dq) hX (nm:=q) (at_:=aO) (aY:=[]) (.inl ⟨rfl,rfl⟩) (KU.nil _ _) (by rw[zX,aw];simp;omega);refine zr<|zp (yb (num j) (num ((p.length-u:Nat):Int))<|bE (b:=true)<|tD oq)<|am<|za V<|aB<|zT<|aB<|aF<|zr<|zp (ta (b:=d) (off:=u) (n:=p.length-u) (cp:=p.length-u) (sp:=none) (k:=.i64) (j:=(j:Int)) (sz:=1) rfl underlying72 kq kq kq oq oq)<|zp (kO (b:=d) (off:=u+(j:Int).toNat*1) (v:=.slice (sq dl) l.length cl') rfl underlying62 rfl kq aa9.2<|by rw[yE,Nat.mul_one];exact O)<|zf<|za V<|zx<|zg 2 V<|zp (ta (b:=dl) (off:=0) (n:=l.length) (cp:=cl') (sp:=none) (k:=.i64) (j:=0) (sz:=1) rfl underlying62 kq kq kq oq oq)<|zp (kO (b:=dl) (off:=0+(0:Int).toNat*1) (v:=str q) rfl underlying9 rfl kq hdl.2<|by show(l.map str).toArray[0]?=_;simp[hq])<|zc 0 g1<|am<|za V2<|zx<|zp (yp (j:Int) 1 ((j+1:Nat):Int) oq oq)<|zf ?_;refine⟨m-1,by omega,j+1,by omega,?_,hF.trans g3,bu kq⟩;rw[R];unfold TS.opens at g2 |-;rw[List.foldl_append];show BX _ b (TS.open_ _ (l.headD []) []);rw[b4];exact g2
     .cases e;omega
    .obtain rfl:j=wn:=oq
     refine zr<|zp (yb (num j) (num j)<|bE (b:=false)<|fD oq)<|am<|za V<|aB<|zG<|aR ⟨rfl,?_,hF,bu kq⟩;grind
   .rintro e C V ⟨rfl,hX,hF,x3,rfl⟩;exact zs<|za V<|aD ⟨.inr rfl,kq,hX,(c2.trans f3).trans hF⟩
theorem HY{a:Option Value}{v:Value}{l:List (Option Value × Value)}(g:a=some v)(b:∀x∈l,x.1=some x.2/\bQ 20 x.2=true)(h:bQ 20 v=true:=by rfl):∀x∈(a,v)::l,x.1=some x.2/\bQ 20 x.2=true:=λx c=>gq
def ldz:∀x∈([]:List (Option Value × Value)),x.1=some x.2/\bQ 20 x.2=true:=λx a=>by simp at a
theorem zQ(h:l[i]?=some x)(w:Value):putAt (bN l) (i*5+4) [w]=bN (l.set i { x with bC:=w }):=by
 apply Array.ext_getElem?;intro k;have key:∀(l:List bH) (i k:Nat),l[i]?=some x->((l.flatMap bH.cells).set (i*5+4) w)=(l.set i { x with bC:=w }).flatMap bH.cells:=by
  intro l;induction l with
  | nil=>intro i k h;simp at h
  | cons y l ih =>
   intro i k h;match i with
   | 0=>simp at h;subst h;rfl
   | i+1 =>have:=ih i k (by simpa using h);rw[show(i+1)*5+4=(i*5+4)+5 by omega];show _::_::_::_::_::((l.flatMap bH.cells).set (i*5+4) w)=_;rw[this];rfl
 have hp:putAt (bN l) (i*5+4) [w]=((l.flatMap bH.cells).set (i*5+4) w).toArray:=by
  unfold putAt;have mH:i*5+4<(l.flatMap bH.cells).length:=by have h1:=od l;grind
  rw[List.set_eq_take_append_cons_drop,ip mH];simp
 rw[hp,key l i k h]
section
variable {us:List Nd}
def zO:∀{xs:List bH},(∀x∈xs,x.bC.oneCell'=true)->(xs.flatMap bH.cells).all Value.oneCell'=true
 | [],_=>rfl
 | x::xs,h=>by have:=zO (xs:=xs) λy a=>h y (by simp[a]);rw[List.flatMap_cons,List.all_append,this];have h1:=h x iq;show((true&&(true&&(true&&(true&&(x.bC.oneCell'&&true)))))&&true)=true;rw[h1];rfl
def CL{b d n:Nat}(h:d<b):ej (.slice (sq b) n k) (sq d)=true:=by
 show(!Nat.beq b d)=true;cases hq:Nat.beq b d with
 | true=>have:=iC hq;omega
 | false=>rfl
theorem Lu(U:pr 41=none)(l:nR s v xs)(w:xs.length<=400000000)(y:0<xs.length)(p:∀x∈xs,x.bC.oneCell'=true):∃f d,Ef pr 41 #[v] s (.slice (sq d) xs.length xs.length) f/\Has f d (.cells (bN xs) 44 (1,1))/\cL (λ_=>False) s f/\s.nx<=d:=by obtain⟨j,q,t,rfl,g⟩:=l.old;have i:=od xs;have r:=aI s<|.cells #[] 44;have c:=g.add<|.cells #[] 44;have a:=im (P:=prog) (news:=xs.flatMap bH.cells) (m:=xs.length) (n:=0) (k:=0) (sz:=5) oq r.2 kq iq oq;rw[Nat.zero_add] at a;have o:cL (λ_=>False) s (((s.add<|.cells #[] 44).set s.nx none).add<|.cells (bN xs) 44 (1,1)):=(((aE s).add _).set (λh=>oq) _).add _;have b:=aI ((s.add<|.cells #[] 44).set s.nx none)<|.cells (bN xs) 44 (1,1);exact⟨_,(s.add<|.cells #[] 44).nx,aH U func41 O<|zs<|aB<|zr<|zf<|za s<|zF<|zr<|zg 2 _<|zp (iG (k:=q) (sz:=5) (z:=R3) (bytes:=72) O kq kq underlying38 kq O dq dq kq c.2 (CL g.1) oq gq gq (zO p) a)<|zf yR,b,o,iq⟩
theorem Lt(U:pr 42=none){l:kH}(u:dI s v l)(C:l.length<=400000000):∃b w,Ef pr 42 #[v] s w b/\dI b w l/\cL (λ_=>False) s b:=by
 rcases u with ⟨rfl,rfl⟩|⟨d0,k0,fz,rfl,a0,hd⟩
 .exact⟨s,aO,aH U func42 O<|zs<|aB<|zr<|zf<|za s<|zH<|zs<|aD ⟨.inr O,kq,kq⟩,.inl ⟨O,O⟩,aE s⟩
 .have A:=qW l;have o:=aI s<|.cells #[] 47;have g:=Has.add ⟨a0,hd⟩<|.cells #[] 47;have i:=CL (n:=0) (k:=0) a0;obtain⟨b,w,a,y,x,j⟩:∃b w,ce prog 47 (.slice (sq s.nx) 0 0) (iW l).toList l.length _=some (w,b)/\dI b w l/\cL (λ_=>False) s b/\∃p q,w=.slice p l.length q:=by
   by_cases r:l=[]
   .subst r;exact⟨_,_,yW<|.inr ⟨_,_,_,O⟩,.inr ⟨_,_,_,O,o.1,o.2⟩,(aE s).add _,_,_,O⟩
   .have t:l.length≠0:=λe=>r<|List.length_eq_zero_iff.1 e;have a:=im (P:=prog) (news:=(iW l).toList) (n:=0) (k:=0) (sz:=2) t o.2 kq iq oq;rw[Nat.zero_add] at a;have c:=aI ((s.add<|.cells #[] 47).set s.nx none)<|.cells (iW l) 47 (1,1);exact⟨_,_,a,.inr ⟨_,_,_,O,c.1,c.2⟩,(((aE s).add _).set (λh=>oq) _).add _,_,_,O⟩
  obtain⟨p,q,rfl⟩:=j;refine⟨b,_,?_,y,x⟩;have f:(iW l).toList.all Value.oneCell'=true:=by
   induction l with
   | nil=>rfl
   | cons x l a=>simp[Value.oneCell'] at a |-
  exact aH U func42 O<|zs<|aB<|zr<|zf<|za s<|zF<|zr<|zg 2 _<|zp (iG (k:=k0) (sz:=2) (z:=.agg #[str [],str []]) (bytes:=32) O kq kq underlying42 kq O dq dq kq g.2 i oq gq gq f a)<|zf<|aD ⟨.inr O,kq,kq⟩
def UW (B:Value)(v:Value)(n i:Nat)(x:Nq):TL:=[B,x 1,aO,v,x 4,x 5,x 6,x 7,x 8,x 9,v,num n,num i]++gG x 13 14
def fK.one(h:fK s xs us):∀x∈xs,x.bC.oneCell'=true:=λx c=>by
 have⟨i,b⟩:=List.mem_iff_getElem?.1 c;have a:i<us.length:=by rw[<-h.1];exact(gS.1 b).1
 have⟨d,f,e⟩:=(h.2 i x _ b<|gE a).2.2.2.2.len;rw[e];rfl
theorem PE(a8:pr 23=none)(a9:pr 41=none)(aa:pr 42=none)(hB:Has s B (.cells #[v] 82))(hA:nR s v xs)(t:fK s xs us)(hu:∀u∈us,u.bC.length<=400000000)(hn:us.length<=400000000)(hp:0<us.length):∃M w ys,Ef pr 23 #[aC B 0] s w M/\nR M w ys/\fK M ys us/\cL (λ_=>False) s M:=by
 suffices h:Ew pr (match f23.body with|some c=>c|none=>.skip) ((#[aC B 0]:Aq).toList++List.replicate (f23.ntmps-(#[aC B 0]:Aq).toList.length) undef) s (λe p g=>(e=.normal\/e=.ret)/\∃w ys,di prog f23 p g=some w/\nR g w ys/\fK g ys us/\cL (λ_=>False) s g) by have⟨m,e,p,g,h1,he,w,ys,h2,h3⟩:=h;exact⟨g,w,ys,aH a8 func23 rfl ⟨m,e,p,g,h1,he,h2,rfl⟩,h3⟩
 have⟨S,d,c1,c2,c3,c4⟩:=Lu a9 hA (by rw[t.1];exact hn) (by rw[t.1];exact hp) t.one;have W:fK S xs us:=t.fk c3 λ_ _ _ _=>id;obtain⟨d0,k0,f0,rfl,hd0⟩:=hA.old;rw[t.1] at hB c1;generalize hN:us.length=N at *;refine zs<|zr<|zg 3 s<|zp (yl B 0 (.slice (sq d0) N k0) hB.2)<|zc 0 c1<|zf<|za S<|aB<|zr<|zf<|aV (UW (aC B 0) (.slice (sq d) N N) N 0) kq ?_;intro x0;refine za S<|aF<|bn (bw (Q:=λe p g=>e=.exit 0/\(∃ys,ys.length=N/\Has g d (.cells (bN ys) 44 (1,1))/\fK g ys us)/\cL (λ_=>False) s g/\∃x,p=UW (aC B 0) (.slice (sq d) N N) N N x) (λm p g=>∃i,i+m=N/\(∃ys,ys.length=N/\Has g d (.cells (bN ys) 44 (1,1))/\fK g ys us)/\cL (λ_=>False) s g/\∃x,p=UW (aC B 0) (.slice (sq d) N N) N i x) ?_ N _ _ ⟨0,oq,⟨xs,by rw[t.1,hN],c2,W⟩,c3,x0,rfl⟩) ?_
 .rintro m p U ⟨i,ae,⟨ys,C,A,D⟩,J,x,rfl⟩;by_cases hi:i<N
  .have T:us[i]?=some us[i]:=gE oq;have G:=hu us[i] (zB _);generalize us[i]=u at T G;have L:ys[i]?=some ys[i]:=gE oq;generalize ys[i]=Y at L;have I:=D.2 i Y u L T;have tY:=I.2.2.2.2;have⟨V,w,q1,X,Z⟩:=Lt aa tY G;have a4:(bN ys)[i*5+4]?=some Y.bC:=by rw[eu L 4 dq];rfl
   have⟨ad,cp,e1⟩:=tY.len;rw[e1] at a4 q1;have⟨a,f,e2⟩:=X.len;subst e2;have o:=A.fr Z id;have H:fK V ys us:=D.fk Z λ_ _ _ _=>id;have F:=zQ L<|.slice a u.bC.length f;generalize hnA:u.bC.length=q at *;have r1:Has _ d (.cells (bN<|ys.set i { Y with bC:=.slice a q f }) 44 (1,1)):=o.put _;have O:cL (λx=>x=d) V (V.set d<|some<|.cells (bN<|ys.set i { Y with bC:=.slice a q f }) 44 (1,1)):=aL (K:=λx=>x=d) (aE V) (λ_=>rfl) _;have r2:fK (V.set d<|some<|.cells (bN<|ys.set i { Y with bC:=.slice a q f }) 44 (1,1)) (ys.set i { Y with bC:=.slice a q f }) us:=by
    refine⟨by rw[List.length_set,C,hN],λj y u' l P=>?_⟩;have E:∀x cs R,Has V x (.cells cs 47 R)->¬x=d:=λx cs R hx=>hx.ne o dq;rw[List.getElem?_set] at l;split at l
    .next e =>
     subst e;split at l
     .cases l;rw[T] at P;cases P;refine⟨I.1,I.2.1,I.2.2.1,I.2.2.2.1,X.fk O λy l=>?_⟩;rcases X with ⟨z,_⟩|⟨ab,c,R,z,z1,z2⟩
      .rw[z] at l;exact(cw l).elim
      .rw[z] at l;rw[dk l];exact E _ _ _ ⟨z1,z2⟩
     .cases l
    .exact(H.fk O E).2 j y u' l P
   refine zr<|zp (bz (u:=num i) (w:=num N) rfl kq kq<|bE (b:=true)<|tD oq)<|am<|aB<|zT<|aB<|aF<|za U<|zs<|za U<|zx<|zk 4<|zp (Bw (b:=d) (off:=0) (n:=N) (cp:=N) (k:=i*5) (sp:=none) (kd:=.i64) (j:=(i:Nat)) (sz:=5) rfl underlying38 kq kq kq oq oq oq)<|zg 1 U<|zp (yl d (i*5+4) (.slice ad q cp) A.2 (i:=a4))<|zc 0 q1<|zp (Bw (b:=d) (off:=0) (n:=N) (cp:=N) (k:=i*5) (sp:=none) (kd:=.i64) (j:=(i:Nat)) (sz:=5) rfl underlying38 kq kq kq oq oq oq)<|zg 1 V<|zp (iH (b:=d) (off:=i*5+4) (w:=.slice a q f) rfl kq kq rfl rfl kq o.2 gq)<|am<|za (V.set d<|some<|.cells (putAt (bN ys) (i*5+4) [.slice a q f]) 44 (1,1)) ?_;rw[F];refine zx<|zp (jY (i:=(i:Nat)) (j:=1) (r:=((i+1:Nat):Int)) rfl kq kq oq oq)<|zf ⟨m-1,oq,i+1,oq,⟨_,by rw[List.length_set,C],r1,r2⟩,(J.trans Z λ_ _ z=>z).trans O<|λy l z=>oq,bu kq⟩
  .obtain rfl:i=N:=oq
   exact zr<|zp (bz (u:=num i) (w:=num i) rfl kq kq<|bE (b:=false)<|fD oq)<|am<|za U<|aB<|zG<|aR ⟨rfl,⟨ys,C,A,D⟩,J,bu kq⟩
 .rintro e p U ⟨rfl,⟨ys,C,A,D⟩,J,x,rfl⟩;exact zs<|aD ⟨.inr rfl,_,ys,kq,⟨d,0,(1,1),by rw[C,Nat.add_zero],A⟩,D,J⟩
end
def Ia:List FuncId:=[321,322,364]
def Qb(a:pr 321=none)(b:Has s B (fy nm vl)):Ef pr 321 #[.agg #[str n1,str v1],aC B 0] s (.bool<|cZ n1 nm) (s.add<|fy n1 v1):=by have h1:=aI s<|fy n1 v1;have h2:=b.add<|fy n1 v1;refine aH a func321 O<|zs<|za (s.add<|fy n1 v1) ?_;generalize d:s.add _=S at h1 h2 |-;refine zr<|zg 1 S<|zp (yl s.nx 0 _ h1.2)<|zg 1 S<|zp (yl B 0 _ h2.2)<|zp (yb (str n1) (str nm)<|lw O) ?_;exact zf yR
abbrev De(B:Nat):Value:=.func (.func 321) #[] #[aC B 0]
def GK(av:Value)(B n i:Nat)(x:Nq):TL:=[av,De B,x 2,x 3,num 0,x 5,av,num n,num i]++gG x 9 10
theorem TO(F:∀f,f∈Ia->pr f=none)(M:Has s B (fy nm vl))(G:dI s av aY)(T:aY.length<=100000):∃a j,Ef pr 364 #[av,De B] s (num j) a/\cL (λ_=>False) s a/\decide (j>=0)=aY.any λp=>cZ p.1 nm:=by
 have⟨u,v,J⟩:=G.len;suffices h:Ew pr (match f364.body with|some c=>c|none=>.skip) ((#[av,De B]:Aq).toList++List.replicate (f364.ntmps-(#[av,De B]:Aq).toList.length) undef) s (λe U d=>(e=.normal\/e=.ret)/\cL (λ_=>False) s d/\∃j,di prog f364 U d=some (num j)/\decide (j>=0)=aY.any λp=>cZ p.1 nm) by have⟨m,e,U,d,h1,N,h2,j,h3,L⟩:=h;exact⟨d,j,aH (F 364 dq) func364 Y ⟨m,e,U,d,h1,N,h3,Y⟩,h2,L⟩
 subst J;refine zs<|za s<|aB<|zs<|za s<|aV (GK (.slice u aY.length v) B aY.length 0) kq ?_;intro R;generalize W:aY.length=n at *;refine aF<|bn (bw (Q:=λe U d=>(e=.exit 0/\cL (λ_=>False) s d/\((aY.any λp=>cZ p.1 nm)=false)/\∃x,U=GK (.slice u n v) B n n x)\/(e=.ret/\cL (λ_=>False) s d/\∃j,di prog f364 U d=some (num j)/\decide (j>=0)=aY.any λp=>cZ p.1 nm)) (λm U a=>∃i,i+m=n/\cL (λ_=>False) s a/\((aY.take i).any λp=>cZ p.1 nm)=false/\∃x,U=GK (.slice u n v) B n i x) ?_ n _ _ ⟨0,oq,aE s,Y,R,Y⟩) ?_
 .rintro m U a ⟨i,S,k,D,x,rfl⟩;by_cases V:0<m
  .have t:i<aY.length:=oq
   have H:=gE t;have⟨w,l⟩:=vP H;have A:aY.take (i+1)=aY.take i++[aY[i]]:=by simp_all
   have C:=zB t;generalize aY[i]=P at H l A C;have⟨n1,v1⟩:=P;obtain⟨g,y,rfl,X,O⟩:∃g y,u=some ⟨g,0,none⟩/\g<a.nx/\a.get g=some (.cells (iW aY) 47 y):=by
    have:=G.fk k<|λ_ _=>id;rcases this with ⟨_,z⟩|⟨g,cq,y,z1,z2,z3⟩
    .rw[z] at t;simp at t
    .grind
   have I:=M.fr k id;have b:=Qb (F 321 dq) (n1:=n1) (v1:=v1) I;have q:cL (λ_=>False) s (a.add<|fy n1 v1):=k.add _;have o:(aY.take<|i+1).any (λp=>cZ p.1 nm)=cZ n1 nm:=gq
   have E:cZ n1 nm=true->(aY.any λp=>cZ p.1 nm)=true:=λh=>List.any_eq_true.2 ⟨_,C,h⟩;generalize cZ n1 nm=K at b o E;refine zr<|zp (yb (num i) (num n)<|bE<|tD oq)<|am<|aB<|zT<|aB<|aF<|zs<|za a<|zr<|zg 3 a<|zp (yi g 0 n v (i*2) none .i64 (i:Nat) 2 oq oq oq)<|zo a<|zp (jq Y underlying47 Y kq kq O w l)<|yc #[] #[aC B 0] b<|am<|za (a.add<|fy n1 v1) ?_;cases K with
   | true =>exact zH<|zs<|aD<|.inr ⟨Y,q,(i:Nat),kq,by rw[E Y];exact tD oq⟩
   | false =>exact zF<|zx<|zp (yp i 1 ((i+1:Nat):Int) oq oq)<|zf ⟨m-1,oq,i+1,oq,q,o,bu kq⟩
  .obtain rfl:i=n:=oq
   rw[tL oq] at D;exact zr<|zp (yb (num i) (num i)<|bE<|fD oq)<|am<|aB<|zG<|aR<|.inl ⟨Y,k,D,bu kq⟩
 .rintro e U a (⟨rfl,k,h1,x,rfl⟩|⟨rfl,h⟩)
  .exact zs<|aD ⟨.inr Y,k,-1,kq,by rw[h1];rfl⟩
  .exact⟨.inr Y,h⟩
def Tg(a:∀f,f∈Ia->pr f=none)(c:Has s B (fy nm vl))(d:dI s av aY)(e:aY.length<=100000):∃b,Ef pr 322 #[av,De B] s (.bool<|aY.any λp=>cZ p.1 nm) b/\cL (λ_=>False) s b:=by have⟨b,j,h1,h2,h3⟩:=TO a c d e;refine⟨b,aH (a 322 dq) func322 O<|zs<|zr<|zc 2 h1<|zp (yb _ _<|fQ h3) ?_,h2⟩;exact zf yR
def TS.j8(σ:TS)(k:Nat)(aY:kH):TS:={ σ with nodes:=σ.nodes.set k { σ.mA k with bC:=aY } }
def TS.give(σ:TS)(i:Nat)(aY:kH):TS:=σ.j8 (σ.row.getD i 0)<|aY.foldl fc (σ.mA<|σ.row.getD i 0).bC
def jU(h:σ.nodes[k]?=some u):σ.mA k=u:=by unfold TS.mA;rw[Dj,h];rfl
theorem xI(h:σ.nodes[k]?=some u)(a:kH):(σ.j8 k a).nodes[k]?=some { u with bC:=a }:=by unfold TS.j8;rw[jU h];grind
def Kk(h:σ.nodes[k]?=some u)(a b:kH):(σ.j8 k a).j8 k b=σ.j8 k b:=by have h1:=jU<|xI h a;unfold TS.j8 at h1 |-;rw[h1];simp[List.set_set,jU h]
def Kj(h:σ.nodes[k]?=some u):σ.j8 k u.bC=σ:=by
 unfold TS.j8;rw[jU h];have a:=gS.1 h;have:σ.nodes.set k u=σ.nodes:=by have⟨h1,h2⟩:=a;rw[<-h2];exact List.set_getElem_self h1
 rw[this]
theorem BT.more(h:BT s b nv rv av xs σ)(hk:σ.nodes[k]?=some u)(hHB:jR u.name=true)(a:Bq × Bq)(hl:u.bC.length<=100000) :
  ∃nd nc nf x w U,nv=.slice (sq nd) σ.nodes.length nc/\xs[k]?=some x/\Has s nd (.cells (bN xs) 44 nf)/\dI s x.bC u.bC/\ce prog 47 x.bC [str a.1,str a.2] 1 s=some (w,U)/\w.cells=#[w]/\w.oneCell'=true/\Has U nd (.cells (bN xs) 44 nf)/\(bN xs)[k*5+4]?=some x.bC /\
   BT (U.set nd<|some<|.cells (putAt (bN xs) (k*5+4) [w]) 44 nf) b nv rv av (xs.set k { x with bC:=w }) (σ.j8 k<|u.bC++[a])/\dJ b s (U.set nd<|some<|.cells (putAt (bN xs) (k*5+4) [w]) 44 nf):=by
 have⟨nd,nc,nf,x,O4,O2,hx,hm,Tn⟩:=h.node hk;have hxa:=hm.2.2.2.2;have Jy:jR x.name=true:=by rw[hm.2.2.1];exact hHB
 have⟨w,U,e1,e2,e3,e4,e5,e6⟩:=RE hxa a hl;have XG:∀y,blk x.bC y->b<y:=λy hy=>by
  rcases h.sp.1 k x y hx hy with z|z
  .grind
  .exact z.1
 have h47:∀y,blk x.bC y->∃cs fz,Has s y (.cells cs 47 fz):=λy hy=>by
  rcases hxa with ⟨z,_⟩|⟨d,c,fz,z,q1,q2⟩
  .rw[z] at hy;exact(cw hy).elim
  .rw[z] at hy;rw[dk hy];exact⟨_,_,q1,q2⟩
 have eo:∀{y:Nat} {cs:Aq} {t:TypeId} {fz:Nat × Nat},Has s y (.cells cs t fz)->t≠47->¬blk x.bC y:=λhy ht z=>by have⟨_,_,z⟩:=h47 _ z;exact hy.ne z ht O
 have c0:(bN xs)[k*5+4]?=some x.bC:=by rw[eu hx 4 dq];rfl
 have d1:=O2.fr e5<|eo O2 dq;have db:=h.b.fr e5<|eo h.b dq;have w6:cL (λy=>y=nd) U (U.set nd<|some<|.cells (putAt (bN xs) (k*5+4) [w]) 44 nf):=aL (K:=λy=>y=nd) (aE U) (λ_=>O) _;have O3:∀{y:Nat} {cs:Aq} {t:TypeId} {fz:Nat × Nat},Has U y (.cells cs t fz)->t≠44->y≠nd:=λhy ht=>hy.ne d1 ht;have g1:=db.fr w6<|O3 db dq;have dr:=h.r.fk e5 λy hy=>by have⟨_,_,z⟩:=h.r.blk hy;exact eo z dq
 have da:=h.a.fk e5 λy hy=>by have⟨_,_,z⟩:=h.a.blk hy;exact eo z dq
 have gr:=dr.fk w6 λy hy=>by have⟨_,_,z⟩:=dr.blk hy;exact O3 z dq
 have ga:=da.fk w6 λy hy=>by have⟨_,_,z⟩:=da.blk hy;exact O3 z dq
 have abw:=zQ hx w;have uV:b<s.nx:=h.b.1;have hw:=e6;have gw:=e4.fk w6 λy hy z=>by have:=hw y hy;have:=O2.1;omega
 have hsk:σ.j8 k (u.bC++[a])={ σ with nodes:=σ.nodes.set k { u with bC:=u.bC++[a] } }:=by unfold TS.j8;rw[jU hk]
 have TJ:k<xs.length:=(gS.1 hx).1;refine⟨nd,nc,nf,x,w,U,O4,hx,O2,hxa,e1,e2,e3,d1,c0,?_,?_⟩
 .rw[hsk];refine⟨?_,g1,?_,?_,gr,ga,h.ra,λq hq=>?_,λq hq=>?_,h.ne,?_⟩
  .
   have key:∀(i:Nat) (z:bH),(xs.set k { x with bC:=w })[i]?=some z->(i≠k/\xs[i]?=some z)\/(i=k/\z={ x with bC:=w }):=λi z hz=>gq
   have mH:∀(i:Nat) (z:bH) (y:Nat),xs[i]?=some z->blk z.bC y->y<s.nx:=λi z y hz hy=>by
    have hi:i<σ.nodes.length:=by rw[<-h.m.1];exact(gS.1 hz).1
    exact(h.m.2 i z _ hz<|gE hi).2.2.2.2.lt y hy
   refine⟨λi z y hz hy=>?_,λi j z z' y hz hz' hb hy KH=>?_⟩
   .rcases key i z hz with ⟨_,q⟩|⟨_,rfl⟩
    .exact h.sp.1 i z y q hy
    .grind
   .rcases key i z hz with ⟨_,q⟩|⟨rfl,rfl⟩
    .rcases key j z' hz' with ⟨_,q'⟩|⟨rfl,rfl⟩
     .exact h.sp.2 i j z z' y q q' hb hy KH
     .grind
    .grind
  .refine⟨nd,(h.n.cap O4).choose,nf,by rw[List.length_set,<-(h.n.cap O4).choose_spec,h.m.1];exact O4,?_⟩;rw[abw];exact d1.put _
  .refine⟨by rw[List.length_set,List.length_set];exact h.m.1,λi z v hz hv=>?_⟩;rw[List.getElem?_set] at hz hv;by_cases hi:k=i
   .subst hi;rw[ip O,ip TJ] at hz;rw[ip O,ip Tn] at hv;cases hz;cases hv;exact⟨hm.1,hm.2.1,hm.2.2.1,hm.2.2.2.1,gw⟩
   .rw[iw hi] at hz hv;have⟨q1,q2,q3,q4,q5⟩:=h.m.2 i z v hz hv;refine⟨q1,q2,q3,q4,?_⟩;have r1:=q5.fk e5 λy hy KH=>hi<|h.sp.2 k i x z y hx hz (XG y KH) KH hy;refine r1.fk w6 λy hy=>?_;rcases r1 with ⟨e,_⟩|⟨d,c,fz,e,p1,p2⟩
    .rw[e] at hy;exact(cw hy).elim
    .rw[e] at hy;rw[dk hy];exact O3 (⟨p1,p2⟩:Has U d _) dq
  .have:=h.lt q hq;simpa using this
  .have:=h.la q hq;simpa using this
  .have:=h.sz;simpa using this
 .refine eY h.b g1 ((e5.mono λy _ z=>?_).trans w6 λy hy z=>?_) (.inl O) (.inl λ_ z=>z)<|.inl λ_ z=>z
  .have⟨cs,fz,q⟩:=h47 y z;exact(gT h.b.2).2 (i3<|.inr ⟨XG y z,cs,fz,q.2⟩)
  .exact(gT h.b.2).2 (.inr<|.inl<|by rw[z,O4];exact eg _ _ _)
def ti(b i nd k n j:Nat)(ad:Option Addr)(cp:Nat)(x:Nq):TL:=[aC b 0,num i,.slice ad n cp,x 3,x 4,x 5,aC nd<|k*5]++gG x 7 15++[.slice ad n cp,num n,num j]++gG x 25 30
theorem SZ(aj:pr 225=none)(aw:∀f,f∈Ia->pr f=none)(h:BX s b σ)(hi:i<σ.row.length)(a7:jR (σ.mA<|σ.row.getD i 0).name=true)(a8:(σ.mA<|σ.row.getD i 0).bC.length<=100000){ad:Option Addr}(ha:dI s (.slice ad aY.length cp) aY)(au:∀y,blk (.slice ad aY.length cp) y->y<b)(ay:aY.length<=100000):∃s',Ef pr 225 #[aC b 0,num i,.slice ad aY.length cp] s (.tuple #[]) s'/\BX s' b (σ.give i aY)/\dJ b s s':=by
 have⟨nv,rv,av,xs,h⟩:=h;have V:σ.row[i]?=some σ.row[i]:=gE hi;have hrg:σ.row.getD i 0=σ.row[i]:=by rw[Dj,V];rfl
 unfold TS.give;rw[hrg] at a7 a8 |-;clear hrg;have ak:=h.lt _<|zB hi;generalize σ.row[i]=k at V ak a7 a8 |-;have C:σ.nodes[k]?=some σ.nodes[k]:=gE ak;generalize σ.nodes[k]=u at C;rw[jU C] at a7 a8 |-;have⟨l,nc,nf,x,W,O2,hx,hm,Tn⟩:=h.node C;have⟨rd,rc,cs,rf,hrv,O6,Jz,ER,Rm⟩:=h.r.at V;have hb:=h.b;rw[W,hrv] at hb;have l1:=gW 38 hb.2 (off:=0) rfl;have l2:=gW 25 hb.2 (off:=1) rfl;have l3:=gW 3 Jz.2 ER;clear hm hx;generalize hN:σ.nodes.length=N at *;generalize hR:σ.row.length=R at *;generalize hn:aY.length=n at *;refine aX aj func225 rfl<|aB<|aP kq kq kq<|zq<|zq<|zq<|zt s<|zu (yl b 0 (.slice (sq l) N nc) hb.2)<|zq<|zq<|zq<|zt s<|zu (yl b 1 (.slice (sq rd) R rc) hb.2)<|zq<|zu (yi rd 0 R rc i none .i64 (i:Nat) 1 oq oq oq)<|zt s<|zu (yl rd i (num k) Jz.2 (i:=ER))<|zu (yi l 0 N nc (k*5) none .i64 (k:Nat) 5 oq oq oq)<|zq<|bq ⟨kN<|vD l1 l2 l3,_,_,_,_,_,_,rfl,rfl,za s<|zs<|za s<|aV (ti b i l k n 0 ad cp) kq ?_⟩;intro x0;refine aF<|bn (bw (Q:=λe H S=>e=.exit 0/\BX S b (σ.j8 k<|aY.foldl fc u.bC)/\dJ b s S/\∃x,H=ti b i l k n n ad cp x) (λm H S=>∃j,j+m=n/\(∃K,BT S b nv rv av K<|σ.j8 k<|(aY.take j).foldl fc u.bC)/\((aY.take j).foldl fc u.bC).length<=100000/\dJ b s S/\∃x,H=ti b i l k n j ad cp x) ?_ n _ _ ⟨0,oq,⟨xs,by rw[List.take_zero];show BT s b nv rv av xs (σ.j8 k u.bC);rw[Kj C];exact h⟩,by rw[List.take_zero];exact a8,dU _,x0,rfl⟩) ?_
 .rintro m H S ⟨j,ax,⟨K,hB⟩,a4,T,x1,rfl⟩;by_cases hm:0<m
  .have aa:j<aY.length:=oq
   have ae:aY[j]?=some aY[j]:=gE aa;have O7:aY.take (j+1)=aY.take j++[aY[j]]:=by rw[List.take_add_one,ae];rfl
   have⟨aq,ag⟩:=vP ae;generalize aY[j]=p at ae O7 ag;have⟨a,g⟩:=p;have E:(aY.take<|j+1).foldl fc u.bC=fc ((aY.take j).foldl fc u.bC) (a,g):=by rw[O7,List.foldl_append];rfl
   have ar:dI S (.slice ad n cp) aY:=ha.fb au ⟨_,_,_,_,h⟩ T;obtain⟨B,fz,hab,q1,q2⟩:∃B fz,ad=some ⟨B,0,none⟩/\B<S.nx/\S.get B=some (.cells (iW aY) 47 fz):=by
    rcases ar with ⟨_,z⟩|⟨B,cq,fz,z1,z2,z3⟩
    .rw[z] at aa;simp at aa
    .grind
   subst hab;have al:=xI C<|(aY.take j).foldl fc u.bC;generalize hA:(aY.take j).foldl fc u.bC=A at *;have z1:(S.add<|.cells #[str [],str []] 47).get S.nx=some (.cells #[str [],str []] 47):=by rw[AS.aZ,ip rfl]
   have z2:(S.add<|.cells #[str [],str []] 47).set S.nx (some<|fy a g)=S.add (fy a g):=AS.set_set (⟨S.hp,S.nx+1⟩:AS) S.nx (some<|.cells #[str [],str []] 47)<|some<|fy a g;have b1:=hB.add<|fy a g;have b2:=c9 hB<|fy a g;have b3:=aI S<|fy a g;generalize WY:S.add (fy a g)=G at *;have⟨nd1,nc1,nf1,y,a5,F,hy,hmy,abh⟩:=b1.node al;have VS:(σ.j8 k A).nodes.length=N:=by unfold TS.j8;simp[hN]
   rw[VS] at a5 abh;rw[W] at a5;cases a5;have X:dI G y.bC A:=hmy.2.2.2.2;have c0:(bN K)[k*5+4]?=some y.bC:=by rw[eu hy 4 dq];rfl
   have⟨L,M,ao⟩:=X.len;rw[ao] at c0 X;have⟨D,k1,k2⟩:=Tg (pr:=pr) aw b3 X a4;refine zr<|zp (yb (num j) (num n)<|bE (b:=true)<|tD oq)<|am<|za S<|aB<|zT<|aB<|aF<|zr<|zp (yi B 0 n cp (j*2) none .i64 (j:Nat) 2 oq oq oq)<|zo S<|zp (jq (b:=B) (off:=j*2) (n:=2) (r:=#[str a,str g]) rfl underlying47 rfl kq kq q2 aq ag)<|zg 1 (S.add<|.cells #[str [],str []] 47)<|zp (eX (b:=S.nx) (off:=0) (w:=.agg #[str a,str g]) (ws:=[str a,str g]) rfl kq kq rfl rfl kq z1<|by show 0+2<=2;decide)<|am<|za ((S.add<|.cells #[str [],str []] 47).set S.nx<|some<|fy a g) ?_;rw[z2];refine zs<|za G<|zr<|zg 3 G<|zp (yl l (k*5+4) (.slice L A.length M) F.2 (i:=c0))<|zk 1 ?_;have o:∀(S':AS) (af:List bH) (J:Nq),BT S' b nv rv av af (σ.j8 k<|fc A (a,g))->dJ b s S'->Ew pr (match f225.body with|some (.seq _<|.seq _<|.block _<|.loop<|.seq _<|.seq _<|.seq _ c)=>c|_=>.skip) (ti b i l k n j (sq B) cp J) S' (λe H S=>match e with|.normal=>∃m',m'<m/\∃j,j+m'=n/\(∃K,BT S b nv rv av K<|σ.j8 k<|(aY.take j).foldl fc u.bC)/\((aY.take j).foldl fc u.bC).length<=100000/\dJ b s S/\∃x,H=ti b i l k n j (sq B) cp x|e=>e=.exit 0/\BX S b (σ.j8 k<|aY.foldl fc u.bC)/\dJ b s S/\∃x,H=ti b i l k n n (sq B) cp x):=by intro S' af J hT' VG;exact zx<|zp (yp (j:Int) 1 ((j+1:Nat):Int) oq oq)<|zf ⟨m-1,oq,j+1,oq,⟨af,by rw[E];exact hT'⟩,by rw[E];unfold fc;grind,VG,bu kq⟩
   by_cases ai:A.length<20
   .refine zp (yb (num A.length) (num 20)<|bE (b:=true)<|tD oq)<|zg 4 G<|zp (yl l (k*5+4) (.slice L A.length M) F.2 (i:=c0))<|zk 1<|zo G<|zc 0 k1 ?_;have a9:=b1.fk k2 λ_ _ _ _ _ z=>z.elim;have Y:dJ b G D:=(BX.fk (σ:=σ.j8 k A) ⟨_,_,_,_,b1⟩ k2).2;cases WU:A.any λp=>cZ p.1 a with
    | true =>
     have hg:fc A (a,g)=A:=by unfold fc;rw[iw (by simp only[WU];simp)]
     refine zf<|za D<|zF<|aV (ti b i l k n j (sq B) cp) kq ?_;intro J;exact o D _ J (by rw[hg];exact a9)<|(T.trans b2).trans Y
    | false =>
     have hg:fc A (a,g)=A++[(a,g)]:=by unfold fc;rw[ip (by simp only[WU];simp[ai])]
     have ah:=b3.fr k2 id;have c1:=a9.add<|fy a g;have c2:=c9 a9<|fy a g;have c5:=aI D<|fy a g;have⟨nd2,nc2,nf2,y2,w,U,f1,f2,f3,f4,f5,f6,f7,f8,f9,Z,f11⟩:=c1.more al (by exact a7) (a,g) a4;rw[VS,W] at f1;cases f1;rw[hy] at f2;cases f2;rw[ao] at f4 f5 f9;have I:=F.fr k2 id;have O:(bN K)[k*5+4]?=some (.slice L A.length M):=c0;have l4:=gW 42 I.2 O;have l5:bV prog 47 (aC S.nx 0) D=some (.agg #[str a,str g]):=fX (n:=2) underlying47 rfl kq ah.2 iq;have W7:ej (.slice L A.length M) (sq D.nx)=true:=jc λy hy=>by have:=X.lt y hy;have:=k2.1;omega
     rw[Kk C] at Z;refine zf<|za D<|zH<|aP kq kq kq<|zq<|zq<|zq<|zq<|zt D<|zu (yl l (k*5+4) (.slice L A.length M) I.2 (i:=O))<|zu (yA S.nx 0 2 #[str a,str g] ah.2 iq)<|zq<|zt (D.add<|fy a g)<|zu (iG (sl:=.slice L A.length M) (news:=[str a,str g]) (d:=D.nx) (m:=1) (k:=1) (sz:=2) (z:=.agg #[str [],str []]) (bytes:=32) rfl kq kq underlying42 kq rfl dq dq kq c5.2 W7 dq iq iq rfl f5)<|zq<|zq<|zt U<|zu (iH (b:=l) (off:=k*5+4) (w:=w) rfl kq kq f6 f7 kq f8.2<|by have:=(oF.1 O).1;omega)<|bq ⟨kN<|jT l4 l5 X.qB.1,_,_,_,_,_,_,rfl,rfl,za (U.set l<|some<|.cells (putAt (bN K) (k*5+4) [w]) 44 nf2)<|aV (ti b i l k n j (sq B) cp) kq ?_⟩;intro J;exact o _ _ J (by rw[hg];exact Z)<|(((T.trans b2).trans Y).trans c2).trans f11
   .have hg:fc A (a,g)=A:=by unfold fc;rw[iw (by simp only[fD ai];simp)]
    refine zp (yb (num A.length) (num 20)<|bE (b:=false)<|fD oq)<|zf<|za G<|zF<|aV (ti b i l k n j (sq B) cp) kq ?_;intro J;exact o G _ J (by rw[hg];exact b1)<|T.trans b2
  .obtain rfl:j=n:=oq
   rw[tL oq] at hB;exact zr<|zp (yb (num j) (num j)<|bE (b:=false)<|fD oq)<|am<|aB<|zG<|aR ⟨rfl,⟨_,_,_,_,hB⟩,T,bu kq⟩
 .rintro e H S ⟨rfl,hX,T,x1,rfl⟩;exact⟨.inl rfl,kq,hX,T⟩
def QM(pr:Prim):Prop:=∀(s:AS) (v:Value) (l:List Nat) (i:Nat),dB s v l->i<l.length->∃v' s',EF prog kg pr 323 #[v,num i,num ((i+1:Nat):Int)] s v' s'/\v'.cells=#[v']/\v'.oneCell'=true/\dB s' v' (l.eraseIdx i)/\cL (λy=>blk v y) s s'/\∀y,blk v' y->blk v y
def TS.qg(σ:TS)(nm:Bq):Nat->Option Nat
 | 0=>none
 | k+1=>if cZ (σ.mA<|σ.again.getD k 0).name nm=true then some k else σ.qg nm k
def TS.forget(σ:TS)(nm:Bq):TS:=match σ.qg nm σ.again.length with
 | none=>σ
 | some i=>{ σ with again:=σ.again.eraseIdx i }
def RP(b:Nat)(nm:Bq)(i:Int)(x:Nq):TL:=[aC b 0,str nm,x 2,x 3,num i]++gG x 5 37
theorem LW(a4:pr 245=none)(hD:QM pr)(h:BX s b σ)(a8:σ.again.length<=50000):∃s',Ef pr 245 #[aC b 0,str nm] s (.tuple #[]) s'/\BX s' b (σ.forget nm)/\dJ b s s':=by
 have⟨L,G,av,xs,h⟩:=h;have⟨aad,f,C⟩:=h.a.len;have l:=h.b;rw[C] at l;refine aX a4 func245 rfl<|zr<|zg 3 s<|zp (yl b 2 (.slice aad σ.again.length f) l.2)<|zk 1<|zp (gO (i:=(σ.again.length:Int)) (j:=1) (r:=(σ.again.length:Int)-1) rfl kq kq oq oq)<|zf<|za s<|aV (RP b nm<|(σ.again.length:Int)-1) kq ?_;intro x0;refine aF<|bn (bw (Q:=λe M S=>(e=.exit 0\/e=.ret)/\di prog f245 M S=some (.tuple #[])/\BX S b (σ.forget nm)/\dJ b s S) (λm M S=>S=s/\m<=σ.again.length/\σ.qg nm m=σ.qg nm σ.again.length/\∃x,M=RP b nm ((m:Int)-1) x) ?_ σ.again.length _ _ ⟨rfl,lr,rfl,x0,rfl⟩) ?_
 .rintro m M S ⟨rfl,a9,g,x1,rfl⟩;match m with
  | 0 =>
   refine aB<|zr<|zf<|za S<|zG<|aR ?_;have hf:σ.forget nm=σ:=by unfold TS.forget;rw[<-g];rfl
   exact⟨.inl rfl,kq,by rw[hf];exact⟨_,_,_,_,h⟩,dU S⟩
  | k+1 =>
   have a3:k<σ.again.length:=oq
   have a5:σ.again[k]?=some σ.again[k]:=gE a3;have V:σ.again.getD k 0=σ.again[k]:=gq
   replace g:(if cZ (σ.mA<|σ.again.getD k 0).name nm=true then some k else σ.qg nm k)=σ.qg nm σ.again.length:=g;rw[V] at g;have a6:=h.la _<|zB a3;generalize σ.again[k]=q at a5 g a6;clear V;have D:σ.nodes[q]?=some σ.nodes[q]:=gE a6;generalize σ.nodes[q]=u at D;rw[jU D] at g;have⟨J,nc,nf,y,Y,W,c,hmy,hql⟩:=h.node D;have⟨F,rc,H,rf,Z,O6,E,T,Rm⟩:=h.a.at a5;rw[C] at Z;cases Z;rw[Y] at l;have X:(bN xs)[q*5+2]?=some (str u.name):=by rw[eu c 2 dq,<-hmy.2.2.1];rfl
   have l1:=gW 38 l.2 (off:=0) rfl;have l2:=gW 25 l.2 (off:=2) rfl;have l3:=gW 3 E.2 T;have l4:=gW 9 W.2 X;have R:=hD S _ _ k h.a a3;rw[C] at R;have O1:(((k+1:Nat):Int)-1)=(k:Int):=oq
   rw[O1];have a7:=h.ra;generalize hNN:σ.nodes.length=N at *;generalize hA9:σ.again.length=A at *;refine aB<|zr<|zk 1<|zp (yb (num k) (num 0)<|fQ (b:=true)<|tD oq)<|am<|za S<|zT<|aB<|aF<|aB<|aP kq kq kq<|zq<|zq<|zq<|zt S<|zu (yl b 0 (.slice (sq J) N nc) l.2)<|zq<|zq<|zq<|zt S<|zu (yl b 2 (.slice (sq F) A f) l.2)<|zq<|zu (yi F 0 A f k none .i64 (k:Nat) 1 oq oq oq)<|zt S<|zu (yl F k (num q) E.2 (i:=T))<|zu (yi J 0 N nc (q*5) none .i64 (q:Nat) 5 oq oq oq)<|zq<|zt S<|zu (yl J (q*5+2) (str u.name) W.2 (i:=X))<|zq<|zu (yb (str u.name) (str nm)<|lw rfl)<|bq ⟨kN<|T5 l1 l2 l3 l4,_,_,_,_,_,_,rfl,rfl,za S ?_⟩;cases hq:cZ u.name nm with
   | true =>
    rw[hq,ip rfl] at g;have⟨B,U,e1,e2,e3,e4,I,e6⟩:=R;have h3:∀{y:Nat} {H:Aq} {t:TypeId} {O:Nat × Nat},Has S y (.cells H t O)->t≠3->¬blk (.slice (sq F) A f) y:=λc ht z=>by rw[dk z] at c;exact c.ne E ht rfl
    have d1:=l.fr I<|h3 l dq;have hfg:σ.forget nm=⟨σ.nodes,σ.row,σ.again.eraseIdx k,σ.w⟩:=by unfold TS.forget;rw[hA9,<-g]
    have a1:BT (U.set b<|some<|lU L G B σ.w) b L G B xs ⟨σ.nodes,σ.row,σ.again.eraseIdx k,σ.w⟩/\dJ b S (U.set b<|some<|lU L G B σ.w):=by
     have db:=h.b.fr I<|h3 h.b dq;have o:cL (λy=>y=b) U (U.set b<|some<|lU L G B σ.w):=aL (K:=λy=>y=b) (aE U) (λ_=>rfl) _;have d:∀{y:Nat} {H:Aq} {t:TypeId} {O:Nat × Nat},Has U y (.cells H t O)->t≠183->y≠b:=λc ht=>c.ne db ht;have g1:=db.put<|lU L G B σ.w;have dn:=h.n.fk I λy c=>by have⟨_,_,z⟩:=h.n.blk c;exact h3 z dq
     have dr:=h.r.fk I λy c z=>a7 y c gq;have dm:=h.m.fk I λy H O c=>h3 c dq;have ge:cL (KB b S) S U:=I.mono λy _ z=>(gT h.b.2).2<|i3<|.inl gq;have gf:cL (KB b S) S (U.set b<|some<|lU L G B σ.w):=aL ge (λ_=>.inl rfl) _;refine⟨⟨h.sp,g1,dn.fk o λy c=>by have⟨_,_,z⟩:=dn.blk c;exact d z dq,dm.fk o λy H O c=>d c dq,dr.fk o λy c=>by have⟨_,_,z⟩:=dr.blk c;exact d z dq,e4.fk o λy c=>by have⟨_,_,z⟩:=e4.blk c;exact d z dq,λy c hz=>?_,h.lt,λp hp=>h.la p<|List.mem_of_mem_eraseIdx hp,h.ne,⟨h.sz.1,h.sz.2.1,?_⟩⟩,eY h.b g1 gf (.inl rfl) (.inl λ_ z=>z) ?_⟩;iterate 3
      .grind
    rw[hfg];refine zH<|zr<|zg 4 S<|zp (yl b 2 (.slice (sq F) A f) l.2)<|zk 2<|zp (yp (k:Int) 1 ((k+1:Nat):Int) oq oq)<|zo S<|zc 0 e1<|zg 2 U<|zp (iH (b:=b) (off:=2) (w:=B) rfl kq kq e2 e3 kq d1.2 iq)<|am ?_;rw[Y] at a1;exact za (U.set b<|some<|lU (.slice (sq J) N nc) G B σ.w)<|aD ⟨.inr rfl,kq,⟨_,_,_,_,a1.1⟩,a1.2⟩
   | false =>rw[hq,iw dq] at g;exact zF<|zx<|zk 1<|zp (gO (i:=(k:Int)) (j:=1) (r:=(k:Int)-1) rfl kq kq oq oq)<|zf ⟨k,oq,rfl,oq,g,bu kq⟩
 .rintro e M S ⟨he,h1,h2,h3⟩;rcases he with rfl|rfl
  .exact⟨.inl rfl,h1,h2,h3⟩
  .exact⟨.inr rfl,h1,h2,h3⟩
abbrev Sk:=Int × Bq
def VX (u:Nd):Sk:=(u.kind,u.name)
def pQ (l:List Nd):List Sk:=l.map VX
abbrev xm:Bq:=[104,116,109,108]
structure Gc(ks:List Sk)(row:List Nat):Prop where
 n0:ks[0]?=some (1,xm)
 r0:row[0]?=some 0
 el:∀k∈row,∃n,ks[k]?=some (1,n)
section
variable {ks:List Sk}{row:List Nat}{x:Sk}
def Gc.lt(h:Gc ks row)(k:Nat)(a:k∈row):k<ks.length:=by have⟨_,e⟩:=h.el k a;exact(gS.1 e).1
def Gc.ne(h:Gc ks row):row≠[]:=λe=>by have:=h.r0;rw[e] at this;cases this
def Gc.put(h:Gc ks row):Gc (ks++[x]) row:=by have a:=λk b=>@Cg _ ks [x] k<|h.lt k b;exact⟨by rw[a 0<|mG h.r0];exact h.n0,h.r0,λk b=>by rw[a k b];exact h.el k b⟩
def Gc.push(h:Gc ks row)(m:x.1=1):Gc (ks++[x]) (row++[ks.length]):=by
 have g:=h.put (x:=x);refine⟨g.n0,by rw[Cg<|HU.2 h.ne];exact h.r0,λk a=>?_⟩;rcases List.mem_append.1 a with q|q
 .exact g.el k q
 .simp at q;subst q;exact⟨x.2,by rw[EN lr,Nat.sub_self,<-m];rfl⟩
def Gc.take(h:Gc ks row)(hi:1<=i):Gc ks (row.take i):=⟨h.n0,by rw[HA,ip oq];exact h.r0,λk a=>h.el k<|List.mem_of_mem_take a⟩
def Gc.zero:Gc [(1,xm)] [0]:=⟨O,O,λk a=>by simp at a;subst a;exact⟨_,O⟩⟩
end
