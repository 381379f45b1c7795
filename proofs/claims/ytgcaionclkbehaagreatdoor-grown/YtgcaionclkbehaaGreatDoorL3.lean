
import Derived.Test.YtgcaionclkbehaaGreatDoorH9
set_option linter.all false
set_option maxHeartbeats 4000000
set_option maxRecDepth 100000
namespace Go.Proofs.YtgcaionclkbehaaGreatDoor
open Go.Conc Go.RowKit Go.Lib Tryz
variable {nm:Bq}{F:FuncId}{jo:List mO}{at_ v:Value}{l m:List (Bq)}{ds:List DC}{aF:fF}{g:Bool}{ts:List gp}{us:List Tok}{d:DC}
def rT (n:Bq):mO:=(⟨234,[QI],[n]⟩,[n])
def rF (n:Bq):mO:=(⟨244,[n],[]⟩,[n])
def Kr(B9 Bo Br d i:Nat)(x:Nq):TL:=[sa B9 Bo Br]++gD x 1 22++[.slice (some ⟨d,0,none⟩) 8 8,num 8,num (i:Nat)]++gD x 26 27
def Ks(B9 Bo Br d i:Nat)(x:Nq):TL:=[sa B9 Bo Br]++gD x 1 35++[.slice (some ⟨d,0,none⟩) 14 14,num 14,num (i:Nat)]++gD x 39 14
variable {s s':AS}{pr:Prim}
section
def iH:List mO:=(([]++[(⟨233,[],[]⟩,Mr)]++[(⟨241,[xr],[]⟩,[xr])]++[(⟨242,[],[]⟩,[[112]])]++[(⟨234,aL,bz⟩,bz)]++bO.map rT)++bq.map rF)++[(⟨246,[],[]⟩,[[]])]
theorem AL(a:∀f,f∈dJ->pr f=none)(c:pr 127=bu 127){s0:AS}{U g j:Nat}(h:RS s0 U g j nm s []):∃o,Ef pr 69 #[sa U g j] s (.tuple #[]) o/\RS s0 U g j nm o iH:=by
 refine EF.iy (a 69 dq) func69 rfl ?_;have⟨p,v2,F,m4,m5⟩:=xx (pr:=pr) (s:=s) a;have f6:=h.fk m5;have⟨WL,uW,Z,_⟩:=kr (a 126 dq) c f6 m4 Mr 3 rfl dq iq;refine zr (zc 1 F (zg 1 (p.add (.cells (Mr.map str).toArray 9)) (yc #[] #[am U 0,am g 0,am j 0] uW (EO.nil ?_))));have⟨WN,v16,Za,Zd,Ze⟩:=Ep (pr:=pr) (s:=WL) a xr;have f20:=Z.fk Ze;have⟨WY,ZQ,WE,_⟩:=kr (a 126 dq) c f20 Zd [xr] 1 rfl dq iq;refine zr (zc 1 Za (zg 1 (WN.add (.cells ([xr].map str).toArray 9)) (yc #[] #[am U 0,am g 0,am j 0] ZQ (EO.nil ?_))));have⟨W3,v30,Zv,m32,Zw⟩:=My (pr:=pr) (s:=WY) a;have f34:=WE.fk Zw;have⟨u,ZT,WH,_⟩:=kr (a 126 dq) c f34 m32 [[112]] 1 rfl dq iq;refine zr (zc 1 Zv (zg 1 (W3.add (.cells ([[112]].map str).toArray 9)) (yc #[] #[am U 0,am g 0,am j 0] ZT (EO.nil ?_))));have W:=jx (pr:=pr) (s:=u) (a 134 dq);have T:=cU.new u bz 6 rfl dq;have M:=WH.fk (qH u bz);generalize u.add (.cells (bz.map str).toArray 9)=S45 at W T M;have⟨q,v48,m49,m50,m51⟩:=tf (pr:=pr) (s:=S45) a  T;have f52:=M.fk m51;have X:=jx (pr:=pr) (s:=q) (a 134 dq);have V:=cU.new q bz 6 rfl dq;have N:=f52.fk (qH q bz);have O:=m50.vT (qH q bz);generalize q.add (.cells (bz.map str).toArray 9)=Z8 at X V N O;have⟨r,q61,R62,_⟩:=sr (a 126 dq) c N O V iq;refine zr (zc 1 W (zc 0 m49 (zc 0 X (yc #[] #[am U 0,am g 0,am j 0] q61 (EO.nil ?_)))));have D:=uo (pr:=pr) (s:=r) (a 142 dq);have G:=Has.new r (.cells (bO.map str).toArray 9);have I:=R62.fk (qH r bO);generalize r.add (.cells (bO.map str).toArray 9)=S63 at D G I;obtain⟨k,A⟩:∃d,d=r.nx:=⟨_,rfl⟩;rw[<-A] at D G;refine EW.seq (zr (zc 0 D (zf (za S63 (EW.fill (Kr U g j k 0) kq ?_)))));intro x0;refine EW.block ?_;refine EW.mono (EW.dG (Q:=λe t o=>e=.exit 0/\RS s0 U g j nm o ([]++[(⟨233,[],[]⟩,Mr)]++[(⟨241,[xr],[]⟩,[xr])]++[(⟨242,[],[]⟩,[[112]])]++[(⟨234,aL,bz⟩,bz)]++bO.map rT)/\∃x,t=Kr U g j k 8 x) (λm t o=>∃i,i+m=8/\RS s0 U g j nm o ([]++[(⟨233,[],[]⟩,Mr)]++[(⟨241,[xr],[]⟩,[xr])]++[(⟨242,[],[]⟩,[[112]])]++[(⟨234,aL,bz⟩,bz)]++(bO.take i).map rT)/\Has o k (.cells (bO.map str).toArray 9)/\∃x,t=Kr U g j k i x) ?_ 8 _ _ ⟨0,by omega,by simpa using I,G,x0,rfl⟩) ?_
 .rintro m t S ⟨i,a6,R,P,x,rfl⟩;by_cases hm:0<m
  .have a3:i<bO.length:=by show i<8;omega
   have C:bO[i]?=some bO[i]:=gE a3;have L:(bO.take (i+1)).map rT=(bO.take i).map rT++[rT bO[i]]:=by rw[List.take_add_one,C,Option.toList_some,Bz];rfl
   generalize bO[i]=n at C L;have a1:(bO.map str).toArray[i]?=some (str n):=by simp[C]
   have⟨p,dv,m1,m2,F⟩:=MA (pr:=pr) (s:=S) a n;have r1:=R.fk F;have d1:=P.fr F id;have k2:=cU.new p [n] 1 rfl iq;have Y:=r1.fk (qH p [n]);have w:=d1.add (.cells ([n].map str).toArray 9);have e2:=m2.vT (qH p [n]);have⟨S3,q1,y,f3⟩:=sr (a 126 dq) c Y e2 k2 gq;have d3:=w.fr f3 (by
    have⟨ov,rv,a7,a8,g1,g2,_⟩:=Y.ex;rintro((z|z)|⟨_,z⟩)
    .exact w.ne g1 dq z
    .exact w.ne g2 dq z
    .exact w.ne z dq rfl);replace y:RS s0 U g j nm S3 ([]++[(⟨233,[],[]⟩,Mr)]++[(⟨241,[xr],[]⟩,[xr])]++[(⟨242,[],[]⟩,[[112]])]++[(⟨234,aL,bz⟩,bz)]++(bO.take i).map rT++[rT n]):=y;rw[u6,<-L] at y;refine zr ?_;refine zp (yb (num (i:Nat)) (num 8) (aX (b:=true) (tD oq))) ?_;refine EO.nil ?_;refine EW.seq (zT ?_);refine EW.seq (EW.block ?_);refine za S ?_;refine zr ?_;refine zp (yi k 0 8 8 i none .i64 (i:Nat) 1 oq oq oq) ?_;refine zo S ?_;refine zp (bw (b:=k) (off:=i) (v:=str n) rfl underlying9 rfl kq P.2 a1) ?_;refine zf ?_;refine za S ?_;refine zx ?_;refine zc 2 m1 ?_;refine zg 2 (p.add (.cells ([n].map str).toArray 9)) ?_;refine yc #[] #[am U 0,am g 0,am j 0] q1 ?_;refine EO.nil ?_;refine zx ?_;refine zp (yp (i:Nat) 1 ((i+1:Nat):Int) oq oq) ?_;refine zf ?_;refine⟨m-1,by omega,i+1,by omega,?_,?_,aR kq⟩
   .exact y
   .exact d3
  .obtain rfl:i=8:=oq
   exact zr (zf (za S (EW.seq (zG (EW.exit ⟨rfl,R,aR kq⟩)))))
 rintro e t K ⟨rfl,a4,xA,rfl⟩;have E:=rr (pr:=pr) (s:=K) (a 137 dq);have H:=Has.new K (.cells (bq.map str).toArray 9);have J:=a4.fk (qH K bq);generalize K.add (.cells (bq.map str).toArray 9)=S67 at E H J;obtain⟨l,B⟩:∃d,d=K.nx:=⟨_,rfl⟩;rw[<-B] at E H;refine EW.seq (zr (zc 0 E (zf (za S67 (EW.fill (Ks U g j l 0) kq ?_)))));intro x0;refine EW.block ?_;refine EW.mono (EW.dG (Q:=λe t o=>e=.exit 2/\RS s0 U g j nm o (([]++[(⟨233,[],[]⟩,Mr)]++[(⟨241,[xr],[]⟩,[xr])]++[(⟨242,[],[]⟩,[[112]])]++[(⟨234,aL,bz⟩,bz)]++bO.map rT)++bq.map rF)/\∃x,t=Ks U g j l 14 x) (λm t o=>∃i,i+m=14/\RS s0 U g j nm o (([]++[(⟨233,[],[]⟩,Mr)]++[(⟨241,[xr],[]⟩,[xr])]++[(⟨242,[],[]⟩,[[112]])]++[(⟨234,aL,bz⟩,bz)]++bO.map rT)++(bq.take i).map rF)/\Has o l (.cells (bq.map str).toArray 9)/\∃x,t=Ks U g j l i x) ?_ 14 _ _ ⟨0,by omega,by simpa using J,H,x0,rfl⟩) ?_
 .rintro m t S ⟨i,a6,R,P,x,rfl⟩;by_cases hm:0<m
  .have a3:i<bq.length:=by show i<14;omega
   have C:bq[i]?=some bq[i]:=gE a3;have L:(bq.take (i+1)).map rF=(bq.take i).map rF++[rF bq[i]]:=by rw[List.take_add_one,C,Option.toList_some,Bz];rfl
   generalize bq[i]=n at C L;have a1:(bq.map str).toArray[i]?=some (str n):=by simp[C]
   have⟨p,dv,m1,m2,F⟩:=MB (pr:=pr) (s:=S) a n;have r1:=R.fk F;have d1:=P.fr F id;have k2:=cU.new p [n] 1 rfl iq;have Y:=r1.fk (qH p [n]);have w:=d1.add (.cells ([n].map str).toArray 9);have e2:=m2.vT (qH p [n]);have⟨S3,q1,y,f3⟩:=sr (a 126 dq) c Y e2 k2 (by simp[List.length_take,show bO.length=8 from rfl,show bq.length=14 from rfl];omega);have d3:=w.fr f3 (by
    have⟨ov,rv,a7,a8,g1,g2,_⟩:=Y.ex;rintro((z|z)|⟨_,z⟩)
    .exact w.ne g1 dq z
    .exact w.ne g2 dq z
    .exact w.ne z dq rfl);replace y:RS s0 U g j nm S3 (([]++[(⟨233,[],[]⟩,Mr)]++[(⟨241,[xr],[]⟩,[xr])]++[(⟨242,[],[]⟩,[[112]])]++[(⟨234,aL,bz⟩,bz)]++bO.map rT)++(bq.take i).map rF++[rF n]):=y;rw[u6,<-L] at y;refine zr ?_;refine zp (yb (num (i:Nat)) (num 14) (aX (b:=true) (tD oq))) ?_;refine EO.nil ?_;refine EW.seq (zT ?_);refine EW.seq (EW.block ?_);refine za S ?_;refine zr ?_;refine zp (yi l 0 14 14 i none .i64 (i:Nat) 1 oq oq oq) ?_;refine zo S ?_;refine zp (bw (b:=l) (off:=i) (v:=str n) rfl underlying9 rfl kq P.2 a1) ?_;refine zf ?_;refine za S ?_;refine zx ?_;refine zc 2 m1 ?_;refine zg 2 (p.add (.cells ([n].map str).toArray 9)) ?_;refine yc #[] #[am U 0,am g 0,am j 0] q1 ?_;refine EO.nil ?_;refine zx ?_;refine zp (yp (i:Nat) 1 ((i+1:Nat):Int) oq oq) ?_;refine zf ?_;refine⟨m-1,by omega,i+1,by omega,?_,?_,aR kq⟩
   .exact y
   .exact d3
  .obtain rfl:i=14:=oq
   exact zr (zf (za S (EW.seq (zG (EW.exit ⟨rfl,R,aR kq⟩)))))
 rintro e t SB ⟨rfl,a5,xB,rfl⟩;have⟨S71,v72,m73,m74,m75⟩:=MC (pr:=pr) (s:=SB) a;have f76:=a5.fk m75;have⟨S82,q83,R84,_⟩:=kr (a 126 dq) c f76 m74 [[]] 1 rfl dq (by simp[show bO.length=8 from rfl,show bq.length=14 from rfl]);exact zx (zc 1 m73 (zg 1 (S71.add (.cells ([[]].map str).toArray 9)) (yc #[] #[am U 0,am g 0,am j 0] q83 (EO.nil ⟨.inl rfl,kq,R84⟩))))
end
def bM(nm:Bq)(l:List mO):List DC:=if (qg nm l).length>0 then qg nm l else lF nm l
variable {b:Nat}{σ jA:TS}
section
def QR(B:∀f,f∈dJ->pr f=none)(N:∀{s0 s:AS} {q r t:Nat} {nm:Bq},RS s0 q r t nm s []->∃k,Ef pr F #[sa q r t] s (.tuple #[]) k/\RS s0 q r t nm k jo)(nm:Bq):∃k v l,Ef pr 66 #[.func (.func F) #[] #[],str nm] s v k/\n8 k v l/\Fa k l (bM nm jo)/\aO (λ_=>False) s k/\(bM nm jo).length<=1000:=by
 have H:=((Has.new s (.cells #[str nm] 9)).add (.cells #[aD] 191)).add (.cells #[aD] 191);have D:Has (((s.add (.cells #[str nm] 9)).add (.cells #[aD] 191)).add (.cells #[aD] 191)) (s.nx+1) (.cells #[aD] 191):=(Has.new (s.add (.cells #[str nm] 9)) (.cells #[aD] 191)).add (.cells #[aD] 191);have E:Has (((s.add (.cells #[str nm] 9)).add (.cells #[aD] 191)).add (.cells #[aD] 191)) (s.nx+2) (.cells #[aD] 191):=Has.new ((s.add (.cells #[str nm] 9)).add (.cells #[aD] 191)) (.cells #[aD] 191);have w:=(((aO.refl (K:=λ_=>False) s).add (.cells #[str nm] 9)).add (.cells #[aD] 191)).add (.cells #[aD] 191);have O:RS (((s.add (.cells #[str nm] 9)).add (.cells #[aD] 191)).add (.cells #[aD] 191)) s.nx (s.nx+1) (s.nx+2) nm (((s.add (.cells #[str nm] 9)).add (.cells #[aD] 191)).add (.cells #[aD] 191)) [] :=
  ⟨H,⟨D.1,E.1,by omega⟩,⟨aD,aD,[],[],D,E,.inl ⟨rfl,rfl⟩,.inl ⟨rfl,rfl⟩,λx z=>(bR z).elim,λx z=>(bR z).elim,λx z=>(bR z).elim,⟨rfl,λi v d h=>by simp at h⟩,⟨rfl,λi v d h=>by simp at h⟩⟩,aO.refl _,by simp⟩;have⟨S,M,j⟩:=N O;have⟨P,Q,a,R,h1,h2,h3,J,T,U,V,G,L⟩:=j.ex;have A:aO (λ_=>False) s S:=w.trans j.fr λy W z=>by omega
 suffices h:Ew pr (match Tryz.f66.body with|some c=>c|none=>.skip) ((#[.func (.func F) #[] #[],str nm]:Aq).toList++List.replicate (Tryz.f66.ntmps-(#[.func (.func F) #[] #[],str nm]:Aq).toList.length) undef) s (λe u n=>(e=.normal\/e=.ret)/\n=S/\∃v l,c8 prog Tryz.f66 u n=some v/\n8 S v l/\Fa S l (bM nm jo)) by obtain⟨m,e,u,n,g1,I,rfl,v,l,g2,g3,g4⟩:=h;exact⟨n,v,l,EF.of (B 66 dq) func66 rfl ⟨m,e,u,n,g1,I,g2,rfl⟩,g3,g4,A,by unfold bM qg lF;split<;>rw[List.length_map]<;>exact lT (List.length_filter_le _ _) j.sz⟩
 obtain⟨o,p,C⟩:∃o p,P=.slice o a.length p:=by
  rcases h3 with ⟨rfl,rfl⟩|⟨d,rfl,_⟩
  .exact⟨none,0,rfl⟩
  .exact⟨_,_,rfl⟩
 subst C;unfold bM;rw[<-G.1];iterate 2 refine zs ?_
 refine za (((s.add (.cells #[str nm] 9)).add (.cells #[aD] 191)).add (.cells #[aD] 191)) (zr (zk 2 (zo (((s.add (.cells #[str nm] 9)).add (.cells #[aD] 191)).add (.cells #[aD] 191)) (yc #[] #[] M (EO.nil (za S (EW.seq (zr (zp (yl (s.nx+1) 0 (.slice o a.length p) h1.2) (zk 1 ?_))))))))));by_cases g:a.length>0
 .rw[ip g];exact zp (yb (num (a.length:Nat)) (num 0) (dQ (b:=true) (tD oq))) (EO.nil (za S (zH (zr (zp (yl (s.nx+1) 0 (.slice o a.length p) h1.2) (zf (EW.ret ⟨.inr rfl,kq,_,_,kq,h3,G⟩)))))))
 .rw[iw g];exact zp (yb (num (a.length:Nat)) (num 0) (dQ (b:=false) (fD oq))) (EO.nil (za S (zF (zr (zp (yl (s.nx+2) 0 Q h2.2) (zf (EW.ret ⟨.inr rfl,kq,_,_,kq,J,L⟩)))))))
def aK(pr:Prim)(b:Nat)(t:gp)(aF:fF)(d:DC)(σ jA:TS)(g:Bool):Prop:=(∀y,blk t.at_ y->y<b)->∀s x,BX s b σ->cm s (.func (.func d.f) #[] x) d->bS s t.at_ aF->∃s',EF prog kg pr d.f (#[am b 0,.agg (dU t).toArray]++x) s (.bool g) s'/\BX s' b jA/\bG b s s'
def cZ(pr:Prim)(b:Nat)(t:gp)(aF:fF):List DC->TS->TS->Bool->Prop
 | [],σ,jA,g=>jA=σ/\g=true
 | d::ds,σ,jA,g=>∃Lh g1,aK pr b t aF d σ Lh g1/\((g1=true/\cZ pr b t aF ds Lh jA g)\/(g1=false/\jA=Lh/\g=false))
section
variable (h:BX s b σ)
def BX.no{x:Nat}{cs:Aq}{t:TypeId}{fz:Nat × Nat}(c:Has s x (.cells cs t fz))(h1:t≠183)(h2:t≠44)(h3:t≠3)(a:t≠47:=by decide):¬KB b s x:=by have⟨_,_,_,_,h⟩:=h;exact h.no c h1 h2 h3 a
def BX.add(o:Obj):BX (s.add o) b σ:=by have⟨_,_,_,_,h⟩:=h;exact⟨_,_,_,_,h.add o⟩
def BX.fk(c:aO (λ_=>False) s s'):BX s' b σ/\bG b s s':=by have⟨_,_,_,_,h⟩:=h;have a:=h.fk c λ_ _ _ _ _ z=>z.elim;exact⟨⟨_,_,_,_,a⟩,bG.mk' h.b a.b (c.mono λ_ _ z=>z.elim) (.inl rfl) (.inl λ_ z=>z) (.inl λ_ z=>z)⟩
end
theorem bS.fb{l:fF}(h:bS s v l)(i:∀y,blk v y->y<b)(j:BX s b σ)(k:bG b s s'):bS s' v l:=h.fk k.1 λy U=>by
 rcases h with ⟨e,_⟩|⟨d,c,fz,e,q1,q2⟩
 .rw[e] at U;exact(bR U).elim
 .have m:=i y U;rw[e] at U;rw[cH U] at m |-;have⟨_,_,_,_,f⟩:=j;have g:Has s d _:=⟨q1,q2⟩;intro z;rcases(KB.at f.b.2).1 z with z|z|z|z|z
  .grind
  .have⟨_,_,z⟩:=f.n.blk z;exact g.ne z dq rfl
  .have⟨_,_,z⟩:=f.r.blk z;exact g.ne z dq rfl
  .have⟨_,_,z⟩:=f.a.blk z;exact g.ne z dq rfl
  .omega
def Fa.fb{vs:Vq}(h:Fa s vs ds)(a:BX s b σ)(d:bG b s s'):Fa s' vs ds:=h.fk d.1 λx f t g e c=>by rcases c with rfl|rfl|rfl|⟨rfl,_⟩<;>exact a.no e dq dq dq
def Ko(b B:Nat)(v aF:Value)(n i:Nat)(x:Nq):TL:=[am b 0,x 1,x 2,x 3,x 4,am B 0,.bool false,x 7,x 8,x 9,x 10,x 11,v,num (n:Nat),num (i:Nat)]++gD x 15 9
theorem y8(V:∀f,f∈dJ->pr f=none)(hF:∀{s0 s:AS} {Z Bo Br:Nat} {nm:Bq},RS s0 Z Bo Br nm s []->∃E,Ef pr F #[sa Z Bo Br] s (.tuple #[]) E/\RS s0 Z Bo Br nm E jo){t:gp}(aa:∀y,blk t.at_ y->y<b)(h:BX s b σ)(ha:bS s t.at_ aF)(W:cZ pr b t aF (bM t.name jo) σ jA g):∃E,Ef pr 317 #[am b 0,c9 F,.agg (dU t).toArray] s (.bool g) E/\BX E b jA/\bG b s E:=by
 have⟨o,p,nm,at_,l⟩:=t;have N:bS s at_ aF:=ha;have⟨c,j,pO⟩:=N.len;subst pO;have a1:=h.add (dF ⟨o,p,nm,.slice c aF.length j,l⟩);have a2:=Has.new s (dF ⟨o,p,nm,.slice c aF.length j,l⟩);have T:=(aO.refl (K:=λ_=>False) s).add (dF ⟨o,p,nm,.slice c aF.length j,l⟩);have a3:=(h.fk T).2;have a4:bS (s.add (dF ⟨o,p,nm,.slice c aF.length j,l⟩)) (.slice c aF.length j) aF:=N.fk T λ_ _=>id;generalize hS:s.add (dF ⟨o,p,nm,.slice c aF.length j,l⟩)=S at *;have⟨A,v,H,e1,e2,Y,e4,e5⟩:=QR (s:=S) V hF nm;have⟨J,b2⟩:=a1.fk e4;have b3:=a2.fr e4 id;have b4:bS A (.slice c aF.length j) aF:=a4.fk e4 λ_ _=>id;have W:cZ pr b ⟨o,p,nm,.slice c aF.length j,l⟩ aF (bM nm jo) σ jA g:=W;generalize bM nm jo=q at W Y e5;obtain⟨C,D,hv⟩:∃C D,v=.slice C q.length D:=by
  rw[<-Y.1];rcases e2 with ⟨rfl,rfl⟩|⟨d,rfl,_⟩
  .exact⟨none,0,rfl⟩
  .exact⟨_,_,rfl⟩
 subst hv;generalize hn:q.length=n at *;refine EF.iy (V 317 dq) func317 rfl (zs (za (s.add (dF ⟨o,p,nm,.slice c aF.length j,l⟩)) ?_));rw[hS];refine EW.seq (zr (zg 2 S (zp (yl s.nx 2 (str nm) a2.2) (yc #[.func (.func F) #[] #[]] #[] e1 (zf (za A (EW.fill (Ko b s.nx (.slice C n D) undef n 0) kq ?_)))))));intro x0;refine EW.block ?_;refine EW.mono (EW.dG (Q:=λe B G=>((e=.exit 0/\g=true/\∃x,B=Ko b s.nx (.slice C n D) undef n n x)\/(e=.ret/\c8 prog Tryz.f317 B G=some (.bool g)))/\BX G b jA/\bG b A G) (λm B G=>∃i w,i+m=n/\BX G b w/\bG b A G/\cZ pr b ⟨o,p,nm,.slice c aF.length j,l⟩ aF (q.drop i) w jA g/\∃x,B=Ko b s.nx (.slice C n D) undef n i x) ?_ n _ _ ⟨0,σ,by omega,J,bG.refl A,W,x0,rfl⟩) ?_
 .rintro m B U ⟨i,w,ah,M,k,I,x,rfl⟩;by_cases hm:0<m
  .have ae:i<q.length:=oq
   have hx:q[i]?=some q[i]:=gE ae;rw[List.drop_eq_getElem_cons ae] at I;generalize q[i]=d at hx I;have r:i<H.length:=by rw[Y.1];omega
   have a9:H[i]?=some H[i]:=gE r;generalize H[i]=dv at a9;have e3U:=Y.fb J k;have R:=e3U.2 i dv d a9 hx;obtain⟨X,rfl⟩:=R.fn;obtain⟨L,fz,rfl,P⟩:∃L fz,C=some ⟨L,0,none⟩/\Has A L (.cells H.toArray 187 fz):=by
    rcases e2 with ⟨_,z⟩|⟨d,z,hh⟩
    .rw[z] at r;simp at r
    .grind
   have ab:=P.fr k.1 (J.no P dq dq dq);have O:H.toArray[i]?=some (.func (.func d.f) #[] X):=by simp[a9]
   have ag:=b3.fr k.1 (J.no b3 dq dq dq);have R3:bS U (.slice c aF.length j) aF:=b4.fb aa J k;have⟨Lh,g1,u,a⟩:=I;have⟨U2,f1,f2,f3⟩:=u aa U X M R R3;generalize aF.length=nA at *;refine zr (zp (yb (num (i:Nat)) (num (n:Nat)) (aX (b:=true) (tD oq))) (EO.nil (EW.seq (zT (EW.seq (EW.block (za U (zr (zp (yi L 0 n D i none .i64 (i:Nat) 1 oq oq oq) (zo U (zp (bw (b:=L) (off:=i) (v:=.func (.func d.f) #[] X) rfl underlying187 rfl kq ab.2 O) (zf (za U (zr (zg 2 U (zp (yA s.nx 0 5 #[num o,str p,str nm,.slice c nA j,.bool l] ag.2 iq) (yc #[] X f1 ?_)))))))))))))))));rcases a with ⟨rfl,a⟩|⟨rfl,rfl,rfl⟩
   .refine zf (za U2 (zF (zx (zp (yp (i:Nat) 1 ((i+1:Nat):Int) oq oq) (zf ?_)))));exact⟨m-1,by omega,i+1,Lh,by omega,f2,k.trans f3,a,aR kq⟩
   .exact zf (za U2 (zH (zs (EW.ret ⟨.inr ⟨rfl,kq⟩,f2,k.trans f3⟩))))
  .obtain rfl:i=n:=oq
   rw[K3 oq] at I;obtain⟨rfl,rfl⟩:=I;exact zr (zp (yb (num (i:Nat)) (num (i:Nat)) (aX (b:=false) (fD oq))) (EO.nil (za U (EW.seq (zG (EW.exit ⟨.inl ⟨rfl,rfl,aR kq⟩,M,k⟩))))))
 .rintro e B U ⟨⟨rfl,rfl,x,rfl⟩|⟨rfl,af⟩,M,k⟩
  .exact zs (EW.ret ⟨.inr rfl,kq,M,(a3.trans b2).trans k⟩)
  .exact⟨.inr rfl,af,M,(a3.trans b2).trans k⟩
end
variable {t:gp}
section
variable {aF:fF}
section
variable (dD:∀f,f∈dJ->pr f=none)
def aK.nothing:aK pr b t aF ⟨233,[],[]⟩ σ σ false:=by intro r s x h q j;have⟨y,o,u,v,w,n,_⟩:=q;cases o;have⟨f,g,a,i,d⟩:=t;have j:bS s i aF:=j;have⟨c,e,k⟩:=j.len;subst k;have l:=h.add (dF ⟨f,g,a,.slice c aF.length e,d⟩);have m:=(h.fk ((aO.refl s).add (dF ⟨f,g,a,.slice c aF.length e,d⟩))).2;obtain rfl:=n dq;generalize p:s.add (dF ⟨f,g,a,.slice c aF.length e,d⟩)=S at *;refine EF.iy (dD 233 dq) func233 rfl (zs (za (s.add (dF ⟨f,g,a,.slice c aF.length e,d⟩)) ?_));rw[p];exact zs (za S (EW.ret ⟨.inr rfl,kq,l,m⟩))
def aK.head(E:σ.w=0)(B:σ.nodes.length<400000000):aK pr b t aF ⟨226,[],[]⟩ σ { σ.open_ Ei aF with w:=1 } false:=by intro m s x h D i;have⟨L,v,G,H,I,u,_⟩:=D;cases v;have⟨f,g,a,k,e⟩:=t;have i:bS s k aF:=i;have⟨c,d,l⟩:=i.len;subst l;have n:=h.add (dF ⟨f,g,a,.slice c aF.length d,e⟩);have p:=Has.new s (dF ⟨f,g,a,.slice c aF.length d,e⟩);have q:=(h.fk ((aO.refl s).add (dF ⟨f,g,a,.slice c aF.length d,e⟩))).2;have r:bS (s.add (dF ⟨f,g,a,.slice c aF.length d,e⟩)) (.slice c aF.length d) aF:=i.fk ((aO.refl s).add _) λ_ _=>id;obtain rfl:=u dq;generalize C:s.add (dF ⟨f,g,a,.slice c aF.length d,e⟩)=S at *;have⟨U,y,z,A⟩:=Ci (dD 220 dq) (dD 223 dq) (dD 217 dq) (dD 232 dq) n r m B;have⟨J,K,F,M,j⟩:=n;have j:=j.b;rw[E] at j;generalize aF.length=o at *;refine EF.iy (dD 226 dq) func226 rfl (zs (za (s.add (dF ⟨f,g,a,.slice c o d,e⟩)) ?_));rw[C];exact EW.seq (zr (zg 3 S (zp (yl b 3 (num 0) j.2) (zf (za S (zH (zx (zg 2 S (zp (yl s.nx 3 (.slice c o d) p.2) (zc 0 y (EO.nil (za U (zs (za U (EW.ret ⟨.inr rfl,kq,z,q.trans A⟩)))))))))))))))
def Ly(h:BX s b σ)(c:σ.w=2):Ef pr 120 #[am b 0] s (.tuple #[]) s:=by have⟨e,f,d,g,h⟩:=h;have a:=h.b;rw[c] at a;exact EF.of (dD 120 dq) func120 rfl (EW.seq (zr (zg 3 s (zp (bw (off:=3) (v:=num 2) rfl underlying181 rfl kq a.2 rfl) (zf (za s (zH (EW.ret ⟨.inr rfl,kq,kq⟩))))))))
end
end
section
variable {aF:fF}
def eH(pr:Prim)(F:FuncId)(b:Nat)(t:gp)(aF:fF)(σ jA:TS):Prop:=(∀y,blk t.at_ y->y<b)->∀s,BX s b σ->bS s t.at_ aF->∃s',EF prog kg pr F #[am b 0,.agg (dU t).toArray] s (.tuple #[]) s'/\BX s' b jA/\bG b s s'
section
variable (dD:∀f,f∈dJ->pr f=none)
section
variable (js:pr 127=bu 127)
def qw(E:σ.w≠2)(D:cZ pr b t aF (bM t.name j0) σ jA false):eH pr 218 b t aF σ jA:=by
 intro q s h k;have⟨f,i,g,o,e⟩:=t;have k:bS s o aF:=k;have⟨a,c,p⟩:=k.len;subst p;generalize aF.length=d at *;have m:=h.add (dF ⟨f,i,g,.slice a d c,e⟩);have r:=Has.new s (dF ⟨f,i,g,.slice a d c,e⟩);have j:=(aO.refl (K:=λ_=>False) s).add (dF ⟨f,i,g,.slice a d c,e⟩);have v:=(h.fk j).2;have x:bS (s.add (dF ⟨f,i,g,.slice a d c,e⟩)) (.slice a d c) aF:=k.fk j λ_ _=>id;generalize C:s.add (dF ⟨f,i,g,.slice a d c,e⟩)=S at *;have⟨U,y,A,B⟩:=y8 (s:=S) dD (F:=65) (jo:=j0) (λz=>AK dD js z) (t:=⟨f,i,g,.slice a d c,e⟩) q m x D;have⟨M,N,L,O,u⟩:=m;have l:=u.b;have m:BX S b σ:=⟨_,_,_,_,u⟩;have H:=bE (P:=prog) (t:=181) underlying181 rfl l.2 (off:=3) rfl;have I:=bE (P:=prog) (t:=112) underlying112 rfl l.2 (off:=4) rfl;have J:=gN (P:=prog) (t:=60) (n:=5) underlying60 rfl kq r.2 (off:=0) (jl 5);generalize G:σ.w=w at *;refine EF.iy (dD 218 dq) func218 rfl ?_;refine zs (za (s.add (dF ⟨f,i,g,.slice a d c,e⟩)) ?_);rw[C];refine EW.seq (EW.seq (EW.draw kq kq kq ?_));iterate 3 refine zq ?_
 refine zt S (zu (yl b 3 (num w) l.2) (zu (yb (num w) (num 2) (cM (b:=true) (bne_iff_ne.2 E))) ?_));iterate 6 refine zq ?_
 refine zt S (zu (yl b 4 (c9 65) l.2) (zu (yA s.nx 0 5 #[num f,str i,str g,.slice a d c,.bool e] r.2 iq) (yt y ?_)));iterate 2 refine zq ?_
 refine ET.nil ⟨aI [(aB prog 181 (am b 3) S,num w),(aB prog 112 (am b 4) S,c9 65),(aB prog 60 (am s.nx 0) S,.agg #[num f,str i,str g,.slice a d c,.bool e])] kq (Cq ⟨H,rfl⟩ ⟨I,rfl⟩ ⟨J,by cases a<;>rfl⟩),_,_,_,_,_,_,rfl,rfl,?_⟩;refine za U (zH ?_);exact EW.ret ⟨.inr rfl,kq,A,v.trans B⟩
def Kz(R:σ.w=2){k:TS}(Q:cZ pr b t aF (bM t.name ek) σ k g)(A:g=true->gM t.name=false)(N:k.nodes.length<400000000):eH pr 218 b t aF σ (if g then k.e9 t.name aF else k):=by
 intro l s h u;have⟨f,j,i,v,e⟩:=t;have u:bS s v aF:=u;have⟨a,c,x⟩:=u.len;subst x;generalize aF.length=d at *;have m:=h.add (dF ⟨f,j,i,.slice a d c,e⟩);have q:=Has.new s (dF ⟨f,j,i,.slice a d c,e⟩);have p:=(aO.refl (K:=λ_=>False) s).add (dF ⟨f,j,i,.slice a d c,e⟩);have C:=(h.fk p).2;have D:bS (s.add (dF ⟨f,j,i,.slice a d c,e⟩)) (.slice a d c) aF:=u.fk p λ_ _=>id;generalize O:s.add (dF ⟨f,j,i,.slice a d c,e⟩)=S at *;have⟨U,M,E,r⟩:=y8 (s:=S) dD (F:=68) (jo:=ek) (λz=>AM dD js z) (t:=⟨f,j,i,.slice a d c,e⟩) l m D Q;have H:=q.fr r.1 (m.no q dq dq dq);have I:bS U (.slice a d c) aF:=D.fb l m r;have B:=λhg:g=true=>nY (dD 228 dq) (dD 138 dq) js (dD 223 dq) (dD 217 dq) (dD 232 dq) E (t:=⟨f,j,i,.slice a d c,e⟩) I (λy z=>⟨l y z,A hg⟩) N;have⟨Z,rv,Y,xs,G⟩:=m;have o:=G.b;have m:BX S b σ:=⟨_,_,_,_,G⟩;rw[R] at o;have T:=bE (P:=prog) (t:=181) underlying181 rfl o.2 (off:=3) rfl;have W:=bE (P:=prog) (t:=112) underlying112 rfl o.2 (off:=6) rfl;have X:=gN (P:=prog) (t:=60) (n:=5) underlying60 rfl kq q.2 (off:=0) (jl 5);refine EF.iy (dD 218 dq) func218 rfl ?_;refine zs (za (s.add (dF ⟨f,j,i,.slice a d c,e⟩)) ?_);rw[O];refine EW.seq (EW.seq (EW.draw kq kq kq ?_));iterate 3 refine zq ?_
 refine zt S (zu (yl b 3 (num 2) o.2) ?_);iterate 2 refine zq ?_
 iterate 9 refine ET.pass kq ?_
 refine zq (ET.nil ⟨aI [(aB prog 181 (am b 3) S,num 2)] kq (QE ⟨T,rfl⟩),_,_,_,_,_,_,rfl,rfl,?_⟩);refine za S (zF (EW.seq (EW.draw kq kq kq ?_)));iterate 5 refine zq ?_
 refine zt S (zu (yl b 6 (c9 68) o.2) (zu (yA s.nx 0 5 #[num f,str j,str i,.slice a d c,.bool e] q.2 iq) (yt M (zq (ET.nil ⟨aI [(aB prog 112 (am b 6) S,c9 68),(aB prog 60 (am s.nx 0) S,.agg #[num f,str j,str i,.slice a d c,.bool e])] kq (iD ⟨W,rfl⟩ ⟨X,by cases a<;>rfl⟩),_,_,_,_,_,_,rfl,rfl,?_⟩)))));refine za U ?_;cases g with
 | true =>obtain⟨V,e1,J,L⟩:=B rfl;refine zH (zx (zg 1 U (zp (yA s.nx 0 5 #[num f,str j,str i,.slice a d c,.bool e] H.2 iq) (zc 0 e1 (EO.nil ?_)))));exact⟨.inl rfl,kq,J,(C.trans r).trans L⟩
 | false =>refine zF ?_;exact⟨.inl rfl,kq,E,C.trans r⟩
def B6(E:σ.w≠2)(D:cZ pr b t aF (bM t.name kS) σ jA false):eH pr 219 b t aF σ jA:=by
 intro q s h k;have⟨f,i,g,o,e⟩:=t;have k:bS s o aF:=k;have⟨a,c,p⟩:=k.len;subst p;generalize aF.length=d at *;have m:=h.add (dF ⟨f,i,g,.slice a d c,e⟩);have r:=Has.new s (dF ⟨f,i,g,.slice a d c,e⟩);have j:=(aO.refl (K:=λ_=>False) s).add (dF ⟨f,i,g,.slice a d c,e⟩);have v:=(h.fk j).2;have x:bS (s.add (dF ⟨f,i,g,.slice a d c,e⟩)) (.slice a d c) aF:=k.fk j λ_ _=>id;generalize C:s.add (dF ⟨f,i,g,.slice a d c,e⟩)=S at *;have⟨U,y,A,B⟩:=y8 (s:=S) dD (F:=67) (jo:=kS) (λz=>AJ dD js z) (t:=⟨f,i,g,.slice a d c,e⟩) q m x D;have⟨M,N,L,O,u⟩:=m;have l:=u.b;have m:BX S b σ:=⟨_,_,_,_,u⟩;have H:=bE (P:=prog) (t:=181) underlying181 rfl l.2 (off:=3) rfl;have I:=bE (P:=prog) (t:=112) underlying112 rfl l.2 (off:=5) rfl;have J:=gN (P:=prog) (t:=60) (n:=5) underlying60 rfl kq r.2 (off:=0) (jl 5);generalize G:σ.w=w at *;refine EF.iy (dD 219 dq) func219 rfl ?_;refine zs (za (s.add (dF ⟨f,i,g,.slice a d c,e⟩)) ?_);rw[C];refine EW.seq (EW.draw kq kq kq ?_);iterate 3 refine zq ?_
 refine zt S (zu (yl b 3 (num w) l.2) (zu (yb (num w) (num 2) (dk (b:=false) (bF.2 E))) ?_));iterate 6 refine zq ?_
 refine zt S (zu (yl b 5 (c9 67) l.2) (zu (yA s.nx 0 5 #[num f,str i,str g,.slice a d c,.bool e] r.2 iq) (yt y ?_)));iterate 2 refine zq ?_
 refine ET.nil ⟨aI [(aB prog 181 (am b 3) S,num w),(aB prog 112 (am b 5) S,c9 67),(aB prog 60 (am s.nx 0) S,.agg #[num f,str i,str g,.slice a d c,.bool e])] kq (Cq ⟨H,rfl⟩ ⟨I,rfl⟩ ⟨J,by cases a<;>rfl⟩),_,_,_,_,_,_,rfl,rfl,?_⟩;refine za U (zF ?_);exact⟨.inl rfl,kq,A,v.trans B⟩
def PF(G:σ.w=2)(E:cZ pr b t aF (bM t.name iH) σ jA g):eH pr 219 b t aF σ jA:=by
 intro r s h m;have⟨f,j,i,p,e⟩:=t;have m:bS s p aF:=m;have⟨a,c,q⟩:=m.len;subst q;generalize aF.length=d at *;have o:=h.add (dF ⟨f,j,i,.slice a d c,e⟩);have u:=Has.new s (dF ⟨f,j,i,.slice a d c,e⟩);have l:=(aO.refl (K:=λ_=>False) s).add (dF ⟨f,j,i,.slice a d c,e⟩);have x:=(h.fk l).2;have y:bS (s.add (dF ⟨f,j,i,.slice a d c,e⟩)) (.slice a d c) aF:=m.fk l λ_ _=>id;generalize D:s.add (dF ⟨f,j,i,.slice a d c,e⟩)=S at *;have⟨U,A,B,C⟩:=y8 (s:=S) dD (F:=69) (jo:=iH) (λz=>AL dD js z) (t:=⟨f,j,i,.slice a d c,e⟩) r o y E;have⟨M,N,L,O,v⟩:=o;have k:=v.b;have o:BX S b σ:=⟨_,_,_,_,v⟩;rw[G] at k;have H:=bE (P:=prog) (t:=181) underlying181 rfl k.2 (off:=3) rfl;have I:=bE (P:=prog) (t:=112) underlying112 rfl k.2 (off:=7) rfl;have J:=gN (P:=prog) (t:=60) (n:=5) underlying60 rfl kq u.2 (off:=0) (jl 5);refine EF.iy (dD 219 dq) func219 rfl ?_;refine zs (za (s.add (dF ⟨f,j,i,.slice a d c,e⟩)) ?_);rw[D];refine EW.seq (EW.draw kq kq kq ?_);iterate 3 refine zq ?_
 refine zt S (zu (yl b 3 (num 2) k.2) ?_);iterate 2 refine zq ?_
 iterate 9 refine ET.pass kq ?_
 refine zq (ET.nil ⟨aI [(aB prog 181 (am b 3) S,num 2)] kq (QE ⟨H,rfl⟩),_,_,_,_,_,_,rfl,rfl,?_⟩);refine za S (zH ?_);refine EW.draw kq kq kq ?_;iterate 5 refine zq ?_
 refine zt S (zu (yl b 7 (c9 69) k.2) (zu (yA s.nx 0 5 #[num f,str j,str i,.slice a d c,.bool e] u.2 iq) (yt A (ET.nil ⟨aI [(aB prog 112 (am b 7) S,c9 69),(aB prog 60 (am s.nx 0) S,.agg #[num f,str j,str i,.slice a d c,.bool e])] kq (iD ⟨I,rfl⟩ ⟨J,by cases a<;>rfl⟩),_,_,_,_,_,_,rfl,rfl,?_⟩))));exact⟨.inl rfl,kq,B,x.trans C⟩
end
def NG(q:pr 127=bu 127)(z:t.kind=1)(f:∀s,BX s b σ->∃o,Ef pr 216 #[am b 0,str t.text] s (.tuple #[]) o/\BX o b jA/\bG b s o):eH pr 119 b t aF σ jA:=by intro A s h l;have⟨g,a,j,k,d⟩:=t;have l:bS s k aF:=l;have⟨c,e,m⟩:=l.len;subst m;generalize aF.length=i at *;have r:=h.add (dF ⟨g,a,j,.slice c i e,d⟩);have p:=Has.new s (dF ⟨g,a,j,.slice c i e,d⟩);have n:=(aO.refl (K:=λ_=>False) s).add (dF ⟨g,a,j,.slice c i e,d⟩);have u:=(h.fk n).2;generalize y:s.add (dF ⟨g,a,j,.slice c i e,d⟩)=S at *;have⟨U,v,w,x⟩:=f S r;obtain rfl:g=1:=z;refine EF.iy (dD 119 dq) func119 rfl (zs (za (s.add (dF ⟨1,a,j,.slice c i e,d⟩)) ?_));rw[y];exact zr (zg 1 S (zp (yl s.nx 0 (num 1) p.2) (zf (za S (EW.block (zr (zf (za S (zH (zx (zg 2 S (zp (yl s.nx 1 (str a) p.2) (zc 0 v (EO.nil ⟨.inl rfl,kq,w,u.trans x⟩))))))))))))))
def NF(p:pr 127=bu 127)(z:t.kind=2)(A:eH pr 218 b t aF σ jA):eH pr 119 b t aF σ jA:=by
 intro n s h k;have⟨i,g,f,l,e⟩:=t;have k:bS s l aF:=k;have⟨a,c,m⟩:=k.len;subst m;generalize aF.length=d at *;have q:=h.add (dF ⟨i,g,f,.slice a d c,e⟩);have o:=Has.new s (dF ⟨i,g,f,.slice a d c,e⟩);have j:=(aO.refl (K:=λ_=>False) s).add (dF ⟨i,g,f,.slice a d c,e⟩);have r:=(h.fk j).2;have u:bS (s.add (dF ⟨i,g,f,.slice a d c,e⟩)) (.slice a d c) aF:=k.fk j λ_ _=>id;generalize y:s.add (dF ⟨i,g,f,.slice a d c,e⟩)=S at *;have⟨U,v,w,x⟩:=A n S q u;obtain rfl:i=2:=z;refine EF.iy (dD 119 dq) func119 rfl ?_;refine zs (za (s.add (dF ⟨2,g,f,.slice a d c,e⟩)) ?_);rw[y];refine zr (zg 1 S (zp (yl s.nx 0 (num 2) o.2) (zf (za S (EW.block ?_)))));iterate 2
  refine zr ?_
  refine zf ?_
  refine za S ?_
  refine zG ?_
 exact zr (zf (za S (zH (zx (zg 1 S (zp (yA s.nx 0 5 #[num 2,str g,str f,.slice a d c,.bool e] o.2 iq) (zc 0 v (EO.nil ⟨.inl rfl,kq,w,r.trans x⟩))))))))
def NE(p:pr 127=bu 127)(z:t.kind=3)(A:eH pr 219 b t aF σ jA):eH pr 119 b t aF σ jA:=by
 intro n s h k;have⟨i,g,f,l,e⟩:=t;have k:bS s l aF:=k;have⟨a,c,m⟩:=k.len;subst m;generalize aF.length=d at *;have q:=h.add (dF ⟨i,g,f,.slice a d c,e⟩);have o:=Has.new s (dF ⟨i,g,f,.slice a d c,e⟩);have j:=(aO.refl (K:=λ_=>False) s).add (dF ⟨i,g,f,.slice a d c,e⟩);have r:=(h.fk j).2;have u:bS (s.add (dF ⟨i,g,f,.slice a d c,e⟩)) (.slice a d c) aF:=k.fk j λ_ _=>id;generalize y:s.add (dF ⟨i,g,f,.slice a d c,e⟩)=S at *;have⟨U,v,w,x⟩:=A n S q u;obtain rfl:i=3:=z;refine EF.iy (dD 119 dq) func119 rfl ?_;refine zs (za (s.add (dF ⟨3,g,f,.slice a d c,e⟩)) ?_);rw[y];refine zr (zg 1 S (zp (yl s.nx 0 (num 3) o.2) (zf (za S (EW.block ?_)))));iterate 3
  refine zr ?_
  refine zf ?_
  refine za S ?_
  refine zG ?_
 exact zr (zf (za S (zH (zx (zg 1 S (zp (yA s.nx 0 5 #[num 3,str g,str f,.slice a d c,.bool e] o.2 iq) (zc 0 v (EO.nil ⟨.inl rfl,kq,w,r.trans x⟩))))))))
end
end
section
variable {aF:fF}
def NK:∀(a:List gp) (i:Nat) (t:gp),a[i]?=some t->(((ox a).toList.drop (i*5)).take 5).toArray=(dU t).toArray:=by
 intro a i t h;have b:∀(a:List gp) (i:Nat),a[i]?=some t->((a.flatMap dU).drop (i*5)).take 5=dU t:=by
  intro a;induction a with
  | nil=>intro i h;simp at h
  | cons x l c =>
   intro i h;match i with
   | 0=>simp at h;subst h;rfl
   | i+1=>rw[show(i+1)*5=i*5+5 by omega];exact c i (by simpa using h)
 rw[show(ox a).toList=a.flatMap dU by simp[ox],b a i h]
def pk(pr:Prim):List Tok->TS->TS->Prop
 | [],σ,jA=>jA=σ
 | u::us,σ,jA=>∃Lh,(∀b at_,eH pr 119 b ⟨u.kind,u.text,u.name,at_,u.closed⟩ u.aM σ Lh)/\pk pr us Lh jA
def TS.zero:TS:=⟨[⟨1,-1,nW,[],[]⟩],[0],[],0⟩
def Ro (B:Nat)(v:Value)(n i:Nat)(x:Nq):TL:=[v,x 1,x 2,x 3,x 4,x 5,am B 0,x 7,x 8,x 9,x 10,x 11,x 12,x 13,x 14,v,num (n:Nat),num (i:Nat)]++gD x 18 9
theorem Lz(dD:∀f,f∈dJ->pr f=none)(hv:rQ s v ts)(hm:gu s ts us)(hn:us.length<=1000000)(hr:pk pr us TS.zero jA){BC:TS}(zU:∀(s:AS) (b:Nat),BX s b jA->∃s',Ef pr 120 #[am b 0] s (.tuple #[]) s'/\BX s' b BC/\bG b s s'):∃s' w xs,Ef pr 64 #[v,.agg #[c9 65,c9 67,c9 68,c9 69]] s w s'/\rP s' w xs/\fJ s' xs BC.nodes/\aO (λ_=>False) s s'/\∀x,blk w x->s.nx<=x:=by
 suffices h:Ew pr (match Tryz.f64.body with|some c=>c|none=>.skip) ((#[v,.agg #[c9 65,c9 67,c9 68,c9 69]]:Aq).toList++List.replicate (Tryz.f64.ntmps-(#[v,.agg #[c9 65,c9 67,c9 68,c9 69]]:Aq).toList.length) undef) s (λe a' s1=>(e=.normal\/e=.ret)/\∃w xs,c8 prog Tryz.f64 a' s1=some w/\rP s1 w xs/\fJ s1 xs BC.nodes/\aO (λ_=>False) s s1/\∀x,blk w x->s.nx<=x) by have⟨m,e,a',s1,h1,he,w,xs,h2,h3⟩:=h;exact⟨s1,w,xs,EF.of (dD 64 dq) func64 rfl ⟨m,e,a',s1,h1,he,h2,rfl⟩,h3⟩
 obtain⟨Sj,Sl,hvv⟩:∃Sj Sl,v=.slice Sj ts.length Sl:=by
  rcases hv with ⟨rfl,rfl⟩|⟨d,fz,rfl,_⟩
  .exact⟨none,0,rfl⟩
  .exact⟨_,_,rfl⟩
 subst hvv;have hlen:ts.length=us.length:=hm.1;have a0:=Has.new s (.cells #[c9 65,c9 67,c9 68,c9 69] 116);have f0:=(aO.refl (K:=λ_=>False) s).add (.cells #[c9 65,c9 67,c9 68,c9 69] 116);have n0:(s.add (.cells #[c9 65,c9 67,c9 68,c9 69] 116)).nx=s.nx+1:=rfl;generalize VG:s.add (.cells #[c9 65,c9 67,c9 68,c9 69] 116)=A0 at a0 f0 n0;have z1:=Has.new A0 (.cells #[num 0,num 0,str [],str [],aD] 44);have y1:(A0.add (.cells #[num 0,num 0,str [],str [],aD] 44)).set A0.nx (some (.cells #[num 1,num (-1),str nW,str [],aD] 44))=A0.add (.cells #[num 1,num (-1),str nW,str [],aD] 44):=AS.set_set (⟨A0.hp,A0.nx+1⟩:AS) A0.nx (some (.cells #[num 0,num 0,str [],str [],aD] 44)) (some (.cells #[num 1,num (-1),str nW,str [],aD] 44));have a1:=Has.new A0 (.cells #[num 1,num (-1),str nW,str [],aD] 44);have b1:=a0.add (.cells #[num 1,num (-1),str nW,str [],aD] 44);have f1:=f0.add (.cells #[num 1,num (-1),str nW,str [],aD] 44);have n1:(A0.add (.cells #[num 1,num (-1),str nW,str [],aD] 44)).nx=s.nx+2:=by show A0.nx+1=_;omega
 generalize hA1:A0.add (.cells #[num 1,num (-1),str nW,str [],aD] 44)=A1 at y1 a1 b1 f1 n1;have a2:=Has.new A1 (.cells #[num 1,num (-1),str nW,str [],aD] 44);have b2:=b1.add (.cells #[num 1,num (-1),str nW,str [],aD] 44);have f2:=f1.add (.cells #[num 1,num (-1),str nW,str [],aD] 44);have n2:(A1.add (.cells #[num 1,num (-1),str nW,str [],aD] 44)).nx=s.nx+3:=by show A1.nx+1=_;omega
 generalize P9:A1.add (.cells #[num 1,num (-1),str nW,str [],aD] 44)=A2 at a2 b2 f2 n2;have a3:=Has.new A2 (.cells #[num 0] 3);have c2:=a2.add (.cells #[num 0] 3);have b3:=b2.add (.cells #[num 0] 3);have f3:=f2.add (.cells #[num 0] 3);have n3:(A2.add (.cells #[num 0] 3)).nx=s.nx+4:=by show A2.nx+1=_;omega
 generalize Tc:A2.add (.cells #[num 0] 3)=A3 at a3 c2 b3 f3 n3;have z4:=Has.new A3 (.cells #[aD,aD,aD,num 0,.nilFunc,.nilFunc,.nilFunc,.nilFunc] 183);have y4:(A3.add (.cells #[aD,aD,aD,num 0,.nilFunc,.nilFunc,.nilFunc,.nilFunc] 183)).set A3.nx (some (jB (.slice (sq A1.nx) 1 1) (.slice (sq A2.nx) 1 1) aD 0))=A3.add (jB (.slice (sq A1.nx) 1 1) (.slice (sq A2.nx) 1 1) aD 0):=AS.set_set (⟨A3.hp,A3.nx+1⟩:AS) A3.nx (some (.cells #[aD,aD,aD,num 0,.nilFunc,.nilFunc,.nilFunc,.nilFunc] 183)) (some _);have a4:=Has.new A3 (jB (.slice (sq A1.nx) 1 1) (.slice (sq A2.nx) 1 1) aD 0);have c3:=a3.add (jB (.slice (sq A1.nx) 1 1) (.slice (sq A2.nx) 1 1) aD 0);have d2:=c2.add (jB (.slice (sq A1.nx) 1 1) (.slice (sq A2.nx) 1 1) aD 0);have f4:=f3.add (jB (.slice (sq A1.nx) 1 1) (.slice (sq A2.nx) 1 1) aD 0);have n4:(A3.add (jB (.slice (sq A1.nx) 1 1) (.slice (sq A2.nx) 1 1) aD 0)).nx=s.nx+5:=by show A3.nx+1=_;omega
 generalize hA4:A3.add (jB (.slice (sq A1.nx) 1 1) (.slice (sq A2.nx) 1 1) aD 0)=A4 at y4 a4 c3 d2 f4 n4;have YI:yK A3.nx [⟨1,-1,nW,[],aD⟩]:=by
  have key:∀(i:Nat) (x:bY) (y:Nat),[(⟨1,-1,nW,[],aD⟩:bY)][i]?=some x->¬blk x.aM y:=λi x y hx hy=>by
   match i with
   | 0=>cases hx;exact bR hy
   | i+1=>cases hx
  exact⟨λi x y hx hy=>(key i x y hx hy).elim,λi j x x' y hx _ _ hy _=>(key i x y hx hy).elim⟩
 have hT:BT A4 A3.nx (.slice (sq A1.nx) 1 1) (.slice (sq A2.nx) 1 1) aD [⟨1,-1,nW,[],aD⟩] TS.zero :=
  ⟨YI,a4,⟨_,_,_,rfl,d2⟩,⟨rfl,λi x u h1 h2=>by
   match i with
   | 0=>cases h1;cases h2;exact⟨rfl,rfl,rfl,rfl,.inl ⟨rfl,rfl⟩⟩
   | i+1=>simp at h1⟩,.inr ⟨_,_,_,_,rfl,jl 1,c3.1,c3.2,λi k h=>by
   match i with
   | 0=>cases h;rfl
   | i+1=>simp[TS.zero] at h⟩,.inl ⟨rfl,rfl⟩,λx _ z=>bR z,λk hk=>by simp[TS.zero] at hk;subst hk;decide,λk hk=>by simp[TS.zero] at hk,by simp[TS.zero],by decide⟩;have hK:∀x,KB A3.nx A4 x->s.nx<=x:=λx z=>by
  rcases(KB.at a4.2).1 z with z|z|z|z|z
  .omega
  iterate 2
   .rw[cH z];omega
  .exact(bR z).elim
  .have:=z.1;omega
 have hX:BX A4 A3.nx TS.zero:=⟨_,_,_,_,hT⟩;refine zs (za (s.add (.cells #[c9 65,c9 67,c9 68,c9 69] 116)) ?_);rw[VG];refine zr (zg 2 (A0.add (.cells #[num 0,num 0,str [],str [],aD] 44)) (zp (fx (b:=A0.nx) (off:=0) (w:=.agg #[num 1,num (-1),str nW,str [],aD]) (ws:=[num 1,num (-1),str nW,str [],aD]) rfl kq kq rfl rfl kq (Has.new A0 _).2 iq) (EO.nil (za ((A0.add (.cells #[num 0,num 0,str [],str [],aD] 44)).set A0.nx (some (.cells #[num 1,num (-1),str nW,str [],aD] 44))) ?_))));rw[y1];refine zr (zp (yA A0.nx 0 5 #[num 1,num (-1),str nW,str [],aD] a1.2 iq) (zk 1 (zo (A1.add (.cells #[num 1,num (-1),str nW,str [],aD] 44)) ?_)));rw[P9];refine zk 1 (zo (A2.add (.cells #[num 0] 3)) ?_);rw[Tc];refine zp (yA s.nx 0 4 #[c9 65,c9 67,c9 68,c9 69] b3.2 iq) (zk 2 (zo (A3.add (.cells #[aD,aD,aD,num 0,.nilFunc,.nilFunc,.nilFunc,.nilFunc] 183)) (zp (fx (b:=A3.nx) (off:=0) (w:=.agg #[.slice (sq A1.nx) 1 1,.slice (sq A2.nx) 1 1,aD,num 0,c9 65,c9 67,c9 68,c9 69]) (ws:=[.slice (sq A1.nx) 1 1,.slice (sq A2.nx) 1 1,aD,num 0,c9 65,c9 67,c9 68,c9 69]) rfl kq kq rfl rfl kq z4.2 iq) (EO.nil (za ((A3.add (.cells #[aD,aD,aD,num 0,.nilFunc,.nilFunc,.nilFunc,.nilFunc] 183)).set A3.nx (some (jB (.slice (sq A1.nx) 1 1) (.slice (sq A2.nx) 1 1) aD 0))) ?_)))));rw[y4];refine EW.seq (zr (zf (za A4 ?_)));generalize A3.nx=B at *;generalize TM:ts.length=n at *;refine EW.fill (Ro B (.slice Sj n Sl) n 0) kq ?_;intro x0;refine EW.block ?_;refine EW.mono (EW.dG (Q:=λe a' s1=>e=.exit 0/\BX s1 B jA/\bG B A4 s1/\∃x,a'=Ro B (.slice Sj n Sl) n n x) (λm a' s1=>∃i Z2,i+m=n/\BX s1 B Z2/\bG B A4 s1/\pk pr (us.drop i) Z2 jA/\∃x,a'=Ro B (.slice Sj n Sl) n i x) ?_ n _ _ ⟨0,TS.zero,by omega,hX,bG.refl A4,hr,x0,rfl⟩) ?_
 .rintro m a' U ⟨i,Z2,him,hU,L6,Tx,x,rfl⟩;by_cases hi:i<n
  .have hlu:i<us.length:=oq
   rw[List.drop_eq_getElem_cons hlu] at Tx;have hux:us[i]?=some us[i]:=gE hlu;generalize us[i]=u at hux Tx;have kF:i<ts.length:=oq
   have YO:ts[i]?=some ts[i]:=gE kF;generalize ts[i]=t at YO;have⟨m1,m2,m3,m4,m5⟩:=hm.2 i t u YO hux;obtain⟨dd,fz,rfl,X4⟩:∃dd fz,Sj=some ⟨dd,0,none⟩/\Has s dd (.cells (ox ts) 60 fz):=by
    rcases hv with ⟨_,z⟩|⟨d,fz,z,hh⟩
    .rw[z] at kF;simp at kF
    .grind
   have hdA:=X4.fr f4 id;have hdU:=hdA.fr L6.1 (hX.no hdA dq dq dq);have hbr:∀y,blk t.at_ y->y<B:=λy hy=>by
    rcases m5 with ⟨e,_⟩|⟨d,c,fz,e,q1,q2⟩
    .rw[e] at hy;exact(bR hy).elim
    .rw[e] at hy;rw[cH hy];omega
   have R3:bS U t.at_ u.aM:=(m5.fk f4 λ_ _=>id).fb hbr hX L6;have⟨Lh,zV,Tt⟩:=Tx;have zV:=zV B t.at_;rw[<-m1,<-m2,<-m3,<-m4] at zV;have G5:=NK ts i t YO;have zW:=rK ts;have⟨kd,tx,nm,at_,cl⟩:=t;have R3:bS U at_ u.aM:=R3;have⟨ad,cp,pO⟩:=R3.len;subst pO;generalize u.aM.length=nA at *;have e1:=hU.add (dF ⟨kd,tx,nm,.slice ad nA cp,cl⟩);have e2:=Has.new U (dF ⟨kd,tx,nm,.slice ad nA cp,cl⟩);have hfa:=(aO.refl (K:=λ_=>False) U).add (dF ⟨kd,tx,nm,.slice ad nA cp,cl⟩);have e3:=(hU.fk hfa).2;have e4:bS (U.add (dF ⟨kd,tx,nm,.slice ad nA cp,cl⟩)) (.slice ad nA cp) u.aM:=R3.fk hfa λ_ _=>id;have ez:=Has.new U (.cells #[num 0,str [],str [],aD,.bool false] 60);have ey:(U.add (.cells #[num 0,str [],str [],aD,.bool false] 60)).set U.nx (some (dF ⟨kd,tx,nm,.slice ad nA cp,cl⟩))=U.add (dF ⟨kd,tx,nm,.slice ad nA cp,cl⟩):=AS.set_set (⟨U.hp,U.nx+1⟩:AS) U.nx (some (.cells #[num 0,str [],str [],aD,.bool false] 60)) (some _);generalize hW:U.add (dF ⟨kd,tx,nm,.slice ad nA cp,cl⟩)=W at *;have⟨W2,g1,g2,g3⟩:=zV hbr W e1 e4;refine zr (zp (yb (num (i:Nat)) (num (n:Nat)) (aX (b:=true) (tD oq))) (EO.nil (EW.seq (zT (EW.seq (EW.block (za U (zr (zp (yi dd 0 n Sl (i*5) none .i64 (i:Nat) 5 oq oq oq) (zo U (zp (rB (b:=dd) (off:=i*5) (n:=5) (r:=#[num kd,str tx,str nm,.slice ad nA cp,.bool cl]) rfl underlying60 rfl kq kq hdU.2 (by rw[zW];omega) G5) (zk 1 (zo (U.add (.cells #[num 0,str [],str [],aD,.bool false] 60)) (zp (fx (b:=U.nx) (off:=0) (w:=.agg #[num kd,str tx,str nm,.slice ad nA cp,.bool cl]) (ws:=[num kd,str tx,str nm,.slice ad nA cp,.bool cl]) rfl kq kq rfl rfl kq ez.2 iq) (EO.nil (za ((U.add (.cells #[num 0,str [],str [],aD,.bool false] 60)).set U.nx (some (dF ⟨kd,tx,nm,.slice ad nA cp,cl⟩))) ?_))))))))))))))));rw[ey];refine zx (zp (yA U.nx 0 5 #[num kd,str tx,str nm,.slice ad nA cp,.bool cl] e2.2 iq) (zc 0 g1 (EO.nil (za W2 (zx (zp (yp (i:Nat) 1 ((i+1:Nat):Int) oq oq) (zf ?_)))))));exact⟨m-1,by omega,i+1,Lh,by omega,g2,(L6.trans e3).trans g3,Tt,aR kq⟩
  .obtain rfl:i=n:=oq
   rw[K3 oq] at Tx;cases Tx;exact zr (zp (yb (num (i:Nat)) (num (i:Nat)) (aX (b:=false) (fD oq))) (EO.nil (za U (EW.seq (zG (EW.exit ⟨rfl,hU,L6,aR kq⟩))))))
 .rintro e a' U ⟨rfl,hU,L6,x,rfl⟩;have⟨V,hbo,hV,hfV⟩:=zU U B hU;have⟨nv,rv,av,xs,hB⟩:=hV;have hb:=hB.b;have⟨nd,nc,nf,Ql,L8⟩:=hB.n;subst Ql;refine zr (zc 0 hbo (EO.nil (za V (zr (zg 1 V (zp (yl B 0 (.slice (sq nd) xs.length nc) hb.2) (zf (za V ?_))))))));have L6:=L6.trans hfV;refine EW.ret ⟨.inr rfl,_,xs,kq,hB.n,hB.m,f4.trans L6.1 λy hy z=>by have:=hK y z;omega,λx z=>?_⟩;by_cases kF:x<A4.nx
  .exact hK x (L6.2 x kF ((KB.at hb.2).2 (.inr (.inl z))))
  .omega
def Ry(e:∀f,f∈dJ->pr f=none)(m:rQ s v ts)(p:gu s ts us)(q:us.length<=1000000)(r:pk pr us TS.zero jA){BC:TS}(c:∀(s:AS) (b:Nat),BX s b jA->∃a,Ef pr 120 #[am b 0] s (.tuple #[]) a/\BX a b BC/\bG b s a):∃a w i,Ef pr 39 #[v] s w a/\rP a w i/\fJ a i BC.nodes/\aO (λ_=>False) s a/\∀x,blk w x->s.nx<=x:=by
 have⟨a,w,i,h1,h2,h3,n,o⟩:=Lz e m p q r c;obtain⟨g,h,l⟩:∃g h,v=.slice g ts.length h:=by
  rcases m with ⟨rfl,rfl⟩|⟨d,fz,rfl,_⟩
  .exact⟨none,0,rfl⟩
  .exact⟨_,_,rfl⟩
 subst l;have⟨u,t,y,k,j⟩:=h2;subst k;refine⟨a,_,i,?_,⟨u,t,y,rfl,j⟩,h3,n,o⟩;exact EF.of (e 39 dq) func39 rfl (zs (zr (zk 6 (zc 0 h1 (zf yR)))))
end
section
variable {aF:fF}
def cZ.no(h:aK pr b t aF d σ jA false):cZ pr b t aF (d::ds) σ jA false:=⟨jA,false,h,.inr ⟨rfl,rfl,rfl⟩⟩
def cZ.ok{a:TS}(h:aK pr b t aF d σ a true)(c:cZ pr b t aF ds a jA g):cZ pr b t aF (d::ds) σ jA g:=⟨a,true,h,.inl ⟨rfl,c⟩⟩
def cZ.nil:cZ pr b t aF [] σ σ true:=⟨rfl,rfl⟩
end
section
variable {aF:fF}
def aK.go{fn:Func}{c:Code}(q:pr F=none)(A:prog.funcs[F]?=some fn)(w:fn.body=some c)
 (h:∀(s S:AS) (x:Aq) (kd:Int) (tx a:Bq) (ad:Option Addr) (B cp:Nat) (f:Bool),t=⟨kd,tx,a,.slice ad B cp,f⟩->s.add (dF t)=S->Has S s.nx (dF t)->cm S (.func (.func F) #[] x) ⟨F,l,m⟩->BX S b σ->bS S t.at_ aF->(∀y,blk t.at_ y->y<b) ->
   Ew pr c ((#[am b 0,.agg (dU t).toArray]++x).toList++List.replicate (fn.ntmps-(#[am b 0,.agg (dU t).toArray]++x).toList.length) undef) s λe j d=>(e=.normal\/e=.ret)/\c8 prog fn j d=some (.bool g)/\BX d b jA/\bG b S d):aK pr b t aF ⟨F,l,m⟩ σ jA g:=by intro p s x v z i;have⟨kd,tx,a,k,f⟩:=t;have i:bS s k aF:=i;obtain⟨ad,cp,rfl⟩:=i.len;have o:=(aO.refl (K:=λ_=>False) s).add (dF ⟨kd,tx,a,.slice ad aF.length cp,f⟩);have⟨C,D⟩:=v.fk o;have⟨n,e,j,d,h1,h2,h3,r,u⟩:=h s _ x kd tx a ad aF.length cp f rfl rfl (Has.new s _) (z.vT o) C (i.fk o λ_ _=>id) p;exact⟨d,EF.of q A w ⟨n,e,j,d,h1,h2,h3,rfl⟩,r,D.trans u⟩
def aK.current(a:∀f,f∈dJ->pr f=none)(e:pr 127=bu 127){u:Nd}(H:σ.nodes[σ.cur]?=some u)(E:aH u.name l=true)(h2:2<=σ.row.length):aK pr b t aF ⟨230,l,[]⟩ σ σ.pop true:=by
 refine aK.go (a 230 dq) func230 rfl λs S x K N h m M p o G A O D i P F=>?_;subst G;have⟨x',r,T,q,V,W,_⟩:=D;cases r;obtain⟨B,v,rfl,j,C⟩:=q rfl;have⟨U,w,y,z⟩:=y0 (a 221 dq) (a 318 dq) (a 363 dq) e (a 319 dq) (a 142 dq) i h2;have⟨Z,rv,Q,xs,g⟩:=i;have g1:=tH (a 232 dq) g;have g2:=Cx (a 231 dq) g (TS.lX g.ne) H;obtain⟨I,d,c,X,rfl,J⟩:=C;have g3:=oL e (Hc:=l) (d:=d) (c:=c) J.2 I (bb:=true) E;have e1:((σ.row.length:Nat)-1:Int)=((σ.row.length-1:Nat):Int):=oq
 rw[e1] at g1;have L:=bE underlying62 rfl j.2 (off:=0) rfl;generalize Y:σ.row.length-1=R at *;generalize l.length=n at *;refine zs (za (s.add (dF ⟨K,N,h,.slice m M p,o⟩)) ?_);rw[A];refine EW.seq (EW.seq (EW.draw kq kq kq ?_));iterate 2 refine zq ?_
 refine zt S (yt g1 (yt g2 (zu (yl B 0 (.slice (sq d) n c) j.2) (yt g3 (ET.nil ⟨aI [(aB prog 62 (am B 0) S,.slice (sq d) n c),(aB prog 62 (am B 0) S,.slice (sq d) n c),(aB prog 62 (am B 0) S,.slice (sq d) n c)] kq (by intro x k;simp only[nk,vh,or_false,or_self] at k;subst k;exact⟨L,rfl⟩),_,_,_,_,_,_,rfl,rfl,?_⟩)))));exact za S (zH (zx (zk 2 (zo S (zc 0 g1 (zc 0 w (EO.nil (za U (zs (za U (EW.ret ⟨.inr rfl,kq,y,z⟩)))))))))))
end
def TS.tR(σ:TS)(k:Nat):Bool:=aH (σ.ef k) bq
def TS.eE(σ:TS)(i:Nat):TS:=⟨σ.nodes,σ.row.take i,if (σ.row.drop i).any σ.uN then [] else σ.again++((σ.row.drop i).drop 1).filter σ.tR,σ.w⟩
def OQ(b i rd L rc j:Nat)(x:Nq):TL:=[am b 0,num (i:Nat),x 2,x 3,.slice (some ⟨rd,i,none⟩) (L+1) rc]++gD x 5 36++[.slice (some ⟨rd,i+1,none⟩) L (rc-1),num (L:Nat),num (j:Nat)]++gD x 44 17
variable {nv rv av v2 wA u7:Value}{xs:List bY}
section
variable {v:Value}
theorem TS.py(h:2<=σ.row.length):σ.eE (σ.row.length-1)=σ.pop:=by
 have U:σ.row≠[]:=λe=>by rw[e] at h;simp at h
 have a:σ.row.drop (σ.row.length-1)=[σ.cur]:=by
  have e:=List.dropLast_concat_getLast U;have b:σ.cur=σ.row.getLast U:=by show σ.row.getLastD 0=_;grind
  grind
 unfold TS.eE TS.pop;rw[a,List.dropLast_eq_take];simp
def H7(W:pr 221=none)(X:pr 318=none)(Z:pr 363=none)(H:pr 127=bu 127)(Y:pr 319=none)(T:pr 142=none)(P8:pr 320=none)(XD:pr 137=none)(h:BX s b σ){i:Nat}(hi1:1<=i)(hi2:i<σ.row.length)(hag:σ.again.length<=50000) :
  ∃s',Ef pr 221 #[am b 0,num (i:Nat)] s (.tuple #[]) s'/\BX s' b (σ.eE i)/\bG b s s':=by
 by_cases TC:i=σ.row.length-1
 .subst TC;rw[TS.py oq];exact y0 W X Z H Y T h oq
 have⟨E,rv,A,xs,h⟩:=h;have zW:=h.sz;have⟨rd,f,G,rf,P,Mc,B,K8,Sa⟩:=h.r.at (TS.lX h.ne);have I:∀i k:Nat,σ.row[i]?=some k->G[i]?=some (num (k:Nat)):=by
  rcases h.r with ⟨e,_⟩|⟨d,cp,o9,fz,e,q0,q1,q2,q3⟩
  .rw[P] at e;cases e
  .rw[P] at e;cases e
   have:=B.2;rw[q2] at this;cases this;exact q3
 obtain⟨L,hL⟩:∃L,σ.row.length=i+(L+1):=⟨σ.row.length-i-1,by omega⟩
 have TW:(σ.row.take i).length=i:=by rw[List.length_take];omega
 have R8:(σ.row.drop i).length=L+1:=by rw[List.length_drop];omega
 have TT:eS s (.slice (sq rd) i f) (σ.row.take i):=.inr ⟨rd,f,G,rf,by rw[TW],by rw[TW];omega,B.1,B.2,λj k o=>I j k (by
  rw[Bu] at o;split at o
  .exact o
  .cases o)⟩;have hbl:∀x,blk (.slice (sq rd) i f) x->blk rv x:=λx z=>by rw[P,cH z];exact dj _ _ _
 have Yr:σ.row.take i≠[]:=λe=>by have:=congrArg List.length e;rw[TW] at this;simp at this;omega
 have Qj:∀k∈σ.row.take i,k∈σ.row:=λk o=>List.mem_of_mem_take o;have⟨u1,u2⟩:=h.upd (wA:=.slice (sq rd) i f) (u7:=A) (w':=σ.w) TT h.a (λx z=>h.ra x (hbl x z)) (λk o=>h.lt k (Qj k o)) h.la Yr ⟨oq,zW.2.2⟩ (.inl hbl) (.inl λ_ z=>z);have hb:=h.b;rw[P] at hb;have TP:Has (s.set b (some (jB E (.slice (sq rd) i f) A σ.w))) rd (.cells G 3 rf):=B.set (B.ne h.b dq) _;generalize hU:s.set b (some (jB E (.slice (sq rd) i f) A σ.w))=U at *;have⟨V,t1,t2⟩:=KG (σ:=⟨σ.nodes,σ.row.take i,σ.again,σ.w⟩) X Z H Y T u1 (rd:=rd) (off:=i) (n:=L+1) (c:=f-i) (ks:=σ.row.drop i) R8 TP (λj k o=>I _ _ (by rw[K2] at o;exact o)) (λk o=>h.lt _ (List.mem_of_mem_drop o)) oq;have v1:=u1.fk t2 λ_ _ _ _ _ z=>z.elim;have v2:bG b U V:=bG.mk' u1.b v1.b (t2.mono λ_ _ z=>z.elim) (.inl rfl) (.inl λ_ z=>z) (.inl λ_ z=>z);have TQ:=TP.fr t2 id;have YL:((σ.row.drop i).any (⟨σ.nodes,σ.row.take i,σ.again,σ.w⟩:TS).uN)=(σ.row.drop i).any σ.uN:=rfl;rw[YL] at t1;unfold TS.eE;generalize hbb:(σ.row.drop i).any σ.uN=bb at t1 |-;refine EF.iy W func221 rfl ?_;refine EW.seq (zr (zk 1 (zp (yb (num (i:Nat)) (num (-1)) (dk (b:=false) (bF.2 oq))) (zg 5 s (zp (yl b 1 (.slice (sq rd) σ.row.length f) hb.2) (zk 1 (zp (yb (num (i:Nat)) (num (σ.row.length:Nat)) (eZ (b:=false) (fD oq))) (zf (za s (zF (zr (zg 3 s (zp (yl b 1 (.slice (sq rd) σ.row.length f) hb.2) (zg 1 s (zp (mh (b:=rd) (off:=0) (n:=σ.row.length) (cp:=f) (i:=i) (j:=σ.row.length) (sz:=1) rfl underlying25 kq B.2 kq ((show _=bD σ.row.length f (some (num (i:Nat))) none by kernel_rfl).trans ((gL oq oq).trans (by rw[xn]))) oq) ?_)))))))))))))));rw[show 0+i*1=i by omega,show σ.row.length-i=L+1 by omega];refine zf (za s (zr (zg 4 s (zp (yl b 1 (.slice (sq rd) σ.row.length f) hb.2) (zg 1 s (zp (mh (b:=rd) (off:=0) (n:=σ.row.length) (cp:=f) (i:=0) (j:=i) (sz:=1) rfl underlying25 kq B.2 kq ((show _=bD σ.row.length f none (some (num (i:Nat))) by kernel_rfl).trans ((oG oq oq).trans (by rw[xn]))) oq) ?_))))));rw[show i-0=i by omega,show f-0=f by omega];refine zg 2 s (zp (ys b 1 (.slice (sq rd) i f) hb.2 iq) (EO.nil (za (s.set b (some (jB E (.slice (sq rd) i f) A σ.w))) ?_)));rw[hU];refine EW.seq (zr (zc 3 t1 (EO.nil (za V ?_))));cases bb with
 | true =>obtain⟨w1,w2⟩:=v1.upd (wA:=.slice (sq rd) i f) (u7:=aD) (w':=σ.w) v1.r (.inl ⟨rfl,rfl⟩) (λx _ z=>bR z) v1.lt iq v1.ne ⟨v1.sz.2.1,by simp⟩ (.inl λ_ z=>z) (.inr λx z=>(bR z).elim);refine zH (zr (zg 3 V (zp (ys b 2 aD v1.b.2 iq) (EO.nil ?_))));exact EW.ret ⟨.inr rfl,kq,⟨_,_,_,_,w1⟩,(u2.trans v2).trans w2⟩
 | false =>
  refine zF (zr (zg 1 V (zp (mh (b:=rd) (off:=i) (n:=L+1) (cp:=f-i) (i:=1) (j:=L+1) (sz:=1) rfl underlying25 kq TQ.2 kq ((show _=bD (L+1) (f-i) (some (num ((1:Nat):Int))) none by kernel_rfl).trans ((gL oq oq).trans (by rw[xn]))) oq) ?_)));rw[show i+1*1=i+1 by omega,show L+1-1=L by omega];refine zf (za V (EW.fill (OQ b i rd L (f-i) 0) kq ?_));intro x0;refine EW.block ?_;have X4:(σ.row.drop i).drop 1=σ.row.drop (i+1):=by rw[List.drop_drop]
  rw[X4];have Qi:(σ.row.drop (i+1)).length=L:=by rw[List.length_drop];omega
  have Qh:∀k∈σ.row.drop (i+1),k<σ.nodes.length:=λk o=>h.lt _ (List.mem_of_mem_drop o);have hkc:∀j k:Nat,(σ.row.drop (i+1))[j]?=some k->G[i+1+j]?=some (num (k:Nat)):=λj k o=>I _ _ (by rw[K2] at o;exact o);generalize σ.row.drop (i+1)=ks at Qi Qh hkc |-;refine EW.mono (EW.dG (Q:=λe a' S=>e=.exit 0/\∃A,BT S b E (.slice (sq rd) i f) A xs ⟨σ.nodes,σ.row.take i,σ.again++ks.filter σ.tR,σ.w⟩/\bG b V S) (λm a' S=>∃j A,j+m=L/\BT S b E (.slice (sq rd) i f) A xs ⟨σ.nodes,σ.row.take i,σ.again++(ks.take j).filter σ.tR,σ.w⟩/\bG b V S/\Has S rd (.cells G 3 rf)/\∃x,a'=OQ b i rd L (f-i) j x) ?_ L _ _ ⟨0,A,by omega,by simpa using v1,bG.refl _,TQ,x0,rfl⟩) ?_
  .rintro m a' S ⟨j,A,hjm,h1,h2,h3,x,rfl⟩;by_cases hm:0<m
   .have xl:j<ks.length:=oq
    have hx:ks[j]?=some ks[j]:=gE xl;have R:(ks.take (j+1)).filter σ.tR=(ks.take j).filter σ.tR++(if σ.tR ks[j]=true then [ks[j]] else []):=by rw[List.take_add_one,hx,List.filter_append];simp only[Option.toList_some,List.filter_cons,List.filter_nil]
    have Tj:ks[j]∈ks:=D3 xl;have To:((ks.take j).filter σ.tR).length<=40:=by have:=List.length_filter_le σ.tR (ks.take j);rw[List.length_take] at this;omega
    generalize ks[j]=k at hx R Tj;have Yj:=Qh k Tj;have XZ:=hkc j k hx;obtain⟨u,hu⟩:∃u,σ.nodes[k]?=some u:=⟨_,gE Yj⟩;have qI:σ.tR k=aH u.name bq:=by simp[TS.tR,TS.ef,hu]
    have D:=Ga H P8 XD h1 (k:=k) hu;rw[<-qI] at D;have g:=h1.add (.cells (bq.map str).toArray 9);have f2:=bG.add h1 (.cells (bq.map str).toArray 9);have f3:Has (S.add (.cells (bq.map str).toArray 9)) rd (.cells G 3 rf):=h3.add _;generalize S.add (.cells (bq.map str).toArray 9)=C at D g f2 f3;generalize X8:σ.tR k=ff at D R;refine zr (zp (yb (num (j:Nat)) (num (L:Nat)) (aX (b:=true) (tD oq))) (EO.nil (za S (EW.seq (zT (EW.seq (EW.block (zr (zp (yi rd (i+1) L (f-i-1) (i+1+j) none .i64 (j:Nat) 1 oq oq oq) (zp (bw (b:=rd) (off:=i+1+j) (v:=num (k:Nat)) rfl underlying3 rfl kq h3.2 XZ) (zf (za S (zr (zc 2 D (EO.nil (za C ?_))))))))))))))));cases ff with
    | false =>
     have n1:BT C b E (.slice (sq rd) i f) A xs ⟨σ.nodes,σ.row.take i,σ.again++(ks.take (j+1)).filter σ.tR,σ.w⟩:=by rw[R];simpa using g
     refine zF (zx (zp (yp (j:Nat) 1 ((j+1:Nat):Int) oq oq) (zf ?_)));exact⟨m-1,by omega,j+1,A,by omega,n1,h2.trans f2,f3,aR kq⟩
    | true =>
     have hagl:(σ.again++(ks.take j).filter σ.tR).length<=60000:=by rw[lA];omega
     have YN:σ.again++(ks.take (j+1)).filter σ.tR=(σ.again++(ks.take j).filter σ.tR)++[k]:=by rw[R,ip rfl,u6]
     have hla:=g.la;have J:=g.sz;have TE:=g.lt;have TI:=g.ne;simp only at hla J TE TI;have⟨ad,acp,hav⟩:=g.a.len;have e4:=g.a.fk ((aO.refl (K:=λ_=>False) C).add (.cells #[num (k:Nat)] 3)) λ_ _=>id;have e6:=Has.new C (.cells #[num (k:Nat)] 3);have⟨w,M,c1,c2,c3,c4,c5,c6⟩:=J5 e4 k (by show(σ.again++(ks.take j).filter σ.tR).length<=100000;omega);have F:aO (λy=>blk A y) C M:=((aO.refl C).add _).trans c5 λy _ z=>z;have XJ:∀{y:Nat} {G:Aq} {t:TypeId} {fz:Nat × Nat},Has C y (.cells G t fz)->t≠3->¬blk A y:=λl ht z=>by have⟨_,_,z⟩:=g.a.blk z;exact l.ne z ht rfl
     have d1:=g.b.fr F (XJ g.b dq);have d3:=g.n.fk F λy l=>by have⟨_,_,z⟩:=g.n.blk l;exact XJ z dq
     have d5:=g.r.fk F λy l z=>g.ra y l z;have d6:=g.m.fk F λy G fz l=>XJ l dq;have d7:=f3.fr F λz=>g.ra rd (dj _ _ _) z;have N:aO (λy=>y=b) M (M.set b (some (jB E (.slice (sq rd) i f) w σ.w))):=aO.set (K:=λy=>y=b) (aO.refl M) (λ_=>rfl) _;have p:∀{y:Nat} {G:Aq} {t:TypeId} {fz:Nat × Nat},Has M y (.cells G t fz)->t≠183->y≠b:=λl ht=>l.ne d1 ht;have g1:=d1.put (jB E (.slice (sq rd) i f) w σ.w);have g3:=d3.fk N λy l=>by have⟨_,_,z⟩:=d3.blk l;exact p z dq
     have g4:=c4.fk N λy l=>by have⟨_,_,z⟩:=c4.blk l;exact p z dq
     have g5:=d5.fk N λy l=>by have⟨_,_,z⟩:=d5.blk l;exact p z dq
     have g6:=d6.fk N λy G fz l=>p l dq;have g7:=d7.set (p d7 dq) (some (jB E (.slice (sq rd) i f) w σ.w));have gf:aO (KB b C) C (M.set b (some (jB E (.slice (sq rd) i f) w σ.w))):=aO.set (F.mono λy _ q=>(KB.at g.b.2).2 (i3 (.inl q))) (λ_=>.inl rfl) _;have TZ:∀y,blk w y->C.nx<=y:=λy z=>by have:=c6 y z;simp at this;omega
     have hrl:=g.r.lt;have n1:BT (M.set b (some (jB E (.slice (sq rd) i f) w σ.w))) b E (.slice (sq rd) i f) w xs ⟨σ.nodes,σ.row.take i,σ.again++(ks.take (j+1)).filter σ.tR,σ.w⟩:=by
      rw[YN];refine⟨g.sp,g1,g3,g6,g5,g4,λy l hz=>?_,TE,λq O=>?_,TI,J.1,J.2.1,?_⟩
      .have:=TZ y hz
       have:=hrl y l;omega
      .have O:q∈(σ.again++(ks.take j).filter σ.tR)++[k]:=O;rw[List.mem_append] at O;rcases O with O|O
       .exact hla q O
       .simp at O;subst O;exact Yj
      .show((σ.again++(ks.take j).filter σ.tR)++[k]).length<=100000;rw[lA,List.length_singleton];omega
     have n2:bG b C (M.set b (some (jB E (.slice (sq rd) i f) w σ.w))):=bG.mk' g.b g1 gf (.inl rfl) (.inl λ_ z=>z) (.inr TZ);have fb:=g.b;have fal:=g.a.lt;simp only at hav;subst hav;refine zH (zx (zg 4 C (zp (yl b 2 (.slice ad (σ.again++(ks.take j).filter σ.tR).length acp) fb.2) (zg 2 (C.add (.cells #[num (k:Nat)] 3)) (zp (gl (sl:=.slice ad (σ.again++(ks.take j).filter σ.tR).length acp) (news:=[num (k:Nat)]) (d:=C.nx) (m:=1) (k:=1) (sz:=1) (z:=num 0) (bytes:=8) rfl kq kq underlying25 kq rfl dq dq kq e6.2 (gv fal) dq iq iq rfl c1) (zg 2 M (zp (gA (b:=b) (off:=2) (w:=w) rfl kq kq c2 c3 kq d1.2 iq) (EO.nil (za (M.set b (some (jB E (.slice (sq rd) i f) w σ.w))) (zx (zp (yp (j:Nat) 1 ((j+1:Nat):Int) oq oq) (zf ?_))))))))))));exact⟨m-1,by omega,j+1,w,by omega,n1,(h2.trans f2).trans n2,g7,aR kq⟩
   .have hj:j=L:=oq
    subst hj;rw[show ks.take j=ks from tL oq] at h1;exact zr (zp (yb (num (j:Nat)) (num (j:Nat)) (aX (b:=false) (fD oq))) (EO.nil (za S (EW.seq (zG (EW.exit ⟨rfl,A,h1,h2⟩))))))
  .rintro e a' S ⟨rfl,A,h1,h2⟩;exact⟨.inl rfl,kq,⟨_,_,_,_,h1⟩,(u2.trans v2).trans h2⟩
end
def TS.cQ(σ:TS)(j:Int):TS:=if j<1 then σ else σ.eE j.toNat
section
variable {aF:fF}
section
variable (dD:∀f,f∈dJ->pr f=none)
def mS(c:pr 320=none)(a:pr 127=bu 127)(h:BX s b σ){j:Int}(g:j≠0)(h1 : -1<=j)(h2:j<σ.row.length)(d:σ.again.length<=50000) :
  ∃e,Ef pr 221 #[am b 0,num j] s (.tuple #[]) e/\BX e b (σ.cQ j)/\bG b s e:=by
 unfold TS.cQ;by_cases f:j<1
 .rw[ip f];have:j = -1:=oq
  subst this;exact⟨s,H9 (dD 221 dq),h,bG.refl s⟩
 .rw[iw f];obtain⟨i,rfl⟩:=Int.eq_ofNat_of_zero_le (show 0<=j by omega);rw[show((i:Nat):Int).toNat=i from xn i];exact H7 (dD 221 dq) (dD 318 dq) (dD 363 dq) a (dD 319 dq) (dD 142 dq) c (dD 137 dq) h oq oq d
def aK.QO(c:pr 320=none)(a:pr 127=bu 127)(y:bC σ l m≠0)(f:σ.again.length<=50000):aK pr b t aF ⟨234,l,m⟩ σ (σ.cQ (bC σ l m)) true:=by refine aK.go (dD 234 dq) func234 rfl λs S x K M g k L u r I D O G i P H=>?_;subst I;have⟨X,w,R,T,v,U,_⟩:=G;cases w;obtain⟨B,C,N,e,rfl,z,A,J,F⟩:=v rfl;have d:=oE σ l m;have⟨h,o,p,q⟩:=mS dD c a i y d.1 d.2 f;have⟨V,W,Q,Y,E⟩:=i;have n:=yS (dD 235 dq) (dD 222 dq) (dD 231 dq) (dD 232 dq) a E J F;generalize bC σ l m=j at *;refine zs (za (s.add (dF ⟨K,M,g,.slice k L u,r⟩)) ?_);rw[D];exact zr (zg 2 S (zp (yl B 0 N z.2) (zp (yl C 0 e A.2) (zc 0 n (zc 0 o (EO.nil (za h (zs (za h (EW.ret ⟨.inr rfl,kq,p,q⟩))))))))))
end
theorem aK.Xy(a:∀f,f∈dJ->pr f=none)(p:pr 320=none)(d:pr 127=bu 127)(i:bC σ aL [t.name]≠0)(q:σ.again.length<=50000):aK pr b t aF ⟨246,[],[]⟩ σ (σ.cQ (bC σ aL [t.name])) false:=by refine aK.go (a 246 dq) func246 rfl λs S x J M c r K A z I G o H n P Q=>?_;subst I;have⟨Z,C,T,V,W,B,_⟩:=H;cases C;obtain rfl:=B dq;have i:bC σ aL [c]≠0:=i;show EW _ _ _ _ _ _ (λe O L=>_/\_/\BX L b (σ.cQ (bC σ aL [c]))/\_);have g:=oE σ aL [c];have⟨X,Y,R,xs,l⟩:=n;have h:=l.add (.cells ([c].map str).toArray 9);have u:=bG.add l (.cells ([c].map str).toArray 9);have v:=xz (a 243 dq) (a 131 dq) (a 235 dq) (a 222 dq) (a 231 dq) (a 232 dq) d h (cU.new S [c] 1 rfl gq);generalize k:S.add (.cells ([c].map str).toArray 9)=m at *;have w:=h.add (.cells (aL.map str).toArray 9);have y:=bG.add h (.cells (aL.map str).toArray 9);generalize m.add (.cells (aL.map str).toArray 9)=N at *;have⟨U,D,E,F⟩:=mS a p d ⟨_,_,_,_,w⟩ i g.1 g.2 q;generalize bC σ aL [c]=j at *;refine zs (za (s.add (dF ⟨J,M,c,.slice r K A,z⟩)) ?_);rw[G];refine zr (zg 3 S (zp (yl s.nx 2 (str c) o.2) (zk 1 (zo (S.add (.cells ([c].map str).toArray 9)) ?_))));rw[k];exact zc 0 v (zc 0 D (EO.nil (za U (zs (za U (EW.ret ⟨.inr rfl,kq,E,(u.trans y).trans F⟩))))))
theorem aK.SZ(a:∀f,f∈dJ->pr f=none)(l:pr 320=none)(c:pr 127=bu 127)(X:1<=bC σ aL [nm])(n:σ.again.length<=50000):aK pr b t aF ⟨244,[nm],[]⟩ σ (σ.cQ (bC σ aL [nm])) false:=by refine aK.go (a 244 dq) func244 rfl λs S x J N o p K y w I G O H m P Q=>?_;subst I;have⟨x',A,z,T,V,W,_⟩:=H;cases A;obtain⟨B,L,M,rfl,F⟩:=z (.inr (.inr rfl));cases M;have d:=oE σ aL [nm];have⟨Y,Z,R,xs,i⟩:=m;have e:=i.add (.cells ([nm].map str).toArray 9);have q:=bG.add i (.cells ([nm].map str).toArray 9);have r:=xz (a 243 dq) (a 131 dq) (a 235 dq) (a 222 dq) (a 231 dq) (a 232 dq) c e (cU.new S [nm] 1 rfl gq);generalize g:S.add (.cells ([nm].map str).toArray 9)=k at *;have u:=e.add (.cells (aL.map str).toArray 9);have v:=bG.add e (.cells (aL.map str).toArray 9);generalize k.add (.cells (aL.map str).toArray 9)=h at *;have⟨U,C,D,E⟩:=mS a l c ⟨_,_,_,_,u⟩ oq d.1 d.2 n;generalize bC σ aL [nm]=j at *;refine zs (za (s.add (dF ⟨J,N,o,.slice p K y,w⟩)) ?_);rw[G];refine EW.seq (zr (zg 1 S (zp (yl B 0 (str nm) F.2) (zk 1 (zo (S.add (.cells ([nm].map str).toArray 9)) ?_)))));rw[g];exact zc 0 r (zf (za h (zr (zk 1 (zp (yb (num j) (num (-1)) (cM (by rw[bne_iff_ne];omega))) (zf (zH (zx (zk 2 (zo h (zc 0 C (EO.nil (za U (zs (za U (EW.ret ⟨.inr rfl,kq,D,(q.trans v).trans E⟩))))))))))))))))
end
section
variable {v:Value}
theorem MU(a5:pr 223=none)(a4:pr 217=none)(a6:pr 232=none)(h:BT s b nv rv av xs σ)(X:bS s at_ aF)(hq:Hh b nm at_)(hN:σ.nodes.length<400000000) :
  ∃Q,Ef pr 223 #[am b 0,str nm,at_] s (.tuple #[]) Q/\(∃N O R,BT Q b N O av R (σ.open_ nm aF))/\bG b s Q:=by
 have⟨S,G,hP,c,p2⟩:=Ax a4 a6 h (kd:=1) (pa:=0) (nm:=nm) (tx:=[]) X hq hN;have⟨ad,cp,I⟩:=X.len;subst I;generalize aF.length=nA at *;have⟨A,p,E⟩:=c.r.len;have L:(σ.put ⟨1,0,nm,[],aF⟩).row=σ.row:=rfl;have l:=c.b;rw[L] at E;refine EF.iy a5 func223 rfl (zr (zc 4 hP (EO.nil (za S (zr (zg 3 S (zp (yl b 1 rv l.2) ?_)))))));subst E;refine zk 1 ?_;by_cases u:σ.row.length<40
 .have a7:(σ.nodes++[(⟨1,((σ.cur:Nat):Int),nm,[],aF⟩:Nd)]).length=σ.nodes.length+1:=iq
  have a8:=c.n;have⟨Z,Y,nf,D,L8⟩:=a8;rw[c.m.1,show(σ.put ⟨1,0,nm,[],aF⟩).nodes.length=σ.nodes.length+1 from a7] at D;have e4:=c.r.fk ((aO.refl (K:=λ_=>False) S).add (.cells #[num ((σ.nodes.length:Nat):Int)] 3)) λ_ _=>id;have e6:=Has.new S (.cells #[num ((σ.nodes.length:Nat):Int)] 3);have⟨w,U,c1,c2,c3,T,c5,c6⟩:=J5 e4 σ.nodes.length gq;have o:aO (λy=>blk (.slice A σ.row.length p) y) S U:=((aO.refl S).add _).trans c5 λy _ z=>z;have h3:∀{y:Nat} {B:Aq} {t:TypeId} {C:Nat × Nat},Has S y (.cells B t C)->t≠3->¬blk (.slice A σ.row.length p) y:=λf M z=>by have⟨_,_,z⟩:=c.r.blk z;exact f.ne z M rfl
  have H:=c.b.fr o (h3 c.b dq);have V:=c.n.fk o λy f=>by have⟨_,_,z⟩:=c.n.blk f;exact h3 z dq
  have W:=c.a.fk o λy f z=>c.ra y z f;have d6:=c.m.fk o λy B C f=>h3 f dq;have v:aO (λy=>y=b) U (U.set b (some (jB G w av σ.w))):=aO.set (K:=λy=>y=b) (aO.refl U) (λ_=>rfl) _;have g:∀{y:Nat} {B:Aq} {t:TypeId} {C:Nat × Nat},Has U y (.cells B t C)->t≠183->y≠b:=λf M=>f.ne H M;have g1:=H.put (jB G w av σ.w);have g3:=V.fk v λy f=>by have⟨_,_,z⟩:=V.blk f;exact g z dq
  have g4:=T.fk v λy f=>by have⟨_,_,z⟩:=T.blk f;exact g z dq
  have g5:=W.fk v λy f=>by have⟨_,_,z⟩:=W.blk f;exact g z dq
  have g6:=d6.fk v λy B C f=>g f dq;have gf:aO (KB b S) S (U.set b (some (jB G w av σ.w))):=aO.set (o.mono λy _ q=>(KB.at c.b.2).2 (.inr (.inr (.inl q)))) (λ_=>.inl rfl) _;have F:∀y,blk w y->S.nx<=y:=λy z=>by have:=c6 y z;simp at this;omega
  have l1:=bE (P:=prog) (t:=25) underlying25 rfl l.2 (off:=1) rfl;have l2:=bE (P:=prog) (t:=38) underlying38 rfl l.2 (off:=0) rfl;subst D;refine zp (yb (num (σ.row.length:Nat)) (num 40) (aX (b:=true) (tD oq))) (EO.nil (za S (zH ?_)));refine EW.draw kq kq kq ?_;iterate 4 refine zq ?_
  refine zt S (zu (yl b 1 (.slice A σ.row.length p) l.2) ?_);iterate 3 refine zq ?_
  refine zt S (zu (yl b 0 (.slice (sq Z) (σ.nodes.length+1) Y) l.2) (zq (zu (gJ (i:=((σ.nodes.length+1:Nat):Int)) (j:=1) (r:=((σ.nodes.length:Nat):Int)) rfl kq kq oq oq) (zq (zt (S.add (.cells #[num ((σ.nodes.length:Nat):Int)] 3)) (zu (gl (sl:=.slice A σ.row.length p) (news:=[num ((σ.nodes.length:Nat):Int)]) (d:=S.nx) (m:=1) (k:=1) (sz:=1) (z:=num 0) (bytes:=8) rfl kq kq underlying25 kq rfl dq dq kq e6.2 (gv c.r.lt) dq iq iq rfl c1) ?_))))));iterate 2 refine zq ?_
  refine zt U (zu (gA (b:=b) (off:=1) (w:=w) rfl kq kq c2 c3 kq H.2 iq) (ET.nil ⟨aI [(aB prog 25 (am b 1) S,.slice A σ.row.length p),(aB prog 38 (am b 0) S,.slice (sq Z) (σ.nodes.length+1) Y)] kq (iD ⟨l1,by cases A<;>rfl⟩ ⟨l2,rfl⟩),_,_,_,_,_,_,rfl,rfl,?_⟩));refine⟨.inl rfl,kq,⟨_,w,_,c.sp,g1,g3,g6,?_,g5,λy f hz=>?_,λk J=>?_,λk J=>?_,?_,?_⟩,p2.trans (bG.mk' c.b g1 gf (.inl rfl) (.inr F) (.inl λ_ z=>z))⟩
  .show eS _ _ (if σ.row.length<40 then σ.row++[σ.nodes.length] else σ.row);rw[ip u];exact g4
  .have:=F y f
   have:=c.a.lt y hz;omega
  .have x:k∈(if σ.row.length<40 then σ.row++[σ.nodes.length] else σ.row):=J;rw[ip u,List.mem_append] at x;show k<(σ.put ⟨1,0,nm,[],aF⟩).nodes.length;rcases x with x|x
   .exact c.lt k x
   .simp at x;simp[TS.put];omega
  .exact c.la k J
  .show(if σ.row.length<40 then σ.row++[σ.nodes.length] else σ.row)≠[];rw[ip u];simp
  .have:=c.sz;refine⟨this.1,?_,this.2.2⟩;show(if σ.row.length<40 then σ.row++[σ.nodes.length] else σ.row).length<=40;grind
 .refine zp (yb (num (σ.row.length:Nat)) (num 40) (aX (b:=false) (fD oq))) (EO.nil (za S (zF ?_)));have e:σ.open_ nm aF=σ.put ⟨1,0,nm,[],aF⟩:=by unfold TS.open_;rw[iw u];rfl
  rw[e];exact⟨.inl rfl,kq,⟨_,_,_,c⟩,p2⟩
end
def TS.kQ(σ:TS)(k:Nat):Nd:=σ.nodes.getD k ⟨0,0,[],[],[]⟩
def TS.eu(σ:TS)(k:Nat):TS:=σ.open_ (σ.kQ k).name (σ.kQ k).aM
def TS.du(σ:TS):TS:={ (σ.again.take (40-σ.row.length)).foldl TS.eu σ with again:=[] }
theorem Iz(l:List Nat):∀b:TS,(l.foldl TS.eu b).again=b.again/\(l.foldl TS.eu b).w=b.w/\(l.foldl TS.eu b).nodes.length=b.nodes.length+l.length/\∀k,k<b.nodes.length->(l.foldl TS.eu b).nodes[k]?=b.nodes[k]?:=by
 induction l with
 | nil=>intro b;exact⟨rfl,rfl,rfl,λ_ _=>rfl⟩
 | cons a l U =>
  intro b;have⟨h1,h2,h3,c⟩:=U (b.eu a);have e:(b.eu a).nodes=b.nodes++[⟨1,((b.cur:Nat):Int),(b.kQ a).name,[],(b.kQ a).aM⟩]:=rfl;refine⟨h1,h2,?_,λk d=>?_⟩
  .grind
  .grind
def Ki(b m d cp j:Nat)(x:Nq):TL:=[am b 0,x 1,num (m:Nat),x 3,x 4,x 5]++gD x 6 17++[.slice (some ⟨d,0,none⟩) m cp,num (m:Nat),num (j:Nat)]++gD x 26 20
section
theorem Dm(a1:pr 239=none)(a7:pr 223=none)(a6:pr 217=none)(a8:pr 232=none)(h:BX s b σ)(ab:∀k∈σ.again,gM (σ.kQ k).name=false)(hN:σ.nodes.length+50<400000000):∃s',Ef pr 239 #[am b 0] s (.tuple #[]) s'/\BX s' b σ.du/\bG b s s':=by
 by_cases U:σ.again=[]
 .have:σ.du=σ:=by unfold TS.du;rw[U];simp;rw[<-U]
  rw[this];exact Hw a1 h U
 have⟨B,C,V,D,h⟩:=h;have zW:=h.sz;have⟨T,L,I⟩:=h.r.len;have p:=h.b;rw[I] at p;obtain⟨d,cp,o,hcp⟩:∃d cp,V=.slice (sq d) σ.again.length cp/\σ.again.length<=cp:=by
  rcases h.a with ⟨e,e2⟩|⟨d,cp,F,M,e,q0,_⟩
  .exact absurd e2 U
  .exact⟨d,cp,e,q0⟩
 obtain⟨ah,ai,aa⟩:∃F M,Has s d (.cells F 3 M):=by have⟨F,M,q⟩:=h.a.blk (x:=d) (by rw[o];exact dj _ _ _);exact⟨F,M,q⟩
 have ao:0<σ.again.length:=Eg.2 U;obtain⟨m,hm⟩:∃m,m=min σ.again.length (40-σ.row.length):=⟨_,rfl⟩;have c:σ.again.take (40-σ.row.length)=σ.again.take m:=gq
 unfold TS.du;rw[c];rw[o] at p;have l1:=bE (P:=prog) (t:=25) underlying25 rfl p.2 (off:=1) rfl;have l2:=bE (P:=prog) (t:=25) underlying25 rfl p.2 (off:=2) rfl;subst I;have Y:(if ((σ.again.length:Nat):Int)<40-((σ.row.length:Nat):Int) then ((σ.again.length:Nat):Int) else 40-((σ.row.length:Nat):Int))=((m:Nat):Int):=gq
 have ag:m<=σ.again.length:=oq
 have af:m<=40:=oq
 generalize hR:σ.row.length=R at *;generalize hA:σ.again.length=A at *;refine EF.iy a1 func239 rfl ?_;refine EW.seq (EW.draw kq kq kq ?_);iterate 3 refine zq ?_
 refine zt s (zu (yl b 1 (.slice T R L) p.2) (zq (zu (gJ (i:=40) (j:=((R:Nat):Int)) (r:=40-((R:Nat):Int)) rfl kq kq rfl oq) ?_)));iterate 3 refine zq ?_
 refine zt s (zu (yl b 2 (.slice (sq d) A cp) p.2) (zq (zt s (ET.op (v:=num ((m:Nat):Int)) (s1:=s) kq ((show _=some (num (if ((A:Nat):Int)<40-((R:Nat):Int) then ((A:Nat):Int) else 40-((R:Nat):Int)),s) by kernel_rfl).trans (by rw[Y])) (zq (ET.nil ⟨aI [(aB prog 25 (am b 1) s,.slice T R L),(aB prog 25 (am b 2) s,.slice (sq d) A cp)] kq (iD ⟨l1,by cases T<;>rfl⟩ ⟨l2,rfl⟩),_,_,_,_,_,_,rfl,rfl,?_⟩))))));refine za s (EW.seq (zr (zg 3 s (zp (yl b 2 (.slice (sq d) A cp) p.2) (zg 1 s (zp (mh (b:=d) (off:=0) (n:=A) (cp:=cp) (i:=0) (j:=m) (sz:=1) rfl underlying25 kq aa.2 kq ((show _=bD A cp none (some (num (m:Nat))) by kernel_rfl).trans ((oG oq oq).trans gq)) oq) ?_))))));rw[show m-0=m by omega,show cp-0=cp by omega];refine zf (za s ?_);refine EW.fill (Ki b m d cp 0) kq ?_;intro x0;refine EW.block ?_;refine EW.mono (EW.dG (Q:=λe E S=>e=.exit 0/\(∃B C D,BT S b B C V D ((σ.again.take m).foldl TS.eu σ))/\bG b s S/\∃x,E=Ki b m d cp m x) (λu E S=>∃j B C D,j+u=m/\BT S b B C V D ((σ.again.take j).foldl TS.eu σ)/\bG b s S/\∃x,E=Ki b m d cp j x) ?_ m _ _ ⟨0,B,_,D,by omega,h,bG.refl s,x0,rfl⟩) ?_
 .rintro u E S ⟨j,B,C,D,al,h1,h2,x,rfl⟩;by_cases hu:0<u
  .have a3:j<σ.again.length:=oq
   have hx:σ.again[j]?=some σ.again[j]:=gE a3;have c:(σ.again.take (j+1)).foldl TS.eu σ=((σ.again.take j).foldl TS.eu σ).eu σ.again[j]:=by rw[List.take_add_one,hx,List.foldl_append];rfl
   have N:σ.again[j]∈σ.again:=D3 a3;generalize σ.again[j]=k at hx c N;have Yj:=h.la k N;have⟨k1,k2,k3,k4⟩:=Iz (σ.again.take j) σ;have X:(σ.again.take j).length=j:=gq
   rw[X] at k3;generalize (σ.again.take j).foldl TS.eu σ=l at *;have ae:l.again[j]?=some k:=gq
   have⟨rd,rc,F,rf,e1,e2,e3,e4,e5⟩:=h1.a.at ae;rw[o] at e1;cases e1;obtain⟨g,J⟩:∃g,l.nodes[k]?=some g:=⟨_,gE (show k<l.nodes.length by omega)⟩;have⟨nd,nc,nf,y,Ql,Z,hy,f,Qh⟩:=h1.node J;have TJ:l.kQ k=g:=by unfold TS.kQ;rw[tS,J];rfl
   have⟨c1,c2⟩:=CC hy;have H:y.cells.all Value.oneCell'=true:=by simp only[bY.cells,List.all_cons,List.all_nil,f.2.2.2.2.one];rfl
   have f1:=h1.add (.cells y.cells.toArray 44);have f2:=bG.add h1 (.cells y.cells.toArray 44);have f3:=Has.new S (.cells y.cells.toArray 44);have hz1:(S.add wR).get S.nx=some wR:=by rw[AS.bv,ip rfl]
   have a9:(S.add wR).set S.nx (some (.cells y.cells.toArray 44))=S.add (.cells y.cells.toArray 44):=AS.set_set (⟨S.hp,S.nx+1⟩:AS) S.nx (some wR) (some (.cells y.cells.toArray 44));have W:bS (S.add (.cells y.cells.toArray 44)) y.aM g.aM:=f.2.2.2.2.fk ((aO.refl (K:=λ_=>False) S).add _) λ_ _=>id;have G:gM g.name=false:=by have:=ab k N;unfold TS.kQ at this;grind
   have⟨S2,g1,g2,g3⟩:=MU a7 a6 a8 f1 (nm:=g.name) W (λz hz=>by
    rcases f1.sp.1 k y z hy hz with q|q
    .exact⟨q.1,G⟩
    .rw[f.2.2.1,G] at q;exact absurd q.2 dq) oq;rw[<-f.2.2.1] at g1;have O:=h1.b;have ko:l.eu k=l.open_ g.name g.aM:=by unfold TS.eu;rw[TJ]
   rw[ko] at c;have aq:l.nodes.length<=400000000:=oq
   subst Ql;generalize aj:l.nodes.length=NL at *;generalize ak:S.add (.cells y.cells.toArray 44)=S1 at *;refine zr (zp (yb (num (j:Nat)) (num (m:Nat)) (aX (b:=true) (tD oq))) (EO.nil (za S (EW.seq (zT (EW.seq (EW.block (zr (zp (yi d 0 m cp j none .i64 (j:Nat) 1 oq oq oq) (zp (bw (b:=d) (off:=j) (v:=num (k:Nat)) rfl underlying3 rfl kq e3.2 e4) (zf (za S (zr (zg 3 S (zp (yl b 0 (.slice (sq nd) NL nc) O.2) (zg 1 S (zp (yi nd 0 NL nc (k*5) none .i64 (k:Nat) 5 oq oq oq) (zp (rB (b:=nd) (off:=k*5) (n:=5) (r:=y.cells.toArray) rfl underlying44 rfl kq kq Z.2 c1 c2) (zg 1 (S.add wR) (zp (fx (b:=S.nx) (off:=0) (w:=.agg y.cells.toArray) (ws:=y.cells) rfl kq kq rfl H kq hz1 gq) (EO.nil (za ((S.add wR).set S.nx (some (.cells y.cells.toArray 44))) ?_))))))))))))))))))))));rw[a9];refine zx (zg 2 S1 (zp (yl S.nx 2 (str y.name) f3.2) (zg 1 S1 (zp (yl S.nx 4 y.aM f3.2) (zc 0 g1 (EO.nil (za S2 (zx (zp (yp (j:Nat) 1 ((j+1:Nat):Int) oq oq) (zf ?_))))))))));have⟨Se,U3,So,g2⟩:=g2;rw[<-c] at g2;exact⟨u-1,by omega,j+1,Se,U3,So,by omega,g2,(h2.trans f2).trans g3,aR kq⟩
  .have hj:j=m:=oq
   subst hj;exact zr (zp (yb (num (j:Nat)) (num (j:Nat)) (aX (b:=false) (fD oq))) (EO.nil (za S (EW.seq (zG (EW.exit ⟨rfl,⟨_,_,_,h1⟩,h2,aR kq⟩))))))
 .rintro e E S ⟨rfl,⟨B,C,D,h1⟩,h2,x,rfl⟩;have⟨k1,k2,k3,k4⟩:=Iz (σ.again.take m) σ;have⟨u1,u2⟩:=h1.upd (wA:=C) (u7:=aD) (w':=((σ.again.take m).foldl TS.eu σ).w) h1.r (.inl ⟨rfl,rfl⟩) (λx _ z=>bR z) h1.lt iq h1.ne ⟨h1.sz.2.1,by simp⟩ (.inl λ_ z=>z) (.inr λx z=>(bR z).elim);have O:=h1.b;exact zx (zg 3 S (zp (ys b 2 aD O.2 iq) (EO.nil ⟨.inl rfl,kq,⟨_,_,_,_,u1⟩,h2.trans u2⟩)))
end
end Go.Proofs.YtgcaionclkbehaaGreatDoor
