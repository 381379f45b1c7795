
import Derived.Test.YtgcaionclkbehaaGreatDoorM13
import Derived.Laws.BytesString
set_option linter.all false
set_option maxHeartbeats 4000000
set_option maxRecDepth 100000
namespace Go.Proofs.YtgcaionclkbehaaGreatDoor
open Go.Conc Go.RowKit Go.Lib Tryz
def sj:Nat->Code->Code
 | 0,c=>c
 | n+1,.seq _ b=>sj n b
 | _,c=>c
def b7 (o:Option Code):Code:=match o with
 | some c=>match sj 10 c with
  | .seq (.seq _ (.block _ (.loop (.seq _ (.seq (.block _ B) _))))) _=>B
  | _=>.skip
 | none=>.skip
def XA:Code->Code
 | .seq a _=>a
 | c=>c
theorem Dr{l:fF}{i:Nat}{p:Bq × Bq}(h:l[i]?=some p):(ft l)[i*2+0]?=some (str p.1):=by
 have⟨h1,h2⟩:=sT h;have h3:(((ft l).toList.drop (i*2)).take 2)[0]?=some (str p.1):=gq
 grind
def qJ (t:Bq)(v v6 v7:Value)(h b i:Nat)(GH xQ uW so nD:Value)(x:Nq):TL:=[str t,x 1,.bool false,.bool true,x 4,v,v6,v7,num (h:Nat),num (b:Nat),num (i:Nat),GH,xQ,uW,so,nD]++gD x 16 243
variable {S:AS}{pr:Prim}{t:Bq}{GH xQ uW so nD:Value}{hh bb i d k N:Nat}{xs:List bY}{x:Nq}
section
variable {v6 v7:Value}{f1:Nat × Nat}{u:Nd}
theorem Lt(g1:Has S d (.cells (aY xs) 44 f1)){X:bY}(hX:xs[i]?=some X)(hi:i<N)(tX:bS S X.aM u.aM)(hu:ki u.aM) :
  Ew pr (sj 11 (b7 Tryz.f7.body)) (qJ t (.slice (sq d) N k) v6 v7 hh bb i GH xQ uW so nD x) S (λe a' s'=>e=.normal/\s'=S/\∃so nD x,a'=qJ t (.slice (sq d) N k) v6 v7 hh bb i GH xQ uW so nD x):=by
 have⟨hu1,hu2⟩:=hu;have⟨ad,cp,e1⟩:=tX.len;rw[e1] at tX;have a4:(aY xs)[i*5+4]?=some (.slice ad u.aM.length cp):=by rw[dt hX 4 dq,<-e1];rfl
 have m4:=bE (P:=prog) (t:=42) underlying42 rfl g1.2 a4;generalize hnA:u.aM.length=nA at *;refine zs (EW.fill (qJ t (.slice (sq d) N k) v6 v7 hh bb i GH xQ uW (num ((0:Nat):Int)) nD) kq ?_);intro x1;refine za S (EW.block ?_);refine EW.mono (EW.dG (Q:=λe a' s1=>e=.exit 4/\s1=S/\∃so nD x,a'=qJ t (.slice (sq d) N k) v6 v7 hh bb i GH xQ uW so nD x) (λm a' s1=>s1=S/\∃j,j+m=nA/\∃nD x,a'=qJ t (.slice (sq d) N k) v6 v7 hh bb i GH xQ uW (num (j:Nat)) nD x) ?_ nA _ _ ⟨rfl,0,by omega,_,x1,rfl⟩) ?_
 .rintro m a' S ⟨rfl,j,hjm,nD,x,rfl⟩;by_cases hj:j<nA
  .obtain⟨ab,fa,rfl,y1⟩:∃ab fz,ad=some ⟨ab,0,none⟩/\S.get ab=some (.cells (ft u.aM) 47 fz):=by
    rcases tX with ⟨_,z⟩|⟨ab,c,fz,z,_,y⟩
    .grind
    .grind
   have hP:u.aM[j]?=some (u.aM[j]'oq):=gE _;generalize hp:(u.aM[j]'oq)=p at hP;have z1:=Dr hP;have w1:=bE (P:=prog) (t:=9) underlying9 rfl y1 z1;refine EW.seq (zr (zg 3 S (zp (yi d 0 N k (i*5) none .i64 (i:Nat) 5 oq oq oq) (zg 1 S (zp (bw (b:=d) (off:=i*5+4) (v:=.slice (sq ab) nA cp) rfl underlying42 rfl kq g1.2 a4) (zg 1 S (zp (yb (num (j:Nat)) (num (nA:Nat)) (aX (b:=true) (tD oq))) (EO.nil (za S (zT (EW.seq (EW.block (zs (EW.fill (qJ t (.slice (sq d) N k) v6 v7 hh bb i GH xQ uW (num (j:Nat)) (num ((0:Nat):Int))) kq ?_))))))))))))));intro x2;refine za S (EW.block ?_);refine EW.mono (EW.dG (Q:=λe a' s1=>e=.exit 6/\s1=S/\∃nD x,a'=qJ t (.slice (sq d) N k) v6 v7 hh bb i GH xQ uW (num (j:Nat)) nD x) (λm a' s1=>s1=S/\∃l,l+m=j/\∃x,a'=qJ t (.slice (sq d) N k) v6 v7 hh bb i GH xQ uW (num (j:Nat)) (num (l:Nat)) x) ?_ j _ _ ⟨rfl,0,by omega,x2,rfl⟩) ?_
   .rintro m' a' S' ⟨rfl,l,hlm,x,rfl⟩;by_cases hl:l<j
    .have VI:u.aM[l]?=some (u.aM[l]'oq):=gE _;have Cl:p.1≠(u.aM[l]'oq).1:=by
      intro e;have h1:(u.aM.map (·.1))[j]?=some p.1:=gq
      have h2:(u.aM.map (·.1))[l]?=some p.1:=gq
      have:=(List.getElem?_inj (i:=j) (j:=l) (by simp;omega) hu2).1 (h1.trans h2.symm);omega
     generalize (u.aM[l]'oq)=p2 at VI Cl;have z2:=Dr VI;have w2:=bE (P:=prog) (t:=9) underlying9 rfl y1 z2;refine EW.seq (zr (zg 2 S' (zp (yb (num (l:Nat)) (num (j:Nat)) (aX (b:=true) (tD oq))) (EO.nil (za S' (zT (EW.seq (EW.block (EW.seq (EW.draw kq kq kq ?_))))))))));iterate 2 refine zq ?_
     refine zu (yi d 0 N k (i*5) none .i64 (i:Nat) 5 oq oq oq) (zq (zt S' (zu (bw (b:=d) (off:=i*5+4) (v:=.slice (sq ab) nA cp) rfl underlying42 rfl kq g1.2 a4) (zq (zu (yi ab 0 nA cp (j*2) none .i64 (j:Nat) 2 oq oq oq) (zq (zt S' (zu (bw (b:=ab) (off:=j*2+0) (v:=str p.1) rfl underlying9 rfl kq y1 z1) ?_))))))));iterate 2 refine zq ?_
     refine zu (yi d 0 N k (i*5) none .i64 (i:Nat) 5 oq oq oq) (zq (zt S' (zu (bw (b:=d) (off:=i*5+4) (v:=.slice (sq ab) nA cp) rfl underlying42 rfl kq g1.2 a4) (zq (zu (yi ab 0 nA cp (l*2) none .i64 (l:Nat) 2 oq oq oq) (zq (zt S' (zu (bw (b:=ab) (off:=l*2+0) (v:=str p2.1) rfl underlying9 rfl kq y1 z2) (zu (yb (str p.1) (str p2.1) (dP (b:=false) (kv Cl))) (ET.nil ⟨aI [(aB prog 42 (am d (i*5+4)) S',.slice (sq ab) nA cp),(aB prog 9 (am ab (j*2+0)) S',str p.1),(aB prog 42 (am d (i*5+4)) S',.slice (sq ab) nA cp),(aB prog 9 (am ab (l*2+0)) S',str p2.1)] kq (VY ⟨m4,rfl⟩ (VY ⟨w1,rfl⟩ (VY ⟨m4,rfl⟩ (VY ⟨w2,rfl⟩ ldz)))),_,_,_,_,_,_,rfl,rfl,?_⟩))))))))));refine za S' (zF (zx (zg 1 S' (zp (yp (l:Nat) 1 ((l+1:Nat):Int) oq oq) (zf ?_)))));exact⟨m'-1,by omega,rfl,l+1,by omega,aR kq⟩
    .obtain rfl:l=j:=oq
     exact EW.seq (zr (zg 2 S' (zp (yb (num (l:Nat)) (num (l:Nat)) (aX (b:=false) (fD oq))) (EO.nil (za S' (zG (EW.exit ⟨rfl,rfl,num (l:Nat),aR kq⟩)))))))
   .rintro e a' S' ⟨rfl,rfl,nD,x,rfl⟩;refine zx (zg 1 S' (zp (yp (j:Nat) 1 ((j+1:Nat):Int) oq oq) (zf ?_)));exact⟨m-1,by omega,rfl,j+1,by omega,nD,aR kq⟩
  .obtain rfl:j=nA:=oq
   exact EW.seq (zr (zg 3 S (zp (yi d 0 N k (i*5) none .i64 (i:Nat) 5 oq oq oq) (zg 1 S (zp (bw (b:=d) (off:=i*5+4) (v:=.slice ad j cp) rfl underlying42 rfl kq g1.2 a4) (zg 1 S (zp (yb (num (j:Nat)) (num (j:Nat)) (aX (b:=false) (fD oq))) (EO.nil (za S (zG (EW.exit ⟨rfl,rfl,num (j:Nat),nD,aR kq⟩)))))))))))
 .rintro e a' S ⟨rfl,rfl,so,nD,x,rfl⟩;exact⟨rfl,rfl,_,_,_,rfl⟩
theorem LG{a:List Nd}{p:Nat}(g1:Has S d (.cells (aY xs) 44 f1))(s:fJ S xs a)(K:a.length=N)(hi:i<N)(h1:1<=i)(B:oC (dY a))(J:(dY a)[0]?=some (1,-1,me))(E:mJ ((dY a).take i) (i-1) p)(M:p<i) :
  Ew pr (XA (sj 6 (b7 Tryz.f7.body))) (qJ t (.slice (sq d) N k) v6 v7 hh bb i (num (p:Nat)) xQ (num ((i-1:Nat):Int)) so nD x) S (λe c H=>e=.normal/\H=S/\∃x,c=qJ t (.slice (sq d) N k) v6 v7 hh bb i (num (p:Nat)) xQ (num (p:Nat)) so nD x):=by
 have L:((dY a).take i).length=i:=by rw[List.length_take,fR];omega
 have U:=B.take (i:=i);have n:((dY a).take i)[0]?=some (1,-1,me):=gq
 have C:p<=i-1:=oq
 refine EW.block ?_;refine EW.mono (EW.dG (Q:=λe c r=>e=.exit 2/\r=S/\∃x,c=qJ t (.slice (sq d) N k) v6 v7 hh bb i (num (p:Nat)) xQ (num (p:Nat)) so nD x) (λm c r=>r=S/\m<i/\p<=m/\mJ ((dY a).take i) m p/\∃x,c=qJ t (.slice (sq d) N k) v6 v7 hh bb i (num (p:Nat)) xQ (num (m:Nat)) so nD x) ?_ (i-1) _ _ ⟨rfl,by omega,C,E,x,rfl⟩) ?_
 .rintro m c S ⟨rfl,z,I,D,x,rfl⟩;by_cases F:p<m
  .have o:a[m]?=some (a[m]'oq):=gE _;generalize (a[m]'oq)=y at o;have q:xs[m]?=some (xs[m]'(by rw[s.1];omega)):=gE _;generalize (xs[m]'gq)=X at q;have G:=s.2 m X y q o;have f:((dY a).take i)[m]?=some (yz y):=by rw[Bu,ip z];unfold dY;rw[List.getElem?_map,o];rfl
   have⟨u,w⟩:=D.up U n oq F;have g:=AV U (i:=m) oq oq;have⟨j,l,O,_⟩:=U m _ oq f;have h:jy ((dY a).take i) m=j:=by unfold jy;rw[f];simp only[l,xn]
   rw[h] at u w g;have l:y.parent=((j:Nat):Int):=l;have A:(aY xs)[m*5+1]?=some (num (j:Nat)):=by rw[dt q 1 dq,<-l,<-G.2.1];rfl
   refine EW.seq (zr (zg 2 S (zp (yb (num (m:Nat)) (num (p:Nat)) (dQ (b:=true) (tD oq))) (EO.nil (za S (zT (EW.block (zx (zg 2 S (zp (yi d 0 N k (m*5) none .i64 (m:Nat) 5 oq oq oq) (zg 1 S (zp (bw (b:=d) (off:=m*5+1) (v:=num (j:Nat)) rfl underlying3 rfl kq g1.2 A) (zf ?_)))))))))))));exact⟨j,g,rfl,by omega,w,u,aR kq⟩
  .obtain rfl:m=p:=oq
   exact EW.seq (zr (zg 2 S (zp (yb (num (m:Nat)) (num (m:Nat)) (dQ (b:=false) (fD oq))) (EO.nil (za S (zG (EW.exit ⟨rfl,rfl,aR kq⟩)))))))
 .rintro e c S ⟨rfl,rfl,x,rfl⟩;exact⟨rfl,rfl,_,rfl⟩
end
def Z4 (h b:Nat)(kl:List (Bq)):Prop:=(kl=[]/\h=0/\b=0)\/(kl=[gg]/\h=1/\b=0)\/(kl=[gg,pd]/\h=1/\b=1)
structure Lw(us:List Nd)(N i hh bb:Nat)(fD fL:Nat->Int):Prop where
 hD:∀j,j<i->fD j=(((fT ((dY us).take i)).getD j 0:Nat):Int)
 hL:∀j,j<N->fL j=ly ((dY us).take i) j
 hK:Z4 hh bb (kids ((dY us).take i))
variable {us:List Nd}{fL:Nat->Int}
section
variable {d6 d7:Nat}{f1:Nat × Nat}{fD:Nat->Int}
theorem Po(h26:pr 26=none){E0:Aq}(g0:Has S 1 (.cells E0 335))(g1:Has S d (.cells (aY xs) 44 f1))(hm:fJ S xs us)(hN:us.length=N)(hN9:N<=400000000)(g6:Has S d6 (.cells (eR N fD) 3))(g7:Has S d7 (.cells (eR N fL) 3))(h67:d7≠d6)(hT:Lj us)(h1:1<=i)(hi:i<N)(hW:Lw us N i hh bb fD fL) :
  Ew pr (b7 Tryz.f7.body) (qJ t (.slice (sq d) N k) (.slice (sq d6) N N) (.slice (sq d7) N N) hh bb i GH xQ uW so nD x) S (λe a' s'=>e=.normal/\∃hh bb fD fL,Has s' 1 (.cells E0 335)/\Has s' d (.cells (aY xs) 44 f1)/\fJ s' xs us/\Has s' d6 (.cells (eR N fD) 3)/\Has s' d7 (.cells (eR N fL) 3)/\Lw us N (i+1) hh bb fD fL/\∃GH xQ uW so nD x,a'=qJ t (.slice (sq d) N k) (.slice (sq d6) N N) (.slice (sq d7) N N) hh bb i GH xQ uW so nD x):=by
 have hsl:=fR us;have hU:us[i]?=some (us[i]'oq):=List.getElem?_eq_getElem _;have Mb:=hT.pn _ (List.mem_of_getElem? hU);generalize (us[i]'oq)=u at hU Mb;have Qi:(dY us)[i]?=some (yz u):=by unfold dY; rw[List.getElem?_map,hU]; rfl
 have G5:(dY us).take (i+1)=(dY us).take i++[yz u]:=by rw[List.take_add_one,Qi]; rfl
 have kF:((dY us).take i).length=i:=gq
 obtain⟨p,k1,k2,⟨qp,Zz,k3,k3v⟩,k4,k5,k6,k7,k8⟩:=hT.ok i _ h1 Qi;rw[kF] at k2 k6;have k1:u.parent=((p:Nat):Int):=k1;have XT:us[p]?=some (us[p]'oq):=List.getElem?_eq_getElem _;generalize (us[p]'oq)=up at XT;have Yk:((dY us).take i)[p]?=some (yz up):=by rw[Bu,if_pos k2]; unfold dY; rw[List.getElem?_map,XT]; rfl
 rw[Yk] at k3;have k31:up.kind=1:=by have:=congrArg (λz=>z.map (·.1)) k3; simpa[yz] using this
 have k32:up.name=Zz:=by have:=congrArg (λz=>z.map (·.2.2)) k3; simpa[yz] using this
 have hX:xs[i]?=some (xs[i]'(by rw[hm.1]; omega)):=List.getElem?_eq_getElem _;generalize (xs[i]'gq)=X at hX;have VK:xs[p]?=some (xs[p]'gq):=List.getElem?_eq_getElem _;generalize (xs[p]'gq)=Xp at VK;have mX:=hm.2 i X u hX hU;have mXp:=hm.2 p Xp up VK XT;have dp:=hW.hD p k2;have lp:=hW.hL p oq;have hd0:0<=fD p/\fD p+1<=40:=oq
 have hκ:1<=u.kind/\u.kind<=3:=by rcases k4 with e|e|e<;>(have e:u.kind=_:=e; omega)
 have k7:u.kind=2->fL p≠2/\p≠0:=λh=>by rw[lp]; exact k7 h
 have k8:p=0->u.kind=1->(u.name=gg/\hh=0/\bb=0)\/(u.name=pd/\hh=1/\bb=0):=λe1 e2=>by
  rcases k8 e1 e2 with ⟨z1,z2⟩|⟨z1,z2⟩
  .rcases hW.hK with ⟨y,z⟩|⟨y,z⟩|⟨y,z⟩
   .exact .inl ⟨z1,z⟩
   iterate 2
    .rw[z2] at y; cases y
  .rcases hW.hK with ⟨y,z⟩|⟨y,z⟩|⟨y,z⟩
   .rw[z2] at y; cases y
   .exact .inr ⟨z1,z⟩
   .rw[z2] at y; cases y
 have a0:(aY xs)[i*5+0]?=some (num u.kind):=by rw[dt hX 0 dq,<-mX.1]; rfl
 have a1:(aY xs)[i*5+1]?=some (num (p:Nat)):=by rw[dt hX 1 dq,<-k1,<-mX.2.1]; rfl
 have a2:(aY xs)[i*5+2]?=some (str u.name):=by rw[dt hX 2 dq,<-mX.2.2.1]; rfl
 have a3:(aY xs)[i*5+3]?=some (str u.text):=by rw[dt hX 3 dq,<-mX.2.2.2.1]; rfl
 obtain⟨ad,cp,e4⟩:=mX.2.2.2.2.len;have a4:(aY xs)[i*5+4]?=some (.slice ad u.aM.length cp):=by rw[dt hX 4 dq,<-e4]; rfl
 have b0:(aY xs)[p*5+0]?=some (num 1):=by rw[dt VK 0 dq,<-k31,<-mXp.1]; rfl
 have b2:(aY xs)[p*5+2]?=some (str Zz):=by rw[dt VK 2 dq,<-k32,<-mXp.2.2.1]; rfl
 have r6:=ql (n:=N) fD (j:=p) oq;have r7:=ql (n:=N) fL (j:=p) oq;have hatl:=Mb.2.1;have hv:=KV (pr:=pr) (s:=S) h26 k3v;have YB:=AG (n:=N) fD (fD p+1) hi;generalize X7:vv fD i (fD p+1)=LW at YB;have V7:=ql (n:=N) LW hi;rw[show LW i=fD p+1 by rw[<-X7]; unfold vv; rw[if_pos rfl]] at V7;have YC:=AG (n:=N) fL u.kind (j:=p) oq;generalize hfL:vv fL p u.kind=R2 at YC;obtain⟨R6,hR6⟩:∃R,R=eR N fD:=⟨_,rfl⟩;obtain⟨R7,hR7⟩:∃R,R=eR N fL:=⟨_,rfl⟩;rw[<-hR6] at g6 r6 YB;rw[<-hR7] at g7 r7 YC;refine zr (zg 2 S (zp (yi d 0 N k (i*5) none .i64 (i:Nat) 5 oq oq oq) (zg 1 S (zp (bw (b:=d) (off:=i*5+1) (v:=num (p:Nat)) rfl underlying3 rfl kq g1.2 a1) (zf (za S (EW.fill (qJ t (.slice (sq d) N k) (.slice (sq d6) N N) (.slice (sq d7) N N) hh bb i (num (p:Nat)) xQ uW so nD) kq ?_)))))));intro x;refine EW.seq (zr (zg 1 S (zp (yb (num (p:Nat)) (num 0) (aX (b:=false) (decide_eq_false oq))) (zg 3 S (zp (yb (num (p:Nat)) (num (i:Nat)) (eZ (b:=false) (decide_eq_false oq))) (zg 4 S (zp (yi d 0 N k (p*5) none .i64 (p:Nat) 5 oq oq oq) (zg 1 S (zp (bw (b:=d) (off:=p*5+0) (v:=num 1) rfl underlying3 rfl kq g1.2 b0) (zg 5 S (zp (yi d 0 N k (i*5) none .i64 (i:Nat) 5 oq oq oq) (zg 1 S (zp (bw (b:=d) (off:=i*5+0) (v:=num u.kind) rfl underlying3 rfl kq g1.2 a0) (zp (yb (num u.kind) (num 1) (aX (b:=false) (decide_eq_false oq))) (zg 4 S (zp (yi d 0 N k (i*5) none .i64 (i:Nat) 5 oq oq oq) (zg 1 S (zp (bw (b:=d) (off:=i*5+0) (v:=num u.kind) rfl underlying3 rfl kq g1.2 a0) (zp (yb (num u.kind) (num 3) (dQ (b:=false) (decide_eq_false oq))) (zf (za S (zF (EW.fill (qJ t (.slice (sq d) N k) (.slice (sq d6) N N) (.slice (sq d7) N N) hh bb i (num (p:Nat)) xQ uW so nD) kq ?_)))))))))))))))))))))));intro x;refine zr (zg 2 S (zp (yi d 0 N k (p*5) none .i64 (p:Nat) 5 oq oq oq) (zg 1 S (zp (bw (b:=d) (off:=p*5+2) (v:=str Zz) rfl underlying9 rfl kq g1.2 b2) (zc 0 hv (zf (za S (EW.fill (qJ t (.slice (sq d) N k) (.slice (sq d6) N N) (.slice (sq d7) N N) hh bb i (num (p:Nat)) (.bool false) uW so nD) kq ?_))))))));intro x;refine zr (zg 4 S (zp (yi d6 0 N N p none .i64 (p:Nat) 1 oq oq oq) (zp (bw (b:=d6) (off:=p) (v:=num (fD p)) rfl underlying3 rfl kq g6.2 r6) (zp (yp (fD p) 1 (fD p+1) rfl oq) (zp (yi d6 0 N N i none .i64 (i:Nat) 1 oq oq oq) (zp (ys d6 i (num (fD p+1)) g6.2 (by rw[hR6,rG]; exact hi)) (EO.nil ?_)))))));have uc:aO (λy=>y=d6) S (S.set d6 (some (.cells (eR N LW) 3))):=aO.set (K:=λy=>y=d6) (aO.refl _) (λ_=>rfl) _;have PV:=g0.fr uc (g0.ne g6 dq);have PW:=g1.fr uc (g1.ne g6 dq);have D6:=hm.fk uc λy cs fz hy=>hy.ne g6 dq;have PX:Has (S.set d6 (some (.cells (eR N LW) 3))) d6 (.cells (eR N LW) 3):=g6.put _;have PY:=g7.fr uc h67;refine EW.kZ (S.set d6 (some (.cells (eR N LW) 3))) ((show _=S.set d6 (some (.cells (putAt R6 i [num (fD p+1)]) 3)) by kernel_rfl).trans (by rw[YB])) ?_;clear g0 g1 hm g6 g7 uc;generalize S.set d6 (some (.cells (eR N LW) 3))=S1 at PV PW D6 PX PY;have g0:=PV;have g1:=PW;have hm:=D6;have g6:=PX;have g7:=PY;clear PV PW D6 PX PY;obtain⟨R6b,Tf⟩:∃R,R=eR N LW:=⟨_,rfl⟩;rw[<-Tf] at g6 V7;refine EW.fill (qJ t (.slice (sq d) N k) (.slice (sq d6) N N) (.slice (sq d7) N N) hh bb i (num (p:Nat)) (.bool false) uW so nD) kq ?_;intro x;refine EW.seq (EW.mono (Q:=λe a' s'=>e=.normal/\s'=S1/\∃x,a'=qJ t (.slice (sq d) N k) (.slice (sq d6) N N) (.slice (sq d7) N N) hh bb i (num (p:Nat)) (.bool false) uW so nD x) ?_ ?_)
 .by_cases h2:u.kind=2
  .obtain⟨z1,z2⟩:=k7 h2;have ht:=Mb.1 h2;rw[h2] at a0;exact zr (zg 4 S1 (zp (yi d6 0 N N i none .i64 (i:Nat) 1 oq oq oq) (zp (bw (b:=d6) (off:=i) (v:=num (fD p+1)) rfl underlying3 rfl kq g6.2 V7) (zp (yb (num (fD p+1)) (num 40) (dQ (b:=false) (decide_eq_false oq))) (zg 4 S1 (zp (yi d 0 N k (i*5) none .i64 (i:Nat) 5 oq oq oq) (zg 1 S1 (zp (bw (b:=d) (off:=i*5+0) (v:=num 2) rfl underlying3 rfl kq g1.2 a0) (zg 4 S1 (zp (yi d 0 N k (i*5) none .i64 (i:Nat) 5 oq oq oq) (zg 1 S1 (zp (bw (b:=d) (off:=i*5+3) (v:=str u.text) rfl underlying9 rfl kq g1.2 a3) (zp (yb (str u.text) (str []) (dP (b:=false) (kv ht))) (zg 3 S1 (zp (yi d7 0 N N p none .i64 (p:Nat) 1 oq oq oq) (zp (bw (b:=d7) (off:=p) (v:=num (fL p)) rfl underlying3 rfl kq g7.2 r7) (zp (yb (num (fL p)) (num 2) (dk (b:=false) gq)) (zf (za S1 (zF ⟨rfl,rfl,aR kq⟩))))))))))))))))))))
  .exact zr (zg 4 S1 (zp (yi d6 0 N N i none .i64 (i:Nat) 1 oq oq oq) (zp (bw (b:=d6) (off:=i) (v:=num (fD p+1)) rfl underlying3 rfl kq g6.2 V7) (zp (yb (num (fD p+1)) (num 40) (dQ (b:=false) (decide_eq_false oq))) (zg 4 S1 (zp (yi d 0 N k (i*5) none .i64 (i:Nat) 5 oq oq oq) (zg 1 S1 (zp (bw (b:=d) (off:=i*5+0) (v:=num u.kind) rfl underlying3 rfl kq g1.2 a0) (zp (yb (num u.kind) (num 2) (dk (b:=false) gq)) (zf (za S1 (zF ⟨rfl,rfl,aR kq⟩))))))))))))
 rintro e a' s' ⟨rfl,rfl,x,rfl⟩;refine zr (zg 1 s' (zp (EC (i:=(i:Nat)) (j:=1) (r:=((i-1:Nat):Int)) rfl kq kq oq oq) (zf (za s' (EW.fill (qJ t (.slice (sq d) N k) (.slice (sq d6) N N) (.slice (sq d7) N N) hh bb i (num (p:Nat)) (.bool false) (num ((i-1:Nat):Int)) so nD) kq ?_)))));intro x;refine EW.seq (EW.mono (LG g1 hm hN hi h1 hT.ok hT.n0 k6 k2) ?_);rintro e a' s2 ⟨rfl,rfl,x,rfl⟩;refine EW.seq (zr (zg 2 s2 (zp (yb (num (p:Nat)) (num (p:Nat)) (cM (b:=false) (bne_self_eq_false _))) (EO.nil (za s2 (zF (EW.fill (qJ t (.slice (sq d) N k) (.slice (sq d6) N N) (.slice (sq d7) N N) hh bb i (num (p:Nat)) (.bool false) (num (p:Nat)) so nD) kq ?_)))))));intro x;refine zr (zg 4 s2 (zp (yi d 0 N k (i*5) none .i64 (i:Nat) 5 oq oq oq) (zg 1 s2 (zp (bw (b:=d) (off:=i*5+0) (v:=num u.kind) rfl underlying3 rfl kq g1.2 a0) (zp (yi d7 0 N N p none .i64 (p:Nat) 1 oq oq oq) (zp (ys d7 p (num u.kind) g7.2 gq) (EO.nil ?_)))))));have uc:aO (λy=>y=d7) s2 (s2.set d7 (some (.cells (eR N R2) 3))):=aO.set (K:=λy=>y=d7) (aO.refl _) (λ_=>rfl) _;have PV:=g0.fr uc (g0.ne g7 dq);have PW:=g1.fr uc (g1.ne g7 dq);have D6:=hm.fk uc λy cs fz hy=>hy.ne g7 dq;have PY:Has (s2.set d7 (some (.cells (eR N R2) 3))) d7 (.cells (eR N R2) 3):=g7.put _;have PX:=g6.fr uc (Ne.symm h67);refine EW.kZ (s2.set d7 (some (.cells (eR N R2) 3))) ((show _=s2.set d7 (some (.cells (putAt R7 p [num u.kind]) 3)) by kernel_rfl).trans (by rw[YC])) ?_;clear g0 g1 hm g6 g7 uc;generalize s2.set d7 (some (.cells (eR N R2) 3))=S3 at PV PW D6 PX PY;have g0:=PV;have g1:=PW;have hm:=D6;have g6:=PX;have g7:=PY;clear PV PW D6 PX PY;refine EW.fill (qJ t (.slice (sq d) N k) (.slice (sq d6) N N) (.slice (sq d7) N N) hh bb i (num (p:Nat)) (.bool false) (num (p:Nat)) so nD) kq ?_;intro x;have hKn:∃h' b':Nat,Z4 h' b' (kids ((dY us).take (i+1)))/\(((p=0/\u.kind=1)->False)->h'=hh/\b'=bb)/\((p=0/\u.kind=1)->(u.name=gg/\hh=0/\bb=0/\h'=1/\b'=0)\/(u.name=pd/\hh=1/\bb=0/\h'=1/\b'=1)):=by
  rw[G5,nV];by_cases hc:p=0/\u.kind=1
  .rw[if_pos (by show u.parent=0/\u.kind=1; rw[k1]; exact⟨oq,hc.2⟩)];rcases k8 hc.1 hc.2 with ⟨z1,z2,z3⟩|⟨z1,z2,z3⟩
   .refine⟨1,0,.inr (.inl ⟨?_,rfl,rfl⟩),λh=>(h hc).elim,λ_=>.inl ⟨z1,z2,z3,rfl,rfl⟩⟩;rcases hW.hK with ⟨y,_,_⟩|⟨_,y,_⟩|⟨_,y,_⟩
    .rw[y]; show[]++[u.name]=_; rw[z1]; rfl
    .omega
    .omega
   .refine⟨1,1,.inr (.inr ⟨?_,rfl,rfl⟩),λh=>(h hc).elim,λ_=>.inr ⟨z1,z2,z3,rfl,rfl⟩⟩;rcases hW.hK with ⟨_,y,_⟩|⟨y,_,_⟩|⟨_,_,y⟩
    .omega
    .rw[y]; show[gg]++[u.name]=_; rw[z1]; rfl
    .omega
  .rw[if_neg (by show ¬(u.parent=0/\u.kind=1); rw[k1]; intro z; exact hc ⟨oq,z.2⟩)];exact⟨hh,bb,hW.hK,λ_=>⟨rfl,rfl⟩,λh=>(hc h).elim⟩
 obtain⟨h',b',hK1,hK2,hK3⟩:=hKn;refine EW.seq (EW.mono (Q:=λe a' s'=>e=.normal/\s'=S3/\∃x,a'=qJ t (.slice (sq d) N k) (.slice (sq d6) N N) (.slice (sq d7) N N) h' b' i (num (p:Nat)) (.bool false) (num (p:Nat)) so nD x) ?_ ?_)
 .by_cases Ow:p=0
  .by_cases Ot:u.kind=1
   .rw[Ot] at a0;rcases hK3 ⟨Ow,Ot⟩ with ⟨z1,rfl,rfl,rfl,rfl⟩|⟨z1,rfl,rfl,rfl,rfl⟩
    .rw[z1] at a2;refine zr (zg 1 S3 (zp (yb (num (p:Nat)) (num 0) (dk (b:=true) gq)) (zg 3 S3 (zp (yi d 0 N k (i*5) none .i64 (i:Nat) 5 oq oq oq) (zg 1 S3 (zp (bw (b:=d) (off:=i*5+0) (v:=num 1) rfl underlying3 rfl kq g1.2 a0) (zf (za S3 (zH (zr (zg 2 S3 (zp (yi d 0 N k (i*5) none .i64 (i:Nat) 5 oq oq oq) (zg 1 S3 (zp (bw (b:=d) (off:=i*5+2) (v:=str gg) rfl underlying9 rfl kq g1.2 a2) (zf (za S3 (zH (EW.go 9 kq ?_))))))))))))))))));exact⟨kq,by kernel_rfl,aR kq⟩
    .rw[z1] at a2;refine zr (zg 1 S3 (zp (yb (num (p:Nat)) (num 0) (dk (b:=true) gq)) (zg 3 S3 (zp (yi d 0 N k (i*5) none .i64 (i:Nat) 5 oq oq oq) (zg 1 S3 (zp (bw (b:=d) (off:=i*5+0) (v:=num 1) rfl underlying3 rfl kq g1.2 a0) (zf (za S3 (zH (zr (zg 2 S3 (zp (yi d 0 N k (i*5) none .i64 (i:Nat) 5 oq oq oq) (zg 1 S3 (zp (bw (b:=d) (off:=i*5+2) (v:=str pd) rfl underlying9 rfl kq g1.2 a2) (zf (za S3 (zG (zr (zg 2 S3 (zp (yi d 0 N k (i*5) none .i64 (i:Nat) 5 oq oq oq) (zg 1 S3 (zp (bw (b:=d) (off:=i*5+2) (v:=str pd) rfl underlying9 rfl kq g1.2 a2) (zf (za S3 (zH (EW.go 9 kq ?_))))))))))))))))))))))))));exact⟨kq,by kernel_rfl,aR kq⟩
   .obtain⟨rfl,rfl⟩:=hK2 λz=>Ot z.2;exact zr (zg 1 S3 (zp (yb (num (p:Nat)) (num 0) (dk (b:=true) gq)) (zg 3 S3 (zp (yi d 0 N k (i*5) none .i64 (i:Nat) 5 oq oq oq) (zg 1 S3 (zp (bw (b:=d) (off:=i*5+0) (v:=num u.kind) rfl underlying3 rfl kq g1.2 a0) (zp (yb (num u.kind) (num 1) (dk (b:=false) gq)) (zf (za S3 (zF ⟨rfl,rfl,aR kq⟩))))))))))
  .obtain⟨rfl,rfl⟩:=hK2 λz=>Ow z.1;exact zr (zg 1 S3 (zp (yb (num (p:Nat)) (num 0) (dk (b:=false) gq)) (zf (za S3 (zF ⟨rfl,rfl,aR kq⟩)))))
 rintro e a' s4 ⟨rfl,rfl,x,rfl⟩;refine EW.seq (EW.mono (Q:=λe a' s'=>e=.normal/\s'=s4/\∃x,a'=qJ t (.slice (sq d) N k) (.slice (sq d6) N N) (.slice (sq d7) N N) h' b' i (num (p:Nat)) (.bool false) (num (p:Nat)) so nD x) ?_ ?_)
 .by_cases Ow:p=0
  .have hk2:u.kind≠2:=λz=>(k7 z).2 Ow;exact zr (zg 1 s4 (zp (yb (num (p:Nat)) (num 0) (dk (b:=true) gq)) (zg 3 s4 (zp (yi d 0 N k (i*5) none .i64 (i:Nat) 5 oq oq oq) (zg 1 s4 (zp (bw (b:=d) (off:=i*5+0) (v:=num u.kind) rfl underlying3 rfl kq g1.2 a0) (zp (yb (num u.kind) (num 2) (dk (b:=false) gq)) (zg 4 s4 (zp (yi d 0 N k (i*5) none .i64 (i:Nat) 5 oq oq oq) (zg 1 s4 (zp (bw (b:=d) (off:=i*5+4) (v:=.slice ad u.aM.length cp) rfl underlying42 rfl kq g1.2 a4) (zg 1 s4 (zp (yb (num (u.aM.length:Nat)) (num 20) (dQ (b:=false) (decide_eq_false oq))) (zf (za s4 (zF ⟨rfl,rfl,aR kq⟩))))))))))))))))
  .exact zr (zg 1 s4 (zp (yb (num (p:Nat)) (num 0) (dk (b:=false) gq)) (zg 11 s4 (zp (yi d 0 N k (i*5) none .i64 (i:Nat) 5 oq oq oq) (zg 1 s4 (zp (bw (b:=d) (off:=i*5+4) (v:=.slice ad u.aM.length cp) rfl underlying42 rfl kq g1.2 a4) (zg 1 s4 (zp (yb (num (u.aM.length:Nat)) (num 20) (dQ (b:=false) (decide_eq_false oq))) (zf (za s4 (zF ⟨rfl,rfl,aR kq⟩)))))))))))
 rintro e a' s5 ⟨rfl,rfl,x,rfl⟩;have mX:=hm.2 i X u hX hU;refine EW.mono (Lt (u:=u) g1 hX hi mX.2.2.2.2 Mb.2) ?_;rintro e a' s6 ⟨rfl,rfl,so,nD,x,rfl⟩;refine⟨rfl,_,_,LW,R2,g0,g1,hm,by rw[<-Tf]; exact g6,g7,⟨λj hj=>?_,λj hj=>?_,hK1⟩,_,_,_,_,_,_,rfl⟩
 .rw[G5,qX];unfold B3;have R8:=mU ((dY us).take i);rw[kF] at R8;rw[if_neg gq];by_cases hji:j=i
  .subst hji;rw[tS,Bp oq,R8,Nat.sub_self,<-X7];unfold vv;grind
  .rw[tS,vA oq,<-tS,<-X7];unfold vv;rw[if_neg hji];exact hW.hD j oq
 .rw[G5,jS,<-hfL];unfold vv;show(if j=p then u.kind else fL j)=if u.parent=((j:Nat):Int) then u.kind else _;rw[k1];by_cases hjp:j=p
  .grind
  .rw[if_neg hjp,if_neg oq];exact hW.hL j hj
end
def Lw.zero{b:List Nd}{N:Nat}(h:Lj b):Lw b N 1 0 0 (λ_=>0) (λ_=>0):=by
 have a:=h.n0;have e:(dY b).take 1=[(1,-1,me)]:=by
  cases hq:dY b with
  | nil=>rw[hq] at a;cases a
  | cons x l=>rw[hq] at a;cases a;rfl
 refine⟨λj c=>?_,λj c=>?_,?_⟩
 .rw[e,show j=0 by omega];rfl
 .rw[e];show(0:Int)=if (-1:Int)=((j:Nat):Int) then 1 else 0;rw[iw oq]
 .rw[e];exact .inl ⟨rfl,rfl,rfl⟩
def Lx (o:Option Code):Code:=match o with
 | some c=>c
 | none=>.skip
section
variable {d6 d7:Nat}{f1:Nat × Nat}{fD:Nat->Int}{E0:Aq}
def Mq(v:pr 26=none)(o:Has S 1 (.cells E0 335))(g1:Has S d (.cells (aY xs) 44 f1))(s:fJ S xs us)(C:us.length=N)(y:N<=400000000)(g6:Has S d6 (.cells (eR N λ_=>0) 3))(q:Has S d7 (.cells (eR N λ_=>0) 3))(w:d7≠d6)(u:Lj us) :
  Ew pr (sj 10 (Lx Tryz.f7.body)) ([str t,x 1,.bool false,.bool true,x 4,.slice (sq d) N k,.slice (sq d6) N N,.slice (sq d7) N N,num 0,num 0]++gD x 10 249) S (λe p l=>e=.ret/\p.getD 2 undef=.bool true/\Has l 1 (.cells E0 335)):=by
 have D:3<=N:=by have:=u.len; omega
 refine EW.seq (zs (EW.fill (λx=>qJ t (.slice (sq d) N k) (.slice (sq d6) N N) (.slice (sq d7) N N) 0 0 1 (x 11) (x 12) (x 13) (x 14) (x 15) x) kq ?_));intro G;refine za S (EW.block ?_);refine EW.mono (EW.dG (Q:=λe p l=>e=.exit 0/\∃j h fD n,Has l 1 (.cells E0 335)/\Lw us N N j h fD n/\∃i a b c f g x,p=qJ t (.slice (sq d) N k) (.slice (sq d6) N N) (.slice (sq d7) N N) j h i a b c f g x) (λm p l=>∃i j h fD n,i+m=N/\1<=i/\Has l 1 (.cells E0 335)/\Has l d (.cells (aY xs) 44 f1)/\fJ l xs us/\Has l d6 (.cells (eR N fD) 3)/\Has l d7 (.cells (eR N n) 3)/\Lw us N i j h fD n/\∃a b c f g x,p=qJ t (.slice (sq d) N k) (.slice (sq d6) N N) (.slice (sq d7) N N) j h i a b c f g x) ?_ (N-1) _ _ ⟨1,0,0,_,_,by omega,by omega,o,g1,s,g6,q,Lw.zero u,_,_,_,_,_,_,rfl⟩) ?_
 .clear o g1 s g6 q;rintro m p S ⟨i,j,h,fD,n,F,A,o,g1,s,g6,q,r,a,b,c,f,g,x,rfl⟩;by_cases E:i<N
  .refine EW.seq (zr (zg 3 S (zp (yb (num (i:Nat)) (num (N:Nat)) (aX (decide_eq_true oq))) (EO.nil (za S (zT (EW.fill (qJ t (.slice (sq d) N k) (.slice (sq d6) N N) (.slice (sq d7) N N) j h i a b c f g) kq ?_)))))));intro H;refine EW.seq (EW.block (EW.mono (Po v o g1 s C y g6 q w u A E r) ?_));rintro e p l ⟨rfl,j,h,fD,n,o,g1,s,g6,q,r,a,b,c,f,g,x,rfl⟩;refine zx (zg 1 l (zp (yp (i:Nat) 1 ((i+1:Nat):Int) oq oq) (zf ?_)));exact⟨m-1,by omega,i+1,j,h,fD,n,by omega,by omega,o,g1,s,g6,q,r,a,b,c,f,g,aR kq⟩
  .obtain rfl:i=N:=oq
   exact EW.seq (zr (zg 3 S (zp (yb (num (i:Nat)) (num (i:Nat)) (aX (decide_eq_false oq))) (EO.nil (za S (zG (EW.exit ⟨rfl,j,h,fD,n,o,r,i,a,b,c,f,g,aR kq⟩)))))))
 .rintro e p S ⟨rfl,j,h,fD,n,o,r,i,a,b,c,f,g,x,rfl⟩;have B:=r.hK;rw[List.take_of_length_le (by rw[fR]; omega),u.kd] at B;obtain⟨rfl,rfl⟩:j=1/\h=1:=by
   rcases B with ⟨z,_⟩|⟨z,_⟩|⟨_,z1,z2⟩
   .cases z
   .cases z
   .exact⟨z1,z2⟩
  refine zs (za S ?_);exact EW.ret ⟨rfl,by kernel_rfl,o⟩
theorem QB{s1 U:AS}{bs:Bq}{q:Value}{C:Nat}(E:pr 26=none)(G:q=am C 0)(D:Ef pr 23 #[q] s1 (.slice (sq d) us.length k) U)(J:Has U 1 (.cells E0 335))(g1:Has U d (.cells (aY xs) 44 f1))(l:fJ U xs us)(F:us.length<=400000000)(h:Lj us) :
  Ew pr (sj 3 (Lx Tryz.f7.body)) ([str bs,x 1,.bool false,.bool true,q]++gD x 5 254) s1 (λe w Q=>e=.ret/\w.getD 2 undef=.bool true/\Has Q 1 (.cells E0 335)):=by
 subst G;have R:=h.len;have i:us[0]?=some (us[0]'oq):=gE _;generalize (us[0]'oq)=u at i;have j:(dY us)[0]?=some (yz u):=by unfold dY;rw[List.getElem?_map,i];rfl
 have g:=h.n0;rw[j] at g;have M:u.kind=1:=by have:=congrArg (λz=>z.map (·.1)) g;simpa[yz] using this
 have O:u.parent = -1:=by have:=congrArg (λz=>z.map (·.2.1)) g;simpa[yz] using this
 have P:u.name=me:=by have:=congrArg (λz=>z.map (·.2.2)) g;simpa[yz] using this
 have a:xs[0]?=some (xs[0]'(by rw[l.1];omega)):=gE _;generalize (xs[0]'gq)=X at a;have o:=l.2 0 X u a i;have y:(aY xs)[0]?=some (num 1):=by have:=dt a 0 dq;rw[Nat.zero_mul] at this;rw[this,<-M,<-o.1];rfl
 have A:(aY xs)[1]?=some (num (-1)):=by have:=dt a 1 dq;rw[Nat.zero_mul] at this;rw[this,<-O,<-o.2.1];rfl
 have B:(aY xs)[2]?=some (str me):=by have:=dt a 2 dq;rw[Nat.zero_mul] at this;rw[this,<-P,<-o.2.2.1];rfl
 generalize K:us.length=N at *;have t:=Has.new U (.cells (eR N λ_=>0) 3);have p:=Has.new (U.add (.cells (eR N λ_=>0) 3)) (.cells (eR N λ_=>0) 3);have c:aO (λ_=>False) U ((U.add (.cells (eR N λ_=>0) 3)).add (.cells (eR N λ_=>0) 3)):=((aO.refl U).add _).add _;have s:=GI N;refine EW.seq (zr (zf (za s1 (zF (zr (zc 1 D (zf (za U (EW.seq (zr (zg 2 U (zp (yb (num (N:Nat)) (num 3) (aX (b:=false) (fD oq))) (zg 2 U (zp (yi d 0 N k 0 none .i64 0 5 oq oq oq) (zg 1 U (zp (bw (b:=d) (off:=0) (v:=num 1) rfl underlying3 rfl kq g1.2 y) (zg 4 U (zp (yi d 0 N k 0 none .i64 0 5 oq oq oq) (zg 1 U (zp (bw (b:=d) (off:=2) (v:=str me) rfl underlying9 rfl kq g1.2 B) (zg 4 U (zp (yi d 0 N k 0 none .i64 0 5 oq oq oq) (zg 1 U (zp (bw (b:=d) (off:=1) (v:=num (-1)) rfl underlying3 rfl kq g1.2 A) (zf (za U (zF (zr (zg 2 U (zp (JH (n:=N) (sz:=1) (bytes:=8) (z:=num 0) rfl underlying25 kq kq kq oq oq kq kq dq) ?_))))))))))))))))))))))))))))));rw[s];generalize m:U.add (.cells (eR N λ_=>0) 3)=f at t p c |-;have L:f.nx=U.nx+1:=by rw[<-m];rfl
 refine zf (za f (zr (zg 2 f (zp (JH (n:=N) (sz:=1) (bytes:=8) (z:=num 0) rfl underlying25 kq kq kq oq oq kq kq dq) ?_))));rw[s];generalize H:f.add (.cells (eR N λ_=>0) 3)=r at p c |-;refine zf ?_;iterate 2
  refine za r ?_
  refine zs ?_
 refine za r ?_;have I:Has r U.nx (.cells (eR N λ_=>0) 3):=by rw[<-H];exact t.add _
 refine EW.fill (λx=>[str bs,x 1,.bool false,.bool true,x 4,.slice (sq d) N k,.slice (sq U.nx) N N,.slice (sq f.nx) N N,num 0,num 0]++gD x 10 249) kq ?_;intro S;exact Mq E (J.fr c id) (g1.fr c id) (l.fk c λ_ _ _ _=>id) K F I p oq h
end
variable {s s1:AS}
section
def Ai{b:Nat}{o:Obj}:∀{l:List Nat},b∈l->s.get b=some o->oO o=true->(s.only l).get b=some o
 | [],h,_,_=>by simp at h
 | c::l,h,hs,ho=>by
  unfold AS.only;by_cases hc:c=b
  .subst hc;rw[hs];simp only;rw[ip ho,AS.bn,ip rfl]
  .have ih:=Ai ((nk.1 h).resolve_left λe=>hc e.symm) hs ho;split
   .split
    .rw[AS.bn,iw (λe=>hc e.symm)];exact ih
    .exact ih
   .exact ih
def AS.all(s:AS):AS:=s.only (List.range s.nx)
def AS.Pa(s:AS):s.all.nx=s.nx:=(Ez (List.range s.nx) s).1
def Has.all{b:Nat}{o:Obj}(h:Has s b o)(a:oO o=true):Has s.all b o:=⟨by rw[AS.Pa];exact h.1,Ai (List.mem_range.2 h.1) h.2 a⟩
def rP.all{v:Value}{xs:List bY}(h:rP s v xs):rP s.all v xs:=by have⟨d,c,a,e,h⟩:=h;exact⟨d,c,a,e,h.all rfl⟩
def fJ.all{xs:List bY}{b:List Nd}(h:fJ s xs b):fJ s.all xs b:=⟨h.1,λi x u g f=>by
 have⟨h1,h2,h3,d,a⟩:=h.2 i x u g f;refine⟨h1,h2,h3,d,?_⟩;rcases a with a|⟨ab,c,fz,e,q1,q2⟩
 .exact .inl a
 .have:=Has.all ⟨q1,q2⟩ rfl;exact .inr ⟨ab,c,fz,e,this.1,this.2⟩⟩
abbrev jZ(v:Value)(n:Nat)(b:Bool):Obj:=.cells #[v,num (n:Nat),.bool b] 80
def sI (s:AS):AS:=s.add (jZ aD 0 false)
def OK (t:Bq)(s:AS):AS:=((sI s).add (.cells #[str t] 9)).add (.cells #[str t] 9 (1,1))
def JS (t:Bq)(s:AS):AS:=(OK t s).set s.nx (some (jZ (.slice (some ⟨s.nx+2,0,none⟩) 1 1) t.length false))
def uV (t:Bq)(s:AS):AS:=(JS t s).add (.cells #[aD] 82)
def Js(a:pr 18=none):Ef pr 18 #[] s (am s.nx 0) (sI s):=by
 refine EF.of a func18 rfl ?_;iterate 2 refine zs ?_
 exact yR
def LY(n:pr 20=none){t:Bq}(o:∀s,Ef pr 36 #[str t] s (str t) s)(G:t≠[])(L:t.length<=20000):Ef pr 20 #[am s.nx 0,str t] (sI s) (num 0) (JS t s):=by
 have f:Has (sI s) s.nx (jZ aD 0 false):=Has.new s _;have D:=f.add (.cells #[str t] 9);have x:Has (OK t s) s.nx (jZ aD 0 false):=D.add (.cells #[str t] 9 (1,1));have E:Has ((sI s).add (.cells #[str t] 9)) (s.nx+1) (.cells #[str t] 9):=Has.new (sI s) _;have y:=x.put (jZ (.slice (sq (s.nx+2)) 1 1) 0 false);have F:((OK t s).set s.nx (some (jZ (.slice (sq (s.nx+2)) 1 1) 0 false))).set s.nx (some (jZ (.slice (sq (s.nx+2)) 1 1) t.length false))=JS t s:=AS.set_set (OK t s) s.nx (some (jZ (.slice (sq (s.nx+2)) 1 1) 0 false)) (some (jZ (.slice (sq (s.nx+2)) 1 1) t.length false));have A:=bE (P:=prog) (t:=62) underlying62 rfl f.2 (off:=0) rfl;have c:=ia (P:=prog) (e:=9) (news:=[str t]) (m:=1) (s:=(sI s).add (.cells #[str t] 9)) dq;have K:=o (sI s);have H:(sI s).nx=s.nx+1:=rfl;have c:bK prog 9 aD [str t] 1 ((sI s).add (.cells #[str t] 9))=some (.slice (sq (s.nx+2)) 1 1,OK t s):=c;generalize I:sI s=a at *;generalize p:a.add (.cells #[str t] 9)=B at *;generalize J:OK t s=h at *;generalize q:h.set s.nx (some (jZ (.slice (sq (s.nx+2)) 1 1) 0 false))=g at *;generalize JS t s=C at *;generalize s.nx=b at *;refine EF.of n func20 rfl ?_;refine zs (EW.seq (EW.block (zr (zg 3 a (zp (bw (b:=b) (off:=2) (v:=.bool false) rfl underlying4 rfl kq f.2 rfl) (zf (za a (zG (zr (zk 1 (zp (cY (l:=t) rfl underlying9 kq) (zg 3 a (zp (bw (b:=b) (off:=1) (v:=num 0) rfl underlying3 rfl kq f.2 rfl) (zk 1 (zp (aQ (u:=num (t.length:Nat)) (w:=num 20000) rfl kq kq (dQ (b:=false) (fD oq))) (zf (za a (zG (zr (zk 1 (zp (aQ (u:=str t) (w:=str []) rfl kq kq (by unfold dw;simp only;rw[kv G])) (zf (za a (zH (EW.seq (EW.draw kq kq kq ?_))))))))))))))))))))))))));iterate 4 refine zq ?_
 refine zt a (zu (bw (b:=b) (off:=0) (v:=aD) rfl underlying62 rfl kq f.2 rfl) (zq (zt a (ET.gd #[str t] kq rfl rfl kq kq K (zq (ET.kZ B ((show _=a.add (.cells #[str t] 9) by kernel_rfl).trans p) (zu (MM (sl:=aD) (d:=a.nx) (k:=1) (z:=str []) (w:=str t) (bytes:=16) rfl kq kq underlying62 kq rfl dq kq (by rw[H];exact E.2) rfl rfl c) ?_)))))));iterate 2 refine zq ?_
 refine zt h (zu (gA (b:=b) (off:=0) (w:=.slice (sq (b+2)) 1 1) rfl kq kq rfl rfl kq x.2 iq) (ET.nil ⟨aI [(aB prog 62 (am b 0) a,aD),(aB prog 62 (am b 0) a,aD)] kq (iD ⟨A,rfl⟩ ⟨A,rfl⟩),_,_,_,_,_,_,rfl,rfl,?_⟩));exact EW.kZ g ((show _=h.set b (some (jZ (.slice (sq (b+2)) 1 1) 0 false)) by kernel_rfl).trans q) (zx (zg 3 g (zp (bw (b:=b) (off:=1) (v:=num 0) rfl underlying3 rfl kq y.2 rfl) (zk 1 (zp (cY (l:=t) rfl underlying9 kq) (zp (iP (i:=0) (j:=(t.length:Nat)) (r:=((t.length:Nat):Int)) rfl kq kq oq oq) (zg 2 g (zp (gA (b:=b) (off:=1) (w:=num (t.length:Nat)) rfl kq kq rfl rfl kq y.2 iq) (EO.nil (EW.kZ C ((show _=g.set b (some (jZ (.slice (sq (b+2)) 1 1) t.length false)) by kernel_rfl).trans F) (zs (EW.ret ⟨.inr rfl,kq,kq⟩))))))))))))
def PH(e:pr 21=none){t:Bq}(a:Ef pr 37 #[.slice (sq (s.nx+2)) 1 1,.func (.func 38) #[] #[am (s.nx+3) 0]] (uV t s) (.tuple #[]) s1){o:Obj}(f:Has s1 s.nx (jZ (.slice (sq (s.nx+2)) 1 1) t.length false)):Ef pr 21 #[am s.nx 0] (JS t s) (.tuple #[am (s.nx+3) 0,num 0]) (s1.set s.nx (some (jZ aD 0 true))):=by
 have g:Has (JS t s) s.nx (jZ (.slice (sq (s.nx+2)) 1 1) t.length false):=by have:Has (OK t s) s.nx (jZ aD 0 false):=((Has.new s _).add _).add _;exact this.put _
 have h:Has (uV t s) s.nx (jZ (.slice (sq (s.nx+2)) 1 1) t.length false):=g.add _;have i:(JS t s).nx=s.nx+3:=rfl;have j:(JS t s).add (.cells #[aD] 82)=uV t s:=rfl;generalize JS t s=c at *;generalize uV t s=d at *;rw[<-i] at a |-;generalize s.nx=b at *;refine EF.of e func21 rfl ?_;exact zs (EW.seq (zr (zg 3 c (zp (yl b 2 (.bool false) g.2) (EO.nil (za c (zF (zr (zk 1 (EO.kZ d ((show _=c.add (.cells #[aD] 82) by kernel_rfl).trans j) (EO.nil (za d (zr (zg 3 d (zp (yl b 0 (.slice (sq (b+2)) 1 1) h.2) (zc 1 a (EO.nil (za s1 (zr (zg 3 s1 (zp (fx (b:=b) (off:=0) (w:=.agg #[aD,num 0,.bool true]) (ws:=[aD,num 0,.bool true]) rfl kq kq rfl rfl kq f.2 iq) (EO.nil (za (s1.set b (some (jZ aD 0 true))) (zs yR))))))))))))))))))))))))
def M8(a:pr 17=none)(c:pr 18=none)(d:pr 20=none)(e:pr 21=none){t:Bq}(f:∀s,Ef pr 36 #[str t] s (str t) s)(n:t≠[])(p:t.length<=20000)(g:Ef pr 37 #[.slice (sq (s.nx+2)) 1 1,.func (.func 38) #[] #[am (s.nx+3) 0]] (uV t s) (.tuple #[]) s1)(h:Has s1 s.nx (jZ (.slice (sq (s.nx+2)) 1 1) t.length false)):Ef pr 17 #[str t] s (am (s.nx+3) 0) (s1.set s.nx (some (jZ aD 0 true))):=by have e1:=Js (pr:=pr) (s:=s) c;have l:=LY (s:=s) d f n p;have m:=PH (o:=jZ aD 0 false) e g h;generalize s1.set s.nx (some (jZ aD 0 true))=j at *;generalize JS t s=k at *;generalize sI s=i at *;generalize s.nx+3=B at *;generalize s.nx=b at *;exact EF.of a func17 rfl (zs (zr (zc 0 e1 (zf (za i (EW.seq (zr (zf (za i (zF (zr (zc 2 l (zf (za k (zr (zc 1 m (zf (za j (EW.seq (zr (zf (za j (zF (zs yR))))))))))))))))))))))))
end
theorem Pn{a b:Nat}(h:a<b):Nat.blt a b=true:=by simp_all
def Aa{n m:Nat}(h:n<=m){x:Value}(a:ry n x=true):ry m x=true:=by
 unfold ry at a |-;split at a;iterate 2
  .exact Pn (lL (oF a) h)
 .exact a
theorem EE{s4:AS}{t:Bq}(U:s4.nx=4061):(∀b,b<4061->(uV t s4).get b=s4.get b)/\(uV t s4).get 4061=some (jZ (.slice (sq 4063) 1 1) t.length false)/\(uV t s4).get 4062=some (.cells #[str t] 9)/\(uV t s4).get 4063=some (.cells #[str t] 9 (1,1))/\(uV t s4).get 4064=some (.cells #[aD] 82)/\(uV t s4).nx=4065:=by unfold uV JS OK sI;simp only[AS.bv,AS.bn,AS.Jy,AS.QQ,U];grind
def JU{s4:AS}{t:Bq}(d:s4.nx=4061)(i:∀b o,s4.get b=some o->∃a f e,o=.cells a f e/\a.toList.all (ry 4061)=true):(uV t s4).A8=true:=by
 have⟨g1,g2,g3,g4,g5,g6⟩:=EE (t:=t) d;unfold AS.A8;rw[aT];intro b c;have c:=List.mem_range.1 c;rw[g6] at c |-;by_cases h:b<4061
 .rw[g1 b h];cases ho:s4.get b with
  | none=>rfl
  | some o =>obtain⟨a,f,e,rfl,g⟩:=i b o ho;exact aT.2 λz j=>Aa oq (aT.1 g z j)
 .have:b=4061\/b=4062\/b=4063\/b=4064:=oq
  rcases this with rfl|rfl|rfl|rfl
  .rw[g2];rfl
  .rw[g3];rfl
  .rw[g4];rfl
  .rw[g5];rfl
def yw (s:AS):AS:=(sI s).add (.cells #[aD] 82)
theorem ED{s4:AS}(U:s4.nx=4063):(∀b,b<4063->(yw s4).get b=s4.get b)/\(yw s4).get 4063=some (jZ aD 0 false)/\(yw s4).get 4064=some (.cells #[aD] 82)/\(yw s4).nx=4065:=by unfold yw sI;simp only[AS.bv,AS.Jy,U];grind
def JR{s4:AS}(d:s4.nx=4063)(i:∀b o,s4.get b=some o->∃a f e,o=.cells a f e/\a.toList.all (ry 4061)=true):(yw s4).A8=true:=by
 have⟨g1,g2,g3,g6⟩:=ED d;unfold AS.A8;rw[aT];intro b c;have c:=List.mem_range.1 c;rw[g6] at c |-;by_cases h:b<4063
 .rw[g1 b h];cases ho:s4.get b with
  | none=>rfl
  | some o =>obtain⟨a,f,e,rfl,g⟩:=i b o ho;exact aT.2 λz j=>Aa oq (aT.1 g z j)
 .have:b=4063\/b=4064:=oq
  rcases this with rfl|rfl
  .rw[g2];rfl
  .rw[g3];rfl
section
def LX(c:pr 20=none):Ef pr 20 #[am s.nx 0,str []] (sI s) (num 0) (sI s):=by have d:Has (sI s) s.nx (jZ aD 0 false):=Has.new s _;generalize sI s=a at *;generalize s.nx=b at *;exact EF.of c func20 rfl (zs (EW.seq (EW.block (zr (zg 3 a (zp (yl b 2 (.bool false) d.2) (zf (za a (zG (zr (zg 5 a (zp (yl b 1 (num 0) d.2) (zf (za a (zG (zs (za a (zF (zs yR)))))))))))))))))))
def PE(e:pr 21=none)(a:Ef pr 37 #[aD,.func (.func 38) #[] #[am (s.nx+1) 0]] (yw s) (.tuple #[]) s1)(f:Has s1 s.nx (jZ aD 0 false)):Ef pr 21 #[am s.nx 0] (sI s) (.tuple #[am (s.nx+1) 0,num 0]) (s1.set s.nx (some (jZ aD 0 true))):=by have g:Has (sI s) s.nx (jZ aD 0 false):=Has.new s _;have h:Has (yw s) s.nx (jZ aD 0 false):=g.add _;have i:(sI s).nx=s.nx+1:=rfl;have j:(sI s).add (.cells #[aD] 82)=yw s:=rfl;generalize sI s=c at *;generalize yw s=d at *;rw[<-i] at a |-;generalize s.nx=b at *;refine EF.of e func21 rfl ?_;exact zs (EW.seq (zr (zg 3 c (zp (yl b 2 (.bool false) g.2) (EO.nil (za c (zF (zr (zk 1 (EO.kZ d ((show _=c.add (.cells #[aD] 82) by kernel_rfl).trans j) (EO.nil (za d (zr (zg 3 d (zp (yl b 0 aD h.2) (zc 1 a (EO.nil (za s1 (zr (zg 3 s1 (zp (fx (b:=b) (off:=0) (w:=.agg #[aD,num 0,.bool true]) (ws:=[aD,num 0,.bool true]) rfl kq kq rfl rfl kq f.2 iq) (EO.nil (za (s1.set b (some (jZ aD 0 true))) (zs yR))))))))))))))))))))))))
def M5(c:pr 17=none)(d:pr 18=none)(e:pr 20=none)(f:pr 21=none)(g:Ef pr 37 #[aD,.func (.func 38) #[] #[am (s.nx+1) 0]] (yw s) (.tuple #[]) s1)(h:Has s1 s.nx (jZ aD 0 false)):Ef pr 17 #[str []] s (am (s.nx+1) 0) (s1.set s.nx (some (jZ aD 0 true))):=by have e1:=Js (pr:=pr) (s:=s) d;have j:=LX (s:=s) e;have k:=PE f g h;generalize s1.set s.nx (some (jZ aD 0 true))=i at *;generalize sI s=a at *;generalize s.nx+1=B at *;generalize s.nx=b at *;exact EF.of c func17 rfl (zs (zr (zc 0 e1 (zf (za a (EW.seq (zr (zf (za a (zF (zr (zc 2 j (zf (za a (zr (zc 1 k (zf (za i (EW.seq (zr (zf (za i (zF (zs yR))))))))))))))))))))))))
end
section
variable {s4:AS}{nC:Prim}
structure Lm(pr:Prim)(t:Bq)(s4:AS)(us:List Nd):Prop where
 ex:∃s9 wv xs,EF prog kg pr 17 #[str t] s4 (am 4064 0) s9/\Has s9 4064 (.cells #[wv] 82)/\rP s9 wv xs/\fJ s9 xs us/\Has s9 1 (.cells cR.toArray 335)
theorem M6{t:Bq}(X:t≠[])(hl:t.length<=20000)(hr:Hs nC us)(m:s4.nx=4061)(h1:Has s4 1 (.cells cR.toArray 335))(hs:∀b o,s4.get b=some o->∃r ty u,o=.cells r ty u/\r.toList.all (ry 4061)=true) :
  ∃n,∀(pr:Prim) (V:Aq->Option Value),pr 36=some (RX V)->V #[str t]=some (str t)->(∀f,f∈[17,18,20,21]->pr f=none)->Lm (jY prog n 4065 ⟨t.toArray⟩ AS.all nC pr) t s4 us:=by
 have⟨g1,g2,g3,g4,g5,g6⟩:=EE (t:=t) m;have B:=JU (t:=t) m hs;obtain⟨R,v⟩:∃R:AS,R=⟨((uV t s4).set 4063 none).hp,4066⟩:=⟨_,rfl⟩;have k:∀b,b≠4063->R.get b=(uV t s4).get b:=λb p=>by rw[v];show((uV t s4).set 4063 none).get b=_;rw[AS.bn,iw p]
 have H:R.nx=4066:=by rw[v]
 have O:aO (λ_=>False) s4 R:=⟨by rw[m,H];decide,λb p _=>by rw[m] at p;rw[k b oq,g1 b p]⟩;have J:=h1.fr O id;have C:R.get 4061=some (jZ (.slice (sq 4063) 1 1) t.length false):=(k _ dq).trans g2;have D:R.get 4064=some (.cells #[aD] 82):=(k _ dq).trans g5;have⟨i,E,w,e1,I,Q,S,z,e6⟩:=hr.run R H J.2 D;have l:AS.keeps ((uV t s4).set 4063 none) i=true:=by
  unfold AS.keeps;rw[aT];intro b p;have p:b<4065:=by simp_all
  have hg:((uV t s4).set 4063 none).get b=R.get b:=by rw[v];rfl
  rw[hg];by_cases F:b=4064
  .rw[F,I.2];simp
  .rw[z.2 b oq F];cases R.get b<;>rfl
 have⟨n,hn⟩:=CV (str:=⟨t.toArray⟩) (r0:=4065) (pv:=.slice (sq 4063) 1 1) (ps:=[⟨t.toArray⟩]) (sB:=(uV t s4).set 4063 none) (uG:=AS.all) (nC:=nC) (s:=uV t s4) (s1:=i.all) (f:=38) (aS:=Tryz.f38) (y:=#[am 4064 0]) (by show(match (uV t s4).get 4063 with|some (.cells r 9 _)=>_|_=>_)=_;rw[g4];simp only;rw[ip ⟨iq,by rw[g6];decide⟩];rfl) iq iq func38 rfl rfl g6 B (by rw[g6];rfl) (by have e1:=e1;rw[v] at e1;rw[g6];exact EW.mono e1 λe a s' h=>⟨h.1,by rw[h.2];exact l,by rw[h.2]⟩);have j:Has i.all s4.nx (jZ (.slice (sq (s4.nx+2)) 1 1) t.length false):=by rw[m];exact(Has.fr (s:=R) ⟨oq,C⟩ z dq).all rfl
 refine⟨n,λpr V P hV aa=>⟨?_⟩⟩;have Z:∀f,f≠37->jY prog n 4065 ⟨t.toArray⟩ AS.all nC pr f=pr f:=λf hf=>by unfold jY;rw[iw (by simp_all)]
 have U:∀f,f∈[17,18,20,21]->jY prog n 4065 ⟨t.toArray⟩ AS.all nC pr f=none:=λf hf=>by grind
 have N:∀s,Ef (jY prog n 4065 ⟨t.toArray⟩ AS.all nC pr) 36 #[str t] s (str t) s:=λs=>EF.al (V:=V) ((Z _ dq).trans P) hV;have Y:=hn pr;generalize jY prog n 4065 ⟨t.toArray⟩ AS.all nC pr=L at *;have q:Ef L 37 #[.slice (sq (s4.nx+2)) 1 1,.func (.func 38) #[] #[am (s4.nx+3) 0]] (uV t s4) (.tuple #[]) i.all:=by simp_all
 have G:=M8 (s:=s4) (U 17 iq) (U 18 iq) (U 20 iq) (U 21 iq) N X hl q j;rw[m] at G j;have g:aO (λx=>x=4061) i.all (i.all.set 4061 (some (jZ aD 0 true))):=aO.set (K:=λx=>x=4061) (aO.refl _) (λ_=>rfl) _;have M:=J.fr z dq;have A:Has (i.all.set 4061 (some (jZ aD 0 true))) 4064 (.cells #[E] 82):=(I.all rfl).fr g dq;have k1:Has (i.all.set 4061 (some (jZ aD 0 true))) 1 (.cells cR.toArray 335):=(M.all rfl).fr g dq;have W:rP (i.all.set 4061 (some (jZ aD 0 true))) E w:=by have⟨d,c,u,e,h⟩:=Q.all;exact⟨d,c,u,e,h.fr g (h.ne j dq)⟩
 have T:fJ (i.all.set 4061 (some (jZ aD 0 true))) w us:=S.all.fk g λx r u hx=>hx.ne j dq;exact⟨_,E,w,G,A,W,T,k1⟩
theorem M7(X:Hs nC us)(p:s4.nx=4063)(h1:Has s4 1 (.cells cR.toArray 335))(Y:∀b o,s4.get b=some o->∃w ty r,o=.cells w ty r/\w.toList.all (ry 4061)=true) :
  ∃n,∀k:Prim,(∀f,f∈[17,18,20,21]->k f=none)->Lm (jY prog n 4065 ⟨([]:Bq).toArray⟩ AS.all nC k) [] s4 us:=by
 have⟨g1,g2,g5,g6⟩:=ED p;have B:=JR p Y;obtain⟨R,t⟩:∃R:AS,R=⟨(yw s4).hp,4066⟩:=⟨_,rfl⟩;have l:∀b,R.get b=(yw s4).get b:=λb=>by rw[t];rfl
 have H:R.nx=4066:=by rw[t]
 have N:aO (λ_=>False) s4 R:=⟨by rw[p,H];decide,λb u _=>by rw[p] at u;rw[l b,g1 b u]⟩;have J:=h1.fr N id;have C:R.get 4063=some (jZ aD 0 false):=(l _).trans g2;have D:R.get 4064=some (.cells #[aD] 82):=(l _).trans g5;have⟨i,E,v,e1,I,O,P,z,e6⟩:=X.run R H J.2 D;have m:AS.keeps (yw s4) i=true:=by
  unfold AS.keeps;rw[aT];intro b u;have u:b<4065:=by simp_all
  have V:(yw s4).get b=R.get b:=by rw[t];rfl
  rw[V];by_cases F:b=4064
  .rw[F,I.2];simp
  .rw[z.2 b oq F];cases R.get b<;>rfl
 have⟨n,W⟩:=CV (str:=⟨([]:Bq).toArray⟩) (r0:=4065) (pv:=aD) (ps:=[]) (sB:=yw s4) (uG:=AS.all) (nC:=nC) (s:=yw s4) (s1:=i.all) (f:=38) (aS:=Tryz.f38) (y:=#[am 4064 0]) rfl rfl iq func38 rfl rfl g6 B (by rw[g6];rfl) (by have e1:=e1;rw[t] at e1;rw[g6];exact EW.mono e1 λe a s' h=>⟨h.1,by rw[h.2];exact m,by rw[h.2]⟩);have j:Has i.all s4.nx (jZ aD 0 false):=by rw[p];exact(Has.fr (s:=R) ⟨oq,C⟩ z dq).all rfl
 refine⟨n,λk a9=>⟨?_⟩⟩;have hP:∀f,f≠37->jY prog n 4065 ⟨([]:Bq).toArray⟩ AS.all nC k f=k f:=λf T=>by unfold jY;rw[iw (by simp_all)]
 have U:∀f,f∈[17,18,20,21]->jY prog n 4065 ⟨([]:Bq).toArray⟩ AS.all nC k f=none:=λf T=>by grind
 have a8:=W k;generalize jY prog n 4065 ⟨([]:Bq).toArray⟩ AS.all nC k=L at *;have q:Ef L 37 #[aD,.func (.func 38) #[] #[am (s4.nx+1) 0]] (yw s4) (.tuple #[]) i.all:=by simp_all
 have G:=M5 (s:=s4) (U 17 iq) (U 18 iq) (U 20 iq) (U 21 iq) q j;rw[p] at G j;have g:aO (λx=>x=4063) i.all (i.all.set 4063 (some (jZ aD 0 true))):=aO.set (K:=λx=>x=4063) (aO.refl _) (λ_=>rfl) _;have M:=J.fr z dq;have A:Has (i.all.set 4063 (some (jZ aD 0 true))) 4064 (.cells #[E] 82):=(I.all rfl).fr g dq;have k1:Has (i.all.set 4063 (some (jZ aD 0 true))) 1 (.cells cR.toArray 335):=(M.all rfl).fr g dq;have S:rP (i.all.set 4063 (some (jZ aD 0 true))) E v:=by have⟨d,c,r,e,h⟩:=O.all;exact⟨d,c,r,e,h.fr g (h.ne j dq)⟩
 have Q:fJ (i.all.set 4063 (some (jZ aD 0 true))) v us:=P.all.fk g λx w r Z=>Z.ne j dq;exact⟨_,E,v,G,A,S,Q,k1⟩
end
variable {ι:Type}{P:Program}{KT:TypeId->Prop}{An:cb}{kt:TypeId->Bool}
section
variable {N0:ι->Nat}{M:ι->World->Nat->Prop}{O:ι->Nat->Prop}{R:ι->Wq}{D:ι->World->World->Array Event->Prop}{X:ι->Gq}{Hd:ι->Hq->World->Prop}
variable {aA:TL}{K:TL->AS->Prop}{ops:Array Oper}{o:Oper}{v:Value}
def WI.kZ{c:Code}{Q:Exit->TL->AS->Prop}(s':AS)(h:s=s')(kk:WI P KT An X Hd c aA s' Q):WI P KT An X Hd c aA s Q:=h▸kk
end
section
variable {N0:ι->Nat}{M:ι->World->Nat->Prop}{O:ι->Nat->Prop}{R:ι->Wq}{D:ι->World->World->Array Event->Prop}{X:ι->Gq}{Hd:ι->Hq->World->Prop}{V6:Prim}
open Classical in
theorem ck.Pe(Y : Cy P KT N0 M O R D X Hd)(hm : P.follows .mixedOrders = true)(Ck : ∀ t, kt t = false -> ¬ KT t)(F9 : ∀ (f : FuncId) (aS : Func), P.funcs[f]? = some aS -> (aS.name == "runtime.NumGoroutine") = false){k m : Nat}(L3 : ∀ b, k <= b -> An b = none)(Ow : ck P KT An R D X Hd V6)(hp : ck P KT An R D X Hd pr)(f : FuncId) : ∃ V, ck P KT An R D X Hd (uB f V pr) /\ ∀ args v s1, args.toList.all (eU m) = true -> eU m v = true -> EF P kt V6 f args ⟨[], k⟩ v s1 -> V args = some v := by
 refine⟨λargs=>if h:∃v s1,args.toList.all (eU m)=true/\eU m v=true/\EF P kt V6 f args ⟨[],k⟩ v s1 then some (Classical.choose h) else none,⟨?_,?_⟩,?_⟩
 .intro g h args s v s' hf hh;unfold uB at hf;split at hf
  .cases hf;unfold RX at hh;grind
  .exact hp.nx g h args s v s' hf hh
 .intro g h args s v s' hf hh;unfold uB at hf;split at hf
  .next he =>
   have he:=gh he;subst he;cases hf;unfold RX at hh;split at hh
   .next v' hv =>
    cases hh;dsimp only at hv;split at hv
    .next hex =>cases hv;have⟨s1,h1,h2,n,h3⟩:=Classical.choose_spec hex;exact Sound.alone Y L3 h1 h2 ((ij Y hm Ck Ow F9 n).2 _ _ _ _ _ h3)
    .cases hv
   .cases hh
  .exact hp.sound g h args s v s' hf hh
 .intro args v s1 h1 h2 h3;have hex:∃v s1,args.toList.all (eU m)=true/\eU m v=true/\EF P kt V6 f args ⟨[],k⟩ v s1:=⟨v,s1,h1,h2,h3⟩;simp only[dif_pos hex];have⟨s2,_,_,h4⟩:=Classical.choose_spec hex;rw[(EF.one h4 h3).1]
end
section
def Ni(a:pr 16=none)(q:Bq):Ef pr 16 #[str q,num 20000] s (str (q.take 20000)) s:=by
 refine EF.of a func16 rfl (zs (za s (EW.seq (zr (zg 1 s (zp (cY (l:=q) rfl underlying9 kq) (zg 1 s ?_)))))));by_cases h:20000<q.length
 .exact zp (yb (num (q.length:Nat)) (num 20000) (dQ (b:=true) (tD oq))) (EO.nil (za s (zH (zr (zg 2 s (zp (iF (l:=q) (m:=q.take 20000) (i:=0) (j:=20000) rfl underlying9 kq (by show(if (0:Int)<=20000/\(20000:Int)<=(q.length:Int) then some (0,(20000:Int).toNat) else none)=_;rw[ip oq];rfl) rfl) (zf (za s (EW.ret ⟨.inr rfl,kq,rfl⟩)))))))))
 .have e:q.take 20000=q:=tL oq;rw[e];exact zp (yb (num (q.length:Nat)) (num 20000) (dQ (b:=false) (fD oq))) (EO.nil (za s (zF (zs (za s (EW.ret ⟨.inr rfl,kq,rfl⟩))))))
def Rp (q:Bq):TL:=[str q,undef,.bool false,.bool true]++List.replicate 12 undef++[.bool true]++List.replicate 242 undef
def NB{j:List Nd}{q:Bq}{s4:AS}(a:pr 16=none)(c:pr 26=none)(b:pr 23=none)(f:pr 41=none)(g:pr 42=none){t:Bq}(D:q.take 20000=t)(C:Lm pr t s4 j)(i:Lj j)(m:j.length<=400000000) :
  Ew pr (sj 2 (Lx Tryz.f7.body)) (Rp q) s4 (λe l r=>e=.ret/\l.getD 2 undef=.bool true/\r.get 1=some (.cells cR.toArray 335)):=by have⟨s9,L,M,e1,v,w,y,z⟩:=C.ex;obtain⟨H,K,ys,o,⟨d,k,J,rfl,A⟩,p,G⟩:=MH b f g v w y (λu E=>by have:=(i.pn u E).2.1;omega) m (by have:=i.len;omega);rw[p.1] at o;have F:=z.fr G id;have n:=Ni (s:=s4) a q;rw[D] at n;have B:=λx=>QB (pr:=pr) (x:=x) (bs:=q) c rfl o F A p m i;generalize cR.toArray=I at *;refine zr (zc 1 n (zc 0 e1 (zf (za s9 (EW.fill (λx=>[str q,x 1,.bool false,.bool true,am 4064 0]++gD x 5 254) kq ?_)))));intro x;exact EW.mono (B x) λe l r h=>⟨h.1,h.2.1,h.2.2.2⟩
end
section
variable {Post:Value->World->Prop}{Ex:Nat->Prop}{w₀:World}{pr2:Prim}
theorem QC(g:ck prog eg An (λ_:Zx=>AtRel) (λj=>DZ j.1) (λj=>ZI prog Post 0 j.1) (BE Ex w₀) pr)(k:ck prog eg An (λ_:Zx=>AtRel) (λj=>DZ j.1) (λj=>ZI prog Post 0 j.1) (BE Ex w₀) pr2)(r:∀b,32<=b->An b=none)(l:Ef pr 15 #[] sA (.bool true) sA){q:Bq}{s4:AS}(f:s4.nx=4061\/s4.nx=4063)(m:∀b,s4.get b=sA.get b)
 (i:Ew pr2 (sj 2 (Lx Tryz.f7.body)) (Rp q) s4 (λe a d=>e=.ret/\a.getD 2 undef=.bool true/\d.get 1=some (.cells cR.toArray 335))) :
  ∀c,(match Tryz.f7.body with|some c=>c|_=>.skip)=c->WI prog eg An (λj:Zx=>ZI prog Post 0 j.1) (BE Ex w₀) c ([str q]++List.replicate 258 undef) sA (λe a d=>e=.ret/\a.getD 2 undef=.bool true/\d.get 1=some (.cells cR.toArray 335)):=by
 rintro c rfl;have p:∀b o,s4.get b=some o->b<s4.nx/\sA.get b=some o/\∃h t n,o=.cells h t n/\h.toList.all (Ld s4.nx 5)=true:=by
  intro b o U;rw[m] at U;refine⟨?_,U,?_⟩
  .rw[mo] at U;grind
  .rw[mo] at U;split at U
   .cases U;refine⟨_,_,_,rfl,?_⟩;rcases f with e|e<;>rw[e]<;>kernel_rfl
   .cases U
 refine WI.seq LN (WI.of LN gO cv g cn (EW.go 5 kq ?_));refine WI.kZ sA kq ?_;refine WI.seq LN (WI.of LN gO cv g cn (zx ?_));refine zc 0 l (zf ?_);refine WI.kZ sA kq ?_;refine WI.cast (a2:=Rp q) kq ?_;refine WI.back p (by rcases f with e|e<;>rw[e]<;>kernel_rfl) (λb x U=>?_) ?_
 .grind
 .exact WI.of LN gO cv k cn i
def pG:cR.toArray.size=54:=by decide +kernel
def Ke:bP prog 335=some 54:=kq
def Lp:yJ AS.all:=λs=>Ez (List.range s.nx) s
theorem L1{W:World}(hG:W.heap[1]?=some (.cells cR.toArray 335))(af:N7 W){q:Bq} :
  eM prog (ZI prog Post 0) 7 #[str q] (λ_=>False) W (λ_ x D=>x=.bool true/\Ext W D):=by
 have ab:1<W.heap.size:=(oK.1 hG).1;obtain⟨An,L,P9,Tc,d⟩:∃An:cb,An 1=some (1,54,54)/\An 2=some (2,0,0)/\An 3=some (3,0,0)/\(∀b,32<=b->An b=none):=by refine⟨λb=>if b=1 then some (1,54,54) else if b=2 then some (2,0,0) else if b=3 then some (3,0,0) else none,rfl,rfl,rfl,λb U=>?_⟩;grind
 have⟨C,aa⟩:=MZ (Post:=Post) (Ex:=λb=>b=1) (w₀:=W) L d;have⟨A,V,hV3⟩:=ck.Pe LN gO cv cn (k:=32) (m:=1) d aa aa 36;obtain⟨t,ht⟩:∃t,t=q.take 20000:=⟨_,rfl⟩;have R:t.length<=20000:=by rw[ht,List.length_take];omega
 have a9:(⟨t.toArray⟩:ByteArray).size<=20000:=R;have⟨P,_⟩:=pX ⟨t.toArray⟩ a9;have Yl:(cI ⟨t.toArray⟩).length<=20000:=lT (sg _) a9;obtain⟨Q,⟨acc,hgv⟩,hw2,Sc⟩:=UU P Yl;have hGT:Lj (uq (cI ⟨t.toArray⟩)):=hgv.grt hw2;have O:=(J2 P oq).toA (An:=An) (p:=Sw (λb=>b=1) W) ⟨⟨_,_,L⟩,⟨_,_,P9⟩,_,_,Tc⟩ ⟨dq,by decide,af⟩;have h15:Ef (uB 36 A (sJ prog C)) 15 #[] sA (.bool true) sA:=EF.eval 1 kq;generalize hus:uq (cI ⟨t.toArray⟩)=us at *;have B:∀(m b:Nat),(⟨sA.hp,m⟩:AS).get b=sA.get b:=λm b=>rfl;have hs:∀(m b:Nat) (o:Obj),(⟨sA.hp,m⟩:AS).get b=some o->∃M ty fz,o=.cells M ty fz/\M.toList.all (ry 4061)=true:=λm b o U=>by
  rw[B,mo] at U;split at U
  .cases U;exact⟨_,_,_,rfl,by kernel_rfl⟩
  .cases U
 have a5:∃(n m:Nat),(m=4061\/m=4063)/\Lm (jY prog n 4065 ⟨t.toArray⟩ AS.all (rE prog (cI ⟨t.toArray⟩)) (uB 36 A (sJ prog C))) t ⟨sA.hp,m⟩ us:=by
  by_cases h0:t=[]
  .have⟨n,hn⟩:=M7 (s4:=⟨sA.hp,4063⟩) Q rfl ⟨by show 1<4063;decide,by rw[B,mo];rfl⟩ (hs 4063);refine⟨n,4063,.inr rfl,?_⟩
   have:=hn (uB 36 A (sJ prog C)) (ji kq);grind
  .have⟨z3,ak⟩:=LH (pr:=sJ prog C) (s:=⟨[],32⟩) kq kq (l:=t) h0 oq;have v3:=hV3 _ _ _ rfl rfl ak;have⟨n,hn⟩:=M6 (s4:=⟨sA.hp,4061⟩) h0 R Q rfl ⟨by show 1<4061;decide,by rw[B,mo];rfl⟩ (hs 4061);exact⟨n,4061,.inl rfl,hn (uB 36 A (sJ prog C)) A kq v3 (ji kq)⟩
 have⟨n,m,H,ai⟩:=a5;have okT:=EL (Post:=Post) (Ex:=λb=>b=1) (w₀:=W) L d (n:=n) (str:=⟨t.toArray⟩) (r0:=4065) oq (uG:=AS.all) Lp (nC:=rE prog (cI ⟨t.toArray⟩)) O (by rw[iO,Nat.zero_add];show t.length<=20000;omega) V;have hP:∀f,f≠37->jY prog n 4065 ⟨t.toArray⟩ AS.all (rE prog (cI ⟨t.toArray⟩)) (uB 36 A (sJ prog C)) f=uB 36 A (sJ prog C) f:=λf Y=>by unfold jY;rw[iw (by simpa using Y)]
 have ah:∀f,f∈[16,26,23,41,42]->uB 36 A (sJ prog C) f=none:=ji kq;have a:∀f,f∈[16,26,23,41,42]->jY prog n 4065 ⟨t.toArray⟩ AS.all (rE prog (cI ⟨t.toArray⟩)) (uB 36 A (sJ prog C)) f=none:=λf Y=>(hP f (by rintro rfl;revert Y;decide)).trans (ah f Y);have I:=NB (q:=q) (a 16 iq) (a 26 iq) (a 23 iq) (a 41 iq) (a 42 iq) ht.symm ai hGT oq;have r:=QC (Post:=Post) (Ex:=λb=>b=1) (w₀:=W) V okT d h15 (q:=q) (s4:=⟨sA.hp,m⟩) H (B m) I;have hold:∀b,b<W.heap.size->b≠1->∀j l w,BE (λb=>b=1) W j l w->p8 j.1 w b/\w.heap[b]?=W.heap[b]?:=by intro b U G j l w hF;have H:p8 j.1 W b:=⟨U,λhj=>by have:=hF.1.2 b hj;omega⟩;exact⟨hF.2.kept.mine b H,hF.2.kept.block b H G⟩
 obtain⟨cd,a6⟩:∃c,Tryz.f7.body=some c:=⟨_,rfl⟩;have r:=r cd (by rw[a6]);have N:eT prog eg An An sA [(1,.cells cR.toArray 335)]:=by
  refine⟨λb o U=>?_,λb b' o o' x x' U pP _ _ _=>?_,λb o U=>?_,cb.le_refl An⟩
  .rw[mo] at U;split at U
   .next e =>
    subst e;cases U;refine⟨1,54,54,_,L,by simp,⟨cR.toArray,rfl,pG,⟨by rw[pG];exact lr,λ_=>pG⟩,λi x y T Z=>?_⟩,λM t fz h=>?_⟩
    .rw[T] at Z;cases Z
     have:=xc;rw[aT] at this;exact VR.dx (this x (by simpa using Array.mem_of_getElem? T))
    .cases h;exact⟨Ke,cv 335 rfl⟩
   .cases U
  .rw[mo] at U pP;grind
  .rw[mo] at U;split at U
   .next e=>subst e;decide
   .cases U
 have ae:BE (λb=>b=1) W ((λ_=>False),W.heap.size) ([(1,.cells cR.toArray 335)]++[]) W:=by refine⟨⟨λb h=>h.elim,λb h=>h.elim⟩,Kept.refl W,lr,λb o H=>?_,by simp⟩;simp only[List.append_nil,List.mem_singleton,Prod.mk.injEq] at H;obtain⟨rfl,rfl⟩:=H;exact⟨⟨ab,λh=>h⟩,hG,.inl rfl⟩
 refine⟨Tryz.f7,cd,func7,by rfl,a6,?_⟩;intro b k M U hk hc;have F:AR (VR An) (([str q]++List.replicate 258 undef:Vq)).toArray (#[str q]++Array.replicate (Tryz.f7.ntmps-(#[str q]:Aq).size) undef):=by
  have e:(([str q]++List.replicate 258 undef:Vq)).toArray=#[str q]++Array.replicate 258 undef:=by apply uX.1;kernel_rfl
  rw[e];refine AR.append ⟨rfl,λi x y T Z=>?_⟩ (AR.replicate 258 VR.undef);match i with
  | 0=>cases T;cases Z;exact VR.dx rfl
  | i+1=>simp at T
 have a8:∀(e:Exit) (X:TL) (s':AS) (j:Zx) (K:cb) (l':Hq) (D:World) (u:Act),(e=.ret/\X.getD 2 undef=.bool true/\s'.get 1=some (.cells cR.toArray 335))->eT prog eg An K s' l'->BE (λb=>b=1) W j (l'++[]) D->AR (VR K) X.toArray u.tmps->u.defers=[]->(∀b,s'.nx<=b->K b=none)->(e=.normal\/e=.ret)/\u.defers=[]/\∃v,ResultsC prog Tryz.f7 u.tmps v/\v=.bool true/\Ext W D:=?_
 .generalize a4:(⟨#[str q]++Array.replicate (Tryz.f7.ntmps-(#[str q]:Aq).size) undef,[]⟩:Act)=E;have a3:AR (VR An) (([str q]++List.replicate 258 undef:Vq)).toArray E.tmps:=by rw[<-a4];exact F
  have a7:E.defers=[]:=by rw[<-a4]
  have aj:=r 7 An [(1,.cells cR.toArray 335)] [] ((λ_=>False),W.heap.size) W E (λj e u D=>(e=.normal\/e=.ret)/\u.defers=[]/\∃v,ResultsC prog Tryz.f7 u.tmps v/\v=.bool true/\Ext W D) N ae a3 a7 d a8;refine aj b k M U hk ?_;intro j e u D hQ
  have:=hc j.1 e u D hQ;cases e<;>exact this
 .rintro e X s' j K l' D u ⟨rfl,h6,ag⟩ q3 J q5 q6 q7;refine⟨.inr rfl,q6,_,resultsC_tmp rq _,?_,?_⟩
  .have:=m8 q5 2;rw[show X.toArray.toList.getD 2 undef=.bool true from h6] at this;exact this.sc rfl
  .rw[List.append_nil] at J;refine⟨J.2.kept.tape,J.2.kept.os,J.2.kept.output,J.2.kept.grow,λb U=>?_⟩;by_cases G:b=1
   .subst G;have⟨g,z,e,o',r1,r2,r3,_⟩:=q3.live 1 _ ag;rw[q3.an _ _ L] at r1;cases r1;obtain⟨o9,rfl,t1,_,t3⟩:=r3;have K8:o9=cR.toArray:=by refine AR.sc (S:=K) ⟨by rw[pG,t1],t3⟩ ?_;exact xc
    subst K8;rw[(J.2.own 1 _ r2).2.1,hG]
   .grind
end
end Go.Proofs.YtgcaionclkbehaaGreatDoor
