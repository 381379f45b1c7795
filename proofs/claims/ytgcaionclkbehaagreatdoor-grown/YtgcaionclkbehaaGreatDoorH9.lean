
import Derived.Test.YtgcaionclkbehaaGreatDoorH3
set_option linter.all false
set_option maxHeartbeats 4000000
set_option maxRecDepth 100000
namespace Go.Proofs.YtgcaionclkbehaaGreatDoor
open Go.Conc Go.RowKit Go.Lib Tryz
variable {P:Program}{kt:TypeId->Bool}{B B9 Bo Br b c cp n off rd sz:Nat}{a:TL}{s s0:AS}{o:Oper}{e t t':TypeId}{x:Operand}{hi lo:Option Operand}{cs o9:Aq}{fz S8:Nat × Nat}{aF:fF}{K:Nat->Prop}{nm:Bq}{l vs ws:Vq}{at_ av dv wv:Value}{m:List (Bq)}
theorem QU{c:fI}(U:o.op=.slice t x lo hi none)(g:P.underlying t=some (.slice e))(h:a.at x=.slice (some ⟨b,off,none⟩) 0 0)(f:s.get b=some (.cells cs e fz))(i:bP P e=some sz)(d:bD 0 0 (lo.map a.at) (hi.map a.at)=some (0,0)):bN P kt c a o s=some (.slice (some ⟨b,off,some 0⟩) 0 1,s):=by unfold bN;rw[iw (by rw[U];simp[eF]),U];simp only;unfold fX;grind
def TS.e9(σ:TS)(nm:Bq)(aF:fF):TS:=if aH nm dH then σ.put ⟨1,0,nm,[],aF⟩ else σ.open_ nm aF
variable {s':AS}{nv rv v v2 wA u7:Value}{xs:List bY}{σ:TS}{pr:Prim}
section
variable {s:AS}{b:Nat}{av:Value}{J6 hY:List Nat}{w':Int}
section
variable (h:BT s b nv rv av xs σ)
def BT.upd(u:eS s wA J6)(r:eS s u7 hY)(o:∀x,blk wA x->¬blk u7 x)(i:∀k∈J6,k<σ.nodes.length)(g:∀k∈hY,k<σ.nodes.length)(j:J6≠[])(e:J6.length<=40/\hY.length<=100000)(l:(∀x,blk wA x->blk rv x)\/∀x,blk wA x->s.nx<=x)(f:(∀x,blk u7 x->blk av x)\/∀x,blk u7 x->s.nx<=x):BT (s.set b (some (jB nv wA u7 w'))) b nv wA u7 xs ⟨σ.nodes,J6,hY,w'⟩/\bG b s (s.set b (some (jB nv wA u7 w'))):=by have d:aO (λy=>y=b) s (s.set b (some (jB nv wA u7 w'))):=aO.set (K:=λy=>y=b) (aO.refl s) (λ_=>rfl) _;have a:∀{y:Nat} {p:Aq} {t:TypeId} {q:Nat × Nat},Has s y (.cells p t q)->t≠183->y≠b:=λc v=>c.ne h.b v;have g1:=h.b.put (jB nv wA u7 w');refine⟨⟨h.sp,g1,h.n.fk d λy c=>by have⟨_,_,z⟩:=h.n.blk c;exact a z dq,h.m.fk d λy p q c=>a c dq,u.fk d λy c=>by have⟨_,_,z⟩:=u.blk c;exact a z dq,r.fk d λy c=>by have⟨_,_,z⟩:=r.blk c;exact a z dq,o,i,g,j,h.sz.1,e.1,e.2⟩,bG.mk' h.b g1 (d.mono λy _ z=>.inl z) (.inl rfl) l f⟩
def BT.U7(w':Int):BT (s.set b (some (jB nv rv av w'))) b nv rv av xs ⟨σ.nodes,σ.row,σ.again,w'⟩/\bG b s (s.set b (some (jB nv rv av w'))):=h.upd h.r h.a h.ra h.lt h.la h.ne ⟨h.sz.2.1,h.sz.2.2⟩ (.inl λ_ z=>z) (.inl λ_ z=>z)
end
def Ci(c:pr 220=none)(d:pr 223=none)(a:pr 217=none)(e:pr 232=none)(h:BX s b σ)(l:bS s at_ aF)(m:∀y,blk at_ y->y<b)(k:σ.nodes.length<400000000) :
  ∃f,Ef pr 220 #[am b 0,at_] s (.tuple #[]) f/\BX f b { σ.open_ Ei aF with w:=1 }/\bG b s f:=by have⟨r,t,q,u,h⟩:=h;obtain⟨S,h1,⟨n,o,g,p,h2⟩,h3⟩:=xM d a e h (nm:=Ei) l (λy z=>⟨m y z,rfl⟩) k;have⟨i,j⟩:=h2.U7 1;exact EF.iy c func220 rfl (zr (zc 2 h1 (EO.nil (za S (zx (zg 3 S (zp (ys b 3 (num 1) h2.b.2 iq) (EO.nil ⟨.inl rfl,kq,⟨_,_,_,_,i⟩,h3.trans j⟩))))))))
abbrev dF(t:gp):Obj:=.cells (dU t).toArray 60
def nY(n:pr 228=none)(l:pr 138=none)(k:pr 127=bu 127)(m:pr 223=none)(e:pr 217=none)(f:pr 232=none)(h:BX s b σ){t:gp}(p:bS s t.at_ aF)(F:Hh b t.name t.at_)(D:σ.nodes.length<400000000) :
  ∃o,Ef pr 228 #[am b 0,.agg (dU t).toArray] s (.tuple #[]) o/\BX o b (σ.e9 t.name aF)/\bG b s o:=by
 have⟨nv,X,H,Y,h⟩:=h;have⟨kd,tx,nm,r,g⟩:=t;have p:bS s r aF:=p;have⟨a,c,u⟩:=p.len;subst u;generalize aF.length=d at *;have w:=h.add (dF ⟨kd,tx,nm,.slice a d c,g⟩);have q:=Has.new s (dF ⟨kd,tx,nm,.slice a d c,g⟩);have z:=bG.add h (dF ⟨kd,tx,nm,.slice a d c,g⟩);have G:bS (s.add (dF ⟨kd,tx,nm,.slice a d c,g⟩)) (.slice a d c) aF:=p.fk ((aO.refl (K:=λ_=>False) s).add _) λ_ _=>id;generalize L:s.add (dF ⟨kd,tx,nm,.slice a d c,g⟩)=S at *;have M:=Ab (s:=S) l;have A:=w.add (.cells (dH.map str).toArray 9);have j:=q.add (.cells (dH.map str).toArray 9);have B:=bG.add w (.cells (dH.map str).toArray 9);have C:bS (S.add (.cells (dH.map str).toArray 9)) (.slice a d c) aF:=G.fk ((aO.refl (K:=λ_=>False) S).add _) λ_ _=>id;have E:=(cU.new S dH 13 rfl dq).is (pr:=pr) k nm;have N:=bE (P:=prog) (t:=9) underlying9 rfl q.2 (off:=2) rfl;have O:=bE (P:=prog) (t:=9) underlying9 rfl j.2 (off:=2) rfl;generalize S.add (.cells (dH.map str).toArray 9)=U at *;obtain⟨i,e1,Q,R,T⟩:∃i,Ef pr 217 #[am b 0,.agg #[num 1,num 0,str nm,str [],.slice a d c]] U (.tuple #[]) i/\∃v,BT i b v X H (Y++[⟨1,((σ.cur:Nat):Int),nm,[],.slice a d c⟩]) (σ.put ⟨1,0,nm,[],aF⟩)/\bG b U i:=by have⟨x,y,Z,z2⟩:=Ax e f A (kd:=1) (pa:=0) (nm:=nm) (tx:=[]) C F D;exact⟨x,Z,y,z2⟩
 have⟨V2,J,V,W⟩:=xM m e f A (nm:=nm) C F D;unfold TS.e9;show ∃o,_/\BX o b (if aH nm dH=true then _ else _)/\_;generalize aH nm dH=I at E |-;refine EF.iy n func228 rfl ?_;refine zs (za (s.add (dF ⟨kd,tx,nm,.slice a d c,g⟩)) ?_);rw[L];refine EW.seq (EW.seq (EW.draw kq kq kq ?_));refine zq (zt S (zu (yl s.nx 2 (str nm) q.2) (yt M (yt E (ET.nil ⟨aI [(aB prog 9 (am s.nx 2) S,str nm),(aB prog 9 (am s.nx 2) U,str nm)] kq (iD ⟨N,rfl⟩ ⟨O,rfl⟩),_,_,_,_,_,_,rfl,rfl,?_⟩)))));refine za U ?_;cases I with
 | true =>refine zH ?_;refine zr (zg 2 U (zp (yl s.nx 2 (str nm) j.2) (zg 1 U (zp (yl s.nx 3 (.slice a d c) j.2) (zc 1 e1 (EO.nil (za i ?_)))))));exact EW.ret ⟨.inr rfl,kq,⟨_,_,_,_,R⟩,(z.trans B).trans T⟩
 | false =>refine zF ?_;refine zx (zg 2 U (zp (yl s.nx 2 (str nm) j.2) (zg 1 U (zp (yl s.nx 3 (.slice a d c) j.2) (zc 0 J (EO.nil ?_))))));exact⟨.inl rfl,kq,V,(z.trans B).trans W⟩
theorem Hw(I:pr 239=none)(h:BX s b σ)(F:σ.again=[]):∃A,Ef pr 239 #[am b 0] s (.tuple #[]) A/\BX A b σ/\bG b s A:=by
 have⟨S,O,K,T,h⟩:=h;have u:=h.sz;have⟨q,l,k⟩:=h.r.len;have g:=h.b;rw[k] at g;have D:=h.a;rw[F] at D;have⟨G,P⟩:=h.upd (wA:=O) (u7:=aD) (w':=σ.w) h.r (.inl ⟨rfl,rfl⟩) (λx _ z=>bR z) h.lt iq h.ne ⟨u.2.1,by simp⟩ (.inl λ_ z=>z) (.inr λx z=>(bR z).elim);have y:(⟨σ.nodes,σ.row,[],σ.w⟩:TS)=σ:=by rw[<-F]
 rw[y] at G;obtain⟨f,U,E,J⟩:∃f U,K=.slice f 0 U/\((f=none/\U=0)\/∃d m o,f=some ⟨d,0,none⟩/\Has s d (.cells m 3 o)):=by
  rcases D with ⟨e,_⟩|⟨d,cp,m,o,e,_,q1,q2,_⟩
  .grind
  .exact⟨_,cp,e,.inr ⟨d,m,o,rfl,q1,q2⟩⟩
 rw[E] at g;have M:=bE underlying25 rfl g.2 (off:=1) rfl;have N:=bE underlying25 rfl g.2 (off:=2) rfl;subst k;subst E;generalize Q:σ.row.length=R at *;have t:(if (0:Int)<40-((R:Nat):Int) then (0:Int) else 40-((R:Nat):Int))=0:=gq
 have p:∀(B:Option Addr) (C:Nat) (x:Nq),Ew pr (match Tryz.f239.body with|some (.seq _ (.seq (.seq _ c) _))=>c|_=>.skip) ([am b 0,x 1,num 0,x 3,x 4,x 5]++gD x 6 17++[.slice B 0 C,num 0,num 0]++gD x 26 20) s (wL prog kg pr (match Tryz.f239.body with|some (.seq _ (.seq _ c))=>c|_=>.skip) (λe H s1=>(e=.normal\/e=.ret)/\c8 prog Tryz.f239 H s1=some (.tuple #[])/\BX s1 b σ/\bG b s s1)):=by intro B C x;exact EW.block (EW.loop (zs (EW.seq (zG (EW.exit (za s (zx (zg 3 s (zp (ys b 2 aD g.2 iq) (EO.nil ⟨.inl rfl,kq,⟨_,_,_,_,G⟩,P⟩))))))))))
 refine EF.iy I func239 rfl ?_;refine EW.seq (EW.draw kq kq kq ?_);iterate 3 refine zq ?_
 refine zt s (zu (yl b 1 (.slice q R l) g.2) (zq (zu (gJ (i:=40) (j:=((R:Nat):Int)) (r:=40-((R:Nat):Int)) rfl kq kq rfl oq) ?_)));iterate 3 refine zq ?_
 refine zt s (zu (yl b 2 (.slice f 0 U) g.2) (zq (zt s (ET.op (v:=num 0) (s1:=s) kq ((show _=some (num (if (0:Int)<40-((R:Nat):Int) then 0 else 40-((R:Nat):Int)),s) by kernel_rfl).trans (by rw[t])) (zq (ET.nil ⟨aI [(aB prog 25 (am b 1) s,.slice q R l),(aB prog 25 (am b 2) s,.slice f 0 U)] kq (iD ⟨M,by cases q<;>rfl⟩ ⟨N,by cases f<;>rfl⟩),_,_,_,_,_,_,rfl,rfl,?_⟩))))));refine za s (EW.seq (zr (zg 3 s (zp (yl b 2 (.slice f 0 U) g.2) ?_))));rcases J with ⟨rfl,rfl⟩|⟨d,m,o,rfl,hd⟩
 .refine zf (za s (EW.fill (λx=>[am b 0,x 1,num 0,x 3,x 4,x 5]++gD x 6 17++[.slice none 0 0,num 0,num 0]++gD x 26 20) kq ?_));exact λx=>p none 0 x
 .refine zg 1 s ?_;by_cases L:0<U
  .refine zp (mh (b:=d) (off:=0) (n:=0) (cp:=U) (i:=0) (j:=0) (sz:=1) rfl underlying25 kq hd.2 kq kq L) (zf (za s (EW.fill (λx=>[am b 0,x 1,num 0,x 3,x 4,x 5]++gD x 6 17++[.slice (sq d) 0 (U-0),num 0,num 0]++gD x 26 20) kq ?_)));exact λx=>p _ _ x
  .obtain rfl:U=0:=oq
   refine zp (QU (b:=d) (off:=0) (sz:=1) rfl underlying25 kq hd.2 kq kq) (zf (za s (EW.fill (λx=>[am b 0,x 1,num 0,x 3,x 4,x 5]++gD x 6 17++[.slice (some ⟨d,0,some 0⟩) 0 1,num 0,num 0]++gD x 26 20) kq ?_)));exact λx=>p _ _ x
end
theorem Ue{a b c d e f:Option Value × Value}(U:a.1=some a.2/\bB 20 a.2=true)(g:b.1=some b.2/\bB 20 b.2=true)(h:c.1=some c.2/\bB 20 c.2=true)(i:d.1=some d.2/\bB 20 d.2=true)(j:e.1=some e.2/\bB 20 e.2=true)(k:f.1=some f.2/\bB 20 f.2=true):∀x∈[a,b,c,d,e,f],x.1=some x.2/\bB 20 x.2=true:=gq
section
variable {s:AS}{b:Nat}{av:Value}{tx:Bq}
def NU(p:pr 315=none)(o:pr 217=none)(k:pr 232=none)(h:BX s b σ){u:Nd}(hu:σ.nodes[σ.nodes.length-1]?=some u)(G:u.kind=2->u.parent≠((σ.cur:Nat):Int))(W:σ.nodes.length<400000000):∃J,Ef pr 315 #[am b 0,str tx] s (.tuple #[]) J/\BX J b (σ.put ⟨2,0,[],tx,[]⟩)/\bG b s J:=by
 have⟨nv,rv,av,V,h⟩:=h;have L:=tH k h;have⟨S,Se,Z,p1,p2⟩:=Ax o k h (kd:=2) (pa:=0) (nm:=[]) (tx:=tx) (at_:=aD) (aF:=[]) (.inl ⟨rfl,rfl⟩) (Hh.nil _ _) W;have⟨d,A,nf,x,H,g,O,M,Qh⟩:=h.node hu;have⟨m,C,cs,rf,I,Mc,z,q,Sa⟩:=h.r.at (TS.lX h.ne);have l:=h.b;rw[H,I] at l;have t:(aY V)[(σ.nodes.length-1)*5+0]?=some (num u.kind):=by rw[dt O 0 dq,<-M.1];rfl
 have w:(aY V)[(σ.nodes.length-1)*5+1]?=some (num u.parent):=by rw[dt O 1 dq,<-M.2.1];rfl
 have P:=bE underlying38 rfl l.2 (off:=0) rfl;have Q:=bE underlying25 rfl l.2 (off:=1) rfl;have T:=bE underlying3 rfl g.2 t;have U:=bE underlying3 rfl g.2 w;have l5:=bE underlying3 rfl z.2 q;have E:((σ.row.length:Nat):Int)-1=((σ.row.length-1:Nat):Int):=oq
 rw[E] at L;generalize σ.cur=D at *;generalize hR1:σ.row.length-1=B at *;generalize hR:σ.row.length=R at *;generalize X:σ.nodes.length-1=f at *;generalize Y:σ.nodes.length=N at *;refine EF.iy p func315 rfl ?_;refine EW.seq (EW.draw kq kq kq ?_);iterate 3 refine zq ?_
 refine zt s (zu (yl b 0 (.slice (sq d) N A) l.2) ?_);iterate 3 refine zq ?_
 refine zt s (zu (yl b 0 (.slice (sq d) N A) l.2) (zq (zu (gJ (i:=((N:Nat):Int)) (j:=1) (r:=((f:Nat):Int)) rfl kq kq oq oq) (zu (yi d 0 N A (f*5) none .i64 (f:Nat) 5 oq oq oq) (zq (ET.nil ⟨aI [(aB prog 38 (am b 0) s,.slice (sq d) N A),(aB prog 38 (am b 0) s,.slice (sq d) N A)] kq (iD ⟨P,rfl⟩ ⟨P,rfl⟩),_,_,_,_,_,_,rfl,rfl,?_⟩))))));refine za s ?_;have a:∀n:TL,(∃y:Nq,n=[am b 0,str tx]++gD y 2 46)->Ew pr (match Tryz.f315.body with|some (.seq _ (.seq _ c))=>c|_=>.skip) n s (λe n K=>(e=.normal\/e=.ret)/\c8 prog Tryz.f315 n K=some (.tuple #[])/\BX K b (σ.put ⟨2,0,[],tx,[]⟩)/\bG b s K):=by rintro n ⟨y,rfl⟩;exact zx (zc 3 Z (EO.nil ⟨.inl rfl,kq,⟨_,_,_,_,p1⟩,p2⟩))
 refine EW.seq (EW.seq (EW.draw kq kq kq ?_));iterate 3 refine zq ?_
 refine zt s (zu (bw (b:=d) (off:=f*5+0) (v:=num u.kind) rfl underlying3 rfl kq g.2 t) ?_);by_cases h2:u.kind=2
 .have F:=G h2;refine zu (yb (num u.kind) (num 2) (dk (b:=true) (beq_iff_eq.2 h2))) ?_;iterate 4 refine zq ?_
  refine zt s (zu (bw (b:=d) (off:=f*5+1) (v:=num u.parent) rfl underlying3 rfl kq g.2 w) ?_);iterate 3 refine zq ?_
  refine zt s (zu (yl b 1 (.slice (sq m) R C) l.2) (zq (zt s (yt L (zu (yi m 0 R C B none .i64 (B:Nat) 1 oq oq oq) (zt s (zu (bw (b:=m) (off:=B) (v:=num (D:Nat)) rfl underlying3 rfl kq z.2 q) (zu (yb (num u.parent) (num (D:Nat)) (dk (b:=false) (bF.2 F))) (zq (ET.nil ⟨aI [(aB prog 3 (am d (f*5+0)) s,num u.kind),(aB prog 3 (am d (f*5+1)) s,num u.parent),(aB prog 3 (am d (f*5+1)) s,num u.parent),(aB prog 25 (am b 1) s,.slice (sq m) R C),(aB prog 25 (am b 1) s,.slice (sq m) R C),(aB prog 3 (am m B) s,num (D:Nat))] kq (Ue ⟨T,rfl⟩ ⟨U,rfl⟩ ⟨U,rfl⟩ ⟨Q,rfl⟩ ⟨Q,rfl⟩ ⟨l5,rfl⟩),_,_,_,_,_,_,rfl,rfl,?_⟩))))))))));exact za s (zF (a _ (aR kq)))
 .refine zu (yb (num u.kind) (num 2) (dk (b:=false) (bF.2 h2))) (zq ?_);iterate 13 refine ET.pass kq ?_
  refine zq (ET.nil ⟨aI [(aB prog 3 (am d (f*5+0)) s,num u.kind)] kq (QE ⟨T,rfl⟩),_,_,_,_,_,_,rfl,rfl,?_⟩);exact za s (zF (a _ (aR kq)))
end
theorem JL{c:fI}{i:Nat}(U:o.op=.slice t x lo hi none)(h:P.underlying t=some (.slice e))(j:a.at x=.slice (some ⟨b,off,none⟩) n cp)(g:s.get b=some (.cells cs e fz))(k:bP P e=some sz)(f:bD n cp (lo.map a.at) (hi.map a.at)=some (i,i))(d:¬i<cp):bN P kt c a o s=some (.slice (some ⟨b,off,some 0⟩) 0 1,s):=by unfold bN;rw[iw (by rw[U];simp[eF]),U];simp only;unfold fX;grind
def TS.ef(σ:TS)(k:Nat):Bq:=match σ.nodes[k]? with
 | some u=>u.name
 | none=>[]
def TS.uN(σ:TS)(k:Nat):Bool:=aH (σ.ef k) bO
def TS.pop(σ:TS):TS:=⟨σ.nodes,σ.row.dropLast,if σ.uN σ.cur then [] else σ.again,σ.w⟩
abbrev zD(b:Nat):Value:=.func (.func 319) #[am b 0] #[]
def Kp(rd off n c b i:Nat)(x:Nq):TL:=[.slice (some ⟨rd,off,none⟩) n c,zD b,x 2,x 3,num 0,x 5,.slice (some ⟨rd,off,none⟩) n c,num (n:Nat),num (i:Nat)]++gD x 9 10
section
variable {s:AS}{b:Nat}{av:Value}
theorem KG(J:pr 318=none)(L:pr 363=none)(o:pr 127=bu 127)(K:pr 319=none)(I:pr 142=none)(h:BT s b nv rv av xs σ){ks:List Nat}(Y:ks.length=n)(O:Has s rd (.cells cs 3 fz))(M:∀j k:Nat,ks[j]?=some k->cs[off+j]?=some (num (k:Nat)))(N:∀k∈ks,k<σ.nodes.length)(hn:n<=1000):∃f,Ef pr 318 #[.slice (some ⟨rd,off,none⟩) n c,zD b] s (.bool (ks.any σ.uN)) f/\aO (λ_=>False) s f:=by
 have H:∃f j,Ef pr 363 #[.slice (some ⟨rd,off,none⟩) n c,zD b] s (num j) f/\aO (λ_=>False) s f/\decide (j>=0)=ks.any σ.uN:=by
  suffices h:Ew pr (match Tryz.f363.body with|some c=>c|none=>.skip) ((#[.slice (some ⟨rd,off,none⟩) n c,zD b]:Aq).toList++List.replicate (Tryz.f363.ntmps-(#[.slice (some ⟨rd,off,none⟩) n c,zD b]:Aq).toList.length) undef) s (λe d g=>(e=.normal\/e=.ret)/\aO (λ_=>False) s g/\∃j,c8 prog Tryz.f363 d g=some (num j)/\decide (j>=0)=ks.any σ.uN) by have⟨m,e,d,g,h1,V,h2,j,h3,P⟩:=h;exact⟨g,j,EF.of L func363 rfl ⟨m,e,d,g,h1,V,h3,rfl⟩,h2,P⟩
  refine zs (za s (EW.seq (zs (za s (EW.fill (Kp rd off n c b 0) kq ?_)))));intro W;refine EW.block ?_;refine EW.mono (EW.dG (Q:=λe d g=>(e=.exit 0/\aO (λ_=>False) s g/\(ks.any σ.uN)=false/\∃x,d=Kp rd off n c b n x)\/(e=.ret/\aO (λ_=>False) s g/\∃j,c8 prog Tryz.f363 d g=some (num j)/\decide (j>=0)=ks.any σ.uN)) (λm d f=>∃i,i+m=n/\aO (λ_=>False) s f/\((ks.take i).any σ.uN)=false/\∃x,d=Kp rd off n c b i x) ?_ n _ _ ⟨0,by omega,aO.refl s,rfl,W,rfl⟩) ?_
  .rintro m d S ⟨i,X,l,A,x,rfl⟩;by_cases Z:0<m
   .have y:i<ks.length:=oq
    have F:ks[i]?=some ks[i]:=gE y;have w:ks.take (i+1)=ks.take i++[ks[i]]:=by simp_all
    have U:ks[i]∈ks:=D3 y;generalize ks[i]=k at F w U;have t:=N k U;have E:σ.nodes[k]?=some σ.nodes[k]:=gE t;have R:=h.fk l λ_ _ _ _ _ z=>z.elim;have a:=Cn o K I R E;have u:aH (σ.nodes[k]).name bO=σ.uN k:=by unfold TS.uN TS.ef;rw[E]
    rw[u] at a;have C:=l.add (.cells (bO.map str).toArray 9);have q:=O.fr l id;have r:=M i k F;have p:(ks.take (i+1)).any σ.uN=σ.uN k:=gq
    have B:σ.uN k=true->(ks.any σ.uN)=true:=λh=>List.any_eq_true.2 ⟨_,U,h⟩;generalize σ.uN k=D at a p B;generalize T:S.add (.cells (bO.map str).toArray 9)=G at *;refine zr (zp (yb (num (i:Nat)) (num (n:Nat)) (aX (tD oq))) (EO.nil (EW.seq (zT (EW.seq (EW.block (zs (za S (zr (zg 3 S (zp (yi rd off n c (off+i) none .i64 (i:Nat) 1 oq oq oq) (zo S (zp (bw (off:=off+i) (v:=num (k:Nat)) rfl underlying3 rfl kq q.2 r) (yc #[am b 0] #[] a (EO.nil (za G ?_))))))))))))))));cases D with
    | true =>refine zH ?_;refine zs ?_;exact EW.ret (.inr ⟨rfl,C,(i:Nat),kq,by rw[B rfl];exact tD oq⟩)
    | false =>refine zF ?_;refine zx (zp (yp (i:Nat) 1 ((i+1:Nat):Int) oq oq) (zf ?_));exact⟨m-1,by omega,i+1,by omega,C,p,aR kq⟩
   .obtain rfl:i=n:=oq
    rw[tL oq] at A;exact zr (zp (yb (num (i:Nat)) (num (i:Nat)) (aX (fD oq))) (EO.nil (EW.seq (zG (EW.exit (.inl ⟨rfl,l,A,aR kq⟩))))))
  .rintro e d f (⟨rfl,l,h1,x,rfl⟩|⟨rfl,h⟩)
   .refine zs ?_;exact EW.ret ⟨.inr rfl,l,-1,kq,by rw[h1];rfl⟩
   .exact⟨.inr rfl,h⟩
 have⟨f,j,h1,h2,h3⟩:=H;refine⟨f,?_,h2⟩;refine EF.of J func318 rfl (zs (zr (zc 2 h1 (zp (yb (num j) (num 0) (eZ h3)) ?_))));generalize ks.any σ.uN=D;exact zf yR
def H9(a:pr 221=none):Ef pr 221 #[am b 0,num (-1)] s (.tuple #[]) s:=by refine EF.of a func221 rfl ?_;exact EW.seq (zr (zf (za s (zH (EW.ret ⟨.inr rfl,kq,kq⟩)))))
theorem y0(T:pr 221=none)(W:pr 318=none)(Y:pr 363=none)(u:pr 127=bu 127)(X:pr 319=none)(S:pr 142=none)(h:BX s b σ)(h2:2<=σ.row.length):∃H,Ef pr 221 #[am b 0,num ((σ.row.length-1:Nat):Int)] s (.tuple #[]) H/\BX H b σ.pop/\bG b s H:=by
 have⟨G,rv,B,xs,h⟩:=h;have F:=h.sz;have⟨rd,g,D,Q,o,Mc,m,E,Sa⟩:=h.r.at (TS.lX h.ne);have v:∀i k:Nat,σ.row[i]?=some k->D[i]?=some (num (k:Nat)):=by
  rcases h.r with ⟨e,_⟩|⟨d,cp,o9,fz,e,q0,q1,q2,q3⟩
  .rw[o] at e;cases e
  .rw[o] at e;cases e
   have:=m.2;rw[q2] at this;cases this;exact q3
 generalize C:σ.row.length-1=f at *
 have O:σ.row.dropLast=σ.row.take f:=by rw[List.dropLast_eq_take,C]
 have R:eS s (.slice (sq rd) f g) σ.row.dropLast:=.inr ⟨rd,g,D,Q,by rw[List.length_dropLast,C],by rw[List.length_dropLast,C];omega,m.1,m.2,λi k l=>v i k (by
  rw[O,Bu] at l;split at l
  .exact l
  .cases l)⟩;have N:∀x,blk (.slice (sq rd) f g) x->blk rv x:=λx z=>by rw[o,cH z];exact dj _ _ _
 have ab:σ.row.dropLast≠[]:=λe=>by have:=congrArg List.length e;simp at this;omega
 have Z:∀k∈σ.row.dropLast,k∈σ.row:=λk l=>by rw[O] at l;exact List.mem_of_mem_take l
 have⟨K,L⟩:=h.upd (wA:=.slice (sq rd) f g) (u7:=B) (w':=σ.w) R h.a (λx z=>h.ra x (N x z)) (λk l=>h.lt k (Z k l)) h.la ab ⟨by rw[List.length_dropLast];omega,F.2.2⟩ (.inl N) (.inl λ_ z=>z);have y:=h.b;rw[o] at y;have q:Has (s.set b (some (jB G (.slice (sq rd) f g) B σ.w))) rd (.cells D 3 Q):=m.set (m.ne h.b dq) _;generalize hU:s.set b (some (jB G (.slice (sq rd) f g) B σ.w))=U at *;have⟨V,I,J⟩:=KG (σ:=⟨σ.nodes,σ.row.dropLast,σ.again,σ.w⟩) W Y u X S K (rd:=rd) (off:=f) (n:=1) (c:=g-f) (ks:=[σ.cur]) rfl q (λj k l=>by
  match j with
  | 0=>simp at l;subst l;exact E
  | j+1=>simp at l) (λk l=>by simp at l;subst l;exact h.lt _ (mG (TS.lX h.ne))) dq;have p:=K.fk J λ_ _ _ _ _ z=>z.elim;have M:bG b U V:=bG.mk' K.b p.b (J.mono λ_ _ z=>z.elim) (.inl rfl) (.inl λ_ z=>z) (.inl λ_ z=>z);have t:=q.fr J id;have A:([σ.cur].any (⟨σ.nodes,σ.row.dropLast,σ.again,σ.w⟩:TS).uN)=σ.uN σ.cur:=by simp[TS.uN,TS.ef]
 rw[A] at I;unfold TS.pop;generalize σ.uN σ.cur=bb at I |-;refine EF.iy T func221 rfl ?_;refine EW.seq (zr (zk 1 (zp (yb (num (f:Nat)) (num (-1)) (dk (b:=false) (bF.2 oq))) (zg 5 s (zp (yl b 1 (.slice (sq rd) σ.row.length g) y.2) (zk 1 (zp (yb (num (f:Nat)) (num (σ.row.length:Nat)) (eZ (b:=false) (fD oq))) (zf (za s (zF (zr (zg 3 s (zp (yl b 1 (.slice (sq rd) σ.row.length g) y.2) (zg 1 s (zp (mh (b:=rd) (off:=0) (n:=σ.row.length) (cp:=g) (i:=f) (j:=σ.row.length) (sz:=1) rfl underlying25 kq m.2 kq ((show _=bD σ.row.length g (some (num (f:Nat))) none by kernel_rfl).trans ((gL oq oq).trans gq)) oq) ?_)))))))))))))));rw[show 0+f*1=f by omega,show σ.row.length-f=1 by omega];refine zf (za s (zr (zg 4 s (zp (yl b 1 (.slice (sq rd) σ.row.length g) y.2) (zg 1 s (zp (mh (b:=rd) (off:=0) (n:=σ.row.length) (cp:=g) (i:=0) (j:=f) (sz:=1) rfl underlying25 kq m.2 kq ((show _=bD σ.row.length g none (some (num (f:Nat))) by kernel_rfl).trans ((oG oq oq).trans gq)) oq) ?_))))));rw[show f-0=f by omega,show g-0=g by omega];refine zg 2 s (zp (ys b 1 (.slice (sq rd) f g) y.2 iq) (EO.nil (za (s.set b (some (jB G (.slice (sq rd) f g) B σ.w))) ?_)));rw[hU];refine EW.seq (zr (zc 3 I (EO.nil (za V ?_))));cases bb with
 | true =>obtain⟨w1,w2⟩:=p.upd (wA:=.slice (sq rd) f g) (u7:=aD) (w':=σ.w) p.r (.inl ⟨rfl,rfl⟩) (λx _ z=>bR z) p.lt iq p.ne ⟨p.sz.2.1,by simp⟩ (.inl λ_ z=>z) (.inr λx z=>(bR z).elim);refine zH (zr (zg 3 V (zp (ys b 2 aD p.b.2 iq) (EO.nil ?_))));exact EW.ret ⟨.inr rfl,kq,⟨_,_,_,_,w1⟩,(L.trans M).trans w2⟩
 | false =>
  refine zF (zr (zg 1 V ?_));by_cases P:1<g-f
  .exact zp (mh (b:=rd) (off:=f) (n:=1) (cp:=g-f) (i:=1) (j:=1) (sz:=1) rfl underlying25 kq t.2 kq kq P) (zf (za V (EW.block (EW.loop (zs (za V (EW.seq (zG (EW.exit ⟨.inl rfl,kq,⟨_,_,_,_,p⟩,L.trans M⟩)))))))))
  .have ae:g-f=1:=oq
   exact zp (JL (b:=rd) (off:=f) (n:=1) (cp:=g-f) (i:=1) (sz:=1) rfl underlying25 kq t.2 kq kq P) (zf (za V (EW.block (EW.loop (zs (za V (EW.seq (zG (EW.exit ⟨.inl rfl,kq,⟨_,_,_,_,p⟩,L.trans M⟩)))))))))
end
structure DC where
 f:Nat
 a:List (Bq)
 b:List (Bq)
def LD (t:TypeId)(fz:Nat × Nat):Prop:=t=9\/t=62\/t=72\/(t=187/\fz=(0,0))
def rN(s:AS)(v:Value)(ls:List (List (Bq))):Prop:=(v=aD/\ls=[])\/∃(d:Nat) (vs:Vq),v=.slice (some ⟨d,0,none⟩) vs.length vs.length/\Has s d (.cells vs.toArray 62)/\vs.length=ls.length/\∀(i:Nat) (v:Value) (l:List (Bq)),vs[i]?=some v->ls[i]?=some l->cU s v l
def jm(a b:List (Bq)):List (List (Bq)):=(if a=[] then [] else [a])++(if b=[] then [] else [b])
def cm(s:AS)(v:Value)(d:DC):Prop:=∃x,v=.func (.func d.f) #[] x /\
 (d.f=224\/d.f=241\/d.f=244->∃B nm,d.a=[nm]/\x=#[am B 0]/\Has s B (.cells #[str nm] 9)) /\
 (d.f=230->∃B av,x=#[am B 0]/\Has s B (.cells #[av] 62)/\cU s av d.a) /\
 (d.f=234->∃B C wv av,x=#[am B 0,am C 0]/\Has s B (.cells #[wv] 62)/\Has s C (.cells #[av] 62)/\cU s wv d.a/\cU s av d.b) /\
 (d.f∈[226,227,229,233,238,240,246]->x=#[]) /\
 (d.f=236->∃B v,x=#[am B 0]/\Has s B (.cells #[v] 72)/\rN s v (jm d.a d.b)) /\
 (d.f=242->∃B C E F G wv av,x=#[am B 0,am C 0]/\Has s B (.cells #[.func (.func 241) #[] #[am E 0]] 187)/\Has s E (.cells #[str [112]] 9)/\Has s C (.cells #[.func (.func 234) #[] #[am F 0,am G 0]] 187)/\Has s F (.cells #[wv] 62)/\Has s G (.cells #[av] 62)/\cU s wv aL/\cU s av [[112]])
def dJ:List FuncId:=[39,64,65,66,67,68,69,119,120,121,122,123,124,125,126,128,129,130,131,132,133,134,135,136,137,138,139,140,141,142,143,144,145,216,217,218,219,220,221,222,223,224,225,226,227,228,229,230,231,232,233,234,235,238,239,240,243,244,246,314,315,317,318,319,363]
def n8 (s:AS)(v:Value)(l:Vq):Prop:=(v=aD/\l=[])\/∃d,v=.slice (some ⟨d,0,none⟩) l.length l.length/\Has s d (.cells l.toArray 187 (1,1))
def Fa (s:AS)(vs:Vq)(ds:List DC):Prop:=vs.length=ds.length/\∀(i:Nat) (v:Value) (d:DC),vs[i]?=some v->ds[i]?=some d->cm s v d
abbrev mO:=DC × List (Bq)
def qg (nm:Bq)(l:List mO):List DC:=(l.filter λx=>aH nm x.2).map (·.1)
def lF(nm:Bq)(l:List mO):List DC:=(l.filter λx=>!aH nm x.2&&aH [] x.2).map (·.1)
section
variable {s s0:AS}{d:DC}
def Has.neF(h:Has s b (.cells cs t fz))(a:Has s c (.cells o9 t' S8))(d:fz≠S8):b≠c:=λe=>by
 subst e
 have:=h.2.symm.trans a.2;cases this;exact d rfl
def rN.fk{ls:List (List (Bq))}(h:rN s v ls)(c:aO K s s')(e:∀x b t a,Has s x (.cells b t a)->LD t a->¬K x):rN s' v ls:=by
 rcases h with h|⟨d,vs,h1,h2,h3,h4⟩
 .exact .inl h
 .exact .inr ⟨d,vs,h1,h2.fr c (e _ _ _ _ h2 (.inr (.inl rfl))),h3,λi v l g f=>(h4 i v l g f).fk c λx b a j=>e _ _ _ _ j (.inl rfl)⟩
def cm.fk(h:cm s v d)(a:aO K s s')(k:∀x i t g,Has s x (.cells i t g)->LD t g->¬K x):cm s' v d:=by
 have j:∀x i g,Has s x (.cells i 9 g)->¬K x:=λx i g o=>k _ _ _ _ o (.inl rfl);have e:∀x i g,Has s x (.cells i 62 g)->¬K x:=λx i g o=>k _ _ _ _ o (.inr (.inl rfl));have⟨x,u,e1,w,y,z,A,D⟩:=h;refine⟨x,u,λq=>?_,λq=>?_,λq=>?_,z,λq=>?_,λq=>?_⟩
 .have⟨B,H,f,b,c⟩:=e1 q;exact⟨B,H,f,b,c.fr a (j _ _ _ c)⟩
 .have⟨B,l,f,b,c⟩:=w q;exact⟨B,l,f,b.fr a (e _ _ _ b),c.fk a j⟩
 .have⟨B,C,p,l,f,b,c,m,n⟩:=y q;exact⟨B,C,p,l,f,b.fr a (e _ _ _ b),c.fr a (e _ _ _ c),m.fk a j,n.fk a j⟩
 .have⟨B,v,f,b,c⟩:=A q;exact⟨B,v,f,b.fr a (k _ _ _ _ b (.inr (.inr (.inl rfl)))),c.fk a k⟩
 .have⟨B,C,E,F,G,p,l,f,b,c,m,n,r,I,J⟩:=D q;exact⟨B,C,E,F,G,p,l,f,b.fr a (k _ _ _ _ b (i3 ⟨rfl,rfl⟩)),c.fr a (j _ _ _ c),m.fr a (k _ _ _ _ m (i3 ⟨rfl,rfl⟩)),n.fr a (e _ _ _ n),r.fr a (e _ _ _ r),I.fk a j,J.fk a j⟩
def cm.fn(h:cm s v d):∃x,v=.func (.func d.f) #[] x:=⟨h.choose,h.choose_spec.1⟩
def cm.c0(f:Nat)(h:f∈[226,227,229,233,238,240,246]):cm s (.func (.func f) #[] #[]) ⟨f,[],[]⟩:=by refine⟨#[],rfl,λq=>?_,λq=>?_,λq=>?_,λ_=>rfl,λq=>?_,λq=>?_⟩<;>(simp at h q;omega)
def cm.c1(f:Nat)(h:f=224\/f=241\/f=244)(a:Has s B (.cells #[str nm] 9)):cm s (.func (.func f) #[] #[am B 0]) ⟨f,[nm],[]⟩:=by refine⟨#[am B 0],rfl,λq=>⟨B,nm,rfl,rfl,a⟩,λq=>?_,λq=>?_,λq=>?_,λq=>?_,λq=>?_⟩<;>(simp at q;omega)
def Fa.fk{a:List DC}(h:Fa s vs a)(f:aO K s s')(g:∀x c t b,Has s x (.cells c t b)->LD t b->¬K x):Fa s' vs a:=⟨h.1,λi v d j e=>(h.2 i v d j e).fk f g⟩
def Fa.snoc{a:List DC}(h:Fa s vs a)(e:cm s v d):Fa s (vs++[v]) (a++[d]):=⟨by simp[h.1],λi f c h1 h2=>by
 by_cases b:i<vs.length
 .rw[vA b] at h1;rw[vA (by rw[<-h.1];exact b)] at h2;exact h.2 i f c h1 h2
 .rw[Bp oq] at h1;rw[Bp (by rw[<-h.1];omega),<-h.1] at h2;match hq:i-vs.length with
  | 0=>rw[hq] at h1 h2;cases h1;cases h2;exact e
  | q+1=>rw[hq] at h1;simp at h1⟩
structure RS(s0:AS)(B9 Bo Br:Nat)(nm:Bq)(s:AS)(l:List mO):Prop where
 n9:Has s B9 (.cells #[str nm] 9)
 bo:Bo<s0.nx/\Br<s0.nx/\Bo≠Br
 ex:∃ov rv ows rws,Has s Bo (.cells #[ov] 191)/\Has s Br (.cells #[rv] 191)/\n8 s ov ows/\n8 s rv rws/\(∀x,blk ov x->s0.nx<=x)/\(∀x,blk rv x->s0.nx<=x)/\(∀x,blk ov x->¬blk rv x)/\Fa s ows (qg nm l)/\Fa s rws (lF nm l)
 fr:aO (λx=>x=Bo\/x=Br) s0 s
 sz:l.length<=1000
def n8.fk(h:n8 s v l)(a:aO K s s')(b:∀x,blk v x->¬K x):n8 s' v l:=by
 rcases h with h|⟨d,rfl,h⟩
 .exact .inl h
 .exact .inr ⟨d,rfl,h.fr a (b d (dj _ _ _))⟩
def n8.lt(h:n8 s v l):∀x,blk v x->∃b,Has s x (.cells b 187 (1,1)):=λx a=>by
 rcases h with ⟨rfl,_⟩|⟨d,rfl,h⟩
 .exact(bR a).elim
 .rw[cH a];exact⟨_,h⟩
variable {B9 Bo Br:Nat}{nm:Bq}{l:List mO}
def RS.fk(h:RS s0 B9 Bo Br nm s l)(a:aO (λ_=>False) s s'):RS s0 B9 Bo Br nm s' l:=by have⟨k,m,b,c,h1,h2,h3,d,e,f,g,i,j⟩:=h.ex;exact⟨h.n9.fr a id,h.bo,⟨k,m,b,c,h1.fr a id,h2.fr a id,h3.fk a λ_ _=>id,d.fk a λ_ _=>id,e,f,g,i.fk a λ_ _ _ _ _ _=>id,j.fk a λ_ _ _ _ _ _=>id⟩,h.fr.trans a λ_ _ z=>z.elim,h.sz⟩
def UQ{w:Value}(h:n8 s v ws)(c:ws.length<=1000000):∃u a,bK prog 187 v [w] 1 s=some (u,a)/\u.cells=#[u]/\u.oneCell'=true/\n8 a u (ws++[w])/\aO (λy=>blk v y) s a/\∀y,blk u y->s.nx<=y:=by
 rcases h with ⟨rfl,rfl⟩|⟨d,rfl,q3⟩
 .exact⟨_,_,ia dq,rfl,rfl,.inr ⟨s.nx,rfl,Has.new s _⟩,(aO.refl s).add _,λb z=>Nat.le_of_eq (cH z).symm⟩
 .refine⟨_,_,gH (sz:=1) dq q3.2 kq iq oq,rfl,rfl,?_,(aO.set (aO.refl s) (λ_=>dj _ _ _) none).add _,λb z=>Nat.le_of_eq (cH z).symm⟩;rw[show((List.take (ws.length*1) ws.toArray.toList++[w]).toArray)=(ws++[w]).toArray by rw[Nat.mul_one,tL iq]];exact .inr ⟨s.nx,by rw[lA];rfl,Has.new (s.set d none) _⟩
theorem sr(Z:pr 126=none)(o:pr 127=bu 127)(h:RS s0 B9 Bo Br nm s l){a:List (Bq)}(hd:cm s dv d)(ha:cU s av a)(hl:l.length<1000):∃s',Ef pr 126 #[dv,av,am B9 0,am Bo 0,am Br 0] s (.tuple #[]) s'/\RS s0 B9 Bo Br nm s' (l++[(d,a)])/\aO (λx=>(x=Bo\/x=Br)\/∃D,Has s x (.cells D 187 (1,1))) s s':=by
 have⟨G,H,T,V,h1,h2,h3,E,h5,h6,h7,W,X⟩:=h.ex;have⟨x,hdv⟩:=hd.fn;have Y:=ha.is (pr:=pr) o nm;have a8:=ha.is (pr:=pr) o [];have R:qg nm (l++[(d,a)])=if aH nm a then qg nm l++[d] else qg nm l:=by unfold qg;grind
 have U:lF nm (l++[(d,a)])=if !aH nm a&&aH [] a then lF nm l++[d] else lF nm l:=by unfold lF;grind
 have ag:T.length<=1000:=by rw[W.1];unfold qg;rw[List.length_map];exact lT (List.length_filter_le _ _) h.sz
 have ah:V.length<=1000:=by rw[X.1];unfold lF;rw[List.length_map];exact lT (List.length_filter_le _ _) h.sz
 have P:∀(B C:Nat) (c A:Value) (I w2:Vq),Has s B (.cells #[c] 191)->Has s C (.cells #[A] 191)->B≠C->n8 s c I->n8 s A w2->(∀x,blk c x->¬blk A x)->I.length<=1000->∃u i g,Has (s.add (.cells #[dv] 187)) s.nx (.cells #[dv] 187)/\bK prog 187 c [dv] 1 (s.add (.cells #[dv] 187))=some (u,i)/\u.cells=#[u]/\u.oneCell'=true/\Has i B (.cells #[c] 191)/\g=i.set B (some (.cells #[u] 191))/\dR c (sq s.nx)=true/\Has g B (.cells #[u] 191)/\Has g C (.cells #[A] 191)/\n8 g u (I++[dv])/\n8 g A w2/\(∀x,blk u x->s.nx<=x)/\aO (λx=>x=B\/blk c x) s g:=by
  intro B C c A I w2 g1 g2 g3 g4 g5 g6 g7;have hf0:=(aO.refl (K:=λ_=>False) s).add (.cells #[dv] 187);have e4:=g4.fk hf0 λ_ _=>id;have⟨u,i,c1,c2,c3,c4,c5,c6⟩:=UQ (w:=dv) e4 oq;have n:aO (λx=>blk c x) s i:=((aO.refl s).add _).trans c5 λy _ z=>z;have M:∀{y:Nat} {D:Aq} {L:Nat × Nat},Has s y (.cells D 191 L)->¬blk c y:=λp z=>by have⟨_,z⟩:=g4.lt _ z;exact p.ne z dq rfl
  have F:=g1.fr n (M g1);have N:=g2.fr n (M g2);have O:=g5.fk n λy p z=>g6 y z p;have hnB:∀y,blk u y->y≠B:=λy p e=>by have:=c6 y p;have:=g1.1;simp at *;omega
  have ae:∀y,blk A y->y≠B:=λy p e=>by have⟨_,z⟩:=g5.lt y p;exact z.ne g1 dq e
  have S:aO (λy=>y=B) i (i.set B (some (.cells #[u] 191))):=aO.set (K:=λy=>y=B) (aO.refl i) (λ_=>rfl) _;refine⟨u,i,_,Has.new s _,c1,c2,c3,F,rfl,gv λb hb=>by have⟨_,z⟩:=g4.lt b hb;exact z.1,F.put _,N.fr S (Ne.symm g3),c4.fk S hnB,O.fk S ae,λx z=>by have:=c6 x z;simp at this;omega,(n.mono λ_ _ z=>.inr z).trans S λy _ z=>.inl z⟩
 have ab:∀{g:AS} {B:Nat} {c:Value},(B=Bo\/B=Br)->(∀x,blk c x->s0.nx<=x)->aO (λx=>x=B\/blk c x) s g->aO (λx=>x=Bo\/x=Br) s0 g:=λM hb hf=>h.fr.trans hf λy p z=>by grind
 have aa:∀{B:Nat} {c:Value} {I:Vq} {q:Value},Has s B (.cells #[q] 191)->n8 s c I->∀x D t L,Has s x (.cells D t L)->LD t L->¬(x=B\/blk c x):=λM hv x D t L hx hc z=>by
  rcases z with z|z
  .exact hx.ne M (by rcases hc with rfl|rfl|rfl|⟨rfl,_⟩<;>decide) z
  .have⟨_,z⟩:=hv.lt x z;rcases hc with rfl|rfl|rfl|⟨rfl,rfl⟩
   iterate 3
    .exact hx.ne z dq rfl
   .exact hx.neF z dq rfl
 subst hdv;generalize hA:aH nm a=bA at Y R U;generalize ai:aH [] a=af at a8 U;cases bA with
 | true =>
  have⟨u,i,g,k0,F,N,k3,k4,O,k6,k7,k8,k9,a9,J,j⟩:=P Bo Br G H T V h1 h2 h.bo.2.2 h3 E h7 ag;have v:=aa h1 h3;have r:RS s0 B9 Bo Br nm g (l++[(d,a)]):=by
   refine⟨h.n9.fr j (v _ _ _ _ h.n9 (.inl rfl)),h.bo,⟨u,H,_,_,k7,k8,k9,a9,λx z=>by have:=J x z;have:=h.fr.1;omega,h6,λx z Q=>?_,?_,?_⟩,ab (.inl rfl) h5 j,by simp;omega⟩
   .have:=J x z;have⟨_,y⟩:=E.lt x Q
    have:=y.1;omega
   .rw[R,ip rfl];exact(W.snoc hd).fk j v
   .rw[U,iw iq];exact X.fk j v
  refine⟨g,?_,r,j.mono λy _ z=>z.elim (λz=>.inl (.inl z)) λz=>.inr (h3.lt y z)⟩;refine EF.of Z func126 rfl (zr (zp (yl B9 0 (str nm) h.n9.2) (zc 1 Y (EO.nil (za s (zH (zx (zp (yl Bo 0 G h1.2) (zg 2 (s.add (.cells #[.func (.func d.f) #[] x] 187)) (zp (gl (sl:=G) (news:=[.func (.func d.f) #[] x]) (d:=s.nx) (m:=1) (k:=1) (sz:=1) (z:=.nilFunc) (bytes:=8) rfl kq kq underlying191 kq rfl dq dq kq k0.2 k6 dq iq iq rfl F) (zp (gA (b:=Bo) (off:=0) (w:=u) rfl kq kq N k3 kq k4.2 iq) ?_)))))))))));exact EO.nil ⟨.inl rfl,kq,by rw[O];kernel_rfl⟩
 | false =>
  cases af with
  | true =>
   have⟨u,i,g,k0,F,N,k3,k4,O,k6,k7,k8,k9,a9,J,j⟩:=P Br Bo H G V T h2 h1 (Ne.symm h.bo.2.2) E h3 (λx z Q=>h7 x Q z) ah;have v:=aa h2 E;have r:RS s0 B9 Bo Br nm g (l++[(d,a)]):=by
    refine⟨h.n9.fr j (v _ _ _ _ h.n9 (.inl rfl)),h.bo,⟨G,u,_,_,k8,k7,a9,k9,h5,λx z=>by have:=J x z;have:=h.fr.1;omega,λx z Q=>?_,?_,?_⟩,ab (.inr rfl) h6 j,by simp;omega⟩
    .have:=J x Q;have⟨_,y⟩:=h3.lt x z
     have:=y.1;omega
    .rw[R,iw iq];exact W.fk j v
    .rw[U,ip (show(!false&&true)=true from rfl)];exact(X.snoc hd).fk j v
   refine⟨g,?_,r,j.mono λy _ z=>z.elim (λz=>.inl (.inr z)) λz=>.inr (E.lt y z)⟩;refine EF.of Z func126 rfl (zr (zp (yl B9 0 (str nm) h.n9.2) (zc 1 Y (EO.nil (za s (zG (zr (zc 1 a8 (EO.nil (za s (zH (zx (zp (yl Br 0 H h2.2) (zg 2 (s.add (.cells #[.func (.func d.f) #[] x] 187)) (zp (gl (sl:=H) (news:=[.func (.func d.f) #[] x]) (d:=s.nx) (m:=1) (k:=1) (sz:=1) (z:=.nilFunc) (bytes:=8) rfl kq kq underlying191 kq rfl dq dq kq k0.2 k6 dq iq iq rfl F) (zp (gA (b:=Br) (off:=0) (w:=u) rfl kq kq N k3 kq k4.2 iq) ?_))))))))))))))));exact EO.nil ⟨.inl rfl,kq,by rw[O];kernel_rfl⟩
  | false =>refine⟨s,?_,⟨h.n9,h.bo,⟨G,H,T,V,h1,h2,h3,E,h5,h6,h7,by rw[R,iw iq];exact W,by rw[U,iw iq];exact X⟩,h.fr,by simp;omega⟩,aO.refl s⟩;refine EF.of Z func126 rfl ?_;refine zr (zp (yl B9 0 (str nm) h.n9.2) (zc 1 Y (EO.nil (za s (zG (zr (zc 1 a8 (EO.nil (za s (zF ?_))))))))));exact⟨.inl rfl,kq,kq⟩
section
variable (dD:∀f,f∈dJ->pr f=none)
def Mt:∃a b,Ef pr 122 #[] s b a/\cm a b ⟨226,[],[]⟩/\aO (λ_=>False) s a:=by
 refine⟨s,.func (.func 226) #[] #[],?_,cm.c0 _ dq,aO.refl s⟩;refine EF.of (dD 122 dq) func122 rfl ?_;iterate 2 refine zs ?_
 exact yR
def Mv:∃a b,Ef pr 123 #[] s b a/\cm a b ⟨227,[],[]⟩/\aO (λ_=>False) s a:=by
 refine⟨s,.func (.func 227) #[] #[],?_,cm.c0 _ dq,aO.refl s⟩;refine EF.of (dD 123 dq) func123 rfl ?_;iterate 2 refine zs ?_
 exact yR
def En:∃a b,Ef pr 125 #[] s b a/\cm a b ⟨229,[],[]⟩/\aO (λ_=>False) s a:=by
 refine⟨s,.func (.func 229) #[] #[],?_,cm.c0 _ dq,aO.refl s⟩;refine EF.of (dD 125 dq) func125 rfl ?_;iterate 2 refine zs ?_
 exact yR
end
def qH(s:AS)(l:List (Bq)):aO (λ_=>False) s (s.add (.cells (l.map str).toArray 9)):=(aO.refl s).add _
def cU.vT{l:List (Bq)}(h:cU s v l)(a:aO (λ_=>False) s s'):cU s' v l:=h.fk a λ_ _ _ _=>id
def cm.vT(h:cm s v d)(a:aO (λ_=>False) s s'):cm s' v d:=h.fk a λ_ _ _ _ _ _=>id
def kr(XC:pr 126=none)(js:pr 127=bu 127)(h:RS s0 B9 Bo Br nm s l)(hd:cm s dv d)(ask:List (Bq))(n:Nat)(hn:n=ask.length)(ha:ask.length<=1000)(hl:l.length<1000):∃s',Ef pr 126 #[dv,.slice (sq s.nx) n n,am B9 0,am Bo 0,am Br 0] (s.add (.cells (ask.map str).toArray 9)) (.tuple #[]) s'/\RS s0 B9 Bo Br nm s' (l++[(d,ask)])/\aO (λx=>(x=Bo\/x=Br)\/∃cs,Has (s.add (.cells (ask.map str).toArray 9)) x (.cells cs 187 (1,1))) (s.add (.cells (ask.map str).toArray 9)) s':=sr XC js (h.fk (qH s ask)) (hd.vT (qH s ask)) (cU.new s ask n hn ha) hl
section
variable (h:RS s0 B9 Bo Br nm s l)
def RS.ask{a:List (Bq)}(d:cU s v a)(e:aO (λx=>(x=Bo\/x=Br)\/∃c,Has s x (.cells c 187 (1,1))) s s'):cU s' v a:=d.fk e λx c f b z=>by
 have⟨g,i,_,_,h1,h2,_⟩:=h.ex;rcases z with (rfl|rfl)|⟨_,z⟩
 .exact b.ne h1 dq rfl
 .exact b.ne h2 dq rfl
 .exact b.ne z dq rfl
def RS.Ls{a ask:List (Bq)}(ha:cU s v a)(hf:aO (λx=>(x=Bo\/x=Br)\/∃cs,Has (s.add (.cells (ask.map str).toArray 9)) x (.cells cs 187 (1,1))) (s.add (.cells (ask.map str).toArray 9)) s'):cU s' v a:=(h.fk (qH s ask)).ask (ha.vT (qH s ask)) hf
end
section
variable (dD:∀f,f∈dJ->pr f=none)
def xx:∃a b,Ef pr 129 #[] s b a/\cm a b ⟨233,[],[]⟩/\aO (λ_=>False) s a:=by
 refine⟨s,.func (.func 233) #[] #[],?_,cm.c0 _ dq,aO.refl s⟩;refine EF.of (dD 129 dq) func129 rfl ?_;iterate 2 refine zs ?_
 exact yR
def Eo:∃a b,Ef pr 136 #[] s b a/\cm a b ⟨238,[],[]⟩/\aO (λ_=>False) s a:=by
 refine⟨s,.func (.func 238) #[] #[],?_,cm.c0 _ dq,aO.refl s⟩;refine EF.of (dD 136 dq) func136 rfl ?_;iterate 2 refine zs ?_
 exact yR
def Mw:∃a b,Ef pr 139 #[] s b a/\cm a b ⟨240,[],[]⟩/\aO (λ_=>False) s a:=by
 refine⟨s,.func (.func 240) #[] #[],?_,cm.c0 _ dq,aO.refl s⟩;refine EF.of (dD 139 dq) func139 rfl ?_;iterate 2 refine zs ?_
 exact yR
def MC:∃a b,Ef pr 145 #[] s b a/\cm a b ⟨246,[],[]⟩/\aO (λ_=>False) s a:=by
 refine⟨s,.func (.func 246) #[] #[],?_,cm.c0 _ dq,aO.refl s⟩;refine EF.of (dD 145 dq) func145 rfl ?_;iterate 2 refine zs ?_
 exact yR
def xv(nm:Bq):∃a b,Ef pr 121 #[str nm] s b a/\cm a b ⟨224,[nm],[]⟩/\aO (λ_=>False) s a:=by
 refine⟨s.add (.cells #[str nm] 9),.func (.func 224) #[] #[am s.nx 0],?_,cm.c1 _ dq (Has.new s _),(aO.refl s).add _⟩;refine EF.of (dD 121 dq) func121 rfl ?_;iterate 2 refine zs ?_
 exact yR
def Ep(nm:Bq):∃a b,Ef pr 140 #[str nm] s b a/\cm a b ⟨241,[nm],[]⟩/\aO (λ_=>False) s a:=by
 refine⟨s.add (.cells #[str nm] 9),.func (.func 241) #[] #[am s.nx 0],?_,cm.c1 _ dq (Has.new s _),(aO.refl s).add _⟩;refine EF.of (dD 140 dq) func140 rfl ?_;iterate 2 refine zs ?_
 exact yR
def MB(nm:Bq):∃a b,Ef pr 144 #[str nm] s b a/\cm a b ⟨244,[nm],[]⟩/\aO (λ_=>False) s a:=by
 refine⟨s.add (.cells #[str nm] 9),.func (.func 244) #[] #[am s.nx 0],?_,cm.c1 _ dq (Has.new s _),(aO.refl s).add _⟩;refine EF.of (dD 144 dq) func144 rfl ?_;iterate 2 refine zs ?_
 exact yR
end
end
section
variable {s:AS}
def cm.c2{C:Nat}{l:List (Bq)}(a:Has s B (.cells #[wv] 62))(b:Has s C (.cells #[av] 62))(d:cU s wv l)(c:cU s av m):cm s (.func (.func 234) #[] #[am B 0,am C 0]) ⟨234,l,m⟩:=⟨_,rfl,λq=>absurd q iq,λq=>absurd q iq,λ_=>⟨B,C,wv,av,rfl,a,b,d,c⟩,λq=>absurd q iq,λq=>absurd q iq,λq=>absurd q iq⟩
def cm.c3(a:Has s B (.cells #[av] 62))(b:cU s av m):cm s (.func (.func 230) #[] #[am B 0]) ⟨230,m,[]⟩:=⟨_,rfl,λq=>absurd q iq,λ_=>⟨B,av,rfl,a,b⟩,λq=>absurd q iq,λq=>absurd q iq,λq=>absurd q iq,λq=>absurd q iq⟩
section
variable (dD:∀f,f∈dJ->pr f=none)
def te{l:List (Bq)}(q:cU s wv l)(o:cU s av m):∃h i,Ef pr 130 #[wv,av] s i h/\cm h i ⟨234,l,m⟩/\aO (λ_=>False) s h:=by
 obtain⟨t,d,c,k,rfl,h1⟩:=q;obtain⟨u,b,a,e,rfl,r⟩:=o;generalize p:l.length=n at *;generalize g:m.length=j at *;have f:=((aO.refl (K:=λ_=>False) s).add (.cells #[.slice (sq d) n c] 62)).add (.cells #[.slice (sq b) j a] 62);refine⟨(s.add (.cells #[.slice (sq d) n c] 62)).add (.cells #[.slice (sq b) j a] 62),.func (.func 234) #[] #[am s.nx 0,am (s.nx+1) 0],?_,cm.c2 ((Has.new s _).add _) (Has.new (s.add (.cells #[.slice (sq d) n c] 62)) _) ⟨oq,d,c,k,by rw[p],h1.fr f id⟩ ⟨oq,b,a,e,by rw[g],r.fr f id⟩,f⟩;refine EF.of (dD 130 dq) func130 rfl ?_;iterate 2 refine zs ?_
 exact yR
def xw(i:cU s av m):∃e f,Ef pr 128 #[av] s f e/\cm e f ⟨230,m,[]⟩/\aO (λ_=>False) s e:=by
 obtain⟨k,b,a,c,rfl,j⟩:=i;generalize d:m.length=h at *;have g:=(aO.refl (K:=λ_=>False) s).add (.cells #[.slice (sq b) h a] 62);refine⟨s.add (.cells #[.slice (sq b) h a] 62),.func (.func 230) #[] #[am s.nx 0],?_,cm.c3 (Has.new s _) ⟨oq,b,a,c,by rw[d],j.fr g id⟩,g⟩;refine EF.of (dD 128 dq) func128 rfl ?_;iterate 2 refine zs ?_
 exact yR
def tf(e:cU s av m):∃a b,Ef pr 132 #[av] s b a/\cm a b ⟨234,aL,m⟩/\aO (λ_=>False) s a:=by have h1:=nX (pr:=pr) (s:=s) (dD 131 dq);have⟨a,b,e1,c,d⟩:=te (pr:=pr) dD (cU.new s aL 6 rfl dq) (e.add _);refine⟨a,b,?_,c,((aO.refl s).add _).trans d λ_ _ z=>z⟩;exact EF.of (dD 132 dq) func132 rfl (zs (zr (zc 0 h1 (zc 1 e1 (zf yR)))))
def xy(a b:List (Bq))(ad:Option Addr)(n c:Nat)(g:rN s (.slice ad n c) (jm a b)):∃d e,Ef pr 135 #[.slice ad n c] s e d/\cm d e ⟨236,a,b⟩/\aO (λ_=>False) s d:=by
 have f:=(aO.refl (K:=λ_=>False) s).add (.cells #[.slice ad n c] 72);refine⟨s.add (.cells #[.slice ad n c] 72),.func (.func 236) #[] #[am s.nx 0],?_,⟨_,rfl,λq=>absurd q iq,λq=>absurd q iq,λq=>absurd q iq,λq=>absurd q iq,λ_=>⟨s.nx,_,rfl,Has.new s _,g.fk f λ_ _ _ _ _ _=>id⟩,λq=>absurd q iq⟩,f⟩;refine EF.of (dD 135 dq) func135 rfl ?_;iterate 2 refine zs ?_
 exact yR
def MA(nm:Bq):∃a b,Ef pr 143 #[str nm] s b a/\cm a b ⟨234,[QI],[nm]⟩/\aO (λ_=>False) s a:=by have e:=(cU.new s [QI] 1 rfl dq).add (.cells ([nm].map str).toArray 9);have f:=cU.new (s.add (.cells ([QI].map str).toArray 9)) [nm] 1 rfl iq;have⟨a,b,e1,c,d⟩:=te (pr:=pr) dD e f;refine⟨a,b,?_,c,(((aO.refl s).add _).add _).trans d λ_ _ z=>z⟩;exact EF.of (dD 143 dq) func143 rfl (zs (zr (zc 3 e1 (zf yR))))
def My:∃d k,Ef pr 141 #[] s k d/\cm d k ⟨242,[],[]⟩/\aO (λ_=>False) s d:=by
 have⟨d,H,e1,o,p⟩:=Ep (pr:=pr) (s:=s) dD [112];have x:=cU.new d [[112]] 1 rfl dq;have⟨a,I,g1,g2,g3⟩:=tf (pr:=pr) dD x;obtain⟨e,rfl,A,_⟩:=o;obtain⟨E,J,D,rfl,r⟩:=A (.inr (.inl rfl));cases D;obtain⟨f,rfl,_,_,B,_⟩:=g2;obtain⟨F,G,C,n,rfl,t,u,w,v⟩:=B rfl;generalize i:#[am E 0]=e;generalize j:#[am F 0,am G 0]=f at *;have g:=p.trans (((aO.refl d).add (.cells ([[112]].map str).toArray 9)).trans g3 λ_ _ z=>z) λ_ _ z=>z;have l:=(Has.new a (.cells #[.nilFunc] 187)).add (.cells #[.nilFunc] 187);have y:Has ((a.add (.cells #[.nilFunc] 187)).add (.cells #[.nilFunc] 187)) (a.nx+1) (.cells #[.nilFunc] 187):=Has.new (a.add (.cells #[.nilFunc] 187)) _;have m:=y.set (show a.nx+1≠a.nx by omega) (some (.cells #[.func (.func 241) #[] e] 187));refine⟨(((a.add (.cells #[.nilFunc] 187)).add (.cells #[.nilFunc] 187)).set a.nx (some (.cells #[.func (.func 241) #[] e] 187))).set (a.nx+1) (some (.cells #[.func (.func 234) #[] f] 187)),.func (.func 242) #[] #[am a.nx 0,am (a.nx+1) 0],?_,?_,aO.set (aO.set ((g.add _).add _) (λz=>absurd z (by have:=g.1;omega)) _) (λz=>absurd z (by have:=g.1;omega)) _⟩;rotate_left
 .have b:=aO.set (aO.set (((aO.refl (K:=λ_=>False) a).add (.cells #[.nilFunc] 187)).add (.cells #[.nilFunc] 187)) (c:=a.nx) (λz=>absurd z oq) (some (.cells #[.func (.func 241) #[] e] 187))) (c:=a.nx+1) (λz=>absurd z oq) (some (.cells #[.func (.func 234) #[] f] 187));have h:=(((aO.refl (K:=λ_=>False) d).add (.cells ([[112]].map str).toArray 9)).trans g3 λ_ _ z=>z).trans b λ_ _ z=>z;refine⟨_,rfl,λq=>absurd q iq,λq=>absurd q iq,λq=>absurd q iq,λq=>absurd q iq,λq=>absurd q iq,λ_=>⟨a.nx,a.nx+1,E,F,G,C,n,rfl,?_,r.fr h id,?_,t.fr b id,u.fr b id,w.vT b,v.vT b⟩⟩
  .rw[i];exact(l.put _).set oq _
  .rw[j];exact m.put _
 exact EF.of (dD 141 dq) func141 rfl (zs (zr (zc 0 e1 (zg 1 (d.add (.cells ([[112]].map str).toArray 9)) (zc 0 g1 (zg 2 ((a.add (.cells #[.nilFunc] 187)).add (.cells #[.nilFunc] 187)) (zp (ys a.nx 0 (.func (.func 241) #[] e) l.2 iq) (zo (((a.add (.cells #[.nilFunc] 187)).add (.cells #[.nilFunc] 187)).set a.nx (some (.cells #[.func (.func 241) #[] e] 187))) (zp (ys (a.nx+1) 0 (.func (.func 234) #[] f) m.2 iq) (EO.nil (zs yR)))))))))))
end
def Lq(s:AS)(l m:List (Bq))(n k:Nat)(d:n=l.length)(c:k=m.length)(e:l.length+m.length<=1000/\0<m.length):∃T,bK prog 9 (.slice (sq s.nx) n n) (m.map str) k ((s.add (.cells (l.map str).toArray 9)).add (.cells (m.map str).toArray 9))=some (.slice (some ⟨((s.add (.cells (l.map str).toArray 9)).add (.cells (m.map str).toArray 9)).nx,0,none⟩) (n+k) (n+k),T)/\cU T (.slice (some ⟨((s.add (.cells (l.map str).toArray 9)).add (.cells (m.map str).toArray 9)).nx,0,none⟩) (n+k) (n+k)) (l++m)/\aO (λ_=>False) s T/\Has ((s.add (.cells (l.map str).toArray 9)).add (.cells (m.map str).toArray 9)) (s.add (.cells (l.map str).toArray 9)).nx (.cells (m.map str).toArray 9)/\dR (.slice (sq s.nx) n n) (some ⟨(s.add (.cells (l.map str).toArray 9)).nx,0,none⟩)=true:=by subst d c;have h1:=(Has.new s (.cells (l.map str).toArray 9)).add (.cells (m.map str).toArray 9);have h2:=Has.new (s.add (.cells (l.map str).toArray 9)) (.cells (m.map str).toArray 9);have a:=(qH s l).add (.cells (m.map str).toArray 9);refine⟨_,gH (sz:=1) oq h1.2 kq iq oq,?_,(aO.set a (λz=>absurd z (Nat.lt_irrefl _)) none).add _,h2,gv λb z=>by rw[cH z];simp⟩;rw[show(List.take (l.length*1) (l.map str).toArray.toList++m.map str).toArray=((l++m).map str).toArray by rw[Nat.mul_one,tL iq];simp];exact⟨by simp;omega,((s.add (.cells (l.map str).toArray 9)).add (.cells (m.map str).toArray 9)).nx,l.length+m.length,(1,1),by rw[lA],Has.new (((s.add (.cells (l.map str).toArray 9)).add (.cells (m.map str).toArray 9)).set s.nx none) _⟩
abbrev sa(B9 Bo Br:Nat):Value:=.func (.func 126) #[] #[am B9 0,am Bo 0,am Br 0]
def j0:List mO:=[]++[(⟨224,[nW],[]⟩,[nW])]++[(⟨226,[],[]⟩,[Ei])]++[(⟨227,[],[]⟩,fY)]++[(⟨229,[],[]⟩,[[]])]
section
variable (dD:∀f,f∈dJ->pr f=none)
section
variable (js:pr 127=bu 127)
section
variable (h:RS s0 B9 Bo Br nm s [])
def AK:∃G,Ef pr 65 #[sa B9 Bo Br] s (.tuple #[]) G/\RS s0 B9 Bo Br nm G j0:=by refine EF.iy (dD 65 dq) func65 rfl ?_;have⟨H,R,L,M,N⟩:=xv (pr:=pr) (s:=s) dD nW;have K:=h.fk N;have⟨k,C,f,_⟩:=kr (dD 126 dq) js K M [nW] 1 rfl dq iq;refine zr (zc 1 L (zg 1 (H.add (.cells ([nW].map str).toArray 9)) (yc #[] #[am B9 0,am Bo 0,am Br 0] C (EO.nil ?_))));have⟨l,O,t,u,v⟩:=Mt (pr:=pr) (s:=k) dD;have p:=f.fk v;have⟨m,D,g,_⟩:=kr (dD 126 dq) js p u [Ei] 1 rfl dq iq;refine zr (zc 1 t (zg 1 (l.add (.cells ([Ei].map str).toArray 9)) (yc #[] #[am B9 0,am Bo 0,am Br 0] D (EO.nil ?_))));have⟨a,P,w,x,y⟩:=Mv (pr:=pr) (s:=m) dD;have q:=g.fk y;have e:=Gk (pr:=pr) (s:=a) (dD 124 dq);have d:=cU.new a fY 6 rfl dq;have b:=q.fk (qH a fY);have c:=x.vT (qH a fY);generalize a.add (.cells (fY.map str).toArray 9)=I at e d b c;have⟨n,E,i,_⟩:=sr (dD 126 dq) js b c d iq;refine zr (zc 1 w (zc 0 e (yc #[] #[am B9 0,am Bo 0,am Br 0] E (EO.nil ?_))));have⟨o,Q,z,A,B⟩:=En (pr:=pr) (s:=n) dD;have r:=i.fk B;have⟨J,F,j,_⟩:=kr (dD 126 dq) js r A [[]] 1 rfl dq iq;exact zx (zc 1 z (zg 1 (o.add (.cells ([[]].map str).toArray 9)) (yc #[] #[am B9 0,am Bo 0,am Br 0] F (EO.nil ⟨.inl rfl,kq,j⟩))))
def kS:List mO:=[]++[(⟨230,Jm,[]⟩,Jm)]++[(⟨229,[],[]⟩,Uk)]++[(⟨233,[],[]⟩,[OB,OC,OA,Ei,[]])]
def AJ:∃y,Ef pr 67 #[sa B9 Bo Br] s (.tuple #[]) y/\RS s0 B9 Bo Br nm y kS:=by refine EF.iy (dD 67 dq) func67 rfl ?_;have x:=cU.new s Jm 3 rfl dq;have w:=h.fk (qH s Jm);generalize B:s.add (.cells (Jm.map str).toArray 9)=v at x w;have⟨A,H,C,D,E⟩:=xw (pr:=pr) (s:=v) dD  x;have i:=w.fk E;have⟨d,r,a,_⟩:=kr (dD 126 dq) js i D Jm 3 rfl dq iq;refine zr (zg 2 (s.add (.cells (Jm.map str).toArray 9)) (EO.kZ v B (zc 0 C (zg 1 (A.add (.cells (Jm.map str).toArray 9)) (yc #[] #[am B9 0,am Bo 0,am Br 0] r (EO.nil ?_))))));have⟨e,F,l,m,n⟩:=En (pr:=pr) (s:=d) dD;have j:=a.fk n;have⟨f,t,b,_⟩:=kr (dD 126 dq) js j m Uk 5 rfl dq iq;refine zr (zc 1 l (zg 1 (e.add (.cells (Uk.map str).toArray 9)) (yc #[] #[am B9 0,am Bo 0,am Br 0] t (EO.nil ?_))));have⟨g,G,o,p,q⟩:=xx (pr:=pr) (s:=f) dD;have k:=b.fk q;have⟨z,u,c,_⟩:=kr (dD 126 dq) js k p [OB,OC,OA,Ei,[]] 5 rfl dq iq;exact zx (zc 1 o (zg 1 (g.add (.cells ([OB,OC,OA,Ei,[]].map str).toArray 9)) (yc #[] #[am B9 0,am Bo 0,am Br 0] u (EO.nil ⟨.inl rfl,kq,c⟩))))
end
end
end
end
section
variable {s:AS}
def ek:List mO:=[]++[(⟨224,[nW],[]⟩,[nW])]++[(⟨224,[QH],[]⟩,[QH])]++[(⟨233,[],[]⟩,[Ei])]++[(⟨234,aL++[[111,108],Ul],[Gj]⟩,[Gj])]++[(⟨234,aL++[[100,108]],[[100,100],[100,116]]⟩,[[100,100],[100,116]])]++[(⟨234,aL,[[112]]⟩,(nn++[Gj,[100,100],[100,116]]))]++[(⟨230,bz,[]⟩,bz)]++[(⟨230,[OD],[]⟩,[OD])]++[(⟨236,[],[]⟩,[Um,V0,VZ,V1])]++[(⟨236,Bx,[]⟩,[[116,114]])]++[(⟨236,Bx,[[116,114]]⟩,[[116,100],[116,104]])]++[(⟨234,aL,[[97]]⟩,[[97]])]++[(⟨238,[],[]⟩,(bq++dH))]++[(⟨238,[],[]⟩,[[]])]++[(⟨240,[],[]⟩,Jm)]
def AM(a:∀f,f∈dJ->pr f=none)(c:pr 127=bu 127)(h:RS s0 B9 Bo Br nm s []):∃s',Ef pr 68 #[sa B9 Bo Br] s (.tuple #[]) s'/\RS s0 B9 Bo Br nm s' ek:=by
 refine EF.iy (a 68 dq) func68 rfl ?_;have⟨S1,v2,m3,m4,m5⟩:=xv (pr:=pr) (s:=s) a nW;have f6:=h.fk m5;have⟨WL,uW,R14,_⟩:=kr (a 126 dq) c f6 m4 [nW] 1 rfl dq iq;refine zr (zc 1 m3 (zg 1 (S1.add (.cells ([nW].map str).toArray 9)) (yc #[] #[am B9 0,am Bo 0,am Br 0] uW (EO.nil ?_))));have⟨WN,v16,Za,Zd,Ze⟩:=xv (pr:=pr) (s:=WL) a QH;have f20:=R14.fk Ze;have⟨WY,ZQ,WE,_⟩:=kr (a 126 dq) c f20 Zd [QH] 1 rfl dq iq;refine zr (zc 1 Za (zg 1 (WN.add (.cells ([QH].map str).toArray 9)) (yc #[] #[am B9 0,am Bo 0,am Br 0] ZQ (EO.nil ?_))));have⟨W3,v30,Zv,m32,Zw⟩:=xx (pr:=pr) (s:=WY) a;have f34:=WE.fk Zw;have⟨w,ZT,WH,_⟩:=kr (a 126 dq) c f34 m32 [Ei] 1 rfl dq iq;refine zr (zc 1 Zv (zg 1 (W3.add (.cells ([Ei].map str).toArray 9)) (yc #[] #[am B9 0,am Bo 0,am Br 0] ZT (EO.nil ?_))));have l43:=nX (pr:=pr) (s:=w) (a 131 dq);have⟨x,a45,a46,a47,a48,a49⟩:=Lq w aL [[111,108],Ul] 6 2 rfl rfl dq;have f50:=WH.fk a47;have k51:=cU.new x [Gj] 1 rfl dq;have f52:=f50.fk (qH x [Gj]);have f53:=a46.vT (qH x [Gj]);generalize e55:x.add (.cells ([Gj].map str).toArray 9)=Z7 at k51 f52 f53;have⟨Z8,v57,m58,m59,m60⟩:=te (pr:=pr) (s:=Z7) a  f53 k51;have f61:=f52.fk m60;have⟨y,q72,R73,_⟩:=kr (a 126 dq) c f61 m59 [Gj] 1 rfl dq iq;refine zr (zc 1 l43 (zg 1 ((w.add (.cells (aL.map str).toArray 9)).add (.cells ([[111,108],Ul].map str).toArray 9)) (zp (gl (sl:=.slice (sq w.nx) 6 6) (news:=[[111,108],Ul].map str) (d:=(w.add (.cells (aL.map str).toArray 9)).nx) (m:=2) (k:=2) (sz:=1) (z:=str []) (bytes:=16) rfl kq kq underlying62 kq rfl dq dq kq a48.2 a49 dq dq rfl dq a45) (zg 1 (x.add (.cells ([Gj].map str).toArray 9)) (EO.kZ Z7 e55 (zc 0 m58 (zg 1 (Z8.add (.cells ([Gj].map str).toArray 9)) (yc #[] #[am B9 0,am Bo 0,am Br 0] q72 (EO.nil ?_)))))))));have l74:=nX (pr:=pr) (s:=y) (a 131 dq);have⟨A,a76,a77,a78,a79,a80⟩:=Lq y aL [[100,108]] 6 1 rfl rfl dq;have f81:=R73.fk a78;have k82:=cU.new A [[100,100],[100,116]] 2 rfl dq;have f83:=f81.fk (qH A [[100,100],[100,116]]);have f84:=a77.vT (qH A [[100,100],[100,116]]);generalize e86:A.add (.cells ([[100,100],[100,116]].map str).toArray 9)=Z9 at k82 f83 f84;have⟨S87,v88,m89,m90,m91⟩:=te (pr:=pr) (s:=Z9) a  f84 k82;have f92:=f83.fk m91;have⟨p,ZG,Ws,_⟩:=kr (a 126 dq) c f92 m90 [[100,100],[100,116]] 2 rfl dq iq;refine zr (zc 1 l74 (zg 1 ((y.add (.cells (aL.map str).toArray 9)).add (.cells ([[100,108]].map str).toArray 9)) (zp (gl (sl:=.slice (sq y.nx) 6 6) (news:=[[100,108]].map str) (d:=(y.add (.cells (aL.map str).toArray 9)).nx) (m:=1) (k:=1) (sz:=1) (z:=str []) (bytes:=16) rfl kq kq underlying62 kq rfl dq dq kq a79.2 a80 dq dq rfl dq a76) (zg 1 (A.add (.cells ([[100,100],[100,116]].map str).toArray 9)) (EO.kZ Z9 e86 (zc 0 m89 (zg 1 (S87.add (.cells ([[100,100],[100,116]].map str).toArray 9)) (yc #[] #[am B9 0,am Bo 0,am Br 0] ZG (EO.nil ?_)))))))));have T7:=cU.new p [[112]] 1 rfl dq;have V:=Ws.fk (qH p [[112]]);generalize Xq:p.add (.cells ([[112]].map str).toArray 9)=O at T7 V;have⟨j,v110,Y1,Y2,Y3⟩:=tf (pr:=pr) (s:=O) a  T7;have f114:=V.fk Y3;have YX:=Cz (pr:=pr) (s:=j) (a 133 dq);have⟨S117,W6,W7,T,W8,W9⟩:=Lq j nn [Gj,[100,100],[100,116]] 33 3 rfl rfl dq;have f123:=f114.fk T;have f125:=Y2.vT T;have⟨q,ZH,Wt,_⟩:=sr (a 126 dq) c f123 f125 W7 iq;refine zr (zg 2 (p.add (.cells ([[112]].map str).toArray 9)) (EO.kZ O Xq (zc 0 Y1 (zc 0 YX (zg 1 ((j.add (.cells (nn.map str).toArray 9)).add (.cells ([Gj,[100,100],[100,116]].map str).toArray 9)) (zp (gl (sl:=.slice (sq j.nx) 33 33) (news:=[Gj,[100,100],[100,116]].map str) (d:=(j.add (.cells (nn.map str).toArray 9)).nx) (m:=3) (k:=3) (sz:=1) (z:=str []) (bytes:=16) rfl kq kq underlying62 kq rfl dq dq kq W8.2 W9 dq dq rfl dq W6) (yc #[] #[am B9 0,am Bo 0,am Br 0] ZH (EO.nil ?_))))))));have Uc:=jx (pr:=pr) (s:=q) (a 134 dq);have T8:=cU.new q bz 6 rfl dq;have W:=Wt.fk (qH q bz);generalize q.add (.cells (bz.map str).toArray 9)=WM at Uc T8 W;have⟨n,v134,Y4,Y5,Y6⟩:=xw (pr:=pr) (s:=WM) a  T8;have f138:=W.fk Y6;have Ud:=jx (pr:=pr) (s:=n) (a 134 dq);have T9:=cU.new n bz 6 rfl dq;have X:=f138.fk (qH n bz);have Y:=Y5.vT (qH n bz);generalize n.add (.cells (bz.map str).toArray 9)=S142 at Ud T9 X Y;have⟨r,ZJ,Wu,_⟩:=sr (a 126 dq) c X Y T9 iq;refine zr (zc 1 Uc (zc 0 Y4 (zc 0 Ud (yc #[] #[am B9 0,am Bo 0,am Br 0] ZJ (EO.nil ?_)))));have Ua:=cU.new r [OD] 1 rfl dq;have Z:=Wu.fk (qH r [OD]);generalize Xr:r.add (.cells ([OD].map str).toArray 9)=P at Ua Z;have⟨WQ,v154,Y7,Y8,Y9⟩:=xw (pr:=pr) (s:=P) a  Ua;have f158:=Z.fk Y9;have⟨b,ZK,Wv,_⟩:=kr (a 126 dq) c f158 Y8 [OD] 1 rfl dq iq;refine zr (zg 2 (r.add (.cells ([OD].map str).toArray 9)) (EO.kZ P Xr (zc 0 Y7 (zg 1 (WQ.add (.cells ([OD].map str).toArray 9)) (yc #[] #[am B9 0,am Bo 0,am Br 0] ZK (EO.nil ?_))))));have L:=Wv.fk ((qH b Bx).add (.cells ([[116,114]].map str).toArray 9));have G:=(cU.new b Bx 3 rfl dq).add (.cells ([[116,114]].map str).toArray 9);have H:=cU.new (b.add (.cells (Bx.map str).toArray 9)) [[116,114]] 1 rfl dq;generalize Xs:(b.add (.cells (Bx.map str).toArray 9)).add (.cells ([[116,114]].map str).toArray 9)=u at L G H;refine zr (zg 2 ((b.add (.cells (Bx.map str).toArray 9)).add (.cells ([[116,114]].map str).toArray 9)) (EO.kZ u Xs (zf (za u ?_))));have⟨WR,v173,Zb,Zc,E⟩:=xy (pr:=pr) (s:=u) a [] [] none 0 0 (.inl ⟨rfl,rfl⟩);have B:=L.fk E;have⟨e,ZL,Ww,I⟩:=kr (a 126 dq) c B Zc [Um,V0,VZ,V1] 4 rfl dq iq;refine zr (zc 1 Zb (zg 1 (WR.add (.cells ([Um,V0,VZ,V1].map str).toArray 9)) (yc #[] #[am B9 0,am Bo 0,am Br 0] ZL (EO.nil ?_))));replace G:=B.Ls (G.vT E) I;replace H:=B.Ls (H.vT E) I;have M:=Ww.fk ((aO.refl (K:=λ_=>False) e).add (.cells #[.slice (sq b.nx) 3 3] 62));have kP:rN (e.add (.cells #[.slice (sq b.nx) 3 3] 62)) (.slice (sq e.nx) 1 1) (jm Bx []):=.inr ⟨e.nx,[.slice (sq b.nx) 3 3],rfl,Has.new e _,rfl,λi v l hv hl=>by
  match i with
  | 0=>cases hv;cases hl;exact G.add _
  | i+1=>cases hv⟩;replace G:=G.add (.cells #[.slice (sq b.nx) 3 3] 62);replace H:=H.add (.cells #[.slice (sq b.nx) 3 3] 62);generalize Xt:e.add (.cells #[.slice (sq b.nx) 3 3] 62)=Q at M kP G H;have⟨WS,v190,Zf,Zg,F⟩:=xy (pr:=pr) (s:=Q) a Bx [] (sq e.nx) 1 1 kP;have C:=M.fk F;have⟨g,ZM,Wx,J⟩:=kr (a 126 dq) c C Zg [[116,114]] 1 rfl dq iq;refine zr ?_;refine zg 3 (e.add (.cells #[.slice (sq b.nx) 3 3] 62)) ?_;refine EO.kZ Q Xt ?_;refine zc 0 Zf ?_;refine zg 1 (WS.add (.cells ([[116,114]].map str).toArray 9)) ?_;refine yc #[] #[am B9 0,am Bo 0,am Br 0] ZM ?_;refine EO.nil ?_;replace G:=C.Ls (G.vT F) J;replace H:=C.Ls (H.vT F) J;have N:=Wx.fk ((aO.refl (K:=λ_=>False) g).add (.cells #[.slice (sq b.nx) 3 3,.slice (some ⟨(b.add (.cells (Bx.map str).toArray 9)).nx,0,none⟩) 1 1] 62));have kP:rN (g.add (.cells #[.slice (sq b.nx) 3 3,.slice (some ⟨(b.add (.cells (Bx.map str).toArray 9)).nx,0,none⟩) 1 1] 62)) (.slice (sq g.nx) 2 2) (jm Bx [[116,114]]):=.inr ⟨g.nx,[.slice (sq b.nx) 3 3,.slice (some ⟨(b.add (.cells (Bx.map str).toArray 9)).nx,0,none⟩) 1 1],rfl,Has.new g _,rfl,λi v l hv hl=>by
  match i with
  | 0=>cases hv;cases hl;exact G.add _
  | 1=>cases hv;cases hl;exact H.add _
  | i+2=>cases hv⟩;generalize Xu:g.add (.cells #[.slice (sq b.nx) 3 3,.slice (some ⟨(b.add (.cells (Bx.map str).toArray 9)).nx,0,none⟩) 1 1] 62)=R at N kP;have⟨WT,v207,Zh,Zi,Zj⟩:=xy (pr:=pr) (s:=R) a Bx [[116,114]] (sq g.nx) 2 2 kP;have f211:=N.fk Zj;have⟨t,ZN,Wy,_⟩:=kr (a 126 dq) c f211 Zi [[116,100],[116,104]] 2 rfl dq iq;refine zr ?_;refine zg 4 (g.add (.cells #[.slice (sq b.nx) 3 3,.slice (some ⟨(b.add (.cells (Bx.map str).toArray 9)).nx,0,none⟩) 1 1] 62)) ?_;refine EO.kZ R Xu ?_;refine zc 0 Zh ?_;refine zg 1 (WT.add (.cells ([[116,100],[116,104]].map str).toArray 9)) ?_;refine yc #[] #[am B9 0,am Bo 0,am Br 0] ZN ?_;refine EO.nil ?_;have D:=cU.new t [[97]] 1 rfl dq;have f221:=Wy.fk (qH t [[97]]);generalize Xv:t.add (.cells ([[97]].map str).toArray 9)=S at D f221;have⟨WU,v225,Zk,Zl,Un⟩:=tf (pr:=pr) (s:=S) a  D;have f229:=f221.fk Un;have f230:=D.vT Un;have⟨WV,ZO,Wz,_⟩:=kr (a 126 dq) c f229 Zl [[97]] 1 rfl dq iq;refine zr ?_;refine zg 2 (t.add (.cells ([[97]].map str).toArray 9)) ?_;refine EO.kZ S Xv ?_;refine zc 0 Zk ?_;refine zg 1 (WU.add (.cells ([[97]].map str).toArray 9)) ?_;refine yc #[] #[am B9 0,am Bo 0,am Br 0] ZO ?_;refine EO.nil ?_;have⟨o,v241,Zm,Zn,Zo⟩:=Eo (pr:=pr) (s:=WV) a;have f245:=Wz.fk Zo;have YY:=rr (pr:=pr) (s:=o) (a 137 dq);have YZ:=Ab (pr:=pr) (s:=(o.add (.cells (bq.map str).toArray 9))) (a 138 dq);have⟨S247,Xa,Xb,U,Xc,Xd⟩:=Lq o bq dH 14 13 rfl rfl dq;have f254:=f245.fk U;have f255:=Zn.vT U;have⟨WW,ZP,WA,_⟩:=sr (a 126 dq) c f254 f255 Xb iq;refine zr ?_;refine zc 1 Zm ?_;refine zc 0 YY ?_;refine zc 0 YZ ?_;refine zp (gl (sl:=.slice (sq o.nx) 14 14) (news:=dH.map str) (d:=(o.add (.cells (bq.map str).toArray 9)).nx) (m:=13) (k:=13) (sz:=1) (z:=str []) (bytes:=16) rfl kq kq underlying62 kq rfl dq dq kq Xc.2 Xd dq dq rfl dq Xa) ?_;refine yc #[] #[am B9 0,am Bo 0,am Br 0] ZP ?_;refine EO.nil ?_;have⟨WX,v260,Zp,Zq,Zr⟩:=Eo (pr:=pr) (s:=WW) a;have f264:=WA.fk Zr;have⟨WZ,ZR,WC,_⟩:=kr (a 126 dq) c f264 Zq [[]] 1 rfl dq iq;refine zr ?_;refine zc 1 Zp ?_;refine zg 1 (WX.add (.cells ([[]].map str).toArray 9)) ?_;refine yc #[] #[am B9 0,am Bo 0,am Br 0] ZR ?_;refine EO.nil ?_;have⟨W1,v274,Zs,Zt,Zu⟩:=Mw (pr:=pr) (s:=WZ) a;have f278:=WC.fk Zu;have⟨S284,ZS,WG,_⟩:=kr (a 126 dq) c f278 Zt Jm 3 rfl dq iq;refine zx ?_;refine zc 1 Zs ?_;refine zg 1 (W1.add (.cells (Jm.map str).toArray 9)) ?_;refine yc #[] #[am B9 0,am Bo 0,am Br 0] ZS ?_;refine EO.nil ?_;exact⟨.inl rfl,kq,WG⟩
end
end Go.Proofs.YtgcaionclkbehaaGreatDoor
