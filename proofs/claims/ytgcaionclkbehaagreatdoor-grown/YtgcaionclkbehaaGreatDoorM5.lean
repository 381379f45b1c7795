import Derived.Test.YtgcaionclkbehaaGreatDoorL3
set_option linter.all false
set_option maxHeartbeats 2000000
set_option maxRecDepth 100000
namespace Go.Proofs.YtgcaionclkbehaaGreatDoor
open Go.Conc Go.RowKit Go.Lib Tryz
variable {l:List bY}{B cp i k off:Nat}{x:bY}{u:Nd}{g:Bool}{n1 nm tr v1 vl:Bq}{av v:Value}{aF:fF}
theorem Gm(h:l[i]?=some x)(t:Bq):(aY l).setIfInBounds (i*5+3) (str t)=aY (l.set i { x with text:=t }):=by
 rw[List.setIfInBounds_toArray];congr 1;induction l generalizing i with
 | nil=>simp at h
 | cons y l a =>
  match i with
  | 0 =>simp at h;subst h;rfl
  | i+1 =>
   have h:l[i]?=some x:=by simpa using h
   have U:y.cells.length=5:=rfl;grind
theorem GF{cs:Aq}(h:off+1<=cs.size)(w:Value):putAt cs off [w]=cs.setIfInBounds off w:=by apply uX.1;rw[Array.toList_setIfInBounds,List.set_eq_take_append_cons_drop,ip gq];simp[putAt]
def TS.join(σ:TS)(tx:Bq):TS:={ σ with nodes:=σ.nodes.set (σ.nodes.length-1) { σ.kQ (σ.nodes.length-1) with text:=(σ.kQ (σ.nodes.length-1)).text++tx } }
def TS.words(σ:TS)(tx:Bq):TS:=if (σ.kQ (σ.nodes.length-1)).kind=2/\(σ.kQ (σ.nodes.length-1)).parent=((σ.cur:Nat):Int) then σ.join tx else σ.put ⟨2,0,[],tx,[]⟩
variable {s s':AS}{b:Nat}{σ:TS}{pr:Prim}{tx:Bq}
section
theorem Qw(a3:pr 315=none)(a1:pr 232=none)(h:BX s b σ)(Y:σ.nodes[σ.nodes.length-1]?=some u)(h2:u.kind=2)(a7:u.parent=((σ.cur:Nat):Int))(hl:u.text.length+tx.length<=1000000000):∃Z,Ef pr 315 #[am b 0,str tx] s (.tuple #[]) Z/\BX Z b (σ.join tx)/\bG b s Z:=by
 have a6:σ.kQ (σ.nodes.length-1)=u:=by unfold TS.kQ;rw[tS,Y];rfl
 unfold TS.join;rw[a6];have⟨nv,rv,av,e,h⟩:=h;have X:=h.sz;have hc:=tH a1 h;have⟨c,B,o,x,n,d,A,V,F⟩:=h.node Y;have⟨C,M,O,rf,W,Mc,H,D,Sa⟩:=h.r.at (TS.lX h.ne);have p:=h.b;rw[n,W] at p;have E:(aY e)[(σ.nodes.length-1)*5+0]?=some (num u.kind):=by rw[dt A 0 dq,<-V.1];rfl
 have a4:(aY e)[(σ.nodes.length-1)*5+1]?=some (num u.parent):=by rw[dt A 1 dq,<-V.2.1];rfl
 have a5:(aY e)[(σ.nodes.length-1)*5+3]?=some (str u.text):=by rw[dt A 3 dq,<-V.2.2.2.1];rfl
 have l1:=bE (P:=prog) (t:=38) underlying38 rfl p.2 (off:=0) rfl;have l2:=bE (P:=prog) (t:=25) underlying25 rfl p.2 (off:=1) rfl;have l3:=bE (P:=prog) (t:=3) underlying3 rfl d.2 E;have l4:=bE (P:=prog) (t:=3) underlying3 rfl d.2 a4;have l5:=bE (P:=prog) (t:=3) underlying3 rfl H.2 D;have S:((σ.row.length:Nat):Int)-1=((σ.row.length-1:Nat):Int):=oq
 rw[S] at hc;have a0:=Gm A (u.text++tx);have G:(σ.nodes.length-1)*5+3+1<=(aY e).size:=(oK.1 a5).1;have w:aO (λy=>y=c) s (s.set c (some (.cells (aY (e.set (σ.nodes.length-1) { x with text:=u.text++tx })) 44 o))):=aO.set (K:=λy=>y=c) (aO.refl s) (λ_=>rfl) _;have g:∀{y:Nat} {O:Aq} {t:TypeId} {fz:Nat × Nat},Has s y (.cells O t fz)->t≠44->y≠c:=λU ht=>U.ne d ht;have g1:=h.b.fr w (g h.b dq);have g2:=d.put (.cells (aY (e.set (σ.nodes.length-1) { x with text:=u.text++tx })) 44 o);have g3:=h.m.fk w λy O fz U=>g U dq;have g4:=h.r.fk w λy U=>by have⟨_,_,z⟩:=h.r.blk U;exact g z dq
 have g5:=h.a.fk w λy U=>by have⟨_,_,z⟩:=h.a.blk U;exact g z dq
 have g6:fJ (s.set c (some (.cells (aY (e.set (σ.nodes.length-1) { x with text:=u.text++tx })) 44 o))) (e.set (σ.nodes.length-1) { x with text:=u.text++tx }) (σ.nodes.set (σ.nodes.length-1) { u with text:=u.text++tx }):=by
  refine⟨by rw[List.length_set,List.length_set];exact g3.1,λi y v U I=>?_⟩;rw[List.getElem?_set] at U I;by_cases hi:σ.nodes.length-1=i
  .subst hi;rw[ip rfl,ip (show σ.nodes.length-1<e.length by rw[g3.1];exact F)] at U;rw[ip rfl,ip F] at I;cases U;cases I;have⟨q1,q2,q3,q4,q5⟩:=g3.2 _ _ _ A Y;exact⟨q1,q2,q3,rfl,q5⟩
  .rw[iw hi] at U I;exact g3.2 i y v U I
 have L:BT (s.set c (some (.cells (aY (e.set (σ.nodes.length-1) { x with text:=u.text++tx })) 44 o))) b nv rv av (e.set (σ.nodes.length-1) { x with text:=u.text++tx }) { σ with nodes:=σ.nodes.set (σ.nodes.length-1) { u with text:=u.text++tx } }:=by
  refine⟨h.sp.set A rfl rfl,g1,⟨c,B,o,by rw[List.length_set,h.m.1];exact n,g2⟩,g6,g4,g5,h.ra,λk T=>?_,λk T=>?_,h.ne,?_,X.2⟩
  .show k<(σ.nodes.set _ _).length;rw[List.length_set];exact h.lt k T
  .show k<(σ.nodes.set _ _).length;rw[List.length_set];exact h.la k T
  .grind
 have n2:bG b s (s.set c (some (.cells (aY (e.set (σ.nodes.length-1) { x with text:=u.text++tx })) 44 o))):=bG.mk' h.b g1 (w.mono λy _ z=>(KB.at h.b.2).2 (.inr (.inl (by rw[z,n];exact dj _ _ _)))) (.inl rfl) (.inl λ_ z=>z) (.inl λ_ z=>z);rw[<-a0,<-GF G] at L n2;generalize { σ with nodes:=σ.nodes.set (σ.nodes.length-1) { u with text:=u.text++tx } }=τ at L |-;generalize e.set (σ.nodes.length-1) { x with text:=u.text++tx }=So at L;clear a0 g6 g3 g2 w g1 g4 g5;generalize σ.cur=Q at *;generalize hR1:σ.row.length-1=J at *;generalize hR:σ.row.length=R at *;generalize hN1:σ.nodes.length-1=f at *;generalize hNN:σ.nodes.length=N at *;refine EF.iy a3 func315 rfl ?_;refine EW.seq (EW.draw kq kq kq ?_);iterate 3 refine zq ?_
 refine zt s (zu (yl b 0 (.slice (sq c) N B) p.2) ?_);iterate 3 refine zq ?_
 refine zt s (zu (yl b 0 (.slice (sq c) N B) p.2) (zq (zu (gJ (i:=((N:Nat):Int)) (j:=1) (r:=((f:Nat):Int)) rfl kq kq oq oq) (zu (yi c 0 N B (f*5) none .i64 (f:Nat) 5 oq oq oq) (zq (ET.nil ⟨aI [(aB prog 38 (am b 0) s,.slice (sq c) N B),(aB prog 38 (am b 0) s,.slice (sq c) N B)] kq (iD ⟨l1,rfl⟩ ⟨l1,rfl⟩),_,_,_,_,_,_,rfl,rfl,?_⟩))))));refine za s (EW.seq (EW.seq (EW.draw kq kq kq ?_)));iterate 3 refine zq ?_
 refine zt s (zu (bw (b:=c) (off:=f*5+0) (v:=num u.kind) rfl underlying3 rfl kq d.2 E) (zu (yb (num u.kind) (num 2) (dk (b:=true) (beq_iff_eq.2 h2))) ?_));iterate 4 refine zq ?_
 refine zt s (zu (bw (b:=c) (off:=f*5+1) (v:=num u.parent) rfl underlying3 rfl kq d.2 a4) ?_);iterate 3 refine zq ?_
 refine zt s (zu (yl b 1 (.slice (sq C) R M) p.2) (zq (zt s (yt hc (zu (yi C 0 R M J none .i64 (J:Nat) 1 oq oq oq) (zt s (zu (bw (b:=C) (off:=J) (v:=num (Q:Nat)) rfl underlying3 rfl kq H.2 D) (zu (yb (num u.parent) (num (Q:Nat)) (dk (b:=true) (beq_iff_eq.2 a7))) (zq (ET.nil ⟨aI [(aB prog 3 (am c (f*5+0)) s,num u.kind),(aB prog 3 (am c (f*5+1)) s,num u.parent),(aB prog 3 (am c (f*5+1)) s,num u.parent),(aB prog 25 (am b 1) s,.slice (sq C) R M),(aB prog 25 (am b 1) s,.slice (sq C) R M),(aB prog 3 (am C J) s,num (Q:Nat))] kq (Ue ⟨l3,rfl⟩ ⟨l4,rfl⟩ ⟨l4,rfl⟩ ⟨l2,rfl⟩ ⟨l2,rfl⟩ ⟨l5,rfl⟩),_,_,_,_,_,_,rfl,rfl,?_⟩))))))))));exact za s (zH (zr (zg 3 s (zp (bw (b:=c) (off:=f*5+3) (v:=str u.text) rfl underlying9 rfl kq d.2 a5) (zk 1 (zp (EA (l:=u.text) (m:=tx) rfl kq kq hl) (zg 2 s (zp (ys c (f*5+3) (str (u.text++tx)) d.2 G) (EO.nil (za (s.set c (some (.cells (putAt (aY e) (f*5+3) [str (u.text++tx)]) 44 o))) (EW.ret ⟨.inr rfl,kq,⟨_,_,_,_,L⟩,n2⟩)))))))))))
theorem uS(d:pr 315=none)(f:pr 217=none)(U:pr 232=none)(h:BX s b σ)(i:σ.nodes.length<400000000)(j:(σ.kQ (σ.nodes.length-1)).text.length+tx.length<=1000000000)(g:σ.nodes≠[]):∃c,Ef pr 315 #[am b 0,str tx] s (.tuple #[]) c/\BX c b (σ.words tx)/\bG b s c:=by
 have k:σ.nodes.length-1<σ.nodes.length:=by have:=Eg.2 g;omega
 have e:σ.nodes[σ.nodes.length-1]?=some (σ.kQ (σ.nodes.length-1)):=by unfold TS.kQ;grind
 unfold TS.words;by_cases a:(σ.kQ (σ.nodes.length-1)).kind=2/\(σ.kQ (σ.nodes.length-1)).parent=((σ.cur:Nat):Int)
 .rw[ip a];exact Qw d U h e a.1 a.2 j
 .rw[iw a];exact NU d f U h e (λh1 h2=>a ⟨h1,h2⟩) i
end
variable {t:gp}
section
variable {aF:fF}
def aK.O7(a:∀f,f∈dJ->pr f=none)(c:∀k∈σ.again,gM (σ.kQ k).name=false)(p:σ.nodes.length+50<400000000):aK pr b t aF ⟨238,[],[]⟩ σ σ.du true:=by refine aK.go (a 238 dq) func238 rfl λs S x w z d g y i h v q A r e B u=>?_;subst v;have⟨F,l,C,D,E,j,_⟩:=r;cases l;obtain rfl:=j dq;have⟨U,m,n,o⟩:=Dm (a 239 dq) (a 223 dq) (a 217 dq) (a 232 dq) e c p;refine zs (za (s.add (dF ⟨w,z,d,.slice g y i,h⟩)) ?_);rw[q];exact zr (zc 1 m (EO.nil (za U (zs (za U (EW.ret ⟨.inr rfl,kq,n,o⟩))))))
end
abbrev gg:Bq:=[104,101,97,100]
abbrev pd:Bq:=[98,111,100,121]
def TS.im(σ:TS)(aF:fF):TS:={ σ.open_ gg aF with w:=1 }
def TS.gT(σ:TS):TS:={ (σ.cQ (cD σ [gg])).open_ pd [] with w:=2 }
def TS.cu(σ:TS):TS:=if σ.w=2 then σ else if σ.w=0 then (σ.im []).gT else σ.gT
def pz(σ:TS)(j:Int):(σ.cQ j).nodes=σ.nodes:=by unfold TS.cQ TS.eE;split<;>rfl
section
variable {aF:fF}
def Ds(dD:∀f,f∈dJ->pr f=none)(P8:pr 320=none)(js:pr 127=bu 127)(h:BX s b σ)(h0:cD σ [gg]≠0)(hag:σ.again.length<=50000)(hN:σ.nodes.length<400000000)(x:Nq) :
  Ew pr (match Tryz.f120.body with|some (.seq _ (.seq _ c))=>c|_=>.skip) ([am b 0]++gD x 1 23) s (λe a' s1=>(e=.normal\/e=.ret)/\c8 prog Tryz.f120 a' s1=some (.tuple #[])/\BX s1 b σ.gT/\bG b s s1):=by have⟨nv,rv,av,xs,h⟩:=h;have Bv:=jR σ [gg];have e1:=h.add (.cells ([gg].map str).toArray 9);have e2:=bG.add h (.cells ([gg].map str).toArray 9);have e3:=uh (dD 222 dq) (dD 231 dq) (dD 232 dq) js e1 (cU.new s [gg] 1 rfl dq);have⟨U,f1,f2,f3⟩:=mS dD P8 js ⟨_,_,_,_,e1⟩ h0 Bv.1 Bv.2 hag;have⟨nu,ru,au,xu,fu⟩:=f2;obtain⟨V,g1,⟨Se,U3,Xj,So,g2⟩,g3⟩:=xM (dD 223 dq) (dD 217 dq) (dD 232 dq) fu (nm:=pd) (at_:=aD) (aF:=[]) (.inl ⟨rfl,rfl⟩) (Hh.nil _ _) (by rw[pz];exact hN);have⟨k1,k2⟩:=g2.U7 2;unfold TS.gT;generalize hS:s.add (.cells ([gg].map str).toArray 9)=S at *;generalize cD σ [gg]=j at *;refine zr (zk 3 (zo (s.add (.cells ([gg].map str).toArray 9)) ?_));rw[hS];exact zc 0 e3 (zc 0 f1 (EO.nil (za U (zr (zc 1 g1 (EO.nil (za V (zx (zg 3 V (zp (ys b 3 (num 2) g2.b.2 iq) (EO.nil ⟨.inl rfl,kq,⟨_,_,_,_,k1⟩,((e2.trans f3).trans g3).trans k2⟩)))))))))))
theorem w5(U:∀f,f∈dJ->pr f=none)(j:pr 320=none)(i:pr 127=bu 127)(h:BX s b σ)(a:σ.w=0\/σ.w=1\/σ.w=2)(l:σ.w=1->cD σ [gg]≠0)(h1:σ.w=0->cD (σ.im []) [gg]≠0)(k:σ.again.length<=50000)(t:σ.nodes.length+2<400000000) :
  ∃g,Ef pr 120 #[am b 0] s (.tuple #[]) g/\BX g b σ.cu/\bG b s g:=by
 have d:=h;have⟨u,v,r,B,h⟩:=h;have c:=h.b;unfold TS.cu;rcases a with a|a|a
 .rw[iw gq,ip a];have⟨S,m,n,o⟩:=Ci (U 220 dq) (U 223 dq) (U 217 dq) (U 232 dq) d (.inl ⟨rfl,rfl⟩) (λy z=>(bR z).elim) oq;have q:=Ds U j i n (h1 a) k (by show(σ.nodes++[_]).length<400000000;rw[lA,List.length_singleton];omega);rw[a] at c;refine EF.iy (U 120 dq) func120 rfl (EW.seq (zr (zg 3 s (zp (yl b 3 (num 0) c.2) (zf (za s (zF (EW.seq (zr (zg 3 s (zp (yl b 3 (num 0) c.2) (zf (za s (zH (zx (zc 1 m (EO.nil (za S (EW.fill (λx=>[am b 0]++gD x 1 23) kq ?_)))))))))))))))))));intro x;exact EW.mono (q x) λe p A z=>⟨z.1,z.2.1,z.2.2.1,o.trans z.2.2.2⟩
 .rw[iw gq,iw gq];have q:=Ds U j i d (l a) k oq;rw[a] at c;refine EF.iy (U 120 dq) func120 rfl ?_;iterate 2
   refine EW.seq (zr ?_)
   refine zg 3 s ?_
   refine zp (yl b 3 (num 1) c.2) ?_
   refine zf ?_
   refine za s ?_
   refine zF ?_
  refine EW.fill (λx=>[am b 0]++gD x 1 23) kq ?_;intro x;exact q x
 .rw[ip a];exact⟨s,Ly U d a,d,bG.refl s⟩
def aK.Oe(d:∀f,f∈dJ->pr f=none)(c:pr 320=none)(a:pr 127=bu 127)(A:σ.w=0\/σ.w=1\/σ.w=2)(q:σ.w=1->cD σ [gg]≠0)(h1:σ.w=0->cD (σ.im []) [gg]≠0)(e:σ.again.length<=50000)(r:σ.nodes.length+2<400000000):aK pr b t aF ⟨229,[],[]⟩ σ σ.cu true:=by refine aK.go (d 229 dq) func229 rfl λs S x B D g i C k j z u E v h F y=>?_;subst z;have⟨J,m,G,H,I,l,_⟩:=v;cases m;obtain rfl:=l dq;have⟨U,n,o,p⟩:=w5 d c a h A q h1 e r;refine zs (za (s.add (dF ⟨B,D,g,.slice i C k,j⟩)) ?_);rw[u];exact zr (zc 1 n (EO.nil (za U (zs (za U (EW.ret ⟨.inr rfl,kq,o,p⟩))))))
def aK.Xg(a:∀f,f∈dJ->pr f=none):aK pr b t aF ⟨240,[],[]⟩ σ σ true:=by refine aK.go (a 240 dq) func240 rfl λs S x o q c e p h g n k r l d u m=>?_;subst n;have⟨z,j,v,w,y,i,_⟩:=l;cases j;obtain rfl:=i dq;refine zs (za (s.add (dF ⟨o,q,c,.slice e p h,g⟩)) ?_);rw[k];exact zs (za S (EW.ret ⟨.inr rfl,kq,d,bG.refl S⟩))
end
def TS.l9(σ:TS):TS:=if σ.w=0 then σ.im [] else σ
section
variable {aF:fF}
def aK.Mi(a:∀f,f∈dJ->pr f=none)(d:pr 127=bu 127)(Y:σ.w=0\/σ.w=1\/σ.w=2)(h:gM t.name=false)(X:σ.nodes.length+2<400000000):aK pr b t aF ⟨227,[],[]⟩ σ (σ.l9.e9 t.name aF) false:=by
 refine aK.go (a 227 dq) func227 rfl λs S x n p c i o k j M E q L g D e=>?_;subst M;have⟨Z,K,T,V,W,J,_⟩:=L;cases K;obtain rfl:=J dq;unfold TS.l9;by_cases l:σ.w=0
 .rw[ip l];have⟨C,O,P,B⟩:=Ci (a 220 dq) (a 223 dq) (a 217 dq) (a 232 dq) g (.inl ⟨rfl,rfl⟩) (λy z=>(bR z).elim) oq;have G:=q.fr B.1 (g.no q dq dq dq);have H:=D.fb e g B;have⟨U,r,u,v⟩:=nY (a 228 dq) (a 138 dq) d (a 223 dq) (a 217 dq) (a 232 dq) P H (λy z=>⟨e y z,h⟩) (by show(σ.nodes++[_]).length<400000000;rw[lA,List.length_singleton];omega);have⟨N,Q,I,R,A⟩:=g;have m:=A.b;rw[l] at m;refine zs (za (s.add (dF ⟨n,p,c,.slice i o k,j⟩)) ?_);rw[E];exact EW.seq (zr (zg 3 S (zp (yl b 3 (num 0) m.2) (zf (za S (zH (zx (zc 1 O (EO.nil (za C (zr (zg 1 C (zp (yA s.nx 0 5 ((dU ⟨n,p,c,.slice i o k,j⟩).toArray) G.2 iq) (zc 0 r (EO.nil (za U (zs (za U (EW.ret ⟨.inr rfl,kq,u,B.trans v⟩)))))))))))))))))))
 .rw[iw l];have⟨U,r,u,v⟩:=nY (a 228 dq) (a 138 dq) d (a 223 dq) (a 217 dq) (a 232 dq) g D (λy z=>⟨e y z,h⟩) oq;have⟨N,Q,I,R,A⟩:=g;have m:=A.b;generalize σ.w=F at *;refine zs (za (s.add (dF ⟨n,p,c,.slice i o k,j⟩)) ?_);rw[E];exact EW.seq (zr (zg 3 S (zp (yl b 3 (num F) m.2) (zp (yb (num F) (num 0) (dk (bF.2 l))) (EO.nil (za S (zF (zr (zg 1 S (zp (yA s.nx 0 5 ((dU ⟨n,p,c,.slice i o k,j⟩).toArray) q.2 iq) (zc 0 r (EO.nil (za U (zs (za U (EW.ret ⟨.inr rfl,kq,u,v⟩))))))))))))))))
def aK.Ty(a:∀f,f∈dJ->pr f=none)(e:σ.w≠0):aK pr b t aF ⟨226,[],[]⟩ σ σ false:=by refine aK.go (a 226 dq) func226 rfl λs S x v z c j y l k u o A q d B r=>?_;subst u;have⟨I,n,D,E,F,m,_⟩:=q;cases n;obtain rfl:=m dq;have i:=d;have⟨G,H,C,J,p⟩:=d;have g:=p.b;generalize σ.w=h at g e;refine zs (za (s.add (dF ⟨v,z,c,.slice j y l,k⟩)) ?_);rw[o];exact EW.seq (zr (zg 3 S (zp (yl b 3 (num h) g.2) (zp (yb (num h) (num 0) (dk (bF.2 e))) (EO.nil (za S (zF (zs (za S (EW.ret ⟨.inr rfl,kq,i,bG.refl S⟩))))))))))
def aK.Ic(a:∀f,f∈dJ->pr f=none)(e:pr 127=bu 127){l:List (Bq)}(G:σ.nodes[σ.cur]?=some u)(D:aH u.name l=false):aK pr b t aF ⟨230,l,[]⟩ σ σ true:=by
 refine aK.go (a 230 dq) func230 rfl λs S x K N h o M r p F z O C i P E=>?_;subst F;have⟨x',y,T,w,U,V,_⟩:=C;cases y;obtain⟨B,v,rfl,j,A⟩:=w rfl;have m:=i;have⟨Z,rv,Q,xs,g⟩:=i;have Y:=g.sz;have H:0<σ.row.length:=Eg.2 g.ne;have g1:=tH (a 232 dq) g;have g2:=Cx (a 231 dq) g (TS.lX g.ne) G;obtain⟨I,d,c,W,rfl,J⟩:=A;have g3:=oL e (Hc:=l) (d:=d) (c:=c) J.2 I (bb:=false) D;have e1:((σ.row.length:Nat)-1:Int)=((σ.row.length-1:Nat):Int):=oq
 rw[e1] at g1;have L:=bE underlying62 rfl j.2 (off:=0) rfl;generalize X:σ.row.length-1=R at *;generalize l.length=n at *;refine zs (za (s.add (dF ⟨K,N,h,.slice o M r,p⟩)) ?_);rw[z];refine EW.seq (EW.seq (EW.draw kq kq kq ?_));iterate 2 refine zq ?_
 refine zt S (yt g1 (yt g2 (zu (yl B 0 (.slice (sq d) n c) j.2) (yt g3 (ET.nil ⟨aI [(aB prog 62 (am B 0) S,.slice (sq d) n c),(aB prog 62 (am B 0) S,.slice (sq d) n c),(aB prog 62 (am B 0) S,.slice (sq d) n c)] kq (by intro x k;simp only[nk,vh,or_false,or_self] at k;subst k;exact⟨L,rfl⟩),_,_,_,_,_,_,rfl,rfl,?_⟩)))));exact za S (zF (zs (za S (EW.ret ⟨.inr rfl,kq,m,bG.refl S⟩))))
end
theorem Ak(σ:TS):σ.du.nodes.length<=σ.nodes.length+40:=by have:=(Iz (σ.again.take (40-σ.row.length)) σ).2.2.1;show(List.foldl TS.eu σ (σ.again.take (40-σ.row.length))).nodes.length<=_;grind
def qQ(σ:TS):σ.gT.nodes.length=σ.nodes.length+1:=by show(((σ.cQ (cD σ [gg])).nodes)++[_]).length=_;rw[pz,lA,List.length_singleton]
theorem pR(σ:TS):σ.cu.nodes.length<=σ.nodes.length+2:=by
 unfold TS.cu;split
 .omega
 .split
  .rw[qQ];show(σ.nodes++[_]).length+1<=_;grind
  .rw[qQ];omega
def TS.fin(σ:TS)(tr tx:Bq):TS:=(if tr=[] then σ else σ.du).words tx
def TS.text(σ:TS)(tr tl:Bq->Bq)(tx:Bq):TS :=
 if aH (nameAt σ (σ.row.length-1)) mf=true then σ.words tx
 else if σ.w=2 then σ.fin (tr tx) tx
 else if tl tx=[] then σ else σ.cu.fin (tr (tl tx)) (tl tx)
section
theorem BX.ur(h:BX s b σ):σ.nodes≠[]:=by
 have⟨_,_,_,_,h⟩:=h;intro e;have⟨k,l,a⟩:=List.exists_cons_of_ne_nil h.ne
 have:=h.lt k gq;rw[e] at this;simp at this
def E1(XH:pr 239=none)(XG:pr 223=none)(Ta:pr 315=none)(P6:pr 217=none)(P7:pr 232=none)(XE:∀s,Ef pr 198 #[str tx,str Cu] s (str tr) s)(h:BX s b σ)(Tz:∀k∈σ.again,gM (σ.kQ k).name=false)(hN:σ.nodes.length+60<400000000)(hx:tx.length<=400000000)(h1:(σ.kQ (σ.nodes.length-1)).text.length<=500000000)(h2:(σ.du.kQ (σ.du.nodes.length-1)).text.length<=500000000)(x:Nq) :
  Ew pr (match Tryz.f216.body with|some (.seq _ (.seq _ c))=>c|_=>.skip) ([am b 0,str tx]++gD x 2 30) s (λe a' s1=>(e=.normal\/e=.ret)/\c8 prog Tryz.f216 a' s1=some (.tuple #[])/\BX s1 b (σ.fin tr tx)/\bG b s s1):=by
 have hol:=Ak σ;have⟨V,e1,e2,e3⟩:=uS (tx:=tx) Ta P6 P7 h oq oq h.ur;have⟨U,f1,f2,f3⟩:=Dm XH XG P6 P7 h Tz oq;have⟨V2,g1,g2,g3⟩:=uS (tx:=tx) Ta P6 P7 f2 oq oq f2.ur;unfold TS.fin;refine EW.seq (zr (zc 1 (XE s) ?_));by_cases Sd:tr=[]
 .subst Sd;rw[ip rfl];exact zf (za s (zF (zx (zc 2 e1 (EO.nil ⟨.inl rfl,kq,e2,e3⟩)))))
 .rw[iw Sd];exact zp (aQ (u:=str tr) (w:=str []) rfl kq kq (by unfold dw;simp only;rw[kv Sd])) (EO.nil (za s (zH (zx (zc 1 f1 (EO.nil (za U (zx (zc 2 g1 (EO.nil ⟨.inl rfl,kq,g2,f3.trans g3⟩))))))))))
theorem NH(a:∀f,f∈dJ->pr f=none)(J:pr 320=none)(y:pr 127=bu 127){tr tl:Bq->Bq}(H:∀s,Ef pr 198 #[str tx,str Cu] s (str (tr tx)) s)(G:∀s,Ef pr 198 #[str (tl tx),str Cu] s (str (tr (tl tx))) s)(I:∀s,Ef pr 316 #[str tx,str Cu] s (str (tl tx)) s)
 (h:BX s b σ)(A:∀j,j∈[σ,σ.cu]->∀k∈j.again,gM (j.kQ k).name=false)(hN:σ.nodes.length+70<400000000)(Y:tx.length<=400000000)(L:(tl tx).length<=400000000)(n:∀j,j∈[σ,σ.du,σ.cu,σ.cu.du]->(j.kQ (j.nodes.length-1)).text.length<=500000000)
 (X:σ.w=0\/σ.w=1\/σ.w=2)(T:σ.w=1->cD σ [gg]≠0)(h1:σ.w=0->cD (σ.im []) [gg]≠0)(K:σ.again.length<=50000) :
  ∃r,Ef pr 216 #[am b 0,str tx] s (.tuple #[]) r/\BX r b (σ.text tr tl tx)/\bG b s r:=by
 have⟨nv,rv,av,xs,h⟩:=h;have C:0<σ.row.length:=Eg.2 h.ne;have p:=tH (a 232 dq) h;have g:=h.name (pr:=pr) (a 231 dq) (i:=σ.row.length-1) oq;rw[show((σ.row.length:Nat):Int)-1=((σ.row.length-1:Nat):Int) by omega] at p;unfold TS.text;generalize nameAt σ (σ.row.length-1)=D at g |-;generalize σ.row.length-1=R1 at p g;have W:=Gl (s:=s) (a 314 dq);have t:=h.add (.cells (mf.map str).toArray 9);have m:=bG.add h (.cells (mf.map str).toArray 9);have B:=(cU.new s mf 4 rfl dq).is (pr:=pr) y D;generalize s.add (.cells (mf.map str).toArray 9)=S at *;have o:=t.b;have c:BX S b σ:=⟨_,_,_,_,t⟩;have⟨V,e1,N,O⟩:=uS (tx:=tx) (a 315 dq) (a 217 dq) (a 232 dq) c oq gq c.ur;generalize aH D mf=M at B |-;refine EF.iy (a 216 dq) func216 rfl ?_;refine EW.seq (zr (zc 2 p (zc 0 g (zc 0 W (zc 0 B (EO.nil (za S ?_)))))));cases M with
 | true =>rw[ip rfl];refine zH (zr (zc 2 e1 (EO.nil (za V ?_))));exact EW.ret ⟨.inr rfl,kq,N,m.trans O⟩
 | false =>
  rw[iw dq];refine zF ?_;by_cases h2:σ.w=2
  .rw[ip h2];rw[h2] at o;have q:=E1 (tx:=tx) (a 239 dq) (a 223 dq) (a 315 dq) (a 217 dq) (a 232 dq) H c (A _ iq) oq Y (n _ iq) (n _ iq);refine EW.seq (zr (zg 3 S (zp (bw (b:=b) (off:=3) (v:=num 2) rfl underlying181 rfl kq o.2 rfl) (zf (za S (zF (EW.fill (λx=>[am b 0,str tx]++gD x 2 30) kq ?_)))))));intro x;exact EW.mono (q x) λe F Z z=>⟨z.1,z.2.1,z.2.2.1,m.trans z.2.2.2⟩
  .rw[iw h2];have ab:=pR σ;have⟨U,P,Q,R⟩:=w5 a J y c X T h1 K oq;generalize σ.w=E at o h2;refine EW.seq (zr (zg 3 S (zp (bw (b:=b) (off:=3) (v:=num E) rfl underlying181 rfl kq o.2 rfl) (zp (aQ (u:=num E) (w:=num 2) rfl kq kq (cM (b:=true) gq)) (EO.nil (za S (zH (zr (zc 1 (I S) (zf (za S ?_)))))))))));by_cases d:tl tx=[]
   .rw[ip d];rw[d];exact EW.seq (zr (zf (za S (zH (EW.ret ⟨.inr rfl,kq,c,m⟩)))))
   .rw[iw d];have q:=E1 (tx:=tl tx) (a 239 dq) (a 223 dq) (a 315 dq) (a 217 dq) (a 232 dq) G Q (A _ iq) oq L (n _ iq) (n _ iq);generalize tl tx=l at *;refine EW.seq (zr (zk 1 (zp (aQ (u:=str l) (w:=str []) rfl kq kq (by unfold dw;simp only;rw[kv d])) (EO.nil (za S (zF (zx (zc 1 P (EO.nil (za U (EW.fill (λx=>[am b 0,str l]++gD x 2 30) kq ?_)))))))))));intro x;exact EW.mono (q x) λe F Z z=>⟨z.1,z.2.1,z.2.2.1,(m.trans R).trans z.2.2.2⟩
end
def Va(b n:Nat)(v:Value)(x:Nq):TL:=[am b 0,v,x 2,am n 0]++gD x 4 28
variable {jA:TS}
section
variable {aF:fF}
def KA(a:∀f,f∈dJ->pr f=none)(m:pr 127=bu 127)(hw:σ.w≠2){p BC:TS}(M:cZ pr b t aF (bM t.name j0) σ BC true)(hr:cZ pr b t aF (bM t.name ek) BC p g)(J:g=true->gM t.name=false)(hN:p.nodes.length<400000000):eH pr 218 b t aF σ (if g then p.e9 t.name aF else p):=by
 intro o s h D;have⟨j,l,k,G,i⟩:=t;have D:bS s G aF:=D;have⟨c,d,I⟩:=D.len;subst I;generalize aF.length=e at *;have r:=h.add (dF ⟨j,l,k,.slice c e d,i⟩);have x:=Has.new s (dF ⟨j,l,k,.slice c e d,i⟩);have v:=(aO.refl (K:=λ_=>False) s).add (dF ⟨j,l,k,.slice c e d,i⟩);have N:=(h.fk v).2;have O:bS (s.add (dF ⟨j,l,k,.slice c e d,i⟩)) (.slice c e d) aF:=D.fk v λ_ _=>id;generalize hS:s.add (dF ⟨j,l,k,.slice c e d,i⟩)=S at *;have⟨T,f1,B,C⟩:=y8 (s:=S) a (F:=65) (jo:=j0) (λz=>AK a m z) (t:=⟨j,l,k,.slice c e d,i⟩) o r O M;have A:=x.fr C.1 (r.no x dq dq dq);have Q:bS T (.slice c e d) aF:=O.fb o r C;have⟨U,g1,g2,g3⟩:=y8 (s:=T) a (F:=68) (jo:=ek) (λz=>AM a m z) (t:=⟨j,l,k,.slice c e d,i⟩) o B Q hr;have X:=A.fr g3.1 (B.no A dq dq dq);have Y:bS U (.slice c e d) aF:=Q.fb o B g3;have L:=λhg:g=true=>nY (a 228 dq) (a 138 dq) m (a 223 dq) (a 217 dq) (a 232 dq) g2 (t:=⟨j,l,k,.slice c e d,i⟩) Y (λy z=>⟨o y z,J hg⟩) hN;have⟨nv,rv,av,xs,R⟩:=r;have E:=R.b;have r:BX S b σ:=⟨_,_,_,_,R⟩;have l1:=bE (P:=prog) (t:=181) underlying181 rfl E.2 (off:=3) rfl;have l2:=bE (P:=prog) (t:=112) underlying112 rfl E.2 (off:=4) rfl;have l3:=gN (P:=prog) (t:=60) (n:=5) underlying60 rfl kq x.2 (off:=0) (jl 5);have⟨Se,U3,W,So,H⟩:=B;have u:=H.b;have m2:=bE (P:=prog) (t:=112) underlying112 rfl u.2 (off:=6) rfl;have m3:=gN (P:=prog) (t:=60) (n:=5) underlying60 rfl kq A.2 (off:=0) (jl 5);generalize hww:σ.w=w at *;generalize BC.w=w2 at *;refine EF.iy (a 218 dq) func218 rfl ?_;refine zs (za (s.add (dF ⟨j,l,k,.slice c e d,i⟩)) ?_);rw[hS];refine EW.seq (EW.seq (EW.draw kq kq kq ?_));iterate 3 refine zq ?_
 refine zt S (zu (yl b 3 (num w) E.2) (zu (yb (num w) (num 2) (cM (b:=true) (bne_iff_ne.2 hw))) ?_));iterate 6 refine zq ?_
 refine zt S (zu (yl b 4 (c9 65) E.2) (zu (yA s.nx 0 5 #[num j,str l,str k,.slice c e d,.bool i] x.2 iq) (yt f1 ?_)));iterate 2 refine zq ?_
 refine ET.nil ⟨aI [(aB prog 181 (am b 3) S,num w),(aB prog 112 (am b 4) S,c9 65),(aB prog 60 (am s.nx 0) S,.agg #[num j,str l,str k,.slice c e d,.bool i])] kq (Cq ⟨l1,rfl⟩ ⟨l2,rfl⟩ ⟨l3,by cases c<;>rfl⟩),_,_,_,_,_,_,rfl,rfl,?_⟩;refine za T (zF ?_);refine EW.fill (Va b s.nx (.agg #[num j,str l,str k,.slice c e d,.bool i])) kq ?_;intro x0;refine EW.seq (EW.draw kq kq kq ?_);iterate 5 refine zq ?_
 refine zt T (zu (yl b 6 (c9 68) u.2) (zu (yA s.nx 0 5 #[num j,str l,str k,.slice c e d,.bool i] A.2 iq) (yt g1 (zq (ET.nil ⟨aI [(aB prog 112 (am b 6) T,c9 68),(aB prog 60 (am s.nx 0) T,.agg #[num j,str l,str k,.slice c e d,.bool i])] kq (iD ⟨m2,rfl⟩ ⟨m3,by cases c<;>rfl⟩),_,_,_,_,_,_,rfl,rfl,?_⟩)))));refine za U ?_;cases g with
 | true =>obtain⟨V,e1,Z,e3⟩:=L rfl;refine zH (zx (zg 1 U (zp (yA s.nx 0 5 #[num j,str l,str k,.slice c e d,.bool i] X.2 iq) (zc 0 e1 (EO.nil ?_)))));exact⟨.inl rfl,kq,Z,((N.trans C).trans g3).trans e3⟩
 | false =>refine zF ?_;exact⟨.inl rfl,kq,g2,(N.trans C).trans g3⟩
def PG(l:∀f,f∈dJ->pr f=none)(m:pr 127=bu 127)(V:σ.w≠2){BC:TS}(E:cZ pr b t aF (bM t.name kS) σ BC true)(R:cZ pr b t aF (bM t.name iH) BC jA g):eH pr 219 b t aF σ jA:=by
 intro o s h x;have⟨i,k,j,A,e⟩:=t;have x:bS s A aF:=x;have⟨a,c,D⟩:=x.len;subst D;generalize aF.length=d at *;have p:=h.add (dF ⟨i,k,j,.slice a d c,e⟩);have v:=Has.new s (dF ⟨i,k,j,.slice a d c,e⟩);have u:=(aO.refl (K:=λ_=>False) s).add (dF ⟨i,k,j,.slice a d c,e⟩);have L:=(h.fk u).2;have G:bS (s.add (dF ⟨i,k,j,.slice a d c,e⟩)) (.slice a d c) aF:=x.fk u λ_ _=>id;generalize Q:s.add (dF ⟨i,k,j,.slice a d c,e⟩)=S at *;have⟨T,O,I,B⟩:=y8 (s:=S) l (F:=67) (jo:=kS) (λz=>AJ l m z) (t:=⟨i,k,j,.slice a d c,e⟩) o p G E;have H:=v.fr B.1 (p.no v dq dq dq);have N:bS T (.slice a d c) aF:=G.fb o p B;have⟨U,g1,g2,g3⟩:=y8 (s:=T) l (F:=69) (jo:=iH) (λz=>AL l m z) (t:=⟨i,k,j,.slice a d c,e⟩) o I N R;have⟨nv,rv,av,xs,J⟩:=p;have y:=J.b;have p:BX S b σ:=⟨_,_,_,_,J⟩;have X:=bE (P:=prog) (t:=181) underlying181 rfl y.2 (off:=3) rfl;have Y:=bE (P:=prog) (t:=112) underlying112 rfl y.2 (off:=5) rfl;have Z:=gN (P:=prog) (t:=60) (n:=5) underlying60 rfl kq v.2 (off:=0) (jl 5);have⟨Se,U3,M,So,C⟩:=I;have r:=C.b;have m2:=bE (P:=prog) (t:=112) underlying112 rfl r.2 (off:=7) rfl;have m3:=gN (P:=prog) (t:=60) (n:=5) underlying60 rfl kq H.2 (off:=0) (jl 5);generalize W:σ.w=w at *;generalize BC.w=w2 at *;refine EF.iy (l 219 dq) func219 rfl ?_;refine zs (za (s.add (dF ⟨i,k,j,.slice a d c,e⟩)) ?_);rw[Q];refine EW.seq (EW.draw kq kq kq ?_);iterate 3 refine zq ?_
 refine zt S (zu (yl b 3 (num w) y.2) (zu (yb (num w) (num 2) (cL (b:=false) (bF.2 V))) ?_));iterate 6 refine zq ?_
 refine zt S (zu (yl b 5 (c9 67) y.2) (zu (yA s.nx 0 5 #[num i,str k,str j,.slice a d c,.bool e] v.2 iq) (yt O ?_)));iterate 2 refine zq ?_
 refine ET.nil ⟨aI [(aB prog 181 (am b 3) S,num w),(aB prog 112 (am b 5) S,c9 67),(aB prog 60 (am s.nx 0) S,.agg #[num i,str k,str j,.slice a d c,.bool e])] kq (Cq ⟨X,rfl⟩ ⟨Y,rfl⟩ ⟨Z,by cases a<;>rfl⟩),_,_,_,_,_,_,rfl,rfl,?_⟩;refine za T (zH ?_);refine EW.draw kq kq kq ?_;iterate 5 refine zq ?_
 refine zt T (zu (yl b 7 (c9 69) r.2) (zu (yA s.nx 0 5 #[num i,str k,str j,.slice a d c,.bool e] H.2 iq) (yt g1 (ET.nil ⟨aI [(aB prog 112 (am b 7) T,c9 69),(aB prog 60 (am s.nx 0) T,.agg #[num i,str k,str j,.slice a d c,.bool e])] kq (iD ⟨m2,rfl⟩ ⟨m3,by cases a<;>rfl⟩),_,_,_,_,_,_,rfl,rfl,?_⟩))));exact⟨.inl rfl,kq,g2,(L.trans B).trans g3⟩
def NC(a:∀f,f∈dJ->pr f=none)(w:t.kind=4)(u:σ.nodes.length<400000000):eH pr 119 b t aF σ (σ.put ⟨3,0,[],t.text,[]⟩):=by intro x s h i;have⟨kd,tx,nm,at_,d⟩:=t;have i:bS s at_ aF:=i;have⟨c,e,j⟩:=i.len;subst j;generalize aF.length=g at *;have m:=h.add (dF ⟨kd,tx,nm,.slice c g e,d⟩);have l:=Has.new s (dF ⟨kd,tx,nm,.slice c g e,d⟩);have k:=(aO.refl (K:=λ_=>False) s).add (dF ⟨kd,tx,nm,.slice c g e,d⟩);have n:=(h.fk k).2;generalize v:s.add (dF ⟨kd,tx,nm,.slice c g e,d⟩)=S at *;have⟨A,B,z,C,r⟩:=m;have⟨U,y,o,p,q⟩:=Ax (a 217 dq) (a 232 dq) r (kd:=3) (pa:=0) (nm:=[]) (tx:=tx) (at_:=aD) (aF:=[]) (.inl ⟨rfl,rfl⟩) (Hh.nil _ _) u;obtain rfl:kd=4:=w;refine EF.iy (a 119 dq) func119 rfl (zs (za (s.add (dF ⟨4,tx,nm,.slice c g e,d⟩)) ?_));rw[v];exact zr (zg 1 S (zp (yl s.nx 0 (num 4) l.2) (zf (za S (EW.block (zr (zf (za S (zG (zr (zf (za S (zH (zx (zg 2 S (zp (yl s.nx 1 (str tx) l.2) (zg 1 S (zc 0 o (EO.nil ⟨.inl rfl,kq,⟨_,_,_,_,p⟩,n.trans q⟩)))))))))))))))))))
def ND(o:∀f,f∈dJ->pr f=none)(v:t.kind=5):eH pr 119 b t aF σ σ:=by
 intro w s h l;have⟨e,j,i,k,c⟩:=t;have l:bS s k aF:=l;have⟨a,d,m⟩:=l.len;subst m;generalize aF.length=g at *;have p:=h.add (dF ⟨e,j,i,.slice a g d,c⟩);have q:=Has.new s (dF ⟨e,j,i,.slice a g d,c⟩);have n:=(aO.refl (K:=λ_=>False) s).add (dF ⟨e,j,i,.slice a g d,c⟩);have r:=(h.fk n).2;generalize u:s.add (dF ⟨e,j,i,.slice a g d,c⟩)=S at *;obtain rfl:e=5:=v;refine EF.iy (o 119 dq) func119 rfl ?_;refine zs (za (s.add (dF ⟨5,j,i,.slice a g d,c⟩)) ?_);rw[u];refine zr (zg 1 S (zp (yl s.nx 0 (num 5) q.2) (zf (za S (EW.block ?_)))));iterate 4
  refine zr ?_
  refine zf ?_
  refine za S ?_
  refine zG ?_
 exact EW.skip ⟨.inl rfl,kq,p,r⟩
end
section
variable {aF:fF}
def aK.Dq(a:pr 241=none)(q:eH pr 218 b ⟨2,[],nm,aD,false⟩ [] σ jA):aK pr b t aF ⟨241,[nm],[]⟩ σ jA true:=by refine aK.go a func241 rfl λs S x u C c e v g f r n D o d E p=>?_;subst r;have⟨I,i,h,F,G,H,_⟩:=o;cases i;obtain⟨B,w,A,rfl,m⟩:=h (.inr (.inl rfl));cases A;have⟨U,j,k,l⟩:=q (λy z=>(bR z).elim) S d (.inl ⟨rfl,rfl⟩);refine zs (za (s.add (dF ⟨u,C,c,.slice e v g,f⟩)) ?_);rw[n];exact zr (zg 1 S (zp (yl B 0 (str nm) m.2) (zg 1 S (zc 0 j (EO.nil (za U (zs (za U (EW.ret ⟨.inr rfl,kq,k,l⟩)))))))))
def cm.fb{d:DC}(h:cm s v d)(a:BX s b σ)(e:bG b s s'):cm s' v d:=h.fk e.1 λx g t i f c=>by rcases c with rfl|rfl|rfl|⟨rfl,_⟩<;>exact a.no f dq dq dq
def Kj(b B C n:Nat)(v:Value)(x:Nq):TL:=[am b 0,v,am B 0,am C 0,x 4,am n 0]++gD x 6 13
theorem aK.ZF(k:∀f,f∈dJ->pr f=none)(a9:pr 320=none)(a7:pr 241=none)(a8:pr 242=none)(W:pr 127=bu 127){a:TS}(hr:bC σ aL [[112]] = -1->eH pr 218 b ⟨2,[],[112],aD,false⟩ [] σ a)(ab:bC σ aL [[112]] ≠ -1->a=σ)(h0:bC a aL [[112]]≠0)(aa:a.again.length<=50000):aK pr b t aF ⟨242,[],[]⟩ σ (a.cQ (bC a aL [[112]])) true:=by
 refine aK.go a8 func242 rfl λs S x u v q l o m r ht hS V hd j a4 A=>?_;subst ht;have⟨x',e0,d1,d2,d3,d4,d5,d6⟩:=hd;cases e0;obtain⟨B,C,E,F,G,wv,u7,rfl,X,hE,Y,hF,hG,hw,Q⟩:=d6 rfl;have dS:cm S (.func (.func 241) #[] #[am E 0]) ⟨241,[[112]],[]⟩:=cm.c1 _ (.inr (.inl rfl)) hE;have dN:cm S (.func (.func 234) #[] #[am F 0,am G 0]) ⟨234,aL,[[112]]⟩:=cm.c2 hF hG hw Q;have⟨nv,rv,av,xs,P⟩:=j;have j:BX S b σ:=⟨_,_,_,_,P⟩;have I:=P.add (.cells ([[112]].map str).toArray 9);have c2:=bG.add P (.cells ([[112]].map str).toArray 9);have c3:=xz (k 243 dq) (k 131 dq) (k 235 dq) (k 222 dq) (k 231 dq) (k 232 dq) W I (cU.new S [[112]] 1 rfl gq);generalize O:S.add (.cells ([[112]].map str).toArray 9)=S2 at *;have c4:=I.add (.cells (aL.map str).toArray 9);have c5:=bG.add I (.cells (aL.map str).toArray 9);generalize S2.add (.cells (aL.map str).toArray 9)=i at *;have n:=c2.trans c5;have d:BX i b σ:=⟨_,_,_,_,c4⟩;have Z:=X.fr n.1 (j.no X dq dq dq);have T:=Y.fr n.1 (j.no Y dq dq dq);have H:=V.fr n.1 (j.no V dq dq dq);have K:=dS.fb j n;have J:=dN.fb j n;have y:bS i (.slice l o m) aF:=a4.fb A j n;have z:∀(p:AS) (w:Nq),BX p b a->bG b i p->Ew pr (match Tryz.f242.body with|some (.seq _ (.seq _ c))=>c|_=>.skip) (Kj b B C s.nx (.agg (dU ⟨u,v,q,.slice l o m,r⟩).toArray) w) p λe a' R=>(e=.normal\/e=.ret)/\c8 prog Tryz.f242 a' R=some (.bool true)/\BX R b (a.cQ (bC a aL [[112]]))/\bG b S R:=by intro p w hX h;have C2:=T.fr h.1 (d.no T dq dq dq);have T2:=H.fr h.1 (d.no H dq dq dq);have⟨U,L,M,N⟩:=(aK.QO k a9 W h0 aa) A p _ hX (J.fb d h) (y.fb A d h);exact zr (zp (yl C 0 (.func (.func 234) #[] #[am F 0,am G 0]) C2.2) (zg 1 p (zp (yA s.nx 0 5 #[num u,str v,str q,.slice l o m,.bool r] T2.2 iq) (EO.call (f:=.tmp 15) (g:=234) (first:=#[]) (cap:=#[am F 0,am G 0]) kq rfl rfl kq kq kq L (zf (za U (EW.ret ⟨.inr rfl,kq,M,(n.trans h).trans N⟩)))))))
 refine zs (za (s.add (dF ⟨u,v,q,.slice l o m,r⟩)) ?_);rw[hS];refine EW.seq (zr (zk 2 (zo (S.add (.cells ([[112]].map str).toArray 9)) ?_)));rw[O];refine zc 0 c3 ?_;by_cases D:bC σ aL [[112]] = -1
 .have⟨U,L,M,N⟩:=(aK.Dq a7 (hr D)) A i _ d K y;rw[D];refine zf (za i (zH (zx (zp (yl B 0 (.func (.func 241) #[] #[am E 0]) Z.2) (zg 1 i (zp (yA s.nx 0 5 #[num u,str v,str q,.slice l o m,.bool r] H.2 iq) (EO.call (f:=.tmp 11) (g:=241) (first:=#[]) (cap:=#[am E 0]) kq rfl rfl kq kq kq L (EO.nil (za U (EW.fill (Kj b B C s.nx (.agg (dU ⟨u,v,q,.slice l o m,r⟩).toArray)) kq ?_))))))))));intro w;exact z U w M N
 .have e:=ab D;subst e;refine zp (yb (num (bC a aL [[112]])) (num (-1)) (cL (bF.2 D))) (EO.nil (za i (zF (EW.fill (Kj b B C s.nx (.agg (dU ⟨u,v,q,.slice l o m,r⟩).toArray)) kq ?_))));intro w;exact z i w d (bG.refl _)
end
abbrev BA:Bq:=[116,97,98,108,101]
def TS.ny(σ:TS):Nat->List (List (Bq))->Nat
 | _,[]=>0
 | i,l::ls=>if (decide (i<σ.row.length)&&aH (nameAt σ i) l)=true then σ.ny (i+1) ls+1 else 0
def TS.ib(σ:TS)(i:Nat):TS:=if i<σ.row.length then σ.eE i else σ
def TS.opens(σ:TS)(ls:List (List (Bq))):TS:=ls.foldl (λa l=>a.open_ (l.headD []) []) σ
def TS.EG(σ:TS)(i:Nat)(ls:List (List (Bq))):TS:=(σ.ib (i+σ.ny i ls)).opens (ls.drop (σ.ny i ls))
def TS.part(σ:TS)(ls:List (List (Bq))):TS:=if cD σ [BA] = -1 then σ else σ.EG ((cD σ [BA]).toNat+1) ls
def At(σ:TS):∀(ls:List (List (Bq))) (i:Nat),σ.ny i ls<=ls.length
 | [],_=>jl _
 | l::ls,i=>by
  unfold TS.ny;split
  .have:=At σ ls (i+1);simp;omega
  .omega
variable {nv rv:Value}{xs:List bY}
section
variable {aF:fF}{av:Value}
def JO(e:∀f,f∈dJ->pr f=none)(c:pr 237=none)(a:pr 127=bu 127)(h:BT s b nv rv av xs σ){l:List (Bq)}(n:cU s v l)(i:Nat)(o:i<=1000):Ef pr 237 #[am b 0,num (i:Nat),v] s (.bool (decide (i<σ.row.length)&&aH (nameAt σ i) l)) s:=by
 have⟨k,m,q⟩:=h.r.len;have g:=h.b;rw[q] at g;refine EF.of c func237 rfl (zs (zr (zg 4 s (zp (yl b 1 (.slice k σ.row.length m) g.2) (zk 1 ?_)))));by_cases d:i<σ.row.length
 .have p:=h.name (e 231 dq) d;have j:=n.is a (nameAt σ i);refine zp (yb (num (i:Nat)) (num (σ.row.length:Nat)) (aX (tD oq))) ?_;rw[tD d,Bool.true_and];generalize aH (nameAt σ i) l=t at j |-;exact zg 3 s (zc 0 p (zc 1 j (zf yR)))
 .refine zp (yb (num (i:Nat)) (num (σ.row.length:Nat)) (aX (fD oq))) ?_;rw[fD d,Bool.false_and];exact zf yR
def H8(d:∀f,f∈dJ->pr f=none)(c:pr 320=none)(a:pr 127=bu 127)(h:BX s b σ)(x:1<=i)(p:i<=1000)(g:σ.again.length<=50000):∃k,Ef pr 221 #[am b 0,num (i:Nat)] s (.tuple #[]) k/\BX k b (σ.ib i)/\bG b s k:=by
 unfold TS.ib;by_cases m:i<σ.row.length
 .rw[ip m]
  have:=mS d c a h (j:=(i:Nat)) oq oq oq g;rw[show σ.cQ ((i:Nat):Int)=σ.eE i by unfold TS.cQ;rw[iw oq,xn]] at this;exact this
 .rw[iw m];have⟨y,z,t,A,e⟩:=h;have⟨n,o,q⟩:=e.r.len;have l:=e.b;rw[q] at l;refine⟨s,?_,⟨_,_,_,_,e⟩,bG.refl s⟩;exact EF.of (d 221 dq) func221 rfl (EW.seq (zr (zk 1 (zp (aQ (u:=num (i:Nat)) (w:=num (-1)) rfl kq kq (cL (b:=false) (bF.2 oq))) (zg 5 s (zp (bw (b:=b) (off:=1) (v:=.slice n σ.row.length o) rfl underlying25 rfl kq l.2 rfl) (zk 1 (zp (aQ (u:=num (i:Nat)) (w:=num (σ.row.length:Nat)) rfl kq kq (eZ (b:=true) (tD oq))) (zf (za s (zH (EW.ret ⟨.inr rfl,kq,kq⟩))))))))))))
end
def Dh(d n i:Nat)(v:Value):Prop:=(i<n/\v=.slice (some ⟨d,i,none⟩) (n-i) (n-i))\/(n<=i/\∃ad c,v=.slice ad 0 c)
def wC(b B n i:Nat)(tv v:Value)(x:Nq):TL:=[am b 0,tv,am B 0,x 3,am n 0,.bool false,num (i:Nat),v]++gD x 8 40
def C1(b B n i m j:Nat)(tv:Value)(ad:Option Addr)(c:Nat)(x:Nq):TL:=[am b 0,tv,am B 0,x 3,am n 0,.bool false,num (i:Nat),.slice ad m c]++gD x 8 28++[.slice ad m c,num (m:Nat),num (j:Nat)]++gD x 39 9
section
variable {aF:fF}{av:Value}
def wa(ls:List (List (Bq))):∀a:TS,(a.opens ls).nodes.length=a.nodes.length+ls.length:=by
 induction ls with
 | nil=>intro a;rfl
 | cons l ls b =>
  intro a;show((a.open_ (l.headD []) []).opens ls).nodes.length=_;rw[b];have:(a.open_ (l.headD []) []).nodes.length=a.nodes.length+1:=by unfold TS.open_ TS.put;split<;>simp
  rw[this];simp;omega
theorem aK.part(M:∀f,f∈dJ->pr f=none)(aq:pr 320=none)(al:pr 236=none)(ao:pr 237=none)(a9:pr 127=bu 127){Y Z:List (Bq)}(au:∀l∈jm Y Z,l≠[])(b1:σ.again.length<=50000)(hN:σ.nodes.length+4<400000000):aK pr b t aF ⟨236,Y,Z⟩ σ (σ.part (jm Y Z)) (decide (cD σ [BA] ≠ -1)):=by
 refine aK.go al func236 rfl λs S x H J E F I cp G ht hS a2 hd a1 a4 ba=>?_;subst ht;have⟨x',e0,d1,d2,d3,d4,d5,d6⟩:=hd;cases e0;obtain⟨B,v0,rfl,hB,hP⟩:=d5 rfl;have hl2:(jm Y Z).length<=2:=by unfold jm;split<;>split<;>simp
 have hP:rN S v0 (jm Y Z):=hP;generalize jm Y Z=p at hP hl2 au |-;have⟨nv,rv,av,xs,hT⟩:=a1;have a1:BX S b σ:=⟨_,_,_,_,hT⟩;have hrow:=hT.sz.2.1;have Bv:=jR σ [BA];have c1:=hT.add (.cells ([BA].map str).toArray 9);have c2:=bG.add hT (.cells ([BA].map str).toArray 9);have c3:=uh (M 222 dq) (M 231 dq) (M 232 dq) a9 c1 (cU.new S [BA] 1 rfl gq);have B1:=hB.fr c2.1 (a1.no hB dq dq dq);have P1:=hP.fk c2.1 λx W t fz hx hc=>by rcases hc with rfl|rfl|rfl|⟨rfl,_⟩<;>exact a1.no hx dq dq dq
 generalize az:S.add (.cells ([BA].map str).toArray 9)=A at *;have af:BX A b σ:=⟨_,_,_,_,c1⟩;refine zs (za (s.add (dF ⟨H,J,E,.slice F I cp,G⟩)) ?_);rw[hS];refine zr (zk 2 (zo (S.add (.cells ([BA].map str).toArray 9)) ?_));rw[az];refine zc 0 c3 ?_;unfold TS.part;by_cases hj:cD σ [BA] = -1
 .rw[hj,ip rfl];exact zf (za A (EW.seq (zr (zf (za A (zH (zs (za A (EW.ret ⟨.inr rfl,kq,af,c2⟩)))))))))
 .rw[iw hj,tD hj];have⟨g,b2⟩:=Int.eq_ofNat_of_zero_le (show 0<=cD σ [BA] by omega);rw[b2] at Bv hj |-;rw[xn];have hi1:g<σ.row.length:=oq
  refine zf (za A (EW.seq (zr (zk 1 (zp (yb (num (g:Nat)) (num (-1)) (cL (b:=false) (bF.2 oq))) (EO.nil (za A (zF (zr (zk 1 (zp (yp ((g:Nat):Int) 1 ((g+1:Nat):Int) oq oq) (zf (za A ?_)))))))))))));obtain⟨ab,vn,vc,rfl⟩:∃ab vn vc,v0=.slice ab vn vc:=by
   rcases P1 with ⟨rfl,_⟩|⟨d,vs,rfl,_⟩
   iterate 2
    .exact⟨_,_,_,rfl⟩
  refine zr (zp (yl B 0 (.slice ab vn vc) B1.2) (zf (za A (EW.fill (wC b B s.nx (g+1) (.agg (dU ⟨H,J,E,.slice F I cp,G⟩).toArray) (.slice ab vn vc)) kq ?_))));intro x0;generalize P:σ.ny (g+1) p=u;have hD:σ.EG (g+1) p=(σ.ib (g+1+u)).opens (p.drop u):=by unfold TS.EG;rw[P]
  rw[hD];have b5:u<=p.length:=by rw[<-P];exact At _ _ _
  obtain⟨d,ay,aa⟩:∃d:Nat,Dh d p.length 0 (.slice ab vn vc)/\∀(k:Nat) (l:List (Bq)),p[k]?=some l->∃(v:Value) (W:Aq),Has A d (.cells W 62)/\W[k]?=some v/\cU A v l:=by
   rcases P1 with ⟨e,ar⟩|⟨d,vs,e,bc,ak,bd⟩
   .cases e;refine⟨0,.inr ⟨by rw[ar];exact lr,none,0,rfl⟩,λk l h=>?_⟩;rw[ar] at h;cases h
   .cases e;by_cases h0:vs.length=0
    .refine⟨d,.inr ⟨oq,some ⟨d,0,none⟩,0,by rw[h0]⟩,λk l h=>?_⟩;grind
    .refine⟨d,.inl ⟨oq,by rw[ak];rfl⟩,λk l h=>?_⟩;have hk:=(gS.1 h).1;have hvk:vs[k]?=some (vs[k]'oq):=gE _;grind
  refine EW.seq (EW.block (EW.mono (EW.dG (Q:=λe C w=>e=.exit 0/\w=A/\∃v x,Dh d p.length u v/\C=wC b B s.nx (g+1+u) (.agg (dU ⟨H,J,E,.slice F I cp,G⟩).toArray) v x) (λm C w=>w=A/\∃i v x,i+m=p.length/\i+σ.ny (g+1+i) (p.drop i)=u/\Dh d p.length i v/\C=wC b B s.nx (g+1+i) (.agg (dU ⟨H,J,E,.slice F I cp,G⟩).toArray) v x) ?_ p.length _ _ ⟨rfl,0,_,x0,by omega,by rw[List.drop_zero];simpa using P,ay,rfl⟩) ?_))
  .rintro m C w ⟨rfl,i,v,x1,b6,N,hv,rfl⟩;rcases hv with ⟨a7,rfl⟩|⟨a7,Vn,T,rfl⟩
   .obtain⟨l,X⟩:∃l,p[i]?=some l:=⟨_,gE a7⟩;have⟨vl,W,z,O,K⟩:=aa i l X;have a5:p.drop i=l::p.drop (i+1):=by have hi':=(gS.1 X);rw[List.drop_eq_getElem_cons hi'.1,hi'.2]
    rw[a5] at N;unfold TS.ny at N;have b3:=JO M ao a9 c1 K (g+1+i) oq;obtain⟨vd,T,hvl⟩:∃vd T,vl=.slice vd l.length T:=by have⟨_,d',c',fz,e,_⟩:=K;exact⟨_,_,e⟩
    subst hvl;obtain⟨L,hL⟩:∃L,p.length-i=L+1:=⟨p.length-i-1,by omega⟩;rw[hL];refine EW.seq (zr (zk 2 (zp (yb (num ((L+1:Nat):Int)) (num 0) (dQ (b:=true) (tD oq))) (zg 4 w (zp (qf (b:=d) (off:=i) (n:=L+1) (cp:=L+1) (sp:=none) (k:=.i64) (j:=0) (sz:=1) rfl underlying72 kq kq kq oq oq) (zp (bw (b:=d) (off:=i+(0:Int).toNat*1) (v:=.slice vd l.length T) rfl underlying62 rfl kq z.2 O) (zc 0 b3 ?_)))))));generalize hbb:(decide (g+1+i<σ.row.length)&&aH (nameAt σ (g+1+i)) l)=bb at N;cases bb with
    | false =>
     rw[iw dq] at N;refine zf (za w (zG (EW.exit ?_)));obtain rfl:i=u:=oq
     exact⟨rfl,rfl,.slice (some ⟨d,i,none⟩) (L+1) (L+1),(aR (f:=λx=>wC b B s.nx (g+1+i) (.agg (dU ⟨H,J,E,.slice F I cp,G⟩).toArray) (.slice (some ⟨d,i,none⟩) (L+1) (L+1)) x) kq).imp λx e=>⟨.inl ⟨a7,by rw[hL]⟩,e⟩⟩
    | true =>
     rw[ip rfl] at N;refine zf (za w (zT (EW.block (zr (zk 1 ?_)))));obtain⟨v2,ak,aj⟩:∃v2,Dh d p.length (i+1) v2/\∃ah ai ag,v2=.slice ah ai ag/\∀{c:fI} {a:TL} {o:Oper} {y:Operand} {lo:Operand},o.op=.slice 72 y (some lo) none none->a.at y=.slice (some ⟨d,i,none⟩) (L+1) (L+1)->a.at lo=num 1->bN prog kg c a o w=some (v2,w):=by
      by_cases ax:L=0
      .subst ax;refine⟨.slice (some ⟨d,i,some 0⟩) 0 1,.inr ⟨oq,_,_,rfl⟩,_,_,_,rfl,λh1 h2 h3=>?_⟩;exact JL (b:=d) (off:=i) (n:=1) (cp:=1) (i:=1) (sz:=1) h1 underlying72 h2 z.2 kq (by simp only[Option.map_some,Option.map_none,h3];kernel_rfl) oq
      .refine⟨.slice (some ⟨d,i+1,none⟩) L L,.inl ⟨oq,by rw[show p.length-(i+1)=L by omega]⟩,_,_,_,rfl,λh1 h2 h3=>?_⟩;exact mh (kt:=kg) (b:=d) (off:=i) (n:=L+1) (cp:=L+1) (i:=1) (j:=L+1) (sz:=1) h1 underlying72 h2 z.2 kq (by simp only[Option.map_some,Option.map_none,h3];exact gL dq oq) oq
     obtain⟨ah,ai,ag,rfl,aj⟩:=aj;refine zp (aj rfl kq kq) (zf (za w (zx (zk 1 (zp (yp ((g+1+i:Nat):Int) 1 ((g+1+(i+1):Nat):Int) oq oq) (zf ?_))))));exact⟨m-1,by omega,rfl,i+1,.slice ah ai ag,(aR (f:=λx=>wC b B s.nx (g+1+(i+1)) (.agg (dU ⟨H,J,E,.slice F I cp,G⟩).toArray) (.slice ah ai ag) x) kq).imp λx e=>⟨oq,by rw[show g+1+(i+1)=g+1+i+1 by omega];omega,ak,e⟩⟩
   .have a5:p.drop i=[]:=K3 a7;rw[a5] at N;unfold TS.ny at N;obtain rfl:i=u:=oq
    exact EW.seq (zr (zf (za w (zG (EW.exit ⟨rfl,rfl,.slice Vn 0 T,(aR (f:=λx=>wC b B s.nx (g+1+i) (.agg (dU ⟨H,J,E,.slice F I cp,G⟩).toArray) (.slice Vn 0 T) x) kq).imp λx e=>⟨.inr ⟨a7,_,_,rfl⟩,e⟩⟩)))))
  .rintro e C w ⟨rfl,rfl,v,x1,hv,rfl⟩;have⟨U,f1,f2,f3⟩:=H8 M aq a9 af (i:=g+1+u) oq oq b1;obtain⟨ae,wn,wc,rfl⟩:∃ae wn wc,v=.slice ae wn wc:=by rcases hv with ⟨_,rfl⟩|⟨_,_,_,rfl⟩<;>exact⟨_,_,_,rfl⟩
   refine zr (zk 2 (zo w (zc 0 f1 (EO.nil (za U (EW.seq (zr (zf (za U (EW.fill (C1 b B s.nx (g+1+u) wn 0 (.agg (dU ⟨H,J,E,.slice F I cp,G⟩).toArray) ae wc) kq ?_))))))))));intro x2;have TZ:wn=p.length-u:=by
    rcases hv with ⟨_,e⟩|⟨h,_,_,e⟩
    .cases e;rfl
    .cases e;omega
   have aw:(σ.ib (g+1+u)).nodes=σ.nodes:=by unfold TS.ib TS.eE;split<;>rfl
   refine EW.block (EW.mono (EW.dG (Q:=λe C V=>e=.exit 2/\BX V b ((σ.ib (g+1+u)).opens (p.drop u))/\bG b U V/\∃x,C=C1 b B s.nx (g+1+u) wn wn (.agg (dU ⟨H,J,E,.slice F I cp,G⟩).toArray) ae wc x) (λm C V=>∃j,j+m=wn/\BX V b ((σ.ib (g+1+u)).opens ((p.drop u).take j))/\bG b U V/\∃x,C=C1 b B s.nx (g+1+u) wn j (.agg (dU ⟨H,J,E,.slice F I cp,G⟩).toArray) ae wc x) ?_ wn _ _ ⟨0,by omega,by rw[List.take_zero];exact f2,bG.refl _,x2,rfl⟩) ?_)
   .rintro m C V ⟨j,b8,hX,hF,x3,rfl⟩;by_cases hm:0<m
    .rcases hv with ⟨a7,e⟩|⟨a7,_,_,e⟩
     .cases e;obtain⟨l,X⟩:∃l,p[u+j]?=some l:=⟨_,gE oq⟩;have⟨vl,W,z,O,K⟩:=aa (u+j) l X;have D:=au l (mG X);obtain⟨q,hq⟩:∃q,l[0]?=some q:=by cases l with
       | nil=>exact absurd rfl D
       | cons q r=>exact⟨q,rfl⟩
      have b4:l.headD []=q:=by cases l with
       | nil=>exact absurd rfl D
       | cons y r=>cases hq;rfl
      have fV:=f3.trans hF;have X2:=z.fr fV.1 (af.no z dq dq dq);have X3:cU V vl l:=K.fk fV.1 λx W fz hx=>af.no hx dq dq dq;obtain⟨hl9,dl,cl',fzl,rfl,R8⟩:=X3;have R:(p.drop u).take (j+1)=(p.drop u).take j++[l]:=by rw[List.take_add_one,K2,X];rfl
      have b9:0<l.length:=Eg.2 D;have⟨Se,U3,Xj,So,hX⟩:=hX;have⟨V2,g1,g2,g3⟩:=xM (M 223 dq) (M 217 dq) (M 232 dq) hX (nm:=q) (at_:=aD) (aF:=[]) (.inl ⟨rfl,rfl⟩) (Hh.nil _ _) (by rw[wa,aw];simp;omega);refine zr (zp (yb (num (j:Nat)) (num ((p.length-u:Nat):Int)) (aX (b:=true) (tD oq))) (EO.nil (za V (EW.seq (zT (EW.seq (EW.block (zr (zp (qf (b:=d) (off:=u) (n:=p.length-u) (cp:=p.length-u) (sp:=none) (k:=.i64) (j:=((j:Nat):Int)) (sz:=1) rfl underlying72 kq kq kq oq oq) (zp (bw (b:=d) (off:=u+((j:Nat):Int).toNat*1) (v:=.slice (sq dl) l.length cl') rfl underlying62 rfl kq X2.2 (by rw[xn,Nat.mul_one];exact O)) (zf (za V (zx (zg 2 V (zp (qf (b:=dl) (off:=0) (n:=l.length) (cp:=cl') (sp:=none) (k:=.i64) (j:=0) (sz:=1) rfl underlying62 kq kq kq oq oq) (zp (bw (b:=dl) (off:=0+(0:Int).toNat*1) (v:=str q) rfl underlying9 rfl kq R8.2 (by show(l.map str).toArray[0]?=_;simp[hq])) (zc 0 g1 (EO.nil (za V2 (zx (zp (yp ((j:Nat):Int) 1 ((j+1:Nat):Int) oq oq) (zf ?_))))))))))))))))))))));refine⟨m-1,by omega,j+1,by omega,?_,hF.trans g3,aR kq⟩;rw[R];unfold TS.opens at g2 |-;rw[List.foldl_append];show BX _ b (TS.open_ _ (l.headD []) []);rw[b4];exact g2
     .cases e;omega
    .obtain rfl:j=wn:=oq
     refine zr (zp (yb (num (j:Nat)) (num (j:Nat)) (aX (b:=false) (fD oq))) (EO.nil (za V (EW.seq (zG (EW.exit ⟨rfl,?_,hF,aR kq⟩))))));grind
   .rintro e C V ⟨rfl,hX,hF,x3,rfl⟩;exact zs (za V (EW.ret ⟨.inr rfl,kq,hX,(c2.trans f3).trans hF⟩))
end
theorem VY{a:Option Value × Value}{l:List (Option Value × Value)}(U:a.1=some a.2/\bB 20 a.2=true)(b:∀x∈l,x.1=some x.2/\bB 20 x.2=true):∀x∈a::l,x.1=some x.2/\bB 20 x.2=true:=λx c=>by grind
def ldz:∀x∈([]:List (Option Value × Value)),x.1=some x.2/\bB 20 x.2=true:=λx a=>by simp at a
theorem vZ(h:l[i]?=some x)(w:Value):putAt (aY l) (i*5+4) [w]=aY (l.set i { x with aM:=w }):=by
 apply Array.ext_getElem?;intro k;have key:∀(l:List bY) (i k:Nat),l[i]?=some x->((l.flatMap bY.cells).set (i*5+4) w)=(l.set i { x with aM:=w }).flatMap bY.cells:=by
  intro l;induction l with
  | nil=>intro i k h;simp at h
  | cons y l ih =>
   intro i k h;match i with
   | 0=>simp at h;subst h;rfl
   | i+1 =>have:=ih i k (by simpa using h);rw[show(i+1)*5+4=(i*5+4)+5 by omega];show _::_::_::_::_::((l.flatMap bY.cells).set (i*5+4) w)=_;rw[this];rfl
 have hp:putAt (aY l) (i*5+4) [w]=((l.flatMap bY.cells).set (i*5+4) w).toArray:=by
  unfold putAt;have kF:i*5+4<(l.flatMap bY.cells).length:=by have h1:=mg l;grind
  rw[List.set_eq_take_append_cons_drop,ip kF];simp
 rw[hp,key l i k h]
section
variable {v:Value}{us:List Nd}
def vY:∀{xs:List bY},(∀x∈xs,x.aM.oneCell'=true)->(xs.flatMap bY.cells).all Value.oneCell'=true
 | [],_=>rfl
 | x::xs,h=>by have:=vY (xs:=xs) λy a=>h y (by simp[a]);rw[List.flatMap_cons,List.all_append,this];have h1:=h x iq;show((true&&(true&&(true&&(true&&(x.aM.oneCell'&&true)))))&&true)=true;rw[h1];rfl
def yM{b d n:Nat}(h:d<b):dR (.slice (sq b) n k) (sq d)=true:=by
 show(!Nat.beq b d)=true;cases hq:Nat.beq b d with
 | true=>have:=gh hq;omega
 | false=>rfl
theorem H6(U:pr 41=none)(l:rP s v xs)(w:xs.length<=400000000)(y:0<xs.length)(p:∀x∈xs,x.aM.oneCell'=true):∃f d,Ef pr 41 #[v] s (.slice (sq d) xs.length xs.length) f/\Has f d (.cells (aY xs) 44 (1,1))/\aO (λ_=>False) s f/\s.nx<=d:=by obtain⟨j,q,t,rfl,g⟩:=l;have i:=mg xs;have r:=Has.new s (.cells #[] 44);have c:=g.add (.cells #[] 44);have a:=gH (P:=prog) (s:=s.add (.cells #[] 44)) (e:=44) (news:=xs.flatMap bY.cells) (m:=xs.length) (d:=s.nx) (n:=0) (k:=0) (sz:=5) oq r.2 kq iq oq;rw[Nat.zero_add] at a;have o:aO (λ_=>False) s (((s.add (.cells #[] 44)).set s.nx none).add (.cells (aY xs) 44 (1,1))):=(((aO.refl s).add _).set (λh=>by omega) _).add _;have b:=Has.new ((s.add (.cells #[] 44)).set s.nx none) (.cells (aY xs) 44 (1,1));generalize u:xs.length=N at *;refine⟨_,(s.add (.cells #[] 44)).nx,?_,b,o,by simp⟩;exact EF.of U func41 rfl (zs (EW.seq (zr (zf (za s (zF (zr (zg 2 (s.add (.cells #[] 44)) (zp (gl (sl:=.slice (sq s.nx) 0 0) (news:=xs.flatMap bY.cells) (d:=j) (m:=N) (k:=q) (sz:=5) (z:=OX) (bytes:=72) rfl kq kq underlying38 kq rfl dq dq kq c.2 (yM g.1) oq gq gq (vY p) a) (zf yR))))))))))
def Fj(l:fF):(ft l).toList.all Value.oneCell'=true:=by
 induction l with
 | nil=>rfl
 | cons x l a=>simp[Value.oneCell'] at a |-
theorem H5(U:pr 42=none){l:fF}(u:bS s v l)(C:l.length<=400000000):∃b w,Ef pr 42 #[v] s w b/\bS b w l/\aO (λ_=>False) s b:=by
 rcases u with ⟨rfl,rfl⟩|⟨d0,k0,fz,rfl,a0,hd⟩
 .refine⟨s,aD,?_,.inl ⟨rfl,rfl⟩,aO.refl s⟩;exact EF.of U func42 rfl (zs (EW.seq (zr (zf (za s (zH (zs (EW.ret ⟨.inr rfl,kq,kq⟩))))))))
 .have A:=oD l;have o:=Has.new s (.cells #[] 47);have g:=Has.add (s:=s) ⟨a0,hd⟩ (.cells #[] 47);have i:=yM (n:=0) (k:=0) a0;obtain⟨b,w,a,y,x,j⟩:∃b w,bK prog 47 (.slice (sq s.nx) 0 0) (ft l).toList l.length (s.add (.cells #[] 47))=some (w,b)/\bS b w l/\aO (λ_=>False) s b/\∃p q,w=.slice p l.length q:=by
   by_cases r:l=[]
   .subst r;exact⟨_,_,vB (.inr ⟨_,_,_,rfl⟩),.inr ⟨_,_,_,rfl,o.1,o.2⟩,(aO.refl s).add _,_,_,rfl⟩
   .have t:l.length≠0:=λe=>r (List.length_eq_zero_iff.1 e);have a:=gH (P:=prog) (s:=s.add (.cells #[] 47)) (e:=47) (news:=(ft l).toList) (m:=l.length) (d:=s.nx) (n:=0) (k:=0) (sz:=2) t o.2 kq iq oq;rw[Nat.zero_add] at a;have c:=Has.new ((s.add (.cells #[] 47)).set s.nx none) (.cells (ft l) 47 (1,1));exact⟨_,_,a,.inr ⟨_,_,_,rfl,c.1,c.2⟩,(((aO.refl s).add _).set (λh=>by omega) _).add _,_,_,rfl⟩
  obtain⟨p,q,rfl⟩:=j;refine⟨b,_,?_,y,x⟩;have f:=Fj l;generalize B:l.length=N at *;exact EF.of U func42 rfl (zs (EW.seq (zr (zf (za s (zF (zr (zg 2 (s.add (.cells #[] 47)) (zp (gl (sl:=.slice (sq s.nx) 0 0) (news:=(ft l).toList) (d:=d0) (m:=N) (k:=k0) (sz:=2) (z:=.agg #[str [],str []]) (bytes:=32) rfl kq kq underlying42 kq rfl dq dq kq g.2 i oq gq gq f a) (zf (EW.ret ⟨.inr rfl,kq,kq⟩)))))))))))
def Rl (B:Value)(v:Value)(n i:Nat)(x:Nq):TL:=[B,x 1,aD,v,x 4,x 5,x 6,x 7,x 8,x 9,v,num (n:Nat),num (i:Nat)]++gD x 13 14
def fJ.one(h:fJ s xs us):∀x∈xs,x.aM.oneCell'=true:=λx c=>by
 have⟨i,b⟩:=List.mem_iff_getElem?.1 c;have a:i<us.length:=by rw[<-h.1];exact(gS.1 b).1
 have⟨d,f,e⟩:=(h.2 i x _ b (gE a)).2.2.2.2.len;rw[e];rfl
theorem MH(a8:pr 23=none)(a9:pr 41=none)(aa:pr 42=none)(hB:Has s B (.cells #[v] 82))(hA:rP s v xs)(t:fJ s xs us)(hu:∀u∈us,u.aM.length<=400000000)(hn:us.length<=400000000)(hp:0<us.length):∃M w ys,Ef pr 23 #[am B 0] s w M/\rP M w ys/\fJ M ys us/\aO (λ_=>False) s M:=by
 suffices h:Ew pr (match Tryz.f23.body with|some c=>c|none=>.skip) ((#[am B 0]:Aq).toList++List.replicate (Tryz.f23.ntmps-(#[am B 0]:Aq).toList.length) undef) s (λe p g=>(e=.normal\/e=.ret)/\∃w ys,c8 prog Tryz.f23 p g=some w/\rP g w ys/\fJ g ys us/\aO (λ_=>False) s g) by have⟨m,e,p,g,h1,he,w,ys,h2,h3⟩:=h;exact⟨g,w,ys,EF.of a8 func23 rfl ⟨m,e,p,g,h1,he,h2,rfl⟩,h3⟩
 have⟨S,d,c1,c2,c3,c4⟩:=H6 a9 hA (by rw[t.1];exact hn) (by rw[t.1];exact hp) t.one;have W:fJ S xs us:=t.fk c3 λ_ _ _ _=>id;obtain⟨d0,k0,f0,rfl,hd0⟩:=hA;rw[t.1] at hB c1;generalize hN:us.length=N at *;refine zs (zr (zg 3 s (zp (bw (b:=B) (off:=0) (v:=.slice (sq d0) N k0) rfl underlying38 rfl kq hB.2 rfl) (zc 0 c1 (zf (za S (EW.seq (zr (zf (EW.fill (Rl (am B 0) (.slice (sq d) N N) N 0) kq ?_))))))))));intro x0;refine za S (EW.block ?_);refine EW.mono (EW.dG (Q:=λe p g=>e=.exit 0/\(∃ys,ys.length=N/\Has g d (.cells (aY ys) 44 (1,1))/\fJ g ys us)/\aO (λ_=>False) s g/\∃x,p=Rl (am B 0) (.slice (sq d) N N) N N x) (λm p g=>∃i,i+m=N/\(∃ys,ys.length=N/\Has g d (.cells (aY ys) 44 (1,1))/\fJ g ys us)/\aO (λ_=>False) s g/\∃x,p=Rl (am B 0) (.slice (sq d) N N) N i x) ?_ N _ _ ⟨0,by omega,⟨xs,by rw[t.1,hN],c2,W⟩,c3,x0,rfl⟩) ?_
 .rintro m p U ⟨i,ae,⟨ys,C,A,D⟩,J,x,rfl⟩;by_cases hi:i<N
  .have T:us[i]?=some us[i]:=gE oq;have G:=hu us[i] (D3 _);generalize us[i]=u at T G;have L:ys[i]?=some ys[i]:=gE oq;generalize ys[i]=Y at L;have I:=D.2 i Y u L T;have tY:=I.2.2.2.2;have⟨V,w,q1,X,Z⟩:=H5 aa tY G;have a4:(aY ys)[i*5+4]?=some Y.aM:=by rw[dt L 4 dq];rfl
   have⟨ad,cp,e1⟩:=tY.len;rw[e1] at a4 q1;have⟨a,f,e2⟩:=X.len;subst e2;have o:=A.fr Z id;have H:fJ V ys us:=D.fk Z λ_ _ _ _=>id;have F:=vZ L (.slice a u.aM.length f);generalize hnA:u.aM.length=q at *;have r1:Has (V.set d (some (.cells (aY (ys.set i { Y with aM:=.slice a q f })) 44 (1,1)))) d (.cells (aY (ys.set i { Y with aM:=.slice a q f })) 44 (1,1)):=o.put _;have O:aO (λx=>x=d) V (V.set d (some (.cells (aY (ys.set i { Y with aM:=.slice a q f })) 44 (1,1)))):=aO.set (K:=λx=>x=d) (aO.refl V) (λ_=>rfl) _;have r2:fJ (V.set d (some (.cells (aY (ys.set i { Y with aM:=.slice a q f })) 44 (1,1)))) (ys.set i { Y with aM:=.slice a q f }) us:=by
    refine⟨by rw[List.length_set,C,hN],λj y u' l P=>?_⟩;have E:∀x cs R,Has V x (.cells cs 47 R)->¬x=d:=λx cs R hx=>hx.ne o dq;rw[List.getElem?_set] at l;split at l
    .next e =>
     subst e;split at l
     .cases l;rw[T] at P;cases P;refine⟨I.1,I.2.1,I.2.2.1,I.2.2.2.1,X.fk O λy l=>?_⟩;rcases X with ⟨z,_⟩|⟨ab,c,R,z,z1,z2⟩
      .rw[z] at l;exact(bR l).elim
      .rw[z] at l;rw[cH l];exact E _ _ _ ⟨z1,z2⟩
     .cases l
    .exact(H.fk O E).2 j y u' l P
   refine zr (zp (aQ (u:=num (i:Nat)) (w:=num (N:Nat)) rfl kq kq (aX (b:=true) (tD oq))) (EO.nil (EW.seq (zT (EW.seq (EW.block (za U (zs (za U (zx (zk 4 (zp (xJ (b:=d) (off:=0) (n:=N) (cp:=N) (k:=i*5) (sp:=none) (kd:=.i64) (j:=(i:Nat)) (sz:=5) rfl underlying38 kq kq kq oq oq oq) (zg 1 U (zp (bw (b:=d) (off:=i*5+4) (v:=.slice ad q cp) rfl underlying42 rfl kq A.2 a4) (zc 0 q1 (zp (xJ (b:=d) (off:=0) (n:=N) (cp:=N) (k:=i*5) (sp:=none) (kd:=.i64) (j:=(i:Nat)) (sz:=5) rfl underlying38 kq kq kq oq oq oq) (zg 1 V (zp (gA (b:=d) (off:=i*5+4) (w:=.slice a q f) rfl kq kq rfl rfl kq o.2 gq) (EO.nil (za (V.set d (some (.cells (putAt (aY ys) (i*5+4) [.slice a q f]) 44 (1,1)))) ?_))))))))))))))))))));rw[F];refine zx (zp (iP (i:=(i:Nat)) (j:=1) (r:=((i+1:Nat):Int)) rfl kq kq oq oq) (zf ?_));refine⟨m-1,by omega,i+1,by omega,⟨_,by rw[List.length_set,C],r1,r2⟩,(J.trans Z λ_ _ z=>z).trans O (λy l z=>by omega),aR kq⟩
  .obtain rfl:i=N:=oq
   exact zr (zp (aQ (u:=num (i:Nat)) (w:=num (i:Nat)) rfl kq kq (aX (b:=false) (fD oq))) (EO.nil (za U (EW.seq (zG (EW.exit ⟨rfl,⟨ys,C,A,D⟩,J,aR kq⟩))))))
 .rintro e p U ⟨rfl,⟨ys,C,A,D⟩,J,x,rfl⟩;refine zs ?_;exact EW.ret ⟨.inr rfl,_,ys,kq,⟨d,N,(1,1),by rw[C],A⟩,D,J⟩
end
def Ac:List FuncId:=[321,322,364]
section
def Nf(a:pr 321=none)(b:Has s B (eh nm vl)):Ef pr 321 #[.agg #[str n1,str v1],am B 0] s (.bool (cw n1 nm)) (s.add (eh n1 v1)):=by have h1:=Has.new s (eh n1 v1);have h2:=b.add (eh n1 v1);refine EF.of a func321 rfl (zs (za (s.add (eh n1 v1)) ?_));generalize d:s.add (eh n1 v1)=S at h1 h2 |-;refine zr (zg 1 S (zp (yl s.nx 0 (str n1) h1.2) (zg 1 S (zp (yl B 0 (str nm) h2.2) (zp (yb (str n1) (str nm) (dP rfl)) ?_)))));generalize cw n1 nm=c;exact zf yR
abbrev zI(B:Nat):Value:=.func (.func 321) #[] #[am B 0]
def C6(av:Value)(B n i:Nat)(x:Nq):TL:=[av,zI B,x 2,x 3,num 0,x 5,av,num (n:Nat),num (i:Nat)]++gD x 9 10
theorem Qr(F:∀f,f∈Ac->pr f=none)(M:Has s B (eh nm vl))(G:bS s av aF)(T:aF.length<=100000):∃a j,Ef pr 364 #[av,zI B] s (num j) a/\aO (λ_=>False) s a/\decide (j>=0)=aF.any λp=>cw p.1 nm:=by
 have⟨u,v,J⟩:=G.len;suffices h:Ew pr (match Tryz.f364.body with|some c=>c|none=>.skip) ((#[av,zI B]:Aq).toList++List.replicate (Tryz.f364.ntmps-(#[av,zI B]:Aq).toList.length) undef) s (λe U d=>(e=.normal\/e=.ret)/\aO (λ_=>False) s d/\∃j,c8 prog Tryz.f364 U d=some (num j)/\decide (j>=0)=aF.any λp=>cw p.1 nm) by have⟨m,e,U,d,h1,N,h2,j,h3,L⟩:=h;exact⟨d,j,EF.of (F 364 dq) func364 rfl ⟨m,e,U,d,h1,N,h3,rfl⟩,h2,L⟩
 subst J;refine zs (za s (EW.seq (zs (za s (EW.fill (C6 (.slice u aF.length v) B aF.length 0) kq ?_)))));intro R;generalize W:aF.length=n at *;refine EW.block ?_;refine EW.mono (EW.dG (Q:=λe U d=>(e=.exit 0/\aO (λ_=>False) s d/\((aF.any λp=>cw p.1 nm)=false)/\∃x,U=C6 (.slice u n v) B n n x)\/(e=.ret/\aO (λ_=>False) s d/\∃j,c8 prog Tryz.f364 U d=some (num j)/\decide (j>=0)=aF.any λp=>cw p.1 nm)) (λm U a=>∃i,i+m=n/\aO (λ_=>False) s a/\((aF.take i).any λp=>cw p.1 nm)=false/\∃x,U=C6 (.slice u n v) B n i x) ?_ n _ _ ⟨0,by omega,aO.refl s,rfl,R,rfl⟩) ?_
 .rintro m U a ⟨i,S,k,D,x,rfl⟩;by_cases V:0<m
  .have t:i<aF.length:=oq
   have H:aF[i]?=some aF[i]:=gE t;have⟨w,l⟩:=sT H;have A:aF.take (i+1)=aF.take i++[aF[i]]:=by simp_all
   have C:aF[i]∈aF:=D3 t;generalize aF[i]=P at H l A C;have⟨n1,v1⟩:=P;obtain⟨g,y,rfl,X,O⟩:∃g y,u=some ⟨g,0,none⟩/\g<a.nx/\a.get g=some (.cells (ft aF) 47 y):=by
    have:=G.fk k (λ_ _=>id);rcases this with ⟨_,z⟩|⟨g,cq,y,z1,z2,z3⟩
    .rw[z] at t;simp at t
    .grind
   have I:=M.fr k id;have b:=Nf (F 321 dq) (n1:=n1) (v1:=v1) I;have q:aO (λ_=>False) s (a.add (eh n1 v1)):=k.add _;have o:(aF.take (i+1)).any (λp=>cw p.1 nm)=cw n1 nm:=gq
   have E:cw n1 nm=true->(aF.any λp=>cw p.1 nm)=true:=λh=>List.any_eq_true.2 ⟨_,C,h⟩;generalize cw n1 nm=K at b o E;refine zr (zp (yb (num (i:Nat)) (num (n:Nat)) (aX (tD oq))) (EO.nil (EW.seq (zT (EW.seq (EW.block (zs (za a (zr (zg 3 a (zp (yi g 0 n v (i*2) none .i64 (i:Nat) 2 oq oq oq) (zo a (zp (rB (off:=i*2) (r:=#[str n1,str v1]) rfl underlying47 rfl kq kq O w l) (yc #[] #[am B 0] b (EO.nil (za (a.add (eh n1 v1)) ?_))))))))))))))));cases K with
   | true =>refine zH ?_;refine zs ?_;exact EW.ret (.inr ⟨rfl,q,(i:Nat),kq,by rw[E rfl];exact tD oq⟩)
   | false =>refine zF ?_;refine zx (zp (yp (i:Nat) 1 ((i+1:Nat):Int) oq oq) (zf ?_));exact⟨m-1,by omega,i+1,by omega,q,o,aR kq⟩
  .obtain rfl:i=n:=oq
   rw[tL oq] at D;exact zr (zp (yb (num (i:Nat)) (num (i:Nat)) (aX (fD oq))) (EO.nil (EW.seq (zG (EW.exit (.inl ⟨rfl,k,D,aR kq⟩))))))
 .rintro e U a (⟨rfl,k,h1,x,rfl⟩|⟨rfl,h⟩)
  .refine zs ?_;exact EW.ret ⟨.inr rfl,k,-1,kq,by rw[h1];rfl⟩
  .exact⟨.inr rfl,h⟩
def Qb(a:∀f,f∈Ac->pr f=none)(c:Has s B (eh nm vl))(d:bS s av aF)(e:aF.length<=100000):∃b,Ef pr 322 #[av,zI B] s (.bool (aF.any λp=>cw p.1 nm)) b/\aO (λ_=>False) s b:=by have⟨b,j,h1,h2,h3⟩:=Qr a c d e;refine⟨b,?_,h2⟩;refine EF.of (a 322 dq) func322 rfl (zs (zr (zc 2 h1 (zp (yb (num j) (num 0) (eZ h3)) ?_))));generalize (aF.any λp=>cw p.1 nm)=g;exact zf yR
end
def TS.iI(σ:TS)(k:Nat)(aF:fF):TS:={ σ with nodes:=σ.nodes.set k { σ.kQ k with aM:=aF } }
def TS.give(σ:TS)(i:Nat)(aF:fF):TS:=σ.iI (σ.row.getD i 0) (aF.foldl dW (σ.kQ (σ.row.getD i 0)).aM)
section
variable {aF:fF}{av:Value}
def gP(h:σ.nodes[k]?=some u):σ.kQ k=u:=by unfold TS.kQ;rw[tS,h];rfl
theorem uH(h:σ.nodes[k]?=some u)(a:fF):(σ.iI k a).nodes[k]?=some { u with aM:=a }:=by unfold TS.iI;rw[gP h];grind
def GP(h:σ.nodes[k]?=some u)(a b:fF):(σ.iI k a).iI k b=σ.iI k b:=by have h1:=gP (uH h a);unfold TS.iI at h1 |-;rw[h1];simp only[List.set_set,gP h]
def GO(h:σ.nodes[k]?=some u):σ.iI k u.aM=σ:=by
 unfold TS.iI;rw[gP h];have a:=gS.1 h;have:σ.nodes.set k u=σ.nodes:=by have⟨h1,h2⟩:=a;rw[<-h2];exact List.set_getElem_self h1
 show(⟨σ.nodes.set k u,σ.row,σ.again,σ.w⟩:TS)=σ;rw[this]
theorem BT.more(h:BT s b nv rv av xs σ)(hk:σ.nodes[k]?=some u)(hHB:gM u.name=true)(a:Bq × Bq)(hl:u.aM.length<=100000) :
  ∃nd nc nf x w U,nv=.slice (sq nd) σ.nodes.length nc/\xs[k]?=some x/\Has s nd (.cells (aY xs) 44 nf)/\bS s x.aM u.aM/\bK prog 47 x.aM [str a.1,str a.2] 1 s=some (w,U)/\w.cells=#[w]/\w.oneCell'=true/\Has U nd (.cells (aY xs) 44 nf)/\(aY xs)[k*5+4]?=some x.aM /\
   BT (U.set nd (some (.cells (putAt (aY xs) (k*5+4) [w]) 44 nf))) b nv rv av (xs.set k { x with aM:=w }) (σ.iI k (u.aM++[a]))/\bG b s (U.set nd (some (.cells (putAt (aY xs) (k*5+4) [w]) 44 nf))):=by
 have⟨nd,nc,nf,x,Ql,L8,hx,hm,Qh⟩:=h.node hk;have YR:=hm.2.2.2.2;have F9:gM x.name=true:=by rw[hm.2.2.1];exact hHB
 have⟨w,U,e1,e2,e3,e4,e5,e6⟩:=OL YR a hl;have TO:∀y,blk x.aM y->b<y:=λy hy=>by
  rcases h.sp.1 k x y hx hy with z|z
  .grind
  .exact z.1
 have XN:∀y,blk x.aM y->∃cs fz,Has s y (.cells cs 47 fz):=λy hy=>by
  rcases YR with ⟨z,_⟩|⟨d,c,fz,z,q1,q2⟩
  .rw[z] at hy;exact(bR hy).elim
  .rw[z] at hy;rw[cH hy];exact⟨_,_,q1,q2⟩
 have dD:∀{y:Nat} {cs:Aq} {t:TypeId} {fz:Nat × Nat},Has s y (.cells cs t fz)->t≠47->¬blk x.aM y:=λhy ht z=>by have⟨_,_,z⟩:=XN _ z;exact hy.ne z ht rfl
 have c0:(aY xs)[k*5+4]?=some x.aM:=by rw[dt hx 4 dq];rfl
 have d1:=L8.fr e5 (dD L8 dq);have db:=h.b.fr e5 (dD h.b dq);have L5:aO (λy=>y=nd) U (U.set nd (some (.cells (putAt (aY xs) (k*5+4) [w]) 44 nf))):=aO.set (K:=λy=>y=nd) (aO.refl U) (λ_=>rfl) _;have L9:∀{y:Nat} {cs:Aq} {t:TypeId} {fz:Nat × Nat},Has U y (.cells cs t fz)->t≠44->y≠nd:=λhy ht=>hy.ne d1 ht;have g1:=db.fr L5 (L9 db dq);have dr:=h.r.fk e5 λy hy=>by have⟨_,_,z⟩:=h.r.blk hy;exact dD z dq
 have da:=h.a.fk e5 λy hy=>by have⟨_,_,z⟩:=h.a.blk hy;exact dD z dq
 have gr:=dr.fk L5 λy hy=>by have⟨_,_,z⟩:=dr.blk hy;exact L9 z dq
 have ga:=da.fk L5 λy hy=>by have⟨_,_,z⟩:=da.blk hy;exact L9 z dq
 have Yx:=vZ hx w;have ta:b<s.nx:=h.b.1;have hw:∀y,blk w y->s.nx<=y:=e6;have gw:bS (U.set nd (some (.cells (putAt (aY xs) (k*5+4) [w]) 44 nf))) w (u.aM++[a]):=e4.fk L5 λy hy z=>by have:=hw y hy;have:=L8.1;omega
 have hsk:σ.iI k (u.aM++[a])={ σ with nodes:=σ.nodes.set k { u with aM:=u.aM++[a] } }:=by unfold TS.iI;rw[gP hk]
 have T0:k<xs.length:=(gS.1 hx).1;refine⟨nd,nc,nf,x,w,U,Ql,hx,L8,YR,e1,e2,e3,d1,c0,?_,?_⟩
 .rw[hsk];refine⟨?_,g1,?_,?_,gr,ga,h.ra,λq hq=>?_,λq hq=>?_,h.ne,?_⟩
  .
   have key:∀(i:Nat) (z:bY),(xs.set k { x with aM:=w })[i]?=some z->(i≠k/\xs[i]?=some z)\/(i=k/\z={ x with aM:=w }):=λi z hz=>by grind
   have kF:∀(i:Nat) (z:bY) (y:Nat),xs[i]?=some z->blk z.aM y->y<s.nx:=λi z y hz hy=>by
    have hi:i<σ.nodes.length:=by rw[<-h.m.1];exact(gS.1 hz).1
    exact(h.m.2 i z _ hz (gE hi)).2.2.2.2.lt y hy
   refine⟨λi z y hz hy=>?_,λi j z z' y hz hz' hb hy G6=>?_⟩
   .rcases key i z hz with ⟨_,q⟩|⟨_,rfl⟩
    .exact h.sp.1 i z y q hy
    .grind
   .rcases key i z hz with ⟨_,q⟩|⟨rfl,rfl⟩
    .rcases key j z' hz' with ⟨_,q'⟩|⟨rfl,rfl⟩
     .exact h.sp.2 i j z z' y q q' hb hy G6
     .grind
    .grind
  .refine⟨nd,nc,nf,by rw[List.length_set,h.m.1];exact Ql,?_⟩;rw[Yx];exact d1.put _
  .refine⟨by rw[List.length_set,List.length_set];exact h.m.1,λi z v hz hv=>?_⟩;rw[List.getElem?_set] at hz hv;by_cases hi:k=i
   .subst hi;rw[ip rfl,ip T0] at hz;rw[ip rfl,ip Qh] at hv;cases hz;cases hv;exact⟨hm.1,hm.2.1,hm.2.2.1,hm.2.2.2.1,gw⟩
   .rw[iw hi] at hz hv;have⟨q1,q2,q3,q4,q5⟩:=h.m.2 i z v hz hv;refine⟨q1,q2,q3,q4,?_⟩;have r1:bS U z.aM v.aM:=q5.fk e5 λy hy G6=>hi (h.sp.2 k i x z y hx hz (TO y G6) G6 hy);refine r1.fk L5 λy hy=>?_;rcases r1 with ⟨e,_⟩|⟨d,c,fz,e,p1,p2⟩
    .rw[e] at hy;exact(bR hy).elim
    .rw[e] at hy;rw[cH hy];exact L9 (⟨p1,p2⟩:Has U d _) dq
  .have:=h.lt q hq;simpa using this
  .have:=h.la q hq;simpa using this
  .have:=h.sz;simpa using this
 .refine bG.mk' h.b g1 ?_ (.inl rfl) (.inl λ_ z=>z) (.inl λ_ z=>z);refine(e5.mono λy _ z=>?_).trans L5 λy hy z=>?_
  .have⟨cs,fz,q⟩:=XN y z;exact(KB.at h.b.2).2 (i3 (.inr ⟨TO y z,cs,fz,q.2⟩))
  .exact(KB.at h.b.2).2 (.inr (.inl (by rw[z,Ql];exact dj _ _ _)))
def qu(b i nd k n j:Nat)(ad:Option Addr)(cp:Nat)(x:Nq):TL:=[am b 0,num (i:Nat),.slice ad n cp,x 3,x 4,x 5,am nd (k*5)]++gD x 7 15++[.slice ad n cp,num (n:Nat),num (j:Nat)]++gD x 25 30
theorem Cd(a:fF)(p:Bq × Bq)(h:a.length<=100000):(dW a p).length<=100000:=by unfold dW;grind
theorem P0(aj:pr 225=none)(aw:∀f,f∈Ac->pr f=none)(h:BX s b σ)(hi:i<σ.row.length)(a7:gM (σ.kQ (σ.row.getD i 0)).name=true)(a8:(σ.kQ (σ.row.getD i 0)).aM.length<=100000){ad:Option Addr}(ha:bS s (.slice ad aF.length cp) aF)(au:∀y,blk (.slice ad aF.length cp) y->y<b)(ay:aF.length<=100000):∃s',Ef pr 225 #[am b 0,num (i:Nat),.slice ad aF.length cp] s (.tuple #[]) s'/\BX s' b (σ.give i aF)/\bG b s s':=by
 have⟨nv,rv,av,xs,h⟩:=h;have V:σ.row[i]?=some σ.row[i]:=gE hi;have hrg:σ.row.getD i 0=σ.row[i]:=by rw[tS,V];rfl
 unfold TS.give;rw[hrg] at a7 a8 |-;clear hrg;have ak:=h.lt _ (D3 hi);generalize σ.row[i]=k at V ak a7 a8 |-;have C:σ.nodes[k]?=some σ.nodes[k]:=gE ak;generalize σ.nodes[k]=u at C;rw[gP C] at a7 a8 |-;have⟨l,nc,nf,x,W,L8,hx,hm,Qh⟩:=h.node C;have⟨rd,rc,cs,rf,YG,Mc,Ox,K8,Sa⟩:=h.r.at V;have hb:=h.b;rw[W,YG] at hb;have l1:=bE (P:=prog) (t:=38) underlying38 rfl hb.2 (off:=0) rfl;have l2:=bE (P:=prog) (t:=25) underlying25 rfl hb.2 (off:=1) rfl;have l3:=bE (P:=prog) (t:=3) underlying3 rfl Ox.2 K8;clear hm hx;generalize hN:σ.nodes.length=N at *;generalize hR:σ.row.length=R at *;generalize hn:aF.length=n at *;refine EF.iy aj func225 rfl ?_;refine EW.seq (EW.draw kq kq kq ?_);iterate 3 refine zq ?_
 refine zt s (zu (yl b 0 (.slice (sq l) N nc) hb.2) ?_);iterate 3 refine zq ?_
 refine zt s (zu (yl b 1 (.slice (sq rd) R rc) hb.2) (zq (zu (yi rd 0 R rc i none .i64 (i:Nat) 1 oq oq oq) (zt s (zu (bw (b:=rd) (off:=i) (v:=num (k:Nat)) rfl underlying3 rfl kq Ox.2 K8) (zu (yi l 0 N nc (k*5) none .i64 (k:Nat) 5 oq oq oq) (zq (ET.nil ⟨aI [(aB prog 38 (am b 0) s,.slice (sq l) N nc),(aB prog 25 (am b 1) s,.slice (sq rd) R rc),(aB prog 3 (am rd i) s,num (k:Nat))] kq (Cq ⟨l1,rfl⟩ ⟨l2,rfl⟩ ⟨l3,rfl⟩),_,_,_,_,_,_,rfl,rfl,?_⟩))))))));refine za s (zs (za s (EW.fill (qu b i l k n 0 ad cp) kq ?_)));intro x0;refine EW.block ?_;refine EW.mono (EW.dG (Q:=λe H S=>e=.exit 0/\BX S b (σ.iI k (aF.foldl dW u.aM))/\bG b s S/\∃x,H=qu b i l k n n ad cp x) (λm H S=>∃j,j+m=n/\(∃K,BT S b nv rv av K (σ.iI k ((aF.take j).foldl dW u.aM)))/\((aF.take j).foldl dW u.aM).length<=100000/\bG b s S/\∃x,H=qu b i l k n j ad cp x) ?_ n _ _ ⟨0,by omega,⟨xs,by rw[List.take_zero];show BT s b nv rv av xs (σ.iI k u.aM);rw[GO C];exact h⟩,by rw[List.take_zero];exact a8,bG.refl _,x0,rfl⟩) ?_
 .rintro m H S ⟨j,ax,⟨K,hB⟩,a4,T,x1,rfl⟩;by_cases hm:0<m
  .have aa:j<aF.length:=oq
   have ae:aF[j]?=some aF[j]:=gE aa;have G5:aF.take (j+1)=aF.take j++[aF[j]]:=by rw[List.take_add_one,ae];rfl
   have⟨aq,ag⟩:=sT ae;generalize aF[j]=p at ae G5 ag;have⟨a,g⟩:=p;have E:(aF.take (j+1)).foldl dW u.aM=dW ((aF.take j).foldl dW u.aM) (a,g):=by rw[G5,List.foldl_append];rfl
   have ar:bS S (.slice ad n cp) aF:=ha.fb au ⟨_,_,_,_,h⟩ T;obtain⟨B,fz,hab,q1,q2⟩:∃B fz,ad=some ⟨B,0,none⟩/\B<S.nx/\S.get B=some (.cells (ft aF) 47 fz):=by
    rcases ar with ⟨_,z⟩|⟨B,cq,fz,z1,z2,z3⟩
    .rw[z] at aa;simp at aa
    .grind
   subst hab;have al:=uH C ((aF.take j).foldl dW u.aM);generalize hA:(aF.take j).foldl dW u.aM=A at *;have z1:(S.add (.cells #[str [],str []] 47)).get S.nx=some (.cells #[str [],str []] 47):=by rw[AS.bv,ip rfl]
   have z2:(S.add (.cells #[str [],str []] 47)).set S.nx (some (eh a g))=S.add (eh a g):=AS.set_set (⟨S.hp,S.nx+1⟩:AS) S.nx (some (.cells #[str [],str []] 47)) (some (eh a g));have b1:=hB.add (eh a g);have b2:=bG.add hB (eh a g);have b3:=Has.new S (eh a g);generalize Tg:S.add (eh a g)=G at *;have⟨nd1,nc1,nf1,y,a5,F,hy,Yq,Yi⟩:=b1.node al;have Sc:(σ.iI k A).nodes.length=N:=by unfold TS.iI;simp[hN]
   rw[Sc] at a5 Yi;rw[W] at a5;cases a5;have X:bS G y.aM A:=Yq.2.2.2.2;have c0:(aY K)[k*5+4]?=some y.aM:=by rw[dt hy 4 dq];rfl
   have⟨L,M,ao⟩:=X.len;rw[ao] at c0 X;have⟨D,k1,k2⟩:=Qb (pr:=pr) aw b3 X a4;refine zr (zp (yb (num (j:Nat)) (num (n:Nat)) (aX (b:=true) (tD oq))) (EO.nil (za S (EW.seq (zT (EW.seq (EW.block (zr (zp (yi B 0 n cp (j*2) none .i64 (j:Nat) 2 oq oq oq) (zo S (zp (rB (b:=B) (off:=j*2) (n:=2) (r:=#[str a,str g]) rfl underlying47 rfl kq kq q2 aq ag) (zg 1 (S.add (.cells #[str [],str []] 47)) (zp (fx (b:=S.nx) (off:=0) (w:=.agg #[str a,str g]) (ws:=[str a,str g]) rfl kq kq rfl rfl kq z1 (by show 0+2<=2;decide)) (EO.nil (za ((S.add (.cells #[str [],str []] 47)).set S.nx (some (eh a g))) ?_)))))))))))))));rw[z2];refine zs (za G (zr (zg 3 G (zp (bw (b:=l) (off:=k*5+4) (v:=.slice L A.length M) rfl underlying42 rfl kq F.2 c0) (zk 1 ?_)))));have o:∀(S':AS) (af:List bY) (J:Nq),BT S' b nv rv av af (σ.iI k (dW A (a,g)))->bG b s S'->Ew pr (match Tryz.f225.body with|some (.seq _ (.seq _ (.block _ (.loop (.seq _ (.seq _ (.seq _ c)))))))=>c|_=>.skip) (qu b i l k n j (sq B) cp J) S' (λe H S=>match e with|.normal=>∃m',m'<m/\∃j,j+m'=n/\(∃K,BT S b nv rv av K (σ.iI k ((aF.take j).foldl dW u.aM)))/\((aF.take j).foldl dW u.aM).length<=100000/\bG b s S/\∃x,H=qu b i l k n j (sq B) cp x|e=>e=.exit 0/\BX S b (σ.iI k (aF.foldl dW u.aM))/\bG b s S/\∃x,H=qu b i l k n n (sq B) cp x):=by intro S' af J hT' VH;refine zx (zp (yp ((j:Nat):Int) 1 ((j+1:Nat):Int) oq oq) (zf ?_));exact⟨m-1,by omega,j+1,by omega,⟨af,by rw[E];exact hT'⟩,by rw[E];exact Cd _ _ a4,VH,aR kq⟩
   by_cases ai:A.length<20
   .refine zp (yb (num (A.length:Nat)) (num 20) (aX (b:=true) (tD oq))) (zg 4 G (zp (bw (b:=l) (off:=k*5+4) (v:=.slice L A.length M) rfl underlying42 rfl kq F.2 c0) (zk 1 (zo G (zc 0 k1 ?_)))));have a9:=b1.fk k2 λ_ _ _ _ _ z=>z.elim;have Y:bG b G D:=(BX.fk (σ:=σ.iI k A) ⟨_,_,_,_,b1⟩ k2).2;cases Td:A.any λp=>cw p.1 a with
    | true =>
     have hg:dW A (a,g)=A:=by unfold dW;rw[iw (by simp only[Td];simp)]
     refine zf (za D (zF (EW.fill (qu b i l k n j (sq B) cp) kq ?_)));intro J;exact o D _ J (by rw[hg];exact a9) ((T.trans b2).trans Y)
    | false =>
     have hg:dW A (a,g)=A++[(a,g)]:=by unfold dW;rw[ip (by simp only[Td];simp[ai])]
     have ah:=b3.fr k2 id;have c1:=a9.add (eh a g);have c2:=bG.add a9 (eh a g);have c5:=Has.new D (eh a g);have⟨nd2,nc2,nf2,y2,w,U,f1,f2,f3,f4,f5,f6,f7,f8,f9,Z,f11⟩:=c1.more al (by exact a7) (a,g) a4;rw[Sc,W] at f1;cases f1;rw[hy] at f2;cases f2;rw[ao] at f4 f5 f9;have I:=F.fr k2 id;have O:(aY K)[k*5+4]?=some (.slice L A.length M):=c0;have l4:=bE (P:=prog) (t:=42) underlying42 rfl I.2 O;have l5:aB prog 47 (am S.nx 0) D=some (.agg #[str a,str g]):=gN (n:=2) underlying47 rfl kq ah.2 iq;have XW:dR (.slice L A.length M) (sq D.nx)=true:=gv λy hy=>by have:=X.lt y hy;have:=k2.1;omega
     rw[GP C] at Z;refine zf (za D (zH ?_));refine EW.draw kq kq kq ?_;iterate 4 refine zq ?_
     refine zt D (zu (bw (b:=l) (off:=k*5+4) (v:=.slice L A.length M) rfl underlying42 rfl kq I.2 O) (zu (yA S.nx 0 2 #[str a,str g] ah.2 iq) (zq (zt (D.add (eh a g)) (zu (gl (sl:=.slice L A.length M) (news:=[str a,str g]) (d:=D.nx) (m:=1) (k:=1) (sz:=2) (z:=.agg #[str [],str []]) (bytes:=32) rfl kq kq underlying42 kq rfl dq dq kq c5.2 XW dq iq iq rfl f5) ?_)))));iterate 2 refine zq ?_
     refine zt U (zu (gA (b:=l) (off:=k*5+4) (w:=w) rfl kq kq f6 f7 kq f8.2 (by have:=(oK.1 O).1;omega)) (ET.nil ⟨aI [(aB prog 42 (am l (k*5+4)) D,.slice L A.length M),(aB prog 47 (am S.nx 0) D,.agg #[str a,str g])] kq (iD ⟨l4,X.og.1⟩ ⟨l5,rfl⟩),_,_,_,_,_,_,rfl,rfl,?_⟩));refine za (U.set l (some (.cells (putAt (aY K) (k*5+4) [w]) 44 nf2))) (EW.fill (qu b i l k n j (sq B) cp) kq ?_);intro J;exact o _ _ J (by rw[hg];exact Z) ((((T.trans b2).trans Y).trans c2).trans f11)
   .have hg:dW A (a,g)=A:=by unfold dW;rw[iw (by simp only[fD ai];simp)]
    refine zp (yb (num (A.length:Nat)) (num 20) (aX (b:=false) (fD oq))) (zf (za G (zF (EW.fill (qu b i l k n j (sq B) cp) kq ?_))));intro J;exact o G _ J (by rw[hg];exact b1) (T.trans b2)
  .obtain rfl:j=n:=oq
   rw[tL oq] at hB;exact zr (zp (yb (num (j:Nat)) (num (j:Nat)) (aX (b:=false) (fD oq))) (EO.nil (EW.seq (zG (EW.exit ⟨rfl,⟨_,_,_,_,hB⟩,T,aR kq⟩)))))
 .rintro e H S ⟨rfl,hX,T,x1,rfl⟩;exact⟨.inl rfl,kq,hX,T⟩
theorem aK.S9(k:∀f,f∈dJ->pr f=none)(O:∀f,f∈Ac->pr f=none)(K:pr 127=bu 127)(F:cD σ [nm]=(i:Nat))(L:gM (σ.kQ (σ.row.getD i 0)).name=true)(M:(σ.kQ (σ.row.getD i 0)).aM.length<=100000)(N:aF.length<=100000):aK pr b t aF ⟨224,[nm],[]⟩ σ (σ.give i aF) false:=by
 intro z s x h Y n;have⟨x',Q,P,d2,d3,d4,_⟩:=Y;cases Q;have⟨g,j,a,p,e⟩:=t;have n:bS s p aF:=n;have⟨c,d,v⟩:=n.len;subst v;have G:=h.add (dF ⟨g,j,a,.slice c aF.length d,e⟩);have y:=Has.new s (dF ⟨g,j,a,.slice c aF.length d,e⟩);have H:=(h.fk ((aO.refl s).add (dF ⟨g,j,a,.slice c aF.length d,e⟩))).2;have I:bS (s.add (dF ⟨g,j,a,.slice c aF.length d,e⟩)) (.slice c aF.length d) aF:=n.fk ((aO.refl s).add _) λ_ _=>id;obtain⟨B,nm',q1,rfl,W⟩:=P (.inl rfl);cases q1;have l:=W.add (dF ⟨g,j,a,.slice c aF.length d,e⟩);generalize X:s.add (dF ⟨g,j,a,.slice c aF.length d,e⟩)=S at *;have w:i<σ.row.length:=by have:=jR σ [nm];rw[F] at this;omega
 have⟨nv,rv,av,xs,u⟩:=G;have A:=u.add (.cells ([nm].map str).toArray 9);have C:=bG.add u (.cells ([nm].map str).toArray 9);have D:=uh (k 222 dq) (k 231 dq) (k 232 dq) K A (cU.new S [nm] 1 rfl gq);rw[F] at D;have E:=y.add (.cells ([nm].map str).toArray 9);have Z:=bE underlying9 rfl l.2 (off:=0) rfl;have l2:=bE underlying42 rfl y.2 (off:=3) rfl;have l3:=bE underlying42 rfl E.2 (off:=3) rfl;generalize r:S.add (.cells ([nm].map str).toArray 9)=m at *;have J:bS m (.slice c aF.length d) aF:=I.fb z ⟨_,_,_,_,u⟩ C;have⟨U,R,T,V⟩:=P0 (k 225 dq) O (⟨_,_,_,_,A⟩:BX m b σ) w L M J z N;generalize aF.length=o at *;refine EF.iy (k 224 dq) func224 rfl ?_;refine zs (za (s.add (dF ⟨g,j,a,.slice c o d,e⟩)) ?_);rw[X];refine EW.seq (EW.draw kq kq kq ?_);iterate 2 refine zq ?_
 refine zt S (zu (yl B 0 (str nm) l.2) (zq (zt (S.add (.cells ([nm].map str).toArray 9)) ?_)));rw[r];refine yt D (zq (zt m (zu (yl s.nx 3 (.slice c o d) E.2) (yt R (ET.nil ⟨aI [(aB prog 9 (am B 0) S,str nm),(aB prog 42 (am s.nx 3) S,.slice c o d),(aB prog 42 (am s.nx 3) m,.slice c o d)] kq (Cq ⟨Z,rfl⟩ ⟨l2,by cases c<;>rfl⟩ ⟨l3,by cases c<;>rfl⟩),_,_,_,_,_,_,rfl,rfl,?_⟩)))));refine za U (zs (za U ?_));exact EW.ret ⟨.inr rfl,kq,T,(H.trans C).trans V⟩
end
def Dg(pr:Prim):Prop:=∀(s:AS) (v:Value) (l:List Nat) (i:Nat),eS s v l->i<l.length->∃v' s',EF prog kg pr 323 #[v,num (i:Nat),num ((i+1:Nat):Int)] s v' s'/\v'.cells=#[v']/\v'.oneCell'=true/\eS s' v' (l.eraseIdx i)/\aO (λy=>blk v y) s s'/\∀y,blk v' y->blk v y
def TS.nR(σ:TS)(nm:Bq):Nat->Option Nat
 | 0=>none
 | k+1=>if cw (σ.kQ (σ.again.getD k 0)).name nm=true then some k else σ.nR nm k
def TS.forget(σ:TS)(nm:Bq):TS:=match σ.nR nm σ.again.length with
 | none=>σ
 | some i=>{ σ with again:=σ.again.eraseIdx i }
section
variable {aF:fF}{av:Value}{nm:Bq}
def OS(b:Nat)(nm:Bq)(i:Int)(x:Nq):TL:=[am b 0,str nm,x 2,x 3,num i]++gD x 5 37
theorem IB(a4:pr 245=none)(hD:Dg pr)(h:BX s b σ)(a8:σ.again.length<=50000):∃s',Ef pr 245 #[am b 0,str nm] s (.tuple #[]) s'/\BX s' b (σ.forget nm)/\bG b s s':=by
 have⟨L,G,av,xs,h⟩:=h;have⟨aad,f,C⟩:=h.a.len;have l:=h.b;rw[C] at l;refine EF.iy a4 func245 rfl (zr (zg 3 s (zp (yl b 2 (.slice aad σ.again.length f) l.2) (zk 1 (zp (gJ (i:=((σ.again.length:Nat):Int)) (j:=1) (r:=((σ.again.length:Nat):Int)-1) rfl kq kq oq oq) (zf (za s (EW.fill (OS b nm (((σ.again.length:Nat):Int)-1)) kq ?_))))))));intro x0;refine EW.block ?_;refine EW.mono (EW.dG (Q:=λe M S=>(e=.exit 0\/e=.ret)/\c8 prog Tryz.f245 M S=some (.tuple #[])/\BX S b (σ.forget nm)/\bG b s S) (λm M S=>S=s/\m<=σ.again.length/\σ.nR nm m=σ.nR nm σ.again.length/\∃x,M=OS b nm (((m:Nat):Int)-1) x) ?_ σ.again.length _ _ ⟨rfl,lr,rfl,x0,rfl⟩) ?_
 .rintro m M S ⟨rfl,a9,g,x1,rfl⟩;match m with
  | 0 =>
   refine EW.seq (zr (zf (za S (zG (EW.exit ?_)))));have hf:σ.forget nm=σ:=by unfold TS.forget;rw[<-g];rfl
   exact⟨.inl rfl,kq,by rw[hf];exact⟨_,_,_,_,h⟩,bG.refl S⟩
  | k+1 =>
   have a3:k<σ.again.length:=oq
   have a5:σ.again[k]?=some σ.again[k]:=gE a3;have V:σ.again.getD k 0=σ.again[k]:=gq
   replace g:(if cw (σ.kQ (σ.again.getD k 0)).name nm=true then some k else σ.nR nm k)=σ.nR nm σ.again.length:=g;rw[V] at g;have a6:=h.la _ (D3 a3);generalize σ.again[k]=q at a5 g a6;clear V;have D:σ.nodes[q]?=some σ.nodes[q]:=gE a6;generalize σ.nodes[q]=u at D;rw[gP D] at g;have⟨J,nc,nf,y,Y,W,c,Yq,hql⟩:=h.node D;have⟨F,rc,H,rf,Z,Mc,E,T,Sa⟩:=h.a.at a5;rw[C] at Z;cases Z;rw[Y] at l;have X:(aY xs)[q*5+2]?=some (str u.name):=by rw[dt c 2 dq,<-Yq.2.2.1];rfl
   have l1:=bE (P:=prog) (t:=38) underlying38 rfl l.2 (off:=0) rfl;have l2:=bE (P:=prog) (t:=25) underlying25 rfl l.2 (off:=2) rfl;have l3:=bE (P:=prog) (t:=3) underlying3 rfl E.2 T;have l4:=bE (P:=prog) (t:=9) underlying9 rfl W.2 X;have R:=hD S _ _ k h.a a3;rw[C] at R;have Ot:(((k+1:Nat):Int)-1)=((k:Nat):Int):=oq
   rw[Ot];have a7:=h.ra;generalize hNN:σ.nodes.length=N at *;generalize hA9:σ.again.length=A at *;refine EW.seq (zr (zk 1 (zp (yb (num (k:Nat)) (num 0) (eZ (b:=true) (tD oq))) (EO.nil (za S (zT (EW.seq (EW.block (EW.seq (EW.draw kq kq kq ?_))))))))));iterate 3 refine zq ?_
   refine zt S (zu (yl b 0 (.slice (sq J) N nc) l.2) ?_);iterate 3 refine zq ?_
   refine zt S (zu (yl b 2 (.slice (sq F) A f) l.2) (zq (zu (yi F 0 A f k none .i64 (k:Nat) 1 oq oq oq) (zt S (zu (bw (b:=F) (off:=k) (v:=num (q:Nat)) rfl underlying3 rfl kq E.2 T) (zu (yi J 0 N nc (q*5) none .i64 (q:Nat) 5 oq oq oq) (zq (zt S (zu (bw (b:=J) (off:=q*5+2) (v:=str u.name) rfl underlying9 rfl kq W.2 X) (zq (zu (yb (str u.name) (str nm) (dP rfl)) (ET.nil ⟨aI [(aB prog 38 (am b 0) S,.slice (sq J) N nc),(aB prog 25 (am b 2) S,.slice (sq F) A f),(aB prog 3 (am F k) S,num (q:Nat)),(aB prog 9 (am J (q*5+2)) S,str u.name)] kq (QF ⟨l1,rfl⟩ ⟨l2,rfl⟩ ⟨l3,rfl⟩ ⟨l4,rfl⟩),_,_,_,_,_,_,rfl,rfl,?_⟩))))))))))));refine za S ?_;cases hq:cw u.name nm with
   | true =>
    rw[hq,ip rfl] at g;have⟨B,U,e1,e2,e3,e4,I,e6⟩:=R;have h3:∀{y:Nat} {H:Aq} {t:TypeId} {O:Nat × Nat},Has S y (.cells H t O)->t≠3->¬blk (.slice (sq F) A f) y:=λc ht z=>by rw[cH z] at c;exact c.ne E ht rfl
    have d1:=l.fr I (h3 l dq);have hfg:σ.forget nm=⟨σ.nodes,σ.row,σ.again.eraseIdx k,σ.w⟩:=by unfold TS.forget;rw[hA9,<-g]
    have a1:BT (U.set b (some (jB L G B σ.w))) b L G B xs ⟨σ.nodes,σ.row,σ.again.eraseIdx k,σ.w⟩/\bG b S (U.set b (some (jB L G B σ.w))):=by
     have db:=h.b.fr I (h3 h.b dq);have o:aO (λy=>y=b) U (U.set b (some (jB L G B σ.w))):=aO.set (K:=λy=>y=b) (aO.refl U) (λ_=>rfl) _;have d:∀{y:Nat} {H:Aq} {t:TypeId} {O:Nat × Nat},Has U y (.cells H t O)->t≠183->y≠b:=λc ht=>c.ne db ht;have g1:=db.put (jB L G B σ.w);have dn:=h.n.fk I λy c=>by have⟨_,_,z⟩:=h.n.blk c;exact h3 z dq
     have dr:=h.r.fk I λy c z=>a7 y c gq;have dm:=h.m.fk I λy H O c=>h3 c dq;have ge:aO (KB b S) S U:=I.mono λy _ z=>(KB.at h.b.2).2 (i3 (.inl gq));have gf:aO (KB b S) S (U.set b (some (jB L G B σ.w))):=aO.set ge (λ_=>.inl rfl) _;refine⟨⟨h.sp,g1,dn.fk o λy c=>by have⟨_,_,z⟩:=dn.blk c;exact d z dq,dm.fk o λy H O c=>d c dq,dr.fk o λy c=>by have⟨_,_,z⟩:=dr.blk c;exact d z dq,e4.fk o λy c=>by have⟨_,_,z⟩:=e4.blk c;exact d z dq,λy c hz=>?_,h.lt,λp hp=>h.la p (List.mem_of_mem_eraseIdx hp),h.ne,⟨h.sz.1,h.sz.2.1,?_⟩⟩,bG.mk' h.b g1 gf (.inl rfl) (.inl λ_ z=>z) ?_⟩;iterate 3
      .grind
    rw[hfg];refine zH (zr (zg 4 S (zp (yl b 2 (.slice (sq F) A f) l.2) (zk 2 (zp (yp ((k:Nat):Int) 1 ((k+1:Nat):Int) oq oq) (zo S (zc 0 e1 (zg 2 U (zp (gA (b:=b) (off:=2) (w:=B) rfl kq kq e2 e3 kq d1.2 iq) (EO.nil ?_))))))))));rw[Y] at a1;exact za (U.set b (some (jB (.slice (sq J) N nc) G B σ.w))) (EW.ret ⟨.inr rfl,kq,⟨_,_,_,_,a1.1⟩,a1.2⟩)
   | false =>rw[hq,iw dq] at g;refine zF (zx (zk 1 (zp (gJ (i:=((k:Nat):Int)) (j:=1) (r:=((k:Nat):Int)-1) rfl kq kq oq oq) (zf ?_))));exact⟨k,by omega,rfl,by omega,g,aR kq⟩
 .rintro e M S ⟨he,h1,h2,h3⟩;rcases he with rfl|rfl
  .exact⟨.inl rfl,h1,h2,h3⟩
  .exact⟨.inr rfl,h1,h2,h3⟩
theorem aK.S5(a:∀f,f∈dJ->pr f=none)(p:pr 245=none)(o:pr 127=bu 127)(G:Dg pr)(F:bC σ aL [nm] = -1)(q:σ.again.length<=50000):aK pr b t aF ⟨244,[nm],[]⟩ σ (σ.forget nm) false:=by refine aK.go (a 244 dq) func244 rfl λs S x K O r u L y w J H P I d Q R=>?_;subst J;have⟨x',A,z,V,W,X,_⟩:=I;cases A;obtain⟨B,M,N,rfl,g⟩:=z (.inr (.inr rfl));cases N;have⟨Y,Z,T,xs,i⟩:=d;have d:BX S b σ:=⟨_,_,_,_,i⟩;have e:=i.add (.cells ([nm].map str).toArray 9);have j:=bG.add i (.cells ([nm].map str).toArray 9);have k:=xz (a 243 dq) (a 131 dq) (a 235 dq) (a 222 dq) (a 231 dq) (a 232 dq) o e (cU.new S [nm] 1 rfl gq);rw[F] at k;generalize h:S.add (.cells ([nm].map str).toArray 9)=n at *;have v:=e.add (.cells (aL.map str).toArray 9);have l:=bG.add e (.cells (aL.map str).toArray 9);generalize n.add (.cells (aL.map str).toArray 9)=c at *;have m:=g.fr (j.trans l).1 (d.no g dq dq dq);have⟨U,C,D,E⟩:=IB (nm:=nm) p G (⟨_,_,_,_,v⟩:BX c b σ) q;refine zs (za (s.add (dF ⟨K,O,r,.slice u L y,w⟩)) ?_);rw[H];refine EW.seq (zr (zg 1 S (zp (yl B 0 (str nm) g.2) (zk 1 (zo (S.add (.cells ([nm].map str).toArray 9)) ?_)))));rw[h];exact zc 0 k (zf (za c (zr (zf (za c (zG (zx (zg 1 c (zp (yl B 0 (str nm) m.2) (zc 0 C (EO.nil (za U (zs (za U (EW.ret ⟨.inr rfl,kq,D,(j.trans l).trans E⟩)))))))))))))))
end
abbrev Sk:=Int × Int × Bq
def yz (u:Nd):Sk:=(u.kind,u.parent,u.name)
def dY (l:List Nd):List Sk:=l.map yz
abbrev me:Bq:=[104,116,109,108]
def B3 (ds:List Nat)(x:Sk):List Nat:=ds++[if ds=[] then 0 else ds.getD x.2.1.toNat 0+1]
def fT (ks:List Sk):List Nat:=ks.foldl B3 []
def ly(ks:List Sk)(p:Nat):Int:=ks.foldl (λa x=>if x.2.1=((p:Nat):Int) then x.1 else a) 0
def kids (ks:List Sk):List (Bq):=ks.foldl (λa x=>if x.2.1=0/\x.1=1 then a++[x.2.2] else a) []
def jy (ks:List Sk)(i:Nat):Nat:=match ks[i]? with
 | some x=>x.2.1.toNat
 | none=>0
def KO (ks:List Sk):Nat->Nat->Nat
 | 0,i=>i
 | n+1,i=>KO ks n (jy ks i)
def mJ (ks:List Sk)(i k:Nat):Prop:=∃n,KO ks n i=k
def O3 (pre:List Sk)(x:Sk):Prop:=∃p:Nat,x.2.1=((p:Nat):Int)/\p<pre.length/\(∃q nm,pre[p]?=some (1,q,nm)/\aH nm dH=false)/\(x.1=1\/x.1=2\/x.1=3)/\(fT pre).getD p 0+1<=40/\mJ pre (pre.length-1) p/\(x.1=2->ly pre p≠2/\p≠0)/\(p=0->x.1=1->(x.2.2=gg/\kids pre=[])\/(x.2.2=pd/\kids pre=[gg]))
def oC (ks:List Sk):Prop:=∀(i:Nat) (x:Sk),1<=i->ks[i]?=some x->O3 (ks.take i) x
structure Gc(ks:List Sk)(row:List Nat):Prop where
 ok:oC ks
 n0:ks[0]?=some (1,-1,me)
 r0:row[0]?=some 0
 lt:∀k∈row,k<ks.length
 el:∀k∈row,∃q nm,ks[k]?=some (1,q,nm)/\aH nm dH=false
 V5:∀(j k k':Nat),row[j]?=some k->row[j+1]?=some k'->jy ks k'=k
 Xf:∀k∈row,mJ ks (ks.length-1) k
 Og:∀(j k:Nat),row[j]?=some k->(fT ks).getD k 0=j
 VX:∀(j k:Nat),row[j]?=some k->j+1<row.length->ly ks k≠2
 lc2:ly ks (row.getLastD 0)=2->∃nm,ks[ks.length-1]?=some (2,((row.getLastD 0:Nat):Int),nm)
 len:row.length<=40
section
variable {ks:List Sk}{row:List Nat}{x:Sk}{i k:Nat}
def qX(ks:List Sk)(x:Sk):fT (ks++[x])=B3 (fT ks) x:=by unfold fT;rw[List.foldl_append];rfl
def mU:∀(ks:List Sk),(fT ks).length=ks.length:=by
 intro ks;unfold fT;have:∀(l:List Sk) (a:List Nat),(l.foldl B3 a).length=a.length+l.length:=by
  intro l;induction l with
  | nil=>intro a;rfl
  | cons y l b=>intro a;rw[List.foldl_cons,b];simp[B3];omega
 rw[this];simp
def jS(ks:List Sk)(x:Sk)(p:Nat):ly (ks++[x]) p=if x.2.1=((p:Nat):Int) then x.1 else ly ks p:=by unfold ly;rw[List.foldl_append];rfl
def nV(ks:List Sk)(x:Sk):kids (ks++[x])=if x.2.1=0/\x.1=1 then kids ks++[x.2.2] else kids ks:=by unfold kids;rw[List.foldl_append];rfl
def wj(h:i<ks.length):jy (ks++[x]) i=jy ks i:=by unfold jy;rw[vA h]
theorem AV(h:oC ks)(hi:1<=i)(U:i<ks.length):jy ks i<i:=by have⟨p,h1,h2,_⟩:=h i _ hi (gE U);unfold jy;grind
def QX(h:ks[0]?=some (1,-1,me)):jy ks 0=0:=by unfold jy;rw[h];rfl
def xO(h:oC ks)(a:ks[0]?=some (1,-1,me))(c:i<ks.length):jy ks i<=i:=by
 by_cases b:i=0
 .subst b;rw[QX a];exact jl _
 .exact Nat.le_of_lt (AV h oq c)
def E5(h:oC ks)(h0:ks[0]?=some (1,-1,me)):∀(n i:Nat),i<ks.length->KO (ks++[x]) n i=KO ks n i
 | 0,i,_=>rfl
 | n+1,i,hl=>by show KO (ks++[x]) n (jy (ks++[x]) i)=KO ks n (jy ks i);rw[wj hl];exact E5 h h0 n _ (Nat.lt_of_le_of_lt (xO h h0 hl) hl)
def mJ.snoc(h:oC ks)(a:ks[0]?=some (1,-1,me))(c:i<ks.length)(b:mJ ks i k):mJ (ks++[x]) i k:=by have⟨n,d⟩:=b;exact⟨n,by rw[E5 h a n i c];exact d⟩
def mJ.step(a:mJ ks (jy ks i) k):mJ ks i k:=by have⟨n,b⟩:=a;exact⟨n+1,b⟩
theorem oC.snoc(h:oC ks)(b:O3 ks x):oC (ks++[x]):=by
 intro i y a U;rcases Nat.lt_trichotomy i ks.length with hl|hl|hl
 .rw[vA hl] at U;rw[List.take_append_of_le_length oq];exact h i y a U
 .grind
 .grind
def Gc.ne(h:Gc ks row):row≠[]:=λe=>by have:=h.r0;rw[e] at this;cases this
def Gc.cur(h:Gc ks row):row[row.length-1]?=some (row.getLastD 0):=by
 rw[List.getLastD_eq_getLast?,<-List.getLast?_eq_getElem?];cases hq:row.getLast? with
 | none=>exact absurd (List.getLast?_eq_none_iff.1 hq) h.ne
 | some y=>rfl
def Gc.SN(h:Gc ks row):row.getLastD 0∈row:=mG h.cur
def Gc.HH(h:Gc ks row):∀(m j k:Nat),j+m+1=row.length->row[j]?=some k->mJ ks (row.getLastD 0) k
 | 0,j,k,hj,hk=>by have:=h.cur;rw[show row.length-1=j by omega,hk] at this;cases this;exact⟨0,rfl⟩
 | m+1,j,k,hj,hk=>by
  have b:j+1<row.length:=oq
  have h1:row[j+1]?=some row[j+1]:=gE b;have⟨n,c⟩:=h.HH m (j+1) _ oq h1;have d:=h.V5 j k _ hk h1;have a:∀(n i:Nat),KO ks (n+1) i=jy ks (KO ks n i):=by
   intro n;induction n with
   | zero=>intro i;rfl
   | succ n e=>intro i;exact e (jy ks i)
  exact⟨n+1,by rw[a,c];exact d⟩
theorem Gc.put(h:Gc ks row)(n:x.2.1=((row.getLastD 0:Nat):Int))(U:x.1=1\/x.1=2\/x.1=3)(u:x.1=2->ly ks (row.getLastD 0)≠2/\row.getLastD 0≠0)(h1:row.getLastD 0=0->x.1=1->(x.2.2=gg/\kids ks=[])\/(x.2.2=pd/\kids ks=[gg])):Gc (ks++[x]) row:=by
 have i:=h.SN;have b:=h.lt _ i;have s:=h.Og _ _ h.cur;have o:=h.len;have t:0<row.length:=Eg.2 h.ne;have g:O3 ks x:=⟨row.getLastD 0,n,b,h.el _ i,U,by omega,h.Xf _ i,u,h1⟩;have m:=h.ok.snoc g;have f:jy (ks++[x]) ks.length=row.getLastD 0:=by unfold jy;rw[Bp lr,Nat.sub_self];show x.2.1.toNat=_;rw[n,xn]
 have p:∀k∈row,mJ (ks++[x]) ks.length k:=λk U=>by
  have⟨j,a,w⟩:=List.mem_iff_getElem.1 U;have d:row[j]?=some k:=gq
  refine mJ.step ?_;rw[f];exact(h.HH (row.length-1-j) j k oq d).snoc h.ok h.n0 b
 refine⟨m,by rw[vA oq];exact h.n0,h.r0,λk U=>by have:=h.lt k U;simp;omega,λk U=>by rw[vA (h.lt k U)];exact h.el k U,λj k v a c=>by rw[wj (h.lt _ (mG c))];exact h.V5 j k v a c,λk U=>by rw[lA,List.length_singleton,Nat.add_sub_cancel];exact p k U,λj k a=>?_,λj k a l=>?_,λl=>?_,h.len⟩
 .rw[qX];unfold B3;rw[tS,vA (by rw[mU];exact h.lt _ (mG a)),<-tS];exact h.Og j k a
 .rw[jS];split
  .next e =>
   exfalso;have r:k=row.getLastD 0:=gq
   have q:=h.Og j k a;rw[r] at q;omega
  .exact h.VX j k a l
 .rw[jS,ip n] at l;grind
theorem Gc.push(h:Gc ks row)(I:row.length<40)(s:x.2.1=((row.getLastD 0:Nat):Int))(m:x.1=1)(J:aH x.2.2 dH=false)(h1:row.getLastD 0=0->(x.2.2=gg/\kids ks=[])\/(x.2.2=pd/\kids ks=[gg])):Gc (ks++[x]) (row++[ks.length]):=by
 have g:=h.put s (.inl m) (λe=>by rw[m] at e;cases e) (λe _=>h1 e);have A:=h.SN;have B:=h.lt _ A;have t:0<row.length:=Eg.2 h.ne;have r:(row++[ks.length]).getLastD 0=ks.length:=gq
 have E:(ks++[x])[ks.length]?=some x:=gq
 have G:ly (ks++[x]) ks.length≠2:=by
  rw[jS,iw gq];have b:∀(l:List Sk) (n:Nat),(∀y∈l,y.2.1≠((n:Nat):Int))->ly l n=0:=by
   intro l n f;unfold ly;have:∀(l:List Sk) (a:Int),(∀y∈l,y.2.1≠((n:Nat):Int))->l.foldl (λa x=>if x.2.1=((n:Nat):Int) then x.1 else a) a=a:=by
    intro l;induction l with
    | nil=>intro a _;rfl
    | cons y l K =>grind
   exact this l 0 f
  rw[b ks ks.length λy C e=>?_]
  .decide
  .have⟨i,H,F⟩:=List.mem_iff_getElem.1 C;by_cases o:i=0
   .subst o
    have:=h.n0;grind
   .have⟨p,L,M,_⟩:=h.ok i y oq gq;grind
 have b:∀(j k:Nat),(row++[ks.length])[j]?=some k->row[j]?=some k\/(j=row.length/\k=ks.length):=λj k d=>by grind
 have c:∀k∈row++[ks.length],k∈row\/k=ks.length:=λk U=>by simpa using U
 have D:mJ (ks++[x]) ks.length ks.length:=⟨0,rfl⟩;refine⟨g.ok,g.n0,by rw[vA t];exact h.r0,λk U=>?_,λk U=>?_,λj k u d v=>?_,λk U=>?_,λj k d=>?_,λj k d f=>?_,λf=>?_,by simp;omega⟩
 .rcases c k U with q|rfl
  .exact g.lt k q
  .simp
 .rcases c k U with q|rfl
  .exact g.el k q
  .grind
 .rcases b j k d with q|⟨rfl,rfl⟩
  .rcases b (j+1) u v with q'|⟨e,rfl⟩
   .exact g.V5 j k u q q'
   .have:=h.cur;rw[show row.length-1=j by omega,q] at this;cases this;unfold jy;grind
  .grind
 .rcases c k U with q|rfl
  .exact g.Xf k q
  .grind
 .rcases b j k d with q|⟨rfl,rfl⟩
  .exact g.Og j k q
  .rw[qX];unfold B3;have z:fT ks≠[]:=λe=>by have:=mU ks;rw[e] at this;simp at this;omega
   rw[tS,Bp (by rw[mU];exact lr),mU,Nat.sub_self,iw z];show(fT ks).getD x.2.1.toNat 0+1=_;rw[s,xn,h.Og _ _ h.cur];omega
 .rcases b j k d with q|⟨rfl,rfl⟩
  .by_cases w:j+1<row.length
   .exact g.VX j k q w
   .have:=h.cur;rw[show row.length-1=j by have:=(gS.1 q).1;omega,q] at this;cases this;rw[jS,ip s,m];decide
  .simp at f
 .grind
theorem Gc.take(h:Gc ks row)(hi:1<=i):Gc ks (row.take i):=by
 by_cases m:row.length<=i
 .rw[tL m];exact h
 have a:∀(j k:Nat),(row.take i)[j]?=some k->row[j]?=some k/\j<i:=λj k c=>by grind
 have b:∀k∈row.take i,k∈row:=λk U=>List.mem_of_mem_take U;have f:(row.take i).length=i:=gq
 have l:row[i-1]?=some ((row.take i).getLastD 0):=gq
 refine⟨h.ok,h.n0,by rw[Bu,ip oq];exact h.r0,λk U=>h.lt k (b k U),λk U=>h.el k (b k U),λj k g c e=>h.V5 j k g (a j k c).1 (a _ g e).1,λk U=>h.Xf k (b k U),λj k c=>h.Og j k (a j k c).1,λj k c d=>h.VX j k (a j k c).1 gq,λd=>absurd d (h.VX (i-1) _ l oq),by rw[f];have:=h.len;omega⟩
theorem Gc.zero:Gc [(1,-1,me)] [0]:=by
 have d:∀(j k:Nat),[0][j]?=some k->j=0/\k=0:=λj k b=>by grind
 refine⟨λi y e f=>?_,rfl,rfl,λk a=>by simp at a;subst a;simp,λk a=>by simp at a;subst a;exact⟨_,_,rfl,by decide⟩,λj k g b U=>?_,λk a=>by simp at a;subst a;exact⟨0,rfl⟩,λj k b=>?_,λj k b c=>?_,λc=>?_,by decide⟩
 .grind
 .cases U
 .obtain⟨rfl,rfl⟩:=d j k b;rfl
 .simp at c
 .exact absurd c dq
end
end Go.Proofs.YtgcaionclkbehaaGreatDoor
