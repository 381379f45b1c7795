import Derived.Test.YtgcaionclkbehaaGreatDoorX71
set_option linter.all false
set_option maxHeartbeats 4000000
set_option maxRecDepth 100000
namespace Go.Proofs.YtgcaionclkbehaaGreatDoor
open Go.Conc Go.RowKit Go.Lib Tryz
variable [Inhabited KC]
def gB:=@WO.nil
def fK:=@WI.region
section
variable {ι:Type}{N0:ι->Nat}{M:ι->World->Nat->Prop}{O:ι->Nat->Prop}{R:ι->Wq}{D:ι->World->World->Array Event->Prop}{X:ι->Gq}{Hd:ι->Hq->World->Prop}{An:dQ}{pr:Prim}{c y:Code}{aA:TL}{s s1:AS}{Q:Exit->TL->AS->Prop}{K:TL->AS->Prop}{ops:Array Oper}{o:Oper}{k:Nat}(Y:Cy prog dt N0 M O R D X Hd)
def ug(hp:cb prog dt An R D X Hd pr)(h:EW prog kJ pr c aA s Q):WI prog dt An X Hd c aA s Q:=fo Y kq cx hp cL h
def ng(hp:cb prog dt An R D X Hd pr)(h:EW prog kJ pr c aA s (RG prog dt An X Hd y Q)):WI prog dt An X Hd (.seq c y) aA s Q:=bR Y<|ug Y hp h
def qe(v:Value)(s1:AS)(ho:ops[k]?=some o)(q:WO prog dt An X Hd ops (k+1) (aA.put o.dst v) s1 K)(h:bS prog kJ (λ_ _ _=>none) aA o s=some (v,s1):=by kernel_rfl)(Ae:jI ops=true:=by kernel_rfl)(hw:Region.wanted o (bK ops aA)=true:=by kernel_rfl):WO prog dt An X Hd ops k aA s K:=kZ Y cx ho h q Ae hw
end
def uJ (cs:Aq)(sz i:Nat)(q:Vq):Prop:=∀k j,k<i->j<sz->cs[k*sz+j]?=q[j]?
section
variable {cs:Aq}{sz i:Nat}{q:Vq}
def Rn{k j i sz:Nat}(b:k<i)(a:j<sz):k*sz+j<i*sz:=by have:=Nat.mul_le_mul_right sz (show k+1<=i by omega);rw[Nat.succ_mul] at this;omega
def uJ.zero:uJ cs sz 0 q:=λk j h=>absurd h oq
def yN(off:Nat)(xs:Vq)(h:off+xs.length<=cs.size):(putAt cs off xs).size=cs.size:=by simp[putAt];omega
def Mv(off m:Nat)(xs:Vq)(h:off+xs.length<=cs.size):(putAt cs off xs)[m]?=if m<off then cs[m]? else if m<off+xs.length then xs[m-off]? else cs[m]?:=by
 unfold putAt;simp only[List.getElem?_toArray,List.append_assoc];have c:(cs.toList.take off).length=off:=by simp; omega
 by_cases a:m<off
 .rw[if_pos a,List.getElem?_append_left<|by omega,List.getElem?_take,if_pos a];simp
 .rw[if_neg a,List.getElem?_append_right<|by omega,c];by_cases b:m<off+xs.length
  .rw[if_pos b,List.getElem?_append_left<|by omega]
  .rw[if_neg b,List.getElem?_append_right<|by omega,List.getElem?_drop,show off+xs.length+(m-off-xs.length)=m by omega];simp
def zl(h:uJ cs sz i q)(e:q.length=sz)(c:(i+1)*sz<=cs.size):uJ (putAt cs (i*sz) q) sz (i+1) q:=λk j d b=>by
 rw[Nat.succ_mul] at c;rw[Mv _ _ _ oq];by_cases a:k<i
 .rw[ip (Rn a b)];exact h k j a b
 .obtain rfl:k=i:=oq
  rw[iw oq,ip oq,show k*sz+j-k*sz=j by omega]
def zj(h:uJ cs sz i q)(e:q.length=sz)(f:i*sz<=cs.size):uJ (cs.toList.take (i*sz)++q).toArray sz (i+1) q:=λk j d b=>by
 have c:(cs.toList.take<|i*sz).length=i*sz:=by simp; omega
 simp only[List.getElem?_toArray];by_cases a:k<i
 .have:=Rn a b;rw[List.getElem?_append_left (by omega),List.getElem?_take,if_pos this];simpa using h k j a b
 .obtain rfl:k=i:=by omega
  rw[List.getElem?_append_right (by omega),c,show k*sz+j-k*sz=j by omega]
def uJ.take(h:uJ cs sz i q)(c:q.length=sz){k:Nat}(b:k<i):(cs.toList.drop<|k*sz).take sz=q:=by
 apply List.ext_getElem?;intro j;rw[SL];split
 .next a =>rw[OG];simpa using h k j b a
 .rw[List.getElem?_eq_none oq]
end
abbrev Gh:=Nat->Option (Bq × Nat)
def Gh.put(G:Gh)(b:Nat)(x:Bq × Nat):Gh:=λk=>if k=b then some x else G k
def Gh.AF{G:Gh}{b k:Nat}{x:Bq × Nat}(h:k≠b):G.put b x k=G k:=iw h
def Gh.sk{G:Gh}{b:Nat}{x:Bq × Nat}:G.put b x b=some x:=ip O
def Gh.le(G G':Gh):Prop:=∀b m c,G b=some (m,c)->∃c',c<=c'/\G' b=some (m,c')
def Gh.le_refl(G:Gh):G.le G:=λb m c h=>⟨c,lr,h⟩
def Gh.le_trans{G f a:Gh}(h:G.le f)(i:f.le a):G.le a:=λb m c e=>by have⟨g,l,j⟩:=h b m c e;have⟨d,n,k⟩:=i b m g j;exact⟨d,oq,k⟩
def Gh.LC{G:Gh}{b c:Nat}{m:Bq}(h:∀d a,G b=some (d,a)->d=m/\a<=c):G.le (G.put b (m,c)):=λk d a e=>by
 by_cases f:k=b
 .subst f;obtain⟨rfl,g⟩:=h d a e;exact⟨c,g,Gh.sk⟩
 .exact⟨a,lr,by rw[Gh.AF f];exact e⟩
def Ba (G:Gh)(x:Value)(m:Bq):Prop:=∃ad n c,x=.slice ad n c/\n<=1000000000/\((ad=none/\n=0)\/∃b c',ad=some ⟨b,0,none⟩/\G b=some (m,c')/\n<=c')
def Ba.mono{G d:Gh}{x:Value}{m:Bq}(h:Ba G x m)(k:G.le d):Ba d x m:=by have⟨e,n,c,g,i,j⟩:=h;refine⟨e,n,c,g,i,j.imp id λ⟨b,f,l,o,q⟩=>?_⟩;have⟨a,r,p⟩:=k b m f o;exact⟨b,a,l,p,oq⟩
def Ba.pos{G:Gh}{x:Value}{m:Bq}(h:Ba G x m):∃a n c,x=.slice a n c/\n<=1000000000/\(0<n->∃b e,a=some ⟨b,0,none⟩/\G b=some (m,e)/\n<=e):=by
 have⟨a,n,c,f,g,d⟩:=h;refine⟨a,n,c,f,g,λi=>?_⟩;rcases d with ⟨_,h0⟩|d
 .omega
 .exact d
structure QJ where
 e:TypeId
 sz:Nat
 q:Bq->Vq
def xF (T:QJ)(s:AS)(G:Gh):Prop:=∀b m c,G b=some (m,c)->∃cs fz,Has s b (.cells cs T.e fz)/\cs.size=c*T.sz/\uJ cs T.sz c (T.q m)
def gU (s:AS)(e:TypeId)(v:Value)(N:Nat)(cs:Aq):Prop:=(v=aX/\N=0)\/∃b f,v=.slice (some ⟨b,0,none⟩) N N/\Has s b (.cells cs e f)/\cs.size=N
def uK (s:AS)(e:TypeId)(G:Gh)(v w:Value)(N:Nat):Prop:=∃Ky xo,gU s e v N Ky/\gU s 9 w N xo/\∀i,i<N->∃x m,Ky[i]?=some x/\xo[i]?=some (str m)/\Ba G x m
section
variable {s s':AS}{e:TypeId}{G G':Gh}{v w:Value}{N:Nat}
def uK.mono(h:uK s e G v w N)(g:G.le G'):uK s e G' v w N:=by have⟨a,b,c,d,f⟩:=h;exact⟨a,b,c,d,λi j=>by have⟨x,m,k,l,n⟩:=f i j;exact⟨x,m,k,l,n.mono g⟩⟩
def gU.kp{cs:Aq}(h:gU s e v N cs)(c:∀k o,blk v k->Has s k o->Has s' k o):gU s' e v N cs:=h.imp id λ⟨b,f,a,d,g⟩=>⟨b,f,a,c _ _ (by rw[a];exact⟨_,_,_,_,O⟩) d,g⟩
def gU.lt{cs:Aq}(h:gU s e v N cs):∀b,blk v b->b<s.nx:=λb a=>by
 rcases h with ⟨rfl,_⟩|⟨d,f,rfl,q2,_⟩
 .exact(dT a).elim
 .rw[dz a];exact q2.1
def gU.len{cs:Aq}(h:gU s e v N cs):∃a,v=.slice a N N:=by
 rcases h with ⟨rfl,rfl⟩|⟨d,f,rfl,_⟩
 .exact⟨none,O⟩
 .exact⟨_,O⟩
def gU.one{cs:Aq}(h:gU s e v N cs):∃cs c,∀b,blk v b->Has s b (.cells cs e c):=by
 rcases h with ⟨rfl,_⟩|⟨d,f,rfl,q2,_⟩
 .exact⟨#[],(0,0),λb a=>(dT a).elim⟩
 .exact⟨cs,f,λb a=>by rw[dz a];exact q2⟩
def uK.kp(h:uK s e G v w N)(d:∀k o,(blk v k\/blk w k)->Has s k o->Has s' k o):uK s' e G v w N:=by have⟨a,b,f,g,i⟩:=h;exact⟨a,b,f.kp λk o c=>d k o<|.inl c,g.kp λk o c=>d k o<|.inr c,i⟩
def Rs{cs:Aq}(h:gU s e v N cs)(d:cH prog e=some 1)(g:N<=999999999)(x:Value):∃a,cf prog e v [x] 1 s=some (.slice (sq s.nx) (N+1)<|N+1,a)/\gU a e (.slice (sq s.nx) (N+1)<|N+1) (N+1) (cs.toList.take N++[x]).toArray/\fp (λk=>blk v k) s a/\a.nx=s.nx+1:=by
 rcases h with ⟨rfl,rfl⟩|⟨b,f,rfl,h2,h3⟩
 .refine⟨s.add<|.cells #[x] e (1,1),O,.inr ⟨_,(1,1),O,?_,iq⟩,(bC s).add _,O⟩
  have:=bw s<|.cells #[x] e (1,1);simpa using this
 .refine⟨(s.set b none).add<|.cells (cs.toList.take N++[x]).toArray e (1,1),?_,.inr ⟨_,(1,1),O,bw _ _,by simp;omega⟩,?_,O⟩
  .unfold cf;simp only[h2.2,d];rw[iw dq,ip ⟨trivial,oq,oq⟩,Nat.mul_one]
  .refine⟨iq,λk i c=>?_⟩;rw[AS.bu,iw<|by show k≠s.nx;omega,AS.aU,iw];rintro rfl;exact c ⟨_,_,_,_,O⟩
def xF.kp{T:QJ}(h:xF T s G)(j:∀k a d,G k≠none->Has s k (.cells a T.e d)->Has s' k (.cells a T.e d)):xF T s' G:=λb m c f=>by have⟨a,d,g,i⟩:=h b m c f;exact⟨a,d,j b a d (by rw[f];simp) g,i⟩
def xF.lt{T:QJ}(h:xF T s G){b:Nat}(c:G b≠none):b<s.nx:=by
 cases hg:G b with
 | none=>exact absurd hg c
 | some x =>obtain⟨d,e,a,_⟩:=h b x.1 x.2 hg;exact a.1
def xF.put{T:QJ}(h:xF T s G){b c:Nat}{m:Bq}{cs:Aq}{fz:Nat × Nat}(i:Has s' b (.cells cs T.e fz))(j:cs.size=c*T.sz)(n:uJ cs T.sz c (T.q m))(l:∀k cs fz,k≠b->G k≠none->Has s k (.cells cs T.e fz)->Has s' k (.cells cs T.e fz)):xF T s' (G.put b (m,c)):=λk o d a=>by
 by_cases e:k=b
 .subst e;rw[Gh.sk] at a;cases a;exact⟨cs,fz,i,j,n⟩
 .rw[Gh.AF e] at a;have⟨cs,fz,f,g⟩:=h k o d a;exact⟨cs,fz,l k cs fz e (by rw[a];simp) f,g⟩
def GH:QJ:=⟨47,2,λm=>[str m,str []]⟩
def JM:QJ:=⟨60,5,λm=>[num 0,str m,str [],aX,.bool false]⟩
def Ba.stA{x:Value}{m:Bq}(h:Ba G x m)(p:xF GH s G):Y1 s x m:=by have⟨d,n,c,i,j,l⟩:=h.pos;refine⟨d,n,c,i,j,λo=>?_⟩;have⟨b,e,q,r,v⟩:=l o;have⟨f,g,t,w,a⟩:=p b m e r;exact⟨b,f,g,q,t,λk u=>⟨a k 0 oq dq,a k 1 oq dq⟩⟩
def Ba.stT{x:Value}{m:Bq}(h:Ba G x m)(o:xF JM s G):Y2 s x m:=by
 have⟨e,n,c,g,i,j⟩:=h.pos;refine⟨e,n,c,g,i,λl=>?_⟩;have⟨b,a,q,r,y⟩:=j l;have⟨d,f,t,u,v⟩:=o b m a r;have p:d.size=a*5:=u;refine⟨b,d,f,q,t,λk w=>⟨oq,?_⟩⟩
 have:=uJ.take (sz:=5) v O (show k<a by omega);rw[this];rfl
def uK.Rt{St:AS->Value->Bq->Prop}(h:uK s e G v w N)(q:N<=1000000000)(t:∀x m,Ba G x m->St s x m):Bw s e St v w:=by
 have⟨a,b,j,k,p⟩:=h;have⟨n,c⟩:=j.len;have⟨o,d⟩:=k.len;refine⟨n,N,N,o,N,c,d,q,λu=>?_⟩;rcases j with ⟨_,h0⟩|⟨b1,f1,q1,q2,q3⟩
 .omega
 rcases k with ⟨_,h0⟩|⟨b2,f2,f,g,l⟩
 .omega
 rw[q1] at c;rw[f] at d;cases c;cases d;refine⟨b1,a,f1,b2,b,f2,O,O,q2,g,λi r=>?_⟩;have⟨x,m,f,g,l⟩:=p i r;exact⟨x,m,f,g,t x m l⟩
def uK.push{a b:Aq}(k:gU s e v (N+1) a)(l:gU s 9 w (N+1) b){d f:Aq}{x:Value}{m:Bq}(g:a=(d.toList.take N++[x]).toArray)(j:b=(f.toList.take N++[str m]).toArray)(n1:N<=d.size)(A:N<=f.size)(h:∀i,i<N->∃x m,d[i]?=some x/\f[i]?=some (str m)/\Ba G x m)(n:Ba G x m):uK s e G v w (N+1):=by
 refine⟨a,b,k,l,λi z=>?_⟩;subst g j;simp only[List.getElem?_toArray];have o:(d.toList.take N).length=N:=by simp; omega
 have p:(f.toList.take N).length=N:=by simp; omega
 by_cases c:i<N
 .obtain⟨y,q,r,t,u⟩:=h i c;refine⟨y,q,?_,?_,u⟩
  .rw[List.getElem?_append_left (by omega),List.getElem?_take,if_pos c];simpa using r
  .rw[List.getElem?_append_left (by omega),List.getElem?_take,if_pos c];simpa using t
 .obtain rfl:i=N:=by omega
  refine⟨x,m,?_,?_,n⟩
  .rw[List.getElem?_append_right (by omega),o,Nat.sub_self];rfl
  .rw[List.getElem?_append_right (by omega),p,Nat.sub_self];rfl
end
def nZ (v:Nq)(i:Nat)(x:Value):Nat->Value:=λk=>if k=i then x else v k
def p9{v:Nq}{i k:Nat}{x:Value}(h:k≠i):nZ v i x k=v k:=iw h
def qa{v:Nq}{i:Nat}{x:Value}:nZ v i x i=x:=ip O
abbrev hM(b n:Nat):Value:=.slice (some ⟨b,0,none⟩) n n
section
variable {S:AS}{wb n N:Nat}{v:Nq}{e:TypeId}
def Dh{i j:Nat}(H:i≠j)(y:Has S wb (lS v n)){r g:Aq}(E:gU S e (v i) N r)(F:gU S 9 (v j) N g)(he:cH prog e=some 1)(G:e≠74)(I:∀b,blk (v i) b->¬blk (v j) b)(U:N<=999999999)(x:Value)(m:Bq) :
  ∃p t,cf prog e (v i) [x] 1 (S.add<|.cells #[x] e)=some (hM (S.nx+1)<|N+1,p)/\Has p wb (lS v n) /\
   cf prog 9 (v j) [str m] 1 ((p.set wb<|some<|lS (nZ v i<|hM (S.nx+1)<|N+1) n).add<|.cells #[str m] 9)=some (hM (S.nx+3)<|N+1,t)/\Has t wb (lS (nZ v i<|hM (S.nx+1)<|N+1) n)/\Has (p.set wb<|some<|lS (nZ v i<|hM (S.nx+1)<|N+1) n) wb (lS (nZ v i<|hM (S.nx+1)<|N+1) n)/\p.nx=S.nx+2 /\
   ∀u,u=nZ (nZ v i<|hM (S.nx+1)<|N+1) j (hM (S.nx+3)<|N+1)->∀w,w=t.set wb (some<|lS u n) ->
    Has w wb (lS u n)/\gU w e (u i) (N+1) (r.toList.take N++[x]).toArray/\gU w 9 (u j) (N+1) (g.toList.take N++[str m]).toArray/\fp (λk=>k=wb\/blk (v i) k\/blk (v j) k) S w/\w.nx=S.nx+4:=by
 have hA:=y.add<|.cells #[x] e;have f1:fp (λ_=>False) S (S.add<|.cells #[x] e):=(bC S).add _;have r1:gU (S.add<|.cells #[x] e) e (v i) N r:=E.kp λk o _ h=>h.add _;have r2:gU (S.add<|.cells #[x] e) 9 (v j) N g:=F.kp λk o _ h=>h.add _;have l1:=E.lt;have l2:=F.lt;have⟨p,p1,p2,J,V⟩:=Rs r1 he U x;have w1:∀b,blk (v i) b->b≠wb:=λb d=>by have⟨c,f,q⟩:=E.one;exact(q b d).ne y G
 have w2:∀b,blk (v j) b->b≠wb:=λb d=>by have⟨c,f,q⟩:=F.one;exact(q b d).ne y dq
 have Q:Has p wb (lS v n):=hA.fr J λh=>w1 wb h rfl;have M:gU p 9 (v j) N g:=r2.kp λk o d h=>h.fr J λz=>I k z d;obtain⟨C,A⟩:∃C,C=nZ v i (hM (S.nx+1)<|N+1):=⟨_,rfl⟩;obtain⟨l,a⟩:∃l,l=p.set wb (some<|lS C n):=⟨_,rfl⟩;have R:Has l wb (lS C n):=by rw[a];exact Q.put _
 have O:gU l 9 (v j) N g:=M.kp λk o d h=>by rw[a];exact h.set (w2 k d) _
 have nC:l.nx=S.nx+2:=by rw[a];exact V
 have L:gU l e (hM (S.nx+1)<|N+1) (N+1) (r.toList.take N++[x]).toArray:=p2.kp λk o d h=>by
  rw[a];refine h.set ?_ _;have D:=dz d
  have:=y.1;rw[D];show S.nx+1≠wb;omega
 have P:gU (l.add<|.cells #[str m] 9) 9 (v j) N g:=O.kp λk o _ h=>h.add _;have⟨t,W,X,K,q4⟩:=Rs P kq U<|str m;have nE:t.nx=S.nx+4:=by rw[q4];show l.nx+1+1=_;omega
 have Z:(l.add<|.cells #[str m] 9).nx=S.nx+3:=by show l.nx+1=_;omega
 rw[Z] at W X;have T:Has t wb (lS C n):=(R.add<|.cells #[str m] 9).fr K λh=>w2 wb h rfl;rw[<-A];refine⟨p,t,p1,Q,by rw[<-a];exact W,T,by rw[<-a];exact R,V,?_⟩;rintro u B w rfl;have D:u i=hM (S.nx+1) (N+1):=by rw[B,p9 H,A,qa]
 have Y:u j=hM (S.nx+3) (N+1):=by rw[B,qa]
 have hw:=y.1;rw[D,Y];refine⟨T.put _,?_,?_,?_,nE⟩
 .refine gU.kp (s:=t) (gU.kp (L.kp λk o _ h=>h.add _) λk o d h=>h.fr K λz=>?_) λk o d h=>h.set (by have:=dz d;rw[this];show S.nx+1≠wb;omega) _
  have:=dz d
  have:=l2 k z;omega
 .exact X.kp λk o d h=>h.set (by have:=dz d;rw[this];show S.nx+3≠wb;omega) _
 .have g1:fp (λk=>k=wb\/blk (v i) k\/blk (v j) k) S p:=(f1.mono λ_ _ z=>z.elim).trans J λb _ z=>.inr<|.inl z;have g2:fp (λk=>k=wb\/blk (v i) k\/blk (v j) k) S l:=by rw[a];exact bG g1 (λ_=>.inl rfl) _
  have g3:=(g2.add<|.cells #[str m] 9).trans K λb _ z=>.inr<|.inr z;exact bG g3 (λ_=>.inl rfl) _
end
structure AI(T:QJ)(p q:Nat)(e:TypeId)(s:AS)(wb n N L:Nat)(v:Nq)(lv:Value)(G:Gh)(m:Bq)(i:Nat)(S:AS)(ad:Option Addr)(c:Nat)(v':Nq)(G':Gh):Prop where
 w:Has S wb (lS v' n)
 ne:∀k,k≠p->k≠q->v' k=v k
 r:uK S e G' (v' p) (v' q) (N+i)
 g:xF T S G'
 le:G.le G'
 VT:∀k,G' k≠none->G k≠none\/blk lv k\/s.nx<=k
 fr:fp (λk=>k=wb\/blk lv k\/blk (v p) k\/blk (v q) k) s S
 l:(L+i=0/\ad=none/\c=0)\/∃lb,ad=some ⟨lb,0,none⟩/\G' lb=some (m,L+i)/\(blk lv lb\/s.nx<=lb)
 b1:∀k,blk (v' p) k->blk (v p) k\/s.nx<=k
 b2:∀k,blk (v' q) k->(blk (v q) k/\i=0)\/s.nx<=k
section
variable {T:QJ}{p q:Nat}{e:TypeId}{s S:AS}{wb n N L:Nat}{v:Nq}{lv:Value}{G:Gh}{m:Bq}{i:Nat}{ad:Option Addr}{c:Nat}{v':Nq}{G':Gh}
def AI.ls(h:AI T p q e s wb n N L v lv G m i S ad c v' G')(a:L+i<=1000000000):Ba G' (.slice ad (L+i) c) m:=by
 refine⟨ad,L+i,c,O,a,?_⟩;rcases h.l with ⟨h0,h1,_⟩|⟨lb,h1,h2,_⟩
 .exact .inl ⟨h1,h0⟩
 .exact .inr ⟨lb,L+i,h1,h2,lr⟩
def AI.next(h:AI T p q e s wb n N L v lv G m i S ad c v' G')(I:T.e≠74/\T.e≠e/\T.e≠9)(W:p≠q)(hL:L+i<=1000000000){r u:Aq}{y Q:AS}{H:Nq}
 (h1:gU S e (v' p) (N+i) r)(h2:gU S 9 (v' q) (N+i) u)(h3:∀k,k<N+i->∃x m,r[k]?=some x/\u[k]?=some (str m)/\Ba G' x m)
 (E:H=nZ (nZ v' p<|hM (S.nx+1)<|N+i+1) q (hM (S.nx+3)<|N+i+1))(w:Has y wb (lS H n))(r1:gU y e (H p) (N+i+1) (r.toList.take (N+i)++[Value.slice ad (L+i) c]).toArray)(r2:gU y 9 (H q) (N+i+1) (u.toList.take (N+i)++[str m]).toArray)(R:fp (λk=>k=wb\/blk (v' p) k\/blk (v' q) k) S y)
 {d Y:Nat}{cs:Aq}{fz:Nat × Nat}(J:Has Q d (.cells cs T.e fz))(hs:cs.size=(L+i+1)*T.sz)(hm:uJ cs T.sz (L+i+1) (T.q m))(C:(ad=some ⟨d,0,none⟩/\G' d=some (m,L+i))\/y.nx<=d)(K:fp (λk=>k=d) y Q) :
  AI T p q e s wb n N L v lv G m (i+1) Q (sq d) Y H (G'.put d (m,L+i+1)):=by
 have hfs:=h.fr.1;have U8:=R.1;have B:xF T y G':=h.g.kp λk cs fz f a=>a.fr R λz=>by
  rcases z with rfl|z|z
  .exact a.ne h.w I.1 rfl
  .have⟨_,_,F⟩:=h1.one;exact a.ne (F k z) I.2.1 rfl
  .have⟨_,_,F⟩:=h2.one;exact a.ne (F k z) I.2.2 rfl
 have j:∀k A t f',Has y k (.cells A t f')->t≠T.e->k≠d:=λk A t f' a ht=>by
  rcases C with ⟨_,z⟩|z
  .have⟨Z,f0,P,_⟩:=B d m _ z;exact a.ne P ht
  .have:=a.1;omega
 have O:G'.le (G'.put d (m,L+i+1)):=Gh.LC λm' Y a=>by
  rcases C with ⟨_,z⟩|z
  .rw[z] at a;cases a;exact⟨rfl,oq⟩
  .have:=B.lt (b:=d) (by rw[a];simp);omega
 have D:blk lv d\/s.nx<=d:=by
  rcases C with ⟨P,z⟩|z
  .rcases h.l with ⟨_,z2,_⟩|⟨lb',z2,z3,z4⟩
   .rw[P] at z2;cases z2
   .rw[P] at z2;cases z2;exact z4
  .exact .inr oq
 have e1:H p=hM (S.nx+1) (N+i+1):=by rw[E,p9 W,qa]
 have e2:H q=hM (S.nx+3) (N+i+1):=by rw[E,qa]
 refine⟨w.fr K<|j _ _ _ _ w<|Ne.symm I.1,λk k1 k2=>?_,?_,?_,Gh.le_trans h.le O,λk f=>?_,?_,.inr ⟨d,rfl,Gh.sk,D⟩,λk f=>?_,λk f=>?_⟩
 .rw[E,p9 k2,p9 k1];exact h.ne k k1 k2
 .have U:N+i<=r.size:=by rcases h1 with ⟨_,z⟩|⟨_,_,_,_,z⟩<;>omega
  have V:N+i<=u.size:=by rcases h2 with ⟨_,z⟩|⟨_,_,_,_,z⟩<;>omega
  have:=uK.push (G:=G') r1 r2 rfl rfl U V h3<|h.ls hL;refine(uK.kp this λk o J a=>?_).mono O;rcases J with z|z
  .have⟨Z,f0,F⟩:=r1.one;have X:=F k z;exact a.fr K<|j k _ _ _ X<|Ne.symm I.2.1
  .have⟨Z,f0,F⟩:=r2.one;exact a.fr K<|j k _ _ _ (F k z)<|Ne.symm I.2.2
 .exact B.put J hs hm λk A Gj f _ a=>a.fr K f
 .by_cases M:k=d
  .subst M;exact .inr D
  .rw[Gh.AF M] at f;exact h.VT k f
 .refine(h.fr.trans R λb J z=>?_).trans K λb J z=>?_
  .rcases z with z|z|z
   .exact .inl z
   .rcases h.b1 b z with z|z
    .exact .inr<|.inr<|.inl z
    .omega
   .rcases h.b2 b z with z|z
    .exact i3 z.1
    .omega
  .subst z;rcases D with z|z
   .exact .inr<|.inl z
   .omega
 .rw[e1] at f
  have:=dz f;exact .inr oq
 .rw[e2] at f
  have:=dz f;exact .inr oq
def AI.rows(h:AI T p q e s wb n N L v lv G m i S ad c v' G'):∃a b,gU S e (v' p) (N+i) a/\gU S 9 (v' q) (N+i) b/\∀k,k<N+i->∃x m,a[k]?=some x/\b[k]?=some (str m)/\Ba G' x m:=h.r
def AI.start{s1 u:AS}(V:Has s1 wb (lS v n))(w:fp (λk=>k=wb) s s1)(r:fp (λk=>blk (.slice ad L c) k) s1 u)(H:T.e≠74/\T.e≠e/\T.e≠9)(W:uK s e G (v p) (v q) N)(E:Has s wb (lS v n)\/∃M,Has s wb<|lS v M)(U:e≠74)(Q:xF T s G)
 (K:(ad=none/\L=0/\c=0)\/∃i d g l o,ad=some ⟨i,0,none⟩/\Has s i (.cells l T.e o)/\G i=none/\Has u i (.cells d T.e g)/\d.size=L*T.sz/\uJ d T.sz L (T.q m)) :
  ∃R,AI T p q e s wb n N L v (.slice ad L c) G m 0 u ad c v R:=by
 obtain⟨n0,E⟩:∃M,Has s wb (lS v M):=E.elim (λh=>⟨_,h⟩) id;have a:∀k d t g,Has s k (.cells d t g)->t≠74->t≠T.e->Has u k (.cells d t g):=λk d t g j S X=>by
  refine(j.fr w<|j.ne E S).fr r λz=>?_;rcases K with ⟨rfl,_⟩|⟨i,_,_,l,o,rfl,z1,_⟩
  .have⟨_,_,_,_,z⟩:=z;cases z
  .have:=dz z;subst this;exact j.ne z1 X rfl
 have A:∀k d g,(∀b,blk (.slice ad L c) b->b≠k)->Has s k (.cells d T.e g)->Has u k _:=λk d g x j=>(j.fr w<|j.ne E H.1).fr r λz=>x k z rfl;have F:=V.fr r λz=>by
  rcases K with ⟨rfl,_⟩|⟨i,_,_,l,o,rfl,z1,_⟩
  .have⟨_,_,_,_,z⟩:=z;cases z
  .have:=dz z;subst this;exact z1.ne E H.1 rfl
 have D:uK u e G (v p) (v q) N:=by
  have⟨I,J,O,P,Y⟩:=W;refine⟨I,J,?_,?_,Y⟩
  .rcases O with O|⟨b,f,z1,z2,z3⟩
   .exact .inl O
   .exact .inr ⟨b,f,z1,a _ _ _ _ z2 U<|Ne.symm H.2.1,z3⟩
  .rcases P with P|⟨b,f,z1,z2,z3⟩
   .exact .inl P
   .exact .inr ⟨b,f,z1,a _ _ _ _ z2 dq<|Ne.symm H.2.2,z3⟩
 have y:fp (λk=>k=wb\/blk (.slice ad L c) k\/blk (v p) k\/blk (v q) k) s u:=(w.mono λ_ _ z=>.inl z).trans r λb _ z=>.inr<|.inl z;rcases K with ⟨rfl,rfl,rfl⟩|⟨i,d,g,l,o,rfl,z1,z2,z3,z4,z5⟩
 .exact⟨G,F,λ_ _ _=>rfl,D,Q.kp λk d g _ j=>A k d g (λb x=>by have⟨_,_,_,_,z⟩:=x;cases z) j,Gh.le_refl G,λk a=>.inl a,y,.inl ⟨rfl,rfl,rfl⟩,λk a=>.inl a,λk a=>.inl ⟨a,rfl⟩⟩
 .have C:G.le (G.put i (m,L)):=Gh.LC λm' Z h=>by rw[z2] at h;cases h
  refine⟨G.put i (m,L),F,λ_ _ _=>rfl,D.mono C,?_,C,λk a=>?_,y,.inr ⟨i,rfl,Gh.sk,.inl ⟨_,_,_,_,rfl⟩⟩,λk a=>.inl a,λk a=>.inl ⟨a,rfl⟩⟩
  .exact Q.put z3 z4 z5 λk d g a _ j=>A k d g (λb x=>by rw[dz x];exact Ne.symm a) j
  .by_cases B:k=i
   .subst B;exact .inr<|.inl ⟨_,_,_,_,rfl⟩
   .rw[Gh.AF B] at a;exact .inl a
end
def wL(wb:Nat)(lv:Value)(m:Bq)(i:Nat)(x:Nq):TL:=[aF wb 0,lv,x 2,x 3,str m,num i]++fW x 6 43
def Fe(wb:Nat)(lv:Value)(m:Bq)(i:Nat)(x:Nq):TL:=[aF wb 0,lv,x 2,x 3,str m,x 5,num i]++fW x 7 42
section
variable {pr:Prim}{s:AS}{wb L c:Nat}{ad:Option Addr}{m:Bq}
def OV(q:(ad=none/\L=0)\/∃a cs d,ad=some ⟨a,0,none⟩/\Has s a (.cells cs 47 d)/\cs.size=L*2)(C:L<=900000000)(r:Nq) :
  Ew pr (match f103.body with|some (.seq _<|.seq (.seq _ c) _)=>c|_=>.skip) (wL wb (.slice ad L c) m 0 r) s λe f S=>e=.normal/\fp (λk=>blk (.slice ad L c) k) s S/\(∀a,ad=some ⟨a,0,none⟩->∃cs d,Has S a (.cells cs 47 d)/\cs.size=L*2/\uJ cs 2 L [str m,str []])/\∃i x,f=wL wb (.slice ad L c) m i x:=by
 refine aD <| aN (aZ (Q:=λe f S=>e=.exit 0/\fp (λk=>blk (.slice ad L c) k) s S/\(∀a,ad=some ⟨a,0,none⟩->∃cs d,Has S a (.cells cs 47 d)/\cs.size=L*2/\uJ cs 2 L [str m,str []])/\∃i x,f=wL wb (.slice ad L c) m i x) (λu f S=>fp (λk=>blk (.slice ad L c) k) s S/\∃i,u+i=L/\(∀a,ad=some ⟨a,0,none⟩->∃cs d,Has S a (.cells cs 47 d)/\cs.size=L*2/\uJ cs 2 i [str m,str []])/\∃x,f=wL wb (.slice ad L c) m i x) ?_ L _ _ ⟨bC s,0,oq,λa e=>?_,r,Y⟩) ?_
 .rintro u f S ⟨j,i,D,l,x,rfl⟩;by_cases g:i<L
  .rcases q with ⟨_,h0⟩|⟨a,cs0,fz0,rfl,_,_⟩
   .omega
   have⟨cs,d,h,p,t⟩:=l a Y;refine am <| zr <| zk 3 <| zp (nT i L g) <| zf <| za S <| zT <| am <| aD (zx <| zk 4 <| zp (yi a 0 L c (i*2) none .i64 (i:Nat) 2 oq oq oq) (zo S <| zp (eA (b:=a) (off:=i*2) (w:=.agg #[str m,str []]) Y kq kq Y Y kq h.2<|by simp;omega) <| aB ?_));have v:=h.put<|.cells (putAt cs (i*2) [str m,str []]) 47 d;have o:fp (λk=>blk _ k) s (S.set a<|some<|.cells (putAt cs (i*2) [str m,str []]) 47 d):=bG j (λ_=>⟨_,_,_,_,Y⟩) _;have y:=zl (sz:=2) t Y oq;have B:=yN (cs:=cs) (i*2) [str m,str []] (by simp;omega);refine za (S.set a<|some<|.cells (putAt cs (i*2) [str m,str []]) 47 d) ?_;generalize S.set a _=A at *;exact zx <| zk 1 <| zp (na i 1 oq) <| zf ⟨u-1,oq,o,i+1,oq,λn e=>by cases e;exact⟨_,_,v,oq,y⟩,aP kq⟩
  .obtain rfl:i=L:=oq
   exact am <| zr <| zk 3 <| zp (nF i i g) <| zf <| za S <| aJ kq (EW.exit ⟨Y,j,l,i,aP kq⟩)
 .subst e;rcases q with ⟨z,_⟩|⟨n,cs,d,z,h,p⟩
  .cases z
  .cases z;exact⟨cs,d,h,p,uJ.zero⟩
 .rintro e f S ⟨rfl,j,l,i,x,rfl⟩;exact⟨Y,j,l,i,x,Y⟩
end
section
variable {ι:Type}{N0:ι->Nat}{M:ι->World->Nat->Prop}{O:ι->Nat->Prop}{R:ι->Wq}{D:ι->World->World->Array Event->Prop}{X:ι->Gq}{Hd:ι->Hq->World->Prop}{An:dQ}{pr:Prim}
variable {s:AS}{wb n N L c:Nat}{ad:Option Addr}{v:Nq}{G:Gh}
theorem HK(Y:Cy prog dt N0 M O R D X Hd)(E:cb prog dt An R D X Hd pr)(Ij:pr 184=none)(hW:Has s wb (lS v n))(hn:n<=900000000)(hr:uK s 42 G (v 6) (v 7) N)(hN:N<=900000000)(hg:xF GH s G)
 (hl:(ad=none/\L=0/\c=0)\/∃H h C,ad=some ⟨H,0,none⟩/\Has s H (.cells h 47 C)/\h.size=L*2/\G H=none)(hL:L<=900000000) :
  WI prog dt An X Hd (match f103.body with|some c=>c|none=>.skip) ([aF wb 0,.slice ad L c]++List.replicate 47 undef) s (λe P s'=>(e=.normal\/e=.ret)/\cN prog f103 P s'=some (.tuple #[])/\∃f y r F,AI GH 6 7 42 s wb (n+1) N L v (.slice ad L c) G (U9 (n+1)) 4 s' f y r F):=by
 obtain⟨s1,em,Wh,Gp⟩:=LM Ij hW (by omega);refine ng Y E <| zx <| zc 1 em <| zf ?_;refine cJ s1 ?_;generalize U9 (n+1)=m;have hT:GH.e≠74/\GH.e≠42/\GH.e≠9:=by decide
 have Re:(ad=none/\L=0)\/∃H h C,ad=some ⟨H,0,none⟩/\Has s1 H (.cells h 47 C)/\h.size=L*2:=by
  rcases hl with ⟨z1,V,_⟩|⟨H,h,C,z1,V,z3,_⟩
  .exact .inl ⟨z1,V⟩
  .exact .inr ⟨H,h,C,z1,V.fr Gp (V.ne hW dq),z3⟩
 refine bR Y <| ng Y E <| cu 9 kq ?_;refine cJ s1 ?_;refine jj (wL wb (.slice ad L c) m 0) kq λx0=>?_;refine ug Y E <| aN (OV Re hL x0) ?_;rintro e P s2 ⟨rfl,Q9,Ld,i,x1,rfl⟩;obtain⟨G0,I0⟩:=AI.start (T:=GH) (p:=6) (q:=7) (e:=42) (m:=m) (N:=N) (c:=c) Wh Gp Q9 hT hr (.inr ⟨n,hW⟩) dq hg (by
  rcases hl with z|⟨H,h,C,rfl,V,z3,z4⟩
  .exact .inl z
  .obtain⟨uo,Gj,U,q2,q3⟩:=Ld H rfl;exact .inr ⟨H,uo,Gj,h,C,rfl,V,z4,U,q2,q3⟩);refine ng Y E <| cu 9 kq ?_;refine cJ s2 ?_;refine jj (Fe wb (.slice ad L c) m 0) kq λx2=>?_;refine ek Y <| eo (lP Y (Q:=λe P S=>e=.exit 2/\∃f y r F,AI GH 6 7 42 s wb (n+1) N L v (.slice ad L c) G m 4 S f y r F/\∃x,P=Fe wb (.slice f (L+4) y) m 4 x) (λu P S=>∃i,u+i=4/\∃f y r F,AI GH 6 7 42 s wb (n+1) N L v (.slice ad L c) G m i S f y r F/\∃x,P=Fe wb (.slice f (L+i) y) m i x) ?_ 4 _ _ ⟨0,rfl,ad,c,v,G0,I0,x2,rfl⟩) ?_
 .rintro u P S ⟨i,hi,f,y,r,F,I,x,rfl⟩;by_cases iX:i<4
  .refine ng Y E <| zr <| zk 1 <| zp (nT i 4 iX) <| zf <| za S <| zT ?_;refine bR Y <| ek Y ?_;obtain⟨Ky,xo,r1,r2,r3⟩:=I.rows;have Dw:∀b,blk (r 6) b->¬blk (r 7) b:=λb U q2=>by obtain⟨_,_,q'⟩:=r1.one;obtain⟨_,_,q''⟩:=r2.one;exact(q' b U).ne (q'' b q2) dq rfl
   obtain⟨Sb,Se,p1,p2,p3,p4,p5,p6,p7⟩:=Dh (i:=6) (j:=7) dq I.w r1 r2 kq dq Dw (by omega) (.slice f (L+i) y) m;obtain⟨a6,e6⟩:=r1.len;obtain⟨a7,e7⟩:=r2.len;have WU:=I.w.2;have k6:dZ (r 6) (sq S.nx)=true:=fJ r1.lt;generalize Z:nZ r 6 (hM (S.nx+1) (N+i+1))=v1 at *;have VV:v1 7=r 7:=by rw[<-Z,p9 dq]
   generalize V9:Sb.set wb (some (lS v1 (n+1)))=J at *;have nC:J.nx=S.nx+2:=by rw[<-V9]; exact p6
   have k7:dZ (r 7) (sq J.nx)=true:=fJ λb hb=>by have:=r2.lt b hb; omega
   refine ng Y E <| zx <| zg 4 S <| zp (yl wb 6 (r 6) WU) <| zg 2 (S.add (.cells #[.slice f (L+i) y] 42)) <| zp (vk (sl:=r 6) (d:=S.nx) (k:=1) (w:=.slice f (L+i) y) (z:=aX) (bytes:=24) rfl kq kq underlying71 kq rfl dq kq (bw S _).2 k6 rfl p1) <| zg 2 Sb <| zp (ys wb 6 (hM (S.nx+1) (N+i+1)) p2.2 (by simp)) <| aB ?_;refine cJ J ?_ ((show _=Sb.set wb (some (lS (nZ r 6 (hM (S.nx+1) (N+i+1))) (n+1))) by kernel_rfl).trans (by rw[Z]; exact V9));have k7':dZ (v1 7) (sq J.nx)=true:=by rw[VV]; exact k7
   rw[<-VV] at p3;refine ng Y E <| zx <| zg 4 J <| zp (yl wb 7 (v1 7) p5.2) <| zg 2 (J.add (.cells #[str m] 9)) <| zp (vk (sl:=v1 7) (d:=J.nx) (k:=1) (w:=str m) (z:=str []) (bytes:=16) rfl kq kq underlying62 kq rfl dq kq (bw J _).2 k7' rfl p3) <| zg 2 Se <| zp (ys wb 7 (hM (S.nx+3) (N+i+1)) p4.2 (by simp)) <| aB ?_;generalize Rk:nZ v1 7 (hM (S.nx+3) (N+i+1))=v2 at *;obtain⟨a,Wa⟩:∃a,a=Se.set wb (some (lS v2 (n+1))):=⟨_,rfl⟩;obtain⟨g1,g2,g3,g4,g5⟩:=p7 v2 rfl a Wa;refine cJ a ?_ ((show _=Se.set wb (some (lS (nZ v1 7 (hM (S.nx+3) (N+i+1))) (n+1))) by kernel_rfl).trans (by rw[Rk,Wa]));have A:∀(B:AS) (o:Nat) (h:Aq) (C:Nat × Nat),Has B o (.cells h 47 C)->h.size=(L+i+1)*2->uJ h 2 (L+i+1) [str m,str []]->((f=some ⟨o,0,none⟩/\F o=some (m,L+i))\/a.nx<=o)->fp (λk=>k=o) a B->∀c2,AI GH 6 7 42 s wb (n+1) N L v (.slice ad L c) G m (i+1) B (sq o) c2 v2 (F.put o (m,L+i+1)):=λB o h C z1 V z3 z4 z5 c2=>AI.next I hT dq (by omega) r1 r2 r3 (by rw[<-Rk,<-Z]) g1 g2 g3 g4 z1 V z3 z4 z5;have Wd:=bw a (.cells #[str m,str []] 47);have W:fp (λ_=>False) a (a.add (.cells #[str m,str []] 47)):=(bC a).add _;rcases I.l with ⟨h0,rfl,rfl⟩|⟨o,rfl,Wv,_⟩
   .obtain⟨rfl,rfl⟩:L=0/\i=0:=by omega
    refine ug Y E <| zx <| zg 4 (a.add (.cells #[str m,str []] 47)) <| zp (qP (sl:=aX) (d:=a.nx) (m:=1) (k:=1) (sz:=2) (z:=.agg #[str [],str []]) (bytes:=32) (news:=[str m,str []]) rfl kq kq underlying42 kq rfl dq dq kq Wd.2 rfl dq (by simp) rfl rfl (show cf prog 47 aX [str m,str []] 1 (a.add (.cells #[str m,str []] 47))=some (.slice (sq (a.nx+1)) 1 1,(a.add (.cells #[str m,str []] 47)).add (.cells #[str m,str []] 47 (1,1))) from rfl)) <| zf ?_;have hh:=bw (a.add (.cells #[str m,str []] 47)) (.cells #[str m,str []] 47 (1,1));have hA:=A _ _ _ _ hh (by simp) (λk j hk hj=>by obtain rfl:k=0:=(by omega); simp) (.inr (by show a.nx<=a.nx+1; omega)) ((W.mono λ_ _ z=>z.elim).add _) 1;refine cJ ((a.add (.cells #[str m,str []] 47)).add (.cells #[str m,str []] 47 (1,1))) ?_;generalize (a.add (.cells #[str m,str []] 47)).add (.cells #[str m,str []] 47 (1,1))=B at *;refine ug Y E <| zx <| zg 3 B <| aB ?_;exact⟨3,by omega,1,rfl,_,1,v2,_,hA,aP kq⟩
   .obtain⟨h,C,U,q2,q3⟩:=I.g o m (L+i) Wv;have Xs:Has a o (.cells h 47 C):=U.fr g4 λz=>by
     rcases z with rfl|z|z
     .exact U.ne I.w dq rfl
     .obtain⟨_,_,q'⟩:=r1.one;exact U.ne (q' o z) dq rfl
     .obtain⟨_,_,q'⟩:=r2.one;exact U.ne (q' o z) dq rfl
    have Xt:=Xs.add (.cells #[str m,str []] 47);have Ir:h.size=(L+i)*2:=q2;have Wz:=zj (sz:=2) q3 rfl (Nat.le_of_eq Ir.symm);have uN:((h.toList.take ((L+i)*2)++[str m,str []]).toArray).size=(L+i+1)*2:=by simp; omega
    have Q5:((L+i:Nat):Int)<=1000000000:=by omega
    refine fK Y ?_;refine qe Y (.slice (sq o) (L+i) y) a rfl ?_;refine qe Y (str m) a rfl ?_;refine qe Y (.agg #[str m,str []]) a rfl ?_;refine qe Y (hM a.nx 1) (a.add (.cells #[str m,str []] 47)) rfl ?_;have Zs:=A ((a.add (.cells #[str m,str []] 47)).set o (some (.cells (h.toList.take ((L+i)*2)++[str m,str []]).toArray 47 (1,1)))) o _ (1,1) (Xt.put _) uN Wz (.inl ⟨rfl,Wv⟩) (bG (K:=λk=>k=o) (c:=o) (W.mono λ_ _ z=>z.elim) (λ_=>rfl) _) (L+i+1);have SX:=A ((a.add (.cells #[str m,str []] 47)).add (.cells (h.toList.take ((L+i)*2)++[str m,str []]).toArray 47 (1,1))) (a.add (.cells #[str m,str []] 47)).nx _ (1,1) (bw _ _) uN Wz (.inr (by show a.nx<=a.nx+1; omega)) ((W.mono λ_ _ z=>z.elim).add _) (L+i+1);refine zn Y cx (news:=[str m,str []]) (z:=.agg #[str [],str []]) (bytes:=32) (e:=47) (t:=42) rfl rfl (b:=o) (n:=L+i) (cp:=y) (d:=a.nx) (cy:=1) (sz:=2) kq kq underlying42 kq rfl dq dq kq Xt.2 (Nat.le_of_eq Ir.symm) Wd.2 rfl rfl (by have:=Xs.1; omega) (by omega) ?_ ?_
    .refine qe Y (hM o (L+i+1)) ((a.add (.cells #[str m,str []] 47)).set o (some (.cells (h.toList.take ((L+i)*2)++[str m,str []]).toArray 47 (1,1)))) rfl <| gB Y rfl ?_;generalize (a.add (.cells #[str m,str []] 47)).set o (some (.cells (h.toList.take ((L+i)*2)++[str m,str []]).toArray 47 (1,1)))=B at *;refine ug Y E <| zx <| zg 1 B <| zp (na i 1 (by omega)) <| zg 1 B <| aB ?_;exact⟨u-1,by omega,i+1,by omega,_,_,v2,_,Zs,aP kq⟩
    .refine qe Y (hM (a.nx+1) (L+i+1)) ((a.add (.cells #[str m,str []] 47)).add (.cells (h.toList.take ((L+i)*2)++[str m,str []]).toArray 47 (1,1))) rfl <| gB Y rfl ?_;generalize (a.add (.cells #[str m,str []] 47)).add (.cells (h.toList.take ((L+i)*2)++[str m,str []]).toArray 47 (1,1))=B at *;refine ug Y E <| zx <| zg 1 B <| zp (na i 1 (by omega)) <| zg 1 B <| aB ?_;exact⟨u-1,by omega,i+1,by omega,_,_,v2,_,SX,aP kq⟩
  .obtain rfl:i=4:=by omega
   refine ng Y E <| zr <| zk 1 <| zp (nF 4 4 iX) <| zf <| za S <| aJ kq (EW.exit ?_);exact⟨rfl,f,y,r,F,I,aP kq⟩
 .rintro e P S ⟨rfl,f,y,r,F,I,x,rfl⟩;exact⟨.inl rfl,by kernel_rfl,f,y,r,F,I⟩
end
section
variable {all:Iq}{lo:Bq->Bq}{wr:Bq->Int->Bq}
def Hi:∀(n k:Nat) (d:List (Bq × Bq)) {a:List (Bq × Bq)} {c w:Bool} {b:Nat},d.length<=20->ou all lo wr n k d=some (a,c,w,b)->a.length<=20
 | 0,_,_,_,_,_,_,_,h=>by cases h
 | n+1,k,d,a,c,w,b,hl,h=>by
  unfold ou at h;split at h
  .cases h;simp
  .split at h
   .cases h;exact hl
   .refine Hi n _ _ ?_ h;unfold jH;split
    .next z=>simp at z;simp;omega
    .exact hl
def sU (us:List Tok):Prop:=∀u∈us,u.lV.length<=20
def sU.snoc{us:List Tok}{u:Tok}(h:sU us)(a:u.lV.length<=20):sU (us++[u]):=λx b=>by
 rcases List.mem_append.1 b with z|z
 .exact h x z
 .rw[List.mem_singleton] at z;subst z;exact a
def sU.cZ{us:List Tok}{tx:Bq}(h:sU us):sU (YtgcaionclkbehaaGreatDoor.cZ tx us):=by
 unfold YtgcaionclkbehaaGreatDoor.cZ;split
 .exact h
 .exact h.snoc iq
def Qj(k:Nat):(fN all lo wr k).1.length<=20:=by
 unfold fN;generalize d:ou all lo wr _ _ []=q;cases q with
 | none=>simp
 | some x =>obtain⟨a,c,w,b⟩:=x;exact Hi _ _ [] iq d
def Qa(x:St)(h:sU x.us):sU (jM all lo wr x).us:=by
 unfold jM;split
 .exact h
 .unfold wS;simp only;cases (fN all lo wr<|x.k+1).2.2.1
  .exact h
  .exact h.cZ.snoc<|Qj _
 .unfold KO;simp only;cases (fN all lo wr<|x.k+2).2.2.1
  .exact h
  .exact h.cZ.snoc iq
 .exact h
 .exact h.cZ.snoc iq
 .exact h.cZ.snoc iq
 .exact h.cZ.snoc iq
 .exact h.cZ.snoc iq
 .exact h.cZ.snoc iq
def My:∀(n:Nat) (x:St),sU x.us->sU (runK all lo wr n x).us
 | 0,x,h=>h
 | n+1,x,h=>by
  unfold runK;split
  .exact h
  .exact My n _<|Qa x h
def Uz:sU (wW all lo wr):=(My _ _<|λu a=>by simp at a).cZ
def Qm{rn:Nat}{T:Bq->Prop}{W:Bq->Int->Prop}{pr:Prim}(d:Vt rn all lo wr T W pr):(wW all lo wr).length<=2*all.length+41:=by
 have⟨n,m,o,k,p⟩:=E5 (lo:=lo) d.a (all.length+1) ⟨0,[],[]⟩ ⟨Nat.zero_le _,Nat.zero_le _,Nat.zero_le _⟩ (by show all.length<0+(all.length+1);omega);unfold wW;rw[p];have b:=k n<|l8 n;have c:=b.1;have e:=b.2.2;unfold YtgcaionclkbehaaGreatDoor.cZ;split
 .omega
 .rw[lA];show _+1<=_;omega
end
def Hb(wb:Nat)(lv:Value)(i:Nat)(x:Nq):TL:=[aF wb 0,lv,x 2,x 3,num i]++fW x 5 58
def CY(wb:Nat)(lv:Value)(m:Bq)(i:Nat)(x:Nq):TL:=[aF wb 0,lv,x 2,x 3,x 4,str m,num i]++fW x 7 56
def MZ(wb:Nat)(lv:Value)(m:Bq)(i:Nat)(x:Nq):TL:=[aF wb 0,lv,x 2,x 3,x 4,str m,x 6,num i]++fW x 8 55
abbrev mj(m:Bq):Vq:=[num 0,str m,str [],aX,.bool false]
section
variable {pr:Prim}{s:AS}{wb L c:Nat}{ad:Option Addr}{m:Bq}
def SI(q:(ad=none/\L=0)\/∃a cs d,ad=some ⟨a,0,none⟩/\Has s a (.cells cs 60 d)/\cs.size=L*5)(C:L<=900000000)(r:Nq) :
  Ew pr (match f96.body with|some (.seq _<|.seq _<|.seq (.seq _ c) _)=>c|_=>.skip) (CY wb (.slice ad L c) m 0 r) s λe f S=>e=.normal/\fp (λk=>blk (.slice ad L c) k) s S/\(∀a,ad=some ⟨a,0,none⟩->∃cs d,Has S a (.cells cs 60 d)/\cs.size=L*5/\uJ cs 5 L (mj m))/\∃i x,f=CY wb (.slice ad L c) m i x:=by
 refine aD <| aN (aZ (Q:=λe f S=>e=.exit 2/\fp (λk=>blk (.slice ad L c) k) s S/\(∀a,ad=some ⟨a,0,none⟩->∃cs d,Has S a (.cells cs 60 d)/\cs.size=L*5/\uJ cs 5 L (mj m))/\∃i x,f=CY wb (.slice ad L c) m i x) (λu f S=>fp (λk=>blk (.slice ad L c) k) s S/\∃i,u+i=L/\(∀a,ad=some ⟨a,0,none⟩->∃cs d,Has S a (.cells cs 60 d)/\cs.size=L*5/\uJ cs 5 i (mj m))/\∃x,f=CY wb _ m i x) ?_ L _ _ ⟨bC s,0,oq,λa e=>?_,r,Y⟩) ?_
 .rintro u f S ⟨j,i,D,l,x,rfl⟩;by_cases g:i<L
  .rcases q with ⟨_,h0⟩|⟨a,cs0,fz0,rfl,_,_⟩
   .omega
   have⟨cs,d,h,p,t⟩:=l a Y;refine am <| zr <| zk 3 <| zp (nT i L g) <| zf <| za S <| zT <| am <| aD (zx <| zk 4 <| zp (yi a 0 L c (i*5) none .i64 (i:Nat) 5 oq oq oq) (zo S <| zp (eA (b:=a) (off:=i*5) (w:=.agg (mj m).toArray) (ws:=mj m) Y kq kq Y Y kq h.2<|by simp;omega) <| aB ?_));have v:=h.put<|.cells (putAt cs (i*5)<|mj m) 60 d;have o:fp (λk=>blk _ k) s (S.set a<|some<|.cells (putAt cs (i*5)<|mj m) 60 d):=bG j (λ_=>⟨_,_,_,_,Y⟩) _;have y:=zl (sz:=5) t Y oq;have B:=yN (cs:=cs) (i*5) (mj m) (by simp;omega);refine za (S.set a<|some<|.cells (putAt cs (i*5)<|mj m) 60 d) ?_;generalize S.set a _=A at *;exact zx <| zk 1 <| zp (na i 1 oq) <| zf ⟨u-1,oq,o,i+1,oq,λn e=>by cases e;exact⟨_,_,v,oq,y⟩,aP kq⟩
  .obtain rfl:i=L:=oq
   exact am <| zr <| zk 3 <| zp (nF i i g) <| zf <| za S <| aJ kq (EW.exit ⟨Y,j,l,i,aP kq⟩)
 .subst e;rcases q with ⟨z,_⟩|⟨n,cs,d,z,h,p⟩
  .cases z
  .cases z;exact⟨cs,d,h,p,uJ.zero⟩
 .rintro e f S ⟨rfl,j,l,i,x,rfl⟩;exact⟨Y,j,l,i,x,Y⟩
end
section
variable {ι:Type}{N0:ι->Nat}{M:ι->World->Nat->Prop}{O:ι->Nat->Prop}{R:ι->Wq}{D:ι->World->World->Array Event->Prop}{X:ι->Gq}{Hd:ι->Hq->World->Prop}{An:dQ}{pr:Prim}
variable {s:AS}{wb n N L c:Nat}{ad:Option Addr}{v:Nq}{G:Gh}
theorem Nu(Y:Cy prog dt N0 M O R D X Hd)(E:cb prog dt An R D X Hd pr)(Ij:pr 184=none)(hW:Has s wb (lS v n))(hn:n<=900000000)(hr:uK s 56 G (v 2) (v 3) N)(hN:N<=900000000)(hg:xF JM s G)
 (hl:(ad=none/\L=0/\c=0)\/∃H h C,ad=some ⟨H,0,none⟩/\Has s H (.cells h 60 C)/\h.size=L*5/\G H=none)(hL:L<=900000000)(i0:Nat)(x00:Nq) :
  WI prog dt An X Hd (match f96.body with|some (.seq _ c)=>c|_=>.skip) (Hb wb (.slice ad L c) i0 x00) s (λe P s'=>(e=.normal\/e=.ret)/\cN prog f96 P s'=some (.tuple #[])/\∃f y r F,AI JM 2 3 56 s wb (n+1) N L v (.slice ad L c) G (U9 (n+1)) 4 s' f y r F):=by
 obtain⟨s1,em,Wh,Gp⟩:=LM Ij hW (by omega);refine ng Y E <| zx <| zc 1 em <| zf ?_;refine cJ s1 ?_;generalize U9 (n+1)=m;have hT:JM.e≠74/\JM.e≠56/\JM.e≠9:=by decide
 have Re:(ad=none/\L=0)\/∃H h C,ad=some ⟨H,0,none⟩/\Has s1 H (.cells h 60 C)/\h.size=L*5:=by
  rcases hl with ⟨z1,V,_⟩|⟨H,h,C,z1,V,z3,_⟩
  .exact .inl ⟨z1,V⟩
  .exact .inr ⟨H,h,C,z1,V.fr Gp (V.ne hW dq),z3⟩
 refine bR Y <| ng Y E <| cu 9 kq ?_;refine cJ s1 ?_;refine jj (CY wb (.slice ad L c) m 0) kq λx0=>?_;refine ug Y E <| aN (SI Re hL x0) ?_;rintro e P s2 ⟨rfl,Q9,Ld,i,x1,rfl⟩;obtain⟨G0,I0⟩:=AI.start (T:=JM) (p:=2) (q:=3) (e:=56) (m:=m) (N:=N) (c:=c) Wh Gp Q9 hT hr (.inr ⟨n,hW⟩) dq hg (by
  rcases hl with z|⟨H,h,C,rfl,V,z3,z4⟩
  .exact .inl z
  .obtain⟨uo,Gj,U,q2,q3⟩:=Ld H rfl;exact .inr ⟨H,uo,Gj,h,C,rfl,V,z4,U,q2,q3⟩);refine ng Y E <| cu 9 kq ?_;refine cJ s2 ?_;refine jj (MZ wb (.slice ad L c) m 0) kq λx2=>?_;refine ek Y <| eo (lP Y (Q:=λe P S=>e=.exit 4/\∃f y r F,AI JM 2 3 56 s wb (n+1) N L v (.slice ad L c) G m 4 S f y r F/\∃x,P=MZ wb (.slice f (L+4) y) m 4 x) (λu P S=>∃i,u+i=4/\∃f y r F,AI JM 2 3 56 s wb (n+1) N L v (.slice ad L c) G m i S f y r F/\∃x,P=MZ wb (.slice f (L+i) y) m i x) ?_ 4 _ _ ⟨0,rfl,ad,c,v,G0,I0,x2,rfl⟩) ?_
 .rintro u P S ⟨i,hi,f,y,r,F,I,x,rfl⟩;by_cases iX:i<4
  .refine ng Y E <| zr <| zk 1 <| zp (nT i 4 iX) <| zf <| za S <| zT ?_;refine bR Y <| ek Y ?_;obtain⟨Ky,xo,r1,r2,r3⟩:=I.rows;have Dw:∀b,blk (r 2) b->¬blk (r 3) b:=λb U q2=>by obtain⟨_,_,q'⟩:=r1.one;obtain⟨_,_,q''⟩:=r2.one;exact(q' b U).ne (q'' b q2) dq rfl
   obtain⟨Sb,Se,p1,p2,p3,p4,p5,p6,p7⟩:=Dh (i:=2) (j:=3) dq I.w r1 r2 kq dq Dw (by omega) (.slice f (L+i) y) m;obtain⟨a6,e6⟩:=r1.len;obtain⟨a7,e7⟩:=r2.len;have WU:=I.w.2;have k6:dZ (r 2) (sq S.nx)=true:=fJ r1.lt;generalize Z:nZ r 2 (hM (S.nx+1) (N+i+1))=v1 at *;have VV:v1 3=r 3:=by rw[<-Z,p9 dq]
   generalize V9:Sb.set wb (some (lS v1 (n+1)))=J at *;have nC:J.nx=S.nx+2:=by rw[<-V9]; exact p6
   have k7:dZ (r 3) (sq J.nx)=true:=fJ λb hb=>by have:=r2.lt b hb; omega
   refine ng Y E <| zx <| zg 4 S <| zp (yl wb 2 (r 2) WU) <| zg 2 (S.add (.cells #[.slice f (L+i) y] 56)) <| zp (vk (sl:=r 2) (d:=S.nx) (k:=1) (w:=.slice f (L+i) y) (z:=aX) (bytes:=24) rfl kq kq underlying69 kq rfl dq kq (bw S _).2 k6 rfl p1) <| zg 2 Sb <| zp (ys wb 2 (hM (S.nx+1) (N+i+1)) p2.2 (by simp)) <| aB ?_;refine cJ J ?_ ((show _=Sb.set wb (some (lS (nZ r 2 (hM (S.nx+1) (N+i+1))) (n+1))) by kernel_rfl).trans (by rw[Z]; exact V9));have k7':dZ (v1 3) (sq J.nx)=true:=by rw[VV]; exact k7
   rw[<-VV] at p3;refine ng Y E <| zx <| zg 4 J <| zp (yl wb 3 (v1 3) p5.2) <| zg 2 (J.add (.cells #[str m] 9)) <| zp (vk (sl:=v1 3) (d:=J.nx) (k:=1) (w:=str m) (z:=str []) (bytes:=16) rfl kq kq underlying62 kq rfl dq kq (bw J _).2 k7' rfl p3) <| zg 2 Se <| zp (ys wb 3 (hM (S.nx+3) (N+i+1)) p4.2 (by simp)) <| aB ?_;generalize Rk:nZ v1 3 (hM (S.nx+3) (N+i+1))=v2 at *;obtain⟨a,Wa⟩:∃a,a=Se.set wb (some (lS v2 (n+1))):=⟨_,rfl⟩;obtain⟨g1,g2,g3,g4,g5⟩:=p7 v2 rfl a Wa;refine cJ a ?_ ((show _=Se.set wb (some (lS (nZ v1 3 (hM (S.nx+3) (N+i+1))) (n+1))) by kernel_rfl).trans (by rw[Rk,Wa]));have A:∀(B:AS) (o:Nat) (h:Aq) (C:Nat × Nat),Has B o (.cells h 60 C)->h.size=(L+i+1)*5->uJ h 5 (L+i+1) (mj m)->((f=some ⟨o,0,none⟩/\F o=some (m,L+i))\/a.nx<=o)->fp (λk=>k=o) a B->∀c2,AI JM 2 3 56 s wb (n+1) N L v (.slice ad L c) G m (i+1) B (sq o) c2 v2 (F.put o (m,L+i+1)):=λB o h C z1 V z3 z4 z5 c2=>AI.next I hT dq (by omega) r1 r2 r3 (by rw[<-Rk,<-Z]) g1 g2 g3 g4 z1 V z3 z4 z5;have Wd:=bw a (.cells (mj m).toArray 60);have W:fp (λ_=>False) a (a.add (.cells (mj m).toArray 60)):=(bC a).add _;rcases I.l with ⟨h0,rfl,rfl⟩|⟨o,rfl,Wv,_⟩
   .obtain⟨rfl,rfl⟩:L=0/\i=0:=by omega
    refine ug Y E <| zx <| zg 4 (a.add (.cells (mj m).toArray 60)) <| zp (qP (sl:=aX) (d:=a.nx) (m:=1) (k:=1) (sz:=5) (z:=.agg (mj []).toArray) (bytes:=72) (news:=(mj m)) rfl kq kq underlying56 kq rfl dq dq kq Wd.2 rfl dq (by simp) rfl rfl (show cf prog 60 aX (mj m) 1 (a.add (.cells (mj m).toArray 60))=some (.slice (sq (a.nx+1)) 1 1,(a.add (.cells (mj m).toArray 60)).add (.cells (mj m).toArray 60 (1,1))) from rfl)) <| zf ?_;have hh:=bw (a.add (.cells (mj m).toArray 60)) (.cells (mj m).toArray 60 (1,1));have hA:=A _ _ _ _ hh (by simp) (λk j hk hj=>by obtain rfl:k=0:=(by omega); simp) (.inr (by show a.nx<=a.nx+1; omega)) ((W.mono λ_ _ z=>z.elim).add _) 1;refine cJ ((a.add (.cells (mj m).toArray 60)).add (.cells (mj m).toArray 60 (1,1))) ?_;generalize (a.add (.cells (mj m).toArray 60)).add (.cells (mj m).toArray 60 (1,1))=B at *;refine ug Y E <| zx <| zg 3 B <| aB ?_;exact⟨3,by omega,1,rfl,_,1,v2,_,hA,aP kq⟩
   .obtain⟨h,C,U,q2,q3⟩:=I.g o m (L+i) Wv;have Xs:Has a o (.cells h 60 C):=U.fr g4 λz=>by
     rcases z with rfl|z|z
     .exact U.ne I.w dq rfl
     .obtain⟨_,_,q'⟩:=r1.one;exact U.ne (q' o z) dq rfl
     .obtain⟨_,_,q'⟩:=r2.one;exact U.ne (q' o z) dq rfl
    have Xt:=Xs.add (.cells (mj m).toArray 60);have Ir:h.size=(L+i)*5:=q2;have Wz:=zj (sz:=5) q3 rfl (Nat.le_of_eq Ir.symm);have uN:((h.toList.take ((L+i)*5)++(mj m)).toArray).size=(L+i+1)*5:=by simp; omega
    have Q5:((L+i:Nat):Int)<=1000000000:=by omega
    refine fK Y ?_;refine qe Y (.slice (sq o) (L+i) y) a rfl ?_;refine qe Y (str m) a rfl ?_;refine qe Y (.agg (mj m).toArray) a rfl ?_;refine qe Y (hM a.nx 1) (a.add (.cells (mj m).toArray 60)) rfl ?_;have Zs:=A ((a.add (.cells (mj m).toArray 60)).set o (some (.cells (h.toList.take ((L+i)*5)++(mj m)).toArray 60 (1,1)))) o _ (1,1) (Xt.put _) uN Wz (.inl ⟨rfl,Wv⟩) (bG (K:=λk=>k=o) (c:=o) (W.mono λ_ _ z=>z.elim) (λ_=>rfl) _) (L+i+1);have SX:=A ((a.add (.cells (mj m).toArray 60)).add (.cells (h.toList.take ((L+i)*5)++(mj m)).toArray 60 (1,1))) (a.add (.cells (mj m).toArray 60)).nx _ (1,1) (bw _ _) uN Wz (.inr (by show a.nx<=a.nx+1; omega)) ((W.mono λ_ _ z=>z.elim).add _) (L+i+1);refine zn Y cx (news:=(mj m)) (z:=.agg (mj []).toArray) (bytes:=72) (e:=60) (t:=56) rfl rfl (b:=o) (n:=L+i) (cp:=y) (d:=a.nx) (cy:=1) (sz:=5) kq kq underlying56 kq rfl dq dq kq Xt.2 (Nat.le_of_eq Ir.symm) Wd.2 rfl rfl (by have:=Xs.1; omega) (by omega) ?_ ?_
    .refine qe Y (hM o (L+i+1)) ((a.add (.cells (mj m).toArray 60)).set o (some (.cells (h.toList.take ((L+i)*5)++(mj m)).toArray 60 (1,1)))) rfl <| gB Y rfl ?_;generalize (a.add (.cells (mj m).toArray 60)).set o (some (.cells (h.toList.take ((L+i)*5)++(mj m)).toArray 60 (1,1)))=B at *;refine ug Y E <| zx <| zg 1 B <| zp (na i 1 (by omega)) <| zg 1 B <| aB ?_;exact⟨u-1,by omega,i+1,by omega,_,_,v2,_,Zs,aP kq⟩
    .refine qe Y (hM (a.nx+1) (L+i+1)) ((a.add (.cells (mj m).toArray 60)).add (.cells (h.toList.take ((L+i)*5)++(mj m)).toArray 60 (1,1))) rfl <| gB Y rfl ?_;generalize (a.add (.cells (mj m).toArray 60)).add (.cells (h.toList.take ((L+i)*5)++(mj m)).toArray 60 (1,1))=B at *;refine ug Y E <| zx <| zg 1 B <| zp (na i 1 (by omega)) <| zg 1 B <| aB ?_;exact⟨u-1,by omega,i+1,by omega,_,_,v2,_,SX,aP kq⟩
  .obtain rfl:i=4:=by omega
   refine ng Y E <| zr <| zk 1 <| zp (nF 4 4 iX) <| zf <| za S <| aJ kq (EW.exit ?_);exact⟨rfl,f,y,r,F,I,aP kq⟩
 .rintro e P S ⟨rfl,f,y,r,F,I,x,rfl⟩;exact⟨.inl rfl,by kernel_rfl,f,y,r,F,I⟩
end
structure Bz(s:AS)(wb n:Nat)(v:Nq)(N1 N2:Nat)(G1 G2:Gh):Prop where
 w:Has s wb (lS v n)
 z:∀k,k≠2->k≠3->k≠6->k≠7->v k=aX
 ra:uK s 42 G1 (v 6) (v 7) N1
 ga:xF GH s G1
 rt:uK s 56 G2 (v 2) (v 3) N2
 gt:xF JM s G2
 d:∀b,blk (v 3) b->¬blk (v 7) b
def EC:List TypeId:=[74,42,47,56,60,9]
section
variable {s s':AS}{wb n N1 N2:Nat}{v:Nq}{G1 G2:Gh}{e:TypeId}{G:Gh}{x y:Value}{N:Nat}
def uK.kt(h:uK s e G x y N)(j:∀k g t i,t=e\/t=9->(blk x k\/blk y k)->Has s k (.cells g t i)->Has s' k (.cells g t i)):uK s' e G x y N:=by
 have⟨l,c2,m,n,o⟩:=h;refine⟨l,c2,?_,?_,o⟩
 .exact m.imp id λ⟨b,f,a,c,d⟩=>⟨b,f,a,j _ _ _ _ (.inl Y) (.inl<|by rw[a];exact⟨_,_,_,_,Y⟩) c,d⟩
 .exact n.imp id λ⟨b,f,a,c,d⟩=>⟨b,f,a,j _ _ _ _ (.inr Y) (.inr<|by rw[a];exact⟨_,_,_,_,Y⟩) c,d⟩
def Bz.kp(h:Bz s wb n v N1 N2 G1 G2)(e:∀k a t b,t∈EC->Has s k (.cells a t b)->Has s' k (.cells a t b)):Bz s' wb n v N1 N2 G1 G2 where
 w:=e _ _ _ _ dq h.w
 z:=h.z
 ra:=h.ra.kt λk a t b f _ c=>e k a t b (by rcases f with rfl|rfl<;>decide) c
 ga:=h.ga.kp λk a b _ c=>e k a 47 b dq c
 rt:=h.rt.kt λk a t b f _ c=>e k a t b (by rcases f with rfl|rfl<;>decide) c
 gt:=h.gt.kp λk a b _ c=>e k a 60 b dq c
 d:=h.d
end
section
variable {s S:AS}{wb n N1:Nat}{v v':Nq}{G1 G':Gh}{ts:List fA}{j:Nat}
structure TI(s:AS)(wb n N1:Nat)(v:Nq)(G1:Gh)(ts:List fA)(j:Nat)(S:AS)(v':Nq)(G':Gh):Prop where
 w:Has S wb (lS v'<|n+j)
 ne:∀k,k≠6->k≠7->v' k=v k
 ra:uK S 42 G' (v' 6) (v' 7) (N1+4*j)
 ga:xF GH S G'
 VT:∀k,G' k≠none->G1 k≠none\/(∃i t,i<j/\ts[i]?=some t/\blk t.at_ k)\/s.nx<=k
 fr:fp (λk=>k=wb\/(∃i t,i<j/\ts[i]?=some t/\blk t.at_ k)\/blk (v 6) k\/blk (v 7) k) s S
 b1:∀k,blk (v' 6) k->blk (v 6) k\/s.nx<=k
 b2:∀k,blk (v' 7) k->blk (v 7) k\/s.nx<=k
def TI.start(b:Has s wb (lS v n))(c:uK s 42 G1 (v 6) (v 7) N1)(a:xF GH s G1):TI s wb n N1 v G1 ts 0 s v G1:=⟨b,λ_ _ _=>Y,c,a,λ_ h=>.inl h,bC s,λ_ h=>.inl h,λ_ h=>.inl h⟩
def TI.next(h:TI s wb n N1 v G1 ts j S v' G'){t:fA}(f:ts[j]?=some t){L:Nat}{m:Bq}{S':AS}{q:Option Addr}{c:Nat}{p:Nq}{e:Gh}(a:AI GH 6 7 42 S wb (n+j+1) (N1+4*j) L v' t.at_ G' m 4 S' q c p e):TI s wb n N1 v G1 ts (j+1) S' p e:=by
 have x:=h.fr.1;refine⟨by rw[<-Nat.add_assoc];exact a.w,λk l o=>(a.ne k l o).trans<|h.ne k l o,by rw[show N1+4*(j+1)=N1+4*j+4 by omega];exact a.r,a.g,λk d=>?_,?_,λk d=>?_,λk d=>?_⟩
 .rcases a.VT k d with z|z|z
  .rcases h.VT k z with z|⟨i,t,q1,q2,q3⟩|z
   .exact .inl z
   .exact .inr<|.inl ⟨i,t,oq,q2,q3⟩
   .exact .inr<|.inr z
  .exact .inr<|.inl ⟨j,t,oq,f,z⟩
  .exact .inr<|.inr oq
 .refine(h.fr.mono λb _ z=>?_).trans a.fr λb u z=>?_
  .rcases z with z|⟨i,t,q1,q2,q3⟩|z
   .exact .inl z
   .exact .inr<|.inl ⟨i,t,oq,q2,q3⟩
   .exact .inr<|.inr z
  .rcases z with z|z|z|z
   .exact .inl z
   .exact .inr<|.inl ⟨j,t,oq,f,z⟩
   .rcases h.b1 b z with z|z
    .exact .inr<|.inr<|.inl z
    .omega
   .rcases h.b2 b z with z|z
    .exact i3 z
    .omega
 .rcases a.b1 k d with z|z
  .exact h.b1 k z
  .exact .inr oq
 .rcases a.b2 k d with z|z
  .exact h.b2 k z.1
  .exact .inr oq
end
section
variable {ι:Type}{N0:ι->Nat}{M:ι->World->Nat->Prop}{O:ι->Nat->Prop}{R:ι->Wq}{D:ι->World->World->Array Event->Prop}{X:ι->Gq}{Hd:ι->Hq->World->Prop}{An:dQ}{pr:Prim}
variable {s:AS}{wb n N1 N2 c0:Nat}{v:Nq}{G1 G2:Gh}{va:Value}{ts:List fA}{us:List Tok}
theorem Fv(Y:Cy prog dt N0 M O R D X Hd)(hp:cb prog dt An R D X Hd pr)(Ij:pr 184=none)(F:Bz s wb n v N1 N2 G1 G2)(hA:jl s va ts)(hx:eR s ts us)(hD:QO c0 ts)(hu:sU us)(Gp:∀t∈ts,∀b,blk t.at_ b->G1 b=none)(Q9:∀b,blk va b->G2 b=none)
 (hn:n+us.length<=900000000)(hN1:N1+4*us.length<=900000000)(hN2:N2<=900000000) :
  WI prog dt An X Hd (match f96.body with|some c=>c|none=>.skip) ([aF wb 0,va]++List.replicate 61 undef) s (λe Z s'=>(e=.normal\/e=.ret)/\cN prog f96 Z s'=some (.tuple #[])/\∃I G1' L,Bz s' wb (n+us.length+1) I (N1+4*us.length) (N2+4) G1' L/\s.nx<=s'.nx/\∀k o t l,t∉EC->Has s k (.cells o t l)->Has s' k (.cells o t l)):=by
 obtain⟨ad,c,hva,U⟩:∃ad c,va=.slice ad us.length c/\((ad=none/\us.length=0/\c=0)\/∃d l,ad=some ⟨d,0,none⟩/\Has s d (.cells (gO ts) 60 l)):=by
  rw[<-hx.1];rcases hA with ⟨rfl,rfl⟩|⟨d,l,rfl,h⟩
  .exact⟨none,0,rfl,.inl ⟨rfl,rfl,rfl⟩⟩
  .exact⟨_,_,rfl,.inr ⟨d,l,rfl,h⟩⟩
 subst hva;generalize hT:us.length=T at *;have tA:∀(i:Nat) (t:fA),ts[i]?=some t->∃a A c,t.at_=.slice a A c/\A<=20/\((a=none/\A=0/\c=0)\/∃J o l,a=some ⟨J,0,none⟩/\Has s J (.cells o 47 l)/\o.size=A*2):=λi t B=>by
  have hi:i<us.length:=by rw[<-hx.1];exact(gS.1 B).1
  have h5:=(hx.2 i t _ B<|gE hi).2.2.2.2;have h20:=hu _<|OY hi;generalize us[i]=u at *;rcases h5 with ⟨W,q2⟩|⟨J,c,l,W,q2,q3⟩
  .exact⟨none,0,0,W,oq,.inl ⟨rfl,rfl,rfl⟩⟩
  .exact⟨_,u.lV.length,c,W,h20,.inr ⟨J,_,l,rfl,⟨q2,q3⟩,np _⟩⟩
 have tB:∀t∈ts,∀b,blk t.at_ b->∃o l,Has s b (.cells o 47 l):=λt B b hb=>by
  have⟨i,hi⟩:=List.mem_iff_getElem?.1 B;have⟨a,A,c,W,_,q3⟩:=tA i t hi;rw[W] at hb;rcases q3 with ⟨rfl,_⟩|⟨J,o,l,rfl,q4,_⟩
  .have⟨_,_,_,_,z⟩:=hb;cases z
  .rw[dz hb];exact⟨o,l,q4⟩
 have E:∀{j S I K},TI s wb n N1 v G1 ts j S I K->∀k o t l,Has s k (.cells o t l)->t≠74->t≠47->t≠42->¬blk (v 7) k->Has S k (.cells o t l):=λ{j S I K} f k o t l p t1 t2 t3 t4=>p.fr f.fr λz=>by
  rcases z with rfl|⟨i,t',W,q2,q3⟩|z|z
  .exact p.ne F.w t1 rfl
  .have⟨uo,Gj,q⟩:=tB t' (mG q2) k q3;exact p.ne q t2 rfl
  .have⟨V,c2,C,_⟩:=F.ra;have⟨_,_,q⟩:=C.one;exact p.ne (q k z) t3 rfl
  .exact t4 z
 have n7:∀k o t l,Has s k (.cells o t l)->t≠9->¬blk (v 7) k:=λk o t l p B z=>by have⟨V,c2,_,r2,_⟩:=F.ra;have⟨_,_,q⟩:=r2.one;exact p.ne (q k z) B rfl
 refine bR Y <| ng Y hp <| cu 9 kq (cJ s<|jj (Hb wb (.slice ad T c) 0) kq λx0=>ek Y <| eo (lP Y (Q:=λe Z S=>e=.exit 0/\∃I K,TI s wb n N1 v G1 ts T S I K/\∃x,Z=Hb wb (.slice ad T c) T x) (λu Z S=>∃j,u+j=T/\∃I K,TI s wb n N1 v G1 ts j S I K/\∃x,Z=Hb wb (.slice ad T c) j x) ?_ T _ _ ⟨0,oq,v,G1,TI.start F.w F.ra F.ga,x0,rfl⟩) ?_)
 .rintro u Z S ⟨j,hj,I,K,f,x,rfl⟩;by_cases iX:j<T
  .obtain⟨t,B⟩:∃t,ts[j]?=some t:=⟨_,gE<|by rw[hx.1];omega⟩;have⟨a,A,ca,W,q2,q3⟩:=tA j t B;rcases U with ⟨_,h0,_⟩|⟨d,l,rfl,hd⟩
   .omega
   have ei:Has S d (.cells (gO ts) 60 l):=E f _ _ _ _ hd dq dq dq<|n7 _ _ _ _ hd dq;have a3:(gO ts)[j*5+3]?=some (.slice a A ca):=by rw[lJ B 3 dq,<-W];rfl
   refine ng Y hp <| zr <| zk 3 <| zp (nT j T iX) <| zf <| za S <| zT (bR Y <| ek Y <| fK Y (qe Y (aF wb 0) S rfl<|qe Y (.slice (sq d) T c) S rfl<|qe Y (num j) S rfl<|kZ Y cx (v:=aF d<|j*5) (s1:=S) rfl (yi d 0 T c (j*5) none .i64 (j:Nat) 5 oq oq oq)<|qe Y (aF d<|j*5+3) S rfl<|kZ Y cx (v:=.slice a A ca) (s1:=S) rfl (yl d (j*5+3) (.slice a A ca) ei.2 (i:=a3))<|j1 Y cL (aY:=f103) rfl rfl #[aF wb 0,.slice a A ca] rfl kq func103 (show f103.body=some (match f103.body with|some c=>c|none=>.skip) from rfl) (eo (HK (v:=I) (G:=K) (N:=N1+4*j) Y hp Ij f.w oq f.ra oq f.ga ?_ oq) ?_)))
   .rcases q3 with q3|⟨J,o,Gj,rfl,q4,q5⟩
    .exact .inl q3
    have Wj:blk t.at_ J:=by rw[W];exact⟨_,_,_,_,rfl⟩
    have xj:¬∃i t',i<j/\ts[i]?=some t'/\blk t'.at_ J:=by
     rintro⟨i,t',C,r2,r3⟩
     have:=hD.2 i j t' t J r2 B r3 Wj;omega
    refine .inr ⟨J,o,Gj,rfl,q4.fr f.fr λz=>?_,q5,?_⟩
    .rcases z with rfl|z|z|z
     .exact q4.ne F.w dq rfl
     .exact xj z
     .have⟨V,c2,C,_⟩:=F.ra;have⟨_,_,q⟩:=C.one;exact q4.ne (q J z) dq rfl
     .exact n7 _ _ _ _ q4 dq z
    .cases hg:K J with
     | none=>rfl
     | some y =>
      rcases f.VT J (by rw[hg];simp) with z|z|z
      .exact absurd (Gp t (mG B) J Wj) z
      .exact absurd z xj
      .have:=q4.1;omega
   .rintro e Z S' ⟨h1,h2,ad',c',v2,L,m⟩;rw[<-W] at m;have vT:=f.next B m;exact⟨h1,.tuple #[],h2,gB Y rfl (ug Y hp <| zx <| zg 1 S' <| zp (na j 1 oq) <| zg 1 S' <| aB ⟨u-1,oq,j+1,oq,v2,L,vT,aP kq⟩)⟩
  .obtain rfl:j=T:=oq
   exact ng Y hp <| zr <| zk 3 <| zp (nF j j iX) <| zf <| za S <| aJ kq (EW.exit ⟨rfl,I,K,f,aP kq⟩)
 .rintro e Z S ⟨rfl,I,K,f,x,rfl⟩;have k3:∀k o t l,t=56\/t=9->(blk (v 2) k\/blk (v 3) k)->Has s k (.cells o t l)->Has S k (.cells o t l):=λk o t l B hb p=>E f k o t l p (by rcases B with rfl|rfl<;>decide) (by rcases B with rfl|rfl<;>decide) (by rcases B with rfl|rfl<;>decide) (by
   rcases hb with z|z
   .have⟨V,c2,C,_⟩:=F.rt;have⟨_,_,q⟩:=C.one;exact n7 _ _ _ _ (q k z) dq
   .exact F.d k z);have H:uK S 56 G2 (I 2) (I 3) N2:=by rw[f.ne 2 dq dq,f.ne 3 dq dq];exact F.rt.kt k3
  have gt2:xF JM S G2:=F.gt.kp λk o l _ p=>E f k o 60 l p dq dq dq<|n7 _ _ _ _ p dq;refine eo (Nu (v:=I) (G:=G2) (N:=N2) Y hp Ij f.w oq H hN2 gt2 ?_ oq T x) ?_
  .rcases U with z|⟨d,l,rfl,hd⟩
   .exact .inl z
   .exact .inr ⟨d,gO ts,l,rfl,E f _ _ _ _ hd dq dq dq<|n7 _ _ _ _ hd dq,by rw[tW,hx.1,hT],Q9 d ⟨_,_,_,_,rfl⟩⟩
  .rintro e Z S' ⟨h1,h2,ad',c',v2,L,m⟩;refine⟨h1,h2,v2,K,L,⟨m.w,λk k2 k3 k6 k7=>(m.ne k k2 k3).trans<|(f.ne k k6 k7).trans<|F.z k k2 k3 k6 k7,?_,?_,m.r,m.g,λb z3 z7=>?_⟩,?_,λk o t l B p=>?_⟩
   .rw[m.ne 6 dq dq,m.ne 7 dq dq];refine f.ra.kt λk o t l B hb p=>p.fr m.fr λz=>?_;rcases z with rfl|z|z|z
    .exact p.ne f.w (by rcases B with rfl|rfl<;>decide) rfl
    .rcases U with ⟨rfl,_⟩|⟨d,l,rfl,hd⟩
     .have⟨_,_,_,_,z⟩:=z;cases z
     .have ei:=E f _ _ _ _ hd dq dq dq<|n7 _ _ _ _ hd dq;rw[dz z] at p;exact p.ne ei (by rcases B with rfl|rfl<;>decide) rfl
    .have⟨V,c2,C,_⟩:=H;have⟨_,_,q⟩:=C.one;have P:=q k z;rcases hb with w|w
     .have⟨c3,c4,r3,_⟩:=f.ra;have⟨_,_,q'⟩:=r3.one;exact P.ne (q' k w) dq rfl
     .have⟨c3,c4,_,r3,_⟩:=f.ra;have⟨_,_,q'⟩:=r3.one;exact P.ne (q' k w) dq rfl
    .have hz:=z;rw[f.ne 3 dq dq] at z;rcases hb with w|w
     .have⟨V,c2,_,C,_⟩:=H;have⟨_,_,q⟩:=C.one;have⟨c3,c4,r3,_⟩:=f.ra;have⟨_,_,q'⟩:=r3.one;exact(q k hz).ne (q' k w) dq rfl
     .rcases f.b2 k w with w|w
      .exact F.d k z w
      .have⟨V,c2,_,C,_⟩:=F.rt
       have:=C.lt k z;omega
   .refine f.ga.kp λk o l _ p=>p.fr m.fr λz=>?_;rcases z with rfl|z|z|z
    .exact p.ne f.w dq rfl
    .rcases U with ⟨rfl,_⟩|⟨d,l,rfl,hd⟩
     .have⟨_,_,_,_,z⟩:=z;cases z
     .have ei:=E f _ _ _ _ hd dq dq dq<|n7 _ _ _ _ hd dq;rw[dz z] at p;exact p.ne ei dq rfl
    .have⟨V,c2,C,_⟩:=H;have⟨_,_,q⟩:=C.one;exact p.ne (q k z) dq rfl
    .have⟨V,c2,_,C,_⟩:=H;have⟨_,_,q⟩:=C.one;exact p.ne (q k z) dq rfl
   .rw[m.ne 7 dq dq] at z7;have⟨c3,c4,_,r3,_⟩:=f.ra;have h7:=r3.lt b z7;rcases m.b2 b z3 with z|z
    .exact absurd z.2 dq
    .omega
   .have:=f.fr.1
    have:=m.fr.1;omega
   .have P:∀{a:TypeId},a∈EC->t≠a:=λha e=>B<|e▸ha;have hS:=E f k o t l p (P dq) (P dq) (P dq)<|n7 _ _ _ _ p<|P dq;refine hS.fr m.fr λz=>?_;rcases z with rfl|z|z|z
    .exact hS.ne f.w (P dq) rfl
    .rcases U with ⟨rfl,_⟩|⟨d,l,rfl,hd⟩
     .have⟨_,_,_,_,z⟩:=z;cases z
     .have ei:=E f _ _ _ _ hd dq dq dq<|n7 _ _ _ _ hd dq;rw[dz z] at hS;exact hS.ne ei (P dq) rfl
    .have⟨V,c2,C,_⟩:=H;have⟨_,_,q⟩:=C.one;exact hS.ne (q k z) (P dq) rfl
    .have⟨V,c2,_,C,_⟩:=H;have⟨_,_,q⟩:=C.one;exact hS.ne (q k z) (P dq) rfl
end
def Og (s:AS):Prop:=∀b cs t fz,s.get b=some (.cells cs t fz)->t<1000
section
variable {ι:Type}{P:Program}{KT Vp:TypeId->Prop}{An:dQ}{X:ι->Gq}{Hd:ι->Hq->World->Prop}{aA:TL}{s:AS}{Q Q':Exit->TL->AS->Prop}{c:Code}{S:dQ}{l:Hq}
def gh.kc(n:∀t,t<1000->Vp t->KT t)(q:Og s)(h:gh P KT An S s l):gh P Vp An S s l:=⟨λb o i=>by have⟨g,z,e,r,j,k,m,f⟩:=h.live b o i;exact⟨g,z,e,r,j,k,m,λa t c d=>⟨(f a t c d).1,λp=>(f a t c d).2<|n t (q b a t c<|by rw[i,d]) p⟩⟩,h.inj,h.lt,h.an⟩
def QA(z:∀t,t<1000->(Vp t↔KT t))(K:Og s)(h:WI P Vp An X Hd c aA s Q')(H:∀e a j,Q' e a j->∃f,Og f/\(∀b o,f.get b=some o->j.get b=some o)/\f.nx=j.nx/\Q e a f):WI P KT An X Hd c aA s Q:=by intro D S l E i w a p I G F J u k;refine h D S l E i w a p (I.kc (λt v=>(z t v).1) K) G F J u ?_;intro e g j L B M Z C q N m O R T U;have⟨f,V,n,W,Y⟩:=H e g j q;refine k e g f L B M Z C Y N (gh.kc (λt v=>(z t v).2) V ⟨λb o d=>m.live b o<|n b o d,λb y o A x x' d r=>m.inj b y o A x x' (n b o d)<|n y A r,λb o d=>by rw[W];exact m.lt b o<|n b o d,m.an⟩) O R T<|λb d=>U b oq
end
def ktw(a b:Inhabited KC)(t:TypeId)(h:t<1000):@dt a t↔@dt b t:=by
 constructor<;>rintro(z|z|z)
 .exact .inl z
 .exact .inr<|.inl z
 .exact absurd z<|Nat.ne_of_lt<|lL h<|Nat.le_add_left _ _
 .exact .inl z
 .exact .inr<|.inl z
 .exact absurd z<|Nat.ne_of_lt<|lL h<|Nat.le_add_left _ _
section
variable {s:AS}
def se{b:Nat}{o:Obj}:∀{l:List Nat},(s.only l).get b=some o->b∈l
 | [],h=>by unfold AS.only at h;unfold AS.get at h;simp at h
 | c::l,h=>by
  unfold AS.only at h;split at h
  .split at h
   .rw[AS.aU] at h;split at h
    .next e=>rw[e];exact List.mem_cons_self ..
    .exact Oa _<|se h
   .exact Oa _<|se h
  .exact Oa _<|se h
def TE (s:AS) (p:Nat->Prop):∃a,a.nx=s.nx/\(∀b o,p b->Has s b o->ot o=true->Has a b o)/\∀b o,a.get b=some o->s.get b=some o/\p b:=by
 classical
 refine ⟨s.only<|(List.range s.nx).filter λk=>decide (p k),(nN _ s).1,λb o d h c=>⟨by rw [(nN _ s).1];exact h.1,wi (by simp [h.1,d]) h.2 c⟩,λb o h=>⟨((nN _ s).2 b o h).1,?_⟩⟩
 have:=se h
 simp at this
 exact this.2
end
section
variable {s:AS}{wb n N1 N2:Nat}{v:Nq}{G1 G2:Gh}
abbrev lQ:Obj:=.cells eZ.toArray 335
def LS{n:Nat}{x:Value}(h:fs x=true):nf n x=true:=by unfold nf;split<;>first|exact h|(simp[fs] at h)|rfl
def Pw{n b N:Nat}(h:b<n):nf n (hM b N)=true:=by show Nat.blt b n=true;rw[Nat.blt_eq];exact h
def gU.nm{e:TypeId}{x:Value}{N:Nat}{cs:Aq}(h:gU s e x N cs):nf s.nx x=true:=by
 rcases h with ⟨rfl,_⟩|⟨b,f,rfl,h2,_⟩
 .rfl
 .exact Pw h2.1
def s6{cs:Aq}{n:Nat}(h:∀(i:Nat) (x:Value),cs[i]?=some x->nf n x=true):cs.toList.all (nf n)=true:=aT.2 λx b=>by have⟨i,a⟩:=List.mem_iff_getElem?.1 b;exact h i x<|by simpa using a
def uJ.nm{cs:Aq}{sz c n:Nat}{q:Vq}(h:uJ cs sz c q)(g:cs.size=c*sz)(j:0<sz)(f:q.all fs=true):cs.toList.all (nf n)=true:=s6 λi x b=>by
 have e:i<c*sz:=by rw[<-g];exact(oa.1 b).1
 have d:=Nat.div_lt_of_lt_mul (by rw[Nat.mul_comm];exact e);have a:=h _ (i % sz) d<|Nat.mod_lt _ j;rw[Nat.mul_comm,Nat.div_add_mod,b] at a;exact LS<|aT.1 f x<|mG a.symm
def Ba.nm{G:Gh}{x:Value}{m:Bq}{n:Nat}(h:Ba G x m)(d:∀b,G b≠none->b<n):nf n x=true:=by
 obtain⟨e,k,c,rfl,_,a⟩:=h;rcases a with ⟨rfl,rfl⟩|⟨b,c',rfl,h4,_⟩
 .rfl
 .show Nat.blt b n=true;rw[Nat.blt_eq];exact d b<|by rw[h4];simp
def Has.xB{b:Nat}{o o':Obj}(h:Has s b o)(a:s.get b=some o'):o'=o:=IZ<|a.symm.trans h.2
def keepW(l:Bz s wb n v N1 N2 G1 G2)(V:Has s 1 lQ){E:Nat->Prop}(W:∀k,E k->∃g t j,Has s k (.cells g t j)/\t<1000/\ot (.cells g t j)=true/\g.toList.all (nf s.nx)=true) :
  ∃B,B.nx=s.nx/\(∀b o,B.get b=some o->s.get b=some o)/\Bz B wb n v N1 N2 G1 G2/\Has B 1 lQ/\Tm B/\Og B/\∀k g t j,E k->Has s k (.cells g t j)->Has B k (.cells g t j):=by
 have⟨B,n',e,S⟩:=TE s<|λk=>k=1\/k=wb\/G1 k≠none\/G2 k≠none\/E k\/blk (v 6) k\/blk (v 7) k\/blk (v 2) k\/blk (v 3) k;have C:∀b g H j,B.get b=some (.cells g H j)->H<1000/\g.toList.all (nf s.nx)=true:=by
  intro b g H j a;have⟨a,c⟩:=S b _ a;have⟨a1,a2,M,N,O⟩:=l.ra;have⟨t1,t2,P,Q,R⟩:=l.rt;rcases c with rfl|rfl|c|c|c|c|c|c|c
  .have:=V.xB a;cases this;refine⟨dq,s6 λi x r=>LS ?_⟩;exact aT.1 zZ x<|by simpa using Array.mem_of_getElem? r
  .have:=l.w.xB a;cases this;refine⟨dq,?_⟩;have hv:∀k,nf s.nx (v k)=true:=λk=>by
    by_cases X:k=2
    .rw[X];exact P.nm
    by_cases Y:k=3
    .rw[Y];exact Q.nm
    by_cases Z:k=6
    .rw[Z];exact M.nm
    by_cases k7:k=7
    .rw[k7];exact N.nm
    rw[l.z k X Y Z k7];rfl
   simp only[List.all_cons,List.all_nil,hv,Bool.and_true,Bool.true_and];rfl
  .cases hg:G1 b with
   | none=>exact absurd hg c
   | some y =>
    have⟨D,F,G,p,u⟩:=l.ga b y.1 y.2 hg
    have:=G.xB a;cases this;exact⟨dq,u.nm p dq rfl⟩
  .cases hg:G2 b with
   | none=>exact absurd hg c
   | some y =>
    have⟨D,F,G,p,u⟩:=l.gt b y.1 y.2 hg
    have:=G.xB a;cases this;exact⟨dq,u.nm p dq rfl⟩
  .have⟨D,t',F,G,p,_,u⟩:=W b c
   have:=G.xB a;cases this;exact⟨p,u⟩
  .rcases M with ⟨q,_⟩|⟨d,f,q,p,u⟩
   .rw[q] at c;exact(dT c).elim
   .rw[q] at c;rw[dz c] at a
    have:=p.xB a;cases this;refine⟨dq,s6 λi x r=>?_⟩;have⟨U,m,J,_,L⟩:=O i (by rw[<-u];exact(oa.1 r).1);rw[r] at J;cases J;exact L.nm λb a=>l.ga.lt a
  .rcases N with ⟨q,_⟩|⟨d,f,q,p,u⟩
   .rw[q] at c;exact(dT c).elim
   .rw[q] at c;rw[dz c] at a
    have:=p.xB a;cases this;refine⟨dq,s6 λi x r=>?_⟩;have⟨U,m,_,K,L⟩:=O i (by rw[<-u];exact(oa.1 r).1);rw[r] at K;cases K;rfl
  .rcases P with ⟨q,_⟩|⟨d,f,q,p,u⟩
   .rw[q] at c;exact(dT c).elim
   .rw[q] at c;rw[dz c] at a
    have:=p.xB a;cases this;refine⟨dq,s6 λi x r=>?_⟩;have⟨U,m,J,_,L⟩:=R i (by rw[<-u];exact(oa.1 r).1);rw[r] at J;cases J;exact L.nm λb a=>l.gt.lt a
  .rcases Q with ⟨q,_⟩|⟨d,f,q,p,u⟩
   .rw[q] at c;exact(dT c).elim
   .rw[q] at c;rw[dz c] at a
    have:=p.xB a;cases this;refine⟨dq,s6 λi x r=>?_⟩;have⟨U,m,_,K,L⟩:=R i (by rw[<-u];exact(oa.1 r).1);rw[r] at K;cases K;rfl
 refine⟨B,n',λb o h=>(S b o h).1,⟨e _ _ (.inr<|.inl rfl) l.w rfl,l.z,l.ra.kt λk g t j T a A=>e _ _ ?_ A ?_,l.ga.kp λk g j I A=>e _ _ (.inr<|.inr<|.inl I) A rfl,l.rt.kt λk g t j T a A=>e _ _ ?_ A ?_,l.gt.kp λk g j I A=>e _ _ (i3<|.inl I) A rfl,l.d⟩,e _ _ (.inl rfl) V rfl,λb g H j a=>by rw[n'];exact(C b g H j a).2,λb g H j a=>(C b g H j a).1,λk g t j I A=>?_⟩
 .rcases a with z|z
  .exact i3<|.inr<|.inr<|.inl z
  .exact i3<|i3<|.inl z
 .rcases T with rfl|rfl<;>rfl
 .rcases a with z|z
  .exact i3<|i3<|.inr<|.inl z
  .exact i3<|i3<|.inr<|.inr z
 .rcases T with rfl|rfl<;>rfl
 .have⟨D,t',F,G,_,p,_⟩:=W k I
  have:=G.xB A.2;cases this;exact e _ _ (i3<|.inr<|.inl I) A p
end
def uP:Prim:=λ_=>none
def pW{b:Type}{P:Program}{KT:TypeId->Prop}{An:dQ}{R:b->Wq}{D:b->World->World->Array Event->Prop}{X:b->Gq}{c:b->Hq->World->Prop}:cb P KT An R D X c uP:=⟨λf g a s v d h=>(by cases h),λf g a s v d h=>(by cases h)⟩
section
variable {ι:Type}{N0:ι->Nat}{M:ι->World->Nat->Prop}{O:ι->Nat->Prop}{R:ι->Wq}{D:ι->World->World->Array Event->Prop}{X:ι->Gq}{Hd:ι->Hq->World->Prop}{An:dQ}
def xY(Y:Cy prog dt N0 M O R D X Hd)(d:∀b,32<=b->An b=none):∃g,cb prog dt An R D X Hd g/\qm g/\∀f,f≠379->f≠381->f≠390->g f=none:=by
 have⟨h,c,n,l⟩:=IU Y d pW<|λf _=>I;have a:∀f,f≠379->f≠381->f≠390->yM (tP 381 c<|tP 390 h uP) f=none:=λf i j k=>by unfold yM tP;rw[iw (by simpa using i),iw<|by simpa using j,iw<|by simpa using k];rfl
 refine⟨yM<|tP 381 c<|tP 390 h uP,Mq Y n,⟨λf m=>?_,λu s e=>TF I u s e,λu w s e=>Hw I<|l u w e⟩,a⟩;refine a f ?_ ?_ ?_<;>(rintro rfl;revert m;decide)
end
section
variable {s s':AS}{va:Value}{ts:List fA}{us:List Tok}
def jl.fB(h:jl s va ts)(b:eQ s.nx s s'):jl s' va ts:=h.imp id λ⟨d,a,e,h⟩=>⟨d,a,e,h.oj b⟩
def eR.fB(h:eR s ts us)(d:eQ s.nx s s'):eR s' ts us:=⟨h.1,λi t u a b=>by
 have⟨f,g,j,k,l⟩:=h.2 i t u a b;refine⟨f,g,j,k,?_⟩;rcases l with q|⟨ab,c,fz,e,p1,p2⟩
 .exact .inl q
 .have:=Has.oj ⟨p1,p2⟩ d;exact .inr ⟨ab,c,fz,e,this.1,this.2⟩⟩
end
def xI(s:AS)(wb n:Nat)(d:Nat)(s':AS):Prop:=∃n' v' N1 N2 G1 G2,Bz s' wb n' v' N1 N2 G1 G2/\n'<=n+d/\N1<=4*n'/\N2<=4*n'/\Has s' 1 lQ/\s.nx<=s'.nx
section
variable {ι:Type}{N0:ι->Nat}{M:ι->World->Nat->Prop}{O:ι->Nat->Prop}{R:ι->Wq}{D:ι->World->World->Array Event->Prop}{X:ι->Gq}{Hd:ι->Hq->World->Prop}{An:dQ}{pr1 YG:Prim}
variable {s s1 s2:AS}{wb n N1 N2 c0 er:Nat}{v:Nq}{G1 G2:Gh}{va vb:Value}{ts ys:List fA}{us:List Tok}{t:Bq}
def Hn(Y:Cy prog dt N0 M O R D X Hd)(h:cb prog dt An R D X Hd pr1)(a:cb prog dt An R D X Hd YG)(q:YG 95=none)(g:YG 184=none)
 (K:Ef pr1 30 #[str t] s (.tuple #[va,num er]) s1)(L:Ef YG 94 #[str t] s1 (.tuple #[vb,num er]) s2)(Q:Bz s2 wb n v N1 N2 G1 G2)(N:Has s2 1 lQ)(r:jl s2 va ts)(C:eR s2 ts us)(F:jl s2 vb ys)(H:eR s2 ys us)(P:QO c0 ts)(G:sU us)(z:∀t∈ts,∀b,blk t.at_ b->G1 b=none)(A:∀b,blk va b->G2 b=none)(hn:n+us.length<=200000000)(T:N1<=4*n)(U:N2<=4*n)(V:s.nx<=s2.nx) :
  WI prog dt An X Hd (match f52.body with|some c=>c|none=>.skip) ([aF wb 0,str t]++List.replicate 107 undef) s (λe m I=>(e=.normal\/e=.ret)/\cN prog f52 m I=some (.bool true)/\xI s wb n (us.length+1) I):=by
 obtain⟨f,E,rfl⟩:∃o k,va=.slice o us.length k:=by rw[<-C.1];rcases r with ⟨rfl,rfl⟩|⟨d,fz,rfl,_⟩<;>exact⟨_,_,rfl⟩
 obtain⟨p,W,rfl⟩:∃o k,vb=.slice o us.length k:=by rw[<-H.1];rcases F with ⟨rfl,rfl⟩|⟨d,fz,rfl,_⟩<;>exact⟨_,_,rfl⟩
 refine ng Y h <| cu 9 kq (cJ s<|ng Y h <| zx <| zc 1 K <| zf (cJ s1<|ng Y a <| zx <| zc 1 L <| zf (cJ s2<|ng Y a <| zx <| zk 2 <| zp (aI (u:=num er) (w:=num er) rfl kq kq<|vK _) <| zk 5 <| zp (aI (w:=num us.length) rfl kq kq<|vK _) <| zf (cJ s2<|bR Y <| ng Y a <| cu 9 kq (cJ s2<|jj (MX wb t _ _ 0) kq λx0=>ug Y a <| aN (VK q r F C H (λu B=>by have:=G u B;omega) oq x0) ?_)))));rintro e m S ⟨rfl,rfl,i,x,rfl⟩;refine bR Y <| fK Y (qe Y (aF wb 0) S rfl<|qe Y (.slice f us.length E) S rfl<|j1 Y cL (aY:=f96) rfl rfl _ rfl kq func96 (show f96.body=some _ from rfl)<|eo (Fv Y a g Q r C P G z A oq oq oq) ?_);rintro e m J ⟨Z,q2,v',j,l,y,q3,q4⟩;exact⟨Z,.tuple #[],q2,gB Y rfl<|ug Y a <| zs <| za J (aE ⟨.inr rfl,kq,_,v',_,_,j,l,y,oq,oq,oq,q4 _ _ _ _ dq N,oq⟩)⟩
end
section
variable {Post:Value->World->Prop}{Ex:Nat->Prop}{w₀:World}{An:dQ}
variable {s:AS}{wb n N1 N2:Nat}{v:Nq}{G1 G2:Gh}{t:Bq}
def De(d:∀b,32<=b->An b=none)(C:Bz s wb n v N1 N2 G1 G2)(A:Has s 1 lQ)(o:20000<t.length)(k:t.length<=1000000000)(E:n<=200000000)(f:N1<=4*n)(g:N2<=4*n) :
  WI prog dt An (λj:Zx=>ZI prog Post 0 j.1) (uI Ex w₀) (match f52.body with|some c=>c|none=>.skip) ([aF wb 0,str t]++List.replicate 107 undef) s (λe m l=>(e=.normal\/e=.ret)/\cN prog f52 m l=some (.bool true)/\xI s wb n (2*t.length+42) l):=by have⟨pr,H,B,a⟩:=xY (Sl (Post:=Post) (Ex:=Ex) (w₀:=w₀)) d;refine eo (Hn (us:=[]) (c0:=0) (Sl) pW H (a 95 dq dq dq) (a 184 dq dq dq) (Ju Y o) (Jw B o k) C A (.inl ⟨Y,Y⟩) ⟨Y,λi t u h=>by simp at h⟩ (.inl ⟨Y,Y⟩) ⟨Y,λi t u h=>by simp at h⟩ ⟨λt h=>by simp at h,λi j t x b h=>by simp at h⟩ (λu F=>by simp at F) (λt h=>by simp at h) (λb D=>(dT D).elim) (by simpa using E) f g lr) ?_;rintro e m l ⟨I,J,G,N,r,w,p,q,K,L,M⟩;exact⟨I,J,G,N,r,w,p,q,K,by simp at L;omega,M⟩
def Df(M:QB An)(i:∀b,32<=b->An b=none)(C:JE Ex w₀)(z:Bz s wb n v N1 N2 G1 G2)(L:Has s 1 lQ)(hT:Tm s)(h31:31<s.nx)(w:t.length<=20000)(E:gi t=kc)(hn:n<=100000000)(A:N1<=4*n)(B:N2<=4*n) :
  WI prog dt An (λj:Zx=>ZI prog Post 0 j.1) (uI Ex w₀) (match f52.body with|some c=>c|none=>.skip) ([aF wb 0,str t]++List.replicate 107 undef) s (λe I H=>(e=.normal\/e=.ret)/\cN prog f52 I H=some (.bool true)/\xI s wb n (2*t.length+42) H):=by
 have⟨pr,ok,hD,q⟩:=xY (An:=An) (Sl (Post:=Post) (Ex:=Ex) (w₀:=w₀)) i;have N:=AJ (n:=t.length) (l:=t);have hw:gi (aG<|DC t.length t)<=kc:=by rw[<-wQ _ _ lr,Hv _ _ lr,E];exact l8 _
 have hK:=Mo (rn:=s.nx+1) oq hw mX oq;have hTl:=Qm hK;have⟨m,F⟩:=Fu (s:=s) w L hT E;have o:Of An (JE Ex w₀) (s.nx+1) _ (DC t.length t):=(Mp (rn:=s.nx+1) mX oq).toA M C;obtain⟨⟨z1,e1',x⟩,_⟩:=M;have g:nh ⟨t.toArray⟩ 0 (DC t.length t):=by have:=CO ⟨t.toArray⟩ t.length 0 (by show t.length-0<=t.length;omega);simpa using this
 have⟨s1,va,ts,Z,T,U,V,a4,a5,W,J⟩:=(F uP rfl).ex;have⟨s2,vb,ys,e2,X,K,r⟩:=Jv (s:=s1) hD w;rw[<-UB] at K;have p:∀k d a f,ot (.cells d a f)=true->Has s k (.cells d a f)->Has s2 k (.cells d a f):=λk d a f ho u=>(V k _ u.1 u.2 ho).oj r;have hl:∀a,a∈EC->∀d f,ot (.cells d a f)=true:=λa h d f=>by simp only[EC,pS,IA,or_false] at h;rcases h with rfl|rfl|rfl|rfl|rfl|rfl<;>rfl
 have Y:=r.1;refine eo (Hn (er:=0) (Sl (Post:=Post) (Ex:=Ex) (w₀:=w₀)) (PW (Post:=Post) x i (n:=m) (str:=⟨t.toArray⟩) (r0:=s.nx+1) oq (od:=AS.all) FI o E g mX oq<|pW (P:=prog)) ok (q 95 dq dq dq) (q 184 dq dq dq) Z e2 (z.kp λk d a f F u=>p k d a f (hl a F d f) u) (p _ _ _ _ rfl L) (T.fB r) (U.fB r) X K J Uz (λt w b D=>?_) (λb D=>?_) oq A B oq) ?_
 .cases hg:G1 b with
  | none=>rfl
  | some y =>
   have:=z.ga.lt (b:=b)<|by rw[hg];simp
   have:=J.1 t w b D;omega
 .cases hg:G2 b with
  | none=>rfl
  | some y =>
   have:=z.gt.lt (b:=b)<|by rw[hg];simp
   have:=W b D;omega
 .rintro e I H ⟨q1,q2,n',v',R,S,O,Q,q3,q4,q5⟩;exact⟨q1,q2,n',v',R,S,O,Q,q3,oq,q5⟩
end
def SA{a b:Int}(h:a≠b):dj .eql (num a) (num b)=some (.bool false):=by unfold dj;simp[num,h]
def O0{a b:Int}(h:a<b):dj .geq (num a) (num b)=some (.bool false):=by unfold dj;simp[num];omega
def PZ{rn:Nat}{all:Iq}:xm rn (gz rn all) all:=⟨si rn all,λY A a c d b=>b⟩
section
variable {Post:Value->World->Prop}{Ex:Nat->Prop}{w₀:World}{An:dQ}
variable {s:AS}{wb n N1 N2:Nat}{v:Nq}{G1 G2:Gh}{t:Bq}
def Dg(Q:QB An)(f:∀b,32<=b->An b=none)(z:JE Ex w₀)(R:Bz s wb n v N1 N2 G1 G2)(O:Has s 1 lQ)(P:31<s.nx)(A:t.length<=1000000000)(U:n<=100000000)(l:N1<=4*n)(o:N2<=4*n) :
  WI prog dt An (λj:Zx=>ZI prog Post 0 j.1) (uI Ex w₀) (match f52.body with|some c=>c|none=>.skip) ([aF wb 0,str t]++List.replicate 107 undef) s (λe N q=>(e=.normal\/e=.ret)/\cN prog f52 N q=some (.bool true)/\xI s wb n (2*t.length+42) q):=by
 have⟨q,n',J,g,d,S,i,_⟩:=keepW R O (E:=λ_=>False)<|λk h=>h.elim;have p:∀(a:TL) (L r:AS),cN prog f52 a L=cN prog f52 a r:=λa L r=>kq
 refine zm q J oq ?_;by_cases T:t.length<=20000
 .refine QA (Vp:=@dt ⟨⟨gi t⟩⟩) (λt A=>ktw _ _ t A) i (@Df ⟨⟨gi t⟩⟩ Post Ex w₀ An q wb n N1 N2 v G1 G2 t Q f z g d S oq T rfl U l o) ?_;rintro e a r ⟨B,C,m,K,x,y,u,w,D,F,G,H,I,V⟩;have⟨M,W,X,Y,Z,r5,r6,_⟩:=keepW D I (E:=λ_=>False)<|λk h=>h.elim;exact⟨M,r6,X,W,B,(p a M r).trans C,m,K,x,y,u,w,Y,F,G,H,Z,oq⟩
 .refine eo (De f g d oq A oq l o) ?_;rintro e a r ⟨B,C,m,K,x,y,u,w,D,F,G,H,I,V⟩;exact⟨B,C,m,K,x,y,u,w,D,F,G,H,I,oq⟩
abbrev YD(kd on:Int)(A B:Bq)(L:Value):Value:=.agg #[num kd,num on,str A,str B,L]
abbrev opC(kd on:Int)(A B:Bq)(L:Value):Obj:=.cells #[num kd,num on,str A,str B,L] 77
def Nf(hA:QB An)(J:∀b,32<=b->An b=none)(K:JE Ex w₀)(hI:Bz s wb n v N1 N2 G1 G2)(h1:Has s 1 lQ)(h31:31<s.nx){kd O:Int}{B:Bq}{L:Value}(hL:∀k,nf k L=true)(hkd:kd<=2)(ht:t.length<=1000000000)(hn:n<=100000000)(q:N1<=4*n)(r:N2<=4*n) :
  WI prog dt An (λj:Zx=>ZI prog Post 0 j.1) (uI Ex w₀) (match f33.body with|some c=>c|none=>.skip) ([aF wb 0,YD kd O t B L]++List.replicate 175 undef) s (λe a' a=>(e=.normal\/e=.ret)/\cN prog f33 a' a=some (.bool true)/\xI s wb n (2*t.length+42) a):=by
 have Y:=Sl (Post:=Post) (Ex:=Ex) (w₀:=w₀);have d:cb prog dt An (λ_:Zx=>AtRel) (λj=>DZ j.1) (λj=>ZI prog Post 0 j.1) (uI Ex w₀) uP:=pW;have hb:=bw s<|opC kd O t B L;have W:Bz (s.add<|opC kd O t B L) wb n v N1 N2 G1 G2:=hI.kp λk G F H _ h=>h.add _;have U:=h1.add<|opC kd O t B L;have⟨a,n',sub,p,l,hT,hLow,X⟩:=keepW W U (E:=λk=>k=s.nx) (λk X=>by subst X;refine⟨_,_,_,hb,dq,rfl,?_⟩;simp only[List.all_cons,List.all_nil,hL,Bool.and_true];rfl);have f:=X _ _ _ _ rfl hb;have nn:a.nx=s.nx+1:=n';refine ng Y d <| cu 9 kq (cJ (s.add<|opC kd O t B L)<|zm a sub oq ?_);generalize hx:s.nx=i at *;refine bR Y <| ng Y d <| zx <| zg 1 a <| zp (yl i 0 (num kd) f.2) <| aB ?_;by_cases M:kd=1
 .subst M;refine ek Y <| ng Y d <| cu 9 kq (cJ a ?_);by_cases R:t.length<=20000
  .have⟨m,S⟩:=D9 (s:=a) R hT;obtain⟨⟨z1,T,I⟩,V⟩:=hA;have uN:(⟨t.toArray⟩:ByteArray).size=t.length:=rfl;have okO:=PV (Post:=Post) (n:=m) I J (str:=⟨t.toArray⟩) (r0:=a.nx+3) oq (od:=AS.all) FI (PZ.toA ⟨⟨z1,T,I⟩,V⟩ K) (by rw[kg,Nat.zero_add];exact R) d;have⟨g,P,x,d3,d4⟩:=(S uP rfl).ex;rw[H5 t R] at P;have y:=Ea (pr:=uP) (s:=g) rfl rfl rfl R;have D:=x _ _ f.1 f.2 rfl;have Z:∀F,F∈EC->∀G H,ot (.cells G F H)=true:=λF h G H=>by simp only[EC,pS,IA,or_false] at h;rcases h with rfl|rfl|rfl|rfl|rfl|rfl<;>rfl
   have A:Bz g wb n v N1 N2 G1 G2:=p.kp λk G F H S Q=>x _ _ Q.1 Q.2<|Z F S G H;have z:=x _ _ l.1 l.2 rfl;generalize d51 t=o at *;exact n5 Y rfl kq<|ng Y okO <| zx <| zg 1 a <| zp (yl i 2 (str t) f.2) <| zc 0 P <| zf (cJ g<|ug Y d <| zr <| zg 1 g <| zp (yl i 2 (str t) D.2) <| zc 0 y <| zf <| za g <| zr <| zk 2 <| zp (aI (u:=str o) (w:=str o) rfl kq kq<|vL _) <| zf <| za g (aE ⟨.inr rfl,kq,n,v,N1,N2,G1,G2,A,oq,q,r,z,oq⟩))
  .have⟨g,P,x⟩:=H3 (pr:=uP) (s:=a) rfl (show 20000<t.length by omega);have A:Bz g wb n v N1 N2 G1 G2:=p.kp λk G F H S Q=>Q.oj x;have d4:=x.1;exact n5 Y rfl kq<|ng Y d <| zx <| zg 1 a <| zp (yl i 2 (str t) f.2) <| zc 0 P <| zf (cJ g<|ug Y d <| zr <| zg 1 g <| zp (yl i 2 (str t) (f.oj x).2) <| zc 0 (H4 (pr:=uP) (s:=g) rfl<|show 20000<t.length by omega) <| zf <| za g <| zr <| zf <| za g (aE ⟨.inr rfl,kq,n,v,N1,N2,G1,G2,A,oq,q,r,(l.oj x),oq⟩))
 by_cases N:kd=2
 .subst N;refine ek Y <| ng Y d <| cu 9 kq (cJ a<|xh Y rfl kq<|ng Y d <| cu 9 kq (cJ a<|n5 Y rfl kq<|bR Y <| fK Y (qe Y (aF wb 0) a rfl<|qe Y (aF i 2) a rfl<|kZ Y cx (v:=str t) (s1:=a) rfl (yl i 2 (str t) f.2)<|j1 Y cL (aY:=f52) rfl rfl #[aF wb 0,str t] rfl kq func52 (show f52.body=some _ from rfl)<|eo (Dg hA J K p l oq ht hn q r) ?_)));rintro e a' g ⟨q1,q2,m,v',M1,M2,F1,F2,q3,q4,q5,q6,q7,q8⟩;refine⟨q1,.bool true,q2,qe Y (.bool true) g rfl <| gB Y rfl (ug Y d <| aE ⟨.inr rfl,kq,m,v',M1,M2,F1,F2,q3,q4,q5,q6,q7,oq⟩)⟩
 .have C:∀{c:Int},kd≠c->dj .eql (num kd) (num c)=some (.bool false):=λh=>SA h;exact ek Y <| ug Y d (zr <| zp (aI (u:=num kd) (w:=num 1) rfl kq kq<|C M) <| zf <| za a <| aJ kq (zr <| zp (aI (u:=num kd) (w:=num 2) rfl kq kq<|C N) <| zf <| za a <| aJ kq (zr <| zp (aI (u:=num kd) (w:=num 3) rfl kq kq<|C oq) <| zf <| za a <| aJ kq (zr <| zp (aI (u:=num kd) (w:=num 10) rfl kq kq<|C oq) <| zf <| za a <| aJ kq (EW.skip<|ug Y d<|am <| zr <| zg 1 a <| zp (yl i 0 (num kd) f.2) <| zp (aI (u:=num kd) (w:=num 11) rfl kq kq<|C oq) <| zf <| za a <| zF (am <| zr <| zg 1 a <| zp (yl i 0 (num kd) f.2) <| zp (aI (u:=num kd) (w:=num 4) rfl kq kq<|C oq) <| zg 2 a <| zp (yl i 0 (num kd) f.2) <| zp (aI (u:=num kd) (w:=num 5) rfl kq kq<|C oq) <| zf <| za a <| zF (am <| zr <| zg 1 a <| zp (yl i 0 (num kd) f.2) <| zp (aI (u:=num kd) (w:=num 6) rfl kq kq<|O0 oq) <| zf <| za a <| zF (zs <| za a (aE ⟨.inr rfl,kq,n,v,N1,N2,G1,G2,p,oq,q,r,l,oq⟩)))))))))
end
def Zd:Bq:=[60,116,105,116,108,101,62,116,60,47,116,105,116,108,101,62,60,97,32,104,114,101,102,61,120,62,121,60,112,62,38,97,109,112,59,195,169]
def exB:Bq:=[104,116,116,112,58,47,47,104,47,97]
def MI(wb:Nat)(sv:Value)(k:Nat)(x:Nq):TL:=[sv,num 2,x 2,x 3,.bool false,aF wb 0,.bool true,num k]++fW x 8 46
def MJ(wb:Nat)(sv:Value)(i:Nat)(x:Nq):TL:=[sv,num 2,x 2,x 3,.bool false,aF wb 0,.bool true,x 7,num i]++fW x 9 45
def JF (s:AS)(wb d:Nat):Prop:=∃n v N1 N2 G1 G2,Bz s wb n v N1 N2 G1 G2/\n<=d/\N1<=4*n/\N2<=4*n/\Has s 1 lQ/\31<s.nx
structure Scr(Hd:Zx->Hq->World->Prop)(An:dQ)(sv:Value)(len:Nat)(kd:Nat->Int)(A:Nat->Bq):Prop where
 ex:∃sa cap,sv=.slice sa len cap/\(0<len->∃so Sb z e,sa=some ⟨31,so,none⟩/\An 31=some (Sb,z,e)/\∀i,i<len->∃(on:Int) (B:Bq) (p:Option Addr) (a b:Nat),∀j l w,Hd j l w->oc j.1 w Sb/\w.rangeAt Sb (so+i*5) [num (kd i),num on,str<|A i,str B,.slice p a b])
section
variable {Post:Value->World->Prop}{Ex:Nat->Prop}{w₀:World}{An:dQ}
def JF.step{s s':AS}{a n d d':Nat}(h:xI s a n d s')(o:n+d<=d')(p:31<s.nx):JF s' a d':=by have⟨g,m,e,f,b,c,i,q,j,k,l,r⟩:=h;exact⟨g,m,e,f,b,c,i,oq,j,k,l,oq⟩
def Mk(hA:QB An)(V:∀b,32<=b->An b=none)(X:JE Ex w₀){s:AS}(h1:Has s 1 lQ)(h31:31<s.nx){sv:Value}{len:Nat}{kd:Nat->Int}{A:Nat->Bq}(hS:Scr (uI Ex w₀) An sv len kd A)(Et:len<=100000000){Bd:Nat->Nat}(hB0:300<=Bd 0)(hB:∀i,i<len->Bd i+(2*(A i).length+42)<=Bd (i+1))(Gl:∀i,i<=len->Bd i<=100000000) :
  WI prog dt An (λj:Zx=>ZI prog Post 0 j.1) (uI Ex w₀) (match f14.body with|some c=>c|none=>.skip) ([sv,num 2]++List.replicate 52 undef) s (λe o s'=>(e=.normal\/e=.ret)/\cN prog f14 o s'=some (.bool true)/\Has s' 1 lQ):=by
 have Y:=Sl (Post:=Post) (Ex:=Ex) (w₀:=w₀);have a:cb prog dt An (λ_:Zx=>AtRel) (λj=>DZ j.1) (λj=>ZI prog Post 0 j.1) (uI Ex w₀) uP:=pW;obtain⟨U,d,rfl,W⟩:=hS.ex;refine ng Y a <| cu 9 kq (cJ s<|ng Y a <| cu 9 kq (cJ (s.add<|lS (λ_=>aX) 0) ?_));have WU:JF (s.add<|lS (λ_=>aX) 0) s.nx 0:=by refine⟨0,λ_=>aX,0,0,λ_=>none,λ_=>none,⟨bw s _,λ_ _ _ _ _=>rfl,⟨#[],#[],.inl ⟨rfl,rfl⟩,.inl ⟨rfl,rfl⟩,λi h=>absurd h oq⟩,λb m c h=>(by cases h),⟨#[],#[],.inl ⟨rfl,rfl⟩,.inl ⟨rfl,rfl⟩,λi h=>absurd h oq⟩,λb m c h=>(by cases h),λb h=>(dT h).elim⟩,oq,oq,oq,h1.add _,?_⟩;show 31<s.nx+1;omega
 generalize s.add (lS (λ_=>aX) 0)=s1 at *;refine ng Y a <| cu 9 kq (cJ s1<|bR Y <| ng Y a <| cu 9 kq (cJ s1<|jj (MI s.nx (.slice U len d) 1) kq λx0=>?_));generalize s.nx=g at *;refine ek Y <| eo (lP Y (Q:=λe o S=>e=.exit 0/\JF S g 300/\∃k x,o=MI g (.slice U len d) k x) (λu o S=>∃k,u+k=3/\1<=k/\JF S g (120*(k-1))/\∃x,o=MI g (.slice U len d) k x) ?_ 2 _ _ ⟨1,rfl,oq,WU,x0,rfl⟩) ?_
 .rintro u o S ⟨k,hk,Yq,hW,x,rfl⟩;by_cases r:k<=2
  .refine ng Y a <| zr <| zk 4 <| zp (aI (u:=num k) (w:=num 2) rfl kq kq<|j7 (b:=true)<|tD oq) <| zf <| za S <| zT ?_;have⟨n,v,O,P,M,N,E,q2,F,T,K,G⟩:=hW;refine bR Y <| ek Y <| fK Y (qe Y (aF g 0) S rfl<|qe Y (num k) S rfl<|qe Y (YD (k:Nat) 0 Zd exB aX) S rfl<|j1 Y cL (aY:=f33) rfl rfl #[aF g 0,YD (k:Nat) 0 Zd exB aX] rfl kq func33 (show f33.body=some (match f33.body with|some c=>c|none=>.skip) from rfl)<|eo (Nf hA V X E K G (λ_=>rfl) oq dq oq F T) ?_);rintro e o L ⟨r1,r2,r3⟩;have J:Zd.length=37:=rfl;have H:JF L g (120*(k+1-1)):=JF.step r3 (by rw[J];omega) G;exact⟨r1,.bool true,r2,qe Y (.bool true) L rfl <| gB Y rfl (ug Y a <| zx <| zg 1 L <| zp (na k 1 oq) <| zg 1 L <| aB ⟨u-1,oq,k+1,oq,oq,H,aP kq⟩)⟩
  .refine ng Y a <| zr <| zk 4 <| zp (aI (u:=num k) (w:=num 2) rfl kq kq<|j7 (b:=false)<|fD oq) <| zf <| za S <| aJ kq (EW.exit ?_);have⟨n,v,O,P,M,N,E,q2,F,T,K,G⟩:=hW;exact⟨rfl,⟨n,v,O,P,M,N,E,oq,F,T,K,G⟩,k,aP kq⟩
 rintro e o L ⟨rfl,Wh,k,x1,rfl⟩;refine bR Y <| ng Y a <| cu 9 kq (cJ L<|jj (MJ g (.slice U len d) 0) kq λx2=>?_);have hW0:JF L g (Bd 0):=by have⟨n,v,O,P,M,N,E,q2,F⟩:=Wh;exact⟨n,v,O,P,M,N,E,oq,F⟩
 refine ek Y <| eo (lP Y (Q:=λe o S=>e=.exit 2/\Has S 1 lQ/\∃i x,o=MJ g (.slice U len d) i x) (λu o S=>∃i,u+i=len/\JF S g (Bd i)/\∃x,o=MJ g (.slice U len d) i x) ?_ len _ _ ⟨0,oq,hW0,x2,rfl⟩) ?_
 .rintro u o S ⟨i,hi,hW,x,rfl⟩;have⟨n,v,O,P,M,N,E,q2,F,T,K,G⟩:=hW;by_cases r:i<len
  .obtain⟨t,Sb,z,ez,rfl,C,f⟩:=W oq;have⟨on,B,p,pa,pb,f⟩:=f i r;have hBi:=hB i r;have hBi2:=Gl (i+1) oq;refine ng Y a <| zr <| zk 5 <| zp (nT i len r) <| zf <| za S <| zT (bR Y <| ek Y <| bR Y <| bR Y <| fK Y (qe Y (.slice (some ⟨31,t,none⟩) len d) S rfl<|qe Y (num i) S rfl<|kZ Y cx (v:=aF 31<|t+i*5) (s1:=S) rfl (yi 31 t len d (t+i*5) none .i64 (i:Nat) 5 oq oq iq)<|qe Y (aF 31<|t+i*5) S rfl<|WO.load Y (v:=num<|kd i) rfl kq (q:=37) (nm:=31) (off:=t+i*5) rfl kq C underlying3 rfl rfl (λj l w h=>⟨(f j l w h).1,(f j l w h).2 0 _ rfl⟩)<|qe Y (num 2) S rfl ?_));by_cases hk:2<kd i
   .exact kZ Y cx (v:=.bool true) (s1:=S) rfl (aI (u:=num<|kd i) (w:=num 2) rfl kq kq<|db (b:=true)<|tD oq) <| gB Y rfl (n5 Y rfl kq<|ug Y a <| EW.exit (ug Y a <| zx <| zg 1 S <| zp (na i 1 oq) <| zg 1 S <| aB ⟨u-1,oq,i+1,oq,⟨n,v,O,P,M,N,E,oq,F,T,K,G⟩,aP kq⟩))
   .refine kZ Y cx (v:=.bool false) (s1:=S) rfl (aI (u:=num<|kd i) (w:=num 2) rfl kq kq<|db (b:=false)<|fD oq) <| gB Y rfl (xh Y rfl kq<|ug Y a <| EW.skip (bR Y <| fK Y (qe Y (aF g 0) S rfl<|qe Y (.slice (some ⟨31,t,none⟩) len d) S rfl<|qe Y (num i) S rfl<|kZ Y cx (v:=aF 31<|t+i*5) (s1:=S) rfl (yi 31 t len d (t+i*5) none .i64 (i:Nat) 5 oq oq iq) (FD Y (vs:=[num (kd i),num on,str<|A i,str B,.slice p pa pb]) (xs:=#[num (kd i),num on,str<|A i,str B,.map none]) rfl (q:=44) (nm:=31) (off:=t+i*5) rfl kq C underlying77 rfl kq (λS=>⟨rfl,λj x y R Z=>?_⟩) (λj l w h=>f j l w h) ?_))))
    .match j with
     | 0=>cases R;cases Z;exact bn rfl
     | 1=>cases R;cases Z;exact bn rfl
     | 2=>cases R;cases Z;exact bn rfl
     | 3=>cases R;cases Z;exact bn rfl
     | 4=>cases R;cases Z;exact xg
     | j+5=>simp at R
    refine j1 Y cL (aY:=f33) rfl rfl #[aF g 0,YD (kd i) on (A i) B<|.map none] rfl kq func33 (show f33.body=some (match f33.body with|some c=>c|none=>.skip) from rfl)<|eo (Nf hA V X E K G (λ_=>rfl) oq oq oq F T) ?_;rintro e o s3 ⟨r1,r2,r3⟩;have H:JF s3 g (Bd<|i+1):=JF.step r3 oq G;refine⟨r1,.bool true,r2,qe Y (.bool true) s3 rfl <| gB Y rfl ?_⟩;have⟨n',v',M1,M2,F1,F2,D,p2,p3,p4,p5,p6⟩:=H;have⟨s4,e34,I⟩:=Qd (pr:=uP) rfl D.w (D.ra.Rt oq λx m h=>h.stA D.ga) (D.rt.Rt oq λx m h=>h.stT D.gt) (D.z 4 dq dq dq dq)<|D.z 8 dq dq dq dq;have hW4:JF s4 g (Bd<|i+1):=⟨n',v',M1,M2,F1,F2,D.kp λk cs ty fz _ hh=>hh.oj I,p2,p3,p4,p5.oj I,by have:=I.1;omega⟩;exact ng Y a <| zx <| zc 1 e34 <| zf (cJ s4<|ug Y a <| zx <| zg 5 s4 <| aB (ug Y a <| zx <| zg 1 s4 <| zp (na i 1 oq) <| zg 1 s4 <| aB ⟨u-1,oq,i+1,oq,hW4,aP kq⟩))
  .obtain rfl:i=len:=oq
   exact ng Y a <| zr <| zk 5 <| zp (nF i i r) <| zf <| za S <| aJ kq (EW.exit ⟨rfl,K,i,aP kq⟩)
 .rintro e o S ⟨rfl,h2,i,x,rfl⟩;exact ug Y a <| zs <| za S (aE ⟨.inr rfl,kq,h2⟩)
end
def aan:Value->Bool
 | .int .i64 _=>false
 | _=>true
def Ia:eZ.all aan=true:=kq
def mK:eZ.toArray.size=54:=by decide +kernel
def Rv:AS:=(⟨[],32⟩:AS).set 1<|some lQ
def vm(b:Nat):Rv.get b=if b=1 then some lQ else none:=by
 unfold Rv;rw[AS.aU];split
 .rfl
 .simp[AS.get]
section
variable {Post:Value->World->Prop}
def px{W:World}(hG:W.heap[1]?=some lQ)(ZA:Oh W){An:dQ}(r:An 1=some (1,54,54))(V:An 2=some (2,0,0))(X:An 3=some (3,0,0))(G:∀b,32<=b->An b=none){sv E:Value}(hVR:VR An sv E){len:Nat}{kd:Nat->Int}{A:Nat->Bq}(hS:Scr (uI (λb=>b=1) W) An sv len kd A)(L:len<=100000000){Bd:Nat->Nat}(Z:300<=Bd 0)(hB:∀i,i<len->Bd i+(2*(A i).length+42)<=Bd (i+1))(Gl:∀i,i<=len->Bd i<=100000000) :
  fx prog (ZI prog Post 0) 4 #[E] (λ_=>False) W (λ_ x D=>x=.bool true/\Ext W D):=by
 have Y:=Sl (Post:=Post) (Ex:=λb=>b=1) (w₀:=W);have O:cb prog dt An (λ_:Zx=>AtRel) (λj=>DZ j.1) (λj=>ZI prog Post 0 j.1) (uI (λb=>b=1) W) uP:=pW;have T:1<W.heap.size:=(oa.1 hG).1;have H:QB An:=⟨⟨_,_,r⟩,⟨_,_,V⟩,_,_,X⟩;have h1:Has Rv 1 lQ:=⟨by show 1<32;decide,by rw[vm];rfl⟩;have d:WI prog dt An (λj:Zx=>ZI prog Post 0 j.1) (uI (λb=>b=1) W) (match f4.body with|some c=>c|none=>.skip) ([sv]++List.replicate 4 undef) Rv (λe f R=>e=.ret/\f.getD 2 undef=.bool true/\Has R 1 lQ):=by
  have⟨sa,cap,hsv,_⟩:=hS.ex;refine ng Y O <| cu 9 kq (cJ Rv ?_);generalize hs:Rv=s at h1;have U:31<s.nx:=by rw[<-hs];show 31<32;decide
  refine bR Y <| fK Y<|kZ Y cx (v:=sv) (s1:=s) rfl (by rw[hsv];kernel_rfl)<|j1 Y cL (aY:=f14) rfl rfl #[sv,num 2] rfl kq func14 (show f14.body=some _ from rfl)<|eo (Mk H G ⟨dq,dq,ZA⟩ h1 U hS L Z hB Gl) ?_;rintro e f s2 ⟨Q,r2,r3⟩;exact⟨Q,.bool true,r2,qe Y (.bool true) s2 rfl <| gB Y rfl (ug Y O <| aE ⟨rfl,kq,r3⟩)⟩
 have I:gh prog dt An An Rv [(1,lQ)]:=by
  refine⟨λb ob a=>?_,λb b' ob L0 x x' a B hx Bl he=>?_,λb ob a=>?_,λ_ _ h=>h⟩
  .rw[vm] at a;split at a
   .next e =>
    subst e;cases a;refine⟨1,54,54,_,r,iq,⟨eZ.toArray,rfl,mK,⟨by rw[mK];exact lr,λ_=>mK⟩,λi x y hx hy=>?_⟩,λcs t fz h=>?_⟩
    .rw[hx] at hy;cases hy
     have:=zZ;rw[aT] at this;exact bn<|this x<|by simpa using Array.mem_of_getElem? hx
    .cases h;exact⟨kq,cx 335 rfl⟩
   .cases a
  .rw[vm] at a B;split at a
   .next F =>
    split at B
    .next P=>rw[F,P]
    .cases B
   .cases a
  .rw[vm] at a;split at a
   .next e=>subst e;show 1<32;decide
   .cases a
 have hHd:uI (λb=>b=1) W ((λ_=>False),W.heap.size) ([(1,lQ)]++[]) W:=by refine⟨⟨λb h=>h.elim,λb h=>h.elim⟩,Kept.refl W,lr,λb ob M=>?_,iq⟩;rw[List.append_nil,List.mem_singleton] at M;cases M;exact⟨⟨T,λh=>h⟩,hG,.inl rfl⟩
 have N:∀b,b<W.heap.size->b≠1->∀j l w,uI (λb=>b=1) W j l w->oc j.1 w b/\w.heap[b]?=W.heap[b]?:=by intro b a n j l w hF;have M:oc j.1 W b:=⟨a,λhj=>by have:=hF.1.2 b hj;omega⟩;exact⟨hF.2.kept.mine b M,hF.2.kept.block b M n⟩
 obtain⟨cd,J⟩:∃c,f4.body=some c:=⟨_,rfl⟩;have d:WI prog dt An (λj:Zx=>ZI prog Post 0 j.1) (uI (λb=>b=1) W) cd ([sv]++List.replicate 4 undef) Rv (λe f R=>e=.ret/\f.getD 2 undef=.bool true/\Has R 1 lQ):=by rw[J] at d;exact d
 refine⟨f4,cd,func4,rq,J,?_⟩;intro b k cs a hk hc;have u:AR (VR An) (([sv]++List.replicate 4 undef:Vq)).toArray (#[E]++Array.replicate (f4.ntmps-(#[E]:Aq).size) undef):=by
  have e:(([sv]++List.replicate 4 undef:Vq)).toArray=#[sv]++Array.replicate 4 undef:=by apply vp.1;kernel_rfl
  rw[e];exact AR.append (fg hVR)<|AR.replicate 4 eO
 generalize o:(⟨#[E]++Array.replicate (f4.ntmps-(#[E]:Aq).size) undef,[]⟩:Act)=p;have m:AR (VR An) (([sv]++List.replicate 4 undef:Vq)).toArray p.tmps:=by rw[<-o];exact u
 have K:p.defers=[]:=by rw[<-o]
 have hwp:=d 4 An [(1,lQ)] [] ((λ_=>False),W.heap.size) W p (λj e f D=>(e=.normal\/e=.ret)/\f.defers=[]/\∃v,ResultsC prog f4 f.tmps v/\v=.bool true/\Ext W D) I hHd m K G ?_
 .refine hwp b k cs a hk ?_;intro j e f D hQ
  have:=hc j.1 e f D hQ;cases e<;>exact this
 .rintro e S R j S' l' D f ⟨rfl,h6,hg1⟩ q2 q3 C q5 q6 q7;refine⟨.inr rfl,q6,_,resultsC_tmp rq _,?_,?_⟩
  .have:=oR q5 2;rw[show S.toArray.toList.getD 2 undef=.bool true from h6] at this;exact this.sc rfl
  .rw[List.append_nil] at C;refine⟨C.2.kept.tape,C.2.kept.os,C.2.kept.output,C.2.kept.grow,λb a=>?_⟩;by_cases n:b=1
   .subst n;have⟨g,z,e,o',Q,r2,r3,_⟩:=q3.live 1 _ hg1.2;rw[q3.an _ _ r] at Q;cases Q;obtain⟨q,rfl,t1,_,t3⟩:=r3;have Es:q=eZ.toArray:=by
     apply Array.ext_getElem?;intro i;by_cases hi:i<54
     .have F:eZ.toArray[i]?=some (eZ.toArray[i]'(by rw[mK];exact hi)):=gF _;have P:q[i]?=some (q[i]'(by rw[t1];exact hi)):=gF _
      have:=t3 i _ _ F P;rw[F,P,this.sc<|aT.1 zZ _<|by simpa using Array.mem_of_getElem? F]
     .rw[Array.getElem?_eq_none (by rw[t1];omega),Array.getElem?_eq_none<|by rw[mK];omega]
    subst Es;rw[(C.2.own 1 _ r2).2.1,hG]
   .exact(N b a n j _ D C).2
def Dd{W:World}(E:W.heap[1]?=some lQ)(y:Oh W){C:Option Addr}{len cap:Nat}{kd K:Nat->Int}{A B:Nat->ByteArray}{L:Nq}(P:(C=none/\len=0/\cap=0)\/∃d n,C=some ⟨d,n,none⟩/\len<=cap/\cap<=maxLen/\(0<len->d<W.heap.size)/\∀i,i<len->(∃p a b,L i=.slice p a b)/\W.rangeAt d (n+i*5) [num (kd i),num<|K i,.string<|A i,.string<|B i,L i])
 (g:len<=100000000){Bd:Nat->Nat}(t:300<=Bd 0)(M:∀i,i<len->Bd i+(2*(A i).size+42)<=Bd (i+1))(u:∀i,i<=len->Bd i<=100000000) :
  fx prog (ZI prog Post 0) 4 #[.slice C len cap] (λ_=>False) W (λ_ x V=>x=.bool true/\Ext W V):=by
 have m:∀x:ByteArray,str x.data.toList=.string x:=λx=>by cases x;simp[str]
 rcases P with ⟨rfl,rfl,rfl⟩|⟨d,n,rfl,hlc,O4,hSb,Ts⟩
 .obtain⟨c,o,q,r,s⟩:∃c:dQ,c 1=some (1,54,54)/\c 2=some (2,0,0)/\c 3=some (3,0,0)/\(∀b,32<=b->c b=none):=by refine⟨λb=>if b=1 then some (1,54,54) else if b=2 then some (2,0,0) else if b=3 then some (3,0,0) else none,Y,Y,Y,λb Q=>?_⟩;show(if b=1 then _ else if b=2 then _ else if b=3 then _ else _)=_;rw[iw oq,iw oq,iw oq]
  exact px (len:=0) (kd:=kd) (A:=λi=>(A i).data.toList) E y o q r s (bn Y) ⟨none,0,Y,λh=>absurd h oq⟩ g t (λi h=>absurd h oq) u
 .obtain⟨c,o,q,r,f,s⟩:∃c:dQ,c 1=some (1,54,54)/\c 2=some (2,0,0)/\c 3=some (3,0,0)/\c 31=some (d,n+cap*1,1)/\(∀b,32<=b->c b=none):=by refine⟨λb=>if b=1 then some (1,54,54) else if b=2 then some (2,0,0) else if b=3 then some (3,0,0) else if b=31 then some (d,n+cap*1,1) else none,Y,Y,Y,Y,λb Q=>?_⟩;show(if b=1 then _ else if b=2 then _ else if b=3 then _ else if b=31 then _ else _)=_;rw[iw oq,iw oq,iw oq,iw oq]
  refine px (len:=len) (kd:=kd) (Bd:=Bd) E y o q r s (j0 f hlc lr O4 Y) ⟨_,_,Y,λS=>⟨n,d,_,_,Y,f,λi F=>?_⟩⟩ g t (λi F=>by
   have:=M i F;have e:(A i).data.toList.length=(A i).size:=by rw[Hh];rfl
   rw[e];exact this) u;obtain⟨⟨p,T,U,N⟩,I⟩:=Ts i F;refine⟨K i,(B i).data.toList,p,T,U,λj l w D=>?_⟩;have O:=hSb S;have H:=I 0 _ Y;have G:d≠1:=by
   rintro rfl;simp only[World.cell?,E] at H;have z:=Array.mem_of_getElem?<|show eZ.toArray[n+i*5+0]?=some (num<|kd i) by simpa using H
   have:=aT.1 Ia _ (by simpa using z);cases this
  have z:oc j.1 W d:=⟨O,λR=>by have:=D.1.2 d R;omega⟩;refine⟨D.2.kept.mine d z,λk v J=>?_⟩;rw[m,m,<-N] at J
  have:=I k v J;unfold World.cell? at this |-;rw[D.2.kept.block d z G];exact this
end
