
import Derived.Test.YtgcaionclkbehaaGreatDoorE17
set_option linter.all false
set_option maxHeartbeats 2000000
set_option maxRecDepth 100000
namespace Go.Proofs.YtgcaionclkbehaaGreatDoor
open Go.Conc Go.RowKit Go.Lib Tryz
variable {b k n r0 rn z1:Nat}{pv v x:Value}{cs:Aq}{t:TypeId}{fz:Nat × Nat}{c:Code}{pr nC:Prim}{a0 aA:TL}{ps:List ByteArray}
def ry (n:Nat):Value->Bool
 | .pointer (some ⟨b,_,none⟩)=>Nat.blt b n
 | .slice (some ⟨b,_,none⟩) _ _=>Nat.blt b n
 | v=>dX v
def QP (n:Nat):Value->Bool
 | .func _ x y=>x.toList.all (ry n)&&y.toList.all (ry n)
 | v=>ry n v
theorem oF{a:Nat}(h:Nat.blt a b=true):a<b:=by simp_all
def VR.oj{S S':cb}(a:ry n x=true)(h:∀b,b<n->S b=S' b)(c:VR S x v):VR S' x v:=by
 unfold ry at a;split at a
 .obtain⟨g,z,e,h1,rfl⟩:=c.ptr;exact VR.gk ((h _ (oF a)).symm.trans h1)
 .have⟨d,c⟩:=c;cases d with
  | zero=>exact c.elim
  | succ d =>obtain⟨g,z,e,f,h1,h2⟩:=c;exact⟨1,g,z,e,f,(h _ (oF a)).symm.trans h1,h2⟩
 .rw[c.sc a];exact VR.dx a
theorem OR.oj{S S':cb}{z:Nat}{o':Obj}(a:cs.toList.all (ry n)=true)(h:∀b,b<n->S b=S' b)(c:OR S z (.cells cs t fz) o'):OR S' z (.cells cs t fz) o':=by rw[aT] at a;have⟨U,f,g,j,k⟩:=c;exact⟨U,f,g,j,λi x y d e=>(k i x y d e).oj (a x gq) h⟩
def VD.oj{S S':cb}{d:Nat}(a:ry n x=true)(h:∀b,b<n->S b=S' b)(c:VD S d x v):VD S' d x v:=by
 cases d with
 | zero=>exact c.elim
 | succ d =>
  unfold ry at a;split at a
  .have⟨g,z,e,h1,h2⟩:=c;exact⟨g,z,e,(h _ (oF a)).symm.trans h1,h2⟩
  .have⟨g,z,e,f,h1,h2⟩:=c;exact⟨g,z,e,f,(h _ (oF a)).symm.trans h1,h2⟩
  .have:=VR.dx (S:=S') a;have e:=VR.sc a ⟨d+1,c⟩;subst e;have⟨j,i⟩:=this;unfold VD;split<;>first|exact⟨a,rfl⟩|(simp[dX] at a)
theorem VR.O8{S S':cb}(U:QP n x=true)(h:∀b,b<n->S b=S' b)(c:VR S x v):VR S' x v:=by
 unfold QP at U;split at U
 .have⟨d,c⟩:=c;cases d with
  | zero=>exact c.elim
  | succ d =>
   have⟨g,j,h1,h2,h3⟩:=c;rw[lV,aT,aT] at U;refine⟨d+1,g,j,h1,⟨h2.1,λi a b e f=>(h2.2 i a b e f).oj (U.1 a ?_) h⟩,⟨h3.1,λi a b e f=>(h3.2 i a b e f).oj (U.2 a ?_) h⟩⟩
   .grind
   .grind
 .exact c.oj U h
def AS.A8(s:AS):Bool:=(List.range s.nx).all λb=>match s.get b with
 | some (.cells cs _ _)=>cs.toList.all (ry s.nx)
 | _=>true
variable {ι:Type}{P:Program}{KT:TypeId->Prop}{An:cb}{kt:TypeId->Bool}{s:AS}
section
variable {N0:ι->Nat}{M:ι->World->Nat->Prop}{O:ι->Nat->Prop}{R:ι->Wq}{D:ι->World->World->Array Event->Prop}{X:ι->Gq}{Hd:ι->Hq->World->Prop}{pr:Prim}{f:FuncId}{args:Aq}{v:Value}
theorem Sound.Pg(Y:Cy P KT N0 M O R D X Hd){c:Nat}{s0 s1:AS}(a5:∀b,k<=b->An b=none)(hk:k<=s.nx)(a3:cs.toList.all (ry s.nx)=true)(a9:∀b,s0.get b=if b=c then some (.cells cs t fz) else none)(a7:s0.nx=s.nx)(aa:s1.get c=some (.cells cs t fz))(I:s.get c=some (.cells cs t fz))(ha:args.toList.all (ry s.nx)=true)(hv:dX v=true)(h:Sound P KT An R D X Hd f args s0 v s1):Sound P KT An R D X Hd f args s v s:=by
 intro S l u i w n d hF hA ab;rw[aT] at ha;have⟨g,z,e,m,J,q2,q3,q4⟩:=d.live c _ I;have C:=d.lt c _ I;let T:cb:=λb=>if b<s.nx then S b else none;have A:∀b,b<s.nx->S b=T b:=λb U=>by show S b=if b<s.nx then S b else none;rw[ip U]
 have⟨q,r,hl⟩:=List.append_of_mem q2;have E:(q++(g,m)::r).Perm ([(g,m)]++(q++r)):=List.perm_middle;have L:Hd i ([(g,m)]++((q++r)++u)) w:=(Y.Z hF).perm hF (by
  rw[hl,<-u6];exact(E.append_right u).symm);have H:∀b o,s0.get b=some o->b=c/\o=.cells cs t fz:=λb o U=>by
  rw[a9] at U;split at U
  .next e=>cases U;exact⟨e,rfl⟩
  .cases U
 have a4:eT P KT An T s0 [(g,m)]:=by
  refine⟨λb o U=>?_,λb b' o m x x' U Q _ _ _=>by rw[(H b o U).1,(H b' m Q).1],λb o U=>by rw[(H b o U).1,a7];exact C,λb x F=>?_⟩
  .obtain⟨rfl,rfl⟩:=H b o U;exact⟨g,z,e,m,(A _ C).symm.trans J,by simp,q3.oj a3 A,q4⟩
  .by_cases U:b<s.nx
   .rw[<-A b U];exact d.an b x F
   .rw[a5 b oq] at F;cases F
 refine(h T [(g,m)] ((q++r)++u) i w n a4 L ⟨hA.1,λj x y F hy=>(hA.2 j x y F hy).oj (ha x gq) A⟩ λb U _=>?_).mono ?_
 .show(if b<s.nx then S b else none)=none;rw[iw oq]
 .rintro i' v' w' ⟨S',l',r1,r2,r3,r4,r5⟩;have⟨g2,z2,e2,G,p1,p2,p3,p4⟩:=r3.live c _ aa;have he:(g2,z2,e2)=(g,z,e):=gq
  cases he;have⟨V,W,a6⟩:=List.append_of_mem p2;have p:(V++(g,G)::W).Perm ((V++W)++[(g,G)]):=List.perm_middle.trans (List.perm_append_singleton _ _).symm;have N:Hd i' ((V++W)++(([(g,G)]++(q++r))++u)) w':=(Y.Z r4).perm r4 (by
   rw[a6]
   have:=(p.append_right ((q++r)++u)).symm;simpa[u6] using this);refine⟨S,[(g,G)]++(q++r),cb.le_refl S,λ_ _=>rfl,⟨λb o U=>?_,d.inj,d.lt,d.an⟩,ll Y N,?_⟩
  .have⟨gb,zb,eb,ob,K,a,u3,u4⟩:=d.live b o U;by_cases B:b=c
   .subst B;rw[I] at U;cases U;rw[J] at K;cases K;exact⟨g,z,e,G,J,by simp,p3.oj a3 λb U=>by rw[A b U];exact r2 b (.inl oq),u4⟩
   .rw[hl] at a;have a8:gb≠g:=λe'=>B (d.inj b c o _ _ _ U I K J e');refine⟨gb,zb,eb,ob,K,?_,u3,u4⟩;rcases List.mem_append.1 a with a|a
    .simp[a]
    .rcases nk.1 a with a|a
     .cases a;exact absurd rfl a8
     .simp[a]
  .rw[r5.sc hv];exact VR.dx hv
theorem Sound.cut{s':AS}(a6:∀b,s.nx<=b->An b=none)(N:s.A8=true)(M:args.toList.all (QP s.nx)=true)(a9:s.nx<=s'.nx)
 (h:∀S l E i w c,(∀b,s.nx<=b->S b=none)->eT P KT An S s l->Hd i (l++E) w->AR (VR S) args c ->
   jH P R D X f c i w λO Q V=>∃d F,S.le d/\(∀b,b<s.nx\/s'.nx<=b->d b=S b)/\eT P KT An d s' F/\Hd O (F++E) V/\VR d v Q):Sound P KT An R D X Hd f args s v s':=by
 intro S l E i w c p hF L a8;rw[aT] at M;let T:cb:=λb=>if b<s.nx then S b else none;have r:∀b,b<s.nx->S b=T b:=λb a=>by show S b=if b<s.nx then S b else none;rw[ip a]
 have Z:∀b,s.nx<=b->T b=none:=λb a=>by show(if b<s.nx then S b else none)=none;rw[iw oq]
 unfold AS.A8 at N;have W:eT P KT An T s l:=by
  refine⟨λb o a=>?_,λb A o n x K a k m q=>?_,p.lt,λb x m=>?_⟩
  .have⟨g,z,e,n,H,I,G,J⟩:=p.live b o a;refine⟨g,z,e,n,(r _ (p.lt b o a)).symm.trans H,I,?_,J⟩
   have:=eD N (p.lt b o a);rw[a] at this;cases o with
   | cells cs t fz=>exact G.oj this r
   | _=>exact G
  .exact p.inj b A o n x K a k ((r _ (p.lt b o a)).trans m) ((r _ (p.lt A n k)).trans q)
  .by_cases a:b<s.nx
   .rw[<-r b a];exact p.an b x m
   .grind
 refine(h T l E i w c Z W hF ⟨L.1,λj x y m hy=>(L.2 j x y m hy).O8 (M x gq) r⟩).mono ?_;rintro O Q V ⟨d,F,r1,r2,u,r4,r5⟩;let U:cb:=λb=>if b<s'.nx then d b else S b;have B:∀b,b<s'.nx->U b=d b:=λb a=>by show(if b<s'.nx then d b else S b)=d b;rw[ip a]
 have a7:∀b,¬b<s'.nx->U b=S b:=λb a=>by show(if b<s'.nx then d b else S b)=S b;rw[iw a]
 have C:d.le U:=λb x m=>by grind
 have Y:∀b,b<s.nx\/s'.nx<=b->U b=S b:=λb a=>by grind
 refine⟨U,F,λb x m=>?_,Y,⟨λb o a=>?_,λb A o n x K a k m q=>?_,u.lt,cb.le_trans u.an C⟩,r4,r5.mono C⟩
 .grind
 .have⟨g,z,e,n,H,I,G,J⟩:=u.live b o a;exact⟨g,z,e,n,C _ _ H,I,G.mono C,J⟩
 .exact u.inj b A o n x K a k ((B _ (u.lt b o a)).symm.trans m) ((B _ (u.lt A n k)).symm.trans q)
def lE(f:FuncId)(c:Aq->AS->Option Value)(b:Aq->AS->Option (Value × AS))(pr:Prim):Prim:=λg=>if g.beq f then some λa s=>match c a s with
 | some v=>some (v,s)
 | none=>b a s
 else pr g
theorem ck.forget(Y : Cy P KT N0 M O R D X Hd)(hm : P.follows .mixedOrders = true)(Ck : ∀ t, kt t = false -> ¬ KT t)(F9 : ∀ (f : FuncId) (aS : Func), P.funcs[f]? = some aS -> (aS.name == "runtime.NumGoroutine") = false){m : Nat}(L3 : ∀ b, k <= b -> An b = none)(hp : ck P KT An R D X Hd pr){ok : Array Value -> AS -> Option Value}
 (Cm:∀args s v,ok args s=some v->dX v=true/\k<=s.nx/\args.toList.all (ry s.nx)=true/\∃c cs t fz,s.get c=some (.cells cs t fz)/\cs.toList.all (ry s.nx)=true/\∀s0:AS,s0.nx=s.nx->s0.get c=some (.cells cs t fz)->∃s1,EF P kt pr f args s0 v s1/\s1.get c=some (.cells cs t fz)):ck P KT An R D X Hd (lE f ok (bH P kt pr m f) pr):=by
 constructor
 .intro g h args s v s' hf hh;unfold lE at hf;split at hf
  .cases hf;simp only at hh;split at hh
   .cases hh; exact jl _
   .exact(zA hp.nx m).2 _ _ _ _ _ hh
  .exact hp.nx g h args s v s' hf hh
 .intro g h args s v s' hf hh;unfold lE at hf;split at hf
  .next he =>
   have he:=gh he;subst he;cases hf;simp only at hh;split at hh
   .next v' hv =>
    cases hh;have⟨h1,h2,h3,c,cs,t,fz,h4,h5,h6⟩:=Cm _ _ _ hv;have hg:∀b,((⟨[],s.nx⟩:AS).set c (some (.cells cs t fz))).get b=if b=c then some (.cells cs t fz) else none:=λb=>by
     rw[AS.bn];split
     .rfl
     .unfold AS.get; simp
    obtain⟨s1,⟨n,h7⟩,h8⟩:=h6 ((⟨[],s.nx⟩:AS).set c (some (.cells cs t fz))) rfl gq;exact Sound.Pg Y L3 h2 h5 hg rfl h8 h4 h3 h1 ((ij Y hm Ck hp F9 n).2 _ _ _ _ _ h7)
   .exact(ij Y hm Ck hp F9 m).2 _ _ _ _ _ hh
  .exact hp.sound g h args s v s' hf hh
def EF.given{g:Aq->AS->Option (Value × AS)}{s1:AS}(h:pr f=some g)(a:g args s=some (v,s1)):EF P kt pr f args s v s1:=by refine⟨1,?_⟩;unfold bH;rw[h];exact a
end
def Wh (A:cb):Prop:=(∃z e,A 1=some (1,z,e))/\(∃z e,A 2=some (2,z,e))/\∃z e,A 3=some (3,z,e)
def Sq (An:cb)(p:Prop)(rn:Nat)(nC:Prim)(all:Iq):Prop:=(∀f g args s v s',nC f=some g->g args s=some (v,s')->s.nx<=s'.nx)/\∀{ι:Type} {N0:ι->Nat} {M:ι->World->Nat->Prop} {O:ι->Nat->Prop} {R:ι->Wq} {D:ι->World->World->Array Event->Prop} {X:ι->Gq} {Hd:ι->Hq->World->Prop} (_:Cy prog eg N0 M O R D X Hd) (A:cb),(∀b x,b<32->An b=some x->A b=some x)->(p->Tb M Hd)->(∀b,rn+1<=b->A b=none)->ck prog eg A R D X Hd (gC rn all)->ck prog eg A R D X Hd nC
def tp (rn:Nat)(nC:Prim)(all:Iq):Prop:=(∀f g args s v s',nC f=some g->g args s=some (v,s')->s.nx<=s'.nx)/\∀{ι:Type} {N0:ι->Nat} {M:ι->World->Nat->Prop} {O:ι->Nat->Prop} {R:ι->Wq} {D:ι->World->World->Array Event->Prop} {X:ι->Gq} {Hd:ι->Hq->World->Prop} (_:Cy prog eg N0 M O R D X Hd) (A:cb),Wh A->Tb M Hd->(∀b,rn+1<=b->A b=none)->ck prog eg A R D X Hd (gC rn all)->ck prog eg A R D X Hd nC
def tp.toA{An:cb}{p:Prop}{all:Iq}(h:tp rn nC all)(d:Wh An)(f:p):Sq An p rn nC all:=⟨h.1,λY A a i e g=>by obtain⟨⟨j,e1,h1⟩,⟨k,b,h2⟩,l,c,h3⟩:=d;exact h.2 Y A ⟨⟨j,e1,a _ _ oq h1⟩,⟨k,b,a _ _ oq h2⟩,l,c,a _ _ oq h3⟩ (i f) e g⟩
def RD (r:Nat->Nat)(n:Nat):Nat->Value->Value->Prop
 | 0,_,_=>False
 | d+1,x,y=>match x with
  | .pointer (some ⟨b,off,none⟩)=>b<n/\y=.pointer (some ⟨r b,off,none⟩)
  | .slice (some ⟨b,off,sp⟩) m c=>b<n/\y=.slice (some ⟨r b,off,sp⟩) m c
  | .func f p q=>∃p' q',y=.func f p' q'/\AR (RD r n d) p p'/\AR (RD r n d) q q'
  | .agg p=>∃p',y=.agg p'/\AR (RD r n d) p p'
  | .tuple p=>∃p',y=.tuple p'/\AR (RD r n d) p p'
  | .map k=>y=.map k
  | x=>dX x=true/\y=x
def cb.yx(S:cb)(r:Nat->Nat)(n:Nat):cb:=λb=>if b<n then S (r b) else none
variable {r:Nat->Nat}
section
variable {S:cb}{n:Nat}
def cb.oU(h:b<n):S.yx r n b=S (r b):=ip h
def AR.comp{d e f:Value->Value->Prop}{a b c:Aq}(h:AR d a b)(g:AR e b c)(l:∀x y z,d x y->e y z->f x z):AR f a c:=⟨h.1.trans g.1,λi x z k m=>by
 have j:i<b.size:=by rw[<-h.1];exact(oK.1 k).1
 exact l x _ z (h.2 i x _ k (gF j)) (g.2 i _ z (gF j) m)⟩
theorem VD.yx:∀{d:Nat} {x y v:Value} {k:Nat},RD r n d x y->VD S k y v->VD (S.yx r n) k x v
 | 0,x,y,v,k,h,_=>h.elim
 | d+1,x,y,v,0,_,h=>h.elim
 | d+1,x,y,v,k+1,h,U=>by
  unfold RD at h;split at h
  .next b o =>obtain⟨j,rfl⟩:=h;have⟨g,z,e,h1,h2⟩:=U;exact⟨g,z,e,by rw[cb.oU j];exact h1,h2⟩
  .next b o sp m c =>
   obtain⟨j,rfl⟩:=h;cases sp with
   | none =>obtain⟨g,z,e,l,h1,h2⟩:=U;exact⟨g,z,e,l,by rw[cb.oU j];exact h1,h2⟩
   | some q =>obtain⟨g,z,e,t,l,h1,h2⟩:=U;exact⟨g,z,e,t,l,by rw[cb.oU j];exact h1,h2⟩
  .obtain⟨p,w,rfl,h1,h2⟩:=h;have⟨i,u,h3,f,s⟩:=U;exact⟨i,u,h3,h1.comp f λ_ _ _ a b=>VD.yx a b,h2.comp s λ_ _ _ a b=>VD.yx a b⟩
  .obtain⟨p,rfl,h1⟩:=h;have⟨i,h3,f⟩:=U;exact⟨i,h3,h1.comp f λ_ _ _ a b=>VD.yx a b⟩
  .obtain⟨p,rfl,h1⟩:=h;have⟨i,h3,f⟩:=U;exact⟨i,h3,h1.comp f λ_ _ _ a b=>VD.yx a b⟩
  .next m =>
   subst h;cases m with
   | none=>exact U
   | some m=>exact U
  .obtain⟨h1,rfl⟩:=h;have e:=VR.sc h1 ⟨k+1,U⟩;subst e;unfold VD;grind
def RV (r:Nat->Nat)(n:Nat)(x y:Value):Prop:=∃d,RD r n d x y
def VR.yx{y:Value}(h:RV r n x y)(a:VR S y v):VR (S.yx r n) x v:=by have⟨d,h⟩:=h;have⟨k,a⟩:=a;exact⟨k,VD.yx h a⟩
def Ld (n:Nat):Nat->Value->Bool
 | 0,_=>false
 | d+1,x=>match x with
  | .pointer (some ⟨b,_,none⟩)=>Nat.blt b n
  | .slice (some ⟨b,_,_⟩) _ _=>Nat.blt b n
  | .func _ p q=>p.toList.all (Ld n d)&&q.toList.all (Ld n d)
  | .agg p=>p.toList.all (Ld n d)
  | .tuple p=>p.toList.all (Ld n d)
  | .map _=>true
  | x=>dX x
theorem AR.same{R:Value->Value->Prop}{p:Aq}(h:∀x∈p.toList,R x x):AR R p p:=⟨rfl,λi x y a U=>by rw[a] at U;cases U;exact h x gq⟩
def RD.id(hr:∀b,b<n->r b=b):∀{d:Nat} {x:Value},Ld n d x=true->RD r n d x x
 | 0,x,h=>by simp[Ld] at h
 | d+1,x,h=>by
  unfold Ld at h;split at h;iterate 2
   .exact⟨oF h,by rw[hr _ (oF h)]⟩
  .rw[lV,aT,aT] at h;exact⟨_,_,rfl,AR.same λx hx=>RD.id hr (h.1 x hx),AR.same λx hx=>RD.id hr (h.2 x hx)⟩
  iterate 2
   .rw[aT] at h;exact⟨_,rfl,AR.same λx hx=>RD.id hr (h x hx)⟩
  .rfl
  .exact(by unfold RD;split<;>first|exact⟨h,rfl⟩|(simp[dX] at h))
structure Z6(r:Nat->Nat)(s0 s:AS):Prop where
 live:∀b o,s0.get b=some o->b<s0.nx/\∃cs o9 t fz,o=.cells cs t fz/\s.get (r b)=some (.cells o9 t fz)/\AR (RV r s0.nx) cs o9
 inj:∀b b' o o',s0.get b=some o->s0.get b'=some o'->r b=r b'->b=b'
variable {s0:AS}{l:Hq}
theorem eT.yx(h:eT P KT An S s l)(a:Z6 r s0 s)(m:∀b x,An b=some x->b<s0.nx/\r b=b):eT P KT An (S.yx r s0.nx) s0 l where
 live b o hb:=by
  obtain⟨d,p,f,t,u,rfl,h1,h2⟩:=a.live b o hb
  have⟨g,z,e,c,w,A,B,J⟩:=h.live _ _ h1
  have⟨q,C,D,E,F⟩:=B
  refine⟨g,z,e,c,by rw[cb.oU d];exact w,A,⟨q,C,D,by rw[h2.1];exact E,λi x y U v=>?_⟩,λG K I H=>?_⟩
  .
   have j:i<f.size:=by rw[<-h2.1];exact(oK.1 U).1
   exact VR.yx (h2.2 i x _ U (gF j)) (F i _ y (gF j) v)
  .
   grind
 inj b b' o c x x' hb pP U vV T1:=by
  have⟨d,p,f,t,u,_,h1,_⟩:=a.live b o hb
  have⟨n,_,_,_,_,_,k,_⟩:=a.live b' c pP
  rw[cb.oU d] at U
  rw[cb.oU n] at vV
  exact a.inj b b' o c hb pP (h.inj _ _ _ _ x x' h1 k U vV T1)
 lt b o hb:=(a.live b o hb).1
 an b x U:=by
  have⟨h1,h2⟩:=m b x U
  rw[cb.oU h1,h2]
  exact h.an b x U
end
section
variable {N0:ι->Nat}{M:ι->World->Nat->Prop}{O:ι->Nat->Prop}{R:ι->Wq}{D:ι->World->World->Array Event->Prop}{X:ι->Gq}{Hd:ι->Hq->World->Prop}{pr:Prim}
def WI.yx{s s0:AS}{Q:Exit->TL->AS->Prop}(t:Z6 r s0 s)(o:AR (RV r s0.nx) a0.toArray aA.toArray)(d:∀b x,An b=some x->b<s0.nx/\r b=b)(h:WI P KT An X Hd c a0 s0 Q):WI P KT An X Hd c aA s Q:=by intro f S l g i w a e n m j p q k;exact h f (S.yx r s0.nx) l g i w a e (n.yx t d) m (o.comp j λ_ _ _=>VR.yx) p (λb u=>iw oq) k
theorem WI.back{s s0:AS}{Q:Exit->TL->AS->Prop}(k:∀b o,s0.get b=some o->b<s0.nx/\s.get b=some o/\∃a t f,o=.cells a t f/\a.toList.all (Ld s0.nx 5)=true)(i:aA.all (Ld s0.nx 5)=true)(g:∀b x,An b=some x->b<s0.nx)(h:WI P KT An X Hd c aA s0 Q):WI P KT An X Hd c aA s Q:=by have U:∀b,b<s0.nx->(λb:Nat=>b) b=b:=λ_ _=>rfl;refine WI.yx ⟨λb o j=>?_,λb l o m _ _ e=>e⟩ (AR.same λx d=>⟨5,RD.id U (aT.1 i x gq)⟩) (λb x d=>⟨g b x d,rfl⟩) h;obtain⟨h1,h2,a,t,f,rfl,h3⟩:=k b o j;exact⟨h1,a,a,t,f,rfl,h2,AR.same λx d=>⟨5,RD.id U (aT.1 h3 x d)⟩⟩
end
def EY:Vq->Option (List ByteArray)
 | []=>some []
 | .string s::l=>match EY l with
  | some r=>some (s::r)
  | none=>none
 | _=>none
theorem wI:∀{l:Vq} {r:List ByteArray},EY l=some r->l.length=r.length/\∀(k:Nat) (p:ByteArray),r[k]?=some p->l[k]?=some (.string p)
 | [],r,h=>by cases h;exact⟨rfl,λk p U=>by simp at U⟩
 | x::l,r,h=>by
  cases x<;>simp only[EY] at h<;>try cases h
  split at h
  .next r' hr =>cases h;have⟨h1,h2⟩:=wI hr;grind
  .cases h
def EH(pv:Value)(s:AS):Option (List ByteArray × AS):=match pv with
 | .slice none 0 0=>some ([],s)
 | .slice (some ⟨bp,0,none⟩) m _=>match s.get bp with
  | some (.cells cs 9 _)=>if m<=cs.toList.length/\bp<s.nx then match EY (cs.toList.take m) with
    | some a=>some (a,s.set bp none)
    | none=>none
   else none
  | _=>none
 | _=>none
theorem MW{s sB:AS}(h:EH pv s=some (ps,sB)):Su s pv ps sB/\QP s.nx pv=true:=by
 unfold EH at h;split at h
 .cases h;exact⟨.inl ⟨rfl,rfl,rfl⟩,rfl⟩
 .next b m c =>
  split at h
  .next d e f =>
   split at h
   .next a =>
    split at h
    .next g U =>cases h;have⟨h1,h2⟩:=wI U;rw[List.length_take,Nat.min_eq_left a.1] at h1;refine⟨.inr ⟨b,c,d,e,by rw[h1],f,λk p i=>?_,rfl⟩,by simpa[QP,ry,Nat.blt_eq] using a.2⟩;grind
    .cases h
   .cases h
  .cases h
 .cases h
def jY (P:Program)(n r0:Nat)(str:ByteArray)(uG:AS->AS)(nC:Prim)(pr:Prim):Prim:=λg=>if g.beq 37 then some λa s=>match a.toList with
 | [pv,.func (.func f) x y]=>match EH pv s,P.funcs[f]? with
  | some (ps,sB),some aS=>match aS.body with
   | some c =>
    if ps.flatMap bytesOf=bytesOf str/\ps.length<=1000000000/\x.toList.isEmpty=true/\s.nx=r0/\aS.results.toList.isEmpty=true/\s.A8=true/\y.toList.all (ry s.nx)=true then
     match fe P kg nC n c ((am s.nx 0::y.toList)++List.replicate (aS.ntmps-(y.size+1)) undef) ⟨sB.hp,s.nx+1⟩ with
     | some (e,_,s')=>if AS.keeps sB s'=true then match e with
       | .normal|.ret=>some (.tuple #[],uG s')
       | _=>none
      else none
     | none=>none
    else none
   | none=>none
  | _,_=>none
 | _=>none
 else pr g
section
variable {Post:Value->World->Prop}{Ex:Nat->Prop}{w₀:World}
theorem EL{e1:Nat}(h1:An 1=some (1,z1,e1))(T:∀b,32<=b->An b=none){str:ByteArray}(ak:32<=r0){uG:AS->AS}(I:yJ uG)(t:Sq An (Sw Ex w₀) r0 nC (cI str))(B:jg str.data.toList 0<=20000)(m:ck prog eg An (λ_:Zx=>AtRel) (λj=>DZ j.1) (λj=>ZI prog Post 0 j.1) (BE Ex w₀) pr) :
  ck prog eg An (λ_:Zx=>AtRel) (λj=>DZ j.1) (λj=>ZI prog Post 0 j.1) (BE Ex w₀) (jY prog n r0 str uG nC pr):=by
 have G:∀g h a s v i,g=37->jY prog n r0 str uG nC pr g=some h->h a s=some (v,i)->s.nx<=i.nx/\Sound prog eg An (λ_:Zx=>AtRel) (λj=>DZ j.1) (λj=>ZI prog Post 0 j.1) (BE Ex w₀) 37 a s v i:=by
  rintro g h a s v i rfl d U;unfold jY at d;rw[ip (show Nat.beq 37 37=true from rfl)] at d;cases d;simp only at U;split at U
  .next pv f x y ha =>
   split at U
   .next N sB K X d =>
    split at U
    .next c O =>
     split at U
     .next hc =>
      obtain⟨H,aj,al,rfl,R,Z,hy⟩:=hc;have⟨D,hpV⟩:=MW X;have E:∀p∈N,p.size<=20000:=λp m=>by have h1:=(List.sublist_flatten_of_mem (List.mem_map.2 ⟨p,m,rfl⟩:bytesOf p∈N.map bytesOf)).length_le;rw[<-List.flatMap_def,H] at h1;rw[iO,Nat.zero_add,KF] at B;unfold bytesOf at h1;rw[List.length_map,List.length_map,KF,KF] at h1;exact lT h1 B
      split at U
      .next e ah u J =>
       split at U
       .next P =>
        have Q:(e=.normal\/e=.ret)/\v=.tuple #[]/\i=uG u:=gq
        obtain⟨k,rfl,rfl⟩:=Q;have F:x=#[]:=gq
        subst F;have V:a=#[pv,.func (.func f) #[] y]:=gq
        subst V;have W:s.nx+1<=u.nx:=(zA t.1 n).1 _ _ _ _ _ _ J;have q:s.nx<=(uG u).nx:=by rw[(I u).1];omega
        refine⟨q,Sound.cut (λb M=>T b oq) Z ?_ q λS l fr j w C o L hF r=>?_⟩
        .have ai:QP s.nx (.func (.func f) #[] y)=true:=by simp only[QP,hy,List.all_nil,Bool.and_true]
         grind
        .exact UE h1 oq D d H E oq O R B (λY A hT r m=>t.2 Y A (λb x M t=>(r b oq).trans (L.an b x t)) hT (λb M=>(r b oq).trans (o b oq)) m) I J W P k L hF r (λb b1 _=>o b b1)
       .cases U
      .cases U
     .cases U
    .cases U
   .cases U
  .cases U
 constructor
 .intro g h a s v i d U;by_cases k:g=37
  .exact(G g h a s v i k d U).1
  .unfold jY at d;rw[iw (λz=>k (gh z))] at d;exact m.nx g h a s v i d U
 .intro g h a s v i d U;by_cases k:g=37
  .grind
  .unfold jY at d;rw[iw (λz=>k (gh z))] at d;exact m.sound g h a s v i d U
def CV{str:ByteArray}{uG:AS->AS}{s s1 sB:AS}{f:FuncId}{aS:Func}{y:Aq}(g:EH pv s=some (ps,sB))(b:ps.flatMap bytesOf=bytesOf str)(h:ps.length<=1000000000)(l:prog.funcs[f]?=some aS)(a:aS.body=some c)(d:aS.results.toList.isEmpty=true)(m:s.nx=r0)(i:s.A8=true)(p:y.toList.all (ry s.nx)=true)
 (o:Ew nC c ((am s.nx 0::y.toList)++List.replicate (aS.ntmps-(y.size+1)) undef) ⟨sB.hp,s.nx+1⟩ λe _ j=>(e=.normal\/e=.ret)/\AS.keeps sB j=true/\uG j=s1) :
  ∃n,∀k,Ef (jY prog n r0 str uG nC k) 37 #[pv,.func (.func f) #[] y] s (.tuple #[]) s1:=by obtain⟨n,e,q,j,h1,h2,h3,rfl⟩:=o;refine⟨n,λk=>⟨1,?_⟩⟩;unfold bH jY;rw[ip (show Nat.beq 37 37=true from rfl)];simp only[g,l,a,h1,h3,if_true];rw[ip ⟨b,h,rfl,m,d,i,p⟩];rcases h2 with rfl|rfl<;>rfl
end
end Go.Proofs.YtgcaionclkbehaaGreatDoor
