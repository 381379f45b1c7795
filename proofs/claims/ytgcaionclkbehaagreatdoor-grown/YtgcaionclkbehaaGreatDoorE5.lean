
import Derived.Test.YtgcaionclkbehaaGreatDoorE1
set_option linter.all false
set_option maxHeartbeats 2000000
set_option maxRecDepth 100000
namespace Go.Proofs.YtgcaionclkbehaaGreatDoor
open Go.Conc Go.RowKit Go.Lib
variable {α:Type}{a a' b' cs o9 p p' q q':Aq}{b c c' d e g len n n' off pos z:Nat}{x x' y y':Value}{o o' OH ob OI:Obj}{f:Fn}{op:BinOp}{t:TypeId}{place:Nat->Option (Nat × Nat)}{ps UP:List (Nat × Value)}
theorem nS(d:α):∀(n:Nat) (l:List α) (x:α) (m:Nat),(nj d n l x).getD m d=if m=n then x else l.getD m d
 | 0,l,x,0=>by simp[nj]
 | 0,l,x,m+1=>by cases l<;>simp[nj]
 | n+1,l,x,0=>by cases l<;>simp[nj]
 | n+1,l,x,m+1=>by have:=nS d n l.tail x m;cases l<;>simp_all [nj]
theorem AS.bn(s:AS)(b b':Nat)(o:Option Obj):(s.set b o).get b'=if b'=b then o else s.get b':=by
 unfold AS.get AS.set;rw[nS];by_cases h:b' / 16=b / 16
 .rw[ip h,nS];grind
 .grind
def AS.bv(s:AS)(b':Nat)(o:Obj):(s.add o).get b'=if b'=s.nx then some o else s.get b':=by have:(s.add o).get b'=(s.set s.nx (some o)).get b':=rfl;rw[this,AS.bn]
@[simp] theorem AS.QQ (s:AS) (b:Nat) (o:Option Obj):(s.set b o).nx=s.nx:=rfl
@[simp] theorem AS.Jy (s:AS) (o:Obj):(s.add o).nx=s.nx+1:=rfl
abbrev cb:=Nat->Option (Nat × Nat × Nat)
def cb.le(S S':cb):Prop:=∀b x,S b=some x->S' b=some x
def cb.le_refl(S:cb):S.le S:=λ_ _ h=>h
def cb.le_trans{S S' a:cb}(h:S.le S')(c:S'.le a):S.le a:=λb x e=>c b x (h b x e)
def AR (R:Value->Value->Prop)(a b:Aq):Prop:=a.size=b.size/\∀(i:Nat) (x y:Value),a[i]?=some x->b[i]?=some y->R x y
def VD (S:cb):Nat->Value->Value->Prop
 | 0,_,_=>False
 | d+1,x,v=>match x with
  | .pointer (some ⟨b,off,none⟩)=>∃g z e,S b=some (g,z,e)/\v=.pointer (some ⟨g,off,none⟩)
  | .slice (some ⟨b,off,none⟩) n c=>∃g z e c',S b=some (g,z,e)/\v=.slice (some ⟨g,off,none⟩) n c'/\n<=c/\c<=c'/\c'<=maxLen/\off+c'*e=z
  | .slice (some ⟨b,_,some _⟩) n c=>∃g z e o' c',S b=some (g,z,e)/\v=.slice (some ⟨g,o',none⟩) 0 c'/\n=0/\(c=0->c'=0)/\c'<=maxLen
  | .map (some k)=>∃m:Nat,v=goInt m/\k<=m
  | .func f x y=>∃x' y',v=.func f x' y'/\AR (VD S d) x x'/\AR (VD S d) y y'
  | .agg x=>∃x',v=.agg x'/\AR (VD S d) x x'
  | .tuple x=>∃x',v=.tuple x'/\AR (VD S d) x x'
  | x=>dX x=true/\v=x
def VR (S:cb)(x v:Value):Prop:=∃d,VD S d x v
def AR.imp{R c:Value->Value->Prop}{b:Aq}(h:AR R a b)(i:∀x y,R x y->c x y):AR c a b:=⟨h.1,λk x y d e=>i x y (h.2 k x y d e)⟩
def VD.imp{S S':cb}(a:S.le S'):∀{d d':Nat} {x v:Value},VD S d x v->d<=d'->VD S' d' x v
 | 0,_,_,_,h,_=>h.elim
 | d+1,0,_,_,_,h=>absurd h oq
 | d+1,d'+1,x,v,h,hd=>by
  have ih:∀x y,VD S d x y->VD S' d' x y:=λx y h=>VD.imp a h oq;unfold VD at h |-;split at h
  .have⟨g,z,e,h1,h2⟩:=h;exact⟨g,z,e,a _ _ h1,h2⟩
  .have⟨g,z,e,c,h1,h2⟩:=h;exact⟨g,z,e,c,a _ _ h1,h2⟩
  .have⟨g,z,e,i,f,h1,h2⟩:=h;exact⟨g,z,e,i,f,a _ _ h1,h2⟩
  .exact h
  .have⟨b,j,h1,h2,h3⟩:=h;exact⟨b,j,h1,h2.imp ih,h3.imp ih⟩
  iterate 2
   .have⟨b,h1,h2⟩:=h;exact⟨b,h1,h2.imp ih⟩
  .exact h
def VR.mono{S S':cb}{v:Value}(h:VR S x v)(a:S.le S'):VR S' x v:=h.elim λd h=>⟨d,h.imp a (jl d)⟩
def AR.mono{S S':cb}{b:Aq}(h:AR (VR S) a b)(c:S.le S'):AR (VR S') a b:=h.imp λ_ _ h=>h.mono c
variable {S:cb}{v:Value}
section
variable {x:Value}
def VR.sc(a:dX x=true)(h:VR S x v):v=x:=by
 have⟨d,h⟩:=h;cases d with
 | zero=>exact h.elim
 | succ d =>unfold VD at h;split at h<;>first|exact h.2|(simp[dX] at a)
theorem VR.fl(U:pS x=true)(h:VR S x v):v=x:=by
 unfold pS at U;split at U
 .next a =>
  have⟨d,h⟩:=h;match d,h with
  | 0,h=>exact h.elim
  | d+1,h =>
   unfold VD at h;obtain⟨c,rfl,h1,h2⟩:=h;congr 1;apply Array.ext_getElem?;intro i;by_cases f:i<a.size
   .have e1:a[i]?=some a[i]:=gF f;have b:c[i]?=some (c[i]'oq):=gF oq;have e:dX a[i]=true:=aT.1 U _ iq;rw[e1,b,VR.sc e ⟨d,h2 i _ _ e1 b⟩]
   .grind
 .exact VR.sc U h
def VR.dx(a:dX x=true):VR S x x:=by refine⟨1,?_⟩;unfold VD;split<;>first|exact⟨a,rfl⟩|(simp[dX] at a)
def VR.mp{p:Option Nat}(h:VR S (.map p) v):∃k m:Nat,p=some k/\v=goInt m/\k<=m:=by
 have⟨d,h⟩:=h;cases d with
 | zero=>exact h.elim
 | succ d=>cases p with
  | none=>exact absurd h.1 (by simp[dX])
  | some k=>obtain⟨m,h1,h2⟩:=h;exact⟨k,m,rfl,h1,h2⟩
def VR.ptr(h:VR S (.pointer (some ⟨b,off,none⟩)) v):∃g z e,S b=some (g,z,e)/\v=.pointer (some ⟨g,off,none⟩):=by
 have⟨d,h⟩:=h;cases d with
 | zero=>exact h.elim
 | succ d=>exact h
def VR.gk(h:S b=some (g,z,e)):VR S (.pointer (some ⟨b,off,none⟩)) (.pointer (some ⟨g,off,none⟩)):=⟨1,g,z,e,h,rfl⟩
def VR.iW{p:Addr}(h:VR S (.pointer (some p)) v):p.spot=none:=by
 have⟨d,h⟩:=h;have⟨b,a,sp⟩:=p;cases sp with
 | none=>rfl
 | some q=>cases d with
  | zero=>exact h.elim
  | succ d=>exact absurd h.1 (by simp[dX])
def VR.sl(h:VR S (.slice (some ⟨b,off,none⟩) n c) v):∃g z e a,S b=some (g,z,e)/\v=.slice (some ⟨g,off,none⟩) n a/\n<=c/\c<=a/\a<=maxLen/\off+a*e=z:=by
 have⟨d,h⟩:=h;cases d with
 | zero=>exact h.elim
 | succ d=>exact h
def VR.Af(h:S b=some (g,z,e))(h1:n<=c)(h2:c<=c')(h3:c'<=maxLen)(a:off+c'*e=z):VR S (.slice (some ⟨b,off,none⟩) n c) (.slice (some ⟨g,off,none⟩) n c'):=⟨1,g,z,e,c',h,rfl,h1,h2,h3,a⟩
def VR.kT{ad:Addr}(h:VR S (.slice (some ad) n c) v):∃g z e f a,S ad.block=some (g,z,e)/\v=.slice (some ⟨g,f,none⟩) n a/\n<=a/\a<=maxLen/\(n=0\/f=ad.off):=by
 have⟨d,h⟩:=h;have⟨b,j,sp⟩:=ad;cases d with
 | zero=>exact h.elim
 | succ d =>
  cases sp with
  | none=>obtain⟨g,z,e,a,h1,h2,h3,k,i,_⟩:=h;exact⟨g,z,e,j,a,h1,h2,by omega,i,.inr rfl⟩
  | some q=>obtain⟨g,z,e,f,a,h1,h2,h3,k,i⟩:=h;subst h3;exact⟨g,z,e,f,a,h1,h2,by omega,i,.inl rfl⟩
def VR.Nl{q}(h:VR S (.slice (some ⟨b,off,some q⟩) n c) v):∃g z e f a,S b=some (g,z,e)/\v=.slice (some ⟨g,f,none⟩) 0 a/\n=0/\(c=0->a=0)/\a<=maxLen:=by
 have⟨d,h⟩:=h;cases d with
 | zero=>exact h.elim
 | succ d=>exact h
def VR.Eu{o':Nat}{q}(h:S b=some (g,z,e))(h1:c=0->c'=0)(h2:c'<=maxLen):VR S (.slice (some ⟨b,off,some q⟩) 0 c) (.slice (some ⟨g,o',none⟩) 0 c'):=⟨1,g,z,e,o',c',h,rfl,rfl,h1,h2⟩
def VR.fn(h:VR S (.func f p q) v):∃a b,v=.func f a b/\AR (VR S) p a/\AR (VR S) q b:=by
 have⟨d,h⟩:=h;cases d with
 | zero=>exact h.elim
 | succ d=>obtain⟨a,b,h1,h2,h3⟩:=h;exact⟨a,b,h1,h2.imp λ_ _ h=>⟨d,h⟩,h3.imp λ_ _ h=>⟨d,h⟩⟩
def VR.ag(h:VR S (.agg p) v):∃a,v=.agg a/\AR (VR S) p a:=by
 have⟨d,h⟩:=h;cases d with
 | zero=>exact h.elim
 | succ d=>obtain⟨a,h1,h2⟩:=h;exact⟨a,h1,h2.imp λ_ _ h=>⟨d,h⟩⟩
def VR.tu(h:VR S (.tuple p) v):∃a,v=.tuple a/\AR (VR S) p a:=by
 have⟨d,h⟩:=h;cases d with
 | zero=>exact h.elim
 | succ d=>obtain⟨a,h1,h2⟩:=h;exact⟨a,h1,h2.imp λ_ _ h=>⟨d,h⟩⟩
theorem rW:∀(a b:Vq),(∀(i:Nat) (x y:Value),a[i]?=some x->b[i]?=some y->VR S x y)->∃d,∀(i:Nat) (x y:Value),a[i]?=some x->b[i]?=some y->VD S d x y
 | [],b,_=>⟨0,λi x y h=>by simp at h⟩
 | x::a,[],_=>⟨0,λi x y _ h=>by simp at h⟩
 | x::a,y::b,h=>by
  have⟨d,hd⟩:=rW a b λi x y e f=>h (i+1) x y gq gq;have⟨g,c⟩:=h 0 x y rfl rfl;refine⟨max d g,λi j k e f=>?_⟩;cases i with
  | zero=>simp at e f;subst e f;exact c.imp (cb.le_refl S) (Nat.le_max_right _ _)
  | succ i=>exact(hd i j k gq gq).imp (cb.le_refl S) (Nat.le_max_left _ _)
theorem AR.w9{b:Aq}(h:AR (VR S) a b):∃d,AR (VD S d) a b:=by have⟨d,c⟩:=rW a.toList b.toList λi x y e f=>h.2 i x y gq gq;exact⟨d,h.1,λi x y e f=>c i x y gq gq⟩
section
variable (h:AR (VR S) p p')
def VR.Ad:VR S (.agg p) (.agg p'):=by have⟨d,a⟩:=h.w9;exact⟨d+1,p',rfl,a⟩
def VR.uu:VR S (.tuple p) (.tuple p'):=by have⟨d,a⟩:=h.w9;exact⟨d+1,p',rfl,a⟩
def VR.Ae(c:AR (VR S) q q'):VR S (.func f p q) (.func f p' q'):=by have⟨d,e⟩:=h.w9;have⟨b,a⟩:=c.w9;exact⟨max d b+1,p',q',rfl,e.imp λ_ _ h=>h.imp (cb.le_refl S) (Nat.le_max_left _ _),a.imp λ_ _ h=>h.imp (cb.le_refl S) (Nat.le_max_right _ _)⟩
end
def AR.nil:AR (VR S) #[] #[]:=⟨rfl,λi x y h=>by simp at h⟩
def AR.one(h:VR S x v):AR (VR S) #[x] #[v]:=⟨rfl,λi c d a b=>by
 cases i with
 | zero=>simp at a b;subst a b;exact h
 | succ i=>simp at a⟩
def AR.append{b:Aq}(h:AR (VR S) a b)(e:AR (VR S) a' b'):AR (VR S) (a++a') (b++b'):=by
 refine⟨by simp[h.1,e.1],λi x y d c=>?_⟩;rw[Array.getElem?_append] at d c;rw[<-h.1] at c;split at d
 .rw[ip (by assumption)] at c;exact h.2 i x y d c
 .rw[iw (by assumption)] at c;exact e.2 _ x y d c
theorem AR.replicate(n:Nat)(d:VR S x v):AR (VR S) (Array.replicate n x) (Array.replicate n v):=by refine⟨iq,λi a b U c=>?_⟩;grind
def VR.undef:VR S undef undef:=VR.uu AR.nil
def VR.cells(h:VR S x v):AR (VR S) x.cells v.cells:=by
 cases x with
 | agg p=>obtain⟨i,rfl,a⟩:=h.ag;exact a
 | tuple p=>obtain⟨i,rfl,a⟩:=h.tu;exact AR.one (VR.uu a)
 | map p=>obtain⟨k,m,rfl,rfl,a⟩:=h.mp;exact AR.one h
 | func f p q=>obtain⟨i,r,rfl,h1,h2⟩:=h.fn;exact AR.one (VR.Ae h1 h2)
 | pointer p =>
  cases p with
  | none=>rw[h.sc rfl];exact AR.one (VR.dx rfl)
  | some p =>
   have⟨b,j,sp⟩:=p
   have:=h.iW;simp at this;subst this;obtain⟨g,z,e,h1,rfl⟩:=h.ptr;exact AR.one (VR.gk h1)
 | slice p n c =>
  cases p with
  | none=>rw[h.sc rfl];exact AR.one (VR.dx rfl)
  | some p =>obtain⟨g,z,e,o,l,h1,rfl,h2⟩:=h.kT;exact AR.one h
 | bool b=>rw[h.sc rfl];exact AR.one (VR.dx rfl)
 | int k n=>rw[h.sc rfl];exact AR.one (VR.dx rfl)
 | string s=>rw[h.sc rfl];exact AR.one (VR.dx rfl)
 | nilFunc=>rw[h.sc rfl];exact AR.one (VR.dx rfl)
 | nilIface=>rw[h.sc rfl];exact AR.one (VR.dx rfl)
 | _=>obtain⟨d,h⟩:=h;cases d with
  | zero=>exact h.elim
  | succ d=>exact absurd h.1 (by simp[dX])
def VR.Ey(h:VR S x v):v.oneCell'=x.oneCell':=by
 cases x with
 | agg p=>obtain⟨i,rfl,a⟩:=h.ag;rfl
 | tuple p=>obtain⟨i,rfl,a⟩:=h.tu;rfl
 | map p=>obtain⟨k,m,rfl,rfl,a⟩:=h.mp;rfl
 | func f p q=>obtain⟨i,r,rfl,h1,h2⟩:=h.fn;rfl
 | pointer p =>
  cases p with
  | none=>rw[h.sc rfl]
  | some p =>
   have⟨b,j,sp⟩:=p
   have:=h.iW;simp at this;subst this;obtain⟨g,z,e,h1,rfl⟩:=h.ptr;rfl
 | slice p n c =>
  cases p with
  | none=>rw[h.sc rfl]
  | some p=>obtain⟨g,z,e,o,l,h1,rfl,h2⟩:=h.kT;rfl
 | bool b=>rw[h.sc rfl]
 | int k n=>rw[h.sc rfl]
 | string s=>rw[h.sc rfl]
 | nilFunc=>rw[h.sc rfl]
 | nilIface=>rw[h.sc rfl]
 | _=>obtain⟨d,h⟩:=h;cases d with
  | zero=>exact h.elim
  | succ d=>exact absurd h.1 (by simp[dX])
end
def OR (S:cb)(z:Nat):Obj->Obj->Prop
 | .cells cs t fz,o'=>∃o9,o'=.cells o9 t/\o9.size=z/\(cs.size<=z/\(fz=(0,0)->cs.size=z))/\∀(i:Nat) (x y:Value),cs[i]?=some x->o9[i]?=some y->VR S x y
 | .stringIter s p,o'=>o'=.stringIter s p
 | .chan t cs _ f1 f2 _,o'=>o'=.cells cs t (f1,f2)
 | _,_=>False
def OR.mono{S S':cb}(c:S.le S')(h:OR S z o o'):OR S' z o o':=by
 unfold OR at h |-;split at h
 .have⟨a,h1,h2,h3,b⟩:=h;exact⟨a,h1,h2,h3,λi x y d e=>(b i x y d e).mono c⟩
 .exact h
 .exact h
 .exact h.elim
structure eT(P:Program)(KT:TypeId->Prop)(An:cb)(S:cb)(s:AS)(l:Hq):Prop where
 live:∀b o,s.get b=some o->∃g z e o',S b=some (g,z,e)/\(g,o')∈l/\OR S z o o'/\∀cs t fz,o=.cells cs t fz->bP P t=some e/\¬KT t
 inj:∀b b' o o' x x',s.get b=some o->s.get b'=some o'->S b=some x->S b'=some x'->x.1=x'.1->b=b'
 lt:∀b o,s.get b=some o->b<s.nx
 an:An.le S
variable {P:Program}{KT:TypeId->Prop}{An:cb}{s:AS}{l:Hq}
section
variable {S':cb}
def cb.put(S:cb)(b:Nat)(x:Nat × Nat × Nat):cb:=λk=>if k=b then some x else S k
theorem cb.kO{x:Nat × Nat × Nat}(h:S b=none):S.le (S.put b x):=λk y U=>by unfold cb.put;grind
def cb.iX{x:Nat × Nat × Nat}:S.put b x b=some x:=by simp[cb.put]
theorem eT.grown(h:eT P KT An S s l)(i:S s.nx=none)(r:∀o,(g,o)∉l)(p:OR (S.put s.nx (g,z,e)) z o o')(q:∀k t m,o=.cells k t m->bP P t=some e/\¬KT t):eT P KT An (S.put s.nx (g,z,e)) (s.add o) ((g,o')::l) where
 live b ob U:=by
  rw[AS.bv] at U
  split at U
  .
   next a =>
   subst a
   cases U
   exact⟨g,z,e,o',cb.iX,List.mem_cons_self ..,p,q⟩
  .
   have⟨f,j,a,c,h1,h2,h3,n⟩:=h.live b ob U
   exact⟨f,j,a,c,cb.kO i _ _ h1,Jo _ h2,h3.mono (cb.kO i),n⟩
 inj b b' o1 o2 x x' U pP hx a0 he:=by
  rw[AS.bv] at U pP
  unfold cb.put at hx a0
  split at U<;>split at pP
  .
   omega
  .
   next e1 d =>
   rw[ip e1] at hx
   rw[iw d] at a0
   cases hx
   have⟨f,j,a,c,h1,h2,_⟩:=h.live b' o2 pP
   grind
  .
   next e1 d =>
   rw[iw e1] at hx
   rw[ip d] at a0
   cases a0
   have⟨f,j,a,c,h1,h2,_⟩:=h.live b o1 U
   grind
  .
   next e1 d =>
   rw[iw e1] at hx
   rw[iw d] at a0
   exact h.inj b b' o1 o2 x x' U pP hx a0 he
 lt b ob U:=by
  rw[AS.bv] at U
  split at U
  .
   next a=>simp[a]
  .
   have:=h.lt b ob U;simp;omega
 an:=cb.le_trans h.an (cb.kO i)
end
section
variable {α β:Type}
@[simp] theorem jO (x:α):gn P (Pure.pure x:Sem α)=some x:=rfl
@[simp] theorem RY (x:α):gn P (.pure x:Sem α)=some x:=rfl
def vP(t:Sem α)(k:α->Sem β):gn P (t.bind k)=(gn P t).bind λa=>gn P (k a):=by
 induction t with
 | pure a=>rfl
 | program f ih=>simp only[Sem.bind,gn];exact ih P
 | _=>rfl
@[simp] theorem dA (t:Sem α) (k:α->Sem β):gn P (t >>= k)=(gn P t).bind λa=>gn P (k a):=vP t k
@[simp] theorem VF (f:α->β) (t:Sem α):gn P (Functor.map f t)=(gn P t).map f:=by show gn P (t.bind (Sem.pure ∘ f))=_;rw[vP];cases gn P t<;>rfl
def kB{t:Sem α}{x:α}(h:gn P t=some x)(w:World)(es:Array Event):t.run P w=.ok x w/\t.events P w es=es:=by
 induction t with
 | pure a=>simp[gn] at h;subst h;exact⟨rfl,rfl⟩
 | program f ih=>exact ih P h
 | _=>simp[gn] at h
@[simp] theorem dB (t:TypeId):gn P (underlying t)=P.underlying t:=by unfold underlying program;simp only[dA,gn];simp;cases P.underlying t<;>rfl
@[simp] theorem pH (t:TypeId):gn P (typeInfo t)=P.info? t:=by unfold typeInfo program;simp only[dA,gn];simp;cases P.info? t<;>rfl
@[simp] theorem l6 (t:TypeId):gn P (sizeOf t)=bP P t:=by unfold sizeOf bP;simp only[dA,pH];cases P.info? t<;>rfl
@[simp] theorem RZ (why:String):gn P (stuck why:Sem α)=none:=rfl
@[simp] theorem G4 (u:Unsupported):gn P (unsupported u:Sem α)=none:=rfl
end
def Bj(k:IntKind)(r:Int):eQ k r=k.wrap r:=by
 unfold eQ;split;iterate 2
  .split
   .next h=>simp only[IntKind.wrap,IntKind.bits,IntKind.signed];simp;omega
   .rfl
 .rfl
theorem w0:∀l m:Bq,cw l m=(l==m)
 | [],[]=>rfl
 | [],_::_=>rfl
 | _::_,[]=>rfl
 | x::l,y::m=>by
  have h:x.toNat.beq y.toNat=(x==y):=by rw[Bool.eq_iff_iff];simp only[Nat.beq_eq,beq_iff_eq];exact⟨λh=>UInt8.toNat_inj.1 h,λh=>by rw[h]⟩
  simp only[cw,h,w0 l m];grind
def iO:∀(l:List α) (n:Nat),jg l n=n+l.length
 | [],n=>rfl
 | _::l,n=>by simp only[jg,iO l,lC];omega
def w7(x:ByteArray):x.toList=x.data.toList:=by exact ByteArray.toList_eq x
def oH{a b:ByteArray}(h:a.data.toList=b.data.toList):a=b:=by obtain⟨⟨l⟩⟩:=a;obtain⟨⟨m⟩⟩:=b;simp at h;subst h;rfl
variable {a:Act}{o:Oper}{aA:TL}
section
theorem zv(t:TypeId)(h:dw op x y=some v):dX v=true/\dX x=true/\dX y=true/\gn P (binOp op t x y)=some v/\∀X Y,gn P (eqGuard op t X Y x y)=some ():=by
 unfold dw at h;split at h
 .split at h
  .next e =>
   subst e;refine⟨?_,rfl,rfl,?_,λX Y=>by cases op<;>rfl⟩
   .split at h<;>first|(cases h;rfl)|cases h
   .split at h<;>first|(cases h;simp[binOp,Op.intArith,Op.intCmp,Bj])|cases h
  .cases h
 .refine⟨?_,rfl,rfl,?_,λX Y=>by cases op<;>rfl⟩
  .split at h;iterate 2
    .cases h;rfl
   .split at h
    .cases h;rfl
    .cases h
   .cases h
  .split at h;iterate 2
    .cases h;simp[binOp,Op.stringOp,w0,w7]
   .split at h
    .next a b _ U =>
     cases h;simp only[iO,Nat.zero_add] at U;have h1:a.size=a.data.toList.length:=by simp_all
     have h2:b.size=b.data.toList.length:=by rw[KF];rfl
     have c:¬(((a.size+b.size:Nat):Int)>IntKind.i64.max):=by rw[h1,h2];simp[IntKind.max,IntKind.bits,IntKind.signed];omega
     have e:(⟨(a.data.toList++b.data.toList).toArray⟩:ByteArray)=a++b:=by apply oH;simp
     rw[e];simp only[binOp,Op.stringOp];rw[iw c];rfl
    .cases h
   .cases h
 .cases h
def eI (S:cb)(aA:TL)(a:Act)(o:Oper):Prop:=∀x∈o.op.operands,VR S (aA.at x) (a.eval x)
theorem VR.UD(U:pS x=true):VR S x x:=by
 unfold pS at U;split at U
 .exact VR.Ad ⟨rfl,λi u v b a=>by rw[b] at a;cases a;rw[aT] at U;exact VR.dx (U u gq)⟩
 .exact VR.dx U
theorem e8(d:eI S aA a o)(f:(∀x∈o.op.operands,a.eval x=aA.at x)->execOp a.eval o=execOp aA.at o)(h:tP P aA o=some v):VR S v v/\gn P (execOp a.eval o)=some (.value v):=by
 unfold tP at h;split at h
 .next b =>
  split at h
  .next j U =>
   split at h
   .next c =>
    cases h;refine⟨VR.UD c,?_⟩;have g:∀x∈o.op.operands,a.eval x=aA.at x:=λx i=>(d x i).fl (by rw[aT] at b;exact b x gq);rw[f g];unfold RG at U;split at U
    .next e=>cases U;exact e
    .cases U
   .cases h
  .cases h
 .cases h
theorem Cw{xs:Array Operand}(h:∀x∈xs,VR S (aA.at x) (a.eval x)):AR (VR S) (xs.map aA.at) (xs.map a.eval):=by refine⟨iq,λi x y U b=>?_⟩;grind
def LU{t:Nat}{p q:Addr}(c:P.underlying t=some (.pointer e))(b:bP P e=some (n+1))(a:p.block=q.block):gn P (Op.equalIn (d+1) t (.pointer (some p)) (.pointer (some q)))=some (p==q):=by simp only[Op.equalIn,dA,dB,c,Bs,l6,b,ne_eq,Nat.add_eq_zero_iff,Nat.succ_ne_self,and_false,not_false_eq_true,if_true,sameAddr,a,beq_self_eq_true];simp
def DX{t:Nat}{p:Addr}(a:P.underlying t=some (.pointer e)):gn P (Op.equalIn (d+1) t (.pointer (some p)) (.pointer none))=some false/\gn P (Op.equalIn (d+1) t (.pointer none) (.pointer (some p)))=some false:=by constructor<;>simp only[Op.equalIn,dA,dB,a,Bs]<;>rfl
def DY{t:Nat}{p:Addr}(a:P.underlying t=some (.slice e)):gn P (Op.equalIn (d+1) t (.slice (some p) n c) (.slice none n' c'))=some false/\gn P (Op.equalIn (d+1) t (.slice none n' c') (.slice (some p) n c))=some false:=by constructor<;>simp only[Op.equalIn,dA,dB,a,Bs]<;>rfl
def DW{t:Nat}{x y:Array TypeId}{b:Bool}(a:P.underlying t=some (.func x y b)):gn P (Op.equalIn (d+1) t (.func f p q) .nilFunc)=some false/\gn P (Op.equalIn (d+1) t .nilFunc (.func f p q))=some false:=by constructor<;>simp only[Op.equalIn,dA,dB,a,Bs]<;>rfl
def l8(b:BinOp)(t:TypeId)(X Y:Operand)(d:∀c,x≠.agg c)(a:x≠.nilIface):gn P (eqGuard b t X Y x y)=some ():=by unfold eqGuard;cases b<;>first|rfl|(cases x<;>first|rfl|exact absurd rfl (d _)|exact absurd rfl a)
def yT{b:Bool}(h1:∀k n,x≠.int k n)(h2:∀s,x≠.string s)(h3:∀k n,x≠.float k n)(a:∀k n m,x≠.complex k n m)(h:gn P (Op.equalIn (9999+1) t x y)=some b):gn P (binOp .eql t x y)=some (.bool b)/\gn P (binOp .neq t x y)=some (.bool !b):=by
 have h:gn P (Op.equal t x y)=some b:=h;cases x with
 | int k n=>exact absurd rfl (h1 k n)
 | string s=>exact absurd rfl (h2 s)
 | float k n=>exact absurd rfl (h3 k n)
 | complex k n m=>exact absurd rfl (a k n m)
 | _=>exact⟨by simp only[binOp,dA,h];rfl,by simp only[binOp,dA,h];rfl⟩
def lI(h:(match op with|.eql=>some (Value.bool false)|.neq=>some (.bool true)|_=>none)=some v)(h1:∀k n,x≠.int k n)(h2:∀s,x≠.string s)(h3:∀k n,x≠.float k n)(h4:∀k n m,x≠.complex k n m)(h5:∀c,x≠.agg c)(h6:x≠.nilIface)
 (he:gn P (Op.equalIn (9999+1) t x y)=some false):dX v=true/\gn P (binOp op t x y)=some v/\∀X Y,gn P (eqGuard op t X Y x y)=some ():=by
 have:=yT h1 h2 h3 h4 he;cases op<;>simp at h
 .subst h;exact⟨rfl,this.1,λX Y=>l8 _ _ _ _ h5 h6⟩
 .subst h;exact⟨rfl,this.2,λX Y=>l8 _ _ _ _ h5 h6⟩
def xd(i:VR S x x')(j:VR S y y')(h:oJ P op t x y=some v):dX v=true/\gn P (binOp op t x' y')=some v/\∀X Y,gn P (eqGuard op t X Y x' y')=some ():=by
 unfold oJ at h;split at h
 .next p q e a =>
  split at h
  .next n B =>
   split at h
   .next s =>
    have⟨b,c,sp⟩:=p;have⟨G,f,F⟩:=q;have h1:=i.iW;have h2:=j.iW;simp at h1 h2 s;subst h1 h2 s;obtain⟨g,z,e1,h3,rfl⟩:=i.ptr;obtain⟨I,L,H,r,rfl⟩:=j.ptr;rw[h3] at r;cases r;have l:=yT iq iq iq iq (LU (d:=9999) (p:=⟨g,c,none⟩) (q:=⟨g,f,none⟩) a B rfl);have A:((⟨g,c,none⟩:Addr)==⟨g,f,none⟩)=((⟨b,c,none⟩:Addr)==⟨b,f,none⟩):=by rw[Bool.eq_iff_iff];simp
    rw[A] at l;split at h
    .cases h;exact⟨rfl,l.1,λX Y=>l8 _ _ _ _ iq iq⟩
    .cases h;exact⟨rfl,l.2,λX Y=>l8 _ _ _ _ iq iq⟩
    .cases h
   .cases h
  .cases h
 .next p e a =>obtain⟨b,c,sp⟩:=p;have h1:=i.iW;simp at h1;subst h1;obtain⟨g,z,e1,h3,rfl⟩:=i.ptr;rw[j.sc rfl];exact lI h iq iq iq iq iq iq (DX a).1
 .next p e a =>obtain⟨b,c,sp⟩:=p;have h1:=j.iW;simp at h1;subst h1;obtain⟨g,z,e1,h3,rfl⟩:=j.ptr;rw[i.sc rfl];exact lI h iq iq iq iq iq iq (DX a).2
 .next a =>obtain⟨g,z,e1,C,u,h3,rfl,_⟩:=i.kT;rw[j.sc rfl];exact lI h iq iq iq iq iq iq (DY a).1
 .next a =>obtain⟨g,z,e1,C,u,h3,rfl,_⟩:=j.kT;rw[i.sc rfl];exact lI h iq iq iq iq iq iq (DY a).2
 .next a =>obtain⟨D,E,rfl,_⟩:=i.fn;rw[j.sc rfl];exact lI h iq iq iq iq iq iq (DW a).1
 .next a =>obtain⟨D,E,rfl,_⟩:=j.fn;rw[i.sc rfl];exact lI h iq iq iq iq iq iq (DW a).2
 .next k _ =>
  obtain⟨K,m,w,rfl,J⟩:=i.mp;cases w;rw[j.sc rfl];have o:¬m=0:=oq
  cases op<;>simp at h;iterate 2
   .subst h;exact⟨rfl,by simp[binOp,goInt,Op.intCmp,o],λX Y=>rfl⟩
 .cases h
theorem xR(l:eI S aA a o)(F:∀t G,o.op≠.build t G)(h:cj P aA o=some v):∃O,VR S v O/\gn P (execOp a.eval o)=some (.value O):=by
 unfold cj at h;unfold eI at l;split at h;iterate 2
  .next x U =>cases h;rw[U] at l;exact⟨_,l x (by simp[Op.operands]),by simp[execOp,U]⟩
 .next c x y U =>
  rw[U] at l;have M:=l c (by simp[Op.operands]);split at h
  .next b F =>
   cases h;rw[F] at M;have M:=M.sc rfl;refine⟨if b then a.eval x else a.eval y,?_,?_⟩
   .cases b
    .exact l y (by simp[Op.operands])
    .exact l x (by simp[Op.operands])
   .simp[execOp,U,M,asBool]
  .cases h
 .grind
 .next x U =>
  rw[U] at l;have j:=l x (by simp[Op.operands]);split at h
  .next p E =>
   cases h;rw[E] at j;obtain⟨b,r,sp⟩:=p
   have:=j.iW;simp at this;subst this;obtain⟨g,z,e,h1,h2⟩:=j.ptr;exact⟨_,h2▸VR.gk h1,by simp[execOp,U,h2]⟩
  .next f p q E =>cases h;rw[E] at j;obtain⟨p',q',h1,h2,h3⟩:=j.fn;exact⟨_,VR.Ae h2 h3,by simp[execOp,U,h1]⟩
  .cases h
 .next f first cap U =>cases h;rw[U] at l;refine⟨_,VR.Ae (Cw λx j=>l x (by simp[Op.operands,j])) (Cw λx j=>l x (by simp[Op.operands,j])),by simp[execOp,U,Instr.makeFunc]⟩
 .next t K U =>
  rw[U] at l;have j:=l t (by simp[Op.operands]);split at h
  .next vs w =>
   rw[w] at j;obtain⟨W,h1,h2,h3⟩:=j.tu;have N:K<W.size:=gq
   exact⟨W[K],h3 K _ _ h (Array.getElem?_eq_getElem N),by simp[execOp,U,h1,Instr.extract,Array.getElem?_eq_getElem N]⟩
  .cases h
 .next t x f U =>
  rw[U] at l;have j:=l x (by simp[Op.operands]);split at h
  .next a5 b r D E =>
   rw[E] at j;obtain⟨g,z,e,h1,h2⟩:=j.ptr;split at h
   .next fd hf =>
    split at h
    .next n J =>cases h;exact⟨_,VR.gk h1,by simp[execOp,U,h2,Instr.fieldAt,D,hf,Instr.sureAddr,fieldPlace,J,Addr.add]⟩
    .cases h
   .cases h
  .cases h
 .next t x K U =>
  rw[U] at l;have j:=l x (by simp[Op.operands]);have C:=l K (by simp[Op.operands]);split at h
  .next e b r sp n c k i D E R =>
   rw[E] at j;rw[R] at C;have C:=C.sc rfl;obtain⟨g,z,Z,o',A,h1,h2,h3,s,I⟩:=j.kT;split at h
   .next sz J =>
    split at h
    .next T =>
     cases h;have:o'=r:=gq
     subst this;exact⟨_,VR.gk h1,by simp[execOp,U,h2,C,Instr.indexAt,asIntOf,D,J,T,Addr.add]⟩
    .cases h
   .cases h
  .next n e b r k i D E R =>
   rw[E] at j;rw[R] at C;have C:=C.sc rfl;obtain⟨g,z,Z,h1,h2⟩:=j.ptr;split at h
   .next sz J =>
    split at h
    .next T =>cases h;exact⟨_,VR.gk h1,by simp[execOp,U,h2,C,Instr.indexAt,asIntOf,D,J,T,Addr.add,Instr.sureAddr]⟩
    .cases h
   .cases h
  .cases h
 .next op t x y ty U =>
  rw[U] at l;have j:=l x (by simp[Op.operands]);have hy:=l y (by simp[Op.operands]);split at h
  .next O w =>cases h;obtain⟨h1,h2,h3,s,I⟩:=zv (P:=P) t w;refine⟨v,VR.dx h1,?_⟩;simp only[execOp,U,j.sc h2,hy.sc h3,dA,I,s];rfl
  .split at h
   .next O w =>cases h;obtain⟨h1,h2,h3⟩:=xd j hy w;refine⟨v,VR.dx h1,?_⟩;simp only[execOp,U,dA,h3,h2];rfl
   .obtain⟨h1,h2⟩:=e8 (S:=S) (by unfold eI; rw[U]; exact l) (λm=>by rw[U] at m; simp only[execOp,U,m x (by simp[Op.operands]),m y (by simp[Op.operands])]) h;exact⟨v,h1,h2⟩
 .next t u x U =>
  rw[U] at l;have j:=l x (by simp[Op.operands]);split at h
  .next d k k' n h1 h2 h3 =>cases h;rw[h3] at j;refine⟨_,VR.dx rfl,?_⟩;simp[execOp,U,j.sc rfl,convert,h1,h2,Conv.intToInt,Bj]
  .obtain⟨h1,h2⟩:=e8 (S:=S) (by unfold eI; rw[U]; exact l) (λm=>by rw[U] at m; simp only[execOp,U,m x (by simp[Op.operands])]) h;exact⟨v,h1,h2⟩
 .next t x i U =>
  rw[U] at l;have j:=l x (by simp[Op.operands]);have C:=l i (by simp[Op.operands]);split at h
  .next str k n h1 h2 h3 =>
   rw[h2] at j;rw[h3] at C;split at h
   .next hn =>
    split at h
    .next b F =>
     cases h;refine⟨_,VR.dx rfl,?_⟩;have a6:str[n.toNat]?=some b:=by
      have N:n.toNat<str.size:=by have:=(List.getElem?_eq_some_iff.1 F).1;rw[KF] at this;exact this
      rw[getElem?_pos str n.toNat N]
      have:=(List.getElem?_eq_some_iff.1 F).2;simp at this;rw[<-this];rfl
     simp[execOp,U,j.sc rfl,C.sc rfl,Instr.index,asIntOf,h1,hn,a6]
    .cases h
   .cases h
  .obtain⟨h1,h2⟩:=e8 (S:=S) (by unfold eI; rw[U]; exact l) (λm=>by rw[U] at m; simp only[execOp,U,m x (by simp[Op.operands]),m i (by simp[Op.operands])]) h;exact⟨v,h1,h2⟩
 .next c U =>
  rw[U] at l;have Q:∀x∈c.args,VR S (aA.at x) (a.eval x):=λx j=>l x (by simp[Op.operands,Call.operands,j]);have B:(∀x∈o.op.operands,a.eval x=aA.at x)->∀b,c.callee=.builtin b->execOp a.eval o=execOp aA.at o:=λm b F=>by rw[U] at m;have:c.args.map a.eval=c.args.map aA.at:=Array.map_congr_left λx j=>m x (by simp[Op.operands,Call.operands,j]);simp only[execOp,U,resolve,F,this]
  split at h
  .next x t h1 h2 h3 =>
   have j:=Q x (by simpa using(show x∈c.args.toList by rw[h2]; simp));have H:c.args.map a.eval=#[a.eval x]:=by apply uX.1; simp[h2]
   have L:c.argTypes=#[t]:=gq
   split at h
   .next X n Y e w D =>
    cases h;rw[w] at j;refine⟨_,VR.dx rfl,?_⟩;have:∃V A,a.eval x=.slice V n A:=by
     cases X with
     | none=>rw[j.sc rfl]; exact⟨_,_,rfl⟩
     | some X=>obtain⟨g,z,e,o',A,_,h2,_⟩:=j.kT; exact⟨_,_,h2⟩
    obtain⟨V,A,j⟩:=this;simp[execOp,U,resolve,h1,invoke,builtin,H,L,j,Builtin.len_,D]
   .next str w D =>cases h;rw[w] at j;refine⟨_,VR.dx rfl,?_⟩;simp[execOp,U,resolve,h1,invoke,builtin,H,L,j.sc rfl,Builtin.len_,D,iO]
   .cases h
  .rename_i x h1 h2
   have j:=Q x (by simpa using(show x∈c.args.toList by rw[h2]; simp));have H:c.args.map a.eval=#[a.eval x]:=by apply uX.1; simp[h2]
   split at h
   .next b r n Y w =>
    cases h;rw[w] at j;obtain⟨g,z,e,A,h3,s,I,h6,_⟩:=j.sl;refine⟨_,VR.gk h3,?_⟩;have:A≠0:=oq
    have hd:Builtin.unsafeSliceData_ c.argTypes o.type #[.slice (some ⟨g,r,none⟩) n A]=if A≠0 then pure (.pointer (some ⟨g,r,none⟩)) else (do if (<-viewAt g).isSome then pure (.pointer (some ⟨g,r,none⟩)) else pure (.pointer (some ⟨<-newObj (.view ⟨g,r,none⟩ (<-elemOf o.type)),0,none⟩))):=rfl;rw[if_pos this] at hd;simp[execOp,U,resolve,h1,invoke,builtin,H,s,hd]
   .obtain⟨h3,s⟩:=e8 (S:=S) (by unfold eI; rw[U]; exact l) (λm=>B m _ h1) h;exact⟨v,h3,s⟩
  .next x t h1 h2 h3 =>
   have j:=Q x (by simpa using(show x∈c.args.toList by rw[h2]; simp));have H:c.args.map a.eval=#[a.eval x]:=by apply uX.1; simp[h2]
   have L:c.argTypes=#[t]:=gq
   split at h
   .next b r n Y e w D =>cases h;rw[w] at j;obtain⟨g,z,Z,A,s,I,h6,h7,_⟩:=j.sl;exact⟨goInt A,⟨1,A,rfl,h7⟩,by simp[execOp,U,resolve,h1,invoke,builtin,H,L,I,Builtin.cap_,D]⟩
   .obtain⟨h3,s⟩:=e8 (S:=S) (by unfold eI; rw[U]; exact l) (λm=>B m _ h1) h;exact⟨v,h3,s⟩
  .next h1 =>obtain⟨h3,s⟩:=e8 (S:=S) (by unfold eI; rw[U]; exact l) (λm=>B m _ h1) h;exact⟨v,h3,s⟩
  .next h1 =>obtain⟨h3,s⟩:=e8 (S:=S) (by unfold eI; rw[U]; exact l) (λm=>B m _ h1) h;exact⟨v,h3,s⟩
  .next h1 =>obtain⟨h3,s⟩:=e8 (S:=S) (by unfold eI; rw[U]; exact l) (λm=>B m _ h1) h;exact⟨v,h3,s⟩
  .cases h
 .next op t x U =>rw[U] at l;obtain⟨h1,h2⟩:=e8 (S:=S) (by unfold eI; rw[U]; exact l) (λm=>by rw[U] at m; simp only[execOp,U,m x (by simp[Op.operands])]) h;exact⟨v,h1,h2⟩
 .cases h
theorem AR.set(h:AR (VR S) cs o9)(c:VR S x y)(i:Nat):AR (VR S) (cs.setIfInBounds i x) (o9.setIfInBounds i y):=by
 refine⟨by simp[h.1],λk u b a U=>?_⟩;rw[Array.getElem?_setIfInBounds] at a U;rw[<-h.1] at U;by_cases e:i=k
 .grind
 .rw[iw e] at a U;exact h.2 k u b a U
def PR (S:cb):List (Nat × Value)->List (Nat × Value)->Prop
 | [],[]=>True
 | (i,x)::l,(j,y)::m=>i=j/\VR S x y/\PR S l m
 | _,_=>False
theorem zM(off:Nat):∀(l U:Vq) (k:Nat) (cs a:Aq),l.length=U.length->(∀(i:Nat) (x y:Value),l[i]?=some x->U[i]?=some y->VR S x y)->AR (VR S) cs a ->
  AR (VR S) ((l.zipIdx k).foldl (λcs (x:Value × Nat)=>cs.setIfInBounds (off+x.2) x.1) cs) ((U.zipIdx k).foldl (λcs (x:Value × Nat)=>cs.setIfInBounds (off+x.2) x.1) a)
 | [],[],k,cs,a,_,_,h=>by simpa using h
 | x::l,y::U,k,cs,a,hl,hr,h=>by simp only[List.zipIdx_cons,List.foldl_cons];exact zM off l U (k+1) _ _ gq (λi x y b c=>hr (i+1) x y gq gq) (h.set (hr 0 x y rfl rfl) _)
 | [],_::_,_,_,_,hl,_,_=>by simp at hl
 | _::_,[],_,_,_,hl,_,_=>by simp at hl
theorem pL:∀(ps b:List (Nat × Value)) (cs a c:Aq),AR (VR S) cs a->PR S ps b->Instr.fill place cs ps=some c->∃d,Instr.fill place a b=some d/\AR (VR S) c d
 | [],[],cs,a,c,h,_,U=>by simp[Instr.fill] at U |-;subst U;exact h
 | (i,x)::ps,(j,y)::b,cs,a,c,h,⟨e,hx,hp⟩,U=>by
  subst e;unfold Instr.fill at U |-;split at U
  .cases U
  .next off size a0 =>
   have hc:=hx.cells;rw[<-hc.1,<-h.1];split at U
   .cases U
   .next f =>
    rw[iw f];refine pL ps b _ _ c ?_ hp U
    have:=zM off x.cells.toList y.cells.toList 0 cs a (by simp[hc.1]) (λi u k l g=>hc.2 i u k gq gq) h;rw[<-Array.foldl_toList,<-Array.foldl_toList,Array.toList_zipIdx,Array.toList_zipIdx];exact this
 | [],_::_,_,_,_,_,h,_=>h.elim
 | _::_,[],_,_,_,_,h,_=>h.elim
theorem rD:∀(ps:List (Nat × Operand)),(∀x∈ps.map (·.2),VR S (aA.at x) (a.eval x))->PR S (ps.map λ(i,x)=>(i,aA.at x)) (ps.map λ(i,x)=>(i,a.eval x))
 | [],_=>trivial
 | (i,x)::ps,h=>⟨rfl,h x iq,rD ps λy U=>h y gq⟩
theorem AR.mn{c:Aq}(h:c.toList.all dX=true):AR (VR S) c c:=by refine⟨rfl,λi x y a U=>?_⟩;rw[a] at U;cases U;rw[aT] at h;exact VR.dx (h x gq)
def Fo{c:Aq}(a:mF P t=true)(i:PR S ps UP)(h:P.built t ps=some c):∃g,P.built t UP=some g/\AR (VR S) c g:=by
 unfold Program.built at h |-;unfold mF at a;split at h
 .next j n e b f =>
  rw[b] at a;try simp only[b,f]
  split at h
  .next z k h1 h2 =>
   simp only[h1] at a;try simp only[h1,h2]
   exact pL _ _ _ _ c (AR.mn a) i h
  .cases h
 .next j d b f =>
  rw[b] at a;try simp only[b,f]
  split at h
  .next z l h1 h2 =>
   simp only[h1] at a;try simp only[h1,h2]
   exact pL _ _ _ _ c (AR.mn a) i h
  .cases h
 .cases h
theorem AA(f:eI S aA a o)(h:cj P aA o=some v):∃g,VR S v g/\∀w,(execOp a.eval o).run P w=.ok (.value g) w/\(execOp a.eval o).events P w #[]=#[]:=by
 by_cases j:∃t b,o.op=.build t b
 .obtain⟨t,b,U⟩:=j;unfold cj at h;rw[U] at h;simp only at h;split at h
  .cases h
  .next k =>
   have k:mF P t=true:=by simp_all
   split at h
   .next c l =>
    cases h;unfold eI at f;rw[U] at f;obtain⟨d,h1,h2⟩:=Fo k (by simpa using rD b.toList λx m=>f x (by simpa[Op.operands] using m)) l;have h1:P.built t (b.map λ(i,x)=>(i,a.eval x)).toList=some d:=by simp_all
    refine⟨_,VR.Ad h2,λw=>⟨?_,?_⟩⟩
    .simp[execOp,U,run_build w t _ d h1]
    .simp[execOp,U,run_build w t _ d h1,jq w t _ d h1]
   .cases h
 .obtain⟨g,h1,h2⟩:=xR f (λt b e=>j ⟨t,b,e⟩) h;exact⟨g,h1,λw=>kB h2 w #[]⟩
end
structure Cy{ι:Type}(P:Program)(KT:TypeId->Prop)(N0:ι->Nat)(M:ι->World->Nat->Prop)(O:ι->Nat->Prop)(R:ι->World->World->Prop)(D:ι->World->World->Array Event->Prop)(X:ι->Goroutine->World->Prop)(Hd:ι->List (Nat × Obj)->World->Prop):Prop where
 C:bW P true R D X
 T:∀i,Terms (R i) (D i)
 ne : ∀ g aS, jV P (.func g) = true -> P.funcs[g]? = some aS -> (aS.name == "runtime.NumGoroutine") = false /\ Extern.findNext aS = none /\ Extern.find aS = some Extern.AbiNoEscape.same
 Z:∀{i l w},Hd i l w->Co KT (N0 i) (M i) (O i) (R i) (D i) (Hd i)
variable {ι:Type}{fn:FuncId}{w:World}{s':AS}{fr:Hq}{ops:Array Oper}{j:Nat}{rest:List Nat}
variable {N0:ι->Nat}{M:ι->World->Nat->Prop}{O:ι->Nat->Prop}{R:ι->Wq}{D:ι->World->World->Array Event->Prop}{X:ι->Gq}{Hd:ι->Hq->World->Prop}
section
variable {Q:ei ι}{i:ι}
def Out (P:Program)(KT:TypeId->Prop)(An:cb)(Hd:ι->Hq->World->Prop)(S:cb)(s s':AS)(fr:Hq)(v:Value)(K:ι->Value->World->Prop):Prop :=
 ∀i' S' l' w' v',S.le S'->(∀b,b<s.nx\/s'.nx<=b->S' b=S b)->eT P KT An S' s' l'->Hd i' (l'++fr) w'->VR S' v v'->K i' v' w'
def ux(Y:Cy P KT N0 M O R D X Hd)(m:ops[j]?=some o)(n:Region.wanted o (yielded ops a.tmps)=true)(d:eI S aA a o)(g:eT P KT An S s l)(e:Hd i (l++fr) w)(h:cj P aA o=some v)
 (k:Out P KT An Hd S s s fr v λp c q=>ce X fn ops rest p Q (a.put o.dst c) q):ce X fn ops (j::rest) i Q a w:=by have⟨c,h1,h2⟩:=AA d h;refine cV Y.C Y.T m n λb K f=>?_;rw[(h2 b).1];exact f _ (k i S l w c (cb.le_refl S) (λ_ _=>rfl) g e h1) (h2 b).2
theorem eT.at(U:eT P KT An S s l)(f:s.get b=some ob)(h:S b=some (g,z,e)):∃k a,l[k]?=some (g,a)/\k<l.length/\(l++fr)[k]?=some (g,a)/\OR S z ob a/\∀c t d,ob=.cells c t d->bP P t=some e/\¬KT t:=by have⟨j,o,i,a,h1,h2,h3,m⟩:=U.live b ob f;rw[h] at h1;cases h1;have⟨k,n⟩:=List.mem_iff_getElem?.1 h2;grind
theorem EB(Y:Cy P KT N0 M O R D X Hd)(K:ops[j]?=some o)(L:Region.wanted o (yielded ops a.tmps)=true){x:Operand}(E:o.op=.load t x)(H:eI S aA a o)(y:eT P KT An S s l)(q:Hd i (l++fr) w)(h:aB P t (aA.at x) s=some v)
 (k:Out P KT An Hd S s s fr v λi' v' p=>ce X fn ops rest i' Q (a.put o.dst v') p):ce X fn ops (j::rest) i Q a w:=by
 unfold eI at H;rw[E] at H;have V:=H x (by simp[Op.operands]);unfold aB at h;split at h
 .next b f hp =>
  rw[hp] at V;have⟨g,z,e,h1,h2⟩:=V.ptr;split at h
  .next cs ty fz I =>
   have⟨F,o',hk,W,B,G,a7⟩:=y.at (fr:=fr) I h1;obtain⟨r,rfl,hz,⟨Bv,hex⟩,c⟩:=G;split at h
   .next d A =>
    split at h
    .next J =>
     split at h
     .next n T =>
      split at h
      .next a9 =>
       cases h;refine vm Y.C (Y.Z q) F (cs:=(r.toList.drop f).take n) K L E h2 A J (by unfold bP at T;rw[T];simp;omega) q B ?_ λp U=>k i S l p _ (cb.le_refl S) (λ_ _=>rfl) y U (VR.Ad ?_)
       .grind
       .refine⟨by simp;omega,λm u u' A aa=>?_⟩;grind
      .cases h
     .cases h
    .next J =>
     have N:f<r.size:=gq
     refine mi Y.C (Y.Z q) F K L E h2 A gq q B (gF N) λp U=>k i S l p _ (cb.le_refl S) (λ_ _=>rfl) y U (c f v _ h (gF N))
   .cases h
  .next ty cs q1 q2 q3 q4 I =>
   have⟨F,o',hk,W,B,G,a7⟩:=y.at (fr:=fr) I h1;cases G;split at h
   .next d A =>
    split at h
    .cases h
    .next J =>
     split at h
     .next v0 a8 =>
      split at h
      .next a6 =>cases h;exact mi Y.C (Y.Z q) F K L E h2 A gq q B a8 λp U=>k i S l p _ (cb.le_refl S) (λ_ _=>rfl) y U (VR.dx a6)
      .cases h
     .cases h
   .cases h
  .cases h
 .cases h
theorem eT.uQ(U:eT P KT An S s l){k:Nat}(o:s.get b=some ob)(p:S b=some (g,z,e))(q:l[k]?=some (g,o'))(F:(l.map Prod.fst).Nodup)(w:OR S z OI OH)(y:∀A t B,OI=.cells A t B->bP P t=some e/\¬KT t):eT P KT An S (s.set b (some OI)) (l.set k (g,OH)) where
 live b' o1 h1:=by
  rw[AS.bn] at h1
  have u:=(gS.1 q).1
  split at h1
  .
   next a =>
   subst a
   cases h1
   exact⟨g,z,e,OH,p,List.mem_iff_getElem?.2 ⟨k,by simp[u]⟩,w,y⟩
  .
   next v =>
   have⟨C,E,a,c,h2,h3,d,i⟩:=U.live b' o1 h1
   refine⟨C,E,a,c,h2,?_,d,i⟩
   have⟨m,j⟩:=List.mem_iff_getElem?.1 h3
   refine List.mem_iff_getElem?.2 ⟨m,?_⟩
   rw[List.getElem?_set]
   split
   .
    next r =>
    subst r
    rw[q] at j
    cases j
    exact absurd (U.inj b' b o1 ob _ _ h1 o h2 p rfl) v
   .
    exact j
 inj k k' o1 o2 x x' h1 h2 hx vV he:=by
  rw[AS.bn] at h1 h2
  have f:∀{m:Nat} {c:Obj},(if m=b then some OI else s.get m)=some c->∃n,s.get m=some n:=λ{m c} h=>by grind
  have⟨n,d⟩:=f h1
  have⟨D,i⟩:=f h2
  exact U.inj k k' n D x x' d i hx vV he
 lt k o1 h1:=by
  rw[AS.bn] at h1
  split at h1
  .
   next a=>subst a;exact U.lt _ _ o
  .
   exact U.lt k o1 h1
 an:=U.an
theorem Cy.xC(Y:Cy P KT N0 M O R D X Hd)(U:Hd i (l++fr) w):(l.map Prod.fst).Nodup:=by have:=(Y.Z U).nodup U;grind
theorem wo{xs ys:Vq}(h:o9.size=z)(d:cs.size<=z)(c:∀(i:Nat) (x y:Value),cs[i]?=some x->o9[i]?=some y->VR S x y)(f:xs.length=ys.length)(g:∀(i:Nat) (x y:Value),xs[i]?=some x->ys[i]?=some y->VR S x y)(e:off+xs.length<=cs.size) :
  (putAt o9 off ys).size=z/\(putAt cs off xs).size<=z/\∀(i:Nat) (x y:Value),(putAt cs off xs)[i]?=some x->(putAt o9 off ys)[i]?=some y->VR S x y:=by
 refine⟨by simp[putAt];omega,by simp[putAt];omega,λm x y U a=>?_⟩;simp only[putAt,IE,u6] at U a;rw[List.getElem?_append] at U a;have e1:(cs.toList.take off).length=off:=by simp;omega
 have b:(o9.toList.take off).length=off:=by simp;omega
 rw[e1] at U;rw[b] at a;split at U
 .grind
 .grind
theorem JN(Y:Cy P KT N0 M O R D X Hd)(ho:ops[j]?=some o)(hw:Region.wanted o (yielded ops a.tmps)=true){x y:Operand}(H:o.op=.store t x y)(p:eI S aA a o)(K:eT P KT An S s l)(r:Hd i (l++fr) w)(h:jr P t (aA.at x) (aA.at y) s=some s')
 (k:Out P KT An Hd S s s' fr undef λi' v' F=>ce X fn ops rest i' Q (a.put o.dst v') F):ce X fn ops (j::rest) i Q a w:=by
 unfold eI at p;rw[H] at p;have T:=p x (by simp[Op.operands]);have hy:=p y (by simp[Op.operands]);unfold jr at h;split at h
 .next b off hp =>
  rw[hp] at T;have⟨g,z,e,h1,h2⟩:=T.ptr;split at h
  .next cs V J L =>
   have⟨kk,o',hk,a5,W,a6,I⟩:=K.at (fr:=fr) L h1;obtain⟨q,rfl,hz,⟨B,v⟩,d⟩:=a6;split at h
   .next hc =>
    have⟨G,a7,a8⟩:=hc;cases h;have c:=hy.cells;have n:∀u∈(a.eval y).cells.toList,u.oneCell'=true:=by
     intro u N;have⟨m,hm⟩:=List.mem_iff_getElem?.1 N;have E:m<(aA.at y).cells.size:=by rw[c.1];have:=(gS.1 hm).1;simpa using this
     have:=c.2 m _ u (gF E) gq;rw[this.Ey];grind
    have U:=wo (S:=S) (xs:=(aA.at y).cells.toList) (ys:=(a.eval y).cells.toList) (off:=off) hz B d (by simp[c.1]) (λm u u' N hu'=>c.2 m u u' gq gq) gq;refine sk Y.C (Y.Z r) (cs:=(a.eval y).cells.toList) (cur':=putAt q off (a.eval y).cells.toList) kk ho hw H h2 iq ?_ n (I cs V J rfl).2 r W ?_ rfl λF f=>?_
    .unfold bP at G;rw[G];simp[c.1]
    .simp;rw[<-c.1];omega
    rw[List.set_append_left _ _ a5] at f;refine k i S _ F undef (cb.le_refl S) (λ_ _=>rfl) (K.uQ L h1 hk (Y.xC r) ⟨_,rfl,U.1,⟨U.2.1,λA=>by have:=v A;simp[putAt];omega⟩,U.2.2⟩ λcs1 t1 fz1 he=>?_) f VR.undef;cases he;exact I cs V J rfl
   .cases h
  .cases h
 .cases h
end
section
def vU(off:Nat):∀(l:List (Value × Nat)) (cs:Aq),(l.foldl (λcs (x:Value × Nat)=>cs.setIfInBounds (off+x.2) x.1) cs).size=cs.size
 | [],cs=>rfl
 | x::l,cs=>by simp only[List.foldl_cons];rw[vU off l];simp
def vS:∀(ps:List (Nat × Value)) (cs c:Aq),Instr.fill place cs ps=some c->c.size=cs.size
 | [],cs,c,h=>by simp[Instr.fill] at h;rw[h]
 | (i,x)::ps,cs,c,h=>by
  unfold Instr.fill at h;split at h
  .cases h
  .split at h
   .cases h
   .rw[vS ps _ c h,<-Array.foldl_toList];exact vU _ _ _
theorem C8{e:TypeId}{c:Aq}(U:mF P e=true)(l:PR S ps UP)(h:sliced P e len ps=some c):∃a g,sliced P e len UP=some a/\AR (VR S) c a/\bP P e=some g/\c.size=len*g:=by
 unfold sliced at h |-;unfold mF at U;split at h
 .next f b =>
  simp only[b] at U;split at h
  .next z j =>
   simp only[j] at U;split at h
   .cases h
   .next n =>
    have i:((Array.range (len*f.size)).map (z.cells[· % z.cells.size]!)).toList.all dX=true:=by
     rw[aT];intro x d;simp only[Array.toList_map,List.mem_map] at d;obtain⟨m,_,rfl⟩:=d;rw[aT] at U;by_cases k:m % z.cells.size<z.cells.size
     .grind
     .rw[getElem!_neg z.cells _ k];rfl
    have⟨a,h1,h2⟩:=pL ps UP _ _ c (AR.mn i) l h;refine⟨a,f.size,?_,h2,by simp[bP,b],?_⟩
    .grind
    .rw[vS _ _ _ h];simp
  .cases h
 .cases h
end
section
variable {Q:ei ι}{i:ι}{kt:TypeId->Bool}
def Ap(C:bW P true R D X)(Z:Co KT (N0 i) (M i) (O i) (R i) (D i) (Hd i)){x:Operand}{str:ByteArray}(u:ops[j]?=some o)(z:Region.wanted o (yielded ops a.tmps)=true)(f:o.op=.range t x)(m:P.underlying t=some .string)(n:a.eval x=.string str)(v:¬KT (1000+str.size))
 (q:Hd i l w)(h:∀b p,Hd i ((b,.stringIter str 0)::l) p->ce X fn ops rest i Q (a.put o.dst (.pointer (sq b))) p):ce X fn ops (j::rest) i Q a w:=by
 refine aG C u z λc s K r=>?_;have d:=Z.rely q s;have k:Own KT (M i) c (c.alloc (.stringIter str 0)):=Own.Hx v;have y:(execOp a.eval o).run P c=.ok (.value (.pointer (sq c.heap.size))) (c.alloc (.stringIter str 0)):=by simp[execOp,f,n,GM m]
 have g:(execOp a.eval o).events P c #[]=#[]:=by simp[execOp,f,n,xi m]
 rw[y];refine r _ _ ⟨?_,h _ _ (Z.grown d k)⟩;rw[listed_nil g];exact Z.env.jb (Z.size d) k (λe g=>by simp at g)
def pe{fz:Nat × Nat}(h:AR (VR S) cs o9):OR S o9.size (.cells cs t fz) (.cells o9 t):=⟨o9,rfl,rfl,⟨by rw[h.1];exact lr,λ_=>h.1⟩,h.2⟩
theorem CQ(C:bW P true R D X)(Z:Co KT (N0 i) (M i) (O i) (R i) (D i) (Hd i)){e:TypeId}{x y:Operand}{U:TypeInfo}{z:Value}(W:ops[j]?=some o)(hw:Region.wanted o (yielded ops a.tmps)=true)(s:o.op=.makeSlice t x y)(g:P.underlying t=some (.slice e))(hi:P.info? e=some U)(B:U.zero=some z)(v:a.eval x=.int .i64 (n:Int))(A:a.eval y=.int .i64 (n:Int))(a6:0<n)(V:n<=1000000000)(N:U.bytes<=1000)(q:¬KT e)
 (I:Hd i l w)(h:∀b F,Hd i ((b,.cells (madeCells z.cells (n*U.size)) e)::l) F->ce X fn ops rest i Q (a.put o.dst (.slice (sq b) n n)) F):ce X fn ops (j::rest) i Q a w:=by
 refine aG C W hw λc L K J=>?_;have d:=Z.rely I L;have u:Own KT (M i) c (c.alloc (.cells (madeCells z.cells (n*U.size)) e)):=Own.alloc q;have S:U.bytes*n<=1000*1000000000:=Nat.mul_le_mul N V;have T:(U.bytes:Int)*(n:Int)<=281474976710656:=gq
 have p:IntKind.i64.wrap (n:Int)=n:=by rw[IntKind.wrap_i64];omega
 have k:¬(n:Int)<0:=oq
 have m:¬(281474976710656<(U.bytes:Int)*(n:Int)):=oq
 have E:¬(n*U.bytes>140737488355328):=gq
 have r:(Instr.makeSlice t (.int .i64 (n:Int)) (.int .i64 (n:Int))).run P c=.ok (.slice (sq c.heap.size) n n) (c.alloc (.cells (madeCells z.cells (n*U.size)) e)):=by
  by_cases f:n*U.size=0
  .simp[Instr.makeSlice,run_underlying g,asInt,asIntOf,typeInfo,hi,sizeOf,p,k,m,f,newRow,madeCells,Array.range_zero']
  .simp[Instr.makeSlice,run_underlying g,asInt,asIntOf,typeInfo,hi,sizeOf,zeroValue,B,p,k,m,f,newRow,madeCells]
 have H:(Instr.makeSlice t (.int .i64 (n:Int)) (.int .i64 (n:Int))).events P c #[]=#[]:=by
  by_cases f:n*U.size=0
  .simp[Instr.makeSlice,underlying,g,asInt,asIntOf,typeInfo,hi,sizeOf,p,k,m,f,newRow,askRoom,roomBytes,E]
  .simp[Instr.makeSlice,underlying,g,asInt,asIntOf,typeInfo,hi,sizeOf,zeroValue,B,p,k,m,newRow,askRoom,roomBytes,E]
 have Y:(execOp a.eval o).run P c=.ok (.value (.slice (sq c.heap.size) n n)) (c.alloc (.cells (madeCells z.cells (n*U.size)) e)):=by unfold execOp;simp only[s,v,A,Sem.run_bind,r,Result.andThen_ok,Sem.run_pure]
 have G:(execOp a.eval o).events P c #[]=#[]:=by unfold execOp;simp only[s,v,A,Sem.events_bind,r,H,Result.evThen_ok,Sem.events_pure]
 rw[Y];refine J _ _ ⟨?_,h _ _ (Z.grown d u)⟩;rw[listed_nil G];exact Z.env.jb (Z.size d) u (λe q=>by simp at q)
theorem Ms{z:Aq}(h:z.toList.all dX=true)(n:Nat):(madeCells z n).toList.all dX=true:=by
 rw[aT];intro x U;simp only[madeCells,Array.toList_map,List.mem_map] at U;obtain⟨m,_,rfl⟩:=U;rw[aT] at h;by_cases a:m % z.size<z.size
 .grind
 .rw[getElem!_neg z _ a];rfl
theorem JJ(Y:Cy P KT N0 M O R D X Hd)(u:∀t,kt t=false->¬KT t)(J:ops[j]?=some o)(N:Region.wanted o (yielded ops a.tmps)=true)(q:eI S aA a o)(r:Hd i l w){mk:Nq}(h:tO P kt aA o=some (ob,mk))
 (k:∀g z e o' d v',Hd i ((g,o')::l) d->(∀f G,S.le f->f G=some (g,z,e)->OR f z ob o'/\VR f (mk G) v')->(∀H t fz,ob=.cells H t fz->bP P t=some e/\¬KT t)->ce X fn ops rest i Q (a.put o.dst v') d):ce X fn ops (j::rest) i Q a w:=by
 unfold eI at q;unfold tO at h;split at h
 .next t U =>
  split at h
  .cases h
  .next E =>
   simp only[not_or,Bool.not_eq_false,Bool.not_eq_true] at E;obtain⟨hz,B,K⟩:=E;split at h
   .next z W =>
    cases h;obtain⟨e,he⟩:=Option.ne_none_iff_exists'.1 K;have F:z.cells.toList.all dX=true:=by
     unfold mF at hz;cases a3:P.info? t with
     | none=>simp[a3] at W
     | some it =>grind
    have a7:∀w,(zeroValue t).run P w=.ok z w:=by
     intro w;have:gn P (zeroValue t)=some z:=by
      unfold zeroValue;simp only[dA,pH];cases a3:P.info? t with
      | none=>simp[a3] at W
      | some it =>
       have:it.zero=some z:=by simp_all
       simp[this]
     exact(kB this w #[]).1
    refine Am Y.C (Y.Z r) J N U a7 rfl (u t B) r λg d s=>k g z.cells.size e _ d _ s (λf G I v=>⟨pe (AR.mn F),VR.gk v⟩) λH t' fz b=>?_;cases b;exact⟨he,u _ B⟩
   .cases h
 .next t x U =>
  split at h
  .cases h
  .next E =>simp only[not_or,Bool.not_eq_true] at E;obtain⟨B,K⟩:=E;cases h;obtain⟨e,he⟩:=Option.ne_none_iff_exists'.1 K;rw[U] at q;have A:=(q x (by simp[Op.operands])).cells;refine Gt Y.C (Y.Z r) J N U rfl (u t B) r λg d s=>k g (a.eval x).cells.size e _ d _ s (λf G I v=>⟨pe (A.mono I),VR.gk v⟩) λH t' fz b=>?_;cases b;exact⟨he,u _ B⟩
 .next t len p U =>
  split at h
  .next e L =>
   split at h
   .cases h
   .next E =>
    simp only[not_or,Bool.not_eq_false,Bool.not_eq_true,Nat.not_lt] at E;obtain⟨hz,B,hl⟩:=E;split at h
    .next c b =>
     cases h;rw[U] at q;obtain⟨c',V,h1,h2,h3,h4⟩:=C8 hz (by simpa using rD (S:=S) (aA:=aA) (a:=a) p.toList λx A=>q x (by simpa[Op.operands] using A)) b;have h1:sliced P e len (p.map λ(i,x)=>(i,a.eval x)).toList=some c':=by simp_all
     refine rC Y.C (Y.Z r) J N U L (u e B) h1 r λg d s=>k g c'.size V _ d _ s (λf G I v=>⟨pe (h2.mono I),VR.Af v (jl _) (jl _) (by simp[maxLen]; omega) (by rw[<-h2.1,h4]; omega)⟩) λH t' fz b=>?_;cases b;exact⟨h3,u _ B⟩
    .cases h
  .cases h
 .next t x U =>
  rw[U] at q;have A:=q x (by simp[Op.operands]);split at h
  .next str L K =>
   split at h
   .cases h
   next hq =>cases h;rw[K] at A;exact Ap Y.C (Y.Z r) J N U L (A.sc rfl) (u _ (by simp_all)) r λg d s=>k g 0 0 _ d _ s (λf G I v=>⟨rfl,VR.gk v⟩) λH t' fz b=>by cases b
  .cases h
 .next t x y U =>
  rw[U] at q;have A:=q x (by simp[Op.operands]);have hy:=q y (by simp[Op.operands]);split at h
  .next e n m L h1 h2 =>
   rw[h1] at A;rw[h2] at hy;split at h
   .next z V bytes W =>
    split at h
    .next b =>
     obtain⟨rfl,c2,c3,c4,c5,c6⟩:=b;cases h;obtain⟨it,a4,q1,q2,q3⟩:=info_parts W;have F:z.cells.toList.all dX=true:=by unfold mF at c4;simpa[a4,q1] using c4
     have a6:n=((n.toNat:Nat):Int):=oq
     have a5:=A.sc rfl;have T:=hy.sc rfl;rw[a6] at a5 T;refine CQ Y.C (Y.Z r) J N U L a4 q1 a5 T oq oq oq (u e c5) r λg d s=>k g (n.toNat*V) V _ d _ s (λf G I v=>⟨?_,VR.Af v (jl _) (jl _) (by simp[maxLen]; omega) oq⟩) λH t' fz b=>?_
     .rw[q2]
      have:=pe (S:=f) (t:=e) (fz:=(0,0)) (AR.mn (S:=f) (Ms F (n.toNat*V)));rw[size_madeCells] at this;exact this
     .cases b;exact⟨by simp[bP,a4,q2],u _ c5⟩
    .cases h
   .cases h
  .cases h
 .cases h
theorem Cy.fresh(Y:Cy P KT N0 M O R D X Hd)(U:Hd i ((g,o')::l++fr) w):∀o,(g,o)∉l:=by
 intro b a
 have:=(Y.Z U).nodup U;grind
theorem MS(Y:Cy P KT N0 M O R D X Hd)(ho:ops[j]?=some o)(hw:Region.wanted o (yielded ops a.tmps)=true){x:Operand}(ko:o.op=.next x true)(hA:eI S aA a o)(hS:eT P KT An S s l)(hF:Hd i (l++fr) w){str:ByteArray}(hx:aA.at x=.pointer (sq b))(hb:s.get b=some (.stringIter str pos))(hq:pos<str.size->¬KT (1000+str.size))
 (k1:pos<str.size->Out P KT An Hd S s (s.set b (some (.stringIter str (pos+(Utf8.decode str pos).2)))) fr (.tuple #[.bool true,goInt pos,.int .i32 (Utf8.decode str pos).1]) λi' v' w'=>ce X fn ops rest i' Q (a.put o.dst v') w')
 (k0:¬pos<str.size->Out P KT An Hd S s s fr (.tuple #[.bool false]) λi' v' w'=>ce X fn ops rest i' Q (a.put o.dst v') w'):ce X fn ops (j::rest) i Q a w:=by
 unfold eI at hA;rw[ko] at hA;have vV:=hA x (by simp[Op.operands]);rw[hx] at vV;have⟨g,z,e,h1,h2⟩:=vV.ptr;have⟨kk,o',hk,kF,Qg,Lb,TX⟩:=hS.at (fr:=fr) hb h1;cases Lb;have Z:=Y.Z hF;refine aG Y.C ho hw λaE hR K hK=>?_;have zR:=Z.rely hF hR;have⟨hm,hg⟩:=Z.own zR (mG Qg);by_cases hp:pos<str.size
 .have hO:Own KT (M i) aE { aE with heap:=aE.heap.setIfInBounds g (.stringIter str (pos+(Utf8.decode str pos).2)) }:=Own.setObj (hq hp) hm;have hr:(execOp a.eval o).run P aE=.ok (.value (.tuple #[.bool true,.int .i64 pos,.int .i32 (Utf8.decode str pos).1])) { aE with heap:=aE.heap.setIfInBounds g (.stringIter str (pos+(Utf8.decode str pos).2)) }:=by simp[execOp,ko,h2,J9 hg hp]
  have he:(execOp a.eval o).events P aE #[]=#[⟨.obj g,false,false⟩,⟨.obj g,true,false⟩]:=by simp[execOp,ko,h2,zB hg hp]
  rw[hr];have On:=Z.yd zR kk Qg hO (o':=.stringIter str (pos+(Utf8.decode str pos).2)) gq (λq hq=>by simp[Ne.symm hq]);rw[List.set_append_left _ _ kF] at On;refine hK _ _ ⟨?_,k1 hp i S _ _ _ (cb.le_refl S) (λ_ _=>rfl) (hS.uQ hb h1 hk (Y.xC hF) rfl λcs t fz hc=>by cases hc) On (VR.uu (AR.mn rfl))⟩;refine Z.env.jb (Z.size zR) hO λev hl=>?_;have hl:=mem_listed hl;rw[he] at hl;simp at hl;rcases hl with rfl|rfl
  iterate 2
   .exact .inr (.inl ⟨g,_,rfl,Z.env.mine hO hm⟩)
 .have hr:(execOp a.eval o).run P aE=.ok (.value (.tuple #[.bool false])) aE:=by simp[execOp,ko,h2,xT hg hp]
  have he:(execOp a.eval o).events P aE #[]=#[⟨.obj g,false,false⟩]:=by simp[execOp,ko,h2,sy hg hp]
  rw[hr];refine hK _ _ ⟨?_,k0 hp i S l aE _ (cb.le_refl S) (λ_ _=>rfl) hS zR (VR.uu (AR.mn rfl))⟩;refine Z.env.jb (Z.size zR) (Own.refl _) λev hl=>?_;have hl:=mem_listed hl;rw[he] at hl;simp at hl;subst hl;exact .inr (.inl ⟨g,_,rfl,hm⟩)
end
end Go.Proofs.YtgcaionclkbehaaGreatDoor
