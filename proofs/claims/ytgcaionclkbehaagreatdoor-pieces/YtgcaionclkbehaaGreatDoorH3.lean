import Derived.Test.YtgcaionclkbehaaGreatDoorW0
import Derived.Test.YtgcaionclkbehaaGreatDoorW1
import Derived.Test.YtgcaionclkbehaaGreatDoorW2
set_option linter.all false
set_option maxHeartbeats 2000000
set_option maxRecDepth 100000
namespace Go.Proofs.YtgcaionclkbehaaGreatDoor
section
open Go.Conc Go.RowKit Go.Lib Tryz
variable {v:Value}{pr:Prim}
variable {b k n r0 rn z1:Nat}{pv x:Value}{cs:Aq}{t:TypeId}{fz:Nat × Nat}{c:Code}{rN:Prim}{a0 aA:TL}{ps:List ByteArray}
def rM (n:Nat):Value->Bool
 | .pointer (some ⟨b,_,none⟩)=>Nat.blt b n
 | .slice (some ⟨b,_,none⟩) _ _=>Nat.blt b n
 | v=>eW v
def Uh (n:Nat):Value->Bool
 | .func _ x y=>x.toList.all (rM n)&&y.toList.all (rM n)
 | v=>rM n v
theorem AG{a:Nat}(h:Nat.blt a b=true):a<b:=by simp_all
def VR.qE{S S':eN}(a:rM n x=true)(h:∀b,b<n->S b=S' b)(c:VR S x v):VR S' x v:=by
 unfold rM at a;split at a
 .obtain⟨g,z,e,h1,rfl⟩:=c.ptr;exact dj<|(h _<|AG a).symm.trans h1
 .have⟨d,c⟩:=c;cases d with
  | zero=>exact c.elim
  | succ d =>obtain⟨g,z,e,f,h1,h2⟩:=c;exact⟨1,g,z,e,f,(h _<|AG a).symm.trans h1,h2⟩
 .rw[c.sc a];exact bD a
theorem OR.qE{S S':eN}{z:Nat}{o':Obj}(a:cs.toList.all (rM n)=true)(h:∀b,b<n->S b=S' b)(c:OR S z (.cells cs t fz) o'):OR S' z (.cells cs t fz) o':=by rw[aT] at a;have⟨U,f,g,j,k⟩:=c;exact⟨U,f,g,j,λi x y d e=>(k i x y d e).qE (a x gq) h⟩
def VD.qE{S S':eN}{d:Nat}(a:rM n x=true)(h:∀b,b<n->S b=S' b)(c:VD S d x v):VD S' d x v:=by
 cases d with
 | zero=>exact c.elim
 | succ d =>
  unfold rM at a;split at a
  .have⟨g,z,e,h1,h2⟩:=c;exact⟨g,z,e,(h _<|AG a).symm.trans h1,h2⟩
  .have⟨g,z,e,f,h1,h2⟩:=c;exact⟨g,z,e,f,(h _<|AG a).symm.trans h1,h2⟩
  .have:=bD (S:=S') a;have e:=VR.sc a ⟨d+1,c⟩;subst e;have⟨j,i⟩:=this;unfold VD;split<;>first|exact⟨a,rfl⟩|(simp[eW] at a)
theorem VR.Sl{S S':eN}(U:Uh n x=true)(h:∀b,b<n->S b=S' b)(c:VR S x v):VR S' x v:=by
 unfold Uh at U;split at U
 .have⟨d,c⟩:=c;cases d with
  | zero=>exact c.elim
  | succ d =>
   have⟨g,j,h1,h2,h3⟩:=c;rw[nU,aT,aT] at U;refine⟨d+1,g,j,h1,⟨h2.1,λi a b e f=>(h2.2 i a b e f).qE (U.1 a ?_) h⟩,⟨h3.1,λi a b e f=>(h3.2 i a b e f).qE (U.2 a ?_) h⟩⟩
   .grind
   .grind
 .exact c.qE U h
def AS.Km(s:AS):Bool:=(List.range s.nx).all λb=>match s.get b with
 | some (.cells cs _ _)=>cs.toList.all<|rM s.nx
 | _=>true
variable {ι:Type}{P:Program}{KT:TypeId->Prop}{An:eN}{kt:TypeId->Bool}{s:AS}
section
variable {N0:ι->Nat}{M:ι->World->Nat->Prop}{O:ι->Nat->Prop}{R:ι->Wq}{D:ι->World->World->Array Event->Prop}{X:ι->Gq}{Hd:ι->Hq->World->Prop}{f:FuncId}{args:Aq}
theorem yk(Y:Cy P KT N0 M O R D X Hd){c:Nat}{s0 s1:AS}(a5:∀b,k<=b->An b=none)(hk:k<=s.nx)(a3:cs.toList.all (rM s.nx)=true)(a9:∀b,s0.get b=if b=c then some (.cells cs t fz) else none)(a7:s0.nx=s.nx)(aa:s1.get c=some (.cells cs t fz))(I:s.get c=some (.cells cs t fz))(ha:args.toList.all (rM s.nx)=true)(hv:eW v=true)(h:Sound P KT An R D X Hd f args s0 v s1):Sound P KT An R D X Hd f args s v s:=by
 intro S l u i w n d hF hA ab;rw[aT] at ha;have⟨g,z,e,m,J,q2,q3,q4⟩:=d.live c _ I;have C:=d.lt c _ I;let T:eN:=λb=>if b<s.nx then S b else none;have A:∀b,b<s.nx->S b=T b:=λb U=>by show S b=if b<s.nx then S b else none;rw[ip U]
 have⟨q,r,hl⟩:=List.append_of_mem q2;have E:(q++(g,m)::r).Perm ([(g,m)]++(q++r)):=List.perm_middle;have L:Hd i ([(g,m)]++((q++r)++u)) w:=(Y.Z hF).perm hF (by
  rw[hl,<-vt];exact(E.append_right u).symm);have H:∀b o,s0.get b=some o->b=c/\o=.cells cs t fz:=λb o U=>by
  rw[a9] at U;split at U
  .next e=>cases U;exact⟨e,rfl⟩
  .cases U
 have a4:gz P KT An T s0 [(g,m)]:=by
  refine⟨λb o U=>?_,λb b' o m x x' U Q _ _ _=>by rw[(H b o U).1,(H b' m Q).1],λb o U=>by rw[(H b o U).1,a7];exact C,λb x F=>?_⟩
  .obtain⟨rfl,rfl⟩:=H b o U;exact⟨g,z,e,m,(A _ C).symm.trans J,by simp,q3.qE a3 A,q4⟩
  .by_cases U:b<s.nx
   .rw[<-A b U];exact d.an b x F
   .rw[a5 b oq] at F;cases F
 refine(h T [(g,m)] ((q++r)++u) i w n a4 L ⟨hA.1,λj x y F hy=>(hA.2 j x y F hy).qE (ha x gq) A⟩ λb U _=>?_).mono ?_
 .show(if b<s.nx then S b else none)=none;rw[iw oq]
 .rintro i' v' w' ⟨S',l',r1,r2,r3,r4,r5⟩;have⟨g2,z2,e2,G,p1,p2,p3,p4⟩:=r3.live c _ aa;have he:(g2,z2,e2)=(g,z,e):=gq
  cases he;have⟨V,W,a6⟩:=List.append_of_mem p2;have p:(V++(g,G)::W).Perm ((V++W)++[(g,G)]):=List.perm_middle.trans (List.perm_append_singleton _ _).symm;have N:Hd i' ((V++W)++(([(g,G)]++(q++r))++u)) w':=(Y.Z r4).perm r4 (by
   rw[a6]
   have:=(p.append_right<|(q++r)++u).symm;simpa[vt] using this);refine⟨S,[(g,G)]++(q++r),aQ S,λ_ _=>rfl,⟨λb o U=>?_,d.inj,d.lt,d.an⟩,nw Y N,?_⟩
  .have⟨gb,zb,eb,ob,K,a,u3,u4⟩:=d.live b o U;by_cases B:b=c
   .subst B;rw[I] at U;cases U;rw[J] at K;cases K;exact⟨g,z,e,G,J,by simp,p3.qE a3 λb U=>by rw[A b U];exact r2 b<|.inl oq,u4⟩
   .rw[hl] at a;have a8:gb≠g:=λe'=>B<|d.inj b c o _ _ _ U I K J e';refine⟨gb,zb,eb,ob,K,?_,u3,u4⟩;rcases List.mem_append.1 a with a|a
    .simp[a]
    .rcases oc.1 a with a|a
     .cases a;exact absurd rfl a8
     .simp[a]
  .rw[r5.sc hv];exact bD hv
theorem EK{s':AS}(a6:∀b,s.nx<=b->An b=none)(N:s.Km=true)(M:args.toList.all (Uh s.nx)=true)(a9:s.nx<=s'.nx)
 (h:∀S l E i w c,(∀b,s.nx<=b->S b=none)->gz P KT An S s l->Hd i (l++E) w->AR (VR S) args c ->
   lP P R D X f c i w λO Q V=>∃d F,S.le d/\(∀b,b<s.nx\/s'.nx<=b->d b=S b)/\gz P KT An d s' F/\Hd O (F++E) V/\VR d v Q):Sound P KT An R D X Hd f args s v s':=by
 intro S l E i w c p hF L a8;rw[aT] at M;let T:eN:=λb=>if b<s.nx then S b else none;have r:∀b,b<s.nx->S b=T b:=λb a=>by show S b=if b<s.nx then S b else none;rw[ip a]
 have Z:∀b,s.nx<=b->T b=none:=λb a=>by show(if b<s.nx then S b else none)=none;rw[iw oq]
 unfold AS.Km at N;have W:gz P KT An T s l:=by
  refine⟨λb o a=>?_,λb A o n x K a k m q=>?_,p.lt,λb x m=>?_⟩
  .have⟨g,z,e,n,H,I,G,J⟩:=p.live b o a;refine⟨g,z,e,n,(r _<|p.lt b o a).symm.trans H,I,?_,J⟩
   have:=fP N<|p.lt b o a;rw[a] at this;cases o with
   | cells cs t fz=>exact G.qE this r
   | _=>exact G
  .exact p.inj b A o n x K a k ((r _<|p.lt b o a).trans m)<|(r _<|p.lt A n k).trans q
  .by_cases a:b<s.nx
   .rw[<-r b a];exact p.an b x m
   .grind
 refine(h T l E i w c Z W hF ⟨L.1,λj x y m hy=>(L.2 j x y m hy).Sl (M x gq) r⟩).mono ?_;rintro O Q V ⟨d,F,r1,r2,u,r4,r5⟩;let U:eN:=λb=>if b<s'.nx then d b else S b;have B:∀b,b<s'.nx->U b=d b:=λb a=>by show(if b<s'.nx then d b else S b)=d b;rw[ip a]
 have a7:∀b,¬b<s'.nx->U b=S b:=λb a=>by show(if b<s'.nx then d b else S b)=S b;rw[iw a]
 have C:d.le U:=λb x m=>by grind
 have Y:∀b,b<s.nx\/s'.nx<=b->U b=S b:=λb a=>by grind
 refine⟨U,F,λb x m=>?_,Y,⟨λb o a=>?_,λb A o n x K a k m q=>?_,u.lt,cQ u.an C⟩,r4,r5.mono C⟩
 .grind
 .have⟨g,z,e,n,H,I,G,J⟩:=u.live b o a;exact⟨g,z,e,n,C _ _ H,I,G.mono C,J⟩
 .exact u.inj b A o n x K a k ((B _<|u.lt b o a).symm.trans m)<|(B _<|u.lt A n k).symm.trans q
def nH(f:FuncId)(c:Aq->AS->Option Value)(b:Aq->AS->Option (Value × AS))(pr:Prim):Prim:=λg=>if g.beq f then some λa s=>match c a s with
 | some v=>some (v,s)
 | none=>b a s
 else pr g
theorem cR.forget(Y:Cy P KT N0 M O R D X Hd)(hm:P.follows .mixedOrders=true)(FH:∀ t,kt t=false->¬ KT t)(Jy:∀ (f:FuncId) (bL:Func),P.funcs[f]?=some bL->(bL.name == "runtime.NumGoroutine")=false){m:Nat}(OY:∀ b,k<=b->An b=none)(hp:cR P KT An R D X Hd pr){ok:Array Value->AS->Option Value}
 (uX:∀args s v,ok args s=some v->eW v=true/\k<=s.nx/\args.toList.all (rM s.nx)=true/\∃c cs t fz,s.get c=some (.cells cs t fz)/\cs.toList.all (rM s.nx)=true/\∀s0:AS,s0.nx=s.nx->s0.get c=some (.cells cs t fz)->∃s1,EF P kt pr f args s0 v s1/\s1.get c=some (.cells cs t fz)):cR P KT An R D X Hd (nH f ok (ck P kt pr m f) pr):=by
 constructor
 .intro g h args s v s' hf hh;unfold nH at hf;split at hf
  .cases hf;simp only at hh;split at hh
   .cases hh; exact iz _
   .exact(Da hp.nx m).2 _ _ _ _ _ hh
  .exact hp.nx g h args s v s' hf hh
 .intro g h args s v s' hf hh;unfold nH at hf;split at hf
  .next he =>
   have he:=iC he;subst he;cases hf;simp only at hh;split at hh
   .next v' hv =>
    cases hh;have⟨h1,h2,h3,c,cs,t,fz,h4,h5,h6⟩:=uX _ _ _ hv;have hg:∀b,((⟨[],s.nx⟩:AS).set c<|some<|.cells cs t fz).get b=if b=c then some _ else none:=λb=>by
     rw[AS.aN];split
     .rfl
     .unfold AS.get; simp
    obtain⟨s1,⟨n,h7⟩,h8⟩:=h6 ((⟨[],s.nx⟩:AS).set c<|some<|.cells cs t fz) I gq;exact yk Y OY h2 h5 hg I h8 h4 h3 h1<|(jM Y hm FH hp Jy n).2 _ _ _ _ _ h7
   .exact(jM Y hm FH hp Jy m).2 _ _ _ _ _ hh
  .exact hp.sound g h args s v s' hf hh
def iK{g:Aq->AS->Option (Value × AS)}{s1:AS}(h:pr f=some g)(a:g args s=some (v,s1)):EF P kt pr f args s v s1:=by refine⟨1,?_⟩;unfold ck;rw[h];exact a
end
def Anc (A:eN):Prop:=(∃z e,A 1=some (1,z,e))/\(∃z e,A 2=some (2,z,e))/\∃z e,A 3=some (3,z,e)
def R8 (An:eN)(p:Prop)(rn:Nat)(rN:Prim)(all:Iq):Prop:=(∀f g args s v s',rN f=some g->g args s=some (v,s')->s.nx<=s'.nx)/\∀{ι:Type} {N0:ι->Nat} {M:ι->World->Nat->Prop} {O:ι->Nat->Prop} {R:ι->Wq} {D:ι->World->World->Array Event->Prop} {X:ι->Gq} {Hd:ι->Hq->World->Prop} (_:Cy prog fa N0 M O R D X Hd) (A:eN),(∀b x,b<32->An b=some x->A b=some x)->(p->Tb M Hd)->(∀b,rn+1<=b->A b=none)->cR prog fa A R D X Hd (jf rn all)->cR prog fa A R D X Hd rN
def wA (rn:Nat)(rN:Prim)(all:Iq):Prop:=(∀f g args s v s',rN f=some g->g args s=some (v,s')->s.nx<=s'.nx)/\∀{ι:Type} {N0:ι->Nat} {M:ι->World->Nat->Prop} {O:ι->Nat->Prop} {R:ι->Wq} {D:ι->World->World->Array Event->Prop} {X:ι->Gq} {Hd:ι->Hq->World->Prop} (_:Cy prog fa N0 M O R D X Hd) (A:eN),Anc A->Tb M Hd->(∀b,rn+1<=b->A b=none)->cR prog fa A R D X Hd (jf rn all)->cR prog fa A R D X Hd rN
def wA.toA{An:eN}{p:Prop}{all:Iq}(h:wA rn rN all)(d:Anc An)(f:p):R8 An p rn rN all:=⟨h.1,λY A a i e g=>by obtain⟨⟨j,e1,h1⟩,⟨k,b,h2⟩,l,c,h3⟩:=d;exact h.2 Y A ⟨⟨j,e1,a _ _ oq h1⟩,⟨k,b,a _ _ oq h2⟩,l,c,a _ _ oq h3⟩ (i f) e g⟩
variable {r:Nat->Nat}
def xQ:Vq->Option (List ByteArray)
 | []=>some []
 | .string s::l=>match xQ l with
  | some r=>some (s::r)
  | none=>none
 | _=>none
theorem Ah:∀{l:Vq} {r:List ByteArray},xQ l=some r->l.length=r.length/\∀(k:Nat) (p:ByteArray),r[k]?=some p->l[k]?=some (.string p)
 | [],r,h=>by cases h;exact⟨Y,λk p U=>by simp at U⟩
 | x::l,r,h=>by
  cases x<;>simp only[xQ] at h<;>try cases h
  split at h
  .next r' hr =>cases h;have⟨h1,h2⟩:=Ah hr;grind
  .cases h
def DW(pv:Value)(s:AS):Option (List ByteArray × AS):=match pv with
 | .slice none 0 0=>some ([],s)
 | .slice (some ⟨bp,0,none⟩) m _=>match s.get bp with
  | some (.cells cs 9 _)=>if m<=cs.toList.length/\bp<s.nx then match xQ (cs.toList.take m) with
    | some a=>some (a,s.set bp none)
    | none=>none
   else none
  | _=>none
 | _=>none
theorem PZ{s sB:AS}(h:DW pv s=some (ps,sB)):We s pv ps sB/\Uh s.nx pv=true:=by
 unfold DW at h;split at h
 .cases h;exact⟨.inl ⟨Y,Y,Y⟩,Y⟩
 .next b m c =>
  split at h
  .next d e f =>
   split at h
   .next a =>
    split at h
    .next g U =>cases h;have⟨h1,h2⟩:=Ah U;rw[List.length_take,Nat.min_eq_left a.1] at h1;refine⟨.inr ⟨b,c,d,e,by rw[h1],f,λk p i=>?_,Y⟩,by simpa[Uh,rM,Nat.blt_eq] using a.2⟩;grind
    .cases h
   .cases h
  .cases h
 .cases h
def mg (P:Program)(n r0:Nat)(str:ByteArray)(vj:AS->AS)(rN:Prim)(pr:Prim):Prim:=λg=>if g.beq 37 then some λa s=>match a.toList with
 | [pv,.func (.func f) x y]=>match DW pv s,P.funcs[f]? with
  | some (ps,sB),some bL=>match bL.body with
   | some c =>
    if ps.flatMap bytesOf=bytesOf str/\ps.length<=1000000000/\x.toList.isEmpty=true/\s.nx=r0/\bL.results.toList.isEmpty=true/\s.Km=true/\y.toList.all (rM s.nx)=true then
     match gV P kg rN n c ((aC s.nx 0::y.toList)++List.replicate (bL.ntmps-(y.size+1)) undef) ⟨sB.hp,s.nx+1⟩ with
     | some (e,_,s')=>if AS.keeps sB s'=true then match e with
       | .normal|.ret=>some (.tuple #[],vj s')
       | _=>none
      else none
     | none=>none
    else none
   | none=>none
  | _,_=>none
 | _=>none
 else pr g
section
variable {Post:Value->World->Prop}{Ex:Nat->Prop}{w₀:World}
theorem Io{e1:Nat}(h1:An 1=some (1,z1,e1))(T:∀b,32<=b->An b=none){str:ByteArray}(ak:32<=r0){vj:AS->AS}(I:G1 vj)(t:R8 An (VA Ex w₀) r0 rN (cJ str))(B:l7 str.data.toList 0<=20000)(m:cR prog fa An (λ_:Zx=>AtRel) (λj=>DZ j.1) (λj=>ZI prog Post 0 j.1) (vK Ex w₀) pr) :
  cR prog fa An (λ_:Zx=>AtRel) (λj=>DZ j.1) (λj=>ZI prog Post 0 j.1) (vK Ex w₀) (mg prog n r0 str vj rN pr):=by
 have G:∀g h a s v i,g=37->mg prog n r0 str vj rN pr g=some h->h a s=some (v,i)->s.nx<=i.nx/\Sound prog fa An (λ_:Zx=>AtRel) (λj=>DZ j.1) (λj=>ZI prog Post 0 j.1) (vK Ex w₀) 37 a s v i:=by
  rintro g h a s v i rfl d U;unfold mg at d;rw[ip (show Nat.beq 37 37=true from rfl)] at d;cases d;simp only at U;split at U
  .next pv f x y ha =>
   split at U
   .next N sB K X d =>
    split at U
    .next c O =>
     split at U
     .next hc =>
      obtain⟨H,aj,al,rfl,R,Z,hy⟩:=hc;have⟨D,hpV⟩:=PZ X;have E:∀p∈N,p.size<=20000:=λp m=>by have h1:=(List.sublist_flatten_of_mem (List.mem_map.2 ⟨p,m,rfl⟩:bytesOf p∈N.map bytesOf)).length_le;rw[<-List.flatMap_def,H] at h1;rw[kF,Nat.zero_add,KO] at B;unfold bytesOf at h1;rw[List.length_map,List.length_map,KO,KO] at h1;exact lT h1 B
      split at U
      .next e ah u J =>
       split at U
       .next P =>
        have Q:(e=.normal\/e=.ret)/\v=.tuple #[]/\i=vj u:=gq
        obtain⟨k,rfl,rfl⟩:=Q;have F:x=#[]:=gq
        subst F;have V:a=#[pv,.func (.func f) #[] y]:=gq
        subst V;have W:s.nx+1<=u.nx:=(Da t.1 n).1 _ _ _ _ _ _ J;have q:s.nx<=(vj u).nx:=by rw[(I u).1];omega
        refine⟨q,EK (λb M=>T b oq) Z ?_ q λS l fr j w C o L hF r=>?_⟩
        .have ai:Uh s.nx (.func (.func f) #[] y)=true:=by simp only[Uh,hy,List.all_nil,Bool.and_true]
         grind
        .exact YA h1 oq D d H E oq O R B (λY A hT r m=>t.2 Y A (λb x M t=>(r b oq).trans<|L.an b x t) hT (λb M=>(r b oq).trans<|o b oq) m) I J W P k L hF r<|λb b1 _=>o b b1
       .cases U
      .cases U
     .cases U
    .cases U
   .cases U
  .cases U
 constructor
 .intro g h a s v i d U;by_cases k:g=37
  .exact(G g h a s v i k d U).1
  .unfold mg at d;rw[iw (λz=>k<|iC z)] at d;exact m.nx g h a s v i d U
 .intro g h a s v i d U;by_cases k:g=37
  .grind
  .unfold mg at d;rw[iw (λz=>k<|iC z)] at d;exact m.sound g h a s v i d U
def Ng{str:ByteArray}{vj:AS->AS}{s s1 sB:AS}{f:FuncId}{bL:Func}{y:Aq}(g:DW pv s=some (ps,sB))(b:ps.flatMap bytesOf=bytesOf str)(h:ps.length<=1000000000)(l:prog.funcs[f]?=some bL)(a:bL.body=some c)(d:bL.results.toList.isEmpty=true)(m:s.nx=r0)(i:s.Km=true)(p:y.toList.all (rM s.nx)=true)
 (o:Ew rN c ((aC s.nx 0::y.toList)++List.replicate (bL.ntmps-(y.size+1)) undef) ⟨sB.hp,s.nx+1⟩ λe _ j=>(e=.normal\/e=.ret)/\AS.keeps sB j=true/\vj j=s1) :
  ∃n,∀k,Ef (mg prog n r0 str vj rN k) 37 #[pv,.func (.func f) #[] y] s (.tuple #[]) s1:=by obtain⟨n,e,q,j,h1,h2,h3,rfl⟩:=o;refine⟨n,λk=>⟨1,?_⟩⟩;unfold ck mg;rw[ip (show Nat.beq 37 37=true from Y)];simp only[g,l,a,h1,h3,if_true];rw[ip ⟨b,h,Y,m,d,i,p⟩];rcases h2 with rfl|rfl<;>rfl
end
end
section
open Tryz
open Go.Conc Go.RowKit Go.Lib
variable {P:Program}{kt:TypeId->Bool}{n:Nat}{a:TL}{s s':AS}
def rz(P:Program)(n:Nat):Prim:=mg P n 37 qJ (AS.tidy 37) (jf 37 L0) bP
def EW.Zz{pr:Prim}{c:Code}(h:Zz (gV P kt pr n c a s)=true):EW P kt pr c a s (λe a' s1=>e=.ret/\a'.getD 0 undef=.bool true/\s1.get 1=some (.cells dy.toArray 335)):=by
 generalize hq:gV P kt pr n c a s=q at h;unfold YtgcaionclkbehaaGreatDoor.Zz at h;split at h
 .simp only[nU] at h;exact⟨n,_,_,_,hq,O,kv h.1,uq h.2⟩
 .cases h
def Uo{c:gX}{o:Oper}{t:TypeId}{x y:Operand}{u v:Value}(lz:o.op=.store t x y)(hx:a.at x=u)(hy:a.at y=v)(h:ly P t u v s=some s'):cf P kt c a o s=some (undef,s'):=by unfold cf;rw[iw (by rw[lz];simp[fR]),lz];simp only;rw[hx,hy,h]
def aco:∃n,Ef (rz prog n) 37 #[.slice (sq 35) 1 1,.func (.func 38) #[] #[aC 36 0]] sC (.tuple #[]) sG:=by
 have Re:=e39;unfold Q9 at Re;split at Re
 .next v s1 h1 =>
  split at Re
  .next s2 h2 =>simp only[nU] at Re;have⟨n,hn⟩:=Ng (str:=qJ) (r0:=37) (pv:=.slice (sq 35) 1 1) (ps:=[qJ]) (sB:=sC.set 35 none) (vj:=AS.tidy 37) (rN:=jf 37 L0) (s:=sC) (s1:=sG) (f:=38) (bL:=f38) (y:=#[aC 36 0]) kq iq iq func38 O kq O kq kq (by exact za sD<|zx<|zk 1<|dF #[aC 37 0] kq O O kq kq e40<|dF #[.slice (sq 164) 11 11] kq O O kq kq (iQ 10000 h1)<|zk 1<|zo s1<|bU (v:=undef) (s1:=s2) kq (Uo O kq kq h2)<|am ⟨.inl O,Re.1,rB Re.2⟩);exact⟨n,hn bP⟩
  .cases Re
 .cases Re
section
variable (h:Ef (rz prog n) 37 #[.slice (sq 35) 1 1,.func (.func 38) #[] #[aC 36 0]] sC (.tuple #[]) sG)
def WE:Ef (rz prog n) 21 #[aC 32 0] sB (.tuple #[aC 36 0,.int .i64 0]) sH:=by
 refine aH kq func21 O ?_;iterate 3 refine zs ?_
 exact za sC<|zr<|zk 5<|dF #[.slice (sq 35) 1 1,.func (.func 38) #[] #[aC 36 0]] kq O O kq kq (by rw[show oS _=sC by kernel_rfl];exact h)<|am<|kT 50 .ret kq ⟨.inr O,by kernel_rfl,by kernel_rfl⟩
def UI:Ef (rz prog n) 17 #[.string qJ] sA (aC 36 0) sH:=by
 refine aH kq func17 O ?_;iterate 4 refine aB<|eJ 500 kq ?_
 exact fe sB (rB kq)<|aB<|eA kq<|jk 1 50 kq<|dF #[aC 32 0] kq O O kq kq (s1:=sH) (v:=.tuple #[aC 36 0,.int .i64 0]) (by rw[show oS _=sB by kernel_rfl];exact WE h)<|EO.fin 50 kq<|kT 50 .ret kq ⟨.inr O,by kernel_rfl,by kernel_rfl⟩
end
end
section
open Go.Conc Go.RowKit Go.Lib

end
section
open Go.Conc Go.RowKit Go.Lib Tryz
variable {b k n:Nat}{t:TypeId}{x y:Operand}{P:Program}{kt:TypeId->Bool}{a:TL}{v:Value}{s s':AS}{all:Iq}
variable {cp d i j m off pos sz z1:Nat}{c:gX}{e t' ty u:TypeId}{cs qG:Aq}{fz Oh:Nat × Nat}{o:Oper}{r:Int}{sl w z:Value}{l stops:Bq}{α:Type}{K K':Nat->Prop}
section
variable {Post:Value->World->Prop}{Ex:Nat->Prop}{w₀:World}{An:eN}
def ef:prog.follows .mixedOrders=true:=kq
def J7 (P:Program)(n:Nat):Prim:=λf=>if f.beq 15 then some (λa s=>if a.toList.isEmpty/\Yz (s.get 1) (some<|.cells dy.toArray 335)=true then some (.bool true,s) else none) else rz P n f
def si:dy.all eW=true:=by decide +kernel
theorem GA(b:Nat):sA.get b=if b=1 then some (.cells dy.toArray 335) else none:=by unfold AS.get sA;grind
end
def sF{c:UInt8}:∀{l:Bq} {k:Nat},c∉l->km c.toNat l k = -1
 | [],k,_=>rfl
 | b::l,k,h=>by unfold km;rw[oZ];simp only[oc,not_or] at h;rw[show(b==c)=false by simp;exact λe=>h.1 e.symm];simp only[if_false,lI];exact sF h.2
theorem w9{c:UInt8}{b:Bq}:∀{a:Bq} {k:Nat},c∉a->km c.toNat (a++c::b) k=a.length+k
 | [],k,_=>by rw[List.nil_append];unfold km;rw[oZ];simp
 | x::a,k,h=>by rw[List.cons_append];unfold km;rw[oZ];simp only[oc,not_or] at h;rw[show(x==c)=false by simp;exact λe=>h.1 e.symm];simp only[if_false,lI];rw[w9 h.2];grind
theorem toNat_mod(c:UInt8):(c.toNat:Int).toNat % 256=c.toNat:=by have:=c.toNat_lt;grind
def Wa (c:UInt8)(x a b:Bq)(t:Bool):Prop:=(t=false/\c∉x/\a=x/\b=[])\/(t=true/\c∉a/\x=a++c::b)
def NZ(a b:Bq)(c:UInt8):((a++c::b).take a.length).drop 0=a:=iq
def LI(a b:Bq)(c:UInt8):((a++c::b).take (a++c::b).length).drop (a.length+1)=b:=by rw[List.take_length,show a++c::b=(a++[c])++b by simp,show a.length+1=(a++[c]).length by simp,List.drop_left]
variable {pr:Prim}
abbrev z0:AS:=⟨[],32⟩
variable {c:gX}{o:Oper}
theorem me{lo hi:Option Operand}(U:o.op=.slice t x lo hi none)(h:P.underlying t=some (.slice e))(k:a.at x=.slice (some ⟨b,off,none⟩) n cp)(g:s.get b=some (.cells cs e fz))(l:cz P e=some sz)(f:bS n cp (lo.map a.at) (hi.map a.at)=some (i,j))(d:i<cp):cf P kt c a o s=some (.slice (some ⟨b,off+i*sz,none⟩) (j-i)<|cp-i,s):=by
 have e:jh P t (a.at x) (lo.map a.at) (hi.map a.at) (none.map a.at) s=some (.slice (some ⟨b,off+i*sz,none⟩) (j-i)<|cp-i):=by unfold jh;grind
 unfold cf;rw[iw (by rw[U];simp[fR]),U];simp only;rw[e]
def Bw{s:AS}{i:Operand}{sp:Option Nat}{kd:IntKind}{j:Int}(d:o.op=.indexAddr t x i)(l:P.underlying t=some (.slice e))(f:cz P e=some sz)(m:a.at x=.slice (some ⟨b,off,sp⟩) n cp)(hi:a.at i=.int kd j)(g:0<=j)(h1:j<n)(h:off+j.toNat*sz=k):cf P kt c a o s=some (aC b k,s):=by rw[ta d l f m hi g h1,h]
def ZW (P:Program)(t:TypeId):Bool:=match P.underlying t with
 | some d=>!d.isRow
 | none=>false
def slT (P:Program)(t:TypeId):Option Nat:=match P.underlying t with
 | some (.slice e)=>cz P e
 | _=>none
def yn{L:List FuncId}{pr:Prim}(h:∀f,f∈L->pr f=none)(f:FuncId)(a:f∈L:=by decide):pr f=none:=h f a
variable {s1:AS}
section
variable {c:gX}{o:Oper}{ops:Array Oper}{rest:List Oper}{K:TL->AS->Prop}{KT:List (TL × Value × AS)->Prop}{g:FuncId}{args:Aq}{cl:Call}
def yl(b off:Nat)(v:Value)(g:s.get b=some (.cells cs ty fz))(f:o.op=.load t x:=by rfl)(e:ZW P t=true:=by kernel_rfl)(j:a.at x=aC b off:=by kernel_rfl)(i:cs[off]?=some v:=by rfl):cf P kt c a o s=some (v,s):=by
 unfold ZW at e;cases h:P.underlying t with
 | none=>rw[h] at e;cases e
 | some d=>rw[h] at e;exact kO f h (by simpa using e) j g i
def yA(b off n:Nat)(r:Aq)(j:s.get b=some (.cells cs ty fz))(f:off+n<=cs.size)(g:o.op=.load t x:=by rfl)(e:YT P t=true:=by kernel_rfl)(l:cz P t=some n:=by kernel_rfl)(k:a.at x=aC b off:=by kernel_rfl)(i:(cs.toList.drop off |>.take n).toArray=r:=by kernel_rfl):cf P kt c a o s=some (.agg r,s):=by
 unfold YT at e;cases h:P.underlying t with
 | none=>rw[h] at e;cases e
 | some d=>rw[h] at e;exact jq g h e l k j f i
def yb{b:BinOp}{z}(u w:Value)(h:dV b u w=some v)(d:o.op=.binOp b t x y z:=by rfl)(e:a.at x=u:=by kernel_rfl)(f:a.at y=w:=by kernel_rfl):cf P kt c a o s=some (v,s):=bz d e f h
def yi{i:Operand}(b off n cp k:Nat)(sp:Option Nat)(kd:IntKind)(j:Int)(sz:Nat)(f:0<=j)(h1:j<n)(g:off+j.toNat*sz=k)(l:o.op=.indexAddr t x i:=by rfl)(d:slT P t=some sz:=by kernel_rfl)(m:a.at x=.slice (some ⟨b,off,sp⟩) n cp:=by kernel_rfl)(hi:a.at i=.int kd j:=by kernel_rfl):cf P kt c a o s=some (aC b k,s):=by
 unfold slT at d;split at d
 .next e h=>exact Bw l h d m hi f h1 g
 .cases d
def ys(b off:Nat)(w:Value)(g:s.get b=some (.cells cs ty fz))(e:off+1<=cs.size)(f:o.op=.store t x y:=by rfl)(h:a.at x=aC b off:=by kernel_rfl)(i:a.at y=w:=by kernel_rfl)(d:w.cells=#[w]:=by rfl)(h1:w.oneCell'=true:=by rfl)(j:cz P t=some 1:=by kernel_rfl):cf P kt c a o s=some (undef,s.set b<|some<|.cells (putAt cs off [w]) ty fz):=iH f h i d h1 j g e
def yp{z}(i j r:Int)(d:i+j=r)(e : -2000000000<=r/\r<=2000000000)(b:o.op=.binOp .add t x y z:=by rfl)(f:a.at x=num i:=by kernel_rfl)(g:a.at y=num j:=by kernel_rfl):cf P kt c a o s=some (num r,s):=jY b f g d e
section
variable (h:EF P kt pr g args s v s1)
def yf(k:EO P kt pr ops rest (a.put o.dst v) s1 K)(f:Region.wanted o (cg ops a)=true:=by kernel_rfl)(e:o.op=.call cl:=by rfl)(c:cl.callee=.value (.func g):=by rfl)(d:mc P (.func g)=false:=by kernel_rfl)(b:(#[]++cl.args.map a.at++#[]:Aq)=args:=by kernel_rfl):EO P kt pr ops (o::rest) a s K:=dF args f e c d b h k
def yt(k:ET P kt pr ops rest (a.put o.dst v) s1 (λi=>KT ((a,v,s1)::i)))(f:Region.wanted o (cg ops a)=true:=by kernel_rfl)(e:o.op=.call cl:=by rfl)(c:cl.callee=.value (.func g):=by rfl)(d:mc P (.func g)=false:=by kernel_rfl)(b:(#[]++cl.args.map a.at++#[]:Aq)=args:=by kernel_rfl):ET P kt pr ops (o::rest) a s KT:=ET.y6 args f e c d b h k
end
def yc{f:Operand}(first cap:Aq)(h:EF P kt pr g args s v s1)(k:EO P kt pr ops rest (a.put o.dst v) s1 K)(j:Region.wanted o (cg ops a)=true:=by kernel_rfl)(i:o.op=.call cl:=by rfl)(c:cl.callee=.value f:=by rfl)(e:mc P f=false:=by kernel_rfl)(d:a.at f=.func (.func g) first cap:=by kernel_rfl)(b:first++cl.args.map a.at++cap=args:=by kernel_rfl):EO P kt pr ops (o::rest) a s K:=EO.call j i c e d b h k
def yR{fn:Func}{s':AS}(h1:di P fn a s=some v:=by kernel_rfl)(h2:s=s':=by kernel_rfl):EW P kt pr .ret a s (λe c b=>(e=.normal\/e=.ret)/\di P fn c b=some v/\b=s'):=aD ⟨.inr O,h1,h2⟩
end
def EH(h : -9223372036854775808<=r/\r<=9223372036854775807):eU .i64 r=r:=by
 unfold eU;simp only;split
 .rfl
 .rw[IntKind.wrap_i64];omega
theorem gO{s:AS}{z}{i j:Int}(U:o.op=.binOp .sub t x y z)(e:a.at x=num i)(f:a.at y=num j)(b:i-j=r)(d : -9223372036854775808<=r/\r<=9223372036854775807):cf P kt c a o s=some (num r,s):=by refine eG (by rw[U];rfl) gq ?_;unfold cI;rw[U];simp only;rw[e,f];unfold dV;simp;rw[b,EH d]
def R2(h : -9223372036854775808<=r/\r<=9223372036854775807):IntKind.i64.wrap r=r:=by rw[IntKind.wrap_i64];omega
theorem Ig{s s':AS}{bytes:Nat}(U:o.op=.call { callee:=.builtin .append,args:=#[x,y],argTypes:=#[t,t] })(g:a.at x=sl)(j:a.at y=.slice (sq d) 1 k)(r:P.underlying t=some (.slice e))(hi:(P.info? e).map (λi=>(i.zero,i.size,i.bytes))=some (some z,1,bytes))(u:z.cells.size=1)(n:bytes<=1000)(m:kt e=false)(b:s.get d=some (.cells #[w] e fz))(l:ej sl (sq d)=true)(q:w.oneCell'=true)(h:ce P e sl [w] 1 s=some (v,s')):cf P kt c a o s=some (v,s'):=by
 have f:cI P a o=none:=by unfold cI;rw[U]
 have p:fC s 1 (sq d) 1=some [w]:=by unfold fC;simp only;rw[b];rfl
 unfold cf;rw[iw (by rw[U];simp[fR])];rw[U];simp only;rw[f];simp;rw[g,j];unfold gl;grind
section
variable {c:gX}{o:Oper}
def zW(b:o.op=.range t x)(e:P.underlying t=some .string)(f:a.at x=str l)(d:kt (1000+l.length)=false):cf P kt c a o s=some (aC s.nx 0,s.add<|.stringIter ⟨l.toArray⟩ 0):=by unfold cf;rw[ip (by rw[b];rfl)];unfold wR;rw[b];simp only[e,f];rw[iw (by rw[show ByteArray.size ⟨l.toArray⟩=l.length from by simp[ByteArray.size],d];simp)]
theorem MU{r:UInt8}(d:o.op=.next x true)(k:a.at x=aC b 0)(j:s.get b=some (.stringIter ⟨l.toArray⟩ pos))(i:l[pos]?=some r)(m:r.toNat<128)(h:kt (1000+l.length)=false) :
  cf P kt c a o s=some (.tuple #[.bool true,num pos,.int .i32 r.toNat],s.set b<|some<|.stringIter ⟨l.toArray⟩<|pos+1):=by
 have f:ByteArray.size ⟨l.toArray⟩=l.length:=by simp[ByteArray.size]
 have⟨e,U⟩:=gS.1 i;have g:Utf8.decode ⟨l.toArray⟩ pos=(r.toNat,1):=by
  have h1:pos<ByteArray.size ⟨l.toArray⟩:=oq
  have h2:(ByteArray.mk l.toArray)[pos]'h1=r:=by show l.toArray[pos]=r;simpa using U
  rw[Fg h1 gq,h2]
 unfold cf;rw[iw (by rw[d];simp[fR]),d];simp only[k,aC,j,f,g];rw[ip e,iw<|by rw[h];simp];rfl
def ut(d:o.op=.next x true)(g:a.at x=aC b 0)(f:s.get b=some (.stringIter ⟨l.toArray⟩ pos))(h:l.length<=pos):cf P kt c a o s=some (.tuple #[.bool false],s):=by
 have e:ByteArray.size ⟨l.toArray⟩=l.length:=by simp[ByteArray.size]
 unfold cf;rw[iw (by rw[d];simp[fR]),d];simp only[g,aC,f,e];rw[iw oq]
end
def Pm:∀m,m<16->kg (1000+m)=false:=dq
def fF (all:Iq)(k:Nat):Int:=all[k]?.getD (-1)
variable {rn:Nat}
def aaJ(a:pr 146=jf rn all 146)(k:Nat):Ef pr 146 #[aC rn 0,num k] s (.int .i32<|fF all k) s:=by refine gp (a.trans O) ?_;simp only[aC];simp[fF]
def p6(g:pr 70=none)(a:pr 146=jf rn all 146){c:Nat}{p:Nat}(f:s.get c=some (.cells cs t fz))(j:cs[0]?=some (aC rn 0))(h1:cs[1]?=some (num k))(m:k+p<=1000000):Ef pr 70 #[aC c 0,num p] s (.int .i32<|fF all<|k+p) s:=by
 have d:=aaJ (s:=s) a<|k+p;have h:bV prog 84 (aC c 0) s=some (aC rn 0):=by unfold bV;simp only[aC,f,underlying84];exact j
 have i:bV prog 3 (aC c 1) s=some (num k):=by unfold bV;simp only[aC,f,underlying3];exact h1
 have e:∀x∈[(bV prog 84 (aC c 0) s,aC rn 0),(bV prog 3 (aC c 1) s,num k)],x.1=some x.2/\bQ 20 x.2=true:=by
  intro x l;simp at l;rcases l with rfl|rfl
  .exact⟨h,O⟩
  .exact⟨i,O⟩
 exact aH g func70 O<|zs<|aB<|aP kq kq kq<|zq<|zq<|zq<|zt s<|zu (kO (b:=c) (off:=0) (v:=aC rn 0) O underlying84 O kq f j)<|zq<|zq<|zq<|zt s<|zu (kO (b:=c) (off:=1) (v:=num k) O underlying3 O kq f h1)<|zq<|zt s<|zu (yp k (p:Nat) ((k+p:Nat):Int) oq oq)<|yt d<|zq<|bq ⟨kN e,_,_,_,_,_,_,O,O,yR⟩
def Yt:List FuncId:=[70,150,160,247,257,259,260,264,324,328,334,366]
structure Zw(rn:Nat)(all:Iq)(pr:Prim):Prop where
 BC:pr 146=jf rn all 146
 p92:pr 92=jf rn all 92
 MZ:pr 373=bP 373
 no:∀f,f∈Yt->pr f=none
variable {r p q:Value}
section
section
variable (hp:Zw rn all pr)
def HS{b:UInt8}(l:b.toNat<128)(stops:Bq):Ef pr 328 #[.int .i32 (b.toNat:Int),str stops] s (.bool<|decide (0<=km b.toNat stops 0)) s:=by
 have c:Ef pr 334 #[str stops,.int .u8 (b.toNat:Int)] s (num<|km b.toNat stops 0) s:=by
  have d:Ef pr 373 #[str stops,.int .u8 (b.toNat:Int)] s (num<|km b.toNat stops 0) s:=by obtain⟨g,j⟩:∃g,bP 373=some g:=⟨_,O⟩;have h:=iQ (P:=prog) (kt:=kg) (pr:=bP) (f:=373) (args:=#[str stops,.int .u8 (b.toNat:Int)]) (s:=s) (v:=num<|km ((b.toNat:Int).toNat % 256) stops 0) (s':=s) 1 kq;rw[toNat_mod] at h;have⟨m,h⟩:=h;refine gp (hp.MZ.trans j) ?_;unfold ck at h;rw[j] at h;exact h
  exact aH (hp.no 334 dq) func334 O<|zs<|zr<|zc 2 d<|zf<|aD ⟨.inr O,by kernel_rfl,by kernel_rfl⟩
 generalize km b.toNat stops 0=e at c;have i:Ef pr 264 #[str stops,.int .i32 (b.toNat:Int)] s (num e) s:=by exact aH (hp.no 264 dq) func264 O<|zs<|aF<|zr<|zk 1<|zp (bz (u:=.int .i32 0) (w:=.int .i32 (b.toNat:Int)) O kq kq<|cx (b:=true)<|tD oq)<|zk 2<|zp (bz (u:=.int .i32 (b.toNat:Int)) (w:=.int .i32 128) O kq kq<|eO (b:=true)<|tD oq)<|zf<|zH<|zr<|zg 2 s<|bU (v:=.int .u8 (b.toNat:Int)) (s1:=s) kq ((show _=some (Value.int .u8<|IntKind.u8.wrap (b.toNat:Int),s) by kernel_rfl).trans<|by rw[IntKind.wrap_u8,show(b.toNat:Int) % 256=(b.toNat:Nat) by omega])<|zo s<|dF _ kq O O kq kq c<|zf<|aD ⟨.inr O,by kernel_rfl,by kernel_rfl⟩
 have a:Ef pr 160 #[str stops,.int .i32 (b.toNat:Int)] s (.bool<|decide (0<=e)) s:=by refine aH (hp.no 160 dq) func160 O<|zs<|zr<|zc 2 i<|zp (bz (u:=num e) (w:=num 0) O kq kq<|fQ (b:=decide (0<=e)) O) ?_;generalize decide (0<=e)=k;exact zf<|aD ⟨.inr O,by kernel_rfl,by kernel_rfl⟩
 exact aH (hp.no 328 dq) func328 O<|zs<|zr<|zc 2 a<|zf<|aD ⟨.inr O,by kernel_rfl,by kernel_rfl⟩
def Mk{b:UInt8}(a:b.toNat<128)(h:b∉stops):Ef pr 328 #[.int .i32 (b.toNat:Int),str stops] s (.bool false) s:=by have:=HS hp (s:=s) a stops;rw[sF h] at this;exact this
def JE{b:UInt8}(a:b.toNat<128)(h:b∈stops):Ef pr 328 #[.int .i32 (b.toNat:Int),str stops] s (.bool true) s:=by have:=HS hp (s:=s) a stops;rw[tD (by obtain⟨a,b,rfl,d⟩:=List.eq_append_cons_of_mem h;rw[w9 d];omega)] at this;exact this
end
variable {St:Nat->AS}{c:Nat}
theorem jT{a b:Option Value}{u v:Value}(g:a=some u)(h:b=some v)(p:bQ 20 u=true:=by rfl)(q:bQ 20 v=true:=by rfl):∀x∈[(a,u),(b,v)],x.1=some x.2/\bQ 20 x.2=true:=gq
def ND(c:Nat)(stops:Bq)(k:Nat)(x:Nq):TL:=[aC c 0,str stops,x 2,x 3,x 4,num k]++gG x 6 31
abbrev dh:Bq:=[9,10,12,13,32]
end
def rd0:AS:=⟨((⟨sA.hp,64⟩:AS).add<|.cells #[.slice none 0 0] 56).hp,66⟩
def Ot (k:Nat):AS:=rd0.add<|.cells #[aC 65 0,num k,.pointer none,.slice none 0 0,.slice none 0 0] 121
abbrev bxO:Obj:=.cells #[aC 66 0] 196
def sc2 (bs:Bq)(k:Nat):AS:=((rd0.add<|.cells #[aC 65 0,num k,aC 66 2,.slice (some ⟨68,0,none⟩) bs.length bs.length,.slice none 0 0] 121).add bxO).add<|.cells (qY bs) 5 (1,1)
def UP (bs:Bq)(k:Nat):AS:=(sc2 bs k).add bxO
abbrev aO:Value:=.slice none 0 0
abbrev tgO(nm:Bq)(at_:Value):Obj:=.cells #[str nm,at_,.bool false] 262
abbrev X3(b:UInt8):Obj:=.stringIter ⟨#[b]⟩ 1
abbrev Wt:Obj:=.cells #[.pointer none,.slice none 0 0] 119
abbrev Q0(a b:Bq):Obj:=.cells #[str a,str b] 47
def g1 (bs:Bq)(k:Nat):AS:=(UP bs k).add<|tgO [] aO
def g2 (bs:Bq)(k:Nat):AS:=(((UP bs k).add<|tgO [97] aO).add Wt).add<|X3 97
def g3 (bs:Bq)(k:Nat):AS:=(g2 bs k).add<|Q0 [] []
def g4 (bs:Bq)(k:Nat):AS:=(((g3 bs k).add Wt).add<|X3 98).add<|Q0 [98] []
def g5 (bs AK:Bq)(k:Nat):AS:=((((g2 bs k).add<|Q0 [98] AK).add Wt).add<|X3 98).add<|Q0 [98] AK
def g6 (bs AK:Bq)(k:Nat):AS:=((((((((((UP bs k).add<|tgO [97]<|.slice (some ⟨79,0,none⟩) 1 1).add Wt).add<|X3 97).add<|Q0 [98] AK).add Wt).add<|X3 98).add<|Q0 [98] AK).add<|Q0 [98] AK).add<|Q0 [98] AK).add<|.cells #[str [98],str AK] 47 (1,1)
abbrev Y6:Value:=.slice (some ⟨79,0,none⟩) 1 1
abbrev Vd(bs:Bq):Vq:=[num 1,str bs,str [],aO,.bool false]
abbrev Vb:Vq:=[num 2,str [],str [97],Y6,.bool false]
abbrev Y0(k:Nat)(l:Value):Obj:=.cells #[aC 65 0,num k,.pointer none,aO,l] 121
def h1 (bs AK:Bq)(k:Nat):AS:=(g6 bs AK k).add<|tgO [97] Y6
def Ta (bs AK:Bq)(k:Nat):AS:=(h1 bs AK k).add<|.cells Vb.toArray 60
def e1 (bs AK:Bq)(k:Nat):AS:=((((Ta bs AK k).set 68 none).add<|.cells (Vd bs).toArray 60).add<|.cells (Vd bs).toArray 60 (1,1)).set 66<|some<|Y0 k<|.slice (some ⟨83,0,none⟩) 1 1
def h2 (bs AK:Bq)(k:Nat):AS:=((((e1 bs AK k).add<|.cells Vb.toArray 60).set 83 none).add<|.cells (Vd bs++Vb).toArray 60 (1,1)).set 66<|some<|Y0 k<|.slice (some ⟨85,0,none⟩) 2 2
def h3 (bs AK:Bq)(k:Nat):AS:=((h2 bs AK k).add<|.cells #[str T7,str T8] 9).add<|.cells #[str T6,str lql] 9
section
variable {V:Aq->Option Value}{bs AK:Bq}
theorem JG{a:Option Value}{u:Value}(g:a=some u)(p:bQ 20 u=true:=by rfl):∀x∈[(a,u)],x.1=some x.2/\bQ 20 x.2=true:=gq
end
def I0 (l:Bq):Prop:=∀b∈l,b.toNat<128
def WC{b:UInt8}(h:b.toNat<128):Lib.encodeRune (b.toNat:Int)=[b]:=by unfold Lib.encodeRune;rw[Lib.encodeRuneZ_one oq oq];simp
def AS.only(s:AS):List Nat->AS
 | []=>⟨[],s.nx⟩
 | b::l=>match s.get b with
  | some o=>if oL o=true then (s.only l).set b (some o) else s.only l
  | none=>s.only l
theorem wm(l:List Nat):G1 λs=>s.only l:=by
 intro s;induction l with
 | nil=>exact⟨O,λb o h=>by simp only[AS.only] at h;unfold AS.get at h;simp at h⟩
 | cons b l U =>
  simp only[AS.only];split
  .next o d =>
   split
   .next a =>refine⟨U.1,λc e h=>?_⟩;rw[AS.aN] at h;grind
   .exact U
  .exact U
def uk(d:α):∀(n:Nat) (l:List α) (x y:α),pC d n (pC d n l x) y=pC d n l y
 | 0,l,x,y=>by simp[pC]
 | n+1,l,x,y=>by have:=uk d n l.tail x y;simp[pC,this]
def ul(d:α):∀(n:Nat) (l:List α),n<l.length->pC d n l (l.getD n d)=l
 | 0,x::l,h=>by simp[pC]
 | n+1,x::l,h=>by have:=ul d n l (by simpa using h);simp only[pC,List.headD_cons,List.tail_cons,List.getD_cons_succ];rw[this]
 | _,[],h=>by simp at h
def AS.set_set(s:AS)(b:Nat)(x y:Option Obj):(s.set b x).set b y=s.set b y:=by unfold AS.set;simp only[qh,if_true];rw[uk,uk]
theorem AS.xJ{s:AS}{o:Obj}(h:s.get b=some o):s.set b (some o)=s:=by
 unfold AS.get at h;have h1:b % 16<(s.hp.getD (b / 16) []).length:=gq
 have h2:b / 16<s.hp.length:=gq
 unfold AS.set;have e:pC none (b % 16) (s.hp.getD (b / 16) []) (some o)=s.hp.getD (b / 16) []:=by have:=ul none _ _ h1;rw[h] at this;exact this
 rw[e,ul [] _ s.hp h2]
def Has (s:AS)(b:Nat)(o:Obj):Prop:=b<s.nx/\s.get b=some o
variable {s2:AS}
section
variable {c:Nat}{o o':Obj}
def Has.add(h:Has s b o)(x:Obj):Has (s.add x) b o:=⟨by have:=h.1;simp;omega,by rw[AS.aZ,iw<|by have:=h.1;omega];exact h.2⟩
def Has.new(s:AS)(o:Obj):Has (s.add o) s.nx o:=⟨iq,by rw[AS.aZ,ip O]⟩
def aI:=@Has.new
def Has.set(h:Has s b o)(a:b≠c)(x:Option Obj):Has (s.set c x) b o:=⟨h.1,by rw[AS.aN,iw a];exact h.2⟩
def Has.put(h:Has s b o)(o':Obj):Has (s.set b<|some o') b o':=⟨h.1,by rw[AS.aN,ip O]⟩
theorem Has.ne(h:Has s b (.cells cs t fz))(U:Has s c (.cells qG t' Oh))(a:t≠t'):b≠c:=λe=>by have h1:=h.2;rw[e,U.2] at h1;grind
def cL (K:Nat->Prop)(s s':AS):Prop:=s.nx<=s'.nx/\∀b,b<s.nx->¬K b->s'.get b=s.get b
def cL.refl(s:AS):cL K s s:=⟨lr,λ_ _ _=>O⟩
def aE:=@cL.refl
def cL.add(h:cL K s s')(x:Obj):cL K s (s'.add x):=⟨by have:=h.1;simp;omega,λb a c=>by rw[AS.aZ,iw<|by have:=h.1;omega];exact h.2 b a c⟩
theorem cL.set(h:cL K s s')(d:c<s.nx->K c)(x:Option Obj):cL K s (s'.set c x):=⟨h.1,λb a U=>by rw[AS.aN,iw<|λe=>U gq];exact h.2 b a U⟩
def aL:=@cL.set
def cL.trans(h:cL K s s1)(a:cL K' s1 s2)(e:∀b,b<s.nx->K' b->K b):cL K s s2:=⟨lT h.1 a.1,λb c d=>by have:=h.1;rw[a.2 b oq λz=>d<|e b c z,h.2 b c d]⟩
def Has.fr(h:Has s b o)(a:cL K s s')(c:¬K b):Has s' b o:=⟨by have:=h.1;have:=a.1;omega,(a.2 b h.1 c).trans h.2⟩
end
abbrev ja(rn k:Nat)(p q r:Value):Obj:=.cells #[aC rn 0,num k,p,q,r] 121
def sp (s:AS)(c rn:Nat)(p q r:Value)(k:Nat):AS:=s.set c<|some<|ja rn k p q r
variable {k':Nat}
section
variable {c:Nat}
def fN:(sp s c rn p q r k).get c=some (ja rn k p q r):=by unfold sp;rw[AS.aN,ip O]
def rD:(sp s c rn p q r k).set c (some<|ja rn k' p q r)=sp s c rn p q r k':=by unfold sp;rw[AS.set_set]
def om(h:s.get c=some (ja rn k p q r)):sp s c rn p q r k=s:=AS.xJ h
end
def gL (l:Int)(stops:Bq):Bool:=stops.any λb=>l==(b.toNat:Int)
def zR:List FuncId:=[40,70,71,72,73,84,148,149,156,158,159,248,249,252,253,257,259,260,261,322,324,325,326,364,365,366]
structure K2(rn:Nat)(all:Iq)(pr:Prim):Prop where
 BC:pr 146=jf rn all 146
 p92:pr 92=jf rn all 92
 one:∀(s:AS) (l:Int) (stops:Bq),(l = -1\/l∈all)->I0 stops->EF prog kg pr 328 #[.int .i32 l,str stops] s (.bool<|gL l stops) s
 no:∀f,f∈zR->pr f=none
 pos:∀l∈all,0<=l
 len:all.length<=100000
def ib (all:Iq)(stops:Bq)(k:Nat):Nat:=k+((all.drop k).takeWhile λl=>!gL l stops).length
def pP (all:Iq)(some_:Bq)(k:Nat):Nat:=k+((all.drop k).takeWhile λl=>gL l some_).length
def IM{f:α->Bool}:∀{l:List α} {j:Nat},j<(l.takeWhile f).length->∃x,l[j]?=some x/\f x=true
 | [],j,h=>by simp at h
 | x::l,j,h=>by
  rw[List.takeWhile_cons] at h;split at h
  .next hx =>
   cases j with
   | zero=>exact⟨x,O,hx⟩
   | succ j=>exact IM (l:=l)<|by simpa using h
  .simp at h
theorem B0(f:α->Bool):∀l:List α,l[(l.takeWhile f).length]?=none\/∃x,l[(l.takeWhile f).length]?=some x/\f x=false
 | []=>.inl O
 | x::l=>by
  rw[List.takeWhile_cons];split
  .simpa using B0 f l
  .grind
def sK(all:Iq)(k j:Nat):fF all (k+j)=((all.drop k)[j]?).getD (-1):=by unfold fF;rw[LA]
def nD{all:Iq}{x:Int}(h:(all.drop k)[j]?=some x):fF all (k+j)=x/\x∈all:=⟨by rw[sK,h];rfl,List.mem_of_mem_drop<|mG h⟩
def uD(f:α->Bool)(l:List α):(l.takeWhile f).length<=l.length:=(List.takeWhile_sublist f).length_le
def ek (all:Iq)(k j:Nat):Bq:=aS<|(all.drop k).take<|j-k
section
variable {c:Nat}
def K2.at(a:K2 rn all pr)(k:Nat):fF all k = -1\/fF all k∈all:=by
 unfold fF;cases h:all[k]? with
 | none=>exact .inl O
 | some x=>exact .inr<|mG h
section
variable (hp:K2 rn all pr)
def jI(hk:k<=1000000):Ef pr 70 #[aC c 0,num 0] (sp s c rn p q r k) (.int .i32<|fF all k) (sp s c rn p q r k):=p6 (hp.no 70 dq) hp.BC fN O O hk
def tg(a:j<=1000000):Ef pr 92 #[aC rn 0,num k,num j] s (str<|ek all k j) s:=by refine gp (hp.p92.trans O) ?_;simp only[aC];rw[ip ⟨trivial,oq,oq,oq⟩];simp[ek]
end
def ID(k:Nat):bV prog 84 (aC c 0) (sp s c rn p q r k)=some (aC rn 0):=by unfold bV;simp only[aC,fN,underlying84];rfl
def NQ(k:Nat):bV prog 3 (aC c 1) (sp s c rn p q r k)=some (num k):=by unfold bV;simp only[aC,fN,underlying3];rfl
section
variable (hp:K2 rn all pr)
def N8(y:I0 stops)(G:k<=200000):Ef pr 259 #[aC c 0,str stops] (sp s c rn p q r k) (str<|ek all k<|ib all stops k) (sp s c rn p q r<|ib all stops k):=by
 have v:=λ(j:Nat)=>IM (f:=λl=>!gL l stops) (l:=all.drop k) (j:=j);have i:=B0 (λl=>!gL l stops)<|all.drop k;have w:=uD (λl=>!gL l stops)<|all.drop k;have C:(all.drop k).length<=all.length:=iq
 have D:=hp.len;unfold ib;generalize ((all.drop k).takeWhile λl=>!gL l stops).length=m at v i w |-;refine aH (hp.no 259 dq) func259 O<|zs<|za (sp s c rn p q r k)<|zr<|zg 3 (sp s c rn p q r k)<|zp (yl c 1 (num k) fN)<|zf<|za (sp s c rn p q r k)<|aV (ND c stops k) kq ?_;intro F;refine aB<|aF<|bn (bw (Q:=λe t A=>e=.exit 0/\A=sp s c rn p q r (k+m)/\∃x,t=ND c stops k x) (λu t A=>∃j,u+j=m/\A=sp s c rn p q r (k+j)/\∃x,t=ND c stops k x) ?_ m _ _ ⟨0,oq,O,F,O⟩) ?_
 .rintro u t A ⟨j,H,rfl,x,rfl⟩;have d:=jI (s:=s) (c:=c) (p:=p) (q:=q) (r:=r) hp (k:=k+j) oq;by_cases E:j<m
  .have⟨l,g,n⟩:=v j E;have⟨o,h⟩:=nD g;have B:=hp.pos l h;rw[o] at d;have a:=hp.one (sp s c rn p q r<|k+j) l stops (.inr h) y;rw[show gL l stops=false by simpa using n] at a;exact aB<|zr<|zc 1 d<|zp (yb (.int .i32 l) (.int .i32<|-1)<|cM (b:=true)<|bne_iff_ne.2 oq)<|zc 2 d<|zc 1 a<|zf<|za (sp s c rn p q r<|k+j)<|zT<|aF<|zx<|zg 3 (sp s c rn p q r<|k+j)<|zp (yl c 1 (num ((k+j:Nat):Int)) fN)<|zp (yp ((k+j:Nat):Int) 1 ((k+(j+1):Nat):Int) oq oq)<|zg 2 (sp s c rn p q r<|k+j)<|zp (ys c 1 (num ((k+(j+1):Nat):Int)) fN iq)<|am ⟨u-1,oq,j+1,oq,rD,bu kq⟩
  .obtain rfl:j=m:=oq
   rcases i with g|⟨l,g,n⟩
   .have e:fF all (k+j) = -1:=by rw[sK,g];rfl
    rw[e] at d;exact aB<|zr<|zc 1 d<|zf<|za (sp s c rn p q r<|k+j)<|zG<|aR ⟨O,O,bu kq⟩
   .have⟨o,h⟩:=nD g;have B:=hp.pos l h;rw[o] at d;have a:=hp.one (sp s c rn p q r<|k+j) l stops (.inr h) y;rw[show gL l stops=true by simpa using n] at a;exact aB<|zr<|zc 1 d<|zp (yb (.int .i32 l) (.int .i32<|-1)<|cM (b:=true)<|bne_iff_ne.2 oq)<|zc 2 d<|zc 1 a<|zf<|za (sp s c rn p q r<|k+j)<|zG<|aR ⟨O,O,bu kq⟩
 rintro e t A ⟨rfl,rfl,x,rfl⟩;have z:=tg hp (s:=sp s c rn p q r<|k+m) (k:=k) (j:=k+m) oq;generalize ek all k (k+m)=I at z |-;exact aB<|aP kq kq kq<|zq<|zq<|zq<|zt (sp s c rn p q r<|k+m)<|zu (yl c 0 (aC rn 0) fN)<|zq<|zq<|zq<|zq<|zt (sp s c rn p q r<|k+m)<|zu (yl c 1 (num ((k+m:Nat):Int)) fN)<|yt z<|zq<|bq ⟨fY [(bV prog 84 (aC c 0)<|sp s c rn p q r<|k+m,aC rn 0),(bV prog 3 (aC c 1)<|sp s c rn p q r<|k+m,num ((k+m:Nat):Int))] kq<|jT (ID _) (NQ _) O O,_,_,_,_,_,_,O,O,yR⟩
def Vi(stops:Bq)(k:Nat):k<=ib all stops k/\ib all stops k<=k+100000:=by
 have h1:=uD (λl=>!gL l stops)<|all.drop k;have h2:(all.drop k).length<=all.length:=iq
 have h3:=hp.len;unfold ib;omega
def IP{b0:UInt8}(e:b0.toNat<128)(f:k<=200000):Ef pr 260 #[aC c 0,str [b0]] (sp s c rn p q r k) (str<|ek all k<|ib all [b0] k) (sp s c rn p q r<|ib all [b0] k+1):=by have d:=N8 (s:=s) (c:=c) (p:=p) (q:=q) (r:=r) hp (stops:=[b0]) (by intro b h;simp at h;subst h;exact e) (k:=k) f;have g:=Vi hp [b0] k;generalize ib all [b0] k=a at *;exact aH (hp.no 260 dq) func260 O<|zs<|zr<|zc 2 d<|zf<|za (sp s c rn p q r a)<|zr<|zg 3 (sp s c rn p q r a)<|zp (yl c 1 (num a) fN)<|zk 2<|zp (yp a 1 ((a+1:Nat):Int) oq oq)<|zg 2 (sp s c rn p q r a)<|zp (ys c 1 _ fN iq)<|am<|fe (sp s c rn p q r<|a+1) rD<|zs yR
end
def xN:I0 dh:=by intro b h;simp at h;rcases h with rfl|rfl|rfl|rfl|rfl<;>decide
def NC(c:Nat)(x:Nq):TL:=[aC c 0]++gG x 1 11
theorem GF(a:K2 rn all pr)(C:k<=200000):Ef pr 257 #[aC c 0] (sp s c rn p q r k) (.tuple #[]) (sp s c rn p q r<|pP all dh k):=by
 have w:=λ(j:Nat)=>IM (f:=λl=>gL l dh) (l:=all.drop k) (j:=j);have v:=B0 (λl=>gL l dh)<|all.drop k;have g:=uD (λl=>gL l dh)<|all.drop k;have t:(all.drop k).length<=all.length:=iq
 have B:=a.len;unfold pP;generalize ((all.drop k).takeWhile λl=>gL l dh).length=m at w v g |-;refine aH (a.no 257 dq) func257 O<|za (sp s c rn p q r k)<|aV (NC c) kq ?_;intro A;refine aF<|bn (bw (Q:=λe b h=>e=.exit 0/\h=sp s c rn p q r (k+m)/\∃x,b=NC c x) (λu b h=>∃j,u+j=m/\h=sp s c rn p q r (k+j)/\∃x,b=NC c x) ?_ m _ _ ⟨0,oq,O,A,O⟩) ?_
 .rintro u b h ⟨j,D,rfl,x,rfl⟩;have i:=jI (s:=s) (c:=c) (p:=p) (q:=q) (r:=r) a (k:=k+j) oq;by_cases z:j<m
  .have⟨l,d,y⟩:=w j z;have⟨n,o⟩:=nD d;rw[n] at i;have U:=a.one (sp s c rn p q r<|k+j) l dh (.inr o) xN;rw[show gL l dh=true by simpa using y] at U;exact aB<|zr<|zc 1 i<|zc 0 U<|am<|zT<|aF<|zx<|zg 3 (sp s c rn p q r<|k+j)<|zp (yl c 1 (num ((k+j:Nat):Int)) fN)<|zp (yp ((k+j:Nat):Int) 1 ((k+(j+1):Nat):Int) oq oq)<|zg 2 (sp s c rn p q r<|k+j)<|zp (ys c 1 (num ((k+(j+1):Nat):Int)) fN iq)<|am ⟨u-1,oq,j+1,oq,rD,bu kq⟩
  .obtain rfl:j=m:=oq
   have U:Ef pr 328 #[.int .i32 (fF all<|k+j),str dh] (sp s c rn p q r<|k+j) (.bool false) (sp s c rn p q r<|k+j):=by
    rcases v with d|⟨l,d,y⟩
    .have e:fF all (k+j) = -1:=by rw[sK,d];rfl
     rw[e];exact a.one _ _ dh (.inl O) xN
    .have⟨n,o⟩:=nD d;rw[n]
     have:=a.one (sp s c rn p q r<|k+j) l dh (.inr o) xN;grind
   exact aB<|zr<|zc 1 i<|zc 0 U<|am<|zG<|aR ⟨O,O,bu kq⟩
 rintro e b h ⟨rfl,rfl,x,rfl⟩;exact⟨.inl O,kq,kq⟩
def BL(all:Iq)(k:Nat):Bool:=decide (k<pP all (dh++[47]) k)&&(fF all (pP all (dh++[47]) k-1)==47)
def NO:I0 (dh++[47]):=by intro b h;simp at h;rcases h with rfl|rfl|rfl|rfl|rfl|rfl<;>decide
def BK(c:Nat)(b:Bool)(x:Nq):TL:=[aC c 0,x 1,.bool b]++gG x 3 14
theorem Qd(a:K2 rn all pr)(H:k<=200000):Ef pr 324 #[aC c 0] (sp s c rn p q r k) (.bool<|BL all k) (sp s c rn p q r<|pP all (dh++[47]) k):=by
 have z:=λ(j:Nat)=>IM (f:=λl=>gL l<|dh++[47]) (l:=all.drop k) (j:=j);have y:=B0 (λl=>gL l<|dh++[47])<|all.drop k;have n:=uD (λl=>gL l<|dh++[47])<|all.drop k;have w:(all.drop k).length<=all.length:=iq
 have F:=a.len;unfold BL pP;generalize ((all.drop k).takeWhile λl=>gL l<|dh++[47]).length=m at z y n |-;refine aH (a.no 324 dq) func324 O<|zs<|za (sp s c rn p q r k)<|aV (BK c false) kq ?_;intro E;refine aB<|aF<|bn (bw (Q:=λe d o=>e=.exit 0/\o=sp s c rn p q r (k+m)/\∃x,d=BK c (decide (k<k+m)&&(fF all (k+m-1)==47)) x) (λu d o=>∃j,u+j=m/\o=sp s c rn p q r (k+j)/\∃x,d=BK c (decide (k<k+j)&&(fF all (k+j-1)==47)) x) ?_ m _ _ ⟨0,oq,O,E,by simp[BK]⟩) ?_
 .rintro u d o ⟨j,I,rfl,x,rfl⟩;have g:=jI (s:=s) (c:=c) (p:=p) (q:=q) (r:=r) a (k:=k+j) oq;by_cases D:j<m
  .have⟨l,h,A⟩:=z j D;have⟨t,v⟩:=nD h;have i:(decide (k<k+(j+1))&&(fF all (k+(j+1)-1)==47))=(l==47):=gq
   rw[t] at g;have U:=a.one (sp s c rn p q r<|k+j) l (dh++[47]) (.inr v) NO;rw[show gL l (dh++[47])=true by simpa using A] at U;refine aB<|zr<|zc 1 g<|zc 0 U<|am<|zT<|aF<|zr<|zc 1 g<|zp (yb (.int .i32 l) (.int .i32 47)<|dp O) ?_;generalize C:(l==(47:Int))=G at i;exact zf<|za (sp s c rn p q r<|k+j)<|zx<|zg 3 (sp s c rn p q r<|k+j)<|zp (yl c 1 _ fN)<|zp (yp ((k+j:Nat):Int) 1 ((k+(j+1):Nat):Int) oq oq)<|zg 2 (sp s c rn p q r<|k+j)<|zp (ys c 1 _ fN iq)<|am ⟨u-1,oq,j+1,oq,rD,by rw[i];exact bu kq⟩
  .obtain rfl:j=m:=oq
   have U:Ef pr 328 #[.int .i32 (fF all<|k+j),str<|dh++[47]] (sp s c rn p q r<|k+j) (.bool false) (sp s c rn p q r<|k+j):=by
    rcases y with h|⟨l,h,A⟩
    .have e:fF all (k+j) = -1:=by rw[sK,h];rfl
     rw[e];exact a.one _ _ (dh++[47]) (.inl O) NO
    .have⟨t,v⟩:=nD h;rw[t]
     have:=a.one (sp s c rn p q r<|k+j) l (dh++[47]) (.inr v) NO;grind
   generalize fF all (k+j)=l at g U;exact aB<|zr<|zc 1 g<|zc 0 U<|am<|zG<|aR ⟨O,O,bu kq⟩
 rintro e d o ⟨rfl,rfl,x,rfl⟩;exact zs yR
def m7 (all:Iq)(k:Nat):Bq × Nat:=if fF all k=34 then (ek all (k+1)<|ib all [34]<|k+1,ib all [34] (k+1)+1) else if fF all k=39 then (ek all (k+1)<|ib all [39]<|k+1,ib all [39] (k+1)+1) else (ek all k<|ib all (dh++[62]) k,ib all (dh++[62]) k)
end
theorem Lx{x:Value}(c:x=aC b off)(U:P.underlying t=some (.pointer e))(a:P.underlying u=some .unsafePointer)(f:s.get b=some (.cells cs ty fz))(g:cz P e=some (k+1))(d:off<cs.size):ir P t u x s=some (aC b off):=by subst c;unfold ir;simp[aC];grind
theorem Ly{x:Value}(c:x=aC b off)(U:P.underlying t=some .unsafePointer)(a:P.underlying u=some (.pointer e))(f:s.get b=some (.cells cs ty (0,0)))(g:cz P e=some (k+1))(d:liesAt P P.depth ty (cs.size / P.cellsOf ty) off e 1=true):ir P t u x s=some (aC b off):=by subst c;unfold ir;simp only[aC];grind
theorem DI{z}(U:o.op=.binOp .neq t x y z)(f:a.at x=aC b off)(g:a.at y=aC b off)(d:P.underlying t=some (.pointer e))(h:cz P e=some (k+1)):cf P kt c a o s=some (.bool false,s):=by
 refine eG (by rw[U];rfl) gq ?_;unfold cI;rw[U];simp only;rw[f,g];have h1:dV .neq (aC b off) (aC b off)=none:=O;have h2:pe P .neq t (aC b off) (aC b off)=some (.bool false):=by unfold pe;simp only[aC,d];rw[h];simp
 rw[h1,h2]
structure jm where
 kind:Int
 text:Bq
 name:Bq
 at_:Value
 closed:Bool
abbrev fq(t:jm):Vq:=[num t.kind,str t.text,str t.name,t.at_,.bool t.closed]
section
variable (ts:List jm)
def qM:Aq:=(ts.flatMap fq).toArray
def uB:(qM ts).size=ts.length*5:=by
 unfold qM;induction ts with
 | nil=>rfl
 | cons t ts ih=>simp at ih |-;omega
def Ko(t:jm):((qM ts).toList.take (ts.length*5)++fq t).toArray=qM (ts++[t]):=by rw[tL (by rw[KO,uB];exact lr)];unfold qM;simp
end
def Cf (s:AS)(q:Value)(tx:Bq):Prop:=(q=aO/\tx=[])\/∃d fz,q=.slice (some ⟨d,0,none⟩) tx.length tx.length/\Has s d (.cells (qY tx) 5 fz)
def vr (s:AS)(r:Value)(ts:List jm):Prop:=(r=aO/\ts=[])\/∃d fz,r=.slice (some ⟨d,0,none⟩) ts.length ts.length/\Has s d (.cells (qM ts) 60 fz)
def SC (rn c:Nat)(s:AS)(k:Nat)(tx:Bq)(ts:List jm):Prop:=∃p q r,Has s c (ja rn k p q r)/\(p=.pointer none\/p=aC c 2)/\Cf s q tx/\vr s r ts
def blk (v:Value)(b:Nat):Prop:=∃off sp n m,v=.slice (some ⟨b,off,sp⟩) n m
def KS (c:Nat)(s:AS)(b:Nat):Prop:=b=c\/∃rn k p q r,s.get c=some (ja rn k p q r)/\(blk q b\/blk r b)
def iU (c:Nat)(s s':AS):Prop:=cL (KS c s) s s'/\∀b,b<s.nx->KS c s' b->KS c s b
variable {tx:Bq}{ts:List jm}
section
variable {c:Nat}{p' q' r':Value}
def iU.refl(s:AS):iU c s s:=⟨aE s,λ_ _ h=>h⟩
def iU.trans(h:iU c s s1)(d:iU c s1 s2):iU c s s2:=by have e:=h.1.1;exact⟨h.1.trans d.1 λb a z=>h.2 b a z,λb a z=>h.2 b a<|d.2 b oq z⟩
theorem KS.at(h:s.get c=some (ja rn k p q r)):KS c s b↔b=c\/blk q b\/blk r b:=by
 constructor
 .rintro(z|⟨_,_,_,_,_,z,w⟩)
  .exact .inl z
  .grind
 .rintro(z|z)
  .exact .inl z
  .exact .inr ⟨_,_,_,_,_,h,z⟩
def kG:=@KS.at
theorem iU.mk'(h1:Has s c (ja rn k p q r))(h2:Has s' c (ja rn k' p' q' r'))(U:cL (KS c s) s s')(d:q'=q\/∀b,blk q' b->s.nx<=b)(e:r'=r\/∀b,blk r' b->s.nx<=b):iU c s s':=by
 refine⟨U,λb a z=>(kG h1.2).2 ?_⟩;rcases(kG h2.2).1 z with z|z|z
 .exact .inl z
 .grind
 .grind
def cw(h:blk aO b):False:=by have⟨_,_,_,_,h⟩:=h;cases h
def dk(h:blk (.slice (sq d) n m) b):b=d:=by have⟨_,_,_,_,h⟩:=h;cases h;rfl
def eg(d n m:Nat):blk (.slice (sq d) n m) d:=⟨0,none,n,m,O⟩
def Cf.blk(h:Cf s q tx)(c:YtgcaionclkbehaaGreatDoor.blk q b):∃e a,Has s b (.cells e 5 a):=by
 rcases h with ⟨rfl,_⟩|⟨d,a,rfl,h⟩
 .exact(cw c).elim
 .rw[dk c];exact⟨_,_,h⟩
def vr.blk(h:vr s r ts)(c:YtgcaionclkbehaaGreatDoor.blk r b):∃e a,Has s b (.cells e 60 a):=by
 rcases h with ⟨rfl,_⟩|⟨d,a,rfl,h⟩
 .exact(cw c).elim
 .rw[dk c];exact⟨_,_,h⟩
def SC.no(h:SC rn c s k tx ts)(a:Has s b (.cells cs t fz))(h1:t≠121)(e:t≠5)(f:t≠60):¬KS c s b:=by
 have⟨p,q,r,d,j,g,i⟩:=h;intro z;rcases(kG d.2).1 z with z|z|z
 .exact a.ne d h1 z
 .have⟨_,_,z⟩:=g.blk z;exact a.ne z e O
 .have⟨_,_,z⟩:=i.blk z;exact a.ne z f O
def Cf.add(h:Cf s q tx)(x:Obj):Cf (s.add x) q tx:=h.imp id λ⟨d,a,h1,h3⟩=>⟨d,a,h1,h3.add x⟩
def vr.add(h:vr s r ts)(x:Obj):vr (s.add x) r ts:=h.imp id λ⟨d,a,h1,h3⟩=>⟨d,a,h1,h3.add x⟩
def SC.add(h:SC rn c s k tx ts)(x:Obj):SC rn c (s.add x) k tx ts:=by have⟨p,q,r,h1,h2,h3,a⟩:=h;exact⟨p,q,r,h1.add x,h2,h3.add x,a.add x⟩
def iU.add(h:SC rn c s k tx ts)(x:Obj):iU c s (s.add x):=by have⟨p,q,r,h1,_⟩:=h;exact iU.mk' h1 (h1.add x) ((aE s).add x) (.inl O)<|.inl O
def Cf.set(h:Cf s q tx)(a:Has s b (.cells cs t fz))(c:t≠5)(x:Option Obj):Cf (s.set b x) q tx:=h.imp id λ⟨d,f,h1,h3⟩=>⟨d,f,h1,h3.set (h3.ne a<|Ne.symm c) x⟩
def vr.set(h:vr s r ts)(a:Has s b (.cells cs t fz))(c:t≠60)(x:Option Obj):vr (s.set b x) r ts:=h.imp id λ⟨d,f,h1,h3⟩=>⟨d,f,h1,h3.set (h3.ne a<|Ne.symm c) x⟩
section
variable (h1:Has s c (ja rn k p q r))
def SC.sp(h2:p=.pointer none\/p=aC c 2)(h3:Cf s q tx)(h4:vr s r ts):SC rn c (sp s c rn p q r k') k' tx ts :=
 ⟨p,q,r,h1.put _,h2,h3.set h1 dq _,h4.set h1 dq _⟩
def iU.sp:iU c s (sp s c rn p q r k'):=iU.mk' h1 (h1.put _) (aL (aE s) (λ_=>.inl O) _) (.inl O)<|.inl O
end
variable {x0 x1 x4:Value}
theorem EI{m:Bq}(u:pr 261=none)(t:pr 156=none)(h:SC rn c s k tx ts)(K:tx.length+m.length<=1000000):∃v f,Ef pr 156 #[aC c 2,str m] s v f/\SC rn c f k (tx++m) ts/\iU c s f:=by
 have⟨p,q,r,h1,h2,h3,H⟩:=h;have I:Ef pr 261 #[aC c 2] s (.tuple #[]) (s.set c<|some<|.cells #[(aC rn 0),(num ↑k),aC c 2,q,r] 121):=by
  refine aH u func261 O<|zr<|zg 3 s<|zp (yl c 2 p h1.2) ?_;rcases h2 with rfl|rfl
  .exact zf<|zH<|zx<|zg 2 s<|zp (ur O kq<|Lx (off:=2) (b:=c) (k:=1) kq underlying117 underlying244 h1.2 kq iq)<|EO.q kq kq<|zo s<|zp (ur O kq<|Ly (off:=2) (b:=c) (k:=1) kq underlying244 underlying117 h1.2 kq kq)<|zg 2 s<|zp (ys c 2 (aC c 2) h1.2 iq)<|am ⟨.inl O,kq,kq⟩
  .exact zf<|zG<|zr<|zg 3 s<|zp (yl c 2 (aC c 2) h1.2)<|zg 1 s<|zp (DI (off:=2) (b:=c) (k:=1) O kq kq underlying117 kq)<|am<|zF ⟨.inl O,kq,(AS.xJ h1.2).symm⟩
 have e:Has (s.set c<|some<|ja rn k (aC c 2) q r) c (ja rn k (aC c 2) q r):=h1.put _;have o:Cf (s.set c<|some<|ja rn k (aC c 2) q r) q tx:=h3.set h1 dq _;have i:vr (s.set c<|some<|ja rn k (aC c 2) q r) r ts:=H.set h1 dq _;have y:iU c s (s.set c<|some<|ja rn k (aC c 2) q r):=iU.mk' h1 e (aL (aE s) (λ_=>.inl O) _) (.inl O)<|.inl O;generalize s.set c (some<|ja rn k (aC c 2) q r)=a at *;have n:∃w U,ce prog 5 q (strCells ⟨m.toArray⟩) m.length a=some (w,U)/\w.cells=#[w]/\w.oneCell'=true/\kQ q=true/\Has U c (ja rn k (aC c 2) q r)/\Cf U w (tx++m)/\vr U r ts/\cL (KS c a) a U/\(w=q\/∀b,blk w b->a.nx<=b):=by
  cases m with
  | nil =>
   rcases o with ⟨rfl,rfl⟩|⟨d,fz,rfl,q3⟩
   .exact⟨_,a,yW<|.inl O,O,O,O,e,.inl ⟨O,O⟩,i,aE a,.inl O⟩
   .exact⟨_,a,yW<|.inr ⟨d,_,_,O⟩,O,O,O,e,.inr ⟨d,fz,by rw[List.append_nil],by rw[List.append_nil];exact q3⟩,i,aE a,.inl O⟩
  | cons x m =>
   rcases o with ⟨rfl,rfl⟩|⟨d,fz,rfl,q3⟩
   .exact⟨_,_,kI iq,O,O,O,e.add _,.inr ⟨a.nx,(1,1),O,aI a _⟩,i.add _,(aE a).add _,.inr λb z=>Nat.le_of_eq (dk z).symm⟩
   .have J:(qY tx).size=tx.length:=by simp[strCells]
    refine⟨_,_,im (sz:=1) iq q3.2 kq gq oq,O,O,O,(e.set (e.ne q3 dq) none).add _,.inr ⟨a.nx,(1,1),by rw[lA],?_⟩,(i.set q3 dq none).add _,(aL (aE a) (λ_=>(kG e.2).2<|.inr<|.inl<|eg _ _ _) none).add _,.inr λb z=>Nat.le_of_eq (dk z).symm⟩;have:List.take (tx.length*1) (qY tx).toList=strCells ⟨tx.toArray⟩:=gq
    rw[this,ot];exact aI (a.set d none) _
 have⟨w,U,e1,A,B,C,g,D,E,F,G⟩:=n;have j:iU c a (U.set c<|some<|ja rn k (aC c 2) w r):=iU.mk' e (g.put _) (aL F (λ_=>.inl O) _) G<|.inl O;suffices h:∃f,Ef pr 156 #[aC c 2,str m] s (.tuple #[num m.length,.nilIface]) f/\SC rn c f k (tx++m) ts/\iU c s f by grind
 exact aX t func156 O<|zs<|zr<|zc 1 I<|am<|zr<|zg 4 a<|zp (yl c 3 q e.2)<|zg 1 a<|zp (Bu (sl:=q) (m:=m) O kq kq underlying55 underlying9 kq kq oq C e1)<|zg 2 U<|zp (iH (b:=c) (off:=3) O kq kq A B kq g.2 iq)<|am<|zr<|zk 1<|zp (dL (l:=m) O underlying9 kq)<|zf<|aD ⟨.inr O,kq,⟨aC c 2,w,r,g.put _,.inr O,D.set g dq _,E.set g dq _⟩,y.trans j⟩
end
structure bH where
 kind:Int
 parent:Int
 name:Bq
 text:Bq
 bC:Value
def bH.cells(x:bH):Vq:=[num x.kind,num x.parent,str x.name,str x.text,x.bC]
abbrev bN(l:List bH):Aq:=(l.flatMap bH.cells).toArray
def eu{l:List bH}{x:bH}(h:l[i]?=some x)(j:Nat)(b:j<5):(bN l)[i*5+j]?=x.cells[j]?:=by
 rw[LY];induction l generalizing i with
 | nil=>simp at h
 | cons y l a =>
  cases i with
  | zero =>simp at h;subst h;rw[List.flatMap_cons,Cg<|by simp[bH.cells];omega,Nat.zero_mul,Nat.zero_add]
  | succ i =>rw[List.flatMap_cons,EN<|by simp[bH.cells];omega,show(i+1)*5+j-(bH.cells y).length=i*5+j by simp[bH.cells];omega];exact a h
theorem vD{a b c:Option Value}{u v w:Value}(g:a=some u)(h:b=some v)(i:c=some w)(p:bQ 20 u=true:=by rfl)(q:bQ 20 v=true:=by rfl)(r:bQ 20 w=true:=by rfl):∀x∈[(a,u),(b,v),(c,w)],x.1=some x.2/\bQ 20 x.2=true:=gq
def jS{d:TypeDesc}{s:AS}(e:P.underlying t=some d)(a:d.isRow=false)(c:s.get b=some (.cells cs ty fz))(f:cs[off]?=some v):bV P t (aC b off) s=some v:=by unfold bV;simp[aC,c,e,a];exact f
def gW{s:AS}(t:TypeId)(c:s.get b=some (.cells cs ty fz))(f:cs[off]?=some v)(e:ZW prog t=true:=by kernel_rfl):bV prog t (aC b off) s=some v:=by
 unfold ZW at e;cases h:prog.underlying t with
 | none=>rw[h] at e;cases e
 | some d=>rw[h] at e;exact jS h (by simpa using e) c f
theorem eX{s:AS}{ws:Vq}(U:o.op=.store t x y)(f:a.at x=aC b off)(g:a.at y=w)(d:w.cells=ws.toArray)(j:ws.all Value.oneCell'=true)(h:cz P t=some ws.length)(e:s.get b=some (.cells cs ty fz))(i:off+ws.length<=cs.size):cf P kt c a o s=some (undef,s.set b<|some<|.cells (putAt cs off ws) ty fz):=by unfold cf;rw[iw (by rw[U];simp[fR]),U];simp only;unfold ly;rw[f,g];simp only[aC,e,d];grind
abbrev iW(l:List (Bq × Bq)):Aq:=(l.flatMap λp=>[str p.1,str p.2]).toArray
def dI (s:AS)(v:Value)(l:List (Bq × Bq)):Prop:=(v=.slice none 0 0/\l=[])\/∃ab c fz,v=.slice (some ⟨ab,0,none⟩) l.length c/\ab<s.nx/\s.get ab=some (.cells (iW l) 47 fz)
theorem vP{l:List (Bq × Bq)}{p:Bq × Bq}(h:l[i]?=some p):i*2+2<=(iW l).size/\(((iW l).toList.drop<|i*2).take 2).toArray=#[str p.1,str p.2]:=by
 induction l generalizing i with
 | nil=>simp at h
 | cons q l U =>
  cases i with
  | zero =>grind
  | succ i =>grind
theorem iG{s s':AS}{news:Vq}{bytes:Nat}(U:o.op=.call { callee:=.builtin .append,args:=#[x,y],argTypes:=#[t,t] })(f:a.at x=sl)(g:a.at y=.slice (sq d) m k)(C:P.underlying t=some (.slice e))(hi:(P.info? e).map (λi=>(i.zero,i.size,i.bytes))=some (some z,sz,bytes))(D:z.cells.size=sz)(n:0<sz)(p:bytes<=1000)(l:kt e=false)(r:s.get d=some (.cells cs e fz))(j:ej sl (sq d)=true)(w:m<=1000000000)(u:m*sz<=cs.size)(A:cs.toList.take (m*sz)=news)(B:news.all Value.oneCell'=true)(h:ce P e sl news m s=some (v,s')):cf P kt c a o s=some (v,s'):=by
 have b:cI P a o=none:=by unfold cI;rw[U]
 have q:fC s sz (sq d) m=some news:=by unfold fC;grind
 unfold cf;rw[iw (by rw[U];simp[fR])];rw[U];simp only;rw[b];simp;rw[f,g];unfold gl;grind
abbrev Zs:Value:=.agg #[num 0,str [],str [],aO,.bool false]
def IL(t:jm)(h:t.at_.oneCell'=true):(fq t).all Value.oneCell'=true:=by show((num t.kind).oneCell'&&((str t.text).oneCell'&&((str t.name).oneCell'&&(t.at_.oneCell'&&((Value.bool t.closed).oneCell'&&true)))))=true;rw[h];rfl
def jc(h:∀b,blk v b->b<n):ej v (sq n)=true:=by
 unfold ej;split
 .next b a f m d g c e =>
  cases e
  have:=h b ⟨a,none,_,_,O⟩;cases hq:Nat.beq b n with
  | false=>rfl
  | true=>exact absurd (iC hq) oq
 .rfl
section
variable {c:Nat}
section
variable (h:vr s r ts)
def vr.lt:∀b,YtgcaionclkbehaaGreatDoor.blk r b->b<s.nx:=λb a=>by have⟨_,_,z⟩:=vr.blk h a;exact z.1
def vr.qB:bQ 20 r=true:=by rcases h with ⟨rfl,_⟩|⟨d',Oh,rfl,_⟩<;>rfl
def RF{x:Obj}(h1:Has s c x)(f:¬blk r c)(i:ts.length<=1000000)(t:jm):∃w a,ce prog 60 r (fq t) 1 s=some (w,a)/\w.cells=#[w]/\w.oneCell'=true/\vr a w (ts++[t])/\Has a c x/\cL (λb=>blk r b) s a/\∀b,blk w b->s.nx<=b:=by
 rcases h with ⟨rfl,rfl⟩|⟨d,fz,rfl,q3⟩
 .exact⟨_,_,kI dq,O,O,.inr ⟨s.nx,(1,1),O,aI s _⟩,h1.add _,(aE s).add _,λb z=>Nat.le_of_eq (dk z).symm⟩
 .have g:=uB ts;refine⟨_,_,im (sz:=5) dq q3.2 kq oq oq,O,O,?_,(h1.set (λe=>f<|e▸eg _ _ _) none).add _,(aL (aE s) (λ_=>eg _ _ _) none).add _,λb z=>Nat.le_of_eq (dk z).symm⟩;rw[Ko];exact .inr ⟨s.nx,(1,1),by rw[lA];rfl,aI _ _⟩
end
def vy (tx:Bq)(a:List jm):List jm:=if tx=[] then a else a++[⟨1,tx,[],aO,false⟩]
def SC.rc{p q:Value}(h1:Has s c (ja rn k p q r))(a:vr s r ts):¬blk r c:=λz=>by have⟨_,_,w⟩:=a.blk z;exact h1.ne w dq O
section
variable (eo:∀f,f∈zR->pr f=none)
def zh(h:SC rn c s k tx ts)(hx:tx.length<=1000000)(Y:ts.length<=1000000):∃G,Ef pr 73 #[aC c 0] s (.tuple #[]) G/\SC rn c G k [] (vy tx ts)/\iU c s G:=by
 have F:=h;have⟨p,q,r,h1,h2,h3,D⟩:=h;obtain⟨L,M,Z⟩:∃L M,q=.slice L tx.length M:=by
  rcases h3 with ⟨rfl,rfl⟩|⟨d,fz,rfl,_⟩
  .exact⟨none,0,rfl⟩
  .exact⟨_,_,rfl⟩
 have t:Ef pr 158 #[aC c 2] s (num tx.length) s:=by have o:=h1;rw[Z] at o;exact aH (eo 158 dq) func158 O<|zs<|zr<|zg 3 s<|zp (yl c 3 (.slice L (List.length tx) M) o.2)<|zf yR
 refine aX (eo 73 dq) func73 rfl<|zr<|zc 3 t ?_;by_cases y:tx=[]
 .subst y;exact zp (yb (num (([]:Bq).length:Nat)) (num 0)<|fA (b:=false) dq)<|am<|za s<|zF ⟨.inl rfl,kq,F,iU.refl s⟩
 .have T:0<tx.length:=HU.2 y;rcases h3 with ⟨_,z⟩|⟨d,fz,hq2,q3⟩
  .exact absurd z y
  rw[hq2] at h1;have v:Ef pr 84 #[aC c 2] s (str tx) (s.set d none):=by
   obtain⟨a5,tx,rfl⟩:∃a5 h,tx=a5::h:=by
    cases tx with
    | nil=>exact absurd O y
    | cons a5 tx=>exact⟨a5,tx,O⟩
   refine aH (eo 84 dq) func84 O<|zs<|aB<|aP kq kq kq<|zq<|zq<|zq<|zt s<|zu (yl c 3 (.slice (sq d) (a5::tx).length (a5::tx).length) h1.2)<|zq<|zq<|zq<|zq<|zt s<|zu (yl c 3 (.slice (sq d) (a5::tx).length (a5::tx).length) h1.2)<|zq<|zt s<|zu (Bz O kq kq kq q3.2 kq iq oq)<|zq ?_;have a:bV prog 55 (aC c 3) s=some (.slice (sq d) (a5::tx).length (a5::tx).length):=by unfold bV;simp only[aC,h1.2,underlying55];rfl
   exact bq ⟨kN<|jT a a O O,_,_,_,_,_,_,O,O,yR⟩
  have E:bV prog 56 (aC c 4) s=some r:=jS underlying56 rfl h1.2 (off:=4) rfl;have e1:Has (s.set d none) c (ja rn k p (.slice (sq d) tx.length tx.length) r):=h1.set (h1.ne q3 dq) none;have e:bV prog 56 (aC c 4) (s.set d none)=some r:=jS underlying56 rfl e1.2 (off:=4) rfl;have x:=D.qB;have Q:cL (KS c s) s (s.set d none):=aL (aE s) (λ_=>(kG h1.2).2<|.inr<|.inl<|eg _ _ _) none;have B:vr (s.set d none) r ts:=D.set q3 dq none;have a:=jc B.lt;have N:=B.add<|.cells (fq ⟨1,tx,[],aO,false⟩).toArray 60;have O:=aI (s.set d none)<|.cells (fq ⟨1,tx,[],aO,false⟩).toArray 60;have P:=e1.add<|.cells (fq ⟨1,tx,[],aO,false⟩).toArray 60;have R:=Q.add<|.cells (fq ⟨1,tx,[],aO,false⟩).toArray 60;have⟨w,A,I,U,V,W,C,J,K⟩:=RF N P (SC.rc h1 D) Y ⟨1,tx,[],aO,false⟩;have X:cL (KS c s) s A:=R.trans J λb _ z=>(kG h1.2).2<|.inr<|.inr z;have hw:∀b,blk w b->s.nx<=b:=λb z=>by have:=K b z;simp at this;omega
  generalize s.set d none=H at e1 e B a N O P I J K v Q R;refine zp (yb (num tx.length) (num 0)<|fA (b:=true)<|tD oq)<|am<|zH<|za s<|aB<|aP kq kq kq<|zq<|zq<|zq<|zq<|zt s<|zu (yl c 4 r h1.2)<|zq<|zq<|zq<|zt s<|yt v<|zq<|zq<|zt (H.add<|.cells (fq ⟨1,tx,[],aO,false⟩).toArray 60)<|zu (iG (sl:=r) (news:=fq ⟨1,tx,[],aO,false⟩) (d:=H.nx) (m:=1) (k:=1) (sz:=5) (z:=Zs) (bytes:=72) rfl kq kq underlying56 kq rfl dq dq kq O.2 a dq iq iq (IL _ rfl) I)<|zq<|zq<|zt A<|zu (iH (b:=c) (off:=4) rfl kq kq U V kq C.2 iq)<|bq ⟨kN<|jT E e x x,_,_,_,_,_,_,rfl,rfl,?_⟩;have n:=C.put<|ja rn k p (.slice (sq d) tx.length tx.length) w;have g:=W.set C dq<|some<|ja rn k p (.slice (sq d) tx.length tx.length) w;have S:cL (KS c s) s (A.set c<|some<|ja rn k p (.slice (sq d) tx.length tx.length) w):=aL X (λ_=>.inl rfl) _;refine za (A.set c<|some<|ja rn k p (.slice (sq d) tx.length tx.length) w) ?_;generalize A.set c (some<|ja rn k p (.slice (sq d) tx.length tx.length) w)=f at n g S |-;have u:Ef pr 159 #[aC c 2] f (.tuple #[]) (f.set c<|some<|ja rn k (.pointer none) aO w):=by refine aH (eo 159 dq) func159 rfl<|zr<|zg 3 f<|zp (ys c 2 (.pointer none) n.2 iq)<|am ?_;have i:=n.put<|ja rn k (.pointer none) (.slice (sq d) tx.length tx.length) w;have j:=AS.set_set f c (some<|ja rn k (.pointer none) (.slice (sq d) tx.length tx.length) w)<|some<|ja rn k (.pointer none) aO w;refine za (f.set c<|some<|ja rn k (.pointer none) (.slice (sq d) tx.length tx.length) w) ?_;generalize f.set c (some<|ja rn k (.pointer none) (.slice (sq d) tx.length tx.length) w)=s5 at i j |-;exact zx<|zg 3 s5<|zp (ys c 3 aO i.2 iq)<|am ⟨.inl rfl,kq,by rw[<-j];kernel_rfl⟩
  have l:Has (f.set c<|some<|ja rn k (.pointer none) aO w) c (ja rn k (.pointer none) aO w):=n.put _;refine zx<|zc 3 u<|am ⟨.inl rfl,kq,⟨.pointer none,aO,w,l,.inl rfl,.inl ⟨rfl,rfl⟩,?_⟩,iU.mk' h1 l (aL S (λ_=>.inl rfl) _) (.inr λb z=>(cw z).elim)<|.inr hw⟩;unfold vy;rw[iw y];exact g.set n dq _
def QU(h:SC rn c s k tx ts)(V:tx.length<=1000000)(Z:ts.length<=900000)(t:jm)(x:t.at_.oneCell'=true)(y:bQ 19 t.at_=true):∃B,Ef pr 249 #[aC c 0,.agg (fq t).toArray] s (.tuple #[]) B/\SC rn c B k [] (vy tx ts++[t])/\iU c s B:=by
 have⟨a,S,v,g⟩:=zh eo (h.add<|.cells (fq t).toArray 60) V oq;have T:(vy tx ts).length<=ts.length+1:=by unfold vy;split<;>simp
 have f:Has a s.nx (.cells (fq t).toArray 60):=by
  refine(aI s _).fr g.1 λz=>?_;have⟨p,q,r,E,q2,W,X⟩:=h;have Y:=E.1;rcases(kG (E.add<|.cells (fq t).toArray 60).2).1 z with z|z|z
  .omega
  .have⟨_,_,z⟩:=W.blk z;have:=z.1;omega
  .have⟨_,_,z⟩:=X.blk z;have:=z.1;omega
 have⟨p,q,r,h1,h2,h3,e⟩:=v;have u:=jS (P:=prog) (t:=56) underlying56 rfl h1.2 (off:=4) rfl;have i:bV prog 60 (aC s.nx 0) a=some (.agg (fq t).toArray):=by unfold bV;simp only[aC,f.2,underlying60];kernel_rfl
 have A:bQ 20 (.agg (fq t).toArray)=true:=by show((bQ 19<|num t.kind)&&((bQ 19<|str t.text)&&((bQ 19<|str t.name)&&(bQ 19 t.at_&&(bQ 19 (.bool t.closed)&&true)))))=true;rw[y];rfl
 have L:=e.add<|.cells (fq t).toArray 60;have N:=h1.add<|.cells (fq t).toArray 60;have O:=(aE (K:=KS c a) a).add<|.cells (fq t).toArray 60;have⟨w,j,F,G,H,I,l,C,J⟩:=RF L N (SC.rc h1 e) oq t;have Q:=O.trans C λb _ z=>(kG h1.2).2<|.inr<|.inr z;have U:∀b,blk w b->a.nx<=b:=λb z=>by have:=J b z;simp at this;omega
 have D:Has _ c (ja rn k p q w):=l.put _;have R:=iU.mk' h1 D (aL Q (λ_=>.inl rfl) _) (.inl rfl)<|.inr U;have n:Cf j q []:=by
  rcases h3 with z|⟨d,fz,z1,z2⟩
  .exact .inl z
  .refine .inr ⟨d,fz,z1,(z2.add _).fr C λz=>?_⟩;have⟨_,_,z⟩:=e.blk z;exact z2.ne z dq rfl
 exact aX (eo 249 dq) func249 rfl<|zs<|za (s.add<|.cells (fq t).toArray 60)<|zr<|zc 1 S<|am<|za a<|aP kq kq kq<|zq<|zq<|zq<|zq<|zt a<|zu (yl c 4 r h1.2)<|zu (yA s.nx 0 5 ((fq t).toArray) f.2 iq)<|zq<|zt _<|zu (iG (sl:=r) (d:=a.nx) (m:=1) (k:=1) (sz:=5) (z:=Zs) (bytes:=72) rfl kq kq underlying56 kq rfl dq dq kq (aI a<|.cells (fq t).toArray 60).2 (jc e.lt) dq iq iq (IL _ x) F)<|zq<|zq<|zt j<|zu (iH (b:=c) (off:=4) (w:=w) rfl kq kq G H kq l.2 iq)<|bq ⟨kN<|jT u i e.qB A,_,_,_,_,_,_,rfl,rfl,⟨.inl rfl,kq,⟨p,q,w,D,h2,n.set l dq _,I.set l dq _⟩,((iU.add h<|.cells (fq t).toArray 60).trans g).trans R⟩⟩
end
end
end
section
open Go.Conc Go.RowKit Go.Lib Tryz
variable {b c k k' n:Nat}{tx:Bq}{av v:Value}{s s':AS}{xs:List bH}{pr:Prim}{wr:Bq->Int->Bq}
variable {B i off tb:Nat}{n1 nm sm stops tn v1 vl:Bq}{P:Program}{t ty:TypeId}{args cs:Aq}{fz:Nat × Nat}{K K':Nat->Prop}{at_ p0 v0:Value}{bb cl wh:Bool}{fn:Func}{l lu:List Nat}{x:bH}{kd pa r:Int}
variable {rn:Nat}{all:Iq}{p q:Value}{lo:Bq->Bq}{T:Bq->Prop}{W:Bq->Int->Prop}
section
variable {r:Value}
def Zk(e:K2 rn all pr)(d:k<=150000):Ef pr 366 #[aC c 0] (sp s c rn p q r k) (str (m7 all k).1) (sp s c rn p q r (m7 all k).2):=by
 by_cases a:fF all k=34
 .have m:=jI (s:=s) (c:=c) (p:=p) (q:=q) (r:=r) e (k:=k) oq;unfold m7;rw[ip a];rw[a] at m;have g:=IP (s:=s) (c:=c) (p:=p) (q:=q) (r:=r) e (b0:=34) dq (k:=k+1) oq;exact aH (e.no 366 dq) func366 O<|zs<|aB<|zr<|zc 1 m<|zf<|za (sp s c rn p q r k)<|zs<|aF<|zs<|za (sp s c rn p q r k)<|zH<|zr<|zg 3 (sp s c rn p q r k)<|zp (kO (b:=c) (off:=1) (v:=num k) O underlying3 O kq fN O)<|zp (jY (i:=(k:Nat)) (j:=1) (r:=((k+1:Nat):Int)) O kq kq oq oq)<|zg 2 (sp s c rn p q r k)<|zp (iH (b:=c) (off:=1) (w:=num ((k+1:Nat):Int)) O kq kq O O kq fN iq)<|am<|fe (sp s c rn p q r<|k+1) rD<|zr<|zc 3 g<|zf<|aD ⟨.inr O,kq,kq⟩
 .by_cases b:fF all k=39
  .have n:=jI (s:=s) (c:=c) (p:=p) (q:=q) (r:=r) e (k:=k) oq;unfold m7;rw[iw gq,ip b];rw[b] at n;have a:=IP (s:=s) (c:=c) (p:=p) (q:=q) (r:=r) e (b0:=39) dq (k:=k+1) oq;exact aH (e.no 366 dq) func366 O<|zs<|aB<|zr<|zc 1 n<|zf<|za (sp s c rn p q r k)<|zs<|aF<|zs<|za (sp s c rn p q r k)<|zH<|zr<|zg 3 (sp s c rn p q r k)<|zp (yl c 1 (num k) fN (i:=O))<|zp (jY (i:=(k:Nat)) (j:=1) (r:=((k+1:Nat):Int)) O kq kq oq oq)<|zg 2 (sp s c rn p q r k)<|zp (iH (b:=c) (off:=1) (w:=num ((k+1:Nat):Int)) O kq kq O O kq fN iq)<|am<|fe (sp s c rn p q r<|k+1) rD<|zr<|zc 3 a<|zf<|aD ⟨.inr O,kq,kq⟩
  .have f:=jI (s:=s) (c:=c) (p:=p) (q:=q) (r:=r) e (k:=k) oq;unfold m7;rw[iw a,iw b];have t:=N8 (s:=s) (c:=c) (p:=p) (q:=q) (r:=r) e (stops:=dh++[62]) (by intro o h;simp at h;rcases h with rfl|rfl|rfl|rfl|rfl|rfl<;>decide) (k:=k) oq;generalize fF all k=l at f a b;exact aH (e.no 366 dq) func366 O<|zs<|aB<|zr<|zc 1 f<|zf<|za (sp s c rn p q r k)<|zs<|aF<|aB<|zr<|zp (yb (.int .i32 l) (.int .i32 34)<|dp (b:=false)<|bF.2 a)<|zf<|zG<|zx<|zp (yb (.int .i32 l) (.int .i32 39)<|dp (b:=false)<|bF.2 b)<|zf<|za (sp s c rn p q r k)<|zF<|zr<|zc 1 t<|zf yR
def ow(a:k<=all.length):k<=ib all stops k/\ib all stops k<=all.length:=by
 have h1:=uD (λl=>!gL l stops)<|all.drop k;have h2:(all.drop k).length=all.length-k:=iq
 unfold ib;omega
def wo(a:k<=all.length):k<=pP all stops k/\pP all stops k<=all.length:=by
 have h1:=uD (λl=>gL l stops)<|all.drop k;have h2:(all.drop k).length=all.length-k:=iq
 unfold pP;omega
theorem l6(h:fF all k ≠ -1):k<all.length:=by unfold fF at h;grind
theorem N9(U:k<=all.length):k<=(m7 all k).2/\(m7 all k).2<=all.length+1:=by
 unfold m7;split
 .next h =>
  have h1:k<all.length:=l6 gq
  have:=ow (all:=all) (stops:=[34]) (k:=k+1) oq;grind
 .split
  .next h =>
   have h1:k<all.length:=l6 gq
   have:=ow (all:=all) (stops:=[39]) (k:=k+1) oq;grind
  .have:=ow (stops:=dh++[62]) U;grind
abbrev BR:Bq:=[9,10,12,13,32,47,62,61]
abbrev eF:Bq:=[9,10,12,13,32,47,62]
def Wp:I0 BR/\I0 eF:=by
 constructor<;>(intro b h;simp at h)
 .rcases h with rfl|rfl|rfl|rfl|rfl|rfl|rfl|rfl<;>decide
 .rcases h with rfl|rfl|rfl|rfl|rfl|rfl|rfl<;>decide
section
variable (all:Iq)
def qx(k:Nat):Nat:=ib all BR<|k+1
def E4(k:Nat):Nat:=pP all dh<|qx all k
def Ci(k:Nat):Nat:=pP all dh<|E4 all k+1
def nh(lo:Bq->Bq)(wr:Bq->Int->Bq)(k:Nat):(Bq × Bq) × Nat :=
 if fF all (E4 all k)=61 then ((lo<|ek all k<|qx all k,wr (m7 all<|Ci all k).1 1),(m7 all<|Ci all k).2) else ((lo<|ek all k<|qx all k,[]),E4 all k)
end
def K7(a:k<all.length):k+1<=qx all k/\qx all k<=E4 all k/\E4 all k<=all.length:=by unfold E4 qx;have h1:=ow (all:=all) (stops:=BR) (k:=k+1) oq;have h2:=wo (stops:=dh) h1.2;omega
theorem G4(U:k<all.length)(h:fF all (E4 all k)=61):E4 all k+1<=Ci all k/\Ci all k<=all.length:=by have h1:E4 all k<all.length:=l6 gq;exact wo oq
theorem yX{lo:Bq->Bq}{wr:Bq->Int->Bq}(U:k<all.length):k<(nh all lo wr k).2/\(nh all lo wr k).2<=all.length+1:=by
 have h1:=K7 U;unfold nh;split
 .next h =>have h2:=G4 U h;have h3:=N9 h2.2;grind
 .grind
structure PrH(rn:Nat)(all:Iq)(lo:Bq->Bq)(wr:Bq->Int->Bq)(T:Bq->Prop)(W:Bq->Int->Prop)(pr:Prim):Prop where
 g:K2 rn all pr
 low:∀(s:AS) (t:Bq),T t->EF prog kg pr 258 #[str t] s (str<|lo t) s
 wrs:∀(s:AS) (t:Bq) (k:Int),W t k->s.get 1=some (.cells dy.toArray 335)->rn<s.nx->EF prog kg pr 157 #[str t,num k] s (str<|wr t k) s
def KY(all:Iq)(T:Bq->Prop)(W:Bq->Int->Prop)(k:Nat):Prop:=T (ek all k<|qx all k)/\(fF all (E4 all k)=61->W (m7 all<|Ci all k).1 1)
abbrev fy(a b:Bq):Obj:=.cells #[str a,str b] 47
def fX{d:TypeDesc}(f:P.underlying t=some d)(a:d.isRow=true)(g:cz P t=some n)(e:s.get b=some (.cells cs ty fz))(c:off+n<=cs.size):bV P t (aC b off) s=some (.agg (cs.toList.drop off |>.take n).toArray):=by unfold bV;simp only[aC,e,f,a,g,if_true];rw[ip c]
theorem Ss(x:PrH rn all lo wr T W pr)(hk:k<all.length)(ho:KY all T W k)(h1:Has s c (ja rn k p q r))(a5:c≠1)(a9:Has s 1 (.cells dy.toArray 335))(hr:rn<s.nx):∃s',Ef pr 326 #[aC c 0] s (.agg #[str (nh all lo wr k).1.1,str (nh all lo wr k).1.2]) s'/\Has s' c (ja rn (nh all lo wr k).2 p q r)/\cL (λb=>b=c) s s':=by
 have aa:=x.g.len;have hl1:=K7 hk;have a6:=G4 (all:=all) hk;have B:=h1.add<|fy [] [];have a2:=aI s<|fy [] [];have a3:=a9.add<|fy [] [];have a4:=(aE (K:=λb=>b=c) s).add<|fy [] [];have o:c≠s.nx:=by have:=h1.1;omega
 have a7:(s.add<|fy [] []).nx=s.nx+1:=rfl;have hS0:s.add (fy [] [])=s.add (fy [] []):=rfl;refine aX (x.g.no 326 dq) func326 rfl<|zs<|za (s.add<|fy [] []) ?_;generalize s.add (fy [] [])=S at B a2 a3 a4 a7 hS0 |-;have hself:=om B.2;have D:c≠S.nx:=by have:=B.1;omega
 have a8:s.nx≠S.nx:=oq
 have b1:∀e,Has (sp S c rn p q r e) c (ja rn e p q r):=λe=>B.put _;have b2:∀e,Has (sp S c rn p q r e) s.nx (fy [] []):=λe=>a2.set (Ne.symm o) _;have b3:∀e,Has (sp S c rn p q r e) 1 (.cells dy.toArray 335):=λe=>a3.set (Ne.symm a5) _;have b4:∀e,cL (λb=>b=c) s (sp S c rn p q r e):=λe=>aL a4 (λ_=>rfl) _;have N:=N8 (s:=S) (c:=c) (p:=p) (q:=q) (r:=r) x.g Wp.1 (k:=k+1) oq;rw[show ib all BR (k+1)=qx all k from rfl] at N;have M:=tg x.g (s:=sp S c rn p q r<|qx all k) (k:=k) (j:=qx all k) oq;have t:=x.low (sp S c rn p q r<|qx all k) _ ho.1;have C:∀v e,(if fF all (E4 all k)=61 then (((lo<|ek all k<|qx all k,wr (m7 all<|Ci all k).1 1),(m7 all<|Ci all k).2):(Bq × Bq) × Nat) else ((lo<|ek all k<|qx all k,[]),E4 all k))=((lo<|ek all k<|qx all k,v),e)->nh all lo wr k=((lo<|ek all k<|qx all k,v),e):=λv e h=>h;generalize lo (ek all k<|qx all k)=a at t C;have R:=(b1<|qx all k).add<|fy a [];have Y:=(b2<|qx all k).add<|fy a [];have d3:=(b3<|qx all k).add<|fy a [];have Z:=(b4<|qx all k).add<|fy a [];have d5:Has ((sp S c rn p q r<|qx all k).add<|fy a []) S.nx (fy a []):=aI (sp S c rn p q r<|qx all k)<|fy a [];have d6:((sp S c rn p q r<|qx all k).add<|fy a []).nx=S.nx+1:=rfl;have hZ:Has ((sp S c rn p q r<|qx all k).add<|fy [] []) S.nx (fy [] []):=aI (sp S c rn p q r<|qx all k)<|fy [] [];have H:((sp S c rn p q r<|qx all k).add<|fy [] []).set S.nx (some<|fy a [])=(sp S c rn p q r<|qx all k).add (fy a []):=AS.set_set (⟨(sp S c rn p q r<|qx all k).hp,S.nx+1⟩:AS) S.nx (some<|fy [] [])<|some<|fy a [];generalize hU:(sp S c rn p q r<|qx all k).add (fy a [])=U at R Y d3 Z d5 d6 H;have y:=om R.2;have L:=GF (s:=U) (c:=c) (p:=p) (q:=q) (r:=r) x.g (k:=qx all k) oq;rw[y,show pP all dh (qx all k)=E4 all k from rfl] at L;have I:=jI (s:=U) (c:=c) (p:=p) (q:=q) (r:=r) x.g (k:=E4 all k) oq;generalize ek all k (qx all k)=tx at M t;generalize O1:qx all k=A at *;generalize J:E4 all k=d at *;refine zr<|zg 3 S<|zp (yl c 1 (num k) B.2)<|zf<|za S<|zr<|zg 3 S<|zp (yl c 1 (num k) B.2)<|zp (yp k 1 ((k+1:Nat):Int) oq oq)<|zg 2 S<|zp (ys c 1 (num ((k+1:Nat):Int)) B.2 iq)<|am<|za (sp S c rn p q r<|k+1)<|zr<|zc 1 N<|am<|za (sp S c rn p q r A)<|aB<|aP kq kq kq<|zq<|zq<|zq<|zt (sp S c rn p q r A)<|zu (yl c 0 (aC rn 0) fN)<|zq<|zq<|zq<|zq<|zt (sp S c rn p q r A)<|zu (yl c 1 (num A) fN)<|yt M<|yt t<|zq<|zq<|zt ((sp S c rn p q r A).add<|fy [] [])<|zu (eX (b:=S.nx) (off:=0) (w:=.agg #[str a,str []]) (ws:=[str a,str []]) rfl kq kq rfl rfl kq hZ.2 iq)<|bq ⟨fY [(bV prog 84 (aC c 0)<|sp S c rn p q r A,aC rn 0),(bV prog 3 (aC c 1)<|sp S c rn p q r A,num A)] kq<|jT (ID _) (NQ _),_,_,_,_,_,_,rfl,rfl,za (((sp S c rn p q r A).add<|fy [] []).set S.nx<|some<|fy a []) ?_⟩;rw[H];refine zr<|zc 1 L<|am<|za (sp U c rn p q r d)<|aB<|zr<|zc 1 I ?_;by_cases G:fF all d=61
 .have a6:=a6 G;have u:=GF (s:=U) (c:=c) (p:=p) (q:=q) (r:=r) x.g (k:=d+1) oq;rw[show pP all dh (d+1)=Ci all k by unfold Ci;rw[J]] at u;have i:=Zk (s:=U) (c:=c) (p:=p) (q:=q) (r:=r) x.g (k:=Ci all k) oq;have X:=x.wrs (sp U c rn p q r (m7 all<|Ci all k).2) (m7 all<|Ci all k).1 1 (by have:=ho.2;rw[J] at this;exact this G) (d3.set (Ne.symm a5) _).2 (by show rn<U.nx;omega);have F:=C (wr (m7 all<|Ci all k).1 1) (m7 all<|Ci all k).2 gq;rw[F];generalize (m7 all<|Ci all k).1=t1 at i X F;generalize (m7 all<|Ci all k).2=m at i X F;generalize Ci all k=k3 at u i;generalize wr t1 1=f at X F;have w1:Has (sp U c rn p q r m) c (ja rn m p q r):=R.put _;have w2:Has (sp U c rn p q r m) s.nx (fy [] []):=Y.set (Ne.symm o) _;have w3:Has (sp U c rn p q r m) S.nx (fy a []):=d5.set (Ne.symm D) _;have w4:cL (λb=>b=c) s (sp U c rn p q r m):=aL Z (λ_=>rfl) _;have O:Has ((sp U c rn p q r m).set S.nx<|some<|fy a f) c (ja rn m p q r):=w1.set D _;have E:Has ((sp U c rn p q r m).set S.nx<|some<|fy a f) s.nx (fy [] []):=w2.set a8 _;have P:Has ((sp U c rn p q r m).set S.nx<|some<|fy a f) S.nx (fy a f):=w3.put _;have Q:cL (λb=>b=c) s ((sp U c rn p q r m).set S.nx<|some<|fy a f):=aL w4 (λz=>absurd z oq) _;refine zp (yb (.int .i32<|fF all d) (.int .i32 61)<|dp (b:=true)<|beq_iff_eq.2 G)<|am<|za (sp U c rn p q r d)<|zH<|zr<|zg 3 (sp U c rn p q r d)<|zp (yl c 1 (num d) fN)<|zp (yp d 1 ((d+1:Nat):Int) oq oq)<|zg 2 (sp U c rn p q r d)<|zp (ys c 1 (num ((d+1:Nat):Int)) fN iq)<|am<|fe (sp U c rn p q r<|d+1) rD<|zr<|zc 1 u<|am<|za (sp U c rn p q r k3)<|zx<|zc 1 i<|zc 0 X<|zg 1 (sp U c rn p q r m)<|zp (ys S.nx 1 (str f) w3.2 iq)<|am<|za ((sp U c rn p q r m).set S.nx<|some<|fy a f) ?_;generalize (sp U c rn p q r m).set S.nx (some<|fy a f)=V at O E P Q |-;have z1:=E.put<|fy a f;have z2:Has (V.set s.nx<|some<|fy a f) c (ja rn m p q r):=O.set o _;have z3:cL (λb=>b=c) s (V.set s.nx<|some<|fy a f):=aL Q (λz=>absurd z<|Nat.lt_irrefl _) _;exact zr<|zp (yA S.nx 0 2 #[str a,str f] P.2 iq)<|zo V<|zp (eX (b:=s.nx) (off:=0) (w:=.agg #[str a,str f]) (ws:=[str a,str f]) rfl kq kq rfl rfl kq E.2 iq)<|am<|za (V.set s.nx<|some<|fy a f)<|aD ⟨.inr rfl,(show _=bV prog 47 (aC s.nx 0) (V.set s.nx<|some<|fy a f) by kernel_rfl).trans<|fX (n:=2) underlying47 rfl kq z1.2 iq,z2,z3⟩
 .have F:=C [] d gq;rw[F];have O:Has (sp U c rn p q r d) c (ja rn d p q r):=R.put _;have E:Has (sp U c rn p q r d) s.nx (fy [] []):=Y.set (Ne.symm o) _;have P:Has (sp U c rn p q r d) S.nx (fy a []):=d5.set (Ne.symm D) _;have Q:cL (λb=>b=c) s (sp U c rn p q r d):=aL Z (λ_=>rfl) _;generalize fF all d=l at I G;refine zp (yb (.int .i32 l) (.int .i32 61)<|dp (b:=false)<|bF.2 G)<|am<|za (sp U c rn p q r d)<|zF ?_;generalize sp U c rn p q r d=V at O E P Q |-;have z1:=E.put<|fy a [];have z2:Has (V.set s.nx<|some<|fy a []) c (ja rn d p q r):=O.set o _;have z3:cL (λb=>b=c) s (V.set s.nx<|some<|fy a []):=aL Q (λz=>absurd z<|Nat.lt_irrefl _) _;exact zr<|zp (yA S.nx 0 2 #[str a,str []] P.2 iq)<|zo V<|zp (eX (b:=s.nx) (off:=0) (w:=.agg #[str a,str []]) (ws:=[str a,str []]) rfl kq kq rfl rfl kq E.2 iq)<|am<|za (V.set s.nx<|some<|fy a [])<|aD ⟨.inr rfl,(show _=bV prog 47 (aC s.nx 0) (V.set s.nx<|some<|fy a []) by kernel_rfl).trans<|fX (n:=2) underlying47 rfl kq z1.2 iq,z2,z3⟩
end
abbrev kH:=List<|Bq × Bq
def UN(a:pr 365=none)(b:Has s B (fy nm vl)):Ef pr 365 #[.agg #[str n1,str v1],aC B 0] s (.bool<|cZ n1 nm) (s.add<|fy n1 v1):=by have h1:=aI s<|fy n1 v1;have h2:=b.add<|fy n1 v1;refine aH a func365 O<|zs<|za (s.add<|fy n1 v1) ?_;generalize d:s.add _=S at h1 h2 |-;refine zr<|zg 1 S<|zp (yl s.nx 0 (str n1) h1.2)<|zg 1 S<|zp (yl B 0 (str nm) h2.2)<|zp (yb (str n1) (str nm)<|lw O) ?_;exact zf yR
abbrev Df(B:Nat):Value:=.func (.func 365) #[] #[aC B 0]
def NJ(av:Value)(B n i:Nat)(x:Nq):TL:=[av,Df B,x 2,x 3,num 0,x 5,av,num n,num i]++gG x 9 10
def dI.fk{l:kH}(h:dI s v l)(a:cL K s s')(d:∀b,blk v b->¬K b):dI s' v l:=by
 rcases h with h|⟨ab,c,fz,rfl,h1,h2⟩
 .exact .inl h
 .have:=Has.fr ⟨h1,h2⟩ a<|d ab<|eg _ _ _;exact .inr ⟨ab,c,fz,O,this.1,this.2⟩
def dI.lt{l:kH}(h:dI s v l):∀b,YtgcaionclkbehaaGreatDoor.blk v b->b<s.nx:=λb a=>by
 rcases h with ⟨rfl,_⟩|⟨ab,c,fz,rfl,h1,h2⟩
 .exact(cw a).elim
 .rw[dk a];exact h1
def dI.qB{l:kH}(h:dI s v l):bQ 20 v=true/\bQ 19 v=true/\v.oneCell'=true/\v.cells=#[v]:=by rcases h with ⟨rfl,_⟩|⟨ab,c,fz,rfl,h1,h2⟩<;>exact⟨rfl,rfl,rfl,rfl⟩
def dI.len{l:kH}(h:dI s v l):∃a b,v=.slice a l.length b:=by
 rcases h with ⟨rfl,rfl⟩|⟨ab,c,fz,rfl,h1,h2⟩
 .exact⟨none,0,O⟩
 .exact⟨_,_,O⟩
theorem TP(F:∀f,f∈zR->pr f=none){aY:kH}(M:Has s B (fy nm vl))(G:dI s av aY)(T:aY.length<=100000):∃a j,Ef pr 364 #[av,Df B] s (num j) a/\cL (λ_=>False) s a/\decide (j>=0)=aY.any λp=>cZ p.1 nm:=by
 have⟨u,v,J⟩:=G.len;suffices h:Ew pr (match f364.body with|some c=>c|none=>.skip) ((#[av,Df B]:Aq).toList++List.replicate (f364.ntmps-(#[av,Df B]:Aq).toList.length) undef) s (λe U d=>(e=.normal\/e=.ret)/\cL (λ_=>False) s d/\∃j,di prog f364 U d=some (num j)/\decide (j>=0)=aY.any λp=>cZ p.1 nm) by have⟨m,e,U,d,h1,N,h2,j,h3,L⟩:=h;exact⟨d,j,aH (F 364 dq) func364 Y ⟨m,e,U,d,h1,N,h3,Y⟩,h2,L⟩
 subst J;refine zs<|za s<|aB<|zs<|za s<|aV (NJ (.slice u aY.length v) B aY.length 0) kq ?_;intro R;generalize W:aY.length=n at *;refine aF<|bn (bw (Q:=λe U d=>(e=.exit 0/\cL (λ_=>False) s d/\((aY.any λp=>cZ p.1 nm)=false)/\∃x,U=NJ (.slice u n v) B n n x)\/(e=.ret/\cL (λ_=>False) s d/\∃j,di prog f364 U d=some (num j)/\decide (j>=0)=aY.any λp=>cZ p.1 nm)) (λm U a=>∃i,i+m=n/\cL (λ_=>False) s a/\((aY.take i).any λp=>cZ p.1 nm)=false/\∃x,U=NJ (.slice u n v) B n i x) ?_ n _ _ ⟨0,oq,aE s,Y,R,Y⟩) ?_
 .rintro m U a ⟨i,S,k,D,x,rfl⟩;by_cases V:0<m
  .have t:i<aY.length:=oq
   have H:aY[i]?=some aY[i]:=gE t;have⟨w,l⟩:=vP H;have A:aY.take (i+1)=aY.take i++[aY[i]]:=by simp_all
   have C:aY[i]∈aY:=zB t;generalize aY[i]=P at H l A C;have⟨n1,v1⟩:=P;obtain⟨g,y,rfl,X,O⟩:∃g y,u=some ⟨g,0,none⟩/\g<a.nx/\a.get g=some (.cells (iW aY) 47 y):=by
    have:=G.fk k<|λ_ _=>id;rcases this with ⟨_,z⟩|⟨g,cq,y,z1,z2,z3⟩
    .rw[z] at t;simp at t
    .grind
   have I:=M.fr k id;have b:=UN (F 365 dq) (n1:=n1) (v1:=v1) I;have q:cL (λ_=>False) s (a.add<|fy n1 v1):=k.add _;have o:(aY.take<|i+1).any (λp=>cZ p.1 nm)=cZ n1 nm:=gq
   have E:cZ n1 nm=true->(aY.any λp=>cZ p.1 nm)=true:=λh=>List.any_eq_true.2 ⟨_,C,h⟩;generalize cZ n1 nm=K at b o E;refine zr<|zp (yb (num i) (num n)<|bE<|tD oq)<|am<|aB<|zT<|aB<|aF<|zs<|za a<|zr<|zg 3 a<|zp (yi g 0 n v (i*2) none .i64 (i:Nat) 2 oq oq oq)<|zo a<|zp (jq (off:=i*2) (r:=#[str n1,str v1]) Y underlying47 Y kq kq O w l)<|yc #[] #[aC B 0] b<|am<|za (a.add<|fy n1 v1) ?_;cases K with
   | true =>exact zH<|zs<|aD<|.inr ⟨Y,q,(i:Nat),kq,by rw[E Y];exact tD oq⟩
   | false =>exact zF<|zx<|zp (yp i 1 ((i+1:Nat):Int) oq oq)<|zf ⟨m-1,oq,i+1,oq,q,o,bu kq⟩
  .obtain rfl:i=n:=oq
   rw[tL oq] at D;exact zr<|zp (yb (num i) (num i)<|bE<|fD oq)<|am<|aB<|zG<|aR<|.inl ⟨Y,k,D,bu kq⟩
 .rintro e U a (⟨rfl,k,h1,x,rfl⟩|⟨rfl,h⟩)
  .exact zs<|aD ⟨.inr Y,k,-1,kq,by rw[h1];rfl⟩
  .exact⟨.inr Y,h⟩
def W8(a:∀f,f∈zR->pr f=none){aY:kH}(c:Has s B (fy nm vl))(d:dI s av aY)(e:aY.length<=100000):∃b,Ef pr 322 #[av,Df B] s (.bool<|aY.any λp=>cZ p.1 nm) b/\cL (λ_=>False) s b:=by have⟨b,j,h1,h2,h3⟩:=TP a c d e;refine⟨b,aH (a 322 dq) func322 O<|zs<|zr<|zc 2 h1<|zp (yb _ _<|fQ h3) ?_,h2⟩;exact zf yR
def fc(aY:kH)(x:Bq × Bq):kH:=if decide (aY.length<20)&&!(aY.any λp=>cZ p.1 x.1) then aY++[x] else aY
def qW(l:kH):(iW l).size=l.length*2:=by
 induction l with
 | nil=>rfl
 | cons t b a=>simp at a |-;omega
def E5(l:kH)(x:Bq × Bq):((iW l).toList.take (l.length*2)++[str x.1,str x.2]).toArray=iW (l++[x]):=by rw[tL (by rw[KO,qW];exact lr)];simp
def RE{aY:kH}(h:dI s av aY)(x:Bq × Bq)(f:aY.length<=100000):∃w a,ce prog 47 av [str x.1,str x.2] 1 s=some (w,a)/\w.cells=#[w]/\w.oneCell'=true/\dI a w (aY++[x])/\cL (λb=>blk av b) s a/\∀b,blk w b->s.nx<=b:=by
 rcases h with ⟨rfl,rfl⟩|⟨d,cp,fz,rfl,q1,q2⟩
 .refine⟨_,_,kI dq,O,O,.inr ⟨s.nx,1,(1,1),O,(aI s _).1,(aI s _).2⟩,(aE s).add _,λb z=>Nat.le_of_eq (dk z).symm⟩
 .have e:=qW aY;refine⟨_,_,im (sz:=2) dq q2 kq oq oq,O,O,?_,(aL (aE s) (λ_=>eg _ _ _) none).add _,λb z=>Nat.le_of_eq (dk z).symm⟩;rw[E5];have c:=aI (s.set d none)<|.cells (iW<|aY++[x]) 47 (1,1);exact .inr ⟨s.nx,_,(1,1),by rw[lA];rfl,c.1,c.2⟩
abbrev ku(nm:Bq)(av:Value)(cl:Bool):Obj:=.cells #[str nm,av,.bool cl] 262
theorem SY(U:∀f,f∈zR->pr f=none){aY:kH}(H:Has s tb (ku tn av cl))(E:dI s av aY)(Q:aY.length<=100000)(nm g:Bq):∃v a,Ef pr 325 #[aC tb 0,.agg #[str nm,str g]] s (.tuple #[]) v/\Has v tb (ku tn a cl)/\dI v a (fc aY (nm,g))/\cL (λb=>b=tb\/blk av b) s v/\(a=av\/∀b,blk a b->s.nx<=b):=by
 have⟨l,o,T⟩:=E.len;have r:=H.add<|fy nm g;have x:=aI s<|fy nm g;have y:dI (s.add<|fy nm g) av aY:=E.fk ((aE s).add _) λ_ _=>id;have A:=(aE (K:=λb=>b=tb\/blk av b) s).add<|fy nm g;have G:¬blk av tb:=λz=>by
  rcases E with ⟨rfl,_⟩|⟨d,c,fz,rfl,q1,q2⟩
  .exact cw z
  .rw[dk z] at H;exact H.ne (⟨q1,q2⟩:Has s d _) dq rfl
 suffices h:Ew pr (match f325.body with|some c=>c|none=>.skip) ((#[aC tb 0,.agg #[str nm,str g]]:Aq).toList++List.replicate (f325.ntmps-(#[aC tb 0,.agg #[str nm,str g]]:Aq).toList.length) undef) s (λe I q=>(e=.normal\/e=.ret)/\∃a,Has q tb (ku tn a cl)/\dI q a (fc aY (nm,g))/\cL (λb=>b=tb\/blk av b) s q/\(a=av\/∀b,blk a b->s.nx<=b)) by have⟨m,e,I,q,h1,he,a,h2⟩:=h;exact⟨q,a,aH (U 325 dq) func325 rfl ⟨m,e,I,q,h1,he,rfl,rfl⟩,h2⟩
 refine zs<|za (s.add<|fy nm g) ?_;have R:(s.add<|fy nm g).nx=s.nx+1:=rfl;generalize s.add (fy nm g)=S at r x y A R |-;refine zs<|za S ?_;have⟨i,hH,j⟩:=W8 U x y Q;have B:=r.fr j id;have J:=x.fr j id;have C:=y.fk j λ_ _=>id;have V:=A.trans j λ_ _ z=>z.elim;refine zr<|zg 3 S<|zp (yl tb 1 av r.2) ?_;subst T;refine zk 1 ?_;by_cases D:aY.length<20
 .refine zp (yb (num aY.length) (num 20)<|bE (b:=true)<|tD oq)<|zg 4 S<|zp (yl tb 1 _ r.2)<|zc 1 hH ?_;unfold fc;rw[tD D,Bool.true_and];show EO _ _ _ _ _ _ _ _;generalize a6:(aY.any λp=>cZ p.1 nm)=W at *;cases W with
  | true =>refine zf<|za i<|zF ?_;grind
  | false =>
   have L:=B.add<|fy nm g;have X:dI (i.add<|fy nm g) _ aY:=C.fk ((aE (K:=λ_=>False) i).add _) λ_ _=>id;have Y:=V.add<|fy nm g;have Z:=aI i<|fy nm g;have⟨w,u,e1,e2,e3,e4,N,O⟩:=RE X (nm,g) Q;have M:=L.fr N G;have c7:=Y.trans N λb _ z=>.inr z;have F:=jc C.lt;have VH:S.nx<=i.nx:=j.1;have l1:bV prog 42 (aC tb 1) i=some _:=gW 42 B.2 (off:=1) rfl;have l2:bV prog 47 (aC s.nx 0) i=some (.agg #[str nm,str g]):=fX (n:=2) underlying47 rfl kq J.2 iq;refine zf<|za i<|zH<|aP kq kq kq<|zq<|zq<|zq<|zq<|zt i<|zu (yl tb 1 _ B.2)<|zu (yA s.nx 0 2 #[str nm,str g] J.2 iq)<|zq<|zt (i.add<|fy nm g)<|zu (iG (d:=i.nx) (m:=1) (k:=1) (sz:=2) (z:=.agg #[str [],str []]) (bytes:=32) rfl kq kq underlying42 kq rfl dq dq kq Z.2 F dq iq iq rfl e1)<|zq<|zq<|zt u<|zu (iH (b:=tb) (off:=1) (w:=w) rfl kq kq e2 e3 kq M.2 iq)<|bq ⟨kN<|jT l1 l2 C.qB.1,_,_,_,_,_,_,rfl,rfl,⟨.inl rfl,w,M.put _,?_,aL c7 (λ_=>.inl rfl) _,.inr λb z=>?_⟩⟩
   .have:=e4.fk (aL (K:=λb=>b=tb) (aE u) (λ_=>rfl)<|some<|ku tn w cl) λb z zz=>?_
    .exact this
    .have:=O b z
     have:=L.1;simp at *;omega
   .have:=O b z;simp at this;omega
 .refine zp (yb (num aY.length) (num 20)<|bE (b:=false)<|fD oq)<|zf<|za S<|zF ⟨.inl rfl,_,r,?_,A,.inl rfl⟩;unfold fc;grind
def Ir{a:TL}{b c:Tmp}{v1:Value}(f:fn.results.toList=[.cell b ty,.tmp c])(e:a.getD b undef=p0)(d:bV P ty p0 s=some v0)(h1:a.getD c undef=v1):di P fn a s=some (.tuple #[v0,v1]):=by unfold di;rw[f];simp only[List.mapM_cons,List.mapM_nil,mS,e,d,h1];rfl
abbrev js:Bq:=dh++[47]
def tz (all:Iq)(lo:Bq->Bq)(wr:Bq->Int->Bq):Nat->Nat->kH->Option (kH × Bool × Bool × Nat)
 | 0,_,_=>none
 | n+1,k,aY=>if fF all (pP all js k) = -1 then some ([],false,false,pP all js k) else if fF all (pP all js k)=62 then some (aY,BL all k,true,pP all js k+1) else tz all lo wr n (nh all lo wr<|pP all js k).2 (fc aY (nh all lo wr<|pP all js k).1)
def uI(all:Iq)(lo:Bq->Bq)(wr:Bq->Int->Bq)(T:Bq->Prop)(W:Bq->Int->Prop):Nat->Nat->Prop
 | 0,_=>True
 | n+1,k=>fF all (pP all js k) ≠ -1->fF all (pP all js k)≠62->KY all T W (pP all js k)/\uI all lo wr T W n (nh all lo wr<|pP all js k).2
def RQ(c tb:Nat)(x:Nq):TL:=[aC c 0,x 1,aC tb 0,.bool false]++gG x 4 25
section
variable {r:Value}
def Iz(a:k<=all.length+1):pP all stops k<=all.length+1/\k<=pP all stops k:=by
 by_cases h:k<=all.length
 .have:=wo (stops:=stops) h;omega
 .unfold pP;rw[Jk oq];simp;omega
theorem Y8(D:PrH rn all lo wr T W pr){aY:kH}(hk:k<=all.length)(hT:T (ek all k<|ib all eF k))(U:tz all lo wr n (ib all eF k) []=some (aY,cl,wh,k'))(E:uI all lo wr T W n (ib all eF k))(h1:Has s c (ja rn k p q r))(X:c≠1)(aj:Has s 1 (.cells dy.toArray 335))(hr:rn<s.nx) :
  ∃y a,Ef pr 248 #[aC c 0] s (.tuple #[.agg #[str (if wh then lo (ek all k<|ib all eF k) else []),a,.bool cl],.bool wh]) y/\Has y c (ja rn k' p q r)/\dI y a aY/\cL (λb=>b=c) s y/\(∀b,blk a b->s.nx<=b)/\k'<=all.length+2:=by
 have ao:=D.g.len;have O:=D.g.no;have R:=h1.add<|ku [] aO false;have Y:=aI s<|ku [] aO false;have Z:=aj.add<|ku [] aO false;have a4:=(aE (K:=λb=>b=c) s).add<|ku [] aO false;have j:c≠s.nx:=by have:=h1.1;omega
 have al:s.nx<(s.add<|ku [] aO false).nx:=iq
 suffices h:Ew pr (match f248.body with|some c=>c|none=>.skip) ((#[aC c 0]:Aq).toList++List.replicate (f248.ntmps-(#[aC c 0]:Aq).toList.length) undef) s (λe A v=>(e=.normal\/e=.ret)/\∃a,di prog f248 A v=some (.tuple #[.agg #[str (if wh then lo (ek all k<|ib all eF k) else []),a,.bool cl],.bool wh])/\Has v c (ja rn k' p q r)/\dI v a aY/\cL (λb=>b=c) s v/\(∀b,blk a b->s.nx<=b)/\k'<=all.length+2) by have⟨m,e,A,v,h1,he,a,h2,h3⟩:=h;exact⟨v,a,aH (O 248 dq) func248 rfl ⟨m,e,A,v,h1,he,h2,rfl⟩,h3⟩
 refine zs<|za (s.add<|ku [] aO false) ?_;generalize s.add (ku [] aO false)=S at R Y Z a4 al |-;have H:=N8 (s:=S) (c:=c) (p:=p) (q:=q) (r:=r) D.g Wp.2 (k:=k) oq;rw[om R.2] at H;have N:=ow (all:=all) (stops:=eF) hk;have l:=D.low (sp S c rn p q r<|ib all eF k) _ hT;generalize lo (ek all k<|ib all eF k)=i at l |-;generalize ek all k (ib all eF k)=tx at H l;generalize ib all eF k=t at H l N U E;have b1:Has (sp S c rn p q r t) c (ja rn t p q r):=R.put _;have b2:Has (sp S c rn p q r t) s.nx (ku [] aO false):=Y.set (Ne.symm j) _;have b3:Has (sp S c rn p q r t) 1 (.cells dy.toArray 335):=Z.set (Ne.symm X) _;have b4:cL (λb=>b=c) s (sp S c rn p q r t):=aL a4 (λ_=>rfl) _;have d1:Has ((sp S c rn p q r t).set s.nx<|some<|ku i aO false) c (ja rn t p q r):=b1.set j _;have d2:Has ((sp S c rn p q r t).set s.nx<|some<|ku i aO false) s.nx (ku i aO false):=b2.put _;have I:(1:Nat)≠s.nx:=by have:=aj.1;omega
 have d3:Has ((sp S c rn p q r t).set s.nx<|some<|ku i aO false) 1 (.cells dy.toArray 335):=b3.set I _;have d4:cL (λb=>b=c) s ((sp S c rn p q r t).set s.nx<|some<|ku i aO false):=aL b4 (λz=>absurd z<|Nat.lt_irrefl _) _;refine zr<|zc 1 H<|zc 0 l<|zg 1 (sp S c rn p q r t)<|zp (ys s.nx 0 (str i) b2.2 iq)<|am<|za ((sp S c rn p q r t).set s.nx<|some<|ku i aO false) ?_;generalize (sp S c rn p q r t).set s.nx (some<|ku i aO false)=V at d1 d2 d3 d4 |-;refine aV (RQ c s.nx) kq ?_;intro x0;refine aF ?_;have O1:t<=all.length+1:=oq
 clear H l b1 b2 b3 b4 R Y Z a4 N hT;refine bn (bw (Q:=λe A v=>e=.ret/\∃a,di prog f248 A v=some (.tuple #[.agg #[str (if wh then i else []),a,.bool cl],.bool wh])/\Has v c (ja rn k' p q r)/\dI v a aY/\cL (λb=>b=c) s v/\(∀b,blk a b->s.nx<=b)/\k'<=all.length+2) (λm A y=>∃k B a aa,k<=all.length+1/\B.length<=20/\tz all lo wr m k B=some (aY,cl,wh,k')/\uI all lo wr T W m k/\Has y c (ja rn k p q r)/\Has y s.nx (ku i a aa)/\Has y 1 (.cells dy.toArray 335)/\cL (λb=>b=c) s y/\dI y a B/\(∀b,blk a b->s.nx<=b)/\∃x,A=RQ c s.nx x) ?_ n _ _ ⟨t,[],aO,false,O1,iq,U,E,d1,d2,d3,d4,.inl ⟨rfl,rfl⟩,λb z=>(cw z).elim,x0,rfl⟩) ?_
 .rintro m A S ⟨k,B,a,aa,hk,aq,U,E,e1,e2,e3,e4,e5,e6,x,rfl⟩;cases m with
  | zero=>cases U
  | succ m =>
   have G:=Qd (s:=S) (c:=c) (p:=p) (q:=q) (r:=r) D.g (k:=k) oq;rw[om e1.2] at G;have P:=Iz (all:=all) (stops:=js) hk;unfold tz at U;unfold uI at E;generalize pP all (dh++[47]) k=f at G P U E;generalize BL all k=o at G U;have f1:Has (sp S c rn p q r f) c (ja rn f p q r):=e1.put _;have f2:Has (sp S c rn p q r f) s.nx (ku i a aa):=e2.set (Ne.symm j) _;have f3:Has (sp S c rn p q r f) 1 (.cells dy.toArray 335):=e3.set (Ne.symm X) _;have f4:cL (λb=>b=c) s (sp S c rn p q r f):=aL e4 (λ_=>rfl) _;have C:∀b,blk a b->b≠c:=λb z=>by have:=e6 b z;have:=h1.1;omega
   have ah:∀b,blk a b->b≠s.nx:=λb z=>by
    rcases e5 with ⟨rfl,_⟩|⟨d,cp,fz,rfl,q1,q2⟩
    .exact(cw z).elim
    .rw[dk z];exact(show Has S d _ from⟨q1,q2⟩).ne e2 dq
   have f5:dI (sp S c rn p q r f) a B:=e5.fk (aL (K:=λb=>b=c) (aE S) (λ_=>rfl) _) C;have g1:Has ((sp S c rn p q r f).set s.nx<|some<|ku i a o) c (ja rn f p q r):=f1.set j _;have g2:Has ((sp S c rn p q r f).set s.nx<|some<|ku i a o) s.nx (ku i a o):=f2.put _;have g3:Has ((sp S c rn p q r f).set s.nx<|some<|ku i a o) 1 (.cells dy.toArray 335):=f3.set I _;have g4:cL (λb=>b=c) s ((sp S c rn p q r f).set s.nx<|some<|ku i a o):=aL f4 (λz=>absurd z<|Nat.lt_irrefl _) _;have g5:dI ((sp S c rn p q r f).set s.nx<|some<|ku i a o) a B:=f5.fk (aL (K:=λb=>b=s.nx) (aE _) (λ_=>rfl) _) ah;refine aF<|zr<|zc 1 G<|zg 1 (sp S c rn p q r f)<|zp (ys s.nx 2 (.bool o) f2.2 iq)<|am<|za ((sp S c rn p q r f).set s.nx<|some<|ku i a o) ?_;generalize (sp S c rn p q r f).set s.nx (some<|ku i a o)=V at g1 g2 g3 g4 g5 |-;clear G f1 f2 f3 f4 f5 e1 e2 e3 e4 e5;have J:=jI (s:=V) (c:=c) (p:=p) (q:=q) (r:=r) D.g (k:=f) oq;rw[om g1.2] at J;refine aB<|zr<|zc 1 J<|am<|za V<|aF<|zr ?_;by_cases u:fF all f = -1
   .rw[ip u] at U;simp only[xH,Prod.mk.injEq] at U;have⟨ab,ae,af,ag⟩:=U;subst ab ae af ag;refine zp (yb (.int .i32<|fF all f) (.int .i32<|-1)<|dp (b:=true)<|beq_iff_eq.2 u)<|zf<|za V<|zH<|zr<|zg 1 V<|zp (eX (b:=s.nx) (off:=0) (w:=.agg #[str [],aO,.bool false]) (ws:=[str [],aO,.bool false]) rfl kq kq rfl rfl kq g2.2 iq)<|zf ?_;have z1:=g2.put<|ku [] aO false;exact za (V.set s.nx<|some<|ku [] aO false)<|aD ⟨rfl,aO,Ir rfl kq (fX (off:=0) (n:=3) underlying262 rfl kq z1.2 iq) kq,g1.set j _,.inl ⟨rfl,rfl⟩,aL g4 (λz=>absurd z<|Nat.lt_irrefl _) _,λb z=>(cw z).elim,oq⟩
   .rw[iw u] at U;refine zp (yb (.int .i32<|fF all f) (.int .i32<|-1)<|dp (b:=false)<|bF.2 u)<|zf<|za V<|zG<|zr ?_;by_cases F:fF all f=62
    .rw[ip F] at U;simp only[xH,Prod.mk.injEq] at U;have⟨ab,ae,af,ag⟩:=U;subst ab ae af ag;have z0:Has (sp V c rn p q r<|f+1) s.nx (ku i a o):=g2.set (Ne.symm j) _;have z1:=z0.put<|ku i a o;have z2:Has (sp V c rn p q r<|f+1) c (ja rn (f+1) p q r):=g1.put _;have z3:dI (sp V c rn p q r<|f+1) a B:=g5.fk (aL (K:=λb=>b=c) (aE V) (λ_=>rfl) _) C;exact zp (yb (.int .i32<|fF all f) (.int .i32 62)<|dp (b:=true)<|beq_iff_eq.2 F)<|zf<|za V<|zH<|zr<|zg 3 V<|zp (yl c 1 (num f) g1.2)<|zp (yp f 1 ((f+1:Nat):Int) oq oq)<|zg 2 V<|zp (ys c 1 (num ((f+1:Nat):Int)) g1.2 iq)<|am<|za (sp V c rn p q r<|f+1)<|zr<|zp (yA s.nx 0 3 #[str i,a,.bool o] z0.2 iq)<|zo (sp V c rn p q r<|f+1)<|zp (eX (b:=s.nx) (off:=0) (w:=.agg #[str i,a,.bool o]) (ws:=[str i,a,.bool o]) rfl kq kq rfl (by show((str i).oneCell'&&(a.oneCell'&&((Value.bool o).oneCell'&&true)))=true;rw[g5.qB.2.2.1];rfl) kq z0.2 iq)<|zf<|za ((sp V c rn p q r<|f+1).set s.nx<|some<|ku i a o)<|aD ⟨rfl,a,Ir rfl kq (fX (off:=0) (n:=3) underlying262 rfl kq z1.2 iq) kq,z2.set j _,z3.fk (aL (K:=λb=>b=s.nx) (aE _) (λ_=>rfl) _) ah,aL (aL g4 (λ_=>rfl) _) (λz=>absurd z<|Nat.lt_irrefl _) _,e6,oq⟩
    .rw[iw F] at U;have⟨ak,ai⟩:=E u F;have M:=l6 u;have hrV:rn<V.nx:=by have:=g4.1;omega
     have⟨S3,hA,i1,i2⟩:=Ss D M ak g1 X g3 hrV;have L:=yX (lo:=lo) (wr:=wr) M;generalize nh all lo wr f=ap at *;obtain⟨⟨an,vl⟩,k3⟩:=ap;have j2:=g2.fr i2<|Ne.symm j;have j3:=g3.fr i2<|Ne.symm X;have j4:=g4.trans i2 λb _ z=>z;have j5:=g5.fk i2 C;have⟨S4,av2,hG,l1,l2,l3,l4⟩:=SY O j2 j5 oq an vl;have hgl:(fc B (an,vl)).length<=max B.length 20:=by unfold fc;grind
     have hVn:s.nx<S3.nx:=j2.1;refine zp (yb (.int .i32<|fF all f) (.int .i32 62)<|dp (b:=false)<|bF.2 F)<|zf<|za V<|zF<|zx<|zc 1 hA<|zc 0 hG<|am ⟨m,Nat.lt_succ_self m,k3,fc B (an,vl),av2,o,L.2,oq,U,ai,i1.fr l3 ?_,l1,j3.fr l3 ?_,j4.trans l3 ?_,l2,?_,bu kq⟩;iterate 4
      .grind
 .rintro e A y ⟨rfl,h⟩;exact⟨.inr rfl,h⟩
end
abbrev dG:Obj:=.cells #[num 0,num 0,str [],str [],.slice none 0 0] 44
def ko{l:List bH}(h:l[i]?=some x):i*5+5<=(bN l).size/\(((bN l).toList.drop<|i*5).take 5).toArray=x.cells.toArray:=by
 induction l generalizing i with
 | nil=>simp at h
 | cons y l a =>
  cases i with
  | zero =>simp at h;subst h;simp[bH.cells]
  | succ i =>have⟨h1,h2⟩:=a h;simp only[List.size_toArray,List.flatMap_cons,lA,bH.cells,lC,List.length_nil] at h1 |-;refine⟨oq,?_⟩;rw[show(i+1)*5=5+i*5 by omega,<-List.drop_drop];simpa[bH.cells] using h2
def dI.one{aY:List (Bq × Bq)}(h:dI s v aY):Value.oneCell' v=true:=by rcases h with ⟨rfl,_⟩|⟨ab,c,fz,rfl,_⟩<;>rfl
def dB(s:AS)(v:Value)(lu:List Nat):Prop:=(v=.slice none 0 0/\lu=[])\/∃ob cp cs fz,v=.slice (some ⟨ob,0,none⟩) lu.length cp/\lu.length<=cp/\ob<s.nx/\s.get ob=some (.cells cs 3 fz)/\∀i k:Nat,lu[i]?=some k->cs[i]?=some (num k)
def Rx (o:Option Obj):Prop:=∀cs fz,o≠some (.cells cs 3 fz)
theorem Nj(h:dB s v lu)(i:Nat)(l:lu.length<=100000):∃a b,ce prog 3 v [num i] 1 s=some (a,b)/\s.nx<=b.nx/\dB b a (lu++[i])/\(∀k,k<s.nx->Rx (s.get k)->b.get k=s.get k)/\a.cells=#[a]/\a.oneCell'=true:=by
 rcases h with ⟨rfl,rfl⟩|⟨ob,cp,cs,fz,rfl,a3,a4,U,a0⟩
 .refine⟨_,_,kI dq,iq,.inr ⟨s.nx,1,_,_,O,iq,iq,by rw[AS.aZ,ip O],λj k c=>?_⟩,λk c _=>by rw[AS.aZ,iw oq],O,O⟩;grind
 .have f:lu.length<=cs.size:=by
   by_cases g:lu.length=0
   .omega
   .have d:lu.length-1<lu.length:=oq
    have:=a0 _ _<|gE d;grind
  refine⟨_,_,im (sz:=1) dq U kq oq oq,iq,.inr ⟨s.nx,_,_,_,by rw[lA];rfl,by rw[lA];exact lr,iq,by rw[AS.aZ,ip iq],λj k c=>?_⟩,λk c h3=>?_,O,O⟩
  .grind
  .rw[AS.aZ,iw<|by simp;omega,AS.aN,iw<|λe=>by rw[e] at h3;exact h3 _ _ U]
theorem re(a:pr 127=bP 127){RZ:List (Bq)}{d:Nat}(e:s.get d=some (.cells (RZ.map str).toArray 9 fz))(f:RZ.length<=1000)(U:(RZ.any λt=>cZ nm t)=bb):Ef pr 127 #[str nm,.slice (sq d) RZ.length c] s (.bool bb) s:=by
 have b:fC s 1 (sq d) RZ.length=some (RZ.map str):=by unfold fC;grind
 refine gp (a.trans O) ?_;simp only[b];rw[ip ⟨oq,by rw[List.all_map,aT];intro x _;rfl⟩,List.any_map,<-U];rfl
def eT (r:Int):Int:=if 65<=r/\r<=90 then r+32 else r
def mz (all:Iq):Nat->Bq->Bool
 | _,[]=>true
 | q,b::l=>(eT (fF all q)==(b.toNat:Int))&&mz all (q+1) l
def mL(h : -2000000000<=r/\r<=2000000000):eU .i32 r=r:=by unfold eU;rw[ip h]
section
variable {V:Aq->Option Value}
def Yg(a:pr 247=none)(c : -1<=r/\r<=1114111):Ef pr 247 #[.int .i32 r] s (.int .i32<|eT r) s:=by
 unfold eT;refine aH a func247 O<|zs<|aB<|zr<|zk 1 ?_;by_cases h1:65<=r
 .refine zp (bz (u:=.int .i32 65) O kq kq<|cx (b:=true)<|tD h1)<|zk 2 ?_;by_cases h2:r<=90
  .rw[ip ⟨h1,h2⟩];exact zp (bz (u:=.int .i32 r) O kq kq<|cx (b:=true)<|tD h2)<|zf<|zH<|zr<|zg 1 s<|bU (s1:=s) kq ((show _=some (Value.int .i32<|eU .i32<|r-65,s) by kernel_rfl).trans<|by rw[mL oq])<|zo s<|bU (s1:=s) kq ((show _=some (Value.int .i32<|eU .i32<|r-65+97,s) by kernel_rfl).trans<|by rw[mL oq,show r-65+97=r+32 by omega])<|zf<|aD ⟨.inr O,by kernel_rfl,by kernel_rfl⟩
  .rw[iw oq];exact zp (bz (u:=.int .i32 r) O kq kq<|cx (b:=false)<|fD h2)<|zf<|zF<|zs<|aD ⟨.inr O,by kernel_rfl,by kernel_rfl⟩
 .rw[iw oq];exact zp (bz (u:=.int .i32 65) O kq kq<|cx (b:=false)<|fD h1)<|zf<|zF<|zs<|aD ⟨.inr O,by kernel_rfl,by kernel_rfl⟩
def Nw(c p:Nat)(sm:Bq)(b:Nat)(x:Nq):TL:=[aC c 0,num p,str sm,x 3,x 4,x 5,x 6,x 7,x 8,str sm,aC b 0]++gG x 11 12
structure CG(rn:Nat)(all:Iq)(pr:Prim):Prop where
 BC:pr 146=jf rn all 146
 n70:pr 70=none
 acm:pr 150=none
 MD:pr 247=none
def Dm(B:CG rn all pr)(K:∀k,-1<=fF all k/\fF all k<=1114111){p:Nat}(J:∀b∈sm,b.toNat<128)(G:sm.length<16)(C:c<s.nx)(M:s.get c=some (.cells cs t fz))(I:cs[0]?=some (aC rn 0))(h1:cs[1]?=some (num k))(T:k+p<=900000) :
  ∃f,Ef pr 150 #[aC c 0,num p,str sm] s (.bool<|mz all (k+p) sm) f/\kU s.nx s f:=by
 have z:=Pm _ G;suffices a:Ew pr (match f150.body with|some c=>c|none=>.skip) ((#[aC c 0,num p,str sm]:Aq).toList++List.replicate (f150.ntmps-(#[aC c 0,num p,str sm]:Aq).toList.length) undef) s (λe i A=>(e=.normal\/e=.ret)/\di prog f150 i A=some (.bool<|mz all (k+p) sm)/\kU s.nx s A) by have⟨m,e,i,A,N,O,P,R⟩:=a;exact⟨A,aH (B.acm) func150 Y ⟨m,e,i,A,N,O,P,Y⟩,R⟩
 refine zs<|aB<|zr<|zg 1 s<|zp (zW (l:=sm) Y underlying9 kq z)<|am<|aV (Nw c p sm s.nx) kq ?_;intro S;refine aF<|bn (bw (Q:=λe i f=>kU s.nx s f/\((e=.exit 0/\mz all (k+p) sm=true/\∃x,i=Nw c p sm s.nx x)\/(e=.ret/\mz all (k+p) sm=false/\di prog f150 i f=some (.bool false)))) (λm i f=>∃j,m+j=sm.length/\f.get s.nx=some (.stringIter ⟨sm.toArray⟩ j)/\s.nx<f.nx/\kU s.nx s f/\mz all (k+p) sm=mz all (k+p+j) (sm.drop j)/\∃x,i=Nw c p sm s.nx x) ?_ sm.length _ _ ⟨0,by omega,by rw[AS.aZ,ip Y],by simp,kU.add lr,by simp,S,Y⟩) ?_
 .rintro m i f ⟨j,U,y,E,d,a,x,rfl⟩;by_cases D:j<sm.length
  .have v:=gE D;have H:=J sm[j] (zB D);rw[List.drop_eq_getElem_cons D] at a;generalize sm[j]=b at v H a;generalize o:f.set s.nx (some<|.stringIter ⟨sm.toArray⟩<|j+1)=u;have g:kU s.nx s u:=by rw[<-o];exact⟨d.1,λq L=>by rw[AS.aN,iw oq];exact d.2 q L⟩
   have F:=(g.2 c C).trans M;have w:=p6 (rn:=rn) (all:=all) (pr:=pr) (s:=u) B.n70 B.BC (p:=p+j) F I h1 oq;rw[show k+(p+j)=k+p+j by omega] at w;have h:=Yg B.MD (s:=u)<|K<|k+p+j;simp only[mz] at a;generalize V:fF all (k+p+j)=r at w h a;generalize eT r=lr at h a;refine zr<|zp (MU (b:=s.nx) (pos:=j) (l:=sm) (r:=b) Y kq y v H z) ?_;rw[o];refine zf<|za u<|aB<|zT<|aF<|zs<|za u<|zr<|zk 3<|zp (yp p (j:Nat) ((p+j:Nat):Int) oq oq)<|zo u<|yf w<|yf h<|zk 1 ?_;by_cases n:lr=(b.toNat:Int)
   .refine zp (yb (.int .i32 lr) (.int .i32 (b.toNat:Int))<|cM (b:=false)<|by simp[n])<|am<|zF ⟨m-1,by omega,j+1,by omega,?_,?_,g,?_,bu kq⟩
    .show u.get s.nx=_;rw[<-o,AS.aN,ip Y]
    .rw[<-o];exact E
    .rw[a,n];simp;rfl
   .refine zp (yb (.int .i32 lr) (.int .i32 (b.toNat:Int))<|cM (b:=true)<|by simp[n])<|am<|zH<|zs<|aD ⟨g,.inr ⟨Y,?_,by kernel_rfl⟩⟩;rw[a];simp[n]
  .obtain rfl:j=sm.length:=oq
   refine zr<|zp (ut (b:=s.nx) (l:=sm) Y kq y lr)<|zf<|za f<|aB<|zG<|aR ⟨d,.inl ⟨Y,?_,bu kq⟩⟩;rw[a,Jk lr];rfl
 .rintro e i f ⟨d,(⟨rfl,a,x,rfl⟩|⟨rfl,a,TA⟩)⟩
  .rw[a];exact zs<|aD ⟨.inr Y,by kernel_rfl,d⟩
  .rw[a];exact⟨.inr Y,TA,d⟩
end
structure Tok where
 kind:Int
 text:Bq
 name:Bq
 bC:kH
 closed:Bool
def Wi (s:AS)(t:jm)(u:Tok):Prop:=t.kind=u.kind/\t.text=u.text/\t.name=u.name/\t.closed=u.closed/\dI s t.at_ u.bC
def j9(s:AS)(ts:List jm)(us:List Tok):Prop:=ts.length=us.length/\∀(i:Nat) (t:jm) (u:Tok),ts[i]?=some t->us[i]?=some u->Wi s t u
def oO (rn c:Nat)(s:AS)(k:Nat)(tx:Bq)(us:List Tok):Prop:=∃ts,SC rn c s k tx ts/\j9 s ts us
def qT (rn c:Nat)(s:AS):Prop:=Has s 1 (.cells dy.toArray 335)/\rn<s.nx/\c≠1
variable {ts:List jm}{us:List Tok}
section
def j9.fr(h:j9 s ts us)(l:SC rn c s k tx ts)(j:iU c s s'):j9 s' ts us:=⟨h.1,λi t u m n=>by
 have⟨h1,h2,h3,g,f⟩:=h.2 i t u m n;refine⟨h1,h2,h3,g,f.fk j.1 λb a=>?_⟩;rcases f with ⟨e,_⟩|⟨d,cp,fz,e,q1,q2⟩
 .rw[e] at a;exact(cw a).elim
 .rw[e] at a;rw[dk a];exact l.no (⟨q1,q2⟩) dq dq dq⟩
def j9.snoc{t:jm}{u:Tok}(h:j9 s ts us)(b:Wi s t u):j9 s (ts++[t]) (us++[u]):=⟨by simp[h.1],λi c d h1 h2=>by
 by_cases a:i<ts.length
 .rw[Cg a] at h1;rw[Cg (by rw[<-h.1];exact a)] at h2;exact h.2 i c d h1 h2
 .rw[EN oq] at h1;rw[EN (by rw[<-h.1];omega),<-h.1] at h2;match hq:i-ts.length with
  | 0=>rw[hq] at h1 h2;cases h1;cases h2;exact b
  | q+1=>rw[hq] at h1;simp at h1⟩
def qT.fr(h:qT rn c s)(b:SC rn c s k tx ts)(a:iU c s s'):qT rn c s':=⟨h.1.fr a.1<|b.no h.1 dq dq dq,by have:=h.2.1;have:=a.1.1;omega,h.2.2⟩
def jK (tx:Bq)(a:List Tok):List Tok:=if tx=[] then a else a++[⟨1,tx,[],[],false⟩]
def j9.vy(h:j9 s ts us):j9 s (vy tx ts) (jK tx us):=by
 unfold YtgcaionclkbehaaGreatDoor.vy jK;split
 .exact h
 .exact h.snoc ⟨O,O,O,O,.inl ⟨O,O⟩⟩
def aW(nm:Bq)(l:List (Bq)):Bool:=l.any λt=>cZ nm t
abbrev ux:List (Bq):=[[115,99,114,105,112,116],[115,116,121,108,101]]
abbrev gP:List (Bq):=[[116,105,116,108,101],[116,101,120,116,97,114,101,97]]
section
variable (kK:pr 127=bP 127)
def Ik(a:pr 251=none)(nm:Bq):Ef pr 251 #[str nm] s (.bool<|aW nm gP) (s.add<|.cells (gP.map str).toArray 9):=by have b:=re (s:=s.add<|.cells (gP.map str).toArray 9) kK (nm:=nm) (c:=2) (aI s _).2 dq O;exact aH a func251 O<|zs<|zr<|zc 2 b<|zf yR
end
def FM(a:pr 247=none)(c : -1<=r/\r<=1114111):Ef pr 247 #[.int .i32 r] s (.int .i32<|eT r) s:=by
 unfold eT;refine aH (a) func247 O<|zs<|aB<|zr<|zk 1 ?_;by_cases h1:65<=r
 .refine zp (bz (u:=.int .i32 65) O kq kq<|cx<|tD h1)<|zk 2 ?_;by_cases h2:r<=90
  .rw[ip ⟨h1,h2⟩];exact zp (bz (u:=.int .i32 r) O kq kq<|cx<|tD h2)<|zf<|zH<|zr<|zg 1 s<|bU kq ((show _=some (Value.int .i32<|eU .i32<|r-65,s) by kernel_rfl).trans<|by rw[mL oq])<|zo s<|bU kq ((show _=some (Value.int .i32<|eU .i32<|r-65+97,s) by kernel_rfl).trans<|by rw[mL oq,show r-65+97=r+32 by omega])<|zf<|aD ⟨.inr O,by kernel_rfl,by kernel_rfl⟩
  .rw[iw oq];exact zp (bz (u:=.int .i32 r) O kq kq<|cx<|fD h2)<|zf<|zF<|zs<|aD ⟨.inr O,by kernel_rfl,by kernel_rfl⟩
 .rw[iw oq];exact zp (bz (u:=.int .i32 65) O kq kq<|cx<|fD h1)<|zf<|zF<|zs<|aD ⟨.inr O,by kernel_rfl,by kernel_rfl⟩
def mP(l:Int):Bool:=decide (97<=eT l)&&decide (eT l<=122)
def rh(c:pr 147=none)(d:pr 247=none){l:Int}(e : -1<=l/\l<=1114111):Ef pr 147 #[.int .i32 l] s (.bool<|mP l) s:=by
 have a:=FM (pr:=pr) (s:=s) d e;unfold mP;generalize eT l=r at a |-;refine aH c func147 O<|zs<|zr<|zc 1 a<|zf<|za s<|zr<|zk 1 ?_;by_cases h1:97<=r
 .rw[tD h1,Bool.true_and];refine zp (yb (.int .i32 97) _<|cx (b:=true)<|tD h1)<|zk 2<|zp (yb (.int .i32 r) _<|cx (b:=decide (r<=122)) O) ?_;exact zf yR
 .rw[fD h1,Bool.false_and];exact zp (yb _ (.int .i32 r)<|cx<|fD h1)<|zf yR
abbrev Cj(c:Nat):Obj:=.cells #[aC c 0] 196
variable {r:Value}
end
structure K3(rn:Nat)(all:Iq)(lo:Bq->Bq)(wr:Bq->Int->Bq)(T:Bq->Prop)(W:Bq->Int->Prop)(pr:Prim):Prop where
 h:PrH rn all lo wr T W pr
 fM:pr 127=bP 127
 Ud:pr 147=none
 MD:pr 247=none
 Yq:pr 250=none
 Uf:pr 251=none
 lv:∀l∈all,l<=1114111
variable {r:Value}
def IZ(h1:Has s c (ja rn k p q r))(h2:p=.pointer none\/p=aC c 2)(h3:Cf s q tx)(i:vr s r ts)(g:cL (λb=>b=c) s s')(f:Has s' c (ja rn k' p q r)):SC rn c s' k' tx ts/\iU c s s':=by refine⟨⟨p,q,r,f,h2,h3.imp id λ⟨d,h,e1,a⟩=>⟨d,h,e1,a.fr g<|a.ne h1 dq⟩,i.imp id λ⟨d,h,e1,a⟩=>⟨d,h,e1,a.fr g<|a.ne h1 dq⟩⟩,iU.mk' h1 f ⟨g.1,λb j l=>g.2 b j λe=>l<|.inl e⟩ (.inl O)<|.inl O⟩
section
variable (hp:K3 rn all lo wr T W pr)
def K3.at(k:Nat) : -1<=fF all k/\fF all k<=1114111:=by
 rcases hp.h.g.at k with e|e
 .rw[e];decide
 .exact⟨by have:=hp.h.g.pos _ e;omega,hp.lv _ e⟩
def NX{w:Nat}{aY:kH}(hk:k+w<=all.length)(hT:T (ek all (k+w)<|ib all eF<|k+w))(abG:tz all lo wr n (ib all eF<|k+w) []=some (aY,cl,wh,k'))(uX:uI all lo wr T W n (ib all eF<|k+w))(h:oO rn c s k tx us)(he:qT rn c s) :
  ∃S1 av,Ef pr 248 #[aC c 0] (s.set c<|match s.get c with|some (.cells cs t fz)=>some (.cells (cs.set! 1<|num ((k+w:Nat):Int)) t fz)|o=>o) (.tuple #[.agg #[str (if wh then lo (ek all (k+w)<|ib all eF<|k+w) else []),av,.bool cl],.bool wh]) S1/\oO rn c S1 k' tx us/\qT rn c S1/\dI S1 av aY/\iU c s S1:=by
 obtain⟨ts,⟨p,q,r,h1,h2,h3,h4⟩,hm⟩:=h;have hsc:SC rn c s k tx ts:=⟨p,q,r,h1,h2,h3,h4⟩;have e:s.set c (match s.get c with|some (.cells cs t fz)=>some (.cells (cs.set! 1<|num ((k+w:Nat):Int)) t fz)|o=>o)=sp s c rn p q r (k+w):=by rw[h1.2];rfl
 rw[e];have a1:Has _ c (ja rn (k+w) p q r):=h1.put _;have a2:Has (sp s c rn p q r<|k+w) 1 _:=he.1.set (Ne.symm he.2.2) _;have⟨S1,av,g1,g2,g3,g4,g5,g6⟩:=Y8 hp.h hk hT abG uX a1 he.2.2 a2 he.2.1;have hf:=(aL (K:=λb=>b=c) (aE s) (λ_=>O) _).trans g4 λb _ z=>z;have⟨m1,m2⟩:=IZ h1 h2 h3 h4 hf g2;exact⟨S1,av,g1,⟨ts,m1,hm.fr hsc m2⟩,he.fr hsc m2,g3,m2⟩
end
def NN(c k:Nat)(x:Nq):TL:=[aC c 0,x 1,num k]++gG x 3 34
def SC.ahead(a:K2 rn all pr)(h:SC rn c s k tx ts)(b:k<=900000):Ef pr 70 #[aC c 0,num 0] s (.int .i32<|fF all k) s:=by
 have⟨p,q,r,h1,_⟩:=h
 have:=jI (s:=s) (c:=c) (p:=p) (q:=q) (r:=r) a (k:=k) oq;rw[om h1.2] at this;exact this
structure St where
 k:Nat
 tx:Bq
 us:List Tok
abbrev Wh(rn c:Nat)(s:AS)(x:St):Prop:=oO rn c s x.k x.tx x.us
def UY (rn c:Nat)(x:Nq):TL:=[aC rn 0,x 1,aO,aC c 0]++gG x 4 14
def jj:List (Bq):=[[98,97,115,101],[108,105,110,107],[109,101,116,97],T7,T8,T6]
def bG:List (Bq):=[T9,Yj,qz,Ua,[116,100],[116,104]]
def jV:List (Bq):=[[97,100,100,114,101,115,115],[97,114,116,105,99,108,101],[97,115,105,100,101],[98,108,111,99,107,113,117,111,116,101],[99,101,110,116,101,114],[100,101,116,97,105,108,115],[100,105,97,108,111,103],[100,105,114],[100,105,118],[100,108],[102,105,101,108,100,115,101,116],[102,105,103,99,97,112,116,105,111,110],[102,105,103,117,114,101],[102,111,111,116,101,114],[102,111,114,109],[104,49],[104,50],[104,51],[104,52],[104,53],[104,54],[104,101,97,100,101,114],[104,103,114,111,117,112],[109,97,105,110],[109,101,110,117],[110,97,118],[111,108],[112],[112,114,101],[115,101,99,116,105,111,110],[115,117,109,109,97,114,121],Ua,Yi]
def bW:List (Bq):=[[104,49],[104,50],[104,51],[104,52],[104,53],[104,54]]
def bX:List (Bq):=[[97],[98],[98,105,103],[99,111,100,101],[101,109],[102,111,110,116],[105],[110,111,98,114],[115],[115,109,97,108,108],[115,116,114,105,107,101],[115,116,114,111,110,103],[116,116],[117]]
def eE:List (Bq):=[[97,114,101,97],[98,97,115,101],Cq,[99,111,108],[101,109,98,101,100],[104,114],[105,109,103],[105,110,112,117,116],[108,105,110,107],[109,101,116,97],[115,111,117,114,99,101],[116,114,97,99,107],[119,98,114]]
def cC:List (Bq):=[Yj,Ua,ZZ,[116,100],ZY,[116,104],Z0,[116,114]]
def qj:List (Bq):=[T7,T8,lql,T6]
def JI(h:pr 124=none):Ef pr 124 #[] s (.slice (sq s.nx) 6 6) (s.add<|.cells (jj.map str).toArray 9):=by
 refine aH h func124 O ?_;iterate 2 refine zs ?_
 exact yR
def ql(h:pr 131=none):Ef pr 131 #[] s (.slice (sq s.nx) 6 6) (s.add<|.cells (bG.map str).toArray 9):=by
 refine aH h func131 O ?_;iterate 2 refine zs ?_
 exact yR
def xo(h:pr 133=none):Ef pr 133 #[] s (.slice (sq s.nx) 33 33) (s.add<|.cells (jV.map str).toArray 9):=by
 refine aH h func133 O ?_;iterate 2 refine zs ?_
 exact yR
def lF(h:pr 134=none):Ef pr 134 #[] s (.slice (sq s.nx) 6 6) (s.add<|.cells (bW.map str).toArray 9):=by
 refine aH h func134 O ?_;iterate 2 refine zs ?_
 exact yR
def um(h:pr 137=none):Ef pr 137 #[] s (.slice (sq s.nx) 14 14) (s.add<|.cells (bX.map str).toArray 9):=by
 refine aH h func137 O ?_;iterate 2 refine zs ?_
 exact yR
def xq(h:pr 138=none):Ef pr 138 #[] s (.slice (sq s.nx) 13 13) (s.add<|.cells (eE.map str).toArray 9):=by
 refine aH h func138 O ?_;iterate 2 refine zs ?_
 exact yR
def xp(h:pr 142=none):Ef pr 142 #[] s (.slice (sq s.nx) 8 8) (s.add<|.cells (cC.map str).toArray 9):=by
 refine aH h func142 O ?_;iterate 2 refine zs ?_
 exact yR
structure Nd where
 kind:Int
 parent:Int
 name:Bq
 text:Bq
 bC:kH
def Zu (s:AS)(x:bH)(u:Nd):Prop:=x.kind=u.kind/\x.parent=u.parent/\x.name=u.name/\x.text=u.text/\dI s x.bC u.bC
def fK (s:AS)(xs:List bH)(us:List Nd):Prop:=xs.length=us.length/\∀(i:Nat) (x:bH) (u:Nd),xs[i]?=some x->us[i]?=some u->Zu s x u
def nR (s:AS)(v:Value)(xs:List bH):Prop:=∃d c fz,v=.slice (some ⟨d,0,none⟩) xs.length (xs.length+c)/\Has s d (.cells (bN xs) 44 fz)
def nR.old{s:AS}{v:Value}{xs:List bH}(h:nR s v xs):∃d c fz,v=.slice (some ⟨d,0,none⟩) xs.length c/\Has s d (.cells (bN xs) 44 fz):=have⟨d,_,z,a,b⟩:=h;⟨d,_,z,a,b⟩
def nR.cap{s:AS}{v:Value}{xs:List bH}{d n c:Nat}(h:nR s v xs)(e:v=.slice (some ⟨d,0,none⟩) n c):∃k,c=xs.length+k:=by have⟨_,k,_,a,_⟩:=h;rw[e] at a;injection a with _ _ a;exact⟨k,a⟩
structure TS where
 nodes:List Nd
 row:List Nat
 again:List Nat
 w:Int
abbrev eD(f:FuncId):Value:=.func (.func 66) #[.func (.func f) #[] #[]] #[]
abbrev lU(nv rv av:Value)(w:Int):Obj:=.cells #[nv,rv,av,num w,eD 65,eD 67,eD 68,eD 69] 183
def jR (nm:Bq):Bool:=cZ nm qz||cZ nm T9
def KU (b:Nat)(nm:Bq)(v:Value):Prop:=∀y,blk v y->y<b/\jR nm=false
def KU.nil(b:Nat)(nm:Bq):KU b nm aO:=λy z=>(cw z).elim
def CH (b:Nat)(xs:List bH):Prop:=(∀(i:Nat) (x:bH) (y:Nat),xs[i]?=some x->blk x.bC y->(y<b/\jR x.name=false)\/(b<y/\jR x.name=true))/\∀(i j:Nat) (x x':bH) (y:Nat),xs[i]?=some x->xs[j]?=some x'->b<y->blk x.bC y->blk x'.bC y->i=j
theorem CH.snoc(h:CH b xs)(e:KU b x.name x.bC):CH b (xs++[x]):=by
 have a:∀i z,(xs++[x])[i]?=some z->xs[i]?=some z\/(i=xs.length/\z=x):=λi z d=>gq
 refine⟨λi z y d U=>?_,λi j z f y d g k U c=>?_⟩
 .rcases a i z d with q|⟨_,rfl⟩
  .exact h.1 i z y q U
  .exact .inl<|e y U
 .rcases a i z d with q|⟨_,rfl⟩
  .rcases a j f g with q'|⟨_,rfl⟩
   .exact h.2 i j z f y q q' k U c
   .have:=(e y c).1;omega
  .have:=(e y U).1;omega
theorem CH.set{z:bH}(h:CH b xs)(v:xs[k]?=some x)(t:z.name=x.name)(s:z.bC=x.bC):CH b (xs.set k z):=by
 have a:∀(i:Nat) u,(xs.set k z)[i]?=some u->∃d,xs[i]?=some d/\u.name=d.name/\u.bC=d.bC:=λi u e=>gq
 refine⟨λi u y e U=>?_,λi j u d y e f o U c=>?_⟩
 .have⟨m,g,n,l⟩:=a i u e;rw[n];rw[l] at U;exact h.1 i m y g U
 .have⟨m,g,n,l⟩:=a i u e;have⟨r,p,w,q⟩:=a j d f;rw[l] at U;rw[q] at c;exact h.2 i j m r y g p o U c
structure BT(s:AS)(b:Nat)(nv rv av:Value)(xs:List bH)(σ:TS):Prop where
 sp:CH b xs
 b:Has s b (lU nv rv av σ.w)
 n:nR s nv xs
 m:fK s xs σ.nodes
 r:dB s rv σ.row
 a:dB s av σ.again
 ra:∀x,blk rv x->¬blk av x
 lt:∀k∈σ.row,k<σ.nodes.length
 la:∀k∈σ.again,k<σ.nodes.length
 ne:σ.row≠[]
 sz:σ.nodes.length<=400000000/\σ.row.length<=40/\σ.again.length<=100000
def KB (b:Nat)(s:AS)(x:Nat):Prop:=x=b\/(∃nv rv av w,s.get b=some (lU nv rv av w)/\(blk nv x\/blk rv x\/blk av x))\/(b<x/\∃cs fz,s.get x=some (.cells cs 47 fz))
def dJ (b:Nat)(s s':AS):Prop:=cL (KB b s) s s'/\∀x,x<s.nx->KB b s' x->KB b s x
variable {nv rv:Value}{σ:TS}
section
variable {s1 s2:AS}{Yx Cs yx:Value}{w w':Int}
def dJ.refl(s:AS):dJ b s s:=⟨aE s,λ_ _ h=>h⟩
def dU:=@dJ.refl
def dJ.trans(h:dJ b s s1)(c:dJ b s1 s2):dJ b s s2:=by have d:=h.1.1;exact⟨h.1.trans c.1 λx a z=>h.2 x a z,λx a z=>h.2 x a<|c.2 x oq z⟩
theorem KB.at(h:s.get b=some (lU nv rv av w)){x:Nat}:KB b s x↔x=b\/blk nv x\/blk rv x\/blk av x\/(b<x/\∃a c,s.get x=some (.cells a 47 c)):=by
 constructor
 .rintro(z|⟨_,_,_,_,z,y⟩|z)
  .exact .inl z
  .grind
  .grind
 .rintro(z|z|z|z|z)
  .exact .inl z
  .exact .inr<|.inl ⟨_,_,_,_,h,.inl z⟩
  .exact .inr<|.inl ⟨_,_,_,_,h,.inr<|.inl z⟩
  .exact .inr<|.inl ⟨_,_,_,_,h,.inr<|.inr z⟩
  .exact .inr<|.inr z
def gT:=@KB.at
theorem dJ.mk'(h1:Has s b (lU nv rv av w))(h2:Has s' b (lU Yx Cs yx w'))(U:cL (KB b s) s s')(e:Yx=nv\/∀x,blk Yx x->s.nx<=x)(f:(∀x,blk Cs x->blk rv x)\/∀x,blk Cs x->s.nx<=x)(d:(∀x,blk yx x->blk av x)\/∀x,blk yx x->s.nx<=x):dJ b s s':=by
 refine⟨U,λx c z=>(gT h1.2).2 ?_⟩;rcases(gT h2.2).1 z with z|z|z|z|z
 .exact .inl z
 iterate 3
  .grind
 .by_cases a:KB b s x
  .exact(gT h1.2).1 a
  .rw[U.2 x c a] at z;grind
def eY:=@dJ.mk'
def dB.blk{x:Nat}(h:dB s v l)(c:YtgcaionclkbehaaGreatDoor.blk v x):∃a b,Has s x (.cells a 3 b):=by
 rcases h with ⟨rfl,_⟩|⟨d,cp,a,b,rfl,_,h1,h2,_⟩
 .exact(cw c).elim
 .rw[dk c];exact⟨_,_,h1,h2⟩
def nR.blk{x:Nat}(h:nR s nv xs)(e:YtgcaionclkbehaaGreatDoor.blk nv x):∃b a,Has s x (.cells b 44 a):=by obtain⟨d,c,a,rfl,h⟩:=h;rw[dk e];exact⟨_,_,h⟩
def BT.no(h:BT s b nv rv av xs σ){x:Nat}(c:Has s x (.cells cs t fz))(h1:t≠183)(h2:t≠44)(h3:t≠3)(d:t≠47:=by decide):¬KB b s x:=by
 intro z;rcases(gT h.b.2).1 z with z|z|z|z|⟨_,_,_,z⟩
 .exact c.ne h.b h1 z
 .have⟨_,_,z⟩:=h.n.blk z;exact c.ne z h2 O
 .have⟨_,_,z⟩:=h.r.blk z;exact c.ne z h3 O
 .have⟨_,_,z⟩:=h.a.blk z;exact c.ne z h3 O
 .rw[c.2] at z;cases z;exact d O
def dB.fk(h:dB s v l)(a:cL K s s')(b:∀x,YtgcaionclkbehaaGreatDoor.blk v x->¬K x):dB s' v l:=by
 rcases h with h|⟨d,cp,cs,fz,rfl,h0,h1,h2,h3⟩
 .exact .inl h
 .have:=Has.fr ⟨h1,h2⟩ a<|b d<|eg _ _ _;exact .inr ⟨d,cp,cs,fz,O,h0,this.1,this.2,h3⟩
def nR.fk(h:nR s nv xs)(b:cL K s s')(e:∀x,YtgcaionclkbehaaGreatDoor.blk nv x->¬K x):nR s' nv xs:=by obtain⟨d,c,a,rfl,h⟩:=h;exact⟨d,c,a,O,h.fr b<|e d<|eg _ _ _⟩
def fK.fk{f:List Nd}(h:fK s xs f)(k:cL K s s')(l:∀x g b,Has s x (.cells g 47 b)->¬K x):fK s' xs f:=⟨h.1,λi x u n m=>by
 have⟨h1,h2,h3,j,c⟩:=h.2 i x u n m;refine⟨h1,h2,h3,j,c.fk k λy a=>?_⟩;rcases c with ⟨e,_⟩|⟨d,cp,b,e,q1,q2⟩
 .rw[e] at a;exact(cw a).elim
 .rw[e] at a;rw[dk a];exact l d _ _ ⟨q1,q2⟩⟩
section
variable (h:BT s b nv rv av xs σ)
def BT.fk(f:cL K s s')(g:∀x d t e,Has s x (.cells d t e)->K x->t≠183/\t≠44/\t≠3/\t≠47):BT s' b nv rv av xs σ:=by
 have i:∀x d e,Has s x _->¬K x:=λx d e c z=>(g x d 47 e c z).2.2.2 O;refine⟨h.sp,h.b.fr f λz=>(g _ _ _ _ h.b z).1 O,h.n.fk f λx c z=>?_,h.m.fk f i,h.r.fk f λx c z=>?_,h.a.fk f λx c z=>?_,h.ra,h.lt,h.la,h.ne,h.sz⟩
 .have⟨_,_,y⟩:=h.n.blk c;exact(g _ _ _ _ y z).2.1 O
 .have⟨_,_,y⟩:=h.r.blk c;exact(g _ _ _ _ y z).2.2.1 O
 .have⟨_,_,y⟩:=h.a.blk c;exact(g _ _ _ _ y z).2.2.1 O
def BT.add(o:Obj):BT (s.add o) b nv rv av xs σ:=h.fk ((aE (K:=λ_=>False) s).add o) λ_ _ _ _ _ z=>z.elim
def dJ.add(o:Obj):dJ b s (s.add o):=eY h.b (h.b.add o) ((aE s).add o) (.inl O) (.inl λ_ z=>z)<|.inl λ_ z=>z
def c9:=@dJ.add
end
def dB.len(h:dB s v l):∃b a,v=.slice b l.length a:=by
 rcases h with ⟨rfl,rfl⟩|⟨d,a,cs,fz,rfl,h0,h1,h2,h3⟩
 .exact⟨none,0,O⟩
 .exact⟨_,_,O⟩
theorem T5{a b c d:Option Value}{u v w m:Value}(g:a=some u)(h:b=some v)(i:c=some w)(j:d=some m)(p:bQ 20 u=true:=by rfl)(q:bQ 20 v=true:=by rfl)(r:bQ 20 w=true:=by rfl)(s:bQ 20 m=true:=by rfl):∀x∈[(a,u),(b,v),(c,w),(d,m)],x.1=some x.2/\bQ 20 x.2=true:=gq
def wM(a:pr 232=none)(h:BT s b nv rv av xs σ):Ef pr 232 #[aC b 0] s (num ((σ.row.length:Nat)-1:Int)) s:=by have⟨d,e,g⟩:=h.r.len;have c:=h.b;have f:=h.sz.2.1;rw[g] at c;exact aH a func232 O<|zs<|zr<|zg 3 s<|zp (yl b 1 _ c.2)<|zk 1<|zp (gO (r:=σ.row.length-1) O kq kq O oq)<|zf yR
def BT.node(h:BT s b nv rv av xs σ){u:Nd}(g:σ.nodes[k]?=some u):∃d c e x,nv=.slice (sq d) σ.nodes.length c/\Has s d (.cells (bN xs) 44 e)/\xs[k]?=some x/\Zu s x u/\k<σ.nodes.length:=by
 have⟨d,c,e,l,j⟩:=h.n.old;have a:=(gS.1 g).1;have f:k<xs.length:=by rw[h.m.1];exact a
 have i:=gE f;exact⟨d,c,e,xs[k],by rw[l,h.m.1],j,i,h.m.2 k _ _ i g,a⟩
def dB.at(h:dB s v l)(hi:l[i]?=some k):∃d c b e,v=.slice (sq d) l.length c/\l.length<=c/\Has s d (.cells b 3 e)/\b[i]?=some (num k)/\i<l.length:=by
 have a:=(gS.1 hi).1;rcases h with ⟨_,rfl⟩|⟨d,cp,b,e,rfl,h0,h1,h2,h3⟩
 .simp at a
 .exact⟨d,cp,b,e,O,h0,⟨h1,h2⟩,h3 i k hi,a⟩
def FP(a:pr 231=none)(h:BT s b nv rv av xs σ){u:Nd}(hi:σ.row[i]?=some k)(t:σ.nodes[k]?=some u):Ef pr 231 #[aC b 0,num i] s (str u.name) s:=by
 have⟨o,n,H,x,l,g,A,y,w⟩:=h.node t;have⟨f,p,E,I,m,z,e,d,q⟩:=h.r.at hi;have c:=h.b;rw[l,m] at c;have j:(bN xs)[k*5+2]?=some (str u.name):=by rw[eu A 2 dq,<-y.2.2.1];rfl
 have B:=jS underlying38 O c.2 (off:=0) O;have C:=jS underlying25 O c.2 (off:=1) O;have D:=jS underlying3 O e.2 d;generalize F:σ.nodes.length=N at *;generalize G:σ.row.length=R at *;exact aH a func231 O<|zs<|aB<|aP kq kq kq<|zq<|zq<|zq<|zt s<|zu (yl b 0 _ c.2)<|zq<|zq<|zq<|zt s<|zu (yl b 1 _ c.2)<|zq<|zu (yi f 0 R p i none .i64 (i:Nat) 1 oq oq oq)<|zt s<|zu (yl _ i (num k) e.2 (i:=d))<|zu (yi o 0 N n (k*5) none .i64 (k:Nat) 5 oq oq oq)<|zq<|zt s<|zu (yl _ (k*5+2) (str u.name) g.2 (i:=j))<|zq<|bq ⟨kN<|vD B C D O O O,_,_,_,_,_,_,O,O,yR⟩
end
def nameAt(σ:TS)(i:Nat):Bq:=match σ.row[i]? with
 | some k=>match σ.nodes[k]? with
  | some u=>u.name
  | none=>[]
 | none=>[]
def nE(σ:TS)(l:List (Bq)):Nat->Int
 | 0 => -1
 | n+1=>if aW (nameAt σ n) l then (n:Int) else nE σ l n
def dg(σ:TS)(l:List (Bq)):Int:=nE σ l σ.row.length
def cj(σ:TS)(b a:List (Bq)):Int:=if dg σ a<dg σ b then -1 else dg σ a
def Dr(σ:TS)(l:List (Bq)):∀n,-1<=nE σ l n/\nE σ l n<n
 | 0=>by simp[nE]
 | n+1=>by have:=Dr σ l n;unfold nE;split<;>omega
def pB(σ:TS)(l:List (Bq)) : -1<=dg σ l/\dg σ l<σ.row.length:=Dr σ l _
def qX(σ:TS)(l m:List (Bq)) : -1<=cj σ l m/\cj σ l m<σ.row.length:=by have h1:=pB σ m;unfold cj;split<;>omega
def gx (s:AS)(v:Value)(l:List (Bq)):Prop:=l.length<=1000/\∃d c fz,v=.slice (some ⟨d,0,none⟩) l.length c/\Has s d (.cells (l.map str).toArray 9 fz)
def Ny(b:Nat)(v:Value)(at_:Int)(x:Nq):TL:=[aC b 0,v,x 2,x 3,num 0,num at_]++gG x 6 12
variable {v2:Value}
section
variable {l l2:List (Bq)}
section
variable (h:gx s v l)
def gx.fk(f:cL K s s')(g:∀x b a,Has s x (.cells b 9 a)->¬K x):gx s' v l:=by obtain⟨e,d,c,a,rfl,h1⟩:=h;exact⟨e,d,c,a,O,h1.fr f<|g d _ _ h1⟩
def gx.add(o:Obj):gx (s.add o) v l:=h.fk ((aE s).add o) λ_ _ _ _=>id
def gx.is(a:pr 127=bP 127)(nm:Bq):Ef pr 127 #[str nm,v] s (.bool<|aW nm l) s:=by obtain⟨b,d,c,e,rfl,h1⟩:=h;exact re a h1.2 b O
end
theorem BT.name(h:BT s b nv rv av xs σ)(U:pr 231=none)(hi:i<σ.row.length):Ef pr 231 #[aC b 0,num i] s (str<|nameAt σ i) s:=by
 have c:=gE hi;have a:=h.lt _<|zB hi;have d:=gE a
 have:=FP U h c d;unfold nameAt;grind
def xg(n:pr 222=none)(o:pr 231=none)(p:pr 232=none)(k:pr 127=bP 127)(h:BT s b nv rv av xs σ)(z:gx s v l):Ef pr 222 #[aC b 0,v] s (num<|dg σ l) s:=by
 have A:=wM p h;have C:=h.sz;have t:=λi B=>h.name o (i:=i) B;have q:=λu=>z.is k u;generalize y:σ.row.length=R at *;suffices hx:Ew pr _ _ s (λe a g=>(e=.normal\/e=.ret)/\di prog f222 a g=some (num<|dg σ l)/\g=s) from aH n func222 O hx
 refine zs<|aB<|zr<|zc 1 A<|zf<|za s<|aV (Ny b v<|(R:Int)-1) kq ?_;intro D;refine aF<|bn (bw (Q:=λe a g=>(e=.exit 0/\g=s/\dg σ l = -1/\∃x,a=Ny b v (-1) x)\/(e=.ret/\g=s/\di prog f222 a g=some (num<|dg σ l))) (λm a f=>m<=R/\f=s/\dg σ l=nE σ l m/\∃x,a=Ny b v ((m:Int)-1) x) ?_ R _ _ ⟨lr,O,by unfold dg;rw[y],D,O⟩) ?_
 .rintro m a f ⟨E,rfl,d,x,rfl⟩;cases m with
  | zero =>exact aB<|zr<|zf<|za f<|zG<|aR<|.inl ⟨O,O,d,bu kq⟩
  | succ m =>
   have h1:=t m oq;have h2:=q<|nameAt σ m;unfold nE at d;generalize nameAt σ m=u at h1 h2 d;rw[show((m+1:Nat):Int)-1=(m:Int) by omega];generalize aW u l=w at h2 d;refine aB<|zr<|zk 1<|zp (yb (num m) (num 0)<|fQ (b:=true)<|tD oq)<|am<|za f<|zT<|aB<|aF<|zr<|zc 2 h1<|zc 1 h2<|am<|za f ?_;cases w with
   | true =>rw[ip O] at d;rw[d];exact zH<|zs<|aD<|.inr ⟨O,kq,kq⟩
   | false =>rw[iw dq] at d;exact zF<|zx<|zk 1<|zp (gO (i:=(m:Int)) (j:=1) (r:=(m:Int)-1) O kq kq O oq)<|zf ⟨m,Nat.lt_succ_self m,by omega,kq,d,bu kq⟩
 .rintro e a f (⟨rfl,rfl,h1,x,rfl⟩|⟨rfl,rfl,h1⟩)
  .rw[h1];exact zs yR
  .exact⟨.inr O,h1,O⟩
def CP(g:pr 235=none)(d:pr 222=none)(e:pr 231=none)(f:pr 232=none)(c:pr 127=bP 127)(h:BT s b nv rv av xs σ)(j:gx s v l)(i:gx s v2 l2):Ef pr 235 #[aC b 0,v,v2] s (num<|cj σ l l2) s:=by
 have h1:=xg d e f c h i;have h2:=xg d e f c h j;unfold cj
 generalize dg σ l2=i2 at *;generalize dg σ l=k at *;refine aH g func235 O<|zs<|zr<|zc 2 h1<|zf<|za s<|aB<|zr<|zc 3 h2 ?_;by_cases a:i2<k
 .rw[ip a];exact zp (bz O kq kq<|bE<|tD a)<|am<|za s<|zH<|zs<|aD ⟨.inr O,kq,kq⟩
 .rw[iw a];exact zp (bz O kq kq<|bE<|fD a)<|am<|za s<|zF<|zs<|aD ⟨.inr O,kq,kq⟩
def gx.new(s:AS)(l:List (Bq))(n:Nat)(a:n=l.length)(h:l.length<=1000):gx (s.add<|.cells (l.map str).toArray 9) (.slice (sq s.nx) n n) l:=⟨h,s.nx,n,(0,0),by rw[a],aI s _⟩
def bR:=@gx.new
def Bl(j:pr 243=none)(c:pr 131=none)(g:pr 235=none)(d:pr 222=none)(e:pr 231=none)(f:pr 232=none)(a:pr 127=bP 127)(h:BT s b nv rv av xs σ)(k:gx s v l):Ef pr 243 #[aC b 0,v] s (num<|cj σ bG l) (s.add<|.cells (bG.map str).toArray 9):=by have h1:=ql (s:=s) c;have h2:=CP g d e f a (h.add<|.cells (bG.map str).toArray 9) (bR s bG 6 O dq)<|k.add _;exact aH j func243 O<|zs<|zr<|zc 1 h1<|zc 1 h2<|zf yR
section
variable (kK:pr 127=bP 127)
def FI(i:pr 319=none)(g:pr 142=none)(h:BT s b nv rv av xs σ){u:Nd}(r:σ.nodes[k]?=some u):Ef pr 319 #[aC b 0,num k] s (.bool<|aW u.name cC) (s.add<|.cells (cC.map str).toArray 9):=by
 have h2:=h.add<|.cells (cC.map str).toArray 9;have⟨f,m,F,x,o,a,z,y,w⟩:=h.node r;have n:=h.b;have j:=h2.b;have l:=a.add<|.cells (cC.map str).toArray 9;rw[o] at n j;have e:(bN xs)[k*5+2]?=some (str u.name):=by rw[eu z 2 dq,<-y.2.2.1];rfl
 have A:=gW 38 n.2 (off:=0) O;have B:=gW 38 j.2 (off:=0) O;have C:=gW 9 a.2 e;have D:=gW 9 l.2 e;have q:=xp (s:=s) g;have p:=re (pr:=pr) (s:=s.add<|.cells (cC.map str).toArray 9) kK (nm:=u.name) (RZ:=cC) (d:=s.nx) (c:=8) (aI s _).2 dq O;generalize E:σ.nodes.length=N at *;exact aH i func319 O<|zs<|aB<|aP kq kq kq<|zq<|zq<|zq<|zt s<|zu (yl b 0 (.slice (sq f) N m) n.2)<|zq<|zu (yi f 0 N m (k*5) none .i64 (k:Nat) 5 oq oq oq)<|zq<|zt s<|zu (yl f (k*5+2) (str u.name) a.2 (i:=e))<|yt q<|yt p<|zq<|bq ⟨kN<|T5 A B C D O O O O,_,_,_,_,_,_,O,O,yR⟩
def JD(i:pr 320=none)(g:pr 137=none)(h:BT s b nv rv av xs σ){u:Nd}(r:σ.nodes[k]?=some u):Ef pr 320 #[aC b 0,num k] s (.bool<|aW u.name bX) (s.add<|.cells (bX.map str).toArray 9):=by
 have h2:=h.add<|.cells (bX.map str).toArray 9;have⟨f,m,F,x,o,a,z,y,w⟩:=h.node r;have n:=h.b;have j:=h2.b;have l:=a.add<|.cells (bX.map str).toArray 9;rw[o] at n j;have e:(bN xs)[k*5+2]?=some (str u.name):=by rw[eu z 2 dq,<-y.2.2.1];rfl
 have A:=gW 38 n.2 (off:=0) O;have B:=gW 38 j.2 (off:=0) O;have C:=gW 9 a.2 e;have D:=gW 9 l.2 e;have q:=um (s:=s) g;have p:=re (pr:=pr) (s:=s.add<|.cells (bX.map str).toArray 9) kK (nm:=u.name) (RZ:=bX) (d:=s.nx) (c:=14) (aI s _).2 dq O;generalize E:σ.nodes.length=N at *;exact aH i func320 O<|zs<|aB<|aP kq kq kq<|zq<|zq<|zq<|zt s<|zu (yl b 0 (.slice (sq f) N m) n.2)<|zq<|zu (yi f 0 N m (k*5) none .i64 (k:Nat) 5 oq oq oq)<|zq<|zt s<|zu (yl f (k*5+2) (str u.name) a.2 (i:=e))<|yt q<|yt p<|zq<|bq ⟨kN<|T5 A B C D O O O O,_,_,_,_,_,_,O,O,yR⟩
end
end
def BX (s:AS)(b:Nat)(σ:TS):Prop:=∃nv rv av xs,BT s b nv rv av xs σ
def TS.cur(σ:TS):Nat:=σ.row.getLastD 0
def TS.put(σ:TS)(u:Nd):TS:=⟨σ.nodes++[⟨u.kind,(σ.cur:Int),u.name,u.text,u.bC⟩],σ.row,σ.again,σ.w⟩
def TS.open_(σ:TS)(nm:Bq)(aY:kH):TS:=⟨(σ.put ⟨1,0,nm,[],aY⟩).nodes,if σ.row.length<40 then σ.row++[σ.nodes.length] else σ.row,σ.again,σ.w⟩
def cL.mono(h:cL K s s')(b:∀y,y<s.nx->K y->K' y):cL K' s s':=⟨h.1,λy a c=>h.2 y a λz=>c<|b y a z⟩
def TS.nX(h:σ.row≠[]):σ.row[σ.row.length-1]?=some σ.cur:=by
 unfold TS.cur;rw[List.getLastD_eq_getLast?,<-List.getLast?_eq_getElem?];cases hq:σ.row.getLast? with
 | none=>exact absurd (List.getLast?_eq_none_iff.1 hq) h
 | some k=>rfl
def od(xs:List bH):(bN xs).size=xs.length*5:=by
 induction xs with
 | nil=>rfl
 | cons t b a=>simp[bH.cells] at a |-;omega
def FR(xs:List bH)(x:bH):((bN xs).toList.take (xs.length*5)++x.cells).toArray=bN (xs++[x]):=by rw[tL (by rw[KO,od];exact lr)];simp
def nR.lt(h:nR s nv xs):∀x,YtgcaionclkbehaaGreatDoor.blk nv x->x<s.nx:=λx a=>by have⟨_,_,z⟩:=nR.blk h a;exact z.1
def YQ(h:nR s nv xs)(x:bH)(i:xs.length<=400000000):∃w a,ce prog 44 nv x.cells 1 s=some (w,a)/\w.cells=#[w]/\w.oneCell'=true/\nR a w (xs++[x])/\cL (λy=>blk nv y) s a/\∀y,blk w y->s.nx<=y:=by obtain⟨d,c,g,rfl,e⟩:=h.old;have f:=od xs;refine⟨_,_,im (sz:=5) dq e.2 kq oq oq,O,O,?_,(aL (aE s) (λ_=>eg _ _ _) none).add _,λb z=>Nat.le_of_eq (dk z).symm⟩;rw[FR];exact⟨s.nx,0,(1,1),by rw[lA];rfl,aI _ _⟩
def fK.snoc{b:List Nd}{u:Nd}(h:fK s xs b)(c:Zu s x u):fK s (xs++[x]) (b++[u]):=⟨by simp[h.1],λi e d h1 h2=>by
 by_cases a:i<xs.length
 .rw[Cg a] at h1;rw[Cg (by rw[<-h.1];exact a)] at h2;exact h.2 i e d h1 h2
 .rw[EN oq] at h1;rw[EN (by rw[<-h.1];omega),<-h.1] at h2;match hq:i-xs.length with
  | 0=>rw[hq] at h1 h2;cases h1;cases h2;exact c
  | q+1=>rw[hq] at h1;simp at h1⟩
abbrev R3:Value:=.agg #[num 0,num 0,str [],str [],aO]
abbrev EX(kd pa:Int)(nm tx:Bq)(at_:Value):Obj:=.cells #[num kd,num pa,str nm,str tx,at_] 44
def Od{kt:TypeId->Bool}{f:FuncId}{b:Code}{k:Sort _}{G:AS->k->Prop}(j:pr f=none)(i:P.funcs[f]?=some fn)(g:fn.body=some b)(h:EW P kt pr b (args.toList++List.replicate (fn.ntmps-args.toList.length) undef) s (λe d c=>(e=.normal\/e=.ret)/\di P fn d c=some v/\∃x,G c x)):∃a x,EF P kt pr f args s v a/\G a x:=by have⟨a,h1,x,h2⟩:=aX j i g h;exact⟨a,x,h1,h2⟩
def D2(G:pr 217=none)(H:pr 232=none)(h:BT s b nv rv av xs σ){aY:kH}(ha:dI s at_ aY)(hq:KU b nm at_)(hN:σ.nodes.length<400000000) :
  ∃s' Yx,Ef pr 217 #[aC b 0,.agg #[num kd,num pa,str nm,str tx,at_]] s (.tuple #[]) s'/\BT s' b Yx rv av (xs++[⟨kd,(σ.cur:Int),nm,tx,at_⟩]) (σ.put ⟨kd,pa,nm,tx,aY⟩)/\dJ b s s':=by
 have vC:=h.sz;have⟨g,i,sy⟩:=ha.len;subst sy;have hvq:=ha.qB;generalize aY.length=j at *;have⟨M,Q,D,rf,hrv,O6,J,I,Rm⟩:=h.r.at<|TS.nX h.ne;have hra:=J.1;have B:=h.add<|EX kd pa nm tx<|.slice g j i;have N:=aI s<|EX kd pa nm tx<|.slice g j i;have T:=J.add<|EX kd pa nm tx<|.slice g j i;have a4:=c9 h<|EX kd pa nm tx<|.slice g j i;have V:dI (s.add<|EX kd pa nm tx<|.slice g j i) (.slice g j i) aY:=ha.fk ((aE (K:=λ_=>False) s).add _) λ_ _=>id;have X:b≠s.nx:=by have:=h.b.1;omega
 have Y:∀y,blk nv y->y≠s.nx:=λy f=>by have:=h.n.lt y f;omega
 have hsn:s.nx<(s.add<|EX kd pa nm tx<|.slice g j i).nx:=iq
 have hc:=wM H B;have E:=B.b;refine Od G func217 rfl<|zs<|za (s.add<|EX kd pa nm tx<|.slice g j i) ?_;generalize s.add (EX kd pa nm tx<|.slice g j i)=S at *;rw[hrv] at E;have l1:=gW 25 E.2 (off:=1) rfl;have l2:=gW 3 T.2 I;have p:cL (λy=>y=s.nx) S (S.set s.nx<|some<|EX kd (σ.cur:Int) nm tx<|.slice g j i):=aL (K:=λy=>y=s.nx) (aE S) (λ_=>rfl) _;have b2:=N.put<|EX kd (σ.cur:Int) nm tx<|.slice g j i;have l:∀{y:Nat} {D:Aq} {t:TypeId} {x:Nat × Nat},Has S y (.cells D t x)->t≠44->y≠s.nx:=λf L=>f.ne N L;have O:=B.b.fr p X;have F:=B.n.fk p Y;have b4:=B.r.fk p λy f=>by have⟨_,_,z⟩:=B.r.blk f;exact l z dq
 have b5:=B.a.fk p λy f=>by have⟨_,_,z⟩:=B.a.blk f;exact l z dq
 have b6:=B.m.fk p λy D x f=>l f dq;have b7:=V.fk p λy f=>by
  rcases V with ⟨e,_⟩|⟨d,c,x,e,q1,q2⟩
  .rw[e] at f;exact(cw f).elim
  .rw[e] at f;rw[dk f];exact l (⟨q1,q2⟩:Has S d _) dq
 have bf:cL (KB b s) s (S.set s.nx<|some<|EX kd (σ.cur:Int) nm tx<|.slice g j i):=aL a4.1 (λz=>absurd z<|Nat.lt_irrefl _) _;have Z:(σ.row.length:Int)-1=((σ.row.length-1:Nat):Int):=oq
 rw[Z] at hc;generalize hR1:σ.row.length-1=R at *;refine aB<|aP kq kq kq<|zq<|zq<|zq<|zt S<|zu (yl b 1 (.slice (sq M) σ.row.length Q) E.2)<|zq<|zt S<|yt hc<|zu (yi M 0 σ.row.length Q R none .i64 (R:Nat) 1 oq oq oq)<|zt S<|zu (yl M R (num (σ.cur:Int)) T.2 (i:=I))<|zq<|zt S<|zu (ys s.nx 1 (num (σ.cur:Int)) N.2 iq)<|bq ⟨kN<|jT l1 l1,_,_,_,_,_,_,rfl,rfl,za (S.set s.nx<|some<|EX kd (σ.cur:Int) nm tx<|.slice g j i) ?_⟩;generalize S.set s.nx (some<|EX kd (σ.cur:Int) nm tx<|.slice g j i)=U at *;clear l1 l2 B N T a4 V hc E p l;have m1:=gW 38 O.2 (off:=0) rfl;have m2:bV prog 44 (aC s.nx 0) U=some (.agg #[num kd,num (σ.cur:Int),str nm,str tx,.slice g j i]):=fX (off:=0) (n:=5) underlying44 rfl kq b2.2 iq;have e3:=F.fk ((aE (K:=λ_=>False) U).add<|EX kd (σ.cur:Int) nm tx<|.slice g j i) λ_ _=>id;have e6:=aI U<|EX kd (σ.cur:Int) nm tx<|.slice g j i;have⟨w,C,c1,c2,c3,c4,c5,c6⟩:=YQ e3 ⟨kd,(σ.cur:Int),nm,tx,.slice g j i⟩ (by rw[h.m.1];omega);have u:cL (λy=>blk nv y) U C:=((aE U).add _).trans c5 λy _ z=>z;have Tv:¬blk nv b:=λz=>by have⟨_,_,z⟩:=F.blk z;exact O.ne z dq rfl
 have W:=O.fr u Tv;have q:∀{y:Nat} {D:Aq} {t:TypeId} {x:Nat × Nat},Has U y (.cells D t x)->t≠44->¬blk nv y:=λf L z=>by have⟨_,_,z⟩:=F.blk z;exact f.ne z L rfl
 have d4:=b4.fk u λy f=>by have⟨_,_,z⟩:=b4.blk f;exact q z dq
 have d5:=b5.fk u λy f=>by have⟨_,_,z⟩:=b5.blk f;exact q z dq
 have d6:=b6.fk u λy D x f=>q f dq;have d7:=b7.fk u λy f=>by
  rcases b7 with ⟨e,_⟩|⟨d,c,x,e,q1,q2⟩
  .rw[e] at f;exact(cw f).elim
  .rw[e] at f;rw[dk f];exact q (⟨q1,q2⟩:Has U d _) dq
 have df:cL (KB b s) s C:=bf.trans u λy f z=>(gT h.b.2).2<|.inr<|.inl z;have A:cL (λy=>y=b) C (C.set b<|some<|lU w rv av σ.w):=aL (K:=λy=>y=b) (aE C) (λ_=>rfl) _;have o:∀{y:Nat} {D:Aq} {t:TypeId} {x:Nat × Nat},Has C y (.cells D t x)->t≠183->y≠b:=λf L=>f.ne W L;have g1:=W.put<|lU w rv av σ.w;have g3:=c4.fk A λy f=>by have⟨_,_,z⟩:=c4.blk f;exact o z dq
 have g4:=d4.fk A λy f=>by have⟨_,_,z⟩:=d4.blk f;exact o z dq
 have g5:=d5.fk A λy f=>by have⟨_,_,z⟩:=d5.blk f;exact o z dq
 have g6:=d6.fk A λy D x f=>o f dq;have g7:=d7.fk A λy f=>by
  rcases d7 with ⟨e,_⟩|⟨d,c,x,e,q1,q2⟩
  .rw[e] at f;exact(cw f).elim
  .rw[e] at f;rw[dk f];exact o (⟨q1,q2⟩:Has C d _) dq
 have gf:cL (KB b s) s (C.set b<|some<|lU w rv av σ.w):=aL df (λ_=>.inl rfl) _;have W7:ej nv (sq U.nx)=true:=jc F.lt;have Rr:∀y,blk w y->s.nx<=y:=λy z=>by have:=c6 y z;have:=bf.1;simp at *;omega
 refine aP kq kq kq<|zq<|zq<|zq<|zq<|zt U<|zu (yl b 0 nv O.2)<|zu (yA s.nx 0 5 #[num kd,num (σ.cur:Int),str nm,str tx,.slice g j i] b2.2 iq)<|zq<|zt (U.add<|EX kd (σ.cur:Int) nm tx<|.slice g j i)<|zu (iG (sl:=nv) (news:=[num kd,num (σ.cur:Int),str nm,str tx,.slice g j i]) (d:=U.nx) (m:=1) (k:=1) (sz:=5) (z:=R3) (bytes:=72) rfl kq kq underlying38 kq rfl dq dq kq e6.2 W7 dq iq iq rfl c1)<|zq<|zq<|zt C<|zu (iH (b:=b) (off:=0) (w:=w) rfl kq kq c2 c3 kq W.2 iq)<|bq ⟨kN<|jT m1 m2 (by have⟨d,c,x,e,_⟩:=F;rw[e];rfl),_,_,_,_,_,_,rfl,rfl,⟨.inl rfl,kq,w,⟨h.sp.snoc hq,g1,g3,g6.snoc ⟨rfl,rfl,rfl,rfl,g7⟩,g4,g5,h.ra,λk hk=>?_,λk hk=>?_,h.ne,?_⟩,eY h.b g1 gf (.inr Rr) (.inl λ_ z=>z)<|.inl λ_ z=>z⟩⟩
 .have:=h.lt k hk;simp[TS.put];omega
 .have:=h.la k hk;simp[TS.put];omega
 .simp[TS.put];omega
def dB.lt(h:dB s v l):∀x,YtgcaionclkbehaaGreatDoor.blk v x->x<s.nx:=λx a=>by have⟨_,_,z⟩:=dB.blk h a;exact z.1
theorem Ni(h:dB s v l)(i:Nat)(b:l.length<=100000):∃w a,ce prog 3 v [num i] 1 s=some (w,a)/\w.cells=#[w]/\w.oneCell'=true/\dB a w (l++[i])/\cL (λy=>blk v y) s a/\∀y,blk w y->s.nx<=y:=by
 have⟨w,a,h1,h2,h3,f,g,j⟩:=Nj h i b;have k:(∀y,blk w y->s.nx<=y)/\cL (λy=>blk v y) s a:=by
  rcases h with ⟨rfl,rfl⟩|⟨d,cp,cs,fz,rfl,q0,q1,q2,q3⟩
  .cases h1;exact⟨λy z=>Nat.le_of_eq (dk z).symm,(aE s).add _⟩
  .have c:l.length<=cs.size:=by
    by_cases e:l.length=0
    .omega
    .have U:l.length-1<l.length:=oq
     have:=(oF.1<|q3 _ _<|gE U).1;omega
   rw[im (sz:=1) dq q2 kq oq oq] at h1;cases h1;exact⟨λy z=>Nat.le_of_eq (dk z).symm,(aL (aE s) (λ_=>eg _ _ _) none).add _⟩
 grind
theorem BB(Z:pr 223=none)(Y:pr 217=none)(a6:pr 232=none)(h:BT s b nv rv av xs σ){aY:kH}(T:dI s at_ aY)(hq:KU b nm at_)(hN:σ.nodes.length<400000000) :
  ∃N,Ef pr 223 #[aC b 0,str nm,at_] s (.tuple #[]) N/\BX N b (σ.open_ nm aY)/\dJ b s N:=by
 have⟨S,G,hP,c,X⟩:=D2 Y a6 h (kd:=1) (pa:=0) (nm:=nm) (tx:=[]) T hq hN;have⟨ad,cp,I⟩:=T.len;subst I;generalize aY.length=nA at *;have⟨A,p,E⟩:=c.r.len;have L:(σ.put ⟨1,0,nm,[],aY⟩).row=σ.row:=rfl;have l:=c.b;rw[L] at E;refine aX Z func223 rfl<|zr<|zc 4 hP<|am<|za S<|zr<|zg 3 S<|zp (yl b 1 rv l.2) ?_;subst E;refine zk 1 ?_;by_cases u:σ.row.length<40
 .have a7:(σ.nodes++[(⟨1,(σ.cur:Int),nm,[],aY⟩:Nd)]).length=σ.nodes.length+1:=iq
  have a8:=c.n.old;have⟨W,V,nf,D,O2⟩:=a8;rw[c.m.1,show(σ.put ⟨1,0,nm,[],aY⟩).nodes.length=σ.nodes.length+1 from a7] at D;have e4:=c.r.fk ((aE (K:=λ_=>False) S).add<|.cells #[num (σ.nodes.length:Int)] 3) λ_ _=>id;have e6:=aI S<|.cells #[num (σ.nodes.length:Int)] 3;have⟨w,U,c1,c2,c3,O,c5,c6⟩:=Ni e4 σ.nodes.length gq;have o:cL (λy=>blk (.slice A σ.row.length p) y) S U:=((aE S).add _).trans c5 λy _ z=>z;have h3:∀{y:Nat} {B:Aq} {t:TypeId} {C:Nat × Nat},Has S y (.cells B t C)->t≠3->¬blk (.slice A σ.row.length p) y:=λf M z=>by have⟨_,_,z⟩:=c.r.blk z;exact f.ne z M rfl
  have H:=c.b.fr o<|h3 c.b dq;have Q:=c.n.fk o λy f=>by have⟨_,_,z⟩:=c.n.blk f;exact h3 z dq
  have R:=c.a.fk o λy f z=>c.ra y z f;have d6:=c.m.fk o λy B C f=>h3 f dq;have v:cL (λy=>y=b) U (U.set b<|some<|lU G w av σ.w):=aL (K:=λy=>y=b) (aE U) (λ_=>rfl) _;have g:∀{y:Nat} {B:Aq} {t:TypeId} {C:Nat × Nat},Has U y (.cells B t C)->t≠183->y≠b:=λf M=>f.ne H M;have g1:=H.put<|lU G w av σ.w;have g3:=Q.fk v λy f=>by have⟨_,_,z⟩:=Q.blk f;exact g z dq
  have g4:=O.fk v λy f=>by have⟨_,_,z⟩:=O.blk f;exact g z dq
  have g5:=R.fk v λy f=>by have⟨_,_,z⟩:=R.blk f;exact g z dq
  have g6:=d6.fk v λy B C f=>g f dq;have gf:cL (KB b S) S (U.set b<|some<|lU G w av σ.w):=aL (o.mono λy _ q=>(gT c.b.2).2<|.inr<|.inr<|.inl q) (λ_=>.inl rfl) _;have F:∀y,blk w y->S.nx<=y:=λy z=>by have:=c6 y z;simp at this;omega
  subst D;refine zp (yb (num σ.row.length) (num 40)<|bE (b:=true)<|tD oq)<|am<|za S<|zH<|aP kq kq kq<|zq<|zq<|zq<|zq<|zt S<|zu (yl b 1 (.slice A σ.row.length p) l.2)<|zq<|zq<|zq<|zt S<|zu (yl b 0 (.slice (sq W) (σ.nodes.length+1) V) l.2)<|zq<|zu (gO (i:=((σ.nodes.length+1:Nat):Int)) (j:=1) (r:=(σ.nodes.length:Int)) rfl kq kq oq oq)<|zq<|zt (S.add<|.cells #[num (σ.nodes.length:Int)] 3)<|zu (iG (sl:=.slice A σ.row.length p) (news:=[num (σ.nodes.length:Int)]) (d:=S.nx) (m:=1) (k:=1) (sz:=1) (z:=num 0) (bytes:=8) rfl kq kq underlying25 kq rfl dq dq kq e6.2 (jc c.r.lt) dq iq iq rfl c1)<|zq<|zq<|zt U (zu (iH (b:=b) (off:=1) (w:=w) rfl kq kq c2 c3 kq H.2 iq) (bq ⟨kN<|jT (gW 25 l.2 (off:=1) rfl) (gW 38 l.2 (off:=0) rfl) (by cases A<;>rfl),_,_,_,_,_,_,rfl,rfl,⟨.inl rfl,kq,⟨_,w,_,_,c.sp,g1,g3,g6,?_,g5,λy f hz=>?_,λk J=>?_,λk J=>?_,?_,?_⟩,X.trans<|eY c.b g1 gf (.inl rfl) (.inr F)<|.inl λ_ z=>z⟩⟩))
  .show dB _ _ (if σ.row.length<40 then σ.row++[σ.nodes.length] else σ.row);rw[ip u];exact g4
  .have:=F y f
   have:=c.a.lt y hz;omega
  .have x:k∈(if σ.row.length<40 then σ.row++[σ.nodes.length] else σ.row):=J;rw[ip u,List.mem_append] at x;show k<(σ.put ⟨1,0,nm,[],aY⟩).nodes.length;rcases x with x|x
   .exact c.lt k x
   .simp at x;simp[TS.put];omega
  .exact c.la k J
  .show(if σ.row.length<40 then σ.row++[σ.nodes.length] else σ.row)≠[];rw[ip u];simp
  .have:=c.sz;refine⟨this.1,?_,this.2.2⟩;show(if σ.row.length<40 then σ.row++[σ.nodes.length] else σ.row).length<=40;grind
 .refine zp (yb (num σ.row.length) (num 40)<|bE (b:=false)<|fD oq)<|am<|za S<|zF ?_;have e:σ.open_ nm aY=σ.put ⟨1,0,nm,[],aY⟩:=by unfold TS.open_;rw[iw u];rfl
  rw[e];exact⟨.inl rfl,kq,⟨_,_,_,_,c⟩,X⟩
