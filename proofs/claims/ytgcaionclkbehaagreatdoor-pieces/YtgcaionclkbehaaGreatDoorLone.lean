import Derived.Conc.FxEnd
import Derived.Conc.Token
import Derived.Conc.CompanyMem
import Derived.Conc.FxBegin
set_option linter.all false
set_option maxHeartbeats 2000000
set_option maxRecDepth 100000
namespace Go.Proofs.YtgcaionclkbehaaGreatDoor
open Go.Conc
section
variable {n:Nat}{w w' aK:World}{S S':Nat->Prop}{u:Trace}
variable {α:Type _}{a c p:Prop}{b i k m:Nat}{r wr:Bool}{ad:Addr}{g g' jE:Goroutine}{l:Loc}{e:Event}{ops:Trace}{sm st:Int}{z:Touch}
theorem O{α:Sort _}{a:α}:a=a:=rfl
theorem Y{α:Sort _}{a:α}:a=a:=O
theorem I{α:Sort _}{a:α}:a=a:=O
theorem W{α:Sort _}{a:α}:a=a:=O
abbrev Bq:=List UInt8
abbrev Aq:=Array Value
abbrev Iq:=List Int
abbrev Vq:=List Value
abbrev Hq:=List<|Nat × Obj
abbrev Nq:=Nat->Value
abbrev Wq:=World->World->Prop
abbrev Gq:=Goroutine->World->Prop
abbrev sq (b:Nat):Option Addr:=some ⟨b,0,none⟩
abbrev EV:List (Bq):=[[116,98,111,100,121],[116,102,111,111,116],[116,104,101,97,100]]
abbrev Ru:List (Bq):=[[115,99,114,105,112,116],[115,116,121,108,101],[116,105,116,108,101]]
abbrev Pp:List (Bq):=[[98,111,100,121],[104,101,97,100],[104,116,109,108]]
abbrev ZX:List (Bq):=[[104,101,97,100],[98,111,100,121],[104,116,109,108],[98,114],[112]]
abbrev T6:Bq:=[116,105,116,108,101]
abbrev qz:Bq:=[104,116,109,108]
abbrev T7:Bq:=[115,99,114,105,112,116]
abbrev T8:Bq:=[115,116,121,108,101]
abbrev KI:Bq:=[104,101,97,100]
abbrev T9:Bq:=[98,111,100,121]
abbrev KJ:Bq:=[9,10,12,13,32]
abbrev lql:Bq:=[116,101,120,116,97,114,101,97]
abbrev lqm:Bq:=[60,47,116,105,116,108,101]
abbrev Rv:Bq:=[111,112,116,105,111,110]
abbrev ZY:Bq:=[116,102,111,111,116]
abbrev ZZ:Bq:=[116,98,111,100,121]
abbrev Z0:Bq:=[116,104,101,97,100]
abbrev JH:Bq:=[108,105]
abbrev Cq:Bq:=[98,114]
abbrev Yi:Bq:=[117,108]
abbrev Ua:Bq:=[116,97,98,108,101]
abbrev Yj:Bq:=[99,97,112,116,105,111,110]
def kq {α:Sort _} {a b:α} (h:a=b:=by kernel_rfl):a=b:=h
def oq(h:p:=by omega):p:=h
def dq(h:p:=by decide):p:=h
def iq(h:p:=by simp):p:=h
theorem gq(h:p:=by grind):p:=h
def rq(h:p:=by rfl):p:=h
def i3 {b:Prop} (h:p):a\/b\/c\/p:=.inr<|.inr<|.inr h
def i2 {b:Prop} (h:p):a\/b\/p:=.inr<|.inr h
def gE{l:List α}(h:i<l.length):l[i]?=some l[i]:=List.getElem?_eq_getElem h
def gF{l:Array α}(h:i<l.size):l[i]?=some l[i]:=Array.getElem?_eq_getElem h
def gS{a:α} {l:List α}:l[i]?=some a↔∃ h,l[i]=a:=List.getElem?_eq_some_iff
def tD[Decidable p] (h:p):decide p=true:=decide_eq_true h
def fD[Decidable p] (h:¬p):decide p=false:=decide_eq_false h
def ip{h:Decidable c} (hc:c) {α:Sort _} {t e:α}:(if c then t else e)=t:=if_pos hc
def iw{h:Decidable c} (hc:¬c) {α:Sort _} {t e:α}:(if c then t else e)=e:=if_neg hc
def lr: n<=n:=Nat.le_refl n
def lA{a b:List α}:(a++b).length=a.length + b.length:=List.length_append
def lC{a:α} {b:List α}:(a :: b).length=b.length + 1:=List.length_cons
def mG{l:List α}{a:α} (h:l[i]?=some a):a∈l:=List.mem_of_getElem? h
def lL(h:n<m) (h':m<=k):n<k:=Nat.lt_of_lt_of_le h h'
def bF[BEq α] [LawfulBEq α] {a b:α}:(a == b)=false↔a≠b:=beq_eq_false_iff_ne
def tL{l:List α} (h:l.length<=i):List.take i l=l:=List.take_of_length_le h
def aT{p:α->Bool} {l:List α}:l.all p=true↔∀ x,x∈l->p x=true:=List.all_eq_true
def lT(h:n<=m) (h':m<=k):n<=k:=Nat.le_trans h h'
def oF:=@Array.getElem?_eq_some_iff
def yq:=@Array.getElem?_setIfInBounds_ne
def iC:=@Nat.eq_of_beq_eq_true
def xH:=@Option.some.injEq
def nU:=@Bool.and_eq_true
def Dj:=@List.getD_eq_getElem?_getD
def Cg:=@List.getElem?_append_left
def EN:=@List.getElem?_append_right
def wu:=@Array.toList_inj
def OW:=@Array.getElem?_setIfInBounds_self_of_lt
def Jw:=@Array.getD_eq_getD_getElem?
def vt:=@List.append_assoc
def Kh:=@Option.some.inj
def sT:=@Option.map_eq_some_iff
def zL:=@List.not_mem_nil
def oc:=@List.mem_cons
def HA:=@List.getElem?_take
def yE:=@Int.toNat_natCast
def HU:=@List.length_pos_iff
def lI:=@Bool.false_eq_true
def H2:=@Array.mem_singleton
def yY:=@Option.bind_some
def rj:=@List.map_cons
def Bf:=@List.map_append
def Jk:=@List.drop_of_length_le
def KM:=@List.mem_append_left
def MC:=@List.mem_append_right
def G6:=@Bool.or_eq_true
def LY:=@List.getElem?_toArray
def LZ:=@Array.getElem?_modify
def OX:=@List.getElem?_cons_zero
def zB:=@List.getElem_mem
def KO:=@Array.length_toList
def Dv:=@List.mem_cons_of_mem
def LA:=@List.getElem?_drop
def iz:=@Nat.le_refl
def bI.{u}:(∀{c:Sort u}[Decidable True](a b:c),(if True then a else b)=a)/\(∀{c:Sort u}[Decidable False](a b:c),(if False then a else b)=b)/\((false=true)=False):=⟨λ_ _=>if_true _ _,λ_ _=>if_false _ _,Bool.false_eq_true⟩
def bJ:(∀a:Bool,(a&&true)=a)/\(∀a:Bool,(a&&false)=false)/\(∀a:Bool,(false&&a)=false)/\(∀a:Bool,(true&&a)=a):=⟨Bool.and_true,Bool.and_false,Bool.false_and,Bool.true_and⟩
def bZ:(∀{U:Type}(l:List U),l.toArray.size=l.length)/\(∀{U:Type}(a:U)(l:List U),(a::l).length=l.length+1)/\(∀{U:Type},([]:List U).length=0)/\(∀{U:Type}(n:Nat)(a:U),Array.replicate (n+1) a=(Array.replicate n a).push a)/\(∀{U:Type}(a:U),Array.replicate 0 a=#[])/\(∀{U:Type}(l:List U)(a:U),l.toArray.push a=(l++[a]).toArray)/\(∀{U:Type}(l m:List U),l.toArray++m.toArray=(l++m).toArray)/\(∀{U:Type}(l:List U),[]++l=l)/\∀{U:Type}(a:U)(l m:List U),a::l++m=a::(l++m):=by refine⟨?_,?_,?_,?_,?_,?_,?_,?_,?_⟩<;>intros<;>first|rfl|simp|exact Array.replicate_succ
variable {c:Nat}{t:Trace}
section
open Go.ConcN (RelBy)
structure vL(Shun fj Still:Loc->Prop)(t:Trace)(Kc:Nat->Prop)(i:Nat)(a:Touch):Prop where
 qi:fj a.loc->Kc i
 mine:¬fj a.loc->¬Still a.loc->Knows t 0 i
 still:Still a.loc->a.write=true->Knows t 0 i/\Kc i
 any:Knows t 0 i\/Kc i
 yL:Shun a.loc->a.kind=.plain->Kc i
structure PT(Shun fj Still:Loc->Prop)(c:Nat)(Kc:Nat->Prop)(t:Trace):Prop where
 clean:∀said,¬Race said t
 known:∀i a,touchAt t i=some a->a.loc.isMemory=true->(Shun a.loc/\a.kind=.atomic)\/vL Shun fj Still t Kc i a
 over:∀i g,t.g? i=some g->g≠0->g≠c->t.counts i->∃j,t.g? j=some 0/\HappensBefore t i j
structure Apart(Shun fj Still:Loc->Prop):Prop where
 ks:∀l,fj l->¬Still l
 kh:∀l,fj l->¬Shun l
 sh:∀l,Still l->¬Shun l
section
variable {Shun fj Still:Loc->Prop}{Kc Vv:Nat->Prop}
def vL.app{a:Touch}(h:vL Shun fj Still t Kc i a)(hK:∀i,Kc i->Vv i)(u:Trace):vL Shun fj Still (t++u) Vv i a :=
 ⟨λx=>hK i<|h.qi x,λx y=>(h.mine x y).app u,λx y=>⟨(h.still x y).1.app u,hK i (h.still x y).2⟩,h.any.imp (·.app u)<|hK i,λx y=>hK i<|h.yL x y⟩
theorem pJ(h:∀i g,t.g? i=some g->g≠0->g≠c->t.counts i->∃j,t.g? j=some 0/\HappensBefore t i j)(v:∀b∈u,b.g=0\/b.g=c\/b.act.touch?=none) :
  ∀i g,(t++u).g? i=some g->g≠0->g≠c->(t++u).counts i->∃j,(t++u).g? j=some 0/\HappensBefore (t++u) i j:=by
 intro i g e l n U;have⟨x,k,p,o⟩:=U;have⟨b,a,q⟩:=touch_of k;rcases getElem?_append_cases a with ⟨hi,_⟩|⟨_,hopu⟩
 .have⟨j,f,m⟩:=h i g (by rw[<-g?_old hi];exact e) l n<|(counts_old hi).1 ⟨x,k,p,o⟩;have d:j<t.size:=by have⟨z,r,_⟩:=sT.1 f;exact lt_size_of_getElem? r
  exact⟨j,by rw[g?_old d];exact f,hb_app u m⟩
 .have s:b.g=g:=by simpa[Trace.g?,a] using e
  grind
def PT.mono{b:Loc->Prop}(h:PT Shun fj Still c Kc t)(m:∀l,fj l->b l)(j:∀i a,touchAt t i=some a->b a.loc->fj a.loc\/Kc i\/(Shun a.loc/\a.kind=.atomic)):PT Shun b Still c Kc t:=by
 refine⟨h.clean,λi a f g=>?_,h.over⟩;rcases h.known i a f g with k|k
 .exact .inl k
 .by_cases d:b a.loc
  .rcases j i a f d with z|z|z
   .exact .inr ⟨λ_=>k.qi z,λe=>absurd d e,k.still,k.any,k.yL⟩
   .exact .inr ⟨λ_=>z,λe=>absurd d e,k.still,k.any,k.yL⟩
   .exact .inl z
  .exact .inr ⟨λz=>absurd z d,λ_=>k.mine<|λy=>d<|m _ y,k.still,k.any,k.yL⟩
theorem PT.mute(h:PT Shun fj Still c Kc t)(q:∀i,Kc i->Vv i)(w:∀n∈u,n.act.touch?=none):PT Shun fj Still c Vv (t++u):=by
 refine⟨λf=>?_,λi a g v=>?_,pJ h.over λn l=>.inr<|.inr<|w n l⟩
 .rintro⟨i,j,o,⟨a,b,g,r,s⟩,A,B⟩;have⟨x,p,U⟩:=touch_of g;have⟨y,z,m⟩:=touch_of r;rcases getElem?_append_cases z with ⟨hj,KH⟩|⟨_,hyu⟩
  .have d:t[i]?=some x:=gq
   exact h.clean f ⟨i,j,o,⟨a,b,by simp[Trace.act?,d,U],by simp[Trace.act?,KH,m],s⟩,λe=>A<|hb_app u e,λe=>B<|hb_app u e⟩
  .grind
 .have⟨x,p,U⟩:=touch_of g;rcases getElem?_append_cases p with ⟨_,d⟩|⟨_,O9⟩
  .exact(h.known i a (by rw[touchAt_of d];exact U) v).imp id λk=>k.app q u
  .grind
structure Ok0(Shun fj Still:Loc->Prop)(b:Touch):Prop where
 qi:¬fj b.loc
 still:Still b.loc->b.write=false
 yL:Shun b.loc->b.kind≠.plain
def PT.app0(h:PT Shun fj Still c Kc t)(A:∀i,Kc i->Vv i)(v:∀j∈u,j.g=0)(y:∀j∈u,∀b,j.act.touch?=some b->Ok0 Shun fj Still b):PT Shun fj Still c Vv (t++u):=by
 refine⟨λo=>noRace_append (h.clean o) v λi a q j d b B m=>?_,λi a q C=>?_,pJ h.over λj d=>.inl<|v j d⟩
 .have f:=y j d b B;rcases h.known i a q m.2.1 with ⟨EU,sy⟩|k
  .rcases m.2.2.2 with e|e|⟨_,e,_⟩
   .rw[sy] at e;cases e
   .exact absurd e<|f.yL<|m.1▸EU
   .rw[sy] at e;cases e
  .by_cases p:Still a.loc
   .have r:=f.still<|m.1▸p;rcases m.2.2.1 with e|e
    .exact(k.still p e).1
    .rw[r] at e;cases e
   .exact k.mine (λe=>f.qi<|m.1▸e) p
 .have⟨x,z,n⟩:=touch_of q;rcases getElem?_append_cases z with ⟨_,Dq⟩|⟨_,O9⟩
  .exact(h.known i a (by rw[touchAt_of Dq];exact n) C).imp id λk=>k.app A u
  .have l:=knows_own z;rw[v x O9] at l;have f:=y x O9 a n;exact .inr ⟨λe=>absurd e f.qi,λ_ _=>l,λe w=>(by rw[f.still e] at w;cases w),.inl l,λe w=>absurd w<|f.yL e⟩
def Vx (Shun fj Still:Loc->Prop)(b:Touch):Prop:=fj b.loc\/(Still b.loc/\b.write=false)\/(Shun b.loc/\b.kind=.atomic)
theorem PT.K9(A:Apart Shun fj Still)(h:PT Shun fj Still c (Knows t c) t)(n:∀f∈u,f.g=c)(p:∀f∈u,∀b,f.act.touch?=some b->Vx Shun fj Still b):PT Shun fj Still c (Knows (t++u) c) (t++u):=by
 refine⟨λl=>noRace_append (h.clean l) n λi a j f m b r U=>?_,λi a j s=>?_,pJ h.over λf m=>.inr<|.inl<|n f m⟩
 .rcases p f m b r with ok|⟨ok,a6⟩|⟨ok,a4⟩
  .rcases h.known i a j U.2.1 with ⟨a1,_⟩|k
   .exact absurd a1<|A.kh _<|by rw[U.1];exact ok
   .exact k.qi<|by rw[U.1];exact ok
  .rcases h.known i a j U.2.1 with ⟨a1,_⟩|k
   .exact absurd a1<|A.sh _<|by rw[U.1];exact ok
   .rcases U.2.2.1 with e|e
    .exact(k.still (by rw[U.1];exact ok) e).2
    .rw[a6] at e;cases e
  .rcases h.known i a j U.2.1 with ⟨_,a3⟩|k
   .rcases U.2.2.2 with e|e|⟨_,e,_⟩
    .rw[a3] at e;cases e
    .rw[a4] at e;cases e
    .rw[a3] at e;cases e
   .rcases U.2.2.2 with e|e|⟨_,_,e⟩
    .exact k.yL (by rw[U.1];exact ok) e
    iterate 2
     .rw[a4] at e;cases e
 .have⟨x,q,o⟩:=touch_of j;rcases getElem?_append_cases q with ⟨_,Dq⟩|⟨_,O9⟩
  .exact(h.known i a (by rw[touchAt_of Dq];exact o) s).imp id λk=>k.app (λ_=>Knows.app u) u
  .have d:=knows_own q;rw[n x O9] at d;rcases p x O9 a o with ok|⟨ok,haw⟩|⟨ok,hak⟩
   .exact .inr ⟨λ_=>d,λe=>absurd ok e,λe=>absurd e<|A.ks _ ok,.inr d,λe=>absurd e<|A.kh _ ok⟩
   .exact .inr ⟨λe=>absurd ok<|A.ks _ e,λ_ e=>absurd ok e,λ_ w=>gq,.inr d,λe=>absurd e<|A.sh _ ok⟩
   .exact .inl ⟨ok,hak⟩
def PT.I7{r:Nat}(h:PT Shun fj Still c (λi=>Before t i r) t)(y:t.g? r=some c)(s:∀f∈u,f.g=c)(q:∀f∈u,∀b,f.act.touch?=some b->Shun b.loc/\b.kind=.atomic) :
  PT Shun fj Still c (λi=>Before (t++u) i r) (t++u):=by
 have⟨z,B,p⟩:=sT.1 y;refine⟨λm=>noRace_append (h.clean m) s λi a o f d b v n=>?_,λi a o w=>?_,pJ h.over λf d=>.inr<|.inl<|s f d⟩
 .have⟨C,j⟩:=q f d b v;rcases h.known i a o n.2.1 with ⟨_,sy⟩|k
  .rcases n.2.2.2 with e|e|⟨_,e,_⟩
   .rw[sy] at e;cases e
   .rw[j] at e;cases e
   .rw[sy] at e;cases e
  .rcases n.2.2.2 with e|e|⟨_,_,e⟩
   .exact⟨r,z,B,p,k.yL (by rw[n.1];exact C) e⟩
   iterate 2
    .rw[j] at e;cases e
 .have⟨x,A,l⟩:=touch_of o;rcases getElem?_append_cases A with ⟨_,Dq⟩|⟨_,O9⟩
  .exact(h.known i a (by rw[touchAt_of Dq];exact l) w).imp id λk=>k.app (λ_=>Before.app u) u
  .exact .inl<|q x O9 a l
def PT.release(h:PT Shun fj Still c (Knows t c) t){y:MemOp}(e:y.g=c)(d:y.act.touch?=none):PT Shun fj Still c (λi=>Before (t++#[y]) i t.size) (t++#[y]):=by exact h.mute (λi b=>.inr<|b.hb_new lr iq e)<|λf a=>by simp at a;subst a;exact d
theorem PT.fork{U:Loc->Prop}{B:Nat}(h:Past Shun B t)(G:Deaf t c=0)(J:∀l,Shun l->U l)(q p:FuncId)(m:String) :
  PT U fj Still c (Knows (t++#[{ g:=0,fn:=q,pos:=m,act:=.go c },{ g:=c,fn:=p,pos:=m,act:=.start }]) c) (t++#[{ g:=0,fn:=q,pos:=m,act:=.go c },{ g:=c,fn:=p,pos:=m,act:=.start }]):=by
 generalize P:(#[{ g:=0,fn:=q,pos:=m,act:=.go c },{ g:=c,fn:=p,pos:=m,act:=.start }]:Trace)=u;have O:∀r∈u,r.act.touch?=none:=by intro r f;subst P;simp[List.mem_toArray,oc,zL,or_false] at f;rcases f with rfl|rfl<;>rfl
 have o:(t++u)[t.size]?=some { g:=0,fn:=q,pos:=m,act:=.go c }:=gq
 have e1:(t++u)[t.size+1]?=some { g:=c,fn:=p,pos:=m,act:=.start }:=gq
 have H:(t++u).deaf c (t.size+1)=0:=by rw[deaf_succ o,deaf_old lr];exact G
 have F:HappensBefore _ t.size _ :=
  Relation.TransGen.single (.inr ⟨.spawn (by rw[act?_of o]) (by rw[act?_of e1])<|by simp[Trace.g?,e1],⟨0,by simp[Trace.g?,o],by rw[deaf_old lr];exact h.hears⟩,⟨c,by simp[Trace.g?,e1],H⟩⟩);refine⟨λn=>?_,λi a w N=>?_,pJ (λi g M I _ d=>h.over i g M I d) λr f=>.inr<|.inr<|O r f⟩
 .rintro⟨i,j,D,⟨a,b,w,K,L⟩,R,S⟩;have⟨x,E,v⟩:=touch_of w;have⟨y,Q,z⟩:=touch_of K;rcases getElem?_append_cases Q with ⟨hj,KH⟩|⟨_,hyu⟩
  .have s:t[i]?=some x:=gq
   exact h.clean n ⟨i,j,D,⟨a,b,by simp[Trace.act?,s,v],by simp[Trace.act?,KH,z],L⟩,λe=>R<|hb_app u e,λe=>S<|hb_app u e⟩
  .grind
 .have⟨x,E,v⟩:=touch_of w;rcases getElem?_append_cases E with ⟨_,s⟩|⟨_,O9⟩
  .rcases h.known i a (by rw[touchAt_of s];exact v) N with k|⟨k1,k2⟩
   .have C:Knows _ c i:=⟨t.size+1,_,e1,Y,.inr<|(k.hb_new lr o Y).trans F⟩;have A:=k.app u;exact .inr ⟨λ_=>C,λ_ _=>A,λ_ _=>⟨A,C⟩,.inl A,λ_ _=>C⟩
   .exact .inl ⟨J _ k1,k2⟩
  .grind
theorem PT.join{r:Nat}(h:PT Shun fj Still c (λi=>Before t i r) t)(j:RelBy ad t c r)(w:Deaf t 0=0)(A:∀k,r<k->t.act? k≠some (.mark<|.release ad))(fn:FuncId)(pos:String)(B:Nat)
 (v:∀o∈t++#[{ g:=0,fn:=fn,pos:=pos,act:=.mark (.acquire ad) }],o.act.low B):Past Shun B (t++#[{ g:=0,fn:=fn,pos:=pos,act:=.mark (.acquire ad) }]):=by
 generalize x:(#[{ g:=0,fn:=fn,pos:=pos,act:=.mark _ }]:Trace)=u at v |-;have F:∀o∈u,o.act.touch?=none:=by intro o f;subst x;simp at f;subst f;rfl
 have l:(t++u)[t.size]?=some { g:=0,fn:=fn,pos:=pos,act:=.mark (.acquire ad) }:=gq
 have U:=lt_of_act? j.act;have q:(t++u).heard t.size:=⟨0,by simp[Trace.g?,l],by rw[deaf_old lr];exact w⟩;have d:HappensBefore (t++u) r t.size:=by refine Relation.TransGen.single<|.inr ⟨.marked U (.inr<|by rw[act?_old U];exact j.act) (by rw[act?_of l])<|λk h1 h2=>?_,(heard_old U).2 j.heard,q⟩;rw[act?_old h2];exact A k h1
 have H:∀i,Before t i r->Knows _ 0 i:=λi n=>⟨t.size,_,l,O,.inr<|(n.app u).hb d⟩;have p:=h.mute H F;refine⟨p.clean,λi a D E=>?_,λi g m C b=>?_,?_,v⟩
 .rcases p.known i a D E with k|k
  .exact .inr k
  .exact .inl<|k.any.elim id id
 .by_cases s:g=c
  .subst s;have⟨z,G,J⟩:=sT.1 m;rcases getElem?_append_cases G with ⟨n,hz'⟩|⟨_,hzu⟩
   .have y:t.g? i=some g:=by rw[<-g?_old n];exact m
    have I:=Nat.le_of_not_lt λe=>j.after i e y<|(counts_old n).1 b;refine⟨t.size,by simp[Trace.g?,l],?_⟩;rcases Nat.lt_or_ge i r with e|hge
    .exact Relation.TransGen.trans (.single<|.inl ⟨e,g,m,by rw[g?_old U];exact j.g⟩) d
    .grind
   .grind
  .exact p.over i g m C s b
 .subst x;rw[Deaf_push];exact w
end
end
def branch(S' S:List World->Prop):Prop:=S []/\∃w,S'=λp=>S (w::p)
structure Tr where
 S:List World->Prop
 acc:Acc branch S
def Sub (a b:Tr):Prop:=branch a.S b.S
def GP:WellFounded Sub:=⟨λa=>InvImage.accessible (f:=Tr.S) a.acc⟩
def Tr.leaf:Tr:=⟨λ_=>False,Acc.intro _ λ_ h=>h.1.elim⟩
def Yr(f:World->Tr):List World->Prop
 | []=>True
 | w::p=>(f w).S p
def Tr.node(f:World->Tr):Tr:=⟨Yr f,Acc.intro _ λa h=>by
 obtain⟨_,w,rfl⟩:=h;exact(f w).acc⟩
def NV(f:World->Tr)(w:World):Sub (f w) (.node f):=⟨trivial,w,O⟩
def Tr.ofNat:Nat->Tr
 | 0=>.leaf
 | n+1=>.node λ_=>Tr.ofNat n
def K4(P:Program)(main:Bool)(R:Wq)(D:World->World->Array Event->Prop)(Stop:Gq)(X:Tr->Gq)(τ:Tr)(g:Goroutine)(w:World):Prop :=
 ∀aK,R w aK->Stop g aK\/(g.status=.running/\∃g' w' es yr,stepG P main g aK=.go g' w' es/\D aK w' es/\Sub yr τ/\X yr g' w')
def fH(P:Program)(main:Bool)(R:Wq)(D:World->World->Array Event->Prop)(Stop:Gq)(τ:Tr)(g:Goroutine)(w:World):Prop :=
 ∃X:Tr->Goroutine->World->Prop,X τ g w/\∀τ g w,X τ g w->K4 P main R D Stop X τ g w
def Way (P:Program)(main:Bool)(R:Wq)(D:World->World->Array Event->Prop)(Stop:Gq)(g:Goroutine)(w:World):Prop:=∃τ,fH P main R D Stop τ g w
section
variable {P:Program}{main:Bool}{R R':Wq}{D D':World->World->Array Event->Prop}{Stop G2:Gq}
def fH.now{j:Tr}(h:fH P main R D Stop j g w)(k:R w aK) :
  Stop g aK\/(g.status=.running/\∃f b c a,stepG P main g aK=.go f b c/\D aK b c/\Sub a j/\fH P main R D Stop a f b):=by
 have⟨X,l,i⟩:=h;rcases i _ _ _ l aK k with x|⟨hs,f,b,c,a,e,d,s,n⟩
 .exact .inl x
 .exact .inr ⟨hs,f,b,c,a,e,d,s,X,n,i⟩
def cV:=@fH.now
theorem fH.FV{i:Tr}(h:K4 P main R D Stop (fH P main R D Stop) i g w):fH P main R D Stop i g w:=by
 refine⟨λa c f=>fH P main R D Stop a c f\/(a=i/\c=g/\f=w),.inr ⟨O,O,O⟩,λa c f U b j=>?_⟩;rcases U with U|⟨rfl,rfl,rfl⟩
 .rcases U.now j with x|⟨hs,g2,w2,es,τ2,e,d,s,n⟩
  .exact .inl x
  .grind
 .rcases h b j with x|⟨hs,g2,w2,es,τ2,e,d,s,n⟩
  .exact .inl x
  .grind
def fH.leaf{τ:Tr}(h:∀aK,R w aK->Stop g aK):fH P main R D Stop τ g w:=.FV λaK hr=>.inl<|h aK hr
def fH.rely(trans:∀a b c,R a b->R b c->R a c){τ:Tr}(h:fH P main R D Stop τ g w)(hr:R w aK):fH P main R D Stop τ g aK :=
 .FV λqC Mf=>h.now<|trans _ _ _ hr Mf
def eK:=@fH.rely
def fH.running(a:∀w,R w w)(b:∀g w,Stop g w->g.status=.running){c:Tr}(h:fH P main R D Stop c g w):g.status=.running:=by
 rcases h.now (a w) with x|⟨x,_⟩
 .exact b _ _ x
 .exact x
def dH:=@fH.running
theorem fH.uE(k:∀a b,R' a b->R a b)(p:∀w i f,D w i f->D' w i f)(l:∀g w,Stop g w->G2 g w){j:Tr}(h:fH P main R D Stop j g w):fH P main R' D' G2 j g w:=by
 have⟨X,U,m⟩:=h;refine⟨X,U,λj g w U c o=>?_⟩;rcases m _ _ _ U c (k _ _ o) with x|⟨hs,g',i,f,yr,e,d,s,n⟩
 .exact .inl<|l _ _ x
 .grind
def Way.uE(hR:∀a b,R' a b->R a b)(hD:∀w w' es,D w w' es->D' w w' es)(hS:∀g w,Stop g w->G2 g w)(h:Way P main R D Stop g w):Way P main R' D' G2 g w :=
 let ⟨τ,x⟩:=h;⟨τ,x.uE hR hD hS⟩
def Way.rely(d:∀a b c,R a b->R b c->R a c)(h:Way P main R D Stop g w)(e:R w aK):Way P main R D Stop g aK:=let ⟨τ,x⟩:=h;⟨τ,x.rely d e⟩
def Way.stop(h:∀a,R w a->Stop g a):Way P main R D Stop g w:=⟨.leaf,.leaf h⟩
def Wc (P:Program)(main:Bool)(R:Wq)(D:World->World->Array Event->Prop)(Stop:Gq)(g:Goroutine)(w:World):Prop :=
 Stop g w\/(g.status=.running/\∃g' w' es,stepG P main g w=.go g' w' es/\D w w' es/\Way P main R D Stop g' w')
def Way.head(h:Way P main R D Stop g w)(a:R w aK):Wc P main R D Stop g aK:=by
 have⟨b,h⟩:=h;rcases h.now a with x|⟨hs,g',w',es,yr,e,d,_,n⟩
 .exact .inl x
 .exact .inr ⟨hs,g',w',es,e,d,yr,n⟩
def qP(h:∀a,R w a->Wc P main R D Stop g a):Way P main R D Stop g w:=by
 have l:∀a,∃k,R w a->Stop g a\/(g.status=.running/\∃i b c,stepG P main g a=.go i b c/\D a b c/\fH P main R D Stop k i b):=by
  intro a;by_cases j:R w a
  .rcases h a j with x|⟨hs,i,b,c,e,d,k,n⟩
   .exact⟨.leaf,λ_=>.inl x⟩
   .exact⟨k,λ_=>.inr ⟨hs,i,b,c,e,d,n⟩⟩
  .exact⟨.leaf,λz=>absurd z j⟩
 have⟨f,m⟩:=Classical.axiomOfChoice l;refine⟨.node f,.FV λa j=>?_⟩;rcases m a j with x|⟨hs,i,b,c,e,d,n⟩
 .exact .inl x
 .exact .inr ⟨hs,i,b,c,f a,e,d,NV f a,n⟩
def Way.step(hs:g.status=.running)(h:∀aK,R w aK->∃g' w' es,stepG P main g aK=.go g' w' es/\D aK w' es/\Way P main R D Stop g' w'):Way P main R D Stop g w :=
 qP λaK hr=>.inr ⟨hs,h aK hr⟩
def Way.bind(b:∀w,R w w)(h:Way P main R D (λg w=>Way P main R D Stop g w) g w):Way P main R D Stop g w:=by
 obtain⟨f,h⟩:=h;induction f using GP.induction generalizing g w with
 | _ f ih =>
  refine qP λc a=>?_;rcases h.now a with x|⟨hs,g',w',es,yr,e,d,s,n⟩
  .exact x.head<|b c
  .exact .inr ⟨hs,g',w',es,e,d,ih yr s n⟩
def cY(h:Goes P main R D Stop n g w):Way P main R D Stop g w:=by
 induction n generalizing g w with
 | zero=>exact⟨.leaf,.leaf h⟩
 | succ n d =>
  rcases h with h|⟨hs,h⟩
  .exact⟨.leaf,.leaf h⟩
  .refine Way.step hs λa c=>?_;have b:=h a c;cases e:stepG P main g a with
   | go g' w' es=>rw[e] at b;exact⟨g',w',es,O,b.1,d b.2⟩
   | _=>rw[e] at b;exact b.elim
end
section
def QB:Obj->TypeId
 | .cells _ t _=>t
 | .stringIter s _=>1000+s.size
 | _=>999
def l8(n:Nat)(l:Loc):Prop:=(∀ad:Addr,l=.cell ad->ad.block<n)/\∀b,l=.obj b->b<n
def l8.mono(h:l8 n l)(a:n<=m):l8 m l:=⟨λc e=>lL (h.1 c e) a,λb e=>lL (h.2 b e) a⟩
structure Cfg where
 P:Program
 ty:TypeId
 A:Nat
 E:Nat
 Wg:Nat
 C:Nat
 tT:Nat->Prop
 N0:Nat
 KT:TypeId->Prop
 Still:Nat->Prop
 Shun:Loc->Prop
 B:Nat
 z:Value
 zs:Value
 zE:Value
 val:Value
 Mz:Loc->Prop
namespace Cfg
variable (K:Cfg)
def Zy (b:Nat):Prop:=b=K.A\/b=K.E\/b=K.Wg
def fj (w:World)(b:Nat):Prop:=K.tT b\/(K.N0<=b/\∃o,w.heap[b]?=some o/\K.KT (QB o))
def lE (S:Nat->Prop)(l:Loc):Prop:=(∃a,l=.cell a/\S a.block)\/l=.obj K.E\/∃b,l=.obj b/\S b
abbrev TV(w:World):Loc->Prop:=K.lE<|K.fj w
def iJ(l:Loc):Prop:=∃a,l=.cell a/\K.Still a.block
def cases:Array CommCase:=#[rcase K.A K.z,rcase K.E K.zE]
def B4 (w:World)(st sm:Int):Prop:=w.heap[K.Wg]?=some (.cells #[.int .u64 st,.int .u32 sm] K.ty)
def Em:Addr:=⟨K.Wg,0,none⟩
structure Fit:Prop where
 AE:K.A≠K.E
 AW:K.A≠K.Wg
 EW:K.E≠K.Wg
 k0A:¬K.tT K.A
 k0E:¬K.tT K.E
 k0W:¬K.tT K.Wg
 A0:K.A<K.N0
 E0:K.E<K.N0
 W0:K.Wg<K.N0
 sA:¬K.Still K.A
 sE:¬K.Still K.E
 sW:¬K.Still K.Wg
 s0:∀b,K.Still b->b<K.N0
 c0:∀b,K.tT b->b<K.N0
 k0s:∀b,K.tT b->¬K.Still b
 On:K.tT K.C
 RI:∀a:Addr,a.block=K.Wg->K.Shun (.cell a)
 mj:∀l,K.Shun l->∃a,l=.cell a/\a.block<K.N0
 k0h:∀a:Addr,K.tT a.block->¬K.Shun (.cell a)
 sh:∀a:Addr,K.Still a.block->¬K.Shun (.cell a)
 WB:K.Wg<K.B
 CB:K.C<K.B
end Cfg
variable (K:Cfg)
def Cfg.fj.low{K:Cfg}(h:K.fj w b)(a:b<K.N0):K.tT b:=h.elim id λz=>absurd z.1 oq
theorem Cfg.fj.lt{K:Cfg}(F:K.Fit)(U:K.N0<=w.heap.size)(h:K.fj w b):b<w.heap.size:=by
 rcases h with h|⟨_,o,h,_⟩
 .exact lL (F.c0 b h) U
 .grind
def Cfg.fj.of_same{K:Cfg}(h:K.fj w b)(e:w'.heap[b]?=w.heap[b]?):K.fj w' b:=by
 rcases h with h|⟨h1,o,h,h2⟩
 .exact .inl h
 .exact .inr ⟨h1,o,e.trans h,h2⟩
def Cfg.lE.mono{K:Cfg}(h:∀b,S b->S' b)(c:K.lE S l):K.lE S' l:=by
 rcases c with ⟨a,rfl,ha⟩|rfl|⟨b,rfl,ha⟩
 .exact .inl ⟨a,O,h _ ha⟩
 .exact .inr<|.inl O
 .exact .inr<|.inr ⟨b,O,h _ ha⟩
def Cfg.Fit.kA{K:Cfg}(F:K.Fit)(w:World):¬K.fj w K.A:=λh=>F.k0A<|h.low F.A0
def Cfg.Fit.kE{K:Cfg}(F:K.Fit)(w:World):¬K.fj w K.E:=λh=>F.k0E<|h.low F.E0
def Cfg.Fit.kW{K:Cfg}(F:K.Fit)(w:World):¬K.fj w K.Wg:=λh=>F.k0W<|h.low F.W0
def Cfg.Fit.ks{K:Cfg}(F:K.Fit)(w:World)(b:Nat)(h:K.fj w b):¬K.Still b:=λa=>F.k0s b (h.low<|F.s0 b a) a
def Cfg.Fit.kC{K:Cfg}(F:K.Fit)(w:World):K.fj w K.C:=.inl F.On
def Cfg.Fit.kh{K:Cfg}(F:K.Fit)(w:World)(a:Addr)(h:K.fj w a.block):¬K.Shun (.cell a):=λb=>by have⟨d,e,c⟩:=F.mj _ b;cases e;exact F.k0h a (h.low c) b
def Cfg.Fit.apart{K:Cfg}(F:K.Fit)(c:∃w,∀b,S b->K.fj w b):Apart K.Shun (K.lE S) K.iJ:=by
 have⟨w,c⟩:=c;refine⟨?_,?_,?_⟩
 .rintro l (⟨a,rfl,h⟩|rfl|⟨a,rfl,h⟩) ⟨b,e,h'⟩
  .cases e;exact F.ks w _ (c _ h) h'
  .cases e
  .cases e
 .rintro l (⟨a,rfl,h⟩|rfl|⟨a,rfl,h⟩) hs
  .exact F.kh w a (c _ h) hs
  iterate 2
   .have⟨a,e,_⟩:=F.mj _ hs;cases e
 .rintro l ⟨a,rfl,h⟩;exact F.sh a h
def Cfg.Fit.CW{K:Cfg}(F:K.Fit):K.C≠K.Wg:=λe=>F.k0W<|e▸F.On
structure RM(w aK:World):Prop where
 tape:aK.tape=w.tape
 os:aK.os=w.os
 output:aK.output=w.output
 block:∀b,b<w.heap.size->¬K.fj w b->¬K.Zy b->aK.heap[b]?=w.heap[b]?
 size:w.heap.size<=aK.heap.size
def RC (w aK:World):Prop:=∀b,K.fj w b\/K.Still b->aK.heap[b]?=w.heap[b]?
structure RJ(S:Nat->Prop)(w aK:World):Prop where
 rc:∀b,S b\/K.Still b->aK.heap[b]?=w.heap[b]?
 live:ConcN.WgLive K.ty K.Wg w->ConcN.WgLive K.ty K.Wg aK
def R7 (w':World)(e:Event):Prop:=(∃a wr,e=⟨.cell a,wr,false⟩/\(K.fj w' a.block\/(K.Still a.block/\wr=false)))\/∃b wr,e=⟨.obj b,wr,false⟩/\K.fj w' b
def Zt (w':World)(e:Event):Prop:=(∀x,(MemAct.ofEvent e).touch?=some x->Ok0 K.Shun (K.TV w') K.iJ x/\l8 w'.heap.size x.loc)/\e.loc≠.mark .disable/\e.loc≠.mark .enable/\MemAct.ofEvent e≠.mark (.release K.Em)
structure DK(w w':World)(es:Array Event):Prop where
 tape:w'.tape=w.tape
 os:w'.os=w.os
 output:w'.output=w.output
 block:∀b,b<w.heap.size->¬K.fj w b->w'.heap[b]?=w.heap[b]?
 stay:∀b,K.fj w b->K.fj w' b
 born:∀b,w.heap.size<=b->b<w'.heap.size->K.fj w' b
 keep:w'.heap[K.C]?=w.heap[K.C]?
 grow:w.heap.size<=w'.heap.size
 evs:∀e∈es,R7 K w' e
structure DM(w w':World)(es:Array Event):Prop where
 block:∀b,K.fj w b\/K.Still b\/K.Zy b->w'.heap[b]?=w.heap[b]?
 born:∀b,K.fj w' b->K.fj w b
 grow:w.heap.size<=w'.heap.size
 evs:∀e∈es,Zt K w' e
section
variable {K:Cfg}{qC:World}
def RM.refl(w:World):RM K w w:=⟨O,O,O,λ_ _ _ _=>O,lr⟩
def iS:=@RM.refl
def RM.trans(h:RM K w aK)(d:RM K aK qC):RM K w qC:=⟨d.tape.trans h.tape,d.os.trans h.os,d.output.trans h.output,λb l a c=>(d.block b (lL l h.size) (λz=>a<|z.of_same (h.block b l a c).symm) c).trans<|h.block b l a c,lT h.size d.size⟩
def RM.at(w:World)(d:Nat):RM K w (w.at d):=⟨O,O,O,λ_ _ _ _=>O,lr⟩
def RC.refl(w:World):RC K w w:=λ_ _=>O
def RC.trans(h:RC K w aK)(c:RC K aK qC):RC K w qC:=λb a=>(c b<|a.imp (λz=>z.of_same<|h b a) id).trans<|h b a
def ew:=@RC.trans
def RC.at(w:World)(d:Nat):RC K w (w.at d):=λ_ _=>O
def RJ.refl(w:World):RJ K S w w:=⟨λ_ _=>O,id⟩
def RJ.trans(h:RJ K S w aK)(a:RJ K S aK qC):RJ K S w qC:=⟨λb z=>(a.rc b z).trans<|h.rc b z,a.live ∘ h.live⟩
end
variable [ConcX.Payload][ConcR.Payload]
def RJ.rw{K:Cfg}(a:S K.C)(h:RJ K S w aK):ConcN.RW K.ty K.Wg K.C 1 0 0 w aK:=by have e:=h.rc K.C<|.inl a;refine⟨λ_ h=>absurd h oq,h.live,?_,by simp[World.cell?,e]⟩;rintro⟨cs,hc,hn⟩;exact⟨cs,e.trans hc,hn⟩
def AtSend(v:Value)(Next:Gq)(g:Goroutine)(w:World):Prop :=
 g.status=.running/\K.N0<=w.heap.size/\stepG K.P false g w=.comm g #[scase K.A v K.zs] true .send w #[]/\∀aK,RC K w aK->Next (Conc.served g undef) aK
def Sc (S:Nat->Prop):Nat->Loc->Prop:=λ_ l=>K.lE S l
def RdK:Nat->Loc->Prop:=λ_ l=>K.iJ l
abbrev RWk:=ConcN.RW K.ty K.Wg K.C 1 0 0
abbrev DJ(S:Nat->Prop):=ConcN.DWs K.Wg (Sc K S) (RdK K) K.C 1 1
abbrev Cw:=ConcN.AtR0 K.P K.ty K.Wg K.C 1 0 1 K.val
abbrev QJ:=ConcN.AtK1 K.P K.ty K.Wg K.C 1 0 1
abbrev QG:=ConcN.AtD1 K.P K.ty K.Wg K.C 1 0 1
abbrev KV:=ConcN.AtD2 K.P K.ty K.Wg K.C 1 0 1
abbrev QH:=ConcN.AtD3 K.P K.ty K.Wg K.C 1 0 1
abbrev QI:=ConcN.AtD4 K.P K.ty K.Wg
abbrev R6:=ConcR.DC0
def AtClose(g:Goroutine)(w:World):Prop :=
 g.status=.running/\K.N0<=w.heap.size/\mayWake K.P g=true/\∃g',g'.status=.running /\
  (w.heap[K.E]?=some (.chan 0 #[] false 0 0 false)->stepG K.P false g w=.go g' (w.setChan K.E 0 #[] true 0 0 false) (closeEvents K.E)) /\
  ∀aK,RC K w aK->ConcN.WgLive K.ty K.Wg aK->Way K.P false (RJ K<|K.fj aK) (DJ K<|K.fj aK) (Cw K) g' aK
def qR:Vq->Goroutine->World->Prop
 | []=>Way K.P false (RC K) (DK K)<|AtClose K
 | v::vs=>Way K.P false (RC K) (DK K)<|AtSend K v<|qR vs
def pO:Vq->Goroutine->World->Prop
 | []=>AtClose K
 | v::vs=>AtSend K v<|qR K vs
def uc(vs:Vq):qR K vs=Way K.P false (RC K) (DK K) (pO K vs):=by cases vs<;>rfl
section main
variable [ConcX.Shy K.Wg K.C](L:Nat)(Az:Gq)(Post:Value->World->Prop)
abbrev mO:=ConcX.RPa K.ty K.Wg K.C [K.val]
abbrev E2:=ConcX.RPb K.ty K.Wg K.C [K.val]
abbrev E1:=ConcX.KPa K.ty K.Wg K.C [K.val]
abbrev CC:=ConcX.Full K.C [K.val]
abbrev tS:=ConcX.DPi K.Mz K.Wg K.C L
abbrev KW:=ConcX.AtKd K.P K.ty K.Wg K.C L [K.val] K.Mz Az
abbrev oR:=ConcX.AtW1 K.P K.ty K.Wg K.C L [K.val] K.Mz Az Post
abbrev V9:=ConcX.AtW2 K.P K.ty K.Wg K.C L [K.val] K.Mz Az Post
abbrev KX:=ConcX.AtW3 K.P K.ty K.Wg K.C L [K.val] K.Mz Post
abbrev QL:=ConcX.AtW4 K.P K.Wg K.C L K.Mz Post
abbrev QK:=ConcX.AtKe K.P K.Wg K.C L K.Mz Post
abbrev KR:=ConcX.AtAcq K.P K.Wg K.C L K.Mz Post
abbrev R4:=ConcX.AtRetJ K.P K.Wg K.C K.Mz Post
def K5(k:Nat)(v:Value)(ok:Bool)(Next:Gq)(g jE:Goroutine)(w:World):Prop :=
 g.frame=jE.frame/\g.callers=jE.callers/\g.dying=jE.dying/\(∀aK,RM K w aK->stepG K.P true g aK=.comm jE K.cases true .select aK #[])/\∀aK,RM K w aK->K.N0<=aK.heap.size->Next (Conc.served jE<|commResult K.cases .select k v ok) aK
def Cx(k:Nat)(v:Value)(ok:Bool)(Next:Gq)(g:Goroutine)(w:World):Prop:=g.status=.running/\∃jE,K5 K k v ok Next g jE w
def Av(g:Goroutine)(w:World):Prop:=g.status=.running/\(E1 K w->∀L,K.N0<=L->Way K.P true (mO K) (tS K L) (KW K L Az) g w)
def K0(g:Goroutine)(w:World):Prop:=Way K.P true (RM K) (DM K) (Av K Az) g w
def yV:Vq->Goroutine->World->Prop
 | []=>Way K.P true (RM K) (DM K)<|Cx K 1 K.zE false<|K0 K Az
 | v::vs=>Way K.P true (RM K) (DM K)<|Cx K 0 v true<|yV vs
def mK:Vq->Goroutine->World->Prop
 | []=>Cx K 1 K.zE false<|K0 K Az
 | v::vs=>Cx K 0 v true<|yV K Az vs
def qL:Vq->Goroutine->Goroutine->World->Prop
 | []=>K5 K 1 K.zE false<|K0 K Az
 | v::vs=>K5 K 0 v true<|yV K Az vs
def Ki(vs:Vq)(g:Goroutine)(w:World):mK K Az vs g w↔g.status=.running/\∃a,qL K Az vs g a w:=by cases vs<;>exact Iff.rfl
def xi(vs:Vq):yV K Az vs=Way K.P true (RM K) (DM K) (mK K Az vs):=by cases vs<;>rfl
end main
abbrev Ch:=Sum (Vq)<|Sum (Vq)<|Sum (Value × Vq)<|Sum (Unit)<|Sum (Unit)<|Sum (Unit)<|Sum (Unit)<|Sum (Unit)<|Sum (Unit)<|Nat × Nat
abbrev Ch.fresh(vs:Vq):Ch:=.inl vs
abbrev Ch.work(vs:Vq):Ch:=.inr<|.inl vs
abbrev Ch.gg(v:Value)(vs:Vq):Ch:=.inr<|.inr<|.inl (v,vs)
abbrev Ch.r0:Ch:=.inr<|.inr<|.inr<|.inl ()
abbrev Ch.k1:Ch:=.inr<|.inr<|.inr<|.inr<|.inl ()
abbrev Ch.d1:Ch:=.inr<|.inr<|.inr<|.inr<|.inr<|.inl ()
abbrev Ch.d2:Ch:=.inr<|.inr<|.inr<|.inr<|.inr<|.inr<|.inl ()
abbrev Ch.d3:Ch:=.inr<|.inr<|.inr<|.inr<|.inr<|.inr<|.inr<|.inl ()
abbrev Ch.d4:Ch:=.inr<|.inr<|.inr<|.inr<|.inr<|.inr<|.inr<|.inr<|.inl ()
abbrev Ch.quit(n:Nat)(d:Nat):Ch:=.inr<|.inr<|.inr<|.inr<|.inr<|.inr<|.inr<|.inr<|.inr<|(n,d)
def Ch.on{k:Type}(a b:Vq->k)(c:Value->Vq->k)(d e f g h i:k)(j:Nat->Nat->k):Ch->k:=Sum.elim a<|Sum.elim b<|Sum.elim (λx=>c x.1 x.2)<|Sum.elim (λ_=>d)<|Sum.elim (λ_=>e)<|Sum.elim (λ_=>f)<|Sum.elim (λ_=>g)<|Sum.elim (λ_=>h)<|Sum.elim (λ_=>i) λx=>j x.1 x.2
def Ch.cD{motive:Ch->Prop}(fresh:∀(vs:Vq),motive<|Ch.fresh vs)(work:∀(vs:Vq),motive<|Ch.work vs)(gg:∀(v:Value) (vs:Vq),motive<|Ch.gg v vs)(r0:motive Ch.r0)(k1:motive Ch.k1)(d1:motive Ch.d1)(d2:motive Ch.d2)(d3:motive Ch.d3)(d4:motive Ch.d4)(quit:∀(n:Nat) (d:Nat),motive<|Ch.quit n d)(x:Ch):motive x:=by
 rcases x with vs|vs|⟨v,vs⟩|_|_|_|_|_|_|⟨n,d⟩
 .exact fresh vs
 .exact work vs
 .exact gg v vs
 .exact r0
 .exact k1
 .exact d1
 .exact d2
 .exact d3
 .exact d4
 .exact quit n d
abbrev Ma:=Sum (Vq)<|Sum (Vq)<|Sum (Vq)<|Sum (Unit)<|Sum (Unit)<|Sum (Unit)<|Sum (Unit)<|Sum (Unit)<|Sum (Unit)<|Sum (Unit)<|Sum (Unit)<|Unit
abbrev Ma.front(vs:Vq):Ma:=.inl vs
abbrev Ma.walk(vs:Vq):Ma:=.inr<|.inl vs
abbrev Ma.gg(vs:Vq):Ma:=.inr<|.inr<|.inl vs
abbrev Ma.kd:Ma:=.inr<|.inr<|.inr<|.inl ()
abbrev Ma.w1:Ma:=.inr<|.inr<|.inr<|.inr<|.inl ()
abbrev Ma.w2:Ma:=.inr<|.inr<|.inr<|.inr<|.inr<|.inl ()
abbrev Ma.w3:Ma:=.inr<|.inr<|.inr<|.inr<|.inr<|.inr<|.inl ()
abbrev Ma.blk:Ma:=.inr<|.inr<|.inr<|.inr<|.inr<|.inr<|.inr<|.inl ()
abbrev Ma.w4:Ma:=.inr<|.inr<|.inr<|.inr<|.inr<|.inr<|.inr<|.inr<|.inl ()
abbrev Ma.ke:Ma:=.inr<|.inr<|.inr<|.inr<|.inr<|.inr<|.inr<|.inr<|.inr<|.inl ()
abbrev Ma.acq:Ma:=.inr<|.inr<|.inr<|.inr<|.inr<|.inr<|.inr<|.inr<|.inr<|.inr<|.inl ()
abbrev Ma.over:Ma:=.inr<|.inr<|.inr<|.inr<|.inr<|.inr<|.inr<|.inr<|.inr<|.inr<|.inr<|()
def Ma.on{m:Type}(a b c:Vq->m)(d e f g h i j k l:m):Ma->m:=Sum.elim a<|Sum.elim b<|Sum.elim c<|Sum.elim (λ_=>d)<|Sum.elim (λ_=>e)<|Sum.elim (λ_=>f)<|Sum.elim (λ_=>g)<|Sum.elim (λ_=>h)<|Sum.elim (λ_=>i)<|Sum.elim (λ_=>j)<|Sum.elim (λ_=>k) λ_=>l
def Ma.cD{motive:Ma->Prop}(front:∀(vs:Vq),motive<|Ma.front vs)(walk:∀(vs:Vq),motive<|Ma.walk vs)(gg:∀(vs:Vq),motive<|Ma.gg vs)(kd:motive Ma.kd)(w1:motive Ma.w1)(w2:motive Ma.w2)(w3:motive Ma.w3)(blk:motive Ma.blk)(w4:motive Ma.w4)(ke:motive Ma.ke)(acq:motive Ma.acq)(over:motive Ma.over)(x:Ma):motive x:=by
 rcases x with vs|vs|vs|_|_|_|_|_|_|_|_|_
 .exact front vs
 .exact walk vs
 .exact gg vs
 .exact kd
 .exact w1
 .exact w2
 .exact w3
 .exact blk
 .exact w4
 .exact ke
 .exact acq
 .exact over
def EL (S:Nat->Prop):Ch->Tr->Goroutine->World->Prop :=
 let G:=λA c g w=>fH K.P false (RWk K) R6 A c g w
 let H:=λe c g w=>fH K.P false (RC K) (DK K) (pO K e) c g w
 Ch.on H H (λv e _ g w=>∃a,g=parked a #[scase K.A v K.zs] .send/\∀b,RC K w b->qR K e (Conc.served a undef) b) (λc g w=>fH K.P false (RJ K S) (DJ K S) (Cw K) c g w) (G<|QJ K) (G<|QG K) (G<|KV K) (G<|QH K) (G<|QI K) λn d c g _=>QuitsD K.P n d g/\c=.ofNat n
section main
variable [ConcX.Shy K.Wg K.C](L:Nat)(Az:Gq)(Post:Value->World->Prop)
def CF:Ma->Tr->Goroutine->World->Prop :=
 let G:=λR A b g w=>fH K.P true R (tS K L) A b g w
 let H:=λd b g w=>fH K.P true (RM K) (DM K) (mK K Az d) b g w
 Ma.on H H (λd _ g w=>∃c a,g=parked a K.cases .select/\qL K Az d c a w) (G (mO K)<|KW K L Az) (G (mO K)<|oR K L Az Post) (G (mO K)<|V9 K L Az Post) (G (E2 K)<|KX K L Post) (λb g w=>∃a:Goroutine,g={ a with status:=.blocked }/\a.status=.running/\a.offers=none/\fH K.P true (E2 K) (tS K L) (KX K L Post) b a w) (G AtRel<|QL K L Post) (G AtRel<|QK K L Post) (G AtRel<|KR K L Post) (λb g w=>fH K.P true (RM K) (DM K) (Av K Az) b g w)
end main
def Ch.rel:Ch->Bool:=Ch.on (λ_=>false) (λ_=>false) (λ_ _=>false) false true true true true true λ_ _=>true
def Ch.shut:Ch->Bool:=Ch.on (λ_=>false) (λ_=>false) (λ_ _=>false) true true true true true true λ_ _=>true
def Ch.deaf:Ch->Nat:=Ch.on (λ_=>0) (λ_=>0) (λ_ _=>0) 0 0 1 1 1 1 λ_ d=>d
def Ch.left:Ch->Nat:=Ch.on (·.length) (·.length) (λ_ a=>a.length+1) 0 0 0 0 0 0 λ_ _=>0
def Ch.iY:Ch->Nat:=Ch.on (λ_=>9) (λ_=>9) (λ_ _=>8) 7 6 5 4 3 2 λ_ _=>1
def Ma.deaf:Ma->Nat:=Ma.on (λ_=>0) (λ_=>0) (λ_=>0) 0 1 1 1 1 1 1 0 0
def Ma.early:Ma->Bool:=Ma.on (λ_=>true) (λ_=>true) (λ_=>true) false false false false false false false false true
def Ma.iY(done:Bool):Ma->Nat:=Ma.on (λ_=>10) (λ_=>10) (λ_=>9) 7 (if done then 5 else 6) (if done then 6 else 5) 4 3 3 2 1 8
def Ch.done:Ch->Bool:=Ch.on (λ_=>false) (λ_=>false) (λ_ _=>false) false false false false false false λ_ _=>true
def KK:Int:=4294967296
def na:Ch->Ma->Int->Int->Prop :=
 let F:=λ(_ _:Int)=>False
 let E:=λ(_:Vq)=>F
 let A:=λ(a b e d:Int)=>e=a/\d=b
 let V:=λx (c:Vq) e (d:Int)=>c=x/\e=KK/\d=0
 let R:=Ma.on E (V []) E (A KK 0) (A KK 0) (A KK 0) (A (KK+1) 0) (A (KK+1) 0) F F F<|A KK 0
 let D:=λa=>Ma.on E E E F F F (A a 0) (A a 0) F F F F
 Ch.on (λc=>Ma.on (V c) E (V c) F F F F F F F F F) (λc=>Ma.on E (V c) (V c) F F F F F F F F F) (λv c=>Ma.on E (V (v::c)) E F F F F F F F F F) R R R (D 1) (D 1) (D 0) λ_ _=>Ma.on E (λc e d=>c=[]/\e=0/\d=0) E (A 0 0) (A 0 0) (A 0 0) (A 0 1) F (A 0 0) (A 0 0) (A 0 0)<|A 0 0
def uJ (S:Nat->Prop)(c:Nat)(rel:Bool)(t:Trace):Prop :=
 if rel then ∃r,PT K.Shun (K.lE S) K.iJ c (λi=>Before t i r) t/\ConcN.RelBy K.Em t c r/\∀k,r<k->t.act? k≠some (.mark<|.release K.Em)
 else PT K.Shun (K.lE S) K.iJ c (Knows t c) t
section main
variable [ConcX.Shy K.Wg K.C](L:Nat)(Az:Gq)(Post:Value->World->Prop)
structure J(S:Nat->Prop)(c:Nat)(x:Ch)(y:Ma)(fG gi:Tr)(gs:Array Goroutine)(a b:Goroutine)(w:World)(t:Trace)(q:Nat->Nat):Prop where
 pos:0<c
 h0:gs[0]?=some a
 hc:gs[c]?=some b
 old:∀i g,0<i->i≠c->gs[i]?=some g->QuitsD K.P (q i) (Deaf t i) g
 above:∀j,gs.size<=j->Deaf t j=0
 ch:EL K S x fG b w
 ma:CF K L Az Post y gi a w
 pair:∃st sm,na x y st sm/\K.B4 w st sm
 y7:∃s,w.heap[K.A]?=some (.chan 0 #[] false s s false)
 Ck:w.heap[K.E]?=some (.chan 0 #[] x.shut 0 0 false)
 pay:ConcN.PayAt K.C 1 w
 full:x.rel=true->CC K w
 qi:y.early=true->∀b,S b↔K.fj w b
 ui:∀b,K.tT b->S b
 of:∃w₀,∀b,S b->K.fj w₀ b
 size:y.early=true->K.N0<=w.heap.size
 vE:y.early=false->K.N0<=L/\∀b,S b->b<L
 oK:y.early=true->∀i z,touchAt t i=some z->l8 w.heap.size z.loc\/Knows t c i\/(K.Shun z.loc/\z.kind=.atomic)
 tr:uJ K S c x.rel t
 d0:Deaf t 0=y.deaf
 dc:Deaf t c=x.deaf
end main
end
variable {a b a' b':Goroutine}{K:Cfg}{Az:Gq}{Post:Value->World->Prop}{L:Nat}{x x':Ch}{y y':Ma}{fG gi jv il:Tr}{gs:Array Goroutine}{q:Nat->Nat}{sl:Option (Nat × Nat)}{es:Array Event}
section
open Go.ConcN (sumTo upd sumTo_upd upd_ne upd_same)
def ki{es:Array Event}{g:Nat}{fn:FuncId}{pos:String}:∀b∈MemOp.ofEvents g fn pos es,b.g=g:=λb a=>by obtain⟨e,_,rfl⟩:=Conc.mem_ofEvents a;rfl
theorem xk(h:e.mute=true):MemAct.ofEvent e≠.mark (.release ad):=by
 have⟨U,c,b⟩:=e;intro a;cases U with
 | mark m=>cases m<;>simp_all [Event.mute,MemAct.ofEvent]
 | _=>simp_all [Event.mute]
variable [ConcX.Payload][ConcR.Payload][ConcX.Shy K.Wg K.C]
def pO.run{vs:Vq}(h:pO K vs g w):g.status=.running:=by cases vs<;>exact h.1
def mK.run{vs:Vq}(h:mK K Az vs g w):g.status=.running:=by cases vs<;>exact h.1
def qL.rely{vs:Vq}(h:qL K Az vs g jE w)(c:RM K w aK):qL K Az vs g jE aK:=by cases vs<;>exact⟨h.1,h.2.1,h.2.2.1,λb a=>h.2.2.2.1 b<|c.trans a,λb a=>h.2.2.2.2 b<|c.trans a⟩
def qL.comm{vs:Vq}(h:qL K Az vs g jE w):stepG K.P true g w=.comm jE K.cases true .select w #[]:=by cases vs<;>exact h.2.2.2.1 w<|iS w
def qL.tries{vs:Vq}(h:qL K Az vs g jE w):mK K Az vs { parked jE K.cases .select with status:=.running } w:=by cases vs<;>exact⟨rfl,jE,rfl,rfl,rfl,λa b=>by rw[<-h.2.2.2.1 a b];exact stepG_same h.1.symm h.2.1.symm h.2.2.1.symm a,h.2.2.2.2⟩
def EL.rely(j:S K.C)(h:EL K S x fG b w)(c:x.shut=false->RC K w w')(i:RJ K S w w'):EL K S x fG b w':=by
 cases x using Ch.cD with
 | fresh vs|work vs=>exact eK (R:=RC K) (λ_ _ _=>ew) h<|c O
 | gg v vs=>obtain⟨a,e,k⟩:=h;exact⟨a,e,λg f=>k g<|(c O).trans f⟩
 | r0=>exact eK (R:=RJ K S) (λ_ _ _=>RJ.trans) h i
 | k1|d1|d2|d3|d4=>exact eK (R:=RWk K) (λ_ _ _=>ConcN.RW.trans) h<|i.rw j
 | quit n d=>exact h
def rR (K:Cfg)[ConcX.Payload][ConcX.Shy K.Wg K.C]:Ma->World->World->Prop:=Ma.on (λ_=>RM K) (λ_=>RM K) (λ_=>RM K) (mO K) (mO K) (mO K) (E2 K) (E2 K) AtRel AtRel AtRel<|RM K
def CF.rely(h:CF K L Az Post y gi a w)(c:rR K y w w'):CF K L Az Post y gi a w':=by
 cases y using Ma.cD with
 | front vs|walk vs=>exact eK (R:=RM K) (λ_ _ _=>RM.trans) h c
 | over=>exact eK (R:=RM K) (λ_ _ _=>RM.trans) h c
 | gg vs=>obtain⟨d,b,e,k⟩:=h;exact⟨d,b,e,k.rely c⟩
 | kd|w1|w2=>exact eK (R:=mO K) (λ_ _ _=>ConcX.RPa.trans) h c
 | w3=>exact eK (R:=E2 K) (λ_ _ _=>ConcX.RPb.trans) h c
 | blk=>obtain⟨b,e,h1,h2,k⟩:=h;exact⟨b,e,h1,h2,eK (R:=E2 K) (λ_ _ _=>ConcX.RPb.trans) k c⟩
 | w4|ke|acq=>exact eK atRel_trans h c
def rR.at(y:Ma)(w:World)(d:Nat):rR K y w (w.at d):=by
 cases y using Ma.cD with
 | front vs|walk vs|gg vs=>exact RM.at w d
 | over=>exact RM.at w d
 | kd|w1|w2=>exact ConcX.RPa.at w d
 | w3|blk=>exact ConcX.RPb.at w d
 | w4|ke|acq=>exact⟨d,O⟩
def EL.status(h:EL K S x fG b w):b.status=.running\/(∃(v:Value) (vs:Vq) (a:Goroutine),x=.gg v vs/\b=parked a #[scase K.A v K.zs] .send)\/(∃n d,x=.quit n d/\QuitsD K.P n d b):=by
 cases x using Ch.cD with
 | fresh vs|work vs=>exact .inl<|dH RC.refl (λ_ _=>pO.run) h
 | gg v vs=>obtain⟨a,e,_⟩:=h;exact .inr<|.inl ⟨v,vs,a,O,e⟩
 | r0=>exact .inl<|dH RJ.refl (λ_ _ x=>x.1) h
 | k1|d1|d2|d3|d4=>exact .inl<|dH ConcN.RW.refl (λ_ _ x=>x.1) h
 | quit n d=>exact .inr<|.inr ⟨n,d,O,h.1⟩
def CF.status(c:∀g w,Az g w->g.status=.running)(h:CF K L Az Post y gi a w):a.status=.running\/(∃(vs:Vq) (b:Goroutine),y=.gg vs/\a=parked b K.cases .select)\/(∃b:Goroutine,y=.blk/\a={ b with status:=.blocked }/\b.status=.running/\b.offers=none):=by
 cases y using Ma.cD with
 | front vs|walk vs=>exact .inl<|dH iS (λ_ _=>mK.run) h
 | over=>exact .inl<|dH iS (λ_ _ z=>z.1) h
 | gg vs=>obtain⟨_,b,e,_⟩:=h;exact .inr<|.inl ⟨vs,b,O,e⟩
 | kd|w1|w2=>exact .inl<|dH ConcX.RPa.refl (λ_ _ x=>x.1) h
 | w3=>exact .inl<|dH ConcX.RPb.refl (λ_ _ x=>x.1) h
 | blk=>obtain⟨b,e,h1,h2,_⟩:=h;exact .inr<|.inr ⟨b,O,e,h1,h2⟩
 | w4|ke|acq=>exact .inl<|dH atRel_refl (λ_ _ x=>x.1) h
def EL.still(h:EL K S x fG b w)(a:∃s,w'.heap[K.A]?=some (.chan 0 #[] false s s false)):Conc.woken K.P g g' w' b=b:=by
 rcases h.status with e|⟨v,vs,jE,_,rfl⟩|⟨n,d,_,hq⟩
 .exact woken_run e
 .have⟨s,c⟩:=a;exact woken_send_open g g' c
 .exact woken_quitsD hq
theorem CF.woken(c:∀g w,Az g w->g.status=.running)(h:CF K L Az Post y gi a w')(l:∃s,w'.heap[K.A]?=some (.chan 0 #[] false s s false))(u:(∃j,y=.gg j)->w'.heap[K.E]?=some (.chan 0 #[] false 0 0 false)) :
  ∃f b,CF K L Az Post f b (Conc.woken K.P g g' w' a) w'/\(f=y\/(y=.blk/\f=.w3)):=by
 rcases h.status c with e|⟨j,jE,rfl,rfl⟩|⟨jE,rfl,rfl,i,ho⟩
 .rw[woken_run e];exact⟨y,gi,h,.inl O⟩
 .have⟨s,i⟩:=l;have:(parked jE K.cases .select).again w'=parked jE K.cases .select:=again_all_open λo d=>by simp only[Cfg.cases,List.mem_toArray,oc,zL,or_false] at d;grind
  rw[woken_of_again this];exact⟨_,gi,h,.inl O⟩
 .unfold Conc.woken;split
  .rw[ConcX.again_blocked i ho];have⟨U,e,h3,_,k⟩:=h;have:U=jE:=by have e1:=congrArg Goroutine.frame e;have⟨r,m,z,p,v⟩:=jE;have⟨t,n,B,q,x⟩:=U;grind
   subst this;exact⟨.w3,_,k,.inr ⟨O,O⟩⟩
  .exact⟨_,gi,h,.inl O⟩
def J.at(F:K.Fit)(h:J K L Az Post S c x y fG gi gs a b w t q)(d:Nat):J K L Az Post S c x y fG gi gs a b (w.at d) t q :=
 ⟨h.pos,h.h0,h.hc,h.old,h.above,h.ch.rely (h.ui _ F.On) (λ_=>RC.at w d) ⟨λ_ _=>O,id⟩,h.ma.rely<|rR.at y w d,h.pair,h.y7,h.Ck,h.pay,h.full,h.qi,h.ui,h.of,h.size,h.vE,h.oK,h.tr,h.d0,h.dc⟩
def uJ.grow(h:uJ K S c r t)(g:∀b,S b->S' b)(f:∀i z,touchAt t i=some z->K.lE S' z.loc->K.lE S z.loc\/(r=false/\Knows t c i)\/(K.Shun z.loc/\z.kind=.atomic)):uJ K S' c r t:=by
 cases r with
 | false=>exact PT.mono h (λ_=>Cfg.lE.mono g)<|λi z e a=>(f i z e a).imp id<|Or.imp And.right id
 | true=>obtain⟨r,j,k,d⟩:=h;exact⟨r,PT.mono j (λ_=>Cfg.lE.mono g)<|λi z e a=>(f i z e a).imp id<|Or.imp (λz=>by cases z.1) id,k,d⟩
def uJ.app0(l:c≠0)(h:uJ K S c r t)(i:∀a∈u,a.g=0)(j:∀a∈u,∀b,a.act.touch?=some b->Ok0 K.Shun (K.lE S) K.iJ b)(n:∀a∈u,a.act≠.mark (.release K.Em)):uJ K S c r (t++u):=by
 cases r with
 | false=>exact PT.app0 h (λ_=>Knows.app u) i j
 | true =>
  have⟨r,p,q,f⟩:=h;refine⟨r,PT.app0 p (λ_=>Before.app u) i j,q.appOther i<|λe=>l e.symm,λk m e=>?_⟩;have⟨a,o,d⟩:=sT.1 e;rcases getElem?_append_cases o with ⟨_,Ol⟩|⟨_,Ty⟩
  .exact f k m<|by rw[act?_of Ol,d]
  .exact n a Ty d
def sQ(b:n<=m)(h:∀i z,touchAt t i=some z->l8 n z.loc\/Knows t c i\/(K.Shun z.loc/\z.kind=.atomic))(f:∀d∈u,∀z,d.act.touch?=some z->l8 m z.loc) :
  ∀i z,touchAt (t++u) i=some z->l8 m z.loc\/Knows (t++u) c i\/(K.Shun z.loc/\z.kind=.atomic):=by
 intro i z g;have⟨d,e,a⟩:=touch_of g;rcases getElem?_append_cases e with ⟨_,Ol⟩|⟨_,Ty⟩
 .rcases h i z (by rw[touchAt_of Ol];exact a) with h|h|h
  .exact .inl<|h.mono b
  .exact .inr<|.inl<|h.app u
  .exact .inr<|.inr h
 .exact .inl<|f d Ty z a
theorem uJ.mute(h:uJ K S c r t)(f:∀a∈u,a.act.touch?=none)(l:∀a∈u,a.act≠.mark (.release K.Em)):uJ K S c r (t++u):=by
 cases r with
 | false=>exact PT.mute h (λ_=>Knows.app u) f
 | true =>
  have⟨r,n,o,g⟩:=h;refine⟨r,PT.mute n (λ_=>Before.app u) f,o.app<|λi q _ b=>?_,λk j e=>?_⟩
  .have⟨z,p,_⟩:=b;have⟨a,d,m⟩:=touch_of p;grind
  .have⟨a,d,U⟩:=sT.1 e;rcases getElem?_append_cases d with ⟨_,Ol⟩|⟨_,Ty⟩
   .exact g k j<|by rw[act?_of Ol,U]
   .exact l a Ty U
theorem MQ(U:∀j z,0<j->j≠c->gs[j]?=some z->QuitsD K.P (q j) (Deaf t j) z)(hi:i=0\/i=c)(e:∀l∈ops,l.g=i) :
  ∀j z,0<j->j≠c->((gs.map<|Conc.woken K.P g g' w').setIfInBounds i g')[j]?=some z->QuitsD K.P (q j) (Deaf (t++ops) j) z:=by
 intro j z h f d;have a:i≠j:=gq
 rw[yq a,Array.getElem?_map] at d;obtain⟨y,k,rfl⟩:=sT.1 d;have b:=U j y h f k;rw[woken_quitsD b,Deaf_other t a _ e];exact b
def eQ(F:K.Fit)(h:J K L Az Post S c x y fG gi gs a b w t q)(Q:stepG K.P true a w=.go a' w' es)(f:y'.early=y.early)
 (d:∀k,S k\/K.Still k\/k=K.A\/k=K.E->w'.heap[k]?=w.heap[k]?)(m:y.early=true->∀b,K.fj w' b->K.fj w b)(g:y.early=true->w.heap.size<=w'.heap.size)(X:x.shut=false->y.early=true)
 (u:∃H G,na x y' H G/\K.B4 w' H G)(O:∀e∈es,∀z,(MemAct.ofEvent e).touch?=some z->Ok0 K.Shun (K.lE S) K.iJ z)(r:y.early=true->∀e∈es,∀z,(MemAct.ofEvent e).touch?=some z->l8 w'.heap.size z.loc)(W:∀e∈es,MemAct.ofEvent e≠.mark (.release K.Em))
 (N:deafBehind y.deaf es=y'.deaf)(V:CF K L Az Post y' il a' w') :
  ∃l v,runT K.P (crowd gs w sl) 0=(.next (crowd l w' sl),v)/\l.size=gs.size/\J K L Az Post S c x y' fG il l a' b w' (t++v) q:=by
 have U:=(oF.1 h.h0).1;have n:0≠c:=by have:=h.pos;omega
 have hA:∃s,w'.heap[K.A]?=some (.chan 0 #[] false s s false):=by have⟨s,hs⟩:=h.y7;exact⟨s,(d _<|.inr<|.inr<|.inl rfl).trans hs⟩
 have o:RJ K S w w':=⟨λk T=>d k<|T.elim .inl λz=>.inr<|.inl z,λ_=>by have⟨H,G,_,e⟩:=u;exact⟨H,G,e⟩⟩;have I:x.shut=false->RC K w w':=λhx k T=>d k<|T.elim (λz=>.inl<|(h.qi (X hx) k).2 z) λz=>.inr<|.inl z;have Z:=o.rc K.C<|.inl<|h.ui _ F.On;refine⟨_,_,runT_crowd_go h.h0<|show stepG K.P _ a w=_ from Q,by simp,
  ⟨h.pos,by simp[U],?_,MQ h.old (.inl rfl) ki,λj hj=>?_,h.ch.rely (h.ui _ F.On) I o,V,u,hA,(d _<|i3 rfl).trans h.Ck,?_,λhr=>?_,λz b=>?_,h.ui,h.of,λz=>lT (h.size<|f▸z)<|g<|f▸z,λz=>h.vE<|f▸z,λz=>sQ (g<|f▸z) (h.oK<|f▸z)<|λop i B Y=>by obtain⟨e,p,rfl⟩:=Conc.mem_ofEvents i;exact r (f▸z) e p B Y,?_,?_,?_⟩⟩
 .rw[yq n,Array.getElem?_map,h.hc];simp[Option.map_some,xH];exact h.ch.still hA
 .have R:gs.size<=j:=by simpa using hj
  rw[Deaf_other t oq _ ki];exact h.above j R
 .have⟨cs,M,hn⟩:=h.pay;exact⟨cs,Z.trans M,hn⟩
 .exact ConcX.ChanAt.of_block (h.full hr) Z
 .have B:=f▸z;exact⟨λD=>((h.qi B b).1 D).of_same<|d b<|.inl D,λD=>(h.qi B b).2<|m B b D⟩
 .exact h.tr.app0 (Ne.symm n) ki (λop i z Y=>by obtain⟨e,p,rfl⟩:=Conc.mem_ofEvents i;exact O e p z Y)<|λop i=>by obtain⟨e,p,rfl⟩:=Conc.mem_ofEvents i;exact W e p
 .rw[Deaf_own,h.d0];exact N
 .rw[Deaf_other t n _ ki];exact h.dc
theorem gR(h:J K L Az Post S c x y fG gi gs a b w t q)(Y:stepG K.P false b w=.go b' w' es)
 (I:CF K L Az Post y' il (Conc.woken K.P b b' w' a) w')(V:y'.deaf=y.deaf)(U:y'.early=y.early)(F:EL K S' x' jv b' w')(N:∃n m,na x' y' n m/\K.B4 w' n m)
 (O:∃s,w'.heap[K.A]?=some (.chan 0 #[] false s s false))(Q:w'.heap[K.E]?=some (.chan 0 #[] x'.shut 0 0 false))(D:ConcN.PayAt K.C 1 w')(o:x'.rel=true->CC K w')
 (u:y.early=true->∀b,S' b↔K.fj w' b)(p:∀b,K.tT b->S' b)(r:∃i,∀b,S' b->K.fj i b)(l:w.heap.size<=w'.heap.size)(v:y.early=false->∀b,S' b->b<L)(B:y.early=true->∀e∈es,∀z,(MemAct.ofEvent e).touch?=some z->l8 w'.heap.size z.loc)(M:uJ K S' c x'.rel (t++MemOp.ofEvents c b.frame.fn b.frame.place es))(G:deafBehind x.deaf es=x'.deaf) :
  ∃d g,runT K.P (crowd gs w sl) c=(.next (crowd d w' sl),g)/\d.size=gs.size/\J K L Az Post S' c x' y' jv il d (Conc.woken K.P b b' w' a) b' w' (t++g) q:=by
 have Z:=(oF.1 h.hc).1;have f:c≠0:=by have:=h.pos;omega
 have hb:(c==0)=false:=by simp[f]
 refine⟨_,_,runT_crowd_go h.hc gq,by simp,
  ⟨h.pos,?_,OW gq,MQ h.old (.inr rfl) ki,λj T=>?_,F,I,N,O,Q,D,o,λz=>u<|U▸z,p,r,λz=>lT (h.size<|U▸z) l,λz=>⟨(h.vE<|U▸z).1,v<|U▸z⟩,λz=>sQ l (h.oK<|U▸z)<|λop k X W=>by obtain⟨e,R,rfl⟩:=Conc.mem_ofEvents k;exact B (U▸z) e R X W,M,?_,?_⟩⟩
 .rw[yq f,Array.getElem?_map,h.h0];rfl
 .have H:gs.size<=j:=by simpa using T
  rw[Deaf_other t oq _ ki];exact h.above j H
 .rw[Deaf_other t f _ ki,h.d0,V]
 .rw[Deaf_own,h.dc];exact G
def vf{vs:Vq}(h:na x (.gg vs) st sm):x.shut=false:=by cases x using Ch.cD<;>first|rfl|exact h.elim
def xy(h:na x .blk st sm):na x .w3 st sm:=by cases x using Ch.cD<;>first|exact h|exact h.elim
section
variable (h:y'=y\/(y=.blk/\y'=.w3))
def q8(a:y'.early=true):y.early=true:=by
 rcases h with rfl|⟨rfl,rfl⟩
 .exact a
 .cases a
def JF(a:y'.early=false):y.early=false:=by
 rcases h with rfl|⟨rfl,rfl⟩
 .exact a
 .rfl
def lK:y'.deaf=y.deaf:=by rcases h with rfl|⟨rfl,rfl⟩<;>rfl
def ia(a:na x y st sm):na x y' st sm:=by
 rcases h with rfl|⟨rfl,rfl⟩
 .exact a
 .exact xy a
end
theorem yQ(F:K.Fit)(A:∀g w,Az g w->g.status=.running)(h:J K L Az Post S c x y fG gi gs a b w t q)(hi:gs[i]?=some g)(u:i≠0)(v:i≠c)(r:g.status=.running) :
  ∃f p E d M I,runT K.P (crowd gs w sl) i=(.next (crowd f w sl),p)/\f.size=gs.size/\J K L Az Post S c x E fG d f M b w (t++p) I/\sumTo gs.size I<sumTo gs.size q:=by
 have Q:=(oF.1 hi).1;have s:=h.old i g oq v hi;have T:(i==0)=false:=by simp[u]
 cases a4:q i with
 | zero=>rw[a4] at s;rw[s.1] at r;cases r
 | succ k =>
  rw[a4] at s;rcases s with ⟨hf,_⟩|⟨_,g',es,hm,a5,a9⟩
  .rw[hf] at r;cases r
  have⟨X,W,D,V⟩:=h.pair;have⟨E,d,C,U⟩:=h.ma.woken A (g:=g) (g':=g') h.y7 (λ⟨Y,e⟩=>by subst e;have:=h.Ck;rw[vf D] at this;exact this);refine⟨_,_,E,d,Conc.woken K.P g g' w a,upd q i k,runT_crowd_go hi (by rw[T];exact a5 w),by simp,
   ⟨h.pos,?_,?_,λj z B O l=>?_,λj B=>?_,h.ch,C,⟨X,W,?_,V⟩,h.y7,h.Ck,h.pay,h.full,λz=>h.qi (q8 U z),h.ui,h.of,λz=>h.size (q8 U z),λz=>h.vE (JF U z),λG=>sQ lr (h.oK (q8 U G)) (λH m z l=>by obtain⟨e,n,rfl⟩:=Conc.mem_ofEvents m;rw[touch_mute (hm e n)] at l;cases l),?_,?_,?_⟩,?_⟩
  .rw[yq u,Array.getElem?_map,h.h0];rfl
  .rw[yq v,Array.getElem?_map,h.hc];simp[Option.map_some,xH];exact h.ch.still h.y7
  .by_cases e:i=j
   .subst e;rw[OW gq] at l;obtain rfl:=Kh l;rw[upd_same,Deaf_own];exact a9
   .rw[yq e,Array.getElem?_map] at l;obtain⟨G,R,rfl⟩:=sT.1 l;have o:=h.old j G B O R;rw[woken_quitsD o,upd_ne q k (Ne.symm e),Deaf_other t e _ ki];exact o
  .have N:gs.size<=j:=by simpa using B
   rw[Deaf_other t oq _ ki];exact h.above j N
  .rcases U with rfl|⟨rfl,rfl⟩
   .exact D
   .exact xy D
  .refine h.tr.mute (λH m=>by obtain⟨e,n,rfl⟩:=Conc.mem_ofEvents m;exact touch_mute (hm e n)) (λH m=>?_);obtain⟨e,n,rfl⟩:=Conc.mem_ofEvents m;exact xk (hm e n)
  .rw[Deaf_other t u _ ki,h.d0];rcases U with rfl|⟨rfl,rfl⟩<;>rfl
  .rw[Deaf_other t v _ ki];exact h.dc
  .have h2:sumTo gs.size (upd q i k)+(k+1)=sumTo gs.size q+k:=by have:=sumTo_upd q k id Q;simpa[a4] using this
   omega
end
variable {Cl:Array Goroutine}
section
open Go.ConcN (sumTo upd sumTo_upd upd_ne upd_same)
variable [ConcX.Payload][ConcR.Payload][ConcX.Shy K.Wg K.C]
def J.comm(F:K.Fit)(h:J K L Az Post S c x y fG gi gs a b w t q)(Z:Cl[0]?=some a')(hc:Cl[c]?=some b')(vC:Cl.size=gs.size)(E:∀j,j≠0->j≠c->Cl[j]?=gs[j]?)
 (l:∀v∈u,v.act.touch?=none)(I:∀g,∀v∈u,∀d,deafStep g d v=d)(Q:∀v∈u,v.act≠.mark (.release K.Em))(f:∀k,k≠K.A->w'.heap[k]?=w.heap[k]?)
 (hA:∃s,w'.heap[K.A]?=some (.chan 0 #[] false s s false))(M:EL K S x' jv b' w')(P:CF K L Az Post y' il a' w')(hp:∀H G,na x y H G->na x' y' H G)
 (p:x'.rel=x.rel)(r:x'.shut=x.shut)(T:x'.deaf=x.deaf)(U:y'.deaf=y.deaf)(m:w'.heap.size=w.heap.size)(o:y'.early=true->y.early=true)(D:y'.early=false->K.N0<=L/\∀b,S b->b<L) :
  J K L Az Post S c x' y' jv il Cl a' b' w' (t++u) q:=by
 have V:=f K.C (λe=>F.k0A (e▸F.On));have hk:∀b,K.fj w b->K.fj w' b:=λb n=>n.of_same (f b (λe=>F.kA w (e▸n)));have O:∀b,K.fj w' b->K.fj w b:=λb n=>n.of_same (f b (λe=>F.kA w' (e▸n))).symm;refine⟨h.pos,Z,hc,λi g hi B W=>?_,λj hj=>?_,M,P,?_,hA,?_,?_,λhr=>?_,λz b=>⟨λn=>hk b ((h.qi (o z) b).1 n),λn=>(h.qi (o z) b).2 (O b n)⟩,h.ui,h.of,λz=>by rw[m];exact h.size (o z),D,λz=>by rw[m];exact sQ lr (h.oK (o z)) (λv R z X=>by rw[l v R] at X;cases X),?_,?_,?_⟩
 .rw[E i oq B] at W;rw[Deaf_quiet (I i)];exact h.old i g hi B W
 .rw[Deaf_quiet (I j)];exact h.above j oq
 .have⟨H,G,h1,h2⟩:=h.pair;exact⟨H,G,hp H G h1,(f _ (Ne.symm F.AW)).trans h2⟩
 .rw[r];exact(f _ (Ne.symm F.AE)).trans h.Ck
 .have⟨Y,N,hn⟩:=h.pay;exact⟨Y,V.trans N,hn⟩
 .exact ConcX.ChanAt.of_block (h.full (p▸hr)) V
 .rw[p];exact h.tr.mute l Q
 .rw[Deaf_quiet (I 0),h.d0,U]
 .rw[Deaf_quiet (I c),h.dc,T]
def Iw(F:K.Fit)(s:Nat):RM K w (w.setChan K.A 0 #[] false s s false):=⟨O,O,O,λ_ _ _ a=>heap_setChan_ne w _ _ _ _ _ _<|λe=>a<|.inl e.symm,by simp[World.setChan]⟩
def Iv(F:K.Fit)(s:Nat):RC K w (w.setChan K.A 0 #[] false s s false):=λb a=>heap_setChan_ne w _ _ _ _ _ _<|λe=>by subst e;exact a.elim (F.kA w) F.sA
def J.sX(h:J K L Az Post S c x y fG gi gs a b w t q){j:Nat}(Xq:j≠0)(Xr:j≠c)(hg:gs[j]?=some g)(r:Nat)(sd:Bool):offersAt g r sd=[] :=
 offersAt_of_not_blocked (λhb=>by rcases(h.old j g oq Xr hg).status with z|z<;>rw[z] at hb<;>cases hb) r sd
def EL.sX(h:EL K S x fG b w)(g:∀v c,x≠.gg v c)(r:Nat)(f:Bool):offersAt b r f=[]:=by
 refine offersAt_of_not_blocked (λa=>?_) r f;rcases h.status with z|⟨v,c,_,e,_⟩|⟨n,d,_,hq⟩
 .rw[z] at a;cases a
 .exact g v c e
 .rcases hq.status with z|z<;>rw[z] at a<;>cases a
end
section
open Go.ConcN (sumTo upd sumTo_upd upd_ne upd_same)
abbrev Mu:=Nat × Nat × Nat × Tr × Nat × Tr
abbrev Og:Mu->Mu->Prop:=Prod.Lex (·<·) (Prod.Lex (·<·) (Prod.Lex (·<·) (Prod.Lex Sub (Prod.Lex (·<·) Sub))))
def Ub:WellFounded Og:=(Prod.lex Nat.lt_wfRel<|Prod.lex Nat.lt_wfRel<|Prod.lex Nat.lt_wfRel<|Prod.lex ⟨Sub,GP⟩<|Prod.lex Nat.lt_wfRel ⟨Sub,GP⟩).wf
def mu (n:Nat)(x:Ch)(y:Ma)(fG gi:Tr):Mu:=(n,x.left,x.iY,fG,y.iY x.done,gi)
theorem Al(T:Trace)(B:Nat):∃U,B<=U/\∀d∈T,d.act.low U:=by
 have⟨l⟩:=T;induction l with
 | nil=>exact⟨B,lr,by simp⟩
 | cons o l g =>
  have⟨U,h1,h2⟩:=g;have:∃b,o.act.low b:=by
   cases e:o.act with
   | access ev =>
    have⟨f,i,h⟩:=ev;cases f with
    | cell a=>exact⟨a.block+1,Nat.lt_succ_self _⟩
    | obj r=>exact⟨r+1,Nat.lt_succ_self _⟩
    | _=>exact⟨0,trivial⟩
   | mark m =>cases m<;>first|exact⟨_,Nat.lt_succ_self _⟩|exact⟨0,trivial⟩
   | go _=>exact⟨0,trivial⟩
   | start=>exact⟨0,trivial⟩
   | _=>exact⟨_,Nat.lt_succ_self _⟩
  have⟨b,h3⟩:=this;refine⟨max U b,by omega,λd c=>?_⟩;simp[List.mem_toArray,oc] at c;rcases c with rfl|c
  .exact MemAct.low_mono (Nat.le_max_right _ _) h3
  .exact MemAct.low_mono (Nat.le_max_left _ _)<|h2 d gq
variable [ConcX.Payload][ConcR.Payload][ConcX.Shy K.Wg K.C]
def H0(h:x'.left<x.left):Og (mu n x' y' jv il) (mu n x y fG gi):=.right _ (.left _ _ h)
def v5(h:x'.left=x.left)(a:x'.iY<x.iY):Og (mu n x' y' jv il) (mu n x y fG gi):=by unfold mu;rw[h];exact .right _ (.right _ (.left _ _ a))
def oa(h:x'.left=x.left)(a:x'.iY=x.iY)(b:Sub jv fG):Og (mu n x' y' jv il) (mu n x y fG gi):=by unfold mu;rw[h,a];exact .right _ (.right _ (.right _ (.left _ _ b)))
def iF(h:y'.iY x.done<y.iY x.done):Og (mu n x y' fG il) (mu n x y fG gi):=.right _ (.right _ (.right _ (.right _ (.left _ _ h))))
def MB(h:y'.iY x.done=y.iY x.done)(a:Sub il gi):Og (mu n x y' fG il) (mu n x y fG gi):=by unfold mu;rw[h];exact .right _ (.right _ (.right _ (.right _ (.right _ a))))
structure qD(K:Cfg)[ConcX.Shy K.Wg K.C]:Prop where
 ok:∀act,ConcX.Shy.ok K.Wg K.C act->(∀z,act.touch?=some z->(∃ad:Addr,z.loc=.cell ad/\ad.block=K.C)\/(∃ad:Addr,z.loc=.cell ad/\ad.block=K.Wg/\z.kind≠.plain))/\act.low K.B
def Fin (K:Cfg)[ConcX.Payload][ConcX.Shy K.Wg K.C](Post:Value->World->Prop)(n:Nat)(M:Machine)(T:Trace):Prop :=
 ∃(gs:Array Goroutine) (a:Goroutine) (w:World) (sl:Option (Nat × Nat)) (q:Nat->Nat) (B m L:Nat),M=crowd gs w sl/\gs.size=n/\gs[0]?=some a/\Leavers K.P T gs q/\Past K.Shun B T/\K.B<=B /\
  Goes K.P true AtRel (ConcX.DPj K.Mz K.Wg K.C L) (R4 K Post) m a w
def Next (K:Cfg)[ConcX.Payload][ConcR.Payload][ConcX.Shy K.Wg K.C](Az:Gq)(Post:Value->World->Prop)(c:Nat)(X:Stepped × Array MemOp)(t:Trace)(n:Nat)(μ:Mu):Prop :=
 (∃M ops,X=(.next M,ops)/\Fin K Post n M (t++ops)) \/
 ∃L S x' y' jv il Cl a' b' w' Y3 q' ops,X=(.next (crowd Cl w' Y3),ops)/\Cl.size=n/\J K L Az Post S c x' y' jv il Cl a' b' w' (t++ops) q'/\Relation.TransGen Og (mu (sumTo n q') x' y' jv il) μ
def Next.mono{X:Stepped × Array MemOp}{b a:Mu}(h:Next K Az Post c X t n a)(d:Og a b):Next K Az Post c X t n b:=by
 rcases h with h|⟨L,S,x',y',jv,il,Cl,a',b',w',Y3,q',ops,e,hs,hJ,mH⟩
 .exact .inl h
 .exact .inr ⟨L,S,x',y',jv,il,Cl,a',b',w',Y3,q',ops,e,hs,hJ,mH.trans<|.single d⟩
def R0(F:K.Fit)(a:∃w,∀b,S b->K.fj w b)(e:z.loc=.cell ad)(h:ad.block=K.Wg)(c:z.kind≠.plain):Ok0 K.Shun (K.lE S) K.iJ z:=by
 have⟨w,a⟩:=a;refine⟨?_,?_,λ_=>c⟩
 .rintro(⟨b,e',hb⟩|e'|⟨b,e',hb⟩)
  .rw[e] at e';cases e';exact F.kW w<|h▸a _ hb
  iterate 2
   .rw[e] at e';cases e'
 .rintro⟨b,e',hb⟩;rw[e] at e';cases e';exact absurd (h▸hb) F.sW
def SO(F:K.Fit)(H:qD K)(hS:∃w,∀b,S b->K.fj w b)(h:ConcX.EvQ K.Mz K.Wg K.C 0 e):∀z,(MemAct.ofEvent e).touch?=some z->Ok0 K.Shun (K.lE S) K.iJ z:=by
 intro z hz;obtain ⟨_,ht,_,hk⟩:=h.1 0 ""
 rcases(H.ok _ hk).1 z hz with ⟨ad,e1,e2⟩|⟨ad,e1,e2,e3⟩
 .exact absurd ((ht z hz).2.2 ⟨ad,e1,e2,by rw[e2]; exact F.CW⟩).1 dq
 .exact R0 F hS e1 e2 e3
def hY(h:na x y st sm)(a:x.shut=false):y.early=true:=by cases x using Ch.cD<;>first|(cases y using Ma.cD<;>first|exact h.elim|rfl)|cases a
section
variable (F:K.Fit)(H:qD K)(Rf:∀g w,Az g w->g.status=.running)
 (OY:∀L,K.N0<=L->∀g w,Az g w->∃m,Goes K.P true (mO K) (tS K L) (oR K L Az Post) m g w)
def Next.main(h:∃a d,runT K.P (crowd gs w sl) 0=(.next (crowd a w' sl),d)/\a.size=gs.size/\J K L Az Post S c x y' fG il a a' b w' (t++d) q)(f:∀n,Og (mu n x y' fG il)<|mu n x y fG gi) :
  Next K Az Post c (runT K.P (crowd gs w sl) 0) t gs.size (mu (sumTo gs.size q) x y fG gi):=by have⟨a,d,e,i,g⟩:=h;exact .inr ⟨L,S,x,y',fG,il,a,a',b,w',sl,q,d,e,i,g,.single<|f _⟩
def eR:=@Next.main
def eZ(F:K.Fit)(H:qD K)(h:J K L Az Post S c x y fG gi gs a b w t q)(hy:y.early=false)(hgo:stepG K.P true a w=.go a' w' es)(hd:tS K L w w' es)(Jx:CF K L Az Post y il a' w')(hs:Sub il gi) :
  Next K Az Post c (runT K.P (crowd gs w sl) 0) t gs.size (mu (sumTo gs.size q) x y fG gi):=by
 have⟨st,sm,hp,hw⟩:=h.pair;have⟨hN,hL⟩:=h.vE hy;have Ro:∀k,S k\/K.Still k\/k=K.A\/k=K.E->k<L:=λk hk=>by
  rcases hk with z|z|rfl|rfl
  .exact hL k z
  .exact lL (F.s0 k z) hN
  .exact lL F.A0 hN
  .exact lL F.E0 hN
 exact eR (eQ F h hgo O (λk hk=>hd.1 k<|Ro k hk) (λz=>by rw[hy] at z; cases z) (λz=>by rw[hy] at z; cases z) (hY hp) ⟨st,sm,hp,(hd.1 _<|lL F.W0 hN).trans hw⟩
  (λe he => SO F H h.of (hd.2 e he)) (λz => by rw [hy] at z; cases z) (λe he => ((hd.2 e he).1 0 "").2.2.1) (deafBehind_still (λe he => ⟨(hd.2 e he).2.1,(hd.2 e he).2.2.1⟩) _) Jx) λ_ => MB O hs
def DG{m:Mark}(c:(MemAct.mark m).touch?=none):∀e∈(#[ConcX.mk m]:Array Event),∀z,(MemAct.ofEvent e).touch?=some z->Ok0 K.Shun (K.lE S) K.iJ z:=by intro e a z b;rw[H2] at a;subst a;rw[show MemAct.ofEvent _=.mark m from O,c] at b;cases b
def zV{m:Mark}(b:m≠.release K.Em):∀e∈(#[ConcX.mk m]:Array Event),MemAct.ofEvent e≠.mark (.release K.Em):=by intro e a z;rw[H2] at a;subst a;exact b<|MemAct.mark.inj z
section
variable (F:K.Fit)
def z6(i:∃w,∀b,S b->K.fj w b)(h:∀e∈es,(∃c a,e=⟨.cell c,a,true⟩/\c.block=K.Wg)\/e.loc=.mark .disable\/e.loc=.mark .enable) :
  (∀e∈es,∀z,(MemAct.ofEvent e).touch?=some z->Ok0 K.Shun (K.lE S) K.iJ z)/\∀e∈es,MemAct.ofEvent e≠.mark (.release K.Em):=by
 refine⟨λe d z g=>?_,λe d=>?_⟩
 .rcases h e d with ⟨c,a,rfl,hb⟩|h1|h1
  .have e:MemAct.ofEvent ⟨.cell c,a,true⟩=.access ⟨.cell c,a,true⟩:=O;rw[e] at g;simp[MemAct.touch?,xH] at g;subst g;exact R0 F i O hb iq
  iterate 2
   .have⟨f,a,j⟩:=e;subst h1;cases g
 .rcases h e d with ⟨c,a,rfl,hb⟩|h1|h1
  .exact λz=>by cases z
  iterate 2
   .have⟨f,a,j⟩:=e;subst h1;exact λz=>by cases z
def Qk(h:J K L Az Post S c x .w1 fG gi gs a b w t q)(r:oR K L Az Post a w):Next K Az Post c (runT K.P (crowd gs w sl) 0) t gs.size (mu (sumTo gs.size q) x .w1 fG gi):=by
 have⟨_,u,j,h1,h2⟩:=r;have⟨n,l,f,k⟩:=h.pair;have d:=z6 F h.of (es:=#[ConcX.rd (ConcX.stA K.Wg)]) (λe p=>by rw[H2] at p;subst p;exact .inl ⟨_,_,O,O⟩);have g:(n=KK/\l=0/\x.done=false/\na x .w2 n l)\/(n=0/\l=0/\x.done=true/\x.rel=true/\na x .ke n l):=by cases x using Ch.cD<;>first|exact f.elim|exact .inl ⟨f.1,f.2,rfl,f⟩|exact .inr ⟨f.1,f.2,rfl,rfl,f⟩
 rcases g with ⟨rfl,rfl,hd,Cp⟩|⟨rfl,rfl,hd,hr,Cp⟩
 .have⟨m,o⟩:=h1 k;have⟨s,i⟩:=cY o;exact eR (eQ (y':=.w2) F h j O (λ_ _=>O) (λz=>by cases z) (λz=>by cases z) (hY f) ⟨_,_,Cp,k⟩ d.1 (λz=>by cases z) d.2 O i) λ_=>iF<|by rw[hd];decide
 .have⟨m,o⟩:=h2 ⟨k,h.full hr⟩;have⟨s,i⟩:=cY o;exact eR (eQ (y':=.ke) F h j O (λ_ _=>O) (λz=>by cases z) (λz=>by cases z) (hY f) ⟨_,_,Cp,k⟩ d.1 (λz=>by cases z) d.2 O i) λ_=>iF<|by rw[hd];decide
def MN(a:∃w,∀b,S b->K.fj w b)(c:S k\/K.Still k\/k=K.A\/k=K.E):k≠K.Wg:=by
 rintro rfl;rcases c with z|z|z|z
 .have⟨w,a⟩:=a;exact F.kW w<|a _ z
 .exact F.sW z
 .exact F.AW z.symm
 .exact F.EW z.symm
def GB:∀e∈semEvents (ConcX.smA K.Wg),(∃a c,e=⟨.cell a,c,true⟩/\a.block=K.Wg)\/e.loc=.mark .disable\/e.loc=.mark .enable:=by
 intro e b;simp[semEvents,List.mem_toArray,oc,zL,or_false] at b;rcases b with rfl|rfl|rfl|rfl
 .exact .inr<|.inl O
 iterate 2
  .exact .inl ⟨_,_,O,O⟩
 .exact .inr<|.inr O
def Ql(h:J K L Az Post S c x .w3 fG gi gs a b w t q)(u:KX K L Post a w):Next K Az Post c (runT K.P (crowd gs w sl) 0) t gs.size (mu (sumTo gs.size q) x .w3 fG gi):=by
 have⟨i,g,h1,h2⟩:=u;have⟨p,o,e,j⟩:=h.pair;have d:(o=0/\na x .blk p o)\/(p=0/\o=1/\x.rel=true/\na x .w4 0 0):=by cases x using Ch.cD<;>first|exact e.elim|exact .inl ⟨e.2,e⟩|exact .inr ⟨e.1,e.2,rfl,rfl,rfl⟩
 rcases d with ⟨rfl,Cp⟩|⟨rfl,rfl,hr,Cp⟩
 .exact eR (eQ (y':=.blk) F h (h1 ⟨p,j⟩) O (λ_ _=>O) (λz=>by cases z) (λz=>by cases z) (hY e) ⟨_,_,Cp,j⟩ iq (λz=>by cases z) iq O ⟨a,O,i,g,h.ma⟩) λ_=>iF<|by simp[Ma.iY,Ma.on]
 .have⟨v,l,m,r⟩:=h2 ⟨j,h.full hr⟩;have f:=z6 F h.of GB;have⟨y,n⟩:=cY r;exact eR (eQ (y':=.w4) F h l O (λk s=>RowKit.Below.heap_setCell _ _ _ _<|MN F h.of s) (λz=>by cases z) (λz=>by cases z) (hY e) ⟨_,_,Cp,ConcX.WgAt.setSm j _⟩ f.1 (λz=>by cases z) f.2 O n) λ_=>iF<|by simp[Ma.iY,Ma.on]
def Qm(h:J K L Az Post S c x .w4 fG gi gs a b w t q)(l:QL K L Post a w):Next K Az Post c (runT K.P (crowd gs w sl) 0) t gs.size (mu (sumTo gs.size q) x .w4 fG gi):=by have⟨_,r,f,m,k⟩:=l;have⟨p,o,g,n⟩:=h.pair;have d:=z6 F h.of (es:=#[ConcX.rd (ConcX.stA K.Wg)]) (λe j=>by rw[H2] at j;subst j;exact .inl ⟨_,_,O,O⟩);have⟨s,i⟩:=cY k;exact eR (eQ (y':=.ke) F h f O (λ_ _=>O) (λz=>by cases z) (λz=>by cases z) (hY g) ⟨p,o,by cases x using Ch.cD<;>first|exact g|exact g.elim,n⟩ d.1 (λz=>by cases z) d.2 O i) λ_=>iF<|by simp[Ma.iY,Ma.on]
def Qj(h:J K L Az Post S c x .ke fG gi gs a b w t q)(i:QK K L Post a w):Next K Az Post c (runT K.P (crowd gs w sl) 0) t gs.size (mu (sumTo gs.size q) x .ke fG gi):=by have⟨_,n,d,m,g⟩:=i;have⟨l,k,e,j⟩:=h.pair;have⟨o,f⟩:=cY g;exact eR (eQ (y':=.acq) F h d O (λ_ _=>O) (λz=>by cases z) (λz=>by cases z) (hY e) ⟨l,k,by cases x using Ch.cD<;>first|exact e|exact e.elim,j⟩ (DG rfl) (λz=>by cases z) (zV iq) O f) λ_=>iF<|by simp[Ma.iY,Ma.on]
end
def NU(h:J K L Az Post S c x .acq fG gi gs a b w t q)(T:KR K L Post a w):Next K Az Post c (runT K.P (crowd gs w sl) 0) t gs.size (mu (sumTo gs.size q) x .acq fG gi):=by
 have⟨_,I,y,m,M⟩:=T;have⟨X,W,R,V⟩:=h.pair;have C:0<gs.size:=(oF.1 h.h0).1;have v:(0:Nat)≠c:=by have:=h.pos;omega
 obtain⟨n,d,rfl⟩:∃n d,x=.quit n d:=by cases x using Ch.cD<;>first|exact⟨_,_,rfl⟩|exact R.elim
 have⟨F,_⟩:=h.ch;obtain⟨r,u,o,D⟩:∃r,PT K.Shun (K.lE S) K.iJ c (λi=>Before t i r) t/\ConcN.RelBy K.Em t c r/\∀k,r<k->t.act? k≠some (.mark<|.release K.Em):=h.tr;have H:MemOp.ofEvents 0 a.frame.fn a.frame.place #[ConcX.mk (.acquire<|ConcX.stA K.Wg)]=#[{ g:=0,fn:=a.frame.fn,pos:=a.frame.place,act:=.mark (.acquire K.Em) }]:=by simp[MemOp.ofEvents,MemAct.ofEvent,ConcX.mk,ConcX.stA,Cfg.Em]
 have⟨E,p,s⟩:=Al (t++#[{ g:=0,fn:=a.frame.fn,pos:=a.frame.place,act:=.mark (.acquire K.Em) }]) K.B;refine .inl ⟨_,_,runT_crowd_go h.h0<|show stepG K.P (0==0) a w=_ from y,_,I,w,sl,upd q c n,E,m,L,Y,by simp,by simp[C],⟨λi z O G=>?_,λj Q=>?_⟩,by rw[H];exact (u.join o h.d0 D a.frame.fn a.frame.place E s),p,M⟩
 .rw[yq oq,Array.getElem?_map] at G;obtain⟨U,f,rfl⟩:=sT.1 G;by_cases e:i=c
  .subst e;rw[h.hc] at f;obtain rfl:=Kh f;rw[woken_quitsD F,upd_same,Deaf_other t v _ ki,h.dc];exact F
  .have l:=h.old i U O e f;rw[woken_quitsD l,upd_ne q n e,Deaf_other t oq _ ki];exact l
 .have A:gs.size<=j:=by simpa using Q
  rw[Deaf_other t oq _ ki];exact h.above j A
def vm(F:K.Fit)(H:qD K)(f:∀L,K.N0<=L->∀g w,Az g w->∃m,Goes K.P true (mO K) (tS K L) (oR K L Az Post) m g w)(h:J K L Az Post S c x .kd fG gi gs a b w t q):Next K Az Post c (runT K.P (crowd gs w sl) 0) t gs.size (mu (sumTo gs.size q) x .kd fG gi):=by
 rcases cV h.ma (ConcX.RPa.refl w) with hs|⟨_,g',w',es,yr,e,d,po,hG⟩
 .have⟨_,k,y,m,l⟩:=hs;have d:=
   Way.bind ConcX.RPa.refl ((cY l).uE (λ_ _ z=>z) (λ_ _ _ z=>z) λg w n=>(f L (h.vE O).1 g w n).elim λ_ o=>cY o);have⟨v,j⟩:=d;have⟨u,s,i,r⟩:=h.pair;exact eR (eQ (y':=.w1) F h y O (λ_ _=>O) (λz=>by cases z) (λz=>by cases z) (hY i) ⟨u,s,by cases x using Ch.cD<;>first|exact i|exact i.elim,r⟩ (DG rfl) (λz=>by cases z) (zV iq) O j)
   λ_=>iF (by show(if x.done=true then 5 else 6)<7;split<;>omega)
 .exact eZ F H h O e d hG po
def J.Mm(F:K.Fit)(h:J K L Az Post S c x .over fG gi gs a b w t q)(p:Av K Az a w):∃n l,J K n Az Post S c x .kd fG l gs a b w t q:=by
 have⟨i,g,e,f⟩:=h.pair;have d:=h.size O;have j:E1 K w:=by
  have m:=f;have:(i=KK/\g=0)\/(i=0/\g=0/\x.rel=true):=by cases x using Ch.cD<;>first|exact e.elim|exact .inl ⟨e.1,e.2⟩|exact .inr ⟨e.1,e.2,rfl⟩
  rcases this with ⟨rfl,rfl⟩|⟨rfl,rfl,hr⟩
  .exact .inl m
  .exact .inr ⟨m,h.full hr⟩
 have⟨l,k⟩:=p.2 j w.heap.size d;refine⟨w.heap.size,l,⟨h.pos,h.h0,h.hc,h.old,h.above,h.ch,k,⟨i,g,?_,f⟩,h.y7,h.Ck,h.pay,h.full,(λz=>by cases z),h.ui,h.of,(λz=>by cases z),λ_=>⟨d,λb o=>((h.qi O b).1 o).lt F d⟩,(λz=>by cases z),h.tr,h.d0,h.dc⟩⟩;cases x using Ch.cD<;>first|exact e.elim|exact e
def yg(F:K.Fit)(H:qD K)(Rf:∀g w,Az g w->g.status=.running)(A:∀L,K.N0<=L->∀g w,Az g w->∃m,Goes K.P true (mO K) (tS K L) (oR K L Az Post) m g w)(h:J K L Az Post S c x y fG gi gs a b w t q)(u:a.status=.running):Next K Az Post c (runT K.P (crowd gs w sl) 0) t gs.size (mu (sumTo gs.size q) x y fG gi):=by
 have v:∀r,(y=.front r\/y=.walk r)->mK K Az r a w->Next K Az Post c (runT K.P (crowd gs w sl) 0) t gs.size (mu (sumTo gs.size q) x y fG gi):=by
  intro r C l;have⟨M,V,x',y',G,I,Y,Z,n,W,e,R,N,E⟩:∃I ops x' y' n i a' b' w' L',runT K.P (crowd gs w sl) 0=(.next (crowd I w' sl),ops)/\I.size=gs.size/\J K L' Az Post S c x' y' n i I a' b' w' (t++ops) q /\ (x'.left<x.left\/(x'=x/\n=fG/\y'.iY x.done<y.iY x.done)):=by
   have a9:=(oF.1 h.h0).1;have Z:=(oF.1 h.hc).1;have H:c≠0:=by have:=h.pos;omega
   have⟨_,f,l⟩:=(Ki K Az r a w).1 l;have N:=l.comm;have⟨s,T⟩:=h.y7;have⟨st,sm,hp,hwg⟩:=h.pair;have B:∀b5 sd (j:Nat) g,j≠c->(gs.setIfInBounds 0 ph)[j]?=some g->offersAt g b5 sd=[]:=by
    intro b5 sd j g P G;rcases getElem?_stand gs 0 j g G with ⟨_,rfl⟩|⟨Y,hg'⟩
    .exact offersAt_ph _ _
    .exact h.sX Y P hg' b5 sd
   by_cases ae:∃v p,x=.gg v p
   .
    obtain⟨v,p,rfl⟩:=ae;have R:r=v::p/\y=.walk r:=by
     rcases C with rfl|rfl
     .exact hp.elim
     .exact⟨hp.1,rfl⟩
    obtain⟨rfl,rfl⟩:=R;obtain⟨u,rfl,O⟩:=h.ch;have hAE:=F.AE;have M:=h.Ck;have pA:partners (gs.setIfInBounds 0 ph) K.A true=[(c,0)]:=by rw[partners_one (stand_get H h.hc) (λk z hk hz=>B _ _ k z hk hz),offersAt_parked_send];simp
    have pE:partners (gs.setIfInBounds 0 ph) K.E true=[]:=by
     refine partners_nil λj g G=>?_;by_cases P:j=c
     .subst P;rw[stand_get H h.hc] at G;obtain rfl:=Kh G;rw[offersAt_parked_send,iw hAE]
     .exact B _ _ j g P G
    have aa:=crowd_sel_recv_meets (sl:=sl) h.h0 N rfl (λm c' hm a5=>by
     rcases m with _|_|m
     .exact absurd rfl hm
     .simp only[Cfg.cases,LY,List.getElem?_cons_succ,OX,xH] at a5;subst a5;exact ways_recv_none M pE
     .simp[Cfg.cases] at a5) T H h.hc pA;have a8:=h.size rfl;have D:qR K p _ (w.setChan K.A 0 #[] false (s+1) (s+1) false):=O _<|Iv F _;have o:yV K Az p _ (w.setChan K.A 0 #[] false (s+1) (s+1) false):=l.2.2.2.2 _ (Iw F _) (by simpa[World.setChan] using a8);rw[uc] at D;rw[xi] at o;have⟨n,D⟩:=D;have⟨i,o⟩:=o;refine⟨_,_,.work p,.walk p,n,i,Conc.served f<|commResult K.cases .select 0 v true,Conc.served u undef,_,L,aa,by simp,?_,.inl<|by simp[Ch.left,Ch.on]⟩;rw[ofEvents_none,Array.empty_append];refine J.comm F h (by rw[OW (by simpa using a9)];rfl) (by rw[yq (Ne.symm H),OW Z];rfl) iq
     (λj Y P=>by rw[yq (Ne.symm Y),yq<|Ne.symm P])
     (met_mute c 0 _ _ _ _ K.A s 0) (met_quiet c 0 _ _ _ _ K.A s 0) ?_ (λk hk=>heap_setChan_ne w _ _ _ _ _ _<|Ne.symm hk) ⟨s+1,heap_setChan_self w T _ _ _ _ _ _⟩ D o ?_ rfl rfl rfl rfl (by simp[World.setChan]) (λ_=>rfl) (λz=>by cases z)
    .intro op U;simp at U;rcases U with rfl|rfl|rfl|rfl<;>simp
    .rintro st sm ⟨_,h2,h3⟩;exact⟨rfl,h2,h3⟩
   .have a6:∀v p,x≠.gg v p:=λv p e=>ae ⟨v,p,e⟩;have pN:∀b5,partners (gs.setIfInBounds 0 ph) b5 true=[]:=λb5=>by
     refine partners_nil λj g G=>?_;by_cases P:j=c
     .subst P;rw[stand_get H h.hc] at G;obtain rfl:=Kh G;exact h.ch.sX a6 _ _
     .exact B _ _ j g P G
    have a5:∀z j,j≠0->j≠c->(gs.setIfInBounds 0 z)[j]?=gs[j]?:=λz j Y _=>yq<|Ne.symm Y;by_cases Q:x.shut=true
    .
     have M:=h.Ck;rw[Q] at M;have R:r=[]/\y=.walk r:=by rcases C with rfl|rfl<;>cases x using Ch.cD<;>first|exact hp.elim|exact⟨hp.1,rfl⟩|cases Q
     obtain⟨rfl,rfl⟩:=R;have KF:=crowd_sel_recv_closed (sl:=sl) h.h0 N rfl (λm c' hm a5=>by
      rcases m with _|_|m
      .simp only[Cfg.cases,LY,OX,xH] at a5;subst a5;exact ways_recv_none T<|pN _
      .exact absurd rfl hm
      .simp[Cfg.cases] at a5) M<|pN _;have a8:=h.size rfl;have⟨i,o⟩:=l.2.2.2.2 w (iS w) a8;refine⟨_,_,x,.over,fG,i,Conc.served f<|commResult K.cases .select 1 K.zE false,b,w,L,KF,by simp,?_,.inr ⟨rfl,rfl,by simp[Ma.iY,Ma.on]⟩⟩;rw[ofEvents_none];refine J.comm F h (by rw[OW a9];rfl) (by rw[yq (Ne.symm H)];exact h.hc) iq (a5 _) ?_ ?_ ?_ (λ_ _=>rfl) ⟨s,T⟩ h.ch o ?_ rfl rfl rfl rfl rfl (λ_=>rfl)<|λz=>by cases z
     .intro op U;simp at U;subst U;rfl
     .intro g op U d;simp at U;subst U;rfl
     .intro op U;simp at U;subst U;simp
     .intro st sm X;cases x using Ch.cD<;>first|exact X.elim|exact X.2|cases Q
    .
     have a7:x.shut=false:=gq
     have M:=h.Ck;rw[a7] at M;have hwt:=crowd_waits (sl:=sl) h.h0 N (λcc ab=>by
      simp only[Cfg.cases,List.mem_toArray,oc,zL,or_false] at ab;rcases ab with rfl|rfl
      .exact ways_recv_none T<|pN _
      .exact ways_recv_none M<|pN _);refine⟨_,_,x,.gg r,fG,gi,parked f K.cases .select,b,w,L,hwt,by simp,?_,.inr ⟨rfl,rfl,by rcases C with rfl|rfl<;>simp[Ma.iY,Ma.on]⟩⟩;rw[ofEvents_none];refine J.comm F h (by simp[a9]) (by rw[yq (Ne.symm H)];exact h.hc) iq (a5 _) iq iq iq (λ_ _=>rfl) ⟨s,T⟩ h.ch ⟨a,f,rfl,l⟩ ?_ rfl rfl rfl (by rcases C with rfl|rfl<;>rfl) rfl (λ_=>by rcases C with rfl|rfl<;>rfl) (λz=>by cases z);intro st sm X;rcases C with rfl|rfl<;>cases x using Ch.cD<;>first|exact absurd rfl (a6 _ _)|exact X.elim|exact X|cases a7
  refine .inr ⟨W,S,x',y',G,I,M,Y,Z,n,sl,q,V,e,R,N,?_⟩;rcases E with E|⟨rfl,rfl,E⟩
  .exact .single<|H0 E
  .exact .single<|iF E
 have B:∀{p n o i},y.early=true->stepG K.P true a w=.go p n o->DM K w n o->Sub i gi->CF K L Az Post y i p n->Next K Az Post c (runT K.P (crowd gs w sl) 0) t gs.size (mu (sumTo gs.size q) x y fG gi):=by
  intro p n o i C e d f j;have⟨st,sm,hp,hw⟩:=h.pair;have O:∀b,S b->K.fj n b:=λb X=>((h.qi C b).1 X).of_same<|d.block b<|.inl<|(h.qi C b).1 X;refine eR (eQ F h e rfl (λk Q=>d.block k ?_) (λ_=>d.born) (λ_=>d.grow) (λ_=>C) ⟨st,sm,hp,(d.block _<|i3<|.inr rfl).trans hw⟩
   (λe s z T=>?_) (λ_ e s z T=>(((d.evs e s).1 z T).2)) (λe s=>(d.evs e s).2.2.2) (deafBehind_still (λe s=>⟨(d.evs e s).2.1,(d.evs e s).2.2.1⟩) _) j) λ_=>MB rfl f
  .rcases Q with z|z|z|z
   .exact .inl<|(h.qi C k).1 z
   .exact .inr<|.inl z
   .exact .inr<|.inr<|.inl z
   .exact i3<|.inl z
  .have U:=((d.evs e s).1 z T).1;exact⟨λQ=>U.qi<|Cfg.lE.mono O Q,U.still,U.yL⟩
 cases y using Ma.cD with
 | front r =>
  rcases cV h.ma (iS w) with l|⟨_,p,n,o,i,e,d,f,j⟩
  .exact v r (.inl rfl) l
  .exact B rfl e d f j
 | walk r =>
  rcases cV h.ma (iS w) with l|⟨_,p,n,o,i,e,d,f,j⟩
  .exact v r (.inr rfl) l
  .exact B rfl e d f j
 | gg r=>obtain⟨_,D,rfl,_⟩:=h.ma;cases u
 | over =>
  rcases cV h.ma (iS w) with l|⟨_,p,n,o,i,e,d,f,j⟩
  .have⟨W,τ,N⟩:=J.Mm F h l;exact(vm F H A N).mono (iF<|by simp[Ma.iY,Ma.on])
  .exact B rfl e d f j
 | kd=>exact vm F H A h
 | w1 =>
  rcases cV h.ma (ConcX.RPa.refl w) with l|⟨_,p,n,o,i,e,d,f,j⟩
  .exact Qk F h l
  .exact eZ F H h rfl e d j f
 | w2 =>
  rcases cV h.ma (ConcX.RPa.refl w) with l|⟨_,p,n,o,i,e,d,f,j⟩
  .have⟨_,h1,h2⟩:=l;have⟨v,u,f,p⟩:=h.pair;have i:(v=KK/\u=0/\x.done=false/\na x .w3 (KK+1) 0)\/(v=0/\u=0/\x.done=true/\x.rel=true/\na x .w1 v u):=by cases x using Ch.cD<;>first|exact f.elim|exact .inl ⟨f.1,f.2,rfl,rfl,rfl⟩|exact .inr ⟨f.1,f.2,rfl,rfl,f⟩
   rcases i with ⟨rfl,rfl,hd,Cp⟩|⟨rfl,rfl,hd,hr,Cp⟩
   .have⟨y,j,m,s⟩:=h1 p;have d:=z6 F h.of (es:=#[ConcX.rd (ConcX.stA K.Wg),ConcX.wr<|ConcX.stA K.Wg]) (λe n=>by simp[List.mem_toArray,oc,zL,or_false] at n;rcases n with rfl|rfl<;>exact .inl ⟨_,_,rfl,rfl⟩);have⟨E,b5⟩:=cY s;exact eR (eQ (y':=.w3) F h j O (λk B=>RowKit.Below.heap_setCell _ _ _ _<|MN F h.of B) (λz=>by cases z) (λz=>by cases z) (hY f) ⟨_,_,Cp,ConcX.WgAt.setSt p _⟩ d.1 (λz=>by cases z) d.2 O b5) λ_=>iF<|by rw[hd];decide
   .have⟨y,j,m,s⟩:=h2 ⟨p,h.full hr⟩;have d:=z6 F h.of (es:=#[ConcX.rd (ConcX.stA K.Wg)]) (λe n=>by rw[H2] at n;subst n;exact .inl ⟨_,_,O,O⟩);have o:=
     Way.bind ConcX.RPa.refl ((cY s).uE (λ_ _ z=>z) (λ_ _ _ z=>z) λg w a5=>(A L (h.vE O).1 g w a5).elim λ_ C=>cY C);have⟨E,b5⟩:=o;exact eR (eQ (y':=.w1) F h j O (λ_ _=>O) (λz=>by cases z) (λz=>by cases z) (hY f) ⟨_,_,Cp,p⟩ d.1 (λz=>by cases z) d.2 O b5) λ_=>iF<|by rw[hd];decide
  .exact eZ F H h rfl e d j f
 | w3 =>
  rcases cV h.ma (ConcX.RPb.refl w) with l|⟨_,p,n,o,i,e,d,f,j⟩
  .exact Ql F h l
  .exact eZ F H h rfl e d j f
 | blk=>obtain⟨D,rfl,_⟩:=h.ma;cases u
 | w4 =>
  rcases cV h.ma (atRel_refl w) with l|⟨_,p,n,o,i,e,d,f,j⟩
  .exact Qm F h l
  .exact eZ F H h rfl e d j f
 | ke =>
  rcases cV h.ma (atRel_refl w) with l|⟨_,p,n,o,i,e,d,f,j⟩
  .exact Qj F h l
  .exact eZ F H h rfl e d j f
 | acq =>
  rcases cV h.ma (atRel_refl w) with l|⟨_,p,n,o,i,e,d,f,j⟩
  .exact NU h l
  .exact eZ F H h rfl e d j f
end
end
end
section
variable {fn:FuncId}{t:Trace}{P:Program}{Post:Value->World->Prop}{gs:Array Goroutine}{q:Nat->Nat}
variable {e:Event}{f:FuncId}{pos:String}{sm RR st Ou:Int}{b₀ fuel i id n:Nat}{x:Operand}{c y:Code}{t':Trace}{ops:Array Oper}{rest:List Nat}{o:Oper}{bL:Func}{cap first:Array Value}{args:Array Operand}{ats:Array TypeId}{M':Machine}{Shun:Loc->Prop}
variable {w w':World}
section
open Go.ConcN (sumTo upd sumTo_upd upd_ne upd_same)
variable {K:Cfg}[ConcX.Payload][ConcR.Payload][ConcX.Shy K.Wg K.C]{Az:Gq}
variable {L:Nat}{S S':Nat->Prop}{c:Nat}{x x':Ch}{y y':Ma}{fG gi jv il:Tr}{Cl:Array Goroutine}{a a' b b':Goroutine}{u:Trace}{sl:Option (Nat × Nat)}{es:Array Event}
def gU(h:∃a b,runT K.P (crowd gs w sl) c=(.next (crowd a w' sl),b)/\a.size=gs.size/\J K L Az Post S' c x' y' jv il a a' b' w' (t++b) q)(d:∀n,Og (mu n x' y' jv il)<|mu n x y fG gi) :
  Next K Az Post c (runT K.P (crowd gs w sl) c) t gs.size (mu (sumTo gs.size q) x y fG gi):=by have⟨a,b,e,g,f⟩:=h;exact .inr ⟨L,S',x',y',jv,il,a,a',b',w',sl,q,b,e,g,f,.single<|d _⟩
def kj(h:y'=y\/(y=.blk/\y'=.w3)):y'.early=y.early:=by rcases h with rfl|⟨rfl,rfl⟩<;>rfl
def SN(h:R7 K w' e):(∀z,(MemAct.ofEvent e).touch?=some z->Vx K.Shun (K.TV w') K.iJ z)/\e.loc≠.mark .disable/\e.loc≠.mark .enable:=by
 rcases h with ⟨ad,wr,rfl,hk⟩|⟨b,wr,rfl,hk⟩
 .refine⟨λz a=>?_,iq,iq⟩;rw[ofEvent_cell0] at a;simp[MemAct.touch?,xH] at a;subst a;rcases hk with hk|⟨hk,rfl⟩
  .exact .inl<|.inl ⟨ad,O,hk⟩
  .exact .inr<|.inl ⟨⟨ad,O,hk⟩,O⟩
 .refine⟨λz a=>?_,iq,iq⟩;have c:z.loc=.obj b:=by cases wr<;>(simp[MemAct.ofEvent,MemAct.touch?] at a;rw[<-a])
  exact .inl<|.inr<|.inr ⟨b,c,hk⟩
def Bt(F:K.Fit)(d:K.N0<=w.heap.size)(f:∀b,S b->K.fj w b){z:Touch}(h:Vx K.Shun (K.lE S) K.iJ z):l8 w.heap.size z.loc:=by
 refine⟨λg e=>?_,λb e=>?_⟩
 .rcases h with (⟨a,c,h⟩|c|⟨a,c,h⟩)|⟨⟨a,c,h⟩,_⟩|⟨h,_⟩
  .rw[e] at c;cases c;exact(f _ h).lt F d
  iterate 2
   .rw[e] at c;cases c
  .rw[e] at c;cases c;exact lL (F.s0 _ h) d
  .have⟨a,c,h⟩:=F.mj _ h;rw[e] at c;cases c;exact lL h d
 .rcases h with (⟨a,c,h⟩|c|⟨a,c,h⟩)|⟨⟨a,c,h⟩,_⟩|⟨h,_⟩
  .rw[e] at c;cases c
  .rw[e] at c;cases c;exact lL F.E0 d
  .rw[e] at c;cases c;exact(f _ h).lt F d
  .rw[e] at c;cases c
  .have⟨a,c,h⟩:=F.mj _ h;rw[e] at c;cases c
theorem SP(F:K.Fit)(h:ConcN.EvW K.Wg (Sc K S) (RdK K) 1 e):(∀z,(MemAct.ofEvent e).touch?=some z->Vx K.Shun (K.lE S) K.iJ z)/\e.loc≠.mark .disable/\e.loc≠.mark .enable:=by
 obtain ⟨h1,h2,h3,_⟩:=h;refine ⟨λz hz=>?_,h2,h3⟩;rcases (h1 0 "").2 z hz with ⟨⟨ad,e1,e2⟩,k1,k2⟩ | k | ⟨k1,k2⟩
 .refine .inr<|.inr ⟨by rw[e1]; exact F.RI ad e2,?_⟩;cases e:z.kind<;>simp_all
 .exact .inl k
 .exact .inr<|.inl ⟨k1,k2⟩
def uJ.K9(F:K.Fit)(hS:∃w,∀b,S b->K.fj w b)(h:uJ K S c false t)(FG:∀e∈es,∀z,(MemAct.ofEvent e).touch?=some z->Vx K.Shun (K.lE S) K.iJ z):uJ K S c false (t++MemOp.ofEvents c fn pos es) :=
 PT.K9 (F.apart hS) h ki (λop lz z hz=>by obtain⟨e,he,rfl⟩:=Conc.mem_ofEvents lz;exact FG e he z hz)
def xe(a:∀k,k≠b₀->w'.heap[k]?=w.heap[k]?)(c:b₀<K.N0)(b:Nat):K.fj w b↔K.fj w' b:=by
 by_cases e:b=b₀
 .subst e;exact⟨λh=>.inl<|h.low c,λh=>.inl<|h.low c⟩
 .exact⟨λh=>h.of_same<|a b e,λh=>h.of_same (a b e).symm⟩
theorem EB(U:∀e∈es,(∃b c,e=⟨.cell b,c,true⟩/\b.block=K.Wg)\/e.loc=.mark .disable\/e.loc=.mark .enable):∀e∈es,∀z,(MemAct.ofEvent e).touch?=some z->(∃b:Addr,z.loc=.cell b/\b.block=K.Wg):=by
 intro e f z d;rcases U e f with ⟨a,c,rfl,hb⟩|h1|h1
 .have e1:MemAct.ofEvent ⟨.cell a,c,true⟩=.access ⟨.cell a,c,true⟩:=O;simp[MemAct.touch?] at d;grind
 iterate 2
  .have⟨g,c,h⟩:=e;subst h1;cases d
def tf(F:K.Fit)(j:w'.tape=w.tape)(i:w'.os=w.os)(l:w'.output=w.output)(b:∀k,k≠K.C->k≠K.Wg->w'.heap[k]?=w.heap[k]?)(d:w'.heap.size=w.heap.size)
 (o:K.B4 w st sm)(g:K.B4 w' Ou RR)
 (n:(st=KK/\sm=0/\((Ou=KK/\RR=0)\/(Ou=0/\RR=0/\CC K w'))/\(y=.kd\/y=.w1\/y=.w2)) \/
   (sm=0/\(y=.w3\/y=.blk)/\(RR=0/\(Ou=KK+1\/Ou=1\/Ou=0)\/(Ou=0/\RR=1/\CC K w')))\/((∃m,y=.walk m)\/y=.over)):rR K y w w':=by
 have h:ConcX.WgAt K.ty K.Wg w st sm:=o;have a:=g;have c:ConcX.Aside2 K.C K.Wg w w':=⟨j,i,l,d,b⟩;rcases n with ⟨rfl,rfl,XR,hy⟩|⟨rfl,hy,XR⟩|hyr
 .have:mO K w w':=by
   refine⟨c,λ_=>?_,λf=>?_⟩
   .rcases XR with ⟨rfl,rfl⟩|⟨rfl,rfl,hf⟩
    .exact .inl a
    .exact .inr ⟨a,hf⟩
   .exact absurd (h.unique f.1).1 dq
  rcases hy with rfl|rfl|rfl<;>exact this
 .have:E2 K w w':=by
   refine⟨c,λ_=>?_,λf=>?_⟩
   .rcases XR with ⟨rfl,rfl|rfl|rfl⟩|⟨rfl,rfl,hf⟩
    .exact .inl a
    .exact .inr<|.inl a
    .exact .inr<|.inr<|.inl a
    .exact i3 ⟨a,hf⟩
   .exact absurd (h.unique f.1).2 dq
  rcases hy with rfl|rfl<;>exact this
 .have:RM K w w':=⟨j,i,l,λk _ h1 h2=>b k (λe=>h1<|e▸F.kC w)<|λe=>h2<|.inr<|.inr e,Nat.le_of_eq d.symm⟩;rcases hyr with ⟨m,rfl⟩|rfl<;>exact this
section
variable (F:K.Fit)(hety:ConcX.Payload.ety=ConcR.Payload.ety)(Rf:∀g w,Az g w->g.status=.running)
def uK(F:K.Fit)(C:∀g w,Az g w->g.status=.running)(h:J K L Az Post S c x y fG gi gs a b w t q){vs:Vq}(B:x=.fresh vs\/x=.work vs)(M:stepG K.P false b w=.go b' w' es)(d:DK K w w' es)(G:EL K (K.fj w') x jv b' w')(R:Sub jv fG) :
  Next K Az Post c (runT K.P (crowd gs w sl) c) t gs.size (mu (sumTo gs.size q) x y fG gi):=by
 have⟨st,sm,V,hw⟩:=h.pair;have Q:RM K w w':=⟨d.tape,d.os,d.output,λk Z p _=>d.block k Z p,d.grow⟩;have f:y.early=true/\rR K y w w':=by rcases B with rfl|rfl<;>cases y using Ma.cD<;>first|exact V.elim|exact⟨rfl,Q⟩
 have v:=h.size f.1;have U:∃s,w'.heap[K.A]?=some (.chan 0 #[] false s s false):=by have⟨s,R⟩:=h.y7;exact⟨s,(d.block _ (lL F.A0 v)<|F.kA w).trans R⟩
 have D:w'.heap[K.E]?=some (.chan 0 #[] x.shut 0 0 false):=(d.block _ (lL F.E0 v)<|F.kE w).trans h.Ck;have r:x.shut=false:=by rcases B with rfl|rfl<;>rfl
 have o:x.rel=false:=by rcases B with rfl|rfl<;>rfl
 have I:x.deaf=0:=by rcases B with rfl|rfl<;>rfl
 have⟨y',X,N,u⟩:=(h.ma.rely f.2).woken C (g:=b) (g':=b') U (λ_=>by rw[r] at D;exact D);have m:∀e∈es,_:=λe n=>SN<|d.evs e n;have O:K.N0<=w'.heap.size:=lT v d.grow;refine gU (gR (S':=K.fj w') h M N (lK u) (kj u) G ⟨st,sm,ia u V,(d.block _ (lL F.W0 v)<|F.kW w).trans hw⟩ U D ?_ (λW=>by rw[o] at W;cases W)
  (λ_ _=>Iff.rfl) (λ_ l=>.inl l) ⟨w',λ_ l=>l⟩ d.grow (λz=>by rw[f.1] at z;cases z) (λ_ e n z T=>Bt F O (λ_ l=>l)<|(m e n).1 z T) ?_ ?_) λ_=>oa rfl rfl R
 .have⟨Y,H,v⟩:=h.pay;exact⟨Y,d.keep.trans H,v⟩
 .have:=h.tr;rw[o] at this |-;refine uJ.K9 F ⟨w',λ_ l=>l⟩ (this.grow (λb l=>d.stay b<|(h.qi f.1 b).1 l)<|λi z T p=>?_) λe n=>(m e n).1;rcases h.oK f.1 i z T with Ro|Ro|Ro
  .refine .inl ?_;rcases p with ⟨ad,e,p⟩|e|⟨b,e,p⟩
   .refine .inl ⟨ad,e,(h.qi f.1 _).2 ?_⟩;by_cases j:K.fj w ad.block
    .exact j
    .exact p.of_same (d.block _ (Ro.1 ad e) j).symm
   .exact .inr<|.inl e
   .refine .inr<|.inr ⟨b,e,(h.qi f.1 _).2 ?_⟩;by_cases j:K.fj w b
    .exact j
    .exact p.of_same (d.block _ (Ro.2 b e) j).symm
  .exact .inr<|.inl ⟨rfl,Ro⟩
  .exact .inr<|.inr Ro
 .rw[I];exact deafBehind_still (λe n=>⟨(m e n).2.1,(m e n).2.2⟩) _
theorem AM(F:K.Fit)(Rf:∀g w,Az g w->g.status=.running)(h:J K L Az Post S c x y fG gi gs a b w t q)(hx:x=.fresh []\/x=.work [])(hs:AtClose K b w):Next K Az Post c (runT K.P (crowd gs w sl) c) t gs.size (mu (sumTo gs.size q) x y fG gi):=by
 have⟨hrunb,ZK,hwake,g',hrun',w8,HH⟩:=hs;have⟨st,sm,hp,hw⟩:=h.pair;have XO:x.shut=false:=by rcases hx with rfl|rfl<;>rfl
 have aby:x.rel=false:=by rcases hx with rfl|rfl<;>rfl
 have hdf:x.deaf=0:=by rcases hx with rfl|rfl<;>rfl
 have hE:=h.Ck;rw[XO] at hE;have off:∀k,k≠K.E->(w.setChan K.E 0 #[] true 0 0 false).heap[k]?=w.heap[k]?:=λk hk=>heap_setChan_ne w _ _ _ _ _ _<|Ne.symm hk;have hA:∃s,(w.setChan K.E 0 #[] true 0 0 false).heap[K.A]?=some (.chan 0 #[] false s s false):=by have⟨s,hs⟩:=h.y7;exact⟨s,(off _ F.AE).trans hs⟩
 have hrm:RM K w (w.setChan K.E 0 #[] true 0 0 false):=⟨O,O,O,λk _ _ hk=>off k<|λe=>hk<|.inr<|.inl e,by simp[World.setChan]⟩;have XV:K.B4 (w.setChan K.E 0 #[] true 0 0 false) st sm:=(off _<|Ne.symm F.EW).trans hw;have XS:st=KK/\sm=0:=by rcases hx with rfl|rfl<;>cases y using Ma.cD<;>first|exact hp.elim|exact hp.2
 obtain⟨rfl,rfl⟩:=XS;have Jx:∃il,CF K L Az Post (.walk []) il (Conc.woken K.P b g' (w.setChan K.E 0 #[] true 0 0 false) a) (w.setChan K.E 0 #[] true 0 0 false):=by
  have L9:(∃τ,fH K.P true (RM K) (DM K) (mK K Az []) τ a w)\/(∃S9 jE,a=parked jE K.cases .select/\qL K Az [] S9 jE w):=by
   have Jx:=h.ma;rcases hx with rfl|rfl
   .cases y using Ma.cD with
    | front vs=>obtain rfl:vs=[]:=hp.1;exact .inl ⟨_,Jx⟩
    | gg vs=>obtain rfl:vs=[]:=hp.1;exact .inr Jx
    | _=>exact hp.elim
   .cases y using Ma.cD with
    | walk vs=>obtain rfl:vs=[]:=hp.1;exact .inl ⟨_,Jx⟩
    | gg vs=>obtain rfl:vs=[]:=hp.1;exact .inr Jx
    | _=>exact hp.elim
  rcases L9 with ⟨τ,ZV⟩|⟨S9,jE,rfl,TB⟩
  .rw[woken_run (dH iS (λ_ _=>mK.run) ZV)];exact⟨τ,eK (R:=RM K) (λ_ _ _=>RM.trans) ZV hrm⟩
  .have e1:Conc.woken K.P b g' (w.setChan K.E 0 #[] true 0 0 false) (parked jE K.cases .select)={ parked jE K.cases .select with status:=.running }:=by unfold Conc.woken;rw[ip gq];exact again_some_closed (k:=1) (c:=K.E) (z:=K.zE) O<|heap_setChan_self w hE _ _ _ _ _ _
   rw[e1];exact⟨.leaf,.leaf λaK cO=>(TB.rely<|hrm.trans cO).tries⟩
 have⟨il,Jx⟩:=Jx;have O6:RC K w (w.setChan K.E 0 #[] true 0 0 false):=λk hk=>off k (by rintro rfl;exact hk.elim (F.kE w) F.sE);have⟨jv,VM⟩:=HH _ O6 ⟨_,_,XV⟩;have ZU:y.early=true:=by rcases hx with rfl|rfl<;>cases y using Ma.cD<;>first|exact hp.elim|rfl
 have ZM:∀b,K.fj w b↔K.fj (w.setChan K.E 0 #[] true 0 0 false) b:=xe off F.E0;have vC:(w.setChan K.E 0 #[] true 0 0 false).heap.size=w.heap.size:=by simp[World.setChan]
 have Xf:∀e∈closeEvents K.E,∀z,(MemAct.ofEvent e).touch?=some z->Vx K.Shun (K.TV<|w.setChan K.E 0 #[] true 0 0 false) K.iJ z:=λe he z hz=>by
  simp only[closeEvents,List.mem_toArray,oc,zL,or_false] at he;rcases he with rfl|rfl
  .simp only[MemAct.ofEvent,MemAct.touch?,xH] at hz;subst hz;exact .inl<|.inr<|.inl O
  .simp[MemAct.ofEvent,MemAct.touch?] at hz
 refine gU (gR (x':=.r0) (S':=K.fj<|w.setChan K.E 0 #[] true 0 0 false) h (w8 hE) Jx (by rcases hx with rfl|rfl<;>cases y using Ma.cD<;>first|exact hp.elim|rfl) (by rw[ZU];rfl) VM ⟨_,_,⟨O,O,O⟩,XV⟩ hA (heap_setChan_self w hE _ _ _ _ _ _) ?_ (λhr=>by cases hr)
  (λ_ _=>Iff.rfl) (λ_ hb=>.inl hb) ⟨_,λ_ hb=>hb⟩ (Nat.le_of_eq vC.symm) (λz=>by rw[ZU] at z;cases z) (λ_ e he z hz=>Bt F gq (λ_ hb=>hb)<|Xf e he z hz) ?_ ?_) λ_=>v5 (by rcases hx with rfl|rfl<;>rfl) (by rcases hx with rfl|rfl<;>simp[Ch.iY,Ch.on])
 .have⟨cs,ER,hn⟩:=h.pay;exact⟨cs,(O6 K.C<|.inl<|F.kC w).trans ER,hn⟩
 .have:=h.tr;rw[aby] at this;exact uJ.K9 F ⟨_,λ_ hb=>hb⟩ (this.grow (λb hb=>(ZM b).1<|(h.qi ZU b).1 hb)<|λi z hz hk=>.inl<|Cfg.lE.mono (λb hb=>(h.qi ZU b).2<|(ZM b).2 hb) hk) Xf
 .rw[hdf];rfl
def l9(Rf:∀g w,Az g w->g.status=.running)(h:J K L Az Post S c x y fG gi gs a b w t q)(hx:x.shut=true)(hp:na x y st sm)(hr:rR K y w w')(hA:∃s,w'.heap[K.A]?=some (.chan 0 #[] false s s false)) :
  ∃y' il,CF K L Az Post y' il (Conc.woken K.P b b' w' a) w'/\(y'=y\/(y=.blk/\y'=.w3)) :=
 (h.ma.rely hr).woken Rf hA (λ⟨vs,e⟩=>by subst e;rw[vf hp] at hx;cases hx)
def Ls(F:K.Fit)(r:∀g w,Az g w->g.status=.running)(h:J K L Az Post S c .r0 y fG gi gs a b w t q)(x:stepG K.P false b w=.go b' w' es)(Q:DJ K S w w' es)(u:EL K S .r0 jv b' w')(D:Sub jv fG) :
  Next K Az Post c (runT K.P (crowd gs w sl) c) t gs.size (mu (sumTo gs.size q) .r0 y fG gi):=by
 have⟨d,v⟩:=Q;have⟨M,I,f,H⟩:=h.pair;have i:=d.block;have G:∃s,w'.heap[K.A]?=some (.chan 0 #[] false s s false):=by have⟨s,D⟩:=h.y7;exact⟨s,(i K.A<|λe=>F.k0A<|by rw[e];exact F.On).trans D⟩
 have p:=(i _<|Ne.symm F.CW).trans H;have o:rR K y w w':=by
  refine tf F d.tape d.os d.output (λk h1 _=>i k h1) d.size H p ?_;cases y using Ma.cD with
  | walk vs=>exact .inr<|.inr<|.inl ⟨vs,Y⟩
  | over=>exact i3 Y
  | kd=>exact .inl ⟨f.1,f.2,.inl f,.inl Y⟩
  | w1=>exact .inl ⟨f.1,f.2,.inl f,.inr<|.inl Y⟩
  | w2=>exact .inl ⟨f.1,f.2,.inl f,.inr<|.inr Y⟩
  | w3=>exact .inr<|.inl ⟨f.2,.inl Y,.inl ⟨f.2,.inl f.1⟩⟩
  | blk=>exact .inr<|.inl ⟨f.2,.inr Y,.inl ⟨f.2,.inl f.1⟩⟩
  | _=>exact f.elim
 have⟨V,N,B,m⟩:=l9 (b':=b') r h Y f o G;have j:∀e∈es,_:=λe l=>SP F<|v e l;have n:=xe i<|F.c0 _ F.On;refine gU (gR h x B (lK m) (kj m) u ⟨M,I,ia m f,p⟩ G ((i K.E<|λe=>F.k0E<|by rw[e];exact F.On).trans h.Ck) (d.pay h.pay) (λR=>by cases R)
  (λz b=>(h.qi z b).trans<|n b) h.ui h.of (Nat.le_of_eq d.size.symm) (λz=>(h.vE z).2) (λz e l U T=>Bt F (by rw[d.size];exact h.size z) (λb O=>(n b).1<|(h.qi z b).1 O)<|(j e l).1 U T) ?_ ?_) λ_=>oa Y Y D
 .exact uJ.K9 F h.of h.tr λe l=>(j e l).1
 .exact deafBehind_still (λe l=>⟨(j e l).2.1,(j e l).2.2⟩) _
def wJ(F:K.Fit)(j:ConcX.Payload.ety=ConcR.Payload.ety)(o:∀g w,Az g w->g.status=.running)(h:J K L Az Post S c .r0 y fG gi gs a b w t q)(N:Cw K b w):Next K Az Post c (runT K.P (crowd gs w sl) c) t gs.size (mu (sumTo gs.size q) .r0 y fG gi):=by
 have⟨_,n,H,r,m,I⟩:=N;have⟨T,R,u,O⟩:=h.pair;have⟨W,E,s,f⟩:=l9 (b':=H) o h Y u (rR.at y w w.drawn) h.y7;have⟨U,A⟩:=cY I;have d:CC K w:=by
  intro _;have⟨G,i,M⟩:=h.pay;have h1:w.cell? ⟨K.C,0,none⟩=some K.val:=n;rw[j];rw[i];simp[World.cell?,i,Option.isSome_none,lI,if_false] at h1;have⟨l⟩:=G;match l,M with
  | [v],_ =>simp[LY,OX,xH] at h1;rw[h1]
 have p:=h.dc;refine gU (gR (x':=.k1) h r s (lK f) (kj f) A ⟨T,R,ia f (by cases y using Ma.cD<;>first|exact u|exact u.elim),O⟩ h.y7 h.Ck h.pay (λ_=>d) h.qi h.ui h.of lr (λz=>(h.vE z).2) (λ_ e D z Q=>by rw[H2] at D;subst D;cases Q) ?_ Y) λ_=>v5 Y (by simp[Ch.iY,Ch.on]);have B:MemOp.ofEvents c b.frame.fn b.frame.place #[ConcR.mk (.releaseMerge<|ConcR.stA K.Wg)]=#[{ g:=c,fn:=b.frame.fn,pos:=b.frame.place,act:=.mark (.releaseMerge K.Em) }]:=by simp[MemOp.ofEvents,MemAct.ofEvent,ConcR.mk,ConcR.stA,Cfg.Em]
 refine⟨t.size,?_,(ConcN.RelBy.new p b.frame.fn b.frame.place),λk V e=>?_⟩
 .rw[B];exact PT.release h.tr Y Y
 .have:=lt_of_act? e;rw[B] at this;simp at this;omega
def lW(F:K.Fit)(f:∀g w,Az g w->g.status=.running)(h:J K L Az Post S c x y fG gi gs a b w t q)(s:x.shut=true)(j:stepG K.P false b w=.go b' w' es)(n:R6 w w' es)(i:EL K S x jv b' w')(p:Sub jv fG) :
  Next K Az Post c (runT K.P (crowd gs w sl) c) t gs.size (mu (sumTo gs.size q) x y fG gi):=by obtain⟨rfl,rfl⟩:=n;have⟨v,u,l,r⟩:=h.pair;have⟨A,m,k,d⟩:=l9 (b':=b') f h s l (rR.at y w' w'.drawn) h.y7;refine gU (gR h j k (lK d) (kj d) i ⟨v,u,ia d l,r⟩ h.y7 h.Ck h.pay h.full h.qi h.ui h.of lr (λz=>(h.vE z).2) (λ_ e o=>by simp at o) ?_ O) λ_=>oa O O p;exact h.tr
theorem uJ.I7(F:K.Fit)(p:∃w,∀b,S b->K.fj w b)(h:uJ K S c true t)(A:Deaf t c=1)(U:∀e∈es,(∃a d,e=⟨.cell a,d,true⟩/\a.block=K.Wg)\/e.loc=.mark .disable\/e.loc=.mark .enable)
 (x:∀j e,es[j]?=some e->(MemAct.ofEvent e).touch?=none\/((∃a d,e=⟨.cell a,d,true⟩)/\0<deafBehind 1 (es.extract 0 j))):uJ K S c true (t++MemOp.ofEvents c fn pos es):=by
 have⟨r,u,n,o⟩:=h;refine⟨r,PT.I7 u n.g ki<|λv l z f=>?_,n.appOwn fn pos es gq,λk q e=>?_⟩
 .obtain⟨e,i,rfl⟩:=Conc.mem_ofEvents l;rcases U e i with ⟨a,d,rfl,hb⟩|h1|h1
  .have e1:MemAct.ofEvent ⟨.cell a,d,true⟩=.access ⟨.cell a,d,true⟩:=O;rw[e1] at f;simp[MemAct.touch?,xH] at f;subst f;exact⟨F.RI a hb,O⟩
  iterate 2
   .have⟨y,d,B⟩:=e;subst h1;cases f
 .have⟨v,s,m⟩:=sT.1 e;rcases getElem?_append_cases s with ⟨_,Ol⟩|⟨_,Ty⟩
  .exact o k q<|by rw[act?_of Ol,m]
  .obtain⟨e,i,rfl⟩:=Conc.mem_ofEvents Ty;exact(z6 F p U).2 e i m
theorem jx(F:K.Fit)(m:∀g w,Az g w->g.status=.running)(h:J K L Az Post S c x y fG gi gs a b w t q)(G:x.shut=true)(ah:x.rel=true)(Z:x'.shut=true)(ai:x'.rel=true)(hp:na x y st sm)(hw:K.B4 w st sm)(R:stepG K.P false b w=.go b' w' es)
 (U:Aside K.Wg w w')(Y:K.B4 w' Ou RR)(I:rR K y w w')(M:EL K S x' jv b' w')(V:∀d,(d=y\/(y=.blk/\d=.w3))->(d=.blk->y=.blk/\(mayWake K.P b=true->b'.status=.blocked\/b'.status=.waiting))->na x' d Ou RR)
 (j:x'.left=x.left)(X:x'.iY<x.iY)(Q:∀e∈es,∀z,(MemAct.ofEvent e).touch?=some z->(∃l:Addr,z.loc=.cell l/\l.block=K.Wg))
 (aj:uJ K S c true (t++MemOp.ofEvents c b.frame.fn b.frame.place es))(O:deafBehind x.deaf es=x'.deaf):Next K Az Post c (runT K.P (crowd gs w sl) c) t gs.size (mu (sumTo gs.size q) x y fG gi):=by
 have D:∃s,w'.heap[K.A]?=some (.chan 0 #[] false s s false):=by have⟨s,hs⟩:=h.y7;exact⟨s,(U.block _ F.AW).trans hs⟩
 have⟨d,H,r,i⟩:=l9 (b':=b') m h G hp I D;have u:=U.block K.C F.CW;have hE:w'.heap[K.E]?=some (.chan 0 #[] x'.shut 0 0 false):=by rw[Z,<-G];exact(U.block _ F.EW).trans h.Ck
 have T:=xe U.block F.W0;refine gU (gR h R r (lK i) (kj i) M ⟨Ou,RR,V d i ?_,Y⟩ D hE ?_ (λ_=>ConcX.ChanAt.of_block (h.full ah) u)
  (λz b=>(h.qi z b).trans<|T b) h.ui h.of (Nat.le_of_eq U.size.symm) (λz=>(h.vE z).2) (λz e he z' hz=>by have⟨l,j,n⟩:=Q e he z' hz;refine⟨λW f=>?_,λb f=>?_⟩;(rw[j] at f;cases f;rw[n,U.size];exact lL F.W0<|h.size z);(rw[j] at f;cases f)) gq O) λ_=>v5 j X
 .rintro rfl;have p:=i.elim (λe=>e.symm)<|λe=>e.1;subst p;refine⟨rfl,λhmw=>?_⟩;have⟨v,e,hs2,ho2,_⟩:=r;obtain⟨B,rfl,k,o,_⟩:=h.ma;by_cases n:b'.status=.blocked\/b'.status=.waiting
  .exact n
  .exfalso;unfold Conc.woken at e;rw[ip gq,ConcX.again_blocked k o] at e;rw[e] at k;cases k
 .have⟨cs,N,hn⟩:=h.pay;exact⟨cs,u.trans N,hn⟩
def lS(w:World)(a:Addr)(v:Value):Aside a.block w (w.setCell a v):=⟨O,O,O,by simp,λk b=>RowKit.Below.heap_setCell _ _ _ _ b⟩
def Lr(F:K.Fit)(i:∀g w,Az g w->g.status=.running)(h:J K L Az Post S c .k1 y fG gi gs a b w t q)(r:QJ K b w):Next K Az Post c (runT K.P (crowd gs w sl) c) t gs.size (mu (sumTo gs.size q) .k1 y fG gi):=by have⟨_,x,j,m,p⟩:=r;have⟨B,A,k,o⟩:=h.pair;have⟨v,n⟩:=cY p;refine jx (x':=.d1) F i h O O O O k o j (Aside.refl _ _) o (rR.at y w w.drawn) n (λC l _=>ia l (by cases y using Ma.cD<;>first|exact k|exact k.elim)) rfl (by simp[Ch.iY,Ch.on]) (λe d z s=>by rw[H2] at d;subst d;cases s) ?_ O;exact h.tr.mute (λu f=>by obtain⟨e,d,rfl⟩:=Conc.mem_ofEvents f;rw[H2] at d;subst d;rfl)<|λu f=>by obtain⟨e,d,rfl⟩:=Conc.mem_ofEvents f;rw[H2] at d;subst d;exact λz=>by cases z
def GR:∀e∈(#[ConcR.rd (ConcR.stA K.Wg),ConcR.wr<|ConcR.stA K.Wg]:Array Event),(∃a c,e=⟨.cell a,c,true⟩/\a.block=K.Wg)\/e.loc=.mark .disable\/e.loc=.mark .enable:=by intro e b;simp[List.mem_toArray,oc,zL,or_false] at b;rcases b with rfl|rfl<;>exact .inl ⟨_,_,rfl,rfl⟩
theorem Lm(F:K.Fit)(Rf:∀g w,Az g w->g.status=.running)(h:J K L Az Post S c .d1 y fG gi gs a b w t q)(hs:QG K b w):Next K Az Post c (runT K.P (crowd gs w sl) c) t gs.size (mu (sumTo gs.size q) .d1 y fG gi):=by
 have⟨_,w8⟩:=hs;have⟨st,sm,hp,hw⟩:=h.pair;have L9:(st=KK/\sm=0/\((y=.kd\/y=.w1\/y=.w2)\/(y=.walk []\/y=.over)))\/(st=KK+1/\sm=0/\(y=.w3\/y=.blk)):=by
  cases y using Ma.cD with
  | walk vs=>obtain⟨rfl,h1,h2⟩:=hp;exact .inl ⟨h1,h2,.inr<|.inl O⟩
  | over=>exact .inl ⟨hp.1,hp.2,.inr<|.inr O⟩
  | kd=>exact .inl ⟨hp.1,hp.2,.inl<|.inl O⟩
  | w1=>exact .inl ⟨hp.1,hp.2,.inl<|.inr<|.inl O⟩
  | w2=>exact .inl ⟨hp.1,hp.2,.inl<|.inr<|.inr O⟩
  | w3=>exact .inr ⟨hp.1,hp.2,.inl O⟩
  | blk=>exact .inr ⟨hp.1,hp.2,.inr O⟩
  | _=>exact hp.elim
 have VT:uJ K S c true (t++MemOp.ofEvents c b.frame.fn b.frame.place #[ConcR.rd (ConcR.stA K.Wg),ConcR.wr<|ConcR.stA K.Wg]):=by
  refine uJ.I7 F h.of h.tr h.dc GR<|λj e he=>.inr ?_;rcases j with _|_|j
  .simp at he;subst he;exact⟨⟨_,_,O⟩,by simp[deafBehind]⟩
  .simp at he;subst he;exact⟨⟨_,_,O⟩,by simp[deafBehind,ConcR.rd]⟩
  .simp at he
 have eC:∀v,(w.setCell _ v).heap[K.C]?=w.heap[K.C]?:=λv=>(lS w (ConcR.stA K.Wg) v).block _ F.CW;rcases L9 with ⟨rfl,rfl,hy⟩|⟨rfl,rfl,hy⟩
 .have⟨g',hgo,_,hq⟩:=w8 0 0 oq oq (by exact hw);have⟨n,hq⟩:=hq iq;have TF:=ConcX.WgAt.setSt (show ConcX.WgAt K.ty K.Wg w KK 0 from hw) 0;have Tl:stepG K.P false b w=.go g' (w.setCell (ConcR.stA K.Wg)<|.int .u64 0) #[ConcR.rd (ConcR.stA K.Wg),ConcR.wr<|ConcR.stA K.Wg]:=gq
  have FD:=lS w (ConcR.stA K.Wg)<|.int .u64 0;refine jx (x':=.quit n 1) F Rf h O O O O hp hw Tl FD TF ?_ ⟨hq,O⟩ (λy' hyy _=>ia hyy ?_) O (by simp[Ch.iY,Ch.on]) (EB GR) VT O
  .refine tf F O O O (λk _ h2=>FD.block k h2) FD.size hw TF ?_;rcases hy with hy|rfl|rfl
   .exact .inl ⟨O,O,.inr ⟨O,O,ConcX.ChanAt.of_block (h.full O)<|eC _⟩,hy⟩
   .exact .inr<|.inr<|.inl ⟨_,O⟩
   .exact i3 O
  .rcases hy with (rfl|rfl|rfl)|rfl|rfl<;>first|exact⟨rfl,rfl⟩|exact⟨rfl,rfl,rfl⟩
 .have⟨g',hgo,hm,_⟩:=w8 0 1 oq oq (by exact hw);have⟨m,hG⟩:=hm ⟨O,O⟩;have TF:=ConcX.WgAt.setSt (show ConcX.WgAt K.ty K.Wg w _ 0 from hw) 1;have Tl:stepG K.P false b w=.go g' (w.setCell (ConcR.stA K.Wg)<|.int .u64 1) #[ConcR.rd (ConcR.stA K.Wg),ConcR.wr<|ConcR.stA K.Wg]:=gq
  have FD:=lS w (ConcR.stA K.Wg)<|.int .u64 1;have hG':Goes K.P false (RWk K) R6 (KV K) m g' (w.setCell (ConcR.stA K.Wg)<|.int .u64 1):=gq
  have⟨τ,ZV⟩:=cY hG';refine jx (x':=.d2) F Rf h O O O O hp hw Tl FD TF ?_ ZV (λy' hyy _=>ia hyy ?_) O (by simp[Ch.iY,Ch.on]) (EB GR) VT O
  .exact tf F O O O (λk _ h2=>FD.block k h2) FD.size hw TF<|.inr<|.inl ⟨O,hy,.inl ⟨O,.inr<|.inl O⟩⟩
  .rcases hy with rfl|rfl<;>exact⟨rfl,rfl⟩
def MS{wr:Bool}{j:Nat}(a:(#[(⟨.cell<|ConcR.stA K.Wg,wr,true⟩:Event)])[j]?=some e) :
  (MemAct.ofEvent e).touch?=none\/((∃b wr,e=⟨.cell b,wr,true⟩)/\0<deafBehind 1 ((#[(⟨.cell<|ConcR.stA K.Wg,wr,true⟩:Event)]).extract 0 j)):=by
 rcases j with _|j
 .simp at a;subst a;exact .inr ⟨⟨_,_,O⟩,by simp[deafBehind]⟩
 .simp at a
def Ln(F:K.Fit)(k:∀g w,Az g w->g.status=.running)(h:J K L Az Post S c .d2 y fG gi gs a b w t q)(s:KV K b w):Next K Az Post c (runT K.P (crowd gs w sl) c) t gs.size (mu (sumTo gs.size q) .d2 y fG gi):=by
 have⟨_,f⟩:=s;have⟨x,v,i,n⟩:=h.pair;have u:x=1/\v=0:=by cases y using Ma.cD<;>first|exact i|exact i.elim
 obtain⟨rfl,rfl⟩:=u;have⟨A,l,m,r⟩:=f n;have⟨z,p⟩:=cY r;exact jx (x':=.d3) F k h O O O O i n l (Aside.refl _ _) n (rR.at y w w.drawn) p (λB o _=>ia o (by cases y using Ma.cD<;>first|exact i|exact i.elim)) rfl (by simp[Ch.iY,Ch.on]) (EB λe d=>by rw[H2] at d;subst d;exact .inl ⟨_,_,O,O⟩) (uJ.I7 F h.of h.tr h.dc (λe d=>by rw[H2] at d;subst d;exact .inl ⟨_,_,O,O⟩)<|λj e d=>MS d) O
def Lp(F:K.Fit)(r:∀g w,Az g w->g.status=.running)(h:J K L Az Post S c .d3 y fG gi gs a b w t q)(z:QH K b w):Next K Az Post c (runT K.P (crowd gs w sl) c) t gs.size (mu (sumTo gs.size q) .d3 y fG gi):=by
 have⟨_,i⟩:=z;have⟨B,A,l,o⟩:=h.pair;have p:B=1/\A=0/\(y=.w3\/y=.blk):=by
  cases y using Ma.cD with
  | w3=>exact⟨l.1,l.2,.inl O⟩
  | blk=>exact⟨l.1,l.2,.inr O⟩
  | _=>exact l.elim
 obtain⟨rfl,rfl,p⟩:=p;have⟨D,s,m,x⟩:=i o;have⟨C,v⟩:=cY x;have n:=ConcX.WgAt.setSt (show ConcX.WgAt K.ty K.Wg w 1 0 from o) 0;have d:=lS w (ConcR.stA K.Wg)<|.int .u64 0;refine jx (x':=.d4) F r h O O O O l o s d n ?_ v (λE u _=>ia u (by rcases p with rfl|rfl<;>exact⟨rfl,rfl⟩)) O (by simp[Ch.iY,Ch.on]) (EB λe f=>by rw[H2] at f;subst f;exact .inl ⟨_,_,O,O⟩) ?_ O
 .exact tf F O O O (λk _ h2=>d.block k h2) d.size o n<|.inr<|.inl ⟨O,p,.inl ⟨O,.inr<|.inr O⟩⟩
 .exact uJ.I7 F h.of h.tr h.dc (λe f=>by rw[H2] at f;subst f;exact .inl ⟨_,_,O,O⟩)<|λj e f=>MS f
def Lq(F:K.Fit)(s:∀g w,Az g w->g.status=.running)(h:J K L Az Post S c .d4 y fG gi gs a b w t q)(D:QI K b w):Next K Az Post c (runT K.P (crowd gs w sl) c) t gs.size (mu (sumTo gs.size q) .d4 y fG gi):=by
 have⟨_,l,i⟩:=D;have⟨G,E,m,p⟩:=h.pair;have r:G=0/\E=0/\(y=.w3\/y=.blk):=by
  cases y using Ma.cD with
  | w3=>exact⟨m.1,m.2,.inl O⟩
  | blk=>exact⟨m.1,m.2,.inr O⟩
  | _=>exact m.elim
 obtain⟨rfl,rfl,r⟩:=r;have⟨I,u,n,x⟩:=i p;have o:=ConcX.WgAt.setSm (show ConcX.WgAt K.ty K.Wg w 0 0 from p) 1;have d:=lS w (ConcR.smA K.Wg)<|.int .u32 1;have A:=d.block _ F.CW;refine jx (x':=.quit n 1) F s h O O O O m p u d o ?_ ⟨x,O⟩ (λH v B=>?_) O (by simp[Ch.iY,Ch.on]) (EB GB) ?_ O
 .exact tf F O O O (λk _ h2=>d.block k h2) d.size p o<|.inr<|.inl ⟨O,r,.inr ⟨O,O,ConcX.ChanAt.of_block (h.full O) A⟩⟩
 .have:H=.w3:=by
   rcases v with rfl|⟨_,rfl⟩
   .rcases r with rfl|rfl
    .rfl
    .have:=(B O).2 l;rcases x.status with e|e<;>rw[e] at this<;>rcases this with z|z<;>cases z
   .rfl
  subst this;exact⟨O,O⟩
 .refine uJ.I7 F h.of h.tr h.dc GB<|λj e f=>?_;rcases j with _|_|_|_|j
  .simp[semEvents] at f;subst f;exact .inl O
  iterate 2
   .simp[semEvents] at f;subst f;exact .inr ⟨⟨_,_,O⟩,by simp[semEvents,deafBehind]⟩
  .simp[semEvents] at f;subst f;exact .inl O
  .simp[semEvents] at f
def CU(F:K.Fit)(m:∀g w,Az g w->g.status=.running){d:Nat}(h:J K L Az Post S c (.quit n d) y fG gi gs a b w t q)(f:b.status=.running):Next K Az Post c (runT K.P (crowd gs w sl) c) t gs.size (mu (sumTo gs.size q) (.quit n d) y fG gi):=by
 obtain⟨r,rfl⟩:=h.ch;have⟨B,A,p,v⟩:=h.pair;cases n with
 | zero=>rw[r.1] at f;cases f
 | succ k =>
  rcases r with ⟨hf,_⟩|⟨_,g',es,hm,abC,hq'⟩
  .rw[hf] at f;cases f
  have⟨C,u,o,j⟩:=l9 (b':=g') m h O p (rR.at y w w.drawn) h.y7;refine gU (gR (x':=.quit k<|deafBehind d es) h (abC w) o (lK j) (kj j) ⟨hq',O⟩ ⟨B,A,ia j (by cases y using Ma.cD<;>first|exact p|exact p.elim),v⟩ h.y7 h.Ck h.pay h.full h.qi h.ui h.of lr (λz=>(h.vE z).2) (λ_ e l z s=>by rw[touch_mute (hm e l)] at s;cases s) ?_ O) λ_=>oa O O<|NV (λ_=>.ofNat k) w;exact h.tr.mute (λx i=>by obtain⟨e,l,rfl⟩:=Conc.mem_ofEvents i;exact touch_mute<|hm e l)<|λx i=>by obtain⟨e,l,rfl⟩:=Conc.mem_ofEvents i;exact xk<|hm e l
variable (H:qD K)(OY:∀L,K.N0<=L->∀g w,Az g w->∃m,Goes K.P true (mO K) (tS K L) (oR K L Az Post) m g w)
def J.NP(f:∀g w,Az g w->g.status=.running)(h:J K L Az Post S c x y fG gi gs a b w t q):a.status=.running\/b.status=.running:=by
 have⟨k,j,i,_⟩:=h.pair;rcases h.ma.status f with e|⟨vs,_,rfl,_⟩|⟨_,rfl,_⟩
 .exact .inl e
 iterate 2
  .rcases h.ch.status with e|⟨v,iA,_,rfl,_⟩|⟨n,d,rfl,_⟩
   .exact .inr e
   .exact i.elim
   .exact i.elim
def JW(F:K.Fit)(n:ConcX.Payload.ety=ConcR.Payload.ety)(f:∀g w,Az g w->g.status=.running)(H:qD K)(v:∀L,K.N0<=L->∀g w,Az g w->∃m,Goes K.P true (mO K) (tS K L) (oR K L Az Post) m g w)(h:J K L Az Post S c x y fG gi gs a b w t q)(sl:Option (Nat × Nat)):Next K Az Post c (stepT K.P<|crowd gs w sl) t gs.size (mu (sumTo gs.size q) x y fG gi):=by
 have C:∀g∈gs,awake g:=by
  intro g o;obtain⟨i,k,rfl⟩:=Array.mem_iff_getElem.1 o;have j:=gF k;by_cases s:i=0
  .subst s;rw[h.h0] at j;rw[<-Kh j];rcases h.ma.status f with e|⟨_,_,_,rfl⟩|⟨_,_,rfl,_⟩
   .exact awake_of<|.inl e
   iterate 2
    .exact awake_of<|.inr<|.inl Y
  .by_cases l:i=c
   .subst l;rw[h.hc] at j;rw[<-Kh j];rcases h.ch.status with e|⟨_,_,_,_,rfl⟩|⟨_,_,_,hq⟩
    .exact awake_of<|.inl e
    .exact awake_of<|.inr<|.inl Y
    .exact awake_of<|hq.status.elim .inl λz=>.inr<|.inr z
   .exact awake_of<|(h.old i _ oq l j).status.elim .inl λz=>.inr<|.inr z
 have⟨i,g,d,p,k,o,E⟩:=crowd_pick (P:=K.P) (w:=w) (sl:=sl) C<|(h.NP f).elim (λe=>⟨0,a,h.h0,e⟩)<|λe=>⟨c,b,h.hc,e⟩;have A:=h.at F d;rw[E];by_cases s:i=0
 .subst s;obtain rfl:g=a:=by rw[h.h0] at k;exact(Kh k).symm
  exact yg F H f v A o
 .by_cases l:i=c
  .subst l;obtain rfl:g=b:=by rw[h.hc] at k;exact(Kh k).symm
   have j:∀k,(x=.fresh k\/x=.work k)->pO K k g (w.at d)->Next K Az Post i (runT K.P (crowd gs (w.at d) p) i) t gs.size (mu (sumTo gs.size q) x y fG gi):=by
    intro k C U;cases k with
    | nil=>exact AM F f A C U
    | cons v k =>
     have⟨s,Q,H,I,X,r,D,E,l,e,z,G,u⟩:∃Cl ops x' y' jv il a' b' w',runT K.P (crowd gs (w.at d) p) i=(.next (crowd Cl w' p),ops)/\Cl.size=gs.size/\J K L Az Post S i x' y' jv il Cl a' b' w' (t++ops) q /\ (x'.left<x.left\/(x'.left=x.left/\x'.iY<x.iY)):=by
      have mH:=(oF.1 A.h0).1;have Xv:=(oF.1 A.hc).1;have Ti:i≠0:=by have:=A.pos;omega
      have⟨_,ZK,XR,HH⟩:=U;have VN:stepG K.P (i==0) g (w.at d)=.comm g #[scase K.A v K.zs] true .send (w.at d) #[]:=gq
      have⟨s,hA⟩:=A.y7;have⟨st,sm,hp,hwg⟩:=A.pair;have XF:∀r sd j T,j≠0->(gs.setIfInBounds i ph)[j]?=some T->offersAt T r sd=[]:=by
       intro r sd j T Xq hg;rcases getElem?_stand gs i j T hg with ⟨_,rfl⟩|⟨hj,hg'⟩
       .exact offersAt_ph _ _
       .exact A.sX Xq hj hg' r sd
      by_cases Rp:∃iA,y=.gg iA
      .
       obtain⟨iA,rfl⟩:=Rp;have hvs:iA=v::k:=by rcases C with rfl|rfl<;>exact hp.1
       subst hvs;obtain⟨S9,jE,rfl,TB⟩:=A.ma;have pA:partners (gs.setIfInBounds i ph) K.A false=[(0,0)]:=by
        rw[partners_one (stand_get (Ne.symm Ti) A.h0) (λM z hk hz=>XF _ _ M z hk hz),offersAt_parked_at O (λo cc hm Oi=>by
         rcases o with _|_|o
         .exact absurd O hm
         .simp only[Cfg.cases,LY,List.getElem?_cons_succ,OX,xH] at Oi;subst Oi;simp only[rcase,ne_eq,Value.chan.injEq,xH];exact Ne.symm F.AE
         .simp[Cfg.cases] at Oi)];simp
       have Xw:=crowd_send_meets_sel (sl:=p) A.hc VN hA (Ne.symm Ti) A.h0 O pA;have VM:qR K k _ ((w.at d).setChan K.A 0 #[] false (s+1) (s+1) false):=HH _<|Iv F _;have Xx:yV K Az k _ ((w.at d).setChan K.A 0 #[] false (s+1) (s+1) false):=TB.2.2.2.2 _ (Iw F _) (by simpa[World.setChan] using ZK);rw[uc] at VM;rw[xi] at Xx;have⟨jv,VM⟩:=VM;have⟨il,Xx⟩:=Xx;refine⟨_,_,.work k,.walk k,jv,il,Conc.served jE<|commResult K.cases .select 0 v true,Conc.served g undef,_,Xw,by simp,?_,.inl (by rcases C with rfl|rfl<;>simp[Ch.left,Ch.on])⟩;rw[ofEvents_none,Array.empty_append];refine J.comm F A (by rw[yq Ti,OW mH];rfl) (by rw[OW (by simpa using Xv)];rfl) iq
        (λj hj Xr=>by rw[yq (Ne.symm Xr),yq<|Ne.symm hj])
        (met_mute i 0 _ _ _ _ K.A s 0) (met_quiet i 0 _ _ _ _ K.A s 0) ?_ (λM hk=>heap_setChan_ne (w.at d) _ _ _ _ _ _<|Ne.symm hk) ⟨s+1,heap_setChan_self (w.at d) hA _ _ _ _ _ _⟩ VM Xx ?_ (by rcases C with rfl|rfl<;>rfl) (by rcases C with rfl|rfl<;>rfl) (by rcases C with rfl|rfl<;>rfl) O (by simp[World.setChan]) (λ_=>O) (λz=>by cases z)
       .intro op lz;simp at lz;rcases lz with rfl|rfl|rfl|rfl<;>simp
       .intro st sm Cp;rcases C with rfl|rfl<;>exact⟨rfl,Cp.2⟩
      .
       have TI:y=.front (v::k)\/y=.walk (v::k):=by
        rcases C with rfl|rfl
        .cases y using Ma.cD with
         | front iA=>exact .inl<|congrArg Ma.front hp.1
         | gg iA=>exact absurd ⟨_,O⟩ Rp
         | _=>exact hp.elim
        .cases y using Ma.cD with
         | walk iA=>exact .inr<|congrArg Ma.walk hp.1
         | gg iA=>exact absurd ⟨_,O⟩ Rp
         | _=>exact hp.elim
       have Jx:CF K L Az Post (.walk (v::k)) gi a (w.at d):=by
        rcases TI with rfl|rfl
        .exact A.ma
        .exact A.ma
       have Dp:=dH iS (λ_ _=>mK.run) Jx;have pN:partners (gs.setIfInBounds i ph) K.A false=[]:=by
        refine partners_nil λj T hg=>?_;by_cases Xq:j=0
        .subst Xq;rw[stand_get (Ne.symm Ti) A.h0] at hg;obtain rfl:=Kh hg;exact offersAt_of_not_blocked (λhb=>by rw[Dp] at hb;cases hb) _ _
        .exact XF _ _ j T Xq hg
       refine⟨_,_,.gg v k,.walk (v::k),fG,gi,a,parked g #[scase K.A v K.zs] .send,(w.at d),(crowd_waits A.hc VN<|λcc Oi=>by simp at Oi;subst Oi;exact ways_send_none hA (iz 0) pN),by simp,?_,.inr ⟨by rcases C with rfl|rfl<;>simp[Ch.left,Ch.on],by rcases C with rfl|rfl<;>simp[Ch.iY,Ch.on]⟩⟩;rw[ofEvents_none];refine J.comm F A (by rw[yq Ti];exact A.h0) (OW Xv) iq (λj _ Xr=>yq<|Ne.symm Xr) iq iq iq (λ_ _=>O) ⟨s,hA⟩ ⟨g,O,HH⟩ Jx ?_ (by rcases C with rfl|rfl<;>rfl) (by rcases C with rfl|rfl<;>rfl) (by rcases C with rfl|rfl<;>rfl) (by rcases TI with rfl|rfl<;>rfl) O (λ_=>by rcases TI with rfl|rfl<;>rfl) (λz=>by cases z);intro st sm Cp;rcases C with rfl|rfl<;>rcases TI with rfl|rfl<;>first|exact⟨rfl,Cp.2⟩|exact Cp.elim
     refine .inr ⟨L,S,H,I,X,r,s,D,E,l,p,q,Q,e,z,G,?_⟩;rcases u with u|⟨h1,h2⟩
     .exact .single<|H0 u
     .exact .single<|v5 h1 h2
   cases x using Ch.cD with
   | fresh k =>
    rcases cV A.ch (RC.refl (w.at d)) with U|⟨_,g',l,es,yr,e,R,po,hG⟩
    .exact j k (.inl O) U
    .exact uK F f A (.inl O) e R hG po
   | work k =>
    rcases cV A.ch (RC.refl (w.at d)) with U|⟨_,g',l,es,yr,e,R,po,hG⟩
    .exact j k (.inr O) U
    .exact uK F f A (.inr O) e R hG po
   | gg v k=>obtain⟨B,rfl,_⟩:=A.ch;cases o
   | r0 =>
    rcases cV A.ch (RJ.refl (w.at d)) with U|⟨_,g',l,es,yr,e,R,po,hG⟩
    .exact wJ F n f A U
    .exact Ls F f A e R hG po
   | k1 =>
    rcases cV A.ch (ConcN.RW.refl (w.at d)) with U|⟨_,g',l,es,yr,e,R,po,hG⟩
    .exact Lr F f A U
    .exact lW F f A O e R hG po
   | d1 =>
    rcases cV A.ch (ConcN.RW.refl (w.at d)) with U|⟨_,g',l,es,yr,e,R,po,hG⟩
    .exact Lm F f A U
    .exact lW F f A O e R hG po
   | d2 =>
    rcases cV A.ch (ConcN.RW.refl (w.at d)) with U|⟨_,g',l,es,yr,e,R,po,hG⟩
    .exact Ln F f A U
    .exact lW F f A O e R hG po
   | d3 =>
    rcases cV A.ch (ConcN.RW.refl (w.at d)) with U|⟨_,g',l,es,yr,e,R,po,hG⟩
    .exact Lp F f A U
    .exact lW F f A O e R hG po
   | d4 =>
    rcases cV A.ch (ConcN.RW.refl (w.at d)) with U|⟨_,g',l,es,yr,e,R,po,hG⟩
    .exact Lq F f A U
    .exact lW F f A O e R hG po
   | quit V R=>exact CU F f A o
  .have⟨u,I,O,r,M,N,e,G,B,D⟩:=yQ (sl:=p) F f A k s l o;exact .inr ⟨L,S,x,O,fG,r,u,M,b,_,p,N,I,e,G,B,.single<|.left _ _ D⟩
theorem JV(F:K.Fit)(j:ConcX.Payload.ety=ConcR.Payload.ety)(n:∀g w,Az g w->g.status=.running)(H:qD K)(l:∀L,K.N0<=L->∀g w,Az g w->∃m,Goes K.P true (mO K) (tS K L) (oR K L Az Post) m g w):∀(k:Mu) (L:Nat) (S:Nat->Prop) (x:Ch) (y:Ma) (d f:Tr) (i:Array Goroutine) (a b:Goroutine) (w:World) (t:Trace) (q:Nat->Nat) (sl:Option (Nat × Nat)),k=mu (sumTo i.size q) x y d f->J K L Az Post S c x y d f i a b w t q ->
  ∃N M T,runNT K.P N (crowd i w sl) t=(.next M,T)/\Fin K Post i.size M T:=by
 intro k;induction k using Ub.transGen.induction with
 | _ k ih =>
  rintro L S x y d f i a b w t q sl rfl h;rcases JW F j n H l h sl with ⟨M,ops,e,U⟩|⟨L',S',x',y',jv,il,Cl,a',b',w',Y3,q',ops,e,vC,hJ,mH⟩
  .exact⟨1,M,t++ops,by simp[runNT,e],U⟩
  .have⟨N,M,T,o,U⟩:=ih _ gq L' S' x' y' jv il Cl a' b' w' _ q' Y3 O hJ;exact⟨N+1,M,T,by simp[runNT,e];exact o,by rw[<-vC];exact U⟩
end
end
structure Closed{ι:Type}(P:Program)(main:Bool)(R:ι->Wq)(D:World->World->Array Event->Prop)(X:ι->Gq):Prop where
 rely:∀{vs g w aK},X vs g w->R vs w aK->X vs g aK
 step:∀{vs g w},g.status=.running->(∀aK,R vs w aK->(stepG P main g aK).goes λg' w' es=>D aK w' es/\X vs g' w')->X vs g w
def wy{ι:Type}(X:ι->Gq)(vs:ι)(b:Frame)(k:List Item)(cs:List Frame):Exit->Act->World->Prop
 | .normal,a,w=>X vs (G (b.at a k) cs) w
 | .exit id,a,w=>∃k',exitTo id k=some k'/\X vs (G (b.at a k') cs) w
 | .ret,a,w=>∀todo,X vs (G { b.at a todo with mode:=.returning } cs) w
 | _,_,_=>False
abbrev rP(ι:Type):=ι->Exit->Act->World->Prop
def II{ι:Type}(T:ι->Act->World->Prop)(Q:rP ι):rP ι
 | vs,.normal,a,w=>T vs a w
 | vs,e,a,w=>Q vs e a w
def pu{ι:Type}(id:Nat)(Q:rP ι):rP ι
 | vs,.exit X1,a,w=>if X1=id then Q vs .normal a w else Q vs (.exit X1) a w
 | vs,e,a,w=>Q vs e a w
def qN {ι:Type}(X:ι->Gq)(fn:FuncId)(c:Code)(vs:ι)(Q:rP ι)(a:Act)(w:World):Prop :=
 ∀(b:Frame) (k:List Item) (cs:List Frame),b.fn=fn->b.kind≠.early->(∀iA e a' w',Q iA e a' w'->wy X iA b k cs e a' w')->X vs (G (b.at a (.code c::k)) cs) w
def oU {ι:Type}(X:ι->Gq)(fn:FuncId)(ops:Array Oper)(todo:List Nat)(vs:ι)(Q:rP ι)(a:Act)(w:World):Prop :=
 ∀(b:Frame) (k:List Item) (cs:List Frame),b.fn=fn->b.kind≠.early->(∀iA e a' w',Q iA e a' w'->wy X iA b k cs e a' w')->X vs (G (b.at a (.inRegion ops todo::k)) cs) w
section
variable {ι:Type}{main:Bool}{R:ι->Wq}{D:World->World->Array Event->Prop}{X:ι->Gq}{Q Q':rP ι}{a:Act}{vs:ι}
def Closed.goes(C:Closed P main R D X){g:Goroutine}(a:∀w,R vs w w)(h:Goes P main (R vs) D (X vs) n g w):X vs g w:=by
 induction n generalizing g w with
 | zero=>exact h w<|a w
 | succ n f =>
  rcases h with h|⟨hs,h⟩
  .exact h w<|a w
  .refine C.step hs λb d=>?_;have c:=h b d;cases e:stepG P main g b with
   | go g' w' es=>rw[e,goes_go] at c;rw[goes_go];exact⟨c.1,f c.2⟩
   | _=>rw[e] at c;exact c.elim
theorem wy.push{x:Item}{b:Frame}{k:List Item}{cs:List Frame}{e:Exit}(g:x.plain=true)(U:e≠.normal)(h:wy X vs b k cs e a w):wy X vs b (x::k) cs e a w:=by
 cases e with
 | normal=>exact absurd O U
 | exit id=>obtain⟨d,f,c⟩:=h;exact⟨d,by cases x<;>simp_all [exitTo,Item.plain],c⟩
 | ret=>exact h
 | goto l=>exact h
 | panic ch=>exact h
 | outgrown=>exact h
def Ob(h:qN X fn c vs Q a w)(hq:∀vs e a w,Q vs e a w->Q' vs e a w):qN X fn c vs Q' a w:=λb k cs hb hk hc=>h b k cs hb hk λiA e a' w' q=>hc iA e a' w'<|hq iA e a' w' q
section
variable (C:Closed P main R D X)
section
variable (T:∀i,Terms (R i) D)
def g8(h:Q vs .normal a w):qN X fn .skip vs Q a w:=λb k f _ _ e=>C.step O λd c=>by exact⟨(T vs).idle _,C.rely (e _ _ _ _ h) c⟩
def qu(h:Q vs .ret a w):qN X fn .ret vs Q a w:=λb k f _ _ e=>C.step O λd c=>by exact⟨(T vs).idle _,C.rely (e _ _ _ _ h _) c⟩
def ED(h:Q vs (.exit id) a w):qN X fn (.exit id) vs Q a w:=λb k i _ _ f=>by have⟨j,d,g⟩:=f _ _ _ _ h;exact C.step O λe c=>by rw[stepG_exit d];exact⟨(T vs).idle _,C.rely g c⟩
def iP{x:Code}(h:qN X fn x vs (II (λf i n=>qN X fn y f Q i n) Q) a w):qN X fn (.seq x y) vs Q a w:=by
 intro b k g j m c;have p:X vs (G (b.at a (.code x::.code y::k)) g) w:=by
  refine h b _ g j m λf e i n q=>?_;cases e with
  | normal=>exact q b k g j m c
  | exit id=>exact(c _ _ _ _ q).push O iq
  | ret=>exact(c _ _ _ _ q).push O iq
  | goto l=>exact c _ _ _ _ q
  | panic ch=>exact c _ _ _ _ q
  | outgrown=>exact c _ _ _ _ q
 exact C.step O λo d=>by exact⟨(T vs).idle _,C.rely p d⟩
def bT{c:Operand}{x:Code}{t:Bool}(hc:a.eval c=.bool t)(h:qN X fn (if t then x else y) vs Q a w):qN X fn (.cond c x y) vs Q a w :=
 λb k cs hb hk hq=>C.step O λaK cO=>by rw[stepG_cond hc];exact⟨(T vs).idle _,C.rely (h b k cs hb hk hq) cO⟩
end
end
theorem kz(C:Closed P main R D X)(T:∀i,Terms (R i) D)(h:qN X fn c vs (pu id Q) a w):qN X fn (.block id c) vs Q a w:=by
 intro b k j o r U;have s:X vs (G (b.at a (.code c::.inBlock id::k)) j) w:=by
  refine h b _ j o r λn e u v q=>?_;cases e with
  | normal=>exact C.step O λf d=>by exact⟨(T n).idle _,C.rely (U _ _ _ _ q) d⟩
  | exit a1 =>
   by_cases g:a1=id
   .simp[pu,g] at q;exact⟨k,by simp[exitTo,g],U _ _ _ _ q⟩
   .simp[pu,g] at q;have⟨t,m,p⟩:=U _ _ _ _ q;have:(id==a1)=false:=gq
    exact⟨t,by simp[exitTo,this,m],p⟩
  | ret=>exact U _ _ _ _ q
  | goto l=>exact U _ _ _ _ q
  | panic ch=>exact U _ _ _ _ q
  | outgrown=>exact U _ _ _ _ q
 exact C.step O λf d=>by exact⟨(T vs).idle _,C.rely s d⟩
section
variable (C:Closed P main R D X)
section
variable (T:∀i,Terms (R i) D)
def EE(I:Nat->ι->Act->World->Prop)(n:Nat)(TM:I n vs a w)
 (round:∀n vs a w,I n vs a w->qN X fn c vs (II (λiA a' w'=>∃n',n'<n/\I n' iA a' w') Q) a w):qN X fn (.loop c) vs Q a w:=by
 intro b k cs hb hk hc;have key:∀n vs a w,I n vs a w->X vs (G (b.at a (.code c::.inLoop c::k)) cs) w:=by
  intro n;induction n using Nat.strongRecOn with
  | _ n ih =>
   intro vs a w hI;refine round n vs a w hI b _ cs hb hk λiA e a' w' q=>?_;cases e with
   | normal =>obtain⟨n',hn,WW⟩:=q;exact C.step O λaK cO=>by exact⟨(T iA).idle _,C.rely (ih n' hn iA a' w' WW) cO⟩
   | exit id=>exact(hc _ _ _ _ q).push O iq
   | ret=>exact(hc _ _ _ _ q).push O iq
   | goto l=>exact hc _ _ _ _ q
   | panic ch=>exact hc _ _ _ _ q
   | outgrown=>exact hc _ _ _ _ q
 exact C.step O λaK cO=>by exact⟨(T vs).idle _,C.rely (key n vs a w TM) cO⟩
def cH(h:oU X fn ops (List.range ops.size) vs Q a w):qN X fn (.region id ops false) vs Q a w :=
 λb k cs hb hk hc=>C.step O λaK cO=>by rw[stepG_region];exact⟨(T vs).idle _,C.rely (h b k cs hb hk hc) cO⟩
def du(h:Q vs .normal a w):oU X fn ops [] vs Q a w:=λb k f _ _ e=>C.step O λd c=>by rw[stepG_region_end];exact⟨(T vs).idle _,C.rely (e _ _ _ _ h) c⟩
end
end
theorem bB(C:Closed P main R D X)(p:ops[i]?=some o)(q:Region.wanted o (yielded ops a.tmps)=true)
 (h:∀U,R vs w U->∀K:Act->World->Prop,(∀f e,D U e (listed P fn a o U)/\oU X fn ops rest vs Q f e->K f e)->uponK o a K ((execOp a.eval o).run P U)):oU X fn ops (i::rest) vs Q a w:=by
 intro b k m j l n;refine C.step O λU c=>goes_oper p q l ?_
 have:=h U c _ λ_ _ x=>x;revert this;cases (execOp a.eval o).run P U with
 | ok x e=>cases x<;>first|exact λ⟨d,g⟩=>⟨j▸d,g b k m j l n⟩|exact id
 | halt _ _=>exact id
section
variable (C:Closed P main R D X)
def rI(g:∀w,R vs w w)(h:c.wpC P main (R vs) D fn n (λe j o=>Q vs e j o) a w):qN X fn c vs Q a w:=by
 intro b k p r u s;refine C.goes g<|h b k p (X vs) 0 r u λe j o q=>?_
 have:=s vs e j o q;cases e with
 | normal=>exact λf d=>C.rely this d
 | exit id=>obtain⟨v,m,t⟩:=this;exact⟨v,m,λf d=>C.rely t d⟩
 | ret=>exact λi f d=>C.rely (this i) d
 | goto l=>exact this
 | panic ch=>exact this
 | outgrown=>exact this
def bK(T:∀i,Terms (R i) D){x:Code}(b:∀w,R vs w w)(h:x.wpC P main (R vs) D fn n (Exit.then (λc d=>qN X fn y vs Q c d)<|λe c d=>Q vs e c d) a w):qN X fn (.seq x y) vs Q a w:=by refine iP C T<|rI C b<|wpC_mono h λe c d q=>?_;cases e<;>exact q
end
theorem lG(lz:o.op=.call { callee:=.value x,args,argTypes:=ats })(hx:a.eval x=.func (.func f) first cap)
 (hf:P.funcs[f]?=some bL)(ny:(bL.name == "runtime.NumGoroutine")=false)(hb:bL.body.isNone=false) :
  (execOp a.eval o).run P w=.ok (.enter f<|first++args.map a.eval++cap) w/\(execOp a.eval o).events P w #[]=#[]:=by
 have h1:¬ bL.name = "runtime.NumGoroutine" := gq
 have h2:¬bL.body=none:=gq
 constructor;iterate 2
  .unfold execOp;simp[lz,resolve,Deferred.ofValue,hx,invoke,callFunc,hf,h1,h2]
def JS(C:Closed P main R D X)(T:∀i,Terms (R i) D)
 (ho:ops[i]?=some o)(hw:Region.wanted o (yielded ops a.tmps)=true)(lz:o.op=.call { callee:=.value x,args,argTypes:=ats })(hx:a.eval x=.func (.func f) first cap)
 (hf:P.funcs[f]?=some bL)(ny:(bL.name == "runtime.NumGoroutine")=false)(hb:bL.body=some c)
 (h:qN X f c vs (λiA e a' w'=>(e=.normal\/e=.ret)/\a'.defers=[]/\∃v,ResultsC P bL a'.tmps v/\oU X fn ops rest iA Q (a.put o.dst v) w')
   { tmps:=(first++args.map a.eval++cap)++Array.replicate (bL.ntmps-(first++args.map a.eval++cap).size) undef,defers:=[] } w):oU X fn ops (i::rest) vs Q a w:=by
 intro b k cs uU hk hc;have VL:bL.body.isNone=false:=by rw[hb]; rfl
 have Dn:∀v,(b.at a (.inRegion ops (i::rest)::k)).finish v=b.at (a.put o.dst v) _:=λv=>by rw[Frame.finish_at,ho]; rfl
 have w7:∀(iA:ι) a' w' todo,(a'.defers=[]/\∃v,ResultsC P bL a'.tmps v/\oU X fn ops rest iA Q (a.put o.dst v) w') ->
   X iA (G { (base f).at a' todo with mode:=.returning } (b.at a (.inRegion ops (i::rest)::k)::cs)) w':=by rintro iA a' w' todo ⟨hd,v,hr,hp⟩;refine C.step O λaK cO=>?_;rw[stepG_leave O hd hf (hr aK).1 (hr aK).2,Dn];exact⟨(T iA).idle _,C.rely (hp b k cs uU hk hc) cO⟩
 refine C.step O λaK cO=>?_;obtain⟨hr,he⟩:=lG lz hx hf ny VL;rw[stepG_enter ho hw hk hr,enter_at _ hf hb];have hl:listed P b.fn a o aK=#[]:=listed_nil he;rw[hl];refine⟨(T vs).idle _,C.rely (h (base f) [] _ O (by simp[base]) λiA e a' w' q=>?_) cO⟩;obtain⟨he',q⟩:=q;rcases he' with rfl|rfl
 .exact C.step O λqC Mf=>by  exact⟨(T iA).idle _,C.rely (w7 iA a' w' [] q) Mf⟩
 .exact λtodo=>w7 iA a' w' todo q
def jG(P:Program)(X:ι->Goroutine->World->Prop)(f:FuncId)(args:Array Value)(vs:ι)(w:World)(Post:ι->Value->World->Prop):Prop :=
 ∃ bL c,P.funcs[f]?=some bL/\(bL.name == "runtime.NumGoroutine")=false/\bL.body=some c /\
  qN X f c vs (λiA e a' w'=>(e=.normal\/e=.ret)/\a'.defers=[]/\∃v,ResultsC P bL a'.tmps v/\Post iA v w') { tmps:=args++Array.replicate (bL.ntmps-args.size) undef,defers:=[] } w
def hM{args:Array Value}{Post:ι->Value->World->Prop}(hf:P.funcs[f]?=some bL)(ny:(bL.name == "runtime.NumGoroutine")=false)(hb:bL.body=some c)
 (h:qN X f c vs (λiA e a' w'=>(e=.normal\/e=.ret)/\a'.defers=[]/\∃v,ResultsC P bL a'.tmps v/\Post iA v w') { tmps:=args++Array.replicate (bL.ntmps-args.size) undef,defers:=[] } w):jG P X f args vs w Post:=⟨bL,c,hf,ny,hb,h⟩
def cN(C:Closed P main R D X)(T:∀i,Terms (R i) D){first cap args':Aq}{Ap:ι}{Post:ι->Value->World->Prop}
 (u:ops[i]?=some o)(y:Region.wanted o (yielded ops a.tmps)=true)(l:o.op=.call { callee:=.value x,args,argTypes:=ats })(z:a.eval x=.func (.func f) first cap)
 (d:first++args.map a.eval++cap=args')(m:vs=Ap)
 (g:jG P X f args' Ap w Post)(j:∀b v k,Post b v k->oU X fn ops rest b Q (a.put o.dst v) k):oU X fn ops (i::rest) vs Q a w:=by subst d m;have⟨n,c,s,t,r,h⟩:=g;refine JS C T u y l z s t r<|Ob h λb e A k q=>?_;have⟨h1,h2,v,h3,p⟩:=q;exact⟨h1,h2,v,h3,j b v k p⟩
theorem DU(C:Closed P main R D X)(T:∀i,Terms (R i) D)(h:OpC P (R vs) D fn ops i (λd e=>oU X fn ops rest vs Q d e) a w):oU X fn ops (i::rest) vs Q a w:=by
 unfold OpC at h;split at h
 .exact h.elim
 .rename_i o U
  split at h
  .rename_i hw
   exact bB C U hw λc b K f=>uponK_mono (λd e x=>f d e x)<|h c b
  .rename_i hw
   exact  λb k cs hb hk hc=>C.step O λaK cO=>by rw[stepG_unwanted U gq];exact⟨(T vs).idle _,C.rely (h b k cs hb hk hc) cO⟩
def L4{listed:Array Bool}(h:Region.ready .any ops listed=[]):∀fuel t,Region.linearise.go .any ops fuel t listed []=[]
 | 0,_=>rfl
 | fuel+1,t=>by
  change (match (Region.ready .any ops listed)[t % (Region.ready .any ops listed).length]? with
   | some i=>Region.linearise.go .any ops fuel _ _ [i]
   | none=>[].reverse)=[];rw[h];rfl
def vY{a:Array Bool}{t:Nat}(h:(Region.ready .any ops a)[t % (Region.ready .any ops a).length]?=some i) :
  Region.linearise.go .any ops (fuel+1) t a []=i::Region.linearise.go .any ops fuel (t / (Region.ready .any ops a).length) (a.setIfInBounds i true) []:=by
 change (match (Region.ready .any ops a)[t % (Region.ready .any ops a).length]? with
   | some i=>Region.linearise.go .any ops fuel (t / (Region.ready .any ops a).length) _ [i]
   | none=>[].reverse)=_;rw[h];simp[];rw[linearise_go_acc,List.reverse_singleton,List.singleton_append]
def vH(C:Closed P main R D X)(T:∀i,Terms (R i) D){S:World->Prop}{K:Act->World->Prop}(O:LetsDraw D)(V:P.follows .mixedOrders=true)(W:ops.size=n+1)
 (v:Array Bool->Bool)(y:v (Array.replicate (n+1) false)=true)(F:∀c:Array Bool,c.size=n+1->c[n]?=some false->v c=true->∀i∈Region.ready .any ops (c.setIfInBounds n true),v (c.setIfInBounds i true)=true)
 (m:∀c:Array Bool,c.size=n+1->c[n]?=some false->v c=true->Region.ready .any ops c=if Region.ready .any ops (c.setIfInBounds n true)=[] then [n] else Region.ready .any ops (c.setIfInBounds n true))
 (h:∀d,R vs w d->AnyCH P (R vs) D fn .any ops (λe o p=>e=.normal/\K o p) S n ((Array.replicate (n+1) false).setIfInBounds n true) a { d with drawn:=d.drawn+1 })
 (j:∀o p,K o p->oU X fn ops [n] vs Q o p):qN X fn (.region id ops true) vs Q a w:=by
 have H:∀(f t) c a w,c.size=n+1->c[n]?=some false->v c=true->AnyCH P (R vs) D fn .any ops (λe o p=>e=.normal/\K o p) S f (c.setIfInBounds n true) a w ->
   oU X fn ops (Region.linearise.go .any ops (f+1) t c []) vs Q a w:=by
  intro f;induction f with
  | zero =>
   intro t c a w u r g q;have s:Region.ready .any ops c=[n]:=by rw[m c u r g,ip q.1]
   rw[vY (i:=n) (by rw[s];simp[Nat.mod_one])];exact j a w q.2.2
  | succ f Y =>
   intro t c a w u r g q;by_cases z:Region.ready .any ops (c.setIfInBounds n true)=[]
   .have s:Region.ready .any ops c=[n]:=by rw[m c u r g,ip z]
    rw[vY (i:=n) (by rw[s];simp[Nat.mod_one]),L4 z];exact j a w (q.1 z).2
   .have s:Region.ready .any ops c=Region.ready .any ops (c.setIfInBounds n true):=by rw[m c u r g,iw z]
    have B:0<(Region.ready .any ops c).length:=by rw[s];exact HU.2 z
    obtain⟨i,J⟩:∃i,(Region.ready .any ops c)[t % (Region.ready .any ops c).length]?=some i:=⟨_,gE<|Nat.mod_lt _ B⟩;have l:i∈Region.ready .any ops (c.setIfInBounds n true):=by rw[<-s];exact mG J
    have A:i≠n:=by rintro rfl;have I:=(mem_ready.1 l).1;simp at I
    rw[vY J];refine DU C T<|OpC_mono (λo p x=>Y _ _ o p (by simpa using u) (by rw[yq A];exact r) (F c u r g i l) ?_)<|q.2 i l;rw[Array.setIfInBounds_comm _ _ A];exact x.2
 intro b k L M U N;refine C.step rfl λd E=>?_;rw[stepG_region_draw];refine⟨O _,?_⟩;simp[Region.schedule,V,if_true];have e:Region.linearise .any ops (d.tape d.drawn<|.order b.fn id)=Region.linearise.go .any ops (n+1) (d.tape d.drawn<|.order b.fn id) (Array.replicate (n+1) false) []:=by unfold Region.linearise;rw[W]
 rw[e];exact (H n _ _ a { d with drawn:=d.drawn+1 } iq iq y (h d E) b k L M U N)
end
def jb:(∀{c:Type} (l:List c),l.toArray.size=l.length)/\(∀{c:Type} (a:c) (l:List c),(a::l).length=l.length+1)/\(∀{c:Type},([]:List c).length=0)/\(∀n:Nat,0+n=n)/\(∀n,List.range n=List.range.loop n [])/\(∀b,List.range.loop 0 b=b)/\(∀n b,List.range.loop (n+1) b=List.range.loop n (n::b)):=⟨λ_=>O,λ_ _=>O,O,Nat.zero_add,λ_=>O,λ_=>O,λ_ _=>O⟩
def Wu:(∀{p:Prop} [Decidable p],(decide p=true)=p)/\(∀{p:Prop} [Decidable p],decide p=false↔¬p)/\(∀a b:Bool,((a&&b)=true)=(a=true/\b=true))/\(∀a b:Bool,((a||b)=true)=(a=true\/b=true))/\(∀{a b:Bool},(a&&b)=false↔a=false\/b=false)/\(∀{a b:Bool},(a||b)=false↔a=false/\b=false)/\(∀{b:Bool},(!b)=true↔b=false)/\(∀{b:Bool},(!b)=false↔b=true)/\(∀{a b:Int},¬a<=b↔b<a)/\(∀{a b:Int},¬a<b↔b<=a)/\(∀{c:Type} (a b:c),(a≠b)=¬(a=b)):=⟨decide_eq_true_eq,decide_eq_false_iff_not,nU,G6,by simp,iq,iq,iq,Int.not_le,Int.not_lt,λ_ _=>O⟩
section
open Go.ConcN (sumTo upd sumTo_upd upd_ne upd_same)
def Ends (P:Program)(Post:Value->World->Prop)(M:Machine)(t:Trace):Prop :=
 ∃N last o w' t',runNT P (N+1) M t=(.ended o w',t')/\runN P N M=.next last/\step P last=.ended o w'/\Good P Post last o w' t'
def Ends.step{M:Machine}{ops:Array MemOp}(h:stepT P M=(.next M',ops))(b:Ends P Post M' (t++ops)):Ends P Post M t:=by
 have⟨N,a,o,e,d,h1,h2,h3,c⟩:=b;refine⟨N+1,a,o,e,d,?_,?_,h3,c⟩
 .rw[runNT];simp[h];exact h1
 .rw[runN];simp[Go.step,h];exact h2
theorem pX(U:Ends P Post M' t'):∀N M t,runNT P N M t=(.next M',t')->Ends P Post M t
 | 0,M,t,h=>by simp[runNT] at h;grind
 | N+1,M,t,h=>by
  rw[runNT] at h;cases e:stepT P M with
  | mk s ops =>
   rw[e] at h;cases s with
   | next m=>exact Ends.step e<|pX U N m _ h
   | _=>simp at h
structure Fr(P:Program)(Shun:Loc->Prop)(d:Nat)(gs:Array Goroutine)(a:Goroutine)(t:Trace)(q:Nat->Nat):Prop where
 h0:gs[0]?=some a
 old:Leavers P t gs q
 clean:∀said,¬Race said t
 known:∀i x,touchAt t i=some x->x.loc.isMemory=true->Knows t 0 i\/(Shun x.loc/\x.kind=.atomic)
 over:t.HandedOver
 deaf:Deaf t 0=d
def Fr.past{a:Goroutine}(h:Fr P Shun 0 gs a t q)(B:Nat):∃b,B<=b/\Past Shun b t:=by have⟨b,h1,h2⟩:=Al t B;exact⟨b,h1,h.clean,h.known,h.over,h.deaf,h2⟩
def rU(Ok:Nat->Prop)(N:Nat)(Shun:Loc->Prop):Prop:=∀l,Shun l->∃ad:Addr,l=.cell ad/\ad.block<N/\¬Ok ad.block
def Z (P:Program)(Post:Value->World->Prop)(Ok:Nat->Prop)(N d:Nat)(g:Goroutine)(w:World):Prop :=
 ∀(e:Nat) (Shun:Loc->Prop) (gs:Array Goroutine) (q:Nat->Nat) (t:Trace) (sl:Option (Nat × Nat)),rU Ok N Shun->Fr P Shun d gs g t q->Ends P Post (crowd gs (w.at e) sl) t
def aaa (Ok:Nat->Prop)(N:Nat)(e:Event):Prop:=(∀x,(MemAct.ofEvent e).touch?=some x->∀ad:Addr,x.loc=.cell ad->Ok ad.block\/N<=ad.block)/\e.loc≠.mark .disable/\e.loc≠.mark .enable
def DL (Ok:Nat->Prop)(N:Nat)(_ _:World)(es:Array Event):Prop:=∀e∈es,aaa Ok N e
section
variable {Ok Vw:Nat->Prop}{N N' d d':Nat}{g g':Goroutine}
def Fr.awake(h:Fr P Shun d gs g t q)(b:g.status=.running):∀x∈gs,Conc.awake x:=by
 intro x c;obtain⟨i,a,rfl⟩:=Array.mem_iff_getElem.1 c;rcases Nat.eq_zero_or_pos i with rfl|hp
 .have:gs[0]=g:=by simpa[gF a] using h.h0
  rw[this];exact awake_of<|.inl b
 .exact awake_of<|(h.old.old i _ hp<|gF a).status.elim .inl λz=>.inr<|.inr z
theorem Fr.own{es:Array Event}(h:Fr P Shun d gs g t q)(p:∀e∈es,∀x,(MemAct.ofEvent e).touch?=some x->Shun x.loc->x.kind≠.plain)(u:deafBehind d es=d') :
  Fr P Shun d' ((gs.map<|Conc.woken P g g' w').setIfInBounds 0 g') g' (t++MemOp.ofEvents 0 g.frame.fn g.frame.place es) q:=by
 have n:=(oF.1 h.h0).1;have c:∀j∈MemOp.ofEvents 0 g.frame.fn g.frame.place es,j.g=0:=ki;refine⟨by simp[n],h.old.own n _ _ es,λf=>noRace_append (h.clean f) c λi x m j a b s k=>?_,λi x m w=>?_,handedOver_app h.over λj a=>.inl<|c j a,?_⟩
 .rcases h.known i x m k.2.1 with hk|⟨a3,U⟩
  .exact hk
  .obtain⟨e,v,rfl⟩:=Conc.mem_ofEvents a;rcases k.2.2.2 with z|z|⟨_,z,_⟩
   .rw[U] at z;cases z
   .exact absurd z<|p e v b s<|k.1▸a3
   .rw[U] at z;cases z
 .have⟨y,o,r⟩:=touch_of m;rcases getElem?_append_cases o with ⟨_,KH⟩|⟨_,hyu⟩
  .exact(h.known i x (by rw[touchAt_of KH];exact r) w).imp (·.app _) id
  .have:=knows_own o;grind
 .rw[Deaf_own,h.deaf];exact u
theorem Fr.slip{x:Goroutine}{sl:Option (Nat × Nat)}(h:Fr P Shun d gs g t q)(M:g.status=.running)(hi:gs[i]?=some x)(u:i≠0)(r:x.status=.running) :
  ∃c n D,runT P (crowd gs w sl) i=(.next (crowd c w sl),n)/\c.size=gs.size/\Fr P Shun d c g (t++n) D/\sumTo c.size D<sumTo gs.size q:=by
 have F:=(oF.1 hi).1;have p:=h.old.old i x oq hi;have J:(i==0)=false:=by simp[u]
 cases a1:q i with
 | zero=>rw[a1] at p;rw[p.1] at r;cases r
 | succ k =>
  rw[a1] at p;rcases p with ⟨hf,_⟩|⟨_,x',es,hm,a3,a6⟩
  .rw[hf] at r;cases r
  have U:∀l∈MemOp.ofEvents i x.frame.fn x.frame.place es,l.g=i:=ki;have B:∀l∈MemOp.ofEvents i x.frame.fn x.frame.place es,l.act.touch?=none:=λl f=>by obtain⟨e,L,rfl⟩:=Conc.mem_ofEvents f;exact touch_mute<|hm e L
  refine⟨_,_,upd q i k,runT_crowd_go hi<|by rw[J];exact a3 w,iq,⟨?_,⟨λj z v s=>?_,λj v=>?_⟩,λo=>noRace_append (h.clean o) U λC a _ l f b K _=>gq,λC a I A=>?_,handedOver_app h.over λl f=>.inr<|B l f,?_⟩,?_⟩
  .rw[yq u,Array.getElem?_map,h.h0];simp[woken_run M]
  .by_cases e:i=j
   .subst e;rw[OW gq] at s;obtain rfl:=Kh s;rw[upd_same,Deaf_own];exact a6
   .rw[yq e,Array.getElem?_map] at s;obtain⟨O,H,rfl⟩:=sT.1 s;have m:=h.old.old j O v H;rw[woken_quitsD m,upd_ne q k<|Ne.symm e,Deaf_other t e _ U];exact m
  .have E:gs.size<=j:=by simpa using v
   rw[Deaf_other t oq _ U];exact h.old.above j E
  .have⟨y,N,G⟩:=touch_of I;rcases getElem?_append_cases N with ⟨_,KH⟩|⟨_,hyu⟩
   .exact(h.known C a (by rw[touchAt_of KH];exact G) A).imp (·.app _) id
   .grind
  .rw[Deaf_other t u _ U];exact h.deaf
  .have h2:sumTo gs.size (upd q i k)+(k+1)=sumTo gs.size q+k:=by have:=sumTo_upd q k id F;simpa[a1] using this
   grind
def Z.pick(r:g.status=.running)
 (h:∀(e:Nat) (Shun:Loc->Prop) (a:Array Goroutine) (q:Nat->Nat) (t:Trace) (sl:Option (Nat × Nat)),rU Ok N Shun->Fr P Shun d a g t q->∃o b,runT P (crowd a (w.at e) sl) 0=(.next o,b)/\Ends P Post o (t++b)):Z P Post Ok N d g w:=by
 have s:∀n e Shun a q t sl,sumTo a.size q=n->rU Ok N Shun->Fr P Shun d a g t q->Ends P Post (crowd a (w.at e) sl) t:=by
  intro n;induction n using Nat.strongRecOn with
  | _ n ih =>
   rintro e Shun a q t sl rfl m j;have⟨i,x,k,f,y,z,c⟩:=crowd_pick (P:=P) (w:=w.at e) (sl:=sl) (j.awake r) ⟨0,g,j.h0,r⟩;have u:(w.at e).at k=w.at k:=O;by_cases l:i=0
   .subst l;have⟨o,b,h1,h2⟩:=h k Shun a q t f m j;exact Ends.step (c.trans h1) h2
   .have⟨p,b,A,h1,_,h3,v⟩:=j.slip (w:=w.at k) (sl:=f) r y l z;exact Ends.step (c.trans h1)<|ih _ v k Shun p A _ f O m h3
 exact λe Shun a q t sl m j=>s _ e Shun a q t sl O m j
def Z.closed:Closed P true (λ_:Unit=>AtRel) (DL Ok N) (λ_=>Z P Post Ok N d) where
 rely:=by
  rintro _ g w _ h ⟨e,rfl⟩ p a n q t m f c
  exact h p a n q t m f c
 step:=by
  intro _ g w s h
  refine Z.pick s λe a n q t m f c=>?_
  have j:=h _ ⟨e,O⟩
  cases eq:stepG P true g _ with
  | go g' w' es =>
   rw[eq] at j
   have⟨k,v⟩:=j
   refine⟨_,_,runT_crowd_go c.h0<|show stepG P _ g _=_ from eq,?_⟩
   exact v w'.drawn a _ q _ m f (c.own (λb i x u l=>by
    have⟨o,e1,y,r⟩:=f _ l
    rcases(k b i).1 x u o e1 with z|z
    .
     exact absurd z r
    .
     omega)<|deafBehind_still (λb i=>⟨(k b i).2.1,(k b i).2.2⟩) _)
  | _=>rw[eq] at j;exact j.elim
def Z.done{v:Value}(m:g.status=.running)(a:∀e,stepG P true g (w.at e)=.ended (.done v) (w.at e) #[])(l:∀e,Post v<|w.at e):Z P Post Ok N 0 g w:=by intro e Shun p q t sl r c;have⟨B,_,k⟩:=c.past 0;exact beside_ends (D:=λ_ _ f=>f=#[]) (n:=0) (λ_ _ f h o i=>by rw[h] at i;simp at i) c.h0 c.old k<|λj b=>by obtain⟨d,rfl⟩:=b;exact⟨m,v,#[],a d,iq,l d⟩
structure Forked(P:Program)(Post:Value->World->Prop)(Shun:Loc->Prop)(g' child:Goroutine)(w:World)(K:Cfg)(I1:ConcX.Payload)(I2:ConcR.Payload)(I3:ConcX.Shy K.Wg K.C)(Az:Gq)(uH:Value->World->Prop)(vs:Vq)(Vw:Nat->Prop)(N':Nat):Prop where
 prog:K.P=P
 fit:K.Fit
 ety:I1.ety=I2.ety
 shy:qD K
 ar:∀g w,Az g w->g.status=.running
 an:∀L,K.N0<=L->∀g w,Az g w->∃m,Goes K.P true (mO K) (tS K L) (oR K L Az uH) m g w
 sh1:∀l,Shun l->K.Shun l
 sh2:rU Vw N' K.Shun
 qi:Way K.P false (RC K) (DK K) (pO K vs) child w
 main:Way K.P true (RM K) (DM K) (mK K Az vs) g' w
 size:K.N0<=w.heap.size
 wg:K.B4 w KK 0
 y7:w.heap[K.A]?=some (.chan 0 #[] false 0 0 false)
 Ck:w.heap[K.E]?=some (.chan 0 #[] false 0 0 false)
 pay:ConcN.PayAt K.C 1 w
 stop:∀a w,I3.stop a w->Z P Post Vw N' 0 a w
theorem Z.fork{child:Goroutine}(hs:g.status=.running)(XP:∀e,stepG P true g (w.at e)=.spawn g' child (w.at e) #[])
 (h:∀(e:Nat) (Shun:Loc->Prop),rU Ok N Shun->∃K I1 I2 I3 Az uH vs Vw N',Forked P Post Shun g' child (w.at e) K I1 I2 I3 Az uH vs Vw N'):Z P Post Ok N 0 g w:=by
 refine Z.pick hs λe Shun gs q t sl hS hF=>?_;have⟨K,I1,I2,I3,Az,uH,vs,Vw,N',X⟩:=h e Shun hS;obtain rfl:=X.prog;have mH:=(oF.1 hF.h0).1;have⟨B,_,hP⟩:=hF.past 0;refine⟨_,_,runT_crowd_spawn hF.h0<|show stepG K.P _ g _=_ from XP e,?_⟩;have hops:((MemOp.ofEvents 0 g.frame.fn g.frame.place #[]).push { g:=0,fn:=g.frame.fn,pos:=g.frame.place,act:=.go gs.size }).push { g:=gs.size,fn:=child.frame.fn,pos:=g.frame.place,act:=.start }
   = _:=O;have A9:∀j,∀op∈(#[{ g:=0,fn:=g.frame.fn,pos:=g.frame.place,act:=.go gs.size },{ g:=gs.size,fn:=child.frame.fn,pos:=g.frame.place,act:=.start }]:Trace),∀d,deafStep j d op=d:=by intro j op lz d;simp[List.mem_toArray,oc,zL,or_false] at lz;rcases lz with rfl|rfl<;>rfl
 have⟨fG,abR⟩:=X.qi;have⟨gi,abS⟩:=X.main;have hJ:J K 0 Az uH (K.fj<|w.at e) gs.size (.fresh vs) (.front vs) fG gi ((gs.setIfInBounds 0 g').push child) g' child (w.at e) (t++#[{ g:=0,fn:=g.frame.fn,pos:=g.frame.place,act:=.go gs.size },{ g:=gs.size,fn:=child.frame.fn,pos:=g.frame.place,act:=.start }]) q:=by
  refine⟨mH,?_,?_,λi z hi hic hz=>?_,λj hj=>?_,abR,abS,⟨KK,0,⟨O,O,O⟩,X.wg⟩,⟨0,X.y7⟩,X.Ck,X.pay,λz=>(by cases z),λ_ _=>Iff.rfl,λ_ hb=>.inl hb,⟨_,λ_ hb=>hb⟩,λ_=>X.size,(λz=>by cases z),λ_ i z hz=>?_,?_,?_,?_⟩
  .rw[Array.getElem?_push_lt gq]; simp
  .have e1:gs.size=(gs.setIfInBounds 0 g').size:=iq
   conv=>lhs; rw[e1]
   exact Array.getElem?_push_size
  .rw[Deaf_quiet (A9 i)];rw[Array.getElem?_push,iw<|by simp; omega,yq oq] at hz;exact hF.old.old i z hi hz
  .rw[Deaf_quiet (A9 j)];exact hF.old.above j gq
  .have hPT:=PT.fork (fj:=λ_=>True) (Still:=λ_=>False) hP (hF.old.above _ lr) X.sh1 g.frame.fn child.frame.fn g.frame.place;cases hl:z.loc with
   | cell ad =>
    rcases hPT.known i z hz (by rw[hl]; rfl) with k|k
    .exact .inr<|.inr gq
    .exact .inr<|.inl<|k.qi trivial
   | obj ob =>
    rcases hPT.known i z hz (by rw[hl]; rfl) with k|k
    .exact .inr<|.inr gq
    .exact .inr<|.inl<|k.qi trivial
   | _=>exact .inl ⟨λad e=>(by cases e),λad e=>(by cases e)⟩
  .exact PT.fork hP (hF.old.above _ lr) X.sh1 _ _ _
  .rw[Deaf_quiet (A9 0)]; exact hF.deaf
  .rw[Deaf_quiet (A9 gs.size)]; exact hF.old.above _ lr
 obtain⟨n,M,T,hr,gs2,a2,w2,sl2,q2,B2,m2,L2,rfl,_,h02,hL2,hP2,hB2,hG2⟩:=JV X.fit X.ety X.ar X.shy X.an _ _ _ _ _ _ _ _ _ _ _ _ q sl O hJ;refine pX ?_ n _ _ hr;have⟨n3,gs3,a3,w3,sl3,T3,q3,hr3,_,h03,hS3,hL3,WX⟩:=walk_beside (λ_ _ es hD ev he=>by
  obtain ⟨h1,h2,h3⟩:=hD.2 ev he;obtain ⟨_,_,_,hk⟩:=h1 0 ""
  have⟨k1,k2⟩:=X.shy.ok _ hk;refine⟨λx hx EU=>?_,h2,h3,MemAct.low_mono hB2 k2⟩;rcases k1 x hx with ⟨ad,e1,e2⟩|k
  .rw[e1] at EU;exact absurd EU<|X.fit.k0h ad<|by rw[e2]; exact X.fit.On
  .have⟨_,_,_,k⟩:=k; exact k) _ m2 gs2 a2 w2 sl2 T q2 lr h02 hL2 hP2 hG2
 exact pX (X.stop a3 w3 hS3.2 w3.drawn K.Shun gs3 q3 T3 sl3 X.sh2 ⟨h03,hL3,WX.clean,WX.known,WX.over,WX.hears⟩) n3 _ _ hr3
end
end
