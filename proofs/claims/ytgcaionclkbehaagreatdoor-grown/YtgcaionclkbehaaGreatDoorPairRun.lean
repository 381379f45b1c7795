
import Derived.Conc.FxEnd
import Derived.Conc.Token
set_option linter.all false
set_option maxHeartbeats 2000000
set_option maxRecDepth 100000
namespace Go.Proofs.YtgcaionclkbehaaGreatDoor
open Go.Conc
variable {α:Type _}{a c p:Prop}{b i k m n:Nat}{r wr:Bool}{ad:Addr}{g g' gx:Goroutine}{w w' aE:World}{l:Loc}{S S':Nat->Prop}{e:Event}{ops u:Trace}{sm st:Int}{z:Touch}
abbrev Bq := List UInt8
abbrev Aq := Array Value
abbrev Iq := List Int
abbrev Vq := List Value
abbrev Hq := List (Nat × Obj)
abbrev Nq := Nat -> Value
abbrev Wq := World -> World -> Prop
abbrev Gq := Goroutine -> World -> Prop
abbrev sq (b : Nat) : Option Addr := some ⟨b,0,none⟩
abbrev Bx:List (Bq):=[[116,98,111,100,121],[116,102,111,111,116],[116,104,101,97,100]]
abbrev Jm:List (Bq):=[[115,99,114,105,112,116],[115,116,121,108,101],[116,105,116,108,101]]
abbrev Mr:List (Bq):=[[98,111,100,121],[104,101,97,100],[104,116,109,108]]
abbrev Uk:List (Bq):=[[104,101,97,100],[98,111,100,121],[104,116,109,108],[98,114],[112]]
abbrev OA:Bq:=[116,105,116,108,101]
abbrev nW:Bq:=[104,116,109,108]
abbrev OB:Bq:=[115,99,114,105,112,116]
abbrev OC:Bq:=[115,116,121,108,101]
abbrev Ei:Bq:=[104,101,97,100]
abbrev QH:Bq:=[98,111,100,121]
abbrev Cu:Bq:=[9,10,12,13,32]
abbrev lql:Bq:=[116,101,120,116,97,114,101,97]
abbrev lqm:Bq:=[60,47,116,105,116,108,101]
abbrev OD:Bq:=[111,112,116,105,111,110]
abbrev VZ:Bq:=[116,102,111,111,116]
abbrev V0:Bq:=[116,98,111,100,121]
abbrev V1:Bq:=[116,104,101,97,100]
abbrev Gj:Bq:=[108,105]
abbrev xr:Bq:=[98,114]
abbrev Ul:Bq:=[117,108]
abbrev QI:Bq:=[116,97,98,108,101]
abbrev Um:Bq:=[99,97,112,116,105,111,110]
def kq {α : Sort _} {a b : α} (h : a = b := by kernel_rfl) : a = b := h
def oq(h : p := by omega) : p := h
def dq(h : p := by decide) : p := h
def iq(h : p := by simp) : p := h
theorem gq(h : p := by grind) : p := h
def rq(h : p := by rfl) : p := h
def i3 {b : Prop} (h : p) : a \/ b \/ c \/ p := .inr (.inr (.inr h))
def i2 {b : Prop} (h : p) : a \/ b \/ p := .inr (.inr h)
def gE{l : List α}(h : i < l.length) : l[i]? = some l[i] := List.getElem?_eq_getElem h
def gF{l : Array α}(h : i < l.size) : l[i]? = some l[i] := Array.getElem?_eq_getElem h
def gS{a : α} {l : List α} : l[i]? = some a ↔ ∃ h,l[i] = a := List.getElem?_eq_some_iff
def tD[Decidable p] (h : p) : decide p = true := decide_eq_true h
def fD[Decidable p] (h : ¬p) : decide p = false := decide_eq_false h
def ip{h : Decidable c} (hc : c) {α : Sort _} {t e : α} : (if c then t else e) = t := if_pos hc
def iw{h : Decidable c} (hc : ¬c) {α : Sort _} {t e : α} : (if c then t else e) = e := if_neg hc
def lr: n <= n := Nat.le_refl n
def lA{a b : List α} : (a ++ b).length = a.length + b.length := List.length_append
def lC{a : α} {b : List α} : (a :: b).length = b.length + 1 := List.length_cons
def mG{l : List α}{a : α} (h : l[i]? = some a) : a ∈ l := List.mem_of_getElem? h
def lL(h : n < m) (h' : m <= k) : n < k := Nat.lt_of_lt_of_le h h'
def bF[BEq α] [LawfulBEq α] {a b : α} : (a == b) = false ↔ a ≠ b := beq_eq_false_iff_ne
def tL{l : List α} (h : l.length <= i) : List.take i l = l := List.take_of_length_le h
def aT{p : α -> Bool} {l : List α} : l.all p = true ↔ ∀ x,x ∈ l -> p x = true := List.all_eq_true
def lT(h : n <= m) (h' : m <= k) : n <= k := Nat.le_trans h h'
def oK:=@Array.getElem?_eq_some_iff
def uU:=@Array.getElem?_setIfInBounds_ne
def gh:=@Nat.eq_of_beq_eq_true
def sK:=@Option.some.injEq
def lV:=@Bool.and_eq_true
def tS:=@List.getD_eq_getElem?_getD
def vA:=@List.getElem?_append_left
def Bp:=@List.getElem?_append_right
def uX:=@Array.toList_inj
def K4:=@Array.getElem?_setIfInBounds_self_of_lt
def D4:=@Array.getD_eq_getD_getElem?
def u6:=@List.append_assoc
def CX:=@Option.some.inj
def p7:=@Option.map_eq_some_iff
def vh:=@List.not_mem_nil
def nk:=@List.mem_cons
def Bu:=@List.getElem?_take
def xn:=@Int.toNat_natCast
def Eg:=@List.length_pos_iff
def kj:=@Bool.false_eq_true
def El:=@Array.mem_singleton
def Bs:=@Option.bind_some
def rp:=@List.map_cons
def Bz:=@List.map_append
def K3:=@List.drop_of_length_le
def G8:=@List.mem_append_left
def Jp:=@List.mem_append_right
def BM:=@Bool.or_eq_true
def IE:=@List.getElem?_toArray
def IF:=@Array.getElem?_modify
def K5:=@List.getElem?_cons_zero
def D3:=@List.getElem_mem
def KF:=@Array.length_toList
def Jo:=@List.mem_cons_of_mem
def K2:=@List.getElem?_drop
def jl:=@Nat.le_refl
def bI.{u}:(∀{c:Sort u}[Decidable True](a b:c),(if True then a else b)=a)/\(∀{c:Sort u}[Decidable False](a b:c),(if False then a else b)=b)/\((false=true)=False):=⟨λ_ _=>if_true _ _,λ_ _=>if_false _ _,Bool.false_eq_true⟩
def bJ:(∀a:Bool,(a&&true)=a)/\(∀a:Bool,(a&&false)=false)/\(∀a:Bool,(false&&a)=false)/\(∀a:Bool,(true&&a)=a):=⟨Bool.and_true,Bool.and_false,Bool.false_and,Bool.true_and⟩
def bZ:(∀{U:Type}(l:List U),l.toArray.size=l.length)/\(∀{U:Type}(a:U)(l:List U),(a::l).length=l.length+1)/\(∀{U:Type},([]:List U).length=0)/\(∀{U:Type}(n:Nat)(a:U),Array.replicate (n+1) a=(Array.replicate n a).push a)/\(∀{U:Type}(a:U),Array.replicate 0 a=#[])/\(∀{U:Type}(l:List U)(a:U),l.toArray.push a=(l++[a]).toArray)/\(∀{U:Type}(l m:List U),l.toArray++m.toArray=(l++m).toArray)/\(∀{U:Type}(l:List U),[]++l=l)/\∀{U:Type}(a:U)(l m:List U),a::l++m=a::(l++m):=by refine⟨?_,?_,?_,?_,?_,?_,?_,?_,?_⟩<;>intros<;>first|rfl|simp|exact Array.replicate_succ
variable {c:Nat}{t:Trace}
section
open Go.ConcN (RelBy)
structure sP(Shun dT Still:Loc->Prop)(t:Trace)(Kc:Nat->Prop)(i:Nat)(a:Touch):Prop where
 nU:dT a.loc->Kc i
 mine:¬dT a.loc->¬Still a.loc->Knows t 0 i
 still:Still a.loc->a.write=true->Knows t 0 i/\Kc i
 any:Knows t 0 i\/Kc i
 vq:Shun a.loc->a.kind=.plain->Kc i
structure PT(Shun dT Still:Loc->Prop)(c:Nat)(Kc:Nat->Prop)(t:Trace):Prop where
 clean:∀said,¬Race said t
 known:∀i a,touchAt t i=some a->a.loc.isMemory=true->(Shun a.loc/\a.kind=.atomic)\/sP Shun dT Still t Kc i a
 over:∀i g,t.g? i=some g->g≠0->g≠c->t.counts i->∃j,t.g? j=some 0/\HappensBefore t i j
structure Apart(Shun dT Still:Loc->Prop):Prop where
 ks:∀l,dT l->¬Still l
 kh:∀l,dT l->¬Shun l
 sh:∀l,Still l->¬Shun l
section
variable {Shun dT Still:Loc->Prop}{Kc RQ:Nat->Prop}{u:Trace}
def sP.app{a:Touch}(h:sP Shun dT Still t Kc i a)(hK:∀i,Kc i->RQ i)(u:Trace):sP Shun dT Still (t++u) RQ i a :=
 ⟨λx=>hK i (h.nU x),λx y=>(h.mine x y).app u,λx y=>⟨(h.still x y).1.app u,hK i (h.still x y).2⟩,h.any.imp (·.app u) (hK i),λx y=>hK i (h.vq x y)⟩
theorem nw(h:∀i g,t.g? i=some g->g≠0->g≠c->t.counts i->∃j,t.g? j=some 0/\HappensBefore t i j)(v:∀b∈u,b.g=0\/b.g=c\/b.act.touch?=none) :
  ∀i g,(t++u).g? i=some g->g≠0->g≠c->(t++u).counts i->∃j,(t++u).g? j=some 0/\HappensBefore (t++u) i j:=by
 intro i g e l n U;have⟨x,k,p,o⟩:=U;have⟨b,a,q⟩:=touch_of k;rcases getElem?_append_cases a with ⟨hi,_⟩|⟨_,hopu⟩
 .have⟨j,f,m⟩:=h i g (by rw[<-g?_old hi];exact e) l n ((counts_old hi).1 ⟨x,k,p,o⟩);have d:j<t.size:=by have⟨z,r,_⟩:=p7.1 f;exact lt_size_of_getElem? r
  exact⟨j,by rw[g?_old d];exact f,hb_app u m⟩
 .have s:b.g=g:=by simpa[Trace.g?,a] using e
  grind
def PT.mono{b:Loc->Prop}(h:PT Shun dT Still c Kc t)(m:∀l,dT l->b l)(j:∀i a,touchAt t i=some a->b a.loc->dT a.loc\/Kc i\/(Shun a.loc/\a.kind=.atomic)):PT Shun b Still c Kc t:=by
 refine⟨h.clean,λi a f g=>?_,h.over⟩;rcases h.known i a f g with k|k
 .exact .inl k
 .by_cases d:b a.loc
  .rcases j i a f d with z|z|z
   .exact .inr ⟨λ_=>k.nU z,λe=>absurd d e,k.still,k.any,k.vq⟩
   .exact .inr ⟨λ_=>z,λe=>absurd d e,k.still,k.any,k.vq⟩
   .exact .inl z
  .exact .inr ⟨λz=>absurd z d,λ_=>k.mine (λy=>d (m _ y)),k.still,k.any,k.vq⟩
theorem PT.mute(h:PT Shun dT Still c Kc t)(q:∀i,Kc i->RQ i)(w:∀n∈u,n.act.touch?=none):PT Shun dT Still c RQ (t++u):=by
 refine⟨λf=>?_,λi a g v=>?_,nw h.over λn l=>.inr (.inr (w n l))⟩
 .rintro⟨i,j,o,⟨a,b,g,r,s⟩,A,B⟩;have⟨x,p,U⟩:=touch_of g;have⟨y,z,m⟩:=touch_of r;rcases getElem?_append_cases z with ⟨hj,G6⟩|⟨_,YS⟩
  .have C:i<t.size:=Nat.lt_trans o hj;have d:t[i]?=some x:=gq
   exact h.clean f ⟨i,j,o,⟨a,b,by simp[Trace.act?,d,U],by simp[Trace.act?,G6,m],s⟩,λe=>A (hb_app u e),λe=>B (hb_app u e)⟩
  .grind
 .have⟨x,p,U⟩:=touch_of g;rcases getElem?_append_cases p with ⟨_,d⟩|⟨_,Me⟩
  .exact(h.known i a (by rw[touchAt_of d];exact U) v).imp id λk=>k.app q u
  .grind
structure Ok0(Shun dT Still:Loc->Prop)(b:Touch):Prop where
 nU:¬dT b.loc
 still:Still b.loc->b.write=false
 vq:Shun b.loc->b.kind≠.plain
def PT.app0(h:PT Shun dT Still c Kc t)(A:∀i,Kc i->RQ i)(v:∀j∈u,j.g=0)(y:∀j∈u,∀b,j.act.touch?=some b->Ok0 Shun dT Still b):PT Shun dT Still c RQ (t++u):=by
 refine⟨λo=>noRace_append (h.clean o) v λi a q j d b B m=>?_,λi a q C=>?_,nw h.over λj d=>.inl (v j d)⟩
 .have f:=y j d b B;rcases h.known i a q m.2.1 with ⟨Bw,pO⟩|k
  .have s:=f.vq (m.1▸Bw);rcases m.2.2.2 with e|e|⟨_,e,_⟩
   .rw[pO] at e;cases e
   .exact absurd e s
   .rw[pO] at e;cases e
  .by_cases p:Still a.loc
   .have r:=f.still (m.1▸p);rcases m.2.2.1 with e|e
    .exact(k.still p e).1
    .rw[r] at e;cases e
   .exact k.mine (λe=>f.nU (m.1▸e)) p
 .have⟨x,z,n⟩:=touch_of q;rcases getElem?_append_cases z with ⟨_,vV⟩|⟨_,Me⟩
  .exact(h.known i a (by rw[touchAt_of vV];exact n) C).imp id λk=>k.app A u
  .have l:=knows_own z;rw[v x Me] at l;have f:=y x Me a n;exact .inr ⟨λe=>absurd e f.nU,λ_ _=>l,λe w=>(by rw[f.still e] at w;cases w),.inl l,λe w=>absurd w (f.vq e)⟩
def RU (Shun dT Still:Loc->Prop)(b:Touch):Prop:=dT b.loc\/(Still b.loc/\b.write=false)\/(Shun b.loc/\b.kind=.atomic)
theorem PT.HA(A:Apart Shun dT Still)(h:PT Shun dT Still c (Knows t c) t)(n:∀f∈u,f.g=c)(p:∀f∈u,∀b,f.act.touch?=some b->RU Shun dT Still b):PT Shun dT Still c (Knows (t++u) c) (t++u):=by
 refine⟨λl=>noRace_append (h.clean l) n λi a j f m b r U=>?_,λi a j s=>?_,nw h.over λf m=>.inr (.inl (n f m))⟩
 .rcases p f m b r with ok|⟨ok,a6⟩|⟨ok,a4⟩
  .rcases h.known i a j U.2.1 with ⟨a1,_⟩|k
   .exact absurd a1 (A.kh _ (by rw[U.1];exact ok))
   .exact k.nU (by rw[U.1];exact ok)
  .rcases h.known i a j U.2.1 with ⟨a1,_⟩|k
   .exact absurd a1 (A.sh _ (by rw[U.1];exact ok))
   .rcases U.2.2.1 with e|e
    .exact(k.still (by rw[U.1];exact ok) e).2
    .rw[a6] at e;cases e
  .rcases h.known i a j U.2.1 with ⟨_,a3⟩|k
   .rcases U.2.2.2 with e|e|⟨_,e,_⟩
    .rw[a3] at e;cases e
    .rw[a4] at e;cases e
    .rw[a3] at e;cases e
   .rcases U.2.2.2 with e|e|⟨_,_,e⟩
    .exact k.vq (by rw[U.1];exact ok) e
    iterate 2
     .rw[a4] at e;cases e
 .have⟨x,q,o⟩:=touch_of j;rcases getElem?_append_cases q with ⟨_,vV⟩|⟨_,Me⟩
  .exact(h.known i a (by rw[touchAt_of vV];exact o) s).imp id λk=>k.app (λ_=>Knows.app u) u
  .have d:=knows_own q;rw[n x Me] at d;rcases p x Me a o with ok|⟨ok,haw⟩|⟨ok,hak⟩
   .exact .inr ⟨λ_=>d,λe=>absurd ok e,λe=>absurd e (A.ks _ ok),.inr d,λe=>absurd e (A.kh _ ok)⟩
   .exact .inr ⟨λe=>absurd ok (A.ks _ e),λ_ e=>absurd ok e,λ_ w=>gq,.inr d,λe=>absurd e (A.sh _ ok)⟩
   .exact .inl ⟨ok,hak⟩
def PT.Fe{r:Nat}(h:PT Shun dT Still c (λi=>Before t i r) t)(y:t.g? r=some c)(s:∀f∈u,f.g=c)(q:∀f∈u,∀b,f.act.touch?=some b->Shun b.loc/\b.kind=.atomic) :
  PT Shun dT Still c (λi=>Before (t++u) i r) (t++u):=by
 have⟨z,B,p⟩:=p7.1 y;refine⟨λm=>noRace_append (h.clean m) s λi a o f d b v n=>?_,λi a o w=>?_,nw h.over λf d=>.inr (.inl (s f d))⟩
 .have⟨C,j⟩:=q f d b v;rcases h.known i a o n.2.1 with ⟨_,pO⟩|k
  .rcases n.2.2.2 with e|e|⟨_,e,_⟩
   .rw[pO] at e;cases e
   .rw[j] at e;cases e
   .rw[pO] at e;cases e
  .rcases n.2.2.2 with e|e|⟨_,_,e⟩
   .exact⟨r,z,B,p,k.vq (by rw[n.1];exact C) e⟩
   iterate 2
    .rw[j] at e;cases e
 .have⟨x,A,l⟩:=touch_of o;rcases getElem?_append_cases A with ⟨_,vV⟩|⟨_,Me⟩
  .exact(h.known i a (by rw[touchAt_of vV];exact l) w).imp id λk=>k.app (λ_=>Before.app u) u
  .exact .inl (q x Me a l)
def PT.release(h:PT Shun dT Still c (Knows t c) t){y:MemOp}(e:y.g=c)(d:y.act.touch?=none):PT Shun dT Still c (λi=>Before (t++#[y]) i t.size) (t++#[y]):=by refine h.mute (λi b=>?_) (λf a=>by simp at a;subst a;exact d);exact .inr (b.hb_new lr iq e)
theorem PT.fork{U:Loc->Prop}{B:Nat}(h:Past Shun B t)(G:Deaf t c=0)(J:∀l,Shun l->U l)(q p:FuncId)(m:String) :
  PT U dT Still c (Knows (t++#[{ g:=0,fn:=q,pos:=m,act:=.go c },{ g:=c,fn:=p,pos:=m,act:=.start }]) c) (t++#[{ g:=0,fn:=q,pos:=m,act:=.go c },{ g:=c,fn:=p,pos:=m,act:=.start }]):=by
 generalize P:(#[{ g:=0,fn:=q,pos:=m,act:=.go c },{ g:=c,fn:=p,pos:=m,act:=.start }]:Trace)=u;have O:∀r∈u,r.act.touch?=none:=by intro r f;subst P;simp only[List.mem_toArray,nk,vh,or_false] at f;rcases f with rfl|rfl<;>rfl
 have o:(t++u)[t.size]?=some { g:=0,fn:=q,pos:=m,act:=.go c }:=gq
 have e1:(t++u)[t.size+1]?=some { g:=c,fn:=p,pos:=m,act:=.start }:=gq
 have H:(t++u).deaf c (t.size+1)=0:=by rw[deaf_succ o,deaf_old lr];exact G
 have F:HappensBefore (t++u) t.size (t.size+1) :=
  Relation.TransGen.single (.inr ⟨.spawn (by rw[act?_of o]) (by rw[act?_of e1]) (by simp[Trace.g?,e1]),⟨0,by simp[Trace.g?,o],by rw[deaf_old lr];exact h.hears⟩,⟨c,by simp[Trace.g?,e1],H⟩⟩);refine⟨λn=>?_,λi a w N=>?_,nw (λi g M I _ d=>h.over i g M I d) λr f=>.inr (.inr (O r f))⟩
 .rintro⟨i,j,D,⟨a,b,w,K,L⟩,R,S⟩;have⟨x,E,v⟩:=touch_of w;have⟨y,Q,z⟩:=touch_of K;rcases getElem?_append_cases Q with ⟨hj,G6⟩|⟨_,YS⟩
  .have T:i<t.size:=Nat.lt_trans D hj;have s:t[i]?=some x:=gq
   exact h.clean n ⟨i,j,D,⟨a,b,by simp[Trace.act?,s,v],by simp[Trace.act?,G6,z],L⟩,λe=>R (hb_app u e),λe=>S (hb_app u e)⟩
  .grind
 .have⟨x,E,v⟩:=touch_of w;rcases getElem?_append_cases E with ⟨_,s⟩|⟨_,Me⟩
  .rcases h.known i a (by rw[touchAt_of s];exact v) N with k|⟨k1,k2⟩
   .have C:Knows (t++u) c i:=⟨t.size+1,_,e1,rfl,.inr ((k.hb_new lr o rfl).trans F)⟩;have A:=k.app u;exact .inr ⟨λ_=>C,λ_ _=>A,λ_ _=>⟨A,C⟩,.inl A,λ_ _=>C⟩
   .exact .inl ⟨J _ k1,k2⟩
  .grind
theorem PT.join{r:Nat}(h:PT Shun dT Still c (λi=>Before t i r) t)(j:RelBy ad t c r)(w:Deaf t 0=0)(A:∀k,r<k->t.act? k≠some (.mark (.release ad)))(fn:FuncId)(pos:String)(B:Nat)
 (v:∀o∈t++#[{ g:=0,fn:=fn,pos:=pos,act:=.mark (.acquire ad) }],o.act.low B):Past Shun B (t++#[{ g:=0,fn:=fn,pos:=pos,act:=.mark (.acquire ad) }]):=by
 generalize x:(#[{ g:=0,fn:=fn,pos:=pos,act:=.mark (.acquire ad) }]:Trace)=u at v |-;have F:∀o∈u,o.act.touch?=none:=by intro o f;subst x;simp at f;subst f;rfl
 have l:(t++u)[t.size]?=some { g:=0,fn:=fn,pos:=pos,act:=.mark (.acquire ad) }:=gq
 have U:r<t.size:=lt_of_act? j.act;have q:(t++u).heard t.size:=⟨0,by simp[Trace.g?,l],by rw[deaf_old lr];exact w⟩;have d:HappensBefore (t++u) r t.size:=by refine Relation.TransGen.single (.inr ⟨.marked U (.inr (by rw[act?_old U];exact j.act)) (by rw[act?_of l]) (λk h1 h2=>?_),(heard_old U).2 j.heard,q⟩);rw[act?_old h2];exact A k h1
 have H:∀i,Before t i r->Knows (t++u) 0 i:=λi n=>⟨t.size,_,l,rfl,.inr ((n.app u).hb d)⟩;have p:=h.mute H F;refine⟨p.clean,λi a D E=>?_,λi g m C b=>?_,?_,v⟩
 .rcases p.known i a D E with k|k
  .exact .inr k
  .exact .inl (k.any.elim id id)
 .by_cases s:g=c
  .subst s;have⟨z,G,J⟩:=p7.1 m;rcases getElem?_append_cases G with ⟨n,hz'⟩|⟨_,hzu⟩
   .have y:t.g? i=some g:=by rw[<-g?_old n];exact m
    have I:i<=r:=Nat.le_of_not_lt λe=>j.after i e y ((counts_old n).1 b);refine⟨t.size,by simp[Trace.g?,l],?_⟩;rcases Nat.lt_or_ge i r with e|hge
    .exact Relation.TransGen.trans (.single (.inl ⟨e,g,m,by rw[g?_old U];exact j.g⟩)) d
    .grind
   .grind
  .exact p.over i g m C s b
 .show Deaf (t++u) 0=0;subst x;rw[Deaf_push];exact w
end
end
def branch(S' S:List World->Prop):Prop:=S []/\∃w,S'=λp=>S (w::p)
structure Tr where
 S:List World->Prop
 acc:Acc branch S
def Sub (a b:Tr):Prop:=branch a.S b.S
def Da:WellFounded Sub:=⟨λa=>InvImage.accessible (f:=Tr.S) a.acc⟩
def Tr.leaf:Tr:=⟨λ_=>False,Acc.intro _ λ_ h=>h.1.elim⟩
def Uu(f:World->Tr):List World->Prop
 | []=>True
 | w::p=>(f w).S p
def Tr.node(f:World->Tr):Tr:=⟨Uu f,Acc.intro _ λa h=>by
 obtain⟨_,w,rfl⟩:=h;exact(f w).acc⟩
def KE(f:World->Tr)(w:World):Sub (f w) (.node f):=⟨trivial,w,rfl⟩
def Tr.ofNat:Nat->Tr
 | 0=>.leaf
 | n+1=>.node λ_=>Tr.ofNat n
def sub_ofNat(n:Nat)(w:World):Sub (.ofNat n) (.ofNat (n+1)):=KE (λ_=>.ofNat n) w
def Ht(P:Program)(main:Bool)(R:Wq)(D:World->World->Array Event->Prop)(Stop:Gq)(X:Tr->Gq)(τ:Tr)(g:Goroutine)(w:World):Prop :=
 ∀aE,R w aE->Stop g aE\/(g.status=.running/\∃g' w' es uY,stepG P main g aE=.go g' w' es/\D aE w' es/\Sub uY τ/\X uY g' w')
def bT(P:Program)(main:Bool)(R:Wq)(D:World->World->Array Event->Prop)(Stop:Gq)(τ:Tr)(g:Goroutine)(w:World):Prop :=
 ∃X:Tr->Goroutine->World->Prop,X τ g w/\∀τ g w,X τ g w->Ht P main R D Stop X τ g w
def Way (P:Program)(main:Bool)(R:Wq)(D:World->World->Array Event->Prop)(Stop:Gq)(g:Goroutine)(w:World):Prop:=∃τ,bT P main R D Stop τ g w
section
variable {P:Program}{main:Bool}{R R':Wq}{D D':World->World->Array Event->Prop}{Stop Dl:Gq}
def bT.now{j:Tr}(h:bT P main R D Stop j g w)(k:R w aE) :
  Stop g aE\/(g.status=.running/\∃f b c a,stepG P main g aE=.go f b c/\D aE b c/\Sub a j/\bT P main R D Stop a f b):=by
 have⟨X,l,i⟩:=h;rcases i _ _ _ l aE k with x|⟨hs,f,b,c,a,e,d,s,n⟩
 .exact .inl x
 .exact .inr ⟨hs,f,b,c,a,e,d,s,X,n,i⟩
theorem bT.CG{i:Tr}(h:Ht P main R D Stop (bT P main R D Stop) i g w):bT P main R D Stop i g w:=by
 refine⟨λa c f=>bT P main R D Stop a c f\/(a=i/\c=g/\f=w),.inr ⟨rfl,rfl,rfl⟩,λa c f U b j=>?_⟩;rcases U with U|⟨rfl,rfl,rfl⟩
 .rcases U.now j with x|⟨hs,g2,w2,es,τ2,e,d,s,n⟩
  .exact .inl x
  .grind
 .rcases h b j with x|⟨hs,g2,w2,es,τ2,e,d,s,n⟩
  .exact .inl x
  .grind
def bT.leaf{τ:Tr}(h:∀aE,R w aE->Stop g aE):bT P main R D Stop τ g w:=.CG λaE hr=>.inl (h aE hr)
def bT.rely(trans:∀a b c,R a b->R b c->R a c){τ:Tr}(h:bT P main R D Stop τ g w)(hr:R w aE):bT P main R D Stop τ g aE :=
 .CG λoh I5=>h.now (trans _ _ _ hr I5)
def bT.running(a:∀w,R w w)(b:∀g w,Stop g w->g.status=.running){c:Tr}(h:bT P main R D Stop c g w):g.status=.running:=by
 rcases h.now (a w) with x|⟨x,_⟩
 .exact b _ _ x
 .exact x
theorem bT.rM(k:∀a b,R' a b->R a b)(p:∀w i f,D w i f->D' w i f)(l:∀g w,Stop g w->Dl g w){j:Tr}(h:bT P main R D Stop j g w):bT P main R' D' Dl j g w:=by
 have⟨X,U,m⟩:=h;refine⟨X,U,λj g w U c o=>?_⟩;rcases m _ _ _ U c (k _ _ o) with x|⟨hs,g',i,f,uY,e,d,s,n⟩
 .exact .inl (l _ _ x)
 .grind
def Way.rM(hR:∀a b,R' a b->R a b)(hD:∀w w' es,D w w' es->D' w w' es)(hS:∀g w,Stop g w->Dl g w)(h:Way P main R D Stop g w):Way P main R' D' Dl g w :=
 let ⟨τ,x⟩:=h;⟨τ,x.rM hR hD hS⟩
def Way.rely(d:∀a b c,R a b->R b c->R a c)(h:Way P main R D Stop g w)(e:R w aE):Way P main R D Stop g aE:=let ⟨τ,x⟩:=h;⟨τ,x.rely d e⟩
def Way.stop(h:∀a,R w a->Stop g a):Way P main R D Stop g w:=⟨.leaf,.leaf h⟩
def Sr (P:Program)(main:Bool)(R:Wq)(D:World->World->Array Event->Prop)(Stop:Gq)(g:Goroutine)(w:World):Prop :=
 Stop g w\/(g.status=.running/\∃g' w' es,stepG P main g w=.go g' w' es/\D w w' es/\Way P main R D Stop g' w')
def Way.head(h:Way P main R D Stop g w)(a:R w aE):Sr P main R D Stop g aE:=by
 have⟨b,h⟩:=h;rcases h.now a with x|⟨hs,g',w',es,uY,e,d,_,n⟩
 .exact .inl x
 .exact .inr ⟨hs,g',w',es,e,d,uY,n⟩
def Way.Ev(h:∀a,R w a->Sr P main R D Stop g a):Way P main R D Stop g w:=by
 have l:∀a:World,∃k:Tr,R w a->Stop g a\/(g.status=.running/\∃i b c,stepG P main g a=.go i b c/\D a b c/\bT P main R D Stop k i b):=by
  intro a;by_cases j:R w a
  .rcases h a j with x|⟨hs,i,b,c,e,d,k,n⟩
   .exact⟨.leaf,λ_=>.inl x⟩
   .exact⟨k,λ_=>.inr ⟨hs,i,b,c,e,d,n⟩⟩
  .exact⟨.leaf,λz=>absurd z j⟩
 have⟨f,m⟩:=Classical.axiomOfChoice l;refine⟨.node f,.CG λa j=>?_⟩;rcases m a j with x|⟨hs,i,b,c,e,d,n⟩
 .exact .inl x
 .exact .inr ⟨hs,i,b,c,f a,e,d,KE f a,n⟩
def Way.step(hs:g.status=.running)(h:∀aE,R w aE->∃g' w' es,stepG P main g aE=.go g' w' es/\D aE w' es/\Way P main R D Stop g' w'):Way P main R D Stop g w :=
 Way.Ev λaE hr=>.inr ⟨hs,h aE hr⟩
def Way.bind(b:∀w,R w w)(h:Way P main R D (λg w=>Way P main R D Stop g w) g w):Way P main R D Stop g w:=by
 obtain⟨f,h⟩:=h;induction f using Da.induction generalizing g w with
 | _ f ih =>
  refine Way.Ev λc a=>?_;rcases h.now a with x|⟨hs,g',w',es,uY,e,d,s,n⟩
  .exact x.head (b c)
  .exact .inr ⟨hs,g',w',es,e,d,ih uY s n⟩
def cB(h:Goes P main R D Stop n g w):Way P main R D Stop g w:=by
 induction n generalizing g w with
 | zero=>exact⟨.leaf,.leaf h⟩
 | succ n d =>
  rcases h with h|⟨hs,h⟩
  .exact⟨.leaf,.leaf h⟩
  .refine Way.step hs λa c=>?_;have b:=h a c;cases e:stepG P main g a with
   | go g' w' es=>rw[e,goes_go] at b;exact⟨g',w',es,rfl,b.1,d b.2⟩
   | _=>rw[e] at b;exact b.elim
end
section
def GU:Obj->TypeId
 | .cells _ t _=>t
 | .stringIter s _=>1000+s.size
 | _=>999
def jT(n:Nat)(l:Loc):Prop:=(∀ad:Addr,l=.cell ad->ad.block<n)/\∀b,l=.obj b->b<n
def jT.mono(h:jT n l)(a:n<=m):jT m l:=⟨λc e=>lL (h.1 c e) a,λb e=>lL (h.2 b e) a⟩
structure Cfg where
 P:Program
 ty:TypeId
 A:Nat
 E:Nat
 Wg:Nat
 C:Nat
 qL:Nat->Prop
 N0:Nat
 KT:TypeId->Prop
 Still:Nat->Prop
 Shun:Loc->Prop
 B:Nat
 z:Value
 zs:Value
 zE:Value
 val:Value
 Mz:Loc->Prop
namespace Cfg
variable (K:Cfg)
def VC (b:Nat):Prop:=b=K.A\/b=K.E\/b=K.Wg
def dT (w:World)(b:Nat):Prop:=K.qL b\/(K.N0<=b/\∃o,w.heap[b]?=some o/\K.KT (GU o))
def jf (S:Nat->Prop)(l:Loc):Prop:=(∃a,l=.cell a/\S a.block)\/l=.obj K.E\/∃b,l=.obj b/\S b
abbrev Qx(w:World):Loc->Prop:=K.jf (K.dT w)
def fy(l:Loc):Prop:=∃a,l=.cell a/\K.Still a.block
def cases:Array CommCase:=#[rcase K.A K.z,rcase K.E K.zE]
def qB (w:World)(st sm:Int):Prop:=w.heap[K.Wg]?=some (.cells #[.int .u64 st,.int .u32 sm] K.ty)
def yB:Addr:=⟨K.Wg,0,none⟩
structure Fit:Prop where
 AE:K.A≠K.E
 AW:K.A≠K.Wg
 EW:K.E≠K.Wg
 YW:¬K.qL K.A
 k0E:¬K.qL K.E
 k0W:¬K.qL K.Wg
 A0:K.A<K.N0
 E0:K.E<K.N0
 W0:K.Wg<K.N0
 sA:¬K.Still K.A
 sE:¬K.Still K.E
 sW:¬K.Still K.Wg
 s0:∀b,K.Still b->b<K.N0
 c0:∀b,K.qL b->b<K.N0
 k0s:∀b,K.qL b->¬K.Still b
 Lc:K.qL K.C
 OO:∀a:Addr,a.block=K.Wg->K.Shun (.cell a)
 j8:∀l,K.Shun l->∃a,l=.cell a/\a.block<K.N0
 k0h:∀a:Addr,K.qL a.block->¬K.Shun (.cell a)
 sh:∀a:Addr,K.Still a.block->¬K.Shun (.cell a)
 WB:K.Wg<K.B
 CB:K.C<K.B
end Cfg
variable (K:Cfg)
def Cfg.dT.low{K:Cfg}(h:K.dT w b)(a:b<K.N0):K.qL b:=h.elim id λz=>absurd z.1 oq
theorem Cfg.dT.lt{K:Cfg}(F:K.Fit)(U:K.N0<=w.heap.size)(h:K.dT w b):b<w.heap.size:=by
 rcases h with h|⟨_,o,h,_⟩
 .exact lL (F.c0 b h) U
 .grind
def Cfg.dT.of_same{K:Cfg}(h:K.dT w b)(e:w'.heap[b]?=w.heap[b]?):K.dT w' b:=by
 rcases h with h|⟨h1,o,h,h2⟩
 .exact .inl h
 .exact .inr ⟨h1,o,e.trans h,h2⟩
def Cfg.jf.mono{K:Cfg}(h:∀b,S b->S' b)(c:K.jf S l):K.jf S' l:=by
 rcases c with ⟨a,rfl,ha⟩|rfl|⟨b,rfl,ha⟩
 .exact .inl ⟨a,rfl,h _ ha⟩
 .exact .inr (.inl rfl)
 .exact .inr (.inr ⟨b,rfl,h _ ha⟩)
def Cfg.Fit.kA{K:Cfg}(F:K.Fit)(w:World):¬K.dT w K.A:=λh=>F.YW (h.low F.A0)
def Cfg.Fit.kE{K:Cfg}(F:K.Fit)(w:World):¬K.dT w K.E:=λh=>F.k0E (h.low F.E0)
def Cfg.Fit.kW{K:Cfg}(F:K.Fit)(w:World):¬K.dT w K.Wg:=λh=>F.k0W (h.low F.W0)
def Cfg.Fit.ks{K:Cfg}(F:K.Fit)(w:World)(b:Nat)(h:K.dT w b):¬K.Still b:=λa=>F.k0s b (h.low (F.s0 b a)) a
def Cfg.Fit.kC{K:Cfg}(F:K.Fit)(w:World):K.dT w K.C:=.inl F.Lc
def Cfg.Fit.kh{K:Cfg}(F:K.Fit)(w:World)(a:Addr)(h:K.dT w a.block):¬K.Shun (.cell a):=λb=>by have⟨d,e,c⟩:=F.j8 _ b;cases e;exact F.k0h a (h.low c) b
def Cfg.Fit.apart{K:Cfg}(F:K.Fit)(c:∃w,∀b,S b->K.dT w b):Apart K.Shun (K.jf S) K.fy:=by
 have⟨w,c⟩:=c;refine⟨?_,?_,?_⟩
 .rintro l (⟨a,rfl,h⟩|rfl|⟨a,rfl,h⟩) ⟨b,e,h'⟩
  .cases e;exact F.ks w _ (c _ h) h'
  .cases e
  .cases e
 .rintro l (⟨a,rfl,h⟩|rfl|⟨a,rfl,h⟩) hs
  .exact F.kh w a (c _ h) hs
  iterate 2
   .have⟨a,e,_⟩:=F.j8 _ hs;cases e
 .rintro l ⟨a,rfl,h⟩;exact F.sh a h
def Cfg.Fit.CW{K:Cfg}(F:K.Fit):K.C≠K.Wg:=λe=>F.k0W (e▸F.Lc)
structure RM(w aE:World):Prop where
 tape:aE.tape=w.tape
 os:aE.os=w.os
 output:aE.output=w.output
 block:∀b,b<w.heap.size->¬K.dT w b->¬K.VC b->aE.heap[b]?=w.heap[b]?
 size:w.heap.size<=aE.heap.size
def RC (w aE:World):Prop:=∀b,K.dT w b\/K.Still b->aE.heap[b]?=w.heap[b]?
structure RJ(S:Nat->Prop)(w aE:World):Prop where
 rc:∀b,S b\/K.Still b->aE.heap[b]?=w.heap[b]?
 live:ConcN.WgLive K.ty K.Wg w->ConcN.WgLive K.ty K.Wg aE
def Li (w':World)(e:Event):Prop:=(∃a wr,e=⟨.cell a,wr,false⟩/\(K.dT w' a.block\/(K.Still a.block/\wr=false)))\/∃b wr,e=⟨.obj b,wr,false⟩/\K.dT w' b
def Vz (w':World)(e:Event):Prop:=(∀x,(MemAct.ofEvent e).touch?=some x->Ok0 K.Shun (K.Qx w') K.fy x/\jT w'.heap.size x.loc)/\e.loc≠.mark .disable/\e.loc≠.mark .enable/\MemAct.ofEvent e≠.mark (.release K.yB)
structure DK(w w':World)(es:Array Event):Prop where
 tape:w'.tape=w.tape
 os:w'.os=w.os
 output:w'.output=w.output
 block:∀b,b<w.heap.size->¬K.dT w b->w'.heap[b]?=w.heap[b]?
 stay:∀b,K.dT w b->K.dT w' b
 born:∀b,w.heap.size<=b->b<w'.heap.size->K.dT w' b
 keep:w'.heap[K.C]?=w.heap[K.C]?
 grow:w.heap.size<=w'.heap.size
 evs:∀e∈es,Li K w' e
structure DM(w w':World)(es:Array Event):Prop where
 block:∀b,K.dT w b\/K.Still b\/K.VC b->w'.heap[b]?=w.heap[b]?
 born:∀b,K.dT w' b->K.dT w b
 grow:w.heap.size<=w'.heap.size
 evs:∀e∈es,Vz K w' e
section
variable {K:Cfg}{w aE oh:World}
def RM.refl(w:World):RM K w w:=⟨rfl,rfl,rfl,λ_ _ _ _=>rfl,lr⟩
def RM.trans(h:RM K w aE)(d:RM K aE oh):RM K w oh:=⟨d.tape.trans h.tape,d.os.trans h.os,d.output.trans h.output,λb l a c=>(d.block b (lL l h.size) (λz=>a (z.of_same (h.block b l a c).symm)) c).trans (h.block b l a c),lT h.size d.size⟩
def RM.at(w:World)(d:Nat):RM K w (w.at d):=⟨rfl,rfl,rfl,λ_ _ _ _=>rfl,lr⟩
def RC.refl(w:World):RC K w w:=λ_ _=>rfl
def RC.trans(h:RC K w aE)(c:RC K aE oh):RC K w oh:=λb a=>(c b (a.imp (λz=>z.of_same (h b a)) id)).trans (h b a)
def RC.at(w:World)(d:Nat):RC K w (w.at d):=λ_ _=>rfl
def RJ.refl(w:World):RJ K S w w:=⟨λ_ _=>rfl,id⟩
def RJ.trans(h:RJ K S w aE)(a:RJ K S aE oh):RJ K S w oh:=⟨λb z=>(a.rc b z).trans (h.rc b z),a.live ∘ h.live⟩
end
variable [ConcX.Payload][ConcR.Payload]
def RJ.rw{K:Cfg}(a:S K.C)(h:RJ K S w aE):ConcN.RW K.ty K.Wg K.C 1 0 0 w aE:=by have e:=h.rc K.C (.inl a);refine⟨λ_ h=>absurd h oq,h.live,?_,by simp[World.cell?,e]⟩;rintro⟨cs,hc,hn⟩;exact⟨cs,e.trans hc,hn⟩
def AtSend(v:Value)(Next:Gq)(g:Goroutine)(w:World):Prop :=
 g.status=.running/\K.N0<=w.heap.size/\stepG K.P false g w=.comm g #[scase K.A v K.zs] true .send w #[]/\∀aE,RC K w aE->Next (Conc.served g undef) aE
def O1 (S:Nat->Prop):Nat->Loc->Prop:=λ_ l=>K.jf S l
def WK:Nat->Loc->Prop:=λ_ l=>K.fy l
abbrev WJ:=ConcN.RW K.ty K.Wg K.C 1 0 0
abbrev DJ(S:Nat->Prop):=ConcN.DWs K.Wg (O1 K S) (WK K) K.C 1 1
abbrev yD:=ConcN.AtR0 K.P K.ty K.Wg K.C 1 0 1 K.val
abbrev NZ:=ConcN.AtK1 K.P K.ty K.Wg K.C 1 0 1
abbrev NW:=ConcN.AtD1 K.P K.ty K.Wg K.C 1 0 1
abbrev Hj:=ConcN.AtD2 K.P K.ty K.Wg K.C 1 0 1
abbrev NX:=ConcN.AtD3 K.P K.ty K.Wg K.C 1 0 1
abbrev NY:=ConcN.AtD4 K.P K.ty K.Wg
abbrev OZ:=ConcR.DC0
def AtClose(g:Goroutine)(w:World):Prop :=
 g.status=.running/\K.N0<=w.heap.size/\mayWake K.P g=true/\∃g',g'.status=.running /\
  (w.heap[K.E]?=some (.chan 0 #[] false 0 0 false)->stepG K.P false g w=.go g' (w.setChan K.E 0 #[] true 0 0 false) (closeEvents K.E)) /\
  ∀aE,RC K w aE->ConcN.WgLive K.ty K.Wg aE->Way K.P false (RJ K (K.dT aE)) (DJ K (K.dT aE)) (yD K) g' aE
def mK:Vq->Goroutine->World->Prop
 | []=>Way K.P false (RC K) (DK K) (AtClose K)
 | v::vs=>Way K.P false (RC K) (DK K) (AtSend K v (mK vs))
def nF:Vq->Goroutine->World->Prop
 | []=>AtClose K
 | v::vs=>AtSend K v (mK K vs)
def qT(vs:Vq):mK K vs=Way K.P false (RC K) (DK K) (nF K vs):=by cases vs<;>rfl
section main
variable [ConcX.Shy K.Wg K.C](L:Nat)(Az:Gq)(Post:Value->World->Prop)
abbrev iv:=ConcX.RPa K.ty K.Wg K.C [K.val]
abbrev BG:=ConcX.RPb K.ty K.Wg K.C [K.val]
abbrev BF:=ConcX.KPa K.ty K.Wg K.C [K.val]
abbrev yG:=ConcX.Full K.C [K.val]
abbrev mL:=ConcX.DPi K.Mz K.Wg K.C L
abbrev vw:=ConcX.AtKd K.P K.ty K.Wg K.C L [K.val] K.Mz Az
abbrev jG:=ConcX.AtW1 K.P K.ty K.Wg K.C L [K.val] K.Mz Az Post
abbrev N2:=ConcX.AtW2 K.P K.ty K.Wg K.C L [K.val] K.Mz Az Post
abbrev Hk:=ConcX.AtW3 K.P K.ty K.Wg K.C L [K.val] K.Mz Post
abbrev N3:=ConcX.AtW4 K.P K.Wg K.C L K.Mz Post
abbrev N1:=ConcX.AtKe K.P K.Wg K.C L K.Mz Post
abbrev Hg:=ConcX.AtAcq K.P K.Wg K.C L K.Mz Post
abbrev OY:=ConcX.AtRetJ K.P K.Wg K.C K.Mz Post
def Hu(k:Nat)(v:Value)(ok:Bool)(Next:Gq)(g gx:Goroutine)(w:World):Prop :=
 g.frame=gx.frame/\g.callers=gx.callers/\g.dying=gx.dying/\(∀aE,RM K w aE->stepG K.P true g aE=.comm gx K.cases true .select aE #[])/\∀aE,RM K w aE->K.N0<=aE.heap.size->Next (Conc.served gx (commResult K.cases .select k v ok)) aE
def yE(k:Nat)(v:Value)(ok:Bool)(Next:Gq)(g:Goroutine)(w:World):Prop:=g.status=.running/\∃gx,Hu K k v ok Next g gx w
def wT(g:Goroutine)(w:World):Prop:=g.status=.running/\(BF K w->∀L,K.N0<=L->Way K.P true (iv K) (mL K L) (vw K L Az) g w)
def Ho(g:Goroutine)(w:World):Prop:=Way K.P true (RM K) (DM K) (wT K Az) g w
def vy:Vq->Goroutine->World->Prop
 | []=>Way K.P true (RM K) (DM K) (yE K 1 K.zE false (Ho K Az))
 | v::vs=>Way K.P true (RM K) (DM K) (yE K 0 v true (vy vs))
def j1:Vq->Goroutine->World->Prop
 | []=>yE K 1 K.zE false (Ho K Az)
 | v::vs=>yE K 0 v true (vy K Az vs)
def ow:Vq->Goroutine->Goroutine->World->Prop
 | []=>Hu K 1 K.zE false (Ho K Az)
 | v::vs=>Hu K 0 v true (vy K Az vs)
def GN(vs:Vq)(g:Goroutine)(w:World):j1 K Az vs g w↔g.status=.running/\∃a,ow K Az vs g a w:=by cases vs<;>exact Iff.rfl
def uj(vs:Vq):vy K Az vs=Way K.P true (RM K) (DM K) (j1 K Az vs):=by cases vs<;>rfl
end main
abbrev Ch:=Sum (Vq) (Sum (Vq) (Sum (Value × Vq) (Sum (Unit) (Sum (Unit) (Sum (Unit) (Sum (Unit) (Sum (Unit) (Sum (Unit) (Nat × Nat)))))))))
abbrev Ch.fresh(vs:Vq):Ch:=.inl vs
abbrev Ch.work(vs:Vq):Ch:=.inr (.inl vs)
abbrev Ch.eK(v:Value)(vs:Vq):Ch:=.inr (.inr (.inl (v,vs)))
abbrev Ch.r0:Ch:=.inr (.inr (.inr (.inl ())))
abbrev Ch.k1:Ch:=.inr (.inr (.inr (.inr (.inl ()))))
abbrev Ch.d1:Ch:=.inr (.inr (.inr (.inr (.inr (.inl ())))))
abbrev Ch.d2:Ch:=.inr (.inr (.inr (.inr (.inr (.inr (.inl ()))))))
abbrev Ch.d3:Ch:=.inr (.inr (.inr (.inr (.inr (.inr (.inr (.inl ())))))))
abbrev Ch.d4:Ch:=.inr (.inr (.inr (.inr (.inr (.inr (.inr (.inr (.inl ()))))))))
abbrev Ch.quit(n:Nat)(d:Nat):Ch:=.inr (.inr (.inr (.inr (.inr (.inr (.inr (.inr (.inr ((n,d))))))))))
def Ch.on{k:Type}(a b:Vq->k)(c:Value->Vq->k)(d e f g h i:k)(j:Nat->Nat->k):Ch->k:=Sum.elim a (Sum.elim b (Sum.elim (λx=>c x.1 x.2) (Sum.elim (λ_=>d) (Sum.elim (λ_=>e) (Sum.elim (λ_=>f) (Sum.elim (λ_=>g) (Sum.elim (λ_=>h) (Sum.elim (λ_=>i) λx=>j x.1 x.2))))))))
def Ch.bV{motive:Ch->Prop}(fresh:∀(vs:Vq),motive (Ch.fresh vs))(work:∀(vs:Vq),motive (Ch.work vs))(eK:∀(v:Value) (vs:Vq),motive (Ch.eK v vs))(r0:motive Ch.r0)(k1:motive Ch.k1)(d1:motive Ch.d1)(d2:motive Ch.d2)(d3:motive Ch.d3)(d4:motive Ch.d4)(quit:∀(n:Nat) (d:Nat),motive (Ch.quit n d))(x:Ch):motive x:=by
 rcases x with vs|vs|⟨v,vs⟩|_|_|_|_|_|_|⟨n,d⟩
 .exact fresh vs
 .exact work vs
 .exact eK v vs
 .exact r0
 .exact k1
 .exact d1
 .exact d2
 .exact d3
 .exact d4
 .exact quit n d
abbrev Ma:=Sum (Vq) (Sum (Vq) (Sum (Vq) (Sum (Unit) (Sum (Unit) (Sum (Unit) (Sum (Unit) (Sum (Unit) (Sum (Unit) (Sum (Unit) (Sum (Unit) (Unit)))))))))))
abbrev Ma.front(vs:Vq):Ma:=.inl vs
abbrev Ma.walk(vs:Vq):Ma:=.inr (.inl vs)
abbrev Ma.eK(vs:Vq):Ma:=.inr (.inr (.inl vs))
abbrev Ma.kd:Ma:=.inr (.inr (.inr (.inl ())))
abbrev Ma.w1:Ma:=.inr (.inr (.inr (.inr (.inl ()))))
abbrev Ma.w2:Ma:=.inr (.inr (.inr (.inr (.inr (.inl ())))))
abbrev Ma.w3:Ma:=.inr (.inr (.inr (.inr (.inr (.inr (.inl ()))))))
abbrev Ma.blk:Ma:=.inr (.inr (.inr (.inr (.inr (.inr (.inr (.inl ())))))))
abbrev Ma.w4:Ma:=.inr (.inr (.inr (.inr (.inr (.inr (.inr (.inr (.inl ()))))))))
abbrev Ma.ke:Ma:=.inr (.inr (.inr (.inr (.inr (.inr (.inr (.inr (.inr (.inl ())))))))))
abbrev Ma.acq:Ma:=.inr (.inr (.inr (.inr (.inr (.inr (.inr (.inr (.inr (.inr (.inl ()))))))))))
abbrev Ma.over:Ma:=.inr (.inr (.inr (.inr (.inr (.inr (.inr (.inr (.inr (.inr (.inr (())))))))))))
def Ma.on{m:Type}(a b c:Vq->m)(d e f g h i j k l:m):Ma->m:=Sum.elim a (Sum.elim b (Sum.elim c (Sum.elim (λ_=>d) (Sum.elim (λ_=>e) (Sum.elim (λ_=>f) (Sum.elim (λ_=>g) (Sum.elim (λ_=>h) (Sum.elim (λ_=>i) (Sum.elim (λ_=>j) (Sum.elim (λ_=>k) λ_=>l))))))))))
def Ma.bV{motive:Ma->Prop}(front:∀(vs:Vq),motive (Ma.front vs))(walk:∀(vs:Vq),motive (Ma.walk vs))(eK:∀(vs:Vq),motive (Ma.eK vs))(kd:motive Ma.kd)(w1:motive Ma.w1)(w2:motive Ma.w2)(w3:motive Ma.w3)(blk:motive Ma.blk)(w4:motive Ma.w4)(ke:motive Ma.ke)(acq:motive Ma.acq)(over:motive Ma.over)(x:Ma):motive x:=by
 rcases x with vs|vs|vs|_|_|_|_|_|_|_|_|_
 .exact front vs
 .exact walk vs
 .exact eK vs
 .exact kd
 .exact w1
 .exact w2
 .exact w3
 .exact blk
 .exact w4
 .exact ke
 .exact acq
 .exact over
def Bn (S:Nat->Prop):Ch->Tr->Goroutine->World->Prop :=
 let G:=λA c g w=>bT K.P false (WJ K) OZ A c g w
 let H:=λe c g w=>bT K.P false (RC K) (DK K) (nF K e) c g w
 Ch.on H H (λv e _ g w=>∃a,g=parked a #[scase K.A v K.zs] .send/\∀b,RC K w b->mK K e (Conc.served a undef) b) (λc g w=>bT K.P false (RJ K S) (DJ K S) (yD K) c g w) (G (NZ K)) (G (NW K)) (G (Hj K)) (G (NX K)) (G (NY K)) λn d c g _=>QuitsD K.P n d g/\c=.ofNat n
section main
variable [ConcX.Shy K.Wg K.C](L:Nat)(Az:Gq)(Post:Value->World->Prop)
def yI:Ma->Tr->Goroutine->World->Prop :=
 let G:=λR A b g w=>bT K.P true R (mL K L) A b g w
 let H:=λd b g w=>bT K.P true (RM K) (DM K) (j1 K Az d) b g w
 Ma.on H H (λd _ g w=>∃c a,g=parked a K.cases .select/\ow K Az d c a w) (G (iv K) (vw K L Az)) (G (iv K) (jG K L Az Post)) (G (iv K) (N2 K L Az Post)) (G (BG K) (Hk K L Post)) (λb g w=>∃a:Goroutine,g={ a with status:=.blocked }/\a.status=.running/\a.offers=none/\bT K.P true (BG K) (mL K L) (Hk K L Post) b a w) (G AtRel (N3 K L Post)) (G AtRel (N1 K L Post)) (G AtRel (Hg K L Post)) (λb g w=>bT K.P true (RM K) (DM K) (wT K Az) b g w)
end main
def Ch.rel:Ch->Bool:=Ch.on (λ_=>false) (λ_=>false) (λ_ _=>false) false true true true true true λ_ _=>true
def Ch.shut:Ch->Bool:=Ch.on (λ_=>false) (λ_=>false) (λ_ _=>false) true true true true true true λ_ _=>true
def Ch.deaf:Ch->Nat:=Ch.on (λ_=>0) (λ_=>0) (λ_ _=>0) 0 0 1 1 1 1 λ_ d=>d
def Ch.left:Ch->Nat:=Ch.on (·.length) (·.length) (λ_ a=>a.length+1) 0 0 0 0 0 0 λ_ _=>0
def Ch.gm:Ch->Nat:=Ch.on (λ_=>9) (λ_=>9) (λ_ _=>8) 7 6 5 4 3 2 λ_ _=>1
def Ma.deaf:Ma->Nat:=Ma.on (λ_=>0) (λ_=>0) (λ_=>0) 0 1 1 1 1 1 1 0 0
def Ma.early:Ma->Bool:=Ma.on (λ_=>true) (λ_=>true) (λ_=>true) false false false false false false false false true
def Ma.gm(done:Bool):Ma->Nat:=Ma.on (λ_=>10) (λ_=>10) (λ_=>9) 7 (if done then 5 else 6) (if done then 6 else 5) 4 3 3 2 1 8
def Ch.done:Ch->Bool:=Ch.on (λ_=>false) (λ_=>false) (λ_ _=>false) false false false false false false λ_ _=>true
def KK:Int:=4294967296
def kX:Ch->Ma->Int->Int->Prop :=
 let F:=λ(_ _:Int)=>False
 let E:=λ(_:Vq)=>F
 let A:=λ(a b e d:Int)=>e=a/\d=b
 let V:=λx (c:Vq) e (d:Int)=>c=x/\e=KK/\d=0
 let R:=Ma.on E (V []) E (A KK 0) (A KK 0) (A KK 0) (A (KK+1) 0) (A (KK+1) 0) F F F (A KK 0)
 let D:=λa=>Ma.on E E E F F F (A a 0) (A a 0) F F F F
 Ch.on (λc=>Ma.on (V c) E (V c) F F F F F F F F F) (λc=>Ma.on E (V c) (V c) F F F F F F F F F) (λv c=>Ma.on E (V (v::c)) E F F F F F F F F F) R R R (D 1) (D 1) (D 0) λ_ _=>Ma.on E (λc e d=>c=[]/\e=0/\d=0) E (A 0 0) (A 0 0) (A 0 0) (A 0 1) F (A 0 0) (A 0 0) (A 0 0) (A 0 0)
def pj (S:Nat->Prop)(c:Nat)(rel:Bool)(t:Trace):Prop :=
 if rel then ∃r,PT K.Shun (K.jf S) K.fy c (λi=>Before t i r) t/\ConcN.RelBy K.yB t c r/\∀k,r<k->t.act? k≠some (.mark (.release K.yB))
 else PT K.Shun (K.jf S) K.fy c (Knows t c) t
section main
variable [ConcX.Shy K.Wg K.C](L:Nat)(Az:Gq)(Post:Value->World->Prop)
structure J(S:Nat->Prop)(c:Nat)(x:Ch)(y:Ma)(dZ et:Tr)(gs:Array Goroutine)(a b:Goroutine)(w:World)(t:Trace)(q:Nat->Nat):Prop where
 pos:0<c
 h0:gs[0]?=some a
 hc:gs[c]?=some b
 old:∀i g,0<i->i≠c->gs[i]?=some g->QuitsD K.P (q i) (Deaf t i) g
 above:∀j,gs.size<=j->Deaf t j=0
 ch:Bn K S x dZ b w
 ma:yI K L Az Post y et a w
 pair:∃st sm,kX x y st sm/\K.qB w st sm
 vH:∃s,w.heap[K.A]?=some (.chan 0 #[] false s s false)
 yq:w.heap[K.E]?=some (.chan 0 #[] x.shut 0 0 false)
 pay:ConcN.PayAt K.C 1 w
 full:x.rel=true->yG K w
 nU:y.early=true->∀b,S b↔K.dT w b
 rh:∀b,K.qL b->S b
 of:∃w₀,∀b,S b->K.dT w₀ b
 size:y.early=true->K.N0<=w.heap.size
 sF:y.early=false->K.N0<=L/\∀b,S b->b<L
 lz:y.early=true->∀i z,touchAt t i=some z->jT w.heap.size z.loc\/Knows t c i\/(K.Shun z.loc/\z.kind=.atomic)
 tr:pj K S c x.rel t
 d0:Deaf t 0=y.deaf
 dc:Deaf t c=x.deaf
end main
end
variable {a b a' b':Goroutine}{K:Cfg}{Az:Gq}{Post:Value->World->Prop}{L:Nat}{x x':Ch}{y y':Ma}{dZ et fc fj:Tr}{gs:Array Goroutine}{q:Nat->Nat}{sl:Option (Nat × Nat)}{es:Array Event}
section
open Go.ConcN (sumTo upd sumTo_upd upd_ne upd_same)
def iA{es:Array Event}{g:Nat}{fn:FuncId}{pos:String}:∀b∈MemOp.ofEvents g fn pos es,b.g=g:=λb a=>by obtain⟨e,_,rfl⟩:=Conc.mem_ofEvents a;rfl
theorem ul(h:e.mute=true):MemAct.ofEvent e≠.mark (.release ad):=by
 have⟨U,c,b⟩:=e;intro a;cases U with
 | mark m=>cases m<;>simp_all [Event.mute,MemAct.ofEvent]
 | _=>simp_all [Event.mute]
variable [ConcX.Payload][ConcR.Payload][ConcX.Shy K.Wg K.C]
variable {S S':Nat->Prop}{w w':World}
def nF.run{vs:Vq}(h:nF K vs g w):g.status=.running:=by cases vs<;>exact h.1
def j1.run{vs:Vq}(h:j1 K Az vs g w):g.status=.running:=by cases vs<;>exact h.1
def ow.rely{vs:Vq}(h:ow K Az vs g gx w)(c:RM K w aE):ow K Az vs g gx aE:=by cases vs<;>exact⟨h.1,h.2.1,h.2.2.1,λb a=>h.2.2.2.1 b (c.trans a),λb a=>h.2.2.2.2 b (c.trans a)⟩
def ow.comm{vs:Vq}(h:ow K Az vs g gx w):stepG K.P true g w=.comm gx K.cases true .select w #[]:=by cases vs<;>exact h.2.2.2.1 w (RM.refl w)
def ow.tries{vs:Vq}(h:ow K Az vs g gx w):j1 K Az vs { parked gx K.cases .select with status:=.running } w:=by cases vs<;>exact⟨rfl,gx,rfl,rfl,rfl,λa b=>by rw[<-h.2.2.2.1 a b];exact stepG_same h.1.symm h.2.1.symm h.2.2.1.symm a,h.2.2.2.2⟩
def Bn.rely(j:S K.C)(h:Bn K S x dZ b w)(c:x.shut=false->RC K w w')(i:RJ K S w w'):Bn K S x dZ b w':=by
 cases x using Ch.bV with
 | fresh vs|work vs=>exact bT.rely (R:=RC K) (λ_ _ _=>RC.trans) h (c rfl)
 | eK v vs=>obtain⟨a,e,k⟩:=h;exact⟨a,e,λg f=>k g ((c rfl).trans f)⟩
 | r0=>exact bT.rely (R:=RJ K S) (λ_ _ _=>RJ.trans) h i
 | k1|d1|d2|d3|d4=>exact bT.rely (R:=WJ K) (λ_ _ _=>ConcN.RW.trans) h (i.rw j)
 | quit n d=>exact h
def pg (K:Cfg)[ConcX.Payload][ConcX.Shy K.Wg K.C]:Ma->World->World->Prop:=Ma.on (λ_=>RM K) (λ_=>RM K) (λ_=>RM K) (iv K) (iv K) (iv K) (BG K) (BG K) AtRel AtRel AtRel (RM K)
def yI.rely(h:yI K L Az Post y et a w)(c:pg K y w w'):yI K L Az Post y et a w':=by
 cases y using Ma.bV with
 | front vs|walk vs=>exact bT.rely (R:=RM K) (λ_ _ _=>RM.trans) h c
 | over=>exact bT.rely (R:=RM K) (λ_ _ _=>RM.trans) h c
 | eK vs=>obtain⟨d,b,e,k⟩:=h;exact⟨d,b,e,k.rely c⟩
 | kd|w1|w2=>exact bT.rely (R:=iv K) (λ_ _ _=>ConcX.RPa.trans) h c
 | w3=>exact bT.rely (R:=BG K) (λ_ _ _=>ConcX.RPb.trans) h c
 | blk=>obtain⟨b,e,h1,h2,k⟩:=h;exact⟨b,e,h1,h2,bT.rely (R:=BG K) (λ_ _ _=>ConcX.RPb.trans) k c⟩
 | w4|ke|acq=>exact bT.rely atRel_trans h c
def pg.at(y:Ma)(w:World)(d:Nat):pg K y w (w.at d):=by
 cases y using Ma.bV with
 | front vs|walk vs|eK vs=>exact RM.at w d
 | over=>exact RM.at w d
 | kd|w1|w2=>exact ConcX.RPa.at w d
 | w3|blk=>exact ConcX.RPb.at w d
 | w4|ke|acq=>exact⟨d,rfl⟩
def Bn.status(h:Bn K S x dZ b w):b.status=.running\/(∃(v:Value) (vs:Vq) (a:Goroutine),x=.eK v vs/\b=parked a #[scase K.A v K.zs] .send)\/(∃n d,x=.quit n d/\QuitsD K.P n d b):=by
 cases x using Ch.bV with
 | fresh vs|work vs=>exact .inl (bT.running RC.refl (λ_ _=>nF.run) h)
 | eK v vs=>obtain⟨a,e,_⟩:=h;exact .inr (.inl ⟨v,vs,a,rfl,e⟩)
 | r0=>exact .inl (bT.running RJ.refl (λ_ _ x=>x.1) h)
 | k1|d1|d2|d3|d4=>exact .inl (bT.running ConcN.RW.refl (λ_ _ x=>x.1) h)
 | quit n d=>exact .inr (.inr ⟨n,d,rfl,h.1⟩)
def yI.status(c:∀g w,Az g w->g.status=.running)(h:yI K L Az Post y et a w):a.status=.running\/(∃(vs:Vq) (b:Goroutine),y=.eK vs/\a=parked b K.cases .select)\/(∃b:Goroutine,y=.blk/\a={ b with status:=.blocked }/\b.status=.running/\b.offers=none):=by
 cases y using Ma.bV with
 | front vs|walk vs=>exact .inl (bT.running RM.refl (λ_ _=>j1.run) h)
 | over=>exact .inl (bT.running RM.refl (λ_ _ z=>z.1) h)
 | eK vs=>obtain⟨_,b,e,_⟩:=h;exact .inr (.inl ⟨vs,b,rfl,e⟩)
 | kd|w1|w2=>exact .inl (bT.running ConcX.RPa.refl (λ_ _ x=>x.1) h)
 | w3=>exact .inl (bT.running ConcX.RPb.refl (λ_ _ x=>x.1) h)
 | blk=>obtain⟨b,e,h1,h2,_⟩:=h;exact .inr (.inr ⟨b,rfl,e,h1,h2⟩)
 | w4|ke|acq=>exact .inl (bT.running atRel_refl (λ_ _ x=>x.1) h)
def Bn.still(h:Bn K S x dZ b w)(a:∃s,w'.heap[K.A]?=some (.chan 0 #[] false s s false)):Conc.woken K.P g g' w' b=b:=by
 rcases h.status with e|⟨v,vs,gx,_,rfl⟩|⟨n,d,_,hq⟩
 .exact woken_run e
 .have⟨s,c⟩:=a;exact woken_send_open g g' c
 .exact woken_quitsD hq
theorem yI.woken(c:∀g w,Az g w->g.status=.running)(h:yI K L Az Post y et a w')(l:∃s,w'.heap[K.A]?=some (.chan 0 #[] false s s false))(u:(∃j,y=.eK j)->w'.heap[K.E]?=some (.chan 0 #[] false 0 0 false)) :
  ∃f b,yI K L Az Post f b (Conc.woken K.P g g' w' a) w'/\(f=y\/(y=.blk/\f=.w3)):=by
 rcases h.status c with e|⟨j,gx,rfl,rfl⟩|⟨gx,rfl,rfl,i,ho⟩
 .rw[woken_run e];exact⟨y,et,h,.inl rfl⟩
 .have⟨s,i⟩:=l;have:(parked gx K.cases .select).again w'=parked gx K.cases .select:=again_all_open λo d=>by simp only[Cfg.cases,List.mem_toArray,nk,vh,or_false] at d;grind
  rw[woken_of_again this];exact⟨_,et,h,.inl rfl⟩
 .unfold Conc.woken;split
  .rw[ConcX.again_blocked i ho];have⟨U,e,h3,_,k⟩:=h;have:U=gx:=by have e1:=congrArg Goroutine.frame e;have⟨r,m,z,p,v⟩:=gx;have⟨t,n,B,q,x⟩:=U;grind
   subst this;exact⟨.w3,_,k,.inr ⟨rfl,rfl⟩⟩
  .exact⟨_,et,h,.inl rfl⟩
def J.at(F:K.Fit)(h:J K L Az Post S c x y dZ et gs a b w t q)(d:Nat):J K L Az Post S c x y dZ et gs a b (w.at d) t q :=
 ⟨h.pos,h.h0,h.hc,h.old,h.above,h.ch.rely (h.rh _ F.Lc) (λ_=>RC.at w d) ⟨λ_ _=>rfl,id⟩,h.ma.rely (pg.at y w d),h.pair,h.vH,h.yq,h.pay,h.full,h.nU,h.rh,h.of,h.size,h.sF,h.lz,h.tr,h.d0,h.dc⟩
def pj.grow(h:pj K S c r t)(g:∀b,S b->S' b)(f:∀i z,touchAt t i=some z->K.jf S' z.loc->K.jf S z.loc\/(r=false/\Knows t c i)\/(K.Shun z.loc/\z.kind=.atomic)):pj K S' c r t:=by
 unfold pj at h |-;cases r with
 | false=>exact PT.mono h (λ_=>Cfg.jf.mono g) (λi z e a=>(f i z e a).imp id (Or.imp And.right id))
 | true=>obtain⟨r,j,k,d⟩:=h;exact⟨r,PT.mono j (λ_=>Cfg.jf.mono g) (λi z e a=>(f i z e a).imp id (Or.imp (λz=>by cases z.1) id)),k,d⟩
def pj.app0(l:c≠0)(h:pj K S c r t)(i:∀a∈u,a.g=0)(j:∀a∈u,∀b,a.act.touch?=some b->Ok0 K.Shun (K.jf S) K.fy b)(n:∀a∈u,a.act≠.mark (.release K.yB)):pj K S c r (t++u):=by
 unfold pj at h |-;cases r with
 | false=>exact PT.app0 h (λ_=>Knows.app u) i j
 | true =>
  have⟨r,p,q,f⟩:=h;refine⟨r,PT.app0 p (λ_=>Before.app u) i j,q.appOther i (λe=>l e.symm),λk m e=>?_⟩;have⟨a,o,d⟩:=p7.1 e;rcases getElem?_append_cases o with ⟨_,La⟩|⟨_,Qm⟩
  .exact f k m (by rw[act?_of La,d])
  .exact n a Qm d
def pZ(b:n<=m)(h:∀i z,touchAt t i=some z->jT n z.loc\/Knows t c i\/(K.Shun z.loc/\z.kind=.atomic))(f:∀d∈u,∀z,d.act.touch?=some z->jT m z.loc) :
  ∀i z,touchAt (t++u) i=some z->jT m z.loc\/Knows (t++u) c i\/(K.Shun z.loc/\z.kind=.atomic):=by
 intro i z g;have⟨d,e,a⟩:=touch_of g;rcases getElem?_append_cases e with ⟨_,La⟩|⟨_,Qm⟩
 .rcases h i z (by rw[touchAt_of La];exact a) with h|h|h
  .exact .inl (h.mono b)
  .exact .inr (.inl (h.app u))
  .exact .inr (.inr h)
 .exact .inl (f d Qm z a)
theorem pj.mute(h:pj K S c r t)(f:∀a∈u,a.act.touch?=none)(l:∀a∈u,a.act≠.mark (.release K.yB)):pj K S c r (t++u):=by
 unfold pj at h |-;cases r with
 | false=>exact PT.mute h (λ_=>Knows.app u) f
 | true =>
  have⟨r,n,o,g⟩:=h;refine⟨r,PT.mute n (λ_=>Before.app u) f,o.app (λi q _ b=>?_),λk j e=>?_⟩
  .have⟨z,p,_⟩:=b;have⟨a,d,m⟩:=touch_of p;grind
  .have⟨a,d,U⟩:=p7.1 e;rcases getElem?_append_cases d with ⟨_,La⟩|⟨_,Qm⟩
   .exact g k j (by rw[act?_of La,U])
   .exact l a Qm U
theorem JE(U:∀j z,0<j->j≠c->gs[j]?=some z->QuitsD K.P (q j) (Deaf t j) z)(hi:i=0\/i=c)(e:∀l∈ops,l.g=i) :
  ∀j z,0<j->j≠c->((gs.map (Conc.woken K.P g g' w')).setIfInBounds i g')[j]?=some z->QuitsD K.P (q j) (Deaf (t++ops) j) z:=by
 intro j z h f d;have a:i≠j:=gq
 rw[uU a,Array.getElem?_map] at d;obtain⟨y,k,rfl⟩:=p7.1 d;have b:=U j y h f k;rw[woken_quitsD b,Deaf_other t a _ e];exact b
def J.iu(F:K.Fit)(h:J K L Az Post S c x y dZ et gs a b w t q)(Q:stepG K.P true a w=.go a' w' es)(f:y'.early=y.early)
 (d:∀k,S k\/K.Still k\/k=K.A\/k=K.E->w'.heap[k]?=w.heap[k]?)(m:y.early=true->∀b,K.dT w' b->K.dT w b)(g:y.early=true->w.heap.size<=w'.heap.size)(X:x.shut=false->y.early=true)
 (u:∃H G,kX x y' H G/\K.qB w' H G)(O:∀e∈es,∀z,(MemAct.ofEvent e).touch?=some z->Ok0 K.Shun (K.jf S) K.fy z)(r:y.early=true->∀e∈es,∀z,(MemAct.ofEvent e).touch?=some z->jT w'.heap.size z.loc)(W:∀e∈es,MemAct.ofEvent e≠.mark (.release K.yB))
 (N:deafBehind y.deaf es=y'.deaf)(V:yI K L Az Post y' fj a' w') :
  ∃l v,runT K.P (crowd gs w sl) 0=(.next (crowd l w' sl),v)/\l.size=gs.size/\J K L Az Post S c x y' dZ fj l a' b w' (t++v) q:=by
 have U:0<gs.size:=(oK.1 h.h0).1;have n:(0:Nat)≠c:=by have:=h.pos;omega
 have hA:∃s,w'.heap[K.A]?=some (.chan 0 #[] false s s false):=by have⟨s,hs⟩:=h.vH;exact⟨s,(d _ (.inr (.inr (.inl rfl)))).trans hs⟩
 have o:RJ K S w w':=⟨λk T=>d k (T.elim .inl λz=>.inr (.inl z)),λ_=>by have⟨H,G,_,e⟩:=u;exact⟨H,G,e⟩⟩;have I:x.shut=false->RC K w w':=λhx k T=>d k (T.elim (λz=>.inl ((h.nU (X hx) k).2 z)) λz=>.inr (.inl z));have Z:=o.rc K.C (.inl (h.rh _ F.Lc));refine⟨_,_,runT_crowd_go h.h0 (show stepG K.P (0==0) a w=_ from Q),by simp,
  ⟨h.pos,by simp[U],?_,JE h.old (.inl rfl) iA,λj hj=>?_,h.ch.rely (h.rh _ F.Lc) I o,V,u,hA,(d _ (i3 rfl)).trans h.yq,?_,λhr=>?_,λz b=>?_,h.rh,h.of,λz=>lT (h.size (f▸z)) (g (f▸z)),λz=>h.sF (f▸z),λz=>pZ (g (f▸z)) (h.lz (f▸z)) (λop i B Y=>by obtain⟨e,p,rfl⟩:=Conc.mem_ofEvents i;exact r (f▸z) e p B Y),?_,?_,?_⟩⟩
 .rw[uU n,Array.getElem?_map,h.hc];simp only[Option.map_some,sK];exact h.ch.still hA
 .have R:gs.size<=j:=by simpa using hj
  rw[Deaf_other t oq _ iA];exact h.above j R
 .have⟨cs,M,hn⟩:=h.pay;exact⟨cs,Z.trans M,hn⟩
 .exact ConcX.ChanAt.of_block (h.full hr) Z
 .have B:y.early=true:=f▸z;exact⟨λD=>((h.nU B b).1 D).of_same (d b (.inl D)),λD=>(h.nU B b).2 (m B b D)⟩
 .exact h.tr.app0 (Ne.symm n) iA (λop i z Y=>by obtain⟨e,p,rfl⟩:=Conc.mem_ofEvents i;exact O e p z Y) (λop i=>by obtain⟨e,p,rfl⟩:=Conc.mem_ofEvents i;exact W e p)
 .rw[Deaf_own,h.d0];exact N
 .rw[Deaf_other t n _ iA];exact h.dc
theorem J.jL(h:J K L Az Post S c x y dZ et gs a b w t q)(Y:stepG K.P false b w=.go b' w' es)
 (I:yI K L Az Post y' fj (Conc.woken K.P b b' w' a) w')(V:y'.deaf=y.deaf)(U:y'.early=y.early)(F:Bn K S' x' fc b' w')(N:∃n m,kX x' y' n m/\K.qB w' n m)
 (O:∃s,w'.heap[K.A]?=some (.chan 0 #[] false s s false))(Q:w'.heap[K.E]?=some (.chan 0 #[] x'.shut 0 0 false))(D:ConcN.PayAt K.C 1 w')(o:x'.rel=true->yG K w')
 (u:y.early=true->∀b,S' b↔K.dT w' b)(p:∀b,K.qL b->S' b)(r:∃i,∀b,S' b->K.dT i b)(l:w.heap.size<=w'.heap.size)(v:y.early=false->∀b,S' b->b<L)(B:y.early=true->∀e∈es,∀z,(MemAct.ofEvent e).touch?=some z->jT w'.heap.size z.loc)(M:pj K S' c x'.rel (t++MemOp.ofEvents c b.frame.fn b.frame.place es))(G:deafBehind x.deaf es=x'.deaf) :
  ∃d g,runT K.P (crowd gs w sl) c=(.next (crowd d w' sl),g)/\d.size=gs.size/\J K L Az Post S' c x' y' fc fj d (Conc.woken K.P b b' w' a) b' w' (t++g) q:=by
 have Z:c<gs.size:=(oK.1 h.hc).1;have f:c≠0:=by have:=h.pos;omega
 have hb:(c==0)=false:=by simp[f]
 refine⟨_,_,runT_crowd_go h.hc gq,by simp,
  ⟨h.pos,?_,K4 gq,JE h.old (.inr rfl) iA,λj T=>?_,F,I,N,O,Q,D,o,λz=>u (U▸z),p,r,λz=>lT (h.size (U▸z)) l,λz=>⟨(h.sF (U▸z)).1,v (U▸z)⟩,λz=>pZ l (h.lz (U▸z)) (λop k X W=>by obtain⟨e,R,rfl⟩:=Conc.mem_ofEvents k;exact B (U▸z) e R X W),M,?_,?_⟩⟩
 .rw[uU f,Array.getElem?_map,h.h0];rfl
 .have H:gs.size<=j:=by simpa using T
  rw[Deaf_other t oq _ iA];exact h.above j H
 .rw[Deaf_other t f _ iA,h.d0,V]
 .rw[Deaf_own,h.dc];exact G
def sn{vs:Vq}(h:kX x (.eK vs) st sm):x.shut=false:=by cases x using Ch.bV<;>first|rfl|exact h.elim
def uz(h:kX x .blk st sm):kX x .w3 st sm:=by cases x using Ch.bV<;>first|exact h|exact h.elim
section
variable (h:y'=y\/(y=.blk/\y'=.w3))
def oI(a:y'.early=true):y.early=true:=by
 rcases h with rfl|⟨rfl,rfl⟩
 .exact a
 .cases a
def Gf(a:y'.early=false):y.early=false:=by
 rcases h with rfl|⟨rfl,rfl⟩
 .exact a
 .rfl
def jD:y'.deaf=y.deaf:=by rcases h with rfl|⟨rfl,rfl⟩<;>rfl
def fs(a:kX x y st sm):kX x y' st sm:=by
 rcases h with rfl|⟨rfl,rfl⟩
 .exact a
 .exact uz a
end
theorem J.Gg(F:K.Fit)(A:∀g w,Az g w->g.status=.running)(h:J K L Az Post S c x y dZ et gs a b w t q)(hi:gs[i]?=some g)(u:i≠0)(v:i≠c)(r:g.status=.running) :
  ∃f p E d M I,runT K.P (crowd gs w sl) i=(.next (crowd f w sl),p)/\f.size=gs.size/\J K L Az Post S c x E dZ d f M b w (t++p) I/\sumTo gs.size I<sumTo gs.size q:=by
 have Q:i<gs.size:=(oK.1 hi).1;have s:=h.old i g oq v hi;have T:(i==0)=false:=by simp[u]
 cases a4:q i with
 | zero=>rw[a4] at s;rw[s.1] at r;cases r
 | succ k =>
  rw[a4] at s;rcases s with ⟨hf,_⟩|⟨_,g',es,hm,a5,a9⟩
  .rw[hf] at r;cases r
  have⟨X,W,D,V⟩:=h.pair;have⟨E,d,C,U⟩:=h.ma.woken A (g:=g) (g':=g') h.vH (λ⟨Y,e⟩=>by subst e;have:=h.yq;rw[sn D] at this;exact this);refine⟨_,_,E,d,Conc.woken K.P g g' w a,upd q i k,runT_crowd_go (sl:=sl) hi (by rw[T];exact a5 w),by simp,
   ⟨h.pos,?_,?_,λj z B O l=>?_,λj B=>?_,h.ch,C,⟨X,W,?_,V⟩,h.vH,h.yq,h.pay,h.full,λz=>h.nU (oI U z),h.rh,h.of,λz=>h.size (oI U z),λz=>h.sF (Gf U z),λG=>pZ lr (h.lz (oI U G)) (λH m z l=>by obtain⟨e,n,rfl⟩:=Conc.mem_ofEvents m;rw[touch_mute (hm e n)] at l;cases l),?_,?_,?_⟩,?_⟩
  .rw[uU u,Array.getElem?_map,h.h0];rfl
  .rw[uU v,Array.getElem?_map,h.hc];simp only[Option.map_some,sK];exact h.ch.still h.vH
  .by_cases e:i=j
   .subst e;rw[K4 gq] at l;obtain rfl:=CX l;rw[upd_same,Deaf_own];exact a9
   .rw[uU e,Array.getElem?_map] at l;obtain⟨G,R,rfl⟩:=p7.1 l;have o:=h.old j G B O R;rw[woken_quitsD o,upd_ne q k (Ne.symm e),Deaf_other t e _ iA];exact o
  .have N:gs.size<=j:=by simpa using B
   rw[Deaf_other t (g':=i) oq _ iA];exact h.above j N
  .rcases U with rfl|⟨rfl,rfl⟩
   .exact D
   .exact uz D
  .refine h.tr.mute (λH m=>by obtain⟨e,n,rfl⟩:=Conc.mem_ofEvents m;exact touch_mute (hm e n)) (λH m=>?_);obtain⟨e,n,rfl⟩:=Conc.mem_ofEvents m;exact ul (hm e n)
  .rw[Deaf_other t u _ iA,h.d0];rcases U with rfl|⟨rfl,rfl⟩<;>rfl
  .rw[Deaf_other t v _ iA];exact h.dc
  .have h2:sumTo gs.size (upd q i k)+(k+1)=sumTo gs.size q+k:=by have:=sumTo_upd q k id Q;simpa[a4] using this
   omega
end
variable {yr:Array Goroutine}
variable {S S':Nat->Prop}{w w':World}{u:Trace}
section
open Go.ConcN (sumTo upd sumTo_upd upd_ne upd_same)
variable [ConcX.Payload][ConcR.Payload][ConcX.Shy K.Wg K.C]
def J.comm(F:K.Fit)(h:J K L Az Post S c x y dZ et gs a b w t q)(Z:yr[0]?=some a')(hc:yr[c]?=some b')(zW:yr.size=gs.size)(E:∀j,j≠0->j≠c->yr[j]?=gs[j]?)
 (l:∀v∈u,v.act.touch?=none)(I:∀g,∀v∈u,∀d,deafStep g d v=d)(Q:∀v∈u,v.act≠.mark (.release K.yB))(f:∀k,k≠K.A->w'.heap[k]?=w.heap[k]?)
 (hA:∃s,w'.heap[K.A]?=some (.chan 0 #[] false s s false))(M:Bn K S x' fc b' w')(P:yI K L Az Post y' fj a' w')(hp:∀H G,kX x y H G->kX x' y' H G)
 (p:x'.rel=x.rel)(r:x'.shut=x.shut)(T:x'.deaf=x.deaf)(U:y'.deaf=y.deaf)(m:w'.heap.size=w.heap.size)(o:y'.early=true->y.early=true)(D:y'.early=false->K.N0<=L/\∀b,S b->b<L) :
  J K L Az Post S c x' y' fc fj yr a' b' w' (t++u) q:=by
 have V:=f K.C (λe=>F.YW (e▸F.Lc));have hk:∀b,K.dT w b->K.dT w' b:=λb n=>n.of_same (f b (λe=>F.kA w (e▸n)));have O:∀b,K.dT w' b->K.dT w b:=λb n=>n.of_same (f b (λe=>F.kA w' (e▸n))).symm;refine⟨h.pos,Z,hc,λi g hi B W=>?_,λj hj=>?_,M,P,?_,hA,?_,?_,λhr=>?_,λz b=>⟨λn=>hk b ((h.nU (o z) b).1 n),λn=>(h.nU (o z) b).2 (O b n)⟩,h.rh,h.of,λz=>by rw[m];exact h.size (o z),D,λz=>by rw[m];exact pZ lr (h.lz (o z)) (λv R z X=>by rw[l v R] at X;cases X),?_,?_,?_⟩
 .rw[E i oq B] at W;rw[Deaf_quiet (I i)];exact h.old i g hi B W
 .rw[Deaf_quiet (I j)];exact h.above j oq
 .have⟨H,G,h1,h2⟩:=h.pair;exact⟨H,G,hp H G h1,(f _ (Ne.symm F.AW)).trans h2⟩
 .rw[r];exact(f _ (Ne.symm F.AE)).trans h.yq
 .have⟨Y,N,hn⟩:=h.pay;exact⟨Y,V.trans N,hn⟩
 .exact ConcX.ChanAt.of_block (h.full (p▸hr)) V
 .rw[p];exact h.tr.mute l Q
 .rw[Deaf_quiet (I 0),h.d0,U]
 .rw[Deaf_quiet (I c),h.dc,T]
def EQ(F:K.Fit)(s:Nat):RM K w (w.setChan K.A 0 #[] false s s false):=⟨rfl,rfl,rfl,λ_ _ _ a=>heap_setChan_ne w _ _ _ _ _ _ (λe=>a (.inl e.symm)),by simp[World.setChan]⟩
def EP(F:K.Fit)(s:Nat):RC K w (w.setChan K.A 0 #[] false s s false):=λb a=>heap_setChan_ne w _ _ _ _ _ _ (λe=>by subst e;exact a.elim (F.kA w) F.sA)
def J.qa(h:J K L Az Post S c x y dZ et gs a b w t q){j:Nat}(TA:j≠0)(TB:j≠c)(hg:gs[j]?=some g)(r:Nat)(sd:Bool):offersAt g r sd=[] :=
 offersAt_of_not_blocked (λhb=>by rcases(h.old j g oq TB hg).status with z|z<;>rw[z] at hb<;>cases hb) r sd
def Bn.qa(h:Bn K S x dZ b w)(g:∀v c,x≠.eK v c)(r:Nat)(f:Bool):offersAt b r f=[]:=by
 refine offersAt_of_not_blocked (λa=>?_) r f;rcases h.status with z|⟨v,c,_,e,_⟩|⟨n,d,_,hq⟩
 .rw[z] at a;cases a
 .exact g v c e
 .rcases hq.status with z|z<;>rw[z] at a<;>cases a
theorem J.Ng(F:K.Fit)(h:J K L Az Post S c x y dZ et gs a b w t q){vs:Vq}(W:y=.front vs\/y=.walk vs)(V:j1 K Az vs a w) :
  ∃I ops x' y' n i a' b' w' L',runT K.P (crowd gs w sl) 0=(.next (crowd I w' sl),ops)/\I.size=gs.size/\J K L' Az Post S c x' y' n i I a' b' w' (t++ops) q /\
   (x'.left<x.left\/(x'=x/\n=dZ/\y'.gm x.done<y.gm x.done)):=by
 have a9:0<gs.size:=(oK.1 h.h0).1;have Z:c<gs.size:=(oK.1 h.hc).1;have H:c≠0:=by have:=h.pos;omega
 have⟨_,f,V⟩:=(GN K Az vs a w).1 V;have N:stepG K.P (0==0) a w=.comm f K.cases true .select w #[]:=V.comm;have⟨s,T⟩:=h.vH;have⟨st,sm,hp,hwg⟩:=h.pair;have B:∀(r:Nat) (sd:Bool) (j:Nat) (g:Goroutine),j≠c->(gs.setIfInBounds 0 ph)[j]?=some g->offersAt g r sd=[]:=by
  intro r sd j g C G;rcases getElem?_stand gs 0 j g G with ⟨_,rfl⟩|⟨Y,Yc⟩
  .exact offersAt_ph _ _
  .exact h.qa Y C Yc r sd
 by_cases ae:∃v p,x=.eK v p
 .
  obtain⟨v,p,rfl⟩:=ae;have R:vs=v::p/\y=.walk vs:=by
   rcases W with rfl|rfl
   .exact hp.elim
   .exact⟨hp.1,rfl⟩
  obtain⟨rfl,rfl⟩:=R;obtain⟨u,rfl,O⟩:=h.ch;have hAE:K.A≠K.E:=F.AE;have M:=h.yq;have pA:partners (gs.setIfInBounds 0 ph) K.A true=[(c,0)]:=by rw[partners_one (stand_get H h.hc) (λk z hk hz=>B _ _ k z hk hz),offersAt_parked_send];simp
  have pE:partners (gs.setIfInBounds 0 ph) K.E true=[]:=by
   refine partners_nil λj g G=>?_;by_cases C:j=c
   .subst C;rw[stand_get H h.hc] at G;obtain rfl:=CX G;rw[offersAt_parked_send,iw hAE]
   .exact B _ _ j g C G
  have aa:=crowd_sel_recv_meets (sl:=sl) (c:=K.A) (z:=K.z) (gj:=u) (zj:=K.zs) h.h0 N rfl (λm c' hm l=>by
   rcases m with _|_|m
   .exact absurd rfl hm
   .simp only[Cfg.cases,IE,List.getElem?_cons_succ,K5,sK] at l;subst l;exact ways_recv_none M pE
   .simp[Cfg.cases] at l) T H h.hc pA;have a8:K.N0<=w.heap.size:=h.size rfl;have D:mK K p (Conc.served u undef) (w.setChan K.A 0 #[] false (s+1) (s+1) false):=O _ (EP F _);have o:vy K Az p (Conc.served f (commResult K.cases .select ((0:Nat):Int) v true)) (w.setChan K.A 0 #[] false (s+1) (s+1) false):=V.2.2.2.2 _ (EQ F _) (by simpa[World.setChan] using a8);rw[qT] at D;rw[uj] at o;have⟨n,D⟩:=D;have⟨i,o⟩:=o;refine⟨_,_,.work p,.walk p,n,i,Conc.served f (commResult K.cases .select ((0:Nat):Int) v true),Conc.served u undef,_,L,aa,by simp,?_,.inl (by simp[Ch.left,Ch.on])⟩;rw[ofEvents_none,Array.empty_append];refine J.comm F h (by rw[K4 (by simpa using a9)];rfl) (by rw[uU (Ne.symm H),K4 Z];rfl) iq
   (λj Y C=>by rw[uU (Ne.symm Y),uU (Ne.symm C)])
   (met_mute c 0 _ _ _ _ K.A s 0) (met_quiet c 0 _ _ _ _ K.A s 0) ?_ (λk hk=>heap_setChan_ne w _ _ _ _ _ _ (Ne.symm hk)) ⟨s+1,heap_setChan_self w T _ _ _ _ _ _⟩ D o ?_ rfl rfl rfl rfl (by simp[World.setChan]) (λ_=>rfl) (λz=>by cases z)
  .intro op U;simp only[List.mem_toArray,nk,vh,or_false] at U;rcases U with rfl|rfl|rfl|rfl<;>simp
  .rintro st sm ⟨_,h2,h3⟩;exact⟨rfl,h2,h3⟩
 .have a6:∀v p,x≠.eK v p:=λv p e=>ae ⟨v,p,e⟩;have pN:∀r,partners (gs.setIfInBounds 0 ph) r true=[]:=λr=>by
   refine partners_nil λj g G=>?_;by_cases C:j=c
   .subst C;rw[stand_get H h.hc] at G;obtain rfl:=CX G;exact h.ch.qa a6 _ _
   .exact B _ _ j g C G
  have a5:∀z j,j≠0->j≠c->(gs.setIfInBounds 0 z)[j]?=gs[j]?:=λz j Y _=>uU (Ne.symm Y);by_cases Q:x.shut=true
  .
   have M:=h.yq;rw[Q] at M;have R:vs=[]/\y=.walk vs:=by rcases W with rfl|rfl<;>cases x using Ch.bV<;>first|exact hp.elim|exact⟨hp.1,rfl⟩|cases Q
   obtain⟨rfl,rfl⟩:=R;have R5:=crowd_sel_recv_closed (sl:=sl) (c:=K.E) (z:=K.zE) h.h0 N rfl (λm c' hm l=>by
    rcases m with _|_|m
    .simp only[Cfg.cases,IE,K5,sK] at l;subst l;exact ways_recv_none T (pN _)
    .exact absurd rfl hm
    .simp[Cfg.cases] at l) M (pN _);have a8:K.N0<=w.heap.size:=h.size rfl;have⟨i,o⟩:=V.2.2.2.2 w (RM.refl w) a8;refine⟨_,_,x,.over,dZ,i,Conc.served f (commResult K.cases .select ((1:Nat):Int) K.zE false),b,w,L,R5,by simp,?_,.inr ⟨rfl,rfl,by simp[Ma.gm,Ma.on]⟩⟩;rw[ofEvents_none,Array.empty_append];refine J.comm F h (by rw[K4 a9];rfl) (by rw[uU (Ne.symm H)];exact h.hc) iq (a5 _) ?_ ?_ ?_ (λ_ _=>rfl) ⟨s,T⟩ h.ch o ?_ rfl rfl rfl rfl rfl (λ_=>rfl) (λz=>by cases z)
   .intro op U;simp at U;subst U;rfl
   .intro g op U d;simp at U;subst U;rfl
   .intro op U;simp at U;subst U;simp
   .intro st sm X;cases x using Ch.bV<;>first|exact X.elim|exact X.2|cases Q
  .
   have a7:x.shut=false:=gq
   have M:=h.yq;rw[a7] at M;have YQ:=crowd_waits (sl:=sl) h.h0 N (λcc ab=>by
    simp only[Cfg.cases,List.mem_toArray,nk,vh,or_false] at ab;rcases ab with rfl|rfl
    .exact ways_recv_none T (pN _)
    .exact ways_recv_none M (pN _));refine⟨_,_,x,.eK vs,dZ,et,parked f K.cases .select,b,w,L,YQ,by simp,?_,.inr ⟨rfl,rfl,by rcases W with rfl|rfl<;>simp[Ma.gm,Ma.on]⟩⟩;rw[ofEvents_none];refine J.comm F h (by simp[a9]) (by rw[uU (Ne.symm H)];exact h.hc) iq (a5 _) iq iq iq (λ_ _=>rfl) ⟨s,T⟩ h.ch ⟨a,f,rfl,V⟩ ?_ rfl rfl rfl (by rcases W with rfl|rfl<;>rfl) rfl (λ_=>by rcases W with rfl|rfl<;>rfl) (λz=>by cases z);intro st sm X;rcases W with rfl|rfl<;>cases x using Ch.bV<;>first|exact absurd rfl (a6 _ _)|exact X.elim|exact X|cases a7
theorem J.sends(F:K.Fit)(h:J K L Az Post S c x y dZ et gs a b w t q){v:Value}{vs:Vq}(hx:x=.fresh (v::vs)\/x=.work (v::vs))(hs:AtSend K v (mK K vs) b w) :
  ∃yr ops x' y' fc fj a' b' w',runT K.P (crowd gs w sl) c=(.next (crowd yr w' sl),ops)/\yr.size=gs.size/\J K L Az Post S c x' y' fc fj yr a' b' w' (t++ops) q /\
   (x'.left<x.left\/(x'.left=x.left/\x'.gm<x.gm)):=by
 have kF:0<gs.size:=(oK.1 h.h0).1;have TF:c<gs.size:=(oK.1 h.hc).1;have Qd:c≠0:=by have:=h.pos;omega
 have⟨_,hk0,VT,D7⟩:=hs;have X0:stepG K.P (c==0) b w=.comm b #[scase K.A v K.zs] true .send w #[]:=gq
 have⟨s,hA⟩:=h.vH;have⟨st,sm,hp,hwg⟩:=h.pair;have TN:∀(r:Nat) (sd:Bool) (j:Nat) (g:Goroutine),j≠0->(gs.setIfInBounds c ph)[j]?=some g->offersAt g r sd=[]:=by
  intro r sd j g TA hg;rcases getElem?_stand gs c j g hg with ⟨_,rfl⟩|⟨hj,Yc⟩
  .exact offersAt_ph _ _
  .exact h.qa TA hj Yc r sd
 by_cases Yv:∃fE,y=.eK fE
 .
  obtain⟨fE,rfl⟩:=Yv;have YP:fE=v::vs:=by rcases hx with rfl|rfl<;>exact hp.1
  subst YP;obtain⟨P4,gx,rfl,Qn⟩:=h.ma;have pA:partners (gs.setIfInBounds c ph) K.A false=[(0,0)]:=by
   rw[partners_one (j:=0) (stand_get (Ne.symm Qd) h.h0) (λk z hk hz=>TN _ _ k z hk hz),offersAt_parked_at (k:=0) (z:=K.z) rfl (λm cc hm K7=>by
    rcases m with _|_|m
    .exact absurd rfl hm
    .simp only[Cfg.cases,IE,List.getElem?_cons_succ,K5,sK] at K7;subst K7;simp only[rcase,ne_eq,Value.chan.injEq,sK];exact Ne.symm F.AE
    .simp[Cfg.cases] at K7)];simp
  have TG:=crowd_send_meets_sel (P:=K.P) (sl:=sl) (k:=0) (zj:=K.z) (gj:=gx) h.hc X0 hA (Ne.symm Qd) h.h0 rfl pA;have R4:mK K vs (Conc.served b undef) (w.setChan K.A 0 #[] false (s+1) (s+1) false):=D7 _ (EP F _);have TH:vy K Az vs (Conc.served gx (commResult K.cases .select ((0:Nat):Int) v true)) (w.setChan K.A 0 #[] false (s+1) (s+1) false):=Qn.2.2.2.2 _ (EQ F _) (by simpa[World.setChan] using hk0);rw[qT] at R4;rw[uj] at TH;have⟨fc,R4⟩:=R4;have⟨fj,TH⟩:=TH;refine⟨_,_,.work vs,.walk vs,fc,fj,Conc.served gx (commResult K.cases .select ((0:Nat):Int) v true),Conc.served b undef,_,TG,by simp,?_,.inl (by rcases hx with rfl|rfl<;>simp[Ch.left,Ch.on])⟩;rw[ofEvents_none,Array.empty_append];refine J.comm F h (by rw[uU Qd,K4 kF];rfl) (by rw[K4 (by simpa using TF)];rfl) iq
   (λj hj TB=>by rw[uU (Ne.symm TB),uU (Ne.symm hj)])
   (met_mute c 0 _ _ _ _ K.A s 0) (met_quiet c 0 _ _ _ _ K.A s 0) ?_ (λk hk=>heap_setChan_ne w _ _ _ _ _ _ (Ne.symm hk)) ⟨s+1,heap_setChan_self w hA _ _ _ _ _ _⟩ R4 TH ?_ (by rcases hx with rfl|rfl<;>rfl) (by rcases hx with rfl|rfl<;>rfl) (by rcases hx with rfl|rfl<;>rfl) rfl (by simp[World.setChan]) (λ_=>rfl) (λz=>by cases z)
  .intro op ko;simp only[List.mem_toArray,nk,vh,or_false] at ko;rcases ko with rfl|rfl|rfl|rfl<;>simp
  .intro st sm yu;rcases hx with rfl|rfl<;>exact⟨rfl,yu.2⟩
 .
  have VU:y=.front (v::vs)\/y=.walk (v::vs):=by
   rcases hx with rfl|rfl
   .cases y using Ma.bV with
    | front fE=>exact .inl (congrArg Ma.front hp.1)
    | eK fE=>exact absurd ⟨_,rfl⟩ Yv
    | _=>exact hp.elim
   .cases y using Ma.bV with
    | walk fE=>exact .inr (congrArg Ma.walk hp.1)
    | eK fE=>exact absurd ⟨_,rfl⟩ Yv
    | _=>exact hp.elim
  have F8:yI K L Az Post (.walk (v::vs)) et a w:=by
   rcases VU with rfl|rfl
   .exact h.ma
   .exact h.ma
  have zV:a.status=.running:=bT.running RM.refl (λ_ _=>j1.run) F8;have pN:partners (gs.setIfInBounds c ph) K.A false=[]:=by
   refine partners_nil λj g hg=>?_;by_cases TA:j=0
   .subst TA;rw[stand_get (Ne.symm Qd) h.h0] at hg;obtain rfl:=CX hg;exact offersAt_of_not_blocked (λhb=>by rw[zV] at hb;cases hb) _ _
   .exact TN _ _ j g TA hg
  have YQ:=crowd_waits (P:=K.P) (sl:=sl) h.hc X0 (λcc K7=>by simp only[List.mem_toArray,nk,vh,or_false] at K7;subst K7;exact ways_send_none hA (jl 0) pN);refine⟨_,_,.eK v vs,.walk (v::vs),dZ,et,a,parked b #[scase K.A v K.zs] .send,w,YQ,by simp,?_,.inr ⟨by rcases hx with rfl|rfl<;>simp[Ch.left,Ch.on],by rcases hx with rfl|rfl<;>simp[Ch.gm,Ch.on]⟩⟩;rw[ofEvents_none];refine J.comm F h (by rw[uU Qd];exact h.h0) (K4 TF) iq (λj _ TB=>uU (Ne.symm TB)) iq iq iq (λ_ _=>rfl) ⟨s,hA⟩ ⟨b,rfl,D7⟩ F8 ?_ (by rcases hx with rfl|rfl<;>rfl) (by rcases hx with rfl|rfl<;>rfl) (by rcases hx with rfl|rfl<;>rfl) (by rcases VU with rfl|rfl<;>rfl) rfl (λ_=>by rcases VU with rfl|rfl<;>rfl) (λz=>by cases z);intro st sm yu;rcases hx with rfl|rfl<;>rcases VU with rfl|rfl<;>first|exact⟨rfl,yu.2⟩|exact yu.elim
end
section
open Go.ConcN (sumTo upd sumTo_upd upd_ne upd_same)
abbrev Mu:=Nat × Nat × Nat × Tr × Nat × Tr
abbrev K0:Mu->Mu->Prop:=Prod.Lex (·<·) (Prod.Lex (·<·) (Prod.Lex (·<·) (Prod.Lex Sub (Prod.Lex (·<·) Sub))))
def QJ:WellFounded K0:=(Prod.lex Nat.lt_wfRel (Prod.lex Nat.lt_wfRel (Prod.lex Nat.lt_wfRel (Prod.lex ⟨Sub,Da⟩ (Prod.lex Nat.lt_wfRel ⟨Sub,Da⟩))))).wf
def mu (n:Nat)(x:Ch)(y:Ma)(dZ et:Tr):Mu:=(n,x.left,x.gm,dZ,y.gm x.done,et)
theorem wM(T:Trace)(B:Nat):∃U,B<=U/\∀d∈T,d.act.low U:=by
 have⟨l⟩:=T;induction l with
 | nil=>exact⟨B,lr,by simp⟩
 | cons o l g =>
  have⟨U,h1,h2⟩:=g;have:∃b,o.act.low b:=by
   cases e:o.act with
   | access ev =>
    have⟨f,i,h⟩:=ev;cases f with
    | cell a=>exact⟨a.block+1,Nat.lt_succ_self _⟩
    | obj r=>exact⟨r+1,Nat.lt_succ_self _⟩
    | _=>exact⟨0,trivial⟩
   | mark m =>cases m<;>first|exact⟨_,Nat.lt_succ_self _⟩|exact⟨0,trivial⟩
   | go _=>exact⟨0,trivial⟩
   | start=>exact⟨0,trivial⟩
   | _=>exact⟨_,Nat.lt_succ_self _⟩
  have⟨b,h3⟩:=this;refine⟨max U b,by omega,λd c=>?_⟩;simp only[List.mem_toArray,nk] at c;rcases c with rfl|c
  .exact MemAct.low_mono (Nat.le_max_right _ _) h3
  .exact MemAct.low_mono (Nat.le_max_left _ _) (h2 d gq)
variable [ConcX.Payload][ConcR.Payload][ConcX.Shy K.Wg K.C]
def Ej(h:x'.left<x.left):K0 (mu n x' y' fc fj) (mu n x y dZ et):=.right _ (.left _ _ h)
def td(h:x'.left=x.left)(a:x'.gm<x.gm):K0 (mu n x' y' fc fj) (mu n x y dZ et):=by unfold mu;rw[h];exact .right _ (.right _ (.left _ _ a))
def mc(h:x'.left=x.left)(a:x'.gm=x.gm)(b:Sub fc dZ):K0 (mu n x' y' fc fj) (mu n x y dZ et):=by unfold mu;rw[h,a];exact .right _ (.right _ (.right _ (.left _ _ b)))
def fM(h:y'.gm x.done<y.gm x.done):K0 (mu n x y' dZ fj) (mu n x y dZ et):=.right _ (.right _ (.right _ (.right _ (.left _ _ h))))
def Jn(h:y'.gm x.done=y.gm x.done)(a:Sub fj et):K0 (mu n x y' dZ fj) (mu n x y dZ et):=by unfold mu;rw[h];exact .right _ (.right _ (.right _ (.right _ (.right _ a))))
structure mP(K:Cfg)[ConcX.Shy K.Wg K.C]:Prop where
 ok:∀act,ConcX.Shy.ok K.Wg K.C act->(∀z,act.touch?=some z->(∃ad:Addr,z.loc=.cell ad/\ad.block=K.C)\/(∃ad:Addr,z.loc=.cell ad/\ad.block=K.Wg/\z.kind≠.plain))/\act.low K.B
def Fin (K:Cfg)[ConcX.Payload][ConcX.Shy K.Wg K.C](Post:Value->World->Prop)(n:Nat)(M:Machine)(T:Trace):Prop :=
 ∃(gs:Array Goroutine) (a:Goroutine) (w:World) (sl:Option (Nat × Nat)) (q:Nat->Nat) (B m L:Nat),M=crowd gs w sl/\gs.size=n/\gs[0]?=some a/\Leavers K.P T gs q/\Past K.Shun B T/\K.B<=B /\
  Goes K.P true AtRel (ConcX.DPj K.Mz K.Wg K.C L) (OY K Post) m a w
def Next (K:Cfg)[ConcX.Payload][ConcR.Payload][ConcX.Shy K.Wg K.C](Az:Gq)(Post:Value->World->Prop)(c:Nat)(X:Stepped × Array MemOp)(t:Trace)(n:Nat)(μ:Mu):Prop :=
 (∃M ops,X=(.next M,ops)/\Fin K Post n M (t++ops)) \/
 ∃L S x' y' fc fj yr a' b' w' U9 q' ops,X=(.next (crowd yr w' U9),ops)/\yr.size=n/\J K L Az Post S c x' y' fc fj yr a' b' w' (t++ops) q'/\Relation.TransGen K0 (mu (sumTo n q') x' y' fc fj) μ
def Next.mono{X:Stepped × Array MemOp}{b a:Mu}(h:Next K Az Post c X t n a)(d:K0 a b):Next K Az Post c X t n b:=by
 rcases h with h|⟨L,S,x',y',fc,fj,yr,a',b',w',U9,q',ops,e,hs,hJ,kF⟩
 .exact .inl h
 .exact .inr ⟨L,S,x',y',fc,fj,yr,a',b',w',U9,q',ops,e,hs,hJ,kF.trans (.single d)⟩
def OV(F:K.Fit)(a:∃w,∀b,S b->K.dT w b)(e:z.loc=.cell ad)(h:ad.block=K.Wg)(c:z.kind≠.plain):Ok0 K.Shun (K.jf S) K.fy z:=by
 have⟨w,a⟩:=a;refine⟨?_,?_,λ_=>c⟩
 .rintro(⟨b,e',hb⟩|e'|⟨b,e',hb⟩)
  .rw[e] at e';cases e';exact F.kW w (h▸a _ hb)
  iterate 2
   .rw[e] at e';cases e'
 .rintro⟨b,e',hb⟩;rw[e] at e';cases e';exact absurd (h▸hb) F.sW
def FE(F:K.Fit)(c:∃w,∀b,S b->K.dT w b)(h:ad.block=K.Wg)(a:(MemAct.ofEvent ⟨.cell ad,wr,true⟩).touch?=some z):Ok0 K.Shun (K.jf S) K.fy z:=by have e:MemAct.ofEvent ⟨.cell ad,wr,true⟩=.access ⟨.cell ad,wr,true⟩:=rfl;rw[e] at a;simp only[MemAct.touch?,sK] at a;subst a;exact OV F c rfl h iq
def PO(F:K.Fit)(H:mP K)(hS:∃w,∀b,S b->K.dT w b)(h:ConcX.EvQ K.Mz K.Wg K.C 0 e):∀z,(MemAct.ofEvent e).touch?=some z->Ok0 K.Shun (K.jf S) K.fy z:=by
 intro z hz;obtain ⟨_, ht, _, hk⟩ := h.1 0 ""
 rcases(H.ok _ hk).1 z hz with ⟨ad,e1,e2⟩|⟨ad,e1,e2,e3⟩
 .exact absurd ((ht z hz).2.2 ⟨ad,e1,e2,by rw[e2]; exact F.CW⟩).1 dq
 .exact OV F hS e1 e2 e3
def fq(h:kX x y st sm)(a:x.shut=false):y.early=true:=by cases x using Ch.bV<;>first|(cases y using Ma.bV<;>first|exact h.elim|rfl)|cases a
section
variable {n:Nat}(F:K.Fit)(H:mP K)(Om:∀g w,Az g w->g.status=.running)
 (L3:∀L,K.N0<=L->∀g w,Az g w->∃m,Goes K.P true (iv K) (mL K L) (jG K L Az Post) m g w)
def Next.main(h:∃a d,runT K.P (crowd gs w sl) 0=(.next (crowd a w' sl),d)/\a.size=gs.size/\J K L Az Post S c x y' dZ fj a a' b w' (t++d) q)(f:∀n,K0 (mu n x y' dZ fj) (mu n x y dZ et)) :
  Next K Az Post c (runT K.P (crowd gs w sl) 0) t gs.size (mu (sumTo gs.size q) x y dZ et):=by have⟨a,d,e,i,g⟩:=h;exact .inr ⟨L,S,x,y',dZ,fj,a,a',b,w',sl,q,d,e,i,g,.single (f _)⟩
def J.fN(F:K.Fit)(H:mP K)(h:J K L Az Post S c x y dZ et gs a b w t q)(hy:y.early=false)(hgo:stepG K.P true a w=.go a' w' es)(hd:mL K L w w' es)(F8:yI K L Az Post y fj a' w')(hs:Sub fj et) :
  Next K Az Post c (runT K.P (crowd gs w sl) 0) t gs.size (mu (sumTo gs.size q) x y dZ et):=by
 have⟨st,sm,hp,hw⟩:=h.pair;have⟨hN,hL⟩:=h.sF hy;have Ov:∀k,S k\/K.Still k\/k=K.A\/k=K.E->k<L:=λk hk=>by
  rcases hk with z|z|rfl|rfl
  .exact hL k z
  .exact lL (F.s0 k z) hN
  .exact lL F.A0 hN
  .exact lL F.E0 hN
 exact Next.main (J.iu F h hgo rfl (λk hk=>hd.1 k (Ov k hk)) (λz=>by rw[hy] at z; cases z) (λz=>by rw[hy] at z; cases z) (fq hp) ⟨st,sm,hp,(hd.1 _ (lL F.W0 hN)).trans hw⟩
  (λe he => PO F H h.of (hd.2 e he)) (λz => by rw [hy] at z; cases z) (λe he => ((hd.2 e he).1 0 "").2.2.1) (deafBehind_still (λe he => ⟨(hd.2 e he).2.1, (hd.2 e he).2.2.1⟩) _) F8) λ_ => Jn rfl hs
def Ah{m:Mark}(c:(MemAct.mark m).touch?=none):∀e∈(#[ConcX.mk m]:Array Event),∀z,(MemAct.ofEvent e).touch?=some z->Ok0 K.Shun (K.jf S) K.fy z:=by intro e a z b;rw[El] at a;subst a;rw[show MemAct.ofEvent (ConcX.mk m)=.mark m from rfl,c] at b;cases b
def v9{m:Mark}(b:m≠.release K.yB):∀e∈(#[ConcX.mk m]:Array Event),MemAct.ofEvent e≠.mark (.release K.yB):=by intro e a z;rw[El] at a;subst a;rw[show MemAct.ofEvent (ConcX.mk m)=.mark m from rfl] at z;exact b (MemAct.mark.inj z)
section
variable (F:K.Fit)
def wq(i:∃w,∀b,S b->K.dT w b)(h:∀e∈es,(∃c a,e=⟨.cell c,a,true⟩/\c.block=K.Wg)\/e.loc=.mark .disable\/e.loc=.mark .enable) :
  (∀e∈es,∀z,(MemAct.ofEvent e).touch?=some z->Ok0 K.Shun (K.jf S) K.fy z)/\∀e∈es,MemAct.ofEvent e≠.mark (.release K.yB):=by
 refine⟨λe d z g=>?_,λe d=>?_⟩
 .rcases h e d with ⟨c,a,rfl,hb⟩|h1|h1
  .exact FE F i hb g
  iterate 2
   .have⟨f,a,j⟩:=e;simp only at h1;subst h1;cases g
 .rcases h e d with ⟨c,a,rfl,hb⟩|h1|h1
  .exact λz=>by cases z
  iterate 2
   .have⟨f,a,j⟩:=e;simp only at h1;subst h1;exact λz=>by cases z
def Nt(e:∀L,K.N0<=L->∀g w,Az g w->∃m,Goes K.P true (iv K) (mL K L) (jG K L Az Post) m g w)(h:J K L Az Post S c x .kd dZ et gs a b w t q)(p:vw K L Az a w):Next K Az Post c (runT K.P (crowd gs w sl) 0) t gs.size (mu (sumTo gs.size q) x .kd dZ et):=by
 have⟨_,k,f,m,l⟩:=p;have d:Way K.P true (iv K) (mL K L) (jG K L Az Post) k w :=
  Way.bind ConcX.RPa.refl ((cB l).rM (λ_ _ z=>z) (λ_ _ _ z=>z) λg w n=>(e L (h.sF rfl).1 g w n).elim λ_ o=>cB o);have⟨v,j⟩:=d;have⟨u,s,i,r⟩:=h.pair;exact Next.main (J.iu (y':=.w1) F h f rfl (λ_ _=>rfl) (λz=>by cases z) (λz=>by cases z) (fq i) ⟨u,s,by cases x using Ch.bV<;>first|exact i|exact i.elim,r⟩ (Ah rfl) (λz=>by cases z) (v9 iq) rfl j)
  λ_=>fM (by show(if x.done=true then 5 else 6)<7;split<;>omega)
def Nv(h:J K L Az Post S c x .w1 dZ et gs a b w t q)(r:jG K L Az Post a w):Next K Az Post c (runT K.P (crowd gs w sl) 0) t gs.size (mu (sumTo gs.size q) x .w1 dZ et):=by
 have⟨_,u,j,h1,h2⟩:=r;have⟨n,l,f,k⟩:=h.pair;have d:=wq F h.of (es:=#[ConcX.rd (ConcX.stA K.Wg)]) (λe p=>by rw[El] at p;subst p;exact .inl ⟨_,_,rfl,rfl⟩);have g:(n=KK/\l=0/\x.done=false/\kX x .w2 n l)\/(n=0/\l=0/\x.done=true/\x.rel=true/\kX x .ke n l):=by cases x using Ch.bV<;>first|exact f.elim|exact .inl ⟨f.1,f.2,rfl,f⟩|exact .inr ⟨f.1,f.2,rfl,rfl,f⟩
 rcases g with ⟨rfl,rfl,hd,yu⟩|⟨rfl,rfl,hd,hr,yu⟩
 .have⟨m,o⟩:=h1 k;have⟨s,i⟩:=cB o;exact Next.main (J.iu (y':=.w2) F h j rfl (λ_ _=>rfl) (λz=>by cases z) (λz=>by cases z) (fq f) ⟨_,_,yu,k⟩ d.1 (λz=>by cases z) d.2 rfl i) λ_=>fM (by rw[hd];decide)
 .have⟨m,o⟩:=h2 ⟨k,h.full hr⟩;have⟨s,i⟩:=cB o;exact Next.main (J.iu (y':=.ke) F h j rfl (λ_ _=>rfl) (λz=>by cases z) (λz=>by cases z) (fq f) ⟨_,_,yu,k⟩ d.1 (λz=>by cases z) d.2 rfl i) λ_=>fM (by rw[hd];decide)
def Jz(a:∃w,∀b,S b->K.dT w b)(c:S k\/K.Still k\/k=K.A\/k=K.E):k≠K.Wg:=by
 rintro rfl;rcases c with z|z|z|z
 .have⟨w,a⟩:=a;exact F.kW w (a _ z)
 .exact F.sW z
 .exact F.AW z.symm
 .exact F.EW z.symm
def Nw(r:∀L,K.N0<=L->∀g w,Az g w->∃m,Goes K.P true (iv K) (mL K L) (jG K L Az Post) m g w)(h:J K L Az Post S c x .w2 dZ et gs a b w t q)(D:N2 K L Az Post a w):Next K Az Post c (runT K.P (crowd gs w sl) 0) t gs.size (mu (sumTo gs.size q) x .w2 dZ et):=by
 have⟨_,h1,h2⟩:=D;have⟨v,u,f,p⟩:=h.pair;have i:(v=KK/\u=0/\x.done=false/\kX x .w3 (KK+1) 0)\/(v=0/\u=0/\x.done=true/\x.rel=true/\kX x .w1 v u):=by cases x using Ch.bV<;>first|exact f.elim|exact .inl ⟨f.1,f.2,rfl,rfl,rfl⟩|exact .inr ⟨f.1,f.2,rfl,rfl,f⟩
 rcases i with ⟨rfl,rfl,hd,yu⟩|⟨rfl,rfl,hd,hr,yu⟩
 .have⟨y,j,m,s⟩:=h1 p;have d:=wq F h.of (es:=#[ConcX.rd (ConcX.stA K.Wg),ConcX.wr (ConcX.stA K.Wg)]) (λe n=>by simp only[List.mem_toArray,nk,vh,or_false] at n;rcases n with rfl|rfl<;>exact .inl ⟨_,_,rfl,rfl⟩);have⟨E,l⟩:=cB s;exact Next.main (J.iu (y':=.w3) F h j rfl (λk B=>RowKit.Below.heap_setCell _ _ _ _ (Jz F h.of B)) (λz=>by cases z) (λz=>by cases z) (fq f) ⟨_,_,yu,ConcX.WgAt.setSt p _⟩ d.1 (λz=>by cases z) d.2 rfl l) λ_=>fM (by rw[hd];decide)
 .have⟨y,j,m,s⟩:=h2 ⟨p,h.full hr⟩;have d:=wq F h.of (es:=#[ConcX.rd (ConcX.stA K.Wg)]) (λe n=>by rw[El] at n;subst n;exact .inl ⟨_,_,rfl,rfl⟩);have o:Way K.P true (iv K) (mL K L) (jG K L Az Post) y w :=
   Way.bind ConcX.RPa.refl ((cB s).rM (λ_ _ z=>z) (λ_ _ _ z=>z) λg w A=>(r L (h.sF rfl).1 g w A).elim λ_ C=>cB C);have⟨E,l⟩:=o;exact Next.main (J.iu (y':=.w1) F h j rfl (λ_ _=>rfl) (λz=>by cases z) (λz=>by cases z) (fq f) ⟨_,_,yu,p⟩ d.1 (λz=>by cases z) d.2 rfl l) λ_=>fM (by rw[hd];decide)
def CY:∀e∈semEvents (ConcX.smA K.Wg),(∃a c,e=⟨.cell a,c,true⟩/\a.block=K.Wg)\/e.loc=.mark .disable\/e.loc=.mark .enable:=by
 intro e b;simp only[semEvents,List.mem_toArray,nk,vh,or_false] at b;rcases b with rfl|rfl|rfl|rfl
 .exact .inr (.inl rfl)
 iterate 2
  .exact .inl ⟨_,_,rfl,rfl⟩
 .exact .inr (.inr rfl)
def Nx(h:J K L Az Post S c x .w3 dZ et gs a b w t q)(u:Hk K L Post a w):Next K Az Post c (runT K.P (crowd gs w sl) 0) t gs.size (mu (sumTo gs.size q) x .w3 dZ et):=by
 have⟨i,g,h1,h2⟩:=u;have⟨p,o,e,j⟩:=h.pair;have d:(o=0/\kX x .blk p o)\/(p=0/\o=1/\x.rel=true/\kX x .w4 0 0):=by cases x using Ch.bV<;>first|exact e.elim|exact .inl ⟨e.2,e⟩|exact .inr ⟨e.1,e.2,rfl,rfl,rfl⟩
 rcases d with ⟨rfl,yu⟩|⟨rfl,rfl,hr,yu⟩
 .exact Next.main (J.iu (y':=.blk) (fj:=et) F h (h1 ⟨p,j⟩) rfl (λ_ _=>rfl) (λz=>by cases z) (λz=>by cases z) (fq e) ⟨_,_,yu,j⟩ iq (λz=>by cases z) iq rfl ⟨a,rfl,i,g,h.ma⟩) λ_=>fM (by simp[Ma.gm,Ma.on])
 .have⟨v,l,m,r⟩:=h2 ⟨j,h.full hr⟩;have f:=wq F h.of CY;have⟨y,n⟩:=cB r;exact Next.main (J.iu (y':=.w4) F h l rfl (λk s=>RowKit.Below.heap_setCell _ _ _ _ (Jz F h.of s)) (λz=>by cases z) (λz=>by cases z) (fq e) ⟨_,_,yu,ConcX.WgAt.setSm j _⟩ f.1 (λz=>by cases z) f.2 rfl n) λ_=>fM (by simp[Ma.gm,Ma.on])
def Ny(h:J K L Az Post S c x .w4 dZ et gs a b w t q)(l:N3 K L Post a w):Next K Az Post c (runT K.P (crowd gs w sl) 0) t gs.size (mu (sumTo gs.size q) x .w4 dZ et):=by have⟨_,r,f,m,k⟩:=l;have⟨p,o,g,n⟩:=h.pair;have d:=wq F h.of (es:=#[ConcX.rd (ConcX.stA K.Wg)]) (λe j=>by rw[El] at j;subst j;exact .inl ⟨_,_,rfl,rfl⟩);have⟨s,i⟩:=cB k;exact Next.main (J.iu (y':=.ke) F h f rfl (λ_ _=>rfl) (λz=>by cases z) (λz=>by cases z) (fq g) ⟨p,o,by cases x using Ch.bV<;>first|exact g|exact g.elim,n⟩ d.1 (λz=>by cases z) d.2 rfl i) λ_=>fM (by simp[Ma.gm,Ma.on])
def Nu(h:J K L Az Post S c x .ke dZ et gs a b w t q)(i:N1 K L Post a w):Next K Az Post c (runT K.P (crowd gs w sl) 0) t gs.size (mu (sumTo gs.size q) x .ke dZ et):=by have⟨_,n,d,m,g⟩:=i;have⟨l,k,e,j⟩:=h.pair;have⟨o,f⟩:=cB g;exact Next.main (J.iu (y':=.acq) F h d rfl (λ_ _=>rfl) (λz=>by cases z) (λz=>by cases z) (fq e) ⟨l,k,by cases x using Ch.bV<;>first|exact e|exact e.elim,j⟩ (Ah rfl) (λz=>by cases z) (v9 iq) rfl f) λ_=>fM (by simp[Ma.gm,Ma.on])
end
def KD(h:J K L Az Post S c x .acq dZ et gs a b w t q)(T:Hg K L Post a w):Next K Az Post c (runT K.P (crowd gs w sl) 0) t gs.size (mu (sumTo gs.size q) x .acq dZ et):=by
 have⟨_,I,y,m,M⟩:=T;have⟨X,W,R,V⟩:=h.pair;have C:0<gs.size:=(oK.1 h.h0).1;have v:(0:Nat)≠c:=by have:=h.pos;omega
 obtain⟨n,d,rfl⟩:∃n d,x=.quit n d:=by cases x using Ch.bV<;>first|exact⟨_,_,rfl⟩|exact R.elim
 have⟨F,_⟩:=h.ch;obtain⟨r,u,o,D⟩:∃r,PT K.Shun (K.jf S) K.fy c (λi=>Before t i r) t/\ConcN.RelBy K.yB t c r/\∀k,r<k->t.act? k≠some (.mark (.release K.yB)):=h.tr;have H:MemOp.ofEvents 0 a.frame.fn a.frame.place #[ConcX.mk (.acquire (ConcX.stA K.Wg))]=#[{ g:=0,fn:=a.frame.fn,pos:=a.frame.place,act:=.mark (.acquire K.yB) }]:=by simp[MemOp.ofEvents,MemAct.ofEvent,ConcX.mk,ConcX.stA,Cfg.yB]
 have⟨E,p,s⟩:=wM (t++#[{ g:=0,fn:=a.frame.fn,pos:=a.frame.place,act:=.mark (.acquire K.yB) }]) K.B;have N:=u.join o h.d0 D a.frame.fn a.frame.place E s;refine .inl ⟨_,_,runT_crowd_go h.h0 (show stepG K.P (0==0) a w=_ from y),_,I,w,sl,upd q c n,E,m,L,rfl,by simp,by simp[C],⟨λi z O G=>?_,λj Q=>?_⟩,by rw[H];exact N,p,M⟩
 .rw[uU oq,Array.getElem?_map] at G;obtain⟨U,f,rfl⟩:=p7.1 G;by_cases e:i=c
  .subst e;rw[h.hc] at f;obtain rfl:=CX f;rw[woken_quitsD F,upd_same,Deaf_other t v _ iA,h.dc];exact F
  .have l:=h.old i U O e f;rw[woken_quitsD l,upd_ne q n e,Deaf_other t oq _ iA];exact l
 .have A:gs.size<=j:=by simpa using Q
  rw[Deaf_other t oq _ iA];exact h.above j A
def J.Em(F:K.Fit)(H:mP K)(f:∀L,K.N0<=L->∀g w,Az g w->∃m,Goes K.P true (iv K) (mL K L) (jG K L Az Post) m g w)(h:J K L Az Post S c x .kd dZ et gs a b w t q):Next K Az Post c (runT K.P (crowd gs w sl) 0) t gs.size (mu (sumTo gs.size q) x .kd dZ et):=by
 rcases bT.now (R:=iv K) h.ma (ConcX.RPa.refl w) with hs|⟨_,g',w',es,uY,e,d,m9,hG⟩
 .exact Nt F f h hs
 .exact J.fN F H h rfl e d hG m9
def J.Je(F:K.Fit)(h:J K L Az Post S c x .over dZ et gs a b w t q)(p:wT K Az a w):∃n l,J K n Az Post S c x .kd dZ l gs a b w t q:=by
 have⟨i,g,e,f⟩:=h.pair;have d:=h.size rfl;have j:BF K w:=by
  have m:ConcX.WgAt K.ty K.Wg w i g:=f;have:(i=KK/\g=0)\/(i=0/\g=0/\x.rel=true):=by cases x using Ch.bV<;>first|exact e.elim|exact .inl ⟨e.1,e.2⟩|exact .inr ⟨e.1,e.2,rfl⟩
  rcases this with ⟨rfl,rfl⟩|⟨rfl,rfl,hr⟩
  .exact .inl m
  .exact .inr ⟨m,h.full hr⟩
 have⟨l,k⟩:=p.2 j w.heap.size d;refine⟨w.heap.size,l,⟨h.pos,h.h0,h.hc,h.old,h.above,h.ch,k,⟨i,g,?_,f⟩,h.vH,h.yq,h.pay,h.full,(λz=>by cases z),h.rh,h.of,(λz=>by cases z),λ_=>⟨d,λb o=>((h.nU rfl b).1 o).lt F d⟩,(λz=>by cases z),h.tr,h.d0,h.dc⟩⟩;cases x using Ch.bV<;>first|exact e.elim|exact e
def J.Cv(F:K.Fit)(H:mP K)(Om:∀g w,Az g w->g.status=.running)(A:∀L,K.N0<=L->∀g w,Az g w->∃m,Goes K.P true (iv K) (mL K L) (jG K L Az Post) m g w)(h:J K L Az Post S c x y dZ et gs a b w t q)(u:a.status=.running):Next K Az Post c (runT K.P (crowd gs w sl) 0) t gs.size (mu (sumTo gs.size q) x y dZ et):=by
 have v:∀r,(y=.front r\/y=.walk r)->j1 K Az r a w->Next K Az Post c (runT K.P (crowd gs w sl) 0) t gs.size (mu (sumTo gs.size q) x y dZ et):=by
  intro r C l;have⟨M,V,x',y',G,I,Y,Z,n,W,e,R,N,E⟩:=J.Ng (sl:=sl) F h C l;refine .inr ⟨W,S,x',y',G,I,M,Y,Z,n,sl,q,V,e,R,N,?_⟩;rcases E with E|⟨rfl,rfl,E⟩
  .exact .single (Ej E)
  .exact .single (fM E)
 have B:∀{p n o i},y.early=true->stepG K.P true a w=.go p n o->DM K w n o->Sub i et->yI K L Az Post y i p n->Next K Az Post c (runT K.P (crowd gs w sl) 0) t gs.size (mu (sumTo gs.size q) x y dZ et):=by
  intro p n o i C e d f j;have⟨st,sm,hp,hw⟩:=h.pair;have O:∀b,S b->K.dT n b:=λb X=>((h.nU C b).1 X).of_same (d.block b (.inl ((h.nU C b).1 X)));refine Next.main (J.iu F h e rfl (λk Q=>d.block k ?_) (λ_=>d.born) (λ_=>d.grow) (λ_=>C) ⟨st,sm,hp,(d.block _ (i3 (.inr rfl))).trans hw⟩
   (λe s z T=>?_) (λ_ e s z T=>(((d.evs e s).1 z T).2)) (λe s=>(d.evs e s).2.2.2) (deafBehind_still (λe s=>⟨(d.evs e s).2.1,(d.evs e s).2.2.1⟩) _) j) λ_=>Jn rfl f
  .rcases Q with z|z|z|z
   .exact .inl ((h.nU C k).1 z)
   .exact .inr (.inl z)
   .exact .inr (.inr (.inl z))
   .exact i3 (.inl z)
  .have U:=((d.evs e s).1 z T).1;exact⟨λQ=>U.nU (Cfg.jf.mono O Q),U.still,U.vq⟩
 cases y using Ma.bV with
 | front r =>
  rcases bT.now h.ma (RM.refl w) with l|⟨_,p,n,o,i,e,d,f,j⟩
  .exact v r (.inl rfl) l
  .exact B rfl e d f j
 | walk r =>
  rcases bT.now h.ma (RM.refl w) with l|⟨_,p,n,o,i,e,d,f,j⟩
  .exact v r (.inr rfl) l
  .exact B rfl e d f j
 | eK r=>obtain⟨_,D,rfl,_⟩:=h.ma;cases u
 | over =>
  rcases bT.now h.ma (RM.refl w) with l|⟨_,p,n,o,i,e,d,f,j⟩
  .have⟨W,τ,N⟩:=J.Je F h l;exact(J.Em F H A N).mono (fM (by simp[Ma.gm,Ma.on]))
  .exact B rfl e d f j
 | kd=>exact J.Em F H A h
 | w1 =>
  rcases bT.now h.ma (ConcX.RPa.refl w) with l|⟨_,p,n,o,i,e,d,f,j⟩
  .exact Nv F h l
  .exact J.fN F H h rfl e d j f
 | w2 =>
  rcases bT.now h.ma (ConcX.RPa.refl w) with l|⟨_,p,n,o,i,e,d,f,j⟩
  .exact Nw F A h l
  .exact J.fN F H h rfl e d j f
 | w3 =>
  rcases bT.now h.ma (ConcX.RPb.refl w) with l|⟨_,p,n,o,i,e,d,f,j⟩
  .exact Nx F h l
  .exact J.fN F H h rfl e d j f
 | blk=>obtain⟨D,rfl,_⟩:=h.ma;cases u
 | w4 =>
  rcases bT.now h.ma (atRel_refl w) with l|⟨_,p,n,o,i,e,d,f,j⟩
  .exact Ny F h l
  .exact J.fN F H h rfl e d j f
 | ke =>
  rcases bT.now h.ma (atRel_refl w) with l|⟨_,p,n,o,i,e,d,f,j⟩
  .exact Nu F h l
  .exact J.fN F H h rfl e d j f
 | acq =>
  rcases bT.now h.ma (atRel_refl w) with l|⟨_,p,n,o,i,e,d,f,j⟩
  .exact KD h l
  .exact J.fN F H h rfl e d j f
end
end
end Go.Proofs.YtgcaionclkbehaaGreatDoor
