import Derived.Conc.FxEnd
import Derived.Conc.Token
set_option linter.all false
set_option maxHeartbeats 2000000
set_option maxRecDepth 100000
namespace Go.Proofs.YtgcaionclkbehaaGreatDoor
open Go.Conc
variable {a p:Prop}{b i m n:Nat}{r wr:Bool}{ad:Addr}{g g' fW:Goroutine}{w w' aE:World}{l:Loc}{S S':Nat→Prop}{e:Event}{ops u:Trace}{sm st:Int}{z:Touch}
abbrev Bq := List UInt8
abbrev Aq := Array Value
abbrev Iq := List Int
abbrev Vq := List Value
abbrev Hq := List (Nat × Obj)
abbrev Nq := Nat → Value
abbrev Wq := World → World → Prop
abbrev Gq := Goroutine → World → Prop
abbrev sq(b : Nat) : Option Addr := some ⟨b,0,none⟩
def kq{U : Sort _}{a b : U}(h : a = b := by kernel_rfl) : a = b := h
def oq(h : p := by omega) : p := h
def dq(h : p := by decide) : p := h
def iq(h : p := by simp) : p := h
def rq(h : p := by rfl) : p := h
def i3{b c : Prop}(h : p) : a ∨ b ∨ c ∨ p := .inr (.inr (.inr h))
def i2{b : Prop}(h : p) : a ∨ b ∨ p := .inr (.inr h)
def bZ:(∀{U:Type}(l:List U),l.toArray.size=l.length)∧(∀{U:Type}(a:U)(l:List U),(a::l).length=l.length+1)∧(∀{U:Type},([]:List U).length=0)∧(∀{U:Type}(n:Nat)(a:U),Array.replicate (n+1) a=(Array.replicate n a).push a)∧(∀{U:Type}(a:U),Array.replicate 0 a=#[])∧(∀{U:Type}(l:List U)(a:U),l.toArray.push a=(l++[a]).toArray)∧(∀{U:Type}(l m:List U),l.toArray++m.toArray=(l++m).toArray)∧(∀{U:Type}(l:List U),[]++l=l)∧∀{U:Type}(a:U)(l m:List U),a::l++m=a::(l++m):=by refine⟨?_,?_,?_,?_,?_,?_,?_,?_,?_⟩<;>intros<;>first|rfl|simp|exact Array.replicate_succ
def gE {α : Type _} {l : List α} {i : Nat} (h : i < l.length) : l[i]? = some l[i] := List.getElem?_eq_getElem h
def gF {α : Type _} {l : Array α} {i : Nat} (h : i < l.size) : l[i]? = some l[i] := Array.getElem?_eq_getElem h
def gS {α : Type _} {i : Nat} {a : α} {l : List α} : l[i]? = some a ↔ ∃ h, l[i] = a := List.getElem?_eq_some_iff
def tD {p : Prop} [Decidable p] (h : p) : decide p = true := decide_eq_true h
def fD {p : Prop} [Decidable p] (h : ¬p) : decide p = false := decide_eq_false h
def ip {c : Prop} {h : Decidable c} (hc : c) {α : Sort _} {t e : α} : (if c then t else e) = t := if_pos hc
def iw {c : Prop} {h : Decidable c} (hc : ¬c) {α : Sort _} {t e : α} : (if c then t else e) = e := if_neg hc
def lr {n : Nat} : n ≤ n := Nat.le_refl n
def lA {α : Type _} {a b : List α} : (a ++ b).length = a.length + b.length := List.length_append
def lC {α : Type _} {a : α} {b : List α} : (a :: b).length = b.length + 1 := List.length_cons
def mG {α : Type _} {l : List α} {i : Nat} {a : α} (h : l[i]? = some a) : a ∈ l := List.mem_of_getElem? h
def lL {n m k : Nat} (h : n < m) (h' : m ≤ k) : n < k := Nat.lt_of_lt_of_le h h'
def bF {α : Type _} [BEq α] [LawfulBEq α] {a b : α} : (a == b) = false ↔ a ≠ b := beq_eq_false_iff_ne
def tL {α : Type _} {i : Nat} {l : List α} (h : l.length ≤ i) : List.take i l = l := List.take_of_length_le h
def aT {α : Type _} {p : α → Bool} {l : List α} : l.all p = true ↔ ∀ x, x ∈ l → p x = true := List.all_eq_true
def lT {n m k : Nat} (h : n ≤ m) (h' : m ≤ k) : n ≤ k := Nat.le_trans h h'
section
open Go.ConcN (RelBy)
structure rG(Shun dP Still:Loc→Prop)(t:Trace)(Kc:Nat→Prop)(i:Nat)(a:Touch):Prop where
 mS:dP a.loc→Kc i
 mine:¬dP a.loc→¬Still a.loc→Knows t 0 i
 still:Still a.loc→a.write=true→Knows t 0 i∧Kc i
 any:Knows t 0 i∨Kc i
 uo:Shun a.loc→a.kind=.plain→Kc i
structure PT(Shun dP Still:Loc→Prop)(c:Nat)(Kc:Nat→Prop)(t:Trace):Prop where
 clean:∀said,¬Race said t
 known:∀i a,touchAt t i=some a→a.loc.isMemory=true→(Shun a.loc∧a.kind=.atomic)∨rG Shun dP Still t Kc i a
 over:∀i g,t.g? i=some g→g≠0→g≠c→t.counts i→∃j,t.g? j=some 0∧HappensBefore t i j
structure Apart(Shun dP Still:Loc→Prop):Prop where
 ks:∀l,dP l→¬Still l
 kh:∀l,dP l→¬Shun l
 sh:∀l,Still l→¬Shun l
section
variable {Shun dP Still:Loc→Prop}{c:Nat}{Kc L6:Nat→Prop}{t u:Trace}
def rG.app{a:Touch}(h:rG Shun dP Still t Kc i a)(U:∀i,Kc i→L6 i)(u:Trace):rG Shun dP Still (t++u) L6 i a :=
 ⟨fun x=>U i (h.mS x),fun x y=>(h.mine x y).app u,fun x y=>⟨(h.still x y).1.app u,U i (h.still x y).2⟩,h.any.imp (·.app u) (U i),fun x y=>U i (h.uo x y)⟩
def mo(h:∀i g,t.g? i=some g→g≠0→g≠c→t.counts i→∃j,t.g? j=some 0∧HappensBefore t i j)(v:∀a∈u,a.g=0∨a.g=c∨a.act.touch?=none) :
  ∀i g,(t++u).g? i=some g→g≠0→g≠c→(t++u).counts i→∃j,(t++u).g? j=some 0∧HappensBefore (t++u) i j:=by
 intro i g n l m U;have⟨x,p,s,r⟩:=U;have⟨a,b,k⟩:=touch_of p;rcases getElem?_append_cases b with ⟨hi,_⟩|⟨_,a1⟩
 ·have⟨j,o,q⟩:=h i g (by rw[← g?_old (u:=u) hi];exact n) l m ((counts_old hi).1 ⟨x,p,s,r⟩);have d:j<t.size:=by have⟨z,w,_⟩:=Option.map_eq_some_iff.1 o;exact lt_size_of_getElem? w
  exact⟨j,by rw[g?_old d];exact o,hb_app u q⟩
 ·have f:a.g=g:=by simpa[Trace.g?,b] using n
  rcases v a a1 with e|e|e
  ·exact absurd (f.symm.trans e) l
  ·exact absurd (f.symm.trans e) m
  ·rw[e] at k;cases k
def PT.mono{U:Loc→Prop}(h:PT Shun dP Still c Kc t)(j:∀l,dP l→U l)(g:∀i a,touchAt t i=some a→U a.loc→dP a.loc∨Kc i∨(Shun a.loc∧a.kind=.atomic)):PT Shun U Still c Kc t:=by
 refine⟨h.clean,fun i a e f=>?_,h.over⟩;rcases h.known i a e f with k|k
 ·exact .inl k
 ·by_cases b:U a.loc
  ·rcases g i a e b with z|z|z
   ·exact .inr ⟨fun _=>k.mS z,fun d=>absurd b d,k.still,k.any,k.uo⟩
   ·exact .inr ⟨fun _=>z,fun d=>absurd b d,k.still,k.any,k.uo⟩
   ·exact .inl z
  ·exact .inr ⟨fun z=>absurd z b,fun _=>k.mine (fun y=>b (j _ y)),k.still,k.any,k.uo⟩
def PT.mute(h:PT Shun dP Still c Kc t)(r:∀i,Kc i→L6 i)(m:∀p∈u,p.act.touch?=none):PT Shun dP Still c L6 (t++u):=by
 refine⟨fun f=>?_,fun i a l z=>?_,mo h.over fun p n=>.inr (.inr (m p n))⟩
 ·rintro⟨i,j,q,⟨a,b,l,s,v⟩,B,C⟩;have⟨x,o,U⟩:=touch_of l;have⟨y,A,g⟩:=touch_of s;rcases getElem?_append_cases A with ⟨hj,MR⟩|⟨_,MS⟩
  ·have w:i<t.size:=Nat.lt_trans q hj;have d:t[i]?=some x:=by rw[← getElem?_append_old (u:=u) w];exact o
   exact h.clean f ⟨i,j,q,⟨a,b,by simp[Trace.act?,d,U],by simp[Trace.act?,MR,g],v⟩,fun e=>B (hb_app u e),fun e=>C (hb_app u e)⟩
  ·rw[m y MS] at g;cases g
 ·have⟨x,o,U⟩:=touch_of l;rcases getElem?_append_cases o with ⟨_,d⟩|⟨_,GG⟩
  ·exact(h.known i a (by rw[touchAt_of d];exact U) z).imp id fun k=>k.app r u
  ·rw[m x GG] at U;cases U
structure Ok0(Shun dP Still:Loc→Prop)(b:Touch):Prop where
 mS:¬dP b.loc
 still:Still b.loc→b.write=false
 uo:Shun b.loc→b.kind≠.plain
def PT.app0(h:PT Shun dP Still c Kc t)(z:∀i,Kc i→L6 i)(q:∀j∈u,j.g=0)(r:∀j∈u,∀b,j.act.touch?=some b→Ok0 Shun dP Still b):PT Shun dP Still c L6 (t++u):=by
 refine⟨fun n=>noRace_append (h.clean n) q fun i a p j d b A m=>?_,fun i a p B=>?_,mo h.over fun j d=>.inl (q j d)⟩
 ·have f:=r j d b A;rcases h.known i a p m.2.1 with ⟨Og,JL⟩|k
  ·have y:=f.uo (m.1▸Og);rcases m.2.2.2 with e|e|⟨_,e,_⟩
   ·rw[JL] at e;cases e
   ·exact absurd e y
   ·rw[JL] at e;cases e
  ·by_cases o:Still a.loc
   ·have v:=f.still (m.1▸o);rcases m.2.2.1 with e|e
    ·exact(k.still o e).1
    ·rw[v] at e;cases e
   ·exact k.mine (fun e=>f.mS (m.1▸e)) o
 ·have⟨x,s,U⟩:=touch_of p;rcases getElem?_append_cases s with ⟨_,yI⟩|⟨_,GG⟩
  ·exact(h.known i a (by rw[touchAt_of yI];exact U) B).imp id fun k=>k.app z u
  ·have l:=knows_own s;rw[q x GG] at l;have f:=r x GG a U;exact .inr ⟨fun e=>absurd e f.mS,fun _ _=>l,fun e w=>(by rw[f.still e] at w;cases w),.inl l,fun e w=>absurd w (f.uo e)⟩
def N3 (Shun dP Still:Loc→Prop)(b:Touch):Prop:=dP b.loc∨(Still b.loc∧b.write=false)∨(Shun b.loc∧b.kind=.atomic)
def PT.FP(A:Apart Shun dP Still)(h:PT Shun dP Still c (Knows t c) t)(n:∀f∈u,f.g=c)(p:∀f∈u,∀b,f.act.touch?=some b→N3 Shun dP Still b):PT Shun dP Still c (Knows (t++u) c) (t++u):=by
 refine⟨fun l=>noRace_append (h.clean l) n fun i a j f m b r U=>?_,fun i a j s=>?_,mo h.over fun f m=>.inr (.inl (n f m))⟩
 ·rcases p f m b r with ok|⟨ok,a5⟩|⟨ok,a3⟩
  ·rcases h.known i a j U.2.1 with ⟨a1,_⟩|k
   ·exact absurd a1 (A.kh _ (by rw[U.1];exact ok))
   ·exact k.mS (by rw[U.1];exact ok)
  ·rcases h.known i a j U.2.1 with ⟨a1,_⟩|k
   ·exact absurd a1 (A.sh _ (by rw[U.1];exact ok))
   ·rcases U.2.2.1 with e|e
    ·exact(k.still (by rw[U.1];exact ok) e).2
    ·rw[a5] at e;cases e
  ·rcases h.known i a j U.2.1 with ⟨_,a2⟩|k
   ·rcases U.2.2.2 with e|e|⟨_,e,_⟩
    ·rw[a2] at e;cases e
    ·rw[a3] at e;cases e
    ·rw[a2] at e;cases e
   ·rcases U.2.2.2 with e|e|⟨_,_,e⟩
    ·exact k.uo (by rw[U.1];exact ok) e
    iterate 2
     ·rw[a3] at e;cases e
 ·have⟨x,q,o⟩:=touch_of j;rcases getElem?_append_cases q with ⟨_,yI⟩|⟨_,GG⟩
  ·exact(h.known i a (by rw[touchAt_of yI];exact o) s).imp id fun k=>k.app (fun _=>Knows.app u) u
  ·have d:=knows_own q;rw[n x GG] at d;rcases p x GG a o with ok|⟨ok,Xl⟩|⟨ok,Xj⟩
   ·exact .inr ⟨fun _=>d,fun e=>absurd ok e,fun e=>absurd e (A.ks _ ok),.inr d,fun e=>absurd e (A.kh _ ok)⟩
   ·exact .inr ⟨fun e=>absurd ok (A.ks _ e),fun _ e=>absurd ok e,fun _ w=>(by rw[Xl] at w;cases w),.inr d,fun e=>absurd e (A.sh _ ok)⟩
   ·exact .inl ⟨ok,Xj⟩
def PT.Dt{r:Nat}(h:PT Shun dP Still c (fun i=>Before t i r) t)(w:t.g? r=some c)(p:∀f∈u,f.g=c)(o:∀f∈u,∀b,f.act.touch?=some b→Shun b.loc∧b.kind=.atomic) :
  PT Shun dP Still c (fun i=>Before (t++u) i r) (t++u):=by
 have⟨z,A,q⟩:=Option.map_eq_some_iff.1 w;refine⟨fun j=>noRace_append (h.clean j) p fun i a m f d b s l=>?_,fun i a m v=>?_,mo h.over fun f d=>.inr (.inl (p f d))⟩
 ·have⟨B,U⟩:=o f d b s;rcases h.known i a m l.2.1 with ⟨_,JL⟩|k
  ·rcases l.2.2.2 with e|e|⟨_,e,_⟩
   ·rw[JL] at e;cases e
   ·rw[U] at e;cases e
   ·rw[JL] at e;cases e
  ·rcases l.2.2.2 with e|e|⟨_,_,e⟩
   ·exact⟨r,z,A,q,k.uo (by rw[l.1];exact B) e⟩
   iterate 2
    ·rw[U] at e;cases e
 ·have⟨x,y,n⟩:=touch_of m;rcases getElem?_append_cases y with ⟨_,yI⟩|⟨_,GG⟩
  ·exact(h.known i a (by rw[touchAt_of yI];exact n) v).imp id fun k=>k.app (fun _=>Before.app u) u
  ·exact .inl (o x GG a n)
def PT.release(h:PT Shun dP Still c (Knows t c) t){y:MemOp}(d:y.g=c)(U:y.act.touch?=none):PT Shun dP Still c (fun i=>Before (t++#[y]) i t.size) (t++#[y]):=by refine h.mute (fun i b=>?_) (fun e a=>by simp at a;subst a;exact U);exact .inr (b.hb_new lr iq d)
def PT.fork{U:Loc→Prop}{B:Nat}(h:Past Shun B t)(I:Deaf t c=0)(L:∀l,Shun l→U l)(r q:FuncId)(m:String) :
  PT U dP Still c (Knows (t++#[{ g:=0,fn:=r,pos:=m,act:=.go c },{ g:=c,fn:=q,pos:=m,act:=.start }]) c) (t++#[{ g:=0,fn:=r,pos:=m,act:=.go c },{ g:=c,fn:=q,pos:=m,act:=.start }]):=by
 generalize C:(#[{ g:=0,fn:=r,pos:=m,act:=.go c },{ g:=c,fn:=q,pos:=m,act:=.start }]:Trace)=u;have A:∀s∈u,s.act.touch?=none:=by intro s f;subst C;simp only[List.mem_toArray,List.mem_cons,List.not_mem_nil,or_false] at f;rcases f with rfl|rfl<;>rfl
 have p:(t++u)[t.size]?=some { g:=0,fn:=r,pos:=m,act:=.go c }:=by subst C;simp
 have e1:(t++u)[t.size+1]?=some { g:=c,fn:=q,pos:=m,act:=.start }:=by subst C;simp
 have J:(t++u).deaf c (t.size+1)=0:=by rw[deaf_succ p,deaf_old lr];exact I
 have H:HappensBefore (t++u) t.size (t.size+1) :=
  Relation.TransGen.single (.inr ⟨.spawn (by rw[act?_of p]) (by rw[act?_of e1]) (by simp[Trace.g?,e1]),⟨0,by simp[Trace.g?,p],by rw[deaf_old lr];exact h.hears⟩,⟨c,by simp[Trace.g?,e1],J⟩⟩);refine⟨fun o=>?_,fun i a z Q=>?_,mo (fun i g O K _ d=>h.over i g O K d) fun s f=>.inr (.inr (A s f))⟩
 ·rintro⟨i,j,G,⟨a,b,z,M,N⟩,S,T⟩;have⟨x,D,n⟩:=touch_of z;have⟨y,R,w⟩:=touch_of M;rcases getElem?_append_cases R with ⟨hj,MR⟩|⟨_,MS⟩
  ·have P:i<t.size:=Nat.lt_trans G hj;have v:t[i]?=some x:=by rw[← getElem?_append_old (u:=u) P];exact D
   exact h.clean o ⟨i,j,G,⟨a,b,by simp[Trace.act?,v,n],by simp[Trace.act?,MR,w],N⟩,fun e=>S (hb_app u e),fun e=>T (hb_app u e)⟩
  ·rw[A y MS] at w;cases w
 ·have⟨x,D,n⟩:=touch_of z;rcases getElem?_append_cases D with ⟨_,v⟩|⟨_,GG⟩
  ·rcases h.known i a (by rw[touchAt_of v];exact n) Q with k|⟨k1,k2⟩
   ·have F:Knows (t++u) c i:=⟨t.size+1,_,e1,rfl,.inr ((k.hb_new lr p rfl).trans H)⟩;have E:=k.app u;exact .inr ⟨fun _=>F,fun _ _=>E,fun _ _=>⟨E,F⟩,.inl E,fun _ _=>F⟩
   ·exact .inl ⟨L _ k1,k2⟩
  ·rw[A x GG] at n;cases n
def PT.join{r:Nat}(h:PT Shun dP Still c (fun i=>Before t i r) t)(j:RelBy ad t c r)(C:Deaf t 0=0)(H:∀k,r<k→t.act? k≠some (.mark (.release ad)))(fn:FuncId)(pos:String)(B:Nat)
 (A:∀p∈t++#[{ g:=0,fn:=fn,pos:=pos,act:=.mark (.acquire ad) }],p.act.low B):Past Shun B (t++#[{ g:=0,fn:=fn,pos:=pos,act:=.mark (.acquire ad) }]):=by
 generalize v:(#[{ g:=0,fn:=fn,pos:=pos,act:=.mark (.acquire ad) }]:Trace)=u at A ⊢;have D:∀p∈u,p.act.touch?=none:=by intro p f;subst v;simp at f;subst f;rfl
 have m:(t++u)[t.size]?=some { g:=0,fn:=fn,pos:=pos,act:=.mark (.acquire ad) }:=by subst v;simp
 have U:r<t.size:=lt_of_act? j.act;have s:(t++u).heard t.size:=⟨0,by simp[Trace.g?,m],by rw[deaf_old lr];exact C⟩;have d:HappensBefore (t++u) r t.size:=by refine Relation.TransGen.single (.inr ⟨.marked U (.inr (by rw[act?_old U];exact j.act)) (by rw[act?_of m]) (fun k h1 h2=>?_),(heard_old U).2 j.heard,s⟩);rw[act?_old h2];exact H k h1
 have M:∀i,Before t i r→Knows (t++u) 0 i:=fun i o=>⟨t.size,_,m,rfl,.inr ((o.app u).hb d)⟩;have q:=h.mute (u:=u) (L6:=fun i=>Knows (t++u) 0 i) M D;refine⟨q.clean,fun i a J K=>?_,fun i g n I b=>?_,?_,A⟩
 ·rcases q.known i a J K with k|k
  ·exact .inr k
  ·exact .inl (k.any.elim id id)
 ·by_cases w:g=c
  ·subst w;have⟨z,F,O⟩:=Option.map_eq_some_iff.1 n;rcases getElem?_append_cases F with ⟨o,Z8⟩|⟨_,Yx⟩
   ·have G:t.g? i=some g:=by rw[← g?_old (u:=u) o];exact n
    have N:i≤r:=Nat.le_of_not_lt fun e=>j.after i e G ((counts_old o).1 b);refine⟨t.size,by simp[Trace.g?,m],?_⟩;rcases Nat.lt_or_ge i r with e|Vb
    ·exact Relation.TransGen.trans (.single (.inl ⟨e,g,n,by rw[g?_old U];exact j.g⟩)) d
    ·obtain rfl:i=r:=oq
     exact d
   ·have⟨x,L,_⟩:=b;have⟨y,E,l⟩:=touch_of L;rw[F] at E;cases E;rw[D z Yx] at l;cases l
  ·exact q.over i g n I w b
 ·show Deaf (t++u) 0=0;subst v;rw[Deaf_push];exact C
end
end
def branch(S' S:List World→Prop):Prop:=S []∧∃w,S'=fun p=>S (w::p)
structure Tr where
 S:List World→Prop
 acc:Acc branch S
def Sub (a b:Tr):Prop:=branch a.S b.S
def Bp:WellFounded Sub:=⟨fun U=>InvImage.accessible (f:=Tr.S) U.acc⟩
def Tr.leaf:Tr:=⟨fun _=>False,Acc.intro _ fun _ h=>h.1.elim⟩
def PU(f:World→Tr):List World→Prop
 | []=>True
 | w::p=>(f w).S p
def Tr.node(f:World→Tr):Tr:=⟨PU f,Acc.intro _ fun a h=>by
 obtain⟨_,w,rfl⟩:=h;exact(f w).acc⟩
def IB(f:World→Tr)(w:World):Sub (f w) (.node f):=⟨trivial,w,rfl⟩
def Tr.ofNat:Nat→Tr
 | 0=>.leaf
 | n+1=>.node fun _=>Tr.ofNat n
def sub_ofNat(n:Nat)(w:World):Sub (.ofNat n) (.ofNat (n+1)):=IB (fun _=>.ofNat n) w
def Fz(P:Program)(main:Bool)(R:Wq)(D:World→World→Array Event→Prop)(Stop:Gq)(X:Tr→Gq)(τ:Tr)(g:Goroutine)(w:World):Prop :=
 ∀aE,R w aE→Stop g aE∨(g.status=.running∧∃g' w' es zU,stepG P main g aE=.go g' w' es∧D aE w' es∧Sub zU τ∧X zU g' w')
def bD(P:Program)(main:Bool)(R:Wq)(D:World→World→Array Event→Prop)(Stop:Gq)(τ:Tr)(g:Goroutine)(w:World):Prop :=
 ∃X:Tr→Goroutine→World→Prop,X τ g w∧∀τ g w,X τ g w→Fz P main R D Stop X τ g w
def Way (P:Program)(main:Bool)(R:Wq)(D:World→World→Array Event→Prop)(Stop:Gq)(g:Goroutine)(w:World):Prop:=∃τ,bD P main R D Stop τ g w
section
variable {P:Program}{main:Bool}{R R':Wq}{D D':World→World→Array Event→Prop}{Stop BH:Gq}
def bD.now{i:Tr}(h:bD P main R D Stop i g w)(j:R w aE) :
  Stop g aE∨(g.status=.running∧∃c a b U,stepG P main g aE=.go c a b∧D aE a b∧Sub U i∧bD P main R D Stop U c a):=by
 have⟨X,k,f⟩:=h;rcases f _ _ _ k aE j with x|⟨hs,c,a,b,U,e,d,s,n⟩
 ·exact .inl x
 ·exact .inr ⟨hs,c,a,b,U,e,d,s,X,n,f⟩
def bD.A1{j:Tr}(h:Fz P main R D Stop (bD P main R D Stop) j g w):bD P main R D Stop j g w:=by
 refine⟨fun a c i=>bD P main R D Stop a c i∨(a=j∧c=g∧i=w),.inr ⟨rfl,rfl,rfl⟩,fun a c i f b k=>?_⟩;rcases f with f|⟨rfl,rfl,rfl⟩
 ·rcases f.now k with x|⟨U,g2,w2,es,UQ,e,d,s,n⟩
  ·exact .inl x
  ·exact .inr ⟨U,g2,w2,es,UQ,e,d,s,.inl n⟩
 ·rcases h b k with x|⟨U,g2,w2,es,UQ,e,d,s,n⟩
  ·exact .inl x
  ·exact .inr ⟨U,g2,w2,es,UQ,e,d,s,.inl n⟩
def bD.leaf{τ:Tr}(h:∀aE,R w aE→Stop g aE):bD P main R D Stop τ g w:=.A1 fun aE U=>.inl (h aE U)
def bD.rely(trans:∀a b c,R a b→R b c→R a c){τ:Tr}(h:bD P main R D Stop τ g w)(U:R w aE):bD P main R D Stop τ g aE :=
 .A1 fun mD GH=>h.now (trans _ _ _ U GH)
def bD.running(a:∀w,R w w)(U:∀g w,Stop g w→g.status=.running){b:Tr}(h:bD P main R D Stop b g w):g.status=.running:=by
 rcases h.now (a w) with x|⟨x,_⟩
 ·exact U _ _ x
 ·exact x
def bD.qK(l:∀a b,R' a b→R a b)(k:∀w i f,D w i f→D' w i f)(m:∀g w,Stop g w→BH g w){j:Tr}(h:bD P main R D Stop j g w):bD P main R' D' BH j g w:=by
 have⟨X,U,o⟩:=h;refine⟨X,U,fun j g w U c p=>?_⟩;rcases o _ _ _ U c (l _ _ p) with x|⟨hs,g',i,f,zU,e,d,s,n⟩
 ·exact .inl (m _ _ x)
 ·exact .inr ⟨hs,g',i,f,zU,e,k _ _ _ d,s,n⟩
def Way.qK(hR:∀a b,R' a b→R a b)(U:∀w w' es,D w w' es→D' w w' es)(hS:∀g w,Stop g w→BH g w)(h:Way P main R D Stop g w):Way P main R' D' BH g w :=
 let ⟨τ,x⟩:=h;⟨τ,x.qK hR U hS⟩
def Way.rely(d:∀a b c,R a b→R b c→R a c)(h:Way P main R D Stop g w)(U:R w aE):Way P main R D Stop g aE:=let ⟨τ,x⟩:=h;⟨τ,x.rely d U⟩
def Way.stop(h:∀a,R w a→Stop g a):Way P main R D Stop g w:=⟨.leaf,.leaf h⟩
def Ov (P:Program)(main:Bool)(R:Wq)(D:World→World→Array Event→Prop)(Stop:Gq)(g:Goroutine)(w:World):Prop :=
 Stop g w∨(g.status=.running∧∃g' w' es,stepG P main g w=.go g' w' es∧D w w' es∧Way P main R D Stop g' w')
def Way.head(h:Way P main R D Stop g w)(U:R w aE):Ov P main R D Stop g aE:=by
 have⟨a,h⟩:=h;rcases h.now U with x|⟨hs,g',w',es,zU,e,d,_,n⟩
 ·exact .inl x
 ·exact .inr ⟨hs,g',w',es,e,d,zU,n⟩
def Way.Cv(h:∀a,R w a→Ov P main R D Stop g a):Way P main R D Stop g w:=by
 have k:∀a:World,∃j:Tr,R w a→Stop g a∨(g.status=.running∧∃i b c,stepG P main g a=.go i b c∧D a b c∧bD P main R D Stop j i b):=by
  intro a;by_cases U:R w a
  ·rcases h a U with x|⟨hs,i,b,c,e,d,j,n⟩
   ·exact⟨.leaf,fun _=>.inl x⟩
   ·exact⟨j,fun _=>.inr ⟨hs,i,b,c,e,d,n⟩⟩
  ·exact⟨.leaf,fun z=>absurd z U⟩
 have⟨f,l⟩:=Classical.axiomOfChoice k;refine⟨.node f,.A1 fun a U=>?_⟩;rcases l a U with x|⟨hs,i,b,c,e,d,n⟩
 ·exact .inl x
 ·exact .inr ⟨hs,i,b,c,f a,e,d,IB f a,n⟩
def Way.step(hs:g.status=.running)(h:∀aE,R w aE→∃g' w' es,stepG P main g aE=.go g' w' es∧D aE w' es∧Way P main R D Stop g' w'):Way P main R D Stop g w :=
 Way.Cv fun aE U=>.inr ⟨hs,h aE U⟩
def Way.bind(a:∀w,R w w)(h:Way P main R D (fun g w=>Way P main R D Stop g w) g w):Way P main R D Stop g w:=by
 obtain⟨c,h⟩:=h;induction c using Bp.induction generalizing g w with
 | _ c ih =>
  refine Way.Cv fun b U=>?_;rcases h.now U with x|⟨hs,g',w',es,zU,e,d,s,n⟩
  ·exact x.head (a b)
  ·exact .inr ⟨hs,g',w',es,e,d,ih zU s n⟩
def cB(h:Goes P main R D Stop n g w):Way P main R D Stop g w:=by
 induction n generalizing g w with
 | zero=>exact⟨.leaf,.leaf h⟩
 | succ n d =>
  rcases h with h|⟨U,h⟩
  ·exact⟨.leaf,.leaf h⟩
  ·refine Way.step U fun a c=>?_;have b:=h a c;cases e:stepG P main g a with
   | go g' w' es=>rw[e,goes_go] at b;exact⟨g',w',es,rfl,b.1,d b.2⟩
   | _=>rw[e] at b;exact b.elim
end
section
def BB:Obj→TypeId
 | .cells _ t _=>t
 | .stringIter s _=>1000+s.size
 | _=>999
def jq(n:Nat)(l:Loc):Prop:=(∀ad:Addr,l=.cell ad→ad.block<n)∧∀b,l=.obj b→b<n
def jq.mono(h:jq n l)(U:n≤m):jq m l:=⟨fun a e=>lL (h.1 a e) U,fun b e=>lL (h.2 b e) U⟩
structure Cfg where
 P:Program
 ty:TypeId
 A:Nat
 E:Nat
 Wg:Nat
 C:Nat
 pZ:Nat→Prop
 N0:Nat
 KT:TypeId→Prop
 Still:Nat→Prop
 Shun:Loc→Prop
 B:Nat
 z:Value
 zs:Value
 zE:Value
 val:Value
 Mine:Loc→Prop
namespace Cfg
variable (K:Cfg)
def QY (b:Nat):Prop:=b=K.A∨b=K.E∨b=K.Wg
def dP (w:World)(b:Nat):Prop:=K.pZ b∨(K.N0≤b∧∃o,w.heap[b]?=some o∧K.KT (BB o))
def iI (S:Nat→Prop)(l:Loc):Prop:=(∃a,l=.cell a∧S a.block)∨l=.obj K.E∨∃b,l=.obj b∧S b
abbrev MZ(w:World):Loc→Prop:=K.iI (K.dP w)
def fq(l:Loc):Prop:=∃a,l=.cell a∧K.Still a.block
def cases:Array CommCase:=#[rcase K.A K.z,rcase K.E K.zE]
def pL (w:World)(st sm:Int):Prop:=w.heap[K.Wg]?=some (.cells #[.int .u64 st,.int .u32 sm] K.ty)
def xx:Addr:=⟨K.Wg,0,none⟩
structure Fit:Prop where
 AE:K.A≠K.E
 AW:K.A≠K.Wg
 EW:K.E≠K.Wg
 TB:¬K.pZ K.A
 Vr:¬K.pZ K.E
 Vs:¬K.pZ K.Wg
 A0:K.A<K.N0
 E0:K.E<K.N0
 W0:K.Wg<K.N0
 sA:¬K.Still K.A
 sE:¬K.Still K.E
 sW:¬K.Still K.Wg
 s0:∀b,K.Still b→b<K.N0
 c0:∀b,K.pZ b→b<K.N0
 Yz:∀b,K.pZ b→¬K.Still b
 I6:K.pZ K.C
 LR:∀a:Addr,a.block=K.Wg→K.Shun (.cell a)
 jx:∀l,K.Shun l→∃a,l=.cell a∧a.block<K.N0
 Vt:∀a:Addr,K.pZ a.block→¬K.Shun (.cell a)
 sh:∀a:Addr,K.Still a.block→¬K.Shun (.cell a)
 WB:K.Wg<K.B
 CB:K.C<K.B
end Cfg
variable (K:Cfg)
def Cfg.dP.low{K:Cfg}(h:K.dP w b)(U:b<K.N0):K.pZ b:=h.elim id fun z=>absurd z.1 oq
def Cfg.dP.lt{K:Cfg}(F:K.Fit)(U:K.N0≤w.heap.size)(h:K.dP w b):b<w.heap.size:=by
 rcases h with h|⟨_,o,h,_⟩
 ·exact lL (F.c0 b h) U
 ·exact(Array.getElem?_eq_some_iff.1 h).1
def Cfg.dP.of_same{K:Cfg}(h:K.dP w b)(e:w'.heap[b]?=w.heap[b]?):K.dP w' b:=by
 rcases h with h|⟨h1,o,h,h2⟩
 ·exact .inl h
 ·exact .inr ⟨h1,o,e.trans h,h2⟩
def Cfg.iI.mono{K:Cfg}(h:∀b,S b→S' b)(c:K.iI S l):K.iI S' l:=by
 rcases c with ⟨a,rfl,U⟩|rfl|⟨b,rfl,U⟩
 ·exact .inl ⟨a,rfl,h _ U⟩
 ·exact .inr (.inl rfl)
 ·exact .inr (.inr ⟨b,rfl,h _ U⟩)
def Cfg.Fit.kA{K:Cfg}(F:K.Fit)(w:World):¬K.dP w K.A:=fun h=>F.TB (h.low F.A0)
def Cfg.Fit.kE{K:Cfg}(F:K.Fit)(w:World):¬K.dP w K.E:=fun h=>F.Vr (h.low F.E0)
def Cfg.Fit.kW{K:Cfg}(F:K.Fit)(w:World):¬K.dP w K.Wg:=fun h=>F.Vs (h.low F.W0)
def Cfg.Fit.ks{K:Cfg}(F:K.Fit)(w:World)(b:Nat)(h:K.dP w b):¬K.Still b:=fun U=>F.Yz b (h.low (F.s0 b U)) U
def Cfg.Fit.kC{K:Cfg}(F:K.Fit)(w:World):K.dP w K.C:=.inl F.I6
def Cfg.Fit.kh{K:Cfg}(F:K.Fit)(w:World)(a:Addr)(h:K.dP w a.block):¬K.Shun (.cell a):=fun U=>by have⟨c,e,b⟩:=F.jx _ U;cases e;exact F.Vt a (h.low b) U
def Cfg.Fit.apart{K:Cfg}(F:K.Fit)(U:∃w,∀b,S b→K.dP w b):Apart K.Shun (K.iI S) K.fq:=by
 have⟨w,U⟩:=U;refine⟨?_,?_,?_⟩
 ·rintro l (⟨a,rfl,h⟩|rfl|⟨a,rfl,h⟩) ⟨b,e,h'⟩
  ·cases e;exact F.ks w _ (U _ h) h'
  ·cases e
  ·cases e
 ·rintro l (⟨a,rfl,h⟩|rfl|⟨a,rfl,h⟩) hs
  ·exact F.kh w a (U _ h) hs
  iterate 2
   ·have⟨a,e,_⟩:=F.jx _ hs;cases e
 ·rintro l ⟨a,rfl,h⟩;exact F.sh a h
def Cfg.Fit.CW{K:Cfg}(F:K.Fit):K.C≠K.Wg:=fun e=>F.Vs (e▸F.I6)
structure RM(w aE:World):Prop where
 tape:aE.tape=w.tape
 os:aE.os=w.os
 output:aE.output=w.output
 block:∀b,b<w.heap.size→¬K.dP w b→¬K.QY b→aE.heap[b]?=w.heap[b]?
 size:w.heap.size≤aE.heap.size
def RC (w aE:World):Prop:=∀b,K.dP w b∨K.Still b→aE.heap[b]?=w.heap[b]?
structure RJ(S:Nat→Prop)(w aE:World):Prop where
 rc:∀b,S b∨K.Still b→aE.heap[b]?=w.heap[b]?
 live:Go.ConcN.WgLive K.ty K.Wg w→Go.ConcN.WgLive K.ty K.Wg aE
def Jb (w':World)(e:Event):Prop:=(∃a wr,e=⟨.cell a,wr,false⟩∧(K.dP w' a.block∨(K.Still a.block∧wr=false)))∨∃b wr,e=⟨.obj b,wr,false⟩∧K.dP w' b
def QW (w':World)(e:Event):Prop:=(∀x,(MemAct.ofEvent e).touch?=some x→Ok0 K.Shun (K.MZ w') K.fq x∧jq w'.heap.size x.loc)∧e.loc≠.mark .disable∧e.loc≠.mark .enable∧MemAct.ofEvent e≠.mark (.release K.xx)
structure DK(w w':World)(es:Array Event):Prop where
 tape:w'.tape=w.tape
 os:w'.os=w.os
 output:w'.output=w.output
 block:∀b,b<w.heap.size→¬K.dP w b→w'.heap[b]?=w.heap[b]?
 stay:∀b,K.dP w b→K.dP w' b
 born:∀b,w.heap.size≤b→b<w'.heap.size→K.dP w' b
 keep:w'.heap[K.C]?=w.heap[K.C]?
 grow:w.heap.size≤w'.heap.size
 evs:∀e∈es,Jb K w' e
structure DM(w w':World)(es:Array Event):Prop where
 block:∀b,K.dP w b∨K.Still b∨K.QY b→w'.heap[b]?=w.heap[b]?
 born:∀b,K.dP w' b→K.dP w b
 grow:w.heap.size≤w'.heap.size
 evs:∀e∈es,QW K w' e
section
variable {K:Cfg}{w aE mD:World}
def RM.refl(w:World):RM K w w:=⟨rfl,rfl,rfl,fun _ _ _ _=>rfl,lr⟩
def RM.trans(h:RM K w aE)(U:RM K aE mD):RM K w mD:=⟨U.tape.trans h.tape,U.os.trans h.os,U.output.trans h.output,fun b l a c=>(U.block b (lL l h.size) (fun z=>a (z.of_same (h.block b l a c).symm)) c).trans (h.block b l a c),lT h.size U.size⟩
def RM.at(w:World)(d:Nat):RM K w (w.at d):=⟨rfl,rfl,rfl,fun _ _ _ _=>rfl,lr⟩
def RC.refl(w:World):RC K w w:=fun _ _=>rfl
def RC.trans(h:RC K w aE)(U:RC K aE mD):RC K w mD:=fun b a=>(U b (a.imp (fun z=>z.of_same (h b a)) id)).trans (h b a)
def RC.at(w:World)(d:Nat):RC K w (w.at d):=fun _ _=>rfl
def RJ.refl(w:World):RJ K S w w:=⟨fun _ _=>rfl,id⟩
def RJ.trans(h:RJ K S w aE)(U:RJ K S aE mD):RJ K S w mD:=⟨fun b z=>(U.rc b z).trans (h.rc b z),U.live ∘ h.live⟩
end
variable [Go.ConcX.Payload][Go.ConcR.Payload]
def RJ.rw{K:Cfg}(U:S K.C)(h:RJ K S w aE):Go.ConcN.RW K.ty K.Wg K.C 1 0 0 w aE:=by have e:=h.rc K.C (.inl U);refine⟨fun _ h=>absurd h oq,h.live,?_,by simp[World.cell?,e]⟩;rintro⟨cs,hc,hn⟩;exact⟨cs,e.trans hc,hn⟩
def AtSend(v:Value)(Next:Gq)(g:Goroutine)(w:World):Prop :=
 g.status=.running∧K.N0≤w.heap.size∧stepG K.P false g w=.comm g #[scase K.A v K.zs] true .send w #[]∧∀aE,RC K w aE→Next (Conc.served g undef) aE
def L9 (S:Nat→Prop):Nat→Loc→Prop:=fun _ l=>K.iI S l
def Ry:Nat→Loc→Prop:=fun _ l=>K.fq l
abbrev Fa:=Go.ConcN.RW K.ty K.Wg K.C 1 0 0
abbrev DJ(S:Nat→Prop):=Go.ConcN.DWs K.Wg (L9 K S) (Ry K) K.C 1 1
abbrev xz:=Go.ConcN.AtR0 K.P K.ty K.Wg K.C 1 0 1 K.val
abbrev Li:=Go.ConcN.AtK1 K.P K.ty K.Wg K.C 1 0 1
abbrev Lf:=Go.ConcN.AtD1 K.P K.ty K.Wg K.C 1 0 1
abbrev Fs:=Go.ConcN.AtD2 K.P K.ty K.Wg K.C 1 0 1
abbrev Lg:=Go.ConcN.AtD3 K.P K.ty K.Wg K.C 1 0 1
abbrev Lh:=Go.ConcN.AtD4 K.P K.ty K.Wg
abbrev zX:=Go.ConcR.DC0
def AtClose(g:Goroutine)(w:World):Prop :=
 g.status=.running∧K.N0≤w.heap.size∧mayWake K.P g=true∧∃g',g'.status=.running ∧
  (w.heap[K.E]?=some (.chan 0 #[] false 0 0 false)→stepG K.P false g w=.go g' (w.setChan K.E 0 #[] true 0 0 false) (closeEvents K.E)) ∧
  ∀aE,RC K w aE→Go.ConcN.WgLive K.ty K.Wg aE→Way K.P false (RJ K (K.dP aE)) (DJ K (K.dP aE)) (xz K) g' aE
def lM:Vq→Goroutine→World→Prop
 | []=>Way K.P false (RC K) (DK K) (AtClose K)
 | v::vs=>Way K.P false (RC K) (DK K) (AtSend K v (lM vs))
def lj:Vq→Goroutine→World→Prop
 | []=>AtClose K
 | v::vs=>AtSend K v (lM K vs)
def qd(vs:Vq):lM K vs=Way K.P false (RC K) (DK K) (lj K vs):=by cases vs<;>rfl
section main
variable [Go.ConcX.Shy K.Wg K.C](L:Nat)(AnchW:Gq)(Post:Value→World→Prop)
abbrev h9:=Go.ConcX.RPa K.ty K.Wg K.C [K.val]
abbrev z8:=Go.ConcX.RPb K.ty K.Wg K.C [K.val]
abbrev z6:=Go.ConcX.KPa K.ty K.Wg K.C [K.val]
abbrev xE:=Go.ConcX.Full K.C [K.val]
abbrev jf:=Go.ConcX.DPi K.Mine K.Wg K.C L
abbrev uv:=Go.ConcX.AtKd K.P K.ty K.Wg K.C L [K.val] K.Mine AnchW
abbrev je:=Go.ConcX.AtW1 K.P K.ty K.Wg K.C L [K.val] K.Mine AnchW Post
abbrev Lk:=Go.ConcX.AtW2 K.P K.ty K.Wg K.C L [K.val] K.Mine AnchW Post
abbrev Ft:=Go.ConcX.AtW3 K.P K.ty K.Wg K.C L [K.val] K.Mine Post
abbrev Ll:=Go.ConcX.AtW4 K.P K.Wg K.C L K.Mine Post
abbrev Lj:=Go.ConcX.AtKe K.P K.Wg K.C L K.Mine Post
abbrev Fq:=Go.ConcX.AtAcq K.P K.Wg K.C L K.Mine Post
abbrev L5:=Go.ConcX.AtRetJ K.P K.Wg K.C K.Mine Post
def FA(k:Nat)(v:Value)(ok:Bool)(Next:Gq)(g fW:Goroutine)(w:World):Prop :=
 g.frame=fW.frame∧g.callers=fW.callers∧g.dying=fW.dying∧(∀aE,RM K w aE→stepG K.P true g aE=.comm fW K.cases true .select aE #[])∧∀aE,RM K w aE→K.N0≤aE.heap.size→Next (Conc.served fW (commResult K.cases .select k v ok)) aE
def xC(k:Nat)(v:Value)(ok:Bool)(Next:Gq)(g:Goroutine)(w:World):Prop:=g.status=.running∧∃fW,FA K k v ok Next g fW w
def vG(g:Goroutine)(w:World):Prop:=g.status=.running∧(z6 K w→∀L,K.N0≤L→Way K.P true (h9 K) (jf K L) (uv K L AnchW) g w)
def BF(g:Goroutine)(w:World):Prop:=Way K.P true (RM K) (DM K) (vG K AnchW) g w
def r8:Vq→Goroutine→World→Prop
 | []=>Way K.P true (RM K) (DM K) (xC K 1 K.zE false (BF K AnchW))
 | v::vs=>Way K.P true (RM K) (DM K) (xC K 0 v true (r8 vs))
def iN:Vq→Goroutine→World→Prop
 | []=>xC K 1 K.zE false (BF K AnchW)
 | v::vs=>xC K 0 v true (r8 K AnchW vs)
def nz:Vq→Goroutine→Goroutine→World→Prop
 | []=>FA K 1 K.zE false (BF K AnchW)
 | v::vs=>FA K 0 v true (r8 K AnchW vs)
def EM(vs:Vq)(g:Goroutine)(w:World):iN K AnchW vs g w↔g.status=.running∧∃a,nz K AnchW vs g a w:=by cases vs<;>exact Iff.rfl
def sS(vs:Vq):r8 K AnchW vs=Way K.P true (RM K) (DM K) (iN K AnchW vs):=by cases vs<;>rfl
end main
abbrev Ch:=Sum (Vq) (Sum (Vq) (Sum (Value × Vq) (Sum (Unit) (Sum (Unit) (Sum (Unit) (Sum (Unit) (Sum (Unit) (Sum (Unit) (Nat × Nat)))))))))
abbrev Ch.fresh(vs:Vq):Ch:=.inl vs
abbrev Ch.work(vs:Vq):Ch:=.inr (.inl vs)
abbrev Ch.eJ(v:Value)(vs:Vq):Ch:=.inr (.inr (.inl (v,vs)))
abbrev Ch.r0:Ch:=.inr (.inr (.inr (.inl ())))
abbrev Ch.k1:Ch:=.inr (.inr (.inr (.inr (.inl ()))))
abbrev Ch.d1:Ch:=.inr (.inr (.inr (.inr (.inr (.inl ())))))
abbrev Ch.d2:Ch:=.inr (.inr (.inr (.inr (.inr (.inr (.inl ()))))))
abbrev Ch.d3:Ch:=.inr (.inr (.inr (.inr (.inr (.inr (.inr (.inl ())))))))
abbrev Ch.d4:Ch:=.inr (.inr (.inr (.inr (.inr (.inr (.inr (.inr (.inl ()))))))))
abbrev Ch.quit(n:Nat)(d:Nat):Ch:=.inr (.inr (.inr (.inr (.inr (.inr (.inr (.inr (.inr ((n,d))))))))))
def Ch.bR{motive:Ch→Prop}(fresh:∀(vs:Vq),motive (Ch.fresh vs))(work:∀(vs:Vq),motive (Ch.work vs))(eJ:∀(v:Value) (vs:Vq),motive (Ch.eJ v vs))(r0:motive Ch.r0)(k1:motive Ch.k1)(d1:motive Ch.d1)(d2:motive Ch.d2)(d3:motive Ch.d3)(d4:motive Ch.d4)(quit:∀(n:Nat) (d:Nat),motive (Ch.quit n d))(x:Ch):motive x:=by
 rcases x with vs|vs|⟨v,vs⟩|_|_|_|_|_|_|⟨n,d⟩
 ·exact fresh vs
 ·exact work vs
 ·exact eJ v vs
 ·exact r0
 ·exact k1
 ·exact d1
 ·exact d2
 ·exact d3
 ·exact d4
 ·exact quit n d
abbrev Ma:=Sum (Vq) (Sum (Vq) (Sum (Vq) (Sum (Unit) (Sum (Unit) (Sum (Unit) (Sum (Unit) (Sum (Unit) (Sum (Unit) (Sum (Unit) (Sum (Unit) (Unit)))))))))))
abbrev Ma.front(vs:Vq):Ma:=.inl vs
abbrev Ma.walk(vs:Vq):Ma:=.inr (.inl vs)
abbrev Ma.eJ(vs:Vq):Ma:=.inr (.inr (.inl vs))
abbrev Ma.kd:Ma:=.inr (.inr (.inr (.inl ())))
abbrev Ma.w1:Ma:=.inr (.inr (.inr (.inr (.inl ()))))
abbrev Ma.w2:Ma:=.inr (.inr (.inr (.inr (.inr (.inl ())))))
abbrev Ma.w3:Ma:=.inr (.inr (.inr (.inr (.inr (.inr (.inl ()))))))
abbrev Ma.blk:Ma:=.inr (.inr (.inr (.inr (.inr (.inr (.inr (.inl ())))))))
abbrev Ma.w4:Ma:=.inr (.inr (.inr (.inr (.inr (.inr (.inr (.inr (.inl ()))))))))
abbrev Ma.ke:Ma:=.inr (.inr (.inr (.inr (.inr (.inr (.inr (.inr (.inr (.inl ())))))))))
abbrev Ma.acq:Ma:=.inr (.inr (.inr (.inr (.inr (.inr (.inr (.inr (.inr (.inr (.inl ()))))))))))
abbrev Ma.over:Ma:=.inr (.inr (.inr (.inr (.inr (.inr (.inr (.inr (.inr (.inr (.inr (())))))))))))
def Ma.bR{motive:Ma→Prop}(front:∀(vs:Vq),motive (Ma.front vs))(walk:∀(vs:Vq),motive (Ma.walk vs))(eJ:∀(vs:Vq),motive (Ma.eJ vs))(kd:motive Ma.kd)(w1:motive Ma.w1)(w2:motive Ma.w2)(w3:motive Ma.w3)(blk:motive Ma.blk)(w4:motive Ma.w4)(ke:motive Ma.ke)(acq:motive Ma.acq)(over:motive Ma.over)(x:Ma):motive x:=by
 rcases x with vs|vs|vs|_|_|_|_|_|_|_|_|_
 ·exact front vs
 ·exact walk vs
 ·exact eJ vs
 ·exact kd
 ·exact w1
 ·exact w2
 ·exact w3
 ·exact blk
 ·exact w4
 ·exact ke
 ·exact acq
 ·exact over
def zV (S:Nat→Prop):Ch→Tr→Goroutine→World→Prop
 | .inl vs,τ,g,w=>bD K.P false (RC K) (DK K) (lj K vs) τ g w
 | .inr (.inl vs),τ,g,w=>bD K.P false (RC K) (DK K) (lj K vs) τ g w
 | .inr (.inr (.inl (v,vs))),_,g,w=>∃fW,g=parked fW #[scase K.A v K.zs] .send∧∀aE,RC K w aE→lM K vs (Conc.served fW undef) aE
 | .inr (.inr (.inr (.inl _))),τ,g,w=>bD K.P false (RJ K S) (DJ K S) (xz K) τ g w
 | .inr (.inr (.inr (.inr (.inl _)))),τ,g,w=>bD K.P false (Fa K) zX (Li K) τ g w
 | .inr (.inr (.inr (.inr (.inr (.inl _))))),τ,g,w=>bD K.P false (Fa K) zX (Lf K) τ g w
 | .inr (.inr (.inr (.inr (.inr (.inr (.inl _)))))),τ,g,w=>bD K.P false (Fa K) zX (Fs K) τ g w
 | .inr (.inr (.inr (.inr (.inr (.inr (.inr (.inl _))))))),τ,g,w=>bD K.P false (Fa K) zX (Lg K) τ g w
 | .inr (.inr (.inr (.inr (.inr (.inr (.inr (.inr (.inl _)))))))),τ,g,w=>bD K.P false (Fa K) zX (Lh K) τ g w
 | .inr (.inr (.inr (.inr (.inr (.inr (.inr (.inr (.inr ((n,d)))))))))),τ,g,_=>QuitsD K.P n d g∧τ=.ofNat n
section main
variable [Go.ConcX.Shy K.Wg K.C](L:Nat)(AnchW:Gq)(Post:Value→World→Prop)
def xG:Ma→Tr→Goroutine→World→Prop
 | .inl vs,τ,g,w=>bD K.P true (RM K) (DM K) (iN K AnchW vs) τ g w
 | .inr (.inl vs),τ,g,w=>bD K.P true (RM K) (DM K) (iN K AnchW vs) τ g w
 | .inr (.inr (.inl vs)),_,g,w=>∃OY fW,g=parked fW K.cases .select∧nz K AnchW vs OY fW w
 | .inr (.inr (.inr (.inl _))),τ,g,w=>bD K.P true (h9 K) (jf K L) (uv K L AnchW) τ g w
 | .inr (.inr (.inr (.inr (.inl _)))),τ,g,w=>bD K.P true (h9 K) (jf K L) (je K L AnchW Post) τ g w
 | .inr (.inr (.inr (.inr (.inr (.inl _))))),τ,g,w=>bD K.P true (h9 K) (jf K L) (Lk K L AnchW Post) τ g w
 | .inr (.inr (.inr (.inr (.inr (.inr (.inl _)))))),τ,g,w=>bD K.P true (z8 K) (jf K L) (Ft K L Post) τ g w
 | .inr (.inr (.inr (.inr (.inr (.inr (.inr (.inl _))))))),τ,g,w=>∃fW:Goroutine,g={ fW with status:=.blocked }∧fW.status=.running∧fW.offers=none∧bD K.P true (z8 K) (jf K L) (Ft K L Post) τ fW w
 | .inr (.inr (.inr (.inr (.inr (.inr (.inr (.inr (.inl _)))))))),τ,g,w=>bD K.P true AtRel (jf K L) (Ll K L Post) τ g w
 | .inr (.inr (.inr (.inr (.inr (.inr (.inr (.inr (.inr (.inl _))))))))),τ,g,w=>bD K.P true AtRel (jf K L) (Lj K L Post) τ g w
 | .inr (.inr (.inr (.inr (.inr (.inr (.inr (.inr (.inr (.inr (.inl _)))))))))),τ,g,w=>bD K.P true AtRel (jf K L) (Fq K L Post) τ g w
 | .inr (.inr (.inr (.inr (.inr (.inr (.inr (.inr (.inr (.inr (.inr (_))))))))))),τ,g,w=>bD K.P true (RM K) (DM K) (vG K AnchW) τ g w
end main
def Ch.rel:Ch→Bool
 | .inl _|.inr (.inl _)|.inr (.inr (.inl _))|.inr (.inr (.inr (.inl _)))=>false
 | _=>true
def Ch.shut:Ch→Bool
 | .inl _|.inr (.inl _)|.inr (.inr (.inl _))=>false
 | _=>true
def Ch.deaf:Ch→Nat
 | .inr (.inr (.inr (.inr (.inr (.inl _)))))|.inr (.inr (.inr (.inr (.inr (.inr (.inl _))))))|.inr (.inr (.inr (.inr (.inr (.inr (.inr (.inl _)))))))|.inr (.inr (.inr (.inr (.inr (.inr (.inr (.inr (.inl _))))))))=>1
 | .inr (.inr (.inr (.inr (.inr (.inr (.inr (.inr (.inr ((_,d))))))))))=>d
 | _=>0
def Ch.left:Ch→Nat
 | .inl vs|.inr (.inl vs)=>vs.length
 | .inr (.inr (.inl (_,vs)))=>vs.length+1
 | _=>0
def Ch.fY:Ch→Nat
 | .inl _|.inr (.inl _)=>9
 | .inr (.inr (.inl _))=>8
 | .inr (.inr (.inr (.inl _)))=>7
 | .inr (.inr (.inr (.inr (.inl _))))=>6
 | .inr (.inr (.inr (.inr (.inr (.inl _)))))=>5
 | .inr (.inr (.inr (.inr (.inr (.inr (.inl _))))))=>4
 | .inr (.inr (.inr (.inr (.inr (.inr (.inr (.inl _)))))))=>3
 | .inr (.inr (.inr (.inr (.inr (.inr (.inr (.inr (.inl _))))))))=>2
 | .inr (.inr (.inr (.inr (.inr (.inr (.inr (.inr (.inr (_)))))))))=>1
def Ma.deaf:Ma→Nat
 | .inr (.inr (.inr (.inr (.inl _))))|.inr (.inr (.inr (.inr (.inr (.inl _)))))|.inr (.inr (.inr (.inr (.inr (.inr (.inl _))))))|.inr (.inr (.inr (.inr (.inr (.inr (.inr (.inl _)))))))|.inr (.inr (.inr (.inr (.inr (.inr (.inr (.inr (.inl _))))))))|.inr (.inr (.inr (.inr (.inr (.inr (.inr (.inr (.inr (.inl _)))))))))=>1
 | _=>0
def Ma.early:Ma→Bool
 | .inl _|.inr (.inl _)|.inr (.inr (.inl _))|.inr (.inr (.inr (.inr (.inr (.inr (.inr (.inr (.inr (.inr (.inr (_)))))))))))=>true
 | _=>false
def Ma.fY(done:Bool):Ma→Nat
 | .inl _|.inr (.inl _)=>10
 | .inr (.inr (.inl _))=>9
 | .inr (.inr (.inr (.inl _)))=>7
 | .inr (.inr (.inr (.inr (.inl _))))=>if done then 5 else 6
 | .inr (.inr (.inr (.inr (.inr (.inl _)))))=>if done then 6 else 5
 | .inr (.inr (.inr (.inr (.inr (.inr (.inl _))))))=>4
 | .inr (.inr (.inr (.inr (.inr (.inr (.inr (.inl _)))))))=>3
 | .inr (.inr (.inr (.inr (.inr (.inr (.inr (.inr (.inl _))))))))=>3
 | .inr (.inr (.inr (.inr (.inr (.inr (.inr (.inr (.inr (.inl _)))))))))=>2
 | .inr (.inr (.inr (.inr (.inr (.inr (.inr (.inr (.inr (.inr (.inl _))))))))))=>1
 | .inr (.inr (.inr (.inr (.inr (.inr (.inr (.inr (.inr (.inr (.inr (_)))))))))))=>8
def Ch.done:Ch→Bool
 | .inr (.inr (.inr (.inr (.inr (.inr (.inr (.inr (.inr (_)))))))))=>true
 | _=>false
def KK:Int:=4294967296
def jZ:Ch→Ma→Int→Int→Prop
 | .inl vs,.inl gI,st,sm|.inl vs,.inr (.inr (.inl gI)),st,sm|.inr (.inl vs),.inr (.inl gI),st,sm|.inr (.inl vs),.inr (.inr (.inl gI)),st,sm=>gI=vs∧st=KK∧sm=0
 | .inr (.inr (.inl (v,vs))),.inr (.inl gI),st,sm=>gI=v::vs∧st=KK∧sm=0
 | .inr (.inr (.inr (.inl _))),.inr (.inl vs),st,sm|.inr (.inr (.inr (.inr (.inl _)))),.inr (.inl vs),st,sm|.inr (.inr (.inr (.inr (.inr (.inl _))))),.inr (.inl vs),st,sm=>vs=[]∧st=KK∧sm=0
 | .inr (.inr (.inr (.inl _))),.inr (.inr (.inr (.inr (.inr (.inr (.inr (.inr (.inr (.inr (.inr (_))))))))))),st,sm|.inr (.inr (.inr (.inr (.inl _)))),.inr (.inr (.inr (.inr (.inr (.inr (.inr (.inr (.inr (.inr (.inr (_))))))))))),st,sm|.inr (.inr (.inr (.inr (.inr (.inl _))))),.inr (.inr (.inr (.inr (.inr (.inr (.inr (.inr (.inr (.inr (.inr (_))))))))))),st,sm|.inr (.inr (.inr (.inl _))),.inr (.inr (.inr (.inl _))),st,sm|.inr (.inr (.inr (.inr (.inl _)))),.inr (.inr (.inr (.inl _))),st,sm|.inr (.inr (.inr (.inr (.inr (.inl _))))),.inr (.inr (.inr (.inl _))),st,sm|.inr (.inr (.inr (.inl _))),.inr (.inr (.inr (.inr (.inl _)))),st,sm|.inr (.inr (.inr (.inr (.inl _)))),.inr (.inr (.inr (.inr (.inl _)))),st,sm|.inr (.inr (.inr (.inr (.inr (.inl _))))),.inr (.inr (.inr (.inr (.inl _)))),st,sm|.inr (.inr (.inr (.inl _))),.inr (.inr (.inr (.inr (.inr (.inl _))))),st,sm|.inr (.inr (.inr (.inr (.inl _)))),.inr (.inr (.inr (.inr (.inr (.inl _))))),st,sm|.inr (.inr (.inr (.inr (.inr (.inl _))))),.inr (.inr (.inr (.inr (.inr (.inl _))))),st,sm=>st=KK∧sm=0
 | .inr (.inr (.inr (.inl _))),.inr (.inr (.inr (.inr (.inr (.inr (.inl _)))))),st,sm|.inr (.inr (.inr (.inr (.inl _)))),.inr (.inr (.inr (.inr (.inr (.inr (.inl _)))))),st,sm|.inr (.inr (.inr (.inr (.inr (.inl _))))),.inr (.inr (.inr (.inr (.inr (.inr (.inl _)))))),st,sm|.inr (.inr (.inr (.inl _))),.inr (.inr (.inr (.inr (.inr (.inr (.inr (.inl _))))))),st,sm|.inr (.inr (.inr (.inr (.inl _)))),.inr (.inr (.inr (.inr (.inr (.inr (.inr (.inl _))))))),st,sm|.inr (.inr (.inr (.inr (.inr (.inl _))))),.inr (.inr (.inr (.inr (.inr (.inr (.inr (.inl _))))))),st,sm=>st=KK+1∧sm=0
 | .inr (.inr (.inr (.inr (.inr (.inr (.inl _)))))),.inr (.inr (.inr (.inr (.inr (.inr (.inl _)))))),st,sm|.inr (.inr (.inr (.inr (.inr (.inr (.inr (.inl _))))))),.inr (.inr (.inr (.inr (.inr (.inr (.inl _)))))),st,sm|.inr (.inr (.inr (.inr (.inr (.inr (.inl _)))))),.inr (.inr (.inr (.inr (.inr (.inr (.inr (.inl _))))))),st,sm|.inr (.inr (.inr (.inr (.inr (.inr (.inr (.inl _))))))),.inr (.inr (.inr (.inr (.inr (.inr (.inr (.inl _))))))),st,sm=>st=1∧sm=0
 | .inr (.inr (.inr (.inr (.inr (.inr (.inr (.inr (.inl _)))))))),.inr (.inr (.inr (.inr (.inr (.inr (.inl _)))))),st,sm|.inr (.inr (.inr (.inr (.inr (.inr (.inr (.inr (.inl _)))))))),.inr (.inr (.inr (.inr (.inr (.inr (.inr (.inl _))))))),st,sm=>st=0∧sm=0
 | .inr (.inr (.inr (.inr (.inr (.inr (.inr (.inr (.inr (_))))))))),.inr (.inl vs),st,sm=>vs=[]∧st=0∧sm=0
 | .inr (.inr (.inr (.inr (.inr (.inr (.inr (.inr (.inr (_))))))))),.inr (.inr (.inr (.inr (.inr (.inr (.inr (.inr (.inr (.inr (.inr (_))))))))))),st,sm|.inr (.inr (.inr (.inr (.inr (.inr (.inr (.inr (.inr (_))))))))),.inr (.inr (.inr (.inl _))),st,sm|.inr (.inr (.inr (.inr (.inr (.inr (.inr (.inr (.inr (_))))))))),.inr (.inr (.inr (.inr (.inl _)))),st,sm|.inr (.inr (.inr (.inr (.inr (.inr (.inr (.inr (.inr (_))))))))),.inr (.inr (.inr (.inr (.inr (.inl _))))),st,sm|.inr (.inr (.inr (.inr (.inr (.inr (.inr (.inr (.inr (_))))))))),.inr (.inr (.inr (.inr (.inr (.inr (.inr (.inr (.inl _)))))))),st,sm|.inr (.inr (.inr (.inr (.inr (.inr (.inr (.inr (.inr (_))))))))),.inr (.inr (.inr (.inr (.inr (.inr (.inr (.inr (.inr (.inl _))))))))),st,sm|.inr (.inr (.inr (.inr (.inr (.inr (.inr (.inr (.inr (_))))))))),.inr (.inr (.inr (.inr (.inr (.inr (.inr (.inr (.inr (.inr (.inl _)))))))))),st,sm=>st=0∧sm=0
 | .inr (.inr (.inr (.inr (.inr (.inr (.inr (.inr (.inr (_))))))))),.inr (.inr (.inr (.inr (.inr (.inr (.inl _)))))),st,sm=>st=0∧sm=1
 | _,_,_,_=>False
def ow (S:Nat→Prop)(c:Nat)(rel:Bool)(t:Trace):Prop :=
 if rel then ∃r,PT K.Shun (K.iI S) K.fq c (fun i=>Before t i r) t∧Go.ConcN.RelBy K.xx t c r∧∀k,r<k→t.act? k≠some (.mark (.release K.xx))
 else PT K.Shun (K.iI S) K.fq c (Knows t c) t
section main
variable [Go.ConcX.Shy K.Wg K.C](L:Nat)(AnchW:Gq)(Post:Value→World→Prop)
structure J(S:Nat→Prop)(c:Nat)(x:Ch)(y:Ma)(dR eg:Tr)(gs:Array Goroutine)(a b:Goroutine)(w:World)(t:Trace)(q:Nat→Nat):Prop where
 pos:0<c
 h0:gs[0]?=some a
 hc:gs[c]?=some b
 old:∀i g,0<i→i≠c→gs[i]?=some g→QuitsD K.P (q i) (Deaf t i) g
 above:∀j,gs.size≤j→Deaf t j=0
 ch:zV K S x dR b w
 ma:xG K L AnchW Post y eg a w
 pair:∃st sm,jZ x y st sm∧K.pL w st sm
 uF:∃s,w.heap[K.A]?=some (.chan 0 #[] false s s false)
 xr:w.heap[K.E]?=some (.chan 0 #[] x.shut 0 0 false)
 pay:Go.ConcN.PayAt K.C 1 w
 full:x.rel=true→xE K w
 mS:y.early=true→∀b,S b↔K.dP w b
 qm:∀b,K.pZ b→S b
 of:∃w₀,∀b,S b→K.dP w₀ b
 size:y.early=true→K.N0≤w.heap.size
 rB:y.early=false→K.N0≤L∧∀b,S b→b<L
 Eh:y.early=true→∀i z,touchAt t i=some z→jq w.heap.size z.loc∨Knows t c i∨(K.Shun z.loc∧z.kind=.atomic)
 tr:ow K S c x.rel t
 d0:Deaf t 0=y.deaf
 dc:Deaf t c=x.deaf
end main
end
section
open Go.ConcN (sumTo upd sumTo_upd upd_ne upd_same)
def ic{es:Array Event}{g:Nat}{fn:FuncId}{pos:String}:∀a∈MemOp.ofEvents g fn pos es,a.g=g:=fun a U=>by obtain⟨e,_,rfl⟩:=Conc.mem_ofEvents U;rfl
def sU(h:e.mute=true):MemAct.ofEvent e≠.mark (.release ad):=by
 have⟨U,c,b⟩:=e;intro a;cases U with
 | mark m=>cases m<;>simp_all [Event.mute,MemAct.ofEvent]
 | _=>simp_all [Event.mute]
variable {K:Cfg}[Go.ConcX.Payload][Go.ConcR.Payload][Go.ConcX.Shy K.Wg K.C]{AnchW:Gq}{Post:Value→World→Prop}
variable {L:Nat}{S S':Nat→Prop}{c:Nat}{x x':Ch}{y y':Ma}{dR eg fs fZ:Tr}{gs:Array Goroutine}{a a' b b':Goroutine}{w w':World}{t:Trace}{q:Nat→Nat}{sl:Option (Nat × Nat)}{es:Array Event}
def lj.run{vs:Vq}(h:lj K vs g w):g.status=.running:=by cases vs<;>exact h.1
def iN.run{vs:Vq}(h:iN K AnchW vs g w):g.status=.running:=by cases vs<;>exact h.1
def nz.rely{vs:Vq}(h:nz K AnchW vs g fW w)(b:RM K w aE):nz K AnchW vs g fW aE:=by cases vs<;>exact⟨h.1,h.2.1,h.2.2.1,fun a U=>h.2.2.2.1 a (b.trans U),fun a U=>h.2.2.2.2 a (b.trans U)⟩
def nz.comm{vs:Vq}(h:nz K AnchW vs g fW w):stepG K.P true g w=.comm fW K.cases true .select w #[]:=by cases vs<;>exact h.2.2.2.1 w (RM.refl w)
def nz.tries{vs:Vq}(h:nz K AnchW vs g fW w):iN K AnchW vs { parked fW K.cases .select with status:=.running } w:=by cases vs<;>exact⟨rfl,fW,rfl,rfl,rfl,fun a b=>by rw[← h.2.2.2.1 a b];exact stepG_same h.1.symm h.2.1.symm h.2.2.1.symm a,h.2.2.2.2⟩
def zV.rely(j:S K.C)(h:zV K S x dR b w)(c:x.shut=false→RC K w w')(i:RJ K S w w'):zV K S x dR b w':=by
 cases x using Ch.bR with
 | fresh vs|work vs=>exact bD.rely (R:=RC K) (fun _ _ _=>RC.trans) h (c rfl)
 | eJ v vs=>obtain⟨a,e,k⟩:=h;exact⟨a,e,fun g f=>k g ((c rfl).trans f)⟩
 | r0=>exact bD.rely (R:=RJ K S) (fun _ _ _=>RJ.trans) h i
 | k1|d1|d2|d3|d4=>exact bD.rely (R:=Fa K) (fun _ _ _=>Go.ConcN.RW.trans) h (i.rw j)
 | quit n d=>exact h
def ot (K:Cfg)[Go.ConcX.Payload][Go.ConcX.Shy K.Wg K.C]:Ma→World→World→Prop
 | .inl _|.inr (.inl _)|.inr (.inr (.inl _))|.inr (.inr (.inr (.inr (.inr (.inr (.inr (.inr (.inr (.inr (.inr (_)))))))))))=>RM K
 | .inr (.inr (.inr (.inl _)))|.inr (.inr (.inr (.inr (.inl _))))|.inr (.inr (.inr (.inr (.inr (.inl _)))))=>h9 K
 | .inr (.inr (.inr (.inr (.inr (.inr (.inl _))))))|.inr (.inr (.inr (.inr (.inr (.inr (.inr (.inl _)))))))=>z8 K
 | .inr (.inr (.inr (.inr (.inr (.inr (.inr (.inr (.inl _))))))))|.inr (.inr (.inr (.inr (.inr (.inr (.inr (.inr (.inr (.inl _)))))))))|.inr (.inr (.inr (.inr (.inr (.inr (.inr (.inr (.inr (.inr (.inl _))))))))))=>AtRel
def xG.rely(h:xG K L AnchW Post y eg a w)(c:ot K y w w'):xG K L AnchW Post y eg a w':=by
 cases y using Ma.bR with
 | front vs|walk vs=>exact bD.rely (R:=RM K) (fun _ _ _=>RM.trans) h c
 | over=>exact bD.rely (R:=RM K) (fun _ _ _=>RM.trans) h c
 | eJ vs=>obtain⟨d,b,e,k⟩:=h;exact⟨d,b,e,k.rely c⟩
 | kd|w1|w2=>exact bD.rely (R:=h9 K) (fun _ _ _=>Go.ConcX.RPa.trans) h c
 | w3=>exact bD.rely (R:=z8 K) (fun _ _ _=>Go.ConcX.RPb.trans) h c
 | blk=>obtain⟨b,e,h1,h2,k⟩:=h;exact⟨b,e,h1,h2,bD.rely (R:=z8 K) (fun _ _ _=>Go.ConcX.RPb.trans) k c⟩
 | w4|ke|acq=>exact bD.rely atRel_trans h c
def ot.at(y:Ma)(w:World)(d:Nat):ot K y w (w.at d):=by
 cases y using Ma.bR with
 | front vs|walk vs|eJ vs=>exact RM.at w d
 | over=>exact RM.at w d
 | kd|w1|w2=>exact Go.ConcX.RPa.at w d
 | w3|blk=>exact Go.ConcX.RPb.at w d
 | w4|ke|acq=>exact⟨d,rfl⟩
def zV.status(h:zV K S x dR b w):b.status=.running∨(∃(v:Value) (vs:Vq) (a:Goroutine),x=.eJ v vs∧b=parked a #[scase K.A v K.zs] .send)∨(∃n d,x=.quit n d∧QuitsD K.P n d b):=by
 cases x using Ch.bR with
 | fresh vs|work vs=>exact .inl (bD.running RC.refl (fun _ _=>lj.run) h)
 | eJ v vs=>obtain⟨a,e,_⟩:=h;exact .inr (.inl ⟨v,vs,a,rfl,e⟩)
 | r0=>exact .inl (bD.running RJ.refl (fun _ _ x=>x.1) h)
 | k1|d1|d2|d3|d4=>exact .inl (bD.running Go.ConcN.RW.refl (fun _ _ x=>x.1) h)
 | quit n d=>exact .inr (.inr ⟨n,d,rfl,h.1⟩)
def xG.status(c:∀g w,AnchW g w→g.status=.running)(h:xG K L AnchW Post y eg a w):a.status=.running∨(∃(vs:Vq) (b:Goroutine),y=.eJ vs∧a=parked b K.cases .select)∨(∃b:Goroutine,y=.blk∧a={ b with status:=.blocked }∧b.status=.running∧b.offers=none):=by
 cases y using Ma.bR with
 | front vs|walk vs=>exact .inl (bD.running RM.refl (fun _ _=>iN.run) h)
 | over=>exact .inl (bD.running RM.refl (fun _ _ z=>z.1) h)
 | eJ vs=>obtain⟨_,b,e,_⟩:=h;exact .inr (.inl ⟨vs,b,rfl,e⟩)
 | kd|w1|w2=>exact .inl (bD.running Go.ConcX.RPa.refl (fun _ _ x=>x.1) h)
 | w3=>exact .inl (bD.running Go.ConcX.RPb.refl (fun _ _ x=>x.1) h)
 | blk=>obtain⟨b,e,h1,h2,_⟩:=h;exact .inr (.inr ⟨b,rfl,e,h1,h2⟩)
 | w4|ke|acq=>exact .inl (bD.running atRel_refl (fun _ _ x=>x.1) h)
def zV.still(h:zV K S x dR b w)(U:∃s,w'.heap[K.A]?=some (.chan 0 #[] false s s false)):Conc.woken K.P g g' w' b=b:=by
 rcases h.status with e|⟨v,vs,fW,_,rfl⟩|⟨n,d,_,hq⟩
 ·exact woken_run e
 ·have⟨s,a⟩:=U;exact woken_send_open g g' a
 ·exact woken_quitsD hq
def xG.woken(f:∀g w,AnchW g w→g.status=.running)(h:xG K L AnchW Post y eg a w')(p:∃s,w'.heap[K.A]?=some (.chan 0 #[] false s s false))(q:(∃j,y=.eJ j)→w'.heap[K.E]?=some (.chan 0 #[] false 0 0 false)) :
  ∃l d,xG K L AnchW Post l d (Conc.woken K.P g g' w' a) w'∧(l=y∨(y=.blk∧l=.w3)):=by
 rcases h.status f with e|⟨j,fW,rfl,rfl⟩|⟨fW,rfl,rfl,c,ho⟩
 ·rw[woken_run e];exact⟨y,eg,h,.inl rfl⟩
 ·have⟨s,c⟩:=p;have:(parked fW K.cases .select).again w'=parked fW K.cases .select:=again_all_open fun v U=>by
   simp only[Cfg.cases,List.mem_toArray,List.mem_cons,List.not_mem_nil,or_false] at U;rcases U with rfl|rfl
   ·exact⟨_,_,_,_,_,_,_,rfl,c⟩
   ·exact⟨_,_,_,_,_,_,_,rfl,q ⟨j,rfl⟩⟩
  rw[woken_of_again this];exact⟨_,eg,h,.inl rfl⟩
 ·unfold Conc.woken;split
  ·rw[Go.ConcX.again_blocked c ho];have⟨b,e,h3,_,k⟩:=h;have:b=fW:=by have e1:=congrArg Goroutine.frame e;have m:=congrArg Goroutine.callers e;have n:=congrArg Goroutine.dying e;have o:=congrArg Goroutine.offers e;have⟨B,t,G,x,D⟩:=fW;have⟨C,u,r,z,F⟩:=b;simp only at e1 m n o c;have i:r=.running:=h3;subst e1 m n o c i;rfl
   subst this;exact⟨.w3,_,k,.inr ⟨rfl,rfl⟩⟩
  ·exact⟨_,eg,h,.inl rfl⟩
def J.at(F:K.Fit)(h:J K L AnchW Post S c x y dR eg gs a b w t q)(d:Nat):J K L AnchW Post S c x y dR eg gs a b (w.at d) t q :=
 ⟨h.pos,h.h0,h.hc,h.old,h.above,h.ch.rely (h.qm _ F.I6) (fun _=>RC.at w d) ⟨fun _ _=>rfl,id⟩,h.ma.rely (ot.at y w d),h.pair,h.uF,h.xr,h.pay,h.full,h.mS,h.qm,h.of,h.size,h.rB,h.Eh,h.tr,h.d0,h.dc⟩
def ow.grow(h:ow K S c r t)(f:∀b,S b→S' b)(e:∀i z,touchAt t i=some z→K.iI S' z.loc→K.iI S z.loc∨(r=false∧Knows t c i)∨(K.Shun z.loc∧z.kind=.atomic)):ow K S' c r t:=by
 unfold ow at h ⊢;cases r with
 | false=>exact PT.mono h (fun _=>Cfg.iI.mono f) (fun i z d a=>(e i z d a).imp id (Or.imp And.right id))
 | true=>obtain⟨r,g,j,U⟩:=h;exact⟨r,PT.mono g (fun _=>Cfg.iI.mono f) (fun i z d a=>(e i z d a).imp id (Or.imp (fun z=>by cases z.1) id)),j,U⟩
def ow.app0(j:c≠0)(h:ow K S c r t)(f:∀a∈u,a.g=0)(i:∀a∈u,∀b,a.act.touch?=some b→Ok0 K.Shun (K.iI S) K.fq b)(m:∀a∈u,a.act≠.mark (.release K.xx)):ow K S c r (t++u):=by
 unfold ow at h ⊢;cases r with
 | false=>exact PT.app0 h (fun _=>Knows.app u) f i
 | true =>
  have⟨r,o,p,U⟩:=h;refine⟨r,PT.app0 o (fun _=>Before.app u) f i,p.appOther f (fun e=>j e.symm),fun k l e=>?_⟩;have⟨a,n,d⟩:=Option.map_eq_some_iff.1 e;rcases getElem?_append_cases n with ⟨_,LB⟩|⟨_,JN⟩
  ·exact U k l (by rw[act?_of LB,d])
  ·exact m a JN d
def oY(b:n≤m)(h:∀i z,touchAt t i=some z→jq n z.loc∨Knows t c i∨(K.Shun z.loc∧z.kind=.atomic))(e:∀a∈u,∀z,a.act.touch?=some z→jq m z.loc) :
  ∀i z,touchAt (t++u) i=some z→jq m z.loc∨Knows (t++u) c i∨(K.Shun z.loc∧z.kind=.atomic):=by
 intro i z f;have⟨a,d,U⟩:=touch_of f;rcases getElem?_append_cases d with ⟨_,a1⟩|⟨_,JN⟩
 ·rcases h i z (by rw[touchAt_of a1];exact U) with h|h|h
  ·exact .inl (h.mono b)
  ·exact .inr (.inl (h.app u))
  ·exact .inr (.inr h)
 ·exact .inl (e a JN z U)
def ow.mute(h:ow K S c r t)(f:∀a∈u,a.act.touch?=none)(m:∀a∈u,a.act≠.mark (.release K.xx)):ow K S c r (t++u):=by
 unfold ow at h ⊢;cases r with
 | false=>exact PT.mute h (fun _=>Knows.app u) f
 | true =>
  have⟨r,n,o,j⟩:=h;refine⟨r,PT.mute n (fun _=>Before.app u) f,o.app (fun i q _ b=>?_),fun k l e=>?_⟩
  ·have⟨z,p,_⟩:=b;have⟨a,d,g⟩:=touch_of p;rcases getElem?_append_cases d with ⟨q8,_⟩|⟨_,JN⟩
   ·omega
   ·rw[f a JN] at g;cases g
  ·have⟨a,d,U⟩:=Option.map_eq_some_iff.1 e;rcases getElem?_append_cases d with ⟨_,LB⟩|⟨_,JN⟩
   ·exact j k l (by rw[act?_of LB,U])
   ·exact m a JN U
def Hc(U:∀j z,0<j→j≠c→gs[j]?=some z→QuitsD K.P (q j) (Deaf t j) z)(h:i=0∨i=c)(e:∀m∈ops,m.g=i) :
  ∀j z,0<j→j≠c→((gs.map (Conc.woken K.P g g' w')).setIfInBounds i g')[j]?=some z→QuitsD K.P (q j) (Deaf (t++ops) j) z:=by
 intro j z k f d;have a:i≠j:=by rcases h with rfl|rfl<;>omega
 rw[Array.getElem?_setIfInBounds_ne a,Array.getElem?_map] at d;obtain⟨y,l,rfl⟩:=Option.map_eq_some_iff.1 d;have b:=U j y k f l;rw[woken_quitsD b,Deaf_other t a _ e];exact b
def J.gU(F:K.Fit)(h:J K L AnchW Post S c x y dR eg gs a b w t q)(X:stepG K.P true a w=.go a' w' es)(d:y'.early=y.early)
 (U:∀k,S k∨K.Still k∨k=K.A∨k=K.E→w'.heap[k]?=w.heap[k]?)(Q:y.early=true→∀b,K.dP w' b→K.dP w b)(G:y.early=true→w.heap.size≤w'.heap.size)(ah:x.shut=false→y.early=true)
 (I:∃u r,jZ x y' u r∧K.pL w' u r)(W:∀e∈es,∀z,(MemAct.ofEvent e).touch?=some z→Ok0 K.Shun (K.iI S) K.fq z)(R:y.early=true→∀e∈es,∀z,(MemAct.ofEvent e).touch?=some z→jq w'.heap.size z.loc)(ag:∀e∈es,MemAct.ofEvent e≠.mark (.release K.xx))
 (V:deafBehind y.deaf es=y'.deaf)(af:xG K L AnchW Post y' fZ a' w') :
  ∃f n,runT K.P (crowd gs w sl) 0=(.next (crowd f w' sl),n)∧f.size=gs.size∧J K L AnchW Post S c x y' dR fZ f a' b w' (t++n) q:=by
 have Z:0<gs.size:=(Array.getElem?_eq_some_iff.1 h.h0).1;have g:(0:Nat)≠c:=by have:=h.pos;omega
 have N:∃s,w'.heap[K.A]?=some (.chan 0 #[] false s s false):=by have⟨s,hs⟩:=h.uF;exact⟨s,(U _ (.inr (.inr (.inl rfl)))).trans hs⟩
 have H:RJ K S w w':=⟨fun k B=>U k (B.elim .inl fun z=>.inr (.inl z)),fun _=>by have⟨u,r,_,e⟩:=I;exact⟨u,r,e⟩⟩;have v:x.shut=false→RC K w w':=fun hx k B=>U k (B.elim (fun z=>.inl ((h.mS (ah hx) k).2 z)) fun z=>.inr (.inl z));have M:=H.rc K.C (.inl (h.qm _ F.I6));refine⟨_,_,runT_crowd_go (P:=K.P) (sl:=sl) (i:=0) h.h0 (show stepG K.P (0==0) a w=_ from X),iq,
  ⟨h.pos,by simp[Z],?_,Hc h.old (.inl rfl) ic,fun j hj=>?_,h.ch.rely (h.qm _ F.I6) v H,af,I,N,(U _ (i3 rfl)).trans h.xr,?_,fun hr=>?_,fun z b=>?_,h.qm,h.of,fun z=>lT (h.size (d▸z)) (G (d▸z)),fun z=>h.rB (d▸z),fun z=>oY (G (d▸z)) (h.Eh (d▸z)) (fun O l o D=>by obtain⟨e,m,rfl⟩:=Conc.mem_ofEvents l;exact R (d▸z) e m o D),?_,?_,?_⟩⟩
 ·rw[Array.getElem?_setIfInBounds_ne g,Array.getElem?_map,h.hc];simp only[Option.map_some,Option.some.injEq];exact h.ch.still N
 ·have Y:gs.size≤j:=by simpa using hj
  rw[Deaf_other t (g':=0) oq _ ic];exact h.above j Y
 ·have⟨cs,T,hn⟩:=h.pay;exact⟨cs,M.trans T,hn⟩
 ·exact Go.ConcX.ChanAt.of_block (h.full hr) M
 ·have o:y.early=true:=d▸z;exact⟨fun p=>((h.mS o b).1 p).of_same (U b (.inl p)),fun p=>(h.mS o b).2 (Q o b p)⟩
 ·exact h.tr.app0 (Ne.symm g) ic (fun O l z D=>by obtain⟨e,m,rfl⟩:=Conc.mem_ofEvents l;exact W e m z D) (fun O l=>by obtain⟨e,m,rfl⟩:=Conc.mem_ofEvents l;exact ag e m)
 ·rw[Deaf_own,h.d0];exact V
 ·rw[Deaf_other t g _ ic];exact h.dc
def J.jj(h:J K L AnchW Post S c x y dR eg gs a b w t q)(I:stepG K.P false b w=.go b' w' es)
 (O:xG K L AnchW Post y' fZ (Conc.woken K.P b b' w' a) w')(Z:y'.deaf=y.deaf)(U:y'.early=y.early)(G:zV K S' x' fs b' w')(R:∃o n,jZ x' y' o n∧K.pL w' o n)
 (T:∃s,w'.heap[K.A]?=some (.chan 0 #[] false s s false))(V:w'.heap[K.E]?=some (.chan 0 #[] x'.shut 0 0 false))(F:Go.ConcN.PayAt K.C 1 w')(p:x'.rel=true→xE K w')
 (v:y.early=true→∀b,S' b↔K.dP w' b)(r:∀b,K.pZ b→S' b)(u:∃k,∀b,S' b→K.dP k b)(m:w.heap.size≤w'.heap.size)(B:y.early=false→∀b,S' b→b<L)(D:y.early=true→∀e∈es,∀z,(MemAct.ofEvent e).touch?=some z→jq w'.heap.size z.loc)(Q:ow K S' c x'.rel (t++MemOp.ofEvents c b.frame.fn b.frame.place es))(H:deafBehind x.deaf es=x'.deaf) :
  ∃d g,runT K.P (crowd gs w sl) c=(.next (crowd d w' sl),g)∧d.size=gs.size∧J K L AnchW Post S' c x' y' fs fZ d (Conc.woken K.P b b' w' a) b' w' (t++g) q:=by
 have N:c<gs.size:=(Array.getElem?_eq_some_iff.1 h.hc).1;have f:c≠0:=by have:=h.pos;omega
 have W:(c==0)=false:=by simp[f]
 refine⟨_,_,runT_crowd_go (P:=K.P) (sl:=sl) (i:=c) h.hc (by rw[W];exact I),iq,
  ⟨h.pos,?_,Array.getElem?_setIfInBounds_self_of_lt (by simpa using N),Hc h.old (.inr rfl) ic,fun j Y=>?_,G,O,R,T,V,F,p,fun z=>v (U▸z),r,u,fun z=>lT (h.size (U▸z)) m,fun z=>⟨(h.rB (U▸z)).1,B (U▸z)⟩,fun z=>oY m (h.Eh (U▸z)) (fun op l z' hz=>by obtain⟨e,X,rfl⟩:=Conc.mem_ofEvents l;exact D (U▸z) e X z' hz),Q,?_,?_⟩⟩
 ·rw[Array.getElem?_setIfInBounds_ne f,Array.getElem?_map,h.h0];rfl
 ·have M:gs.size≤j:=by simpa using Y
  rw[Deaf_other t (g':=c) oq _ ic];exact h.above j M
 ·rw[Deaf_other t f _ ic,h.d0,Z]
 ·rw[Deaf_own,h.dc];exact H
def rk{vs:Vq}(h:jZ x (.eJ vs) st sm):x.shut=false:=by cases x using Ch.bR<;>first|rfl|exact h.elim
def td(h:jZ x .blk st sm):jZ x .w3 st sm:=by cases x using Ch.bR<;>first|exact h|exact h.elim
def nQ(h:y'=y∨(y=.blk∧y'=.w3))(U:y'.early=true):y.early=true:=by
 rcases h with rfl|⟨rfl,rfl⟩
 ·exact U
 ·cases U
def Ed(h:y'=y∨(y=.blk∧y'=.w3))(U:y'.early=false):y.early=false:=by
 rcases h with rfl|⟨rfl,rfl⟩
 ·exact U
 ·rfl
def jb(h:y'=y∨(y=.blk∧y'=.w3)):y'.deaf=y.deaf:=by rcases h with rfl|⟨rfl,rfl⟩<;>rfl
def fj(h:y'=y∨(y=.blk∧y'=.w3))(U:jZ x y st sm):jZ x y' st sm:=by
 rcases h with rfl|⟨rfl,rfl⟩
 ·exact U
 ·exact td U
def J.Ee(F:K.Fit)(A:∀g w,AnchW g w→g.status=.running)(h:J K L AnchW Post S c x y dR eg gs a b w t q)(B:gs[i]?=some g)(u:i≠0)(v:i≠c)(r:g.status=.running) :
  ∃f p G d O N,runT K.P (crowd gs w sl) i=(.next (crowd f w sl),p)∧f.size=gs.size∧J K L AnchW Post S c x G dR d f O b w (t++p) N∧sumTo gs.size N<sumTo gs.size q:=by
 have I:i<gs.size:=(Array.getElem?_eq_some_iff.1 B).1;have s:=h.old i g oq v B;have V:(i==0)=false:=by simp[u]
 cases a3:q i with
 | zero=>rw[a3] at s;rw[s.1] at r;cases r
 | succ k =>
  rw[a3] at s;rcases s with ⟨hf,_⟩|⟨_,g',es,hm,a5,a8⟩
  ·rw[hf] at r;cases r
  have⟨Y,X,E,W⟩:=h.pair;have⟨G,d,D,U⟩:=h.ma.woken A (g:=g) (g':=g') h.uF (fun ⟨Z,e⟩=>by subst e;have:=h.xr;rw[rk E] at this;exact this);refine⟨_,_,G,d,Conc.woken K.P g g' w a,upd q i k,runT_crowd_go (P:=K.P) (sl:=sl) (i:=i) B (by rw[V];exact a5 w),iq,
   ⟨h.pos,?_,?_,fun j z C R l=>?_,fun j C=>?_,h.ch,D,⟨Y,X,?_,W⟩,h.uF,h.xr,h.pay,h.full,fun z=>h.mS (nQ U z),h.qm,h.of,fun z=>h.size (nQ U z),fun z=>h.rB (Ed U z),fun H=>oY lr (h.Eh (nQ U H)) (fun M m z l=>by obtain⟨e,n,rfl⟩:=Conc.mem_ofEvents m;rw[touch_mute (hm e n)] at l;cases l),?_,?_,?_⟩,?_⟩
  ·rw[Array.getElem?_setIfInBounds_ne u,Array.getElem?_map,h.h0];rfl
  ·rw[Array.getElem?_setIfInBounds_ne v,Array.getElem?_map,h.hc];simp only[Option.map_some,Option.some.injEq];exact h.ch.still h.uF
  ·by_cases e:i=j
   ·subst e;rw[Array.getElem?_setIfInBounds_self_of_lt (by simpa using I)] at l;obtain rfl:=Option.some.inj l;rw[upd_same,Deaf_own];exact a8
   ·rw[Array.getElem?_setIfInBounds_ne e,Array.getElem?_map] at l;obtain⟨H,T,rfl⟩:=Option.map_eq_some_iff.1 l;have o:=h.old j H C R T;rw[woken_quitsD o,upd_ne q k (Ne.symm e),Deaf_other t e _ ic];exact o
  ·have Q:gs.size≤j:=by simpa using C
   rw[Deaf_other t (g':=i) oq _ ic];exact h.above j Q
  ·rcases U with rfl|⟨rfl,rfl⟩
   ·exact E
   ·exact td E
  ·refine h.tr.mute (fun M m=>by obtain⟨e,n,rfl⟩:=Conc.mem_ofEvents m;exact touch_mute (hm e n)) (fun M m=>?_);obtain⟨e,n,rfl⟩:=Conc.mem_ofEvents m;exact sU (hm e n)
  ·rw[Deaf_other t u _ ic,h.d0];rcases U with rfl|⟨rfl,rfl⟩<;>rfl
  ·rw[Deaf_other t v _ ic];exact h.dc
  ·have h2:sumTo gs.size (upd q i k)+(k+1)=sumTo gs.size q+k:=by have:=sumTo_upd q k id I;simpa[a3] using this
   omega
end
section
open Go.ConcN (sumTo upd sumTo_upd upd_ne upd_same)
variable {K:Cfg}[Go.ConcX.Payload][Go.ConcR.Payload][Go.ConcX.Shy K.Wg K.C]{AnchW:Gq}{Post:Value→World→Prop}
variable {L:Nat}{S S':Nat→Prop}{c:Nat}{x x':Ch}{y y':Ma}{dR eg fs fZ:Tr}{gs AF:Array Goroutine}{a a' b b':Goroutine}{w w':World}{t u:Trace}{q:Nat→Nat}{sl:Option (Nat × Nat)}{es:Array Event}
def J.comm(F:K.Fit)(h:J K L AnchW Post S c x y dR eg gs a b w t q)(Z:AF[0]?=some a')(hc:AF[c]?=some b')(af:AF.size=gs.size)(P:∀j,j≠0→j≠c→AF[j]?=gs[j]?)
 (D:∀l∈u,l.act.touch?=none)(r:∀g,∀l∈u,∀d,deafStep g d l=d)(V:∀l∈u,l.act≠.mark (.release K.xx))(U:∀k,k≠K.A→w'.heap[k]?=w.heap[k]?)
 (hA:∃s,w'.heap[K.A]?=some (.chan 0 #[] false s s false))(Q:zV K S x' fs b' w')(T:xG K L AnchW Post y' fZ a' w')(hp:∀o n,jZ x y o n→jZ x' y' o n)
 (G:x'.rel=x.rel)(N:x'.shut=x.shut)(W:x'.deaf=x.deaf)(X:y'.deaf=y.deaf)(E:w'.heap.size=w.heap.size)(p:y'.early=true→y.early=true)(O:y'.early=false→K.N0≤L∧∀b,S b→b<L) :
  J K L AnchW Post S c x' y' fs fZ AF a' b' w' (t++u) q:=by
 have H:=U K.C (fun e=>F.TB (e▸F.I6));have hk:∀b,K.dP w b→K.dP w' b:=fun b f=>f.of_same (U b (fun e=>F.kA w (e▸f)));have v:∀b,K.dP w' b→K.dP w b:=fun b f=>f.of_same (U b (fun e=>F.kA w' (e▸f))).symm;refine⟨h.pos,Z,hc,fun i g hi m I=>?_,fun j hj=>?_,Q,T,?_,hA,?_,?_,fun hr=>?_,fun z b=>⟨fun f=>hk b ((h.mS (p z) b).1 f),fun f=>(h.mS (p z) b).2 (v b f)⟩,h.qm,h.of,fun z=>by rw[E];exact h.size (p z),O,fun z=>by rw[E];exact oY lr (h.Eh (p z)) (fun l B z M=>by rw[D l B] at M;cases M),?_,?_,?_⟩
 ·rw[P i oq m] at I;rw[Deaf_quiet (r i)];exact h.old i g hi m I
 ·rw[Deaf_quiet (r j)];exact h.above j oq
 ·have⟨o,n,h1,h2⟩:=h.pair;exact⟨o,n,hp o n h1,(U _ (Ne.symm F.AW)).trans h2⟩
 ·rw[N];exact(U _ (Ne.symm F.AE)).trans h.xr
 ·have⟨Y,R,hn⟩:=h.pay;exact⟨Y,H.trans R,hn⟩
 ·exact Go.ConcX.ChanAt.of_block (h.full (G▸hr)) H
 ·rw[G];exact h.tr.mute D V
 ·rw[Deaf_quiet (r 0),h.d0,X]
 ·rw[Deaf_quiet (r c),h.dc,W]
def CN(F:K.Fit)(s:Nat):RM K w (w.setChan K.A 0 #[] false s s false):=⟨rfl,rfl,rfl,fun _ _ _ U=>heap_setChan_ne w _ _ _ _ _ _ (fun e=>U (.inl e.symm)),by simp[World.setChan]⟩
def CM(F:K.Fit)(s:Nat):RC K w (w.setChan K.A 0 #[] false s s false):=fun b U=>heap_setChan_ne w _ _ _ _ _ _ (fun e=>by subst e;exact U.elim (F.kA w) F.sA)
def J.o0(h:J K L AnchW Post S c x y dR eg gs a b w t q){j:Nat}(a0:j≠0)(U:j≠c)(hg:gs[j]?=some g)(r:Nat)(sd:Bool):offersAt g r sd=[] :=
 offersAt_of_not_blocked (fun hb=>by rcases(h.old j g oq U hg).status with z|z<;>rw[z] at hb<;>cases hb) r sd
def zV.o0(h:zV K S x dR b w)(f:∀v a,x≠.eJ v a)(r:Nat)(c:Bool):offersAt b r c=[]:=by
 refine offersAt_of_not_blocked (fun U=>?_) r c;rcases h.status with z|⟨v,a,_,e,_⟩|⟨n,d,_,hq⟩
 ·rw[z] at U;cases U
 ·exact f v a e
 ·rcases hq.status with z|z<;>rw[z] at U<;>cases U
def J.KJ(F:K.Fit)(h:J K L AnchW Post S c x y dR eg gs a b w t q){vs:Vq}(W:y=.front vs∨y=.walk vs)(V:iN K AnchW vs a w) :
  ∃I ops x' y' n i a' b' w' L',runT K.P (crowd gs w sl) 0=(.next (crowd I w' sl),ops)∧I.size=gs.size∧J K L' AnchW Post S c x' y' n i I a' b' w' (t++ops) q ∧
   (x'.left<x.left∨(x'=x∧n=dR∧y'.fY x.done<y.fY x.done)):=by
 have a8:0<gs.size:=(Array.getElem?_eq_some_iff.1 h.h0).1;have Z:c<gs.size:=(Array.getElem?_eq_some_iff.1 h.hc).1;have H:c≠0:=by have:=h.pos;omega
 have⟨_,f,V⟩:=(EM K AnchW vs a w).1 V;have N:stepG K.P (0==0) a w=.comm f K.cases true .select w #[]:=V.comm;have⟨s,T⟩:=h.uF;have⟨st,sm,hp,Yq⟩:=h.pair;have B:∀(r:Nat) (sd:Bool) (j:Nat) (g:Goroutine),j≠c→(gs.setIfInBounds 0 ph)[j]?=some g→offersAt g r sd=[]:=by
  intro r sd j g C G;rcases getElem?_stand gs 0 j g G with ⟨_,rfl⟩|⟨Y,SJ⟩
  ·exact offersAt_ph _ _
  ·exact h.o0 Y C SJ r sd
 by_cases ab:∃v p,x=.eJ v p
 ·
  obtain⟨v,p,rfl⟩:=ab;have R:vs=v::p∧y=.walk vs:=by
   rcases W with rfl|rfl
   ·exact hp.elim
   ·exact⟨hp.1,rfl⟩
  obtain⟨rfl,rfl⟩:=R;obtain⟨u,rfl,O⟩:=h.ch;have WZ:K.A≠K.E:=F.AE;have M:=h.xr;have pA:partners (gs.setIfInBounds 0 ph) K.A true=[(c,0)]:=by rw[partners_one (j:=c) (stand_get H h.hc) (fun k z hk hz=>B _ _ k z hk hz),offersAt_parked_send];simp
  have pE:partners (gs.setIfInBounds 0 ph) K.E true=[]:=by
   refine partners_nil fun j g G=>?_;by_cases C:j=c
   ·subst C;rw[stand_get H h.hc] at G;obtain rfl:=Option.some.inj G;rw[offersAt_parked_send,iw WZ]
   ·exact B _ _ j g C G
  have a9:=crowd_sel_recv_meets (P:=K.P) (sl:=sl) (k:=0) (c:=K.A) (z:=K.z) (gj:=u) (zj:=K.zs) h.h0 N rfl (fun m c' hm l=>by
   rcases m with _|_|m
   ·exact absurd rfl hm
   ·simp only[Cfg.cases,List.getElem?_toArray,List.getElem?_cons_succ,List.getElem?_cons_zero,Option.some.injEq] at l;subst l;exact ways_recv_none M pE
   ·simp[Cfg.cases] at l) T H h.hc pA;have a7:K.N0≤w.heap.size:=h.size rfl;have D:lM K p (Conc.served u undef) (w.setChan K.A 0 #[] false (s+1) (s+1) false):=O _ (CM F _);have o:r8 K AnchW p (Conc.served f (commResult K.cases .select ((0:Nat):Int) v true)) (w.setChan K.A 0 #[] false (s+1) (s+1) false):=V.2.2.2.2 _ (CN F _) (by simpa[World.setChan] using a7);rw[qd] at D;rw[sS] at o;have⟨n,D⟩:=D;have⟨i,o⟩:=o;refine⟨_,_,.work p,.walk p,n,i,Conc.served f (commResult K.cases .select ((0:Nat):Int) v true),Conc.served u undef,_,L,a9,iq,?_,.inl (by simp[Ch.left])⟩;rw[ofEvents_none,Array.empty_append];refine J.comm F h (by rw[Array.getElem?_setIfInBounds_self_of_lt (by simpa using a8)];rfl) (by rw[Array.getElem?_setIfInBounds_ne (Ne.symm H),Array.getElem?_setIfInBounds_self_of_lt Z];rfl) iq
   (fun j Y C=>by rw[Array.getElem?_setIfInBounds_ne (Ne.symm Y),Array.getElem?_setIfInBounds_ne (Ne.symm C)])
   (met_mute c 0 _ _ _ _ K.A s 0) (met_quiet c 0 _ _ _ _ K.A s 0) ?_ (fun k hk=>heap_setChan_ne w _ _ _ _ _ _ (Ne.symm hk)) ⟨s+1,heap_setChan_self w T _ _ _ _ _ _⟩ D o ?_ rfl rfl rfl rfl (by simp[World.setChan]) (fun _=>rfl) (fun z=>by cases z)
  ·intro op U;simp only[List.mem_toArray,List.mem_cons,List.not_mem_nil,or_false] at U;rcases U with rfl|rfl|rfl|rfl<;>simp
  ·rintro st sm ⟨_,h2,h3⟩;exact⟨rfl,h2,h3⟩
 ·have a5:∀v p,x≠.eJ v p:=fun v p e=>ab ⟨v,p,e⟩;have pN:∀r,partners (gs.setIfInBounds 0 ph) r true=[]:=fun r=>by
   refine partners_nil fun j g G=>?_;by_cases C:j=c
   ·subst C;rw[stand_get H h.hc] at G;obtain rfl:=Option.some.inj G;exact h.ch.o0 a5 _ _
   ·exact B _ _ j g C G
  have a4:∀z j,j≠0→j≠c→(gs.setIfInBounds 0 z)[j]?=gs[j]?:=fun z j Y _=>Array.getElem?_setIfInBounds_ne (Ne.symm Y);by_cases Q:x.shut=true
  ·
   have M:=h.xr;rw[Q] at M;have R:vs=[]∧y=.walk vs:=by rcases W with rfl|rfl<;>cases x using Ch.bR<;>first|exact hp.elim|exact⟨hp.1,rfl⟩|cases Q
   obtain⟨rfl,rfl⟩:=R;have MM:=crowd_sel_recv_closed (P:=K.P) (sl:=sl) (k:=1) (c:=K.E) (z:=K.zE) h.h0 N rfl (fun m c' hm l=>by
    rcases m with _|_|m
    ·simp only[Cfg.cases,List.getElem?_toArray,List.getElem?_cons_zero,Option.some.injEq] at l;subst l;exact ways_recv_none T (pN _)
    ·exact absurd rfl hm
    ·simp[Cfg.cases] at l) M (pN _);have a7:K.N0≤w.heap.size:=h.size rfl;have⟨i,o⟩:=V.2.2.2.2 w (RM.refl w) a7;refine⟨_,_,x,.over,dR,i,Conc.served f (commResult K.cases .select ((1:Nat):Int) K.zE false),b,w,L,MM,iq,?_,.inr ⟨rfl,rfl,by simp[Ma.fY]⟩⟩;rw[ofEvents_none,Array.empty_append];refine J.comm F h (by rw[Array.getElem?_setIfInBounds_self_of_lt a8];rfl) (by rw[Array.getElem?_setIfInBounds_ne (Ne.symm H)];exact h.hc) iq (a4 _) ?_ ?_ ?_ (fun _ _=>rfl) ⟨s,T⟩ h.ch o ?_ rfl rfl rfl rfl rfl (fun _=>rfl) (fun z=>by cases z)
   ·intro op U;simp at U;subst U;rfl
   ·intro g op U d;simp at U;subst U;rfl
   ·intro op U;simp at U;subst U;simp
   ·intro st sm X;cases x using Ch.bR<;>first|exact X.elim|exact X.2|cases Q
  ·
   have a6:x.shut=false:=by cases e:x.shut<;>simp_all
   have M:=h.xr;rw[a6] at M;have Tw:=crowd_waits (P:=K.P) (sl:=sl) h.h0 N (fun cc aa=>by
    simp only[Cfg.cases,List.mem_toArray,List.mem_cons,List.not_mem_nil,or_false] at aa;rcases aa with rfl|rfl
    ·exact ways_recv_none T (pN _)
    ·exact ways_recv_none M (pN _));refine⟨_,_,x,.eJ vs,dR,eg,parked f K.cases .select,b,w,L,Tw,iq,?_,.inr ⟨rfl,rfl,by rcases W with rfl|rfl<;>simp[Ma.fY]⟩⟩;rw[ofEvents_none];refine J.comm F h (by simp[a8]) (by rw[Array.getElem?_setIfInBounds_ne (Ne.symm H)];exact h.hc) iq (a4 _) iq iq iq (fun _ _=>rfl) ⟨s,T⟩ h.ch ⟨a,f,rfl,V⟩ ?_ rfl rfl rfl (by rcases W with rfl|rfl<;>rfl) rfl (fun _=>by rcases W with rfl|rfl<;>rfl) (fun z=>by cases z);intro st sm X;rcases W with rfl|rfl<;>cases x using Ch.bR<;>first|exact absurd rfl (a5 _ _)|exact X.elim|exact X|cases a6
def J.sends(F:K.Fit)(h:J K L AnchW Post S c x y dR eg gs a b w t q){v:Value}{vs:Vq}(i:x=.fresh (v::vs)∨x=.work (v::vs))(hs:AtSend K v (lM K vs) b w) :
  ∃I Y x' y' o p a' b' w',runT K.P (crowd gs w sl) c=(.next (crowd I w' sl),Y)∧I.size=gs.size∧J K L AnchW Post S c x' y' o p I a' b' w' (t++Y) q ∧
   (x'.left<x.left∨(x'.left=x.left∧x'.fY<x.fY)):=by
 have q8:0<gs.size:=(Array.getElem?_eq_some_iff.1 h.h0).1;have G:c<gs.size:=(Array.getElem?_eq_some_iff.1 h.hc).1;have e:c≠0:=by have:=h.pos;omega
 have⟨_,Vd,Fl,n⟩:=hs;have Q:stepG K.P (c==0) b w=.comm b #[scase K.A v K.zs] true .send w #[]:=by rw[show(c==0)=false by simp[e]];exact Fl
 have⟨s,Z⟩:=h.uF;have⟨st,sm,V,Yq⟩:=h.pair;have H:∀(r:Nat) (sd:Bool) (j:Nat) (g:Goroutine),j≠0→(gs.setIfInBounds c ph)[j]?=some g→offersAt g r sd=[]:=by
  intro r sd j g B R;rcases getElem?_stand gs c j g R with ⟨_,rfl⟩|⟨hj,SJ⟩
  ·exact offersAt_ph _ _
  ·exact h.o0 B hj SJ r sd
 by_cases O:∃d,y=.eJ d
 ·
  obtain⟨d,rfl⟩:=O;have Ts:d=v::vs:=by rcases i with rfl|rfl<;>exact V.1
  subst Ts;obtain⟨OY,l,rfl,X⟩:=h.ma;have pA:partners (gs.setIfInBounds c ph) K.A false=[(0,0)]:=by
   rw[partners_one (j:=0) (stand_get (Ne.symm e) h.h0) (fun k z hk hz=>H _ _ k z hk hz),offersAt_parked_at (k:=0) (z:=K.z) rfl (fun m cc hm f=>by
    rcases m with _|_|m
    ·exact absurd rfl hm
    ·simp only[Cfg.cases,List.getElem?_toArray,List.getElem?_cons_succ,List.getElem?_cons_zero,Option.some.injEq] at f;subst f;simp only[rcase,ne_eq,Value.chan.injEq,Option.some.injEq];exact Ne.symm F.AE
    ·simp[Cfg.cases] at f)];simp
  have N:=crowd_send_meets_sel (P:=K.P) (sl:=sl) (k:=0) (zj:=K.z) (gj:=l) h.hc Q Z (Ne.symm e) h.h0 rfl pA;have u:lM K vs (Conc.served b undef) (w.setChan K.A 0 #[] false (s+1) (s+1) false):=n _ (CM F _);have C:r8 K AnchW vs (Conc.served l (commResult K.cases .select ((0:Nat):Int) v true)) (w.setChan K.A 0 #[] false (s+1) (s+1) false):=X.2.2.2.2 _ (CN F _) (by simpa[World.setChan] using Vd);rw[qd] at u;rw[sS] at C;have⟨o,u⟩:=u;have⟨p,C⟩:=C;refine⟨_,_,.work vs,.walk vs,o,p,Conc.served l (commResult K.cases .select ((0:Nat):Int) v true),Conc.served b undef,_,N,iq,?_,.inl (by rcases i with rfl|rfl<;>simp[Ch.left])⟩;rw[ofEvents_none,Array.empty_append];refine J.comm F h (by rw[Array.getElem?_setIfInBounds_ne e,Array.getElem?_setIfInBounds_self_of_lt q8];rfl) (by rw[Array.getElem?_setIfInBounds_self_of_lt (by simpa using G)];rfl) iq
   (fun j hj M=>by rw[Array.getElem?_setIfInBounds_ne (Ne.symm M),Array.getElem?_setIfInBounds_ne (Ne.symm hj)])
   (met_mute c 0 _ _ _ _ K.A s 0) (met_quiet c 0 _ _ _ _ K.A s 0) ?_ (fun k hk=>heap_setChan_ne w _ _ _ _ _ _ (Ne.symm hk)) ⟨s+1,heap_setChan_self w Z _ _ _ _ _ _⟩ u C ?_ (by rcases i with rfl|rfl<;>rfl) (by rcases i with rfl|rfl<;>rfl) (by rcases i with rfl|rfl<;>rfl) rfl (by simp[World.setChan]) (fun _=>rfl) (fun z=>by cases z)
  ·intro op U;simp only[List.mem_toArray,List.mem_cons,List.not_mem_nil,or_false] at U;rcases U with rfl|rfl|rfl|rfl<;>simp
  ·intro st sm D;rcases i with rfl|rfl<;>exact⟨rfl,D.2⟩
 ·
  have E:y=.front (v::vs)∨y=.walk (v::vs):=by
   rcases i with rfl|rfl
   ·cases y using Ma.bR with
    | front d=>exact .inl (congrArg Ma.front V.1)
    | eJ d=>exact absurd ⟨_,rfl⟩ O
    | _=>exact V.elim
   ·cases y using Ma.bR with
    | walk d=>exact .inr (congrArg Ma.walk V.1)
    | eJ d=>exact absurd ⟨_,rfl⟩ O
    | _=>exact V.elim
  have T:xG K L AnchW Post (.walk (v::vs)) eg a w:=by
   rcases E with rfl|rfl
   ·exact h.ma
   ·exact h.ma
  have W:a.status=.running:=bD.running RM.refl (fun _ _=>iN.run) T;have pN:partners (gs.setIfInBounds c ph) K.A false=[]:=by
   refine partners_nil fun j g R=>?_;by_cases B:j=0
   ·subst B;rw[stand_get (Ne.symm e) h.h0] at R;obtain rfl:=Option.some.inj R;exact offersAt_of_not_blocked (fun hb=>by rw[W] at hb;cases hb) _ _
   ·exact H _ _ j g B R
  have Tw:=crowd_waits (P:=K.P) (sl:=sl) h.hc Q (fun cc f=>by simp only[List.mem_toArray,List.mem_cons,List.not_mem_nil,or_false] at f;subst f;exact ways_send_none Z (Nat.le_refl 0) pN);refine⟨_,_,.eJ v vs,.walk (v::vs),dR,eg,a,parked b #[scase K.A v K.zs] .send,w,Tw,iq,?_,.inr ⟨by rcases i with rfl|rfl<;>simp[Ch.left],by rcases i with rfl|rfl<;>simp[Ch.fY]⟩⟩;rw[ofEvents_none];refine J.comm F h (by rw[Array.getElem?_setIfInBounds_ne e];exact h.h0) (Array.getElem?_setIfInBounds_self_of_lt G) iq (fun j _ M=>Array.getElem?_setIfInBounds_ne (Ne.symm M)) iq iq iq (fun _ _=>rfl) ⟨s,Z⟩ ⟨b,rfl,n⟩ T ?_ (by rcases i with rfl|rfl<;>rfl) (by rcases i with rfl|rfl<;>rfl) (by rcases i with rfl|rfl<;>rfl) (by rcases E with rfl|rfl<;>rfl) rfl (fun _=>by rcases E with rfl|rfl<;>rfl) (fun z=>by cases z);intro st sm D;rcases i with rfl|rfl<;>rcases E with rfl|rfl<;>first|exact⟨rfl,D.2⟩|exact D.elim
end
section
open Go.ConcN (sumTo upd sumTo_upd upd_ne upd_same)
abbrev Mu:=Nat × Nat × Nat × Tr × Nat × Tr
abbrev IZ:Mu→Mu→Prop:=Prod.Lex (·<·) (Prod.Lex (·<·) (Prod.Lex (·<·) (Prod.Lex Sub (Prod.Lex (·<·) Sub))))
def M9:WellFounded IZ:=(Prod.lex Nat.lt_wfRel (Prod.lex Nat.lt_wfRel (Prod.lex Nat.lt_wfRel (Prod.lex ⟨Sub,Bp⟩ (Prod.lex Nat.lt_wfRel ⟨Sub,Bp⟩))))).wf
def mu (n:Nat)(x:Ch)(y:Ma)(dR eg:Tr):Mu:=(n,x.left,x.fY,dR,y.fY x.done,eg)
def vB(T:Trace)(B:Nat):∃c,B≤c∧∀d∈T,d.act.low c:=by
 have⟨l⟩:=T;induction l with
 | nil=>exact⟨B,lr,iq⟩
 | cons o l g =>
  have⟨c,h1,h2⟩:=g;have:∃b,o.act.low b:=by
   cases e:o.act with
   | access ev =>
    have⟨f,i,h⟩:=ev;cases f with
    | cell a=>exact⟨a.block+1,Nat.lt_succ_self _⟩
    | obj r=>exact⟨r+1,Nat.lt_succ_self _⟩
    | _=>exact⟨0,trivial⟩
   | mark m =>cases m<;>first|exact⟨_,Nat.lt_succ_self _⟩|exact⟨0,trivial⟩
   | go _=>exact⟨0,trivial⟩
   | start=>exact⟨0,trivial⟩
   | _=>exact⟨_,Nat.lt_succ_self _⟩
  have⟨b,h3⟩:=this;refine⟨max c b,oq,fun d U=>?_⟩;simp only[List.mem_toArray,List.mem_cons] at U;rcases U with rfl|U
  ·exact MemAct.low_mono (Nat.le_max_right _ _) h3
  ·exact MemAct.low_mono (Nat.le_max_left _ _) (h2 d (by simpa using U))
variable {K:Cfg}[Go.ConcX.Payload][Go.ConcR.Payload][Go.ConcX.Shy K.Wg K.C]{AnchW:Gq}{Post:Value→World→Prop}
variable {L:Nat}{S S':Nat→Prop}{c:Nat}{x x':Ch}{y y':Ma}{dR eg fs fZ:Tr}{gs AF:Array Goroutine}{a a' b b':Goroutine}{w w':World}{t u:Trace}{q:Nat→Nat}{sl:Option (Nat × Nat)}{es:Array Event}
def Ci(h:x'.left<x.left):IZ (mu n x' y' fs fZ) (mu n x y dR eg):=.right _ (.left _ _ h)
def rM(h:x'.left=x.left)(U:x'.fY<x.fY):IZ (mu n x' y' fs fZ) (mu n x y dR eg):=by unfold mu;rw[h];exact .right _ (.right _ (.left _ _ U))
def kR(h:x'.left=x.left)(U:x'.fY=x.fY)(a:Sub fs dR):IZ (mu n x' y' fs fZ) (mu n x y dR eg):=by unfold mu;rw[h,U];exact .right _ (.right _ (.right _ (.left _ _ a)))
def fG(h:y'.fY x.done<y.fY x.done):IZ (mu n x y' dR fZ) (mu n x y dR eg):=.right _ (.right _ (.right _ (.right _ (.left _ _ h))))
def GY(h:y'.fY x.done=y.fY x.done)(U:Sub fZ eg):IZ (mu n x y' dR fZ) (mu n x y dR eg):=by unfold mu;rw[h];exact .right _ (.right _ (.right _ (.right _ (.right _ U))))
structure lO(K:Cfg)[Go.ConcX.Shy K.Wg K.C]:Prop where
 ok:∀act,Go.ConcX.Shy.ok K.Wg K.C act→(∀z,act.touch?=some z→(∃ad:Addr,z.loc=.cell ad∧ad.block=K.C)∨(∃ad:Addr,z.loc=.cell ad∧ad.block=K.Wg∧z.kind≠.plain))∧act.low K.B
def Fin (K:Cfg)[Go.ConcX.Payload][Go.ConcX.Shy K.Wg K.C](Post:Value→World→Prop)(n:Nat)(M:Machine)(T:Trace):Prop :=
 ∃(gs:Array Goroutine) (a:Goroutine) (w:World) (sl:Option (Nat × Nat)) (q:Nat→Nat) (B m L:Nat),M=crowd gs w sl∧gs.size=n∧gs[0]?=some a∧Leavers K.P T gs q∧Past K.Shun B T∧K.B≤B ∧
  Goes K.P true AtRel (Go.ConcX.DPj K.Mine K.Wg K.C L) (L5 K Post) m a w
def Next (K:Cfg)[Go.ConcX.Payload][Go.ConcR.Payload][Go.ConcX.Shy K.Wg K.C](AnchW:Gq)(Post:Value→World→Prop)(c:Nat)(X:Stepped × Array MemOp)(t:Trace)(n:Nat)(μ:Mu):Prop :=
 (∃M ops,X=(.next M,ops)∧Fin K Post n M (t++ops)) ∨
 ∃L S x' y' fs fZ AF a' b' w' UG q' ops,X=(.next (crowd AF w' UG),ops)∧AF.size=n∧J K L AnchW Post S c x' y' fs fZ AF a' b' w' (t++ops) q'∧Relation.TransGen IZ (mu (sumTo n q') x' y' fs fZ) μ
def Next.mono{X:Stepped × Array MemOp}{b a:Mu}(h:Next K AnchW Post c X t n a)(d:IZ a b):Next K AnchW Post c X t n b:=by
 rcases h with h|⟨L,S,x',y',fs,fZ,AF,a',b',w',a0,q',ops,e,hs,hJ,U⟩
 ·exact .inl h
 ·exact .inr ⟨L,S,x',y',fs,fZ,AF,a',b',w',a0,q',ops,e,hs,hJ,U.trans (.single d)⟩
def L3(F:K.Fit)(a:∃w,∀b,S b→K.dP w b)(e:z.loc=.cell ad)(h:ad.block=K.Wg)(c:z.kind≠.plain):Ok0 K.Shun (K.iI S) K.fq z:=by
 have⟨w,a⟩:=a;refine⟨?_,?_,fun _=>c⟩
 ·rintro(⟨b,U,hb⟩|U|⟨b,U,hb⟩)
  ·rw[e] at U;cases U;exact F.kW w (h▸a _ hb)
  iterate 2
   ·rw[e] at U;cases U
 ·rintro⟨b,U,hb⟩;rw[e] at U;cases U;exact absurd (h▸hb) F.sW
def DT(F:K.Fit)(a:∃w,∀b,S b→K.dP w b)(h:ad.block=K.Wg)(U:(MemAct.ofEvent ⟨.cell ad,wr,true⟩).touch?=some z):Ok0 K.Shun (K.iI S) K.fq z:=by have e:MemAct.ofEvent ⟨.cell ad,wr,true⟩=.access ⟨.cell ad,wr,true⟩:=rfl;rw[e] at U;simp only[MemAct.touch?,Option.some.injEq] at U;subst U;exact L3 F a rfl h iq
def MA(F:K.Fit)(H:lO K)(hS:∃w,∀b,S b→K.dP w b)(h:Go.ConcX.EvQ K.Mine K.Wg K.C 0 e):∀z,(MemAct.ofEvent e).touch?=some z→Ok0 K.Shun (K.iI S) K.fq z:=by
 intro z hz;obtain ⟨_, ht, _, hk⟩ := h.1 0 ""
 rcases(H.ok _ hk).1 z hz with ⟨ad,e1,e2⟩|⟨ad,e1,e2,e3⟩
 ·exact absurd ((ht z hz).2.2 ⟨ad,e1,e2,by rw[e2]; exact F.CW⟩).1 dq
 ·exact L3 F hS e1 e2 e3
def fi(h:jZ x y st sm)(U:x.shut=false):y.early=true:=by cases x using Ch.bR<;>first|(cases y using Ma.bR<;>first|exact h.elim|rfl)|cases U
section
variable {n:Nat}(F:K.Fit)(H:lO K)(OZ:∀g w,AnchW g w→g.status=.running)
 (JJ:∀L,K.N0≤L→∀g w,AnchW g w→∃m,Goes K.P true (h9 K) (jf K L) (je K L AnchW Post) m g w)
def Next.main(h:∃a d,runT K.P (crowd gs w sl) 0=(.next (crowd a w' sl),d)∧a.size=gs.size∧J K L AnchW Post S c x y' dR fZ a a' b w' (t++d) q)(U:∀n,IZ (mu n x y' dR fZ) (mu n x y dR eg)) :
  Next K AnchW Post c (runT K.P (crowd gs w sl) 0) t gs.size (mu (sumTo gs.size q) x y dR eg):=by have⟨a,d,e,g,f⟩:=h;exact .inr ⟨L,S,x,y',dR,fZ,a,a',b,w',sl,q,d,e,g,f,.single (U _)⟩
def J.fH(F:K.Fit)(H:lO K)(h:J K L AnchW Post S c x y dR eg gs a b w t q)(hy:y.early=false)(hgo:stepG K.P true a w=.go a' w' es)(hd:jf K L w w' es)(XT:xG K L AnchW Post y fZ a' w')(hs:Sub fZ eg) :
  Next K AnchW Post c (runT K.P (crowd gs w sl) 0) t gs.size (mu (sumTo gs.size q) x y dR eg):=by
 have⟨st,sm,hp,hw⟩:=h.pair;have⟨hN,hL⟩:=h.rB hy;have LA:∀k,S k∨K.Still k∨k=K.A∨k=K.E→k<L:=fun k hk=>by
  rcases hk with z|z|rfl|rfl
  ·exact hL k z
  ·exact lL (F.s0 k z) hN
  ·exact lL F.A0 hN
  ·exact lL F.E0 hN
 exact Next.main (J.gU F h hgo rfl (fun k hk=>hd.1 k (LA k hk)) (fun z=>by rw[hy] at z; cases z) (fun z=>by rw[hy] at z; cases z) (fi hp) ⟨st,sm,hp,(hd.1 _ (lL F.W0 hN)).trans hw⟩
  (fun e he => MA F H h.of (hd.2 e he)) (fun z => by rw [hy] at z; cases z) (fun e he => ((hd.2 e he).1 0 "").2.2.1) (deafBehind_still (fun e he => ⟨(hd.2 e he).2.1, (hd.2 e he).2.2.1⟩) _) XT) fun _ => GY rfl hs
def yW{m:Mark}(b:(MemAct.mark m).touch?=none):∀e∈(#[Go.ConcX.mk m]:Array Event),∀z,(MemAct.ofEvent e).touch?=some z→Ok0 K.Shun (K.iI S) K.fq z:=by intro e U z a;rw[Array.mem_singleton] at U;subst U;rw[show MemAct.ofEvent (Go.ConcX.mk m)=.mark m from rfl,b] at a;cases a
def u9{m:Mark}(a:m≠.release K.xx):∀e∈(#[Go.ConcX.mk m]:Array Event),MemAct.ofEvent e≠.mark (.release K.xx):=by intro e U z;rw[Array.mem_singleton] at U;subst U;rw[show MemAct.ofEvent (Go.ConcX.mk m)=.mark m from rfl] at z;exact a (MemAct.mark.inj z)
def vj(F:K.Fit)(g:∃w,∀b,S b→K.dP w b)(h:∀e∈es,(∃c a,e=⟨.cell c,a,true⟩∧c.block=K.Wg)∨e.loc=.mark .disable∨e.loc=.mark .enable) :
  (∀e∈es,∀z,(MemAct.ofEvent e).touch?=some z→Ok0 K.Shun (K.iI S) K.fq z)∧∀e∈es,MemAct.ofEvent e≠.mark (.release K.xx):=by
 refine⟨fun e U z d=>?_,fun e U=>?_⟩
 ·rcases h e U with ⟨c,a,rfl,hb⟩|h1|h1
  ·exact DT F g hb d
  iterate 2
   ·have⟨f,a,i⟩:=e;simp only at h1;subst h1;cases d
 ·rcases h e U with ⟨c,a,rfl,hb⟩|h1|h1
  ·exact fun z=>by cases z
  iterate 2
   ·have⟨f,a,i⟩:=e;simp only at h1;subst h1;exact fun z=>by cases z
def KV(F:K.Fit)(U:∀L,K.N0≤L→∀g w,AnchW g w→∃m,Goes K.P true (h9 K) (jf K L) (je K L AnchW Post) m g w)(h:J K L AnchW Post S c x .kd dR eg gs a b w t q)(o:uv K L AnchW a w):Next K AnchW Post c (runT K.P (crowd gs w sl) 0) t gs.size (mu (sumTo gs.size q) x .kd dR eg):=by
 have⟨_,j,i,m,k⟩:=o;have d:Way K.P true (h9 K) (jf K L) (je K L AnchW Post) j w :=
  Way.bind Go.ConcX.RPa.refl ((cB k).qK (fun _ _ z=>z) (fun _ _ _ z=>z) fun g w l=>(U L (h.rB rfl).1 g w l).elim fun _ n=>cB n);have⟨u,f⟩:=d;have⟨s,r,e,p⟩:=h.pair;exact Next.main (J.gU (y':=.w1) F h i rfl (fun _ _=>rfl) (fun z=>by cases z) (fun z=>by cases z) (fi e) ⟨s,r,by cases x using Ch.bR<;>first|exact e|exact e.elim,p⟩ (yW rfl) (fun z=>by cases z) (u9 iq) rfl f)
  fun _=>fG (by show(if x.done=true then 5 else 6)<7;split<;>omega)
def KX(F:K.Fit)(h:J K L AnchW Post S c x .w1 dR eg gs a b w t q)(p:je K L AnchW Post a w):Next K AnchW Post c (runT K.P (crowd gs w sl) 0) t gs.size (mu (sumTo gs.size q) x .w1 dR eg):=by
 have⟨_,s,n,h1,h2⟩:=p;have⟨k,j,f,i⟩:=h.pair;have d:=vj F h.of (es:=#[Go.ConcX.rd (Go.ConcX.stA K.Wg)]) (fun e o=>by rw[Array.mem_singleton] at o;subst o;exact .inl ⟨_,_,rfl,rfl⟩);have U:(k=KK∧j=0∧x.done=false∧jZ x .w2 k j)∨(k=0∧j=0∧x.done=true∧x.rel=true∧jZ x .ke k j):=by cases x using Ch.bR<;>first|exact f.elim|exact .inl ⟨f.1,f.2,rfl,f⟩|exact .inr ⟨f.1,f.2,rfl,rfl,f⟩
 rcases U with ⟨rfl,rfl,hd,a0⟩|⟨rfl,rfl,hd,hr,a0⟩
 ·have⟨m,l⟩:=h1 i;have⟨r,g⟩:=cB l;exact Next.main (J.gU (y':=.w2) F h n rfl (fun _ _=>rfl) (fun z=>by cases z) (fun z=>by cases z) (fi f) ⟨_,_,a0,i⟩ d.1 (fun z=>by cases z) d.2 rfl g) fun _=>fG (by rw[hd];decide)
 ·have⟨m,l⟩:=h2 ⟨i,h.full hr⟩;have⟨r,g⟩:=cB l;exact Next.main (J.gU (y':=.ke) F h n rfl (fun _ _=>rfl) (fun z=>by cases z) (fun z=>by cases z) (fi f) ⟨_,_,a0,i⟩ d.1 (fun z=>by cases z) d.2 rfl g) fun _=>fG (by rw[hd];decide)
def Hb(F:K.Fit)(U:∃w,∀b,S b→K.dP w b){k:Nat}(a:S k∨K.Still k∨k=K.A∨k=K.E):k≠K.Wg:=by
 rintro rfl;rcases a with z|z|z|z
 ·have⟨w,U⟩:=U;exact F.kW w (U _ z)
 ·exact F.sW z
 ·exact F.AW z.symm
 ·exact F.EW z.symm
def KY(F:K.Fit)(v:∀L,K.N0≤L→∀g w,AnchW g w→∃m,Goes K.P true (h9 K) (jf K L) (je K L AnchW Post) m g w)(h:J K L AnchW Post S c x .w2 dR eg gs a b w t q)(C:Lk K L AnchW Post a w):Next K AnchW Post c (runT K.P (crowd gs w sl) 0) t gs.size (mu (sumTo gs.size q) x .w2 dR eg):=by
 have⟨_,h1,h2⟩:=C;have⟨s,r,f,n⟩:=h.pair;have U:(s=KK∧r=0∧x.done=false∧jZ x .w3 (KK+1) 0)∨(s=0∧r=0∧x.done=true∧x.rel=true∧jZ x .w1 s r):=by cases x using Ch.bR<;>first|exact f.elim|exact .inl ⟨f.1,f.2,rfl,rfl,rfl⟩|exact .inr ⟨f.1,f.2,rfl,rfl,f⟩
 rcases U with ⟨rfl,rfl,hd,a1⟩|⟨rfl,rfl,hd,hr,a1⟩
 ·have⟨u,o,m,p⟩:=h1 n;have d:=vj F h.of (es:=#[Go.ConcX.rd (Go.ConcX.stA K.Wg),Go.ConcX.wr (Go.ConcX.stA K.Wg)]) (fun e j=>by simp only[List.mem_toArray,List.mem_cons,List.not_mem_nil,or_false] at j;rcases j with rfl|rfl<;>exact .inl ⟨_,_,rfl,rfl⟩);have⟨D,i⟩:=cB p;exact Next.main (J.gU (y':=.w3) F h o rfl (fun k A=>Go.RowKit.Below.heap_setCell _ _ _ _ (Hb F h.of A)) (fun z=>by cases z) (fun z=>by cases z) (fi f) ⟨_,_,a1,Go.ConcX.WgAt.setSt n _⟩ d.1 (fun z=>by cases z) d.2 rfl i) fun _=>fG (by rw[hd];decide)
 ·have⟨u,o,m,p⟩:=h2 ⟨n,h.full hr⟩;have d:=vj F h.of (es:=#[Go.ConcX.rd (Go.ConcX.stA K.Wg)]) (fun e j=>by rw[Array.mem_singleton] at j;subst j;exact .inl ⟨_,_,rfl,rfl⟩);have l:Way K.P true (h9 K) (jf K L) (je K L AnchW Post) u w :=
   Way.bind Go.ConcX.RPa.refl ((cB p).qK (fun _ _ z=>z) (fun _ _ _ z=>z) fun g w y=>(v L (h.rB rfl).1 g w y).elim fun _ B=>cB B);have⟨D,i⟩:=l;exact Next.main (J.gU (y':=.w1) F h o rfl (fun _ _=>rfl) (fun z=>by cases z) (fun z=>by cases z) (fi f) ⟨_,_,a1,n⟩ d.1 (fun z=>by cases z) d.2 rfl i) fun _=>fG (by rw[hd];decide)
def Bh:∀e∈semEvents (Go.ConcX.smA K.Wg),(∃a b,e=⟨.cell a,b,true⟩∧a.block=K.Wg)∨e.loc=.mark .disable∨e.loc=.mark .enable:=by
 intro e U;simp only[semEvents,List.mem_toArray,List.mem_cons,List.not_mem_nil,or_false] at U;rcases U with rfl|rfl|rfl|rfl
 ·exact .inr (.inl rfl)
 iterate 2
  ·exact .inl ⟨_,_,rfl,rfl⟩
 ·exact .inr (.inr rfl)
def KZ(F:K.Fit)(h:J K L AnchW Post S c x .w3 dR eg gs a b w t q)(s:Ft K L Post a w):Next K AnchW Post c (runT K.P (crowd gs w sl) 0) t gs.size (mu (sumTo gs.size q) x .w3 dR eg):=by
 have⟨n,l,h1,h2⟩:=s;have⟨j,i,d,f⟩:=h.pair;have U:(i=0∧jZ x .blk j i)∨(j=0∧i=1∧x.rel=true∧jZ x .w4 0 0):=by cases x using Ch.bR<;>first|exact d.elim|exact .inl ⟨d.2,d⟩|exact .inr ⟨d.1,d.2,rfl,rfl,rfl⟩
 rcases U with ⟨rfl,a0⟩|⟨rfl,rfl,hr,a0⟩
 ·exact Next.main (J.gU (y':=.blk) (fZ:=eg) F h (h1 ⟨j,f⟩) rfl (fun _ _=>rfl) (fun z=>by cases z) (fun z=>by cases z) (fi d) ⟨_,_,a0,f⟩ iq (fun z=>by cases z) iq rfl ⟨a,rfl,n,l,h.ma⟩) fun _=>fG (by simp[Ma.fY])
 ·have⟨u,o,m,p⟩:=h2 ⟨f,h.full hr⟩;have e:=vj F h.of Bh;have⟨v,g⟩:=cB p;exact Next.main (J.gU (y':=.w4) F h o rfl (fun k r=>Go.RowKit.Below.heap_setCell _ _ _ _ (Hb F h.of r)) (fun z=>by cases z) (fun z=>by cases z) (fi d) ⟨_,_,a0,Go.ConcX.WgAt.setSm f _⟩ e.1 (fun z=>by cases z) e.2 rfl g) fun _=>fG (by simp[Ma.fY])
def K0(F:K.Fit)(h:J K L AnchW Post S c x .w4 dR eg gs a b w t q)(k:Ll K L Post a w):Next K AnchW Post c (runT K.P (crowd gs w sl) 0) t gs.size (mu (sumTo gs.size q) x .w4 dR eg):=by have⟨_,p,i,m,j⟩:=k;have⟨o,n,d,l⟩:=h.pair;have U:=vj F h.of (es:=#[Go.ConcX.rd (Go.ConcX.stA K.Wg)]) (fun e g=>by rw[Array.mem_singleton] at g;subst g;exact .inl ⟨_,_,rfl,rfl⟩);have⟨r,f⟩:=cB j;exact Next.main (J.gU (y':=.ke) F h i rfl (fun _ _=>rfl) (fun z=>by cases z) (fun z=>by cases z) (fi d) ⟨o,n,by cases x using Ch.bR<;>first|exact d|exact d.elim,l⟩ U.1 (fun z=>by cases z) U.2 rfl f) fun _=>fG (by simp[Ma.fY])
def KW(F:K.Fit)(h:J K L AnchW Post S c x .ke dR eg gs a b w t q)(g:Lj K L Post a w):Next K AnchW Post c (runT K.P (crowd gs w sl) 0) t gs.size (mu (sumTo gs.size q) x .ke dR eg):=by have⟨_,l,U,m,f⟩:=g;have⟨k,j,d,i⟩:=h.pair;have⟨n,e⟩:=cB f;exact Next.main (J.gU (y':=.acq) F h U rfl (fun _ _=>rfl) (fun z=>by cases z) (fun z=>by cases z) (fi d) ⟨k,j,by cases x using Ch.bR<;>first|exact d|exact d.elim,i⟩ (yW rfl) (fun z=>by cases z) (u9 iq) rfl e) fun _=>fG (by simp[Ma.fY])
def IA(h:J K L AnchW Post S c x .acq dR eg gs a b w t q)(Q:Fq K L Post a w):Next K AnchW Post c (runT K.P (crowd gs w sl) 0) t gs.size (mu (sumTo gs.size q) x .acq dR eg):=by
 have⟨_,g',E,m,H⟩:=Q;have⟨W,V,O,T⟩:=h.pair;have p:0<gs.size:=(Array.getElem?_eq_some_iff.1 h.h0).1;have o:(0:Nat)≠c:=by have:=h.pos;omega
 obtain⟨n,d,rfl⟩:∃n d,x=.quit n d:=by cases x using Ch.bR<;>first|exact⟨_,_,rfl⟩|exact O.elim
 have⟨y,_⟩:=h.ch;obtain⟨r,l,f,s⟩:∃r,PT K.Shun (K.iI S) K.fq c (fun i=>Before t i r) t∧Go.ConcN.RelBy K.xx t c r∧∀k,r<k→t.act? k≠some (.mark (.release K.xx)):=h.tr;have G:MemOp.ofEvents 0 a.frame.fn a.frame.place #[Go.ConcX.mk (.acquire (Go.ConcX.stA K.Wg))]=#[{ g:=0,fn:=a.frame.fn,pos:=a.frame.place,act:=.mark (.acquire K.xx) }]:=by simp[MemOp.ofEvents,MemAct.ofEvent,Go.ConcX.mk,Go.ConcX.stA,Cfg.xx]
 have⟨u,C,D⟩:=vB (t++#[{ g:=0,fn:=a.frame.fn,pos:=a.frame.place,act:=.mark (.acquire K.xx) }]) K.B;have I:=l.join f h.d0 s a.frame.fn a.frame.place u D;refine .inl ⟨_,_,runT_crowd_go (P:=K.P) (sl:=sl) (i:=0) h.h0 (show stepG K.P (0==0) a w=_ from E),_,g',w,sl,upd q c n,u,m,L,rfl,iq,by simp[p],⟨fun i z M A=>?_,fun j N=>?_⟩,by rw[G];exact I,C,H⟩
 ·rw[Array.getElem?_setIfInBounds_ne oq,Array.getElem?_map] at A;obtain⟨R,U,rfl⟩:=Option.map_eq_some_iff.1 A;by_cases e:i=c
  ·subst e;rw[h.hc] at U;obtain rfl:=Option.some.inj U;rw[woken_quitsD y,upd_same,Deaf_other t o _ ic,h.dc];exact y
  ·have v:=h.old i R M e U;rw[woken_quitsD v,upd_ne q n e,Deaf_other t (g':=0) oq _ ic];exact v
 ·have F:gs.size≤j:=by simpa using N
  rw[Deaf_other t (g':=0) oq _ ic];exact h.above j F
def J.Cj(F:K.Fit)(H:lO K)(U:∀L,K.N0≤L→∀g w,AnchW g w→∃m,Goes K.P true (h9 K) (jf K L) (je K L AnchW Post) m g w)(h:J K L AnchW Post S c x .kd dR eg gs a b w t q):Next K AnchW Post c (runT K.P (crowd gs w sl) 0) t gs.size (mu (sumTo gs.size q) x .kd dR eg):=by
 rcases bD.now (R:=h9 K) h.ma (Go.ConcX.RPa.refl w) with hs|⟨_,g',w',es,zU,e,d,l9,hG⟩
 ·exact KV F U h hs
 ·exact J.fH F H h rfl e d hG l9
def J.GR(F:K.Fit)(h:J K L AnchW Post S c x .over dR eg gs a b w t q)(o:vG K AnchW a w):∃m j,J K m AnchW Post S c x .kd dR j gs a b w t q:=by
 have⟨f,e,U,k⟩:=h.pair;have d:=h.size rfl;have g:z6 K w:=by
  have l:Go.ConcX.WgAt K.ty K.Wg w f e:=k;have:(f=KK∧e=0)∨(f=0∧e=0∧x.rel=true):=by cases x using Ch.bR<;>first|exact U.elim|exact .inl ⟨U.1,U.2⟩|exact .inr ⟨U.1,U.2,rfl⟩
  rcases this with ⟨rfl,rfl⟩|⟨rfl,rfl,hr⟩
  ·exact .inl l
  ·exact .inr ⟨l,h.full hr⟩
 have⟨j,i⟩:=o.2 g w.heap.size d;refine⟨w.heap.size,j,⟨h.pos,h.h0,h.hc,h.old,h.above,h.ch,i,⟨f,e,?_,k⟩,h.uF,h.xr,h.pay,h.full,(fun z=>by cases z),h.qm,h.of,(fun z=>by cases z),fun _=>⟨d,fun b n=>((h.mS rfl b).1 n).lt F d⟩,(fun z=>by cases z),h.tr,h.d0,h.dc⟩⟩;cases x using Ch.bR<;>first|exact U.elim|exact U
def J.AU(F:K.Fit)(H:lO K)(OZ:∀g w,AnchW g w→g.status=.running)(A:∀L,K.N0≤L→∀g w,AnchW g w→∃m,Goes K.P true (h9 K) (jf K L) (je K L AnchW Post) m g w)(h:J K L AnchW Post S c x y dR eg gs a b w t q)(u:a.status=.running):Next K AnchW Post c (runT K.P (crowd gs w sl) 0) t gs.size (mu (sumTo gs.size q) x y dR eg):=by
 have v:∀r,(y=.front r∨y=.walk r)→iN K AnchW r a w→Next K AnchW Post c (runT K.P (crowd gs w sl) 0) t gs.size (mu (sumTo gs.size q) x y dR eg):=by
  intro r C l;have⟨M,W,x',y',G,I,Z,b',n,X,e,T,N,E⟩:=J.KJ (sl:=sl) F h C l;refine .inr ⟨X,S,x',y',G,I,M,Z,b',n,sl,q,W,e,T,N,?_⟩;rcases E with E|⟨rfl,rfl,E⟩
  ·exact .single (Ci E)
  ·exact .single (fG E)
 have B:∀{p n o i},y.early=true→stepG K.P true a w=.go p n o→DM K w n o→Sub i eg→xG K L AnchW Post y i p n→Next K AnchW Post c (runT K.P (crowd gs w sl) 0) t gs.size (mu (sumTo gs.size q) x y dR eg):=by
  intro p n o i C e d f j;have⟨st,sm,hp,hw⟩:=h.pair;have O:∀b,S b→K.dP n b:=fun b Y=>((h.mS C b).1 Y).of_same (d.block b (.inl ((h.mS C b).1 Y)));refine Next.main (J.gU F h e rfl (fun k Q=>d.block k ?_) (fun _=>d.born) (fun _=>d.grow) (fun _=>C) ⟨st,sm,hp,(d.block _ (i3 (.inr rfl))).trans hw⟩
   (fun e s z U=>?_) (fun _ e s z U=>(((d.evs e s).1 z U).2)) (fun e s=>(d.evs e s).2.2.2) (deafBehind_still (fun e s=>⟨(d.evs e s).2.1,(d.evs e s).2.2.1⟩) _) j) fun _=>GY rfl f
  ·rcases Q with z|z|z|z
   ·exact .inl ((h.mS C k).1 z)
   ·exact .inr (.inl z)
   ·exact .inr (.inr (.inl z))
   ·exact i3 (.inl z)
  ·have V:=((d.evs e s).1 z U).1;exact⟨fun Q=>V.mS (Cfg.iI.mono O Q),V.still,V.uo⟩
 cases y using Ma.bR with
 | front r =>
  rcases bD.now (R:=RM K) h.ma (RM.refl w) with l|⟨_,p,n,o,i,e,d,f,j⟩
  ·exact v r (.inl rfl) l
  ·exact B rfl e d f j
 | walk r =>
  rcases bD.now (R:=RM K) h.ma (RM.refl w) with l|⟨_,p,n,o,i,e,d,f,j⟩
  ·exact v r (.inr rfl) l
  ·exact B rfl e d f j
 | eJ r=>obtain⟨_,D,rfl,_⟩:=h.ma;cases u
 | over =>
  rcases bD.now (R:=RM K) h.ma (RM.refl w) with l|⟨_,p,n,o,i,e,d,f,j⟩
  ·have⟨X,τ,N⟩:=J.GR F h l;exact(J.Cj F H A N).mono (fG (by simp[Ma.fY]))
  ·exact B rfl e d f j
 | kd=>exact J.Cj F H A h
 | w1 =>
  rcases bD.now (R:=h9 K) h.ma (Go.ConcX.RPa.refl w) with l|⟨_,p,n,o,i,e,d,f,j⟩
  ·exact KX F h l
  ·exact J.fH F H h rfl e d j f
 | w2 =>
  rcases bD.now (R:=h9 K) h.ma (Go.ConcX.RPa.refl w) with l|⟨_,p,n,o,i,e,d,f,j⟩
  ·exact KY F A h l
  ·exact J.fH F H h rfl e d j f
 | w3 =>
  rcases bD.now (R:=z8 K) h.ma (Go.ConcX.RPb.refl w) with l|⟨_,p,n,o,i,e,d,f,j⟩
  ·exact KZ F h l
  ·exact J.fH F H h rfl e d j f
 | blk=>obtain⟨D,rfl,_⟩:=h.ma;cases u
 | w4 =>
  rcases bD.now (R:=AtRel) h.ma (atRel_refl w) with l|⟨_,p,n,o,i,e,d,f,j⟩
  ·exact K0 F h l
  ·exact J.fH F H h rfl e d j f
 | ke =>
  rcases bD.now (R:=AtRel) h.ma (atRel_refl w) with l|⟨_,p,n,o,i,e,d,f,j⟩
  ·exact KW F h l
  ·exact J.fH F H h rfl e d j f
 | acq =>
  rcases bD.now (R:=AtRel) h.ma (atRel_refl w) with l|⟨_,p,n,o,i,e,d,f,j⟩
  ·exact IA h l
  ·exact J.fH F H h rfl e d j f
end
end
end Go.Proofs.YtgcaionclkbehaaGreatDoor
