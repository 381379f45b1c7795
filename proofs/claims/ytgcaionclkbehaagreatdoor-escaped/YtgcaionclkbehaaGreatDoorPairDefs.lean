import Derived.Conc.FxEnd
import Derived.Conc.Token
set_option linter.all false
set_option maxHeartbeats 2000000
set_option maxRecDepth 100000
namespace Go.Proofs.YtgcaionclkbehaaGreatDoor
open Go.Conc
variable {b n r:Nat}{g:Goroutine}{w w' aB:World}{l:Loc}{S S':Nat→Prop}
abbrev Bq := List UInt8
abbrev Aq := Array Value
abbrev Iq := List Int
abbrev Vq := List Value
abbrev Hq := List (Nat × Obj)
abbrev Nq := Nat → Value
abbrev Wq := World → World → Prop
abbrev Gq := Goroutine → World → Prop
abbrev sq(b : Nat) : Option Addr := some ⟨b,0,none⟩
section
open Go.ConcN (RelBy)
structure qT(Shun dy Still:Loc→Prop)(t:Trace)(Kc:Nat→Prop)(i:Nat)(a:Touch):Prop where
 mA:dy a.loc→Kc i
 mine:¬dy a.loc→¬Still a.loc→Knows t 0 i
 still:Still a.loc→a.write=true→Knows t 0 i∧Kc i
 any:Knows t 0 i∨Kc i
 tA:Shun a.loc→a.kind=.plain→Kc i
structure PT(Shun dy Still:Loc→Prop)(c:Nat)(Kc:Nat→Prop)(t:Trace):Prop where
 clean:∀said,¬Race said t
 known:∀i a,touchAt t i=some a→a.loc.isMemory=true→(Shun a.loc∧a.kind=.atomic)∨qT Shun dy Still t Kc i a
 over:∀i g,t.g? i=some g→g≠0→g≠c→t.counts i→∃j,t.g? j=some 0∧HappensBefore t i j
structure Apart(Shun dy Still:Loc→Prop):Prop where
 ks:∀l,dy l→¬Still l
 kh:∀l,dy l→¬Shun l
 sh:∀l,Still l→¬Shun l
section
variable {Shun dy Still:Loc→Prop}{c:Nat}{Kc Lw:Nat→Prop}{t u:Trace}
theorem qT.app{i:Nat}{a:Touch}(h:qT Shun dy Still t Kc i a)(U:∀i,Kc i→Lw i)(u:Trace):qT Shun dy Still (t++u) Lw i a :=
 ⟨fun x=>U i (h.mA x),fun x y=>(h.mine x y).app u,fun x y=>⟨(h.still x y).1.app u,U i (h.still x y).2⟩,h.any.imp (·.app u) (U i),fun x y=>U i (h.tA x y)⟩
theorem lX(h:∀i g,t.g? i=some g→g≠0→g≠c→t.counts i→∃j,t.g? j=some 0∧HappensBefore t i j)(hu:∀op∈u,op.g=0∨op.g=c∨op.act.touch?=none) :
  ∀i g,(t++u).g? i=some g→g≠0→g≠c→(t++u).counts i→∃j,(t++u).g? j=some 0∧HappensBefore (t++u) i j:=by
 intro i g hg h0 hc U;obtain⟨x,hx,hm,hk⟩:=U;obtain⟨op,eI,a2⟩:=touch_of hx;rcases getElem?_append_cases eI with ⟨hi,_⟩|⟨_,a1⟩
 ·obtain⟨j,hj,hb⟩:=h i g (by rw[← g?_old (u:=u) hi]; exact hg) h0 hc ((counts_old hi).1 ⟨x,hx,hm,hk⟩);have hjl:j<t.size:=by obtain⟨z,hz,_⟩:=Option.map_eq_some_iff.1 hj;exact lt_size_of_getElem? hz
  exact⟨j,by rw[g?_old hjl]; exact hj,hb_app u hb⟩
 ·have a0:op.g=g:=by simpa[Trace.g?,eI] using hg
  rcases hu op a1 with e|e|e
  ·exact absurd (a0.symm.trans e) h0
  ·exact absurd (a0.symm.trans e) hc
  ·rw[e] at a2; cases a2
theorem PT.mono{U:Loc→Prop}(h:PT Shun dy Still c Kc t)(hs:∀l,dy l→U l)(hn:∀i a,touchAt t i=some a→U a.loc→dy a.loc∨Kc i∨(Shun a.loc∧a.kind=.atomic)):PT Shun U Still c Kc t:=by
 refine⟨h.clean,fun i a ha hm=>?_,h.over⟩;rcases h.known i a ha hm with k|k
 ·exact .inl k
 ·by_cases hk:U a.loc
  ·rcases hn i a ha hk with z|z|z
   ·exact .inr ⟨fun _=>k.mA z,fun z'=>absurd hk z',k.still,k.any,k.tA⟩
   ·exact .inr ⟨fun _=>z,fun z'=>absurd hk z',k.still,k.any,k.tA⟩
   ·exact .inl z
  ·exact .inr ⟨fun z=>absurd z hk,fun _=>k.mine (fun y=>hk (hs _ y)),k.still,k.any,k.tA⟩
theorem PT.mute(h:PT Shun dy Still c Kc t)(hK:∀i,Kc i→Lw i)(hn:∀op∈u,op.act.touch?=none):PT Shun dy Still c Lw (t++u):=by
 refine⟨fun said=>?_,fun i a ha hm=>?_,lX h.over fun op eI=>.inr (.inr (hn op eI))⟩
 ·rintro⟨i,j,a1,⟨a,b,ha,hb,hc⟩,n1,n2⟩;obtain⟨x,hx,U⟩:=touch_of ha;obtain⟨y,hy,a0⟩:=touch_of hb;rcases getElem?_append_cases hy with ⟨hj,qK⟩|⟨_,MU⟩
  ·have hi:i<t.size:=Nat.lt_trans a1 hj;have jB:t[i]?=some x:=by rw[← getElem?_append_old (u:=u) hi]; exact hx
   exact h.clean said ⟨i,j,a1,⟨a,b,by simp[Trace.act?,jB,U],by simp[Trace.act?,qK,a0],hc⟩,fun e=>n1 (hb_app u e),fun e=>n2 (hb_app u e)⟩
  ·rw[hn y MU] at a0; cases a0
 ·obtain⟨x,hx,U⟩:=touch_of ha;rcases getElem?_append_cases hx with ⟨_,jB⟩|⟨_,Gh⟩
  ·exact(h.known i a (by rw[touchAt_of jB]; exact U) hm).imp id fun k=>k.app hK u
  ·rw[hn x Gh] at U; cases U
structure Ok0(Shun dy Still:Loc→Prop)(b:Touch):Prop where
 mA:¬dy b.loc
 still:Still b.loc→b.write=false
 tA:Shun b.loc→b.kind≠.plain
theorem PT.app0(h:PT Shun dy Still c Kc t)(hK:∀i,Kc i→Lw i)(hu:∀op∈u,op.g=0)(hs:∀op∈u,∀b,op.act.touch?=some b→Ok0 Shun dy Still b):PT Shun dy Still c Lw (t++u):=by
 refine⟨fun said=>noRace_append (h.clean said) hu fun i a ha op eI b hb hc=>?_,fun i a ha hm=>?_,lX h.over fun op eI=>.inl (hu op eI)⟩
 ·have ok:=hs op eI b hb;rcases h.known i a ha hc.2.1 with ⟨rV,gC⟩|k
  ·have a1:=ok.tA (hc.1▸rV);rcases hc.2.2.2 with e|e|⟨_,e,_⟩
   ·rw[gC] at e; cases e
   ·exact absurd e a1
   ·rw[gC] at e; cases e
  ·by_cases hS:Still a.loc
   ·have a0:=ok.still (hc.1▸hS);rcases hc.2.2.1 with e|e
    ·exact(k.still hS e).1
    ·rw[a0] at e; cases e
   ·exact k.mine (fun e=>ok.mA (hc.1▸e)) hS
 ·obtain⟨x,hx,U⟩:=touch_of ha;rcases getElem?_append_cases hx with ⟨_,jB⟩|⟨_,Gh⟩
  ·exact(h.known i a (by rw[touchAt_of jB]; exact U) hm).imp id fun k=>k.app hK u
  ·have own:=knows_own hx;rw[hu x Gh] at own;have ok:=hs x Gh a U;exact .inr ⟨fun e=>absurd e ok.mA,fun _ _=>own,fun e w=>(by rw[ok.still e] at w; cases w),.inl own,fun e w=>absurd w (ok.tA e)⟩
def N8 (Shun dy Still:Loc→Prop)(b:Touch):Prop:=dy b.loc∨(Still b.loc∧b.write=false)∨(Shun b.loc∧b.kind=.atomic)
theorem PT.E1(A:Apart Shun dy Still)(h:PT Shun dy Still c (Knows t c) t)(hu:∀op∈u,op.g=c)(hs:∀op∈u,∀b,op.act.touch?=some b→N8 Shun dy Still b):PT Shun dy Still c (Knows (t++u) c) (t++u):=by
 refine⟨fun said=>noRace_append (h.clean said) hu fun i a ha op a0 b hb U=>?_,fun i a ha hm=>?_,lX h.over fun op a0=>.inr (.inl (hu op a0))⟩
 ·rcases hs op a0 b hb with ok|⟨ok,a5⟩|⟨ok,a3⟩
  ·rcases h.known i a ha U.2.1 with ⟨a1,_⟩|k
   ·exact absurd a1 (A.kh _ (by rw[U.1]; exact ok))
   ·exact k.mA (by rw[U.1]; exact ok)
  ·rcases h.known i a ha U.2.1 with ⟨a1,_⟩|k
   ·exact absurd a1 (A.sh _ (by rw[U.1]; exact ok))
   ·rcases U.2.2.1 with e|e
    ·exact(k.still (by rw[U.1]; exact ok) e).2
    ·rw[a5] at e; cases e
  ·rcases h.known i a ha U.2.1 with ⟨_,a2⟩|k
   ·rcases U.2.2.2 with e|e|⟨_,e,_⟩
    ·rw[a2] at e; cases e
    ·rw[a3] at e; cases e
    ·rw[a2] at e; cases e
   ·rcases U.2.2.2 with e|e|⟨_,_,e⟩
    ·exact k.tA (by rw[U.1]; exact ok) e
    iterate 2
     ·rw[a3] at e; cases e
 ·obtain⟨x,hx,a4⟩:=touch_of ha;rcases getElem?_append_cases hx with ⟨_,jB⟩|⟨_,Gh⟩
  ·exact(h.known i a (by rw[touchAt_of jB]; exact a4) hm).imp id fun k=>k.app (fun _=>Knows.app u) u
  ·have own:=knows_own hx;rw[hu x Gh] at own;rcases hs x Gh a a4 with ok|⟨ok,Ol⟩|⟨ok,hak⟩
   ·exact .inr ⟨fun _=>own,fun e=>absurd ok e,fun e=>absurd e (A.ks _ ok),.inr own,fun e=>absurd e (A.kh _ ok)⟩
   ·exact .inr ⟨fun e=>absurd ok (A.ks _ e),fun _ e=>absurd ok e,fun _ w=>(by rw[Ol] at w; cases w),.inr own,fun e=>absurd e (A.sh _ ok)⟩
   ·exact .inl ⟨ok,hak⟩
theorem PT.CL(h:PT Shun dy Still c (fun i=>Before t i r) t)(hr:t.g? r=some c)(hu:∀op∈u,op.g=c)(hs:∀op∈u,∀b,op.act.touch?=some b→Shun b.loc∧b.kind=.atomic) :
  PT Shun dy Still c (fun i=>Before (t++u) i r) (t++u):=by
 obtain⟨z,hz,a1⟩:=Option.map_eq_some_iff.1 hr;refine⟨fun said=>noRace_append (h.clean said) hu fun i a ha op eI b hb hc=>?_,fun i a ha hm=>?_,lX h.over fun op eI=>.inr (.inl (hu op eI))⟩
 ·obtain⟨ok,U⟩:=hs op eI b hb;rcases h.known i a ha hc.2.1 with ⟨_,gC⟩|k
  ·rcases hc.2.2.2 with e|e|⟨_,e,_⟩
   ·rw[gC] at e; cases e
   ·rw[U] at e; cases e
   ·rw[gC] at e; cases e
  ·rcases hc.2.2.2 with e|e|⟨_,_,e⟩
   ·exact⟨r,z,hz,a1,k.tA (by rw[hc.1]; exact ok) e⟩
   iterate 2
    ·rw[U] at e; cases e
 ·obtain⟨x,hx,a0⟩:=touch_of ha;rcases getElem?_append_cases hx with ⟨_,jB⟩|⟨_,Gh⟩
  ·exact(h.known i a (by rw[touchAt_of jB]; exact a0) hm).imp id fun k=>k.app (fun _=>Before.app u) u
  ·exact .inl (hs x Gh a a0)
theorem PT.release(h:PT Shun dy Still c (Knows t c) t){y:MemOp}(hy:y.g=c)(U:y.act.touch?=none):PT Shun dy Still c (fun i=>Before (t++#[y]) i t.size) (t++#[y]):=by refine h.mute (fun i hi=>?_) (fun op eI=>by simp at eI; subst eI; exact U);exact .inr (hi.hb_new (Nat.le_refl _) (by simp) hy)
theorem PT.fork{U:Loc→Prop}{B:Nat}(h:Past Shun B t)(a5:Deaf t c=0)(hS:∀l,Shun l→U l)(fh fc:FuncId)(ph:String) :
  PT U dy Still c (Knows (t++#[{ g:=0,fn:=fh,pos:=ph,act:=.go c },{ g:=c,fn:=fc,pos:=ph,act:=.start }]) c) (t++#[{ g:=0,fn:=fh,pos:=ph,act:=.go c },{ g:=c,fn:=fc,pos:=ph,act:=.start }]):=by
 generalize hu:(#[{ g:=0,fn:=fh,pos:=ph,act:=.go c },{ g:=c,fn:=fc,pos:=ph,act:=.start }]:Trace)=u;have hn:∀op∈u,op.act.touch?=none:=by intro op eI;subst hu;simp only[List.mem_toArray,List.mem_cons,List.not_mem_nil,or_false] at eI;rcases eI with rfl|rfl<;>rfl
 have e0:(t++u)[t.size]?=some { g:=0,fn:=fh,pos:=ph,act:=.go c }:=by subst hu; simp
 have e1:(t++u)[t.size+1]?=some { g:=c,fn:=fc,pos:=ph,act:=.start }:=by subst hu; simp
 have a6:(t++u).deaf c (t.size+1)=0:=by rw[deaf_succ e0,deaf_old (Nat.le_refl _)];exact a5
 have a3:HappensBefore (t++u) t.size (t.size+1) :=
  Relation.TransGen.single (.inr ⟨.spawn (by rw[act?_of e0]) (by rw[act?_of e1]) (by simp[Trace.g?,e1]),⟨0,by simp[Trace.g?,e0],by rw[deaf_old (Nat.le_refl _)]; exact h.hears⟩,⟨c,by simp[Trace.g?,e1],a6⟩⟩);refine⟨fun said=>?_,fun i a ha hm=>?_,lX (fun i g hg h0 _ rS=>h.over i g hg h0 rS) fun op eI=>.inr (.inr (hn op eI))⟩
 ·rintro⟨i,j,a4,⟨a,b,ha,hb,hc⟩,n1,n2⟩;obtain⟨x,hx,a0⟩:=touch_of ha;obtain⟨y,hy,a2⟩:=touch_of hb;rcases getElem?_append_cases hy with ⟨hj,qK⟩|⟨_,MU⟩
  ·have hi:i<t.size:=Nat.lt_trans a4 hj;have a1:t[i]?=some x:=by rw[← getElem?_append_old (u:=u) hi]; exact hx
   exact h.clean said ⟨i,j,a4,⟨a,b,by simp[Trace.act?,a1,a0],by simp[Trace.act?,qK,a2],hc⟩,fun e=>n1 (hb_app u e),fun e=>n2 (hb_app u e)⟩
  ·rw[hn y MU] at a2; cases a2
 ·obtain⟨x,hx,a0⟩:=touch_of ha;rcases getElem?_append_cases hx with ⟨_,a1⟩|⟨_,Gh⟩
  ·rcases h.known i a (by rw[touchAt_of a1]; exact a0) hm with k|⟨k1,k2⟩
   ·have kc:Knows (t++u) c i:=⟨t.size+1,_,e1,rfl,.inr ((k.hb_new (Nat.le_refl _) e0 rfl).trans a3)⟩;have k0:=k.app u;exact .inr ⟨fun _=>kc,fun _ _=>k0,fun _ _=>⟨k0,kc⟩,.inl k0,fun _ _=>kc⟩
   ·exact .inl ⟨hS _ k1,k2⟩
  ·rw[hn x Gh] at a0; cases a0
theorem PT.join{ad:Addr}(h:PT Shun dy Still c (fun i=>Before t i r) t)(hr:RelBy ad t c r)(hd:Deaf t 0=0)(a2:∀k,r<k→t.act? k≠some (.mark (.release ad)))(fn:FuncId)(pos:String)(B:Nat)
 (hB:∀op∈t++#[{ g:=0,fn:=fn,pos:=pos,act:=.mark (.acquire ad) }],op.act.low B):Past Shun B (t++#[{ g:=0,fn:=fn,pos:=pos,act:=.mark (.acquire ad) }]):=by
 generalize hu:(#[{ g:=0,fn:=fn,pos:=pos,act:=.mark (.acquire ad) }]:Trace)=u at hB ⊢;have hn:∀op∈u,op.act.touch?=none:=by intro op eI;subst hu;simp at eI;subst eI; rfl
 have e0:(t++u)[t.size]?=some { g:=0,fn:=fn,pos:=pos,act:=.mark (.acquire ad) }:=by subst hu; simp
 have U:r<t.size:=lt_of_act? hr.act;have hh0:(t++u).heard t.size:=⟨0,by simp[Trace.g?,e0],by rw[deaf_old (Nat.le_refl _)]; exact hd⟩;have LU:HappensBefore (t++u) r t.size:=by refine Relation.TransGen.single (.inr ⟨.marked U (.inr (by rw[act?_old U]; exact hr.act)) (by rw[act?_of e0]) (fun k h1 h2=>?_),(heard_old U).2 hr.heard,hh0⟩);rw[act?_old h2]; exact a2 k h1
 have kn:∀i,Before t i r→Knows (t++u) 0 i:=fun i hi=>⟨t.size,_,e0,rfl,.inr ((hi.app u).hb LU)⟩;have h':=h.mute (u:=u) (Lw:=fun i=>Knows (t++u) 0 i) kn hn;refine⟨h'.clean,fun i a ha hm=>?_,fun i g hg h0 rS=>?_,?_,hB⟩
 ·rcases h'.known i a ha hm with k|k
  ·exact .inr k
  ·exact .inl (k.any.elim id id)
 ·by_cases a0:g=c
  ·subst a0;obtain⟨z,hz,a4⟩:=Option.map_eq_some_iff.1 hg;rcases getElem?_append_cases hz with ⟨hi,hz'⟩|⟨_,hzu⟩
   ·have a1:t.g? i=some g:=by rw[← g?_old (u:=u) hi]; exact hg
    have a3:i≤r:=Nat.le_of_not_lt fun eH=>hr.after i eH a1 ((counts_old hi).1 rS);refine⟨t.size,by simp[Trace.g?,e0],?_⟩;rcases Nat.lt_or_ge i r with eH|hge
    ·exact Relation.TransGen.trans (.single (.inl ⟨eH,g,hg,by rw[g?_old U]; exact hr.g⟩)) LU
    ·obtain rfl:i=r:=by omega
     exact LU
   ·obtain⟨x,hx,_⟩:=rS;obtain⟨y,hy,YE⟩:=touch_of hx;rw[hz] at hy; cases hy;rw[hn z hzu] at YE; cases YE
  ·exact h'.over i g hg h0 a0 rS
 ·show Deaf (t++u) 0=0;subst hu;rw[Deaf_push];exact hd
end
end
def branch(S' S:List World→Prop):Prop:=S []∧∃w,S'=fun p=>S (w::p)
structure Tr where
 S:List World→Prop
 acc:Acc branch S
def Sub (lp τ:Tr):Prop:=branch lp.S τ.S
theorem Ba:WellFounded Sub:=⟨fun U=>InvImage.accessible (f:=Tr.S) U.acc⟩
def Tr.leaf:Tr:=⟨fun _=>False,Acc.intro _ fun _ h=>h.1.elim⟩
def Ri(f:World→Tr):List World→Prop
 | []=>True
 | w::p=>(f w).S p
def Tr.node(f:World→Tr):Tr:=⟨Ri f,Acc.intro _ fun S' h=>by
 obtain⟨_,w,rfl⟩:=h;exact(f w).acc⟩
theorem Hv(f:World→Tr)(w:World):Sub (f w) (.node f):=⟨trivial,w,rfl⟩
def Tr.ofNat:Nat→Tr
 | 0=>.leaf
 | n+1=>.node fun _=>Tr.ofNat n
theorem sub_ofNat(n:Nat)(w:World):Sub (.ofNat n) (.ofNat (n+1)):=Hv (fun _=>.ofNat n) w
def EP(P:Program)(main:Bool)(R:World→World→Prop)(D:World→World→Array Event→Prop)(Stop:Goroutine→World→Prop)(X:Tr→Goroutine→World→Prop)(τ:Tr)(g:Goroutine)(w:World):Prop :=
 ∀aB,R w aB→Stop g aB∨(g.status=.running∧∃g' w' es lp,stepG P main g aB=.go g' w' es∧D aB w' es∧Sub lp τ∧X lp g' w')
def aY(P:Program)(main:Bool)(R:World→World→Prop)(D:World→World→Array Event→Prop)(Stop:Goroutine→World→Prop)(τ:Tr)(g:Goroutine)(w:World):Prop :=
 ∃X:Tr→Goroutine→World→Prop,X τ g w∧∀τ g w,X τ g w→EP P main R D Stop X τ g w
def Way (P:Program)(main:Bool)(R:World→World→Prop)(D:World→World→Array Event→Prop)(Stop:Goroutine→World→Prop)(g:Goroutine)(w:World):Prop:=∃τ,aY P main R D Stop τ g w
section
variable {P:Program}{main:Bool}{R R':Wq}{D D':World→World→Array Event→Prop}{Stop Bs:Gq}
theorem aY.now{τ:Tr}(h:aY P main R D Stop τ g w)(hr:R w aB) :
  Stop g aB∨(g.status=.running∧∃g' w' es U,stepG P main g aB=.go g' w' es∧D aB w' es∧Sub U τ∧aY P main R D Stop U g' w'):=by
 obtain⟨X,hx,hX⟩:=h;rcases hX _ _ _ hx aB hr with x|⟨hs,g',w',es,U,e,d,s,n⟩
 ·exact .inl x
 ·exact .inr ⟨hs,g',w',es,U,e,d,s,X,n,hX⟩
theorem aY.AM{τ:Tr}(h:EP P main R D Stop (aY P main R D Stop) τ g w):aY P main R D Stop τ g w:=by
 refine⟨fun lp g' w'=>aY P main R D Stop lp g' w'∨(lp=τ∧g'=g∧w'=w),.inr ⟨rfl,rfl,rfl⟩,fun lp g' w' hx aB hr=>?_⟩;rcases hx with hx|⟨rfl,rfl,rfl⟩
 ·rcases hx.now hr with x|⟨U,g2,w2,es,XL,e,d,s,n⟩
  ·exact .inl x
  ·exact .inr ⟨U,g2,w2,es,XL,e,d,s,.inl n⟩
 ·rcases h aB hr with x|⟨U,g2,w2,es,XL,e,d,s,n⟩
  ·exact .inl x
  ·exact .inr ⟨U,g2,w2,es,XL,e,d,s,.inl n⟩
theorem aY.leaf{τ:Tr}(h:∀aB,R w aB→Stop g aB):aY P main R D Stop τ g w:=.AM fun aB U=>.inl (h aB U)
theorem aY.rely(trans:∀a b c,R a b→R b c→R a c){τ:Tr}(h:aY P main R D Stop τ g w)(U:R w aB):aY P main R D Stop τ g aB :=
 .AM fun dI fW=>h.now (trans _ _ _ U fW)
theorem aY.running(refl:∀w,R w w)(U:∀g w,Stop g w→g.status=.running){τ:Tr}(h:aY P main R D Stop τ g w):g.status=.running:=by
 rcases h.now (refl w) with x|⟨x,_⟩
 ·exact U _ _ x
 ·exact x
theorem aY.qa(hR:∀a b,R' a b→R a b)(hD:∀w w' es,D w w' es→D' w w' es)(hS:∀g w,Stop g w→Bs g w){τ:Tr}(h:aY P main R D Stop τ g w):aY P main R' D' Bs τ g w:=by
 obtain⟨X,U,hX⟩:=h;refine⟨X,U,fun τ g w U aB hr=>?_⟩;rcases hX _ _ _ U aB (hR _ _ hr) with x|⟨hs,g',w',es,lp,e,d,s,n⟩
 ·exact .inl (hS _ _ x)
 ·exact .inr ⟨hs,g',w',es,lp,e,hD _ _ _ d,s,n⟩
theorem Way.qa(hR:∀a b,R' a b→R a b)(U:∀w w' es,D w w' es→D' w w' es)(hS:∀g w,Stop g w→Bs g w)(h:Way P main R D Stop g w):Way P main R' D' Bs g w :=
 let ⟨τ,x⟩:=h; ⟨τ,x.qa hR U hS⟩
theorem Way.rely(trans:∀a b c,R a b→R b c→R a c)(h:Way P main R D Stop g w)(U:R w aB):Way P main R D Stop g aB:=let ⟨τ,x⟩:=h; ⟨τ,x.rely trans U⟩
theorem Way.stop(h:∀aB,R w aB→Stop g aB):Way P main R D Stop g w:=⟨.leaf,.leaf h⟩
def OK (P:Program)(main:Bool)(R:World→World→Prop)(D:World→World→Array Event→Prop)(Stop:Goroutine→World→Prop)(g:Goroutine)(w:World):Prop :=
 Stop g w∨(g.status=.running∧∃g' w' es,stepG P main g w=.go g' w' es∧D w w' es∧Way P main R D Stop g' w')
theorem Way.head(h:Way P main R D Stop g w)(U:R w aB):OK P main R D Stop g aB:=by
 obtain⟨τ,h⟩:=h;rcases h.now U with x|⟨hs,g',w',es,lp,e,d,_,n⟩
 ·exact .inl x
 ·exact .inr ⟨hs,g',w',es,e,d,lp,n⟩
theorem Way.Cf(h:∀aB,R w aB→OK P main R D Stop g aB):Way P main R D Stop g w:=by
 have hc:∀aB:World,∃τ:Tr,R w aB→Stop g aB∨(g.status=.running∧∃g' w' es,stepG P main g aB=.go g' w' es∧D aB w' es∧aY P main R D Stop τ g' w'):=by
  intro aB;by_cases U:R w aB
  ·rcases h aB U with x|⟨hs,g',w',es,e,d,τ,n⟩
   ·exact⟨.leaf,fun _=>.inl x⟩
   ·exact⟨τ,fun _=>.inr ⟨hs,g',w',es,e,d,n⟩⟩
  ·exact⟨.leaf,fun z=>absurd z U⟩
 obtain⟨f,hf⟩:=Classical.axiomOfChoice hc;refine⟨.node f,.AM fun aB U=>?_⟩;rcases hf aB U with x|⟨hs,g',w',es,e,d,n⟩
 ·exact .inl x
 ·exact .inr ⟨hs,g',w',es,f aB,e,d,Hv f aB,n⟩
theorem Way.step(hs:g.status=.running)(h:∀aB,R w aB→∃g' w' es,stepG P main g aB=.go g' w' es∧D aB w' es∧Way P main R D Stop g' w'):Way P main R D Stop g w :=
 Way.Cf fun aB U=>.inr ⟨hs,h aB U⟩
theorem Way.bind(refl:∀w,R w w)(h:Way P main R D (fun g w=>Way P main R D Stop g w) g w):Way P main R D Stop g w:=by
 obtain⟨τ,h⟩:=h;induction τ using Ba.induction generalizing g w with
 | _ τ ih =>
  refine Way.Cf fun aB U=>?_;rcases h.now U with x|⟨hs,g',w',es,lp,e,d,s,n⟩
  ·exact x.head (refl aB)
  ·exact .inr ⟨hs,g',w',es,e,d,ih lp s n⟩
theorem bX(h:Goes P main R D Stop n g w):Way P main R D Stop g w:=by
 induction n generalizing g w with
 | zero=>exact⟨.leaf,.leaf h⟩
 | succ n ih =>
  rcases h with h|⟨U,h⟩
  ·exact⟨.leaf,.leaf h⟩
  ·refine Way.step U fun aB aF=>?_;have hw:=h aB aF;cases e:stepG P main g aB with
   | go g' w' es=>rw[e,goes_go] at hw; exact⟨g',w',es,rfl,hw.1,ih hw.2⟩
   | _=>rw[e] at hw; exact hw.elim
end
section
def Bi:Obj→TypeId
 | .cells _ t _=>t
 | .stringIter s _=>1000+s.size
 | _=>999
def jf(n:Nat)(l:Loc):Prop:=(∀ad:Addr,l=.cell ad→ad.block<n)∧∀b,l=.obj b→b<n
theorem jf.mono{m:Nat}(h:jf n l)(U:n≤m):jf m l:=⟨fun ad e=>Nat.lt_of_lt_of_le (h.1 ad e) U,fun b e=>Nat.lt_of_lt_of_le (h.2 b e) U⟩
structure Cfg where
 P:Program
 ty:TypeId
 A:Nat
 E:Nat
 Wg:Nat
 C:Nat
 pk:Nat→Prop
 N0:Nat
 KT:TypeId→Prop
 Still:Nat→Prop
 Shun:Loc→Prop
 B:Nat
 z:Value
 zs:Value
 zE:Value
 val:Value
 Mine:Loc→Prop
namespace Cfg
variable (K:Cfg)
def SM (b:Nat):Prop:=b=K.A∨b=K.E∨b=K.Wg
def dy (w:World)(b:Nat):Prop:=K.pk b∨(K.N0≤b∧∃o,w.heap[b]?=some o∧K.KT (Bi o))
def iz (S:Nat→Prop)(l:Loc):Prop:=(∃a,l=.cell a∧S a.block)∨l=.obj K.E∨∃b,l=.obj b∧S b
abbrev MZ(w:World):Loc→Prop:=K.iz (K.dy w)
def fi(l:Loc):Prop:=∃a,l=.cell a∧K.Still a.block
def cases:Array CommCase:=#[rcase K.A K.z,rcase K.E K.zE]
def oX (w:World)(st sm:Int):Prop:=w.heap[K.Wg]?=some (.cells #[.int .u64 st,.int .u32 sm] K.ty)
def wN:Addr:=⟨K.Wg,0,none⟩
structure Fit:Prop where
 AE:K.A≠K.E
 AW:K.A≠K.Wg
 EW:K.E≠K.Wg
 Wr:¬K.pk K.A
 YG:¬K.pk K.E
 YH:¬K.pk K.Wg
 A0:K.A<K.N0
 E0:K.E<K.N0
 W0:K.Wg<K.N0
 sA:¬K.Still K.A
 sE:¬K.Still K.E
 sW:¬K.Still K.Wg
 s0:∀b,K.Still b→b<K.N0
 c0:∀b,K.pk b→b<K.N0
 k0s:∀b,K.pk b→¬K.Still b
 Ie:K.pk K.C
 Ll:∀a:Addr,a.block=K.Wg→K.Shun (.cell a)
 jo:∀l,K.Shun l→∃a,l=.cell a∧a.block<K.N0
 YI:∀a:Addr,K.pk a.block→¬K.Shun (.cell a)
 sh:∀a:Addr,K.Still a.block→¬K.Shun (.cell a)
 WB:K.Wg<K.B
 CB:K.C<K.B
end Cfg
variable (K:Cfg)
theorem Cfg.dy.low{K:Cfg}(h:K.dy w b)(U:b<K.N0):K.pk b:=h.elim id fun z=>absurd z.1 (by omega)
theorem Cfg.dy.lt{K:Cfg}(F:K.Fit)(U:K.N0≤w.heap.size)(h:K.dy w b):b<w.heap.size:=by
 rcases h with h|⟨_,o,h,_⟩
 ·exact Nat.lt_of_lt_of_le (F.c0 b h) U
 ·exact(Array.getElem?_eq_some_iff.1 h).1
theorem Cfg.dy.of_same{K:Cfg}(h:K.dy w b)(e:w'.heap[b]?=w.heap[b]?):K.dy w' b:=by
 rcases h with h|⟨h1,o,h,h2⟩
 ·exact .inl h
 ·exact .inr ⟨h1,o,e.trans h,h2⟩
theorem Cfg.iz.mono{K:Cfg}(h:∀b,S b→S' b)(hl:K.iz S l):K.iz S' l:=by
 rcases hl with ⟨a,rfl,U⟩|rfl|⟨b,rfl,U⟩
 ·exact .inl ⟨a,rfl,h _ U⟩
 ·exact .inr (.inl rfl)
 ·exact .inr (.inr ⟨b,rfl,h _ U⟩)
theorem Cfg.Fit.kA{K:Cfg}(F:K.Fit)(w:World):¬K.dy w K.A:=fun h=>F.Wr (h.low F.A0)
theorem Cfg.Fit.kE{K:Cfg}(F:K.Fit)(w:World):¬K.dy w K.E:=fun h=>F.YG (h.low F.E0)
theorem Cfg.Fit.kW{K:Cfg}(F:K.Fit)(w:World):¬K.dy w K.Wg:=fun h=>F.YH (h.low F.W0)
theorem Cfg.Fit.ks{K:Cfg}(F:K.Fit)(w:World)(b:Nat)(h:K.dy w b):¬K.Still b:=fun U=>F.k0s b (h.low (F.s0 b U)) U
theorem Cfg.Fit.kC{K:Cfg}(F:K.Fit)(w:World):K.dy w K.C:=.inl F.Ie
theorem Cfg.Fit.kh{K:Cfg}(F:K.Fit)(w:World)(a:Addr)(h:K.dy w a.block):¬K.Shun (.cell a):=fun U=>by obtain⟨a',e,hl⟩:=F.jo _ U;cases e;exact F.YI a (h.low hl) U
theorem Cfg.Fit.apart{K:Cfg}(F:K.Fit)(U:∃w,∀b,S b→K.dy w b):Apart K.Shun (K.iz S) K.fi:=by
 obtain⟨w,U⟩:=U;refine⟨?_,?_,?_⟩
 ·rintro l (⟨a,rfl,h⟩|rfl|⟨a,rfl,h⟩) ⟨b,e,h'⟩
  ·cases e; exact F.ks w _ (U _ h) h'
  ·cases e
  ·cases e
 ·rintro l (⟨a,rfl,h⟩|rfl|⟨a,rfl,h⟩) hs
  ·exact F.kh w a (U _ h) hs
  iterate 2
   ·obtain⟨a,e,_⟩:=F.jo _ hs; cases e
 ·rintro l ⟨a,rfl,h⟩; exact F.sh a h
theorem Cfg.Fit.CW{K:Cfg}(F:K.Fit):K.C≠K.Wg:=fun e=>F.YH (e▸F.Ie)
structure RM(w aB:World):Prop where
 tape:aB.tape=w.tape
 os:aB.os=w.os
 output:aB.output=w.output
 block:∀b,b<w.heap.size→¬K.dy w b→¬K.SM b→aB.heap[b]?=w.heap[b]?
 size:w.heap.size≤aB.heap.size
def RC (w aB:World):Prop:=∀b,K.dy w b∨K.Still b→aB.heap[b]?=w.heap[b]?
structure RJ(S:Nat→Prop)(w aB:World):Prop where
 rc:∀b,S b∨K.Still b→aB.heap[b]?=w.heap[b]?
 live:Go.ConcN.WgLive K.ty K.Wg w→Go.ConcN.WgLive K.ty K.Wg aB
def Im (w':World)(e:Event):Prop:=(∃a wr,e=⟨.cell a,wr,false⟩∧(K.dy w' a.block∨(K.Still a.block∧wr=false)))∨∃b wr,e=⟨.obj b,wr,false⟩∧K.dy w' b
def SL (w':World)(e:Event):Prop:=(∀x,(MemAct.ofEvent e).touch?=some x→Ok0 K.Shun (K.MZ w') K.fi x∧jf w'.heap.size x.loc)∧e.loc≠.mark .disable∧e.loc≠.mark .enable∧MemAct.ofEvent e≠.mark (.release K.wN)
structure DK(w w':World)(es:Array Event):Prop where
 tape:w'.tape=w.tape
 os:w'.os=w.os
 output:w'.output=w.output
 block:∀b,b<w.heap.size→¬K.dy w b→w'.heap[b]?=w.heap[b]?
 stay:∀b,K.dy w b→K.dy w' b
 born:∀b,w.heap.size≤b→b<w'.heap.size→K.dy w' b
 keep:w'.heap[K.C]?=w.heap[K.C]?
 grow:w.heap.size≤w'.heap.size
 evs:∀e∈es,Im K w' e
structure DM(w w':World)(es:Array Event):Prop where
 block:∀b,K.dy w b∨K.Still b∨K.SM b→w'.heap[b]?=w.heap[b]?
 born:∀b,K.dy w' b→K.dy w b
 grow:w.heap.size≤w'.heap.size
 evs:∀e∈es,SL K w' e
section
variable {K:Cfg}{w aB dI:World}
theorem RM.refl(w:World):RM K w w:=⟨rfl,rfl,rfl,fun _ _ _ _=>rfl,Nat.le_refl _⟩
theorem RM.trans(h:RM K w aB)(U:RM K aB dI):RM K w dI:=⟨U.tape.trans h.tape,U.os.trans h.os,U.output.trans h.output,fun b l a c=>(U.block b (Nat.lt_of_lt_of_le l h.size) (fun z=>a (z.of_same (h.block b l a c).symm)) c).trans (h.block b l a c),Nat.le_trans h.size U.size⟩
theorem RM.at(w:World)(d:Nat):RM K w (w.at d):=⟨rfl,rfl,rfl,fun _ _ _ _=>rfl,Nat.le_refl _⟩
theorem RC.refl(w:World):RC K w w:=fun _ _=>rfl
theorem RC.trans(h:RC K w aB)(U:RC K aB dI):RC K w dI:=fun b a=>(U b (a.imp (fun z=>z.of_same (h b a)) id)).trans (h b a)
theorem RC.at(w:World)(d:Nat):RC K w (w.at d):=fun _ _=>rfl
theorem RJ.refl(w:World):RJ K S w w:=⟨fun _ _=>rfl,id⟩
theorem RJ.trans(h:RJ K S w aB)(U:RJ K S aB dI):RJ K S w dI:=⟨fun b z=>(U.rc b z).trans (h.rc b z),U.live ∘ h.live⟩
end
variable [Go.ConcX.Payload][Go.ConcR.Payload]
theorem RJ.rw{K:Cfg}(U:S K.C)(h:RJ K S w aB):Go.ConcN.RW K.ty K.Wg K.C 1 0 0 w aB:=by have e:=h.rc K.C (.inl U);refine⟨fun _ h=>absurd h (by omega),h.live,?_,by simp[World.cell?,e]⟩;rintro⟨cs,hc,hn⟩;exact⟨cs,e.trans hc,hn⟩
def AtSend(v:Value)(Next:Goroutine→World→Prop)(g:Goroutine)(w:World):Prop :=
 g.status=.running∧K.N0≤w.heap.size∧stepG K.P false g w=.comm g #[scase K.A v K.zs] true .send w #[]∧∀aB,RC K w aB→Next (Conc.served g undef) aB
def Ly (S:Nat→Prop):Nat→Loc→Prop:=fun _ l=>K.iz S l
def TJ:Nat→Loc→Prop:=fun _ l=>K.fi l
abbrev Eo:=Go.ConcN.RW K.ty K.Wg K.C 1 0 0
abbrev DJ(S:Nat→Prop):=Go.ConcN.DWs K.Wg (Ly K S) (TJ K) K.C 1 1
abbrev wP:=Go.ConcN.AtR0 K.P K.ty K.Wg K.C 1 0 1 K.val
abbrev KN:=Go.ConcN.AtK1 K.P K.ty K.Wg K.C 1 0 1
abbrev KJ:=Go.ConcN.AtD1 K.P K.ty K.Wg K.C 1 0 1
abbrev EH:=Go.ConcN.AtD2 K.P K.ty K.Wg K.C 1 0 1
abbrev KL:=Go.ConcN.AtD3 K.P K.ty K.Wg K.C 1 0 1
abbrev KM:=Go.ConcN.AtD4 K.P K.ty K.Wg
abbrev zv:=Go.ConcR.DC0
def AtClose(g:Goroutine)(w:World):Prop :=
 g.status=.running∧K.N0≤w.heap.size∧mayWake K.P g=true∧∃g',g'.status=.running ∧
  (w.heap[K.E]?=some (.chan 0 #[] false 0 0 false)→stepG K.P false g w=.go g' (w.setChan K.E 0 #[] true 0 0 false) (closeEvents K.E)) ∧
  ∀aB,RC K w aB→Go.ConcN.WgLive K.ty K.Wg aB→Way K.P false (RJ K (K.dy aB)) (DJ K (K.dy aB)) (wP K) g' aB
def lr:List Value→Goroutine→World→Prop
 | []=>Way K.P false (RC K) (DK K) (AtClose K)
 | v::vs=>Way K.P false (RC K) (DK K) (AtSend K v (lr vs))
def kT:List Value→Goroutine→World→Prop
 | []=>AtClose K
 | v::vs=>AtSend K v (lr K vs)
theorem pz(vs:Vq):lr K vs=Way K.P false (RC K) (DK K) (kT K vs):=by cases vs<;>rfl
section main
variable [Go.ConcX.Shy K.Wg K.C](L:Nat)(AnchW:Gq)(Post:Value→World→Prop)
abbrev gQ:=Go.ConcX.RPa K.ty K.Wg K.C [K.val]
abbrev zB:=Go.ConcX.RPb K.ty K.Wg K.C [K.val]
abbrev zA:=Go.ConcX.KPa K.ty K.Wg K.C [K.val]
abbrev wS:=Go.ConcX.Full K.C [K.val]
abbrev iW:=Go.ConcX.DPi K.Mine K.Wg K.C L
abbrev tG:=Go.ConcX.AtKd K.P K.ty K.Wg K.C L [K.val] K.Mine AnchW
abbrev iV:=Go.ConcX.AtW1 K.P K.ty K.Wg K.C L [K.val] K.Mine AnchW Post
abbrev KP:=Go.ConcX.AtW2 K.P K.ty K.Wg K.C L [K.val] K.Mine AnchW Post
abbrev EI:=Go.ConcX.AtW3 K.P K.ty K.Wg K.C L [K.val] K.Mine Post
abbrev KQ:=Go.ConcX.AtW4 K.P K.Wg K.C L K.Mine Post
abbrev KO:=Go.ConcX.AtKe K.P K.Wg K.C L K.Mine Post
abbrev EG:=Go.ConcX.AtAcq K.P K.Wg K.C L K.Mine Post
abbrev Lu:=Go.ConcX.AtRetJ K.P K.Wg K.C K.Mine Post
def EU(k:Nat)(v:Value)(ok:Bool)(Next:Goroutine→World→Prop)(g cm:Goroutine)(w:World):Prop :=
 g.frame=cm.frame∧g.callers=cm.callers∧g.dying=cm.dying∧(∀aB,RM K w aB→stepG K.P true g aB=.comm cm K.cases true .select aB #[])∧∀aB,RM K w aB→K.N0≤aB.heap.size→Next (Conc.served cm (commResult K.cases .select k v ok)) aB
def wQ(k:Nat)(v:Value)(ok:Bool)(Next:Goroutine→World→Prop)(g:Goroutine)(w:World):Prop:=g.status=.running∧∃cm,EU K k v ok Next g cm w
def uV(g:Goroutine)(w:World):Prop:=g.status=.running∧(zA K w→∀L,K.N0≤L→Way K.P true (gQ K) (iW K L) (tG K L AnchW) g w)
def Bm(g:Goroutine)(w:World):Prop:=Way K.P true (RM K) (DM K) (uV K AnchW) g w
def rA:List Value→Goroutine→World→Prop
 | []=>Way K.P true (RM K) (DM K) (wQ K 1 K.zE false (Bm K AnchW))
 | v::vs=>Way K.P true (RM K) (DM K) (wQ K 0 v true (rA vs))
def iE:List Value→Goroutine→World→Prop
 | []=>wQ K 1 K.zE false (Bm K AnchW)
 | v::vs=>wQ K 0 v true (rA K AnchW vs)
def mZ:List Value→Goroutine→Goroutine→World→Prop
 | []=>EU K 1 K.zE false (Bm K AnchW)
 | v::vs=>EU K 0 v true (rA K AnchW vs)
theorem D9(vs:Vq)(g:Goroutine)(w:World):iE K AnchW vs g w↔g.status=.running∧∃U,mZ K AnchW vs g U w:=by cases vs<;>exact Iff.rfl
theorem r7(vs:Vq):rA K AnchW vs=Way K.P true (RM K) (DM K) (iE K AnchW vs):=by cases vs<;>rfl
end main
abbrev Ch:=Sum (List Value) (Sum (List Value) (Sum (Value × List Value) (Sum (Unit) (Sum (Unit) (Sum (Unit) (Sum (Unit) (Sum (Unit) (Sum (Unit) (Nat × Nat)))))))))
abbrev Ch.fresh(vs:List Value):Ch:=.inl vs
abbrev Ch.work(vs:List Value):Ch:=.inr (.inl vs)
abbrev Ch.ep(v:Value)(vs:List Value):Ch:=.inr (.inr (.inl (v,vs)))
abbrev Ch.r0:Ch:=.inr (.inr (.inr (.inl ())))
abbrev Ch.k1:Ch:=.inr (.inr (.inr (.inr (.inl ()))))
abbrev Ch.d1:Ch:=.inr (.inr (.inr (.inr (.inr (.inl ())))))
abbrev Ch.d2:Ch:=.inr (.inr (.inr (.inr (.inr (.inr (.inl ()))))))
abbrev Ch.d3:Ch:=.inr (.inr (.inr (.inr (.inr (.inr (.inr (.inl ())))))))
abbrev Ch.d4:Ch:=.inr (.inr (.inr (.inr (.inr (.inr (.inr (.inr (.inl ()))))))))
abbrev Ch.quit(n:Nat)(d:Nat):Ch:=.inr (.inr (.inr (.inr (.inr (.inr (.inr (.inr (.inr ((n,d))))))))))
theorem Ch.bJ{motive:Ch→Prop}(fresh:∀(vs:Vq), motive (Ch.fresh vs))(work:∀(vs:Vq), motive (Ch.work vs))(ep:∀(v:Value) (vs:Vq), motive (Ch.ep v vs))(r0:motive Ch.r0)(k1:motive Ch.k1)(d1:motive Ch.d1)(d2:motive Ch.d2)(d3:motive Ch.d3)(d4:motive Ch.d4)(quit:∀(n:Nat) (d:Nat), motive (Ch.quit n d))(x:Ch):motive x:=by
 rcases x with vs|vs|⟨v, vs⟩|_|_|_|_|_|_|⟨n, d⟩
 ·exact fresh vs
 ·exact work vs
 ·exact ep v vs
 ·exact r0
 ·exact k1
 ·exact d1
 ·exact d2
 ·exact d3
 ·exact d4
 ·exact quit n d
abbrev Ma:=Sum (List Value) (Sum (List Value) (Sum (List Value) (Sum (Unit) (Sum (Unit) (Sum (Unit) (Sum (Unit) (Sum (Unit) (Sum (Unit) (Sum (Unit) (Sum (Unit) (Unit)))))))))))
abbrev Ma.front(vs:List Value):Ma:=.inl vs
abbrev Ma.walk(vs:List Value):Ma:=.inr (.inl vs)
abbrev Ma.ep(vs:List Value):Ma:=.inr (.inr (.inl vs))
abbrev Ma.kd:Ma:=.inr (.inr (.inr (.inl ())))
abbrev Ma.w1:Ma:=.inr (.inr (.inr (.inr (.inl ()))))
abbrev Ma.w2:Ma:=.inr (.inr (.inr (.inr (.inr (.inl ())))))
abbrev Ma.w3:Ma:=.inr (.inr (.inr (.inr (.inr (.inr (.inl ()))))))
abbrev Ma.blk:Ma:=.inr (.inr (.inr (.inr (.inr (.inr (.inr (.inl ())))))))
abbrev Ma.w4:Ma:=.inr (.inr (.inr (.inr (.inr (.inr (.inr (.inr (.inl ()))))))))
abbrev Ma.ke:Ma:=.inr (.inr (.inr (.inr (.inr (.inr (.inr (.inr (.inr (.inl ())))))))))
abbrev Ma.acq:Ma:=.inr (.inr (.inr (.inr (.inr (.inr (.inr (.inr (.inr (.inr (.inl ()))))))))))
abbrev Ma.over:Ma:=.inr (.inr (.inr (.inr (.inr (.inr (.inr (.inr (.inr (.inr (.inr (())))))))))))
theorem Ma.bJ{motive:Ma→Prop}(front:∀(vs:Vq), motive (Ma.front vs))(walk:∀(vs:Vq), motive (Ma.walk vs))(ep:∀(vs:Vq), motive (Ma.ep vs))(kd:motive Ma.kd)(w1:motive Ma.w1)(w2:motive Ma.w2)(w3:motive Ma.w3)(blk:motive Ma.blk)(w4:motive Ma.w4)(ke:motive Ma.ke)(acq:motive Ma.acq)(over:motive Ma.over)(x:Ma):motive x:=by
 rcases x with vs|vs|vs|_|_|_|_|_|_|_|_|_
 ·exact front vs
 ·exact walk vs
 ·exact ep vs
 ·exact kd
 ·exact w1
 ·exact w2
 ·exact w3
 ·exact blk
 ·exact w4
 ·exact ke
 ·exact acq
 ·exact over
def ze (S:Nat→Prop):Ch→Tr→Goroutine→World→Prop
 | .inl vs,τ,g,w=>aY K.P false (RC K) (DK K) (kT K vs) τ g w
 | .inr (.inl vs),τ,g,w=>aY K.P false (RC K) (DK K) (kT K vs) τ g w
 | .inr (.inr (.inl (v,vs))),_,g,w=>∃cm,g=parked cm #[scase K.A v K.zs] .send∧∀aB,RC K w aB→lr K vs (Conc.served cm undef) aB
 | .inr (.inr (.inr (.inl _))),τ,g,w=>aY K.P false (RJ K S) (DJ K S) (wP K) τ g w
 | .inr (.inr (.inr (.inr (.inl _)))),τ,g,w=>aY K.P false (Eo K) zv (KN K) τ g w
 | .inr (.inr (.inr (.inr (.inr (.inl _))))),τ,g,w=>aY K.P false (Eo K) zv (KJ K) τ g w
 | .inr (.inr (.inr (.inr (.inr (.inr (.inl _)))))),τ,g,w=>aY K.P false (Eo K) zv (EH K) τ g w
 | .inr (.inr (.inr (.inr (.inr (.inr (.inr (.inl _))))))),τ,g,w=>aY K.P false (Eo K) zv (KL K) τ g w
 | .inr (.inr (.inr (.inr (.inr (.inr (.inr (.inr (.inl _)))))))),τ,g,w=>aY K.P false (Eo K) zv (KM K) τ g w
 | .inr (.inr (.inr (.inr (.inr (.inr (.inr (.inr (.inr ((n,d)))))))))),τ,g,_=>QuitsD K.P n d g∧τ=.ofNat n
section main
variable [Go.ConcX.Shy K.Wg K.C](L:Nat)(AnchW:Gq)(Post:Value→World→Prop)
def wU:Ma→Tr→Goroutine→World→Prop
 | .inl vs,τ,g,w=>aY K.P true (RM K) (DM K) (iE K AnchW vs) τ g w
 | .inr (.inl vs),τ,g,w=>aY K.P true (RM K) (DM K) (iE K AnchW vs) τ g w
 | .inr (.inr (.inl vs)),_,g,w=>∃Aj cm,g=parked cm K.cases .select∧mZ K AnchW vs Aj cm w
 | .inr (.inr (.inr (.inl _))),τ,g,w=>aY K.P true (gQ K) (iW K L) (tG K L AnchW) τ g w
 | .inr (.inr (.inr (.inr (.inl _)))),τ,g,w=>aY K.P true (gQ K) (iW K L) (iV K L AnchW Post) τ g w
 | .inr (.inr (.inr (.inr (.inr (.inl _))))),τ,g,w=>aY K.P true (gQ K) (iW K L) (KP K L AnchW Post) τ g w
 | .inr (.inr (.inr (.inr (.inr (.inr (.inl _)))))),τ,g,w=>aY K.P true (zB K) (iW K L) (EI K L Post) τ g w
 | .inr (.inr (.inr (.inr (.inr (.inr (.inr (.inl _))))))),τ,g,w=>∃cm:Goroutine,g={ cm with status:=.blocked }∧cm.status=.running∧cm.offers=none∧aY K.P true (zB K) (iW K L) (EI K L Post) τ cm w
 | .inr (.inr (.inr (.inr (.inr (.inr (.inr (.inr (.inl _)))))))),τ,g,w=>aY K.P true AtRel (iW K L) (KQ K L Post) τ g w
 | .inr (.inr (.inr (.inr (.inr (.inr (.inr (.inr (.inr (.inl _))))))))),τ,g,w=>aY K.P true AtRel (iW K L) (KO K L Post) τ g w
 | .inr (.inr (.inr (.inr (.inr (.inr (.inr (.inr (.inr (.inr (.inl _)))))))))),τ,g,w=>aY K.P true AtRel (iW K L) (EG K L Post) τ g w
 | .inr (.inr (.inr (.inr (.inr (.inr (.inr (.inr (.inr (.inr (.inr (_))))))))))),τ,g,w=>aY K.P true (RM K) (DM K) (uV K AnchW) τ g w
end main
def Ch.rel:Ch→Bool
 | .inl _|.inr (.inl _)|.inr (.inr (.inl _))|.inr (.inr (.inr (.inl _)))=>false
 | _=>true
def Ch.shut:Ch→Bool
 | .inl _|.inr (.inl _)|.inr (.inr (.inl _))=>false
 | _=>true
def Ch.deaf:Ch→Nat
 | .inr (.inr (.inr (.inr (.inr (.inl _)))))|.inr (.inr (.inr (.inr (.inr (.inr (.inl _))))))|.inr (.inr (.inr (.inr (.inr (.inr (.inr (.inl _)))))))|.inr (.inr (.inr (.inr (.inr (.inr (.inr (.inr (.inl _))))))))=>1
 | .inr (.inr (.inr (.inr (.inr (.inr (.inr (.inr (.inr ((_,d))))))))))=>d
 | _=>0
def Ch.left:Ch→Nat
 | .inl vs|.inr (.inl vs)=>vs.length
 | .inr (.inr (.inl (_,vs)))=>vs.length+1
 | _=>0
def Ch.fX:Ch→Nat
 | .inl _|.inr (.inl _)=>9
 | .inr (.inr (.inl _))=>8
 | .inr (.inr (.inr (.inl _)))=>7
 | .inr (.inr (.inr (.inr (.inl _))))=>6
 | .inr (.inr (.inr (.inr (.inr (.inl _)))))=>5
 | .inr (.inr (.inr (.inr (.inr (.inr (.inl _))))))=>4
 | .inr (.inr (.inr (.inr (.inr (.inr (.inr (.inl _)))))))=>3
 | .inr (.inr (.inr (.inr (.inr (.inr (.inr (.inr (.inl _))))))))=>2
 | .inr (.inr (.inr (.inr (.inr (.inr (.inr (.inr (.inr (_)))))))))=>1
def Ma.deaf:Ma→Nat
 | .inr (.inr (.inr (.inr (.inl _))))|.inr (.inr (.inr (.inr (.inr (.inl _)))))|.inr (.inr (.inr (.inr (.inr (.inr (.inl _))))))|.inr (.inr (.inr (.inr (.inr (.inr (.inr (.inl _)))))))|.inr (.inr (.inr (.inr (.inr (.inr (.inr (.inr (.inl _))))))))|.inr (.inr (.inr (.inr (.inr (.inr (.inr (.inr (.inr (.inl _)))))))))=>1
 | _=>0
def Ma.early:Ma→Bool
 | .inl _|.inr (.inl _)|.inr (.inr (.inl _))|.inr (.inr (.inr (.inr (.inr (.inr (.inr (.inr (.inr (.inr (.inr (_)))))))))))=>true
 | _=>false
def Ma.fX(done:Bool):Ma→Nat
 | .inl _|.inr (.inl _)=>10
 | .inr (.inr (.inl _))=>9
 | .inr (.inr (.inr (.inl _)))=>7
 | .inr (.inr (.inr (.inr (.inl _))))=>if done then 5 else 6
 | .inr (.inr (.inr (.inr (.inr (.inl _)))))=>if done then 6 else 5
 | .inr (.inr (.inr (.inr (.inr (.inr (.inl _))))))=>4
 | .inr (.inr (.inr (.inr (.inr (.inr (.inr (.inl _)))))))=>3
 | .inr (.inr (.inr (.inr (.inr (.inr (.inr (.inr (.inl _))))))))=>3
 | .inr (.inr (.inr (.inr (.inr (.inr (.inr (.inr (.inr (.inl _)))))))))=>2
 | .inr (.inr (.inr (.inr (.inr (.inr (.inr (.inr (.inr (.inr (.inl _))))))))))=>1
 | .inr (.inr (.inr (.inr (.inr (.inr (.inr (.inr (.inr (.inr (.inr (_)))))))))))=>8
def Ch.done:Ch→Bool
 | .inr (.inr (.inr (.inr (.inr (.inr (.inr (.inr (.inr (_)))))))))=>true
 | _=>false
def KK:Int:=4294967296
def jU:Ch→Ma→Int→Int→Prop
 | .inl vs,.inl eY,st,sm|.inl vs,.inr (.inr (.inl eY)),st,sm|.inr (.inl vs),.inr (.inl eY),st,sm|.inr (.inl vs),.inr (.inr (.inl eY)),st,sm=>eY=vs∧st=KK∧sm=0
 | .inr (.inr (.inl (v,vs))),.inr (.inl eY),st,sm=>eY=v::vs∧st=KK∧sm=0
 | .inr (.inr (.inr (.inl _))),.inr (.inl vs),st,sm|.inr (.inr (.inr (.inr (.inl _)))),.inr (.inl vs),st,sm|.inr (.inr (.inr (.inr (.inr (.inl _))))),.inr (.inl vs),st,sm=>vs=[]∧st=KK∧sm=0
 | .inr (.inr (.inr (.inl _))),.inr (.inr (.inr (.inr (.inr (.inr (.inr (.inr (.inr (.inr (.inr (_))))))))))),st,sm|.inr (.inr (.inr (.inr (.inl _)))),.inr (.inr (.inr (.inr (.inr (.inr (.inr (.inr (.inr (.inr (.inr (_))))))))))),st,sm|.inr (.inr (.inr (.inr (.inr (.inl _))))),.inr (.inr (.inr (.inr (.inr (.inr (.inr (.inr (.inr (.inr (.inr (_))))))))))),st,sm|.inr (.inr (.inr (.inl _))),.inr (.inr (.inr (.inl _))),st,sm|.inr (.inr (.inr (.inr (.inl _)))),.inr (.inr (.inr (.inl _))),st,sm|.inr (.inr (.inr (.inr (.inr (.inl _))))),.inr (.inr (.inr (.inl _))),st,sm|.inr (.inr (.inr (.inl _))),.inr (.inr (.inr (.inr (.inl _)))),st,sm|.inr (.inr (.inr (.inr (.inl _)))),.inr (.inr (.inr (.inr (.inl _)))),st,sm|.inr (.inr (.inr (.inr (.inr (.inl _))))),.inr (.inr (.inr (.inr (.inl _)))),st,sm|.inr (.inr (.inr (.inl _))),.inr (.inr (.inr (.inr (.inr (.inl _))))),st,sm|.inr (.inr (.inr (.inr (.inl _)))),.inr (.inr (.inr (.inr (.inr (.inl _))))),st,sm|.inr (.inr (.inr (.inr (.inr (.inl _))))),.inr (.inr (.inr (.inr (.inr (.inl _))))),st,sm=>st=KK∧sm=0
 | .inr (.inr (.inr (.inl _))),.inr (.inr (.inr (.inr (.inr (.inr (.inl _)))))),st,sm|.inr (.inr (.inr (.inr (.inl _)))),.inr (.inr (.inr (.inr (.inr (.inr (.inl _)))))),st,sm|.inr (.inr (.inr (.inr (.inr (.inl _))))),.inr (.inr (.inr (.inr (.inr (.inr (.inl _)))))),st,sm|.inr (.inr (.inr (.inl _))),.inr (.inr (.inr (.inr (.inr (.inr (.inr (.inl _))))))),st,sm|.inr (.inr (.inr (.inr (.inl _)))),.inr (.inr (.inr (.inr (.inr (.inr (.inr (.inl _))))))),st,sm|.inr (.inr (.inr (.inr (.inr (.inl _))))),.inr (.inr (.inr (.inr (.inr (.inr (.inr (.inl _))))))),st,sm=>st=KK+1∧sm=0
 | .inr (.inr (.inr (.inr (.inr (.inr (.inl _)))))),.inr (.inr (.inr (.inr (.inr (.inr (.inl _)))))),st,sm|.inr (.inr (.inr (.inr (.inr (.inr (.inr (.inl _))))))),.inr (.inr (.inr (.inr (.inr (.inr (.inl _)))))),st,sm|.inr (.inr (.inr (.inr (.inr (.inr (.inl _)))))),.inr (.inr (.inr (.inr (.inr (.inr (.inr (.inl _))))))),st,sm|.inr (.inr (.inr (.inr (.inr (.inr (.inr (.inl _))))))),.inr (.inr (.inr (.inr (.inr (.inr (.inr (.inl _))))))),st,sm=>st=1∧sm=0
 | .inr (.inr (.inr (.inr (.inr (.inr (.inr (.inr (.inl _)))))))),.inr (.inr (.inr (.inr (.inr (.inr (.inl _)))))),st,sm|.inr (.inr (.inr (.inr (.inr (.inr (.inr (.inr (.inl _)))))))),.inr (.inr (.inr (.inr (.inr (.inr (.inr (.inl _))))))),st,sm=>st=0∧sm=0
 | .inr (.inr (.inr (.inr (.inr (.inr (.inr (.inr (.inr (_))))))))),.inr (.inl vs),st,sm=>vs=[]∧st=0∧sm=0
 | .inr (.inr (.inr (.inr (.inr (.inr (.inr (.inr (.inr (_))))))))),.inr (.inr (.inr (.inr (.inr (.inr (.inr (.inr (.inr (.inr (.inr (_))))))))))),st,sm|.inr (.inr (.inr (.inr (.inr (.inr (.inr (.inr (.inr (_))))))))),.inr (.inr (.inr (.inl _))),st,sm|.inr (.inr (.inr (.inr (.inr (.inr (.inr (.inr (.inr (_))))))))),.inr (.inr (.inr (.inr (.inl _)))),st,sm|.inr (.inr (.inr (.inr (.inr (.inr (.inr (.inr (.inr (_))))))))),.inr (.inr (.inr (.inr (.inr (.inl _))))),st,sm|.inr (.inr (.inr (.inr (.inr (.inr (.inr (.inr (.inr (_))))))))),.inr (.inr (.inr (.inr (.inr (.inr (.inr (.inr (.inl _)))))))),st,sm|.inr (.inr (.inr (.inr (.inr (.inr (.inr (.inr (.inr (_))))))))),.inr (.inr (.inr (.inr (.inr (.inr (.inr (.inr (.inr (.inl _))))))))),st,sm|.inr (.inr (.inr (.inr (.inr (.inr (.inr (.inr (.inr (_))))))))),.inr (.inr (.inr (.inr (.inr (.inr (.inr (.inr (.inr (.inr (.inl _)))))))))),st,sm=>st=0∧sm=0
 | .inr (.inr (.inr (.inr (.inr (.inr (.inr (.inr (.inr (_))))))))),.inr (.inr (.inr (.inr (.inr (.inr (.inl _)))))),st,sm=>st=0∧sm=1
 | _,_,_,_=>False
def nU (S:Nat→Prop)(c:Nat)(rel:Bool)(t:Trace):Prop :=
 if rel then ∃r,PT K.Shun (K.iz S) K.fi c (fun i=>Before t i r) t∧Go.ConcN.RelBy K.wN t c r∧∀k,r<k→t.act? k≠some (.mark (.release K.wN))
 else PT K.Shun (K.iz S) K.fi c (Knows t c) t
section main
variable [Go.ConcX.Shy K.Wg K.C](L:Nat)(AnchW:Gq)(Post:Value→World→Prop)
structure J(S:Nat→Prop)(c:Nat)(x:Ch)(y:Ma)(du dJ:Tr)(gs:Array Goroutine)(a b:Goroutine)(w:World)(t:Trace)(q:Nat→Nat):Prop where
 pos:0<c
 h0:gs[0]?=some a
 hc:gs[c]?=some b
 old:∀i g,0<i→i≠c→gs[i]?=some g→QuitsD K.P (q i) (Deaf t i) g
 above:∀j,gs.size≤j→Deaf t j=0
 ch:ze K S x du b w
 ma:wU K L AnchW Post y dJ a w
 pair:∃st sm,jU x y st sm∧K.oX w st sm
 tN:∃s,w.heap[K.A]?=some (.chan 0 #[] false s s false)
 wG:w.heap[K.E]?=some (.chan 0 #[] x.shut 0 0 false)
 pay:Go.ConcN.PayAt K.C 1 w
 full:x.rel=true→wS K w
 mA:y.early=true→∀b,S b↔K.dy w b
 pP:∀b,K.pk b→S b
 of:∃w₀,∀b,S b→K.dy w₀ b
 size:y.early=true→K.N0≤w.heap.size
 qM:y.early=false→K.N0≤L∧∀b,S b→b<L
 DF:y.early=true→∀i z,touchAt t i=some z→jf w.heap.size z.loc∨Knows t c i∨(K.Shun z.loc∧z.kind=.atomic)
 tr:nU K S c x.rel t
 d0:Deaf t 0=y.deaf
 dc:Deaf t c=x.deaf
end main
end
end Go.Proofs.YtgcaionclkbehaaGreatDoor
