import Derived.Test.YtgcaionclkbehaaGreatDoorPairRun
import Derived.Conc.CompanyMem
import Derived.Conc.FxBegin
set_option linter.all false
set_option maxHeartbeats 2000000
set_option maxRecDepth 100000
namespace Go.Proofs.YtgcaionclkbehaaGreatDoor
open Go.Conc
variable {e:Event}{f fn:FuncId}{pos:String}{sm KR st Iw:Int}{b₀ fuel i id n:Nat}{x:Operand}{c y:Code}{t t':Trace}{ops:Array Oper}{rest:List Nat}{o:Oper}{aM:Func}{cap first:Array Value}{args:Array Operand}{ats:Array TypeId}{P:Program}{Post:Value→World→Prop}{M':Machine}{Shun:Loc→Prop}{gs:Array Goroutine}{q:Nat→Nat}
section
open Go.ConcN (sumTo upd sumTo_upd upd_ne upd_same)
variable {K:Cfg}[Go.ConcX.Payload][Go.ConcR.Payload][Go.ConcX.Shy K.Wg K.C]{AnchW:Gq}{Post:Value→World→Prop}
variable {L:Nat}{S S':Nat→Prop}{c:Nat}{x x':Ch}{y y':Ma}{dR eg fs fZ:Tr}{gs AF:Array Goroutine}{a a' b b':Goroutine}{w w':World}{t u:Trace}{q:Nat→Nat}{sl:Option (Nat × Nat)}{es:Array Event}
def Next.child(h:∃a b,runT K.P (crowd gs w sl) c=(.next (crowd a w' sl),b)∧a.size=gs.size∧J K L AnchW Post S' c x' y' fs fZ a a' b' w' (t++b) q)(U:∀n,IZ (mu n x' y' fs fZ) (mu n x y dR eg)) :
  Next K AnchW Post c (runT K.P (crowd gs w sl) c) t gs.size (mu (sumTo gs.size q) x y dR eg):=by have⟨a,b,e,f,d⟩:=h;exact .inr ⟨L,S',x',y',fs,fZ,a,a',b',w',sl,q,b,e,f,d,.single (U _)⟩
def ij(h:y'=y∨(y=.blk∧y'=.w3)):y'.early=y.early:=by rcases h with rfl|⟨rfl,rfl⟩<;>rfl
def Mz(h:Jb K w' e):(∀z,(MemAct.ofEvent e).touch?=some z→N3 K.Shun (K.MZ w') K.fq z)∧e.loc≠.mark .disable∧e.loc≠.mark .enable:=by
 rcases h with ⟨ad,wr,rfl,U⟩|⟨b,wr,rfl,U⟩
 ·refine⟨fun z a=>?_,iq,iq⟩;rw[ofEvent_cell0] at a;simp only[MemAct.touch?,Option.some.injEq] at a;subst a;rcases U with U|⟨U,rfl⟩
  ·exact .inl (.inl ⟨ad,rfl,U⟩)
  ·exact .inr (.inl ⟨⟨ad,rfl,U⟩,rfl⟩)
 ·refine⟨fun z a=>?_,iq,iq⟩;have c:z.loc=.obj b:=by cases wr<;>(simp[MemAct.ofEvent,MemAct.touch?] at a;rw[← a])
  exact .inl (.inr (.inr ⟨b,c,U⟩))
def wT(F:K.Fit)(c:K.N0≤w.heap.size)(d:∀b,S b→K.dP w b){z:Touch}(h:N3 K.Shun (K.iI S) K.fq z):jq w.heap.size z.loc:=by
 refine⟨fun f e=>?_,fun b e=>?_⟩
 ·rcases h with (⟨a,U,h⟩|U|⟨a,U,h⟩)|⟨⟨a,U,h⟩,_⟩|⟨h,_⟩
  ·rw[e] at U;cases U;exact(d _ h).lt F c
  iterate 2
   ·rw[e] at U;cases U
  ·rw[e] at U;cases U;exact lL (F.s0 _ h) c
  ·have⟨a,U,h⟩:=F.jx _ h;rw[e] at U;cases U;exact lL h c
 ·rcases h with (⟨a,U,h⟩|U|⟨a,U,h⟩)|⟨⟨a,U,h⟩,_⟩|⟨h,_⟩
  ·rw[e] at U;cases U
  ·rw[e] at U;cases U;exact lL F.E0 c
  ·rw[e] at U;cases U;exact(d _ h).lt F c
  ·rw[e] at U;cases U
  ·have⟨a,U,h⟩:=F.jx _ h;rw[e] at U;cases U
def MB(F:K.Fit)(h:Go.ConcN.EvW K.Wg (L9 K S) (Ry K) 1 e):(∀z,(MemAct.ofEvent e).touch?=some z→N3 K.Shun (K.iI S) K.fq z)∧e.loc≠.mark .disable∧e.loc≠.mark .enable:=by
 obtain ⟨h1, h2, h3, _⟩:=h;refine ⟨fun z hz=>?_, h2, h3⟩;rcases (h1 0 "").2 z hz with ⟨⟨ad, e1, e2⟩, k1, k2⟩ | k | ⟨k1, k2⟩
 ·refine .inr (.inr ⟨by rw[e1]; exact F.LR ad e2,?_⟩);cases e:z.kind<;>simp_all
 ·exact .inl k
 ·exact .inr (.inl ⟨k1,k2⟩)
def ow.FP(F:K.Fit)(hS:∃w,∀b,S b→K.dP w b)(h:ow K S c false t)(U:∀e∈es,∀z,(MemAct.ofEvent e).touch?=some z→N3 K.Shun (K.iI S) K.fq z):ow K S c false (t++MemOp.ofEvents c fn pos es) :=
 PT.FP (F.apart hS) h ic (fun op a0 z hz=>by obtain⟨e,he,rfl⟩:=Conc.mem_ofEvents a0;exact U e he z hz)
def sL(U:∀k,k≠b₀→w'.heap[k]?=w.heap[k]?)(a:b₀<K.N0)(b:Nat):K.dP w b↔K.dP w' b:=by
 by_cases e:b=b₀
 ·subst e;exact⟨fun h=>.inl (h.low a),fun h=>.inl (h.low a)⟩
 ·exact⟨fun h=>h.of_same (U b e),fun h=>h.of_same (U b e).symm⟩
def zJ(d:∀e∈es,(∃b c,e=⟨.cell b,c,true⟩∧b.block=K.Wg)∨e.loc=.mark .disable∨e.loc=.mark .enable):∀e∈es,∀z,(MemAct.ofEvent e).touch?=some z→(∃b:Addr,z.loc=.cell b∧b.block=K.Wg):=by
 intro e f z U;rcases d e f with ⟨a,c,rfl,hb⟩|h1|h1
 ·have e1:MemAct.ofEvent ⟨.cell a,c,true⟩=.access ⟨.cell a,c,true⟩:=rfl;rw[e1] at U;simp only[MemAct.touch?,Option.some.injEq] at U;subst U;exact⟨a,rfl,hb⟩
 iterate 2
  ·have⟨g,c,h⟩:=e;simp only at h1;subst h1;cases U
def py(F:K.Fit)(h:w'.tape=w.tape)(g:w'.os=w.os)(i:w'.output=w.output)(U:∀k,k≠K.C→k≠K.Wg→w'.heap[k]?=w.heap[k]?)(d:w'.heap.size=w.heap.size)
 (n:K.pL w st sm)(l:K.pL w' Iw KR)
 (m:(st=KK∧sm=0∧((Iw=KK∧KR=0)∨(Iw=0∧KR=0∧xE K w'))∧(y=.kd∨y=.w1∨y=.w2)) ∨
   (sm=0∧(y=.w3∨y=.blk)∧(KR=0∧(Iw=KK+1∨Iw=1∨Iw=0)∨(Iw=0∧KR=1∧xE K w')))∨((∃j,y=.walk j)∨y=.over)):ot K y w w':=by
 have f:Go.ConcX.WgAt K.ty K.Wg w st sm:=n;have a:Go.ConcX.WgAt K.ty K.Wg w' Iw KR:=l;have b:Go.ConcX.Aside2 K.C K.Wg w w':=⟨h,g,i,d,U⟩;rcases m with ⟨rfl,rfl,a0,hy⟩|⟨rfl,hy,a0⟩|Yv
 ·have:h9 K w w':=by
   refine⟨b,fun _=>?_,fun c=>?_⟩
   ·rcases a0 with ⟨rfl,rfl⟩|⟨rfl,rfl,hf⟩
    ·exact .inl a
    ·exact .inr ⟨a,hf⟩
   ·exact absurd (f.unique c.1).1 dq
  rcases hy with rfl|rfl|rfl<;>exact this
 ·have:z8 K w w':=by
   refine⟨b,fun _=>?_,fun c=>?_⟩
   ·rcases a0 with ⟨rfl,rfl|rfl|rfl⟩|⟨rfl,rfl,hf⟩
    ·exact .inl a
    ·exact .inr (.inl a)
    ·exact .inr (.inr (.inl a))
    ·exact i3 ⟨a,hf⟩
   ·exact absurd (f.unique c.1).2 dq
  rcases hy with rfl|rfl<;>exact this
 ·have:RM K w w':=⟨h,g,i,fun k _ h1 h2=>U k (fun e=>h1 (e▸F.kC w)) (fun e=>h2 (.inr (.inr e))),Nat.le_of_eq d.symm⟩;rcases Yv with ⟨j,rfl⟩|rfl<;>exact this
section
variable (F:K.Fit)(XD:Go.ConcX.Payload.ety=Go.ConcR.Payload.ety)(OZ:∀g w,AnchW g w→g.status=.running)
def qN(F:K.Fit)(v:∀g w,AnchW g w→g.status=.running)(h:J K L AnchW Post S c x y dR eg gs a b w t q){vs:Vq}(r:x=.fresh vs∨x=.work vs)(W:stepG K.P false b w=.go b' w' es)(d:DK K w w' es)(R:zV K (K.dP w') x fs b' w')(G:Sub fs dR) :
  Next K AnchW Post c (runT K.P (crowd gs w sl) c) t gs.size (mu (sumTo gs.size q) x y dR eg):=by
 have⟨st,sm,N,hw⟩:=h.pair;have D:RM K w w':=⟨d.tape,d.os,d.output,fun k Z n _=>d.block k Z n,d.grow⟩;have f:y.early=true∧ot K y w w':=by rcases r with rfl|rfl<;>cases y using Ma.bR<;>first|exact N.elim|exact⟨rfl,D⟩
 have p:=h.size f.1;have M:∃s,w'.heap[K.A]?=some (.chan 0 #[] false s s false):=by have⟨s,G⟩:=h.uF;exact⟨s,(d.block _ (lL F.A0 p) (F.kA w)).trans G⟩
 have B:w'.heap[K.E]?=some (.chan 0 #[] x.shut 0 0 false):=(d.block _ (lL F.E0 p) (F.kE w)).trans h.xr;have o:x.shut=false:=by rcases r with rfl|rfl<;>rfl
 have I:x.rel=false:=by rcases r with rfl|rfl<;>rfl
 have V:x.deaf=0:=by rcases r with rfl|rfl<;>rfl
 have⟨y',Q,X,u⟩:=(h.ma.rely f.2).woken v (g:=b) (g':=b') M (fun _=>by rw[o] at B;exact B);have l:∀e∈es,_:=fun e m=>Mz (d.evs e m);have C:K.N0≤w'.heap.size:=lT p d.grow;refine Next.child (J.jj (S':=K.dP w') h W X (jb u) (ij u) R ⟨st,sm,fj u N,(d.block _ (lL F.W0 p) (F.kW w)).trans hw⟩ M B ?_ (fun O=>by rw[I] at O;cases O)
  (fun _ _=>Iff.rfl) (fun _ j=>.inl j) ⟨w',fun _ j=>j⟩ d.grow (fun z=>by rw[f.1] at z;cases z) (fun _ e m z H=>wT F C (fun _ j=>j) ((l e m).1 z H)) ?_ ?_) fun _=>kR rfl rfl G
 ·have⟨Y,T,p⟩:=h.pay;exact⟨Y,d.keep.trans T,p⟩
 ·have:=h.tr;rw[I] at this ⊢;refine ow.FP F ⟨w',fun _ j=>j⟩ (this.grow (fun b j=>d.stay b ((h.mS f.1 b).1 j)) (fun i z H n=>?_)) fun e m=>(l e m).1;rcases h.Eh f.1 i z H with LA|LA|LA
  ·refine .inl ?_;rcases n with ⟨ad,e,n⟩|e|⟨b,e,n⟩
   ·refine .inl ⟨ad,e,(h.mS f.1 _).2 ?_⟩;by_cases U:K.dP w ad.block
    ·exact U
    ·exact n.of_same (d.block _ (LA.1 ad e) U).symm
   ·exact .inr (.inl e)
   ·refine .inr (.inr ⟨b,e,(h.mS f.1 _).2 ?_⟩);by_cases U:K.dP w b
    ·exact U
    ·exact n.of_same (d.block _ (LA.2 b e) U).symm
  ·exact .inr (.inl ⟨rfl,LA⟩)
  ·exact .inr (.inr LA)
 ·rw[V];exact deafBehind_still (fun e m=>⟨(l e m).2.1,(l e m).2.2⟩) _
def vW(F:K.Fit)(OZ:∀g w,AnchW g w→g.status=.running)(h:J K L AnchW Post S c x y dR eg gs a b w t q)(o:x=.fresh []∨x=.work [])(hs:AtClose K b w):Next K AnchW Post c (runT K.P (crowd gs w sl) c) t gs.size (mu (sumTo gs.size q) x y dR eg):=by
 have⟨Vh,Vd,O,g',H,M,G⟩:=hs;have⟨st,sm,n,hw⟩:=h.pair;have I:x.shut=false:=by rcases o with rfl|rfl<;>rfl
 have V:x.rel=false:=by rcases o with rfl|rfl<;>rfl
 have XA:x.deaf=0:=by rcases o with rfl|rfl<;>rfl
 have Z:=h.xr;rw[I] at Z;have hgo:=M Z;have m:∀k,k≠K.E→(w.setChan K.E 0 #[] true 0 0 false).heap[k]?=w.heap[k]?:=fun k D=>heap_setChan_ne w _ _ _ _ _ _ (Ne.symm D);have hA:∃s,(w.setChan K.E 0 #[] true 0 0 false).heap[K.A]?=some (.chan 0 #[] false s s false):=by have⟨s,hs⟩:=h.uF;exact⟨s,(m _ F.AE).trans hs⟩
 have W:RM K w (w.setChan K.E 0 #[] true 0 0 false):=⟨rfl,rfl,rfl,fun k _ _ D=>m k (fun e=>D (.inr (.inl e))),by simp[World.setChan]⟩;have u:K.pL (w.setChan K.E 0 #[] true 0 0 false) st sm:=(m _ (Ne.symm F.EW)).trans hw;have N:st=KK∧sm=0:=by rcases o with rfl|rfl<;>cases y using Ma.bR<;>first|exact n.elim|exact n.2
 obtain⟨rfl,rfl⟩:=N;have f:∃v,xG K L AnchW Post (.walk []) v (Conc.woken K.P b g' (w.setChan K.E 0 #[] true 0 0 false) a) (w.setChan K.E 0 #[] true 0 0 false):=by
  have B:(∃τ,bD K.P true (RM K) (DM K) (iN K AnchW []) τ a w)∨(∃p d,a=parked d K.cases .select∧nz K AnchW [] p d w):=by
   have f:=h.ma;rcases o with rfl|rfl
   ·cases y using Ma.bR with
    | front vs=>obtain rfl:vs=[]:=n.1;exact .inl ⟨_,f⟩
    | eJ vs=>obtain rfl:vs=[]:=n.1;exact .inr f
    | _=>exact n.elim
   ·cases y using Ma.bR with
    | walk vs=>obtain rfl:vs=[]:=n.1;exact .inl ⟨_,f⟩
    | eJ vs=>obtain rfl:vs=[]:=n.1;exact .inr f
    | _=>exact n.elim
  rcases B with ⟨τ,Vo⟩|⟨p,d,rfl,Tn⟩
  ·rw[woken_run (bD.running RM.refl (fun _ _=>iN.run) Vo)];exact⟨τ,bD.rely (R:=RM K) (fun _ _ _=>RM.trans) Vo W⟩
  ·have e1:Conc.woken K.P b g' (w.setChan K.E 0 #[] true 0 0 false) (parked d K.cases .select)={ parked d K.cases .select with status:=.running }:=by unfold Conc.woken;rw[ip (by simp[O,H])];exact again_some_closed (k:=1) (c:=K.E) (z:=K.zE) rfl (heap_setChan_self w Z _ _ _ _ _ _)
   rw[e1];exact⟨.leaf,.leaf fun aE Y=>(Tn.rely (W.trans Y)).tries⟩
 have⟨v,f⟩:=f;have U:RC K w (w.setChan K.E 0 #[] true 0 0 false):=fun k D=>m k (by rintro rfl;exact D.elim (F.kE w) F.sE);have⟨fs,Xw⟩:=G _ U ⟨_,_,u⟩;have eC:=U K.C (.inl (F.kC w));have l:y.early=true:=by rcases o with rfl|rfl<;>cases y using Ma.bR<;>first|exact n.elim|rfl
 have T:∀b,K.dP w b↔K.dP (w.setChan K.E 0 #[] true 0 0 false) b:=sL m F.E0;have X:(w.setChan K.E 0 #[] true 0 0 false).heap.size=w.heap.size:=by simp[World.setChan]
 have r:∀e∈closeEvents K.E,∀z,(MemAct.ofEvent e).touch?=some z→N3 K.Shun (K.MZ (w.setChan K.E 0 #[] true 0 0 false)) K.fq z:=fun e he z Q=>by
  simp only[closeEvents,List.mem_toArray,List.mem_cons,List.not_mem_nil,or_false] at he;rcases he with rfl|rfl
  ·simp only[MemAct.ofEvent,MemAct.touch?,Option.some.injEq] at Q;subst Q;exact .inl (.inr (.inl rfl))
  ·simp[MemAct.ofEvent,MemAct.touch?] at Q
 refine Next.child (J.jj (x':=.r0) (S':=K.dP (w.setChan K.E 0 #[] true 0 0 false)) h hgo f (by rcases o with rfl|rfl<;>cases y using Ma.bR<;>first|exact n.elim|rfl) (by rw[l];rfl) Xw ⟨_,_,⟨rfl,rfl,rfl⟩,u⟩ hA (heap_setChan_self w Z _ _ _ _ _ _) ?_ (fun hr=>by cases hr)
  (fun _ _=>Iff.rfl) (fun _ j=>.inl j) ⟨_,fun _ j=>j⟩ (Nat.le_of_eq X.symm) (fun z=>by rw[l] at z;cases z) (fun _ e he z Q=>wT F (by rw[X];exact h.size l) (fun _ j=>j) (r e he z Q)) ?_ ?_) fun _=>rM (by rcases o with rfl|rfl<;>rfl) (by rcases o with rfl|rfl<;>simp[Ch.fY])
 ·have⟨cs,B8,hn⟩:=h.pay;exact⟨cs,eC.trans B8,hn⟩
 ·have:=h.tr;rw[V] at this;exact ow.FP F ⟨_,fun _ j=>j⟩ (this.grow (fun b j=>(T b).1 ((h.mS l b).1 j)) (fun i z Q D=>.inl (Cfg.iI.mono (fun b j=>(h.mS l b).2 ((T b).2 j)) D))) r
 ·rw[XA];rfl
def jr(OZ:∀g w,AnchW g w→g.status=.running)(h:J K L AnchW Post S c x y dR eg gs a b w t q)(U:x.shut=true)(hp:jZ x y st sm)(hr:ot K y w w')(hA:∃s,w'.heap[K.A]?=some (.chan 0 #[] false s s false)) :
  ∃y' fZ,xG K L AnchW Post y' fZ (Conc.woken K.P b b' w' a) w'∧(y'=y∨(y=.blk∧y'=.w3)) :=
 (h.ma.rely hr).woken OZ hA (fun ⟨vs,e⟩=>by subst e;rw[rk hp] at U;cases U)
def Gd(F:K.Fit)(r:∀g w,AnchW g w→g.status=.running)(h:J K L AnchW Post S c .r0 y dR eg gs a b w t q)(x:stepG K.P false b w=.go b' w' es)(Q:DJ K S w w' es)(u:zV K S .r0 fs b' w')(D:Sub fs dR) :
  Next K AnchW Post c (runT K.P (crowd gs w sl) c) t gs.size (mu (sumTo gs.size q) .r0 y dR eg):=by
 have⟨d,v⟩:=Q;have⟨M,I,f,H⟩:=h.pair;have i:∀k,k≠K.C→w'.heap[k]?=w.heap[k]?:=d.block;have G:∃s,w'.heap[K.A]?=some (.chan 0 #[] false s s false):=by have⟨s,D⟩:=h.uF;exact⟨s,(i K.A (fun e=>F.TB (by rw[e];exact F.I6))).trans D⟩
 have p:K.pL w' M I:=(i _ (Ne.symm F.CW)).trans H;have o:ot K y w w':=by
  refine py F d.tape d.os d.output (fun k h1 _=>i k h1) d.size H p ?_;cases y using Ma.bR with
  | walk vs=>exact .inr (.inr (.inl ⟨vs,rfl⟩))
  | over=>exact i3 rfl
  | kd=>exact .inl ⟨f.1,f.2,.inl f,.inl rfl⟩
  | w1=>exact .inl ⟨f.1,f.2,.inl f,.inr (.inl rfl)⟩
  | w2=>exact .inl ⟨f.1,f.2,.inl f,.inr (.inr rfl)⟩
  | w3=>exact .inr (.inl ⟨f.2,.inl rfl,.inl ⟨f.2,.inl f.1⟩⟩)
  | blk=>exact .inr (.inl ⟨f.2,.inr rfl,.inl ⟨f.2,.inl f.1⟩⟩)
  | _=>exact f.elim
 have⟨V,N,B,m⟩:=jr (b':=b') r h rfl f o G;have j:∀e∈es,_:=fun e l=>MB F (v e l);have n:∀b,K.dP w b↔K.dP w' b:=sL i (F.c0 _ F.I6);refine Next.child (J.jj (S':=S) h x B (jb m) (ij m) u ⟨M,I,fj m f,p⟩ G ((i K.E (fun e=>F.Vr (by rw[e];exact F.I6))).trans h.xr) (d.pay h.pay) (fun R=>by cases R)
  (fun z b=>(h.mS z b).trans (n b)) h.qm h.of (Nat.le_of_eq d.size.symm) (fun z=>(h.rB z).2) (fun z e l U T=>wT F (by rw[d.size];exact h.size z) (fun b O=>(n b).1 ((h.mS z b).1 O)) ((j e l).1 U T)) ?_ ?_) fun _=>kR rfl rfl D
 ·exact ow.FP F h.of h.tr fun e l=>(j e l).1
 ·exact deafBehind_still (fun e l=>⟨(j e l).2.1,(j e l).2.2⟩) _
def sj(F:K.Fit)(j:Go.ConcX.Payload.ety=Go.ConcR.Payload.ety)(n:∀g w,AnchW g w→g.status=.running)(h:J K L AnchW Post S c .r0 y dR eg gs a b w t q)(M:xz K b w):Next K AnchW Post c (runT K.P (crowd gs w sl) c) t gs.size (mu (sumTo gs.size q) .r0 y dR eg):=by
 have⟨_,U,G,B,m,H⟩:=M;have⟨R,Q,p,N⟩:=h.pair;have⟨W,x,o,f⟩:=jr (b':=G) n h rfl p (w':=w) (ot.at y w w.drawn) h.uF;have⟨T,r⟩:=cB H;have d:xE K w:=by
  intro _;have⟨E,i,I⟩:=h.pay;have h1:w.cell? ⟨K.C,0,none⟩=some K.val:=U;rw[j];rw[i];simp only[World.cell?,i,Option.isSome_none,Bool.false_eq_true,if_false] at h1;have⟨l⟩:=E;match l,I with
  | [v],_ =>simp only[List.getElem?_toArray,List.getElem?_cons_zero,Option.some.injEq] at h1;rw[h1]
 have A:Deaf t c=0:=h.dc;refine Next.child (J.jj (x':=.k1) (S':=S) (fs:=T) h B o (jb f) (ij f) r ⟨R,Q,fj f (by cases y using Ma.bR<;>first|exact p|exact p.elim),N⟩ h.uF h.xr h.pay (fun _=>d) h.mS h.qm h.of lr (fun z=>(h.rB z).2) (fun _ e u z O=>by rw[Array.mem_singleton] at u;subst u;cases O) ?_ rfl) fun _=>rM rfl (by simp[Ch.fY]);have s:MemOp.ofEvents c b.frame.fn b.frame.place #[Go.ConcR.mk (.releaseMerge (Go.ConcR.stA K.Wg))]=#[{ g:=c,fn:=b.frame.fn,pos:=b.frame.place,act:=.mark (.releaseMerge K.xx) }]:=by simp[MemOp.ofEvents,MemAct.ofEvent,Go.ConcR.mk,Go.ConcR.stA,Cfg.xx]
 have D:=Go.ConcN.RelBy.new (a:=K.xx) A b.frame.fn b.frame.place;refine⟨t.size,?_,D,fun k V e=>?_⟩
 ·rw[s];exact PT.release h.tr rfl rfl
 ·have:=lt_of_act? e;rw[s] at this;simp at this;omega
def jk(F:K.Fit)(f:∀g w,AnchW g w→g.status=.running)(h:J K L AnchW Post S c x y dR eg gs a b w t q)(r:x.shut=true)(l:stepG K.P false b w=.go b' w' es)(m:zX w w' es)(U:zV K S x fs b' w')(o:Sub fs dR) :
  Next K AnchW Post c (runT K.P (crowd gs w sl) c) t gs.size (mu (sumTo gs.size q) x y dR eg):=by obtain⟨rfl,rfl⟩:=m;have⟨u,s,j,p⟩:=h.pair;have⟨v,k,i,d⟩:=jr (b':=b') f h r j (ot.at y w' w'.drawn) h.uF;refine Next.child (J.jj (S':=S) h l i (jb d) (ij d) U ⟨u,s,fj d j,p⟩ h.uF h.xr h.pay h.full h.mS h.qm h.of lr (fun z=>(h.rB z).2) (fun _ e n=>by simp at n) ?_ rfl) fun _=>kR rfl rfl o;rw[ofEvents_none,Array.append_empty];exact h.tr
def ow.Dt(F:K.Fit)(q:∃w,∀b,S b→K.dP w b)(h:ow K S c true t)(s:Deaf t c=1)(U:∀e∈es,(∃a d,e=⟨.cell a,d,true⟩∧a.block=K.Wg)∨e.loc=.mark .disable∨e.loc=.mark .enable)
 (o:∀j e,es[j]?=some e→(MemAct.ofEvent e).touch?=none∨((∃a d,e=⟨.cell a,d,true⟩)∧0<deafBehind 1 (es.extract 0 j))):ow K S c true (t++MemOp.ofEvents c fn pos es):=by
 have⟨r,x,n,p⟩:=h;refine⟨r,PT.Dt x n.g ic (fun y l z f=>?_),n.appOwn fn pos es (by rw[s];exact o),fun k u e=>?_⟩
 ·obtain⟨e,i,rfl⟩:=Conc.mem_ofEvents l;rcases U e i with ⟨a,d,rfl,hb⟩|h1|h1
  ·have e1:MemAct.ofEvent ⟨.cell a,d,true⟩=.access ⟨.cell a,d,true⟩:=rfl;rw[e1] at f;simp only[MemAct.touch?,Option.some.injEq] at f;subst f;exact⟨F.LR a hb,rfl⟩
  iterate 2
   ·have⟨A,d,B⟩:=e;simp only at h1;subst h1;cases f
 ·have⟨y,v,m⟩:=Option.map_eq_some_iff.1 e;rcases getElem?_append_cases v with ⟨_,LB⟩|⟨_,JN⟩
  ·exact p k u (by rw[act?_of LB,m])
  ·obtain⟨e,i,rfl⟩:=Conc.mem_ofEvents JN;exact(vj F q U).2 e i m
def gA(F:K.Fit)(n:∀g w,AnchW g w→g.status=.running)(h:J K L AnchW Post S c x y dR eg gs a b w t q)(H:x.shut=true)(ah:x.rel=true)(ag:x'.shut=true)(N:x'.rel=true)(hp:jZ x y st sm)(hw:K.pL w st sm)(V:stepG K.P false b w=.go b' w' es)
 (U:Aside K.Wg w w')(af:K.pL w' Iw KR)(M:ot K y w w')(O:zV K S x' fs b' w')(X:∀f,(f=y∨(y=.blk∧f=.w3))→(f=.blk→y=.blk∧(mayWake K.P b=true→b'.status=.blocked∨b'.status=.waiting))→jZ x' f Iw KR)
 (l:x'.left=x.left)(Y:x'.fY<x.fY)(T:∀e∈es,∀z,(MemAct.ofEvent e).touch?=some z→(∃m:Addr,z.loc=.cell m∧m.block=K.Wg))
 (ae:ow K S c true (t++MemOp.ofEvents c b.frame.fn b.frame.place es))(R:deafBehind x.deaf es=x'.deaf):Next K AnchW Post c (runT K.P (crowd gs w sl) c) t gs.size (mu (sumTo gs.size q) x y dR eg):=by
 have G:∃s,w'.heap[K.A]?=some (.chan 0 #[] false s s false):=by have⟨s,hs⟩:=h.uF;exact⟨s,(U.block _ F.AW).trans hs⟩
 have⟨f,I,u,k⟩:=jr (b':=b') n h H hp M G;have v:=U.block K.C F.CW;have hE:w'.heap[K.E]?=some (.chan 0 #[] x'.shut 0 0 false):=by rw[ag,← H];exact(U.block _ F.EW).trans h.xr
 have W:∀b,K.dP w b↔K.dP w' b:=sL U.block F.W0;refine Next.child (J.jj (x':=x') (S':=S) h V u (jb k) (ij k) O ⟨Iw,KR,X f k ?_,af⟩ G hE ?_ (fun _=>Go.ConcX.ChanAt.of_block (h.full ah) v)
  (fun z b=>(h.mS z b).trans (W b)) h.qm h.of (Nat.le_of_eq U.size.symm) (fun z=>(h.rB z).2) (fun z e he z' hz=>by have⟨m,l,j⟩:=T e he z' hz;refine⟨fun Z i=>?_,fun b i=>?_⟩;(rw[l] at i;cases i;rw[j,U.size];exact lL F.W0 (h.size z));(rw[l] at i;cases i)) (by rw[N];exact ae) R) fun _=>rM l Y
 ·rintro rfl;have r:y=.blk:=k.elim (fun e=>e.symm) (fun e=>e.1);subst r;refine⟨rfl,fun o=>?_⟩;have⟨B,e,Z6,Z4,_⟩:=u;obtain⟨D,rfl,d,p,_⟩:=h.ma;by_cases j:b'.status=.blocked∨b'.status=.waiting
  ·exact j
  ·exfalso;unfold Conc.woken at e;rw[ip (by simp[o];exact⟨fun z=>j (.inl z),fun z=>j (.inr z)⟩),Go.ConcX.again_blocked d p] at e;rw[e] at d;cases d
 ·have⟨cs,Q,hn⟩:=h.pay;exact⟨cs,v.trans Q,hn⟩
def jh(w:World)(a:Addr)(v:Value):Aside a.block w (w.setCell a v):=⟨rfl,rfl,rfl,by simp[World.setCell],fun k U=>Go.RowKit.Below.heap_setCell _ _ _ _ U⟩
def Gc(F:K.Fit)(f:∀g w,AnchW g w→g.status=.running)(h:J K L AnchW Post S c .k1 y dR eg gs a b w t q)(p:Li K b w):Next K AnchW Post c (runT K.P (crowd gs w sl) c) t gs.size (mu (sumTo gs.size q) .k1 y dR eg):=by have⟨_,v,n,m,o⟩:=p;have⟨A,x,i,l⟩:=h.pair;have⟨u,k⟩:=cB o;refine gA (x':=.d1) (fs:=u) F f h rfl rfl rfl rfl i l n (Aside.refl _ _) l (ot.at y w w.drawn) k (fun B j _=>fj j (by cases y using Ma.bR<;>first|exact i|exact i.elim)) rfl (by simp[Ch.fY]) (fun e U z r=>by rw[Array.mem_singleton] at U;subst U;cases r) ?_ rfl;exact h.tr.mute (fun s d=>by obtain⟨e,U,rfl⟩:=Conc.mem_ofEvents d;rw[Array.mem_singleton] at U;subst U;rfl) (fun s d=>by obtain⟨e,U,rfl⟩:=Conc.mem_ofEvents d;rw[Array.mem_singleton] at U;subst U;exact fun z=>by cases z)
def Bz:∀e∈(#[Go.ConcR.rd (Go.ConcR.stA K.Wg),Go.ConcR.wr (Go.ConcR.stA K.Wg)]:Array Event),(∃a b,e=⟨.cell a,b,true⟩∧a.block=K.Wg)∨e.loc=.mark .disable∨e.loc=.mark .enable:=by intro e U;simp only[List.mem_toArray,List.mem_cons,List.not_mem_nil,or_false] at U;rcases U with rfl|rfl<;>exact .inl ⟨_,_,rfl,rfl⟩
def F8(F:K.Fit)(x:∀g w,AnchW g w→g.status=.running)(h:J K L AnchW Post S c .d1 y dR eg gs a b w t q)(Q:Lf K b w):Next K AnchW Post c (runT K.P (crowd gs w sl) c) t gs.size (mu (sumTo gs.size q) .d1 y dR eg):=by
 have⟨_,l⟩:=Q;have⟨I,H,f,p⟩:=h.pair;have r:(I=KK∧H=0∧((y=.kd∨y=.w1∨y=.w2)∨(y=.walk []∨y=.over)))∨(I=KK+1∧H=0∧(y=.w3∨y=.blk)):=by
  cases y using Ma.bR with
  | walk vs=>obtain⟨rfl,h1,h2⟩:=f;exact .inl ⟨h1,h2,.inr (.inl rfl)⟩
  | over=>exact .inl ⟨f.1,f.2,.inr (.inr rfl)⟩
  | kd=>exact .inl ⟨f.1,f.2,.inl (.inl rfl)⟩
  | w1=>exact .inl ⟨f.1,f.2,.inl (.inr (.inl rfl))⟩
  | w2=>exact .inl ⟨f.1,f.2,.inl (.inr (.inr rfl))⟩
  | w3=>exact .inr ⟨f.1,f.2,.inl rfl⟩
  | blk=>exact .inr ⟨f.1,f.2,.inr rfl⟩
  | _=>exact f.elim
 have A:ow K S c true (t++MemOp.ofEvents c b.frame.fn b.frame.place #[Go.ConcR.rd (Go.ConcR.stA K.Wg),Go.ConcR.wr (Go.ConcR.stA K.Wg)]):=by
  refine ow.Dt F h.of h.tr h.dc Bz (fun j e z=>.inr ?_);rcases j with _|_|j
  ·simp at z;subst z;exact⟨⟨_,_,rfl⟩,by simp[deafBehind]⟩
  ·simp at z;subst z;exact⟨⟨_,_,rfl⟩,by simp[deafBehind,Go.ConcR.rd]⟩
  ·simp at z
 have M:∀v:Value,(w.setCell (Go.ConcR.stA K.Wg) v).heap[K.C]?=w.heap[K.C]?:=fun v=>(jh w (Go.ConcR.stA K.Wg) v).block _ F.CW;rcases r with ⟨rfl,rfl,hy⟩|⟨rfl,rfl,hy⟩
 ·have⟨B,s,_,E⟩:=l 0 0 oq oq (by rw[show(((0:Nat):Int)+1)*Go.ConcR.KK+((0:Nat):Int)=KK by decide];exact p);have⟨n,E⟩:=E iq;have o:K.pL (w.setCell (Go.ConcR.stA K.Wg) (.int .u64 0)) 0 0:=Go.ConcX.WgAt.setSt (show Go.ConcX.WgAt K.ty K.Wg w KK 0 from p) 0;have i:stepG K.P false b w=.go B (w.setCell (Go.ConcR.stA K.Wg) (.int .u64 0)) #[Go.ConcR.rd (Go.ConcR.stA K.Wg),Go.ConcR.wr (Go.ConcR.stA K.Wg)]:=by rw[s];simp
  have d:=jh w (Go.ConcR.stA K.Wg) (.int .u64 0);refine gA (x':=.quit n 1) (fs:=.ofNat n) F x h rfl rfl rfl rfl f p i d o ?_ ⟨E,rfl⟩ (fun R u _=>fj u ?_) rfl (by simp[Ch.fY]) (zJ Bz) A rfl
  ·refine py F rfl rfl rfl (fun k _ h2=>d.block k h2) d.size p o ?_;rcases hy with hy|rfl|rfl
   ·exact .inl ⟨rfl,rfl,.inr ⟨rfl,rfl,Go.ConcX.ChanAt.of_block (h.full rfl) (M _)⟩,hy⟩
   ·exact .inr (.inr (.inl ⟨_,rfl⟩))
   ·exact i3 rfl
  ·rcases hy with (rfl|rfl|rfl)|rfl|rfl<;>first|exact⟨rfl,rfl⟩|exact⟨rfl,rfl,rfl⟩
 ·have⟨B,s,O,_⟩:=l 0 1 oq oq (by rw[show(((0:Nat):Int)+1)*Go.ConcR.KK+((1:Nat):Int)=KK+1 by decide];exact p);have⟨m,N⟩:=O ⟨rfl,rfl⟩;have o:K.pL (w.setCell (Go.ConcR.stA K.Wg) (.int .u64 1)) 1 0:=Go.ConcX.WgAt.setSt (show Go.ConcX.WgAt K.ty K.Wg w (KK+1) 0 from p) 1;have i:stepG K.P false b w=.go B (w.setCell (Go.ConcR.stA K.Wg) (.int .u64 1)) #[Go.ConcR.rd (Go.ConcR.stA K.Wg),Go.ConcR.wr (Go.ConcR.stA K.Wg)]:=by rw[s];simp
  have d:=jh w (Go.ConcR.stA K.Wg) (.int .u64 1);have D:Goes K.P false (Fa K) zX (Fs K) m B (w.setCell (Go.ConcR.stA K.Wg) (.int .u64 1)):=by simpa using N
  have⟨T,G⟩:=cB D;refine gA (x':=.d2) (fs:=T) F x h rfl rfl rfl rfl f p i d o ?_ G (fun R u _=>fj u ?_) rfl (by simp[Ch.fY]) (zJ Bz) A rfl
  ·exact py F rfl rfl rfl (fun k _ h2=>d.block k h2) d.size p o (.inr (.inl ⟨rfl,hy,.inl ⟨rfl,.inr (.inl rfl)⟩⟩))
  ·rcases hy with rfl|rfl<;>exact⟨rfl,rfl⟩
def Hf{wr:Bool}{j:Nat}(U:(#[(⟨.cell (Go.ConcR.stA K.Wg),wr,true⟩:Event)])[j]?=some e) :
  (MemAct.ofEvent e).touch?=none∨((∃a wr,e=⟨.cell a,wr,true⟩)∧0<deafBehind 1 ((#[(⟨.cell (Go.ConcR.stA K.Wg),wr,true⟩:Event)]).extract 0 j)):=by
 rcases j with _|j
 ·simp at U;subst U;exact .inr ⟨⟨_,_,rfl⟩,by simp[deafBehind]⟩
 ·simp at U
def F9(F:K.Fit)(f:∀g w,AnchW g w→g.status=.running)(h:J K L AnchW Post S c .d2 y dR eg gs a b w t q)(r:Fs K b w):Next K AnchW Post c (runT K.P (crowd gs w sl) c) t gs.size (mu (sumTo gs.size q) .d2 y dR eg):=by
 have⟨_,o⟩:=r;have⟨v,u,d,k⟩:=h.pair;have s:v=1∧u=0:=by cases y using Ma.bR<;>first|exact d|exact d.elim
 obtain⟨rfl,rfl⟩:=s;have⟨z,i,m,p⟩:=o k;have⟨x,n⟩:=cB p;refine gA (x':=.d3) (fs:=x) F f h rfl rfl rfl rfl d k i (Aside.refl _ _) k (ot.at y w w.drawn) n (fun A l _=>fj l (by cases y using Ma.bR<;>first|exact d|exact d.elim)) rfl (by simp[Ch.fY]) (zJ fun e U=>by rw[Array.mem_singleton] at U;subst U;exact .inl ⟨_,_,rfl,rfl⟩) ?_ rfl;exact ow.Dt F h.of h.tr h.dc (fun e U=>by rw[Array.mem_singleton] at U;subst U;exact .inl ⟨_,_,rfl,rfl⟩) (fun j e U=>Hf (K:=K) U)
def Ga(F:K.Fit)(o:∀g w,AnchW g w→g.status=.running)(h:J K L AnchW Post S c .d3 y dR eg gs a b w t q)(x:Lg K b w):Next K AnchW Post c (runT K.P (crowd gs w sl) c) t gs.size (mu (sumTo gs.size q) .d3 y dR eg):=by
 have⟨_,u⟩:=x;have⟨A,z,f,l⟩:=h.pair;have n:A=1∧z=0∧(y=.w3∨y=.blk):=by
  cases y using Ma.bR with
  | w3=>exact⟨f.1,f.2,.inl rfl⟩
  | blk=>exact⟨f.1,f.2,.inr rfl⟩
  | _=>exact f.elim
 obtain⟨rfl,rfl,n⟩:=n;have⟨C,p,m,v⟩:=u l;have⟨B,s⟩:=cB v;have i:K.pL (w.setCell (Go.ConcR.stA K.Wg) (.int .u64 0)) 0 0:=Go.ConcX.WgAt.setSt (show Go.ConcX.WgAt K.ty K.Wg w 1 0 from l) 0;have d:=jh w (Go.ConcR.stA K.Wg) (.int .u64 0);refine gA (x':=.d4) (fs:=B) F o h rfl rfl rfl rfl f l p d i ?_ s (fun D r _=>fj r (by rcases n with rfl|rfl<;>exact⟨rfl,rfl⟩)) rfl (by simp[Ch.fY]) (zJ fun e U=>by rw[Array.mem_singleton] at U;subst U;exact .inl ⟨_,_,rfl,rfl⟩) ?_ rfl
 ·exact py F rfl rfl rfl (fun k _ h2=>d.block k h2) d.size l i (.inr (.inl ⟨rfl,n,.inl ⟨rfl,.inr (.inr rfl)⟩⟩))
 ·exact ow.Dt F h.of h.tr h.dc (fun e U=>by rw[Array.mem_singleton] at U;subst U;exact .inl ⟨_,_,rfl,rfl⟩) (fun j e U=>Hf (K:=K) U)
def Gb(F:K.Fit)(o:∀g w,AnchW g w→g.status=.running)(h:J K L AnchW Post S c .d4 y dR eg gs a b w t q)(B:Lh K b w):Next K AnchW Post c (runT K.P (crowd gs w sl) c) t gs.size (mu (sumTo gs.size q) .d4 y dR eg):=by
 have⟨_,u,s⟩:=B;have⟨E,D,f,l⟩:=h.pair;have m:E=0∧D=0∧(y=.w3∨y=.blk):=by
  cases y using Ma.bR with
  | w3=>exact⟨f.1,f.2,.inl rfl⟩
  | blk=>exact⟨f.1,f.2,.inr rfl⟩
  | _=>exact f.elim
 obtain⟨rfl,rfl,m⟩:=m;have⟨H,p,n,r⟩:=s l;have i:K.pL (w.setCell (Go.ConcR.smA K.Wg) (.int .u32 1)) 0 1:=Go.ConcX.WgAt.setSm (show Go.ConcX.WgAt K.ty K.Wg w 0 0 from l) 1;have d:=jh w (Go.ConcR.smA K.Wg) (.int .u32 1);have x:(w.setCell (Go.ConcR.smA K.Wg) (.int .u32 1)).heap[K.C]?=w.heap[K.C]?:=d.block _ F.CW;refine gA (x':=.quit n 1) (fs:=.ofNat n) F o h rfl rfl rfl rfl f l p d i ?_ ⟨r,rfl⟩ (fun G v A=>?_) rfl (by simp[Ch.fY]) (zJ Bh) ?_ rfl
 ·exact py F rfl rfl rfl (fun k _ h2=>d.block k h2) d.size l i (.inr (.inl ⟨rfl,m,.inr ⟨rfl,rfl,Go.ConcX.ChanAt.of_block (h.full rfl) x⟩⟩))
 ·have:G=.w3:=by
   rcases v with rfl|⟨_,rfl⟩
   ·rcases m with rfl|rfl
    ·rfl
    ·have:=(A rfl).2 u;rcases r.status with e|e<;>rw[e] at this<;>rcases this with z|z<;>cases z
   ·rfl
  subst this;exact⟨rfl,rfl⟩
 ·refine ow.Dt F h.of h.tr h.dc Bh (fun j e U=>?_);rcases j with _|_|_|_|j
  ·simp[semEvents] at U;subst U;exact .inl rfl
  iterate 2
   ·simp[semEvents] at U;subst U;exact .inr ⟨⟨_,_,rfl⟩,by simp[semEvents,deafBehind]⟩
  ·simp[semEvents] at U;subst U;exact .inl rfl
  ·simp[semEvents] at U
def xY(F:K.Fit)(l:∀g w,AnchW g w→g.status=.running){d:Nat}(h:J K L AnchW Post S c (.quit n d) y dR eg gs a b w t q)(U:b.status=.running):Next K AnchW Post c (runT K.P (crowd gs w sl) c) t gs.size (mu (sumTo gs.size q) (.quit n d) y dR eg):=by
 obtain⟨o,rfl⟩:=h.ch;have⟨A,x,m,u⟩:=h.pair;cases n with
 | zero=>rw[o.1] at U;cases U
 | succ k =>
  rcases o with ⟨hf,_⟩|⟨_,g',es,hm,a1,a3⟩
  ·rw[hf] at U;cases U
  have⟨B,r,s,j⟩:=jr (b':=g') l h rfl m (ot.at y w w.drawn) h.uF;refine Next.child (J.jj (x':=.quit k (deafBehind d es)) (S':=S) (fs:=.ofNat k) h (a1 w) s (jb j) (ij j) ⟨a3,rfl⟩ ⟨A,x,fj j (by cases y using Ma.bR<;>first|exact m|exact m.elim),u⟩ h.uF h.xr h.pay h.full h.mS h.qm h.of lr (fun z=>(h.rB z).2) (fun _ e i z p=>by rw[touch_mute (hm e i)] at p;cases p) ?_ rfl) fun _=>kR rfl rfl (sub_ofNat k w);exact h.tr.mute (fun v f=>by obtain⟨e,i,rfl⟩:=Conc.mem_ofEvents f;exact touch_mute (hm e i)) (fun v f=>by obtain⟨e,i,rfl⟩:=Conc.mem_ofEvents f;exact sU (hm e i))
def J.xX(F:K.Fit)(o:Go.ConcX.Payload.ety=Go.ConcR.Payload.ety)(f:∀g w,AnchW g w→g.status=.running)(h:J K L AnchW Post S c x y dR eg gs a b w t q)(m:b.status=.running):Next K AnchW Post c (runT K.P (crowd gs w sl) c) t gs.size (mu (sumTo gs.size q) x y dR eg):=by
 have j:∀k,(x=.fresh k∨x=.work k)→lj K k b w→Next K AnchW Post c (runT K.P (crowd gs w sl) c) t gs.size (mu (sumTo gs.size q) x y dR eg):=by
  intro k C i;cases k with
  | nil=>exact vW F f h C i
  | cons v k =>
   have⟨s,A,H,I,p,r,D,E,l,e,z,G,u⟩:=J.sends (sl:=sl) F h C i;refine .inr ⟨L,S,H,I,p,r,s,D,E,l,sl,q,A,e,z,G,?_⟩;rcases u with u|⟨h1,h2⟩
   ·exact .single (Ci u)
   ·exact .single (rM h1 h2)
 cases x using Ch.bR with
 | fresh k =>
  rcases bD.now (R:=RC K) h.ch (RC.refl w) with i|⟨_,g',l,es,zU,e,d,l9,hG⟩
  ·exact j k (.inl rfl) i
  ·exact qN F f h (.inl rfl) e d hG l9
 | work k =>
  rcases bD.now (R:=RC K) h.ch (RC.refl w) with i|⟨_,g',l,es,zU,e,d,l9,hG⟩
  ·exact j k (.inr rfl) i
  ·exact qN F f h (.inr rfl) e d hG l9
 | eJ v k=>obtain⟨B,rfl,_⟩:=h.ch;cases m
 | r0 =>
  rcases bD.now (R:=RJ K S) h.ch (RJ.refl w) with i|⟨_,g',l,es,zU,e,d,l9,hG⟩
  ·exact sj F o f h i
  ·exact Gd F f h e d hG l9
 | k1 =>
  rcases bD.now (R:=Fa K) h.ch (Go.ConcN.RW.refl w) with i|⟨_,g',l,es,zU,e,d,l9,hG⟩
  ·exact Gc F f h i
  ·exact jk F f h rfl e d hG l9
 | d1 =>
  rcases bD.now (R:=Fa K) h.ch (Go.ConcN.RW.refl w) with i|⟨_,g',l,es,zU,e,d,l9,hG⟩
  ·exact F8 F f h i
  ·exact jk F f h rfl e d hG l9
 | d2 =>
  rcases bD.now (R:=Fa K) h.ch (Go.ConcN.RW.refl w) with i|⟨_,g',l,es,zU,e,d,l9,hG⟩
  ·exact F9 F f h i
  ·exact jk F f h rfl e d hG l9
 | d3 =>
  rcases bD.now (R:=Fa K) h.ch (Go.ConcN.RW.refl w) with i|⟨_,g',l,es,zU,e,d,l9,hG⟩
  ·exact Ga F f h i
  ·exact jk F f h rfl e d hG l9
 | d4 =>
  rcases bD.now (R:=Fa K) h.ch (Go.ConcN.RW.refl w) with i|⟨_,g',l,es,zU,e,d,l9,hG⟩
  ·exact Gb F f h i
  ·exact jk F f h rfl e d hG l9
 | quit n d=>exact xY F f h m
variable (H:lO K)(JJ:∀L,K.N0≤L→∀g w,AnchW g w→∃m,Goes K.P true (h9 K) (jf K L) (je K L AnchW Post) m g w)
def J.Is(f:∀g w,AnchW g w→g.status=.running)(h:J K L AnchW Post S c x y dR eg gs a b w t q):a.status=.running∨b.status=.running:=by
 have⟨j,i,U,_⟩:=h.pair;rcases h.ma.status f with e|⟨vs,_,rfl,_⟩|⟨_,rfl,_⟩
 ·exact .inl e
 iterate 2
  ·rcases h.ch.status with e|⟨v,a0,_,rfl,_⟩|⟨n,d,rfl,_⟩
   ·exact .inr e
   ·exact U.elim
   ·exact U.elim
def EC(F:K.Fit)(l:Go.ConcX.Payload.ety=Go.ConcR.Payload.ety)(f:∀g w,AnchW g w→g.status=.running)(H:lO K)(s:∀L,K.N0≤L→∀g w,AnchW g w→∃m,Goes K.P true (h9 K) (jf K L) (je K L AnchW Post) m g w)(h:J K L AnchW Post S c x y dR eg gs a b w t q)(sl:Option (Nat × Nat)):Next K AnchW Post c (stepT K.P (crowd gs w sl)) t gs.size (mu (sumTo gs.size q) x y dR eg):=by
 have D:∀g∈gs,awake g:=by
  intro g n;obtain⟨i,U,rfl⟩:=Array.mem_iff_getElem.1 n;have j:gs[i]?=some gs[i]:=gF U;by_cases p:i=0
  ·subst p;rw[h.h0] at j;rw[← Option.some.inj j];rcases h.ma.status f with e|⟨_,_,_,rfl⟩|⟨_,_,rfl,_⟩
   ·exact awake_of (.inl e)
   iterate 2
    ·exact awake_of (.inr (.inl rfl))
  ·by_cases k:i=c
   ·subst k;rw[h.hc] at j;rw[← Option.some.inj j];rcases h.ch.status with e|⟨_,_,_,_,rfl⟩|⟨_,_,_,hq⟩
    ·exact awake_of (.inl e)
    ·exact awake_of (.inr (.inl rfl))
    ·exact awake_of (hq.status.elim .inl fun z=>.inr (.inr z))
   ·exact awake_of ((h.old i _ oq k j).status.elim .inl fun z=>.inr (.inr z))
 have⟨i,g,d,A,U,n,G⟩:=crowd_pick (P:=K.P) (w:=w) (sl:=sl) D ((h.Is f).elim (fun e=>⟨0,a,h.h0,e⟩) (fun e=>⟨c,b,h.hc,e⟩));have u:=h.at F d;rw[G];by_cases p:i=0
 ·subst p;obtain rfl:g=a:=by rw[h.h0] at U;exact(Option.some.inj U).symm
  exact J.AU F H f s u n
 ·by_cases k:i=c
  ·subst k;obtain rfl:g=b:=by rw[h.hc] at U;exact(Option.some.inj U).symm
   exact J.xX F l f u n
  ·have⟨r,v,N,o,B,M,e,I,C,E⟩:=J.Ee (sl:=A) F f u U p k n;exact .inr ⟨L,S,x,N,dR,o,r,B,b,_,A,M,v,e,I,C,.single (.left _ _ E)⟩
def EB(F:K.Fit)(j:Go.ConcX.Payload.ety=Go.ConcR.Payload.ety)(n:∀g w,AnchW g w→g.status=.running)(H:lO K)(l:∀L,K.N0≤L→∀g w,AnchW g w→∃m,Goes K.P true (h9 K) (jf K L) (je K L AnchW Post) m g w):∀(k:Mu) (L:Nat) (S:Nat→Prop) (x:Ch) (y:Ma) (d f:Tr) (i:Array Goroutine) (a b:Goroutine) (w:World) (t:Trace) (q:Nat→Nat) (sl:Option (Nat × Nat)),k=mu (sumTo i.size q) x y d f→J K L AnchW Post S c x y d f i a b w t q →
  ∃N M T,runNT K.P N (crowd i w sl) t=(.next M,T)∧Fin K Post i.size M T:=by
 intro k;induction k using M9.transGen.induction with
 | _ k ih =>
  rintro L S x y d f i a b w t q sl rfl h;rcases EC F j n H l h sl with ⟨M,ops,e,U⟩|⟨L',S',x',y',fs,fZ,AF,a',b',w',UG,q',ops,e,JO,hJ,q8⟩
  ·exact⟨1,M,t++ops,by simp only[runNT,e],U⟩
  ·rw[← JO] at q8;have⟨N,M,T,o,U⟩:=ih _ (by rw[JO] at q8 ⊢;exact q8) L' S' x' y' fs fZ AF a' b' w' (t++ops) q' UG rfl hJ;exact⟨N+1,M,T,by simp only[runNT,e];exact o,by rw[← JO];exact U⟩
end
end
structure Closed{ι:Type}(P:Program)(main:Bool)(R:ι→Wq)(D:World→World→Array Event→Prop)(X:ι→Gq):Prop where
 rely:∀{vs g w aE},X vs g w→R vs w aE→X vs g aE
 step:∀{vs g w},g.status=.running→(∀aE,R vs w aE→(stepG P main g aE).goes fun g' w' es=>D aE w' es∧X vs g' w')→X vs g w
def rX{ι:Type}(X:ι→Gq)(vs:ι)(b:Frame)(k:List Item)(cs:List Frame):Exit→Act→World→Prop
 | .normal,a,w=>X vs (G (b.at a k) cs) w
 | .exit id,a,w=>∃k',exitTo id k=some k'∧X vs (G (b.at a k') cs) w
 | .ret,a,w=>∀todo,X vs (G { b.at a todo with mode:=.returning } cs) w
 | _,_,_=>False
abbrev om(ι:Type):=ι→Exit→Act→World→Prop
def CV{ι:Type}(T:ι→Act→World→Prop)(Q:om ι):om ι
 | vs,.normal,a,w=>T vs a w
 | vs,e,a,w=>Q vs e a w
def mc{ι:Type}(id:Nat)(Q:om ι):om ι
 | vs,.exit PC,a,w=>if PC=id then Q vs .normal a w else Q vs (.exit PC) a w
 | vs,e,a,w=>Q vs e a w
def pW {ι:Type}(X:ι→Gq)(fn:FuncId)(c:Code)(vs:ι)(Q:om ι)(a:Act)(w:World):Prop :=
 ∀(b:Frame) (k:List Item) (cs:List Frame),b.fn=fn→b.kind≠.early→(∀gI e a' w',Q gI e a' w'→rX X gI b k cs e a' w')→X vs (G (b.at a (.code c::k)) cs) w
def kG {ι:Type}(X:ι→Gq)(fn:FuncId)(ops:Array Oper)(todo:List Nat)(vs:ι)(Q:om ι)(a:Act)(w:World):Prop :=
 ∀(b:Frame) (k:List Item) (cs:List Frame),b.fn=fn→b.kind≠.early→(∀gI e a' w',Q gI e a' w'→rX X gI b k cs e a' w')→X vs (G (b.at a (.inRegion ops todo::k)) cs) w
section
variable {ι:Type}{P:Program}{main:Bool}{R:ι→Wq}{D:World→World→Array Event→Prop}{X:ι→Gq}{fn:FuncId}{Q Q':om ι}{a:Act}{w:World}{vs:ι}
def Closed.goes(C:Closed P main R D X){g:Goroutine}(a:∀w,R vs w w)(h:Goes P main (R vs) D (X vs) n g w):X vs g w:=by
 induction n generalizing g w with
 | zero=>exact h w (a w)
 | succ n d =>
  rcases h with h|⟨hs,h⟩
  ·exact h w (a w)
  ·refine C.step hs fun U c=>?_;have b:=h U c;cases e:stepG P main g U with
   | go g' w' es=>rw[e,goes_go] at b;rw[goes_go];exact⟨b.1,d b.2⟩
   | _=>rw[e] at b;exact b.elim
def rX.push{x:Item}{b:Frame}{k:List Item}{cs:List Frame}{e:Exit}(g:x.plain=true)(U:e≠.normal)(h:rX X vs b k cs e a w):rX X vs b (x::k) cs e a w:=by
 cases e with
 | normal=>exact absurd rfl U
 | exit id=>obtain⟨d,f,c⟩:=h;exact⟨d,by cases x<;>simp_all [exitTo,Item.plain],c⟩
 | ret=>exact h
 | goto l=>exact h
 | panic ch=>exact h
 | outgrown=>exact h
def IP(h:pW X fn c vs Q a w)(hq:∀vs e a w,Q vs e a w→Q' vs e a w):pW X fn c vs Q' a w:=fun b k cs U hk hc=>h b k cs U hk fun gI e a' w' q=>hc gI e a' w' (hq gI e a' w' q)
def IQ(C:Closed P main R D X){U:World}(h:pW X fn c vs Q a w)(i:R vs w U):pW X fn c vs Q a U:=fun b k d e g f=>C.rely (h b k d e g f) i
def fg(C:Closed P main R D X)(T:∀i,Terms (R i) D)(h:Q vs .normal a w):pW X fn .skip vs Q a w:=fun b k e _ _ U=>C.step rfl fun d c=>by rw[stepG_skip];exact⟨(T vs).idle _,C.rely (U _ _ _ _ h) c⟩
def na(C:Closed P main R D X)(T:∀i,Terms (R i) D)(h:Q vs .ret a w):pW X fn .ret vs Q a w:=fun b k e _ _ U=>C.step rfl fun d c=>by rw[stepG_ret'];exact⟨(T vs).idle _,C.rely (U _ _ _ _ h _) c⟩
def zL(C:Closed P main R D X)(T:∀i,Terms (R i) D)(h:Q vs (.exit id) a w):pW X fn (.exit id) vs Q a w:=fun b k g _ _ U=>by have⟨j,d,f⟩:=U _ _ _ _ h;exact C.step rfl fun e c=>by rw[stepG_exit d];exact⟨(T vs).idle _,C.rely f c⟩
def fR(C:Closed P main R D X)(T:∀i,Terms (R i) D){x:Code}(h:pW X fn x vs (CV (fun g f n=>pW X fn y g Q f n) Q) a w):pW X fn (.seq x y) vs Q a w:=by
 intro b k d j m U;have p:X vs (G (b.at a (.code x::.code y::k)) d) w:=by
  refine h b (.code y::k) d j m fun g e f n q=>?_;cases e with
  | normal=>exact q b k d j m U
  | exit id=>exact(U _ _ _ _ q).push rfl iq
  | ret=>exact(U _ _ _ _ q).push (x:=.code y) rfl iq
  | goto l=>exact U _ _ _ _ q
  | panic ch=>exact U _ _ _ _ q
  | outgrown=>exact U _ _ _ _ q
 exact C.step rfl fun o c=>by rw[stepG_seq];exact⟨(T vs).idle _,C.rely p c⟩
def aW(C:Closed P main R D X)(T:∀i,Terms (R i) D){c:Operand}{x:Code}{t:Bool}(hc:a.eval c=.bool t)(h:pW X fn (if t then x else y) vs Q a w):pW X fn (.cond c x y) vs Q a w :=
 fun b k cs U hk hq=>C.step rfl fun aE gv=>by rw[stepG_cond hc];exact⟨(T vs).idle _,C.rely (h b k cs U hk hq) gv⟩
def iu(C:Closed P main R D X)(T:∀i,Terms (R i) D)(h:pW X fn c vs (mc id Q) a w):pW X fn (.block id c) vs Q a w:=by
 intro b k j o r f;have s:X vs (G (b.at a (.code c::.inBlock id::k)) j) w:=by
  refine h b (.inBlock id::k) j o r fun n e u v q=>?_;cases e with
  | normal=>exact C.step rfl fun g d=>by rw[stepG_inBlock];exact⟨(T n).idle _,C.rely (f _ _ _ _ q) d⟩
  | exit a0 =>
   by_cases U:a0=id
   ·simp only[mc,U,if_true] at q;exact⟨k,by simp[exitTo,U],f _ _ _ _ q⟩
   ·simp only[mc,U,if_false] at q;obtain⟨t,m,p⟩:=f _ _ _ _ q;have:(id==a0)=false:=by simp;exact fun h=>U h.symm
    exact⟨t,by simp[exitTo,this,m],p⟩
  | ret=>exact f _ _ _ _ q
  | goto l=>exact f _ _ _ _ q
  | panic ch=>exact f _ _ _ _ q
  | outgrown=>exact f _ _ _ _ q
 exact C.step rfl fun g d=>by rw[stepG_block];exact⟨(T vs).idle _,C.rely s d⟩
def zM(C:Closed P main R D X)(T:∀i,Terms (R i) D)(I:Nat→ι→Act→World→Prop)(n:Nat)(MU:I n vs a w)
 (round:∀n vs a w,I n vs a w→pW X fn c vs (CV (fun U a' w'=>∃n',n'<n∧I n' U a' w') Q) a w):pW X fn (.loop c) vs Q a w:=by
 intro b k cs hb hk hc;have key:∀n vs a w,I n vs a w→X vs (G (b.at a (.code c::.inLoop c::k)) cs) w:=by
  intro n;induction n using Nat.strongRecOn with
  | _ n ih =>
   intro vs a w hI;refine round n vs a w hI b (.inLoop c::k) cs hb hk fun U e a' w' q=>?_;cases e with
   | normal =>obtain⟨n',hn,a0⟩:=q;exact C.step rfl fun aE gv=>by rw[stepG_inLoop];exact⟨(T U).idle _,C.rely (ih n' hn U a' w' a0) gv⟩
   | exit id=>exact(hc _ _ _ _ q).push rfl iq
   | ret=>exact(hc _ _ _ _ q).push (x:=.inLoop c) rfl iq
   | goto l=>exact hc _ _ _ _ q
   | panic ch=>exact hc _ _ _ _ q
   | outgrown=>exact hc _ _ _ _ q
 exact C.step rfl fun aE gv=>by rw[stepG_loop];exact⟨(T vs).idle _,C.rely (key n vs a w MU) gv⟩
def bS(C:Closed P main R D X)(T:∀i,Terms (R i) D)(h:kG X fn ops (List.range ops.size) vs Q a w):pW X fn (.region id ops false) vs Q a w :=
 fun b k cs U hk hc=>C.step rfl fun aE gv=>by rw[stepG_region];exact⟨(T vs).idle _,C.rely (h b k cs U hk hc) gv⟩
def cJ(C:Closed P main R D X)(T:∀i,Terms (R i) D)(h:Q vs .normal a w):kG X fn ops [] vs Q a w:=fun b k e _ _ U=>C.step rfl fun d c=>by rw[stepG_region_end];exact⟨(T vs).idle _,C.rely (U _ _ _ _ h) c⟩
def ul(C:Closed P main R D X)(T:∀i,Terms (R i) D)(ho:ops[i]?=some o)(hw:Region.wanted o (yielded ops a.tmps)=false)(h:kG X fn ops rest vs Q (a.put o.dst undef) w):kG X fn ops (i::rest) vs Q a w :=
 fun b k cs U hk hc=>C.step rfl fun aE gv=>by rw[stepG_unwanted ho hw];exact⟨(T vs).idle _,C.rely (h b k cs U hk hc) gv⟩
theorem aL(C:Closed P main R D X)(p:ops[i]?=some o)(q:Region.wanted o (yielded ops a.tmps)=true)
 (h:∀U,R vs w U→∀K:Act→World→Prop,(∀f e,D U e (listed P fn a o U)∧kG X fn ops rest vs Q f e→K f e)→uponK o a K ((execOp a.eval o).run P U)):kG X fn ops (i::rest) vs Q a w:=by
 intro b k m j l n;refine C.step rfl fun U c=>goes_oper p q l ?_
 have:=h U c _ fun _ _ x=>x;revert this;cases (execOp a.eval o).run P U with
 | ok x e=>cases x<;>first|exact fun ⟨d,g⟩=>⟨j▸d,g b k m j l n⟩|exact id
 | halt _ _=>exact id
def og(C:Closed P main R D X)(f:∀w,R vs w w)(h:c.wpC P main (R vs) D fn n (fun e g i=>Q vs e g i) a w):pW X fn c vs Q a w:=by
 intro b k o p t r;refine C.goes f (n:=0+n) (h b k o (X vs) 0 p t fun e g i q=>?_)
 have:=r vs e g i q;cases e with
 | normal=>exact fun d U=>C.rely this U
 | exit id=>obtain⟨u,m,s⟩:=this;exact⟨u,m,fun d U=>C.rely s U⟩
 | ret=>exact fun j d U=>C.rely (this j) U
 | goto l=>exact this
 | panic ch=>exact this
 | outgrown=>exact this
def aO(C:Closed P main R D X)(T:∀i,Terms (R i) D){x:Code}(b:∀w,R vs w w)(h:x.wpC P main (R vs) D fn n (Exit.then (fun c d=>pW X fn y vs Q c d) (fun e c d=>Q vs e c d)) a w):pW X fn (.seq x y) vs Q a w:=by refine fR C T (og C b (n:=n) ?_);refine wpC_mono h fun e c d q=>?_;cases e<;>exact q
def iW(sI:o.op=.call { callee:=.value x,args,argTypes:=ats })(hx:a.eval x=.func (.func f) first cap)
 (hf : P.funcs[f]? = some aM)(jo : (aM.name == "runtime.NumGoroutine") = false)(hb : aM.body.isNone = false) :
  (execOp a.eval o).run P w=.ok (.enter f (first++args.map a.eval++cap)) w∧(execOp a.eval o).events P w #[]=#[]:=by
 have h1 : ¬ aM.name = "runtime.NumGoroutine" := by simpa using jo
 have h2:¬aM.body=none:=by cases hx:aM.body<;>simp_all
 constructor;iterate 2
  ·unfold execOp;simp[sI,resolve,Deferred.ofValue,hx,invoke,callFunc,hf,h1,h2]
def Es(C:Closed P main R D X)(T:∀i,Terms (R i) D)
 (ho:ops[i]?=some o)(hw:Region.wanted o (yielded ops a.tmps)=true)(sI:o.op=.call { callee:=.value x,args,argTypes:=ats })(hx:a.eval x=.func (.func f) first cap)
 (hf : P.funcs[f]? = some aM)(jo : (aM.name == "runtime.NumGoroutine") = false)(hb : aM.body = some c)
 (h:pW X f c vs (fun gI e a' w'=>(e=.normal∨e=.ret)∧a'.defers=[]∧∃v,ResultsC P aM a'.tmps v∧kG X fn ops rest gI Q (a.put o.dst v) w')
   { tmps:=(first++args.map a.eval++cap)++Array.replicate (aM.ntmps-(first++args.map a.eval++cap).size) undef,defers:=[] } w):kG X fn ops (i::rest) vs Q a w:=by
 intro b k cs pV hk hc;have N9:aM.body.isNone=false:=by rw[hb]; rfl
 have D3:∀v,(b.at a (.inRegion ops (i::rest)::k)).finish v=b.at (a.put o.dst v) (.inRegion ops rest::k):=fun v=>by rw[Frame.finish_at,ho]; rfl
 have sF:∀(gI:ι) (a':Act) (w':World) (todo:List Item),(a'.defers=[]∧∃v,ResultsC P aM a'.tmps v∧kG X fn ops rest gI Q (a.put o.dst v) w') →
   X gI (G { (base f).at a' todo with mode:=.returning } (b.at a (.inRegion ops (i::rest)::k)::cs)) w':=by rintro gI a' w' todo ⟨hd,v,hr,hp⟩;refine C.step rfl fun aE gv=>?_;rw[stepG_leave (b:=base f) rfl hd hf (hr aE).1 (hr aE).2,D3];exact⟨(T gI).idle _,C.rely (hp b k cs pV hk hc) gv⟩
 refine C.step rfl fun aE gv=>?_;obtain⟨hr,he⟩:=iW (P:=P) (w:=aE) sI hx hf jo N9;rw[stepG_enter ho hw hk hr,enter_at _ hf hb];have hl:listed P b.fn a o aE=#[]:=listed_nil he;rw[hl];refine⟨(T vs).idle _,C.rely (h (base f) [] _ rfl (by simp[base]) fun gI e a' w' q=>?_) gv⟩;obtain⟨SH,q⟩:=q;rcases SH with rfl|rfl
 ·exact C.step rfl fun mD GH=>by rw[stepG_end]; exact⟨(T gI).idle _,C.rely (sF gI a' w' [] q) GH⟩
 ·exact fun todo=>sF gI a' w' todo q
def gJ(P:Program)(X:ι→Goroutine→World→Prop)(f:FuncId)(args:Array Value)(vs:ι)(w:World)(Post:ι→Value→World→Prop):Prop :=
 ∃ aM c, P.funcs[f]? = some aM ∧ (aM.name == "runtime.NumGoroutine") = false ∧ aM.body = some c ∧
  pW X f c vs (fun gI e a' w'=>(e=.normal∨e=.ret)∧a'.defers=[]∧∃v,ResultsC P aM a'.tmps v∧Post gI v w') { tmps:=args++Array.replicate (aM.ntmps-args.size) undef,defers:=[] } w
def fh{args : Array Value}{Post : ι → Value → World → Prop}(hf : P.funcs[f]? = some aM)(jo : (aM.name == "runtime.NumGoroutine") = false)(hb : aM.body = some c)
 (h:pW X f c vs (fun gI e a' w'=>(e=.normal∨e=.ret)∧a'.defers=[]∧∃v,ResultsC P aM a'.tmps v∧Post gI v w') { tmps:=args++Array.replicate (aM.ntmps-args.size) undef,defers:=[] } w):gJ P X f args vs w Post:=⟨aM,c,hf,jo,hb,h⟩
def bW(C:Closed P main R D X)(T:∀i,Terms (R i) D){first cap args':Aq}{vD:ι}{Post:ι→Value→World→Prop}
 (t:ops[i]?=some o)(u:Region.wanted o (yielded ops a.tmps)=true)(l:o.op=.call { callee:=.value x,args,argTypes:=ats })(y:a.eval x=.func (.func f) first cap)
 (g:first++args.map a.eval++cap=args')(m:vs=vD)
 (j:gJ P X f args' vD w Post)(k:∀U v b,Post U v b→kG X fn ops rest U Q (a.put o.dst v) b):kG X fn ops (i::rest) vs Q a w:=by subst g m;have⟨d,c,r,s,p,h⟩:=j;refine Es C T t u l y r s p (IP h fun U e z b q=>?_);have⟨h1,h2,v,h3,n⟩:=q;exact⟨h1,h2,v,h3,k U v b n⟩
def y3(C:Closed P main R D X)(T:∀i,Terms (R i) D)(h:OpC P (R vs) D fn ops i (fun d e=>kG X fn ops rest vs Q d e) a w):kG X fn ops (i::rest) vs Q a w:=by
 unfold OpC at h;split at h
 ·exact h.elim
 ·rename_i o ho
  split at h
  ·rename_i U
   exact aL C ho U fun c b K f=>uponK_mono (fun d e x=>f d e x) (h c b)
  ·rename_i U
   exact ul C T ho (by simpa using U) h
def AB{listed:Array Bool}(h:Region.ready .any ops listed=[]):∀fuel t,Region.linearise.go .any ops fuel t listed []=[]
 | 0,_=>rfl
 | fuel+1,t=>by
  simp only[Region.linearise.go];change (match (Region.ready .any ops listed)[t % (Region.ready .any ops listed).length]? with
   | some i=>Region.linearise.go .any ops fuel (t / (Region.ready .any ops listed).length) (listed.setIfInBounds i true) [i]
   | none=>[].reverse)=[];rw[h];rfl
def rJ{a:Array Bool}{t:Nat}(h:(Region.ready .any ops a)[t % (Region.ready .any ops a).length]?=some i) :
  Region.linearise.go .any ops (fuel+1) t a []=i::Region.linearise.go .any ops fuel (t / (Region.ready .any ops a).length) (a.setIfInBounds i true) []:=by
 simp only[Region.linearise.go];change (match (Region.ready .any ops a)[t % (Region.ready .any ops a).length]? with
   | some i=>Region.linearise.go .any ops fuel (t / (Region.ready .any ops a).length) (a.setIfInBounds i true) [i]
   | none=>[].reverse)=_;rw[h];simp only[];rw[linearise_go_acc,List.reverse_singleton,List.singleton_append]
def rE(C:Closed P main R D X)(T:∀i,Terms (R i) D){S:World→Prop}{K:Act→World→Prop}(N:LetsDraw D)(V:P.follows .mixedOrders=true)(W:ops.size=n+1)
 (s:Array Bool→Bool)(H:s (Array.replicate (n+1) false)=true)(y:∀c:Array Bool,c.size=n+1→c[n]?=some false→s c=true→∀i∈Region.ready .any ops (c.setIfInBounds n true),s (c.setIfInBounds i true)=true)
 (g:∀c:Array Bool,c.size=n+1→c[n]?=some false→s c=true→Region.ready .any ops c=if Region.ready .any ops (c.setIfInBounds n true)=[] then [n] else Region.ready .any ops (c.setIfInBounds n true))
 (h:∀U,R vs w U→AnyCH P (R vs) D fn .any ops (fun e j l=>e=.normal∧K j l) S n ((Array.replicate (n+1) false).setIfInBounds n true) a { U with drawn:=U.drawn+1 })
 (B:∀j l,K j l→kG X fn ops [n] vs Q j l):pW X fn (.region id ops true) vs Q a w:=by
 have A:∀(d t:Nat) (c:Array Bool) (a:Act) (w:World),c.size=n+1→c[n]?=some false→s c=true→AnyCH P (R vs) D fn .any ops (fun e j l=>e=.normal∧K j l) S d (c.setIfInBounds n true) a w →
   kG X fn ops (Region.linearise.go .any ops (d+1) t c []) vs Q a w:=by
  intro d;induction d with
  | zero =>
   intro t c a w q o r m;have p:Region.ready .any ops c=[n]:=by rw[g c q o r,ip m.1]
   rw[rJ (i:=n) (by rw[p];simp[Nat.mod_one]),AB m.1];exact B a w m.2.2
  | succ d Y =>
   intro t c a w q o r m;by_cases u:Region.ready .any ops (c.setIfInBounds n true)=[]
   ·have p:Region.ready .any ops c=[n]:=by rw[g c q o r,ip u]
    rw[rJ (i:=n) (by rw[p];simp[Nat.mod_one]),AB u];exact B a w (m.1 u).2
   ·have p:Region.ready .any ops c=Region.ready .any ops (c.setIfInBounds n true):=by rw[g c q o r,iw u]
    have I:0<(Region.ready .any ops c).length:=by rw[p];exact List.length_pos_iff.2 u
    obtain⟨i,G⟩:∃i,(Region.ready .any ops c)[t % (Region.ready .any ops c).length]?=some i:=⟨_,gE (Nat.mod_lt _ I)⟩;have f:i∈Region.ready .any ops (c.setIfInBounds n true):=by rw[← p];exact mG G
    have E:i≠n:=by rintro rfl;have F:=(mem_ready.1 f).1;rw[Array.getD_eq_getD_getElem?,Array.getElem?_setIfInBounds_self_of_lt oq] at F;simp at F
    rw[rJ G];refine y3 C T (OpC_mono (fun j l x=>Y _ _ j l (by simpa using q) (by rw[Array.getElem?_setIfInBounds_ne E];exact o) (y c q o r i f) ?_) (m.2 i f));rw[Array.setIfInBounds_comm _ _ E];exact x.2
 intro b k J L O M;refine C.step rfl fun U v=>?_;rw[stepG_region_draw];refine⟨N _,?_⟩;simp only[Region.schedule,V,Bool.true_or,if_true];have z:=A n (U.tape U.drawn (.order b.fn id)) (Array.replicate (n+1) false) a { U with drawn:=U.drawn+1 } iq iq H (h U v) b k J L O M;have e:Region.linearise .any ops (U.tape U.drawn (.order b.fn id))=Region.linearise.go .any ops (n+1) (U.tape U.drawn (.order b.fn id)) (Array.replicate (n+1) false) []:=by unfold Region.linearise;rw[W]
 rw[e];exact z
end
def ga:(∀{U:Type} (l:List U),l.toArray.size=l.length)∧(∀{U:Type} (a:U) (l:List U),(a::l).length=l.length+1)∧(∀{U:Type},([]:List U).length=0)∧(∀n:Nat,0+n=n)∧(∀n,List.range n=List.range.loop n [])∧(∀b,List.range.loop 0 b=b)∧(∀n b,List.range.loop (n+1) b=List.range.loop n (n::b)):=⟨fun _=>rfl,fun _ _=>rfl,rfl,Nat.zero_add,fun _=>rfl,fun _=>rfl,fun _ _=>rfl⟩
def OI:(∀{p:Prop} [Decidable p],(decide p=true)=p)∧(∀{p:Prop} [Decidable p],decide p=false↔¬p)∧(∀a b:Bool,((a&&b)=true)=(a=true∧b=true))∧(∀a b:Bool,((a||b)=true)=(a=true∨b=true))∧(∀{a b:Bool},(a&&b)=false↔a=false∨b=false)∧(∀{a b:Bool},(a||b)=false↔a=false∧b=false)∧(∀{b:Bool},(!b)=true↔b=false)∧(∀{b:Bool},(!b)=false↔b=true)∧(∀{a b:Int},¬a≤b↔b<a)∧(∀{a b:Int},¬a<b↔b≤a)∧(∀{U:Type} (a b:U),(a≠b)=¬(a=b)):=⟨decide_eq_true_eq,decide_eq_false_iff_not,Bool.and_eq_true,Bool.or_eq_true,by simp,by simp,by simp,by simp,Int.not_le,Int.not_lt,fun _ _=>rfl⟩
section
open Go.ConcN (sumTo upd sumTo_upd upd_ne upd_same)
def Ends (P:Program)(Post:Value→World→Prop)(M:Machine)(t:Trace):Prop :=
 ∃N last o w' t',runNT P (N+1) M t=(.ended o w',t')∧runN P N M=.next last∧step P last=.ended o w'∧Good P Post last o w' t'
def Ends.step{M:Machine}{ops:Array MemOp}(h:stepT P M=(.next M',ops))(U:Ends P Post M' (t++ops)):Ends P Post M t:=by
 have⟨N,a,o,d,c,h1,h2,h3,b⟩:=U;refine⟨N+1,a,o,d,c,?_,?_,h3,b⟩
 ·rw[runNT];simp only[h];exact h1
 ·rw[runN];simp only[Go.step,h];exact h2
def Ends.runs(U:Ends P Post M' t'):∀(N:Nat) (M:Machine) (t:Trace),runNT P N M t=(.next M',t')→Ends P Post M t
 | 0,M,t,h=>by simp only[runNT,Prod.mk.injEq,Stepped.next.injEq] at h;obtain⟨rfl,rfl⟩:=h;exact U
 | N+1,M,t,h=>by
  rw[runNT] at h;cases e:stepT P M with
  | mk s ops =>
   rw[e] at h;cases s with
   | next m=>exact Ends.step e (Ends.runs U N m (t++ops) h)
   | _=>simp at h
structure Fr(P:Program)(Shun:Loc→Prop)(d:Nat)(gs:Array Goroutine)(a:Goroutine)(t:Trace)(q:Nat→Nat):Prop where
 h0:gs[0]?=some a
 old:Leavers P t gs q
 clean:∀said,¬Race said t
 known:∀i x,touchAt t i=some x→x.loc.isMemory=true→Knows t 0 i∨(Shun x.loc∧x.kind=.atomic)
 over:t.HandedOver
 deaf:Deaf t 0=d
def Fr.past{a:Goroutine}(h:Fr P Shun 0 gs a t q)(B:Nat):∃U,B≤U∧Past Shun U t:=by have⟨U,h1,h2⟩:=vB t B;exact⟨U,h1,h.clean,h.known,h.over,h.deaf,h2⟩
def ou(Ok:Nat→Prop)(N:Nat)(Shun:Loc→Prop):Prop:=∀l,Shun l→∃ad:Addr,l=.cell ad∧ad.block<N∧¬Ok ad.block
def Z (P:Program)(Post:Value→World→Prop)(Ok:Nat→Prop)(N d:Nat)(g:Goroutine)(w:World):Prop :=
 ∀(e:Nat) (Shun:Loc→Prop) (gs:Array Goroutine) (q:Nat→Nat) (t:Trace) (sl:Option (Nat × Nat)),ou Ok N Shun→Fr P Shun d gs g t q→Ends P Post (crowd gs (w.at e) sl) t
def Ro (Ok:Nat→Prop)(N:Nat)(e:Event):Prop:=(∀x,(MemAct.ofEvent e).touch?=some x→∀ad:Addr,x.loc=.cell ad→Ok ad.block∨N≤ad.block)∧e.loc≠.mark .disable∧e.loc≠.mark .enable
def DL (Ok:Nat→Prop)(N:Nat)(_ _:World)(es:Array Event):Prop:=∀e∈es,Ro Ok N e
section
variable {P:Program}{Post:Value→World→Prop}{Ok N2:Nat→Prop}{N N' d d':Nat}{g g':Goroutine}{w w':World}
def Fr.awake(h:Fr P Shun d gs g t q)(U:g.status=.running):∀x∈gs,Conc.awake x:=by
 intro x b;obtain⟨i,a,rfl⟩:=Array.mem_iff_getElem.1 b;rcases Nat.eq_zero_or_pos i with rfl|hp
 ·have:gs[0]=g:=by simpa[gF a] using h.h0
  rw[this];exact awake_of (.inl U)
 ·exact awake_of ((h.old.old i _ hp (gF a)).status.elim .inl fun z=>.inr (.inr z))
theorem Fr.own{es:Array Event}(h:Fr P Shun d gs g t q)(p:∀e∈es,∀x,(MemAct.ofEvent e).touch?=some x→Shun x.loc→x.kind≠.plain)(u:deafBehind d es=d') :
  Fr P Shun d' ((gs.map (Conc.woken P g g' w')).setIfInBounds 0 g') g' (t++MemOp.ofEvents 0 g.frame.fn g.frame.place es) q:=by
 have n:0<gs.size:=(Array.getElem?_eq_some_iff.1 h.h0).1;have a:∀j∈MemOp.ofEvents 0 g.frame.fn g.frame.place es,j.g=0:=ic;refine⟨by simp[n],h.old.own n _ _ es,fun f=>noRace_append (h.clean f) a fun i x m j c b s k=>?_,fun i x m w=>?_,handedOver_app h.over fun j c=>.inl (a j c),?_⟩
 ·rcases h.known i x m k.2.1 with hk|⟨a2,U⟩
  ·exact hk
  ·obtain⟨e,v,rfl⟩:=Conc.mem_ofEvents c;have l:=p e v b s (k.1▸a2);rcases k.2.2.2 with z|z|⟨_,z,_⟩
   ·rw[U] at z;cases z
   ·exact absurd z l
   ·rw[U] at z;cases z
 ·have⟨y,o,r⟩:=touch_of m;rcases getElem?_append_cases o with ⟨_,MR⟩|⟨_,MS⟩
  ·exact(h.known i x (by rw[touchAt_of MR];exact r) w).imp (·.app _) id
  ·have:=knows_own o;rw[a y MS] at this;exact .inl this
 ·rw[Deaf_own,h.deaf];exact u
theorem Fr.slip{x:Goroutine}{sl:Option (Nat × Nat)}(h:Fr P Shun d gs g t q)(N:g.status=.running)(C:gs[i]?=some x)(A:i≠0)(u:x.status=.running) :
  ∃f p H,runT P (crowd gs w sl) i=(.next (crowd f w sl),p)∧f.size=gs.size∧Fr P Shun d f g (t++p) H∧sumTo f.size H<sumTo gs.size q:=by
 have F:i<gs.size:=(Array.getElem?_eq_some_iff.1 C).1;have s:=h.old.old i x oq C;have L:(i==0)=false:=by simp[A]
 cases a1:q i with
 | zero=>rw[a1] at s;rw[s.1] at u;cases u
 | succ k =>
  rw[a1] at s;rcases s with ⟨hf,_⟩|⟨_,x',es,hm,a4,a6⟩
  ·rw[hf] at u;cases u
  have U:∀l∈MemOp.ofEvents i x.frame.fn x.frame.place es,l.g=i:=ic;have m:∀l∈MemOp.ofEvents i x.frame.fn x.frame.place es,l.act.touch?=none:=fun l c=>by obtain⟨e,M,rfl⟩:=Conc.mem_ofEvents c;exact touch_mute (hm e M)
  refine⟨_,_,upd q i k,runT_crowd_go (P:=P) (sl:=sl) (i:=i) C (by rw[L];exact a4 w),iq,⟨?_,⟨fun j z D v=>?_,fun j D=>?_⟩,fun r=>noRace_append (h.clean r) U fun G a _ l c b n _=>(by rw[m l c] at n;cases n),fun G a K E=>?_,handedOver_app h.over fun l c=>.inr (m l c),?_⟩,?_⟩
  ·rw[Array.getElem?_setIfInBounds_ne A,Array.getElem?_map,h.h0];simp[woken_run N]
  ·by_cases e:i=j
   ·subst e;rw[Array.getElem?_setIfInBounds_self_of_lt (by simpa using F)] at v;obtain rfl:=Option.some.inj v;rw[upd_same,Deaf_own];exact a6
   ·rw[Array.getElem?_setIfInBounds_ne e,Array.getElem?_map] at v;obtain⟨Q,J,rfl⟩:=Option.map_eq_some_iff.1 v;have o:=h.old.old j Q D J;rw[woken_quitsD o,upd_ne q k (Ne.symm e),Deaf_other t e _ U];exact o
  ·have I:gs.size≤j:=by simpa using D
   rw[Deaf_other t (g':=i) oq _ U];exact h.old.above j I
  ·have⟨y,O,B⟩:=touch_of K;rcases getElem?_append_cases O with ⟨_,MR⟩|⟨_,MS⟩
   ·exact(h.known G a (by rw[touchAt_of MR];exact B) E).imp (·.app _) id
   ·rw[m y MS] at B;cases B
  ·rw[Deaf_other t A _ U];exact h.deaf
  ·have h2:sumTo gs.size (upd q i k)+(k+1)=sumTo gs.size q+k:=by have:=sumTo_upd q k id F;simpa[a1] using this
   have h3:((gs.map (Conc.woken P x x' w)).setIfInBounds i x').size=gs.size:=iq
   rw[h3];omega
def Z.pick(p:g.status=.running)
 (h:∀(e:Nat) (Shun:Loc→Prop) (a:Array Goroutine) (q:Nat→Nat) (t:Trace) (sl:Option (Nat × Nat)),ou Ok N Shun→Fr P Shun d a g t q→∃m b,runT P (crowd a (w.at e) sl) 0=(.next m,b)∧Ends P Post m (t++b)):Z P Post Ok N d g w:=by
 have r:∀(n:Nat) (e:Nat) (Shun:Loc→Prop) (a:Array Goroutine) (q:Nat→Nat) (t:Trace) (sl:Option (Nat × Nat)),sumTo a.size q=n→ou Ok N Shun→Fr P Shun d a g t q→Ends P Post (crowd a (w.at e) sl) t:=by
  intro n;induction n using Nat.strongRecOn with
  | _ n ih =>
   rintro e Shun a q t sl rfl l U;have⟨i,x,j,f,v,y,c⟩:=crowd_pick (P:=P) (w:=w.at e) (sl:=sl) (U.awake p) ⟨0,g,U.h0,p⟩;have s:(w.at e).at j=w.at j:=rfl;rw[s] at c;by_cases k:i=0
   ·subst k;have⟨m,b,h1,h2⟩:=h j Shun a q t f l U;exact Ends.step (c.trans h1) h2
   ·have⟨o,b,z,h1,_,h3,u⟩:=U.slip (w:=w.at j) (sl:=f) p v k y;exact Ends.step (c.trans h1) (ih _ u j Shun o z _ f rfl l h3)
 exact fun e Shun a q t sl l U=>r _ e Shun a q t sl rfl l U
def Z.closed:Closed P true (fun _:Unit=>AtRel) (DL Ok N) (fun _=>Z P Post Ok N d) where
 rely:=by
  rintro _ g w _ h ⟨e,rfl⟩ o a l q t sl c b
  exact h o a l q t sl c b
 step:=by
  intro _ g w r h
  refine Z.pick r fun e a l q t sl c b=>?_
  have j:=h (w.at e) ⟨e,rfl⟩
  cases eq:stepG P true g (w.at e) with
  | go g' w' es =>
   rw[eq,goes_go] at j
   have⟨k,u⟩:=j
   refine⟨_,_,runT_crowd_go (P:=P) (sl:=sl) (i:=0) b.h0 (show stepG P (0==0) g (w.at e)=_ from eq),?_⟩
   exact u w'.drawn a _ q _ sl c (b.own (fun U f x s m=>by
    have⟨n,e1,v,p⟩:=c _ m
    rcases(k U f).1 x s n e1 with z|z
    ·
     exact absurd z p
    ·
     omega) (deafBehind_still (fun U f=>⟨(k U f).2.1,(k U f).2.2⟩) _))
  | _=>rw[eq] at j;exact j.elim
def Z.done{v:Value}(l:g.status=.running)(U:∀e,stepG P true g (w.at e)=.ended (.done v) (w.at e) #[])(k:∀e,Post v (w.at e)):Z P Post Ok N 0 g w:=by intro e Shun o q t sl p b;have⟨B,_,j⟩:=b.past 0;exact beside_ends (P:=P) (Shun:=Shun) (B:=B) (D:=fun _ _ d=>d=#[]) (n:=0) (sl:=sl) (fun _ _ d h m f=>by rw[h] at f;simp at f) b.h0 b.old j (fun i a=>by obtain⟨c,rfl⟩:=a;exact⟨l,v,#[],U c,iq,k c⟩)
structure Forked(P:Program)(Post:Value→World→Prop)(Shun:Loc→Prop)(g' child:Goroutine)(w:World)(K:Cfg)(I1:Go.ConcX.Payload)(I2:Go.ConcR.Payload)(I3:Go.ConcX.Shy K.Wg K.C)(AnchW:Gq)(xI:Value→World→Prop)(vs:Vq)(N2:Nat→Prop)(N':Nat):Prop where
 prog:K.P=P
 fit:K.Fit
 ety:I1.ety=I2.ety
 VL:lO K
 ar:∀g w,AnchW g w→g.status=.running
 an:∀L,K.N0≤L→∀g w,AnchW g w→∃m,Goes K.P true (h9 K) (jf K L) (je K L AnchW xI) m g w
 VK:∀l,Shun l→K.Shun l
 Y3:ou N2 N' K.Shun
 mS:Way K.P false (RC K) (DK K) (lj K vs) child w
 main:Way K.P true (RM K) (DM K) (iN K AnchW vs) g' w
 size:K.N0≤w.heap.size
 wg:K.pL w KK 0
 uF:w.heap[K.A]?=some (.chan 0 #[] false 0 0 false)
 xr:w.heap[K.E]?=some (.chan 0 #[] false 0 0 false)
 pay:Go.ConcN.PayAt K.C 1 w
 stop:∀a w,I3.stop a w→Z P Post N2 N' 0 a w
def Z.fork{child:Goroutine}(hs:g.status=.running)(Yd:∀e,stepG P true g (w.at e)=.spawn g' child (w.at e) #[])
 (h:∀(e:Nat) (Shun:Loc→Prop),ou Ok N Shun→∃K I1 I2 I3 AnchW xI vs N2 N',Forked P Post Shun g' child (w.at e) K I1 I2 I3 AnchW xI vs N2 N'):Z P Post Ok N 0 g w:=by
 refine Z.pick hs fun e Shun gs q t sl hS hF=>?_;have⟨K,I1,I2,I3,AnchW,xI,vs,N2,N',X⟩:=h e Shun hS;obtain rfl:=X.prog;have q8:0<gs.size:=(Array.getElem?_eq_some_iff.1 hF.h0).1;have⟨B,_,hP⟩:=hF.past 0;refine⟨_,_,runT_crowd_spawn (P:=K.P) (sl:=sl) (i:=0) hF.h0 (show stepG K.P (0==0) g (w.at e)=_ from Yd e),?_⟩;have S7:((MemOp.ofEvents 0 g.frame.fn g.frame.place #[]).push { g:=0,fn:=g.frame.fn,pos:=g.frame.place,act:=.go gs.size }).push { g:=gs.size,fn:=child.frame.fn,pos:=g.frame.place,act:=.start }
   = #[{ g:=0,fn:=g.frame.fn,pos:=g.frame.place,act:=.go gs.size },{ g:=gs.size,fn:=child.frame.fn,pos:=g.frame.place,act:=.start }]:=rfl;rw[S7];have wF:∀j,∀op∈(#[{ g:=0,fn:=g.frame.fn,pos:=g.frame.place,act:=.go gs.size },{ g:=gs.size,fn:=child.frame.fn,pos:=g.frame.place,act:=.start }]:Trace),∀d,deafStep j d op=d:=by intro j op sI d;simp only[List.mem_toArray,List.mem_cons,List.not_mem_nil,or_false] at sI;rcases sI with rfl|rfl<;>rfl
 have⟨dR,Tz⟩:=X.mS;have⟨eg,TA⟩:=X.main;have hJ:J K 0 AnchW xI (K.dP (w.at e)) gs.size (.fresh vs) (.front vs) dR eg ((gs.setIfInBounds 0 g').push child) g' child (w.at e) (t++#[{ g:=0,fn:=g.frame.fn,pos:=g.frame.place,act:=.go gs.size },{ g:=gs.size,fn:=child.frame.fn,pos:=g.frame.place,act:=.start }]) q:=by
  refine⟨q8,?_,?_,fun i z hi ZV hz=>?_,fun j hj=>?_,Tz,TA,⟨KK,0,⟨rfl,rfl,rfl⟩,X.wg⟩,⟨0,X.uF⟩,X.xr,X.pay,fun z=>(by cases z),fun _ _=>Iff.rfl,fun _ hb=>.inl hb,⟨_,fun _ hb=>hb⟩,fun _=>X.size,(fun z=>by cases z),fun _ i z hz=>?_,?_,?_,?_⟩
  ·rw[Array.getElem?_push_lt (by simpa using q8)]; simp
  ·have e1:gs.size=(gs.setIfInBounds 0 g').size:=iq
   conv=>lhs; rw[e1]
   exact Array.getElem?_push_size
  ·rw[Deaf_quiet (wF i)];rw[Array.getElem?_push,iw (by simp; omega),Array.getElem?_setIfInBounds_ne oq] at hz;exact hF.old.old i z hi hz
  ·rw[Deaf_quiet (wF j)];exact hF.old.above j (by simp at hj; omega)
  ·have U5:=PT.fork (dP:=fun _=>True) (Still:=fun _=>False) hP (hF.old.above _ lr) X.VK g.frame.fn child.frame.fn g.frame.place;cases hl:z.loc with
   | cell ad =>
    rcases U5.known i z hz (by rw[hl]; rfl) with k|k
    ·exact .inr (.inr (by rw[← hl]; exact k))
    ·exact .inr (.inl (k.mS trivial))
   | obj ob =>
    rcases U5.known i z hz (by rw[hl]; rfl) with k|k
    ·exact .inr (.inr (by rw[← hl]; exact k))
    ·exact .inr (.inl (k.mS trivial))
   | _=>exact .inl ⟨fun ad e=>(by cases e),fun ad e=>(by cases e)⟩
  ·exact PT.fork hP (hF.old.above _ lr) X.VK _ _ _
  ·rw[Deaf_quiet (wF 0)]; exact hF.deaf
  ·rw[Deaf_quiet (wF gs.size)]; exact hF.old.above _ lr
 obtain⟨n,M,T,hr,WK,a2,w2,Y4,q2,B2,m2,L2,rfl,_,WM,Xa,Xd,W1,W5⟩:=EB X.fit X.ety X.ar X.VL X.an _ _ _ _ _ _ _ _ _ _ _ _ q sl rfl hJ;refine Ends.runs ?_ n _ _ hr;have⟨n3,WL,a3,w3,Y5,T3,q3,X7,_,WN,U7,Xb,Q3⟩:=walk_beside (P:=K.P) (Shun:=K.Shun) (B:=B2) (fun _ _ es hD ev he=>by
  obtain ⟨h1, h2, h3⟩:=hD.2 ev he;obtain ⟨_, _, _, hk⟩ := h1 0 ""
  have⟨k1,k2⟩:=X.VL.ok _ hk;refine⟨fun x hx Og=>?_,h2,h3,MemAct.low_mono W1 k2⟩;rcases k1 x hx with ⟨ad,e1,e2⟩|k
  ·rw[e1] at Og;exact absurd Og (X.fit.Vt ad (by rw[e2]; exact X.fit.I6))
  ·have⟨_,_,_,k⟩:=k; exact k) _ m2 WK a2 w2 Y4 T q2 lr WM Xa Xd W5
 refine Ends.runs ?_ n3 _ _ X7;exact X.stop a3 w3 U7.2 w3.drawn K.Shun WL q3 T3 Y5 X.Y3 ⟨WN,Xb,Q3.clean,Q3.known,Q3.over,Q3.hears⟩
end
end
end Go.Proofs.YtgcaionclkbehaaGreatDoor
