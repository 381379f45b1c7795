
import Derived.Test.YtgcaionclkbehaaGreatDoorPairRun
import Derived.Conc.CompanyMem
import Derived.Conc.FxBegin
set_option linter.all false
set_option maxHeartbeats 2000000
set_option maxRecDepth 100000
namespace Go.Proofs.YtgcaionclkbehaaGreatDoor
open Go.Conc
variable {e:Event}{f fn:FuncId}{pos:String}{sm Nn st Ky:Int}{b₀ fuel i id n:Nat}{x:Operand}{c y:Code}{t t':Trace}{ops:Array Oper}{rest:List Nat}{o:Oper}{aS:Func}{cap first:Array Value}{args:Array Operand}{ats:Array TypeId}{P:Program}{Post:Value->World->Prop}{M':Machine}{Shun:Loc->Prop}{gs:Array Goroutine}{q:Nat->Nat}
variable {w w':World}
section
open Go.ConcN (sumTo upd sumTo_upd upd_ne upd_same)
variable {K:Cfg}[ConcX.Payload][ConcR.Payload][ConcX.Shy K.Wg K.C]{Az:Gq}{Post:Value->World->Prop}
variable {L:Nat}{S S':Nat->Prop}{c:Nat}{x x':Ch}{y y':Ma}{dZ et fc fj:Tr}{gs yr:Array Goroutine}{a a' b b':Goroutine}{t u:Trace}{q:Nat->Nat}{sl:Option (Nat × Nat)}{es:Array Event}
def Next.child(h:∃a b,runT K.P (crowd gs w sl) c=(.next (crowd a w' sl),b)/\a.size=gs.size/\J K L Az Post S' c x' y' fc fj a a' b' w' (t++b) q)(d:∀n,K0 (mu n x' y' fc fj) (mu n x y dZ et)) :
  Next K Az Post c (runT K.P (crowd gs w sl) c) t gs.size (mu (sumTo gs.size q) x y dZ et):=by have⟨a,b,e,g,f⟩:=h;exact .inr ⟨L,S',x',y',fc,fj,a,a',b',w',sl,q,b,e,g,f,.single (d _)⟩
def iB(h:y'=y\/(y=.blk/\y'=.w3)):y'.early=y.early:=by rcases h with rfl|⟨rfl,rfl⟩<;>rfl
def PN(h:Li K w' e):(∀z,(MemAct.ofEvent e).touch?=some z->RU K.Shun (K.Qx w') K.fy z)/\e.loc≠.mark .disable/\e.loc≠.mark .enable:=by
 rcases h with ⟨ad,wr,rfl,hk⟩|⟨b,wr,rfl,hk⟩
 .refine⟨λz a=>?_,by simp,by simp⟩;rw[ofEvent_cell0] at a;simp only[MemAct.touch?,sK] at a;subst a;rcases hk with hk|⟨hk,rfl⟩
  .exact .inl (.inl ⟨ad,rfl,hk⟩)
  .exact .inr (.inl ⟨⟨ad,rfl,hk⟩,rfl⟩)
 .refine⟨λz a=>?_,by simp,by simp⟩;have c:z.loc=.obj b:=by cases wr<;>(simp[MemAct.ofEvent,MemAct.touch?] at a;rw[<-a])
  exact .inl (.inr (.inr ⟨b,c,hk⟩))
def xF(F:K.Fit)(d:K.N0<=w.heap.size)(f:∀b,S b->K.dT w b){z:Touch}(h:RU K.Shun (K.jf S) K.fy z):jT w.heap.size z.loc:=by
 refine⟨λg e=>?_,λb e=>?_⟩
 .rcases h with (⟨a,c,h⟩|c|⟨a,c,h⟩)|⟨⟨a,c,h⟩,_⟩|⟨h,_⟩
  .rw[e] at c;cases c;exact(f _ h).lt F d
  iterate 2
   .rw[e] at c;cases c
  .rw[e] at c;cases c;exact lL (F.s0 _ h) d
  .have⟨a,c,h⟩:=F.j8 _ h;rw[e] at c;cases c;exact lL h d
 .rcases h with (⟨a,c,h⟩|c|⟨a,c,h⟩)|⟨⟨a,c,h⟩,_⟩|⟨h,_⟩
  .rw[e] at c;cases c
  .rw[e] at c;cases c;exact lL F.E0 d
  .rw[e] at c;cases c;exact(f _ h).lt F d
  .rw[e] at c;cases c
  .have⟨a,c,h⟩:=F.j8 _ h;rw[e] at c;cases c
theorem PQ(F:K.Fit)(h:ConcN.EvW K.Wg (O1 K S) (WK K) 1 e):(∀z,(MemAct.ofEvent e).touch?=some z->RU K.Shun (K.jf S) K.fy z)/\e.loc≠.mark .disable/\e.loc≠.mark .enable:=by
 obtain ⟨h1, h2, h3, _⟩:=h;refine ⟨λz hz=>?_, h2, h3⟩;rcases (h1 0 "").2 z hz with ⟨⟨ad, e1, e2⟩, k1, k2⟩ | k | ⟨k1, k2⟩
 .refine .inr (.inr ⟨by rw[e1]; exact F.OO ad e2,?_⟩);cases e:z.kind<;>simp_all
 .exact .inl k
 .exact .inr (.inl ⟨k1,k2⟩)
def pj.HA(F:K.Fit)(hS:∃w,∀b,S b->K.dT w b)(h:pj K S c false t)(Cj:∀e∈es,∀z,(MemAct.ofEvent e).touch?=some z->RU K.Shun (K.jf S) K.fy z):pj K S c false (t++MemOp.ofEvents c fn pos es) :=
 PT.HA (F.apart hS) h iA (λop ko z hz=>by obtain⟨e,he,rfl⟩:=Conc.mem_ofEvents ko;exact Cj e he z hz)
def uf(a:∀k,k≠b₀->w'.heap[k]?=w.heap[k]?)(c:b₀<K.N0)(b:Nat):K.dT w b↔K.dT w' b:=by
 by_cases e:b=b₀
 .subst e;exact⟨λh=>.inl (h.low c),λh=>.inl (h.low c)⟩
 .exact⟨λh=>h.of_same (a b e),λh=>h.of_same (a b e).symm⟩
theorem Bf(U:∀e∈es,(∃b c,e=⟨.cell b,c,true⟩/\b.block=K.Wg)\/e.loc=.mark .disable\/e.loc=.mark .enable):∀e∈es,∀z,(MemAct.ofEvent e).touch?=some z->(∃b:Addr,z.loc=.cell b/\b.block=K.Wg):=by
 intro e f z d;rcases U e f with ⟨a,c,rfl,hb⟩|h1|h1
 .have e1:MemAct.ofEvent ⟨.cell a,c,true⟩=.access ⟨.cell a,c,true⟩:=rfl;rw[e1] at d;simp only[MemAct.touch?,sK] at d;grind
 iterate 2
  .have⟨g,c,h⟩:=e;simp only at h1;subst h1;cases d
def qk(F:K.Fit)(j:w'.tape=w.tape)(i:w'.os=w.os)(l:w'.output=w.output)(b:∀k,k≠K.C->k≠K.Wg->w'.heap[k]?=w.heap[k]?)(d:w'.heap.size=w.heap.size)
 (o:K.qB w st sm)(g:K.qB w' Ky Nn)
 (n:(st=KK/\sm=0/\((Ky=KK/\Nn=0)\/(Ky=0/\Nn=0/\yG K w'))/\(y=.kd\/y=.w1\/y=.w2)) \/
   (sm=0/\(y=.w3\/y=.blk)/\(Nn=0/\(Ky=KK+1\/Ky=1\/Ky=0)\/(Ky=0/\Nn=1/\yG K w')))\/((∃m,y=.walk m)\/y=.over)):pg K y w w':=by
 have h:ConcX.WgAt K.ty K.Wg w st sm:=o;have a:ConcX.WgAt K.ty K.Wg w' Ky Nn:=g;have c:ConcX.Aside2 K.C K.Wg w w':=⟨j,i,l,d,b⟩;rcases n with ⟨rfl,rfl,VT,hy⟩|⟨rfl,hy,VT⟩|hyr
 .have:iv K w w':=by
   refine⟨c,λ_=>?_,λf=>?_⟩
   .rcases VT with ⟨rfl,rfl⟩|⟨rfl,rfl,hf⟩
    .exact .inl a
    .exact .inr ⟨a,hf⟩
   .exact absurd (h.unique f.1).1 dq
  rcases hy with rfl|rfl|rfl<;>exact this
 .have:BG K w w':=by
   refine⟨c,λ_=>?_,λf=>?_⟩
   .rcases VT with ⟨rfl,rfl|rfl|rfl⟩|⟨rfl,rfl,hf⟩
    .exact .inl a
    .exact .inr (.inl a)
    .exact .inr (.inr (.inl a))
    .exact i3 ⟨a,hf⟩
   .exact absurd (h.unique f.1).2 dq
  rcases hy with rfl|rfl<;>exact this
 .have:RM K w w':=⟨j,i,l,λk _ h1 h2=>b k (λe=>h1 (e▸F.kC w)) (λe=>h2 (.inr (.inr e))),Nat.le_of_eq d.symm⟩;rcases hyr with ⟨m,rfl⟩|rfl<;>exact this
section
variable (F:K.Fit)(hety:ConcX.Payload.ety=ConcR.Payload.ety)(Om:∀g w,Az g w->g.status=.running)
def rS(F:K.Fit)(C:∀g w,Az g w->g.status=.running)(h:J K L Az Post S c x y dZ et gs a b w t q){vs:Vq}(B:x=.fresh vs\/x=.work vs)(M:stepG K.P false b w=.go b' w' es)(d:DK K w w' es)(G:Bn K (K.dT w') x fc b' w')(R:Sub fc dZ) :
  Next K Az Post c (runT K.P (crowd gs w sl) c) t gs.size (mu (sumTo gs.size q) x y dZ et):=by
 have⟨st,sm,V,hw⟩:=h.pair;have Q:RM K w w':=⟨d.tape,d.os,d.output,λk Z p _=>d.block k Z p,d.grow⟩;have f:y.early=true/\pg K y w w':=by rcases B with rfl|rfl<;>cases y using Ma.bV<;>first|exact V.elim|exact⟨rfl,Q⟩
 have v:=h.size f.1;have U:∃s,w'.heap[K.A]?=some (.chan 0 #[] false s s false):=by have⟨s,R⟩:=h.vH;exact⟨s,(d.block _ (lL F.A0 v) (F.kA w)).trans R⟩
 have D:w'.heap[K.E]?=some (.chan 0 #[] x.shut 0 0 false):=(d.block _ (lL F.E0 v) (F.kE w)).trans h.yq;have r:x.shut=false:=by rcases B with rfl|rfl<;>rfl
 have o:x.rel=false:=by rcases B with rfl|rfl<;>rfl
 have I:x.deaf=0:=by rcases B with rfl|rfl<;>rfl
 have⟨y',X,N,u⟩:=(h.ma.rely f.2).woken C (g:=b) (g':=b') U (λ_=>by rw[r] at D;exact D);have m:∀e∈es,_:=λe n=>PN (d.evs e n);have O:K.N0<=w'.heap.size:=lT v d.grow;refine Next.child (J.jL (S':=K.dT w') h M N (jD u) (iB u) G ⟨st,sm,fs u V,(d.block _ (lL F.W0 v) (F.kW w)).trans hw⟩ U D ?_ (λW=>by rw[o] at W;cases W)
  (λ_ _=>Iff.rfl) (λ_ l=>.inl l) ⟨w',λ_ l=>l⟩ d.grow (λz=>by rw[f.1] at z;cases z) (λ_ e n z T=>xF F O (λ_ l=>l) ((m e n).1 z T)) ?_ ?_) λ_=>mc rfl rfl R
 .have⟨Y,H,v⟩:=h.pay;exact⟨Y,d.keep.trans H,v⟩
 .have:=h.tr;rw[o] at this |-;refine pj.HA F ⟨w',λ_ l=>l⟩ (this.grow (λb l=>d.stay b ((h.nU f.1 b).1 l)) (λi z T p=>?_)) λe n=>(m e n).1;rcases h.lz f.1 i z T with Ov|Ov|Ov
  .refine .inl ?_;rcases p with ⟨ad,e,p⟩|e|⟨b,e,p⟩
   .refine .inl ⟨ad,e,(h.nU f.1 _).2 ?_⟩;by_cases j:K.dT w ad.block
    .exact j
    .exact p.of_same (d.block _ (Ov.1 ad e) j).symm
   .exact .inr (.inl e)
   .refine .inr (.inr ⟨b,e,(h.nU f.1 _).2 ?_⟩);by_cases j:K.dT w b
    .exact j
    .exact p.of_same (d.block _ (Ov.2 b e) j).symm
  .exact .inr (.inl ⟨rfl,Ov⟩)
  .exact .inr (.inr Ov)
 .rw[I];exact deafBehind_still (λe n=>⟨(m e n).2.1,(m e n).2.2⟩) _
theorem w8(F:K.Fit)(Om:∀g w,Az g w->g.status=.running)(h:J K L Az Post S c x y dZ et gs a b w t q)(hx:x=.fresh []\/x=.work [])(hs:AtClose K b w):Next K Az Post c (runT K.P (crowd gs w sl) c) t gs.size (mu (sumTo gs.size q) x y dZ et):=by
 have⟨hrunb,hk0,hwake,g',hrun',D9,D7⟩:=hs;have⟨st,sm,hp,hw⟩:=h.pair;have TU:x.shut=false:=by rcases hx with rfl|rfl<;>rfl
 have YE:x.rel=false:=by rcases hx with rfl|rfl<;>rfl
 have hdf:x.deaf=0:=by rcases hx with rfl|rfl<;>rfl
 have hE:=h.yq;rw[TU] at hE;have hgo:=D9 hE;have off:∀k,k≠K.E->(w.setChan K.E 0 #[] true 0 0 false).heap[k]?=w.heap[k]?:=λk hk=>heap_setChan_ne w _ _ _ _ _ _ (Ne.symm hk);have hA:∃s,(w.setChan K.E 0 #[] true 0 0 false).heap[K.A]?=some (.chan 0 #[] false s s false):=by have⟨s,hs⟩:=h.vH;exact⟨s,(off _ F.AE).trans hs⟩
 have hrm:RM K w (w.setChan K.E 0 #[] true 0 0 false):=⟨rfl,rfl,rfl,λk _ _ hk=>off k (λe=>hk (.inr (.inl e))),by simp[World.setChan]⟩;have TY:K.qB (w.setChan K.E 0 #[] true 0 0 false) st sm:=(off _ (Ne.symm F.EW)).trans hw;have TV:st=KK/\sm=0:=by rcases hx with rfl|rfl<;>cases y using Ma.bV<;>first|exact hp.elim|exact hp.2
 obtain⟨rfl,rfl⟩:=TV;have F8:∃fj,yI K L Az Post (.walk []) fj (Conc.woken K.P b g' (w.setChan K.E 0 #[] true 0 0 false) a) (w.setChan K.E 0 #[] true 0 0 false):=by
  have I4:(∃τ,bT K.P true (RM K) (DM K) (j1 K Az []) τ a w)\/(∃P4 gx,a=parked gx K.cases .select/\ow K Az [] P4 gx w):=by
   have F8:=h.ma;rcases hx with rfl|rfl
   .cases y using Ma.bV with
    | front vs=>obtain rfl:vs=[]:=hp.1;exact .inl ⟨_,F8⟩
    | eK vs=>obtain rfl:vs=[]:=hp.1;exact .inr F8
    | _=>exact hp.elim
   .cases y using Ma.bV with
    | walk vs=>obtain rfl:vs=[]:=hp.1;exact .inl ⟨_,F8⟩
    | eK vs=>obtain rfl:vs=[]:=hp.1;exact .inr F8
    | _=>exact hp.elim
  rcases I4 with ⟨τ,VW⟩|⟨P4,gx,rfl,Qn⟩
  .rw[woken_run (bT.running RM.refl (λ_ _=>j1.run) VW)];exact⟨τ,bT.rely (R:=RM K) (λ_ _ _=>RM.trans) VW hrm⟩
  .have e1:Conc.woken K.P b g' (w.setChan K.E 0 #[] true 0 0 false) (parked gx K.cases .select)={ parked gx K.cases .select with status:=.running }:=by unfold Conc.woken;rw[ip gq];exact again_some_closed (k:=1) (c:=K.E) (z:=K.zE) rfl (heap_setChan_self w hE _ _ _ _ _ _)
   rw[e1];exact⟨.leaf,.leaf λaE cg=>(Qn.rely (hrm.trans cg)).tries⟩
 have⟨fj,F8⟩:=F8;have Mc:RC K w (w.setChan K.E 0 #[] true 0 0 false):=λk hk=>off k (by rintro rfl;exact hk.elim (F.kE w) F.sE);have⟨fc,R4⟩:=D7 _ Mc ⟨_,_,TY⟩;have eC:=Mc K.C (.inl (F.kC w));have VV:y.early=true:=by rcases hx with rfl|rfl<;>cases y using Ma.bV<;>first|exact hp.elim|rfl
 have Qi:∀b,K.dT w b↔K.dT (w.setChan K.E 0 #[] true 0 0 false) b:=uf off F.E0;have zW:(w.setChan K.E 0 #[] true 0 0 false).heap.size=w.heap.size:=by simp[World.setChan]
 have Ts:∀e∈closeEvents K.E,∀z,(MemAct.ofEvent e).touch?=some z->RU K.Shun (K.Qx (w.setChan K.E 0 #[] true 0 0 false)) K.fy z:=λe he z hz=>by
  simp only[closeEvents,List.mem_toArray,nk,vh,or_false] at he;rcases he with rfl|rfl
  .simp only[MemAct.ofEvent,MemAct.touch?,sK] at hz;subst hz;exact .inl (.inr (.inl rfl))
  .simp[MemAct.ofEvent,MemAct.touch?] at hz
 refine Next.child (J.jL (x':=.r0) (S':=K.dT (w.setChan K.E 0 #[] true 0 0 false)) h hgo F8 (by rcases hx with rfl|rfl<;>cases y using Ma.bV<;>first|exact hp.elim|rfl) (by rw[VV];rfl) R4 ⟨_,_,⟨rfl,rfl,rfl⟩,TY⟩ hA (heap_setChan_self w hE _ _ _ _ _ _) ?_ (λhr=>by cases hr)
  (λ_ _=>Iff.rfl) (λ_ hb=>.inl hb) ⟨_,λ_ hb=>hb⟩ (Nat.le_of_eq zW.symm) (λz=>by rw[VV] at z;cases z) (λ_ e he z hz=>xF F gq (λ_ hb=>hb) (Ts e he z hz)) ?_ ?_) λ_=>td (by rcases hx with rfl|rfl<;>rfl) (by rcases hx with rfl|rfl<;>simp[Ch.gm,Ch.on])
 .have⟨cs,K8,hn⟩:=h.pay;exact⟨cs,eC.trans K8,hn⟩
 .have:=h.tr;rw[YE] at this;exact pj.HA F ⟨_,λ_ hb=>hb⟩ (this.grow (λb hb=>(Qi b).1 ((h.nU VV b).1 hb)) (λi z hz hk=>.inl (Cfg.jf.mono (λb hb=>(h.nU VV b).2 ((Qi b).2 hb)) hk))) Ts
 .rw[hdf];rfl
def jU(Om:∀g w,Az g w->g.status=.running)(h:J K L Az Post S c x y dZ et gs a b w t q)(hx:x.shut=true)(hp:kX x y st sm)(hr:pg K y w w')(hA:∃s,w'.heap[K.A]?=some (.chan 0 #[] false s s false)) :
  ∃y' fj,yI K L Az Post y' fj (Conc.woken K.P b b' w' a) w'/\(y'=y\/(y=.blk/\y'=.w3)) :=
 (h.ma.rely hr).woken Om hA (λ⟨vs,e⟩=>by subst e;rw[sn hp] at hx;cases hx)
def H4(F:K.Fit)(r:∀g w,Az g w->g.status=.running)(h:J K L Az Post S c .r0 y dZ et gs a b w t q)(x:stepG K.P false b w=.go b' w' es)(Q:DJ K S w w' es)(u:Bn K S .r0 fc b' w')(D:Sub fc dZ) :
  Next K Az Post c (runT K.P (crowd gs w sl) c) t gs.size (mu (sumTo gs.size q) .r0 y dZ et):=by
 have⟨d,v⟩:=Q;have⟨M,I,f,H⟩:=h.pair;have i:∀k,k≠K.C->w'.heap[k]?=w.heap[k]?:=d.block;have G:∃s,w'.heap[K.A]?=some (.chan 0 #[] false s s false):=by have⟨s,D⟩:=h.vH;exact⟨s,(i K.A (λe=>F.YW (by rw[e];exact F.Lc))).trans D⟩
 have p:K.qB w' M I:=(i _ (Ne.symm F.CW)).trans H;have o:pg K y w w':=by
  refine qk F d.tape d.os d.output (λk h1 _=>i k h1) d.size H p ?_;cases y using Ma.bV with
  | walk vs=>exact .inr (.inr (.inl ⟨vs,rfl⟩))
  | over=>exact i3 rfl
  | kd=>exact .inl ⟨f.1,f.2,.inl f,.inl rfl⟩
  | w1=>exact .inl ⟨f.1,f.2,.inl f,.inr (.inl rfl)⟩
  | w2=>exact .inl ⟨f.1,f.2,.inl f,.inr (.inr rfl)⟩
  | w3=>exact .inr (.inl ⟨f.2,.inl rfl,.inl ⟨f.2,.inl f.1⟩⟩)
  | blk=>exact .inr (.inl ⟨f.2,.inr rfl,.inl ⟨f.2,.inl f.1⟩⟩)
  | _=>exact f.elim
 have⟨V,N,B,m⟩:=jU (b':=b') r h rfl f o G;have j:∀e∈es,_:=λe l=>PQ F (v e l);have n:∀b,K.dT w b↔K.dT w' b:=uf i (F.c0 _ F.Lc);refine Next.child (J.jL (S':=S) h x B (jD m) (iB m) u ⟨M,I,fs m f,p⟩ G ((i K.E (λe=>F.k0E (by rw[e];exact F.Lc))).trans h.yq) (d.pay h.pay) (λR=>by cases R)
  (λz b=>(h.nU z b).trans (n b)) h.rh h.of (Nat.le_of_eq d.size.symm) (λz=>(h.sF z).2) (λz e l U T=>xF F (by rw[d.size];exact h.size z) (λb O=>(n b).1 ((h.nU z b).1 O)) ((j e l).1 U T)) ?_ ?_) λ_=>mc rfl rfl D
 .exact pj.HA F h.of h.tr λe l=>(j e l).1
 .exact deafBehind_still (λe l=>⟨(j e l).2.1,(j e l).2.2⟩) _
def tE(F:K.Fit)(j:ConcX.Payload.ety=ConcR.Payload.ety)(o:∀g w,Az g w->g.status=.running)(h:J K L Az Post S c .r0 y dZ et gs a b w t q)(N:yD K b w):Next K Az Post c (runT K.P (crowd gs w sl) c) t gs.size (mu (sumTo gs.size q) .r0 y dZ et):=by
 have⟨_,n,H,r,m,I⟩:=N;have⟨T,R,u,O⟩:=h.pair;have⟨W,E,s,f⟩:=jU (b':=H) o h rfl u (w':=w) (pg.at y w w.drawn) h.vH;have⟨U,A⟩:=cB I;have d:yG K w:=by
  intro _;have⟨G,i,M⟩:=h.pay;have h1:w.cell? ⟨K.C,0,none⟩=some K.val:=n;rw[j];rw[i];simp only[World.cell?,i,Option.isSome_none,kj,if_false] at h1;have⟨l⟩:=G;match l,M with
  | [v],_ =>simp only[IE,K5,sK] at h1;rw[h1]
 have p:Deaf t c=0:=h.dc;refine Next.child (J.jL (x':=.k1) (S':=S) (fc:=U) h r s (jD f) (iB f) A ⟨T,R,fs f (by cases y using Ma.bV<;>first|exact u|exact u.elim),O⟩ h.vH h.yq h.pay (λ_=>d) h.nU h.rh h.of lr (λz=>(h.sF z).2) (λ_ e D z Q=>by rw[El] at D;subst D;cases Q) ?_ rfl) λ_=>td rfl (by simp[Ch.gm,Ch.on]);have B:MemOp.ofEvents c b.frame.fn b.frame.place #[ConcR.mk (.releaseMerge (ConcR.stA K.Wg))]=#[{ g:=c,fn:=b.frame.fn,pos:=b.frame.place,act:=.mark (.releaseMerge K.yB) }]:=by simp[MemOp.ofEvents,MemAct.ofEvent,ConcR.mk,ConcR.stA,Cfg.yB]
 have x:=ConcN.RelBy.new (a:=K.yB) p b.frame.fn b.frame.place;refine⟨t.size,?_,x,λk V e=>?_⟩
 .rw[B];exact PT.release h.tr rfl rfl
 .have:=lt_of_act? e;rw[B] at this;simp at this;omega
def jM(F:K.Fit)(f:∀g w,Az g w->g.status=.running)(h:J K L Az Post S c x y dZ et gs a b w t q)(s:x.shut=true)(j:stepG K.P false b w=.go b' w' es)(n:OZ w w' es)(i:Bn K S x fc b' w')(p:Sub fc dZ) :
  Next K Az Post c (runT K.P (crowd gs w sl) c) t gs.size (mu (sumTo gs.size q) x y dZ et):=by obtain⟨rfl,rfl⟩:=n;have⟨v,u,l,r⟩:=h.pair;have⟨A,m,k,d⟩:=jU (b':=b') f h s l (pg.at y w' w'.drawn) h.vH;refine Next.child (J.jL (S':=S) h j k (jD d) (iB d) i ⟨v,u,fs d l,r⟩ h.vH h.yq h.pay h.full h.nU h.rh h.of lr (λz=>(h.sF z).2) (λ_ e o=>by simp at o) ?_ rfl) λ_=>mc rfl rfl p;rw[ofEvents_none,Array.append_empty];exact h.tr
theorem pj.Fe(F:K.Fit)(p:∃w,∀b,S b->K.dT w b)(h:pj K S c true t)(A:Deaf t c=1)(U:∀e∈es,(∃a d,e=⟨.cell a,d,true⟩/\a.block=K.Wg)\/e.loc=.mark .disable\/e.loc=.mark .enable)
 (x:∀j e,es[j]?=some e->(MemAct.ofEvent e).touch?=none\/((∃a d,e=⟨.cell a,d,true⟩)/\0<deafBehind 1 (es.extract 0 j))):pj K S c true (t++MemOp.ofEvents c fn pos es):=by
 have⟨r,u,n,o⟩:=h;refine⟨r,PT.Fe u n.g iA (λv l z f=>?_),n.appOwn fn pos es gq,λk q e=>?_⟩
 .obtain⟨e,i,rfl⟩:=Conc.mem_ofEvents l;rcases U e i with ⟨a,d,rfl,hb⟩|h1|h1
  .have e1:MemAct.ofEvent ⟨.cell a,d,true⟩=.access ⟨.cell a,d,true⟩:=rfl;rw[e1] at f;simp only[MemAct.touch?,sK] at f;subst f;exact⟨F.OO a hb,rfl⟩
  iterate 2
   .have⟨y,d,B⟩:=e;simp only at h1;subst h1;cases f
 .have⟨v,s,m⟩:=p7.1 e;rcases getElem?_append_cases s with ⟨_,La⟩|⟨_,Qm⟩
  .exact o k q (by rw[act?_of La,m])
  .obtain⟨e,i,rfl⟩:=Conc.mem_ofEvents Qm;exact(wq F p U).2 e i m
theorem gV(F:K.Fit)(m:∀g w,Az g w->g.status=.running)(h:J K L Az Post S c x y dZ et gs a b w t q)(G:x.shut=true)(ah:x.rel=true)(Z:x'.shut=true)(ai:x'.rel=true)(hp:kX x y st sm)(hw:K.qB w st sm)(R:stepG K.P false b w=.go b' w' es)
 (U:Aside K.Wg w w')(Y:K.qB w' Ky Nn)(I:pg K y w w')(M:Bn K S x' fc b' w')(V:∀d,(d=y\/(y=.blk/\d=.w3))->(d=.blk->y=.blk/\(mayWake K.P b=true->b'.status=.blocked\/b'.status=.waiting))->kX x' d Ky Nn)
 (j:x'.left=x.left)(X:x'.gm<x.gm)(Q:∀e∈es,∀z,(MemAct.ofEvent e).touch?=some z->(∃l:Addr,z.loc=.cell l/\l.block=K.Wg))
 (aj:pj K S c true (t++MemOp.ofEvents c b.frame.fn b.frame.place es))(O:deafBehind x.deaf es=x'.deaf):Next K Az Post c (runT K.P (crowd gs w sl) c) t gs.size (mu (sumTo gs.size q) x y dZ et):=by
 have D:∃s,w'.heap[K.A]?=some (.chan 0 #[] false s s false):=by have⟨s,hs⟩:=h.vH;exact⟨s,(U.block _ F.AW).trans hs⟩
 have⟨d,H,r,i⟩:=jU (b':=b') m h G hp I D;have u:=U.block K.C F.CW;have hE:w'.heap[K.E]?=some (.chan 0 #[] x'.shut 0 0 false):=by rw[Z,<-G];exact(U.block _ F.EW).trans h.yq
 have T:∀b,K.dT w b↔K.dT w' b:=uf U.block F.W0;refine Next.child (J.jL (x':=x') (S':=S) h R r (jD i) (iB i) M ⟨Ky,Nn,V d i ?_,Y⟩ D hE ?_ (λ_=>ConcX.ChanAt.of_block (h.full ah) u)
  (λz b=>(h.nU z b).trans (T b)) h.rh h.of (Nat.le_of_eq U.size.symm) (λz=>(h.sF z).2) (λz e he z' hz=>by have⟨l,j,n⟩:=Q e he z' hz;refine⟨λW f=>?_,λb f=>?_⟩;(rw[j] at f;cases f;rw[n,U.size];exact lL F.W0 (h.size z));(rw[j] at f;cases f)) gq O) λ_=>td j X
 .rintro rfl;have p:y=.blk:=i.elim (λe=>e.symm) (λe=>e.1);subst p;refine⟨rfl,λhmw=>?_⟩;have⟨v,e,hs2,ho2,_⟩:=r;obtain⟨B,rfl,k,o,_⟩:=h.ma;by_cases n:b'.status=.blocked\/b'.status=.waiting
  .exact n
  .exfalso;unfold Conc.woken at e;rw[ip gq,ConcX.again_blocked k o] at e;rw[e] at k;cases k
 .have⟨cs,N,hn⟩:=h.pay;exact⟨cs,u.trans N,hn⟩
def jJ(w:World)(a:Addr)(v:Value):Aside a.block w (w.setCell a v):=⟨rfl,rfl,rfl,by simp[World.setCell],λk b=>RowKit.Below.heap_setCell _ _ _ _ b⟩
def H3(F:K.Fit)(i:∀g w,Az g w->g.status=.running)(h:J K L Az Post S c .k1 y dZ et gs a b w t q)(r:NZ K b w):Next K Az Post c (runT K.P (crowd gs w sl) c) t gs.size (mu (sumTo gs.size q) .k1 y dZ et):=by have⟨_,x,j,m,p⟩:=r;have⟨B,A,k,o⟩:=h.pair;have⟨v,n⟩:=cB p;refine gV (x':=.d1) (fc:=v) F i h rfl rfl rfl rfl k o j (Aside.refl _ _) o (pg.at y w w.drawn) n (λC l _=>fs l (by cases y using Ma.bV<;>first|exact k|exact k.elim)) rfl (by simp[Ch.gm,Ch.on]) (λe d z s=>by rw[El] at d;subst d;cases s) ?_ rfl;exact h.tr.mute (λu f=>by obtain⟨e,d,rfl⟩:=Conc.mem_ofEvents f;rw[El] at d;subst d;rfl) (λu f=>by obtain⟨e,d,rfl⟩:=Conc.mem_ofEvents f;rw[El] at d;subst d;exact λz=>by cases z)
def Dd:∀e∈(#[ConcR.rd (ConcR.stA K.Wg),ConcR.wr (ConcR.stA K.Wg)]:Array Event),(∃a c,e=⟨.cell a,c,true⟩/\a.block=K.Wg)\/e.loc=.mark .disable\/e.loc=.mark .enable:=by intro e b;simp only[List.mem_toArray,nk,vh,or_false] at b;rcases b with rfl|rfl<;>exact .inl ⟨_,_,rfl,rfl⟩
theorem HY(F:K.Fit)(Om:∀g w,Az g w->g.status=.running)(h:J K L Az Post S c .d1 y dZ et gs a b w t q)(hs:NW K b w):Next K Az Post c (runT K.P (crowd gs w sl) c) t gs.size (mu (sumTo gs.size q) .d1 y dZ et):=by
 have⟨_,D9⟩:=hs;have⟨st,sm,hp,hw⟩:=h.pair;have I4:(st=KK/\sm=0/\((y=.kd\/y=.w1\/y=.w2)\/(y=.walk []\/y=.over)))\/(st=KK+1/\sm=0/\(y=.w3\/y=.blk)):=by
  cases y using Ma.bV with
  | walk vs=>obtain⟨rfl,h1,h2⟩:=hp;exact .inl ⟨h1,h2,.inr (.inl rfl)⟩
  | over=>exact .inl ⟨hp.1,hp.2,.inr (.inr rfl)⟩
  | kd=>exact .inl ⟨hp.1,hp.2,.inl (.inl rfl)⟩
  | w1=>exact .inl ⟨hp.1,hp.2,.inl (.inr (.inl rfl))⟩
  | w2=>exact .inl ⟨hp.1,hp.2,.inl (.inr (.inr rfl))⟩
  | w3=>exact .inr ⟨hp.1,hp.2,.inl rfl⟩
  | blk=>exact .inr ⟨hp.1,hp.2,.inr rfl⟩
  | _=>exact hp.elim
 have Sd:pj K S c true (t++MemOp.ofEvents c b.frame.fn b.frame.place #[ConcR.rd (ConcR.stA K.Wg),ConcR.wr (ConcR.stA K.Wg)]):=by
  refine pj.Fe F h.of h.tr h.dc Dd (λj e he=>.inr ?_);rcases j with _|_|j
  .simp at he;subst he;exact⟨⟨_,_,rfl⟩,by simp[deafBehind]⟩
  .simp at he;subst he;exact⟨⟨_,_,rfl⟩,by simp[deafBehind,ConcR.rd]⟩
  .simp at he
 have eC:∀v:Value,(w.setCell (ConcR.stA K.Wg) v).heap[K.C]?=w.heap[K.C]?:=λv=>(jJ w (ConcR.stA K.Wg) v).block _ F.CW;rcases I4 with ⟨rfl,rfl,hy⟩|⟨rfl,rfl,hy⟩
 .have⟨g',hgo,_,hq⟩:=D9 0 0 oq oq (by rw[show(((0:Nat):Int)+1)*ConcR.KK+((0:Nat):Int)=KK by decide];exact hw);have⟨n,hq⟩:=hq iq;have Qp:K.qB (w.setCell (ConcR.stA K.Wg) (.int .u64 0)) 0 0:=ConcX.WgAt.setSt (show ConcX.WgAt K.ty K.Wg w KK 0 from hw) 0;have Qf:stepG K.P false b w=.go g' (w.setCell (ConcR.stA K.Wg) (.int .u64 0)) #[ConcR.rd (ConcR.stA K.Wg),ConcR.wr (ConcR.stA K.Wg)]:=gq
  have Cg:=jJ w (ConcR.stA K.Wg) (.int .u64 0);refine gV (x':=.quit n 1) (fc:=.ofNat n) F Om h rfl rfl rfl rfl hp hw Qf Cg Qp ?_ ⟨hq,rfl⟩ (λy' YT _=>fs YT ?_) rfl (by simp[Ch.gm,Ch.on]) (Bf Dd) Sd rfl
  .refine qk F rfl rfl rfl (λk _ h2=>Cg.block k h2) Cg.size hw Qp ?_;rcases hy with hy|rfl|rfl
   .exact .inl ⟨rfl,rfl,.inr ⟨rfl,rfl,ConcX.ChanAt.of_block (h.full rfl) (eC _)⟩,hy⟩
   .exact .inr (.inr (.inl ⟨_,rfl⟩))
   .exact i3 rfl
  .rcases hy with (rfl|rfl|rfl)|rfl|rfl<;>first|exact⟨rfl,rfl⟩|exact⟨rfl,rfl,rfl⟩
 .have⟨g',hgo,hm,_⟩:=D9 0 1 oq oq (by rw[show(((0:Nat):Int)+1)*ConcR.KK+((1:Nat):Int)=KK+1 by decide];exact hw);have⟨m,hG⟩:=hm ⟨rfl,rfl⟩;have Qp:K.qB (w.setCell (ConcR.stA K.Wg) (.int .u64 1)) 1 0:=ConcX.WgAt.setSt (show ConcX.WgAt K.ty K.Wg w (KK+1) 0 from hw) 1;have Qf:stepG K.P false b w=.go g' (w.setCell (ConcR.stA K.Wg) (.int .u64 1)) #[ConcR.rd (ConcR.stA K.Wg),ConcR.wr (ConcR.stA K.Wg)]:=gq
  have Cg:=jJ w (ConcR.stA K.Wg) (.int .u64 1);have hG':Goes K.P false (WJ K) OZ (Hj K) m g' (w.setCell (ConcR.stA K.Wg) (.int .u64 1)):=gq
  have⟨τ,VW⟩:=cB hG';refine gV (x':=.d2) (fc:=τ) F Om h rfl rfl rfl rfl hp hw Qf Cg Qp ?_ VW (λy' YT _=>fs YT ?_) rfl (by simp[Ch.gm,Ch.on]) (Bf Dd) Sd rfl
  .exact qk F rfl rfl rfl (λk _ h2=>Cg.block k h2) Cg.size hw Qp (.inr (.inl ⟨rfl,hy,.inl ⟨rfl,.inr (.inl rfl)⟩⟩))
  .rcases hy with rfl|rfl<;>exact⟨rfl,rfl⟩
def JG{wr:Bool}{j:Nat}(a:(#[(⟨.cell (ConcR.stA K.Wg),wr,true⟩:Event)])[j]?=some e) :
  (MemAct.ofEvent e).touch?=none\/((∃b wr,e=⟨.cell b,wr,true⟩)/\0<deafBehind 1 ((#[(⟨.cell (ConcR.stA K.Wg),wr,true⟩:Event)]).extract 0 j)):=by
 rcases j with _|j
 .simp at a;subst a;exact .inr ⟨⟨_,_,rfl⟩,by simp[deafBehind]⟩
 .simp at a
def HZ(F:K.Fit)(k:∀g w,Az g w->g.status=.running)(h:J K L Az Post S c .d2 y dZ et gs a b w t q)(s:Hj K b w):Next K Az Post c (runT K.P (crowd gs w sl) c) t gs.size (mu (sumTo gs.size q) .d2 y dZ et):=by
 have⟨_,f⟩:=s;have⟨x,v,i,n⟩:=h.pair;have u:x=1/\v=0:=by cases y using Ma.bV<;>first|exact i|exact i.elim
 obtain⟨rfl,rfl⟩:=u;have⟨A,l,m,r⟩:=f n;have⟨z,p⟩:=cB r;refine gV (x':=.d3) (fc:=z) F k h rfl rfl rfl rfl i n l (Aside.refl _ _) n (pg.at y w w.drawn) p (λB o _=>fs o (by cases y using Ma.bV<;>first|exact i|exact i.elim)) rfl (by simp[Ch.gm,Ch.on]) (Bf λe d=>by rw[El] at d;subst d;exact .inl ⟨_,_,rfl,rfl⟩) ?_ rfl;exact pj.Fe F h.of h.tr h.dc (λe d=>by rw[El] at d;subst d;exact .inl ⟨_,_,rfl,rfl⟩) (λj e d=>JG d)
def H0(F:K.Fit)(r:∀g w,Az g w->g.status=.running)(h:J K L Az Post S c .d3 y dZ et gs a b w t q)(z:NX K b w):Next K Az Post c (runT K.P (crowd gs w sl) c) t gs.size (mu (sumTo gs.size q) .d3 y dZ et):=by
 have⟨_,i⟩:=z;have⟨B,A,l,o⟩:=h.pair;have p:B=1/\A=0/\(y=.w3\/y=.blk):=by
  cases y using Ma.bV with
  | w3=>exact⟨l.1,l.2,.inl rfl⟩
  | blk=>exact⟨l.1,l.2,.inr rfl⟩
  | _=>exact l.elim
 obtain⟨rfl,rfl,p⟩:=p;have⟨D,s,m,x⟩:=i o;have⟨C,v⟩:=cB x;have n:K.qB (w.setCell (ConcR.stA K.Wg) (.int .u64 0)) 0 0:=ConcX.WgAt.setSt (show ConcX.WgAt K.ty K.Wg w 1 0 from o) 0;have d:=jJ w (ConcR.stA K.Wg) (.int .u64 0);refine gV (x':=.d4) (fc:=C) F r h rfl rfl rfl rfl l o s d n ?_ v (λE u _=>fs u (by rcases p with rfl|rfl<;>exact⟨rfl,rfl⟩)) rfl (by simp[Ch.gm,Ch.on]) (Bf λe f=>by rw[El] at f;subst f;exact .inl ⟨_,_,rfl,rfl⟩) ?_ rfl
 .exact qk F rfl rfl rfl (λk _ h2=>d.block k h2) d.size o n (.inr (.inl ⟨rfl,p,.inl ⟨rfl,.inr (.inr rfl)⟩⟩))
 .exact pj.Fe F h.of h.tr h.dc (λe f=>by rw[El] at f;subst f;exact .inl ⟨_,_,rfl,rfl⟩) (λj e f=>JG f)
def H2(F:K.Fit)(s:∀g w,Az g w->g.status=.running)(h:J K L Az Post S c .d4 y dZ et gs a b w t q)(D:NY K b w):Next K Az Post c (runT K.P (crowd gs w sl) c) t gs.size (mu (sumTo gs.size q) .d4 y dZ et):=by
 have⟨_,l,i⟩:=D;have⟨G,E,m,p⟩:=h.pair;have r:G=0/\E=0/\(y=.w3\/y=.blk):=by
  cases y using Ma.bV with
  | w3=>exact⟨m.1,m.2,.inl rfl⟩
  | blk=>exact⟨m.1,m.2,.inr rfl⟩
  | _=>exact m.elim
 obtain⟨rfl,rfl,r⟩:=r;have⟨I,u,n,x⟩:=i p;have o:K.qB (w.setCell (ConcR.smA K.Wg) (.int .u32 1)) 0 1:=ConcX.WgAt.setSm (show ConcX.WgAt K.ty K.Wg w 0 0 from p) 1;have d:=jJ w (ConcR.smA K.Wg) (.int .u32 1);have A:(w.setCell (ConcR.smA K.Wg) (.int .u32 1)).heap[K.C]?=w.heap[K.C]?:=d.block _ F.CW;refine gV (x':=.quit n 1) (fc:=.ofNat n) F s h rfl rfl rfl rfl m p u d o ?_ ⟨x,rfl⟩ (λH v B=>?_) rfl (by simp[Ch.gm,Ch.on]) (Bf CY) ?_ rfl
 .exact qk F rfl rfl rfl (λk _ h2=>d.block k h2) d.size p o (.inr (.inl ⟨rfl,r,.inr ⟨rfl,rfl,ConcX.ChanAt.of_block (h.full rfl) A⟩⟩))
 .have:H=.w3:=by
   rcases v with rfl|⟨_,rfl⟩
   .rcases r with rfl|rfl
    .rfl
    .have:=(B rfl).2 l;rcases x.status with e|e<;>rw[e] at this<;>rcases this with z|z<;>cases z
   .rfl
  subst this;exact⟨rfl,rfl⟩
 .refine pj.Fe F h.of h.tr h.dc CY (λj e f=>?_);rcases j with _|_|_|_|j
  .simp[semEvents] at f;subst f;exact .inl rfl
  iterate 2
   .simp[semEvents] at f;subst f;exact .inr ⟨⟨_,_,rfl⟩,by simp[semEvents,deafBehind]⟩
  .simp[semEvents] at f;subst f;exact .inl rfl
  .simp[semEvents] at f
def yZ(F:K.Fit)(m:∀g w,Az g w->g.status=.running){d:Nat}(h:J K L Az Post S c (.quit n d) y dZ et gs a b w t q)(f:b.status=.running):Next K Az Post c (runT K.P (crowd gs w sl) c) t gs.size (mu (sumTo gs.size q) (.quit n d) y dZ et):=by
 obtain⟨r,rfl⟩:=h.ch;have⟨B,A,p,v⟩:=h.pair;cases n with
 | zero=>rw[r.1] at f;cases f
 | succ k =>
  rcases r with ⟨hf,_⟩|⟨_,g',es,hm,YJ,hq'⟩
  .rw[hf] at f;cases f
  have⟨C,u,o,j⟩:=jU (b':=g') m h rfl p (pg.at y w w.drawn) h.vH;refine Next.child (J.jL (x':=.quit k (deafBehind d es)) (S':=S) (fc:=.ofNat k) h (YJ w) o (jD j) (iB j) ⟨hq',rfl⟩ ⟨B,A,fs j (by cases y using Ma.bV<;>first|exact p|exact p.elim),v⟩ h.vH h.yq h.pay h.full h.nU h.rh h.of lr (λz=>(h.sF z).2) (λ_ e l z s=>by rw[touch_mute (hm e l)] at s;cases s) ?_ rfl) λ_=>mc rfl rfl (sub_ofNat k w);exact h.tr.mute (λx i=>by obtain⟨e,l,rfl⟩:=Conc.mem_ofEvents i;exact touch_mute (hm e l)) (λx i=>by obtain⟨e,l,rfl⟩:=Conc.mem_ofEvents i;exact ul (hm e l))
def J.yY(F:K.Fit)(o:ConcX.Payload.ety=ConcR.Payload.ety)(f:∀g w,Az g w->g.status=.running)(h:J K L Az Post S c x y dZ et gs a b w t q)(m:b.status=.running):Next K Az Post c (runT K.P (crowd gs w sl) c) t gs.size (mu (sumTo gs.size q) x y dZ et):=by
 have j:∀k,(x=.fresh k\/x=.work k)->nF K k b w->Next K Az Post c (runT K.P (crowd gs w sl) c) t gs.size (mu (sumTo gs.size q) x y dZ et):=by
  intro k C i;cases k with
  | nil=>exact w8 F f h C i
  | cons v k =>
   have⟨s,A,H,I,p,r,D,E,l,e,z,G,u⟩:=J.sends (sl:=sl) F h C i;refine .inr ⟨L,S,H,I,p,r,s,D,E,l,sl,q,A,e,z,G,?_⟩;rcases u with u|⟨h1,h2⟩
   .exact .single (Ej u)
   .exact .single (td h1 h2)
 cases x using Ch.bV with
 | fresh k =>
  rcases bT.now h.ch (RC.refl w) with i|⟨_,g',l,es,uY,e,d,m9,hG⟩
  .exact j k (.inl rfl) i
  .exact rS F f h (.inl rfl) e d hG m9
 | work k =>
  rcases bT.now h.ch (RC.refl w) with i|⟨_,g',l,es,uY,e,d,m9,hG⟩
  .exact j k (.inr rfl) i
  .exact rS F f h (.inr rfl) e d hG m9
 | eK v k=>obtain⟨B,rfl,_⟩:=h.ch;cases m
 | r0 =>
  rcases bT.now h.ch (RJ.refl w) with i|⟨_,g',l,es,uY,e,d,m9,hG⟩
  .exact tE F o f h i
  .exact H4 F f h e d hG m9
 | k1 =>
  rcases bT.now h.ch (ConcN.RW.refl w) with i|⟨_,g',l,es,uY,e,d,m9,hG⟩
  .exact H3 F f h i
  .exact jM F f h rfl e d hG m9
 | d1 =>
  rcases bT.now h.ch (ConcN.RW.refl w) with i|⟨_,g',l,es,uY,e,d,m9,hG⟩
  .exact HY F f h i
  .exact jM F f h rfl e d hG m9
 | d2 =>
  rcases bT.now h.ch (ConcN.RW.refl w) with i|⟨_,g',l,es,uY,e,d,m9,hG⟩
  .exact HZ F f h i
  .exact jM F f h rfl e d hG m9
 | d3 =>
  rcases bT.now h.ch (ConcN.RW.refl w) with i|⟨_,g',l,es,uY,e,d,m9,hG⟩
  .exact H0 F f h i
  .exact jM F f h rfl e d hG m9
 | d4 =>
  rcases bT.now h.ch (ConcN.RW.refl w) with i|⟨_,g',l,es,uY,e,d,m9,hG⟩
  .exact H2 F f h i
  .exact jM F f h rfl e d hG m9
 | quit n d=>exact yZ F f h m
variable (H:mP K)(L3:∀L,K.N0<=L->∀g w,Az g w->∃m,Goes K.P true (iv K) (mL K L) (jG K L Az Post) m g w)
def J.Kv(f:∀g w,Az g w->g.status=.running)(h:J K L Az Post S c x y dZ et gs a b w t q):a.status=.running\/b.status=.running:=by
 have⟨k,j,i,_⟩:=h.pair;rcases h.ma.status f with e|⟨vs,_,rfl,_⟩|⟨_,rfl,_⟩
 .exact .inl e
 iterate 2
  .rcases h.ch.status with e|⟨v,fE,_,rfl,_⟩|⟨n,d,rfl,_⟩
   .exact .inr e
   .exact i.elim
   .exact i.elim
def GB(F:K.Fit)(n:ConcX.Payload.ety=ConcR.Payload.ety)(f:∀g w,Az g w->g.status=.running)(H:mP K)(v:∀L,K.N0<=L->∀g w,Az g w->∃m,Goes K.P true (iv K) (mL K L) (jG K L Az Post) m g w)(h:J K L Az Post S c x y dZ et gs a b w t q)(sl:Option (Nat × Nat)):Next K Az Post c (stepT K.P (crowd gs w sl)) t gs.size (mu (sumTo gs.size q) x y dZ et):=by
 have C:∀g∈gs,awake g:=by
  intro g o;obtain⟨i,k,rfl⟩:=Array.mem_iff_getElem.1 o;have j:gs[i]?=some gs[i]:=gF k;by_cases s:i=0
  .subst s;rw[h.h0] at j;rw[<-CX j];rcases h.ma.status f with e|⟨_,_,_,rfl⟩|⟨_,_,rfl,_⟩
   .exact awake_of (.inl e)
   iterate 2
    .exact awake_of (.inr (.inl rfl))
  .by_cases l:i=c
   .subst l;rw[h.hc] at j;rw[<-CX j];rcases h.ch.status with e|⟨_,_,_,_,rfl⟩|⟨_,_,_,hq⟩
    .exact awake_of (.inl e)
    .exact awake_of (.inr (.inl rfl))
    .exact awake_of (hq.status.elim .inl λz=>.inr (.inr z))
   .exact awake_of ((h.old i _ oq l j).status.elim .inl λz=>.inr (.inr z))
 have⟨i,g,d,p,k,o,E⟩:=crowd_pick (P:=K.P) (w:=w) (sl:=sl) C ((h.Kv f).elim (λe=>⟨0,a,h.h0,e⟩) (λe=>⟨c,b,h.hc,e⟩));have A:=h.at F d;rw[E];by_cases s:i=0
 .subst s;obtain rfl:g=a:=by rw[h.h0] at k;exact(CX k).symm
  exact J.Cv F H f v A o
 .by_cases l:i=c
  .subst l;obtain rfl:g=b:=by rw[h.hc] at k;exact(CX k).symm
   exact J.yY F n f A o
  .have⟨u,I,O,r,M,N,e,G,B,D⟩:=J.Gg (sl:=p) F f A k s l o;exact .inr ⟨L,S,x,O,dZ,r,u,M,b,_,p,N,I,e,G,B,.single (.left _ _ D)⟩
theorem GA(F:K.Fit)(j:ConcX.Payload.ety=ConcR.Payload.ety)(n:∀g w,Az g w->g.status=.running)(H:mP K)(l:∀L,K.N0<=L->∀g w,Az g w->∃m,Goes K.P true (iv K) (mL K L) (jG K L Az Post) m g w):∀(k:Mu) (L:Nat) (S:Nat->Prop) (x:Ch) (y:Ma) (d f:Tr) (i:Array Goroutine) (a b:Goroutine) (w:World) (t:Trace) (q:Nat->Nat) (sl:Option (Nat × Nat)),k=mu (sumTo i.size q) x y d f->J K L Az Post S c x y d f i a b w t q ->
  ∃N M T,runNT K.P N (crowd i w sl) t=(.next M,T)/\Fin K Post i.size M T:=by
 intro k;induction k using QJ.transGen.induction with
 | _ k ih =>
  rintro L S x y d f i a b w t q sl rfl h;rcases GB F j n H l h sl with ⟨M,ops,e,U⟩|⟨L',S',x',y',fc,fj,yr,a',b',w',U9,q',ops,e,zW,hJ,kF⟩
  .exact⟨1,M,t++ops,by simp only[runNT,e],U⟩
  .rw[<-zW] at kF;have⟨N,M,T,o,U⟩:=ih _ gq L' S' x' y' fc fj yr a' b' w' (t++ops) q' U9 rfl hJ;exact⟨N+1,M,T,by simp only[runNT,e];exact o,by rw[<-zW];exact U⟩
end
end
structure Closed{ι:Type}(P:Program)(main:Bool)(R:ι->Wq)(D:World->World->Array Event->Prop)(X:ι->Gq):Prop where
 rely:∀{vs g w aE},X vs g w->R vs w aE->X vs g aE
 step:∀{vs g w},g.status=.running->(∀aE,R vs w aE->(stepG P main g aE).goes λg' w' es=>D aE w' es/\X vs g' w')->X vs g w
def ti{ι:Type}(X:ι->Gq)(vs:ι)(b:Frame)(k:List Item)(cs:List Frame):Exit->Act->World->Prop
 | .normal,a,w=>X vs (G (b.at a k) cs) w
 | .exit id,a,w=>∃k',exitTo id k=some k'/\X vs (G (b.at a k') cs) w
 | .ret,a,w=>∀todo,X vs (G { b.at a todo with mode:=.returning } cs) w
 | _,_,_=>False
abbrev pf(ι:Type):=ι->Exit->Act->World->Prop
def E2{ι:Type}(T:ι->Act->World->Prop)(Q:pf ι):pf ι
 | vs,.normal,a,w=>T vs a w
 | vs,e,a,w=>Q vs e a w
def na{ι:Type}(id:Nat)(Q:pf ι):pf ι
 | vs,.exit T4,a,w=>if T4=id then Q vs .normal a w else Q vs (.exit T4) a w
 | vs,e,a,w=>Q vs e a w
def mH {ι:Type}(X:ι->Gq)(fn:FuncId)(c:Code)(vs:ι)(Q:pf ι)(a:Act)(w:World):Prop :=
 ∀(b:Frame) (k:List Item) (cs:List Frame),b.fn=fn->b.kind≠.early->(∀fE e a' w',Q fE e a' w'->ti X fE b k cs e a' w')->X vs (G (b.at a (.code c::k)) cs) w
def lQ {ι:Type}(X:ι->Gq)(fn:FuncId)(ops:Array Oper)(todo:List Nat)(vs:ι)(Q:pf ι)(a:Act)(w:World):Prop :=
 ∀(b:Frame) (k:List Item) (cs:List Frame),b.fn=fn->b.kind≠.early->(∀fE e a' w',Q fE e a' w'->ti X fE b k cs e a' w')->X vs (G (b.at a (.inRegion ops todo::k)) cs) w
section
variable {ι:Type}{P:Program}{main:Bool}{R:ι->Wq}{D:World->World->Array Event->Prop}{X:ι->Gq}{fn:FuncId}{Q Q':pf ι}{a:Act}{vs:ι}
def Closed.goes(C:Closed P main R D X){g:Goroutine}(a:∀w,R vs w w)(h:Goes P main (R vs) D (X vs) n g w):X vs g w:=by
 induction n generalizing g w with
 | zero=>exact h w (a w)
 | succ n f =>
  rcases h with h|⟨hs,h⟩
  .exact h w (a w)
  .refine C.step hs λb d=>?_;have c:=h b d;cases e:stepG P main g b with
   | go g' w' es=>rw[e,goes_go] at c;rw[goes_go];exact⟨c.1,f c.2⟩
   | _=>rw[e] at c;exact c.elim
theorem ti.push{x:Item}{b:Frame}{k:List Item}{cs:List Frame}{e:Exit}(g:x.plain=true)(U:e≠.normal)(h:ti X vs b k cs e a w):ti X vs b (x::k) cs e a w:=by
 cases e with
 | normal=>exact absurd rfl U
 | exit id=>obtain⟨d,f,c⟩:=h;exact⟨d,by cases x<;>simp_all [exitTo,Item.plain],c⟩
 | ret=>exact h
 | goto l=>exact h
 | panic ch=>exact h
 | outgrown=>exact h
def KW(h:mH X fn c vs Q a w)(hq:∀vs e a w,Q vs e a w->Q' vs e a w):mH X fn c vs Q' a w:=λb k cs hb hk hc=>h b k cs hb hk λfE e a' w' q=>hc fE e a' w' (hq fE e a' w' q)
section
variable (C:Closed P main R D X)
def KX{d:World}(h:mH X fn c vs Q a w)(j:R vs w d):mH X fn c vs Q a d:=λb k e f i g=>C.rely (h b k e f i g) j
section
variable (T:∀i,Terms (R i) D)
def fh(h:Q vs .normal a w):mH X fn .skip vs Q a w:=λb k f _ _ e=>C.step rfl λd c=>by rw[stepG_skip];exact⟨(T vs).idle _,C.rely (e _ _ _ _ h) c⟩
def n7(h:Q vs .ret a w):mH X fn .ret vs Q a w:=λb k f _ _ e=>C.step rfl λd c=>by rw[stepG_ret'];exact⟨(T vs).idle _,C.rely (e _ _ _ _ h _) c⟩
def Bh(h:Q vs (.exit id) a w):mH X fn (.exit id) vs Q a w:=λb k i _ _ f=>by have⟨j,d,g⟩:=f _ _ _ _ h;exact C.step rfl λe c=>by rw[stepG_exit d];exact⟨(T vs).idle _,C.rely g c⟩
def fZ{x:Code}(h:mH X fn x vs (E2 (λf i n=>mH X fn y f Q i n) Q) a w):mH X fn (.seq x y) vs Q a w:=by
 intro b k g j m c;have p:X vs (G (b.at a (.code x::.code y::k)) g) w:=by
  refine h b (.code y::k) g j m λf e i n q=>?_;cases e with
  | normal=>exact q b k g j m c
  | exit id=>exact(c _ _ _ _ q).push rfl iq
  | ret=>exact(c _ _ _ _ q).push rfl iq
  | goto l=>exact c _ _ _ _ q
  | panic ch=>exact c _ _ _ _ q
  | outgrown=>exact c _ _ _ _ q
 exact C.step rfl λo d=>by rw[stepG_seq];exact⟨(T vs).idle _,C.rely p d⟩
def aZ{c:Operand}{x:Code}{t:Bool}(hc:a.eval c=.bool t)(h:mH X fn (if t then x else y) vs Q a w):mH X fn (.cond c x y) vs Q a w :=
 λb k cs hb hk hq=>C.step rfl λaE cg=>by rw[stepG_cond hc];exact⟨(T vs).idle _,C.rely (h b k cs hb hk hq) cg⟩
end
end
theorem iN(C:Closed P main R D X)(T:∀i,Terms (R i) D)(h:mH X fn c vs (na id Q) a w):mH X fn (.block id c) vs Q a w:=by
 intro b k j o r U;have s:X vs (G (b.at a (.code c::.inBlock id::k)) j) w:=by
  refine h b (.inBlock id::k) j o r λn e u v q=>?_;cases e with
  | normal=>exact C.step rfl λf d=>by rw[stepG_inBlock];exact⟨(T n).idle _,C.rely (U _ _ _ _ q) d⟩
  | exit a1 =>
   by_cases g:a1=id
   .simp only[na,g,if_true] at q;exact⟨k,by simp[exitTo,g],U _ _ _ _ q⟩
   .simp only[na,g,if_false] at q;have⟨t,m,p⟩:=U _ _ _ _ q;have:(id==a1)=false:=gq
    exact⟨t,by simp[exitTo,this,m],p⟩
  | ret=>exact U _ _ _ _ q
  | goto l=>exact U _ _ _ _ q
  | panic ch=>exact U _ _ _ _ q
  | outgrown=>exact U _ _ _ _ q
 exact C.step rfl λf d=>by rw[stepG_block];exact⟨(T vs).idle _,C.rely s d⟩
section
variable (C:Closed P main R D X)
section
variable (T:∀i,Terms (R i) D)
def Bi(I:Nat->ι->Act->World->Prop)(n:Nat)(Qq:I n vs a w)
 (round:∀n vs a w,I n vs a w->mH X fn c vs (E2 (λfE a' w'=>∃n',n'<n/\I n' fE a' w') Q) a w):mH X fn (.loop c) vs Q a w:=by
 intro b k cs hb hk hc;have key:∀n vs a w,I n vs a w->X vs (G (b.at a (.code c::.inLoop c::k)) cs) w:=by
  intro n;induction n using Nat.strongRecOn with
  | _ n ih =>
   intro vs a w hI;refine round n vs a w hI b (.inLoop c::k) cs hb hk λfE e a' w' q=>?_;cases e with
   | normal =>obtain⟨n',hn,Te⟩:=q;exact C.step rfl λaE cg=>by rw[stepG_inLoop];exact⟨(T fE).idle _,C.rely (ih n' hn fE a' w' Te) cg⟩
   | exit id=>exact(hc _ _ _ _ q).push rfl iq
   | ret=>exact(hc _ _ _ _ q).push (x:=.inLoop c) rfl iq
   | goto l=>exact hc _ _ _ _ q
   | panic ch=>exact hc _ _ _ _ q
   | outgrown=>exact hc _ _ _ _ q
 exact C.step rfl λaE cg=>by rw[stepG_loop];exact⟨(T vs).idle _,C.rely (key n vs a w Qq) cg⟩
def bX(h:lQ X fn ops (List.range ops.size) vs Q a w):mH X fn (.region id ops false) vs Q a w :=
 λb k cs hb hk hc=>C.step rfl λaE cg=>by rw[stepG_region];exact⟨(T vs).idle _,C.rely (h b k cs hb hk hc) cg⟩
def cG(h:Q vs .normal a w):lQ X fn ops [] vs Q a w:=λb k f _ _ e=>C.step rfl λd c=>by rw[stepG_region_end];exact⟨(T vs).idle _,C.rely (e _ _ _ _ h) c⟩
def vo(ho:ops[i]?=some o)(hw:Region.wanted o (yielded ops a.tmps)=false)(h:lQ X fn ops rest vs Q (a.put o.dst undef) w):lQ X fn ops (i::rest) vs Q a w :=
 λb k cs hb hk hc=>C.step rfl λaE cg=>by rw[stepG_unwanted ho hw];exact⟨(T vs).idle _,C.rely (h b k cs hb hk hc) cg⟩
end
end
theorem aP(C:Closed P main R D X)(p:ops[i]?=some o)(q:Region.wanted o (yielded ops a.tmps)=true)
 (h:∀U,R vs w U->∀K:Act->World->Prop,(∀f e,D U e (listed P fn a o U)/\lQ X fn ops rest vs Q f e->K f e)->uponK o a K ((execOp a.eval o).run P U)):lQ X fn ops (i::rest) vs Q a w:=by
 intro b k m j l n;refine C.step rfl λU c=>goes_oper p q l ?_
 have:=h U c _ λ_ _ x=>x;revert this;cases (execOp a.eval o).run P U with
 | ok x e=>cases x<;>first|exact λ⟨d,g⟩=>⟨j▸d,g b k m j l n⟩|exact id
 | halt _ _=>exact id
section
variable (C:Closed P main R D X)
def o0(g:∀w,R vs w w)(h:c.wpC P main (R vs) D fn n (λe j o=>Q vs e j o) a w):mH X fn c vs Q a w:=by
 intro b k p r u s;refine C.goes g (h b k p (X vs) 0 r u λe j o q=>?_)
 have:=s vs e j o q;cases e with
 | normal=>exact λf d=>C.rely this d
 | exit id=>obtain⟨v,m,t⟩:=this;exact⟨v,m,λf d=>C.rely t d⟩
 | ret=>exact λi f d=>C.rely (this i) d
 | goto l=>exact this
 | panic ch=>exact this
 | outgrown=>exact this
def aU(T:∀i,Terms (R i) D){x:Code}(b:∀w,R vs w w)(h:x.wpC P main (R vs) D fn n (Exit.then (λc d=>mH X fn y vs Q c d) (λe c d=>Q vs e c d)) a w):mH X fn (.seq x y) vs Q a w:=by refine fZ C T (o0 C b (n:=n) ?_);refine wpC_mono h λe c d q=>?_;cases e<;>exact q
end
theorem jz(ko:o.op=.call { callee:=.value x,args,argTypes:=ats })(hx:a.eval x=.func (.func f) first cap)
 (hf : P.funcs[f]? = some aS)(lm : (aS.name == "runtime.NumGoroutine") = false)(hb : aS.body.isNone = false) :
  (execOp a.eval o).run P w=.ok (.enter f (first++args.map a.eval++cap)) w/\(execOp a.eval o).events P w #[]=#[]:=by
 have h1 : ¬ aS.name = "runtime.NumGoroutine" := by grind
 have h2:¬aS.body=none:=gq
 constructor;iterate 2
  .unfold execOp;simp[ko,resolve,Deferred.ofValue,hx,invoke,callFunc,hf,h1,h2]
def Gy(C:Closed P main R D X)(T:∀i,Terms (R i) D)
 (ho:ops[i]?=some o)(hw:Region.wanted o (yielded ops a.tmps)=true)(ko:o.op=.call { callee:=.value x,args,argTypes:=ats })(hx:a.eval x=.func (.func f) first cap)
 (hf : P.funcs[f]? = some aS)(lm : (aS.name == "runtime.NumGoroutine") = false)(hb : aS.body = some c)
 (h:mH X f c vs (λfE e a' w'=>(e=.normal\/e=.ret)/\a'.defers=[]/\∃v,ResultsC P aS a'.tmps v/\lQ X fn ops rest fE Q (a.put o.dst v) w')
   { tmps:=(first++args.map a.eval++cap)++Array.replicate (aS.ntmps-(first++args.map a.eval++cap).size) undef,defers:=[] } w):lQ X fn ops (i::rest) vs Q a w:=by
 intro b k cs pP hk hc;have VM:aS.body.isNone=false:=by rw[hb]; rfl
 have zU:∀v,(b.at a (.inRegion ops (i::rest)::k)).finish v=b.at (a.put o.dst v) (.inRegion ops rest::k):=λv=>by rw[Frame.finish_at,ho]; rfl
 have ub:∀(fE:ι) (a':Act) (w':World) (todo:List Item),(a'.defers=[]/\∃v,ResultsC P aS a'.tmps v/\lQ X fn ops rest fE Q (a.put o.dst v) w') ->
   X fE (G { (base f).at a' todo with mode:=.returning } (b.at a (.inRegion ops (i::rest)::k)::cs)) w':=by rintro fE a' w' todo ⟨hd,v,hr,hp⟩;refine C.step rfl λaE cg=>?_;rw[stepG_leave rfl hd hf (hr aE).1 (hr aE).2,zU];exact⟨(T fE).idle _,C.rely (hp b k cs pP hk hc) cg⟩
 refine C.step rfl λaE cg=>?_;obtain⟨hr,he⟩:=jz ko hx hf lm VM;rw[stepG_enter ho hw hk hr,enter_at _ hf hb];have hl:listed P b.fn a o aE=#[]:=listed_nil he;rw[hl];refine⟨(T vs).idle _,C.rely (h (base f) [] _ rfl (by simp[base]) λfE e a' w' q=>?_) cg⟩;obtain⟨X5,q⟩:=q;rcases X5 with rfl|rfl
 .exact C.step rfl λoh I5=>by rw[stepG_end]; exact⟨(T fE).idle _,C.rely (ub fE a' w' [] q) I5⟩
 .exact λtodo=>ub fE a' w' todo q
def hM(P:Program)(X:ι->Goroutine->World->Prop)(f:FuncId)(args:Array Value)(vs:ι)(w:World)(Post:ι->Value->World->Prop):Prop :=
 ∃ aS c, P.funcs[f]? = some aS /\ (aS.name == "runtime.NumGoroutine") = false /\ aS.body = some c /\
  mH X f c vs (λfE e a' w'=>(e=.normal\/e=.ret)/\a'.defers=[]/\∃v,ResultsC P aS a'.tmps v/\Post fE v w') { tmps:=args++Array.replicate (aS.ntmps-args.size) undef,defers:=[] } w
def fp{args : Array Value}{Post : ι -> Value -> World -> Prop}(hf : P.funcs[f]? = some aS)(lm : (aS.name == "runtime.NumGoroutine") = false)(hb : aS.body = some c)
 (h:mH X f c vs (λfE e a' w'=>(e=.normal\/e=.ret)/\a'.defers=[]/\∃v,ResultsC P aS a'.tmps v/\Post fE v w') { tmps:=args++Array.replicate (aS.ntmps-args.size) undef,defers:=[] } w):hM P X f args vs w Post:=⟨aS,c,hf,lm,hb,h⟩
def cf(C:Closed P main R D X)(T:∀i,Terms (R i) D){first cap args':Aq}{wP:ι}{Post:ι->Value->World->Prop}
 (u:ops[i]?=some o)(y:Region.wanted o (yielded ops a.tmps)=true)(l:o.op=.call { callee:=.value x,args,argTypes:=ats })(z:a.eval x=.func (.func f) first cap)
 (d:first++args.map a.eval++cap=args')(m:vs=wP)
 (g:hM P X f args' wP w Post)(j:∀b v k,Post b v k->lQ X fn ops rest b Q (a.put o.dst v) k):lQ X fn ops (i::rest) vs Q a w:=by subst d m;have⟨n,c,s,t,r,h⟩:=g;refine Gy C T u y l z s t r (KW h λb e A k q=>?_);have⟨h1,h2,v,h3,p⟩:=q;exact⟨h1,h2,v,h3,j b v k p⟩
theorem Ar(C:Closed P main R D X)(T:∀i,Terms (R i) D)(h:OpC P (R vs) D fn ops i (λd e=>lQ X fn ops rest vs Q d e) a w):lQ X fn ops (i::rest) vs Q a w:=by
 unfold OpC at h;split at h
 .exact h.elim
 .rename_i o U
  split at h
  .rename_i hw
   exact aP C U hw λc b K f=>uponK_mono (λd e x=>f d e x) (h c b)
  .rename_i hw
   exact vo C T U gq h
def Ce{listed:Array Bool}(h:Region.ready .any ops listed=[]):∀fuel t,Region.linearise.go .any ops fuel t listed []=[]
 | 0,_=>rfl
 | fuel+1,t=>by
  simp only[Region.linearise.go];change (match (Region.ready .any ops listed)[t % (Region.ready .any ops listed).length]? with
   | some i=>Region.linearise.go .any ops fuel (t / (Region.ready .any ops listed).length) (listed.setIfInBounds i true) [i]
   | none=>[].reverse)=[];rw[h];rfl
def s8{a:Array Bool}{t:Nat}(h:(Region.ready .any ops a)[t % (Region.ready .any ops a).length]?=some i) :
  Region.linearise.go .any ops (fuel+1) t a []=i::Region.linearise.go .any ops fuel (t / (Region.ready .any ops a).length) (a.setIfInBounds i true) []:=by
 simp only[Region.linearise.go];change (match (Region.ready .any ops a)[t % (Region.ready .any ops a).length]? with
   | some i=>Region.linearise.go .any ops fuel (t / (Region.ready .any ops a).length) (a.setIfInBounds i true) [i]
   | none=>[].reverse)=_;rw[h];simp only[];rw[linearise_go_acc,List.reverse_singleton,List.singleton_append]
def sO(C:Closed P main R D X)(T:∀i,Terms (R i) D){S:World->Prop}{K:Act->World->Prop}(O:LetsDraw D)(V:P.follows .mixedOrders=true)(W:ops.size=n+1)
 (v:Array Bool->Bool)(y:v (Array.replicate (n+1) false)=true)(F:∀c:Array Bool,c.size=n+1->c[n]?=some false->v c=true->∀i∈Region.ready .any ops (c.setIfInBounds n true),v (c.setIfInBounds i true)=true)
 (m:∀c:Array Bool,c.size=n+1->c[n]?=some false->v c=true->Region.ready .any ops c=if Region.ready .any ops (c.setIfInBounds n true)=[] then [n] else Region.ready .any ops (c.setIfInBounds n true))
 (h:∀d,R vs w d->AnyCH P (R vs) D fn .any ops (λe o p=>e=.normal/\K o p) S n ((Array.replicate (n+1) false).setIfInBounds n true) a { d with drawn:=d.drawn+1 })
 (j:∀o p,K o p->lQ X fn ops [n] vs Q o p):mH X fn (.region id ops true) vs Q a w:=by
 have H:∀(f t:Nat) (c:Array Bool) (a:Act) (w:World),c.size=n+1->c[n]?=some false->v c=true->AnyCH P (R vs) D fn .any ops (λe o p=>e=.normal/\K o p) S f (c.setIfInBounds n true) a w ->
   lQ X fn ops (Region.linearise.go .any ops (f+1) t c []) vs Q a w:=by
  intro f;induction f with
  | zero =>
   intro t c a w u r g q;have s:Region.ready .any ops c=[n]:=by rw[m c u r g,ip q.1]
   rw[s8 (i:=n) (by rw[s];simp[Nat.mod_one]),Ce q.1];exact j a w q.2.2
  | succ f Y =>
   intro t c a w u r g q;by_cases z:Region.ready .any ops (c.setIfInBounds n true)=[]
   .have s:Region.ready .any ops c=[n]:=by rw[m c u r g,ip z]
    rw[s8 (i:=n) (by rw[s];simp[Nat.mod_one]),Ce z];exact j a w (q.1 z).2
   .have s:Region.ready .any ops c=Region.ready .any ops (c.setIfInBounds n true):=by rw[m c u r g,iw z]
    have B:0<(Region.ready .any ops c).length:=by rw[s];exact Eg.2 z
    obtain⟨i,J⟩:∃i,(Region.ready .any ops c)[t % (Region.ready .any ops c).length]?=some i:=⟨_,gE (Nat.mod_lt _ B)⟩;have l:i∈Region.ready .any ops (c.setIfInBounds n true):=by rw[<-s];exact mG J
    have A:i≠n:=by rintro rfl;have I:=(mem_ready.1 l).1;rw[D4,K4 oq] at I;simp at I
    rw[s8 J];refine Ar C T (OpC_mono (λo p x=>Y _ _ o p (by simpa using u) (by rw[uU A];exact r) (F c u r g i l) ?_) (q.2 i l));rw[Array.setIfInBounds_comm _ _ A];exact x.2
 intro b k L M U N;refine C.step rfl λd E=>?_;rw[stepG_region_draw];refine⟨O _,?_⟩;simp only[Region.schedule,V,Bool.true_or,if_true];have G:=H n (d.tape d.drawn (.order b.fn id)) (Array.replicate (n+1) false) a { d with drawn:=d.drawn+1 } iq iq y (h d E) b k L M U N;have e:Region.linearise .any ops (d.tape d.drawn (.order b.fn id))=Region.linearise.go .any ops (n+1) (d.tape d.drawn (.order b.fn id)) (Array.replicate (n+1) false) []:=by unfold Region.linearise;rw[W]
 rw[e];exact G
end
def fH:(∀{c:Type} (l:List c),l.toArray.size=l.length)/\(∀{c:Type} (a:c) (l:List c),(a::l).length=l.length+1)/\(∀{c:Type},([]:List c).length=0)/\(∀n:Nat,0+n=n)/\(∀n,List.range n=List.range.loop n [])/\(∀b,List.range.loop 0 b=b)/\(∀n b,List.range.loop (n+1) b=List.range.loop n (n::b)):=⟨λ_=>rfl,λ_ _=>rfl,rfl,Nat.zero_add,λ_=>rfl,λ_=>rfl,λ_ _=>rfl⟩
def SK:(∀{p:Prop} [Decidable p],(decide p=true)=p)/\(∀{p:Prop} [Decidable p],decide p=false↔¬p)/\(∀a b:Bool,((a&&b)=true)=(a=true/\b=true))/\(∀a b:Bool,((a||b)=true)=(a=true\/b=true))/\(∀{a b:Bool},(a&&b)=false↔a=false\/b=false)/\(∀{a b:Bool},(a||b)=false↔a=false/\b=false)/\(∀{b:Bool},(!b)=true↔b=false)/\(∀{b:Bool},(!b)=false↔b=true)/\(∀{a b:Int},¬a<=b↔b<a)/\(∀{a b:Int},¬a<b↔b<=a)/\(∀{c:Type} (a b:c),(a≠b)=¬(a=b)):=⟨decide_eq_true_eq,decide_eq_false_iff_not,lV,BM,by simp,by simp,by simp,by simp,Int.not_le,Int.not_lt,λ_ _=>rfl⟩
section
open Go.ConcN (sumTo upd sumTo_upd upd_ne upd_same)
def Ends (P:Program)(Post:Value->World->Prop)(M:Machine)(t:Trace):Prop :=
 ∃N last o w' t',runNT P (N+1) M t=(.ended o w',t')/\runN P N M=.next last/\step P last=.ended o w'/\Good P Post last o w' t'
def Ends.step{M:Machine}{ops:Array MemOp}(h:stepT P M=(.next M',ops))(b:Ends P Post M' (t++ops)):Ends P Post M t:=by
 have⟨N,a,o,e,d,h1,h2,h3,c⟩:=b;refine⟨N+1,a,o,e,d,?_,?_,h3,c⟩
 .rw[runNT];simp only[h];exact h1
 .rw[runN];simp only[Go.step,h];exact h2
theorem Ends.runs(U:Ends P Post M' t'):∀(N:Nat) (M:Machine) (t:Trace),runNT P N M t=(.next M',t')->Ends P Post M t
 | 0,M,t,h=>by simp only[runNT,Prod.mk.injEq,Stepped.next.injEq] at h;grind
 | N+1,M,t,h=>by
  rw[runNT] at h;cases e:stepT P M with
  | mk s ops =>
   rw[e] at h;cases s with
   | next m=>exact Ends.step e (Ends.runs U N m (t++ops) h)
   | _=>simp at h
structure Fr(P:Program)(Shun:Loc->Prop)(d:Nat)(gs:Array Goroutine)(a:Goroutine)(t:Trace)(q:Nat->Nat):Prop where
 h0:gs[0]?=some a
 old:Leavers P t gs q
 clean:∀said,¬Race said t
 known:∀i x,touchAt t i=some x->x.loc.isMemory=true->Knows t 0 i\/(Shun x.loc/\x.kind=.atomic)
 over:t.HandedOver
 deaf:Deaf t 0=d
def Fr.past{a:Goroutine}(h:Fr P Shun 0 gs a t q)(B:Nat):∃b,B<=b/\Past Shun b t:=by have⟨b,h1,h2⟩:=wM t B;exact⟨b,h1,h.clean,h.known,h.over,h.deaf,h2⟩
def pi(Ok:Nat->Prop)(N:Nat)(Shun:Loc->Prop):Prop:=∀l,Shun l->∃ad:Addr,l=.cell ad/\ad.block<N/\¬Ok ad.block
def Z (P:Program)(Post:Value->World->Prop)(Ok:Nat->Prop)(N d:Nat)(g:Goroutine)(w:World):Prop :=
 ∀(e:Nat) (Shun:Loc->Prop) (gs:Array Goroutine) (q:Nat->Nat) (t:Trace) (sl:Option (Nat × Nat)),pi Ok N Shun->Fr P Shun d gs g t q->Ends P Post (crowd gs (w.at e) sl) t
def Wj (Ok:Nat->Prop)(N:Nat)(e:Event):Prop:=(∀x,(MemAct.ofEvent e).touch?=some x->∀ad:Addr,x.loc=.cell ad->Ok ad.block\/N<=ad.block)/\e.loc≠.mark .disable/\e.loc≠.mark .enable
def DL (Ok:Nat->Prop)(N:Nat)(_ _:World)(es:Array Event):Prop:=∀e∈es,Wj Ok N e
section
variable {P:Program}{Post:Value->World->Prop}{Ok RR:Nat->Prop}{N N' d d':Nat}{g g':Goroutine}
def Fr.awake(h:Fr P Shun d gs g t q)(b:g.status=.running):∀x∈gs,Conc.awake x:=by
 intro x c;obtain⟨i,a,rfl⟩:=Array.mem_iff_getElem.1 c;rcases Nat.eq_zero_or_pos i with rfl|hp
 .have:gs[0]=g:=by simpa[gF a] using h.h0
  rw[this];exact awake_of (.inl b)
 .exact awake_of ((h.old.old i _ hp (gF a)).status.elim .inl λz=>.inr (.inr z))
theorem Fr.own{es:Array Event}(h:Fr P Shun d gs g t q)(p:∀e∈es,∀x,(MemAct.ofEvent e).touch?=some x->Shun x.loc->x.kind≠.plain)(u:deafBehind d es=d') :
  Fr P Shun d' ((gs.map (Conc.woken P g g' w')).setIfInBounds 0 g') g' (t++MemOp.ofEvents 0 g.frame.fn g.frame.place es) q:=by
 have n:0<gs.size:=(oK.1 h.h0).1;have c:∀j∈MemOp.ofEvents 0 g.frame.fn g.frame.place es,j.g=0:=iA;refine⟨by simp[n],h.old.own n _ _ es,λf=>noRace_append (h.clean f) c λi x m j a b s k=>?_,λi x m w=>?_,handedOver_app h.over λj a=>.inl (c j a),?_⟩
 .rcases h.known i x m k.2.1 with hk|⟨a3,U⟩
  .exact hk
  .obtain⟨e,v,rfl⟩:=Conc.mem_ofEvents a;have l:=p e v b s (k.1▸a3);rcases k.2.2.2 with z|z|⟨_,z,_⟩
   .rw[U] at z;cases z
   .exact absurd z l
   .rw[U] at z;cases z
 .have⟨y,o,r⟩:=touch_of m;rcases getElem?_append_cases o with ⟨_,G6⟩|⟨_,YS⟩
  .exact(h.known i x (by rw[touchAt_of G6];exact r) w).imp (·.app _) id
  .have:=knows_own o;grind
 .rw[Deaf_own,h.deaf];exact u
theorem Fr.slip{x:Goroutine}{sl:Option (Nat × Nat)}(h:Fr P Shun d gs g t q)(M:g.status=.running)(hi:gs[i]?=some x)(u:i≠0)(r:x.status=.running) :
  ∃c n D,runT P (crowd gs w sl) i=(.next (crowd c w sl),n)/\c.size=gs.size/\Fr P Shun d c g (t++n) D/\sumTo c.size D<sumTo gs.size q:=by
 have F:i<gs.size:=(oK.1 hi).1;have p:=h.old.old i x oq hi;have J:(i==0)=false:=by simp[u]
 cases a1:q i with
 | zero=>rw[a1] at p;rw[p.1] at r;cases r
 | succ k =>
  rw[a1] at p;rcases p with ⟨hf,_⟩|⟨_,x',es,hm,a3,a6⟩
  .rw[hf] at r;cases r
  have U:∀l∈MemOp.ofEvents i x.frame.fn x.frame.place es,l.g=i:=iA;have B:∀l∈MemOp.ofEvents i x.frame.fn x.frame.place es,l.act.touch?=none:=λl f=>by obtain⟨e,L,rfl⟩:=Conc.mem_ofEvents f;exact touch_mute (hm e L)
  refine⟨_,_,upd q i k,runT_crowd_go hi (by rw[J];exact a3 w),by simp,⟨?_,⟨λj z v s=>?_,λj v=>?_⟩,λo=>noRace_append (h.clean o) U λC a _ l f b K _=>gq,λC a I A=>?_,handedOver_app h.over λl f=>.inr (B l f),?_⟩,?_⟩
  .rw[uU u,Array.getElem?_map,h.h0];simp[woken_run M]
  .by_cases e:i=j
   .subst e;rw[K4 gq] at s;obtain rfl:=CX s;rw[upd_same,Deaf_own];exact a6
   .rw[uU e,Array.getElem?_map] at s;obtain⟨O,H,rfl⟩:=p7.1 s;have m:=h.old.old j O v H;rw[woken_quitsD m,upd_ne q k (Ne.symm e),Deaf_other t e _ U];exact m
  .have E:gs.size<=j:=by simpa using v
   rw[Deaf_other t oq _ U];exact h.old.above j E
  .have⟨y,N,G⟩:=touch_of I;rcases getElem?_append_cases N with ⟨_,G6⟩|⟨_,YS⟩
   .exact(h.known C a (by rw[touchAt_of G6];exact G) A).imp (·.app _) id
   .grind
  .rw[Deaf_other t u _ U];exact h.deaf
  .have h2:sumTo gs.size (upd q i k)+(k+1)=sumTo gs.size q+k:=by have:=sumTo_upd q k id F;simpa[a1] using this
   grind
def Z.pick(r:g.status=.running)
 (h:∀(e:Nat) (Shun:Loc->Prop) (a:Array Goroutine) (q:Nat->Nat) (t:Trace) (sl:Option (Nat × Nat)),pi Ok N Shun->Fr P Shun d a g t q->∃o b,runT P (crowd a (w.at e) sl) 0=(.next o,b)/\Ends P Post o (t++b)):Z P Post Ok N d g w:=by
 have s:∀(n:Nat) (e:Nat) (Shun:Loc->Prop) (a:Array Goroutine) (q:Nat->Nat) (t:Trace) (sl:Option (Nat × Nat)),sumTo a.size q=n->pi Ok N Shun->Fr P Shun d a g t q->Ends P Post (crowd a (w.at e) sl) t:=by
  intro n;induction n using Nat.strongRecOn with
  | _ n ih =>
   rintro e Shun a q t sl rfl m j;have⟨i,x,k,f,y,z,c⟩:=crowd_pick (P:=P) (w:=w.at e) (sl:=sl) (j.awake r) ⟨0,g,j.h0,r⟩;have u:(w.at e).at k=w.at k:=rfl;rw[u] at c;by_cases l:i=0
   .subst l;have⟨o,b,h1,h2⟩:=h k Shun a q t f m j;exact Ends.step (c.trans h1) h2
   .have⟨p,b,A,h1,_,h3,v⟩:=j.slip (w:=w.at k) (sl:=f) r y l z;exact Ends.step (c.trans h1) (ih _ v k Shun p A _ f rfl m h3)
 exact λe Shun a q t sl m j=>s _ e Shun a q t sl rfl m j
def Z.closed:Closed P true (λ_:Unit=>AtRel) (DL Ok N) (λ_=>Z P Post Ok N d) where
 rely:=by
  rintro _ g w _ h ⟨e,rfl⟩ p a n q t m f c
  exact h p a n q t m f c
 step:=by
  intro _ g w s h
  refine Z.pick s λe a n q t m f c=>?_
  have j:=h (w.at e) ⟨e,rfl⟩
  cases eq:stepG P true g (w.at e) with
  | go g' w' es =>
   rw[eq,goes_go] at j
   have⟨k,v⟩:=j
   refine⟨_,_,runT_crowd_go c.h0 (show stepG P (0==0) g (w.at e)=_ from eq),?_⟩
   exact v w'.drawn a _ q _ m f (c.own (λb i x u l=>by
    have⟨o,e1,y,r⟩:=f _ l
    rcases(k b i).1 x u o e1 with z|z
    .
     exact absurd z r
    .
     omega) (deafBehind_still (λb i=>⟨(k b i).2.1,(k b i).2.2⟩) _))
  | _=>rw[eq] at j;exact j.elim
def Z.done{v:Value}(m:g.status=.running)(a:∀e,stepG P true g (w.at e)=.ended (.done v) (w.at e) #[])(l:∀e,Post v (w.at e)):Z P Post Ok N 0 g w:=by intro e Shun p q t sl r c;have⟨B,_,k⟩:=c.past 0;exact beside_ends (Shun:=Shun) (B:=B) (D:=λ_ _ f=>f=#[]) (n:=0) (sl:=sl) (λ_ _ f h o i=>by rw[h] at i;simp at i) c.h0 c.old k (λj b=>by obtain⟨d,rfl⟩:=b;exact⟨m,v,#[],a d,by simp,l d⟩)
structure Forked(P:Program)(Post:Value->World->Prop)(Shun:Loc->Prop)(g' child:Goroutine)(w:World)(K:Cfg)(I1:ConcX.Payload)(I2:ConcR.Payload)(I3:ConcX.Shy K.Wg K.C)(Az:Gq)(rO:Value->World->Prop)(vs:Vq)(RR:Nat->Prop)(N':Nat):Prop where
 prog:K.P=P
 fit:K.Fit
 ety:I1.ety=I2.ety
 shy:mP K
 ar:∀g w,Az g w->g.status=.running
 an:∀L,K.N0<=L->∀g w,Az g w->∃m,Goes K.P true (iv K) (mL K L) (jG K L Az rO) m g w
 sh1:∀l,Shun l->K.Shun l
 sh2:pi RR N' K.Shun
 nU:Way K.P false (RC K) (DK K) (nF K vs) child w
 main:Way K.P true (RM K) (DM K) (j1 K Az vs) g' w
 size:K.N0<=w.heap.size
 wg:K.qB w KK 0
 vH:w.heap[K.A]?=some (.chan 0 #[] false 0 0 false)
 yq:w.heap[K.E]?=some (.chan 0 #[] false 0 0 false)
 pay:ConcN.PayAt K.C 1 w
 stop:∀a w,I3.stop a w->Z P Post RR N' 0 a w
theorem Z.fork{child:Goroutine}(hs:g.status=.running)(YI:∀e,stepG P true g (w.at e)=.spawn g' child (w.at e) #[])
 (h:∀(e:Nat) (Shun:Loc->Prop),pi Ok N Shun->∃K I1 I2 I3 Az rO vs RR N',Forked P Post Shun g' child (w.at e) K I1 I2 I3 Az rO vs RR N'):Z P Post Ok N 0 g w:=by
 refine Z.pick hs λe Shun gs q t sl hS hF=>?_;have⟨K,I1,I2,I3,Az,rO,vs,RR,N',X⟩:=h e Shun hS;obtain rfl:=X.prog;have kF:0<gs.size:=(oK.1 hF.h0).1;have⟨B,_,hP⟩:=hF.past 0;refine⟨_,_,runT_crowd_spawn (sl:=sl) hF.h0 (show stepG K.P (0==0) g (w.at e)=_ from YI e),?_⟩;have Yt:((MemOp.ofEvents 0 g.frame.fn g.frame.place #[]).push { g:=0,fn:=g.frame.fn,pos:=g.frame.place,act:=.go gs.size }).push { g:=gs.size,fn:=child.frame.fn,pos:=g.frame.place,act:=.start }
   = #[{ g:=0,fn:=g.frame.fn,pos:=g.frame.place,act:=.go gs.size },{ g:=gs.size,fn:=child.frame.fn,pos:=g.frame.place,act:=.start }]:=rfl;rw[Yt];have xm:∀j,∀op∈(#[{ g:=0,fn:=g.frame.fn,pos:=g.frame.place,act:=.go gs.size },{ g:=gs.size,fn:=child.frame.fn,pos:=g.frame.place,act:=.start }]:Trace),∀d,deafStep j d op=d:=by intro j op ko d;simp only[List.mem_toArray,nk,vh,or_false] at ko;rcases ko with rfl|rfl<;>rfl
 have⟨dZ,YU⟩:=X.nU;have⟨et,YV⟩:=X.main;have hJ:J K 0 Az rO (K.dT (w.at e)) gs.size (.fresh vs) (.front vs) dZ et ((gs.setIfInBounds 0 g').push child) g' child (w.at e) (t++#[{ g:=0,fn:=g.frame.fn,pos:=g.frame.place,act:=.go gs.size },{ g:=gs.size,fn:=child.frame.fn,pos:=g.frame.place,act:=.start }]) q:=by
  refine⟨kF,?_,?_,λi z hi hic hz=>?_,λj hj=>?_,YU,YV,⟨KK,0,⟨rfl,rfl,rfl⟩,X.wg⟩,⟨0,X.vH⟩,X.yq,X.pay,λz=>(by cases z),λ_ _=>Iff.rfl,λ_ hb=>.inl hb,⟨_,λ_ hb=>hb⟩,λ_=>X.size,(λz=>by cases z),λ_ i z hz=>?_,?_,?_,?_⟩
  .rw[Array.getElem?_push_lt gq]; simp
  .have e1:gs.size=(gs.setIfInBounds 0 g').size:=iq
   conv=>lhs; rw[e1]
   exact Array.getElem?_push_size
  .rw[Deaf_quiet (xm i)];rw[Array.getElem?_push,iw (by simp; omega),uU oq] at hz;exact hF.old.old i z hi hz
  .rw[Deaf_quiet (xm j)];exact hF.old.above j gq
  .have hPT:=PT.fork (dT:=λ_=>True) (Still:=λ_=>False) hP (hF.old.above _ lr) X.sh1 g.frame.fn child.frame.fn g.frame.place;cases hl:z.loc with
   | cell ad =>
    rcases hPT.known i z hz (by rw[hl]; rfl) with k|k
    .exact .inr (.inr gq)
    .exact .inr (.inl (k.nU trivial))
   | obj ob =>
    rcases hPT.known i z hz (by rw[hl]; rfl) with k|k
    .exact .inr (.inr gq)
    .exact .inr (.inl (k.nU trivial))
   | _=>exact .inl ⟨λad e=>(by cases e),λad e=>(by cases e)⟩
  .exact PT.fork hP (hF.old.above _ lr) X.sh1 _ _ _
  .rw[Deaf_quiet (xm 0)]; exact hF.deaf
  .rw[Deaf_quiet (xm gs.size)]; exact hF.old.above _ lr
 obtain⟨n,M,T,hr,gs2,a2,w2,sl2,q2,B2,m2,L2,rfl,_,h02,hL2,VI,hB2,hG2⟩:=GA X.fit X.ety X.ar X.shy X.an _ _ _ _ _ _ _ _ _ _ _ _ q sl rfl hJ;refine Ends.runs ?_ n _ _ hr;have⟨n3,gs3,a3,w3,sl3,T3,q3,hr3,_,h03,hS3,hL3,VJ⟩:=walk_beside (Shun:=K.Shun) (B:=B2) (λ_ _ es hD ev he=>by
  obtain ⟨h1, h2, h3⟩:=hD.2 ev he;obtain ⟨_, _, _, hk⟩ := h1 0 ""
  have⟨k1,k2⟩:=X.shy.ok _ hk;refine⟨λx hx Bw=>?_,h2,h3,MemAct.low_mono hB2 k2⟩;rcases k1 x hx with ⟨ad,e1,e2⟩|k
  .rw[e1] at Bw;exact absurd Bw (X.fit.k0h ad (by rw[e2]; exact X.fit.Lc))
  .have⟨_,_,_,k⟩:=k; exact k) _ m2 gs2 a2 w2 sl2 T q2 lr h02 hL2 VI hG2
 refine Ends.runs ?_ n3 _ _ hr3;exact X.stop a3 w3 hS3.2 w3.drawn K.Shun gs3 q3 T3 sl3 X.sh2 ⟨h03,hL3,VJ.clean,VJ.known,VJ.over,VJ.hears⟩
end
end
end Go.Proofs.YtgcaionclkbehaaGreatDoor
