import Derived.Test.YtgcaionclkbehaaGreatDoorPairRun
import Derived.Conc.CompanyMem
import Derived.Conc.FxBegin
set_option linter.all false
set_option maxHeartbeats 2000000
set_option maxRecDepth 100000
namespace Go.Proofs.YtgcaionclkbehaaGreatDoor
open Go.Conc
variable {e:Event}{f fn:FuncId}{pos:String}{sm Kk st Ht:Int}{b₀ fuel id n:Nat}{x:Operand}{c y:Code}{t t':Trace}{ops:Array Oper}{rest:List Nat}{aJ:Func}{cap first:Array Value}{args:Array Operand}{ats:Array TypeId}{P:Program}{Post:Value→World→Prop}{M':Machine}{Shun:Loc→Prop}{gs:Array Goroutine}{q:Nat→Nat}
section
open Go.ConcN (sumTo upd sumTo_upd upd_ne upd_same)
variable {K:Cfg}[Go.ConcX.Payload][Go.ConcR.Payload][Go.ConcX.Shy K.Wg K.C]{AnchW:Gq}{Post:Value→World→Prop}
variable {L:Nat}{S S':Nat→Prop}{c:Nat}{x x':Ch}{y y':Ma}{du dJ dD cM:Tr}{gs gA:Array Goroutine}{a a' b b':Goroutine}{w w':World}{t u:Trace}{q:Nat→Nat}{sl:Option (Nat × Nat)}{es:Array Event}
theorem Next.child(h:∃gA ops,runT K.P (crowd gs w sl) c=(.next (crowd gA w' sl),ops)∧gA.size=gs.size∧J K L AnchW Post S' c x' y' dD cM gA a' b' w' (t++ops) q)(U:∀n,HY (mu n x' y' dD cM) (mu n x y du dJ)) :
  Next K AnchW Post c (runT K.P (crowd gs w sl) c) t gs.size (mu (sumTo gs.size q) x y du dJ):=by obtain⟨gA,ops,e,hs,hJ⟩:=h;exact .inr ⟨L,S',x',y',dD,cM,gA,a',b',w',sl,q,ops,e,hs,hJ,.single (U _)⟩
theorem gV(h:y'=y∨(y=.blk∧y'=.w3)):y'.early=y.early:=by rcases h with rfl|⟨rfl,rfl⟩<;>rfl
theorem L4(h:Im K w' e):(∀z,(MemAct.ofEvent e).touch?=some z→N8 K.Shun (K.MZ w') K.fi z)∧e.loc≠.mark .disable∧e.loc≠.mark .enable:=by
 rcases h with ⟨ad,wr,rfl,U⟩|⟨b,wr,rfl,U⟩
 ·refine⟨fun z hz=>?_,by simp,by simp⟩;rw[ofEvent_cell0] at hz;simp only[MemAct.touch?,Option.some.injEq] at hz;subst hz;rcases U with U|⟨U,rfl⟩
  ·exact .inl (.inl ⟨ad,rfl,U⟩)
  ·exact .inr (.inl ⟨⟨ad,rfl,U⟩,rfl⟩)
 ·refine⟨fun z hz=>?_,by simp,by simp⟩;have hl:z.loc=.obj b:=by cases wr<;>(simp[MemAct.ofEvent,MemAct.touch?] at hz; rw[← hz])
  exact .inl (.inr (.inr ⟨b,hl,U⟩))
theorem vW(F:K.Fit)(hn:K.N0≤w.heap.size)(hS:∀b,S b→K.dy w b){z:Touch}(h:N8 K.Shun (K.iz S) K.fi z):jf w.heap.size z.loc:=by
 refine⟨fun ad e=>?_,fun b e=>?_⟩
 ·rcases h with (⟨a,U,h⟩|U|⟨a,U,h⟩)|⟨⟨a,U,h⟩,_⟩|⟨h,_⟩
  ·rw[e] at U; cases U; exact(hS _ h).lt F hn
  iterate 2
   ·rw[e] at U; cases U
  ·rw[e] at U; cases U; exact Nat.lt_of_lt_of_le (F.s0 _ h) hn
  ·obtain⟨a,U,h⟩:=F.jo _ h; rw[e] at U; cases U; exact Nat.lt_of_lt_of_le h hn
 ·rcases h with (⟨a,U,h⟩|U|⟨a,U,h⟩)|⟨⟨a,U,h⟩,_⟩|⟨h,_⟩
  ·rw[e] at U; cases U
  ·rw[e] at U; cases U; exact Nat.lt_of_lt_of_le F.E0 hn
  ·rw[e] at U; cases U; exact(hS _ h).lt F hn
  ·rw[e] at U; cases U
  ·obtain⟨a,U,h⟩:=F.jo _ h; rw[e] at U; cases U
theorem L6(F:K.Fit)(h:Go.ConcN.EvW K.Wg (Ly K S) (TJ K) 1 e):(∀z,(MemAct.ofEvent e).touch?=some z→N8 K.Shun (K.iz S) K.fi z)∧e.loc≠.mark .disable∧e.loc≠.mark .enable:=by
 obtain ⟨h1, h2, h3, _⟩:=h;refine ⟨fun z hz=>?_, h2, h3⟩;rcases (h1 0 "").2 z hz with ⟨⟨ad, e1, e2⟩, k1, k2⟩ | k | ⟨k1, k2⟩
 ·refine .inr (.inr ⟨by rw[e1]; exact F.Ll ad e2,?_⟩);cases e:z.kind<;>simp_all
 ·exact .inl k
 ·exact .inr (.inl ⟨k1,k2⟩)
theorem nU.E1(F:K.Fit)(hS:∃w,∀b,S b→K.dy w b)(h:nU K S c false t)(U:∀e∈es,∀z,(MemAct.ofEvent e).touch?=some z→N8 K.Shun (K.iz S) K.fi z):nU K S c false (t++MemOp.ofEvents c fn pos es) :=
 PT.E1 (F.apart hS) h gS (fun op a0 z hz=>by obtain⟨e,he,rfl⟩:=Conc.mem_ofEvents a0; exact U e he z hz)
theorem rY(U:∀k,k≠b₀→w'.heap[k]?=w.heap[k]?)(hb:b₀<K.N0)(b:Nat):K.dy w b↔K.dy w' b:=by
 by_cases e:b=b₀
 ·subst e; exact⟨fun h=>.inl (h.low hb),fun h=>.inl (h.low hb)⟩
 ·exact⟨fun h=>h.of_same (U b e),fun h=>h.of_same (U b e).symm⟩
theorem yZ(a0:∀e∈es,(∃ad wr,e=⟨.cell ad,wr,true⟩∧ad.block=K.Wg)∨e.loc=.mark .disable∨e.loc=.mark .enable):∀e∈es,∀z,(MemAct.ofEvent e).touch?=some z→(∃ad:Addr,z.loc=.cell ad∧ad.block=K.Wg):=by
 intro e he z U;rcases a0 e he with ⟨a,wr,rfl,hb⟩|h1|h1
 ·have e1:MemAct.ofEvent ⟨.cell a,wr,true⟩=.access ⟨.cell a,wr,true⟩:=rfl;rw[e1] at U;simp only[MemAct.touch?,Option.some.injEq] at U;subst U;exact⟨a,rfl,hb⟩
 iterate 2
  ·obtain⟨a1,wr,sy⟩:=e;simp only at h1;subst h1;cases U
theorem oJ(F:K.Fit)(ht:w'.tape=w.tape)(ho:w'.os=w.os)(hu:w'.output=w.output)(U:∀k,k≠K.C→k≠K.Wg→w'.heap[k]?=w.heap[k]?)(a1:w'.heap.size=w.heap.size)
 (hw:K.oX w st sm)(a2:K.oX w' Ht Kk)
 (ha:(st=KK∧sm=0∧((Ht=KK∧Kk=0)∨(Ht=0∧Kk=0∧wS K w'))∧(y=.kd∨y=.w1∨y=.w2)) ∨
   (sm=0∧(y=.w3∨y=.blk)∧(Kk=0∧(Ht=KK+1∨Ht=1∨Ht=0)∨(Ht=0∧Kk=1∧wS K w')))∨((∃vs,y=.walk vs)∨y=.over)):nR K y w w':=by
 have hX:Go.ConcX.WgAt K.ty K.Wg w st sm:=hw;have Oh:Go.ConcX.WgAt K.ty K.Wg w' Ht Kk:=a2;have Of:Go.ConcX.Aside2 K.C K.Wg w w':=⟨ht,ho,hu,a1,U⟩;rcases ha with ⟨rfl,rfl,a0,hy⟩|⟨rfl,hy,a0⟩|hyr
 ·have:gQ K w w':=by
   refine⟨Of,fun _=>?_,fun hk=>?_⟩
   ·rcases a0 with ⟨rfl,rfl⟩|⟨rfl,rfl,hf⟩
    ·exact .inl Oh
    ·exact .inr ⟨Oh,hf⟩
   ·exact absurd (hX.unique hk.1).1 (by decide)
  rcases hy with rfl|rfl|rfl<;>exact this
 ·have:zB K w w':=by
   refine⟨Of,fun _=>?_,fun hk=>?_⟩
   ·rcases a0 with ⟨rfl,rfl|rfl|rfl⟩|⟨rfl,rfl,hf⟩
    ·exact .inl Oh
    ·exact .inr (.inl Oh)
    ·exact .inr (.inr (.inl Oh))
    ·exact .inr (.inr (.inr ⟨Oh,hf⟩))
   ·exact absurd (hX.unique hk.1).2 (by decide)
  rcases hy with rfl|rfl<;>exact this
 ·have:RM K w w':=⟨ht,ho,hu,fun k _ h1 h2=>U k (fun e=>h1 (e▸F.kC w)) (fun e=>h2 (.inr (.inr e))),Nat.le_of_eq a1.symm⟩;rcases hyr with ⟨vs,rfl⟩|rfl<;>exact this
section
variable (F:K.Fit)(ye:Go.ConcX.Payload.ety=Go.ConcR.Payload.ety)(gB:∀g w,AnchW g w→g.status=.running)
theorem qd(F:K.Fit)(gB:∀g w,AnchW g w→g.status=.running)(h:J K L AnchW Post S c x y du dJ gs a b w t q){vs:Vq}(hx:x=.fresh vs∨x=.work vs)(a5:stepG K.P false b w=.go b' w' es)(hd:DK K w w' es)(a2:ze K (K.dy w') x dD b' w')(hs:Sub dD du) :
  Next K AnchW Post c (runT K.P (crowd gs w sl) c) t gs.size (mu (sumTo gs.size q) x y du dJ):=by
 obtain⟨st,sm,hp,hw⟩:=h.pair;have Te:RM K w w':=⟨hd.tape,hd.os,hd.output,fun k hl hk _=>hd.block k hl hk,hd.grow⟩;have Dq:y.early=true∧nR K y w w':=by rcases hx with rfl|rfl<;>cases y using Ma.bJ<;>first|exact hp.elim|exact⟨rfl,Te⟩
 have hn:=h.size Dq.1;have hA:∃s,w'.heap[K.A]?=some (.chan 0 #[] false s s false):=by obtain⟨s,hs⟩:=h.tN; exact⟨s,(hd.block _ (Nat.lt_of_lt_of_le F.A0 hn) (F.kA w)).trans hs⟩
 have hE:w'.heap[K.E]?=some (.chan 0 #[] x.shut 0 0 false):=(hd.block _ (Nat.lt_of_lt_of_le F.E0 hn) (F.kE w)).trans h.wG;have Gg:x.shut=false:=by rcases hx with rfl|rfl<;>rfl
 have a0:x.rel=false:=by rcases hx with rfl|rfl<;>rfl
 have a4:x.deaf=0:=by rcases hx with rfl|rfl<;>rfl
 obtain⟨y',cM,a6,a1⟩:=(h.ma.rely Dq.2).woken gB (g:=b) (g':=b') hA (fun _=>by rw[Gg] at hE; exact hE);have ju:∀e∈es,_:=fun e he=>L4 (hd.evs e he);have Dj:K.N0≤w'.heap.size:=Nat.le_trans hn hd.grow;refine Next.child (J.iZ (S':=K.dy w') h a5 a6 (iT a1) (gV a1) a2 ⟨st,sm,fg a1 hp,(hd.block _ (Nat.lt_of_lt_of_le F.W0 hn) (F.kW w)).trans hw⟩ hA hE ?_ (fun hr=>by rw[a0] at hr; cases hr)
  (fun _ _=>Iff.rfl) (fun _ hb=>.inl hb) ⟨w',fun _ hb=>hb⟩ hd.grow (fun z=>by rw[Dq.1] at z; cases z) (fun _ e he z hz=>vW F Dj (fun _ hb=>hb) ((ju e he).1 z hz)) ?_ ?_) fun _=>kI rfl rfl hs
 ·obtain⟨cs,a3,hn⟩:=h.pay; exact⟨cs,hd.keep.trans a3,hn⟩
 ·have:=h.tr;rw[a0] at this ⊢;refine nU.E1 F ⟨w',fun _ hb=>hb⟩ (this.grow (fun b hb=>hd.stay b ((h.mA Dq.1 b).1 hb)) (fun i z hz hk=>?_)) fun e he=>(ju e he).1;rcases h.DF Dq.1 i z hz with Ap|Ap|Ap
  ·refine .inl ?_;rcases hk with ⟨ad,e,hk⟩|e|⟨b,e,hk⟩
   ·refine .inl ⟨ad,e,(h.mA Dq.1 _).2 ?_⟩;by_cases U:K.dy w ad.block
    ·exact U
    ·exact hk.of_same (hd.block _ (Ap.1 ad e) U).symm
   ·exact .inr (.inl e)
   ·refine .inr (.inr ⟨b,e,(h.mA Dq.1 _).2 ?_⟩);by_cases U:K.dy w b
    ·exact U
    ·exact hk.of_same (hd.block _ (Ap.2 b e) U).symm
  ·exact .inr (.inl ⟨rfl,Ap⟩)
  ·exact .inr (.inr Ap)
 ·rw[a4]; exact deafBehind_still (fun e he=>⟨(ju e he).2.1,(ju e he).2.2⟩) _
theorem vj(F:K.Fit)(gB:∀g w,AnchW g w→g.status=.running)(h:J K L AnchW Post S c x y du dJ gs a b w t q)(hx:x=.fresh []∨x=.work [])(hs:AtClose K b w):Next K AnchW Post c (runT K.P (crowd gs w sl) c) t gs.size (mu (sumTo gs.size q) x y du dJ):=by
 obtain⟨Yt,Ot,QM,g',QC,ul,uk⟩:=hs;obtain⟨st,sm,hp,hw⟩:=h.pair;have Gg:x.shut=false:=by rcases hx with rfl|rfl<;>rfl
 have Gd:x.rel=false:=by rcases hx with rfl|rfl<;>rfl
 have hdf:x.deaf=0:=by rcases hx with rfl|rfl<;>rfl
 have hE:=h.wG;rw[Gg] at hE;have hgo:=ul hE;have off:∀k,k≠K.E→(w.setChan K.E 0 #[] true 0 0 false).heap[k]?=w.heap[k]?:=fun k hk=>heap_setChan_ne w _ _ _ _ _ _ (Ne.symm hk);have hA:∃s,(w.setChan K.E 0 #[] true 0 0 false).heap[K.A]?=some (.chan 0 #[] false s s false):=by obtain⟨s,hs⟩:=h.tN; exact⟨s,(off _ F.AE).trans hs⟩
 have Te:RM K w (w.setChan K.E 0 #[] true 0 0 false):=⟨rfl,rfl,rfl,fun k _ _ hk=>off k (fun e=>hk (.inr (.inl e))),by simp[World.setChan]⟩;have QN:K.oX (w.setChan K.E 0 #[] true 0 0 false) st sm:=(off _ (Ne.symm F.EW)).trans hw;have QG:st=KK∧sm=0:=by rcases hx with rfl|rfl<;>cases y using Ma.bJ<;>first|exact hp.elim|exact hp.2
 obtain⟨rfl,rfl⟩:=QG;have th:∃cM,wU K L AnchW Post (.walk []) cM (Conc.woken K.P b g' (w.setChan K.E 0 #[] true 0 0 false) a) (w.setChan K.E 0 #[] true 0 0 false):=by
  have F4:(∃τ,aY K.P true (RM K) (DM K) (iE K AnchW []) τ a w)∨(∃Aj cm,a=parked cm K.cases .select∧mZ K AnchW [] Aj cm w):=by
   have th:=h.ma;rcases hx with rfl|rfl
   ·cases y using Ma.bJ with
    | front vs=>obtain rfl:vs=[]:=hp.1; exact .inl ⟨_,th⟩
    | ep vs=>obtain rfl:vs=[]:=hp.1; exact .inr th
    | _=>exact hp.elim
   ·cases y using Ma.bJ with
    | walk vs=>obtain rfl:vs=[]:=hp.1; exact .inl ⟨_,th⟩
    | ep vs=>obtain rfl:vs=[]:=hp.1; exact .inr th
    | _=>exact hp.elim
  rcases F4 with ⟨τ,nO⟩|⟨Aj,cm,rfl,rU⟩
  ·rw[woken_run (aY.running RM.refl (fun _ _=>iE.run) nO)];exact⟨τ,aY.rely (R:=RM K) (fun _ _ _=>RM.trans) nO Te⟩
  ·have e1:Conc.woken K.P b g' (w.setChan K.E 0 #[] true 0 0 false) (parked cm K.cases .select)={ parked cm K.cases .select with status:=.running }:=by unfold Conc.woken;rw[if_pos (by simp[QM,QC])];exact again_some_closed (k:=1) (c:=K.E) (z:=K.zE) rfl (heap_setChan_self w hE _ _ _ _ _ _)
   rw[e1];exact⟨.leaf,.leaf fun aB aF=>(rU.rely (Te.trans aF)).tries⟩
 obtain⟨cM,th⟩:=th;have Ia:RC K w (w.setChan K.E 0 #[] true 0 0 false):=fun k hk=>off k (by rintro rfl; exact hk.elim (F.kE w) F.sE);obtain⟨dD,De⟩:=uk _ Ia ⟨_,_,QN⟩;have eC:=Ia K.C (.inl (F.kC w));have Dq:y.early=true:=by rcases hx with rfl|rfl<;>cases y using Ma.bJ<;>first|exact hp.elim|rfl
 have Qk:∀b,K.dy w b↔K.dy (w.setChan K.E 0 #[] true 0 0 false) b:=rY off F.E0;have kH:(w.setChan K.E 0 #[] true 0 0 false).heap.size=w.heap.size:=by simp[World.setChan]
 have PU:∀e∈closeEvents K.E,∀z,(MemAct.ofEvent e).touch?=some z→N8 K.Shun (K.MZ (w.setChan K.E 0 #[] true 0 0 false)) K.fi z:=fun e he z hz=>by
  simp only[closeEvents,List.mem_toArray,List.mem_cons,List.not_mem_nil,or_false] at he;rcases he with rfl|rfl
  ·simp only[MemAct.ofEvent,MemAct.touch?,Option.some.injEq] at hz;subst hz;exact .inl (.inr (.inl rfl))
  ·simp[MemAct.ofEvent,MemAct.touch?] at hz
 refine Next.child (J.iZ (x':=.r0) (S':=K.dy (w.setChan K.E 0 #[] true 0 0 false)) h hgo th (by rcases hx with rfl|rfl<;>cases y using Ma.bJ<;>first|exact hp.elim|rfl) (by rw[Dq]; rfl) De ⟨_,_,⟨rfl,rfl,rfl⟩,QN⟩ hA (heap_setChan_self w hE _ _ _ _ _ _) ?_ (fun hr=>by cases hr)
  (fun _ _=>Iff.rfl) (fun _ hb=>.inl hb) ⟨_,fun _ hb=>hb⟩ (Nat.le_of_eq kH.symm) (fun z=>by rw[Dq] at z; cases z) (fun _ e he z hz=>vW F (by rw[kH]; exact h.size Dq) (fun _ hb=>hb) (PU e he z hz)) ?_ ?_) fun _=>q9 (by rcases hx with rfl|rfl<;>rfl) (by rcases hx with rfl|rfl<;>simp[Ch.fX])
 ·obtain⟨cs,sO,hn⟩:=h.pay; exact⟨cs,eC.trans sO,hn⟩
 ·have:=h.tr;rw[Gd] at this;exact nU.E1 F ⟨_,fun _ hb=>hb⟩ (this.grow (fun b hb=>(Qk b).1 ((h.mA Dq b).1 hb)) (fun i z hz hk=>.inl (Cfg.iz.mono (fun b hb=>(h.mA Dq b).2 ((Qk b).2 hb)) hk))) PU
 ·rw[hdf]; rfl
theorem jg(gB:∀g w,AnchW g w→g.status=.running)(h:J K L AnchW Post S c x y du dJ gs a b w t q)(U:x.shut=true)(hp:jU x y st sm)(hr:nR K y w w')(hA:∃s,w'.heap[K.A]?=some (.chan 0 #[] false s s false)) :
  ∃y' cM,wU K L AnchW Post y' cM (Conc.woken K.P b b' w' a) w'∧(y'=y∨(y=.blk∧y'=.w3)) :=
 (h.ma.rely hr).woken gB hA (fun ⟨vs,e⟩=>by subst e; rw[qx hp] at U; cases U)
theorem Fu(F:K.Fit)(gB:∀g w,AnchW g w→g.status=.running)(h:J K L AnchW Post S c .r0 y du dJ gs a b w t q)(hgo:stepG K.P false b w=.go b' w' es)(hd:DJ K S w w' es)(De:ze K S .r0 dD b' w')(hs:Sub dD du) :
  Next K AnchW Post c (runT K.P (crowd gs w sl) c) t gs.size (mu (sumTo gs.size q) .r0 y du dJ):=by
 obtain⟨iy,ju⟩:=hd;obtain⟨st,sm,hp,hw⟩:=h.pair;have F3:∀k,k≠K.C→w'.heap[k]?=w.heap[k]?:=iy.block;have hA:∃s,w'.heap[K.A]?=some (.chan 0 #[] false s s false):=by obtain⟨s,hs⟩:=h.tN; exact⟨s,(F3 K.A (fun e=>F.Wr (by rw[e]; exact F.Ie))).trans hs⟩
 have wK:K.oX w' st sm:=(F3 _ (Ne.symm F.CW)).trans hw;have Gd:nR K y w w':=by
  refine oJ F iy.tape iy.os iy.output (fun k h1 _=>F3 k h1) iy.size hw wK ?_;cases y using Ma.bJ with
  | walk vs=>exact .inr (.inr (.inl ⟨vs,rfl⟩))
  | over=>exact .inr (.inr (.inr rfl))
  | kd=>exact .inl ⟨hp.1,hp.2,.inl hp,.inl rfl⟩
  | w1=>exact .inl ⟨hp.1,hp.2,.inl hp,.inr (.inl rfl)⟩
  | w2=>exact .inl ⟨hp.1,hp.2,.inl hp,.inr (.inr rfl)⟩
  | w3=>exact .inr (.inl ⟨hp.2,.inl rfl,.inl ⟨hp.2,.inl hp.1⟩⟩)
  | blk=>exact .inr (.inl ⟨hp.2,.inr rfl,.inl ⟨hp.2,.inl hp.1⟩⟩)
  | _=>exact hp.elim
 obtain⟨y',cM,th,tq⟩:=jg (b':=b') gB h rfl hp Gd hA;have Ji:∀e∈es,_:=fun e he=>L6 F (ju e he);have Qk:∀b,K.dy w b↔K.dy w' b:=rY F3 (F.c0 _ F.Ie);refine Next.child (J.iZ (S':=S) h hgo th (iT tq) (gV tq) De ⟨st,sm,fg tq hp,wK⟩ hA ((F3 K.E (fun e=>F.YG (by rw[e]; exact F.Ie))).trans h.wG) (iy.pay h.pay) (fun hr=>by cases hr)
  (fun z b=>(h.mA z b).trans (Qk b)) h.pP h.of (Nat.le_of_eq iy.size.symm) (fun z=>(h.qM z).2) (fun z e he z' hz=>vW F (by rw[iy.size]; exact h.size z) (fun b hb=>(Qk b).1 ((h.mA z b).1 hb)) ((Ji e he).1 z' hz)) ?_ ?_) fun _=>kI rfl rfl hs
 ·exact nU.E1 F h.of h.tr fun e he=>(Ji e he).1
 ·exact deafBehind_still (fun e he=>⟨(Ji e he).2.1,(Ji e he).2.2⟩) _
theorem rI(F:K.Fit)(ye:Go.ConcX.Payload.ety=Go.ConcR.Payload.ety)(gB:∀g w,AnchW g w→g.status=.running)(h:J K L AnchW Post S c .r0 y du dJ gs a b w t q)(hs:wP K b w):Next K AnchW Post c (runT K.P (crowd gs w sl) c) t gs.size (mu (sumTo gs.size q) .r0 y du dJ):=by
 obtain⟨_,U,g',a1,m,hG⟩:=hs;obtain⟨st,sm,hp,hw⟩:=h.pair;obtain⟨y',cM,th,tq⟩:=jg (b':=g') gB h rfl hp (w':=w) (nR.at y w w.drawn) h.tN;obtain⟨τ,nO⟩:=bX hG;have Qd:wS K w:=by
  intro _;obtain⟨cs,sO,hn⟩:=h.pay;have h1:w.cell? ⟨K.C,0,none⟩=some K.val:=U;rw[ye];rw[sO];simp only[World.cell?,sO,Option.isSome_none,Bool.false_eq_true,if_false] at h1;obtain⟨l⟩:=cs;match l,hn with
  | [v],_ =>simp only[List.getElem?_toArray,List.getElem?_cons_zero,Option.some.injEq] at h1;rw[h1]
 have a0:Deaf t c=0:=h.dc;refine Next.child (J.iZ (x':=.k1) (S':=S) (dD:=τ) h a1 th (iT tq) (gV tq) nO ⟨st,sm,fg tq (by cases y using Ma.bJ<;>first|exact hp|exact hp.elim),hw⟩ h.tN h.wG h.pay (fun _=>Qd) h.mA h.pP h.of (Nat.le_refl _) (fun z=>(h.qM z).2) (fun _ e he z hz=>by rw[Array.mem_singleton] at he; subst he; cases hz) ?_ rfl) fun _=>q9 rfl (by simp[Ch.fX]);have eo:MemOp.ofEvents c b.frame.fn b.frame.place #[Go.ConcR.mk (.releaseMerge (Go.ConcR.stA K.Wg))]=#[{ g:=c,fn:=b.frame.fn,pos:=b.frame.place,act:=.mark (.releaseMerge K.wN) }]:=by simp[MemOp.ofEvents,MemAct.ofEvent,Go.ConcR.mk,Go.ConcR.stA,Cfg.wN]
 have a2:=Go.ConcN.RelBy.new (a:=K.wN) a0 b.frame.fn b.frame.place;refine⟨t.size,?_,a2,fun k hk e=>?_⟩
 ·rw[eo]; exact PT.release h.tr rfl rfl
 ·have:=lt_of_act? e;rw[eo] at this;simp at this;omega
theorem ja(F:K.Fit)(gB:∀g w,AnchW g w→g.status=.running)(h:J K L AnchW Post S c x y du dJ gs a b w t q)(hx:x.shut=true)(a0:stepG K.P false b w=.go b' w' es)(hd:zv w w' es)(U:ze K S x dD b' w')(hs:Sub dD du) :
  Next K AnchW Post c (runT K.P (crowd gs w sl) c) t gs.size (mu (sumTo gs.size q) x y du dJ):=by obtain⟨rfl,rfl⟩:=hd;obtain⟨st,sm,hp,hw⟩:=h.pair;obtain⟨y',cM,th,tq⟩:=jg (b':=b') gB h hx hp (nR.at y w' w'.drawn) h.tN;refine Next.child (J.iZ (S':=S) h a0 th (iT tq) (gV tq) U ⟨st,sm,fg tq hp,hw⟩ h.tN h.wG h.pay h.full h.mA h.pP h.of (Nat.le_refl _) (fun z=>(h.qM z).2) (fun _ e he=>by simp at he) ?_ rfl) fun _=>kI rfl rfl hs;rw[ofEvents_none,Array.append_empty]; exact h.tr
theorem nU.CL(F:K.Fit)(hS:∃w,∀b,S b→K.dy w b)(h:nU K S c true t)(hd:Deaf t c=1)(U:∀e∈es,(∃ad wr,e=⟨.cell ad,wr,true⟩∧ad.block=K.Wg)∨e.loc=.mark .disable∨e.loc=.mark .enable)
 (a1:∀j e,es[j]?=some e→(MemAct.ofEvent e).touch?=none∨((∃ad wr,e=⟨.cell ad,wr,true⟩)∧0<deafBehind 1 (es.extract 0 j))):nU K S c true (t++MemOp.ofEvents c fn pos es):=by
 obtain⟨r,hp,hr,a2⟩:=h;refine⟨r,PT.CL hp hr.g gS (fun op eI z hz=>?_),hr.appOwn fn pos es (by rw[hd]; exact a1),fun k hk e=>?_⟩
 ·obtain⟨e,he,rfl⟩:=Conc.mem_ofEvents eI;rcases U e he with ⟨ad,wr,rfl,hb⟩|h1|h1
  ·have e1:MemAct.ofEvent ⟨.cell ad,wr,true⟩=.access ⟨.cell ad,wr,true⟩:=rfl;rw[e1] at hz;simp only[MemAct.touch?,Option.some.injEq] at hz;subst hz;exact⟨F.Ll ad hb,rfl⟩
  iterate 2
   ·obtain⟨a3,wr,sy⟩:=e;simp only at h1;subst h1;cases hz
 ·obtain⟨op,ho,a0⟩:=Option.map_eq_some_iff.1 e;rcases getElem?_append_cases ho with ⟨_,EA⟩|⟨_,Jn⟩
  ·exact a2 k hk (by rw[act?_of EA,a0])
  ·obtain⟨e,he,rfl⟩:=Conc.mem_ofEvents Jn;exact(uD F hS U).2 e he a0
theorem gp(F:K.Fit)(gB:∀g w,AnchW g w→g.status=.running)(h:J K L AnchW Post S c x y du dJ gs a b w t q)(hx:x.shut=true)(ai:x.rel=true)(ah:x'.shut=true)(a3:x'.rel=true)(hp:jU x y st sm)(hw:K.oX w st sm)(a8:stepG K.P false b w=.go b' w' es)
 (U:Aside K.Wg w w')(ag:K.oX w' Ht Kk)(a2:nR K y w w')(a4:ze K S x' dD b' w')(aa:∀y',(y'=y∨(y=.blk∧y'=.w3))→(y'=.blk→y=.blk∧(mayWake K.P b=true→b'.status=.blocked∨b'.status=.waiting))→jU x' y' Ht Kk)
 (hl:x'.left=x.left)(ae:x'.fX<x.fX)(a7:∀e∈es,∀z,(MemAct.ofEvent e).touch?=some z→(∃ad:Addr,z.loc=.cell ad∧ad.block=K.Wg))
 (af:nU K S c true (t++MemOp.ofEvents c b.frame.fn b.frame.place es))(a6:deafBehind x.deaf es=x'.deaf):Next K AnchW Post c (runT K.P (crowd gs w sl) c) t gs.size (mu (sumTo gs.size q) x y du dJ):=by
 have hA:∃s,w'.heap[K.A]?=some (.chan 0 #[] false s s false):=by obtain⟨s,hs⟩:=h.tN; exact⟨s,(U.block _ F.AW).trans hs⟩
 obtain⟨y',cM,a1,a0⟩:=jg (b':=b') gB h hx hp a2 hA;have eC:=U.block K.C F.CW;have hE:w'.heap[K.E]?=some (.chan 0 #[] x'.shut 0 0 false):=by rw[ah,← hx]; exact(U.block _ F.EW).trans h.wG
 have a9:∀b,K.dy w b↔K.dy w' b:=rY U.block F.W0;refine Next.child (J.iZ (x':=x') (S':=S) h a8 a1 (iT a0) (gV a0) a4 ⟨Ht,Kk,aa y' a0 ?_,ag⟩ hA hE ?_ (fun _=>Go.ConcX.ChanAt.of_block (h.full ai) eC)
  (fun z b=>(h.mA z b).trans (a9 b)) h.pP h.of (Nat.le_of_eq U.size.symm) (fun z=>(h.qM z).2) (fun z e he z' hz=>by obtain⟨ad,hl,hb⟩:=a7 e he z' hz; refine⟨fun ad' e'=>?_,fun b e'=>?_⟩; (rw[hl] at e'; cases e'; rw[hb,U.size]; exact Nat.lt_of_lt_of_le F.W0 (h.size z)); (rw[hl] at e'; cases e')) (by rw[a3]; exact af) a6) fun _=>q9 hl ae
 ·rintro rfl;have hyb:y=.blk:=a0.elim (fun e=>e.symm) (fun e=>e.1);subst hyb;refine⟨rfl,fun hmw=>?_⟩;obtain⟨cm,e,Tg,ho2,_⟩:=a1;obtain⟨Mf,rfl,Gf,ho3,_⟩:=h.ma;by_cases hb:b'.status=.blocked∨b'.status=.waiting
  ·exact hb
  ·exfalso;unfold Conc.woken at e;rw[if_pos (by simp[hmw]; exact⟨fun z=>hb (.inl z),fun z=>hb (.inr z)⟩),Go.ConcX.again_blocked Gf ho3] at e;rw[e] at Gf;cases Gf
 ·obtain⟨cs,a5,hn⟩:=h.pay; exact⟨cs,eC.trans a5,hn⟩
theorem iY(w:World)(a:Addr)(v:Value):Aside a.block w (w.setCell a v):=⟨rfl,rfl,rfl,by simp[World.setCell],fun k U=>Go.RowKit.Below.heap_setCell _ _ _ _ U⟩
theorem Ft(F:K.Fit)(gB:∀g w,AnchW g w→g.status=.running)(h:J K L AnchW Post S c .k1 y du dJ gs a b w t q)(hs:KN K b w):Next K AnchW Post c (runT K.P (crowd gs w sl) c) t gs.size (mu (sumTo gs.size q) .k1 y du dJ):=by obtain⟨_,g',a0,m,hG⟩:=hs;obtain⟨st,sm,hp,hw⟩:=h.pair;obtain⟨τ,nO⟩:=bX hG;refine gp (x':=.d1) (dD:=τ) F gB h rfl rfl rfl rfl hp hw a0 (Aside.refl _ _) hw (nR.at y w w.drawn) nO (fun y' tq _=>fg tq (by cases y using Ma.bJ<;>first|exact hp|exact hp.elim)) rfl (by simp[Ch.fX]) (fun e U z hz=>by rw[Array.mem_singleton] at U; subst U; cases hz) ?_ rfl;exact h.tr.mute (fun op eI=>by obtain⟨e,U,rfl⟩:=Conc.mem_ofEvents eI; rw[Array.mem_singleton] at U; subst U; rfl) (fun op eI=>by obtain⟨e,U,rfl⟩:=Conc.mem_ofEvents eI; rw[Array.mem_singleton] at U; subst U; exact fun z=>by cases z)
theorem Bh:∀e∈(#[Go.ConcR.rd (Go.ConcR.stA K.Wg),Go.ConcR.wr (Go.ConcR.stA K.Wg)]:Array Event),(∃ad wr,e=⟨.cell ad,wr,true⟩∧ad.block=K.Wg)∨e.loc=.mark .disable∨e.loc=.mark .enable:=by intro e U;simp only[List.mem_toArray,List.mem_cons,List.not_mem_nil,or_false] at U;rcases U with rfl|rfl<;>exact .inl ⟨_,_,rfl,rfl⟩
theorem Fo(F:K.Fit)(gB:∀g w,AnchW g w→g.status=.running)(h:J K L AnchW Post S c .d1 y du dJ gs a b w t q)(hs:KJ K b w):Next K AnchW Post c (runT K.P (crowd gs w sl) c) t gs.size (mu (sumTo gs.size q) .d1 y du dJ):=by
 obtain⟨_,ul⟩:=hs;obtain⟨st,sm,hp,hw⟩:=h.pair;have F4:(st=KK∧sm=0∧((y=.kd∨y=.w1∨y=.w2)∨(y=.walk []∨y=.over)))∨(st=KK+1∧sm=0∧(y=.w3∨y=.blk)):=by
  cases y using Ma.bJ with
  | walk vs=>obtain⟨rfl,h1,h2⟩:=hp; exact .inl ⟨h1,h2,.inr (.inl rfl)⟩
  | over=>exact .inl ⟨hp.1,hp.2,.inr (.inr rfl)⟩
  | kd=>exact .inl ⟨hp.1,hp.2,.inl (.inl rfl)⟩
  | w1=>exact .inl ⟨hp.1,hp.2,.inl (.inr (.inl rfl))⟩
  | w2=>exact .inl ⟨hp.1,hp.2,.inl (.inr (.inr rfl))⟩
  | w3=>exact .inr ⟨hp.1,hp.2,.inl rfl⟩
  | blk=>exact .inr ⟨hp.1,hp.2,.inr rfl⟩
  | _=>exact hp.elim
 have YA:nU K S c true (t++MemOp.ofEvents c b.frame.fn b.frame.place #[Go.ConcR.rd (Go.ConcR.stA K.Wg),Go.ConcR.wr (Go.ConcR.stA K.Wg)]):=by
  refine nU.CL F h.of h.tr h.dc Bh (fun j e he=>.inr ?_);rcases j with _|_|j
  ·simp at he; subst he; exact⟨⟨_,_,rfl⟩,by simp[deafBehind]⟩
  ·simp at he; subst he; exact⟨⟨_,_,rfl⟩,by simp[deafBehind,Go.ConcR.rd]⟩
  ·simp at he
 have eC:∀v:Value,(w.setCell (Go.ConcR.stA K.Wg) v).heap[K.C]?=w.heap[K.C]?:=fun v=>(iY w (Go.ConcR.stA K.Wg) v).block _ F.CW;rcases F4 with ⟨rfl,rfl,hy⟩|⟨rfl,rfl,hy⟩
 ·obtain⟨g',hgo,_,hq⟩:=ul 0 0 (by omega) (by omega) (by rw[show(((0:Nat):Int)+1)*Go.ConcR.KK+((0:Nat):Int)=KK by decide]; exact hw);obtain⟨n,hq⟩:=hq (by simp);have wK:K.oX (w.setCell (Go.ConcR.stA K.Wg) (.int .u64 0)) 0 0:=Go.ConcX.WgAt.setSt (show Go.ConcX.WgAt K.ty K.Wg w KK 0 from hw) 0;have Mv:stepG K.P false b w=.go g' (w.setCell (Go.ConcR.stA K.Wg) (.int .u64 0)) #[Go.ConcR.rd (Go.ConcR.stA K.Wg),Go.ConcR.wr (Go.ConcR.stA K.Wg)]:=by rw[hgo]; simp
  have iy:=iY w (Go.ConcR.stA K.Wg) (.int .u64 0);refine gp (x':=.quit n 1) (dD:=.ofNat n) F gB h rfl rfl rfl rfl hp hw Mv iy wK ?_ ⟨hq,rfl⟩ (fun y' tq _=>fg tq ?_) rfl (by simp[Ch.fX]) (yZ Bh) YA rfl
  ·refine oJ F rfl rfl rfl (fun k _ h2=>iy.block k h2) iy.size hw wK ?_;rcases hy with hy|rfl|rfl
   ·exact .inl ⟨rfl,rfl,.inr ⟨rfl,rfl,Go.ConcX.ChanAt.of_block (h.full rfl) (eC _)⟩,hy⟩
   ·exact .inr (.inr (.inl ⟨_,rfl⟩))
   ·exact .inr (.inr (.inr rfl))
  ·rcases hy with (rfl|rfl|rfl)|rfl|rfl<;>first|exact⟨rfl,rfl⟩|exact⟨rfl,rfl,rfl⟩
 ·obtain⟨g',hgo,hm,_⟩:=ul 0 1 (by omega) (by omega) (by rw[show(((0:Nat):Int)+1)*Go.ConcR.KK+((1:Nat):Int)=KK+1 by decide]; exact hw);obtain⟨m,hG⟩:=hm ⟨rfl,rfl⟩;have wK:K.oX (w.setCell (Go.ConcR.stA K.Wg) (.int .u64 1)) 1 0:=Go.ConcX.WgAt.setSt (show Go.ConcX.WgAt K.ty K.Wg w (KK+1) 0 from hw) 1;have Mv:stepG K.P false b w=.go g' (w.setCell (Go.ConcR.stA K.Wg) (.int .u64 1)) #[Go.ConcR.rd (Go.ConcR.stA K.Wg),Go.ConcR.wr (Go.ConcR.stA K.Wg)]:=by rw[hgo]; simp
  have iy:=iY w (Go.ConcR.stA K.Wg) (.int .u64 1);have hG':Goes K.P false (Eo K) zv (EH K) m g' (w.setCell (Go.ConcR.stA K.Wg) (.int .u64 1)):=by simpa using hG
  obtain⟨τ,nO⟩:=bX hG';refine gp (x':=.d2) (dD:=τ) F gB h rfl rfl rfl rfl hp hw Mv iy wK ?_ nO (fun y' tq _=>fg tq ?_) rfl (by simp[Ch.fX]) (yZ Bh) YA rfl
  ·exact oJ F rfl rfl rfl (fun k _ h2=>iy.block k h2) iy.size hw wK (.inr (.inl ⟨rfl,hy,.inl ⟨rfl,.inr (.inl rfl)⟩⟩))
  ·rcases hy with rfl|rfl<;>exact⟨rfl,rfl⟩
theorem GC{wr:Bool}{j:Nat}(U:(#[(⟨.cell (Go.ConcR.stA K.Wg),wr,true⟩:Event)])[j]?=some e) :
  (MemAct.ofEvent e).touch?=none∨((∃ad wr,e=⟨.cell ad,wr,true⟩)∧0<deafBehind 1 ((#[(⟨.cell (Go.ConcR.stA K.Wg),wr,true⟩:Event)]).extract 0 j)):=by
 rcases j with _|j
 ·simp at U; subst U; exact .inr ⟨⟨_,_,rfl⟩,by simp[deafBehind]⟩
 ·simp at U
theorem Fp(F:K.Fit)(gB:∀g w,AnchW g w→g.status=.running)(h:J K L AnchW Post S c .d2 y du dJ gs a b w t q)(hs:EH K b w):Next K AnchW Post c (runT K.P (crowd gs w sl) c) t gs.size (mu (sumTo gs.size q) .d2 y du dJ):=by
 obtain⟨_,a0⟩:=hs;obtain⟨st,sm,hp,hw⟩:=h.pair;have hy:st=1∧sm=0:=by cases y using Ma.bJ<;>first|exact hp|exact hp.elim
 obtain⟨rfl,rfl⟩:=hy;obtain⟨g',hgo,m,hG⟩:=a0 hw;obtain⟨τ,nO⟩:=bX hG;refine gp (x':=.d3) (dD:=τ) F gB h rfl rfl rfl rfl hp hw hgo (Aside.refl _ _) hw (nR.at y w w.drawn) nO (fun y' tq _=>fg tq (by cases y using Ma.bJ<;>first|exact hp|exact hp.elim)) rfl (by simp[Ch.fX]) (yZ fun e U=>by rw[Array.mem_singleton] at U; subst U; exact .inl ⟨_,_,rfl,rfl⟩) ?_ rfl;exact nU.CL F h.of h.tr h.dc (fun e U=>by rw[Array.mem_singleton] at U; subst U; exact .inl ⟨_,_,rfl,rfl⟩) (fun j e U=>GC (K:=K) U)
theorem Fq(F:K.Fit)(gB:∀g w,AnchW g w→g.status=.running)(h:J K L AnchW Post S c .d3 y du dJ gs a b w t q)(hs:KL K b w):Next K AnchW Post c (runT K.P (crowd gs w sl) c) t gs.size (mu (sumTo gs.size q) .d3 y du dJ):=by
 obtain⟨_,a0⟩:=hs;obtain⟨st,sm,hp,hw⟩:=h.pair;have hy:st=1∧sm=0∧(y=.w3∨y=.blk):=by
  cases y using Ma.bJ with
  | w3=>exact⟨hp.1,hp.2,.inl rfl⟩
  | blk=>exact⟨hp.1,hp.2,.inr rfl⟩
  | _=>exact hp.elim
 obtain⟨rfl,rfl,hy⟩:=hy;obtain⟨g',hgo,m,hG⟩:=a0 hw;obtain⟨τ,nO⟩:=bX hG;have wK:K.oX (w.setCell (Go.ConcR.stA K.Wg) (.int .u64 0)) 0 0:=Go.ConcX.WgAt.setSt (show Go.ConcX.WgAt K.ty K.Wg w 1 0 from hw) 0;have iy:=iY w (Go.ConcR.stA K.Wg) (.int .u64 0);refine gp (x':=.d4) (dD:=τ) F gB h rfl rfl rfl rfl hp hw hgo iy wK ?_ nO (fun y' tq _=>fg tq (by rcases hy with rfl|rfl<;>exact⟨rfl,rfl⟩)) rfl (by simp[Ch.fX]) (yZ fun e U=>by rw[Array.mem_singleton] at U; subst U; exact .inl ⟨_,_,rfl,rfl⟩) ?_ rfl
 ·exact oJ F rfl rfl rfl (fun k _ h2=>iy.block k h2) iy.size hw wK (.inr (.inl ⟨rfl,hy,.inl ⟨rfl,.inr (.inr rfl)⟩⟩))
 ·exact nU.CL F h.of h.tr h.dc (fun e U=>by rw[Array.mem_singleton] at U; subst U; exact .inl ⟨_,_,rfl,rfl⟩) (fun j e U=>GC (K:=K) U)
theorem Fs(F:K.Fit)(gB:∀g w,AnchW g w→g.status=.running)(h:J K L AnchW Post S c .d4 y du dJ gs a b w t q)(hs:KM K b w):Next K AnchW Post c (runT K.P (crowd gs w sl) c) t gs.size (mu (sumTo gs.size q) .d4 y du dJ):=by
 obtain⟨_,a1,a0⟩:=hs;obtain⟨st,sm,hp,hw⟩:=h.pair;have hy:st=0∧sm=0∧(y=.w3∨y=.blk):=by
  cases y using Ma.bJ with
  | w3=>exact⟨hp.1,hp.2,.inl rfl⟩
  | blk=>exact⟨hp.1,hp.2,.inr rfl⟩
  | _=>exact hp.elim
 obtain⟨rfl,rfl,hy⟩:=hy;obtain⟨g',hgo,n,hq⟩:=a0 hw;have wK:K.oX (w.setCell (Go.ConcR.smA K.Wg) (.int .u32 1)) 0 1:=Go.ConcX.WgAt.setSm (show Go.ConcX.WgAt K.ty K.Wg w 0 0 from hw) 1;have iy:=iY w (Go.ConcR.smA K.Wg) (.int .u32 1);have eC:(w.setCell (Go.ConcR.smA K.Wg) (.int .u32 1)).heap[K.C]?=w.heap[K.C]?:=iy.block _ F.CW;refine gp (x':=.quit n 1) (dD:=.ofNat n) F gB h rfl rfl rfl rfl hp hw hgo iy wK ?_ ⟨hq,rfl⟩ (fun y' a2 hb=>?_) rfl (by simp[Ch.fX]) (yZ A6) ?_ rfl
 ·exact oJ F rfl rfl rfl (fun k _ h2=>iy.block k h2) iy.size hw wK (.inr (.inl ⟨rfl,hy,.inr ⟨rfl,rfl,Go.ConcX.ChanAt.of_block (h.full rfl) eC⟩⟩))
 ·have:y'=.w3:=by
   rcases a2 with rfl|⟨_,rfl⟩
   ·rcases hy with rfl|rfl
    ·rfl
    ·have:=(hb rfl).2 a1;rcases hq.status with e|e<;>rw[e] at this<;>rcases this with z|z<;>cases z
   ·rfl
  subst this;exact⟨rfl,rfl⟩
 ·refine nU.CL F h.of h.tr h.dc A6 (fun j e U=>?_);rcases j with _|_|_|_|j
  ·simp[semEvents] at U; subst U; exact .inl rfl
  iterate 2
   ·simp[semEvents] at U; subst U; exact .inr ⟨⟨_,_,rfl⟩,by simp[semEvents,deafBehind]⟩
  ·simp[semEvents] at U; subst U; exact .inl rfl
  ·simp[semEvents] at U
theorem xb(F:K.Fit)(gB:∀g w,AnchW g w→g.status=.running){d:Nat}(h:J K L AnchW Post S c (.quit n d) y du dJ gs a b w t q)(U:b.status=.running):Next K AnchW Post c (runT K.P (crowd gs w sl) c) t gs.size (mu (sumTo gs.size q) (.quit n d) y du dJ):=by
 obtain⟨hq,rfl⟩:=h.ch;obtain⟨st,sm,hp,hw⟩:=h.pair;cases n with
 | zero=>rw[hq.1] at U; cases U
 | succ k =>
  rcases hq with ⟨hf,_⟩|⟨_,g',es,hm,a1,a3⟩
  ·rw[hf] at U; cases U
  obtain⟨y',cM,a2,a0⟩:=jg (b':=g') gB h rfl hp (nR.at y w w.drawn) h.tN;refine Next.child (J.iZ (x':=.quit k (deafBehind d es)) (S':=S) (dD:=.ofNat k) h (a1 w) a2 (iT a0) (gV a0) ⟨a3,rfl⟩ ⟨st,sm,fg a0 (by cases y using Ma.bJ<;>first|exact hp|exact hp.elim),hw⟩ h.tN h.wG h.pay h.full h.mA h.pP h.of (Nat.le_refl _) (fun z=>(h.qM z).2) (fun _ e he z hz=>by rw[touch_mute (hm e he)] at hz; cases hz) ?_ rfl) fun _=>kI rfl rfl (sub_ofNat k w);exact h.tr.mute (fun op eI=>by obtain⟨e,he,rfl⟩:=Conc.mem_ofEvents eI; exact touch_mute (hm e he)) (fun op eI=>by obtain⟨e,he,rfl⟩:=Conc.mem_ofEvents eI; exact r8 (hm e he))
theorem J.xa(F:K.Fit)(ye:Go.ConcX.Payload.ety=Go.ConcR.Payload.ety)(gB:∀g w,AnchW g w→g.status=.running)(h:J K L AnchW Post S c x y du dJ gs a b w t q)(dZ:b.status=.running):Next K AnchW Post c (runT K.P (crowd gs w sl) c) t gs.size (mu (sumTo gs.size q) x y du dJ):=by
 have Lb:∀vs,(x=.fresh vs∨x=.work vs)→kT K vs b w→Next K AnchW Post c (runT K.P (crowd gs w sl) c) t gs.size (mu (sumTo gs.size q) x y du dJ):=by
  intro vs hx hs;cases vs with
  | nil=>exact vj F gB h hx hs
  | cons v vs =>
   obtain⟨gA,ops,x',y',dD,cM,a',b',w',e,kH,hJ,hl⟩:=J.sends (sl:=sl) F h hx hs;refine .inr ⟨L,S,x',y',dD,cM,gA,a',b',w',sl,q,ops,e,kH,hJ,?_⟩;rcases hl with hl|⟨h1,h2⟩
   ·exact .single (B1 hl)
   ·exact .single (q9 h1 h2)
 cases x using Ch.bJ with
 | fresh vs =>
  rcases aY.now (R:=RC K) h.ch (RC.refl w) with hs|⟨_,g',w',es,lp,e,d,dM,hG⟩
  ·exact Lb vs (.inl rfl) hs
  ·exact qd F gB h (.inl rfl) e d hG dM
 | work vs =>
  rcases aY.now (R:=RC K) h.ch (RC.refl w) with hs|⟨_,g',w',es,lp,e,d,dM,hG⟩
  ·exact Lb vs (.inr rfl) hs
  ·exact qd F gB h (.inr rfl) e d hG dM
 | ep v vs=>obtain⟨cm,rfl,_⟩:=h.ch; cases dZ
 | r0 =>
  rcases aY.now (R:=RJ K S) h.ch (RJ.refl w) with hs|⟨_,g',w',es,lp,e,d,dM,hG⟩
  ·exact rI F ye gB h hs
  ·exact Fu F gB h e d hG dM
 | k1 =>
  rcases aY.now (R:=Eo K) h.ch (Go.ConcN.RW.refl w) with hs|⟨_,g',w',es,lp,e,d,dM,hG⟩
  ·exact Ft F gB h hs
  ·exact ja F gB h rfl e d hG dM
 | d1 =>
  rcases aY.now (R:=Eo K) h.ch (Go.ConcN.RW.refl w) with hs|⟨_,g',w',es,lp,e,d,dM,hG⟩
  ·exact Fo F gB h hs
  ·exact ja F gB h rfl e d hG dM
 | d2 =>
  rcases aY.now (R:=Eo K) h.ch (Go.ConcN.RW.refl w) with hs|⟨_,g',w',es,lp,e,d,dM,hG⟩
  ·exact Fp F gB h hs
  ·exact ja F gB h rfl e d hG dM
 | d3 =>
  rcases aY.now (R:=Eo K) h.ch (Go.ConcN.RW.refl w) with hs|⟨_,g',w',es,lp,e,d,dM,hG⟩
  ·exact Fq F gB h hs
  ·exact ja F gB h rfl e d hG dM
 | d4 =>
  rcases aY.now (R:=Eo K) h.ch (Go.ConcN.RW.refl w) with hs|⟨_,g',w',es,lp,e,d,dM,hG⟩
  ·exact Fs F gB h hs
  ·exact ja F gB h rfl e d hG dM
 | quit n d=>exact xb F gB h dZ
variable (H:lx K)(Ak:∀L,K.N0≤L→∀g w,AnchW g w→∃m,Goes K.P true (gQ K) (iW K L) (iV K L AnchW Post) m g w)
theorem J.Hp(gB:∀g w,AnchW g w→g.status=.running)(h:J K L AnchW Post S c x y du dJ gs a b w t q):a.status=.running∨b.status=.running:=by
 obtain⟨st,sm,U,_⟩:=h.pair;rcases h.ma.status gB with e|⟨vs,_,rfl,_⟩|⟨_,rfl,_⟩
 ·exact .inl e
 iterate 2
  ·rcases h.ch.status with e|⟨v,a0,_,rfl,_⟩|⟨n,d,rfl,_⟩
   ·exact .inr e
   ·exact U.elim
   ·exact U.elim
theorem D2(F:K.Fit)(ye:Go.ConcX.Payload.ety=Go.ConcR.Payload.ety)(gB:∀g w,AnchW g w→g.status=.running)(H:lx K)(Ak:∀L,K.N0≤L→∀g w,AnchW g w→∃m,Goes K.P true (gQ K) (iW K L) (iV K L AnchW Post) m g w)(h:J K L AnchW Post S c x y du dJ gs a b w t q)(sl:Option (Nat × Nat)):Next K AnchW Post c (stepT K.P (crowd gs w sl)) t gs.size (mu (sumTo gs.size q) x y du dJ):=by
 have a2:∀g∈gs,awake g:=by
  intro g hg;obtain⟨i,U,rfl⟩:=Array.mem_iff_getElem.1 hg;have Qe:gs[i]?=some gs[i]:=Array.getElem?_eq_getElem U;by_cases h0:i=0
  ·subst h0;rw[h.h0] at Qe;rw[← Option.some.inj Qe];rcases h.ma.status gB with e|⟨_,_,_,rfl⟩|⟨_,_,rfl,_⟩
   ·exact awake_of (.inl e)
   iterate 2
    ·exact awake_of (.inr (.inl rfl))
  ·by_cases hc:i=c
   ·subst hc;rw[h.hc] at Qe;rw[← Option.some.inj Qe];rcases h.ch.status with e|⟨_,_,_,_,rfl⟩|⟨_,_,_,hq⟩
    ·exact awake_of (.inl e)
    ·exact awake_of (.inr (.inl rfl))
    ·exact awake_of (hq.status.elim .inl fun z=>.inr (.inr z))
   ·exact awake_of ((h.old i _ (by omega) hc Qe).status.elim .inl fun z=>.inr (.inr z))
 obtain⟨i,g,d,a0,U,hg,a4⟩:=crowd_pick (P:=K.P) (w:=w) (sl:=sl) a2 ((h.Hp gB).elim (fun e=>⟨0,a,h.h0,e⟩) (fun e=>⟨c,b,h.hc,e⟩));have hJ:=h.at F d;rw[a4];by_cases h0:i=0
 ·subst h0;obtain rfl:g=a:=by rw[h.h0] at U; exact(Option.some.inj U).symm
  exact J.AG F H gB Ak hJ hg
 ·by_cases hc:i=c
  ·subst hc;obtain rfl:g=b:=by rw[h.hc] at U; exact(Option.some.inj U).symm
   exact J.xa F ye gB hJ hg
  ·obtain⟨gA,ops,y',cM,a',q',e,a5,a1,a3⟩:=J.Dz (sl:=a0) F gB hJ U h0 hc hg;exact .inr ⟨L,S,x,y',du,cM,gA,a',b,_,a0,q',ops,e,a5,a1,.single (.left _ _ a3)⟩
theorem uA(F:K.Fit)(ye:Go.ConcX.Payload.ety=Go.ConcR.Payload.ety)(gB:∀g w,AnchW g w→g.status=.running)(H:lx K)(Ak:∀L,K.N0≤L→∀g w,AnchW g w→∃m,Goes K.P true (gQ K) (iW K L) (iV K L AnchW Post) m g w):∀(μ:Mu) (L:Nat) (S:Nat→Prop) (x:Ch) (y:Ma) (du dJ:Tr) (gs:Array Goroutine) (a b:Goroutine) (w:World) (t:Trace) (q:Nat→Nat) (sl:Option (Nat × Nat)),μ=mu (sumTo gs.size q) x y du dJ→J K L AnchW Post S c x y du dJ gs a b w t q →
  ∃N M T,runNT K.P N (crowd gs w sl) t=(.next M,T)∧Fin K Post gs.size M T:=by
 intro μ;induction μ using M5.transGen.induction with
 | _ μ ih =>
  rintro L S x y du dJ gs a b w t q sl rfl h;rcases D2 F ye gB H Ak h sl with ⟨M,ops,e,U⟩|⟨L',S',x',y',dD,cM,gA,a',b',w',NK,q',ops,e,kH,hJ,eH⟩
  ·exact⟨1,M,t++ops,by simp only[runNT,e],U⟩
  ·rw[← kH] at eH;obtain⟨N,M,T,hr,U⟩:=ih _ (by rw[kH] at eH ⊢; exact eH) L' S' x' y' dD cM gA a' b' w' (t++ops) q' NK rfl hJ;exact⟨N+1,M,T,by simp only[runNT,e]; exact hr,by rw[← kH]; exact U⟩
end
end
structure Closed{ι:Type}(P:Program)(main:Bool)(R:ι→World→World→Prop)(D:World→World→Array Event→Prop)(X:ι→Goroutine→World→Prop):Prop where
 rely:∀{vs g w aB},X vs g w→R vs w aB→X vs g aB
 step:∀{vs g w},g.status=.running→(∀aB,R vs w aB→(stepG P main g aB).goes fun g' w' es=>D aB w' es∧X vs g' w')→X vs g w
def ry{ι:Type}(X:ι→Goroutine→World→Prop)(vs:ι)(b:Frame)(k:List Item)(cs:List Frame):Exit→Act→World→Prop
 | .normal,a,w=>X vs (G (b.at a k) cs) w
 | .exit id,a,w=>∃k',exitTo id k=some k'∧X vs (G (b.at a k') cs) w
 | .ret,a,w=>∀todo,X vs (G { b.at a todo with mode:=.returning } cs) w
 | _,_,_=>False
abbrev nQ(ι:Type):=ι→Exit→Act→World→Prop
def CC{ι:Type}(T:ι→Act→World→Prop)(Q:nQ ι):nQ ι
 | vs,.normal,a,w=>T vs a w
 | vs,e,a,w=>Q vs e a w
def lN{ι:Type}(id:Nat)(Q:nQ ι):nQ ι
 | vs,.exit QV,a,w=>if QV=id then Q vs .normal a w else Q vs (.exit QV) a w
 | vs,e,a,w=>Q vs e a w
def lm {ι:Type}(X:ι→Goroutine→World→Prop)(fn:FuncId)(c:Code)(vs:ι)(Q:nQ ι)(a:Act)(w:World):Prop :=
 ∀(b:Frame) (k:List Item) (cs:List Frame),b.fn=fn→b.kind≠.early→(∀eY e a' w',Q eY e a' w'→ry X eY b k cs e a' w')→X vs (G (b.at a (.code c::k)) cs) w
def kq {ι:Type}(X:ι→Goroutine→World→Prop)(fn:FuncId)(ops:Array Oper)(todo:List Nat)(vs:ι)(Q:nQ ι)(a:Act)(w:World):Prop :=
 ∀(b:Frame) (k:List Item) (cs:List Frame),b.fn=fn→b.kind≠.early→(∀eY e a' w',Q eY e a' w'→ry X eY b k cs e a' w')→X vs (G (b.at a (.inRegion ops todo::k)) cs) w
section
variable {ι:Type}{P:Program}{main:Bool}{R:ι→Wq}{D:World→World→Array Event→Prop}{X:ι→Gq}{fn:FuncId}{Q Q':nQ ι}{a:Act}{w:World}{vs:ι}
theorem Closed.goes(C:Closed P main R D X){g:Goroutine}(refl:∀w,R vs w w)(h:Goes P main (R vs) D (X vs) n g w):X vs g w:=by
 induction n generalizing g w with
 | zero=>exact h w (refl w)
 | succ n ih =>
  rcases h with h|⟨hs,h⟩
  ·exact h w (refl w)
  ·refine C.step hs fun U aF=>?_;have hw:=h U aF;cases e:stepG P main g U with
   | go g' w' es=>rw[e,goes_go] at hw; rw[goes_go]; exact⟨hw.1,ih hw.2⟩
   | _=>rw[e] at hw; exact hw.elim
theorem ry.push{x:Item}{b:Frame}{k:List Item}{cs:List Frame}{e:Exit}(hx:x.plain=true)(U:e≠.normal)(h:ry X vs b k cs e a w):ry X vs b (x::k) cs e a w:=by
 cases e with
 | normal=>exact absurd rfl U
 | exit id=>obtain⟨k',hk,hg⟩:=h; exact⟨k',by cases x<;>simp_all [exitTo,Item.plain],hg⟩
 | ret=>exact h
 | goto l=>exact h
 | panic ch=>exact h
 | outgrown=>exact h
theorem HN(h:lm X fn c vs Q a w)(hq:∀vs e a w,Q vs e a w→Q' vs e a w):lm X fn c vs Q' a w:=fun b k cs U hk hc=>h b k cs U hk fun eY e a' w' q=>hc eY e a' w' (hq eY e a' w' q)
theorem fL(C:Closed P main R D X){U:World}(h:lm X fn c vs Q a w)(hr:R vs w U):lm X fn c vs Q a U:=fun b k cs hb hk hc=>C.rely (h b k cs hb hk hc) hr
theorem eZ(C:Closed P main R D X)(T:∀i,Terms (R i) D)(h:Q vs .normal a w):lm X fn .skip vs Q a w:=fun b k cs _ _ U=>C.step rfl fun aB aF=>by rw[stepG_skip]; exact⟨(T vs).idle _,C.rely (U _ _ _ _ h) aF⟩
theorem mI(C:Closed P main R D X)(T:∀i,Terms (R i) D)(h:Q vs .ret a w):lm X fn .ret vs Q a w:=fun b k cs _ _ U=>C.step rfl fun aB aF=>by rw[stepG_ret']; exact⟨(T vs).idle _,C.rely (U _ _ _ _ h _) aF⟩
theorem y5(C:Closed P main R D X)(T:∀i,Terms (R i) D)(h:Q vs (.exit id) a w):lm X fn (.exit id) vs Q a w:=fun b k cs _ _ U=>by obtain⟨k',kG,hg⟩:=U _ _ _ _ h;exact C.step rfl fun aB aF=>by rw[stepG_exit kG]; exact⟨(T vs).idle _,C.rely hg aF⟩
theorem fQ(C:Closed P main R D X)(T:∀i,Terms (R i) D){x:Code}(h:lm X fn x vs (CC (fun a0 a' w'=>lm X fn y a0 Q a' w') Q) a w):lm X fn (.seq x y) vs Q a w:=by
 intro b k cs hb hk U;have hx:X vs (G (b.at a (.code x::.code y::k)) cs) w:=by
  refine h b (.code y::k) cs hb hk fun a0 e a' w' q=>?_;cases e with
  | normal=>exact q b k cs hb hk U
  | exit id=>exact(U _ _ _ _ q).push rfl (by simp)
  | ret=>exact(U _ _ _ _ q).push (x:=.code y) rfl (by simp)
  | goto l=>exact U _ _ _ _ q
  | panic ch=>exact U _ _ _ _ q
  | outgrown=>exact U _ _ _ _ q
 exact C.step rfl fun aB aF=>by rw[stepG_seq]; exact⟨(T vs).idle _,C.rely hx aF⟩
theorem aR(C:Closed P main R D X)(T:∀i,Terms (R i) D){c:Operand}{x:Code}{t:Bool}(hc:a.eval c=.bool t)(h:lm X fn (if t then x else y) vs Q a w):lm X fn (.cond c x y) vs Q a w :=
 fun b k cs U hk hq=>C.step rfl fun aB aF=>by rw[stepG_cond hc]; exact⟨(T vs).idle _,C.rely (h b k cs U hk hq) aF⟩
theorem ig(C:Closed P main R D X)(T:∀i,Terms (R i) D)(h:lm X fn c vs (lN id Q) a w):lm X fn (.block id c) vs Q a w:=by
 intro b k cs hb hk hc;have hx:X vs (G (b.at a (.code c::.inBlock id::k)) cs) w:=by
  refine h b (.inBlock id::k) cs hb hk fun a2 e a' w' q=>?_;cases e with
  | normal=>exact C.step rfl fun aB aF=>by rw[stepG_inBlock]; exact⟨(T a2).idle _,C.rely (hc _ _ _ _ q) aF⟩
  | exit a0 =>
   by_cases U:a0=id
   ·simp only[lN,U,if_true] at q;exact⟨k,by simp[exitTo,U],hc _ _ _ _ q⟩
   ·simp only[lN,U,if_false] at q;obtain⟨k',a1,hg⟩:=hc _ _ _ _ q;have:(id==a0)=false:=by simp; exact fun h=>U h.symm
    exact⟨k',by simp[exitTo,this,a1],hg⟩
  | ret=>exact hc _ _ _ _ q
  | goto l=>exact hc _ _ _ _ q
  | panic ch=>exact hc _ _ _ _ q
  | outgrown=>exact hc _ _ _ _ q
 exact C.step rfl fun aB aF=>by rw[stepG_block]; exact⟨(T vs).idle _,C.rely hx aF⟩
theorem y6(C:Closed P main R D X)(T:∀i,Terms (R i) D)(I:Nat→ι→Act→World→Prop)(n:Nat)(MV:I n vs a w)
 (round:∀n vs a w,I n vs a w→lm X fn c vs (CC (fun U a' w'=>∃n',n'<n∧I n' U a' w') Q) a w):lm X fn (.loop c) vs Q a w:=by
 intro b k cs hb hk hc;have key:∀n vs a w,I n vs a w→X vs (G (b.at a (.code c::.inLoop c::k)) cs) w:=by
  intro n;induction n using Nat.strongRecOn with
  | _ n ih =>
   intro vs a w hI;refine round n vs a w hI b (.inLoop c::k) cs hb hk fun U e a' w' q=>?_;cases e with
   | normal =>obtain⟨n',hn,a0⟩:=q;exact C.step rfl fun aB aF=>by rw[stepG_inLoop]; exact⟨(T U).idle _,C.rely (ih n' hn U a' w' a0) aF⟩
   | exit id=>exact(hc _ _ _ _ q).push rfl (by simp)
   | ret=>exact(hc _ _ _ _ q).push (x:=.inLoop c) rfl (by simp)
   | goto l=>exact hc _ _ _ _ q
   | panic ch=>exact hc _ _ _ _ q
   | outgrown=>exact hc _ _ _ _ q
 exact C.step rfl fun aB aF=>by rw[stepG_loop]; exact⟨(T vs).idle _,C.rely (key n vs a w MV) aF⟩
theorem bN(C:Closed P main R D X)(T:∀i,Terms (R i) D)(h:kq X fn ops (List.range ops.size) vs Q a w):lm X fn (.region id ops false) vs Q a w :=
 fun b k cs U hk hc=>C.step rfl fun aB aF=>by rw[stepG_region]; exact⟨(T vs).idle _,C.rely (h b k cs U hk hc) aF⟩
theorem cf(C:Closed P main R D X)(T:∀i,Terms (R i) D)(h:Q vs .normal a w):kq X fn ops [] vs Q a w:=fun b k cs _ _ U=>C.step rfl fun aB aF=>by rw[stepG_region_end]; exact⟨(T vs).idle _,C.rely (U _ _ _ _ h) aF⟩
theorem tz(C:Closed P main R D X)(T:∀i,Terms (R i) D){i:Nat}{o:Oper}(ho:ops[i]?=some o)(hw:Region.wanted o (yielded ops a.tmps)=false)(h:kq X fn ops rest vs Q (a.put o.dst undef) w):kq X fn ops (i::rest) vs Q a w :=
 fun b k cs U hk hc=>C.step rfl fun aB aF=>by rw[stepG_unwanted ho hw]; exact⟨(T vs).idle _,C.rely (h b k cs U hk hc) aF⟩
theorem aL(C:Closed P main R D X){i:Nat}{o:Oper}(ho:ops[i]?=some o)(hw:Region.wanted o (yielded ops a.tmps)=true)
 (h:∀U,R vs w U→∀K:Act→World→Prop,(∀a' w',D U w' (listed P fn a o U)∧kq X fn ops rest vs Q a' w'→K a' w')→uponK o a K ((execOp a.eval o).run P U)):kq X fn ops (i::rest) vs Q a w:=by
 intro b k cs hb hk hc;refine C.step rfl fun U aF=>goes_oper ho hw hk ?_
 have:=h U aF _ fun _ _ x=>x;revert this;cases (execOp a.eval o).run P U with
 | ok x w'=>cases x<;>first|exact fun ⟨d,g⟩=>⟨hb▸d,g b k cs hb hk hc⟩|exact id
 | halt _ _=>exact id
theorem nL(C:Closed P main R D X)(refl:∀w,R vs w w)(h:c.wpC P main (R vs) D fn n (fun e a' w'=>Q vs e a' w') a w):lm X fn c vs Q a w:=by
 intro b k cs hb hk hc;refine C.goes refl (n:=0+n) (h b k cs (X vs) 0 hb hk fun e a' w' q=>?_)
 have:=hc vs e a' w' q;cases e with
 | normal=>exact fun aB U=>C.rely this U
 | exit id=>obtain⟨k',a1,hg⟩:=this; exact⟨k',a1,fun aB U=>C.rely hg U⟩
 | ret=>exact fun a0 aB U=>C.rely (this a0) U
 | goto l=>exact this
 | panic ch=>exact this
 | outgrown=>exact this
theorem aO(C:Closed P main R D X)(T:∀i,Terms (R i) D){x:Code}(refl:∀w,R vs w w)(h:x.wpC P main (R vs) D fn n (Exit.then (fun a' w'=>lm X fn y vs Q a' w') (fun e a' w'=>Q vs e a' w')) a w):lm X fn (.seq x y) vs Q a w:=by refine fQ C T (nL C refl (n:=n) ?_);refine wpC_mono h fun e a' w' q=>?_;cases e<;>exact q
theorem iQ{o:Oper}(eI:o.op=.call { callee:=.value x,args,argTypes:=ats })(hx:a.eval x=.func (.func f) first cap)
 (hf : P.funcs[f]? = some aJ)(jd : (aJ.name == "runtime.NumGoroutine") = false)(hb : aJ.body.isNone = false) :
  (execOp a.eval o).run P w=.ok (.enter f (first++args.map a.eval++cap)) w∧(execOp a.eval o).events P w #[]=#[]:=by
 have h1 : ¬ aJ.name = "runtime.NumGoroutine" := by simpa using jd
 have h2:¬aJ.body=none:=by cases hx:aJ.body<;>simp_all
 constructor;iterate 2
  ·unfold execOp;simp[eI,resolve,Deferred.ofValue,hx,invoke,callFunc,hf,h1,h2]
theorem DX(C:Closed P main R D X)(T:∀i,Terms (R i) D){i:Nat}{o:Oper}
 (ho:ops[i]?=some o)(hw:Region.wanted o (yielded ops a.tmps)=true)(eI:o.op=.call { callee:=.value x,args,argTypes:=ats })(hx:a.eval x=.func (.func f) first cap)
 (hf : P.funcs[f]? = some aJ)(jd : (aJ.name == "runtime.NumGoroutine") = false)(hb : aJ.body = some c)
 (h:lm X f c vs (fun eY e a' w'=>(e=.normal∨e=.ret)∧a'.defers=[]∧∃v,ResultsC P aJ a'.tmps v∧kq X fn ops rest eY Q (a.put o.dst v) w')
   { tmps:=(first++args.map a.eval++cap)++Array.replicate (aJ.ntmps-(first++args.map a.eval++cap).size) undef,defers:=[] } w):kq X fn ops (i::rest) vs Q a w:=by
 intro b k cs jA hk hc;have Mm:aJ.body.isNone=false:=by rw[hb]; rfl
 have Dg:∀v,(b.at a (.inRegion ops (i::rest)::k)).finish v=b.at (a.put o.dst v) (.inRegion ops rest::k):=fun v=>by rw[Frame.finish_at,ho]; rfl
 have lL:∀(eY:ι) (a':Act) (w':World) (todo:List Item),(a'.defers=[]∧∃v,ResultsC P aJ a'.tmps v∧kq X fn ops rest eY Q (a.put o.dst v) w') →
   X eY (G { (base f).at a' todo with mode:=.returning } (b.at a (.inRegion ops (i::rest)::k)::cs)) w':=by rintro eY a' w' todo ⟨hd,v,hr,hp⟩;refine C.step rfl fun aB aF=>?_;rw[stepG_leave (b:=base f) rfl hd hf (hr aB).1 (hr aB).2,Dg];exact⟨(T eY).idle _,C.rely (hp b k cs jA hk hc) aF⟩
 refine C.step rfl fun aB aF=>?_;obtain⟨hr,he⟩:=iQ (P:=P) (w:=aB) eI hx hf jd Mm;rw[stepG_enter ho hw hk hr,enter_at _ hf hb];have hl:listed P b.fn a o aB=#[]:=listed_nil he;rw[hl];refine⟨(T vs).idle _,C.rely (h (base f) [] _ rfl (by simp[base]) fun eY e a' w' q=>?_) aF⟩;obtain⟨P5,q⟩:=q;rcases P5 with rfl|rfl
 ·exact C.step rfl fun dI fW=>by rw[stepG_end]; exact⟨(T eY).idle _,C.rely (lL eY a' w' [] q) fW⟩
 ·exact fun todo=>lL eY a' w' todo q
def gD(P:Program)(X:ι→Goroutine→World→Prop)(f:FuncId)(args:Array Value)(vs:ι)(w:World)(Post:ι→Value→World→Prop):Prop :=
 ∃ aJ c, P.funcs[f]? = some aJ ∧ (aJ.name == "runtime.NumGoroutine") = false ∧ aJ.body = some c ∧
  lm X f c vs (fun eY e a' w'=>(e=.normal∨e=.ret)∧a'.defers=[]∧∃v,ResultsC P aJ a'.tmps v∧Post eY v w') { tmps:=args++Array.replicate (aJ.ntmps-args.size) undef,defers:=[] } w
theorem fe{args : Array Value}{Post : ι → Value → World → Prop}(hf : P.funcs[f]? = some aJ)(jd : (aJ.name == "runtime.NumGoroutine") = false)(hb : aJ.body = some c)
 (h:lm X f c vs (fun eY e a' w'=>(e=.normal∨e=.ret)∧a'.defers=[]∧∃v,ResultsC P aJ a'.tmps v∧Post eY v w') { tmps:=args++Array.replicate (aJ.ntmps-args.size) undef,defers:=[] } w):gD P X f args vs w Post:=⟨aJ,c,hf,jd,hb,h⟩
theorem bP(C:Closed P main R D X)(T:∀i,Terms (R i) D){i:Nat}{o:Oper}{first cap args':Aq}{uS:ι}{Post:ι→Value→World→Prop}
 (ho:ops[i]?=some o)(hw:Region.wanted o (yielded ops a.tmps)=true)(a3:o.op=.call { callee:=.value x,args,argTypes:=ats })(hx:a.eval x=.func (.func f) first cap)
 (a0:first++args.map a.eval++cap=args')(a4:vs=uS)
 (a1:gD P X f args' uS w Post)(a2:∀U v w',Post U v w'→kq X fn ops rest U Q (a.put o.dst v) w'):kq X fn ops (i::rest) vs Q a w:=by subst a0 a4;obtain⟨aJ,c,hf,hn,hb,h⟩:=a1;refine DX C T ho hw a3 hx hf hn hb (HN h fun U e a' w' q=>?_);obtain⟨h1,h2,v,h3,h4⟩:=q;exact⟨h1,h2,v,h3,a2 U v w' h4⟩
theorem yG(C:Closed P main R D X)(T:∀i,Terms (R i) D){i:Nat}(h:OpC P (R vs) D fn ops i (fun a' w'=>kq X fn ops rest vs Q a' w') a w):kq X fn ops (i::rest) vs Q a w:=by
 unfold OpC at h;split at h
 ·exact h.elim
 ·rename_i o ho
  split at h
  ·rename_i U
   exact aL C ho U fun aB aF K hK=>uponK_mono (fun a' w' x=>hK a' w' x) (h aB aF)
  ·rename_i U
   exact tz C T ho (by simpa using U) h
theorem Ah{listed:Array Bool}(h:Region.ready .any ops listed=[]):∀fuel t,Region.linearise.go .any ops fuel t listed []=[]
 | 0,_=>rfl
 | fuel+1,t=>by
  simp only[Region.linearise.go];change (match (Region.ready .any ops listed)[t % (Region.ready .any ops listed).length]? with
   | some i=>Region.linearise.go .any ops fuel (t / (Region.ready .any ops listed).length) (listed.setIfInBounds i true) [i]
   | none=>[].reverse)=[];rw[h];rfl
theorem qX{listed:Array Bool}{i:Nat}{t:Nat}(h:(Region.ready .any ops listed)[t % (Region.ready .any ops listed).length]?=some i) :
  Region.linearise.go .any ops (fuel+1) t listed []=i::Region.linearise.go .any ops fuel (t / (Region.ready .any ops listed).length) (listed.setIfInBounds i true) []:=by
 simp only[Region.linearise.go];change (match (Region.ready .any ops listed)[t % (Region.ready .any ops listed).length]? with
   | some i=>Region.linearise.go .any ops fuel (t / (Region.ready .any ops listed).length) (listed.setIfInBounds i true) [i]
   | none=>[].reverse)=_;rw[h];simp only[];rw[linearise_go_acc,List.reverse_singleton,List.singleton_append]
theorem qR(C:Closed P main R D X)(T:∀i,Terms (R i) D){S:World→Prop}{K:Act→World→Prop}(hd:LetsDraw D)(hm:P.follows .mixedOrders=true)(hn:ops.size=n+1)
 (dn:Array Bool→Bool)(a2:dn (Array.replicate (n+1) false)=true)(U7:∀listed:Array Bool,listed.size=n+1→listed[n]?=some false→dn listed=true→∀i∈Region.ready .any ops (listed.setIfInBounds n true),dn (listed.setIfInBounds i true)=true)
 (Gb:∀listed:Array Bool,listed.size=n+1→listed[n]?=some false→dn listed=true→Region.ready .any ops listed=if Region.ready .any ops (listed.setIfInBounds n true)=[] then [n] else Region.ready .any ops (listed.setIfInBounds n true))
 (h:∀U,R vs w U→AnyCH P (R vs) D fn .any ops (fun e a' w'=>e=.normal∧K a' w') S n ((Array.replicate (n+1) false).setIfInBounds n true) a { U with drawn:=U.drawn+1 })
 (a1:∀a' w',K a' w'→kq X fn ops [n] vs Q a' w'):lm X fn (.region id ops true) vs Q a w:=by
 have key:∀(fuel t:Nat) (listed:Array Bool) (a:Act) (w:World),listed.size=n+1→listed[n]?=some false→dn listed=true→AnyCH P (R vs) D fn .any ops (fun e a' w'=>e=.normal∧K a' w') S fuel (listed.setIfInBounds n true) a w →
   kq X fn ops (Region.linearise.go .any ops (fuel+1) t listed []) vs Q a w:=by
  intro fuel;induction fuel with
  | zero =>
   intro t listed a w hs hl a0 hA;have hr:Region.ready .any ops listed=[n]:=by rw[Gb listed hs hl a0,if_pos hA.1]
   rw[qX (i:=n) (by rw[hr]; simp[Nat.mod_one]),Ah hA.1];exact a1 a w hA.2.2
  | succ fuel ih =>
   intro t listed a w hs hl a0 hA;by_cases he:Region.ready .any ops (listed.setIfInBounds n true)=[]
   ·have hr:Region.ready .any ops listed=[n]:=by rw[Gb listed hs hl a0,if_pos he]
    rw[qX (i:=n) (by rw[hr]; simp[Nat.mod_one]),Ah he];exact a1 a w (hA.1 he).2
   ·have hr:Region.ready .any ops listed=Region.ready .any ops (listed.setIfInBounds n true):=by rw[Gb listed hs hl a0,if_neg he]
    have a4:0<(Region.ready .any ops listed).length:=by rw[hr]; exact List.length_pos_iff.2 he
    obtain⟨i,hi⟩:∃i,(Region.ready .any ops listed)[t % (Region.ready .any ops listed).length]?=some i:=⟨_,List.getElem?_eq_getElem (Nat.mod_lt _ a4)⟩;have pL:i∈Region.ready .any ops (listed.setIfInBounds n true):=by rw[← hr]; exact List.mem_of_getElem? hi
    have a3:i≠n:=by rintro rfl;have h0:=(mem_ready.1 pL).1;rw[Array.getD_eq_getD_getElem?,Array.getElem?_setIfInBounds_self_of_lt (by omega)] at h0;simp at h0
    rw[qX hi];refine yG C T (OpC_mono (fun a' w' x=>ih _ _ a' w' (by simpa using hs) (by rw[Array.getElem?_setIfInBounds_ne a3]; exact hl) (U7 listed hs hl a0 i pL) ?_) (hA.2 i pL));rw[Array.setIfInBounds_comm _ _ a3];exact x.2
 intro b k cs hb hk hc;refine C.step rfl fun U aF=>?_;rw[stepG_region_draw];refine⟨hd _,?_⟩;simp only[Region.schedule,hm,Bool.true_or,if_true];have kG:=key n (U.tape U.drawn (.order b.fn id)) (Array.replicate (n+1) false) a { U with drawn:=U.drawn+1 } (by simp) (by simp) a2 (h U aF) b k cs hb hk hc;have e:Region.linearise .any ops (U.tape U.drawn (.order b.fn id))=Region.linearise.go .any ops (n+1) (U.tape U.drawn (.order b.fn id)) (Array.replicate (n+1) false) []:=by unfold Region.linearise;rw[hn]
 rw[e];exact kG
end
theorem ia:(∀{U:Type} (l:List U),l.toArray.size=l.length)∧(∀{U:Type} (a:U) (l:List U),(a::l).length=l.length+1)∧(∀{U:Type},([]:List U).length=0)∧(∀n:Nat,0+n=n)∧(∀n,List.range n=List.range.loop n [])∧(∀acc,List.range.loop 0 acc=acc)∧(∀n acc,List.range.loop (n+1) acc=List.range.loop n (n::acc)):=⟨fun _=>rfl,fun _ _=>rfl,rfl,Nat.zero_add,fun _=>rfl,fun _=>rfl,fun _ _=>rfl⟩
theorem IH:(∀{p:Prop} [Decidable p],(decide p=true)=p)∧(∀{p:Prop} [Decidable p],decide p=false↔¬p)∧(∀a b:Bool,((a&&b)=true)=(a=true∧b=true))∧(∀a b:Bool,((a||b)=true)=(a=true∨b=true))∧(∀{a b:Bool},(a&&b)=false↔a=false∨b=false)∧(∀{a b:Bool},(a||b)=false↔a=false∧b=false)∧(∀{b:Bool},(!b)=true↔b=false)∧(∀{b:Bool},(!b)=false↔b=true)∧(∀{a b:Int},¬a≤b↔b<a)∧(∀{a b:Int},¬a<b↔b≤a)∧(∀{U:Type} (a b:U),(a≠b)=¬(a=b)):=⟨decide_eq_true_eq,decide_eq_false_iff_not,Bool.and_eq_true,Bool.or_eq_true,by simp,by simp,by simp,by simp,Int.not_le,Int.not_lt,fun _ _=>rfl⟩
section
open Go.ConcN (sumTo upd sumTo_upd upd_ne upd_same)
def Ends (P:Program)(Post:Value→World→Prop)(M:Machine)(t:Trace):Prop :=
 ∃N last o w' t',runNT P (N+1) M t=(.ended o w',t')∧runN P N M=.next last∧step P last=.ended o w'∧Good P Post last o w' t'
theorem Ends.step{M:Machine}{ops:Array MemOp}(h:stepT P M=(.next M',ops))(U:Ends P Post M' (t++ops)):Ends P Post M t:=by
 obtain⟨N,last,o,w',t',h1,h2,h3,h4⟩:=U;refine⟨N+1,last,o,w',t',?_,?_,h3,h4⟩
 ·rw[runNT]; simp only[h]; exact h1
 ·rw[runN]; simp only[Go.step,h]; exact h2
theorem Ends.runs(U:Ends P Post M' t'):∀(N:Nat) (M:Machine) (t:Trace),runNT P N M t=(.next M',t')→Ends P Post M t
 | 0,M,t,h=>by simp only[runNT,Prod.mk.injEq,Stepped.next.injEq] at h;obtain⟨rfl,rfl⟩:=h;exact U
 | N+1,M,t,h=>by
  rw[runNT] at h;cases e:stepT P M with
  | mk s ops =>
   rw[e] at h;cases s with
   | next m=>exact Ends.step e (Ends.runs U N m (t++ops) h)
   | _=>simp at h
structure Fr(P:Program)(Shun:Loc→Prop)(d:Nat)(gs:Array Goroutine)(a:Goroutine)(t:Trace)(q:Nat→Nat):Prop where
 h0:gs[0]?=some a
 old:Leavers P t gs q
 clean:∀said,¬Race said t
 known:∀i x,touchAt t i=some x→x.loc.isMemory=true→Knows t 0 i∨(Shun x.loc∧x.kind=.atomic)
 over:t.HandedOver
 deaf:Deaf t 0=d
theorem Fr.past{a:Goroutine}(h:Fr P Shun 0 gs a t q)(B:Nat):∃U,B≤U∧Past Shun U t:=by obtain⟨U,h1,h2⟩:=uQ t B;exact⟨U,h1,h.clean,h.known,h.over,h.deaf,h2⟩
def nS(Ok:Nat→Prop)(N:Nat)(Shun:Loc→Prop):Prop:=∀l,Shun l→∃ad:Addr,l=.cell ad∧ad.block<N∧¬Ok ad.block
def Z (P:Program)(Post:Value→World→Prop)(Ok:Nat→Prop)(N d:Nat)(g:Goroutine)(w:World):Prop :=
 ∀(e:Nat) (Shun:Loc→Prop) (gs:Array Goroutine) (q:Nat→Nat) (t:Trace) (sl:Option (Nat × Nat)),nS Ok N Shun→Fr P Shun d gs g t q→Ends P Post (crowd gs (w.at e) sl) t
def Tv (Ok:Nat→Prop)(N:Nat)(e:Event):Prop:=(∀x,(MemAct.ofEvent e).touch?=some x→∀ad:Addr,x.loc=.cell ad→Ok ad.block∨N≤ad.block)∧e.loc≠.mark .disable∧e.loc≠.mark .enable
def DL (Ok:Nat→Prop)(N:Nat)(_ _:World)(es:Array Event):Prop:=∀e∈es,Tv Ok N e
section
variable {P:Program}{Post:Value→World→Prop}{Ok KV:Nat→Prop}{N N' d d':Nat}{g g':Goroutine}{w w':World}
theorem Fr.awake(h:Fr P Shun d gs g t q)(U:g.status=.running):∀x∈gs,Conc.awake x:=by
 intro x hx;obtain⟨i,hi,rfl⟩:=Array.mem_iff_getElem.1 hx;rcases Nat.eq_zero_or_pos i with rfl|hp
 ·have:gs[0]=g:=by simpa[Array.getElem?_eq_getElem hi] using h.h0
  rw[this]; exact awake_of (.inl U)
 ·exact awake_of ((h.old.old i _ hp (Array.getElem?_eq_getElem hi)).status.elim .inl fun z=>.inr (.inr z))
theorem Fr.own{es:Array Event}(h:Fr P Shun d gs g t q)(a1:∀e∈es,∀x,(MemAct.ofEvent e).touch?=some x→Shun x.loc→x.kind≠.plain)(hd:deafBehind d es=d') :
  Fr P Shun d' ((gs.map (Conc.woken P g g' w')).setIfInBounds 0 g') g' (t++MemOp.ofEvents 0 g.frame.fn g.frame.place es) q:=by
 have a0:0<gs.size:=(Array.getElem?_eq_some_iff.1 h.h0).1;have Vi:∀op∈MemOp.ofEvents 0 g.frame.fn g.frame.place es,op.g=0:=gS;refine⟨by simp[a0],h.old.own a0 _ _ es,fun said=>noRace_append (h.clean said) Vi fun i x hx op eI b hb hc=>?_,fun i x hx hm=>?_,handedOver_app h.over fun op eI=>.inl (Vi op eI),?_⟩
 ·rcases h.known i x hx hc.2.1 with hk|⟨a2,U⟩
  ·exact hk
  ·obtain⟨e,he,rfl⟩:=Conc.mem_ofEvents eI;have hnp:=a1 e he b hb (hc.1▸a2);rcases hc.2.2.2 with z|z|⟨_,z,_⟩
   ·rw[U] at z; cases z
   ·exact absurd z hnp
   ·rw[U] at z; cases z
 ·obtain⟨y,hy,a3⟩:=touch_of hx;rcases getElem?_append_cases hy with ⟨_,qK⟩|⟨_,MU⟩
  ·exact(h.known i x (by rw[touchAt_of qK]; exact a3) hm).imp (·.app _) id
  ·have:=knows_own hy;rw[Vi y MU] at this;exact .inl this
 ·rw[Deaf_own,h.deaf]; exact hd
theorem Fr.slip{i:Nat}{x:Goroutine}{sl:Option (Nat × Nat)}(h:Fr P Shun d gs g t q)(hs:g.status=.running)(hi:gs[i]?=some x)(a0:i≠0)(hx:x.status=.running) :
  ∃gA ops q',runT P (crowd gs w sl) i=(.next (crowd gA w sl),ops)∧gA.size=gs.size∧Fr P Shun d gA g (t++ops) q'∧sumTo gA.size q'<sumTo gs.size q:=by
 have a3:i<gs.size:=(Array.getElem?_eq_some_iff.1 hi).1;have hq:=h.old.old i x (by omega) hi;have hb:(i==0)=false:=by simp[a0]
 cases a1:q i with
 | zero=>rw[a1] at hq; rw[hq.1] at hx; cases hx
 | succ k =>
  rw[a1] at hq;rcases hq with ⟨hf,_⟩|⟨_,x',es,hm,a4,a6⟩
  ·rw[hf] at hx; cases hx
  have U:∀op∈MemOp.ofEvents i x.frame.fn x.frame.place es,op.g=i:=gS;have Vx:∀op∈MemOp.ofEvents i x.frame.fn x.frame.place es,op.act.touch?=none:=fun op eI=>by obtain⟨e,he,rfl⟩:=Conc.mem_ofEvents eI; exact touch_mute (hm e he)
  refine⟨_,_,upd q i k,runT_crowd_go (P:=P) (sl:=sl) (i:=i) hi (by rw[hb]; exact a4 w),by simp,⟨?_,⟨fun j z hj hz=>?_,fun j hj=>?_⟩,fun said=>noRace_append (h.clean said) U fun i' a _ op eI b jA _=>(by rw[Vx op eI] at jA; cases jA),fun i' a ha Jk=>?_,handedOver_app h.over fun op eI=>.inr (Vx op eI),?_⟩,?_⟩
  ·rw[Array.getElem?_setIfInBounds_ne a0,Array.getElem?_map,h.h0];simp[woken_run hs]
  ·by_cases e:i=j
   ·subst e;rw[Array.getElem?_setIfInBounds_self_of_lt (by simpa using a3)] at hz;obtain rfl:=Option.some.inj hz;rw[upd_same,Deaf_own];exact a6
   ·rw[Array.getElem?_setIfInBounds_ne e,Array.getElem?_map] at hz;obtain⟨z',a7,rfl⟩:=Option.map_eq_some_iff.1 hz;have Qy:=h.old.old j z' hj a7;rw[woken_quitsD Qy,upd_ne q k (Ne.symm e),Deaf_other t e _ U];exact Qy
  ·have a5:gs.size≤j:=by simpa using hj
   rw[Deaf_other t (g':=i) (by omega) _ U];exact h.old.above j a5
  ·obtain⟨y,hy,a2⟩:=touch_of ha;rcases getElem?_append_cases hy with ⟨_,qK⟩|⟨_,MU⟩
   ·exact(h.known i' a (by rw[touchAt_of qK]; exact a2) Jk).imp (·.app _) id
   ·rw[Vx y MU] at a2; cases a2
  ·rw[Deaf_other t a0 _ U]; exact h.deaf
  ·have h2:sumTo gs.size (upd q i k)+(k+1)=sumTo gs.size q+k:=by have:=sumTo_upd q k id a3;simpa[a1] using this
   have h3:((gs.map (Conc.woken P x x' w)).setIfInBounds i x').size=gs.size:=by simp
   rw[h3];omega
theorem Z.pick(hs:g.status=.running)
 (h:∀(e:Nat) (Shun:Loc→Prop) (gs:Array Goroutine) (q:Nat→Nat) (t:Trace) (sl:Option (Nat × Nat)),nS Ok N Shun→Fr P Shun d gs g t q→∃M' ops,runT P (crowd gs (w.at e) sl) 0=(.next M',ops)∧Ends P Post M' (t++ops)):Z P Post Ok N d g w:=by
 have key:∀(n:Nat) (e:Nat) (Shun:Loc→Prop) (gs:Array Goroutine) (q:Nat→Nat) (t:Trace) (sl:Option (Nat × Nat)),sumTo gs.size q=n→nS Ok N Shun→Fr P Shun d gs g t q→Ends P Post (crowd gs (w.at e) sl) t:=by
  intro n;induction n using Nat.strongRecOn with
  | _ n ih =>
   rintro e Shun gs q t sl rfl hS U;obtain⟨i,x,e',NK,hi,hx,Dn⟩:=crowd_pick (P:=P) (w:=w.at e) (sl:=sl) (U.awake hs) ⟨0,g,U.h0,hs⟩;have ee:(w.at e).at e'=w.at e':=rfl;rw[ee] at Dn;by_cases Oq:i=0
   ·subst Oq;obtain⟨M',ops,h1,h2⟩:=h e' Shun gs q t NK hS U;exact Ends.step (Dn.trans h1) h2
   ·obtain⟨gA,ops,q',h1,_,h3,h4⟩:=U.slip (w:=w.at e') (sl:=NK) hs hi Oq hx;exact Ends.step (Dn.trans h1) (ih _ h4 e' Shun gA q' _ NK rfl hS h3)
 exact fun e Shun gs q t sl hS U=>key _ e Shun gs q t sl rfl hS U
theorem Z.closed:Closed P true (fun _:Unit=>AtRel) (DL Ok N) (fun _=>Z P Post Ok N d) where
 rely:=by
  rintro _ g w _ h ⟨e,rfl⟩ e' Shun gs q t sl hS hF
  exact h e' Shun gs q t sl hS hF
 step:=by
  intro _ g w hs h
  refine Z.pick hs fun e Shun gs q t sl hS hF=>?_
  have hw:=h (w.at e) ⟨e,rfl⟩
  cases eq:stepG P true g (w.at e) with
  | go g' w' es =>
   rw[eq,goes_go] at hw
   obtain⟨hd,hz⟩:=hw
   refine⟨_,_,runT_crowd_go (P:=P) (sl:=sl) (i:=0) hF.h0 (show stepG P (0==0) g (w.at e)=_ from eq),?_⟩
   exact hz w'.drawn Shun _ q _ sl hS (hF.own (fun U he x hx a0=>by
    obtain⟨ad,e1,e2,e3⟩:=hS _ a0
    rcases(hd U he).1 x hx ad e1 with z|z
    ·
     exact absurd z e3
    ·
     omega) (deafBehind_still (fun U he=>⟨(hd U he).2.1,(hd U he).2.2⟩) _))
  | _=>rw[eq] at hw; exact hw.elim
theorem Z.done{v:Value}(hs:g.status=.running)(U:∀e,stepG P true g (w.at e)=.ended (.done v) (w.at e) #[])(hp:∀e,Post v (w.at e)):Z P Post Ok N 0 g w:=by intro e Shun gs q t sl hS hF;obtain⟨B,_,hP⟩:=hF.past 0;exact beside_ends (P:=P) (Shun:=Shun) (B:=B) (D:=fun _ _ es=>es=#[]) (n:=0) (sl:=sl) (fun _ _ es h ev he=>by rw[h] at he; simp at he) hF.h0 hF.old hP (fun aB aF=>by obtain⟨e',rfl⟩:=aF;exact⟨hs,v,#[],U e',by simp,hp e'⟩)
structure Forked(P:Program)(Post:Value→World→Prop)(Shun:Loc→Prop)(g' child:Goroutine)(w:World)(K:Cfg)(I1:Go.ConcX.Payload)(I2:Go.ConcR.Payload)(I3:Go.ConcX.Shy K.Wg K.C)(AnchW:Goroutine→World→Prop)(rB:Value→World→Prop)(vs:List Value)(KV:Nat→Prop)(N':Nat):Prop where
 prog:K.P=P
 fit:K.Fit
 ety:I1.ety=I2.ety
 Y2:lx K
 ar:∀g w,AnchW g w→g.status=.running
 an:∀L,K.N0≤L→∀g w,AnchW g w→∃m,Goes K.P true (gQ K) (iW K L) (iV K L AnchW rB) m g w
 Y1:∀l,Shun l→K.Shun l
 sh2:nS KV N' K.Shun
 mA:Way K.P false (RC K) (DK K) (kT K vs) child w
 main:Way K.P true (RM K) (DM K) (iE K AnchW vs) g' w
 size:K.N0≤w.heap.size
 wg:K.oX w KK 0
 tN:w.heap[K.A]?=some (.chan 0 #[] false 0 0 false)
 wG:w.heap[K.E]?=some (.chan 0 #[] false 0 0 false)
 pay:Go.ConcN.PayAt K.C 1 w
 stop:∀a w,I3.stop a w→Z P Post KV N' 0 a w
theorem Z.fork{child:Goroutine}(hs:g.status=.running)(V0:∀e,stepG P true g (w.at e)=.spawn g' child (w.at e) #[])
 (h:∀(e:Nat) (Shun:Loc→Prop),nS Ok N Shun→∃K I1 I2 I3 AnchW rB vs KV N',Forked P Post Shun g' child (w.at e) K I1 I2 I3 AnchW rB vs KV N'):Z P Post Ok N 0 g w:=by
 refine Z.pick hs fun e Shun gs q t sl hS hF=>?_;obtain⟨K,I1,I2,I3,AnchW,rB,vs,KV,N',X⟩:=h e Shun hS;obtain rfl:=X.prog;have eH:0<gs.size:=(Array.getElem?_eq_some_iff.1 hF.h0).1;obtain⟨B,_,hP⟩:=hF.past 0;refine⟨_,_,runT_crowd_spawn (P:=K.P) (sl:=sl) (i:=0) hF.h0 (show stepG K.P (0==0) g (w.at e)=_ from V0 e),?_⟩;have MF:((MemOp.ofEvents 0 g.frame.fn g.frame.place #[]).push { g:=0,fn:=g.frame.fn,pos:=g.frame.place,act:=.go gs.size }).push { g:=gs.size,fn:=child.frame.fn,pos:=g.frame.place,act:=.start }
   = #[{ g:=0,fn:=g.frame.fn,pos:=g.frame.place,act:=.go gs.size },{ g:=gs.size,fn:=child.frame.fn,pos:=g.frame.place,act:=.start }]:=rfl;rw[MF];have vH:∀j,∀op∈(#[{ g:=0,fn:=g.frame.fn,pos:=g.frame.place,act:=.go gs.size },{ g:=gs.size,fn:=child.frame.fn,pos:=g.frame.place,act:=.start }]:Trace),∀d,deafStep j d op=d:=by intro j op eI d;simp only[List.mem_toArray,List.mem_cons,List.not_mem_nil,or_false] at eI;rcases eI with rfl|rfl<;>rfl
 obtain⟨du,Wo⟩:=X.mA;obtain⟨dJ,Wp⟩:=X.main;have hJ:J K 0 AnchW rB (K.dy (w.at e)) gs.size (.fresh vs) (.front vs) du dJ ((gs.setIfInBounds 0 g').push child) g' child (w.at e) (t++#[{ g:=0,fn:=g.frame.fn,pos:=g.frame.place,act:=.go gs.size },{ g:=gs.size,fn:=child.frame.fn,pos:=g.frame.place,act:=.start }]) q:=by
  refine⟨eH,?_,?_,fun i z hi Mw hz=>?_,fun j hj=>?_,Wo,Wp,⟨KK,0,⟨rfl,rfl,rfl⟩,X.wg⟩,⟨0,X.tN⟩,X.wG,X.pay,fun z=>(by cases z),fun _ _=>Iff.rfl,fun _ hb=>.inl hb,⟨_,fun _ hb=>hb⟩,fun _=>X.size,(fun z=>by cases z),fun _ i z hz=>?_,?_,?_,?_⟩
  ·rw[Array.getElem?_push_lt (by simpa using eH)]; simp
  ·have e1:gs.size=(gs.setIfInBounds 0 g').size:=by simp
   conv=>lhs; rw[e1]
   exact Array.getElem?_push_size
  ·rw[Deaf_quiet (vH i)];rw[Array.getElem?_push,if_neg (by simp; omega),Array.getElem?_setIfInBounds_ne (by omega)] at hz;exact hF.old.old i z hi hz
  ·rw[Deaf_quiet (vH j)];exact hF.old.above j (by simp at hj; omega)
  ·have SV:=PT.fork (dy:=fun _=>True) (Still:=fun _=>False) hP (hF.old.above _ (Nat.le_refl _)) X.Y1 g.frame.fn child.frame.fn g.frame.place;cases hl:z.loc with
   | cell ad =>
    rcases SV.known i z hz (by rw[hl]; rfl) with k|k
    ·exact .inr (.inr (by rw[← hl]; exact k))
    ·exact .inr (.inl (k.mA trivial))
   | obj ob =>
    rcases SV.known i z hz (by rw[hl]; rfl) with k|k
    ·exact .inr (.inr (by rw[← hl]; exact k))
    ·exact .inr (.inl (k.mA trivial))
   | _=>exact .inl ⟨fun ad e=>(by cases e),fun ad e=>(by cases e)⟩
  ·exact PT.fork hP (hF.old.above _ (Nat.le_refl _)) X.Y1 _ _ _
  ·rw[Deaf_quiet (vH 0)]; exact hF.deaf
  ·rw[Deaf_quiet (vH gs.size)]; exact hF.old.above _ (Nat.le_refl _)
 obtain⟨n,M,T,hr,Z2,a2,w2,sl2,q2,B2,m2,L2,rfl,_,Z4,hL2,hP2,hB2,hG2⟩:=uA X.fit X.ety X.ar X.Y2 X.an _ _ _ _ _ _ _ _ _ _ _ _ q sl rfl hJ;refine Ends.runs ?_ n _ _ hr;obtain⟨n3,Z3,a3,w3,sl3,T3,q3,hr3,_,Z5,UF,hL3,SU⟩:=walk_beside (P:=K.P) (Shun:=K.Shun) (B:=B2) (fun _ _ es hD ev he=>by
  obtain ⟨h1, h2, h3⟩:=hD.2 ev he;obtain ⟨_, _, _, hk⟩ := h1 0 ""
  obtain⟨k1,k2⟩:=X.Y2.ok _ hk;refine⟨fun x hx rV=>?_,h2,h3,MemAct.low_mono hB2 k2⟩;rcases k1 x hx with ⟨ad,e1,e2⟩|k
  ·rw[e1] at rV;exact absurd rV (X.fit.YI ad (by rw[e2]; exact X.fit.Ie))
  ·obtain⟨_,_,_,k⟩:=k; exact k) _ m2 Z2 a2 w2 sl2 T q2 (Nat.le_refl _) Z4 hL2 hP2 hG2
 refine Ends.runs ?_ n3 _ _ hr3;exact X.stop a3 w3 UF.2 w3.drawn K.Shun Z3 q3 T3 sl3 X.sh2 ⟨Z5,hL3,SU.clean,SU.known,SU.over,SU.hears⟩
end
end
end Go.Proofs.YtgcaionclkbehaaGreatDoor
