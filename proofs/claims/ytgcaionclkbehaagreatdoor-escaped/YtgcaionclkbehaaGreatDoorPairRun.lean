import Derived.Test.YtgcaionclkbehaaGreatDoorPairDefs
set_option linter.all false
set_option maxHeartbeats 2000000
set_option maxRecDepth 100000
namespace Go.Proofs.YtgcaionclkbehaaGreatDoor
open Go.Conc
variable {g g' cm:Goroutine}{e:Event}{ad:Addr}{vs:Vq}{r wr:Bool}{ops u:Trace}{i n:Nat}{m:Mark}{sm st:Int}{z:Touch}
section
open Go.ConcN (sumTo upd sumTo_upd upd_ne upd_same)
theorem gS{es:Array Event}{g:Nat}{fn:FuncId}{pos:String}:∀op∈MemOp.ofEvents g fn pos es,op.g=g:=fun op U=>by obtain⟨e,_,rfl⟩:=Conc.mem_ofEvents U; rfl
theorem r8(h:e.mute=true):MemAct.ofEvent e≠.mark (.release ad):=by
 obtain⟨U,wr,sy⟩:=e;intro eq;cases U with
 | mark m=>cases m<;>simp_all [Event.mute,MemAct.ofEvent]
 | _=>simp_all [Event.mute]
variable {K:Cfg}[Go.ConcX.Payload][Go.ConcR.Payload][Go.ConcX.Shy K.Wg K.C]{AnchW:Gq}{Post:Value→World→Prop}
variable {L:Nat}{S S':Nat→Prop}{c:Nat}{x x':Ch}{y y':Ma}{du dJ dD cM:Tr}{gs:Array Goroutine}{a a' b b':Goroutine}{w w':World}{t:Trace}{q:Nat→Nat}{sl:Option (Nat × Nat)}{es:Array Event}
theorem kT.run(h:kT K vs g w):g.status=.running:=by cases vs<;>exact h.1
theorem iE.run(h:iE K AnchW vs g w):g.status=.running:=by cases vs<;>exact h.1
theorem mZ.rely{aB:World}(h:mZ K AnchW vs g cm w)(hr:RM K w aB):mZ K AnchW vs g cm aB:=by cases vs<;>exact⟨h.1,h.2.1,h.2.2.1,fun dI U=>h.2.2.2.1 dI (hr.trans U),fun dI U=>h.2.2.2.2 dI (hr.trans U)⟩
theorem mZ.comm(h:mZ K AnchW vs g cm w):stepG K.P true g w=.comm cm K.cases true .select w #[]:=by cases vs<;>exact h.2.2.2.1 w (RM.refl w)
theorem mZ.tries(h:mZ K AnchW vs g cm w):iE K AnchW vs { parked cm K.cases .select with status:=.running } w:=by cases vs<;>exact⟨rfl,cm,rfl,rfl,rfl,fun aB aF=>by rw[← h.2.2.2.1 aB aF]; exact stepG_same h.1.symm h.2.1.symm h.2.2.1.symm aB,h.2.2.2.2⟩
theorem ze.rely(hC:S K.C)(h:ze K S x du b w)(Ia:x.shut=false→RC K w w')(hr:RJ K S w w'):ze K S x du b w':=by
 cases x using Ch.bJ with
 | fresh vs|work vs=>exact aY.rely (R:=RC K) (fun _ _ _=>RC.trans) h (Ia rfl)
 | ep v vs=>obtain⟨cm,e,k⟩:=h; exact⟨cm,e,fun aB aF=>k aB ((Ia rfl).trans aF)⟩
 | r0=>exact aY.rely (R:=RJ K S) (fun _ _ _=>RJ.trans) h hr
 | k1|d1|d2|d3|d4=>exact aY.rely (R:=Eo K) (fun _ _ _=>Go.ConcN.RW.trans) h (hr.rw hC)
 | quit n d=>exact h
def nR (K:Cfg)[Go.ConcX.Payload][Go.ConcX.Shy K.Wg K.C]:Ma→World→World→Prop
 | .inl _|.inr (.inl _)|.inr (.inr (.inl _))|.inr (.inr (.inr (.inr (.inr (.inr (.inr (.inr (.inr (.inr (.inr (_)))))))))))=>RM K
 | .inr (.inr (.inr (.inl _)))|.inr (.inr (.inr (.inr (.inl _))))|.inr (.inr (.inr (.inr (.inr (.inl _)))))=>gQ K
 | .inr (.inr (.inr (.inr (.inr (.inr (.inl _))))))|.inr (.inr (.inr (.inr (.inr (.inr (.inr (.inl _)))))))=>zB K
 | .inr (.inr (.inr (.inr (.inr (.inr (.inr (.inr (.inl _))))))))|.inr (.inr (.inr (.inr (.inr (.inr (.inr (.inr (.inr (.inl _)))))))))|.inr (.inr (.inr (.inr (.inr (.inr (.inr (.inr (.inr (.inr (.inl _))))))))))=>AtRel
theorem wU.rely(h:wU K L AnchW Post y dJ a w)(hr:nR K y w w'):wU K L AnchW Post y dJ a w':=by
 cases y using Ma.bJ with
 | front vs|walk vs=>exact aY.rely (R:=RM K) (fun _ _ _=>RM.trans) h hr
 | over=>exact aY.rely (R:=RM K) (fun _ _ _=>RM.trans) h hr
 | ep vs=>obtain⟨Aj,cm,e,k⟩:=h; exact⟨Aj,cm,e,k.rely hr⟩
 | kd|w1|w2=>exact aY.rely (R:=gQ K) (fun _ _ _=>Go.ConcX.RPa.trans) h hr
 | w3=>exact aY.rely (R:=zB K) (fun _ _ _=>Go.ConcX.RPb.trans) h hr
 | blk=>obtain⟨cm,e,h1,h2,k⟩:=h; exact⟨cm,e,h1,h2,aY.rely (R:=zB K) (fun _ _ _=>Go.ConcX.RPb.trans) k hr⟩
 | w4|ke|acq=>exact aY.rely atRel_trans h hr
theorem nR.at(y:Ma)(w:World)(d:Nat):nR K y w (w.at d):=by
 cases y using Ma.bJ with
 | front vs|walk vs|ep vs=>exact RM.at w d
 | over=>exact RM.at w d
 | kd|w1|w2=>exact Go.ConcX.RPa.at w d
 | w3|blk=>exact Go.ConcX.RPb.at w d
 | w4|ke|acq=>exact⟨d,rfl⟩
theorem ze.status(h:ze K S x du b w):b.status=.running∨(∃(v:Value) (vs:Vq) (cm:Goroutine),x=.ep v vs∧b=parked cm #[scase K.A v K.zs] .send)∨(∃n d,x=.quit n d∧QuitsD K.P n d b):=by
 cases x using Ch.bJ with
 | fresh vs|work vs=>exact .inl (aY.running RC.refl (fun _ _=>kT.run) h)
 | ep v vs=>obtain⟨cm,e,_⟩:=h; exact .inr (.inl ⟨v,vs,cm,rfl,e⟩)
 | r0=>exact .inl (aY.running RJ.refl (fun _ _ x=>x.1) h)
 | k1|d1|d2|d3|d4=>exact .inl (aY.running Go.ConcN.RW.refl (fun _ _ x=>x.1) h)
 | quit n d=>exact .inr (.inr ⟨n,d,rfl,h.1⟩)
theorem wU.status(gB:∀g w,AnchW g w→g.status=.running)(h:wU K L AnchW Post y dJ a w):a.status=.running∨(∃(vs:Vq) (cm:Goroutine),y=.ep vs∧a=parked cm K.cases .select)∨(∃cm:Goroutine,y=.blk∧a={ cm with status:=.blocked }∧cm.status=.running∧cm.offers=none):=by
 cases y using Ma.bJ with
 | front vs|walk vs=>exact .inl (aY.running RM.refl (fun _ _=>iE.run) h)
 | over=>exact .inl (aY.running RM.refl (fun _ _ z=>z.1) h)
 | ep vs=>obtain⟨_,cm,e,_⟩:=h; exact .inr (.inl ⟨vs,cm,rfl,e⟩)
 | kd|w1|w2=>exact .inl (aY.running Go.ConcX.RPa.refl (fun _ _ x=>x.1) h)
 | w3=>exact .inl (aY.running Go.ConcX.RPb.refl (fun _ _ x=>x.1) h)
 | blk=>obtain⟨cm,e,h1,h2,_⟩:=h; exact .inr (.inr ⟨cm,rfl,e,h1,h2⟩)
 | w4|ke|acq=>exact .inl (aY.running atRel_refl (fun _ _ x=>x.1) h)
theorem ze.still(h:ze K S x du b w)(U:∃s,w'.heap[K.A]?=some (.chan 0 #[] false s s false)):Conc.woken K.P g g' w' b=b:=by
 rcases h.status with e|⟨v,vs,cm,_,rfl⟩|⟨n,d,_,hq⟩
 ·exact woken_run e
 ·obtain⟨s,hs⟩:=U; exact woken_send_open g g' hs
 ·exact woken_quitsD hq
theorem wU.woken(gB:∀g w,AnchW g w→g.status=.running)(h:wU K L AnchW Post y dJ a w')(hA:∃s,w'.heap[K.A]?=some (.chan 0 #[] false s s false))(hE:(∃vs,y=.ep vs)→w'.heap[K.E]?=some (.chan 0 #[] false 0 0 false)) :
  ∃y' cM,wU K L AnchW Post y' cM (Conc.woken K.P g g' w' a) w'∧(y'=y∨(y=.blk∧y'=.w3)):=by
 rcases h.status gB with e|⟨vs,cm,rfl,rfl⟩|⟨cm,rfl,rfl,hs,ho⟩
 ·rw[woken_run e]; exact⟨y,dJ,h,.inl rfl⟩
 ·obtain⟨s,hs⟩:=hA;have:(parked cm K.cases .select).again w'=parked cm K.cases .select:=again_all_open fun cc U=>by
   simp only[Cfg.cases,List.mem_toArray,List.mem_cons,List.not_mem_nil,or_false] at U;rcases U with rfl|rfl
   ·exact⟨_,_,_,_,_,_,_,rfl,hs⟩
   ·exact⟨_,_,_,_,_,_,_,rfl,hE ⟨vs,rfl⟩⟩
  rw[woken_of_again this]; exact⟨_,dJ,h,.inl rfl⟩
 ·unfold Conc.woken;split
  ·rw[Go.ConcX.again_blocked hs ho];obtain⟨Mf,e,h3,_,k⟩:=h;have:Mf=cm:=by have e1:=congrArg Goroutine.frame e;have e2:=congrArg Goroutine.callers e;have e3:=congrArg Goroutine.dying e;have e4:=congrArg Goroutine.offers e;obtain⟨f2,c2,s2,d2,o2⟩:=cm;obtain⟨f3,c3,s3,d3,o3⟩:=Mf;simp only at e1 e2 e3 e4 hs;have Gf:s3=.running:=h3;subst e1 e2 e3 e4 hs Gf;rfl
   subst this;exact⟨.w3,_,k,.inr ⟨rfl,rfl⟩⟩
  ·exact⟨_,dJ,h,.inl rfl⟩
theorem J.at(F:K.Fit)(h:J K L AnchW Post S c x y du dJ gs a b w t q)(d:Nat):J K L AnchW Post S c x y du dJ gs a b (w.at d) t q :=
 ⟨h.pos,h.h0,h.hc,h.old,h.above,h.ch.rely (h.pP _ F.Ie) (fun _=>RC.at w d) ⟨fun _ _=>rfl,id⟩,h.ma.rely (nR.at y w d),h.pair,h.tN,h.wG,h.pay,h.full,h.mA,h.pP,h.of,h.size,h.qM,h.DF,h.tr,h.d0,h.dc⟩
theorem nU.grow(h:nU K S c r t)(hs:∀b,S b→S' b)(hn:∀i z,touchAt t i=some z→K.iz S' z.loc→K.iz S z.loc∨(r=false∧Knows t c i)∨(K.Shun z.loc∧z.kind=.atomic)):nU K S' c r t:=by
 unfold nU at h ⊢;cases r with
 | false=>exact PT.mono h (fun _=>Cfg.iz.mono hs) (fun i z hz hk=>(hn i z hz hk).imp id (Or.imp And.right id))
 | true=>obtain⟨r,hp,hr,U⟩:=h; exact⟨r,PT.mono hp (fun _=>Cfg.iz.mono hs) (fun i z hz hk=>(hn i z hz hk).imp id (Or.imp (fun z=>by cases z.1) id)),hr,U⟩
theorem nU.app0(hc:c≠0)(h:nU K S c r t)(hu:∀op∈u,op.g=0)(hs:∀op∈u,∀b,op.act.touch?=some b→Ok0 K.Shun (K.iz S) K.fi b)(hn:∀op∈u,op.act≠.mark (.release K.wN)):nU K S c r (t++u):=by
 unfold nU at h ⊢;cases r with
 | false=>exact PT.app0 h (fun _=>Knows.app u) hu hs
 | true =>
  obtain⟨r,hp,hr,U⟩:=h;refine⟨r,PT.app0 hp (fun _=>Before.app u) hu hs,hr.appOther hu (fun e=>hc e.symm),fun k hk e=>?_⟩;obtain⟨op,ho,Yq⟩:=Option.map_eq_some_iff.1 e;rcases getElem?_append_cases ho with ⟨_,EA⟩|⟨_,Jn⟩
  ·exact U k hk (by rw[act?_of EA,Yq])
  ·exact hn op Jn Yq
theorem oz{m:Nat}(a0:n≤m)(h:∀i z,touchAt t i=some z→jf n z.loc∨Knows t c i∨(K.Shun z.loc∧z.kind=.atomic))(hu:∀op∈u,∀z,op.act.touch?=some z→jf m z.loc) :
  ∀i z,touchAt (t++u) i=some z→jf m z.loc∨Knows (t++u) c i∨(K.Shun z.loc∧z.kind=.atomic):=by
 intro i z hz;obtain⟨op,ho,U⟩:=touch_of hz;rcases getElem?_append_cases ho with ⟨_,a1⟩|⟨_,Jn⟩
 ·rcases h i z (by rw[touchAt_of a1]; exact U) with h|h|h
  ·exact .inl (h.mono a0)
  ·exact .inr (.inl (h.app u))
  ·exact .inr (.inr h)
 ·exact .inl (hu op Jn z U)
theorem nU.mute(h:nU K S c r t)(hs:∀op∈u,op.act.touch?=none)(hn:∀op∈u,op.act≠.mark (.release K.wN)):nU K S c r (t++u):=by
 unfold nU at h ⊢;cases r with
 | false=>exact PT.mute h (fun _=>Knows.app u) hs
 | true =>
  obtain⟨r,hp,hr,a1⟩:=h;refine⟨r,PT.mute hp (fun _=>Before.app u) hs,hr.app (fun i hi _ hct=>?_),fun k hk e=>?_⟩
  ·obtain⟨z,hz,_⟩:=hct;obtain⟨op,ho,a0⟩:=touch_of hz;rcases getElem?_append_cases ho with ⟨eH,_⟩|⟨_,Jn⟩
   ·omega
   ·rw[hs op Jn] at a0; cases a0
  ·obtain⟨op,ho,U⟩:=Option.map_eq_some_iff.1 e;rcases getElem?_append_cases ho with ⟨_,EA⟩|⟨_,Jn⟩
   ·exact a1 k hk (by rw[act?_of EA,U])
   ·exact hn op Jn U
theorem GB(U:∀j z,0<j→j≠c→gs[j]?=some z→QuitsD K.P (q j) (Deaf t j) z)(hi:i=0∨i=c)(a0:∀op∈ops,op.g=i) :
  ∀j z,0<j→j≠c→((gs.map (Conc.woken K.P g g' w')).setIfInBounds i g')[j]?=some z→QuitsD K.P (q j) (Deaf (t++ops) j) z:=by
 intro j z hj a1 hz;have Ym:i≠j:=by rcases hi with rfl|rfl<;>omega
 rw[Array.getElem?_setIfInBounds_ne Ym,Array.getElem?_map] at hz;obtain⟨y,hy,rfl⟩:=Option.map_eq_some_iff.1 hz;have hq:=U j y hj a1 hy;rw[woken_quitsD hq,Deaf_other t Ym _ a0];exact hq
theorem J.gJ(F:K.Fit)(h:J K L AnchW Post S c x y du dJ gs a b w t q)(aa:stepG K.P true a w=.go a' w' es)(a0:y'.early=y.early)
 (U:∀k,S k∨K.Still k∨k=K.A∨k=K.E→w'.heap[k]?=w.heap[k]?)(a3:y.early=true→∀b,K.dy w' b→K.dy w b)(a1:y.early=true→w.heap.size≤w'.heap.size)(ai:x.shut=false→y.early=true)
 (a6:∃st sm,jU x y' st sm∧K.oX w' st sm)(a9:∀e∈es,∀z,(MemAct.ofEvent e).touch?=some z→Ok0 K.Shun (K.iz S) K.fi z)(a5:y.early=true→∀e∈es,∀z,(MemAct.ofEvent e).touch?=some z→jf w'.heap.size z.loc)(ah:∀e∈es,MemAct.ofEvent e≠.mark (.release K.wN))
 (a8:deafBehind y.deaf es=y'.deaf)(ag:wU K L AnchW Post y' cM a' w') :
  ∃gA ops,runT K.P (crowd gs w sl) 0=(.next (crowd gA w' sl),ops)∧gA.size=gs.size∧J K L AnchW Post S c x y' du cM gA a' b w' (t++ops) q:=by
 have af:0<gs.size:=(Array.getElem?_eq_some_iff.1 h.h0).1;have wH:(0:Nat)≠c:=by have:=h.pos; omega
 have hA:∃s,w'.heap[K.A]?=some (.chan 0 #[] false s s false):=by obtain⟨s,hs⟩:=h.tN; exact⟨s,(U _ (.inr (.inr (.inl rfl)))).trans hs⟩
 have a4:RJ K S w w':=⟨fun k hk=>U k (hk.elim .inl fun z=>.inr (.inl z)),fun _=>by obtain⟨st,sm,_,e⟩:=a6; exact⟨st,sm,e⟩⟩;have hRC:x.shut=false→RC K w w':=fun hx k hk=>U k (hk.elim (fun z=>.inl ((h.mA (ai hx) k).2 z)) fun z=>.inr (.inl z));have eC:=a4.rc K.C (.inl (h.pP _ F.Ie));refine⟨_,_,runT_crowd_go (P:=K.P) (sl:=sl) (i:=0) h.h0 (show stepG K.P (0==0) a w=_ from aa),by simp,
  ⟨h.pos,by simp[af],?_,GB h.old (.inl rfl) gS,fun j hj=>?_,h.ch.rely (h.pP _ F.Ie) hRC a4,ag,a6,hA,(U _ (.inr (.inr (.inr rfl)))).trans h.wG,?_,fun hr=>?_,fun z b=>?_,h.pP,h.of,fun z=>Nat.le_trans (h.size (a0▸z)) (a1 (a0▸z)),fun z=>h.qM (a0▸z),fun z=>oz (a1 (a0▸z)) (h.DF (a0▸z)) (fun op a2 z' hz=>by obtain⟨e,he,rfl⟩:=Conc.mem_ofEvents a2; exact a5 (a0▸z) e he z' hz),?_,?_,?_⟩⟩
 ·rw[Array.getElem?_setIfInBounds_ne wH,Array.getElem?_map,h.hc];simp only[Option.map_some,Option.some.injEq];exact h.ch.still hA
 ·have ae:gs.size≤j:=by simpa using hj
  rw[Deaf_other t (g':=0) (by omega) _ gS];exact h.above j ae
 ·obtain⟨cs,a7,hn⟩:=h.pay; exact⟨cs,eC.trans a7,hn⟩
 ·exact Go.ConcX.ChanAt.of_block (h.full hr) eC
 ·have z':y.early=true:=a0▸z;exact⟨fun hb=>((h.mA z' b).1 hb).of_same (U b (.inl hb)),fun hb=>(h.mA z' b).2 (a3 z' b hb)⟩
 ·exact h.tr.app0 (Ne.symm wH) gS (fun op a2 z hz=>by obtain⟨e,he,rfl⟩:=Conc.mem_ofEvents a2; exact a9 e he z hz) (fun op a2=>by obtain⟨e,he,rfl⟩:=Conc.mem_ofEvents a2; exact ah e he)
 ·rw[Deaf_own,h.d0]; exact a8
 ·rw[Deaf_other t wH _ gS]; exact h.dc
theorem J.iZ(h:J K L AnchW Post S c x y du dJ gs a b w t q)(aa:stepG K.P false b w=.go b' w' es)
 (ag:wU K L AnchW Post y' cM (Conc.woken K.P b b' w' a) w')(hy:y'.deaf=y.deaf)(U:y'.early=y.early)(a8:ze K S' x' dD b' w')(ai:∃st sm,jU x' y' st sm∧K.oX w' st sm)
 (hA:∃s,w'.heap[K.A]?=some (.chan 0 #[] false s s false))(hE:w'.heap[K.E]?=some (.chan 0 #[] x'.shut 0 0 false))(a7:Go.ConcN.PayAt K.C 1 w')(a1:x'.rel=true→wS K w')
 (a4:y.early=true→∀b,S' b↔K.dy w' b)(a2:∀b,K.pk b→S' b)(a3:∃w₀,∀b,S' b→K.dy w₀ b)(a0:w.heap.size≤w'.heap.size)(a5:y.early=false→∀b,S' b→b<L)(a6:y.early=true→∀e∈es,∀z,(MemAct.ofEvent e).touch?=some z→jf w'.heap.size z.loc)(ah:nU K S' c x'.rel (t++MemOp.ofEvents c b.frame.fn b.frame.place es))(a9:deafBehind x.deaf es=x'.deaf) :
  ∃gA ops,runT K.P (crowd gs w sl) c=(.next (crowd gA w' sl),ops)∧gA.size=gs.size∧J K L AnchW Post S' c x' y' dD cM gA (Conc.woken K.P b b' w' a) b' w' (t++ops) q:=by
 have af:c<gs.size:=(Array.getElem?_eq_some_iff.1 h.hc).1;have wH:c≠0:=by have:=h.pos; omega
 have hb:(c==0)=false:=by simp[wH]
 refine⟨_,_,runT_crowd_go (P:=K.P) (sl:=sl) (i:=c) h.hc (by rw[hb]; exact aa),by simp,
  ⟨h.pos,?_,Array.getElem?_setIfInBounds_self_of_lt (by simpa using af),GB h.old (.inr rfl) gS,fun j hj=>?_,a8,ag,ai,hA,hE,a7,a1,fun z=>a4 (U▸z),a2,a3,fun z=>Nat.le_trans (h.size (U▸z)) a0,fun z=>⟨(h.qM (U▸z)).1,a5 (U▸z)⟩,fun z=>oz a0 (h.DF (U▸z)) (fun op eI z' hz=>by obtain⟨e,he,rfl⟩:=Conc.mem_ofEvents eI; exact a6 (U▸z) e he z' hz),ah,?_,?_⟩⟩
 ·rw[Array.getElem?_setIfInBounds_ne wH,Array.getElem?_map,h.h0]; rfl
 ·have ae:gs.size≤j:=by simpa using hj
  rw[Deaf_other t (g':=c) (by omega) _ gS];exact h.above j ae
 ·rw[Deaf_other t wH _ gS,h.d0,hy]
 ·rw[Deaf_own,h.dc]; exact a9
theorem qx(h:jU x (.ep vs) st sm):x.shut=false:=by cases x using Ch.bJ<;>first|rfl|exact h.elim
theorem sg(h:jU x .blk st sm):jU x .w3 st sm:=by cases x using Ch.bJ<;>first|exact h|exact h.elim
theorem nl(h:y'=y∨(y=.blk∧y'=.w3))(U:y'.early=true):y.early=true:=by
 rcases h with rfl|⟨rfl,rfl⟩
 ·exact U
 ·cases U
theorem Dy(h:y'=y∨(y=.blk∧y'=.w3))(U:y'.early=false):y.early=false:=by
 rcases h with rfl|⟨rfl,rfl⟩
 ·exact U
 ·rfl
theorem iT(h:y'=y∨(y=.blk∧y'=.w3)):y'.deaf=y.deaf:=by rcases h with rfl|⟨rfl,rfl⟩<;>rfl
theorem fg(h:y'=y∨(y=.blk∧y'=.w3))(U:jU x y st sm):jU x y' st sm:=by
 rcases h with rfl|⟨rfl,rfl⟩
 ·exact U
 ·exact sg U
theorem J.Dz(F:K.Fit)(gB:∀g w,AnchW g w→g.status=.running)(h:J K L AnchW Post S c x y du dJ gs a b w t q)(hi:gs[i]?=some g)(a1:i≠0)(a2:i≠c)(hg:g.status=.running) :
  ∃gA ops y' cM a' q',runT K.P (crowd gs w sl) i=(.next (crowd gA w sl),ops)∧gA.size=gs.size∧J K L AnchW Post S c x y' du cM gA a' b w (t++ops) q'∧sumTo gs.size q'<sumTo gs.size q:=by
 have a4:i<gs.size:=(Array.getElem?_eq_some_iff.1 hi).1;have hq:=h.old i g (by omega) a2 hi;have hb:(i==0)=false:=by simp[a1]
 cases a3:q i with
 | zero=>rw[a3] at hq; rw[hq.1] at hg; cases hg
 | succ k =>
  rw[a3] at hq;rcases hq with ⟨hf,_⟩|⟨_,g',es,hm,a5,a8⟩
  ·rw[hf] at hg; cases hg
  obtain⟨st,sm,hp,hw⟩:=h.pair;obtain⟨y',cM,th,U⟩:=h.ma.woken gB (g:=g) (g':=g') h.tN (fun ⟨vs,e⟩=>by subst e; have:=h.wG; rw[qx hp] at this; exact this);refine⟨_,_,y',cM,Conc.woken K.P g g' w a,upd q i k,runT_crowd_go (P:=K.P) (sl:=sl) (i:=i) hi (by rw[hb]; exact a5 w),by simp,
   ⟨h.pos,?_,?_,fun j z hj a7 hz=>?_,fun j hj=>?_,h.ch,th,⟨st,sm,?_,hw⟩,h.tN,h.wG,h.pay,h.full,fun z=>h.mA (nl U z),h.pP,h.of,fun z=>h.size (nl U z),fun z=>h.qM (Dy U z),fun z'=>oz (Nat.le_refl _) (h.DF (nl U z')) (fun op a0 z hz=>by obtain⟨e,he,rfl⟩:=Conc.mem_ofEvents a0; rw[touch_mute (hm e he)] at hz; cases hz),?_,?_,?_⟩,?_⟩
  ·rw[Array.getElem?_setIfInBounds_ne a1,Array.getElem?_map,h.h0]; rfl
  ·rw[Array.getElem?_setIfInBounds_ne a2,Array.getElem?_map,h.hc];simp only[Option.map_some,Option.some.injEq];exact h.ch.still h.tN
  ·by_cases e:i=j
   ·subst e;rw[Array.getElem?_setIfInBounds_self_of_lt (by simpa using a4)] at hz;obtain rfl:=Option.some.inj hz;rw[upd_same,Deaf_own];exact a8
   ·rw[Array.getElem?_setIfInBounds_ne e,Array.getElem?_map] at hz;obtain⟨z',a9,rfl⟩:=Option.map_eq_some_iff.1 hz;have Qy:=h.old j z' hj a7 a9;rw[woken_quitsD Qy,upd_ne q k (Ne.symm e),Deaf_other t e _ gS];exact Qy
  ·have a6:gs.size≤j:=by simpa using hj
   rw[Deaf_other t (g':=i) (by omega) _ gS];exact h.above j a6
  ·rcases U with rfl|⟨rfl,rfl⟩
   ·exact hp
   ·exact sg hp
  ·refine h.tr.mute (fun op a0=>by obtain⟨e,he,rfl⟩:=Conc.mem_ofEvents a0; exact touch_mute (hm e he)) (fun op a0=>?_);obtain⟨e,he,rfl⟩:=Conc.mem_ofEvents a0;exact r8 (hm e he)
  ·rw[Deaf_other t a1 _ gS,h.d0];rcases U with rfl|⟨rfl,rfl⟩<;>rfl
  ·rw[Deaf_other t a2 _ gS]; exact h.dc
  ·have h2:sumTo gs.size (upd q i k)+(k+1)=sumTo gs.size q+k:=by have:=sumTo_upd q k id a4;simpa[a3] using this
   omega
end
section
open Go.ConcN (sumTo upd sumTo_upd upd_ne upd_same)
variable {K:Cfg}[Go.ConcX.Payload][Go.ConcR.Payload][Go.ConcX.Shy K.Wg K.C]{AnchW:Gq}{Post:Value→World→Prop}
variable {L:Nat}{S S':Nat→Prop}{c:Nat}{x x':Ch}{y y':Ma}{du dJ dD cM:Tr}{gs gA:Array Goroutine}{a a' b b':Goroutine}{w w':World}{t u:Trace}{q:Nat→Nat}{sl:Option (Nat × Nat)}{es:Array Event}
theorem J.comm(F:K.Fit)(h:J K L AnchW Post S c x y du dJ gs a b w t q)(h0:gA[0]?=some a')(hc:gA[c]?=some b')(ag:gA.size=gs.size)(a6:∀j,j≠0→j≠c→gA[j]?=gs[j]?)
 (a0:∀op∈u,op.act.touch?=none)(hq:∀g,∀op∈u,∀d,deafStep g d op=d)(aa:∀op∈u,op.act≠.mark (.release K.wN))(U:∀k,k≠K.A→w'.heap[k]?=w.heap[k]?)
 (hA:∃s,w'.heap[K.A]?=some (.chan 0 #[] false s s false))(a7:ze K S x' dD b' w')(a9:wU K L AnchW Post y' cM a' w')(hp:∀st sm,jU x y st sm→jU x' y' st sm)
 (a3:x'.rel=x.rel)(a4:x'.shut=x.shut)(ae:x'.deaf=x.deaf)(af:y'.deaf=y.deaf)(a1:w'.heap.size=w.heap.size)(a2:y'.early=true→y.early=true)(a5:y'.early=false→K.N0≤L∧∀b,S b→b<L) :
  J K L AnchW Post S c x' y' dD cM gA a' b' w' (t++u) q:=by
 have eC:=U K.C (fun e=>F.Wr (e▸F.Ie));have hk:∀b,K.dy w b→K.dy w' b:=fun b hb=>hb.of_same (U b (fun e=>F.kA w (e▸hb)));have kG:∀b,K.dy w' b→K.dy w b:=fun b hb=>hb.of_same (U b (fun e=>F.kA w' (e▸hb))).symm;refine⟨h.pos,h0,hc,fun i g hi Mw hg=>?_,fun j hj=>?_,a7,a9,?_,hA,?_,?_,fun hr=>?_,fun z b=>⟨fun hb=>hk b ((h.mA (a2 z) b).1 hb),fun hb=>(h.mA (a2 z) b).2 (kG b hb)⟩,h.pP,h.of,fun z=>by rw[a1]; exact h.size (a2 z),a5,fun z=>by rw[a1]; exact oz (Nat.le_refl _) (h.DF (a2 z)) (fun op eI z hz=>by rw[a0 op eI] at hz; cases hz),?_,?_,?_⟩
 ·rw[a6 i (by omega) Mw] at hg;rw[Deaf_quiet (hq i)];exact h.old i g hi Mw hg
 ·rw[Deaf_quiet (hq j)];exact h.above j (by omega)
 ·obtain⟨st,sm,h1,h2⟩:=h.pair;exact⟨st,sm,hp st sm h1,(U _ (Ne.symm F.AW)).trans h2⟩
 ·rw[a4]; exact(U _ (Ne.symm F.AE)).trans h.wG
 ·obtain⟨cs,a8,hn⟩:=h.pay; exact⟨cs,eC.trans a8,hn⟩
 ·exact Go.ConcX.ChanAt.of_block (h.full (a3▸hr)) eC
 ·rw[a3]; exact h.tr.mute a0 aa
 ·rw[Deaf_quiet (hq 0),h.d0,af]
 ·rw[Deaf_quiet (hq c),h.dc,ae]
theorem Cv(F:K.Fit)(s:Nat):RM K w (w.setChan K.A 0 #[] false s s false):=⟨rfl,rfl,rfl,fun _ _ _ U=>heap_setChan_ne w _ _ _ _ _ _ (fun e=>U (.inl e.symm)),by simp[World.setChan]⟩
theorem Cu(F:K.Fit)(s:Nat):RC K w (w.setChan K.A 0 #[] false s s false):=fun b U=>heap_setChan_ne w _ _ _ _ _ _ (fun e=>by subst e;exact U.elim (F.kA w) F.sA)
theorem J.oC(h:J K L AnchW Post S c x y du dJ gs a b w t q){j:Nat}(a0:j≠0)(U:j≠c)(hg:gs[j]?=some g)(r:Nat)(sd:Bool):offersAt g r sd=[] :=
 offersAt_of_not_blocked (fun hb=>by rcases(h.old j g (by omega) U hg).status with z|z<;>rw[z] at hb<;>cases hb) r sd
theorem ze.oC(h:ze K S x du b w)(hp:∀v vs,x≠.ep v vs)(r:Nat)(sd:Bool):offersAt b r sd=[]:=by
 refine offersAt_of_not_blocked (fun U=>?_) r sd;rcases h.status with z|⟨v,vs,_,e,_⟩|⟨n,d,_,hq⟩
 ·rw[z] at U; cases U
 ·exact hp v vs e
 ·rcases hq.status with z|z<;>rw[z] at U<;>cases U
theorem J.Kd(F:K.Fit)(h:J K L AnchW Post S c x y du dJ gs a b w t q)(hy:y=.front vs∨y=.walk vs)(hs:iE K AnchW vs a w) :
  ∃gA ops x' y' dD cM a' b' w' L',runT K.P (crowd gs w sl) 0=(.next (crowd gA w' sl),ops)∧gA.size=gs.size∧J K L' AnchW Post S c x' y' dD cM gA a' b' w' (t++ops) q ∧
   (x'.left<x.left∨(x'=x∧dD=du∧y'.fX x.done<y.fX x.done)):=by
 have a8:0<gs.size:=(Array.getElem?_eq_some_iff.1 h.h0).1;have Jj:c<gs.size:=(Array.getElem?_eq_some_iff.1 h.hc).1;have a2:c≠0:=by have:=h.pos; omega
 obtain⟨_,CR,hs⟩:=(D9 K AnchW vs a w).1 hs;have Mr:stepG K.P (0==0) a w=.comm CR K.cases true .select w #[]:=hs.comm;obtain⟨s,hA⟩:=h.tN;obtain⟨st,sm,hp,hwg⟩:=h.pair;have Dl:∀(r:Nat) (sd:Bool) (j:Nat) (g:Goroutine),j≠c→(gs.setIfInBounds 0 ph)[j]?=some g→offersAt g r sd=[]:=by
  intro r sd j g a1 hg;rcases getElem?_stand gs 0 j g hg with ⟨_,rfl⟩|⟨hj,Vh⟩
  ·exact offersAt_ph _ _
  ·exact h.oC hj a1 Vh r sd
 by_cases ae:∃v a0,x=.ep v a0
 ·
  obtain⟨v,a0,rfl⟩:=ae;have MQ:vs=v::a0∧y=.walk vs:=by
   rcases hy with rfl|rfl
   ·exact hp.elim
   ·exact⟨hp.1,rfl⟩
  obtain⟨rfl,rfl⟩:=MQ;obtain⟨cm,rfl,uk⟩:=h.ch;have hAE:K.A≠K.E:=F.AE;have hE:=h.wG;have pA:partners (gs.setIfInBounds 0 ph) K.A true=[(c,0)]:=by rw[partners_one (j:=c) (stand_get a2 h.hc) (fun k z hk hz=>Dl _ _ k z hk hz),offersAt_parked_send];simp
  have pE:partners (gs.setIfInBounds 0 ph) K.E true=[]:=by
   refine partners_nil fun j g hg=>?_;by_cases a1:j=c
   ·subst a1;rw[stand_get a2 h.hc] at hg;obtain rfl:=Option.some.inj hg;rw[offersAt_parked_send,if_neg hAE]
   ·exact Dl _ _ j g a1 hg
  have a9:=crowd_sel_recv_meets (P:=K.P) (sl:=sl) (k:=0) (c:=K.A) (z:=K.z) (gj:=cm) (zj:=K.zs) h.h0 Mr rfl (fun m c' hm Mo=>by
   rcases m with _|_|m
   ·exact absurd rfl hm
   ·simp only[Cfg.cases,List.getElem?_toArray,List.getElem?_cons_succ,List.getElem?_cons_zero,Option.some.injEq] at Mo;subst Mo;exact ways_recv_none hE pE
   ·simp[Cfg.cases] at Mo) hA a2 h.hc pA;have a7:K.N0≤w.heap.size:=h.size rfl;have De:lr K a0 (Conc.served cm undef) (w.setChan K.A 0 #[] false (s+1) (s+1) false):=uk _ (Cu F _);have BN:rA K AnchW a0 (Conc.served CR (commResult K.cases .select ((0:Nat):Int) v true)) (w.setChan K.A 0 #[] false (s+1) (s+1) false):=hs.2.2.2.2 _ (Cv F _) (by simpa[World.setChan] using a7);rw[pz] at De;rw[r7] at BN;obtain⟨dD,De⟩:=De;obtain⟨cM,BN⟩:=BN;refine⟨_,_,.work a0,.walk a0,dD,cM,Conc.served CR (commResult K.cases .select ((0:Nat):Int) v true),Conc.served cm undef,_,L,a9,by simp,?_,.inl (by simp[Ch.left])⟩;rw[ofEvents_none,Array.empty_append];refine J.comm F h (by rw[Array.getElem?_setIfInBounds_self_of_lt (by simpa using a8)]; rfl) (by rw[Array.getElem?_setIfInBounds_ne (Ne.symm a2),Array.getElem?_setIfInBounds_self_of_lt Jj]; rfl) (by simp)
   (fun j hj a1=>by rw[Array.getElem?_setIfInBounds_ne (Ne.symm hj),Array.getElem?_setIfInBounds_ne (Ne.symm a1)])
   (met_mute c 0 _ _ _ _ K.A s 0) (met_quiet c 0 _ _ _ _ K.A s 0) ?_ (fun k hk=>heap_setChan_ne w _ _ _ _ _ _ (Ne.symm hk)) ⟨s+1,heap_setChan_self w hA _ _ _ _ _ _⟩ De BN ?_ rfl rfl rfl rfl (by simp[World.setChan]) (fun _=>rfl) (fun z=>by cases z)
  ·intro op U;simp only[List.mem_toArray,List.mem_cons,List.not_mem_nil,or_false] at U;rcases U with rfl|rfl|rfl|rfl<;>simp
  ·rintro st sm ⟨_,h2,h3⟩;exact⟨rfl,h2,h3⟩
 ·have a5:∀v a0,x≠.ep v a0:=fun v a0 e=>ae ⟨v,a0,e⟩;have pN:∀r,partners (gs.setIfInBounds 0 ph) r true=[]:=fun r=>by
   refine partners_nil fun j g hg=>?_;by_cases a1:j=c
   ·subst a1;rw[stand_get a2 h.hc] at hg;obtain rfl:=Option.some.inj hg;exact h.ch.oC a5 _ _
   ·exact Dl _ _ j g a1 hg
  have a4:∀z j,j≠0→j≠c→(gs.setIfInBounds 0 z)[j]?=gs[j]?:=fun z j hj _=>Array.getElem?_setIfInBounds_ne (Ne.symm hj);by_cases rV:x.shut=true
  ·
   have hE:=h.wG;rw[rV] at hE;have MQ:vs=[]∧y=.walk vs:=by rcases hy with rfl|rfl<;>cases x using Ch.bJ<;>first|exact hp.elim|exact⟨hp.1,rfl⟩|cases rV
   obtain⟨rfl,rfl⟩:=MQ;have Df:=crowd_sel_recv_closed (P:=K.P) (sl:=sl) (k:=1) (c:=K.E) (z:=K.zE) h.h0 Mr rfl (fun m c' hm Mo=>by
    rcases m with _|_|m
    ·simp only[Cfg.cases,List.getElem?_toArray,List.getElem?_cons_zero,Option.some.injEq] at Mo;subst Mo;exact ways_recv_none hA (pN _)
    ·exact absurd rfl hm
    ·simp[Cfg.cases] at Mo) hE (pN _);have a7:K.N0≤w.heap.size:=h.size rfl;obtain⟨cM,BN⟩:=hs.2.2.2.2 w (RM.refl w) a7;refine⟨_,_,x,.over,du,cM,Conc.served CR (commResult K.cases .select ((1:Nat):Int) K.zE false),b,w,L,Df,by simp,?_,.inr ⟨rfl,rfl,by simp[Ma.fX]⟩⟩;rw[ofEvents_none,Array.empty_append];refine J.comm F h (by rw[Array.getElem?_setIfInBounds_self_of_lt a8]; rfl) (by rw[Array.getElem?_setIfInBounds_ne (Ne.symm a2)]; exact h.hc) (by simp) (a4 _) ?_ ?_ ?_ (fun _ _=>rfl) ⟨s,hA⟩ h.ch BN ?_ rfl rfl rfl rfl rfl (fun _=>rfl) (fun z=>by cases z)
   ·intro op U; simp at U; subst U; rfl
   ·intro g op U d; simp at U; subst U; rfl
   ·intro op U; simp at U; subst U; simp
   ·intro st sm a3;cases x using Ch.bJ<;>first|exact a3.elim|exact a3.2|cases rV
  ·
   have a6:x.shut=false:=by cases e:x.shut<;>simp_all
   have hE:=h.wG;rw[a6] at hE;have Oz:=crowd_waits (P:=K.P) (sl:=sl) h.h0 Mr (fun cc aa=>by
    simp only[Cfg.cases,List.mem_toArray,List.mem_cons,List.not_mem_nil,or_false] at aa;rcases aa with rfl|rfl
    ·exact ways_recv_none hA (pN _)
    ·exact ways_recv_none hE (pN _));refine⟨_,_,x,.ep vs,du,dJ,parked CR K.cases .select,b,w,L,Oz,by simp,?_,.inr ⟨rfl,rfl,by rcases hy with rfl|rfl<;>simp[Ma.fX]⟩⟩;rw[ofEvents_none];refine J.comm F h (by simp[a8]) (by rw[Array.getElem?_setIfInBounds_ne (Ne.symm a2)]; exact h.hc) (by simp) (a4 _) (by simp) (by simp) (by simp) (fun _ _=>rfl) ⟨s,hA⟩ h.ch ⟨a,CR,rfl,hs⟩ ?_ rfl rfl rfl (by rcases hy with rfl|rfl<;>rfl) rfl (fun _=>by rcases hy with rfl|rfl<;>rfl) (fun z=>by cases z);intro st sm a3;rcases hy with rfl|rfl<;>cases x using Ch.bJ<;>first|exact absurd rfl (a5 _ _)|exact a3.elim|exact a3|cases a6
theorem J.sends(F:K.Fit)(h:J K L AnchW Post S c x y du dJ gs a b w t q){v:Value}(hx:x=.fresh (v::vs)∨x=.work (v::vs))(hs:AtSend K v (lr K vs) b w) :
  ∃gA ops x' y' dD cM a' b' w',runT K.P (crowd gs w sl) c=(.next (crowd gA w' sl),ops)∧gA.size=gs.size∧J K L AnchW Post S c x' y' dD cM gA a' b' w' (t++ops) q ∧
   (x'.left<x.left∨(x'.left=x.left∧x'.fX<x.fX)):=by
 have eH:0<gs.size:=(Array.getElem?_eq_some_iff.1 h.h0).1;have Jj:c<gs.size:=(Array.getElem?_eq_some_iff.1 h.hc).1;have wH:c≠0:=by have:=h.pos; omega
 obtain⟨_,Ot,Dn,uk⟩:=hs;have Mr:stepG K.P (c==0) b w=.comm b #[scase K.A v K.zs] true .send w #[]:=by rw[show(c==0)=false by simp[wH]]; exact Dn
 obtain⟨s,hA⟩:=h.tN;obtain⟨st,sm,hp,hwg⟩:=h.pair;have Dl:∀(r:Nat) (sd:Bool) (j:Nat) (g:Goroutine),j≠0→(gs.setIfInBounds c ph)[j]?=some g→offersAt g r sd=[]:=by
  intro r sd j g Ta hg;rcases getElem?_stand gs c j g hg with ⟨_,rfl⟩|⟨hj,Vh⟩
  ·exact offersAt_ph _ _
  ·exact h.oC Ta hj Vh r sd
 by_cases VH:∃eY,y=.ep eY
 ·
  obtain⟨eY,rfl⟩:=VH;have MQ:eY=v::vs:=by rcases hx with rfl|rfl<;>exact hp.1
  subst MQ;obtain⟨Aj,cm,rfl,rU⟩:=h.ma;have pA:partners (gs.setIfInBounds c ph) K.A false=[(0,0)]:=by
   rw[partners_one (j:=0) (stand_get (Ne.symm wH) h.h0) (fun k z hk hz=>Dl _ _ k z hk hz),offersAt_parked_at (k:=0) (z:=K.z) rfl (fun m cc hm H4=>by
    rcases m with _|_|m
    ·exact absurd rfl hm
    ·simp only[Cfg.cases,List.getElem?_toArray,List.getElem?_cons_succ,List.getElem?_cons_zero,Option.some.injEq] at H4;subst H4;simp only[rcase,ne_eq,Value.chan.injEq,Option.some.injEq];exact Ne.symm F.AE
    ·simp[Cfg.cases] at H4)];simp
  have Qq:=crowd_send_meets_sel (P:=K.P) (sl:=sl) (k:=0) (zj:=K.z) (gj:=cm) h.hc Mr hA (Ne.symm wH) h.h0 rfl pA;have De:lr K vs (Conc.served b undef) (w.setChan K.A 0 #[] false (s+1) (s+1) false):=uk _ (Cu F _);have BN:rA K AnchW vs (Conc.served cm (commResult K.cases .select ((0:Nat):Int) v true)) (w.setChan K.A 0 #[] false (s+1) (s+1) false):=rU.2.2.2.2 _ (Cv F _) (by simpa[World.setChan] using Ot);rw[pz] at De;rw[r7] at BN;obtain⟨dD,De⟩:=De;obtain⟨cM,BN⟩:=BN;refine⟨_,_,.work vs,.walk vs,dD,cM,Conc.served cm (commResult K.cases .select ((0:Nat):Int) v true),Conc.served b undef,_,Qq,by simp,?_,.inl (by rcases hx with rfl|rfl<;>simp[Ch.left])⟩;rw[ofEvents_none,Array.empty_append];refine J.comm F h (by rw[Array.getElem?_setIfInBounds_ne wH,Array.getElem?_setIfInBounds_self_of_lt eH]; rfl) (by rw[Array.getElem?_setIfInBounds_self_of_lt (by simpa using Jj)]; rfl) (by simp)
   (fun j hj Vo=>by rw[Array.getElem?_setIfInBounds_ne (Ne.symm Vo),Array.getElem?_setIfInBounds_ne (Ne.symm hj)])
   (met_mute c 0 _ _ _ _ K.A s 0) (met_quiet c 0 _ _ _ _ K.A s 0) ?_ (fun k hk=>heap_setChan_ne w _ _ _ _ _ _ (Ne.symm hk)) ⟨s+1,heap_setChan_self w hA _ _ _ _ _ _⟩ De BN ?_ (by rcases hx with rfl|rfl<;>rfl) (by rcases hx with rfl|rfl<;>rfl) (by rcases hx with rfl|rfl<;>rfl) rfl (by simp[World.setChan]) (fun _=>rfl) (fun z=>by cases z)
  ·intro op eI;simp only[List.mem_toArray,List.mem_cons,List.not_mem_nil,or_false] at eI;rcases eI with rfl|rfl|rfl|rfl<;>simp
  ·intro st sm Ox;rcases hx with rfl|rfl<;>exact⟨rfl,Ox.2⟩
 ·
  have Ic:y=.front (v::vs)∨y=.walk (v::vs):=by
   rcases hx with rfl|rfl
   ·cases y using Ma.bJ with
    | front eY=>exact .inl (congrArg Ma.front hp.1)
    | ep eY=>exact absurd ⟨_,rfl⟩ VH
    | _=>exact hp.elim
   ·cases y using Ma.bJ with
    | walk eY=>exact .inr (congrArg Ma.walk hp.1)
    | ep eY=>exact absurd ⟨_,rfl⟩ VH
    | _=>exact hp.elim
  have th:wU K L AnchW Post (.walk (v::vs)) dJ a w:=by
   rcases Ic with rfl|rfl
   ·exact h.ma
   ·exact h.ma
  have dZ:a.status=.running:=aY.running RM.refl (fun _ _=>iE.run) th;have pN:partners (gs.setIfInBounds c ph) K.A false=[]:=by
   refine partners_nil fun j g hg=>?_;by_cases Ta:j=0
   ·subst Ta;rw[stand_get (Ne.symm wH) h.h0] at hg;obtain rfl:=Option.some.inj hg;exact offersAt_of_not_blocked (fun hb=>by rw[dZ] at hb; cases hb) _ _
   ·exact Dl _ _ j g Ta hg
  have Oz:=crowd_waits (P:=K.P) (sl:=sl) h.hc Mr (fun cc H4=>by simp only[List.mem_toArray,List.mem_cons,List.not_mem_nil,or_false] at H4;subst H4;exact ways_send_none hA (Nat.le_refl 0) pN);refine⟨_,_,.ep v vs,.walk (v::vs),du,dJ,a,parked b #[scase K.A v K.zs] .send,w,Oz,by simp,?_,.inr ⟨by rcases hx with rfl|rfl<;>simp[Ch.left],by rcases hx with rfl|rfl<;>simp[Ch.fX]⟩⟩;rw[ofEvents_none];refine J.comm F h (by rw[Array.getElem?_setIfInBounds_ne wH]; exact h.h0) (Array.getElem?_setIfInBounds_self_of_lt Jj) (by simp) (fun j _ Vo=>Array.getElem?_setIfInBounds_ne (Ne.symm Vo)) (by simp) (by simp) (by simp) (fun _ _=>rfl) ⟨s,hA⟩ ⟨b,rfl,uk⟩ th ?_ (by rcases hx with rfl|rfl<;>rfl) (by rcases hx with rfl|rfl<;>rfl) (by rcases hx with rfl|rfl<;>rfl) (by rcases Ic with rfl|rfl<;>rfl) rfl (fun _=>by rcases Ic with rfl|rfl<;>rfl) (fun z=>by cases z);intro st sm Ox;rcases hx with rfl|rfl<;>rcases Ic with rfl|rfl<;>first|exact⟨rfl,Ox.2⟩|exact Ox.elim
end
section
open Go.ConcN (sumTo upd sumTo_upd upd_ne upd_same)
abbrev Mu:=Nat × Nat × Nat × Tr × Nat × Tr
abbrev HY:Mu→Mu→Prop:=Prod.Lex (·<·) (Prod.Lex (·<·) (Prod.Lex (·<·) (Prod.Lex Sub (Prod.Lex (·<·) Sub))))
theorem M5:WellFounded HY:=(Prod.lex Nat.lt_wfRel (Prod.lex Nat.lt_wfRel (Prod.lex Nat.lt_wfRel (Prod.lex ⟨Sub,Ba⟩ (Prod.lex Nat.lt_wfRel ⟨Sub,Ba⟩))))).wf
def mu (n:Nat)(x:Ch)(y:Ma)(du dJ:Tr):Mu:=(n,x.left,x.fX,du,y.fX x.done,dJ)
theorem uQ(T:Trace)(B:Nat):∃B',B≤B'∧∀op∈T,op.act.low B':=by
 obtain⟨l⟩:=T;induction l with
 | nil=>exact⟨B,Nat.le_refl _,by simp⟩
 | cons o l ih =>
  obtain⟨B',h1,h2⟩:=ih;have:∃Lv,o.act.low Lv:=by
   cases e:o.act with
   | access ev =>
    obtain⟨a0,wr,sy⟩:=ev;cases a0 with
    | cell a=>exact⟨a.block+1,Nat.lt_succ_self _⟩
    | obj r=>exact⟨r+1,Nat.lt_succ_self _⟩
    | _=>exact⟨0,trivial⟩
   | mark m =>cases m<;>first|exact⟨_,Nat.lt_succ_self _⟩|exact⟨0,trivial⟩
   | go _=>exact⟨0,trivial⟩
   | start=>exact⟨0,trivial⟩
   | _=>exact⟨_,Nat.lt_succ_self _⟩
  obtain⟨Lv,h3⟩:=this;refine⟨max B' Lv,by omega,fun op U=>?_⟩;simp only[List.mem_toArray,List.mem_cons] at U;rcases U with rfl|U
  ·exact MemAct.low_mono (Nat.le_max_right _ _) h3
  ·exact MemAct.low_mono (Nat.le_max_left _ _) (h2 op (by simpa using U))
variable {K:Cfg}[Go.ConcX.Payload][Go.ConcR.Payload][Go.ConcX.Shy K.Wg K.C]{AnchW:Gq}{Post:Value→World→Prop}
variable {L:Nat}{S S':Nat→Prop}{c:Nat}{x x':Ch}{y y':Ma}{du dJ dD cM:Tr}{gs gA:Array Goroutine}{a a' b b':Goroutine}{w w':World}{t u:Trace}{q:Nat→Nat}{sl:Option (Nat × Nat)}{es:Array Event}
theorem B1(h:x'.left<x.left):HY (mu n x' y' dD cM) (mu n x y du dJ):=.right _ (.left _ _ h)
theorem q9(h:x'.left=x.left)(U:x'.fX<x.fX):HY (mu n x' y' dD cM) (mu n x y du dJ):=by unfold mu; rw[h]; exact .right _ (.right _ (.left _ _ U))
theorem kI(h:x'.left=x.left)(U:x'.fX=x.fX)(hs:Sub dD du):HY (mu n x' y' dD cM) (mu n x y du dJ):=by unfold mu; rw[h,U]; exact .right _ (.right _ (.right _ (.left _ _ hs)))
theorem fE(h:y'.fX x.done<y.fX x.done):HY (mu n x y' du cM) (mu n x y du dJ):=.right _ (.right _ (.right _ (.right _ (.left _ _ h))))
theorem Gw(h:y'.fX x.done=y.fX x.done)(U:Sub cM dJ):HY (mu n x y' du cM) (mu n x y du dJ):=by unfold mu; rw[h]; exact .right _ (.right _ (.right _ (.right _ (.right _ U))))
structure lx(K:Cfg)[Go.ConcX.Shy K.Wg K.C]:Prop where
 ok:∀act,Go.ConcX.Shy.ok K.Wg K.C act→(∀z,act.touch?=some z→(∃ad:Addr,z.loc=.cell ad∧ad.block=K.C)∨(∃ad:Addr,z.loc=.cell ad∧ad.block=K.Wg∧z.kind≠.plain))∧act.low K.B
def Fin (K:Cfg)[Go.ConcX.Payload][Go.ConcX.Shy K.Wg K.C](Post:Value→World→Prop)(n:Nat)(M:Machine)(T:Trace):Prop :=
 ∃(gs:Array Goroutine) (a:Goroutine) (w:World) (sl:Option (Nat × Nat)) (q:Nat→Nat) (B m L:Nat),M=crowd gs w sl∧gs.size=n∧gs[0]?=some a∧Leavers K.P T gs q∧Past K.Shun B T∧K.B≤B ∧
  Goes K.P true AtRel (Go.ConcX.DPj K.Mine K.Wg K.C L) (Lu K Post) m a w
def Next (K:Cfg)[Go.ConcX.Payload][Go.ConcR.Payload][Go.ConcX.Shy K.Wg K.C](AnchW:Goroutine→World→Prop)(Post:Value→World→Prop)(c:Nat)(X:Stepped × Array MemOp)(t:Trace)(n:Nat)(μ:Mu):Prop :=
 (∃M ops,X=(.next M,ops)∧Fin K Post n M (t++ops)) ∨
 ∃L S x' y' dD cM gA a' b' w' NK q' ops,X=(.next (crowd gA w' NK),ops)∧gA.size=n∧J K L AnchW Post S c x' y' dD cM gA a' b' w' (t++ops) q'∧Relation.TransGen HY (mu (sumTo n q') x' y' dD cM) μ
theorem Next.mono{X:Stepped × Array MemOp}{μ Zg:Mu}(h:Next K AnchW Post c X t n Zg)(hl:HY Zg μ):Next K AnchW Post c X t n μ:=by
 rcases h with h|⟨L,S,x',y',dD,cM,gA,a',b',w',a0,q',ops,e,hs,hJ,U⟩
 ·exact .inl h
 ·exact .inr ⟨L,S,x',y',dD,cM,gA,a',b',w',a0,q',ops,e,hs,hJ,U.trans (.single hl)⟩
theorem Ls(F:K.Fit)(hS:∃w,∀b,S b→K.dy w b)(e:z.loc=.cell ad)(h:ad.block=K.Wg)(hk:z.kind≠.plain):Ok0 K.Shun (K.iz S) K.fi z:=by
 obtain⟨w,hS⟩:=hS;refine⟨?_,?_,fun _=>hk⟩
 ·rintro(⟨b,U,hb⟩|U|⟨b,U,hb⟩)
  ·rw[e] at U; cases U; exact F.kW w (h▸hS _ hb)
  iterate 2
   ·rw[e] at U; cases U
 ·rintro⟨b,U,hb⟩;rw[e] at U; cases U;exact absurd (h▸hb) F.sW
theorem C6(F:K.Fit)(hS:∃w,∀b,S b→K.dy w b)(h:ad.block=K.Wg)(U:(MemAct.ofEvent ⟨.cell ad,wr,true⟩).touch?=some z):Ok0 K.Shun (K.iz S) K.fi z:=by have e:MemAct.ofEvent ⟨.cell ad,wr,true⟩=.access ⟨.cell ad,wr,true⟩:=rfl;rw[e] at U;simp only[MemAct.touch?,Option.some.injEq] at U;subst U;exact Ls F hS rfl h (by simp)
theorem L5(F:K.Fit)(H:lx K)(hS:∃w,∀b,S b→K.dy w b)(h:Go.ConcX.EvQ K.Mine K.Wg K.C 0 e):∀z,(MemAct.ofEvent e).touch?=some z→Ok0 K.Shun (K.iz S) K.fi z:=by
 intro z hz;obtain ⟨_, ht, _, hk⟩ := h.1 0 ""
 rcases(H.ok _ hk).1 z hz with ⟨ad,e1,e2⟩|⟨ad,e1,e2,e3⟩
 ·exact absurd ((ht z hz).2.2 ⟨ad,e1,e2,by rw[e2]; exact F.CW⟩).1 (by decide)
 ·exact Ls F hS e1 e2 e3
theorem ff(h:jU x y st sm)(U:x.shut=false):y.early=true:=by cases x using Ch.bJ<;>first|(cases y using Ma.bJ<;>first|exact h.elim|rfl)|cases U
section
variable {n:Nat}(F:K.Fit)(H:lx K)(gB:∀g w,AnchW g w→g.status=.running)
 (Ak:∀L,K.N0≤L→∀g w,AnchW g w→∃m,Goes K.P true (gQ K) (iW K L) (iV K L AnchW Post) m g w)
theorem Next.main(h:∃gA ops,runT K.P (crowd gs w sl) 0=(.next (crowd gA w' sl),ops)∧gA.size=gs.size∧J K L AnchW Post S c x y' du cM gA a' b w' (t++ops) q)(U:∀n,HY (mu n x y' du cM) (mu n x y du dJ)) :
  Next K AnchW Post c (runT K.P (crowd gs w sl) 0) t gs.size (mu (sumTo gs.size q) x y du dJ):=by obtain⟨gA,ops,e,hs,hJ⟩:=h;exact .inr ⟨L,S,x,y',du,cM,gA,a',b,w',sl,q,ops,e,hs,hJ,.single (U _)⟩
theorem J.fF(F:K.Fit)(H:lx K)(h:J K L AnchW Post S c x y du dJ gs a b w t q)(hy:y.early=false)(hgo:stepG K.P true a w=.go a' w' es)(hd:iW K L w w' es)(th:wU K L AnchW Post y cM a' w')(hs:Sub cM dJ) :
  Next K AnchW Post c (runT K.P (crowd gs w sl) 0) t gs.size (mu (sumTo gs.size q) x y du dJ):=by
 obtain⟨st,sm,hp,hw⟩:=h.pair;obtain⟨hN,hL⟩:=h.qM hy;have Ap:∀k,S k∨K.Still k∨k=K.A∨k=K.E→k<L:=fun k hk=>by
  rcases hk with z|z|rfl|rfl
  ·exact hL k z
  ·exact Nat.lt_of_lt_of_le (F.s0 k z) hN
  ·exact Nat.lt_of_lt_of_le F.A0 hN
  ·exact Nat.lt_of_lt_of_le F.E0 hN
 exact Next.main (J.gJ F h hgo rfl (fun k hk=>hd.1 k (Ap k hk)) (fun z=>by rw[hy] at z; cases z) (fun z=>by rw[hy] at z; cases z) (ff hp) ⟨st,sm,hp,(hd.1 _ (Nat.lt_of_lt_of_le F.W0 hN)).trans hw⟩
  (fun e he => L5 F H h.of (hd.2 e he)) (fun z => by rw [hy] at z; cases z) (fun e he => ((hd.2 e he).1 0 "").2.2.1) (deafBehind_still (fun e he => ⟨(hd.2 e he).2.1, (hd.2 e he).2.2.1⟩) _) th) fun _ => Gw rfl hs
theorem yz(hm:(MemAct.mark m).touch?=none):∀e∈(#[Go.ConcX.mk m]:Array Event),∀z,(MemAct.ofEvent e).touch?=some z→Ok0 K.Shun (K.iz S) K.fi z:=by intro e U z hz;rw[Array.mem_singleton] at U;subst U;rw[show MemAct.ofEvent (Go.ConcX.mk m)=.mark m from rfl,hm] at hz;cases hz
theorem uz(hm:m≠.release K.wN):∀e∈(#[Go.ConcX.mk m]:Array Event),MemAct.ofEvent e≠.mark (.release K.wN):=by intro e U z;rw[Array.mem_singleton] at U;subst U;rw[show MemAct.ofEvent (Go.ConcX.mk m)=.mark m from rfl] at z;exact hm (MemAct.mark.inj z)
theorem uD(F:K.Fit)(hS:∃w,∀b,S b→K.dy w b)(h:∀e∈es,(∃ad wr,e=⟨.cell ad,wr,true⟩∧ad.block=K.Wg)∨e.loc=.mark .disable∨e.loc=.mark .enable) :
  (∀e∈es,∀z,(MemAct.ofEvent e).touch?=some z→Ok0 K.Shun (K.iz S) K.fi z)∧∀e∈es,MemAct.ofEvent e≠.mark (.release K.wN):=by
 refine⟨fun e U z hz=>?_,fun e U=>?_⟩
 ·rcases h e U with ⟨ad,wr,rfl,hb⟩|h1|h1
  ·exact C6 F hS hb hz
  iterate 2
   ·obtain⟨a0,wr,sy⟩:=e;simp only at h1;subst h1;cases hz
 ·rcases h e U with ⟨ad,wr,rfl,hb⟩|h1|h1
  ·exact fun z=>by cases z
  iterate 2
   ·obtain⟨a0,wr,sy⟩:=e;simp only at h1;subst h1;exact fun z=>by cases z
theorem Km(F:K.Fit)(U:∀L,K.N0≤L→∀g w,AnchW g w→∃m,Goes K.P true (gQ K) (iW K L) (iV K L AnchW Post) m g w)(h:J K L AnchW Post S c x .kd du dJ gs a b w t q)(hs:tG K L AnchW a w):Next K AnchW Post c (runT K.P (crowd gs w sl) 0) t gs.size (mu (sumTo gs.size q) x .kd du dJ):=by
 obtain⟨_,g',a0,m,hG⟩:=hs;have MR:Way K.P true (gQ K) (iW K L) (iV K L AnchW Post) g' w :=
  Way.bind Go.ConcX.RPa.refl ((bX hG).qa (fun _ _ z=>z) (fun _ _ _ z=>z) fun g w hg=>(U L (h.qM rfl).1 g w hg).elim fun _ hm=>bX hm);obtain⟨τ,nO⟩:=MR;obtain⟨st,sm,hp,hw⟩:=h.pair;exact Next.main (J.gJ (y':=.w1) F h a0 rfl (fun _ _=>rfl) (fun z=>by cases z) (fun z=>by cases z) (ff hp) ⟨st,sm,by cases x using Ch.bJ<;>first|exact hp|exact hp.elim,hw⟩ (yz rfl) (fun z=>by cases z) (uz (by simp)) rfl nO)
  fun _=>fE (by show(if x.done=true then 5 else 6)<7; split<;>omega)
theorem Ko(F:K.Fit)(h:J K L AnchW Post S c x .w1 du dJ gs a b w t q)(hs:iV K L AnchW Post a w):Next K AnchW Post c (runT K.P (crowd gs w sl) 0) t gs.size (mu (sumTo gs.size q) x .w1 du dJ):=by
 obtain⟨_,g',a1,h1,h2⟩:=hs;obtain⟨st,sm,hp,hw⟩:=h.pair;have ju:=uD F h.of (es:=#[Go.ConcX.rd (Go.ConcX.stA K.Wg)]) (fun e he=>by rw[Array.mem_singleton] at he; subst he; exact .inl ⟨_,_,rfl,rfl⟩);have U:(st=KK∧sm=0∧x.done=false∧jU x .w2 st sm)∨(st=0∧sm=0∧x.done=true∧x.rel=true∧jU x .ke st sm):=by cases x using Ch.bJ<;>first|exact hp.elim|exact .inl ⟨hp.1,hp.2,rfl,hp⟩|exact .inr ⟨hp.1,hp.2,rfl,rfl,hp⟩
 rcases U with ⟨rfl,rfl,hd,a0⟩|⟨rfl,rfl,hd,hr,a0⟩
 ·obtain⟨m,hG⟩:=h1 hw;obtain⟨τ,nO⟩:=bX hG;exact Next.main (J.gJ (y':=.w2) F h a1 rfl (fun _ _=>rfl) (fun z=>by cases z) (fun z=>by cases z) (ff hp) ⟨_,_,a0,hw⟩ ju.1 (fun z=>by cases z) ju.2 rfl nO) fun _=>fE (by rw[hd]; decide)
 ·obtain⟨m,hG⟩:=h2 ⟨hw,h.full hr⟩;obtain⟨τ,nO⟩:=bX hG;exact Next.main (J.gJ (y':=.ke) F h a1 rfl (fun _ _=>rfl) (fun z=>by cases z) (fun z=>by cases z) (ff hp) ⟨_,_,a0,hw⟩ ju.1 (fun z=>by cases z) ju.2 rfl nO) fun _=>fE (by rw[hd]; decide)
theorem GA(F:K.Fit)(U:∃w,∀b,S b→K.dy w b){k:Nat}(hk:S k∨K.Still k∨k=K.A∨k=K.E):k≠K.Wg:=by
 rintro rfl;rcases hk with z|z|z|z
 ·obtain⟨w,U⟩:=U; exact F.kW w (U _ z)
 ·exact F.sW z
 ·exact F.AW z.symm
 ·exact F.EW z.symm
theorem Kp(F:K.Fit)(a2:∀L,K.N0≤L→∀g w,AnchW g w→∃m,Goes K.P true (gQ K) (iW K L) (iV K L AnchW Post) m g w)(h:J K L AnchW Post S c x .w2 du dJ gs a b w t q)(hs:KP K L AnchW Post a w):Next K AnchW Post c (runT K.P (crowd gs w sl) 0) t gs.size (mu (sumTo gs.size q) x .w2 du dJ):=by
 obtain⟨_,h1,h2⟩:=hs;obtain⟨st,sm,hp,hw⟩:=h.pair;have U:(st=KK∧sm=0∧x.done=false∧jU x .w3 (KK+1) 0)∨(st=0∧sm=0∧x.done=true∧x.rel=true∧jU x .w1 st sm):=by cases x using Ch.bJ<;>first|exact hp.elim|exact .inl ⟨hp.1,hp.2,rfl,rfl,rfl⟩|exact .inr ⟨hp.1,hp.2,rfl,rfl,hp⟩
 rcases U with ⟨rfl,rfl,hd,a1⟩|⟨rfl,rfl,hd,hr,a1⟩
 ·obtain⟨g',a0,m,hG⟩:=h1 hw;have ju:=uD F h.of (es:=#[Go.ConcX.rd (Go.ConcX.stA K.Wg),Go.ConcX.wr (Go.ConcX.stA K.Wg)]) (fun e he=>by simp only[List.mem_toArray,List.mem_cons,List.not_mem_nil,or_false] at he;rcases he with rfl|rfl<;>exact .inl ⟨_,_,rfl,rfl⟩);obtain⟨τ,nO⟩:=bX hG;exact Next.main (J.gJ (y':=.w3) F h a0 rfl (fun k hk=>Go.RowKit.Below.heap_setCell _ _ _ _ (GA F h.of hk)) (fun z=>by cases z) (fun z=>by cases z) (ff hp) ⟨_,_,a1,Go.ConcX.WgAt.setSt hw _⟩ ju.1 (fun z=>by cases z) ju.2 rfl nO) fun _=>fE (by rw[hd]; decide)
 ·obtain⟨g',a0,m,hG⟩:=h2 ⟨hw,h.full hr⟩;have ju:=uD F h.of (es:=#[Go.ConcX.rd (Go.ConcX.stA K.Wg)]) (fun e he=>by rw[Array.mem_singleton] at he; subst he; exact .inl ⟨_,_,rfl,rfl⟩);have MR:Way K.P true (gQ K) (iW K L) (iV K L AnchW Post) g' w :=
   Way.bind Go.ConcX.RPa.refl ((bX hG).qa (fun _ _ z=>z) (fun _ _ _ z=>z) fun g w hg=>(a2 L (h.qM rfl).1 g w hg).elim fun _ hm=>bX hm);obtain⟨τ,nO⟩:=MR;exact Next.main (J.gJ (y':=.w1) F h a0 rfl (fun _ _=>rfl) (fun z=>by cases z) (fun z=>by cases z) (ff hp) ⟨_,_,a1,hw⟩ ju.1 (fun z=>by cases z) ju.2 rfl nO) fun _=>fE (by rw[hd]; decide)
theorem A6:∀e∈semEvents (Go.ConcX.smA K.Wg),(∃ad wr,e=⟨.cell ad,wr,true⟩∧ad.block=K.Wg)∨e.loc=.mark .disable∨e.loc=.mark .enable:=by
 intro e U;simp only[semEvents,List.mem_toArray,List.mem_cons,List.not_mem_nil,or_false] at U;rcases U with rfl|rfl|rfl|rfl
 ·exact .inr (.inl rfl)
 iterate 2
  ·exact .inl ⟨_,_,rfl,rfl⟩
 ·exact .inr (.inr rfl)
theorem Kq(F:K.Fit)(h:J K L AnchW Post S c x .w3 du dJ gs a b w t q)(hs:EI K L Post a w):Next K AnchW Post c (runT K.P (crowd gs w sl) 0) t gs.size (mu (sumTo gs.size q) x .w3 du dJ):=by
 obtain⟨a2,a1,h1,h2⟩:=hs;obtain⟨st,sm,hp,hw⟩:=h.pair;have U:(sm=0∧jU x .blk st sm)∨(st=0∧sm=1∧x.rel=true∧jU x .w4 0 0):=by cases x using Ch.bJ<;>first|exact hp.elim|exact .inl ⟨hp.2,hp⟩|exact .inr ⟨hp.1,hp.2,rfl,rfl,rfl⟩
 rcases U with ⟨rfl,a0⟩|⟨rfl,rfl,hr,a0⟩
 ·exact Next.main (J.gJ (y':=.blk) (cM:=dJ) F h (h1 ⟨st,hw⟩) rfl (fun _ _=>rfl) (fun z=>by cases z) (fun z=>by cases z) (ff hp) ⟨_,_,a0,hw⟩ (by simp) (fun z=>by cases z) (by simp) rfl ⟨a,rfl,a2,a1,h.ma⟩) fun _=>fE (by simp[Ma.fX])
 ·obtain⟨g',a3,m,hG⟩:=h2 ⟨hw,h.full hr⟩;have ju:=uD F h.of A6;obtain⟨τ,nO⟩:=bX hG;exact Next.main (J.gJ (y':=.w4) F h a3 rfl (fun k hk=>Go.RowKit.Below.heap_setCell _ _ _ _ (GA F h.of hk)) (fun z=>by cases z) (fun z=>by cases z) (ff hp) ⟨_,_,a0,Go.ConcX.WgAt.setSm hw _⟩ ju.1 (fun z=>by cases z) ju.2 rfl nO) fun _=>fE (by simp[Ma.fX])
theorem Kr(F:K.Fit)(h:J K L AnchW Post S c x .w4 du dJ gs a b w t q)(hs:KQ K L Post a w):Next K AnchW Post c (runT K.P (crowd gs w sl) 0) t gs.size (mu (sumTo gs.size q) x .w4 du dJ):=by obtain⟨_,g',a0,m,hG⟩:=hs;obtain⟨st,sm,hp,hw⟩:=h.pair;have U:=uD F h.of (es:=#[Go.ConcX.rd (Go.ConcX.stA K.Wg)]) (fun e he=>by rw[Array.mem_singleton] at he; subst he; exact .inl ⟨_,_,rfl,rfl⟩);obtain⟨τ,nO⟩:=bX hG;exact Next.main (J.gJ (y':=.ke) F h a0 rfl (fun _ _=>rfl) (fun z=>by cases z) (fun z=>by cases z) (ff hp) ⟨st,sm,by cases x using Ch.bJ<;>first|exact hp|exact hp.elim,hw⟩ U.1 (fun z=>by cases z) U.2 rfl nO) fun _=>fE (by simp[Ma.fX])
theorem Kn(F:K.Fit)(h:J K L AnchW Post S c x .ke du dJ gs a b w t q)(hs:KO K L Post a w):Next K AnchW Post c (runT K.P (crowd gs w sl) 0) t gs.size (mu (sumTo gs.size q) x .ke du dJ):=by obtain⟨_,g',U,m,hG⟩:=hs;obtain⟨st,sm,hp,hw⟩:=h.pair;obtain⟨τ,nO⟩:=bX hG;exact Next.main (J.gJ (y':=.acq) F h U rfl (fun _ _=>rfl) (fun z=>by cases z) (fun z=>by cases z) (ff hp) ⟨st,sm,by cases x using Ch.bJ<;>first|exact hp|exact hp.elim,hw⟩ (yz rfl) (fun z=>by cases z) (uz (by simp)) rfl nO) fun _=>fE (by simp[Ma.fX])
theorem Hu(h:J K L AnchW Post S c x .acq du dJ gs a b w t q)(hs:EG K L Post a w):Next K AnchW Post c (runT K.P (crowd gs w sl) 0) t gs.size (mu (sumTo gs.size q) x .acq du dJ):=by
 obtain⟨_,g',a3,m,hG⟩:=hs;obtain⟨st,sm,hp,hw⟩:=h.pair;have eH:0<gs.size:=(Array.getElem?_eq_some_iff.1 h.h0).1;have wH:(0:Nat)≠c:=by have:=h.pos; omega
 obtain⟨n,d,rfl⟩:∃n d,x=.quit n d:=by cases x using Ch.bJ<;>first|exact⟨_,_,rfl⟩|exact hp.elim
 obtain⟨hq,_⟩:=h.ch;obtain⟨r,SV,Gd,yg⟩:∃r,PT K.Shun (K.iz S) K.fi c (fun i=>Before t i r) t∧Go.ConcN.RelBy K.wN t c r∧∀k,r<k→t.act? k≠some (.mark (.release K.wN)):=h.tr;have eo:MemOp.ofEvents 0 a.frame.fn a.frame.place #[Go.ConcX.mk (.acquire (Go.ConcX.stA K.Wg))]=#[{ g:=0,fn:=a.frame.fn,pos:=a.frame.place,act:=.mark (.acquire K.wN) }]:=by simp[MemOp.ofEvents,MemAct.ofEvent,Go.ConcX.mk,Go.ConcX.stA,Cfg.wN]
 obtain⟨B',a1,a2⟩:=uQ (t++#[{ g:=0,fn:=a.frame.fn,pos:=a.frame.place,act:=.mark (.acquire K.wN) }]) K.B;have hP:=SV.join Gd h.d0 yg a.frame.fn a.frame.place B' a2;refine .inl ⟨_,_,runT_crowd_go (P:=K.P) (sl:=sl) (i:=0) h.h0 (show stepG K.P (0==0) a w=_ from a3),_,g',w,sl,upd q c n,B',m,L,rfl,by simp,by simp[eH],⟨fun i z hi hz=>?_,fun j hj=>?_⟩,by rw[eo]; exact hP,a1,hG⟩
 ·rw[Array.getElem?_setIfInBounds_ne (by omega),Array.getElem?_map] at hz;obtain⟨z',U,rfl⟩:=Option.map_eq_some_iff.1 hz;by_cases Mw:i=c
  ·subst Mw;rw[h.hc] at U;obtain rfl:=Option.some.inj U;rw[woken_quitsD hq,upd_same,Deaf_other t wH _ gS,h.dc];exact hq
  ·have a0:=h.old i z' hi Mw U;rw[woken_quitsD a0,upd_ne q n Mw,Deaf_other t (g':=0) (by omega) _ gS];exact a0
 ·have a4:gs.size≤j:=by simpa using hj
  rw[Deaf_other t (g':=0) (by omega) _ gS];exact h.above j a4
theorem J.B4(F:K.Fit)(H:lx K)(U:∀L,K.N0≤L→∀g w,AnchW g w→∃m,Goes K.P true (gQ K) (iW K L) (iV K L AnchW Post) m g w)(h:J K L AnchW Post S c x .kd du dJ gs a b w t q):Next K AnchW Post c (runT K.P (crowd gs w sl) 0) t gs.size (mu (sumTo gs.size q) x .kd du dJ):=by
 rcases aY.now (R:=gQ K) h.ma (Go.ConcX.RPa.refl w) with hs|⟨_,g',w',es,lp,e,d,dM,hG⟩
 ·exact Km F U h hs
 ·exact J.fF F H h rfl e d hG dM
theorem J.Gr(F:K.Fit)(h:J K L AnchW Post S c x .over du dJ gs a b w t q)(hs:uV K AnchW a w):∃L' τ,J K L' AnchW Post S c x .kd du τ gs a b w t q:=by
 obtain⟨st,sm,U,a0⟩:=h.pair;have Ot:=h.size rfl;have Vr:zA K w:=by
  have hw:Go.ConcX.WgAt K.ty K.Wg w st sm:=a0;have:(st=KK∧sm=0)∨(st=0∧sm=0∧x.rel=true):=by cases x using Ch.bJ<;>first|exact U.elim|exact .inl ⟨U.1,U.2⟩|exact .inr ⟨U.1,U.2,rfl⟩
  rcases this with ⟨rfl,rfl⟩|⟨rfl,rfl,hr⟩
  ·exact .inl hw
  ·exact .inr ⟨hw,h.full hr⟩
 obtain⟨τ,nO⟩:=hs.2 Vr w.heap.size Ot;refine⟨w.heap.size,τ,⟨h.pos,h.h0,h.hc,h.old,h.above,h.ch,nO,⟨st,sm,?_,a0⟩,h.tN,h.wG,h.pay,h.full,(fun z=>by cases z),h.pP,h.of,(fun z=>by cases z),fun _=>⟨Ot,fun b hb=>((h.mA rfl b).1 hb).lt F Ot⟩,(fun z=>by cases z),h.tr,h.d0,h.dc⟩⟩;cases x using Ch.bJ<;>first|exact U.elim|exact U
theorem J.AG(F:K.Fit)(H:lx K)(gB:∀g w,AnchW g w→g.status=.running)(Ak:∀L,K.N0≤L→∀g w,AnchW g w→∃m,Goes K.P true (gQ K) (iW K L) (iV K L AnchW Post) m g w)(h:J K L AnchW Post S c x y du dJ gs a b w t q)(dZ:a.status=.running):Next K AnchW Post c (runT K.P (crowd gs w sl) 0) t gs.size (mu (sumTo gs.size q) x y du dJ):=by
 have rU:∀vs,(y=.front vs∨y=.walk vs)→iE K AnchW vs a w→Next K AnchW Post c (runT K.P (crowd gs w sl) 0) t gs.size (mu (sumTo gs.size q) x y du dJ):=by
  intro vs hy hs;obtain⟨gA,ops,x',y',dD,cM,a',b',w',L',e,kH,hJ,hl⟩:=J.Kd (sl:=sl) F h hy hs;refine .inr ⟨L',S,x',y',dD,cM,gA,a',b',w',sl,q,ops,e,kH,hJ,?_⟩;rcases hl with hl|⟨rfl,rfl,hl⟩
  ·exact .single (B1 hl)
  ·exact .single (fE hl)
 have hgo:∀{g' w' es lp},y.early=true→stepG K.P true a w=.go g' w' es→DM K w w' es→Sub lp dJ→wU K L AnchW Post y lp g' w'→Next K AnchW Post c (runT K.P (crowd gs w sl) 0) t gs.size (mu (sumTo gs.size q) x y du dJ):=by
  intro g' w' es lp hy e d dM hG;obtain⟨st,sm,hp,hw⟩:=h.pair;have hSk:∀b,S b→K.dy w' b:=fun b hb=>((h.mA hy b).1 hb).of_same (d.block b (.inl ((h.mA hy b).1 hb)));refine Next.main (J.gJ F h e rfl (fun k hk=>d.block k ?_) (fun _=>d.born) (fun _=>d.grow) (fun _=>hy) ⟨st,sm,hp,(d.block _ (.inr (.inr (.inr (.inr rfl))))).trans hw⟩
   (fun e he z hz=>?_) (fun _ e he z hz=>(((d.evs e he).1 z hz).2)) (fun e he=>(d.evs e he).2.2.2) (deafBehind_still (fun e he=>⟨(d.evs e he).2.1,(d.evs e he).2.2.1⟩) _) hG) fun _=>Gw rfl dM
  ·rcases hk with z|z|z|z
   ·exact .inl ((h.mA hy k).1 z)
   ·exact .inr (.inl z)
   ·exact .inr (.inr (.inl z))
   ·exact .inr (.inr (.inr (.inl z)))
  ·have ok:=((d.evs e he).1 z hz).1;exact⟨fun hk=>ok.mA (Cfg.iz.mono hSk hk),ok.still,ok.tA⟩
 cases y using Ma.bJ with
 | front vs =>
  rcases aY.now (R:=RM K) h.ma (RM.refl w) with hs|⟨_,g',w',es,lp,e,d,dM,hG⟩
  ·exact rU vs (.inl rfl) hs
  ·exact hgo rfl e d dM hG
 | walk vs =>
  rcases aY.now (R:=RM K) h.ma (RM.refl w) with hs|⟨_,g',w',es,lp,e,d,dM,hG⟩
  ·exact rU vs (.inr rfl) hs
  ·exact hgo rfl e d dM hG
 | ep vs=>obtain⟨_,cm,rfl,_⟩:=h.ma; cases dZ
 | over =>
  rcases aY.now (R:=RM K) h.ma (RM.refl w) with hs|⟨_,g',w',es,lp,e,d,dM,hG⟩
  ·obtain⟨L',τ,hJ⟩:=J.Gr F h hs;exact(J.B4 F H Ak hJ).mono (fE (by simp[Ma.fX]))
  ·exact hgo rfl e d dM hG
 | kd=>exact J.B4 F H Ak h
 | w1 =>
  rcases aY.now (R:=gQ K) h.ma (Go.ConcX.RPa.refl w) with hs|⟨_,g',w',es,lp,e,d,dM,hG⟩
  ·exact Ko F h hs
  ·exact J.fF F H h rfl e d hG dM
 | w2 =>
  rcases aY.now (R:=gQ K) h.ma (Go.ConcX.RPa.refl w) with hs|⟨_,g',w',es,lp,e,d,dM,hG⟩
  ·exact Kp F Ak h hs
  ·exact J.fF F H h rfl e d hG dM
 | w3 =>
  rcases aY.now (R:=zB K) h.ma (Go.ConcX.RPb.refl w) with hs|⟨_,g',w',es,lp,e,d,dM,hG⟩
  ·exact Kq F h hs
  ·exact J.fF F H h rfl e d hG dM
 | blk=>obtain⟨cm,rfl,_⟩:=h.ma; cases dZ
 | w4 =>
  rcases aY.now (R:=AtRel) h.ma (atRel_refl w) with hs|⟨_,g',w',es,lp,e,d,dM,hG⟩
  ·exact Kr F h hs
  ·exact J.fF F H h rfl e d hG dM
 | ke =>
  rcases aY.now (R:=AtRel) h.ma (atRel_refl w) with hs|⟨_,g',w',es,lp,e,d,dM,hG⟩
  ·exact Kn F h hs
  ·exact J.fF F H h rfl e d hG dM
 | acq =>
  rcases aY.now (R:=AtRel) h.ma (atRel_refl w) with hs|⟨_,g',w',es,lp,e,d,dM,hG⟩
  ·exact Hu h hs
  ·exact J.fF F H h rfl e d hG dM
end
end
end Go.Proofs.YtgcaionclkbehaaGreatDoor
