
import Derived.Conc.WgGenN3
import Derived.Test.YtgcaionclkbehaaGreatDoorBirth
import Derived.Test.YtgcaionclkbehaaGreatDoorDone
import Derived.Conc.FxGenLone
import Derived.Conc.CrowdMono
set_option linter.all false
set_option maxHeartbeats 2000000
set_option maxRecDepth 100000
namespace Go.Proofs.YtgcaionclkbehaaGreatDoor
open Go.Conc Go.RowKit Tryz
variable {P:Program}{main:Bool}{es:Array Event}{L b i:Nat}{a:Act}{k todo:List Item}{cs:List Frame}{ops:Array Oper}{rest:List Nat}{o:Oper}{K:Cfg}{f fr:FuncId}{args cap cr tm:Aq}{A F:World->Prop}{t:TypeId}{v:Value}{I:Nat->World->Prop}{l:Iq}
abbrev link:Conc.Lib.WgLink:={ add:=199,done:=202,wait:=115,relMerge:=303,disable:=204,enable:=206,inBubble:=212,associate:=304,fatal:=305,uOr:=306,uAdd:=307,raceRead:=308,uLoad:=205,uStore:=309,disassociate:=210,semrelease:=310,acquire:=207,isAssociated:=208,uCas:=209,raceWrite:=211,semacquire:=213,orU64:=359,addU64:=360,loadU64:=311,storeU64:=361,casU64:=312,tWgP:=240,tUP:=244,tAssoc:=290,tWg:=169,tAU:=166,tU64:=164,tUint:=242,tU32:=167,tPU32:=248,tPAU:=295,tPU64:=297,tNoCopy:=161,tANoCopy:=162,tAlign64:=163 }
theorem uR:Conc.Lib.WgLib prog link :=
 ⟨func199,func202,func115,func303,func204,func206,func212,func304,func305,func306,func307,func308,func205,func309,func210,func310,func207,func208,func209,func211,func213,func359,func360,func311,func361,func312,underlying240,Tryz.runUnderlying240,Tryz.sizeOf240,Tryz.isAgg240,Tryz.zeroValue240,underlying244,Tryz.runUnderlying244,Tryz.sizeOf244,Tryz.isAgg244,Tryz.zeroValue244,underlying290,Tryz.runUnderlying290,Tryz.sizeOf290,Tryz.isAgg290,Tryz.zeroValue290,underlying169,Tryz.runUnderlying169,Tryz.sizeOf169,Tryz.isAgg169,Tryz.zeroValue169,underlying166,Tryz.runUnderlying166,Tryz.sizeOf166,Tryz.isAgg166,Tryz.zeroValue166,underlying164,Tryz.runUnderlying164,Tryz.sizeOf164,Tryz.isAgg164,Tryz.zeroValue164,underlying242,Tryz.runUnderlying242,Tryz.sizeOf242,Tryz.isAgg242,Tryz.zeroValue242,underlying167,Tryz.runUnderlying167,Tryz.sizeOf167,Tryz.isAgg167,Tryz.zeroValue167,underlying248,Tryz.runUnderlying248,Tryz.sizeOf248,Tryz.isAgg248,Tryz.zeroValue248,underlying295,Tryz.runUnderlying295,Tryz.sizeOf295,Tryz.isAgg295,Tryz.zeroValue295,underlying297,Tryz.runUnderlying297,Tryz.sizeOf297,Tryz.isAgg297,Tryz.zeroValue297,underlying0,Tryz.runUnderlying0,Tryz.sizeOf0,Tryz.isAgg0,Tryz.zeroValue0,underlying3,Tryz.runUnderlying3,Tryz.sizeOf3,Tryz.isAgg3,Tryz.zeroValue3,underlying4,Tryz.runUnderlying4,Tryz.sizeOf4,Tryz.isAgg4,Tryz.zeroValue4,underlying9,Tryz.runUnderlying9,Tryz.sizeOf9,Tryz.isAgg9,Tryz.zeroValue9,underlying20,Tryz.runUnderlying20,Tryz.sizeOf20,Tryz.isAgg20,Tryz.zeroValue20,underlying21,Tryz.runUnderlying21,Tryz.sizeOf21,Tryz.isAgg21,Tryz.zeroValue21,kq,kq⟩
def bot (P:Program):Frame:={ (default:Frame) with fn:=P.funcs.size,defers:=[],mode:=.panicking [goexitEntry] }
def Xn (N:Nat):Deferred:={ target:=.fn (.func 201) #[.pointer (some ⟨N+7,0,none⟩)],args:=#[] }
def fC(N:Nat):Value:=.func (.func 112) #[] #[.pointer (some ⟨N+5,0,none⟩),.pointer (some ⟨N+1,0,none⟩),.pointer (some ⟨N+3,0,none⟩)]
def OJ(b:Option Code):Array Oper:=match b with|some (.seq _ (.region _ ops _))=>ops|_=>#[]
def LZ (b:Option Code)(N:Nat):Frame:=(baseD 200).at ⟨#[.pointer (some ⟨N+7,0,none⟩),.pointer (some ⟨N+8,0,none⟩),.func (.func 201) #[] #[.pointer (some ⟨N+7,0,none⟩)],fC N,undef],[Xn N]⟩ [.inRegion (OJ b) [1]]
theorem Way.closed{R:Wq}{D:World->World->Array Event->Prop}{Stop:Gq}(f:∀a b c,R a b->R b c->R a c):Closed P main (λ_:Unit=>R) D (λ_=>Way P main R D Stop) where
 rely:=λ{_ _ _ _} h hr=>Way.rely f h hr
 step:=by
  intro i g w k h
  refine Way.step k λd j=>?_
  have U:=h d j
  cases e:stepG P main g d with
  | go g' w' es=>rw[e,goes_go] at U;exact⟨g',w',es,rfl,U.1,U.2⟩
  | _=>rw[e] at U;exact U.elim
variable {N Pb B:Nat}{Shun Mz:Loc->Prop}{val:Value}{S:Nat->Prop}{s:ByteArray}
section
variable {w aE:World}
variable [ConcR.Payload][ConcX.Payload]
structure HJ(N:Nat)(val:Value)(w:World):Prop where
 pc:∃t,w.heap[N]?=some (.cells #[val] t)
 wb:w.heap[N+7]?=some (.cells #[.pointer (some ⟨N+6,0,none⟩)] 240)
 live:ConcN.WgLive 169 (N+6) w
theorem HJ.rely(U:S N)(h:HJ N val w)(r:RJ (aC prog N Pb Shun val B Mz) S w aE):HJ N val aE:=⟨h.pc.imp λ_ z=>(r.rc _ (.inl U)).trans z,(r.rc _ (i3 (.inr (.inl rfl)))).trans h.wb,r.live h.live⟩
theorem pF(U:S N)(h:∀e∈es,EvB N Pb N N e):DJ (aC prog N Pb Shun val B Mz) S w w es:=by
 refine⟨⟨rfl,rfl,rfl,rfl,λ_ _=>rfl,id,λ_ _=>rfl⟩,λe g=>?_⟩;obtain⟨a,d,rfl,f⟩:=h e g;refine⟨λj i=>⟨rfl,λx c=>?_⟩,by simp,by simp,by simp⟩;have b:x=⟨.cell a,d,.plain⟩:=by simp only[MemAct.ofEvent,MemAct.touch?] at c;cases d<;>simpa using c.symm
 subst b;rcases f with h|⟨h,rfl⟩
 .exact .inr (.inl (.inl ⟨a,rfl,by rw[show a.block=N by omega];exact U⟩))
 .exact .inr (.inr ⟨⟨a,rfl,h⟩,rfl⟩)
theorem e7(U:S N)(w:World):DJ (aC prog N Pb Shun val B Mz) S w w #[]:=pF U iq
theorem SP(hS:S N)(hF:HJ N val w)(tm:Aq) :
  Way prog false (RJ (aC prog N Pb Shun val B Mz) S) (DJ (aC prog N Pb Shun val B Mz) S) (yD (aC prog N Pb Shun val B Mz)) (G { (base 112).at ⟨tm,[]⟩ [] with mode:=.returning } [LZ Tryz.f200.body N,(bot prog)]) w:=by
 have CJ:=Way.closed (P:=prog) (main:=false) (R:=RJ (aC prog N Pb Shun val B Mz) S) (D:=DJ (aC prog N Pb Shun val B Mz) S) (Stop:=yD (aC prog N Pb Shun val B Mz)) (λ_ _ _=>RJ.trans (K:=(aC prog N Pb Shun val B Mz)));refine CJ.step (vs:=()) rfl λ_ cg=>?_;replace hF:=hF.rely hS cg;clear cg;rw[stepG_leave (b:=base 112) rfl rfl func112 (results_none rfl _ _ _) (events_results_none rfl _ _)];simp only[goes_go];refine⟨e7 hS _,?_⟩;unfold LZ;rw[Frame.finish_at];simp only[OJ,Tryz.f200];try walk_nrm
 refine CJ.step (vs:=()) rfl λ_ cg=>?_;replace hF:=hF.rely hS cg;clear cg;rw[stepG_region_end];simp only[goes_go];refine⟨e7 hS _,?_⟩;refine CJ.step (vs:=()) rfl λ_ cg=>?_;replace hF:=hF.rely hS cg;clear cg;rw[stepG_end];simp only[goes_go];refine⟨e7 hS _,?_⟩;refine CJ.step (vs:=()) rfl λ_ cg=>?_;replace hF:=hF.rely hS cg;clear cg;rw[nH (f:=201) rfl func201 rq rfl];simp only[goes_go];refine⟨e7 hS _,?_⟩;simp only[ntmps201,bZ,Nat.reduceAdd,Nat.reduceSub];iterate 2
  refine CJ.step (vs:=()) rfl λ_ cg=>?_
  replace hF:=hF.rely hS cg
  clear cg
  rw[stepG_seq]
  simp only[goes_go]
  refine⟨e7 hS _,?_⟩
 refine CJ.step (vs:=()) rfl λ_ cg=>?_;replace hF:=hF.rely hS cg;clear cg;rw[stepG_region];simp only[goes_go,fH,Nat.reduceAdd];refine⟨e7 hS _,?_⟩;refine CJ.step (vs:=()) rfl λ_ cg=>?_;replace hF:=hF.rely hS cg;clear cg;rw[vu rfl rq rfl rfl rfl (by simp[execOp,go_sem]) (by simp[execOp,go_sem])];simp only[goes_go];refine⟨e7 hS _,?_⟩;try walk_nrm
 refine CJ.step (vs:=()) rfl λ_ cg=>?_;replace hF:=hF.rely hS cg;clear cg;refine goes_oper_k rfl rfl dq (λKx dg=>?_);go_simp;refine dg _ _ ⟨?_,?_⟩
 .refine pF hS ?_;co_evs (skip)
 clear dg Kx;try walk_nrm
 refine CJ.step (vs:=()) rfl λ_ cg=>?_;replace hF:=hF.rely hS cg;clear cg;rw[stepG_region_end];simp only[goes_go];refine⟨e7 hS _,?_⟩;refine CJ.step (vs:=()) rfl λ_ cg=>?_;replace hF:=hF.rely hS cg;clear cg;rw[stepG_seq];simp only[goes_go];refine⟨e7 hS _,?_⟩;refine CJ.step (vs:=()) rfl λ_ cg=>?_;replace hF:=hF.rely hS cg;clear cg;rw[stepG_region];simp only[goes_go,fH,Nat.reduceAdd];refine⟨e7 hS _,?_⟩;refine CJ.step (vs:=()) rfl λ_ cg=>?_;replace hF:=hF.rely hS cg;clear cg;refine goes_oper_k rfl rfl dq (λKx dg=>?_);go_simp;refine dg _ _ ⟨?_,?_⟩
 .refine pF hS ?_;co_evs (skip)
 clear dg Kx;try walk_nrm
 refine CJ.step (vs:=()) rfl λ_ cg=>?_;replace hF:=hF.rely hS cg;clear cg;refine goes_oper_k rfl rfl dq (λKx dg=>?_);have bo:∀w es,(binOp .neq 20 .nilIface .nilIface).events prog w es=es:=λw es=>by rw[show binOp .neq 20 Value.nilIface Value.nilIface=(do pure (.bool (!(<-Op.equal 20 .nilIface .nilIface)))) from rfl,show Op.equal 20 Value.nilIface Value.nilIface=Op.equalIn (9999+1) 20 .nilIface .nilIface from rfl,Op.equalIn];simp[Tryz.runUnderlying20,go_sem,underlying,underlying20]
 go_simp;refine dg _ _ ⟨?_,?_⟩
 .refine pF hS ?_;co_evs (skip)
 clear dg Kx;try walk_nrm
 refine CJ.step (vs:=()) rfl λ_ cg=>?_;replace hF:=hF.rely hS cg;clear cg;rw[stepG_region_end];simp only[goes_go];refine⟨e7 hS _,?_⟩;refine CJ.step (vs:=()) rfl λ_ cg=>?_;replace hF:=hF.rely hS cg;clear cg;rw[stepG_cond (t:=false) rfl];simp only[goes_go,if_true,if_false,kj,↓reduceIte];refine⟨e7 hS _,?_⟩;refine CJ.step (vs:=()) rfl λ_ cg=>?_;replace hF:=hF.rely hS cg;clear cg;rw[stepG_skip];simp only[goes_go];refine⟨e7 hS _,?_⟩;refine CJ.step (vs:=()) rfl λ_ cg=>?_;replace hF:=hF.rely hS cg;clear cg;rw[stepG_region];simp only[goes_go,fH,Nat.reduceAdd];refine⟨e7 hS _,?_⟩;refine CJ.step (vs:=()) rfl λ_ cg=>?_;replace hF:=hF.rely hS cg;clear cg;refine goes_oper_k rfl rfl dq (λKx dg=>?_);have hc:=cell1 hF.wb;go_simp;refine dg _ _ ⟨?_,?_⟩
 .refine pF hS ?_;co_evs (exact qY (i3 (.inl rfl)))
 clear dg Kx;try walk_nrm
 clear hc;refine CJ.step (vs:=()) rfl λ_ cg=>?_;replace hF:=hF.rely hS cg;clear cg;refine goes_call rfl rfl dq rfl uR.f_done (ConcR.Gen.nm_done link) rfl ⟨e7 hS _,?_⟩;walk_nrmf Conc.Lib.doneFn;have hD:=λ{b₀:Frame} {a₀:Act} {ops₀:Array Oper} {i₀:Nat} {rest₀:List Nat} {k₀:List Item} {cs:List Frame} {qt:Nat} hT w hK=>@SQ _ link prog uR (O1 (aC prog N Pb Shun val B Mz) S) (WK (aC prog N Pb Shun val B Mz)) (N+6) N 1 0 1 val b₀ a₀ ops₀ i₀ rest₀ k₀ cs qt hT w hK;simp only[ConcR.Gen.body_done,Conc.Lib.doneFn,Option.getD_some] at hD;refine Way.rM (λ_ _ h=>RJ.rw (K:=(aC prog N Pb Shun val B Mz)) hS h) (λ_ _ _ h=>h) (λ_ _ h=>h) (cB (hD (qt:=5) ?_ _ ⟨hF.live,by have⟨_,hp⟩:=hF.pc;simp[ConcN.Has,World.cell?,hp]⟩));refine QuitsD.ctl rfl (λ_=>stepG_region_end) (QuitsD.ctl rfl (λ_=>stepG_end) (QuitsD.leaveD rfl rfl func201 rfl rfl ?_));refine QuitsD.ctl (g':=G (bot prog) []) rfl (λw=>?_) ?_
 .simp[G,stepG,unwind,doReturn,results,Frame.at,baseD,bot,func200,Tryz.f200,seen,GStep.after,goexitEntry]
 refine QuitsD.ctl (g':={ G (bot prog) [] with status:=.finished }) rfl (λw=>?_) ⟨rfl,rfl⟩;simp[G,stepG,unwind,bot,goexitEntry,Frame.catches];rfl
end
def kJ(N:Nat):Deferred:={ target:=.fn (.func 200) #[.pointer (some ⟨N+7,0,none⟩),.pointer (some ⟨N+8,0,none⟩)],args:=#[] }
section
variable {w aE:World}
variable [ConcR.Payload][ConcX.Payload]
theorem LI(U:HE N val w)(tm:Aq):AtClose (aC prog N Pb Shun val B Mz) (G { (base 112).at ⟨tm,[tG N]⟩ [] with mode:=.returning } [LZ Tryz.f200.body N,(bot prog)]) w:=by
 refine⟨rfl,U.size,rfl,G { (base 112).at ⟨tm,[]⟩ [] with mode:=.returning } [LZ Tryz.f200.body N,(bot prog)],rfl,λh=>?_,λb a c=>?_⟩
 .exact oY rfl h kq
 .exact SP (.inl rfl) ⟨U.pc.imp λ_ z=>(a _ (.inl (.inl rfl))).trans z,(a _ (i3 (.inr (.inl rfl)))).trans U.wb,c⟩ tm
theorem HE.rely{i:Ix}(h:HE N val w)(r:eY (aC prog N Pb Shun val B Mz) i w aE):HE N val aE:=⟨h.pc.imp λ_ z=>(r.rc _ (.inl (.inl rfl))).trans z,(r.rc _ (i3 (.inr (.inl rfl)))).trans h.wb,h.bf.imp λ_ z=>(r.rc _ (i3 (.inr (.inr (.inl rfl))))).trans z⟩
theorem Fl(N:Nat)(w:World):stepG prog false (born prog (kJ N)) w =
  .go (G ((baseD 200).at ⟨#[.pointer (sq (N+7)),.pointer (sq (N+8)),undef,undef,undef],[]⟩ [.code (Tryz.f200.body.getD .skip)]) [(bot prog)]) w #[]:=by simp[born,kJ,stepG,unwind,callDeferred,invoke,callFunc,func200,Tryz.f200,seen,GStep.after,G,Frame.enter,Frame.at,baseD,bot]
theorem vf{b:Frame}{K:Goroutine->World->Array Event->Prop}{x:Operand}{aS:Func}{c:Code}{first cap:Array Value}{args:Array Operand}{ats:Array TypeId}
 (ho:ops[i]?=some o)(hw:Region.wanted o (yielded ops a.tmps)=true)(hk:b.kind≠.early)(ko:o.op=.call { callee:=.value x,args,argTypes:=ats })(hx:a.eval x=.func (.func f) first cap)
 (hf : P.funcs[f]? = some aS)(lm : (aS.name == "runtime.NumGoroutine") = false)(hb : aS.body = some c)
 (h:K (G ((base f).at { tmps:=(first++args.map a.eval++cap)++Array.replicate (aS.ntmps-(first++args.map a.eval++cap).size) undef,defers:=[] } [.code c]) (b.at a (.inRegion ops (i::rest)::k)::cs)) w #[]) :
  (stepG P main (G (b.at a (.inRegion ops (i::rest)::k)) cs) w).goes K:=by have⟨hr,he⟩:=jz (P:=P) (w:=w) ko hx hf lm (by rw[hb]; rfl);rw[stepG_enter ho hw hk hr,enter_at _ hf hb];have hl:listed P b.fn a o w=#[]:=listed_nil he;rw[hl];exact h
theorem kw(w:World):DK (aC prog N Pb Shun val B Mz) w w #[]:=nN iq
theorem Ub{ls:Vq}(g:HB N (.func (.func f) #[] cap) w)
 (h:∀j,RC (aC prog N Pb Shun val B Mz) w j->hM prog (XK (aC prog N Pb Shun val B Mz)) f (#[gY N]++cap) (true,ls) j (λr _ t=>r.2=[]/\HE N val t)):XK (aC prog N Pb Shun val B Mz) (true,ls) (born prog (kJ N)) w:=by
 have C:=cK N Pb Shun val B Mz;have u:∀w m,(Instr.makeFunc (Fn.func 201) #[] #[Value.pointer (sq (N+7))]).events prog w m=m:=λw m=>by simp[Instr.makeFunc]
 refine C.step rfl λ_ U=>?_;replace g:=g.rely U;replace h:=λc b=>h c (RC.trans U.rc b);clear U;rw[Fl];simp only[goes_go];refine⟨kw _,?_⟩;simp only[Tryz.f200,Option.getD_some];refine C.step rfl λ_ U=>?_;replace g:=g.rely U;replace h:=λc b=>h c (RC.trans U.rc b);clear U;rw[stepG_seq];simp only[goes_go];refine⟨kw _,?_⟩;refine C.step rfl λ_ U=>?_;replace g:=g.rely U;replace h:=λc b=>h c (RC.trans U.rc b);clear U;rw[stepG_region];simp only[goes_go,fH,Nat.reduceAdd];refine⟨kw _,?_⟩;refine C.step rfl λ_ U=>?_;replace g:=g.rely U;replace h:=λc b=>h c (RC.trans U.rc b);clear U;refine goes_oper_k rfl rfl dq (λl i=>?_);go_simp;refine i _ _ ⟨?_,?_⟩
 .refine nN ?_;co_evs (skip)
 clear i l;try walk_nrm
 refine C.step rfl λ_ U=>?_;replace g:=g.rely U;replace h:=λc b=>h c (RC.trans U.rc b);clear U;rw[qx (d:=Xn N) rfl rq dq (by simp[execOp,go_sem,resolve,Deferred.ofValue,Xn,Act.eval]) (by simp[execOp,go_sem,resolve,Deferred.ofValue,Act.eval])];simp only[goes_go];refine⟨kw _,?_⟩;try walk_nrm
 refine C.step rfl λ_ U=>?_;replace g:=g.rely U;replace h:=λc b=>h c (RC.trans U.rc b);clear U;rw[stepG_region_end];simp only[goes_go];refine⟨kw _,?_⟩;refine C.step rfl λ_ U=>?_;replace g:=g.rely U;replace h:=λc b=>h c (RC.trans U.rc b);clear U;rw[stepG_region];simp only[goes_go,fH,Nat.reduceAdd];refine⟨kw _,?_⟩;refine C.step rfl λ_ U=>?_;replace g:=g.rely U;replace h:=λc b=>h c (RC.trans U.rc b);clear U;refine goes_oper_k rfl rfl dq (λl i=>?_);have q:=cell1 g.fb;go_simp;refine i _ _ ⟨?_,?_⟩
 .refine nN ?_;co_evs (exact qZ (i3 (.inr (.inl rfl))))
 clear i l;try walk_nrm
 clear q;refine C.step rfl λ_ U=>?_;replace g:=g.rely U;replace h:=λc b=>h c (RC.trans U.rc b);clear U;refine vf rfl rfl dq rfl rfl func112 rq rfl ⟨kw _,?_⟩;simp only[ntmps112,Act.eval,List.map_toArray,List.map_nil,bZ,Nat.reduceAdd,Nat.reduceSub];have⟨n,k,p⟩:=Re g h;obtain rfl:=CX k;refine p (base 112) [] _ rfl dq ?_;rintro⟨fr,vs⟩ e a w ⟨rfl,YP,hd,g⟩;obtain rfl:vs=[]:=YP;show XK (aC prog N Pb Shun val B Mz) _ _ _;refine C.step rfl λ_ U=>?_;replace g:=g.rely U;clear U;rw[stepG_end];simp only[goes_go];refine⟨kw _,?_⟩;refine Way.stop λj U=>?_;replace g:=HE.rely g U;have⟨s,o⟩:=a;obtain rfl:o=[tG N]:=hd;exact LI g s
end
abbrev U8(Wg C:Nat):ConcX.Shy Wg C where
 ok:=λact=>∀x,act.touch?=some x->∀ad:Addr,x.loc=.cell ad->ad.block=Wg\/ad.block=C
 atomicWg:=λa wr h x hx ad e=>by simp only[MemAct.touch?,Option.some.injEq] at hx; subst hx; cases e; exact .inl h
 readWg:=λa h x hx ad e=>by simp only[MemAct.touch?,Option.some.injEq] at hx; subst hx; cases e; exact .inl h
 writeWg:=λa h x hx ad e=>by simp only[MemAct.touch?,Option.some.injEq] at hx; subst hx; cases e; exact .inl h
 theirs:=λa wr h x hx ad e=>by simp only[MemAct.touch?,Option.some.injEq] at hx; subst hx; cases e; exact .inr h
 disable:=λx hx=>(by cases hx)
 enable:=λx hx=>(by cases hx)
 relMerge:=λx hx=>(by cases hx)
 acquire:=λx hx=>(by cases hx)
 go1:=λx hx=>(by cases hx)
 start:=λx hx=>(by cases hx)
 stop:=λ_ _=>True
theorem SA{Post:Value->World->Prop}{S:Nat->Prop}{Wg C:Nat}{b₀:Frame}{a₀:Act}{ops₀:Array Oper}{i₀:Nat}{rest₀:List Nat}{k₀:List Item}{cs:List Frame}{w:World}(h1:¬S Wg)(h2:¬S C)(m:w.heap[Wg]?=some (.cells #[.int .u64 0,.int .u32 0] 169))
 (l:ZI prog Post 0 S (G (b₀.at (a₀.put ((ops₀[i₀]?).bind (·.dst)) (.tuple #[])) (.inRegion ops₀ rest₀::k₀)) cs) (w.setCell ⟨Wg,0,none⟩ (.int .u64 4294967296))) :
  ZI prog Post 0 S (G ((base 199).at ⟨#[.pointer (sq Wg),.int .i64 1,undef,undef,undef,undef,undef,undef,undef,undef,undef,undef,undef,undef,undef,undef,undef,undef,undef,undef,undef,undef,undef,undef,undef,undef,undef,undef,undef,undef,undef,undef,undef,undef,undef,undef,undef,undef,undef,undef,undef,undef,undef,undef,undef,undef,undef,undef,undef,undef,undef,undef,undef,undef,undef,undef,undef,undef,undef,undef,undef,undef,undef,undef,undef,undef,undef,undef,undef,undef,undef,undef,undef,undef,undef,undef,undef,undef,undef,undef,undef,undef,undef,undef,undef,undef,undef,undef,undef,undef,undef,undef,undef,undef,undef,undef,undef,undef,undef,undef,undef,undef,undef,undef,undef,undef,undef,undef,undef,undef,undef,undef,undef,undef,undef,undef,undef],[]⟩ [.code (ConcX.Gen.body_add link)]) (b₀.at a₀ (.inRegion ops₀ (i₀::rest₀)::k₀)::cs)) w:=by
 have j:=@ConcX.Gen.addPos link Wg C (U8 Wg C) b₀ a₀ ops₀ i₀ rest₀ k₀ cs (ZI prog Post 0 S) 0 prog uR w m (λf c=>ZI.closed.rely l c);have b:∀e,@ConcX.EvS Wg C (U8 Wg C) e->EvS S e:=by
  intro e U;refine⟨λx o i k d=>?_,λh=>?_,λh=>?_⟩
  .rcases U.2.2.2.2.2 x o i k with z|z
   .exact h1 (z▸d)
   .exact h2 (z▸d)
  .exact U.2.2.2.1 (ConcX.ofEvent_loc_mark h)
  .exact U.2.2.2.2.1 (ConcX.ofEvent_loc_mark h)
 refine ZI.goes b (λg w h=>?_) j;refine ZI.HI rfl rfl (λg w a=>?_) h;have⟨n,a⟩:=a;refine ZI.goes b (λg w h=>?_) a;refine ZI.HI rfl rfl (λg w a=>?_) h;have⟨n,a⟩:=a;exact ZI.goes b (λg w h=>h w (atRel_refl w)) a
def rV(b:Option Code):Code:=match b with|some (.seq _ (.seq _ (.seq _ (.seq _ c))))=>c|_=>.skip
def fg (b:Option Code)(n:Nat):Array Oper:=match rV b with|.seq (.region _ o4 _) (.seq (.region _ o5 _) (.seq (.region _ o6 _) (.seq (.region _ o7 _) (.region _ o8 _))))=>if n=4 then o4 else if n=5 then o5 else if n=6 then o6 else if n=7 then o7 else o8|_=>#[]
section
variable {w aE:World}
variable [ConcR.Payload][ConcX.Payload]
variable [ConcX.Shy (Cfg.Wg (aC prog N Pb Shun val B Mz)) (Cfg.C (aC prog N Pb Shun val B Mz))]
theorem Fg[ConcX.Shy K.Wg K.C]{A U:Gq}(h:∀g w,A g w->U g w)(g:Goroutine)(w:World):vw K L A g w->vw K L U g w:=λ⟨h1,a,h2,m,h3⟩=>⟨h1,a,h2,m,ConcN.goes_mono h h3⟩
theorem Fh{K:Cfg}[ConcX.Shy K.Wg K.C]{L:Nat}{A U:Gq}{Post:Value->World->Prop}(h:∀g w,A g w->U g w)(g:Goroutine)(w:World):jG K L A Post g w->jG K L U Post g w:=λ⟨h1,d,h2,h3,e⟩ =>⟨h1,d,h2,λz=>(h3 z).imp λ_ q=>ConcN.goes_mono (λ_ _ ⟨a,b,c⟩=>⟨a,b,λz=>(c z).imp λ_ q=>⟨q.1,q.2.imp λ_ q=>ConcN.goes_mono h q⟩⟩) q,e⟩
def yC(K:Cfg)[ConcX.Payload][ConcX.Shy K.Wg K.C](F:World->Prop)(b:Frame)(k:List Item)(cs:List Frame)(g:Goroutine)(w:World):Prop :=
 ∃a:Act,a.defers=[]/\ConcX.Gen.AnchW7 link F K.Wg K.C [K.val] (b.at a (.inRegion (fg Tryz.f61.body 8) [0]::k)) cs g w
theorem RL(e:∀w c,ConcX.Aside2 N (N+6) w c->F w->F c){b:Frame}(q:b.kind≠.early)(p:a.defers=[])(o:a.eval (.tmp 6)=.pointer (sq (N+6)))(f:F w)(m:BF (aC prog N Pb Shun val B Mz) w) :
  XM (aC prog N Pb Shun val B Mz) (yC (aC prog N Pb Shun val B Mz) F b k cs) (.join L) (G (b.at a (.code (.region 8 (fg Tryz.f61.body 8) false)::k)) cs) w:=by
 have C:bW prog true (oa (aC prog N Pb Shun val B Mz)) (tj (aC prog N Pb Shun val B Mz)) (XM (aC prog N Pb Shun val B Mz) (yC (aC prog N Pb Shun val B Mz) F b k cs)):=XM.closed (K:=(aC prog N Pb Shun val B Mz));have T:=rJ (K:=(aC prog N Pb Shun val B Mz));have j:∀{w c},oa (aC prog N Pb Shun val B Mz) (.join L) w c->F w/\BF (aC prog N Pb Shun val B Mz) w->F c/\BF (aC prog N Pb Shun val B Mz) c:=λ{w c} r h=>by have n:iv (aC prog N Pb Shun val B Mz) w c:=r;exact⟨e _ _ n.aside h.1,n.ka h.2⟩
 have U:F w/\BF (aC prog N Pb Shun val B Mz) w:=⟨f,m⟩;clear f m;refine C.step rfl λ_ d=>?_;replace U:=j d U;clear d;rw[stepG_region];simp only[goes_go];refine⟨(T (.join L)).idle _,?_⟩;have s:List.range (fg Tryz.f61.body 8).size=[0]:=rq
 rw[s];refine C.step rfl λc d=>?_;replace U:=j d U;clear d;refine goes_call (b:=b) (a:=a) (args:=#[.tmp 6]) (ats:=#[169]) (i:=0) (ops:=fg Tryz.f61.body 8) rfl rfl q rfl uR.f_wait (ConcX.Gen.nm_wait link) rfl ⟨(T (.join L)).idle _,?_⟩;have l:=ConcX.Gen.waitStart (L:=link) (P:=prog) (Wg:=Cfg.Wg (aC prog N Pb Shun val B Mz)) (C:=Cfg.C (aC prog N Pb Shun val B Mz)) (Low:=L) (Mine:=Mz) (vals:=[val]) (F:=F) (b₀:=b) (a₀:=a) (ops₀:=fg Tryz.f61.body 8) (i₀:=0) (rest₀:=[]) (k₀:=k) (cs:=cs) uR (λ_ _ r h=>e _ _ r h) c U;have t:(#[Operand.tmp 6].map a.eval)=#[Value.pointer (sq (N+6))]:=by simp[o]
 rw[t];simp only[ConcX.Gen.body_wait,Conc.Lib.waitFn,Option.getD_some] at l;walk_nrmf Conc.Lib.waitFn;exact Way.rM (λ_ _ h=>h) (λ_ _ _ h=>h) (λg w h=>Fg (K:=(aC prog N Pb Shun val B Mz)) (λ_ _ h=>⟨a,p,h⟩) g w h) (cB l)
end
def t47 (N:Nat)(nv nx We:Value):Aq:=#[nv,nx,.pointer (some ⟨N+1,0,none⟩),undef,.pointer (some ⟨N+3,0,none⟩),.pointer (some ⟨N+5,0,none⟩),.pointer (some ⟨N+6,0,none⟩),undef,.chan (some (N+2)),.chan (some (N+4)),fC N,We,undef,undef,undef,undef,undef,undef,undef,undef,undef,undef]
def UH (b:Option Code):Array Oper:=match b with|some (.seq _ (.seq _ (.region _ o _)))=>o|_=>#[]
abbrev nl:Value:=.slice none 0 0
variable {Ex:Nat->Prop}{w₀:World}{Az:Gq}{u:Value}{tk:Iq}{en:Bool}{Rb:Nat}
section
variable {w aE:World}{v:Value}{rest:Iq}
structure HG(N:Nat)(A:World->Prop)(w:World):Prop where
 lv:w.heap[N+3]?=some (.cells #[.chan (some (N+2))] 158)
 ev:w.heap[N+5]?=some (.cells #[.chan (some (N+4))] 159)
 size:N+9<=w.heap.size
 a:A w
theorem HG.rm(hA:∀w aE,RM (aC prog N Pb Shun val B Mz) w aE->A w->A aE)(h:HG N A w)(r:RM (aC prog N Pb Shun val B Mz) w aE):HG N A aE:=by
 have hs:=h.size;have hb:∀b,b=N+3\/b=N+5->aE.heap[b]?=w.heap[b]?:=λb hb=>r.block b oq (λz=>by
  rcases z with z|⟨z,_⟩
  .have z':b=N:=z;omega
  .have z':N+9<=b:=z;omega) (by show ¬(b=N+2\/b=N+4\/b=N+6);omega);exact⟨(hb _ (.inl rfl)).trans h.lv,(hb _ (.inr rfl)).trans h.ev,lT hs r.size,hA _ _ r h.a⟩
theorem vR(F:K.Fit){o:Nat}(U:K.Still b)(f:K.N0<=w.heap.size):Vz K w ⟨.cell ⟨b,o,none⟩,false,false⟩:=by
 refine⟨λx g=>?_,by simp,by simp,by simp[MemAct.ofEvent]⟩;have c:x=⟨.cell ⟨b,o,none⟩,false,.plain⟩:=by simpa[MemAct.ofEvent,MemAct.touch?] using g.symm
 subst c;refine⟨⟨?_,λ_=>rfl,λh=>absurd h (F.sh ⟨b,o,none⟩ U)⟩,λd e=>?_,λd e=>?_⟩
 .rintro(⟨a,e,h⟩|e|⟨a,e,h⟩)
  .cases e;exact F.ks w _ h U
  .cases e
  .cases e
 .cases e;exact lL (F.s0 b U) f
 .cases e
theorem DI(h:∀e∈es,Vz K w e):DM K w w es:=⟨λ_ _=>rfl,λ_ h=>h,lr,h⟩
theorem xS[ConcX.Payload]{i:Ph}(hi:i.early)(h:oa K i w aE):RM K w aE:=by
 cases i using Ph.bV with
 | join=>exact hi.elim
 | _=>exact h
def fQ(N:Nat):Aq:=#[.chan (some (N+2)),.chan (some (N+4)),nl,.bool false]
theorem HW.start(F:Cfg.Fit (aC prog N Pb Shun val B Mz))(U:N+9<=w.heap.size):HW (aC prog N Pb Shun val B Mz) (pb w.heap.size nl) (w.alloc (.cells (fQ N) 175)) w.heap.size nl nl [] false (w.alloc (.cells (fQ N) 175)):=by have o:Own eg (cO (aC prog N Pb Shun val B Mz)) w (w.alloc (.cells (fQ N) 175)):=Own.alloc (by simp[eg]);exact⟨heap_alloc_new w _,(zl F).new U o lr (by simp_all),.inl (.inl rfl),mN.none _ _ _ _ _,by simp[World.size_alloc];show N+9<=_;omega,Kept.refl _⟩
variable [ConcR.Payload][ConcX.Payload]
variable [ConcX.Shy (Cfg.Wg (aC prog N Pb Shun val B Mz)) (Cfg.C (aC prog N Pb Shun val B Mz))]
theorem QK{A F:World->Prop}{I:Nat->World->Prop}{b:Frame}{k:List Item}{cs:List Frame}{tm:Aq}{f:FuncId}{cap:Aq}{H:Value}(x:Cfg.Fit (aC prog N Pb Shun val B Mz))(hb:b.fn=61)(hk:b.kind≠.early)(l:Iq)(hn:l.length<=1000000)
 (Z:∀w g,RM (aC prog N Pb Shun val B Mz) w g->A w->A g)(aa:∀w cs,A w->A (w.alloc (.cells cs 175)))
 (a7:∀u d w,N<=d->A w->HW (aC prog N Pb Shun val B Mz) (pb d nl) w d nl nl [] false w->eM prog (XM (aC prog N Pb Shun val B Mz) u) f (#[.pointer (sq d)]++cap) (.front (V l)) w (λi' _ W=>∃D j v' S s R,S++s=l/\G1 s R i'/\HW (aC prog N Pb Shun val B Mz) D j d v' v' S R W/\(∀b,pb d v' b->N<=b)/\I d W))
 (a5:∀d w g,RM (aC prog N Pb Shun val B Mz) w g->I d w->I d g)(af:∀d D j v M J w W,HW (aC prog N Pb Shun val B Mz) D j d v v M J w->(∀b,pb d v b->N<=b)->Kept (cO (aC prog N Pb Shun val B Mz)) (g9 (aC prog N Pb Shun val B Mz)) (pb d v) w W->I d w->I d W)(ag:∀d w,I d w->F w)(ae:∀w g,ConcX.Aside2 N (N+6) w g->F w->F g)(U:HG N A w) :
  XM (aC prog N Pb Shun val B Mz) (yC (aC prog N Pb Shun val B Mz) F b k cs) (.front (V l)) (G ((base 111).at ⟨tm,[]⟩ [.inRegion (UH Tryz.f111.body) []]) (b.at ⟨t47 N H (.func (.func f) #[] cap) undef,[]⟩ (.inRegion (fg Tryz.f61.body 4) [1]::.code (.seq (.region 5 (fg Tryz.f61.body 5) false) (.seq (.region 6 (fg Tryz.f61.body 6) false) (.seq (.region 7 (fg Tryz.f61.body 7) false) (.region 8 (fg Tryz.f61.body 8) false))))::k)::cs)) w:=by
 generalize ab:yC (aC prog N Pb Shun val B Mz) F b k cs=u;have C:bW prog true (oa (aC prog N Pb Shun val B Mz)) (tj (aC prog N Pb Shun val B Mz)) (XM (aC prog N Pb Shun val B Mz) u):=XM.closed (K:=(aC prog N Pb Shun val B Mz));have T:=rJ (K:=(aC prog N Pb Shun val B Mz));have E:Env eg (N+9) (cO (aC prog N Pb Shun val B Mz)) (g9 (aC prog N Pb Shun val B Mz)) (oa (aC prog N Pb Shun val B Mz) (.front (V l))) (tj (aC prog N Pb Shun val B Mz) (.front (V l))):=zm (K:=(aC prog N Pb Shun val B Mz)) x trivial;have z:∀{w g},HG N A w->oa (aC prog N Pb Shun val B Mz) (.front (V l)) w g->HG N A g:=λh r=>HG.rm Z h r;refine C.step rfl λ_ c=>?_;replace U:=z U c;clear c;rw[stepG_region_end];simp only[goes_go];refine⟨(T (.front (V l))).idle _,?_⟩;refine C.step rfl λ_ c=>?_;replace U:=z U c;clear c;rw[stepG_end];simp only[goes_go];refine⟨(T (.front (V l))).idle _,?_⟩;refine C.step rfl λ_ c=>?_;replace U:=z U c;clear c;rw[stepG_leave (b:=base 111) rfl rfl func111 (results_none rfl _ _ _) (events_results_none rfl _ _)];simp only[goes_go];refine⟨(T (.front (V l))).idle _,?_⟩;rw[Frame.finish_at];have ko:((fg Tryz.f61.body 4)[1]?).bind (·.dst)=some 11:=rq
 rw[ko];have ht:(⟨t47 N H (.func (.func f) #[] cap) undef,[]⟩:Act).put (some 11) (.tuple #[])=⟨t47 N H (.func (.func f) #[] cap) (.tuple #[]),[]⟩:=rq
 rw[ht];refine C.step rfl λ_ c=>?_;replace U:=z U c;clear c;rw[stepG_region_end];simp only[goes_go];refine⟨(T (.front (V l))).idle _,?_⟩;refine C.step rfl λ_ c=>?_;replace U:=z U c;clear c;rw[stepG_seq];simp only[goes_go];refine⟨(T (.front (V l))).idle _,?_⟩;have Y:∀w,HG N A w->fA (XM (aC prog N Pb Shun val B Mz) u) 61 (.region 5 (fg Tryz.f61.body 5) false) (.front (V l)) (λi e a w=>e=.normal/\i=.front (V l)/\∃d,a=⟨#[H,.func (.func f) #[] cap,.pointer (sq (N+1)),undef,.pointer (sq (N+3)),.pointer (sq (N+5)),.pointer (sq (N+6)),.pointer (sq d),.chan (some (N+2)),.chan (some (N+4)),fC N,.tuple #[],.chan (some (N+2)),.chan (some (N+4)),.agg (fQ N),.pointer (sq d),undef,undef,undef,undef,undef,undef],[]⟩/\N<=d/\A w/\HW (aC prog N Pb Shun val B Mz) (pb d nl) w d nl nl [] false w) ⟨t47 N H (.func (.func f) #[] cap) (.tuple #[]),[]⟩ w:=by
  have bd:=λw=>run_build (P:=prog) w 175 #[(0,.chan (some (N+2))),(1,.chan (some (N+4)))] (fQ N) kq;have be:=λw es=>jq (P:=prog) w 175 #[(0,.chan (some (N+2))),(1,.chan (some (N+4)))] (fQ N) kq es;have bx:=λw t v=>Dt prog w t v;have bxe:=λw t v es=>tz prog w t v es;intro w U;simp only[fg,rV,Tryz.f61,t47];refine aN C T ?_;simp only[Nat.reduceEqDiff,reduceIte,fH,Nat.reduceAdd,bI];refine aG C rfl rq λ_ p q n=>?_;replace U:=z U p;clear p;have hc:=cell1 U.lv;go_simp;try (unfold stored;go_simp)
  refine n _ _ ⟨?_,?_⟩
  .refine DI ?_;co_evs (exact vR (K:=(aC prog N Pb Shun val B Mz)) x (.inr (.inl rfl)) U.size)
  clear n q;try walk_nrm
  clear hc;refine aG C rfl rq λ_ p q n=>?_;replace U:=z U p;clear p;have hc:=cell1 U.ev;go_simp;try (unfold stored;go_simp)
  refine n _ _ ⟨?_,?_⟩
  .refine DI ?_;co_evs (exact vR (K:=(aC prog N Pb Shun val B Mz)) x (.inr (.inr (.inl rfl))) U.size)
  clear n q;try walk_nrm
  clear hc;refine aG C rfl rq λ_ p q n=>?_;replace U:=z U p;clear p;go_simp;try (unfold stored;go_simp)
  refine n _ _ ⟨?_,?_⟩
  .co_still (T _)
  clear n q;try walk_nrm
  refine aG C rfl rq λ_ p q n=>?_;replace U:=z U p;clear p;go_simp;try (unfold stored;go_simp)
  refine n _ _ ⟨?_,?_⟩
  .refine xb E U.size (Own.alloc (by simp[eg])) ?_;co_evs (skip)
  clear n q;try walk_nrm
  have m:=HW.start (w:=_) x U.size;have a8:=lT (Nat.le_add_right N 9) U.size;replace U:=aa _ (fQ N) U.a;refine aG C rfl rq λ_ p q n=>?_;replace U:=Z _ _ (show RM (aC prog N Pb Shun val B Mz) _ _ from p) U;replace m:=(HW.Dc (i:=.over) x m (show RM (aC prog N Pb Shun val B Mz) _ _ from p)).mm;clear p;go_simp;refine n _ _ ⟨?_,?_⟩
  .co_quiet (T _)
  clear n q;try walk_nrm
  refine aW C T ?_;grind
 refine Y _ U b (.code (.seq (.region 6 (fg Tryz.f61.body 6) false) (.seq (.region 7 (fg Tryz.f61.body 7) false) (.region 8 (fg Tryz.f61.body 8) false)))::k) cs hb hk ?_;clear U Y;rintro i e a w ⟨rfl,rfl,d,rfl,a8,U,m⟩;show XM (aC prog N Pb Shun val B Mz) u (.front (V l)) _ _;refine C.step rfl λ_ c=>?_;replace U:=Z _ _ (show RM (aC prog N Pb Shun val B Mz) _ _ from c) U;replace m:=(HW.Dc (i:=.over) x m (show RM (aC prog N Pb Shun val B Mz) _ _ from c)).mm;clear c;rw[stepG_seq];simp only[goes_go];refine⟨(T (.front (V l))).idle _,?_⟩;have h6:∀w,A w->HW (aC prog N Pb Shun val B Mz) (pb d nl) w d nl nl [] false w->fA (XM (aC prog N Pb Shun val B Mz) u) 61 (.region 6 (fg Tryz.f61.body 6) false) (.front (V l)) (λi e a w=>e=.normal/\∃Q D j v M o J,a=⟨#[H,.func (.func f) #[] cap,.pointer (sq (N+1)),undef,.pointer (sq (N+3)),.pointer (sq (N+5)),.pointer (sq (N+6)),.pointer (sq d),.chan (some (N+2)),.chan (some (N+4)),fC N,.tuple #[],.chan (some (N+2)),.chan (some (N+4)),.agg (fQ N),.pointer (sq d),.func (.func f) #[] cap,.pointer (sq d),Q,undef,undef,undef],[]⟩/\M++o=l/\G1 o J i/\HW (aC prog N Pb Shun val B Mz) D j d v v M J w/\(∀b,pb d v b->N<=b)/\I d w) ⟨#[H,.func (.func f) #[] cap,.pointer (sq (N+1)),undef,.pointer (sq (N+3)),.pointer (sq (N+5)),.pointer (sq (N+6)),.pointer (sq d),.chan (some (N+2)),.chan (some (N+4)),fC N,.tuple #[],.chan (some (N+2)),.chan (some (N+4)),.agg (fQ N),.pointer (sq d),undef,undef,undef,undef,undef,undef],[]⟩ w:=by
  intro w U m;simp only[fg,rV,Tryz.f61];refine aN C T ?_;simp only[Nat.reduceEqDiff,reduceIte,fH,Nat.reduceAdd,bI];iterate 2
   refine aG C rfl rq λ_ c q n=>?_
   replace U:=Z _ _ (show RM (aC prog N Pb Shun val B Mz) _ _ from c) U
   replace m:=(HW.Dc (i:=.over) x m (show RM (aC prog N Pb Shun val B Mz) _ _ from c)).mm
   clear c
   go_simp
   try (unfold stored;go_simp)
   refine n _ _ ⟨?_,?_⟩
   .co_quiet (T _)
   clear n q;try walk_nrm
  have a6:=a7 u d _ a8 U m;refine jX (f:=f) (first:=#[]) (cap:=cap) (wP:=.front (V l)) C T rfl rq rfl rfl (by simp[Act.eval]) rfl a6 ?_;rintro i Q w ⟨D,j,v,M,o,J,h1,h2,h3,Y,h4⟩;exact aW C T ⟨rfl,Q,D,j,v,M,o,J,rfl,h1,h2,h3,Y,h4⟩
 refine h6 _ U m b (.code (.seq (.region 7 (fg Tryz.f61.body 7) false) (.region 8 (fg Tryz.f61.body 8) false))::k) cs hb hk ?_;clear U m h6 E z;rintro i e a w ⟨rfl,Q,D,j,v,M,o,J,rfl,a9,O,m,ah,y⟩;show XM (aC prog N Pb Shun val B Mz) u i _ _;refine C.step rfl λ_ c=>?_;replace y:=a5 _ _ _ (xS O.early c) y;replace m:=HW.Dc (i:=.over) x m (xS O.early c);clear c;rw[stepG_seq];simp only[goes_go];refine⟨(T i).idle _,?_⟩;have h7:∀w,HW (aC prog N Pb Shun val B Mz) D j d v v M J w->I d w->fA (XM (aC prog N Pb Shun val B Mz) u) 61 (.region 7 (fg Tryz.f61.body 7) false) i (λi e a w=>e=.normal/\i=.over/\∃X,a=⟨#[H,.func (.func f) #[] cap,.pointer (sq (N+1)),undef,.pointer (sq (N+3)),.pointer (sq (N+5)),.pointer (sq (N+6)),.pointer (sq d),.chan (some (N+2)),.chan (some (N+4)),fC N,.tuple #[],.chan (some (N+2)),.chan (some (N+4)),.agg (fQ N),.pointer (sq d),.func (.func f) #[] cap,.pointer (sq d),Q,.pointer (sq d),X,undef],[]⟩/\I d w) ⟨#[H,.func (.func f) #[] cap,.pointer (sq (N+1)),undef,.pointer (sq (N+3)),.pointer (sq (N+5)),.pointer (sq (N+6)),.pointer (sq d),.chan (some (N+2)),.chan (some (N+4)),fC N,.tuple #[],.chan (some (N+2)),.chan (some (N+4)),.agg (fQ N),.pointer (sq d),.func (.func f) #[] cap,.pointer (sq d),Q,undef,undef,undef],[]⟩ w:=by
  intro w m y;simp only[fg,rV,Tryz.f61];refine aN C T ?_;simp only[Nat.reduceEqDiff,reduceIte,fH,Nat.reduceAdd,bI];refine aG C rfl rq λ_ c q n=>?_;replace y:=a5 _ _ _ (xS O.early c) y;replace m:=HW.Dc (i:=.over) x m (xS O.early c);clear c;go_simp;try (unfold stored;go_simp)
  refine n _ _ ⟨?_,?_⟩
  .co_quiet (T _)
  clear n q;try walk_nrm
  refine jX C T rfl rq rfl rfl (by simp[Act.eval]) rfl (LQ x l a9 hn m.mm O) ?_;rintro _ X w ⟨rfl,v2,hD⟩;exact aW C T ⟨rfl,rfl,X,rfl,af _ _ _ _ _ _ _ _ m ah hD.old y⟩
 refine h7 _ m y b (.code (.region 8 (fg Tryz.f61.body 8) false)::k) cs hb hk ?_;clear m y h7 O;rintro i e a w ⟨rfl,rfl,X,rfl,y⟩;show XM (aC prog N Pb Shun val B Mz) u .over _ _;subst ab;exact XM.Je rfl λg c hka L hL=>(RL ae hk rfl rfl (ag _ _ (a5 _ _ _ c y)) hka)
end
structure He(w₀:World)(rz:List Obj)(w:World):Prop where
 tape:w.tape=w₀.tape
 os:w.os=w₀.os
 output:w.output=w₀.output
 old:∀b,b<w₀.heap.size->w.heap[b]?=w₀.heap[b]?
 size:w.heap.size=w₀.heap.size+rz.length
 blocks:∀j o,rz[j]?=some o->w.heap[w₀.heap.size+j]?=some o
variable {Post:Value->World->Prop}
section
variable {w aE:World}{rz:List Obj}
theorem He.rely(h:He w₀ rz w)(r:AtRel w aE):He w₀ rz aE:=by obtain⟨e,rfl⟩:=r;exact⟨h.tape,h.os,h.output,h.old,h.size,h.blocks⟩
theorem He.alloc(h:He w₀ rz w)(o:Obj):He w₀ (rz++[o]) (w.alloc o):=by
 have d:=h.size;refine⟨h.tape,h.os,h.output,λb c=>(Below.heap_alloc _ _ _ oq).trans (h.old b c),by simp[World.size_alloc,d];omega,λj x a=>?_⟩;rcases Nat.lt_or_ge j rz.length with h1|h1
 .rw[vA h1] at a;exact(Below.heap_alloc _ _ _ oq).trans (h.blocks j x a)
 .rw[Bp h1] at a;obtain⟨e,rfl⟩:j-rz.length=0/\o=x:=by
   cases U:j-rz.length with
   | zero=>rw[U] at a;simp at a;exact⟨rfl,a⟩
   | succ m=>rw[U] at a;simp at a
  have:w₀.heap.size+j=w.heap.size:=oq
  rw[this];exact heap_alloc_new w o
theorem He.set(h:He w₀ rz w){j o:Nat}{cs:Aq}(U:rz[j]?=some (.cells cs t))(v:Value):He w₀ (rz.set j (.cells (cs.setIfInBounds o v) t)) (w.setCell ⟨w₀.heap.size+j,o,none⟩ v):=by
 refine⟨h.tape,h.os,h.output,λb c=>(HC.fO w _ oq).trans (h.old b c),by simpa[World.setCell] using h.size,λi x a=>?_⟩;by_cases e:i=j
 .subst e;have d:=(gS.1 U).1;rw[List.getElem?_set_self d] at a;obtain rfl:=CX a;exact dy (h.blocks i _ U) v
 .rw[List.getElem?_set_ne (Ne.symm e)] at a;exact(HC.fO w _ oq).trans (h.blocks i x a)
theorem Ca{e:Event}{ad:Addr}(h:∀b,S b->b<w₀.heap.size)(U:e.loc=.cell ad)(i:w₀.heap.size<=ad.block):EvS S e:=by
 have⟨l,f,d⟩:=e;obtain rfl:l=.cell ad:=U;refine⟨λx a g c k=>?_,by simp,by simp⟩;have j:x.loc=.cell ad:=by cases f<;>cases d<;>(simp[MemAct.ofEvent,MemAct.touch?] at a;rw[<-a])
 grind
theorem D2(h:w.heap[b]?=some (.cells #[v] t)):w.frozen? ⟨b,0,none⟩=false:=by simp[World.frozen?,h]
theorem fU(w:World):DZ S w w #[]:=λe U=>by simp at U
def vI:Obj:=.chan 0 #[] false 0 0 false
end
variable {tC:TypeId}
section
variable {w aE:World}{nv:Value}
def qb(N:Nat)(val:Value)(tC:TypeId)(nv:Value):List Obj:=[.cells #[val] tC,.cells #[nv] 110,vI,.cells #[.chan (some (N+2))] 158,vI,.cells #[.chan (some (N+4))] 159,.cells #[.int .u64 4294967296,.int .u32 0] 169,.cells #[.pointer (some ⟨N+6,0,none⟩)] 240,.cells #[fC N] 1]
structure yH(w₀:World)(N Pb:Nat)(S:Nat->Prop):Prop where
 size:w₀.heap.size=N
 plo:Pb<N\/Pb=N+1
 sh:∀b,S b->b<N/\b≠Pb
def eO(N:Nat)(Shun:Loc->Prop)(l:Loc):Prop:=Shun l\/∃a:Addr,l=.cell a/\a.block=N+6
def SE (N:Nat)(S:Nat->Prop)(b:Nat):Prop:=S b\/b=N+6
structure Client(K:Cfg)(N:Nat)(l:Iq)(f:FuncId)(cap:Aq)(A F:World->Prop)(I:Nat->World->Prop):Prop where
 hA:∀w aE,RM K w aE->A w->A aE
 P9:∀w cs,A w->A (w.alloc (.cells cs 175))
 next:∀[ConcR.Payload] [ConcX.Payload] [ConcX.Shy K.Wg K.C] (AW:Gq) (Rb:Nat) (w:World),N<=Rb->A w->HW K (pb Rb nl) w Rb nl nl [] false w->eM prog (XM K AW) f (#[.pointer (some ⟨Rb,0,none⟩)]++cap) (.front (V l)) w (λi' _ w'=>∃Ex w₀ v' Rv AF PC,Rv++AF=l/\G1 AF PC i'/\HW K Ex w₀ Rb v' v' Rv PC w'/\(∀b,pb Rb v' b->N<=b)/\I Rb w')
 hI1:∀Rb w aE,RM K w aE->I Rb w->I Rb aE
 hI2:∀Rb Ex w₀ v tk en w w',HW K Ex w₀ Rb v v tk en w->(∀b,pb Rb v b->N<=b)->Kept (cO K) (g9 K) (pb Rb v) w w'->I Rb w->I Rb w'
 hIF:∀Rb w,I Rb w->F w
theorem SY(H:yH w₀ N Pb S){Shun:Loc->Prop}(U:∀l,Shun l->∃c:Addr,l=.cell c/\S c.block):Cfg.Fit (aC prog N Pb (eO N Shun) val (N+9) (λ_=>False)):=by
 have k:=H.plo;have g:∀c:Addr,eO N Shun (.cell c)->(c.block<N/\c.block≠Pb)\/c.block=N+6:=by
  rintro c (h|⟨a,e,h⟩)
  .have⟨a,e,h⟩:=U _ h;cases e;exact .inl (H.sh _ h)
  .cases e;exact .inr h
 constructor
 .show N+2≠N+4;omega
 .show N+2≠N+6;omega
 .show N+4≠N+6;omega
 .show ¬(N+2=N);omega
 .show ¬(N+4=N);omega
 .show ¬(N+6=N);omega
 .show N+2<N+9;omega
 .show N+4<N+9;omega
 .show N+6<N+9;omega
 .show ¬(N+2=N+1\/N+2=N+3\/N+2=N+5\/N+2=N+7\/N+2=N+8\/N+2=Pb);omega
 .show ¬(N+4=N+1\/N+4=N+3\/N+4=N+5\/N+4=N+7\/N+4=N+8\/N+4=Pb);omega
 .show ¬(N+6=N+1\/N+6=N+3\/N+6=N+5\/N+6=N+7\/N+6=N+8\/N+6=Pb);omega
 .intro b h;have d:b=N+1\/b=N+3\/b=N+5\/b=N+7\/b=N+8\/b=Pb:=h;show b<N+9;omega
 .intro b h;have d:b=N:=h;show b<N+9;omega
 .intro b h1 h2;have i:b=N:=h1;have j:b=N+1\/b=N+3\/b=N+5\/b=N+7\/b=N+8\/b=Pb:=h2;omega
 .exact rfl
 .exact λa h=>.inr ⟨a,rfl,h⟩
 .intro l h;have:∃a,l=.cell a:=by
   rcases h with h|⟨a,e,_⟩
   .grind
   .exact⟨a,e⟩
  obtain⟨a,rfl⟩:=this;refine⟨a,rfl,?_⟩;show a.block<N+9;rcases g a h with z|z<;>omega
 .intro a h f;have d:a.block=N:=h;rcases g a f with z|z<;>omega
 .intro a h f;have d:a.block=N+1\/a.block=N+3\/a.block=N+5\/a.block=N+7\/a.block=N+8\/a.block=Pb:=h;rcases g a f with z|z<;>omega
 .show N+6<N+9;omega
 .show N<N+9;omega
theorem PS(H:yH w₀ N Pb S)(C:He w₀ (qb N val tC nv) w)(p:l.length<=1000000){b:Frame}(E:b.fn=61)(J:b.kind≠.early){g:Goroutine}(O:g.status=.running)
 (B:∀e,stepG prog true g (w.at e)=.spawn (G ((base 111).at ⟨tm,[]⟩ [.inRegion (UH Tryz.f111.body) []]) (b.at ⟨t47 N nv (.func (.func f) #[] cap) undef,[]⟩ (.inRegion (fg Tryz.f61.body 4) [1]::.code (.seq (.region 5 (fg Tryz.f61.body 5) false) (.seq (.region 6 (fg Tryz.f61.body 6) false) (.seq (.region 7 (fg Tryz.f61.body 7) false) (.region 8 (fg Tryz.f61.body 8) false))))::k)::cs)) (born prog (kJ N)) (w.at e) #[])
 (x:∀(Shun:Loc->Prop) (e:Nat) [ConcR.Payload] [ConcX.Payload],XK (aC prog N Pb (eO N Shun) val (N+9) (λ_=>False)) (true,V l) (born prog (kJ N)) (w.at e))
 (z:∀Shun:Loc->Prop,(∀l,Shun l->∃o:Addr,l=.cell o/\S o.block)->Client (aC prog N Pb (eO N Shun) val (N+9) (λ_=>False)) N l f cap A F I)(y:∀e,A (w.at e))(U:∀w i,ConcX.Aside2 N (N+6) w i->F w->F i)
 (v:∀(a:Act) (w:World),a.defers=[]->F w->w.heap[N+6]?=some (.cells #[.int .u64 0,.int .u32 0] 169)->ZI prog Post 0 (SE N S) (G (b.at (a.put (some 21) (.tuple #[])) (.inRegion (fg Tryz.f61.body 8) []::k)) cs) w) :
  ZI prog Post 0 S g w:=by
 letI IR:ConcR.Payload:=⟨tC⟩;letI IX:ConcX.Payload:=⟨tC⟩;refine ZI.fork O B λe Shun j=>?_;have c:=SY (val:=val) H j;have n:=z Shun j;obtain rfl:=H.size;have d:He w₀ (qb w₀.heap.size val tC nv) (w.at e):=C.rely ⟨e,rfl⟩;refine⟨aC prog w₀.heap.size Pb (eO w₀.heap.size Shun) val (w₀.heap.size+9) (λ_=>False),IX,IR,AU _ c (ZI prog Post 0 (SE w₀.heap.size S)),
  @yC (aC prog w₀.heap.size Pb (eO w₀.heap.size Shun) val (w₀.heap.size+9) (λ_=>False)) IX (AU _ c (ZI prog Post 0 (SE w₀.heap.size S))) F b k cs,λ_ _=>True,V l,λb=>¬SE w₀.heap.size S b,w₀.heap.size+7,?_⟩;have P:(w.at e).heap.size=w₀.heap.size+9:=d.size;constructor
 .rfl
 .exact c
 .rfl
 .exact Nj _ c _
 .rintro g w ⟨a,_,T,rfl,_⟩;rfl
 .rintro L Q g w ⟨a,u,h⟩;have⟨m,M⟩:=@ConcX.Gen.waitRound IX link (λ_=>False) (w₀.heap.size+6) w₀.heap.size L (AU _ c (ZI prog Post 0 (SE w₀.heap.size S))) [val] (λ_ _=>True) F b a (fg Tryz.f61.body 8) 0 [] k cs 0 prog uR oq (λ_ _ r h=>U _ _ r h) (λw t D _ i q=>⟨rfl,ZI.closed.rely (v a w u t D) q⟩) g w h;exact⟨m,ConcN.goes_mono (λg w h=>@Fh IR IX (aC prog w₀.heap.size Pb (eO w₀.heap.size Shun) val (w₀.heap.size+9) (λ_=>False)) (AU _ c (ZI prog Post 0 (SE w₀.heap.size S))) L _ _ _ (λ_ _ h=>⟨a,u,h⟩) g w h) M⟩
 .exact λl s=>.inl s
 .intro l s;obtain⟨o,rfl,K⟩:=c.j8 l s;rcases s with h|⟨a,e,h⟩
  .have⟨a,e,h⟩:=j _ h;cases e;exact⟨o,rfl,by have:=(H.sh _ h).1;omega,λp=>p (.inl h)⟩
  .cases e;exact⟨o,rfl,by omega,λp=>p (.inr h)⟩
 .exact x Shun e
 .exact @QK w₀.heap.size Pb _ _ _ _ _ IR IX (AU _ c (ZI prog Post 0 (SE w₀.heap.size S))) A F I b k cs tm f cap nv c E J l p n.hA n.P9 (@Client.next _ _ _ _ _ _ _ _ n IR IX (AU _ c (ZI prog Post 0 (SE w₀.heap.size S)))) n.hI1 n.hI2 n.hIF U ⟨d.blocks 3 _ rfl,d.blocks 5 _ rfl,by omega,y e⟩
 .show w₀.heap.size+9<=_;omega
 .exact d.blocks 6 _ rfl
 .exact d.blocks 2 _ rfl
 .exact d.blocks 4 _ rfl
 .exact⟨_,d.blocks 0 _ rfl,rfl⟩
 .exact λa w h=>h _
end
section
variable {w aE:World}
def v8(N:Nat)(val:Value)(tC:TypeId)(nv:Value):List Obj:=[.cells #[val] tC,.cells #[nv] 110,vI,.cells #[.chan (some (N+2))] 158,vI,.cells #[.chan (some (N+4))] 159,.cells #[.int .u64 0,.int .u32 0] 169]
theorem GL(val F:Value)(fr:FuncId)(cr:Aq)(G:TypeId)(U:He w₀ [.cells #[val] G] w)(E:∀b,S b->b<w₀.heap.size)(Q:ei (Nat->Prop))(c:Code)
 (H:∀w,He w₀ (v8 w₀.heap.size val G (.func (.func fr) #[] cr)) w->fA (ZI prog Post 0) 61 c S Q ⟨#[(.func (.func fr) #[] cr),F,.pointer (sq (w₀.heap.size+1)),undef,.pointer (sq (w₀.heap.size+3)),.pointer (sq (w₀.heap.size+5)),.pointer (sq (w₀.heap.size+6)),undef,.chan (some (w₀.heap.size+2)),.chan (some (w₀.heap.size+4)),undef,undef,undef,undef,undef,undef,undef,undef,undef,undef,undef,undef],[]⟩ w) :
  ∀y z A B,Tryz.f61.body=some (.seq y (.seq z (.seq A (.seq B c))))->fA (ZI prog Post 0) 61 (.seq y (.seq z (.seq A (.seq B c)))) S Q ⟨#[(.func (.func fr) #[] cr),F,undef,undef,undef,undef,undef,undef,undef,undef,undef,undef,undef,undef,undef,undef,undef,undef,undef,undef,undef,undef],[]⟩ w:=by
 intro y z A B D;simp only[Tryz.f61,sK,Code.seq.injEq] at D;obtain⟨rfl,rfl,rfl,rfl,rfl⟩:=D;have C:bW prog true (λ_:Nat->Prop=>AtRel) DZ (ZI prog Post 0):=ZI.closed;have T:∀S,Terms AtRel (DZ S):=uO;have⟨I,p,m⟩:=p7.1 (show(prog.info? 21).map (·.bytes)=some 4 by kernel_rfl);have⟨i2,q,n⟩:=p7.1 (show(prog.info? 160).map (·.bytes)=some 0 by kernel_rfl);have t:=λw=>run_makeChan (P:=prog) (w:=w) underlying158 p .i64 0 dq (by simp[m]);have u:=λw=>run_makeChan (P:=prog) (w:=w) underlying159 q .i64 0 dq (by simp[n]);have v:=λw r=>events_makeChan (P:=prog) (w:=w) underlying158 p .i64 0 dq (by simp[m]) r;have x:=λw r=>events_makeChan (P:=prog) (w:=w) underlying159 q .i64 0 dq (by simp[n]) r;simp only[Int.ofNat_zero,Int.cast_ofNat_Int] at t u v x;refine bQ C T (aN C T ?_);simp only[fH,Nat.reduceAdd];refine aG C rfl rq λ_ f h a=>?_;replace U:=He.rely U f;clear f;go_simp;try (unfold stored;go_simp)
 refine a _ _ ⟨?_,?_⟩
 .intro e i;have g:=mem_listed i;simp[go_sem, *] at g
 clear a h;try walk_nrm
 have d:=U.size;simp only[lC,List.length_nil,Nat.reduceAdd,Nat.add_zero,Nat.zero_add] at d;simp only[d];clear d;replace U:=U.alloc (.cells #[(.func (.func fr) #[] cr)] 110);simp only[List.cons_append,List.nil_append] at U;refine aW C T ?_;show fA _ _ _ _ _ _ _;refine bQ C T (aN C T ?_);simp only[fH,Nat.reduceAdd];refine aG C rfl rq λ_ f h a=>?_;replace U:=He.rely U f;clear f;go_simp;try (unfold stored;go_simp)
 refine a _ _ ⟨?_,?_⟩
 .intro e i;have g:=mem_listed i;simp[go_sem, *] at g
 clear a h;try walk_nrm
 have d:=U.size;simp only[lC,List.length_nil,Nat.reduceAdd,Nat.add_zero,Nat.zero_add] at d;simp only[d];clear d;replace U:=U.alloc (vI);simp only[List.cons_append,List.nil_append] at U;refine aG C rfl rq λ_ f h a=>?_;replace U:=He.rely U f;clear f;go_simp;try (unfold stored;go_simp)
 refine a _ _ ⟨?_,?_⟩
 .intro e i;have g:=mem_listed i;simp[go_sem, *] at g
 clear a h;try walk_nrm
 have d:=U.size;simp only[lC,List.length_nil,Nat.reduceAdd,Nat.add_zero,Nat.zero_add] at d;simp only[d];clear d;replace U:=U.alloc (.cells #[.chan none] 158);simp only[List.cons_append,List.nil_append] at U;refine aG C rfl rq λ_ f h a=>?_;replace U:=He.rely U f;clear f;have k:=U.blocks 3 _ rfl;have s:=cell1 k;have l:World.frozen? _ ⟨w₀.heap.size+3,0,none⟩=false:=D2 k;go_simp;try (unfold stored;go_simp)
 refine a _ _ ⟨?_,?_⟩
 .intro e i;have g:=mem_listed i;simp[go_sem, *] at g;subst g;exact Ca (w₀:=w₀) E rfl iq
 clear a h;try walk_nrm
 clear k s l;replace U:=U.set (j:=3) (o:=0) rfl (.chan (some (w₀.heap.size+2)));simp only[List.set,List.setIfInBounds_toArray] at U;refine aW C T ?_;show fA _ _ _ _ _ _ _;refine bQ C T (aN C T ?_);simp only[fH,Nat.reduceAdd];refine aG C rfl rq λ_ f h a=>?_;replace U:=He.rely U f;clear f;go_simp;try (unfold stored;go_simp)
 refine a _ _ ⟨?_,?_⟩
 .intro e i;have g:=mem_listed i;simp[go_sem, *] at g
 clear a h;try walk_nrm
 have d:=U.size;simp only[lC,List.length_nil,Nat.reduceAdd,Nat.add_zero,Nat.zero_add] at d;simp only[d];clear d;replace U:=U.alloc (vI);simp only[List.cons_append,List.nil_append] at U;refine aG C rfl rq λ_ f h a=>?_;replace U:=He.rely U f;clear f;go_simp;try (unfold stored;go_simp)
 refine a _ _ ⟨?_,?_⟩
 .intro e i;have g:=mem_listed i;simp[go_sem, *] at g
 clear a h;try walk_nrm
 have d:=U.size;simp only[lC,List.length_nil,Nat.reduceAdd,Nat.add_zero,Nat.zero_add] at d;simp only[d];clear d;replace U:=U.alloc (.cells #[.chan none] 159);simp only[List.cons_append,List.nil_append] at U;refine aG C rfl rq λ_ f h a=>?_;replace U:=He.rely U f;clear f;have k:=U.blocks 5 _ rfl;have s:=cell1 k;have l:World.frozen? _ ⟨w₀.heap.size+5,0,none⟩=false:=D2 k;go_simp;try (unfold stored;go_simp)
 refine a _ _ ⟨?_,?_⟩
 .intro e i;have g:=mem_listed i;simp[go_sem, *] at g;subst g;exact Ca (w₀:=w₀) E rfl iq
 clear a h;try walk_nrm
 clear k s l;replace U:=U.set (j:=5) (o:=0) rfl (.chan (some (w₀.heap.size+4)));simp only[List.set,List.setIfInBounds_toArray] at U;refine aW C T ?_;show fA _ _ _ _ _ _ _;refine bQ C T (aN C T ?_);simp only[fH,Nat.reduceAdd];refine aG C rfl rq λ_ f h a=>?_;replace U:=He.rely U f;clear f;go_simp;try (unfold stored;go_simp)
 refine a _ _ ⟨?_,?_⟩
 .intro e i;have g:=mem_listed i;simp[go_sem, *] at g
 clear a h;try walk_nrm
 have d:=U.size;simp only[lC,List.length_nil,Nat.reduceAdd,Nat.add_zero,Nat.zero_add] at d;simp only[d];clear d;replace U:=U.alloc (.cells #[.int .u64 0,.int .u32 0] 169);simp only[List.cons_append,List.nil_append] at U;refine aW C T ?_;show fA _ _ _ _ _ _ _;exact H _ U
end
section
variable {w aE:World}
theorem J7(H:yH w₀ N Pb S)(c:He w₀ (v8 N val tC (.func (.func fr) #[] cr)) w)(hn:l.length<=1000000){Q:ei (Nat->Prop)}
 (M:∀(Shun:Loc->Prop) (w:World) [ConcR.Payload] [ConcX.Payload],He w₀ (qb N val tC (.func (.func fr) #[] cr)) w->XK (aC prog N Pb (eO N Shun) val (N+9) (λ_=>False)) (true,V l) (born prog (kJ N)) w)
 (R:∀Shun:Loc->Prop,(∀l,Shun l->∃K:Addr,l=.cell K/\S K.block)->Client (aC prog N Pb (eO N Shun) val (N+9) (λ_=>False)) N l f cap A F I)(O:∀w,He w₀ (qb N val tC (.func (.func fr) #[] cr)) w->A w)(P:∀w m,ConcX.Aside2 N (N+6) w m->F w->F m)
 (hq:∀(a:Act) (w:World),a.defers=[]->F w->w.heap[N+6]?=some (.cells #[.int .u64 0,.int .u32 0] 169)->Q (SE N S) .normal a w) :
  fA (ZI prog Post 0) 61 (rV Tryz.f61.body) S Q ⟨#[(.func (.func fr) #[] cr),(.func (.func f) #[] cap),.pointer (sq (N+1)),undef,.pointer (sq (N+3)),.pointer (sq (N+5)),.pointer (sq (N+6)),undef,.chan (some (N+2)),.chan (some (N+4)),undef,undef,undef,undef,undef,undef,undef,undef,undef,undef,undef,undef],[]⟩ w:=by
 have C:bW prog true (λ_:Nat->Prop=>AtRel) DZ (ZI prog Post 0):=ZI.closed;have s:∀b,S b->b<w₀.heap.size:=λb h=>by rw[H.size];exact(H.sh b h).1
 have a9:∀w r,(Instr.makeFunc (Fn.func 112) #[] #[Value.pointer (sq (N+5)),Value.pointer (sq (N+1)),Value.pointer (sq (N+3))]).events prog w r=r:=λw r=>by simp[Instr.makeFunc]
 have aa:∀w r,(Instr.makeFunc (Fn.func 200) #[] #[Value.pointer (sq (N+7)),Value.pointer (sq (N+8))]).events prog w r=r:=λw r=>by simp[Instr.makeFunc]
 intro b k cs Y B Z;have t:(rV Tryz.f61.body)=.seq (.region 4 (fg Tryz.f61.body 4) false) (.seq (.region 5 (fg Tryz.f61.body 5) false) (.seq (.region 6 (fg Tryz.f61.body 6) false) (.seq (.region 7 (fg Tryz.f61.body 7) false) (.region 8 (fg Tryz.f61.body 8) false)))):=rq
 rw[t];obtain rfl:=H.size;refine C.step rfl λ_ U=>?_;replace c:=c.rely U;clear U;rw[stepG_seq];simp only[goes_go];refine⟨fU _,?_⟩;refine C.step rfl λ_ U=>?_;replace c:=c.rely U;clear U;rw[stepG_region];simp only[goes_go];refine⟨fU _,?_⟩;have D:List.range (fg Tryz.f61.body 4).size=[0,1]:=rq
 rw[D];obtain⟨o,ho,J,T,W⟩:∃o,(fg Tryz.f61.body 4)[0]?=some o/\o.op=.makeFunc (.func 112) #[] #[.tmp 5,.tmp 2,.tmp 4]/\o.dst=some 10/\o.guard=none:=⟨_,rfl,rfl,rfl,rfl⟩;refine C.step rfl λm U=>?_;replace c:=c.rely U;clear U;rw[stepG_value (v:=fC w₀.heap.size) (w':=m) ho (by simp[Region.wanted,W]) B (by unfold execOp;simp[J,Instr.makeFunc,Act.eval,fC]),listed_nil (by unfold execOp;simp[J,Instr.makeFunc,Act.eval])];simp only[goes_go];refine⟨fU _,?_⟩;rw[T];have E:(⟨#[(.func (.func fr) #[] cr),(.func (.func f) #[] cap),.pointer (sq (w₀.heap.size+1)),undef,.pointer (sq (w₀.heap.size+3)),.pointer (sq (w₀.heap.size+5)),.pointer (sq (w₀.heap.size+6)),undef,.chan (some (w₀.heap.size+2)),.chan (some (w₀.heap.size+4)),undef,undef,undef,undef,undef,undef,undef,undef,undef,undef,undef,undef],[]⟩:Act).put (some 10) (fC w₀.heap.size)=⟨t47 w₀.heap.size (.func (.func fr) #[] cr) (.func (.func f) #[] cap) undef,[]⟩:=rq
 rw[E];refine C.step rfl λ_ U=>?_;replace c:=c.rely U;clear U;refine goes_call (b:=b) (a:=⟨t47 w₀.heap.size (.func (.func fr) #[] cr) (.func (.func f) #[] cap) undef,[]⟩) (ops:=fg Tryz.f61.body 4) (i:=1) (args:=#[.tmp 6,.tmp 10]) (ats:=#[169,1]) rfl rfl B rfl func111 rq rfl ⟨fU _,?_⟩;have G:(#[Operand.tmp 6,Operand.tmp 10].map (Act.eval ⟨t47 w₀.heap.size (.func (.func fr) #[] cr) (.func (.func f) #[] cap) undef,[]⟩))++Array.replicate (Tryz.f111.ntmps-(#[Operand.tmp 6,Operand.tmp 10].map (Act.eval ⟨t47 w₀.heap.size (.func (.func fr) #[] cr) (.func (.func f) #[] cap) undef,[]⟩)).size) undef=#[.pointer (sq (w₀.heap.size+6)),fC w₀.heap.size,undef,undef,undef,undef,undef]:=by simp[Act.eval,t47,Tryz.f111,Array.replicate_succ]
 rw[G];refine C.step rfl λ_ U=>?_;replace c:=c.rely U;clear U;rw[stepG_seq];simp only[goes_go];refine⟨fU _,?_⟩;refine C.step rfl λ_ U=>?_;replace c:=c.rely U;clear U;rw[stepG_region];simp only[goes_go,fH,Nat.reduceAdd];refine⟨fU _,?_⟩;refine C.step rfl λ_ U=>?_;replace c:=c.rely U;clear U;refine goes_oper_k rfl rfl dq (λp g=>?_);go_simp;refine g _ _ ⟨?_,?_⟩
 .intro e u;have n:=mem_listed u;simp[go_sem, *] at n
 clear g p;try walk_nrm
 have q:=c.size;simp only[v8,lC,List.length_nil,Nat.reduceAdd,Nat.add_zero,Nat.zero_add] at q;simp only[q];clear q;replace c:=c.alloc (.cells #[.pointer (sq (w₀.heap.size+6))] 240);simp only[v8,List.cons_append,List.nil_append] at c;refine C.step rfl λ_ U=>?_;replace c:=c.rely U;clear U;refine goes_oper_k rfl rfl dq (λp g=>?_);go_simp;refine g _ _ ⟨?_,?_⟩
 .intro e u;have n:=mem_listed u;simp[go_sem, *] at n
 clear g p;try walk_nrm
 have q:=c.size;simp only[v8,lC,List.length_nil,Nat.reduceAdd,Nat.add_zero,Nat.zero_add] at q;simp only[q];clear q;replace c:=c.alloc (.cells #[fC w₀.heap.size] 1);simp only[v8,List.cons_append,List.nil_append] at c;refine C.step rfl λ_ U=>?_;replace c:=c.rely U;clear U;rw[stepG_region_end];simp only[goes_go];refine⟨fU _,?_⟩;refine C.step rfl λ_ U=>?_;replace c:=c.rely U;clear U;rw[stepG_seq];simp only[goes_go];refine⟨fU _,?_⟩;refine C.step rfl λ_ U=>?_;replace c:=c.rely U;clear U;rw[stepG_region];simp only[goes_go,fH,Nat.reduceAdd];refine⟨fU _,?_⟩;refine C.step rfl λ_ U=>?_;replace c:=c.rely U;clear U;refine goes_oper_k rfl rfl dq (λp g=>?_);have z:=cell1 (c.blocks 7 _ rfl);go_simp;refine g _ _ ⟨?_,?_⟩
 .intro e u;have n:=mem_listed u;simp[go_sem, *] at n;subst n;exact Ca (w₀:=w₀) s rfl iq
 clear g p;try walk_nrm
 clear z;refine C.step rfl λ_ U=>?_;replace c:=c.rely U;clear U;refine goes_call rfl rfl dq rfl uR.f_add (ConcX.Gen.nm_add link) rfl ⟨fU _,?_⟩;walk_nrmf Conc.Lib.addFn;have L:=@SA Post S (w₀.heap.size+6) w₀.heap.size;simp only[ConcX.Gen.body_add,Conc.Lib.addFn,Option.getD_some] at L;refine L (λh=>by have:=s _ h;omega) (λh=>by have:=s _ h;omega) (c.blocks 6 _ rfl) ?_;replace c:=c.set (j:=6) (o:=0) rfl (.int .u64 4294967296);simp only[List.set,List.setIfInBounds_toArray] at c;try walk_nrm
 refine C.step rfl λ_ U=>?_;replace c:=c.rely U;clear U;rw[stepG_region_end];simp only[goes_go];refine⟨fU _,?_⟩;refine C.step rfl λ_ U=>?_;replace c:=c.rely U;clear U;rw[stepG_region];simp only[goes_go,fH,Nat.reduceAdd];refine⟨fU _,?_⟩;refine C.step rfl λ_ U=>?_;replace c:=c.rely U;clear U;refine goes_oper_k rfl rfl dq (λp g=>?_);go_simp;refine g _ _ ⟨?_,?_⟩
 .intro e u;have n:=mem_listed u;simp[go_sem, *] at n
 clear g p;try walk_nrm
 refine PS (A:=A) (F:=F) (I:=I) (k:=k) (cs:=cs) (tm:=#[.pointer (sq (w₀.heap.size+6)),fC w₀.heap.size,.pointer (sq (w₀.heap.size+7)),.pointer (sq (w₀.heap.size+8)),.pointer (sq (w₀.heap.size+6)),.tuple #[],.func (.func 200) #[] #[.pointer (sq (w₀.heap.size+7)),.pointer (sq (w₀.heap.size+8))]]) H c hn Y B rfl (λe=>?_) (λShun e _ _=>M Shun _ (c.rely ⟨e,rfl⟩)) R (λe=>O _ (c.rely ⟨e,rfl⟩)) P (λa w y x X=>?_)
 .rw[stepG_spawn (d:=kJ w₀.heap.size) rfl rfl dq (by simp[execOp,go_sem,resolve,Deferred.ofValue,kJ,Act.eval];rfl) rfl,listed_nil (by simp[execOp,go_sem,resolve,Deferred.ofValue,Act.eval])];rfl
 .refine C.step rfl λm U=>?_;rw[stepG_region_end];simp only[goes_go];exact⟨fU _,C.rely (Z _ _ (a.put (some 21) (.tuple #[])) _ (hq _ w y x X)) U⟩
theorem U1(H:yH w₀ N Pb S)(e:He w₀ [.cells #[val] tC] w)(q:l.length<=1000000)
 (U:∀(Shun:Loc->Prop) (w:World) [ConcR.Payload] [ConcX.Payload],He w₀ (qb N val tC (.func (.func fr) #[] cr)) w->XK (aC prog N Pb (eO N Shun) val (N+9) (λ_=>False)) (true,V l) (born prog (kJ N)) w)
 (p:∀Shun:Loc->Prop,(∀l,Shun l->∃i:Addr,l=.cell i/\S i.block)->Client (aC prog N Pb (eO N Shun) val (N+9) (λ_=>False)) N l f cap A F I)(n:∀w,He w₀ (qb N val tC (.func (.func fr) #[] cr)) w->A w)(o:∀w d,ConcX.Aside2 N (N+6) w d->F w->F d) :
  eM prog (ZI prog Post 0) 61 #[(.func (.func fr) #[] cr),(.func (.func f) #[] cap)] S w (λm _ k=>m=SE N S/\F k/\k.heap[N+6]?=some (.cells #[.int .u64 0,.int .u32 0] 169)):=by refine gU func61 rq (c:=.seq _ (.seq _ (.seq _ (.seq _ (rV Tryz.f61.body))))) rfl ?_;simp only[ntmps61,bZ,Nat.reduceAdd,Nat.reduceSub];have j:=H.size;refine GL val (.func (.func f) #[] cap) fr cr tC e (λb h=>by rw[j];exact(H.sh b h).1) _ (rV Tryz.f61.body) (λw e=>?_) _ _ _ _ rfl;rw[j] at e |-;exact J7 H e q U p n o λa w g h1 h2=>⟨.inl rfl,g,_,resultsC_none rq _,rfl,h1,h2⟩
end
def aJ(l:Iq):Bq:=l.flatMap Lib.encodeRune
theorem gG(l:Iq):(aJ l).length<=4*l.length:=by
 induction l with
 | nil=>simp[aJ]
 | cons r l a =>have U:aJ (r::l)=Lib.encodeRune r++aJ l:=rfl;have h:=(Lib.runeCells_le r).2;rw[Lib.runeCells_length] at h;grind
section
variable {w aE:World}{v:Value}{rest:Iq}
variable {M:World->Nat->Prop}{O:Nat->Prop}{N0:Nat}{Hn:Nat->Prop}{Bb:Nat}{p:Value}{n:Nat}{xs:Vq}{w':World}
theorem HW.exs(h:HW K Ex w₀ Rb u v tk en w)(b:Nat)(U:pb Rb v b):Ex b\/w₀.heap.size<=b:=by
 rcases U with rfl|z
 .exact h.R0
 .exact(h.ro.own b z).2
theorem apart{y z x:Value}(a:HW K Ex w₀ Rb u v tk en w)(U:HM (cO K) (g9 K) N0 Hn aE Bb x y z n xs w):(¬pb Rb v Bb/\∀k,z.ownBlock=some k->¬pb Rb v k)/\(¬pb Bb z Rb/\∀k,v.ownBlock=some k->¬pb Bb z k):=by
 have h1:Bb≠Rb:=by
  rintro rfl
  have:=U.bd.symm.trans a.rb;simp at this
 refine⟨⟨?_,λk b=>?_⟩,⟨?_,λk b=>?_⟩⟩
 .rintro(e|e)
  .exact h1 e
  .exact a.ro.ne U.bd dq e rfl
 .rintro(e|e)
  .exact U.ro.ne a.rb dq b e
  .have⟨_,c⟩:=U.ro.type b;have⟨_,d⟩:=a.ro.type e;grind
 .rintro(e|e)
  .exact h1 e.symm
  .exact U.ro.ne a.rb dq e rfl
 .rintro(e|e)
  .exact a.ro.ne U.bd dq b e
  .have⟨_,c⟩:=U.ro.type e;have⟨_,d⟩:=a.ro.type b;grind
variable [ConcR.Payload][ConcX.Payload]
variable [ConcX.Shy (Cfg.Wg (aC prog N Pb Shun val B Mz)) (Cfg.C (aC prog N Pb Shun val B Mz))]
end
theorem QW(l x:Nat)(U:l<32768)(a:x<64):bits .or .i32 ((l*64:Nat):Int) (x:Int)=((l*64+x:Nat):Int):=by
 have h1:(BitVec.ofInt 32 ((l*64:Nat):Int)).toNat=l*64:=by rw[BitVec.ofInt_natCast,BitVec.toNat_ofNat];exact Nat.mod_eq_of_lt oq
 have h2:(BitVec.ofInt 32 (x:Int)).toNat=x:=gq
 show IntKind.i32.wrap ((BitVec.ofInt 32 ((l*64:Nat):Int) ||| BitVec.ofInt 32 (x:Int)).toNat:Int)=_;have h3:l*64 ||| x=l*64+x:=by have:=Nat.shiftLeft_add_eq_or_of_lt (i:=6) (b:=x) gq l;rw[Nat.shiftLeft_eq] at this;exact this.symm
 rw[BitVec.toNat_or,h1,h2,h3,IntKind.wrap_i32];omega
theorem l7(l b:Int)(a:0<=l)(h1:l<32768)(h2:0<=b)(h3:b<256):dC l b=l*64+b % 64:=by
 have e1:IntKind.i32.wrap (l*64)=l*64:=by rw[IntKind.wrap_i32];omega
 have U:IntKind.i32.wrap (b % 64)=b % 64:=by rw[IntKind.wrap_i32];omega
 unfold dC;rw[N9 b h2 h3,e1,U]
 have:=QW l.toNat (b % 64).toNat oq oq;grind
theorem ui(b k:Int)(a:0<=b)(h1:b<256)(c:k=31\/k=15\/k=7):eV b k=b % (k+1):=by
 have h:∀n:_root_.Fin 256,bits .and .u8 (n.val:Int) 31=(n.val:Int) % 32/\bits .and .u8 (n.val:Int) 15=(n.val:Int) % 16/\bits .and .u8 (n.val:Int) 7=(n.val:Int) % 8:=by decide +kernel
 have U:=h ⟨b.toNat,by omega⟩;simp only[Int.toNat_of_nonneg a] at U;unfold eV;rcases c with rfl|rfl|rfl
 .rw[U.1,IntKind.wrap_i32];omega
 .rw[U.2.1,IntKind.wrap_i32];omega
 .rw[U.2.2,IntKind.wrap_i32];omega
def BD (d:DS):Prop :=
 d.missing=0 \/
 (d.missing=1/\d.low=128/\d.high=191/\((2<=d.letter/\d.letter<=863)\/(896<=d.letter/\d.letter<=17407))) \/
 (d.missing=2/\0<=d.letter/\d.letter<=15/\d.low=(kV (224+d.letter)).1/\d.high=(kV (224+d.letter)).2) \/
 (d.missing=2/\16<=d.letter/\d.letter<=271/\d.low=128/\d.high=191) \/
 (d.missing=3/\0<=d.letter/\d.letter<=4/\d.low=(kV (240+d.letter)).1/\d.high=(kV (240+d.letter)).2)
theorem vE(d:DS)(b:Int)(i:0<=b)(h1:b<256)(j:d.missing=0):BD (di d b).1/\(∀r∈(di d b).2,Good r)/\(di d b).2.length<=1:=by
 unfold di;by_cases U:b<128
 .simp only[ip U];refine⟨.inl j,λr f=>?_,by simp⟩;have:IntKind.i32.wrap b=b:=by rw[IntKind.wrap_i32];omega
  simp only[this,List.mem_singleton] at f;exact .inl oq
 by_cases a:b<194
 .simp only[iw U,ip a];exact⟨.inl j,λr f=>by simp only[List.mem_singleton] at f;exact .inr oq,by simp⟩
 by_cases g:b>244
 .simp only[iw U,iw a,ip g];exact⟨.inl j,λr f=>by simp only[List.mem_singleton] at f;exact .inr oq,by simp⟩
 by_cases h:b<224
 .simp only[iw U,iw a,iw g,ip h];refine⟨.inr (.inl ⟨rfl,?_,?_,?_⟩),by simp,by simp⟩
  .show(kV b).1=128;rw[kV,iw oq,iw oq,iw oq,iw oq]
  .show(kV b).2=191;rw[kV,iw oq,iw oq,iw oq,iw oq]
  .show(2<=eV b 31/\eV b 31<=863)\/(896<=eV b 31/\eV b 31<=17407);rw[ui b 31 i h1 iq];omega
 by_cases k:b<240
 .simp only[iw U,iw a,iw g,iw h,ip k];have e:eV b 15=b-224:=by rw[ui b 15 i h1 iq];omega
  have c:224+eV b 15=b:=oq
  exact⟨.inr (.inr (.inl ⟨rfl,by show 0<=eV b 15;omega,by show eV b 15<=15;omega,by show _=(kV (224+eV b 15)).1;rw[c],by show _=(kV (224+eV b 15)).2;rw[c]⟩)),by simp,by simp⟩
 .simp only[iw U,iw a,iw g,iw h,iw k];have e:eV b 7=b-240:=by rw[ui b 7 i h1 iq];omega
  have c:240+eV b 7=b:=oq
  exact⟨i3 (.inr ⟨rfl,by show 0<=eV b 7;omega,by show eV b 7<=4;omega,by show _=(kV (240+eV b 7)).1;rw[c],by show _=(kV (240+eV b 7)).2;rw[c]⟩),by simp,by simp⟩
theorem Cc(d:DS)(b:Int)(n:BD d)(q:0<d.missing)(p:d.low<=b)(o:b<=d.high):BD (cW d b).1/\(∀r∈(cW d b).2,Good r)/\(cW d b).2.length<=1:=by
 have g:∀x:Int,128<=(kV x).1/\(kV x).2<=191:=by intro x;unfold kV;(repeat' split)<;>exact⟨dq,by decide⟩
 have U:(cW d b).2.length<=1:=by unfold cW;split<;>simp
 have j:∀m:Int,1<=m->m<=3->IntKind.i64.wrap (m-1)=m-1:=λm _ _=>by rw[IntKind.wrap_i64];omega
 rcases n with h|⟨h,h1,h2,h3⟩|⟨h,h1,h2,h3,h4⟩|⟨h,h1,h2,h3,h4⟩|⟨h,h1,h2,h3,h4⟩
 .omega
 .have e:=l7 d.letter b oq oq oq oq;refine⟨.inl ?_,λr c=>?_,U⟩
  .show IntKind.i64.wrap (d.missing-1)=0;grind
  .have:(cW d b).2=[dC d.letter b]:=by unfold cW;rw[j _ oq oq];simp[h]
   rw[this,List.mem_singleton] at c;subst c;rw[e];unfold Good;omega
 .have l:=g (224+d.letter);have e:=l7 d.letter b oq oq oq oq;have a:IntKind.i64.wrap (d.missing-1)=1:=gq
  refine⟨.inr (.inl ⟨a,rfl,rfl,?_⟩),λr c=>?_,U⟩
  .show(2<=dC d.letter b/\dC d.letter b<=863)\/(896<=dC d.letter b/\dC d.letter b<=17407);rw[e];by_cases f:d.letter=0
   .have:(kV (224+d.letter)).1=160:=by rw[f];rfl
    omega
   .by_cases i:d.letter=13
    .have:(kV (224+d.letter)).2=159:=by rw[i];rfl
     omega
    .omega
  .have:(cW d b).2=[]:=by unfold cW;rw[a];simp
   rw[this] at c;simp at c
 .have e:=l7 d.letter b oq oq oq oq;have a:IntKind.i64.wrap (d.missing-1)=1:=gq
  refine⟨.inr (.inl ⟨a,rfl,rfl,?_⟩),λr c=>?_,U⟩
  .show(2<=dC d.letter b/\dC d.letter b<=863)\/(896<=dC d.letter b/\dC d.letter b<=17407);rw[e];omega
  .have:(cW d b).2=[]:=by unfold cW;rw[a];simp
   rw[this] at c;simp at c
 .have l:=g (240+d.letter);have e:=l7 d.letter b oq oq oq oq;have a:IntKind.i64.wrap (d.missing-1)=2:=gq
  refine⟨i3 (.inl ⟨a,?_,?_,rfl,rfl⟩),λr c=>?_,U⟩
  .show 16<=dC d.letter b;rw[e];by_cases f:d.letter=0
   .have:(kV (240+d.letter)).1=144:=by rw[f];rfl
    omega
   .omega
  .show dC d.letter b<=271;rw[e];by_cases k:d.letter=4
   .have:(kV (240+d.letter)).2=143:=by rw[k];rfl
    omega
   .omega
  .have:(cW d b).2=[]:=by unfold cW;rw[a];simp
   rw[this] at c;simp at c
theorem DU(d:DS)(a:BD d):(g8 d).1.missing=0/\(∀r∈(g8 d).2,Good r)/\(g8 d).2.length<=1:=by
 unfold g8;split
 .exact⟨rfl,λr U=>by simp only[List.mem_singleton] at U;exact .inr oq,by simp⟩
 .refine⟨?_,by simp,by simp⟩;rcases a with h|⟨h,_⟩|⟨h,_⟩|⟨h,_⟩|⟨h,_⟩<;>first|exact h|(exfalso;omega)
theorem KJ(d:DS)(b:Int)(U:0<=b)(h1:b<256)(f:BD d):BD (eo d b).1/\(∀r∈(eo d b).2,Good r)/\(eo d b).2.length<=2:=by
 unfold eo;split
 .rename_i hm
  split
  .rename_i h
   have⟨a,c,e⟩:=Cc d b f hm h.1 h.2;exact⟨a,c,by omega⟩
  .have⟨a,c,e⟩:=DU d f;have⟨i,j,k⟩:=vE (g8 d).1 b U h1 a;grind
 .rename_i hm
  have g:d.missing=0:=by rcases f with h|⟨h,_⟩|⟨h,_⟩|⟨h,_⟩|⟨h,_⟩<;>first|exact h|(exfalso;omega)
  have⟨a,c,e⟩:=vE d b U h1 g;exact⟨a,c,by omega⟩
theorem tF(c:CS)(l:Iq)(h:∀r∈l,Good r):(∀r∈(aV c l).2,Good r)/\(aV c l).2.length<=l.length:=by
 induction l generalizing c with
 | nil=>simp[aV]
 | cons r l a =>
  have⟨h1,h2⟩:=a (gi c r).1 λx U=>h x (by simp[U]);have h3:(∀x∈(gi c r).2,Good x)/\(gi c r).2.length<=1:=by
   simp only[gi];repeat' split
   .simp
   .simp
   .exact⟨λx U=>by simp only[List.mem_singleton] at U;exact .inl oq,by simp⟩
   .exact⟨λx U=>by simp only[List.mem_singleton] at U;exact .inr oq,by simp⟩
   .grind
  refine⟨λx U=>?_,by simp[aV];omega⟩;simp only[aV,List.mem_append] at U;exact U.elim (h3.1 x) (h1 x)
theorem FI(l:Iq)(U:∀b∈l,0<=b/\b<256):∀(c:CS) (d:DS),BD d->(∀r∈cX c d l,Good r)/\(cX c d l).length<=2*l.length+1:=by
 induction l with
 | nil =>intro c d a;rw[jh];have⟨_,h2,h3⟩:=DU d a;have⟨e,f⟩:=tF c _ h2;exact⟨e,by simp;omega⟩
 | cons b l h =>intro c d a;rw[iE];have⟨h1,h2,h3⟩:=KJ d b (U b iq).1 (U b iq).2 a;have⟨e,f⟩:=tF c _ h2;have⟨i,j⟩:=h (λx g=>U x (by simp[g])) (aV c (eo d b).2).1 _ h1;grind
theorem pX(s:ByteArray)(U:s.size<=20000):(∀r∈cI s,Good r)/\4*(cI s).length<=1000000:=by
 have⟨h1,h2⟩:=FI (bytesOf s) (λb a=>by
  simp only[bytesOf,List.mem_map] at a;obtain⟨x,_,rfl⟩:=a
  have:=x.toNat_lt;omega) ⟨false,false⟩ ⟨0,0,0,0⟩ (.inl rfl);refine⟨h1,?_⟩;have h3:(bytesOf s).length=s.size:=by simp[bytesOf]
 unfold cI;omega
def begun(d:DS):Nat:=if 0<d.missing then 1 else 0
theorem HK(d:DS):begun d<=1:=by unfold begun;split<;>omega
theorem vJ(c:CS)(l:Iq):(aV c l).2.length<=l.length:=by
 induction l generalizing c with
 | nil=>simp[aV]
 | cons r l U =>
  have h2:=U (gi c r).1;have h3:(gi c r).2.length<=1:=by simp only[gi];grind
  simp[aV];omega
theorem vF(d:DS)(b:Int)(h:¬0<d.missing):(di d b).2.length+begun (di d b).1<=1:=by
 have U:begun d=0:=by unfold begun;rw[iw h]
 unfold di;repeat' split
 all_goals first
  | (simp[U];done)
  | (simp[begun];done)
theorem DV(d:DS):(g8 d).2.length<=begun d/\¬0<(g8 d).1.missing:=by unfold g8 begun;grind
theorem KL(d:DS)(b:Int):(eo d b).2.length+begun (eo d b).1<=begun d+1:=by
 unfold eo;split
 .rename_i U
  have h1:begun d=1:=by unfold begun;rw[ip U]
  split
  .have h2:=HK (cW d b).1;have h3:(cW d b).2.length<=1:=by simp only[cW];split<;>simp
   omega
  .have h2:=DV d;have h3:=vF (g8 d).1 b h2.2;grind
 .rename_i U
  have:=vF d b U;omega
theorem ID(l:Iq):∀(c:CS) (d:DS),(cX c d l).length<=l.length+begun d:=by
 induction l with
 | nil =>
  intro c d;rw[jh]
  have:=vJ c (g8 d).2
  have:=(DV d).1;simp;omega
 | cons b l U =>intro c d;rw[iE];have h1:=vJ c (eo d b).2;have h2:=KL d b;grind
theorem sg(s:ByteArray):(cI s).length<=s.size:=by
 have h:=ID (bytesOf s) ⟨false,false⟩ ⟨0,0,0,0⟩;have h3:(bytesOf s).length=s.size:=by simp[bytesOf]
 have U:begun ⟨0,0,0,0⟩=0:=by simp[begun]
 unfold cI;omega
variable {Yb:Nat}
section
variable {w aE:World}{v:Value}{rest:Iq}
variable {Tb:Nat}{x:Value}{l:Iq}
theorem xq(U:b<N):g9 (aC prog N Pb Shun val B Mz) b:=⟨by show b<N+9;omega,by show ¬(b=N);omega,by show ¬(b=N+2\/b=N+4\/b=N+6);omega⟩
theorem z7(d:b<N)(e:b≠Pb)(U:∀a:Addr,a.block=b->¬Shun (.cell a))(f:N+9<=w.heap.size):cO (aC prog N Pb Shun val B Mz) w b:=by
 refine⟨oq,?_,?_,?_,U⟩
 .rintro(z|⟨z,_⟩)
  .have c:b=N:=z;omega
  .have c:N+9<=b:=z;omega
 .show ¬(b=N+1\/b=N+3\/b=N+5\/b=N+7\/b=N+8\/b=Pb);omega
 .show ¬(b=N+2\/b=N+4\/b=N+6);omega
variable [ConcR.Payload][ConcX.Payload]
variable [ConcX.Shy (Cfg.Wg (aC prog N Pb Shun val B Mz)) (Cfg.C (aC prog N Pb Shun val B Mz))]
end
section
variable {w aE:World}{Tb:Nat}
theorem He.start(w₀:World):He w₀ [] w₀:=⟨rfl,rfl,rfl,λ_ _=>rfl,by simp,λj o h=>by simp at h⟩
end
structure Ext(w w':World):Prop where
 tape:w'.tape=w.tape
 os:w'.os=w.os
 output:w'.output=w.output
 size:w.heap.size<=w'.heap.size
 block:∀b,b<w.heap.size->w'.heap[b]?=w.heap[b]?
section
variable {P:Program}{b:Frame}{a:Act}{w:World}
theorem C9{fn:Func}(e:b.kind=.normal)(c:a.defers=[])(d:P.funcs[b.fn]?=some fn)(hi:P.inits.idxOf? b.fn=none)(f:(results fn a.tmps).run P w=.ok v w)(U:(results fn a.tmps).events P w #[]=#[]) :
  stepG P true (G { b.at a todo with mode:=.returning } []) w=.ended (.done v) w #[]:=by simp[G,stepG,unwind,doReturn,Frame.at,e,c,d,hi,f,U,seen,GStep.after]
theorem ends_of_calls{Q:Value->World->Prop}(hi:P.inits.idxOf? f=none)(p:∀v d e,Q v d->Post v (d.at e))(h:eM P (ZI P Post 0) f args (λ_=>False) w (λ_ v d=>Q v d)):Ends P Post (solo (G (Frame.enter P f args .normal) []) w) #[]:=by
 have C:bW P true (λ_:Nat->Prop=>AtRel) DZ (ZI P Post 0):=ZI.closed;have T:∀S,Terms AtRel (DZ S):=uO;obtain⟨g,c,m,_,r,y⟩:=h;have a:∀(i:Nat->Prop) (U:Act) (d:World) (b:List Item),(U.defers=[]/\∃v,ResultsC P g U.tmps v/\Q v d)->ZI P Post 0 i (G { (base f).at U b with mode:=.returning } []) d:=by rintro i U d b ⟨s,v,n,x⟩;exact ZI.done rfl (λe=>C9 rfl s m hi (n _).1 (n _).2) (λe=>p v d e x)
 have z:ZI P Post 0 (λ_=>False) (G ((base f).at { tmps:=args++Array.replicate (g.ntmps-args.size) undef,defers:=[] } [.code c]) []) w:=by
  refine y (base f) [] [] rfl (by simp[base]) λi e U d q=>?_;obtain⟨t,q⟩:=q;rcases t with rfl|rfl
  .exact C.step rfl λo j=>by rw[stepG_end]; exact⟨(T i).idle _,C.rely (a i U d [] q) j⟩
  .exact λb=>a i U d b q
 rw[enter_at _ m r,solo_eq_crowd];have k:=past_nil
 have:=z 0 w.drawn (λ_=>False) #[G ((base f).at { tmps:=args++Array.replicate (g.ntmps-args.size) undef,defers:=[] } [.code c]) []] (λ_=>0) #[] none (λl u=>u.elim)
  ⟨rfl,leavers_one _ _,k.clean,k.known,k.over,k.hears⟩;exact this
end
section
variable {ι:Type}{P:Program}{main:Bool}{R:ι->Wq}{D:ι->World->World->Array Event->Prop}{X:ι->Gq}{fn:FuncId}{Q:ei ι}{a:Act}{w:World}{vs:ι}
theorem ce.rely(C:bW P main R D X){c:List Nat}{d:World}(h:ce X fn ops c vs Q a w)(r:R vs w d):ce X fn ops c vs Q a d:=λb k e U g f=>C.rely (h b k e U g f) r
theorem cV(C:bW P main R D X)(T:∀i,Terms (R i) (D i))(g:ops[i]?=some o)(j:Region.wanted o (yielded ops a.tmps)=true)
 (h:∀(b:World) (K:Act->World->Prop),(∀c,ce X fn ops rest vs Q c w->(execOp a.eval o).events P b #[]=#[]->K c b)->uponK o a K ((execOp a.eval o).run P b)):ce X fn ops (i::rest) vs Q a w :=
 aG C g j λb e K U=>h b K λc d f=>U c b ⟨by rw[listed_nil f];exact(T vs).idle _,d.rely C e⟩
theorem wQ(C:bW P main R D X)(T:∀i,Terms (R i) (D i)){c:Operand}{x y:Code}{t:Bool}(b:a.eval c=.bool t)(h1:t=true->fA X fn x vs Q a w)(U:t=false->fA X fn y vs Q a w):fA X fn (.cond c x y) vs Q a w:=by
 refine eG C T b ?_;cases t
 .exact U rfl
 .exact h1 rfl
end
def N5(P:Program)(f:FuncId)(args:Aq)(v:Value):Prop :=
 ∀(ι:Type) (R:ι->Wq) (D:ι->World->World->Array Event->Prop) (X:ι->Gq) (_:bW P true R D X) (_:∀i,Terms (R i) (D i)) (i:ι) (w:World),eM P X f args i w (λi' x w'=>i'=i/\x=v/\w'=w)
end Go.Proofs.YtgcaionclkbehaaGreatDoor
