import Derived.Test.YtgcaionclkbehaaGreatDoorBirth
import Derived.Test.YtgcaionclkbehaaGreatDoorDone
import Derived.Conc.FxGenLone
import Derived.Conc.CrowdMono
set_option linter.all false
set_option maxHeartbeats 2000000
set_option maxRecDepth 100000
namespace Go.Proofs.YtgcaionclkbehaaGreatDoor
section
open Go.Conc Go.RowKit Go.Lib Tryz
variable {P:Program}{main:Bool}{es:Array Event}{L b bp c0 n o z1:Nat}{a:Act}{k:List Item}{cs:List Frame}{K:Cfg}{f fr:FuncId}{aM:Func}{c:Code}{args args' cap sg cr tm:Aq}{A F Fw:World→Prop}{t:TypeId}{e:Exit}{I:Nat→World→Prop}{l:Iq}{pr:Prim}{jy:TL}{w:World}
def bot (P:Program):Frame:={ (default:Frame) with fn:=P.funcs.size,defers:=[],mode:=.panicking [goexitEntry] }
def Sd (N:Nat):Deferred:={ target:=.fn (.func 201) #[.pointer (some ⟨N+7,0,none⟩)],args:=#[] }
def fx(N:Nat):Value:=.func (.func 112) #[] #[.pointer (some ⟨N+5,0,none⟩),.pointer (some ⟨N+1,0,none⟩),.pointer (some ⟨N+3,0,none⟩)]
def LJ(b:Option Code):Array Oper:=match b with|some (.seq _ (.region _ ops _))=>ops|_=>#[]
def JH (b:Option Code)(N:Nat):Frame:=(baseD 200).at ⟨#[.pointer (some ⟨N+7,0,none⟩),.pointer (some ⟨N+8,0,none⟩),.func (.func 201) #[] #[.pointer (some ⟨N+7,0,none⟩)],fx N,undef],[Sd N]⟩ [.inRegion (LJ b) [1]]
theorem Way.closed{R:Wq}{D:World→World→Array Event→Prop}{Stop:Gq}(f:∀a b c,R a b→R b c→R a c):Closed P main (fun _:Unit=>R) D (fun _=>Way P main R D Stop) where
 rely:=fun {_ _ _ _} h hr=>Way.rely f h hr
 step:=by
  intro i g w k h
  refine Way.step k fun d j=>?_
  have U:=h d j
  cases e:stepG P main g d with
  | go g' w' es=>rw[e,goes_go] at U;exact⟨g',w',es,rfl,U.1,U.2⟩
  | _=>rw[e] at U;exact U.elim
section
variable {N Pb:Nat}{Shun:Loc→Prop}{val:Value}{B:Nat}{Mine:Loc→Prop}{S:Nat→Prop}{w aE:World}
variable [Go.ConcR.Payload][Go.ConcX.Payload]
variable {s:ByteArray}
structure HJ(N:Nat)(val:Value)(w:World):Prop where
 pc:∃t,w.heap[N]?=some (.cells #[val] t)
 wb:w.heap[N+7]?=some (.cells #[.pointer (some ⟨N+6,0,none⟩)] 240)
 live:Go.ConcN.WgLive 169 (N+6) w
theorem HJ.rely(U:S N)(h:HJ N val w)(r:RJ (aB prog N Pb Shun val B Mine) S w aE):HJ N val aE:=⟨h.pc.imp fun _ z=>(r.rc _ (.inl U)).trans z,(r.rc _ (i3 (.inr (.inl rfl)))).trans h.wb,r.live h.live⟩
theorem oJ(U:S N)(h:∀e∈es,EvB N Pb N N e):DJ (aB prog N Pb Shun val B Mine) S w w es:=by
 refine⟨⟨rfl,rfl,rfl,rfl,fun _ _=>rfl,id,fun _ _=>rfl⟩,fun e g=>?_⟩;obtain⟨a,d,rfl,f⟩:=h e g;refine⟨fun j i=>⟨rfl,fun x c=>?_⟩,iq,iq,iq⟩;have b:x=⟨.cell a,d,.plain⟩:=by simp only[MemAct.ofEvent,MemAct.touch?] at c;cases d<;>simpa using c.symm
 subst b;rcases f with h|⟨h,rfl⟩
 ·exact .inr (.inl (.inl ⟨a,rfl,by rw[show a.block=N by omega];exact U⟩))
 ·exact .inr (.inr ⟨⟨a,rfl,h⟩,rfl⟩)
theorem e8(U:S N)(w:World):DJ (aB prog N Pb Shun val B Mine) S w w #[]:=oJ (Pb:=Pb) U iq
theorem OM(d:S N)(c:HJ N val w)(tm:Aq) :
  Way prog false (RJ (aB prog N Pb Shun val B Mine) S) (DJ (aB prog N Pb Shun val B Mine) S) (xz (aB prog N Pb Shun val B Mine)) (G { (base 112).at ⟨tm,[]⟩ [] with mode:=.returning } [JH Tryz.f200.body N,(bot prog)]) w:=by
 have e:=Way.closed (P:=prog) (main:=false) (R:=RJ (aB prog N Pb Shun val B Mine) S) (D:=DJ (aB prog N Pb Shun val B Mine) S) (Stop:=xz (aB prog N Pb Shun val B Mine)) (fun _ _ _=>RJ.trans (K:=(aB prog N Pb Shun val B Mine)));refine e.step (vs:=()) rfl fun _ a=>?_;replace c:=c.rely d a;rw[stepG_leave (b:=base 112) rfl rfl func112 (results_none rfl _ _ _) (events_results_none rfl _ _)];simp only[goes_go];refine⟨e8 d _,?_⟩;unfold JH;rw[Frame.finish_at];simp only[LJ,Tryz.f200];try walk_nrm
 refine e.step (vs:=()) rfl fun _ a=>?_;replace c:=c.rely d a;rw[stepG_region_end];simp only[goes_go];refine⟨e8 d _,?_⟩;refine e.step (vs:=()) rfl fun _ a=>?_;replace c:=c.rely d a;rw[stepG_end];simp only[goes_go];refine⟨e8 d _,?_⟩;refine e.step (vs:=()) rfl fun _ a=>?_;replace c:=c.rely d a;rw[my (f:=201) rfl func201 rq rfl];simp only[goes_go];refine⟨e8 d _,?_⟩;simp only[ntmps201,bZ,Nat.reduceAdd,Nat.reduceSub];iterate 2
  refine e.step (vs:=()) rfl fun _ a=>?_
  replace c:=c.rely d a
  rw[stepG_seq]
  simp only[goes_go]
  refine⟨e8 d _,?_⟩
 refine e.step (vs:=()) rfl fun _ a=>?_;replace c:=c.rely d a;rw[stepG_region];simp only[goes_go,ga,Nat.reduceAdd];refine⟨e8 d _,?_⟩;refine e.step (vs:=()) rfl fun _ a=>?_;replace c:=c.rely d a;rw[ut rfl rq rfl rfl rfl (by simp[execOp,go_sem]) (by simp[execOp,go_sem])];simp only[goes_go];refine⟨e8 d _,?_⟩;try walk_nrm
 refine e.step (vs:=()) rfl fun _ a=>?_;replace c:=c.rely d a;refine goes_oper_k rfl rfl dq (fun i g=>?_);go_simp;refine g _ _ ⟨?_,?_⟩
 ·refine oJ d ?_;co_evs (skip)
 try walk_nrm
 refine e.step (vs:=()) rfl fun _ a=>?_;replace c:=c.rely d a;rw[stepG_region_end];simp only[goes_go];refine⟨e8 d _,?_⟩;refine e.step (vs:=()) rfl fun _ a=>?_;replace c:=c.rely d a;rw[stepG_seq];simp only[goes_go];refine⟨e8 d _,?_⟩;refine e.step (vs:=()) rfl fun _ a=>?_;replace c:=c.rely d a;rw[stepG_region];simp only[goes_go,ga,Nat.reduceAdd];refine⟨e8 d _,?_⟩;refine e.step (vs:=()) rfl fun _ a=>?_;replace c:=c.rely d a;refine goes_oper_k rfl rfl dq (fun i g=>?_);go_simp;refine g _ _ ⟨?_,?_⟩
 ·refine oJ d ?_;co_evs (skip)
 try walk_nrm
 refine e.step (vs:=()) rfl fun _ a=>?_;replace c:=c.rely d a;refine goes_oper_k rfl rfl dq (fun i g=>?_);have m:∀w j,(binOp .neq 20 .nilIface .nilIface).events prog w j=j:=fun w j=>by rw[show binOp .neq 20 Value.nilIface Value.nilIface=(do pure (.bool (!(← Op.equal 20 .nilIface .nilIface)))) from rfl,show Op.equal 20 Value.nilIface Value.nilIface=Op.equalIn (9999+1) 20 .nilIface .nilIface from rfl,Op.equalIn];simp[go_sem,underlying,underlying20]
 go_simp;refine g _ _ ⟨?_,?_⟩
 ·refine oJ d ?_;co_evs (skip)
 try walk_nrm
 refine e.step (vs:=()) rfl fun _ a=>?_;replace c:=c.rely d a;rw[stepG_region_end];simp only[goes_go];refine⟨e8 d _,?_⟩;refine e.step (vs:=()) rfl fun _ a=>?_;replace c:=c.rely d a;rw[stepG_cond (t:=false) rfl];simp only[goes_go,Bool.false_eq_true,↓reduceIte];refine⟨e8 d _,?_⟩;refine e.step (vs:=()) rfl fun _ a=>?_;replace c:=c.rely d a;rw[stepG_skip];simp only[goes_go];refine⟨e8 d _,?_⟩;refine e.step (vs:=()) rfl fun _ a=>?_;replace c:=c.rely d a;rw[stepG_region];simp only[goes_go,ga,Nat.reduceAdd];refine⟨e8 d _,?_⟩;refine e.step (vs:=()) rfl fun _ a=>?_;replace c:=c.rely d a;refine goes_oper_k rfl rfl dq (fun i g=>?_);have n:=cell1 c.wb;go_simp;refine g _ _ ⟨?_,?_⟩
 ·refine oJ d ?_;co_evs (exact qi (i3 (.inl rfl)))
 try walk_nrm
 refine e.step (vs:=()) rfl fun _ a=>?_;replace c:=c.rely d a;refine goes_call rfl rfl dq rfl tO.f_done (Go.ConcR.Gen.nm_done link) rfl ⟨e8 d _,?_⟩;walk_nrmf Go.Conc.Lib.doneFn;have k:=fun {b₀:Frame} {a₀:Act} {ops₀:Array Oper} {i₀:Nat} {rest₀:List Nat} {k₀:List Item} {cs:List Frame} {qt:Nat} hT w hK=>@ON _ link prog tO (L9 (aB prog N Pb Shun val B Mine) S) (Ry (aB prog N Pb Shun val B Mine)) (N+6) N 1 0 1 val b₀ a₀ ops₀ i₀ rest₀ k₀ cs qt hT w hK;simp only[Go.ConcR.Gen.body_done,Go.Conc.Lib.doneFn,Option.getD_some] at k;refine Way.qK (fun _ _ h=>RJ.rw (K:=(aB prog N Pb Shun val B Mine)) d h) (fun _ _ _ h=>h) (fun _ _ h=>h) (cB (k (qt:=5) ?_ _ ⟨c.live,by have⟨_,l⟩:=c.pc;simp[Go.ConcN.Has,World.cell?,l]⟩));refine QuitsD.ctl rfl (fun _=>stepG_region_end) ?_;refine QuitsD.ctl rfl (fun _=>stepG_end) ?_;refine QuitsD.leaveD rfl rfl func201 rfl rfl ?_;refine QuitsD.ctl (g':=G (bot prog) []) rfl (fun w=>?_) ?_
 ·simp[G,stepG,unwind,doReturn,results,Frame.at,baseD,bot,func200,Tryz.f200,seen,GStep.after,goexitEntry]
 refine QuitsD.ctl (g':={ G (bot prog) [] with status:=.finished }) rfl (fun w=>?_) ⟨rfl,rfl⟩;simp[G,stepG,unwind,bot,goexitEntry,Frame.catches];rfl
end
def jO(N:Nat):Deferred:={ target:=.fn (.func 200) #[.pointer (some ⟨N+7,0,none⟩),.pointer (some ⟨N+8,0,none⟩)],args:=#[] }
section
variable {N Pb:Nat}{Shun:Loc→Prop}{val:Value}{B:Nat}{Mine:Loc→Prop}{w aE:World}
variable [Go.ConcR.Payload][Go.ConcX.Payload]
variable {s:ByteArray}
theorem Jq(U:HE N val w)(tm:Aq):AtClose (aB prog N Pb Shun val B Mine) (G { (base 112).at ⟨tm,[qe N]⟩ [] with mode:=.returning } [JH Tryz.f200.body N,(bot prog)]) w:=by
 refine⟨rfl,U.size,rfl,G { (base 112).at ⟨tm,[]⟩ [] with mode:=.returning } [JH Tryz.f200.body N,(bot prog)],rfl,fun h=>?_,fun d c e=>?_⟩
 ·exact oe (b:=base 112) (a:=⟨tm,[qe N]⟩) rfl h kq
 ·exact OM (.inl rfl) ⟨U.pc.imp fun _ z=>(c _ (.inl (.inl rfl))).trans z,(c _ (i3 (.inr (.inl rfl)))).trans U.wb,e⟩ tm
theorem HE.rely{i:Ix}(h:HE N val w)(r:eZ (aB prog N Pb Shun val B Mine) i w aE):HE N val aE:=⟨h.pc.imp fun _ z=>(r.rc _ (.inl (.inl rfl))).trans z,(r.rc _ (i3 (.inr (.inl rfl)))).trans h.wb,h.bf.imp fun _ z=>(r.rc _ (i3 (.inr (.inr (.inl rfl))))).trans z⟩
theorem DD(N:Nat)(w:World):stepG prog false (born prog (jO N)) w =
  .go (G ((baseD 200).at ⟨#[.pointer (sq (N+7)),.pointer (sq (N+8)),undef,undef,undef],[]⟩ [.code (Tryz.f200.body.getD .skip)]) [(bot prog)]) w #[]:=by simp[born,jO,stepG,unwind,callDeferred,invoke,callFunc,func200,Tryz.f200,seen,GStep.after,G,Frame.enter,Frame.at,baseD,bot]
theorem ug{b:Frame}{ops:Array Oper}{i:Nat}{rest:List Nat}{o:Oper}{K:Goroutine→World→Array Event→Prop}{x:Operand}{first cap:Array Value}{args:Array Operand}{ats:Array TypeId}
 (ho:ops[i]?=some o)(hw:Region.wanted o (yielded ops a.tmps)=true)(hk:b.kind≠.early)(sI:o.op=.call { callee:=.value x,args,argTypes:=ats })(hx:a.eval x=.func (.func f) first cap)
 (hf : P.funcs[f]? = some aM)(jo : (aM.name == "runtime.NumGoroutine") = false)(hb : aM.body = some c)
 (h:K (G ((base f).at { tmps:=(first++args.map a.eval++cap)++Array.replicate (aM.ntmps-(first++args.map a.eval++cap).size) undef,defers:=[] } [.code c]) (b.at a (.inRegion ops (i::rest)::k)::cs)) w #[]) :
  (stepG P main (G (b.at a (.inRegion ops (i::rest)::k)) cs) w).goes K:=by have⟨hr,he⟩:=iW (P:=P) (w:=w) sI hx hf jo (by rw[hb]; rfl);rw[stepG_enter ho hw hk hr,enter_at _ hf hb];have hl:listed P b.fn a o w=#[]:=listed_nil he;rw[hl];exact h
theorem jE(w:World):DK (aB prog N Pb Shun val B Mine) w w #[]:=mI iq
theorem PG{m:Vq}(g:HB N (.func (.func f) #[] cap) w)
 (h:∀i,RC (aB prog N Pb Shun val B Mine) w i→gJ prog (XK (aB prog N Pb Shun val B Mine)) f (#[fy N]++cap) (true,m) i (fun r _ t=>r.2=[]∧HE N val t)):XK (aB prog N Pb Shun val B Mine) (true,m) (born prog (jO N)) w:=by
 have C:=cK N Pb Shun val B Mine;have v:∀w l,(Instr.makeFunc (Fn.func 201) #[] #[Value.pointer (sq (N+7))]).events prog w l=l:=fun w l=>by simp[Instr.makeFunc]
 refine C.step rfl fun _ U=>?_;replace g:=g.rely U;replace h:=fun c b=>h c (RC.trans U.rc b);rw[DD];simp only[goes_go];refine⟨jE _,?_⟩;simp only[Tryz.f200,Option.getD_some];refine C.step rfl fun _ U=>?_;replace g:=g.rely U;replace h:=fun c b=>h c (RC.trans U.rc b);rw[stepG_seq];simp only[goes_go];refine⟨jE _,?_⟩;refine C.step rfl fun _ U=>?_;replace g:=g.rely U;replace h:=fun c b=>h c (RC.trans U.rc b);rw[stepG_region];simp only[goes_go,ga,Nat.reduceAdd];refine⟨jE _,?_⟩;refine C.step rfl fun _ U=>?_;replace g:=g.rely U;replace h:=fun c b=>h c (RC.trans U.rc b);refine goes_oper_k rfl rfl dq (fun n j=>?_);go_simp;refine j _ _ ⟨?_,?_⟩
 ·refine mI ?_;co_evs (skip)
 try walk_nrm
 refine C.step rfl fun _ U=>?_;replace g:=g.rely U;replace h:=fun c b=>h c (RC.trans U.rc b);rw[pC (d:=Sd N) rfl rq dq (by simp[execOp,go_sem,resolve,Deferred.ofValue,Sd,Act.eval]) (by simp[execOp,go_sem,resolve,Deferred.ofValue,Act.eval])];simp only[goes_go];refine⟨jE _,?_⟩;try walk_nrm
 refine C.step rfl fun _ U=>?_;replace g:=g.rely U;replace h:=fun c b=>h c (RC.trans U.rc b);rw[stepG_region_end];simp only[goes_go];refine⟨jE _,?_⟩;refine C.step rfl fun _ U=>?_;replace g:=g.rely U;replace h:=fun c b=>h c (RC.trans U.rc b);rw[stepG_region];simp only[goes_go,ga,Nat.reduceAdd];refine⟨jE _,?_⟩;refine C.step rfl fun _ U=>?_;replace g:=g.rely U;replace h:=fun c b=>h c (RC.trans U.rc b);refine goes_oper_k rfl rfl dq (fun n j=>?_);have u:=cell1 g.fb;go_simp;refine j _ _ ⟨?_,?_⟩
 ·refine mI ?_;co_evs (exact qj (i3 (.inr (.inl rfl))))
 try walk_nrm
 refine C.step rfl fun _ U=>?_;replace g:=g.rely U;replace h:=fun c b=>h c (RC.trans U.rc b);refine ug rfl rfl dq rfl rfl func112 rq rfl ⟨jE _,?_⟩;simp only[ntmps112,List.map_toArray,List.map_nil,bZ,Nat.reduceAdd,Nat.reduceSub];have⟨o,k,q⟩:=Ny g h;obtain rfl:=Option.some.inj k;refine q (base 112) [] _ rfl dq ?_;rintro⟨fr,vs⟩ e a w ⟨rfl,Ts,hd,g⟩;obtain rfl:vs=[]:=Ts;show XK (aB prog N Pb Shun val B Mine) _ _ _;refine C.step rfl fun _ U=>?_;replace g:=g.rely U;rw[stepG_end];simp only[goes_go];refine⟨jE _,?_⟩;refine Way.stop fun i U=>?_;replace g:=HE.rely g U;have⟨s,p⟩:=a;obtain rfl:p=[qe N]:=hd;exact Jq g s
end
abbrev Qr(Wg C:Nat):Go.ConcX.Shy Wg C where
 ok:=fun act=>∀x,act.touch?=some x→∀ad:Addr,x.loc=.cell ad→ad.block=Wg∨ad.block=C
 atomicWg:=fun a wr h x hx ad e=>by simp only[MemAct.touch?,Option.some.injEq] at hx; subst hx; cases e; exact .inl h
 readWg:=fun a h x hx ad e=>by simp only[MemAct.touch?,Option.some.injEq] at hx; subst hx; cases e; exact .inl h
 writeWg:=fun a h x hx ad e=>by simp only[MemAct.touch?,Option.some.injEq] at hx; subst hx; cases e; exact .inl h
 theirs:=fun a wr h x hx ad e=>by simp only[MemAct.touch?,Option.some.injEq] at hx; subst hx; cases e; exact .inr h
 disable:=fun x hx=>(by cases hx)
 enable:=fun x hx=>(by cases hx)
 relMerge:=fun x hx=>(by cases hx)
 acquire:=fun x hx=>(by cases hx)
 go1:=fun x hx=>(by cases hx)
 start:=fun x hx=>(by cases hx)
 stop:=fun _ _=>True
theorem OA{Post:Value→World→Prop}{S:Nat→Prop}{Wg C:Nat}{b₀:Frame}{a₀:Act}{ops₀:Array Oper}{i₀:Nat}{rest₀:List Nat}{k₀:List Item}{cs:List Frame}{w:World}(h1:¬S Wg)(h2:¬S C)(o:w.heap[Wg]?=some (.cells #[.int .u64 0,.int .u32 0] 169))
 (l:ZI prog Post 0 S (G (b₀.at (a₀.put ((ops₀[i₀]?).bind (·.dst)) (.tuple #[])) (.inRegion ops₀ rest₀::k₀)) cs) (w.setCell ⟨Wg,0,none⟩ (.int .u64 4294967296))) :
  ZI prog Post 0 S (G ((base 199).at ⟨#[.pointer (sq Wg),.int .i64 1,undef,undef,undef,undef,undef,undef,undef,undef,undef,undef,undef,undef,undef,undef,undef,undef,undef,undef,undef,undef,undef,undef,undef,undef,undef,undef,undef,undef,undef,undef,undef,undef,undef,undef,undef,undef,undef,undef,undef,undef,undef,undef,undef,undef,undef,undef,undef,undef,undef,undef,undef,undef,undef,undef,undef,undef,undef,undef,undef,undef,undef,undef,undef,undef,undef,undef,undef,undef,undef,undef,undef,undef,undef,undef,undef,undef,undef,undef,undef,undef,undef,undef,undef,undef,undef,undef,undef,undef,undef,undef,undef,undef,undef,undef,undef,undef,undef,undef,undef,undef,undef,undef,undef,undef,undef,undef,undef,undef,undef,undef,undef,undef,undef,undef,undef],[]⟩ [.code (Go.ConcX.Gen.body_add link)]) (b₀.at a₀ (.inRegion ops₀ (i₀::rest₀)::k₀)::cs)) w:=by
 have j:=@Go.ConcX.Gen.addPos link Wg C (Qr Wg C) b₀ a₀ ops₀ i₀ rest₀ k₀ cs (ZI prog Post 0 S) 0 prog tO w o (fun f c=>ZI.closed.rely l c);have b:∀e,@Go.ConcX.EvS Wg C (Qr Wg C) e→EvS S e:=by
  intro e U;refine⟨fun x p i k d=>?_,fun h=>?_,fun h=>?_⟩
  ·rcases U.2.2.2.2.2 x p i k with z|z
   ·exact h1 (z▸d)
   ·exact h2 (z▸d)
  ·exact U.2.2.2.1 (Go.ConcX.ofEvent_loc_mark h)
  ·exact U.2.2.2.2.1 (Go.ConcX.ofEvent_loc_mark h)
 refine ZI.goes b (fun g w h=>?_) j;refine ZI.FU (m:=.disable) (d':=1) rfl rfl (fun g w a=>?_) h;have⟨n,a⟩:=a;refine ZI.goes b (fun g w h=>?_) a;refine ZI.FU (m:=.enable) (d':=0) rfl rfl (fun g w a=>?_) h;have⟨n,a⟩:=a;exact ZI.goes b (fun g w h=>h w (atRel_refl w)) a
def qO(b:Option Code):Code:=match b with|some (.seq _ (.seq _ (.seq _ (.seq _ c))))=>c|_=>.skip
def fe (b:Option Code)(n:Nat):Array Oper:=match qO b with|.seq (.region _ o4 _) (.seq (.region _ o5 _) (.seq (.region _ o6 _) (.seq (.region _ o7 _) (.region _ o8 _))))=>if n=4 then o4 else if n=5 then o5 else if n=6 then o6 else if n=7 then o7 else o8|_=>#[]
section
variable {N Pb:Nat}{Shun:Loc→Prop}{val:Value}{B:Nat}{Mine:Loc→Prop}{w aE:World}
variable [Go.ConcR.Payload][Go.ConcX.Payload]
variable [Go.ConcX.Shy (Cfg.Wg (aB prog N Pb Shun val B Mine)) (Cfg.C (aB prog N Pb Shun val B Mine))]
theorem Dv[Go.ConcX.Shy K.Wg K.C]{A U:Gq}(h:∀g w,A g w→U g w)(g:Goroutine)(w:World):uv K L A g w→uv K L U g w:=fun ⟨h1,a,h2,m,h3⟩=>⟨h1,a,h2,m,Go.ConcN.goes_mono h h3⟩
theorem Dw{K:Cfg}[Go.ConcX.Shy K.Wg K.C]{L:Nat}{A U:Gq}{Post:Value→World→Prop}(h:∀g w,A g w→U g w)(g:Goroutine)(w:World):je K L A Post g w→je K L U Post g w:=fun ⟨h1,d,h2,h3,e⟩ =>⟨h1,d,h2,fun z=>(h3 z).imp fun _ q=>Go.ConcN.goes_mono (fun _ _ ⟨a,b,c⟩=>⟨a,b,fun z=>(c z).imp fun _ q=>⟨q.1,q.2.imp fun _ q=>Go.ConcN.goes_mono h q⟩⟩) q,e⟩
def xy(K:Cfg)[Go.ConcX.Payload][Go.ConcX.Shy K.Wg K.C](F:World→Prop)(b:Frame)(k:List Item)(cs:List Frame)(g:Goroutine)(w:World):Prop :=
 ∃a:Act,a.defers=[]∧Go.ConcX.Gen.AnchW7 link F K.Wg K.C [K.val] (b.at a (.inRegion (fe Tryz.f61.body 8) [0]::k)) cs g w
theorem NZ(e:∀w c,Go.ConcX.Aside2 N (N+6) w c→F w→F c){b:Frame}(p:b.kind≠.early)(o:a.defers=[])(n:a.eval (.tmp 6)=.pointer (sq (N+6)))(m:F w)(t:z6 (aB prog N Pb Shun val B Mine) w) :
  XM (aB prog N Pb Shun val B Mine) (xy (aB prog N Pb Shun val B Mine) F b k cs) (.join L) (G (b.at a (.code (.region 8 (fe Tryz.f61.body 8) false)::k)) cs) w:=by
 have C:bw prog true (nh (aB prog N Pb Shun val B Mine)) (rZ (aB prog N Pb Shun val B Mine)) (XM (aB prog N Pb Shun val B Mine) (xy (aB prog N Pb Shun val B Mine) F b k cs)):=XM.closed (K:=(aB prog N Pb Shun val B Mine));have T:=qH (K:=(aB prog N Pb Shun val B Mine));have f:∀{w c},nh (aB prog N Pb Shun val B Mine) (.join L) w c→F w∧z6 (aB prog N Pb Shun val B Mine) w→F c∧z6 (aB prog N Pb Shun val B Mine) c:=fun {w c} r h=>by have l:h9 (aB prog N Pb Shun val B Mine) w c:=r;exact⟨e _ _ l.aside h.1,l.ka h.2⟩
 have U:F w∧z6 (aB prog N Pb Shun val B Mine) w:=⟨m,t⟩;refine C.step rfl fun _ d=>?_;replace U:=f d U;rw[stepG_region];simp only[goes_go];refine⟨(T (.join L)).idle _,?_⟩;have q:List.range (fe Tryz.f61.body 8).size=[0]:=rq
 rw[q];refine C.step rfl fun c d=>?_;replace U:=f d U;refine goes_call (b:=b) (a:=a) (args:=#[.tmp 6]) (ats:=#[169]) (i:=0) (ops:=fe Tryz.f61.body 8) rfl rfl p rfl tO.f_wait (Go.ConcX.Gen.nm_wait link) rfl ⟨(T (.join L)).idle _,?_⟩;have j:=Go.ConcX.Gen.waitStart (L:=link) (P:=prog) (Wg:=Cfg.Wg (aB prog N Pb Shun val B Mine)) (C:=Cfg.C (aB prog N Pb Shun val B Mine)) (Low:=L) (Mine:=Mine) (vals:=[val]) (F:=F) (b₀:=b) (a₀:=a) (ops₀:=fe Tryz.f61.body 8) (i₀:=0) (rest₀:=[]) (k₀:=k) (cs:=cs) tO (fun _ _ r h=>e _ _ r h) c U;have s:(#[Operand.tmp 6].map a.eval)=#[Value.pointer (sq (N+6))]:=by simp[n]
 rw[s];simp only[Go.ConcX.Gen.body_wait,Go.Conc.Lib.waitFn,Option.getD_some] at j;walk_nrmf Go.Conc.Lib.waitFn;exact Way.qK (fun _ _ h=>h) (fun _ _ _ h=>h) (fun g w h=>Dv (K:=(aB prog N Pb Shun val B Mine)) (fun _ _ h=>⟨a,o,h⟩) g w h) (cB j)
end
def t47 (N:Nat)(nv nx Rn:Value):Aq:=#[nv,nx,.pointer (some ⟨N+1,0,none⟩),undef,.pointer (some ⟨N+3,0,none⟩),.pointer (some ⟨N+5,0,none⟩),.pointer (some ⟨N+6,0,none⟩),undef,.chan (some (N+2)),.chan (some (N+4)),fx N,Rn,undef,undef,undef,undef,undef,undef,undef,undef,undef,undef]
def P4 (b:Option Code):Array Oper:=match b with|some (.seq _ (.seq _ (.region _ o _)))=>o|_=>#[]
abbrev mj:Value:=.slice none 0 0
section
variable {N Pb:Nat}{Shun:Loc→Prop}{val:Value}{B:Nat}{Mine:Loc→Prop}{Ex:Nat→Prop}{w₀ w aE:World}{AnchW:Gq}{u v:Value}{tk rest:Iq}{en:Bool}{Rb:Nat}
structure HG(N:Nat)(A:World→Prop)(w:World):Prop where
 lv:w.heap[N+3]?=some (.cells #[.chan (some (N+2))] 158)
 ev:w.heap[N+5]?=some (.cells #[.chan (some (N+4))] 159)
 size:N+9≤w.heap.size
 a:A w
theorem HG.rm(U:∀w aE,RM (aB prog N Pb Shun val B Mine) w aE→A w→A aE)(h:HG N A w)(r:RM (aB prog N Pb Shun val B Mine) w aE):HG N A aE:=by
 have hs:=h.size;have hb:∀b,b=N+3∨b=N+5→aE.heap[b]?=w.heap[b]?:=fun b hb=>r.block b oq (fun z=>by
  rcases z with z|⟨z,_⟩
  ·have z':b=N:=z;omega
  ·have z':N+9≤b:=z;omega) (by show ¬(b=N+2∨b=N+4∨b=N+6);omega);exact⟨(hb _ (.inl rfl)).trans h.lv,(hb _ (.inr rfl)).trans h.ev,lT hs r.size,U _ _ r h.a⟩
theorem uR(F:K.Fit)(U:K.Still b)(f:K.N0≤w.heap.size):QW K w ⟨.cell ⟨b,o,none⟩,false,false⟩:=by
 refine⟨fun x g=>?_,iq,iq,by simp[MemAct.ofEvent]⟩;have c:x=⟨.cell ⟨b,o,none⟩,false,.plain⟩:=by simpa[MemAct.ofEvent,MemAct.touch?] using g.symm
 subst c;refine⟨⟨?_,fun _=>rfl,fun h=>absurd h (F.sh ⟨b,o,none⟩ U)⟩,fun d e=>?_,fun d e=>?_⟩
 ·rintro(⟨a,e,h⟩|e|⟨a,e,h⟩)
  ·cases e;exact F.ks w _ h U
  ·cases e
  ·cases e
 ·cases e;exact lL (F.s0 b U) f
 ·cases e
theorem BR(h:∀e∈es,QW K w e):DM K w w es:=⟨fun _ _=>rfl,fun _ h=>h,lr,h⟩
theorem w8[Go.ConcX.Payload]{i:Ph}(a:i.early)(h:nh K i w aE):RM K w aE:=by
 cases i using Ph.bR with
 | join=>exact a.elim
 | _=>exact h
def fJ(N:Nat):Aq:=#[.chan (some (N+2)),.chan (some (N+4)),mj,.bool false]
theorem HW.start(F:Cfg.Fit (aB prog N Pb Shun val B Mine))(U:N+9≤w.heap.size):HW (aB prog N Pb Shun val B Mine) (oh w.heap.size mj) (w.alloc (.cells (fJ N) 175)) w.heap.size mj mj [] false (w.alloc (.cells (fJ N) 175)):=by have o:Own eO (c9 (aB prog N Pb Shun val B Mine)) w (w.alloc (.cells (fJ N) 175)):=Own.alloc (by simp[eO]);exact⟨heap_alloc_new w _,(ym F).new U o lr (by simp[World.size_alloc]),.inl (.inl rfl),lN.none _ _ _ _ _,by simp[World.size_alloc];show N+9≤_;omega,Kept.refl _⟩
variable [Go.ConcR.Payload][Go.ConcX.Payload]
variable [Go.ConcX.Shy (Cfg.Wg (aB prog N Pb Shun val B Mine)) (Cfg.C (aB prog N Pb Shun val B Mine))]
theorem Na{A F:World→Prop}{I:Nat→World→Prop}{b:Frame}{k:List Item}{cs:List Frame}{tm:Aq}{f:FuncId}{cap:Aq}{z:Value}(s:Cfg.Fit (aB prog N Pb Shun val B Mine))(hb:b.fn=61)(Z:b.kind≠.early)(l:Iq)(hn:l.length≤1000000)
 (Y:∀w g,RM (aB prog N Pb Shun val B Mine) w g→A w→A g)(a9:∀w cs,A w→A (w.alloc (.cells cs 175)))
 (a7:∀q d w,N≤d→A w→HW (aB prog N Pb Shun val B Mine) (oh d mj) w d mj mj [] false w→eA prog (XM (aB prog N Pb Shun val B Mine) q) f (#[.pointer (sq d)]++cap) (.front (V l)) w (fun i' _ W=>∃x j v' S p R,S++p=l∧E8 p R i'∧HW (aB prog N Pb Shun val B Mine) x j d v' v' S R W∧(∀b,oh d v' b→N≤b)∧I d W))
 (a4:∀d w g,RM (aB prog N Pb Shun val B Mine) w g→I d w→I d g)(ae:∀d x j v J H w W,HW (aB prog N Pb Shun val B Mine) x j d v v J H w→(∀b,oh d v b→N≤b)→Kept (c9 (aB prog N Pb Shun val B Mine)) (gG (aB prog N Pb Shun val B Mine)) (oh d v) w W→I d w→I d W)(af:∀d w,I d w→F w)(ab:∀w g,Go.ConcX.Aside2 N (N+6) w g→F w→F g)(U:HG N A w) :
  XM (aB prog N Pb Shun val B Mine) (xy (aB prog N Pb Shun val B Mine) F b k cs) (.front (V l)) (G ((base 111).at ⟨tm,[]⟩ [.inRegion (P4 Tryz.f111.body) []]) (b.at ⟨t47 N z (.func (.func f) #[] cap) undef,[]⟩ (.inRegion (fe Tryz.f61.body 4) [1]::.code (.seq (.region 5 (fe Tryz.f61.body 5) false) (.seq (.region 6 (fe Tryz.f61.body 6) false) (.seq (.region 7 (fe Tryz.f61.body 7) false) (.region 8 (fe Tryz.f61.body 8) false))))::k)::cs)) w:=by
 generalize aa:xy (aB prog N Pb Shun val B Mine) F b k cs=q;have C:bw prog true (nh (aB prog N Pb Shun val B Mine)) (rZ (aB prog N Pb Shun val B Mine)) (XM (aB prog N Pb Shun val B Mine) q):=XM.closed (K:=(aB prog N Pb Shun val B Mine));have T:=qH (K:=(aB prog N Pb Shun val B Mine));have E:Env eO (N+9) (c9 (aB prog N Pb Shun val B Mine)) (gG (aB prog N Pb Shun val B Mine)) (nh (aB prog N Pb Shun val B Mine) (.front (V l))) (rZ (aB prog N Pb Shun val B Mine) (.front (V l))):=yo (K:=(aB prog N Pb Shun val B Mine)) s trivial;have D:∀{w g},HG N A w→nh (aB prog N Pb Shun val B Mine) (.front (V l)) w g→HG N A g:=fun h r=>HG.rm Y h r;refine C.step rfl fun _ c=>?_;replace U:=D U c;rw[stepG_region_end];simp only[goes_go];refine⟨(T (.front (V l))).idle _,?_⟩;refine C.step rfl fun _ c=>?_;replace U:=D U c;rw[stepG_end];simp only[goes_go];refine⟨(T (.front (V l))).idle _,?_⟩;refine C.step rfl fun _ c=>?_;replace U:=D U c;rw[stepG_leave (b:=base 111) rfl rfl func111 (results_none rfl _ _ _) (events_results_none rfl _ _)];simp only[goes_go];refine⟨(T (.front (V l))).idle _,?_⟩;rw[Frame.finish_at];have sI:((fe Tryz.f61.body 4)[1]?).bind (·.dst)=some 11:=rq
 rw[sI];have ht:(⟨t47 N z (.func (.func f) #[] cap) undef,[]⟩:Act).put (some 11) (.tuple #[])=⟨t47 N z (.func (.func f) #[] cap) (.tuple #[]),[]⟩:=rq
 rw[ht];refine C.step rfl fun _ c=>?_;replace U:=D U c;rw[stepG_region_end];simp only[goes_go];refine⟨(T (.front (V l))).idle _,?_⟩;refine C.step rfl fun _ c=>?_;replace U:=D U c;rw[stepG_seq];simp only[goes_go];refine⟨(T (.front (V l))).idle _,?_⟩;have h5:∀w,HG N A w→lm (XM (aB prog N Pb Shun val B Mine) q) 61 (.region 5 (fe Tryz.f61.body 5) false) (.front (V l)) (fun i e a w=>e=.normal∧i=.front (V l)∧∃d,a=⟨#[z,.func (.func f) #[] cap,.pointer (sq (N+1)),undef,.pointer (sq (N+3)),.pointer (sq (N+5)),.pointer (sq (N+6)),.pointer (sq d),.chan (some (N+2)),.chan (some (N+4)),fx N,.tuple #[],.chan (some (N+2)),.chan (some (N+4)),.agg (fJ N),.pointer (sq d),undef,undef,undef,undef,undef,undef],[]⟩∧N≤d∧A w∧HW (aB prog N Pb Shun val B Mine) (oh d mj) w d mj mj [] false w) ⟨t47 N z (.func (.func f) #[] cap) (.tuple #[]),[]⟩ w:=by
  have bd:=fun w=>run_build (P:=prog) w 175 #[(0,.chan (some (N+2))),(1,.chan (some (N+4)))] (fJ N) kq;have be:=fun w es=>iR (P:=prog) w 175 #[(0,.chan (some (N+2))),(1,.chan (some (N+4)))] (fJ N) kq es;have bx:=fun w t v=>BO prog w t v;have Zz:=fun w t v es=>sf prog w t v es;intro w U;simp only[fe,qO,Tryz.f61,t47];refine aR C T ?_;simp only[Nat.reduceEqDiff,if_true,if_false,ga,Nat.reduceAdd];refine aF C rfl rq fun _ u M o=>?_;replace U:=D U u;have hc:=cell1 U.lv;go_simp;try (unfold stored;go_simp)
  refine o _ _ ⟨?_,?_⟩
  ·refine BR ?_;co_evs (exact uR (K:=(aB prog N Pb Shun val B Mine)) s (.inr (.inl rfl)) U.size)
  try walk_nrm
  refine aF C rfl rq fun _ u M o=>?_;replace U:=D U u;have hc:=cell1 U.ev;go_simp;try (unfold stored;go_simp)
  refine o _ _ ⟨?_,?_⟩
  ·refine BR ?_;co_evs (exact uR (K:=(aB prog N Pb Shun val B Mine)) s (.inr (.inr (.inl rfl))) U.size)
  try walk_nrm
  refine aF C rfl rq fun _ u M o=>?_;replace U:=D U u;go_simp;try (unfold stored;go_simp)
  refine o _ _ ⟨?_,?_⟩
  ·co_still (T _)
  try walk_nrm
  refine aF C rfl rq fun _ u M o=>?_;replace U:=D U u;go_simp;try (unfold stored;go_simp)
  refine o _ _ ⟨?_,?_⟩
  ·refine wq E U.size (Own.alloc (by simp[eO])) ?_;co_evs (skip)
  try walk_nrm
  have m:=HW.start (w:=_) s U.size;have a5:=lT (Nat.le_add_right N 9) U.size;replace U:=a9 _ (fJ N) U.a;refine aF C rfl rq fun _ u M o=>?_;replace U:=Y _ _ (show RM (aB prog N Pb Shun val B Mine) _ _ from u) U;replace m:=(HW.Bv (i:=.over) s m (show RM (aB prog N Pb Shun val B Mine) _ _ from u)).lg;go_simp;refine o _ _ ⟨?_,?_⟩
  ·co_quiet (T _)
  try walk_nrm
  refine bq C T ?_;exact⟨rfl,rfl,_,rfl,a5,U,m⟩
 refine h5 _ U b (.code (.seq (.region 6 (fe Tryz.f61.body 6) false) (.seq (.region 7 (fe Tryz.f61.body 7) false) (.region 8 (fe Tryz.f61.body 8) false)))::k) cs hb Z ?_;rintro i e a w ⟨rfl,rfl,d,rfl,a5,U,m⟩;show XM (aB prog N Pb Shun val B Mine) q (.front (V l)) _ _;refine C.step rfl fun _ c=>?_;replace U:=Y _ _ (show RM (aB prog N Pb Shun val B Mine) _ _ from c) U;replace m:=(HW.Bv (i:=.over) s m (show RM (aB prog N Pb Shun val B Mine) _ _ from c)).lg;rw[stepG_seq];simp only[goes_go];refine⟨(T (.front (V l))).idle _,?_⟩;have h6:∀w,A w→HW (aB prog N Pb Shun val B Mine) (oh d mj) w d mj mj [] false w→lm (XM (aB prog N Pb Shun val B Mine) q) 61 (.region 6 (fe Tryz.f61.body 6) false) (.front (V l)) (fun i e a w=>e=.normal∧∃O x j v J n H,a=⟨#[z,.func (.func f) #[] cap,.pointer (sq (N+1)),undef,.pointer (sq (N+3)),.pointer (sq (N+5)),.pointer (sq (N+6)),.pointer (sq d),.chan (some (N+2)),.chan (some (N+4)),fx N,.tuple #[],.chan (some (N+2)),.chan (some (N+4)),.agg (fJ N),.pointer (sq d),.func (.func f) #[] cap,.pointer (sq d),O,undef,undef,undef],[]⟩∧J++n=l∧E8 n H i∧HW (aB prog N Pb Shun val B Mine) x j d v v J H w∧(∀b,oh d v b→N≤b)∧I d w) ⟨#[z,.func (.func f) #[] cap,.pointer (sq (N+1)),undef,.pointer (sq (N+3)),.pointer (sq (N+5)),.pointer (sq (N+6)),.pointer (sq d),.chan (some (N+2)),.chan (some (N+4)),fx N,.tuple #[],.chan (some (N+2)),.chan (some (N+4)),.agg (fJ N),.pointer (sq d),undef,undef,undef,undef,undef,undef],[]⟩ w:=by
  intro w U m;simp only[fe,qO,Tryz.f61];refine aR C T ?_;simp only[Nat.reduceEqDiff,if_true,if_false,ga,Nat.reduceAdd];iterate 2
   refine aF C rfl rq fun _ c M o=>?_
   replace U:=Y _ _ (show RM (aB prog N Pb Shun val B Mine) _ _ from c) U
   replace m:=(HW.Bv (i:=.over) s m (show RM (aB prog N Pb Shun val B Mine) _ _ from c)).lg
   go_simp
   try (unfold stored;go_simp)
   refine o _ _ ⟨?_,?_⟩
   ·co_quiet (T _)
   try walk_nrm
  have a6:=a7 q d _ a5 U m;refine jw (f:=f) (first:=#[]) (cap:=cap) (vD:=.front (V l)) C T rfl rq rfl rfl (by simp[Act.eval]) rfl a6 ?_;rintro i O w ⟨x,j,v,J,n,H,h1,h2,h3,h5,h4⟩;refine bq C T ?_;exact⟨rfl,O,x,j,v,J,n,H,rfl,h1,h2,h3,h5,h4⟩
 refine h6 _ U m b (.code (.seq (.region 7 (fe Tryz.f61.body 7) false) (.region 8 (fe Tryz.f61.body 8) false))::k) cs hb Z ?_;rintro i e a w ⟨rfl,O,x,j,v,J,n,H,rfl,a8,Q,m,ag,y⟩;show XM (aB prog N Pb Shun val B Mine) q i _ _;refine C.step rfl fun _ c=>?_;replace y:=a4 _ _ _ (w8 Q.early c) y;replace m:=HW.Bv (i:=.over) s m (w8 Q.early c);rw[stepG_seq];simp only[goes_go];refine⟨(T i).idle _,?_⟩;have h7:∀w,HW (aB prog N Pb Shun val B Mine) x j d v v J H w→I d w→lm (XM (aB prog N Pb Shun val B Mine) q) 61 (.region 7 (fe Tryz.f61.body 7) false) i (fun i e a w=>e=.normal∧i=.over∧∃X,a=⟨#[z,.func (.func f) #[] cap,.pointer (sq (N+1)),undef,.pointer (sq (N+3)),.pointer (sq (N+5)),.pointer (sq (N+6)),.pointer (sq d),.chan (some (N+2)),.chan (some (N+4)),fx N,.tuple #[],.chan (some (N+2)),.chan (some (N+4)),.agg (fJ N),.pointer (sq d),.func (.func f) #[] cap,.pointer (sq d),O,.pointer (sq d),X,undef],[]⟩∧I d w) ⟨#[z,.func (.func f) #[] cap,.pointer (sq (N+1)),undef,.pointer (sq (N+3)),.pointer (sq (N+5)),.pointer (sq (N+6)),.pointer (sq d),.chan (some (N+2)),.chan (some (N+4)),fx N,.tuple #[],.chan (some (N+2)),.chan (some (N+4)),.agg (fJ N),.pointer (sq d),.func (.func f) #[] cap,.pointer (sq d),O,undef,undef,undef],[]⟩ w:=by
  intro w m y;simp only[fe,qO,Tryz.f61];refine aR C T ?_;simp only[Nat.reduceEqDiff,if_true,if_false,ga,Nat.reduceAdd];refine aF C rfl rq fun _ c M o=>?_;replace y:=a4 _ _ _ (w8 Q.early c) y;replace m:=HW.Bv (i:=.over) s m (w8 Q.early c);go_simp;try (unfold stored;go_simp)
  refine o _ _ ⟨?_,?_⟩
  ·co_quiet (T _)
  try walk_nrm
  refine jw C T rfl rq rfl rfl (by simp[Act.eval]) rfl (Jx s l a8 hn m.lg Q) ?_;rintro _ X w ⟨rfl,v2,hD⟩;refine bq C T ?_;exact⟨rfl,rfl,X,rfl,ae _ _ _ _ _ _ _ _ m ag hD.old y⟩
 refine h7 _ m y b (.code (.region 8 (fe Tryz.f61.body 8) false)::k) cs hb Z ?_;rintro i e a w ⟨rfl,rfl,X,rfl,y⟩;show XM (aB prog N Pb Shun val B Mine) q .over _ _;subst aa;refine XM.GR rfl fun g c XL L hL=>?_;exact NZ ab Z rfl rfl (af _ _ (a4 _ _ _ c y)) XL
end
structure He(w₀:World)(qw:List Obj)(w:World):Prop where
 tape:w.tape=w₀.tape
 os:w.os=w₀.os
 output:w.output=w₀.output
 old:∀b,b<w₀.heap.size→w.heap[b]?=w₀.heap[b]?
 size:w.heap.size=w₀.heap.size+qw.length
 blocks:∀j o,qw[j]?=some o→w.heap[w₀.heap.size+j]?=some o
section
variable {w₀ w aE:World}{qw:List Obj}{Post:Value→World→Prop}{S:Nat→Prop}
theorem He.rely(h:He w₀ qw w)(r:AtRel w aE):He w₀ qw aE:=by obtain⟨e,rfl⟩:=r;exact⟨h.tape,h.os,h.output,h.old,h.size,h.blocks⟩
theorem He.alloc(h:He w₀ qw w)(o:Obj):He w₀ (qw++[o]) (w.alloc o):=by
 have d:=h.size;refine⟨h.tape,h.os,h.output,fun b c=>(Below.heap_alloc _ _ _ oq).trans (h.old b c),by simp[World.size_alloc,d];omega,fun j x a=>?_⟩;rcases Nat.lt_or_ge j qw.length with h1|h1
 ·rw[List.getElem?_append_left h1] at a;exact(Below.heap_alloc _ _ _ oq).trans (h.blocks j x a)
 ·rw[List.getElem?_append_right h1] at a;obtain⟨e,rfl⟩:j-qw.length=0∧o=x:=by
   cases U:j-qw.length with
   | zero=>rw[U] at a;simp at a;exact⟨rfl,a⟩
   | succ m=>rw[U] at a;simp at a
  have:w₀.heap.size+j=w.heap.size:=oq
  rw[this];exact heap_alloc_new w o
theorem He.set(h:He w₀ qw w){j:Nat}{cs:Aq}(U:qw[j]?=some (.cells cs t))(v:Value):He w₀ (qw.set j (.cells (cs.setIfInBounds o v) t)) (w.setCell ⟨w₀.heap.size+j,o,none⟩ v):=by
 refine⟨h.tape,h.os,h.output,fun b c=>(HC.ia w _ oq).trans (h.old b c),by simpa[World.setCell] using h.size,fun i x a=>?_⟩;by_cases e:i=j
 ·subst e;have d:=(gS.1 U).1;rw[List.getElem?_set_self d] at a;obtain rfl:=Option.some.inj a;exact dr (h.blocks i _ U) v
 ·rw[List.getElem?_set_ne (Ne.symm e)] at a;exact(HC.ia w _ oq).trans (h.blocks i x a)
theorem Az{e:Event}{ad:Addr}(c:∀b,S b→b<w₀.heap.size)(d:e.loc=.cell ad)(k:w₀.heap.size≤ad.block):EvS S e:=by
 have⟨l,i,h⟩:=e;obtain rfl:l=.cell ad:=d;refine⟨fun x a j U g=>?_,iq,iq⟩;have f:x.loc=.cell ad:=by cases i<;>cases h<;>(simp[MemAct.ofEvent,MemAct.touch?] at a;rw[← a])
 rw[f] at U;cases U
 have:=c _ g;omega
theorem B5{v:Value}(h:w.heap[b]?=some (.cells #[v] t)):w.frozen? ⟨b,0,none⟩=false:=by simp[World.frozen?,h]
theorem fN(w:World):DZ S w w #[]:=fun e U=>by simp at U
def uG:Obj:=.chan 0 #[] false 0 0 false
end
section
variable {w₀ w aE:World}{Post:Value→World→Prop}{S:Nat→Prop}{N Pb:Nat}{val nv:Value}{tC:TypeId}
def o9(N:Nat)(val:Value)(tC:TypeId)(nv:Value):List Obj:=[.cells #[val] tC,.cells #[nv] 110,uG,.cells #[.chan (some (N+2))] 158,uG,.cells #[.chan (some (N+4))] 159,.cells #[.int .u64 4294967296,.int .u32 0] 169,.cells #[.pointer (some ⟨N+6,0,none⟩)] 240,.cells #[fx N] 1]
structure xF(w₀:World)(N Pb:Nat)(S:Nat→Prop):Prop where
 size:w₀.heap.size=N
 YX:Pb<N∨Pb=N+1
 sh:∀b,S b→b<N∧b≠Pb
def fL(N:Nat)(Shun:Loc→Prop)(l:Loc):Prop:=Shun l∨∃a:Addr,l=.cell a∧a.block=N+6
def SE (N:Nat)(S:Nat→Prop)(b:Nat):Prop:=S b∨b=N+6
structure Client(K:Cfg)(N:Nat)(l:Iq)(f:FuncId)(cap:Aq)(A F:World→Prop)(I:Nat→World→Prop):Prop where
 hA:∀w aE,RM K w aE→A w→A aE
 So:∀w cs,A w→A (w.alloc (.cells cs 175))
 next:∀[Go.ConcR.Payload] [Go.ConcX.Payload] [Go.ConcX.Shy K.Wg K.C] (AW:Gq) (Rb:Nat) (w:World),N≤Rb→A w→HW K (oh Rb mj) w Rb mj mj [] false w→eA prog (XM K AW) f (#[.pointer (some ⟨Rb,0,none⟩)]++cap) (.front (V l)) w (fun i' _ w'=>∃Ex w₀ v' Oj CL N4,Oj++CL=l∧E8 CL N4 i'∧HW K Ex w₀ Rb v' v' Oj N4 w'∧(∀b,oh Rb v' b→N≤b)∧I Rb w')
 W6:∀Rb w aE,RM K w aE→I Rb w→I Rb aE
 W7:∀Rb Ex w₀ v tk en w w',HW K Ex w₀ Rb v v tk en w→(∀b,oh Rb v b→N≤b)→Kept (c9 K) (gG K) (oh Rb v) w w'→I Rb w→I Rb w'
 W8:∀Rb w,I Rb w→F w
theorem OV(H:xF w₀ N Pb S){Shun:Loc→Prop}(U:∀l,Shun l→∃c:Addr,l=.cell c∧S c.block):Cfg.Fit (aB prog N Pb (fL N Shun) val (N+9) (fun _=>False)):=by
 have k:=H.YX;have g:∀c:Addr,fL N Shun (.cell c)→(c.block<N∧c.block≠Pb)∨c.block=N+6:=by
  rintro c (h|⟨a,e,h⟩)
  ·have⟨a,e,h⟩:=U _ h;cases e;exact .inl (H.sh _ h)
  ·cases e;exact .inr h
 constructor
 ·show N+2≠N+4;omega
 ·show N+2≠N+6;omega
 ·show N+4≠N+6;omega
 ·show ¬(N+2=N);omega
 ·show ¬(N+4=N);omega
 ·show ¬(N+6=N);omega
 ·show N+2<N+9;omega
 ·show N+4<N+9;omega
 ·show N+6<N+9;omega
 ·show ¬(N+2=N+1∨N+2=N+3∨N+2=N+5∨N+2=N+7∨N+2=N+8∨N+2=Pb);omega
 ·show ¬(N+4=N+1∨N+4=N+3∨N+4=N+5∨N+4=N+7∨N+4=N+8∨N+4=Pb);omega
 ·show ¬(N+6=N+1∨N+6=N+3∨N+6=N+5∨N+6=N+7∨N+6=N+8∨N+6=Pb);omega
 ·intro b h;have d:b=N+1∨b=N+3∨b=N+5∨b=N+7∨b=N+8∨b=Pb:=h;show b<N+9;omega
 ·intro b h;have d:b=N:=h;show b<N+9;omega
 ·intro b h1 h2;have i:b=N:=h1;have j:b=N+1∨b=N+3∨b=N+5∨b=N+7∨b=N+8∨b=Pb:=h2;omega
 ·exact rfl
 ·exact fun a h=>.inr ⟨a,rfl,h⟩
 ·intro l h;have:∃a,l=.cell a:=by
   rcases h with h|⟨a,e,_⟩
   ·have⟨a,e,_⟩:=U _ h;exact⟨a,e⟩
   ·exact⟨a,e⟩
  obtain⟨a,rfl⟩:=this;refine⟨a,rfl,?_⟩;show a.block<N+9;rcases g a h with z|z<;>omega
 ·intro a h f;have d:a.block=N:=h;rcases g a f with z|z<;>omega
 ·intro a h f;have d:a.block=N+1∨a.block=N+3∨a.block=N+5∨a.block=N+7∨a.block=N+8∨a.block=Pb:=h;rcases g a f with z|z<;>omega
 ·show N+6<N+9;omega
 ·show N<N+9;omega
theorem MC(H:xF w₀ N Pb S)(C:He w₀ (o9 N val tC nv) w)(p:l.length≤1000000){b:Frame}(E:b.fn=61)(J:b.kind≠.early){g:Goroutine}(O:g.status=.running)
 (B:∀e,stepG prog true g (w.at e)=.spawn (G ((base 111).at ⟨tm,[]⟩ [.inRegion (P4 Tryz.f111.body) []]) (b.at ⟨t47 N nv (.func (.func f) #[] cap) undef,[]⟩ (.inRegion (fe Tryz.f61.body 4) [1]::.code (.seq (.region 5 (fe Tryz.f61.body 5) false) (.seq (.region 6 (fe Tryz.f61.body 6) false) (.seq (.region 7 (fe Tryz.f61.body 7) false) (.region 8 (fe Tryz.f61.body 8) false))))::k)::cs)) (born prog (jO N)) (w.at e) #[])
 (x:∀(Shun:Loc→Prop) (e:Nat) [Go.ConcR.Payload] [Go.ConcX.Payload],XK (aB prog N Pb (fL N Shun) val (N+9) (fun _=>False)) (true,V l) (born prog (jO N)) (w.at e))
 (z:∀Shun:Loc→Prop,(∀l,Shun l→∃o:Addr,l=.cell o∧S o.block)→Client (aB prog N Pb (fL N Shun) val (N+9) (fun _=>False)) N l f cap A F I)(y:∀e,A (w.at e))(U:∀w i,Go.ConcX.Aside2 N (N+6) w i→F w→F i)
 (v:∀(a:Act) (w:World),a.defers=[]→F w→w.heap[N+6]?=some (.cells #[.int .u64 0,.int .u32 0] 169)→ZI prog Post 0 (SE N S) (G (b.at (a.put (some 21) (.tuple #[])) (.inRegion (fe Tryz.f61.body 8) []::k)) cs) w) :
  ZI prog Post 0 S g w:=by
 letI IR:Go.ConcR.Payload:=⟨tC⟩;letI IX:Go.ConcX.Payload:=⟨tC⟩;refine ZI.fork O B fun e Shun j=>?_;have c:=OV (val:=val) H j;have n:=z Shun j;obtain rfl:=H.size;have d:He w₀ (o9 w₀.heap.size val tC nv) (w.at e):=C.rely ⟨e,rfl⟩;refine⟨aB prog w₀.heap.size Pb (fL w₀.heap.size Shun) val (w₀.heap.size+9) (fun _=>False),IX,IR,zn _ c (ZI prog Post 0 (SE w₀.heap.size S)),
  @xy (aB prog w₀.heap.size Pb (fL w₀.heap.size Shun) val (w₀.heap.size+9) (fun _=>False)) IX (zn _ c (ZI prog Post 0 (SE w₀.heap.size S))) F b k cs,fun _ _=>True,V l,fun b=>¬SE w₀.heap.size S b,w₀.heap.size+7,?_⟩;have P:(w.at e).heap.size=w₀.heap.size+9:=d.size;constructor
 ·rfl
 ·exact c
 ·rfl
 ·exact KM _ c _
 ·rintro g w ⟨a,_,T,rfl,_⟩;rfl
 ·rintro L Q g w ⟨a,u,h⟩;have⟨m,M⟩:=@Go.ConcX.Gen.waitRound IX link (fun _=>False) (w₀.heap.size+6) w₀.heap.size L (zn _ c (ZI prog Post 0 (SE w₀.heap.size S))) [val] (fun _ _=>True) F b a (fe Tryz.f61.body 8) 0 [] k cs 0 prog tO oq (fun _ _ r h=>U _ _ r h) (fun w t D _ i q=>⟨rfl,ZI.closed.rely (v a w u t D) q⟩) g w h;exact⟨m,Go.ConcN.goes_mono (fun g w h=>@Dw IR IX (aB prog w₀.heap.size Pb (fL w₀.heap.size Shun) val (w₀.heap.size+9) (fun _=>False)) (zn _ c (ZI prog Post 0 (SE w₀.heap.size S))) L _ _ _ (fun _ _ h=>⟨a,u,h⟩) g w h) M⟩
 ·exact fun l s=>.inl s
 ·intro l s;obtain⟨o,rfl,K⟩:=c.jx l s;rcases s with h|⟨a,e,h⟩
  ·have⟨a,e,h⟩:=j _ h;cases e;exact⟨o,rfl,by have:=(H.sh _ h).1;omega,fun p=>p (.inl h)⟩
  ·cases e;exact⟨o,rfl,oq,fun p=>p (.inr h)⟩
 ·exact x Shun e
 ·exact @Na w₀.heap.size Pb _ _ _ _ _ IR IX (zn _ c (ZI prog Post 0 (SE w₀.heap.size S))) A F I b k cs tm f cap nv c E J l p n.hA n.So (@Client.next _ _ _ _ _ _ _ _ n IR IX (zn _ c (ZI prog Post 0 (SE w₀.heap.size S)))) n.W6 n.W7 n.W8 U ⟨d.blocks 3 _ rfl,d.blocks 5 _ rfl,oq,y e⟩
 ·show w₀.heap.size+9≤_;omega
 ·exact d.blocks 6 _ rfl
 ·exact d.blocks 2 _ rfl
 ·exact d.blocks 4 _ rfl
 ·exact⟨_,d.blocks 0 _ rfl,rfl⟩
 ·exact fun a w h=>h _
end
section
variable {w₀ w aE:World}{Post:Value→World→Prop}{S:Nat→Prop}
def Ct(N:Nat)(val:Value)(tC:TypeId)(nv:Value):List Obj:=[.cells #[val] tC,.cells #[nv] 110,uG,.cells #[.chan (some (N+2))] 158,uG,.cells #[.chan (some (N+4))] 159,.cells #[.int .u64 0,.int .u32 0] 169]
theorem EK(val E:Value)(fr:FuncId)(cr:Aq)(F:TypeId)(U:He w₀ [.cells #[val] F] w)(D:∀b,S b→b<w₀.heap.size)(Q:dV (Nat→Prop))(c:Code)
 (G:∀w,He w₀ (Ct w₀.heap.size val F (.func (.func fr) #[] cr)) w→lm (ZI prog Post 0) 61 c S Q ⟨#[(.func (.func fr) #[] cr),E,.pointer (sq (w₀.heap.size+1)),undef,.pointer (sq (w₀.heap.size+3)),.pointer (sq (w₀.heap.size+5)),.pointer (sq (w₀.heap.size+6)),undef,.chan (some (w₀.heap.size+2)),.chan (some (w₀.heap.size+4)),undef,undef,undef,undef,undef,undef,undef,undef,undef,undef,undef,undef],[]⟩ w) :
  ∀x y z A,Tryz.f61.body=some (.seq x (.seq y (.seq z (.seq A c))))→lm (ZI prog Post 0) 61 (.seq x (.seq y (.seq z (.seq A c)))) S Q ⟨#[(.func (.func fr) #[] cr),E,undef,undef,undef,undef,undef,undef,undef,undef,undef,undef,undef,undef,undef,undef,undef,undef,undef,undef,undef,undef],[]⟩ w:=by
 intro x y z A B;simp only[Tryz.f61,Option.some.injEq,Code.seq.injEq] at B;obtain⟨rfl,rfl,rfl,rfl,rfl⟩:=B;have C:bw prog true (fun _:Nat→Prop=>AtRel) DZ (ZI prog Post 0):=ZI.closed;have T:∀S,Terms AtRel (DZ S):=tM;have⟨I,n,l⟩:=Option.map_eq_some_iff.1 (show(prog.info? 21).map (·.bytes)=some 4 by kernel_rfl);have⟨i2,p,m⟩:=Option.map_eq_some_iff.1 (show(prog.info? 160).map (·.bytes)=some 0 by kernel_rfl);have s:=fun w=>run_makeChan (P:=prog) (w:=w) underlying158 n .i64 0 dq (by simp[l]);have t:=fun w=>run_makeChan (P:=prog) (w:=w) underlying159 p .i64 0 dq (by simp[m]);have u:=fun w q=>events_makeChan (P:=prog) (w:=w) underlying158 n .i64 0 dq (by simp[l]) q;have v:=fun w q=>events_makeChan (P:=prog) (w:=w) underlying159 p .i64 0 dq (by simp[m]) q;simp only[Int.cast_ofNat_Int] at s t u v;refine cj C T ?_;refine aR C T ?_;simp only[ga];refine aF C rfl rq fun _ g i f=>?_;replace U:=He.rely U g;go_simp;try (unfold stored;go_simp)
 refine f _ _ ⟨?_,?_⟩
 ·intro e h;have d:=mem_listed h;simp[go_sem, *] at d
 try walk_nrm
 have a:=U.size;simp only[lC,List.length_nil,Nat.zero_add] at a;simp only[a];replace U:=U.alloc (.cells #[(.func (.func fr) #[] cr)] 110);simp only[List.cons_append,List.nil_append] at U;refine bq C T ?_;refine cj C T ?_;refine aR C T ?_;simp only[ga,Nat.reduceAdd];refine aF C rfl rq fun _ g i f=>?_;replace U:=He.rely U g;go_simp;try (unfold stored;go_simp)
 refine f _ _ ⟨?_,?_⟩
 ·intro e h;have d:=mem_listed h;simp[go_sem, *] at d
 try walk_nrm
 have a:=U.size;simp only[lC,List.length_nil,Nat.reduceAdd,Nat.zero_add] at a;simp only[a];replace U:=U.alloc (uG);simp only[List.cons_append,List.nil_append] at U;refine aF C rfl rq fun _ g i f=>?_;replace U:=He.rely U g;go_simp;try (unfold stored;go_simp)
 refine f _ _ ⟨?_,?_⟩
 ·intro e h;have d:=mem_listed h;simp[go_sem, *] at d
 try walk_nrm
 have a:=U.size;simp only[lC,List.length_nil,Nat.reduceAdd,Nat.zero_add] at a;simp only[a];replace U:=U.alloc (.cells #[.chan none] 158);simp only[List.cons_append,List.nil_append] at U;refine aF C rfl rq fun _ g i f=>?_;replace U:=He.rely U g;have k:=U.blocks 3 _ rfl;have H:=cell1 k;have r:World.frozen? _ ⟨w₀.heap.size+3,0,none⟩=false:=B5 k;go_simp;try (unfold stored;go_simp)
 refine f _ _ ⟨?_,?_⟩
 ·intro e h;have d:=mem_listed h;simp[go_sem, *] at d;subst d;exact Az (w₀:=w₀) D rfl iq
 try walk_nrm
 replace U:=U.set (j:=3) (o:=0) rfl (.chan (some (w₀.heap.size+2)));simp only[List.set,List.setIfInBounds_toArray] at U;refine bq C T ?_;refine cj C T ?_;refine aR C T ?_;simp only[ga,Nat.reduceAdd];refine aF C rfl rq fun _ g i f=>?_;replace U:=He.rely U g;go_simp;try (unfold stored;go_simp)
 refine f _ _ ⟨?_,?_⟩
 ·intro e h;have d:=mem_listed h;simp[go_sem, *] at d
 try walk_nrm
 have a:=U.size;simp only[lC,List.length_nil,Nat.reduceAdd,Nat.zero_add] at a;simp only[a];replace U:=U.alloc (uG);simp only[List.cons_append,List.nil_append] at U;refine aF C rfl rq fun _ g i f=>?_;replace U:=He.rely U g;go_simp;try (unfold stored;go_simp)
 refine f _ _ ⟨?_,?_⟩
 ·intro e h;have d:=mem_listed h;simp[go_sem, *] at d
 try walk_nrm
 have a:=U.size;simp only[lC,List.length_nil,Nat.reduceAdd,Nat.zero_add] at a;simp only[a];replace U:=U.alloc (.cells #[.chan none] 159);simp only[List.cons_append,List.nil_append] at U;refine aF C rfl rq fun _ g i f=>?_;replace U:=He.rely U g;have k:=U.blocks 5 _ rfl;have H:=cell1 k;have r:World.frozen? _ ⟨w₀.heap.size+5,0,none⟩=false:=B5 k;go_simp;try (unfold stored;go_simp)
 refine f _ _ ⟨?_,?_⟩
 ·intro e h;have d:=mem_listed h;simp[go_sem, *] at d;subst d;exact Az (w₀:=w₀) D rfl iq
 try walk_nrm
 replace U:=U.set (j:=5) (o:=0) rfl (.chan (some (w₀.heap.size+4)));simp only[List.set,List.setIfInBounds_toArray] at U;refine bq C T ?_;refine cj C T ?_;refine aR C T ?_;simp only[ga];refine aF C rfl rq fun _ g i f=>?_;replace U:=He.rely U g;go_simp;try (unfold stored;go_simp)
 refine f _ _ ⟨?_,?_⟩
 ·intro e h;have d:=mem_listed h;simp[go_sem, *] at d
 try walk_nrm
 have a:=U.size;simp only[lC,List.length_nil,Nat.reduceAdd,Nat.zero_add] at a;simp only[a];replace U:=U.alloc (.cells #[.int .u64 0,.int .u32 0] 169);simp only[List.cons_append,List.nil_append] at U;refine bq C T ?_;exact G _ U
end
section
variable {w₀ w aE:World}{Post:Value→World→Prop}{S:Nat→Prop}{N Pb:Nat}{val:Value}{tC:TypeId}
theorem HU(H:xF w₀ N Pb S)(c:He w₀ (Ct N val tC (.func (.func fr) #[] cr)) w)(hn:l.length≤1000000){Q:dV (Nat→Prop)}
 (L:∀(Shun:Loc→Prop) (w:World) [Go.ConcR.Payload] [Go.ConcX.Payload],He w₀ (o9 N val tC (.func (.func fr) #[] cr)) w→XK (aB prog N Pb (fL N Shun) val (N+9) (fun _=>False)) (true,V l) (born prog (jO N)) w)
 (P:∀Shun:Loc→Prop,(∀l,Shun l→∃J:Addr,l=.cell J∧S J.block)→Client (aB prog N Pb (fL N Shun) val (N+9) (fun _=>False)) N l f cap A F I)(M:∀w,He w₀ (o9 N val tC (.func (.func fr) #[] cr)) w→A w)(O:∀w g,Go.ConcX.Aside2 N (N+6) w g→F w→F g)
 (hq:∀(a:Act) (w:World),a.defers=[]→F w→w.heap[N+6]?=some (.cells #[.int .u64 0,.int .u32 0] 169)→Q (SE N S) .normal a w) :
  lm (ZI prog Post 0) 61 (qO Tryz.f61.body) S Q ⟨#[(.func (.func fr) #[] cr),(.func (.func f) #[] cap),.pointer (sq (N+1)),undef,.pointer (sq (N+3)),.pointer (sq (N+5)),.pointer (sq (N+6)),undef,.chan (some (N+2)),.chan (some (N+4)),undef,undef,undef,undef,undef,undef,undef,undef,undef,undef,undef,undef],[]⟩ w:=by
 have C:bw prog true (fun _:Nat→Prop=>AtRel) DZ (ZI prog Post 0):=ZI.closed;have q:∀b,S b→b<w₀.heap.size:=fun b h=>by rw[H.size];exact(H.sh b h).1
 have a8:∀w p,(Instr.makeFunc (Fn.func 112) #[] #[Value.pointer (sq (N+5)),Value.pointer (sq (N+1)),Value.pointer (sq (N+3))]).events prog w p=p:=fun w p=>by simp[Instr.makeFunc]
 have a9:∀w p,(Instr.makeFunc (Fn.func 200) #[] #[Value.pointer (sq (N+7)),Value.pointer (sq (N+8))]).events prog w p=p:=fun w p=>by simp[Instr.makeFunc]
 intro b k cs X z Y;have r:(qO Tryz.f61.body)=.seq (.region 4 (fe Tryz.f61.body 4) false) (.seq (.region 5 (fe Tryz.f61.body 5) false) (.seq (.region 6 (fe Tryz.f61.body 6) false) (.seq (.region 7 (fe Tryz.f61.body 7) false) (.region 8 (fe Tryz.f61.body 8) false)))):=rq
 rw[r];obtain rfl:=H.size;refine C.step rfl fun _ U=>?_;replace c:=c.rely U;rw[stepG_seq];simp only[goes_go];refine⟨fN _,?_⟩;refine C.step rfl fun _ U=>?_;replace c:=c.rely U;rw[stepG_region];simp only[goes_go];refine⟨fN _,?_⟩;have B:List.range (fe Tryz.f61.body 4).size=[0,1]:=rq
 rw[B];obtain⟨o,ho,G,R,T⟩:∃o,(fe Tryz.f61.body 4)[0]?=some o∧o.op=.makeFunc (.func 112) #[] #[.tmp 5,.tmp 2,.tmp 4]∧o.dst=some 10∧o.guard=none:=⟨_,rfl,rfl,rfl,rfl⟩;refine C.step rfl fun g U=>?_;replace c:=c.rely U;rw[stepG_value (v:=fx w₀.heap.size) (w':=g) ho (by simp[Region.wanted,T]) z (by unfold execOp;simp[G,Instr.makeFunc,Act.eval,fx]),listed_nil (by unfold execOp;simp[G,Instr.makeFunc,Act.eval])];simp only[goes_go];refine⟨fN _,?_⟩;rw[R];have D:(⟨#[(.func (.func fr) #[] cr),(.func (.func f) #[] cap),.pointer (sq (w₀.heap.size+1)),undef,.pointer (sq (w₀.heap.size+3)),.pointer (sq (w₀.heap.size+5)),.pointer (sq (w₀.heap.size+6)),undef,.chan (some (w₀.heap.size+2)),.chan (some (w₀.heap.size+4)),undef,undef,undef,undef,undef,undef,undef,undef,undef,undef,undef,undef],[]⟩:Act).put (some 10) (fx w₀.heap.size)=⟨t47 w₀.heap.size (.func (.func fr) #[] cr) (.func (.func f) #[] cap) undef,[]⟩:=rq
 rw[D];refine C.step rfl fun _ U=>?_;replace c:=c.rely U;refine goes_call (b:=b) (a:=⟨t47 w₀.heap.size (.func (.func fr) #[] cr) (.func (.func f) #[] cap) undef,[]⟩) (ops:=fe Tryz.f61.body 4) (i:=1) (args:=#[.tmp 6,.tmp 10]) (ats:=#[169,1]) rfl rfl z rfl func111 rq rfl ⟨fN _,?_⟩;have E:(#[Operand.tmp 6,Operand.tmp 10].map (Act.eval ⟨t47 w₀.heap.size (.func (.func fr) #[] cr) (.func (.func f) #[] cap) undef,[]⟩))++Array.replicate (Tryz.f111.ntmps-(#[Operand.tmp 6,Operand.tmp 10].map (Act.eval ⟨t47 w₀.heap.size (.func (.func fr) #[] cr) (.func (.func f) #[] cap) undef,[]⟩)).size) undef=#[.pointer (sq (w₀.heap.size+6)),fx w₀.heap.size,undef,undef,undef,undef,undef]:=by simp[Act.eval,t47,Tryz.f111,Array.replicate_succ]
 rw[E];refine C.step rfl fun _ U=>?_;replace c:=c.rely U;rw[stepG_seq];simp only[goes_go];refine⟨fN _,?_⟩;refine C.step rfl fun _ U=>?_;replace c:=c.rely U;rw[stepG_region];simp only[goes_go,ga,Nat.reduceAdd];refine⟨fN _,?_⟩;refine C.step rfl fun _ U=>?_;replace c:=c.rely U;refine goes_oper_k rfl rfl dq (fun u m=>?_);go_simp;refine m _ _ ⟨?_,?_⟩
 ·intro e s;have n:=mem_listed s;simp[go_sem, *] at n
 try walk_nrm
 have t:=c.size;simp only[Ct,lC,List.length_nil,Nat.reduceAdd,Nat.zero_add] at t;simp only[t];replace c:=c.alloc (.cells #[.pointer (sq (w₀.heap.size+6))] 240);simp only[Ct,List.cons_append,List.nil_append] at c;refine C.step rfl fun _ U=>?_;replace c:=c.rely U;refine goes_oper_k rfl rfl dq (fun u m=>?_);go_simp;refine m _ _ ⟨?_,?_⟩
 ·intro e s;have n:=mem_listed s;simp[go_sem, *] at n
 try walk_nrm
 have t:=c.size;simp only[lC,List.length_nil,Nat.reduceAdd,Nat.zero_add] at t;simp only[t];replace c:=c.alloc (.cells #[fx w₀.heap.size] 1);simp only[List.cons_append,List.nil_append] at c;refine C.step rfl fun _ U=>?_;replace c:=c.rely U;rw[stepG_region_end];simp only[goes_go];refine⟨fN _,?_⟩;refine C.step rfl fun _ U=>?_;replace c:=c.rely U;rw[stepG_seq];simp only[goes_go];refine⟨fN _,?_⟩;refine C.step rfl fun _ U=>?_;replace c:=c.rely U;rw[stepG_region];simp only[goes_go,ga,Nat.reduceAdd];refine⟨fN _,?_⟩;refine C.step rfl fun _ U=>?_;replace c:=c.rely U;refine goes_oper_k rfl rfl dq (fun u m=>?_);have Z:=cell1 (c.blocks 7 _ rfl);go_simp;refine m _ _ ⟨?_,?_⟩
 ·intro e s;have n:=mem_listed s;simp[go_sem, *] at n;subst n;exact Az (w₀:=w₀) q rfl iq
 try walk_nrm
 refine C.step rfl fun _ U=>?_;replace c:=c.rely U;refine goes_call rfl rfl dq rfl tO.f_add (Go.ConcX.Gen.nm_add link) rfl ⟨fN _,?_⟩;walk_nrmf Go.Conc.Lib.addFn;have K:=@OA Post S (w₀.heap.size+6) w₀.heap.size;simp only[Go.ConcX.Gen.body_add,Go.Conc.Lib.addFn,Option.getD_some] at K;refine K (fun h=>by have:=q _ h;omega) (fun h=>by have:=q _ h;omega) (c.blocks 6 _ rfl) ?_;replace c:=c.set (j:=6) (o:=0) rfl (.int .u64 4294967296);simp only[List.set,List.setIfInBounds_toArray] at c;try walk_nrm
 refine C.step rfl fun _ U=>?_;replace c:=c.rely U;rw[stepG_region_end];simp only[goes_go];refine⟨fN _,?_⟩;refine C.step rfl fun _ U=>?_;replace c:=c.rely U;rw[stepG_region];simp only[goes_go,ga,Nat.reduceAdd];refine⟨fN _,?_⟩;refine C.step rfl fun _ U=>?_;replace c:=c.rely U;refine goes_oper_k rfl rfl dq (fun u m=>?_);go_simp;refine m _ _ ⟨?_,?_⟩
 ·intro e s;have n:=mem_listed s;simp[go_sem, *] at n
 try walk_nrm
 refine MC (A:=A) (F:=F) (I:=I) (k:=k) (cs:=cs) (tm:=#[.pointer (sq (w₀.heap.size+6)),fx w₀.heap.size,.pointer (sq (w₀.heap.size+7)),.pointer (sq (w₀.heap.size+8)),.pointer (sq (w₀.heap.size+6)),.tuple #[],.func (.func 200) #[] #[.pointer (sq (w₀.heap.size+7)),.pointer (sq (w₀.heap.size+8))]]) H c hn X z rfl (fun e=>?_) (fun Shun e _ _=>L Shun _ (c.rely ⟨e,rfl⟩)) P (fun e=>M _ (c.rely ⟨e,rfl⟩)) O (fun a w y x W=>?_)
 ·rw[stepG_spawn (d:=jO w₀.heap.size) rfl rfl dq (by simp[execOp,go_sem,resolve,Deferred.ofValue,jO,Act.eval];rfl) rfl,listed_nil (by simp[execOp,go_sem,resolve,Deferred.ofValue,Act.eval])];rfl
 ·refine C.step rfl fun g U=>?_;rw[stepG_region_end];simp only[goes_go];exact⟨fN _,C.rely (Y _ _ (a.put (some 21) (.tuple #[])) _ (hq _ w y x W)) U⟩
theorem Qo(H:xF w₀ N Pb S)(e:He w₀ [.cells #[val] tC] w)(q:l.length≤1000000)
 (U:∀(Shun:Loc→Prop) (w:World) [Go.ConcR.Payload] [Go.ConcX.Payload],He w₀ (o9 N val tC (.func (.func fr) #[] cr)) w→XK (aB prog N Pb (fL N Shun) val (N+9) (fun _=>False)) (true,V l) (born prog (jO N)) w)
 (p:∀Shun:Loc→Prop,(∀l,Shun l→∃i:Addr,l=.cell i∧S i.block)→Client (aB prog N Pb (fL N Shun) val (N+9) (fun _=>False)) N l f cap A F I)(n:∀w,He w₀ (o9 N val tC (.func (.func fr) #[] cr)) w→A w)(o:∀w d,Go.ConcX.Aside2 N (N+6) w d→F w→F d) :
  eA prog (ZI prog Post 0) 61 #[(.func (.func fr) #[] cr),(.func (.func f) #[] cap)] S w (fun m _ k=>m=SE N S∧F k∧k.heap[N+6]?=some (.cells #[.int .u64 0,.int .u32 0] 169)):=by refine gz func61 rq (c:=.seq _ (.seq _ (.seq _ (.seq _ (qO Tryz.f61.body))))) rfl ?_;simp only[ntmps61,bZ,Nat.reduceAdd,Nat.reduceSub];have j:=H.size;refine EK val (.func (.func f) #[] cap) fr cr tC e (fun b h=>by rw[j];exact(H.sh b h).1) _ (qO Tryz.f61.body) (fun w e=>?_) _ _ _ _ rfl;rw[j] at e ⊢;refine HU H e q U p n o fun a w g h1 h2=>?_;exact⟨.inl rfl,g,_,resultsC_none rq _,rfl,h1,h2⟩
end
theorem Np(l x:Nat)(a:l<32768)(U:x<64):bits .or .i32 ((l*64:Nat):Int) (x:Int)=((l*64+x:Nat):Int):=by
 have h1:(BitVec.ofInt 32 ((l*64:Nat):Int)).toNat=l*64:=by rw[BitVec.ofInt_natCast,BitVec.toNat_ofNat];exact Nat.mod_eq_of_lt oq
 have h2:(BitVec.ofInt 32 (x:Int)).toNat=x:=by rw[BitVec.ofInt_natCast,BitVec.toNat_ofNat];exact Nat.mod_eq_of_lt oq
 show IntKind.i32.wrap ((BitVec.ofInt 32 ((l*64:Nat):Int) ||| BitVec.ofInt 32 (x:Int)).toNat:Int)=_;have h3:l*64 ||| x=l*64+x:=by have:=Nat.shiftLeft_add_eq_or_of_lt (i:=6) (b:=x) (by simpa using U) l;rw[Nat.shiftLeft_eq] at this;exact this.symm
 rw[BitVec.toNat_or,h1,h2,h3,IntKind.wrap_i32];omega
theorem kO(l b:Int)(d:0≤l)(h1:l<32768)(h2:0≤b)(h3:b<256):dw l b=l*64+b % 64:=by
 have e1:IntKind.i32.wrap (l*64)=l*64:=by rw[IntKind.wrap_i32];omega
 have c:IntKind.i32.wrap (b % 64)=b % 64:=by rw[IntKind.wrap_i32];omega
 unfold dw;rw[Lr b h2 h3,e1,c]
 have:=Np l.toNat (b % 64).toNat oq oq;have a:((l.toNat*64:Nat):Int)=l*64:=oq
 have U:((b % 64).toNat:Int)=b % 64:=oq
 rw[a,U] at this;rw[this];omega
theorem sQ(b k:Int)(a:0≤b)(h1:b<256)(c:k=31∨k=15∨k=7):eX b k=b % (k+1):=by
 have h:∀n:_root_.Fin 256,bits .and .u8 (n.val:Int) 31=(n.val:Int) % 32∧bits .and .u8 (n.val:Int) 15=(n.val:Int) % 16∧bits .and .u8 (n.val:Int) 7=(n.val:Int) % 8:=by decide +kernel
 have U:=h ⟨b.toNat,oq⟩;simp only[Int.toNat_of_nonneg a] at U;unfold eX;rcases c with rfl|rfl|rfl
 ·rw[U.1,IntKind.wrap_i32];omega
 ·rw[U.2.1,IntKind.wrap_i32];omega
 ·rw[U.2.2,IntKind.wrap_i32];omega
def zY (d:DS):Prop :=
 d.missing=0 ∨
 (d.missing=1∧d.low=128∧d.high=191∧((2≤d.letter∧d.letter≤863)∨(896≤d.letter∧d.letter≤17407))) ∨
 (d.missing=2∧0≤d.letter∧d.letter≤15∧d.low=(jY (224+d.letter)).1∧d.high=(jY (224+d.letter)).2) ∨
 (d.missing=2∧16≤d.letter∧d.letter≤271∧d.low=128∧d.high=191) ∨
 (d.missing=3∧0≤d.letter∧d.letter≤4∧d.low=(jY (240+d.letter)).1∧d.high=(jY (240+d.letter)).2)
theorem uB(d:DS)(b:Int)(i:0≤b)(h1:b<256)(j:d.missing=0):zY (dd d b).1∧(∀r∈(dd d b).2,Good r)∧(dd d b).2.length≤1:=by
 unfold dd;by_cases U:b<128
 ·simp only[ip U];refine⟨.inl j,fun r f=>?_,iq⟩;have:IntKind.i32.wrap b=b:=by rw[IntKind.wrap_i32];omega
  simp only[this,List.mem_singleton] at f;exact .inl oq
 by_cases a:b<194
 ·simp only[iw U,ip a];exact⟨.inl j,fun r f=>by simp only[List.mem_singleton] at f;exact .inr oq,iq⟩
 by_cases g:b>244
 ·simp only[iw U,iw a,ip g];exact⟨.inl j,fun r f=>by simp only[List.mem_singleton] at f;exact .inr oq,iq⟩
 by_cases h:b<224
 ·simp only[iw U,iw a,iw g,ip h];refine⟨.inr (.inl ⟨rfl,?_,?_,?_⟩),iq,iq⟩
  ·show(jY b).1=128;rw[jY,iw oq,iw oq,iw oq,iw oq]
  ·show(jY b).2=191;rw[jY,iw oq,iw oq,iw oq,iw oq]
  ·show(2≤eX b 31∧eX b 31≤863)∨(896≤eX b 31∧eX b 31≤17407);rw[sQ b 31 i h1 iq];omega
 by_cases k:b<240
 ·simp only[iw U,iw a,iw g,iw h,ip k];have e:eX b 15=b-224:=by rw[sQ b 15 i h1 iq];omega
  have c:224+eX b 15=b:=oq
  exact⟨.inr (.inr (.inl ⟨rfl,by show 0≤eX b 15;omega,by show eX b 15≤15;omega,by show _=(jY (224+eX b 15)).1;rw[c],by show _=(jY (224+eX b 15)).2;rw[c]⟩)),iq,iq⟩
 ·simp only[iw U,iw a,iw g,iw h,iw k];have e:eX b 7=b-240:=by rw[sQ b 7 i h1 iq];omega
  have c:240+eX b 7=b:=oq
  exact⟨i3 (.inr ⟨rfl,by show 0≤eX b 7;omega,by show eX b 7≤4;omega,by show _=(jY (240+eX b 7)).1;rw[c],by show _=(jY (240+eX b 7)).2;rw[c]⟩),iq,iq⟩
theorem AA(d:DS)(b:Int)(n:zY d)(q:0<d.missing)(p:d.low≤b)(o:b≤d.high):zY (cZ d b).1∧(∀r∈(cZ d b).2,Good r)∧(cZ d b).2.length≤1:=by
 have i:∀x:Int,128≤(jY x).1∧(jY x).2≤191:=by intro x;unfold jY;(repeat' split)<;>exact⟨dq,dq⟩
 have U:(cZ d b).2.length≤1:=by unfold cZ;split<;>simp
 have f:∀m:Int,1≤m→m≤3→IntKind.i64.wrap (m-1)=m-1:=fun m _ _=>by rw[IntKind.wrap_i64];omega
 rcases n with h|⟨h,h1,h2,h3⟩|⟨h,h1,h2,h3,h4⟩|⟨h,h1,h2,h3,h4⟩|⟨h,h1,h2,h3,h4⟩
 ·omega
 ·have e:=kO d.letter b oq oq oq oq;refine⟨.inl ?_,fun r c=>?_,U⟩
  ·show IntKind.i64.wrap (d.missing-1)=0;rw[f _ oq oq];omega
  ·have:(cZ d b).2=[dw d.letter b]:=by unfold cZ;rw[f _ oq oq];simp[h]
   rw[this,List.mem_singleton] at c;subst c;rw[e];unfold Good;omega
 ·have l:=i (224+d.letter);have e:=kO d.letter b oq oq oq oq;have a:IntKind.i64.wrap (d.missing-1)=1:=by rw[f _ oq oq];omega
  refine⟨.inr (.inl ⟨a,rfl,rfl,?_⟩),fun r c=>?_,U⟩
  ·show(2≤dw d.letter b∧dw d.letter b≤863)∨(896≤dw d.letter b∧dw d.letter b≤17407);rw[e];by_cases g:d.letter=0
   ·have:(jY (224+d.letter)).1=160:=by rw[g];rfl
    omega
   ·by_cases j:d.letter=13
    ·have:(jY (224+d.letter)).2=159:=by rw[j];rfl
     omega
    ·omega
  ·have:(cZ d b).2=[]:=by unfold cZ;rw[a];simp
   rw[this] at c;simp at c
 ·have e:=kO d.letter b oq oq oq oq;have a:IntKind.i64.wrap (d.missing-1)=1:=by rw[f _ oq oq];omega
  refine⟨.inr (.inl ⟨a,rfl,rfl,?_⟩),fun r c=>?_,U⟩
  ·show(2≤dw d.letter b∧dw d.letter b≤863)∨(896≤dw d.letter b∧dw d.letter b≤17407);rw[e];omega
  ·have:(cZ d b).2=[]:=by unfold cZ;rw[a];simp
   rw[this] at c;simp at c
 ·have l:=i (240+d.letter);have e:=kO d.letter b oq oq oq oq;have a:IntKind.i64.wrap (d.missing-1)=2:=by rw[f _ oq oq];omega
  refine⟨i3 (.inl ⟨a,?_,?_,rfl,rfl⟩),fun r c=>?_,U⟩
  ·show 16≤dw d.letter b;rw[e];by_cases g:d.letter=0
   ·have:(jY (240+d.letter)).1=144:=by rw[g];rfl
    omega
   ·omega
  ·show dw d.letter b≤271;rw[e];by_cases k:d.letter=4
   ·have:(jY (240+d.letter)).2=143:=by rw[k];rfl
    omega
   ·omega
  ·have:(cZ d b).2=[]:=by unfold cZ;rw[a];simp
   rw[this] at c;simp at c
theorem BU(d:DS)(a:zY d):(gu d).1.missing=0∧(∀r∈(gu d).2,Good r)∧(gu d).2.length≤1:=by
 unfold gu;split
 ·exact⟨rfl,fun r U=>by simp only[List.mem_singleton] at U;exact .inr oq,iq⟩
 ·refine⟨?_,iq,iq⟩;rcases a with h|⟨h,_⟩|⟨h,_⟩|⟨h,_⟩|⟨h,_⟩<;>first|exact h|(exfalso;omega)
theorem IE(d:DS)(b:Int)(U:0≤b)(h1:b<256)(f:zY d):zY (dm d b).1∧(∀r∈(dm d b).2,Good r)∧(dm d b).2.length≤2:=by
 unfold dm;split
 ·rename_i hm
  split
  ·rename_i h
   have⟨a,c,e⟩:=AA d b f hm h.1 h.2;exact⟨a,c,oq⟩
  ·have⟨a,c,e⟩:=BU d f;have⟨g,i,l⟩:=uB (gu d).1 b U h1 a;refine⟨g,fun r j=>?_,by simp;omega⟩;rcases List.mem_append.1 j with z|z
   ·exact c r z
   ·exact i r z
 ·rename_i hm
  have k:d.missing=0:=by rcases f with h|⟨h,_⟩|⟨h,_⟩|⟨h,_⟩|⟨h,_⟩<;>first|exact h|(exfalso;omega)
  have⟨a,c,e⟩:=uB d b U h1 k;exact⟨a,c,oq⟩
theorem sk(c:CS)(l:Iq)(h:∀r∈l,Good r):(∀r∈(aJ c l).2,Good r)∧(aJ c l).2.length≤l.length:=by
 induction l generalizing c with
 | nil=>simp[aJ]
 | cons r l b =>
  have⟨h1,h2⟩:=b (eD c r).1 fun x U=>h x (by simp[U]);have a:=h r iq;have h3:(∀x∈(eD c r).2,Good x)∧(eD c r).2.length≤1:=by
   simp only[eD];repeat' split
   ·simp
   ·simp
   ·exact⟨fun x U=>by simp only[List.mem_singleton] at U;exact .inl oq,iq⟩
   ·exact⟨fun x U=>by simp only[List.mem_singleton] at U;exact .inr oq,iq⟩
   ·exact⟨fun x U=>by simp only[List.mem_singleton] at U;rw[U];exact a,iq⟩
  refine⟨fun x U=>?_,by simp[aJ];omega⟩;simp only[aJ,List.mem_append] at U;exact U.elim (h3.1 x) (h1 x)
theorem DX(l:Iq)(U:∀b∈l,0≤b∧b<256):∀(c:CS) (d:DS),zY d→(∀r∈bE c d l,Good r)∧(bE c d l).length≤2*l.length+1:=by
 induction l with
 | nil =>intro c d e;rw[gp];have⟨_,h2,h3⟩:=BU d e;have⟨a,f⟩:=sk c _ h2;exact⟨a,by simp;omega⟩
 | cons b l j =>intro c d e;rw[dX];have⟨h1,h2,h3⟩:=IE d b (U b iq).1 (U b iq).2 e;have⟨a,f⟩:=sk c _ h2;have⟨g,k⟩:=j (fun x i=>U x (by simp[i])) (aJ c (dm d b).2).1 _ h1;refine⟨fun r h=>(List.mem_append.1 h).elim (a r) (g r),by simp;omega⟩
theorem wJ(s:ByteArray)(U:s.size≤20000):(∀r∈cm s,Good r)∧4*(cm s).length≤1000000:=by
 have⟨h1,h2⟩:=DX (bytesOf s) (fun b a=>by
  simp only[bytesOf,List.mem_map] at a;obtain⟨x,_,rfl⟩:=a
  have:=x.toNat_lt;omega) ⟨false,false⟩ ⟨0,0,0,0⟩ (.inl rfl);refine⟨h1,?_⟩;have h3:(bytesOf s).length=s.size:=by simp[bytesOf]
 unfold cm;omega
def begun(d:DS):Nat:=if 0<d.missing then 1 else 0
theorem F0(d:DS):begun d≤1:=by unfold begun;split<;>omega
theorem uH(c:CS)(l:Iq):(aJ c l).2.length≤l.length:=by
 induction l generalizing c with
 | nil=>simp[aJ]
 | cons r l U =>
  have h2:=U (eD c r).1;have h3:(eD c r).2.length≤1:=by
   simp only[eD];repeat' split
   all_goals simp
  simp[aJ];omega
theorem uC(d:DS)(b:Int)(h:¬0<d.missing):(dd d b).2.length+begun (dd d b).1≤1:=by
 have U:begun d=0:=by unfold begun;rw[iw h]
 unfold dd;repeat' split
 all_goals first
  | (simp[U];done)
  | (simp[begun];done)
theorem BV(d:DS):(gu d).2.length≤begun d∧¬0<(gu d).1.missing:=by
 unfold gu begun;split
 ·simp
 ·rename_i h;exact⟨iq,h⟩
theorem IF(d:DS)(b:Int):(dm d b).2.length+begun (dm d b).1≤begun d+1:=by
 unfold dm;split
 ·rename_i U
  have h1:begun d=1:=by unfold begun;rw[ip U]
  split
  ·have h2:=F0 (cZ d b).1;have h3:(cZ d b).2.length≤1:=by simp only[cZ];split<;>simp
   omega
  ·have h2:=BV d;have h3:=uC (gu d).1 b h2.2;simp only[lA];omega
 ·rename_i U
  have:=uC d b U;omega
theorem GA(l:Iq):∀(c:CS) (d:DS),(bE c d l).length≤l.length+begun d:=by
 induction l with
 | nil =>
  intro c d;rw[gp]
  have:=uH c (gu d).2
  have:=(BV d).1;simp;omega
 | cons b l U =>intro c d;rw[dX];have h1:=uH c (dm d b).2;have h2:=IF d b;have h3:=U (aJ c (dm d b).2).1 (dm d b).1;simp only[lA,lC];omega
theorem yM(s:ByteArray):(cm s).length≤s.size:=by
 have h:=GA (bytesOf s) ⟨false,false⟩ ⟨0,0,0,0⟩;have h3:(bytesOf s).length=s.size:=by simp[bytesOf]
 have U:begun ⟨0,0,0,0⟩=0:=by simp[begun]
 unfold cm;omega
section
variable {N Pb:Nat}{Shun:Loc→Prop}{val:Value}{B:Nat}{Mine:Loc→Prop}{Ex:Nat→Prop}{w₀ w aE:World}{AnchW:Gq}{u v:Value}{tk rest:Iq}{en:Bool}{Rb:Nat}
variable {Tb Yb:Nat}{x:Value}{s:ByteArray}{l:Iq}
theorem wK(U:b<N):gG (aB prog N Pb Shun val B Mine) b:=⟨by show b<N+9;omega,by show ¬(b=N);omega,by show ¬(b=N+2∨b=N+4∨b=N+6);omega⟩
theorem G0(d:b<N)(e:b≠Pb)(U:∀a:Addr,a.block=b→¬Shun (.cell a))(f:N+9≤w.heap.size):c9 (aB prog N Pb Shun val B Mine) w b:=by
 refine⟨oq,?_,?_,?_,U⟩
 ·rintro(z|⟨z,_⟩)
  ·have c:b=N:=z;omega
  ·have c:N+9≤b:=z;omega
 ·show ¬(b=N+1∨b=N+3∨b=N+5∨b=N+7∨b=N+8∨b=Pb);omega
 ·show ¬(b=N+2∨b=N+4∨b=N+6);omega
variable [Go.ConcR.Payload][Go.ConcX.Payload]
variable [Go.ConcX.Shy (Cfg.Wg (aB prog N Pb Shun val B Mine)) (Cfg.C (aB prog N Pb Shun val B Mine))]
end
section
variable {w₀ w aE:World}{Post:Value→World→Prop}{S:Nat→Prop}{N Pb Yb Tb:Nat}{s:ByteArray}
theorem He.start(w₀:World):He w₀ [] w₀:=⟨rfl,rfl,rfl,fun _ _=>rfl,iq,fun j o h=>by simp at h⟩
end
def ni:Obj→Bool
 | .cells _ t _=>!(t.beq 175)&&!(t.beq 21)
 | .chan _ _ _ _ _ _=>false
 | _=>true
section
variable {P:Program}{KT:TypeId→Prop}{An:bJ}{S:bJ}{s s1:AS}{l:Hq}
theorem eK.Nu(h:eK P KT An S s l)(U:∀b o,s1.get b=some o→s.get b=some o∧ni o=true)(c:s.nx≤s1.nx):eK P KT An S s1 (l.filter fun x=>ni x.2) where
 live b o hb:=by
  have⟨h1,h2⟩:=U b o hb
  have⟨g,z,e,a,q1,q2,q3,q4⟩:=h.live b o h1
  refine⟨g,z,e,a,q1,List.mem_filter.2 ⟨q2,?_⟩,q3,q4⟩
  unfold OR at q3
  split at q3
  ·
   obtain⟨d,rfl,_⟩:=q3;exact h2
  ·
   subst q3;rfl
  ·
   cases h2
  ·
   exact q3.elim
 inj b b' o a x x' hb pV:=h.inj b b' o a x x' (U b o hb).1 (U b' a pV).1
 lt b o hb:=lL (h.lt b o (U b o hb).1) c
 an:=h.an
end
structure UR(w₀:World)(N Pb:Nat)(Sh:Nat→Prop)(sR:AS)(S0 An:bJ)(l0:Hq):Prop where
 size:w₀.heap.size=N
 uq:eK prog eO An S0 sR l0
 own:∀b o,(b,o)∈l0→b<N∧b≠Pb∧¬Sh b∧w₀.heap[b]?=some o
 nd:(l0.map Prod.fst).Nodup
 tight:∀b o,(b,o)∈l0→∃nm ob z e,sR.get nm=some ob∧S0 nm=some (b,z,e)
structure kF(w₀:World)(N:Nat)(Ek:Nat→Prop)(w:World):Prop where
 tape:w.tape=w₀.tape
 os:w.os=w₀.os
 output:w.output=w₀.output
 size:N+9≤w.heap.size
 old:∀b,b<N→¬Ek b→w.heap[b]?=w₀.heap[b]?
section
variable {N Pb:Nat}{Shun:Loc→Prop}{val:Value}{B:Nat}{Mine:Loc→Prop}{Ex Ek:Nat→Prop}{w₀ w aE w':World}{all:Iq}{Rb:Nat}{l l0:Hq}{sR s' s1:AS}{S0 An:bJ}{Sh:Nat→Prop}
theorem kF.low(h:kF w₀ N Ek w)(h1:w'.tape=w.tape)(h2:w'.os=w.os)(h3:w'.output=w.output)(c:w.heap.size≤w'.heap.size)(d:∀b,b<N→¬Ek b→w'.heap[b]?=w.heap[b]?):kF w₀ N Ek w' :=
 ⟨h1.trans h.tape,h2.trans h.os,h3.trans h.output,lT h.size c,fun b U a=>(d b U a).trans (h.old b U a)⟩
theorem kF.rm(F:Cfg.Fit (aB prog N Pb Shun val B Mine))(h:kF w₀ N Ek w)(r:RM (aB prog N Pb Shun val B Mine) w aE):kF w₀ N Ek aE:=h.low r.tape r.os r.output r.size fun b U _=>(ym F).Kq r (wK U) (by have:=h.size;omega)
theorem kF.kept(h:kF w₀ N Ek w)(a:∀b,Ex b→N≤b)(k:Kept (c9 (aB prog N Pb Shun val B Mine)) (gG (aB prog N Pb Shun val B Mine)) Ex w w'):kF w₀ N Ek w':=h.low k.tape k.os k.output k.grow fun b U _=>k.low b (wK U) (by have:=h.size;omega) fun z=>by have:=a b z;omega
theorem kF.aside(h:kF w₀ N Ek w)(r:Go.ConcX.Aside2 N (N+6) w aE):kF w₀ N Ek aE:=h.low r.tape r.os r.output (by rw[r.size];exact lr) fun b U _=>r.block b oq oq
theorem kF.alloc(h:kF w₀ N Ek w)(o:Obj):kF w₀ N Ek (w.alloc o):=h.low rfl rfl rfl (by simp[World.size_alloc]) fun b U _=>Below.heap_alloc _ _ _ (by have:=h.size;omega)
def mf(l0:Hq)(b:Nat):Prop:=∃o,(b,o)∈l0
def Ow(K:Cfg)(w₀:World)(N:Nat)(sR s1:AS)(S0:bJ)(l0:Hq)(Rb:Nat)(w:World):Prop :=
 ∃S' l',eK prog eO S0 S' s1 l'∧(∀b,b<sR.nx∨s1.nx≤b→S' b=S0 b)∧(l'.map Prod.fst).Nodup∧(∀b o,(b,o)∈l'→c9 K w b∧w.heap[b]?=some o∧ni o=true∧(b<N→mf l0 b))∧kF w₀ N (mf l0) w
def Lm(w₀:World)(N:Nat)(Sh:Nat→Prop)(sR s1:AS)(S0:bJ)(l0:Hq)(w:World):Prop :=
 ∃S' l',eK prog eO S0 S' s1 l'∧(∀b,b<sR.nx∨s1.nx≤b→S' b=S0 b)∧(l'.map Prod.fst).Nodup∧(∀b o,(b,o)∈l'→b<w.heap.size∧b≠N∧b≠N+6∧(b<N→mf l0 b)∧w.heap[b]?=some o)∧kF w₀ N (mf l0) w
theorem Al(p:∀{J:Type} {N0:J→Nat} {M:J→World→Nat→Prop} {O:J→Nat→Prop} {R:J→Wq} {D:J→World→World→Array Event→Prop} {X:J→Gq} {Hd:J→Hq→World→Prop} (_:Cy prog eO N0 M O R D X Hd) (A:bJ),(∀b,sR.nx+1≤b→A b=S0 b)→cN prog eO A R D X Hd (dl sR.nx all)→cN prog eO A R D X Hd pr)(H:xF w₀ N Pb Sh)(t:UR w₀ N Pb Sh sR S0 An l0)(a1:∀b,sR.nx≤b→b<s'.nx→S0 b=none)(ag:sR.nx<s'.nx){e1:Nat}(h1:S0 1=some (1,z1,e1))(a2:1<sR.nx)(hg:∀r∈all,Good r)(hn:4*all.length≤1000000)
 (a8:prog.funcs[f]?=some aM)(a6:aM.body=some c)(a9:aM.results=#[])(a3:AR (VR S0) sg cap)
 (ab:eW prog lF pr n c ((am sR.nx 0::sg.toList)++List.replicate (aM.ntmps-(sg.size+1)) undef) ⟨sR.hp,sR.nx+1⟩=some (e,jy,s'))(he:e=.normal∨e=.ret)
 (a7:∀nm ob,sR.get nm=some ob→∃E,s'.get nm=some E)(ai:∀b o,s1.get b=some o→s'.get b=some o∧ni o=true)(af:s'.nx≤s1.nx)(a4:∀l,Shun l→∃d:Addr,l=.cell d∧Sh d.block) :
  Client (aB prog N Pb (fL N Shun) val (N+9) (fun _=>False)) N all f cap (kF w₀ N (fun _=>False)) (Lm w₀ N Sh sR s1 S0 l0) (Ow (aB prog N Pb (fL N (fun l=>∃d:Addr,l=.cell d∧Sh d.block)) val (N+9) (fun _=>False)) w₀ N sR s1 S0 l0):=by
 have up:∀{w:World} {b:Nat},c9 (aB prog N Pb (fL N Shun) val (N+9) (fun _=>False)) w b→¬Sh b→c9 (aB prog N Pb (fL N (fun l=>∃d:Addr,l=.cell d∧Sh d.block)) val (N+9) (fun _=>False)) w b:=fun {w b} h U=>⟨h.1,h.2.1,h.2.2.1,h.2.2.2.1,fun d L hs=>by
  rcases hs with ⟨a,e,z⟩|⟨a,e,z⟩
  ·cases e;exact U (L▸z)
  ·exact h.2.2.2.2 d L (.inr ⟨a,e,z⟩)⟩;have dn:∀{w:World} {b:Nat},c9 (aB prog N Pb (fL N (fun l=>∃d:Addr,l=.cell d∧Sh d.block)) val (N+9) (fun _=>False)) w b→c9 (aB prog N Pb (fL N Shun) val (N+9) (fun _=>False)) w b∧¬Sh b:=fun {w b} h=>⟨⟨h.1,h.2.1,h.2.2.1,h.2.2.2.1,fun d L hs=>by
  rcases hs with z|⟨a,e,z⟩
  ·exact h.2.2.2.2 d L (.inl (a4 _ z))
  ·exact h.2.2.2.2 d L (.inr ⟨a,e,z⟩)⟩,fun U=>h.2.2.2.2 ⟨b,0,none⟩ rfl (.inl ⟨_,rfl,U⟩)⟩;have F:=OV (val:=val) H a4;have Og:∀b,b<N→¬Sh b→∀d:Addr,d.block=b→¬fL N Shun (.cell d):=by
  rintro b U hS d rfl (h|⟨a,e,h⟩)
  ·obtain⟨a,e,h⟩:=a4 _ h;cases e;exact hS h
  ·cases e;omega
 constructor
 ·exact fun w aE r h=>h.rm F r
 ·exact fun w cs h=>h.alloc _
 ·intro _ _ _ AW Rb w aa q hW;have y:∀b o,(b,o)∈l0→c9 (aB prog N Pb (fL N Shun) val (N+9) (fun _=>False)) w b∧w.heap[b]?=some o:=fun b o j=>by obtain⟨q1,q2,q3,q4⟩:=t.own b o j;exact⟨G0 q1 q2 (Og b q1 q3) q.size,(q.old b q1 id).trans q4⟩
  have hX:HX (aB prog N Pb (fL N Shun) val (N+9) (fun _=>False)) (fun b=>mf l0 b∨N≤b) w all Rb (.front (V all)) (l0++[]) w:=by
   rw[List.append_nil];refine⟨⟨Kept.refl w,q.size,fun b o j=>⟨(y b o j).1,(y b o j).2,.inl (.inl ⟨o,j⟩)⟩,t.nd⟩,mj,[],all,false,rfl,.inl ⟨rfl,.inl rfl⟩,hW,fun b o j p=>?_,fun b p=>?_⟩
   ·have:=(t.own b o j).1;rcases p with rfl|p
    ·omega
    ·cases p
   ·rcases p with rfl|p
    ·exact .inl (.inr aa)
    ·cases p
  have ah:S0 sR.nx=none:=a1 _ lr ag;have i:S0.le (S0.put sR.nx (Rb,0,0)):=bJ.jT ah;have Q:eK prog eO (S0.put sR.nx (Rb,0,0)) (S0.put sR.nx (Rb,0,0)) ⟨sR.hp,sR.nx+1⟩ l0:=by
   refine⟨fun b o U=>?_,fun b b' o o' x x' U a5 p T Pz=>?_,fun b o U=>?_,bJ.le_refl _⟩
   ·obtain⟨g,z,e,o',q1,q2,q3,q4⟩:=t.uq.live b o U;exact⟨g,z,e,o',i _ _ q1,q2,q3.mono i,q4⟩
   ·obtain⟨g,z,e,o3,q1,_⟩:=t.uq.live b o U;obtain⟨g',z',e',o4,q2,_⟩:=t.uq.live b' o' a5;rw[i _ _ q1] at p;rw[i _ _ q2] at T;cases p;cases T;exact t.uq.inj b b' o o' _ _ U a5 q1 q2 Pz
   ·have:=t.uq.lt b o U;show b<sR.nx+1;omega
  have a0:=Hx (AnchW:=AW) (Ex:=fun b=>mf l0 b∨N≤b) (w₀:=w) (An:=S0.put sR.nx (Rb,0,0)) (Rb:=Rb) F hg hn (rn:=sR.nx) bJ.iG (i _ _ h1) a2;have Y:=Sa (AnchW:=AW) (Ex:=fun b=>mf l0 b∨N≤b) (w₀:=w) (all:=all) (Rb:=Rb) F;have a0:=p Y _ (fun b U=>by unfold bJ.put;rw[iw (by omega)]) a0;refine⟨aM,c,a8,dD f aM a8,a6,?_⟩;refine((gR Y (by kernel_rfl) eo a0 dD n).1 c f _ jy _ s' e _ l0 [] (.front (V all)) w _ _ ab Q hX ?_ rfl (fun b b1 b2=>?_) ?_).1
  ·have al:sg.size=cap.size:=a3.1;have h2:AR (VR (S0.put sR.nx (Rb,0,0))) (#[am sR.nx 0]++sg) (#[.pointer (sq Rb)]++cap):=(AR.one (VR.gw bJ.iG)).append (a3.mono i);have h3:=h2.append (AR.replicate (S:=S0.put sR.nx (Rb,0,0)) (x:=undef) (v:=undef) (aM.ntmps-(sg.size+1)) VR.undef);have e1:((am sR.nx 0::sg.toList)++List.replicate (aM.ntmps-(sg.size+1)) undef).toArray=(#[am sR.nx 0]++sg)++Array.replicate (aM.ntmps-(sg.size+1)) undef:=by apply Array.toList_inj.1;simp
   rw[e1];have e2:aM.ntmps-(#[Value.pointer (sq Rb)]++cap).size=aM.ntmps-(sg.size+1):=by simp;omega
   rw[e2];exact h3
  ·have a5:sR.nx+1≤b:=b1;unfold bJ.put;rw[iw (by omega)];exact a1 b (by omega) b2
  ·intro i' B C w' a' r1 r2 r3 r4 r5 r6;rw[List.append_nil] at r4;obtain⟨v',Oj,I,N4,k1,k2,k3,k4,k5⟩:=r4.row;have XI:∀b,oh Rb v' b→N≤b:=fun b U=>by
    rcases k5 b U with (⟨o,j⟩|z)|z
    ·obtain⟨nm,ob,zz,ee,q1,q2⟩:=t.tight b o j;obtain⟨E,q3⟩:=a7 nm ob q1;obtain⟨g,z3,e3,o3,q4,G,_⟩:=r3.live nm E q3;have q6:=r1 _ _ (i _ _ q2);rw[q6] at q4;cases q4;exact absurd U (k4 _ o3 G)
    ·exact z
    ·have:=q.size;omega
   refine⟨he,r6,_,resultsC_none a9 _,_,_,v',Oj,I,N4,k1,k2,k3,XI,B,C.filter (fun x=>ni x.2),?_,fun b U=>?_,?_,fun b o j=>?_,?_⟩
   ·have:=r3.Nu ai af;exact⟨this.live,this.inj,this.lt,bJ.le_trans i r1⟩
   ·rw[r2 b (U.imp (fun U=>by show b<sR.nx+1;omega) (fun U=>by omega))];unfold bJ.put;rw[iw (by omega)]
   ·exact(List.filter_sublist.map Prod.fst).nodup r4.hl.nodup
   ·obtain⟨m,s⟩:=List.mem_filter.1 j;obtain⟨q1,q2,q3⟩:=r4.hl.own b o m;have u:b<N→mf l0 b:=fun ZM=>by
     rcases q3 with (z|z)|z
     ·exact z
     ·omega
     ·have:=q.size;omega
    refine⟨up q1 fun U=>?_,q2,s,u⟩;obtain⟨o2,Pn⟩:=u (H.sh b U).1;exact(t.own b o2 Pn).2.2.1 U
   ·have W:=r4.hl.kept;exact⟨W.tape.trans q.tape,W.os.trans q.os,W.output.trans q.output,lT q.size W.grow,fun b U hk=>(W.low b (wK U) (by have:=q.size;omega) (fun z=>z.elim hk (by omega))).trans (q.old b U id)⟩
 ·rintro Rb w aE r ⟨B,C,q1,q2,q3,q4,G⟩;refine⟨B,C,q1,q2,q3,fun b o j=>?_,G.rm F r⟩;obtain⟨m,s,K,Z⟩:=q4 b o j;obtain⟨m,m5⟩:=dn m;exact⟨up ((ym F).stay r m) m5,((ym F).keep r m).trans s,K,Z⟩
 ·rintro Rb aj ao v tk en w w' hW p k ⟨B,C,q1,q2,q3,q4,G⟩;refine⟨B,C,q1,q2,q3,fun b o j=>?_,G.kept p k⟩;obtain⟨m,s,K,Z⟩:=q4 b o j;have P:¬oh Rb v b:=by
   rintro(rfl|U)
   ·rw[hW.rb] at s;cases s;simp[ni] at K
   ·rcases hW.ro.row.2 with ⟨z,_⟩|⟨g,cp,ak,z,_,ae,_⟩
    ·rw[z] at U;cases U
    ·rw[z] at U;cases U;rw[ae] at s;cases s;simp[ni] at K
  obtain⟨m,m5⟩:=dn m;exact⟨up (k.mine b m) m5,(k.block b m P).trans s,K,Z⟩
 ·rintro Rb w ⟨B,C,q1,q2,q3,q4,G⟩;refine⟨B,C,q1,q2,q3,fun b o j=>?_,G⟩;obtain⟨m,s,K,Z⟩:=q4 b o j;refine⟨m.1,fun e=>m.2.1 (.inl e),fun e=>m.2.2.2.1 (.inr (.inr e)),Z,s⟩
end
abbrev n6(Pb cp:Nat):Value:=.slice (some ⟨Pb,0,none⟩) 1 cp
section
variable {w₀ w aE:World}{Post:Value→World→Prop}{S:Nat→Prop}{N Pb cp:Nat}{s:ByteArray}
theorem JZ(H:xF w₀ N Pb S)(a:Pb<N)(d:w₀.cell? ⟨Pb,0,none⟩=some (.string s))(f:s.size≤20000)(Shun:Loc→Prop)(w:World)[Go.ConcR.Payload][Go.ConcX.Payload](U:He w₀ (o9 N (n6 Pb cp) 62 (Ai N)) w):XK (aB prog N Pb (fL N Shun) (n6 Pb cp) (N+9) (fun _=>False)) (true,V (cm s)) (born prog (jO N)) w:=by
 obtain rfl:=H.size;have b:HB w₀.heap.size (Ai w₀.heap.size) w:=⟨U.blocks 1 _ rfl,U.blocks 3 _ rfl,U.blocks 5 _ rfl,U.blocks 7 _ rfl,U.blocks 8 _ rfl⟩;have e:HQ w₀.heap.size Pb cp s w:=⟨U.blocks 0 _ rfl,(World.cell?_of_block (U.old Pb a)).trans d,a⟩;refine PG b fun c r=>?_
 have:=A2 (Shun:=fL w₀.heap.size Shun) (B:=w₀.heap.size+9) (Mine:=fun _=>False) (b.rc r) (e.rc r) oq;simpa using this
theorem A3(H:xF w₀ N Pb S)(t:Pb<N)(u:w₀.cell? ⟨Pb,0,none⟩=some (.string s))(v:s.size≤20000)
 (r:∀a:Loc→Prop,(∀l,a l→∃k:Addr,l=.cell k∧S k.block)→Client (aB prog N Pb (fL N a) (n6 Pb cp) (N+9) (fun _=>False)) N (cm s) f cap A Fw I)(p:∀w,He w₀ (o9 N (n6 Pb cp) 62 (Ai N)) w→A w)(q:∀w c,Go.ConcX.Aside2 N (N+6) w c→Fw w→Fw c) :
  eA prog (ZI prog Post 0) 37 #[n6 Pb cp,.func (.func f) #[] cap] S w₀ (fun n x m=>x=.tuple #[]∧n=SE N S∧Fw m∧m.heap[N+6]?=some (.cells #[.int .u64 0,.int .u32 0] 169)):=by
 have C:bw prog true (fun _:Nat→Prop=>AtRel) DZ (ZI prog Post 0):=ZI.closed;have T:∀S,Terms AtRel (DZ S):=tM;have B:∀w g,(Instr.makeFunc (Fn.func 62) #[] #[Value.pointer (sq N)]).events prog w g=g:=fun w g=>by simp[Instr.makeFunc]
 obtain rfl:=H.size;have b:=He.start w₀;refine gz func37 rq rfl ?_;simp only[ntmps37,bZ,Nat.reduceAdd,Nat.reduceSub];refine cj C T ?_;refine aR C T ?_;simp only[ga];refine aF C rfl rq fun _ d i U=>?_;replace b:=He.rely b d;go_simp;try (unfold stored;go_simp)
 refine U _ _ ⟨?_,?_⟩
 ·intro e y;have z:=mem_listed y;simp[go_sem, *] at z
 try walk_nrm
 have j:=b.size;simp only[List.length_nil,Nat.add_zero] at j;simp only[j];replace b:=b.alloc (.cells #[n6 Pb cp] 62);simp only[List.nil_append] at b;refine bq C T ?_;refine aR C T ?_;simp only[ga,Nat.reduceAdd];refine aF C rfl rq fun _ d i U=>?_;replace b:=He.rely b d;go_simp;try (unfold stored;go_simp)
 refine U _ _ ⟨?_,?_⟩
 ·co_still (T _)
 try walk_nrm
 refine aF C rfl rq fun _ d i U=>?_;replace b:=He.rely b d;go_simp;try (unfold stored;go_simp)
 refine U _ _ ⟨?_,?_⟩
 ·co_quiet (T _)
 try walk_nrm
 have o:=Qo (Post:=Post) (f:=f) (fr:=62) (cap:=cap) (cr:=#[.pointer (sq w₀.heap.size)]) (l:=cm s) H b (by have:=yM s;omega) (fun a w _ _ h=>JZ H t u v a w h) r p q;refine jw C T rfl rq rfl rfl (by simp[Act.eval]) rfl o ?_;rintro _ _ _ ⟨rfl,h1,h2⟩;refine bq C T ?_;exact⟨.inl rfl,rfl,_,resultsC_none rq _,rfl,rfl,h1,h2⟩
end
section
variable {KT:TypeId→Prop}{N0:Nat}{M:World→Nat→Prop}{O:Nat→Prop}{R:Wq}{D:World→World→Array Event→Prop}{H:Hq→World→Prop}{p:Prop}
theorem Co.with(U:p)(Z:Co KT N0 M O R D H):Co KT N0 M O R D (fun l w=>p∧H l w) where
 env:=Z.env
 rely h r:=⟨U,Z.rely h.2 r⟩
 size h:=Z.size h.2
 own h hm:=Z.own h.2 hm
 nodup h:=Z.nodup h.2
 grown h hO:=⟨U,Z.grown h.2 hO⟩
 turn h hO hb hk:=⟨U,Z.turn h.2 hO hb hk⟩
 perm h q:=⟨U,Z.perm h.2 q⟩
 drop h:=⟨U,Z.drop h.2⟩
 past h k hs:=⟨U,Z.past h.2 k hs⟩
 call h h':=⟨U,Z.call h.2 h'⟩
end
abbrev Zx:=(Nat→Prop) × Nat
def ua (Ex:Nat→Prop)(w₀:World)(j:Zx)(l:Hq)(w:World):Prop:=((∀b,j.1 b→b<j.2)∧∀b,j.1 b→w₀.heap.size≤b)∧HL (uY j.1) (fun _=>False) j.2 Ex w₀ l w
section
variable {Post:Value→World→Prop}{Ex:Nat→Prop}{w₀ w:World}{An:bJ}
theorem wm:Cy prog eO (fun j:Zx=>j.2) (fun j=>uY j.1) (fun _ _=>False) (fun _=>AtRel) (fun j=>DZ j.1) (fun j=>ZI prog Post 0 j.1) (ua Ex w₀) where
 C:=⟨fun h r=>(ZI.closed (P:=prog) (Post:=Post)).rely h r,fun a h=>(ZI.closed (P:=prog) (Post:=Post)).step a h⟩
 T j:=tM j.1
 ne:=Cr
 Z h:=Co.with h.1 (HL.co (OU h.1.1))
end
def LQ:Option Addr→List Nat
 | some ad=>[ad.block]
 | none=>[]
def zd:Nat→Value→List Nat
 | 0,_=>[]
 | n+1,v=>match v with
  | .pointer p=>LQ p
  | .slice p _ _=>LQ p
  | .func _ x y=>x.toList.flatMap (zd n)++y.toList.flatMap (zd n)
  | .agg x=>x.toList.flatMap (zd n)
  | .tuple x=>x.toList.flatMap (zd n)
  | _=>[]
def Qm:Obj→List Nat
 | .cells cs _ _=>cs.toList.flatMap (zd 5)
 | _=>[]
def AS.reach(s:AS):Nat→List Nat→AS→AS
 | 0,_,r=>r
 | _+1,[],r=>r
 | n+1,b::l,r=>match r.get b with
  | some _=>s.reach n l r
  | none=>match s.get b with
   | some o=>if ni o then s.reach n (Qm o++l) (r.set b (some o)) else s.reach n l r
   | none=>s.reach n l r
theorem AS.j9{s:AS}:∀{n:Nat} {l:List Nat} {r:AS},(∀b o,r.get b=some o→s.get b=some o∧ni o=true)→∀b o,(s.reach n l r).get b=some o→s.get b=some o∧ni o=true
 | 0,l,r,h=>h
 | n+1,[],r,h=>h
 | n+1,c::l,r,h=>by
  unfold AS.reach;split
  ·exact AS.j9 h
  ·split
   ·next o hc =>
    split
    ·next hk =>
     refine AS.j9 fun b a U=>?_;rw[AS.aH] at U;split at U
     ·next e=>subst e;cases U;exact⟨hc,hk⟩
     ·exact h b a U
    ·exact AS.j9 h
   ·exact AS.j9 h
def AS.tidy(m:Nat)(s:AS):AS:=⟨(s.reach 5000 (List.range m) ⟨[],0⟩).hp,s.nx⟩
theorem AS.GB{m:Nat}{s:AS}{o:Obj}(h:(s.tidy m).get b=some o):s.get b=some o∧ni o=true :=
 AS.j9 (n:=5000) (l:=List.range m) (r:=⟨[],0⟩) (fun b o h=>by unfold AS.get at h;simp at h) b o h
def AS.keeps(s s':AS):Bool:=(List.range s.nx).all fun b=>(s.get b).isNone||(s'.get b).isSome
section
variable {Post:Value→World→Prop}{Ex:Nat→Prop}{w₀:World}{An:bJ}
theorem ue{S:Nat→Prop}{U:(Nat→Prop)→Value→World→Prop}{o:Zx→Value→World→Prop}(h:eA prog (ZI prog Post 0) f args S w U)(z:∀d v i,U d v i→∃m,∀a,AtRel i a→o (d,m) v a) :
  jN prog (fun _:Zx=>AtRel) (fun j=>DZ j.1) (fun j=>ZI prog Post 0 j.1) f args (S,n) w o:=by
 have⟨g,c,h1,h2,h3,t⟩:=h;refine⟨g,c,h1,h2,h3,fun b k s u y x=>t b k s u y fun d e p i q=>?_⟩;have⟨q1,q2,v,q3,q4⟩:=q;have⟨m,l⟩:=z d v i q4
 have:=x (d,m) e p i ⟨q1,q2,fun a r=>⟨v,(q3 a).1,by rw[(q3 a).2];exact(tM d).idle _,l a r⟩⟩;cases e<;>exact this
def xJ(tV:AS→AS):Prop:=∀s:AS,(tV s).nx=s.nx∧∀b o,(tV s).get b=some o→s.get b=some o∧ni o=true
theorem K6(m:Nat):xJ (AS.tidy m):=fun _=>⟨rfl,fun _ _ h=>AS.GB h⟩
open Classical in
theorem P1{e1:Nat}(h1:An 1=some (1,z1,e1)){s p:AS}(b4:1<s.nx){y:Aq}{cs:Aq}{fz:Nat × Nat}(hb:s.get bp=some (.cells cs 9 fz))(hf:prog.funcs[f]?=some aM){str:ByteArray}{rest:Vq}(ar:cs.toList=.string str::rest)(ab:aM.body=some c)(ah:aM.results.toList.isEmpty=true)(ai:iK str.data.toList 0≤20000){S:bJ}
 (b3:∀{ι:Type} {N0:ι→Nat} {M:ι→World→Nat→Prop} {O:ι→Nat→Prop} {R:ι→Wq} {D:ι→World→World→Array Event→Prop} {X:ι→Gq} {Hd:ι→Hq→World→Prop} (_:Cy prog eO N0 M O R D X Hd) (A:bJ),(∀b,s.nx+1≤b→A b=S b)→cN prog eO A R D X Hd (dl s.nx (cm str))→cN prog eO A R D X Hd pr){tV:AS→AS}(aa:xJ tV)(au:eW prog lF pr n c ((am s.nx 0::y.toList)++List.replicate (aM.ntmps-(y.size+1)) undef) ⟨(s.set bp none).hp,s.nx+1⟩=some (e,jy,p))(b6:s.nx+1≤p.nx)(a7:AS.keeps (s.set bp none) p=true)(he:e=.normal∨e=.ret)
 {l fr:Hq}{j:Zx}(u:eK prog eO An S s l)(hF:ua Ex w₀ j (l++fr) w)(hA:AR (VR S) #[.slice (sq bp) 1 c0,.func (.func f) #[] y] args')(aw:∀b,s.nx≤b→b<p.nx→S b=none) :
  jN prog (fun _:Zx=>AtRel) (fun j=>DZ j.1) (fun j=>ZI prog Post 0 j.1) 37 args' j w fun i' v' w'=>∃L V,S.le L∧(∀b,b<s.nx∨(tV p).nx≤b→L b=S b)∧eK prog eO An L (tV p) V∧ua Ex w₀ i' (V++fr) w'∧VR L (.tuple #[]) v':=by
 have aj:str.size≤20000:=by rw[iT,Nat.zero_add,Array.length_toList] at ai;exact ai
 have ae:aM.results=#[]:=by apply Array.toList_inj.1;simpa using ah
 obtain⟨a0,a1,rfl,v0,v1⟩:=Ls hA;obtain⟨Pb,zP,eP,cp,U6,rfl,_,_,_,_⟩:=v0.sl;obtain⟨p',cap,rfl,X3,SF⟩:=v1.fn;have S9:p'=#[]:=by apply Array.toList_inj.1;have:=X3.1;simp at this;exact List.eq_nil_of_length_eq_zero (by simpa using this.symm)
 subst S9;obtain⟨⟨hj,ax⟩,U⟩:=hF;have⟨kk,oP,hk,q8,Q8,Pp,Pv⟩:=u.at (fr:=fr) hb U6;obtain⟨af,rfl,Z9,⟨XO,_⟩,C⟩:=Pp;have Q:(Pb,Obj.cells af 9)∈l++fr:=mG Q8;have⟨P,XH,_⟩:=U.own _ _ Q;have Ta:w.cell? ⟨Pb,0,none⟩=some (.string str):=by
  have h0:cs[0]?=some (.string str):=by
   have:cs.toList[0]?=some (.string str):=by rw[ar];rfl
   simpa using this
  have a9:0<af.size:=by have:=(Array.getElem?_eq_some_iff.1 h0).1;omega
  have:=(C 0 _ _ h0 (gF a9)).sc rfl;simp[World.cell?,XH,this,a9]
 let a2:Nat × Obj→Prop:=fun q=>∃h m z e,(s.set bp none).get h=some m∧S h=some (q.1,z,e);have hH:xF w w.heap.size Pb j.1:=⟨rfl,.inl P.1,fun b B=>⟨lL (hj b B) U.size,fun e'=>P.2 (e'▸B)⟩⟩;have a:∀h m,(s.set bp none).get h=some m→h≠bp∧s.get h=some m:=fun h m G=>by
  rw[AS.aH] at G;split at G
  ·cases G
  ·next az=>exact⟨az,G⟩
 have al:UR w w.heap.size Pb j.1 (s.set bp none) S An (l.filter fun q=>decide (a2 q)):=by
  refine⟨rfl,⟨fun b o a4=>?_,fun b b' o o' q q' a4 Sy=>u.inj b b' o o' q q' (a b o a4).2 (a b' o' Sy).2,fun b o a4=>u.lt b o (a b o a4).2,u.an⟩,fun b o d=>?_,?_,fun b o d=>?_⟩
  ·have⟨g,z,e,o',q1,q2,q3,q4⟩:=u.live b o (a b o a4).2;exact⟨g,z,e,o',q1,List.mem_filter.2 ⟨q2,tD ⟨b,o,z,e,a4,q1⟩⟩,q3,q4⟩
  ·have⟨W,Z⟩:=List.mem_filter.1 d;have⟨h,m,z,e,q1,q2⟩:=of_decide_eq_true Z;have⟨K,m4,_⟩:=U.own b o (List.mem_append_left _ W);refine⟨K.1,fun e'=>?_,K.2,m4⟩
   have:=u.inj h bp m _ _ _ (a h m q1).2 hb q2 U6 e';exact(a h m q1).1 this
  ·have a8:=U.nodup;rw[List.map_append] at a8;exact(List.filter_sublist.map Prod.fst).nodup (List.nodup_append.1 a8).1
  ·have⟨W,Z⟩:=List.mem_filter.1 d;exact of_decide_eq_true Z
 have⟨hg,ay⟩:=wJ str aj;have E:∀h m,(s.set bp none).get h=some m→∃LG,p.get h=some LG:=fun h m G=>by
  unfold AS.keeps at a7
  have:=et a7 (i:=h) (u.lt h m (a h m G).2);rw[G] at this;simp only[Option.isNone_some,Bool.false_or] at this;exact Option.isSome_iff_exists.1 this
 have aq:=fun (Shun:Loc→Prop) (ao:∀l,Shun l→∃ad:Addr,l=.cell ad∧j.1 ad.block) =>Al (pr:=pr) (sR:=s.set bp none) (all:=cm str) (fun Y A hA hp=>b3 Y A hA hp) (val:=n6 Pb cp) (s':=p) (s1:=tV p) hH al (fun b b1 I=>aw b b1 I) (by show s.nx<p.nx;omega) (u.an _ _ h1) b4 hg ay hf ab ae SF au he E (aa p).2 (Nat.le_of_eq (aa p).1.symm) ao;have X1:=A3 (Post:=Post) (cp:=cp) (A:=kF w w.heap.size (fun _=>False)) (Fw:=Lm w w.heap.size j.1 (s.set bp none) (tV p) S (l.filter fun q=>decide (a2 q))) hH P.1 Ta aj aq (fun w1 t=>⟨t.tape,t.os,t.output,by rw[t.size];simp[o9],fun b B _=>t.old b B⟩) (fun w1 w2 r G=>by have⟨L,V,q1,q2,q3,q4,H⟩:=G;refine⟨L,V,q1,q2,q3,fun b o d=>?_,H.aside r⟩;have⟨W,Z,K,m4,m5⟩:=q4 b o d;exact⟨by rw[r.size];exact W,Z,K,m4,(r.block b Z K).trans m5⟩);refine ue (n:=j.2) X1 ?_;rintro L v w' ⟨rfl,rfl,⟨S2,V,q1,q2,q3,q4,H⟩,q6⟩;have a8:=U.nodup;rw[List.map_append,List.nodup_append] at a8;have⟨XX,SZ,J⟩:=a8;have F:∀b,mf (l.filter fun q=>decide (a2 q)) b→∃o,(b,o)∈l:=fun b ⟨o,d⟩=>⟨o,(List.mem_filter.1 d).1⟩;have k:w.heap.size≤w'.heap.size:=by have:=H.size;omega
 have ak:HL (uY (SE w.heap.size j.1)) (fun _=>False) (w.heap.size+7) Ex w₀ (V++fr) w':=by
  refine⟨⟨H.tape.trans U.kept.tape,H.os.trans U.kept.os,H.output.trans U.kept.output,lT U.kept.grow k,fun b N ag=>?_,fun b N=>⟨lL N.1 (lT U.kept.grow k),N.2⟩,fun b z=>z.elim⟩,by have:=H.size;omega,fun b o d=>?_,?_⟩
  ·have a6:b<w.heap.size:=lL N.1 U.kept.grow;have T:¬mf (l.filter fun q=>decide (a2 q)) b:=fun z=>by
    have⟨o,d⟩:=F b z;rcases(U.own b o (List.mem_append_left _ d)).2.2 with z|z
    ·exact ag z
    ·have:=N.1;omega
   exact(H.old b a6 T).trans (U.kept.block b ⟨N.1,fun z=>N.2 (.inl z)⟩ ag)
  ·rcases List.mem_append.1 d with d|d
   ·have⟨W,Z,K,m4,m5⟩:=q4 b o d;by_cases a6:b<w.heap.size
    ·have⟨o2,a5⟩:=F b (m4 a6);have⟨r1,r2,r3⟩:=U.own b o2 (List.mem_append_left _ a5);exact⟨⟨W,fun z=>z.elim r1.2 K⟩,m5,r3⟩
    ·refine⟨⟨W,fun z=>z.elim (fun z=>?_) K⟩,m5,.inr (by have:=U.kept.grow;omega)⟩
     have:=hj b z
     have:=U.size;omega
   ·have⟨r1,r2,r3⟩:=U.own b o (List.mem_append_right _ d);have T:¬mf (l.filter fun q=>decide (a2 q)) b:=fun z=>by have⟨o2,a5⟩:=F b z;exact J b (List.mem_map.2 ⟨_,a5,rfl⟩) b (List.mem_map.2 ⟨_,d,rfl⟩) rfl
    refine⟨⟨lL r1.1 k,fun z=>z.elim r1.2 (fun z=>?_)⟩,(H.old b r1.1 T).trans r2,r3⟩
    have:=r1.1;omega
  ·rw[List.map_append,List.nodup_append];refine⟨q3,SZ,fun x hx y hy b5=>?_⟩;subst b5;obtain⟨⟨b,o⟩,d,rfl⟩:=List.mem_map.1 hx;obtain⟨⟨I,o2⟩,a5,e2⟩:=List.mem_map.1 hy;have e2:I=b:=e2;subst e2;have a6:=(U.own I o2 (List.mem_append_right _ a5)).1.1;have⟨o3,XR⟩:=F I ((q4 I o d).2.2.2.1 a6);exact J I (List.mem_map.2 ⟨_,XR,rfl⟩) I (List.mem_map.2 ⟨_,a5,rfl⟩) rfl
 refine⟨w.heap.size+7,fun aE r=>⟨S2,V,q1.an,q2,⟨q1.live,q1.inj,q1.lt,bJ.le_trans u.an q1.an⟩,⟨⟨fun b z=>?_,fun b z=>?_⟩,ak.rely (OU (KT:=eO) (fun b z=>?_)) r⟩,?_⟩⟩
 ·rcases z with z|z
  ·have:=hj b z;have:=U.size;omega
  ·omega
 ·rcases z with z|z
  ·exact ax b z
  ·have:=U.kept.grow;omega
 ·rcases z with z|z
  ·have:=hj b z;have:=U.size;omega
  ·omega
 ·exact VR.sY AR.nil
end
end
section
open Go.Conc Go.RowKit Go.Lib
def nu:ByteArray:=⟨#[60,116,105,116,108,101,62,65,32,38,97,109,112,59,32,66,60,47,116,105,116,108,101,62,60,117,108,62,60,108,105,62,111,110,101,60,108,105,62,60,97,32,104,114,101,102,61,47,120,62,116,119,111,60,47,97,62,60,47,117,108,62]⟩
def L0:Iq:=[60,116,105,116,108,101,62,65,32,38,97,109,112,59,32,66,60,47,116,105,116,108,101,62,60,117,108,62,60,108,105,62,111,110,101,60,108,105,62,60,97,32,104,114,101,102,61,47,120,62,116,119,111,60,47,97,62,60,47,117,108,62]
def kB:ByteArray:=⟨#[]⟩
def xj:ByteArray:=⟨#[116,105,116,108,101]⟩
def CZ:ByteArray:=⟨#[108,105]⟩
def E1:ByteArray:=⟨#[117,108]⟩
def E2:ByteArray:=⟨#[97]⟩
def I8:ByteArray:=⟨#[60,47,116,105,116,108,101]⟩
def N1:ByteArray:=⟨#[104,114,101,102]⟩
def Oo:ByteArray:=⟨#[116,101,120,116,97,114,101,97]⟩
def Oq:ByteArray:=⟨#[47,120]⟩
def QG:ByteArray:=⟨#[115,99,114,105,112,116]⟩
def QH:ByteArray:=⟨#[115,116,121,108,101]⟩
def UN:ByteArray:=⟨#[65,32,38,32,66]⟩
def UO:ByteArray:=⟨#[111,110,101]⟩
def UP:ByteArray:=⟨#[116,119,111]⟩
def wt(k:Int)(a b:ByteArray):Option Obj:=some (.cells #[.int .i64 k,.string a,.string b,.slice none 0 0,.bool false] 60)
def wg(a:ByteArray):Option Obj:=some (.cells #[.string a,.slice none 0 0,.bool false] 262)
def wc:Option Obj:=some (.cells #[.pointer none,.slice none 0 0] 119)
def wi(a:ByteArray)(n:Nat):Option Obj:=some (.stringIter a n)
def wp:Option Obj:=some (.cells #[.pointer (some ⟨38,0,none⟩)] 196)
def wn(a b:ByteArray):Option Obj:=some (.cells #[.string a,.string b] 9)
def wk(k:Int)(a b:ByteArray)(v:Value:=.slice none 0 0):Aq:=#[.int .i64 k,.string a,.string b,v,.bool false]
def sA:AS:=⟨[[none,some (.cells db.toArray 335)]],32⟩
def sB:AS:=⟨[[none,some (.cells db.toArray 335)],[],[some (.cells #[.slice (some ⟨35,0,none⟩) 1 1,.int .i64 62,.bool false] 80),none,some (.cells #[.string nu] 9),some (.cells #[.string nu] 9 (1,1))]],36⟩
def sC:AS:=sB.add (.cells #[.slice none 0 0] 82)
def sD:AS:=⟨(sC.set 35 none).hp,38⟩
def sE:AS:=⟨[[none,some (.cells db.toArray 335)],[],[some (.cells #[.slice (some ⟨35,0,none⟩) 1 1,.int .i64 62,.bool false] 80),none,some (.cells #[.string nu] 9),none,some (.cells #[.slice none 0 0] 82),none,some (.cells #[.pointer (some ⟨37,0,none⟩),.int .i64 62,.pointer none,.slice none 0 0,.slice (some ⟨164,0,none⟩) 11 11] 121),wp,wg xj,wc,wi xj 5,wg xj,wt 2 kB xj,wt 2 kB xj,none,wn QG QH],[wn xj Oo,wi I8 1,wi I8 1,wi I8 1,wi I8 1,wi I8 1,wi I8 1,wi I8 1,wi I8 1,wi I8 1,wi I8 7,wn xj Oo,some (.cells #[.pointer (some ⟨60,0,none⟩),.slice (some ⟨64,0,none⟩) 5 5] 119),none,some (.cells #[.int .u8 38] 5),none],[none,none,wp,wp,wg xj,wc,wi xj 5,wg xj,wt 3 kB xj,wt 1 UN kB,none,wt 3 kB xj,none,wp,wg E1,wc],[wi E1 2,wg E1,wt 2 kB E1,wt 2 kB E1,none,wn QG QH,wn xj Oo,wp,wg CZ,wc,wi CZ 2,wg CZ,wt 2 kB CZ,wt 2 kB CZ,none,wn QG QH],[wn xj Oo,wp,wp,wp,wp,wp,some (.cells #[.pointer (some ⟨102,0,none⟩),.slice (some ⟨103,0,none⟩) 3 3] 119),none,none,wp,wg CZ,wc,wi CZ 2,wg CZ,wt 2 kB CZ,wt 1 UO kB],[none,wt 2 kB CZ,none,wn QG QH,wn xj Oo,wp,some (.cells #[.string E2,.slice (some ⟨129,0,none⟩) 1 1,.bool false] 262),wc,wi E2 1,some (.cells #[.string N1,.string Oq] 47),wc,wi N1 4,some (.cells #[.string N1,.string Oq] 47),some (.cells #[.pointer (some ⟨125,0,none⟩),.slice (some ⟨126,0,none⟩) 2 2] 119),none,some (.cells #[.string N1,.string Oq] 47)],[some (.cells #[.string N1,.string Oq] 47),some (.cells #[.string N1,.string Oq] 47 (1,1)),some (.cells #[.string E2,.slice (some ⟨129,0,none⟩) 1 1,.bool false] 262),some (.cells #[.int .i64 2,.string kB,.string E2,.slice (some ⟨129,0,none⟩) 1 1,.bool false] 60),some (.cells #[.int .i64 2,.string kB,.string E2,.slice (some ⟨129,0,none⟩) 1 1,.bool false] 60),none,wn QG QH,wn xj Oo,wp,wp,wp,wp,wp,wp,some (.cells #[.pointer (some ⟨142,0,none⟩),.slice (some ⟨143,0,none⟩) 3 3] 119),none],[none,wp,wp,wg E2,wc,wi E2 1,wg E2,wt 3 kB E2,wt 1 UP kB,none,wt 3 kB E2,none,wp,wp,wg E1,wc],[wi E1 2,wg E1,wt 3 kB E1,wt 3 kB E1,some (.cells (wk 2 kB xj++wk 1 UN kB++wk 3 kB xj++wk 2 kB E1++wk 2 kB CZ++wk 1 UO kB++wk 2 kB CZ++wk 2 kB E2 (.slice (some ⟨129,0,none⟩) 1 1)++wk 1 UP kB++wk 3 kB E2++wk 3 kB E1) 60 (1,1))]],165⟩
def sG:AS:=⟨[[none,some (.cells db.toArray 335)],[],[some (.cells #[.slice (some ⟨35,0,none⟩) 1 1,.int .i64 62,.bool false] 80),none,some (.cells #[.string nu] 9),none,some (.cells #[.slice (some ⟨552,0,none⟩) 11 11] 82)],[],[],[],[],[],[none,some (.cells #[.string N1,.string Oq] 47 (1,1))],[],[],[],[],[],[],[],[],[],[],[],[],[],[],[],[],[],[],[],[],[],[],[],[],[],[none,none,none,none,none,none,none,none,some (.cells #[.int .i64 1,.int .i64 (-1),.string ⟨#[104,116,109,108]⟩,.string kB,.slice none 0 0,.int .i64 1,.int .i64 0,.string ⟨#[104,101,97,100]⟩,.string kB,.slice none 0 0,.int .i64 1,.int .i64 1,.string xj,.string kB,.slice none 0 0,.int .i64 2,.int .i64 2,.string kB,.string UN,.slice none 0 0,.int .i64 1,.int .i64 0,.string ⟨#[98,111,100,121]⟩,.string kB,.slice none 0 0,.int .i64 1,.int .i64 4,.string E1,.string kB,.slice none 0 0,.int .i64 1,.int .i64 5,.string CZ,.string kB,.slice none 0 0,.int .i64 2,.int .i64 6,.string kB,.string UO,.slice none 0 0,.int .i64 1,.int .i64 5,.string CZ,.string kB,.slice none 0 0,.int .i64 1,.int .i64 8,.string E2,.string kB,.slice (some ⟨129,0,none⟩) 1 1,.int .i64 2,.int .i64 9,.string kB,.string UP,.slice none 0 0] 44 (1,1))]],757⟩
def sH:AS:=sG.set 32 (some (.cells #[.slice none 0 0,.int .i64 0,.bool true] 80))
def Lx(P:Program)(r:Option (Value × AS)):Bool:=match r with
 | some (v,s)=>match iS P 38 (am 36 0) v s with
  | some a=>AS.keeps (sC.set 35 none) a&&KL (a.tidy 37) sG
  | none=>false
 | none=>false
def Q0 (r:Option (Exit × TL × AS)):Bool:=match r with
 | some (.ret,a,s)=>m9 5 (a.getD 0 undef) (.bool true)&&PZ (s.get 1) (some (.cells db.toArray 335))
 | _=>false
def J1:cm nu=L0:=kq
end
section
open Go.Conc Go.RowKit Go.Lib Tryz
variable {b bp c0 k n r0 z1:Nat}{v x:Value}{cs:Aq}{t:TypeId}{fz:Nat × Nat}{c:Code}{a0 aA:TL}{pr oj:Prim}
def ri (n:Nat):Value→Bool
 | .pointer (some ⟨b,_,none⟩)=>Nat.blt b n
 | .slice (some ⟨b,_,none⟩) _ _=>Nat.blt b n
 | v=>dW v
def Re (n:Nat):Value→Bool
 | .func _ x y=>x.toList.all (ri n)&&y.toList.all (ri n)
 | v=>ri n v
def nK{a:Nat}(h:Nat.blt a b=true):a<b:=by simpa[Nat.blt_eq] using h
def VR.nl{S S':bJ}(U:ri n x=true)(h:∀b,b<n→S b=S' b)(a:VR S x v):VR S' x v:=by
 unfold ri at U;split at U
 ·obtain⟨g,z,e,h1,rfl⟩:=a.ptr;exact VR.gw ((h _ (nK U)).symm.trans h1)
 ·have⟨d,a⟩:=a;cases d with
  | zero=>exact a.elim
  | succ d =>obtain⟨g,z,e,c,h1,h2⟩:=a;exact⟨1,g,z,e,c,(h _ (nK U)).symm.trans h1,h2⟩
 ·rw[a.sc U];exact VR.dE U
def OR.nl{S S':bJ}{z:Nat}{o':Obj}(a:cs.toList.all (ri n)=true)(h:∀b,b<n→S b=S' b)(d:OR S z (.cells cs t fz) o'):OR S' z (.cells cs t fz) o':=by rw[aT] at a;have⟨U,f,g,j,k⟩:=d;exact⟨U,f,g,j,fun i x y c e=>(k i x y c e).nl (a x (by rw[Array.mem_toList_iff];exact Array.mem_of_getElem? c)) h⟩
def VD.nl{S S':bJ}{d:Nat}(U:ri n x=true)(h:∀b,b<n→S b=S' b)(a:VD S d x v):VD S' d x v:=by
 cases d with
 | zero=>exact a.elim
 | succ d =>
  unfold ri at U;split at U
  ·have⟨g,z,e,h1,h2⟩:=a;exact⟨g,z,e,(h _ (nK U)).symm.trans h1,h2⟩
  ·have⟨g,z,e,c,h1,h2⟩:=a;exact⟨g,z,e,c,(h _ (nK U)).symm.trans h1,h2⟩
  ·have:=VR.dE (S:=S') U;have e:=VR.sc U ⟨d+1,a⟩;subst e;have⟨i,f⟩:=this;unfold VD;split<;>first|exact⟨U,rfl⟩|(simp[dW] at U)
def VR.Md{S S':bJ}(U:Re n x=true)(h:∀b,b<n→S b=S' b)(c:VR S x v):VR S' x v:=by
 unfold Re at U;split at U
 ·have⟨d,c⟩:=c;cases d with
  | zero=>exact c.elim
  | succ d =>
   have⟨g,j,h1,h2,h3⟩:=c;rw[Bool.and_eq_true,aT,aT] at U;refine⟨d+1,g,j,h1,⟨h2.1,fun i a b e f=>(h2.2 i a b e f).nl (U.1 a ?_) h⟩,⟨h3.1,fun i a b e f=>(h3.2 i a b e f).nl (U.2 a ?_) h⟩⟩;iterate 2
    ·rw[Array.mem_toList_iff];exact Array.mem_of_getElem? e
 ·exact c.nl U h
def AS.EU(s:AS):Bool:=(List.range s.nx).all fun b=>match s.get b with
 | some (.cells cs _ _)=>cs.toList.all (ri s.nx)
 | _=>true
section
variable {ι:Type}{P:Program}{KT:TypeId→Prop}{An:bJ}{N0:ι→Nat}{M:ι→World→Nat→Prop}{O:ι→Nat→Prop}{R:ι→Wq}{D:ι→World→World→Array Event→Prop}{X:ι→Gq}{Hd:ι→Hq→World→Prop}{pr:Prim}{kt:TypeId→Bool}{f:FuncId}{args:Aq}{s:AS}{v:Value}
def Sound.Mj(Y:Cy P KT N0 M O R D X Hd){c:Nat}{s0 s1:AS}(a4:∀b,k≤b→An b=none)(hk:k≤s.nx)(W:cs.toList.all (ri s.nx)=true)(a8:∀b,s0.get b=if b=c then some (.cells cs t fz) else none)(a6:s0.nx=s.nx)(a9:s1.get c=some (.cells cs t fz))(I:s.get c=some (.cells cs t fz))(ha:args.toList.all (ri s.nx)=true)(hv:dW v=true)(h:Sound P KT An R D X Hd f args s0 v s1):Sound P KT An R D X Hd f args s v s:=by
 intro S l C i w n d hF hA aa;rw[aT] at ha;have⟨g,z,e,m,q1,q2,q3,q4⟩:=d.live c _ I;have p:=d.lt c _ I;let T:bJ:=fun b=>if b<s.nx then S b else none;have A:∀b,b<s.nx→S b=T b:=fun b U=>by show S b=if b<s.nx then S b else none;rw[ip U]
 have⟨r,u,hl⟩:=List.append_of_mem q2;have F:(r++(g,m)::u).Perm ([(g,m)]++(r++u)):=List.perm_middle;have K:Hd i ([(g,m)]++((r++u)++C)) w:=(Y.Z hF).perm hF (by
  rw[hl,← List.append_assoc];exact(F.append_right C).symm);have H:∀b o,s0.get b=some o→b=c∧o=.cells cs t fz:=fun b o U=>by
  rw[a8] at U;split at U
  ·next e=>cases U;exact⟨e,rfl⟩
  ·cases U
 have a3:eK P KT An T s0 [(g,m)]:=by
  refine⟨fun b o U=>?_,fun b b' o m x x' U N _ _ _=>by rw[(H b o U).1,(H b' m N).1],fun b o U=>by rw[(H b o U).1,a6];exact p,fun b x B=>?_⟩
  ·obtain⟨rfl,rfl⟩:=H b o U;exact⟨g,z,e,m,(A _ p).symm.trans q1,iq,q3.nl W A,q4⟩
  ·by_cases U:b<s.nx
   ·rw[← A b U];exact d.an b x B
   ·rw[a4 b oq] at B;cases B
 refine(h T [(g,m)] ((r++u)++C) i w n a3 K ⟨hA.1,fun j x y B hy=>(hA.2 j x y B hy).nl (ha x (by rw[Array.mem_toList_iff];exact Array.mem_of_getElem? B)) A⟩ fun b U _=>?_).mono ?_
 ·show(if b<s.nx then S b else none)=none;rw[iw oq]
 ·rintro i' v' w' ⟨S',l',r1,r2,r3,r4,r5⟩;have⟨g2,z2,e2,G,p1,p2,p3,p4⟩:=r3.live c _ a9;have he:(g2,z2,e2)=(g,z,e):=by have:=r1 _ _ ((A _ p).symm.trans q1);rw[p1] at this;cases this;rfl
  cases he;have⟨Q,V,a5⟩:=List.append_of_mem p2;have q:(Q++(g,G)::V).Perm ((Q++V)++[(g,G)]):=List.perm_middle.trans (List.perm_append_singleton _ _).symm;have L:Hd i' ((Q++V)++(([(g,G)]++(r++u))++C)) w':=(Y.Z r4).perm r4 (by
   rw[a5]
   have:=(q.append_right ((r++u)++C)).symm;simpa[List.append_assoc] using this);refine⟨S,[(g,G)]++(r++u),bJ.le_refl S,fun _ _=>rfl,⟨fun b o U=>?_,d.inj,d.lt,d.an⟩,l8 Y L,?_⟩
  ·have⟨gb,zb,eb,ob,J,a,u3,u4⟩:=d.live b o U;by_cases E:b=c
   ·subst E;rw[I] at U;cases U;rw[q1] at J;cases J;exact⟨g,z,e,G,q1,iq,p3.nl W fun b U=>by rw[A b U];exact r2 b (.inl oq),u4⟩
   ·rw[hl] at a;have a7:gb≠g:=fun e'=>E (d.inj b c o _ _ _ U I J q1 e');refine⟨gb,zb,eb,ob,J,?_,u3,u4⟩;rcases List.mem_append.1 a with a|a
    ·simp[a]
    ·rcases List.mem_cons.1 a with a|a
     ·cases a;exact absurd rfl a7
     ·simp[a]
  ·rw[r5.sc hv];exact VR.dE hv
def Sound.cut{s':AS}(Y:∀b,s.nx≤b→An b=none)(M:s.EU=true)(L:args.toList.all (Re s.nx)=true)(a9:s.nx≤s'.nx)
 (h:∀S l E i w c,(∀b,s.nx≤b→S b=none)→eK P KT An S s l→Hd i (l++E) w→AR (VR S) args c →
   jN P R D X f c i w fun N Q V=>∃k F,S.le k∧(∀b,b<s.nx∨s'.nx≤b→k b=S b)∧eK P KT An k s' F∧Hd N (F++E) V∧VR k v Q):Sound P KT An R D X Hd f args s v s':=by
 intro S l E i w c q hF K Z;rw[aT] at L;let T:bJ:=fun b=>if b<s.nx then S b else none;have r:∀b,b<s.nx→S b=T b:=fun b a=>by show S b=if b<s.nx then S b else none;rw[ip a]
 have I:∀b,s.nx≤b→T b=none:=fun b a=>by show(if b<s.nx then S b else none)=none;rw[iw oq]
 unfold AS.EU at M;have W:eK P KT An T s l:=by
  refine⟨fun b o a=>?_,fun b B o n x G a p d u=>?_,q.lt,fun b x d=>?_⟩
  ·have⟨g,z,e,n,q1,q2,q3,q4⟩:=q.live b o a;refine⟨g,z,e,n,(r _ (q.lt b o a)).symm.trans q1,q2,?_,q4⟩
   have:=et M (i:=b) (q.lt b o a);rw[a] at this;cases o with
   | cells cs t fz=>exact q3.nl this r
   | _=>exact q3
  ·exact q.inj b B o n x G a p ((r _ (q.lt b o a)).trans d) ((r _ (q.lt B n p)).trans u)
  ·by_cases a:b<s.nx
   ·rw[← r b a];exact q.an b x d
   ·rw[Y b oq] at d;cases d
 refine(h T l E i w c I W hF ⟨K.1,fun j x y d hy=>(K.2 j x y d hy).Md (L x (by rw[Array.mem_toList_iff];exact Array.mem_of_getElem? d)) r⟩).mono ?_;rintro N Q V ⟨k,F,r1,O,A,r4,r5⟩;let U:bJ:=fun b=>if b<s'.nx then k b else S b;have m:∀b,b<s'.nx→U b=k b:=fun b a=>by show(if b<s'.nx then k b else S b)=k b;rw[ip a]
 have J:∀b,¬b<s'.nx→U b=S b:=fun b a=>by show(if b<s'.nx then k b else S b)=S b;rw[iw a]
 have C:k.le U:=fun b x d=>by
  by_cases a:b<s'.nx
  ·rw[m b a];exact d
  ·rw[O b (.inr oq),I b oq] at d;cases d
 have H:∀b,b<s.nx∨s'.nx≤b→U b=S b:=fun b a=>by
  by_cases p:b<s'.nx
  ·rw[m b p,O b (.inl oq),← r b oq]
  ·exact J b p
 refine⟨U,F,fun b x d=>?_,H,⟨fun b o a=>?_,fun b B o n x G a p d u=>?_,A.lt,bJ.le_trans A.an C⟩,r4,r5.mono C⟩
 ·by_cases h1:b<s.nx
  ·rw[H b (.inl h1)];exact d
  ·by_cases h2:b<s'.nx
   ·rw[Z b oq h2] at d;cases d
   ·rw[J b h2];exact d
 ·have⟨g,z,e,n,q1,q2,q3,q4⟩:=A.live b o a;exact⟨g,z,e,n,C _ _ q1,q2,q3.mono C,q4⟩
 ·exact A.inj b B o n x G a p ((m _ (A.lt b o a)).symm.trans d) ((m _ (A.lt B n p)).symm.trans u)
def kp(f:FuncId)(c:Aq→AS→Option Value)(b:Aq→AS→Option (Value × AS))(pr:Prim):Prim:=fun g=>if g.beq f then some fun a s=>match c a s with
 | some v=>some (v,s)
 | none=>b a s
 else pr g
def cN.forget(Y : Cy P KT N0 M O R D X Hd)(hm : P.follows .mixedOrders = true)(AG : ∀ t, kt t = false → ¬ KT t)(uU : ∀ (f : FuncId) (aM : Func), P.funcs[f]? = some aM → (aM.name == "runtime.NumGoroutine") = false){m : Nat}(JJ : ∀ b, k ≤ b → An b = none)(hp : cN P KT An R D X Hd pr){ok : Array Value → AS → Option Value}
 (Fj:∀args s v,ok args s=some v→dW v=true∧k≤s.nx∧args.toList.all (ri s.nx)=true∧∃c cs t fz,s.get c=some (.cells cs t fz)∧cs.toList.all (ri s.nx)=true∧∀s0:AS,s0.nx=s.nx→s0.get c=some (.cells cs t fz)→∃s1,EF P kt pr f args s0 v s1∧s1.get c=some (.cells cs t fz)):cN P KT An R D X Hd (kp f ok (bG P kt pr m f) pr):=by
 constructor
 ·intro g h args s v s' hf hh;unfold kp at hf;split at hf
  ·cases hf;simp only at hh;split at hh
   ·cases hh; exact Nat.le_refl _
   ·exact(yx (P:=P) (kt:=kt) hp.nx m).2 _ _ _ _ _ hh
  ·exact hp.nx g h args s v s' hf hh
 ·intro g h args s v s' hf hh;unfold kp at hf;split at hf
  ·next he =>
   have he:=Nat.eq_of_beq_eq_true he;subst he;cases hf;simp only at hh;split at hh
   ·next v' hv =>
    cases hh;have⟨h1,h2,h3,c,cs,t,fz,h4,h5,h6⟩:=Fj _ _ _ hv;have hg:∀b,((⟨[],s.nx⟩:AS).set c (some (.cells cs t fz))).get b=if b=c then some (.cells cs t fz) else none:=fun b=>by
     rw[AS.aH];split
     ·rfl
     ·unfold AS.get; simp
    obtain⟨s1,⟨n,h7⟩,h8⟩:=h6 ((⟨[],s.nx⟩:AS).set c (some (.cells cs t fz))) rfl (by rw[hg,ip rfl]);exact Sound.Mj Y JJ h2 h5 hg rfl h8 h4 h3 h1 ((gR Y hm AG hp uU n).2 _ _ _ _ _ h7)
   ·exact(gR Y hm AG hp uU m).2 _ _ _ _ _ hh
  ·exact hp.sound g h args s v s' hf hh
end
section
variable {Post:Value→World→Prop}{Ex:Nat→Prop}{w₀:World}{An:bJ}
def zZ (rn:Nat)(oj:Prim)(all:Iq):Prop:=(∀f g args s v s',oj f=some g→g args s=some (v,s')→s.nx≤s'.nx)∧∀{ι:Type} {N0:ι→Nat} {M:ι→World→Nat→Prop} {O:ι→Nat→Prop} {R:ι→Wq} {D:ι→World→World→Array Event→Prop} {X:ι→Gq} {Hd:ι→Hq→World→Prop} (_:Cy prog eO N0 M O R D X Hd) (A:bJ),(∀b,rn+1≤b→A b=none)→cN prog eO A R D X Hd (dl rn all)→cN prog eO A R D X Hd oj
end
def RD (r:Nat→Nat)(n:Nat):Nat→Value→Value→Prop
 | 0,_,_=>False
 | d+1,x,y=>match x with
  | .pointer (some ⟨b,off,none⟩)=>b<n∧y=.pointer (some ⟨r b,off,none⟩)
  | .slice (some ⟨b,off,sp⟩) m c=>b<n∧y=.slice (some ⟨r b,off,sp⟩) m c
  | .func f p q=>∃p' q',y=.func f p' q'∧AR (RD r n d) p p'∧AR (RD r n d) q q'
  | .agg p=>∃p',y=.agg p'∧AR (RD r n d) p p'
  | .tuple p=>∃p',y=.tuple p'∧AR (RD r n d) p p'
  | .map k=>y=.map k
  | x=>dW x=true∧y=x
def bJ.xv(S:bJ)(r:Nat→Nat)(n:Nat):bJ:=fun b=>if b<n then S (r b) else none
section
variable {S:bJ}{r:Nat→Nat}{n:Nat}
def bJ.n8(h:b<n):S.xv r n b=S (r b):=ip h
def AR.comp{U d e:Value→Value→Prop}{a b c:Aq}(h:AR U a b)(f:AR d b c)(k:∀x y z,U x y→d y z→e x z):AR e a c:=⟨h.1.trans f.1,fun i x z j l=>by
 have g:i<b.size:=by rw[← h.1];exact(Array.getElem?_eq_some_iff.1 j).1
 exact k x _ z (h.2 i x _ j (gF g)) (f.2 i _ z (gF g) l)⟩
def VD.xv:∀{d:Nat} {x y v:Value} {k:Nat},RD r n d x y→VD S k y v→VD (S.xv r n) k x v
 | 0,x,y,v,k,h,_=>h.elim
 | d+1,x,y,v,0,_,h=>h.elim
 | d+1,x,y,v,k+1,h,U=>by
  unfold RD at h;split at h
  ·next b l =>obtain⟨i,rfl⟩:=h;have⟨g,z,e,h1,h2⟩:=U;exact⟨g,z,e,by rw[bJ.n8 i];exact h1,h2⟩
  ·next b l sp m c =>
   obtain⟨i,rfl⟩:=h;cases sp with
   | none =>obtain⟨g,z,e,j,h1,h2⟩:=U;exact⟨g,z,e,j,by rw[bJ.n8 i];exact h1,h2⟩
   | some q =>obtain⟨g,z,e,s,j,h1,h2⟩:=U;exact⟨g,z,e,s,j,by rw[bJ.n8 i];exact h1,h2⟩
  ·obtain⟨o,t,rfl,h1,h2⟩:=h;have⟨p2,q2,h3,f,p⟩:=U;exact⟨p2,q2,h3,h1.comp f fun _ _ _ a b=>VD.xv a b,h2.comp p fun _ _ _ a b=>VD.xv a b⟩
  ·obtain⟨o,rfl,h1⟩:=h;have⟨p2,h3,f⟩:=U;exact⟨p2,h3,h1.comp f fun _ _ _ a b=>VD.xv a b⟩
  ·obtain⟨o,rfl,h1⟩:=h;have⟨p2,h3,f⟩:=U;exact⟨p2,h3,h1.comp f fun _ _ _ a b=>VD.xv a b⟩
  ·next m =>
   subst h;cases m with
   | none=>exact U
   | some m=>exact U
  ·obtain⟨h1,rfl⟩:=h;have e:=VR.sc h1 ⟨k+1,U⟩;subst e;unfold VD;split<;>first|exact⟨h1,rfl⟩|(simp[dW] at h1)
def RV (r:Nat→Nat)(n:Nat)(x y:Value):Prop:=∃d,RD r n d x y
def VR.xv{y:Value}(h:RV r n x y)(U:VR S y v):VR (S.xv r n) x v:=by have⟨d,h⟩:=h;have⟨k,U⟩:=U;exact⟨k,VD.xv h U⟩
def wQ (n:Nat):Nat→Value→Bool
 | 0,_=>false
 | d+1,x=>match x with
  | .pointer (some ⟨b,_,none⟩)=>Nat.blt b n
  | .slice (some ⟨b,_,_⟩) _ _=>Nat.blt b n
  | .func _ p q=>p.toList.all (wQ n d)&&q.toList.all (wQ n d)
  | .agg p=>p.toList.all (wQ n d)
  | .tuple p=>p.toList.all (wQ n d)
  | .map _=>true
  | x=>dW x
def AR.same{R:Value→Value→Prop}{p:Aq}(h:∀x∈p.toList,R x x):AR R p p:=⟨rfl,fun i x y U a=>by rw[U] at a;cases a;exact h x (by rw[Array.mem_toList_iff];exact Array.mem_of_getElem? U)⟩
def RD.id(hr:∀b,b<n→r b=b):∀{d:Nat} {x:Value},wQ n d x=true→RD r n d x x
 | 0,x,h=>by simp[wQ] at h
 | d+1,x,h=>by
  unfold wQ at h;split at h;iterate 2
   ·exact⟨nK h,by rw[hr _ (nK h)]⟩
  ·rw[Bool.and_eq_true,aT,aT] at h;exact⟨_,_,rfl,AR.same fun x U=>RD.id hr (h.1 x U),AR.same fun x U=>RD.id hr (h.2 x U)⟩
  iterate 2
   ·rw[aT] at h;exact⟨_,rfl,AR.same fun x U=>RD.id hr (h x U)⟩
  ·rfl
  ·exact(by unfold RD;split<;>first|exact⟨h,rfl⟩|(simp[dW] at h))
structure US(r:Nat→Nat)(s0 s:AS):Prop where
 live:∀b o,s0.get b=some o→b<s0.nx∧∃cs lE t fz,o=.cells cs t fz∧s.get (r b)=some (.cells lE t fz)∧AR (RV r s0.nx) cs lE
 inj:∀b b' o o',s0.get b=some o→s0.get b'=some o'→r b=r b'→b=b'
variable {P:Program}{KT:TypeId→Prop}{An:bJ}{s s0:AS}{l:Hq}
def eK.xv(h:eK P KT An S s l)(a:US r s0 s)(m:∀b x,An b=some x→b<s0.nx∧r b=b):eK P KT An (S.xv r s0.nx) s0 l where
 live b o hb:=by
  obtain⟨d,p,f,t,v,rfl,h1,h2⟩:=a.live b o hb
  have⟨g,z,e,c,q1,q2,q3,q4⟩:=h.live _ _ h1
  have⟨q,A,B,C,D⟩:=q3
  refine⟨g,z,e,c,by rw[bJ.n8 d];exact q1,q2,⟨q,A,B,by rw[h2.1];exact C,fun i x y U w=>?_⟩,fun E G F u=>?_⟩
  ·
   have j:i<f.size:=by rw[← h2.1];exact(Array.getElem?_eq_some_iff.1 U).1
   exact VR.xv (h2.2 i x _ U (gF j)) (D i _ y (gF j) w)
  ·
   cases u
   exact q4 _ _ _ rfl
 inj b b' o c x x' hb pV U yI Pz:=by
  have⟨d,p,f,t,v,_,h1,_⟩:=a.live b o hb
  have⟨n,_,_,_,_,_,k,_⟩:=a.live b' c pV
  rw[bJ.n8 d] at U
  rw[bJ.n8 n] at yI
  exact a.inj b b' o c hb pV (h.inj _ _ _ _ x x' h1 k U yI Pz)
 lt b o hb:=(a.live b o hb).1
 an b x U:=by
  have⟨h1,h2⟩:=m b x U
  rw[bJ.n8 h1,h2]
  exact h.an b x U
end
section
variable {ι:Type}{P:Program}{KT:TypeId→Prop}{An:bJ}{N0:ι→Nat}{M:ι→World→Nat→Prop}{O:ι→Nat→Prop}{R:ι→Wq}{D:ι→World→World→Array Event→Prop}{X:ι→Gq}{Hd:ι→Hq→World→Prop}{pr:Prim}{kt:TypeId→Bool}{r:Nat→Nat}
def WI.xv{s s0:AS}{Q:Exit→TL→AS→Prop}(p:US r s0 s)(n:AR (RV r s0.nx) a0.toArray aA.toArray)(U:∀b x,An b=some x→b<s0.nx∧r b=b)(h:WI P KT An X Hd c a0 s0 Q):WI P KT An X Hd c aA s Q:=by intro e S l f i w a d m j g o q k;exact h e (S.xv r s0.nx) l f i w a d (m.xv p U) j (n.comp g fun _ _ _=>VR.xv) o (fun b t=>iw oq) k
def WI.back{s s0:AS}{Q:Exit→TL→AS→Prop}(k:∀b o,s0.get b=some o→b<s0.nx∧s.get b=some o∧∃a t f,o=.cells a t f∧a.toList.all (wQ s0.nx 5)=true)(i:aA.all (wQ s0.nx 5)=true)(g:∀b x,An b=some x→b<s0.nx)(h:WI P KT An X Hd c aA s0 Q):WI P KT An X Hd c aA s Q:=by have U:∀b,b<s0.nx→(fun b:Nat=>b) b=b:=fun _ _=>rfl;refine WI.xv (r:=fun b=>b) ⟨fun b o j=>?_,fun b l o m _ _ e=>e⟩ (AR.same fun x d=>⟨5,RD.id U (aT.1 i x (by simpa using d))⟩) (fun b x d=>⟨g b x d,rfl⟩) h;obtain⟨h1,h2,a,t,f,rfl,h3⟩:=k b o j;exact⟨h1,a,a,t,f,rfl,h2,AR.same fun x d=>⟨5,RD.id U (aT.1 h3 x d)⟩⟩
end
def lb (P:Program)(n r0:Nat)(str:ByteArray)(tV:AS→AS)(oj:Prim)(pr:Prim):Prim:=fun g=>if g.beq 37 then some fun a s=>match a.toList with
 | [.slice (some ⟨bp,0,none⟩) 1 _,.func (.func f) x y]=>match s.get bp,P.funcs[f]? with
  | some (.cells cs 9 _),some aM=>match cs.toList,aM.body with
   | .string st::_,some c =>
    if st=str∧x.toList.isEmpty=true∧s.nx=r0∧aM.results.toList.isEmpty=true∧s.EU=true∧y.toList.all (ri s.nx)=true∧bp<s.nx then
     match eW P lF oj n c ((am s.nx 0::y.toList)++List.replicate (aM.ntmps-(y.size+1)) undef) ⟨(s.set bp none).hp,s.nx+1⟩ with
     | some (e,_,s')=>if AS.keeps (s.set bp none) s'=true then match e with
       | .normal|.ret=>some (.tuple #[],tV s')
       | _=>none
      else none
     | none=>none
    else none
   | _,_=>none
  | _,_=>none
 | _=>none
 else pr g
section
variable {Post:Value→World→Prop}{Ex:Nat→Prop}{w₀:World}{An:bJ}
def CI{e1:Nat}(h1:An 1=some (1,z1,e1))(M:∀b,32≤b→An b=none){str:ByteArray}(ai:32≤r0){tV:AS→AS}(D:xJ tV)(G:zZ r0 oj (cm str))(T:iK str.data.toList 0≤20000)(r:cN prog eO An (fun _:Zx=>AtRel) (fun j=>DZ j.1) (fun j=>ZI prog Post 0 j.1) (ua Ex w₀) pr) :
  cN prog eO An (fun _:Zx=>AtRel) (fun j=>DZ j.1) (fun j=>ZI prog Post 0 j.1) (ua Ex w₀) (lb prog n r0 str tV oj pr):=by
 have p:∀g h a s v i,g=37→lb prog n r0 str tV oj pr g=some h→h a s=some (v,i)→s.nx≤i.nx∧Sound prog eO An (fun _:Zx=>AtRel) (fun j=>DZ j.1) (fun j=>ZI prog Post 0 j.1) (ua Ex w₀) 37 a s v i:=by
  rintro g h a s v i rfl d U;unfold lb at d;rw[ip (show Nat.beq 37 37=true from rfl)] at d;cases d;simp only at U;split at U
  ·next Z c0 f x y ha =>
   split at U
   ·next cs fz F q d =>
    split at U
    ·next st H c Q I =>
     split at U
     ·next hc =>
      obtain⟨rfl,W,rfl,L,V,hy,O⟩:=hc;split at U
      ·next e ah t E =>
       split at U
       ·next J =>
        have K:(e=.normal∨e=.ret)∧v=.tuple #[]∧i=tV t:=by
         split at U
         ·cases U;exact⟨.inl rfl,rfl,rfl⟩
         ·cases U;exact⟨.inr rfl,rfl,rfl⟩
         ·cases U
        obtain⟨k,rfl,rfl⟩:=K;have C:x=#[]:=by apply Array.toList_inj.1;simpa using W
        subst C;have N:a=#[.slice (sq Z) 1 c0,.func (.func f) #[] y]:=by apply Array.toList_inj.1;simp[ha]
        subst N;have R:s.nx+1≤t.nx:=(yx (P:=prog) (kt:=lF) G.1 n).1 _ _ _ _ _ _ E;have o:s.nx≤(tV t).nx:=by rw[(D t).1];omega
        refine⟨o,Sound.cut (fun b q=>M b oq) V ?_ o fun S l fr j w u m hS hF B=>?_⟩
        ·simp only[List.all_cons,List.all_nil,Re,ri,hy,Bool.and_true,Nat.blt_eq,O]
        ·exact P1 h1 oq q d Q I L T (fun Y A B r=>G.2 Y A (fun b q=>(B b q).trans (m b oq)) r) D E R J k hS hF B (fun b X _=>m b X)
       ·cases U
      ·cases U
     ·cases U
    ·cases U
   ·cases U
  ·cases U
 constructor
 ·intro g h a s v i d U;by_cases k:g=37
  ·exact(p g h a s v i k d U).1
  ·unfold lb at d;rw[iw (fun z=>k (Nat.eq_of_beq_eq_true z))] at d;exact r.nx g h a s v i d U
 ·intro g h a s v i d U;by_cases k:g=37
  ·subst k;exact(p _ h a s v i rfl d U).2
  ·unfold lb at d;rw[iw (fun z=>k (Nat.eq_of_beq_eq_true z))] at d;exact r.sound g h a s v i d U
def Hw{str:ByteArray}{tV:AS→AS}{s s1:AS}{f:FuncId}{aM:Func}{y:Aq}{rest:Vq}(j:s.get bp=some (.cells cs 9 fz))(h:cs.toList=.string str::rest)(k:prog.funcs[f]?=some aM)(U:aM.body=some c)(d:aM.results.toList.isEmpty=true)(l:s.nx=r0)(i:s.EU=true)(o:y.toList.all (ri s.nx)=true)(g:bp<s.nx)
 (m:Ew oj c ((am s.nx 0::y.toList)++List.replicate (aM.ntmps-(y.size+1)) undef) ⟨(s.set bp none).hp,s.nx+1⟩ fun e _ a=>(e=.normal∨e=.ret)∧AS.keeps (s.set bp none) a=true∧tV a=s1) :
  ∃n,∀b,Ef (lb prog n r0 str tV oj b) 37 #[.slice (sq bp) 1 c0,.func (.func f) #[] y] s (.tuple #[]) s1:=by obtain⟨n,e,p,a,h1,h2,h3,rfl⟩:=m;refine⟨n,fun b=>⟨1,?_⟩⟩;unfold bG lb;rw[ip (show Nat.beq 37 37=true from rfl)];simp only[j,k,h,U,h1,h3,if_true];rw[ip ⟨trivial,rfl,l,d,i,o,g⟩];rcases h2 with rfl|rfl<;>rfl
end
end
end Go.Proofs.YtgcaionclkbehaaGreatDoor
