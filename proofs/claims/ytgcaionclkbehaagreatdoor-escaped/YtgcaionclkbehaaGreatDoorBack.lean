import Derived.Test.YtgcaionclkbehaaGreatDoorDone
import Derived.Test.YtgcaionclkbehaaGreatDoorRead
import Derived.Conc.FxGenLone
import Derived.Conc.CrowdMono
set_option linter.all false
set_option maxHeartbeats 2000000
set_option maxRecDepth 100000
namespace Go.Proofs.YtgcaionclkbehaaGreatDoor
open Go.Conc Go.RowKit Tryz
section
variable {P:Program}{main:Bool}{b:Frame}{a:Act}{k:List Item}{cs:List Frame}{w:World}{ops:Array Oper}{i:Nat}{rest:List Nat}{o:Oper}
theorem oO{d:Deferred}(ho:ops[i]?=some o)(hw:Region.wanted o (yielded ops a.tmps)=true)(hk:b.kind≠.early)(hr:(execOp a.eval o).run P w=.ok (.defer d) w)(he:(execOp a.eval o).events P w #[]=#[]) :
  stepG P main (G (b.at a (.inRegion ops (i::rest)::k)) cs) w=.go (G (b.at (Act.put ⟨a.tmps,d::a.defers⟩ o.dst undef) (.inRegion ops rest::k)) cs) w #[]:=by
 have U:(b.at ⟨a.tmps,d::a.defers⟩ (.inRegion ops (i::rest)::k)).finish undef=b.at (Act.put ⟨a.tmps,d::a.defers⟩ o.dst undef) (.inRegion ops rest::k):=by rw[Frame.finish_at,ho]; rfl
 have a0:(b.kind==CallKind.early)=false:=by simpa using hk
 rw[stepG_oper ho hw,← U];simp[stepG.apply,hr,he,G,Frame.at,a0,GStep.after,seen_none]
theorem tE{c:Frame}(ho:ops[i]?=some o)(hw:Region.wanted o (yielded ops a.tmps)=true)(hk:b.kind=.deferred)(a0:b.roundOf=none)(hc:c.mode=.returning)(hr:(execOp a.eval o).run P w=.ok .recover w)(he:(execOp a.eval o).events P w #[]=#[]) :
  stepG P main (G (b.at a (.inRegion ops (i::rest)::k)) (c::cs)) w=.go (G (b.at (a.put o.dst .nilIface) (.inRegion ops rest::k)) (c::cs)) w #[]:=by
 have U:(b.at a (.inRegion ops (i::rest)::k)).finish .nilIface=b.at (a.put o.dst .nilIface) (.inRegion ops rest::k):=by rw[Frame.finish_at,ho]; rfl
 rw[stepG_oper ho hw,← U];simp[stepG.apply,hr,he,G,Frame.at,hk,a0,tryRecover,hc,GStep.after,seen_none]
variable {todo:List Item}{ds:List Deferred}{f:FuncId}{fn:Func}{args cap:Aq}
theorem lZ{c : Code}(hd : a.defers = { target := .fn (.func f) cap, args := args } :: ds)(hf : P.funcs[f]? = some fn)(jd : (fn.name == "runtime.NumGoroutine") = false)(hb : fn.body = some c) :
  stepG P main (G { b.at a todo with mode:=.returning } cs) w =
   .go (G ((baseD f).at { tmps:=(args++cap)++Array.replicate (fn.ntmps-(args++cap).size) undef,defers:=[] } [.code c]) ({ b.at ⟨a.tmps,ds⟩ todo with mode:=.returning }::cs)) w #[]:=by
 have h1 : ¬ fn.name = "runtime.NumGoroutine" := by simpa using jd
 rw[← enter_atD (args++cap) hf hb];simp[G,stepG,unwind,callDeferred,Frame.at,hd,invoke,callFunc,hf,h1,hb,GStep.after,seen_none]
theorem nK{ats:Array TypeId}{ty:TypeId}{cn:Array Bool}{r cap s rc:Nat}{U:Aq}{tm:Bool}(hd:a.defers={ target:=.builtin .close ats ty cn,args:=#[.chan (some r)] }::ds)
 (h:w.heap[r]?=some (.chan cap U false s rc tm))(hq:(P.funcs[b.fn]?).any (·.norace)=false) :
  stepG P main (G { b.at a todo with mode:=.returning } cs) w=.go (G { b.at ⟨a.tmps,ds⟩ todo with mode:=.returning } cs) (w.setChan r cap U true s rc tm) (closeEvents r):=by
 have hr:(builtin .close ats ty cn #[.chan (some r)]).run P w=.ok (.value (.tuple #[])) (w.setChan r cap U true s rc tm):=by simp[go_sem,run_close_open _ _ h,World.setChan]
 have he:(builtin .close ats ty cn #[.chan (some r)]).events P w #[]=closeEvents r:=by simp[go_sem,events_close_open _ _ h,closeEvents]
 have hs:seen P b.fn (closeEvents r)=closeEvents r:=seen_eq hq (by intro e he f; simp only[closeEvents,List.mem_toArray,List.mem_cons,List.not_mem_nil,or_false] at he; rcases he with rfl|rfl<;>simp);simp[G,stepG,unwind,callDeferred,Frame.at,hd,invoke,hr,he,hs,GStep.after]
end
structure HB(N:Nat)(nv:Value)(w:World):Prop where
 nx:w.heap[N+1]?=some (.cells #[nv] 110)
 lv:w.heap[N+3]?=some (.cells #[.chan (some (N+2))] 158)
 ev:w.heap[N+5]?=some (.cells #[.chan (some (N+4))] 159)
 wb:w.heap[N+7]?=some (.cells #[.pointer (some ⟨N+6,0,none⟩)] 240)
 fb:w.heap[N+8]?=some (.cells #[.func (.func 112) #[] #[.pointer (some ⟨N+5,0,none⟩),.pointer (some ⟨N+1,0,none⟩),.pointer (some ⟨N+3,0,none⟩)]] 1)
structure HE(N:Nat)(val:Value)(w:World):Prop where
 pc:∃t,w.heap[N]?=some (.cells #[val] t)
 wb:w.heap[N+7]?=some (.cells #[.pointer (some ⟨N+6,0,none⟩)] 240)
 bf:∃o,w.heap[N+8]?=some o
structure HQ(N Pb cp:Nat)(s:ByteArray)(w:World):Prop where
 pc:w.heap[N]?=some (.cells #[.slice (some ⟨Pb,0,none⟩) 1 cp] 62)
 ps:w.cell? ⟨Pb,0,none⟩=some (.string s)
 lo:Pb<N
def pB(N:Nat):Deferred:={ target:=.builtin .close #[159] 0 #[false],args:=#[.chan (some (N+4))] }
section
variable {N Pb cp:Nat}{Shun:Loc→Prop}{val nv:Value}{B:Nat}{Mine:Loc→Prop}{w aB:World}
theorem cell1{b:Nat}{v:Value}{t:TypeId}(h:w.heap[b]?=some (.cells #[v] t)):w.cell? ⟨b,0,none⟩=some v:=by simp[World.cell?,h]
variable [Go.ConcR.Payload][Go.ConcX.Payload]
variable {s:ByteArray}
theorem HB.rc(h:HB N nv w)(r:RC (aC prog N Pb Shun val B Mine) w aB):HB N nv aB :=
 ⟨(r _ (.inr (.inl rfl))).trans h.nx,(r _ (.inr (.inr (.inl rfl)))).trans h.lv,(r _ (.inr (.inr (.inr (.inl rfl))))).trans h.ev,(r _ (.inr (.inr (.inr (.inr (.inl rfl)))))).trans h.wb,(r _ (.inr (.inr (.inr (.inr (.inr (.inl rfl))))))).trans h.fb⟩
theorem HB.rely{i:Ix}(h:HB N nv w)(r:ef (aC prog N Pb Shun val B Mine) i w aB):HB N nv aB:=h.rc r.rc
theorem HE.size(h:HE N val w):N+9≤w.heap.size:=by
 obtain⟨o,U⟩:=h.bf
 have:=(Array.getElem?_eq_some_iff.1 U).1;omega
theorem HQ.rc(h:HQ N Pb cp s w)(r:RC (aC prog N Pb Shun val B Mine) w aB):HQ N Pb cp s aB:=by
 refine⟨(r _ (.inl (.inl rfl))).trans h.pc,?_,h.lo⟩
 have:=r Pb (.inr (.inr (.inr (.inr (.inr (.inr rfl))))));rw[← h.ps]; unfold World.cell?; rw[this]
theorem HQ.rely{i:Ix}(h:HQ N Pb cp s w)(r:ef (aC prog N Pb Shun val B Mine) i w aB):HQ N Pb cp s aB:=h.rc r.rc
theorem HB.hp(h:HB N nv w)(q:HQ N Pb cp s w):HP N Pb cp s 0 0 0 #[] #[] w:=⟨h.lv,q.ps,q.lo,⟨_,h.fb⟩,fun h=>absurd h (by omega),fun h=>absurd h (by omega),fun h=>absurd h (by omega),fun h=>absurd h (by omega),q.pc,h.wb⟩
theorem mj{K:Cfg}{es:Array Event}(h:∀e∈es,Im K w e):DK K w w es :=
 ⟨rfl,rfl,rfl,fun _ _ _=>rfl,fun _ h=>h,fun _ h1 h2=>absurd h1 (by omega),rfl,Nat.le_refl _,h⟩
theorem pI{o:Nat}{b:Nat}(U:b=N+1∨b=N+3∨b=N+5∨b=N+7∨b=N+8∨b=Pb):Im (aC prog N Pb Shun val B Mine) w ⟨.cell ⟨b,o,none⟩,false,false⟩:=.inl ⟨_,_,rfl,.inr ⟨U,rfl⟩⟩
theorem Ja{o:Nat}{wr:Bool}:Im (aC prog N Pb Shun val B Mine) w ⟨.cell ⟨N,o,none⟩,wr,false⟩:=.inl ⟨_,_,rfl,.inl (.inl rfl)⟩
theorem AY{ι:Type}{P:Program}{main:Bool}{R:ι→Wq}{D:World→World→Array Event→Prop}{X:ι→Gq}{fn:FuncId}{Q:nQ ι}{a:Act}{w:World}{vs:ι}(C:Closed P main R D X)(T:∀i,Terms (R i) D)
 {ops:Array Oper}{i:Nat}{rest:List Nat}{o:Oper}{d:Deferred}(ho:ops[i]?=some o)(hw:Region.wanted o (yielded ops a.tmps)=true)(hr:∀w,(execOp a.eval o).run P w=.ok (.defer d) w)(he:∀w,(execOp a.eval o).events P w #[]=#[])
 (h:kq X fn ops rest vs Q (Act.put ⟨a.tmps,d::a.defers⟩ o.dst undef) w):kq X fn ops (i::rest) vs Q a w:=fun b k cs hb U hc=>C.step rfl fun aB aF=>by rw[oO ho hw U (hr aB) (he aB)];exact⟨(T vs).idle _,C.rely (h b k cs hb U hc) aF⟩
def zM(N:Nat):Value:=.func (.func 62) #[] #[.pointer (some ⟨N,0,none⟩)]
theorem AN(hF:HB N nv w)(hQ:HQ N Pb cp s w)(hz:s.size≤9223372036854775806) :
  gD prog (XK (aC prog N Pb Shun (.slice (sq Pb) 1 cp) B Mine)) 62 #[eX N,.pointer (sq N)] (true,V (bV s)) w (fun i' _ w'=>i'.2=[]∧HE N (.slice (sq Pb) 1 cp) w'):=by
 have C:Closed prog false (ef (aC prog N Pb Shun (.slice (sq Pb) 1 cp) B Mine)) (DK (aC prog N Pb Shun (.slice (sq Pb) 1 cp) B Mine)) (XK (aC prog N Pb Shun (.slice (sq Pb) 1 cp) B Mine)):=XK.closed (K:=(aC prog N Pb Shun (.slice (sq Pb) 1 cp) B Mine));have T:=jq (K:=(aC prog N Pb Shun (.slice (sq Pb) 1 cp) B Mine));have Tq:=T (true,[]);refine fe func62 (by rfl) rfl ?_;simp only[ntmps62,List.size_toArray,List.length_cons,List.length_nil,Nat.reduceAdd,Nat.reduceSub,Array.replicate_succ,Array.replicate_zero,List.push_toArray,List.append_toArray,List.nil_append,List.cons_append];refine bN C T ?_;simp only[ia,Nat.reduceAdd];refine aL C rfl (by rfl) fun _ hR Kx U=>?_;replace hF:=HB.rely hF hR;replace hQ:=HQ.rely hQ hR;clear hR;have hc:=cell1 hQ.pc;go_simp;try (unfold stored; go_simp)
 refine U _ _ ⟨?_,?_⟩
 ·refine mj ?_;co_evs (exact Ja)
 clear U Kx;try walk_nrm
 clear hc;refine aL C rfl (by rfl) fun _ hR Kx U=>?_;replace hF:=HB.rely hF hR;replace hQ:=HQ.rely hQ hR;clear hR;go_simp;try (unfold stored; go_simp)
 refine U _ _ ⟨?_,?_⟩
 ·co_quiet Tq
 clear U Kx;try walk_nrm
 refine bP C T rfl (by rfl) rfl rfl (by simp[Act.eval]) (by rw[List.append_nil]) (Nu (hF.hp hQ) hz []) ?_;rintro _ _ _ ⟨rfl,c1,c2,c,d,hF⟩;refine cf C T ?_;exact⟨.inl rfl,rfl,_,resultsC_none (by rfl) _,rfl,⟨_,hF.pc⟩,hF.wb,⟨_,Array.getElem?_eq_getElem (i:=N+8) (by have:=hF.size; omega)⟩⟩
theorem Nx{f:FuncId}{cap:Aq}{ls:Vq}(hF:HB N (.func (.func f) #[] cap) w)
 (hn:∀aB,RC (aC prog N Pb Shun val B Mine) w aB→gD prog (XK (aC prog N Pb Shun val B Mine)) f (#[eX N]++cap) (true,ls) aB (fun i' _ w'=>i'.2=[]∧HE N val w')) :
  ∃c,Tryz.f112.body=some c∧lm (XK (aC prog N Pb Shun val B Mine)) 112 c (true,ls) (fun i e a' w'=>e=.normal∧i.2=[]∧a'.defers=[pB N]∧HE N val w') ⟨#[.pointer (sq (N+5)),.pointer (sq (N+1)),.pointer (sq (N+3)),undef,undef,undef,undef],[]⟩ w:=by
 have C:Closed prog false (ef (aC prog N Pb Shun val B Mine)) (DK (aC prog N Pb Shun val B Mine)) (XK (aC prog N Pb Shun val B Mine)):=XK.closed (K:=(aC prog N Pb Shun val B Mine));have T:=jq (K:=(aC prog N Pb Shun val B Mine));have Tq:=T (true,[]);have mk:∀w es,(Instr.makeFunc (Fn.func 113) #[] #[Value.pointer (sq (N+3))]).events prog w es=es:=fun w es=>by simp[Instr.makeFunc]
 refine⟨_,rfl,?_⟩;refine fQ C T ?_;refine bN C T ?_;simp only[ia,Nat.reduceAdd];refine aL C rfl (by rfl) fun _ hR Kx U=>?_;replace hF:=HB.rely hF hR;replace hn:=fun aB aF=>hn aB (RC.trans hR.rc aF);clear hR;have hc:=cell1 hF.ev;go_simp;try (unfold stored; go_simp)
 refine U _ _ ⟨?_,?_⟩
 ·refine mj ?_;co_evs (exact pI (.inr (.inr (.inl rfl))))
 clear U Kx;try walk_nrm
 clear hc;refine AY C T (d:=pB N) rfl (by rfl) (fun w=>by simp[execOp,go_sem,resolve,pB,Act.eval]) (fun w=>by simp[execOp,go_sem,resolve,Act.eval]) ?_;try walk_nrm
 refine cf C T ?_;show lm _ _ _ _ _ _ _;refine bN C T ?_;simp only[ia,Nat.reduceAdd];refine aL C rfl (by rfl) fun _ hR Kx U=>?_;replace hF:=HB.rely hF hR;replace hn:=fun aB aF=>hn aB (RC.trans hR.rc aF);clear hR;have hc:=cell1 hF.nx;go_simp;try (unfold stored; go_simp)
 refine U _ _ ⟨?_,?_⟩
 ·refine mj ?_;co_evs (exact pI (.inl rfl))
 clear U Kx;try walk_nrm
 clear hc;refine aL C rfl (by rfl) fun _ hR Kx U=>?_;replace hF:=HB.rely hF hR;replace hn:=fun aB aF=>hn aB (RC.trans hR.rc aF);clear hR;go_simp;try (unfold stored; go_simp)
 refine U _ _ ⟨?_,?_⟩
 ·co_still Tq
 clear U Kx;try walk_nrm
 refine bP C T rfl (by rfl) rfl rfl (by simp[Act.eval]; rfl) rfl (hn _ (RC.refl _)) ?_;rintro i _ _ ⟨hi,hF⟩;refine cf C T ?_;exact⟨rfl,hi,rfl,hF⟩
end
def bot (P:Program):Frame:={ (default:Frame) with fn:=P.funcs.size,defers:=[],mode:=.panicking [goexitEntry] }
def Ue (N:Nat):Deferred:={ target:=.fn (.func 201) #[.pointer (some ⟨N+7,0,none⟩)],args:=#[] }
def fv(N:Nat):Value:=.func (.func 112) #[] #[.pointer (some ⟨N+5,0,none⟩),.pointer (some ⟨N+1,0,none⟩),.pointer (some ⟨N+3,0,none⟩)]
def Le(b:Option Code):Array Oper:=match b with|some (.seq _ (.region _ ops _))=>ops|_=>#[]
def Jf (b:Option Code)(N:Nat):Frame:=(baseD 200).at ⟨#[.pointer (some ⟨N+7,0,none⟩),.pointer (some ⟨N+8,0,none⟩),.func (.func 201) #[] #[.pointer (some ⟨N+7,0,none⟩)],fv N,undef],[Ue N]⟩ [.inRegion (Le b) [1]]
theorem Way.closed{P:Program}{main:Bool}{R:Wq}{D:World→World→Array Event→Prop}{Stop:Gq}(trans:∀a b c,R a b→R b c→R a c):Closed P main (fun _:Unit=>R) D (fun _=>Way P main R D Stop) where
 rely:=fun {_ _ _ _} h hr=>Way.rely trans h hr
 step:=by
  intro i g w hs h
  refine Way.step hs fun aB aF=>?_
  have U:=h aB aF
  cases e:stepG P main g aB with
  | go g' w' es=>rw[e,goes_go] at U; exact⟨g',w',es,rfl,U.1,U.2⟩
  | _=>rw[e] at U; exact U.elim
section
variable {N Pb:Nat}{Shun:Loc→Prop}{val:Value}{B:Nat}{Mine:Loc→Prop}{S:Nat→Prop}{w aB:World}
variable [Go.ConcR.Payload][Go.ConcX.Payload]
variable {s:ByteArray}
structure HJ(N:Nat)(val:Value)(w:World):Prop where
 pc:∃t,w.heap[N]?=some (.cells #[val] t)
 wb:w.heap[N+7]?=some (.cells #[.pointer (some ⟨N+6,0,none⟩)] 240)
 live:Go.ConcN.WgLive 169 (N+6) w
theorem HJ.rely(U:S N)(h:HJ N val w)(r:RJ (aC prog N Pb Shun val B Mine) S w aB):HJ N val aB:=⟨h.pc.imp fun _ z=>(r.rc _ (.inl U)).trans z,(r.rc _ (.inr (.inr (.inr (.inr (.inl rfl)))))).trans h.wb,r.live h.live⟩
theorem od(U:S N){es:Array Event}(h:∀e∈es,EvB N Pb N N e):DJ (aC prog N Pb Shun val B Mine) S w w es:=by
 refine⟨⟨rfl,rfl,rfl,rfl,fun _ _=>rfl,id,fun _ _=>rfl⟩,fun e he=>?_⟩;obtain⟨a,wr,rfl,ha⟩:=h e he;refine⟨fun fn pos=>⟨rfl,fun x hx=>?_⟩,by simp,by simp,by simp⟩;have jB:x=⟨.cell a,wr,.plain⟩:=by simp only[MemAct.ofEvent,MemAct.touch?] at hx;cases wr<;>simpa using hx.symm
 subst jB;rcases ha with h|⟨h,rfl⟩
 ·exact .inr (.inl (.inl ⟨a,rfl,by rw[show a.block=N by omega]; exact U⟩))
 ·exact .inr (.inr ⟨⟨a,rfl,h⟩,rfl⟩)
theorem eQ(U:S N)(w:World):DJ (aC prog N Pb Shun val B Mine) S w w #[]:=od (Pb:=Pb) U (by simp)
theorem Po(hS:S N)(hF:HJ N val w)(tm:Aq) :
  Way prog false (RJ (aC prog N Pb Shun val B Mine) S) (DJ (aC prog N Pb Shun val B Mine) S) (wP (aC prog N Pb Shun val B Mine)) (G { (base 112).at ⟨tm,[]⟩ [] with mode:=.returning } [Jf Tryz.f200.body N,(bot prog)]) w:=by
 have CJ:=Way.closed (P:=prog) (main:=false) (R:=RJ (aC prog N Pb Shun val B Mine) S) (D:=DJ (aC prog N Pb Shun val B Mine) S) (Stop:=wP (aC prog N Pb Shun val B Mine)) (fun _ _ _=>RJ.trans (K:=(aC prog N Pb Shun val B Mine)));refine CJ.step (vs:=()) rfl fun _ aF=>?_;replace hF:=hF.rely hS aF;clear aF;rw[stepG_leave (b:=base 112) rfl rfl func112 (results_none rfl _ _ _) (events_results_none rfl _ _)];simp only[goes_go];refine⟨eQ hS _,?_⟩;unfold Jf;rw[Frame.finish_at];simp only[Le,Tryz.f200];try walk_nrm
 refine CJ.step (vs:=()) rfl fun _ aF=>?_;replace hF:=hF.rely hS aF;clear aF;rw[stepG_region_end];simp only[goes_go];refine⟨eQ hS _,?_⟩;refine CJ.step (vs:=()) rfl fun _ aF=>?_;replace hF:=hF.rely hS aF;clear aF;rw[stepG_end];simp only[goes_go];refine⟨eQ hS _,?_⟩;refine CJ.step (vs:=()) rfl fun _ aF=>?_;replace hF:=hF.rely hS aF;clear aF;rw[lZ (f:=201) rfl func201 (by rfl) rfl];simp only[goes_go];refine⟨eQ hS _,?_⟩;simp only[ntmps201,List.size_toArray,List.length_cons,List.length_nil,Nat.reduceAdd,Nat.reduceSub,Array.replicate_succ,Array.replicate_zero,List.push_toArray,List.append_toArray,List.nil_append,List.cons_append];iterate 2
  refine CJ.step (vs:=()) rfl fun _ aF=>?_
  replace hF:=hF.rely hS aF
  clear aF
  rw[stepG_seq]
  simp only[goes_go]
  refine⟨eQ hS _,?_⟩
 refine CJ.step (vs:=()) rfl fun _ aF=>?_;replace hF:=hF.rely hS aF;clear aF;rw[stepG_region];simp only[goes_go,List.size_toArray,List.length_cons,List.length_nil,Nat.reduceAdd,Nat.zero_add,List.range,List.range.loop];refine⟨eQ hS _,?_⟩;refine CJ.step (vs:=()) rfl fun _ aF=>?_;replace hF:=hF.rely hS aF;clear aF;rw[tE rfl (by rfl) rfl rfl rfl (by simp[execOp,go_sem]) (by simp[execOp,go_sem])];simp only[goes_go];refine⟨eQ hS _,?_⟩;try walk_nrm
 refine CJ.step (vs:=()) rfl fun _ aF=>?_;replace hF:=hF.rely hS aF;clear aF;refine goes_oper_k rfl rfl (by decide) (fun Kx js=>?_);go_simp;refine js _ _ ⟨?_,?_⟩
 ·refine od hS ?_;co_evs (skip)
 clear js Kx;try walk_nrm
 refine CJ.step (vs:=()) rfl fun _ aF=>?_;replace hF:=hF.rely hS aF;clear aF;rw[stepG_region_end];simp only[goes_go];refine⟨eQ hS _,?_⟩;refine CJ.step (vs:=()) rfl fun _ aF=>?_;replace hF:=hF.rely hS aF;clear aF;rw[stepG_seq];simp only[goes_go];refine⟨eQ hS _,?_⟩;refine CJ.step (vs:=()) rfl fun _ aF=>?_;replace hF:=hF.rely hS aF;clear aF;rw[stepG_region];simp only[goes_go,List.size_toArray,List.length_cons,List.length_nil,Nat.reduceAdd,Nat.zero_add,List.range,List.range.loop];refine⟨eQ hS _,?_⟩;refine CJ.step (vs:=()) rfl fun _ aF=>?_;replace hF:=hF.rely hS aF;clear aF;refine goes_oper_k rfl rfl (by decide) (fun Kx js=>?_);go_simp;refine js _ _ ⟨?_,?_⟩
 ·refine od hS ?_;co_evs (skip)
 clear js Kx;try walk_nrm
 refine CJ.step (vs:=()) rfl fun _ aF=>?_;replace hF:=hF.rely hS aF;clear aF;refine goes_oper_k rfl rfl (by decide) (fun Kx js=>?_);have bo:∀w es,(binOp .neq 20 .nilIface .nilIface).events prog w es=es:=fun w es=>by rw[show binOp .neq 20 Value.nilIface Value.nilIface=(do pure (.bool (!(← Op.equal 20 .nilIface .nilIface)))) from rfl,show Op.equal 20 Value.nilIface Value.nilIface=Op.equalIn (9999+1) 20 .nilIface .nilIface from rfl,Op.equalIn]; simp[Tryz.runUnderlying20,go_sem,underlying,underlying20]
 go_simp;refine js _ _ ⟨?_,?_⟩
 ·refine od hS ?_;co_evs (skip)
 clear js Kx;try walk_nrm
 refine CJ.step (vs:=()) rfl fun _ aF=>?_;replace hF:=hF.rely hS aF;clear aF;rw[stepG_region_end];simp only[goes_go];refine⟨eQ hS _,?_⟩;refine CJ.step (vs:=()) rfl fun _ aF=>?_;replace hF:=hF.rely hS aF;clear aF;rw[stepG_cond (t:=false) rfl];simp only[goes_go,if_true,if_false,Bool.false_eq_true,↓reduceIte];refine⟨eQ hS _,?_⟩;refine CJ.step (vs:=()) rfl fun _ aF=>?_;replace hF:=hF.rely hS aF;clear aF;rw[stepG_skip];simp only[goes_go];refine⟨eQ hS _,?_⟩;refine CJ.step (vs:=()) rfl fun _ aF=>?_;replace hF:=hF.rely hS aF;clear aF;rw[stepG_region];simp only[goes_go,List.size_toArray,List.length_cons,List.length_nil,Nat.reduceAdd,Nat.zero_add,List.range,List.range.loop];refine⟨eQ hS _,?_⟩;refine CJ.step (vs:=()) rfl fun _ aF=>?_;replace hF:=hF.rely hS aF;clear aF;refine goes_oper_k rfl rfl (by decide) (fun Kx js=>?_);have hc:=cell1 hF.wb;go_simp;refine js _ _ ⟨?_,?_⟩
 ·refine od hS ?_;co_evs (exact pH (.inr (.inr (.inr (.inl rfl)))))
 clear js Kx;try walk_nrm
 clear hc;refine CJ.step (vs:=()) rfl fun _ aF=>?_;replace hF:=hF.rely hS aF;clear aF;refine goes_call rfl rfl (by decide) rfl sK.f_done (Go.ConcR.Gen.nm_done link) rfl ⟨eQ hS _,?_⟩;walk_nrmf Go.Conc.Lib.doneFn;have hD:=fun {b₀:Frame} {a₀:Act} {ops₀:Array Oper} {i₀:Nat} {rest₀:List Nat} {k₀:List Item} {cs:List Frame} {qt:Nat} hT w hK=>@Pp _ link prog sK (Ly (aC prog N Pb Shun val B Mine) S) (TJ (aC prog N Pb Shun val B Mine)) (N+6) N 1 0 1 val b₀ a₀ ops₀ i₀ rest₀ k₀ cs qt hT w hK;simp only[Go.ConcR.Gen.body_done,Go.Conc.Lib.doneFn,Option.getD_some] at hD;refine Way.qa (fun _ _ h=>RJ.rw (K:=(aC prog N Pb Shun val B Mine)) hS h) (fun _ _ _ h=>h) (fun _ _ h=>h) (bX (hD (qt:=5) ?_ _ ⟨hF.live,by obtain⟨_,hp⟩:=hF.pc; simp[Go.ConcN.Has,World.cell?,hp]⟩));refine QuitsD.ctl rfl (fun _=>stepG_region_end) ?_;refine QuitsD.ctl rfl (fun _=>stepG_end) ?_;refine QuitsD.leaveD rfl rfl func201 rfl rfl ?_;refine QuitsD.ctl (g':=G (bot prog) []) rfl (fun w=>?_) ?_
 ·simp[G,stepG,unwind,doReturn,results,Frame.at,baseD,bot,func200,Tryz.f200,seen,GStep.after,goexitEntry]
 refine QuitsD.ctl (g':={ G (bot prog) [] with status:=.finished }) rfl (fun w=>?_) ⟨rfl,rfl⟩;simp[G,stepG,unwind,bot,goexitEntry,Frame.catches];rfl
end
def jK(N:Nat):Deferred:={ target:=.fn (.func 200) #[.pointer (some ⟨N+7,0,none⟩),.pointer (some ⟨N+8,0,none⟩)],args:=#[] }
section
variable {N Pb:Nat}{Shun:Loc→Prop}{val:Value}{B:Nat}{Mine:Loc→Prop}{w aB:World}
variable [Go.ConcR.Payload][Go.ConcX.Payload]
variable {s:ByteArray}
theorem IL(U:HE N val w)(tm:Aq):AtClose (aC prog N Pb Shun val B Mine) (G { (base 112).at ⟨tm,[pB N]⟩ [] with mode:=.returning } [Jf Tryz.f200.body N,(bot prog)]) w:=by
 refine⟨rfl,U.size,rfl,G { (base 112).at ⟨tm,[]⟩ [] with mode:=.returning } [Jf Tryz.f200.body N,(bot prog)],rfl,fun h=>?_,fun aB aF hl=>?_⟩
 ·exact nK (b:=base 112) (a:=⟨tm,[pB N]⟩) rfl h (by kernel_rfl)
 ·exact Po (.inl rfl) ⟨U.pc.imp fun _ z=>(aF _ (.inl (.inl rfl))).trans z,(aF _ (.inr (.inr (.inr (.inr (.inl rfl)))))).trans U.wb,hl⟩ tm
theorem HE.rely{i:Ix}(h:HE N val w)(r:ef (aC prog N Pb Shun val B Mine) i w aB):HE N val aB:=⟨h.pc.imp fun _ z=>(r.rc _ (.inl (.inl rfl))).trans z,(r.rc _ (.inr (.inr (.inr (.inr (.inl rfl)))))).trans h.wb,h.bf.imp fun _ z=>(r.rc _ (.inr (.inr (.inr (.inr (.inr (.inl rfl))))))).trans z⟩
theorem CV(N:Nat)(w:World):stepG prog false (born prog (jK N)) w =
  .go (G ((baseD 200).at ⟨#[.pointer (sq (N+7)),.pointer (sq (N+8)),undef,undef,undef],[]⟩ [.code (Tryz.f200.body.getD .skip)]) [(bot prog)]) w #[]:=by simp[born,jK,stepG,unwind,callDeferred,invoke,callFunc,func200,Tryz.f200,seen,GStep.after,G,Frame.enter,Frame.at,baseD,bot]
theorem te{P:Program}{main:Bool}{b:Frame}{a:Act}{k:List Item}{cs:List Frame}{w:World}{ops:Array Oper}{i:Nat}{rest:List Nat}{o:Oper}{K:Goroutine→World→Array Event→Prop}{x:Operand}{f:FuncId}{aJ:Func}{c:Code}{first cap:Array Value}{args:Array Operand}{ats:Array TypeId}
 (ho:ops[i]?=some o)(hw:Region.wanted o (yielded ops a.tmps)=true)(hk:b.kind≠.early)(eI:o.op=.call { callee:=.value x,args,argTypes:=ats })(hx:a.eval x=.func (.func f) first cap)
 (hf : P.funcs[f]? = some aJ)(jd : (aJ.name == "runtime.NumGoroutine") = false)(hb : aJ.body = some c)
 (h:K (G ((base f).at { tmps:=(first++args.map a.eval++cap)++Array.replicate (aJ.ntmps-(first++args.map a.eval++cap).size) undef,defers:=[] } [.code c]) (b.at a (.inRegion ops (i::rest)::k)::cs)) w #[]) :
  (stepG P main (G (b.at a (.inRegion ops (i::rest)::k)) cs) w).goes K:=by obtain⟨hr,he⟩:=iQ (P:=P) (w:=w) eI hx hf jd (by rw[hb]; rfl);rw[stepG_enter ho hw hk hr,enter_at _ hf hb];have hl:listed P b.fn a o w=#[]:=listed_nil he;rw[hl];exact h
theorem jx(w:World):DK (aC prog N Pb Shun val B Mine) w w #[]:=mj (by simp)
theorem Q3{f:FuncId}{cap:Aq}{ls:Vq}(hF:HB N (.func (.func f) #[] cap) w)
 (hn:∀aB,RC (aC prog N Pb Shun val B Mine) w aB→gD prog (XK (aC prog N Pb Shun val B Mine)) f (#[eX N]++cap) (true,ls) aB (fun i' _ w'=>i'.2=[]∧HE N val w')):XK (aC prog N Pb Shun val B Mine) (true,ls) (born prog (jK N)) w:=by
 have C:Closed prog false (ef (aC prog N Pb Shun val B Mine)) (DK (aC prog N Pb Shun val B Mine)) (XK (aC prog N Pb Shun val B Mine)):=XK.closed (K:=(aC prog N Pb Shun val B Mine));have mk:∀w es,(Instr.makeFunc (Fn.func 201) #[] #[Value.pointer (sq (N+7))]).events prog w es=es:=fun w es=>by simp[Instr.makeFunc]
 refine C.step rfl fun _ U=>?_;replace hF:=hF.rely U;replace hn:=fun dI fW=>hn dI (RC.trans U.rc fW);clear U;rw[CV];simp only[goes_go];refine⟨jx _,?_⟩;simp only[Tryz.f200,Option.getD_some];refine C.step rfl fun _ U=>?_;replace hF:=hF.rely U;replace hn:=fun dI fW=>hn dI (RC.trans U.rc fW);clear U;rw[stepG_seq];simp only[goes_go];refine⟨jx _,?_⟩;refine C.step rfl fun _ U=>?_;replace hF:=hF.rely U;replace hn:=fun dI fW=>hn dI (RC.trans U.rc fW);clear U;rw[stepG_region];simp only[goes_go,List.size_toArray,List.length_cons,List.length_nil,Nat.reduceAdd,Nat.zero_add,List.range,List.range.loop];refine⟨jx _,?_⟩;refine C.step rfl fun _ U=>?_;replace hF:=hF.rely U;replace hn:=fun dI fW=>hn dI (RC.trans U.rc fW);clear U;refine goes_oper_k rfl rfl (by decide) (fun Kx js=>?_);go_simp;refine js _ _ ⟨?_,?_⟩
 ·refine mj ?_;co_evs (skip)
 clear js Kx;try walk_nrm
 refine C.step rfl fun _ U=>?_;replace hF:=hF.rely U;replace hn:=fun dI fW=>hn dI (RC.trans U.rc fW);clear U;rw[oO (d:=Ue N) rfl (by rfl) (by decide) (by simp[execOp,go_sem,resolve,Deferred.ofValue,Ue,Act.eval]) (by simp[execOp,go_sem,resolve,Deferred.ofValue,Act.eval])];simp only[goes_go];refine⟨jx _,?_⟩;try walk_nrm
 refine C.step rfl fun _ U=>?_;replace hF:=hF.rely U;replace hn:=fun dI fW=>hn dI (RC.trans U.rc fW);clear U;rw[stepG_region_end];simp only[goes_go];refine⟨jx _,?_⟩;refine C.step rfl fun _ U=>?_;replace hF:=hF.rely U;replace hn:=fun dI fW=>hn dI (RC.trans U.rc fW);clear U;rw[stepG_region];simp only[goes_go,List.size_toArray,List.length_cons,List.length_nil,Nat.reduceAdd,Nat.zero_add,List.range,List.range.loop];refine⟨jx _,?_⟩;refine C.step rfl fun _ U=>?_;replace hF:=hF.rely U;replace hn:=fun dI fW=>hn dI (RC.trans U.rc fW);clear U;refine goes_oper_k rfl rfl (by decide) (fun Kx js=>?_);have hc:=cell1 hF.fb;go_simp;refine js _ _ ⟨?_,?_⟩
 ·refine mj ?_;co_evs (exact pI (.inr (.inr (.inr (.inr (.inl rfl))))))
 clear js Kx;try walk_nrm
 clear hc;refine C.step rfl fun _ U=>?_;replace hF:=hF.rely U;replace hn:=fun dI fW=>hn dI (RC.trans U.rc fW);clear U;refine te rfl rfl (by decide) rfl rfl func112 (by rfl) rfl ⟨jx _,?_⟩;simp only[ntmps112,Act.eval,List.map_toArray,List.map_nil,List.size_toArray,List.length_cons,List.length_nil,Nat.reduceAdd,Nat.reduceSub,Array.replicate_succ,Array.replicate_zero,List.push_toArray,List.append_toArray,List.nil_append,List.cons_append];obtain⟨c74,UY,hW⟩:=Nx hF hn;obtain rfl:=Option.some.inj UY;refine hW (base 112) [] _ rfl (by decide) ?_;rintro⟨fr,vs⟩ e a w ⟨rfl,MQ,hd,hF⟩;obtain rfl:vs=[]:=MQ;show XK (aC prog N Pb Shun val B Mine) _ _ _;refine C.step rfl fun _ U=>?_;replace hF:=hF.rely U;clear U;rw[stepG_end];simp only[goes_go];refine⟨jx _,?_⟩;refine Way.stop fun aB U=>?_;replace hF:=HE.rely hF U;obtain⟨tm,ds⟩:=a;obtain rfl:ds=[pB N]:=hd;exact IL hF tm
end
abbrev Sd(Wg C:Nat):Go.ConcX.Shy Wg C where
 ok:=fun act=>∀x,act.touch?=some x→∀ad:Addr,x.loc=.cell ad→ad.block=Wg∨ad.block=C
 atomicWg:=fun a wr h x hx ad e=>by simp only[MemAct.touch?,Option.some.injEq] at hx; subst hx; cases e; exact .inl h
 readWg:=fun a h x hx ad e=>by simp only[MemAct.touch?,Option.some.injEq] at hx; subst hx; cases e; exact .inl h
 writeWg:=fun a h x hx ad e=>by simp only[MemAct.touch?,Option.some.injEq] at hx; subst hx; cases e; exact .inl h
 theirs:=fun a wr h x hx ad e=>by simp only[MemAct.touch?,Option.some.injEq] at hx; subst hx; cases e; exact .inr h
 disable:=fun x hx=>(by cases hx)
 enable:=fun x hx=>(by cases hx)
 relMerge:=fun x hx=>(by cases hx)
 acquire:=fun x hx=>(by cases hx)
 go1:=fun x hx=>(by cases hx)
 start:=fun x hx=>(by cases hx)
 stop:=fun _ _=>True
theorem Pa{Post:Value→World→Prop}{S:Nat→Prop}{Wg C:Nat}{b₀:Frame}{a₀:Act}{ops₀:Array Oper}{i₀:Nat}{rest₀:List Nat}{k₀:List Item}{cs:List Frame}{w:World}(h1:¬S Wg)(h2:¬S C)(hw:w.heap[Wg]?=some (.cells #[.int .u64 0,.int .u32 0] 169))
 (hn:ZI prog Post 0 S (G (b₀.at (a₀.put ((ops₀[i₀]?).bind (·.dst)) (.tuple #[])) (.inRegion ops₀ rest₀::k₀)) cs) (w.setCell ⟨Wg,0,none⟩ (.int .u64 4294967296))) :
  ZI prog Post 0 S (G ((base 199).at ⟨#[.pointer (sq Wg),.int .i64 1,undef,undef,undef,undef,undef,undef,undef,undef,undef,undef,undef,undef,undef,undef,undef,undef,undef,undef,undef,undef,undef,undef,undef,undef,undef,undef,undef,undef,undef,undef,undef,undef,undef,undef,undef,undef,undef,undef,undef,undef,undef,undef,undef,undef,undef,undef,undef,undef,undef,undef,undef,undef,undef,undef,undef,undef,undef,undef,undef,undef,undef,undef,undef,undef,undef,undef,undef,undef,undef,undef,undef,undef,undef,undef,undef,undef,undef,undef,undef,undef,undef,undef,undef,undef,undef,undef,undef,undef,undef,undef,undef,undef,undef,undef,undef,undef,undef,undef,undef,undef,undef,undef,undef,undef,undef,undef,undef,undef,undef,undef,undef,undef,undef,undef,undef],[]⟩ [.code (Go.ConcX.Gen.body_add link)]) (b₀.at a₀ (.inRegion ops₀ (i₀::rest₀)::k₀)::cs)) w:=by
 have hA:=@Go.ConcX.Gen.addPos link Wg C (Sd Wg C) b₀ a₀ ops₀ i₀ rest₀ k₀ cs (ZI prog Post 0 S) 0 prog sK w hw (fun aB aF=>ZI.closed.rely hn aF);have ju:∀e,@Go.ConcX.EvS Wg C (Sd Wg C) e→EvS S e:=by
  intro e U;refine⟨fun x hx ad ha hs=>?_,fun h=>?_,fun h=>?_⟩
  ·rcases U.2.2.2.2.2 x hx ad ha with z|z
   ·exact h1 (z▸hs)
   ·exact h2 (z▸hs)
  ·exact U.2.2.2.1 (Go.ConcX.ofEvent_loc_mark h)
  ·exact U.2.2.2.2.1 (Go.ConcX.ofEvent_loc_mark h)
 refine ZI.goes ju (fun g w h=>?_) hA;refine ZI.E5 (m:=.disable) (d':=1) rfl rfl (fun g w hN=>?_) h;obtain⟨n,hN⟩:=hN;refine ZI.goes ju (fun g w h=>?_) hN;refine ZI.E5 (m:=.enable) (d':=0) rfl rfl (fun g w hN=>?_) h;obtain⟨n,hN⟩:=hN;exact ZI.goes ju (fun g w h=>h w (atRel_refl w)) hN
def qe(b:Option Code):Code:=match b with|some (.seq _ (.seq _ (.seq _ (.seq _ c))))=>c|_=>.skip
def eW (b:Option Code)(n:Nat):Array Oper:=match qe b with|.seq (.region _ o4 _) (.seq (.region _ o5 _) (.seq (.region _ o6 _) (.seq (.region _ o7 _) (.region _ o8 _))))=>if n=4 then o4 else if n=5 then o5 else if n=6 then o6 else if n=7 then o7 else o8|_=>#[]
section
variable {N Pb:Nat}{Shun:Loc→Prop}{val:Value}{B:Nat}{Mine:Loc→Prop}{w aB:World}
variable [Go.ConcR.Payload][Go.ConcX.Payload]
variable [Go.ConcX.Shy (Cfg.Wg (aC prog N Pb Shun val B Mine)) (Cfg.C (aC prog N Pb Shun val B Mine))]
theorem CN{K:Cfg}[Go.ConcX.Shy K.Wg K.C]{L:Nat}{A U:Gq}(h:∀g w,A g w→U g w)(g:Goroutine)(w:World):tG K L A g w→tG K L U g w:=fun ⟨h1,g',h2,m,h3⟩=>⟨h1,g',h2,m,Go.ConcN.goes_mono h h3⟩
theorem CO{K:Cfg}[Go.ConcX.Shy K.Wg K.C]{L:Nat}{A U:Gq}{Post:Value→World→Prop}(h:∀g w,A g w→U g w)(g:Goroutine)(w:World):iV K L A Post g w→iV K L U Post g w:=fun ⟨h1,g',h2,h3,h4⟩ =>⟨h1,g',h2,fun z=>(h3 z).imp fun _ q=>Go.ConcN.goes_mono (fun _ _ ⟨a1,a2,a3⟩=>⟨a1,a2,fun z=>(a3 z).imp fun _ q=>⟨q.1,q.2.imp fun _ q=>Go.ConcN.goes_mono h q⟩⟩) q,h4⟩
def wO(K:Cfg)[Go.ConcX.Payload][Go.ConcX.Shy K.Wg K.C](F:World→Prop)(b:Frame)(k:List Item)(cs:List Frame)(g:Goroutine)(w:World):Prop :=
 ∃a:Act,a.defers=[]∧Go.ConcX.Gen.AnchW7 link F K.Wg K.C [K.val] (b.at a (.inRegion (eW Tryz.f61.body 8) [0]::k)) cs g w
theorem N6{F:World→Prop}{L:Nat}(a0:∀w aB,Go.ConcX.Aside2 N (N+6) w aB→F w→F aB){b:Frame}{a:Act}{k:List Item}{cs:List Frame}(hk:b.kind≠.early)(hd:a.defers=[])(ha:a.eval (.tmp 6)=.pointer (sq (N+6)))(hF:F w)(ka:zA (aC prog N Pb Shun val B Mine) w) :
  XM (aC prog N Pb Shun val B Mine) (wO (aC prog N Pb Shun val B Mine) F b k cs) (.join L) (G (b.at a (.code (.region 8 (eW Tryz.f61.body 8) false)::k)) cs) w:=by
 have C:aV prog true (mL (aC prog N Pb Shun val B Mine)) (rz (aC prog N Pb Shun val B Mine)) (XM (aC prog N Pb Shun val B Mine) (wO (aC prog N Pb Shun val B Mine) F b k cs)):=XM.closed (K:=(aC prog N Pb Shun val B Mine));have T:=p7 (K:=(aC prog N Pb Shun val B Mine));have hR:∀{w aB},mL (aC prog N Pb Shun val B Mine) (.join L) w aB→F w∧zA (aC prog N Pb Shun val B Mine) w→F aB∧zA (aC prog N Pb Shun val B Mine) aB:=fun {w aB} r h=>by have r':gQ (aC prog N Pb Shun val B Mine) w aB:=r;exact⟨a0 _ _ r'.aside h.1,r'.ka h.2⟩
 have U:F w∧zA (aC prog N Pb Shun val B Mine) w:=⟨hF,ka⟩;clear hF ka;refine C.step rfl fun _ aF=>?_;replace U:=hR aF U;clear aF;rw[stepG_region];simp only[goes_go];refine⟨(T (.join L)).idle _,?_⟩;have hr:List.range (eW Tryz.f61.body 8).size=[0]:=by rfl
 rw[hr];refine C.step rfl fun aB aF=>?_;replace U:=hR aF U;clear aF;refine goes_call (b:=b) (a:=a) (args:=#[.tmp 6]) (ats:=#[169]) (i:=0) (ops:=eW Tryz.f61.body 8) rfl rfl hk rfl sK.f_wait (Go.ConcX.Gen.nm_wait link) rfl ⟨(T (.join L)).idle _,?_⟩;have hW:=Go.ConcX.Gen.waitStart (L:=link) (P:=prog) (Wg:=Cfg.Wg (aC prog N Pb Shun val B Mine)) (C:=Cfg.C (aC prog N Pb Shun val B Mine)) (Low:=L) (Mine:=Mine) (vals:=[val]) (F:=F) (b₀:=b) (a₀:=a) (ops₀:=eW Tryz.f61.body 8) (i₀:=0) (rest₀:=[]) (k₀:=k) (cs:=cs) sK (fun _ _ r h=>a0 _ _ r h) aB U;have ht:(#[Operand.tmp 6].map a.eval)=#[Value.pointer (sq (N+6))]:=by simp[ha]
 rw[ht];simp only[Go.ConcX.Gen.body_wait,Go.Conc.Lib.waitFn,Option.getD_some] at hW;walk_nrmf Go.Conc.Lib.waitFn;exact Way.qa (fun _ _ h=>h) (fun _ _ _ h=>h) (fun g w h=>CN (K:=(aC prog N Pb Shun val B Mine)) (fun _ _ h=>⟨a,hd,h⟩) g w h) (bX hW)
end
def t47 (N:Nat)(nv nx Tu:Value):Array Value:=#[nv,nx,.pointer (some ⟨N+1,0,none⟩),undef,.pointer (some ⟨N+3,0,none⟩),.pointer (some ⟨N+5,0,none⟩),.pointer (some ⟨N+6,0,none⟩),undef,.chan (some (N+2)),.chan (some (N+4)),fv N,Tu,undef,undef,undef,undef,undef,undef,undef,undef,undef,undef]
def Rq (b:Option Code):Array Oper:=match b with|some (.seq _ (.seq _ (.region _ o _)))=>o|_=>#[]
abbrev lT:Value:=.slice none 0 0
section
variable {N Pb:Nat}{Shun:Loc→Prop}{val:Value}{B:Nat}{Mine:Loc→Prop}{Ex:Nat→Prop}{w₀ w aB:World}{AnchW:Gq}{u v:Value}{tk rest:Iq}{en:Bool}{Rb:Nat}
structure HG(N:Nat)(A:World→Prop)(w:World):Prop where
 lv:w.heap[N+3]?=some (.cells #[.chan (some (N+2))] 158)
 ev:w.heap[N+5]?=some (.cells #[.chan (some (N+4))] 159)
 size:N+9≤w.heap.size
 a:A w
theorem HG.rm{A:World→Prop}(U:∀w aB,RM (aC prog N Pb Shun val B Mine) w aB→A w→A aB)(h:HG N A w)(r:RM (aC prog N Pb Shun val B Mine) w aB):HG N A aB:=by
 have hs:=h.size;have hb:∀b,b=N+3∨b=N+5→aB.heap[b]?=w.heap[b]?:=fun b hb=>r.block b (by omega) (fun z=>by
  rcases z with z|⟨z,_⟩
  ·have z':b=N:=z;omega
  ·have z':N+9≤b:=z;omega) (by show ¬(b=N+2∨b=N+4∨b=N+6); omega);exact⟨(hb _ (.inl rfl)).trans h.lv,(hb _ (.inr rfl)).trans h.ev,Nat.le_trans hs r.size,U _ _ r h.a⟩
theorem ue{K:Cfg}(F:K.Fit){b o:Nat}(U:K.Still b)(hn:K.N0≤w.heap.size):SL K w ⟨.cell ⟨b,o,none⟩,false,false⟩:=by
 refine⟨fun x hx=>?_,by simp,by simp,by simp[MemAct.ofEvent]⟩;have jB:x=⟨.cell ⟨b,o,none⟩,false,.plain⟩:=by simpa[MemAct.ofEvent,MemAct.touch?] using hx.symm
 subst jB;refine⟨⟨?_,fun _=>rfl,fun h=>absurd h (F.sh ⟨b,o,none⟩ U)⟩,fun ad e=>?_,fun ad e=>?_⟩
 ·rintro(⟨a,e,h⟩|e|⟨a,e,h⟩)
  ·cases e;exact F.ks w _ h U
  ·cases e
  ·cases e
 ·cases e;exact Nat.lt_of_lt_of_le (F.s0 b U) hn
 ·cases e
theorem BC{K:Cfg}{es:Array Event}(h:∀e∈es,SL K w e):DM K w w es:=⟨fun _ _=>rfl,fun _ h=>h,Nat.le_refl _,h⟩
theorem wi{K:Cfg}[Go.ConcX.Payload]{i:Ph}(hi:i.early)(h:mL K i w aB):RM K w aB:=by
 cases i using Ph.bJ with
 | join=>exact hi.elim
 | _=>exact h
def fH(N:Nat):Array Value:=#[.chan (some (N+2)),.chan (some (N+4)),lT,.bool false]
theorem HW.start(F:Cfg.Fit (aC prog N Pb Shun val B Mine))(U:N+9≤w.heap.size):HW (aC prog N Pb Shun val B Mine) (nN w.heap.size lT) (w.alloc (.cells (fH N) 175)) w.heap.size lT lT [] false (w.alloc (.cells (fH N) 175)):=by have o:Own eS (cH (aC prog N Pb Shun val B Mine)) w (w.alloc (.cells (fH N) 175)):=Own.alloc (by simp[eS]);exact⟨heap_alloc_new w _,(xl F).new U o (Nat.le_refl _) (by simp[World.size_alloc]),.inl (.inl rfl),lu.none _ _ _ _ _,by simp[World.size_alloc]; show N+9≤_; omega,Kept.refl _⟩
variable [Go.ConcR.Payload][Go.ConcX.Payload]
variable [Go.ConcX.Shy (Cfg.Wg (aC prog N Pb Shun val B Mine)) (Cfg.C (aC prog N Pb Shun val B Mine))]
theorem M6{A F:World→Prop}{I:Nat→World→Prop}{b:Frame}{k:List Item}{cs:List Frame}{tm:Aq}{f:FuncId}{cap:Aq}{nv:Value}(Fi:Cfg.Fit (aC prog N Pb Shun val B Mine))(hb:b.fn=61)(hk:b.kind≠.early)(l:Iq)(hn:l.length≤1000000)
 (hA:∀w aB,RM (aC prog N Pb Shun val B Mine) w aB→A w→A aB)(a9:∀w cs,A w→A (w.alloc (.cells cs 175)))
 (a7:∀AW Rb w,N≤Rb→A w→HW (aC prog N Pb Shun val B Mine) (nN Rb lT) w Rb lT lT [] false w→ew prog (XM (aC prog N Pb Shun val B Mine) AW) f (#[.pointer (sq Rb)]++cap) (.front (V l)) w (fun i' _ w'=>∃Ex w₀ v' Kz oL IZ,Kz++oL=l∧En oL IZ i'∧HW (aC prog N Pb Shun val B Mine) Ex w₀ Rb v' v' Kz IZ w'∧(∀b,nN Rb v' b→N≤b)∧I Rb w'))
 (a4:∀Rb w aB,RM (aC prog N Pb Shun val B Mine) w aB→I Rb w→I Rb aB)(af:∀Rb Ex w₀ v tk en w w',HW (aC prog N Pb Shun val B Mine) Ex w₀ Rb v v tk en w→(∀b,nN Rb v b→N≤b)→Kept (cH (aC prog N Pb Shun val B Mine)) (gx (aC prog N Pb Shun val B Mine)) (nN Rb v) w w'→I Rb w→I Rb w')(ag:∀Rb w,I Rb w→F w)(ae:∀w aB,Go.ConcX.Aside2 N (N+6) w aB→F w→F aB)(U:HG N A w) :
  XM (aC prog N Pb Shun val B Mine) (wO (aC prog N Pb Shun val B Mine) F b k cs) (.front (V l)) (G ((base 111).at ⟨tm,[]⟩ [.inRegion (Rq Tryz.f111.body) []]) (b.at ⟨t47 N nv (.func (.func f) #[] cap) undef,[]⟩ (.inRegion (eW Tryz.f61.body 4) [1]::.code (.seq (.region 5 (eW Tryz.f61.body 5) false) (.seq (.region 6 (eW Tryz.f61.body 6) false) (.seq (.region 7 (eW Tryz.f61.body 7) false) (.region 8 (eW Tryz.f61.body 8) false))))::k)::cs)) w:=by
 generalize aa:wO (aC prog N Pb Shun val B Mine) F b k cs=AW;have C:aV prog true (mL (aC prog N Pb Shun val B Mine)) (rz (aC prog N Pb Shun val B Mine)) (XM (aC prog N Pb Shun val B Mine) AW):=XM.closed (K:=(aC prog N Pb Shun val B Mine));have T:=p7 (K:=(aC prog N Pb Shun val B Mine));have E:Env eS (N+9) (cH (aC prog N Pb Shun val B Mine)) (gx (aC prog N Pb Shun val B Mine)) (mL (aC prog N Pb Shun val B Mine) (.front (V l))) (rz (aC prog N Pb Shun val B Mine) (.front (V l))):=xm (K:=(aC prog N Pb Shun val B Mine)) Fi trivial;have rl:∀{w aB},HG N A w→mL (aC prog N Pb Shun val B Mine) (.front (V l)) w aB→HG N A aB:=fun h r=>HG.rm hA h r;refine C.step rfl fun _ aF=>?_;replace U:=rl U aF;clear aF;rw[stepG_region_end];simp only[goes_go];refine⟨(T (.front (V l))).idle _,?_⟩;refine C.step rfl fun _ aF=>?_;replace U:=rl U aF;clear aF;rw[stepG_end];simp only[goes_go];refine⟨(T (.front (V l))).idle _,?_⟩;refine C.step rfl fun _ aF=>?_;replace U:=rl U aF;clear aF;rw[stepG_leave (b:=base 111) rfl rfl func111 (results_none rfl _ _ _) (events_results_none rfl _ _)];simp only[goes_go];refine⟨(T (.front (V l))).idle _,?_⟩;rw[Frame.finish_at];have eI:((eW Tryz.f61.body 4)[1]?).bind (·.dst)=some 11:=by rfl
 rw[eI];have ht:(⟨t47 N nv (.func (.func f) #[] cap) undef,[]⟩:Act).put (some 11) (.tuple #[])=⟨t47 N nv (.func (.func f) #[] cap) (.tuple #[]),[]⟩:=by rfl
 rw[ht];refine C.step rfl fun _ aF=>?_;replace U:=rl U aF;clear aF;rw[stepG_region_end];simp only[goes_go];refine⟨(T (.front (V l))).idle _,?_⟩;refine C.step rfl fun _ aF=>?_;replace U:=rl U aF;clear aF;rw[stepG_seq];simp only[goes_go];refine⟨(T (.front (V l))).idle _,?_⟩;have h5:∀w,HG N A w→fx (XM (aC prog N Pb Shun val B Mine) AW) 61 (.region 5 (eW Tryz.f61.body 5) false) (.front (V l)) (fun i e a w=>e=.normal∧i=.front (V l)∧∃Rb,a=⟨#[nv,.func (.func f) #[] cap,.pointer (sq (N+1)),undef,.pointer (sq (N+3)),.pointer (sq (N+5)),.pointer (sq (N+6)),.pointer (sq Rb),.chan (some (N+2)),.chan (some (N+4)),fv N,.tuple #[],.chan (some (N+2)),.chan (some (N+4)),.agg (fH N),.pointer (sq Rb),undef,undef,undef,undef,undef,undef],[]⟩∧N≤Rb∧A w∧HW (aC prog N Pb Shun val B Mine) (nN Rb lT) w Rb lT lT [] false w) ⟨t47 N nv (.func (.func f) #[] cap) (.tuple #[]),[]⟩ w:=by
  have bd:=fun w=>run_build (P:=prog) w 175 #[(0,.chan (some (N+2))),(1,.chan (some (N+4)))] (fH N) (by kernel_rfl);have be:=fun w es=>iK (P:=prog) w 175 #[(0,.chan (some (N+2))),(1,.chan (some (N+4)))] (fH N) (by kernel_rfl) es;have bx:=fun w t v=>vg prog w t v;have bxe:=fun w t v es=>rE prog w t v es;intro w U;simp only[eW,qe,Tryz.f61,t47];refine aP C T ?_;simp only[Nat.reduceEqDiff,if_true,if_false,reduceIte,List.size_toArray,List.length_cons,List.length_nil,Nat.reduceAdd,Nat.zero_add,List.range,List.range.loop];refine aD C rfl (by rfl) fun _ hR Kx a0=>?_;replace U:=rl U hR;clear hR;have hc:=cell1 U.lv;go_simp;try (unfold stored; go_simp)
  refine a0 _ _ ⟨?_,?_⟩
  ·refine BC ?_;co_evs (exact ue (K:=(aC prog N Pb Shun val B Mine)) Fi (.inr (.inl rfl)) U.size)
  clear a0 Kx;try walk_nrm
  clear hc;refine aD C rfl (by rfl) fun _ hR Kx a0=>?_;replace U:=rl U hR;clear hR;have hc:=cell1 U.ev;go_simp;try (unfold stored; go_simp)
  refine a0 _ _ ⟨?_,?_⟩
  ·refine BC ?_;co_evs (exact ue (K:=(aC prog N Pb Shun val B Mine)) Fi (.inr (.inr (.inl rfl))) U.size)
  clear a0 Kx;try walk_nrm
  clear hc;refine aD C rfl (by rfl) fun _ hR Kx a0=>?_;replace U:=rl U hR;clear hR;go_simp;try (unfold stored; go_simp)
  refine a0 _ _ ⟨?_,?_⟩
  ·co_still (T _)
  clear a0 Kx;try walk_nrm
  refine aD C rfl (by rfl) fun _ hR Kx a0=>?_;replace U:=rl U hR;clear hR;go_simp;try (unfold stored; go_simp)
  refine a0 _ _ ⟨?_,?_⟩
  ·refine vt E U.size (Own.alloc (by simp[eS])) ?_;co_evs (skip)
  clear a0 Kx;try walk_nrm
  have hW:=HW.start (w:=_) Fi U.size;have a5:=Nat.le_trans (Nat.le_add_right N 9) U.size;replace U:=a9 _ (fH N) U.a;refine aD C rfl (by rfl) fun _ hR Kx a0=>?_;replace U:=hA _ _ (show RM (aC prog N Pb Shun val B Mine) _ _ from hR) U;replace hW:=(HW.Be (i:=.over) Fi hW (show RM (aC prog N Pb Shun val B Mine) _ _ from hR)).kP;clear hR;go_simp;refine a0 _ _ ⟨?_,?_⟩
  ·co_quiet (T _)
  clear a0 Kx;try walk_nrm
  refine aS C T ?_;exact⟨rfl,rfl,_,rfl,a5,U,hW⟩
 refine h5 _ U b (.code (.seq (.region 6 (eW Tryz.f61.body 6) false) (.seq (.region 7 (eW Tryz.f61.body 7) false) (.region 8 (eW Tryz.f61.body 8) false)))::k) cs hb hk ?_;clear U h5;rintro i e a w ⟨rfl,rfl,Rb,rfl,a5,U,hW⟩;show XM (aC prog N Pb Shun val B Mine) AW (.front (V l)) _ _;refine C.step rfl fun _ aF=>?_;replace U:=hA _ _ (show RM (aC prog N Pb Shun val B Mine) _ _ from aF) U;replace hW:=(HW.Be (i:=.over) Fi hW (show RM (aC prog N Pb Shun val B Mine) _ _ from aF)).kP;clear aF;rw[stepG_seq];simp only[goes_go];refine⟨(T (.front (V l))).idle _,?_⟩;have h6:∀w,A w→HW (aC prog N Pb Shun val B Mine) (nN Rb lT) w Rb lT lT [] false w→fx (XM (aC prog N Pb Shun val B Mine) AW) 61 (.region 6 (eW Tryz.f61.body 6) false) (.front (V l)) (fun i e a w=>e=.normal∧∃a2 Ex w₀ v tk rest en,a=⟨#[nv,.func (.func f) #[] cap,.pointer (sq (N+1)),undef,.pointer (sq (N+3)),.pointer (sq (N+5)),.pointer (sq (N+6)),.pointer (sq Rb),.chan (some (N+2)),.chan (some (N+4)),fv N,.tuple #[],.chan (some (N+2)),.chan (some (N+4)),.agg (fH N),.pointer (sq Rb),.func (.func f) #[] cap,.pointer (sq Rb),a2,undef,undef,undef],[]⟩∧tk++rest=l∧En rest en i∧HW (aC prog N Pb Shun val B Mine) Ex w₀ Rb v v tk en w∧(∀b,nN Rb v b→N≤b)∧I Rb w) ⟨#[nv,.func (.func f) #[] cap,.pointer (sq (N+1)),undef,.pointer (sq (N+3)),.pointer (sq (N+5)),.pointer (sq (N+6)),.pointer (sq Rb),.chan (some (N+2)),.chan (some (N+4)),fv N,.tuple #[],.chan (some (N+2)),.chan (some (N+4)),.agg (fH N),.pointer (sq Rb),undef,undef,undef,undef,undef,undef],[]⟩ w:=by
  intro w U hW;simp only[eW,qe,Tryz.f61];refine aP C T ?_;simp only[Nat.reduceEqDiff,if_true,if_false,reduceIte,List.size_toArray,List.length_cons,List.length_nil,Nat.reduceAdd,Nat.zero_add,List.range,List.range.loop];iterate 2
   refine aD C rfl (by rfl) fun _ aF Kx a0=>?_
   replace U:=hA _ _ (show RM (aC prog N Pb Shun val B Mine) _ _ from aF) U
   replace hW:=(HW.Be (i:=.over) Fi hW (show RM (aC prog N Pb Shun val B Mine) _ _ from aF)).kP
   clear aF
   go_simp
   try (unfold stored; go_simp)
   refine a0 _ _ ⟨?_,?_⟩
   ·co_quiet (T _)
   clear a0 Kx;try walk_nrm
  have a6:=a7 AW Rb _ a5 U hW;refine jl (f:=f) (first:=#[]) (cap:=cap) (uS:=.front (V l)) C T rfl (by rfl) rfl rfl (by simp[Act.eval]) rfl a6 ?_;rintro i a2 w ⟨Ex,w₀,v,tk,rest,en,h1,h2,h3,h5,h4⟩;refine aS C T ?_;exact⟨rfl,a2,Ex,w₀,v,tk,rest,en,rfl,h1,h2,h3,h5,h4⟩
 refine h6 _ U hW b (.code (.seq (.region 7 (eW Tryz.f61.body 7) false) (.region 8 (eW Tryz.f61.body 8) false))::k) cs hb hk ?_;clear U hW h6 E rl;rintro i e a w ⟨rfl,a2,Ex,w₀,v,tk,rest,en,rfl,a8,a1,hW,ah,hI⟩;show XM (aC prog N Pb Shun val B Mine) AW i _ _;refine C.step rfl fun _ aF=>?_;replace hI:=a4 _ _ _ (wi a1.early aF) hI;replace hW:=HW.Be (i:=.over) Fi hW (wi a1.early aF);clear aF;rw[stepG_seq];simp only[goes_go];refine⟨(T i).idle _,?_⟩;have h7:∀w,HW (aC prog N Pb Shun val B Mine) Ex w₀ Rb v v tk en w→I Rb w→fx (XM (aC prog N Pb Shun val B Mine) AW) 61 (.region 7 (eW Tryz.f61.body 7) false) i (fun i e a w=>e=.normal∧i=.over∧∃a3,a=⟨#[nv,.func (.func f) #[] cap,.pointer (sq (N+1)),undef,.pointer (sq (N+3)),.pointer (sq (N+5)),.pointer (sq (N+6)),.pointer (sq Rb),.chan (some (N+2)),.chan (some (N+4)),fv N,.tuple #[],.chan (some (N+2)),.chan (some (N+4)),.agg (fH N),.pointer (sq Rb),.func (.func f) #[] cap,.pointer (sq Rb),a2,.pointer (sq Rb),a3,undef],[]⟩∧I Rb w) ⟨#[nv,.func (.func f) #[] cap,.pointer (sq (N+1)),undef,.pointer (sq (N+3)),.pointer (sq (N+5)),.pointer (sq (N+6)),.pointer (sq Rb),.chan (some (N+2)),.chan (some (N+4)),fv N,.tuple #[],.chan (some (N+2)),.chan (some (N+4)),.agg (fH N),.pointer (sq Rb),.func (.func f) #[] cap,.pointer (sq Rb),a2,undef,undef,undef],[]⟩ w:=by
  intro w hW hI;simp only[eW,qe,Tryz.f61];refine aP C T ?_;simp only[Nat.reduceEqDiff,if_true,if_false,reduceIte,List.size_toArray,List.length_cons,List.length_nil,Nat.reduceAdd,Nat.zero_add,List.range,List.range.loop];refine aD C rfl (by rfl) fun _ aF Kx a0=>?_;replace hI:=a4 _ _ _ (wi a1.early aF) hI;replace hW:=HW.Be (i:=.over) Fi hW (wi a1.early aF);clear aF;go_simp;try (unfold stored; go_simp)
  refine a0 _ _ ⟨?_,?_⟩
  ·co_quiet (T _)
  clear a0 Kx;try walk_nrm
  refine jl C T rfl (by rfl) rfl rfl (by simp[Act.eval]) rfl (IY Fi l a8 hn hW.kP a1) ?_;rintro _ a3 w ⟨rfl,v2,hD⟩;refine aS C T ?_;exact⟨rfl,rfl,a3,rfl,af _ _ _ _ _ _ _ _ hW ah hD.old hI⟩
 refine h7 _ hW hI b (.code (.region 8 (eW Tryz.f61.body 8) false)::k) cs hb hk ?_;clear hW hI h7 a1;rintro i e a w ⟨rfl,rfl,a3,rfl,hI⟩;show XM (aC prog N Pb Shun val B Mine) AW .over _ _;subst aa;refine XM.Gr rfl fun aB aF Vr L hL=>?_;exact N6 ae hk rfl rfl (ag _ _ (a4 _ _ _ aF hI)) Vr
end
end Go.Proofs.YtgcaionclkbehaaGreatDoor
