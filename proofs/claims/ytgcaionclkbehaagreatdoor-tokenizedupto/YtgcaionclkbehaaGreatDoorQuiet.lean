import Derived.Test.YtgcaionclkbehaaGreatDoorLone
import Derived.Conc.TokenWalk
import Derived.Maps.AppendAt
import Derived.OwnWalk
import Derived.Conc.AppendWalk
import Derived.Test.YtgcaionclkbehaaGreatDoorChecked
import Derived.Lib.RuneBytes
import Derived.Lib.Builder
import Derived.Conc.WgGenN3
import Derived.Test.YtgcaionclkbehaaGreatDoorDone
import Derived.Conc.FxGenLone
import Derived.Conc.CrowdMono
set_option linter.all false
set_option maxHeartbeats 2000000
set_option maxRecDepth 100000
namespace Go.Proofs.YtgcaionclkbehaaGreatDoor
open Go.Conc Go.RowKit Tryz
section
/-- What the text of a child that goes round one weighs. -/
structure KC where
 c:Nat
variable [Inhabited KC]
variable {ops:Array Oper}{rest:List Nat}{fn:FuncId}{v:Value}{P:Program}{w w':World}
variable {x:Operand}{Pb b b' i id k o:Nat}{args' cap cs first xs:Aq}{e:Event}{c y:Code}{t ty:TypeId}{f:FuncId}{aY:Func}{args:Array Operand}{ats:Array TypeId}{v':Value}{vs:Vq}{fz:Nat × Nat}{K:Cfg}{es:Array Event}
structure cC{ι:Type}(P:Program)(main:Bool)(R:ι->Wq)(D:ι->World->World->Array Event->Prop)(X:ι->Gq):Prop where
 rely:∀{vs g w aL},X vs g w->R vs w aL->X vs g aL
 step:∀{vs g w},g.status=.running->(∀aL,R vs w aL->(stepG P main g aL).goes λg' w' es=>D vs aL w' es/\X vs g' w')->X vs g w
def sT{ι:Type}(X:ι->Gq)(vs:ι)(b:Frame)(k:List Item)(cs:List Frame):Exit->Act->World->Prop
 | .normal,a,w=>X vs (G (b.at a k) cs) w
 | .exit id,a,w=>∃k',exitTo id k=some k'/\X vs (G (b.at a k') cs) w
 | .ret,a,w=>∀todo,X vs (G { b.at a todo with mode:=.returning } cs) w
 | _,_,_=>False
abbrev fO(ι:Type):=ι->Exit->Act->World->Prop
def y6{ι:Type}(T:ι->Act->World->Prop)(Q:fO ι):fO ι
 | vs,.normal,a,w=>T vs a w
 | vs,e,a,w=>Q vs e a w
def kv{ι:Type}(id:Nat)(Q:fO ι):fO ι
 | vs,.exit WZ,a,w=>if WZ=id then Q vs .normal a w else Q vs (.exit WZ) a w
 | vs,e,a,w=>Q vs e a w
def il {ι:Type}(X:ι->Gq)(fn:FuncId)(c:Code)(vs:ι)(Q:fO ι)(a:Act)(w:World):Prop :=
 ∀(b:Frame) (k:List Item) (cs:List Frame),b.fn=fn->b.kind≠.early->(∀gT e a' w',Q gT e a' w'->sT X gT b k cs e a' w')->X vs (G (b.at a (.code c::k)) cs) w
def cM {ι:Type}(X:ι->Gq)(fn:FuncId)(ops:Array Oper)(todo:List Nat)(vs:ι)(Q:fO ι)(a:Act)(w:World):Prop :=
 ∀(b:Frame) (k:List Item) (cs:List Frame),b.fn=fn->b.kind≠.early->(∀gT e a' w',Q gT e a' w'->sT X gT b k cs e a' w')->X vs (G (b.at a (.inRegion ops todo::k)) cs) w
variable {a:Act}
section
variable {ι:Type}{main:Bool}{R:ι->Wq}{D:ι->World->World->Array Event->Prop}{X:ι->Gq}{Q Q':fO ι}{vs:ι}
theorem sT.push{x:Item}{b:Frame}{k:List Item}{cs:List Frame}{e:Exit}(g:x.plain=true)(U:e≠.normal)(h:sT X vs b k cs e a w):sT X vs b (x::k) cs e a w:=by
 cases e with
 | normal=>exact absurd Y U
 | exit id=>obtain⟨d,f,c⟩:=h;exact⟨d,by cases x<;>simp_all [exitTo,Item.plain],c⟩
 | ret=>exact h
 | goto l=>exact h
 | panic ch=>exact h
 | outgrown=>exact h
def lK(h:il X fn c vs Q a w)(hq:∀vs e a w,Q vs e a w->Q' vs e a w):il X fn c vs Q' a w:=λb k cs hb hk hc=>h b k cs hb hk λgT e a' w' q=>hc gT e a' w'<|hq gT e a' w' q
section
variable (C:cC P main R D X)
section
variable (T:∀i,Terms (R i)<|D i)
def kI(h:Q vs .normal a w):il X fn .skip vs Q a w:=λb k f _ _ e=>C.step Y λd c=>by exact⟨(T vs).idle _,C.rely (e _ _ _ _ h) c⟩
def qc(h:Q vs .ret a w):il X fn .ret vs Q a w:=λb k f _ _ e=>C.step Y λd c=>by exact⟨(T vs).idle _,C.rely (e _ _ _ _ h _) c⟩
def pz(h:Q vs (.exit id) a w):il X fn (.exit id) vs Q a w:=λb k i _ _ f=>by have⟨j,d,g⟩:=f _ _ _ _ h;exact C.step Y λe c=>by rw[stepG_exit d];exact⟨(T vs).idle _,C.rely g c⟩
def Jz{l:Nat}(h:Q vs .normal a w):il X fn (.label l) vs Q a w:=λb k f _ _ e=>C.step Y λd c=>by exact⟨(T vs).idle _,C.rely (e _ _ _ _ h) c⟩
def bY{x:Code}(h:il X fn x vs (y6 (λf i n=>il X fn y f Q i n) Q) a w):il X fn (.seq x y) vs Q a w:=by
 intro b k g j m c;have p:X vs (G (b.at a (.code x::.code y::k)) g) w:=by
  refine h b _ g j m λf e i n q=>?_;cases e with
  | normal=>exact q b k g j m c
  | exit id=>exact(c _ _ _ _ q).push Y iq
  | ret=>exact(c _ _ _ _ q).push Y iq
  | goto l=>exact c _ _ _ _ q
  | panic ch=>exact c _ _ _ _ q
  | outgrown=>exact c _ _ _ _ q
 exact C.step Y λo d=>by exact⟨(T vs).idle _,C.rely p d⟩
def dP{c:Operand}{x:Code}{t:Bool}(hc:a.eval c=.bool t)(h:il X fn (if t then x else y) vs Q a w):il X fn (.cond c x y) vs Q a w :=
 λb k cs hb hk hq=>C.step Y λaL cP=>by rw[stepG_cond hc];exact⟨(T vs).idle _,C.rely (h b k cs hb hk hq) cP⟩
end
end
theorem fX(C:cC P main R D X)(T:∀i,Terms (R i)<|D i)(h:il X fn c vs (kv id Q) a w):il X fn (.block id c) vs Q a w:=by
 intro b k j o r U;have s:X vs (G (b.at a (.code c::.inBlock id::k)) j) w:=by
  refine h b _ j o r λn e u v q=>?_;cases e with
  | normal=>exact C.step Y λf d=>by exact⟨(T n).idle _,C.rely (U _ _ _ _ q) d⟩
  | exit a1 =>
   by_cases g:a1=id
   .simp only[kv,g,if_true] at q;exact⟨k,by simp[exitTo,g],U _ _ _ _ q⟩
   .simp only[kv,g,if_false] at q;have⟨t,m,p⟩:=U _ _ _ _ q;have:(id==a1)=false:=gq
    exact⟨t,by simp[exitTo,this,m],p⟩
  | ret=>exact U _ _ _ _ q
  | goto l=>exact U _ _ _ _ q
  | panic ch=>exact U _ _ _ _ q
  | outgrown=>exact U _ _ _ _ q
 exact C.step Y λf d=>by exact⟨(T vs).idle _,C.rely s d⟩
section
variable (C:cC P main R D X)
section
variable (T:∀i,Terms (R i)<|D i)
def w5(I:Nat->ι->Act->World->Prop)(n:Nat)(Tw:I n vs a w)
 (round:∀n vs a w,I n vs a w->il X fn c vs (y6 (λgT a' w'=>∃n',n'<n/\I n' gT a' w') Q) a w):il X fn (.loop c) vs Q a w:=by
 intro b k cs hb hk hc;have key:∀n vs a w,I n vs a w->X vs (G (b.at a (.code c::.inLoop c::k)) cs) w:=by
  intro n;induction n using Nat.strongRecOn with
  | _ n ih =>
   intro vs a w hI;refine round n vs a w hI b _ cs hb hk λgT e a' w' q=>?_;cases e with
   | normal =>obtain⟨n',hn,V8⟩:=q;exact C.step Y λaL cP=>by exact⟨(T gT).idle _,C.rely (ih n' hn gT a' w' V8) cP⟩
   | exit id=>exact(hc _ _ _ _ q).push Y iq
   | ret=>exact(hc _ _ _ _ q).push Y iq
   | goto l=>exact hc _ _ _ _ q
   | panic ch=>exact hc _ _ _ _ q
   | outgrown=>exact hc _ _ _ _ q
 exact C.step Y λaL cP=>by exact⟨(T vs).idle _,C.rely (key n vs a w Tw) cP⟩
def aW(h:cM X fn ops (List.range ops.size) vs Q a w):il X fn (.region id ops false) vs Q a w :=
 λb k cs hb hk hc=>C.step Y λaL cP=>by exact⟨(T vs).idle _,C.rely (h b k cs hb hk hc) cP⟩
def bv(h:Q vs .normal a w):cM X fn ops [] vs Q a w:=λb k f _ _ e=>C.step Y λd c=>by exact⟨(T vs).idle _,C.rely (e _ _ _ _ h) c⟩
def dR{o:Oper}(ho:ops[i]?=some o)(hw:Region.wanted o (yielded ops a.tmps)=false)(h:cM X fn ops rest vs Q (a.put o.dst undef) w):cM X fn ops (i::rest) vs Q a w :=
 λb k cs hb hk hc=>C.step Y λaL cP=>by rw[stepG_unwanted ho hw];exact⟨(T vs).idle _,C.rely (h b k cs hb hk hc) cP⟩
end
end
theorem aM(C:cC P main R D X){o:Oper}(p:ops[i]?=some o)(q:Region.wanted o (yielded ops a.tmps)=true)
 (h:∀c,R vs w c->∀K:Act->World->Prop,(∀j f,D vs c f (listed P fn a o c)/\cM X fn ops rest vs Q j f->K j f)->uponK o a K ((execOp a.eval o).run P c)):cM X fn ops (i::rest) vs Q a w:=by
 intro b k m l U n;refine C.step Y λc e=>goes_oper p q U ?_
 have:=h c e _ λ_ _ x=>x;revert this;cases (execOp a.eval o).run P c with
 | ok x f=>cases x<;>first|exact λ⟨d,g⟩=>⟨l▸d,g b k m l U n⟩|exact id
 | halt _ _=>exact id
def II(C:cC P main R D X)(T:∀i,Terms (R i)<|D i){o:Oper}{first cap:Array Value}
 (ho:ops[i]?=some o)(hw:Region.wanted o (yielded ops a.tmps)=true)(lx:o.op=.call { callee:=.value x,args,argTypes:=ats })(hx:a.eval x=.func (.func f) first cap)
 (hf:P.funcs[f]?=some aY)(mR:(aY.name == "runtime.NumGoroutine")=false)(hb:aY.body=some c)
 (h:il X f c vs (λgT e a' w'=>(e=.normal\/e=.ret)/\a'.defers=[]/\∃v,ResultsC P aY a'.tmps v/\cM X fn ops rest gT Q (a.put o.dst v) w')
   { tmps:=(first++args.map a.eval++cap)++Array.replicate (aY.ntmps-(first++args.map a.eval++cap).size) undef,defers:=[] } w):cM X fn ops (i::rest) vs Q a w:=by
 intro b k cs tv hk hc;have Yl:aY.body.isNone=false:=by rw[hb]; rfl
 have Ik:∀v,(b.at a _).finish v=b.at (a.put o.dst v) (.inRegion ops rest::k):=λv=>by rw[Frame.finish_at,ho]; rfl
 have vS:∀(gT:ι) (a':Act) (w':World) todo,(a'.defers=[]/\∃v,ResultsC P aY a'.tmps v/\cM X fn ops rest gT Q (a.put o.dst v) w') ->
   X gT (G { (base f).at a' todo with mode:=.returning } (b.at a (.inRegion ops (i::rest)::k)::cs)) w':=by rintro gT a' w' todo ⟨hd,v,hr,hp⟩;refine C.step Y λaL cP=>?_;rw[stepG_leave Y hd hf (hr aL).1 (hr aL).2,Ik];exact⟨(T gT).idle _,C.rely (hp b k cs tv hk hc) cP⟩
 refine C.step Y λaL cP=>?_;obtain⟨hr,he⟩:=kY lx hx hf mR Yl;rw[stepG_enter ho hw hk hr,enter_at _ hf hb];have hl:listed P b.fn a o aL=#[]:=listed_nil he;rw[hl];refine⟨(T vs).idle _,C.rely (h (base f) [] _ Y (by simp[base]) λgT e a' w' q=>?_) cP⟩;obtain⟨ZG,q⟩:=q;rcases ZG with rfl|rfl
 .exact C.step Y λql Lj=>by rw[stepG_end]; exact⟨(T gT).idle _,C.rely (vS gT a' w' [] q) Lj⟩
 .exact λtodo=>vS gT a' w' todo q
def fx(P:Program)(X:ι->Goroutine->World->Prop)(f:FuncId)(args:Array Value)(vs:ι)(w:World)(Post:ι->Value->World->Prop):Prop :=
 ∃ aY c,P.funcs[f]?=some aY/\(aY.name == "runtime.NumGoroutine")=false/\aY.body=some c /\
  il X f c vs (λgT e a' w'=>(e=.normal\/e=.ret)/\a'.defers=[]/\∃v,ResultsC P aY a'.tmps v/\Post gT v w') { tmps:=args++Array.replicate (aY.ntmps-args.size) undef,defers:=[] } w
def iu{args:Array Value}{Post:ι->Value->World->Prop}(hf:P.funcs[f]?=some aY)(mR:(aY.name == "runtime.NumGoroutine")=false)(hb:aY.body=some c)
 (h:il X f c vs (λgT e a' w'=>(e=.normal\/e=.ret)/\a'.defers=[]/\∃v,ResultsC P aY a'.tmps v/\Post gT v w') { tmps:=args++Array.replicate (aY.ntmps-args.size) undef,defers:=[] } w):fx P X f args vs w Post:=⟨aY,c,hf,mR,hb,h⟩
def jS(C:cC P main R D X)(T:∀i,Terms (R i)<|D i){o:Oper}{zd:ι}{Post:ι->Value->World->Prop}
 (u:ops[i]?=some o)(y:Region.wanted o (yielded ops a.tmps)=true)(l:o.op=.call { callee:=.value x,args,argTypes:=ats })(z:a.eval x=.func (.func f) first cap)
 (d:first++args.map a.eval++cap=args')(m:vs=zd)
 (g:fx P X f args' zd w Post)(j:∀b v k,Post b v k->cM X fn ops rest b Q (a.put o.dst v) k):cM X fn ops (i::rest) vs Q a w:=by subst d m;have⟨n,c,s,t,r,h⟩:=g;refine II C T u y l z s t r<|lK h λb e A k q=>?_;have⟨h1,h2,v,h3,p⟩:=q;exact⟨h1,h2,v,h3,j b v k p⟩
end
abbrev Ph:=Sum (Vq)<|Sum (Vq)<|Sum Unit Nat
abbrev Ph.front(vs:Vq):Ph:=.inl vs
abbrev Ph.walk(vs:Vq):Ph:=.inr<|.inl vs
abbrev Ph.over:Ph:=.inr<|.inr<|.inl ()
abbrev Ph.join(L:Nat):Ph:=.inr<|.inr<|.inr L
theorem Ph.cF{motive:Ph->Prop}(front:∀(vs:Vq),motive<|Ph.front vs)(walk:∀(vs:Vq),motive<|Ph.walk vs)(over:motive Ph.over)(join:∀L:Nat,motive<|Ph.join L)(x:Ph):motive x:=gq
section
variable (K:Cfg)[ConcX.Payload][ConcR.Payload][ConcX.Shy K.Wg K.C](Az:Gq)
def re:Ph->World->World->Prop
 | .inr (.inr<|.inr _)=>mn K
 | _=>RM K
def xE:Ph->World->World->Array Event->Prop
 | .inr (.inr<|.inr L)=>sV K L
 | _=>DM K
def XM:Ph->Goroutine->World->Prop
 | .inl vs=>Way K.P true (RM K) (DM K)<|mg K Az vs
 | .inr (.inl vs)=>Way K.P true (RM K) (DM K)<|mg K Az vs
 | .inr (.inr<|.inl _)=>Way K.P true (RM K) (DM K)<|zv K Az
 | .inr (.inr<|.inr L)=>Way K.P true (mn K) (sV K L)<|JQ K L Az
end
variable {aL ql:World}
section
variable {K:Cfg}[ConcX.Payload][ConcR.Payload][ConcX.Shy K.Wg K.C]{Az:Gq}{i:Ph}
def yT(h:mn K w aL)(h':mn K aL ql):mn K w ql :=
 ⟨⟨h'.aside.tape.trans h.aside.tape,h'.aside.os.trans h.aside.os,h'.aside.output.trans h.aside.output,h'.aside.size.trans h.aside.size,λb a c=>(h'.aside.block b a c).trans<|h.aside.block b a c⟩,h'.ka ∘ h.ka,h'.kc ∘ h.kc⟩
def re.trans(h:re K i w aL)(a:re K i aL ql):re K i w ql:=by
 cases i using Ph.cF with
 | join=>exact yT h a
 | _=>exact RM.trans h a
def tU(i:Ph):Terms (re K i) (xE K i):=by
 refine⟨λ_ _ _=>re.trans,λw=>?_⟩;cases i using Ph.cF with
 | join=>exact⟨λ_ _=>Y,iq⟩
 | _=>exact⟨λ_ _=>Y,λ_ h=>h,lr,iq⟩
def XM.closed:cC K.P true (re K) (xE K) (XM K Az) where
 rely:=by
  intro i g w a h d
  cases i using Ph.cF with
  | join=>exact Way.rely (λ_ _ _=>yT) h d
  | _=>exact Way.rely (λ_ _ _=>RM.trans) h d
 step:=by
  intro i g w f h
  cases i using Ph.cF <;>
  .
   refine Way.step f λa c=>?_
   have b:=h a c
   cases e:stepG K.P true g a with
   | go g' w' es=>rw[e] at b;exact⟨g',w',es,Y,b.1,b.2⟩
   | _=>rw[e] at b;exact b.elim
def XM.Lv{g:Goroutine}(hs:g.status=.running)(h:∀aL,RM K w aL->DN K aL->∀L,K.N0<=L->XM K Az (.join L) g aL):XM K Az .over g w :=
 Way.stop λaL cP=>⟨hs,λhk L hL=>h aL cP hk L hL⟩
variable {j:Nat}{o:Oper}{Q:fO Ph}
def ME{l:Bool}{Next:Gq}(i:ops[j]?=some o)(q:Region.wanted o (yielded ops a.tmps)=true){b:Frame}{d:List Item}{cs:List Frame}(g:b.kind≠.early)
 (n:∀w,(execOp a.eval o).run K.P w=.ok (.comm K.cases true .select) w)(m:∀w,(execOp a.eval o).events K.P w #[]=#[])
 (h:∀c,RM K w c->K.N0<=c.heap.size->Next (G (b.at (a.put o.dst<|commResult K.cases .select k v l) (.inRegion ops rest::d)) cs) c):Br K k v l Next (G (b.at a (.inRegion ops (j::rest)::d)) cs) w:=by
 refine⟨Y,G _ cs,Y,Y,Y,λc _=>?_,λc f p=>?_⟩
 .rw[stepG_comm i q g (n c),listed_none<|m c]
 .have e:∀u,Conc.served (G _ cs) u=G _ cs:=λu=>by
   have:(b.at a (.inRegion ops (j::rest)::d)).finish u=b.at (a.put o.dst u) (.inRegion ops rest::d):=by rw[Frame.finish_at,i];rfl
   simp only[Conc.served,G];rw[this]
  rw[e];exact h c f p
def CC(hi:i=.front (v::vs)\/i=.walk (v::vs))(p:ops[j]?=some o)(s:Region.wanted o (yielded ops a.tmps)=true)
 (q:∀w,(execOp a.eval o).run K.P w=.ok (.comm K.cases true .select) w)(n:∀w,(execOp a.eval o).events K.P w #[]=#[])
 (h:∀c,RM K w c->K.N0<=c.heap.size->cM (XM K Az) fn ops rest (.walk vs) Q (a.put o.dst<|commResult K.cases .select 0 v true) c):cM (XM K Az) fn ops (j::rest) i Q a w:=by
 intro b t k l d m;rcases hi with rfl|rfl <;>
 .refine Way.stop λc e=>(ME p s d q n λg f r=>?_);rw[vY];exact h g (RM.trans e f) r b t k l d m
def Me(hi:i=.front []\/i=.walk [])(p:ops[j]?=some o)(s:Region.wanted o (yielded ops a.tmps)=true)
 (q:∀w,(execOp a.eval o).run K.P w=.ok (.comm K.cases true .select) w)(n:∀w,(execOp a.eval o).events K.P w #[]=#[])
 (h:∀c,RM K w c->K.N0<=c.heap.size->cM (XM K Az) fn ops rest .over Q (a.put o.dst<|commResult K.cases .select 1 K.zE false) c):cM (XM K Az) fn ops (j::rest) i Q a w:=by
 intro b t k l d m;rcases hi with rfl|rfl <;>
 .exact Way.stop λc e=>(ME p s d q n λg f r=>(h g (RM.trans e f) r b t k l d m))
end
def ZI (P:Program)(Post:Value->World->Prop)(d:Nat)(S:Nat->Prop)(g:Goroutine)(w:World):Prop:=∀N,Z P Post (λb=>¬S b) N d g w
def EvS (S:Nat->Prop)(e:Event):Prop:=(∀x,(MemAct.ofEvent e).touch?=some x->∀ad:Addr,x.loc=.cell ad->¬S ad.block)/\e.loc≠.mark .disable/\e.loc≠.mark .enable
def DZ (S:Nat->Prop)(_ _:World)(es:Array Event):Prop:=∀e∈es,EvS S e
section
variable {Post:Value->World->Prop}{d d':Nat}{S:Nat->Prop}{g g':Goroutine}
def ZI.closed:cC P true (λ_:Nat->Prop=>AtRel) DZ (ZI P Post d) where
 rely:=λ{S g w a} h hr N=>(Z.closed).rely (vs:=()) (h N) hr
 step:=by
  intro S g w m h N
  refine(Z.closed).step (vs:=()) m λa f=>?_
  have c:=h a f
  cases e:stepG P true g a with
  | go g' w' es =>
   rw[e] at c
   rw[goes_go]
   exact⟨λi j=>⟨λx n k l=>.inl<|(c.1 i j).1 x n k l,(c.1 i j).2.1,(c.1 i j).2.2⟩,c.2 N⟩
  | _=>rw[e] at c;exact c.elim
def tV(S:Nat->Prop):Terms AtRel (DZ S):=⟨atRel_trans,λ_ e a=>by simp at a⟩
def ZI.done(c:g.status=.running)(a:∀e,stepG P true g (w.at e)=.ended (.done v) (w.at e) #[])(b:∀e,Post v<|w.at e):ZI P Post 0 S g w:=λ_=>Z.done c a b
def ZI.goes{k:Event->Prop}{Stop:Gq}{n:Nat}(i:∀e,k e->EvS S e)(b:∀g w,(∀a,AtRel w a->Stop g a)->ZI P Post d S g w)(h:Goes P true AtRel (λ_ _ j=>∀e∈j,k e) Stop n g w):ZI P Post d S g w:=by
 induction n generalizing g w with
 | zero=>exact b _ _ h
 | succ n m =>
  rcases h with h|⟨hs,h⟩
  .exact b _ _ h
  .refine ZI.closed.step hs λa f=>?_;have c:=h a f;cases e:stepG P true g a with
   | go g' w' j=>rw[e] at c;exact⟨λe l=>i e<|c.1 e l,m c.2⟩
   | _=>rw[e] at c;exact c.elim
def uH{m:Mark}{Next:Gq}(p:(MemAct.mark m).touch?=none)(o:deafBehind d #[⟨.mark m,false,true⟩]=d')(r:∀g w,Next g w->ZI P Post d' S g w)(h:∀a,AtRel w a->g.status=.running/\∃f,stepG P true g a=.go f a #[⟨.mark m,false,true⟩]/\Next f a):ZI P Post d S g w:=by intro N;refine Z.pick (h w<|atRel_refl w).1 λe b y q t s n i=>?_;have⟨_,v,c,l⟩:=h (w.at e) ⟨e,Y⟩;refine⟨_,_,runT_crowd_go i.h0<|show stepG P (0==0) g (w.at e)=_ from c,r _ _ l N e b _ q _ s n<|i.own (λu j x k _=>?_) o⟩;rw[GD] at j;subst j;rw[show MemAct.ofEvent ⟨.mark m,false,true⟩=.mark m from Y,p] at k;cases k
def ZI.fork{a:Goroutine}(q:g.status=.running)(i:∀e,stepG P true g (w.at e)=.spawn g' a (w.at e) #[])
 (h:∀(e:Nat) (Shun:Loc->Prop),(∀l,Shun l->∃d:Addr,l=.cell d/\S d.block)->∃K j k m b c r f n,Forked P Post Shun g' a (w.at e) K j k m b c r f n):ZI P Post 0 S g w:=by intro N;refine Z.fork q i λe Shun o=>h e Shun λl p=>?_;obtain⟨d,rfl,_,h2⟩:=o l p;exact⟨d,Y,Classical.not_not.1 h2⟩
abbrev E8(K:Cfg)(F:K.Fit)(stop:Gq):ConcX.Shy K.Wg K.C where
 ok:=λact=>(∀z,act.touch?=some z->(∃ad:Addr,z.loc=.cell ad/\ad.block=K.C)\/(∃ad:Addr,z.loc=.cell ad/\ad.block=K.Wg/\z.kind≠.plain))/\act.low K.B
 atomicWg:=λa wr h=>⟨λz hz=>.inr<|by
  simp only[MemAct.touch?,Option.some.injEq] at hz
  subst hz
  exact⟨a,Y,h,iq⟩,by show a.block<K.B; rw[h]; exact F.WB⟩
 readWg:=λa h=>⟨λz hz=>.inr<|by
  simp only[MemAct.touch?,Option.some.injEq] at hz
  subst hz
  exact⟨a,Y,h,iq⟩,by show a.block<K.B; rw[h]; exact F.WB⟩
 writeWg:=λa h=>⟨λz hz=>.inr<|by
  simp only[MemAct.touch?,Option.some.injEq] at hz
  subst hz
  exact⟨a,Y,h,iq⟩,by show a.block<K.B; rw[h]; exact F.WB⟩
 theirs:=λa wr h=>⟨λz hz=>.inl<|by
  simp only[MemAct.touch?,Option.some.injEq] at hz
  subst hz
  exact⟨a,Y,h⟩,by show a.block<K.B; rw[h]; exact F.CB⟩
 disable:=⟨λx hx=>(by cases hx),trivial⟩
 enable:=⟨λx hx=>(by cases hx),trivial⟩
 relMerge:=⟨λx hx=>(by cases hx),F.WB⟩
 acquire:=⟨λx hx=>(by cases hx),F.WB⟩
 go1:=⟨λx hx=>(by cases hx),trivial⟩
 start:=⟨λx hx=>(by cases hx),trivial⟩
 stop:=stop
end
def xl (M:Nat->Prop)(e:Event):Prop :=
 (∃ad:Addr,e.loc=.cell ad/\M ad.block)\/(∃b wr,e=⟨.obj b,wr,false⟩/\M b)\/((MemAct.ofEvent e).touch?=none/\e.loc≠.mark .disable/\e.loc≠.mark .enable/\∀a,MemAct.ofEvent e≠.mark (.release a))
structure Own(KT:TypeId->Prop)(M:World->Nat->Prop)(w w':World):Prop where
 tape:w'.tape=w.tape
 os:w'.os=w.os
 output:w'.output=w.output
 grow:w.heap.size<=w'.heap.size
 block:∀b,b<w.heap.size->¬M w b->w'.heap[b]?=w.heap[b]?
 kt:∀(b:Nat) (o:Obj),w'.heap[b]?=some o->KT (NM o)->w'.heap[b]?=w.heap[b]?
structure Env(KT:TypeId->Prop)(N0:Nat)(M:World->Nat->Prop)(O:Nat->Prop)(R:Wq)(D:World->World->Array Event->Prop):Prop where
 lt:∀{w:World} {b:Nat},M w b->b<w.heap.size
 keep:∀{w aL:World} {b:Nat},R w aL->M w b->aL.heap[b]?=w.heap[b]?
 stay:∀{w aL:World} {b:Nat},R w aL->M w b->M aL b
 tape:∀{w aL:World},R w aL->aL.tape=w.tape
 os:∀{w aL:World},R w aL->aL.os=w.os
 output:∀{w aL:World},R w aL->aL.output=w.output
 size:∀{w aL:World},R w aL->w.heap.size<=aL.heap.size
 jb:∀{w w':World} {es:Array Event},N0<=w.heap.size->Own KT M w w'->(∀e∈es,xl (M w') e)->D w w' es
 mine:∀{w w':World} {b:Nat},Own KT M w w'->M w b->M w' b
 new:∀{w w':World} {b:Nat},N0<=w.heap.size->Own KT M w w'->w.heap.size<=b->b<w'.heap.size->M w' b
 PM:∀{w aL:World} {b:Nat},R w aL->O b->b<w.heap.size->aL.heap[b]?=w.heap[b]?
 jx:∀{w w':World} {b:Nat},O b->b<w'.heap.size->M w b->M w' b
 xZ:∀w:World,R w { w with drawn:=w.drawn+1 }
 F7:LetsDraw D
structure Kept(M:World->Nat->Prop)(O:Nat->Prop)(Ex:Nat->Prop)(w₀ w:World):Prop where
 tape:w.tape=w₀.tape
 os:w.os=w₀.os
 output:w.output=w₀.output
 grow:w₀.heap.size<=w.heap.size
 block:∀b,M w₀ b->¬Ex b->w.heap[b]?=w₀.heap[b]?
 mine:∀b,M w₀ b->M w b
 low:∀b,O b->b<w₀.heap.size->¬Ex b->w.heap[b]?=w₀.heap[b]?
variable {KT:TypeId->Prop}{N0:Nat}{M:World->Nat->Prop}{O Ex:Nat->Prop}{R:Wq}{D:World->World->Array Event->Prop}{w₀:World}
section
variable {NY:Nat->Prop}
def Own.refl(w:World):Own KT M w w:=⟨Y,Y,Y,lr,λ_ _ _=>Y,λ_ _ _ _=>Y⟩
def dM:=@Own.refl
def Own.alloc(e:¬KT t)(fz:Nat × Nat:=(0,0)):Own KT M w (w.alloc<|.cells cs t fz):=by
 refine⟨Y,Y,Y,by simp[World.size_alloc],λb a _=>Below.heap_alloc _ _ _ a,λb f h d=>?_⟩;by_cases a:b<w.heap.size
 .exact Below.heap_alloc _ _ _ a
 .have c:=(oa.1 h).1;have:b=w.heap.size:=by simp[World.size_alloc] at c;omega
  subst this;rw[heap_alloc_new] at h;cases h;exact absurd d e
def ec:=@Own.alloc
section
variable (hb:w.heap[b]?=some (.cells cs t fz))
def Own.setCell{x:Value}(c:M w b)(d:¬KT t):Own KT M w (w.setCell ⟨b,o,none⟩ x):=by
 refine⟨Y,Y,Y,by simp,λk _ a=>Below.heap_setCell _ _ _ _<|λe=>a<|e▸c,λk f h a=>?_⟩;by_cases e:k=b
 .subst e;have:(w.setCell ⟨k,o,none⟩ x).heap[k]?=some (.cells (cs.setIfInBounds o x) t fz):=by simp[World.setCell,Ii,hb]
  rw[this] at h;cases h;exact absurd a d
 .exact Below.heap_setCell _ _ _ _ e
def Own.setRow(d:M w b)(f:¬KT t):Own KT M w (w.setRow b xs):=by
 have c:∀k,k≠b->(w.setRow b xs).heap[k]?=w.heap[k]?:=λk a=>by simp[World.setRow,Ii,Ne.symm a]
 refine⟨Y,Y,Y,by simp,λk _ a=>c k<|λe=>a<|e▸d,λk g h a=>?_⟩;by_cases e:k=b
 .subst e;have:(w.setRow k xs).heap[k]?=some (.cells xs t fz):=by simp[World.setRow,Ii,hb]
  rw[this] at h;cases h;exact absurd a f
 .exact c k e
end
def pF{o:Obj}(e:¬KT (NM o)):Own KT M w (w.alloc o):=by
 refine⟨Y,Y,Y,by simp[World.size_alloc],λb a _=>Below.heap_alloc _ _ _ a,λb f h d=>?_⟩;by_cases a:b<w.heap.size
 .exact Below.heap_alloc _ _ _ a
 .have c:=(oa.1 h).1;have:b=w.heap.size:=by simp[World.size_alloc] at c;omega
  subst this;rw[heap_alloc_new] at h;cases h;exact absurd d e
theorem A9{o:Obj}(c:¬KT (NM o))(a:M w b):Own KT M w { w with heap:=w.heap.setIfInBounds b o }:=by
 refine⟨Y,Y,Y,iq,λk _ U=>?_,λk d h U=>?_⟩
 .grind
 .grind
def Kept.refl(w:World):Kept M O Ex w w:=⟨Y,Y,Y,lr,λ_ _ _=>Y,λ_ h=>h,λ_ _ _ _=>Y⟩
section
variable (E:Env KT N0 M O R D)
section
variable (h:Kept M O Ex w₀ w)
def Kept.rely(r:R w aL):Kept M O Ex w₀ aL :=
 ⟨(E.tape r).trans h.tape,(E.os r).trans h.os,(E.output r).trans h.output,lT h.grow<|E.size r,λb hb hx=>(E.keep r<|h.mine b hb).trans<|h.block b hb hx,λb hb=>E.stay r<|h.mine b hb,λb ho hl hn=>(E.PM r ho<|lL hl h.grow).trans<|h.low b ho hl hn⟩
def Kept.own(o:Own KT M w w')(hx:∀b,M w₀ b->¬Ex b->w'.heap[b]?=w.heap[b]?):Kept M O Ex w₀ w' :=
 ⟨o.tape.trans h.tape,o.os.trans h.os,o.output.trans h.output,lT h.grow o.grow,λb hb hn=>(hx b hb hn).trans<|h.block b hb hn,λb hb=>E.mine o<|h.mine b hb,λb ho hl hn=>((Classical.em<|M w b).elim (λhm=>hx b (E.jx ho hl hm) hn)<|λhm=>o.block b (lL hl h.grow) hm).trans<|h.low b ho hl hn⟩
def Kept.trans(h':Kept M O NY w aL)(hx:∀b,NY b->Ex b\/w₀.heap.size<=b):Kept M O Ex w₀ aL :=
 ⟨h'.tape.trans h.tape,h'.os.trans h.os,h'.output.trans h.output,lT h.grow h'.grow,λb hb hn=>(h'.block b (h.mine b hb) λz=>(hx b z).elim hn λz=>absurd (E.lt hb) oq).trans<|h.block b hb hn,λb hb=>h'.mine b<|h.mine b hb,λb ho hl hn=>(h'.low b ho (lL hl h.grow) λz=>(hx b z).elim hn λz=>absurd hl oq).trans<|h.low b ho hl hn⟩
end
end
def dy(K:Cfg)(w:World)(b:Nat):Prop:=b<w.heap.size/\¬K.eV w b/\¬K.Still b/\¬K.Ya b/\∀ad:Addr,ad.block=b->¬K.Shun (.cell ad)
def jx (K:Cfg)(b:Nat):Prop:=b<K.N0/\¬K.sX b/\¬K.Ya b
theorem SB(F:K.Fit)(h:xl (dy K w') e):X7 K w' e:=by
 rcases h with ⟨ad,he,hl,hk,hs,_,hh⟩|⟨b,f,rfl,hl,hk,hs,hy,hh⟩|⟨h1,h2,h3,h4⟩
 .have⟨l,f,g⟩:=e;obtain rfl:l=.cell ad:=he;have U:∀x,(MemAct.ofEvent ⟨.cell ad,f,g⟩).touch?=some x->x.loc=.cell ad:=by intro x a;cases f<;>cases g<;>(simp[MemAct.ofEvent,MemAct.touch?] at a;rw[<-a])
  refine⟨λx a=>⟨⟨?_,?_,?_⟩,⟨λc d=>?_,λc d=>?_⟩⟩,iq,iq,by cases f<;>cases g<;>simp[MemAct.ofEvent]⟩
  .rw[U x a];rintro(⟨c,e,h⟩|e|⟨c,e,h⟩)
   .cases e;exact hk h
   .cases e
   .cases e
  .rw[U x a];rintro⟨c,e,h⟩;cases e;exact absurd h hs
  iterate 3
   .grind
 .have U:∀x,(MemAct.ofEvent ⟨.obj b,f,false⟩).touch?=some x->x.loc=.obj b:=by intro x a;cases f<;>(simp[MemAct.ofEvent,MemAct.touch?] at a;rw[<-a])
  refine⟨λx a=>⟨⟨?_,?_,?_⟩,⟨λc d=>?_,λc d=>?_⟩⟩,iq,iq,by cases f<;>simp[MemAct.ofEvent]⟩
  .rw[U x a];rintro(⟨c,e,h⟩|e|⟨c,e,h⟩)
   .cases e
   .cases e;exact hy<|.inr<|.inl Y
   .cases e;exact hk h
  .rw[U x a];rintro⟨c,e,h⟩;cases e
  .rw[U x a];intro h;have⟨c,e,_⟩:=F.lH _ h;cases e
  .grind
  .grind
 .exact⟨λx a=>gq,h2,h3,h4 _⟩
theorem BV(F:K.Fit):Env K.KT K.N0 (dy K) (jx K) (RM K) (DM K) where
 lt:=λh=>h.1
 keep:=λr h=>r.block _ h.1 h.2.1 h.2.2.2.1
 stay:=λr h=>⟨lL h.1 r.size,λz=>h.2.1<|z.of_same (r.block _ h.1 h.2.1 h.2.2.2.1).symm,h.2.2⟩
 tape:=λr=>r.tape
 os:=λr=>r.os
 output:=λr=>r.output
 size:=λr=>r.size
 jb:=by
  intro w g n U o i
  refine⟨λb c=>?_,λb c=>?_,o.grow,λe h=>SB F<|i e h⟩
  .
   refine o.block b ?_ λm=>?_
   .
    rcases c with c|c|c
    .
     exact c.lt F U
    .
     exact lL (F.s0 b c) U
    .
     rcases c with rfl|rfl|rfl
     .
      exact lL F.A0 U
     .
      exact lL F.E0 U
     .
      exact lL F.W0 U
   .
    rcases c with c|c|c
    .
     exact m.2.1 c
    .
     exact m.2.2.1 c
    .
     exact m.2.2.2.1 c
  .
   rcases c with c|⟨h1,o',h2,h3⟩
   .
    exact .inl c
   .
    exact .inr ⟨h1,o',(o.kt b o' h2 h3).symm.trans h2,h3⟩
 mine:=by
  rintro w g b o ⟨h1,h2,h3⟩
  refine⟨lL h1 o.grow,λj=>h2 ?_,h3⟩
  rcases j with c|⟨h1,o',h2,h3⟩
  .
   exact .inl c
  .
   exact .inr ⟨h1,o',(o.kt b o' h2 h3).symm.trans h2,h3⟩
 new:=by
  intro w g b U o h1 h2
  refine⟨h2,?_,λz=>?_,?_,λl p k=>?_⟩
  .
   rintro(z|⟨z,o',z1,z2⟩)
   .
    have:=F.c0 b z;omega
   .
    have e:=(o.kt b o' z1 z2).symm.trans z1
    grind
  .
   have:=F.s0 b z;omega
  .
   rintro(rfl|rfl|rfl)
   .
    have:=F.A0;omega
   .
    have:=F.E0;omega
   .
    have:=F.W0;omega
  .
   have⟨a,e,z⟩:=F.lH _ k
   cases e
   omega
 PM:=λr d f=>r.block _ f (λz=>d.2.1<|z.low d.1) d.2.2
 jx:=λd f h=>⟨f,λz=>d.2.1<|z.low d.1,h.2.2⟩
 xZ:=λw=>⟨Y,Y,Y,λ_ _ _ _=>Y,lr⟩
 F7:=λw=>⟨λ_ _=>Y,λ_ h=>h,lr,iq⟩
def Ph.early:Ph->Prop
 | .inr (.inr<|.inr _)=>False
 | _=>True
def BX[ConcX.Payload][ConcR.Payload][ConcX.Shy K.Wg K.C](F:K.Fit){i:Ph}(hi:i.early):Env K.KT K.N0 (dy K) (jx K) (re K i) (xE K i):=by
 cases i using Ph.cF with
 | join=>exact hi.elim
 | _=>exact BV F
def oc(S:Nat->Prop)(w:World)(b:Nat):Prop:=b<w.heap.size/\¬S b
theorem Sz{S:Nat->Prop}(j:∀b,S b->b<N0):Env KT N0 (oc S) O AtRel (DZ S) where
 lt:=λh=>h.1
 keep:=by rintro w _ b ⟨e,rfl⟩ _;rfl
 stay:=by rintro w _ b ⟨e,rfl⟩ h;exact h
 tape:=by rintro w _ ⟨e,rfl⟩;rfl
 os:=by rintro w _ ⟨e,rfl⟩;rfl
 output:=by rintro w _ ⟨e,rfl⟩;rfl
 size:=by rintro w _ ⟨e,rfl⟩;exact l8 _
 jb:=by
  intro w p n k o a e h
  rcases a e h with ⟨ad,h1,_,h2⟩|⟨b,f,rfl,_⟩|⟨h1,h2,h3,_⟩
  .
   have⟨l,f,m⟩:=e
   obtain rfl:l=.cell ad:=h1
   refine⟨λx U g i d=>?_,iq,iq⟩
   have c:x.loc=.cell ad:=by cases f<;>cases m<;>(simp[MemAct.ofEvent,MemAct.touch?] at U;rw[<-U])
   grind
  .
   refine⟨λx U g i d=>?_,iq,iq⟩
   have c:x.loc=.obj b:=by cases f<;>(simp[MemAct.ofEvent,MemAct.touch?] at U;rw[<-U])
   grind
  .
   exact⟨λx U=>gq,h2,h3⟩
 mine:=λo h=>⟨lL h.1 o.grow,h.2⟩
 new:=λk _ h1 h2=>⟨h2,λd=>by have:=j _ d;omega⟩
 PM:=by rintro w _ b ⟨e,rfl⟩ _ _;rfl
 jx:=λ_ c h=>⟨c,h.2⟩
 xZ:=λw=>⟨w.drawn+1,Y⟩
 F7:=λw e a=>by simp at a
theorem rz(d:Nat)(t ty e:TypeId)(i:TypeInfo)(z:Value)(b bytes:Nat)(k:P.underlying t=some (.slice e))(hi:P.info? e=some i)(r:i.zero=some z)
 (y:i.size=b)(C:i.bytes=bytes)
 (v:Value)(n:Nat)(xs:Vq)(l:w.ownsRow d e b v n xs)
 (a:Addr)(m c:Nat)(news:Vq)(h:news.length=m*b)(U:∀j u,news[j]?=some u->w.cell? (a.add j)=some u)(h1:∀u∈news,u.oneCell'=true)
 (B:n+m<=maxLen)(s:(n+m)*bytes<=140737488355328)(f:(Builtin.append_ #[t,t] ty #[v,.slice (some a) m c]).run P w=.ok v' w') :
  w'=w\/(∃g o,v.ownBlock=some g/\w'=w.setRow g o)\/∃o,w'=w.drew.alloc (.cells o e):=by
 subst y;subst C;have F:n+m<=9223372036854775807:=by simp only[maxLen] at B;omega
 rcases l.2 with ⟨rfl,rfl⟩|⟨g,cap,a7,rfl,ag,hg,ai,ah,ae,af⟩
 .by_cases D:m=0
  .subst D;have E:news=[]:=List.eq_nil_of_length_eq_zero gq;subst E;left;simp[Builtin.append_,run_underlying k,sizeOf,typeInfo,hi,Builtin.lenOf,Builtin.firstCells,loadCells,loadCellsFrom] at f;exact f.2.symm
  .have p:=run_append_nil w t ty e i z k hi r a m c news h U oq oq gq;grind
 .by_cases q:n+m<=cap
  .have A:n*i.size+news.length<=a7.size:=by rw[h,ae,<-Nat.add_mul];exact Nat.mul_le_mul_right _ q
   have p:=run_append_room w t ty e i k hi g n cap a7 hg a m c news h U h1 q A;rw[p] at f;cases f;exact .inr<|.inl ⟨g,_,Y,Y⟩
  .have x:=l.cells Y;have p:=run_append_grow w t ty e i z k hi r ⟨g,0,none⟩ n cap xs l.1 x a m c news h U oq oq<|growslice_fits oq s;grind
end
structure oE(M:World->Nat->Prop)(Ex:Nat->Prop)(w₀:World)(e:TypeId)(v:Value)(n:Nat)(xs:Vq)(w:World):Prop where
 row:w.ownsRow 0 e 1 v n xs
 own:∀k,v.ownBlock=some k->M w k/\(Ex k\/w₀.heap.size<=k)
 nil:n=0->v=.slice none 0 0
variable {n:Nat}
section
variable {e:TypeId}{xs news:Vq}{g:Nat}
def oE.same(h:oE M Ex w₀ e v n xs w)(a:∀k,v.ownBlock=some k->w'.heap[k]?=w.heap[k]?/\M w' k):oE M Ex w₀ e v n xs w':=by
 refine⟨⟨h.row.1,?_⟩,λk b=>⟨(a k b).2,(h.own k b).2⟩,h.nil⟩;rcases h.row.2 with z|⟨g,cap,cur,h1,h2,h3,h4⟩
 .exact .inl z
 .exact .inr ⟨g,cap,cur,h1,h2,(a g<|by rw[h1];rfl).1.trans h3,h4⟩
def oE.rely(E:Env KT N0 M O R D)(h:oE M Ex w₀ e v n xs w)(r:R w aL):oE M Ex w₀ e v n xs aL:=h.same λk a=>⟨E.keep r (h.own k a).1,E.stay r (h.own k a).1⟩
def oE.type(h:oE M Ex w₀ e v n xs w)(b:v.ownBlock=some k):∃a,w.heap[k]?=some (.cells a e (0,0)):=by
 rcases h.row.2 with ⟨z,_⟩|⟨g,cap,a,h1,h2,h3,h4⟩
 .rw[z] at b;cases b
 .rw[h1] at b;cases b;exact⟨a,h3⟩
theorem oE.ne(h:oE M Ex w₀ e v n xs w)(c:w.heap[b]?=some (.cells cs t fz))(f:t≠e)(U:v.ownBlock=some k):k≠b:=by rintro rfl;have⟨a,d⟩:=h.type U;grind
def oE.none(M:World->Nat->Prop)(Ex:Nat->Prop)(w₀ w:World)(e:TypeId):oE M Ex w₀ e (.slice .none 0 0) 0 [] w:=⟨World.ownsRow_nil _ _ _ _,λk a=>(by cases a),λ_=>Y⟩
structure J2(M:World->Nat->Prop)(e:TypeId)(news:Vq)(g:Nat)(w:World):Prop where
 src:w.heap[g]?=some (.cells news.toArray e)
 mine:M w g
def J2.rely(E:Env KT N0 M O R D)(h:J2 M e news g w)(r:R w aL):J2 M e news g aL:=⟨(E.keep r h.mine).trans h.src,E.stay r h.mine⟩
theorem J7(E:Env KT N0 M O R D)(K:N0<=w.heap.size)(l:¬KT e)(old:Kept M O Ex w₀ w)(h:oE M Ex w₀ e v n xs w)(q:J2 M e news g w)(t ty:TypeId)(z:Value)(bytes:Nat)(C:P.underlying t=some (.slice e))(hi:(P.info? e).map (λi=>(i.zero,i.size,i.bytes))=some (some z,1,bytes))(W:z.cells.size=1)
 (h1:∀x∈news,x.oneCell'=true)(B:n+news.length<=maxLen)(a:(n+news.length)*bytes<=140737488355328) :
  ∃p d,(Builtin.append_ #[t,t] ty #[v,.slice (sq g) news.length news.length]).run P w=.ok p d/\oE M Ex w₀ e p (n+news.length) (xs++news) d/\Kept M O Ex w₀ d/\Own KT M w d /\
   (∀b,b<w.heap.size->v.ownBlock≠some b->d.heap[b]?=w.heap[b]?) /\
   D w d ((Builtin.append_ #[t,t] ty #[v,.slice (sq g) news.length news.length]).events P w #[]) /\
   ∀e∈(Builtin.append_ #[t,t] ty #[v,.slice (sq g) news.length news.length]).events P w #[],∀m,e.loc=.mark m->Conc.Neutral m:=by
 have y:∀j x,news[j]?=some x->w.cell? ((⟨g,0,none⟩:Addr).add j)=some x:=by
  intro j x V;have:(⟨g,0,none⟩:Addr).add j=⟨g,j,none⟩:=by unfold Addr.add;split<;>simp_all
  rw[this];simp[World.cell?,q.src,V]
 have⟨G,hi,r,s,u⟩:=info_parts hi;have⟨p,d,J,I,H,o,U⟩:=run_append_own_at (P:=P) w 0 t ty e G z 1 bytes C hi r s u W dq v n xs h.row ⟨g,0,none⟩ news.length news.length news iq y h1 B a<|Nat.zero_le _;have S:=rz (P:=P) 0 t ty e G z 1 bytes C hi r s u v n xs h.row ⟨g,0,none⟩ news.length news.length news iq y h1 B a J;have Q:=events_append_where (P:=P) w 0 t ty e G z 1 bytes C hi r s u v n xs h.row ⟨g,0,none⟩ news.length news.length news iq y h1 B a;have f:Own KT M w d:=by
  rcases S with rfl|⟨k,cs,c,rfl⟩|⟨cs,rfl⟩
  .exact dM _
  .have⟨Y,L⟩:=h.type c;exact Own.setRow L (h.own k c).1 l
  .have:=ec (KT:=KT) (M:=M) (w:=w.drew) (cs:=cs) (t:=e) l;exact⟨this.tape,this.os,this.output,this.grow,λb a A=>heap_alloc_old w.drew _ b a,λb X T c=>(this.kt b X T c)⟩
 have N:∀k,p.ownBlock=some k->M d k/\(Ex k\/w₀.heap.size<=k):=by
  intro k c;rcases U with U|U
  .rw[U] at c;exact⟨E.mine f (h.own k c).1,(h.own k c).2⟩
  .rw[U] at c;cases c;refine⟨E.new K f lr (I.lt _ U).2,.inr old.grow⟩
 refine⟨p,d,J,⟨I,N,λe=>o.2 ⟨h.nil oq,oq⟩⟩,old.own E f λb a F=>H.block b (E.lt<|old.mine b a) λe=>?_,f,λb a F=>H.block b a<|λe=>F e.symm,E.jb K f λe l=>?_,λe l m A=>?_⟩
 .rcases(h.own b e.symm).2 with z|z
  .exact F z
  .have:=E.lt a;omega
 .rcases Q e l with ⟨ad,h1,h2⟩|⟨m,rfl,A⟩
  .refine .inl ⟨ad,h1,E.mine f ?_⟩;rcases h2 with ⟨_,h2⟩|h2
   .rw[h2];exact q.mine
   .exact(h.own _ h2.symm).1
  .obtain rfl:m=.noRoom:=A;exact .inr<|.inr ⟨by simp[MemAct.ofEvent,MemAct.touch?],iq,iq,by simp[MemAct.ofEvent]⟩
 .grind
end
variable {N c1 c2 B:Nat}{Shun Mz:Loc->Prop}{val:Value}
section
def dS(h:w.heap[b]?=some (.cells cs ty fz))(v:Value):(w.setCell ⟨b,o,none⟩ v).heap[b]?=some (.cells (cs.setIfInBounds o v) ty fz):=by simp[World.setCell,Ii,h]
def bP(w:World)(v:Value)(hb:b'≠b):(w.setCell ⟨b,o,none⟩ v).heap[b']?=w.heap[b']?:=Below.heap_setCell _ _ _ _ hb
abbrev kc:Nat:=(default:KC).c
abbrev dt:TypeId->Prop:=λt=>t=177\/t=179\/t=kc+1000
def aH (P:Program)(N Pb:Nat)(Shun:Loc->Prop)(val:Value)(B:Nat)(Mz:Loc->Prop):Cfg :=
 { P:=P,ty:=169,A:=N+2,E:=N+4,Wg:=N+6,C:=N,sX:=λb=>b=N,N0:=N+9,KT:=dt,Still:=λb=>b=N+1\/b=N+3\/b=N+5\/b=N+7\/b=N+8\/b=Pb,Shun:=Shun,B:=B,
   z:=.int .i32 0,zs:=.tuple #[],zE:=.agg #[],val:=val,Mz:=Mz }
variable [ConcR.Payload][ConcX.Payload]
variable (K:Cfg)
abbrev Ix:=Bool × Vq
def sY (_:Ix):World->World->Prop:=RC K
def XK (i:Ix)(g:Goroutine)(w:World):Prop:=Way K.P false (sY K i) (DK K) (pn K i.2) g w
section
variable {K:Cfg}{i:Ix}
def sY.rc(h:sY K i w aL):RC K w aL:=h
def sY.refl(i:Ix)(w:World):sY K i w w:=RC.refl w
def aS:=@sY.refl
def sY.trans(h:sY K i w aL)(a:sY K i aL ql):sY K i w ql:=dY h a
def XK.closed:Closed K.P false (sY K) (DK K) (XK K) where
 rely:=λ{i} _ _ _ h hr=>Way.rely (λ_ _ _=>sY.trans) h hr
 step:=by
  intro i g w d h
  refine Way.step d λa c=>?_
  have b:=h a c
  cases e:stepG K.P false g a with
  | go g' w' es=>rw[e] at b;exact⟨g',w',es,Y,b.1,b.2⟩
  | _=>rw[e] at b;exact b.elim
def AZ(i:Ix):Terms (sY K i) (DK K):=⟨λ_ _ _=>sY.trans,λ_=>⟨Y,Y,Y,λ_ _ _=>Y,λ_ h=>h,λ_ h1 h2=>absurd h1 oq,Y,lr,iq⟩⟩
def NW(fr:Bool)(vs:Vq)(g:Goroutine)(w:World):XK K (fr,vs) g w↔qD K vs g w:=by rw[tf];exact Iff.rfl
def yJ{j:Nat}{o:Oper}{Q:ri Ix}{a:Act}{fr:Bool}{y:Operand}(n:K.zs=.tuple #[])(p:ops[j]?=some o)(z:Region.wanted o (yielded ops a.tmps)=true)(g:o.op=.send x y)(B:a.eval x=.chan (some K.A))(C:a.eval y=v)
 (t:∀c,RC K w c->K.N0<=c.heap.size)(h:∀c,RC K w c->oC (XK K) fn ops rest (false,vs) Q (a.put o.dst undef) c):oC (XK K) fn ops (j::rest) (fr,v::vs) Q a w:=by
 intro b k m q f r;refine Way.stop λc d=>?_;have u:∀w,(execOp a.eval o).run K.P w=.ok (.comm #[scase K.A v K.zs] true .send) w:=λw=>by unfold execOp;simp[g,B,C,n,scase]
 have s:∀w,(execOp a.eval o).events K.P w #[]=#[]:=λw=>by unfold execOp;simp[g]
 refine⟨Y,t c d.rc,?_,λl i=>?_⟩
 .rw[stepG_comm p z f (u c),listed_none<|s c]
 .have e:Conc.served (G (b.at a (.inRegion ops (j::rest)::k)) m) undef=G (b.at (a.put o.dst undef) (.inRegion ops rest::k)) m:=by
   have:(b.at a (.inRegion ops (j::rest)::k)).finish undef=b.at (a.put o.dst undef) (.inRegion ops rest::k):=by rw[Frame.finish_at,p];rfl
   simp only[Conc.served,G];rw[this]
  rw[e];exact(NW false vs _ _).1 (h l (d.rc.trans i) b k m q f r)
end
section
variable [ConcR.Payload][ConcX.Payload](N Pb:Nat)(Shun:Loc->Prop)(val:Value)(B:Nat)(Mz:Loc->Prop)
def cK:Closed prog false (sY<|aH prog N Pb Shun val B Mz) (DK<|aH prog N Pb Shun val B Mz) (XK<|aH prog N Pb Shun val B Mz):=XK.closed (K:=(aH prog N Pb Shun val B Mz))
def tK(i:Ix):Terms (sY (aH prog N Pb Shun val B Mz) i) (DK<|aH prog N Pb Shun val B Mz):=AZ i
end
structure CS where
 begun:Bool
 returned:Bool
structure DS where
 letter:Int
 missing:Int
 low:Int
 high:Int
def iG(N:Nat):Value:=.func (.func 113) #[] #[.pointer (some ⟨N+3,0,none⟩)]
def qj (a:Nat):Value:=.func (.func 116) #[.pointer (some ⟨a,0,none⟩)] #[]
structure JW where
 v:Value
 l:List ByteArray
def oD(Pb:Nat)(cp:JW)(w:World):Prop:=∃ad c,cp.v=.slice ad cp.l.length c/\∀(k:Nat) (p:ByteArray),cp.l[k]?=some p->∃off,ad=some ⟨Pb,off,none⟩/\w.cell? ⟨Pb,off+k,none⟩=some (.string p)
def oD.of{cp:JW}(h:oD Pb cp w)(g:w'.heap[Pb]?=w.heap[Pb]?):oD Pb cp w':=by have⟨b,c,e,h⟩:=h;refine⟨b,c,e,λk p f=>?_⟩;have⟨a,e1,d⟩:=h k p f;exact⟨a,e1,by rw[<-d];unfold World.cell?;rw[g]⟩
structure HC(N Pb:Nat)(cp:JW)(c1 c2:Nat)(c:CS)(d:DS)(w:World):Prop where
 lv:w.heap[N+3]?=some (.cells #[.chan (some<|N+2)] 158)
 cl:w.heap[c1]?=some (.cells #[iG N,.bool c.begun,.bool c.returned] 177)
 de:w.heap[c2]?=some (.cells #[qj c1,.int .i32 d.letter,.int .i64 d.missing,.int .u8 d.low,.int .u8 d.high] 179)
 pc:w.heap[N]?=some (.cells #[cp.v] 62)
 wb:w.heap[N+7]?=some (.cells #[.pointer (some ⟨N+6,0,none⟩)] 240)
 h1:N+9<=c1
 h2:N+9<=c2
 ne:c1≠c2
 ps:oD Pb cp w
 lo:Pb<N+9
section
variable {Pb:Nat}{cp:JW}{c:CS}{d:DS}
section
variable (h:HC N Pb cp c1 c2 c d w)
def HC.Pm:(aH prog N Pb Shun val B Mz).eV w c1:=.inr ⟨h.h1,_,h.cl,.inl Y⟩
def HC.Pn:(aH prog N Pb Shun val B Mz).eV w c2:=.inr ⟨h.h2,_,h.de,.inr<|.inl Y⟩
def HC.rc(r:RC (aH prog N Pb Shun val B Mz) w aL):HC N Pb cp c1 c2 c d aL :=
 ⟨(r _<|.inr<|.inr<|.inl Y).trans h.lv,(r _<|.inl h.Pm).trans h.cl,(r _<|.inl h.Pn).trans h.de,(r _<|.inl<|.inl Y).trans h.pc,(r _<|i3<|.inr<|.inl Y).trans h.wb,h.h1,h.h2,h.ne,h.ps.of<|r Pb<|i3<|i3 Y,h.lo⟩
def HC.rely{i:Ix}(r:sY (aH prog N Pb Shun val B Mz) i w aL):HC N Pb cp c1 c2 c d aL:=h.rc r.rc
def aC:=@HC.rely
def HC.size:N+9<=w.heap.size:=by
 have:=(oa.1 h.cl).1
 have:=h.h1;omega
def HC.Oy:w.cell? ⟨N+3,0,none⟩=some (.chan<|some<|N+2):=by simp[World.cell?,h.lv]
def HC.lm:w.cell? ⟨c1,0,none⟩=some (iG N)/\w.cell? ⟨c1,1,none⟩=some (.bool c.begun)/\w.cell? ⟨c1,2,none⟩=some (.bool c.returned)/\w.frozen? ⟨c1,1,none⟩=false/\w.frozen? ⟨c1,2,none⟩=false:=by simp[World.cell?,World.frozen?,h.cl]
def HC.du:w.cell? ⟨c2,0,none⟩=some (qj c1)/\w.cell? ⟨c2,1,none⟩=some (.int .i32 d.letter)/\w.cell? ⟨c2,2,none⟩=some (.int .i64 d.missing)/\w.cell? ⟨c2,3,none⟩=some (.int .u8 d.low)/\w.cell? ⟨c2,4,none⟩=some (.int .u8 d.high)
  /\ w.frozen? ⟨c2,1,none⟩=false/\w.frozen? ⟨c2,2,none⟩=false/\w.frozen? ⟨c2,3,none⟩=false/\w.frozen? ⟨c2,4,none⟩=false:=by simp[World.cell?,World.frozen?,h.de]
end
def EvB (N Pb c1 c2:Nat)(e:Event):Prop:=∃a wr,e=⟨.cell a,wr,false⟩/\((a.block=N\/a.block=c1\/a.block=c2)\/((a.block=N+1\/a.block=N+3\/a.block=N+5\/a.block=N+7\/a.block=N+8\/a.block=Pb)/\wr=false))
theorem EvB.evk(c:(aH prog N Pb Shun val B Mz).eV w c1)(d:(aH prog N Pb Shun val B Mz).eV w c2)(U:EvB N Pb c1 c2 e):NX (aH prog N Pb Shun val B Mz) w e:=by
 obtain⟨a,b,rfl,h⟩:=U;refine .inl ⟨a,b,Y,?_⟩;rcases h with (h|h|h)|⟨h,hw⟩
 .exact .inl<|.inl h
 .grind
 .grind
 .exact .inr ⟨h,hw⟩
def eX(hF:HC N Pb cp c1 c2 c d w)(h:∀e∈es,EvB N Pb c1 c2 e):DK (aH prog N Pb Shun val B Mz) w w es :=
 ⟨Y,Y,Y,λ_ _ _=>Y,λ_ h=>h,λ_ h1 h2=>absurd h1 oq,Y,lr,λe he=>(h e he).evk hF.Pm hF.Pn⟩
theorem gV(a:HC N Pb cp c1 c2 c d w)(f:b=c1\/b=c2)(h:∀e∈es,EvB N Pb c1 c2 e):DK (aH prog N Pb Shun val B Mz) w (w.setCell ⟨b,o,none⟩ v) es:=by
 have U:∀k,(aH prog N Pb Shun val B Mz).eV w k->(aH prog N Pb Shun val B Mz).eV (w.setCell ⟨b,o,none⟩ v) k:=by
  intro k U;by_cases e:k=b
  .subst e;rcases f with rfl|rfl
   .exact .inr ⟨a.h1,_,dS a.cl v,.inl Y⟩
   .exact .inr ⟨a.h2,_,dS a.de v,.inr<|.inl Y⟩
  .exact U.of_same<|Below.heap_setCell _ _ _ _ e
 have g:(aH prog N Pb Shun val B Mz).eV w b:=by
  rcases f with rfl|rfl
  .exact a.Pm
  .exact a.Pn
 have l:(w.setCell ⟨b,o,none⟩ v).heap.size=w.heap.size:=by simp_all
 refine⟨Y,Y,Y,λk _ i=>Below.heap_setCell _ _ _ _ ?_,U,λ_ h1 h2=>absurd h1 oq,Below.heap_setCell _ _ _ _ ?_,oq,λe j=>(h e j).evk (U _ a.Pm)<|U _ a.Pn⟩
 .rintro rfl;exact i g
 .show N≠b
  have:=a.h1;have:=a.h2;omega
def ti(a:b=N+1\/b=N+3\/b=N+5\/b=N+7\/b=N+8\/b=Pb):EvB N Pb c1 c2 ⟨.cell ⟨b,o,none⟩,false,false⟩:=⟨_,_,Y,.inr ⟨a,Y⟩⟩
def dp{wr:Bool}(a:b=N\/b=c1\/b=c2):EvB N Pb c1 c2 ⟨.cell ⟨b,o,none⟩,wr,false⟩:=⟨_,_,Y,.inl a⟩
def QY:LetsDraw (DK<|aH prog N Pb Shun val B Mz):=λ_=>⟨Y,Y,Y,λ_ _ _=>Y,λ_ h=>h,λ_ h1 h2=>absurd h2<|Nat.not_lt.2 h1,Y,lr,iq⟩
def wv{i:Ix}(w:World):sY (aH prog N Pb Shun val B Mz) i w { w with drawn:=w.drawn+1 }:=λ_ _=>rfl
section
variable (h:HC N Pb cp c1 c2 c d w)
def HC.Uf(x:Bool):HC N Pb cp c1 c2 ⟨x,c.returned⟩ d (w.setCell ⟨c1,1,none⟩<|.bool x):=by have h1:=h.h1;have h2:=h.h2;have a:=h.ne;have b:=h.lo;exact⟨(bP w _ oq).trans h.lv,dS h.cl _,(bP w _<|Ne.symm a).trans h.de,(bP w _ oq).trans h.pc,(bP w _ oq).trans h.wb,h1,h2,a,h.ps.of<|bP w _ oq,b⟩
def HC.Ug(x:Bool):HC N Pb cp c1 c2 ⟨c.begun,x⟩ d (w.setCell ⟨c1,2,none⟩<|.bool x):=by have h1:=h.h1;have h2:=h.h2;have a:=h.ne;have b:=h.lo;exact⟨(bP w _ oq).trans h.lv,dS h.cl _,(bP w _<|Ne.symm a).trans h.de,(bP w _ oq).trans h.pc,(bP w _ oq).trans h.wb,h1,h2,a,h.ps.of<|bP w _ oq,b⟩
def HC.yV(x:Int):HC N Pb cp c1 c2 c { d with letter:=x } (w.setCell ⟨c2,1,none⟩<|.int .i32 x):=by have h1:=h.h1;have h2:=h.h2;have a:=h.ne;have b:=h.lo;exact⟨(bP w _ oq).trans h.lv,(bP w _ a).trans h.cl,dS h.de _,(bP w _ oq).trans h.pc,(bP w _ oq).trans h.wb,h1,h2,a,h.ps.of<|bP w _ oq,b⟩
def HC.qT(x:Int):HC N Pb cp c1 c2 c { d with missing:=x } (w.setCell ⟨c2,2,none⟩<|.int .i64 x):=by have h1:=h.h1;have h2:=h.h2;have a:=h.ne;have b:=h.lo;exact⟨(bP w _ oq).trans h.lv,(bP w _ a).trans h.cl,dS h.de _,(bP w _ oq).trans h.pc,(bP w _ oq).trans h.wb,h1,h2,a,h.ps.of<|bP w _ oq,b⟩
def HC.MF(x:Int):HC N Pb cp c1 c2 c { d with low:=x } (w.setCell ⟨c2,3,none⟩<|.int .u8 x):=by have h1:=h.h1;have h2:=h.h2;have a:=h.ne;have b:=h.lo;exact⟨(bP w _ oq).trans h.lv,(bP w _ a).trans h.cl,dS h.de _,(bP w _ oq).trans h.pc,(bP w _ oq).trans h.wb,h1,h2,a,h.ps.of<|bP w _ oq,b⟩
def HC.GY(x:Int):HC N Pb cp c1 c2 c { d with high:=x } (w.setCell ⟨c2,4,none⟩<|.int .u8 x):=by have h1:=h.h1;have h2:=h.h2;have a:=h.ne;have b:=h.lo;exact⟨(bP w _ oq).trans h.lv,(bP w _ a).trans h.cl,dS h.de _,(bP w _ oq).trans h.pc,(bP w _ oq).trans h.wb,h1,h2,a,h.ps.of<|bP w _ oq,b⟩
end
def E7(e:HC N Pb cp c1 c2 c d w)(fr:Bool)(r:Int)(vs:Vq) :
  iH prog (XK<|aH prog N Pb Shun val B Mz) 113 #[.int .i32 r,.pointer<|sq<|N+3] (fr,.int .i32 r::vs) w (λl _ m=>l=(false,vs)/\HC N Pb cp c1 c2 c d m):=by
 have C:=cK N Pb Shun val B Mz;have T:=tK N Pb Shun val B Mz;refine fG func113 rq Y ?_;refine bT C T ?_;simp only[iB,Nat.reduceAdd];refine aV C Y rq λi f h a=>?_;replace e:=e.rely f;have k:=e.Oy;go_simp;refine a _ _ ⟨?_,?_⟩
 .refine eX e ?_;co_evs (exact ti<|.inr<|.inl Y)
 try walk_nrm
 refine aV C Y rq λj f h a=>?_;replace e:=e.rely f;go_simp;refine a _ _ ⟨?_,?_⟩
 .co_quiet (T (true,[]))
 try walk_nrm
 refine yJ Y Y rq Y Y Y (λg b=>(e.rc b).size) λg b=>?_;replace e:=e.rc b;exact cO C T ⟨.inl Y,Y,_,resultsC_none rq _,Y,e⟩
end
end
def dB(c:CS)(r:Int):CS × Iq :=
 (⟨true,r==13⟩,if (!c.begun&&r==65279)=true then [] else if (c.returned&&r==10)=true then [] else if r=13 then [10] else if r=0 then [65533] else [r])
def V (ls:Iq):Vq:=ls.map (.int .i32 ·)
variable {c:CS}{d:DS}{cp:JW}
section
variable {md:Region.Mode}{Q:Exit->Act->World->Prop}{S:World->Prop}{oi:Oper}{i:Nat}{L:Array Bool}{l:List Nat}
def TK(P:Program)(R:Wq)(D:World->World->Array Event->Prop)(fn:FuncId)(a:Region.Mode)(ops:Array Oper)(Q:Exit->Act->World->Prop)(S:World->Prop)(_:List Nat):Nat->Array Bool->Act->World->Prop:=AnyCH P R D fn a ops Q S
def tkA(l:List Nat)(h:TK P R D fn md ops Q S l n L a w):AnyCH P R D fn md ops Q S n L a w:=h
def tkZ(h:AnyCH P R D fn md ops Q S n L a w):TK P R D fn md ops Q S [] n L a w:=h
def tkC(T:Terms R D)(h1:∀x y,S x->R x y->S y)(h2:∀a x y,Q .normal a x->R x y->Q .normal a y)(hi:ops[i]?=some oi)(f:YieldsIfC P D fn ops S oi v a)(b:S w)(h:TK P R D fn md ops Q S l n (L.setIfInBounds i true) (a.put oi.dst v) w)(e:Region.noSelect ops=true:=by decide +kernel)(c:Region.free md ops L i=true:=by decide +kernel)(d:(Region.ready md ops L).contains i=true:=by decide +kernel):TK P R D fn md ops Q S (i::l) (n+1) L a w:=anyCH_take T h1 h2 hi e c d f b h
end
section
variable {Pb:Nat}
variable [ConcR.Payload][ConcX.Payload]
def CK(b:HC N Pb cp c1 c2 c d w)(fr:Bool)(r:Int)(vs:Vq) :
  iH prog (XK<|aH prog N Pb Shun val B Mz) 116 #[.pointer (sq c1),.int .i32 r] (fr,V (dB c r).2++vs) w (λI _ J=>I=(fr&&(dB c r).2.isEmpty,vs)/\HC N Pb cp c1 c2 (dB c r).1 d J):=by
 have C:=cK N Pb Shun val B Mz;have T:=tK N Pb Shun val B Mz;have k:=T (true,[]);have H:∀(w:World) (z:Array Event) (a:Addr) (m:Mode) (x:Bool),(store a (.bool x) m).events prog w z=storedEv prog w z a (.bool x) m:=λw z a m x=>events_store prog w z a _ m Y;have D:∀w:World,sY (aH prog N Pb Shun val B Mz) (true,[]) w { w with drawn:=w.drawn+1 }:=wv;refine fG func116 rq Y ?_;simp only[ntmps116,bZ,Nat.reduceAdd,Nat.reduceSub];co_apply bz C T (aS _);co_held (T _) QY D (HC N Pb cp c1 c2 c d) aC b
 co_applyP tkA [0,1,2,3,4,5,6,7,8,9,10]
 iterate 11
  co_applyP tkC (T _) (λ_ _ h r=>aC h r) (λ_ _ _ h r=>λb k e f i g=>C.rely (h b k e f i g) r) Y (.inl ⟨rq,λ_ E=>⟨run_eq_of ?_,?_⟩⟩) b ?_;rotate_left
  .intro l f;have q:=E.lm;go_simp;exact f
  .have q:=E.lm;first|(rw[listed_nil];exact Terms.idle k _;first|(simp[go_sem];done)|(simp[go_sem, *];done))|(refine eX E ?_;co_evs (exact dp<|.inr<|.inl Y))
  try walk_nrm
 co_applyP tkZ
 co_done;co_apply bz C T (aS _);co_reg (T _);iterate 4 co_op aC b (co_quiet k)
 iterate 2 co_opw aC b (skip) (co_still k)
 co_opw aC b (have q:=b.lm) (exact gV b (.inl Y)<|by co_evs (exact dp<|.inr<|.inl Y));replace b:=b.Uf true;clear q;iterate 2 co_opw aC b (skip) (co_still k)
 co_opw aC b (have q:=b.lm) (exact gV b (.inl Y)<|by co_evs (exact dp<|.inr<|.inl Y));replace b:=b.Ug<|r==13;clear q;co_apply opsC_nil (T _);co_then;refine iC C T ?_;generalize y:(!c.begun)=G;generalize u:c.returned=F;have v:dB c r=(⟨true,r==13⟩,if (G&&r==65279)=true then [] else if (F&&r==10)=true then [] else if r=13 then [10] else if r=0 then [65533] else [r]):=by rw[dB,y,u]
 rw[v];clear v y u;cases G<;>cases F;focus
  iterate 2
   co_apply bz C T (aS _)
   co_reg (T _)
   co_op aC b (co_quiet k)
   co_op aC b (co_quiet k)
   co_apply opsC_unwanted (T _) Y rq
   co_apply opsC_unwanted (T _) Y rq
   co_op aC b (co_quiet k)
   co_op aC b (co_quiet k)
   co_apply opsC_nil (T _)
   co_then
   try simp only[Bool.false_and,j6,if_false]
   refine bB C T (t:=false) Y ?_
   simp only[if_false,j6]
  co_apply bz C T (aS _)
 rotate_left;focus
  co_apply bz C T (aS _)
  co_reg (T _)
  iterate 2 co_op aC b (co_quiet k)
  iterate 2 co_apply opsC_unwanted (T _) Y rq
  iterate 2 co_op aC b (co_quiet k)
  co_apply opsC_nil (T _)
  co_then
  try simp only[Bool.false_and,Bool.true_and,j6,if_false]
  refine bB C T (t:=false) Y ?_
  simp only[if_false,j6]
  co_apply bz C T (aS _)
  co_reg (T _)
  iterate 6 co_op aC b (co_quiet k)
  co_apply opsC_nil (T _)
  co_then
  by_cases o:r=10
  .have g:(r==10)=true:=by simp[o]
   simp only[g,if_true];try simp only[g] at b
   refine bB C T (t:=true) Y ?_;simp only[if_true];exact fY C T ⟨.inl Y,Y,_,resultsC_none rq _,by simp[V],by simpa using b⟩
  have g:(r==10)=false:=by simp[o]
  simp only[g,j6,if_false];try simp only[g] at b
  refine bB C T (t:=false) Y ?_;simp only[if_false,j6];co_apply bz C T (aS _)
 rotate_left;focus
  co_apply bz C T (aS _)
  co_reg (T _)
  iterate 6 co_op aC b (co_quiet k)
  co_apply opsC_nil (T _)
  co_then
  by_cases i:r=65279
  .have e:(r==65279)=true:=by simp[i]
   simp only[e,Bool.and_true,Bool.false_and,bI];try simp only[e] at b
   refine bB C T (t:=true) Y ?_;simp only[if_true];exact fY C T ⟨.inl Y,Y,_,resultsC_none rq _,by simp[V],by simpa using b⟩
  have e:(r==65279)=false:=by simp[i]
  simp only[e,Bool.and_false,Bool.false_and,j6,if_false];try simp only[e] at b
  refine bB C T (t:=false) Y ?_;simp only[if_false,j6];co_apply bz C T (aS _);co_reg (T _);iterate 2 co_op aC b (co_quiet k)
  iterate 2 co_apply opsC_unwanted (T _) Y rq
  iterate 2 co_op aC b (co_quiet k)
  co_apply opsC_nil (T _);co_then;try simp only[reduceIte,bI,bJ]
  refine bB C T (t:=false) Y ?_;simp only[if_false,j6];co_apply bz C T (aS _)
 rotate_left;focus
  co_apply bz C T (aS _)
  co_reg (T _)
  iterate 6 co_op aC b (co_quiet k)
  co_apply opsC_nil (T _)
  co_then
  by_cases i:r=65279
  .have e:(r==65279)=true:=by simp[i]
   simp only[e,Bool.and_true,Bool.true_and,if_true];try simp only[e] at b
   refine bB C T (t:=true) Y ?_;simp only[if_true];exact fY C T ⟨.inl Y,Y,_,resultsC_none rq _,by simp[V],by simpa using b⟩
  have e:(r==65279)=false:=by simp[i]
  simp only[e,Bool.and_false,Bool.true_and,j6,if_false];try simp only[e] at b
  refine bB C T (t:=false) Y ?_;simp only[if_false,j6];co_apply bz C T (aS _);co_reg (T _);iterate 6 co_op aC b (co_quiet k)
  co_apply opsC_nil (T _);co_then;by_cases o:r=10
  .have g:(r==10)=true:=by simp[o]
   simp only[g,if_true];try simp only[g] at b
   refine bB C T (t:=true) Y ?_;simp only[if_true];exact fY C T ⟨.inl Y,Y,_,resultsC_none rq _,by simp[V],by simpa using b⟩
  have g:(r==10)=false:=by simp[o]
  simp only[g,j6,if_false];try simp only[g] at b
  refine bB C T (t:=false) Y ?_;simp only[if_false,j6];co_apply bz C T (aS _)
 rotate_left;all_goals
  co_reg (T _)
  iterate 3 co_op aC b (co_quiet k)
  co_apply opsC_nil (T _)
  co_then
  by_cases s:r=13
  .have n:(r==13)=true:=by simp[s]
   simp only[n,ip s];try simp only[n] at b
   refine bB C T (t:=true) Y ?_;simp only[if_true];refine bT C T ?_;simp only[iB,Nat.reduceAdd];refine aV C Y rq λ_ j l f=>?_;replace b:=aC b j;clear j;go_simp;try (unfold stored;go_simp)
   refine f _ _ ⟨?_,?_⟩
   .co_quiet k
   iterate 2
    clear f l
    try walk_nrm
    refine aV C Y rq λ_ j l f=>?_
    replace b:=aC b j
    clear j
    go_simp
    try (unfold stored;go_simp)
    refine f _ _ ⟨?_,?_⟩
    .co_still k
   clear f l;try walk_nrm
   refine aV C Y rq λ_ j l f=>?_;replace b:=aC b j;clear j;have q:=b.lm;go_simp;try (unfold stored;go_simp)
   refine f _ _ ⟨?_,?_⟩
   .refine eX b ?_;co_evs (exact dp<|.inr<|.inl Y)
   clear f l;try walk_nrm
   clear q;refine cI C T Y rq Y Y (by simp[Act.eval]) (by simp[V]) (E7 b fr 10 vs) ?_;rintro _ _ _ ⟨rfl,b⟩;exact cO C T ⟨.inl Y,Y,_,resultsC_none rq _,iq,by simpa using b⟩
  .have n:(r==13)=false:=by simp[s]
   simp only[n,iw s];try simp only[n] at b
   refine bB C T (t:=false) Y ?_;simp only[if_false,j6];co_apply bz C T (aS _);co_reg (T _);iterate 3 co_op aC b (co_quiet k)
   co_apply opsC_nil (T _);co_then;by_cases A:r=0
   .have p:(r==0)=true:=by simp[A]
    simp only[p,ip A];try simp only[p] at b
    refine bB C T (t:=true) Y ?_;simp only[if_true];refine bT C T ?_;simp only[iB,Nat.reduceAdd];refine aV C Y rq λ_ j l f=>?_;replace b:=aC b j;clear j;go_simp;try (unfold stored;go_simp)
    refine f _ _ ⟨?_,?_⟩
    .co_quiet k
    iterate 2
     clear f l
     try walk_nrm
     refine aV C Y rq λ_ j l f=>?_
     replace b:=aC b j
     clear j
     go_simp
     try (unfold stored;go_simp)
     refine f _ _ ⟨?_,?_⟩
     .co_still k
    clear f l;try walk_nrm
    refine aV C Y rq λ_ j l f=>?_;replace b:=aC b j;clear j;have q:=b.lm;go_simp;try (unfold stored;go_simp)
    refine f _ _ ⟨?_,?_⟩
    .refine eX b ?_;co_evs (exact dp<|.inr<|.inl Y)
    clear f l;try walk_nrm
    clear q;refine cI C T Y rq Y Y (by simp[Act.eval]) (by simp[V]) (E7 b fr 65533 vs) ?_;rintro _ _ _ ⟨rfl,b⟩;exact cO C T ⟨.inl Y,Y,_,resultsC_none rq _,iq,by simpa using b⟩
   .have p:(r==0)=false:=by simp[A]
    simp only[p,iw A];try simp only[p] at b
    refine bB C T (t:=false) Y ?_;simp only[if_false,j6];refine bT C T ?_;simp only[iB,Nat.reduceAdd];refine aV C Y rq λ_ j l f=>?_;replace b:=aC b j;clear j;go_simp;try (unfold stored;go_simp)
    refine f _ _ ⟨?_,?_⟩
    .co_quiet k
    iterate 2
     clear f l
     try walk_nrm
     refine aV C Y rq λ_ j l f=>?_
     replace b:=aC b j
     clear j
     go_simp
     try (unfold stored;go_simp)
     refine f _ _ ⟨?_,?_⟩
     .co_still k
    clear f l;try walk_nrm
    refine aV C Y rq λ_ j l f=>?_;replace b:=aC b j;clear j;have q:=b.lm;go_simp;try (unfold stored;go_simp)
    refine f _ _ ⟨?_,?_⟩
    .refine eX b ?_;co_evs (exact dp<|.inr<|.inl Y)
    clear f l;try walk_nrm
    clear q;refine aV C Y rq λ_ j l f=>?_;replace b:=aC b j;clear j;go_simp;try (unfold stored;go_simp)
    refine f _ _ ⟨?_,?_⟩
    .co_quiet k
    clear f l;try walk_nrm
    refine cI C T Y rq Y Y (by simp[Act.eval]) (by simp[V]) (E7 b fr r vs) ?_;rintro _ _ _ ⟨rfl,b⟩;exact cO C T ⟨.inl Y,Y,_,resultsC_none rq _,iq,by simpa using b⟩
end
def iF (b:Int):Int × Int:=if b=224 then (160,191) else if b=237 then (128,159) else if b=240 then (144,191) else if b=244 then (128,143) else (128,191)
section
variable {Pb:Nat}
variable [ConcR.Payload][ConcX.Payload]
section
variable (hF:HC N Pb cp c1 c2 c d w)
def Ki(i:Ix)(b:Int) :
  iH prog (XK<|aH prog N Pb Shun val B Mz) 362 #[.int .u8 b] i w (λn v o=>n=i/\v=.tuple #[.int .u8 (iF b).1,.int .u8 (iF b).2]/\HC N Pb cp c1 c2 c d o):=by
 have C:=cK N Pb Shun val B Mz;have T:=tK N Pb Shun val B Mz;have h:=T (true,[]);refine fG func362 rq Y ?_;co_apply bz C T (aS _);co_reg (T _);iterate 2 co_op aC hF (co_quiet h)
 co_apply opsC_nil (T _);co_then;refine fj C T ?_;co_apply bz C T (aS _);co_reg (T _);co_op aC hF (co_quiet h);co_apply opsC_nil (T _);co_then;refine iC C T ?_;co_apply bz C T (aS _);co_reg (T _);iterate 2 co_op aC hF (co_quiet h)
 co_apply opsC_nil (T _);co_then;by_cases j:b=224
 .have a:(b==224)=true:=by simp[j]
  simp only[a];refine bB C T (t:=true) Y ?_;simp only[if_true];co_apply bz C T (aS _);co_reg (T _);iterate 2 co_op aC hF (co_quiet h)
  co_apply opsC_nil (T _);co_then;exact qd C T ⟨.inr Y,Y,_,resultsC_tmp2 rq _,Y,by simp[iF, *],hF⟩
 .have a:(b==224)=false:=by simp[j]
  simp only[a];refine bB C T (t:=false) Y ?_;simp only[if_false,j6];co_apply bz C T (aS _);co_reg (T _);iterate 2 co_op aC hF (co_quiet h)
  co_apply opsC_nil (T _);co_then;by_cases k:b=237
  .have e:(b==237)=true:=by simp[k]
   simp only[e];refine bB C T (t:=true) Y ?_;simp only[if_true];co_apply bz C T (aS _);co_reg (T _);iterate 2 co_op aC hF (co_quiet h)
   co_apply opsC_nil (T _);co_then;exact qd C T ⟨.inr Y,Y,_,resultsC_tmp2 rq _,Y,by simp[iF, *],hF⟩
  .have e:(b==237)=false:=by simp[k]
   simp only[e];refine bB C T (t:=false) Y ?_;simp only[if_false,j6];co_apply bz C T (aS _);co_reg (T _);iterate 2 co_op aC hF (co_quiet h)
   co_apply opsC_nil (T _);co_then;by_cases l:b=240
   .have f:(b==240)=true:=by simp[l]
    simp only[f];refine bB C T (t:=true) Y ?_;simp only[if_true];co_apply bz C T (aS _);co_reg (T _);iterate 2 co_op aC hF (co_quiet h)
    co_apply opsC_nil (T _);co_then;exact qd C T ⟨.inr Y,Y,_,resultsC_tmp2 rq _,Y,by simp[iF, *],hF⟩
   .have f:(b==240)=false:=by simp[l]
    simp only[f];refine bB C T (t:=false) Y ?_;simp only[if_false,j6];co_apply bz C T (aS _);co_reg (T _);iterate 2 co_op aC hF (co_quiet h)
    co_apply opsC_nil (T _);co_then;by_cases m:b=244
    .have g:(b==244)=true:=by simp[m]
     simp only[g];refine bB C T (t:=true) Y ?_;simp only[if_true];co_apply bz C T (aS _);co_reg (T _);iterate 2 co_op aC hF (co_quiet h)
     co_apply opsC_nil (T _);co_then;exact qd C T ⟨.inr Y,Y,_,resultsC_tmp2 rq _,Y,by simp[iF, *],hF⟩
    .have g:(b==244)=false:=by simp[m]
     simp only[g];refine bB C T (t:=false) Y ?_;simp only[if_false,j6];refine fY C T ?_;co_apply bz C T (aS _);co_reg (T _);iterate 2 co_op aC hF (co_quiet h)
     co_apply opsC_nil (T _);co_then;exact qd C T ⟨.inr Y,Y,_,resultsC_tmp2 rq _,Y,by simp[iF, *],hF⟩
def ey(b k:Int):Int:=IntKind.i32.wrap<|bits .and .u8 b k
def ED(i:Ix)(b m k:Int) :
  iH prog (XK<|aH prog N Pb Shun val B Mz) 313 #[.pointer (sq c2),.int .u8 b,.int .i64 m,.int .u8 k] i w (λi' _ w'=>i'=i/\HC N Pb cp c1 c2 c ⟨ey b k,m,(iF b).1,(iF b).2⟩ w'):=by
 have C:=cK N Pb Shun val B Mz;have T:=tK N Pb Shun val B Mz;have Tq:=T (true,[]);refine fG func313 rq Y ?_;co_apply bz C T (aS _);co_reg (T _);iterate 5 co_op aC hF (co_quiet Tq)
 iterate 2 co_opw aC hF (skip) (co_still Tq)
 co_opw aC hF (have hc:=hF.du) (exact gV hF (.inr Y)<|by co_evs (exact dp<|.inr<|.inr Y));replace hF:=hF.yV<|ey b k;clear hc;co_apply opsC_nil (T _);co_then;co_apply bz C T (aS _);co_reg (T _);iterate 2 co_op aC hF (co_quiet Tq)
 iterate 2 co_opw aC hF (skip) (co_still Tq)
 co_opw aC hF (have hc:=hF.du) (exact gV hF (.inr Y)<|by co_evs (exact dp<|.inr<|.inr Y));replace hF:=hF.qT m;clear hc;co_apply opsC_nil (T _);co_then;refine bT C T ?_;simp only[iB,Nat.reduceAdd];iterate 3
  refine aV C Y rq λ_ hR Kx dJ=>?_
  replace hF:=aC hF hR
  clear hR
  go_simp
  try (unfold stored;go_simp)
  refine dJ _ _ ⟨?_,?_⟩
  .co_quiet Tq
  clear dJ Kx;try walk_nrm
 refine cI C T Y rq Y Y (by simp[Act.eval]) Y (Ki hF i b) ?_;rintro _ _ _ ⟨rfl,rfl,hF⟩;iterate 3
  try walk_nrm
  refine aV C Y rq λ_ hR Kx dJ=>?_
  replace hF:=aC hF hR
  clear hR
  go_simp
  try (unfold stored;go_simp)
  refine dJ _ _ ⟨?_,?_⟩
  .co_quiet Tq
  clear dJ Kx
 iterate 2
  try walk_nrm
  refine aV C Y rq λ_ hR Kx dJ=>?_
  replace hF:=aC hF hR
  clear hR
  go_simp
  try (unfold stored;go_simp)
  refine dJ _ _ ⟨?_,?_⟩
  .co_still Tq
  clear dJ Kx
 try walk_nrm
 refine aV C Y rq λ_ hR Kx dJ=>?_;replace hF:=aC hF hR;clear hR;have hc:=hF.du;go_simp;try (unfold stored;go_simp)
 refine dJ _ _ ⟨?_,?_⟩
 .exact gV hF (.inr Y)<|by co_evs (exact dp<|.inr<|.inr Y)
 clear dJ Kx;try walk_nrm
 replace hF:=hF.MF (iF b).1;clear hc;iterate 2
  refine aV C Y rq λ_ hR Kx dJ=>?_
  replace hF:=aC hF hR
  clear hR
  go_simp
  try (unfold stored;go_simp)
  refine dJ _ _ ⟨?_,?_⟩
  .co_still Tq
  clear dJ Kx;try walk_nrm
 refine aV C Y rq λ_ hR Kx dJ=>?_;replace hF:=aC hF hR;clear hR;have hc:=hF.du;go_simp;try (unfold stored;go_simp)
 refine dJ _ _ ⟨?_,?_⟩
 .exact gV hF (.inr Y)<|by co_evs (exact dp<|.inr<|.inr Y)
 clear dJ Kx;try walk_nrm
 replace hF:=hF.GY (iF b).2;clear hc;exact cO C T ⟨.inl Y,Y,_,resultsC_none rq _,Y,hF⟩
end
def gQ (d:DS):DS × Iq:=if 0<d.missing then ({ d with missing:=0 },[65533]) else (d,[])
def bq(c:CS):Iq->CS × Iq
 | []=>(c,[])
 | r::l=>((bq (dB c r).1 l).1,(dB c r).2++(bq (dB c r).1 l).2)
def df(c:CS)(r:Int):bq c [r]=dB c r:=by simp[bq]
section
variable (hF:HC N Pb cp c1 c2 c d w)
def KV(fr:Bool)(vs:Vq) :
  iH prog (XK<|aH prog N Pb Shun val B Mz) 118 #[.pointer (sq c2)] (fr,V (bq c (gQ d).2).2++vs) w (λi' _ w'=>i'=(fr&&(bq c (gQ d).2).2.isEmpty,vs)/\HC N Pb cp c1 c2 (bq c (gQ d).2).1 (gQ d).1 w'):=by
 have C:=cK N Pb Shun val B Mz;have T:=tK N Pb Shun val B Mz;have Tq:=T (true,[]);refine fG func118 rq Y ?_;co_apply bz C T (aS _);co_reg (T _);co_op aC hF (co_quiet Tq);iterate 2 co_opw aC hF (skip) (co_still Tq)
 co_opw aC hF (have hc:=hF.du) (refine eX hF ?_;co_evs (exact dp<|.inr<|.inr Y));clear hc;co_op aC hF (co_quiet Tq);co_apply opsC_nil (T _);co_then;by_cases hm:0<d.missing
 .have ZX:=tD hm;try simp only[ZX]
  refine bB C T (t:=true) Y ?_;simp only[if_true];co_apply bz C T (aS _);co_reg (T _);co_op aC hF (co_quiet Tq);iterate 2 co_opw aC hF (skip) (co_still Tq)
  co_opw aC hF (have hc:=hF.du) (exact gV hF (.inr Y)<|by co_evs (exact dp<|.inr<|.inr Y));replace hF:=hF.qT 0;clear hc;co_apply opsC_nil (T _);co_then;refine bT C T ?_;simp only[iB,Nat.reduceAdd];refine aV C Y rq λ_ hR Kx dJ=>?_;replace hF:=aC hF hR;clear hR;go_simp;try (unfold stored;go_simp)
  refine dJ _ _ ⟨?_,?_⟩
  .co_quiet Tq
  iterate 2
   clear dJ Kx
   try walk_nrm
   refine aV C Y rq λ_ hR Kx dJ=>?_
   replace hF:=aC hF hR
   clear hR
   go_simp
   try (unfold stored;go_simp)
   refine dJ _ _ ⟨?_,?_⟩
   .co_still Tq
  clear dJ Kx;try walk_nrm
  refine aV C Y rq λ_ hR Kx dJ=>?_;replace hF:=aC hF hR;clear hR;have hc:=hF.du;go_simp;try (unfold stored;go_simp)
  refine dJ _ _ ⟨?_,?_⟩
  .refine eX hF ?_;co_evs (exact dp<|.inr<|.inr Y)
  clear dJ Kx;try walk_nrm
  clear hc;refine cI C T Y rq Y Y (by simp[Act.eval]) (by simp only[gQ,ip hm,df]) (CK hF fr 65533 vs) ?_;rintro _ _ _ ⟨rfl,hF⟩;exact cO C T ⟨.inl Y,Y,_,resultsC_none rq _,by simp[gQ,hm,df],by simpa[gQ,hm,df] using hF⟩
 .have ZX:=fD hm;try simp only[ZX]
  refine bB C T (t:=false) Y ?_;simp only[if_false,j6];exact fY C T ⟨.inl Y,Y,_,resultsC_none rq _,by simp[gQ,hm,bq,V],by simpa[gQ,hm,bq] using hF⟩
def cD(d:DS)(b:Int):DS × Iq :=
 if b<128 then (d,[IntKind.i32.wrap b]) else if b<194 then (d,[65533]) else if b>244 then (d,[65533]) else if b<224 then (⟨ey b 31,1,(iF b).1,(iF b).2⟩,[]) else if b<240 then (⟨ey b 15,2,(iF b).1,(iF b).2⟩,[]) else (⟨ey b 7,3,(iF b).1,(iF b).2⟩,[])
def zJ(fr:Bool)(b:Int)(vs:Vq) :
  iH prog (XK<|aH prog N Pb Shun val B Mz) 215 #[.pointer (sq c2),.int .u8 b] (fr,V (bq c (cD d b).2).2++vs) w (λi' _ w'=>i'=(fr&&(bq c (cD d b).2).2.isEmpty,vs)/\HC N Pb cp c1 c2 (bq c (cD d b).2).1 (cD d b).1 w'):=by
 have C:=cK N Pb Shun val B Mz;have T:=tK N Pb Shun val B Mz;have Tq:=T (true,[]);refine fG func215 rq Y ?_;simp only[ntmps215,bZ,Nat.reduceAdd,Nat.reduceSub];refine iC C T ?_;co_apply bz C T (aS _);co_reg (T _);iterate 3 co_op aC hF (co_quiet Tq)
 co_apply opsC_nil (T _);co_then;by_cases h1:b<128
 .have SW:decide (b<128)=true:=tD h1;try simp only[SW]
  refine bB C T (t:=true) Y ?_;simp only[if_true];have vQ:cD d b=(d,[IntKind.i32.wrap b]):=by simp[cD,h1]
  refine bT C T ?_;simp only[iB,Nat.reduceAdd];refine aV C Y rq λ_ hR Kx dJ=>?_;replace hF:=aC hF hR;clear hR;go_simp;try (unfold stored;go_simp)
  refine dJ _ _ ⟨?_,?_⟩
  .co_quiet Tq
  iterate 2
   clear dJ Kx
   try walk_nrm
   refine aV C Y rq λ_ hR Kx dJ=>?_
   replace hF:=aC hF hR
   clear hR
   go_simp
   try (unfold stored;go_simp)
   refine dJ _ _ ⟨?_,?_⟩
   .co_still Tq
  clear dJ Kx;try walk_nrm
  refine aV C Y rq λ_ hR Kx dJ=>?_;replace hF:=aC hF hR;clear hR;have hc:=hF.du;go_simp;try (unfold stored;go_simp)
  refine dJ _ _ ⟨?_,?_⟩
  .refine eX hF ?_;co_evs (exact dp<|.inr<|.inr Y)
  clear dJ Kx;try walk_nrm
  clear hc;iterate 2
   refine aV C Y rq λ_ hR Kx dJ=>?_
   replace hF:=aC hF hR
   clear hR
   go_simp
   try (unfold stored;go_simp)
   refine dJ _ _ ⟨?_,?_⟩
   .co_quiet Tq
   clear dJ Kx;try walk_nrm
  refine cI C T Y rq Y Y (by simp[Act.eval]) (by rw[vQ];simp only[df]) (CK hF fr (IntKind.i32.wrap b) vs) ?_;rintro _ _ _ ⟨rfl,hF⟩;exact cO C T ⟨.inl Y,Y,_,resultsC_none rq _,by simp[vQ,df],by rw[vQ,df];exact hF⟩
 .have SW:decide (b<128)=false:=fD h1;try simp only[SW]
  refine bB C T (t:=false) Y ?_;simp only[if_false,j6];by_cases h2:b<194
  .have Zl:decide (b<194)=true:=tD h2;co_apply bz C T (aS _);co_reg (T _);iterate 3 co_op aC hF (co_quiet Tq)
   try simp only[Zl]
   iterate 2 co_apply opsC_unwanted (T _) Y rq
   iterate 2 co_op aC hF (co_quiet Tq)
   co_apply opsC_nil (T _);co_then;refine bB C T (t:=true) Y ?_;simp only[if_true];have vQ:cD d b=(d,[65533]):=by simp[cD,h1,h2]
   refine bT C T ?_;simp only[iB,Nat.reduceAdd];refine aV C Y rq λ_ hR Kx dJ=>?_;replace hF:=aC hF hR;clear hR;go_simp;try (unfold stored;go_simp)
   refine dJ _ _ ⟨?_,?_⟩
   .co_quiet Tq
   iterate 2
    clear dJ Kx
    try walk_nrm
    refine aV C Y rq λ_ hR Kx dJ=>?_
    replace hF:=aC hF hR
    clear hR
    go_simp
    try (unfold stored;go_simp)
    refine dJ _ _ ⟨?_,?_⟩
    .co_still Tq
   clear dJ Kx;try walk_nrm
   refine aV C Y rq λ_ hR Kx dJ=>?_;replace hF:=aC hF hR;clear hR;have hc:=hF.du;go_simp;try (unfold stored;go_simp)
   refine dJ _ _ ⟨?_,?_⟩
   .refine eX hF ?_;co_evs (exact dp<|.inr<|.inr Y)
   clear dJ Kx;try walk_nrm
   clear hc;refine cI C T Y rq Y Y (by simp[Act.eval]) (by rw[vQ];simp only[df]) (CK hF fr 65533 vs) ?_;rintro _ _ _ ⟨rfl,hF⟩;exact cO C T ⟨.inl Y,Y,_,resultsC_none rq _,by simp[vQ,df],by rw[vQ,df];exact hF⟩
  .have Zl:decide (b<194)=false:=fD h2;co_apply bz C T (aS _);co_reg (T _);iterate 3 co_op aC hF (co_quiet Tq)
   try simp only[Zl]
   iterate 4 co_op aC hF (co_quiet Tq)
   co_apply opsC_nil (T _);co_then;by_cases h3:b>244
   .have Zn:decide (b>244)=true:=tD h3;try simp only[Zn]
    refine bB C T (t:=true) Y ?_;simp only[if_true];have vQ:cD d b=(d,[65533]):=by simp[cD,h1,h2,h3]
    refine bT C T ?_;simp only[iB,Nat.reduceAdd];refine aV C Y rq λ_ hR Kx dJ=>?_;replace hF:=aC hF hR;clear hR;go_simp;try (unfold stored;go_simp)
    refine dJ _ _ ⟨?_,?_⟩
    .co_quiet Tq
    iterate 2
     clear dJ Kx
     try walk_nrm
     refine aV C Y rq λ_ hR Kx dJ=>?_
     replace hF:=aC hF hR
     clear hR
     go_simp
     try (unfold stored;go_simp)
     refine dJ _ _ ⟨?_,?_⟩
     .co_still Tq
    clear dJ Kx;try walk_nrm
    refine aV C Y rq λ_ hR Kx dJ=>?_;replace hF:=aC hF hR;clear hR;have hc:=hF.du;go_simp;try (unfold stored;go_simp)
    refine dJ _ _ ⟨?_,?_⟩
    .refine eX hF ?_;co_evs (exact dp<|.inr<|.inr Y)
    clear dJ Kx;try walk_nrm
    clear hc;refine cI C T Y rq Y Y (by simp[Act.eval]) (by rw[vQ];simp only[df]) (CK hF fr 65533 vs) ?_;rintro _ _ _ ⟨rfl,hF⟩;exact cO C T ⟨.inl Y,Y,_,resultsC_none rq _,by simp[vQ,df],by rw[vQ,df];exact hF⟩
   .have Zn:decide (b>244)=false:=fD h3;try simp only[Zn]
    refine bB C T (t:=false) Y ?_;simp only[if_false,j6];co_apply bz C T (aS _);co_reg (T _);iterate 3 co_op aC hF (co_quiet Tq)
    co_apply opsC_nil (T _);co_then;by_cases h4:b<224
    .have Zo:decide (b<224)=true:=tD h4;try simp only[Zo]
     refine bB C T (t:=true) Y ?_;simp only[if_true];have vQ:cD d b=(⟨ey b 31,1,(iF b).1,(iF b).2⟩,[]):=by simp[cD,h1,h2,h3,h4]
     refine bT C T ?_;simp only[iB,Nat.reduceAdd];iterate 2
      refine aV C Y rq λ_ hR Kx dJ=>?_
      replace hF:=aC hF hR
      clear hR
      go_simp
      try (unfold stored;go_simp)
      refine dJ _ _ ⟨?_,?_⟩
      .co_quiet Tq
      clear dJ Kx;try walk_nrm
     refine cI C T Y rq Y Y (by simp[Act.eval]) (by rw[vQ];simp[bq,V]) (ED hF (fr,vs) b 1 31) ?_;rintro _ _ _ ⟨rfl,hF⟩;exact cO C T ⟨.inl Y,Y,_,resultsC_none rq _,by simp[vQ,bq],by rw[vQ];exact hF⟩
    .have Zo:decide (b<224)=false:=fD h4;try simp only[Zo]
     refine bB C T (t:=false) Y ?_;simp only[if_false,j6];co_apply bz C T (aS _);co_reg (T _);iterate 3 co_op aC hF (co_quiet Tq)
     co_apply opsC_nil (T _);co_then;by_cases h5:b<240
     .have Zp:decide (b<240)=true:=tD h5;try simp only[Zp]
      refine bB C T (t:=true) Y ?_;simp only[if_true];have vQ:cD d b=(⟨ey b 15,2,(iF b).1,(iF b).2⟩,[]):=by simp[cD,h1,h2,h3,h4,h5]
      refine bT C T ?_;simp only[iB,Nat.reduceAdd];iterate 2
       refine aV C Y rq λ_ hR Kx dJ=>?_
       replace hF:=aC hF hR
       clear hR
       go_simp
       try (unfold stored;go_simp)
       refine dJ _ _ ⟨?_,?_⟩
       .co_quiet Tq
       clear dJ Kx;try walk_nrm
      refine cI C T Y rq Y Y (by simp[Act.eval]) (by rw[vQ];simp[bq,V]) (ED hF (fr,vs) b 2 15) ?_;rintro _ _ _ ⟨rfl,hF⟩;exact cO C T ⟨.inl Y,Y,_,resultsC_none rq _,by simp[vQ,bq],by rw[vQ];exact hF⟩
     .have Zp:decide (b<240)=false:=fD h5;try simp only[Zp]
      refine bB C T (t:=false) Y ?_;simp only[if_false,j6];have vQ:cD d b=(⟨ey b 7,3,(iF b).1,(iF b).2⟩,[]):=by simp[cD,h1,h2,h3,h4,h5]
      refine bT C T ?_;simp only[iB,Nat.reduceAdd];iterate 2
       refine aV C Y rq λ_ hR Kx dJ=>?_
       replace hF:=aC hF hR
       clear hR
       go_simp
       try (unfold stored;go_simp)
       refine dJ _ _ ⟨?_,?_⟩
       .co_quiet Tq
       clear dJ Kx;try walk_nrm
      refine cI C T Y rq Y Y (by simp[Act.eval]) (by rw[vQ];simp[bq,V]) (ED hF (fr,vs) b 3 7) ?_;rintro _ _ _ ⟨rfl,hF⟩;exact cO C T ⟨.inl Y,Y,_,resultsC_none rq _,by simp[vQ,bq],by rw[vQ];exact hF⟩
end
end
def cG(l b:Int):Int:=bits .or .i32 (IntKind.i32.wrap<|l*64)<|IntKind.i32.wrap<|bits .and .u8 b 63
def dr(d:DS)(b:Int):DS × Iq :=
 (⟨cG d.letter b,IntKind.i64.wrap<|d.missing-1,128,191⟩,if IntKind.i64.wrap (d.missing-1)=0 then [cG d.letter b] else [])
section
variable {Pb:Nat}
variable [ConcR.Payload][ConcX.Payload]
theorem K3(a:HC N Pb cp c1 c2 c d w)(fr:Bool)(b:Int)(vs:Vq) :
  iH prog (XK<|aH prog N Pb Shun val B Mz) 214 #[.pointer (sq c2),.int .u8 b] (fr,V (bq c (dr d b).2).2++vs) w (λA _ p=>A=(fr&&(bq c (dr d b).2).2.isEmpty,vs)/\HC N Pb cp c1 c2 (bq c (dr d b).2).1 (dr d b).1 p):=by
 have C:=cK N Pb Shun val B Mz;have T:=tK N Pb Shun val B Mz;have f:=T (true,[]);have q:∀w:World,sY (aH prog N Pb Shun val B Mz) (true,[]) w { w with drawn:=w.drawn+1 }:=wv;refine fG func214 rq Y ?_;simp only[ntmps214,bZ,Nat.reduceAdd,Nat.reduceSub];co_apply bz C T (aS _);co_reg (T _);iterate 2 co_op aC a (co_quiet f)
 iterate 2 co_opw aC a (skip) (co_still f)
 co_opw aC a (have U:=a.du) (refine eX a ?_;co_evs (exact dp<|.inr<|.inr Y));clear U;iterate 5 co_op aC a (co_quiet f)
 iterate 2 co_opw aC a (skip) (co_still f)
 co_opw aC a (have U:=a.du) (exact gV a (.inr Y)<|by co_evs (exact dp<|.inr<|.inr Y));replace a:=a.yV<|cG d.letter b;clear U;co_apply opsC_nil (T _);co_then;co_apply bz C T (aS _);co_reg (T _);co_op aC a (co_quiet f);iterate 2 co_opw aC a (skip) (co_still f)
 co_opw aC a (have U:=a.du) (refine eX a ?_;co_evs (exact dp<|.inr<|.inr Y));clear U;co_op aC a (co_quiet f);iterate 2 co_opw aC a (skip) (co_still f)
 co_opw aC a (have U:=a.du) (exact gV a (.inr Y)<|by co_evs (exact dp<|.inr<|.inr Y));replace a:=a.qT<|IntKind.i64.wrap<|d.missing-1;clear U;co_apply opsC_nil (T _);co_then;co_apply bz C T (aS _);co_reg (T _);iterate 2 co_op aC a (co_quiet f)
 iterate 2 co_opw aC a (skip) (co_still f)
 co_opw aC a (have U:=a.du) (exact gV a (.inr Y)<|by co_evs (exact dp<|.inr<|.inr Y));replace a:=a.MF 128;clear U;iterate 2 co_opw aC a (skip) (co_still f)
 co_opw aC a (have U:=a.du) (exact gV a (.inr Y)<|by co_evs (exact dp<|.inr<|.inr Y));replace a:=a.GY 191;clear U;co_apply opsC_nil (T _);co_then;co_apply bz C T (aS _);co_reg (T _);co_op aC a (co_quiet f);iterate 2 co_opw aC a (skip) (co_still f)
 co_opw aC a (have U:=a.du) (refine eX a ?_;co_evs (exact dp<|.inr<|.inr Y));clear U;co_op aC a (co_quiet f);co_apply opsC_nil (T _);co_then;by_cases g:IntKind.i64.wrap (d.missing-1)=0
 .have o:(IntKind.i64.wrap (d.missing-1)==0)=true:=by simp[g]
  try simp only[o]
  clear o;refine bB C T (t:=true) Y ?_;simp only[if_true];refine uT C T (n:=8) (S:=HC N Pb cp c1 c2 c ⟨cG d.letter b,IntKind.i64.wrap<|d.missing-1,128,191⟩) (K:=λm p=>(m.eval (.tmp 37)=qj c1/\m.eval (.tmp 41)=.int .i32 (cG d.letter b)/\m.defers=[])/\HC N Pb cp c1 c2 c ⟨cG d.letter b,IntKind.i64.wrap<|d.missing-1,128,191⟩ p) QY (by first|kernel_rfl|rfl) rfl (λl=>(!l.getD 1 false||l.getD 0 false)&&(!l.getD 2 false||l.getD 1 false)&&(!l.getD 3 false||l.getD 2 false)&&(!l.getD 5 false||l.getD 4 false)&&(!l.getD 6 false||l.getD 5 false)&&(!l.getD 7 false||l.getD 6 false)) rfl ?hdn ?Z6 (λv u=>?any) ?last;case Z6 =>
   intro e j i;have⟨l⟩:=e;match l,j,i with
   | [b0,b1,b2,b3,b4,b5,b6,b7,b8],j,i =>clear j;simp only[K8,List.getElem?_cons_succ,N4,wJ] at i;subst i;clear a g;revert b0 b1 b2 b3 b4 b5 b6 b7;decide +kernel
  case hdn =>
   intro e j i;have⟨l⟩:=e;match l,j,i with
   | [b0,b1,b2,b3,b4,b5,b6,b7,b8],j,i =>clear j;simp only[K8,List.getElem?_cons_succ,N4,wJ] at i;subst i;clear a g;revert b0 b1 b2 b3 b4 b5 b6 b7;decide +kernel
  case any =>
   replace a:=aC (aC a u)<|q _;clear u
   co_applyP tkA [0,1,2,3,4,5,6,7]
   iterate 8
    co_applyP tkC (T _) (λ_ _ h r=>aC h r) (λ_ _ _ h r=>⟨h.1,h.2.1,aC h.2.2 r⟩) Y (.inl ⟨rq,λ_ s=>⟨run_eq_of ?_,?_⟩⟩) a ?_;rotate_left
    .intro D x;have U:=s.du;go_simp;exact x
    .have U:=s.du;first|(rw[listed_nil];exact Terms.idle f _;first|(simp[go_sem];done)|(simp[go_sem, *];done))|(refine eX s ?_;co_evs (exact dp<|.inr<|.inr Y))
    try walk_nrm
   co_applyP tkZ
   exact anyCH_done (by decide +kernel) ⟨Y,⟨Y,Y,Y⟩,a⟩ _
  case last =>
   rintro m p ⟨⟨y,E,z⟩,a⟩;have k:dr d b=(⟨cG d.letter b,IntKind.i64.wrap<|d.missing-1,128,191⟩,[cG d.letter b]):=by simp only[dr,ip g]
   refine cI C T Y rq Y y gq (by rw[k];simp only[df]) (CK a fr (cG d.letter b) vs) ?_;rintro _ _ _ ⟨rfl,a⟩;exact cO C T ⟨.inl Y,z,_,resultsC_none rq _,by simp[k,df],by rw[k,df];exact a⟩
 .have o:(IntKind.i64.wrap (d.missing-1)==0)=false:=by simp[g]
  try simp only[o]
  refine bB C T (t:=false) Y ?_;simp only[if_false,j6];refine fY C T ?_;have k:dr d b=(⟨cG d.letter b,IntKind.i64.wrap<|d.missing-1,128,191⟩,[]):=by simp only[dr,iw g]
  exact⟨.inl Y,Y,_,resultsC_none rq _,by simp[k,bq,V],by rw[k];exact a⟩
end
end
section
variable [Inhabited KC]
variable {ι:Type}{R:ι->Wq}{D:ι->World->World->Array Event->Prop}
def cX(d:DS)(b:Int):DS × Iq :=
 if 0<d.missing then if d.low<=b/\b<=d.high then dr d b else ((cD (gQ d).1 b).1,(gQ d).2++(cD (gQ d).1 b).2) else cD d b
def kK(c:CS)(x y:Iq):bq c (x++y)=((bq (bq c x).1 y).1,(bq c x).2++(bq (bq c x).1 y).2):=by
 induction x generalizing c with
 | nil=>simp[bq]
 | cons r l a=>simp[bq,a]
def oZ{a:Type}(x y:List a):(x++y).isEmpty=(x.isEmpty&&y.isEmpty):=by cases x<;>rfl
def rr(x y:Iq):V (x++y)=V x++V y:=by simp[V]
variable {N Pb c1 c2 B:Nat}{cp:JW}{Shun Mz:Loc->Prop}{val:Value}{c:CS}{d:DS}{w aL:World}
section
variable [ConcR.Payload][ConcX.Payload]
def Ux(a:HC N Pb cp c1 c2 c d w)(fr:Bool)(b:Int)(vs:Vq) :
  iH prog (XK<|aH prog N Pb Shun val B Mz) 117 #[.pointer (sq c2),.int .u8 b] (fr,V (bq c (cX d b).2).2++vs) w (λr _ s=>r=(fr&&(bq c (cX d b).2).2.isEmpty,vs)/\HC N Pb cp c1 c2 (bq c (cX d b).2).1 (cX d b).1 s):=by
 have C:=cK N Pb Shun val B Mz;have T:=tK N Pb Shun val B Mz;have g:=T (true,[]);refine fG func117 rq Y ?_;simp only[ntmps117,bZ,Nat.reduceAdd,Nat.reduceSub];refine fj C T ?_;co_apply bz C T (aS _);co_reg (T _);co_op aC a (co_quiet g);iterate 2 co_opw aC a (skip) (co_still g)
 co_opw aC a (have k:=a.du) (refine eX a ?_;co_evs (exact dp<|.inr<|.inr Y));clear k;co_op aC a (co_quiet g);co_apply opsC_nil (T _);co_then;by_cases o:0<d.missing
 .have n:decide (0<d.missing)=true:=tD o;try simp only[n]
  refine bB C T (t:=true) Y ?_;simp only[if_true];refine fj C T ?_;by_cases q:d.low<=b
  .have m:decide (d.low<=b)=true:=tD q;co_apply bz C T (aS _);co_reg (T _);co_op aC a (co_quiet g);iterate 2 co_opw aC a (skip) (co_still g)
   co_opw aC a (have k:=a.du) (refine eX a ?_;co_evs (exact dp<|.inr<|.inr Y));clear k;iterate 3 co_op aC a (co_quiet g)
   try simp only[m]
   iterate 2 co_op aC a (co_quiet g)
   iterate 2 co_opw aC a (skip) (co_still g)
   co_opw aC a (have k:=a.du) (refine eX a ?_;co_evs (exact dp<|.inr<|.inr Y));clear k;iterate 2 co_op aC a (co_quiet g)
   co_apply opsC_nil (T _);co_then;by_cases p:b<=d.high
   .have l:decide (b<=d.high)=true:=tD p;try simp only[l]
    refine bB C T (t:=true) Y ?_;simp only[if_true];refine fj C T ?_;have f:cX d b=dr d b:=by simp only[cX,ip o,ip<|And.intro q p]
    refine bT C T ?_;simp only[iB,Nat.reduceAdd];iterate 2
     refine aV C Y rq λ_ i j e=>?_
     replace a:=aC a i
     clear i
     go_simp
     try (unfold stored;go_simp)
     refine e _ _ ⟨?_,?_⟩
     .co_quiet g
     clear e j;try walk_nrm
    refine cI C T Y rq Y Y (by simp[Act.eval]) (by rw[f]) (K3 a fr b vs) ?_;rintro _ _ _ ⟨rfl,a⟩;refine cO C T ?_;show ov _ _ _ _ _ _ _;exact qd C T ⟨.inr Y,Y,_,resultsC_none rq _,by simp[f],by rw[f];exact a⟩
   .have l:decide (b<=d.high)=false:=fD p;try simp only[l]
    refine bB C T (t:=false) Y ?_;simp only[if_false,j6];refine fY C T ?_;show ov _ _ _ _ _ _ _;have f:cX d b=((cD (gQ d).1 b).1,(gQ d).2++(cD (gQ d).1 b).2):=by simp only[cX,ip o,iw<|λh:d.low<=b/\b<=d.high=>p h.2]
    rw[f];simp only[kK,rr,uW];refine bT C T ?_;simp only[iB,Nat.reduceAdd];refine aV C Y rq λ_ i j e=>?_;replace a:=aC a i;clear i;go_simp;try (unfold stored;go_simp)
    refine e _ _ ⟨?_,?_⟩
    .co_quiet g
    clear e j;try walk_nrm
    refine cI C T Y rq Y Y (by simp[Act.eval]) Y (KV a fr _) ?_;rintro _ _ _ ⟨rfl,a⟩;refine cO C T ?_;show ov _ _ _ _ _ _ _;refine bT C T ?_;simp only[iB,Nat.reduceAdd];iterate 2
     refine aV C Y rq λ_ i j e=>?_
     replace a:=aC a i
     clear i
     go_simp
     try (unfold stored;go_simp)
     refine e _ _ ⟨?_,?_⟩
     .co_quiet g
     clear e j;try walk_nrm
    refine cI C T Y rq Y Y (by simp[Act.eval]) Y (zJ a _ b vs) ?_;rintro _ _ _ ⟨rfl,a⟩;exact cO C T ⟨.inl Y,Y,_,resultsC_none rq _,by simp[oZ,Bool.and_assoc],a⟩
  .have m:decide (d.low<=b)=false:=fD q;co_apply bz C T (aS _);co_reg (T _);co_op aC a (co_quiet g);iterate 2 co_opw aC a (skip) (co_still g)
   co_opw aC a (have k:=a.du) (refine eX a ?_;co_evs (exact dp<|.inr<|.inr Y));clear k;iterate 3 co_op aC a (co_quiet g)
   try simp only[m]
   iterate 6 co_apply opsC_unwanted (T _) Y rq
   co_op aC a (co_quiet g);co_apply opsC_nil (T _);co_then;refine bB C T (t:=false) Y ?_;simp only[if_false,j6];refine fY C T ?_;show ov _ _ _ _ _ _ _;have f:cX d b=((cD (gQ d).1 b).1,(gQ d).2++(cD (gQ d).1 b).2):=by simp only[cX,ip o,iw<|λh:d.low<=b/\b<=d.high=>q h.1]
   rw[f];simp only[kK,rr,uW];refine bT C T ?_;simp only[iB,Nat.reduceAdd];refine aV C Y rq λ_ i j e=>?_;replace a:=aC a i;clear i;go_simp;try (unfold stored;go_simp)
   refine e _ _ ⟨?_,?_⟩
   .co_quiet g
   clear e j;try walk_nrm
   refine cI C T Y rq Y Y (by simp[Act.eval]) Y (KV a fr _) ?_;rintro _ _ _ ⟨rfl,a⟩;refine cO C T ?_;show ov _ _ _ _ _ _ _;refine bT C T ?_;simp only[iB,Nat.reduceAdd];iterate 2
    refine aV C Y rq λ_ i j e=>?_
    replace a:=aC a i
    clear i
    go_simp
    try (unfold stored;go_simp)
    refine e _ _ ⟨?_,?_⟩
    .co_quiet g
    clear e j;try walk_nrm
   refine cI C T Y rq Y Y (by simp[Act.eval]) Y (zJ a _ b vs) ?_;rintro _ _ _ ⟨rfl,a⟩;exact cO C T ⟨.inl Y,Y,_,resultsC_none rq _,by simp[oZ,Bool.and_assoc],a⟩
 .have n:decide (0<d.missing)=false:=fD o;try simp only[n]
  refine bB C T (t:=false) Y ?_;simp only[if_false,j6];refine fY C T ?_;show ov _ _ _ _ _ _ _;have f:cX d b=cD d b:=by simp only[cX,iw o]
  refine bT C T ?_;simp only[iB,Nat.reduceAdd];iterate 2
   refine aV C Y rq λ_ i j e=>?_
   replace a:=aC a i
   clear i
   go_simp
   try (unfold stored;go_simp)
   refine e _ _ ⟨?_,?_⟩
   .co_quiet g
   clear e j;try walk_nrm
  refine cI C T Y rq Y Y (by simp[Act.eval]) (by rw[f]) (zJ a fr b vs) ?_;rintro _ _ _ ⟨rfl,a⟩;exact cO C T ⟨.inl Y,Y,_,resultsC_none rq _,by simp[f],by rw[f];exact a⟩
end
def FO(P:Program)(w:World)(t:TypeId)(v:Value):(Instr.box t v).run P w=.ok (.pointer<|sq w.heap.size) (w.alloc<|.cells v.cells t):=by simp[newVar,go_sem]
def vz(P:Program)(w:World)(t:TypeId)(v:Value)(es:Array Event):(Instr.box t v).events P w es=es:=by simp[newVar,go_sem]
def s7{P:Program}{w:World}{t:TypeId}{z:Value}(a:∀w,(zeroValue t).run P w=.ok z w):(Instr.alloc t true<|.tuple #[]).run P w=.ok (.pointer<|sq w.heap.size) (w.alloc<|.cells z.cells t):=by simp[newVar,go_sem,a]
def nj{P:Program}{w:World}{t:TypeId}{z:Value}(a:∀w,(zeroValue t).run P w=.ok z w)(es:Array Event):(Instr.alloc t true<|.tuple #[]).events P w es=es:=by simp[newVar,go_sem,a]
def qv{P:Program}(w:World):∀(b:List Field) (a:List (Nat × Nat)) (es:Array Event),b.mapM (λf:Field=>(P.info? f.type).map λi=>(f.offset,i.size))=some a ->
  (b.mapM λf:Field=>Functor.map (Prod.mk f.offset)<|sizeOf f.type).events P w es=es
 | [],a,es,h=>iq
 | f::b,a,es,h=>by
  simp only[List.mapM_cons,Option.bind_eq_bind,Option.pure_def] at h;cases hi:P.info? f.type with
  | none=>simp[hi] at h
  | some i =>
   cases hr:b.mapM (λf=>(P.info? f.type).map λi=>(f.offset,i.size)) with
   | none=>simp[hi,hr] at h
   | some rest =>
    have hs:(sizeOf f.type).run P w=.ok i.size w:=by simp[sizeOf,typeInfo,hi]
    simp[hs,qv w b rest _ hr]
def kQ{P:Program}(w:World)(t:TypeId)(a:Array (Nat × Value))(cells:Aq)(h:P.built t a.toList=some cells)(es:Array Event):(Instr.build t a).events P w es=es:=by
 unfold Program.built at h;cases N5:P.info? t with
 | none=>simp[N5] at h
 | some g =>
  cases hu:P.underlying t with
  | none=>simp[N5,hu] at h
  | some d =>
   cases hz:g.zero with
   | none=>cases d<;>simp[N5,hu,hz] at h
   | some z =>
    cases d<;>try (simp[N5,hu] at h;done)
    case array n e =>
     cases Rc:P.info? e with
     | none=>simp[N5,hu,hz,Rc] at h
     | some j =>simp only[N5,hu,hz,Rc] at h;simp[Instr.build,run_underlying hu,sizeOf,typeInfo,zeroValue,N5,hz,Rc,h]
    case struct fields =>
     cases hp:fields.toList.mapM (λf=>(P.info? f.type).map λi=>(f.offset,i.size)) with
     | none=>simp[N5,hu,hz,hp] at h
     | some b =>
      simp only[N5,hu,hz,hp] at h;have c:Instr.fill (λx=>b[x]?) z.cells a.toList=some cells:=by simpa using h
      simp[Instr.build,run_underlying hu,typeInfo,zeroValue,N5,hz,Array.mapM_eq_mapM_toList,run_places w _ _ hp,qv w _ _ _ hp,c]
theorem pu{P:Program}(g:Nat)(t:TypeId):∀(vs:Vq) (i:Nat) (U:Aq) (w:World) (es:Array Event),w.heap[g]?=some (.cells U t (0,0))->i+vs.length<=U.size->(∀v∈vs,v.oneCell'=true) ->
  ∀a∈(storeCells ⟨g,0,none⟩ vs i).events P w es,a∈es\/∃o,a=⟨.cell ⟨g,o,none⟩,true,false⟩
 | [],_,_,_,_,_,_,_=>λa h=>.inl<|by simpa[storeCells] using h
 | v::rest,i,U,w,es,hg,hl,h1=>λa h=>by
  have hi:i<U.size:=gq
  have c:(⟨g,0,none⟩:Addr).add i=⟨g,i,none⟩:=by unfold Addr.add;split<;>simp_all
  have b:w.cell? ⟨g,i,none⟩=some U[i]:=by simp[World.cell?,hg,hi]
  have d:w.frozen? ⟨g,i,none⟩=false:=by simp[World.frozen?,hg]
  have f:(store ((⟨g,0,none⟩:Addr).add i) v).run P w=.ok () (w.setRow g<|U.setIfInBounds i v):=by rw[c,run_store P w _ v _<|h1 v iq,b];simp[d,setCell_eq_setRow w g i U t (0,0) v hg]
  have e:(store ((⟨g,0,none⟩:Addr).add i) v).events P w es=es.push ⟨.cell ⟨g,i,none⟩,true,false⟩:=by rw[c,events_store P w es _ v _<|h1 v iq,b];grind
  simp only[storeCells,Sem.events_bind,f,e] at h;rcases pu g t rest (i+1) _ _ _ (setRow_heap w g U _ t _ hg) gq (λx j=>h1 x<|by simp[j]) a h with h|h
  .grind
  .exact .inr h
theorem AX{P:Program}(w:World)(g:Nat)(t ty:TypeId)(old cells:Aq)(c:w.heap[g]?=some (.cells old t (0,0)))(hi:(P.info? ty).map (·.size)=some cells.size)(e:old.size=cells.size)(h1:cells.all (·.oneCell')=true) :
  ∀a∈(storeVar ty ⟨g,0,none⟩<|.agg cells).events P w #[],∃o,a=⟨.cell ⟨g,o,none⟩,true,false⟩:=by
 intro a b;cases hq:P.info? ty with
 | none=>simp[hq] at hi
 | some i =>
  have d:cells.size=i.size:=gq
  have U:a∈(storeCells ⟨g,0,none⟩ cells.toList).events P w #[]:=by simpa[storeVar,sizeOf,typeInfo,hq,Value.cells,d] using b
  rcases pu g t cells.toList 0 old w #[] c (by simp;omega) (λv f=>(Array.all_eq_true_iff_forall_mem.1 h1) v gq) a U with h|h
  .simp at h
  .exact h
structure HM(M:World->Nat->Prop)(O:Nat->Prop)(N0:Nat)(Ex:Nat->Prop)(w₀:World)(Bb:Nat)(p u v:Value)(n:Nat)(xs:Vq)(w:World):Prop where
 bd:w.heap[Bb]?=some (.cells #[p,u] 119)
 mb:M w Bb
 exb:Ex Bb\/w₀.heap.size<=Bb
 ro:oE M Ex w₀ 5 v n xs w
 size:N0<=w.heap.size
 old:Kept M O Ex w₀ w
variable {M:World->Nat->Prop}{O Ex:Nat->Prop}{N0 Bb n:Nat}{w₀:World}{p u v:Value}{xs:Vq}
section
variable {i:ι}
def fL{e:Event}{ad:Addr}(b:e.loc=.cell ad)(a:M w ad.block):xl (M w) e:=.inl ⟨ad,b,a⟩
section
variable (E:Env dt N0 M O (R i) (D i))
def eY(a:N0<=w.heap.size){es:Array Event}(h:∀e∈es,xl (M w) e):D i w w es:=E.jb a (dM w) h
def xl.up{w':World}{e:Event}(h:xl (M w) e)(a:∀b,M w b->M w' b):xl (M w') e:=h.imp (λ⟨c,h1,h2⟩=>⟨c,h1,a _ h2⟩)<|Or.imp (λ⟨b,d,h1,h2⟩=>⟨b,d,h1,a _ h2⟩) id
def zW{w':World}(c:N0<=w.heap.size)(o:Own dt M w w'){es:Array Event}(h:∀e∈es,xl (M w) e):D i w w' es:=E.jb c o λe b=>(h e b).up λ_ a=>E.mine o a
end
end
variable {P:Program}
theorem BA(a:Addr)(j:Nat):(a.add 1).add j=a.add (j+1):=by unfold Addr.add;grind
theorem mN(w:World):∀(l:Bq) (a:Addr) (acc:ByteArray) (es:Array Event),(∀j x,l[j]?=some x->w.cell? (a.add j)=some (.int .u8 x.toNat)) ->
  ∀U∈(loadBytes a acc l.length).events P w es,U∈es\/∃b,U.loc=.cell b/\b.block=a.block
 | [],a,acc,es,_=>λU h=>.inl<|by simpa[loadBytes] using h
 | x::l,a,acc,es,h=>λU c=>by
  have h0:w.cell? a=some (.int .u8 x.toNat):=by have:=h 0 x Y;simpa[Addr.add] using this
  simp only[lC,loadBytes,Sem.events_bind,run_load,h0] at c;rcases mN w l _ _ _ (λj y d=>by rw[BA];exact h (j+1) y gq) U c with z|⟨b,z1,z2⟩
  .rcases events_load_at w a .plain es h0 U z with y|⟨y,_⟩
   .exact .inl y
   .exact .inr ⟨a,y,Y⟩
  .exact .inr ⟨b,z1,by rw[z2,addBlock]⟩
theorem mO(w:World)(d k ty e:TypeId)(A:P.underlying d=some (.pointer e))(v:P.cellsOf e=1)(g cells:Nat)(u:w.shape? g=some (e,cells))(l:Bq)(C:l≠[])(D:l.length<=cells)(B:l.length<=9223372036854775807)
 (U:∀j x,l[j]?=some x->w.cell? ((⟨g,0,none⟩:Addr).add j)=some (.int .u8 x.toNat)) :
  ∀f∈(Builtin.unsafeString_ #[d,k] ty #[.pointer (sq g),.int .i64 l.length]).events P w #[],∃i,f.loc=.cell i/\i.block=g:=by
 have y:l.length≠0:=gq
 have b:¬(9223372036854775807:Int)<(l.length:Int):=oq
 obtain⟨m,o,p,q⟩:∃m o p:String,Builtin.unsafeString_ #[d,k] ty #[.pointer (sq g),.int .i64 l.length] =
   (do
    let n <-asInt (.int .i64 l.length)
    if n<0 then runtimePanic (.error m)
    if n>IntKind.i64.max then unsupported (.unsafePointer o)
    if n=0 then pure _
    else if <-variablesAt ⟨g,0,none⟩ (<-elemOf d) n.toNat then do
     let s <-loadBytes ⟨g,0,none⟩ .empty n.toNat
     freeze ⟨g,0,none⟩ n.toNat
     pure (.string s)
    else unsupported (.unsafePointer p)):=⟨_,_,_,Y⟩;rw[q];have r:IntKind.i64.max=9223372036854775807:=Y;have c:¬(l.length:Int)<0:=oq
 intro f h;simp[asInt,asIntOf,r,b,c,y,variablesAt,u,elemOf,run_underlying A,(Lib.liesAt_bytes (P:=P) v (cells / P.cellsOf e) l.length gq),(Lib.run_loadBytes (P:=P) w l ⟨g,0,none⟩ .empty U)] at h;rcases mN (P:=P) w l ⟨g,0,none⟩ .empty #[] U f h with z|z
 .simp at z
 .exact z
theorem tj(w:World){b k n:Nat}(h:k≠b):(w.freeze ⟨b,0,none⟩ n).heap[k]?=w.heap[k]?:=by unfold World.freeze;grind
def Own.freeze{KT:TypeId->Prop}{M:World->Nat->Prop}{w:World}{b:Nat}{cs:Aq}{t:TypeId}{fz:Nat × Nat}(f:w.heap[b]?=some (.cells cs t fz))(g:M w b)(i:¬KT t)(n:Nat):Own KT M w (w.freeze ⟨b,0,none⟩ n):=by
 have a:(w.freeze ⟨b,0,none⟩ n).tape=w.tape/\(w.freeze ⟨b,0,none⟩ n).os=w.os/\(w.freeze ⟨b,0,none⟩ n).output=w.output/\(w.freeze ⟨b,0,none⟩ n).heap.size=w.heap.size:=by unfold World.freeze;split<;>simp
 refine⟨a.1,a.2.1,a.2.2.1,by rw[a.2.2.2];exact lr,λk _ c=>tj w<|λe=>c<|e▸g,λk j h c=>?_⟩;by_cases e:k=b
 .subst e;have⟨d,h2⟩:∃U,(w.freeze ⟨k,0,none⟩ n).heap[k]?=some (.cells cs t U):=by unfold World.freeze;grind
  rw[h2] at h;cases h;exact absurd c i
 .exact tj w e
theorem QQ(x:Int)(U:0<=x)(h1:x<256):bits .and .u8 x 63=x % 64:=by
 have h:∀n:_root_.Fin 256,bits .and .u8 n.val 63=n.val % 64:=by decide +kernel
 have:=h ⟨x.toNat,oq⟩;grind
theorem Xl(x:Int)(U:0<=x)(h1:x<32):bits .or .u8 192 x=192+x:=by
 have h:∀n:_root_.Fin 32,bits .or .u8 192 n.val=192+n.val:=by decide +kernel
 have:=h ⟨x.toNat,oq⟩;grind
theorem Xk(x:Int)(U:0<=x)(h1:x<64):bits .or .u8 128 x=128+x:=by
 have h:∀n:_root_.Fin 64,bits .or .u8 128 n.val=128+n.val:=by decide +kernel
 have:=h ⟨x.toNat,oq⟩;grind
theorem Xm(x:Int)(U:0<=x)(h1:x<16):bits .or .u8 224 x=224+x:=by
 have h:∀n:_root_.Fin 16,bits .or .u8 224 n.val=224+n.val:=by decide +kernel
 have:=h ⟨x.toNat,oq⟩;grind
theorem Xn(x:Int)(U:0<=x)(h1:x<8):bits .or .u8 240 x=240+x:=by
 have h:∀n:_root_.Fin 8,bits .or .u8 240 n.val=240+n.val:=by decide +kernel
 have:=h ⟨x.toNat,oq⟩;grind
def XL(x:Int):bits .or .u8 128 (bits .and .u8 (IntKind.u8.wrap x) 63)=128+x % 64:=by
 have a:IntKind.u8.wrap x=x % 256:=by rw[IntKind.wrap_u8]
 rw[a,QQ _ oq oq,Xk _ oq oq];omega
def Good (r:Int):Prop:=(0<=r/\r<55296)\/(57343<r/\r<=1114111)
section
variable {X:ι->Gq}{i:ι}
variable {r:Int}
def qQ{ι:Type}{P:Program}{main:Bool}{R:ι->World->World->Prop}{D:ι->World->World->Array Event->Prop}{X:ι->Goroutine->World->Prop}{fn:FuncId}{Q:fO ι}{a:Act}{w:World}{vs:ι}(C:cC P main R D X)(T:∀i,Terms (R i)<|D i)
 {ops:Array Oper}{i:Nat}{rest:List Nat}{o:Oper}{f:FuncId}{aY:Func}{QR:Array Operand}{ats:Array TypeId}{e:Array Value->Sem Value}{x:Value}(ho:ops[i]?=some o)(hw:Region.wanted o (yielded ops a.tmps)=true)(lx:o.op=.call { callee:=.value<|.func f,args:=QR,argTypes:=ats })
 (hf:P.funcs[f]?=some aY)(mR:(aY.name == "runtime.NumGoroutine")=false)(hb:aY.body.isNone=true)(hn:Extern.findNext aY=none)(he:Extern.find aY=some e){args':Array Value}(oV:QR.map a.eval=args')(Tt:∀ w,(e args').run P w=.ok x w)(rT:∀ w es,(e args').events P w es=es)
 (h:cM X fn ops rest vs Q (a.put o.dst x) w):cM X fn ops (i::rest) vs Q a w:=λb k cs tv hk hc=>C.step Y λaL cP=>by subst oV;rw[stepG_entry ho hw hk lx hf mR hb hn he (Tt aL) (evs:=#[]) (by rw[rT]; rfl) iq];exact⟨(T vs).idle _,C.rely (h b k cs tv hk hc) cP⟩
end
variable {Az:Gq}{tk rest:Iq}{en:Bool}{Rb:Nat}
section
def sS (Rb:Nat)(v:Value)(b:Nat):Prop:=b=Rb\/v.ownBlock=some b
structure HW(K:Cfg)(Ex:Nat->Prop)(w₀:World)(Rb:Nat)(u v:Value)(tk:Iq)(en:Bool)(w:World):Prop where
 rb:w.heap[Rb]?=some (.cells #[.chan (some K.A),.chan<|some K.E,u,.bool en] 175)
 mr:dy K w Rb
 U2:Ex Rb\/w₀.heap.size<=Rb
 ro:oE (dy K) Ex w₀ 21 v tk.length (V tk) w
 size:K.N0<=w.heap.size
 old:Kept (dy K) (jx K) Ex w₀ w
def HW.cells{K:Cfg}(h:HW K Ex w₀ Rb u v tk en w):w.cell? ⟨Rb,0,none⟩=some (.chan<|some K.A)/\w.cell? ⟨Rb,1,none⟩=some (.chan<|some K.E)/\w.cell? ⟨Rb,2,none⟩=some u/\w.cell? ⟨Rb,3,none⟩=some (.bool en)/\w.frozen? ⟨Rb,2,none⟩=false/\w.frozen? ⟨Rb,3,none⟩=false:=by simp[World.cell?,World.frozen?,h.rb]
def HW.slice{K:Cfg}(h:HW K Ex w₀ Rb u v tk en w):∃x c,v=.slice x tk.length c:=by
 rcases h.ro.row.2 with ⟨z,z'⟩|⟨g,cap,cur,rfl,_⟩
 .exact⟨_,_,by rw[z,z']⟩
 .exact⟨_,_,Y⟩
def HW.yS{K:Cfg}{KT:TypeId->Prop}{R:Wq}{D:World->World->Array Event->Prop}(E:Env KT K.N0 (dy K) (jx K) R D)(h:HW K Ex w₀ Rb u v tk en w)(r:R w aL):HW K Ex w₀ Rb u v tk en aL :=
 ⟨(E.keep r h.mr).trans h.rb,E.stay r h.mr,h.U2,h.ro.rely E r,lT h.size<|E.size r,h.old.rely E r⟩
def HW.lG{K:Cfg}(h:HW K Ex w₀ Rb u v tk en w):HW K (sS Rb v) w Rb u v tk en w:=⟨h.rb,h.mr,.inl<|.inl Y,⟨h.ro.row,λk a=>⟨(h.ro.own k a).1,.inl<|.inr a⟩,h.ro.nil⟩,h.size,Kept.refl w⟩
def HW.E3(h:HW (aH prog N Pb Shun val B Mz) Ex w₀ Rb u v tk en w)(o:Nat)(x:Value):Own dt (dy<|aH prog N Pb Shun val B Mz) w (w.setCell ⟨Rb,o,none⟩ x):=Own.setCell h.rb h.mr<|by simp
def HW.Xz(F:Cfg.Fit (aH prog N Pb Shun val B Mz))(h:HW (aH prog N Pb Shun val B Mz) Ex w₀ Rb u v tk en w)(o:Nat)(x e:Value)(a:Bool)(g:(#[.chan (some<|N+2),.chan<|some<|N+4,u,.bool en]:Aq).setIfInBounds o x=#[.chan (some<|N+2),.chan<|some<|N+4,e,.bool a]):HW (aH prog N Pb Shun val B Mz) Ex w₀ Rb e v tk a (w.setCell ⟨Rb,o,none⟩ x):=by
 have c:=h.E3 o x;have E:=BV F;refine⟨(dS h.rb _).trans<|by rw[show Cfg.A _=N+2 from Y,show Cfg.E _=N+4 from Y,g],E.mine c h.mr,h.U2,h.ro.same λk d=>⟨bP w _<|h.ro.ne h.rb dq d,E.mine c (h.ro.own k d).1⟩,by simpa[World.setCell] using h.size,h.old.own E c λb f i=>bP w _ ?_⟩;rintro rfl;rcases h.U2 with z|z
 .exact i z
 .have:=E.lt f;omega
structure HV(K:Cfg)(Ex:Nat->Prop)(w₀:World)(Rb:Nat)(u v:Value)(tk:Iq)(en:Bool)(news:Vq)(g:Nat)(w:World):Prop where
 hw:HW K Ex w₀ Rb u v tk en w
 src:J2 (dy K) 21 news g w
theorem HW.built(F:Cfg.Fit (aH prog N Pb Shun val B Mz))(h:HW (aH prog N Pb Shun val B Mz) Ex w₀ Rb u v tk en w)(news:Vq):HV (aH prog N Pb Shun val B Mz) Ex w₀ Rb u v tk en news w.heap.size (w.alloc<|.cells news.toArray 21):=by have E:=BV F;have o:Own dt (dy<|aH prog N Pb Shun val B Mz) w (w.alloc<|.cells news.toArray 21):=ec (by simp[dt]);refine⟨⟨(Below.heap_alloc _ _ _<|E.lt h.mr).trans h.rb,E.mine o h.mr,h.U2,h.ro.same λk a=>⟨Below.heap_alloc _ _ _<|E.lt (h.ro.own k a).1,E.mine o (h.ro.own k a).1⟩,by simp;have:=h.size;omega,h.old.own E o λb c _=>Below.heap_alloc _ _ _<|E.lt<|h.old.mine b c⟩,heap_alloc_new w _,E.new h.size o lr<|by simp_all⟩
def HV.yS{K:Cfg}{KT:TypeId->Prop}{R:Wq}{D:World->World->Array Event->Prop}{news:Vq}{g:Nat}(E:Env KT K.N0 (dy K) (jx K) R D)(h:HV K Ex w₀ Rb u v tk en news g w)(r:R w aL):HV K Ex w₀ Rb u v tk en news g aL:=⟨h.hw.yS E r,h.src.rely E r⟩
def J8{R:Wq}{D:World->World->Array Event->Prop}{g:Nat}(E:Env dt (N+9) (dy<|aH prog N Pb Shun val B Mz) (jx<|aH prog N Pb Shun val B Mz) R D){r:Int}(h:HV (aH prog N Pb Shun val B Mz) Ex w₀ Rb u v tk en (V [r]) g w)(n:tk.length<=1000000)(ty:TypeId) :
  ∃b a,(Builtin.append_ #[173,173] ty #[v,.slice (sq g) 1 1]).run prog w=.ok b a/\HW (aH prog N Pb Shun val B Mz) Ex w₀ Rb u b (tk++[r]) en a /\
   D w a ((Builtin.append_ #[173,173] ty #[v,.slice (sq g) 1 1]).events prog w #[]) /\
   ∀e∈(Builtin.append_ #[173,173] ty #[v,.slice (sq g) 1 1]).events prog w #[],∀m,e.loc=.mark m->m=.noRoom:=by
 have⟨b,a,l,k,i,c,f,d,j⟩:=J7 E h.hw.size (by simp[dt]) h.hw.old h.hw.ro h.src 173 ty (.int .i32 0) 4 underlying173 kq Y (by simp[V,Value.oneCell']) (by simp[V];unfold maxLen;omega) (by simp[V];omega);refine⟨b,a,l,⟨(f Rb (E.lt h.hw.mr) λe=>h.hw.ro.ne h.hw.rb dq e Y).trans h.hw.rb,E.mine c h.hw.mr,h.hw.U2,?_,lT h.hw.size c.grow,i⟩,d,j⟩;have e1:(tk++[r]).length=tk.length+(V [r]).length:=by simp[V]
 rw[e1,rr];exact k
def JD (rest:Iq)(en:Bool)(i:Ph):Prop:=(en=false/\(i=.front (V rest)\/i=.walk (V rest)))\/(en=true/\i=.over/\rest=[])
def JD.early{i:Ph}(h:JD rest en i):i.early:=by rcases h with ⟨_,rfl|rfl⟩|⟨_,rfl,_⟩<;>exact trivial
variable [ConcR.Payload][ConcX.Payload]
variable [ConcX.Shy (Cfg.Wg<|aH prog N Pb Shun val B Mz) (Cfg.C<|aH prog N Pb Shun val B Mz)]
def HW.rely{i:Ph}(E:Env dt (N+9) (dy<|aH prog N Pb Shun val B Mz) (jx<|aH prog N Pb Shun val B Mz) (re (aH prog N Pb Shun val B Mz) i) (xE (aH prog N Pb Shun val B Mz) i))(h:HW (aH prog N Pb Shun val B Mz) Ex w₀ Rb u v tk en w)(r:re (aH prog N Pb Shun val B Mz) i w aL):HW (aH prog N Pb Shun val B Mz) Ex w₀ Rb u v tk en aL:=HW.yS E h r
def cn:=@HW.rely
def HV.rely{i:Ph}{news:Vq}{g:Nat}(E:Env dt (N+9) (dy<|aH prog N Pb Shun val B Mz) (jx<|aH prog N Pb Shun val B Mz) (re (aH prog N Pb Shun val B Mz) i) (xE (aH prog N Pb Shun val B Mz) i))(h:HV (aH prog N Pb Shun val B Mz) Ex w₀ Rb u v tk en news g w)(r:re (aH prog N Pb Shun val B Mz) i w aL):HV (aH prog N Pb Shun val B Mz) Ex w₀ Rb u v tk en news g aL:=HV.yS E h r
def jY{i:Ph}(F:Cfg.Fit (aH prog N Pb Shun val B Mz))(h:HW (aH prog N Pb Shun val B Mz) Ex w₀ Rb u v tk en w)(r:RM (aH prog N Pb Shun val B Mz) w aL):HW (aH prog N Pb Shun val B Mz) Ex w₀ Rb u v tk en aL:=HW.yS (BV F) h r
def yQ{i:Ph}(s:Cfg.Fit (aH prog N Pb Shun val B Mz))(b:HW (aH prog N Pb Shun val B Mz) Ex w₀ Rb v v tk false w)(hi:i=.front (V rest)\/i=.walk (V rest))(hn:tk.length<=1000000) :
  fx prog (XM (aH prog N Pb Shun val B Mz) Az) 203 #[.pointer (sq Rb)] i w (λS _ X=>(∃r l U,rest=r::l/\S=.walk (V l)/\HW (aH prog N Pb Shun val B Mz) Ex w₀ Rb U U (tk++[r]) false X)\/(rest=[]/\S=.over/\HW (aH prog N Pb Shun val B Mz) Ex w₀ Rb v v tk true X)):=by
 have C:cC prog true (re<|aH prog N Pb Shun val B Mz) (xE<|aH prog N Pb Shun val B Mz) (XM (aH prog N Pb Shun val B Mz) Az):=XM.closed (K:=(aH prog N Pb Shun val B Mz));have T:=tU (K:=(aH prog N Pb Shun val B Mz));have evp:∀(w:World) (n:Array Event) (a:Addr) (m:Mode) (x:Option Addr),(store a (.pointer x) m).events prog w n=storedEv prog w n a (.pointer x) m:=λw n a m x=>events_store prog w n a _ m rfl;have evl:∀(w:World) (n:Array Event) (a:Addr) (m:Mode) (x:Option Addr) (l c:Nat),(store a (.slice x l c) m).events prog w n=storedEv prog w n a (.slice x l c) m:=λw n a m x l c=>events_store prog w n a _ m rfl;have evb:∀(w:World) (n:Array Event) (a:Addr) (m:Mode) (x:Bool),(store a (.bool x) m).events prog w n=storedEv prog w n a (.bool x) m:=λw n a m x=>events_store prog w n a _ m rfl;have E:Env dt (N+9) (dy<|aH prog N Pb Shun val B Mz) (jx<|aH prog N Pb Shun val B Mz) (re (aH prog N Pb Shun val B Mz) i) (xE (aH prog N Pb Shun val B Mz) i):=BX (K:=(aH prog N Pb Shun val B Mz)) s (by rcases hi with rfl|rfl<;>exact trivial);have p:∀(a:Act) (o:Oper) w,o.op=.select #[{ chan:=.tmp 6,send:=none,elem:=21 },{ chan:=.tmp 10,send:=none,elem:=160 }] true->a.eval (.tmp 6)=.chan (some<|N+2)->a.eval (.tmp 10)=.chan (some<|N+4)->(execOp a.eval o).run prog w=.ok (.comm (Cfg.cases<|aH prog N Pb Shun val B Mz) true .select) w/\(execOp a.eval o).events prog w #[]=#[]:=by
  intro a o w R I J;simp only[Act.eval,Gk] at I J;constructor
  .unfold execOp;simp[R,I,J,Cfg.cases,aH,rcase,zeroValue21,zeroValue160,go_sem]
  .unfold execOp;simp[R,I,J,zeroValue21,go_sem]
 have D:∀r,commResult (Cfg.cases<|aH prog N Pb Shun val B Mz) .select 0 (.int .i32 r) true=.tuple #[.int .i64 0,.bool true,.int .i32 r,.agg #[]]:=λr=>by simp[commResult,Cfg.cases,aH,rcase,goInt]
 have F:commResult (Cfg.cases<|aH prog N Pb Shun val B Mz) .select 1 (Cfg.zE<|aH prog N Pb Shun val B Mz) false=.tuple #[.int .i64 1,.bool false,.int .i32 0,.agg #[]]:=by simp[commResult,Cfg.cases,aH,rcase,goInt]
 refine iu func203 rq rfl ?_;simp only[ntmps203,bZ,Nat.reduceAdd,Nat.reduceSub];iterate 2 refine bY C T ?_
 refine aW C T ?_;simp only[iB,Nat.reduceAdd];iterate 4
  refine aM C rfl rq λ_ g j d=>?_
  replace b:=cn E b g
  clear g
  have k:=b.cells
  go_simp
  try (unfold stored;go_simp)
  refine d _ _ ⟨?_,?_⟩
  .first|(rw[listed_nil];exact Terms.idle (T _) _;first|(simp[go_sem];done)|(simp[go_sem, *];done))|(refine eY E b.size ?_;co_evs (exact fL rfl b.mr))
  clear d j;try walk_nrm
  clear k
 refine bv C T ?_;show il _ _ _ _ _ _ _;refine aW C T ?_;simp only[iB,Nat.reduceAdd];iterate 4
  refine aM C rfl rq λ_ g j d=>?_
  replace b:=cn E b g
  clear g
  have k:=b.cells
  go_simp
  try (unfold stored;go_simp)
  refine d _ _ ⟨?_,?_⟩
  .first|(rw[listed_nil];exact Terms.idle (T _) _;first|(simp[go_sem];done)|(simp[go_sem, *];done))|(refine eY E b.size ?_;co_evs (exact fL rfl b.mr))
  clear d j;try walk_nrm
  clear k
 refine bv C T ?_;show il _ _ _ _ _ _ _;simp only[show Cfg.A (aH prog N Pb Shun val B Mz)=N+2 from rfl,show Cfg.E (aH prog N Pb Shun val B Mz)=N+4 from rfl];refine bY C T<|aW C T ?_;simp only[iB,Nat.reduceAdd];by_cases L:rest=[]
 .obtain rfl:rest=[]:=L;refine Me hi rfl rq (λw=>(p _ _ w rfl rfl rfl).1) (λw=>(p _ _ w rfl rfl rfl).2) λH q hs=>?_;replace b:=jY (i:=.over) s b q;clear hi E;have E:Env dt (N+9) (dy<|aH prog N Pb Shun val B Mz) (jx<|aH prog N Pb Shun val B Mz) (re (aH prog N Pb Shun val B Mz) .over) (xE (aH prog N Pb Shun val B Mz) .over):=BX (K:=(aH prog N Pb Shun val B Mz)) s trivial;simp only[F];try walk_nrm
  iterate 3
   refine aM C rfl rq λ_ g j d=>?_
   replace b:=cn E b g
   clear g
   have k:=b.cells
   go_simp
   try (unfold stored;go_simp)
   refine d _ _ ⟨?_,?_⟩
   .first|(rw[listed_nil];exact Terms.idle (T _) _;first|(simp[go_sem];done)|(simp[go_sem, *];done))|(refine eY E b.size ?_;co_evs (exact fL rfl b.mr))
   clear d j;try walk_nrm
   clear k
  refine bv C T ?_;show il _ _ _ _ _ _ _;refine fX C T<|dP C T (t:=false) rfl ?_;simp only[if_false,j6];refine dP C T (t:=true) rfl ?_;simp only[if_true];refine aW C T ?_;simp only[iB,Nat.reduceAdd];iterate 3
   refine aM C rfl rq λ_ g j d=>?_
   replace b:=cn E b g
   clear g
   have k:=b.cells
   go_simp
   try (unfold stored;go_simp)
   refine d _ _ ⟨?_,?_⟩
   .first|(rw[listed_nil];exact Terms.idle (T _) _;first|(simp[go_sem];done)|(simp[go_sem, *];done))|(refine eY E b.size ?_;co_evs (exact fL rfl b.mr))
   clear d j;try walk_nrm
   clear k
  refine aM C rfl rq λ_ g j d=>?_;replace b:=cn E b g;clear g;have k:=b.cells;go_simp;try (unfold stored;go_simp)
  refine d _ _ ⟨?_,?_⟩
  .exact zW E b.size (b.E3 _ _)<|by co_evs (exact fL rfl b.mr)
  clear d j;try walk_nrm
  clear k;replace b:=b.Xz s 3 (.bool true) v true rfl;exact bv C T ⟨.inl rfl,rfl,_,resultsC_none rq _,.inr ⟨by first|rfl|trivial,rfl,b⟩⟩
 .obtain⟨r,z,rfl⟩:∃r z,rest=r::z:=by cases rest with|nil=>exact absurd rfl L|cons r t=>exact⟨r,t,rfl⟩
  refine CC (v:=.int .i32 r) (vs:=V z) hi rfl rq (λw=>(p _ _ w rfl rfl rfl).1) (λw=>(p _ _ w rfl rfl rfl).2) λH q hs=>?_;replace b:=jY (i:=.over) s b q;clear hi E L;have E:Env dt (N+9) (dy<|aH prog N Pb Shun val B Mz) (jx<|aH prog N Pb Shun val B Mz) (re (aH prog N Pb Shun val B Mz)<|.walk<|V z) (xE (aH prog N Pb Shun val B Mz)<|.walk<|V z):=BX (K:=(aH prog N Pb Shun val B Mz)) s trivial;simp only[D];try walk_nrm
  iterate 3
   refine aM C rfl rq λ_ g j d=>?_
   replace b:=cn E b g
   clear g
   have k:=b.cells
   go_simp
   try (unfold stored;go_simp)
   refine d _ _ ⟨?_,?_⟩
   .first|(rw[listed_nil];exact Terms.idle (T _) _;first|(simp[go_sem];done)|(simp[go_sem, *];done))|(refine eY E b.size ?_;co_evs (exact fL rfl b.mr))
   clear d j;try walk_nrm
   clear k
  refine bv C T ?_;show il _ _ _ _ _ _ _;refine fX C T<|dP C T (t:=true) rfl ?_;simp only[if_true];refine bY C T<|aW C T ?_;simp only[iB,Nat.reduceAdd];iterate 2
   refine aM C rfl rq λ_ g j d=>?_
   replace b:=cn E b g
   clear g
   have k:=b.cells
   go_simp
   try (unfold stored;go_simp)
   refine d _ _ ⟨?_,?_⟩
   .first|(rw[listed_nil];exact Terms.idle (T _) _;first|(simp[go_sem];done)|(simp[go_sem, *];done))|(refine eY E b.size ?_;co_evs (exact fL rfl b.mr))
   clear d j;try walk_nrm
   clear k
  refine bv C T ?_;show il _ _ _ _ _ _ _;refine aW C T ?_;simp only[iB,Nat.reduceAdd];iterate 6
   refine aM C rfl rq λ_ g j d=>?_
   replace b:=cn E b g
   clear g
   have k:=b.cells
   go_simp
   try (unfold stored;go_simp)
   refine d _ _ ⟨?_,?_⟩
   .first|(rw[listed_nil];exact Terms.idle (T _) _;first|(simp[go_sem];done)|(simp[go_sem, *];done))|(refine eY E b.size ?_;co_evs (exact fL rfl b.mr))
   clear d j;try walk_nrm
   clear k
  refine aM C rfl rq λ_ g j d=>?_;replace b:=cn E b g;clear g;go_simp;try (unfold stored;go_simp)
  refine d _ _ ⟨?_,?_⟩
  .refine zW E b.size (ec<|by simp[dt]) ?_;co_evs (skip)
  clear d j;try walk_nrm
  replace b:=b.built s<|V [r];refine aM C rfl rq λ_ g j d=>?_;replace b:=HV.rely E b g;clear g;have⟨W,Y,u,y,Q,G⟩:=J8 E b hn 173;refine uponK_append (Operand.tmp 20) (Operand.tmp 22) 173 rfl rfl rfl u<|d _ _ ⟨?_,?_⟩
  .have M:=seen_eq (P:=prog) (fn:=203) kq (λe he f h=>by cases G e he _ h);unfold listed;rw[events_append_op (Operand.tmp 20) (Operand.tmp 22) 173 rfl rfl rfl];exact(congrArg (xE (aH prog N Pb Shun val B Mz) _ _ _) M).mpr Q
  clear d j u Q G;replace b:=y;try walk_nrm
  obtain⟨Z,O,rfl⟩:=b.slice;iterate 2
   refine aM C rfl rq λ_ g j d=>?_
   replace b:=cn E b g
   clear g
   have k:=b.cells
   go_simp
   try (unfold stored;go_simp)
   refine d _ _ ⟨?_,?_⟩
   .first|(rw[listed_nil];exact Terms.idle (T _) _;first|(simp[go_sem];done)|(simp[go_sem, *];done))|(refine eY E b.size ?_;co_evs (exact fL rfl b.mr))
   clear d j;try walk_nrm
   clear k
  refine aM C rfl rq λ_ g j d=>?_;replace b:=cn E b g;clear g;have k:=b.cells;go_simp;try (unfold stored;go_simp)
  refine d _ _ ⟨?_,?_⟩
  .exact zW E b.size (b.E3 _ _)<|by co_evs (exact fL rfl b.mr)
  clear d j;try walk_nrm
  clear k;replace b:=b.Xz s 2 (.slice Z (tk++[r]).length O) (.slice Z (tk++[r]).length O) false rfl;rw[show(tk++[r]).length=tk.length+1 by simp] at b;exact bv C T ⟨.inl rfl,rfl,_,resultsC_none rq _,.inl ⟨r,z,_,by first|rfl|trivial,rfl,b⟩⟩
end
section
variable [ConcR.Payload][ConcX.Payload]
variable [ConcX.Shy (Cfg.Wg<|aH prog N Pb Shun val B Mz) (Cfg.C<|aH prog N Pb Shun val B Mz)]
def JL (rest:Iq)(en:Bool):Nat:=rest.length+if en then 0 else 1
theorem OL{i:Ph}(Fi:Cfg.Fit (aH prog N Pb Shun val B Mz))(all:Iq)(mv:tk++rest=all)(hn:all.length<=1000000)(hF:HW (aH prog N Pb Shun val B Mz) Ex w₀ Rb v v tk en w)(ox:JD rest en i) :
  fx prog (XM (aH prog N Pb Shun val B Mz) Az) 114 #[.pointer (sq Rb)] i w (λi' _ w'=>i'=.over/\∃v',HW (aH prog N Pb Shun val B Mz) Ex w₀ Rb v' v' all true w'):=by
 have C:cC prog true _ _ (XM _ Az):=XM.closed (K:=(aH prog N Pb Shun val B Mz));have T:=tU (K:=(aH prog N Pb Shun val B Mz));refine iu func114 rq Y ?_;refine fX C T<|w5 C T (λm i a w=>∃v tk rest en,m=JL rest en/\JD rest en i/\HW _ Ex w₀ Rb v v tk en w/\tk++rest=all/\∃x2 x3 x4 x5 x6 x7 x8,a=⟨#[.pointer (sq Rb),undef,x2,x3,x4,x5,x6,x7,x8],[]⟩) (JL rest en) ⟨v,tk,rest,en,Y,ox,hF,mv,_,_,_,_,_,_,_,Y⟩ ?_;clear hF ox mv;rintro m i a w ⟨v,tk,rest,en,rfl,ox,hF,mv,x2,x3,x4,x5,x6,x7,x8,rfl⟩;have E:=BX Fi ox.early;have htk:tk.length<=1000000:=gq
 rcases ox with ⟨rfl,hi⟩|⟨rfl,rfl,rfl⟩
 .refine bY C T<|bY C T<|aW C T ?_;simp only[iB,Nat.reduceAdd];iterate 5
   refine aM C Y rq λ_ hR Kx dJ=>?_
   replace hF:=cn E hF hR
   clear hR
   have hc:=hF.cells
   go_simp
   try (unfold stored;go_simp)
   refine dJ _ _ ⟨?_,?_⟩
   .first|(rw[listed_nil];exact Terms.idle (T _) _;first|(simp[go_sem];done)|(simp[go_sem, *];done))|(refine eY E hF.size ?_;co_evs (exact fL Y hF.mr))
   clear dJ Kx;try walk_nrm
   clear hc
  refine bv C T ?_;refine dP C T (t:=true) Y ?_;simp only[if_true];refine kI C T ?_;refine fX C T<|aW C T ?_;simp only[iB,Nat.reduceAdd];refine aM C Y rq λ_ hR Kx dJ=>?_;replace hF:=cn E hF hR;clear hR;go_simp;try (unfold stored;go_simp)
  refine dJ _ _ ⟨?_,?_⟩
  .co_quiet (T _)
  clear dJ Kx;try walk_nrm
  refine jS C T Y rq Y Y (by simp[Act.eval]) Y (yQ Fi hF hi htk) ?_;rintro _ _ _ (⟨r,l,v2,rfl,rfl,hF⟩|⟨rfl,rfl,hF⟩)
  .exact bv C T ⟨JL l false,by simp[JL],v2,_,l,false,Y,.inl ⟨Y,.inr Y⟩,hF,by rw[<-mv];simp,_,_,_,_,_,_,_,Y⟩
  .exact bv C T ⟨JL [] true,by simp[JL],v,_,[],true,Y,.inr ⟨Y,Y,Y⟩,hF,mv,_,_,_,_,_,_,_,Y⟩
 .refine bY C T<|bY C T<|aW C T ?_;simp only[iB,Nat.reduceAdd];iterate 5
   refine aM C Y rq λ_ hR Kx dJ=>?_
   replace hF:=cn E hF hR
   clear hR
   have hc:=hF.cells
   go_simp
   try (unfold stored;go_simp)
   refine dJ _ _ ⟨?_,?_⟩
   .first|(rw[listed_nil];exact Terms.idle (T _) _;first|(simp[go_sem];done)|(simp[go_sem, *];done))|(refine eY E hF.size ?_;co_evs (exact fL Y hF.mr))
   clear dJ Kx;try walk_nrm
   clear hc
  refine bv C T ?_;refine dP C T (t:=false) Y ?_;simp only[if_false,j6];refine pz C T ?_;simp only[kv,y6,if_true];rw[List.append_nil] at mv;subst mv;refine⟨.inl ?_,?_,_,resultsC_none rq _,?_,_,hF⟩<;>first|rfl|trivial
theorem Y6{i:Ph}(Fi:Cfg.Fit (aH prog N Pb Shun val B Mz))(all:Iq)(place:Nat)(mv:tk++rest=all)(hn:all.length<=1000000)(hF:HW (aH prog N Pb Shun val B Mz) Ex w₀ Rb v v tk en w)(ox:JD rest en i) :
  fx prog (XM (aH prog N Pb Shun val B Mz) Az) 146 #[.pointer (sq Rb),.int .i64 (place:Int)] i w (λi' x w'=>x=.int .i32 (all[place]?.getD (-1))/\∃v' Uy CN Sp,Uy++CN=all/\JD CN Sp i'/\HW (aH prog N Pb Shun val B Mz) Ex w₀ Rb v' v' Uy Sp w'):=by
 have C:cC prog true (re<|aH prog N Pb Shun val B Mz) (xE<|aH prog N Pb Shun val B Mz) (XM (aH prog N Pb Shun val B Mz) Az):=XM.closed (K:=(aH prog N Pb Shun val B Mz));have T:=tU (K:=(aH prog N Pb Shun val B Mz));have lns:∀x n c w es,(Builtin.len_ #[173] 3 #[.slice x n c]).events prog w es=es:=λx n c w es=>by simp[Builtin.len_,go_sem]
 have E:Env dt (N+9) (dy<|aH prog N Pb Shun val B Mz) (jx<|aH prog N Pb Shun val B Mz) (re (aH prog N Pb Shun val B Mz) i) (xE (aH prog N Pb Shun val B Mz) i):=BX (K:=(aH prog N Pb Shun val B Mz)) Fi ox.early;refine iu func146 rq Y ?_;simp only[ntmps146,bZ,Nat.reduceAdd,Nat.reduceSub];refine bY C T<|aW C T ?_;simp only[iB];refine aM C Y rq λ_ hR Kx dJ=>?_;replace hF:=cn E hF hR;clear hR;go_simp;try (unfold stored;go_simp)
 refine dJ _ _ ⟨?_,?_⟩
 .co_quiet (T _)
 clear dJ Kx;try walk_nrm
 refine bv C T ?_;show il _ _ _ _ _ _ _;refine bY C T<|fX C T ?_;clear E;refine w5 C T (λm i a w=>∃v tk rest en,m=JL rest en/\JD rest en i/\HW (aH prog N Pb Shun val B Mz) Ex w₀ Rb v v tk en w/\tk++rest=all/\∃x5 x6 x7 x8 x9 x10 YL x12 x13 x14 x15 x16 X2 X3 X4 X5,a=⟨#[.pointer (sq Rb),.int .i64 (place:Int),undef,undef,.int .i32 0,x5,x6,x7,x8,x9,x10,YL,x12,x13,x14,x15,x16,X2,X3,X4,X5,undef,undef,undef,undef,undef,undef,undef,undef,undef,undef,undef,undef,undef,undef],[]⟩) (JL rest en) ⟨v,tk,rest,en,Y,ox,hF,mv,_,_,_,_,_,_,_,_,_,_,_,_,_,_,_,_,Y⟩ ?_;clear hF ox mv;rintro m i a w ⟨v,tk,rest,en,rfl,ox,hF,mv,x5,x6,x7,x8,x9,x10,YL,x12,x13,x14,x15,x16,X2,X3,X4,X5,rfl⟩;have E:Env dt (N+9) (dy<|aH prog N Pb Shun val B Mz) (jx<|aH prog N Pb Shun val B Mz) (re (aH prog N Pb Shun val B Mz) _) (xE (aH prog N Pb Shun val B Mz) _):=BX (K:=(aH prog N Pb Shun val B Mz)) Fi ox.early;have htk:tk.length<=1000000:=gq
 obtain⟨x1,c1,rfl⟩:=hF.slice;by_cases Yt:place<tk.length
 .have hb:decide ((tk.length:Int)<=(place:Int))=false:=fD oq;have xq:decide (tk.length<=place)=false:=fD oq;iterate 2 refine bY C T ?_
  refine aW C T ?_;simp only[iB,Nat.reduceAdd];iterate 7
   refine aM C Y rq λ_ hR Kx dJ=>?_
   replace hF:=cn E hF hR
   clear hR
   have hc:=hF.cells
   go_simp
   try (unfold stored;go_simp)
   refine dJ _ _ ⟨?_,?_⟩
   .first|(rw[listed_nil];exact Terms.idle (T _) _;first|(simp[go_sem];done)|(simp[go_sem, *];done))|(refine eY E hF.size ?_;co_evs (exact fL Y hF.mr))
   clear dJ Kx;try walk_nrm
   clear hc
  try simp only[hb,xq]
  refine aM C Y rq λ_ hR Kx dJ=>?_;replace hF:=cn E hF hR;clear hR;go_simp;try (unfold stored;go_simp)
  refine dJ _ _ ⟨?_,?_⟩
  .co_quiet (T _)
  clear dJ Kx;iterate 5
   try walk_nrm
   refine dR C T Y rq ?_
  try walk_nrm
  refine aM C Y rq λ_ hR Kx dJ=>?_;replace hF:=cn E hF hR;clear hR;go_simp;try (unfold stored;go_simp)
  refine dJ _ _ ⟨?_,?_⟩
  .co_quiet (T _)
  clear dJ Kx;try walk_nrm
  refine bv C T ?_;show il _ _ _ _ _ _ _;refine dP C T (t:=false) Y ?_;simp only[if_false,j6];refine pz C T ?_;simp only[kv,y6,if_true];show il _ _ _ _ _ _ _;iterate 2 refine bY C T ?_
  refine aW C T ?_;simp only[iB,Nat.reduceAdd];iterate 7
   refine aM C Y rq λ_ hR Kx dJ=>?_
   replace hF:=cn E hF hR
   clear hR
   have hc:=hF.cells
   go_simp
   try (unfold stored;go_simp)
   refine dJ _ _ ⟨?_,?_⟩
   .first|(rw[listed_nil];exact Terms.idle (T _) _;first|(simp[go_sem];done)|(simp[go_sem, *];done))|(refine eY E hF.size ?_;co_evs (exact fL Y hF.mr))
   clear dJ Kx;try walk_nrm
   clear hc
  refine bv C T ?_;show il _ _ _ _ _ _ _;try simp only[hb,xq]
  refine dP C T (t:=false) Y ?_;simp only[if_false,j6];refine kI C T ?_;show il _ _ _ _ _ _ _;refine bY C T ?_;obtain⟨g,rfl⟩:∃g,x1=some ⟨g,0,none⟩:=by
   rcases hF.ro.row.2 with ⟨_,z⟩|⟨g,cap,cur,z,_⟩
   .omega
   .cases z;exact⟨g,Y⟩
  have Ce:∀w,HW (aH prog N Pb Shun val B Mz) Ex w₀ Rb (.slice (sq g) tk.length c1) (.slice (sq g) tk.length c1) tk en w->w.cell? ⟨g,place,none⟩=some (.int .i32<|all[place]?.getD (-1)):=λw h=>(by rw[show(⟨g,place,none⟩:Addr)=(⟨g,0,none⟩:Addr).add place by unfold Addr.add;split<;>simp_all];exact h.ro.row.cells (g:=g) Y place _<|by rw[<-mv,UY Yt];simp[V,List.getElem?_map,gE Yt]);refine aW C T ?_;simp only[iB,Nat.reduceAdd];iterate 6
   refine aM C Y rq λ_ hR Kx dJ=>?_
   replace hF:=cn E hF hR
   clear hR
   have hc:=hF.cells
   go_simp
   try (unfold stored;go_simp)
   refine dJ _ _ ⟨?_,?_⟩
   .first|(rw[listed_nil];exact Terms.idle (T _) _;first|(simp[go_sem];done)|(simp[go_sem, *];done))|(refine eY E hF.size ?_;co_evs (exact fL Y hF.mr))
   clear dJ Kx;try walk_nrm
   clear hc
  refine aM C Y rq λ_ hR Kx dJ=>?_;replace hF:=cn E hF hR;clear hR;have hc:=Ce _ hF;go_simp;try (unfold stored;go_simp)
  refine dJ _ _ ⟨?_,?_⟩
  .refine eY E hF.size ?_;co_evs (exact fL Y (hF.ro.own _ Y).1)
  clear dJ Kx;try walk_nrm
  clear hc;refine aM C Y rq λ_ hR Kx dJ=>?_;replace hF:=cn E hF hR;clear hR;go_simp;try (unfold stored;go_simp)
  refine dJ _ _ ⟨?_,?_⟩
  .co_quiet (T _)
  clear dJ Kx;try walk_nrm
  refine bv C T ?_;show il _ _ _ _ _ _ _;exact qc C T ⟨.inr Y,Y,_,resultsC_tmp rq _,Y,_,_,_,_,mv,ox,hF⟩
 .have hb:decide ((tk.length:Int)<=(place:Int))=true:=tD oq;have xq:decide (tk.length<=place)=true:=tD oq;rcases ox with ⟨rfl,hi⟩|⟨rfl,rfl,rfl⟩
  .refine bY C T<|bY C T<|aW C T ?_;simp only[iB,Nat.reduceAdd];iterate 7
    refine aM C Y rq λ_ hR Kx dJ=>?_
    replace hF:=cn E hF hR
    clear hR
    have hc:=hF.cells
    go_simp
    try (unfold stored;go_simp)
    refine dJ _ _ ⟨?_,?_⟩
    .first|(rw[listed_nil];exact Terms.idle (T _) _;first|(simp[go_sem];done)|(simp[go_sem, *];done))|(refine eY E hF.size ?_;co_evs (exact fL Y hF.mr))
    clear dJ Kx;try walk_nrm
    clear hc
   try simp only[hb,xq]
   iterate 7
    refine aM C Y rq λ_ hR Kx dJ=>?_
    replace hF:=cn E hF hR
    clear hR
    have hc:=hF.cells
    go_simp
    try (unfold stored;go_simp)
    refine dJ _ _ ⟨?_,?_⟩
    .first|(rw[listed_nil];exact Terms.idle (T _) _;first|(simp[go_sem];done)|(simp[go_sem, *];done))|(refine eY E hF.size ?_;co_evs (exact fL Y hF.mr))
    clear dJ Kx;try walk_nrm
    clear hc
   refine bv C T ?_;show il _ _ _ _ _ _ _;refine dP C T (t:=true) Y ?_;simp only[if_true];refine kI C T ?_;show il _ _ _ _ _ _ _;refine fX C T<|aW C T ?_;simp only[iB,Nat.reduceAdd];refine aM C Y rq λ_ hR Kx dJ=>?_;replace hF:=cn E hF hR;clear hR;go_simp;try (unfold stored;go_simp)
   refine dJ _ _ ⟨?_,?_⟩
   .co_quiet (T _)
   clear dJ Kx;try walk_nrm
   refine jS C T Y rq Y Y (by simp[Act.eval]) Y (yQ Fi hF hi htk) ?_;rintro _ _ _ (⟨r,l,v2,rfl,rfl,hF⟩|⟨rfl,rfl,hF⟩)
   .exact bv C T ⟨JL l false,by simp[JL],v2,_,l,false,Y,.inl ⟨Y,.inr Y⟩,hF,by rw[<-mv];simp,_,_,_,_,_,_,_,_,_,_,_,_,_,_,_,_,Y⟩
   .exact bv C T ⟨JL [] true,by simp[JL],_,_,[],true,Y,.inr ⟨Y,Y,Y⟩,hF,mv,_,_,_,_,_,_,_,_,_,_,_,_,_,_,_,_,Y⟩
  .have ox:JD [] true .over:=.inr ⟨Y,Y,Y⟩;iterate 2 refine bY C T ?_
   refine aW C T ?_;simp only[iB,Nat.reduceAdd];iterate 7
    refine aM C Y rq λ_ hR Kx dJ=>?_
    replace hF:=cn E hF hR
    clear hR
    have hc:=hF.cells
    go_simp
    try (unfold stored;go_simp)
    refine dJ _ _ ⟨?_,?_⟩
    .first|(rw[listed_nil];exact Terms.idle (T _) _;first|(simp[go_sem];done)|(simp[go_sem, *];done))|(refine eY E hF.size ?_;co_evs (exact fL Y hF.mr))
    clear dJ Kx;try walk_nrm
    clear hc
   try simp only[hb,xq]
   iterate 7
    refine aM C Y rq λ_ hR Kx dJ=>?_
    replace hF:=cn E hF hR
    clear hR
    have hc:=hF.cells
    go_simp
    try (unfold stored;go_simp)
    refine dJ _ _ ⟨?_,?_⟩
    .first|(rw[listed_nil];exact Terms.idle (T _) _;first|(simp[go_sem];done)|(simp[go_sem, *];done))|(refine eY E hF.size ?_;co_evs (exact fL Y hF.mr))
    clear dJ Kx;try walk_nrm
    clear hc
   refine bv C T ?_;show il _ _ _ _ _ _ _;refine dP C T (t:=false) Y ?_;simp only[if_false,j6];refine pz C T ?_;simp only[kv,y6,if_true];show il _ _ _ _ _ _ _;iterate 2 refine bY C T ?_
   refine aW C T ?_;simp only[iB,Nat.reduceAdd];iterate 7
    refine aM C Y rq λ_ hR Kx dJ=>?_
    replace hF:=cn E hF hR
    clear hR
    have hc:=hF.cells
    go_simp
    try (unfold stored;go_simp)
    refine dJ _ _ ⟨?_,?_⟩
    .first|(rw[listed_nil];exact Terms.idle (T _) _;first|(simp[go_sem];done)|(simp[go_sem, *];done))|(refine eY E hF.size ?_;co_evs (exact fL Y hF.mr))
    clear dJ Kx;try walk_nrm
    clear hc
   refine bv C T ?_;show il _ _ _ _ _ _ _;try simp only[hb,xq]
   refine dP C T (t:=true) Y ?_;simp only[if_true];refine bY C T<|aW C T ?_;simp only[iB];refine aM C Y rq λ_ hR Kx dJ=>?_;replace hF:=cn E hF hR;clear hR;go_simp;try (unfold stored;go_simp)
   refine dJ _ _ ⟨?_,?_⟩
   .co_quiet (T _)
   clear dJ Kx;try walk_nrm
   refine bv C T ?_;show il _ _ _ _ _ _ _;refine qc C T ⟨.inr Y,Y,_,resultsC_tmp rq _,?_,_,_,_,_,mv,ox,hF⟩;rw[<-mv,List.getElem?_eq_none<|by simp;omega];rfl
end
def CP (c:CS)(d:DS):Iq->CS × DS × Iq
 | []=>(c,d,[])
 | b::l=>((CP (bq c (cX d b).2).1 (cX d b).1 l).1,(CP (bq c (cX d b).2).1 (cX d b).1 l).2.1,(bq c (cX d b).2).2++(CP (bq c (cX d b).2).1 (cX d b).1 l).2.2)
def bytesOf(s:ByteArray):Iq:=s.data.toList.map λb=>(b.toNat:Int)
def dv(c:CS)(d:DS)(l:Iq):Iq:=(CP c d l).2.2++(bq (CP c d l).1 (gQ (CP c d l).2.1).2).2
def kz(l:List ByteArray):Iq:=dv ⟨false,false⟩ ⟨0,0,0,0⟩<|l.flatMap bytesOf
def dH(s:ByteArray):Iq:=dv ⟨false,false⟩ ⟨0,0,0,0⟩<|bytesOf s
def iY(c:CS)(d:DS):dv c d []=(bq c (gQ d).2).2:=by simp[dv,CP]
def iA(c:CS)(d:DS)(b:Int)(l:Iq):dv c d (b::l)=(bq c (cX d b).2).2++dv (bq c (cX d b).2).1 (cX d b).1 l:=by simp[dv,CP]
def Cm{l:List ByteArray}{s:ByteArray}(h:l.flatMap bytesOf=bytesOf s):kz l=dH s:=by unfold kz dH;rw[h]
theorem oD.at{Pb:Nat}{cp:JW}{w:World}{ad:Option Addr}{m c k:Nat}{p:ByteArray}(h:oD Pb cp w)(f:cp.v=.slice ad m c)(d:cp.l[k]?=some p):∃a,ad=some ⟨Pb,a,none⟩/\w.cell? ⟨Pb,a+k,none⟩=some (.string p):=by have⟨U,b,e,h⟩:=h;grind
structure HP(N Pb:Nat)(cp:JW)(k c1 c2:Nat)(x1 x2:Aq)(w:World):Prop where
 lv:w.heap[N+3]?=some (.cells #[.chan (some<|N+2)] 158)
 ps:oD Pb cp w
 lo:Pb<N+9
 bf:∃o,w.heap[N+8]?=some o
 cl:1<=k->w.heap[c1]?=some (.cells x1 177)
 h1:1<=k->N+9<=c1
 de:2<=k->w.heap[c2]?=some (.cells x2 179)
 h2:2<=k->N+9<=c2/\c1≠c2
 pc:w.heap[N]?=some (.cells #[cp.v] 62)
 wb:w.heap[N+7]?=some (.cells #[.pointer (some ⟨N+6,0,none⟩)] 240)
section
variable [ConcR.Payload][ConcX.Payload]
variable {k:Nat}{x1 x2:Aq}
theorem HP.size(h:HP N Pb cp k c1 c2 x1 x2 w):N+9<=w.heap.size:=by have⟨o,U⟩:=h.bf;grind
section
variable (h:HP N Pb cp k c1 c2 x1 x2 w)
def HP.rc(r:RC (aH prog N Pb Shun val B Mz) w aL):HP N Pb cp k c1 c2 x1 x2 aL:=by exact⟨(r _<|.inr<|.inr<|.inl Y).trans h.lv,h.ps.of<|r Pb<|i3<|i3 Y,h.lo,h.bf.imp λ_ b=>(r _<|i3<|.inr<|.inr<|.inl Y).trans b,λa=>(r _<|.inl<|.inr ⟨h.h1 a,_,h.cl a,.inl Y⟩).trans<|h.cl a,h.h1,λa=>(r _<|.inl<|.inr ⟨(h.h2 a).1,_,h.de a,.inr<|.inl Y⟩).trans<|h.de a,h.h2,(r _<|.inl<|.inl Y).trans h.pc,(r _<|i3<|.inr<|.inl Y).trans h.wb⟩
def HP.rely{i:Ix}(r:sY (aH prog N Pb Shun val B Mz) i w aL):HP N Pb cp k c1 c2 x1 x2 aL:=h.rc r.rc
def fZ:=@HP.rely
end
def bQ(w:World)(o:Obj){b:Nat}(h:b<w.heap.size):(w.alloc o).heap[b]?=w.heap[b]?:=Below.heap_alloc _ _ _ h
def HP.RY(h:HP N Pb cp 0 c1 c2 x1 x2 w)(c:Aq):∃c1,c1=w.heap.size/\HP N Pb cp 1 c1 c2 c x2 (w.alloc<|.cells c 177):=by have hs:=h.size;refine⟨_,Y,(bQ _ _ oq).trans h.lv,h.ps.of<|bQ _ _<|by have:=h.lo;omega,h.lo,h.bf.imp λ_ ho=>(bQ _ _ oq).trans ho,λ_=>heap_alloc_new w<|.cells c 177,λ_=>hs,λh2=>oq,λh2=>oq,(bQ _ _ oq).trans h.pc,(bQ _ _ oq).trans h.wb⟩
def HP.RZ(h:HP N Pb cp 1 c1 c2 x1 x2 w)(c:Aq):∃c2,c2=w.heap.size/\HP N Pb cp 2 c1 c2 x1 c (w.alloc<|.cells c 179):=by have hs:=h.size;have iX:=(oa.1<|h.cl oq).1;refine⟨_,Y,(bQ _ _ oq).trans h.lv,h.ps.of<|bQ _ _<|by have:=h.lo;omega,h.lo,h.bf.imp λ_ ho=>(bQ _ _ oq).trans ho,λ_=>(bQ _ _ iX).trans<|h.cl oq,λ_=>h.h1 oq,λ_=>heap_alloc_new w<|.cells c 179,λ_=>⟨hs,oq⟩,(bQ _ _ oq).trans h.pc,(bQ _ _ oq).trans h.wb⟩
def ej(w:World){g b:Nat}(cs:Aq)(h:b≠g):(w.setRow g cs).heap[b]?=w.heap[b]?:=by simp[World.setRow,Ii,Ne.symm h]
theorem HP.Uf(h:HP N Pb cp k c1 c2 x1 x2 w)(U:1<=k)(c:Aq):HP N Pb cp k c1 c2 c x2 (w.setRow c1 c):=by have a:=h.lo;have h1:=h.h1 U;exact⟨(ej _ _ oq).trans h.lv,h.ps.of<|ej _ _ gq,h.lo,h.bf.imp λ_ b=>(ej _ _ oq).trans b,λ_=>setRow_heap w _ _ _ _ _<|h.cl U,h.h1,λz=>(ej _ _<|Ne.symm (h.h2 z).2).trans<|h.de z,h.h2,(ej _ _ oq).trans h.pc,(ej _ _ oq).trans h.wb⟩
theorem HP.Ug(h:HP N Pb cp k c1 c2 x1 x2 w)(U:2<=k)(c:Aq):HP N Pb cp k c1 c2 x1 c (w.setRow c2 c):=by have a:=h.lo;have h2:=h.h2 U;exact⟨(ej _ _ oq).trans h.lv,h.ps.of<|ej _ _ gq,h.lo,h.bf.imp λ_ b=>(ej _ _ oq).trans b,λz=>(ej _ _ h2.2).trans<|h.cl z,h.h1,λ_=>setRow_heap w _ _ _ _ _<|h.de U,h.h2,(ej _ _ oq).trans h.pc,(ej _ _ oq).trans h.wb⟩
def HP.hc(h:HP N Pb cp 2 c1 c2 #[iG N,.bool false,.bool false] #[qj c1,.int .i32 0,.int .i64 0,.int .u8 0,.int .u8 0] w):HC N Pb cp c1 c2 ⟨false,false⟩ ⟨0,0,0,0⟩ w:=⟨h.lv,h.cl oq,h.de oq,h.pc,h.wb,h.h1 oq,(h.h2 oq).1,(h.h2 oq).2,h.ps,h.lo⟩
def BR{es:Array Event}{cs:Aq}{t:TypeId}(hs:N+9<=w.heap.size)(ht:dt t)(h:∀e∈es,NX (aH prog N Pb Shun val B Mz) (w.alloc<|.cells cs t) e):DK (aH prog N Pb Shun val B Mz) w (w.alloc<|.cells cs t) es:=by
 refine⟨Y,Y,Y,λb c _=>bQ _ _ c,λb c=>?_,λb h1 h2=>?_,bQ _ _<|by show N<_;omega,by simp,h⟩
 .rcases c with z|⟨z,o',z1,z2⟩
  .exact .inl z
  .exact .inr ⟨z,o',(bQ _ _ (oa.1 z1).1).trans z1,z2⟩
 .have:b=w.heap.size:=by simp at h2;omega
  subst this;exact .inr ⟨hs,_,heap_alloc_new w (Obj.cells cs t),ht⟩
def KH{es:Array Event}{g:Nat}{cs old:Aq}{t:TypeId}(c:w.heap[g]?=some (.cells old t))(a:N+9<=g)(d:dt t)(h:∀e∈es,NX (aH prog N Pb Shun val B Mz) (w.setRow g cs) e):DK (aH prog N Pb Shun val B Mz) w (w.setRow g cs) es:=by
 have j:(w.setRow g cs).heap.size=w.heap.size:=iq
 refine⟨Y,Y,Y,λk _ i=>ej _ _ ?_,λb f=>?_,λb h1 h2=>absurd h1 oq,ej _ _<|by show N≠g;omega,oq,h⟩
 .rintro rfl;exact i<|.inr ⟨a,_,c,d⟩
 .by_cases e:b=g
  .subst e;exact .inr ⟨a,_,setRow_heap w _ _ _ _ _ c,d⟩
  .exact f.of_same<|ej _ _ e
def yX{P:Program}{w:World}{o:Oper}{a:Act}{ty t:TypeId}{x y:Operand}{g:Nat}{old cells:Aq}(c:o.op=.store ty x y)(h:a.eval x=.pointer (sq g))(i:a.eval y=.agg cells)
 (e:w.heap[g]?=some (.cells old t (0,0)))(hi:(P.info? ty).map (·.size)=some cells.size)(f:old.size=cells.size)(h1:cells.all (·.oneCell')=true) :
  (execOp a.eval o).run P w=.ok .skip (w.setRow g cells)/\∀d∈(execOp a.eval o).events P w #[],∃o,d=⟨.cell ⟨g,o,none⟩,true,false⟩:=by
 constructor
 .unfold execOp;simp[c,h,i,Instr.storeAt,Instr.sureAddr,run_storeVar_row w g t ty old cells e hi f h1]
 .intro d b;unfold execOp at b;simp only[c,h,i] at b;refine AX w g t ty old cells e hi f h1 d ?_;simpa[Instr.storeAt,Instr.sureAddr] using b
def T9(b:HP N Pb cp 0 0 0 #[] #[] w)(hz:∀p∈cp.l,p.size<=9223372036854775806)(hz2:cp.l.length<=9223372036854775806)(vs:Vq) :
  iH prog (XK<|aH prog N Pb Shun val B Mz) 63 #[cp.v,iG N] (true,V (kz cp.l)++vs) w (λi' _ w'=>i'=((kz cp.l).isEmpty,vs)/\∃f M c d,HC N Pb cp f M c d w'):=by
 have⟨ad,cc,hv,_⟩:=id b.ps;rw[hv];have C:=cK N Pb Shun val B Mz;have T:=tK N Pb Shun val B Mz;have q:=T (true,[]);have evb:∀(w:World) (h:Array Event) (a:Addr) (m:Mode) (x:Bool),(store a (.bool x) m).events prog w h=storedEv prog w h a (.bool x) m:=λw h a m x=>events_store prog w h a _ m rfl;have Q8:∀w:World,sY (aH prog N Pb Shun val B Mz) (true,[]) w { w with drawn:=w.drawn+1 }:=wv;have bd1:=λw=>run_build (P:=prog) w 177 #[(0,iG N)] #[iG N,.bool false,.bool false] kq;have be1:=λw h=>kQ (P:=prog) w 177 #[(0,iG N)] #[iG N,.bool false,.bool false] kq h;have bd2:=λf w=>run_build (P:=prog) w 179 #[(0,qj f)] #[qj f,.int .i32 0,.int .i64 0,.int .u8 0,.int .u8 0] kq;have be2:=λf w h=>kQ (P:=prog) w 179 #[(0,qj f)] #[qj f,.int .i32 0,.int .i64 0,.int .u8 0,.int .u8 0] kq h;have al1:=λw=>s7 (w:=w) zeroValue177;have ae1:=λw h=>nj (w:=w) zeroValue177 h;have al2:=λw=>s7 (w:=w) zeroValue179;have ae2:=λw h=>nj (w:=w) zeroValue179 h;have ln:∀s w h,(Builtin.len_ #[9] 3 #[.string s]).events prog w h=h:=λs w h=>by simp[Builtin.len_,go_sem]
 have mk:∀f w h,(Instr.makeFunc (Fn.func 116) #[Value.pointer (sq f)] #[]).events prog w h=h:=λf w h=>by simp[Instr.makeFunc]
 refine fG func63 rq rfl ?_;simp only[ntmps63,bZ,Nat.reduceAdd,Nat.reduceSub];co_apply bz C T (aS _);co_reg (T _);co_op fZ b (co_quiet q);co_opw fZ b (skip) (co_still q);co_opw fZ b (skip) (exact BR b.size (.inl rfl)<|by co_evs (skip));have⟨f,W,b⟩:=b.RY #[.nilFunc,.bool false,.bool false];simp only[<-W];clear W;co_apply opsC_cons_k rfl rq;intro _ D K U;replace b:=fZ b D;clear D;have u:=λ{o:Oper} {a:Act} {x y:Operand} lx hx hy=>yX (P:=prog) (ty:=177) (o:=o) (a:=a) (x:=x) (y:=y) (g:=f) (cells:=#[iG N,.bool false,.bool false]) lx hx hy (b.cl oq) kq rfl (by simp[Value.oneCell',iG]);rw[(u rfl rfl rfl).1];refine U _ _ ⟨?_,?_⟩
 .refine KH (b.cl oq) (b.h1 oq) (.inl rfl) λe r=>?_;obtain⟨o,rfl⟩:=(u rfl rfl rfl).2 e<|mem_listed r;exact .inl ⟨_,_,rfl,.inl<|.inr ⟨b.h1 oq,_,setRow_heap _ _ _ _ _ _<|b.cl oq,.inl rfl⟩⟩
 clear U K u;try walk_nrm
 replace b:=b.Uf oq #[iG N,.bool false,.bool false];co_apply opsC_nil (T _);co_then;co_apply bz C T (aS _);co_reg (T _);co_opw fZ b (skip) (co_still q);simp only[show Value.func (Fn.func 116) #[Value.pointer (sq f)] #[]=qj f from rfl];co_opw fZ b (skip) (co_still q);co_opw fZ b (skip) (exact BR b.size (.inr<|.inl rfl)<|by co_evs (skip));have⟨M,X,b⟩:=b.RZ #[.nilFunc,.int .i32 0,.int .i64 0,.int .u8 0,.int .u8 0];simp only[<-X];clear X;co_apply opsC_cons_k rfl rq;intro _ D K U;replace b:=fZ b D;clear D;have u:=λ{o:Oper} {a:Act} {x y:Operand} lx hx hy=>yX (P:=prog) (ty:=179) (o:=o) (a:=a) (x:=x) (y:=y) (g:=M) (cells:=#[qj f,.int .i32 0,.int .i64 0,.int .u8 0,.int .u8 0]) lx hx hy (b.de oq) kq rfl (by simp[Value.oneCell',qj]);rw[(u rfl rfl rfl).1];refine U _ _ ⟨?_,?_⟩
 .refine KH (b.de oq) (b.h2 oq).1 (.inr<|.inl rfl) λe r=>?_;obtain⟨o,rfl⟩:=(u rfl rfl rfl).2 e<|mem_listed r;exact .inl ⟨_,_,rfl,.inl<|.inr ⟨(b.h2 oq).1,_,setRow_heap _ _ _ _ _ _<|b.de oq,.inr<|.inl rfl⟩⟩
 clear U K u;try walk_nrm
 replace b:=b.Ug oq #[qj f,.int .i32 0,.int .i64 0,.int .u8 0,.int .u8 0];co_apply opsC_nil (T _);co_then;refine fj C T ?_;co_apply bz C T (aS _);co_reg (T _);co_op fZ b (co_quiet q);co_opw fZ b (skip) (co_still q);co_op fZ b (co_quiet q);co_apply opsC_nil (T _);co_then;refine iC C T ?_;have b:=b.hc;refine w7 C T (λn i a w=>∃c d z k,n+k=cp.l.length/\i=(z,V (dv c d<|(cp.l.drop k).flatMap bytesOf)++vs)/\(z&&(dv c d<|(cp.l.drop k).flatMap bytesOf).isEmpty)=(kz cp.l).isEmpty/\HC N Pb cp f M c d w/\∃x7 x8 Z X2 X3 X4 X5 x21 E F G H I J L S,a=⟨#[.slice ad cp.l.length cc,iG N,undef,undef,.pointer<|sq f,.pointer<|sq M,undef,x7,x8,iG N,.agg #[iG N,.bool false,.bool false],qj f,.agg #[qj f,.int .i32 0,.int .i64 0,.int .u8 0,.int .u8 0],.slice ad cp.l.length cc,.int .i64 (cp.l.length:Int),.int .i64 (k:Int),Z,X2,X3,X4,X5,x21,E,F,G,H,I,J,L,S,undef],[]⟩) cp.l.length ⟨⟨false,false⟩,⟨0,0,0,0⟩,true,0,oq,rfl,by simp[kz],b,_,_,_,_,_,_,_,_,_,_,_,_,_,_,_,_,rfl⟩ ?_;clear b;rintro n i a w ⟨c,d,z,k,hn,rfl,r,b,x7,x8,Z,X2,X3,X4,X5,x21,E,F,G,H,I,J,L,S,rfl⟩;by_cases hk:k<cp.l.length
 .have Q:decide ((k:Int)<(cp.l.length:Int))=true:=tD oq;obtain⟨s,hs⟩:∃s,cp.l[k]?=some s:=⟨_,gE hk⟩;have uN:=hz s<|mG hs;have hdk:(cp.l.drop k).flatMap bytesOf=bytesOf s++(cp.l.drop<|k+1).flatMap bytesOf:=by rw[List.drop_eq_getElem_cons hk,List.flatMap_cons,(gS.1 hs).2]
  obtain⟨R,rfl,_⟩:=b.ps.at hv hs;rw[hdk] at r |-;generalize hrs:(cp.l.drop<|k+1).flatMap bytesOf=rs at r |-;co_apply bz C T (aS _);co_reg (T _);co_op aC b (co_quiet q);co_apply opsC_nil (T _);co_then;try simp only[Q]
  refine fj C T<|bB C T (t:=true) rfl ?_;simp only[if_true];refine fY C T ?_;show ov _ _ _ _ _ _ _;refine fj C T<|iC C T ?_;co_apply bz C T (aS _);co_reg (T _);co_opw aC b (skip) (co_still q);co_opw aC b (obtain⟨off',e1,hc⟩:=b.ps.at hv hs;cases e1) (refine eX b ?_;co_evs (exact ti<|i3<|.inr<|.inr rfl));clear hc;co_op aC b (co_quiet q);co_apply opsC_nil (T _);co_then;co_apply bz C T (aS _);co_reg (T _);co_op aC b (co_quiet q);co_opw aC b (skip) (co_still q);co_op aC b (co_quiet q);co_apply opsC_nil (T _);co_then;refine iC C T<|w7 C T (λm i a w=>∃c d z j,m+j=s.size/\i=(z,V (dv c d<|(bytesOf s).drop j++rs)++vs)/\(z&&(dv c d<|(bytesOf s).drop j++rs).isEmpty)=(kz cp.l).isEmpty/\HC N Pb cp f M c d w/\∃x8 E F G H I J L,a=⟨#[.slice (some ⟨Pb,R,none⟩) cp.l.length cc,iG N,undef,undef,.pointer<|sq f,.pointer<|sq M,undef,.string s,x8,iG N,.agg #[iG N,.bool false,.bool false],qj f,.agg #[qj f,.int .i32 0,.int .i64 0,.int .u8 0,.int .u8 0],.slice (some ⟨Pb,R,none⟩) cp.l.length cc,.int .i64 (cp.l.length:Int),.int .i64 (k:Int),.bool true,.pointer<|some ⟨Pb,R+k,none⟩,.string s,.string s,.int .i64 (s.size:Int),.int .i64 (j:Int),E,F,G,H,I,J,L,S,undef],[]⟩) s.size ⟨c,d,z,0,oq,rfl,r,b,_,_,_,_,_,_,_,_,rfl⟩ ?_;clear b r;rintro m i a w ⟨c,d,z,j,hm,rfl,r,b,x8,E,F,G,H,I,J,L,rfl⟩;by_cases hj:j<s.size
  .have O:decide ((j:Int)<(s.size:Int))=true:=tD oq;co_apply bz C T (aS _);co_reg (T _);co_op aC b (co_quiet q);co_apply opsC_nil (T _);co_then;try simp only[O]
   refine fj C T<|bB C T (t:=true) rfl ?_;simp only[if_true];refine fY C T ?_;show ov _ _ _ _ _ _ _;refine fj C T<|iC C T ?_;co_apply bz C T (aS _);co_reg (T _);iterate 2 co_op aC b (co_quiet q)
   co_apply opsC_nil (T _);co_then;have ZO:(bytesOf s).drop j=((s[j]'hj).toNat:Int)::(bytesOf s).drop (j+1):=by rw[List.drop_eq_getElem_cons (by simpa[bytesOf] using hj)];simp[bytesOf];rfl
   have ixe:∀w h,(Instr.index 9 (.string s)<|.int .i64 (j:Int)).events prog w h=h:=λw h=>by simp[Instr.index,go_sem,hj]
   rw[ZO,List.cons_append,iA] at r |-;simp only[rr,uW];refine bT C T ?_;simp only[iB,Nat.reduceAdd];iterate 2
    refine aV C rfl rq λ_ D Kx A=>?_
    replace b:=aC b D
    clear D
    go_simp
    try (unfold stored;go_simp)
    refine A _ _ ⟨?_,?_⟩
    .co_quiet q
    clear A Kx;try walk_nrm
   refine aV C rfl rq λ_ D Kx A=>?_;replace b:=aC b D;clear D;go_simp;try (unfold stored;go_simp)
   refine A _ _ ⟨?_,?_⟩
   .co_still q
   clear A Kx;try walk_nrm
   refine cI C T rfl rq rfl rfl (by simp[Act.eval]) rfl (Ux b z _ _) ?_;rintro _ _ _ ⟨rfl,b⟩;refine cO C T ?_;show ov _ _ _ _ _ _ _;co_apply q9 C (aS _);co_reg (T _);iterate 2 co_op aC b (co_quiet q)
   co_apply opsC_nil (T _);have hwr:IntKind.i64.wrap ((j:Int)+1)=((j+1:Nat):Int):=by rw[IntKind.wrap_i64];omega
   simp only[hwr];rw[oZ,<-Bool.and_assoc] at r;exact⟨m-1,oq,_,_,_,j+1,oq,rfl,r,b,_,_,_,_,_,_,_,_,rfl⟩
  .have O:decide ((j:Int)<(s.size:Int))=false:=fD oq;co_apply bz C T (aS _);co_reg (T _);co_op aC b (co_quiet q);co_apply opsC_nil (T _);co_then;try simp only[O]
   refine fj C T<|bB C T (t:=false) rfl ?_;simp only[if_false,j6];refine w6 C T ?_;simp only[mS,C8,if_true];have Y:(bytesOf s).drop j=[]:=List.drop_eq_nil_of_le (by simp[bytesOf];have:s.size=s.data.size:=rfl;omega);rw[Y,List.nil_append,<-hrs] at r |-;have hwk:IntKind.i64.wrap ((k:Int)+1)=((k+1:Nat):Int):=by rw[IntKind.wrap_i64];omega
   co_apply q9 C (aS _);co_reg (T _);iterate 2 co_op aC b (co_quiet q)
   co_apply opsC_nil (T _);try simp only[hwk]
   exact⟨n-1,oq,c,d,z,k+1,oq,rfl,r,b,_,_,_,_,_,_,_,_,_,_,_,_,_,_,_,_,rfl⟩
 .have Q:decide ((k:Int)<(cp.l.length:Int))=false:=fD oq;rw[List.drop_eq_nil_of_le oq,List.flatMap_nil] at r |-;co_apply bz C T (aS _);co_reg (T _);co_op aC b (co_quiet q);co_apply opsC_nil (T _);co_then;try simp only[Q]
  refine fj C T<|bB C T (t:=false) rfl ?_;simp only[if_false,j6];refine w6 C T ?_;simp only[mS,C8,if_true];rw[iY] at r |-;refine bT C T ?_;simp only[iB];refine cI C T rfl rq rfl rfl (by simp[Act.eval]) rfl (KV b z vs) ?_;rintro _ _ _ ⟨rfl,b⟩;exact cO C T ⟨.inl rfl,rfl,_,resultsC_none rq _,by rw[r],_,_,_,_,b⟩
end
section
variable {main:Bool}{b:Frame}{a:Act}{k:List Item}{cs:List Frame}{ops:Array Oper}{i:Nat}{rest:List Nat}{o:Oper}
theorem sF{d:Deferred}(c:ops[i]?=some o)(h:Region.wanted o (yielded ops a.tmps)=true)(j:b.kind≠.early)(g:(execOp a.eval o).run P w=.ok (.defer d) w)(f:(execOp a.eval o).events P w #[]=#[]) :
  stepG P main (G (b.at a (.inRegion ops (i::rest)::k)) cs) w=.go (G (b.at (Act.put ⟨a.tmps,d::a.defers⟩ o.dst undef) (.inRegion ops rest::k)) cs) w #[]:=by
 have U:(b.at ⟨a.tmps,d::a.defers⟩ (.inRegion ops (i::rest)::k)).finish undef=b.at (Act.put ⟨a.tmps,d::a.defers⟩ o.dst undef) (.inRegion ops rest::k):=by rw[Frame.finish_at,c];rfl
 have e:(b.kind==CallKind.early)=false:=gq
 rw[stepG_oper c h,<-U];simp[stepG.apply,g,f,G,Frame.at,e,GStep.after,seen_none]
def xA{c:Frame}(e:ops[i]?=some o)(m:Region.wanted o (yielded ops a.tmps)=true)(h:b.kind=.deferred)(l:b.roundOf=none)(f:c.mode=.returning)(j:(execOp a.eval o).run P w=.ok .recover w)(g:(execOp a.eval o).events P w #[]=#[]) :
  stepG P main (G (b.at a (.inRegion ops (i::rest)::k)) (c::cs)) w=.go (G (b.at (a.put o.dst .nilIface) (.inRegion ops rest::k)) (c::cs)) w #[]:=by
 have d:(b.at a (.inRegion ops (i::rest)::k)).finish .nilIface=b.at (a.put o.dst .nilIface) (.inRegion ops rest::k):=by rw[Frame.finish_at,e];rfl
 rw[stepG_oper e m,<-d];simp[stepG.apply,j,g,G,Frame.at,h,tryRecover,f,GStep.after,seen_none]
variable {todo:List Item}{ds:List Deferred}{f:FuncId}{fn:Func}{args cap:Aq}
theorem po{c:Code}(hd:a.defers={ target:=.fn (.func f) cap,args:=args } :: ds)(hf:P.funcs[f]?=some fn)(mR:(fn.name == "runtime.NumGoroutine")=false)(hb:fn.body=some c) :
  stepG P main (G { b.at a todo with mode:=.returning } cs) w =
   .go (G ((baseD f).at { tmps:=(args++cap)++Array.replicate (fn.ntmps-(args++cap).size) undef,defers:=[] } [.code c]) ({ b.at ⟨a.tmps,ds⟩ todo with mode:=.returning }::cs)) w #[]:=by
 have h1:¬ fn.name = "runtime.NumGoroutine" := gq
 rw[<-enter_atD _ hf hb];simp[G,stepG,unwind,callDeferred,Frame.at,hd,invoke,callFunc,hf,h1,hb,GStep.after,seen_none]
def qY{ats:Array TypeId}{ty:TypeId}{g:Array Bool}{r cap s i:Nat}{c:Aq}{tm:Bool}(j:a.defers={ target:=.builtin .close ats ty g,args:=#[.chan (some r)] }::ds)
 (h:w.heap[r]?=some (.chan cap c false s i tm))(k:(P.funcs[b.fn]?).any (·.norace)=false) :
  stepG P main (G { b.at a todo with mode:=.returning } cs) w=.go (G { b.at ⟨a.tmps,ds⟩ todo with mode:=.returning } cs) (w.setChan r cap c true s i tm) (closeEvents r):=by
 have l:(builtin .close ats ty g #[.chan (some r)]).run P w=.ok (.value<|.tuple #[]) (w.setChan r cap c true s i tm):=by simp[go_sem,run_close_open _ _ h,World.setChan]
 have d:(builtin .close ats ty g #[.chan (some r)]).events P w #[]=closeEvents r:=by simp[go_sem,events_close_open _ _ h,closeEvents]
 have m:seen P b.fn _=closeEvents r:=seen_eq k (by intro e d f;simp only[closeEvents,List.mem_toArray,pS,IA,or_false] at d;rcases d with rfl|rfl<;>simp);simp[G,stepG,unwind,callDeferred,Frame.at,j,invoke,l,d,m,GStep.after]
end
structure HB(N:Nat)(nv:Value)(w:World):Prop where
 nx:w.heap[N+1]?=some (.cells #[nv] 110)
 lv:w.heap[N+3]?=some (.cells #[.chan (some<|N+2)] 158)
 ev:w.heap[N+5]?=some (.cells #[.chan (some<|N+4)] 159)
 wb:w.heap[N+7]?=some (.cells #[.pointer (some ⟨N+6,0,none⟩)] 240)
 fb:w.heap[N+8]?=some (.cells #[.func (.func 112) #[] #[.pointer (some ⟨N+5,0,none⟩),.pointer<|some ⟨N+1,0,none⟩,.pointer<|some ⟨N+3,0,none⟩]] 1)
structure HE(N:Nat)(val:Value)(w:World):Prop where
 pc:∃t,w.heap[N]?=some (.cells #[val] t)
 wb:w.heap[N+7]?=some (.cells #[.pointer (some ⟨N+6,0,none⟩)] 240)
 bf:∃o,w.heap[N+8]?=some o
structure HQ(N Pb:Nat)(cp:JW)(w:World):Prop where
 pc:w.heap[N]?=some (.cells #[cp.v] 62)
 ps:oD Pb cp w
 lo:Pb<N+9
def vI(N:Nat):Deferred:={ target:=.builtin .close #[159] 0 #[false],args:=#[.chan (some<|N+4)] }
section
variable {nv:Value}
def cell1{b:Nat}{v:Value}{t:TypeId}(h:w.heap[b]?=some (.cells #[v] t)):w.cell? ⟨b,0,none⟩=some v:=by simp[World.cell?,h]
variable [ConcR.Payload][ConcX.Payload]
def HB.rc(h:HB N nv w)(r:RC (aH prog N Pb Shun val B Mz) w aL):HB N nv aL :=
 ⟨(r _<|.inr<|.inl Y).trans h.nx,(r _<|.inr<|.inr<|.inl Y).trans h.lv,(r _<|i3<|.inl Y).trans h.ev,(r _<|i3<|.inr<|.inl Y).trans h.wb,(r _<|i3<|.inr<|.inr<|.inl Y).trans h.fb⟩
def HB.rely{i:Ix}(h:HB N nv w)(r:sY (aH prog N Pb Shun val B Mz) i w aL):HB N nv aL:=h.rc r.rc
theorem HE.size(h:HE N val w):N+9<=w.heap.size:=by have⟨o,U⟩:=h.bf;grind
def HQ.rc(h:HQ N Pb cp w)(r:RC (aH prog N Pb Shun val B Mz) w aL):HQ N Pb cp aL:=by exact⟨(r _<|.inl<|.inl Y).trans h.pc,h.ps.of<|r Pb<|i3<|i3 Y,h.lo⟩
def HQ.rely{i:Ix}(h:HQ N Pb cp w)(r:sY (aH prog N Pb Shun val B Mz) i w aL):HQ N Pb cp aL:=h.rc r.rc
def HB.hp(h:HB N nv w)(q:HQ N Pb cp w):HP N Pb cp 0 0 0 #[] #[] w:=⟨h.lv,q.ps,q.lo,⟨_,h.fb⟩,λh=>absurd h oq,λh=>absurd h oq,λh=>absurd h oq,λh=>absurd h oq,q.pc,h.wb⟩
def kR{K:Cfg}{es:Array Event}(h:∀e∈es,NX K w e):DK K w w es :=
 ⟨Y,Y,Y,λ_ _ _=>Y,λ_ h=>h,λ_ h1 h2=>absurd h1 oq,Y,lr,h⟩
def pQ{o:Nat}{b:Nat}(a:b=N+1\/b=N+3\/b=N+5\/b=N+7\/b=N+8\/b=Pb):NX (aH prog N Pb Shun val B Mz) w ⟨.cell ⟨b,o,none⟩,false,false⟩:=.inl ⟨_,_,Y,.inr ⟨a,Y⟩⟩
def E2{g:Type}{P:Program}{main:Bool}{R:g->Wq}{D:World->World->Array Event->Prop}{X:g->Gq}{fn:FuncId}{Q:ri g}{a:Act}{w:World}{vs:g}(C:Closed P main R D X)(T:∀i,Terms (R i) D)
 {ops:Array Oper}{i:Nat}{c:List Nat}{o:Oper}{d:Deferred}(q:ops[i]?=some o)(s:Region.wanted o (yielded ops a.tmps)=true)(r:∀w,(execOp a.eval o).run P w=.ok (.defer d) w)(p:∀w,(execOp a.eval o).events P w #[]=#[])
 (h:oC X fn ops c vs Q (Act.put ⟨a.tmps,d::a.defers⟩ o.dst undef) w):oC X fn ops (i::c) vs Q a w:=λb k l m j n=>C.step Y λe f=>by rw[sF q s j (r e) (p e)];exact⟨(T vs).idle _,C.rely (h b k l m j n) f⟩
def Km(N:Nat):Value:=.func (.func 62) #[] #[.pointer (some ⟨N,0,none⟩)]
theorem ES(a:HB N nv w)(e:HQ N Pb cp w)(k:∀p∈cp.l,p.size<=9223372036854775806)(h:cp.l.length<=9223372036854775806) :
  iH prog (XK<|aH prog N Pb Shun cp.v B Mz) 62 #[iG N,.pointer<|sq N] (true,V<|kz cp.l) w (λm _ n=>m.2=[]/\HE N cp.v n):=by
 have C:Closed prog false _ _ _:=XK.closed (K:=(aH prog N Pb Shun cp.v B Mz));have T:=AZ (K:=(aH prog N Pb Shun cp.v B Mz));refine fG func62 rq Y ?_;refine bT C T ?_;refine aV C Y rq λ_ b f U=>?_;replace a:=HB.rely a b;replace e:=HQ.rely e b;clear b;have j:=cell1 e.pc;go_simp;try (unfold stored;go_simp)
 refine U _ _ ⟨?_,?_⟩
 .refine kR ?_;co_evs (exact .inl ⟨_,_,Y,.inl<|.inl Y⟩)
 try walk_nrm
 clear j;refine aV C Y rq λ_ b f U=>?_;replace a:=HB.rely a b;replace e:=HQ.rely e b;clear b;go_simp;try (unfold stored;go_simp)
 refine U _ _ ⟨?_,?_⟩
 .co_quiet (T (true,[]))
 try walk_nrm
 refine cI C T Y rq Y Y (by simp[Act.eval]) gq (T9 (a.hp e) k h []) ?_;rintro _ _ _ ⟨rfl,o,q,c,d,a⟩;exact cO C T ⟨.inl Y,Y,_,resultsC_none rq _,Y,⟨_,a.pc⟩,a.wb,⟨_,gF<|by have:=a.size;omega⟩⟩
def Ud{f:FuncId}{cap:Aq}{ls:Vq}(j:HB N (.func (.func f) #[] cap) w)
 (k:∀a,RC (aH prog N Pb Shun val B Mz) w a->iH prog (XK<|aH prog N Pb Shun val B Mz) f (#[iG N]++cap) (true,ls) a (λs _ o=>s.2=[]/\HE N val o)) :
  ∃c,f112.body=some c/\ov (XK<|aH prog N Pb Shun val B Mz) 112 c (true,ls) (λi e q o=>e=.normal/\i.2=[]/\q.defers=[vI N]/\HE N val o) ⟨#[.pointer (sq<|N+5),.pointer<|sq<|N+1,.pointer<|sq<|N+3,undef,undef,undef,undef],[]⟩ w:=by
 have C:=cK N Pb Shun val B Mz;have T:=tK N Pb Shun val B Mz;have t:∀w m,(Instr.makeFunc (Fn.func 113) #[] #[Value.pointer (sq<|N+3)]).events prog w m=m:=λw m=>by simp[Instr.makeFunc]
 refine⟨_,Y,fj C T<|bT C T ?_⟩;refine aV C Y rq λ_ h l b=>?_;replace j:=HB.rely j h;replace k:=λa g=>k a<|dY h.rc g;clear h;have n:=cell1 j.ev;go_simp;try (unfold stored;go_simp)
 refine b _ _ ⟨?_,?_⟩
 .refine kR ?_;co_evs (exact pQ<|.inr<|.inr<|.inl Y)
 clear b l;try walk_nrm
 clear n;refine E2 C T (d:=vI N) Y rq (λw=>by simp[execOp,go_sem,resolve,vI,Act.eval]) (λw=>by simp[execOp,go_sem,resolve,Act.eval]) ?_;try walk_nrm
 refine cO C T ?_;refine bT C T ?_;refine aV C Y rq λ_ h l b=>?_;replace j:=HB.rely j h;replace k:=λa g=>k a<|dY h.rc g;clear h;have n:=cell1 j.nx;go_simp;try (unfold stored;go_simp)
 refine b _ _ ⟨?_,?_⟩
 .refine kR ?_;co_evs (exact pQ<|.inl Y)
 clear b l;try walk_nrm
 clear n;refine aV C Y rq λ_ h l b=>?_;replace j:=HB.rely j h;replace k:=λa g=>k a<|dY h.rc g;clear h;go_simp;try (unfold stored;go_simp)
 refine b _ _ ⟨?_,?_⟩
 .co_still (T (true,[]))
 clear b l;try walk_nrm
 refine cI C T Y rq Y Y (by simp[Act.eval];rfl) Y (k _<|RC.refl _) ?_;rintro i _ _ ⟨r,j⟩;exact cO C T ⟨Y,r,Y,j⟩
end
end
section
variable [Inhabited KC]
variable {P:Program}{main:Bool}{es:Array Event}{L b i:Nat}{a:Act}{k todo:List Item}{cs:List Frame}{ops:Array Oper}{rest:List Nat}{o:Oper}{K:Cfg}{f fr:FuncId}{args cap cr tm:Aq}{A F:World->Prop}{t:TypeId}{v:Value}{I:Nat->World->Prop}{l:Iq}
abbrev link:Conc.Lib.WgLink:={ add:=199,done:=202,wait:=115,relMerge:=303,disable:=204,enable:=206,inBubble:=212,associate:=304,fatal:=305,uOr:=306,uAdd:=307,raceRead:=308,uLoad:=205,uStore:=309,disassociate:=210,semrelease:=310,acquire:=207,isAssociated:=208,uCas:=209,raceWrite:=211,semacquire:=213,orU64:=359,addU64:=360,loadU64:=311,storeU64:=361,casU64:=312,tWgP:=240,tUP:=244,tAssoc:=290,tWg:=169,tAU:=166,tU64:=164,tUint:=242,tU32:=167,tPU32:=248,tPAU:=295,tPU64:=297,tNoCopy:=161,tANoCopy:=162,tAlign64:=163 }
theorem w0:Conc.Lib.WgLib prog link :=
 ⟨func199,func202,func115,func303,func204,func206,func212,func304,func305,func306,func307,func308,func205,func309,func210,func310,func207,func208,func209,func211,func213,func359,func360,func311,func361,func312,underlying240,runUnderlying240,sizeOf240,isAgg240,zeroValue240,underlying244,runUnderlying244,sizeOf244,isAgg244,zeroValue244,underlying290,runUnderlying290,sizeOf290,isAgg290,zeroValue290,underlying169,runUnderlying169,sizeOf169,isAgg169,zeroValue169,underlying166,runUnderlying166,sizeOf166,isAgg166,zeroValue166,underlying164,runUnderlying164,sizeOf164,isAgg164,zeroValue164,underlying242,runUnderlying242,sizeOf242,isAgg242,zeroValue242,underlying167,runUnderlying167,sizeOf167,isAgg167,zeroValue167,underlying248,runUnderlying248,sizeOf248,isAgg248,zeroValue248,underlying295,runUnderlying295,sizeOf295,isAgg295,zeroValue295,underlying297,runUnderlying297,sizeOf297,isAgg297,zeroValue297,underlying0,runUnderlying0,sizeOf0,isAgg0,zeroValue0,underlying3,runUnderlying3,sizeOf3,isAgg3,zeroValue3,underlying4,runUnderlying4,sizeOf4,isAgg4,zeroValue4,underlying9,runUnderlying9,sizeOf9,isAgg9,zeroValue9,underlying20,runUnderlying20,sizeOf20,isAgg20,zeroValue20,underlying21,runUnderlying21,sizeOf21,isAgg21,zeroValue21,kq,kq⟩
def bot (P:Program):Frame:={ (default:Frame) with fn:=P.funcs.size,defers:=[],mode:=.panicking [goexitEntry] }
def Zc (N:Nat):Deferred:={ target:=.fn (.func 201) #[.pointer (some ⟨N+7,0,none⟩)],args:=#[] }
def gN(N:Nat):Value:=.func (.func 112) #[] #[.pointer (some ⟨N+5,0,none⟩),.pointer<|some ⟨N+1,0,none⟩,.pointer<|some ⟨N+3,0,none⟩]
def Rq(b:Option Code):Array Oper:=match b with|some (.seq _<|.region _ ops _)=>ops|_=>#[]
def OX (b:Option Code)(N:Nat):Frame:=(baseD 200).at ⟨#[.pointer (some ⟨N+7,0,none⟩),.pointer<|some ⟨N+8,0,none⟩,.func (.func 201) #[] #[.pointer (some ⟨N+7,0,none⟩)],gN N,undef],[Zc N]⟩ [.inRegion (Rq b) [1]]
theorem Way.closed{R:Wq}{D:World->World->Array Event->Prop}{Stop:Gq}(f:∀a b c,R a b->R b c->R a c):Closed P main (λ_:Unit=>R) D (λ_=>Way P main R D Stop) where
 rely:=λ{_ _ _ _} h hr=>Way.rely f h hr
 step:=by
  intro i g w k h
  refine Way.step k λd j=>?_
  have U:=h d j
  cases e:stepG P main g d with
  | go g' w' es=>rw[e] at U;exact⟨g',w',es,Y,U.1,U.2⟩
  | _=>rw[e] at U;exact U.elim
variable {N Pb B:Nat}{Shun Mz:Loc->Prop}{val:Value}{S:Nat->Prop}{s:ByteArray}
section
variable {w aL:World}
variable [ConcR.Payload][ConcX.Payload]
structure HJ(N:Nat)(val:Value)(w:World):Prop where
 pc:∃t,w.heap[N]?=some (.cells #[val] t)
 wb:w.heap[N+7]?=some (.cells #[.pointer (some ⟨N+6,0,none⟩)] 240)
 live:ConcN.WgLive 169 (N+6) w
theorem HJ.rely(U:S N)(h:HJ N val w)(r:RJ (aH prog N Pb Shun val B Mz) S w aL):HJ N val aL:=⟨h.pc.imp λ_ z=>(r.rc _<|.inl U).trans z,(r.rc _<|i3<|.inr<|.inl Y).trans h.wb,r.live h.live⟩
theorem rF(U:S N)(h:∀e∈es,EvB N Pb N N e):DJ (aH prog N Pb Shun val B Mz) S w w es:=by
 refine⟨⟨Y,Y,Y,Y,λ_ _=>Y,id,λ_ _=>Y⟩,λe g=>?_⟩;obtain⟨a,d,rfl,f⟩:=h e g;refine⟨λj i=>⟨Y,λx c=>?_⟩,by simp,by simp,by simp⟩;have b:x=⟨.cell a,d,.plain⟩:=by simp only[MemAct.ofEvent,MemAct.touch?] at c;cases d<;>simpa using c.symm
 subst b;rcases f with h|⟨h,rfl⟩
 .exact .inr<|.inl<|.inl ⟨a,Y,by rw[show a.block=N by omega];exact U⟩
 .exact .inr<|.inr ⟨⟨a,Y,h⟩,Y⟩
theorem gl(U:S N)(w:World):DJ (aH prog N Pb Shun val B Mz) S w w #[]:=rF U iq
theorem VS(hS:S N)(hF:HJ N val w)(tm:Aq) :
  Way prog false (RJ (aH prog N Pb Shun val B Mz) S) (DJ (aH prog N Pb Shun val B Mz) S) (Bp<|aH prog N Pb Shun val B Mz) (G { (base 112).at ⟨tm,[]⟩ [] with mode:=.returning } [OX f200.body N,(bot prog)]) w:=by
 have CJ:=Way.closed (P:=prog) (main:=false) (R:=RJ (aH prog N Pb Shun val B Mz) S) (D:=DJ (aH prog N Pb Shun val B Mz) S) (Stop:=Bp<|aH prog N Pb Shun val B Mz)<|λ_ _ _=>RJ.trans (K:=(aH prog N Pb Shun val B Mz));refine CJ.step (vs:=()) Y λ_ cP=>?_;replace hF:=hF.rely hS cP;clear cP;rw[stepG_leave (b:=base 112) Y Y func112 (results_none Y _ _ _) (events_results_none Y _ _)];simp only[goes_go];refine⟨gl hS _,?_⟩;unfold OX;rw[Frame.finish_at];simp only[Rq,f200];try walk_nrm
 refine CJ.step (vs:=()) Y λ_ cP=>?_;replace hF:=hF.rely hS cP;clear cP;rw[stepG_region_end];simp only[goes_go];refine⟨gl hS _,CJ.step (vs:=()) Y λ_ cP=>?_⟩;replace hF:=hF.rely hS cP;clear cP;rw[stepG_end];simp only[goes_go];refine⟨gl hS _,CJ.step (vs:=()) Y λ_ cP=>?_⟩;replace hF:=hF.rely hS cP;clear cP;rw[po (f:=201) Y func201 rq Y];simp only[goes_go];refine⟨gl hS _,?_⟩;simp only[ntmps201,bZ,Nat.reduceAdd,Nat.reduceSub];iterate 2
  refine CJ.step (vs:=()) Y λ_ cP=>?_
  replace hF:=hF.rely hS cP
  clear cP
  rw[stepG_seq]
  simp only[goes_go]
  refine⟨gl hS _,?_⟩
 refine CJ.step (vs:=()) Y λ_ cP=>?_;replace hF:=hF.rely hS cP;clear cP;rw[stepG_region];simp only[goes_go,iB,Nat.reduceAdd];refine⟨gl hS _,CJ.step (vs:=()) Y λ_ cP=>?_⟩;replace hF:=hF.rely hS cP;clear cP;rw[xA Y rq Y Y Y (by simp[execOp,go_sem]) (by simp[execOp,go_sem])];simp only[goes_go];refine⟨gl hS _,?_⟩;try walk_nrm
 refine CJ.step (vs:=()) Y λ_ cP=>?_;replace hF:=hF.rely hS cP;clear cP;refine goes_oper_k Y Y dq<|λKx dJ=>?_;go_simp;refine dJ _ _ ⟨?_,?_⟩
 .refine rF hS ?_;co_evs (skip)
 clear dJ Kx;try walk_nrm
 refine CJ.step (vs:=()) Y λ_ cP=>?_;replace hF:=hF.rely hS cP;clear cP;rw[stepG_region_end];simp only[goes_go];refine⟨gl hS _,CJ.step (vs:=()) Y λ_ cP=>?_⟩;replace hF:=hF.rely hS cP;clear cP;rw[stepG_seq];simp only[goes_go];refine⟨gl hS _,CJ.step (vs:=()) Y λ_ cP=>?_⟩;replace hF:=hF.rely hS cP;clear cP;rw[stepG_region];simp only[goes_go,iB,Nat.reduceAdd];refine⟨gl hS _,CJ.step (vs:=()) Y λ_ cP=>?_⟩;replace hF:=hF.rely hS cP;clear cP;refine goes_oper_k Y Y dq<|λKx dJ=>?_;go_simp;refine dJ _ _ ⟨?_,?_⟩
 .refine rF hS ?_;co_evs (skip)
 clear dJ Kx;try walk_nrm
 refine CJ.step (vs:=()) Y λ_ cP=>?_;replace hF:=hF.rely hS cP;clear cP;refine goes_oper_k Y Y dq<|λKx dJ=>?_;have bo:∀w es,(binOp .neq 20 .nilIface .nilIface).events prog w es=es:=λw es=>by rw[show binOp .neq 20 Value.nilIface Value.nilIface=(do pure (.bool<|!(<-Op.equal 20 .nilIface .nilIface))) from Y,show Op.equal 20 Value.nilIface Value.nilIface=Op.equalIn (9999+1) 20 .nilIface .nilIface from Y,Op.equalIn];simp[runUnderlying20,go_sem,underlying,underlying20]
 go_simp;refine dJ _ _ ⟨?_,?_⟩
 .refine rF hS ?_;co_evs (skip)
 clear dJ Kx;try walk_nrm
 refine CJ.step (vs:=()) Y λ_ cP=>?_;replace hF:=hF.rely hS cP;clear cP;rw[stepG_region_end];simp only[goes_go];refine⟨gl hS _,CJ.step (vs:=()) Y λ_ cP=>?_⟩;replace hF:=hF.rely hS cP;clear cP;rw[stepG_cond (t:=false) Y];simp only[goes_go,if_true,if_false,j6,↓reduceIte];refine⟨gl hS _,CJ.step (vs:=()) Y λ_ cP=>?_⟩;replace hF:=hF.rely hS cP;clear cP;rw[stepG_skip];simp only[goes_go];refine⟨gl hS _,CJ.step (vs:=()) Y λ_ cP=>?_⟩;replace hF:=hF.rely hS cP;clear cP;rw[stepG_region];simp only[goes_go,iB,Nat.reduceAdd];refine⟨gl hS _,CJ.step (vs:=()) Y λ_ cP=>?_⟩;replace hF:=hF.rely hS cP;clear cP;refine goes_oper_k Y Y dq<|λKx dJ=>?_;have hc:=cell1 hF.wb;go_simp;refine dJ _ _ ⟨?_,?_⟩
 .refine rF hS ?_;co_evs (exact ti<|i3<|.inl Y)
 clear dJ Kx;try walk_nrm
 clear hc;refine CJ.step (vs:=()) Y λ_ cP=>?_;replace hF:=hF.rely hS cP;clear cP;refine goes_call Y Y dq Y w0.f_done (ConcR.Gen.nm_done link) Y ⟨gl hS _,?_⟩;walk_nrmf Conc.Lib.doneFn;have hD:=λ{b₀:Frame} {a₀:Act} {ops₀:Array Oper} {i₀:Nat} {rest₀:List Nat} {k₀:List Item} {cs:List Frame} {qt:Nat} hT w hK=>@VU _ link prog w0 (RQ (aH prog N Pb Shun val B Mz) S) (YY<|aH prog N Pb Shun val B Mz) (N+6) N 1 0 1 val b₀ a₀ ops₀ i₀ rest₀ k₀ cs qt hT w hK;simp only[ConcR.Gen.body_done,Conc.Lib.doneFn,Option.getD_some] at hD;refine Way.uf (λ_ _ h=>RJ.rw (K:=(aH prog N Pb Shun val B Mz)) hS h) (λ_ _ _ h=>h) (λ_ _ h=>h)<|dd<|hD (qt:=5) (QuitsD.ctl Y (λ_=>stepG_region_end)<|QuitsD.ctl Y (λ_=>stepG_end)<|QuitsD.leaveD Y Y func201 Y Y (QuitsD.ctl (g':=G (bot prog) []) Y (λw=>?_) ?_)) _ ⟨hF.live,by have⟨_,hp⟩:=hF.pc;simp[ConcN.Has,World.cell?,hp]⟩
 .simp[G,stepG,unwind,doReturn,results,Frame.at,baseD,bot,func200,f200,seen,GStep.after,goexitEntry]
 refine QuitsD.ctl (g':={ G (bot prog) [] with status:=.finished }) Y (λw=>?_) ⟨Y,Y⟩;simp[G,stepG,unwind,bot,goexitEntry,Frame.catches];rfl
end
def ll(N:Nat):Deferred:={ target:=.fn (.func 200) #[.pointer (some ⟨N+7,0,none⟩),.pointer<|some ⟨N+8,0,none⟩],args:=#[] }
section
variable {w aL:World}
variable [ConcR.Payload][ConcX.Payload]
theorem Oz(U:HE N val w)(tm:Aq):AtClose (aH prog N Pb Shun val B Mz) (G { (base 112).at ⟨tm,[vI N]⟩ [] with mode:=.returning } [OX f200.body N,(bot prog)]) w:=by
 refine⟨Y,U.size,Y,G { (base 112).at ⟨tm,[]⟩ [] with mode:=.returning } [OX f200.body N,(bot prog)],rfl,λh=>?_,λb a c=>?_⟩
 .exact qY Y h kq
 .exact VS (.inl Y) ⟨U.pc.imp λ_ z=>(a _<|.inl<|.inl Y).trans z,(a _<|i3<|.inr<|.inl Y).trans U.wb,c⟩ tm
theorem HE.rely{i:Ix}(h:HE N val w)(r:sY (aH prog N Pb Shun val B Mz) i w aL):HE N val aL:=⟨h.pc.imp λ_ z=>(r.rc _<|.inl<|.inl Y).trans z,(r.rc _<|i3<|.inr<|.inl Y).trans h.wb,h.bf.imp λ_ z=>(r.rc _<|i3<|.inr<|.inr<|.inl Y).trans z⟩
theorem HO(N:Nat)(w:World):stepG prog false (born prog<|ll N) w =
  .go (G ((baseD 200).at ⟨#[.pointer (sq<|N+7),.pointer<|sq<|N+8,undef,undef,undef],[]⟩ [.code (f200.body.getD .skip)]) [(bot prog)]) w #[]:=by simp[born,ll,stepG,unwind,callDeferred,invoke,callFunc,f200,seen,GStep.after,G,Frame.enter,Frame.at,baseD,bot]
theorem xp{b:Frame}{K:Goroutine->World->Array Event->Prop}{x:Operand}{aY:Func}{c:Code}{first cap:Array Value}{args:Array Operand}{ats:Array TypeId}
 (ho:ops[i]?=some o)(hw:Region.wanted o (yielded ops a.tmps)=true)(hk:b.kind≠.early)(lx:o.op=.call { callee:=.value x,args,argTypes:=ats })(hx:a.eval x=.func (.func f) first cap)
 (hf:P.funcs[f]?=some aY)(mR:(aY.name == "runtime.NumGoroutine")=false)(hb:aY.body=some c)
 (h:K (G ((base f).at { tmps:=(first++args.map a.eval++cap)++Array.replicate (aY.ntmps-(first++args.map a.eval++cap).size) undef,defers:=[] } [.code c]) (b.at a (.inRegion ops (i::rest)::k)::cs)) w #[]) :
  (stepG P main (G (b.at a (.inRegion ops (i::rest)::k)) cs) w).goes K:=by have⟨hr,he⟩:=kY (w:=w) lx hx hf mR (by rw[hb]; rfl);rw[stepG_enter ho hw hk hr,enter_at _ hf hb];have hl:listed P b.fn a o w=#[]:=listed_nil he;rw[hl];exact h
theorem lX(w:World):DK (aH prog N Pb Shun val B Mz) w w #[]:=kR iq
theorem Rm{ls:Vq}(g:HB N (.func (.func f) #[] cap) w)
 (h:∀j,RC (aH prog N Pb Shun val B Mz) w j->iH prog (XK<|aH prog N Pb Shun val B Mz) f (#[iG N]++cap) (true,ls) j (λr _ t=>r.2=[]/\HE N val t)):XK (aH prog N Pb Shun val B Mz) (true,ls) (born prog<|ll N) w:=by
 have C:=cK N Pb Shun val B Mz;have u:∀w m,(Instr.makeFunc (Fn.func 201) #[] #[Value.pointer (sq<|N+7)]).events prog w m=m:=λw m=>by simp[Instr.makeFunc]
 refine C.step Y λ_ U=>?_;replace g:=g.rely U;replace h:=λc b=>h c<|dY U.rc b;clear U;rw[HO];simp only[goes_go];refine⟨lX _,?_⟩;simp only[f200,Option.getD_some];refine C.step Y λ_ U=>?_;replace g:=g.rely U;replace h:=λc b=>h c<|dY U.rc b;clear U;rw[stepG_seq];simp only[goes_go];refine⟨lX _,C.step Y λ_ U=>?_⟩;replace g:=g.rely U;replace h:=λc b=>h c<|dY U.rc b;clear U;rw[stepG_region];refine⟨lX _,C.step Y λ_ U=>?_⟩;replace g:=g.rely U;replace h:=λc b=>h c<|dY U.rc b;clear U;refine goes_oper_k Y Y dq<|λl i=>?_;go_simp;refine i _ _ ⟨?_,?_⟩
 .refine kR ?_;co_evs (skip)
 clear i l;try walk_nrm
 refine C.step Y λ_ U=>?_;replace g:=g.rely U;replace h:=λc b=>h c<|dY U.rc b;clear U;rw[sF (d:=Zc N) Y rq dq (by simp[execOp,go_sem,resolve,Deferred.ofValue,Zc,Act.eval]) (by simp[execOp,go_sem,resolve,Deferred.ofValue,Act.eval])];simp only[goes_go];refine⟨lX _,?_⟩;try walk_nrm
 refine C.step Y λ_ U=>?_;replace g:=g.rely U;replace h:=λc b=>h c<|dY U.rc b;clear U;rw[stepG_region_end];simp only[goes_go];refine⟨lX _,C.step Y λ_ U=>?_⟩;replace g:=g.rely U;replace h:=λc b=>h c<|dY U.rc b;clear U;rw[stepG_region];refine⟨lX _,C.step Y λ_ U=>?_⟩;replace g:=g.rely U;replace h:=λc b=>h c<|dY U.rc b;clear U;refine goes_oper_k Y Y dq<|λl i=>?_;have q:=cell1 g.fb;go_simp;refine i _ _ ⟨?_,?_⟩
 .refine kR ?_;co_evs (exact pQ<|i3<|.inr<|.inl Y)
 clear i l;try walk_nrm
 clear q;refine C.step Y λ_ U=>?_;replace g:=g.rely U;replace h:=λc b=>h c<|dY U.rc b;clear U;refine xp Y Y dq Y Y func112 rq Y ⟨lX _,?_⟩;simp;have⟨n,k,p⟩:=Ud g h;obtain rfl:=IZ k;refine p (base 112) [] _ Y dq ?_;rintro⟨fr,vs⟩ e a w ⟨rfl,hvs,hd,g⟩;obtain rfl:vs=[]:=hvs;show XK _ _ _ _;refine C.step Y λ_ U=>?_;replace g:=g.rely U;clear U;rw[stepG_end];simp only[goes_go];refine⟨lX _,Way.stop λj U=>?_⟩;replace g:=HE.rely g U;have⟨s,o⟩:=a;obtain rfl:o=[vI N]:=hd;exact Oz g s
end
abbrev XA(Wg C:Nat):ConcX.Shy Wg C where
 ok:=λact=>∀x,act.touch?=some x->∀ad:Addr,x.loc=.cell ad->ad.block=Wg\/ad.block=C
 atomicWg:=λa wr h x hx ad e=>by simp only[MemAct.touch?,Option.some.injEq] at hx; subst hx; cases e; exact .inl h
 readWg:=λa h x hx ad e=>by simp only[MemAct.touch?,Option.some.injEq] at hx; subst hx; cases e; exact .inl h
 writeWg:=λa h x hx ad e=>by simp only[MemAct.touch?,Option.some.injEq] at hx; subst hx; cases e; exact .inl h
 theirs:=λa wr h x hx ad e=>by simp only[MemAct.touch?,Option.some.injEq] at hx; subst hx; cases e; exact .inr h
 disable:=λx hx=>(by cases hx)
 enable:=λx hx=>(by cases hx)
 relMerge:=λx hx=>(by cases hx)
 acquire:=λx hx=>(by cases hx)
 go1:=λx hx=>(by cases hx)
 start:=λx hx=>(by cases hx)
 stop:=λ_ _=>True
theorem Vx{Post:Value->World->Prop}{S:Nat->Prop}{Wg C:Nat}{b₀:Frame}{a₀:Act}{ops₀:Array Oper}{i₀:Nat}{rest₀:List Nat}{k₀:List Item}{cs:List Frame}{w:World}(h1:¬S Wg)(h2:¬S C)(m:w.heap[Wg]?=some (.cells #[.int .u64 0,.int .u32 0] 169))
 (l:ZI prog Post 0 S (G (b₀.at (a₀.put ((ops₀[i₀]?).bind (·.dst))<|.tuple #[]) (.inRegion ops₀ rest₀::k₀)) cs) (w.setCell ⟨Wg,0,none⟩<|.int .u64 4294967296)) :
  ZI prog Post 0 S (G ((base 199).at ⟨#[.pointer (sq Wg),.int .i64 1,undef,undef,undef,undef,undef,undef,undef,undef,undef,undef,undef,undef,undef,undef,undef,undef,undef,undef,undef,undef,undef,undef,undef,undef,undef,undef,undef,undef,undef,undef,undef,undef,undef,undef,undef,undef,undef,undef,undef,undef,undef,undef,undef,undef,undef,undef,undef,undef,undef,undef,undef,undef,undef,undef,undef,undef,undef,undef,undef,undef,undef,undef,undef,undef,undef,undef,undef,undef,undef,undef,undef,undef,undef,undef,undef,undef,undef,undef,undef,undef,undef,undef,undef,undef,undef,undef,undef,undef,undef,undef,undef,undef,undef,undef,undef,undef,undef,undef,undef,undef,undef,undef,undef,undef,undef,undef,undef,undef,undef,undef,undef,undef,undef,undef,undef],[]⟩ [.code (ConcX.Gen.body_add link)]) (b₀.at a₀ (.inRegion ops₀ (i₀::rest₀)::k₀)::cs)) w:=by
 have b:∀e,@ConcX.EvS Wg C (XA Wg C) e->EvS S e:=by
  intro e U;refine⟨λx o i k d=>?_,λh=>?_,λh=>?_⟩
  .rcases U.2.2.2.2.2 x o i k with z|z
   .exact h1<|z▸d
   .exact h2<|z▸d
  .exact U.2.2.2.1<|ConcX.ofEvent_loc_mark h
  .exact U.2.2.2.2.1<|ConcX.ofEvent_loc_mark h
 refine ZI.goes b (λg w h=>uH Y Y (λg w a=>?_) h)<|@ConcX.Gen.addPos link Wg C (XA Wg C) b₀ a₀ ops₀ i₀ rest₀ k₀ cs _ 0 prog w0 w m (λf c=>ZI.closed.rely l c);have⟨n,a⟩:=a;refine ZI.goes b (λg w h=>uH Y Y (λg w a=>?_) h) a;have⟨n,a⟩:=a;exact ZI.goes b (λg w h=>h w<|atRel_refl w) a
def xX(b:Option Code):Code:=match b with|some (.seq _<|.seq _<|.seq _<|.seq _ c)=>c|_=>.skip
def gI (b:Option Code)(n:Nat):Array Oper:=match xX b with|.seq (.region _ o4 _) (.seq (.region _ o5 _)<|.seq (.region _ o6 _)<|.seq (.region _ o7 _)<|.region _ o8 _)=>if n=4 then o4 else if n=5 then o5 else if n=6 then o6 else if n=7 then o7 else o8|_=>#[]
section
variable {w aL:World}
variable [ConcR.Payload][ConcX.Payload]
variable [ConcX.Shy (Cfg.Wg<|aH prog N Pb Shun val B Mz) (Cfg.C<|aH prog N Pb Shun val B Mz)]
theorem HI{K:Cfg}[ConcX.Shy K.Wg K.C]{L:Nat}{A U:Gq}{Post:Value->World->Prop}(h:∀g w,A g w->U g w)(g:Goroutine)(w:World):oB K L A Post g w->oB K L U Post g w:=λ⟨h1,d,h2,h3,e⟩ =>⟨h1,d,h2,λz=>(h3 z).imp λ_ q=>ConcN.goes_mono (λ_ _ ⟨a,b,c⟩=>⟨a,b,λz=>(c z).imp λ_ q=>⟨q.1,q.2.imp λ_ q=>ConcN.goes_mono h q⟩⟩) q,e⟩
def Bo(K:Cfg)[ConcX.Payload][ConcX.Shy K.Wg K.C](F:World->Prop)(b:Frame)(k:List Item)(cs:List Frame)(g:Goroutine)(w:World):Prop :=
 ∃a:Act,a.defers=[]/\ConcX.Gen.AnchW7 link F K.Wg K.C [K.val] (b.at a (.inRegion (gI f61.body 8) [0]::k)) cs g w
theorem UO(e:∀w c,ConcX.Aside2 N (N+6) w c->F w->F c){b:Frame}(q:b.kind≠.early)(p:a.defers=[])(o:a.eval (.tmp 6)=.pointer (sq<|N+6))(f:F w)(m:DN (aH prog N Pb Shun val B Mz) w) :
  XM (aH prog N Pb Shun val B Mz) (Bo (aH prog N Pb Shun val B Mz) F b k cs) (.join L) (G (b.at a (.code (.region 8 (gI f61.body 8) false)::k)) cs) w:=by
 have C:cC prog true _ _ (XM _<|Bo (aH prog N Pb Shun val B Mz) F b k cs):=XM.closed (K:=(aH prog N Pb Shun val B Mz));have T:=tU (K:=(aH prog N Pb Shun val B Mz));have j:∀{w c},re (aH prog N Pb Shun val B Mz) (.join L) w c->F w/\DN _ w->F c/\DN _ c:=λ{w c} r h=>by have n:=r;exact⟨e _ _ n.aside h.1,n.ka h.2⟩
 have U:F w/\DN _ w:=⟨f,m⟩;clear f m;refine C.step Y λ_ d=>?_;replace U:=j d U;clear d;rw[stepG_region];simp only[goes_go];refine⟨(T<|.join L).idle _,?_⟩;have s:List.range (gI f61.body 8).size=[0]:=rq
 rw[s];refine C.step Y λc d=>?_;replace U:=j d U;clear d;refine goes_call (b:=b) (a:=a) (i:=0) Y Y q Y w0.f_wait (ConcX.Gen.nm_wait link) Y ⟨(T<|.join L).idle _,?_⟩;have l:=ConcX.Gen.waitStart (L:=link) (P:=prog) (Wg:=Cfg.Wg<|aH prog N Pb Shun val B Mz) (C:=Cfg.C<|aH prog N Pb Shun val B Mz) (Low:=L) (Mine:=Mz) (F:=F) (b₀:=b) (a₀:=a) (ops₀:=gI f61.body 8) (i₀:=0) (rest₀:=[]) (k₀:=k) (cs:=cs) w0 (λ_ _ r h=>e _ _ r h) c U;have t:(#[Operand.tmp 6].map a.eval)=#[Value.pointer (sq<|N+6)]:=by simp[o]
 rw[t];walk_nrmf Conc.Lib.waitFn;exact Way.uf (λ_ _ h=>h) (λ_ _ _ h=>h) (λg w h=>(λ⟨h1,u,h2,m,h3⟩=>⟨h1,u,h2,m,ConcN.goes_mono (λ_ _ h=>⟨a,p,h⟩) h3⟩) h)<|dd l
end
def t47 (N:Nat)(nv nx YL:Value):Aq:=#[nv,nx,.pointer<|some ⟨N+1,0,none⟩,undef,.pointer<|some ⟨N+3,0,none⟩,.pointer<|some ⟨N+5,0,none⟩,.pointer<|some ⟨N+6,0,none⟩,undef,.chan<|some<|N+2,.chan<|some<|N+4,gN N,YL,undef,undef,undef,undef,undef,undef,undef,undef,undef,undef]
def Xj (b:Option Code):Array Oper:=match b with|some (.seq _<|.seq _<|.region _ o _)=>o|_=>#[]
abbrev pf:Value:=.slice none 0 0
variable {Ex:Nat->Prop}{w₀:World}{Az:Gq}{u:Value}{tk:Iq}{en:Bool}{Rb:Nat}
section
variable {w aL:World}{v:Value}{rest:Iq}
structure HG(N:Nat)(A:World->Prop)(w:World):Prop where
 lv:w.heap[N+3]?=some (.cells #[.chan (some<|N+2)] 158)
 ev:w.heap[N+5]?=some (.cells #[.chan (some<|N+4)] 159)
 size:N+9<=w.heap.size
 a:A w
theorem HG.rm(hA:∀w aL,RM (aH prog N Pb Shun val B Mz) w aL->A w->A aL)(h:HG N A w)(r:RM (aH prog N Pb Shun val B Mz) w aL):HG N A aL:=by
 have hs:=h.size;have hb:∀b,b=N+3\/b=N+5->aL.heap[b]?=w.heap[b]?:=λb hb=>r.block b oq (λz=>by
  rcases z with z|⟨z,_⟩
  .have z':b=N:=z;omega
  .have z':N+9<=b:=z;omega) (by show ¬(b=N+2\/b=N+4\/b=N+6);omega);exact⟨(hb _<|.inl Y).trans h.lv,(hb _<|.inr Y).trans h.ev,lT hs r.size,hA _ _ r h.a⟩
theorem ym(F:K.Fit){o:Nat}(U:K.Still b)(f:K.N0<=w.heap.size):X7 K w ⟨.cell ⟨b,o,none⟩,false,false⟩:=by
 refine⟨λx g=>?_,iq,iq,by simp[MemAct.ofEvent]⟩;have c:x=⟨.cell ⟨b,o,none⟩,false,.plain⟩:=by simpa[MemAct.ofEvent,MemAct.touch?] using g.symm
 subst c;refine⟨⟨?_,λ_=>Y,λh=>absurd h<|F.sh ⟨b,o,none⟩ U⟩,λd e=>?_,λd e=>?_⟩
 .rintro(⟨a,e,h⟩|e|⟨a,e,h⟩)
  .cases e;exact F.ks w _ h U
  .cases e
  .cases e
 .cases e;exact lL (F.s0 b U) f
 .cases e
theorem F6(h:∀e∈es,X7 K w e):DM K w w es:=⟨λ_ _=>Y,λ_ h=>h,lr,h⟩
theorem AL[ConcX.Payload]{i:Ph}(hi:i.early)(h:re K i w aL):RM K w aL:=by
 cases i using Ph.cF with
 | join=>exact hi.elim
 | _=>exact h
def gZ(N:Nat):Aq:=#[.chan (some<|N+2),.chan<|some<|N+4,pf,.bool false]
theorem HW.start(F:Cfg.Fit (aH prog N Pb Shun val B Mz))(U:N+9<=w.heap.size):HW (aH prog N Pb Shun val B Mz) (sS w.heap.size pf) (w.alloc<|.cells (gZ N) 175) w.heap.size pf pf [] false (w.alloc<|.cells (gZ N) 175):=by have o:Own dt (dy<|aH prog N Pb Shun val B Mz) w (w.alloc<|.cells (gZ N) 175):=ec (by simp[dt]);exact⟨heap_alloc_new w _,(BV F).new U o lr<|by simp_all,.inl<|.inl Y,oE.none _ _ _ _ _,by simp;show N+9<=_;omega,Kept.refl _⟩
variable [ConcR.Payload][ConcX.Payload]
variable [ConcX.Shy (Cfg.Wg<|aH prog N Pb Shun val B Mz) (Cfg.C<|aH prog N Pb Shun val B Mz)]
theorem TH{A F:World->Prop}{I:Nat->World->Prop}{b:Frame}{k:List Item}{cs:List Frame}{tm:Aq}{f:FuncId}{cap:Aq}{H:Value}(x:Cfg.Fit (aH prog N Pb Shun val B Mz))(hb:b.fn=61)(hk:b.kind≠.early)(l:Iq)(hn:l.length<=1000000)
 (Z:∀w g,RM (aH prog N Pb Shun val B Mz) w g->A w->A g)(aa:∀w cs,A w->A (w.alloc<|.cells cs 175))
 (a7:∀u d w,N<=d->A w->HW (aH prog N Pb Shun val B Mz) (sS d pf) w d pf pf [] false w->fx prog (XM (aH prog N Pb Shun val B Mz) u) f (#[.pointer (sq d)]++cap) (.front<|V l) w (λi' _ W=>∃D j v' S s R,S++s=l/\JD s R i'/\HW (aH prog N Pb Shun val B Mz) D j d v' v' S R W/\(∀b,sS d v' b->N<=b)/\I d W))
 (a5:∀d w g,RM (aH prog N Pb Shun val B Mz) w g->I d w->I d g)(af:∀d D j v M J w W,HW (aH prog N Pb Shun val B Mz) D j d v v M J w->(∀b,sS d v b->N<=b)->Kept (dy<|aH prog N Pb Shun val B Mz) (jx<|aH prog N Pb Shun val B Mz) (sS d v) w W->I d w->I d W)(ag:∀d w,I d w->F w)(ae:∀w g,ConcX.Aside2 N (N+6) w g->F w->F g)(U:HG N A w) :
  XM (aH prog N Pb Shun val B Mz) (Bo (aH prog N Pb Shun val B Mz) F b k cs) (.front<|V l) (G ((base 111).at ⟨tm,[]⟩ [.inRegion (Xj f111.body) []]) (b.at ⟨t47 N H (.func (.func f) #[] cap) undef,[]⟩ (.inRegion (gI f61.body 4) [1]::.code (.seq (.region 5 (gI f61.body 5) false)<|.seq (.region 6 (gI f61.body 6) false)<|.seq (.region 7 (gI f61.body 7) false)<|.region 8 (gI f61.body 8) false)::k)::cs)) w:=by
 generalize ab:Bo (aH prog N Pb Shun val B Mz) F b k cs=u;have C:cC prog true (re<|aH prog N Pb Shun val B Mz) (xE<|aH prog N Pb Shun val B Mz) (XM (aH prog N Pb Shun val B Mz) u):=XM.closed (K:=(aH prog N Pb Shun val B Mz));have T:=tU (K:=(aH prog N Pb Shun val B Mz));have E:Env dt (N+9) (dy<|aH prog N Pb Shun val B Mz) (jx<|aH prog N Pb Shun val B Mz) (re (aH prog N Pb Shun val B Mz)<|.front<|V l) (xE (aH prog N Pb Shun val B Mz)<|.front<|V l):=BX (K:=(aH prog N Pb Shun val B Mz)) x trivial;have z:∀{w g},HG N A w->re (aH prog N Pb Shun val B Mz) (.front<|V l) w g->HG N A g:=λh r=>HG.rm Z h r;refine C.step rfl λ_ c=>?_;replace U:=z U c;clear c;rw[stepG_region_end];simp only[goes_go];refine⟨(T<|.front<|V l).idle _,C.step rfl λ_ c=>?_⟩;replace U:=z U c;clear c;rw[stepG_end];simp only[goes_go];refine⟨(T<|.front<|V l).idle _,C.step rfl λ_ c=>?_⟩;replace U:=z U c;clear c;rw[stepG_leave (b:=base 111) rfl rfl func111 (results_none rfl _ _ _) (events_results_none rfl _ _)];simp only[goes_go];refine⟨(T<|.front<|V l).idle _,?_⟩;rw[Frame.finish_at];have lx:((gI f61.body 4)[1]?).bind (·.dst)=some 11:=rq
 rw[lx];have ht:(⟨t47 N H (.func (.func f) #[] cap) undef,[]⟩:Act).put (some 11) (.tuple #[])=⟨t47 N H (.func (.func f) #[] cap)<|.tuple #[],[]⟩:=rq
 rw[ht];refine C.step rfl λ_ c=>?_;replace U:=z U c;clear c;rw[stepG_region_end];simp only[goes_go];refine⟨(T<|.front<|V l).idle _,C.step rfl λ_ c=>?_⟩;replace U:=z U c;clear c;rw[stepG_seq];simp only[goes_go];refine⟨(T<|.front<|V l).idle _,?_⟩;have Y:∀w,HG N A w->il (XM (aH prog N Pb Shun val B Mz) u) 61 (.region 5 (gI f61.body 5) false) (.front<|V l) (λi e a w=>e=.normal/\i=.front (V l)/\∃d,a=⟨#[H,.func (.func f) #[] cap,.pointer<|sq<|N+1,undef,.pointer<|sq<|N+3,.pointer<|sq<|N+5,.pointer<|sq<|N+6,.pointer<|sq d,.chan<|some<|N+2,.chan<|some<|N+4,gN N,.tuple #[],.chan<|some<|N+2,.chan<|some<|N+4,.agg<|gZ N,.pointer<|sq d,undef,undef,undef,undef,undef,undef],[]⟩/\N<=d/\A w/\HW (aH prog N Pb Shun val B Mz) (sS d pf) w d pf pf [] false w) ⟨t47 N H (.func (.func f) #[] cap)<|.tuple #[],[]⟩ w:=by
  have bd:=λw=>run_build (P:=prog) w 175 #[(0,.chan<|some<|N+2),(1,.chan<|some<|N+4)] (gZ N) kq;have be:=λw es=>kQ (P:=prog) w 175 #[(0,.chan<|some<|N+2),(1,.chan<|some<|N+4)] (gZ N) kq es;have bx:=λw t v=>FO prog w t v;have bxe:=λw t v es=>vz prog w t v es;intro w U;simp only[gI,xX,f61,t47];refine aW C T ?_;simp only[Nat.reduceEqDiff,reduceIte,iB,Nat.reduceAdd,bI];refine aM C rfl rq λ_ p q n=>?_;replace U:=z U p;clear p;have hc:=cell1 U.lv;go_simp;try (unfold stored;go_simp)
  refine n _ _ ⟨?_,?_⟩
  .refine F6 ?_;co_evs (exact ym (K:=(aH prog N Pb Shun val B Mz)) x (.inr<|.inl rfl) U.size)
  clear n q;try walk_nrm
  clear hc;refine aM C rfl rq λ_ p q n=>?_;replace U:=z U p;clear p;have hc:=cell1 U.ev;go_simp;try (unfold stored;go_simp)
  refine n _ _ ⟨?_,?_⟩
  .refine F6 ?_;co_evs (exact ym (K:=(aH prog N Pb Shun val B Mz)) x (.inr<|.inr<|.inl rfl) U.size)
  clear n q;try walk_nrm
  clear hc;refine aM C rfl rq λ_ p q n=>?_;replace U:=z U p;clear p;go_simp;try (unfold stored;go_simp)
  refine n _ _ ⟨?_,?_⟩
  .co_still (T _)
  clear n q;try walk_nrm
  refine aM C rfl rq λ_ p q n=>?_;replace U:=z U p;clear p;go_simp;try (unfold stored;go_simp)
  refine n _ _ ⟨?_,?_⟩
  .refine zW E U.size (ec<|by simp[dt]) ?_;co_evs (skip)
  clear n q;try walk_nrm
  have m:=HW.start (w:=_) x U.size;have a8:=lT (Nat.le_add_right N 9) U.size;replace U:=aa _ (gZ N) U.a;refine aM C rfl rq λ_ p q n=>?_;replace U:=Z _ _ (show RM (aH prog N Pb Shun val B Mz) _ _ from p) U;replace m:=(jY (i:=.over) x m<|show RM (aH prog N Pb Shun val B Mz) _ _ from p).lG;clear p;go_simp;refine n _ _ ⟨?_,?_⟩
  .co_quiet (T _)
  clear n q;try walk_nrm
  refine bv C T ?_;grind
 refine Y _ U b (.code (.seq (.region 6 (gI f61.body 6) false)<|.seq (.region 7 (gI f61.body 7) false)<|.region 8 (gI f61.body 8) false)::k) cs hb hk ?_;clear U Y;rintro i e a w ⟨rfl,rfl,d,rfl,a8,U,m⟩;show XM (aH prog N Pb Shun val B Mz) u (.front<|V l) _ _;refine C.step rfl λ_ c=>?_;replace U:=Z _ _ (show RM (aH prog N Pb Shun val B Mz) _ _ from c) U;replace m:=(jY (i:=.over) x m<|show RM (aH prog N Pb Shun val B Mz) _ _ from c).lG;clear c;rw[stepG_seq];simp only[goes_go];refine⟨(T<|.front<|V l).idle _,?_⟩;have h6:∀w,A w->HW (aH prog N Pb Shun val B Mz) (sS d pf) w d pf pf [] false w->il (XM (aH prog N Pb Shun val B Mz) u) 61 (.region 6 (gI f61.body 6) false) (.front<|V l) (λi e a w=>e=.normal/\∃Q D j v M o J,a=⟨#[H,.func (.func f) #[] cap,.pointer<|sq<|N+1,undef,.pointer<|sq<|N+3,.pointer<|sq<|N+5,.pointer<|sq<|N+6,.pointer<|sq d,.chan<|some<|N+2,.chan<|some<|N+4,gN N,.tuple #[],.chan<|some<|N+2,.chan<|some<|N+4,.agg<|gZ N,.pointer<|sq d,.func (.func f) #[] cap,.pointer<|sq d,Q,undef,undef,undef],[]⟩/\M++o=l/\JD o J i/\HW (aH prog N Pb Shun val B Mz) D j d v v M J w/\(∀b,sS d v b->N<=b)/\I d w) ⟨#[H,.func (.func f) #[] cap,.pointer<|sq<|N+1,undef,.pointer<|sq<|N+3,.pointer<|sq<|N+5,.pointer<|sq<|N+6,.pointer<|sq d,.chan<|some<|N+2,.chan<|some<|N+4,gN N,.tuple #[],.chan<|some<|N+2,.chan<|some<|N+4,.agg<|gZ N,.pointer<|sq d,undef,undef,undef,undef,undef,undef],[]⟩ w:=by
  intro w U m;simp only[gI,xX,f61];refine aW C T ?_;simp only[Nat.reduceEqDiff,reduceIte,iB,Nat.reduceAdd,bI];iterate 2
   refine aM C rfl rq λ_ c q n=>?_
   replace U:=Z _ _ (show RM (aH prog N Pb Shun val B Mz) _ _ from c) U
   replace m:=(jY (i:=.over) x m<|show RM (aH prog N Pb Shun val B Mz) _ _ from c).lG
   clear c
   go_simp
   try (unfold stored;go_simp)
   refine n _ _ ⟨?_,?_⟩
   .co_quiet (T _)
   clear n q;try walk_nrm
  refine jS (f:=f) (first:=#[]) (cap:=cap) (zd:=.front<|V l) C T rfl rq rfl rfl (by simp[Act.eval]) rfl (a7 u d _ a8 U m) ?_;rintro i Q w ⟨D,j,v,M,o,J,h1,h2,h3,Y,h4⟩;exact bv C T ⟨rfl,Q,D,j,v,M,o,J,rfl,h1,h2,h3,Y,h4⟩
 refine h6 _ U m b (.code (.seq (.region 7 (gI f61.body 7) false)<|.region 8 (gI f61.body 8) false)::k) cs hb hk ?_;clear U m h6 E z;rintro i e a w ⟨rfl,Q,D,j,v,M,o,J,rfl,a9,O,m,ah,y⟩;show XM (aH prog N Pb Shun val B Mz) u i _ _;refine C.step rfl λ_ c=>?_;replace y:=a5 _ _ _ (AL O.early c) y;replace m:=jY (i:=.over) x m<|AL O.early c;clear c;rw[stepG_seq];simp only[goes_go];refine⟨(T i).idle _,?_⟩;have h7:∀w,HW (aH prog N Pb Shun val B Mz) D j d v v M J w->I d w->il (XM (aH prog N Pb Shun val B Mz) u) 61 (.region 7 (gI f61.body 7) false) i (λi e a w=>e=.normal/\i=.over/\∃X,a=⟨#[H,.func (.func f) #[] cap,.pointer<|sq<|N+1,undef,.pointer<|sq<|N+3,.pointer<|sq<|N+5,.pointer<|sq<|N+6,.pointer<|sq d,.chan<|some<|N+2,.chan<|some<|N+4,gN N,.tuple #[],.chan<|some<|N+2,.chan<|some<|N+4,.agg<|gZ N,.pointer<|sq d,.func (.func f) #[] cap,.pointer<|sq d,Q,.pointer<|sq d,X,undef],[]⟩/\I d w) ⟨#[H,.func (.func f) #[] cap,.pointer<|sq<|N+1,undef,.pointer<|sq<|N+3,.pointer<|sq<|N+5,.pointer<|sq<|N+6,.pointer<|sq d,.chan<|some<|N+2,.chan<|some<|N+4,gN N,.tuple #[],.chan<|some<|N+2,.chan<|some<|N+4,.agg<|gZ N,.pointer<|sq d,.func (.func f) #[] cap,.pointer<|sq d,Q,undef,undef,undef],[]⟩ w:=by
  intro w m y;simp only[gI,xX,f61];refine aW C T ?_;simp only[Nat.reduceEqDiff,reduceIte,iB,Nat.reduceAdd,bI];refine aM C rfl rq λ_ c q n=>?_;replace y:=a5 _ _ _ (AL O.early c) y;replace m:=jY (i:=.over) x m<|AL O.early c;clear c;go_simp;try (unfold stored;go_simp)
  refine n _ _ ⟨?_,?_⟩
  .co_quiet (T _)
  clear n q;try walk_nrm
  refine jS C T rfl rq rfl rfl (by simp[Act.eval]) rfl (OL x l a9 hn m.lG O) ?_;rintro _ X w ⟨rfl,v2,hD⟩;exact bv C T ⟨rfl,rfl,X,rfl,af _ _ _ _ _ _ _ _ m ah hD.old y⟩
 refine h7 _ m y b (.code (.region 8 (gI f61.body 8) false)::k) cs hb hk ?_;clear m y h7 O;rintro i e a w ⟨rfl,rfl,X,rfl,y⟩;show XM (aH prog N Pb Shun val B Mz) u .over _ _;subst ab;exact XM.Lv rfl λg c hka L hL=>(UO ae hk rfl rfl (ag _ _<|a5 _ _ _ c y) hka)
end
structure He(w₀:World)(tJ:List Obj)(w:World):Prop where
 tape:w.tape=w₀.tape
 os:w.os=w₀.os
 output:w.output=w₀.output
 old:∀b,b<w₀.heap.size->w.heap[b]?=w₀.heap[b]?
 size:w.heap.size=w₀.heap.size+tJ.length
 blocks:∀j o,tJ[j]?=some o->w.heap[w₀.heap.size+j]?=some o
variable {Post:Value->World->Prop}
section
variable {w aL:World}{tJ:List Obj}
theorem He.rely(h:He w₀ tJ w)(r:AtRel w aL):He w₀ tJ aL:=by obtain⟨e,rfl⟩:=r;exact⟨h.tape,h.os,h.output,h.old,h.size,h.blocks⟩
def gd:=@He.rely
theorem He.alloc(h:He w₀ tJ w)(o:Obj):He w₀ (tJ++[o]) (w.alloc o):=by
 have d:=h.size;refine⟨h.tape,h.os,h.output,λb c=>(Below.heap_alloc _ _ _ oq).trans<|h.old b c,by simp;omega,λj x a=>?_⟩;rcases Nat.lt_or_ge j tJ.length with h1|h1
 .rw[UY h1] at a;exact(Below.heap_alloc _ _ _ oq).trans (h.blocks j x a)
 .rw[Vw h1] at a;obtain⟨e,rfl⟩:j-tJ.length=0/\o=x:=by
   cases U:j-tJ.length with
   | zero=>rw[U] at a;simp at a;exact⟨Y,a⟩
   | succ m=>rw[U] at a;simp at a
  have:w₀.heap.size+j=w.heap.size:=oq
  rw[this];exact heap_alloc_new w o
theorem He.set(h:He w₀ tJ w){j o:Nat}{cs:Aq}(U:tJ[j]?=some (.cells cs t))(v:Value):He w₀ (tJ.set j<|.cells (cs.setIfInBounds o v) t) (w.setCell ⟨w₀.heap.size+j,o,none⟩ v):=by
 refine⟨h.tape,h.os,h.output,λb c=>(bP w _ oq).trans<|h.old b c,by simpa[World.setCell] using h.size,λi x a=>?_⟩;by_cases e:i=j
 .subst e;have d:=(gS.1 U).1;rw[List.getElem?_set_self d] at a;obtain rfl:=IZ a;exact dS (h.blocks i _ U) v
 .rw[List.getElem?_set_ne (Ne.symm e)] at a;exact(bP w _ oq).trans (h.blocks i x a)
theorem Ej{e:Event}{ad:Addr}(h:∀b,S b->b<w₀.heap.size)(U:e.loc=.cell ad)(i:w₀.heap.size<=ad.block):EvS S e:=by
 have⟨l,f,d⟩:=e;obtain rfl:l=.cell ad:=U;refine⟨λx a g c k=>?_,iq,iq⟩;have j:x.loc=.cell ad:=by cases f<;>cases d<;>(simp[MemAct.ofEvent,MemAct.touch?] at a;rw[<-a])
 grind
theorem Gi(h:w.heap[b]?=some (.cells #[v] t)):w.frozen? ⟨b,0,none⟩=false:=by simp[World.frozen?,h]
theorem iy(w:World):DZ S w w #[]:=λe U=>by simp at U
def xU:Obj:=.chan 0 #[] false 0 0 false
end
variable {tC:TypeId}
section
variable {w aL:World}{nv:Value}
def pg(N:Nat)(val:Value)(tC:TypeId)(nv:Value):List Obj:=[.cells #[val] tC,.cells #[nv] 110,xU,.cells #[.chan (some<|N+2)] 158,xU,.cells #[.chan (some<|N+4)] 159,.cells #[.int .u64 4294967296,.int .u32 0] 169,.cells #[.pointer (some ⟨N+6,0,none⟩)] 240,.cells #[gN N] 1]
structure vw(w₀:World)(N Pb:Nat)(S:Nat->Prop):Prop where
 size:w₀.heap.size=N
 plo:Pb<N\/Pb=N+1
 sh:∀b,S b->b<N/\b≠Pb
def fV(N:Nat)(Shun:Loc->Prop)(l:Loc):Prop:=Shun l\/∃a:Addr,l=.cell a/\a.block=N+6
def SE (N:Nat)(S:Nat->Prop)(b:Nat):Prop:=S b\/b=N+6
structure Client(K:Cfg)(N:Nat)(l:Iq)(f:FuncId)(cap:Aq)(A F:World->Prop)(I:Nat->World->Prop):Prop where
 hA:∀w aL,RM K w aL->A w->A aL
 SX:∀w cs,A w->A (w.alloc<|.cells cs 175)
 next:∀[ConcR.Payload] [ConcX.Payload] [ConcX.Shy K.Wg K.C] (AW:Gq) (Rb:Nat) (w:World),N<=Rb->A w->HW K (sS Rb pf) w Rb pf pf [] false w->fx prog (XM K AW) f (#[.pointer (some ⟨Rb,0,none⟩)]++cap) (.front<|V l) w (λi' _ w'=>∃Ex w₀ v' Uy CN Sp,Uy++CN=l/\JD CN Sp i'/\HW K Ex w₀ Rb v' v' Uy Sp w'/\(∀b,sS Rb v' b->N<=b)/\I Rb w')
 hI1:∀Rb w aL,RM K w aL->I Rb w->I Rb aL
 Zv:∀Rb Ex w₀ v tk en w w',HW K Ex w₀ Rb v v tk en w->(∀b,sS Rb v b->N<=b)->Kept (dy K) (jx K) (sS Rb v) w w'->I Rb w->I Rb w'
 hIF:∀Rb w,I Rb w->F w
theorem V2(H:vw w₀ N Pb S){Shun:Loc->Prop}(U:∀l,Shun l->∃c:Addr,l=.cell c/\S c.block):Cfg.Fit (aH prog N Pb (fV N Shun) val (N+9)<|λ_=>False):=by
 have k:=H.plo;have g:∀c:Addr,fV N Shun (.cell c)->(c.block<N/\c.block≠Pb)\/c.block=N+6:=by
  rintro c (h|⟨a,e,h⟩)
  .have⟨a,e,h⟩:=U _ h;cases e;exact .inl<|H.sh _ h
  .cases e;exact .inr h
 constructor
 .show N+2≠N+4;omega
 .show N+2≠N+6;omega
 .show N+4≠N+6;omega
 .show ¬(N+2=N);omega
 .show ¬(N+4=N);omega
 .show ¬(N+6=N);omega
 .show N+2<N+9;omega
 .show N+4<N+9;omega
 .show N+6<N+9;omega
 .show ¬(N+2=N+1\/N+2=N+3\/N+2=N+5\/N+2=N+7\/N+2=N+8\/N+2=Pb);omega
 .show ¬(N+4=N+1\/N+4=N+3\/N+4=N+5\/N+4=N+7\/N+4=N+8\/N+4=Pb);omega
 .show ¬(N+6=N+1\/N+6=N+3\/N+6=N+5\/N+6=N+7\/N+6=N+8\/N+6=Pb);omega
 .intro b h;have d:b=N+1\/b=N+3\/b=N+5\/b=N+7\/b=N+8\/b=Pb:=h;show b<N+9;omega
 .intro b h;have d:b=N:=h;show b<N+9;omega
 .intro b h1 h2;have i:b=N:=h1;have j:b=N+1\/b=N+3\/b=N+5\/b=N+7\/b=N+8\/b=Pb:=h2;omega
 .exact Y
 .exact λa h=>.inr ⟨a,Y,h⟩
 .intro l h;have:∃a,l=.cell a:=by
   rcases h with h|⟨a,e,_⟩
   .grind
   .exact⟨a,e⟩
  obtain⟨a,rfl⟩:=this;refine⟨a,Y,?_⟩;show a.block<N+9;rcases g a h with z|z<;>omega
 .intro a h f;have d:a.block=N:=h;rcases g a f with z|z<;>omega
 .intro a h f;have d:a.block=N+1\/a.block=N+3\/a.block=N+5\/a.block=N+7\/a.block=N+8\/a.block=Pb:=h;rcases g a f with z|z<;>omega
 .show N+6<N+9;omega
 .show N<N+9;omega
theorem SK(H:vw w₀ N Pb S)(C:He w₀ (pg N val tC nv) w)(p:l.length<=1000000){b:Frame}(E:b.fn=61)(J:b.kind≠.early){g:Goroutine}(O:g.status=.running)
 (B:∀e,stepG prog true g (w.at e)=.spawn (G ((base 111).at ⟨tm,[]⟩ [.inRegion (Xj f111.body) []]) (b.at ⟨t47 N nv (.func (.func f) #[] cap) undef,[]⟩ (.inRegion (gI f61.body 4) [1]::.code (.seq (.region 5 (gI f61.body 5) false)<|.seq (.region 6 (gI f61.body 6) false)<|.seq (.region 7 (gI f61.body 7) false)<|.region 8 (gI f61.body 8) false)::k)::cs)) (born prog<|ll N) (w.at e) #[])
 (x:∀(Shun:Loc->Prop) (e:Nat) [ConcR.Payload] [ConcX.Payload],XK (aH prog N Pb (fV N Shun) val (N+9)<|λ_=>False) (true,V l) (born prog<|ll N)<|w.at e)
 (z:∀Shun:Loc->Prop,(∀l,Shun l->∃o:Addr,l=.cell o/\S o.block)->Client (aH prog N Pb (fV N Shun) val (N+9)<|λ_=>False) N l f cap A F I)(y:∀e,A<|w.at e)(U:∀w i,ConcX.Aside2 N (N+6) w i->F w->F i)
 (v:∀(a:Act) (w:World),a.defers=[]->F w->w.heap[N+6]?=some (.cells #[.int .u64 0,.int .u32 0] 169)->ZI prog Post 0 (SE N S) (G (b.at (a.put (some 21)<|.tuple #[]) (.inRegion (gI f61.body 8) []::k)) cs) w) :
  ZI prog Post 0 S g w:=by
 letI IR:ConcR.Payload:=⟨tC⟩;letI IX:ConcX.Payload:=⟨tC⟩;refine ZI.fork O B λe Shun j=>?_;have c:=V2 (val:=val) H j;have n:=z Shun j;obtain rfl:=H.size;have d:=C.rely ⟨e,Y⟩;refine⟨aH prog w₀.heap.size Pb _ val (w₀.heap.size+9)<|λ_=>False,IX,IR,E8 _ c<|ZI prog Post 0<|SE w₀.heap.size S,
  @Bo (aH prog w₀.heap.size Pb _ val (w₀.heap.size+9)<|λ_=>False) IX (E8 _ c<|ZI prog Post 0<|SE w₀.heap.size S) F b k cs,λ_ _=>True,V l,λb=>¬SE w₀.heap.size S b,w₀.heap.size+7,?_⟩;have P:(w.at e).heap.size=w₀.heap.size+9:=d.size;constructor
 .rfl
 .exact c
 .rfl
 .exact @qn.mk _ (E8 _ c _) λR h=>h
 .rintro g w ⟨a,_,T,rfl,_⟩;rfl
 .rintro L Q g w ⟨a,u,h⟩;have⟨m,M⟩:=@ConcX.Gen.waitRound IX link (λ_=>False) (w₀.heap.size+6) w₀.heap.size L (E8 _ c<|ZI prog Post 0<|SE w₀.heap.size S) [val] (λ_ _=>True) F b a (gI f61.body 8) 0 [] k cs 0 prog w0 oq (λ_ _ r h=>U _ _ r h) (λw t D _ i q=>⟨Y,ZI.closed.rely (v a w u t D) q⟩) g w h;exact⟨m,ConcN.goes_mono (λg w h=>@HI _ IR IX (aH prog w₀.heap.size Pb _ val (w₀.heap.size+9)<|λ_=>False) (E8 _ c<|ZI prog Post 0<|SE w₀.heap.size S) L _ _ _ (λ_ _ h=>⟨a,u,h⟩) g w h) M⟩
 .exact λl s=>.inl s
 .intro l s;obtain⟨o,rfl,K⟩:=c.lH l s;rcases s with h|⟨a,e,h⟩
  .have⟨a,e,h⟩:=j _ h;cases e;exact⟨o,Y,by have:=(H.sh _ h).1;omega,λp=>p<|.inl h⟩
  .cases e;exact⟨o,Y,oq,λp=>p<|.inr h⟩
 .exact x Shun e
 .exact @TH _ w₀.heap.size Pb _ _ _ _ _ IR IX (E8 _ c<|ZI prog Post 0<|SE w₀.heap.size S) A F I b k cs tm f cap nv c E J l p n.hA n.SX (@Client.next _ _ _ _ _ _ _ _ n IR IX (E8 _ c<|ZI prog Post 0<|SE w₀.heap.size S)) n.hI1 n.Zv n.hIF U ⟨d.blocks 3 _ Y,d.blocks 5 _ Y,oq,y e⟩
 .show w₀.heap.size+9<=_;omega
 .exact d.blocks 6 _ Y
 .exact d.blocks 2 _ Y
 .exact d.blocks 4 _ Y
 .exact⟨_,d.blocks 0 _ Y,Y⟩
 .exact λa w h=>h _
end
section
variable {w aL:World}
def yH(N:Nat)(val:Value)(tC:TypeId)(nv:Value):List Obj:=[.cells #[val] tC,.cells #[nv] 110,xU,.cells #[.chan (some<|N+2)] 158,xU,.cells #[.chan (some<|N+4)] 159,.cells #[.int .u64 0,.int .u32 0] 169]
theorem IY(val F:Value)(fr:FuncId)(cr:Aq)(G:TypeId)(U:He w₀ [.cells #[val] G] w)(E:∀b,S b->b<w₀.heap.size)(Q:fO (Nat->Prop))(c:Code)
 (H:∀w,He w₀ (yH w₀.heap.size val G<|.func (.func fr) #[] cr) w->il (ZI prog Post 0) 61 c S Q ⟨#[(.func (.func fr) #[] cr),F,.pointer<|sq<|w₀.heap.size+1,undef,.pointer<|sq<|w₀.heap.size+3,.pointer<|sq<|w₀.heap.size+5,.pointer<|sq<|w₀.heap.size+6,undef,.chan<|some<|w₀.heap.size+2,.chan<|some<|w₀.heap.size+4,undef,undef,undef,undef,undef,undef,undef,undef,undef,undef,undef,undef],[]⟩ w) :
  ∀y z A B,f61.body=some (.seq y<|.seq z<|.seq A<|.seq B c)->il (ZI prog Post 0) 61 (.seq y<|.seq z<|.seq A<|.seq B c) S Q ⟨#[(.func (.func fr) #[] cr),F,undef,undef,undef,undef,undef,undef,undef,undef,undef,undef,undef,undef,undef,undef,undef,undef,undef,undef,undef,undef],[]⟩ w:=by
 intro y z A B D;simp only[f61,wJ,Code.seq.injEq] at D;obtain⟨rfl,rfl,rfl,rfl,rfl⟩:=D;have C:cC prog true (λ_:Nat->Prop=>AtRel) DZ (ZI prog Post 0):=ZI.closed;have T:∀S,Terms AtRel (DZ S):=tV;have⟨I,p,m⟩:=r9.1 (show(prog.info? 21).map (·.bytes)=some 4 by kernel_rfl);have⟨i2,q,n⟩:=r9.1 (show(prog.info? 160).map (·.bytes)=some 0 by kernel_rfl);have t:=λw=>run_makeChan (P:=prog) (w:=w) underlying158 p .i64 0 dq (by simp[m]);have u:=λw=>run_makeChan (P:=prog) (w:=w) underlying159 q .i64 0 dq (by simp[n]);have v:=λw r=>events_makeChan (P:=prog) (w:=w) underlying158 p .i64 0 dq (by simp[m]) r;have x:=λw r=>events_makeChan (P:=prog) (w:=w) underlying159 q .i64 0 dq (by simp[n]) r;simp only[Int.ofNat_zero,Int.cast_ofNat_Int] at t u v x;refine bY C T<|aW C T ?_;simp only[iB,Nat.reduceAdd];refine aM C Y rq λ_ f h a=>?_;replace U:=gd U f;clear f;go_simp;try (unfold stored;go_simp)
 refine a _ _ ⟨?_,?_⟩
 .intro e i;have g:=mem_listed i;simp[go_sem, *] at g
 clear a h;try walk_nrm
 have d:=U.size;simp only[lC,List.length_nil,Nat.reduceAdd,Nat.add_zero,Nat.zero_add] at d;simp only[d];clear d;replace U:=U.alloc<|.cells #[(.func (.func fr) #[] cr)] 110;simp only[List.cons_append,List.nil_append] at U;refine bv C T ?_;show il _ _ _ _ _ _ _;refine bY C T<|aW C T ?_;simp only[iB,Nat.reduceAdd];refine aM C Y rq λ_ f h a=>?_;replace U:=gd U f;clear f;go_simp;try (unfold stored;go_simp)
 refine a _ _ ⟨?_,?_⟩
 .intro e i;have g:=mem_listed i;simp[go_sem, *] at g
 clear a h;try walk_nrm
 have d:=U.size;simp only[lC,List.length_nil,Nat.reduceAdd,Nat.add_zero,Nat.zero_add] at d;simp only[d];clear d;replace U:=U.alloc<|xU;simp only[List.cons_append,List.nil_append] at U;refine aM C Y rq λ_ f h a=>?_;replace U:=gd U f;clear f;go_simp;try (unfold stored;go_simp)
 refine a _ _ ⟨?_,?_⟩
 .intro e i;have g:=mem_listed i;simp[go_sem, *] at g
 clear a h;try walk_nrm
 have d:=U.size;simp only[lC,List.length_nil,Nat.reduceAdd,Nat.add_zero,Nat.zero_add] at d;simp only[d];clear d;replace U:=U.alloc<|.cells #[.chan none] 158;simp only[List.cons_append,List.nil_append] at U;refine aM C Y rq λ_ f h a=>?_;replace U:=gd U f;clear f;have k:=U.blocks 3 _ Y;have s:=cell1 k;have l:World.frozen? _ ⟨w₀.heap.size+3,0,none⟩=false:=Gi k;go_simp;try (unfold stored;go_simp)
 refine a _ _ ⟨?_,?_⟩
 .intro e i;have g:=mem_listed i;simp[go_sem, *] at g;subst g;exact Ej (w₀:=w₀) E Y iq
 clear a h;try walk_nrm
 clear k s l;replace U:=U.set (j:=3) (o:=0) Y<|.chan<|some<|w₀.heap.size+2;simp only[List.set,List.setIfInBounds_toArray] at U;refine bv C T ?_;show il _ _ _ _ _ _ _;refine bY C T<|aW C T ?_;simp only[iB,Nat.reduceAdd];refine aM C Y rq λ_ f h a=>?_;replace U:=gd U f;clear f;go_simp;try (unfold stored;go_simp)
 refine a _ _ ⟨?_,?_⟩
 .intro e i;have g:=mem_listed i;simp[go_sem, *] at g
 clear a h;try walk_nrm
 have d:=U.size;simp only[lC,List.length_nil,Nat.reduceAdd,Nat.add_zero,Nat.zero_add] at d;simp only[d];clear d;replace U:=U.alloc<|xU;simp only[List.cons_append,List.nil_append] at U;refine aM C Y rq λ_ f h a=>?_;replace U:=gd U f;clear f;go_simp;try (unfold stored;go_simp)
 refine a _ _ ⟨?_,?_⟩
 .intro e i;have g:=mem_listed i;simp[go_sem, *] at g
 clear a h;try walk_nrm
 have d:=U.size;simp only[lC,List.length_nil,Nat.reduceAdd,Nat.add_zero,Nat.zero_add] at d;simp only[d];clear d;replace U:=U.alloc<|.cells #[.chan none] 159;simp only[List.cons_append,List.nil_append] at U;refine aM C Y rq λ_ f h a=>?_;replace U:=gd U f;clear f;have k:=U.blocks 5 _ Y;have s:=cell1 k;have l:World.frozen? _ ⟨w₀.heap.size+5,0,none⟩=false:=Gi k;go_simp;try (unfold stored;go_simp)
 refine a _ _ ⟨?_,?_⟩
 .intro e i;have g:=mem_listed i;simp[go_sem, *] at g;subst g;exact Ej (w₀:=w₀) E Y iq
 clear a h;try walk_nrm
 clear k s l;replace U:=U.set (j:=5) (o:=0) Y<|.chan<|some<|w₀.heap.size+4;simp only[List.set,List.setIfInBounds_toArray] at U;refine bv C T ?_;show il _ _ _ _ _ _ _;refine bY C T<|aW C T ?_;simp only[iB,Nat.reduceAdd];refine aM C Y rq λ_ f h a=>?_;replace U:=gd U f;clear f;go_simp;try (unfold stored;go_simp)
 refine a _ _ ⟨?_,?_⟩
 .intro e i;have g:=mem_listed i;simp[go_sem, *] at g
 clear a h;try walk_nrm
 have d:=U.size;simp only[lC,List.length_nil,Nat.reduceAdd,Nat.add_zero,Nat.zero_add] at d;simp only[d];clear d;replace U:=U.alloc<|.cells #[.int .u64 0,.int .u32 0] 169;simp only[List.cons_append,List.nil_append] at U;refine bv C T ?_;show il _ _ _ _ _ _ _;exact H _ U
end
section
variable {w aL:World}
theorem MA(H:vw w₀ N Pb S)(c:He w₀ (yH N val tC<|.func (.func fr) #[] cr) w)(hn:l.length<=1000000){Q:fO (Nat->Prop)}
 (M:∀(Shun:Loc->Prop) (w:World) [ConcR.Payload] [ConcX.Payload],He w₀ (pg N val tC<|.func (.func fr) #[] cr) w->XK (aH prog N Pb (fV N Shun) val (N+9)<|λ_=>False) (true,V l) (born prog<|ll N) w)
 (R:∀Shun:Loc->Prop,(∀l,Shun l->∃K:Addr,l=.cell K/\S K.block)->Client (aH prog N Pb (fV N Shun) val (N+9)<|λ_=>False) N l f cap A F I)(O:∀w,He w₀ (pg N val tC<|.func (.func fr) #[] cr) w->A w)(P:∀w m,ConcX.Aside2 N (N+6) w m->F w->F m)
 (hq:∀(a:Act) (w:World),a.defers=[]->F w->w.heap[N+6]?=some (.cells #[.int .u64 0,.int .u32 0] 169)->Q (SE N S) .normal a w) :
  il (ZI prog Post 0) 61 (xX f61.body) S Q ⟨#[(.func (.func fr) #[] cr),(.func (.func f) #[] cap),.pointer<|sq<|N+1,undef,.pointer<|sq<|N+3,.pointer<|sq<|N+5,.pointer<|sq<|N+6,undef,.chan<|some<|N+2,.chan<|some<|N+4,undef,undef,undef,undef,undef,undef,undef,undef,undef,undef,undef,undef],[]⟩ w:=by
 have C:cC prog true (λ_:Nat->Prop=>AtRel) DZ (ZI prog Post 0):=ZI.closed;have s:∀b,S b->b<w₀.heap.size:=λb h=>by rw[H.size];exact(H.sh b h).1
 have a9:∀w r,(Instr.makeFunc (Fn.func 112) #[] #[Value.pointer (sq<|N+5),Value.pointer<|sq<|N+1,Value.pointer<|sq<|N+3]).events prog w r=r:=λw r=>by simp[Instr.makeFunc]
 have aa:∀w r,(Instr.makeFunc (Fn.func 200) #[] #[Value.pointer (sq<|N+7),Value.pointer<|sq<|N+8]).events prog w r=r:=λw r=>by simp[Instr.makeFunc]
 intro b k cs Y B Z;have t:(xX f61.body)=.seq (.region 4 (gI f61.body 4) false) (.seq (.region 5 (gI f61.body 5) false)<|.seq (.region 6 (gI f61.body 6) false)<|.seq (.region 7 (gI f61.body 7) false)<|.region 8 (gI f61.body 8) false):=rq
 rw[t];obtain rfl:=H.size;refine C.step rfl λ_ U=>?_;replace c:=c.rely U;clear U;rw[stepG_seq];simp only[goes_go];refine⟨iy _,C.step rfl λ_ U=>?_⟩;replace c:=c.rely U;clear U;rw[stepG_region];simp only[goes_go];refine⟨iy _,?_⟩;have D:List.range (gI f61.body 4).size=[0,1]:=rq
 rw[D];obtain⟨o,ho,J,T,W⟩:∃o,(gI f61.body 4)[0]?=some o/\o.op=.makeFunc (.func 112) #[] #[.tmp 5,.tmp 2,.tmp 4]/\o.dst=some 10/\o.guard=none:=⟨_,rfl,rfl,rfl,rfl⟩;refine C.step rfl λm U=>?_;replace c:=c.rely U;clear U;rw[stepG_value (v:=gN w₀.heap.size) (w':=m) ho (by simp[Region.wanted,W]) B (by unfold execOp;simp[J,Instr.makeFunc,Act.eval,gN]),listed_nil<|by unfold execOp;simp[J,Instr.makeFunc,Act.eval]];simp only[goes_go];refine⟨iy _,?_⟩;rw[T];have E:(⟨#[(.func (.func fr) #[] cr),(.func (.func f) #[] cap),.pointer<|sq<|w₀.heap.size+1,undef,.pointer<|sq<|w₀.heap.size+3,.pointer<|sq<|w₀.heap.size+5,.pointer<|sq<|w₀.heap.size+6,undef,.chan<|some<|w₀.heap.size+2,.chan<|some<|w₀.heap.size+4,undef,undef,undef,undef,undef,undef,undef,undef,undef,undef,undef,undef],[]⟩:Act).put (some 10) (gN w₀.heap.size)=⟨t47 w₀.heap.size (.func (.func fr) #[] cr) (.func (.func f) #[] cap) undef,[]⟩:=rq
 rw[E];refine C.step rfl λ_ U=>?_;replace c:=c.rely U;clear U;refine goes_call (b:=b) (a:=⟨t47 w₀.heap.size (.func (.func fr) #[] cr) (.func (.func f) #[] cap) undef,[]⟩) (ops:=gI f61.body 4) (i:=1) (args:=#[.tmp 6,.tmp 10]) (ats:=#[169,1]) rfl rfl B rfl func111 rq rfl ⟨iy _,?_⟩;have G:(#[Operand.tmp 6,Operand.tmp 10].map<|Act.eval ⟨t47 w₀.heap.size (.func (.func fr) #[] cr) (.func (.func f) #[] cap) undef,[]⟩)++Array.replicate (f111.ntmps-(#[Operand.tmp 6,Operand.tmp 10].map<|Act.eval ⟨t47 w₀.heap.size (.func (.func fr) #[] cr) (.func (.func f) #[] cap) undef,[]⟩).size) undef=#[.pointer (sq<|w₀.heap.size+6),gN w₀.heap.size,undef,undef,undef,undef,undef]:=by simp[Act.eval,t47,f111,Array.replicate_succ]
 rw[G];refine C.step rfl λ_ U=>?_;replace c:=c.rely U;clear U;rw[stepG_seq];simp only[goes_go];refine⟨iy _,C.step rfl λ_ U=>?_⟩;replace c:=c.rely U;clear U;rw[stepG_region];simp only[goes_go,iB,Nat.reduceAdd];refine⟨iy _,C.step rfl λ_ U=>?_⟩;replace c:=c.rely U;clear U;refine goes_oper_k rfl rfl dq<|λp g=>?_;go_simp;refine g _ _ ⟨?_,?_⟩
 .intro e u;have n:=mem_listed u;simp[go_sem, *] at n
 clear g p;try walk_nrm
 have q:=c.size;simp only[yH,lC,List.length_nil,Nat.reduceAdd,Nat.add_zero,Nat.zero_add] at q;simp only[q];clear q;replace c:=c.alloc<|.cells #[.pointer (sq<|w₀.heap.size+6)] 240;simp only[yH,List.cons_append,List.nil_append] at c;refine C.step rfl λ_ U=>?_;replace c:=c.rely U;clear U;refine goes_oper_k rfl rfl dq<|λp g=>?_;go_simp;refine g _ _ ⟨?_,?_⟩
 .intro e u;have n:=mem_listed u;simp[go_sem, *] at n
 clear g p;try walk_nrm
 have q:=c.size;simp only[yH,lC,List.length_nil,Nat.reduceAdd,Nat.add_zero,Nat.zero_add] at q;simp only[q];clear q;replace c:=c.alloc<|.cells #[gN w₀.heap.size] 1;simp only[yH,List.cons_append,List.nil_append] at c;refine C.step rfl λ_ U=>?_;replace c:=c.rely U;clear U;rw[stepG_region_end];simp only[goes_go];refine⟨iy _,C.step rfl λ_ U=>?_⟩;replace c:=c.rely U;clear U;rw[stepG_seq];simp only[goes_go];refine⟨iy _,C.step rfl λ_ U=>?_⟩;replace c:=c.rely U;clear U;rw[stepG_region];simp only[goes_go,iB,Nat.reduceAdd];refine⟨iy _,C.step rfl λ_ U=>?_⟩;replace c:=c.rely U;clear U;refine goes_oper_k rfl rfl dq<|λp g=>?_;have z:=cell1<|c.blocks 7 _ rfl;go_simp;refine g _ _ ⟨?_,?_⟩
 .intro e u;have n:=mem_listed u;simp[go_sem, *] at n;subst n;exact Ej (w₀:=w₀) s rfl iq
 clear g p;try walk_nrm
 clear z;refine C.step rfl λ_ U=>?_;replace c:=c.rely U;clear U;refine goes_call rfl rfl dq rfl w0.f_add (ConcX.Gen.nm_add link) rfl ⟨iy _,?_⟩;walk_nrmf Conc.Lib.addFn;have L:=@Vx _ Post S (w₀.heap.size+6) w₀.heap.size;simp only[ConcX.Gen.body_add,Conc.Lib.addFn,Option.getD_some] at L;refine L (λh=>by have:=s _ h;omega) (λh=>by have:=s _ h;omega) (c.blocks 6 _ rfl) ?_;replace c:=c.set (j:=6) (o:=0) rfl<|.int .u64 4294967296;simp only[List.set,List.setIfInBounds_toArray] at c;try walk_nrm
 refine C.step rfl λ_ U=>?_;replace c:=c.rely U;clear U;rw[stepG_region_end];simp only[goes_go];refine⟨iy _,C.step rfl λ_ U=>?_⟩;replace c:=c.rely U;clear U;rw[stepG_region];simp only[goes_go,iB,Nat.reduceAdd];refine⟨iy _,C.step rfl λ_ U=>?_⟩;replace c:=c.rely U;clear U;refine goes_oper_k rfl rfl dq<|λp g=>?_;go_simp;refine g _ _ ⟨?_,?_⟩
 .intro e u;have n:=mem_listed u;simp[go_sem, *] at n
 clear g p;try walk_nrm
 refine SK (A:=A) (F:=F) (I:=I) (k:=k) (cs:=cs) (tm:=#[.pointer (sq<|w₀.heap.size+6),gN w₀.heap.size,.pointer<|sq<|w₀.heap.size+7,.pointer<|sq<|w₀.heap.size+8,.pointer<|sq<|w₀.heap.size+6,.tuple #[],.func (.func 200) #[] #[.pointer (sq<|w₀.heap.size+7),.pointer<|sq<|w₀.heap.size+8]]) H c hn Y B rfl (λe=>?_) (λShun e _ _=>M Shun _<|c.rely ⟨e,rfl⟩) R (λe=>O _<|c.rely ⟨e,rfl⟩) P<|λa w y x X=>?_
 .rw[stepG_spawn (d:=ll w₀.heap.size) rfl rfl dq (by simp[execOp,go_sem,resolve,Deferred.ofValue,ll,Act.eval];rfl) rfl,listed_nil<|by simp[execOp,go_sem,resolve,Deferred.ofValue,Act.eval]];rfl
 .refine C.step rfl λm U=>?_;rw[stepG_region_end];simp only[goes_go];exact⟨iy _,C.rely (Z _ _ (a.put (some 21)<|.tuple #[]) _<|hq _ w y x X) U⟩
theorem Ru(H:vw w₀ N Pb S)(e:He w₀ [.cells #[val] tC] w)(q:l.length<=1000000)
 (U:∀(Shun:Loc->Prop) (w:World) [ConcR.Payload] [ConcX.Payload],He w₀ (pg N val tC<|.func (.func fr) #[] cr) w->XK (aH prog N Pb (fV N Shun) val (N+9)<|λ_=>False) (true,V l) (born prog<|ll N) w)
 (p:∀Shun:Loc->Prop,(∀l,Shun l->∃i:Addr,l=.cell i/\S i.block)->Client (aH prog N Pb (fV N Shun) val (N+9)<|λ_=>False) N l f cap A F I)(n:∀w,He w₀ (pg N val tC<|.func (.func fr) #[] cr) w->A w)(o:∀w d,ConcX.Aside2 N (N+6) w d->F w->F d) :
  fx prog (ZI prog Post 0) 61 #[(.func (.func fr) #[] cr),(.func (.func f) #[] cap)] S w (λm _ k=>m=SE N S/\F k/\k.heap[N+6]?=some (.cells #[.int .u64 0,.int .u32 0] 169)):=by refine iu func61 rq Y ?_;simp only[ntmps61,bZ];have j:=H.size;refine IY val _ fr cr tC e (λb h=>by rw[j];exact(H.sh b h).1) _ _ (λw e=>?_) _ _ _ _ Y;rw[j] at e |-;exact MA H e q U p n o λa w g h1 h2=>⟨.inl Y,g,_,resultsC_none rq _,Y,h1,h2⟩
end
def aG(l:Iq):Bq:=l.flatMap Lib.encodeRune
theorem iU(l:Iq):(aG l).length<=4*l.length:=by
 induction l with
 | nil=>simp[aG]
 | cons r l a =>have U:aG (r::l)=Lib.encodeRune r++aG l:=Y;have h:=(Lib.runeCells_le r).2;rw[Lib.runeCells_length] at h;grind
section
variable {w aL:World}{v:Value}{rest:Iq}
variable {M:World->Nat->Prop}{O:Nat->Prop}{N0:Nat}{NY:Nat->Prop}{Bb:Nat}{p:Value}{n:Nat}{xs:Vq}{w':World}
theorem HW.exs(h:HW K Ex w₀ Rb u v tk en w)(b:Nat)(U:sS Rb v b):Ex b\/w₀.heap.size<=b:=by
 rcases U with rfl|z
 .exact h.U2
 .exact(h.ro.own b z).2
theorem apart{y z x:Value}(a:HW K Ex w₀ Rb u v tk en w)(U:HM (dy K) (jx K) N0 NY aL Bb x y z n xs w):(¬sS Rb v Bb/\∀k,z.ownBlock=some k->¬sS Rb v k)/\(¬sS Bb z Rb/\∀k,v.ownBlock=some k->¬sS Bb z k):=by
 have h1:Bb≠Rb:=by
  rintro rfl
  have:=U.bd.symm.trans a.rb;simp at this
 refine⟨⟨?_,λk b=>?_⟩,⟨?_,λk b=>?_⟩⟩
 .rintro(e|e)
  .exact h1 e
  .exact a.ro.ne U.bd dq e Y
 .rintro(e|e)
  .exact U.ro.ne a.rb dq b e
  .have⟨_,c⟩:=U.ro.type b;have⟨_,d⟩:=a.ro.type e;grind
 .rintro(e|e)
  .exact h1 e.symm
  .exact U.ro.ne a.rb dq e Y
 .rintro(e|e)
  .exact a.ro.ne U.bd dq b e
  .have⟨_,c⟩:=U.ro.type e;have⟨_,d⟩:=a.ro.type b;grind
variable [ConcR.Payload][ConcX.Payload]
variable [ConcX.Shy (Cfg.Wg<|aH prog N Pb Shun val B Mz) (Cfg.C<|aH prog N Pb Shun val B Mz)]
end
theorem TW(l x:Nat)(U:l<32768)(a:x<64):bits .or .i32 ((l*64:Nat):Int) (x:Int)=((l*64+x:Nat):Int):=by
 have h1:(BitVec.ofInt 32 ((l*64:Nat))).toNat=l*64:=by rw[BitVec.ofInt_natCast];exact Nat.mod_eq_of_lt oq
 have h2:(BitVec.ofInt 32 x).toNat=x:=gq
 show IntKind.i32.wrap ((BitVec.ofInt 32 ((l*64:Nat):Int) ||| BitVec.ofInt 32 (x:Int)).toNat)=_;have h3:l*64 ||| x=l*64+x:=by have:=Nat.shiftLeft_add_eq_or_of_lt (i:=6) (b:=x) gq l;rw[Nat.shiftLeft_eq] at this;exact this.symm
 rw[BitVec.toNat_or,h1,h2,h3,IntKind.wrap_i32];omega
theorem eK(l b:Int)(a:0<=l)(h1:l<32768)(h2:0<=b)(h3:b<256):cG l b=l*64+b % 64:=by
 have e1:IntKind.i32.wrap (l*64)=l*64:=by rw[IntKind.wrap_i32];omega
 have U:IntKind.i32.wrap (b % 64)=b % 64:=by rw[IntKind.wrap_i32];omega
 unfold cG;rw[QQ b h2 h3,e1,U]
 have:=TW l.toNat (b % 64).toNat oq oq;grind
theorem lz(b k:Int)(a:0<=b)(h1:b<256)(c:k=31\/k=15\/k=7):ey b k=b % (k+1):=by
 have h:∀n:_root_.Fin 256,bits .and .u8 n.val 31=n.val % 32/\bits .and .u8 n.val 15=n.val % 16/\bits .and .u8 n.val 7=n.val % 8:=by decide +kernel
 have U:=h ⟨b.toNat,oq⟩;simp only[Int.toNat_of_nonneg a] at U;unfold ey;rcases c with rfl|rfl|rfl
 .rw[U.1,IntKind.wrap_i32];omega
 .rw[IntKind.wrap_i32];omega
 .rw[IntKind.wrap_i32];omega
def DG (d:DS):Prop :=
 d.missing=0 \/
 (d.missing=1/\d.low=128/\d.high=191/\((2<=d.letter/\d.letter<=863)\/(896<=d.letter/\d.letter<=17407))) \/
 (d.missing=2/\0<=d.letter/\d.letter<=15/\d.low=(iF<|224+d.letter).1/\d.high=(iF<|224+d.letter).2) \/
 (d.missing=2/\16<=d.letter/\d.letter<=271/\d.low=128/\d.high=191) \/
 (d.missing=3/\0<=d.letter/\d.letter<=4/\d.low=(iF<|240+d.letter).1/\d.high=(iF<|240+d.letter).2)
theorem xN(d:DS)(b:Int)(i:0<=b)(h1:b<256)(j:d.missing=0):DG (cD d b).1/\(∀r∈(cD d b).2,Good r)/\(cD d b).2.length<=1:=by
 unfold cD;by_cases U:b<128
 .simp only[ip U];refine⟨.inl j,λr f=>?_,iq⟩;have:IntKind.i32.wrap b=b:=by rw[IntKind.wrap_i32];omega
  simp at f;exact .inl oq
 by_cases a:b<194
 .simp only[iw U,ip a];exact⟨.inl j,λr f=>by simp at f;exact .inr oq,iq⟩
 by_cases g:b>244
 .simp only[iw U,iw a,ip g];exact⟨.inl j,λr f=>by simp at f;exact .inr oq,iq⟩
 by_cases h:b<224
 .simp only[iw U,iw a,iw g,ip h];refine⟨.inr<|.inl ⟨Y,?_,?_,?_⟩,iq,iq⟩
  .show(iF b).1=128;rw[iF,iw oq,iw oq,iw oq,iw oq]
  .show(iF b).2=191;rw[iF,iw oq,iw oq,iw oq,iw oq]
  .show(2<=ey b 31/\ey b 31<=863)\/(896<=ey b 31/\ey b 31<=17407);rw[lz b 31 i h1 iq];omega
 by_cases k:b<240
 .simp only[iw U,iw a,iw g,iw h,ip k];have e:ey b 15=b-224:=by rw[lz b 15 i h1 iq];omega
  have c:224+ey b 15=b:=oq
  exact⟨.inr<|.inr<|.inl ⟨Y,by show 0<=ey b 15;omega,by show ey b 15<=15;omega,by rw[c],by rw[c]⟩,iq,iq⟩
 .simp only[iw U,iw a,iw g,iw h,iw k];have e:ey b 7=b-240:=by rw[lz b 7 i h1 iq];omega
  have c:240+ey b 7=b:=oq
  exact⟨i3<|.inr ⟨Y,by show 0<=ey b 7;omega,by show ey b 7<=4;omega,by rw[c],by rw[c]⟩,iq,iq⟩
theorem En(d:DS)(b:Int)(n:DG d)(q:0<d.missing)(p:d.low<=b)(o:b<=d.high):DG (dr d b).1/\(∀r∈(dr d b).2,Good r)/\(dr d b).2.length<=1:=by
 have g:∀x:Int,128<=(iF x).1/\(iF x).2<=191:=by intro x;unfold iF;(repeat' split)<;>exact⟨dq,dq⟩
 have U:(dr d b).2.length<=1:=by unfold dr;split<;>simp
 have j:∀m:Int,1<=m->m<=3->IntKind.i64.wrap (m-1)=m-1:=λm _ _=>by rw[IntKind.wrap_i64];omega
 rcases n with h|⟨h,h1,h2,h3⟩|⟨h,h1,h2,h3,h4⟩|⟨h,h1,h2,h3,h4⟩|⟨h,h1,h2,h3,h4⟩
 .omega
 .have e:=eK d.letter b oq oq oq oq;refine⟨.inl ?_,λr c=>?_,U⟩
  .show IntKind.i64.wrap (d.missing-1)=0;grind
  .have:(dr d b).2=[cG d.letter b]:=by unfold dr;rw[j _ oq oq];simp[h]
   rw[this,List.mem_singleton] at c;subst c;rw[e];unfold Good;omega
 .have l:=g<|224+d.letter;have e:=eK d.letter b oq oq oq oq;have a:IntKind.i64.wrap (d.missing-1)=1:=gq
  refine⟨.inr<|.inl ⟨a,Y,Y,?_⟩,λr c=>?_,U⟩
  .show(2<=cG d.letter b/\cG d.letter b<=863)\/(896<=cG d.letter b/\cG d.letter b<=17407);rw[e];by_cases f:d.letter=0
   .have:(iF<|224+d.letter).1=160:=by rw[f];rfl
    omega
   .by_cases i:d.letter=13
    .have:(iF<|224+d.letter).2=159:=by rw[i];rfl
     omega
    .omega
  .have:(dr d b).2=[]:=by unfold dr;rw[a];simp
   rw[this] at c;simp at c
 .have e:=eK d.letter b oq oq oq oq;have a:IntKind.i64.wrap (d.missing-1)=1:=gq
  refine⟨.inr<|.inl ⟨a,Y,Y,?_⟩,λr c=>?_,U⟩
  .show(2<=cG d.letter b/\cG d.letter b<=863)\/(896<=cG d.letter b/\cG d.letter b<=17407);rw[e];omega
  .have:(dr d b).2=[]:=by unfold dr;rw[a];simp
   rw[this] at c;simp at c
 .have l:=g<|240+d.letter;have e:=eK d.letter b oq oq oq oq;have a:IntKind.i64.wrap (d.missing-1)=2:=gq
  refine⟨i3<|.inl ⟨a,?_,?_,Y,Y⟩,λr c=>?_,U⟩
  .show 16<=cG d.letter b;rw[e];by_cases f:d.letter=0
   .have:(iF<|240+d.letter).1=144:=by rw[f];rfl
    omega
   .omega
  .show cG d.letter b<=271;rw[e];by_cases k:d.letter=4
   .have:(iF<|240+d.letter).2=143:=by rw[k];rfl
    omega
   .omega
  .have:(dr d b).2=[]:=by unfold dr;rw[a];simp
   rw[this] at c;simp at c
theorem Ga(d:DS)(a:DG d):(gQ d).1.missing=0/\(∀r∈(gQ d).2,Good r)/\(gQ d).2.length<=1:=by
 unfold gQ;split
 .exact⟨Y,λr U=>by simp[List.mem_singleton] at U;exact .inr oq,iq⟩
 .refine⟨?_,iq,iq⟩;rcases a with h|⟨h,_⟩|⟨h,_⟩|⟨h,_⟩|⟨h,_⟩<;>first|exact h|(exfalso;omega)
theorem Nw(d:DS)(b:Int)(U:0<=b)(h1:b<256)(f:DG d):DG (cX d b).1/\(∀r∈(cX d b).2,Good r)/\(cX d b).2.length<=2:=by
 unfold cX;split
 .rename_i hm
  split
  .rename_i h
   have⟨a,c,e⟩:=En d b f hm h.1 h.2;exact⟨a,c,oq⟩
  .have⟨a,c,e⟩:=Ga d f;have⟨i,j,k⟩:=xN (gQ d).1 b U h1 a;grind
 .rename_i hm
  have g:d.missing=0:=by rcases f with h|⟨h,_⟩|⟨h,_⟩|⟨h,_⟩|⟨h,_⟩<;>first|exact h|(exfalso;omega)
  have⟨a,c,e⟩:=xN d b U h1 g;exact⟨a,c,oq⟩
theorem vG(c:CS)(l:Iq)(h:∀r∈l,Good r):(∀r∈(bq c l).2,Good r)/\(bq c l).2.length<=l.length:=by
 induction l generalizing c with
 | nil=>simp[bq]
 | cons r l a =>
  have⟨h1,h2⟩:=a (dB c r).1 λx U=>h x (by simp[U]);have h3:(∀x∈(dB c r).2,Good x)/\(dB c r).2.length<=1:=by
   simp only[dB];repeat' split
   .simp
   .simp
   .exact⟨λx U=>by simp at U;exact .inl oq,iq⟩
   .exact⟨λx U=>by simp at U;exact .inr oq,iq⟩
   .grind
  refine⟨λx U=>?_,by simp[bq];omega⟩;simp only[bq,List.mem_append] at U;exact U.elim (h3.1 x)<|h1 x
theorem Ih(l:Iq)(U:∀b∈l,0<=b/\b<256):∀(c:CS) (d:DS),DG d->(∀r∈dv c d l,Good r)/\(dv c d l).length<=2*l.length+1:=by
 induction l with
 | nil =>intro c d a;rw[iY];have⟨_,h2,h3⟩:=Ga d a;have⟨e,f⟩:=vG c _ h2;exact⟨e,by simp;omega⟩
 | cons b l h =>intro c d a;rw[iA];have⟨h1,h2,h3⟩:=Nw d b (U b iq).1 (U b iq).2 a;have⟨e,f⟩:=vG c _ h2;have⟨i,j⟩:=h (λx g=>U x<|by simp[g]) (bq c (cX d b).2).1 _ h1;grind
theorem Ah(s:ByteArray)(U:s.size<=20000):(∀r∈dH s,Good r)/\4*(dH s).length<=1000000:=by
 have⟨h1,h2⟩:=Ih (bytesOf s) (λb a=>by
  simp[bytesOf,List.mem_map] at a;obtain⟨x,_,rfl⟩:=a
  have:=x.toNat_lt;omega) ⟨false,false⟩ ⟨0,0,0,0⟩<|.inl Y;refine⟨h1,?_⟩;have h3:(bytesOf s).length=s.size:=by simp[bytesOf]
 unfold dH;omega
def begun(d:DS):Nat:=if 0<d.missing then 1 else 0
theorem xV(c:CS)(l:Iq):(bq c l).2.length<=l.length:=by
 induction l generalizing c with
 | nil=>simp[bq]
 | cons r l U =>
  have h2:=U (dB c r).1;have h3:(dB c r).2.length<=1:=by simp[dB];grind
  simp[bq];omega
theorem xO(d:DS)(b:Int)(h:¬0<d.missing):(cD d b).2.length+begun (cD d b).1<=1:=by
 have U:begun d=0:=by unfold begun;rw[iw h]
 unfold cD;repeat' split
 all_goals first
  | (simp[U];done)
  | (simp[begun];done)
theorem Gb(d:DS):(gQ d).2.length<=begun d/\¬0<(gQ d).1.missing:=by unfold gQ begun;grind
theorem Nx(d:DS)(b:Int):(cX d b).2.length+begun (cX d b).1<=begun d+1:=by
 unfold cX;split
 .rename_i U
  have h1:begun d=1:=by unfold begun;rw[ip U]
  split
  .have h2:begun ((dr d b).1)<=1:=by unfold begun;split<;>omega
   have h3:(dr d b).2.length<=1:=by simp[dr];split<;>simp
   omega
  .have h2:=Gb d;have h3:=xO (gQ d).1 b h2.2;grind
 .rename_i U
  have:=xO d b U;omega
theorem K5(l:Iq):∀(c:CS) (d:DS),(dv c d l).length<=l.length+begun d:=by
 induction l with
 | nil =>
  intro c d;rw[iY]
  have:=xV c (gQ d).2
  have:=(Gb d).1;omega
 | cons b l U =>intro c d;rw[iA];have h1:=xV c (cX d b).2;have h2:=Nx d b;grind
theorem uB(s:ByteArray):(dH s).length<=s.size:=by
 have h:=K5 (bytesOf s) ⟨false,false⟩ ⟨0,0,0,0⟩;have h3:(bytesOf s).length=s.size:=by simp[bytesOf]
 have U:begun ⟨0,0,0,0⟩=0:=by simp[begun]
 unfold dH;omega
variable {Yb:Nat}
section
variable {w aL:World}{v:Value}{rest:Iq}
variable {Tb:Nat}{x:Value}{l:Iq}
theorem Aj(U:b<N):jx (aH prog N Pb Shun val B Mz) b:=⟨by show b<N+9;omega,by show ¬(b=N);omega,by show ¬(b=N+2\/b=N+4\/b=N+6);omega⟩
theorem Cs(d:b<N)(e:b≠Pb)(U:∀a:Addr,a.block=b->¬Shun (.cell a))(f:N+9<=w.heap.size):dy (aH prog N Pb Shun val B Mz) w b:=by
 refine⟨oq,?_,?_,?_,U⟩
 .rintro(z|⟨z,_⟩)
  .have c:b=N:=z;omega
  .have c:N+9<=b:=z;omega
 .show ¬(b=N+1\/b=N+3\/b=N+5\/b=N+7\/b=N+8\/b=Pb);omega
 .show ¬(b=N+2\/b=N+4\/b=N+6);omega
variable [ConcR.Payload][ConcX.Payload]
variable [ConcX.Shy (Cfg.Wg<|aH prog N Pb Shun val B Mz) (Cfg.C<|aH prog N Pb Shun val B Mz)]
end
section
variable {w aL:World}{Tb:Nat}
theorem He.start(w₀:World):He w₀ [] w₀:=⟨Y,Y,Y,λ_ _=>Y,iq,λj o h=>by simp at h⟩
end
structure Ext(w w':World):Prop where
 tape:w'.tape=w.tape
 os:w'.os=w.os
 output:w'.output=w.output
 size:w.heap.size<=w'.heap.size
 block:∀b,b<w.heap.size->w'.heap[b]?=w.heap[b]?
section
variable {P:Program}{b:Frame}{a:Act}{w:World}
theorem Fq{fn:Func}(e:b.kind=.normal)(c:a.defers=[])(d:P.funcs[b.fn]?=some fn)(hi:P.inits.idxOf? b.fn=none)(f:(results fn a.tmps).run P w=.ok v w)(U:(results fn a.tmps).events P w #[]=#[]) :
  stepG P true (G { b.at a todo with mode:=.returning } []) w=.ended (.done v) w #[]:=by simp[G,stepG,unwind,doReturn,Frame.at,e,c,d,hi,f,U,seen,GStep.after]
theorem ends_of_calls{Q:Value->World->Prop}(hi:P.inits.idxOf? f=none)(p:∀v d e,Q v d->Post v (d.at e))(h:fx P (ZI P Post 0) f args (λ_=>False) w (λ_ v d=>Q v d)):Ends P Post (solo (G (Frame.enter P f args .normal) []) w) #[]:=by
 have C:cC P true (λ_:Nat->Prop=>AtRel) DZ (ZI P Post 0):=ZI.closed;have T:=tV;obtain⟨g,c,m,_,r,y⟩:=h;have a:∀i (U:Act) (d:World) b,(U.defers=[]/\∃v,ResultsC P g U.tmps v/\Q v d)->ZI P Post 0 i (G { (base f).at U b with mode:=.returning } []) d:=by rintro i U d b ⟨s,v,n,x⟩;exact ZI.done Y (λe=>Fq Y s m hi (n _).1 (n _).2)<|λe=>p v d e x
 have z:ZI P Post 0 (λ_=>False) (G ((base f).at { tmps:=args++Array.replicate (g.ntmps-args.size) undef,defers:=[] } [.code c]) []) w:=by
  refine y (base f) [] [] Y (by simp[base]) λi e U d q=>?_;obtain⟨t,q⟩:=q;rcases t with rfl|rfl
  .exact C.step Y λo j=>by rw[stepG_end]; exact⟨(T i).idle _,C.rely (a i U d [] q) j⟩
  .exact λb=>a i U d b q
 rw[enter_at _ m r,solo_eq_crowd];have k:=past_nil
 have:=z 0 w.drawn (λ_=>False) #[G _ []] (λ_=>0) #[] none (λl u=>u.elim)
  ⟨Y,leavers_one _ _,k.clean,k.known,k.over,k.hears⟩;exact this
end
section
variable {ι:Type}{P:Program}{main:Bool}{R:ι->Wq}{D:ι->World->World->Array Event->Prop}{X:ι->Gq}{fn:FuncId}{Q:fO ι}{a:Act}{w:World}{vs:ι}
theorem cM.rely(C:cC P main R D X){c:List Nat}{d:World}(h:cM X fn ops c vs Q a w)(r:R vs w d):cM X fn ops c vs Q a d:=λb k e U g f=>C.rely (h b k e U g f) r
theorem dD(C:cC P main R D X)(T:∀i,Terms (R i)<|D i)(g:ops[i]?=some o)(j:Region.wanted o (yielded ops a.tmps)=true)
 (h:∀(b:World) (K:Act->World->Prop),(∀c,cM X fn ops rest vs Q c w->(execOp a.eval o).events P b #[]=#[]->K c b)->uponK o a K ((execOp a.eval o).run P b)):cM X fn ops (i::rest) vs Q a w :=
 aM C g j λb e K U=>h b K λc d f=>U c b ⟨by rw[listed_nil f];exact(T vs).idle _,d.rely C e⟩
theorem zh(C:cC P main R D X)(T:∀i,Terms (R i)<|D i){c:Operand}{x y:Code}{t:Bool}(b:a.eval c=.bool t)(h1:t=true->il X fn x vs Q a w)(U:t=false->il X fn y vs Q a w):il X fn (.cond c x y) vs Q a w:=by
 refine dP C T b ?_;cases t
 .exact U Y
 .exact h1 Y
end
def QM(P:Program)(f:FuncId)(args:Aq)(v:Value):Prop :=
 ∀(ι:Type) (R:ι->Wq) (D:ι->World->World->Array Event->Prop) (X:ι->Gq) (_:cC P true R D X) (_:∀i,Terms (R i)<|D i) (i:ι) (w:World),fx P X f args i w<|λi' x w'=>i'=i/\x=v/\w'=w
