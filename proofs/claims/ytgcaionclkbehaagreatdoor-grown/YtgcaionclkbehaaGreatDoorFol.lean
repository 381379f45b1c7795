
import Derived.Test.YtgcaionclkbehaaGreatDoorLone
import Derived.Conc.TokenWalk
import Derived.Maps.AppendAt
import Derived.OwnWalk
import Derived.Conc.AppendWalk
import Derived.Test.YtgcaionclkbehaaGreatDoorChecked
set_option linter.all false
set_option maxHeartbeats 2000000
set_option maxRecDepth 100000
namespace Go.Proofs.YtgcaionclkbehaaGreatDoor
open Go.Conc Go.RowKit Tryz
variable {x:Operand}{Pb b b' i id k o:Nat}{args' cap cs first xs:Aq}{e:Event}{c y:Code}{t ty:TypeId}{ops:Array Oper}{rest:List Nat}{f fn:FuncId}{aS:Func}{args:Array Operand}{ats:Array TypeId}{v v':Value}{vs:Vq}{fz:Nat × Nat}{K:Cfg}{P:Program}{w w':World}{es:Array Event}
structure bW{ι:Type}(P:Program)(main:Bool)(R:ι->Wq)(D:ι->World->World->Array Event->Prop)(X:ι->Gq):Prop where
 rely:∀{vs g w aE},X vs g w->R vs w aE->X vs g aE
 step:∀{vs g w},g.status=.running->(∀aE,R vs w aE->(stepG P main g aE).goes λg' w' es=>D vs aE w' es/\X vs g' w')->X vs g w
def qK{ι:Type}(X:ι->Gq)(vs:ι)(b:Frame)(k:List Item)(cs:List Frame):Exit->Act->World->Prop
 | .normal,a,w=>X vs (G (b.at a k) cs) w
 | .exit id,a,w=>∃k',exitTo id k=some k'/\X vs (G (b.at a k') cs) w
 | .ret,a,w=>∀todo,X vs (G { b.at a todo with mode:=.returning } cs) w
 | _,_,_=>False
abbrev ei(ι:Type):=ι->Exit->Act->World->Prop
def wK{ι:Type}(T:ι->Act->World->Prop)(Q:ei ι):ei ι
 | vs,.normal,a,w=>T vs a w
 | vs,e,a,w=>Q vs e a w
def jP{ι:Type}(id:Nat)(Q:ei ι):ei ι
 | vs,.exit T4,a,w=>if T4=id then Q vs .normal a w else Q vs (.exit T4) a w
 | vs,e,a,w=>Q vs e a w
def fA {ι:Type}(X:ι->Gq)(fn:FuncId)(c:Code)(vs:ι)(Q:ei ι)(a:Act)(w:World):Prop :=
 ∀(b:Frame) (k:List Item) (cs:List Frame),b.fn=fn->b.kind≠.early->(∀fE e a' w',Q fE e a' w'->qK X fE b k cs e a' w')->X vs (G (b.at a (.code c::k)) cs) w
def ce {ι:Type}(X:ι->Gq)(fn:FuncId)(ops:Array Oper)(todo:List Nat)(vs:ι)(Q:ei ι)(a:Act)(w:World):Prop :=
 ∀(b:Frame) (k:List Item) (cs:List Frame),b.fn=fn->b.kind≠.early->(∀fE e a' w',Q fE e a' w'->qK X fE b k cs e a' w')->X vs (G (b.at a (.inRegion ops todo::k)) cs) w
variable {a:Act}
section
variable {ι:Type}{P:Program}{main:Bool}{R:ι->Wq}{D:ι->World->World->Array Event->Prop}{X:ι->Gq}{fn:FuncId}{Q Q':ei ι}{w:World}{vs:ι}
theorem qK.push{x:Item}{b:Frame}{k:List Item}{cs:List Frame}{e:Exit}(g:x.plain=true)(U:e≠.normal)(h:qK X vs b k cs e a w):qK X vs b (x::k) cs e a w:=by
 cases e with
 | normal=>exact absurd rfl U
 | exit id=>obtain⟨d,f,c⟩:=h;exact⟨d,by cases x<;>simp_all [exitTo,Item.plain],c⟩
 | ret=>exact h
 | goto l=>exact h
 | panic ch=>exact h
 | outgrown=>exact h
def lM(h:fA X fn c vs Q a w)(hq:∀vs e a w,Q vs e a w->Q' vs e a w):fA X fn c vs Q' a w:=λb k cs hb hk hc=>h b k cs hb hk λfE e a' w' q=>hc fE e a' w' (hq fE e a' w' q)
section
variable (C:bW P main R D X)
section
variable (T:∀i,Terms (R i) (D i))
def lN(h:Q vs .normal a w):fA X fn .skip vs Q a w:=λb k f _ _ e=>C.step rfl λd c=>by rw[stepG_skip];exact⟨(T vs).idle _,C.rely (e _ _ _ _ h) c⟩
def n6(h:Q vs .ret a w):fA X fn .ret vs Q a w:=λb k f _ _ e=>C.step rfl λd c=>by rw[stepG_ret'];exact⟨(T vs).idle _,C.rely (e _ _ _ _ h _) c⟩
def qC(h:Q vs (.exit id) a w):fA X fn (.exit id) vs Q a w:=λb k i _ _ f=>by have⟨j,d,g⟩:=f _ _ _ _ h;exact C.step rfl λe c=>by rw[stepG_exit d];exact⟨(T vs).idle _,C.rely g c⟩
def GY{l:Nat}(h:Q vs .normal a w):fA X fn (.label l) vs Q a w:=λb k f _ _ e=>C.step rfl λd c=>by rw[stepG_label];exact⟨(T vs).idle _,C.rely (e _ _ _ _ h) c⟩
def bQ{x:Code}(h:fA X fn x vs (wK (λf i n=>fA X fn y f Q i n) Q) a w):fA X fn (.seq x y) vs Q a w:=by
 intro b k g j m c;have p:X vs (G (b.at a (.code x::.code y::k)) g) w:=by
  refine h b (.code y::k) g j m λf e i n q=>?_;cases e with
  | normal=>exact q b k g j m c
  | exit id=>exact(c _ _ _ _ q).push rfl iq
  | ret=>exact(c _ _ _ _ q).push rfl iq
  | goto l=>exact c _ _ _ _ q
  | panic ch=>exact c _ _ _ _ q
  | outgrown=>exact c _ _ _ _ q
 exact C.step rfl λo d=>by rw[stepG_seq];exact⟨(T vs).idle _,C.rely p d⟩
def eG{c:Operand}{x:Code}{t:Bool}(hc:a.eval c=.bool t)(h:fA X fn (if t then x else y) vs Q a w):fA X fn (.cond c x y) vs Q a w :=
 λb k cs hb hk hq=>C.step rfl λaE cg=>by rw[stepG_cond hc];exact⟨(T vs).idle _,C.rely (h b k cs hb hk hq) cg⟩
end
end
theorem gZ(C:bW P main R D X)(T:∀i,Terms (R i) (D i))(h:fA X fn c vs (jP id Q) a w):fA X fn (.block id c) vs Q a w:=by
 intro b k j o r U;have s:X vs (G (b.at a (.code c::.inBlock id::k)) j) w:=by
  refine h b (.inBlock id::k) j o r λn e u v q=>?_;cases e with
  | normal=>exact C.step rfl λf d=>by rw[stepG_inBlock];exact⟨(T n).idle _,C.rely (U _ _ _ _ q) d⟩
  | exit a1 =>
   by_cases g:a1=id
   .simp only[jP,g,if_true] at q;exact⟨k,by simp[exitTo,g],U _ _ _ _ q⟩
   .simp only[jP,g,if_false] at q;have⟨t,m,p⟩:=U _ _ _ _ q;have:(id==a1)=false:=gq
    exact⟨t,by simp[exitTo,this,m],p⟩
  | ret=>exact U _ _ _ _ q
  | goto l=>exact U _ _ _ _ q
  | panic ch=>exact U _ _ _ _ q
  | outgrown=>exact U _ _ _ _ q
 exact C.step rfl λf d=>by rw[stepG_block];exact⟨(T vs).idle _,C.rely s d⟩
section
variable (C:bW P main R D X)
section
variable (T:∀i,Terms (R i) (D i))
def Bg(I:Nat->ι->Act->World->Prop)(n:Nat)(Qq:I n vs a w)
 (round:∀n vs a w,I n vs a w->fA X fn c vs (wK (λfE a' w'=>∃n',n'<n/\I n' fE a' w') Q) a w):fA X fn (.loop c) vs Q a w:=by
 intro b k cs hb hk hc;have key:∀n vs a w,I n vs a w->X vs (G (b.at a (.code c::.inLoop c::k)) cs) w:=by
  intro n;induction n using Nat.strongRecOn with
  | _ n ih =>
   intro vs a w hI;refine round n vs a w hI b (.inLoop c::k) cs hb hk λfE e a' w' q=>?_;cases e with
   | normal =>obtain⟨n',hn,Te⟩:=q;exact C.step rfl λaE cg=>by rw[stepG_inLoop];exact⟨(T fE).idle _,C.rely (ih n' hn fE a' w' Te) cg⟩
   | exit id=>exact(hc _ _ _ _ q).push rfl iq
   | ret=>exact(hc _ _ _ _ q).push (x:=.inLoop c) rfl iq
   | goto l=>exact hc _ _ _ _ q
   | panic ch=>exact hc _ _ _ _ q
   | outgrown=>exact hc _ _ _ _ q
 exact C.step rfl λaE cg=>by rw[stepG_loop];exact⟨(T vs).idle _,C.rely (key n vs a w Qq) cg⟩
def aN(h:ce X fn ops (List.range ops.size) vs Q a w):fA X fn (.region id ops false) vs Q a w :=
 λb k cs hb hk hc=>C.step rfl λaE cg=>by rw[stepG_region];exact⟨(T vs).idle _,C.rely (h b k cs hb hk hc) cg⟩
def aW(h:Q vs .normal a w):ce X fn ops [] vs Q a w:=λb k f _ _ e=>C.step rfl λd c=>by rw[stepG_region_end];exact⟨(T vs).idle _,C.rely (e _ _ _ _ h) c⟩
def gB{o:Oper}(ho:ops[i]?=some o)(hw:Region.wanted o (yielded ops a.tmps)=false)(h:ce X fn ops rest vs Q (a.put o.dst undef) w):ce X fn ops (i::rest) vs Q a w :=
 λb k cs hb hk hc=>C.step rfl λaE cg=>by rw[stepG_unwanted ho hw];exact⟨(T vs).idle _,C.rely (h b k cs hb hk hc) cg⟩
end
end
theorem aG(C:bW P main R D X){o:Oper}(p:ops[i]?=some o)(q:Region.wanted o (yielded ops a.tmps)=true)
 (h:∀c,R vs w c->∀K:Act->World->Prop,(∀j f,D vs c f (listed P fn a o c)/\ce X fn ops rest vs Q j f->K j f)->uponK o a K ((execOp a.eval o).run P c)):ce X fn ops (i::rest) vs Q a w:=by
 intro b k m l U n;refine C.step rfl λc e=>goes_oper p q U ?_
 have:=h c e _ λ_ _ x=>x;revert this;cases (execOp a.eval o).run P c with
 | ok x f=>cases x<;>first|exact λ⟨d,g⟩=>⟨l▸d,g b k m l U n⟩|exact id
 | halt _ _=>exact id
def Gu(C:bW P main R D X)(T:∀i,Terms (R i) (D i)){o:Oper}{first cap:Array Value}
 (ho:ops[i]?=some o)(hw:Region.wanted o (yielded ops a.tmps)=true)(ko:o.op=.call { callee:=.value x,args,argTypes:=ats })(hx:a.eval x=.func (.func f) first cap)
 (hf : P.funcs[f]? = some aS)(lm : (aS.name == "runtime.NumGoroutine") = false)(hb : aS.body = some c)
 (h:fA X f c vs (λfE e a' w'=>(e=.normal\/e=.ret)/\a'.defers=[]/\∃v,ResultsC P aS a'.tmps v/\ce X fn ops rest fE Q (a.put o.dst v) w')
   { tmps:=(first++args.map a.eval++cap)++Array.replicate (aS.ntmps-(first++args.map a.eval++cap).size) undef,defers:=[] } w):ce X fn ops (i::rest) vs Q a w:=by
 intro b k cs pP hk hc;have VM:aS.body.isNone=false:=by rw[hb]; rfl
 have zU:∀v,(b.at a (.inRegion ops (i::rest)::k)).finish v=b.at (a.put o.dst v) (.inRegion ops rest::k):=λv=>by rw[Frame.finish_at,ho]; rfl
 have ub:∀(fE:ι) (a':Act) (w':World) (todo:List Item),(a'.defers=[]/\∃v,ResultsC P aS a'.tmps v/\ce X fn ops rest fE Q (a.put o.dst v) w') ->
   X fE (G { (base f).at a' todo with mode:=.returning } (b.at a (.inRegion ops (i::rest)::k)::cs)) w':=by rintro fE a' w' todo ⟨hd,v,hr,hp⟩;refine C.step rfl λaE cg=>?_;rw[stepG_leave rfl hd hf (hr aE).1 (hr aE).2,zU];exact⟨(T fE).idle _,C.rely (hp b k cs pP hk hc) cg⟩
 refine C.step rfl λaE cg=>?_;obtain⟨hr,he⟩:=jz ko hx hf lm VM;rw[stepG_enter ho hw hk hr,enter_at _ hf hb];have hl:listed P b.fn a o aE=#[]:=listed_nil he;rw[hl];refine⟨(T vs).idle _,C.rely (h (base f) [] _ rfl (by simp[base]) λfE e a' w' q=>?_) cg⟩;obtain⟨X5,q⟩:=q;rcases X5 with rfl|rfl
 .exact C.step rfl λoh I5=>by rw[stepG_end]; exact⟨(T fE).idle _,C.rely (ub fE a' w' [] q) I5⟩
 .exact λtodo=>ub fE a' w' todo q
def eM(P:Program)(X:ι->Goroutine->World->Prop)(f:FuncId)(args:Array Value)(vs:ι)(w:World)(Post:ι->Value->World->Prop):Prop :=
 ∃ aS c, P.funcs[f]? = some aS /\ (aS.name == "runtime.NumGoroutine") = false /\ aS.body = some c /\
  fA X f c vs (λfE e a' w'=>(e=.normal\/e=.ret)/\a'.defers=[]/\∃v,ResultsC P aS a'.tmps v/\Post fE v w') { tmps:=args++Array.replicate (aS.ntmps-args.size) undef,defers:=[] } w
def gU{args : Array Value}{Post : ι -> Value -> World -> Prop}(hf : P.funcs[f]? = some aS)(lm : (aS.name == "runtime.NumGoroutine") = false)(hb : aS.body = some c)
 (h:fA X f c vs (λfE e a' w'=>(e=.normal\/e=.ret)/\a'.defers=[]/\∃v,ResultsC P aS a'.tmps v/\Post fE v w') { tmps:=args++Array.replicate (aS.ntmps-args.size) undef,defers:=[] } w):eM P X f args vs w Post:=⟨aS,c,hf,lm,hb,h⟩
def jX(C:bW P main R D X)(T:∀i,Terms (R i) (D i)){o:Oper}{wP:ι}{Post:ι->Value->World->Prop}
 (u:ops[i]?=some o)(y:Region.wanted o (yielded ops a.tmps)=true)(l:o.op=.call { callee:=.value x,args,argTypes:=ats })(z:a.eval x=.func (.func f) first cap)
 (d:first++args.map a.eval++cap=args')(m:vs=wP)
 (g:eM P X f args' wP w Post)(j:∀b v k,Post b v k->ce X fn ops rest b Q (a.put o.dst v) k):ce X fn ops (i::rest) vs Q a w:=by subst d m;have⟨n,c,s,t,r,h⟩:=g;refine Gu C T u y l z s t r (lM h λb e A k q=>?_);have⟨h1,h2,v,h3,p⟩:=q;exact⟨h1,h2,v,h3,j b v k p⟩
end
abbrev Ph:=Sum (Vq) (Sum (Vq) (Sum Unit Nat))
abbrev Ph.front(vs:Vq):Ph:=.inl vs
abbrev Ph.walk(vs:Vq):Ph:=.inr (.inl vs)
abbrev Ph.over:Ph:=.inr (.inr (.inl ()))
abbrev Ph.join(L:Nat):Ph:=.inr (.inr (.inr L))
theorem Ph.bV{motive:Ph->Prop}(front:∀(vs:Vq),motive (Ph.front vs))(walk:∀(vs:Vq),motive (Ph.walk vs))(over:motive Ph.over)(join:∀L:Nat,motive (Ph.join L))(x:Ph):motive x:=gq
section
variable (K:Cfg)[ConcX.Payload][ConcR.Payload][ConcX.Shy K.Wg K.C](Az:Gq)
def oa:Ph->World->World->Prop
 | .inr (.inr (.inr _))=>iv K
 | _=>RM K
def tj:Ph->World->World->Array Event->Prop
 | .inr (.inr (.inr L))=>mL K L
 | _=>DM K
def XM:Ph->Goroutine->World->Prop
 | .inl vs=>Way K.P true (RM K) (DM K) (j1 K Az vs)
 | .inr (.inl vs)=>Way K.P true (RM K) (DM K) (j1 K Az vs)
 | .inr (.inr (.inl _))=>Way K.P true (RM K) (DM K) (wT K Az)
 | .inr (.inr (.inr L))=>Way K.P true (iv K) (mL K L) (vw K L Az)
end
variable {aE oh:World}
section
variable {K:Cfg}[ConcX.Payload][ConcR.Payload][ConcX.Shy K.Wg K.C]{Az:Gq}{i:Ph}{w:World}
def wz(h:iv K w aE)(h':iv K aE oh):iv K w oh :=
 ⟨⟨h'.aside.tape.trans h.aside.tape,h'.aside.os.trans h.aside.os,h'.aside.output.trans h.aside.output,h'.aside.size.trans h.aside.size,λb a c=>(h'.aside.block b a c).trans (h.aside.block b a c)⟩,h'.ka ∘ h.ka,h'.kc ∘ h.kc⟩
def oa.trans(h:oa K i w aE)(a:oa K i aE oh):oa K i w oh:=by
 cases i using Ph.bV with
 | join=>exact wz h a
 | _=>exact RM.trans h a
def rJ(i:Ph):Terms (oa K i) (tj K i):=by
 refine⟨λ_ _ _=>oa.trans,λw=>?_⟩;cases i using Ph.bV with
 | join=>exact⟨λ_ _=>rfl,by simp⟩
 | _=>exact⟨λ_ _=>rfl,λ_ h=>h,lr,by simp⟩
def XM.closed:bW K.P true (oa K) (tj K) (XM K Az) where
 rely:=by
  intro i g w a h d
  cases i using Ph.bV with
  | join=>exact Way.rely (R:=iv K) (λ_ _ _=>wz) h d
  | _=>exact Way.rely (R:=RM K) (λ_ _ _=>RM.trans) h d
 step:=by
  intro i g w f h
  cases i using Ph.bV <;>
  .
   refine Way.step f λa c=>?_
   have b:=h a c
   cases e:stepG K.P true g a with
   | go g' w' es=>rw[e,goes_go] at b;exact⟨g',w',es,rfl,b.1,b.2⟩
   | _=>rw[e] at b;exact b.elim
def XM.Je{g:Goroutine}(hs:g.status=.running)(h:∀aE,RM K w aE->BF K aE->∀L,K.N0<=L->XM K Az (.join L) g aE):XM K Az .over g w :=
 Way.stop λaE cg=>⟨hs,λhk L hL=>h aE cg hk L hL⟩
variable {fn:FuncId}{ops:Array Oper}{j:Nat}{rest:List Nat}{o:Oper}{Q:ei Ph}
def Kb{l:Bool}{Next:Gq}(i:ops[j]?=some o)(q:Region.wanted o (yielded ops a.tmps)=true){b:Frame}{d:List Item}{cs:List Frame}(g:b.kind≠.early)
 (n:∀w,(execOp a.eval o).run K.P w=.ok (.comm K.cases true .select) w)(m:∀w,(execOp a.eval o).events K.P w #[]=#[])
 (h:∀c,RM K w c->K.N0<=c.heap.size->Next (G (b.at (a.put o.dst (commResult K.cases .select k v l)) (.inRegion ops rest::d)) cs) c):yE K k v l Next (G (b.at a (.inRegion ops (j::rest)::d)) cs) w:=by
 refine⟨rfl,G (b.at a (.inRegion ops (j::rest)::d)) cs,rfl,rfl,rfl,λc _=>?_,λc f p=>?_⟩
 .rw[stepG_comm i q g (n c),listed_none (m c)]
 .have e:∀u,Conc.served (G (b.at a (.inRegion ops (j::rest)::d)) cs) u=G (b.at (a.put o.dst u) (.inRegion ops rest::d)) cs:=λu=>by
   have:(b.at a (.inRegion ops (j::rest)::d)).finish u=b.at (a.put o.dst u) (.inRegion ops rest::d):=by rw[Frame.finish_at,i];rfl
   simp only[Conc.served,G];rw[this]
  rw[e];exact h c f p
def Ao(hi:i=.front (v::vs)\/i=.walk (v::vs))(p:ops[j]?=some o)(s:Region.wanted o (yielded ops a.tmps)=true)
 (q:∀w,(execOp a.eval o).run K.P w=.ok (.comm K.cases true .select) w)(n:∀w,(execOp a.eval o).events K.P w #[]=#[])
 (h:∀c,RM K w c->K.N0<=c.heap.size->ce (XM K Az) fn ops rest (.walk vs) Q (a.put o.dst (commResult K.cases .select 0 v true)) c):ce (XM K Az) fn ops (j::rest) i Q a w:=by
 intro b t k l d m;rcases hi with rfl|rfl <;>
 .refine Way.stop λc e=>(Kb p s d q n λg f r=>?_);rw[uj];exact h g (RM.trans e f) r b t k l d m
def JP(hi:i=.front []\/i=.walk [])(p:ops[j]?=some o)(s:Region.wanted o (yielded ops a.tmps)=true)
 (q:∀w,(execOp a.eval o).run K.P w=.ok (.comm K.cases true .select) w)(n:∀w,(execOp a.eval o).events K.P w #[]=#[])
 (h:∀c,RM K w c->K.N0<=c.heap.size->ce (XM K Az) fn ops rest .over Q (a.put o.dst (commResult K.cases .select 1 K.zE false)) c):ce (XM K Az) fn ops (j::rest) i Q a w:=by
 intro b t k l d m;rcases hi with rfl|rfl <;>
 .exact Way.stop λc e=>(Kb p s d q n λg f r=>(h g (RM.trans e f) r b t k l d m))
end
def ZI (P:Program)(Post:Value->World->Prop)(d:Nat)(S:Nat->Prop)(g:Goroutine)(w:World):Prop:=∀N,Z P Post (λb=>¬S b) N d g w
def EvS (S:Nat->Prop)(e:Event):Prop:=(∀x,(MemAct.ofEvent e).touch?=some x->∀ad:Addr,x.loc=.cell ad->¬S ad.block)/\e.loc≠.mark .disable/\e.loc≠.mark .enable
def DZ (S:Nat->Prop)(_ _:World)(es:Array Event):Prop:=∀e∈es,EvS S e
section
variable {P:Program}{Post:Value->World->Prop}{d d':Nat}{S:Nat->Prop}{g g':Goroutine}{w w':World}
def ZI.closed:bW P true (λ_:Nat->Prop=>AtRel) DZ (ZI P Post d) where
 rely:=λ{S g w a} h hr N=>(Z.closed (P:=P) (Post:=Post) (Ok:=λb=>¬S b) (N:=N) (d:=d)).rely (vs:=()) (h N) hr
 step:=by
  intro S g w m h N
  refine(Z.closed (Post:=Post) (Ok:=λb=>¬S b) (d:=d)).step (vs:=()) m λa f=>?_
  have c:=h a f
  cases e:stepG P true g a with
  | go g' w' es =>
   rw[e,goes_go] at c
   rw[goes_go]
   exact⟨λi j=>⟨λx n k l=>.inl ((c.1 i j).1 x n k l),(c.1 i j).2.1,(c.1 i j).2.2⟩,c.2 N⟩
  | _=>rw[e] at c;exact c.elim
def uO(S:Nat->Prop):Terms AtRel (DZ S):=⟨atRel_trans,λ_ e a=>by simp at a⟩
def ZI.done(c:g.status=.running)(a:∀e,stepG P true g (w.at e)=.ended (.done v) (w.at e) #[])(b:∀e,Post v (w.at e)):ZI P Post 0 S g w:=λ_=>Z.done c a b
def ZI.goes{k:Event->Prop}{Stop:Gq}{n:Nat}(i:∀e,k e->EvS S e)(b:∀g w,(∀a,AtRel w a->Stop g a)->ZI P Post d S g w)(h:Goes P true AtRel (λ_ _ j=>∀e∈j,k e) Stop n g w):ZI P Post d S g w:=by
 induction n generalizing g w with
 | zero=>exact b _ _ h
 | succ n m =>
  rcases h with h|⟨hs,h⟩
  .exact b _ _ h
  .refine ZI.closed.step hs λa f=>?_;have c:=h a f;cases e:stepG P true g a with
   | go g' w' j=>rw[e,goes_go] at c;rw[goes_go];exact⟨λe l=>i e (c.1 e l),m c.2⟩
   | _=>rw[e] at c;exact c.elim
def ZI.HI{m:Mark}{Next:Gq}(p:(MemAct.mark m).touch?=none)(o:deafBehind d #[⟨.mark m,false,true⟩]=d')(r:∀g w,Next g w->ZI P Post d' S g w)(h:∀a,AtRel w a->g.status=.running/\∃f,stepG P true g a=.go f a #[⟨.mark m,false,true⟩]/\Next f a):ZI P Post d S g w:=by intro N;refine Z.pick (h w (atRel_refl w)).1 λe b y q t s n i=>?_;have⟨_,v,c,l⟩:=h (w.at e) ⟨e,rfl⟩;refine⟨_,_,runT_crowd_go i.h0 (show stepG P (0==0) g (w.at e)=_ from c),?_⟩;refine r _ _ l N e b _ q _ s n (i.own (λu j x k _=>?_) o);rw[El] at j;subst j;rw[show MemAct.ofEvent ⟨.mark m,false,true⟩=.mark m from rfl,p] at k;cases k
def ZI.fork{a:Goroutine}(q:g.status=.running)(i:∀e,stepG P true g (w.at e)=.spawn g' a (w.at e) #[])
 (h:∀(e:Nat) (Shun:Loc->Prop),(∀l,Shun l->∃d:Addr,l=.cell d/\S d.block)->∃K j k m b c r f n,Forked P Post Shun g' a (w.at e) K j k m b c r f n):ZI P Post 0 S g w:=by intro N;refine Z.fork q i λe Shun o=>h e Shun λl p=>?_;obtain⟨d,rfl,_,h2⟩:=o l p;exact⟨d,rfl,Classical.not_not.1 h2⟩
abbrev AU(K:Cfg)(F:K.Fit)(stop:Gq):ConcX.Shy K.Wg K.C where
 ok:=λact=>(∀z,act.touch?=some z->(∃ad:Addr,z.loc=.cell ad/\ad.block=K.C)\/(∃ad:Addr,z.loc=.cell ad/\ad.block=K.Wg/\z.kind≠.plain))/\act.low K.B
 atomicWg:=λa wr h=>⟨λz hz=>.inr (by
  simp only[MemAct.touch?,Option.some.injEq] at hz
  subst hz
  exact⟨a,rfl,h,by simp⟩),by show a.block<K.B; rw[h]; exact F.WB⟩
 readWg:=λa h=>⟨λz hz=>.inr (by
  simp only[MemAct.touch?,Option.some.injEq] at hz
  subst hz
  exact⟨a,rfl,h,by simp⟩),by show a.block<K.B; rw[h]; exact F.WB⟩
 writeWg:=λa h=>⟨λz hz=>.inr (by
  simp only[MemAct.touch?,Option.some.injEq] at hz
  subst hz
  exact⟨a,rfl,h,by simp⟩),by show a.block<K.B; rw[h]; exact F.WB⟩
 theirs:=λa wr h=>⟨λz hz=>.inl (by
  simp only[MemAct.touch?,Option.some.injEq] at hz
  subst hz
  exact⟨a,rfl,h⟩),by show a.block<K.B; rw[h]; exact F.CB⟩
 disable:=⟨λx hx=>(by cases hx),trivial⟩
 enable:=⟨λx hx=>(by cases hx),trivial⟩
 relMerge:=⟨λx hx=>(by cases hx),F.WB⟩
 acquire:=⟨λx hx=>(by cases hx),F.WB⟩
 go1:=⟨λx hx=>(by cases hx),trivial⟩
 start:=⟨λx hx=>(by cases hx),trivial⟩
 stop:=stop
def Nj(K:Cfg)(F:K.Fit)(stop:Gq):@mP K (AU K F stop):=@mP.mk K (AU K F stop) λ_ h=>h
end
def u0 (M:Nat->Prop)(e:Event):Prop :=
 (∃ad:Addr,e.loc=.cell ad/\M ad.block)\/(∃b wr,e=⟨.obj b,wr,false⟩/\M b)\/((MemAct.ofEvent e).touch?=none/\e.loc≠.mark .disable/\e.loc≠.mark .enable/\∀a,MemAct.ofEvent e≠.mark (.release a))
structure Own(KT:TypeId->Prop)(M:World->Nat->Prop)(w w':World):Prop where
 tape:w'.tape=w.tape
 os:w'.os=w.os
 output:w'.output=w.output
 grow:w.heap.size<=w'.heap.size
 block:∀b,b<w.heap.size->¬M w b->w'.heap[b]?=w.heap[b]?
 kt:∀(b:Nat) (o:Obj),w'.heap[b]?=some o->KT (GU o)->w'.heap[b]?=w.heap[b]?
structure Env(KT:TypeId->Prop)(N0:Nat)(M:World->Nat->Prop)(O:Nat->Prop)(R:Wq)(D:World->World->Array Event->Prop):Prop where
 lt:∀{w:World} {b:Nat},M w b->b<w.heap.size
 keep:∀{w aE:World} {b:Nat},R w aE->M w b->aE.heap[b]?=w.heap[b]?
 stay:∀{w aE:World} {b:Nat},R w aE->M w b->M aE b
 tape:∀{w aE:World},R w aE->aE.tape=w.tape
 os:∀{w aE:World},R w aE->aE.os=w.os
 output:∀{w aE:World},R w aE->aE.output=w.output
 size:∀{w aE:World},R w aE->w.heap.size<=aE.heap.size
 jb:∀{w w':World} {es:Array Event},N0<=w.heap.size->Own KT M w w'->(∀e∈es,u0 (M w') e)->D w w' es
 mine:∀{w w':World} {b:Nat},Own KT M w w'->M w b->M w' b
 new:∀{w w':World} {b:Nat},N0<=w.heap.size->Own KT M w w'->w.heap.size<=b->b<w'.heap.size->M w' b
 MV:∀{w aE:World} {b:Nat},R w aE->O b->b<w.heap.size->aE.heap[b]?=w.heap[b]?
 g9:∀{w w':World} {b:Nat},O b->b<w'.heap.size->M w b->M w' b
 tM:∀w:World,R w { w with drawn:=w.drawn+1 }
 y9:LetsDraw D
structure Kept(M:World->Nat->Prop)(O:Nat->Prop)(Ex:Nat->Prop)(w₀ w:World):Prop where
 tape:w.tape=w₀.tape
 os:w.os=w₀.os
 output:w.output=w₀.output
 grow:w₀.heap.size<=w.heap.size
 block:∀b,M w₀ b->¬Ex b->w.heap[b]?=w₀.heap[b]?
 mine:∀b,M w₀ b->M w b
 low:∀b,O b->b<w₀.heap.size->¬Ex b->w.heap[b]?=w₀.heap[b]?
variable {KT:TypeId->Prop}{N0:Nat}{M:World->Nat->Prop}{O Ex:Nat->Prop}{R:Wq}{D:World->World->Array Event->Prop}{w₀:World}
section
variable {Hn:Nat->Prop}{w w':World}
def Own.refl(w:World):Own KT M w w:=⟨rfl,rfl,rfl,lr,λ_ _ _=>rfl,λ_ _ _ _=>rfl⟩
def Own.alloc(e:¬KT t)(fz:Nat × Nat:=(0,0)):Own KT M w (w.alloc (.cells cs t fz)):=by
 refine⟨rfl,rfl,rfl,by simp[World.size_alloc],λb a _=>Below.heap_alloc _ _ _ a,λb f h d=>?_⟩;by_cases a:b<w.heap.size
 .exact Below.heap_alloc _ _ _ a
 .have c:=(oK.1 h).1;have:b=w.heap.size:=by simp[World.size_alloc] at c;omega
  subst this;rw[heap_alloc_new] at h;cases h;exact absurd d e
section
variable (hb:w.heap[b]?=some (.cells cs t fz))
def Own.setCell{x:Value}(c:M w b)(d:¬KT t):Own KT M w (w.setCell ⟨b,o,none⟩ x):=by
 refine⟨rfl,rfl,rfl,by simp[World.setCell],λk _ a=>Below.heap_setCell _ _ _ _ (λe=>a (e▸c)),λk f h a=>?_⟩;by_cases e:k=b
 .subst e;have:(w.setCell ⟨k,o,none⟩ x).heap[k]?=some (.cells (cs.setIfInBounds o x) t fz):=by simp[World.setCell,IF,hb]
  rw[this] at h;cases h;exact absurd a d
 .exact Below.heap_setCell _ _ _ _ e
def Own.setRow(d:M w b)(f:¬KT t):Own KT M w (w.setRow b xs):=by
 have c:∀k,k≠b->(w.setRow b xs).heap[k]?=w.heap[k]?:=λk a=>by simp[World.setRow,IF,Ne.symm a]
 refine⟨rfl,rfl,rfl,by simp[World.setRow],λk _ a=>c k (λe=>a (e▸d)),λk g h a=>?_⟩;by_cases e:k=b
 .subst e;have:(w.setRow k xs).heap[k]?=some (.cells xs t fz):=by simp[World.setRow,IF,hb]
  rw[this] at h;cases h;exact absurd a f
 .exact c k e
end
def Own.Hx{o:Obj}(e:¬KT (GU o)):Own KT M w (w.alloc o):=by
 refine⟨rfl,rfl,rfl,by simp[World.size_alloc],λb a _=>Below.heap_alloc _ _ _ a,λb f h d=>?_⟩;by_cases a:b<w.heap.size
 .exact Below.heap_alloc _ _ _ a
 .have c:=(oK.1 h).1;have:b=w.heap.size:=by simp[World.size_alloc] at c;omega
  subst this;rw[heap_alloc_new] at h;cases h;exact absurd d e
theorem Own.setObj{o:Obj}(c:¬KT (GU o))(a:M w b):Own KT M w { w with heap:=w.heap.setIfInBounds b o }:=by
 refine⟨rfl,rfl,rfl,by simp,λk _ U=>?_,λk d h U=>?_⟩
 .grind
 .grind
def Kept.refl(w:World):Kept M O Ex w w:=⟨rfl,rfl,rfl,lr,λ_ _ _=>rfl,λ_ h=>h,λ_ _ _ _=>rfl⟩
section
variable (E:Env KT N0 M O R D)
section
variable (h:Kept M O Ex w₀ w)
def Kept.rely(r:R w aE):Kept M O Ex w₀ aE :=
 ⟨(E.tape r).trans h.tape,(E.os r).trans h.os,(E.output r).trans h.output,lT h.grow (E.size r),λb hb hx=>(E.keep r (h.mine b hb)).trans (h.block b hb hx),λb hb=>E.stay r (h.mine b hb),λb ho hl hn=>(E.MV r ho (lL hl h.grow)).trans (h.low b ho hl hn)⟩
def Kept.own(o:Own KT M w w')(hx:∀b,M w₀ b->¬Ex b->w'.heap[b]?=w.heap[b]?):Kept M O Ex w₀ w' :=
 ⟨o.tape.trans h.tape,o.os.trans h.os,o.output.trans h.output,lT h.grow o.grow,λb hb hn=>(hx b hb hn).trans (h.block b hb hn),λb hb=>E.mine o (h.mine b hb),λb ho hl hn=>((Classical.em (M w b)).elim (λhm=>hx b (E.g9 ho hl hm) hn) (λhm=>o.block b (lL hl h.grow) hm)).trans (h.low b ho hl hn)⟩
def Kept.trans(h':Kept M O Hn w aE)(hx:∀b,Hn b->Ex b\/w₀.heap.size<=b):Kept M O Ex w₀ aE :=
 ⟨h'.tape.trans h.tape,h'.os.trans h.os,h'.output.trans h.output,lT h.grow h'.grow,λb hb hn=>(h'.block b (h.mine b hb) λz=>(hx b z).elim hn λz=>absurd (E.lt hb) oq).trans (h.block b hb hn),λb hb=>h'.mine b (h.mine b hb),λb ho hl hn=>(h'.low b ho (lL hl h.grow) λz=>(hx b z).elim hn λz=>absurd hl oq).trans (h.low b ho hl hn)⟩
end
end
def cO(K:Cfg)(w:World)(b:Nat):Prop:=b<w.heap.size/\¬K.dT w b/\¬K.Still b/\¬K.VC b/\∀ad:Addr,ad.block=b->¬K.Shun (.cell ad)
def g9 (K:Cfg)(b:Nat):Prop:=b<K.N0/\¬K.qL b/\¬K.VC b
theorem PM(F:K.Fit)(h:u0 (cO K w') e):Vz K w' e:=by
 rcases h with ⟨ad,he,hl,hk,hs,_,hh⟩|⟨b,f,rfl,hl,hk,hs,hy,hh⟩|⟨h1,h2,h3,h4⟩
 .have⟨l,f,g⟩:=e;obtain rfl:l=.cell ad:=he;have U:∀x,(MemAct.ofEvent ⟨.cell ad,f,g⟩).touch?=some x->x.loc=.cell ad:=by intro x a;cases f<;>cases g<;>(simp[MemAct.ofEvent,MemAct.touch?] at a;rw[<-a])
  refine⟨λx a=>⟨⟨?_,?_,?_⟩,⟨λc d=>?_,λc d=>?_⟩⟩,by simp,by simp,by cases f<;>cases g<;>simp[MemAct.ofEvent]⟩
  .rw[U x a];rintro(⟨c,e,h⟩|e|⟨c,e,h⟩)
   .cases e;exact hk h
   .cases e
   .cases e
  .rw[U x a];rintro⟨c,e,h⟩;cases e;exact absurd h hs
  iterate 3
   .grind
 .have U:∀x,(MemAct.ofEvent ⟨.obj b,f,false⟩).touch?=some x->x.loc=.obj b:=by intro x a;cases f<;>(simp[MemAct.ofEvent,MemAct.touch?] at a;rw[<-a])
  refine⟨λx a=>⟨⟨?_,?_,?_⟩,⟨λc d=>?_,λc d=>?_⟩⟩,by simp,by simp,by cases f<;>simp[MemAct.ofEvent]⟩
  .rw[U x a];rintro(⟨c,e,h⟩|e|⟨c,e,h⟩)
   .cases e
   .cases e;exact hy (.inr (.inl rfl))
   .cases e;exact hk h
  .rw[U x a];rintro⟨c,e,h⟩;cases e
  .rw[U x a];intro h;have⟨c,e,_⟩:=F.j8 _ h;cases e
  .grind
  .grind
 .exact⟨λx a=>gq,h2,h3,h4 _⟩
theorem zl(F:K.Fit):Env K.KT K.N0 (cO K) (g9 K) (RM K) (DM K) where
 lt:=λh=>h.1
 keep:=λr h=>r.block _ h.1 h.2.1 h.2.2.2.1
 stay:=λr h=>⟨lL h.1 r.size,λz=>h.2.1 (z.of_same (r.block _ h.1 h.2.1 h.2.2.2.1).symm),h.2.2⟩
 tape:=λr=>r.tape
 os:=λr=>r.os
 output:=λr=>r.output
 size:=λr=>r.size
 jb:=by
  intro w g n U o i
  refine⟨λb c=>?_,λb c=>?_,o.grow,λe h=>PM F (i e h)⟩
  .
   refine o.block b ?_ λm=>?_
   .
    rcases c with c|c|c
    .
     exact c.lt F U
    .
     exact lL (F.s0 b c) U
    .
     rcases c with rfl|rfl|rfl
     .
      exact lL F.A0 U
     .
      exact lL F.E0 U
     .
      exact lL F.W0 U
   .
    rcases c with c|c|c
    .
     exact m.2.1 c
    .
     exact m.2.2.1 c
    .
     exact m.2.2.2.1 c
  .
   rcases c with c|⟨h1,o',h2,h3⟩
   .
    exact .inl c
   .
    exact .inr ⟨h1,o',(o.kt b o' h2 h3).symm.trans h2,h3⟩
 mine:=by
  rintro w g b o ⟨h1,h2,h3⟩
  refine⟨lL h1 o.grow,λj=>h2 ?_,h3⟩
  rcases j with c|⟨h1,o',h2,h3⟩
  .
   exact .inl c
  .
   exact .inr ⟨h1,o',(o.kt b o' h2 h3).symm.trans h2,h3⟩
 new:=by
  intro w g b U o h1 h2
  refine⟨h2,?_,λz=>?_,?_,λl p k=>?_⟩
  .
   rintro(z|⟨z,o',z1,z2⟩)
   .
    have:=F.c0 b z;omega
   .
    have e:=(o.kt b o' z1 z2).symm.trans z1
    grind
  .
   have:=F.s0 b z;omega
  .
   rintro(rfl|rfl|rfl)
   .
    have:=F.A0;omega
   .
    have:=F.E0;omega
   .
    have:=F.W0;omega
  .
   have⟨a,e,z⟩:=F.j8 _ k
   cases e
   omega
 MV:=λr d f=>r.block _ f (λz=>d.2.1 (z.low d.1)) d.2.2
 g9:=λd f h=>⟨f,λz=>d.2.1 (z.low d.1),h.2.2⟩
 tM:=λw=>⟨rfl,rfl,rfl,λ_ _ _ _=>rfl,lr⟩
 y9:=λw=>⟨λ_ _=>rfl,λ_ h=>h,lr,by simp⟩
def Ph.early:Ph->Prop
 | .inr (.inr (.inr _))=>False
 | _=>True
def zm[ConcX.Payload][ConcR.Payload][ConcX.Shy K.Wg K.C](F:K.Fit){i:Ph}(hi:i.early):Env K.KT K.N0 (cO K) (g9 K) (oa K i) (tj K i):=by
 cases i using Ph.bV with
 | join=>exact hi.elim
 | _=>exact zl F
def p8(S:Nat->Prop)(w:World)(b:Nat):Prop:=b<w.heap.size/\¬S b
theorem SW{S:Nat->Prop}(j:∀b,S b->b<N0):Env KT N0 (p8 S) O AtRel (DZ S) where
 lt:=λh=>h.1
 keep:=by rintro w _ b ⟨e,rfl⟩ _;rfl
 stay:=by rintro w _ b ⟨e,rfl⟩ h;exact h
 tape:=by rintro w _ ⟨e,rfl⟩;rfl
 os:=by rintro w _ ⟨e,rfl⟩;rfl
 output:=by rintro w _ ⟨e,rfl⟩;rfl
 size:=by rintro w _ ⟨e,rfl⟩;exact jl _
 jb:=by
  intro w p n k o a e h
  rcases a e h with ⟨ad,h1,_,h2⟩|⟨b,f,rfl,_⟩|⟨h1,h2,h3,_⟩
  .
   have⟨l,f,m⟩:=e
   obtain rfl:l=.cell ad:=h1
   refine⟨λx U g i d=>?_,by simp,by simp⟩
   have c:x.loc=.cell ad:=by cases f<;>cases m<;>(simp[MemAct.ofEvent,MemAct.touch?] at U;rw[<-U])
   grind
  .
   refine⟨λx U g i d=>?_,by simp,by simp⟩
   have c:x.loc=.obj b:=by cases f<;>(simp[MemAct.ofEvent,MemAct.touch?] at U;rw[<-U])
   grind
  .
   exact⟨λx U=>gq,h2,h3⟩
 mine:=λo h=>⟨lL h.1 o.grow,h.2⟩
 new:=λk _ h1 h2=>⟨h2,λd=>by have:=j _ d;omega⟩
 MV:=by rintro w _ b ⟨e,rfl⟩ _ _;rfl
 g9:=λ_ c h=>⟨c,h.2⟩
 tM:=λw=>⟨w.drawn+1,rfl⟩
 y9:=λw e a=>by simp at a
theorem pu(d:Nat)(t ty e:TypeId)(i:TypeInfo)(z:Value)(b bytes:Nat)(k:P.underlying t=some (.slice e))(hi:P.info? e=some i)(r:i.zero=some z)
 (y:i.size=b)(C:i.bytes=bytes)
 (v:Value)(n:Nat)(xs:Vq)(l:w.ownsRow d e b v n xs)
 (a:Addr)(m c:Nat)(news:Vq)(h:news.length=m*b)(U:∀j u,news[j]?=some u->w.cell? (a.add j)=some u)(h1:∀u∈news,u.oneCell'=true)
 (B:n+m<=maxLen)(s:(n+m)*bytes<=140737488355328)(f:(Builtin.append_ #[t,t] ty #[v,.slice (some a) m c]).run P w=.ok v' w') :
  w'=w\/(∃g o,v.ownBlock=some g/\w'=w.setRow g o)\/∃o,w'=w.drew.alloc (.cells o e):=by
 subst y;subst C;have F:n+m<=9223372036854775807:=by simp only[maxLen] at B;omega
 rcases l.2 with ⟨rfl,rfl⟩|⟨g,cap,a7,rfl,ag,hg,ai,ah,ae,af⟩
 .by_cases D:m=0
  .subst D;have E:news=[]:=List.eq_nil_of_length_eq_zero gq;subst E;left;simp[Builtin.append_,run_underlying k,sizeOf,typeInfo,hi,Builtin.lenOf,Builtin.firstCells,loadCells,loadCellsFrom] at f;exact f.2.symm
  .have p:=run_append_nil w t ty e i z k hi r a m c news h U oq oq gq;grind
 .by_cases q:n+m<=cap
  .have A:n*i.size+news.length<=a7.size:=by rw[h,ae,<-Nat.add_mul];exact Nat.mul_le_mul_right _ q
   have p:=run_append_room w t ty e i k hi g n cap a7 hg a m c news h U h1 q A;rw[p] at f;cases f;exact .inr (.inl ⟨g,_,rfl,rfl⟩)
  .have x:∀j u,xs[j]?=some u->w.cell? ((⟨g,0,none⟩:Addr).add j)=some u:=l.cells rfl;have p:=run_append_grow w t ty e i z k hi r ⟨g,0,none⟩ n cap xs l.1 x a m c news h U oq oq (growslice_fits oq s);grind
end
structure mN(M:World->Nat->Prop)(Ex:Nat->Prop)(w₀:World)(e:TypeId)(v:Value)(n:Nat)(xs:Vq)(w:World):Prop where
 row:w.ownsRow 0 e 1 v n xs
 own:∀k,v.ownBlock=some k->M w k/\(Ex k\/w₀.heap.size<=k)
 nil:n=0->v=.slice none 0 0
variable {n:Nat}
section
variable {w w':World}{e:TypeId}{v:Value}{xs news:Vq}{g:Nat}
def mN.same(h:mN M Ex w₀ e v n xs w)(a:∀k,v.ownBlock=some k->w'.heap[k]?=w.heap[k]?/\M w' k):mN M Ex w₀ e v n xs w':=by
 refine⟨⟨h.row.1,?_⟩,λk b=>⟨(a k b).2,(h.own k b).2⟩,h.nil⟩;rcases h.row.2 with z|⟨g,cap,cur,h1,h2,h3,h4⟩
 .exact .inl z
 .exact .inr ⟨g,cap,cur,h1,h2,(a g (by rw[h1];rfl)).1.trans h3,h4⟩
def mN.rely(E:Env KT N0 M O R D)(h:mN M Ex w₀ e v n xs w)(r:R w aE):mN M Ex w₀ e v n xs aE:=h.same λk a=>⟨E.keep r (h.own k a).1,E.stay r (h.own k a).1⟩
def mN.type(h:mN M Ex w₀ e v n xs w)(b:v.ownBlock=some k):∃a,w.heap[k]?=some (.cells a e (0,0)):=by
 rcases h.row.2 with ⟨z,_⟩|⟨g,cap,a,h1,h2,h3,h4⟩
 .rw[z] at b;cases b
 .rw[h1] at b;cases b;exact⟨a,h3⟩
theorem mN.ne(h:mN M Ex w₀ e v n xs w)(c:w.heap[b]?=some (.cells cs t fz))(f:t≠e)(U:v.ownBlock=some k):k≠b:=by rintro rfl;have⟨a,d⟩:=h.type U;grind
def mN.none(M:World->Nat->Prop)(Ex:Nat->Prop)(w₀ w:World)(e:TypeId):mN M Ex w₀ e (.slice .none 0 0) 0 [] w:=⟨World.ownsRow_nil _ _ _ _,λk a=>(by cases a),λ_=>rfl⟩
structure Hv(M:World->Nat->Prop)(e:TypeId)(news:Vq)(g:Nat)(w:World):Prop where
 src:w.heap[g]?=some (.cells news.toArray e)
 mine:M w g
def Hv.rely(E:Env KT N0 M O R D)(h:Hv M e news g w)(r:R w aE):Hv M e news g aE:=⟨(E.keep r h.mine).trans h.src,E.stay r h.mine⟩
theorem HD(E:Env KT N0 M O R D)(K:N0<=w.heap.size)(l:¬KT e)(old:Kept M O Ex w₀ w)(h:mN M Ex w₀ e v n xs w)(q:Hv M e news g w)(t ty:TypeId)(z:Value)(bytes:Nat)(C:P.underlying t=some (.slice e))(hi:(P.info? e).map (λi=>(i.zero,i.size,i.bytes))=some (some z,1,bytes))(W:z.cells.size=1)
 (h1:∀x∈news,x.oneCell'=true)(B:n+news.length<=maxLen)(a:(n+news.length)*bytes<=140737488355328) :
  ∃p d,(Builtin.append_ #[t,t] ty #[v,.slice (sq g) news.length news.length]).run P w=.ok p d/\mN M Ex w₀ e p (n+news.length) (xs++news) d/\Kept M O Ex w₀ d/\Own KT M w d /\
   (∀b,b<w.heap.size->v.ownBlock≠some b->d.heap[b]?=w.heap[b]?) /\
   D w d ((Builtin.append_ #[t,t] ty #[v,.slice (sq g) news.length news.length]).events P w #[]) /\
   ∀e∈(Builtin.append_ #[t,t] ty #[v,.slice (sq g) news.length news.length]).events P w #[],∀m,e.loc=.mark m->Conc.Neutral m:=by
 have y:∀j x,news[j]?=some x->w.cell? ((⟨g,0,none⟩:Addr).add j)=some x:=by
  intro j x V;have:(⟨g,0,none⟩:Addr).add j=⟨g,j,none⟩:=by unfold Addr.add;split<;>simp_all
  rw[this];simp[World.cell?,q.src,V]
 have⟨G,hi,r,s,u⟩:=info_parts hi;have⟨p,d,J,I,H,o,U⟩:=run_append_own_at (P:=P) w 0 t ty e G z 1 bytes C hi r s u W dq v n xs h.row ⟨g,0,none⟩ news.length news.length news iq y h1 B a (Nat.zero_le _);have S:=pu (P:=P) 0 t ty e G z 1 bytes C hi r s u v n xs h.row ⟨g,0,none⟩ news.length news.length news iq y h1 B a J;have Q:=events_append_where (P:=P) w 0 t ty e G z 1 bytes C hi r s u v n xs h.row ⟨g,0,none⟩ news.length news.length news iq y h1 B a;have f:Own KT M w d:=by
  rcases S with rfl|⟨k,cs,c,rfl⟩|⟨cs,rfl⟩
  .exact Own.refl _
  .have⟨Y,L⟩:=h.type c;exact Own.setRow L (h.own k c).1 l
  .have:=Own.alloc (KT:=KT) (M:=M) (w:=w.drew) (cs:=cs) (t:=e) l;exact⟨this.tape,this.os,this.output,this.grow,λb a A=>heap_alloc_old w.drew _ b a,λb X T c=>(this.kt b X T c)⟩
 have N:∀k,p.ownBlock=some k->M d k/\(Ex k\/w₀.heap.size<=k):=by
  intro k c;rcases U with U|U
  .rw[U] at c;exact⟨E.mine f (h.own k c).1,(h.own k c).2⟩
  .rw[U] at c;cases c;refine⟨E.new K f lr (I.lt _ U).2,.inr old.grow⟩
 refine⟨p,d,J,⟨I,N,λe=>o.2 ⟨h.nil oq,by omega⟩⟩,old.own E f λb a F=>H.block b (E.lt (old.mine b a)) λe=>?_,f,λb a F=>H.block b a (λe=>F e.symm),E.jb K f λe l=>?_,λe l m A=>?_⟩
 .rcases(h.own b e.symm).2 with z|z
  .exact F z
  .have:=E.lt a;omega
 .rcases Q e l with ⟨ad,h1,h2⟩|⟨m,rfl,A⟩
  .refine .inl ⟨ad,h1,E.mine f ?_⟩;rcases h2 with ⟨_,h2⟩|h2
   .rw[h2];exact q.mine
   .exact(h.own _ h2.symm).1
  .obtain rfl:m=.noRoom:=A;exact .inr (.inr ⟨by simp[MemAct.ofEvent,MemAct.touch?],by simp,by simp,by simp[MemAct.ofEvent]⟩)
 .grind
end
variable {N c1 c2 B:Nat}{Shun Mz:Loc->Prop}{val:Value}
section
def dy(h:w.heap[b]?=some (.cells cs ty fz))(v:Value):(w.setCell ⟨b,o,none⟩ v).heap[b]?=some (.cells (cs.setIfInBounds o v) ty fz):=by simp[World.setCell,IF,h]
def HC.fO(w:World)(v:Value)(hb:b'≠b):(w.setCell ⟨b,o,none⟩ v).heap[b']?=w.heap[b']?:=Below.heap_setCell _ _ _ _ hb
def aC (P:Program)(N Pb:Nat)(Shun:Loc->Prop)(val:Value)(B:Nat)(Mz:Loc->Prop):Cfg :=
 { P:=P,ty:=169,A:=N+2,E:=N+4,Wg:=N+6,C:=N,qL:=λb=>b=N,N0:=N+9,KT:=λt=>t=177\/t=179\/False,Still:=λb=>b=N+1\/b=N+3\/b=N+5\/b=N+7\/b=N+8\/b=Pb,Shun:=Shun,B:=B,
   z:=.int .i32 0,zs:=.tuple #[],zE:=.agg #[],val:=val,Mz:=Mz }
variable [ConcR.Payload][ConcX.Payload]
variable (K:Cfg)
abbrev Ix:=Bool × Vq
def eY (_:Ix):World->World->Prop:=RC K
def XK (i:Ix)(g:Goroutine)(w:World):Prop:=Way K.P false (eY K i) (DK K) (nF K i.2) g w
section
variable {K:Cfg}{i:Ix}{w:World}
def eY.rc(h:eY K i w aE):RC K w aE:=h
def eY.refl(i:Ix)(w:World):eY K i w w:=RC.refl w
def eY.trans(h:eY K i w aE)(a:eY K i aE oh):eY K i w oh:=RC.trans h a
def XK.closed:Closed K.P false (eY K) (DK K) (XK K) where
 rely:=λ{i} _ _ _ h hr=>Way.rely (R:=eY K i) (λ_ _ _=>eY.trans) h hr
 step:=by
  intro i g w d h
  refine Way.step d λa c=>?_
  have b:=h a c
  cases e:stepG K.P false g a with
  | go g' w' es=>rw[e,goes_go] at b;exact⟨g',w',es,rfl,b.1,b.2⟩
  | _=>rw[e] at b;exact b.elim
def KM(i:Ix):Terms (eY K i) (DK K):=⟨λ_ _ _=>eY.trans,λ_=>⟨rfl,rfl,rfl,λ_ _ _=>rfl,λ_ h=>h,λ_ h1 h2=>absurd h1 oq,rfl,lr,by simp⟩⟩
def KZ(fr:Bool)(vs:Vq)(g:Goroutine)(w:World):XK K (fr,vs) g w↔mK K vs g w:=by rw[qT];exact Iff.rfl
def Gz{j:Nat}{o:Oper}{Q:pf Ix}{a:Act}{fr:Bool}{y:Operand}(n:K.zs=.tuple #[])(p:ops[j]?=some o)(z:Region.wanted o (yielded ops a.tmps)=true)(g:o.op=.send x y)(B:a.eval x=.chan (some K.A))(C:a.eval y=v)
 (t:∀c,RC K w c->K.N0<=c.heap.size)(h:∀c,RC K w c->lQ (XK K) fn ops rest (false,vs) Q (a.put o.dst undef) c):lQ (XK K) fn ops (j::rest) (fr,v::vs) Q a w:=by
 intro b k m q f r;refine Way.stop λc d=>?_;have u:∀w,(execOp a.eval o).run K.P w=.ok (.comm #[scase K.A v K.zs] true .send) w:=λw=>by unfold execOp;simp[g,B,C,n,scase]
 have s:∀w,(execOp a.eval o).events K.P w #[]=#[]:=λw=>by unfold execOp;simp[g]
 refine⟨rfl,t c d.rc,?_,λl i=>?_⟩
 .rw[stepG_comm p z f (u c),listed_none (s c)]
 .have e:Conc.served (G (b.at a (.inRegion ops (j::rest)::k)) m) undef=G (b.at (a.put o.dst undef) (.inRegion ops rest::k)) m:=by
   have:(b.at a (.inRegion ops (j::rest)::k)).finish undef=b.at (a.put o.dst undef) (.inRegion ops rest::k):=by rw[Frame.finish_at,p];rfl
   simp only[Conc.served,G];rw[this]
  rw[e];exact(KZ false vs _ _).1 (h l (d.rc.trans i) b k m q f r)
end
section
variable [ConcR.Payload][ConcX.Payload](N Pb:Nat)(Shun:Loc->Prop)(val:Value)(B:Nat)(Mz:Loc->Prop)
def cK:Closed prog false (eY (aC prog N Pb Shun val B Mz)) (DK (aC prog N Pb Shun val B Mz)) (XK (aC prog N Pb Shun val B Mz)):=XK.closed (K:=(aC prog N Pb Shun val B Mz))
def tK(i:Ix):Terms (eY (aC prog N Pb Shun val B Mz) i) (DK (aC prog N Pb Shun val B Mz)):=KM i
end
structure CS where
 begun:Bool
 returned:Bool
structure DS where
 letter:Int
 missing:Int
 low:Int
 high:Int
def gY(N:Nat):Value:=.func (.func 113) #[] #[.pointer (some ⟨N+3,0,none⟩)]
def oe (a:Nat):Value:=.func (.func 116) #[.pointer (some ⟨a,0,none⟩)] #[]
structure Hp where
 v:Value
 l:List ByteArray
def mM(Pb:Nat)(cp:Hp)(w:World):Prop:=∃ad c,cp.v=.slice ad cp.l.length c/\∀(k:Nat) (p:ByteArray),cp.l[k]?=some p->∃off,ad=some ⟨Pb,off,none⟩/\w.cell? ⟨Pb,off+k,none⟩=some (.string p)
def mM.of{cp:Hp}(h:mM Pb cp w)(g:w'.heap[Pb]?=w.heap[Pb]?):mM Pb cp w':=by have⟨b,c,e,h⟩:=h;refine⟨b,c,e,λk p f=>?_⟩;have⟨a,e1,d⟩:=h k p f;exact⟨a,e1,by rw[<-d];unfold World.cell?;rw[g]⟩
structure HC(N Pb:Nat)(cp:Hp)(c1 c2:Nat)(c:CS)(d:DS)(w:World):Prop where
 lv:w.heap[N+3]?=some (.cells #[.chan (some (N+2))] 158)
 cl:w.heap[c1]?=some (.cells #[gY N,.bool c.begun,.bool c.returned] 177)
 de:w.heap[c2]?=some (.cells #[oe c1,.int .i32 d.letter,.int .i64 d.missing,.int .u8 d.low,.int .u8 d.high] 179)
 pc:w.heap[N]?=some (.cells #[cp.v] 62)
 wb:w.heap[N+7]?=some (.cells #[.pointer (some ⟨N+6,0,none⟩)] 240)
 h1:N+9<=c1
 h2:N+9<=c2
 ne:c1≠c2
 ps:mM Pb cp w
 lo:Pb<N+9
section
variable {Pb:Nat}{cp:Hp}{c:CS}{d:DS}{w:World}
section
variable (h:HC N Pb cp c1 c2 c d w)
def HC.Ml:(aC prog N Pb Shun val B Mz).dT w c1:=.inr ⟨h.h1,_,h.cl,.inl rfl⟩
def HC.Mm:(aC prog N Pb Shun val B Mz).dT w c2:=.inr ⟨h.h2,_,h.de,.inr (.inl rfl)⟩
def HC.rc(r:RC (aC prog N Pb Shun val B Mz) w aE):HC N Pb cp c1 c2 c d aE :=
 ⟨(r _ (.inr (.inr (.inl rfl)))).trans h.lv,(r _ (.inl h.Ml)).trans h.cl,(r _ (.inl h.Mm)).trans h.de,(r _ (.inl (.inl rfl))).trans h.pc,(r _ (i3 (.inr (.inl rfl)))).trans h.wb,h.h1,h.h2,h.ne,h.ps.of (r Pb (i3 (i3 rfl))),h.lo⟩
def HC.rely{i:Ix}(r:eY (aC prog N Pb Shun val B Mz) i w aE):HC N Pb cp c1 c2 c d aE:=h.rc r.rc
def HC.size:N+9<=w.heap.size:=by
 have:=(oK.1 h.cl).1
 have:=h.h1;omega
def HC.LF:w.cell? ⟨N+3,0,none⟩=some (.chan (some (N+2))):=by simp[World.cell?,h.lv]
def HC.jK:w.cell? ⟨c1,0,none⟩=some (gY N)/\w.cell? ⟨c1,1,none⟩=some (.bool c.begun)/\w.cell? ⟨c1,2,none⟩=some (.bool c.returned)/\w.frozen? ⟨c1,1,none⟩=false/\w.frozen? ⟨c1,2,none⟩=false:=by simp[World.cell?,World.frozen?,h.cl]
def HC.cN:w.cell? ⟨c2,0,none⟩=some (oe c1)/\w.cell? ⟨c2,1,none⟩=some (.int .i32 d.letter)/\w.cell? ⟨c2,2,none⟩=some (.int .i64 d.missing)/\w.cell? ⟨c2,3,none⟩=some (.int .u8 d.low)/\w.cell? ⟨c2,4,none⟩=some (.int .u8 d.high)
  /\ w.frozen? ⟨c2,1,none⟩=false/\w.frozen? ⟨c2,2,none⟩=false/\w.frozen? ⟨c2,3,none⟩=false/\w.frozen? ⟨c2,4,none⟩=false:=by simp[World.cell?,World.frozen?,h.de]
end
def EvB (N Pb c1 c2:Nat)(e:Event):Prop:=∃a wr,e=⟨.cell a,wr,false⟩/\((a.block=N\/a.block=c1\/a.block=c2)\/((a.block=N+1\/a.block=N+3\/a.block=N+5\/a.block=N+7\/a.block=N+8\/a.block=Pb)/\wr=false))
theorem EvB.evk(c:(aC prog N Pb Shun val B Mz).dT w c1)(d:(aC prog N Pb Shun val B Mz).dT w c2)(U:EvB N Pb c1 c2 e):Li (aC prog N Pb Shun val B Mz) w e:=by
 obtain⟨a,b,rfl,h⟩:=U;refine .inl ⟨a,b,rfl,?_⟩;rcases h with (h|h|h)|⟨h,hw⟩
 .exact .inl (.inl h)
 .grind
 .grind
 .exact .inr ⟨h,hw⟩
def ea(hF:HC N Pb cp c1 c2 c d w)(h:∀e∈es,EvB N Pb c1 c2 e):DK (aC prog N Pb Shun val B Mz) w w es :=
 ⟨rfl,rfl,rfl,λ_ _ _=>rfl,λ_ h=>h,λ_ h1 h2=>absurd h1 oq,rfl,lr,λe he=>(h e he).evk hF.Ml hF.Mm⟩
theorem fK(a:HC N Pb cp c1 c2 c d w)(f:b=c1\/b=c2)(h:∀e∈es,EvB N Pb c1 c2 e):DK (aC prog N Pb Shun val B Mz) w (w.setCell ⟨b,o,none⟩ v) es:=by
 have U:∀k,(aC prog N Pb Shun val B Mz).dT w k->(aC prog N Pb Shun val B Mz).dT (w.setCell ⟨b,o,none⟩ v) k:=by
  intro k U;by_cases e:k=b
  .subst e;rcases f with rfl|rfl
   .exact .inr ⟨a.h1,_,dy a.cl v,.inl rfl⟩
   .exact .inr ⟨a.h2,_,dy a.de v,.inr (.inl rfl)⟩
  .exact U.of_same (Below.heap_setCell _ _ _ _ e)
 have g:(aC prog N Pb Shun val B Mz).dT w b:=by
  rcases f with rfl|rfl
  .exact a.Ml
  .exact a.Mm
 have l:(w.setCell ⟨b,o,none⟩ v).heap.size=w.heap.size:=by simp_all
 refine⟨rfl,rfl,rfl,λk _ i=>Below.heap_setCell _ _ _ _ ?_,U,λ_ h1 h2=>absurd h1 oq,Below.heap_setCell _ _ _ _ ?_,by omega,λe j=>(h e j).evk (U _ a.Ml) (U _ a.Mm)⟩
 .rintro rfl;exact i g
 .show N≠b
  have:=a.h1;have:=a.h2;omega
def qY(a:b=N+1\/b=N+3\/b=N+5\/b=N+7\/b=N+8\/b=Pb):EvB N Pb c1 c2 ⟨.cell ⟨b,o,none⟩,false,false⟩:=⟨_,_,rfl,.inr ⟨a,rfl⟩⟩
def cJ{wr:Bool}(a:b=N\/b=c1\/b=c2):EvB N Pb c1 c2 ⟨.cell ⟨b,o,none⟩,wr,false⟩:=⟨_,_,rfl,.inl a⟩
def Oh:LetsDraw (DK (aC prog N Pb Shun val B Mz)):=λ_=>⟨rfl,rfl,rfl,λ_ _ _=>rfl,λ_ h=>h,λ_ h1 h2=>absurd h2 (Nat.not_lt.2 h1),rfl,lr,by simp⟩
def uy{i:Ix}(w:World):eY (aC prog N Pb Shun val B Mz) i w { w with drawn:=w.drawn+1 }:=λ_ _=>rfl
section
variable (h:HC N Pb cp c1 c2 c d w)
def HC.Ri(x:Bool):HC N Pb cp c1 c2 ⟨x,c.returned⟩ d (w.setCell ⟨c1,1,none⟩ (.bool x)):=by have h1:=h.h1;have h2:=h.h2;have a:=h.ne;have b:=h.lo;exact⟨(HC.fO w _ oq).trans h.lv,dy h.cl _,(HC.fO w _ (Ne.symm a)).trans h.de,(HC.fO w _ oq).trans h.pc,(HC.fO w _ oq).trans h.wb,h1,h2,a,h.ps.of (HC.fO w _ oq),b⟩
def HC.Rj(x:Bool):HC N Pb cp c1 c2 ⟨c.begun,x⟩ d (w.setCell ⟨c1,2,none⟩ (.bool x)):=by have h1:=h.h1;have h2:=h.h2;have a:=h.ne;have b:=h.lo;exact⟨(HC.fO w _ oq).trans h.lv,dy h.cl _,(HC.fO w _ (Ne.symm a)).trans h.de,(HC.fO w _ oq).trans h.pc,(HC.fO w _ oq).trans h.wb,h1,h2,a,h.ps.of (HC.fO w _ oq),b⟩
def HC.wB(x:Int):HC N Pb cp c1 c2 c { d with letter:=x } (w.setCell ⟨c2,1,none⟩ (.int .i32 x)):=by have h1:=h.h1;have h2:=h.h2;have a:=h.ne;have b:=h.lo;exact⟨(HC.fO w _ oq).trans h.lv,(HC.fO w _ a).trans h.cl,dy h.de _,(HC.fO w _ oq).trans h.pc,(HC.fO w _ oq).trans h.wb,h1,h2,a,h.ps.of (HC.fO w _ oq),b⟩
def HC.oW(x:Int):HC N Pb cp c1 c2 c { d with missing:=x } (w.setCell ⟨c2,2,none⟩ (.int .i64 x)):=by have h1:=h.h1;have h2:=h.h2;have a:=h.ne;have b:=h.lo;exact⟨(HC.fO w _ oq).trans h.lv,(HC.fO w _ a).trans h.cl,dy h.de _,(HC.fO w _ oq).trans h.pc,(HC.fO w _ oq).trans h.wb,h1,h2,a,h.ps.of (HC.fO w _ oq),b⟩
def HC.Kd(x:Int):HC N Pb cp c1 c2 c { d with low:=x } (w.setCell ⟨c2,3,none⟩ (.int .u8 x)):=by have h1:=h.h1;have h2:=h.h2;have a:=h.ne;have b:=h.lo;exact⟨(HC.fO w _ oq).trans h.lv,(HC.fO w _ a).trans h.cl,dy h.de _,(HC.fO w _ oq).trans h.pc,(HC.fO w _ oq).trans h.wb,h1,h2,a,h.ps.of (HC.fO w _ oq),b⟩
def HC.ER(x:Int):HC N Pb cp c1 c2 c { d with high:=x } (w.setCell ⟨c2,4,none⟩ (.int .u8 x)):=by have h1:=h.h1;have h2:=h.h2;have a:=h.ne;have b:=h.lo;exact⟨(HC.fO w _ oq).trans h.lv,(HC.fO w _ a).trans h.cl,dy h.de _,(HC.fO w _ oq).trans h.pc,(HC.fO w _ oq).trans h.wb,h1,h2,a,h.ps.of (HC.fO w _ oq),b⟩
end
def CZ(e:HC N Pb cp c1 c2 c d w)(fr:Bool)(r:Int)(vs:Vq) :
  hM prog (XK (aC prog N Pb Shun val B Mz)) 113 #[.int .i32 r,.pointer (sq (N+3))] (fr,.int .i32 r::vs) w (λl _ m=>l=(false,vs)/\HC N Pb cp c1 c2 c d m):=by
 have C:=cK N Pb Shun val B Mz;have T:=tK N Pb Shun val B Mz;refine fp func113 rq rfl ?_;simp only[ntmps113,bZ,Nat.reduceAdd,Nat.reduceSub];refine bX C T ?_;simp only[fH,Nat.reduceAdd];refine aP C rfl rq λi f h a=>?_;replace e:=e.rely f;clear f;have k:=e.LF;go_simp;refine a _ _ ⟨?_,?_⟩
 .refine ea e ?_;co_evs (exact qY (.inr (.inl rfl)))
 clear a h k;try walk_nrm
 refine aP C rfl rq λj f h a=>?_;replace e:=e.rely f;clear f;go_simp;refine a _ _ ⟨?_,?_⟩
 .co_quiet (T (true,[]))
 clear a h;try walk_nrm
 refine Gz rfl rfl rq rfl rfl rfl (λg b=>(e.rc b).size) λg b=>?_;replace e:=e.rc b;exact cG C T ⟨.inl rfl,rfl,_,resultsC_none rq _,rfl,e⟩
end
end
def gi(c:CS)(r:Int):CS × Iq :=
 (⟨true,r==13⟩,if (!c.begun&&r==65279)=true then [] else if (c.returned&&r==10)=true then [] else if r=13 then [10] else if r=0 then [65533] else [r])
def V (ls:Iq):Vq:=ls.map (.int .i32 ·)
variable {c:CS}{d:DS}{cp:Hp}
section
variable {P:Program}{fn:FuncId}{md:Region.Mode}{ops:Array Oper}{Q:Exit->Act->World->Prop}{S:World->Prop}{oi:Oper}{v:Value}{i:Nat}{L:Array Bool}{w:World}{l:List Nat}
def TK(P:Program)(R:Wq)(D:World->World->Array Event->Prop)(fn:FuncId)(a:Region.Mode)(ops:Array Oper)(Q:Exit->Act->World->Prop)(S:World->Prop)(_:List Nat):Nat->Array Bool->Act->World->Prop:=AnyCH P R D fn a ops Q S
def tkA(l:List Nat)(h:TK P R D fn md ops Q S l n L a w):AnyCH P R D fn md ops Q S n L a w:=h
def tkZ(h:AnyCH P R D fn md ops Q S n L a w):TK P R D fn md ops Q S [] n L a w:=h
def tkC(T:Terms R D)(h1:∀x y,S x->R x y->S y)(h2:∀a x y,Q .normal a x->R x y->Q .normal a y)(hi:ops[i]?=some oi)(f:YieldsIfC P D fn ops S oi v a)(b:S w)(h:TK P R D fn md ops Q S l n (L.setIfInBounds i true) (a.put oi.dst v) w)(e:Region.noSelect ops=true:=by decide +kernel)(c:Region.free md ops L i=true:=by decide +kernel)(d:(Region.ready md ops L).contains i=true:=by decide +kernel):TK P R D fn md ops Q S (i::l) (n+1) L a w:=anyCH_take T h1 h2 hi e c d f b h
end
section
variable {Pb:Nat}{w:World}
variable [ConcR.Payload][ConcX.Payload]
def Ay(b:HC N Pb cp c1 c2 c d w)(fr:Bool)(r:Int)(vs:Vq) :
  hM prog (XK (aC prog N Pb Shun val B Mz)) 116 #[.pointer (sq c1),.int .i32 r] (fr,V (gi c r).2++vs) w (λI _ J=>I=(fr&&(gi c r).2.isEmpty,vs)/\HC N Pb cp c1 c2 (gi c r).1 d J):=by
 have C:=cK N Pb Shun val B Mz;have T:=tK N Pb Shun val B Mz;have k:=T (true,[]);have H:∀(w:World) (z:Array Event) (a:Addr) (m:Mode) (x:Bool),(store a (.bool x) m).events prog w z=storedEv prog w z a (.bool x) m:=λw z a m x=>events_store prog w z a _ m rfl;have D:∀w:World,eY (aC prog N Pb Shun val B Mz) (true,[]) w { w with drawn:=w.drawn+1 }:=uy;refine fp func116 rq rfl ?_;simp only[ntmps116,bZ,Nat.reduceAdd,Nat.reduceSub];co_apply aU C T (eY.refl _);co_held (T _) Oh D (HC N Pb cp c1 c2 c d) HC.rely b
 co_applyP tkA [0, 1, 2, 3, 4, 5, 6, 7, 8, 9, 10]
 iterate 11
  co_applyP tkC (T _) (λ_ _ h r=>HC.rely h r) (λ_ _ _ h r=>KX C h r) rfl (.inl ⟨rq,λ_ E=>⟨run_eq_of ?_,?_⟩⟩) b ?_;rotate_left
  .intro l f;have q:=E.jK;go_simp;exact f
  .have q:=E.jK;first|(rw[listed_nil];exact Terms.idle k _;first|(simp[go_sem];done)|(simp[go_sem, *];done))|(refine ea E ?_;co_evs (exact cJ (.inr (.inl rfl))))
  try walk_nrm
 co_applyP tkZ
 co_done;co_apply aU C T (eY.refl _);co_reg (T _);iterate 4 co_op HC.rely b (co_quiet k)
 iterate 2 co_opw HC.rely b (skip) (co_still k)
 co_opw HC.rely b (have q:=b.jK) (exact fK b (.inl rfl) (by co_evs (exact cJ (.inr (.inl rfl)))));replace b:=b.Ri true;clear q;iterate 2 co_opw HC.rely b (skip) (co_still k)
 co_opw HC.rely b (have q:=b.jK) (exact fK b (.inl rfl) (by co_evs (exact cJ (.inr (.inl rfl)))));replace b:=b.Rj (r==13);clear q;co_apply opsC_nil (T _);co_then;refine iN C T ?_;generalize y:(!c.begun)=G;generalize u:c.returned=F;have v:gi c r=(⟨true,r==13⟩,if (G&&r==65279)=true then [] else if (F&&r==10)=true then [] else if r=13 then [10] else if r=0 then [65533] else [r]):=by rw[gi,y,u]
 rw[v];clear v y u;cases G<;>cases F;focus
  iterate 2
   co_apply aU C T (eY.refl _)
   co_reg (T _)
   co_op HC.rely b (co_quiet k)
   co_op HC.rely b (co_quiet k)
   co_apply opsC_unwanted (T _) rfl rq
   co_apply opsC_unwanted (T _) rfl rq
   co_op HC.rely b (co_quiet k)
   co_op HC.rely b (co_quiet k)
   co_apply opsC_nil (T _)
   co_then
   try simp only[Bool.false_and,kj,if_false]
   refine aZ C T (t:=false) rfl ?_
   simp only[if_false,kj]
  co_apply aU C T (eY.refl _)
 rotate_left;focus
  co_apply aU C T (eY.refl _)
  co_reg (T _)
  iterate 2 co_op HC.rely b (co_quiet k)
  iterate 2 co_apply opsC_unwanted (T _) rfl rq
  iterate 2 co_op HC.rely b (co_quiet k)
  co_apply opsC_nil (T _)
  co_then
  try simp only[Bool.false_and,Bool.true_and,kj,if_false]
  refine aZ C T (t:=false) rfl ?_
  simp only[if_false,kj]
  co_apply aU C T (eY.refl _)
  co_reg (T _)
  iterate 6 co_op HC.rely b (co_quiet k)
  co_apply opsC_nil (T _)
  co_then
  by_cases o:r=10
  .have g:(r==10)=true:=by simp[o]
   simp only[g,if_true];try simp only[g] at b
   refine aZ C T (t:=true) rfl ?_;simp only[if_true];refine fh C T ?_;exact⟨.inl rfl,rfl,_,resultsC_none rq _,by simp[V],by simpa using b⟩
  have g:(r==10)=false:=by simp[o]
  simp only[g,kj,if_false];try simp only[g] at b
  refine aZ C T (t:=false) rfl ?_;simp only[if_false,kj];co_apply aU C T (eY.refl _)
 rotate_left;focus
  co_apply aU C T (eY.refl _)
  co_reg (T _)
  iterate 6 co_op HC.rely b (co_quiet k)
  co_apply opsC_nil (T _)
  co_then
  by_cases i:r=65279
  .have e:(r==65279)=true:=by simp[i]
   simp only[e,Bool.and_true,Bool.false_and,bI];try simp only[e] at b
   refine aZ C T (t:=true) rfl ?_;simp only[if_true];refine fh C T ?_;exact⟨.inl rfl,rfl,_,resultsC_none rq _,by simp[V],by simpa using b⟩
  have e:(r==65279)=false:=by simp[i]
  simp only[e,Bool.and_false,Bool.false_and,kj,if_false];try simp only[e] at b
  refine aZ C T (t:=false) rfl ?_;simp only[if_false,kj];co_apply aU C T (eY.refl _);co_reg (T _);iterate 2 co_op HC.rely b (co_quiet k)
  iterate 2 co_apply opsC_unwanted (T _) rfl rq
  iterate 2 co_op HC.rely b (co_quiet k)
  co_apply opsC_nil (T _);co_then;try simp only[reduceIte,bI,bJ]
  refine aZ C T (t:=false) rfl ?_;simp only[if_false,kj];co_apply aU C T (eY.refl _)
 rotate_left;focus
  co_apply aU C T (eY.refl _)
  co_reg (T _)
  iterate 6 co_op HC.rely b (co_quiet k)
  co_apply opsC_nil (T _)
  co_then
  by_cases i:r=65279
  .have e:(r==65279)=true:=by simp[i]
   simp only[e,Bool.and_true,Bool.true_and,if_true];try simp only[e] at b
   refine aZ C T (t:=true) rfl ?_;simp only[if_true];refine fh C T ?_;exact⟨.inl rfl,rfl,_,resultsC_none rq _,by simp[V],by simpa using b⟩
  have e:(r==65279)=false:=by simp[i]
  simp only[e,Bool.and_false,Bool.true_and,kj,if_false];try simp only[e] at b
  refine aZ C T (t:=false) rfl ?_;simp only[if_false,kj];co_apply aU C T (eY.refl _);co_reg (T _);iterate 6 co_op HC.rely b (co_quiet k)
  co_apply opsC_nil (T _);co_then;by_cases o:r=10
  .have g:(r==10)=true:=by simp[o]
   simp only[g,if_true];try simp only[g] at b
   refine aZ C T (t:=true) rfl ?_;simp only[if_true];refine fh C T ?_;exact⟨.inl rfl,rfl,_,resultsC_none rq _,by simp[V],by simpa using b⟩
  have g:(r==10)=false:=by simp[o]
  simp only[g,kj,if_false];try simp only[g] at b
  refine aZ C T (t:=false) rfl ?_;simp only[if_false,kj];co_apply aU C T (eY.refl _)
 rotate_left;all_goals
  co_reg (T _)
  iterate 3 co_op HC.rely b (co_quiet k)
  co_apply opsC_nil (T _)
  co_then
  by_cases s:r=13
  .have n:(r==13)=true:=by simp[s]
   simp only[n,ip s];try simp only[n] at b
   refine aZ C T (t:=true) rfl ?_;simp only[if_true];refine bX C T ?_;simp only[fH,Nat.reduceAdd];refine aP C rfl rq λ_ j l f=>?_;replace b:=HC.rely b j;clear j;go_simp;try (unfold stored;go_simp)
   refine f _ _ ⟨?_,?_⟩
   .co_quiet k
   iterate 2
    clear f l
    try walk_nrm
    refine aP C rfl rq λ_ j l f=>?_
    replace b:=HC.rely b j
    clear j
    go_simp
    try (unfold stored;go_simp)
    refine f _ _ ⟨?_,?_⟩
    .co_still k
   clear f l;try walk_nrm
   refine aP C rfl rq λ_ j l f=>?_;replace b:=HC.rely b j;clear j;have q:=b.jK;go_simp;try (unfold stored;go_simp)
   refine f _ _ ⟨?_,?_⟩
   .refine ea b ?_;co_evs (exact cJ (.inr (.inl rfl)))
   clear f l;try walk_nrm
   clear q;refine cf C T rfl rq rfl rfl (by simp[Act.eval]) (by simp[V]) (CZ b fr 10 vs) ?_;rintro _ _ _ ⟨rfl,b⟩;refine cG C T ?_;exact⟨.inl rfl,rfl,_,resultsC_none rq _,by simp,by simpa using b⟩
  .have n:(r==13)=false:=by simp[s]
   simp only[n,iw s];try simp only[n] at b
   refine aZ C T (t:=false) rfl ?_;simp only[if_false,kj];co_apply aU C T (eY.refl _);co_reg (T _);iterate 3 co_op HC.rely b (co_quiet k)
   co_apply opsC_nil (T _);co_then;by_cases A:r=0
   .have p:(r==0)=true:=by simp[A]
    simp only[p,ip A];try simp only[p] at b
    refine aZ C T (t:=true) rfl ?_;simp only[if_true];refine bX C T ?_;simp only[fH,Nat.reduceAdd];refine aP C rfl rq λ_ j l f=>?_;replace b:=HC.rely b j;clear j;go_simp;try (unfold stored;go_simp)
    refine f _ _ ⟨?_,?_⟩
    .co_quiet k
    iterate 2
     clear f l
     try walk_nrm
     refine aP C rfl rq λ_ j l f=>?_
     replace b:=HC.rely b j
     clear j
     go_simp
     try (unfold stored;go_simp)
     refine f _ _ ⟨?_,?_⟩
     .co_still k
    clear f l;try walk_nrm
    refine aP C rfl rq λ_ j l f=>?_;replace b:=HC.rely b j;clear j;have q:=b.jK;go_simp;try (unfold stored;go_simp)
    refine f _ _ ⟨?_,?_⟩
    .refine ea b ?_;co_evs (exact cJ (.inr (.inl rfl)))
    clear f l;try walk_nrm
    clear q;refine cf C T rfl rq rfl rfl (by simp[Act.eval]) (by simp[V]) (CZ b fr 65533 vs) ?_;rintro _ _ _ ⟨rfl,b⟩;refine cG C T ?_;exact⟨.inl rfl,rfl,_,resultsC_none rq _,by simp,by simpa using b⟩
   .have p:(r==0)=false:=by simp[A]
    simp only[p,iw A];try simp only[p] at b
    refine aZ C T (t:=false) rfl ?_;simp only[if_false,kj];refine bX C T ?_;simp only[fH,Nat.reduceAdd];refine aP C rfl rq λ_ j l f=>?_;replace b:=HC.rely b j;clear j;go_simp;try (unfold stored;go_simp)
    refine f _ _ ⟨?_,?_⟩
    .co_quiet k
    iterate 2
     clear f l
     try walk_nrm
     refine aP C rfl rq λ_ j l f=>?_
     replace b:=HC.rely b j
     clear j
     go_simp
     try (unfold stored;go_simp)
     refine f _ _ ⟨?_,?_⟩
     .co_still k
    clear f l;try walk_nrm
    refine aP C rfl rq λ_ j l f=>?_;replace b:=HC.rely b j;clear j;have q:=b.jK;go_simp;try (unfold stored;go_simp)
    refine f _ _ ⟨?_,?_⟩
    .refine ea b ?_;co_evs (exact cJ (.inr (.inl rfl)))
    clear f l;try walk_nrm
    clear q;refine aP C rfl rq λ_ j l f=>?_;replace b:=HC.rely b j;clear j;go_simp;try (unfold stored;go_simp)
    refine f _ _ ⟨?_,?_⟩
    .co_quiet k
    clear f l;try walk_nrm
    refine cf C T rfl rq rfl rfl (by simp[Act.eval]) (by simp[V]) (CZ b fr r vs) ?_;rintro _ _ _ ⟨rfl,b⟩;refine cG C T ?_;exact⟨.inl rfl,rfl,_,resultsC_none rq _,by simp,by simpa using b⟩
end
def kV (b:Int):Int × Int:=if b=224 then (160,191) else if b=237 then (128,159) else if b=240 then (144,191) else if b=244 then (128,143) else (128,191)
section
variable {Pb:Nat}{w:World}
variable [ConcR.Payload][ConcX.Payload]
section
variable (hF:HC N Pb cp c1 c2 c d w)
def HS(i:Ix)(b:Int) :
  hM prog (XK (aC prog N Pb Shun val B Mz)) 362 #[.int .u8 b] i w (λn v o=>n=i/\v=.tuple #[.int .u8 (kV b).1,.int .u8 (kV b).2]/\HC N Pb cp c1 c2 c d o):=by
 have C:=cK N Pb Shun val B Mz;have T:=tK N Pb Shun val B Mz;have h:=T (true,[]);refine fp func362 rq rfl ?_;simp only[ntmps362,bZ,Nat.reduceAdd,Nat.reduceSub];co_apply aU C T (eY.refl _);co_reg (T _);iterate 2 co_op HC.rely hF (co_quiet h)
 co_apply opsC_nil (T _);co_then;refine fZ C T ?_;co_apply aU C T (eY.refl _);co_reg (T _);co_op HC.rely hF (co_quiet h);co_apply opsC_nil (T _);co_then;refine iN C T ?_;co_apply aU C T (eY.refl _);co_reg (T _);iterate 2 co_op HC.rely hF (co_quiet h)
 co_apply opsC_nil (T _);co_then;by_cases j:b=224
 .have a:(b==224)=true:=by simp[j]
  simp only[a];refine aZ C T (t:=true) rfl ?_;simp only[if_true];co_apply aU C T (eY.refl _);co_reg (T _);iterate 2 co_op HC.rely hF (co_quiet h)
  co_apply opsC_nil (T _);co_then;refine n7 C T ?_;exact⟨.inr rfl,rfl,_,resultsC_tmp2 rq _,rfl,by simp[kV, *],hF⟩
 .have a:(b==224)=false:=by simp[j]
  simp only[a];refine aZ C T (t:=false) rfl ?_;simp only[if_false,kj];co_apply aU C T (eY.refl _);co_reg (T _);iterate 2 co_op HC.rely hF (co_quiet h)
  co_apply opsC_nil (T _);co_then;by_cases k:b=237
  .have e:(b==237)=true:=by simp[k]
   simp only[e];refine aZ C T (t:=true) rfl ?_;simp only[if_true];co_apply aU C T (eY.refl _);co_reg (T _);iterate 2 co_op HC.rely hF (co_quiet h)
   co_apply opsC_nil (T _);co_then;refine n7 C T ?_;exact⟨.inr rfl,rfl,_,resultsC_tmp2 rq _,rfl,by simp[kV, *],hF⟩
  .have e:(b==237)=false:=by simp[k]
   simp only[e];refine aZ C T (t:=false) rfl ?_;simp only[if_false,kj];co_apply aU C T (eY.refl _);co_reg (T _);iterate 2 co_op HC.rely hF (co_quiet h)
   co_apply opsC_nil (T _);co_then;by_cases l:b=240
   .have f:(b==240)=true:=by simp[l]
    simp only[f];refine aZ C T (t:=true) rfl ?_;simp only[if_true];co_apply aU C T (eY.refl _);co_reg (T _);iterate 2 co_op HC.rely hF (co_quiet h)
    co_apply opsC_nil (T _);co_then;refine n7 C T ?_;exact⟨.inr rfl,rfl,_,resultsC_tmp2 rq _,rfl,by simp[kV, *],hF⟩
   .have f:(b==240)=false:=by simp[l]
    simp only[f];refine aZ C T (t:=false) rfl ?_;simp only[if_false,kj];co_apply aU C T (eY.refl _);co_reg (T _);iterate 2 co_op HC.rely hF (co_quiet h)
    co_apply opsC_nil (T _);co_then;by_cases m:b=244
    .have g:(b==244)=true:=by simp[m]
     simp only[g];refine aZ C T (t:=true) rfl ?_;simp only[if_true];co_apply aU C T (eY.refl _);co_reg (T _);iterate 2 co_op HC.rely hF (co_quiet h)
     co_apply opsC_nil (T _);co_then;refine n7 C T ?_;exact⟨.inr rfl,rfl,_,resultsC_tmp2 rq _,rfl,by simp[kV, *],hF⟩
    .have g:(b==244)=false:=by simp[m]
     simp only[g];refine aZ C T (t:=false) rfl ?_;simp only[if_false,kj];refine fh C T ?_;show mH _ _ _ _ _ _ _;co_apply aU C T (eY.refl _);co_reg (T _);iterate 2 co_op HC.rely hF (co_quiet h)
     co_apply opsC_nil (T _);co_then;refine n7 C T ?_;exact⟨.inr rfl,rfl,_,resultsC_tmp2 rq _,rfl,by simp[kV, *],hF⟩
def eV(b k:Int):Int:=IntKind.i32.wrap (bits .and .u8 b k)
def Cr(i:Ix)(b m k:Int) :
  hM prog (XK (aC prog N Pb Shun val B Mz)) 313 #[.pointer (sq c2),.int .u8 b,.int .i64 m,.int .u8 k] i w (λi' _ w'=>i'=i/\HC N Pb cp c1 c2 c ⟨eV b k,m,(kV b).1,(kV b).2⟩ w'):=by
 have C:=cK N Pb Shun val B Mz;have T:=tK N Pb Shun val B Mz;have Tq:=T (true,[]);refine fp func313 rq rfl ?_;simp only[ntmps313,bZ,Nat.reduceAdd,Nat.reduceSub];co_apply aU C T (eY.refl _);co_reg (T _);iterate 5 co_op HC.rely hF (co_quiet Tq)
 iterate 2 co_opw HC.rely hF (skip) (co_still Tq)
 co_opw HC.rely hF (have hc:=hF.cN) (exact fK hF (.inr rfl) (by co_evs (exact cJ (.inr (.inr rfl)))));replace hF:=hF.wB (eV b k);clear hc;co_apply opsC_nil (T _);co_then;co_apply aU C T (eY.refl _);co_reg (T _);iterate 2 co_op HC.rely hF (co_quiet Tq)
 iterate 2 co_opw HC.rely hF (skip) (co_still Tq)
 co_opw HC.rely hF (have hc:=hF.cN) (exact fK hF (.inr rfl) (by co_evs (exact cJ (.inr (.inr rfl)))));replace hF:=hF.oW m;clear hc;co_apply opsC_nil (T _);co_then;refine bX C T ?_;simp only[fH,Nat.reduceAdd];iterate 3
  refine aP C rfl rq λ_ hR Kx dg=>?_
  replace hF:=HC.rely hF hR
  clear hR
  go_simp
  try (unfold stored;go_simp)
  refine dg _ _ ⟨?_,?_⟩
  .co_quiet Tq
  clear dg Kx;try walk_nrm
 refine cf C T rfl rq rfl rfl (by simp[Act.eval]) rfl (HS hF i b) ?_;rintro _ _ _ ⟨rfl,rfl,hF⟩;iterate 3
  try walk_nrm
  refine aP C rfl rq λ_ hR Kx dg=>?_
  replace hF:=HC.rely hF hR
  clear hR
  go_simp
  try (unfold stored;go_simp)
  refine dg _ _ ⟨?_,?_⟩
  .co_quiet Tq
  clear dg Kx
 iterate 2
  try walk_nrm
  refine aP C rfl rq λ_ hR Kx dg=>?_
  replace hF:=HC.rely hF hR
  clear hR
  go_simp
  try (unfold stored;go_simp)
  refine dg _ _ ⟨?_,?_⟩
  .co_still Tq
  clear dg Kx
 try walk_nrm
 refine aP C rfl rq λ_ hR Kx dg=>?_;replace hF:=HC.rely hF hR;clear hR;have hc:=hF.cN;go_simp;try (unfold stored;go_simp)
 refine dg _ _ ⟨?_,?_⟩
 .exact fK hF (.inr rfl) (by co_evs (exact cJ (.inr (.inr rfl))))
 clear dg Kx;try walk_nrm
 replace hF:=hF.Kd (kV b).1;clear hc;iterate 2
  refine aP C rfl rq λ_ hR Kx dg=>?_
  replace hF:=HC.rely hF hR
  clear hR
  go_simp
  try (unfold stored;go_simp)
  refine dg _ _ ⟨?_,?_⟩
  .co_still Tq
  clear dg Kx;try walk_nrm
 refine aP C rfl rq λ_ hR Kx dg=>?_;replace hF:=HC.rely hF hR;clear hR;have hc:=hF.cN;go_simp;try (unfold stored;go_simp)
 refine dg _ _ ⟨?_,?_⟩
 .exact fK hF (.inr rfl) (by co_evs (exact cJ (.inr (.inr rfl))))
 clear dg Kx;try walk_nrm
 replace hF:=hF.ER (kV b).2;clear hc;exact cG C T ⟨.inl rfl,rfl,_,resultsC_none rq _,rfl,hF⟩
end
def g8 (d:DS):DS × Iq:=if 0<d.missing then ({ d with missing:=0 },[65533]) else (d,[])
def aV(c:CS):Iq->CS × Iq
 | []=>(c,[])
 | r::l=>((aV (gi c r).1 l).1,(gi c r).2++(aV (gi c r).1 l).2)
def cC(c:CS)(r:Int):aV c [r]=gi c r:=by simp[aV]
section
variable (hF:HC N Pb cp c1 c2 c d w)
def Iw(fr:Bool)(vs:Vq) :
  hM prog (XK (aC prog N Pb Shun val B Mz)) 118 #[.pointer (sq c2)] (fr,V (aV c (g8 d).2).2++vs) w (λi' _ w'=>i'=(fr&&(aV c (g8 d).2).2.isEmpty,vs)/\HC N Pb cp c1 c2 (aV c (g8 d).2).1 (g8 d).1 w'):=by
 have C:=cK N Pb Shun val B Mz;have T:=tK N Pb Shun val B Mz;have Tq:=T (true,[]);refine fp func118 rq rfl ?_;simp only[ntmps118,bZ,Nat.reduceAdd,Nat.reduceSub];co_apply aU C T (eY.refl _);co_reg (T _);co_op HC.rely hF (co_quiet Tq);iterate 2 co_opw HC.rely hF (skip) (co_still Tq)
 co_opw HC.rely hF (have hc:=hF.cN) (refine ea hF ?_;co_evs (exact cJ (.inr (.inr rfl))));clear hc;co_op HC.rely hF (co_quiet Tq);co_apply opsC_nil (T _);co_then;by_cases hm:0<d.missing
 .have Yp:decide (0<d.missing)=true:=tD hm;try simp only[Yp]
  refine aZ C T (t:=true) rfl ?_;simp only[if_true];co_apply aU C T (eY.refl _);co_reg (T _);co_op HC.rely hF (co_quiet Tq);iterate 2 co_opw HC.rely hF (skip) (co_still Tq)
  co_opw HC.rely hF (have hc:=hF.cN) (exact fK hF (.inr rfl) (by co_evs (exact cJ (.inr (.inr rfl)))));replace hF:=hF.oW 0;clear hc;co_apply opsC_nil (T _);co_then;refine bX C T ?_;simp only[fH,Nat.reduceAdd];refine aP C rfl rq λ_ hR Kx dg=>?_;replace hF:=HC.rely hF hR;clear hR;go_simp;try (unfold stored;go_simp)
  refine dg _ _ ⟨?_,?_⟩
  .co_quiet Tq
  iterate 2
   clear dg Kx
   try walk_nrm
   refine aP C rfl rq λ_ hR Kx dg=>?_
   replace hF:=HC.rely hF hR
   clear hR
   go_simp
   try (unfold stored;go_simp)
   refine dg _ _ ⟨?_,?_⟩
   .co_still Tq
  clear dg Kx;try walk_nrm
  refine aP C rfl rq λ_ hR Kx dg=>?_;replace hF:=HC.rely hF hR;clear hR;have hc:=hF.cN;go_simp;try (unfold stored;go_simp)
  refine dg _ _ ⟨?_,?_⟩
  .refine ea hF ?_;co_evs (exact cJ (.inr (.inr rfl)))
  clear dg Kx;try walk_nrm
  clear hc;refine cf C T rfl rq rfl rfl (by simp[Act.eval]) (by simp only[g8,ip hm,cC]) (Ay hF fr 65533 vs) ?_;rintro _ _ _ ⟨rfl,hF⟩;refine cG C T ?_;exact⟨.inl rfl,rfl,_,resultsC_none rq _,by simp[g8,hm,cC],by simpa[g8,hm,cC] using hF⟩
 .have Yp:decide (0<d.missing)=false:=fD hm;try simp only[Yp]
  refine aZ C T (t:=false) rfl ?_;simp only[if_false,kj];refine fh C T ?_;exact⟨.inl rfl,rfl,_,resultsC_none rq _,by simp[g8,hm,aV,V],by simpa[g8,hm,aV] using hF⟩
def di(d:DS)(b:Int):DS × Iq :=
 if b<128 then (d,[IntKind.i32.wrap b]) else if b<194 then (d,[65533]) else if b>244 then (d,[65533]) else if b<224 then (⟨eV b 31,1,(kV b).1,(kV b).2⟩,[]) else if b<240 then (⟨eV b 15,2,(kV b).1,(kV b).2⟩,[]) else (⟨eV b 7,3,(kV b).1,(kV b).2⟩,[])
def wZ(fr:Bool)(b:Int)(vs:Vq) :
  hM prog (XK (aC prog N Pb Shun val B Mz)) 215 #[.pointer (sq c2),.int .u8 b] (fr,V (aV c (di d b).2).2++vs) w (λi' _ w'=>i'=(fr&&(aV c (di d b).2).2.isEmpty,vs)/\HC N Pb cp c1 c2 (aV c (di d b).2).1 (di d b).1 w'):=by
 have C:=cK N Pb Shun val B Mz;have T:=tK N Pb Shun val B Mz;have Tq:=T (true,[]);refine fp func215 rq rfl ?_;simp only[ntmps215,bZ,Nat.reduceAdd,Nat.reduceSub];refine iN C T ?_;co_apply aU C T (eY.refl _);co_reg (T _);iterate 3 co_op HC.rely hF (co_quiet Tq)
 co_apply opsC_nil (T _);co_then;by_cases h1:b<128
 .have P5:decide (b<128)=true:=tD h1;try simp only[P5]
  refine aZ C T (t:=true) rfl ?_;simp only[if_true];have ta:di d b=(d,[IntKind.i32.wrap b]):=by simp[di,h1]
  refine bX C T ?_;simp only[fH,Nat.reduceAdd];refine aP C rfl rq λ_ hR Kx dg=>?_;replace hF:=HC.rely hF hR;clear hR;go_simp;try (unfold stored;go_simp)
  refine dg _ _ ⟨?_,?_⟩
  .co_quiet Tq
  iterate 2
   clear dg Kx
   try walk_nrm
   refine aP C rfl rq λ_ hR Kx dg=>?_
   replace hF:=HC.rely hF hR
   clear hR
   go_simp
   try (unfold stored;go_simp)
   refine dg _ _ ⟨?_,?_⟩
   .co_still Tq
  clear dg Kx;try walk_nrm
  refine aP C rfl rq λ_ hR Kx dg=>?_;replace hF:=HC.rely hF hR;clear hR;have hc:=hF.cN;go_simp;try (unfold stored;go_simp)
  refine dg _ _ ⟨?_,?_⟩
  .refine ea hF ?_;co_evs (exact cJ (.inr (.inr rfl)))
  clear dg Kx;try walk_nrm
  clear hc;iterate 2
   refine aP C rfl rq λ_ hR Kx dg=>?_
   replace hF:=HC.rely hF hR
   clear hR
   go_simp
   try (unfold stored;go_simp)
   refine dg _ _ ⟨?_,?_⟩
   .co_quiet Tq
   clear dg Kx;try walk_nrm
  refine cf C T rfl rq rfl rfl (by simp[Act.eval]) (by rw[ta];simp only[cC]) (Ay hF fr (IntKind.i32.wrap b) vs) ?_;rintro _ _ _ ⟨rfl,hF⟩;refine cG C T ?_;exact⟨.inl rfl,rfl,_,resultsC_none rq _,by simp[ta,cC],by rw[ta,cC];exact hF⟩
 .have P5:decide (b<128)=false:=fD h1;try simp only[P5]
  refine aZ C T (t:=false) rfl ?_;simp only[if_false,kj];by_cases h2:b<194
  .have XI:decide (b<194)=true:=tD h2;co_apply aU C T (eY.refl _);co_reg (T _);iterate 3 co_op HC.rely hF (co_quiet Tq)
   try simp only[XI]
   iterate 2 co_apply opsC_unwanted (T _) rfl rq
   iterate 2 co_op HC.rely hF (co_quiet Tq)
   co_apply opsC_nil (T _);co_then;refine aZ C T (t:=true) rfl ?_;simp only[if_true];have ta:di d b=(d,[65533]):=by simp[di,h1,h2]
   refine bX C T ?_;simp only[fH,Nat.reduceAdd];refine aP C rfl rq λ_ hR Kx dg=>?_;replace hF:=HC.rely hF hR;clear hR;go_simp;try (unfold stored;go_simp)
   refine dg _ _ ⟨?_,?_⟩
   .co_quiet Tq
   iterate 2
    clear dg Kx
    try walk_nrm
    refine aP C rfl rq λ_ hR Kx dg=>?_
    replace hF:=HC.rely hF hR
    clear hR
    go_simp
    try (unfold stored;go_simp)
    refine dg _ _ ⟨?_,?_⟩
    .co_still Tq
   clear dg Kx;try walk_nrm
   refine aP C rfl rq λ_ hR Kx dg=>?_;replace hF:=HC.rely hF hR;clear hR;have hc:=hF.cN;go_simp;try (unfold stored;go_simp)
   refine dg _ _ ⟨?_,?_⟩
   .refine ea hF ?_;co_evs (exact cJ (.inr (.inr rfl)))
   clear dg Kx;try walk_nrm
   clear hc;refine cf C T rfl rq rfl rfl (by simp[Act.eval]) (by rw[ta];simp only[cC]) (Ay hF fr 65533 vs) ?_;rintro _ _ _ ⟨rfl,hF⟩;refine cG C T ?_;exact⟨.inl rfl,rfl,_,resultsC_none rq _,by simp[ta,cC],by rw[ta,cC];exact hF⟩
  .have XI:decide (b<194)=false:=fD h2;co_apply aU C T (eY.refl _);co_reg (T _);iterate 3 co_op HC.rely hF (co_quiet Tq)
   try simp only[XI]
   iterate 4 co_op HC.rely hF (co_quiet Tq)
   co_apply opsC_nil (T _);co_then;by_cases h3:b>244
   .have XL:decide (b>244)=true:=tD h3;try simp only[XL]
    refine aZ C T (t:=true) rfl ?_;simp only[if_true];have ta:di d b=(d,[65533]):=by simp[di,h1,h2,h3]
    refine bX C T ?_;simp only[fH,Nat.reduceAdd];refine aP C rfl rq λ_ hR Kx dg=>?_;replace hF:=HC.rely hF hR;clear hR;go_simp;try (unfold stored;go_simp)
    refine dg _ _ ⟨?_,?_⟩
    .co_quiet Tq
    iterate 2
     clear dg Kx
     try walk_nrm
     refine aP C rfl rq λ_ hR Kx dg=>?_
     replace hF:=HC.rely hF hR
     clear hR
     go_simp
     try (unfold stored;go_simp)
     refine dg _ _ ⟨?_,?_⟩
     .co_still Tq
    clear dg Kx;try walk_nrm
    refine aP C rfl rq λ_ hR Kx dg=>?_;replace hF:=HC.rely hF hR;clear hR;have hc:=hF.cN;go_simp;try (unfold stored;go_simp)
    refine dg _ _ ⟨?_,?_⟩
    .refine ea hF ?_;co_evs (exact cJ (.inr (.inr rfl)))
    clear dg Kx;try walk_nrm
    clear hc;refine cf C T rfl rq rfl rfl (by simp[Act.eval]) (by rw[ta];simp only[cC]) (Ay hF fr 65533 vs) ?_;rintro _ _ _ ⟨rfl,hF⟩;refine cG C T ?_;exact⟨.inl rfl,rfl,_,resultsC_none rq _,by simp[ta,cC],by rw[ta,cC];exact hF⟩
   .have XL:decide (b>244)=false:=fD h3;try simp only[XL]
    refine aZ C T (t:=false) rfl ?_;simp only[if_false,kj];co_apply aU C T (eY.refl _);co_reg (T _);iterate 3 co_op HC.rely hF (co_quiet Tq)
    co_apply opsC_nil (T _);co_then;by_cases h4:b<224
    .have XO:decide (b<224)=true:=tD h4;try simp only[XO]
     refine aZ C T (t:=true) rfl ?_;simp only[if_true];have ta:di d b=(⟨eV b 31,1,(kV b).1,(kV b).2⟩,[]):=by simp[di,h1,h2,h3,h4]
     refine bX C T ?_;simp only[fH,Nat.reduceAdd];iterate 2
      refine aP C rfl rq λ_ hR Kx dg=>?_
      replace hF:=HC.rely hF hR
      clear hR
      go_simp
      try (unfold stored;go_simp)
      refine dg _ _ ⟨?_,?_⟩
      .co_quiet Tq
      clear dg Kx;try walk_nrm
     refine cf C T rfl rq rfl rfl (by simp[Act.eval]) (by rw[ta];simp[aV,V]) (Cr hF (fr,vs) b 1 31) ?_;rintro _ _ _ ⟨rfl,hF⟩;refine cG C T ?_;exact⟨.inl rfl,rfl,_,resultsC_none rq _,by simp[ta,aV],by rw[ta];exact hF⟩
    .have XO:decide (b<224)=false:=fD h4;try simp only[XO]
     refine aZ C T (t:=false) rfl ?_;simp only[if_false,kj];co_apply aU C T (eY.refl _);co_reg (T _);iterate 3 co_op HC.rely hF (co_quiet Tq)
     co_apply opsC_nil (T _);co_then;by_cases h5:b<240
     .have XP:decide (b<240)=true:=tD h5;try simp only[XP]
      refine aZ C T (t:=true) rfl ?_;simp only[if_true];have ta:di d b=(⟨eV b 15,2,(kV b).1,(kV b).2⟩,[]):=by simp[di,h1,h2,h3,h4,h5]
      refine bX C T ?_;simp only[fH,Nat.reduceAdd];iterate 2
       refine aP C rfl rq λ_ hR Kx dg=>?_
       replace hF:=HC.rely hF hR
       clear hR
       go_simp
       try (unfold stored;go_simp)
       refine dg _ _ ⟨?_,?_⟩
       .co_quiet Tq
       clear dg Kx;try walk_nrm
      refine cf C T rfl rq rfl rfl (by simp[Act.eval]) (by rw[ta];simp[aV,V]) (Cr hF (fr,vs) b 2 15) ?_;rintro _ _ _ ⟨rfl,hF⟩;refine cG C T ?_;exact⟨.inl rfl,rfl,_,resultsC_none rq _,by simp[ta,aV],by rw[ta];exact hF⟩
     .have XP:decide (b<240)=false:=fD h5;try simp only[XP]
      refine aZ C T (t:=false) rfl ?_;simp only[if_false,kj];have ta:di d b=(⟨eV b 7,3,(kV b).1,(kV b).2⟩,[]):=by simp[di,h1,h2,h3,h4,h5]
      refine bX C T ?_;simp only[fH,Nat.reduceAdd];iterate 2
       refine aP C rfl rq λ_ hR Kx dg=>?_
       replace hF:=HC.rely hF hR
       clear hR
       go_simp
       try (unfold stored;go_simp)
       refine dg _ _ ⟨?_,?_⟩
       .co_quiet Tq
       clear dg Kx;try walk_nrm
      refine cf C T rfl rq rfl rfl (by simp[Act.eval]) (by rw[ta];simp[aV,V]) (Cr hF (fr,vs) b 3 7) ?_;rintro _ _ _ ⟨rfl,hF⟩;refine cG C T ?_;exact⟨.inl rfl,rfl,_,resultsC_none rq _,by simp[ta,aV],by rw[ta];exact hF⟩
end
end
def dC(l b:Int):Int:=bits .or .i32 (IntKind.i32.wrap (l*64)) (IntKind.i32.wrap (bits .and .u8 b 63))
def cW(d:DS)(b:Int):DS × Iq :=
 (⟨dC d.letter b,IntKind.i64.wrap (d.missing-1),128,191⟩,if IntKind.i64.wrap (d.missing-1)=0 then [dC d.letter b] else [])
section
variable {Pb:Nat}{w:World}
variable [ConcR.Payload][ConcX.Payload]
theorem IA(a:HC N Pb cp c1 c2 c d w)(fr:Bool)(b:Int)(vs:Vq) :
  hM prog (XK (aC prog N Pb Shun val B Mz)) 214 #[.pointer (sq c2),.int .u8 b] (fr,V (aV c (cW d b).2).2++vs) w (λA _ p=>A=(fr&&(aV c (cW d b).2).2.isEmpty,vs)/\HC N Pb cp c1 c2 (aV c (cW d b).2).1 (cW d b).1 p):=by
 have C:=cK N Pb Shun val B Mz;have T:=tK N Pb Shun val B Mz;have f:=T (true,[]);have q:∀w:World,eY (aC prog N Pb Shun val B Mz) (true,[]) w { w with drawn:=w.drawn+1 }:=uy;refine fp func214 rq rfl ?_;simp only[ntmps214,bZ,Nat.reduceAdd,Nat.reduceSub];co_apply aU C T (eY.refl _);co_reg (T _);iterate 2 co_op HC.rely a (co_quiet f)
 iterate 2 co_opw HC.rely a (skip) (co_still f)
 co_opw HC.rely a (have U:=a.cN) (refine ea a ?_;co_evs (exact cJ (.inr (.inr rfl))));clear U;iterate 5 co_op HC.rely a (co_quiet f)
 iterate 2 co_opw HC.rely a (skip) (co_still f)
 co_opw HC.rely a (have U:=a.cN) (exact fK a (.inr rfl) (by co_evs (exact cJ (.inr (.inr rfl)))));replace a:=a.wB (dC d.letter b);clear U;co_apply opsC_nil (T _);co_then;co_apply aU C T (eY.refl _);co_reg (T _);co_op HC.rely a (co_quiet f);iterate 2 co_opw HC.rely a (skip) (co_still f)
 co_opw HC.rely a (have U:=a.cN) (refine ea a ?_;co_evs (exact cJ (.inr (.inr rfl))));clear U;co_op HC.rely a (co_quiet f);iterate 2 co_opw HC.rely a (skip) (co_still f)
 co_opw HC.rely a (have U:=a.cN) (exact fK a (.inr rfl) (by co_evs (exact cJ (.inr (.inr rfl)))));replace a:=a.oW (IntKind.i64.wrap (d.missing-1));clear U;co_apply opsC_nil (T _);co_then;co_apply aU C T (eY.refl _);co_reg (T _);iterate 2 co_op HC.rely a (co_quiet f)
 iterate 2 co_opw HC.rely a (skip) (co_still f)
 co_opw HC.rely a (have U:=a.cN) (exact fK a (.inr rfl) (by co_evs (exact cJ (.inr (.inr rfl)))));replace a:=a.Kd 128;clear U;iterate 2 co_opw HC.rely a (skip) (co_still f)
 co_opw HC.rely a (have U:=a.cN) (exact fK a (.inr rfl) (by co_evs (exact cJ (.inr (.inr rfl)))));replace a:=a.ER 191;clear U;co_apply opsC_nil (T _);co_then;co_apply aU C T (eY.refl _);co_reg (T _);co_op HC.rely a (co_quiet f);iterate 2 co_opw HC.rely a (skip) (co_still f)
 co_opw HC.rely a (have U:=a.cN) (refine ea a ?_;co_evs (exact cJ (.inr (.inr rfl))));clear U;co_op HC.rely a (co_quiet f);co_apply opsC_nil (T _);co_then;by_cases g:IntKind.i64.wrap (d.missing-1)=0
 .have o:(IntKind.i64.wrap (d.missing-1)==0)=true:=by simp[g]
  try simp only[o]
  clear o;refine aZ C T (t:=true) rfl ?_;simp only[if_true];refine sO C T (n:=8) (S:=HC N Pb cp c1 c2 c ⟨dC d.letter b,IntKind.i64.wrap (d.missing-1),128,191⟩) (K:=λm p=>(m.eval (.tmp 37)=oe c1/\m.eval (.tmp 41)=.int .i32 (dC d.letter b)/\m.defers=[])/\HC N Pb cp c1 c2 c ⟨dC d.letter b,IntKind.i64.wrap (d.missing-1),128,191⟩ p) Oh (by first|kernel_rfl|rfl) rfl (λl=>(!l.getD 1 false||l.getD 0 false)&&(!l.getD 2 false||l.getD 1 false)&&(!l.getD 3 false||l.getD 2 false)&&(!l.getD 5 false||l.getD 4 false)&&(!l.getD 6 false||l.getD 5 false)&&(!l.getD 7 false||l.getD 6 false)) rfl ?hdn ?Yu (λv u=>?any) ?last;case Yu =>
   intro e j i;have⟨l⟩:=e;match l,j,i with
   | [b0,b1,b2,b3,b4,b5,b6,b7,b8],j,i =>clear j;simp only[IE,List.getElem?_cons_succ,K5,sK] at i;subst i;clear a g;revert b0 b1 b2 b3 b4 b5 b6 b7;decide +kernel
  case hdn =>
   intro e j i;have⟨l⟩:=e;match l,j,i with
   | [b0,b1,b2,b3,b4,b5,b6,b7,b8],j,i =>clear j;simp only[IE,List.getElem?_cons_succ,K5,sK] at i;subst i;clear a g;revert b0 b1 b2 b3 b4 b5 b6 b7;decide +kernel
  case any =>
   replace a:=HC.rely (HC.rely a u) (q _);clear u
   co_applyP tkA [0, 1, 2, 3, 4, 5, 6, 7]
   iterate 8
    co_applyP tkC (T _) (λ_ _ h r=>HC.rely h r) (λ_ _ _ h r=>⟨h.1,h.2.1,HC.rely h.2.2 r⟩) rfl (.inl ⟨rq,λ_ s=>⟨run_eq_of ?_,?_⟩⟩) a ?_;rotate_left
    .intro D x;have U:=s.cN;go_simp;exact x
    .have U:=s.cN;first|(rw[listed_nil];exact Terms.idle f _;first|(simp[go_sem];done)|(simp[go_sem, *];done))|(refine ea s ?_;co_evs (exact cJ (.inr (.inr rfl))))
    try walk_nrm
   co_applyP tkZ
   exact anyCH_done (by decide +kernel) ⟨rfl,⟨rfl,rfl,rfl⟩,a⟩ _
  case last =>
   rintro m p ⟨⟨y,E,z⟩,a⟩;have k:cW d b=(⟨dC d.letter b,IntKind.i64.wrap (d.missing-1),128,191⟩,[dC d.letter b]):=by simp only[cW,ip g]
   refine cf C T rfl rq rfl y gq (by rw[k];simp only[cC]) (Ay a fr (dC d.letter b) vs) ?_;rintro _ _ _ ⟨rfl,a⟩;refine cG C T ?_;exact⟨.inl rfl,z,_,resultsC_none rq _,by simp[k,cC],by rw[k,cC];exact a⟩
 .have o:(IntKind.i64.wrap (d.missing-1)==0)=false:=by simp[g]
  try simp only[o]
  refine aZ C T (t:=false) rfl ?_;simp only[if_false,kj];refine fh C T ?_;have k:cW d b=(⟨dC d.letter b,IntKind.i64.wrap (d.missing-1),128,191⟩,[]):=by simp only[cW,iw g]
  exact⟨.inl rfl,rfl,_,resultsC_none rq _,by simp[k,aV,V],by rw[k];exact a⟩
end
end Go.Proofs.YtgcaionclkbehaaGreatDoor
