import Derived.Test.YtgcaionclkbehaaGreatDoorLone
import Derived.Conc.TokenWalk
import Derived.Maps.AppendAt
import Derived.OwnWalk
import Derived.Conc.AppendWalk
import Derived.Test.YtgcaionclkbehaaGreatDoorChecked
import Derived.Lib.RuneBytes
import Derived.Lib.Builder
import Derived.Conc.WgGenN3
import Derived.Test.YtgcaionclkbehaaGreatDoorDone
import Derived.Conc.FxGenLone
import Derived.Conc.CrowdMono
set_option linter.all false
set_option maxHeartbeats 2000000
set_option maxRecDepth 100000
namespace Go.Proofs.YtgcaionclkbehaaGreatDoor
open Go.Conc Go.RowKit Tryz
section
variable {ops:Array Oper}{rest:List Nat}{fn:FuncId}{v:Value}{P:Program}{w w':World}
variable {x:Operand}{Pb b b' i id k o:Nat}{args' cap cs first xs:Aq}{e:Event}{c y:Code}{t ty:TypeId}{f:FuncId}{bL:Func}{args:Array Operand}{ats:Array TypeId}{v':Value}{vs:Vq}{fz:Nat × Nat}{K:Cfg}{es:Array Event}
structure cG{ι:Type}(P:Program)(main:Bool)(R:ι->Wq)(D:ι->World->World->Array Event->Prop)(X:ι->Gq):Prop where
 rely:∀{vs g w aK},X vs g w->R vs w aK->X vs g aK
 step:∀{vs g w},g.status=.running->(∀aK,R vs w aK->(stepG P main g aK).goes λg' w' es=>D vs aK w' es/\X vs g' w')->X vs g w
def tR{ι:Type}(X:ι->Gq)(vs:ι)(b:Frame)(k:List Item)(cs:List Frame):Exit->Act->World->Prop
 | .normal,a,w=>X vs (G (b.at a k) cs) w
 | .exit id,a,w=>∃k',exitTo id k=some k'/\X vs (G (b.at a k') cs) w
 | .ret,a,w=>∀todo,X vs (G { b.at a todo with mode:=.returning } cs) w
 | _,_,_=>False
abbrev gY(ι:Type):=ι->Exit->Act->World->Prop
def Ak{ι:Type}(T:ι->Act->World->Prop)(Q:gY ι):gY ι
 | vs,.normal,a,w=>T vs a w
 | vs,e,a,w=>Q vs e a w
def lZ{ι:Type}(id:Nat)(Q:gY ι):gY ι
 | vs,.exit X1,a,w=>if X1=id then Q vs .normal a w else Q vs (.exit X1) a w
 | vs,e,a,w=>Q vs e a w
def iO {ι:Type}(X:ι->Gq)(fn:FuncId)(c:Code)(vs:ι)(Q:gY ι)(a:Act)(w:World):Prop :=
 ∀(b:Frame) (k:List Item) (cs:List Frame),b.fn=fn->b.kind≠.early->(∀iA e a' w',Q iA e a' w'->tR X iA b k cs e a' w')->X vs (G (b.at a (.code c::k)) cs) w
def cP {ι:Type}(X:ι->Gq)(fn:FuncId)(ops:Array Oper)(todo:List Nat)(vs:ι)(Q:gY ι)(a:Act)(w:World):Prop :=
 ∀(b:Frame) (k:List Item) (cs:List Frame),b.fn=fn->b.kind≠.early->(∀iA e a' w',Q iA e a' w'->tR X iA b k cs e a' w')->X vs (G (b.at a (.inRegion ops todo::k)) cs) w
variable {a:Act}
section
variable {ι:Type}{main:Bool}{R:ι->Wq}{D:ι->World->World->Array Event->Prop}{X:ι->Gq}{Q Q':gY ι}{vs:ι}
theorem tR.push{x:Item}{b:Frame}{k:List Item}{cs:List Frame}{e:Exit}(g:x.plain=true)(U:e≠.normal)(h:tR X vs b k cs e a w):tR X vs b (x::k) cs e a w:=by
 cases e with
 | normal=>exact absurd Y U
 | exit id=>obtain⟨d,f,c⟩:=h;exact⟨d,by cases x<;>simp_all [exitTo,Item.plain],c⟩
 | ret=>exact h
 | goto l=>exact h
 | panic ch=>exact h
 | outgrown=>exact h
def nO(h:iO X fn c vs Q a w)(hq:∀vs e a w,Q vs e a w->Q' vs e a w):iO X fn c vs Q' a w:=λb k cs hb hk hc=>h b k cs hb hk λiA e a' w' q=>hc iA e a' w'<|hq iA e a' w' q
section
variable (C:cG P main R D X)
section
variable (T:∀i,Terms (R i)<|D i)
def nP(h:Q vs .normal a w):iO X fn .skip vs Q a w:=λb k f _ _ e=>C.step Y λd c=>by exact⟨(T vs).idle _,C.rely (e _ _ _ _ h) c⟩
def qq(h:Q vs .ret a w):iO X fn .ret vs Q a w:=λb k f _ _ e=>C.step Y λd c=>by exact⟨(T vs).idle _,C.rely (e _ _ _ _ h _) c⟩
def tF(h:Q vs (.exit id) a w):iO X fn (.exit id) vs Q a w:=λb k i _ _ f=>by have⟨j,d,g⟩:=f _ _ _ _ h;exact C.step Y λe c=>by rw[stepG_exit d];exact⟨(T vs).idle _,C.rely g c⟩
def Ku{l:Nat}(h:Q vs .normal a w):iO X fn (.label l) vs Q a w:=λb k f _ _ e=>C.step Y λd c=>by exact⟨(T vs).idle _,C.rely (e _ _ _ _ h) c⟩
def cu{x:Code}(h:iO X fn x vs (Ak (λf i n=>iO X fn y f Q i n) Q) a w):iO X fn (.seq x y) vs Q a w:=by
 intro b k g j m c;have p:X vs (G (b.at a (.code x::.code y::k)) g) w:=by
  refine h b _ g j m λf e i n q=>?_;cases e with
  | normal=>exact q b k g j m c
  | exit id=>exact(c _ _ _ _ q).push Y iq
  | ret=>exact(c _ _ _ _ q).push Y iq
  | goto l=>exact c _ _ _ _ q
  | panic ch=>exact c _ _ _ _ q
  | outgrown=>exact c _ _ _ _ q
 exact C.step Y λo d=>by exact⟨(T vs).idle _,C.rely p d⟩
def fT{c:Operand}{x:Code}{t:Bool}(hc:a.eval c=.bool t)(h:iO X fn (if t then x else y) vs Q a w):iO X fn (.cond c x y) vs Q a w :=
 λb k cs hb hk hq=>C.step Y λaK cO=>by rw[stepG_cond hc];exact⟨(T vs).idle _,C.rely (h b k cs hb hk hq) cO⟩
end
end
theorem jC(C:cG P main R D X)(T:∀i,Terms (R i)<|D i)(h:iO X fn c vs (lZ id Q) a w):iO X fn (.block id c) vs Q a w:=by
 intro b k j o r U;have s:X vs (G (b.at a (.code c::.inBlock id::k)) j) w:=by
  refine h b _ j o r λn e u v q=>?_;cases e with
  | normal=>exact C.step Y λf d=>by exact⟨(T n).idle _,C.rely (U _ _ _ _ q) d⟩
  | exit a1 =>
   by_cases g:a1=id
   .simp only[lZ,g,if_true] at q;exact⟨k,by simp[exitTo,g],U _ _ _ _ q⟩
   .simp only[lZ,g,if_false] at q;have⟨t,m,p⟩:=U _ _ _ _ q;have:(id==a1)=false:=gq
    exact⟨t,by simp[exitTo,this,m],p⟩
  | ret=>exact U _ _ _ _ q
  | goto l=>exact U _ _ _ _ q
  | panic ch=>exact U _ _ _ _ q
  | outgrown=>exact U _ _ _ _ q
 exact C.step Y λf d=>by exact⟨(T vs).idle _,C.rely s d⟩
section
variable (C:cG P main R D X)
section
variable (T:∀i,Terms (R i)<|D i)
def EC(I:Nat->ι->Act->World->Prop)(n:Nat)(TM:I n vs a w)
 (round:∀n vs a w,I n vs a w->iO X fn c vs (Ak (λiA a' w'=>∃n',n'<n/\I n' iA a' w') Q) a w):iO X fn (.loop c) vs Q a w:=by
 intro b k cs hb hk hc;have key:∀n vs a w,I n vs a w->X vs (G (b.at a (.code c::.inLoop c::k)) cs) w:=by
  intro n;induction n using Nat.strongRecOn with
  | _ n ih =>
   intro vs a w hI;refine round n vs a w hI b _ cs hb hk λiA e a' w' q=>?_;cases e with
   | normal =>obtain⟨n',hn,WW⟩:=q;exact C.step Y λaK cO=>by exact⟨(T iA).idle _,C.rely (ih n' hn iA a' w' WW) cO⟩
   | exit id=>exact(hc _ _ _ _ q).push Y iq
   | ret=>exact(hc _ _ _ _ q).push Y iq
   | goto l=>exact hc _ _ _ _ q
   | panic ch=>exact hc _ _ _ _ q
   | outgrown=>exact hc _ _ _ _ q
 exact C.step Y λaK cO=>by exact⟨(T vs).idle _,C.rely (key n vs a w TM) cO⟩
def bv(h:cP X fn ops (List.range ops.size) vs Q a w):iO X fn (.region id ops false) vs Q a w :=
 λb k cs hb hk hc=>C.step Y λaK cO=>by exact⟨(T vs).idle _,C.rely (h b k cs hb hk hc) cO⟩
def bO(h:Q vs .normal a w):cP X fn ops [] vs Q a w:=λb k f _ _ e=>C.step Y λd c=>by exact⟨(T vs).idle _,C.rely (e _ _ _ _ h) c⟩
def je{o:Oper}(ho:ops[i]?=some o)(hw:Region.wanted o (yielded ops a.tmps)=false)(h:cP X fn ops rest vs Q (a.put o.dst undef) w):cP X fn ops (i::rest) vs Q a w :=
 λb k cs hb hk hc=>C.step Y λaK cO=>by rw[stepG_unwanted ho hw];exact⟨(T vs).idle _,C.rely (h b k cs hb hk hc) cO⟩
end
end
theorem aM(C:cG P main R D X){o:Oper}(p:ops[i]?=some o)(q:Region.wanted o (yielded ops a.tmps)=true)
 (h:∀c,R vs w c->∀K:Act->World->Prop,(∀j f,D vs c f (listed P fn a o c)/\cP X fn ops rest vs Q j f->K j f)->uponK o a K ((execOp a.eval o).run P c)):cP X fn ops (i::rest) vs Q a w:=by
 intro b k m l U n;refine C.step Y λc e=>goes_oper p q U ?_
 have:=h c e _ λ_ _ x=>x;revert this;cases (execOp a.eval o).run P c with
 | ok x f=>cases x<;>first|exact λ⟨d,g⟩=>⟨l▸d,g b k m l U n⟩|exact id
 | halt _ _=>exact id
def JP(C:cG P main R D X)(T:∀i,Terms (R i)<|D i){o:Oper}{first cap:Array Value}
 (ho:ops[i]?=some o)(hw:Region.wanted o (yielded ops a.tmps)=true)(lz:o.op=.call { callee:=.value x,args,argTypes:=ats })(hx:a.eval x=.func (.func f) first cap)
 (hf:P.funcs[f]?=some bL)(ny:(bL.name == "runtime.NumGoroutine")=false)(hb:bL.body=some c)
 (h:iO X f c vs (λiA e a' w'=>(e=.normal\/e=.ret)/\a'.defers=[]/\∃v,ResultsC P bL a'.tmps v/\cP X fn ops rest iA Q (a.put o.dst v) w')
   { tmps:=(first++args.map a.eval++cap)++Array.replicate (bL.ntmps-(first++args.map a.eval++cap).size) undef,defers:=[] } w):cP X fn ops (i::rest) vs Q a w:=by
 intro b k cs uU hk hc;have VL:bL.body.isNone=false:=by rw[hb]; rfl
 have Dn:∀v,(b.at a _).finish v=b.at (a.put o.dst v) (.inRegion ops rest::k):=λv=>by rw[Frame.finish_at,ho]; rfl
 have w7:∀(iA:ι) (a':Act) (w':World) todo,(a'.defers=[]/\∃v,ResultsC P bL a'.tmps v/\cP X fn ops rest iA Q (a.put o.dst v) w') ->
   X iA (G { (base f).at a' todo with mode:=.returning } (b.at a (.inRegion ops (i::rest)::k)::cs)) w':=by rintro iA a' w' todo ⟨hd,v,hr,hp⟩;refine C.step Y λaK cO=>?_;rw[stepG_leave Y hd hf (hr aK).1 (hr aK).2,Dn];exact⟨(T iA).idle _,C.rely (hp b k cs uU hk hc) cO⟩
 refine C.step Y λaK cO=>?_;obtain⟨hr,he⟩:=lG lz hx hf ny VL;rw[stepG_enter ho hw hk hr,enter_at _ hf hb];have hl:listed P b.fn a o aK=#[]:=listed_nil he;rw[hl];refine⟨(T vs).idle _,C.rely (h (base f) [] _ Y (by simp[base]) λiA e a' w' q=>?_) cO⟩;obtain⟨he',q⟩:=q;rcases he' with rfl|rfl
 .exact C.step Y λqC Mf=>by rw[stepG_end]; exact⟨(T iA).idle _,C.rely (w7 iA a' w' [] q) Mf⟩
 .exact λtodo=>w7 iA a' w' todo q
def gj(P:Program)(X:ι->Goroutine->World->Prop)(f:FuncId)(args:Array Value)(vs:ι)(w:World)(Post:ι->Value->World->Prop):Prop :=
 ∃ bL c,P.funcs[f]?=some bL/\(bL.name == "runtime.NumGoroutine")=false/\bL.body=some c /\
  iO X f c vs (λiA e a' w'=>(e=.normal\/e=.ret)/\a'.defers=[]/\∃v,ResultsC P bL a'.tmps v/\Post iA v w') { tmps:=args++Array.replicate (bL.ntmps-args.size) undef,defers:=[] } w
def jw{args:Array Value}{Post:ι->Value->World->Prop}(hf:P.funcs[f]?=some bL)(ny:(bL.name == "runtime.NumGoroutine")=false)(hb:bL.body=some c)
 (h:iO X f c vs (λiA e a' w'=>(e=.normal\/e=.ret)/\a'.defers=[]/\∃v,ResultsC P bL a'.tmps v/\Post iA v w') { tmps:=args++Array.replicate (bL.ntmps-args.size) undef,defers:=[] } w):gj P X f args vs w Post:=⟨bL,c,hf,ny,hb,h⟩
def mf(C:cG P main R D X)(T:∀i,Terms (R i)<|D i){o:Oper}{Ap:ι}{Post:ι->Value->World->Prop}
 (u:ops[i]?=some o)(y:Region.wanted o (yielded ops a.tmps)=true)(l:o.op=.call { callee:=.value x,args,argTypes:=ats })(z:a.eval x=.func (.func f) first cap)
 (d:first++args.map a.eval++cap=args')(m:vs=Ap)
 (g:gj P X f args' Ap w Post)(j:∀b v k,Post b v k->cP X fn ops rest b Q (a.put o.dst v) k):cP X fn ops (i::rest) vs Q a w:=by subst d m;have⟨n,c,s,t,r,h⟩:=g;refine JP C T u y l z s t r<|nO h λb e A k q=>?_;have⟨h1,h2,v,h3,p⟩:=q;exact⟨h1,h2,v,h3,j b v k p⟩
end
abbrev Ph:=Sum (Vq)<|Sum (Vq)<|Sum Unit Nat
abbrev Ph.front(vs:Vq):Ph:=.inl vs
abbrev Ph.walk(vs:Vq):Ph:=.inr<|.inl vs
abbrev Ph.over:Ph:=.inr<|.inr<|.inl ()
abbrev Ph.join(L:Nat):Ph:=.inr<|.inr<|.inr L
theorem Ph.cD{motive:Ph->Prop}(front:∀(vs:Vq),motive<|Ph.front vs)(walk:∀(vs:Vq),motive<|Ph.walk vs)(over:motive Ph.over)(join:∀L:Nat,motive<|Ph.join L)(x:Ph):motive x:=gq
section
variable (K:Cfg)[ConcX.Payload][ConcR.Payload][ConcX.Shy K.Wg K.C](Az:Gq)
def rK:Ph->World->World->Prop
 | .inr (.inr<|.inr _)=>mO K
 | _=>RM K
def yT:Ph->World->World->Array Event->Prop
 | .inr (.inr<|.inr L)=>tS K L
 | _=>DM K
def XM:Ph->Goroutine->World->Prop
 | .inl vs=>Way K.P true (RM K) (DM K)<|mK K Az vs
 | .inr (.inl vs)=>Way K.P true (RM K) (DM K)<|mK K Az vs
 | .inr (.inr<|.inl _)=>Way K.P true (RM K) (DM K)<|Av K Az
 | .inr (.inr<|.inr L)=>Way K.P true (mO K) (tS K L)<|KW K L Az
end
variable {aK qC:World}
section
variable {K:Cfg}[ConcX.Payload][ConcR.Payload][ConcX.Shy K.Wg K.C]{Az:Gq}{i:Ph}
def Aa(h:mO K w aK)(h':mO K aK qC):mO K w qC :=
 ⟨⟨h'.aside.tape.trans h.aside.tape,h'.aside.os.trans h.aside.os,h'.aside.output.trans h.aside.output,h'.aside.size.trans h.aside.size,λb a c=>(h'.aside.block b a c).trans<|h.aside.block b a c⟩,h'.ka ∘ h.ka,h'.kc ∘ h.kc⟩
def rK.trans(h:rK K i w aK)(a:rK K i aK qC):rK K i w qC:=by
 cases i using Ph.cD with
 | join=>exact Aa h a
 | _=>exact RM.trans h a
def uA(i:Ph):Terms (rK K i) (yT K i):=by
 refine⟨λ_ _ _=>rK.trans,λw=>?_⟩;cases i using Ph.cD with
 | join=>exact⟨λ_ _=>Y,iq⟩
 | _=>exact⟨λ_ _=>Y,λ_ h=>h,lr,iq⟩
def XM.closed:cG K.P true (rK K) (yT K) (XM K Az) where
 rely:=by
  intro i g w a h d
  cases i using Ph.cD with
  | join=>exact Way.rely (λ_ _ _=>Aa) h d
  | _=>exact Way.rely (λ_ _ _=>RM.trans) h d
 step:=by
  intro i g w f h
  cases i using Ph.cD <;>
  .
   refine Way.step f λa c=>?_
   have b:=h a c
   cases e:stepG K.P true g a with
   | go g' w' es=>rw[e] at b;exact⟨g',w',es,Y,b.1,b.2⟩
   | _=>rw[e] at b;exact b.elim
def XM.Mm{g:Goroutine}(hs:g.status=.running)(h:∀aK,RM K w aK->E1 K aK->∀L,K.N0<=L->XM K Az (.join L) g aK):XM K Az .over g w :=
 Way.stop λaK cO=>⟨hs,λhk L hL=>h aK cO hk L hL⟩
variable {j:Nat}{o:Oper}{Q:gY Ph}
def Nt{l:Bool}{Next:Gq}(i:ops[j]?=some o)(q:Region.wanted o (yielded ops a.tmps)=true){b:Frame}{d:List Item}{cs:List Frame}(g:b.kind≠.early)
 (n:∀w,(execOp a.eval o).run K.P w=.ok (.comm K.cases true .select) w)(m:∀w,(execOp a.eval o).events K.P w #[]=#[])
 (h:∀c,RM K w c->K.N0<=c.heap.size->Next (G (b.at (a.put o.dst<|commResult K.cases .select k v l) (.inRegion ops rest::d)) cs) c):Cx K k v l Next (G (b.at a (.inRegion ops (j::rest)::d)) cs) w:=by
 refine⟨Y,G _ cs,Y,Y,Y,λc _=>?_,λc f p=>?_⟩
 .rw[stepG_comm i q g (n c),listed_none<|m c]
 .have e:∀u,Conc.served (G _ cs) u=G _ cs:=λu=>by
   have:(b.at a (.inRegion ops (j::rest)::d)).finish u=b.at (a.put o.dst u) (.inRegion ops rest::d):=by rw[Frame.finish_at,i];rfl
   simp only[Conc.served,G];rw[this]
  rw[e];exact h c f p
def DR(hi:i=.front (v::vs)\/i=.walk (v::vs))(p:ops[j]?=some o)(s:Region.wanted o (yielded ops a.tmps)=true)
 (q:∀w,(execOp a.eval o).run K.P w=.ok (.comm K.cases true .select) w)(n:∀w,(execOp a.eval o).events K.P w #[]=#[])
 (h:∀c,RM K w c->K.N0<=c.heap.size->cP (XM K Az) fn ops rest (.walk vs) Q (a.put o.dst<|commResult K.cases .select 0 v true) c):cP (XM K Az) fn ops (j::rest) i Q a w:=by
 intro b t k l d m;rcases hi with rfl|rfl <;>
 .refine Way.stop λc e=>(Nt p s d q n λg f r=>?_);rw[xi];exact h g (RM.trans e f) r b t k l d m
def MY(hi:i=.front []\/i=.walk [])(p:ops[j]?=some o)(s:Region.wanted o (yielded ops a.tmps)=true)
 (q:∀w,(execOp a.eval o).run K.P w=.ok (.comm K.cases true .select) w)(n:∀w,(execOp a.eval o).events K.P w #[]=#[])
 (h:∀c,RM K w c->K.N0<=c.heap.size->cP (XM K Az) fn ops rest .over Q (a.put o.dst<|commResult K.cases .select 1 K.zE false) c):cP (XM K Az) fn ops (j::rest) i Q a w:=by
 intro b t k l d m;rcases hi with rfl|rfl <;>
 .exact Way.stop λc e=>(Nt p s d q n λg f r=>(h g (RM.trans e f) r b t k l d m))
end
def ZI (P:Program)(Post:Value->World->Prop)(d:Nat)(S:Nat->Prop)(g:Goroutine)(w:World):Prop:=∀N,Z P Post (λb=>¬S b) N d g w
def EvS (S:Nat->Prop)(e:Event):Prop:=(∀x,(MemAct.ofEvent e).touch?=some x->∀ad:Addr,x.loc=.cell ad->¬S ad.block)/\e.loc≠.mark .disable/\e.loc≠.mark .enable
def DZ (S:Nat->Prop)(_ _:World)(es:Array Event):Prop:=∀e∈es,EvS S e
section
variable {Post:Value->World->Prop}{d d':Nat}{S:Nat->Prop}{g g':Goroutine}
def ZI.closed:cG P true (λ_:Nat->Prop=>AtRel) DZ (ZI P Post d) where
 rely:=λ{S g w a} h hr N=>(Z.closed).rely (vs:=()) (h N) hr
 step:=by
  intro S g w m h N
  refine(Z.closed).step (vs:=()) m λa f=>?_
  have c:=h a f
  cases e:stepG P true g a with
  | go g' w' es =>
   rw[e] at c
   rw[goes_go]
   exact⟨λi j=>⟨λx n k l=>.inl<|(c.1 i j).1 x n k l,(c.1 i j).2.1,(c.1 i j).2.2⟩,c.2 N⟩
  | _=>rw[e] at c;exact c.elim
def xT(S:Nat->Prop):Terms AtRel (DZ S):=⟨atRel_trans,λ_ e a=>by simp at a⟩
def ZI.done(c:g.status=.running)(a:∀e,stepG P true g (w.at e)=.ended (.done v) (w.at e) #[])(b:∀e,Post v<|w.at e):ZI P Post 0 S g w:=λ_=>Z.done c a b
def ZI.goes{k:Event->Prop}{Stop:Gq}{n:Nat}(i:∀e,k e->EvS S e)(b:∀g w,(∀a,AtRel w a->Stop g a)->ZI P Post d S g w)(h:Goes P true AtRel (λ_ _ j=>∀e∈j,k e) Stop n g w):ZI P Post d S g w:=by
 induction n generalizing g w with
 | zero=>exact b _ _ h
 | succ n m =>
  rcases h with h|⟨hs,h⟩
  .exact b _ _ h
  .refine ZI.closed.step hs λa f=>?_;have c:=h a f;cases e:stepG P true g a with
   | go g' w' j=>rw[e] at c;exact⟨λe l=>i e<|c.1 e l,m c.2⟩
   | _=>rw[e] at c;exact c.elim
def vo{m:Mark}{Next:Gq}(p:(MemAct.mark m).touch?=none)(o:deafBehind d #[⟨.mark m,false,true⟩]=d')(r:∀g w,Next g w->ZI P Post d' S g w)(h:∀a,AtRel w a->g.status=.running/\∃f,stepG P true g a=.go f a #[⟨.mark m,false,true⟩]/\Next f a):ZI P Post d S g w:=by intro N;refine Z.pick (h w<|atRel_refl w).1 λe b y q t s n i=>?_;have⟨_,v,c,l⟩:=h (w.at e) ⟨e,Y⟩;refine⟨_,_,runT_crowd_go i.h0<|show stepG P (0==0) g (w.at e)=_ from c,r _ _ l N e b _ q _ s n<|i.own (λu j x k _=>?_) o⟩;rw[H2] at j;subst j;rw[show MemAct.ofEvent ⟨.mark m,false,true⟩=.mark m from Y,p] at k;cases k
def ZI.fork{a:Goroutine}(q:g.status=.running)(i:∀e,stepG P true g (w.at e)=.spawn g' a (w.at e) #[])
 (h:∀(e:Nat) (Shun:Loc->Prop),(∀l,Shun l->∃d:Addr,l=.cell d/\S d.block)->∃K j k m b c r f n,Forked P Post Shun g' a (w.at e) K j k m b c r f n):ZI P Post 0 S g w:=by intro N;refine Z.fork q i λe Shun o=>h e Shun λl p=>?_;obtain⟨d,rfl,_,h2⟩:=o l p;exact⟨d,Y,Classical.not_not.1 h2⟩
abbrev GD(K:Cfg)(F:K.Fit)(stop:Gq):ConcX.Shy K.Wg K.C where
 ok:=λact=>(∀z,act.touch?=some z->(∃ad:Addr,z.loc=.cell ad/\ad.block=K.C)\/(∃ad:Addr,z.loc=.cell ad/\ad.block=K.Wg/\z.kind≠.plain))/\act.low K.B
 atomicWg:=λa wr h=>⟨λz hz=>.inr<|by
  simp only[MemAct.touch?,Option.some.injEq] at hz
  subst hz
  exact⟨a,Y,h,iq⟩,by show a.block<K.B; rw[h]; exact F.WB⟩
 readWg:=λa h=>⟨λz hz=>.inr<|by
  simp only[MemAct.touch?,Option.some.injEq] at hz
  subst hz
  exact⟨a,Y,h,iq⟩,by show a.block<K.B; rw[h]; exact F.WB⟩
 writeWg:=λa h=>⟨λz hz=>.inr<|by
  simp only[MemAct.touch?,Option.some.injEq] at hz
  subst hz
  exact⟨a,Y,h,iq⟩,by show a.block<K.B; rw[h]; exact F.WB⟩
 theirs:=λa wr h=>⟨λz hz=>.inl<|by
  simp only[MemAct.touch?,Option.some.injEq] at hz
  subst hz
  exact⟨a,Y,h⟩,by show a.block<K.B; rw[h]; exact F.CB⟩
 disable:=⟨λx hx=>(by cases hx),trivial⟩
 enable:=⟨λx hx=>(by cases hx),trivial⟩
 relMerge:=⟨λx hx=>(by cases hx),F.WB⟩
 acquire:=⟨λx hx=>(by cases hx),F.WB⟩
 go1:=⟨λx hx=>(by cases hx),trivial⟩
 start:=⟨λx hx=>(by cases hx),trivial⟩
 stop:=stop
end
def yv (M:Nat->Prop)(e:Event):Prop :=
 (∃ad:Addr,e.loc=.cell ad/\M ad.block)\/(∃b wr,e=⟨.obj b,wr,false⟩/\M b)\/((MemAct.ofEvent e).touch?=none/\e.loc≠.mark .disable/\e.loc≠.mark .enable/\∀a,MemAct.ofEvent e≠.mark (.release a))
structure Own(KT:TypeId->Prop)(M:World->Nat->Prop)(w w':World):Prop where
 tape:w'.tape=w.tape
 os:w'.os=w.os
 output:w'.output=w.output
 grow:w.heap.size<=w'.heap.size
 block:∀b,b<w.heap.size->¬M w b->w'.heap[b]?=w.heap[b]?
 kt:∀(b:Nat) (o:Obj),w'.heap[b]?=some o->KT (QB o)->w'.heap[b]?=w.heap[b]?
structure Env(KT:TypeId->Prop)(N0:Nat)(M:World->Nat->Prop)(O:Nat->Prop)(R:Wq)(D:World->World->Array Event->Prop):Prop where
 lt:∀{w:World} {b:Nat},M w b->b<w.heap.size
 keep:∀{w aK:World} {b:Nat},R w aK->M w b->aK.heap[b]?=w.heap[b]?
 stay:∀{w aK:World} {b:Nat},R w aK->M w b->M aK b
 tape:∀{w aK:World},R w aK->aK.tape=w.tape
 os:∀{w aK:World},R w aK->aK.os=w.os
 output:∀{w aK:World},R w aK->aK.output=w.output
 size:∀{w aK:World},R w aK->w.heap.size<=aK.heap.size
 kZ:∀{w w':World} {es:Array Event},N0<=w.heap.size->Own KT M w w'->(∀e∈es,yv (M w') e)->D w w' es
 mine:∀{w w':World} {b:Nat},Own KT M w w'->M w b->M w' b
 new:∀{w w':World} {b:Nat},N0<=w.heap.size->Own KT M w w'->w.heap.size<=b->b<w'.heap.size->M w' b
 PY:∀{w aK:World} {b:Nat},R w aK->O b->b<w.heap.size->aK.heap[b]?=w.heap[b]?
 jZ:∀{w w':World} {b:Nat},O b->b<w'.heap.size->M w b->M w' b
 wP:∀w:World,R w { w with drawn:=w.drawn+1 }
 CZ:LetsDraw D
structure Kept(M:World->Nat->Prop)(O:Nat->Prop)(Ex:Nat->Prop)(w₀ w:World):Prop where
 tape:w.tape=w₀.tape
 os:w.os=w₀.os
 output:w.output=w₀.output
 grow:w₀.heap.size<=w.heap.size
 block:∀b,M w₀ b->¬Ex b->w.heap[b]?=w₀.heap[b]?
 mine:∀b,M w₀ b->M w b
 low:∀b,O b->b<w₀.heap.size->¬Ex b->w.heap[b]?=w₀.heap[b]?
variable {KT:TypeId->Prop}{N0:Nat}{M:World->Nat->Prop}{O Ex:Nat->Prop}{R:Wq}{D:World->World->Array Event->Prop}{w₀:World}
section
variable {Oe:Nat->Prop}
def Own.refl(w:World):Own KT M w w:=⟨Y,Y,Y,lr,λ_ _ _=>Y,λ_ _ _ _=>Y⟩
def fw:=@Own.refl
def Own.alloc(e:¬KT t)(fz:Nat × Nat:=(0,0)):Own KT M w (w.alloc<|.cells cs t fz):=by
 refine⟨Y,Y,Y,by simp[World.size_alloc],λb a _=>Below.heap_alloc _ _ _ a,λb f h d=>?_⟩;by_cases a:b<w.heap.size
 .exact Below.heap_alloc _ _ _ a
 .have c:=(oF.1 h).1;have:b=w.heap.size:=by simp[World.size_alloc] at c;omega
  subst this;rw[heap_alloc_new] at h;cases h;exact absurd d e
def eB:=@Own.alloc
section
variable (hb:w.heap[b]?=some (.cells cs t fz))
def Own.setCell{x:Value}(c:M w b)(d:¬KT t):Own KT M w (w.setCell ⟨b,o,none⟩ x):=by
 refine⟨Y,Y,Y,by simp,λk _ a=>Below.heap_setCell _ _ _ _<|λe=>a<|e▸c,λk f h a=>?_⟩;by_cases e:k=b
 .subst e;have:(w.setCell ⟨k,o,none⟩ x).heap[k]?=some (.cells (cs.setIfInBounds o x) t fz):=by simp[World.setCell,LZ,hb]
  rw[this] at h;cases h;exact absurd a d
 .exact Below.heap_setCell _ _ _ _ e
def Own.setRow(d:M w b)(f:¬KT t):Own KT M w (w.setRow b xs):=by
 have c:∀k,k≠b->(w.setRow b xs).heap[k]?=w.heap[k]?:=λk a=>by simp[World.setRow,LZ,Ne.symm a]
 refine⟨Y,Y,Y,by simp,λk _ a=>c k<|λe=>a<|e▸d,λk g h a=>?_⟩;by_cases e:k=b
 .subst e;have:(w.setRow k xs).heap[k]?=some (.cells xs t fz):=by simp[World.setRow,LZ,hb]
  rw[this] at h;cases h;exact absurd a f
 .exact c k e
end
def yh{o:Obj}(e:¬KT (QB o)):Own KT M w (w.alloc o):=by
 refine⟨Y,Y,Y,by simp[World.size_alloc],λb a _=>Below.heap_alloc _ _ _ a,λb f h d=>?_⟩;by_cases a:b<w.heap.size
 .exact Below.heap_alloc _ _ _ a
 .have c:=(oF.1 h).1;have:b=w.heap.size:=by simp[World.size_alloc] at c;omega
  subst this;rw[heap_alloc_new] at h;cases h;exact absurd d e
theorem Cc{o:Obj}(c:¬KT (QB o))(a:M w b):Own KT M w { w with heap:=w.heap.setIfInBounds b o }:=by
 refine⟨Y,Y,Y,iq,λk _ U=>?_,λk d h U=>?_⟩
 .grind
 .grind
def Kept.refl(w:World):Kept M O Ex w w:=⟨Y,Y,Y,lr,λ_ _ _=>Y,λ_ h=>h,λ_ _ _ _=>Y⟩
section
variable (E:Env KT N0 M O R D)
section
variable (h:Kept M O Ex w₀ w)
def Kept.rely(r:R w aK):Kept M O Ex w₀ aK :=
 ⟨(E.tape r).trans h.tape,(E.os r).trans h.os,(E.output r).trans h.output,lT h.grow<|E.size r,λb hb hx=>(E.keep r<|h.mine b hb).trans<|h.block b hb hx,λb hb=>E.stay r<|h.mine b hb,λb ho hl hn=>(E.PY r ho<|lL hl h.grow).trans<|h.low b ho hl hn⟩
def Kept.own(o:Own KT M w w')(hx:∀b,M w₀ b->¬Ex b->w'.heap[b]?=w.heap[b]?):Kept M O Ex w₀ w' :=
 ⟨o.tape.trans h.tape,o.os.trans h.os,o.output.trans h.output,lT h.grow o.grow,λb hb hn=>(hx b hb hn).trans<|h.block b hb hn,λb hb=>E.mine o<|h.mine b hb,λb ho hl hn=>((Classical.em<|M w b).elim (λhm=>hx b (E.jZ ho hl hm) hn)<|λhm=>o.block b (lL hl h.grow) hm).trans<|h.low b ho hl hn⟩
def Kept.trans(h':Kept M O Oe w aK)(hx:∀b,Oe b->Ex b\/w₀.heap.size<=b):Kept M O Ex w₀ aK :=
 ⟨h'.tape.trans h.tape,h'.os.trans h.os,h'.output.trans h.output,lT h.grow h'.grow,λb hb hn=>(h'.block b (h.mine b hb) λz=>(hx b z).elim hn λz=>absurd (E.lt hb) oq).trans<|h.block b hb hn,λb hb=>h'.mine b<|h.mine b hb,λb ho hl hn=>(h'.low b ho (lL hl h.grow) λz=>(hx b z).elim hn λz=>absurd hl oq).trans<|h.low b ho hl hn⟩
end
end
def dK(K:Cfg)(w:World)(b:Nat):Prop:=b<w.heap.size/\¬K.fj w b/\¬K.Still b/\¬K.Zy b/\∀ad:Addr,ad.block=b->¬K.Shun (.cell ad)
def jZ (K:Cfg)(b:Nat):Prop:=b<K.N0/\¬K.tT b/\¬K.Zy b
theorem SM(F:K.Fit)(h:yv (dK K w') e):Zt K w' e:=by
 rcases h with ⟨ad,he,hl,hk,hs,_,hh⟩|⟨b,f,rfl,hl,hk,hs,hy,hh⟩|⟨h1,h2,h3,h4⟩
 .have⟨l,f,g⟩:=e;obtain rfl:l=.cell ad:=he;have U:∀x,(MemAct.ofEvent ⟨.cell ad,f,g⟩).touch?=some x->x.loc=.cell ad:=by intro x a;cases f<;>cases g<;>(simp[MemAct.ofEvent,MemAct.touch?] at a;rw[<-a])
  refine⟨λx a=>⟨⟨?_,?_,?_⟩,⟨λc d=>?_,λc d=>?_⟩⟩,iq,iq,by cases f<;>cases g<;>simp[MemAct.ofEvent]⟩
  .rw[U x a];rintro(⟨c,e,h⟩|e|⟨c,e,h⟩)
   .cases e;exact hk h
   .cases e
   .cases e
  .rw[U x a];rintro⟨c,e,h⟩;cases e;exact absurd h hs
  iterate 3
   .grind
 .have U:∀x,(MemAct.ofEvent ⟨.obj b,f,false⟩).touch?=some x->x.loc=.obj b:=by intro x a;cases f<;>(simp[MemAct.ofEvent,MemAct.touch?] at a;rw[<-a])
  refine⟨λx a=>⟨⟨?_,?_,?_⟩,⟨λc d=>?_,λc d=>?_⟩⟩,iq,iq,by cases f<;>simp[MemAct.ofEvent]⟩
  .rw[U x a];rintro(⟨c,e,h⟩|e|⟨c,e,h⟩)
   .cases e
   .cases e;exact hy<|.inr<|.inl Y
   .cases e;exact hk h
  .rw[U x a];rintro⟨c,e,h⟩;cases e
  .rw[U x a];intro h;have⟨c,e,_⟩:=F.mj _ h;cases e
  .grind
  .grind
 .exact⟨λx a=>gq,h2,h3,h4 _⟩
theorem C4(F:K.Fit):Env K.KT K.N0 (dK K) (jZ K) (RM K) (DM K) where
 lt:=λh=>h.1
 keep:=λr h=>r.block _ h.1 h.2.1 h.2.2.2.1
 stay:=λr h=>⟨lL h.1 r.size,λz=>h.2.1<|z.of_same (r.block _ h.1 h.2.1 h.2.2.2.1).symm,h.2.2⟩
 tape:=λr=>r.tape
 os:=λr=>r.os
 output:=λr=>r.output
 size:=λr=>r.size
 kZ:=by
  intro w g n U o i
  refine⟨λb c=>?_,λb c=>?_,o.grow,λe h=>SM F<|i e h⟩
  .
   refine o.block b ?_ λm=>?_
   .
    rcases c with c|c|c
    .
     exact c.lt F U
    .
     exact lL (F.s0 b c) U
    .
     rcases c with rfl|rfl|rfl
     .
      exact lL F.A0 U
     .
      exact lL F.E0 U
     .
      exact lL F.W0 U
   .
    rcases c with c|c|c
    .
     exact m.2.1 c
    .
     exact m.2.2.1 c
    .
     exact m.2.2.2.1 c
  .
   rcases c with c|⟨h1,o',h2,h3⟩
   .
    exact .inl c
   .
    exact .inr ⟨h1,o',(o.kt b o' h2 h3).symm.trans h2,h3⟩
 mine:=by
  rintro w g b o ⟨h1,h2,h3⟩
  refine⟨lL h1 o.grow,λj=>h2 ?_,h3⟩
  rcases j with c|⟨h1,o',h2,h3⟩
  .
   exact .inl c
  .
   exact .inr ⟨h1,o',(o.kt b o' h2 h3).symm.trans h2,h3⟩
 new:=by
  intro w g b U o h1 h2
  refine⟨h2,?_,λz=>?_,?_,λl p k=>?_⟩
  .
   rintro(z|⟨z,o',z1,z2⟩)
   .
    have:=F.c0 b z;omega
   .
    have e:=(o.kt b o' z1 z2).symm.trans z1
    grind
  .
   have:=F.s0 b z;omega
  .
   rintro(rfl|rfl|rfl)
   .
    have:=F.A0;omega
   .
    have:=F.E0;omega
   .
    have:=F.W0;omega
  .
   have⟨a,e,z⟩:=F.mj _ k
   cases e
   omega
 PY:=λr d f=>r.block _ f (λz=>d.2.1<|z.low d.1) d.2.2
 jZ:=λd f h=>⟨f,λz=>d.2.1<|z.low d.1,h.2.2⟩
 wP:=λw=>⟨Y,Y,Y,λ_ _ _ _=>Y,lr⟩
 CZ:=λw=>⟨λ_ _=>Y,λ_ h=>h,lr,iq⟩
def Ph.early:Ph->Prop
 | .inr (.inr<|.inr _)=>False
 | _=>True
def C5[ConcX.Payload][ConcR.Payload][ConcX.Shy K.Wg K.C](F:K.Fit){i:Ph}(hi:i.early):Env K.KT K.N0 (dK K) (jZ K) (rK K i) (yT K i):=by
 cases i using Ph.cD with
 | join=>exact hi.elim
 | _=>exact C4 F
def sU(S:Nat->Prop)(w:World)(b:Nat):Prop:=b<w.heap.size/\¬S b
theorem WK{S:Nat->Prop}(j:∀b,S b->b<N0):Env KT N0 (sU S) O AtRel (DZ S) where
 lt:=λh=>h.1
 keep:=by rintro w _ b ⟨e,rfl⟩ _;rfl
 stay:=by rintro w _ b ⟨e,rfl⟩ h;exact h
 tape:=by rintro w _ ⟨e,rfl⟩;rfl
 os:=by rintro w _ ⟨e,rfl⟩;rfl
 output:=by rintro w _ ⟨e,rfl⟩;rfl
 size:=by rintro w _ ⟨e,rfl⟩;exact iz _
 kZ:=by
  intro w p n k o a e h
  rcases a e h with ⟨ad,h1,_,h2⟩|⟨b,f,rfl,_⟩|⟨h1,h2,h3,_⟩
  .
   have⟨l,f,m⟩:=e
   obtain rfl:l=.cell ad:=h1
   refine⟨λx U g i d=>?_,iq,iq⟩
   have c:x.loc=.cell ad:=by cases f<;>cases m<;>(simp[MemAct.ofEvent,MemAct.touch?] at U;rw[<-U])
   grind
  .
   refine⟨λx U g i d=>?_,iq,iq⟩
   have c:x.loc=.obj b:=by cases f<;>(simp[MemAct.ofEvent,MemAct.touch?] at U;rw[<-U])
   grind
  .
   exact⟨λx U=>gq,h2,h3⟩
 mine:=λo h=>⟨lL h.1 o.grow,h.2⟩
 new:=λk _ h1 h2=>⟨h2,λd=>by have:=j _ d;omega⟩
 PY:=by rintro w _ b ⟨e,rfl⟩ _ _;rfl
 jZ:=λ_ c h=>⟨c,h.2⟩
 wP:=λw=>⟨w.drawn+1,Y⟩
 CZ:=λw e a=>by simp at a
theorem rX(d:Nat)(t ty e:TypeId)(i:TypeInfo)(z:Value)(b bytes:Nat)(k:P.underlying t=some (.slice e))(hi:P.info? e=some i)(r:i.zero=some z)
 (y:i.size=b)(C:i.bytes=bytes)
 (v:Value)(n:Nat)(xs:Vq)(l:w.ownsRow d e b v n xs)
 (a:Addr)(m c:Nat)(news:Vq)(h:news.length=m*b)(U:∀j u,news[j]?=some u->w.cell? (a.add j)=some u)(h1:∀u∈news,u.oneCell'=true)
 (B:n+m<=maxLen)(s:(n+m)*bytes<=140737488355328)(f:(Builtin.append_ #[t,t] ty #[v,.slice (some a) m c]).run P w=.ok v' w') :
  w'=w\/(∃g o,v.ownBlock=some g/\w'=w.setRow g o)\/∃o,w'=w.drew.alloc (.cells o e):=by
 subst y;subst C;have F:n+m<=9223372036854775807:=by simp only[maxLen] at B;omega
 rcases l.2 with ⟨rfl,rfl⟩|⟨g,cap,a7,rfl,ag,hg,ai,ah,ae,af⟩
 .by_cases D:m=0
  .subst D;have E:news=[]:=List.eq_nil_of_length_eq_zero gq;subst E;left;simp[Builtin.append_,run_underlying k,sizeOf,typeInfo,hi,Builtin.lenOf,Builtin.firstCells,loadCells,loadCellsFrom] at f;exact f.2.symm
  .have p:=run_append_nil w t ty e i z k hi r a m c news h U oq oq gq;grind
 .by_cases q:n+m<=cap
  .have A:n*i.size+news.length<=a7.size:=by rw[h,ae,<-Nat.add_mul];exact Nat.mul_le_mul_right _ q
   have p:=run_append_room w t ty e i k hi g n cap a7 hg a m c news h U h1 q A;rw[p] at f;cases f;exact .inr<|.inl ⟨g,_,Y,Y⟩
  .have x:=l.cells Y;have p:=run_append_grow w t ty e i z k hi r ⟨g,0,none⟩ n cap xs l.1 x a m c news h U oq oq<|growslice_fits oq s;grind
end
structure oW(M:World->Nat->Prop)(Ex:Nat->Prop)(w₀:World)(e:TypeId)(v:Value)(n:Nat)(xs:Vq)(w:World):Prop where
 row:w.ownsRow 0 e 1 v n xs
 own:∀k,v.ownBlock=some k->M w k/\(Ex k\/w₀.heap.size<=k)
 nil:n=0->v=.slice none 0 0
variable {n:Nat}
section
variable {e:TypeId}{xs news:Vq}{g:Nat}
def oW.same(h:oW M Ex w₀ e v n xs w)(a:∀k,v.ownBlock=some k->w'.heap[k]?=w.heap[k]?/\M w' k):oW M Ex w₀ e v n xs w':=by
 refine⟨⟨h.row.1,?_⟩,λk b=>⟨(a k b).2,(h.own k b).2⟩,h.nil⟩;rcases h.row.2 with z|⟨g,cap,cur,h1,h2,h3,h4⟩
 .exact .inl z
 .exact .inr ⟨g,cap,cur,h1,h2,(a g<|by rw[h1];rfl).1.trans h3,h4⟩
def oW.rely(E:Env KT N0 M O R D)(h:oW M Ex w₀ e v n xs w)(r:R w aK):oW M Ex w₀ e v n xs aK:=h.same λk a=>⟨E.keep r (h.own k a).1,E.stay r (h.own k a).1⟩
def oW.type(h:oW M Ex w₀ e v n xs w)(b:v.ownBlock=some k):∃a,w.heap[k]?=some (.cells a e (0,0)):=by
 rcases h.row.2 with ⟨z,_⟩|⟨g,cap,a,h1,h2,h3,h4⟩
 .rw[z] at b;cases b
 .rw[h1] at b;cases b;exact⟨a,h3⟩
theorem oW.ne(h:oW M Ex w₀ e v n xs w)(c:w.heap[b]?=some (.cells cs t fz))(f:t≠e)(U:v.ownBlock=some k):k≠b:=by rintro rfl;have⟨a,d⟩:=h.type U;grind
def oW.none(M:World->Nat->Prop)(Ex:Nat->Prop)(w₀ w:World)(e:TypeId):oW M Ex w₀ e (.slice .none 0 0) 0 [] w:=⟨World.ownsRow_nil _ _ _ _,λk a=>(by cases a),λ_=>Y⟩
structure K6(M:World->Nat->Prop)(e:TypeId)(news:Vq)(g:Nat)(w:World):Prop where
 src:w.heap[g]?=some (.cells news.toArray e)
 mine:M w g
def K6.rely(E:Env KT N0 M O R D)(h:K6 M e news g w)(r:R w aK):K6 M e news g aK:=⟨(E.keep r h.mine).trans h.src,E.stay r h.mine⟩
theorem Lb(E:Env KT N0 M O R D)(K:N0<=w.heap.size)(l:¬KT e)(old:Kept M O Ex w₀ w)(h:oW M Ex w₀ e v n xs w)(q:K6 M e news g w)(t ty:TypeId)(z:Value)(bytes:Nat)(C:P.underlying t=some (.slice e))(hi:(P.info? e).map (λi=>(i.zero,i.size,i.bytes))=some (some z,1,bytes))(W:z.cells.size=1)
 (h1:∀x∈news,x.oneCell'=true)(B:n+news.length<=maxLen)(a:(n+news.length)*bytes<=140737488355328) :
  ∃p d,(Builtin.append_ #[t,t] ty #[v,.slice (sq g) news.length news.length]).run P w=.ok p d/\oW M Ex w₀ e p (n+news.length) (xs++news) d/\Kept M O Ex w₀ d/\Own KT M w d /\
   (∀b,b<w.heap.size->v.ownBlock≠some b->d.heap[b]?=w.heap[b]?) /\
   D w d ((Builtin.append_ #[t,t] ty #[v,.slice (sq g) news.length news.length]).events P w #[]) /\
   ∀e∈(Builtin.append_ #[t,t] ty #[v,.slice (sq g) news.length news.length]).events P w #[],∀m,e.loc=.mark m->Conc.Neutral m:=by
 have y:∀j x,news[j]?=some x->w.cell? ((⟨g,0,none⟩:Addr).add j)=some x:=by
  intro j x V;have:(⟨g,0,none⟩:Addr).add j=⟨g,j,none⟩:=by unfold Addr.add;split<;>simp_all
  rw[this];simp[World.cell?,q.src,V]
 have⟨G,hi,r,s,u⟩:=info_parts hi;have⟨p,d,J,I,H,o,U⟩:=run_append_own_at (P:=P) w 0 t ty e G z 1 bytes C hi r s u W dq v n xs h.row ⟨g,0,none⟩ news.length news.length news iq y h1 B a<|Nat.zero_le _;have S:=rX (P:=P) 0 t ty e G z 1 bytes C hi r s u v n xs h.row ⟨g,0,none⟩ news.length news.length news iq y h1 B a J;have Q:=events_append_where (P:=P) w 0 t ty e G z 1 bytes C hi r s u v n xs h.row ⟨g,0,none⟩ news.length news.length news iq y h1 B a;have f:Own KT M w d:=by
  rcases S with rfl|⟨k,cs,c,rfl⟩|⟨cs,rfl⟩
  .exact fw _
  .have⟨Y,L⟩:=h.type c;exact Own.setRow L (h.own k c).1 l
  .have:=eB (KT:=KT) (M:=M) (w:=w.drew) (cs:=cs) (t:=e) l;exact⟨this.tape,this.os,this.output,this.grow,λb a A=>heap_alloc_old w.drew _ b a,λb X T c=>(this.kt b X T c)⟩
 have N:∀k,p.ownBlock=some k->M d k/\(Ex k\/w₀.heap.size<=k):=by
  intro k c;rcases U with U|U
  .rw[U] at c;exact⟨E.mine f (h.own k c).1,(h.own k c).2⟩
  .rw[U] at c;cases c;refine⟨E.new K f lr (I.lt _ U).2,.inr old.grow⟩
 refine⟨p,d,J,⟨I,N,λe=>o.2 ⟨h.nil oq,oq⟩⟩,old.own E f λb a F=>H.block b (E.lt<|old.mine b a) λe=>?_,f,λb a F=>H.block b a<|λe=>F e.symm,E.kZ K f λe l=>?_,λe l m A=>?_⟩
 .rcases(h.own b e.symm).2 with z|z
  .exact F z
  .have:=E.lt a;omega
 .rcases Q e l with ⟨ad,h1,h2⟩|⟨m,rfl,A⟩
  .refine .inl ⟨ad,h1,E.mine f ?_⟩;rcases h2 with ⟨_,h2⟩|h2
   .rw[h2];exact q.mine
   .exact(h.own _ h2.symm).1
  .obtain rfl:m=.noRoom:=A;exact .inr<|.inr ⟨by simp[MemAct.ofEvent,MemAct.touch?],iq,iq,by simp[MemAct.ofEvent]⟩
 .grind
end
variable {N c1 c2 B:Nat}{Shun Mz:Loc->Prop}{val:Value}
section
def ep(h:w.heap[b]?=some (.cells cs ty fz))(v:Value):(w.setCell ⟨b,o,none⟩ v).heap[b]?=some (.cells (cs.setIfInBounds o v) ty fz):=by simp[World.setCell,LZ,h]
def bY(w:World)(v:Value)(hb:b'≠b):(w.setCell ⟨b,o,none⟩ v).heap[b']?=w.heap[b']?:=Below.heap_setCell _ _ _ _ hb
def aJ (P:Program)(N Pb:Nat)(Shun:Loc->Prop)(val:Value)(B:Nat)(Mz:Loc->Prop):Cfg :=
 { P:=P,ty:=169,A:=N+2,E:=N+4,Wg:=N+6,C:=N,tT:=λb=>b=N,N0:=N+9,KT:=λt=>t=177\/t=179\/False,Still:=λb=>b=N+1\/b=N+3\/b=N+5\/b=N+7\/b=N+8\/b=Pb,Shun:=Shun,B:=B,
   z:=.int .i32 0,zs:=.tuple #[],zE:=.agg #[],val:=val,Mz:=Mz }
variable [ConcR.Payload][ConcX.Payload]
variable (K:Cfg)
abbrev Ix:=Bool × Vq
def vq (_:Ix):World->World->Prop:=RC K
def XK (i:Ix)(g:Goroutine)(w:World):Prop:=Way K.P false (vq K i) (DK K) (pO K i.2) g w
section
variable {K:Cfg}{i:Ix}
def vq.rc(h:vq K i w aK):RC K w aK:=h
def vq.refl(i:Ix)(w:World):vq K i w w:=RC.refl w
def aU:=@vq.refl
def vq.trans(h:vq K i w aK)(a:vq K i aK qC):vq K i w qC:=ew h a
def XK.closed:Closed K.P false (vq K) (DK K) (XK K) where
 rely:=λ{i} _ _ _ h hr=>Way.rely (λ_ _ _=>vq.trans) h hr
 step:=by
  intro i g w d h
  refine Way.step d λa c=>?_
  have b:=h a c
  cases e:stepG K.P false g a with
  | go g' w' es=>rw[e] at b;exact⟨g',w',es,Y,b.1,b.2⟩
  | _=>rw[e] at b;exact b.elim
def N3(i:Ix):Terms (vq K i) (DK K):=⟨λ_ _ _=>vq.trans,λ_=>⟨Y,Y,Y,λ_ _ _=>Y,λ_ h=>h,λ_ h1 h2=>absurd h1 oq,Y,lr,iq⟩⟩
def Oc(fr:Bool)(vs:Vq)(g:Goroutine)(w:World):XK K (fr,vs) g w↔qR K vs g w:=by rw[uc];exact Iff.rfl
def JU{j:Nat}{o:Oper}{Q:rP Ix}{a:Act}{fr:Bool}{y:Operand}(n:K.zs=.tuple #[])(p:ops[j]?=some o)(z:Region.wanted o (yielded ops a.tmps)=true)(g:o.op=.send x y)(B:a.eval x=.chan (some K.A))(C:a.eval y=v)
 (t:∀c,RC K w c->K.N0<=c.heap.size)(h:∀c,RC K w c->oU (XK K) fn ops rest (false,vs) Q (a.put o.dst undef) c):oU (XK K) fn ops (j::rest) (fr,v::vs) Q a w:=by
 intro b k m q f r;refine Way.stop λc d=>?_;have u:∀w,(execOp a.eval o).run K.P w=.ok (.comm #[scase K.A v K.zs] true .send) w:=λw=>by unfold execOp;simp[g,B,C,n,scase]
 have s:∀w,(execOp a.eval o).events K.P w #[]=#[]:=λw=>by unfold execOp;simp[g]
 refine⟨Y,t c d.rc,?_,λl i=>?_⟩
 .rw[stepG_comm p z f (u c),listed_none<|s c]
 .have e:Conc.served (G (b.at a (.inRegion ops (j::rest)::k)) m) undef=G (b.at (a.put o.dst undef) (.inRegion ops rest::k)) m:=by
   have:(b.at a (.inRegion ops (j::rest)::k)).finish undef=b.at (a.put o.dst undef) (.inRegion ops rest::k):=by rw[Frame.finish_at,p];rfl
   simp only[Conc.served,G];rw[this]
  rw[e];exact(Oc false vs _ _).1 (h l (d.rc.trans i) b k m q f r)
end
section
variable [ConcR.Payload][ConcX.Payload](N Pb:Nat)(Shun:Loc->Prop)(val:Value)(B:Nat)(Mz:Loc->Prop)
def cK:Closed prog false (vq<|aJ prog N Pb Shun val B Mz) (DK<|aJ prog N Pb Shun val B Mz) (XK<|aJ prog N Pb Shun val B Mz):=XK.closed (K:=(aJ prog N Pb Shun val B Mz))
def tK(i:Ix):Terms (vq (aJ prog N Pb Shun val B Mz) i) (DK<|aJ prog N Pb Shun val B Mz):=N3 i
end
structure CS where
 begun:Bool
 returned:Bool
structure DS where
 letter:Int
 missing:Int
 low:Int
 high:Int
def jA(N:Nat):Value:=.func (.func 113) #[] #[.pointer (some ⟨N+3,0,none⟩)]
def qA (a:Nat):Value:=.func (.func 116) #[.pointer (some ⟨a,0,none⟩)] #[]
structure K1 where
 v:Value
 l:List ByteArray
def oV(Pb:Nat)(cp:K1)(w:World):Prop:=∃ad c,cp.v=.slice ad cp.l.length c/\∀(k:Nat) (p:ByteArray),cp.l[k]?=some p->∃off,ad=some ⟨Pb,off,none⟩/\w.cell? ⟨Pb,off+k,none⟩=some (.string p)
def oV.of{cp:K1}(h:oV Pb cp w)(g:w'.heap[Pb]?=w.heap[Pb]?):oV Pb cp w':=by have⟨b,c,e,h⟩:=h;refine⟨b,c,e,λk p f=>?_⟩;have⟨a,e1,d⟩:=h k p f;exact⟨a,e1,by rw[<-d];unfold World.cell?;rw[g]⟩
structure HC(N Pb:Nat)(cp:K1)(c1 c2:Nat)(c:CS)(d:DS)(w:World):Prop where
 lv:w.heap[N+3]?=some (.cells #[.chan (some<|N+2)] 158)
 cl:w.heap[c1]?=some (.cells #[jA N,.bool c.begun,.bool c.returned] 177)
 de:w.heap[c2]?=some (.cells #[qA c1,.int .i32 d.letter,.int .i64 d.missing,.int .u8 d.low,.int .u8 d.high] 179)
 pc:w.heap[N]?=some (.cells #[cp.v] 62)
 wb:w.heap[N+7]?=some (.cells #[.pointer (some ⟨N+6,0,none⟩)] 240)
 h1:N+9<=c1
 h2:N+9<=c2
 ne:c1≠c2
 ps:oV Pb cp w
 lo:Pb<N+9
section
variable {Pb:Nat}{cp:K1}{c:CS}{d:DS}
section
variable (h:HC N Pb cp c1 c2 c d w)
def HC.Pj:(aJ prog N Pb Shun val B Mz).fj w c1:=.inr ⟨h.h1,_,h.cl,.inl Y⟩
def HC.Pk:(aJ prog N Pb Shun val B Mz).fj w c2:=.inr ⟨h.h2,_,h.de,.inr<|.inl Y⟩
def HC.rc(r:RC (aJ prog N Pb Shun val B Mz) w aK):HC N Pb cp c1 c2 c d aK :=
 ⟨(r _<|.inr<|.inr<|.inl Y).trans h.lv,(r _<|.inl h.Pj).trans h.cl,(r _<|.inl h.Pk).trans h.de,(r _<|.inl<|.inl Y).trans h.pc,(r _<|i3<|.inr<|.inl Y).trans h.wb,h.h1,h.h2,h.ne,h.ps.of<|r Pb<|i3<|i3 Y,h.lo⟩
def HC.rely{i:Ix}(r:vq (aJ prog N Pb Shun val B Mz) i w aK):HC N Pb cp c1 c2 c d aK:=h.rc r.rc
def aG:=@HC.rely
def HC.size:N+9<=w.heap.size:=by
 have:=(oF.1 h.cl).1
 have:=h.h1;omega
def HC.OH:w.cell? ⟨N+3,0,none⟩=some (.chan<|some<|N+2):=by simp[World.cell?,h.lv]
def HC.lV:w.cell? ⟨c1,0,none⟩=some (jA N)/\w.cell? ⟨c1,1,none⟩=some (.bool c.begun)/\w.cell? ⟨c1,2,none⟩=some (.bool c.returned)/\w.frozen? ⟨c1,1,none⟩=false/\w.frozen? ⟨c1,2,none⟩=false:=by simp[World.cell?,World.frozen?,h.cl]
def HC.dC:w.cell? ⟨c2,0,none⟩=some (qA c1)/\w.cell? ⟨c2,1,none⟩=some (.int .i32 d.letter)/\w.cell? ⟨c2,2,none⟩=some (.int .i64 d.missing)/\w.cell? ⟨c2,3,none⟩=some (.int .u8 d.low)/\w.cell? ⟨c2,4,none⟩=some (.int .u8 d.high)
  /\ w.frozen? ⟨c2,1,none⟩=false/\w.frozen? ⟨c2,2,none⟩=false/\w.frozen? ⟨c2,3,none⟩=false/\w.frozen? ⟨c2,4,none⟩=false:=by simp[World.cell?,World.frozen?,h.de]
end
def EvB (N Pb c1 c2:Nat)(e:Event):Prop:=∃a wr,e=⟨.cell a,wr,false⟩/\((a.block=N\/a.block=c1\/a.block=c2)\/((a.block=N+1\/a.block=N+3\/a.block=N+5\/a.block=N+7\/a.block=N+8\/a.block=Pb)/\wr=false))
theorem EvB.evk(c:(aJ prog N Pb Shun val B Mz).fj w c1)(d:(aJ prog N Pb Shun val B Mz).fj w c2)(U:EvB N Pb c1 c2 e):R7 (aJ prog N Pb Shun val B Mz) w e:=by
 obtain⟨a,b,rfl,h⟩:=U;refine .inl ⟨a,b,Y,?_⟩;rcases h with (h|h|h)|⟨h,hw⟩
 .exact .inl<|.inl h
 .grind
 .grind
 .exact .inr ⟨h,hw⟩
def fg(hF:HC N Pb cp c1 c2 c d w)(h:∀e∈es,EvB N Pb c1 c2 e):DK (aJ prog N Pb Shun val B Mz) w w es :=
 ⟨Y,Y,Y,λ_ _ _=>Y,λ_ h=>h,λ_ h1 h2=>absurd h1 oq,Y,lr,λe he=>(h e he).evk hF.Pj hF.Pk⟩
theorem iD(a:HC N Pb cp c1 c2 c d w)(f:b=c1\/b=c2)(h:∀e∈es,EvB N Pb c1 c2 e):DK (aJ prog N Pb Shun val B Mz) w (w.setCell ⟨b,o,none⟩ v) es:=by
 have U:∀k,(aJ prog N Pb Shun val B Mz).fj w k->(aJ prog N Pb Shun val B Mz).fj (w.setCell ⟨b,o,none⟩ v) k:=by
  intro k U;by_cases e:k=b
  .subst e;rcases f with rfl|rfl
   .exact .inr ⟨a.h1,_,ep a.cl v,.inl Y⟩
   .exact .inr ⟨a.h2,_,ep a.de v,.inr<|.inl Y⟩
  .exact U.of_same<|Below.heap_setCell _ _ _ _ e
 have g:(aJ prog N Pb Shun val B Mz).fj w b:=by
  rcases f with rfl|rfl
  .exact a.Pj
  .exact a.Pk
 have l:(w.setCell ⟨b,o,none⟩ v).heap.size=w.heap.size:=by simp_all
 refine⟨Y,Y,Y,λk _ i=>Below.heap_setCell _ _ _ _ ?_,U,λ_ h1 h2=>absurd h1 oq,Below.heap_setCell _ _ _ _ ?_,oq,λe j=>(h e j).evk (U _ a.Pj)<|U _ a.Pk⟩
 .rintro rfl;exact i g
 .show N≠b
  have:=a.h1;have:=a.h2;omega
def ue(a:b=N+1\/b=N+3\/b=N+5\/b=N+7\/b=N+8\/b=Pb):EvB N Pb c1 c2 ⟨.cell ⟨b,o,none⟩,false,false⟩:=⟨_,_,Y,.inr ⟨a,Y⟩⟩
def dA{wr:Bool}(a:b=N\/b=c1\/b=c2):EvB N Pb c1 c2 ⟨.cell ⟨b,o,none⟩,wr,false⟩:=⟨_,_,Y,.inl a⟩
def Q7:LetsDraw (DK<|aJ prog N Pb Shun val B Mz):=λ_=>⟨Y,Y,Y,λ_ _ _=>Y,λ_ h=>h,λ_ h1 h2=>absurd h2<|Nat.not_lt.2 h1,Y,lr,iq⟩
def xw{i:Ix}(w:World):vq (aJ prog N Pb Shun val B Mz) i w { w with drawn:=w.drawn+1 }:=λ_ _=>rfl
section
variable (h:HC N Pb cp c1 c2 c d w)
def HC.UR(x:Bool):HC N Pb cp c1 c2 ⟨x,c.returned⟩ d (w.setCell ⟨c1,1,none⟩<|.bool x):=by have h1:=h.h1;have h2:=h.h2;have a:=h.ne;have b:=h.lo;exact⟨(bY w _ oq).trans h.lv,ep h.cl _,(bY w _<|Ne.symm a).trans h.de,(bY w _ oq).trans h.pc,(bY w _ oq).trans h.wb,h1,h2,a,h.ps.of<|bY w _ oq,b⟩
def HC.US(x:Bool):HC N Pb cp c1 c2 ⟨c.begun,x⟩ d (w.setCell ⟨c1,2,none⟩<|.bool x):=by have h1:=h.h1;have h2:=h.h2;have a:=h.ne;have b:=h.lo;exact⟨(bY w _ oq).trans h.lv,ep h.cl _,(bY w _<|Ne.symm a).trans h.de,(bY w _ oq).trans h.pc,(bY w _ oq).trans h.wb,h1,h2,a,h.ps.of<|bY w _ oq,b⟩
def HC.Ab(x:Int):HC N Pb cp c1 c2 c { d with letter:=x } (w.setCell ⟨c2,1,none⟩<|.int .i32 x):=by have h1:=h.h1;have h2:=h.h2;have a:=h.ne;have b:=h.lo;exact⟨(bY w _ oq).trans h.lv,(bY w _ a).trans h.cl,ep h.de _,(bY w _ oq).trans h.pc,(bY w _ oq).trans h.wb,h1,h2,a,h.ps.of<|bY w _ oq,b⟩
def HC.rC(x:Int):HC N Pb cp c1 c2 c { d with missing:=x } (w.setCell ⟨c2,2,none⟩<|.int .i64 x):=by have h1:=h.h1;have h2:=h.h2;have a:=h.ne;have b:=h.lo;exact⟨(bY w _ oq).trans h.lv,(bY w _ a).trans h.cl,ep h.de _,(bY w _ oq).trans h.pc,(bY w _ oq).trans h.wb,h1,h2,a,h.ps.of<|bY w _ oq,b⟩
def HC.Nu(x:Int):HC N Pb cp c1 c2 c { d with low:=x } (w.setCell ⟨c2,3,none⟩<|.int .u8 x):=by have h1:=h.h1;have h2:=h.h2;have a:=h.ne;have b:=h.lo;exact⟨(bY w _ oq).trans h.lv,(bY w _ a).trans h.cl,ep h.de _,(bY w _ oq).trans h.pc,(bY w _ oq).trans h.wb,h1,h2,a,h.ps.of<|bY w _ oq,b⟩
def HC.Iy(x:Int):HC N Pb cp c1 c2 c { d with high:=x } (w.setCell ⟨c2,4,none⟩<|.int .u8 x):=by have h1:=h.h1;have h2:=h.h2;have a:=h.ne;have b:=h.lo;exact⟨(bY w _ oq).trans h.lv,(bY w _ a).trans h.cl,ep h.de _,(bY w _ oq).trans h.pc,(bY w _ oq).trans h.wb,h1,h2,a,h.ps.of<|bY w _ oq,b⟩
end
def GC(e:HC N Pb cp c1 c2 c d w)(fr:Bool)(r:Int)(vs:Vq) :
  jG prog (XK<|aJ prog N Pb Shun val B Mz) 113 #[.int .i32 r,.pointer<|sq<|N+3] (fr,.int .i32 r::vs) w (λl _ m=>l=(false,vs)/\HC N Pb cp c1 c2 c d m):=by
 have C:=cK N Pb Shun val B Mz;have T:=tK N Pb Shun val B Mz;refine hM func113 rq Y ?_;refine cH C T ?_;simp only[jb,Nat.reduceAdd];refine bB C Y rq λi f h a=>?_;replace e:=e.rely f;have k:=e.OH;go_simp;refine a _ _ ⟨?_,?_⟩
 .refine fg e ?_;co_evs (exact ue<|.inr<|.inl Y)
 try walk_nrm
 refine bB C Y rq λj f h a=>?_;replace e:=e.rely f;go_simp;refine a _ _ ⟨?_,?_⟩
 .co_quiet (T (true,[]))
 try walk_nrm
 refine JU Y Y rq Y Y Y (λg b=>(e.rc b).size) λg b=>?_;replace e:=e.rc b;exact du C T ⟨.inl Y,Y,_,resultsC_none rq _,Y,e⟩
end
end
def iX(c:CS)(r:Int):CS × Iq :=
 (⟨true,r==13⟩,if (!c.begun&&r==65279)=true then [] else if (c.returned&&r==10)=true then [] else if r=13 then [10] else if r=0 then [65533] else [r])
def V (ls:Iq):Vq:=ls.map (.int .i32 ·)
variable {c:CS}{d:DS}{cp:K1}
section
variable {md:Region.Mode}{Q:Exit->Act->World->Prop}{S:World->Prop}{oi:Oper}{i:Nat}{L:Array Bool}{l:List Nat}
def TK(P:Program)(R:Wq)(D:World->World->Array Event->Prop)(fn:FuncId)(a:Region.Mode)(ops:Array Oper)(Q:Exit->Act->World->Prop)(S:World->Prop)(_:List Nat):Nat->Array Bool->Act->World->Prop:=AnyCH P R D fn a ops Q S
def tkA(l:List Nat)(h:TK P R D fn md ops Q S l n L a w):AnyCH P R D fn md ops Q S n L a w:=h
def tkZ(h:AnyCH P R D fn md ops Q S n L a w):TK P R D fn md ops Q S [] n L a w:=h
def tkC(T:Terms R D)(h1:∀x y,S x->R x y->S y)(h2:∀a x y,Q .normal a x->R x y->Q .normal a y)(hi:ops[i]?=some oi)(f:YieldsIfC P D fn ops S oi v a)(b:S w)(h:TK P R D fn md ops Q S l n (L.setIfInBounds i true) (a.put oi.dst v) w)(e:Region.noSelect ops=true:=by decide +kernel)(c:Region.free md ops L i=true:=by decide +kernel)(d:(Region.ready md ops L).contains i=true:=by decide +kernel):TK P R D fn md ops Q S (i::l) (n+1) L a w:=anyCH_take T h1 h2 hi e c d f b h
end
section
variable {Pb:Nat}
variable [ConcR.Payload][ConcX.Payload]
def D3(b:HC N Pb cp c1 c2 c d w)(fr:Bool)(r:Int)(vs:Vq) :
  jG prog (XK<|aJ prog N Pb Shun val B Mz) 116 #[.pointer (sq c1),.int .i32 r] (fr,V (iX c r).2++vs) w (λI _ J=>I=(fr&&(iX c r).2.isEmpty,vs)/\HC N Pb cp c1 c2 (iX c r).1 d J):=by
 have C:=cK N Pb Shun val B Mz;have T:=tK N Pb Shun val B Mz;have k:=T (true,[]);have H:∀(w:World) (z:Array Event) (a:Addr) (m:Mode) (x:Bool),(store a (.bool x) m).events prog w z=storedEv prog w z a (.bool x) m:=λw z a m x=>events_store prog w z a _ m Y;have D:∀w:World,vq (aJ prog N Pb Shun val B Mz) (true,[]) w { w with drawn:=w.drawn+1 }:=xw;refine hM func116 rq Y ?_;simp only[ntmps116,bZ,Nat.reduceAdd,Nat.reduceSub];co_apply bK C T (aU _);co_held (T _) Q7 D (HC N Pb cp c1 c2 c d) aG b
 co_applyP tkA [0,1,2,3,4,5,6,7,8,9,10]
 iterate 11
  co_applyP tkC (T _) (λ_ _ h r=>aG h r) (λ_ _ _ h r=>λb k e f i g=>C.rely (h b k e f i g) r) Y (.inl ⟨rq,λ_ E=>⟨run_eq_of ?_,?_⟩⟩) b ?_;rotate_left
  .intro l f;have q:=E.lV;go_simp;exact f
  .have q:=E.lV;first|(rw[listed_nil];exact Terms.idle k _;first|(simp[go_sem];done)|(simp[go_sem, *];done))|(refine fg E ?_;co_evs (exact dA<|.inr<|.inl Y))
  try walk_nrm
 co_applyP tkZ
 co_done;co_apply bK C T (aU _);co_reg (T _);iterate 4 co_op aG b (co_quiet k)
 iterate 2 co_opw aG b (skip) (co_still k)
 co_opw aG b (have q:=b.lV) (exact iD b (.inl Y)<|by co_evs (exact dA<|.inr<|.inl Y));replace b:=b.UR true;clear q;iterate 2 co_opw aG b (skip) (co_still k)
 co_opw aG b (have q:=b.lV) (exact iD b (.inl Y)<|by co_evs (exact dA<|.inr<|.inl Y));replace b:=b.US<|r==13;clear q;co_apply opsC_nil (T _);co_then;refine kz C T ?_;generalize y:(!c.begun)=G;generalize u:c.returned=F;have v:iX c r=(⟨true,r==13⟩,if (G&&r==65279)=true then [] else if (F&&r==10)=true then [] else if r=13 then [10] else if r=0 then [65533] else [r]):=by rw[iX,y,u]
 rw[v];clear v y u;cases G<;>cases F;focus
  iterate 2
   co_apply bK C T (aU _)
   co_reg (T _)
   co_op aG b (co_quiet k)
   co_op aG b (co_quiet k)
   co_apply opsC_unwanted (T _) Y rq
   co_apply opsC_unwanted (T _) Y rq
   co_op aG b (co_quiet k)
   co_op aG b (co_quiet k)
   co_apply opsC_nil (T _)
   co_then
   try simp only[Bool.false_and,lI,if_false]
   refine bT C T (t:=false) Y ?_
   simp only[if_false,lI]
  co_apply bK C T (aU _)
 rotate_left;focus
  co_apply bK C T (aU _)
  co_reg (T _)
  iterate 2 co_op aG b (co_quiet k)
  iterate 2 co_apply opsC_unwanted (T _) Y rq
  iterate 2 co_op aG b (co_quiet k)
  co_apply opsC_nil (T _)
  co_then
  try simp only[Bool.false_and,Bool.true_and,lI,if_false]
  refine bT C T (t:=false) Y ?_
  simp only[if_false,lI]
  co_apply bK C T (aU _)
  co_reg (T _)
  iterate 6 co_op aG b (co_quiet k)
  co_apply opsC_nil (T _)
  co_then
  by_cases o:r=10
  .have g:(r==10)=true:=by simp[o]
   simp only[g,if_true];try simp only[g] at b
   refine bT C T (t:=true) Y ?_;simp only[if_true];exact g8 C T ⟨.inl Y,Y,_,resultsC_none rq _,by simp[V],by simpa using b⟩
  have g:(r==10)=false:=by simp[o]
  simp only[g,lI,if_false];try simp only[g] at b
  refine bT C T (t:=false) Y ?_;simp only[if_false,lI];co_apply bK C T (aU _)
 rotate_left;focus
  co_apply bK C T (aU _)
  co_reg (T _)
  iterate 6 co_op aG b (co_quiet k)
  co_apply opsC_nil (T _)
  co_then
  by_cases i:r=65279
  .have e:(r==65279)=true:=by simp[i]
   simp only[e,Bool.and_true,Bool.false_and,bI];try simp only[e] at b
   refine bT C T (t:=true) Y ?_;simp only[if_true];exact g8 C T ⟨.inl Y,Y,_,resultsC_none rq _,by simp[V],by simpa using b⟩
  have e:(r==65279)=false:=by simp[i]
  simp only[e,Bool.and_false,Bool.false_and,lI,if_false];try simp only[e] at b
  refine bT C T (t:=false) Y ?_;simp only[if_false,lI];co_apply bK C T (aU _);co_reg (T _);iterate 2 co_op aG b (co_quiet k)
  iterate 2 co_apply opsC_unwanted (T _) Y rq
  iterate 2 co_op aG b (co_quiet k)
  co_apply opsC_nil (T _);co_then;try simp only[reduceIte,bI,bJ]
  refine bT C T (t:=false) Y ?_;simp only[if_false,lI];co_apply bK C T (aU _)
 rotate_left;focus
  co_apply bK C T (aU _)
  co_reg (T _)
  iterate 6 co_op aG b (co_quiet k)
  co_apply opsC_nil (T _)
  co_then
  by_cases i:r=65279
  .have e:(r==65279)=true:=by simp[i]
   simp only[e,Bool.and_true,Bool.true_and,if_true];try simp only[e] at b
   refine bT C T (t:=true) Y ?_;simp only[if_true];exact g8 C T ⟨.inl Y,Y,_,resultsC_none rq _,by simp[V],by simpa using b⟩
  have e:(r==65279)=false:=by simp[i]
  simp only[e,Bool.and_false,Bool.true_and,lI,if_false];try simp only[e] at b
  refine bT C T (t:=false) Y ?_;simp only[if_false,lI];co_apply bK C T (aU _);co_reg (T _);iterate 6 co_op aG b (co_quiet k)
  co_apply opsC_nil (T _);co_then;by_cases o:r=10
  .have g:(r==10)=true:=by simp[o]
   simp only[g,if_true];try simp only[g] at b
   refine bT C T (t:=true) Y ?_;simp only[if_true];exact g8 C T ⟨.inl Y,Y,_,resultsC_none rq _,by simp[V],by simpa using b⟩
  have g:(r==10)=false:=by simp[o]
  simp only[g,lI,if_false];try simp only[g] at b
  refine bT C T (t:=false) Y ?_;simp only[if_false,lI];co_apply bK C T (aU _)
 rotate_left;all_goals
  co_reg (T _)
  iterate 3 co_op aG b (co_quiet k)
  co_apply opsC_nil (T _)
  co_then
  by_cases s:r=13
  .have n:(r==13)=true:=by simp[s]
   simp only[n,ip s];try simp only[n] at b
   refine bT C T (t:=true) Y ?_;simp only[if_true];refine cH C T ?_;simp only[jb,Nat.reduceAdd];refine bB C Y rq λ_ j l f=>?_;replace b:=aG b j;clear j;go_simp;try (unfold stored;go_simp)
   refine f _ _ ⟨?_,?_⟩
   .co_quiet k
   iterate 2
    clear f l
    try walk_nrm
    refine bB C Y rq λ_ j l f=>?_
    replace b:=aG b j
    clear j
    go_simp
    try (unfold stored;go_simp)
    refine f _ _ ⟨?_,?_⟩
    .co_still k
   clear f l;try walk_nrm
   refine bB C Y rq λ_ j l f=>?_;replace b:=aG b j;clear j;have q:=b.lV;go_simp;try (unfold stored;go_simp)
   refine f _ _ ⟨?_,?_⟩
   .refine fg b ?_;co_evs (exact dA<|.inr<|.inl Y)
   clear f l;try walk_nrm
   clear q;refine cN C T Y rq Y Y (by simp[Act.eval]) (by simp[V]) (GC b fr 10 vs) ?_;rintro _ _ _ ⟨rfl,b⟩;exact du C T ⟨.inl Y,Y,_,resultsC_none rq _,iq,by simpa using b⟩
  .have n:(r==13)=false:=by simp[s]
   simp only[n,iw s];try simp only[n] at b
   refine bT C T (t:=false) Y ?_;simp only[if_false,lI];co_apply bK C T (aU _);co_reg (T _);iterate 3 co_op aG b (co_quiet k)
   co_apply opsC_nil (T _);co_then;by_cases A:r=0
   .have p:(r==0)=true:=by simp[A]
    simp only[p,ip A];try simp only[p] at b
    refine bT C T (t:=true) Y ?_;simp only[if_true];refine cH C T ?_;simp only[jb,Nat.reduceAdd];refine bB C Y rq λ_ j l f=>?_;replace b:=aG b j;clear j;go_simp;try (unfold stored;go_simp)
    refine f _ _ ⟨?_,?_⟩
    .co_quiet k
    iterate 2
     clear f l
     try walk_nrm
     refine bB C Y rq λ_ j l f=>?_
     replace b:=aG b j
     clear j
     go_simp
     try (unfold stored;go_simp)
     refine f _ _ ⟨?_,?_⟩
     .co_still k
    clear f l;try walk_nrm
    refine bB C Y rq λ_ j l f=>?_;replace b:=aG b j;clear j;have q:=b.lV;go_simp;try (unfold stored;go_simp)
    refine f _ _ ⟨?_,?_⟩
    .refine fg b ?_;co_evs (exact dA<|.inr<|.inl Y)
    clear f l;try walk_nrm
    clear q;refine cN C T Y rq Y Y (by simp[Act.eval]) (by simp[V]) (GC b fr 65533 vs) ?_;rintro _ _ _ ⟨rfl,b⟩;exact du C T ⟨.inl Y,Y,_,resultsC_none rq _,iq,by simpa using b⟩
   .have p:(r==0)=false:=by simp[A]
    simp only[p,iw A];try simp only[p] at b
    refine bT C T (t:=false) Y ?_;simp only[if_false,lI];refine cH C T ?_;simp only[jb,Nat.reduceAdd];refine bB C Y rq λ_ j l f=>?_;replace b:=aG b j;clear j;go_simp;try (unfold stored;go_simp)
    refine f _ _ ⟨?_,?_⟩
    .co_quiet k
    iterate 2
     clear f l
     try walk_nrm
     refine bB C Y rq λ_ j l f=>?_
     replace b:=aG b j
     clear j
     go_simp
     try (unfold stored;go_simp)
     refine f _ _ ⟨?_,?_⟩
     .co_still k
    clear f l;try walk_nrm
    refine bB C Y rq λ_ j l f=>?_;replace b:=aG b j;clear j;have q:=b.lV;go_simp;try (unfold stored;go_simp)
    refine f _ _ ⟨?_,?_⟩
    .refine fg b ?_;co_evs (exact dA<|.inr<|.inl Y)
    clear f l;try walk_nrm
    clear q;refine bB C Y rq λ_ j l f=>?_;replace b:=aG b j;clear j;go_simp;try (unfold stored;go_simp)
    refine f _ _ ⟨?_,?_⟩
    .co_quiet k
    clear f l;try walk_nrm
    refine cN C T Y rq Y Y (by simp[Act.eval]) (by simp[V]) (GC b fr r vs) ?_;rintro _ _ _ ⟨rfl,b⟩;exact du C T ⟨.inl Y,Y,_,resultsC_none rq _,iq,by simpa using b⟩
end
def oE (b:Int):Int × Int:=if b=224 then (160,191) else if b=237 then (128,159) else if b=240 then (144,191) else if b=244 then (128,143) else (128,191)
section
variable {Pb:Nat}
variable [ConcR.Payload][ConcX.Payload]
section
variable (hF:HC N Pb cp c1 c2 c d w)
def Lh(i:Ix)(b:Int) :
  jG prog (XK<|aJ prog N Pb Shun val B Mz) 362 #[.int .u8 b] i w (λn v o=>n=i/\v=.tuple #[.int .u8 (oE b).1,.int .u8 (oE b).2]/\HC N Pb cp c1 c2 c d o):=by
 have C:=cK N Pb Shun val B Mz;have T:=tK N Pb Shun val B Mz;have h:=T (true,[]);refine hM func362 rq Y ?_;co_apply bK C T (aU _);co_reg (T _);iterate 2 co_op aG hF (co_quiet h)
 co_apply opsC_nil (T _);co_then;refine iP C T ?_;co_apply bK C T (aU _);co_reg (T _);co_op aG hF (co_quiet h);co_apply opsC_nil (T _);co_then;refine kz C T ?_;co_apply bK C T (aU _);co_reg (T _);iterate 2 co_op aG hF (co_quiet h)
 co_apply opsC_nil (T _);co_then;by_cases j:b=224
 .have a:(b==224)=true:=by simp[j]
  simp only[a];refine bT C T (t:=true) Y ?_;simp only[if_true];co_apply bK C T (aU _);co_reg (T _);iterate 2 co_op aG hF (co_quiet h)
  co_apply opsC_nil (T _);co_then;exact qu C T ⟨.inr Y,Y,_,resultsC_tmp2 rq _,Y,by simp[oE, *],hF⟩
 .have a:(b==224)=false:=by simp[j]
  simp only[a];refine bT C T (t:=false) Y ?_;simp only[if_false,lI];co_apply bK C T (aU _);co_reg (T _);iterate 2 co_op aG hF (co_quiet h)
  co_apply opsC_nil (T _);co_then;by_cases k:b=237
  .have e:(b==237)=true:=by simp[k]
   simp only[e];refine bT C T (t:=true) Y ?_;simp only[if_true];co_apply bK C T (aU _);co_reg (T _);iterate 2 co_op aG hF (co_quiet h)
   co_apply opsC_nil (T _);co_then;exact qu C T ⟨.inr Y,Y,_,resultsC_tmp2 rq _,Y,by simp[oE, *],hF⟩
  .have e:(b==237)=false:=by simp[k]
   simp only[e];refine bT C T (t:=false) Y ?_;simp only[if_false,lI];co_apply bK C T (aU _);co_reg (T _);iterate 2 co_op aG hF (co_quiet h)
   co_apply opsC_nil (T _);co_then;by_cases l:b=240
   .have f:(b==240)=true:=by simp[l]
    simp only[f];refine bT C T (t:=true) Y ?_;simp only[if_true];co_apply bK C T (aU _);co_reg (T _);iterate 2 co_op aG hF (co_quiet h)
    co_apply opsC_nil (T _);co_then;exact qu C T ⟨.inr Y,Y,_,resultsC_tmp2 rq _,Y,by simp[oE, *],hF⟩
   .have f:(b==240)=false:=by simp[l]
    simp only[f];refine bT C T (t:=false) Y ?_;simp only[if_false,lI];co_apply bK C T (aU _);co_reg (T _);iterate 2 co_op aG hF (co_quiet h)
    co_apply opsC_nil (T _);co_then;by_cases m:b=244
    .have g:(b==244)=true:=by simp[m]
     simp only[g];refine bT C T (t:=true) Y ?_;simp only[if_true];co_apply bK C T (aU _);co_reg (T _);iterate 2 co_op aG hF (co_quiet h)
     co_apply opsC_nil (T _);co_then;exact qu C T ⟨.inr Y,Y,_,resultsC_tmp2 rq _,Y,by simp[oE, *],hF⟩
    .have g:(b==244)=false:=by simp[m]
     simp only[g];refine bT C T (t:=false) Y ?_;simp only[if_false,lI];refine g8 C T ?_;co_apply bK C T (aU _);co_reg (T _);iterate 2 co_op aG hF (co_quiet h)
     co_apply opsC_nil (T _);co_then;exact qu C T ⟨.inr Y,Y,_,resultsC_tmp2 rq _,Y,by simp[oE, *],hF⟩
def iV(b k:Int):Int:=IntKind.i32.wrap<|bits .and .u8 b k
def FK(i:Ix)(b m k:Int) :
  jG prog (XK<|aJ prog N Pb Shun val B Mz) 313 #[.pointer (sq c2),.int .u8 b,.int .i64 m,.int .u8 k] i w (λi' _ w'=>i'=i/\HC N Pb cp c1 c2 c ⟨iV b k,m,(oE b).1,(oE b).2⟩ w'):=by
 have C:=cK N Pb Shun val B Mz;have T:=tK N Pb Shun val B Mz;have Tq:=T (true,[]);refine hM func313 rq Y ?_;co_apply bK C T (aU _);co_reg (T _);iterate 5 co_op aG hF (co_quiet Tq)
 iterate 2 co_opw aG hF (skip) (co_still Tq)
 co_opw aG hF (have hc:=hF.dC) (exact iD hF (.inr Y)<|by co_evs (exact dA<|.inr<|.inr Y));replace hF:=hF.Ab<|iV b k;clear hc;co_apply opsC_nil (T _);co_then;co_apply bK C T (aU _);co_reg (T _);iterate 2 co_op aG hF (co_quiet Tq)
 iterate 2 co_opw aG hF (skip) (co_still Tq)
 co_opw aG hF (have hc:=hF.dC) (exact iD hF (.inr Y)<|by co_evs (exact dA<|.inr<|.inr Y));replace hF:=hF.rC m;clear hc;co_apply opsC_nil (T _);co_then;refine cH C T ?_;simp only[jb,Nat.reduceAdd];iterate 3
  refine bB C Y rq λ_ hR Kx dX=>?_
  replace hF:=aG hF hR
  clear hR
  go_simp
  try (unfold stored;go_simp)
  refine dX _ _ ⟨?_,?_⟩
  .co_quiet Tq
  clear dX Kx;try walk_nrm
 refine cN C T Y rq Y Y (by simp[Act.eval]) Y (Lh hF i b) ?_;rintro _ _ _ ⟨rfl,rfl,hF⟩;iterate 3
  try walk_nrm
  refine bB C Y rq λ_ hR Kx dX=>?_
  replace hF:=aG hF hR
  clear hR
  go_simp
  try (unfold stored;go_simp)
  refine dX _ _ ⟨?_,?_⟩
  .co_quiet Tq
  clear dX Kx
 iterate 2
  try walk_nrm
  refine bB C Y rq λ_ hR Kx dX=>?_
  replace hF:=aG hF hR
  clear hR
  go_simp
  try (unfold stored;go_simp)
  refine dX _ _ ⟨?_,?_⟩
  .co_still Tq
  clear dX Kx
 try walk_nrm
 refine bB C Y rq λ_ hR Kx dX=>?_;replace hF:=aG hF hR;clear hR;have hc:=hF.dC;go_simp;try (unfold stored;go_simp)
 refine dX _ _ ⟨?_,?_⟩
 .exact iD hF (.inr Y)<|by co_evs (exact dA<|.inr<|.inr Y)
 clear dX Kx;try walk_nrm
 replace hF:=hF.Nu (oE b).1;clear hc;iterate 2
  refine bB C Y rq λ_ hR Kx dX=>?_
  replace hF:=aG hF hR
  clear hR
  go_simp
  try (unfold stored;go_simp)
  refine dX _ _ ⟨?_,?_⟩
  .co_still Tq
  clear dX Kx;try walk_nrm
 refine bB C Y rq λ_ hR Kx dX=>?_;replace hF:=aG hF hR;clear hR;have hc:=hF.dC;go_simp;try (unfold stored;go_simp)
 refine dX _ _ ⟨?_,?_⟩
 .exact iD hF (.inr Y)<|by co_evs (exact dA<|.inr<|.inr Y)
 clear dX Kx;try walk_nrm
 replace hF:=hF.Iy (oE b).2;clear hc;exact du C T ⟨.inl Y,Y,_,resultsC_none rq _,Y,hF⟩
end
def jD (d:DS):DS × Iq:=if 0<d.missing then ({ d with missing:=0 },[65533]) else (d,[])
def bM(c:CS):Iq->CS × Iq
 | []=>(c,[])
 | r::l=>((bM (iX c r).1 l).1,(iX c r).2++(bM (iX c r).1 l).2)
def c8(c:CS)(r:Int):bM c [r]=iX c r:=by simp[bM]
section
variable (hF:HC N Pb cp c1 c2 c d w)
def LN(fr:Bool)(vs:Vq) :
  jG prog (XK<|aJ prog N Pb Shun val B Mz) 118 #[.pointer (sq c2)] (fr,V (bM c (jD d).2).2++vs) w (λi' _ w'=>i'=(fr&&(bM c (jD d).2).2.isEmpty,vs)/\HC N Pb cp c1 c2 (bM c (jD d).2).1 (jD d).1 w'):=by
 have C:=cK N Pb Shun val B Mz;have T:=tK N Pb Shun val B Mz;have Tq:=T (true,[]);refine hM func118 rq Y ?_;co_apply bK C T (aU _);co_reg (T _);co_op aG hF (co_quiet Tq);iterate 2 co_opw aG hF (skip) (co_still Tq)
 co_opw aG hF (have hc:=hF.dC) (refine fg hF ?_;co_evs (exact dA<|.inr<|.inr Y));clear hc;co_op aG hF (co_quiet Tq);co_apply opsC_nil (T _);co_then;by_cases hm:0<d.missing
 .have hmb:=tD hm;try simp only[hmb]
  refine bT C T (t:=true) Y ?_;simp only[if_true];co_apply bK C T (aU _);co_reg (T _);co_op aG hF (co_quiet Tq);iterate 2 co_opw aG hF (skip) (co_still Tq)
  co_opw aG hF (have hc:=hF.dC) (exact iD hF (.inr Y)<|by co_evs (exact dA<|.inr<|.inr Y));replace hF:=hF.rC 0;clear hc;co_apply opsC_nil (T _);co_then;refine cH C T ?_;simp only[jb,Nat.reduceAdd];refine bB C Y rq λ_ hR Kx dX=>?_;replace hF:=aG hF hR;clear hR;go_simp;try (unfold stored;go_simp)
  refine dX _ _ ⟨?_,?_⟩
  .co_quiet Tq
  iterate 2
   clear dX Kx
   try walk_nrm
   refine bB C Y rq λ_ hR Kx dX=>?_
   replace hF:=aG hF hR
   clear hR
   go_simp
   try (unfold stored;go_simp)
   refine dX _ _ ⟨?_,?_⟩
   .co_still Tq
  clear dX Kx;try walk_nrm
  refine bB C Y rq λ_ hR Kx dX=>?_;replace hF:=aG hF hR;clear hR;have hc:=hF.dC;go_simp;try (unfold stored;go_simp)
  refine dX _ _ ⟨?_,?_⟩
  .refine fg hF ?_;co_evs (exact dA<|.inr<|.inr Y)
  clear dX Kx;try walk_nrm
  clear hc;refine cN C T Y rq Y Y (by simp[Act.eval]) (by simp only[jD,ip hm,c8]) (D3 hF fr 65533 vs) ?_;rintro _ _ _ ⟨rfl,hF⟩;exact du C T ⟨.inl Y,Y,_,resultsC_none rq _,by simp[jD,hm,c8],by simpa[jD,hm,c8] using hF⟩
 .have hmb:=fD hm;try simp only[hmb]
  refine bT C T (t:=false) Y ?_;simp only[if_false,lI];exact g8 C T ⟨.inl Y,Y,_,resultsC_none rq _,by simp[jD,hm,bM,V],by simpa[jD,hm,bM] using hF⟩
def ec(d:DS)(b:Int):DS × Iq :=
 if b<128 then (d,[IntKind.i32.wrap b]) else if b<194 then (d,[65533]) else if b>244 then (d,[65533]) else if b<224 then (⟨iV b 31,1,(oE b).1,(oE b).2⟩,[]) else if b<240 then (⟨iV b 15,2,(oE b).1,(oE b).2⟩,[]) else (⟨iV b 7,3,(oE b).1,(oE b).2⟩,[])
def AD(fr:Bool)(b:Int)(vs:Vq) :
  jG prog (XK<|aJ prog N Pb Shun val B Mz) 215 #[.pointer (sq c2),.int .u8 b] (fr,V (bM c (ec d b).2).2++vs) w (λi' _ w'=>i'=(fr&&(bM c (ec d b).2).2.isEmpty,vs)/\HC N Pb cp c1 c2 (bM c (ec d b).2).1 (ec d b).1 w'):=by
 have C:=cK N Pb Shun val B Mz;have T:=tK N Pb Shun val B Mz;have Tq:=T (true,[]);refine hM func215 rq Y ?_;simp only[ntmps215,bZ,Nat.reduceAdd,Nat.reduceSub];refine kz C T ?_;co_apply bK C T (aU _);co_reg (T _);iterate 3 co_op aG hF (co_quiet Tq)
 co_apply opsC_nil (T _);co_then;by_cases h1:b<128
 .have Ta:decide (b<128)=true:=tD h1;try simp only[Ta]
  refine bT C T (t:=true) Y ?_;simp only[if_true];have uV:ec d b=(d,[IntKind.i32.wrap b]):=by simp[ec,h1]
  refine cH C T ?_;simp only[jb,Nat.reduceAdd];refine bB C Y rq λ_ hR Kx dX=>?_;replace hF:=aG hF hR;clear hR;go_simp;try (unfold stored;go_simp)
  refine dX _ _ ⟨?_,?_⟩
  .co_quiet Tq
  iterate 2
   clear dX Kx
   try walk_nrm
   refine bB C Y rq λ_ hR Kx dX=>?_
   replace hF:=aG hF hR
   clear hR
   go_simp
   try (unfold stored;go_simp)
   refine dX _ _ ⟨?_,?_⟩
   .co_still Tq
  clear dX Kx;try walk_nrm
  refine bB C Y rq λ_ hR Kx dX=>?_;replace hF:=aG hF hR;clear hR;have hc:=hF.dC;go_simp;try (unfold stored;go_simp)
  refine dX _ _ ⟨?_,?_⟩
  .refine fg hF ?_;co_evs (exact dA<|.inr<|.inr Y)
  clear dX Kx;try walk_nrm
  clear hc;iterate 2
   refine bB C Y rq λ_ hR Kx dX=>?_
   replace hF:=aG hF hR
   clear hR
   go_simp
   try (unfold stored;go_simp)
   refine dX _ _ ⟨?_,?_⟩
   .co_quiet Tq
   clear dX Kx;try walk_nrm
  refine cN C T Y rq Y Y (by simp[Act.eval]) (by rw[uV];simp only[c8]) (D3 hF fr (IntKind.i32.wrap b) vs) ?_;rintro _ _ _ ⟨rfl,hF⟩;exact du C T ⟨.inl Y,Y,_,resultsC_none rq _,by simp[uV,c8],by rw[uV,c8];exact hF⟩
 .have Ta:decide (b<128)=false:=fD h1;try simp only[Ta]
  refine bT C T (t:=false) Y ?_;simp only[if_false,lI];by_cases h2:b<194
  .have h2b:decide (b<194)=true:=tD h2;co_apply bK C T (aU _);co_reg (T _);iterate 3 co_op aG hF (co_quiet Tq)
   try simp only[h2b]
   iterate 2 co_apply opsC_unwanted (T _) Y rq
   iterate 2 co_op aG hF (co_quiet Tq)
   co_apply opsC_nil (T _);co_then;refine bT C T (t:=true) Y ?_;simp only[if_true];have uV:ec d b=(d,[65533]):=by simp[ec,h1,h2]
   refine cH C T ?_;simp only[jb,Nat.reduceAdd];refine bB C Y rq λ_ hR Kx dX=>?_;replace hF:=aG hF hR;clear hR;go_simp;try (unfold stored;go_simp)
   refine dX _ _ ⟨?_,?_⟩
   .co_quiet Tq
   iterate 2
    clear dX Kx
    try walk_nrm
    refine bB C Y rq λ_ hR Kx dX=>?_
    replace hF:=aG hF hR
    clear hR
    go_simp
    try (unfold stored;go_simp)
    refine dX _ _ ⟨?_,?_⟩
    .co_still Tq
   clear dX Kx;try walk_nrm
   refine bB C Y rq λ_ hR Kx dX=>?_;replace hF:=aG hF hR;clear hR;have hc:=hF.dC;go_simp;try (unfold stored;go_simp)
   refine dX _ _ ⟨?_,?_⟩
   .refine fg hF ?_;co_evs (exact dA<|.inr<|.inr Y)
   clear dX Kx;try walk_nrm
   clear hc;refine cN C T Y rq Y Y (by simp[Act.eval]) (by rw[uV];simp only[c8]) (D3 hF fr 65533 vs) ?_;rintro _ _ _ ⟨rfl,hF⟩;exact du C T ⟨.inl Y,Y,_,resultsC_none rq _,by simp[uV,c8],by rw[uV,c8];exact hF⟩
  .have h2b:decide (b<194)=false:=fD h2;co_apply bK C T (aU _);co_reg (T _);iterate 3 co_op aG hF (co_quiet Tq)
   try simp only[h2b]
   iterate 4 co_op aG hF (co_quiet Tq)
   co_apply opsC_nil (T _);co_then;by_cases h3:b>244
   .have h3b:decide (b>244)=true:=tD h3;try simp only[h3b]
    refine bT C T (t:=true) Y ?_;simp only[if_true];have uV:ec d b=(d,[65533]):=by simp[ec,h1,h2,h3]
    refine cH C T ?_;simp only[jb,Nat.reduceAdd];refine bB C Y rq λ_ hR Kx dX=>?_;replace hF:=aG hF hR;clear hR;go_simp;try (unfold stored;go_simp)
    refine dX _ _ ⟨?_,?_⟩
    .co_quiet Tq
    iterate 2
     clear dX Kx
     try walk_nrm
     refine bB C Y rq λ_ hR Kx dX=>?_
     replace hF:=aG hF hR
     clear hR
     go_simp
     try (unfold stored;go_simp)
     refine dX _ _ ⟨?_,?_⟩
     .co_still Tq
    clear dX Kx;try walk_nrm
    refine bB C Y rq λ_ hR Kx dX=>?_;replace hF:=aG hF hR;clear hR;have hc:=hF.dC;go_simp;try (unfold stored;go_simp)
    refine dX _ _ ⟨?_,?_⟩
    .refine fg hF ?_;co_evs (exact dA<|.inr<|.inr Y)
    clear dX Kx;try walk_nrm
    clear hc;refine cN C T Y rq Y Y (by simp[Act.eval]) (by rw[uV];simp only[c8]) (D3 hF fr 65533 vs) ?_;rintro _ _ _ ⟨rfl,hF⟩;exact du C T ⟨.inl Y,Y,_,resultsC_none rq _,by simp[uV,c8],by rw[uV,c8];exact hF⟩
   .have h3b:decide (b>244)=false:=fD h3;try simp only[h3b]
    refine bT C T (t:=false) Y ?_;simp only[if_false,lI];co_apply bK C T (aU _);co_reg (T _);iterate 3 co_op aG hF (co_quiet Tq)
    co_apply opsC_nil (T _);co_then;by_cases h4:b<224
    .have h4b:decide (b<224)=true:=tD h4;try simp only[h4b]
     refine bT C T (t:=true) Y ?_;simp only[if_true];have uV:ec d b=(⟨iV b 31,1,(oE b).1,(oE b).2⟩,[]):=by simp[ec,h1,h2,h3,h4]
     refine cH C T ?_;simp only[jb,Nat.reduceAdd];iterate 2
      refine bB C Y rq λ_ hR Kx dX=>?_
      replace hF:=aG hF hR
      clear hR
      go_simp
      try (unfold stored;go_simp)
      refine dX _ _ ⟨?_,?_⟩
      .co_quiet Tq
      clear dX Kx;try walk_nrm
     refine cN C T Y rq Y Y (by simp[Act.eval]) (by rw[uV];simp[bM,V]) (FK hF (fr,vs) b 1 31) ?_;rintro _ _ _ ⟨rfl,hF⟩;exact du C T ⟨.inl Y,Y,_,resultsC_none rq _,by simp[uV,bM],by rw[uV];exact hF⟩
    .have h4b:decide (b<224)=false:=fD h4;try simp only[h4b]
     refine bT C T (t:=false) Y ?_;simp only[if_false,lI];co_apply bK C T (aU _);co_reg (T _);iterate 3 co_op aG hF (co_quiet Tq)
     co_apply opsC_nil (T _);co_then;by_cases h5:b<240
     .have h5b:decide (b<240)=true:=tD h5;try simp only[h5b]
      refine bT C T (t:=true) Y ?_;simp only[if_true];have uV:ec d b=(⟨iV b 15,2,(oE b).1,(oE b).2⟩,[]):=by simp[ec,h1,h2,h3,h4,h5]
      refine cH C T ?_;simp only[jb,Nat.reduceAdd];iterate 2
       refine bB C Y rq λ_ hR Kx dX=>?_
       replace hF:=aG hF hR
       clear hR
       go_simp
       try (unfold stored;go_simp)
       refine dX _ _ ⟨?_,?_⟩
       .co_quiet Tq
       clear dX Kx;try walk_nrm
      refine cN C T Y rq Y Y (by simp[Act.eval]) (by rw[uV];simp[bM,V]) (FK hF (fr,vs) b 2 15) ?_;rintro _ _ _ ⟨rfl,hF⟩;exact du C T ⟨.inl Y,Y,_,resultsC_none rq _,by simp[uV,bM],by rw[uV];exact hF⟩
     .have h5b:decide (b<240)=false:=fD h5;try simp only[h5b]
      refine bT C T (t:=false) Y ?_;simp only[if_false,lI];have uV:ec d b=(⟨iV b 7,3,(oE b).1,(oE b).2⟩,[]):=by simp[ec,h1,h2,h3,h4,h5]
      refine cH C T ?_;simp only[jb,Nat.reduceAdd];iterate 2
       refine bB C Y rq λ_ hR Kx dX=>?_
       replace hF:=aG hF hR
       clear hR
       go_simp
       try (unfold stored;go_simp)
       refine dX _ _ ⟨?_,?_⟩
       .co_quiet Tq
       clear dX Kx;try walk_nrm
      refine cN C T Y rq Y Y (by simp[Act.eval]) (by rw[uV];simp[bM,V]) (FK hF (fr,vs) b 3 7) ?_;rintro _ _ _ ⟨rfl,hF⟩;exact du C T ⟨.inl Y,Y,_,resultsC_none rq _,by simp[uV,bM],by rw[uV];exact hF⟩
end
end
def et(l b:Int):Int:=bits .or .i32 (IntKind.i32.wrap<|l*64)<|IntKind.i32.wrap<|bits .and .u8 b 63
def dR(d:DS)(b:Int):DS × Iq :=
 (⟨et d.letter b,IntKind.i64.wrap<|d.missing-1,128,191⟩,if IntKind.i64.wrap (d.missing-1)=0 then [et d.letter b] else [])
section
variable {Pb:Nat}
variable [ConcR.Payload][ConcX.Payload]
theorem LV(a:HC N Pb cp c1 c2 c d w)(fr:Bool)(b:Int)(vs:Vq) :
  jG prog (XK<|aJ prog N Pb Shun val B Mz) 214 #[.pointer (sq c2),.int .u8 b] (fr,V (bM c (dR d b).2).2++vs) w (λA _ p=>A=(fr&&(bM c (dR d b).2).2.isEmpty,vs)/\HC N Pb cp c1 c2 (bM c (dR d b).2).1 (dR d b).1 p):=by
 have C:=cK N Pb Shun val B Mz;have T:=tK N Pb Shun val B Mz;have f:=T (true,[]);have q:∀w:World,vq (aJ prog N Pb Shun val B Mz) (true,[]) w { w with drawn:=w.drawn+1 }:=xw;refine hM func214 rq Y ?_;simp only[ntmps214,bZ,Nat.reduceAdd,Nat.reduceSub];co_apply bK C T (aU _);co_reg (T _);iterate 2 co_op aG a (co_quiet f)
 iterate 2 co_opw aG a (skip) (co_still f)
 co_opw aG a (have U:=a.dC) (refine fg a ?_;co_evs (exact dA<|.inr<|.inr Y));clear U;iterate 5 co_op aG a (co_quiet f)
 iterate 2 co_opw aG a (skip) (co_still f)
 co_opw aG a (have U:=a.dC) (exact iD a (.inr Y)<|by co_evs (exact dA<|.inr<|.inr Y));replace a:=a.Ab<|et d.letter b;clear U;co_apply opsC_nil (T _);co_then;co_apply bK C T (aU _);co_reg (T _);co_op aG a (co_quiet f);iterate 2 co_opw aG a (skip) (co_still f)
 co_opw aG a (have U:=a.dC) (refine fg a ?_;co_evs (exact dA<|.inr<|.inr Y));clear U;co_op aG a (co_quiet f);iterate 2 co_opw aG a (skip) (co_still f)
 co_opw aG a (have U:=a.dC) (exact iD a (.inr Y)<|by co_evs (exact dA<|.inr<|.inr Y));replace a:=a.rC<|IntKind.i64.wrap<|d.missing-1;clear U;co_apply opsC_nil (T _);co_then;co_apply bK C T (aU _);co_reg (T _);iterate 2 co_op aG a (co_quiet f)
 iterate 2 co_opw aG a (skip) (co_still f)
 co_opw aG a (have U:=a.dC) (exact iD a (.inr Y)<|by co_evs (exact dA<|.inr<|.inr Y));replace a:=a.Nu 128;clear U;iterate 2 co_opw aG a (skip) (co_still f)
 co_opw aG a (have U:=a.dC) (exact iD a (.inr Y)<|by co_evs (exact dA<|.inr<|.inr Y));replace a:=a.Iy 191;clear U;co_apply opsC_nil (T _);co_then;co_apply bK C T (aU _);co_reg (T _);co_op aG a (co_quiet f);iterate 2 co_opw aG a (skip) (co_still f)
 co_opw aG a (have U:=a.dC) (refine fg a ?_;co_evs (exact dA<|.inr<|.inr Y));clear U;co_op aG a (co_quiet f);co_apply opsC_nil (T _);co_then;by_cases g:IntKind.i64.wrap (d.missing-1)=0
 .have o:(IntKind.i64.wrap (d.missing-1)==0)=true:=by simp[g]
  try simp only[o]
  clear o;refine bT C T (t:=true) Y ?_;simp only[if_true];refine vH C T (n:=8) (S:=HC N Pb cp c1 c2 c ⟨et d.letter b,IntKind.i64.wrap<|d.missing-1,128,191⟩) (K:=λm p=>(m.eval (.tmp 37)=qA c1/\m.eval (.tmp 41)=.int .i32 (et d.letter b)/\m.defers=[])/\HC N Pb cp c1 c2 c ⟨et d.letter b,IntKind.i64.wrap<|d.missing-1,128,191⟩ p) Q7 (by first|kernel_rfl|rfl) rfl (λl=>(!l.getD 1 false||l.getD 0 false)&&(!l.getD 2 false||l.getD 1 false)&&(!l.getD 3 false||l.getD 2 false)&&(!l.getD 5 false||l.getD 4 false)&&(!l.getD 6 false||l.getD 5 false)&&(!l.getD 7 false||l.getD 6 false)) rfl ?hdn ?abr (λv u=>?any) ?last;case abr =>
   intro e j i;have⟨l⟩:=e;match l,j,i with
   | [b0,b1,b2,b3,b4,b5,b6,b7,b8],j,i =>clear j;simp only[LY,List.getElem?_cons_succ,OX,xH] at i;subst i;clear a g;revert b0 b1 b2 b3 b4 b5 b6 b7;decide +kernel
  case hdn =>
   intro e j i;have⟨l⟩:=e;match l,j,i with
   | [b0,b1,b2,b3,b4,b5,b6,b7,b8],j,i =>clear j;simp only[LY,List.getElem?_cons_succ,OX,xH] at i;subst i;clear a g;revert b0 b1 b2 b3 b4 b5 b6 b7;decide +kernel
  case any =>
   replace a:=aG (aG a u)<|q _;clear u
   co_applyP tkA [0,1,2,3,4,5,6,7]
   iterate 8
    co_applyP tkC (T _) (λ_ _ h r=>aG h r) (λ_ _ _ h r=>⟨h.1,h.2.1,aG h.2.2 r⟩) Y (.inl ⟨rq,λ_ s=>⟨run_eq_of ?_,?_⟩⟩) a ?_;rotate_left
    .intro D x;have U:=s.dC;go_simp;exact x
    .have U:=s.dC;first|(rw[listed_nil];exact Terms.idle f _;first|(simp[go_sem];done)|(simp[go_sem, *];done))|(refine fg s ?_;co_evs (exact dA<|.inr<|.inr Y))
    try walk_nrm
   co_applyP tkZ
   exact anyCH_done (by decide +kernel) ⟨Y,⟨Y,Y,Y⟩,a⟩ _
  case last =>
   rintro m p ⟨⟨y,E,z⟩,a⟩;have k:dR d b=(⟨et d.letter b,IntKind.i64.wrap<|d.missing-1,128,191⟩,[et d.letter b]):=by simp only[dR,ip g]
   refine cN C T Y rq Y y gq (by rw[k];simp only[c8]) (D3 a fr (et d.letter b) vs) ?_;rintro _ _ _ ⟨rfl,a⟩;exact du C T ⟨.inl Y,z,_,resultsC_none rq _,by simp[k,c8],by rw[k,c8];exact a⟩
 .have o:(IntKind.i64.wrap (d.missing-1)==0)=false:=by simp[g]
  try simp only[o]
  refine bT C T (t:=false) Y ?_;simp only[if_false,lI];refine g8 C T ?_;have k:dR d b=(⟨et d.letter b,IntKind.i64.wrap<|d.missing-1,128,191⟩,[]):=by simp only[dR,iw g]
  exact⟨.inl Y,Y,_,resultsC_none rq _,by simp[k,bM,V],by rw[k];exact a⟩
end
end
section
variable {ι:Type}{R:ι->Wq}{D:ι->World->World->Array Event->Prop}
def fv(d:DS)(b:Int):DS × Iq :=
 if 0<d.missing then if d.low<=b/\b<=d.high then dR d b else ((ec (jD d).1 b).1,(jD d).2++(ec (jD d).1 b).2) else ec d b
def oB(c:CS)(x y:Iq):bM c (x++y)=((bM (bM c x).1 y).1,(bM c x).2++(bM (bM c x).1 y).2):=by
 induction x generalizing c with
 | nil=>simp[bM]
 | cons r l a=>simp[bM,a]
def py{a:Type}(x y:List a):(x++y).isEmpty=(x.isEmpty&&y.isEmpty):=by cases x<;>rfl
def rV(x y:Iq):V (x++y)=V x++V y:=by simp[V]
variable {N Pb c1 c2 B:Nat}{cp:K1}{Shun Mz:Loc->Prop}{val:Value}{c:CS}{d:DS}{w aK:World}
section
variable [ConcR.Payload][ConcX.Payload]
def U7(a:HC N Pb cp c1 c2 c d w)(fr:Bool)(b:Int)(vs:Vq) :
  jG prog (XK<|aJ prog N Pb Shun val B Mz) 117 #[.pointer (sq c2),.int .u8 b] (fr,V (bM c (fv d b).2).2++vs) w (λr _ s=>r=(fr&&(bM c (fv d b).2).2.isEmpty,vs)/\HC N Pb cp c1 c2 (bM c (fv d b).2).1 (fv d b).1 s):=by
 have C:=cK N Pb Shun val B Mz;have T:=tK N Pb Shun val B Mz;have g:=T (true,[]);refine hM func117 rq Y ?_;simp only[ntmps117,bZ,Nat.reduceAdd,Nat.reduceSub];refine iP C T ?_;co_apply bK C T (aU _);co_reg (T _);co_op aG a (co_quiet g);iterate 2 co_opw aG a (skip) (co_still g)
 co_opw aG a (have k:=a.dC) (refine fg a ?_;co_evs (exact dA<|.inr<|.inr Y));clear k;co_op aG a (co_quiet g);co_apply opsC_nil (T _);co_then;by_cases o:0<d.missing
 .have n:decide (0<d.missing)=true:=tD o;try simp only[n]
  refine bT C T (t:=true) Y ?_;simp only[if_true];refine iP C T ?_;by_cases q:d.low<=b
  .have m:decide (d.low<=b)=true:=tD q;co_apply bK C T (aU _);co_reg (T _);co_op aG a (co_quiet g);iterate 2 co_opw aG a (skip) (co_still g)
   co_opw aG a (have k:=a.dC) (refine fg a ?_;co_evs (exact dA<|.inr<|.inr Y));clear k;iterate 3 co_op aG a (co_quiet g)
   try simp only[m]
   iterate 2 co_op aG a (co_quiet g)
   iterate 2 co_opw aG a (skip) (co_still g)
   co_opw aG a (have k:=a.dC) (refine fg a ?_;co_evs (exact dA<|.inr<|.inr Y));clear k;iterate 2 co_op aG a (co_quiet g)
   co_apply opsC_nil (T _);co_then;by_cases p:b<=d.high
   .have l:decide (b<=d.high)=true:=tD p;try simp only[l]
    refine bT C T (t:=true) Y ?_;simp only[if_true];refine iP C T ?_;have f:fv d b=dR d b:=by simp only[fv,ip o,ip<|And.intro q p]
    refine cH C T ?_;simp only[jb,Nat.reduceAdd];iterate 2
     refine bB C Y rq λ_ i j e=>?_
     replace a:=aG a i
     clear i
     go_simp
     try (unfold stored;go_simp)
     refine e _ _ ⟨?_,?_⟩
     .co_quiet g
     clear e j;try walk_nrm
    refine cN C T Y rq Y Y (by simp[Act.eval]) (by rw[f]) (LV a fr b vs) ?_;rintro _ _ _ ⟨rfl,a⟩;refine du C T ?_;show qN _ _ _ _ _ _ _;exact qu C T ⟨.inr Y,Y,_,resultsC_none rq _,by simp[f],by rw[f];exact a⟩
   .have l:decide (b<=d.high)=false:=fD p;try simp only[l]
    refine bT C T (t:=false) Y ?_;simp only[if_false,lI];refine g8 C T ?_;show qN _ _ _ _ _ _ _;have f:fv d b=((ec (jD d).1 b).1,(jD d).2++(ec (jD d).1 b).2):=by simp only[fv,ip o,iw<|λh:d.low<=b/\b<=d.high=>p h.2]
    rw[f];simp only[oB,rV,vt];refine cH C T ?_;simp only[jb,Nat.reduceAdd];refine bB C Y rq λ_ i j e=>?_;replace a:=aG a i;clear i;go_simp;try (unfold stored;go_simp)
    refine e _ _ ⟨?_,?_⟩
    .co_quiet g
    clear e j;try walk_nrm
    refine cN C T Y rq Y Y (by simp[Act.eval]) Y (LN a fr _) ?_;rintro _ _ _ ⟨rfl,a⟩;refine du C T ?_;show qN _ _ _ _ _ _ _;refine cH C T ?_;simp only[jb,Nat.reduceAdd];iterate 2
     refine bB C Y rq λ_ i j e=>?_
     replace a:=aG a i
     clear i
     go_simp
     try (unfold stored;go_simp)
     refine e _ _ ⟨?_,?_⟩
     .co_quiet g
     clear e j;try walk_nrm
    refine cN C T Y rq Y Y (by simp[Act.eval]) Y (AD a _ b vs) ?_;rintro _ _ _ ⟨rfl,a⟩;exact du C T ⟨.inl Y,Y,_,resultsC_none rq _,by simp[py,Bool.and_assoc],a⟩
  .have m:decide (d.low<=b)=false:=fD q;co_apply bK C T (aU _);co_reg (T _);co_op aG a (co_quiet g);iterate 2 co_opw aG a (skip) (co_still g)
   co_opw aG a (have k:=a.dC) (refine fg a ?_;co_evs (exact dA<|.inr<|.inr Y));clear k;iterate 3 co_op aG a (co_quiet g)
   try simp only[m]
   iterate 6 co_apply opsC_unwanted (T _) Y rq
   co_op aG a (co_quiet g);co_apply opsC_nil (T _);co_then;refine bT C T (t:=false) Y ?_;simp only[if_false,lI];refine g8 C T ?_;show qN _ _ _ _ _ _ _;have f:fv d b=((ec (jD d).1 b).1,(jD d).2++(ec (jD d).1 b).2):=by simp only[fv,ip o,iw<|λh:d.low<=b/\b<=d.high=>q h.1]
   rw[f];simp only[oB,rV,vt];refine cH C T ?_;simp only[jb,Nat.reduceAdd];refine bB C Y rq λ_ i j e=>?_;replace a:=aG a i;clear i;go_simp;try (unfold stored;go_simp)
   refine e _ _ ⟨?_,?_⟩
   .co_quiet g
   clear e j;try walk_nrm
   refine cN C T Y rq Y Y (by simp[Act.eval]) Y (LN a fr _) ?_;rintro _ _ _ ⟨rfl,a⟩;refine du C T ?_;show qN _ _ _ _ _ _ _;refine cH C T ?_;simp only[jb,Nat.reduceAdd];iterate 2
    refine bB C Y rq λ_ i j e=>?_
    replace a:=aG a i
    clear i
    go_simp
    try (unfold stored;go_simp)
    refine e _ _ ⟨?_,?_⟩
    .co_quiet g
    clear e j;try walk_nrm
   refine cN C T Y rq Y Y (by simp[Act.eval]) Y (AD a _ b vs) ?_;rintro _ _ _ ⟨rfl,a⟩;exact du C T ⟨.inl Y,Y,_,resultsC_none rq _,by simp[py,Bool.and_assoc],a⟩
 .have n:decide (0<d.missing)=false:=fD o;try simp only[n]
  refine bT C T (t:=false) Y ?_;simp only[if_false,lI];refine g8 C T ?_;show qN _ _ _ _ _ _ _;have f:fv d b=ec d b:=by simp only[fv,iw o]
  refine cH C T ?_;simp only[jb,Nat.reduceAdd];iterate 2
   refine bB C Y rq λ_ i j e=>?_
   replace a:=aG a i
   clear i
   go_simp
   try (unfold stored;go_simp)
   refine e _ _ ⟨?_,?_⟩
   .co_quiet g
   clear e j;try walk_nrm
  refine cN C T Y rq Y Y (by simp[Act.eval]) (by rw[f]) (AD a fr b vs) ?_;rintro _ _ _ ⟨rfl,a⟩;exact du C T ⟨.inl Y,Y,_,resultsC_none rq _,by simp[f],by rw[f];exact a⟩
end
def G8(P:Program)(w:World)(t:TypeId)(v:Value):(Instr.box t v).run P w=.ok (.pointer<|sq w.heap.size) (w.alloc<|.cells v.cells t):=by simp[newVar,go_sem]
def wF(P:Program)(w:World)(t:TypeId)(v:Value)(es:Array Event):(Instr.box t v).events P w es=es:=by simp[newVar,go_sem]
def tU{P:Program}{w:World}{t:TypeId}{z:Value}(a:∀w,(zeroValue t).run P w=.ok z w):(Instr.alloc t true<|.tuple #[]).run P w=.ok (.pointer<|sq w.heap.size) (w.alloc<|.cells z.cells t):=by simp[newVar,go_sem,a]
def nT{P:Program}{w:World}{t:TypeId}{z:Value}(a:∀w,(zeroValue t).run P w=.ok z w)(es:Array Event):(Instr.alloc t true<|.tuple #[]).events P w es=es:=by simp[newVar,go_sem,a]
def qK{P:Program}(w:World):∀(b:List Field) (a:List (Nat × Nat)) (es:Array Event),b.mapM (λf:Field=>(P.info? f.type).map λi=>(f.offset,i.size))=some a ->
  (b.mapM λf:Field=>Functor.map (Prod.mk f.offset)<|sizeOf f.type).events P w es=es
 | [],a,es,h=>iq
 | f::b,a,es,h=>by
  simp only[List.mapM_cons,Option.bind_eq_bind,Option.pure_def] at h;cases hi:P.info? f.type with
  | none=>simp[hi] at h
  | some i =>
   cases hr:b.mapM (λf=>(P.info? f.type).map λi=>(f.offset,i.size)) with
   | none=>simp[hi,hr] at h
   | some rest =>
    have hs:(sizeOf f.type).run P w=.ok i.size w:=by simp[sizeOf,typeInfo,hi]
    simp[hs,qK w b rest _ hr]
def lx{P:Program}(w:World)(t:TypeId)(a:Array (Nat × Value))(cells:Aq)(h:P.built t a.toList=some cells)(es:Array Event):(Instr.build t a).events P w es=es:=by
 unfold Program.built at h;cases Mc:P.info? t with
 | none=>simp[Mc] at h
 | some g =>
  cases hu:P.underlying t with
  | none=>simp[Mc,hu] at h
  | some d =>
   cases hz:g.zero with
   | none=>cases d<;>simp[Mc,hu,hz] at h
   | some z =>
    cases d<;>try (simp[Mc,hu] at h;done)
    case array n e =>
     cases Rl:P.info? e with
     | none=>simp[Mc,hu,hz,Rl] at h
     | some j =>simp only[Mc,hu,hz,Rl] at h;simp[Instr.build,run_underlying hu,sizeOf,typeInfo,zeroValue,Mc,hz,Rl,h]
    case struct fields =>
     cases hp:fields.toList.mapM (λf=>(P.info? f.type).map λi=>(f.offset,i.size)) with
     | none=>simp[Mc,hu,hz,hp] at h
     | some b =>
      simp only[Mc,hu,hz,hp] at h;have c:Instr.fill (λx=>b[x]?) z.cells a.toList=some cells:=by simpa using h
      simp[Instr.build,run_underlying hu,typeInfo,zeroValue,Mc,hz,Array.mapM_eq_mapM_toList,run_places w _ _ hp,qK w _ _ _ hp,c]
theorem pS{P:Program}(g:Nat)(t:TypeId):∀(vs:Vq) (i:Nat) (U:Aq) (w:World) (es:Array Event),w.heap[g]?=some (.cells U t (0,0))->i+vs.length<=U.size->(∀v∈vs,v.oneCell'=true) ->
  ∀a∈(storeCells ⟨g,0,none⟩ vs i).events P w es,a∈es\/∃o,a=⟨.cell ⟨g,o,none⟩,true,false⟩
 | [],_,_,_,_,_,_,_=>λa h=>.inl<|by simpa[storeCells] using h
 | v::rest,i,U,w,es,hg,hl,h1=>λa h=>by
  have hi:i<U.size:=gq
  have c:(⟨g,0,none⟩:Addr).add i=⟨g,i,none⟩:=by unfold Addr.add;split<;>simp_all
  have b:w.cell? ⟨g,i,none⟩=some U[i]:=by simp[World.cell?,hg,hi]
  have d:w.frozen? ⟨g,i,none⟩=false:=by simp[World.frozen?,hg]
  have f:(store ((⟨g,0,none⟩:Addr).add i) v).run P w=.ok () (w.setRow g<|U.setIfInBounds i v):=by rw[c,run_store P w _ v _<|h1 v iq,b];simp[d,setCell_eq_setRow w g i U t (0,0) v hg]
  have e:(store ((⟨g,0,none⟩:Addr).add i) v).events P w es=es.push ⟨.cell ⟨g,i,none⟩,true,false⟩:=by rw[c,events_store P w es _ v _<|h1 v iq,b];grind
  simp only[storeCells,Sem.events_bind,f,e] at h;rcases pS g t rest (i+1) _ _ _ (setRow_heap w g U _ t _ hg) gq (λx j=>h1 x<|by simp[j]) a h with h|h
  .grind
  .exact .inr h
theorem BS{P:Program}(w:World)(g:Nat)(t ty:TypeId)(old cells:Aq)(c:w.heap[g]?=some (.cells old t (0,0)))(hi:(P.info? ty).map (·.size)=some cells.size)(e:old.size=cells.size)(h1:cells.all (·.oneCell')=true) :
  ∀a∈(storeVar ty ⟨g,0,none⟩<|.agg cells).events P w #[],∃o,a=⟨.cell ⟨g,o,none⟩,true,false⟩:=by
 intro a b;cases hq:P.info? ty with
 | none=>simp[hq] at hi
 | some i =>
  have d:cells.size=i.size:=gq
  have U:a∈(storeCells ⟨g,0,none⟩ cells.toList).events P w #[]:=by simpa[storeVar,sizeOf,typeInfo,hq,Value.cells,d] using b
  rcases pS g t cells.toList 0 old w #[] c (by simp;omega) (λv f=>(Array.all_eq_true_iff_forall_mem.1 h1) v gq) a U with h|h
  .simp at h
  .exact h
abbrev fa:TypeId->Prop:=λt=>t=177\/t=179\/False
structure HM(M:World->Nat->Prop)(O:Nat->Prop)(N0:Nat)(Ex:Nat->Prop)(w₀:World)(Bb:Nat)(p u v:Value)(n:Nat)(xs:Vq)(w:World):Prop where
 bd:w.heap[Bb]?=some (.cells #[p,u] 119)
 mb:M w Bb
 exb:Ex Bb\/w₀.heap.size<=Bb
 ro:oW M Ex w₀ 5 v n xs w
 size:N0<=w.heap.size
 old:Kept M O Ex w₀ w
variable {M:World->Nat->Prop}{O Ex:Nat->Prop}{N0 Bb n:Nat}{w₀:World}{p u v:Value}{xs:Vq}
section
variable {i:ι}
def fW{e:Event}{ad:Addr}(b:e.loc=.cell ad)(a:M w ad.block):yv (M w) e:=.inl ⟨ad,b,a⟩
section
variable (E:Env fa N0 M O (R i) (D i))
def fh(a:N0<=w.heap.size){es:Array Event}(h:∀e∈es,yv (M w) e):D i w w es:=E.kZ a (fw w) h
def yv.up{w':World}{e:Event}(h:yv (M w) e)(a:∀b,M w b->M w' b):yv (M w') e:=h.imp (λ⟨c,h1,h2⟩=>⟨c,h1,a _ h2⟩)<|Or.imp (λ⟨b,d,h1,h2⟩=>⟨b,d,h1,a _ h2⟩) id
def AP{w':World}(c:N0<=w.heap.size)(o:Own fa M w w'){es:Array Event}(h:∀e∈es,yv (M w) e):D i w w' es:=E.kZ c o λe b=>(h e b).up λ_ a=>E.mine o a
end
end
variable {P:Program}
theorem CK(a:Addr)(j:Nat):(a.add 1).add j=a.add (j+1):=by unfold Addr.add;grind
theorem nl(w:World):∀(l:Bq) (a:Addr) (acc:ByteArray) (es:Array Event),(∀j x,l[j]?=some x->w.cell? (a.add j)=some (.int .u8 x.toNat)) ->
  ∀U∈(loadBytes a acc l.length).events P w es,U∈es\/∃b,U.loc=.cell b/\b.block=a.block
 | [],a,acc,es,_=>λU h=>.inl<|by simpa[loadBytes] using h
 | x::l,a,acc,es,h=>λU c=>by
  have h0:w.cell? a=some (.int .u8 x.toNat):=by have:=h 0 x Y;simpa[Addr.add] using this
  simp only[lC,loadBytes,Sem.events_bind,run_load,h0] at c;rcases nl w l _ _ _ (λj y d=>by rw[CK];exact h (j+1) y gq) U c with z|⟨b,z1,z2⟩
  .rcases events_load_at w a .plain es h0 U z with y|⟨y,_⟩
   .exact .inl y
   .exact .inr ⟨a,y,Y⟩
  .exact .inr ⟨b,z1,by rw[z2,addBlock]⟩
theorem nn(w:World)(d k ty e:TypeId)(A:P.underlying d=some (.pointer e))(v:P.cellsOf e=1)(g cells:Nat)(u:w.shape? g=some (e,cells))(l:Bq)(C:l≠[])(D:l.length<=cells)(B:l.length<=9223372036854775807)
 (U:∀j x,l[j]?=some x->w.cell? ((⟨g,0,none⟩:Addr).add j)=some (.int .u8 x.toNat)) :
  ∀f∈(Builtin.unsafeString_ #[d,k] ty #[.pointer (sq g),.int .i64 l.length]).events P w #[],∃i,f.loc=.cell i/\i.block=g:=by
 have y:l.length≠0:=gq
 have b:¬(9223372036854775807:Int)<(l.length:Int):=oq
 obtain⟨m,o,p,q⟩:∃m o p:String,Builtin.unsafeString_ #[d,k] ty #[.pointer (sq g),.int .i64 l.length] =
   (do
    let n <-asInt (.int .i64 l.length)
    if n<0 then runtimePanic (.error m)
    if n>IntKind.i64.max then unsupported (.unsafePointer o)
    if n=0 then pure _
    else if <-variablesAt ⟨g,0,none⟩ (<-elemOf d) n.toNat then do
     let s <-loadBytes ⟨g,0,none⟩ .empty n.toNat
     freeze ⟨g,0,none⟩ n.toNat
     pure (.string s)
    else unsupported (.unsafePointer p)):=⟨_,_,_,Y⟩;rw[q];have r:IntKind.i64.max=9223372036854775807:=Y;have c:¬(l.length:Int)<0:=oq
 intro f h;simp[asInt,asIntOf,r,b,c,y,variablesAt,u,elemOf,run_underlying A,(Lib.liesAt_bytes (P:=P) v (cells / P.cellsOf e) l.length gq),(Lib.run_loadBytes (P:=P) w l ⟨g,0,none⟩ .empty U)] at h;rcases nl (P:=P) w l ⟨g,0,none⟩ .empty #[] U f h with z|z
 .simp at z
 .exact z
theorem ug(w:World){b k n:Nat}(h:k≠b):(w.freeze ⟨b,0,none⟩ n).heap[k]?=w.heap[k]?:=by unfold World.freeze;grind
def Own.freeze{KT:TypeId->Prop}{M:World->Nat->Prop}{w:World}{b:Nat}{cs:Aq}{t:TypeId}{fz:Nat × Nat}(f:w.heap[b]?=some (.cells cs t fz))(g:M w b)(i:¬KT t)(n:Nat):Own KT M w (w.freeze ⟨b,0,none⟩ n):=by
 have a:(w.freeze ⟨b,0,none⟩ n).tape=w.tape/\(w.freeze ⟨b,0,none⟩ n).os=w.os/\(w.freeze ⟨b,0,none⟩ n).output=w.output/\(w.freeze ⟨b,0,none⟩ n).heap.size=w.heap.size:=by unfold World.freeze;split<;>simp
 refine⟨a.1,a.2.1,a.2.2.1,by rw[a.2.2.2];exact lr,λk _ c=>ug w<|λe=>c<|e▸g,λk j h c=>?_⟩;by_cases e:k=b
 .subst e;have⟨d,h2⟩:∃U,(w.freeze ⟨k,0,none⟩ n).heap[k]?=some (.cells cs t U):=by unfold World.freeze;grind
  rw[h2] at h;cases h;exact absurd c i
 .exact ug w e
theorem QX(x:Int)(U:0<=x)(h1:x<256):bits .and .u8 x 63=x % 64:=by
 have h:∀n:_root_.Fin 256,bits .and .u8 n.val 63=n.val % 64:=by decide +kernel
 have:=h ⟨x.toNat,oq⟩;grind
theorem YF(x:Int)(U:0<=x)(h1:x<32):bits .or .u8 192 x=192+x:=by
 have h:∀n:_root_.Fin 32,bits .or .u8 192 n.val=192+n.val:=by decide +kernel
 have:=h ⟨x.toNat,oq⟩;grind
theorem YE(x:Int)(U:0<=x)(h1:x<64):bits .or .u8 128 x=128+x:=by
 have h:∀n:_root_.Fin 64,bits .or .u8 128 n.val=128+n.val:=by decide +kernel
 have:=h ⟨x.toNat,oq⟩;grind
theorem YG(x:Int)(U:0<=x)(h1:x<16):bits .or .u8 224 x=224+x:=by
 have h:∀n:_root_.Fin 16,bits .or .u8 224 n.val=224+n.val:=by decide +kernel
 have:=h ⟨x.toNat,oq⟩;grind
theorem YH(x:Int)(U:0<=x)(h1:x<8):bits .or .u8 240 x=240+x:=by
 have h:∀n:_root_.Fin 8,bits .or .u8 240 n.val=240+n.val:=by decide +kernel
 have:=h ⟨x.toNat,oq⟩;grind
def Y9(x:Int):bits .or .u8 128 (bits .and .u8 (IntKind.u8.wrap x) 63)=128+x % 64:=by
 have a:IntKind.u8.wrap x=x % 256:=by rw[IntKind.wrap_u8]
 rw[a,QX _ oq oq,YE _ oq oq];omega
def Good (r:Int):Prop:=(0<=r/\r<55296)\/(57343<r/\r<=1114111)
section
variable {X:ι->Gq}{i:ι}
variable {r:Int}
def ry{ι:Type}{P:Program}{main:Bool}{R:ι->World->World->Prop}{D:ι->World->World->Array Event->Prop}{X:ι->Goroutine->World->Prop}{fn:FuncId}{Q:gY ι}{a:Act}{w:World}{vs:ι}(C:cG P main R D X)(T:∀i,Terms (R i)<|D i)
 {ops:Array Oper}{i:Nat}{rest:List Nat}{o:Oper}{f:FuncId}{bL:Func}{QZ:Array Operand}{ats:Array TypeId}{e:Array Value->Sem Value}{x:Value}(ho:ops[i]?=some o)(hw:Region.wanted o (yielded ops a.tmps)=true)(lz:o.op=.call { callee:=.value<|.func f,args:=QZ,argTypes:=ats })
 (hf:P.funcs[f]?=some bL)(ny:(bL.name == "runtime.NumGoroutine")=false)(hb:bL.body.isNone=true)(hn:Extern.findNext bL=none)(he:Extern.find bL=some e){args':Array Value}(sw:QZ.map a.eval=args')(Dp:∀ w,(e args').run P w=.ok x w)(FG:∀ w es,(e args').events P w es=es)
 (h:cP X fn ops rest vs Q (a.put o.dst x) w):cP X fn ops (i::rest) vs Q a w:=λb k cs uU hk hc=>C.step Y λaK cO=>by subst sw;rw[stepG_entry ho hw hk lz hf ny hb hn he (Dp aK) (evs:=#[]) (by rw[FG]; rfl) iq];exact⟨(T vs).idle _,C.rely (h b k cs uU hk hc) cO⟩
end
variable {Az:Gq}{tk rest:Iq}{en:Bool}{Rb:Nat}
section
def tO (Rb:Nat)(v:Value)(b:Nat):Prop:=b=Rb\/v.ownBlock=some b
structure HW(K:Cfg)(Ex:Nat->Prop)(w₀:World)(Rb:Nat)(u v:Value)(tk:Iq)(en:Bool)(w:World):Prop where
 rb:w.heap[Rb]?=some (.cells #[.chan (some K.A),.chan<|some K.E,u,.bool en] 175)
 mr:dK K w Rb
 VE:Ex Rb\/w₀.heap.size<=Rb
 ro:oW (dK K) Ex w₀ 21 v tk.length (V tk) w
 size:K.N0<=w.heap.size
 old:Kept (dK K) (jZ K) Ex w₀ w
def HW.cells{K:Cfg}(h:HW K Ex w₀ Rb u v tk en w):w.cell? ⟨Rb,0,none⟩=some (.chan<|some K.A)/\w.cell? ⟨Rb,1,none⟩=some (.chan<|some K.E)/\w.cell? ⟨Rb,2,none⟩=some u/\w.cell? ⟨Rb,3,none⟩=some (.bool en)/\w.frozen? ⟨Rb,2,none⟩=false/\w.frozen? ⟨Rb,3,none⟩=false:=by simp[World.cell?,World.frozen?,h.rb]
def HW.slice{K:Cfg}(h:HW K Ex w₀ Rb u v tk en w):∃x c,v=.slice x tk.length c:=by
 rcases h.ro.row.2 with ⟨z,z'⟩|⟨g,cap,cur,rfl,_⟩
 .exact⟨_,_,by rw[z,z']⟩
 .exact⟨_,_,Y⟩
def HW.z8{K:Cfg}{KT:TypeId->Prop}{R:Wq}{D:World->World->Array Event->Prop}(E:Env KT K.N0 (dK K) (jZ K) R D)(h:HW K Ex w₀ Rb u v tk en w)(r:R w aK):HW K Ex w₀ Rb u v tk en aK :=
 ⟨(E.keep r h.mr).trans h.rb,E.stay r h.mr,h.VE,h.ro.rely E r,lT h.size<|E.size r,h.old.rely E r⟩
def HW.ol{K:Cfg}(h:HW K Ex w₀ Rb u v tk en w):HW K (tO Rb v) w Rb u v tk en w:=⟨h.rb,h.mr,.inl<|.inl Y,⟨h.ro.row,λk a=>⟨(h.ro.own k a).1,.inl<|.inr a⟩,h.ro.nil⟩,h.size,Kept.refl w⟩
def HW.F7(h:HW (aJ prog N Pb Shun val B Mz) Ex w₀ Rb u v tk en w)(o:Nat)(x:Value):Own fa (dK<|aJ prog N Pb Shun val B Mz) w (w.setCell ⟨Rb,o,none⟩ x):=Own.setCell h.rb h.mr<|by simp
def HW.Y1(F:Cfg.Fit (aJ prog N Pb Shun val B Mz))(h:HW (aJ prog N Pb Shun val B Mz) Ex w₀ Rb u v tk en w)(o:Nat)(x e:Value)(a:Bool)(g:(#[.chan (some<|N+2),.chan<|some<|N+4,u,.bool en]:Aq).setIfInBounds o x=#[.chan (some<|N+2),.chan<|some<|N+4,e,.bool a]):HW (aJ prog N Pb Shun val B Mz) Ex w₀ Rb e v tk a (w.setCell ⟨Rb,o,none⟩ x):=by
 have c:=h.F7 o x;have E:=C4 F;refine⟨(ep h.rb _).trans<|by rw[show Cfg.A _=N+2 from Y,show Cfg.E _=N+4 from Y,g],E.mine c h.mr,h.VE,h.ro.same λk d=>⟨bY w _<|h.ro.ne h.rb dq d,E.mine c (h.ro.own k d).1⟩,by simpa[World.setCell] using h.size,h.old.own E c λb f i=>bY w _ ?_⟩;rintro rfl;rcases h.VE with z|z
 .exact i z
 .have:=E.lt f;omega
structure HV(K:Cfg)(Ex:Nat->Prop)(w₀:World)(Rb:Nat)(u v:Value)(tk:Iq)(en:Bool)(news:Vq)(g:Nat)(w:World):Prop where
 hw:HW K Ex w₀ Rb u v tk en w
 src:K6 (dK K) 21 news g w
theorem HW.built(F:Cfg.Fit (aJ prog N Pb Shun val B Mz))(h:HW (aJ prog N Pb Shun val B Mz) Ex w₀ Rb u v tk en w)(news:Vq):HV (aJ prog N Pb Shun val B Mz) Ex w₀ Rb u v tk en news w.heap.size (w.alloc<|.cells news.toArray 21):=by have E:=C4 F;have o:Own fa (dK<|aJ prog N Pb Shun val B Mz) w (w.alloc<|.cells news.toArray 21):=eB (by simp[fa]);refine⟨⟨(Below.heap_alloc _ _ _<|E.lt h.mr).trans h.rb,E.mine o h.mr,h.VE,h.ro.same λk a=>⟨Below.heap_alloc _ _ _<|E.lt (h.ro.own k a).1,E.mine o (h.ro.own k a).1⟩,by simp;have:=h.size;omega,h.old.own E o λb c _=>Below.heap_alloc _ _ _<|E.lt<|h.old.mine b c⟩,heap_alloc_new w _,E.new h.size o lr<|by simp_all⟩
def HV.z8{K:Cfg}{KT:TypeId->Prop}{R:Wq}{D:World->World->Array Event->Prop}{news:Vq}{g:Nat}(E:Env KT K.N0 (dK K) (jZ K) R D)(h:HV K Ex w₀ Rb u v tk en news g w)(r:R w aK):HV K Ex w₀ Rb u v tk en news g aK:=⟨h.hw.z8 E r,h.src.rely E r⟩
def Lc{R:Wq}{D:World->World->Array Event->Prop}{g:Nat}(E:Env fa (N+9) (dK<|aJ prog N Pb Shun val B Mz) (jZ<|aJ prog N Pb Shun val B Mz) R D){r:Int}(h:HV (aJ prog N Pb Shun val B Mz) Ex w₀ Rb u v tk en (V [r]) g w)(n:tk.length<=1000000)(ty:TypeId) :
  ∃b a,(Builtin.append_ #[173,173] ty #[v,.slice (sq g) 1 1]).run prog w=.ok b a/\HW (aJ prog N Pb Shun val B Mz) Ex w₀ Rb u b (tk++[r]) en a /\
   D w a ((Builtin.append_ #[173,173] ty #[v,.slice (sq g) 1 1]).events prog w #[]) /\
   ∀e∈(Builtin.append_ #[173,173] ty #[v,.slice (sq g) 1 1]).events prog w #[],∀m,e.loc=.mark m->m=.noRoom:=by
 have⟨b,a,l,k,i,c,f,d,j⟩:=Lb E h.hw.size (by simp[fa]) h.hw.old h.hw.ro h.src 173 ty (.int .i32 0) 4 underlying173 kq Y (by simp[V,Value.oneCell']) (by simp[V];unfold maxLen;omega) (by simp[V];omega);refine⟨b,a,l,⟨(f Rb (E.lt h.hw.mr) λe=>h.hw.ro.ne h.hw.rb dq e Y).trans h.hw.rb,E.mine c h.hw.mr,h.hw.VE,?_,lT h.hw.size c.grow,i⟩,d,j⟩;have e1:(tk++[r]).length=tk.length+(V [r]).length:=by simp[V]
 rw[e1,rV];exact k
def KA (rest:Iq)(en:Bool)(i:Ph):Prop:=(en=false/\(i=.front (V rest)\/i=.walk (V rest)))\/(en=true/\i=.over/\rest=[])
def KA.early{i:Ph}(h:KA rest en i):i.early:=by rcases h with ⟨_,rfl|rfl⟩|⟨_,rfl,_⟩<;>exact trivial
variable [ConcR.Payload][ConcX.Payload]
variable [ConcX.Shy (Cfg.Wg<|aJ prog N Pb Shun val B Mz) (Cfg.C<|aJ prog N Pb Shun val B Mz)]
def HW.rely{i:Ph}(E:Env fa (N+9) (dK<|aJ prog N Pb Shun val B Mz) (jZ<|aJ prog N Pb Shun val B Mz) (rK (aJ prog N Pb Shun val B Mz) i) (yT (aJ prog N Pb Shun val B Mz) i))(h:HW (aJ prog N Pb Shun val B Mz) Ex w₀ Rb u v tk en w)(r:rK (aJ prog N Pb Shun val B Mz) i w aK):HW (aJ prog N Pb Shun val B Mz) Ex w₀ Rb u v tk en aK:=HW.z8 E h r
def cv:=@HW.rely
def HV.rely{i:Ph}{news:Vq}{g:Nat}(E:Env fa (N+9) (dK<|aJ prog N Pb Shun val B Mz) (jZ<|aJ prog N Pb Shun val B Mz) (rK (aJ prog N Pb Shun val B Mz) i) (yT (aJ prog N Pb Shun val B Mz) i))(h:HV (aJ prog N Pb Shun val B Mz) Ex w₀ Rb u v tk en news g w)(r:rK (aJ prog N Pb Shun val B Mz) i w aK):HV (aJ prog N Pb Shun val B Mz) Ex w₀ Rb u v tk en news g aK:=HV.z8 E h r
def kB{i:Ph}(F:Cfg.Fit (aJ prog N Pb Shun val B Mz))(h:HW (aJ prog N Pb Shun val B Mz) Ex w₀ Rb u v tk en w)(r:RM (aJ prog N Pb Shun val B Mz) w aK):HW (aJ prog N Pb Shun val B Mz) Ex w₀ Rb u v tk en aK:=HW.z8 (C4 F) h r
def z7{i:Ph}(s:Cfg.Fit (aJ prog N Pb Shun val B Mz))(b:HW (aJ prog N Pb Shun val B Mz) Ex w₀ Rb v v tk false w)(hi:i=.front (V rest)\/i=.walk (V rest))(hn:tk.length<=1000000) :
  gj prog (XM (aJ prog N Pb Shun val B Mz) Az) 203 #[.pointer (sq Rb)] i w (λS _ X=>(∃r l U,rest=r::l/\S=.walk (V l)/\HW (aJ prog N Pb Shun val B Mz) Ex w₀ Rb U U (tk++[r]) false X)\/(rest=[]/\S=.over/\HW (aJ prog N Pb Shun val B Mz) Ex w₀ Rb v v tk true X)):=by
 have C:cG prog true (rK<|aJ prog N Pb Shun val B Mz) (yT<|aJ prog N Pb Shun val B Mz) (XM (aJ prog N Pb Shun val B Mz) Az):=XM.closed (K:=(aJ prog N Pb Shun val B Mz));have T:=uA (K:=(aJ prog N Pb Shun val B Mz));have evp:∀(w:World) (n:Array Event) (a:Addr) (m:Mode) (x:Option Addr),(store a (.pointer x) m).events prog w n=storedEv prog w n a (.pointer x) m:=λw n a m x=>events_store prog w n a _ m rfl;have evl:∀(w:World) (n:Array Event) (a:Addr) (m:Mode) (x:Option Addr) (l c:Nat),(store a (.slice x l c) m).events prog w n=storedEv prog w n a (.slice x l c) m:=λw n a m x l c=>events_store prog w n a _ m rfl;have evb:∀(w:World) (n:Array Event) (a:Addr) (m:Mode) (x:Bool),(store a (.bool x) m).events prog w n=storedEv prog w n a (.bool x) m:=λw n a m x=>events_store prog w n a _ m rfl;have E:Env fa (N+9) (dK<|aJ prog N Pb Shun val B Mz) (jZ<|aJ prog N Pb Shun val B Mz) (rK (aJ prog N Pb Shun val B Mz) i) (yT (aJ prog N Pb Shun val B Mz) i):=C5 (K:=(aJ prog N Pb Shun val B Mz)) s (by rcases hi with rfl|rfl<;>exact trivial);have p:∀(a:Act) (o:Oper) w,o.op=.select #[{ chan:=.tmp 6,send:=none,elem:=21 },{ chan:=.tmp 10,send:=none,elem:=160 }] true->a.eval (.tmp 6)=.chan (some<|N+2)->a.eval (.tmp 10)=.chan (some<|N+4)->(execOp a.eval o).run prog w=.ok (.comm (Cfg.cases<|aJ prog N Pb Shun val B Mz) true .select) w/\(execOp a.eval o).events prog w #[]=#[]:=by
  intro a o w R I J;simp only[Act.eval,Jw] at I J;constructor
  .unfold execOp;simp[R,I,J,Cfg.cases,aJ,rcase,zeroValue21,zeroValue160,go_sem]
  .unfold execOp;simp[R,I,J,zeroValue21,go_sem]
 have D:∀r,commResult (Cfg.cases<|aJ prog N Pb Shun val B Mz) .select 0 (.int .i32 r) true=.tuple #[.int .i64 0,.bool true,.int .i32 r,.agg #[]]:=λr=>by simp[commResult,Cfg.cases,aJ,rcase,goInt]
 have F:commResult (Cfg.cases<|aJ prog N Pb Shun val B Mz) .select 1 (Cfg.zE<|aJ prog N Pb Shun val B Mz) false=.tuple #[.int .i64 1,.bool false,.int .i32 0,.agg #[]]:=by simp[commResult,Cfg.cases,aJ,rcase,goInt]
 refine jw func203 rq rfl ?_;simp only[ntmps203,bZ,Nat.reduceAdd,Nat.reduceSub];iterate 2 refine cu C T ?_
 refine bv C T ?_;simp only[jb,Nat.reduceAdd];iterate 4
  refine aM C rfl rq λ_ g j d=>?_
  replace b:=cv E b g
  clear g
  have k:=b.cells
  go_simp
  try (unfold stored;go_simp)
  refine d _ _ ⟨?_,?_⟩
  .first|(rw[listed_nil];exact Terms.idle (T _) _;first|(simp[go_sem];done)|(simp[go_sem, *];done))|(refine fh E b.size ?_;co_evs (exact fW rfl b.mr))
  clear d j;try walk_nrm
  clear k
 refine bO C T ?_;show iO _ _ _ _ _ _ _;refine bv C T ?_;simp only[jb,Nat.reduceAdd];iterate 4
  refine aM C rfl rq λ_ g j d=>?_
  replace b:=cv E b g
  clear g
  have k:=b.cells
  go_simp
  try (unfold stored;go_simp)
  refine d _ _ ⟨?_,?_⟩
  .first|(rw[listed_nil];exact Terms.idle (T _) _;first|(simp[go_sem];done)|(simp[go_sem, *];done))|(refine fh E b.size ?_;co_evs (exact fW rfl b.mr))
  clear d j;try walk_nrm
  clear k
 refine bO C T ?_;show iO _ _ _ _ _ _ _;simp only[show Cfg.A (aJ prog N Pb Shun val B Mz)=N+2 from rfl,show Cfg.E (aJ prog N Pb Shun val B Mz)=N+4 from rfl];refine cu C T<|bv C T ?_;simp only[jb,Nat.reduceAdd];by_cases L:rest=[]
 .obtain rfl:rest=[]:=L;refine MY hi rfl rq (λw=>(p _ _ w rfl rfl rfl).1) (λw=>(p _ _ w rfl rfl rfl).2) λH q hs=>?_;replace b:=kB (i:=.over) s b q;clear hi E;have E:Env fa (N+9) (dK<|aJ prog N Pb Shun val B Mz) (jZ<|aJ prog N Pb Shun val B Mz) (rK (aJ prog N Pb Shun val B Mz) .over) (yT (aJ prog N Pb Shun val B Mz) .over):=C5 (K:=(aJ prog N Pb Shun val B Mz)) s trivial;simp only[F];try walk_nrm
  iterate 3
   refine aM C rfl rq λ_ g j d=>?_
   replace b:=cv E b g
   clear g
   have k:=b.cells
   go_simp
   try (unfold stored;go_simp)
   refine d _ _ ⟨?_,?_⟩
   .first|(rw[listed_nil];exact Terms.idle (T _) _;first|(simp[go_sem];done)|(simp[go_sem, *];done))|(refine fh E b.size ?_;co_evs (exact fW rfl b.mr))
   clear d j;try walk_nrm
   clear k
  refine bO C T ?_;show iO _ _ _ _ _ _ _;refine jC C T<|fT C T (t:=false) rfl ?_;simp only[if_false,lI];refine fT C T (t:=true) rfl ?_;simp only[if_true];refine bv C T ?_;simp only[jb,Nat.reduceAdd];iterate 3
   refine aM C rfl rq λ_ g j d=>?_
   replace b:=cv E b g
   clear g
   have k:=b.cells
   go_simp
   try (unfold stored;go_simp)
   refine d _ _ ⟨?_,?_⟩
   .first|(rw[listed_nil];exact Terms.idle (T _) _;first|(simp[go_sem];done)|(simp[go_sem, *];done))|(refine fh E b.size ?_;co_evs (exact fW rfl b.mr))
   clear d j;try walk_nrm
   clear k
  refine aM C rfl rq λ_ g j d=>?_;replace b:=cv E b g;clear g;have k:=b.cells;go_simp;try (unfold stored;go_simp)
  refine d _ _ ⟨?_,?_⟩
  .exact AP E b.size (b.F7 _ _)<|by co_evs (exact fW rfl b.mr)
  clear d j;try walk_nrm
  clear k;replace b:=b.Y1 s 3 (.bool true) v true rfl;exact bO C T ⟨.inl rfl,rfl,_,resultsC_none rq _,.inr ⟨by first|rfl|trivial,rfl,b⟩⟩
 .obtain⟨r,z,rfl⟩:∃r z,rest=r::z:=by cases rest with|nil=>exact absurd rfl L|cons r t=>exact⟨r,t,rfl⟩
  refine DR (v:=.int .i32 r) (vs:=V z) hi rfl rq (λw=>(p _ _ w rfl rfl rfl).1) (λw=>(p _ _ w rfl rfl rfl).2) λH q hs=>?_;replace b:=kB (i:=.over) s b q;clear hi E L;have E:Env fa (N+9) (dK<|aJ prog N Pb Shun val B Mz) (jZ<|aJ prog N Pb Shun val B Mz) (rK (aJ prog N Pb Shun val B Mz)<|.walk<|V z) (yT (aJ prog N Pb Shun val B Mz)<|.walk<|V z):=C5 (K:=(aJ prog N Pb Shun val B Mz)) s trivial;simp only[D];try walk_nrm
  iterate 3
   refine aM C rfl rq λ_ g j d=>?_
   replace b:=cv E b g
   clear g
   have k:=b.cells
   go_simp
   try (unfold stored;go_simp)
   refine d _ _ ⟨?_,?_⟩
   .first|(rw[listed_nil];exact Terms.idle (T _) _;first|(simp[go_sem];done)|(simp[go_sem, *];done))|(refine fh E b.size ?_;co_evs (exact fW rfl b.mr))
   clear d j;try walk_nrm
   clear k
  refine bO C T ?_;show iO _ _ _ _ _ _ _;refine jC C T<|fT C T (t:=true) rfl ?_;simp only[if_true];refine cu C T<|bv C T ?_;simp only[jb,Nat.reduceAdd];iterate 2
   refine aM C rfl rq λ_ g j d=>?_
   replace b:=cv E b g
   clear g
   have k:=b.cells
   go_simp
   try (unfold stored;go_simp)
   refine d _ _ ⟨?_,?_⟩
   .first|(rw[listed_nil];exact Terms.idle (T _) _;first|(simp[go_sem];done)|(simp[go_sem, *];done))|(refine fh E b.size ?_;co_evs (exact fW rfl b.mr))
   clear d j;try walk_nrm
   clear k
  refine bO C T ?_;show iO _ _ _ _ _ _ _;refine bv C T ?_;simp only[jb,Nat.reduceAdd];iterate 6
   refine aM C rfl rq λ_ g j d=>?_
   replace b:=cv E b g
   clear g
   have k:=b.cells
   go_simp
   try (unfold stored;go_simp)
   refine d _ _ ⟨?_,?_⟩
   .first|(rw[listed_nil];exact Terms.idle (T _) _;first|(simp[go_sem];done)|(simp[go_sem, *];done))|(refine fh E b.size ?_;co_evs (exact fW rfl b.mr))
   clear d j;try walk_nrm
   clear k
  refine aM C rfl rq λ_ g j d=>?_;replace b:=cv E b g;clear g;go_simp;try (unfold stored;go_simp)
  refine d _ _ ⟨?_,?_⟩
  .refine AP E b.size (eB<|by simp[fa]) ?_;co_evs (skip)
  clear d j;try walk_nrm
  replace b:=b.built s<|V [r];refine aM C rfl rq λ_ g j d=>?_;replace b:=HV.rely E b g;clear g;have⟨W,Y,u,y,Q,G⟩:=Lc E b hn 173;refine uponK_append (Operand.tmp 20) (Operand.tmp 22) 173 rfl rfl rfl u<|d _ _ ⟨?_,?_⟩
  .have M:=seen_eq (P:=prog) (fn:=203) kq (λe he f h=>by cases G e he _ h);unfold listed;rw[events_append_op (Operand.tmp 20) (Operand.tmp 22) 173 rfl rfl rfl];exact(congrArg (yT (aJ prog N Pb Shun val B Mz) _ _ _) M).mpr Q
  clear d j u Q G;replace b:=y;try walk_nrm
  obtain⟨Z,O,rfl⟩:=b.slice;iterate 2
   refine aM C rfl rq λ_ g j d=>?_
   replace b:=cv E b g
   clear g
   have k:=b.cells
   go_simp
   try (unfold stored;go_simp)
   refine d _ _ ⟨?_,?_⟩
   .first|(rw[listed_nil];exact Terms.idle (T _) _;first|(simp[go_sem];done)|(simp[go_sem, *];done))|(refine fh E b.size ?_;co_evs (exact fW rfl b.mr))
   clear d j;try walk_nrm
   clear k
  refine aM C rfl rq λ_ g j d=>?_;replace b:=cv E b g;clear g;have k:=b.cells;go_simp;try (unfold stored;go_simp)
  refine d _ _ ⟨?_,?_⟩
  .exact AP E b.size (b.F7 _ _)<|by co_evs (exact fW rfl b.mr)
  clear d j;try walk_nrm
  clear k;replace b:=b.Y1 s 2 (.slice Z (tk++[r]).length O) (.slice Z (tk++[r]).length O) false rfl;rw[show(tk++[r]).length=tk.length+1 by simp] at b;exact bO C T ⟨.inl rfl,rfl,_,resultsC_none rq _,.inl ⟨r,z,_,by first|rfl|trivial,rfl,b⟩⟩
end
section
variable [ConcR.Payload][ConcX.Payload]
variable [ConcX.Shy (Cfg.Wg<|aJ prog N Pb Shun val B Mz) (Cfg.C<|aJ prog N Pb Shun val B Mz)]
def KL (rest:Iq)(en:Bool):Nat:=rest.length+if en then 0 else 1
theorem OO{i:Ph}(Fi:Cfg.Fit (aJ prog N Pb Shun val B Mz))(all:Iq)(mT:tk++rest=all)(hn:all.length<=1000000)(hF:HW (aJ prog N Pb Shun val B Mz) Ex w₀ Rb v v tk en w)(sy:KA rest en i) :
  gj prog (XM (aJ prog N Pb Shun val B Mz) Az) 114 #[.pointer (sq Rb)] i w (λi' _ w'=>i'=.over/\∃v',HW (aJ prog N Pb Shun val B Mz) Ex w₀ Rb v' v' all true w'):=by
 have C:cG prog true _ _ (XM _ Az):=XM.closed (K:=(aJ prog N Pb Shun val B Mz));have T:=uA (K:=(aJ prog N Pb Shun val B Mz));refine jw func114 rq Y ?_;refine jC C T<|EC C T (λm i a w=>∃v tk rest en,m=KL rest en/\KA rest en i/\HW _ Ex w₀ Rb v v tk en w/\tk++rest=all/\∃x2 x3 x4 x5 x6 x7 x8,a=⟨#[.pointer (sq Rb),undef,x2,x3,x4,x5,x6,x7,x8],[]⟩) (KL rest en) ⟨v,tk,rest,en,Y,sy,hF,mT,_,_,_,_,_,_,_,Y⟩ ?_;clear hF sy mT;rintro m i a w ⟨v,tk,rest,en,rfl,sy,hF,mT,x2,x3,x4,x5,x6,x7,x8,rfl⟩;have E:=C5 Fi sy.early;have O7:tk.length<=1000000:=gq
 rcases sy with ⟨rfl,hi⟩|⟨rfl,rfl,rfl⟩
 .refine cu C T<|cu C T<|bv C T ?_;simp only[jb,Nat.reduceAdd];iterate 5
   refine aM C Y rq λ_ hR Kx dX=>?_
   replace hF:=cv E hF hR
   clear hR
   have hc:=hF.cells
   go_simp
   try (unfold stored;go_simp)
   refine dX _ _ ⟨?_,?_⟩
   .first|(rw[listed_nil];exact Terms.idle (T _) _;first|(simp[go_sem];done)|(simp[go_sem, *];done))|(refine fh E hF.size ?_;co_evs (exact fW Y hF.mr))
   clear dX Kx;try walk_nrm
   clear hc
  refine bO C T ?_;refine fT C T (t:=true) Y ?_;simp only[if_true];refine nP C T ?_;refine jC C T<|bv C T ?_;simp only[jb,Nat.reduceAdd];refine aM C Y rq λ_ hR Kx dX=>?_;replace hF:=cv E hF hR;clear hR;go_simp;try (unfold stored;go_simp)
  refine dX _ _ ⟨?_,?_⟩
  .co_quiet (T _)
  clear dX Kx;try walk_nrm
  refine mf C T Y rq Y Y (by simp[Act.eval]) Y (z7 Fi hF hi O7) ?_;rintro _ _ _ (⟨r,l,v2,rfl,rfl,hF⟩|⟨rfl,rfl,hF⟩)
  .exact bO C T ⟨KL l false,by simp[KL],v2,_,l,false,Y,.inl ⟨Y,.inr Y⟩,hF,by rw[<-mT];simp,_,_,_,_,_,_,_,Y⟩
  .exact bO C T ⟨KL [] true,by simp[KL],v,_,[],true,Y,.inr ⟨Y,Y,Y⟩,hF,mT,_,_,_,_,_,_,_,Y⟩
 .refine cu C T<|cu C T<|bv C T ?_;simp only[jb,Nat.reduceAdd];iterate 5
   refine aM C Y rq λ_ hR Kx dX=>?_
   replace hF:=cv E hF hR
   clear hR
   have hc:=hF.cells
   go_simp
   try (unfold stored;go_simp)
   refine dX _ _ ⟨?_,?_⟩
   .first|(rw[listed_nil];exact Terms.idle (T _) _;first|(simp[go_sem];done)|(simp[go_sem, *];done))|(refine fh E hF.size ?_;co_evs (exact fW Y hF.mr))
   clear dX Kx;try walk_nrm
   clear hc
  refine bO C T ?_;refine fT C T (t:=false) Y ?_;simp only[if_false,lI];refine tF C T ?_;simp only[lZ,Ak,if_true];rw[List.append_nil] at mT;subst mT;refine⟨.inl ?_,?_,_,resultsC_none rq _,?_,_,hF⟩<;>first|rfl|trivial
theorem aaK{i:Ph}(Fi:Cfg.Fit (aJ prog N Pb Shun val B Mz))(all:Iq)(place:Nat)(mT:tk++rest=all)(hn:all.length<=1000000)(hF:HW (aJ prog N Pb Shun val B Mz) Ex w₀ Rb v v tk en w)(sy:KA rest en i) :
  gj prog (XM (aJ prog N Pb Shun val B Mz) Az) 146 #[.pointer (sq Rb),.int .i64 (place:Int)] i w (λi' x w'=>x=.int .i32 (all[place]?.getD (-1))/\∃v' Va D7 SA,Va++D7=all/\KA D7 SA i'/\HW (aJ prog N Pb Shun val B Mz) Ex w₀ Rb v' v' Va SA w'):=by
 have C:cG prog true (rK<|aJ prog N Pb Shun val B Mz) (yT<|aJ prog N Pb Shun val B Mz) (XM (aJ prog N Pb Shun val B Mz) Az):=XM.closed (K:=(aJ prog N Pb Shun val B Mz));have T:=uA (K:=(aJ prog N Pb Shun val B Mz));have lns:∀x n c w es,(Builtin.len_ #[173] 3 #[.slice x n c]).events prog w es=es:=λx n c w es=>by simp[Builtin.len_,go_sem]
 have E:Env fa (N+9) (dK<|aJ prog N Pb Shun val B Mz) (jZ<|aJ prog N Pb Shun val B Mz) (rK (aJ prog N Pb Shun val B Mz) i) (yT (aJ prog N Pb Shun val B Mz) i):=C5 (K:=(aJ prog N Pb Shun val B Mz)) Fi sy.early;refine jw func146 rq Y ?_;simp only[ntmps146,bZ,Nat.reduceAdd,Nat.reduceSub];refine cu C T<|bv C T ?_;simp only[jb];refine aM C Y rq λ_ hR Kx dX=>?_;replace hF:=cv E hF hR;clear hR;go_simp;try (unfold stored;go_simp)
 refine dX _ _ ⟨?_,?_⟩
 .co_quiet (T _)
 clear dX Kx;try walk_nrm
 refine bO C T ?_;show iO _ _ _ _ _ _ _;refine cu C T<|jC C T ?_;clear E;refine EC C T (λm i a w=>∃v tk rest en,m=KL rest en/\KA rest en i/\HW (aJ prog N Pb Shun val B Mz) Ex w₀ Rb v v tk en w/\tk++rest=all/\∃x5 x6 x7 x8 x9 x10 x11 x12 x13 x14 x15 x16 Zo Zp Zq Zr,a=⟨#[.pointer (sq Rb),.int .i64 (place:Int),undef,undef,.int .i32 0,x5,x6,x7,x8,x9,x10,x11,x12,x13,x14,x15,x16,Zo,Zp,Zq,Zr,undef,undef,undef,undef,undef,undef,undef,undef,undef,undef,undef,undef,undef,undef],[]⟩) (KL rest en) ⟨v,tk,rest,en,Y,sy,hF,mT,_,_,_,_,_,_,_,_,_,_,_,_,_,_,_,_,Y⟩ ?_;clear hF sy mT;rintro m i a w ⟨v,tk,rest,en,rfl,sy,hF,mT,x5,x6,x7,x8,x9,x10,x11,x12,x13,x14,x15,x16,Zo,Zp,Zq,Zr,rfl⟩;have E:Env fa (N+9) (dK<|aJ prog N Pb Shun val B Mz) (jZ<|aJ prog N Pb Shun val B Mz) (rK (aJ prog N Pb Shun val B Mz) _) (yT (aJ prog N Pb Shun val B Mz) _):=C5 (K:=(aJ prog N Pb Shun val B Mz)) Fi sy.early;have O7:tk.length<=1000000:=gq
 obtain⟨x1,c1,rfl⟩:=hF.slice;by_cases Tz:place<tk.length
 .have hb:decide ((tk.length:Int)<=(place:Int))=false:=fD oq;have Cm:decide (tk.length<=place)=false:=fD oq;iterate 2 refine cu C T ?_
  refine bv C T ?_;simp only[jb,Nat.reduceAdd];iterate 7
   refine aM C Y rq λ_ hR Kx dX=>?_
   replace hF:=cv E hF hR
   clear hR
   have hc:=hF.cells
   go_simp
   try (unfold stored;go_simp)
   refine dX _ _ ⟨?_,?_⟩
   .first|(rw[listed_nil];exact Terms.idle (T _) _;first|(simp[go_sem];done)|(simp[go_sem, *];done))|(refine fh E hF.size ?_;co_evs (exact fW Y hF.mr))
   clear dX Kx;try walk_nrm
   clear hc
  try simp only[hb,Cm]
  refine aM C Y rq λ_ hR Kx dX=>?_;replace hF:=cv E hF hR;clear hR;go_simp;try (unfold stored;go_simp)
  refine dX _ _ ⟨?_,?_⟩
  .co_quiet (T _)
  clear dX Kx;iterate 5
   try walk_nrm
   refine je C T Y rq ?_
  try walk_nrm
  refine aM C Y rq λ_ hR Kx dX=>?_;replace hF:=cv E hF hR;clear hR;go_simp;try (unfold stored;go_simp)
  refine dX _ _ ⟨?_,?_⟩
  .co_quiet (T _)
  clear dX Kx;try walk_nrm
  refine bO C T ?_;show iO _ _ _ _ _ _ _;refine fT C T (t:=false) Y ?_;simp only[if_false,lI];refine tF C T ?_;simp only[lZ,Ak,if_true];show iO _ _ _ _ _ _ _;iterate 2 refine cu C T ?_
  refine bv C T ?_;simp only[jb,Nat.reduceAdd];iterate 7
   refine aM C Y rq λ_ hR Kx dX=>?_
   replace hF:=cv E hF hR
   clear hR
   have hc:=hF.cells
   go_simp
   try (unfold stored;go_simp)
   refine dX _ _ ⟨?_,?_⟩
   .first|(rw[listed_nil];exact Terms.idle (T _) _;first|(simp[go_sem];done)|(simp[go_sem, *];done))|(refine fh E hF.size ?_;co_evs (exact fW Y hF.mr))
   clear dX Kx;try walk_nrm
   clear hc
  refine bO C T ?_;show iO _ _ _ _ _ _ _;try simp only[hb,Cm]
  refine fT C T (t:=false) Y ?_;simp only[if_false,lI];refine nP C T ?_;show iO _ _ _ _ _ _ _;refine cu C T ?_;obtain⟨g,rfl⟩:∃g,x1=some ⟨g,0,none⟩:=by
   rcases hF.ro.row.2 with ⟨_,z⟩|⟨g,cap,cur,z,_⟩
   .omega
   .cases z;exact⟨g,Y⟩
  have zC:∀w,HW (aJ prog N Pb Shun val B Mz) Ex w₀ Rb (.slice (sq g) tk.length c1) (.slice (sq g) tk.length c1) tk en w->w.cell? ⟨g,place,none⟩=some (.int .i32<|all[place]?.getD (-1)):=λw h=>(by rw[show(⟨g,place,none⟩:Addr)=(⟨g,0,none⟩:Addr).add place by unfold Addr.add;split<;>simp_all];exact h.ro.row.cells (g:=g) Y place _<|by rw[<-mT,Cg Tz];simp[V,List.getElem?_map,gE Tz]);refine bv C T ?_;simp only[jb,Nat.reduceAdd];iterate 6
   refine aM C Y rq λ_ hR Kx dX=>?_
   replace hF:=cv E hF hR
   clear hR
   have hc:=hF.cells
   go_simp
   try (unfold stored;go_simp)
   refine dX _ _ ⟨?_,?_⟩
   .first|(rw[listed_nil];exact Terms.idle (T _) _;first|(simp[go_sem];done)|(simp[go_sem, *];done))|(refine fh E hF.size ?_;co_evs (exact fW Y hF.mr))
   clear dX Kx;try walk_nrm
   clear hc
  refine aM C Y rq λ_ hR Kx dX=>?_;replace hF:=cv E hF hR;clear hR;have hc:=zC _ hF;go_simp;try (unfold stored;go_simp)
  refine dX _ _ ⟨?_,?_⟩
  .refine fh E hF.size ?_;co_evs (exact fW Y (hF.ro.own _ Y).1)
  clear dX Kx;try walk_nrm
  clear hc;refine aM C Y rq λ_ hR Kx dX=>?_;replace hF:=cv E hF hR;clear hR;go_simp;try (unfold stored;go_simp)
  refine dX _ _ ⟨?_,?_⟩
  .co_quiet (T _)
  clear dX Kx;try walk_nrm
  refine bO C T ?_;show iO _ _ _ _ _ _ _;exact qq C T ⟨.inr Y,Y,_,resultsC_tmp rq _,Y,_,_,_,_,mT,sy,hF⟩
 .have hb:decide ((tk.length:Int)<=(place:Int))=true:=tD oq;have Cm:decide (tk.length<=place)=true:=tD oq;rcases sy with ⟨rfl,hi⟩|⟨rfl,rfl,rfl⟩
  .refine cu C T<|cu C T<|bv C T ?_;simp only[jb,Nat.reduceAdd];iterate 7
    refine aM C Y rq λ_ hR Kx dX=>?_
    replace hF:=cv E hF hR
    clear hR
    have hc:=hF.cells
    go_simp
    try (unfold stored;go_simp)
    refine dX _ _ ⟨?_,?_⟩
    .first|(rw[listed_nil];exact Terms.idle (T _) _;first|(simp[go_sem];done)|(simp[go_sem, *];done))|(refine fh E hF.size ?_;co_evs (exact fW Y hF.mr))
    clear dX Kx;try walk_nrm
    clear hc
   try simp only[hb,Cm]
   iterate 7
    refine aM C Y rq λ_ hR Kx dX=>?_
    replace hF:=cv E hF hR
    clear hR
    have hc:=hF.cells
    go_simp
    try (unfold stored;go_simp)
    refine dX _ _ ⟨?_,?_⟩
    .first|(rw[listed_nil];exact Terms.idle (T _) _;first|(simp[go_sem];done)|(simp[go_sem, *];done))|(refine fh E hF.size ?_;co_evs (exact fW Y hF.mr))
    clear dX Kx;try walk_nrm
    clear hc
   refine bO C T ?_;show iO _ _ _ _ _ _ _;refine fT C T (t:=true) Y ?_;simp only[if_true];refine nP C T ?_;show iO _ _ _ _ _ _ _;refine jC C T<|bv C T ?_;simp only[jb,Nat.reduceAdd];refine aM C Y rq λ_ hR Kx dX=>?_;replace hF:=cv E hF hR;clear hR;go_simp;try (unfold stored;go_simp)
   refine dX _ _ ⟨?_,?_⟩
   .co_quiet (T _)
   clear dX Kx;try walk_nrm
   refine mf C T Y rq Y Y (by simp[Act.eval]) Y (z7 Fi hF hi O7) ?_;rintro _ _ _ (⟨r,l,v2,rfl,rfl,hF⟩|⟨rfl,rfl,hF⟩)
   .exact bO C T ⟨KL l false,by simp[KL],v2,_,l,false,Y,.inl ⟨Y,.inr Y⟩,hF,by rw[<-mT];simp,_,_,_,_,_,_,_,_,_,_,_,_,_,_,_,_,Y⟩
   .exact bO C T ⟨KL [] true,by simp[KL],_,_,[],true,Y,.inr ⟨Y,Y,Y⟩,hF,mT,_,_,_,_,_,_,_,_,_,_,_,_,_,_,_,_,Y⟩
  .have sy:KA [] true .over:=.inr ⟨Y,Y,Y⟩;iterate 2 refine cu C T ?_
   refine bv C T ?_;simp only[jb,Nat.reduceAdd];iterate 7
    refine aM C Y rq λ_ hR Kx dX=>?_
    replace hF:=cv E hF hR
    clear hR
    have hc:=hF.cells
    go_simp
    try (unfold stored;go_simp)
    refine dX _ _ ⟨?_,?_⟩
    .first|(rw[listed_nil];exact Terms.idle (T _) _;first|(simp[go_sem];done)|(simp[go_sem, *];done))|(refine fh E hF.size ?_;co_evs (exact fW Y hF.mr))
    clear dX Kx;try walk_nrm
    clear hc
   try simp only[hb,Cm]
   iterate 7
    refine aM C Y rq λ_ hR Kx dX=>?_
    replace hF:=cv E hF hR
    clear hR
    have hc:=hF.cells
    go_simp
    try (unfold stored;go_simp)
    refine dX _ _ ⟨?_,?_⟩
    .first|(rw[listed_nil];exact Terms.idle (T _) _;first|(simp[go_sem];done)|(simp[go_sem, *];done))|(refine fh E hF.size ?_;co_evs (exact fW Y hF.mr))
    clear dX Kx;try walk_nrm
    clear hc
   refine bO C T ?_;show iO _ _ _ _ _ _ _;refine fT C T (t:=false) Y ?_;simp only[if_false,lI];refine tF C T ?_;simp only[lZ,Ak,if_true];show iO _ _ _ _ _ _ _;iterate 2 refine cu C T ?_
   refine bv C T ?_;simp only[jb,Nat.reduceAdd];iterate 7
    refine aM C Y rq λ_ hR Kx dX=>?_
    replace hF:=cv E hF hR
    clear hR
    have hc:=hF.cells
    go_simp
    try (unfold stored;go_simp)
    refine dX _ _ ⟨?_,?_⟩
    .first|(rw[listed_nil];exact Terms.idle (T _) _;first|(simp[go_sem];done)|(simp[go_sem, *];done))|(refine fh E hF.size ?_;co_evs (exact fW Y hF.mr))
    clear dX Kx;try walk_nrm
    clear hc
   refine bO C T ?_;show iO _ _ _ _ _ _ _;try simp only[hb,Cm]
   refine fT C T (t:=true) Y ?_;simp only[if_true];refine cu C T<|bv C T ?_;simp only[jb];refine aM C Y rq λ_ hR Kx dX=>?_;replace hF:=cv E hF hR;clear hR;go_simp;try (unfold stored;go_simp)
   refine dX _ _ ⟨?_,?_⟩
   .co_quiet (T _)
   clear dX Kx;try walk_nrm
   refine bO C T ?_;show iO _ _ _ _ _ _ _;refine qq C T ⟨.inr Y,Y,_,resultsC_tmp rq _,?_,_,_,_,_,mT,sy,hF⟩;rw[<-mT,List.getElem?_eq_none<|by simp;omega];rfl
end
def Ed (c:CS)(d:DS):Iq->CS × DS × Iq
 | []=>(c,d,[])
 | b::l=>((Ed (bM c (fv d b).2).1 (fv d b).1 l).1,(Ed (bM c (fv d b).2).1 (fv d b).1 l).2.1,(bM c (fv d b).2).2++(Ed (bM c (fv d b).2).1 (fv d b).1 l).2.2)
def bytesOf(s:ByteArray):Iq:=s.data.toList.map λb=>(b.toNat:Int)
def dT(c:CS)(d:DS)(l:Iq):Iq:=(Ed c d l).2.2++(bM (Ed c d l).1 (jD (Ed c d l).2.1).2).2
def kM(l:List ByteArray):Iq:=dT ⟨false,false⟩ ⟨0,0,0,0⟩<|l.flatMap bytesOf
def cJ(s:ByteArray):Iq:=dT ⟨false,false⟩ ⟨0,0,0,0⟩<|bytesOf s
def lh(c:CS)(d:DS):dT c d []=(bM c (jD d).2).2:=by simp[dT,Ed]
def kn(c:CS)(d:DS)(b:Int)(l:Iq):dT c d (b::l)=(bM c (fv d b).2).2++dT (bM c (fv d b).2).1 (fv d b).1 l:=by simp[dT,Ed]
def Ds{l:List ByteArray}{s:ByteArray}(h:l.flatMap bytesOf=bytesOf s):kM l=cJ s:=by unfold kM cJ;rw[h]
theorem oV.at{Pb:Nat}{cp:K1}{w:World}{ad:Option Addr}{m c k:Nat}{p:ByteArray}(h:oV Pb cp w)(f:cp.v=.slice ad m c)(d:cp.l[k]?=some p):∃a,ad=some ⟨Pb,a,none⟩/\w.cell? ⟨Pb,a+k,none⟩=some (.string p):=by have⟨U,b,e,h⟩:=h;grind
structure HP(N Pb:Nat)(cp:K1)(k c1 c2:Nat)(x1 x2:Aq)(w:World):Prop where
 lv:w.heap[N+3]?=some (.cells #[.chan (some<|N+2)] 158)
 ps:oV Pb cp w
 lo:Pb<N+9
 bf:∃o,w.heap[N+8]?=some o
 cl:1<=k->w.heap[c1]?=some (.cells x1 177)
 h1:1<=k->N+9<=c1
 de:2<=k->w.heap[c2]?=some (.cells x2 179)
 h2:2<=k->N+9<=c2/\c1≠c2
 pc:w.heap[N]?=some (.cells #[cp.v] 62)
 wb:w.heap[N+7]?=some (.cells #[.pointer (some ⟨N+6,0,none⟩)] 240)
section
variable [ConcR.Payload][ConcX.Payload]
variable {k:Nat}{x1 x2:Aq}
theorem HP.size(h:HP N Pb cp k c1 c2 x1 x2 w):N+9<=w.heap.size:=by have⟨o,U⟩:=h.bf;grind
section
variable (h:HP N Pb cp k c1 c2 x1 x2 w)
def HP.rc(r:RC (aJ prog N Pb Shun val B Mz) w aK):HP N Pb cp k c1 c2 x1 x2 aK:=by exact⟨(r _<|.inr<|.inr<|.inl Y).trans h.lv,h.ps.of<|r Pb<|i3<|i3 Y,h.lo,h.bf.imp λ_ b=>(r _<|i3<|.inr<|.inr<|.inl Y).trans b,λa=>(r _<|.inl<|.inr ⟨h.h1 a,_,h.cl a,.inl Y⟩).trans<|h.cl a,h.h1,λa=>(r _<|.inl<|.inr ⟨(h.h2 a).1,_,h.de a,.inr<|.inl Y⟩).trans<|h.de a,h.h2,(r _<|.inl<|.inl Y).trans h.pc,(r _<|i3<|.inr<|.inl Y).trans h.wb⟩
def HP.rely{i:Ix}(r:vq (aJ prog N Pb Shun val B Mz) i w aK):HP N Pb cp k c1 c2 x1 x2 aK:=h.rc r.rc
def gu:=@HP.rely
end
def cX(w:World)(o:Obj){b:Nat}(h:b<w.heap.size):(w.alloc o).heap[b]?=w.heap[b]?:=Below.heap_alloc _ _ _ h
def HP.So(h:HP N Pb cp 0 c1 c2 x1 x2 w)(c:Aq):∃c1,c1=w.heap.size/\HP N Pb cp 1 c1 c2 c x2 (w.alloc<|.cells c 177):=by have hs:=h.size;refine⟨_,Y,(cX _ _ oq).trans h.lv,h.ps.of<|cX _ _<|by have:=h.lo;omega,h.lo,h.bf.imp λ_ ho=>(cX _ _ oq).trans ho,λ_=>heap_alloc_new w<|.cells c 177,λ_=>hs,λh2=>oq,λh2=>oq,(cX _ _ oq).trans h.pc,(cX _ _ oq).trans h.wb⟩
def HP.Sp(h:HP N Pb cp 1 c1 c2 x1 x2 w)(c:Aq):∃c2,c2=w.heap.size/\HP N Pb cp 2 c1 c2 x1 c (w.alloc<|.cells c 179):=by have hs:=h.size;have mH:=(oF.1<|h.cl oq).1;refine⟨_,Y,(cX _ _ oq).trans h.lv,h.ps.of<|cX _ _<|by have:=h.lo;omega,h.lo,h.bf.imp λ_ ho=>(cX _ _ oq).trans ho,λ_=>(cX _ _ mH).trans<|h.cl oq,λ_=>h.h1 oq,λ_=>heap_alloc_new w<|.cells c 179,λ_=>⟨hs,oq⟩,(cX _ _ oq).trans h.pc,(cX _ _ oq).trans h.wb⟩
def eH(w:World){g b:Nat}(cs:Aq)(h:b≠g):(w.setRow g cs).heap[b]?=w.heap[b]?:=by simp[World.setRow,LZ,Ne.symm h]
theorem HP.UR(h:HP N Pb cp k c1 c2 x1 x2 w)(U:1<=k)(c:Aq):HP N Pb cp k c1 c2 c x2 (w.setRow c1 c):=by have a:=h.lo;have h1:=h.h1 U;exact⟨(eH _ _ oq).trans h.lv,h.ps.of<|eH _ _ gq,h.lo,h.bf.imp λ_ b=>(eH _ _ oq).trans b,λ_=>setRow_heap w _ _ _ _ _<|h.cl U,h.h1,λz=>(eH _ _<|Ne.symm (h.h2 z).2).trans<|h.de z,h.h2,(eH _ _ oq).trans h.pc,(eH _ _ oq).trans h.wb⟩
theorem HP.US(h:HP N Pb cp k c1 c2 x1 x2 w)(U:2<=k)(c:Aq):HP N Pb cp k c1 c2 x1 c (w.setRow c2 c):=by have a:=h.lo;have h2:=h.h2 U;exact⟨(eH _ _ oq).trans h.lv,h.ps.of<|eH _ _ gq,h.lo,h.bf.imp λ_ b=>(eH _ _ oq).trans b,λz=>(eH _ _ h2.2).trans<|h.cl z,h.h1,λ_=>setRow_heap w _ _ _ _ _<|h.de U,h.h2,(eH _ _ oq).trans h.pc,(eH _ _ oq).trans h.wb⟩
def HP.hc(h:HP N Pb cp 2 c1 c2 #[jA N,.bool false,.bool false] #[qA c1,.int .i32 0,.int .i64 0,.int .u8 0,.int .u8 0] w):HC N Pb cp c1 c2 ⟨false,false⟩ ⟨0,0,0,0⟩ w:=⟨h.lv,h.cl oq,h.de oq,h.pc,h.wb,h.h1 oq,(h.h2 oq).1,(h.h2 oq).2,h.ps,h.lo⟩
def CX{es:Array Event}{cs:Aq}{t:TypeId}(hs:N+9<=w.heap.size)(ht:t=177\/t=179\/False)(h:∀e∈es,R7 (aJ prog N Pb Shun val B Mz) (w.alloc<|.cells cs t) e):DK (aJ prog N Pb Shun val B Mz) w (w.alloc<|.cells cs t) es:=by
 refine⟨Y,Y,Y,λb c _=>cX _ _ c,λb c=>?_,λb h1 h2=>?_,cX _ _<|by show N<_;omega,by simp,h⟩
 .rcases c with z|⟨z,o',z1,z2⟩
  .exact .inl z
  .exact .inr ⟨z,o',(cX _ _ (oF.1 z1).1).trans z1,z2⟩
 .have:b=w.heap.size:=by simp at h2;omega
  subst this;exact .inr ⟨hs,_,heap_alloc_new w (Obj.cells cs t),ht⟩
def LH{es:Array Event}{g:Nat}{cs old:Aq}{t:TypeId}(c:w.heap[g]?=some (.cells old t))(a:N+9<=g)(d:t=177\/t=179\/False)(h:∀e∈es,R7 (aJ prog N Pb Shun val B Mz) (w.setRow g cs) e):DK (aJ prog N Pb Shun val B Mz) w (w.setRow g cs) es:=by
 have j:(w.setRow g cs).heap.size=w.heap.size:=iq
 refine⟨Y,Y,Y,λk _ i=>eH _ _ ?_,λb f=>?_,λb h1 h2=>absurd h1 oq,eH _ _<|by show N≠g;omega,oq,h⟩
 .rintro rfl;exact i<|.inr ⟨a,_,c,d⟩
 .by_cases e:b=g
  .subst e;exact .inr ⟨a,_,setRow_heap w _ _ _ _ _ c,d⟩
  .exact f.of_same<|eH _ _ e
def Af{P:Program}{w:World}{o:Oper}{a:Act}{ty t:TypeId}{x y:Operand}{g:Nat}{old cells:Aq}(c:o.op=.store ty x y)(h:a.eval x=.pointer (sq g))(i:a.eval y=.agg cells)
 (e:w.heap[g]?=some (.cells old t (0,0)))(hi:(P.info? ty).map (·.size)=some cells.size)(f:old.size=cells.size)(h1:cells.all (·.oneCell')=true) :
  (execOp a.eval o).run P w=.ok .skip (w.setRow g cells)/\∀d∈(execOp a.eval o).events P w #[],∃o,d=⟨.cell ⟨g,o,none⟩,true,false⟩:=by
 constructor
 .unfold execOp;simp[c,h,i,Instr.storeAt,Instr.sureAddr,run_storeVar_row w g t ty old cells e hi f h1]
 .intro d b;unfold execOp at b;simp only[c,h,i] at b;refine BS w g t ty old cells e hi f h1 d ?_;simpa[Instr.storeAt,Instr.sureAddr] using b
def UK(b:HP N Pb cp 0 0 0 #[] #[] w)(hz:∀p∈cp.l,p.size<=9223372036854775806)(Rs:cp.l.length<=9223372036854775806)(vs:Vq) :
  jG prog (XK<|aJ prog N Pb Shun val B Mz) 63 #[cp.v,jA N] (true,V (kM cp.l)++vs) w (λi' _ w'=>i'=((kM cp.l).isEmpty,vs)/\∃f M c d,HC N Pb cp f M c d w'):=by
 have⟨ad,cc,hv,_⟩:=id b.ps;rw[hv];have C:=cK N Pb Shun val B Mz;have T:=tK N Pb Shun val B Mz;have q:=T (true,[]);have evb:∀(w:World) (h:Array Event) (a:Addr) (m:Mode) (x:Bool),(store a (.bool x) m).events prog w h=storedEv prog w h a (.bool x) m:=λw h a m x=>events_store prog w h a _ m rfl;have Xl:∀w:World,vq (aJ prog N Pb Shun val B Mz) (true,[]) w { w with drawn:=w.drawn+1 }:=xw;have bd1:=λw=>run_build (P:=prog) w 177 #[(0,jA N)] #[jA N,.bool false,.bool false] kq;have be1:=λw h=>lx (P:=prog) w 177 #[(0,jA N)] #[jA N,.bool false,.bool false] kq h;have bd2:=λf w=>run_build (P:=prog) w 179 #[(0,qA f)] #[qA f,.int .i32 0,.int .i64 0,.int .u8 0,.int .u8 0] kq;have be2:=λf w h=>lx (P:=prog) w 179 #[(0,qA f)] #[qA f,.int .i32 0,.int .i64 0,.int .u8 0,.int .u8 0] kq h;have al1:=λw=>tU (w:=w) zeroValue177;have ae1:=λw h=>nT (w:=w) zeroValue177 h;have al2:=λw=>tU (w:=w) zeroValue179;have ae2:=λw h=>nT (w:=w) zeroValue179 h;have ln:∀s w h,(Builtin.len_ #[9] 3 #[.string s]).events prog w h=h:=λs w h=>by simp[Builtin.len_,go_sem]
 have mk:∀f w h,(Instr.makeFunc (Fn.func 116) #[Value.pointer (sq f)] #[]).events prog w h=h:=λf w h=>by simp[Instr.makeFunc]
 refine hM func63 rq rfl ?_;simp only[ntmps63,bZ,Nat.reduceAdd,Nat.reduceSub];co_apply bK C T (aU _);co_reg (T _);co_op gu b (co_quiet q);co_opw gu b (skip) (co_still q);co_opw gu b (skip) (exact CX b.size (.inl rfl)<|by co_evs (skip));have⟨f,W,b⟩:=b.So #[.nilFunc,.bool false,.bool false];simp only[<-W];clear W;co_apply opsC_cons_k rfl rq;intro _ D K U;replace b:=gu b D;clear D;have u:=λ{o:Oper} {a:Act} {x y:Operand} lz hx hy=>Af (P:=prog) (ty:=177) (o:=o) (a:=a) (x:=x) (y:=y) (g:=f) (cells:=#[jA N,.bool false,.bool false]) lz hx hy (b.cl oq) kq rfl (by simp[Value.oneCell',jA]);rw[(u rfl rfl rfl).1];refine U _ _ ⟨?_,?_⟩
 .refine LH (b.cl oq) (b.h1 oq) (.inl rfl) λe r=>?_;obtain⟨o,rfl⟩:=(u rfl rfl rfl).2 e<|mem_listed r;exact .inl ⟨_,_,rfl,.inl<|.inr ⟨b.h1 oq,_,setRow_heap _ _ _ _ _ _<|b.cl oq,.inl rfl⟩⟩
 clear U K u;try walk_nrm
 replace b:=b.UR oq #[jA N,.bool false,.bool false];co_apply opsC_nil (T _);co_then;co_apply bK C T (aU _);co_reg (T _);co_opw gu b (skip) (co_still q);simp only[show Value.func (Fn.func 116) #[Value.pointer (sq f)] #[]=qA f from rfl];co_opw gu b (skip) (co_still q);co_opw gu b (skip) (exact CX b.size (.inr<|.inl rfl)<|by co_evs (skip));have⟨M,X,b⟩:=b.Sp #[.nilFunc,.int .i32 0,.int .i64 0,.int .u8 0,.int .u8 0];simp only[<-X];clear X;co_apply opsC_cons_k rfl rq;intro _ D K U;replace b:=gu b D;clear D;have u:=λ{o:Oper} {a:Act} {x y:Operand} lz hx hy=>Af (P:=prog) (ty:=179) (o:=o) (a:=a) (x:=x) (y:=y) (g:=M) (cells:=#[qA f,.int .i32 0,.int .i64 0,.int .u8 0,.int .u8 0]) lz hx hy (b.de oq) kq rfl (by simp[Value.oneCell',qA]);rw[(u rfl rfl rfl).1];refine U _ _ ⟨?_,?_⟩
 .refine LH (b.de oq) (b.h2 oq).1 (.inr<|.inl rfl) λe r=>?_;obtain⟨o,rfl⟩:=(u rfl rfl rfl).2 e<|mem_listed r;exact .inl ⟨_,_,rfl,.inl<|.inr ⟨(b.h2 oq).1,_,setRow_heap _ _ _ _ _ _<|b.de oq,.inr<|.inl rfl⟩⟩
 clear U K u;try walk_nrm
 replace b:=b.US oq #[qA f,.int .i32 0,.int .i64 0,.int .u8 0,.int .u8 0];co_apply opsC_nil (T _);co_then;refine iP C T ?_;co_apply bK C T (aU _);co_reg (T _);co_op gu b (co_quiet q);co_opw gu b (skip) (co_still q);co_op gu b (co_quiet q);co_apply opsC_nil (T _);co_then;refine kz C T ?_;have b:=b.hc;refine EE C T (λn i a w=>∃c d z k,n+k=cp.l.length/\i=(z,V (dT c d<|(cp.l.drop k).flatMap bytesOf)++vs)/\(z&&(dT c d<|(cp.l.drop k).flatMap bytesOf).isEmpty)=(kM cp.l).isEmpty/\HC N Pb cp f M c d w/\∃x7 x8 Z Zo Zp Zq Zr x21 E F G H I J L S,a=⟨#[.slice ad cp.l.length cc,jA N,undef,undef,.pointer<|sq f,.pointer<|sq M,undef,x7,x8,jA N,.agg #[jA N,.bool false,.bool false],qA f,.agg #[qA f,.int .i32 0,.int .i64 0,.int .u8 0,.int .u8 0],.slice ad cp.l.length cc,.int .i64 (cp.l.length:Int),.int .i64 (k:Int),Z,Zo,Zp,Zq,Zr,x21,E,F,G,H,I,J,L,S,undef],[]⟩) cp.l.length ⟨⟨false,false⟩,⟨0,0,0,0⟩,true,0,oq,rfl,by simp[kM],b,_,_,_,_,_,_,_,_,_,_,_,_,_,_,_,_,rfl⟩ ?_;clear b;rintro n i a w ⟨c,d,z,k,hn,rfl,r,b,x7,x8,Z,Zo,Zp,Zq,Zr,x21,E,F,G,H,I,J,L,S,rfl⟩;by_cases hk:k<cp.l.length
 .have Q:decide ((k:Int)<(cp.l.length:Int))=true:=tD oq;obtain⟨s,hs⟩:∃s,cp.l[k]?=some s:=⟨_,gE hk⟩;have vC:=hz s<|mG hs;have hdk:(cp.l.drop k).flatMap bytesOf=bytesOf s++(cp.l.drop<|k+1).flatMap bytesOf:=by rw[List.drop_eq_getElem_cons hk,List.flatMap_cons,(gS.1 hs).2]
  obtain⟨R,rfl,_⟩:=b.ps.at hv hs;rw[hdk] at r |-;generalize hrs:(cp.l.drop<|k+1).flatMap bytesOf=rs at r |-;co_apply bK C T (aU _);co_reg (T _);co_op aG b (co_quiet q);co_apply opsC_nil (T _);co_then;try simp only[Q]
  refine iP C T<|bT C T (t:=true) rfl ?_;simp only[if_true];refine g8 C T ?_;show qN _ _ _ _ _ _ _;refine iP C T<|kz C T ?_;co_apply bK C T (aU _);co_reg (T _);co_opw aG b (skip) (co_still q);co_opw aG b (obtain⟨off',e1,hc⟩:=b.ps.at hv hs;cases e1) (refine fg b ?_;co_evs (exact ue<|i3<|.inr<|.inr rfl));clear hc;co_op aG b (co_quiet q);co_apply opsC_nil (T _);co_then;co_apply bK C T (aU _);co_reg (T _);co_op aG b (co_quiet q);co_opw aG b (skip) (co_still q);co_op aG b (co_quiet q);co_apply opsC_nil (T _);co_then;refine kz C T<|EE C T (λm i a w=>∃c d z j,m+j=s.size/\i=(z,V (dT c d<|(bytesOf s).drop j++rs)++vs)/\(z&&(dT c d<|(bytesOf s).drop j++rs).isEmpty)=(kM cp.l).isEmpty/\HC N Pb cp f M c d w/\∃x8 E F G H I J L,a=⟨#[.slice (some ⟨Pb,R,none⟩) cp.l.length cc,jA N,undef,undef,.pointer<|sq f,.pointer<|sq M,undef,.string s,x8,jA N,.agg #[jA N,.bool false,.bool false],qA f,.agg #[qA f,.int .i32 0,.int .i64 0,.int .u8 0,.int .u8 0],.slice (some ⟨Pb,R,none⟩) cp.l.length cc,.int .i64 (cp.l.length:Int),.int .i64 (k:Int),.bool true,.pointer<|some ⟨Pb,R+k,none⟩,.string s,.string s,.int .i64 (s.size:Int),.int .i64 (j:Int),E,F,G,H,I,J,L,S,undef],[]⟩) s.size ⟨c,d,z,0,oq,rfl,r,b,_,_,_,_,_,_,_,_,rfl⟩ ?_;clear b r;rintro m i a w ⟨c,d,z,j,hm,rfl,r,b,x8,E,F,G,H,I,J,L,rfl⟩;by_cases hj:j<s.size
  .have O:decide ((j:Int)<(s.size:Int))=true:=tD oq;co_apply bK C T (aU _);co_reg (T _);co_op aG b (co_quiet q);co_apply opsC_nil (T _);co_then;try simp only[O]
   refine iP C T<|bT C T (t:=true) rfl ?_;simp only[if_true];refine g8 C T ?_;show qN _ _ _ _ _ _ _;refine iP C T<|kz C T ?_;co_apply bK C T (aU _);co_reg (T _);iterate 2 co_op aG b (co_quiet q)
   co_apply opsC_nil (T _);co_then;have hix:(bytesOf s).drop j=((s[j]'hj).toNat:Int)::(bytesOf s).drop (j+1):=by rw[List.drop_eq_getElem_cons (by simpa[bytesOf] using hj)];simp[bytesOf];rfl
   have ixe:∀w h,(Instr.index 9 (.string s)<|.int .i64 (j:Int)).events prog w h=h:=λw h=>by simp[Instr.index,go_sem,hj]
   rw[hix,List.cons_append,kn] at r |-;simp only[rV,vt];refine cH C T ?_;simp only[jb,Nat.reduceAdd];iterate 2
    refine bB C rfl rq λ_ D Kx A=>?_
    replace b:=aG b D
    clear D
    go_simp
    try (unfold stored;go_simp)
    refine A _ _ ⟨?_,?_⟩
    .co_quiet q
    clear A Kx;try walk_nrm
   refine bB C rfl rq λ_ D Kx A=>?_;replace b:=aG b D;clear D;go_simp;try (unfold stored;go_simp)
   refine A _ _ ⟨?_,?_⟩
   .co_still q
   clear A Kx;try walk_nrm
   refine cN C T rfl rq rfl rfl (by simp[Act.eval]) rfl (U7 b z _ _) ?_;rintro _ _ _ ⟨rfl,b⟩;refine du C T ?_;show qN _ _ _ _ _ _ _;co_apply rI C (aU _);co_reg (T _);iterate 2 co_op aG b (co_quiet q)
   co_apply opsC_nil (T _);have hwr:IntKind.i64.wrap ((j:Int)+1)=((j+1:Nat):Int):=by rw[IntKind.wrap_i64];omega
   simp only[hwr];rw[py,<-Bool.and_assoc] at r;exact⟨m-1,oq,_,_,_,j+1,oq,rfl,r,b,_,_,_,_,_,_,_,_,rfl⟩
  .have O:decide ((j:Int)<(s.size:Int))=false:=fD oq;co_apply bK C T (aU _);co_reg (T _);co_op aG b (co_quiet q);co_apply opsC_nil (T _);co_then;try simp only[O]
   refine iP C T<|bT C T (t:=false) rfl ?_;simp only[if_false,lI];refine ED C T ?_;simp only[pu,II,if_true];have Y:(bytesOf s).drop j=[]:=List.drop_eq_nil_of_le (by simp[bytesOf];have:s.size=s.data.size:=rfl;omega);rw[Y,List.nil_append,<-hrs] at r |-;have ZT:IntKind.i64.wrap ((k:Int)+1)=((k+1:Nat):Int):=by rw[IntKind.wrap_i64];omega
   co_apply rI C (aU _);co_reg (T _);iterate 2 co_op aG b (co_quiet q)
   co_apply opsC_nil (T _);try simp only[ZT]
   exact⟨n-1,oq,c,d,z,k+1,oq,rfl,r,b,_,_,_,_,_,_,_,_,_,_,_,_,_,_,_,_,rfl⟩
 .have Q:decide ((k:Int)<(cp.l.length:Int))=false:=fD oq;rw[List.drop_eq_nil_of_le oq,List.flatMap_nil] at r |-;co_apply bK C T (aU _);co_reg (T _);co_op aG b (co_quiet q);co_apply opsC_nil (T _);co_then;try simp only[Q]
  refine iP C T<|bT C T (t:=false) rfl ?_;simp only[if_false,lI];refine ED C T ?_;simp only[pu,II,if_true];rw[lh] at r |-;refine cH C T ?_;simp only[jb];refine cN C T rfl rq rfl rfl (by simp[Act.eval]) rfl (LN b z vs) ?_;rintro _ _ _ ⟨rfl,b⟩;exact du C T ⟨.inl rfl,rfl,_,resultsC_none rq _,by rw[r],_,_,_,_,b⟩
end
section
variable {main:Bool}{b:Frame}{a:Act}{k:List Item}{cs:List Frame}{ops:Array Oper}{i:Nat}{rest:List Nat}{o:Oper}
theorem tw{d:Deferred}(c:ops[i]?=some o)(h:Region.wanted o (yielded ops a.tmps)=true)(j:b.kind≠.early)(g:(execOp a.eval o).run P w=.ok (.defer d) w)(f:(execOp a.eval o).events P w #[]=#[]) :
  stepG P main (G (b.at a (.inRegion ops (i::rest)::k)) cs) w=.go (G (b.at (Act.put ⟨a.tmps,d::a.defers⟩ o.dst undef) (.inRegion ops rest::k)) cs) w #[]:=by
 have U:(b.at ⟨a.tmps,d::a.defers⟩ (.inRegion ops (i::rest)::k)).finish undef=b.at (Act.put ⟨a.tmps,d::a.defers⟩ o.dst undef) (.inRegion ops rest::k):=by rw[Frame.finish_at,c];rfl
 have e:(b.kind==CallKind.early)=false:=gq
 rw[stepG_oper c h,<-U];simp[stepG.apply,g,f,G,Frame.at,e,GStep.after,seen_none]
def yO{c:Frame}(e:ops[i]?=some o)(m:Region.wanted o (yielded ops a.tmps)=true)(h:b.kind=.deferred)(l:b.roundOf=none)(f:c.mode=.returning)(j:(execOp a.eval o).run P w=.ok .recover w)(g:(execOp a.eval o).events P w #[]=#[]) :
  stepG P main (G (b.at a (.inRegion ops (i::rest)::k)) (c::cs)) w=.go (G (b.at (a.put o.dst .nilIface) (.inRegion ops rest::k)) (c::cs)) w #[]:=by
 have d:(b.at a (.inRegion ops (i::rest)::k)).finish .nilIface=b.at (a.put o.dst .nilIface) (.inRegion ops rest::k):=by rw[Frame.finish_at,e];rfl
 rw[stepG_oper e m,<-d];simp[stepG.apply,j,g,G,Frame.at,h,tryRecover,f,GStep.after,seen_none]
variable {todo:List Item}{ds:List Deferred}{f:FuncId}{fn:Func}{args cap:Aq}
theorem pR{c:Code}(hd:a.defers={ target:=.fn (.func f) cap,args:=args } :: ds)(hf:P.funcs[f]?=some fn)(ny:(fn.name == "runtime.NumGoroutine")=false)(hb:fn.body=some c) :
  stepG P main (G { b.at a todo with mode:=.returning } cs) w =
   .go (G ((baseD f).at { tmps:=(args++cap)++Array.replicate (fn.ntmps-(args++cap).size) undef,defers:=[] } [.code c]) ({ b.at ⟨a.tmps,ds⟩ todo with mode:=.returning }::cs)) w #[]:=by
 have h1:¬ fn.name = "runtime.NumGoroutine" := gq
 rw[<-enter_atD _ hf hb];simp[G,stepG,unwind,callDeferred,Frame.at,hd,invoke,callFunc,hf,h1,hb,GStep.after,seen_none]
def rE{ats:Array TypeId}{ty:TypeId}{g:Array Bool}{r cap s i:Nat}{c:Aq}{tm:Bool}(j:a.defers={ target:=.builtin .close ats ty g,args:=#[.chan (some r)] }::ds)
 (h:w.heap[r]?=some (.chan cap c false s i tm))(k:(P.funcs[b.fn]?).any (·.norace)=false) :
  stepG P main (G { b.at a todo with mode:=.returning } cs) w=.go (G { b.at ⟨a.tmps,ds⟩ todo with mode:=.returning } cs) (w.setChan r cap c true s i tm) (closeEvents r):=by
 have l:(builtin .close ats ty g #[.chan (some r)]).run P w=.ok (.value<|.tuple #[]) (w.setChan r cap c true s i tm):=by simp[go_sem,run_close_open _ _ h,World.setChan]
 have d:(builtin .close ats ty g #[.chan (some r)]).events P w #[]=closeEvents r:=by simp[go_sem,events_close_open _ _ h,closeEvents]
 have m:seen P b.fn _=closeEvents r:=seen_eq k (by intro e d f;simp only[closeEvents,List.mem_toArray,oc,zL,or_false] at d;rcases d with rfl|rfl<;>simp);simp[G,stepG,unwind,callDeferred,Frame.at,j,invoke,l,d,m,GStep.after]
end
structure HB(N:Nat)(nv:Value)(w:World):Prop where
 nx:w.heap[N+1]?=some (.cells #[nv] 110)
 lv:w.heap[N+3]?=some (.cells #[.chan (some<|N+2)] 158)
 ev:w.heap[N+5]?=some (.cells #[.chan (some<|N+4)] 159)
 wb:w.heap[N+7]?=some (.cells #[.pointer (some ⟨N+6,0,none⟩)] 240)
 fb:w.heap[N+8]?=some (.cells #[.func (.func 112) #[] #[.pointer (some ⟨N+5,0,none⟩),.pointer<|some ⟨N+1,0,none⟩,.pointer<|some ⟨N+3,0,none⟩]] 1)
structure HE(N:Nat)(val:Value)(w:World):Prop where
 pc:∃t,w.heap[N]?=some (.cells #[val] t)
 wb:w.heap[N+7]?=some (.cells #[.pointer (some ⟨N+6,0,none⟩)] 240)
 bf:∃o,w.heap[N+8]?=some o
structure HQ(N Pb:Nat)(cp:K1)(w:World):Prop where
 pc:w.heap[N]?=some (.cells #[cp.v] 62)
 ps:oV Pb cp w
 lo:Pb<N+9
def wL(N:Nat):Deferred:={ target:=.builtin .close #[159] 0 #[false],args:=#[.chan (some<|N+4)] }
section
variable {nv:Value}
def cell1{b:Nat}{v:Value}{t:TypeId}(h:w.heap[b]?=some (.cells #[v] t)):w.cell? ⟨b,0,none⟩=some v:=by simp[World.cell?,h]
variable [ConcR.Payload][ConcX.Payload]
def HB.rc(h:HB N nv w)(r:RC (aJ prog N Pb Shun val B Mz) w aK):HB N nv aK :=
 ⟨(r _<|.inr<|.inl Y).trans h.nx,(r _<|.inr<|.inr<|.inl Y).trans h.lv,(r _<|i3<|.inl Y).trans h.ev,(r _<|i3<|.inr<|.inl Y).trans h.wb,(r _<|i3<|.inr<|.inr<|.inl Y).trans h.fb⟩
def HB.rely{i:Ix}(h:HB N nv w)(r:vq (aJ prog N Pb Shun val B Mz) i w aK):HB N nv aK:=h.rc r.rc
theorem HE.size(h:HE N val w):N+9<=w.heap.size:=by have⟨o,U⟩:=h.bf;grind
def HQ.rc(h:HQ N Pb cp w)(r:RC (aJ prog N Pb Shun val B Mz) w aK):HQ N Pb cp aK:=by exact⟨(r _<|.inl<|.inl Y).trans h.pc,h.ps.of<|r Pb<|i3<|i3 Y,h.lo⟩
def HQ.rely{i:Ix}(h:HQ N Pb cp w)(r:vq (aJ prog N Pb Shun val B Mz) i w aK):HQ N Pb cp aK:=h.rc r.rc
def HB.hp(h:HB N nv w)(q:HQ N Pb cp w):HP N Pb cp 0 0 0 #[] #[] w:=⟨h.lv,q.ps,q.lo,⟨_,h.fb⟩,λh=>absurd h oq,λh=>absurd h oq,λh=>absurd h oq,λh=>absurd h oq,q.pc,h.wb⟩
def qb{K:Cfg}{es:Array Event}(h:∀e∈es,R7 K w e):DK K w w es :=
 ⟨Y,Y,Y,λ_ _ _=>Y,λ_ h=>h,λ_ h1 h2=>absurd h1 oq,Y,lr,h⟩
def uf{o:Nat}{b:Nat}(a:b=N+1\/b=N+3\/b=N+5\/b=N+7\/b=N+8\/b=Pb):R7 (aJ prog N Pb Shun val B Mz) w ⟨.cell ⟨b,o,none⟩,false,false⟩:=.inl ⟨_,_,Y,.inr ⟨a,Y⟩⟩
def F5{g:Type}{P:Program}{main:Bool}{R:g->Wq}{D:World->World->Array Event->Prop}{X:g->Gq}{fn:FuncId}{Q:rP g}{a:Act}{w:World}{vs:g}(C:Closed P main R D X)(T:∀i,Terms (R i) D)
 {ops:Array Oper}{i:Nat}{c:List Nat}{o:Oper}{d:Deferred}(q:ops[i]?=some o)(s:Region.wanted o (yielded ops a.tmps)=true)(r:∀w,(execOp a.eval o).run P w=.ok (.defer d) w)(p:∀w,(execOp a.eval o).events P w #[]=#[])
 (h:oU X fn ops c vs Q (Act.put ⟨a.tmps,d::a.defers⟩ o.dst undef) w):oU X fn ops (i::c) vs Q a w:=λb k l m j n=>C.step Y λe f=>by rw[tw q s j (r e) (p e)];exact⟨(T vs).idle _,C.rely (h b k l m j n) f⟩
def Li(N:Nat):Value:=.func (.func 62) #[] #[.pointer (some ⟨N,0,none⟩)]
theorem FW(a:HB N nv w)(e:HQ N Pb cp w)(k:∀p∈cp.l,p.size<=9223372036854775806)(h:cp.l.length<=9223372036854775806) :
  jG prog (XK<|aJ prog N Pb Shun cp.v B Mz) 62 #[jA N,.pointer<|sq N] (true,V<|kM cp.l) w (λm _ n=>m.2=[]/\HE N cp.v n):=by
 have C:Closed prog false _ _ _:=XK.closed (K:=(aJ prog N Pb Shun cp.v B Mz));have T:=N3 (K:=(aJ prog N Pb Shun cp.v B Mz));refine hM func62 rq Y ?_;refine cH C T ?_;refine bB C Y rq λ_ b f U=>?_;replace a:=HB.rely a b;replace e:=HQ.rely e b;clear b;have j:=cell1 e.pc;go_simp;try (unfold stored;go_simp)
 refine U _ _ ⟨?_,?_⟩
 .refine qb ?_;co_evs (exact .inl ⟨_,_,Y,.inl<|.inl Y⟩)
 try walk_nrm
 clear j;refine bB C Y rq λ_ b f U=>?_;replace a:=HB.rely a b;replace e:=HQ.rely e b;clear b;go_simp;try (unfold stored;go_simp)
 refine U _ _ ⟨?_,?_⟩
 .co_quiet (T (true,[]))
 try walk_nrm
 refine cN C T Y rq Y Y (by simp[Act.eval]) gq (UK (a.hp e) k h []) ?_;rintro _ _ _ ⟨rfl,o,q,c,d,a⟩;exact du C T ⟨.inl Y,Y,_,resultsC_none rq _,Y,⟨_,a.pc⟩,a.wb,⟨_,gF<|by have:=a.size;omega⟩⟩
def UM{f:FuncId}{cap:Aq}{ls:Vq}(j:HB N (.func (.func f) #[] cap) w)
 (k:∀a,RC (aJ prog N Pb Shun val B Mz) w a->jG prog (XK<|aJ prog N Pb Shun val B Mz) f (#[jA N]++cap) (true,ls) a (λs _ o=>s.2=[]/\HE N val o)) :
  ∃c,f112.body=some c/\qN (XK<|aJ prog N Pb Shun val B Mz) 112 c (true,ls) (λi e q o=>e=.normal/\i.2=[]/\q.defers=[wL N]/\HE N val o) ⟨#[.pointer (sq<|N+5),.pointer<|sq<|N+1,.pointer<|sq<|N+3,undef,undef,undef,undef],[]⟩ w:=by
 have C:=cK N Pb Shun val B Mz;have T:=tK N Pb Shun val B Mz;have t:∀w m,(Instr.makeFunc (Fn.func 113) #[] #[Value.pointer (sq<|N+3)]).events prog w m=m:=λw m=>by simp[Instr.makeFunc]
 refine⟨_,Y,iP C T<|cH C T ?_⟩;refine bB C Y rq λ_ h l b=>?_;replace j:=HB.rely j h;replace k:=λa g=>k a<|ew h.rc g;clear h;have n:=cell1 j.ev;go_simp;try (unfold stored;go_simp)
 refine b _ _ ⟨?_,?_⟩
 .refine qb ?_;co_evs (exact uf<|.inr<|.inr<|.inl Y)
 clear b l;try walk_nrm
 clear n;refine F5 C T (d:=wL N) Y rq (λw=>by simp[execOp,go_sem,resolve,wL,Act.eval]) (λw=>by simp[execOp,go_sem,resolve,Act.eval]) ?_;try walk_nrm
 refine du C T ?_;refine cH C T ?_;refine bB C Y rq λ_ h l b=>?_;replace j:=HB.rely j h;replace k:=λa g=>k a<|ew h.rc g;clear h;have n:=cell1 j.nx;go_simp;try (unfold stored;go_simp)
 refine b _ _ ⟨?_,?_⟩
 .refine qb ?_;co_evs (exact uf<|.inl Y)
 clear b l;try walk_nrm
 clear n;refine bB C Y rq λ_ h l b=>?_;replace j:=HB.rely j h;replace k:=λa g=>k a<|ew h.rc g;clear h;go_simp;try (unfold stored;go_simp)
 refine b _ _ ⟨?_,?_⟩
 .co_still (T (true,[]))
 clear b l;try walk_nrm
 refine cN C T Y rq Y Y (by simp[Act.eval];rfl) Y (k _<|RC.refl _) ?_;rintro i _ _ ⟨r,j⟩;exact du C T ⟨Y,r,Y,j⟩
end
end
section
variable {P:Program}{main:Bool}{es:Array Event}{L b i:Nat}{a:Act}{k todo:List Item}{cs:List Frame}{ops:Array Oper}{rest:List Nat}{o:Oper}{K:Cfg}{f fr:FuncId}{args cap cr tm:Aq}{A F:World->Prop}{t:TypeId}{v:Value}{I:Nat->World->Prop}{l:Iq}
abbrev link:Conc.Lib.WgLink:={ add:=199,done:=202,wait:=115,relMerge:=303,disable:=204,enable:=206,inBubble:=212,associate:=304,fatal:=305,uOr:=306,uAdd:=307,raceRead:=308,uLoad:=205,uStore:=309,disassociate:=210,semrelease:=310,acquire:=207,isAssociated:=208,uCas:=209,raceWrite:=211,semacquire:=213,orU64:=359,addU64:=360,loadU64:=311,storeU64:=361,casU64:=312,tWgP:=240,tUP:=244,tAssoc:=290,tWg:=169,tAU:=166,tU64:=164,tUint:=242,tU32:=167,tPU32:=248,tPAU:=295,tPU64:=297,tNoCopy:=161,tANoCopy:=162,tAlign64:=163 }
theorem xY:Conc.Lib.WgLib prog link :=
 ⟨func199,func202,func115,func303,func204,func206,func212,func304,func305,func306,func307,func308,func205,func309,func210,func310,func207,func208,func209,func211,func213,func359,func360,func311,func361,func312,underlying240,runUnderlying240,sizeOf240,isAgg240,zeroValue240,underlying244,runUnderlying244,sizeOf244,isAgg244,zeroValue244,underlying290,runUnderlying290,sizeOf290,isAgg290,zeroValue290,underlying169,runUnderlying169,sizeOf169,isAgg169,zeroValue169,underlying166,runUnderlying166,sizeOf166,isAgg166,zeroValue166,underlying164,runUnderlying164,sizeOf164,isAgg164,zeroValue164,underlying242,runUnderlying242,sizeOf242,isAgg242,zeroValue242,underlying167,runUnderlying167,sizeOf167,isAgg167,zeroValue167,underlying248,runUnderlying248,sizeOf248,isAgg248,zeroValue248,underlying295,runUnderlying295,sizeOf295,isAgg295,zeroValue295,underlying297,runUnderlying297,sizeOf297,isAgg297,zeroValue297,underlying0,runUnderlying0,sizeOf0,isAgg0,zeroValue0,underlying3,runUnderlying3,sizeOf3,isAgg3,zeroValue3,underlying4,runUnderlying4,sizeOf4,isAgg4,zeroValue4,underlying9,runUnderlying9,sizeOf9,isAgg9,zeroValue9,underlying20,runUnderlying20,sizeOf20,isAgg20,zeroValue20,underlying21,runUnderlying21,sizeOf21,isAgg21,zeroValue21,kq,kq⟩
def bot (P:Program):Frame:={ (default:Frame) with fn:=P.funcs.size,defers:=[],mode:=.panicking [goexitEntry] }
def dGo (N:Nat):Deferred:={ target:=.fn (.func 201) #[.pointer (some ⟨N+7,0,none⟩)],args:=#[] }
def iu(N:Nat):Value:=.func (.func 112) #[] #[.pointer (some ⟨N+5,0,none⟩),.pointer<|some ⟨N+1,0,none⟩,.pointer<|some ⟨N+3,0,none⟩]
def RB(b:Option Code):Array Oper:=match b with|some (.seq _<|.region _ ops _)=>ops|_=>#[]
def OV (b:Option Code)(N:Nat):Frame:=(baseD 200).at ⟨#[.pointer (some ⟨N+7,0,none⟩),.pointer<|some ⟨N+8,0,none⟩,.func (.func 201) #[] #[.pointer (some ⟨N+7,0,none⟩)],iu N,undef],[dGo N]⟩ [.inRegion (RB b) [1]]
theorem Way.closed{R:Wq}{D:World->World->Array Event->Prop}{Stop:Gq}(f:∀a b c,R a b->R b c->R a c):Closed P main (λ_:Unit=>R) D (λ_=>Way P main R D Stop) where
 rely:=λ{_ _ _ _} h hr=>Way.rely f h hr
 step:=by
  intro i g w k h
  refine Way.step k λd j=>?_
  have U:=h d j
  cases e:stepG P main g d with
  | go g' w' es=>rw[e] at U;exact⟨g',w',es,Y,U.1,U.2⟩
  | _=>rw[e] at U;exact U.elim
variable {N Pb B:Nat}{Shun Mz:Loc->Prop}{val:Value}{S:Nat->Prop}{s:ByteArray}
section
variable {w aK:World}
variable [ConcR.Payload][ConcX.Payload]
structure HJ(N:Nat)(val:Value)(w:World):Prop where
 pc:∃t,w.heap[N]?=some (.cells #[val] t)
 wb:w.heap[N+7]?=some (.cells #[.pointer (some ⟨N+6,0,none⟩)] 240)
 live:ConcN.WgLive 169 (N+6) w
theorem HJ.rely(U:S N)(h:HJ N val w)(r:RJ (aJ prog N Pb Shun val B Mz) S w aK):HJ N val aK:=⟨h.pc.imp λ_ z=>(r.rc _<|.inl U).trans z,(r.rc _<|i3<|.inr<|.inl Y).trans h.wb,r.live h.live⟩
theorem sf(U:S N)(h:∀e∈es,EvB N Pb N N e):DJ (aJ prog N Pb Shun val B Mz) S w w es:=by
 refine⟨⟨Y,Y,Y,Y,λ_ _=>Y,id,λ_ _=>Y⟩,λe g=>?_⟩;obtain⟨a,d,rfl,f⟩:=h e g;refine⟨λj i=>⟨Y,λx c=>?_⟩,by simp,by simp,by simp⟩;have b:x=⟨.cell a,d,.plain⟩:=by simp only[MemAct.ofEvent,MemAct.touch?] at c;cases d<;>simpa using c.symm
 subst b;rcases f with h|⟨h,rfl⟩
 .exact .inr<|.inl<|.inl ⟨a,Y,by rw[show a.block=N by omega];exact U⟩
 .exact .inr<|.inr ⟨⟨a,Y,h⟩,Y⟩
theorem gI(U:S N)(w:World):DJ (aJ prog N Pb Shun val B Mz) S w w #[]:=sf U iq
theorem Wy(hS:S N)(hF:HJ N val w)(tm:Aq) :
  Way prog false (RJ (aJ prog N Pb Shun val B Mz) S) (DJ (aJ prog N Pb Shun val B Mz) S) (Cw<|aJ prog N Pb Shun val B Mz) (G { (base 112).at ⟨tm,[]⟩ [] with mode:=.returning } [OV f200.body N,(bot prog)]) w:=by
 have CJ:=Way.closed (P:=prog) (main:=false) (R:=RJ (aJ prog N Pb Shun val B Mz) S) (D:=DJ (aJ prog N Pb Shun val B Mz) S) (Stop:=Cw<|aJ prog N Pb Shun val B Mz)<|λ_ _ _=>RJ.trans (K:=(aJ prog N Pb Shun val B Mz));refine CJ.step (vs:=()) Y λ_ cO=>?_;replace hF:=hF.rely hS cO;clear cO;rw[stepG_leave (b:=base 112) Y Y func112 (results_none Y _ _ _) (events_results_none Y _ _)];simp only[goes_go];refine⟨gI hS _,?_⟩;unfold OV;rw[Frame.finish_at];simp only[RB,f200];try walk_nrm
 refine CJ.step (vs:=()) Y λ_ cO=>?_;replace hF:=hF.rely hS cO;clear cO;rw[stepG_region_end];simp only[goes_go];refine⟨gI hS _,CJ.step (vs:=()) Y λ_ cO=>?_⟩;replace hF:=hF.rely hS cO;clear cO;rw[stepG_end];simp only[goes_go];refine⟨gI hS _,CJ.step (vs:=()) Y λ_ cO=>?_⟩;replace hF:=hF.rely hS cO;clear cO;rw[pR (f:=201) Y func201 rq Y];simp only[goes_go];refine⟨gI hS _,?_⟩;simp only[ntmps201,bZ,Nat.reduceAdd,Nat.reduceSub];iterate 2
  refine CJ.step (vs:=()) Y λ_ cO=>?_
  replace hF:=hF.rely hS cO
  clear cO
  rw[stepG_seq]
  simp only[goes_go]
  refine⟨gI hS _,?_⟩
 refine CJ.step (vs:=()) Y λ_ cO=>?_;replace hF:=hF.rely hS cO;clear cO;rw[stepG_region];simp only[goes_go,jb,Nat.reduceAdd];refine⟨gI hS _,CJ.step (vs:=()) Y λ_ cO=>?_⟩;replace hF:=hF.rely hS cO;clear cO;rw[yO Y rq Y Y Y (by simp[execOp,go_sem]) (by simp[execOp,go_sem])];simp only[goes_go];refine⟨gI hS _,?_⟩;try walk_nrm
 refine CJ.step (vs:=()) Y λ_ cO=>?_;replace hF:=hF.rely hS cO;clear cO;refine goes_oper_k Y Y dq<|λKx dX=>?_;go_simp;refine dX _ _ ⟨?_,?_⟩
 .refine sf hS ?_;co_evs (skip)
 clear dX Kx;try walk_nrm
 refine CJ.step (vs:=()) Y λ_ cO=>?_;replace hF:=hF.rely hS cO;clear cO;rw[stepG_region_end];simp only[goes_go];refine⟨gI hS _,CJ.step (vs:=()) Y λ_ cO=>?_⟩;replace hF:=hF.rely hS cO;clear cO;rw[stepG_seq];simp only[goes_go];refine⟨gI hS _,CJ.step (vs:=()) Y λ_ cO=>?_⟩;replace hF:=hF.rely hS cO;clear cO;rw[stepG_region];simp only[goes_go,jb,Nat.reduceAdd];refine⟨gI hS _,CJ.step (vs:=()) Y λ_ cO=>?_⟩;replace hF:=hF.rely hS cO;clear cO;refine goes_oper_k Y Y dq<|λKx dX=>?_;go_simp;refine dX _ _ ⟨?_,?_⟩
 .refine sf hS ?_;co_evs (skip)
 clear dX Kx;try walk_nrm
 refine CJ.step (vs:=()) Y λ_ cO=>?_;replace hF:=hF.rely hS cO;clear cO;refine goes_oper_k Y Y dq<|λKx dX=>?_;have bo:∀w es,(binOp .neq 20 .nilIface .nilIface).events prog w es=es:=λw es=>by rw[show binOp .neq 20 Value.nilIface Value.nilIface=(do pure (.bool<|!(<-Op.equal 20 .nilIface .nilIface))) from Y,show Op.equal 20 Value.nilIface Value.nilIface=Op.equalIn (9999+1) 20 .nilIface .nilIface from Y,Op.equalIn];simp[runUnderlying20,go_sem,underlying,underlying20]
 go_simp;refine dX _ _ ⟨?_,?_⟩
 .refine sf hS ?_;co_evs (skip)
 clear dX Kx;try walk_nrm
 refine CJ.step (vs:=()) Y λ_ cO=>?_;replace hF:=hF.rely hS cO;clear cO;rw[stepG_region_end];simp only[goes_go];refine⟨gI hS _,CJ.step (vs:=()) Y λ_ cO=>?_⟩;replace hF:=hF.rely hS cO;clear cO;rw[stepG_cond (t:=false) Y];simp only[goes_go,if_true,if_false,lI,↓reduceIte];refine⟨gI hS _,CJ.step (vs:=()) Y λ_ cO=>?_⟩;replace hF:=hF.rely hS cO;clear cO;rw[stepG_skip];simp only[goes_go];refine⟨gI hS _,CJ.step (vs:=()) Y λ_ cO=>?_⟩;replace hF:=hF.rely hS cO;clear cO;rw[stepG_region];simp only[goes_go,jb,Nat.reduceAdd];refine⟨gI hS _,CJ.step (vs:=()) Y λ_ cO=>?_⟩;replace hF:=hF.rely hS cO;clear cO;refine goes_oper_k Y Y dq<|λKx dX=>?_;have hc:=cell1 hF.wb;go_simp;refine dX _ _ ⟨?_,?_⟩
 .refine sf hS ?_;co_evs (exact ue<|i3<|.inl Y)
 clear dX Kx;try walk_nrm
 clear hc;refine CJ.step (vs:=()) Y λ_ cO=>?_;replace hF:=hF.rely hS cO;clear cO;refine goes_call Y Y dq Y xY.f_done (ConcR.Gen.nm_done link) Y ⟨gI hS _,?_⟩;walk_nrmf Conc.Lib.doneFn;have hD:=λ{b₀:Frame} {a₀:Act} {ops₀:Array Oper} {i₀:Nat} {rest₀:List Nat} {k₀:List Item} {cs:List Frame} {qt:Nat} hT w hK=>@Wz _ link prog xY (Sc (aJ prog N Pb Shun val B Mz) S) (RdK<|aJ prog N Pb Shun val B Mz) (N+6) N 1 0 1 val b₀ a₀ ops₀ i₀ rest₀ k₀ cs qt hT w hK;simp only[ConcR.Gen.body_done,Conc.Lib.doneFn,Option.getD_some] at hD;refine Way.uE (λ_ _ h=>RJ.rw (K:=(aJ prog N Pb Shun val B Mz)) hS h) (λ_ _ _ h=>h) (λ_ _ h=>h)<|cY<|hD (qt:=5) (QuitsD.ctl Y (λ_=>stepG_region_end)<|QuitsD.ctl Y (λ_=>stepG_end)<|QuitsD.leaveD Y Y func201 Y Y (QuitsD.ctl (g':=G (bot prog) []) Y (λw=>?_) ?_)) _ ⟨hF.live,by have⟨_,hp⟩:=hF.pc;simp[ConcN.Has,World.cell?,hp]⟩
 .simp[G,stepG,unwind,doReturn,results,Frame.at,baseD,bot,func200,f200,seen,GStep.after,goexitEntry]
 refine QuitsD.ctl (g':={ G (bot prog) [] with status:=.finished }) Y (λw=>?_) ⟨Y,Y⟩;simp[G,stepG,unwind,bot,goexitEntry,Frame.catches];rfl
end
def mQ(N:Nat):Deferred:={ target:=.fn (.func 200) #[.pointer (some ⟨N+7,0,none⟩),.pointer<|some ⟨N+8,0,none⟩],args:=#[] }
section
variable {w aK:World}
variable [ConcR.Payload][ConcX.Payload]
theorem OJ(U:HE N val w)(tm:Aq):AtClose (aJ prog N Pb Shun val B Mz) (G { (base 112).at ⟨tm,[wL N]⟩ [] with mode:=.returning } [OV f200.body N,(bot prog)]) w:=by
 refine⟨Y,U.size,Y,G { (base 112).at ⟨tm,[]⟩ [] with mode:=.returning } [OV f200.body N,(bot prog)],rfl,λh=>?_,λb a c=>?_⟩
 .exact rE Y h kq
 .exact Wy (.inl Y) ⟨U.pc.imp λ_ z=>(a _<|.inl<|.inl Y).trans z,(a _<|i3<|.inr<|.inl Y).trans U.wb,c⟩ tm
theorem HE.rely{i:Ix}(h:HE N val w)(r:vq (aJ prog N Pb Shun val B Mz) i w aK):HE N val aK:=⟨h.pc.imp λ_ z=>(r.rc _<|.inl<|.inl Y).trans z,(r.rc _<|i3<|.inr<|.inl Y).trans h.wb,h.bf.imp λ_ z=>(r.rc _<|i3<|.inr<|.inr<|.inl Y).trans z⟩
theorem Jd(N:Nat)(w:World):stepG prog false (born prog<|mQ N) w =
  .go (G ((baseD 200).at ⟨#[.pointer (sq<|N+7),.pointer<|sq<|N+8,undef,undef,undef],[]⟩ [.code (f200.body.getD .skip)]) [(bot prog)]) w #[]:=by simp[born,mQ,stepG,unwind,callDeferred,invoke,callFunc,f200,seen,GStep.after,G,Frame.enter,Frame.at,baseD,bot]
theorem yD{b:Frame}{K:Goroutine->World->Array Event->Prop}{x:Operand}{bL:Func}{c:Code}{first cap:Array Value}{args:Array Operand}{ats:Array TypeId}
 (ho:ops[i]?=some o)(hw:Region.wanted o (yielded ops a.tmps)=true)(hk:b.kind≠.early)(lz:o.op=.call { callee:=.value x,args,argTypes:=ats })(hx:a.eval x=.func (.func f) first cap)
 (hf:P.funcs[f]?=some bL)(ny:(bL.name == "runtime.NumGoroutine")=false)(hb:bL.body=some c)
 (h:K (G ((base f).at { tmps:=(first++args.map a.eval++cap)++Array.replicate (bL.ntmps-(first++args.map a.eval++cap).size) undef,defers:=[] } [.code c]) (b.at a (.inRegion ops (i::rest)::k)::cs)) w #[]) :
  (stepG P main (G (b.at a (.inRegion ops (i::rest)::k)) cs) w).goes K:=by have⟨hr,he⟩:=lG (w:=w) lz hx hf ny (by rw[hb]; rfl);rw[stepG_enter ho hw hk hr,enter_at _ hf hb];have hl:listed P b.fn a o w=#[]:=listed_nil he;rw[hl];exact h
theorem mC(w:World):DK (aJ prog N Pb Shun val B Mz) w w #[]:=qb iq
theorem X8{ls:Vq}(g:HB N (.func (.func f) #[] cap) w)
 (h:∀j,RC (aJ prog N Pb Shun val B Mz) w j->jG prog (XK<|aJ prog N Pb Shun val B Mz) f (#[jA N]++cap) (true,ls) j (λr _ t=>r.2=[]/\HE N val t)):XK (aJ prog N Pb Shun val B Mz) (true,ls) (born prog<|mQ N) w:=by
 have C:=cK N Pb Shun val B Mz;have u:∀w m,(Instr.makeFunc (Fn.func 201) #[] #[Value.pointer (sq<|N+7)]).events prog w m=m:=λw m=>by simp[Instr.makeFunc]
 refine C.step Y λ_ U=>?_;replace g:=g.rely U;replace h:=λc b=>h c<|ew U.rc b;clear U;rw[Jd];simp only[goes_go];refine⟨mC _,?_⟩;simp only[f200,Option.getD_some];refine C.step Y λ_ U=>?_;replace g:=g.rely U;replace h:=λc b=>h c<|ew U.rc b;clear U;rw[stepG_seq];simp only[goes_go];refine⟨mC _,C.step Y λ_ U=>?_⟩;replace g:=g.rely U;replace h:=λc b=>h c<|ew U.rc b;clear U;rw[stepG_region];refine⟨mC _,C.step Y λ_ U=>?_⟩;replace g:=g.rely U;replace h:=λc b=>h c<|ew U.rc b;clear U;refine goes_oper_k Y Y dq<|λl i=>?_;go_simp;refine i _ _ ⟨?_,?_⟩
 .refine qb ?_;co_evs (skip)
 clear i l;try walk_nrm
 refine C.step Y λ_ U=>?_;replace g:=g.rely U;replace h:=λc b=>h c<|ew U.rc b;clear U;rw[tw (d:=dGo N) Y rq dq (by simp[execOp,go_sem,resolve,Deferred.ofValue,dGo,Act.eval]) (by simp[execOp,go_sem,resolve,Deferred.ofValue,Act.eval])];simp only[goes_go];refine⟨mC _,?_⟩;try walk_nrm
 refine C.step Y λ_ U=>?_;replace g:=g.rely U;replace h:=λc b=>h c<|ew U.rc b;clear U;rw[stepG_region_end];simp only[goes_go];refine⟨mC _,C.step Y λ_ U=>?_⟩;replace g:=g.rely U;replace h:=λc b=>h c<|ew U.rc b;clear U;rw[stepG_region];refine⟨mC _,C.step Y λ_ U=>?_⟩;replace g:=g.rely U;replace h:=λc b=>h c<|ew U.rc b;clear U;refine goes_oper_k Y Y dq<|λl i=>?_;have q:=cell1 g.fb;go_simp;refine i _ _ ⟨?_,?_⟩
 .refine qb ?_;co_evs (exact uf<|i3<|.inr<|.inl Y)
 clear i l;try walk_nrm
 clear q;refine C.step Y λ_ U=>?_;replace g:=g.rely U;replace h:=λc b=>h c<|ew U.rc b;clear U;refine yD Y Y dq Y Y func112 rq Y ⟨mC _,?_⟩;simp;have⟨n,k,p⟩:=UM g h;obtain rfl:=Kh k;refine p (base 112) [] _ Y dq ?_;rintro⟨fr,vs⟩ e a w ⟨rfl,hvs,hd,g⟩;obtain rfl:vs=[]:=hvs;show XK _ _ _ _;refine C.step Y λ_ U=>?_;replace g:=g.rely U;clear U;rw[stepG_end];simp only[goes_go];refine⟨mC _,Way.stop λj U=>?_⟩;replace g:=HE.rely g U;have⟨s,o⟩:=a;obtain rfl:o=[wL N]:=hd;exact OJ g s
end
abbrev Y2(Wg C:Nat):ConcX.Shy Wg C where
 ok:=λact=>∀x,act.touch?=some x->∀ad:Addr,x.loc=.cell ad->ad.block=Wg\/ad.block=C
 atomicWg:=λa wr h x hx ad e=>by simp only[MemAct.touch?,Option.some.injEq] at hx; subst hx; cases e; exact .inl h
 readWg:=λa h x hx ad e=>by simp only[MemAct.touch?,Option.some.injEq] at hx; subst hx; cases e; exact .inl h
 writeWg:=λa h x hx ad e=>by simp only[MemAct.touch?,Option.some.injEq] at hx; subst hx; cases e; exact .inl h
 theirs:=λa wr h x hx ad e=>by simp only[MemAct.touch?,Option.some.injEq] at hx; subst hx; cases e; exact .inr h
 disable:=λx hx=>(by cases hx)
 enable:=λx hx=>(by cases hx)
 relMerge:=λx hx=>(by cases hx)
 acquire:=λx hx=>(by cases hx)
 go1:=λx hx=>(by cases hx)
 start:=λx hx=>(by cases hx)
 stop:=λ_ _=>True
theorem Wl{Post:Value->World->Prop}{S:Nat->Prop}{Wg C:Nat}{b₀:Frame}{a₀:Act}{ops₀:Array Oper}{i₀:Nat}{rest₀:List Nat}{k₀:List Item}{cs:List Frame}{w:World}(h1:¬S Wg)(h2:¬S C)(m:w.heap[Wg]?=some (.cells #[.int .u64 0,.int .u32 0] 169))
 (l:ZI prog Post 0 S (G (b₀.at (a₀.put ((ops₀[i₀]?).bind (·.dst))<|.tuple #[]) (.inRegion ops₀ rest₀::k₀)) cs) (w.setCell ⟨Wg,0,none⟩<|.int .u64 4294967296)) :
  ZI prog Post 0 S (G ((base 199).at ⟨#[.pointer (sq Wg),.int .i64 1,undef,undef,undef,undef,undef,undef,undef,undef,undef,undef,undef,undef,undef,undef,undef,undef,undef,undef,undef,undef,undef,undef,undef,undef,undef,undef,undef,undef,undef,undef,undef,undef,undef,undef,undef,undef,undef,undef,undef,undef,undef,undef,undef,undef,undef,undef,undef,undef,undef,undef,undef,undef,undef,undef,undef,undef,undef,undef,undef,undef,undef,undef,undef,undef,undef,undef,undef,undef,undef,undef,undef,undef,undef,undef,undef,undef,undef,undef,undef,undef,undef,undef,undef,undef,undef,undef,undef,undef,undef,undef,undef,undef,undef,undef,undef,undef,undef,undef,undef,undef,undef,undef,undef,undef,undef,undef,undef,undef,undef,undef,undef,undef,undef,undef,undef],[]⟩ [.code (ConcX.Gen.body_add link)]) (b₀.at a₀ (.inRegion ops₀ (i₀::rest₀)::k₀)::cs)) w:=by
 have b:∀e,@ConcX.EvS Wg C (Y2 Wg C) e->EvS S e:=by
  intro e U;refine⟨λx o i k d=>?_,λh=>?_,λh=>?_⟩
  .rcases U.2.2.2.2.2 x o i k with z|z
   .exact h1<|z▸d
   .exact h2<|z▸d
  .exact U.2.2.2.1<|ConcX.ofEvent_loc_mark h
  .exact U.2.2.2.2.1<|ConcX.ofEvent_loc_mark h
 refine ZI.goes b (λg w h=>vo Y Y (λg w a=>?_) h)<|@ConcX.Gen.addPos link Wg C (Y2 Wg C) b₀ a₀ ops₀ i₀ rest₀ k₀ cs _ 0 prog xY w m (λf c=>ZI.closed.rely l c);have⟨n,a⟩:=a;refine ZI.goes b (λg w h=>vo Y Y (λg w a=>?_) h) a;have⟨n,a⟩:=a;exact ZI.goes b (λg w h=>h w<|atRel_refl w) a
def zd(b:Option Code):Code:=match b with|some (.seq _<|.seq _<|.seq _<|.seq _ c)=>c|_=>.skip
def ik (b:Option Code)(n:Nat):Array Oper:=match zd b with|.seq (.region _ o4 _) (.seq (.region _ o5 _)<|.seq (.region _ o6 _)<|.seq (.region _ o7 _)<|.region _ o8 _)=>if n=4 then o4 else if n=5 then o5 else if n=6 then o6 else if n=7 then o7 else o8|_=>#[]
section
variable {w aK:World}
variable [ConcR.Payload][ConcX.Payload]
variable [ConcX.Shy (Cfg.Wg<|aJ prog N Pb Shun val B Mz) (Cfg.C<|aJ prog N Pb Shun val B Mz)]
theorem Ja{K:Cfg}[ConcX.Shy K.Wg K.C]{L:Nat}{A U:Gq}{Post:Value->World->Prop}(h:∀g w,A g w->U g w)(g:Goroutine)(w:World):oR K L A Post g w->oR K L U Post g w:=λ⟨h1,d,h2,h3,e⟩ =>⟨h1,d,h2,λz=>(h3 z).imp λ_ q=>ConcN.goes_mono (λ_ _ ⟨a,b,c⟩=>⟨a,b,λz=>(c z).imp λ_ q=>⟨q.1,q.2.imp λ_ q=>ConcN.goes_mono h q⟩⟩) q,e⟩
def Cv(K:Cfg)[ConcX.Payload][ConcX.Shy K.Wg K.C](F:World->Prop)(b:Frame)(k:List Item)(cs:List Frame)(g:Goroutine)(w:World):Prop :=
 ∃a:Act,a.defers=[]/\ConcX.Gen.AnchW7 link F K.Wg K.C [K.val] (b.at a (.inRegion (ik f61.body 8) [0]::k)) cs g w
theorem Vp(e:∀w c,ConcX.Aside2 N (N+6) w c->F w->F c){b:Frame}(q:b.kind≠.early)(p:a.defers=[])(o:a.eval (.tmp 6)=.pointer (sq<|N+6))(f:F w)(m:E1 (aJ prog N Pb Shun val B Mz) w) :
  XM (aJ prog N Pb Shun val B Mz) (Cv (aJ prog N Pb Shun val B Mz) F b k cs) (.join L) (G (b.at a (.code (.region 8 (ik f61.body 8) false)::k)) cs) w:=by
 have C:cG prog true _ _ (XM _<|Cv (aJ prog N Pb Shun val B Mz) F b k cs):=XM.closed (K:=(aJ prog N Pb Shun val B Mz));have T:=uA (K:=(aJ prog N Pb Shun val B Mz));have j:∀{w c},rK (aJ prog N Pb Shun val B Mz) (.join L) w c->F w/\E1 _ w->F c/\E1 _ c:=λ{w c} r h=>by have n:=r;exact⟨e _ _ n.aside h.1,n.ka h.2⟩
 have U:F w/\E1 _ w:=⟨f,m⟩;clear f m;refine C.step Y λ_ d=>?_;replace U:=j d U;clear d;rw[stepG_region];simp only[goes_go];refine⟨(T<|.join L).idle _,?_⟩;have s:List.range (ik f61.body 8).size=[0]:=rq
 rw[s];refine C.step Y λc d=>?_;replace U:=j d U;clear d;refine goes_call (b:=b) (a:=a) (i:=0) Y Y q Y xY.f_wait (ConcX.Gen.nm_wait link) Y ⟨(T<|.join L).idle _,?_⟩;have l:=ConcX.Gen.waitStart (L:=link) (P:=prog) (Wg:=Cfg.Wg<|aJ prog N Pb Shun val B Mz) (C:=Cfg.C<|aJ prog N Pb Shun val B Mz) (Low:=L) (Mine:=Mz) (F:=F) (b₀:=b) (a₀:=a) (ops₀:=ik f61.body 8) (i₀:=0) (rest₀:=[]) (k₀:=k) (cs:=cs) xY (λ_ _ r h=>e _ _ r h) c U;have t:(#[Operand.tmp 6].map a.eval)=#[Value.pointer (sq<|N+6)]:=by simp[o]
 rw[t];walk_nrmf Conc.Lib.waitFn;exact Way.uE (λ_ _ h=>h) (λ_ _ _ h=>h) (λg w h=>(λ⟨h1,u,h2,m,h3⟩=>⟨h1,u,h2,m,ConcN.goes_mono (λ_ _ h=>⟨a,p,h⟩) h3⟩) h)<|cY l
end
def t47 (N:Nat)(nv nx x11:Value):Aq:=#[nv,nx,.pointer<|some ⟨N+1,0,none⟩,undef,.pointer<|some ⟨N+3,0,none⟩,.pointer<|some ⟨N+5,0,none⟩,.pointer<|some ⟨N+6,0,none⟩,undef,.chan<|some<|N+2,.chan<|some<|N+4,iu N,x11,undef,undef,undef,undef,undef,undef,undef,undef,undef,undef]
def YD (b:Option Code):Array Oper:=match b with|some (.seq _<|.seq _<|.region _ o _)=>o|_=>#[]
abbrev pD:Value:=.slice none 0 0
variable {Ex:Nat->Prop}{w₀:World}{Az:Gq}{u:Value}{tk:Iq}{en:Bool}{Rb:Nat}
section
variable {w aK:World}{v:Value}{rest:Iq}
structure HG(N:Nat)(A:World->Prop)(w:World):Prop where
 lv:w.heap[N+3]?=some (.cells #[.chan (some<|N+2)] 158)
 ev:w.heap[N+5]?=some (.cells #[.chan (some<|N+4)] 159)
 size:N+9<=w.heap.size
 a:A w
theorem HG.rm(hA:∀w aK,RM (aJ prog N Pb Shun val B Mz) w aK->A w->A aK)(h:HG N A w)(r:RM (aJ prog N Pb Shun val B Mz) w aK):HG N A aK:=by
 have hs:=h.size;have hb:∀b,b=N+3\/b=N+5->aK.heap[b]?=w.heap[b]?:=λb hb=>r.block b oq (λz=>by
  rcases z with z|⟨z,_⟩
  .have z':b=N:=z;omega
  .have z':N+9<=b:=z;omega) (by show ¬(b=N+2\/b=N+4\/b=N+6);omega);exact⟨(hb _<|.inl Y).trans h.lv,(hb _<|.inr Y).trans h.ev,lT hs r.size,hA _ _ r h.a⟩
theorem zv(F:K.Fit){o:Nat}(U:K.Still b)(f:K.N0<=w.heap.size):Zt K w ⟨.cell ⟨b,o,none⟩,false,false⟩:=by
 refine⟨λx g=>?_,iq,iq,by simp[MemAct.ofEvent]⟩;have c:x=⟨.cell ⟨b,o,none⟩,false,.plain⟩:=by simpa[MemAct.ofEvent,MemAct.touch?] using g.symm
 subst c;refine⟨⟨?_,λ_=>Y,λh=>absurd h<|F.sh ⟨b,o,none⟩ U⟩,λd e=>?_,λd e=>?_⟩
 .rintro(⟨a,e,h⟩|e|⟨a,e,h⟩)
  .cases e;exact F.ks w _ h U
  .cases e
  .cases e
 .cases e;exact lL (F.s0 b U) f
 .cases e
theorem Hn(h:∀e∈es,Zt K w e):DM K w w es:=⟨λ_ _=>Y,λ_ h=>h,lr,h⟩
theorem BI[ConcX.Payload]{i:Ph}(hi:i.early)(h:rK K i w aK):RM K w aK:=by
 cases i using Ph.cD with
 | join=>exact hi.elim
 | _=>exact h
def iI(N:Nat):Aq:=#[.chan (some<|N+2),.chan<|some<|N+4,pD,.bool false]
theorem HW.start(F:Cfg.Fit (aJ prog N Pb Shun val B Mz))(U:N+9<=w.heap.size):HW (aJ prog N Pb Shun val B Mz) (tO w.heap.size pD) (w.alloc<|.cells (iI N) 175) w.heap.size pD pD [] false (w.alloc<|.cells (iI N) 175):=by have o:Own fa (dK<|aJ prog N Pb Shun val B Mz) w (w.alloc<|.cells (iI N) 175):=eB (by simp[fa]);exact⟨heap_alloc_new w _,(C4 F).new U o lr<|by simp_all,.inl<|.inl Y,oW.none _ _ _ _ _,by simp;show N+9<=_;omega,Kept.refl _⟩
variable [ConcR.Payload][ConcX.Payload]
variable [ConcX.Shy (Cfg.Wg<|aJ prog N Pb Shun val B Mz) (Cfg.C<|aJ prog N Pb Shun val B Mz)]
theorem Uc{A F:World->Prop}{I:Nat->World->Prop}{b:Frame}{k:List Item}{cs:List Frame}{tm:Aq}{f:FuncId}{cap:Aq}{H:Value}(x:Cfg.Fit (aJ prog N Pb Shun val B Mz))(hb:b.fn=61)(hk:b.kind≠.early)(l:Iq)(hn:l.length<=1000000)
 (Z:∀w g,RM (aJ prog N Pb Shun val B Mz) w g->A w->A g)(aa:∀w cs,A w->A (w.alloc<|.cells cs 175))
 (a7:∀u d w,N<=d->A w->HW (aJ prog N Pb Shun val B Mz) (tO d pD) w d pD pD [] false w->gj prog (XM (aJ prog N Pb Shun val B Mz) u) f (#[.pointer (sq d)]++cap) (.front<|V l) w (λi' _ W=>∃D j v' S s R,S++s=l/\KA s R i'/\HW (aJ prog N Pb Shun val B Mz) D j d v' v' S R W/\(∀b,tO d v' b->N<=b)/\I d W))
 (a5:∀d w g,RM (aJ prog N Pb Shun val B Mz) w g->I d w->I d g)(af:∀d D j v M J w W,HW (aJ prog N Pb Shun val B Mz) D j d v v M J w->(∀b,tO d v b->N<=b)->Kept (dK<|aJ prog N Pb Shun val B Mz) (jZ<|aJ prog N Pb Shun val B Mz) (tO d v) w W->I d w->I d W)(ag:∀d w,I d w->F w)(ae:∀w g,ConcX.Aside2 N (N+6) w g->F w->F g)(U:HG N A w) :
  XM (aJ prog N Pb Shun val B Mz) (Cv (aJ prog N Pb Shun val B Mz) F b k cs) (.front<|V l) (G ((base 111).at ⟨tm,[]⟩ [.inRegion (YD f111.body) []]) (b.at ⟨t47 N H (.func (.func f) #[] cap) undef,[]⟩ (.inRegion (ik f61.body 4) [1]::.code (.seq (.region 5 (ik f61.body 5) false)<|.seq (.region 6 (ik f61.body 6) false)<|.seq (.region 7 (ik f61.body 7) false)<|.region 8 (ik f61.body 8) false)::k)::cs)) w:=by
 generalize ab:Cv (aJ prog N Pb Shun val B Mz) F b k cs=u;have C:cG prog true (rK<|aJ prog N Pb Shun val B Mz) (yT<|aJ prog N Pb Shun val B Mz) (XM (aJ prog N Pb Shun val B Mz) u):=XM.closed (K:=(aJ prog N Pb Shun val B Mz));have T:=uA (K:=(aJ prog N Pb Shun val B Mz));have E:Env fa (N+9) (dK<|aJ prog N Pb Shun val B Mz) (jZ<|aJ prog N Pb Shun val B Mz) (rK (aJ prog N Pb Shun val B Mz)<|.front<|V l) (yT (aJ prog N Pb Shun val B Mz)<|.front<|V l):=C5 (K:=(aJ prog N Pb Shun val B Mz)) x trivial;have z:∀{w g},HG N A w->rK (aJ prog N Pb Shun val B Mz) (.front<|V l) w g->HG N A g:=λh r=>HG.rm Z h r;refine C.step rfl λ_ c=>?_;replace U:=z U c;clear c;rw[stepG_region_end];simp only[goes_go];refine⟨(T<|.front<|V l).idle _,C.step rfl λ_ c=>?_⟩;replace U:=z U c;clear c;rw[stepG_end];simp only[goes_go];refine⟨(T<|.front<|V l).idle _,C.step rfl λ_ c=>?_⟩;replace U:=z U c;clear c;rw[stepG_leave (b:=base 111) rfl rfl func111 (results_none rfl _ _ _) (events_results_none rfl _ _)];simp only[goes_go];refine⟨(T<|.front<|V l).idle _,?_⟩;rw[Frame.finish_at];have lz:((ik f61.body 4)[1]?).bind (·.dst)=some 11:=rq
 rw[lz];have ht:(⟨t47 N H (.func (.func f) #[] cap) undef,[]⟩:Act).put (some 11) (.tuple #[])=⟨t47 N H (.func (.func f) #[] cap)<|.tuple #[],[]⟩:=rq
 rw[ht];refine C.step rfl λ_ c=>?_;replace U:=z U c;clear c;rw[stepG_region_end];simp only[goes_go];refine⟨(T<|.front<|V l).idle _,C.step rfl λ_ c=>?_⟩;replace U:=z U c;clear c;rw[stepG_seq];simp only[goes_go];refine⟨(T<|.front<|V l).idle _,?_⟩;have Y:∀w,HG N A w->iO (XM (aJ prog N Pb Shun val B Mz) u) 61 (.region 5 (ik f61.body 5) false) (.front<|V l) (λi e a w=>e=.normal/\i=.front (V l)/\∃d,a=⟨#[H,.func (.func f) #[] cap,.pointer<|sq<|N+1,undef,.pointer<|sq<|N+3,.pointer<|sq<|N+5,.pointer<|sq<|N+6,.pointer<|sq d,.chan<|some<|N+2,.chan<|some<|N+4,iu N,.tuple #[],.chan<|some<|N+2,.chan<|some<|N+4,.agg<|iI N,.pointer<|sq d,undef,undef,undef,undef,undef,undef],[]⟩/\N<=d/\A w/\HW (aJ prog N Pb Shun val B Mz) (tO d pD) w d pD pD [] false w) ⟨t47 N H (.func (.func f) #[] cap)<|.tuple #[],[]⟩ w:=by
  have bd:=λw=>run_build (P:=prog) w 175 #[(0,.chan<|some<|N+2),(1,.chan<|some<|N+4)] (iI N) kq;have be:=λw es=>lx (P:=prog) w 175 #[(0,.chan<|some<|N+2),(1,.chan<|some<|N+4)] (iI N) kq es;have bx:=λw t v=>G8 prog w t v;have bxe:=λw t v es=>wF prog w t v es;intro w U;simp only[ik,zd,f61,t47];refine bv C T ?_;simp only[Nat.reduceEqDiff,reduceIte,jb,Nat.reduceAdd,bI];refine aM C rfl rq λ_ p q n=>?_;replace U:=z U p;clear p;have hc:=cell1 U.lv;go_simp;try (unfold stored;go_simp)
  refine n _ _ ⟨?_,?_⟩
  .refine Hn ?_;co_evs (exact zv (K:=(aJ prog N Pb Shun val B Mz)) x (.inr<|.inl rfl) U.size)
  clear n q;try walk_nrm
  clear hc;refine aM C rfl rq λ_ p q n=>?_;replace U:=z U p;clear p;have hc:=cell1 U.ev;go_simp;try (unfold stored;go_simp)
  refine n _ _ ⟨?_,?_⟩
  .refine Hn ?_;co_evs (exact zv (K:=(aJ prog N Pb Shun val B Mz)) x (.inr<|.inr<|.inl rfl) U.size)
  clear n q;try walk_nrm
  clear hc;refine aM C rfl rq λ_ p q n=>?_;replace U:=z U p;clear p;go_simp;try (unfold stored;go_simp)
  refine n _ _ ⟨?_,?_⟩
  .co_still (T _)
  clear n q;try walk_nrm
  refine aM C rfl rq λ_ p q n=>?_;replace U:=z U p;clear p;go_simp;try (unfold stored;go_simp)
  refine n _ _ ⟨?_,?_⟩
  .refine AP E U.size (eB<|by simp[fa]) ?_;co_evs (skip)
  clear n q;try walk_nrm
  have m:=HW.start (w:=_) x U.size;have a8:=lT (Nat.le_add_right N 9) U.size;replace U:=aa _ (iI N) U.a;refine aM C rfl rq λ_ p q n=>?_;replace U:=Z _ _ (show RM (aJ prog N Pb Shun val B Mz) _ _ from p) U;replace m:=(kB (i:=.over) x m<|show RM (aJ prog N Pb Shun val B Mz) _ _ from p).ol;clear p;go_simp;refine n _ _ ⟨?_,?_⟩
  .co_quiet (T _)
  clear n q;try walk_nrm
  refine bO C T ?_;grind
 refine Y _ U b (.code (.seq (.region 6 (ik f61.body 6) false)<|.seq (.region 7 (ik f61.body 7) false)<|.region 8 (ik f61.body 8) false)::k) cs hb hk ?_;clear U Y;rintro i e a w ⟨rfl,rfl,d,rfl,a8,U,m⟩;show XM (aJ prog N Pb Shun val B Mz) u (.front<|V l) _ _;refine C.step rfl λ_ c=>?_;replace U:=Z _ _ (show RM (aJ prog N Pb Shun val B Mz) _ _ from c) U;replace m:=(kB (i:=.over) x m<|show RM (aJ prog N Pb Shun val B Mz) _ _ from c).ol;clear c;rw[stepG_seq];simp only[goes_go];refine⟨(T<|.front<|V l).idle _,?_⟩;have h6:∀w,A w->HW (aJ prog N Pb Shun val B Mz) (tO d pD) w d pD pD [] false w->iO (XM (aJ prog N Pb Shun val B Mz) u) 61 (.region 6 (ik f61.body 6) false) (.front<|V l) (λi e a w=>e=.normal/\∃Q D j v M o J,a=⟨#[H,.func (.func f) #[] cap,.pointer<|sq<|N+1,undef,.pointer<|sq<|N+3,.pointer<|sq<|N+5,.pointer<|sq<|N+6,.pointer<|sq d,.chan<|some<|N+2,.chan<|some<|N+4,iu N,.tuple #[],.chan<|some<|N+2,.chan<|some<|N+4,.agg<|iI N,.pointer<|sq d,.func (.func f) #[] cap,.pointer<|sq d,Q,undef,undef,undef],[]⟩/\M++o=l/\KA o J i/\HW (aJ prog N Pb Shun val B Mz) D j d v v M J w/\(∀b,tO d v b->N<=b)/\I d w) ⟨#[H,.func (.func f) #[] cap,.pointer<|sq<|N+1,undef,.pointer<|sq<|N+3,.pointer<|sq<|N+5,.pointer<|sq<|N+6,.pointer<|sq d,.chan<|some<|N+2,.chan<|some<|N+4,iu N,.tuple #[],.chan<|some<|N+2,.chan<|some<|N+4,.agg<|iI N,.pointer<|sq d,undef,undef,undef,undef,undef,undef],[]⟩ w:=by
  intro w U m;simp only[ik,zd,f61];refine bv C T ?_;simp only[Nat.reduceEqDiff,reduceIte,jb,Nat.reduceAdd,bI];iterate 2
   refine aM C rfl rq λ_ c q n=>?_
   replace U:=Z _ _ (show RM (aJ prog N Pb Shun val B Mz) _ _ from c) U
   replace m:=(kB (i:=.over) x m<|show RM (aJ prog N Pb Shun val B Mz) _ _ from c).ol
   clear c
   go_simp
   try (unfold stored;go_simp)
   refine n _ _ ⟨?_,?_⟩
   .co_quiet (T _)
   clear n q;try walk_nrm
  refine mf (f:=f) (first:=#[]) (cap:=cap) (Ap:=.front<|V l) C T rfl rq rfl rfl (by simp[Act.eval]) rfl (a7 u d _ a8 U m) ?_;rintro i Q w ⟨D,j,v,M,o,J,h1,h2,h3,Y,h4⟩;exact bO C T ⟨rfl,Q,D,j,v,M,o,J,rfl,h1,h2,h3,Y,h4⟩
 refine h6 _ U m b (.code (.seq (.region 7 (ik f61.body 7) false)<|.region 8 (ik f61.body 8) false)::k) cs hb hk ?_;clear U m h6 E z;rintro i e a w ⟨rfl,Q,D,j,v,M,o,J,rfl,a9,O,m,ah,y⟩;show XM (aJ prog N Pb Shun val B Mz) u i _ _;refine C.step rfl λ_ c=>?_;replace y:=a5 _ _ _ (BI O.early c) y;replace m:=kB (i:=.over) x m<|BI O.early c;clear c;rw[stepG_seq];simp only[goes_go];refine⟨(T i).idle _,?_⟩;have h7:∀w,HW (aJ prog N Pb Shun val B Mz) D j d v v M J w->I d w->iO (XM (aJ prog N Pb Shun val B Mz) u) 61 (.region 7 (ik f61.body 7) false) i (λi e a w=>e=.normal/\i=.over/\∃X,a=⟨#[H,.func (.func f) #[] cap,.pointer<|sq<|N+1,undef,.pointer<|sq<|N+3,.pointer<|sq<|N+5,.pointer<|sq<|N+6,.pointer<|sq d,.chan<|some<|N+2,.chan<|some<|N+4,iu N,.tuple #[],.chan<|some<|N+2,.chan<|some<|N+4,.agg<|iI N,.pointer<|sq d,.func (.func f) #[] cap,.pointer<|sq d,Q,.pointer<|sq d,X,undef],[]⟩/\I d w) ⟨#[H,.func (.func f) #[] cap,.pointer<|sq<|N+1,undef,.pointer<|sq<|N+3,.pointer<|sq<|N+5,.pointer<|sq<|N+6,.pointer<|sq d,.chan<|some<|N+2,.chan<|some<|N+4,iu N,.tuple #[],.chan<|some<|N+2,.chan<|some<|N+4,.agg<|iI N,.pointer<|sq d,.func (.func f) #[] cap,.pointer<|sq d,Q,undef,undef,undef],[]⟩ w:=by
  intro w m y;simp only[ik,zd,f61];refine bv C T ?_;simp only[Nat.reduceEqDiff,reduceIte,jb,Nat.reduceAdd,bI];refine aM C rfl rq λ_ c q n=>?_;replace y:=a5 _ _ _ (BI O.early c) y;replace m:=kB (i:=.over) x m<|BI O.early c;clear c;go_simp;try (unfold stored;go_simp)
  refine n _ _ ⟨?_,?_⟩
  .co_quiet (T _)
  clear n q;try walk_nrm
  refine mf C T rfl rq rfl rfl (by simp[Act.eval]) rfl (OO x l a9 hn m.ol O) ?_;rintro _ X w ⟨rfl,v2,hD⟩;exact bO C T ⟨rfl,rfl,X,rfl,af _ _ _ _ _ _ _ _ m ah hD.old y⟩
 refine h7 _ m y b (.code (.region 8 (ik f61.body 8) false)::k) cs hb hk ?_;clear m y h7 O;rintro i e a w ⟨rfl,rfl,X,rfl,y⟩;show XM (aJ prog N Pb Shun val B Mz) u .over _ _;subst ab;exact XM.Mm rfl λg c hka L hL=>(Vp ae hk rfl rfl (ag _ _<|a5 _ _ _ c y) hka)
end
structure He(w₀:World)(uo:List Obj)(w:World):Prop where
 tape:w.tape=w₀.tape
 os:w.os=w₀.os
 output:w.output=w₀.output
 old:∀b,b<w₀.heap.size->w.heap[b]?=w₀.heap[b]?
 size:w.heap.size=w₀.heap.size+uo.length
 blocks:∀j o,uo[j]?=some o->w.heap[w₀.heap.size+j]?=some o
variable {Post:Value->World->Prop}
section
variable {w aK:World}{uo:List Obj}
theorem He.rely(h:He w₀ uo w)(r:AtRel w aK):He w₀ uo aK:=by obtain⟨e,rfl⟩:=r;exact⟨h.tape,h.os,h.output,h.old,h.size,h.blocks⟩
def gv:=@He.rely
theorem He.alloc(h:He w₀ uo w)(o:Obj):He w₀ (uo++[o]) (w.alloc o):=by
 have d:=h.size;refine⟨h.tape,h.os,h.output,λb c=>(Below.heap_alloc _ _ _ oq).trans<|h.old b c,by simp;omega,λj x a=>?_⟩;rcases Nat.lt_or_ge j uo.length with h1|h1
 .rw[Cg h1] at a;exact(Below.heap_alloc _ _ _ oq).trans (h.blocks j x a)
 .rw[EN h1] at a;obtain⟨e,rfl⟩:j-uo.length=0/\o=x:=by
   cases U:j-uo.length with
   | zero=>rw[U] at a;simp at a;exact⟨Y,a⟩
   | succ m=>rw[U] at a;simp at a
  have:w₀.heap.size+j=w.heap.size:=oq
  rw[this];exact heap_alloc_new w o
theorem He.set(h:He w₀ uo w){j o:Nat}{cs:Aq}(U:uo[j]?=some (.cells cs t))(v:Value):He w₀ (uo.set j<|.cells (cs.setIfInBounds o v) t) (w.setCell ⟨w₀.heap.size+j,o,none⟩ v):=by
 refine⟨h.tape,h.os,h.output,λb c=>(bY w _ oq).trans<|h.old b c,by simpa[World.setCell] using h.size,λi x a=>?_⟩;by_cases e:i=j
 .subst e;have d:=(gS.1 U).1;rw[List.getElem?_set_self d] at a;obtain rfl:=Kh a;exact ep (h.blocks i _ U) v
 .rw[List.getElem?_set_ne (Ne.symm e)] at a;exact(bY w _ oq).trans (h.blocks i x a)
theorem Fx{e:Event}{ad:Addr}(h:∀b,S b->b<w₀.heap.size)(U:e.loc=.cell ad)(i:w₀.heap.size<=ad.block):EvS S e:=by
 have⟨l,f,d⟩:=e;obtain rfl:l=.cell ad:=U;refine⟨λx a g c k=>?_,iq,iq⟩;have j:x.loc=.cell ad:=by cases f<;>cases d<;>(simp[MemAct.ofEvent,MemAct.touch?] at a;rw[<-a])
 grind
theorem Hz(h:w.heap[b]?=some (.cells #[v] t)):w.frozen? ⟨b,0,none⟩=false:=by simp[World.frozen?,h]
theorem iL(w:World):DZ S w w #[]:=λe U=>by simp at U
def y8:Obj:=.chan 0 #[] false 0 0 false
end
variable {tC:TypeId}
section
variable {w aK:World}{nv:Value}
def u9(N:Nat)(val:Value)(tC:TypeId)(nv:Value):List Obj:=[.cells #[val] tC,.cells #[nv] 110,y8,.cells #[.chan (some<|N+2)] 158,y8,.cells #[.chan (some<|N+4)] 159,.cells #[.int .u64 4294967296,.int .u32 0] 169,.cells #[.pointer (some ⟨N+6,0,none⟩)] 240,.cells #[iu N] 1]
structure CE(w₀:World)(N Pb:Nat)(S:Nat->Prop):Prop where
 size:w₀.heap.size=N
 plo:Pb<N\/Pb=N+1
 sh:∀b,S b->b<N/\b≠Pb
def iv(N:Nat)(Shun:Loc->Prop)(l:Loc):Prop:=Shun l\/∃a:Addr,l=.cell a/\a.block=N+6
def SE (N:Nat)(S:Nat->Prop)(b:Nat):Prop:=S b\/b=N+6
structure Client(K:Cfg)(N:Nat)(l:Iq)(f:FuncId)(cap:Aq)(A F:World->Prop)(I:Nat->World->Prop):Prop where
 hA:∀w aK,RM K w aK->A w->A aK
 Te:∀w cs,A w->A (w.alloc<|.cells cs 175)
 next:∀[ConcR.Payload] [ConcX.Payload] [ConcX.Shy K.Wg K.C] (AW:Gq) (Rb:Nat) (w:World),N<=Rb->A w->HW K (tO Rb pD) w Rb pD pD [] false w->gj prog (XM K AW) f (#[.pointer (some ⟨Rb,0,none⟩)]++cap) (.front<|V l) w (λi' _ w'=>∃Ex w₀ v' Va D7 SA,Va++D7=l/\KA D7 SA i'/\HW K Ex w₀ Rb v' v' Va SA w'/\(∀b,tO Rb v' b->N<=b)/\I Rb w')
 hI1:∀Rb w aK,RM K w aK->I Rb w->I Rb aK
 ZD:∀Rb Ex w₀ v tk en w w',HW K Ex w₀ Rb v v tk en w->(∀b,tO Rb v b->N<=b)->Kept (dK K) (jZ K) (tO Rb v) w w'->I Rb w->I Rb w'
 hIF:∀Rb w,I Rb w->F w
theorem WN(H:CE w₀ N Pb S){Shun:Loc->Prop}(U:∀l,Shun l->∃c:Addr,l=.cell c/\S c.block):Cfg.Fit (aJ prog N Pb (iv N Shun) val (N+9)<|λ_=>False):=by
 have k:=H.plo;have g:∀c:Addr,iv N Shun (.cell c)->(c.block<N/\c.block≠Pb)\/c.block=N+6:=by
  rintro c (h|⟨a,e,h⟩)
  .have⟨a,e,h⟩:=U _ h;cases e;exact .inl<|H.sh _ h
  .cases e;exact .inr h
 constructor
 .show N+2≠N+4;omega
 .show N+2≠N+6;omega
 .show N+4≠N+6;omega
 .show ¬(N+2=N);omega
 .show ¬(N+4=N);omega
 .show ¬(N+6=N);omega
 .show N+2<N+9;omega
 .show N+4<N+9;omega
 .show N+6<N+9;omega
 .show ¬(N+2=N+1\/N+2=N+3\/N+2=N+5\/N+2=N+7\/N+2=N+8\/N+2=Pb);omega
 .show ¬(N+4=N+1\/N+4=N+3\/N+4=N+5\/N+4=N+7\/N+4=N+8\/N+4=Pb);omega
 .show ¬(N+6=N+1\/N+6=N+3\/N+6=N+5\/N+6=N+7\/N+6=N+8\/N+6=Pb);omega
 .intro b h;have d:b=N+1\/b=N+3\/b=N+5\/b=N+7\/b=N+8\/b=Pb:=h;show b<N+9;omega
 .intro b h;have d:b=N:=h;show b<N+9;omega
 .intro b h1 h2;have i:b=N:=h1;have j:b=N+1\/b=N+3\/b=N+5\/b=N+7\/b=N+8\/b=Pb:=h2;omega
 .exact Y
 .exact λa h=>.inr ⟨a,Y,h⟩
 .intro l h;have:∃a,l=.cell a:=by
   rcases h with h|⟨a,e,_⟩
   .grind
   .exact⟨a,e⟩
  obtain⟨a,rfl⟩:=this;refine⟨a,Y,?_⟩;show a.block<N+9;rcases g a h with z|z<;>omega
 .intro a h f;have d:a.block=N:=h;rcases g a f with z|z<;>omega
 .intro a h f;have d:a.block=N+1\/a.block=N+3\/a.block=N+5\/a.block=N+7\/a.block=N+8\/a.block=Pb:=h;rcases g a f with z|z<;>omega
 .show N+6<N+9;omega
 .show N<N+9;omega
theorem SV(H:CE w₀ N Pb S)(C:He w₀ (u9 N val tC nv) w)(p:l.length<=1000000){b:Frame}(E:b.fn=61)(J:b.kind≠.early){g:Goroutine}(O:g.status=.running)
 (B:∀e,stepG prog true g (w.at e)=.spawn (G ((base 111).at ⟨tm,[]⟩ [.inRegion (YD f111.body) []]) (b.at ⟨t47 N nv (.func (.func f) #[] cap) undef,[]⟩ (.inRegion (ik f61.body 4) [1]::.code (.seq (.region 5 (ik f61.body 5) false)<|.seq (.region 6 (ik f61.body 6) false)<|.seq (.region 7 (ik f61.body 7) false)<|.region 8 (ik f61.body 8) false)::k)::cs)) (born prog<|mQ N) (w.at e) #[])
 (x:∀(Shun:Loc->Prop) (e:Nat) [ConcR.Payload] [ConcX.Payload],XK (aJ prog N Pb (iv N Shun) val (N+9)<|λ_=>False) (true,V l) (born prog<|mQ N)<|w.at e)
 (z:∀Shun:Loc->Prop,(∀l,Shun l->∃o:Addr,l=.cell o/\S o.block)->Client (aJ prog N Pb (iv N Shun) val (N+9)<|λ_=>False) N l f cap A F I)(y:∀e,A<|w.at e)(U:∀w i,ConcX.Aside2 N (N+6) w i->F w->F i)
 (v:∀(a:Act) (w:World),a.defers=[]->F w->w.heap[N+6]?=some (.cells #[.int .u64 0,.int .u32 0] 169)->ZI prog Post 0 (SE N S) (G (b.at (a.put (some 21)<|.tuple #[]) (.inRegion (ik f61.body 8) []::k)) cs) w) :
  ZI prog Post 0 S g w:=by
 letI IR:ConcR.Payload:=⟨tC⟩;letI IX:ConcX.Payload:=⟨tC⟩;refine ZI.fork O B λe Shun j=>?_;have c:=WN (val:=val) H j;have n:=z Shun j;obtain rfl:=H.size;have d:=C.rely ⟨e,Y⟩;refine⟨aJ prog w₀.heap.size Pb _ val (w₀.heap.size+9)<|λ_=>False,IX,IR,GD _ c<|ZI prog Post 0<|SE w₀.heap.size S,
  @Cv (aJ prog w₀.heap.size Pb _ val (w₀.heap.size+9)<|λ_=>False) IX (GD _ c<|ZI prog Post 0<|SE w₀.heap.size S) F b k cs,λ_ _=>True,V l,λb=>¬SE w₀.heap.size S b,w₀.heap.size+7,?_⟩;have P:(w.at e).heap.size=w₀.heap.size+9:=d.size;constructor
 .rfl
 .exact c
 .rfl
 .exact @qD.mk _ (GD _ c _) λR h=>h
 .rintro g w ⟨a,_,T,rfl,_⟩;rfl
 .rintro L Q g w ⟨a,u,h⟩;have⟨m,M⟩:=@ConcX.Gen.waitRound IX link (λ_=>False) (w₀.heap.size+6) w₀.heap.size L (GD _ c<|ZI prog Post 0<|SE w₀.heap.size S) [val] (λ_ _=>True) F b a (ik f61.body 8) 0 [] k cs 0 prog xY oq (λ_ _ r h=>U _ _ r h) (λw t D _ i q=>⟨Y,ZI.closed.rely (v a w u t D) q⟩) g w h;exact⟨m,ConcN.goes_mono (λg w h=>@Ja IR IX (aJ prog w₀.heap.size Pb _ val (w₀.heap.size+9)<|λ_=>False) (GD _ c<|ZI prog Post 0<|SE w₀.heap.size S) L _ _ _ (λ_ _ h=>⟨a,u,h⟩) g w h) M⟩
 .exact λl s=>.inl s
 .intro l s;obtain⟨o,rfl,K⟩:=c.mj l s;rcases s with h|⟨a,e,h⟩
  .have⟨a,e,h⟩:=j _ h;cases e;exact⟨o,Y,by have:=(H.sh _ h).1;omega,λp=>p<|.inl h⟩
  .cases e;exact⟨o,Y,oq,λp=>p<|.inr h⟩
 .exact x Shun e
 .exact @Uc w₀.heap.size Pb _ _ _ _ _ IR IX (GD _ c<|ZI prog Post 0<|SE w₀.heap.size S) A F I b k cs tm f cap nv c E J l p n.hA n.Te (@Client.next _ _ _ _ _ _ _ _ n IR IX (GD _ c<|ZI prog Post 0<|SE w₀.heap.size S)) n.hI1 n.ZD n.hIF U ⟨d.blocks 3 _ Y,d.blocks 5 _ Y,oq,y e⟩
 .show w₀.heap.size+9<=_;omega
 .exact d.blocks 6 _ Y
 .exact d.blocks 2 _ Y
 .exact d.blocks 4 _ Y
 .exact⟨_,d.blocks 0 _ Y,Y⟩
 .exact λa w h=>h _
end
section
variable {w aK:World}
def zU(N:Nat)(val:Value)(tC:TypeId)(nv:Value):List Obj:=[.cells #[val] tC,.cells #[nv] 110,y8,.cells #[.chan (some<|N+2)] 158,y8,.cells #[.chan (some<|N+4)] 159,.cells #[.int .u64 0,.int .u32 0] 169]
theorem Kf(val F:Value)(fr:FuncId)(cr:Aq)(G:TypeId)(U:He w₀ [.cells #[val] G] w)(E:∀b,S b->b<w₀.heap.size)(Q:gY (Nat->Prop))(c:Code)
 (H:∀w,He w₀ (zU w₀.heap.size val G<|.func (.func fr) #[] cr) w->iO (ZI prog Post 0) 61 c S Q ⟨#[(.func (.func fr) #[] cr),F,.pointer<|sq<|w₀.heap.size+1,undef,.pointer<|sq<|w₀.heap.size+3,.pointer<|sq<|w₀.heap.size+5,.pointer<|sq<|w₀.heap.size+6,undef,.chan<|some<|w₀.heap.size+2,.chan<|some<|w₀.heap.size+4,undef,undef,undef,undef,undef,undef,undef,undef,undef,undef,undef,undef],[]⟩ w) :
  ∀y z A B,f61.body=some (.seq y<|.seq z<|.seq A<|.seq B c)->iO (ZI prog Post 0) 61 (.seq y<|.seq z<|.seq A<|.seq B c) S Q ⟨#[(.func (.func fr) #[] cr),F,undef,undef,undef,undef,undef,undef,undef,undef,undef,undef,undef,undef,undef,undef,undef,undef,undef,undef,undef,undef],[]⟩ w:=by
 intro y z A B D;simp only[f61,xH,Code.seq.injEq] at D;obtain⟨rfl,rfl,rfl,rfl,rfl⟩:=D;have C:cG prog true (λ_:Nat->Prop=>AtRel) DZ (ZI prog Post 0):=ZI.closed;have T:∀S,Terms AtRel (DZ S):=xT;have⟨I,p,m⟩:=sT.1 (show(prog.info? 21).map (·.bytes)=some 4 by kernel_rfl);have⟨i2,q,n⟩:=sT.1 (show(prog.info? 160).map (·.bytes)=some 0 by kernel_rfl);have t:=λw=>run_makeChan (P:=prog) (w:=w) underlying158 p .i64 0 dq (by simp[m]);have u:=λw=>run_makeChan (P:=prog) (w:=w) underlying159 q .i64 0 dq (by simp[n]);have v:=λw r=>events_makeChan (P:=prog) (w:=w) underlying158 p .i64 0 dq (by simp[m]) r;have x:=λw r=>events_makeChan (P:=prog) (w:=w) underlying159 q .i64 0 dq (by simp[n]) r;simp only[Int.ofNat_zero,Int.cast_ofNat_Int] at t u v x;refine cu C T<|bv C T ?_;simp only[jb,Nat.reduceAdd];refine aM C Y rq λ_ f h a=>?_;replace U:=gv U f;clear f;go_simp;try (unfold stored;go_simp)
 refine a _ _ ⟨?_,?_⟩
 .intro e i;have g:=mem_listed i;simp[go_sem, *] at g
 clear a h;try walk_nrm
 have d:=U.size;simp only[lC,List.length_nil,Nat.reduceAdd,Nat.add_zero,Nat.zero_add] at d;simp only[d];clear d;replace U:=U.alloc<|.cells #[(.func (.func fr) #[] cr)] 110;simp only[List.cons_append,List.nil_append] at U;refine bO C T ?_;show iO _ _ _ _ _ _ _;refine cu C T<|bv C T ?_;simp only[jb,Nat.reduceAdd];refine aM C Y rq λ_ f h a=>?_;replace U:=gv U f;clear f;go_simp;try (unfold stored;go_simp)
 refine a _ _ ⟨?_,?_⟩
 .intro e i;have g:=mem_listed i;simp[go_sem, *] at g
 clear a h;try walk_nrm
 have d:=U.size;simp only[lC,List.length_nil,Nat.reduceAdd,Nat.add_zero,Nat.zero_add] at d;simp only[d];clear d;replace U:=U.alloc<|y8;simp only[List.cons_append,List.nil_append] at U;refine aM C Y rq λ_ f h a=>?_;replace U:=gv U f;clear f;go_simp;try (unfold stored;go_simp)
 refine a _ _ ⟨?_,?_⟩
 .intro e i;have g:=mem_listed i;simp[go_sem, *] at g
 clear a h;try walk_nrm
 have d:=U.size;simp only[lC,List.length_nil,Nat.reduceAdd,Nat.add_zero,Nat.zero_add] at d;simp only[d];clear d;replace U:=U.alloc<|.cells #[.chan none] 158;simp only[List.cons_append,List.nil_append] at U;refine aM C Y rq λ_ f h a=>?_;replace U:=gv U f;clear f;have k:=U.blocks 3 _ Y;have s:=cell1 k;have l:World.frozen? _ ⟨w₀.heap.size+3,0,none⟩=false:=Hz k;go_simp;try (unfold stored;go_simp)
 refine a _ _ ⟨?_,?_⟩
 .intro e i;have g:=mem_listed i;simp[go_sem, *] at g;subst g;exact Fx (w₀:=w₀) E Y iq
 clear a h;try walk_nrm
 clear k s l;replace U:=U.set (j:=3) (o:=0) Y<|.chan<|some<|w₀.heap.size+2;simp only[List.set,List.setIfInBounds_toArray] at U;refine bO C T ?_;show iO _ _ _ _ _ _ _;refine cu C T<|bv C T ?_;simp only[jb,Nat.reduceAdd];refine aM C Y rq λ_ f h a=>?_;replace U:=gv U f;clear f;go_simp;try (unfold stored;go_simp)
 refine a _ _ ⟨?_,?_⟩
 .intro e i;have g:=mem_listed i;simp[go_sem, *] at g
 clear a h;try walk_nrm
 have d:=U.size;simp only[lC,List.length_nil,Nat.reduceAdd,Nat.add_zero,Nat.zero_add] at d;simp only[d];clear d;replace U:=U.alloc<|y8;simp only[List.cons_append,List.nil_append] at U;refine aM C Y rq λ_ f h a=>?_;replace U:=gv U f;clear f;go_simp;try (unfold stored;go_simp)
 refine a _ _ ⟨?_,?_⟩
 .intro e i;have g:=mem_listed i;simp[go_sem, *] at g
 clear a h;try walk_nrm
 have d:=U.size;simp only[lC,List.length_nil,Nat.reduceAdd,Nat.add_zero,Nat.zero_add] at d;simp only[d];clear d;replace U:=U.alloc<|.cells #[.chan none] 159;simp only[List.cons_append,List.nil_append] at U;refine aM C Y rq λ_ f h a=>?_;replace U:=gv U f;clear f;have k:=U.blocks 5 _ Y;have s:=cell1 k;have l:World.frozen? _ ⟨w₀.heap.size+5,0,none⟩=false:=Hz k;go_simp;try (unfold stored;go_simp)
 refine a _ _ ⟨?_,?_⟩
 .intro e i;have g:=mem_listed i;simp[go_sem, *] at g;subst g;exact Fx (w₀:=w₀) E Y iq
 clear a h;try walk_nrm
 clear k s l;replace U:=U.set (j:=5) (o:=0) Y<|.chan<|some<|w₀.heap.size+4;simp only[List.set,List.setIfInBounds_toArray] at U;refine bO C T ?_;show iO _ _ _ _ _ _ _;refine cu C T<|bv C T ?_;simp only[jb,Nat.reduceAdd];refine aM C Y rq λ_ f h a=>?_;replace U:=gv U f;clear f;go_simp;try (unfold stored;go_simp)
 refine a _ _ ⟨?_,?_⟩
 .intro e i;have g:=mem_listed i;simp[go_sem, *] at g
 clear a h;try walk_nrm
 have d:=U.size;simp only[lC,List.length_nil,Nat.reduceAdd,Nat.add_zero,Nat.zero_add] at d;simp only[d];clear d;replace U:=U.alloc<|.cells #[.int .u64 0,.int .u32 0] 169;simp only[List.cons_append,List.nil_append] at U;refine bO C T ?_;show iO _ _ _ _ _ _ _;exact H _ U
end
section
variable {w aK:World}
theorem Nm(H:CE w₀ N Pb S)(c:He w₀ (zU N val tC<|.func (.func fr) #[] cr) w)(hn:l.length<=1000000){Q:gY (Nat->Prop)}
 (M:∀(Shun:Loc->Prop) (w:World) [ConcR.Payload] [ConcX.Payload],He w₀ (u9 N val tC<|.func (.func fr) #[] cr) w->XK (aJ prog N Pb (iv N Shun) val (N+9)<|λ_=>False) (true,V l) (born prog<|mQ N) w)
 (R:∀Shun:Loc->Prop,(∀l,Shun l->∃K:Addr,l=.cell K/\S K.block)->Client (aJ prog N Pb (iv N Shun) val (N+9)<|λ_=>False) N l f cap A F I)(O:∀w,He w₀ (u9 N val tC<|.func (.func fr) #[] cr) w->A w)(P:∀w m,ConcX.Aside2 N (N+6) w m->F w->F m)
 (hq:∀(a:Act) (w:World),a.defers=[]->F w->w.heap[N+6]?=some (.cells #[.int .u64 0,.int .u32 0] 169)->Q (SE N S) .normal a w) :
  iO (ZI prog Post 0) 61 (zd f61.body) S Q ⟨#[(.func (.func fr) #[] cr),(.func (.func f) #[] cap),.pointer<|sq<|N+1,undef,.pointer<|sq<|N+3,.pointer<|sq<|N+5,.pointer<|sq<|N+6,undef,.chan<|some<|N+2,.chan<|some<|N+4,undef,undef,undef,undef,undef,undef,undef,undef,undef,undef,undef,undef],[]⟩ w:=by
 have C:cG prog true (λ_:Nat->Prop=>AtRel) DZ (ZI prog Post 0):=ZI.closed;have s:∀b,S b->b<w₀.heap.size:=λb h=>by rw[H.size];exact(H.sh b h).1
 have a9:∀w r,(Instr.makeFunc (Fn.func 112) #[] #[Value.pointer (sq<|N+5),Value.pointer<|sq<|N+1,Value.pointer<|sq<|N+3]).events prog w r=r:=λw r=>by simp[Instr.makeFunc]
 have aa:∀w r,(Instr.makeFunc (Fn.func 200) #[] #[Value.pointer (sq<|N+7),Value.pointer<|sq<|N+8]).events prog w r=r:=λw r=>by simp[Instr.makeFunc]
 intro b k cs Y B Z;have t:(zd f61.body)=.seq (.region 4 (ik f61.body 4) false) (.seq (.region 5 (ik f61.body 5) false)<|.seq (.region 6 (ik f61.body 6) false)<|.seq (.region 7 (ik f61.body 7) false)<|.region 8 (ik f61.body 8) false):=rq
 rw[t];obtain rfl:=H.size;refine C.step rfl λ_ U=>?_;replace c:=c.rely U;clear U;rw[stepG_seq];simp only[goes_go];refine⟨iL _,C.step rfl λ_ U=>?_⟩;replace c:=c.rely U;clear U;rw[stepG_region];simp only[goes_go];refine⟨iL _,?_⟩;have D:List.range (ik f61.body 4).size=[0,1]:=rq
 rw[D];obtain⟨o,ho,J,T,W⟩:∃o,(ik f61.body 4)[0]?=some o/\o.op=.makeFunc (.func 112) #[] #[.tmp 5,.tmp 2,.tmp 4]/\o.dst=some 10/\o.guard=none:=⟨_,rfl,rfl,rfl,rfl⟩;refine C.step rfl λm U=>?_;replace c:=c.rely U;clear U;rw[stepG_value (v:=iu w₀.heap.size) (w':=m) ho (by simp[Region.wanted,W]) B (by unfold execOp;simp[J,Instr.makeFunc,Act.eval,iu]),listed_nil<|by unfold execOp;simp[J,Instr.makeFunc,Act.eval]];simp only[goes_go];refine⟨iL _,?_⟩;rw[T];have E:(⟨#[(.func (.func fr) #[] cr),(.func (.func f) #[] cap),.pointer<|sq<|w₀.heap.size+1,undef,.pointer<|sq<|w₀.heap.size+3,.pointer<|sq<|w₀.heap.size+5,.pointer<|sq<|w₀.heap.size+6,undef,.chan<|some<|w₀.heap.size+2,.chan<|some<|w₀.heap.size+4,undef,undef,undef,undef,undef,undef,undef,undef,undef,undef,undef,undef],[]⟩:Act).put (some 10) (iu w₀.heap.size)=⟨t47 w₀.heap.size (.func (.func fr) #[] cr) (.func (.func f) #[] cap) undef,[]⟩:=rq
 rw[E];refine C.step rfl λ_ U=>?_;replace c:=c.rely U;clear U;refine goes_call (b:=b) (a:=⟨t47 w₀.heap.size (.func (.func fr) #[] cr) (.func (.func f) #[] cap) undef,[]⟩) (ops:=ik f61.body 4) (i:=1) (args:=#[.tmp 6,.tmp 10]) (ats:=#[169,1]) rfl rfl B rfl func111 rq rfl ⟨iL _,?_⟩;have G:(#[Operand.tmp 6,Operand.tmp 10].map<|Act.eval ⟨t47 w₀.heap.size (.func (.func fr) #[] cr) (.func (.func f) #[] cap) undef,[]⟩)++Array.replicate (f111.ntmps-(#[Operand.tmp 6,Operand.tmp 10].map<|Act.eval ⟨t47 w₀.heap.size (.func (.func fr) #[] cr) (.func (.func f) #[] cap) undef,[]⟩).size) undef=#[.pointer (sq<|w₀.heap.size+6),iu w₀.heap.size,undef,undef,undef,undef,undef]:=by simp[Act.eval,t47,f111,Array.replicate_succ]
 rw[G];refine C.step rfl λ_ U=>?_;replace c:=c.rely U;clear U;rw[stepG_seq];simp only[goes_go];refine⟨iL _,C.step rfl λ_ U=>?_⟩;replace c:=c.rely U;clear U;rw[stepG_region];simp only[goes_go,jb,Nat.reduceAdd];refine⟨iL _,C.step rfl λ_ U=>?_⟩;replace c:=c.rely U;clear U;refine goes_oper_k rfl rfl dq<|λp g=>?_;go_simp;refine g _ _ ⟨?_,?_⟩
 .intro e u;have n:=mem_listed u;simp[go_sem, *] at n
 clear g p;try walk_nrm
 have q:=c.size;simp only[zU,lC,List.length_nil,Nat.reduceAdd,Nat.add_zero,Nat.zero_add] at q;simp only[q];clear q;replace c:=c.alloc<|.cells #[.pointer (sq<|w₀.heap.size+6)] 240;simp only[zU,List.cons_append,List.nil_append] at c;refine C.step rfl λ_ U=>?_;replace c:=c.rely U;clear U;refine goes_oper_k rfl rfl dq<|λp g=>?_;go_simp;refine g _ _ ⟨?_,?_⟩
 .intro e u;have n:=mem_listed u;simp[go_sem, *] at n
 clear g p;try walk_nrm
 have q:=c.size;simp only[zU,lC,List.length_nil,Nat.reduceAdd,Nat.add_zero,Nat.zero_add] at q;simp only[q];clear q;replace c:=c.alloc<|.cells #[iu w₀.heap.size] 1;simp only[zU,List.cons_append,List.nil_append] at c;refine C.step rfl λ_ U=>?_;replace c:=c.rely U;clear U;rw[stepG_region_end];simp only[goes_go];refine⟨iL _,C.step rfl λ_ U=>?_⟩;replace c:=c.rely U;clear U;rw[stepG_seq];simp only[goes_go];refine⟨iL _,C.step rfl λ_ U=>?_⟩;replace c:=c.rely U;clear U;rw[stepG_region];simp only[goes_go,jb,Nat.reduceAdd];refine⟨iL _,C.step rfl λ_ U=>?_⟩;replace c:=c.rely U;clear U;refine goes_oper_k rfl rfl dq<|λp g=>?_;have z:=cell1<|c.blocks 7 _ rfl;go_simp;refine g _ _ ⟨?_,?_⟩
 .intro e u;have n:=mem_listed u;simp[go_sem, *] at n;subst n;exact Fx (w₀:=w₀) s rfl iq
 clear g p;try walk_nrm
 clear z;refine C.step rfl λ_ U=>?_;replace c:=c.rely U;clear U;refine goes_call rfl rfl dq rfl xY.f_add (ConcX.Gen.nm_add link) rfl ⟨iL _,?_⟩;walk_nrmf Conc.Lib.addFn;have L:=@Wl Post S (w₀.heap.size+6) w₀.heap.size;simp only[ConcX.Gen.body_add,Conc.Lib.addFn,Option.getD_some] at L;refine L (λh=>by have:=s _ h;omega) (λh=>by have:=s _ h;omega) (c.blocks 6 _ rfl) ?_;replace c:=c.set (j:=6) (o:=0) rfl<|.int .u64 4294967296;simp only[List.set,List.setIfInBounds_toArray] at c;try walk_nrm
 refine C.step rfl λ_ U=>?_;replace c:=c.rely U;clear U;rw[stepG_region_end];simp only[goes_go];refine⟨iL _,C.step rfl λ_ U=>?_⟩;replace c:=c.rely U;clear U;rw[stepG_region];simp only[goes_go,jb,Nat.reduceAdd];refine⟨iL _,C.step rfl λ_ U=>?_⟩;replace c:=c.rely U;clear U;refine goes_oper_k rfl rfl dq<|λp g=>?_;go_simp;refine g _ _ ⟨?_,?_⟩
 .intro e u;have n:=mem_listed u;simp[go_sem, *] at n
 clear g p;try walk_nrm
 refine SV (A:=A) (F:=F) (I:=I) (k:=k) (cs:=cs) (tm:=#[.pointer (sq<|w₀.heap.size+6),iu w₀.heap.size,.pointer<|sq<|w₀.heap.size+7,.pointer<|sq<|w₀.heap.size+8,.pointer<|sq<|w₀.heap.size+6,.tuple #[],.func (.func 200) #[] #[.pointer (sq<|w₀.heap.size+7),.pointer<|sq<|w₀.heap.size+8]]) H c hn Y B rfl (λe=>?_) (λShun e _ _=>M Shun _<|c.rely ⟨e,rfl⟩) R (λe=>O _<|c.rely ⟨e,rfl⟩) P<|λa w y x X=>?_
 .rw[stepG_spawn (d:=mQ w₀.heap.size) rfl rfl dq (by simp[execOp,go_sem,resolve,Deferred.ofValue,mQ,Act.eval];rfl) rfl,listed_nil<|by simp[execOp,go_sem,resolve,Deferred.ofValue,Act.eval]];rfl
 .refine C.step rfl λm U=>?_;rw[stepG_region_end];simp only[goes_go];exact⟨iL _,C.rely (Z _ _ (a.put (some 21)<|.tuple #[]) _<|hq _ w y x X) U⟩
theorem YW(H:CE w₀ N Pb S)(e:He w₀ [.cells #[val] tC] w)(q:l.length<=1000000)
 (U:∀(Shun:Loc->Prop) (w:World) [ConcR.Payload] [ConcX.Payload],He w₀ (u9 N val tC<|.func (.func fr) #[] cr) w->XK (aJ prog N Pb (iv N Shun) val (N+9)<|λ_=>False) (true,V l) (born prog<|mQ N) w)
 (p:∀Shun:Loc->Prop,(∀l,Shun l->∃i:Addr,l=.cell i/\S i.block)->Client (aJ prog N Pb (iv N Shun) val (N+9)<|λ_=>False) N l f cap A F I)(n:∀w,He w₀ (u9 N val tC<|.func (.func fr) #[] cr) w->A w)(o:∀w d,ConcX.Aside2 N (N+6) w d->F w->F d) :
  gj prog (ZI prog Post 0) 61 #[(.func (.func fr) #[] cr),(.func (.func f) #[] cap)] S w (λm _ k=>m=SE N S/\F k/\k.heap[N+6]?=some (.cells #[.int .u64 0,.int .u32 0] 169)):=by refine jw func61 rq Y ?_;simp only[ntmps61,bZ];have j:=H.size;refine Kf val _ fr cr tC e (λb h=>by rw[j];exact(H.sh b h).1) _ _ (λw e=>?_) _ _ _ _ Y;rw[j] at e |-;exact Nm H e q U p n o λa w g h1 h2=>⟨.inl Y,g,_,resultsC_none rq _,Y,h1,h2⟩
end
def aS(l:Iq):Bq:=l.flatMap Lib.encodeRune
theorem jg(l:Iq):(aS l).length<=4*l.length:=by
 induction l with
 | nil=>simp[aS]
 | cons r l a =>have U:aS (r::l)=Lib.encodeRune r++aS l:=Y;have h:=(Lib.runeCells_le r).2;rw[Lib.runeCells_length] at h;grind
section
variable {w aK:World}{v:Value}{rest:Iq}
variable {M:World->Nat->Prop}{O:Nat->Prop}{N0:Nat}{Oe:Nat->Prop}{Bb:Nat}{p:Value}{n:Nat}{xs:Vq}{w':World}
theorem HW.exs(h:HW K Ex w₀ Rb u v tk en w)(b:Nat)(U:tO Rb v b):Ex b\/w₀.heap.size<=b:=by
 rcases U with rfl|z
 .exact h.VE
 .exact(h.ro.own b z).2
theorem apart{y z x:Value}(a:HW K Ex w₀ Rb u v tk en w)(U:HM (dK K) (jZ K) N0 Oe aK Bb x y z n xs w):(¬tO Rb v Bb/\∀k,z.ownBlock=some k->¬tO Rb v k)/\(¬tO Bb z Rb/\∀k,v.ownBlock=some k->¬tO Bb z k):=by
 have h1:Bb≠Rb:=by
  rintro rfl
  have:=U.bd.symm.trans a.rb;simp at this
 refine⟨⟨?_,λk b=>?_⟩,⟨?_,λk b=>?_⟩⟩
 .rintro(e|e)
  .exact h1 e
  .exact a.ro.ne U.bd dq e Y
 .rintro(e|e)
  .exact U.ro.ne a.rb dq b e
  .have⟨_,c⟩:=U.ro.type b;have⟨_,d⟩:=a.ro.type e;grind
 .rintro(e|e)
  .exact h1 e.symm
  .exact U.ro.ne a.rb dq e Y
 .rintro(e|e)
  .exact a.ro.ne U.bd dq b e
  .have⟨_,c⟩:=U.ro.type e;have⟨_,d⟩:=a.ro.type b;grind
variable [ConcR.Payload][ConcX.Payload]
variable [ConcX.Shy (Cfg.Wg<|aJ prog N Pb Shun val B Mz) (Cfg.C<|aJ prog N Pb Shun val B Mz)]
end
theorem Up(l x:Nat)(U:l<32768)(a:x<64):bits .or .i32 ((l*64:Nat):Int) (x:Int)=((l*64+x:Nat):Int):=by
 have h1:(BitVec.ofInt 32 ((l*64:Nat))).toNat=l*64:=by rw[BitVec.ofInt_natCast];exact Nat.mod_eq_of_lt oq
 have h2:(BitVec.ofInt 32 x).toNat=x:=gq
 show IntKind.i32.wrap ((BitVec.ofInt 32 ((l*64:Nat):Int) ||| BitVec.ofInt 32 (x:Int)).toNat)=_;have h3:l*64 ||| x=l*64+x:=by have:=Nat.shiftLeft_add_eq_or_of_lt (i:=6) (b:=x) gq l;rw[Nat.shiftLeft_eq] at this;exact this.symm
 rw[BitVec.toNat_or,h1,h2,h3,IntKind.wrap_i32];omega
theorem n7(l b:Int)(a:0<=l)(h1:l<32768)(h2:0<=b)(h3:b<256):et l b=l*64+b % 64:=by
 have e1:IntKind.i32.wrap (l*64)=l*64:=by rw[IntKind.wrap_i32];omega
 have U:IntKind.i32.wrap (b % 64)=b % 64:=by rw[IntKind.wrap_i32];omega
 unfold et;rw[QX b h2 h3,e1,U]
 have:=Up l.toNat (b % 64).toNat oq oq;grind
theorem xh(b k:Int)(a:0<=b)(h1:b<256)(c:k=31\/k=15\/k=7):iV b k=b % (k+1):=by
 have h:∀n:_root_.Fin 256,bits .and .u8 n.val 31=n.val % 32/\bits .and .u8 n.val 15=n.val % 16/\bits .and .u8 n.val 7=n.val % 8:=by decide +kernel
 have U:=h ⟨b.toNat,oq⟩;simp only[Int.toNat_of_nonneg a] at U;unfold iV;rcases c with rfl|rfl|rfl
 .rw[U.1,IntKind.wrap_i32];omega
 .rw[IntKind.wrap_i32];omega
 .rw[IntKind.wrap_i32];omega
def EZ (d:DS):Prop :=
 d.missing=0 \/
 (d.missing=1/\d.low=128/\d.high=191/\((2<=d.letter/\d.letter<=863)\/(896<=d.letter/\d.letter<=17407))) \/
 (d.missing=2/\0<=d.letter/\d.letter<=15/\d.low=(oE<|224+d.letter).1/\d.high=(oE<|224+d.letter).2) \/
 (d.missing=2/\16<=d.letter/\d.letter<=271/\d.low=128/\d.high=191) \/
 (d.missing=3/\0<=d.letter/\d.letter<=4/\d.low=(oE<|240+d.letter).1/\d.high=(oE<|240+d.letter).2)
theorem yZ(d:DS)(b:Int)(i:0<=b)(h1:b<256)(j:d.missing=0):EZ (ec d b).1/\(∀r∈(ec d b).2,Good r)/\(ec d b).2.length<=1:=by
 unfold ec;by_cases U:b<128
 .simp only[ip U];refine⟨.inl j,λr f=>?_,iq⟩;have:IntKind.i32.wrap b=b:=by rw[IntKind.wrap_i32];omega
  simp at f;exact .inl oq
 by_cases a:b<194
 .simp only[iw U,ip a];exact⟨.inl j,λr f=>by simp at f;exact .inr oq,iq⟩
 by_cases g:b>244
 .simp only[iw U,iw a,ip g];exact⟨.inl j,λr f=>by simp at f;exact .inr oq,iq⟩
 by_cases h:b<224
 .simp only[iw U,iw a,iw g,ip h];refine⟨.inr<|.inl ⟨Y,?_,?_,?_⟩,iq,iq⟩
  .show(oE b).1=128;rw[oE,iw oq,iw oq,iw oq,iw oq]
  .show(oE b).2=191;rw[oE,iw oq,iw oq,iw oq,iw oq]
  .show(2<=iV b 31/\iV b 31<=863)\/(896<=iV b 31/\iV b 31<=17407);rw[xh b 31 i h1 iq];omega
 by_cases k:b<240
 .simp only[iw U,iw a,iw g,iw h,ip k];have e:iV b 15=b-224:=by rw[xh b 15 i h1 iq];omega
  have c:224+iV b 15=b:=oq
  exact⟨.inr<|.inr<|.inl ⟨Y,by show 0<=iV b 15;omega,by show iV b 15<=15;omega,by rw[c],by rw[c]⟩,iq,iq⟩
 .simp only[iw U,iw a,iw g,iw h,iw k];have e:iV b 7=b-240:=by rw[xh b 7 i h1 iq];omega
  have c:240+iV b 7=b:=oq
  exact⟨i3<|.inr ⟨Y,by show 0<=iV b 7;omega,by show iV b 7<=4;omega,by rw[c],by rw[c]⟩,iq,iq⟩
theorem FB(d:DS)(b:Int)(n:EZ d)(q:0<d.missing)(p:d.low<=b)(o:b<=d.high):EZ (dR d b).1/\(∀r∈(dR d b).2,Good r)/\(dR d b).2.length<=1:=by
 have g:∀x:Int,128<=(oE x).1/\(oE x).2<=191:=by intro x;unfold oE;(repeat' split)<;>exact⟨dq,dq⟩
 have U:(dR d b).2.length<=1:=by unfold dR;split<;>simp
 have j:∀m:Int,1<=m->m<=3->IntKind.i64.wrap (m-1)=m-1:=λm _ _=>by rw[IntKind.wrap_i64];omega
 rcases n with h|⟨h,h1,h2,h3⟩|⟨h,h1,h2,h3,h4⟩|⟨h,h1,h2,h3,h4⟩|⟨h,h1,h2,h3,h4⟩
 .omega
 .have e:=n7 d.letter b oq oq oq oq;refine⟨.inl ?_,λr c=>?_,U⟩
  .show IntKind.i64.wrap (d.missing-1)=0;grind
  .have:(dR d b).2=[et d.letter b]:=by unfold dR;rw[j _ oq oq];simp[h]
   rw[this,List.mem_singleton] at c;subst c;rw[e];unfold Good;omega
 .have l:=g<|224+d.letter;have e:=n7 d.letter b oq oq oq oq;have a:IntKind.i64.wrap (d.missing-1)=1:=gq
  refine⟨.inr<|.inl ⟨a,Y,Y,?_⟩,λr c=>?_,U⟩
  .show(2<=et d.letter b/\et d.letter b<=863)\/(896<=et d.letter b/\et d.letter b<=17407);rw[e];by_cases f:d.letter=0
   .have:(oE<|224+d.letter).1=160:=by rw[f];rfl
    omega
   .by_cases i:d.letter=13
    .have:(oE<|224+d.letter).2=159:=by rw[i];rfl
     omega
    .omega
  .have:(dR d b).2=[]:=by unfold dR;rw[a];simp
   rw[this] at c;simp at c
 .have e:=n7 d.letter b oq oq oq oq;have a:IntKind.i64.wrap (d.missing-1)=1:=gq
  refine⟨.inr<|.inl ⟨a,Y,Y,?_⟩,λr c=>?_,U⟩
  .show(2<=et d.letter b/\et d.letter b<=863)\/(896<=et d.letter b/\et d.letter b<=17407);rw[e];omega
  .have:(dR d b).2=[]:=by unfold dR;rw[a];simp
   rw[this] at c;simp at c
 .have l:=g<|240+d.letter;have e:=n7 d.letter b oq oq oq oq;have a:IntKind.i64.wrap (d.missing-1)=2:=gq
  refine⟨i3<|.inl ⟨a,?_,?_,Y,Y⟩,λr c=>?_,U⟩
  .show 16<=et d.letter b;rw[e];by_cases f:d.letter=0
   .have:(oE<|240+d.letter).1=144:=by rw[f];rfl
    omega
   .omega
  .show et d.letter b<=271;rw[e];by_cases k:d.letter=4
   .have:(oE<|240+d.letter).2=143:=by rw[k];rfl
    omega
   .omega
  .have:(dR d b).2=[]:=by unfold dR;rw[a];simp
   rw[this] at c;simp at c
theorem Ht(d:DS)(a:EZ d):(jD d).1.missing=0/\(∀r∈(jD d).2,Good r)/\(jD d).2.length<=1:=by
 unfold jD;split
 .exact⟨Y,λr U=>by simp[List.mem_singleton] at U;exact .inr oq,iq⟩
 .refine⟨?_,iq,iq⟩;rcases a with h|⟨h,_⟩|⟨h,_⟩|⟨h,_⟩|⟨h,_⟩<;>first|exact h|(exfalso;omega)
theorem N1(d:DS)(b:Int)(U:0<=b)(h1:b<256)(f:EZ d):EZ (fv d b).1/\(∀r∈(fv d b).2,Good r)/\(fv d b).2.length<=2:=by
 unfold fv;split
 .rename_i hm
  split
  .rename_i h
   have⟨a,c,e⟩:=FB d b f hm h.1 h.2;exact⟨a,c,oq⟩
  .have⟨a,c,e⟩:=Ht d f;have⟨i,j,k⟩:=yZ (jD d).1 b U h1 a;grind
 .rename_i hm
  have g:d.missing=0:=by rcases f with h|⟨h,_⟩|⟨h,_⟩|⟨h,_⟩|⟨h,_⟩<;>first|exact h|(exfalso;omega)
  have⟨a,c,e⟩:=yZ d b U h1 g;exact⟨a,c,oq⟩
theorem wK(c:CS)(l:Iq)(h:∀r∈l,Good r):(∀r∈(bM c l).2,Good r)/\(bM c l).2.length<=l.length:=by
 induction l generalizing c with
 | nil=>simp[bM]
 | cons r l a =>
  have⟨h1,h2⟩:=a (iX c r).1 λx U=>h x (by simp[U]);have h3:(∀x∈(iX c r).2,Good x)/\(iX c r).2.length<=1:=by
   simp only[iX];repeat' split
   .simp
   .simp
   .exact⟨λx U=>by simp at U;exact .inl oq,iq⟩
   .exact⟨λx U=>by simp at U;exact .inr oq,iq⟩
   .grind
  refine⟨λx U=>?_,by simp[bM];omega⟩;simp only[bM,List.mem_append] at U;exact U.elim (h3.1 x)<|h1 x
theorem Jv(l:Iq)(U:∀b∈l,0<=b/\b<256):∀(c:CS) (d:DS),EZ d->(∀r∈dT c d l,Good r)/\(dT c d l).length<=2*l.length+1:=by
 induction l with
 | nil =>intro c d a;rw[lh];have⟨_,h2,h3⟩:=Ht d a;have⟨e,f⟩:=wK c _ h2;exact⟨e,by simp;omega⟩
 | cons b l h =>intro c d a;rw[kn];have⟨h1,h2,h3⟩:=N1 d b (U b iq).1 (U b iq).2 a;have⟨e,f⟩:=wK c _ h2;have⟨i,j⟩:=h (λx g=>U x<|by simp[g]) (bM c (fv d b).2).1 _ h1;grind
theorem sO(s:ByteArray)(U:s.size<=20000):(∀r∈cJ s,Good r)/\4*(cJ s).length<=1000000:=by
 have⟨h1,h2⟩:=Jv (bytesOf s) (λb a=>by
  simp[bytesOf,List.mem_map] at a;obtain⟨x,_,rfl⟩:=a
  have:=x.toNat_lt;omega) ⟨false,false⟩ ⟨0,0,0,0⟩<|.inl Y;refine⟨h1,?_⟩;have h3:(bytesOf s).length=s.size:=by simp[bytesOf]
 unfold cJ;omega
def begun(d:DS):Nat:=if 0<d.missing then 1 else 0
theorem y9(c:CS)(l:Iq):(bM c l).2.length<=l.length:=by
 induction l generalizing c with
 | nil=>simp[bM]
 | cons r l U =>
  have h2:=U (iX c r).1;have h3:(iX c r).2.length<=1:=by simp[iX];grind
  simp[bM];omega
theorem y3(d:DS)(b:Int)(h:¬0<d.missing):(ec d b).2.length+begun (ec d b).1<=1:=by
 have U:begun d=0:=by unfold begun;rw[iw h]
 unfold ec;repeat' split
 all_goals first
  | (simp[U];done)
  | (simp[begun];done)
theorem Hu(d:DS):(jD d).2.length<=begun d/\¬0<(jD d).1.missing:=by unfold jD begun;grind
theorem N2(d:DS)(b:Int):(fv d b).2.length+begun (fv d b).1<=begun d+1:=by
 unfold fv;split
 .rename_i U
  have h1:begun d=1:=by unfold begun;rw[ip U]
  split
  .have h2:begun ((dR d b).1)<=1:=by unfold begun;split<;>omega
   have h3:(dR d b).2.length<=1:=by simp[dR];split<;>simp
   omega
  .have h2:=Hu d;have h3:=y3 (jD d).1 b h2.2;grind
 .rename_i U
  have:=y3 d b U;omega
theorem LX(l:Iq):∀(c:CS) (d:DS),(dT c d l).length<=l.length+begun d:=by
 induction l with
 | nil =>
  intro c d;rw[lh]
  have:=y9 c (jD d).2
  have:=(Hu d).1;omega
 | cons b l U =>intro c d;rw[kn];have h1:=y9 c (fv d b).2;have h2:=N2 d b;grind
theorem uZ(s:ByteArray):(cJ s).length<=s.size:=by
 have h:=LX (bytesOf s) ⟨false,false⟩ ⟨0,0,0,0⟩;have h3:(bytesOf s).length=s.size:=by simp[bytesOf]
 have U:begun ⟨0,0,0,0⟩=0:=by simp[begun]
 unfold cJ;omega
variable {Yb:Nat}
section
variable {w aK:World}{v:Value}{rest:Iq}
variable {Tb:Nat}{x:Value}{l:Iq}
theorem Be(U:b<N):jZ (aJ prog N Pb Shun val B Mz) b:=⟨by show b<N+9;omega,by show ¬(b=N);omega,by show ¬(b=N+2\/b=N+4\/b=N+6);omega⟩
theorem Dx(d:b<N)(e:b≠Pb)(U:∀a:Addr,a.block=b->¬Shun (.cell a))(f:N+9<=w.heap.size):dK (aJ prog N Pb Shun val B Mz) w b:=by
 refine⟨oq,?_,?_,?_,U⟩
 .rintro(z|⟨z,_⟩)
  .have c:b=N:=z;omega
  .have c:N+9<=b:=z;omega
 .show ¬(b=N+1\/b=N+3\/b=N+5\/b=N+7\/b=N+8\/b=Pb);omega
 .show ¬(b=N+2\/b=N+4\/b=N+6);omega
variable [ConcR.Payload][ConcX.Payload]
variable [ConcX.Shy (Cfg.Wg<|aJ prog N Pb Shun val B Mz) (Cfg.C<|aJ prog N Pb Shun val B Mz)]
end
section
variable {w aK:World}{Tb:Nat}
theorem He.start(w₀:World):He w₀ [] w₀:=⟨Y,Y,Y,λ_ _=>Y,iq,λj o h=>by simp at h⟩
end
structure Ext(w w':World):Prop where
 tape:w'.tape=w.tape
 os:w'.os=w.os
 output:w'.output=w.output
 size:w.heap.size<=w'.heap.size
 block:∀b,b<w.heap.size->w'.heap[b]?=w.heap[b]?
section
variable {P:Program}{b:Frame}{a:Act}{w:World}
theorem GO{fn:Func}(e:b.kind=.normal)(c:a.defers=[])(d:P.funcs[b.fn]?=some fn)(hi:P.inits.idxOf? b.fn=none)(f:(results fn a.tmps).run P w=.ok v w)(U:(results fn a.tmps).events P w #[]=#[]) :
  stepG P true (G { b.at a todo with mode:=.returning } []) w=.ended (.done v) w #[]:=by simp[G,stepG,unwind,doReturn,Frame.at,e,c,d,hi,f,U,seen,GStep.after]
theorem ends_of_calls{Q:Value->World->Prop}(hi:P.inits.idxOf? f=none)(p:∀v d e,Q v d->Post v (d.at e))(h:gj P (ZI P Post 0) f args (λ_=>False) w (λ_ v d=>Q v d)):Ends P Post (solo (G (Frame.enter P f args .normal) []) w) #[]:=by
 have C:cG P true (λ_:Nat->Prop=>AtRel) DZ (ZI P Post 0):=ZI.closed;have T:=xT;obtain⟨g,c,m,_,r,y⟩:=h;have a:∀i (U:Act) (d:World) b,(U.defers=[]/\∃v,ResultsC P g U.tmps v/\Q v d)->ZI P Post 0 i (G { (base f).at U b with mode:=.returning } []) d:=by rintro i U d b ⟨s,v,n,x⟩;exact ZI.done Y (λe=>GO Y s m hi (n _).1 (n _).2)<|λe=>p v d e x
 have z:ZI P Post 0 (λ_=>False) (G ((base f).at { tmps:=args++Array.replicate (g.ntmps-args.size) undef,defers:=[] } [.code c]) []) w:=by
  refine y (base f) [] [] Y (by simp[base]) λi e U d q=>?_;obtain⟨t,q⟩:=q;rcases t with rfl|rfl
  .exact C.step Y λo j=>by rw[stepG_end]; exact⟨(T i).idle _,C.rely (a i U d [] q) j⟩
  .exact λb=>a i U d b q
 rw[enter_at _ m r,solo_eq_crowd];have k:=past_nil
 have:=z 0 w.drawn (λ_=>False) #[G _ []] (λ_=>0) #[] none (λl u=>u.elim)
  ⟨Y,leavers_one _ _,k.clean,k.known,k.over,k.hears⟩;exact this
end
section
variable {ι:Type}{P:Program}{main:Bool}{R:ι->Wq}{D:ι->World->World->Array Event->Prop}{X:ι->Gq}{fn:FuncId}{Q:gY ι}{a:Act}{w:World}{vs:ι}
theorem cP.rely(C:cG P main R D X){c:List Nat}{d:World}(h:cP X fn ops c vs Q a w)(r:R vs w d):cP X fn ops c vs Q a d:=λb k e U g f=>C.rely (h b k e U g f) r
theorem dQ(C:cG P main R D X)(T:∀i,Terms (R i)<|D i)(g:ops[i]?=some o)(j:Region.wanted o (yielded ops a.tmps)=true)
 (h:∀(b:World) (K:Act->World->Prop),(∀c,cP X fn ops rest vs Q c w->(execOp a.eval o).events P b #[]=#[]->K c b)->uponK o a K ((execOp a.eval o).run P b)):cP X fn ops (i::rest) vs Q a w :=
 aM C g j λb e K U=>h b K λc d f=>U c b ⟨by rw[listed_nil f];exact(T vs).idle _,d.rely C e⟩
theorem Ar(C:cG P main R D X)(T:∀i,Terms (R i)<|D i){c:Operand}{x y:Code}{t:Bool}(b:a.eval c=.bool t)(h1:t=true->iO X fn x vs Q a w)(U:t=false->iO X fn y vs Q a w):iO X fn (.cond c x y) vs Q a w:=by
 refine fT C T b ?_;cases t
 .exact U Y
 .exact h1 Y
end
def QR(P:Program)(f:FuncId)(args:Aq)(v:Value):Prop :=
 ∀(ι:Type) (R:ι->Wq) (D:ι->World->World->Array Event->Prop) (X:ι->Gq) (_:cG P true R D X) (_:∀i,Terms (R i)<|D i) (i:ι) (w:World),gj P X f args i w<|λi' x w'=>i'=i/\x=v/\w'=w
