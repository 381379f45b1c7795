import Derived.Test.YtgcaionclkbehaaGreatDoorLone
import Derived.Conc.TokenWalk
import Derived.Maps.AppendAt
import Derived.OwnWalk
import Derived.Conc.AppendWalk
import Derived.Test.YtgcaionclkbehaaGreatDoorChecked
set_option linter.all false
set_option maxHeartbeats 2000000
set_option maxRecDepth 100000
namespace Go.Proofs.YtgcaionclkbehaaGreatDoor
open Go.Conc Go.RowKit Tryz
variable {x:Operand}{b b' i id k o:Nat}{args' cap cs first xs:Aq}{e:Event}{c y:Code}{t ty:TypeId}{ops:Array Oper}{rest:List Nat}{f fn:FuncId}{aM:Func}{args:Array Operand}{ats:Array TypeId}{v v':Value}{vs:Vq}{fz:Nat × Nat}{K:Cfg}{P:Program}{es:Array Event}
structure bw{ι:Type}(P:Program)(main:Bool)(R:ι→Wq)(D:ι→World→World→Array Event→Prop)(X:ι→Gq):Prop where
 rely:∀{vs g w aE},X vs g w→R vs w aE→X vs g aE
 step:∀{vs g w},g.status=.running→(∀aE,R vs w aE→(stepG P main g aE).goes fun g' w' es=>D vs aE w' es∧X vs g' w')→X vs g w
def pX{ι:Type}(X:ι→Gq)(vs:ι)(b:Frame)(k:List Item)(cs:List Frame):Exit→Act→World→Prop
 | .normal,a,w=>X vs (G (b.at a k) cs) w
 | .exit id,a,w=>∃k',exitTo id k=some k'∧X vs (G (b.at a k') cs) w
 | .ret,a,w=>∀todo,X vs (G { b.at a todo with mode:=.returning } cs) w
 | _,_,_=>False
abbrev dV(ι:Type):=ι→Exit→Act→World→Prop
def vz{ι:Type}(T:ι→Act→World→Prop)(Q:dV ι):dV ι
 | vs,.normal,a,w=>T vs a w
 | vs,e,a,w=>Q vs e a w
def jp{ι:Type}(id:Nat)(Q:dV ι):dV ι
 | vs,.exit PC,a,w=>if PC=id then Q vs .normal a w else Q vs (.exit PC) a w
 | vs,e,a,w=>Q vs e a w
def lm {ι:Type}(X:ι→Gq)(fn:FuncId)(c:Code)(vs:ι)(Q:dV ι)(a:Act)(w:World):Prop :=
 ∀(b:Frame) (k:List Item) (cs:List Frame),b.fn=fn→b.kind≠.early→(∀gI e a' w',Q gI e a' w'→pX X gI b k cs e a' w')→X vs (G (b.at a (.code c::k)) cs) w
def ck {ι:Type}(X:ι→Gq)(fn:FuncId)(ops:Array Oper)(todo:List Nat)(vs:ι)(Q:dV ι)(a:Act)(w:World):Prop :=
 ∀(b:Frame) (k:List Item) (cs:List Frame),b.fn=fn→b.kind≠.early→(∀gI e a' w',Q gI e a' w'→pX X gI b k cs e a' w')→X vs (G (b.at a (.inRegion ops todo::k)) cs) w
section
variable {ι:Type}{P:Program}{main:Bool}{R:ι→Wq}{D:ι→World→World→Array Event→Prop}{X:ι→Gq}{fn:FuncId}{Q Q':dV ι}{a:Act}{w:World}{vs:ι}
def pX.push{x:Item}{b:Frame}{k:List Item}{cs:List Frame}{e:Exit}(g:x.plain=true)(U:e≠.normal)(h:pX X vs b k cs e a w):pX X vs b (x::k) cs e a w:=by
 cases e with
 | normal=>exact absurd rfl U
 | exit id=>obtain⟨d,f,c⟩:=h;exact⟨d,by cases x<;>simp_all [exitTo,Item.plain],c⟩
 | ret=>exact h
 | goto l=>exact h
 | panic ch=>exact h
 | outgrown=>exact h
def mA(h:lm X fn c vs Q a w)(hq:∀vs e a w,Q vs e a w→Q' vs e a w):lm X fn c vs Q' a w:=fun b k cs U hk hc=>h b k cs U hk fun gI e a' w' q=>hc gI e a' w' (hq gI e a' w' q)
def mB(C:bw P main R D X)(T:∀i,Terms (R i) (D i))(h:Q vs .normal a w):lm X fn .skip vs Q a w:=fun b k e _ _ U=>C.step rfl fun d c=>by rw[stepG_skip];exact⟨(T vs).idle _,C.rely (U _ _ _ _ h) c⟩
def pO(C:bw P main R D X)(T:∀i,Terms (R i) (D i))(h:Q vs .ret a w):lm X fn .ret vs Q a w:=fun b k e _ _ U=>C.step rfl fun d c=>by rw[stepG_ret'];exact⟨(T vs).idle _,C.rely (U _ _ _ _ h _) c⟩
def pM(C:bw P main R D X)(T:∀i,Terms (R i) (D i))(h:Q vs (.exit id) a w):lm X fn (.exit id) vs Q a w:=fun b k g _ _ U=>by have⟨j,d,f⟩:=U _ _ _ _ h;exact C.step rfl fun e c=>by rw[stepG_exit d];exact⟨(T vs).idle _,C.rely f c⟩
def E5(C:bw P main R D X)(T:∀i,Terms (R i) (D i)){l:Nat}(h:Q vs .normal a w):lm X fn (.label l) vs Q a w:=fun b k e _ _ U=>C.step rfl fun d c=>by rw[stepG_label];exact⟨(T vs).idle _,C.rely (U _ _ _ _ h) c⟩
def cj(C:bw P main R D X)(T:∀i,Terms (R i) (D i)){x:Code}(h:lm X fn x vs (vz (fun g f n=>lm X fn y g Q f n) Q) a w):lm X fn (.seq x y) vs Q a w:=by
 intro b k d j m U;have p:X vs (G (b.at a (.code x::.code y::k)) d) w:=by
  refine h b (.code y::k) d j m fun g e f n q=>?_;cases e with
  | normal=>exact q b k d j m U
  | exit id=>exact(U _ _ _ _ q).push rfl iq
  | ret=>exact(U _ _ _ _ q).push (x:=.code y) rfl iq
  | goto l=>exact U _ _ _ _ q
  | panic ch=>exact U _ _ _ _ q
  | outgrown=>exact U _ _ _ _ q
 exact C.step rfl fun o c=>by rw[stepG_seq];exact⟨(T vs).idle _,C.rely p c⟩
def eU(C:bw P main R D X)(T:∀i,Terms (R i) (D i)){c:Operand}{x:Code}{t:Bool}(hc:a.eval c=.bool t)(h:lm X fn (if t then x else y) vs Q a w):lm X fn (.cond c x y) vs Q a w :=
 fun b k cs U hk hq=>C.step rfl fun aE gv=>by rw[stepG_cond hc];exact⟨(T vs).idle _,C.rely (h b k cs U hk hq) gv⟩
def gD(C:bw P main R D X)(T:∀i,Terms (R i) (D i))(h:lm X fn c vs (jp id Q) a w):lm X fn (.block id c) vs Q a w:=by
 intro b k j o r f;have s:X vs (G (b.at a (.code c::.inBlock id::k)) j) w:=by
  refine h b (.inBlock id::k) j o r fun n e u v q=>?_;cases e with
  | normal=>exact C.step rfl fun g d=>by rw[stepG_inBlock];exact⟨(T n).idle _,C.rely (f _ _ _ _ q) d⟩
  | exit a0 =>
   by_cases U:a0=id
   ·simp only[jp,U,if_true] at q;exact⟨k,by simp[exitTo,U],f _ _ _ _ q⟩
   ·simp only[jp,U,if_false] at q;obtain⟨t,m,p⟩:=f _ _ _ _ q;have:(id==a0)=false:=by simp;exact fun h=>U h.symm
    exact⟨t,by simp[exitTo,this,m],p⟩
  | ret=>exact f _ _ _ _ q
  | goto l=>exact f _ _ _ _ q
  | panic ch=>exact f _ _ _ _ q
  | outgrown=>exact f _ _ _ _ q
 exact C.step rfl fun g d=>by rw[stepG_block];exact⟨(T vs).idle _,C.rely s d⟩
def zK(C:bw P main R D X)(T:∀i,Terms (R i) (D i))(I:Nat→ι→Act→World→Prop)(n:Nat)(MU:I n vs a w)
 (round:∀n vs a w,I n vs a w→lm X fn c vs (vz (fun U a' w'=>∃n',n'<n∧I n' U a' w') Q) a w):lm X fn (.loop c) vs Q a w:=by
 intro b k cs hb hk hc;have key:∀n vs a w,I n vs a w→X vs (G (b.at a (.code c::.inLoop c::k)) cs) w:=by
  intro n;induction n using Nat.strongRecOn with
  | _ n ih =>
   intro vs a w hI;refine round n vs a w hI b (.inLoop c::k) cs hb hk fun U e a' w' q=>?_;cases e with
   | normal =>obtain⟨n',hn,a0⟩:=q;exact C.step rfl fun aE gv=>by rw[stepG_inLoop];exact⟨(T U).idle _,C.rely (ih n' hn U a' w' a0) gv⟩
   | exit id=>exact(hc _ _ _ _ q).push rfl iq
   | ret=>exact(hc _ _ _ _ q).push (x:=.inLoop c) rfl iq
   | goto l=>exact hc _ _ _ _ q
   | panic ch=>exact hc _ _ _ _ q
   | outgrown=>exact hc _ _ _ _ q
 exact C.step rfl fun aE gv=>by rw[stepG_loop];exact⟨(T vs).idle _,C.rely (key n vs a w MU) gv⟩
def aR(C:bw P main R D X)(T:∀i,Terms (R i) (D i))(h:ck X fn ops (List.range ops.size) vs Q a w):lm X fn (.region id ops false) vs Q a w :=
 fun b k cs U hk hc=>C.step rfl fun aE gv=>by rw[stepG_region];exact⟨(T vs).idle _,C.rely (h b k cs U hk hc) gv⟩
def bq(C:bw P main R D X)(T:∀i,Terms (R i) (D i))(h:Q vs .normal a w):ck X fn ops [] vs Q a w:=fun b k e _ _ U=>C.step rfl fun d c=>by rw[stepG_region_end];exact⟨(T vs).idle _,C.rely (U _ _ _ _ h) c⟩
def gm(C:bw P main R D X)(T:∀i,Terms (R i) (D i)){o:Oper}(ho:ops[i]?=some o)(hw:Region.wanted o (yielded ops a.tmps)=false)(h:ck X fn ops rest vs Q (a.put o.dst undef) w):ck X fn ops (i::rest) vs Q a w :=
 fun b k cs U hk hc=>C.step rfl fun aE gv=>by rw[stepG_unwanted ho hw];exact⟨(T vs).idle _,C.rely (h b k cs U hk hc) gv⟩
theorem aF(C:bw P main R D X){o:Oper}(p:ops[i]?=some o)(q:Region.wanted o (yielded ops a.tmps)=true)
 (h:∀c,R vs w c→∀K:Act→World→Prop,(∀j f,D vs c f (listed P fn a o c)∧ck X fn ops rest vs Q j f→K j f)→uponK o a K ((execOp a.eval o).run P c)):ck X fn ops (i::rest) vs Q a w:=by
 intro b k m U l n;refine C.step rfl fun c e=>goes_oper p q l ?_
 have:=h c e _ fun _ _ x=>x;revert this;cases (execOp a.eval o).run P c with
 | ok x f=>cases x<;>first|exact fun ⟨d,g⟩=>⟨U▸d,g b k m U l n⟩|exact id
 | halt _ _=>exact id
def Ep(C:bw P main R D X)(T:∀i,Terms (R i) (D i)){o:Oper}{first cap:Array Value}
 (ho:ops[i]?=some o)(hw:Region.wanted o (yielded ops a.tmps)=true)(sI:o.op=.call { callee:=.value x,args,argTypes:=ats })(hx:a.eval x=.func (.func f) first cap)
 (hf : P.funcs[f]? = some aM)(jo : (aM.name == "runtime.NumGoroutine") = false)(hb : aM.body = some c)
 (h:lm X f c vs (fun gI e a' w'=>(e=.normal∨e=.ret)∧a'.defers=[]∧∃v,ResultsC P aM a'.tmps v∧ck X fn ops rest gI Q (a.put o.dst v) w')
   { tmps:=(first++args.map a.eval++cap)++Array.replicate (aM.ntmps-(first++args.map a.eval++cap).size) undef,defers:=[] } w):ck X fn ops (i::rest) vs Q a w:=by
 intro b k cs pV hk hc;have N9:aM.body.isNone=false:=by rw[hb]; rfl
 have D3:∀v,(b.at a (.inRegion ops (i::rest)::k)).finish v=b.at (a.put o.dst v) (.inRegion ops rest::k):=fun v=>by rw[Frame.finish_at,ho]; rfl
 have sF:∀(gI:ι) (a':Act) (w':World) (todo:List Item),(a'.defers=[]∧∃v,ResultsC P aM a'.tmps v∧ck X fn ops rest gI Q (a.put o.dst v) w') →
   X gI (G { (base f).at a' todo with mode:=.returning } (b.at a (.inRegion ops (i::rest)::k)::cs)) w':=by rintro gI a' w' todo ⟨hd,v,hr,hp⟩;refine C.step rfl fun aE gv=>?_;rw[stepG_leave (b:=base f) rfl hd hf (hr aE).1 (hr aE).2,D3];exact⟨(T gI).idle _,C.rely (hp b k cs pV hk hc) gv⟩
 refine C.step rfl fun aE gv=>?_;obtain⟨hr,he⟩:=iW (P:=P) (w:=aE) sI hx hf jo N9;rw[stepG_enter ho hw hk hr,enter_at _ hf hb];have hl:listed P b.fn a o aE=#[]:=listed_nil he;rw[hl];refine⟨(T vs).idle _,C.rely (h (base f) [] _ rfl (by simp[base]) fun gI e a' w' q=>?_) gv⟩;obtain⟨SH,q⟩:=q;rcases SH with rfl|rfl
 ·exact C.step rfl fun mD GH=>by rw[stepG_end]; exact⟨(T gI).idle _,C.rely (sF gI a' w' [] q) GH⟩
 ·exact fun todo=>sF gI a' w' todo q
def eA(P:Program)(X:ι→Goroutine→World→Prop)(f:FuncId)(args:Array Value)(vs:ι)(w:World)(Post:ι→Value→World→Prop):Prop :=
 ∃ aM c, P.funcs[f]? = some aM ∧ (aM.name == "runtime.NumGoroutine") = false ∧ aM.body = some c ∧
  lm X f c vs (fun gI e a' w'=>(e=.normal∨e=.ret)∧a'.defers=[]∧∃v,ResultsC P aM a'.tmps v∧Post gI v w') { tmps:=args++Array.replicate (aM.ntmps-args.size) undef,defers:=[] } w
def gz{args : Array Value}{Post : ι → Value → World → Prop}(hf : P.funcs[f]? = some aM)(jo : (aM.name == "runtime.NumGoroutine") = false)(hb : aM.body = some c)
 (h:lm X f c vs (fun gI e a' w'=>(e=.normal∨e=.ret)∧a'.defers=[]∧∃v,ResultsC P aM a'.tmps v∧Post gI v w') { tmps:=args++Array.replicate (aM.ntmps-args.size) undef,defers:=[] } w):eA P X f args vs w Post:=⟨aM,c,hf,jo,hb,h⟩
def jw(C:bw P main R D X)(T:∀i,Terms (R i) (D i)){o:Oper}{vD:ι}{Post:ι→Value→World→Prop}
 (t:ops[i]?=some o)(u:Region.wanted o (yielded ops a.tmps)=true)(l:o.op=.call { callee:=.value x,args,argTypes:=ats })(y:a.eval x=.func (.func f) first cap)
 (g:first++args.map a.eval++cap=args')(m:vs=vD)
 (j:eA P X f args' vD w Post)(k:∀U v b,Post U v b→ck X fn ops rest U Q (a.put o.dst v) b):ck X fn ops (i::rest) vs Q a w:=by subst g m;have⟨d,c,r,s,p,h⟩:=j;refine Ep C T t u l y r s p (mA h fun U e z b q=>?_);have⟨h1,h2,v,h3,n⟩:=q;exact⟨h1,h2,v,h3,k U v b n⟩
end
abbrev Ph:=Sum (Vq) (Sum (Vq) (Sum Unit Nat))
abbrev Ph.front(vs:Vq):Ph:=.inl vs
abbrev Ph.walk(vs:Vq):Ph:=.inr (.inl vs)
abbrev Ph.over:Ph:=.inr (.inr (.inl ()))
abbrev Ph.join(L:Nat):Ph:=.inr (.inr (.inr L))
def Ph.bR{motive:Ph→Prop}(front:∀(vs:Vq),motive (Ph.front vs))(walk:∀(vs:Vq),motive (Ph.walk vs))(over:motive Ph.over)(join:∀L:Nat,motive (Ph.join L))(x:Ph):motive x:=by
 rcases x with vs|vs|_|L
 ·exact front vs
 ·exact walk vs
 ·exact over
 ·exact join L
section
variable (K:Cfg)[Go.ConcX.Payload][Go.ConcR.Payload][Go.ConcX.Shy K.Wg K.C](AnchW:Gq)
def nh:Ph→World→World→Prop
 | .inr (.inr (.inr _))=>h9 K
 | _=>RM K
def rZ:Ph→World→World→Array Event→Prop
 | .inr (.inr (.inr L))=>jf K L
 | _=>DM K
def XM:Ph→Goroutine→World→Prop
 | .inl vs=>Way K.P true (RM K) (DM K) (iN K AnchW vs)
 | .inr (.inl vs)=>Way K.P true (RM K) (DM K) (iN K AnchW vs)
 | .inr (.inr (.inl _))=>Way K.P true (RM K) (DM K) (vG K AnchW)
 | .inr (.inr (.inr L))=>Way K.P true (h9 K) (jf K L) (uv K L AnchW)
end
section
variable {K:Cfg}[Go.ConcX.Payload][Go.ConcR.Payload][Go.ConcX.Shy K.Wg K.C]{AnchW:Gq}{i:Ph}{w aE mD:World}
def vp(h:h9 K w aE)(U:h9 K aE mD):h9 K w mD :=
 ⟨⟨U.aside.tape.trans h.aside.tape,U.aside.os.trans h.aside.os,U.aside.output.trans h.aside.output,U.aside.size.trans h.aside.size,fun b a c=>(U.aside.block b a c).trans (h.aside.block b a c)⟩,U.ka ∘ h.ka,U.kc ∘ h.kc⟩
def nh.trans(h:nh K i w aE)(a:nh K i aE mD):nh K i w mD:=by
 cases i using Ph.bR with
 | join=>exact vp h a
 | _=>exact RM.trans h a
def qH(i:Ph):Terms (nh K i) (rZ K i):=by
 refine⟨fun _ _ _=>nh.trans,fun w=>?_⟩;cases i using Ph.bR with
 | join=>exact⟨fun _ _=>rfl,iq⟩
 | _=>exact⟨fun _ _=>rfl,fun _ h=>h,lr,iq⟩
def XM.closed:bw K.P true (nh K) (rZ K) (XM K AnchW) where
 rely:=by
  intro i g w a h d
  cases i using Ph.bR with
  | join=>exact Way.rely (R:=h9 K) (fun _ _ _=>vp) h d
  | _=>exact Way.rely (R:=RM K) (fun _ _ _=>RM.trans) h d
 step:=by
  intro i g w f h
  cases i using Ph.bR <;>
  ·
   refine Way.step f fun a c=>?_
   have b:=h a c
   cases e:stepG K.P true g a with
   | go g' w' es=>rw[e,goes_go] at b;exact⟨g',w',es,rfl,b.1,b.2⟩
   | _=>rw[e] at b;exact b.elim
def XM.GR{g:Goroutine}(U:g.status=.running)(h:∀aE,RM K w aE→z6 K aE→∀L,K.N0≤L→XM K AnchW (.join L) g aE):XM K AnchW .over g w :=
 Way.stop fun aE gv=>⟨U,fun hk L hL=>h aE gv hk L hL⟩
variable {fn:FuncId}{ops:Array Oper}{j:Nat}{rest:List Nat}{o:Oper}{Q:dV Ph}{a:Act}
def H0{g:Bool}{Next:Gq}(f:ops[j]?=some o)(p:Region.wanted o (yielded ops a.tmps)=true){b:Frame}{U:List Item}{cs:List Frame}(i:b.kind≠.early)
 (m:∀w,(execOp a.eval o).run K.P w=.ok (.comm K.cases true .select) w)(l:∀w,(execOp a.eval o).events K.P w #[]=#[])
 (h:∀c,RM K w c→K.N0≤c.heap.size→Next (G (b.at (a.put o.dst (commResult K.cases .select k v g)) (.inRegion ops rest::U)) cs) c):xC K k v g Next (G (b.at a (.inRegion ops (j::rest)::U)) cs) w:=by
 refine⟨rfl,G (b.at a (.inRegion ops (j::rest)::U)) cs,rfl,rfl,rfl,fun c _=>?_,fun c d n=>?_⟩
 ·rw[stepG_comm f p i (m c),listed_none (l c)]
 ·have e:∀u,Conc.served (G (b.at a (.inRegion ops (j::rest)::U)) cs) u=G (b.at (a.put o.dst u) (.inRegion ops rest::U)) cs:=fun u=>by
   have:(b.at a (.inRegion ops (j::rest)::U)).finish u=b.at (a.put o.dst u) (.inRegion ops rest::U):=by rw[Frame.finish_at,f];rfl
   simp only[Conc.served,G];rw[this]
  rw[e];exact h c d n
def yZ(n:i=.front (v::vs)∨i=.walk (v::vs))(p:ops[j]?=some o)(s:Region.wanted o (yielded ops a.tmps)=true)
 (q:∀w,(execOp a.eval o).run K.P w=.ok (.comm K.cases true .select) w)(m:∀w,(execOp a.eval o).events K.P w #[]=#[])
 (h:∀c,RM K w c→K.N0≤c.heap.size→ck (XM K AnchW) fn ops rest (.walk vs) Q (a.put o.dst (commResult K.cases .select 0 v true)) c):ck (XM K AnchW) fn ops (j::rest) i Q a w:=by
 intro b t g k U l;rcases n with rfl|rfl <;>
 ·refine Way.stop fun c d=>?_;refine H0 (Next:=r8 K AnchW vs) p s U q m fun f e r=>?_;rw[sS];exact h f (RM.trans d e) r b t g k U l
def Hl(n:i=.front []∨i=.walk [])(p:ops[j]?=some o)(s:Region.wanted o (yielded ops a.tmps)=true)
 (q:∀w,(execOp a.eval o).run K.P w=.ok (.comm K.cases true .select) w)(m:∀w,(execOp a.eval o).events K.P w #[]=#[])
 (h:∀c,RM K w c→K.N0≤c.heap.size→ck (XM K AnchW) fn ops rest .over Q (a.put o.dst (commResult K.cases .select 1 K.zE false)) c):ck (XM K AnchW) fn ops (j::rest) i Q a w:=by
 intro b t g k U l;rcases n with rfl|rfl <;>
 ·refine Way.stop fun c d=>?_;refine H0 (Next:=BF K AnchW) p s U q m fun f e r=>?_;exact h f (RM.trans d e) r b t g k U l
end
def ZI (P:Program)(Post:Value→World→Prop)(d:Nat)(S:Nat→Prop)(g:Goroutine)(w:World):Prop:=∀N,Z P Post (fun b=>¬S b) N d g w
def EvS (S:Nat→Prop)(e:Event):Prop:=(∀x,(MemAct.ofEvent e).touch?=some x→∀ad:Addr,x.loc=.cell ad→¬S ad.block)∧e.loc≠.mark .disable∧e.loc≠.mark .enable
def DZ (S:Nat→Prop)(_ _:World)(es:Array Event):Prop:=∀e∈es,EvS S e
section
variable {P:Program}{Post:Value→World→Prop}{d d':Nat}{S:Nat→Prop}{g g':Goroutine}{w w':World}
def ZI.closed:bw P true (fun _:Nat→Prop=>AtRel) DZ (ZI P Post d) where
 rely:=fun {S g w a} h hr N=>(Z.closed (P:=P) (Post:=Post) (Ok:=fun b=>¬S b) (N:=N) (d:=d)).rely (vs:=()) (h N) hr
 step:=by
  intro S g w l h N
  refine(Z.closed (P:=P) (Post:=Post) (Ok:=fun b=>¬S b) (N:=N) (d:=d)).step (vs:=()) l fun a c=>?_
  have U:=h a c
  cases e:stepG P true g a with
  | go g' w' es =>
   rw[e,goes_go] at U
   rw[goes_go]
   exact⟨fun f i=>⟨fun x m j k=>.inl ((U.1 f i).1 x m j k),(U.1 f i).2.1,(U.1 f i).2.2⟩,U.2 N⟩
  | _=>rw[e] at U;exact U.elim
def tM(S:Nat→Prop):Terms AtRel (DZ S):=⟨atRel_trans,fun _ e U=>by simp at U⟩
def ZI.done(b:g.status=.running)(U:∀e,stepG P true g (w.at e)=.ended (.done v) (w.at e) #[])(a:∀e,Post v (w.at e)):ZI P Post 0 S g w:=fun _=>Z.done b U a
def ZI.goes{i:Event→Prop}{Stop:Gq}{n:Nat}(j:∀e,i e→EvS S e)(U:∀g w,(∀a,AtRel w a→Stop g a)→ZI P Post d S g w)(h:Goes P true AtRel (fun _ _ f=>∀e∈f,i e) Stop n g w):ZI P Post d S g w:=by
 induction n generalizing g w with
 | zero=>exact U _ _ h
 | succ n l =>
  rcases h with h|⟨hs,h⟩
  ·exact U _ _ h
  ·refine ZI.closed.step hs fun a c=>?_;have b:=h a c;cases e:stepG P true g a with
   | go g' w' f=>rw[e,goes_go] at b;rw[goes_go];exact⟨fun e k=>j e (b.1 e k),l b.2⟩
   | _=>rw[e] at b;exact b.elim
def ZI.FU{m:Mark}{Next:Gq}(U:(MemAct.mark m).touch?=none)(p:deafBehind d #[⟨.mark m,false,true⟩]=d')(r:∀g w,Next g w→ZI P Post d' S g w)(h:∀a,AtRel w a→g.status=.running∧∃f,stepG P true g a=.go f a #[⟨.mark m,false,true⟩]∧Next f a):ZI P Post d S g w:=by intro N;refine Z.pick (h w (atRel_refl w)).1 fun e b v q t sl o j=>?_;have⟨_,u,c,n⟩:=h (w.at e) ⟨e,rfl⟩;refine⟨_,_,runT_crowd_go (P:=P) (sl:=sl) (i:=0) j.h0 (show stepG P (0==0) g (w.at e)=_ from c),?_⟩;refine r _ _ n N e b _ q _ sl o (j.own (fun s k x l _=>?_) p);rw[Array.mem_singleton] at k;subst k;rw[show MemAct.ofEvent ⟨.mark m,false,true⟩=.mark m from rfl,U] at l;cases l
def ZI.fork{U:Goroutine}(p:g.status=.running)(m:∀e,stepG P true g (w.at e)=.spawn g' U (w.at e) #[])
 (h:∀(e:Nat) (Shun:Loc→Prop),(∀l,Shun l→∃c:Addr,l=.cell c∧S c.block)→∃K f i j a b q d k,Forked P Post Shun g' U (w.at e) K f i j a b q d k):ZI P Post 0 S g w:=by intro N;refine Z.fork p m fun e Shun n=>h e Shun fun l o=>?_;obtain⟨c,rfl,_,h2⟩:=n l o;exact⟨c,rfl,Classical.not_not.1 h2⟩
abbrev zn(K:Cfg)(F:K.Fit)(stop:Gq):Go.ConcX.Shy K.Wg K.C where
 ok:=fun act=>(∀z,act.touch?=some z→(∃ad:Addr,z.loc=.cell ad∧ad.block=K.C)∨(∃ad:Addr,z.loc=.cell ad∧ad.block=K.Wg∧z.kind≠.plain))∧act.low K.B
 atomicWg:=fun a wr h=>⟨fun z hz=>.inr (by
  simp only[MemAct.touch?,Option.some.injEq] at hz
  subst hz
  exact⟨a,rfl,h,by simp⟩),by show a.block<K.B; rw[h]; exact F.WB⟩
 readWg:=fun a h=>⟨fun z hz=>.inr (by
  simp only[MemAct.touch?,Option.some.injEq] at hz
  subst hz
  exact⟨a,rfl,h,by simp⟩),by show a.block<K.B; rw[h]; exact F.WB⟩
 writeWg:=fun a h=>⟨fun z hz=>.inr (by
  simp only[MemAct.touch?,Option.some.injEq] at hz
  subst hz
  exact⟨a,rfl,h,by simp⟩),by show a.block<K.B; rw[h]; exact F.WB⟩
 theirs:=fun a wr h=>⟨fun z hz=>.inl (by
  simp only[MemAct.touch?,Option.some.injEq] at hz
  subst hz
  exact⟨a,rfl,h⟩),by show a.block<K.B; rw[h]; exact F.CB⟩
 disable:=⟨fun x hx=>(by cases hx),trivial⟩
 enable:=⟨fun x hx=>(by cases hx),trivial⟩
 relMerge:=⟨fun x hx=>(by cases hx),F.WB⟩
 acquire:=⟨fun x hx=>(by cases hx),F.WB⟩
 go1:=⟨fun x hx=>(by cases hx),trivial⟩
 start:=⟨fun x hx=>(by cases hx),trivial⟩
 stop:=stop
def KM(K:Cfg)(F:K.Fit)(stop:Gq):@lO K (zn K F stop):=@lO.mk K (zn K F stop) fun _ h=>h
end
def tW (M:Nat→Prop)(e:Event):Prop :=
 (∃ad:Addr,e.loc=.cell ad∧M ad.block)∨(∃b wr,e=⟨.obj b,wr,false⟩∧M b)∨((MemAct.ofEvent e).touch?=none∧e.loc≠.mark .disable∧e.loc≠.mark .enable∧∀a,MemAct.ofEvent e≠.mark (.release a))
structure Own(KT:TypeId→Prop)(M:World→Nat→Prop)(w w':World):Prop where
 tape:w'.tape=w.tape
 os:w'.os=w.os
 output:w'.output=w.output
 grow:w.heap.size≤w'.heap.size
 block:∀b,b<w.heap.size→¬M w b→w'.heap[b]?=w.heap[b]?
 kt:∀(b:Nat) (o:Obj),w'.heap[b]?=some o→KT (BB o)→w'.heap[b]?=w.heap[b]?
structure Env(KT:TypeId→Prop)(N0:Nat)(M:World→Nat→Prop)(O:Nat→Prop)(R:Wq)(D:World→World→Array Event→Prop):Prop where
 lt:∀{w:World} {b:Nat},M w b→b<w.heap.size
 keep:∀{w aE:World} {b:Nat},R w aE→M w b→aE.heap[b]?=w.heap[b]?
 stay:∀{w aE:World} {b:Nat},R w aE→M w b→M aE b
 tape:∀{w aE:World},R w aE→aE.tape=w.tape
 os:∀{w aE:World},R w aE→aE.os=w.os
 output:∀{w aE:World},R w aE→aE.output=w.output
 size:∀{w aE:World},R w aE→w.heap.size≤aE.heap.size
 jA:∀{w w':World} {es:Array Event},N0≤w.heap.size→Own KT M w w'→(∀e∈es,tW (M w') e)→D w w' es
 mine:∀{w w':World} {b:Nat},Own KT M w w'→M w b→M w' b
 new:∀{w w':World} {b:Nat},N0≤w.heap.size→Own KT M w w'→w.heap.size≤b→b<w'.heap.size→M w' b
 Kq:∀{w aE:World} {b:Nat},R w aE→O b→b<w.heap.size→aE.heap[b]?=w.heap[b]?
 gG:∀{w w':World} {b:Nat},O b→b<w'.heap.size→M w b→M w' b
 uK:∀w:World,R w { w with drawn:=w.drawn+1 }
 BS:LetsDraw D
structure Kept(M:World→Nat→Prop)(O:Nat→Prop)(Ex:Nat→Prop)(w₀ w:World):Prop where
 tape:w.tape=w₀.tape
 os:w.os=w₀.os
 output:w.output=w₀.output
 grow:w₀.heap.size≤w.heap.size
 block:∀b,M w₀ b→¬Ex b→w.heap[b]?=w₀.heap[b]?
 mine:∀b,M w₀ b→M w b
 low:∀b,O b→b<w₀.heap.size→¬Ex b→w.heap[b]?=w₀.heap[b]?
section
variable {KT:TypeId→Prop}{N0:Nat}{M:World→Nat→Prop}{O:Nat→Prop}{R:Wq}{D:World→World→Array Event→Prop}{Ex Fx:Nat→Prop}{w₀ w aE w':World}
def Own.refl(w:World):Own KT M w w:=⟨rfl,rfl,rfl,lr,fun _ _ _=>rfl,fun _ _ _ _=>rfl⟩
def Own.alloc(d:¬KT t)(fz:Nat × Nat:=(0,0)):Own KT M w (w.alloc (.cells cs t fz)):=by
 refine⟨rfl,rfl,rfl,by simp[World.size_alloc],fun b U _=>Below.heap_alloc _ _ _ U,fun b e h c=>?_⟩;by_cases U:b<w.heap.size
 ·exact Below.heap_alloc _ _ _ U
 ·have a:=(Array.getElem?_eq_some_iff.1 h).1;have:b=w.heap.size:=by simp[World.size_alloc] at a;omega
  subst this;rw[heap_alloc_new] at h;cases h;exact absurd c d
def Own.setCell{x:Value}(a:w.heap[b]?=some (.cells cs t fz))(c:M w b)(d:¬KT t):Own KT M w (w.setCell ⟨b,o,none⟩ x):=by
 refine⟨rfl,rfl,rfl,by simp[World.setCell],fun k _ U=>Below.heap_setCell _ _ _ _ (fun e=>U (e▸c)),fun k f h U=>?_⟩;by_cases e:k=b
 ·subst e;have:(w.setCell ⟨k,o,none⟩ x).heap[k]?=some (.cells (cs.setIfInBounds o x) t fz):=by simp[World.setCell,Array.getElem?_modify,a]
  rw[this] at h;cases h;exact absurd U d
 ·exact Below.heap_setCell _ _ _ _ e
def Own.setRow(c:w.heap[b]?=some (.cells cs t fz))(d:M w b)(f:¬KT t):Own KT M w (w.setRow b xs):=by
 have a:∀k,k≠b→(w.setRow b xs).heap[k]?=w.heap[k]?:=fun k U=>by simp[World.setRow,Array.getElem?_modify,Ne.symm U]
 refine⟨rfl,rfl,rfl,by simp[World.setRow],fun k _ U=>a k (fun e=>U (e▸d)),fun k g h U=>?_⟩;by_cases e:k=b
 ·subst e;have:(w.setRow k xs).heap[k]?=some (.cells xs t fz):=by simp[World.setRow,Array.getElem?_modify,c]
  rw[this] at h;cases h;exact absurd U f
 ·exact a k e
def Own.FM{o:Obj}(d:¬KT (BB o)):Own KT M w (w.alloc o):=by
 refine⟨rfl,rfl,rfl,by simp[World.size_alloc],fun b U _=>Below.heap_alloc _ _ _ U,fun b e h c=>?_⟩;by_cases U:b<w.heap.size
 ·exact Below.heap_alloc _ _ _ U
 ·have a:=(Array.getElem?_eq_some_iff.1 h).1;have:b=w.heap.size:=by simp[World.size_alloc] at a;omega
  subst this;rw[heap_alloc_new] at h;cases h;exact absurd c d
def Own.setObj{o:Obj}(f:¬KT (BB o))(d:M w b):Own KT M w { w with heap:=w.heap.setIfInBounds b o }:=by
 refine⟨rfl,rfl,rfl,iq,fun k _ a=>?_,fun k g h a=>?_⟩
 ·have:b≠k:=fun e=>a (e▸d);simp[this]
 ·by_cases e:b=k
  ·subst e;by_cases c:b<w.heap.size
   ·simp[c] at h;subst h;exact absurd a f
   ·simp[c] at h
  ·simp[e]
def Kept.refl(w:World):Kept M O Ex w w:=⟨rfl,rfl,rfl,lr,fun _ _ _=>rfl,fun _ h=>h,fun _ _ _ _=>rfl⟩
def Kept.rely(E:Env KT N0 M O R D)(h:Kept M O Ex w₀ w)(r:R w aE):Kept M O Ex w₀ aE :=
 ⟨(E.tape r).trans h.tape,(E.os r).trans h.os,(E.output r).trans h.output,lT h.grow (E.size r),fun b U hx=>(E.keep r (h.mine b U)).trans (h.block b U hx),fun b U=>E.stay r (h.mine b U),fun b ho hl hn=>(E.Kq r ho (lL hl h.grow)).trans (h.low b ho hl hn)⟩
def Kept.own(E:Env KT N0 M O R D)(h:Kept M O Ex w₀ w)(o:Own KT M w w')(hx:∀b,M w₀ b→¬Ex b→w'.heap[b]?=w.heap[b]?):Kept M O Ex w₀ w' :=
 ⟨o.tape.trans h.tape,o.os.trans h.os,o.output.trans h.output,lT h.grow o.grow,fun b hb U=>(hx b hb U).trans (h.block b hb U),fun b hb=>E.mine o (h.mine b hb),fun b ho hl U=>((Classical.em (M w b)).elim (fun hm=>hx b (E.gG ho hl hm) U) (fun hm=>o.block b (lL hl h.grow) hm)).trans (h.low b ho hl U)⟩
def Kept.trans(E:Env KT N0 M O R D)(h:Kept M O Ex w₀ w)(U:Kept M O Fx w aE)(hx:∀b,Fx b→Ex b∨w₀.heap.size≤b):Kept M O Ex w₀ aE :=
 ⟨U.tape.trans h.tape,U.os.trans h.os,U.output.trans h.output,lT h.grow U.grow,fun b hb hn=>(U.block b (h.mine b hb) fun z=>(hx b z).elim hn fun z=>absurd (E.lt hb) oq).trans (h.block b hb hn),fun b hb=>U.mine b (h.mine b hb),fun b ho hl hn=>(U.low b ho (lL hl h.grow) fun z=>(hx b z).elim hn fun z=>absurd hl oq).trans (h.low b ho hl hn)⟩
def c9(K:Cfg)(w:World)(b:Nat):Prop:=b<w.heap.size∧¬K.dP w b∧¬K.Still b∧¬K.QY b∧∀ad:Addr,ad.block=b→¬K.Shun (.cell ad)
def gG (K:Cfg)(b:Nat):Prop:=b<K.N0∧¬K.pZ b∧¬K.QY b
def My(F:K.Fit)(h:tW (c9 K w') e):QW K w' e:=by
 rcases h with ⟨ad,he,hl,hk,hs,_,hh⟩|⟨b,f,rfl,hl,hk,hs,hy,hh⟩|⟨h1,h2,h3,h4⟩
 ·have⟨l,f,g⟩:=e;obtain rfl:l=.cell ad:=he;have c:∀x,(MemAct.ofEvent ⟨.cell ad,f,g⟩).touch?=some x→x.loc=.cell ad:=by intro x a;cases f<;>cases g<;>(simp[MemAct.ofEvent,MemAct.touch?] at a;rw[← a])
  refine⟨fun x a=>⟨⟨?_,?_,?_⟩,⟨fun d U=>?_,fun d U=>?_⟩⟩,iq,iq,by cases f<;>cases g<;>simp[MemAct.ofEvent]⟩
  ·rw[c x a];rintro(⟨d,e,h⟩|e|⟨d,e,h⟩)
   ·cases e;exact hk h
   ·cases e
   ·cases e
  ·rw[c x a];rintro⟨d,e,h⟩;cases e;exact absurd h hs
  ·rw[c x a];exact fun h=>absurd h (hh ad rfl)
  ·rw[c x a] at U;cases U;exact hl
  ·rw[c x a] at U;cases U
 ·have c:∀x,(MemAct.ofEvent ⟨.obj b,f,false⟩).touch?=some x→x.loc=.obj b:=by intro x a;cases f<;>(simp[MemAct.ofEvent,MemAct.touch?] at a;rw[← a])
  refine⟨fun x a=>⟨⟨?_,?_,?_⟩,⟨fun d U=>?_,fun d U=>?_⟩⟩,iq,iq,by cases f<;>simp[MemAct.ofEvent]⟩
  ·rw[c x a];rintro(⟨d,e,h⟩|e|⟨d,e,h⟩)
   ·cases e
   ·cases e;exact hy (.inr (.inl rfl))
   ·cases e;exact hk h
  ·rw[c x a];rintro⟨d,e,h⟩;cases e
  ·rw[c x a];intro h;have⟨d,e,_⟩:=F.jx _ h;cases e
  ·rw[c x a] at U;cases U
  ·rw[c x a] at U;cases U;exact hl
 ·exact⟨fun x a=>(by rw[h1] at a;cases a),h2,h3,h4 _⟩
def ym(F:K.Fit):Env K.KT K.N0 (c9 K) (gG K) (RM K) (DM K) where
 lt:=fun h=>h.1
 keep:=fun r h=>r.block _ h.1 h.2.1 h.2.2.2.1
 stay:=fun r h=>⟨lL h.1 r.size,fun z=>h.2.1 (z.of_same (r.block _ h.1 h.2.1 h.2.2.2.1).symm),h.2.2⟩
 tape:=fun r=>r.tape
 os:=fun r=>r.os
 output:=fun r=>r.output
 size:=fun r=>r.size
 jA:=by
  intro w g n c o i
  refine⟨fun b U=>?_,fun b U=>?_,o.grow,fun e h=>My F (i e h)⟩
  ·
   refine o.block b ?_ fun m=>?_
   ·
    rcases U with U|U|U
    ·
     exact U.lt F c
    ·
     exact lL (F.s0 b U) c
    ·
     rcases U with rfl|rfl|rfl
     ·
      exact lL F.A0 c
     ·
      exact lL F.E0 c
     ·
      exact lL F.W0 c
   ·
    rcases U with U|U|U
    ·
     exact m.2.1 U
    ·
     exact m.2.2.1 U
    ·
     exact m.2.2.2.1 U
  ·
   rcases U with U|⟨h1,o',h2,h3⟩
   ·
    exact .inl U
   ·
    exact .inr ⟨h1,o',(o.kt b o' h2 h3).symm.trans h2,h3⟩
 mine:=by
  rintro w g b o ⟨h1,h2,h3⟩
  refine⟨lL h1 o.grow,fun j=>h2 ?_,h3⟩
  rcases j with U|⟨h1,o',h2,h3⟩
  ·
   exact .inl U
  ·
   exact .inr ⟨h1,o',(o.kt b o' h2 h3).symm.trans h2,h3⟩
 new:=by
  intro w g b c o h1 h2
  refine⟨h2,?_,fun z=>?_,?_,fun l p k=>?_⟩
  ·
   rintro(z|⟨z,o',z1,z2⟩)
   ·
    have:=F.c0 b z;omega
   ·
    have e:=(o.kt b o' z1 z2).symm.trans z1
    have:=(Array.getElem?_eq_some_iff.1 e).1
    omega
  ·
   have:=F.s0 b z;omega
  ·
   rintro(rfl|rfl|rfl)
   ·
    have:=F.A0;omega
   ·
    have:=F.E0;omega
   ·
    have:=F.W0;omega
  ·
   have⟨a,e,z⟩:=F.jx _ k
   cases e
   omega
 Kq:=fun r d f=>r.block _ f (fun z=>d.2.1 (z.low d.1)) d.2.2
 gG:=fun d f h=>⟨f,fun z=>d.2.1 (z.low d.1),h.2.2⟩
 uK:=fun w=>⟨rfl,rfl,rfl,fun _ _ _ _=>rfl,lr⟩
 BS:=fun w=>⟨fun _ _=>rfl,fun _ h=>h,lr,iq⟩
def Ph.early:Ph→Prop
 | .inr (.inr (.inr _))=>False
 | _=>True
def yo[Go.ConcX.Payload][Go.ConcR.Payload][Go.ConcX.Shy K.Wg K.C](F:K.Fit){i:Ph}(a:i.early):Env K.KT K.N0 (c9 K) (gG K) (nh K i) (rZ K i):=by
 cases i using Ph.bR with
 | join=>exact a.elim
 | _=>exact ym F
def uY(S:Nat→Prop)(w:World)(b:Nat):Prop:=b<w.heap.size∧¬S b
def OU{S:Nat→Prop}(j:∀b,S b→b<N0):Env KT N0 (uY S) O AtRel (DZ S) where
 lt:=fun h=>h.1
 keep:=by rintro w _ b ⟨e,rfl⟩ _;rfl
 stay:=by rintro w _ b ⟨e,rfl⟩ h;exact h
 tape:=by rintro w _ ⟨e,rfl⟩;rfl
 os:=by rintro w _ ⟨e,rfl⟩;rfl
 output:=by rintro w _ ⟨e,rfl⟩;rfl
 size:=by rintro w _ ⟨e,rfl⟩;exact Nat.le_refl _
 jA:=by
  intro w p n k o f e h
  rcases f e h with ⟨ad,h1,_,h2⟩|⟨b,g,rfl,_⟩|⟨h1,h2,h3,_⟩
  ·
   have⟨l,g,m⟩:=e
   obtain rfl:l=.cell ad:=h1
   refine⟨fun x a i U d=>?_,iq,iq⟩
   have c:x.loc=.cell ad:=by cases g<;>cases m<;>(simp[MemAct.ofEvent,MemAct.touch?] at a;rw[← a])
   rw[c] at U
   cases U
   exact h2 d
  ·
   refine⟨fun x a i U d=>?_,iq,iq⟩
   have c:x.loc=.obj b:=by cases g<;>(simp[MemAct.ofEvent,MemAct.touch?] at a;rw[← a])
   rw[c] at U
   cases U
  ·
   exact⟨fun x a=>(by rw[h1] at a;cases a),h2,h3⟩
 mine:=fun o h=>⟨lL h.1 o.grow,h.2⟩
 new:=fun k _ h1 h2=>⟨h2,fun d=>by have:=j _ d;omega⟩
 Kq:=by rintro w _ b ⟨e,rfl⟩ _ _;rfl
 gG:=fun _ c h=>⟨c,h.2⟩
 uK:=fun w=>⟨w.drawn+1,rfl⟩
 BS:=fun w e f=>by simp at f
def oz(base:Nat)(t ty e:TypeId)(i:TypeInfo)(z:Value)(b bytes:Nat)(k:P.underlying t=some (.slice e))(h:P.info? e=some i)(s:i.zero=some z)
 (y:i.size=b)(C:i.bytes=bytes)
 (v:Value)(n:Nat)(xs:Vq)(o:w.ownsRow base e b v n xs)
 (a:Addr)(m c:Nat)(news:Vq)(d:news.length=m*b)(l:∀j u,news[j]?=some u→w.cell? (a.add j)=some u)(h1:∀u∈news,u.oneCell'=true)
 (B:n+m≤maxLen)(q:(n+m)*bytes≤140737488355328)(U:(Builtin.append_ #[t,t] ty #[v,.slice (some a) m c]).run P w=.ok v' w') :
  w'=w∨(∃g p,v.ownBlock=some g∧w'=w.setRow g p)∨∃p,w'=w.drew.alloc (.cells p e):=by
 subst y;subst C;have G:n+m≤9223372036854775807:=by simp only[maxLen] at B;omega
 rcases o.2 with ⟨rfl,rfl⟩|⟨g,cap,a6,rfl,af,hg,ah,ag,ab,ae⟩
 ·by_cases E:m=0
  ·subst E;have F:news=[]:=List.eq_nil_of_length_eq_zero (by simpa using d);subst F;left;simp[Builtin.append_,run_underlying k,sizeOf,typeInfo,h,Builtin.lenOf,Builtin.firstCells,loadCells,loadCellsFrom] at U;exact U.2.symm
  ·have f:=run_append_nil (P:=P) w t ty e i z k h s a m c news d l oq oq (by have D:=q;simp only[Nat.zero_add] at D;omega);rw[f] at U;cases U;exact .inr (.inr ⟨_,rfl⟩)
 ·by_cases r:n+m≤cap
  ·have A:n*i.size+news.length≤a6.size:=by rw[d,ab,← Nat.add_mul];exact Nat.mul_le_mul_right _ r
   have f:=run_append_room (P:=P) w t ty e i k h g n cap a6 hg a m c news d l h1 r A;rw[f] at U;cases U;exact .inr (.inl ⟨g,_,rfl,rfl⟩)
  ·have x:∀j u,xs[j]?=some u→w.cell? ((⟨g,0,none⟩:Addr).add j)=some u:=o.cells (g:=g) rfl;have f:=run_append_grow (P:=P) w t ty e i z k h s ⟨g,0,none⟩ n cap xs o.1 x a m c news d l oq oq (growslice_fits oq q);rw[f] at U;cases U;exact .inr (.inr ⟨_,rfl⟩)
end
structure lN(M:World→Nat→Prop)(Ex:Nat→Prop)(w₀:World)(e:TypeId)(v:Value)(n:Nat)(xs:Vq)(w:World):Prop where
 row:w.ownsRow 0 e 1 v n xs
 own:∀k,v.ownBlock=some k→M w k∧(Ex k∨w₀.heap.size≤k)
 nil:n=0→v=.slice none 0 0
section
variable {KT:TypeId→Prop}{N0:Nat}{M:World→Nat→Prop}{O:Nat→Prop}{R:Wq}{D:World→World→Array Event→Prop}{Ex:Nat→Prop}{w₀ w aE w':World}{e:TypeId}{v:Value}{n:Nat}{xs news:Vq}{g:Nat}
def lN.same(h:lN M Ex w₀ e v n xs w)(U:∀k,v.ownBlock=some k→w'.heap[k]?=w.heap[k]?∧M w' k):lN M Ex w₀ e v n xs w':=by
 refine⟨⟨h.row.1,?_⟩,fun k a=>⟨(U k a).2,(h.own k a).2⟩,h.nil⟩;rcases h.row.2 with z|⟨g,cap,cur,h1,h2,h3,h4⟩
 ·exact .inl z
 ·exact .inr ⟨g,cap,cur,h1,h2,(U g (by rw[h1];rfl)).1.trans h3,h4⟩
def lN.rely(E:Env KT N0 M O R D)(h:lN M Ex w₀ e v n xs w)(r:R w aE):lN M Ex w₀ e v n xs aE:=h.same fun k U=>⟨E.keep r (h.own k U).1,E.stay r (h.own k U).1⟩
def lN.type(h:lN M Ex w₀ e v n xs w)(a:v.ownBlock=some k):∃U,w.heap[k]?=some (.cells U e (0,0)):=by
 rcases h.row.2 with ⟨z,_⟩|⟨g,cap,U,h1,h2,h3,h4⟩
 ·rw[z] at a;cases a
 ·rw[h1] at a;cases a;exact⟨U,h3⟩
def lN.ne(h:lN M Ex w₀ e v n xs w)(U:w.heap[b]?=some (.cells cs t fz))(f:t≠e)(d:v.ownBlock=some k):k≠b:=by rintro rfl;have⟨c,a⟩:=h.type d;rw[U] at a;cases a;exact f rfl
def lN.none(M:World→Nat→Prop)(Ex:Nat→Prop)(w₀ w:World)(e:TypeId):lN M Ex w₀ e (.slice .none 0 0) 0 [] w:=⟨World.ownsRow_nil _ _ _ _,fun k U=>(by cases U),fun _=>rfl⟩
structure FB(M:World→Nat→Prop)(e:TypeId)(news:Vq)(g:Nat)(w:World):Prop where
 src:w.heap[g]?=some (.cells news.toArray e)
 mine:M w g
def FB.rely(E:Env KT N0 M O R D)(h:FB M e news g w)(r:R w aE):FB M e news g aE:=⟨(E.keep r h.mine).trans h.src,E.stay r h.mine⟩
def FR(E:Env KT N0 M O R D)(N:N0≤w.heap.size)(l:¬KT e)(old:Kept M O Ex w₀ w)(h:lN M Ex w₀ e v n xs w)(q:FB M e news g w)(t ty:TypeId)(z:Value)(bytes:Nat)(F:P.underlying t=some (.slice e))(p:(P.info? e).map (fun i=>(i.zero,i.size,i.bytes))=some (some z,1,bytes))(X:z.cells.size=1)
 (h1:∀x∈news,x.oneCell'=true)(C:n+news.length≤maxLen)(a:(n+news.length)*bytes≤140737488355328) :
  ∃s d,(Builtin.append_ #[t,t] ty #[v,.slice (sq g) news.length news.length]).run P w=.ok s d∧lN M Ex w₀ e s (n+news.length) (xs++news) d∧Kept M O Ex w₀ d∧Own KT M w d ∧
   (∀b,b<w.heap.size→v.ownBlock≠some b→d.heap[b]?=w.heap[b]?) ∧
   D w d ((Builtin.append_ #[t,t] ty #[v,.slice (sq g) news.length news.length]).events P w #[]) ∧
   ∀e∈(Builtin.append_ #[t,t] ty #[v,.slice (sq g) news.length news.length]).events P w #[],∀m,e.loc=.mark m→Conc.Neutral m:=by
 have B:∀j x,news[j]?=some x→w.cell? ((⟨g,0,none⟩:Addr).add j)=some x:=by
  intro j x W;have:(⟨g,0,none⟩:Addr).add j=⟨g,j,none⟩:=by unfold Addr.add;split<;>simp_all
  rw[this];simp[World.cell?,q.src,W]
 have⟨H,p,u,y,A⟩:=info_parts p;have⟨s,d,L,K,J,r,U⟩:=run_append_own_at (P:=P) w 0 t ty e H z 1 bytes F p u y A X dq v n xs h.row ⟨g,0,none⟩ news.length news.length news iq B h1 C a (Nat.zero_le _);have T:=oz (P:=P) 0 t ty e H z 1 bytes F p u y A v n xs h.row ⟨g,0,none⟩ news.length news.length news iq B h1 C a L;have I:=events_append_where (P:=P) w 0 t ty e H z 1 bytes F p u y A v n xs h.row ⟨g,0,none⟩ news.length news.length news iq B h1 C a;have f:Own KT M w d:=by
  rcases T with rfl|⟨k,cs,c,rfl⟩|⟨cs,rfl⟩
  ·exact Own.refl _
  ·have⟨Z,Q⟩:=h.type c;exact Own.setRow Q (h.own k c).1 l
  ·have:=Own.alloc (KT:=KT) (M:=M) (w:=w.drew) (cs:=cs) (t:=e) l;exact⟨this.tape,this.os,this.output,this.grow,fun b a o=>heap_alloc_old w.drew _ b a,fun b Y V c=>(this.kt b Y V c)⟩
 have S:∀k,s.ownBlock=some k→M d k∧(Ex k∨w₀.heap.size≤k):=by
  intro k c;rcases U with U|U
  ·rw[U] at c;exact⟨E.mine f (h.own k c).1,(h.own k c).2⟩
  ·rw[U] at c;cases c;refine⟨E.new N f lr (K.lt _ U).2,.inr old.grow⟩
 refine⟨s,d,L,⟨K,S,fun e=>r.2 ⟨h.nil oq,oq⟩⟩,old.own E f fun b a G=>J.block b (E.lt (old.mine b a)) fun e=>?_,f,fun b a G=>J.block b a (fun e=>G e.symm),E.jA N f fun e l=>?_,fun e l m o=>?_⟩
 ·rcases(h.own b e.symm).2 with z|z
  ·exact G z
  ·have:=E.lt a;omega
 ·rcases I e l with ⟨ad,h1,h2⟩|⟨m,rfl,o⟩
  ·refine .inl ⟨ad,h1,E.mine f ?_⟩;rcases h2 with ⟨_,h2⟩|h2
   ·rw[h2];exact q.mine
   ·exact(h.own _ h2.symm).1
  ·obtain rfl:m=.noRoom:=o;exact .inr (.inr ⟨by simp[MemAct.ofEvent,MemAct.touch?],iq,iq,by simp[MemAct.ofEvent]⟩)
 ·rcases I e l with ⟨ad,h1,_⟩|⟨m',rfl,a6⟩
  ·rw[h1] at o;cases o
  ·cases o;exact a6
end
section
def dr{w:World}(h:w.heap[b]?=some (.cells cs ty fz))(v:Value):(w.setCell ⟨b,o,none⟩ v).heap[b]?=some (.cells (cs.setIfInBounds o v) ty fz):=by simp[World.setCell,Array.getElem?_modify,h]
def HC.ia(w:World)(v:Value)(U:b'≠b):(w.setCell ⟨b,o,none⟩ v).heap[b']?=w.heap[b']?:=Below.heap_setCell _ _ _ _ U
def aB (P:Program)(N Pb:Nat)(Shun:Loc→Prop)(val:Value)(B:Nat)(Mine:Loc→Prop):Cfg :=
 { P:=P,ty:=169,A:=N+2,E:=N+4,Wg:=N+6,C:=N,pZ:=fun b=>b=N,N0:=N+9,KT:=fun t=>t=177∨t=179∨1016≤t,Still:=fun b=>b=N+1∨b=N+3∨b=N+5∨b=N+7∨b=N+8∨b=Pb,Shun:=Shun,B:=B,
   z:=.int .i32 0,zs:=.tuple #[],zE:=.agg #[],val:=val,Mine:=Mine }
variable [Go.ConcR.Payload][Go.ConcX.Payload]
variable (K:Cfg)
abbrev Ix:=Bool × Vq
def eZ (_:Ix):World→World→Prop:=RC K
def XK (i:Ix)(g:Goroutine)(w:World):Prop:=Way K.P false (eZ K i) (DK K) (lj K i.2) g w
section
variable {K:Cfg}{i:Ix}{w aE mD:World}
def eZ.rc(h:eZ K i w aE):RC K w aE:=h
def eZ.refl(i:Ix)(w:World):eZ K i w w:=RC.refl w
def eZ.trans(h:eZ K i w aE)(U:eZ K i aE mD):eZ K i w mD:=RC.trans h U
def XK.closed:Closed K.P false (eZ K) (DK K) (XK K) where
 rely:=fun {i} _ _ _ h hr=>Way.rely (R:=eZ K i) (fun _ _ _=>eZ.trans) h hr
 step:=by
  intro i g w c h
  refine Way.step c fun a b=>?_
  have U:=h a b
  cases e:stepG K.P false g a with
  | go g' w' es=>rw[e,goes_go] at U;exact⟨g',w',es,rfl,U.1,U.2⟩
  | _=>rw[e] at U;exact U.elim
def IG(i:Ix):Terms (eZ K i) (DK K):=⟨fun _ _ _=>eZ.trans,fun _=>⟨rfl,rfl,rfl,fun _ _ _=>rfl,fun _ h=>h,fun _ h1 h2=>absurd h1 oq,rfl,lr,iq⟩⟩
def IY(fr:Bool)(vs:Vq)(g:Goroutine)(w:World):XK K (fr,vs) g w↔lM K vs g w:=by rw[qd];exact Iff.rfl
def Et{j:Nat}{o:Oper}{Q:om Ix}{a:Act}{fr:Bool}{y:Operand}(n:K.zs=.tuple #[])(m:ops[j]?=some o)(u:Region.wanted o (yielded ops a.tmps)=true)(l:o.op=.send x y)(z:a.eval x=.chan (some K.A))(B:a.eval y=v)
 (s:∀c,RC K w c→K.N0≤c.heap.size)(h:∀c,RC K w c→kG (XK K) fn ops rest (false,vs) Q (a.put o.dst undef) c):kG (XK K) fn ops (j::rest) (fr,v::vs) Q a w:=by
 intro b k i p U q;refine Way.stop fun c d=>?_;have t:∀w,(execOp a.eval o).run K.P w=.ok (.comm #[scase K.A v K.zs] true .send) w:=fun w=>by unfold execOp;simp[l,z,B,n,scase]
 have r:∀w,(execOp a.eval o).events K.P w #[]=#[]:=fun w=>by unfold execOp;simp[l]
 refine⟨rfl,s c d.rc,?_,fun g f=>?_⟩
 ·rw[stepG_comm m u U (t c),listed_none (r c)]
 ·have e:Conc.served (G (b.at a (.inRegion ops (j::rest)::k)) i) undef=G (b.at (a.put o.dst undef) (.inRegion ops rest::k)) i:=by
   have:(b.at a (.inRegion ops (j::rest)::k)).finish undef=b.at (a.put o.dst undef) (.inRegion ops rest::k):=by rw[Frame.finish_at,m];rfl
   simp only[Conc.served,G];rw[this]
  rw[e];exact(IY false vs _ _).1 (h g (d.rc.trans f) b k i p U q)
end
section
variable [Go.ConcR.Payload][Go.ConcX.Payload](N Pb:Nat)(Shun:Loc→Prop)(val:Value)(B:Nat)(Mine:Loc→Prop)
def cK:Closed prog false (eZ (aB prog N Pb Shun val B Mine)) (DK (aB prog N Pb Shun val B Mine)) (XK (aB prog N Pb Shun val B Mine)):=XK.closed (K:=(aB prog N Pb Shun val B Mine))
def tK(i:Ix):Terms (eZ (aB prog N Pb Shun val B Mine) i) (DK (aB prog N Pb Shun val B Mine)):=IG (K:=(aB prog N Pb Shun val B Mine)) i
end
structure CS where
 begun:Bool
 returned:Bool
structure DS where
 letter:Int
 missing:Int
 low:Int
 high:Int
def fy(N:Nat):Value:=.func (.func 113) #[] #[.pointer (some ⟨N+3,0,none⟩)]
def lf (a:Nat):Value:=.func (.func 116) #[.pointer (some ⟨a,0,none⟩)] #[]
structure HC(N Pb cp c1 c2:Nat)(c:CS)(d:DS)(w:World):Prop where
 lv:w.heap[N+3]?=some (.cells #[.chan (some (N+2))] 158)
 cl:w.heap[c1]?=some (.cells #[fy N,.bool c.begun,.bool c.returned] 177)
 de:w.heap[c2]?=some (.cells #[lf c1,.int .i32 d.letter,.int .i64 d.missing,.int .u8 d.low,.int .u8 d.high] 179)
 pc:w.heap[N]?=some (.cells #[.slice (some ⟨Pb,0,none⟩) 1 cp] 62)
 wb:w.heap[N+7]?=some (.cells #[.pointer (some ⟨N+6,0,none⟩)] 240)
 h1:N+9≤c1
 h2:N+9≤c2
 ne:c1≠c2
section
variable {N Pb cp c1 c2:Nat}{Shun:Loc→Prop}{val:Value}{B:Nat}{Mine:Loc→Prop}{c:CS}{d:DS}{w aE:World}
def HC.JX(h:HC N Pb cp c1 c2 c d w):(aB prog N Pb Shun val B Mine).dP w c1:=.inr ⟨h.h1,_,h.cl,.inl rfl⟩
def HC.JY(h:HC N Pb cp c1 c2 c d w):(aB prog N Pb Shun val B Mine).dP w c2:=.inr ⟨h.h2,_,h.de,.inr (.inl rfl)⟩
def HC.rc(h:HC N Pb cp c1 c2 c d w)(r:RC (aB prog N Pb Shun val B Mine) w aE):HC N Pb cp c1 c2 c d aE :=
 ⟨(r _ (.inr (.inr (.inl rfl)))).trans h.lv,(r _ (.inl h.JX)).trans h.cl,(r _ (.inl h.JY)).trans h.de,(r _ (.inl (.inl rfl))).trans h.pc,(r _ (i3 (.inr (.inl rfl)))).trans h.wb,h.h1,h.h2,h.ne⟩
def HC.rely{i:Ix}(h:HC N Pb cp c1 c2 c d w)(r:eZ (aB prog N Pb Shun val B Mine) i w aE):HC N Pb cp c1 c2 c d aE:=h.rc r.rc
def HC.size(h:HC N Pb cp c1 c2 c d w):N+9≤w.heap.size:=by
 have:=(Array.getElem?_eq_some_iff.1 h.cl).1
 have:=h.h1;omega
def HC.Jo(h:HC N Pb cp c1 c2 c d w):w.cell? ⟨N+3,0,none⟩=some (.chan (some (N+2))):=by simp[World.cell?,h.lv]
def HC.ji(h:HC N Pb cp c1 c2 c d w):w.cell? ⟨c1,0,none⟩=some (fy N)∧w.cell? ⟨c1,1,none⟩=some (.bool c.begun)∧w.cell? ⟨c1,2,none⟩=some (.bool c.returned)∧w.frozen? ⟨c1,1,none⟩=false∧w.frozen? ⟨c1,2,none⟩=false:=by simp[World.cell?,World.frozen?,h.cl]
def HC.cO(h:HC N Pb cp c1 c2 c d w):w.cell? ⟨c2,0,none⟩=some (lf c1)∧w.cell? ⟨c2,1,none⟩=some (.int .i32 d.letter)∧w.cell? ⟨c2,2,none⟩=some (.int .i64 d.missing)∧w.cell? ⟨c2,3,none⟩=some (.int .u8 d.low)∧w.cell? ⟨c2,4,none⟩=some (.int .u8 d.high)
  ∧ w.frozen? ⟨c2,1,none⟩=false∧w.frozen? ⟨c2,2,none⟩=false∧w.frozen? ⟨c2,3,none⟩=false∧w.frozen? ⟨c2,4,none⟩=false:=by simp[World.cell?,World.frozen?,h.de]
def EvB (N Pb c1 c2:Nat)(e:Event):Prop:=∃a wr,e=⟨.cell a,wr,false⟩∧((a.block=N∨a.block=c1∨a.block=c2)∨((a.block=N+1∨a.block=N+3∨a.block=N+5∨a.block=N+7∨a.block=N+8∨a.block=Pb)∧wr=false))
def EvB.UY(U:(aB prog N Pb Shun val B Mine).dP w c1)(b:(aB prog N Pb Shun val B Mine).dP w c2)(c:EvB N Pb c1 c2 e):Jb (aB prog N Pb Shun val B Mine) w e:=by
 obtain⟨a,d,rfl,h⟩:=c;refine .inl ⟨a,d,rfl,?_⟩;rcases h with (h|h|h)|⟨h,hw⟩
 ·exact .inl (.inl h)
 ·exact .inl (by rw[h];exact U)
 ·exact .inl (by rw[h];exact b)
 ·exact .inr ⟨h,hw⟩
def dT(U:HC N Pb cp c1 c2 c d w)(h:∀e∈es,EvB N Pb c1 c2 e):DK (aB prog N Pb Shun val B Mine) w w es :=
 ⟨rfl,rfl,rfl,fun _ _ _=>rfl,fun _ h=>h,fun _ h1 h2=>absurd h1 oq,rfl,lr,fun e he=>(h e he).UY U.JX U.JY⟩
def fB(U:HC N Pb cp c1 c2 c d w)(f:b=c1∨b=c2)(h:∀e∈es,EvB N Pb c1 c2 e):DK (aB prog N Pb Shun val B Mine) w (w.setCell ⟨b,o,none⟩ v) es:=by
 have a:∀k,(aB prog N Pb Shun val B Mine).dP w k→(aB prog N Pb Shun val B Mine).dP (w.setCell ⟨b,o,none⟩ v) k:=by
  intro k a;by_cases e:k=b
  ·subst e;rcases f with rfl|rfl
   ·exact .inr ⟨U.h1,_,dr U.cl v,.inl rfl⟩
   ·exact .inr ⟨U.h2,_,dr U.de v,.inr (.inl rfl)⟩
  ·exact a.of_same (Below.heap_setCell _ _ _ _ e)
 have g:(aB prog N Pb Shun val B Mine).dP w b:=by
  rcases f with rfl|rfl
  ·exact U.JX
  ·exact U.JY
 have l:(w.setCell ⟨b,o,none⟩ v).heap.size=w.heap.size:=by simp[World.setCell]
 refine⟨rfl,rfl,rfl,fun k _ i=>Below.heap_setCell _ _ _ _ ?_,a,fun _ h1 h2=>absurd h1 oq,Below.heap_setCell _ _ _ _ ?_,oq,fun e j=>(h e j).UY (a _ U.JX) (a _ U.JY)⟩
 ·rintro rfl;exact i g
 ·show N≠b
  have:=U.h1;have:=U.h2;omega
def qi(U:b=N+1∨b=N+3∨b=N+5∨b=N+7∨b=N+8∨b=Pb):EvB N Pb c1 c2 ⟨.cell ⟨b,o,none⟩,false,false⟩:=⟨_,_,rfl,.inr ⟨U,rfl⟩⟩
def cM{wr:Bool}(U:b=N∨b=c1∨b=c2):EvB N Pb c1 c2 ⟨.cell ⟨b,o,none⟩,wr,false⟩:=⟨_,_,rfl,.inl U⟩
def Lw:LetsDraw (DK (aB prog N Pb Shun val B Mine)):=fun _=>⟨rfl,rfl,rfl,fun _ _ _=>rfl,fun _ h=>h,fun _ h1 h2=>absurd h2 (Nat.not_lt.2 h1),rfl,lr,iq⟩
def ta{i:Ix}(w:World):eZ (aB prog N Pb Shun val B Mine) i w { w with drawn:=w.drawn+1 }:=fun _ _=>rfl
def HC.ND(h:HC N Pb cp c1 c2 c d w)(x:Bool):HC N Pb cp c1 c2 ⟨x,c.returned⟩ d (w.setCell ⟨c1,1,none⟩ (.bool x)):=by have h1:=h.h1;have h2:=h.h2;have a:=h.ne;exact⟨(HC.ia w _ oq).trans h.lv,dr h.cl _,(HC.ia w _ (Ne.symm a)).trans h.de,(HC.ia w _ oq).trans h.pc,(HC.ia w _ oq).trans h.wb,h1,h2,a⟩
def HC.NE(h:HC N Pb cp c1 c2 c d w)(x:Bool):HC N Pb cp c1 c2 ⟨c.begun,x⟩ d (w.setCell ⟨c1,2,none⟩ (.bool x)):=by have h1:=h.h1;have h2:=h.h2;have a:=h.ne;exact⟨(HC.ia w _ oq).trans h.lv,dr h.cl _,(HC.ia w _ (Ne.symm a)).trans h.de,(HC.ia w _ oq).trans h.pc,(HC.ia w _ oq).trans h.wb,h1,h2,a⟩
def HC.vq(h:HC N Pb cp c1 c2 c d w)(x:Int):HC N Pb cp c1 c2 c { d with letter:=x } (w.setCell ⟨c2,1,none⟩ (.int .i32 x)):=by have h1:=h.h1;have h2:=h.h2;have a:=h.ne;exact⟨(HC.ia w _ oq).trans h.lv,(HC.ia w _ a).trans h.cl,dr h.de _,(HC.ia w _ oq).trans h.pc,(HC.ia w _ oq).trans h.wb,h1,h2,a⟩
def HC.oc(h:HC N Pb cp c1 c2 c d w)(x:Int):HC N Pb cp c1 c2 c { d with missing:=x } (w.setCell ⟨c2,2,none⟩ (.int .i64 x)):=by have h1:=h.h1;have h2:=h.h2;have a:=h.ne;exact⟨(HC.ia w _ oq).trans h.lv,(HC.ia w _ a).trans h.cl,dr h.de _,(HC.ia w _ oq).trans h.pc,(HC.ia w _ oq).trans h.wb,h1,h2,a⟩
def HC.H2(h:HC N Pb cp c1 c2 c d w)(x:Int):HC N Pb cp c1 c2 c { d with low:=x } (w.setCell ⟨c2,3,none⟩ (.int .u8 x)):=by have h1:=h.h1;have h2:=h.h2;have a:=h.ne;exact⟨(HC.ia w _ oq).trans h.lv,(HC.ia w _ a).trans h.cl,dr h.de _,(HC.ia w _ oq).trans h.pc,(HC.ia w _ oq).trans h.wb,h1,h2,a⟩
def HC.CO(h:HC N Pb cp c1 c2 c d w)(x:Int):HC N Pb cp c1 c2 c { d with high:=x } (w.setCell ⟨c2,4,none⟩ (.int .u8 x)):=by have h1:=h.h1;have h2:=h.h2;have a:=h.ne;exact⟨(HC.ia w _ oq).trans h.lv,(HC.ia w _ a).trans h.cl,dr h.de _,(HC.ia w _ oq).trans h.pc,(HC.ia w _ oq).trans h.wb,h1,h2,a⟩
def Bi(b:HC N Pb cp c1 c2 c d w)(fr:Bool)(r:Int)(vs:Vq) :
  gJ prog (XK (aB prog N Pb Shun val B Mine)) 113 #[.int .i32 r,.pointer (sq (N+3))] (fr,.int .i32 r::vs) w (fun j _ k=>j=(false,vs)∧HC N Pb cp c1 c2 c d k):=by
 have C:=cK N Pb Shun val B Mine;have T:=tK N Pb Shun val B Mine;refine fh func113 rq rfl ?_;simp only[ntmps113,bZ,Nat.reduceAdd,Nat.reduceSub];refine bS C T ?_;simp only[ga,Nat.reduceAdd];refine aL C rfl rq fun g f i U=>?_;replace b:=b.rely f;have l:=b.Jo;go_simp;refine U _ _ ⟨?_,?_⟩
 ·refine dT b ?_;co_evs (exact qi (.inr (.inl rfl)))
 try walk_nrm
 refine aL C rfl rq fun h f i U=>?_;replace b:=b.rely f;go_simp;refine U _ _ ⟨?_,?_⟩
 ·co_quiet (T (true,[]))
 try walk_nrm
 refine Et (K:=(aB prog N Pb Shun val B Mine)) (v:=.int .i32 r) rfl rfl rq rfl rfl rfl (fun e a=>(b.rc a).size) fun e a=>?_;replace b:=b.rc a;refine cJ C T ?_;exact⟨.inl rfl,rfl,_,resultsC_none rq _,rfl,b⟩
end
end
def eD(c:CS)(r:Int):CS × Iq :=
 (⟨true,r==13⟩,if (!c.begun&&r==65279)=true then [] else if (c.returned&&r==10)=true then [] else if r=13 then [10] else if r=0 then [65533] else [r])
def V (a:Iq):Vq:=a.map (.int .i32 ·)
section
variable {P:Program}{R:Wq}{D:World→World→Array Event→Prop}{fn:FuncId}{md:Region.Mode}{ops:Array Oper}{Q:Exit→Act→World→Prop}{S:World→Prop}{oi:Oper}{v:Value}{i n:Nat}{L:Array Bool}{a:Act}{w:World}{l:List Nat}
def TK(P:Program)(R:Wq)(D:World→World→Array Event→Prop)(fn:FuncId)(a:Region.Mode)(ops:Array Oper)(Q:Exit→Act→World→Prop)(S:World→Prop)(_:List Nat):Nat→Array Bool→Act→World→Prop:=AnyCH P R D fn a ops Q S
def VN(l:List Nat)(h:TK P R D fn md ops Q S l n L a w):AnyCH P R D fn md ops Q S n L a w:=h
def VP(h:AnyCH P R D fn md ops Q S n L a w):TK P R D fn md ops Q S [] n L a w:=h
def VO(T:Terms R D)(h1:∀x y,S x→R x y→S y)(h2:∀a x y,Q .normal a x→R x y→Q .normal a y)(d:ops[i]?=some oi)(g:YieldsIfC P D fn ops S oi v a)(b:S w)(h:TK P R D fn md ops Q S l n (L.setIfInBounds i true) (a.put oi.dst v) w)(f:Region.noSelect ops=true:=by decide +kernel)(c:Region.free md ops L i=true:=by decide +kernel)(e:(Region.ready md ops L).contains i=true:=by decide +kernel):TK P R D fn md ops Q S (i::l) (n+1) L a w:=anyCH_take T h1 h2 d f c e g b h
end
section
variable {N Pb cp c1 c2:Nat}{Shun:Loc→Prop}{val:Value}{B:Nat}{Mine:Loc→Prop}{c:CS}{d:DS}{w aE:World}
variable [Go.ConcR.Payload][Go.ConcX.Payload]
def y7(b:HC N Pb cp c1 c2 c d w)(fr:Bool)(r:Int)(vs:Vq) :
  gJ prog (XK (aB prog N Pb Shun val B Mine)) 116 #[.pointer (sq c1),.int .i32 r] (fr,V (eD c r).2++vs) w (fun I _ J=>I=(fr&&(eD c r).2.isEmpty,vs)∧HC N Pb cp c1 c2 (eD c r).1 d J):=by
 have C:=cK N Pb Shun val B Mine;have T:=tK N Pb Shun val B Mine;have j:=T (true,[]);have H:∀(w:World) (u:Array Event) (a:Addr) (m:Mode) (x:Bool),(store a (.bool x) m).events prog w u=storedEv prog w u a (.bool x) m:=fun w u a m x=>events_store prog w u a _ m rfl;have A:∀w:World,eZ (aB prog N Pb Shun val B Mine) (true,[]) w { w with drawn:=w.drawn+1 }:=ta;refine fh func116 rq rfl ?_;simp only[ntmps116,bZ,Nat.reduceAdd,Nat.reduceSub];co_apply aO C T (eZ.refl _);co_held (T _) Lw A (HC N Pb cp c1 c2 c d) HC.rely b
 co_applyP VN [0, 1, 2, 3, 4, 5, 6, 7, 8, 9, 10]
 iterate 11
  co_applyP VO (T _) (fun _ _ h r=>HC.rely h r) (fun _ _ _ h r=>IQ C h r) rfl (.inl ⟨rq,fun _ E=>⟨run_eq_of ?_,?_⟩⟩) b ?_;rotate_left
  ·intro p f;have s:=E.ji;go_simp;exact f
  ·have s:=E.ji;first|(rw[listed_nil];exact Terms.idle j _;first|(simp[go_sem];done)|(simp[go_sem, *];done))|(refine dT E ?_;co_evs (exact cM (.inr (.inl rfl))))
  try walk_nrm
 co_applyP VP
 co_done;co_apply aO C T (eZ.refl _);co_reg (T _);iterate 4 co_op HC.rely b (co_quiet j)
 iterate 2 co_opw HC.rely b (skip) (co_still j)
 co_opw HC.rely b (have s:=b.ji) (exact fB b (.inl rfl) (by co_evs (exact cM (.inr (.inl rfl)))));replace b:=b.ND true;iterate 2 co_opw HC.rely b (skip) (co_still j)
 co_opw HC.rely b (have s:=b.ji) (exact fB b (.inl rfl) (by co_evs (exact cM (.inr (.inl rfl)))));replace b:=b.NE (r==13);co_apply opsC_nil (T _);co_then;refine iu C T ?_;generalize D:(!c.begun)=G;generalize y:c.returned=F;have z:eD c r=(⟨true,r==13⟩,if (G&&r==65279)=true then [] else if (F&&r==10)=true then [] else if r=13 then [10] else if r=0 then [65533] else [r]):=by rw[eD,D,y]
 rw[z];cases G<;>cases F;focus
  iterate 2
   co_apply aO C T (eZ.refl _)
   co_reg (T _)
   co_op HC.rely b (co_quiet j)
   co_op HC.rely b (co_quiet j)
   co_apply opsC_unwanted (T _) rfl rq
   co_apply opsC_unwanted (T _) rfl rq
   co_op HC.rely b (co_quiet j)
   co_op HC.rely b (co_quiet j)
   co_apply opsC_nil (T _)
   co_then
   try simp only[Bool.false_and,Bool.false_eq_true,if_false]
   refine aW C T (t:=false) rfl ?_
   simp only[if_false,Bool.false_eq_true]
  co_apply aO C T (eZ.refl _)
 rotate_left;focus
  co_apply aO C T (eZ.refl _)
  co_reg (T _)
  iterate 2 co_op HC.rely b (co_quiet j)
  iterate 2 co_apply opsC_unwanted (T _) rfl rq
  iterate 2 co_op HC.rely b (co_quiet j)
  co_apply opsC_nil (T _)
  co_then
  try simp only[Bool.false_and,Bool.true_and,Bool.false_eq_true,if_false]
  refine aW C T (t:=false) rfl ?_
  simp only[if_false,Bool.false_eq_true]
  co_apply aO C T (eZ.refl _)
  co_reg (T _)
  iterate 6 co_op HC.rely b (co_quiet j)
  co_apply opsC_nil (T _)
  co_then
  by_cases n:r=10
  ·have i:(r==10)=true:=by simp[n]
   simp only[i,if_true];try simp only at b
   refine aW C T (t:=true) rfl ?_;simp only[if_true];refine fg C T ?_;exact⟨.inl rfl,rfl,_,resultsC_none rq _,by simp[V],by simpa using b⟩
  have i:(r==10)=false:=by simp[n]
  simp only[i,Bool.false_eq_true,if_false];try simp only at b
  refine aW C T (t:=false) rfl ?_;simp only[if_false,Bool.false_eq_true];co_apply aO C T (eZ.refl _)
 rotate_left;focus
  co_apply aO C T (eZ.refl _)
  co_reg (T _)
  iterate 6 co_op HC.rely b (co_quiet j)
  co_apply opsC_nil (T _)
  co_then
  by_cases g:r=65279
  ·have e:(r==65279)=true:=by simp[g]
   simp only[e,Bool.and_true,Bool.false_and,Bool.false_eq_true,if_true,if_false];try simp only at b
   refine aW C T (t:=true) rfl ?_;simp only[if_true];refine fg C T ?_;exact⟨.inl rfl,rfl,_,resultsC_none rq _,by simp[V],by simpa using b⟩
  have e:(r==65279)=false:=by simp[g]
  simp only[e,Bool.and_false,Bool.false_and,Bool.false_eq_true,if_false];try simp only at b
  refine aW C T (t:=false) rfl ?_;simp only[if_false,Bool.false_eq_true];co_apply aO C T (eZ.refl _);co_reg (T _);iterate 2 co_op HC.rely b (co_quiet j)
  iterate 2 co_apply opsC_unwanted (T _) rfl rq
  iterate 2 co_op HC.rely b (co_quiet j)
  co_apply opsC_nil (T _);co_then;try simp only[Bool.and_true,Bool.and_false,Bool.false_and,Bool.true_and,Bool.false_eq_true,if_true,if_false,reduceIte]
  refine aW C T (t:=false) rfl ?_;simp only[if_false,Bool.false_eq_true];co_apply aO C T (eZ.refl _)
 rotate_left;focus
  co_apply aO C T (eZ.refl _)
  co_reg (T _)
  iterate 6 co_op HC.rely b (co_quiet j)
  co_apply opsC_nil (T _)
  co_then
  by_cases g:r=65279
  ·have e:(r==65279)=true:=by simp[g]
   simp only[e,Bool.and_true,Bool.true_and,if_true];try simp only at b
   refine aW C T (t:=true) rfl ?_;simp only[if_true];refine fg C T ?_;exact⟨.inl rfl,rfl,_,resultsC_none rq _,by simp[V],by simpa using b⟩
  have e:(r==65279)=false:=by simp[g]
  simp only[e,Bool.and_false,Bool.true_and,Bool.false_eq_true,if_false];try simp only at b
  refine aW C T (t:=false) rfl ?_;simp only[if_false,Bool.false_eq_true];co_apply aO C T (eZ.refl _);co_reg (T _);iterate 6 co_op HC.rely b (co_quiet j)
  co_apply opsC_nil (T _);co_then;by_cases n:r=10
  ·have i:(r==10)=true:=by simp[n]
   simp only[i,if_true];try simp only[i] at b
   refine aW C T (t:=true) rfl ?_;simp only[if_true];refine fg C T ?_;exact⟨.inl rfl,rfl,_,resultsC_none rq _,by simp[V],by simpa using b⟩
  have i:(r==10)=false:=by simp[n]
  simp only[i,Bool.false_eq_true,if_false];try simp only[i] at b
  refine aW C T (t:=false) rfl ?_;simp only[if_false,Bool.false_eq_true];co_apply aO C T (eZ.refl _)
 rotate_left;all_goals
  co_reg (T _)
  iterate 3 co_op HC.rely b (co_quiet j)
  co_apply opsC_nil (T _)
  co_then
  by_cases q:r=13
  ·have l:(r==13)=true:=by simp[q]
   simp only[l,ip q];try simp only[l] at b
   refine aW C T (t:=true) rfl ?_;simp only[if_true];refine bS C T ?_;simp only[ga,Nat.reduceAdd];refine aL C rfl rq fun _ k p f=>?_;replace b:=HC.rely b k;go_simp;try (unfold stored;go_simp)
   refine f _ _ ⟨?_,?_⟩
   ·co_quiet j
   iterate 2
    try walk_nrm
    refine aL C rfl rq fun _ k p f=>?_
    replace b:=HC.rely b k
    go_simp
    try (unfold stored;go_simp)
    refine f _ _ ⟨?_,?_⟩
    ·co_still j
   try walk_nrm
   refine aL C rfl rq fun _ k p f=>?_;replace b:=HC.rely b k;have s:=b.ji;go_simp;try (unfold stored;go_simp)
   refine f _ _ ⟨?_,?_⟩
   ·refine dT b ?_;co_evs (exact cM (.inr (.inl rfl)))
   try walk_nrm
   refine bW C T rfl rq rfl rfl (by simp[Act.eval]) (by simp[V]) (Bi b fr 10 vs) ?_;rintro _ _ _ ⟨rfl,b⟩;refine cJ C T ?_;exact⟨.inl rfl,rfl,_,resultsC_none rq _,by simp,by simpa using b⟩
  ·have l:(r==13)=false:=by simp[q]
   simp only[l,iw q];try simp only[l] at b
   refine aW C T (t:=false) rfl ?_;simp only[if_false,Bool.false_eq_true];co_apply aO C T (eZ.refl _);co_reg (T _);iterate 3 co_op HC.rely b (co_quiet j)
   co_apply opsC_nil (T _);co_then;by_cases v:r=0
   ·have o:(r==0)=true:=by simp[v]
    simp only[o,ip v];try simp only[o] at b
    refine aW C T (t:=true) rfl ?_;simp only[if_true];refine bS C T ?_;simp only[ga,Nat.reduceAdd];refine aL C rfl rq fun _ k p f=>?_;replace b:=HC.rely b k;go_simp;try (unfold stored;go_simp)
    refine f _ _ ⟨?_,?_⟩
    ·co_quiet j
    iterate 2
     try walk_nrm
     refine aL C rfl rq fun _ k p f=>?_
     replace b:=HC.rely b k
     go_simp
     try (unfold stored;go_simp)
     refine f _ _ ⟨?_,?_⟩
     ·co_still j
    try walk_nrm
    refine aL C rfl rq fun _ k p f=>?_;replace b:=HC.rely b k;have s:=b.ji;go_simp;try (unfold stored;go_simp)
    refine f _ _ ⟨?_,?_⟩
    ·refine dT b ?_;co_evs (exact cM (.inr (.inl rfl)))
    try walk_nrm
    refine bW C T rfl rq rfl rfl (by simp[Act.eval]) (by simp[V]) (Bi b fr 65533 vs) ?_;rintro _ _ _ ⟨rfl,b⟩;refine cJ C T ?_;exact⟨.inl rfl,rfl,_,resultsC_none rq _,by simp,by simpa using b⟩
   ·have o:(r==0)=false:=by simp[v]
    simp only[o,iw v];try simp only[o] at b
    refine aW C T (t:=false) rfl ?_;simp only[if_false,Bool.false_eq_true];refine bS C T ?_;simp only[ga,Nat.reduceAdd];refine aL C rfl rq fun _ k p f=>?_;replace b:=HC.rely b k;go_simp;try (unfold stored;go_simp)
    refine f _ _ ⟨?_,?_⟩
    ·co_quiet j
    iterate 2
     try walk_nrm
     refine aL C rfl rq fun _ k p f=>?_
     replace b:=HC.rely b k
     go_simp
     try (unfold stored;go_simp)
     refine f _ _ ⟨?_,?_⟩
     ·co_still j
    try walk_nrm
    refine aL C rfl rq fun _ k p f=>?_;replace b:=HC.rely b k;have s:=b.ji;go_simp;try (unfold stored;go_simp)
    refine f _ _ ⟨?_,?_⟩
    ·refine dT b ?_;co_evs (exact cM (.inr (.inl rfl)))
    try walk_nrm
    refine aL C rfl rq fun _ k p f=>?_;replace b:=HC.rely b k;go_simp;try (unfold stored;go_simp)
    refine f _ _ ⟨?_,?_⟩
    ·co_quiet j
    try walk_nrm
    refine bW C T rfl rq rfl rfl (by simp[Act.eval]) (by simp[V]) (Bi b fr r vs) ?_;rintro _ _ _ ⟨rfl,b⟩;refine cJ C T ?_;exact⟨.inl rfl,rfl,_,resultsC_none rq _,by simp,by simpa using b⟩
end
def jY (b:Int):Int × Int:=if b=224 then (160,191) else if b=237 then (128,159) else if b=240 then (144,191) else if b=244 then (128,143) else (128,191)
section
variable {N Pb cp c1 c2:Nat}{Shun:Loc→Prop}{val:Value}{B:Nat}{Mine:Loc→Prop}{c:CS}{d:DS}{w aE:World}
variable [Go.ConcR.Payload][Go.ConcX.Payload]
def F5(U:HC N Pb cp c1 c2 c d w)(i:Ix)(b:Int) :
  gJ prog (XK (aB prog N Pb Shun val B Mine)) 362 #[.int .u8 b] i w (fun n v o=>n=i∧v=.tuple #[.int .u8 (jY b).1,.int .u8 (jY b).2]∧HC N Pb cp c1 c2 c d o):=by
 have C:=cK N Pb Shun val B Mine;have T:=tK N Pb Shun val B Mine;have a:=T (true,[]);refine fh func362 rq rfl ?_;simp only[ntmps362,bZ,Nat.reduceAdd,Nat.reduceSub];co_apply aO C T (eZ.refl _);co_reg (T _);iterate 2 co_op HC.rely U (co_quiet a)
 co_apply opsC_nil (T _);co_then;refine fR C T ?_;co_apply aO C T (eZ.refl _);co_reg (T _);co_op HC.rely U (co_quiet a);co_apply opsC_nil (T _);co_then;refine iu C T ?_;co_apply aO C T (eZ.refl _);co_reg (T _);iterate 2 co_op HC.rely U (co_quiet a)
 co_apply opsC_nil (T _);co_then;by_cases j:b=224
 ·have e:(b==224)=true:=by simp[j]
  simp only[e];refine aW C T (t:=true) rfl ?_;simp only[if_true];co_apply aO C T (eZ.refl _);co_reg (T _);iterate 2 co_op HC.rely U (co_quiet a)
  co_apply opsC_nil (T _);co_then;refine na C T ?_;exact⟨.inr rfl,rfl,_,resultsC_tmp2 rq _,rfl,by simp[jY, *],U⟩
 ·have e:(b==224)=false:=by simp[j]
  simp only[e];refine aW C T (t:=false) rfl ?_;simp only[if_false,Bool.false_eq_true];co_apply aO C T (eZ.refl _);co_reg (T _);iterate 2 co_op HC.rely U (co_quiet a)
  co_apply opsC_nil (T _);co_then;by_cases k:b=237
  ·have f:(b==237)=true:=by simp[k]
   simp only[f];refine aW C T (t:=true) rfl ?_;simp only[if_true];co_apply aO C T (eZ.refl _);co_reg (T _);iterate 2 co_op HC.rely U (co_quiet a)
   co_apply opsC_nil (T _);co_then;refine na C T ?_;exact⟨.inr rfl,rfl,_,resultsC_tmp2 rq _,rfl,by simp[jY, *],U⟩
  ·have f:(b==237)=false:=by simp[k]
   simp only[f];refine aW C T (t:=false) rfl ?_;simp only[if_false,Bool.false_eq_true];co_apply aO C T (eZ.refl _);co_reg (T _);iterate 2 co_op HC.rely U (co_quiet a)
   co_apply opsC_nil (T _);co_then;by_cases l:b=240
   ·have g:(b==240)=true:=by simp[l]
    simp only[g];refine aW C T (t:=true) rfl ?_;simp only[if_true];co_apply aO C T (eZ.refl _);co_reg (T _);iterate 2 co_op HC.rely U (co_quiet a)
    co_apply opsC_nil (T _);co_then;refine na C T ?_;exact⟨.inr rfl,rfl,_,resultsC_tmp2 rq _,rfl,by simp[jY, *],U⟩
   ·have g:(b==240)=false:=by simp[l]
    simp only[g];refine aW C T (t:=false) rfl ?_;simp only[if_false,Bool.false_eq_true];co_apply aO C T (eZ.refl _);co_reg (T _);iterate 2 co_op HC.rely U (co_quiet a)
    co_apply opsC_nil (T _);co_then;by_cases m:b=244
    ·have h:(b==244)=true:=by simp[m]
     simp only[h];refine aW C T (t:=true) rfl ?_;simp only[if_true];co_apply aO C T (eZ.refl _);co_reg (T _);iterate 2 co_op HC.rely U (co_quiet a)
     co_apply opsC_nil (T _);co_then;refine na C T ?_;exact⟨.inr rfl,rfl,_,resultsC_tmp2 rq _,rfl,by simp[jY, *],U⟩
    ·have h:(b==244)=false:=by simp[m]
     simp only[h];refine aW C T (t:=false) rfl ?_;simp only[if_false,Bool.false_eq_true];refine fg C T ?_;co_apply aO C T (eZ.refl _);co_reg (T _);iterate 2 co_op HC.rely U (co_quiet a)
     co_apply opsC_nil (T _);co_then;refine na C T ?_;exact⟨.inr rfl,rfl,_,resultsC_tmp2 rq _,rfl,by simp[jY, *],U⟩
def eX(b k:Int):Int:=IntKind.i32.wrap (bits .and .u8 b k)
def AL(a:HC N Pb cp c1 c2 c d w)(i:Ix)(b m k:Int) :
  gJ prog (XK (aB prog N Pb Shun val B Mine)) 313 #[.pointer (sq c2),.int .u8 b,.int .i64 m,.int .u8 k] i w (fun l _ n=>l=i∧HC N Pb cp c1 c2 c ⟨eX b k,m,(jY b).1,(jY b).2⟩ n):=by
 have C:=cK N Pb Shun val B Mine;have T:=tK N Pb Shun val B Mine;have g:=T (true,[]);refine fh func313 rq rfl ?_;simp only[ntmps313,bZ,Nat.reduceAdd,Nat.reduceSub];co_apply aO C T (eZ.refl _);co_reg (T _);iterate 5 co_op HC.rely a (co_quiet g)
 iterate 2 co_opw HC.rely a (skip) (co_still g)
 co_opw HC.rely a (have j:=a.cO) (exact fB a (.inr rfl) (by co_evs (exact cM (.inr (.inr rfl)))));replace a:=a.vq (eX b k);co_apply opsC_nil (T _);co_then;co_apply aO C T (eZ.refl _);co_reg (T _);iterate 2 co_op HC.rely a (co_quiet g)
 iterate 2 co_opw HC.rely a (skip) (co_still g)
 co_opw HC.rely a (have j:=a.cO) (exact fB a (.inr rfl) (by co_evs (exact cM (.inr (.inr rfl)))));replace a:=a.oc m;co_apply opsC_nil (T _);co_then;refine bS C T ?_;simp only[ga,Nat.reduceAdd];iterate 3
  refine aL C rfl rq fun _ f h e=>?_
  replace a:=HC.rely a f
  go_simp
  try (unfold stored;go_simp)
  refine e _ _ ⟨?_,?_⟩
  ·co_quiet g
  try walk_nrm
 refine bW C T rfl rq rfl rfl (by simp[Act.eval]) rfl (F5 a i b) ?_;rintro _ _ _ ⟨rfl,rfl,a⟩;iterate 3
  try walk_nrm
  refine aL C rfl rq fun _ f h e=>?_
  replace a:=HC.rely a f
  go_simp
  try (unfold stored;go_simp)
  refine e _ _ ⟨?_,?_⟩
  ·co_quiet g
 iterate 2
  try walk_nrm
  refine aL C rfl rq fun _ f h e=>?_
  replace a:=HC.rely a f
  go_simp
  try (unfold stored;go_simp)
  refine e _ _ ⟨?_,?_⟩
  ·co_still g
 try walk_nrm
 refine aL C rfl rq fun _ f h e=>?_;replace a:=HC.rely a f;have j:=a.cO;go_simp;try (unfold stored;go_simp)
 refine e _ _ ⟨?_,?_⟩
 ·exact fB a (.inr rfl) (by co_evs (exact cM (.inr (.inr rfl))))
 try walk_nrm
 replace a:=a.H2 (jY b).1;iterate 2
  refine aL C rfl rq fun _ f h e=>?_
  replace a:=HC.rely a f
  go_simp
  try (unfold stored;go_simp)
  refine e _ _ ⟨?_,?_⟩
  ·co_still g
  try walk_nrm
 refine aL C rfl rq fun _ f h e=>?_;replace a:=HC.rely a f;have j:=a.cO;go_simp;try (unfold stored;go_simp)
 refine e _ _ ⟨?_,?_⟩
 ·exact fB a (.inr rfl) (by co_evs (exact cM (.inr (.inr rfl))))
 try walk_nrm
 replace a:=a.CO (jY b).2;refine cJ C T ?_;exact⟨.inl rfl,rfl,_,resultsC_none rq _,rfl,a⟩
def gu (d:DS):DS × Iq:=if 0<d.missing then ({ d with missing:=0 },[65533]) else (d,[])
def aJ(c:CS):Iq→CS × Iq
 | []=>(c,[])
 | r::l=>((aJ (eD c r).1 l).1,(eD c r).2++(aJ (eD c r).1 l).2)
def cC(c:CS)(r:Int):aJ c [r]=eD c r:=by simp[aJ]
def Gv(U:HC N Pb cp c1 c2 c d w)(fr:Bool)(vs:Vq) :
  gJ prog (XK (aB prog N Pb Shun val B Mine)) 118 #[.pointer (sq c2)] (fr,V (aJ c (gu d).2).2++vs) w (fun j _ k=>j=(fr&&(aJ c (gu d).2).2.isEmpty,vs)∧HC N Pb cp c1 c2 (aJ c (gu d).2).1 (gu d).1 k):=by
 have C:=cK N Pb Shun val B Mine;have T:=tK N Pb Shun val B Mine;have a:=T (true,[]);refine fh func118 rq rfl ?_;simp only[ntmps118,bZ,Nat.reduceAdd,Nat.reduceSub];co_apply aO C T (eZ.refl _);co_reg (T _);co_op HC.rely U (co_quiet a);iterate 2 co_opw HC.rely U (skip) (co_still a)
 co_opw HC.rely U (have i:=U.cO) (refine dT U ?_;co_evs (exact cM (.inr (.inr rfl))));co_op HC.rely U (co_quiet a);co_apply opsC_nil (T _);co_then;by_cases b:0<d.missing
 ·have g:decide (0<d.missing)=true:=tD b;try simp only[g]
  refine aW C T (t:=true) rfl ?_;simp only[if_true];co_apply aO C T (eZ.refl _);co_reg (T _);co_op HC.rely U (co_quiet a);iterate 2 co_opw HC.rely U (skip) (co_still a)
  co_opw HC.rely U (have i:=U.cO) (exact fB U (.inr rfl) (by co_evs (exact cM (.inr (.inr rfl)))));replace U:=U.oc 0;co_apply opsC_nil (T _);co_then;refine bS C T ?_;simp only[ga,Nat.reduceAdd];refine aL C rfl rq fun _ f h e=>?_;replace U:=HC.rely U f;go_simp;try (unfold stored;go_simp)
  refine e _ _ ⟨?_,?_⟩
  ·co_quiet a
  iterate 2
   try walk_nrm
   refine aL C rfl rq fun _ f h e=>?_
   replace U:=HC.rely U f
   go_simp
   try (unfold stored;go_simp)
   refine e _ _ ⟨?_,?_⟩
   ·co_still a
  try walk_nrm
  refine aL C rfl rq fun _ f h e=>?_;replace U:=HC.rely U f;have i:=U.cO;go_simp;try (unfold stored;go_simp)
  refine e _ _ ⟨?_,?_⟩
  ·refine dT U ?_;co_evs (exact cM (.inr (.inr rfl)))
  try walk_nrm
  refine bW C T rfl rq rfl rfl (by simp[Act.eval]) (by simp only[gu,ip b,cC]) (y7 U fr 65533 vs) ?_;rintro _ _ _ ⟨rfl,U⟩;refine cJ C T ?_;exact⟨.inl rfl,rfl,_,resultsC_none rq _,by simp[gu,b,cC],by simpa[gu,b,cC] using U⟩
 ·have g:decide (0<d.missing)=false:=fD b;try simp only[g]
  refine aW C T (t:=false) rfl ?_;simp only[if_false,Bool.false_eq_true];refine fg C T ?_;exact⟨.inl rfl,rfl,_,resultsC_none rq _,by simp[gu,b,aJ,V],by simpa[gu,b,aJ] using U⟩
def dd(d:DS)(b:Int):DS × Iq :=
 if b<128 then (d,[IntKind.i32.wrap b]) else if b<194 then (d,[65533]) else if b>244 then (d,[65533]) else if b<224 then (⟨eX b 31,1,(jY b).1,(jY b).2⟩,[]) else if b<240 then (⟨eX b 15,2,(jY b).1,(jY b).2⟩,[]) else (⟨eX b 7,3,(jY b).1,(jY b).2⟩,[])
def vQ(a:HC N Pb cp c1 c2 c d w)(fr:Bool)(b:Int)(vs:Vq) :
  gJ prog (XK (aB prog N Pb Shun val B Mine)) 215 #[.pointer (sq c2),.int .u8 b] (fr,V (aJ c (dd d b).2).2++vs) w (fun p _ q=>p=(fr&&(aJ c (dd d b).2).2.isEmpty,vs)∧HC N Pb cp c1 c2 (aJ c (dd d b).2).1 (dd d b).1 q):=by
 have C:=cK N Pb Shun val B Mine;have T:=tK N Pb Shun val B Mine;have g:=T (true,[]);refine fh func215 rq rfl ?_;simp only[ntmps215,bZ,Nat.reduceAdd,Nat.reduceSub];refine iu C T ?_;co_apply aO C T (eZ.refl _);co_reg (T _);iterate 3 co_op HC.rely a (co_quiet g)
 co_apply opsC_nil (T _);co_then;by_cases h1:b<128
 ·have MH:decide (b<128)=true:=tD h1;try simp only[MH]
  refine aW C T (t:=true) rfl ?_;simp only[if_true];have f:dd d b=(d,[IntKind.i32.wrap b]):=by simp[dd,h1]
  refine bS C T ?_;simp only[ga,Nat.reduceAdd];refine aL C rfl rq fun _ e h U=>?_;replace a:=HC.rely a e;go_simp;try (unfold stored;go_simp)
  refine U _ _ ⟨?_,?_⟩
  ·co_quiet g
  iterate 2
   try walk_nrm
   refine aL C rfl rq fun _ e h U=>?_
   replace a:=HC.rely a e
   go_simp
   try (unfold stored;go_simp)
   refine U _ _ ⟨?_,?_⟩
   ·co_still g
  try walk_nrm
  refine aL C rfl rq fun _ e h U=>?_;replace a:=HC.rely a e;have o:=a.cO;go_simp;try (unfold stored;go_simp)
  refine U _ _ ⟨?_,?_⟩
  ·refine dT a ?_;co_evs (exact cM (.inr (.inr rfl)))
  try walk_nrm
  iterate 2
   refine aL C rfl rq fun _ e h U=>?_
   replace a:=HC.rely a e
   go_simp
   try (unfold stored;go_simp)
   refine U _ _ ⟨?_,?_⟩
   ·co_quiet g
   try walk_nrm
  refine bW C T rfl rq rfl rfl (by simp[Act.eval]) (by rw[f];simp only[cC]) (y7 a fr (IntKind.i32.wrap b) vs) ?_;rintro _ _ _ ⟨rfl,a⟩;refine cJ C T ?_;exact⟨.inl rfl,rfl,_,resultsC_none rq _,by simp[f,cC],by rw[f,cC];exact a⟩
 ·have MH:decide (b<128)=false:=fD h1;try simp only[MH]
  refine aW C T (t:=false) rfl ?_;simp only[if_false,Bool.false_eq_true];by_cases h2:b<194
  ·have k:decide (b<194)=true:=tD h2;co_apply aO C T (eZ.refl _);co_reg (T _);iterate 3 co_op HC.rely a (co_quiet g)
   try simp only[k]
   iterate 2 co_apply opsC_unwanted (T _) rfl rq
   iterate 2 co_op HC.rely a (co_quiet g)
   co_apply opsC_nil (T _);co_then;refine aW C T (t:=true) rfl ?_;simp only[if_true];have f:dd d b=(d,[65533]):=by simp[dd,h1,h2]
   refine bS C T ?_;simp only[ga,Nat.reduceAdd];refine aL C rfl rq fun _ e h U=>?_;replace a:=HC.rely a e;go_simp;try (unfold stored;go_simp)
   refine U _ _ ⟨?_,?_⟩
   ·co_quiet g
   iterate 2
    try walk_nrm
    refine aL C rfl rq fun _ e h U=>?_
    replace a:=HC.rely a e
    go_simp
    try (unfold stored;go_simp)
    refine U _ _ ⟨?_,?_⟩
    ·co_still g
   try walk_nrm
   refine aL C rfl rq fun _ e h U=>?_;replace a:=HC.rely a e;have o:=a.cO;go_simp;try (unfold stored;go_simp)
   refine U _ _ ⟨?_,?_⟩
   ·refine dT a ?_;co_evs (exact cM (.inr (.inr rfl)))
   try walk_nrm
   refine bW C T rfl rq rfl rfl (by simp[Act.eval]) (by rw[f];simp only[cC]) (y7 a fr 65533 vs) ?_;rintro _ _ _ ⟨rfl,a⟩;refine cJ C T ?_;exact⟨.inl rfl,rfl,_,resultsC_none rq _,by simp[f,cC],by rw[f,cC];exact a⟩
  ·have k:decide (b<194)=false:=fD h2;co_apply aO C T (eZ.refl _);co_reg (T _);iterate 3 co_op HC.rely a (co_quiet g)
   try simp only[k]
   iterate 4 co_op HC.rely a (co_quiet g)
   co_apply opsC_nil (T _);co_then;by_cases h3:b>244
   ·have l:decide (b>244)=true:=tD h3;try simp only[l]
    refine aW C T (t:=true) rfl ?_;simp only[if_true];have f:dd d b=(d,[65533]):=by simp[dd,h1,h2,h3]
    refine bS C T ?_;simp only[ga,Nat.reduceAdd];refine aL C rfl rq fun _ e h U=>?_;replace a:=HC.rely a e;go_simp;try (unfold stored;go_simp)
    refine U _ _ ⟨?_,?_⟩
    ·co_quiet g
    iterate 2
     try walk_nrm
     refine aL C rfl rq fun _ e h U=>?_
     replace a:=HC.rely a e
     go_simp
     try (unfold stored;go_simp)
     refine U _ _ ⟨?_,?_⟩
     ·co_still g
    try walk_nrm
    refine aL C rfl rq fun _ e h U=>?_;replace a:=HC.rely a e;have o:=a.cO;go_simp;try (unfold stored;go_simp)
    refine U _ _ ⟨?_,?_⟩
    ·refine dT a ?_;co_evs (exact cM (.inr (.inr rfl)))
    try walk_nrm
    refine bW C T rfl rq rfl rfl (by simp[Act.eval]) (by rw[f];simp only[cC]) (y7 a fr 65533 vs) ?_;rintro _ _ _ ⟨rfl,a⟩;refine cJ C T ?_;exact⟨.inl rfl,rfl,_,resultsC_none rq _,by simp[f,cC],by rw[f,cC];exact a⟩
   ·have l:decide (b>244)=false:=fD h3;try simp only[l]
    refine aW C T (t:=false) rfl ?_;simp only[if_false,Bool.false_eq_true];co_apply aO C T (eZ.refl _);co_reg (T _);iterate 3 co_op HC.rely a (co_quiet g)
    co_apply opsC_nil (T _);co_then;by_cases i:b<224
    ·have m:decide (b<224)=true:=tD i;try simp only[m]
     refine aW C T (t:=true) rfl ?_;simp only[if_true];have f:dd d b=(⟨eX b 31,1,(jY b).1,(jY b).2⟩,[]):=by simp[dd,h1,h2,h3,i]
     refine bS C T ?_;simp only[ga,Nat.reduceAdd];iterate 2
      refine aL C rfl rq fun _ e h U=>?_
      replace a:=HC.rely a e
      go_simp
      try (unfold stored;go_simp)
      refine U _ _ ⟨?_,?_⟩
      ·co_quiet g
      try walk_nrm
     refine bW C T rfl rq rfl rfl (by simp[Act.eval]) (by rw[f];simp[aJ,V]) (AL a (fr,vs) b 1 31) ?_;rintro _ _ _ ⟨rfl,a⟩;refine cJ C T ?_;exact⟨.inl rfl,rfl,_,resultsC_none rq _,by simp[f,aJ],by rw[f];exact a⟩
    ·have m:decide (b<224)=false:=fD i;try simp only[m]
     refine aW C T (t:=false) rfl ?_;simp only[if_false,Bool.false_eq_true];co_apply aO C T (eZ.refl _);co_reg (T _);iterate 3 co_op HC.rely a (co_quiet g)
     co_apply opsC_nil (T _);co_then;by_cases j:b<240
     ·have n:decide (b<240)=true:=tD j;try simp only[n]
      refine aW C T (t:=true) rfl ?_;simp only[if_true];have f:dd d b=(⟨eX b 15,2,(jY b).1,(jY b).2⟩,[]):=by simp[dd,h1,h2,h3,i,j]
      refine bS C T ?_;simp only[ga,Nat.reduceAdd];iterate 2
       refine aL C rfl rq fun _ e h U=>?_
       replace a:=HC.rely a e
       go_simp
       try (unfold stored;go_simp)
       refine U _ _ ⟨?_,?_⟩
       ·co_quiet g
       try walk_nrm
      refine bW C T rfl rq rfl rfl (by simp[Act.eval]) (by rw[f];simp[aJ,V]) (AL a (fr,vs) b 2 15) ?_;rintro _ _ _ ⟨rfl,a⟩;refine cJ C T ?_;exact⟨.inl rfl,rfl,_,resultsC_none rq _,by simp[f,aJ],by rw[f];exact a⟩
     ·have n:decide (b<240)=false:=fD j;try simp only[n]
      refine aW C T (t:=false) rfl ?_;simp only[if_false,Bool.false_eq_true];have f:dd d b=(⟨eX b 7,3,(jY b).1,(jY b).2⟩,[]):=by simp[dd,h1,h2,h3,i,j]
      refine bS C T ?_;simp only[ga,Nat.reduceAdd];iterate 2
       refine aL C rfl rq fun _ e h U=>?_
       replace a:=HC.rely a e
       go_simp
       try (unfold stored;go_simp)
       refine U _ _ ⟨?_,?_⟩
       ·co_quiet g
       try walk_nrm
      refine bW C T rfl rq rfl rfl (by simp[Act.eval]) (by rw[f];simp[aJ,V]) (AL a (fr,vs) b 3 7) ?_;rintro _ _ _ ⟨rfl,a⟩;refine cJ C T ?_;exact⟨.inl rfl,rfl,_,resultsC_none rq _,by simp[f,aJ],by rw[f];exact a⟩
end
def dw(l b:Int):Int:=bits .or .i32 (IntKind.i32.wrap (l*64)) (IntKind.i32.wrap (bits .and .u8 b 63))
def cZ(d:DS)(b:Int):DS × Iq :=
 (⟨dw d.letter b,IntKind.i64.wrap (d.missing-1),128,191⟩,if IntKind.i64.wrap (d.missing-1)=0 then [dw d.letter b] else [])
section
variable {N Pb cp c1 c2:Nat}{Shun:Loc→Prop}{val:Value}{B:Nat}{Mine:Loc→Prop}{c:CS}{d:DS}{w aE:World}
variable [Go.ConcR.Payload][Go.ConcX.Payload]
def Gz(a:HC N Pb cp c1 c2 c d w)(fr:Bool)(b:Int)(vs:Vq) :
  gJ prog (XK (aB prog N Pb Shun val B Mine)) 214 #[.pointer (sq c2),.int .u8 b] (fr,V (aJ c (cZ d b).2).2++vs) w (fun E _ q=>E=(fr&&(aJ c (cZ d b).2).2.isEmpty,vs)∧HC N Pb cp c1 c2 (aJ c (cZ d b).2).1 (cZ d b).1 q):=by
 have C:=cK N Pb Shun val B Mine;have T:=tK N Pb Shun val B Mine;have f:=T (true,[]);have y:∀w:World,eZ (aB prog N Pb Shun val B Mine) (true,[]) w { w with drawn:=w.drawn+1 }:=ta;refine fh func214 rq rfl ?_;simp only[ntmps214,bZ,Nat.reduceAdd,Nat.reduceSub];co_apply aO C T (eZ.refl _);co_reg (T _);iterate 2 co_op HC.rely a (co_quiet f)
 iterate 2 co_opw HC.rely a (skip) (co_still f)
 co_opw HC.rely a (have k:=a.cO) (refine dT a ?_;co_evs (exact cM (.inr (.inr rfl))));iterate 5 co_op HC.rely a (co_quiet f)
 iterate 2 co_opw HC.rely a (skip) (co_still f)
 co_opw HC.rely a (have k:=a.cO) (exact fB a (.inr rfl) (by co_evs (exact cM (.inr (.inr rfl)))));replace a:=a.vq (dw d.letter b);co_apply opsC_nil (T _);co_then;co_apply aO C T (eZ.refl _);co_reg (T _);co_op HC.rely a (co_quiet f);iterate 2 co_opw HC.rely a (skip) (co_still f)
 co_opw HC.rely a (have k:=a.cO) (refine dT a ?_;co_evs (exact cM (.inr (.inr rfl))));co_op HC.rely a (co_quiet f);iterate 2 co_opw HC.rely a (skip) (co_still f)
 co_opw HC.rely a (have k:=a.cO) (exact fB a (.inr rfl) (by co_evs (exact cM (.inr (.inr rfl)))));replace a:=a.oc (IntKind.i64.wrap (d.missing-1));co_apply opsC_nil (T _);co_then;co_apply aO C T (eZ.refl _);co_reg (T _);iterate 2 co_op HC.rely a (co_quiet f)
 iterate 2 co_opw HC.rely a (skip) (co_still f)
 co_opw HC.rely a (have k:=a.cO) (exact fB a (.inr rfl) (by co_evs (exact cM (.inr (.inr rfl)))));replace a:=a.H2 128;iterate 2 co_opw HC.rely a (skip) (co_still f)
 co_opw HC.rely a (have k:=a.cO) (exact fB a (.inr rfl) (by co_evs (exact cM (.inr (.inr rfl)))));replace a:=a.CO 191;co_apply opsC_nil (T _);co_then;co_apply aO C T (eZ.refl _);co_reg (T _);co_op HC.rely a (co_quiet f);iterate 2 co_opw HC.rely a (skip) (co_still f)
 co_opw HC.rely a (have k:=a.cO) (refine dT a ?_;co_evs (exact cM (.inr (.inr rfl))));co_op HC.rely a (co_quiet f);co_apply opsC_nil (T _);co_then;by_cases j:IntKind.i64.wrap (d.missing-1)=0
 ·have m:(IntKind.i64.wrap (d.missing-1)==0)=true:=by simp[j]
  try simp only[m]
  refine aW C T (t:=true) rfl ?_;simp only[if_true];refine rE C T (n:=8) (S:=HC N Pb cp c1 c2 c ⟨dw d.letter b,IntKind.i64.wrap (d.missing-1),128,191⟩) (K:=fun p q=>(p.eval (.tmp 37)=lf c1∧p.eval (.tmp 41)=.int .i32 (dw d.letter b)∧p.defers=[])∧HC N Pb cp c1 c2 c ⟨dw d.letter b,IntKind.i64.wrap (d.missing-1),128,191⟩ q) Lw (by first|kernel_rfl|rfl) rfl (fun l=>(!l.getD 1 false||l.getD 0 false)&&(!l.getD 2 false||l.getD 1 false)&&(!l.getD 3 false||l.getD 2 false)&&(!l.getD 5 false||l.getD 4 false)&&(!l.getD 6 false||l.getD 5 false)&&(!l.getD 7 false||l.getD 6 false)) rfl ?XB ?S8 (fun A D=>?any) ?last;case S8 =>
   intro e o i;have⟨l⟩:=e;match l,o,i with
   | [b0,b1,b2,b3,b4,b5,b6,b7,b8],o,i =>clear o;simp only[List.getElem?_toArray,List.getElem?_cons_succ,List.getElem?_cons_zero,Option.some.injEq] at i;subst i;revert b0 b1 b2 b3 b4 b5 b6 b7;decide +kernel
  case XB =>
   intro e o i;have⟨l⟩:=e;match l,o,i with
   | [b0,b1,b2,b3,b4,b5,b6,b7,b8],o,i =>clear o;simp only[List.getElem?_toArray,List.getElem?_cons_succ,List.getElem?_cons_zero,Option.some.injEq] at i;subst i;revert b0 b1 b2 b3 b4 b5 b6 b7;decide +kernel
  case any =>
   replace a:=HC.rely (HC.rely a D) (y _)
   co_applyP VN [0, 1, 2, 3, 4, 5, 6, 7]
   iterate 8
    co_applyP VO (T _) (fun _ _ h r=>HC.rely h r) (fun _ _ _ h r=>⟨h.1,h.2.1,HC.rely h.2.2 r⟩) rfl (.inl ⟨rq,fun _ z=>⟨run_eq_of ?_,?_⟩⟩) a ?_;rotate_left
    ·intro F s;have k:=z.cO;go_simp;exact s
    ·have k:=z.cO;first|(rw[listed_nil];exact Terms.idle f _;first|(simp[go_sem];done)|(simp[go_sem, *];done))|(refine dT z ?_;co_evs (exact cM (.inr (.inr rfl))))
    try walk_nrm
   co_applyP VP
   exact anyCH_done (by decide +kernel) ⟨rfl,⟨rfl,rfl,rfl⟩,a⟩ _
  case last =>
   rintro p q ⟨⟨u,v,x⟩,a⟩;have g:cZ d b=(⟨dw d.letter b,IntKind.i64.wrap (d.missing-1),128,191⟩,[dw d.letter b]):=by simp only[cZ,ip j]
   refine bW C T rfl rq rfl u (by simp only[List.map_toArray,List.map_cons,List.map_nil,v];rfl) (by rw[g];simp only[cC]) (y7 a fr (dw d.letter b) vs) ?_;rintro _ _ _ ⟨rfl,a⟩;refine cJ C T ?_;exact⟨.inl rfl,x,_,resultsC_none rq _,by simp[g,cC],by rw[g,cC];exact a⟩
 ·have m:(IntKind.i64.wrap (d.missing-1)==0)=false:=by simp[j]
  try simp only[m]
  refine aW C T (t:=false) rfl ?_;simp only[if_false,Bool.false_eq_true];refine fg C T ?_;have g:cZ d b=(⟨dw d.letter b,IntKind.i64.wrap (d.missing-1),128,191⟩,[]):=by simp only[cZ,iw j]
  exact⟨.inl rfl,rfl,_,resultsC_none rq _,by simp[g,aJ,V],by rw[g];exact a⟩
end
end Go.Proofs.YtgcaionclkbehaaGreatDoor
