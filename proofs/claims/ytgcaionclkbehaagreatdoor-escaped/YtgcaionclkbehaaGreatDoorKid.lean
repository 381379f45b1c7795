import Derived.Test.YtgcaionclkbehaaGreatDoorLone
import Derived.Conc.TokenWalk
import Derived.Maps.AppendAt
import Derived.OwnWalk
import Derived.Conc.AppendWalk
import Derived.Test.YtgcaionclkbehaaGreatDoorChecked
set_option linter.all false
set_option maxHeartbeats 2000000
set_option maxRecDepth 100000
namespace Go.Proofs.YtgcaionclkbehaaGreatDoor
open Go.Conc Go.RowKit Tryz
variable {x:Operand}{b b' i id k o:Nat}{args' cap cs first xs:Aq}{e:Event}{c y:Code}{t ty:TypeId}{ops:Array Oper}{rest:List Nat}{f fn:FuncId}{aJ:Func}{args:Array Operand}{ats:Array TypeId}{v v':Value}{vs:Vq}{fz:Nat × Nat}{K:Cfg}{P:Program}{es:Array Event}
structure aV{ι:Type}(P:Program)(main:Bool)(R:ι→World→World→Prop)(D:ι→World→World→Array Event→Prop)(X:ι→Goroutine→World→Prop):Prop where
 rely:∀{vs g w aB},X vs g w→R vs w aB→X vs g aB
 step:∀{vs g w},g.status=.running→(∀aB,R vs w aB→(stepG P main g aB).goes fun g' w' es=>D vs aB w' es∧X vs g' w')→X vs g w
def pj{ι:Type}(X:ι→Goroutine→World→Prop)(vs:ι)(b:Frame)(k:List Item)(cs:List Frame):Exit→Act→World→Prop
 | .normal,a,w=>X vs (G (b.at a k) cs) w
 | .exit id,a,w=>∃k',exitTo id k=some k'∧X vs (G (b.at a k') cs) w
 | .ret,a,w=>∀todo,X vs (G { b.at a todo with mode:=.returning } cs) w
 | _,_,_=>False
abbrev dK(ι:Type):=ι→Exit→Act→World→Prop
def uO{ι:Type}(T:ι→Act→World→Prop)(Q:dK ι):dK ι
 | vs,.normal,a,w=>T vs a w
 | vs,e,a,w=>Q vs e a w
def je{ι:Type}(id:Nat)(Q:dK ι):dK ι
 | vs,.exit QV,a,w=>if QV=id then Q vs .normal a w else Q vs (.exit QV) a w
 | vs,e,a,w=>Q vs e a w
def fx {ι:Type}(X:ι→Goroutine→World→Prop)(fn:FuncId)(c:Code)(vs:ι)(Q:dK ι)(a:Act)(w:World):Prop :=
 ∀(b:Frame) (k:List Item) (cs:List Frame),b.fn=fn→b.kind≠.early→(∀eY e a' w',Q eY e a' w'→pj X eY b k cs e a' w')→X vs (G (b.at a (.code c::k)) cs) w
def bU {ι:Type}(X:ι→Goroutine→World→Prop)(fn:FuncId)(ops:Array Oper)(todo:List Nat)(vs:ι)(Q:dK ι)(a:Act)(w:World):Prop :=
 ∀(b:Frame) (k:List Item) (cs:List Frame),b.fn=fn→b.kind≠.early→(∀eY e a' w',Q eY e a' w'→pj X eY b k cs e a' w')→X vs (G (b.at a (.inRegion ops todo::k)) cs) w
section
variable {ι:Type}{P:Program}{main:Bool}{R:ι→Wq}{D:ι→World→World→Array Event→Prop}{X:ι→Gq}{fn:FuncId}{Q Q':dK ι}{a:Act}{w:World}{vs:ι}
theorem pj.push{x:Item}{b:Frame}{k:List Item}{cs:List Frame}{e:Exit}(hx:x.plain=true)(U:e≠.normal)(h:pj X vs b k cs e a w):pj X vs b (x::k) cs e a w:=by
 cases e with
 | normal=>exact absurd rfl U
 | exit id=>obtain⟨k',hk,hg⟩:=h; exact⟨k',by cases x<;>simp_all [exitTo,Item.plain],hg⟩
 | ret=>exact h
 | goto l=>exact h
 | panic ch=>exact h
 | outgrown=>exact h
theorem l9(h:fx X fn c vs Q a w)(hq:∀vs e a w,Q vs e a w→Q' vs e a w):fx X fn c vs Q' a w:=fun b k cs U hk hc=>h b k cs U hk fun eY e a' w' q=>hc eY e a' w' (hq eY e a' w' q)
theorem mc(C:aV P main R D X)(T:∀i,Terms (R i) (D i))(h:Q vs .normal a w):fx X fn .skip vs Q a w:=fun b k cs _ _ U=>C.step rfl fun aB aF=>by rw[stepG_skip]; exact⟨(T vs).idle _,C.rely (U _ _ _ _ h) aF⟩
theorem oZ(C:aV P main R D X)(T:∀i,Terms (R i) (D i))(h:Q vs .ret a w):fx X fn .ret vs Q a w:=fun b k cs _ _ U=>C.step rfl fun aB aF=>by rw[stepG_ret']; exact⟨(T vs).idle _,C.rely (U _ _ _ _ h _) aF⟩
theorem oY(C:aV P main R D X)(T:∀i,Terms (R i) (D i))(h:Q vs (.exit id) a w):fx X fn (.exit id) vs Q a w:=fun b k cs _ _ U=>by obtain⟨k',kG,hg⟩:=U _ _ _ _ h;exact C.step rfl fun aB aF=>by rw[stepG_exit kG]; exact⟨(T vs).idle _,C.rely hg aF⟩
theorem Ej(C:aV P main R D X)(T:∀i,Terms (R i) (D i)){l:Nat}(h:Q vs .normal a w):fx X fn (.label l) vs Q a w:=fun b k cs _ _ U=>C.step rfl fun aB aF=>by rw[stepG_label]; exact⟨(T vs).idle _,C.rely (U _ _ _ _ h) aF⟩
theorem bS(C:aV P main R D X)(T:∀i,Terms (R i) (D i)){x:Code}(h:fx X fn x vs (uO (fun a0 a' w'=>fx X fn y a0 Q a' w') Q) a w):fx X fn (.seq x y) vs Q a w:=by
 intro b k cs hb hk U;have hx:X vs (G (b.at a (.code x::.code y::k)) cs) w:=by
  refine h b (.code y::k) cs hb hk fun a0 e a' w' q=>?_;cases e with
  | normal=>exact q b k cs hb hk U
  | exit id=>exact(U _ _ _ _ q).push rfl (by simp)
  | ret=>exact(U _ _ _ _ q).push (x:=.code y) rfl (by simp)
  | goto l=>exact U _ _ _ _ q
  | panic ch=>exact U _ _ _ _ q
  | outgrown=>exact U _ _ _ _ q
 exact C.step rfl fun aB aF=>by rw[stepG_seq]; exact⟨(T vs).idle _,C.rely hx aF⟩
theorem eG(C:aV P main R D X)(T:∀i,Terms (R i) (D i)){c:Operand}{x:Code}{t:Bool}(hc:a.eval c=.bool t)(h:fx X fn (if t then x else y) vs Q a w):fx X fn (.cond c x y) vs Q a w :=
 fun b k cs U hk hq=>C.step rfl fun aB aF=>by rw[stepG_cond hc]; exact⟨(T vs).idle _,C.rely (h b k cs U hk hq) aF⟩
theorem gv(C:aV P main R D X)(T:∀i,Terms (R i) (D i))(h:fx X fn c vs (je id Q) a w):fx X fn (.block id c) vs Q a w:=by
 intro b k cs hb hk hc;have hx:X vs (G (b.at a (.code c::.inBlock id::k)) cs) w:=by
  refine h b (.inBlock id::k) cs hb hk fun a2 e a' w' q=>?_;cases e with
  | normal=>exact C.step rfl fun aB aF=>by rw[stepG_inBlock]; exact⟨(T a2).idle _,C.rely (hc _ _ _ _ q) aF⟩
  | exit a0 =>
   by_cases U:a0=id
   ·simp only[je,U,if_true] at q;exact⟨k,by simp[exitTo,U],hc _ _ _ _ q⟩
   ·simp only[je,U,if_false] at q;obtain⟨k',a1,hg⟩:=hc _ _ _ _ q;have:(id==a0)=false:=by simp; exact fun h=>U h.symm
    exact⟨k',by simp[exitTo,this,a1],hg⟩
  | ret=>exact hc _ _ _ _ q
  | goto l=>exact hc _ _ _ _ q
  | panic ch=>exact hc _ _ _ _ q
  | outgrown=>exact hc _ _ _ _ q
 exact C.step rfl fun aB aF=>by rw[stepG_block]; exact⟨(T vs).idle _,C.rely hx aF⟩
theorem y3(C:aV P main R D X)(T:∀i,Terms (R i) (D i))(I:Nat→ι→Act→World→Prop)(n:Nat)(MV:I n vs a w)
 (round:∀n vs a w,I n vs a w→fx X fn c vs (uO (fun U a' w'=>∃n',n'<n∧I n' U a' w') Q) a w):fx X fn (.loop c) vs Q a w:=by
 intro b k cs hb hk hc;have key:∀n vs a w,I n vs a w→X vs (G (b.at a (.code c::.inLoop c::k)) cs) w:=by
  intro n;induction n using Nat.strongRecOn with
  | _ n ih =>
   intro vs a w hI;refine round n vs a w hI b (.inLoop c::k) cs hb hk fun U e a' w' q=>?_;cases e with
   | normal =>obtain⟨n',hn,a0⟩:=q;exact C.step rfl fun aB aF=>by rw[stepG_inLoop]; exact⟨(T U).idle _,C.rely (ih n' hn U a' w' a0) aF⟩
   | exit id=>exact(hc _ _ _ _ q).push rfl (by simp)
   | ret=>exact(hc _ _ _ _ q).push (x:=.inLoop c) rfl (by simp)
   | goto l=>exact hc _ _ _ _ q
   | panic ch=>exact hc _ _ _ _ q
   | outgrown=>exact hc _ _ _ _ q
 exact C.step rfl fun aB aF=>by rw[stepG_loop]; exact⟨(T vs).idle _,C.rely (key n vs a w MV) aF⟩
theorem aP(C:aV P main R D X)(T:∀i,Terms (R i) (D i))(h:bU X fn ops (List.range ops.size) vs Q a w):fx X fn (.region id ops false) vs Q a w :=
 fun b k cs U hk hc=>C.step rfl fun aB aF=>by rw[stepG_region]; exact⟨(T vs).idle _,C.rely (h b k cs U hk hc) aF⟩
theorem aS(C:aV P main R D X)(T:∀i,Terms (R i) (D i))(h:Q vs .normal a w):bU X fn ops [] vs Q a w:=fun b k cs _ _ U=>C.step rfl fun aB aF=>by rw[stepG_region_end]; exact⟨(T vs).idle _,C.rely (U _ _ _ _ h) aF⟩
theorem gg(C:aV P main R D X)(T:∀i,Terms (R i) (D i)){o:Oper}(ho:ops[i]?=some o)(hw:Region.wanted o (yielded ops a.tmps)=false)(h:bU X fn ops rest vs Q (a.put o.dst undef) w):bU X fn ops (i::rest) vs Q a w :=
 fun b k cs U hk hc=>C.step rfl fun aB aF=>by rw[stepG_unwanted ho hw]; exact⟨(T vs).idle _,C.rely (h b k cs U hk hc) aF⟩
theorem aD(C:aV P main R D X){o:Oper}(ho:ops[i]?=some o)(hw:Region.wanted o (yielded ops a.tmps)=true)
 (h:∀aB,R vs w aB→∀K:Act→World→Prop,(∀a' w',D vs aB w' (listed P fn a o aB)∧bU X fn ops rest vs Q a' w'→K a' w')→uponK o a K ((execOp a.eval o).run P aB)):bU X fn ops (i::rest) vs Q a w:=by
 intro b k cs U hk hc;refine C.step rfl fun aB aF=>goes_oper ho hw hk ?_
 have:=h aB aF _ fun _ _ x=>x;revert this;cases (execOp a.eval o).run P aB with
 | ok x w'=>cases x<;>first|exact fun ⟨d,g⟩=>⟨U▸d,g b k cs U hk hc⟩|exact id
 | halt _ _=>exact id
theorem DV(C:aV P main R D X)(T:∀i,Terms (R i) (D i)){o:Oper}{first cap:Array Value}
 (ho:ops[i]?=some o)(hw:Region.wanted o (yielded ops a.tmps)=true)(eI:o.op=.call { callee:=.value x,args,argTypes:=ats })(hx:a.eval x=.func (.func f) first cap)
 (hf : P.funcs[f]? = some aJ)(jd : (aJ.name == "runtime.NumGoroutine") = false)(hb : aJ.body = some c)
 (h:fx X f c vs (fun eY e a' w'=>(e=.normal∨e=.ret)∧a'.defers=[]∧∃v,ResultsC P aJ a'.tmps v∧bU X fn ops rest eY Q (a.put o.dst v) w')
   { tmps:=(first++args.map a.eval++cap)++Array.replicate (aJ.ntmps-(first++args.map a.eval++cap).size) undef,defers:=[] } w):bU X fn ops (i::rest) vs Q a w:=by
 intro b k cs jA hk hc;have Mm:aJ.body.isNone=false:=by rw[hb]; rfl
 have Dg:∀v,(b.at a (.inRegion ops (i::rest)::k)).finish v=b.at (a.put o.dst v) (.inRegion ops rest::k):=fun v=>by rw[Frame.finish_at,ho]; rfl
 have lL:∀(eY:ι) (a':Act) (w':World) (todo:List Item),(a'.defers=[]∧∃v,ResultsC P aJ a'.tmps v∧bU X fn ops rest eY Q (a.put o.dst v) w') →
   X eY (G { (base f).at a' todo with mode:=.returning } (b.at a (.inRegion ops (i::rest)::k)::cs)) w':=by rintro eY a' w' todo ⟨hd,v,hr,hp⟩;refine C.step rfl fun aB aF=>?_;rw[stepG_leave (b:=base f) rfl hd hf (hr aB).1 (hr aB).2,Dg];exact⟨(T eY).idle _,C.rely (hp b k cs jA hk hc) aF⟩
 refine C.step rfl fun aB aF=>?_;obtain⟨hr,he⟩:=iQ (P:=P) (w:=aB) eI hx hf jd Mm;rw[stepG_enter ho hw hk hr,enter_at _ hf hb];have hl:listed P b.fn a o aB=#[]:=listed_nil he;rw[hl];refine⟨(T vs).idle _,C.rely (h (base f) [] _ rfl (by simp[base]) fun eY e a' w' q=>?_) aF⟩;obtain⟨P5,q⟩:=q;rcases P5 with rfl|rfl
 ·exact C.step rfl fun dI fW=>by rw[stepG_end]; exact⟨(T eY).idle _,C.rely (lL eY a' w' [] q) fW⟩
 ·exact fun todo=>lL eY a' w' todo q
def ew(P:Program)(X:ι→Goroutine→World→Prop)(f:FuncId)(args:Array Value)(vs:ι)(w:World)(Post:ι→Value→World→Prop):Prop :=
 ∃ aJ c, P.funcs[f]? = some aJ ∧ (aJ.name == "runtime.NumGoroutine") = false ∧ aJ.body = some c ∧
  fx X f c vs (fun eY e a' w'=>(e=.normal∨e=.ret)∧a'.defers=[]∧∃v,ResultsC P aJ a'.tmps v∧Post eY v w') { tmps:=args++Array.replicate (aJ.ntmps-args.size) undef,defers:=[] } w
theorem gn{args : Array Value}{Post : ι → Value → World → Prop}(hf : P.funcs[f]? = some aJ)(jd : (aJ.name == "runtime.NumGoroutine") = false)(hb : aJ.body = some c)
 (h:fx X f c vs (fun eY e a' w'=>(e=.normal∨e=.ret)∧a'.defers=[]∧∃v,ResultsC P aJ a'.tmps v∧Post eY v w') { tmps:=args++Array.replicate (aJ.ntmps-args.size) undef,defers:=[] } w):ew P X f args vs w Post:=⟨aJ,c,hf,jd,hb,h⟩
theorem jl(C:aV P main R D X)(T:∀i,Terms (R i) (D i)){o:Oper}{uS:ι}{Post:ι→Value→World→Prop}
 (ho:ops[i]?=some o)(hw:Region.wanted o (yielded ops a.tmps)=true)(a3:o.op=.call { callee:=.value x,args,argTypes:=ats })(hx:a.eval x=.func (.func f) first cap)
 (a0:first++args.map a.eval++cap=args')(a4:vs=uS)
 (a1:ew P X f args' uS w Post)(a2:∀U v w',Post U v w'→bU X fn ops rest U Q (a.put o.dst v) w'):bU X fn ops (i::rest) vs Q a w:=by subst a0 a4;obtain⟨aJ,c,hf,hn,hb,h⟩:=a1;refine DV C T ho hw a3 hx hf hn hb (l9 h fun U e a' w' q=>?_);obtain⟨h1,h2,v,h3,h4⟩:=q;exact⟨h1,h2,v,h3,a2 U v w' h4⟩
end
abbrev Ph:=Sum (List Value) (Sum (List Value) (Sum Unit Nat))
abbrev Ph.front(vs:List Value):Ph:=.inl vs
abbrev Ph.walk(vs:List Value):Ph:=.inr (.inl vs)
abbrev Ph.over:Ph:=.inr (.inr (.inl ()))
abbrev Ph.join(L:Nat):Ph:=.inr (.inr (.inr L))
theorem Ph.bJ{motive:Ph→Prop}(front:∀(vs:Vq), motive (Ph.front vs))(walk:∀(vs:Vq), motive (Ph.walk vs))(over:motive Ph.over)(join:∀L:Nat, motive (Ph.join L))(x:Ph):motive x:=by
 rcases x with vs|vs|_|L
 ·exact front vs
 ·exact walk vs
 ·exact over
 ·exact join L
section
variable (K:Cfg)[Go.ConcX.Payload][Go.ConcR.Payload][Go.ConcX.Shy K.Wg K.C](AnchW:Gq)
def mL:Ph→World→World→Prop
 | .inr (.inr (.inr _))=>gQ K
 | _=>RM K
def rz:Ph→World→World→Array Event→Prop
 | .inr (.inr (.inr L))=>iW K L
 | _=>DM K
def XM:Ph→Goroutine→World→Prop
 | .inl vs=>Way K.P true (RM K) (DM K) (iE K AnchW vs)
 | .inr (.inl vs)=>Way K.P true (RM K) (DM K) (iE K AnchW vs)
 | .inr (.inr (.inl _))=>Way K.P true (RM K) (DM K) (uV K AnchW)
 | .inr (.inr (.inr L))=>Way K.P true (gQ K) (iW K L) (tG K L AnchW)
end
section
variable {K:Cfg}[Go.ConcX.Payload][Go.ConcR.Payload][Go.ConcX.Shy K.Wg K.C]{AnchW:Gq}{i:Ph}{w aB dI:World}
theorem uH(h:gQ K w aB)(U:gQ K aB dI):gQ K w dI :=
 ⟨⟨U.aside.tape.trans h.aside.tape,U.aside.os.trans h.aside.os,U.aside.output.trans h.aside.output,U.aside.size.trans h.aside.size,fun b a c=>(U.aside.block b a c).trans (h.aside.block b a c)⟩,U.ka ∘ h.ka,U.kc ∘ h.kc⟩
theorem mL.trans(h:mL K i w aB)(h':mL K i aB dI):mL K i w dI:=by
 cases i using Ph.bJ with
 | join=>exact uH h h'
 | _=>exact RM.trans h h'
theorem p7(i:Ph):Terms (mL K i) (rz K i):=by
 refine⟨fun _ _ _=>mL.trans,fun w=>?_⟩;cases i using Ph.bJ with
 | join=>exact⟨fun _ _=>rfl,by simp⟩
 | _=>exact⟨fun _ _=>rfl,fun _ h=>h,Nat.le_refl _,by simp⟩
theorem XM.closed:aV K.P true (mL K) (rz K) (XM K AnchW) where
 rely:=by
  intro i g w aB h hr
  cases i using Ph.bJ with
  | join=>exact Way.rely (R:=gQ K) (fun _ _ _=>uH) h hr
  | _=>exact Way.rely (R:=RM K) (fun _ _ _=>RM.trans) h hr
 step:=by
  intro i g w hs h
  cases i using Ph.bJ <;>
  ·
   refine Way.step hs fun aB aF=>?_
   have hw:=h aB aF
   cases e:stepG K.P true g aB with
   | go g' w' es=>rw[e,goes_go] at hw; exact⟨g',w',es,rfl,hw.1,hw.2⟩
   | _=>rw[e] at hw; exact hw.elim
theorem XM.Gr{g:Goroutine}(U:g.status=.running)(h:∀aB,RM K w aB→zA K aB→∀L,K.N0≤L→XM K AnchW (.join L) g aB):XM K AnchW .over g w :=
 Way.stop fun aB aF=>⟨U,fun hk L hL=>h aB aF hk L hL⟩
variable {fn:FuncId}{ops:Array Oper}{j:Nat}{rest:List Nat}{o:Oper}{Q:dK Ph}{a:Act}
theorem G2{ok:Bool}{Next:Gq}(ho:ops[j]?=some o)(hw:Region.wanted o (yielded ops a.tmps)=true){b:Frame}{U:List Item}{cs:List Frame}(a0:b.kind≠.early)
 (hr:∀w,(execOp a.eval o).run K.P w=.ok (.comm K.cases true .select) w)(he:∀w,(execOp a.eval o).events K.P w #[]=#[])
 (h:∀aB,RM K w aB→K.N0≤aB.heap.size→Next (G (b.at (a.put o.dst (commResult K.cases .select k v ok)) (.inRegion ops rest::U)) cs) aB):wQ K k v ok Next (G (b.at a (.inRegion ops (j::rest)::U)) cs) w:=by
 refine⟨rfl,G (b.at a (.inRegion ops (j::rest)::U)) cs,rfl,rfl,rfl,fun aB _=>?_,fun aB aF hs=>?_⟩
 ·rw[stepG_comm ho hw a0 (hr aB),listed_none (he aB)]
 ·have e:∀u,Conc.served (G (b.at a (.inRegion ops (j::rest)::U)) cs) u=G (b.at (a.put o.dst u) (.inRegion ops rest::U)) cs:=fun u=>by
   have:(b.at a (.inRegion ops (j::rest)::U)).finish u=b.at (a.put o.dst u) (.inRegion ops rest::U):=by rw[Frame.finish_at,ho]; rfl
   simp only[Conc.served,G];rw[this]
  rw[e];exact h aB aF hs
theorem yE(hi:i=.front (v::vs)∨i=.walk (v::vs))(ho:ops[j]?=some o)(hw:Region.wanted o (yielded ops a.tmps)=true)
 (hr:∀w,(execOp a.eval o).run K.P w=.ok (.comm K.cases true .select) w)(he:∀w,(execOp a.eval o).events K.P w #[]=#[])
 (h:∀aB,RM K w aB→K.N0≤aB.heap.size→bU (XM K AnchW) fn ops rest (.walk vs) Q (a.put o.dst (commResult K.cases .select 0 v true)) aB):bU (XM K AnchW) fn ops (j::rest) i Q a w:=by
 intro b kk cs hb U hc;rcases hi with rfl|rfl <;>
 ·refine Way.stop fun aB aF=>?_;refine G2 (Next:=rA K AnchW vs) ho hw U hr he fun dI fW hs=>?_;rw[r7];exact h dI (RM.trans aF fW) hs b kk cs hb U hc
theorem GH(hi:i=.front []∨i=.walk [])(ho:ops[j]?=some o)(hw:Region.wanted o (yielded ops a.tmps)=true)
 (hr:∀w,(execOp a.eval o).run K.P w=.ok (.comm K.cases true .select) w)(he:∀w,(execOp a.eval o).events K.P w #[]=#[])
 (h:∀aB,RM K w aB→K.N0≤aB.heap.size→bU (XM K AnchW) fn ops rest .over Q (a.put o.dst (commResult K.cases .select 1 K.zE false)) aB):bU (XM K AnchW) fn ops (j::rest) i Q a w:=by
 intro b kk cs hb U hc;rcases hi with rfl|rfl <;>
 ·refine Way.stop fun aB aF=>?_;refine G2 (Next:=Bm K AnchW) ho hw U hr he fun dI fW hs=>?_;exact h dI (RM.trans aF fW) hs b kk cs hb U hc
end
def ZI (P:Program)(Post:Value→World→Prop)(d:Nat)(S:Nat→Prop)(g:Goroutine)(w:World):Prop:=∀N,Z P Post (fun b=>¬S b) N d g w
def EvS (S:Nat→Prop)(e:Event):Prop:=(∀x,(MemAct.ofEvent e).touch?=some x→∀ad:Addr,x.loc=.cell ad→¬S ad.block)∧e.loc≠.mark .disable∧e.loc≠.mark .enable
def DZ (S:Nat→Prop)(_ _:World)(es:Array Event):Prop:=∀e∈es,EvS S e
section
variable {P:Program}{Post:Value→World→Prop}{d d':Nat}{S:Nat→Prop}{g g':Goroutine}{w w':World}
theorem ZI.closed:aV P true (fun _:Nat→Prop=>AtRel) DZ (ZI P Post d) where
 rely:=fun {S g w aB} h hr N=>(Z.closed (P:=P) (Post:=Post) (Ok:=fun b=>¬S b) (N:=N) (d:=d)).rely (vs:=()) (h N) hr
 step:=by
  intro S g w hs h N
  refine(Z.closed (P:=P) (Post:=Post) (Ok:=fun b=>¬S b) (N:=N) (d:=d)).step (vs:=()) hs fun aB aF=>?_
  have U:=h aB aF
  cases e:stepG P true g aB with
  | go g' w' es =>
   rw[e,goes_go] at U
   rw[goes_go]
   exact⟨fun ev he=>⟨fun x hx ad ha=>.inl ((U.1 ev he).1 x hx ad ha),(U.1 ev he).2.1,(U.1 ev he).2.2⟩,U.2 N⟩
  | _=>rw[e] at U; exact U.elim
theorem sJ(S:Nat→Prop):Terms AtRel (DZ S):=⟨atRel_trans,fun _ e U=>by simp at U⟩
theorem ZI.done(hs:g.status=.running)(U:∀e,stepG P true g (w.at e)=.ended (.done v) (w.at e) #[])(hp:∀e,Post v (w.at e)):ZI P Post 0 S g w:=fun _=>Z.done hs U hp
theorem ZI.goes{ev:Event→Prop}{Stop:Gq}{n:Nat}(a0:∀e,ev e→EvS S e)(U:∀g w,(∀aB,AtRel w aB→Stop g aB)→ZI P Post d S g w)(h:Goes P true AtRel (fun _ _ es=>∀e∈es,ev e) Stop n g w):ZI P Post d S g w:=by
 induction n generalizing g w with
 | zero=>exact U _ _ h
 | succ n ih =>
  rcases h with h|⟨hs,h⟩
  ·exact U _ _ h
  ·refine ZI.closed.step hs fun aB aF=>?_;have hw:=h aB aF;cases e:stepG P true g aB with
   | go g' w' es=>rw[e,goes_go] at hw; rw[goes_go]; exact⟨fun e he=>a0 e (hw.1 e he),ih hw.2⟩
   | _=>rw[e] at hw; exact hw.elim
theorem ZI.E5{m:Mark}{Next:Gq}(U:(MemAct.mark m).touch?=none)(hd:deafBehind d #[⟨.mark m,false,true⟩]=d')(hn:∀g w,Next g w→ZI P Post d' S g w)(h:∀aB,AtRel w aB→g.status=.running∧∃a',stepG P true g aB=.go a' aB #[⟨.mark m,false,true⟩]∧Next a' aB):ZI P Post d S g w:=by intro N;refine Z.pick (h w (atRel_refl w)).1 fun e Shun gs q t sl hS hF=>?_;obtain⟨_,g',hgo,hN⟩:=h (w.at e) ⟨e,rfl⟩;refine⟨_,_,runT_crowd_go (P:=P) (sl:=sl) (i:=0) hF.h0 (show stepG P (0==0) g (w.at e)=_ from hgo),?_⟩;refine hn _ _ hN N e Shun _ q _ sl hS (hF.own (fun ev he x hx _=>?_) hd);rw[Array.mem_singleton] at he;subst he;rw[show MemAct.ofEvent ⟨.mark m,false,true⟩=.mark m from rfl,U] at hx;cases hx
theorem ZI.fork{U:Goroutine}(hs:g.status=.running)(a0:∀e,stepG P true g (w.at e)=.spawn g' U (w.at e) #[])
 (h:∀(e:Nat) (Shun:Loc→Prop),(∀l,Shun l→∃ad:Addr,l=.cell ad∧S ad.block)→∃K I1 I2 I3 AnchW rB vs KV N',Forked P Post Shun g' U (w.at e) K I1 I2 I3 AnchW rB vs KV N'):ZI P Post 0 S g w:=by intro N;refine Z.fork hs a0 fun e Shun hS=>h e Shun fun l hl=>?_;obtain⟨ad,rfl,_,h2⟩:=hS l hl;exact⟨ad,rfl,Classical.not_not.1 h2⟩
abbrev yQ(K:Cfg)(F:K.Fit)(stop:Goroutine→World→Prop):Go.ConcX.Shy K.Wg K.C where
 ok:=fun act=>(∀z,act.touch?=some z→(∃ad:Addr,z.loc=.cell ad∧ad.block=K.C)∨(∃ad:Addr,z.loc=.cell ad∧ad.block=K.Wg∧z.kind≠.plain))∧act.low K.B
 atomicWg:=fun a wr h=>⟨fun z hz=>.inr (by
  simp only[MemAct.touch?,Option.some.injEq] at hz
  subst hz
  exact⟨a,rfl,h,by simp⟩),by show a.block<K.B; rw[h]; exact F.WB⟩
 readWg:=fun a h=>⟨fun z hz=>.inr (by
  simp only[MemAct.touch?,Option.some.injEq] at hz
  subst hz
  exact⟨a,rfl,h,by simp⟩),by show a.block<K.B; rw[h]; exact F.WB⟩
 writeWg:=fun a h=>⟨fun z hz=>.inr (by
  simp only[MemAct.touch?,Option.some.injEq] at hz
  subst hz
  exact⟨a,rfl,h,by simp⟩),by show a.block<K.B; rw[h]; exact F.WB⟩
 theirs:=fun a wr h=>⟨fun z hz=>.inl (by
  simp only[MemAct.touch?,Option.some.injEq] at hz
  subst hz
  exact⟨a,rfl,h⟩),by show a.block<K.B; rw[h]; exact F.CB⟩
 disable:=⟨fun x hx=>(by cases hx),trivial⟩
 enable:=⟨fun x hx=>(by cases hx),trivial⟩
 relMerge:=⟨fun x hx=>(by cases hx),F.WB⟩
 acquire:=⟨fun x hx=>(by cases hx),F.WB⟩
 go1:=⟨fun x hx=>(by cases hx),trivial⟩
 start:=⟨fun x hx=>(by cases hx),trivial⟩
 stop:=stop
theorem Kf(K:Cfg)(F:K.Fit)(stop:Gq):@lx K (yQ K F stop):=@lx.mk K (yQ K F stop) fun _ h=>h
end
def uX (M:Nat→Prop)(e:Event):Prop :=
 (∃ad:Addr,e.loc=.cell ad∧M ad.block)∨(∃b wr,e=⟨.obj b,wr,false⟩∧M b)∨((MemAct.ofEvent e).touch?=none∧e.loc≠.mark .disable∧e.loc≠.mark .enable∧∀a,MemAct.ofEvent e≠.mark (.release a))
structure Own(KT:TypeId→Prop)(M:World→Nat→Prop)(w w':World):Prop where
 tape:w'.tape=w.tape
 os:w'.os=w.os
 output:w'.output=w.output
 grow:w.heap.size≤w'.heap.size
 block:∀b,b<w.heap.size→¬M w b→w'.heap[b]?=w.heap[b]?
 kt:∀(b:Nat) (o:Obj),w'.heap[b]?=some o→KT (Bi o)→w'.heap[b]?=w.heap[b]?
structure Env(KT:TypeId→Prop)(N0:Nat)(M:World→Nat→Prop)(O:Nat→Prop)(R:World→World→Prop)(D:World→World→Array Event→Prop):Prop where
 lt:∀{w:World} {b:Nat},M w b→b<w.heap.size
 keep:∀{w aB:World} {b:Nat},R w aB→M w b→aB.heap[b]?=w.heap[b]?
 stay:∀{w aB:World} {b:Nat},R w aB→M w b→M aB b
 tape:∀{w aB:World},R w aB→aB.tape=w.tape
 os:∀{w aB:World},R w aB→aB.os=w.os
 output:∀{w aB:World},R w aB→aB.output=w.output
 size:∀{w aB:World},R w aB→w.heap.size≤aB.heap.size
 jr:∀{w w':World} {es:Array Event},N0≤w.heap.size→Own KT M w w'→(∀e∈es,uX (M w') e)→D w w' es
 mine:∀{w w':World} {b:Nat},Own KT M w w'→M w b→M w' b
 new:∀{w w':World} {b:Nat},N0≤w.heap.size→Own KT M w w'→w.heap.size≤b→b<w'.heap.size→M w' b
 JY:∀{w aB:World} {b:Nat},R w aB→O b→b<w.heap.size→aB.heap[b]?=w.heap[b]?
 gx:∀{w w':World} {b:Nat},O b→b<w'.heap.size→M w b→M w' b
 tR:∀w:World,R w { w with drawn:=w.drawn+1 }
 BD:LetsDraw D
structure Kept(M:World→Nat→Prop)(O:Nat→Prop)(Ex:Nat→Prop)(w₀ w:World):Prop where
 tape:w.tape=w₀.tape
 os:w.os=w₀.os
 output:w.output=w₀.output
 grow:w₀.heap.size≤w.heap.size
 block:∀b,M w₀ b→¬Ex b→w.heap[b]?=w₀.heap[b]?
 mine:∀b,M w₀ b→M w b
 low:∀b,O b→b<w₀.heap.size→¬Ex b→w.heap[b]?=w₀.heap[b]?
section
variable {KT:TypeId→Prop}{N0:Nat}{M:World→Nat→Prop}{O:Nat→Prop}{R:Wq}{D:World→World→Array Event→Prop}{Ex EM:Nat→Prop}{w₀ w aB w':World}
theorem Own.refl(w:World):Own KT M w w:=⟨rfl,rfl,rfl,Nat.le_refl _,fun _ _ _=>rfl,fun _ _ _ _=>rfl⟩
theorem Own.alloc(ht:¬KT t)(fz:Nat × Nat:=(0,0)):Own KT M w (w.alloc (.cells cs t fz)):=by
 refine⟨rfl,rfl,rfl,by simp[World.size_alloc],fun b U _=>Below.heap_alloc _ _ _ U,fun b o' h hk=>?_⟩;by_cases U:b<w.heap.size
 ·exact Below.heap_alloc _ _ _ U
 ·have a0:=(Array.getElem?_eq_some_iff.1 h).1;have:b=w.heap.size:=by simp[World.size_alloc] at a0; omega
  subst this;rw[heap_alloc_new] at h;cases h;exact absurd hk ht
theorem Own.setCell{x:Value}(hb:w.heap[b]?=some (.cells cs t fz))(hm:M w b)(ht:¬KT t):Own KT M w (w.setCell ⟨b,o,none⟩ x):=by
 refine⟨rfl,rfl,rfl,by simp[World.setCell],fun k _ U=>Below.heap_setCell _ _ _ _ (fun e=>U (e▸hm)),fun k o' h U=>?_⟩;by_cases e:k=b
 ·subst e;have:(w.setCell ⟨k,o,none⟩ x).heap[k]?=some (.cells (cs.setIfInBounds o x) t fz):=by simp[World.setCell,Array.getElem?_modify,hb]
  rw[this] at h;cases h;exact absurd U ht
 ·exact Below.heap_setCell _ _ _ _ e
theorem Own.setRow(hb:w.heap[b]?=some (.cells cs t fz))(hm:M w b)(ht:¬KT t):Own KT M w (w.setRow b xs):=by
 have a0:∀k,k≠b→(w.setRow b xs).heap[k]?=w.heap[k]?:=fun k U=>by simp[World.setRow,Array.getElem?_modify,Ne.symm U]
 refine⟨rfl,rfl,rfl,by simp[World.setRow],fun k _ U=>a0 k (fun e=>U (e▸hm)),fun k o' h U=>?_⟩;by_cases e:k=b
 ·subst e;have:(w.setRow k xs).heap[k]?=some (.cells xs t fz):=by simp[World.setRow,Array.getElem?_modify,hb]
  rw[this] at h;cases h;exact absurd U ht
 ·exact a0 k e
theorem Own.EX{o:Obj}(ho:¬KT (Bi o)):Own KT M w (w.alloc o):=by
 refine⟨rfl,rfl,rfl,by simp[World.size_alloc],fun b U _=>Below.heap_alloc _ _ _ U,fun b o' h hk=>?_⟩;by_cases U:b<w.heap.size
 ·exact Below.heap_alloc _ _ _ U
 ·have a0:=(Array.getElem?_eq_some_iff.1 h).1;have:b=w.heap.size:=by simp[World.size_alloc] at a0; omega
  subst this;rw[heap_alloc_new] at h;cases h;exact absurd hk ho
theorem Own.setObj{o:Obj}(ho:¬KT (Bi o))(hm:M w b):Own KT M w { w with heap:=w.heap.setIfInBounds b o }:=by
 refine⟨rfl,rfl,rfl,by simp,fun k _ hk=>?_,fun k o' h hk=>?_⟩
 ·have:b≠k:=fun e=>hk (e▸hm);simp[Array.getElem?_setIfInBounds,this]
 ·by_cases e:b=k
  ·subst e;by_cases hl:b<w.heap.size
   ·simp[Array.getElem?_setIfInBounds,hl] at h;subst h;exact absurd hk ho
   ·simp[Array.getElem?_setIfInBounds,hl] at h
  ·simp[Array.getElem?_setIfInBounds,e]
theorem Kept.refl(w:World):Kept M O Ex w w:=⟨rfl,rfl,rfl,Nat.le_refl _,fun _ _ _=>rfl,fun _ h=>h,fun _ _ _ _=>rfl⟩
theorem Kept.rely(E:Env KT N0 M O R D)(h:Kept M O Ex w₀ w)(r:R w aB):Kept M O Ex w₀ aB :=
 ⟨(E.tape r).trans h.tape,(E.os r).trans h.os,(E.output r).trans h.output,Nat.le_trans h.grow (E.size r),fun b U hx=>(E.keep r (h.mine b U)).trans (h.block b U hx),fun b U=>E.stay r (h.mine b U),fun b ho hl hn=>(E.JY r ho (Nat.lt_of_lt_of_le hl h.grow)).trans (h.low b ho hl hn)⟩
theorem Kept.own(E:Env KT N0 M O R D)(h:Kept M O Ex w₀ w)(o:Own KT M w w')(hx:∀b,M w₀ b→¬Ex b→w'.heap[b]?=w.heap[b]?):Kept M O Ex w₀ w' :=
 ⟨o.tape.trans h.tape,o.os.trans h.os,o.output.trans h.output,Nat.le_trans h.grow o.grow,fun b hb U=>(hx b hb U).trans (h.block b hb U),fun b hb=>E.mine o (h.mine b hb),fun b ho hl U=>((Classical.em (M w b)).elim (fun hm=>hx b (E.gx ho hl hm) U) (fun hm=>o.block b (Nat.lt_of_lt_of_le hl h.grow) hm)).trans (h.low b ho hl U)⟩
theorem Kept.trans(E:Env KT N0 M O R D)(h:Kept M O Ex w₀ w)(U:Kept M O EM w aB)(hx:∀b,EM b→Ex b∨w₀.heap.size≤b):Kept M O Ex w₀ aB :=
 ⟨U.tape.trans h.tape,U.os.trans h.os,U.output.trans h.output,Nat.le_trans h.grow U.grow,fun b hb hn=>(U.block b (h.mine b hb) fun z=>(hx b z).elim hn fun z=>absurd (E.lt hb) (by omega)).trans (h.block b hb hn),fun b hb=>U.mine b (h.mine b hb),fun b ho hl hn=>(U.low b ho (Nat.lt_of_lt_of_le hl h.grow) fun z=>(hx b z).elim hn fun z=>absurd hl (by omega)).trans (h.low b ho hl hn)⟩
def cH(K:Cfg)(w:World)(b:Nat):Prop:=b<w.heap.size∧¬K.dy w b∧¬K.Still b∧¬K.SM b∧∀ad:Addr,ad.block=b→¬K.Shun (.cell ad)
def gx (K:Cfg)(b:Nat):Prop:=b<K.N0∧¬K.pk b∧¬K.SM b
theorem L3(F:K.Fit)(h:uX (cH K w') e):SL K w' e:=by
 rcases h with ⟨ad,he,hl,hk,hs,_,hh⟩|⟨b,wr,rfl,hl,hk,hs,hy,hh⟩|⟨h1,h2,h3,h4⟩
 ·obtain⟨l,wr,sy⟩:=e;obtain rfl:l=.cell ad:=he;have a0:∀x,(MemAct.ofEvent ⟨.cell ad,wr,sy⟩).touch?=some x→x.loc=.cell ad:=by intro x hx;cases wr<;>cases sy<;>(simp[MemAct.ofEvent,MemAct.touch?] at hx; rw[← hx])
  refine⟨fun x hx=>⟨⟨?_,?_,?_⟩,⟨fun a' U=>?_,fun a' U=>?_⟩⟩,by simp,by simp,by cases wr<;>cases sy<;>simp[MemAct.ofEvent]⟩
  ·rw[a0 x hx]; rintro(⟨a',e,h⟩|e|⟨a',e,h⟩)
   ·cases e; exact hk h
   ·cases e
   ·cases e
  ·rw[a0 x hx]; rintro⟨a',e,h⟩; cases e; exact absurd h hs
  ·rw[a0 x hx]; exact fun h=>absurd h (hh ad rfl)
  ·rw[a0 x hx] at U; cases U; exact hl
  ·rw[a0 x hx] at U; cases U
 ·have a0:∀x,(MemAct.ofEvent ⟨.obj b,wr,false⟩).touch?=some x→x.loc=.obj b:=by intro x hx;cases wr<;>(simp[MemAct.ofEvent,MemAct.touch?] at hx; rw[← hx])
  refine⟨fun x hx=>⟨⟨?_,?_,?_⟩,⟨fun a' U=>?_,fun a' U=>?_⟩⟩,by simp,by simp,by cases wr<;>simp[MemAct.ofEvent]⟩
  ·rw[a0 x hx]; rintro(⟨a',e,h⟩|e|⟨a',e,h⟩)
   ·cases e
   ·cases e; exact hy (.inr (.inl rfl))
   ·cases e; exact hk h
  ·rw[a0 x hx]; rintro⟨a',e,h⟩; cases e
  ·rw[a0 x hx]; intro h; obtain⟨a',e,_⟩:=F.jo _ h; cases e
  ·rw[a0 x hx] at U; cases U
  ·rw[a0 x hx] at U; cases U; exact hl
 ·exact⟨fun x hx=>(by rw[h1] at hx; cases hx),h2,h3,h4 _⟩
theorem xl(F:K.Fit):Env K.KT K.N0 (cH K) (gx K) (RM K) (DM K) where
 lt:=fun h=>h.1
 keep:=fun r h=>r.block _ h.1 h.2.1 h.2.2.2.1
 stay:=fun r h=>⟨Nat.lt_of_lt_of_le h.1 r.size,fun z=>h.2.1 (z.of_same (r.block _ h.1 h.2.1 h.2.2.2.1).symm),h.2.2⟩
 tape:=fun r=>r.tape
 os:=fun r=>r.os
 output:=fun r=>r.output
 size:=fun r=>r.size
 jr:=by
  intro w w' es hn o he
  refine⟨fun b U=>?_,fun b U=>?_,o.grow,fun e h=>L3 F (he e h)⟩
  ·
   refine o.block b ?_ fun m=>?_
   ·
    rcases U with U|U|U
    ·
     exact U.lt F hn
    ·
     exact Nat.lt_of_lt_of_le (F.s0 b U) hn
    ·
     rcases U with rfl|rfl|rfl
     ·
      exact Nat.lt_of_lt_of_le F.A0 hn
     ·
      exact Nat.lt_of_lt_of_le F.E0 hn
     ·
      exact Nat.lt_of_lt_of_le F.W0 hn
   ·
    rcases U with U|U|U
    ·
     exact m.2.1 U
    ·
     exact m.2.2.1 U
    ·
     exact m.2.2.2.1 U
  ·
   rcases U with U|⟨h1,o',h2,h3⟩
   ·
    exact .inl U
   ·
    exact .inr ⟨h1,o',(o.kt b o' h2 h3).symm.trans h2,h3⟩
 mine:=by
  rintro w w' b o ⟨h1,h2,h3⟩
  refine⟨Nat.lt_of_lt_of_le h1 o.grow,fun hk=>h2 ?_,h3⟩
  rcases hk with U|⟨h1,o',h2,h3⟩
  ·
   exact .inl U
  ·
   exact .inr ⟨h1,o',(o.kt b o' h2 h3).symm.trans h2,h3⟩
 new:=by
  intro w w' b hn o h1 h2
  refine⟨h2,?_,fun z=>?_,?_,fun ad ha hs=>?_⟩
  ·
   rintro(z|⟨z,o',z1,z2⟩)
   ·
    have:=F.c0 b z; omega
   ·
    have e:=(o.kt b o' z1 z2).symm.trans z1
    have:=(Array.getElem?_eq_some_iff.1 e).1
    omega
  ·
   have:=F.s0 b z; omega
  ·
   rintro(rfl|rfl|rfl)
   ·
    have:=F.A0; omega
   ·
    have:=F.E0; omega
   ·
    have:=F.W0; omega
  ·
   obtain⟨a,e,z⟩:=F.jo _ hs
   cases e
   omega
 JY:=fun r ho hl=>r.block _ hl (fun z=>ho.2.1 (z.low ho.1)) ho.2.2
 gx:=fun ho hl h=>⟨hl,fun z=>ho.2.1 (z.low ho.1),h.2.2⟩
 tR:=fun w=>⟨rfl,rfl,rfl,fun _ _ _ _=>rfl,Nat.le_refl _⟩
 BD:=fun w=>⟨fun _ _=>rfl,fun _ h=>h,Nat.le_refl _,by simp⟩
def Ph.early:Ph→Prop
 | .inr (.inr (.inr _))=>False
 | _=>True
theorem xm[Go.ConcX.Payload][Go.ConcR.Payload][Go.ConcX.Shy K.Wg K.C](F:K.Fit){i:Ph}(hi:i.early):Env K.KT K.N0 (cH K) (gx K) (mL K i) (rz K i):=by
 cases i using Ph.bJ with
 | join=>exact hi.elim
 | _=>exact xl F
def ut(S:Nat→Prop)(w:World)(b:Nat):Prop:=b<w.heap.size∧¬S b
theorem Pv{S:Nat→Prop}(hS:∀b,S b→b<N0):Env KT N0 (ut S) O AtRel (DZ S) where
 lt:=fun h=>h.1
 keep:=by rintro w _ b ⟨e,rfl⟩ _; rfl
 stay:=by rintro w _ b ⟨e,rfl⟩ h; exact h
 tape:=by rintro w _ ⟨e,rfl⟩; rfl
 os:=by rintro w _ ⟨e,rfl⟩; rfl
 output:=by rintro w _ ⟨e,rfl⟩; rfl
 size:=by rintro w _ ⟨e,rfl⟩; exact Nat.le_refl _
 jr:=by
  intro w w' es hn o he e h
  rcases he e h with ⟨ad,h1,_,h2⟩|⟨b,wr,rfl,_⟩|⟨h1,h2,h3,_⟩
  ·
   obtain⟨l,wr,sy⟩:=e
   obtain rfl:l=.cell ad:=h1
   refine⟨fun x hx a' U hs=>?_,by simp,by simp⟩
   have hl:x.loc=.cell ad:=by cases wr<;>cases sy<;>(simp[MemAct.ofEvent,MemAct.touch?] at hx; rw[← hx])
   rw[hl] at U
   cases U
   exact h2 hs
  ·
   refine⟨fun x hx a' U hs=>?_,by simp,by simp⟩
   have hl:x.loc=.obj b:=by cases wr<;>(simp[MemAct.ofEvent,MemAct.touch?] at hx; rw[← hx])
   rw[hl] at U
   cases U
  ·
   exact⟨fun x hx=>(by rw[h1] at hx; cases hx),h2,h3⟩
 mine:=fun o h=>⟨Nat.lt_of_lt_of_le h.1 o.grow,h.2⟩
 new:=fun hn _ h1 h2=>⟨h2,fun hs=>by have:=hS _ hs; omega⟩
 JY:=by rintro w _ b ⟨e,rfl⟩ _ _; rfl
 gx:=fun _ hl h=>⟨hl,h.2⟩
 tR:=fun w=>⟨w.drawn+1,rfl⟩
 BD:=fun w e he=>by simp at he
theorem nY(base:Nat)(t ty e:TypeId)(i:TypeInfo)(z:Value)(size bytes:Nat)(ht:P.underlying t=some (.slice e))(hi:P.info? e=some i)(hz:i.zero=some z)
 (a5:i.size=size)(aa:i.bytes=bytes)
 (v:Value)(n:Nat)(xs:Vq)(a2:w.ownsRow base e size v n xs)
 (a:Addr)(m c:Nat)(news:Vq)(hl:news.length=m*size)(a0:∀j u,news[j]?=some u→w.cell? (a.add j)=some u)(h1:∀u∈news,u.oneCell'=true)
 (a9:n+m≤maxLen)(a1:(n+m)*bytes≤140737488355328)(U:(Builtin.append_ #[t,t] ty #[v,.slice (some a) m c]).run P w=.ok v' w') :
  w'=w∨(∃g cs,v.ownBlock=some g∧w'=w.setRow g cs)∨∃cs,w'=w.drew.alloc (.cells cs e):=by
 subst a5;subst aa;have a8:n+m≤9223372036854775807:=by simp only[maxLen] at a9; omega
 rcases a2.2 with ⟨rfl,rfl⟩|⟨g,cap,a6,rfl,ag,hg,ai,ah,ae,af⟩
 ·by_cases hm:m=0
  ·subst hm;have hn:news=[]:=List.eq_nil_of_length_eq_zero (by simpa using hl);subst hn;left;simp[Builtin.append_,run_underlying ht,sizeOf,typeInfo,hi,Builtin.lenOf,Builtin.firstCells,loadCells,loadCellsFrom] at U;exact U.2.symm
  ·have hr:=run_append_nil (P:=P) w t ty e i z ht hi hz a m c news hl a0 (by omega) (by omega) (by have hb:=a1; simp only[Nat.zero_add] at hb; omega);rw[hr] at U;cases U;exact .inr (.inr ⟨_,rfl⟩)
 ·by_cases a3:n+m≤cap
  ·have a7:n*i.size+news.length≤a6.size:=by rw[hl,ae,← Nat.add_mul]; exact Nat.mul_le_mul_right _ a3
   have hr:=run_append_room (P:=P) w t ty e i ht hi g n cap a6 hg a m c news hl a0 h1 a3 a7;rw[hr] at U;cases U;exact .inr (.inl ⟨g,_,rfl,rfl⟩)
  ·have a4:∀j u,xs[j]?=some u→w.cell? ((⟨g,0,none⟩:Addr).add j)=some u:=a2.cells (g:=g) rfl;have hr:=run_append_grow (P:=P) w t ty e i z ht hi hz ⟨g,0,none⟩ n cap xs a2.1 a4 a m c news hl a0 (by omega) (by omega) (growslice_fits (by omega) a1);rw[hr] at U;cases U;exact .inr (.inr ⟨_,rfl⟩)
end
structure lu(M:World→Nat→Prop)(Ex:Nat→Prop)(w₀:World)(e:TypeId)(v:Value)(n:Nat)(xs:List Value)(w:World):Prop where
 row:w.ownsRow 0 e 1 v n xs
 own:∀k,v.ownBlock=some k→M w k∧(Ex k∨w₀.heap.size≤k)
 nil:n=0→v=.slice none 0 0
section
variable {KT:TypeId→Prop}{N0:Nat}{M:World→Nat→Prop}{O:Nat→Prop}{R:Wq}{D:World→World→Array Event→Prop}{Ex:Nat→Prop}{w₀ w aB w':World}{e:TypeId}{v:Value}{n:Nat}{xs news:Vq}{g:Nat}
theorem lu.same(h:lu M Ex w₀ e v n xs w)(U:∀k,v.ownBlock=some k→w'.heap[k]?=w.heap[k]?∧M w' k):lu M Ex w₀ e v n xs w':=by
 refine⟨⟨h.row.1,?_⟩,fun k hk=>⟨(U k hk).2,(h.own k hk).2⟩,h.nil⟩;rcases h.row.2 with z|⟨g,cap,cur,h1,h2,h3,h4⟩
 ·exact .inl z
 ·exact .inr ⟨g,cap,cur,h1,h2,(U g (by rw[h1]; rfl)).1.trans h3,h4⟩
theorem lu.rely(E:Env KT N0 M O R D)(h:lu M Ex w₀ e v n xs w)(r:R w aB):lu M Ex w₀ e v n xs aB:=h.same fun k U=>⟨E.keep r (h.own k U).1,E.stay r (h.own k U).1⟩
theorem lu.type(h:lu M Ex w₀ e v n xs w)(hk:v.ownBlock=some k):∃U,w.heap[k]?=some (.cells U e (0,0)):=by
 rcases h.row.2 with ⟨z,_⟩|⟨g,cap,U,h1,h2,h3,h4⟩
 ·rw[z] at hk; cases hk
 ·rw[h1] at hk; cases hk; exact⟨U,h3⟩
theorem lu.ne(h:lu M Ex w₀ e v n xs w)(U:w.heap[b]?=some (.cells cs t fz))(ht:t≠e)(hk:v.ownBlock=some k):k≠b:=by rintro rfl;obtain⟨cur,hc⟩:=h.type hk;rw[U] at hc;cases hc;exact ht rfl
theorem lu.none(M:World→Nat→Prop)(Ex:Nat→Prop)(w₀ w:World)(e:TypeId):lu M Ex w₀ e (.slice .none 0 0) 0 [] w:=⟨World.ownsRow_nil _ _ _ _,fun k U=>(by cases U),fun _=>rfl⟩
structure EV(M:World→Nat→Prop)(e:TypeId)(news:List Value)(g:Nat)(w:World):Prop where
 src:w.heap[g]?=some (.cells news.toArray e)
 mine:M w g
theorem EV.rely(E:Env KT N0 M O R D)(h:EV M e news g w)(r:R w aB):EV M e news g aB:=⟨(E.keep r h.mine).trans h.src,E.stay r h.mine⟩
theorem E3(E:Env KT N0 M O R D)(hs:N0≤w.heap.size)(he:¬KT e)(old:Kept M O Ex w₀ w)(h:lu M Ex w₀ e v n xs w)(q:EV M e news g w)(t ty:TypeId)(z:Value)(bytes:Nat)(ht:P.underlying t=some (.slice e))(hi:(P.info? e).map (fun i=>(i.zero,i.size,i.bytes))=some (some z,1,bytes))(hz:z.cells.size=1)
 (h1:∀x∈news,x.oneCell'=true)(hn:n+news.length≤maxLen)(hb:(n+news.length)*bytes≤140737488355328) :
  ∃v' w',(Builtin.append_ #[t,t] ty #[v,.slice (sq g) news.length news.length]).run P w=.ok v' w'∧lu M Ex w₀ e v' (n+news.length) (xs++news) w'∧Kept M O Ex w₀ w'∧Own KT M w w' ∧
   (∀b,b<w.heap.size→v.ownBlock≠some b→w'.heap[b]?=w.heap[b]?) ∧
   D w w' ((Builtin.append_ #[t,t] ty #[v,.slice (sq g) news.length news.length]).events P w #[]) ∧
   ∀e∈(Builtin.append_ #[t,t] ty #[v,.slice (sq g) news.length news.length]).events P w #[],∀m,e.loc=.mark m→Conc.Neutral m:=by
 have hc:∀j x,news[j]?=some x→w.cell? ((⟨g,0,none⟩:Addr).add j)=some x:=by
  intro j x hj;have:(⟨g,0,none⟩:Addr).add j=⟨g,j,none⟩:=by unfold Addr.add; split<;>simp_all
  rw[this];simp[World.cell?,q.src,hj]
 obtain⟨i0,hi,a0,a1,a2⟩:=info_parts hi;obtain⟨v',w',hr,ho,hg,VA,U⟩:=run_append_own_at (P:=P) w 0 t ty e i0 z 1 bytes ht hi a0 a1 a2 hz (by decide) v n xs h.row ⟨g,0,none⟩ news.length news.length news (by simp) hc h1 hn hb (Nat.zero_le _);have a7:=nY (P:=P) 0 t ty e i0 z 1 bytes ht hi a0 a1 a2 v n xs h.row ⟨g,0,none⟩ news.length news.length news (by simp) hc h1 hn hb hr;have a4:=events_append_where (P:=P) w 0 t ty e i0 z 1 bytes ht hi a0 a1 a2 v n xs h.row ⟨g,0,none⟩ news.length news.length news (by simp) hc h1 hn hb;have hO:Own KT M w w':=by
  rcases a7 with rfl|⟨k,cs,hk,rfl⟩|⟨cs,rfl⟩
  ·exact Own.refl _
  ·obtain⟨a8,a3⟩:=h.type hk;exact Own.setRow a3 (h.own k hk).1 he
  ·have:=Own.alloc (KT:=KT) (M:=M) (w:=w.drew) (cs:=cs) (t:=e) he;exact⟨this.tape,this.os,this.output,this.grow,fun b hb hm=>heap_alloc_old w.drew _ b hb,fun b o' hh hk=>(this.kt b o' hh hk)⟩
 have a5:∀k,v'.ownBlock=some k→M w' k∧(Ex k∨w₀.heap.size≤k):=by
  intro k hk;rcases U with U|U
  ·rw[U] at hk;exact⟨E.mine hO (h.own k hk).1,(h.own k hk).2⟩
  ·rw[U] at hk;cases hk;refine⟨E.new hs hO (Nat.le_refl _) (ho.lt _ U).2,.inr old.grow⟩
 refine⟨v',w',hr,⟨ho,a5,fun e=>VA.2 ⟨h.nil (by omega),by omega⟩⟩,old.own E hO fun b hb hx=>hg.block b (E.lt (old.mine b hb)) fun e=>?_,hO,fun b hb hx=>hg.block b hb (fun e=>hx e.symm),E.jr hs hO fun e he=>?_,fun e he m hm=>?_⟩
 ·rcases(h.own b e.symm).2 with z|z
  ·exact hx z
  ·have:=E.lt hb; omega
 ·rcases a4 e he with ⟨ad,h1,h2⟩|⟨m,rfl,hm⟩
  ·refine .inl ⟨ad,h1,E.mine hO ?_⟩;rcases h2 with ⟨_,h2⟩|h2
   ·rw[h2]; exact q.mine
   ·exact(h.own _ h2.symm).1
  ·obtain rfl:m=.noRoom:=hm;exact .inr (.inr ⟨by simp[MemAct.ofEvent,MemAct.touch?],by simp,by simp,by simp[MemAct.ofEvent]⟩)
 ·rcases a4 e he with ⟨ad,h1,_⟩|⟨m',rfl,a6⟩
  ·rw[h1] at hm; cases hm
  ·cases hm; exact a6
end
section
theorem cZ{w:World}(h:w.heap[b]?=some (.cells cs ty fz))(v:Value):(w.setCell ⟨b,o,none⟩ v).heap[b]?=some (.cells (cs.setIfInBounds o v) ty fz):=by simp[World.setCell,Array.getElem?_modify,h]
theorem HC.gd(w:World)(v:Value)(U:b'≠b):(w.setCell ⟨b,o,none⟩ v).heap[b']?=w.heap[b']?:=Below.heap_setCell _ _ _ _ U
def aC (P:Program)(N Pb:Nat)(Shun:Loc→Prop)(val:Value)(B:Nat)(Mine:Loc→Prop):Cfg :=
 { P:=P,ty:=169,A:=N+2,E:=N+4,Wg:=N+6,C:=N,pk:=fun b=>b=N,N0:=N+9,KT:=fun t=>t=177∨t=179∨1016≤t,Still:=fun b=>b=N+1∨b=N+3∨b=N+5∨b=N+7∨b=N+8∨b=Pb,Shun:=Shun,B:=B,
   z:=.int .i32 0,zs:=.tuple #[],zE:=.agg #[],val:=val,Mine:=Mine }
variable [Go.ConcR.Payload][Go.ConcX.Payload]
variable (K:Cfg)
abbrev Ix:=Bool × List Value
def ef (_:Ix):World→World→Prop:=RC K
def XK (i:Ix)(g:Goroutine)(w:World):Prop:=Way K.P false (ef K i) (DK K) (kT K i.2) g w
section
variable {K:Cfg}{i:Ix}{w aB dI:World}
theorem ef.rc(h:ef K i w aB):RC K w aB:=h
theorem ef.refl(i:Ix)(w:World):ef K i w w:=RC.refl w
theorem ef.trans(h:ef K i w aB)(U:ef K i aB dI):ef K i w dI:=RC.trans h U
theorem XK.closed:Closed K.P false (ef K) (DK K) (XK K) where
 rely:=fun {i} _ _ _ h hr=>Way.rely (R:=ef K i) (fun _ _ _=>ef.trans) h hr
 step:=by
  intro i g w hs h
  refine Way.step hs fun aB aF=>?_
  have U:=h aB aF
  cases e:stepG K.P false g aB with
  | go g' w' es=>rw[e,goes_go] at U; exact⟨g',w',es,rfl,U.1,U.2⟩
  | _=>rw[e] at U; exact U.elim
theorem jq(i:Ix):Terms (ef K i) (DK K):=⟨fun _ _ _=>ef.trans,fun _=>⟨rfl,rfl,rfl,fun _ _ _=>rfl,fun _ h=>h,fun _ h1 h2=>absurd h1 (by omega),rfl,Nat.le_refl _,by simp⟩⟩
theorem HU(fr:Bool)(vs:Vq)(g:Goroutine)(w:World):XK K (fr,vs) g w↔lr K vs g w:=by rw[pz]; exact Iff.rfl
theorem DY{j:Nat}{o:Oper}{Q:nQ Ix}{a:Act}{fr:Bool}{y:Operand}(a1:K.zs=.tuple #[])(ho:ops[j]?=some o)(hw:Region.wanted o (yielded ops a.tmps)=true)(a0:o.op=.send x y)(hx:a.eval x=.chan (some K.A))(hy:a.eval y=v)
 (hk:∀aB,RC K w aB→K.N0≤aB.heap.size)(h:∀aB,RC K w aB→kq (XK K) fn ops rest (false,vs) Q (a.put o.dst undef) aB):kq (XK K) fn ops (j::rest) (fr,v::vs) Q a w:=by
 intro b k cs hb U hc;refine Way.stop fun aB aF=>?_;have hr:∀w,(execOp a.eval o).run K.P w=.ok (.comm #[scase K.A v K.zs] true .send) w:=fun w=>by unfold execOp;simp[a0,hx,hy,a1,scase]
 have he:∀w,(execOp a.eval o).events K.P w #[]=#[]:=fun w=>by unfold execOp;simp[a0]
 refine⟨rfl,hk aB aF.rc,?_,fun dI fW=>?_⟩
 ·rw[stepG_comm ho hw U (hr aB),listed_none (he aB)]
 ·have e:Conc.served (G (b.at a (.inRegion ops (j::rest)::k)) cs) undef=G (b.at (a.put o.dst undef) (.inRegion ops rest::k)) cs:=by
   have:(b.at a (.inRegion ops (j::rest)::k)).finish undef=b.at (a.put o.dst undef) (.inRegion ops rest::k):=by rw[Frame.finish_at,ho]; rfl
   simp only[Conc.served,G];rw[this]
  rw[e];exact(HU false vs _ _).1 (h dI (aF.rc.trans fW) b k cs hb U hc)
end
structure CS where
 begun:Bool
 returned:Bool
structure DS where
 letter:Int
 missing:Int
 low:Int
 high:Int
def eX(N:Nat):Value:=.func (.func 113) #[] #[.pointer (some ⟨N+3,0,none⟩)]
def kg (c1:Nat):Value:=.func (.func 116) #[.pointer (some ⟨c1,0,none⟩)] #[]
structure HC(N Pb cp c1 c2:Nat)(c:CS)(d:DS)(w:World):Prop where
 lv:w.heap[N+3]?=some (.cells #[.chan (some (N+2))] 158)
 cl:w.heap[c1]?=some (.cells #[eX N,.bool c.begun,.bool c.returned] 177)
 de:w.heap[c2]?=some (.cells #[kg c1,.int .i32 d.letter,.int .i64 d.missing,.int .u8 d.low,.int .u8 d.high] 179)
 pc:w.heap[N]?=some (.cells #[.slice (some ⟨Pb,0,none⟩) 1 cp] 62)
 wb:w.heap[N+7]?=some (.cells #[.pointer (some ⟨N+6,0,none⟩)] 240)
 h1:N+9≤c1
 h2:N+9≤c2
 ne:c1≠c2
section
variable {N Pb cp c1 c2:Nat}{Shun:Loc→Prop}{val:Value}{B:Nat}{Mine:Loc→Prop}{c:CS}{d:DS}{w aB:World}
theorem HC.Jx(h:HC N Pb cp c1 c2 c d w):(aC prog N Pb Shun val B Mine).dy w c1:=.inr ⟨h.h1,_,h.cl,.inl rfl⟩
theorem HC.Jy(h:HC N Pb cp c1 c2 c d w):(aC prog N Pb Shun val B Mine).dy w c2:=.inr ⟨h.h2,_,h.de,.inr (.inl rfl)⟩
theorem HC.rc(h:HC N Pb cp c1 c2 c d w)(r:RC (aC prog N Pb Shun val B Mine) w aB):HC N Pb cp c1 c2 c d aB :=
 ⟨(r _ (.inr (.inr (.inl rfl)))).trans h.lv,(r _ (.inl h.Jx)).trans h.cl,(r _ (.inl h.Jy)).trans h.de,(r _ (.inl (.inl rfl))).trans h.pc,(r _ (.inr (.inr (.inr (.inr (.inl rfl)))))).trans h.wb,h.h1,h.h2,h.ne⟩
theorem HC.rely{i:Ix}(h:HC N Pb cp c1 c2 c d w)(r:ef (aC prog N Pb Shun val B Mine) i w aB):HC N Pb cp c1 c2 c d aB:=h.rc r.rc
theorem HC.size(h:HC N Pb cp c1 c2 c d w):N+9≤w.heap.size:=by
 have:=(Array.getElem?_eq_some_iff.1 h.cl).1
 have:=h.h1;omega
theorem HC.IJ(h:HC N Pb cp c1 c2 c d w):w.cell? ⟨N+3,0,none⟩=some (.chan (some (N+2))):=by simp[World.cell?,h.lv]
theorem HC.gG(h:HC N Pb cp c1 c2 c d w):w.cell? ⟨c1,0,none⟩=some (eX N)∧w.cell? ⟨c1,1,none⟩=some (.bool c.begun)∧w.cell? ⟨c1,2,none⟩=some (.bool c.returned)∧w.frozen? ⟨c1,1,none⟩=false∧w.frozen? ⟨c1,2,none⟩=false:=by simp[World.cell?,World.frozen?,h.cl]
theorem HC.bZ(h:HC N Pb cp c1 c2 c d w):w.cell? ⟨c2,0,none⟩=some (kg c1)∧w.cell? ⟨c2,1,none⟩=some (.int .i32 d.letter)∧w.cell? ⟨c2,2,none⟩=some (.int .i64 d.missing)∧w.cell? ⟨c2,3,none⟩=some (.int .u8 d.low)∧w.cell? ⟨c2,4,none⟩=some (.int .u8 d.high)
  ∧ w.frozen? ⟨c2,1,none⟩=false∧w.frozen? ⟨c2,2,none⟩=false∧w.frozen? ⟨c2,3,none⟩=false∧w.frozen? ⟨c2,4,none⟩=false:=by simp[World.cell?,World.frozen?,h.de]
def EvB (N Pb c1 c2:Nat)(e:Event):Prop:=∃a wr,e=⟨.cell a,wr,false⟩∧((a.block=N∨a.block=c1∨a.block=c2)∨((a.block=N+1∨a.block=N+3∨a.block=N+5∨a.block=N+7∨a.block=N+8∨a.block=Pb)∧wr=false))
theorem EvB.XZ(U:(aC prog N Pb Shun val B Mine).dy w c1)(a0:(aC prog N Pb Shun val B Mine).dy w c2)(he:EvB N Pb c1 c2 e):Im (aC prog N Pb Shun val B Mine) w e:=by
 obtain⟨a,wr,rfl,h⟩:=he;refine .inl ⟨a,wr,rfl,?_⟩;rcases h with (h|h|h)|⟨h,hw⟩
 ·exact .inl (.inl h)
 ·exact .inl (by rw[h]; exact U)
 ·exact .inl (by rw[h]; exact a0)
 ·exact .inr ⟨h,hw⟩
theorem dj(U:HC N Pb cp c1 c2 c d w)(h:∀e∈es,EvB N Pb c1 c2 e):DK (aC prog N Pb Shun val B Mine) w w es :=
 ⟨rfl,rfl,rfl,fun _ _ _=>rfl,fun _ h=>h,fun _ h1 h2=>absurd h1 (by omega),rfl,Nat.le_refl _,fun e he=>(h e he).XZ U.Jx U.Jy⟩
theorem fB(U:HC N Pb cp c1 c2 c d w)(hb:b=c1∨b=c2)(h:∀e∈es,EvB N Pb c1 c2 e):DK (aC prog N Pb Shun val B Mine) w (w.setCell ⟨b,o,none⟩ v) es:=by
 have hk:∀k,(aC prog N Pb Shun val B Mine).dy w k→(aC prog N Pb Shun val B Mine).dy (w.setCell ⟨b,o,none⟩ v) k:=by
  intro k hk;by_cases e:k=b
  ·subst e;rcases hb with rfl|rfl
   ·exact .inr ⟨U.h1,_,cZ U.cl v,.inl rfl⟩
   ·exact .inr ⟨U.h2,_,cZ U.de v,.inr (.inl rfl)⟩
  ·exact hk.of_same (Below.heap_setCell _ _ _ _ e)
 have a0:(aC prog N Pb Shun val B Mine).dy w b:=by
  rcases hb with rfl|rfl
  ·exact U.Jx
  ·exact U.Jy
 have hs:(w.setCell ⟨b,o,none⟩ v).heap.size=w.heap.size:=by simp[World.setCell]
 refine⟨rfl,rfl,rfl,fun k _ a1=>Below.heap_setCell _ _ _ _ ?_,hk,fun _ h1 h2=>absurd h1 (by omega),Below.heap_setCell _ _ _ _ ?_,by omega,fun e he=>(h e he).XZ (hk _ U.Jx) (hk _ U.Jy)⟩
 ·rintro rfl; exact a1 a0
 ·show N≠b
  have:=U.h1; have:=U.h2; omega
theorem pH(U:b=N+1∨b=N+3∨b=N+5∨b=N+7∨b=N+8∨b=Pb):EvB N Pb c1 c2 ⟨.cell ⟨b,o,none⟩,false,false⟩:=⟨_,_,rfl,.inr ⟨U,rfl⟩⟩
theorem ca{wr:Bool}(U:b=N∨b=c1∨b=c2):EvB N Pb c1 c2 ⟨.cell ⟨b,o,none⟩,wr,false⟩:=⟨_,_,rfl,.inl U⟩
theorem K4:LetsDraw (DK (aC prog N Pb Shun val B Mine)):=fun _=>⟨rfl,rfl,rfl,fun _ _ _=>rfl,fun _ h=>h,fun _ h1 h2=>absurd h2 (Nat.not_lt.2 h1),rfl,Nat.le_refl _,by simp⟩
theorem sf{i:Ix}(w:World):ef (aC prog N Pb Shun val B Mine) i w { w with drawn:=w.drawn+1 }:=fun _ _=>rfl
theorem HC.NI(h:HC N Pb cp c1 c2 c d w)(x:Bool):HC N Pb cp c1 c2 ⟨x,c.returned⟩ d (w.setCell ⟨c1,1,none⟩ (.bool x)):=by have h1:=h.h1; have h2:=h.h2; have hn:=h.ne;exact⟨(HC.gd w _ (by omega)).trans h.lv,cZ h.cl _,(HC.gd w _ (Ne.symm hn)).trans h.de,(HC.gd w _ (by omega)).trans h.pc,(HC.gd w _ (by omega)).trans h.wb,h1,h2,hn⟩
theorem HC.NJ(h:HC N Pb cp c1 c2 c d w)(x:Bool):HC N Pb cp c1 c2 ⟨c.begun,x⟩ d (w.setCell ⟨c1,2,none⟩ (.bool x)):=by have h1:=h.h1; have h2:=h.h2; have hn:=h.ne;exact⟨(HC.gd w _ (by omega)).trans h.lv,cZ h.cl _,(HC.gd w _ (Ne.symm hn)).trans h.de,(HC.gd w _ (by omega)).trans h.pc,(HC.gd w _ (by omega)).trans h.wb,h1,h2,hn⟩
theorem HC.uJ(h:HC N Pb cp c1 c2 c d w)(x:Int):HC N Pb cp c1 c2 c { d with letter:=x } (w.setCell ⟨c2,1,none⟩ (.int .i32 x)):=by have h1:=h.h1; have h2:=h.h2; have hn:=h.ne;exact⟨(HC.gd w _ (by omega)).trans h.lv,(HC.gd w _ hn).trans h.cl,cZ h.de _,(HC.gd w _ (by omega)).trans h.pc,(HC.gd w _ (by omega)).trans h.wb,h1,h2,hn⟩
theorem HC.nI(h:HC N Pb cp c1 c2 c d w)(x:Int):HC N Pb cp c1 c2 c { d with missing:=x } (w.setCell ⟨c2,2,none⟩ (.int .i64 x)):=by have h1:=h.h1; have h2:=h.h2; have hn:=h.ne;exact⟨(HC.gd w _ (by omega)).trans h.lv,(HC.gd w _ hn).trans h.cl,cZ h.de _,(HC.gd w _ (by omega)).trans h.pc,(HC.gd w _ (by omega)).trans h.wb,h1,h2,hn⟩
theorem HC.G3(h:HC N Pb cp c1 c2 c d w)(x:Int):HC N Pb cp c1 c2 c { d with low:=x } (w.setCell ⟨c2,3,none⟩ (.int .u8 x)):=by have h1:=h.h1; have h2:=h.h2; have hn:=h.ne;exact⟨(HC.gd w _ (by omega)).trans h.lv,(HC.gd w _ hn).trans h.cl,cZ h.de _,(HC.gd w _ (by omega)).trans h.pc,(HC.gd w _ (by omega)).trans h.wb,h1,h2,hn⟩
theorem HC.Cw(h:HC N Pb cp c1 c2 c d w)(x:Int):HC N Pb cp c1 c2 c { d with high:=x } (w.setCell ⟨c2,4,none⟩ (.int .u8 x)):=by have h1:=h.h1; have h2:=h.h2; have hn:=h.ne;exact⟨(HC.gd w _ (by omega)).trans h.lv,(HC.gd w _ hn).trans h.cl,cZ h.de _,(HC.gd w _ (by omega)).trans h.pc,(HC.gd w _ (by omega)).trans h.wb,h1,h2,hn⟩
theorem A7(hF:HC N Pb cp c1 c2 c d w)(fr:Bool)(r:Int)(vs:Vq) :
  gD prog (XK (aC prog N Pb Shun val B Mine)) 113 #[.int .i32 r,.pointer (sq (N+3))] (fr,.int .i32 r::vs) w (fun i' _ w'=>i'=(false,vs)∧HC N Pb cp c1 c2 c d w'):=by
 have C:Closed prog false (ef (aC prog N Pb Shun val B Mine)) (DK (aC prog N Pb Shun val B Mine)) (XK (aC prog N Pb Shun val B Mine)):=XK.closed (K:=(aC prog N Pb Shun val B Mine));have T:=jq (K:=(aC prog N Pb Shun val B Mine));refine fe func113 (by rfl) rfl ?_;simp only[ntmps113,List.size_toArray,List.length_cons,List.length_nil,Nat.reduceAdd,Nat.reduceSub,Array.replicate_succ,Array.replicate_zero,List.push_toArray,List.append_toArray,List.nil_append,List.cons_append];refine bN C T ?_;simp only[ia,Nat.reduceAdd];refine aL C rfl (by rfl) fun aB hR Kx U=>?_;replace hF:=hF.rely hR;clear hR;have hc:=hF.IJ;go_simp;refine U _ _ ⟨?_,?_⟩
 ·refine dj hF ?_;co_evs (exact pH (.inr (.inl rfl)))
 clear U Kx hc;try walk_nrm
 refine aL C rfl (by rfl) fun dI hR Kx U=>?_;replace hF:=hF.rely hR;clear hR;go_simp;refine U _ _ ⟨?_,?_⟩
 ·co_quiet (T (true,[]))
 clear U Kx;try walk_nrm
 refine DY (K:=(aC prog N Pb Shun val B Mine)) (v:=.int .i32 r) rfl rfl (by rfl) rfl rfl rfl (fun XJ MW=>(hF.rc MW).size) fun XJ MW=>?_;replace hF:=hF.rc MW;refine cf C T ?_;exact⟨.inl rfl,rfl,_,resultsC_none (by rfl) _,rfl,hF⟩
end
end
end Go.Proofs.YtgcaionclkbehaaGreatDoor
