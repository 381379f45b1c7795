import Derived.Test.YtgcaionclkbehaaGreatDoorDone2
import Derived.Lib.BufferWrite
set_option linter.all false
set_option maxHeartbeats 2000000
set_option maxRecDepth 100000
namespace Go.Proofs.YtgcaionclkbehaaGreatDoor
section
open Go.Conc Go.RowKit Go.Lib
variable {α:Type}{a a' b' cs lE p p' q q':Aq}{b c c' d e g n n' off z:Nat}{x x' y y':Value}{o o':Obj}{f:Fn}{op:BinOp}{t:TypeId}
def fV {α:Type}(P:Program):Sem α→Option α
 | .pure a=>some a
 | .program k=>fV P (k P)
 | _=>none
def mi {α:Type}(d:α):Nat→List α→α→List α
 | 0,l,x=>x::l.tail
 | n+1,l,x=>l.headD d::mi d n l.tail x
structure AS where
 hp:List (List (Option Obj))
 nx:Nat
def AS.get(s:AS)(b:Nat):Option Obj:=(s.hp.getD (b / 16) []).getD (b % 16) none
def AS.set(s:AS)(b:Nat)(o:Option Obj):AS:=⟨mi [] (b / 16) s.hp (mi none (b % 16) (s.hp.getD (b / 16) []) o),s.nx⟩
def AS.add(s:AS)(o:Obj):AS:=⟨(s.set s.nx (some o)).hp,s.nx+1⟩
def dW:Value→Bool
 | .bool _|.int _ _|.string _|.pointer none|.slice none _ _|.nilFunc|.nilIface=>true
 | _=>false
def sJ:Value→Bool
 | .agg cs=>cs.toList.all dW
 | v=>dW v
def am (b off:Nat):Value:=.pointer (some ⟨b,off,none⟩)
def bQ(P:Program)(t:TypeId):Option Nat:=(P.info? t).map (·.size)
def lD(P:Program)(t:TypeId):Bool:=match P.info? t with
 | some i=>match i.zero with
  | some z=>z.cells.toList.all dW
  | none=>false
 | none=>false
def QE:Option Go.Next→Option Value
 | some (.value v)=>some v
 | _=>none
def aC(P:Program)(t:TypeId)(x:Value)(s:AS):Option Value:=match x with
 | .pointer (some ⟨b,off,none⟩)=>match s.get b with
  | some (.cells cs _ _)=>match P.underlying t with
   | some d=>if d.isRow then match bQ P t with
     | some n=>if off+n≤cs.size then some (.agg (cs.toList.drop off |>.take n).toArray) else none
     | none=>none
    else cs[off]?
   | none=>none
  | some (.chan _ cs _ _ _ _)=>match P.underlying t with
   | some d=>if d.isRow then none else match cs[off]? with
    | some v=>if dW v=true then some v else none
    | none=>none
   | none=>none
  | _=>none
 | _=>none
def iS(P:Program)(t:TypeId)(x y:Value)(s:AS):Option AS:=match x with
 | .pointer (some ⟨b,off,none⟩)=>match s.get b with
  | some (.cells cs ty fz) =>
   if bQ P t=some y.cells.size∧off+y.cells.size≤cs.size∧y.cells.toList.all Value.oneCell'=true then some (s.set b (some (.cells (putAt cs off y.cells.toList) ty fz))) else none
  | _=>none
 | _=>none
def eh(s:AS)(sz:Nat)(ad:Option Addr)(n:Nat):Option (Vq):=match ad with
 | none=>if n=0 then some [] else none
 | some ⟨b,off,_⟩=>match s.get b with
  | some (.cells cs _ _)=>if off+n*sz≤cs.size then some (cs.toList.drop off |>.take (n*sz)) else none
  | _=>none
def bn(P:Program)(e:TypeId)(x:Value)(news:Vq)(m:Nat)(s:AS):Option (Value × AS):=match x with
 | .slice none 0 0=>if m=0 then some (x,s) else some (.slice (some ⟨s.nx,0,none⟩) m m,s.add (.cells news.toArray e (1,1)))
 | .slice (some ⟨b,0,none⟩) n _=>if m=0 then some (x,s) else match s.get b,bQ P e with
  | some (.cells cs t _),some sz =>
   if t=e∧n*sz≤cs.size∧n+m≤1000000000 then some (.slice (some ⟨s.nx,0,none⟩) (n+m) (n+m),(s.set b none).add (.cells (cs.toList.take (n*sz)++news).toArray e (1,1))) else none
  | _,_=>none
 | .slice (some ⟨_,_,some _⟩) 0 0=>if m=0 then none else some (.slice (some ⟨s.nx,0,none⟩) m m,s.add (.cells news.toArray e (1,1)))
 | _=>none
def iK {α:Type}:List α→Nat→Nat
 | [],n=>n
 | _::l,n=>iK l (n+1)
def aY:Bq→Bq→Bool
 | [],[]=>true
 | x::l,y::m=>if x.toNat.beq y.toNat then aY l m else false
 | _,_=>false
def iO(k:IntKind)(r:Int):Int:=match k with
 | .i64|.i32=>if -2000000000≤r∧r≤2000000000 then r else k.wrap r
 | _=>k.wrap r
abbrev TL:=Vq
def TL.at:TL→Operand→Value
 | l,.tmp t=>l.getD t undef
 | _,.const v=>v
 | _,.global g=>.pointer (some ⟨g,0,none⟩)
 | _,.func f=>.func (.func f) #[] #[]
def yN:Vq→Nat→Value→Vq
 | [],_,_=>[]
 | _::l,0,v=>v::l
 | x::l,n+1,v=>x::yN l n v
def TL.put(a:TL)(d:Option Tmp)(v:Value):TL:=match d with
 | some t=>yN a t v
 | none=>a
def Qn (P:Program) (t:TypeId):Bool:=match P.underlying t with
 | some d=>d.isRow
 | none=>false
def bK(ops:Array Oper)(a:TL)(j:Nat):Option Bool:=match ops.toList[j]? with
 | some o=>match o.dst with
  | some d=>match a[d]? with
   | some (.bool b)=>some b
   | _=>none
  | none=>none
 | none=>none
def yV:Operand→Bool
 | .tmp _|.func _=>true
 | .const v=>dW v
 | .global _=>false
def kn(ops:Array Oper):Bool:=ops.toList.all fun o=>o.op.operands.toList.all yV
def jF(l:Vq):Option (Bq):=match l with
 | []=>some []
 | .int .u8 x::r=>if 0≤x∧x<256 then match jF r with
   | some a=>some (x.toNat.toUInt8::a)
   | none=>none
  else none
 | _=>none
def dz:Value→Option Addr→Bool
 | .slice (some ⟨b,_,none⟩) _ _,some ⟨b',_,_⟩=>!b.beq b'
 | _,_=>true
def fI:Value→Bool
 | .slice (some ⟨_,_,some _⟩) _ _=>false
 | _=>true
def eS(P:Program)(kt:TypeId→Bool)(b:Builtin)(args:Vq)(ts:List TypeId)(s:AS):Option (Value × AS):=match b,args,ts with
 | .append,[x,.slice y m _],[t,t']=>if t=t' then match P.underlying t with
   | some (.slice e)=>match (P.info? e).map (fun i=>(i.zero,i.size,i.bytes)) with
    | some (some z,sz,bytes)=>match eh s sz y m with
     | some a=>if z.cells.size=sz∧0<sz∧bytes≤1000∧m≤1000000000∧kt e=false∧dz x y=true∧a.all Value.oneCell'=true then bn P e x a m s else none
     | none=>none
    | _=>none
   | _=>none
  else none
 | .append,[x,.string str],[t,t']=>match P.underlying t,P.underlying t' with
  | some (.slice e),some .string=>match (P.info? e).map (fun i=>(i.zero,i.size,i.bytes)) with
   | some (some (Value.int IntKind.u8 0),1,1)=>if str.size≤1000000000∧kt e=false∧fI x=true then bn P e x (strCells str) str.size s else none
   | _=>none
  | _,_=>none
 | .copy,[.slice (some ⟨b,off,none⟩) n _,.string str],[t,_]=>match P.underlying t,s.get b with
  | some (.slice e),some (.cells cs bt fz)=>if bQ P e=some 1∧str.size=n∧off+n≤cs.size then some (goInt (iK str.data.toList 0),s.set b (some (.cells (putAt cs off (strCells str)) bt fz))) else none
  | _,_=>none
 | .unsafeString,[.pointer (some ⟨b,0,none⟩),.int .i64 n],[pt,_]=>match P.underlying pt,s.get b with
  | some (.pointer e),some (.cells cs t _)=>if P.cellsOf e=1∧t=e∧0<n∧n≤1000000000∧n.toNat≤cs.size then match jF (cs.toList.take n.toNat) with
    | some c=>some (.string ⟨c.toArray⟩,s.set b none)
    | none=>none
   else none
  | _,_=>none
 | _,_,_=>none
def dj(c:BinOp)(x y:Value):Option Value:=match x,y with
 | .int k a,.int k' b=>if k=k' then match c with
   | .add=>some (.int k (iO k (a+b)))
   | .sub=>some (.int k (iO k (a-b)))
   | .eql=>some (.bool (a==b))
   | .neq=>some (.bool (a != b))
   | .lss=>some (.bool (decide (a<b)))
   | .leq=>some (.bool (decide (a≤b)))
   | .gtr=>some (.bool (decide (a>b)))
   | .geq=>some (.bool (decide (a≥b)))
   | _=>none
  else none
 | .string a,.string b=>match c with
  | .eql=>some (.bool (aY a.data.toList b.data.toList))
  | .neq=>some (.bool (!aY a.data.toList b.data.toList))
  | .add=>if iK a.data.toList 0+iK b.data.toList 0≤1000000000 then some (.string ⟨(a.data.toList++b.data.toList).toArray⟩) else none
  | _=>none
 | _,_=>none
def lS(P:Program)(a:BinOp)(t:TypeId)(x y:Value):Option Value:=match x,y,P.underlying t with
 | .pointer (some p),.pointer (some q),some (.pointer e)=>match bQ P e with
  | some (_+1)=>if p.block=q.block then match a with
    | .eql=>some (.bool (p==q))
    | .neq=>some (.bool (!(p==q)))
    | _=>none
   else none
  | _=>none
 | .pointer (some _),.pointer none,some (.pointer _)|.pointer none,.pointer (some _),some (.pointer _)|.slice (some _) _ _,.slice none _ _,some (.slice _)|.slice none _ _,.slice (some _) _ _,some (.slice _)
 | .func _ _ _,.nilFunc,some (.func _ _ _)|.nilFunc,.func _ _ _,some (.func _ _ _)|.map (some (_+1)),.int .i64 0,_=>match a with
  | .eql=>some (.bool false)
  | .neq=>some (.bool true)
  | _=>none
 | _,_,_=>none
def su (P:Program)(a:TL)(o:Oper):Option Value :=
 if o.op.operands.toList.all fun x=>sJ (a.at x) then match QE (fV P (execOp a.at o)) with
  | some v=>if sJ v then some v else none
  | none=>none
 else none
def bH(n c:Nat)(lo a:Option Value):Option (Nat × Nat):=match a with
 | none=>match lo with
  | none=>some (0,n)
  | some (.int _ i)=>if 0≤i∧i≤n then some (i.toNat,n) else none
  | _=>none
 | some (.int _ k)=>if 0≤k∧k≤c then match lo with
   | none=>some (0,k.toNat)
   | some (.int _ i)=>if 0≤i∧i≤k then some (i.toNat,k.toNat) else none
   | _=>none
  else none
 | _=>none
def fP(P:Program)(t:TypeId)(x:Value)(lo a d:Option Value)(s:AS):Option Value:=match P.underlying t,x,d with
 | some (.slice e),.slice (some ⟨b,off,none⟩) n c,none=>match bQ P e,s.get b with
  | some sz,some (.cells _ bt _)=>if bt=e then match bH n c lo a with
    | some (l,h)=>if l<c then some (.slice (some ⟨b,off+l*sz,none⟩) (h-l) (c-l)) else if l=h then some (.slice (some ⟨b,off,some 0⟩) 0 1) else none
    | none=>none
   else none
  | _,_=>none
 | some (.slice e),.slice (some ⟨b,off,none⟩) _ _,some (.int _ 0)=>match bQ P e,lo,a with
  | some _,none,some (.int _ 0)=>some (.slice (some ⟨b,off,some 0⟩) 0 0)
  | _,_,_=>none
 | some .string,.string str,none=>match bH (iK str.data.toList 0) (iK str.data.toList 0) lo a with
  | some (l,h)=>some (.string ⟨((str.data.toList.take h).drop l).toArray⟩)
  | none=>none
 | some (.slice e),.slice none 0 0,none=>match bQ P e,bH 0 0 lo a with
  | some _,some _=>some (.slice none 0 0)
  | _,_=>none
 | _,_,_=>none
def cb(P:Program)(a:TL)(o:Oper):Option Value:=match o.op with
 | .move x|.assign x=>some (a.at x)
 | .pick c x y=>match a.at c with
  | .bool b=>some (if b then a.at x else a.at y)
  | _=>none
 | .build t parts=>if lD P t=false then none else match P.built t (parts.map fun (i,x)=>(i,a.at x)).toList with
  | some c=>some (.agg c)
  | none=>none
 | .nilCheck x=>match a.at x with
  | .pointer (some p)=>some (.pointer (some p))
  | .func (.func f) x y=>some (.func (.func f) x y)
  | _=>none
 | .makeFunc (.func f) first cap=>some (.func (.func f) (first.map a.at) (cap.map a.at))
 | .extract t ix=>match a.at t with
  | .tuple vs=>vs[ix]?
  | _=>none
 | .fieldAddr t x f=>match P.underlying t,a.at x with
  | some (.struct fields),.pointer (some ⟨b,off,none⟩)=>match fields[f]? with
   | some g=>match bQ P g.type with
    | some (_+1)=>some (am b (off+g.offset))
    | _=>none
   | none=>none
  | _,_=>none
 | .indexAddr t x ix=>match P.underlying t,a.at x,a.at ix with
  | some (.slice e),.slice (some ⟨b,off,_⟩) n _,.int _ i=>match bQ P e with
   | some d=>if 0≤i∧i<n then some (am b (off+i.toNat*d)) else none
   | none=>none
  | some (.array n e),.pointer (some ⟨b,off,none⟩),.int _ i=>match bQ P e with
   | some d=>if 0≤i∧i<n then some (am b (off+i.toNat*d)) else none
   | none=>none
  | _,_,_=>none
 | .binOp op t x y _=>match dj op (a.at x) (a.at y) with
  | some v=>some v
  | none=>match lS P op t (a.at x) (a.at y) with
   | some v=>some v
   | none=>su P a o
 | .convert t u x=>match P.underlying t,P.underlying u,a.at x with
  | some _,some (.int k),.int _ n=>some (.int k (iO k n))
  | _,_,_=>su P a o
 | .index t x i=>match P.underlying t,a.at x,a.at i with
  | some .string,.string str,.int _ n=>if 0≤n then match str.data.toList[n.toNat]? with
    | some b=>some (.int .u8 b.toNat)
    | none=>none
   else none
  | _,_,_=>su P a o
 | .call c=>match c.callee,c.args.toList,c.argTypes.toList with
  | .builtin .len,[x],[t]=>match a.at x,P.underlying t with
   | .slice _ n _,some (.slice _)=>some (goInt n)
   | .string str,some .string=>some (goInt (iK str.data.toList 0))
   | _,_=>none
  | .builtin .unsafeSliceData,[x],_=>match a.at x with
   | .slice (some ⟨b,off,none⟩) _ (_+1)=>some (.pointer (some ⟨b,off,none⟩))
   | _=>su P a o
  | .builtin .cap,[x],[t]=>match a.at x,P.underlying t with
   | .slice (some ⟨_,_,none⟩) _ c,some (.slice _)=>some (.map (some c))
   | _,_=>su P a o
  | .builtin .min,_,_|.builtin .max,_,_|.builtin .unsafeString,_,_=>su P a o
  | _,_,_=>none
 | .unOp _ _ _=>su P a o
 | _=>none
def js(P:Program):Operand→Bool
 | .func g=>match P.funcs[g]? with
  | some fn => fn.body.isNone && fn.name == "internal" ++ String.singleton (Char.ofNat 47) ++ "abi.NoEscape"
  | none=>false
 | _=>false
def fv(P:Program)(t u:TypeId)(x:Value)(s:AS):Option Value:=match P.underlying t,P.underlying u,x with
 | some (.pointer e),some .unsafePointer,.pointer (some ⟨b,off,none⟩)=>match s.get b,bQ P e with
  | some (.cells cs _ _),some (_+1)=>if off<cs.size then some x else none
  | _,_=>none
 | some .unsafePointer,some (.pointer e),.pointer (some ⟨b,off,none⟩)=>match s.get b,bQ P e with
  | some (.cells cs bt (0,0)),some (_+1)=>if liesAt P P.depth bt (cs.size / P.cellsOf bt) off e 1=true then some x else none
  | _,_=>none
 | _,_,_=>none
def ss(P:Program)(kt:TypeId→Bool)(a:TL)(o:Oper):Option (Obj × (Nq)):=match o.op with
 | .alloc t=>if lD P t=false∨kt t=true∨bQ P t=none then none else match (P.info? t).map (·.zero) with
  | some (some z)=>some (.cells z.cells t,fun b=>am b 0)
  | _=>none
 | .box t x=>if kt t=true∨bQ P t=none then none else some (.cells (a.at x).cells t,fun b=>am b 0)
 | .buildSlice t len parts=>match P.underlying t with
  | some (.slice e)=>if lD P e=false∨kt e=true∨1000000000<len then none else match sliced P e len (parts.map fun (i,x)=>(i,a.at x)).toList with
   | some c=>some (.cells c e,fun b=>.slice (some ⟨b,0,none⟩) len len)
   | none=>none
  | _=>none
 | .range t x=>match P.underlying t,a.at x with
  | some .string,.string str=>if kt (1000+str.size)=true then none else some (.stringIter str 0,fun b=>am b 0)
  | _,_=>none
 | .makeSlice t x y=>match P.underlying t,a.at x,a.at y with
  | some (.slice e),.int .i64 n,.int .i64 m=>match (P.info? e).map (fun i=>(i.zero,i.size,i.bytes)) with
   | some (some z,sz,bytes)=>if n=m∧0<n∧n≤1000000∧lD P e=true∧kt e=false∧bytes≤1000 then some (.cells (madeCells z.cells (n.toNat*sz)) e,fun b=>.slice (some ⟨b,0,none⟩) n.toNat n.toNat) else none
   | _=>none
  | _,_,_=>none
 | _=>none
def eI:Op→Bool
 | .alloc _|.box _ _|.buildSlice _ _ _|.range _ _|.makeSlice _ _ _=>true
 | _=>false
def bM (P:Program)(kt:TypeId→Bool)(call:FuncId→Aq→AS→Option (Value × AS))(a:TL)(o:Oper)(s:AS):Option (Value × AS) :=
 if eI o.op then match ss P kt a o with
  | some (ob,mk)=>some (mk s.nx,s.add ob)
  | none=>none
 else match o.op with
 | .load t x=>match aC P t (a.at x) s with
  | some v=>some (v,s)
  | none=>none
 | .store t x y=>match iS P t (a.at x) (a.at y) s with
  | some s'=>some (undef,s')
  | none=>none
 | .slice t x lo hi mx=>match fP P t (a.at x) (lo.map a.at) (hi.map a.at) (mx.map a.at) s with
  | some v=>some (v,s)
  | none=>none
 | .next it true=>match a.at it with
  | .pointer (some ⟨b,0,none⟩)=>match s.get b with
   | some (.stringIter str pos) =>
    if pos<str.size then if kt (1000+str.size)=true then none else some (.tuple #[.bool true,goInt pos,.int .i32 (Utf8.decode str pos).1],s.set b (some (.stringIter str (pos+(Utf8.decode str pos).2))))
    else some (.tuple #[.bool false],s)
   | _=>none
  | _=>none
 | .call c=>match c.callee with
  | .value f=>if js P f=true then match c.args.toList with
    | [x]=>some (a.at x,s)
    | _=>none
   else match a.at f with
   | .func (.func g) first cap=>call g (first++c.args.map a.at++cap) s
   | _=>none
  | .builtin b=>match cb P a o with
   | some v=>some (v,s)
   | none=>eS P kt b (c.args.toList.map a.at) c.argTypes.toList s
  | _=>none
 | .convert t u x=>match cb P a o with
  | some v=>some (v,s)
  | none=>match fv P t u (a.at x) s with
   | some v=>some (v,s)
   | none=>none
 | _=>match cb P a o with
  | some v=>some (v,s)
  | none=>none
def cW(P:Program)(kt:TypeId→Bool)(call:FuncId→Aq→AS→Option (Value × AS))(ops:Array Oper):List Oper→TL→AS→Option (TL × AS)
 | [],a,s=>some (a,s)
 | o::rest,a,s =>
  if Region.wanted o (bK ops a) then
   match bM P kt call a o s with
   | some (v,s')=>cW P kt call ops rest (a.put o.dst v) s'
   | none=>none
  else cW P kt call ops rest (a.put o.dst undef) s
def wA(P:Program)(kt:TypeId→Bool)(call:FuncId→Aq→AS→Option (Value × AS))(ops:Array Oper)(a:TL)(s:AS):Option (TL × AS):=cW P kt call ops ops.toList a s
def oM (P:Program)(kt:TypeId→Bool)(call:FuncId→Aq→AS→Option (Value × AS))(ops:Array Oper):List Oper→TL→AS→Option (List (TL × Value × AS))
 | [],_,_=>some []
 | o::rest,a,s =>
  if Region.wanted o (bK ops a) then
   match bM P kt call a o s with
   | some (v,s')=>match oM P kt call ops rest (a.put o.dst v) s' with
    | some tr=>some ((a,v,s')::tr)
    | none=>none
   | none=>none
  else match oM P kt call ops rest (a.put o.dst undef) s with
   | some tr=>some ((a,undef,s)::tr)
   | none=>none
def kindOf(P:Program)(o:Oper):Nat :=
 if eI o.op then 2 else match o.op with
  | .load _ _=>1
  | .store _ _ _|.next _ _=>3
  | .slice t _ _ _ _=>match P.underlying t with
   | some .string=>0
   | _=>3
  | .convert t u _=>match P.underlying t,P.underlying u with
   | some .unsafePointer,_|_,some .unsafePointer=>3
   | _,_=>0
  | .call c=>match c.callee with
   | .builtin .len|.builtin .min|.builtin .max|.builtin .cap|.builtin .unsafeSliceData=>0
   | _=>3
  | _=>0
def yd(a:List Nat)(o:Oper):Nat:=o.after.toList.foldl (fun m e=>if Region.binds .any e then m ||| (1 <<< e.on ||| a.getD e.on 0) else m) 0
def e7:List Oper→List Nat→List Nat
 | [],acc=>acc
 | o::rest,acc=>e7 rest (acc++[yd acc o])
def m9:Nat→Value→Value→Bool
 | 0,_,_=>false
 | n+1,x,y=>match x,y with
  | .bool a,.bool b=>a==b
  | .int k a,.int k' b=>k==k'&&a==b
  | .string a,.string b=>aY a.data.toList b.data.toList
  | .pointer a,.pointer b=>a==b
  | .slice a n c,.slice a' n' c'=>a==a'&&n.beq n'&&c.beq c'
  | .func f x y,.func f' x' y'=>f==f'&&x.toList.length.beq x'.toList.length&&y.toList.length.beq y'.toList.length&&(x.toList.zip x'.toList).all (fun p=>m9 n p.1 p.2)&&(y.toList.zip y'.toList).all (fun p=>m9 n p.1 p.2)
  | .agg x,.agg x'=>x.toList.length.beq x'.toList.length&&(x.toList.zip x'.toList).all (fun p=>m9 n p.1 p.2)
  | .nilFunc,.nilFunc=>true
  | .nilIface,.nilIface=>true
  | _,_=>false
def tmpsOf(o:Oper):List Nat:=o.op.operands.toList.filterMap fun x=>match x with
 | .tmp t=>some t
 | _=>none
def A4(P:Program)(ops:List Oper)(a:List Nat)(q:Nat):Bool :=
 let n:=ops.length
 let has:=fun i j=>(a.getD i 0).testBit j
 let ks:=ops.map (kindOf P)
 (List.range n).all (fun i=>decide (i<q)||(List.range i).all (has i)) &&
 (List.range q).all (fun i=>match ops[i]? with
  | some o=>(tmpsOf o).all (fun t=>(List.range q).all fun j=>((ops[j]?).bind (·.dst) != some t)||has i j) &&
   (match o.guard with|some (j,_)=>has i j&&decide (j<q)|none=>true) &&
   (List.range q).all (fun j=>(i==j)||o.dst==none||(ops[j]?).bind (·.dst) != o.dst)
  | none=>false) &&
 (List.range q).all (fun i=>(ks.getD i 0 != 3)||(List.range i).all fun j=>(ks.getD j 0).blt 2||has i j)
def iC(wo:List Nat):Nat→Nat
 | 0=>0
 | n+1=>if (List.range n).all (fun j=>(wo.getD n 0).testBit j) then iC wo n else n+1
def gT(tr:List (TL × Value × AS))(s:AS)(m:Nat):AS:=match m with
 | 0=>s
 | m+1=>match tr[m]? with
  | some (_,_,s')=>s'
  | none=>s
def pd(P:Program)(ops:Array Oper)(b:List Nat)(q:Nat)(tr:List (TL × Value × AS))(s:AS):Bool :=
 let has:=fun i j=>(b.getD i 0).testBit j
 let es:=(List.range q).filter fun i=>(match ops.toList[i]? with|some o=>kindOf P o|none=>0)==3
 (List.range q).all fun r=>match ops.toList[r]?,tr[r]? with
  | some o,some (a,v,_)=>match o.op with
   | .load t x=>(0::es.map (·+1)).all fun p =>
    (es.any fun e=>(e.blt p&&has e r)||(!e.blt p&&has r e)) ||
    (match aC P t (a.at x) (gT tr s p) with
     | some c=>m9 20 c v
     | none=>false)||!(Region.wanted o (bK ops a))
   | _=>true
  | _,_=>false
def jQ(P:Program)(kt:TypeId→Bool)(call:FuncId→Aq→AS→Option (Value × AS))(ops:Array Oper)(a:TL)(s:AS):Option (TL × AS) :=
 let wo:=e7 ops.toList []
 let q:=iC wo ops.toList.length
 if fO ops=false∨A4 P ops.toList wo q=false then none else
 match oM P kt call ops ops.toList a s with
 | some b=>if pd P ops wo q b s=false then none else match b.reverse,ops.toList.reverse with
  | (a',v,s')::_,o::_=>some (a'.put o.dst v,s')
  | _,_=>none
 | none=>none
def lX(P:Program)(tmps:TL)(s:AS):ResultVar→Option Value
 | .tmp t=>some (tmps.getD t undef)
 | .cell t ty=>aC P ty (tmps.getD t undef) s
def du(P:Program)(fn:Func)(tmps:TL)(s:AS):Option Value :=
 match fn.results.toList with
 | [r]=>lX P tmps s r
 | rs=>match rs.mapM (lX P tmps s) with
  | some vs=>some (.tuple vs.toArray)
  | none=>none
abbrev Prim:=FuncId→Option (Aq→AS→Option (Value × AS))
def eW (P:Program)(kt:TypeId→Bool)(pr:Prim):Nat→Code→TL→AS→Option (Exit × TL × AS)
 | 0,_,_,_=>none
 | n+1,c,a,s=>match c with
  | .skip=>some (.normal,a,s)
  | .ret=>some (.ret,a,s)
  | .exit id=>some (.exit id,a,s)
  | .label _=>some (.normal,a,s)
  | .seq x y=>match eW P kt pr n x a s with
   | some (.normal,a',s')=>eW P kt pr n y a' s'
   | r=>r
  | .cond x y z=>match a.at x with
   | .bool true=>eW P kt pr n y a s
   | .bool false=>eW P kt pr n z a s
   | _=>none
  | .block id x=>match eW P kt pr n x a s with
   | some (.exit k,a',s')=>if k=id then some (.normal,a',s') else some (.exit k,a',s')
   | r=>r
  | .loop x=>match eW P kt pr n x a s with
   | some (.normal,a',s')=>eW P kt pr n (.loop x) a' s'
   | r=>r
  | .scope x=>eW P kt pr n x a s
  | .region _ ops draw=>if kn ops=false then none else
   match (if draw then jQ P kt else wA P kt) (fun f args s=>match pr f with
    | some g=>g args s
    | none=>match P.funcs[f]? with
     | some fn=>match fn.body with
      | some b=>match eW P kt pr n b (args.toList++List.replicate (fn.ntmps-args.toList.length) undef) s with
       | some (e,a',s')=>match e with
        | .normal|.ret=>(du P fn a' s').map (·,s')
        | _=>none
       | none=>none
      | none=>none
     | none=>none) ops a s with
   | some (a',s')=>some (.normal,a',s')
   | none=>none
  | _=>none
def bG(P:Program)(kt:TypeId→Bool)(pr:Prim)(n:Nat)(f:FuncId)(args:Aq)(s:AS):Option (Value × AS) :=
 match pr f with
 | some g=>g args s
 | none=>match P.funcs[f]? with
  | some fn=>match fn.body with
   | some b=>match eW P kt pr n b (args.toList++List.replicate (fn.ntmps-args.toList.length) undef) s with
    | some (e,a',s')=>match e with
     | .normal|.ret=>(du P fn a' s').map (·,s')
     | _=>none
    | none=>none
   | none=>none
  | none=>none
def mP(d:α):∀(n:Nat) (l:List α) (x:α) (m:Nat),(mi d n l x).getD m d=if m=n then x else l.getD m d
 | 0,l,x,0=>by simp[mi]
 | 0,l,x,m+1=>by cases l<;>simp[mi]
 | n+1,l,x,0=>by cases l<;>simp[mi]
 | n+1,l,x,m+1=>by have:=mP d n l.tail x m;cases l<;>simp_all [mi]
def AS.aH(s:AS)(b b':Nat)(o:Option Obj):(s.set b o).get b'=if b'=b then o else s.get b':=by
 unfold AS.get AS.set;rw[mP];by_cases h:b' / 16=b / 16
 ·rw[ip h,mP];by_cases h2:b' % 16=b % 16
  ·have:b'=b:=oq
   simp[this]
  ·have:b'≠b:=fun e=>h2 (by rw[e]);simp[h2,this,h]
 ·have:b'≠b:=fun e=>h (by rw[e]);simp[h,this]
def AS.aG(s:AS)(b':Nat)(o:Obj):(s.add o).get b'=if b'=s.nx then some o else s.get b':=by have:(s.add o).get b'=(s.set s.nx (some o)).get b':=rfl;rw[this,AS.aH]
@[simp] theorem AS.Ha (s:AS) (b:Nat) (o:Option Obj):(s.set b o).nx=s.nx:=rfl
@[simp] theorem AS.Nh (s:AS) (o:Obj):(s.add o).nx=s.nx+1:=rfl
abbrev bJ:=Nat→Option (Nat × Nat × Nat)
def bJ.le(S S':bJ):Prop:=∀b x,S b=some x→S' b=some x
def bJ.le_refl(S:bJ):S.le S:=fun _ _ h=>h
def bJ.le_trans{S S' U:bJ}(h:S.le S')(a:S'.le U):S.le U:=fun b x e=>a b x (h b x e)
def AR (R:Value→Value→Prop)(a b:Aq):Prop:=a.size=b.size∧∀(i:Nat) (x y:Value),a[i]?=some x→b[i]?=some y→R x y
def VD (S:bJ):Nat→Value→Value→Prop
 | 0,_,_=>False
 | d+1,x,v=>match x with
  | .pointer (some ⟨b,off,none⟩)=>∃g z e,S b=some (g,z,e)∧v=.pointer (some ⟨g,off,none⟩)
  | .slice (some ⟨b,off,none⟩) n c=>∃g z e c',S b=some (g,z,e)∧v=.slice (some ⟨g,off,none⟩) n c'∧n≤c∧c≤c'∧c'≤maxLen∧off+c'*e=z
  | .slice (some ⟨b,_,some _⟩) n c=>∃g z e o' c',S b=some (g,z,e)∧v=.slice (some ⟨g,o',none⟩) 0 c'∧n=0∧(c=0→c'=0)∧c'≤maxLen
  | .map (some k)=>∃m:Nat,v=goInt m∧k≤m
  | .func f x y=>∃x' y',v=.func f x' y'∧AR (VD S d) x x'∧AR (VD S d) y y'
  | .agg x=>∃x',v=.agg x'∧AR (VD S d) x x'
  | .tuple x=>∃x',v=.tuple x'∧AR (VD S d) x x'
  | x=>dW x=true∧v=x
def VR (S:bJ)(x v:Value):Prop:=∃d,VD S d x v
def AR.imp{R U:Value→Value→Prop}{b:Aq}(h:AR R a b)(i:∀x y,R x y→U x y):AR U a b:=⟨h.1,fun k x y c d=>i x y (h.2 k x y c d)⟩
def VD.imp{S S':bJ}(U:S.le S'):∀{d d':Nat} {x v:Value},VD S d x v→d≤d'→VD S' d' x v
 | 0,_,_,_,h,_=>h.elim
 | d+1,0,_,_,_,h=>absurd h oq
 | d+1,d'+1,x,v,h,hd=>by
  have ih:∀x y,VD S d x y→VD S' d' x y:=fun x y h=>VD.imp U h oq;unfold VD at h ⊢;split at h
  ·have⟨g,z,e,h1,h2⟩:=h;exact⟨g,z,e,U _ _ h1,h2⟩
  ·have⟨g,z,e,c,h1,h2⟩:=h;exact⟨g,z,e,c,U _ _ h1,h2⟩
  ·have⟨g,z,e,f,b,h1,h2⟩:=h;exact⟨g,z,e,f,b,U _ _ h1,h2⟩
  ·exact h
  ·have⟨a,i,h1,h2,h3⟩:=h;exact⟨a,i,h1,h2.imp ih,h3.imp ih⟩
  iterate 2
   ·have⟨a,h1,h2⟩:=h;exact⟨a,h1,h2.imp ih⟩
  ·exact h
def VR.mono{S S':bJ}{v:Value}(h:VR S x v)(U:S.le S'):VR S' x v:=h.elim fun d h=>⟨d,h.imp U (Nat.le_refl d)⟩
def AR.mono{S S':bJ}{b:Aq}(h:AR (VR S) a b)(U:S.le S'):AR (VR S') a b:=h.imp fun _ _ h=>h.mono U
section
variable {S:bJ}{x v:Value}
def VR.sc(U:dW x=true)(h:VR S x v):v=x:=by
 have⟨d,h⟩:=h;cases d with
 | zero=>exact h.elim
 | succ d =>unfold VD at h;split at h<;>first|exact h.2|(simp[dW] at U)
def VR.fl(U:sJ x=true)(h:VR S x v):v=x:=by
 unfold sJ at U;split at U
 ·next a =>
  have⟨d,h⟩:=h;match d,h with
  | 0,h=>exact h.elim
  | d+1,h =>
   unfold VD at h;obtain⟨c,rfl,h1,h2⟩:=h;congr 1;apply Array.ext_getElem?;intro i;by_cases f:i<a.size
   ·have e1:a[i]?=some a[i]:=gF f;have b:c[i]?=some (c[i]'oq):=gF oq;have e:dW a[i]=true:=aT.1 U _ iq;rw[e1,b,VR.sc e ⟨d,h2 i _ _ e1 b⟩]
   ·rw[Array.getElem?_eq_none oq,Array.getElem?_eq_none oq]
 ·exact VR.sc U h
def VR.dE(U:dW x=true):VR S x x:=by refine⟨1,?_⟩;unfold VD;split<;>first|exact⟨U,rfl⟩|(simp[dW] at U)
def VR.mp{p:Option Nat}(h:VR S (.map p) v):∃k m:Nat,p=some k∧v=goInt m∧k≤m:=by
 have⟨d,h⟩:=h;cases d with
 | zero=>exact h.elim
 | succ d=>cases p with
  | none=>exact absurd h.1 (by simp[dW])
  | some k=>obtain⟨m,h1,h2⟩:=h;exact⟨k,m,rfl,h1,h2⟩
def VR.ptr(h:VR S (.pointer (some ⟨b,off,none⟩)) v):∃g z e,S b=some (g,z,e)∧v=.pointer (some ⟨g,off,none⟩):=by
 have⟨d,h⟩:=h;cases d with
 | zero=>exact h.elim
 | succ d=>exact h
def VR.gw(h:S b=some (g,z,e)):VR S (.pointer (some ⟨b,off,none⟩)) (.pointer (some ⟨g,off,none⟩)):=⟨1,g,z,e,h,rfl⟩
def VR.iF{p:Addr}(h:VR S (.pointer (some p)) v):p.spot=none:=by
 have⟨d,h⟩:=h;have⟨b,a,sp⟩:=p;cases sp with
 | none=>rfl
 | some q=>cases d with
  | zero=>exact h.elim
  | succ d=>exact absurd h.1 (by simp[dW])
def VR.sl(h:VR S (.slice (some ⟨b,off,none⟩) n c) v):∃g z e a,S b=some (g,z,e)∧v=.slice (some ⟨g,off,none⟩) n a∧n≤c∧c≤a∧a≤maxLen∧off+a*e=z:=by
 have⟨d,h⟩:=h;cases d with
 | zero=>exact h.elim
 | succ d=>exact h
def VR.yU(h:S b=some (g,z,e))(h1:n≤c)(h2:c≤c')(h3:c'≤maxLen)(U:off+c'*e=z):VR S (.slice (some ⟨b,off,none⟩) n c) (.slice (some ⟨g,off,none⟩) n c'):=⟨1,g,z,e,c',h,rfl,h1,h2,h3,U⟩
def VR.jX{ad:Addr}(h:VR S (.slice (some ad) n c) v):∃g z e f a,S ad.block=some (g,z,e)∧v=.slice (some ⟨g,f,none⟩) n a∧n≤a∧a≤maxLen∧(n=0∨f=ad.off):=by
 have⟨d,h⟩:=h;have⟨b,i,sp⟩:=ad;cases d with
 | zero=>exact h.elim
 | succ d =>
  cases sp with
  | none=>obtain⟨g,z,e,a,h1,h2,h3,j,U,_⟩:=h;exact⟨g,z,e,i,a,h1,h2,oq,U,.inr rfl⟩
  | some q=>obtain⟨g,z,e,f,a,h1,h2,h3,j,U⟩:=h;subst h3;exact⟨g,z,e,f,a,h1,h2,oq,U,.inl rfl⟩
def VR.KQ{q}(h:VR S (.slice (some ⟨b,off,some q⟩) n c) v):∃g z e f a,S b=some (g,z,e)∧v=.slice (some ⟨g,f,none⟩) 0 a∧n=0∧(c=0→a=0)∧a≤maxLen:=by
 have⟨d,h⟩:=h;cases d with
 | zero=>exact h.elim
 | succ d=>exact h
def VR.Cu{o':Nat}{q}(h:S b=some (g,z,e))(h1:c=0→c'=0)(h2:c'≤maxLen):VR S (.slice (some ⟨b,off,some q⟩) 0 c) (.slice (some ⟨g,o',none⟩) 0 c'):=⟨1,g,z,e,o',c',h,rfl,rfl,h1,h2⟩
def VR.fn(h:VR S (.func f p q) v):∃a b,v=.func f a b∧AR (VR S) p a∧AR (VR S) q b:=by
 have⟨d,h⟩:=h;cases d with
 | zero=>exact h.elim
 | succ d=>obtain⟨a,b,h1,h2,h3⟩:=h;exact⟨a,b,h1,h2.imp fun _ _ h=>⟨d,h⟩,h3.imp fun _ _ h=>⟨d,h⟩⟩
def VR.ag(h:VR S (.agg p) v):∃a,v=.agg a∧AR (VR S) p a:=by
 have⟨d,h⟩:=h;cases d with
 | zero=>exact h.elim
 | succ d=>obtain⟨a,h1,h2⟩:=h;exact⟨a,h1,h2.imp fun _ _ h=>⟨d,h⟩⟩
def VR.tu(h:VR S (.tuple p) v):∃a,v=.tuple a∧AR (VR S) p a:=by
 have⟨d,h⟩:=h;cases d with
 | zero=>exact h.elim
 | succ d=>obtain⟨a,h1,h2⟩:=h;exact⟨a,h1,h2.imp fun _ _ h=>⟨d,h⟩⟩
def qP:∀(a b:Vq),(∀(i:Nat) (x y:Value),a[i]?=some x→b[i]?=some y→VR S x y)→∃d,∀(i:Nat) (x y:Value),a[i]?=some x→b[i]?=some y→VD S d x y
 | [],b,_=>⟨0,fun i x y h=>by simp at h⟩
 | x::a,[],_=>⟨0,fun i x y _ h=>by simp at h⟩
 | x::a,y::b,h=>by
  have⟨d,hd⟩:=qP a b fun i x y U c=>h (i+1) x y (by simpa using U) (by simpa using c);have⟨f,e⟩:=h 0 x y rfl rfl;refine⟨max d f,fun i g j U c=>?_⟩;cases i with
  | zero=>simp at U c;subst U c;exact e.imp (bJ.le_refl S) (Nat.le_max_right _ _)
  | succ i=>exact(hd i g j (by simpa using U) (by simpa using c)).imp (bJ.le_refl S) (Nat.le_max_left _ _)
def AR.we{b:Aq}(h:AR (VR S) a b):∃d,AR (VD S d) a b:=by have⟨d,f⟩:=qP (S:=S) a.toList b.toList fun i x y c e=>h.2 i x y (by simpa using c) (by simpa using e);exact⟨d,h.1,fun i x y c e=>f i x y (by simpa using c) (by simpa using e)⟩
def VR.yS(h:AR (VR S) p p'):VR S (.agg p) (.agg p'):=by have⟨d,a⟩:=h.we;exact⟨d+1,p',rfl,a⟩
def VR.sY(h:AR (VR S) p p'):VR S (.tuple p) (.tuple p'):=by have⟨d,a⟩:=h.we;exact⟨d+1,p',rfl,a⟩
def VR.yT(h:AR (VR S) p p')(U:AR (VR S) q q'):VR S (.func f p q) (.func f p' q'):=by have⟨d,c⟩:=h.we;have⟨b,a⟩:=U.we;exact⟨max d b+1,p',q',rfl,c.imp fun _ _ h=>h.imp (bJ.le_refl S) (Nat.le_max_left _ _),a.imp fun _ _ h=>h.imp (bJ.le_refl S) (Nat.le_max_right _ _)⟩
def AR.nil:AR (VR S) #[] #[]:=⟨rfl,fun i x y h=>by simp at h⟩
def AR.one(h:VR S x v):AR (VR S) #[x] #[v]:=⟨rfl,fun i b c U a=>by
 cases i with
 | zero=>simp at U a;subst U a;exact h
 | succ i=>simp at U⟩
def AR.append{b:Aq}(h:AR (VR S) a b)(d:AR (VR S) a' b'):AR (VR S) (a++a') (b++b'):=by
 refine⟨by simp[h.1,d.1],fun i x y c U=>?_⟩;rw[Array.getElem?_append] at c U;rw[← h.1] at U;split at c
 ·rw[ip (by assumption)] at U;exact h.2 i x y c U
 ·rw[iw (by assumption)] at U;exact d.2 _ x y c U
def AR.replicate(n:Nat)(d:VR S x v):AR (VR S) (Array.replicate n x) (Array.replicate n v):=by refine⟨iq,fun i a b U c=>?_⟩;simp[Array.getElem?_replicate] at U c;rw[← U.2,← c.2];exact d
def VR.undef:VR S undef undef:=VR.sY AR.nil
def VR.cells(h:VR S x v):AR (VR S) x.cells v.cells:=by
 cases x with
 | agg p=>obtain⟨a,rfl,U⟩:=h.ag;exact U
 | tuple p=>obtain⟨a,rfl,U⟩:=h.tu;exact AR.one (VR.sY U)
 | map p=>obtain⟨k,m,rfl,rfl,U⟩:=h.mp;exact AR.one h
 | func f p q=>obtain⟨a,o,rfl,h1,h2⟩:=h.fn;exact AR.one (VR.yT h1 h2)
 | pointer p =>
  cases p with
  | none=>rw[h.sc rfl];exact AR.one (VR.dE rfl)
  | some p =>
   have⟨b,i,sp⟩:=p
   have:=h.iF;simp at this;subst this;obtain⟨g,z,e,h1,rfl⟩:=h.ptr;exact AR.one (VR.gw h1)
 | slice p n c =>
  cases p with
  | none=>rw[h.sc rfl];exact AR.one (VR.dE rfl)
  | some p =>obtain⟨g,z,e,l,j,h1,rfl,h2⟩:=h.jX;exact AR.one h
 | bool b=>rw[h.sc rfl];exact AR.one (VR.dE rfl)
 | int k n=>rw[h.sc rfl];exact AR.one (VR.dE rfl)
 | string s=>rw[h.sc rfl];exact AR.one (VR.dE rfl)
 | nilFunc=>rw[h.sc rfl];exact AR.one (VR.dE rfl)
 | nilIface=>rw[h.sc rfl];exact AR.one (VR.dE rfl)
 | _=>obtain⟨d,h⟩:=h;cases d with
  | zero=>exact h.elim
  | succ d=>exact absurd h.1 (by simp[dW])
def VR.Cw(h:VR S x v):v.oneCell'=x.oneCell':=by
 cases x with
 | agg p=>obtain⟨a,rfl,U⟩:=h.ag;rfl
 | tuple p=>obtain⟨a,rfl,U⟩:=h.tu;rfl
 | map p=>obtain⟨k,m,rfl,rfl,U⟩:=h.mp;rfl
 | func f p q=>obtain⟨a,o,rfl,h1,h2⟩:=h.fn;rfl
 | pointer p =>
  cases p with
  | none=>rw[h.sc rfl]
  | some p =>
   have⟨b,i,sp⟩:=p
   have:=h.iF;simp at this;subst this;obtain⟨g,z,e,h1,rfl⟩:=h.ptr;rfl
 | slice p n c =>
  cases p with
  | none=>rw[h.sc rfl]
  | some p=>obtain⟨g,z,e,l,j,h1,rfl,h2⟩:=h.jX;rfl
 | bool b=>rw[h.sc rfl]
 | int k n=>rw[h.sc rfl]
 | string s=>rw[h.sc rfl]
 | nilFunc=>rw[h.sc rfl]
 | nilIface=>rw[h.sc rfl]
 | _=>obtain⟨d,h⟩:=h;cases d with
  | zero=>exact h.elim
  | succ d=>exact absurd h.1 (by simp[dW])
end
def OR (S:bJ)(z:Nat):Obj→Obj→Prop
 | .cells cs t fz,o'=>∃lE,o'=.cells lE t∧lE.size=z∧(cs.size≤z∧(fz=(0,0)→cs.size=z))∧∀(i:Nat) (x y:Value),cs[i]?=some x→lE[i]?=some y→VR S x y
 | .stringIter s p,o'=>o'=.stringIter s p
 | .chan t cs _ f1 f2 _,o'=>o'=.cells cs t (f1,f2)
 | _,_=>False
def OR.mono{S S':bJ}(b:S.le S')(h:OR S z o o'):OR S' z o o':=by
 unfold OR at h ⊢;split at h
 ·have⟨a,h1,h2,h3,U⟩:=h;exact⟨a,h1,h2,h3,fun i x y c d=>(U i x y c d).mono b⟩
 ·exact h
 ·exact h
 ·exact h.elim
structure eK(P:Program)(KT:TypeId→Prop)(An:bJ)(S:bJ)(s:AS)(l:Hq):Prop where
 live:∀b o,s.get b=some o→∃g z e o',S b=some (g,z,e)∧(g,o')∈l∧OR S z o o'∧∀cs t fz,o=.cells cs t fz→bQ P t=some e∧¬KT t
 inj:∀b b' o o' x x',s.get b=some o→s.get b'=some o'→S b=some x→S b'=some x'→x.1=x'.1→b=b'
 lt:∀b o,s.get b=some o→b<s.nx
 an:An.le S
section
variable {P:Program}{KT:TypeId→Prop}{An:bJ}{S S':bJ}{s:AS}{l:Hq}
def bJ.put(S:bJ)(b:Nat)(x:Nat × Nat × Nat):bJ:=fun k=>if k=b then some x else S k
def bJ.jT{x:Nat × Nat × Nat}(h:S b=none):S.le (S.put b x):=fun k y U=>by unfold bJ.put;rw[iw (by rintro rfl;rw[h] at U;cases U)];exact U
def bJ.iG{x:Nat × Nat × Nat}:S.put b x b=some x:=by simp[bJ.put]
def eK.grown(h:eK P KT An S s l)(i:S s.nx=none)(k:∀o,(g,o)∉l)(q:OR (S.put s.nx (g,z,e)) z o o')(r:∀m t n,o=.cells m t n→bQ P t=some e∧¬KT t):eK P KT An (S.put s.nx (g,z,e)) (s.add o) ((g,o')::l) where
 live b ob hb:=by
  rw[AS.aG] at hb
  split at hb
  ·
   next a =>
   subst a
   cases hb
   exact⟨g,z,e,o',bJ.iG,List.mem_cons_self ..,q,r⟩
  ·
   have⟨f,j,a,c,h1,h2,h3,p⟩:=h.live b ob hb
   exact⟨f,j,a,c,bJ.jT i _ _ h1,List.mem_cons_of_mem _ h2,h3.mono (bJ.jT i),p⟩
 inj b b' o1 o2 x x' hb pV hx U he:=by
  rw[AS.aG] at hb pV
  unfold bJ.put at hx U
  split at hb<;>split at pV
  ·
   omega
  ·
   next e1 d =>
   rw[ip e1] at hx
   rw[iw d] at U
   cases hx
   have⟨f,j,a,c,h1,h2,_⟩:=h.live b' o2 pV
   rw[h1] at U
   cases U
   simp at he
   subst he
   exact absurd h2 (k _)
  ·
   next e1 d =>
   rw[iw e1] at hx
   rw[ip d] at U
   cases U
   have⟨f,j,a,c,h1,h2,_⟩:=h.live b o1 hb
   rw[h1] at hx
   cases hx
   simp at he
   subst he
   exact absurd h2 (k _)
  ·
   next e1 d =>
   rw[iw e1] at hx
   rw[iw d] at U
   exact h.inj b b' o1 o2 x x' hb pV hx U he
 lt b ob hb:=by
  rw[AS.aG] at hb
  split at hb
  ·
   next a=>simp[a]
  ·
   have:=h.lt b ob hb;simp;omega
 an:=bJ.le_trans h.an (bJ.jT i)
end
section
variable {α β:Type}{P:Program}
@[simp] theorem lY (x:α):fV P (Pure.pure x:Sem α)=some x:=rfl
@[simp] theorem N5 (x:α):fV P (.pure x:Sem α)=some x:=rfl
def uP(t:Sem α)(k:α→Sem β):fV P (t.bind k)=(fV P t).bind fun a=>fV P (k a):=by
 induction t with
 | pure a=>rfl
 | program f U=>simp only[Sem.bind,fV];exact U P
 | _=>rfl
@[simp] theorem dk (t:Sem α) (k:α→Sem β):fV P (t >>= k)=(fV P t).bind fun a=>fV P (k a):=uP t k
@[simp] theorem Q1 (f:α→β) (t:Sem α):fV P (Functor.map f t)=(fV P t).map f:=by show fV P (t.bind (Sem.pure ∘ f))=_;rw[uP];cases fV P t<;>rfl
def mN{t:Sem α}{x:α}(h:fV P t=some x)(w:World)(es:Array Event):t.run P w=.ok x w∧t.events P w es=es:=by
 induction t with
 | pure a=>simp[fV] at h;subst h;exact⟨rfl,rfl⟩
 | program f ih=>exact ih P h
 | _=>simp[fV] at h
@[simp] theorem dM (t:TypeId):fV P (underlying t)=P.underlying t:=by unfold underlying program;simp only[dk,fV];simp;cases P.underlying t<;>rfl
@[simp] theorem oL (t:TypeId):fV P (typeInfo t)=P.info? t:=by unfold typeInfo program;simp only[dk,fV];simp;cases P.info? t<;>rfl
@[simp] theorem nR (t:TypeId):fV P (sizeOf t)=bQ P t:=by unfold sizeOf bQ;simp only[dk,oL];cases P.info? t<;>rfl
@[simp] theorem N6 (U:String):fV P (stuck U:Sem α)=none:=rfl
@[simp] theorem Fe (u:Unsupported):fV P (unsupported u:Sem α)=none:=rfl
end
def zN(k:IntKind)(r:Int):iO k r=k.wrap r:=by
 unfold iO;split;iterate 2
  ·split
   ·next h=>simp only[IntKind.wrap,IntKind.bits,IntKind.signed];simp;omega
   ·rfl
 ·rfl
def vS:∀l m:Bq,aY l m=(l==m)
 | [],[]=>rfl
 | [],_::_=>rfl
 | _::_,[]=>rfl
 | x::l,y::m=>by
  have h:x.toNat.beq y.toNat=(x==y):=by rw[Bool.eq_iff_iff];simp only[Nat.beq_eq,beq_iff_eq];exact⟨fun h=>UInt8.toNat_inj.1 h,fun h=>by rw[h]⟩
  simp only[aY,h,vS l m];show _=(x==y&&l==m);cases x==y<;>rfl
def iT:∀(l:List α) (n:Nat),iK l n=n+l.length
 | [],n=>rfl
 | _::l,n=>by simp only[iK,iT l,lC];omega
def vV(x:ByteArray):x.toList=x.data.toList:=by exact ByteArray.toList_eq x
def nM{a b:ByteArray}(h:a.data.toList=b.data.toList):a=b:=by obtain⟨⟨l⟩⟩:=a;obtain⟨⟨m⟩⟩:=b;simp at h;subst h;rfl
section
variable {P:Program}{S:bJ}{aA:TL}{a:Act}{o:Oper}{v:Value}
def yu(t:TypeId)(h:dj op x y=some v):dW v=true∧dW x=true∧dW y=true∧fV P (binOp op t x y)=some v∧∀X Y,fV P (eqGuard op t X Y x y)=some ():=by
 unfold dj at h;split at h
 ·split at h
  ·next e =>
   subst e;refine⟨?_,rfl,rfl,?_,fun X Y=>by cases op<;>rfl⟩
   ·split at h<;>first|(cases h;rfl)|cases h
   ·split at h<;>first|(cases h;simp[binOp,Op.intArith,Op.intCmp,zN])|cases h
  ·cases h
 ·refine⟨?_,rfl,rfl,?_,fun X Y=>by cases op<;>rfl⟩
  ·split at h;iterate 2
    ·cases h;rfl
   ·split at h
    ·cases h;rfl
    ·cases h
   ·cases h
  ·split at h;iterate 2
    ·cases h;simp[binOp,Op.stringOp,vS,vV]
   ·split at h
    ·next a b _ U =>
     cases h;simp only[iT,Nat.zero_add] at U;have h1:a.size=a.data.toList.length:=by rw[Array.length_toList];rfl
     have h2:b.size=b.data.toList.length:=by rw[Array.length_toList];rfl
     have c:¬(((a.size+b.size:Nat):Int)>IntKind.i64.max):=by rw[h1,h2];simp[IntKind.max,IntKind.bits,IntKind.signed];omega
     have e:(⟨(a.data.toList++b.data.toList).toArray⟩:ByteArray)=a++b:=by apply nM;simp
     rw[e];simp only[binOp,Op.stringOp];rw[iw c];rfl
    ·cases h
   ·cases h
 ·cases h
def eB (S:bJ)(aA:TL)(a:Act)(o:Oper):Prop:=∀x∈o.op.operands,VR S (aA.at x) (a.eval x)
def VR.P0(U:sJ x=true):VR S x x:=by
 unfold sJ at U;split at U
 ·exact VR.yS ⟨rfl,fun i u v a b=>by rw[a] at b;cases b;rw[aT] at U;exact VR.dE (U u (by rw[Array.mem_toList_iff];exact Array.mem_of_getElem? a))⟩
 ·exact VR.dE U
def e9(f:eB S aA a o)(g:(∀x∈o.op.operands,a.eval x=aA.at x)→execOp a.eval o=execOp aA.at o)(h:su P aA o=some v):VR S v v∧fV P (execOp a.eval o)=some (.value v):=by
 unfold su at h;split at h
 ·next b =>
  split at h
  ·next j U =>
   split at h
   ·next d =>
    cases h;refine⟨VR.P0 d,?_⟩;have i:∀x∈o.op.operands,a.eval x=aA.at x:=fun x c=>(f x c).fl (by rw[aT] at b;exact b x (by simpa using c));rw[g i];unfold QE at U;split at U
    ·next e=>cases U;exact e
    ·cases U
   ·cases h
  ·cases h
 ·cases h
def AV{xs:Array Operand}(h:∀x∈xs,VR S (aA.at x) (a.eval x)):AR (VR S) (xs.map aA.at) (xs.map a.eval):=by refine⟨iq,fun i x y U d=>?_⟩;simp only[Array.getElem?_map,Option.map_eq_some_iff] at U d;obtain⟨u,c,rfl⟩:=U;obtain⟨e,b,rfl⟩:=d;rw[c] at b;cases b;exact h u (Array.mem_of_getElem? c)
def Jz{t:Nat}{p q:Addr}(b:P.underlying t=some (.pointer e))(a:bQ P e=some (n+1))(U:p.block=q.block):fV P (Op.equalIn (d+1) t (.pointer (some p)) (.pointer (some q)))=some (p==q):=by simp only[Op.equalIn,dk,dM,b,Option.bind_some,nR,a,ne_eq,Nat.add_eq_zero_iff,Nat.succ_ne_self,and_false,not_false_eq_true,if_true,sameAddr,U,beq_self_eq_true];simp
def B0{t:Nat}{p:Addr}(U:P.underlying t=some (.pointer e)):fV P (Op.equalIn (d+1) t (.pointer (some p)) (.pointer none))=some false∧fV P (Op.equalIn (d+1) t (.pointer none) (.pointer (some p)))=some false:=by constructor<;>simp only[Op.equalIn,dk,dM,U,Option.bind_some]<;>rfl
def B1{t:Nat}{p:Addr}(U:P.underlying t=some (.slice e)):fV P (Op.equalIn (d+1) t (.slice (some p) n c) (.slice none n' c'))=some false∧fV P (Op.equalIn (d+1) t (.slice none n' c') (.slice (some p) n c))=some false:=by constructor<;>simp only[Op.equalIn,dk,dM,U,Option.bind_some]<;>rfl
def BZ{t:Nat}{x y:Array TypeId}{b:Bool}(U:P.underlying t=some (.func x y b)):fV P (Op.equalIn (d+1) t (.func f p q) .nilFunc)=some false∧fV P (Op.equalIn (d+1) t .nilFunc (.func f p q))=some false:=by constructor<;>simp only[Op.equalIn,dk,dM,U,Option.bind_some]<;>rfl
def kP(a:BinOp)(t:TypeId)(X Y:Operand)(b:∀c,x≠.agg c)(U:x≠.nilIface):fV P (eqGuard a t X Y x y)=some ():=by unfold eqGuard;cases a<;>first|rfl|(cases x<;>first|rfl|exact absurd rfl (b _)|exact absurd rfl U)
def xU{b:Bool}(h1:∀k n,x≠.int k n)(h2:∀s,x≠.string s)(h3:∀k n,x≠.float k n)(U:∀k n m,x≠.complex k n m)(h:fV P (Op.equalIn (9999+1) t x y)=some b):fV P (binOp .eql t x y)=some (.bool b)∧fV P (binOp .neq t x y)=some (.bool !b):=by
 have h:fV P (Op.equal t x y)=some b:=h;cases x with
 | int k n=>exact absurd rfl (h1 k n)
 | string s=>exact absurd rfl (h2 s)
 | float k n=>exact absurd rfl (h3 k n)
 | complex k n m=>exact absurd rfl (U k n m)
 | _=>exact⟨by simp only[binOp,dk,h];rfl,by simp only[binOp,dk,h];rfl⟩
def kz(h:(match op with|.eql=>some (Value.bool false)|.neq=>some (.bool true)|_=>none)=some v)(h1:∀k n,x≠.int k n)(h2:∀s,x≠.string s)(h3:∀k n,x≠.float k n)(h4:∀k n m,x≠.complex k n m)(U:∀c,x≠.agg c)(h6:x≠.nilIface)
 (he:fV P (Op.equalIn (9999+1) t x y)=some false):dW v=true∧fV P (binOp op t x y)=some v∧∀X Y,fV P (eqGuard op t X Y x y)=some ():=by
 have:=xU h1 h2 h3 h4 he;cases op<;>simp at h
 ·subst h;exact⟨rfl,this.1,fun X Y=>kP _ _ _ _ U h6⟩
 ·subst h;exact⟨rfl,this.2,fun X Y=>kP _ _ _ _ U h6⟩
def wy(f:VR S x x')(i:VR S y y')(h:lS P op t x y=some v):dW v=true∧fV P (binOp op t x' y')=some v∧∀X Y,fV P (eqGuard op t X Y x' y')=some ():=by
 unfold lS at h;split at h
 ·next p q e U =>
  split at h
  ·next n A =>
   split at h
   ·next r =>
    have⟨b,a,sp⟩:=p;have⟨F,c,E⟩:=q;have h1:=f.iF;have h2:=i.iF;simp at h1 h2 r;subst h1 h2 r;obtain⟨g,z,e1,h3,rfl⟩:=f.ptr;obtain⟨H,K,G,o,rfl⟩:=i.ptr;rw[h3] at o;cases o;have j:=xU (P:=P) (t:=t) iq iq iq iq (Jz (d:=9999) (p:=⟨g,a,none⟩) (q:=⟨g,c,none⟩) U A rfl);have w:((⟨g,a,none⟩:Addr)==⟨g,c,none⟩)=((⟨b,a,none⟩:Addr)==⟨b,c,none⟩):=by rw[Bool.eq_iff_iff];simp
    rw[w] at j;split at h
    ·cases h;exact⟨rfl,j.1,fun X Y=>kP _ _ _ _ iq iq⟩
    ·cases h;exact⟨rfl,j.2,fun X Y=>kP _ _ _ _ iq iq⟩
    ·cases h
   ·cases h
  ·cases h
 ·next p e U =>obtain⟨b,a,sp⟩:=p;have h1:=f.iF;simp at h1;subst h1;obtain⟨g,z,e1,h3,rfl⟩:=f.ptr;rw[i.sc rfl];exact kz h iq iq iq iq iq iq (B0 U).1
 ·next p e U =>obtain⟨b,a,sp⟩:=p;have h1:=i.iF;simp at h1;subst h1;obtain⟨g,z,e1,h3,rfl⟩:=i.ptr;rw[f.sc rfl];exact kz h iq iq iq iq iq iq (B0 U).2
 ·next U =>obtain⟨g,z,e1,B,s,h3,rfl,_⟩:=f.jX;rw[i.sc rfl];exact kz h iq iq iq iq iq iq (B1 U).1
 ·next U =>obtain⟨g,z,e1,B,s,h3,rfl,_⟩:=i.jX;rw[f.sc rfl];exact kz h iq iq iq iq iq iq (B1 U).2
 ·next U =>obtain⟨C,D,rfl,_⟩:=f.fn;rw[i.sc rfl];exact kz h iq iq iq iq iq iq (BZ U).1
 ·next U =>obtain⟨C,D,rfl,_⟩:=i.fn;rw[f.sc rfl];exact kz h iq iq iq iq iq iq (BZ U).2
 ·next k _ =>
  obtain⟨J,m,u,rfl,I⟩:=f.mp;cases u;rw[i.sc rfl];have l:¬m=0:=oq
  cases op<;>simp at h;iterate 2
   ·subst h;exact⟨rfl,by simp[binOp,goInt,Op.intCmp,l],fun X Y=>rfl⟩
 ·cases h
def w6(l:eB S aA a o)(H:∀t w,o.op≠.build t w)(h:cb P aA o=some v):∃O,VR S v O∧fV P (execOp a.eval o)=some (.value O):=by
 unfold cb at h;unfold eB at l;split at h;iterate 2
  ·next x U =>cases h;rw[U] at l;exact⟨_,l x (by simp[Op.operands]),by simp[execOp,U]⟩
 ·next c x y U =>
  rw[U] at l;have M:=l c (by simp[Op.operands]);split at h
  ·next b H =>
   cases h;rw[H] at M;have M:=M.sc rfl;refine⟨if b then a.eval x else a.eval y,?_,?_⟩
   ·cases b
    ·exact l y (by simp[Op.operands])
    ·exact l x (by simp[Op.operands])
   ·simp[execOp,U,M,asBool]
  ·cases h
 ·next t w U =>exact absurd U (H t w)
 ·next x U =>
  rw[U] at l;have j:=l x (by simp[Op.operands]);split at h
  ·next p G =>
   cases h;rw[G] at j;obtain⟨b,r,sp⟩:=p
   have:=j.iF;simp at this;subst this;obtain⟨g,z,e,h1,h2⟩:=j.ptr;exact⟨_,h2▸VR.gw h1,by simp[execOp,U,h2]⟩
  ·next f p q G =>cases h;rw[G] at j;obtain⟨p',q',h1,h2,h3⟩:=j.fn;exact⟨_,VR.yT h2 h3,by simp[execOp,U,h1]⟩
  ·cases h
 ·next f first cap U =>cases h;rw[U] at l;refine⟨_,VR.yT (AV fun x j=>l x (by simp[Op.operands,j])) (AV fun x j=>l x (by simp[Op.operands,j])),by simp[execOp,U,Instr.makeFunc]⟩
 ·next t K U =>
  rw[U] at l;have j:=l t (by simp[Op.operands]);split at h
  ·next vs A =>
   rw[A] at j;obtain⟨W,h1,h2,h3⟩:=j.tu;have N:K<W.size:=by rw[← h2];exact(Array.getElem?_eq_some_iff.1 h).1
   exact⟨W[K],h3 K _ _ h (gF N),by simp[execOp,U,h1,Instr.extract,gF N]⟩
  ·cases h
 ·next t x f U =>
  rw[U] at l;have j:=l x (by simp[Op.operands]);split at h
  ·next a4 b r E G =>
   rw[G] at j;obtain⟨g,z,e,h1,h2⟩:=j.ptr;split at h
   ·next fd hf =>
    split at h
    ·next n J =>cases h;exact⟨_,VR.gw h1,by simp[execOp,U,h2,Instr.fieldAt,E,hf,Instr.sureAddr,fieldPlace,J,Addr.add]⟩
    ·cases h
   ·cases h
  ·cases h
 ·next t x K U =>
  rw[U] at l;have j:=l x (by simp[Op.operands]);have D:=l K (by simp[Op.operands]);split at h
  ·next e b r sp n c k i E G R =>
   rw[G] at j;rw[R] at D;have D:=D.sc rfl;obtain⟨g,z,Z,o',B,h1,h2,h3,s,F⟩:=j.jX;split at h
   ·next sz J =>
    split at h
    ·next T =>
     cases h;have:o'=r:=by
      rcases F with F|F
      ·subst F;omega
      ·exact F
     subst this;exact⟨_,VR.gw h1,by simp[execOp,U,h2,D,Instr.indexAt,asIntOf,E,J,T,Addr.add]⟩
    ·cases h
   ·cases h
  ·next n e b r k i E G R =>
   rw[G] at j;rw[R] at D;have D:=D.sc rfl;obtain⟨g,z,Z,h1,h2⟩:=j.ptr;split at h
   ·next sz J =>
    split at h
    ·next T =>cases h;exact⟨_,VR.gw h1,by simp[execOp,U,h2,D,Instr.indexAt,asIntOf,E,J,T,Addr.add,Instr.sureAddr]⟩
    ·cases h
   ·cases h
  ·cases h
 ·next op t x y ty U =>
  rw[U] at l;have j:=l x (by simp[Op.operands]);have hy:=l y (by simp[Op.operands]);split at h
  ·next O A =>cases h;obtain⟨h1,h2,h3,s,F⟩:=yu (P:=P) t A;refine⟨v,VR.dE h1,?_⟩;simp only[execOp,U,j.sc h2,hy.sc h3,dk,F,s];rfl
  ·split at h
   ·next O A =>cases h;obtain⟨h1,h2,h3⟩:=wy j hy A;refine⟨v,VR.dE h1,?_⟩;simp only[execOp,U,dk,h3,h2];rfl
   ·obtain⟨h1,h2⟩:=e9 (S:=S) (by unfold eB;rw[U];exact l) (fun m=>by rw[U] at m;simp only[execOp,U,m x (by simp[Op.operands]),m y (by simp[Op.operands])]) h;exact⟨v,h1,h2⟩
 ·next t u x U =>
  rw[U] at l;have j:=l x (by simp[Op.operands]);split at h
  ·next d k k' n h1 h2 h3 =>cases h;rw[h3] at j;refine⟨_,VR.dE rfl,?_⟩;simp[execOp,U,j.sc rfl,convert,h1,h2,Conv.intToInt,zN]
  ·obtain⟨h1,h2⟩:=e9 (S:=S) (by unfold eB;rw[U];exact l) (fun m=>by rw[U] at m;simp only[execOp,U,m x (by simp[Op.operands])]) h;exact⟨v,h1,h2⟩
 ·next t x i U =>
  rw[U] at l;have j:=l x (by simp[Op.operands]);have D:=l i (by simp[Op.operands]);split at h
  ·next str k n h1 h2 h3 =>
   rw[h2] at j;rw[h3] at D;split at h
   ·next hn =>
    split at h
    ·next b H =>
     cases h;refine⟨_,VR.dE rfl,?_⟩;have a5:str[n.toNat]?=some b:=by
      have N:n.toNat<str.size:=by have:=(gS.1 H).1;rw[Array.length_toList] at this;exact this
      rw[getElem?_pos str n.toNat N]
      have:=(gS.1 H).2;simp at this;rw[← this];rfl
     simp[execOp,U,j.sc rfl,D.sc rfl,Instr.index,asIntOf,h1,hn,a5]
    ·cases h
   ·cases h
  ·obtain⟨h1,h2⟩:=e9 (S:=S) (by unfold eB;rw[U];exact l) (fun m=>by rw[U] at m;simp only[execOp,U,m x (by simp[Op.operands]),m i (by simp[Op.operands])]) h;exact⟨v,h1,h2⟩
 ·next c U =>
  rw[U] at l;have Q:∀x∈c.args,VR S (aA.at x) (a.eval x):=fun x j=>l x (by simp[Op.operands,Call.operands,j]);have C:(∀x∈o.op.operands,a.eval x=aA.at x)→∀b,c.callee=.builtin b→execOp a.eval o=execOp aA.at o:=fun m b H=>by rw[U] at m;have:c.args.map a.eval=c.args.map aA.at:=Array.map_congr_left fun x j=>m x (by simp[Op.operands,Call.operands,j]);simp only[execOp,U,resolve,H,this]
  split at h
  ·next x t h1 h2 h3 =>
   have j:=Q x (by simpa using(show x∈c.args.toList by rw[h2];simp));have I:c.args.map a.eval=#[a.eval x]:=by apply Array.toList_inj.1;simp[h2]
   have L:c.argTypes=#[t]:=by apply Array.toList_inj.1;simp[h3]
   split at h
   ·next X n Y e A E =>
    cases h;rw[A] at j;refine⟨_,VR.dE rfl,?_⟩;have:∃V B,a.eval x=.slice V n B:=by
     cases X with
     | none=>rw[j.sc rfl];exact⟨_,_,rfl⟩
     | some X=>obtain⟨g,z,e,o',B,_,h2,_⟩:=j.jX;exact⟨_,_,h2⟩
    obtain⟨V,B,j⟩:=this;simp[execOp,U,resolve,h1,invoke,builtin,I,L,j,Builtin.len_,E]
   ·next str A E =>cases h;rw[A] at j;refine⟨_,VR.dE rfl,?_⟩;simp[execOp,U,resolve,h1,invoke,builtin,I,L,j.sc rfl,Builtin.len_,E,iT]
   ·cases h
  ·rename_i x h1 h2
   have j:=Q x (by simpa using(show x∈c.args.toList by rw[h2];simp));have I:c.args.map a.eval=#[a.eval x]:=by apply Array.toList_inj.1;simp[h2]
   split at h
   ·next b r n Y A =>
    cases h;rw[A] at j;obtain⟨g,z,e,B,h3,s,F,h6,_⟩:=j.sl;refine⟨_,VR.gw h3,?_⟩;have:B≠0:=oq
    have hd:Builtin.unsafeSliceData_ c.argTypes o.type #[.slice (some ⟨g,r,none⟩) n B]=if B≠0 then pure (.pointer (some ⟨g,r,none⟩)) else (do if (← viewAt g).isSome then pure (.pointer (some ⟨g,r,none⟩)) else pure (.pointer (some ⟨← newObj (.view ⟨g,r,none⟩ (← elemOf o.type)),0,none⟩))):=rfl;rw[ip this] at hd;simp[execOp,U,resolve,h1,invoke,builtin,I,s,hd]
   ·obtain⟨h3,s⟩:=e9 (S:=S) (by unfold eB;rw[U];exact l) (fun m=>C m _ h1) h;exact⟨v,h3,s⟩
  ·next x t h1 h2 h3 =>
   have j:=Q x (by simpa using(show x∈c.args.toList by rw[h2];simp));have I:c.args.map a.eval=#[a.eval x]:=by apply Array.toList_inj.1;simp[h2]
   have L:c.argTypes=#[t]:=by apply Array.toList_inj.1;simp[h3]
   split at h
   ·next b r n Y e A E =>cases h;rw[A] at j;obtain⟨g,z,Z,B,s,F,h6,h7,_⟩:=j.sl;exact⟨goInt B,⟨1,B,rfl,h7⟩,by simp[execOp,U,resolve,h1,invoke,builtin,I,L,F,Builtin.cap_,E]⟩
   ·obtain⟨h3,s⟩:=e9 (S:=S) (by unfold eB;rw[U];exact l) (fun m=>C m _ h1) h;exact⟨v,h3,s⟩
  ·next h1 =>obtain⟨h3,s⟩:=e9 (S:=S) (by unfold eB;rw[U];exact l) (fun m=>C m _ h1) h;exact⟨v,h3,s⟩
  ·next h1 =>obtain⟨h3,s⟩:=e9 (S:=S) (by unfold eB;rw[U];exact l) (fun m=>C m _ h1) h;exact⟨v,h3,s⟩
  ·next h1 =>obtain⟨h3,s⟩:=e9 (S:=S) (by unfold eB;rw[U];exact l) (fun m=>C m _ h1) h;exact⟨v,h3,s⟩
  ·cases h
 ·next op t x U =>rw[U] at l;obtain⟨h1,h2⟩:=e9 (S:=S) (by unfold eB;rw[U];exact l) (fun m=>by rw[U] at m;simp only[execOp,U,m x (by simp[Op.operands])]) h;exact⟨v,h1,h2⟩
 ·cases h
def AR.set(h:AR (VR S) cs lE)(b:VR S x y)(i:Nat):AR (VR S) (cs.setIfInBounds i x) (lE.setIfInBounds i y):=by
 refine⟨by simp[h.1],fun k u c a U=>?_⟩;rw[Array.getElem?_setIfInBounds] at a U;rw[← h.1] at U;by_cases e:i=k
 ·subst e;rw[ip rfl] at a U;split at a
  ·rw[ip (by assumption)] at U;cases a;cases U;exact b
  ·cases a
 ·rw[iw e] at a U;exact h.2 k u c a U
def PR (S:bJ):List (Nat × Value)→List (Nat × Value)→Prop
 | [],[]=>True
 | (i,x)::l,(j,y)::m=>i=j∧VR S x y∧PR S l m
 | _,_=>False
def yE(off:Nat):∀(l l':Vq) (k:Nat) (cs lE:Aq),l.length=l'.length→(∀(i:Nat) (x y:Value),l[i]?=some x→l'[i]?=some y→VR S x y)→AR (VR S) cs lE →
  AR (VR S) ((l.zipIdx k).foldl (fun cs (x:Value × Nat)=>cs.setIfInBounds (off+x.2) x.1) cs) ((l'.zipIdx k).foldl (fun cs (x:Value × Nat)=>cs.setIfInBounds (off+x.2) x.1) lE)
 | [],[],k,cs,lE,_,_,h=>by simpa using h
 | x::l,y::l',k,cs,lE,U,hr,h=>by simp only[List.zipIdx_cons,List.foldl_cons];exact yE off l l' (k+1) _ _ (by simpa using U) (fun i x y hx hy=>hr (i+1) x y (by simpa using hx) (by simpa using hy)) (h.set (hr 0 x y rfl rfl) _)
 | [],_::_,_,_,_,U,_,_=>by simp at U
 | _::_,[],_,_,_,U,_,_=>by simp at U
def oO{place:Nat→Option (Nat × Nat)}:∀(ps a0:List (Nat × Value)) (cs lE c:Aq),AR (VR S) cs lE→PR S ps a0→Instr.fill place cs ps=some c→∃c',Instr.fill place lE a0=some c'∧AR (VR S) c c'
 | [],[],cs,lE,c,h,_,U=>by simp[Instr.fill] at U ⊢;subst U;exact h
 | (i,x)::ps,(j,y)::a0,cs,lE,c,h,⟨e,hx,hp⟩,U=>by
  subst e;unfold Instr.fill at U ⊢;split at U
  ·cases U
  ·next off size a1 =>
   have hc:=hx.cells;rw[← hc.1,← h.1];split at U
   ·cases U
   ·next hn =>
    rw[iw hn];refine oO ps a0 _ _ c ?_ hp U
    have:=yE (S:=S) off x.cells.toList y.cells.toList 0 cs lE (by simp[hc.1]) (fun i u u' hu Yi=>hc.2 i u u' (by simpa using hu) (by simpa using Yi)) h;rw[← Array.foldl_toList,← Array.foldl_toList,Array.toList_zipIdx,Array.toList_zipIdx];exact this
 | [],_::_,_,_,_,_,h,_=>h.elim
 | _::_,[],_,_,_,_,h,_=>h.elim
def qE:∀(ps:List (Nat × Operand)),(∀x∈ps.map (·.2),VR S (aA.at x) (a.eval x))→PR S (ps.map fun (i,x)=>(i,aA.at x)) (ps.map fun (i,x)=>(i,a.eval x))
 | [],_=>trivial
 | (i,x)::ps,h=>⟨rfl,h x iq,qE ps fun y U=>h y (by simp at U ⊢;exact .inr U)⟩
def AR.lh{c:Aq}(h:c.toList.all dW=true):AR (VR S) c c:=by refine⟨rfl,fun i x y U a=>?_⟩;rw[U] at a;cases a;rw[aT] at h;exact VR.dE (h x (by simpa using Array.mem_of_getElem? U))
def DF{ps d:List (Nat × Value)}{c:Aq}(U:lD P t=true)(g:PR S ps d)(h:P.built t ps=some c):∃f,P.built t d=some f∧AR (VR S) c f:=by
 unfold Program.built at h ⊢;unfold lD at U;split at h
 ·next i n e a b =>
  rw[a] at U;try simp only[a,b]
  split at h
  ·next z k h1 h2 =>
   simp only[h1] at U;try simp only[h1,h2]
   exact oO _ _ _ _ c (AR.lh U) g h
  ·cases h
 ·next i j a b =>
  rw[a] at U;try simp only[a,b]
  split at h
  ·next z l h1 h2 =>
   simp only[h1] at U;try simp only[h1,h2]
   exact oO _ _ _ _ c (AR.lh U) g h
  ·cases h
 ·cases h
def y8(f:eB S aA a o)(h:cb P aA o=some v):∃g,VR S v g∧∀w,(execOp a.eval o).run P w=.ok (.value g) w∧(execOp a.eval o).events P w #[]=#[]:=by
 by_cases k:∃t b,o.op=.build t b
 ·obtain⟨t,b,U⟩:=k;unfold cb at h;rw[U] at h;simp only at h;split at h
  ·cases h
  ·next j =>
   have j:lD P t=true:=by simpa using j
   split at h
   ·next c l =>
    cases h;unfold eB at f;rw[U] at f;obtain⟨d,h1,h2⟩:=DF j (by simpa using qE (S:=S) (aA:=aA) (a:=a) b.toList fun x m=>f x (by simpa[Op.operands] using m)) l;have h1:P.built t (b.map fun (i,x)=>(i,a.eval x)).toList=some d:=by simpa using h1
    refine⟨_,VR.yS h2,fun w=>⟨?_,?_⟩⟩
    ·simp[execOp,U,run_build (P:=P) w t _ d h1]
    ·simp[execOp,U,run_build (P:=P) w t _ d h1,iR (P:=P) w t _ d h1]
   ·cases h
 ·obtain⟨g,h1,h2⟩:=w6 f (fun t b e=>k ⟨t,b,e⟩) h;exact⟨g,h1,fun w=>mN h2 w #[]⟩
end
end
section
open Go.Conc Go.RowKit Go.Lib
variable {b bt c c' cap cp cy g k len m n off pos sz:Nat}{v' z:Value}{e it pt t t' ty u:TypeId}{o' LF ob LG:Obj}{x y:Operand}{cs lE cur:Aq}{news us vs xs Ot VZ:Vq}{fz:Nat × Nat}{lo mx:Option Operand}{hi:Option Value}
structure Cy{ι:Type}(P:Program)(KT:TypeId→Prop)(N0:ι→Nat)(M:ι→World→Nat→Prop)(O:ι→Nat→Prop)(R:ι→World→World→Prop)(D:ι→World→World→Array Event→Prop)(X:ι→Goroutine→World→Prop)(Hd:ι→List (Nat × Obj)→World→Prop):Prop where
 C:bw P true R D X
 T:∀i,Terms (R i) (D i)
 ne : ∀ g aM, js P (.func g) = true → P.funcs[g]? = some aM → (aM.name == "runtime.NumGoroutine") = false ∧ Extern.findNext aM = none ∧ Extern.find aM = some Extern.AbiNoEscape.same
 Z:∀{i l w},Hd i l w→Co KT (N0 i) (M i) (O i) (R i) (D i) (Hd i)
section
variable {ι:Type}{P:Program}{KT:TypeId→Prop}{An:bJ}{N0:ι→Nat}{M:ι→World→Nat→Prop}{O:ι→Nat→Prop}{R:ι→Wq}{D:ι→World→World→Array Event→Prop}{X:ι→Gq}{Hd:ι→Hq→World→Prop}
variable {fn:FuncId}{Q:dV ι}{a:Act}{w:World}{i:ι}{S:bJ}{s s':AS}{l fr:Hq}{aA:TL}{v:Value}{ops:Array Oper}{j:Nat}{rest:List Nat}{o:Oper}
def Out (P:Program)(KT:TypeId→Prop)(An:bJ)(Hd:ι→Hq→World→Prop)(S:bJ)(s s':AS)(fr:Hq)(v:Value)(K:ι→Value→World→Prop):Prop :=
 ∀i' S' l' w' v',S.le S'→(∀b,b<s.nx∨s'.nx≤b→S' b=S b)→eK P KT An S' s' l'→Hd i' (l'++fr) w'→VR S' v v'→K i' v' w'
def s6(Y:Cy P KT N0 M O R D X Hd)(g:ops[j]?=some o)(m:Region.wanted o (yielded ops a.tmps)=true)(U:eB S aA a o)(f:eK P KT An S s l)(d:Hd i (l++fr) w)(h:cb P aA o=some v)
 (k:Out P KT An Hd S s s fr v fun n c p=>ck X fn ops rest n Q (a.put o.dst c) p):ck X fn ops (j::rest) i Q a w:=by have⟨c,h1,h2⟩:=y8 U h;refine dh Y.C Y.T g m fun b K e=>?_;rw[(h2 b).1];exact e _ (k i S l w c (bJ.le_refl S) (fun _ _=>rfl) f d h1) (h2 b).2
def eK.at(i:eK P KT An S s l){z e:Nat}(j:s.get b=some ob)(m:S b=some (g,z,e)):∃k c,l[k]?=some (g,c)∧k<l.length∧(l++fr)[k]?=some (g,c)∧OR S z ob c∧∀f t h,ob=.cells f t h→bQ P t=some e∧¬KT t:=by have⟨o,p,n,c,h1,h2,h3,U⟩:=i.live b ob j;rw[m] at h1;cases h1;have⟨k,d⟩:=List.mem_iff_getElem?.1 h2;have a:=(gS.1 d).1;exact⟨k,c,d,a,by rw[List.getElem?_append_left a];exact d,h3,U⟩
def CC(Y:Cy P KT N0 M O R D X Hd)(N:ops[j]?=some o)(T:Region.wanted o (yielded ops a.tmps)=true)(G:o.op=.load t x)(K:eB S aA a o)(B:eK P KT An S s l)(y:Hd i (l++fr) w)(h:aC P t (aA.at x) s=some v)
 (k:Out P KT An Hd S s s fr v fun i' v' r=>ck X fn ops rest i' Q (a.put o.dst v') r):ck X fn ops (j::rest) i Q a w:=by
 unfold eB at K;rw[G] at K;have hx:=K x (by simp[Op.operands]);unfold aC at h;split at h
 ·next b q hp =>
  rw[hp] at hx;have⟨g,z,e,h1,h2⟩:=hx.ptr;split at h
  ·next cs ty fz L =>
   have⟨I,o',hk,a5,F,J,a7⟩:=B.at (fr:=fr) L h1;obtain⟨A,rfl,hz,⟨Oe,hex⟩,c⟩:=J;split at h
   ·next d f =>
    split at h
    ·next E =>
     split at h
     ·next n W =>
      split at h
      ·next a9 =>
       cases h;refine uk Y.C (Y.Z y) I (cs:=(A.toList.drop q).take n) N T G h2 f E (by unfold bQ at W;rw[W];simp;omega) y F ?_ fun r U=>k i S l r _ (bJ.le_refl S) (fun _ _=>rfl) B U (VR.yS ?_)
       ·intro m u p;rw[List.getElem?_take] at p;split at p
        ·rw[List.getElem?_drop] at p;simpa using p
        ·cases p
       ·refine⟨by simp;omega,fun m u u' f H=>?_⟩;simp only[List.getElem?_toArray,List.getElem?_take] at f H;split at f
        ·next p =>rw[ip p] at H;rw[List.getElem?_drop] at f H;exact c _ u u' (by simpa using f) (by simpa using H)
        ·cases f
      ·cases h
     ·cases h
    ·next E =>
     have V:q<A.size:=by have:=(Array.getElem?_eq_some_iff.1 h).1;omega
     refine kV Y.C (Y.Z y) I N T G h2 f (by simpa using E) y F (gF V) fun r U=>k i S l r _ (bJ.le_refl S) (fun _ _=>rfl) B U (c q v _ h (gF V))
   ·cases h
  ·next ty cs q1 q2 q3 q4 L =>
   have⟨I,o',hk,a5,F,J,a7⟩:=B.at (fr:=fr) L h1;cases J;split at h
   ·next d f =>
    split at h
    ·cases h
    ·next E =>
     split at h
     ·next v0 a8 =>
      split at h
      ·next a6 =>cases h;exact kV Y.C (Y.Z y) I N T G h2 f (by simpa using E) y F a8 fun r U=>k i S l r _ (bJ.le_refl S) (fun _ _=>rfl) B U (VR.dE a6)
      ·cases h
     ·cases h
   ·cases h
  ·cases h
 ·cases h
def eK.xg(a:eK P KT An S s l){z e:Nat}(j:s.get b=some ob)(p:S b=some (g,z,e))(q:l[k]?=some (g,o'))(F:(l.map Prod.fst).Nodup)(w:OR S z LG LF)(y:∀A t B,LG=.cells A t B→bQ P t=some e∧¬KT t):eK P KT An S (s.set b (some LG)) (l.set k (g,LF)) where
 live b' o1 h1:=by
  rw[AS.aH] at h1
  have u:=(gS.1 q).1
  split at h1
  ·
   next U =>
   subst U
   cases h1
   exact⟨g,z,e,LF,p,List.mem_iff_getElem?.2 ⟨k,by simp[u]⟩,w,y⟩
  ·
   next v =>
   have⟨C,E,U,c,h2,h3,d,i⟩:=a.live b' o1 h1
   refine⟨C,E,U,c,h2,?_,d,i⟩
   have⟨m,n⟩:=List.mem_iff_getElem?.1 h3
   refine List.mem_iff_getElem?.2 ⟨m,?_⟩
   rw[List.getElem?_set]
   split
   ·
    next r =>
    subst r
    rw[q] at n
    cases n
    exact absurd (a.inj b' b o1 ob _ _ h1 j h2 p rfl) v
   ·
    exact n
 inj k k' o1 o2 x x' h1 h2 hx yI he:=by
  rw[AS.aH] at h1 h2
  have f:∀{m:Nat} {c:Obj},(if m=b then some LG else s.get m)=some c→∃o,s.get m=some o:=fun {m c} h=>by
   split at h
   ·
    next U=>exact⟨ob,by rw[U];exact j⟩
   ·
    exact⟨_,h⟩
  have⟨o,d⟩:=f h1
  have⟨D,i⟩:=f h2
  exact a.inj k k' o D x x' d i hx yI he
 lt k o1 h1:=by
  rw[AS.aH] at h1
  split at h1
  ·
   next U=>subst U;exact a.lt _ _ j
  ·
   exact a.lt k o1 h1
 an:=a.an
def Cy.AZ(Y:Cy P KT N0 M O R D X Hd)(U:Hd i (l++fr) w):(l.map Prod.fst).Nodup:=by have:=(Y.Z U).nodup U;rw[List.map_append] at this;exact(List.nodup_append.1 this).1
def vi{ys:Vq}{z:Nat}(j:lE.size=z)(g:cs.size≤z)(c:∀(i:Nat) (x y:Value),cs[i]?=some x→lE[i]?=some y→VR S x y)(d:xs.length=ys.length)(f:∀(i:Nat) (x y:Value),xs[i]?=some x→ys[i]?=some y→VR S x y)(h:off+xs.length≤cs.size) :
  (putAt lE off ys).size=z∧(putAt cs off xs).size≤z∧∀(i:Nat) (x y:Value),(putAt cs off xs)[i]?=some x→(putAt lE off ys)[i]?=some y→VR S x y:=by
 refine⟨by simp[putAt];omega,by simp[putAt];omega,fun m x y a U=>?_⟩;simp only[putAt,List.getElem?_toArray,List.append_assoc] at a U;rw[List.getElem?_append] at a U;have e1:(cs.toList.take off).length=off:=by simp;omega
 have e:(lE.toList.take off).length=off:=by simp;omega
 rw[e1] at a;rw[e] at U;split at a
 ·next b =>rw[ip b] at U;rw[List.getElem?_take,ip b] at a U;exact c m x y (by simpa using a) (by simpa using U)
 ·next b =>
  rw[iw b] at U;rw[List.getElem?_append] at a U;rw[← d] at U;split at a
  ·next h2 =>rw[ip h2] at U;exact f _ x y a U
  ·next h2 =>rw[iw h2] at U;rw[List.getElem?_drop] at a U;exact c _ x y (by simpa using a) (by simpa using U)
def Hj(Y:Cy P KT N0 M O R D X Hd)(ho:ops[j]?=some o)(hw:Region.wanted o (yielded ops a.tmps)=true)(K:o.op=.store t x y)(p:eB S aA a o)(T:eK P KT An S s l)(r:Hd i (l++fr) w)(h:iS P t (aA.at x) (aA.at y) s=some s')
 (k:Out P KT An Hd S s s' fr undef fun i' v' H=>ck X fn ops rest i' Q (a.put o.dst v') H):ck X fn ops (j::rest) i Q a w:=by
 unfold eB at p;rw[K] at p;have hx:=p x (by simp[Op.operands]);have hy:=p y (by simp[Op.operands]);unfold iS at h;split at h
 ·next b off hp =>
  rw[hp] at hx;have⟨g,z,e,h1,h2⟩:=hx.ptr;split at h
  ·next cs ty N V =>
   have⟨kk,o',hk,a6,a5,a7,L⟩:=T.at (fr:=fr) V h1;obtain⟨q,rfl,hz,⟨B,v⟩,d⟩:=a7;split at h
   ·next hc =>
    have⟨I,a4,J⟩:=hc;cases h;have c:=hy.cells;have n:∀u∈(a.eval y).cells.toList,u.oneCell'=true:=by
     intro u F;have⟨m,W⟩:=List.mem_iff_getElem?.1 F;have E:m<(aA.at y).cells.size:=by rw[c.1];have:=(gS.1 W).1;simpa using this
     have:=c.2 m _ u (gF E) (by simpa using W);rw[this.Cw];rw[aT] at J;exact J _ iq
    have U:=vi (S:=S) (xs:=(aA.at y).cells.toList) (ys:=(a.eval y).cells.toList) (off:=off) hz B d (by simp[c.1]) (fun m u u' F G=>c.2 m u u' (by simpa using F) (by simpa using G)) (by simpa using a4);refine rj Y.C (Y.Z r) (cs:=(a.eval y).cells.toList) (cur':=putAt q off (a.eval y).cells.toList) kk ho hw K h2 iq ?_ n (L cs ty N rfl).2 r a5 ?_ rfl fun H f=>?_
    ·unfold bQ at I;rw[I];simp[c.1]
    ·simp;rw[← c.1];omega
    rw[List.set_append_left _ _ a6] at f;refine k i S _ H undef (bJ.le_refl S) (fun _ _=>rfl) (T.xg V h1 hk (Y.AZ r) ⟨_,rfl,U.1,⟨U.2.1,fun A=>by have:=v A;simp[putAt];omega⟩,U.2.2⟩ fun Wv t1 WJ he=>?_) f VR.undef;cases he;exact L cs ty N rfl
   ·cases h
  ·cases h
 ·cases h
end
section
variable {P:Program}{S:bJ}
def uT(off:Nat):∀(l:List (Value × Nat)) (cs:Aq),(l.foldl (fun cs (x:Value × Nat)=>cs.setIfInBounds (off+x.2) x.1) cs).size=cs.size
 | [],cs=>rfl
 | x::l,cs=>by simp only[List.foldl_cons];rw[uT off l];simp
def uS{place:Nat→Option (Nat × Nat)}:∀(ps:List (Nat × Value)) (cs c:Aq),Instr.fill place cs ps=some c→c.size=cs.size
 | [],cs,c,h=>by simp[Instr.fill] at h;rw[h]
 | (i,x)::ps,cs,c,h=>by
  unfold Instr.fill at h;split at h
  ·cases h
  ·split at h
   ·cases h
   ·rw[uS ps _ c h,← Array.foldl_toList];exact uT _ _ _
def Bm{ps U:List (Nat × Value)}{c:Aq}(a:lD P e=true)(o:PR S ps U)(h:sliced P e len ps=some c):∃b k,sliced P e len U=some b∧AR (VR S) c b∧bQ P e=some k∧c.size=len*k:=by
 unfold sliced at h ⊢;unfold lD at a;split at h
 ·next j d =>
  simp only[d] at a;split at h
  ·next z f =>
   simp only[f] at a;split at h
   ·cases h
   ·next n =>
    have l:((Array.range (len*j.size)).map (z.cells[· % z.cells.size]!)).toList.all dW=true:=by
     rw[aT];intro x i;simp only[Array.toList_map,List.mem_map] at i;obtain⟨m,_,rfl⟩:=i;rw[aT] at a;by_cases g:m % z.cells.size<z.cells.size
     ·rw[getElem!_pos z.cells _ g];exact a _ iq
     ·rw[getElem!_neg z.cells _ g];rfl
    have⟨b,h1,h2⟩:=oO ps U _ _ c (AR.lh (S:=S) l) o h;refine⟨b,j.size,?_,h2,by simp[bQ,d],?_⟩
    ·(try simp only[d,f]);rw[iw n];exact h1
    ·rw[uS _ _ _ h];simp
  ·cases h
 ·cases h
end
section
variable {ι:Type}{P:Program}{KT:TypeId→Prop}{An:bJ}{N0:ι→Nat}{M:ι→World→Nat→Prop}{O:ι→Nat→Prop}{R:ι→Wq}{D:ι→World→World→Array Event→Prop}{X:ι→Gq}{Hd:ι→Hq→World→Prop}
variable {fn:FuncId}{Q:dV ι}{a:Act}{w:World}{i:ι}{S:bJ}{s s':AS}{l fr:Hq}{aA:TL}{v:Value}{ops:Array Oper}{j:Nat}{rest:List Nat}{o:Oper}{kt:TypeId→Bool}
def y0(C:bw P true R D X)(Z:Co KT (N0 i) (M i) (O i) (R i) (D i) (Hd i)){str:ByteArray}(s:ops[j]?=some o)(y:Region.wanted o (yielded ops a.tmps)=true)(f:o.op=.range t x)(k:P.underlying t=some .string)(m:a.eval x=.string str)(u:¬KT (1000+str.size))
 (p:Hd i l w)(h:∀b n,Hd i ((b,.stringIter str 0)::l) n→ck X fn ops rest i Q (a.put o.dst (.pointer (sq b))) n):ck X fn ops (j::rest) i Q a w:=by
 refine aF C s y fun U r K q=>?_;have c:=Z.rely p r;have g:Own KT (M i) U (U.alloc (.stringIter str 0)):=Own.FM u;have v:(execOp a.eval o).run P U=.ok (.value (.pointer (sq U.heap.size))) (U.alloc (.stringIter str 0)):=by simp[execOp,f,m,EL k]
 have d:(execOp a.eval o).events P U #[]=#[]:=by simp[execOp,f,m,wD k]
 rw[v];refine q _ _ ⟨?_,h _ _ (Z.grown c g)⟩;rw[listed_nil d];exact Z.env.jA (Z.size c) g (fun e d=>by simp at d)
def ol(h:AR (VR S) cs lE):OR S lE.size (.cells cs t fz) (.cells lE t):=⟨lE,rfl,rfl,⟨by rw[h.1];exact lr,fun _=>h.1⟩,h.2⟩
def A8(C:bw P true R D X)(Z:Co KT (N0 i) (M i) (O i) (R i) (D i) (Hd i)){d:TypeInfo}(Y:ops[j]?=some o)(hw:Region.wanted o (yielded ops a.tmps)=true)(u:o.op=.makeSlice t x y)(k:P.underlying t=some (.slice e))(g:P.info? e=some d)(E:d.zero=some z)(A:a.eval x=.int .i64 (n:Int))(B:a.eval y=.int .i64 (n:Int))(a4:0<n)(W:n≤1000000)(S:d.bytes≤1000)(r:¬KT e)
 (J:Hd i l w)(h:∀b G,Hd i ((b,.cells (madeCells z.cells (n*d.size)) e)::l) G→ck X fn ops rest i Q (a.put o.dst (.slice (sq b) n n)) G):ck X fn ops (j::rest) i Q a w:=by
 refine aF C Y hw fun c N K L=>?_;have f:=Z.rely J N;have v:Own KT (M i) c (c.alloc (.cells (madeCells z.cells (n*d.size)) e)):=Own.alloc r;have T:d.bytes*n≤1000*1000000:=Nat.mul_le_mul S W;have V:(d.bytes:Int)*(n:Int)≤281474976710656:=by
  have h:((d.bytes*n:Nat):Int)≤281474976710656:=oq
  rwa [Int.natCast_mul] at h
 have q:IntKind.i64.wrap (n:Int)=n:=by rw[IntKind.wrap_i64];omega
 have m:¬(n:Int)<0:=oq
 have p:¬(281474976710656<(d.bytes:Int)*(n:Int)):=oq
 have F:¬(n*d.bytes>140737488355328):=by rw[Nat.mul_comm];omega
 have s:(Instr.makeSlice t (.int .i64 (n:Int)) (.int .i64 (n:Int))).run P c=.ok (.slice (sq c.heap.size) n n) (c.alloc (.cells (madeCells z.cells (n*d.size)) e)):=by
  by_cases U:n*d.size=0
  ·simp[Instr.makeSlice,run_underlying k,asInt,asIntOf,typeInfo,g,sizeOf,q,m,p,U,newRow,madeCells,Array.range_zero']
  ·simp[Instr.makeSlice,run_underlying k,asInt,asIntOf,typeInfo,g,sizeOf,zeroValue,E,q,m,p,U,newRow,madeCells]
 have I:(Instr.makeSlice t (.int .i64 (n:Int)) (.int .i64 (n:Int))).events P c #[]=#[]:=by
  by_cases U:n*d.size=0
  ·simp[Instr.makeSlice,underlying,k,asInt,asIntOf,typeInfo,g,sizeOf,q,m,p,U,newRow,askRoom,roomBytes,F]
  ·simp[Instr.makeSlice,underlying,k,asInt,asIntOf,typeInfo,g,sizeOf,zeroValue,E,q,m,p,newRow,askRoom,roomBytes,F]
 have hr:(execOp a.eval o).run P c=.ok (.value (.slice (sq c.heap.size) n n)) (c.alloc (.cells (madeCells z.cells (n*d.size)) e)):=by unfold execOp;simp only[u,A,B,Sem.run_bind,s,Result.andThen_ok,Sem.run_pure]
 have H:(execOp a.eval o).events P c #[]=#[]:=by unfold execOp;simp only[u,A,B,Sem.events_bind,s,I,Result.evThen_ok,Sem.events_pure]
 rw[hr];refine L _ _ ⟨?_,h _ _ (Z.grown f v)⟩;rw[listed_nil H];exact Z.env.jA (Z.size f) v (fun e r=>by simp at r)
def J2{z:Aq}(h:z.toList.all dW=true)(n:Nat):(madeCells z n).toList.all dW=true:=by
 rw[aT];intro x U;simp only[madeCells,Array.toList_map,List.mem_map] at U;obtain⟨m,_,rfl⟩:=U;rw[aT] at h;by_cases a:m % z.size<z.size
 ·rw[getElem!_pos z _ a];exact h _ iq
 ·rw[getElem!_neg z _ a];rfl
def Hg(Y:Cy P KT N0 M O R D X Hd)(u:∀t,kt t=false→¬KT t)(K:ops[j]?=some o)(T:Region.wanted o (yielded ops a.tmps)=true)(q:eB S aA a o)(r:Hd i l w){mk:Nq}(h:ss P kt aA o=some (ob,mk))
 (k:∀g z e o' d v',Hd i ((g,o')::l) d→(∀f G,S.le f→f G=some (g,z,e)→OR f z ob o'∧VR f (mk G) v')→(∀H t fz,ob=.cells H t fz→bQ P t=some e∧¬KT t)→ck X fn ops rest i Q (a.put o.dst v') d):ck X fn ops (j::rest) i Q a w:=by
 unfold eB at q;unfold ss at h;split at h
 ·next t U =>
  split at h
  ·cases h
  ·next E =>
   simp only[not_or,Bool.not_eq_false,Bool.not_eq_true] at E;obtain⟨hz,B,L⟩:=E;split at h
   ·next z J =>
    cases h;obtain⟨e,he⟩:=Option.ne_none_iff_exists'.1 L;have F:z.cells.toList.all dW=true:=by
     unfold lD at hz;cases a2:P.info? t with
     | none=>simp[a2] at J
     | some it =>
      have:it.zero=some z:=by simpa[a2] using J
      simpa[a2,this] using hz
    have a6:∀w,(zeroValue t).run P w=.ok z w:=by
     intro w;have:fV P (zeroValue t)=some z:=by
      unfold zeroValue;simp only[dk,oL];cases a2:P.info? t with
      | none=>simp[a2] at J
      | some it =>
       have:it.zero=some z:=by simpa[a2] using J
       simp[this]
     exact(mN this w #[]).1
    refine yY Y.C (Y.Z r) K T U a6 rfl (u t B) r fun g d s=>k g z.cells.size e _ d _ s (fun f G I v=>⟨ol (AR.lh F),VR.gw v⟩) fun H t' fz b=>?_;cases b;exact⟨he,u _ B⟩
   ·cases h
 ·next t x U =>
  split at h
  ·cases h
  ·next E =>simp only[not_or,Bool.not_eq_true] at E;obtain⟨B,L⟩:=E;cases h;obtain⟨e,he⟩:=Option.ne_none_iff_exists'.1 L;rw[U] at q;have A:=(q x (by simp[Op.operands])).cells;refine Eo Y.C (Y.Z r) K T U rfl (u t B) r fun g d s=>k g (a.eval x).cells.size e _ d _ s (fun f G I v=>⟨ol (A.mono I),VR.gw v⟩) fun H t' fz b=>?_;cases b;exact⟨he,u _ B⟩
 ·next t len p U =>
  split at h
  ·next e N =>
   split at h
   ·cases h
   ·next E =>
    simp only[not_or,Bool.not_eq_false,Bool.not_eq_true,Nat.not_lt] at E;obtain⟨hz,B,hl⟩:=E;split at h
    ·next c b =>
     cases h;rw[U] at q;obtain⟨c',W,h1,h2,h3,h4⟩:=Bm hz (by simpa using qE (S:=S) (aA:=aA) (a:=a) p.toList fun x A=>q x (by simpa[Op.operands] using A)) b;have h1:sliced P e len (p.map fun (i,x)=>(i,a.eval x)).toList=some c':=by simpa using h1
     refine qC Y.C (Y.Z r) K T U N (u e B) h1 r fun g d s=>k g c'.size W _ d _ s (fun f G I v=>⟨ol (h2.mono I),VR.yU v lr lr (by simp[maxLen];omega) (by rw[← h2.1,h4];omega)⟩) fun H t' fz b=>?_;cases b;exact⟨h3,u _ B⟩
    ·cases h
  ·cases h
 ·next t x U =>
  rw[U] at q;have A:=q x (by simp[Op.operands]);split at h
  ·next str N L =>
   split at h
   ·cases h
   next hq =>cases h;rw[L] at A;exact y0 Y.C (Y.Z r) K T U N (A.sc rfl) (u _ (by simpa using hq)) r fun g d s=>k g 0 0 _ d _ s (fun f G I v=>⟨rfl,VR.gw v⟩) fun H t' fz b=>by cases b
  ·cases h
 ·next t x y U =>
  rw[U] at q;have A:=q x (by simp[Op.operands]);have hy:=q y (by simp[Op.operands]);split at h
  ·next e n m N h1 h2 =>
   rw[h1] at A;rw[h2] at hy;split at h
   ·next z W bytes J =>
    split at h
    ·next b =>
     obtain⟨rfl,c2,c3,c4,c5,c6⟩:=b;cases h;obtain⟨it,a3,q1,q2,q3⟩:=info_parts J;have F:z.cells.toList.all dW=true:=by unfold lD at c4;simpa[a3,q1] using c4
     have a5:n=((n.toNat:Nat):Int):=oq
     have a4:=A.sc rfl;have V:=hy.sc rfl;rw[a5] at a4 V;refine A8 Y.C (Y.Z r) K T U N a3 q1 a4 V oq oq oq (u e c5) r fun g d s=>k g (n.toNat*W) W _ d _ s (fun f G I v=>⟨?_,VR.yU v lr lr (by simp[maxLen];omega) oq⟩) fun H t' fz b=>?_
     ·rw[q2]
      have:=ol (S:=f) (t:=e) (fz:=(0,0)) (AR.lh (S:=f) (J2 F (n.toNat*W)));rw[size_madeCells] at this;exact this
     ·cases b;exact⟨by simp[bQ,a3,q2],u _ c5⟩
    ·cases h
   ·cases h
  ·cases h
 ·cases h
def Cy.fresh(Y:Cy P KT N0 M O R D X Hd)(U:Hd i ((g,o')::l++fr) w):∀o,(g,o)∉l:=by
 intro b a
 have:=(Y.Z U).nodup U;simp only[List.cons_append,List.map_cons,List.nodup_cons] at this;exact this.1 (List.mem_map.2 ⟨(g,b),List.mem_append_left _ a,rfl⟩)
def Ko(Y:Cy P KT N0 M O R D X Hd)(ho:ops[j]?=some o)(hw:Region.wanted o (yielded ops a.tmps)=true)(k:o.op=.next x true)(y:eB S aA a o)(E:eK P KT An S s l)(A:Hd i (l++fr) w){str:ByteArray}(hx:aA.at x=.pointer (sq b))(V:s.get b=some (.stringIter str pos))(I:pos<str.size→¬KT (1000+str.size))
 (k1:pos<str.size→Out P KT An Hd S s (s.set b (some (.stringIter str (pos+(Utf8.decode str pos).2)))) fr (.tuple #[.bool true,goInt pos,.int .i32 (Utf8.decode str pos).1]) fun L N T=>ck X fn ops rest L Q (a.put o.dst N) T)
 (k0:¬pos<str.size→Out P KT An Hd S s s fr (.tuple #[.bool false]) fun L N T=>ck X fn ops rest L Q (a.put o.dst N) T):ck X fn ops (j::rest) i Q a w:=by
 unfold eB at y;rw[k] at y;have r:=y x (by simp[Op.operands]);rw[hx] at r;have⟨g,z,e,h1,h2⟩:=r.ptr;have⟨kk,o',hk,G,n,H,Pv⟩:=E.at (fr:=fr) V h1;cases H;have Z:=Y.Z A;refine aF Y.C ho hw fun c hR K U=>?_;have d:=Z.rely A hR;have⟨v,u⟩:=Z.own d (mG n);by_cases m:pos<str.size
 ·have B:Own KT (M i) c { c with heap:=c.heap.setIfInBounds g (.stringIter str (pos+(Utf8.decode str pos).2)) }:=Own.setObj (I m) v;have J:(execOp a.eval o).run P c=.ok (.value (.tuple #[.bool true,.int .i64 pos,.int .i32 (Utf8.decode str pos).1])) { c with heap:=c.heap.setIfInBounds g (.stringIter str (pos+(Utf8.decode str pos).2)) }:=by simp[execOp,k,h2,HY u m]
  have F:(execOp a.eval o).events P c #[]=#[⟨.obj g,false,false⟩,⟨.obj g,true,false⟩]:=by simp[execOp,k,h2,yz u m]
  rw[J];have p:=Z.env.lt v;have f:=Z.Bw d kk n B (o':=.stringIter str (pos+(Utf8.decode str pos).2)) (by simp[p]) (fun q I=>by simp[Ne.symm I]);rw[List.set_append_left _ _ G] at f;refine U _ _ ⟨?_,k1 m i S _ _ _ (bJ.le_refl S) (fun _ _=>rfl) (E.xg V h1 hk (Y.AZ A) rfl fun cs t fz hc=>by cases hc) f (VR.sY (AR.lh rfl))⟩;refine Z.env.jA (Z.size d) B fun W h=>?_;have h:=mem_listed h;rw[F] at h;simp at h;rcases h with rfl|rfl
  iterate 2
   ·exact .inr (.inl ⟨g,_,rfl,Z.env.mine B v⟩)
 ·have J:(execOp a.eval o).run P c=.ok (.value (.tuple #[.bool false])) c:=by simp[execOp,k,h2,w9 u m]
  have F:(execOp a.eval o).events P c #[]=#[⟨.obj g,false,false⟩]:=by simp[execOp,k,h2,rA u m]
  rw[J];refine U _ _ ⟨?_,k0 m i S l c _ (bJ.le_refl S) (fun _ _=>rfl) E d (VR.sY (AR.lh rfl))⟩;refine Z.env.jA (Z.size d) (Own.refl _) fun W h=>?_;have h:=mem_listed h;rw[F] at h;simp at h;subst h;exact .inr (.inl ⟨g,_,rfl,v⟩)
end
section
variable {P:Program}{S:bJ}
def qa{sl:Bool}{l h:Nat}{lo:Option Value}(e:bH n c lo hi=some (l,h))(hc:c≤c')(U:n≤c):fV P (Instr.sliceBounds sl n c' lo hi none)=some (l,h,c')∧l≤h∧h≤c:=by
 unfold bH at e;split at e
 ·split at e
  ·cases e;exact⟨by simp[Instr.sliceBounds],Nat.zero_le _,U⟩
  ·next k i =>
   split at e
   ·next hi =>cases e;exact⟨by simp[Instr.sliceBounds,Instr.sliceBound,asIntOf,hi],oq,U⟩
   ·cases e
  ·cases e
 ·next k i =>
  split at e
  ·next hi =>
   have h1:0≤i∧i≤(c':Int):=oq
   split at e
   ·cases e;exact⟨by simp[Instr.sliceBounds,Instr.sliceBound,asIntOf,h1],Nat.zero_le _,oq⟩
   ·next k2 i2 =>
    split at e
    ·next a0 =>
     cases e;have h2:0≤i2∧i2≤((i.toNat:Nat):Int):=oq
     refine⟨?_,oq,oq⟩;simp only[Instr.sliceBounds,Instr.sliceBound,asIntOf,dk,lY,Option.bind_some,ip h1,ip h2]
    ·cases e
   ·cases e
  ·cases e
 ·cases e
def qb{lo:Option Value}{r:Nat × Nat}(e:bH n c lo hi=some r):(∀v,lo=some v→dW v=true)∧(∀v,hi=some v→dW v=true):=by
 unfold bH at e;split at e
 ·split at e
  ·simp
  ·exact⟨fun v h=>by cases h;rfl,iq⟩
  ·cases e
 ·split at e
  ·split at e
   ·exact⟨iq,fun v h=>by cases h;rfl⟩
   ·exact⟨fun v h=>by cases h;rfl,fun v h=>by cases h;rfl⟩
   ·cases e
  ·cases e
 ·cases e
end
section
variable {ι:Type}{P:Program}{KT:TypeId→Prop}{An:bJ}{N0:ι→Nat}{M:ι→World→Nat→Prop}{O:ι→Nat→Prop}{R:ι→Wq}{D:ι→World→World→Array Event→Prop}{X:ι→Gq}{Hd:ι→Hq→World→Prop}
variable {fn:FuncId}{Q:dV ι}{a:Act}{w:World}{i:ι}{S:bJ}{s s':AS}{l fr:Hq}{aA:TL}{v:Value}{ops:Array Oper}{j:Nat}{rest:List Nat}{o:Oper}{kt:TypeId→Bool}
def kX(U:∀x,lo=some x→VR S (aA.at x) (a.eval x))(h:∀v,lo.map aA.at=some v→dW v=true):lo.map a.eval=lo.map aA.at:=by
 cases lo with
 | none=>rfl
 | some x=>simp;exact(U x rfl).sc (h _ rfl)
def zv{N:Option Operand}(Z:o.op=.slice t x lo N mx)(G:eB S aA a o)(hS:eK P KT An S s l)(h:fP P t (aA.at x) (lo.map aA.at) (N.map aA.at) (mx.map aA.at) s=some v):∃v',VR S v v'∧fV P (execOp a.eval o)=some (.value v'):=by
 unfold eB at G;rw[Z] at G;have D:=G x (by simp[Op.operands]);have A:∀y,lo=some y→VR S (aA.at y) (a.eval y):=fun y O=>G y (by simp[Op.operands,O]);have w:∀y,N=some y→VR S (aA.at y) (a.eval y):=fun y O=>G y (by simp[Op.operands,O]);have V:∀y,mx=some y→VR S (aA.at y) (a.eval y):=fun y O=>G y (by simp[Op.operands,O]);have m:∀d,P.underlying t=some d→(∀n e,d≠.array n e)→fV P (execOp a.eval o)=(fV P (Instr.slice t (a.eval x) (lo.map a.eval) (N.map a.eval) (mx.map a.eval))).map .value:=fun d q hd=>by simp only[execOp,Z,Instr.sliceAt,dk,dM,q,Option.bind_some];cases d<;>first|exact absurd rfl (hd _ _)|(cases fV P (Instr.slice t (a.eval x) (lo.map a.eval) (N.map a.eval) (mx.map a.eval))<;>rfl)
 unfold fP at h;split at h
 ·next e b j n c q u C =>
  rw[u] at D;have⟨g,z,E,B,h1,h2,h3,h4,h5,h6⟩:=D.sl;split at h
  ·next Y cs bt fz I hb =>
   split at h
   ·next R =>
    subst R;split at h
    ·next f H U =>
     have⟨K,L⟩:=qb U;have⟨p,M,F⟩:=qa (P:=P) (sl:=true) U h4 h3;have⟨g',z',e2,X,h7,_,_,h8⟩:=hS.live b _ hb;rw[h1] at h7;cases h7;have T:E=Y:=by have:=(h8 cs bt fz rfl).1;rw[I] at this;cases this;rfl
     subst T;have J:mx=none:=by cases mx with
      | none=>rfl
      | some y=>simp at C
     have i:=m _ q iq;rw[J,h2,kX A K,kX w L] at i;simp only[Option.map_none,Instr.slice,dk,dM,q,Option.bind_some,p,nR,I,lY,Option.map_some] at i;split at h
     ·next a8 =>
      cases h;have a6:B≠f:=oq
      rw[iw a6,Addr.add_lit] at i;refine⟨.slice (some ⟨g,j+f*E,none⟩) (H-f) (B-f),?_,i⟩;refine VR.yU h1 oq oq oq ?_;rw[← h6,Nat.sub_mul];have:f*E≤B*E:=Nat.mul_le_mul_right _ oq;omega
     ·split at h
      ·next a5 =>
       cases h;subst a5;have:∃X,(Value.slice (if B=f then some (⟨g,j,none⟩:Addr) else some ((⟨g,j,none⟩:Addr).add (f*E))) (f-f) (B-f))=.slice (some ⟨g,X,none⟩) 0 (B-f):=by
        split
        ·exact⟨j,iq⟩
        ·exact⟨j+f*E,by simp[Addr.add_lit]⟩
       have⟨X,a7⟩:=this;rw[a7] at i;exact⟨_,VR.Cu h1 oq oq,i⟩
      ·cases h
    ·cases h
   ·cases h
  ·cases h
 ·next e b j n c k q u C =>
  rw[u] at D;have⟨g,z,E,B,h1,h2,h3,h4,h5,h6⟩:=D.sl;split at h
  ·next Y k2 I hl hh =>
   cases h;have i:=m _ q iq;rw[h2,kX A (by rw[hl];simp),kX w (by rw[hh];intro v u;cases u;rfl),kX V (by rw[C];intro v u;cases u;rfl),hl,hh,C] at i;refine⟨.slice (some ⟨g,j,none⟩) 0 0,VR.Cu h1 iq (by simp[maxLen]),?_⟩;rw[i];have Q:(0:Int)≤0∧(0:Int)≤((B:Nat):Int):=oq
   have a4:(0:Int)≤0∧(0:Int)≤(((0:Int).toNat:Nat):Int):=iq
   simp only[Instr.slice,dk,dM,q,Option.bind_some,Instr.sliceBounds,Instr.sliceBound,asIntOf,lY,ip Q,ip a4,nR,I];simp
  ·cases h
 ·next str q u C =>
  rw[u] at D;split at h
  ·next f H U =>
   cases h;have⟨K,L⟩:=qb U;have⟨p,M,F⟩:=qa (P:=P) (sl:=false) U lr lr;have J:mx=none:=by cases mx with
    | none=>rfl
    | some y=>simp at C
   have i:=m _ q iq;have W:iK str.data.toList 0=str.size:=by rw[iT,Nat.zero_add,Array.length_toList];rfl
   rw[W] at p F;rw[J,D.sc rfl,kX A K,kX w L] at i;refine⟨_,VR.dE rfl,?_⟩;rw[i];have R:(⟨((str.data.toList.take H).drop f).toArray⟩:ByteArray)=str.extract f H:=by apply nM;simp[ByteArray.data_extract,List.drop_take]
   rw[R];simp[Instr.slice,q,p]
  ·cases h
 ·next e q u C =>
  rw[u] at D;split at h
  ·next Y r I U =>
   cases h;have⟨f,H⟩:=r;have⟨K,L⟩:=qb U;have⟨p,M,F⟩:=qa (P:=P) (sl:=true) U lr lr;have J:mx=none:=by cases mx with
    | none=>rfl
    | some y=>simp at C
   have i:=m _ q iq;rw[J,D.sc rfl,kX A K,kX w L] at i;refine⟨_,VR.dE rfl,?_⟩;rw[i];have Q:H=0:=oq
   have h1:f=0:=oq
   subst Q h1;simp[Instr.slice,q,p,I]
  ·cases h
 ·cases h
def Hi(Y:Cy P KT N0 M O R D X Hd)(n:ops[j]?=some o)(p:Region.wanted o (yielded ops a.tmps)=true){e:Option Operand}(U:o.op=.slice t x lo e mx)(f:eB S aA a o)(d:eK P KT An S s l)(g:Hd i (l++fr) w)(h:fP P t (aA.at x) (lo.map aA.at) (e.map aA.at) (mx.map aA.at) s=some v)
 (k:Out P KT An Hd S s s fr v fun q c r=>ck X fn ops rest q Q (a.put o.dst c) r):ck X fn ops (j::rest) i Q a w:=by have⟨c,h1,h2⟩:=zv U f d h;refine dh Y.C Y.T n p fun b K m=>?_;rw[(mN h2 b #[]).1];exact m _ (k i S l w c (bJ.le_refl S) (fun _ _=>rfl) d g h1) (mN h2 b #[]).2
end
section
variable {ι:Type}{P:Program}{KT:TypeId→Prop}{An:bJ}{N0:ι→Nat}{M:ι→World→Nat→Prop}{O:ι→Nat→Prop}{R:ι→Wq}{D:ι→World→World→Array Event→Prop}{X:ι→Gq}{Hd:ι→Hq→World→Prop}
variable {fn:FuncId}{Q:dV ι}{a:Act}{w:World}{i:ι}{S:bJ}{s s':AS}{l fr rl:Hq}{aA:TL}{v:Value}{ops:Array Oper}{j:Nat}{rest:List Nat}{o:Oper}{kt:TypeId→Bool}{H:Hq→World→Prop}
def jV(C:bw P true R D X)(Z:Co KT (N0 i) (M i) (O i) (R i) (D i) H){bytes:Nat}(k:Nat)(ho:ops[j]?=some o)(hw:Region.wanted o (yielded ops a.tmps)=true)(G:o.op=.call { callee:=.builtin .append,args:=#[x,y],argTypes:=#[t,t] })
 (F:∀w,(Builtin.append_ #[t,t] o.type #[a.eval x,.slice (some ⟨bt,off,none⟩) m c]).run P w=(Builtin.append_ #[t,t] o.type #[v,.slice (some ⟨bt,off,none⟩) m c]).run P w∧(Builtin.append_ #[t,t] o.type #[a.eval x,.slice (some ⟨bt,off,none⟩) m c]).events P w #[]=(Builtin.append_ #[t,t] o.type #[v,.slice (some ⟨bt,off,none⟩) m c]).events P w #[])(I:a.eval y=.slice (some ⟨bt,off,none⟩) m c)(he:¬KT e)(ht:P.underlying t=some (.slice e))(hi:(P.info? e).map (fun i=>(i.zero,i.size,i.bytes))=some (some z,sz,bytes))(hz:z.cells.size=sz)(T:0<sz)(hm:0<m)(g:news.length=m*sz)(h1:∀u∈news,u.oneCell'=true)(hn:n+m≤maxLen)(L:(n+m)*bytes≤140737488355328)
 (W:H (rl++l) w)(hk:l[k]?=some (bt,.cells cur t' fz))(J:∀j u,news[j]?=some u→cur[off+j]?=some u)(hr:ig e sz v n xs rl)
 (h:∀r U p,H (U++l) p→lp e sz r (n+m) (xs++news) U→ck X fn ops rest i Q (a.put o.dst r) p):ck X fn ops (j::rest) i Q a w:=by
 refine aF C ho hw fun b hR K Y=>?_;have d:=Z.rely W hR;have q:(bt,Obj.cells cur t' fz)∈rl++l:=List.mem_append_right _ (mG hk);obtain⟨B,hb⟩:=Z.own d q;obtain⟨r,p,U,f,s,E,hO,_,_,A,_⟩:=HL.Jh (l:=[]) (P:=P) (rl:=rl) Z.env he (by simpa using(Z.hl d).left.lg) hr t o.type z bytes ht hi hz T ⟨bt,off,none⟩ m c hm g (fun j u hu=>by rw[Addr.add_lit];simp[World.cell?,hb,J j u hu]) B h1 hn L
 ·have s:HL (M i) (O i) (N0 i) (jS rl) b U p:=by simpa using s
  have S:(execOp a.eval o).run P b=.ok (.value r) p:=by unfold execOp;simp only[G,resolve,invoke,builtin,Sem.run_bind,Sem.run_pure,Result.andThen_ok,List.map_toArray,List.map_cons,List.map_nil,I,(F b).1,f]
  have N:(execOp a.eval o).events P b #[]=(Builtin.append_ #[t,t] o.type #[v,.slice (some ⟨bt,off,none⟩) m c]).events P b #[]:=by unfold execOp;simp only[G,resolve,invoke,builtin,Sem.events_bind,Sem.run_pure,Sem.events_pure,Result.evThen_ok,List.map_toArray,List.map_cons,List.map_nil,I,(F b).1,(F b).2,f]
  rw[S];refine Y _ _ ⟨Z.env.jA (Z.size d) hO fun V g=>?_,h r U p (Z.call d s) E⟩;have g:=mem_listed g;rw[N] at g;exact A V g
def mn(C:bw P true R D X)(Z:Co KT (N0 i) (M i) (O i) (R i) (D i) H){str:ByteArray}(T:ops[j]?=some o)(hw:Region.wanted o (yielded ops a.tmps)=true)(r:o.op=.call { callee:=.builtin .append,args:=#[x,y],argTypes:=#[t,u] })
 (s:a.eval x=v)(z:a.eval y=.string str)(L:¬KT e)(W:P.underlying t=some (.slice e))(Y:P.underlying u=some .string)(N:(P.info? e).map (fun i=>(i.zero,i.size,i.bytes))=some (some (.int .u8 0),1,1))(S:n+str.size≤140737488355328)
 (F:H (rl++l) w)(V:ig e 1 v n xs rl)
 (h:∀k U g,H (U++l) g→ig e 1 k (n+str.size) (xs++strCells str) U→ck X fn ops rest i Q (a.put o.dst k) g):ck X fn ops (j::rest) i Q a w:=by
 refine aF C T hw fun c J K G=>?_;have b:=Z.rely F J;obtain⟨k,g,U,d,f,⟨q,_⟩,I,_,_,p⟩:=HL.Ac (l:=[]) (P:=P) (rl:=rl) Z.env L (by simpa using(Z.hl b).left.lg) V t u o.type W Y N str S;have f:HL (M i) (O i) (N0 i) (jS rl) c U g:=by simpa using f
 have B:(execOp a.eval o).run P c=.ok (.value k) g:=by unfold execOp;simp only[r,resolve,invoke,builtin,Sem.run_bind,Sem.run_pure,Result.andThen_ok,List.map_toArray,List.map_cons,List.map_nil,s,z,d]
 have A:(execOp a.eval o).events P c #[]=(Builtin.append_ #[t,u] o.type #[v,.string str]).events P c #[]:=by unfold execOp;simp only[r,resolve,invoke,builtin,Sem.events_bind,Sem.run_pure,Sem.events_pure,Result.evThen_ok,List.map_toArray,List.map_cons,List.map_nil,s,z,d]
 rw[B];refine G _ _ ⟨Z.env.jA (Z.size b) I fun E m=>?_,h k U g (Z.call b f) q⟩;have m:=mem_listed m;rw[A] at m;exact p E m
def eK.erased(U:eK P KT An S s l){z e:Nat}(r:S b=some (g,z,e))(p:s.get b≠none)(t:l[k]?=some (g,o')):eK P KT An S (s.set b none) (l.eraseIdx k) where
 live b' o1 h1:=by
  rw[AS.aH] at h1
  split at h1
  ·
   cases h1
  ·
   next f =>
   have⟨a,w,i,c,h2,h3,n,o⟩:=U.live b' o1 h1
   refine⟨a,w,i,c,h2,?_,n,o⟩
   have⟨v,h⟩:=Option.ne_none_iff_exists'.1 p
   have d:a≠g:=fun j=>f (U.inj b' b o1 v _ _ h1 h h2 r j)
   have u:(a,c)∈(g,o')::l.eraseIdx k:=(kY t).mem_iff.2 h3
   rcases List.mem_cons.1 u with q|q
   ·
    cases q;exact absurd rfl d
   ·
    exact q
 inj m m' o1 o2 x x' h1 h2:=by
  rw[AS.aH] at h1 h2
  split at h1
  ·
   cases h1
  ·
   split at h2
   ·
    cases h2
   ·
    exact U.inj m m' o1 o2 x x' h1 h2
 lt m o1 h1:=by
  rw[AS.aH] at h1
  split at h1
  ·
   cases h1
  ·
   exact U.lt m o1 h1
 an:=U.an
def kg(Y:Cy P KT N0 M O R D X Hd)(v:eK P KT An S s l){h:Hq}(E:0<n)(F:0<sz)(u:Hd i (h++(l++fr)) w)(B:ig e sz v' n VZ h)(c:S s.nx=none)(p:bQ P e=some sz)(r:¬KT e)(U:Ot.length=n*sz)
 (o:∀(m:Nat) (x y:Value),Ot[m]?=some x→VZ[m]?=some y→VR S x y):∃a k,S.le a∧(∀b,b<s.nx∨s.nx+1≤b→a b=S b)∧eK P KT An a (s.add (.cells Ot.toArray e (1,1))) k∧Hd i (k++fr) w∧VR a (.slice (sq s.nx) n n) v':=by
 rcases B.2 with ⟨_,h0,_⟩|⟨g,cap,cur,rfl,rfl,h1,h2,h3,h4⟩
 ·omega
 have f:Hd i ((g,Obj.cells cur e)::l++fr) w:=u;have d:OR (S.put s.nx (g,cur.size,sz)) cur.size (.cells Ot.toArray e (1,1)) (.cells cur e):=by
  refine⟨cur,rfl,rfl,⟨?_,fun q=>by cases q⟩,fun m x y j C=>?_⟩
  ·simp;rw[U,h3];exact Nat.mul_le_mul_right _ h1
  ·have A:m<n*sz:=by rw[← U];have:=(Array.getElem?_eq_some_iff.1 j).1;simpa using this
   refine(o m x y (by simpa using j) ?_).mono (bJ.jT c);rw[← h4,List.getElem?_take,ip A];simpa using C
 refine⟨S.put s.nx (g,cur.size,sz),_,bJ.jT c,fun b I=>?_,v.grown c (Y.fresh f) d fun G t H z=>?_,f,VR.yU bJ.iG lr h1 h2 (by rw[h3];omega)⟩
 ·unfold bJ.put;rw[iw oq]
 ·cases z;exact⟨p,r⟩
def Ak(q:eK P KT An S s l){ad:Addr}(w:VR S (.slice (some ad) n c) v')(h:eh s sz (some ad) n=some xs)(I:0<n) :
  ∃(g i k:Nat) (a:Aq) (t:TypeId),v'=.slice (some ⟨g,ad.off,none⟩) n i∧l[k]?=some (g,.cells a t)∧xs.length=n*sz∧ad.off+n*sz≤a.size∧∀(m:Nat) (x y:Value),xs[m]?=some x→((a.toList.drop ad.off).take (n*sz))[m]?=some y→VR S x y:=by
 obtain⟨g,z,e,B,i,h1,rfl,h3,H,j⟩:=w.jX;have j:B=ad.off:=oq
 subst j;have⟨b,C,sp⟩:=ad;unfold eh at h;simp only at h;split at h
 ·next F t G r =>
  split at h
  ·next D =>
   cases h;have⟨A,K,u,E,_,p,_⟩:=q.at (fr:=[]) r h1;obtain⟨a,rfl,J,⟨o,_⟩,d⟩:=p;refine⟨g,i,A,a,t,rfl,u,by simp;omega,by simp only at *;omega,fun m x y U f=>?_⟩;rw[List.getElem?_take] at U f;split at U
   ·next v =>rw[ip v] at f;rw[List.getElem?_drop] at U f;exact d _ x y (by simpa using U) (by simpa using f)
   ·cases U
  ·cases h
 ·cases h
def ze(v:eK P KT An S s l)(E:VR S (.slice (sq b) n c) v')(w:s.get b=some (.cells cs t fz))(D:t=e)(q:bQ P e=some sz)(I:n*sz≤cs.size) :
  ∃(g z U k:Nat) (a:Aq),S b=some (g,z,U)∧l[k]?=some (g,.cells a e)∧ig e sz v' n (a.toList.take (n*sz)) [(g,.cells a e)]∧∀(m:Nat) (x y:Value),(cs.toList.take (n*sz))[m]?=some x→(a.toList.take (n*sz))[m]?=some y→VR S x y:=by
 subst D;obtain⟨g,z,U,r,h1,rfl,h3,G,u,H⟩:=E.sl;have⟨F,K,A,B,_,i,j⟩:=v.at (fr:=[]) w h1;obtain⟨a,rfl,J,⟨p,_⟩,d⟩:=i;have h:U=sz:=by have:=(j cs t fz rfl).1;rw[q] at this;cases this;rfl
 subst h;refine⟨g,z,U,F,a,h1,A,⟨by simp;omega,.inr ⟨g,r,a,rfl,rfl,oq,u,oq,rfl⟩⟩,fun m x y f o=>?_⟩;rw[List.getElem?_take] at f o;split at f
 ·next C =>rw[ip C] at o;exact d m x y (by simpa using f) (by simpa using o)
 ·cases f
def BK{ys:Vq}(h1:xs.length=ys.length)(b:∀(m:Nat) (x y:Value),xs[m]?=some x→ys[m]?=some y→VR S x y)(a:∀(m:Nat) (x y:Value),us[m]?=some x→vs[m]?=some y→VR S x y):∀(m:Nat) (x y:Value),(xs++us)[m]?=some x→(ys++vs)[m]?=some y→VR S x y:=by
 intro m x y h U;rw[List.getElem?_append] at h U;rw[← h1] at U;split at h
 ·rw[ip (by assumption)] at U;exact b m x y h U
 ·rw[iw (by assumption)] at U;exact a _ x y h U
def Ki{ys:Vq}(h1:xs.length=ys.length)(c:∀(m:Nat) (x y:Value),xs[m]?=some x→ys[m]?=some y→VR S x y)(h:xs.all Value.oneCell'=true):∀u∈ys,u.oneCell'=true:=by
 intro u U;have⟨m,b⟩:=List.mem_iff_getElem?.1 U;have d:=(gS.1 b).1;have a:m<xs.length:=oq
 rw[(c m _ u (gE a) b).Cw];rw[aT] at h;exact h _ (List.getElem_mem _)
def xQ{base ad:Option Addr}(b:P.underlying t=some (.slice e))(a:bQ P e=some sz)(U:n≤cap):fV P (Builtin.append_ #[t,t] ty #[.slice base n cap,.slice ad 0 c])=some (.slice base n cap):=by unfold Builtin.append_;cases base<;>cases ad<;>simp[b,a,Builtin.lenOf,Builtin.firstCells,loadCells,loadCellsFrom,storeCells,U]
def vO{base:Option Addr}{str:ByteArray}(d:P.underlying t=some (.slice e))(f:P.underlying u=some .string)(c:bQ P e=some sz)(a:n≤cap)(U:str.size=0):fV P (Builtin.append_ #[t,u] ty #[.slice base n cap,.string str])=some (.slice base n cap):=by
 have h1:(str.extract 0 0).data.map (fun b=>Value.int .u8 b.toNat)=#[]:=by apply Array.toList_inj.1;simp
 unfold Builtin.append_;cases base<;>simp[d,f,c,Builtin.lenOf,Builtin.firstCells,storeCells,a,U]
def xP{bytes:Nat}{p q:Addr}(g:P.underlying t=some (.slice e))(a:(P.info? e).map (fun i=>(i.zero,i.size,i.bytes))=some (some z,sz,bytes))(f:0<m)(h:m*bytes≤140737488355328)(w:World) :
  (Builtin.append_ #[t,t] ty #[.slice (some p) 0 0,.slice (some q) m c]).run P w=(Builtin.append_ #[t,t] ty #[.slice none 0 0,.slice (some q) m c]).run P w ∧
  (Builtin.append_ #[t,t] ty #[.slice (some p) 0 0,.slice (some q) m c]).events P w #[]=(Builtin.append_ #[t,t] ty #[.slice none 0 0,.slice (some q) m c]).events P w #[]:=by
 have⟨j,a,h1,h2,h3⟩:=info_parts a;have d:¬Builtin.nextslicecap m 0*bytes>2 ^ 48:=by
  have:Builtin.nextslicecap m 0=m:=by simp[Builtin.nextslicecap,f]
  rw[this];omega
 have U:¬m≤0:=oq
 have b:m≠0:=oq
 unfold Builtin.append_;constructor;iterate 2
  ·simp[run_underlying g,sizeOf,typeInfo,a,h2,h3,Builtin.lenOf,Builtin.firstCells,loadCells,loadCellsFrom,b,d]
end
section
variable {ι:Type}{P:Program}{KT:TypeId→Prop}{An:bJ}{N0:ι→Nat}{M:ι→World→Nat→Prop}{O:ι→Nat→Prop}{R:ι→Wq}{D:ι→World→World→Array Event→Prop}{X:ι→Gq}{Hd:ι→Hq→World→Prop}
variable {fn:FuncId}{Q:dV ι}{a:Act}{w:World}{i:ι}{S:bJ}{s s':AS}{l fr rl:Hq}{aA:TL}{v:Value}{ops:Array Oper}{j:Nat}{rest:List Nat}{o:Oper}{kt:TypeId→Bool}
def wV(Y:Cy P KT N0 M O R D X Hd)(ho:ops[j]?=some o)(hw:Region.wanted o (yielded ops a.tmps)=true)(hS:eK P KT An S s l)(U:Hd i (l++fr) w)(h:fV P (execOp a.eval o)=some (.value v'))(hv:VR S v v')
 (k:Out P KT An Hd S s s fr v fun i' v' w'=>ck X fn ops rest i' Q (a.put o.dst v') w'):ck X fn ops (j::rest) i Q a w:=by refine dh Y.C Y.T ho hw fun aE K hK=>?_;rw[(mN h aE #[]).1];exact hK _ (k i S l w v' (bJ.le_refl S) (fun _ _=>rfl) hS U hv) (mN h aE #[]).2
def qU{c:Call}{b:Builtin}{r:Value}(a1:o.op=.call c)(a0:c.callee=.builtin b)(U:c.args=#[x,y])(a2:c.argTypes=#[t,u])
 (h:fV P (match b with|.append=>Builtin.append_ #[t,u] o.type #[a.eval x,a.eval y]|_=>Builtin.unsafeString_ #[t,u] o.type #[a.eval x,a.eval y])=some r)(hb:b=.append∨b=.unsafeString):fV P (execOp a.eval o)=some (.value r):=by
 rcases hb with rfl|rfl
 iterate 2
  ·simp only at h;simp[execOp,a1,resolve,a0,invoke,builtin,U,a2,h]
def Em(Y:Cy P KT N0 M O R D X Hd)(a8:∀t,kt t=false→¬KT t)(ho:ops[j]?=some o)(hw:Region.wanted o (yielded ops a.tmps)=true)(ab:o.op=.call { callee:=.builtin .append,args:=#[x,y],argTypes:=#[t,t] })(hA:eB S aA a o)(K:eK P KT An S s l)(G:Hd i (l++fr) w)
 {yy:Option Addr}{bytes:Nat}(b6:aA.at y=.slice yy m cy)(ht:P.underlying t=some (.slice e))(hi:(P.info? e).map (fun i=>(i.zero,i.size,i.bytes))=some (some z,sz,bytes))(a6:eh s sz yy m=some news)(hz:z.cells.size=sz)(a9:0<sz)(ax:bytes≤1000)(b5:m≤1000000000)(a7:kt e=false)(ao:dz (aA.at x) yy=true)(au:news.all Value.oneCell'=true)
 (h:bn P e (aA.at x) news m s=some (v,s'))(ah:∀b,s.nx≤b→b<s'.nx→S b=none)
 (k:Out P KT An Hd S s s' fr v fun i' v' w'=>ck X fn ops rest i' Q (a.put o.dst v') w'):ck X fn ops (j::rest) i Q a w:=by
 unfold eB at hA;rw[ab] at hA;have A:=hA x (by simp[Op.operands,Call.operands]);have hy:=hA y (by simp[Op.operands,Call.operands]);rw[b6] at hy;obtain⟨i0,SL,WU,Sn,MH⟩:=info_parts hi;have f:bQ P e=some sz:=by simp[bQ,SL,Sn]
 have a3:∀n,n≤1000000000→n*bytes≤140737488355328:=fun n hn=>lT (Nat.mul_le_mul hn ax) (by omega);by_cases E:m=0
 ·
  subst E;have U:∃p c,a.eval y=.slice p 0 c:=by
   cases yy with
   | none=>rw[hy.sc rfl];exact⟨_,_,rfl⟩
   | some p=>obtain⟨g,z,e,o',c',_,h2,_⟩:=hy.jX;exact⟨_,_,h2⟩
  obtain⟨p,c,U⟩:=U;have key:∀J n V,a.eval x=.slice J n V→n≤V→fV P (execOp a.eval o)=some (.value (a.eval x)):=fun J n V he hn =>qU ab rfl rfl rfl (by simp only;rw[he,U];exact xQ ht f hn) (.inl rfl);unfold bn at h;split at h
  ·next r =>simp only[if_true] at h;cases h;rw[r] at A;have ai:=A.sc rfl;exact wV Y ho hw K G (key _ _ _ ai lr) (by rw[r];exact A) k
  ·next b n cp r =>simp only[if_true] at h;cases h;rw[r] at A;obtain⟨g,z',e',c',h1,h2,h3,h4,_⟩:=A.sl;exact wV Y ho hw K G (key _ _ _ h2 (by omega)) (by rw[r];exact A) k
  ·simp at h
  ·cases h
 ·have T:0<m:=by omega
  obtain⟨p,rfl⟩:∃p,yy=some p:=by
   cases yy with
   | none=>simp[eh,E] at a6
   | some p=>exact⟨p,rfl⟩
  obtain⟨gy,b8,ky,N,ty,U,aa,a4,b9,a5⟩:=Ak K hy a6 T;have I:((N.toList.drop p.off).take (m*sz)).length=m*sz:=by simp;omega
  have a2:=Ki (by rw[a4,I]) a5 au;have d:∀(q:Nat) (u:Value),((N.toList.drop p.off).take (m*sz))[q]?=some u→N[p.off+q]?=some u:=fun q u hu=>by
   rw[List.getElem?_take] at hu;split at hu
   ·rw[List.getElem?_drop] at hu;simpa using hu
   ·cases hu
  unfold bn at h;split at h
  ·next r =>
   rw[iw E] at h;cases h;rw[r] at A;have ai:=A.sc rfl;have W:(l++fr)[ky]?=some (gy,.cells N ty):=by rw[List.getElem?_append_left (gS.1 aa).1];exact aa
   refine jV Y.C (Y.Z G) (rl:=[]) (l:=l++fr) (xs:=[]) (n:=0) ky ho hw ab (fun w=>by rw[ai];exact⟨rfl,rfl⟩) U (a8 e a7) ht hi hz a9 T I a2 (by simp[maxLen];omega) (a3 _ (by omega)) (by simpa using G) W d (lp.nil e sz).zero fun v' Ri w' B F=>?_;obtain⟨S',l',h1,h2,h3,h4,h5⟩:=kg Y K T a9 B (by simpa using F.zero) (ah _ lr (by simp)) f (a8 e a7) a4 a5;exact k i S' l' w' v' h1 h2 h3 h4 h5
  ·next b n cp r =>
   rw[iw E] at h;split at h
   ·next cs t' fz ba hb aw =>
    rw[f] at aw;cases aw;split at h
    ·next hc =>
     obtain⟨ay,az,b1⟩:=hc;cases h;rw[r] at A;obtain⟨g,zz,e',kx,af,h1,H,L,Pr⟩:=ze (l:=l) K A hb ay f az;have b3:gy≠g:=by
      rintro rfl;obtain⟨b2,YS,sp2⟩:=p;have aj:∃z2 e2,S b2=some (gy,z2,e2):=by obtain⟨g2,z2,e2,o2,c2,q1,q2,_⟩:=hy.jX;rw[U] at q2;cases q2;exact⟨z2,e2,q1⟩
      obtain⟨z2,e2,aj⟩:=aj;have ag:∃ak,s.get b2=some ak:=by
       unfold eh at a6;simp only at a6;split at a6
       ·next q _ _ hq=>exact⟨_,hq⟩
       ·cases a6
      obtain⟨ak,ag⟩:=ag
      have:=K.inj b2 b ak _ _ _ ag hb aj h1 rfl;rw[r] at ao;simp[dz,this] at ao
     have ae:=(gS.1 H).1;have SQ:(l++fr)[kx]?=some (g,.cells af e):=by rw[List.getElem?_append_left ae];exact H
     have al:=(Y.Z G).front G kx SQ;rw[List.eraseIdx_append_of_lt_length ae] at al;have SW:(gy,Obj.cells N ty)∈l.eraseIdx kx++fr:=by
      refine List.mem_append_left _ ?_;have b4:(gy,Obj.cells N ty)∈(g,Obj.cells af e)::l.eraseIdx kx:=(kY H).mem_iff.2 (mG aa);rcases List.mem_cons.1 b4 with q|q
      ·cases q;exact absurd rfl b3
      ·exact q
     obtain⟨b7,aq⟩:=List.mem_iff_getElem?.1 SW;refine jV Y.C (Y.Z G) (rl:=[(g,.cells af e)]) (l:=l.eraseIdx kx++fr) b7 ho hw ab (fun w=>⟨rfl,rfl⟩) U (a8 e a7) ht hi hz a9 T I a2 (by simp[maxLen];omega) (a3 _ b1) al aq d L fun v' Ri w' B F=>?_;have Ly:=K.erased h1 (by rw[hb];simp) H;have Ve:(cs.toList.take (n*sz)).length=n*sz:=by simp;omega
     have ar:=L.1;obtain⟨S',l',q1,q2,q3,q4,q5⟩:=kg Y Ly (by omega) a9 B F.zero (ah _ lr (by simp)) f (a8 e a7) (Ot:=cs.toList.take (n*sz)++news) (by rw[lA,Ve,a4,Nat.add_mul]) (BK (by rw[Ve,ar]) Pr a5);exact k i S' l' w' v' q1 q2 q3 q4 q5
    ·cases h
   ·cases h
  ·next r =>
   rw[iw E] at h;cases h;rw[r] at A;obtain⟨g,zz,e',o',c',h1,h2,h3,h4,h5⟩:=A.KQ;have Xu:=h4 rfl;subst Xu;have W:(l++fr)[ky]?=some (gy,.cells N ty):=by rw[List.getElem?_append_left (gS.1 aa).1];exact aa
   refine jV Y.C (Y.Z G) (rl:=[]) (l:=l++fr) (xs:=[]) (n:=0) (v:=.slice none 0 0) ky ho hw ab (fun w=>by rw[h2];exact xP ht hi T (a3 _ b5) w) U (a8 e a7) ht hi hz a9 T I a2 (by simp[maxLen];omega) (a3 _ (by omega)) (by simpa using G) W d (lp.nil e sz).zero fun v' Ri w' B F=>?_;obtain⟨S',l',q1,q2,q3,q4,q5⟩:=kg Y K T a9 B (by simpa using F.zero) (ah _ lr (by simp)) f (a8 e a7) a4 a5;exact k i S' l' w' v' q1 q2 q3 q4 q5
  ·cases h
def lk(str:ByteArray):∀(m:Nat) (x y:Value),(strCells str)[m]?=some x→(strCells str)[m]?=some y→VR S x y:=fun m x y U a=>by rw[U] at a;cases a;unfold strCells at U;rw[List.getElem?_map,Option.map_eq_some_iff] at U;obtain⟨b,_,rfl⟩:=U;exact VR.dE rfl
def A5(Y:Cy P KT N0 M O R D X Hd)(V:∀t,kt t=false→¬KT t)(ho:ops[j]?=some o)(hw:Region.wanted o (yielded ops a.tmps)=true)(a3:o.op=.call { callee:=.builtin .append,args:=#[x,y],argTypes:=#[t,u] })(hA:eB S aA a o)(I:eK P KT An S s l)(r:Hd i (l++fr) w)
 {str:ByteArray}(af:aA.at y=.string str)(ht:P.underlying t=some (.slice e))(hu:P.underlying u=some .string)(hi:(P.info? e).map (fun i=>(i.zero,i.size,i.bytes))=some (some (.int .u8 0),1,1))(ah:str.size≤1000000000)(T:kt e=false)(a8:fI (aA.at x)=true)
 (h:bn P e (aA.at x) (strCells str) str.size s=some (v,s'))(a6:∀b,s.nx≤b→b<s'.nx→S b=none)
 (k:Out P KT An Hd S s s' fr v fun i' L N=>ck X fn ops rest i' Q (a.put o.dst L) N):ck X fn ops (j::rest) i Q a w:=by
 unfold eB at hA;rw[a3] at hA;have d:=hA x (by simp[Op.operands,Call.operands]);have hy:=hA y (by simp[Op.operands,Call.operands]);rw[af] at hy;have G:=hy.sc rfl;obtain⟨i0,SL,WU,Sn,MH⟩:=info_parts hi;have c:bQ P e=some 1:=by simp[bQ,SL,Sn]
 have a4:(strCells str).length=str.size*1:=by rw[strCells_length,Nat.mul_one]
 by_cases W:str.size=0
 ·have K:∀f n q,a.eval x=.slice f n q→n≤q→fV P (execOp a.eval o)=some (.value (a.eval x)):=fun f n q he hn =>qU a3 rfl rfl rfl (by simp only;rw[he,G];exact vO ht hu c hn W) (.inl rfl);rw[W] at h;unfold bn at h;split at h
  ·next U =>simp only[if_true] at h;cases h;rw[U] at d;have F:=d.sc rfl;exact wV Y ho hw I r (K _ _ _ F lr) (by rw[U];exact d) k
  ·next b n cp U =>simp only[if_true] at h;cases h;rw[U] at d;obtain⟨g,z',e',c',h1,h2,h3,h4,_⟩:=d.sl;exact wV Y ho hw I r (K _ _ _ h2 (by omega)) (by rw[U];exact d) k
  ·simp at h
  ·cases h
 ·have ae:0<str.size:=by omega
  unfold bn at h;split at h
  ·next U =>rw[iw W] at h;cases h;rw[U] at d;have F:=d.sc rfl;refine mn Y.C (Y.Z r) (rl:=[]) (l:=l++fr) (xs:=[]) (n:=0) ho hw a3 F G (V e T) ht hu hi (by omega) (by simpa using r) (lp.nil e 1).zero fun L Ri N z B=>?_;obtain⟨S',l',h1,h2,h3,h4,h5⟩:=kg Y I ae (by omega) z (by simpa using B) (a6 _ lr (by simp)) c (V e T) a4 (lk str);exact k i S' l' N L h1 h2 h3 h4 h5
  ·next b n cp U =>
   rw[iw W] at h;split at h
   ·next cs t' fz ai hb a9 =>
    rw[c] at a9;cases a9;split at h
    ·next hc =>
     obtain⟨aa,ab,ag⟩:=hc;cases h;rw[U] at d;obtain⟨g,zz,e',kx,H,h1,A,p,E⟩:=ze (l:=l) I d hb aa c ab;have m:=(gS.1 A).1;have SQ:(l++fr)[kx]?=some (g,.cells H e):=by rw[List.getElem?_append_left m];exact A
     have a5:=(Y.Z r).front r kx SQ;rw[List.eraseIdx_append_of_lt_length m] at a5;refine mn Y.C (Y.Z r) (rl:=[(g,.cells H e)]) (l:=l.eraseIdx kx++fr) ho hw a3 rfl G (V e T) ht hu hi (by omega) a5 p fun L Ri N z B=>?_;have Ly:=I.erased h1 (by rw[hb];simp) A;have J:(cs.toList.take (n*1)).length=n*1:=by simp;omega
     have a7:=p.1;obtain⟨S',l',q1,q2,q3,q4,q5⟩:=kg Y Ly (by omega) (by omega) z B (a6 _ lr (by simp)) c (V e T) (Ot:=cs.toList.take (n*1)++strCells str) (by rw[lA,J,a4,Nat.add_mul]) (BK (by rw[J,a7]) E (lk str));exact k i S' l' N L q1 q2 q3 q4 q5
    ·cases h
   ·cases h
  ·next U =>rw[U] at a8;simp[fI] at a8
  ·cases h
def jP:∀{l:Vq} {U:Bq},jF l=some U→l=U.map fun b=>Value.int .u8 b.toNat
 | [],U,h=>by simp[jF] at h;subst h;rfl
 | x::l,U,h=>by
  unfold jF at h;split at h
  ·next e=>cases e
  ·next y r e =>
   cases e;split at h
   ·next hr =>
    split at h
    ·next a0 hb =>
     cases h;rw[jP hb];simp only[List.map_cons];congr 2;have:(y.toNat.toUInt8).toNat=y.toNat:=by rw[Nat.toUInt8,UInt8.toNat_ofNat'];omega
     rw[this];omega
    ·cases h
   ·cases h
  ·cases h
def Kp(Y:Cy P KT N0 M O R D X Hd)(ho:ops[j]?=some o)(hw:Region.wanted o (yielded ops a.tmps)=true)(G:o.op=.call { callee:=.builtin .unsafeString,args:=#[x,y],argTypes:=#[pt,it] })(A:eB S aA a o)(hS:eK P KT An S s l)(hF:Hd i (l++fr) w)
 {n:Int}{U:Bq}(hx:aA.at x=.pointer (sq b))(hy:aA.at y=.int .i64 n)(hp:P.underlying pt=some (.pointer e))(hb:s.get b=some (.cells cs t fz))(a4:P.cellsOf e=1)(ab:t=e)(af:0<n)(ag:n≤1000000000)(ah:n.toNat≤cs.size)(a3:jF (cs.toList.take n.toNat)=some U)
 (k:Out P KT An Hd S s (s.set b none) fr (.string ⟨U.toArray⟩) fun i' v' w'=>ck X fn ops rest i' Q (a.put o.dst v') w'):ck X fn ops (j::rest) i Q a w:=by
 subst ab;unfold eB at A;rw[G] at A;have a7:=A x (by simp[Op.operands,Call.operands]);have h:=A y (by simp[Op.operands,Call.operands]);rw[hx] at a7;rw[hy] at h;have h:=h.sc rfl;have⟨g,z,e',h1,h2⟩:=a7.ptr;have⟨kk,o',hk,T,r,Pp,Pv⟩:=hS.at (fr:=fr) hb h1;obtain⟨f,rfl,hz,⟨Oe,hex⟩,p⟩:=Pp;have H:U.length=n.toNat:=by have:=congrArg List.length (jP a3);simp at this;omega
 have a5:U≠[]:=by rintro rfl;simp at H;omega
 have a8:a.eval y=.int .i64 (U.length:Int):=by rw[h];congr 1;omega
 have Z:=Y.Z hF;refine aF Y.C ho hw fun c hR K hK=>?_;have d:=Z.rely hF hR;have⟨V,L⟩:=Z.own d (mG r);have v:c.shape? g=some (t,f.size):=by simp[World.shape?,L]
 have a0:∀j x,U[j]?=some x→c.cell? ((⟨g,0,none⟩:Addr).add j)=some (.int .u8 x.toNat):=fun q b1 F=>by
  rw[Addr.add_lit];have ae:q<U.length:=(gS.1 F).1;have I:cs[q]?=some (.int .u8 b1.toNat):=by
   have:(cs.toList.take n.toNat)[q]?=some (.int .u8 b1.toNat):=by rw[jP a3];simp[F]
   rw[List.getElem?_take,ip oq] at this;simpa using this
  have a6:q<f.size:=oq
  have:=(p q _ _ I (gF a6)).sc rfl;simp[World.cell?,L,this,a6]
 have B:Own KT (M i) c (c.freeze ⟨g,0,none⟩ U.length):=Own.freeze L V (Pv cs t fz rfl).2 _;have m:=Lib.run_unsafeString_row (P:=P) c pt it o.type t hp a4 g f.size v U a5 oq oq a0;have J:=j7 (P:=P) c pt it o.type t hp a4 g f.size v U a5 oq oq a0;have Te:(execOp a.eval o).run P c=.ok (.value (.string ⟨U.toArray⟩)) (c.freeze ⟨g,0,none⟩ U.length):=by unfold execOp;simp only[G,resolve,invoke,builtin,Sem.run_bind,Sem.run_pure,Result.andThen_ok,List.map_toArray,List.map_cons,List.map_nil,h2,a8,m]
 have aa:(execOp a.eval o).events P c #[]=(Builtin.unsafeString_ #[pt,it] o.type #[.pointer (sq g),.int .i64 U.length]).events P c #[]:=by unfold execOp;simp only[G,resolve,invoke,builtin,Sem.events_bind,Sem.run_pure,Sem.events_pure,Result.evThen_ok,List.map_toArray,List.map_cons,List.map_nil,h2,a8,m]
 rw[Te];have a2:=Z.front d kk r;rw[List.eraseIdx_append_of_lt_length T] at a2;have u:=Z.env.lt V;obtain⟨ob,W⟩:∃ob,(c.freeze ⟨g,0,none⟩ U.length).heap[g]?=some ob:=by have N:g<(c.freeze ⟨g,0,none⟩ U.length).heap.size:=lL u B.grow;exact⟨_,gF N⟩
 have a9:=Z.drop (Z.turn a2 B W fun q F=>qk _ F);refine hK _ _ ⟨?_,k i S _ _ _ (bJ.le_refl S) (fun _ _=>rfl) (hS.erased h1 (by rw[hb];simp) hk) a9 (VR.dE rfl)⟩;refine Z.env.jA (Z.size d) B fun ev E=>?_;have E:=mem_listed E;rw[aa] at E;have⟨ad,q1,q2⟩:=J ev E;exact .inl ⟨ad,q1,by rw[q2];exact Z.env.mine B V⟩
def Kk(Y:Cy P KT N0 M O R D X Hd)(ho:ops[j]?=some o)(hw:Region.wanted o (yielded ops a.tmps)=true)(T:o.op=.call { callee:=.builtin .copy,args:=#[x,y],argTypes:=#[t,u] })(H:eB S aA a o)(hS:eK P KT An S s l)(V:Hd i (l++fr) w)
 {str:ByteArray}{m:TypeId}(hx:aA.at x=.slice (some ⟨b,off,none⟩) n cp)(hy:aA.at y=.string str)(ht:P.underlying t=some (.slice e))(hb:s.get b=some (.cells cs m fz))(a4:bQ P e=some 1)(hn:str.size=n)(a9:off+n≤cs.size)
 (k:Out P KT An Hd S s (s.set b (some (.cells (putAt cs off (strCells str)) m fz))) fr (goInt (iK str.data.toList 0)) fun i' v' w'=>ck X fn ops rest i' Q (a.put o.dst v') w'):ck X fn ops (j::rest) i Q a w:=by
 unfold eB at H;rw[T] at H;have a7:=H x (by simp[Op.operands,Call.operands]);have h:=H y (by simp[Op.operands,Call.operands]);rw[hx] at a7;rw[hy] at h;have h:=h.sc rfl;have⟨g,z,e',v,h1,h2,h3,h4,h5,h6⟩:=a7.sl;have⟨kk,o',hk,q8,B,Pp,a6⟩:=hS.at (fr:=fr) hb h1;obtain⟨f,rfl,hz,⟨Oe,hex⟩,p⟩:=Pp;have Z:=Y.Z V;refine aF Y.C ho hw fun U hR K hK=>?_;have c:=Z.rely V hR;have⟨hm,I⟩:=Z.own c (mG B);have To:(strCells str).length=str.size:=strCells_length str;have d:=run_copy_row_string (P:=P) U t u o.type e g off n v str f m ht a4 I oq oq;have d:(Builtin.copy_ #[t,u] o.type #[.slice (some ⟨g,off,none⟩) n v,.string str]).run P U=.ok (goInt str.size) (U.setRow g (putAt f off (strCells str))):=by rw[d];unfold putAt;rw[To];rfl
 have F:∀A∈(Builtin.copy_ #[t,u] o.type #[.slice (some ⟨g,off,none⟩) n v,.string str]).events P U #[],∃G:Addr,A.loc=.cell G∧G.block=g:=by
  intro A F;have a8:=events_storeCells_at (P:=P) g off m (strCells str) 0 f U #[] I oq (strCells_oneCell str);cases L:P.info? e with
  | none=>simp[bQ,L] at a4
  | some it =>
   have a5:Nat.min str.size n=str.size:=by rw[hn];exact Nat.min_self n
   have aa:((str.extract 0 str.size).data.map fun b=>Value.int .u8 b.toNat).toList=strCells str:=by simp[strCells]
   have N:(Builtin.copy_ #[t,u] o.type #[.slice (some ⟨g,off,none⟩) n v,.string str]).events P U #[]=(storeCells ⟨g,off,none⟩ (strCells str)).events P U #[]:=by simp[Builtin.copy_,underlying,ht,Builtin.lenOf,Builtin.firstCells,sizeOf,typeInfo,L,a5];rw[tL (by rw[List.length_map,Array.length_toList];exact lr)];rfl
   rw[N] at F;rcases a8 A F with z|z
   ·simp at z
   ·exact z
 have W:Own KT (M i) U (U.setRow g (putAt f off (strCells str))):=Own.setRow I hm (a6 cs m fz rfl).2;have Te:(execOp a.eval o).run P U=.ok (.value (goInt str.size)) (U.setRow g (putAt f off (strCells str))):=by unfold execOp;simp only[T,resolve,invoke,builtin,Sem.run_bind,Sem.run_pure,Result.andThen_ok,List.map_toArray,List.map_cons,List.map_nil,h2,h,d]
 have N:(execOp a.eval o).events P U #[]=(Builtin.copy_ #[t,u] o.type #[.slice (some ⟨g,off,none⟩) n v,.string str]).events P U #[]:=by unfold execOp;simp only[T,resolve,invoke,builtin,Sem.events_bind,Sem.run_pure,Sem.events_pure,Result.evThen_ok,List.map_toArray,List.map_cons,List.map_nil,h2,h,d]
 rw[Te];have a3:=Z.Bw c kk B W (o':=.cells (putAt f off (strCells str)) m) (by simp[World.setRow,Array.getElem?_modify,I]) (fun q L=>by simp[World.setRow,Array.getElem?_modify,Ne.symm L]);rw[List.set_append_left _ _ q8] at a3;have r:=vi (S:=S) (xs:=strCells str) (ys:=strCells str) (off:=off) hz Oe p rfl (lk str) oq;have E:iK str.data.toList 0=str.size:=by rw[iT,Nat.zero_add,Array.length_toList];rfl
 refine hK _ _ ⟨?_,k i S _ _ _ (bJ.le_refl S) (fun _ _=>rfl) (hS.xg hb h1 hk (Y.AZ V) ⟨_,rfl,r.1,⟨r.2.1,fun Oa=>by have:=hex Oa;simp[putAt];omega⟩,r.2.2⟩ fun Wv t1 WJ he=>?_) a3 (by rw[E];exact VR.dE rfl)⟩
 ·refine Z.env.jA (Z.size c) W fun A J=>?_;have J:=mem_listed J;rw[N] at J;have⟨G,q1,q2⟩:=F A J;exact .inl ⟨G,q1,by rw[q2];exact Z.env.mine W hm⟩
 ·cases he;exact a6 cs m fz rfl
end
end
section
open Go.Conc Go.RowKit Go.Lib
variable {v v' x x':Value}{f:FuncId}{ops:Array Oper}{e g i id j m m0 t z:Nat}{o:Oper}{call:FuncId→Aq→AS→Option (Value × AS)}{args cap first tmps y:Aq}{s s' s1 VJ:AS}{α β:Type}{o' ob:Obj}{mk:Nq}
section
variable {P:Program}{main:Bool}{b:Frame}{a:Act}{cs:List Frame}{w:World}
def xd{fn:Func}{U:List Item}{c:Frame}(f:b.kind=.normal)(d:a.defers=[])(e:P.funcs[b.fn]?=some fn)
 (g:(results fn a.tmps).run P w=.ok v w) :
  stepG P main (G { b.at a U with mode:=.returning } (c::cs)) w=.go (G (c.finish v) cs) w (seen P b.fn ((results fn a.tmps).events P w #[])):=by simp[G,stepG,unwind,doReturn,Frame.at,f,d,e,g,GStep.after]
end
section
variable {ι:Type}{P:Program}{R:ι→Wq}{D:ι→World→World→Array Event→Prop}{X:ι→Gq}{fn:FuncId}{Q:dV ι}{a:Act}{w:World}{vs:ι}
def Leaves(P:Program)(R:ι→Wq)(D:ι→World→World→Array Event→Prop)(f:FuncId)(aM:Func)(vs:ι)(tmps:Aq)(w:World)(Post:ι→Value→World→Prop):Prop :=
 ∀aE,R vs w aE→∃v,(results aM tmps).run P aE=.ok v aE∧D vs aE aE (seen P f ((results aM tmps).events P aE #[]))∧Post vs v aE
def jN(P:Program)(R:ι→World→World→Prop)(D:ι→World→World→Array Event→Prop)(X:ι→Goroutine→World→Prop)(f:FuncId)(args:Array Value)(vs:ι)(w:World)(Post:ι→Value→World→Prop):Prop :=
 ∃ aM c, P.funcs[f]? = some aM ∧ (aM.name == "runtime.NumGoroutine") = false ∧ aM.body = some c ∧
  lm X f c vs (fun gI e a' w'=>(e=.normal∨e=.ret)∧a'.defers=[]∧Leaves P R D f aM gI a'.tmps w' Post) { tmps:=args++Array.replicate (aM.ntmps-args.size) undef,defers:=[] } w
def eA.pF(C:bw P true R D X)(T:∀i,Terms (R i) (D i)){Post U:ι→Value→World→Prop}(h:eA P X f args vs w Post)(hp:∀vs v w aE,Post vs v w→R vs w aE→U vs v aE):jN P R D X f args vs w U:=by have⟨aM,c,hf,hn,hb,h⟩:=h;refine⟨aM,c,hf,hn,hb,mA h fun gI e a' w' q=>?_⟩;have⟨h1,h2,v,h3,h4⟩:=q;refine⟨h1,h2,fun aE hr=>⟨v,(h3 aE).1,?_,hp _ _ _ _ h4 hr⟩⟩;rw[(h3 aE).2];exact(T gI).idle _
def A7(C:bw P true R D X)(T:∀i,Terms (R i) (D i)){rest:List Nat}{x:Operand}{args:Array Operand}{ats:Array TypeId}{Post:ι→Value→World→Prop}
 (F:ops[i]?=some o)(W:Region.wanted o (yielded ops a.tmps)=true)(M:o.op=.call { callee:=.value x,args,argTypes:=ats })(Y:a.eval x=.func (.func f) first cap)
 (I:jN P R D X f (first++args.map a.eval++cap) vs w Post)(K:∀U v j,Post U v j→ck X fn ops rest U Q (a.put o.dst v) j):ck X fn ops (i::rest) vs Q a w:=by
 obtain⟨l,c,u,J,B,h⟩:=I;intro b k A r E N;have s:l.body.isNone=false:=by rw[B];rfl
 have L:∀v,(b.at a (.inRegion ops (i::rest)::k)).finish v=b.at (a.put o.dst v) (.inRegion ops rest::k):=fun v=>by rw[Frame.finish_at,F];rfl
 have z:∀(U:ι) (m:Act) (j:World) (p:List Item),(m.defers=[]∧Leaves P R D f l U m.tmps j Post) →
   X U (G { (base f).at m p with mode:=.returning } (b.at a (.inRegion ops (i::rest)::k)::A)) j:=by rintro U m j p ⟨O,y⟩;refine C.step rfl fun d g=>?_;obtain⟨v,h1,h2,h3⟩:=y d g;rw[xd (b:=base f) rfl O u h1,L];exact⟨h2,K U v d h3 b k A r E N⟩
 refine C.step rfl fun d g=>?_;obtain⟨V,S⟩:=iW (P:=P) (w:=d) M Y u J s;rw[stepG_enter F W E V,enter_at _ u B];have y:listed P b.fn a o d=#[]:=listed_nil S;rw[y];refine⟨(T vs).idle _,C.rely (h (base f) [] _ rfl (by simp[base]) fun U e m j q=>?_) g⟩;obtain⟨t,q⟩:=q;rcases t with rfl|rfl
 ·exact C.step rfl fun H n=>by rw[stepG_end];exact⟨(T U).idle _,C.rely (z U m j [] q) n⟩
 ·exact fun p=>z U m j p q
end
section
variable {ι:Type}{P:Program}{KT:TypeId→Prop}{An:bJ}{N0:ι→Nat}{M:ι→World→Nat→Prop}{O:ι→Nat→Prop}{R:ι→Wq}{D:ι→World→World→Array Event→Prop}{X:ι→Gq}{Hd:ι→Hq→World→Prop}
variable {fn:FuncId}{Q:dV ι}{a:Act}{w:World}{i:ι}{S:bJ}{s s':AS}{l fr rl:Hq}{aA:TL}{v:Value}{ops:Array Oper}{j:Nat}{rest:List Nat}{o:Oper}{kt:TypeId→Bool}
def Sound(P:Program)(KT:TypeId→Prop)(An:bJ)(R:ι→Wq)(D:ι→World→World→Array Event→Prop)(X:ι→Gq)(Hd:ι→Hq→World→Prop)(f:FuncId)(args:Aq)(s:AS)(v:Value)(s':AS):Prop :=
 ∀S l fr i w args',eK P KT An S s l→Hd i (l++fr) w→AR (VR S) args args'→(∀b,s.nx≤b→b<s'.nx→S b=none) →
  jN P R D X f args' i w fun i' v' w'=>∃S' l',S.le S'∧(∀b,b<s.nx∨s'.nx≤b→S' b=S b)∧eK P KT An S' s' l'∧Hd i' (l'++fr) w'∧VR S' v v'
def pG{xs:Array Operand}{f:Operand→Value}{u:Value}(h:xs.toList.map f=[u,v]):∃x y,xs=#[x,y]∧f x=u∧f y=v:=by
 have⟨l⟩:=xs;cases l with
 | nil=>simp at h
 | cons x l =>
  cases l with
  | nil=>simp at h
  | cons y l =>
   cases l with
   | nil=>simp at h;exact⟨x,y,rfl,h.1,h.2⟩
   | cons z l=>simp at h
def Kj(Y:Cy P KT N0 M O R D X Hd)(ho:ops[j]?=some o)(hw:Region.wanted o (yielded ops a.tmps)=true){t u:TypeId}{x:Operand}(J:o.op=.convert t u x)(N:eB S aA a o)(V:eK P KT An S s l)(hF:Hd i (l++fr) w)(h:fv P t u (aA.at x) s=some v)
 (k:Out P KT An Hd S s s fr v fun i' v' w'=>ck X fn ops rest i' Q (a.put o.dst v') w'):ck X fn ops (j::rest) i Q a w:=by
 unfold eB at N;rw[J] at N;have H:=N x (by simp[Op.operands]);have Z:=Y.Z hF;have E:∀(f:Addr),a.eval x=.pointer (some f)→(∀U,Hd i (l++fr) U→(convert t u (.pointer (some f))).run P U=.ok (.pointer (some f)) U∧(convert t u (.pointer (some f))).events P U #[]=#[])→VR S v (.pointer (some f))→ck X fn ops (j::rest) i Q a w:=by
  intro f a9 G hv;refine aF Y.C ho hw fun U hR K hK=>?_;have r:=Z.rely hF hR;have⟨h1,h2⟩:=G U r;have hr:(execOp a.eval o).run P U=.ok (.value (.pointer (some f))) U:=by unfold execOp;simp only[J,a9,Sem.run_bind,h1,Result.andThen_ok,Sem.run_pure]
  have he:(execOp a.eval o).events P U #[]=#[]:=by unfold execOp;simp only[J,a9,Sem.events_bind,h1,h2,Result.evThen_ok,Sem.events_pure]
  rw[hr];refine hK _ _ ⟨?_,k i S l U _ (bJ.le_refl S) (fun _ _=>rfl) V r hv⟩;rw[listed_nil he];exact(Y.T i).idle _
 unfold fv at h;split at h
 ·next e b c y A B =>
  rw[B] at H;have⟨g,z,e',h1,h2⟩:=H.ptr;split at h
  ·next cs ct fz n W d =>
   split at h
   ·next ab =>
    cases h;have⟨kk,o',hk,a8,I,L,aa⟩:=V.at (fr:=fr) W h1;obtain⟨m,rfl,hz,⟨Oe,_⟩,p⟩:=L;have q:(P.info? e).map (fun i=>decide (i.size=0))=some false:=by
     unfold bQ at d;cases hi:P.info? e with
     | none=>simp[hi] at d
     | some it=>simp[hi] at d ⊢;omega
    refine E ⟨g,c,none⟩ h2 (fun U r=>?_) (by rw[B];exact VR.gw h1);have⟨hm,hg⟩:=Z.own r (mG I);have G:U.cell? ⟨g,c,none⟩=some (m[c]'oq):=by simp[World.cell?,hg,show c<m.size by omega]
    exact⟨run_convert_to_unsafe (P:=P) y A q G,events_convert_to_unsafe (P:=P) y A q G #[]⟩
   ·cases h
  ·cases h
 ·next e b c y A B =>
  rw[B] at H;have⟨g,z,e',h1,h2⟩:=H.ptr;split at h
  ·next cs bt n W d =>
   split at h
   ·next hl =>
    cases h;have⟨kk,o',hk,a8,I,L,aa⟩:=V.at (fr:=fr) W h1;obtain⟨m,rfl,hz,⟨Oe,hex⟩,p⟩:=L;have q:=hex rfl;obtain⟨jt,hj,_⟩:∃jt,P.info? e=some jt∧jt.size=n+1:=by
     unfold bQ at d;cases hi:P.info? e with
     | none=>simp[hi] at d
     | some it=>simp[hi] at d;exact⟨it,rfl,d⟩
    refine E ⟨g,c,none⟩ h2 (fun U r=>?_) (by rw[B];exact VR.gw h1);have⟨hm,hg⟩:=Z.own r (mG I);have F:U.shape? g=some (bt,cs.size):=by simp[World.shape?,hg];omega
    refine⟨Lib.run_from_unsafe U ⟨g,c,none⟩ y A hj F hl,?_⟩;simp[convert,Conv.unsafePointer,Conv.seenAt,viewAt,F,variablesAt,hl,sizeOf,typeInfo,hj,underlying,y,A]
   ·cases h
  ·cases h
 ·cases h
def mm(Y:Cy P KT N0 M O R D X Hd)(a9:∀t,kt t=false→¬KT t)(aa:∀f K s v s',call f K s=some (v,s')→Sound P KT An R D X Hd f K s v s')
 (E:ops[j]?=some o)(F:Region.wanted o (yielded ops a.tmps)=true)(r:eB S aA a o)(B:eK P KT An S s l)(A:Hd i (l++fr) w)(h:bM P kt call aA o s=some (v,s'))(a8:∀b,s.nx≤b→b<s'.nx→S b=none)
 (k:Out P KT An Hd S s s' fr v fun i' H w'=>ck X fn ops rest i' Q (a.put o.dst H) w'):ck X fn ops (j::rest) i Q a w:=by
 unfold bM at h;split at h
 ·
  split at h
  ·next ob mk hn =>cases h;refine Hg Y a9 E F r A hn fun g z e o' w' H U3 hr ht=>?_;have Po:S s.nx=none:=a8 _ lr iq;have⟨h1,h2⟩:=hr (S.put s.nx (g,z,e)) s.nx (bJ.jT Po) bJ.iG;refine k i _ _ w' H (bJ.jT Po) (fun b hb=>?_) (B.grown Po (Y.fresh U3) h1 ht) U3 h2;unfold bJ.put;simp at hb;rw[iw oq]
  ·cases h
 ·split at h
  ·next t x p =>
   split at h
   ·next H G=>cases h;exact CC Y E F p r B A G k
   ·cases h
  ·next t x y p =>
   split at h
   ·next s1 G=>cases h;exact Hj Y E F p r B A G k
   ·cases h
  ·next t x lo hi mx p =>
   split at h
   ·next H G=>cases h;exact Hi Y E F p r B A G k
   ·cases h
  ·next x p =>
   split at h
   ·next b hx =>
    split at h
    ·next str pos hb =>
     refine Ko Y E F p r B A hx hb (fun hp=>?_) (fun hp=>?_) (fun hp=>?_)
     ·rw[ip hp] at h;split at h
      ·cases h
      next hq=>exact a9 _ (by simpa using hq)
     ·rw[ip hp] at h;split at h
      ·cases h
      cases h;exact k
     ·rw[iw hp] at h;cases h;exact k
    ·cases h
   ·cases h
  ·next c p =>
   split at h
   ·next f J =>
    split at h
    ·next ab =>
     split at h
     ·next x hx =>
      cases h;have⟨ae,a4,a7⟩:=c;simp only at J hx;subst J;have q:=r;unfold eB at q;rw[p] at q;have Pz:=q x (by simp only[Op.operands,Call.operands,Array.mem_append];right;simpa using(show x∈a4.toList by rw[hx];simp));obtain⟨g,rfl⟩:∃g,f=.func g:=by
       cases f with
       | func g=>exact⟨g,rfl⟩
       | _=>simp[js] at ab
      have a3:=ab;unfold js at a3;simp only at a3;split at a3
      ·next aM af =>
       have⟨n1,n2,n3⟩:=Y.ne g aM ab af;have I:a4=#[x]:=by apply Array.toList_inj.1;simp[hx]
       refine n5 Y.C Y.T E F p af n1 (by simp only[Bool.and_eq_true] at a3;exact a3.1) n2 n3 (x:=a.eval x) (args':=#[a.eval x]) (by rw[I];simp) (fun w=>Lib.run_noEscape w _) (fun w es=>by show Sem.events P (pure (a.eval x):Sem Value) w es=es;simp) ?_;exact k i S l w _ (bJ.le_refl S) (fun _ _=>rfl) B A Pz
      ·cases a3
     ·cases h
    split at h
    ·next g first cap hf =>have q:=r;unfold eB at q;rw[p] at q;have Va:=q f (by simp[Op.operands,Call.operands,J]);rw[hf] at Va;have⟨p',q',h1,h2,h3⟩:=Va.fn;have U:AR (VR S) (c.args.map aA.at) (c.args.map a.eval):=AV fun x hx=>q x (by simp[Op.operands,Call.operands,hx]);have Xv:=aa _ _ _ _ _ h S l fr i w _ B A ((h2.append U).append h3) a8;have⟨ae,a4,a7⟩:=c;simp only at J;subst J;refine A7 Y.C Y.T E F p h1 Xv ?_;rintro i' H w' ⟨S',l',q1,q2,q3,q4,q5⟩;exact k i' S' l' w' H q1 q2 q3 q4 q5
    ·cases h
   ·next b J =>
    split at h
    ·next H G=>cases h;exact s6 Y E F r B A G k
    ·have⟨ae,a4,a7⟩:=c;simp only at J h;subst J;unfold eS at h;split at h
     ·next x1 yy m cy t t' U N =>
      split at h
      ·next ai =>
       subst ai;split at h
       ·next e ht =>
        split at h
        ·next z sz bytes hi =>
         split at h
         ·next news ah =>
          split at h
          ·next hc =>
           have⟨V,W,L,c4,c5,c6,c7⟩:=hc;have⟨x,y,I,e1,Z⟩:=pG U;subst I;have d:a7=#[t,t]:=by apply Array.toList_inj.1;simp[N]
           subst d;rw[← e1] at h c6;exact Em Y a9 E F p r B A Z ht hi ah V W L c4 c5 c6 c7 h a8 k
          ·cases h
         ·cases h
        ·cases h
       ·cases h
      ·cases h
     ·next x1 str t t' U N =>
      split at h
      ·next e ht hu =>
       split at h
       ·next hi =>
        split at h
        ·next hc =>
         have⟨V,W,L⟩:=hc;have⟨x,y,I,e1,Z⟩:=pG U;subst I;have d:a7=#[t,t']:=by apply Array.toList_inj.1;simp[N]
         subst d;rw[← e1] at h L;exact A5 Y a9 E F p r B A Z ht hu hi V W L h a8 k
        ·cases h
       ·cases h
      ·cases h
     ·next b off n cp str t u U N =>
      split at h
      ·next e cs bt fz ht hb =>
       split at h
       ·next hc =>
        have⟨V,W,L⟩:=hc;cases h;have⟨x,y,I,e1,Z⟩:=pG U;subst I;have d:a7=#[t,u]:=by apply Array.toList_inj.1;simp[N]
        subst d;exact Kk Y E F p r B A e1 Z ht hb V W L k
       ·cases h
      ·cases h
     ·next b n pt it U N =>
      split at h
      ·next e cs t fz hp hb =>
       split at h
       ·next hc =>
        have⟨V,W,L,c4,c5⟩:=hc;split at h
        ·next bs ag =>
         cases h;have⟨x,y,I,e1,Z⟩:=pG U;subst I;have d:a7=#[pt,it]:=by apply Array.toList_inj.1;simp[N]
         subst d;exact Kp Y E F p r B A e1 Z hp hb V W L c4 c5 ag k
        ·cases h
       ·cases h
      ·cases h
     ·cases h
   ·cases h
  ·next t u x p =>
   split at h
   ·next H G=>cases h;exact s6 Y E F r B A G k
   ·split at h
    ·next H G=>cases h;exact Kj Y E F p r B A G k
    ·cases h
  ·split at h
   ·next H G=>cases h;exact s6 Y E F r B A G k
   ·cases h
end
def oZ:∀(l:Vq) (n:Nat) (v:Value),yN l n v=l.set n v
 | [],_,_=>rfl
 | _::_,0,_=>rfl
 | x::l,n+1,v=>by simp[yN,oZ l n v]
section
variable {S:bJ}{aA:TL}{a:Act}
def l6{x:Aq}(h:AR (VR S) x y)(t:Nat):VR S (x.toList.getD t undef) (y.getD t undef):=by
 by_cases U:t<x.size
 ·have h1:x[t]?=some x[t]:=gF U;have h2:y[t]?=some (y[t]'(by rw[← h.1];exact U)):=gF _
  have:=h.2 t _ _ h1 h2;rw[List.getD_eq_getElem?_getD,Array.getD_eq_getD_getElem?,h2,Array.getElem?_toList,h1];exact this
 ·rw[List.getD_eq_getElem?_getD,Array.getD_eq_getD_getElem?,Array.getElem?_toList,Array.getElem?_eq_none oq,Array.getElem?_eq_none (by rw[← h.1];omega)];exact VR.undef
def Ae(h:AR (VR S) aA.toArray a.tmps){x:Operand}(U:yV x=true):VR S (aA.at x) (a.eval x):=by
 cases x with
 | tmp t=>exact l6 h t
 | const v=>exact VR.dE U
 | global g=>simp[yV] at U
 | func f=>exact VR.yT AR.nil AR.nil
def rR(h:AR (VR S) aA.toArray a.tmps)(U:VR S v v')(d:Option Tmp):AR (VR S) (aA.put d v).toArray (a.put d v').tmps:=by
 cases d with
 | none=>exact h
 | some t =>
  show AR (VR S) (yN aA t v).toArray (a.tmps.setIfInBounds t v');rw[oZ]
  have:=h.set U t;rw[List.setIfInBounds_toArray] at this;exact this
def VR.xV{b:Bool}(h:VR S x (.bool b)):x=.bool b:=by
 cases x with
 | agg p=>obtain⟨a,h1,_⟩:=h.ag;cases h1
 | tuple p=>obtain⟨a,h1,_⟩:=h.tu;cases h1
 | map p=>obtain⟨k,m,_,h1,_⟩:=h.mp;cases h1
 | func f p q=>obtain⟨a,l,h1,_⟩:=h.fn;cases h1
 | pointer p =>
  cases p with
  | none=>exact(h.sc rfl).symm
  | some p =>
   have⟨b,i,sp⟩:=p
   have:=h.iF;simp at this;subst this;have⟨g,z,e,_,h1⟩:=h.ptr;cases h1
 | slice p n c =>
  cases p with
  | none=>exact(h.sc rfl).symm
  | some p=>obtain⟨g,z,e,j,U,_,h1,_⟩:=h.jX;cases h1
 | bool b=>exact(h.sc rfl).symm
 | int k n=>exact(h.sc rfl).symm
 | string s=>exact(h.sc rfl).symm
 | nilFunc=>exact(h.sc rfl).symm
 | nilIface=>exact(h.sc rfl).symm
 | _=>obtain⟨d,h⟩:=h;cases d with
  | zero=>exact h.elim
  | succ d=>exact absurd h.1 (by simp[dW])
def pQ(h:∀d,(ops[j]?).bind (·.dst)=some d→∀b,(aA[d]?=some (.bool b)↔tmps[d]?=some (.bool b))):yielded ops tmps j=bK ops aA j:=by
 unfold yielded bK;rw[Array.getElem?_toList];cases ho:ops[j]? with
 | none=>rfl
 | some o =>
  simp only[Option.bind_some];cases hd:o.dst with
  | none=>rfl
  | some d =>
   simp only[Option.bind_some];have h:=h d (by rw[ho];simp[hd]);cases ha:aA[d]? with
   | none =>
    cases U:tmps[d]? with
    | none=>rfl
    | some v=>cases v with
     | bool b=>rw[ha,U] at h;exact absurd ((h b).2 rfl) iq
     | _=>rfl
   | some x =>
    cases x with
    | bool b=>rw[(h b).1 ha]
    | _ =>
     cases U:tmps[d]? with
     | none=>rfl
     | some v=>cases v with
      | bool b=>rw[ha,U] at h;exact absurd ((h b).2 rfl) iq
      | _=>rfl
def zS(h:AR (VR S) aA.toArray a.tmps)(ops:Array Oper)(j:Nat):yielded ops a.tmps j=bK ops aA j:=by
 refine pQ fun d _ b=>⟨fun c=>?_,fun c=>?_⟩
 ·have U:d<a.tmps.size:=by rw[← h.1];have:=(gS.1 c).1;simpa using this
  have:=h.2 d _ _ (by simpa using c) (gF U);rw[gF U,this.sc rfl]
 ·have U:d<aA.toArray.size:=by rw[h.1];exact(Array.getElem?_eq_some_iff.1 c).1
  have:=(h.2 d _ _ (gF U) c).xV;have h2:aA.toArray[d]?=some (.bool b):=by rw[gF U,this]
  simpa using h2
def ll(h:AR (VR S) aA.toArray a.tmps)(ops:Array Oper)(o:Oper):Region.wanted o (yielded ops a.tmps)=Region.wanted o (bK ops aA):=by
 unfold Region.wanted;split
 ·rfl
 ·rw[zS h]
end
section
variable {P:Program}{kt:TypeId→Bool}{call:FuncId→Aq→AS→Option (Value × AS)}
def qR{e:TypeId}{news:Vq}(h:bn P e x news m s=some (v,s')):s.nx≤s'.nx:=by
 unfold bn at h;split at h
 ·split at h<;>(cases h;simp)
 ·split at h
  ·cases h;simp
  ·split at h
   ·split at h
    ·cases h;simp
    ·cases h
   ·cases h
 ·split at h
  ·cases h
  ·cases h;simp
 ·cases h
def wz{b:Builtin}{args:Vq}{ts:List TypeId}(h:eS P kt b args ts s=some (v,s')):s.nx≤s'.nx:=by
 unfold eS at h;split at h
 ·split at h
  ·split at h
   ·split at h
    ·split at h
     ·split at h
      ·exact qR h
      ·cases h
     ·cases h
    ·cases h
   ·cases h
  ·cases h
 ·split at h
  ·split at h
   ·split at h
    ·exact qR h
    ·cases h
   ·cases h
  ·cases h
 ·split at h
  ·split at h
   ·cases h;simp
   ·cases h
  ·cases h
 ·split at h
  ·split at h
   ·split at h
    ·cases h;simp
    ·cases h
   ·cases h
  ·cases h
 ·cases h
def Aw{t:TypeId}{y:Value}(h:iS P t x y s=some s'):s.nx=s'.nx:=by
 unfold iS at h;split at h
 ·split at h
  ·split at h
   ·cases h;simp
   ·cases h
  ·cases h
 ·cases h
def rI(U:∀f args s v s',call f args s=some (v,s')→s.nx≤s'.nx){a:TL}(h:bM P kt call a o s=some (v,s')):s.nx≤s'.nx:=by
 unfold bM at h;split at h
 ·split at h
  ·cases h;simp
  ·cases h
 ·split at h
  ·split at h
   ·cases h;exact Nat.le_refl _
   ·cases h
  ·split at h
   ·next hv=>cases h;exact Nat.le_of_eq (Aw hv)
   ·cases h
  ·split at h
   ·cases h;exact Nat.le_refl _
   ·cases h
  ·split at h
   ·split at h
    ·split at h
     ·split at h
      ·cases h
      ·cases h;simp
     ·cases h;simp
    ·cases h
   ·cases h
  ·split at h
   ·split at h
    ·split at h
     ·cases h;exact Nat.le_refl _
     ·cases h
    ·split at h
     ·exact U _ _ _ _ _ h
     ·cases h
   ·split at h
    ·cases h;exact Nat.le_refl _
    ·exact wz h
   ·cases h
  ·split at h
   ·cases h;exact Nat.le_refl _
   ·split at h
    ·cases h;exact Nat.le_refl _
    ·cases h
  ·split at h
   ·cases h;exact Nat.le_refl _
   ·cases h
def lV(hc:∀f args s v s',call f args s=some (v,s')→s.nx≤s'.nx):∀(U:List Oper) {a a':TL} {s s':AS},cW P kt call ops U a s=some (a',s')→s.nx≤s'.nx
 | [],a,a',s,s',h=>by simp[cW] at h;rw[h.2];exact Nat.le_refl _
 | o::rest,a,a',s,s',h=>by
  unfold cW at h;split at h
  ·split at h
   ·next v s1 hv=>exact lT (rI hc hv) (lV hc rest h)
   ·cases h
  ·exact lV hc rest h
end
section
variable {ι:Type}{P:Program}{KT:TypeId→Prop}{An:bJ}{N0:ι→Nat}{M:ι→World→Nat→Prop}{O:ι→Nat→Prop}{R:ι→Wq}{D:ι→World→World→Array Event→Prop}{X:ι→Gq}{Hd:ι→Hq→World→Prop}
variable {fn:FuncId}{Q:dV ι}{a:Act}{w:World}{i:ι}{S:bJ}{s s':AS}{l fr rl:Hq}{aA jy:TL}{v:Value}{ops:Array Oper}{j:Nat}{rest:List Nat}{o:Oper}{kt:TypeId→Bool}
def L8 (P:Program)(KT:TypeId→Prop)(An:bJ)(Hd:ι→Hq→World→Prop)(S:bJ)(s s':AS)(fr:Hq)(jy:TL)(K:ι→Act→World→Prop):Prop :=
 ∀i' S' l' w' a',S.le S'→(∀b,b<s.nx∨s'.nx≤b→S' b=S b)→eK P KT An S' s' l'→Hd i' (l'++fr) w'→AR (VR S') jy.toArray a'.tmps→a'.defers=[]→K i' a' w'
def lW(Y:Cy P KT N0 M O R D X Hd)(AG:∀t,kt t=false→¬KT t)(GF:∀f args s v s',call f args s=some (v,s')→Sound P KT An R D X Hd f args s v s')(hc:∀f args s v s',call f args s=some (v,s')→s.nx≤s'.nx)(Fj:kn ops=true) :
  ∀(m k:Nat) {S:bJ} {l:Hq} {i:ι} {w:World} {a:Act} {aA:TL} {s:AS},m=ops.size-k→k≤ops.size→cW P kt call ops (ops.toList.drop k) aA s=some (jy,s')→eK P KT An S s l→Hd i (l++fr) w→AR (VR S) aA.toArray a.tmps→a.defers=[]→(∀b,s.nx≤b→b<s'.nx→S b=none) →
   L8 P KT An Hd S s s' fr jy (fun i' a' w'=>Q i' .normal a' w')→ck X fn ops (List.range' k m) i Q a w
 | 0,k,S,l,i,w,a,aA,s,hm,hk,h,hS,hF,hA,hd,ql,K=>by
  have:k=ops.size:=oq
  subst this;rw[List.drop_eq_nil_of_le iq] at h;simp only[cW,Option.some.injEq,Prod.mk.injEq] at h;obtain⟨rfl,rfl⟩:=h;exact bq Y.C Y.T (K i S l w a (bJ.le_refl S) (fun _ _=>rfl) hS hF hA hd)
 | m+1,k,S,l,i,w,a,aA,s,hm,hk,h,hS,hF,hA,hd,ql,K=>by
  have q8:k<ops.size:=oq
  have D4:k<ops.toList.length:=by simpa using q8
  rw[List.drop_eq_getElem_cons D4] at h;have ho:ops[k]?=some (ops.toList[k]'D4):=by rw[gF q8];simp
  have So:eB S aA a (ops.toList[k]'D4):=fun x hx=>Ae hA (by
   unfold kn at Fj;rw[aT] at Fj
   have:=Fj _ (List.getElem_mem D4);rw[aT] at this;exact this x (by simpa using hx));unfold cW at h;show ck X fn ops (k::List.range' (k+1) m) i Q a w;split at h
  ·next hw =>
   split at h
   ·next v s1 hv =>
    have n1:=rI hc hv;have n2:=lV hc _ h;refine mm Y AG GF ho (by rw[ll hA];exact hw) So hS hF hv (fun b h1 h2=>ql b h1 oq) ?_;intro i1 S1 l1 w1 v1 Q4 N8 O0 W3 Yj;refine lW Y AG GF hc Fj m (k+1) oq oq h O0 W3 (rR (hA.mono Q4) Yj _) ?_ (fun b h1 h2=>?_) ?_
    ·cases Pg:(ops.toList[k]'D4).dst<;>exact hd
    ·rw[N8 b (.inr h1)];exact ql b oq h2
    ·intro i2 S2 l2 w2 a2 Ly wE O1 W4 WY SG;exact K i2 S2 l2 w2 a2 (bJ.le_trans Q4 Ly) (fun b hb=>by rw[wE b oq,N8 b oq]) O1 W4 WY SG
   ·cases h
  ·next hw =>have n2:=lV hc _ h;refine gm Y.C Y.T ho (by rw[ll hA];simpa using hw) ?_;refine lW Y AG GF hc Fj m (k+1) oq oq h hS hF (rR hA VR.undef _) ?_ ql K;cases Pg:(ops.toList[k]'D4).dst<;>exact hd
def Reads{a:Type}(P:Program)(t:Sem a)(w:World)(v:a)(B:Event→Prop):Prop:=t.run P w=.ok v w∧∀b∈t.events P w #[],B b
def Reads.bind{t:Sem α}{k:α→Sem β}{v:α}{u:β}{B:Event→Prop}(h:Reads P t w v B)(b:Reads P (k v) w u B):Reads P (t >>= k) w u B:=by
 refine⟨by rw[Sem.run_bind,h.1];exact b.1,fun a U=>?_⟩;rw[Sem.events_bind,h.1] at U;simp only[Result.evThen_ok] at U;rw[Sem.events_acc] at U;rcases Array.mem_append.1 U with q|q
 ·exact h.2 a q
 ·exact b.2 a q
def Reads.pure(v:α)(B:Event→Prop):Reads P (Pure.pure v:Sem α) w v B:=⟨rfl,fun U h=>by simp at h⟩
def AQ(Y:Cy P KT N0 M O R D X Hd)(K:eK P KT An S s l)(B:Hd i (l++fr) w){t:TypeId}(hx:VR S x x')(h:aC P t x s=some v):∃o,VR S v o∧Reads P (do loadVar t (← asAddr x')) w o (tW (M i w)):=by
 unfold aC at h;split at h
 ·next b a =>
  obtain⟨g,z,e,h1,rfl⟩:=hx.ptr;split at h
  ·next cs ty fz H =>
   have⟨kk,o',hk,T,E,F,W⟩:=K.at (fr:=fr) H h1;obtain⟨p,rfl,hz,⟨Oe,hex⟩,j⟩:=F;have⟨f,C⟩:=(Y.Z B).own B (mG E);have k:∀{o},Reads P (Instr.loadAt t (.pointer (some ⟨g,a,none⟩))) w o (tW (M i w))→Reads P (do loadVar t (← asAddr (.pointer (some ⟨g,a,none⟩)))) w o (tW (M i w)):=fun h=>h;split at h
   ·next d c =>
    split at h
    ·next q =>
     split at h
     ·next n Q =>
      split at h
      ·next ae =>
       cases h;have L:w.rangeAt g a ((p.toList.drop a).take n):=tl C (by
        intro m u f;rw[List.getElem?_take] at f;split at f
        ·rw[List.getElem?_drop] at f;simpa using f
        ·cases f);have N:(P.info? t).map (·.size)=some ((p.toList.drop a).take n).length:=by unfold bQ at Q;rw[Q];simp;omega
       refine⟨_,VR.yS (p':=((p.toList.drop a).take n).toArray) ?_,k ⟨run_loadAt_mid (P:=P) w g a t _ d L c q N,fun G U=>?_⟩⟩
       ·refine⟨by simp;omega,fun m u u' c A=>?_⟩;simp only[List.getElem?_toArray,List.getElem?_take] at c A;split at c
        ·next f =>rw[ip f] at A;rw[List.getElem?_drop] at c A;exact j _ u u' (by simpa using c) (by simpa using A)
        ·cases c
       ·have⟨ad,q1,q2⟩:=jG w g a t _ d L c q N G U;exact .inl ⟨ad,q1,by rw[q2];exact f⟩
      ·cases h
     ·cases h
    ·next q =>
     have J:a<p.size:=by have:=(Array.getElem?_eq_some_iff.1 h).1;omega
     have r:w.cell? ⟨g,a,none⟩=some p[a]:=by simp[World.cell?,C,J]
     have y:d.isRow=false:=by simpa using q
     refine⟨p[a],j a v _ h (gF J),k ⟨?_,fun G U=>?_⟩⟩
     ·simp[Instr.loadAt,Instr.sureAddr,loadVar,jc c y,load,Sem.run,r]
     ·have I:(Instr.loadAt t (.pointer (some ⟨g,a,none⟩))).events P w #[]=#[⟨.cell ⟨g,a,none⟩,false,false⟩]:=by simp[Instr.loadAt,Instr.sureAddr,loadVar,jc c y,kQ c,events_load,r]
      rw[I] at U;simp at U;subst U;exact .inl ⟨_,rfl,f⟩
   ·cases h
  ·next ty cs q1 q2 q3 q4 H =>
   have⟨kk,o',hk,T,E,F,W⟩:=K.at (fr:=fr) H h1;cases F;have⟨f,C⟩:=(Y.Z B).own B (mG E);have k:∀{o},Reads P (Instr.loadAt t (.pointer (some ⟨g,a,none⟩))) w o (tW (M i w))→Reads P (do loadVar t (← asAddr (.pointer (some ⟨g,a,none⟩)))) w o (tW (M i w)):=fun h=>h;split at h
   ·next d c =>
    split at h
    ·cases h
    ·next q =>
     split at h
     ·next v0 ab =>
      split at h
      ·next V =>
       cases h;have r:w.cell? ⟨g,a,none⟩=some v:=by simp[World.cell?,C,ab]
       have y:d.isRow=false:=by simpa using q
       refine⟨v,VR.dE V,k ⟨?_,fun G U=>?_⟩⟩
       ·simp[Instr.loadAt,Instr.sureAddr,loadVar,jc c y,load,Sem.run,r]
       ·have I:(Instr.loadAt t (.pointer (some ⟨g,a,none⟩))).events P w #[]=#[⟨.cell ⟨g,a,none⟩,false,false⟩]:=by simp[Instr.loadAt,Instr.sureAddr,loadVar,jc c y,kQ c,events_load,r]
        rw[I] at U;simp at U;subst U;exact .inl ⟨_,rfl,f⟩
      ·cases h
     ·cases h
   ·cases h
  ·cases h
 ·cases h
def yO{f:α→Option β}:∀{xs:List α} {vs:List β},xs.mapM f=some vs→xs.length=vs.length∧∀(i:Nat) (x:α) (v:β),xs[i]?=some x→vs[i]?=some v→f x=some v
 | [],vs,h=>by simp at h;subst h;exact⟨rfl,fun i x v U=>by simp at U⟩
 | x::xs,vs,h=>by
  rw[List.mapM_cons] at h;cases U:f x with
  | none=>rw[U] at h;cases h
  | some v =>
   rw[U] at h;cases hm:xs.mapM f with
   | none=>rw[hm] at h;cases h
   | some us =>
    rw[hm] at h;cases h;have⟨h1,h2⟩:=yO hm;refine⟨by simp[h1],fun i y u hy hu=>?_⟩;cases i with
    | zero=>simp at hy hu;subst hy hu;exact U
    | succ i=>exact h2 i y u (by simpa using hy) (by simpa using hu)
def vn(Y:Cy P KT N0 M O R D X Hd)(G:eK P KT An S s l)(F:Hd i (l++fr) w){aM:Func}(p:AR (VR S) aA.toArray tmps)(h:du P aM aA s=some v):∃z,VR S v z∧Reads P (results aM tmps) w z (tW (M i w)):=by
 have n:∀r u,lX P aA s r=some u→∃m,VR S u m∧Reads P ((fun r=>match r with|.tmp t=>pure (tmps.getD t undef)|.cell a t=>do loadVar t (← asAddr (tmps.getD a undef)):ResultVar→Sem Value) r) w m (tW (M i w)):=by
  intro r u b;cases r with
  | tmp t=>simp[lX] at b;subst b;exact⟨_,l6 p t,Reads.pure _ _⟩
  | cell t ty=>exact AQ Y G F (l6 p t) b
 have d:∀(g:List ResultVar) (j:Vq),g.mapM (lX P aA s)=some j→∃U,j.length=U.length∧(∀(i:Nat) (x y:Value),j[i]?=some x→U[i]?=some y→VR S x y)∧Reads P (g.mapM (fun r=>match r with|.tmp t=>pure (tmps.getD t undef)|.cell a t=>do loadVar t (← asAddr (tmps.getD a undef)):ResultVar→Sem Value)) w U (tW (M i w)):=by
  intro g;induction g with
  | nil=>intro j b;simp at b;subst b;exact⟨[],rfl,fun i x y f=>by simp at f,by rw[List.mapM_nil];exact Reads.pure _ _⟩
  | cons r g J =>
   intro j b;rw[List.mapM_cons] at b;cases e:lX P aA s r with
   | none=>rw[e] at b;cases b
   | some u =>
    rw[e] at b;cases hm:g.mapM (lX P aA s) with
    | none=>rw[hm] at b;cases b
    | some B =>
     rw[hm] at b;cases b;have⟨U,h1,h2,h3⟩:=J B hm;have⟨m,C,E⟩:=n r u e;refine⟨m::U,by simp[h1],fun i x y f k=>?_,?_⟩
     ·cases i with
      | zero=>simp at f k;subst f k;exact C
      | succ i=>exact h2 i x y (by simpa using f) (by simpa using k)
     ·rw[List.mapM_cons];exact E.bind (h3.bind (Reads.pure _ _))
 have c:∀U,Reads P (aM.results.toList.mapM (fun r=>match r with|.tmp t=>pure (tmps.getD t undef)|.cell a t=>do loadVar t (← asAddr (tmps.getD a undef)):ResultVar→Sem Value)) w U (tW (M i w))→Reads P (results aM tmps) w (if h:U.toArray.size=1 then U.toArray[0] else .tuple U.toArray) (tW (M i w)):=by intro U e;unfold results;rw[Array.mapM_eq_mapM_toList];refine Reads.bind (v:=U.toArray) ?_ (Reads.pure _ _);rw[map_eq_pure_bind];exact e.bind (Reads.pure _ _)
 unfold du at h;split at h
 ·next r e =>
  have⟨U,h1,h2,h3⟩:=d [r] [v] (by rw[List.mapM_cons,h];rfl);cases U with
  | nil=>simp at h1
  | cons u U =>
   have:U=[]:=by simpa using h1.symm
   subst this;refine⟨u,h2 0 v u rfl rfl,?_⟩
   have:=c [u] (by rw[e];exact h3);simpa using this
 ·next g A =>
  split at h
  ·next j o =>
   cases h;have⟨U,h1,h2,h3⟩:=d _ j o;have q:=c U h3;have H:¬U.toArray.size=1:=by
    intro I;have:aM.results.toList.length=1:=by rw[(yO o).1,h1];simpa using I
    match Tc:aM.results.toList,this with
    | [r],_=>exact A r Tc
   rw[dif_neg H] at q;exact⟨_,VR.sY ⟨by simpa using h1,fun i x y f k=>h2 i x y (by simpa using f) (by simpa using k)⟩,q⟩
  ·cases h
end
def sa{a b:ByteArray}(h:aY a.data.toList b.data.toList=true):a=b:=by rw[vS] at h;exact nM (eq_of_beq h)
def pT{f:Value × Value→Bool}:∀(l m:Vq),l.length=m.length→(l.zip m).all f=true→(∀p,f p=true→p.1=p.2)→l=m
 | [],[],_,_,_=>rfl
 | x::l,y::m,U,h,hf=>by simp only[List.zip_cons_cons,List.all_cons,Bool.and_eq_true] at h;rw[show x=y from hf _ h.1,pT l m (by simpa using U) h.2 hf]
 | [],_::_,U,_,_=>by simp at U
 | _::_,[],U,_,_=>by simp at U
def ir:∀{n:Nat} {x y:Value},m9 n x y=true→x=y
 | 0,_,_,h=>by simp[m9] at h
 | n+1,x,y,h=>by
  have U:∀p:Value × Value,m9 n p.1 p.2=true→p.1=p.2:=fun p c=>ir c;unfold m9 at h;split at h
  ·rw[eq_of_beq h]
  ·simp only[Bool.and_eq_true] at h;rw[eq_of_beq h.1,eq_of_beq h.2]
  ·rw[sa h]
  ·rw[eq_of_beq h]
  ·simp only[Bool.and_eq_true] at h;rw[eq_of_beq h.1.1,Nat.eq_of_beq_eq_true h.1.2,Nat.eq_of_beq_eq_true h.2]
  ·simp only[Bool.and_eq_true] at h;obtain⟨⟨⟨⟨h1,h2⟩,h3⟩,a⟩,b⟩:=h;rw[eq_of_beq h1,Array.toList_inj.1 (pT _ _ (Nat.eq_of_beq_eq_true h2) a U),Array.toList_inj.1 (pT _ _ (Nat.eq_of_beq_eq_true h3) b U)]
  ·simp only[Bool.and_eq_true] at h;rw[Array.toList_inj.1 (pT _ _ (Nat.eq_of_beq_eq_true h.1) h.2 U)]
  ·rfl
  ·rfl
  ·cases h
def yD{U:List Nat}:∀(l:List Edge) (m:Nat),(l.foldl (fun m e=>if Region.binds .any e then m ||| (1 <<< e.on ||| U.getD e.on 0) else m) m).testBit j=true →
  m.testBit j=true∨∃e∈l,Region.binds .any e=true∧(j=e.on∨(U.getD e.on 0).testBit j=true)
 | [],m,h=>.inl h
 | e::l,m,h=>by
  simp only[List.foldl_cons] at h;rcases yD l _ h with q|⟨e',a0,q⟩
  ·split at q
   ·next hb =>
    simp only[Nat.testBit_or,Bool.or_eq_true] at q;rcases q with q|q|q
    ·exact .inl q
    ·rw[Nat.one_shiftLeft,Nat.testBit_two_pow] at q;exact .inr ⟨e,iq,hb,.inl (by simpa using(of_decide_eq_true q).symm)⟩
    ·exact .inr ⟨e,iq,hb,.inr q⟩
   ·exact .inl q
  ·exact .inr ⟨e',by simp[a0],q⟩
def qQ:∀(b:List Oper) (U:List Nat),(e7 b U).take U.length=U∧(e7 b U).length=U.length+b.length∧∀(m:Nat) (o:Oper),b[m]?=some o→(e7 b U)[U.length+m]?=some (yd ((e7 b U).take (U.length+m)) o)
 | [],U=>⟨by simp[e7],by simp[e7],fun m o h=>by simp at h⟩
 | o::rest,U=>by
  have⟨h1,h2,h3⟩:=qQ rest (U++[yd U o]);have e:e7 (o::rest) U=e7 rest (U++[yd U o]):=rfl;rw[e];have a:(e7 rest (U++[yd U o])).take U.length=U:=by have:=congrArg (List.take U.length) h1;rw[List.take_take] at this;simpa using this
  refine⟨a,by rw[h2];simp;omega,fun m d c=>?_⟩;cases m with
  | zero =>
   simp at c;subst c;rw[Nat.add_zero,a]
   have:=congrArg (fun l=>l[U.length]?) h1;simp only[List.getElem?_take,lA,List.length_singleton,Nat.lt_succ_self,if_true] at this;rw[this];simp
  | succ m =>have:=h3 m d (by simpa using c);simp only[lA,List.length_singleton] at this;rw[show U.length+(m+1)=U.length+1+m by omega];exact this
def ki(ops:Array Oper)(i j:Nat):Prop:=((e7 ops.toList []).getD i 0).testBit j=true
theorem sy(d:fO ops=true)(c:ops[i]?=some o)(h:ki ops i j):∃e∈o.after,Region.binds .any e=true∧(j=e.on∨ki ops e.on j):=by
 have⟨_,_,h3⟩:=qQ ops.toList [];have b:=h3 i o (by simpa using c);simp only[List.length_nil,Nat.zero_add] at b;unfold ki at h;rw[List.getD_eq_getElem?_getD,b,Option.getD_some] at h;rcases yD _ _ h with q|⟨e,he,q1,q2⟩
 ·simp at q
 ·have U:e∈o.after:=by simpa using he
  refine⟨e,U,q1,q2.imp id fun q=>?_⟩;have a:=kK d c U q1;unfold ki;rw[List.getD_eq_getElem?_getD,List.getElem?_take,ip a] at q;rw[List.getD_eq_getElem?_getD];exact q
def oQ(U:fO ops=true):∀(i:Nat) {j:Nat},i<ops.size→ki ops i j→j<i:=by
 intro i;induction i using Nat.strongRecOn with
 | _ i ih =>
  intro j d h;have b:ops[i]?=some ops[i]:=gF d;have⟨e,c,h1,h2⟩:=sy U b h;have a:=kK U b c h1;rcases h2 with rfl|h2
  ·exact a
  ·have:=ih e.on a oq h2;omega
def jD(ops:Array Oper)(J:Nat→Bool):Prop:=∀i j,i<ops.size→J i=true→ki ops i j→J j=true
def eY(b:fO ops=true){J:Nat→Bool}(d:jD ops J)(f:i<ops.size)(g:kI ops J i)(h:ki ops i j):J j=true:=by
 have U:ops[i]?=some ops[i]:=gF f;have⟨e,c,h1,h2⟩:=sy b U h;have a:=g _ U e c h1;rcases h2 with rfl|h2
 ·exact a
 ·exact d e.on j (by have:=kK b U c h1;omega) a h2
section
variable {P:Program}{kt:TypeId→Bool}{call:FuncId→Aq→AS→Option (Value × AS)}{ops:Array Oper}
def zI (tr:List (TL × Value × AS))(m:Nat):Value:=match tr[m]? with
 | some (_,v,_)=>v
 | none=>undef
def rD (todo:List Oper)(tr:List (TL × Value × AS))(a:TL):Nat→TL
 | 0=>a
 | m+1=>(rD todo tr a m).put ((todo[m]?).bind (·.dst)) (zI tr m)
def vr(o:Oper)(rest:List Oper)(tr:List (TL × Value × AS))(a U:TL)(v:Value)(s1:AS):∀m,rD (o::rest) ((U,v,s1)::tr) a (m+1)=rD rest tr (a.put o.dst v) m
 | 0=>rfl
 | m+1=>by have:=vr o rest tr a U v s1 m;rw[rD,this,rD];rfl
def qZ(x:TL × Value × AS)(tr:List (TL × Value × AS))(s:AS):∀m,m≤tr.length→gT (x::tr) s (m+1)=gT tr x.2.2 m
 | 0,_=>rfl
 | m+1,h=>by have:tr[m]?=some tr[m]:=gE oq;simp[gT,this]
def Aa(P:Program)(kt:TypeId→Bool)(call:FuncId→Aq→AS→Option (Value × AS))(ops:Array Oper)(o:Oper)(a:TL)(s:AS)(v:Value)(s':AS):Prop :=
 (Region.wanted o (bK ops a)=true∧bM P kt call a o s=some (v,s'))∨(Region.wanted o (bK ops a)=false∧v=undef∧s'=s)
def uQ:∀(d:List Oper) {a:TL} {s:AS} {tr:List (TL × Value × AS)},oM P kt call ops d a s=some tr→tr.length=d.length∧∀(m:Nat) (o:Oper),d[m]?=some o →
  tr[m]?=some (rD d tr a m,zI tr m,gT tr s (m+1))∧Aa P kt call ops o (rD d tr a m) (gT tr s m) (zI tr m) (gT tr s (m+1))
 | [],a,s,tr,h=>by simp[oM] at h;subst h;exact⟨rfl,fun m o h=>by simp at h⟩
 | o::rest,a,s,tr,h=>by
  have key:∀v b U,(Region.wanted o (bK ops a)=true∧bM P kt call a o s=some (v,b))∨(Region.wanted o (bK ops a)=false∧v=undef∧b=s)→oM P kt call ops rest (a.put o.dst v) b=some U→tr=(a,v,b)::U →
    tr.length=(o::rest).length∧∀(m:Nat) (o':Oper),(o::rest)[m]?=some o'→tr[m]?=some (rD (o::rest) tr a m,zI tr m,gT tr s (m+1))∧Aa P kt call ops o' (rD (o::rest) tr a m) (gT tr s m) (zI tr m) (gT tr s (m+1)):=by
   rintro v b U i e rfl;have⟨h1,h2⟩:=uQ rest e;refine⟨by simp[h1],fun m o' c=>?_⟩;cases m with
   | zero =>simp at c;subst c;exact⟨rfl,i⟩
   | succ m =>
    have g:rest[m]?=some o':=by simpa using c
    have p:m<U.length:=by rw[h1];exact(gS.1 g).1
    have⟨q1,q2⟩:=h2 m o' g;have e1:=vr o rest U a a v b m;have j:=qZ (a,v,b) U s m oq;have k:=qZ (a,v,b) U s (m+1) oq;have l:zI ((a,v,b)::U) (m+1)=zI U m:=rfl;rw[e1,j,k,l];exact⟨by simpa using q1,q2⟩
  unfold oM at h;split at h
  ·next f =>
   split at h
   ·next v b n =>
    split at h
    ·next U e=>cases h;exact key v b U (.inl ⟨f,n⟩) e rfl
    ·cases h
   ·cases h
  ·next f =>
   split at h
   ·next U e=>cases h;exact key undef s U (.inr ⟨by simpa using f,rfl,rfl⟩) e rfl
   ·cases h
end
structure iA(P:Program)(kt:TypeId→Bool)(call:FuncId→Aq→AS→Option (Value × AS))(ops:Array Oper)(q:Nat)(aA:TL)(s:AS)(sl:Nat→TL)(vl:Nq)(hp:Nat→AS):Prop where
 back:fO ops=true
 le:q≤ops.size
 s0:sl 0=aA
 h0:hp 0=s
 UH:∀m o,ops[m]?=some o→sl (m+1)=(sl m).put o.dst (vl m)
 step:∀m o,ops[m]?=some o→Aa P kt call ops o (sl m) (hp m) (vl m) (hp (m+1))
 last:∀i j,q≤i→i<ops.size→j<i→ki ops i j
 data:∀i o t j o',i<q→ops[i]?=some o→.tmp t∈o.op.operands→j<q→ops[j]?=some o'→o'.dst=some t→ki ops i j
 guard:∀i o j b,i<q→ops[i]?=some o→o.guard=some (j,b)→ki ops i j∧j<q
 once:∀i j o o' t,i<q→j<q→ops[i]?=some o→ops[j]?=some o'→o.dst=some t→o'.dst=some t→i=j
 chain:∀i j o o',i<q→ops[i]?=some o→kindOf P o=3→j<i→ops[j]?=some o'→2≤kindOf P o'→ki ops i j
 PH:∀r o t x,r<q→ops[r]?=some o→o.op=.load t x→Region.wanted o (bK ops (sl r))=true→∀p,(p=0∨∃e o',p=e+1∧e<q∧ops[e]?=some o'∧kindOf P o'=3) →
  (∀e o',e<q→ops[e]?=some o'→kindOf P o'=3→(e<p→¬ki ops e r)∧(p≤e→¬ki ops r e))→aC P t ((sl r).at x) (hp p)=some (vl r)
section
variable {P:Program}{kt:TypeId→Bool}{call:FuncId→Aq→AS→Option (Value × AS)}{ops:Array Oper}{q:Nat}{aA jy:TL}{s s':AS}{sl:Nat→TL}{vl:Nq}{hp:Nat→AS}
def mg(U:List Nat):∀n,iC U n≤n
 | 0=>Nat.le_refl _
 | n+1=>by
  unfold iC;split
  ·exact lT (mg U n) oq
  ·exact Nat.le_refl _
def et{n:Nat}{f:Nat→Bool}(h:(List.range n).all f=true)(U:i<n):f i=true:=by rw[aT] at h;exact h i (List.mem_range.2 U)
def yh(h:jQ P kt call ops aA s=some (jy,s')):∃q Q vl A,iA P kt call ops q aA s Q vl A∧Q ops.size=jy∧A ops.size=s':=by
 unfold jQ at h;simp only at h;split at h
 ·cases h
 ·next H =>
  simp only[not_or,Bool.not_eq_false] at H;have⟨T,C⟩:=H;split at h
  ·next B X =>
   split at h
   ·cases h
   ·next y =>
    simp only[Bool.not_eq_false] at y;have⟨R,L⟩:=uQ _ X;have J:ops.toList.length=ops.size:=iq
    refine⟨iC (e7 ops.toList []) ops.toList.length,rD ops.toList B aA,zI B,gT B s,?_,?_⟩
    ·unfold A4 at C;simp only[Bool.and_eq_true] at C;obtain⟨⟨k1,K⟩,k3⟩:=C;have a:∀{i:Nat} {o:Oper},ops[i]?=some o→ops.toList[i]?=some o:=fun c=>by simpa using c
     refine⟨T,by rw[← J];exact mg _ _,rfl,rfl,fun m o c=>?_,fun m o c=>(L m o (a c)).2,fun i j f H k=>?_,fun i o t j d f c ht k U D=>?_,fun i o j b f c G=>?_,fun i j o d t f k c U D E=>?_,fun i j o d f c u k U Q8=>?_,fun r o t x hr c I hw p A hE=>?_⟩
     ·have G:ops.toList[m]?=some o:=a c;simp only[rD,G,Option.bind_some]
     ·have:=et k1 (i:=i) oq;simp only[Bool.or_eq_true,decide_eq_true_eq] at this;rcases this with z|z
      ·omega
      ·exact et z k
     ·have:=et K f;rw[a c] at this;simp only[Bool.and_eq_true] at this;have h1:=this.1.1;rw[aT] at h1;have h2:=h1 t (by simp only[tmpsOf,List.mem_filterMap];exact⟨.tmp t,by simpa using ht,rfl⟩);have h3:=et h2 k;rw[a U] at h3;simp only[Option.bind_some,D,bne_self_eq_false,Bool.false_or] at h3;exact h3
     ·have:=et K f;rw[a c] at this;simp only[Bool.and_eq_true] at this;have h1:=this.1.2;rw[G] at h1;simp only[Bool.and_eq_true,decide_eq_true_eq] at h1;exact h1
     ·have:=et K f;rw[a c] at this;simp only[Bool.and_eq_true] at this;have h1:=et this.2 k;rw[a U] at h1;simp only[Option.bind_some,D,E,bne_self_eq_false,Bool.or_false,Bool.or_eq_true,beq_iff_eq,reduceCtorEq,or_false] at h1;exact h1
     ·have:=et k3 f;have e1:(ops.toList.map (kindOf P)).getD i 0=3:=by rw[List.getD_eq_getElem?_getD,List.getElem?_map,a c];exact u
      simp only[e1,bne_self_eq_false,Bool.false_or] at this;have h1:=et this k;have Z:(ops.toList.map (kindOf P)).getD j 0=kindOf P d:=by rw[List.getD_eq_getElem?_getD,List.getElem?_map,a U];rfl
      rw[Z] at h1;have e3:(kindOf P d).blt 2=false:=by
       rw[Bool.eq_false_iff];intro hb
       have:=Eq.mp Nat.blt_eq hb;omega
      rw[e3,Bool.false_or] at h1;exact h1
     ·unfold pd at y;simp only at y;have h1:=et y hr;rw[a c,(L r o (a c)).1] at h1;simp only[I] at h1;rw[aT] at h1;have v:p∈0::(((List.range (iC (e7 ops.toList []) ops.toList.length)).filter fun i=>(match ops.toList[i]? with|some o=>kindOf P o|none=>0)==3).map (·+1)):=by
       rcases A with rfl|⟨e,d,rfl,F,U,u⟩
       ·simp
       ·refine List.mem_cons_of_mem _ (List.mem_map.2 ⟨e,List.mem_filter.2 ⟨List.mem_range.2 F,?_⟩,rfl⟩);rw[a U];simp[u]
      have h2:=h1 p v;simp only[Bool.or_eq_true,hw,Bool.not_true,Bool.false_eq_true,or_false] at h2;rcases h2 with z|z
      ·rw[List.any_eq_true] at z;have⟨e,F,z⟩:=z;have⟨g,n⟩:=List.mem_filter.1 F;have g:=List.mem_range.1 g;obtain⟨d,U⟩:∃d,ops[e]?=some d:=⟨_,gF (by have:=mg (e7 ops.toList []) ops.toList.length;omega)⟩;rw[a U] at n;have u:kindOf P d=3:=by simpa using n
       have⟨z1,z2⟩:=hE e d g U u;simp only[Bool.or_eq_true,Bool.and_eq_true,Bool.not_eq_true'] at z;rcases z with ⟨za,zb⟩|⟨za,zb⟩
       ·exact absurd zb (z1 (Eq.mp Nat.blt_eq za))
       ·refine absurd zb (z2 ?_);apply Classical.byContradiction;intro a8;rw[Eq.mpr Nat.blt_eq oq] at za;cases za
      ·split at z
       ·next v' Y=>rw[Y,ir z]
       ·cases z
    ·split at h
     ·next S v1 s1 aa O oo V N =>
      cases h;have a9:0<ops.size:=by have:=congrArg List.length N;simp at this;omega
      obtain⟨m,hm⟩:∃m,ops.size=m+1:=⟨ops.size-1,oq⟩;have w:ops.toList[m]?=some O:=by have:=congrArg (fun l=>l[0]?) N;simp only[List.getElem?_cons_zero] at this;rw[List.getElem?_reverse (by simp;omega)] at this;rw[← this];congr 1;simp;omega
      have W:B[m]?=some (S,v1,s'):=by have:=congrArg (fun l=>l[0]?) V;simp only[List.getElem?_cons_zero] at this;rw[List.getElem?_reverse (by rw[R];simp;omega)] at this;rw[← this];congr 1;rw[R];simp;omega
      have⟨M,u2⟩:=L m O w;rw[W] at M;simp only[Option.some.injEq,Prod.mk.injEq] at M;have⟨u3,u4,u5⟩:=M;rw[hm];refine⟨?_,u5.symm⟩;simp only[rD,w,Option.bind_some,← u3,← u4]
     ·cases h
  ·cases h
end
section
variable {P:Program}{kt:TypeId→Bool}{call:FuncId→Aq→AS→Option (Value × AS)}{ops:Array Oper}{q:Nat}{aA jy:TL}{s s':AS}{sl:Nat→TL}{vl:Nq}{hp:Nat→AS}{J J':Nat→Bool}{S:bJ}{a:Act}
def xD(ops:Array Oper)(q:Nat)(aA:TL)(vl:Nq)(J:Nat→Bool)(t:Nat)(x:Value):Prop :=
 (∃m o,m<q∧ops[m]?=some o∧o.dst=some t∧J m=true∧x=vl m)∨((∀m o,m<q→ops[m]?=some o→o.dst=some t→J m=false)∧x=aA.getD t undef)
def oI(h:xD ops q aA vl J t x)(c:∀m o,m<q→ops[m]?=some o→o.dst=some t→J m=J' m):xD ops q aA vl J' t x:=by
 rcases h with ⟨m,o,h1,h2,h3,h4,h5⟩|⟨h1,h2⟩
 ·exact .inl ⟨m,o,h1,h2,h3,by rw[← c m o h1 h2 h3];exact h4,h5⟩
 ·exact .inr ⟨fun m o a U b=>by rw[← c m o a U b];exact h1 m o a U b,h2⟩
def tz(d:iA P kt call ops q aA s sl vl hp):∀m,m≤ops.size→(sl m).length=aA.length
 | 0,_=>by rw[d.s0]
 | m+1,h=>by
  have U:ops[m]?=some (ops[m]'oq):=gF oq;rw[d.UH m _ U]
  have:=tz d m oq;cases hd:(ops[m]'oq).dst with
  | none=>exact this
  | some t=>show(yN (sl m) t (vl m)).length=_;rw[oZ,List.length_set];exact this
def Gl(d:iA P kt call ops q aA s sl vl hp)(f:t<aA.length):∀m,m≤q→xD ops q aA vl (fun k=>decide (k<m)) t ((sl m).getD t undef)
 | 0,_=>.inr ⟨fun m o _ _ _=>by simp,by rw[d.s0]⟩
 | m+1,h=>by
  have hm:m<ops.size:=by have:=d.le;omega
  have c:ops[m]?=some ops[m]:=gF hm;have j:=Gl d f m oq;have a:=tz d m oq;rw[d.UH m _ c];by_cases b:(ops[m]).dst=some t
  ·refine .inl ⟨m,_,oq,c,b,iq,?_⟩;rw[b];show(yN (sl m) t (vl m)).getD t undef=_;rw[oZ,List.getD_eq_getElem?_getD,List.getElem?_set];simp[a,f]
  ·have e:((sl m).put (ops[m]).dst (vl m)).getD t undef=(sl m).getD t undef:=by
    cases a0:(ops[m]).dst with
    | none=>rfl
    | some u =>show(yN (sl m) u (vl m)).getD t undef=_;rw[oZ,List.getD_eq_getElem?_getD,List.getElem?_set,iw (by rintro rfl;exact b a0),← List.getD_eq_getElem?_getD]
   rw[e];refine oI j fun k o l U g=>?_;by_cases i:k=m
   ·subst i;rw[c] at U;cases U;exact absurd g b
   ·rw[Bool.eq_iff_iff];simp;omega
def uy(ops:Array Oper)(q:Nat)(aA:TL)(vl:Nq)(J:Nat→Bool)(S:bJ)(a:Act):Prop :=
 a.tmps.size=aA.length∧a.defers=[]∧∀t x,t<aA.length→xD ops q aA vl J t x→VR S x (a.tmps.getD t undef)
def tB(d:iA P kt call ops q aA s sl vl hp)(U:uy ops q aA vl J S a)(e:m≤q)(c:∀j o,j<q→ops[j]?=some o→o.dst=some t→(J j=true↔j<m)):VR S ((sl m).getD t undef) (a.tmps.getD t undef):=by
 by_cases b:t<aA.length
 ·refine U.2.2 t _ b (oI (Gl d b m e) fun j o h1 h2 h3=>?_);rw[Bool.eq_iff_iff];simp[c j o h1 h2 h3]
 ·have h1:(sl m)[t]?=none:=List.getElem?_eq_none (by rw[tz d m (by have:=d.le;omega)];omega);have h2:a.tmps[t]?=none:=Array.getElem?_eq_none (by rw[U.1];omega);rw[List.getD_eq_getElem?_getD,h1,Array.getD_eq_getD_getElem?,h2];exact VR.undef
def Gn(d:iA P kt call ops q aA s sl vl hp)(U:kn ops=true)(l:uy ops q aA vl J S a)(n:jD ops J)(u:m<q)(h:ops[m]?=some o)(w:kI ops J m):eB S (sl m) a o:=by
 intro x i;have b:m<ops.size:=by have:=d.le;omega
 have c:yV x=true:=by
  unfold kn at U;rw[aT] at U
  have:=U o (by have:=Array.mem_of_getElem? h;simpa using this);rw[aT] at this;exact this x (by simpa using i)
 cases x with
 | tmp t =>refine tB d l oq fun j y r k p=>?_;have e:=d.data m o t j y u h i r k p;exact⟨fun _=>oQ d.back m b e,fun _=>eY d.back n b w e⟩
 | const v=>exact VR.dE c
 | global g=>simp[yV] at c
 | func f=>exact VR.yT AR.nil AR.nil
def F4{x:Vq}(a:x.length=y.size)(h:VR S (x.getD t undef) (y.getD t undef))(b:Bool):x[t]?=some (.bool b)↔y[t]?=some (.bool b):=by
 by_cases U:t<y.size
 ·have h1:x[t]?=some (x[t]'oq):=gE _;have h2:y[t]?=some y[t]:=gF U;rw[List.getD_eq_getElem?_getD,h1,Array.getD_eq_getD_getElem?,h2,Option.getD_some,Option.getD_some] at h;rw[h1,h2];constructor
  ·intro e;simp only[Option.some.injEq] at e ⊢;rw[e] at h;exact h.sc rfl
  ·intro e;simp only[Option.some.injEq] at e ⊢;rw[e] at h;exact h.xV
 ·rw[List.getElem?_eq_none oq,Array.getElem?_eq_none oq]
def yg(d:iA P kt call ops q aA s sl vl hp)(h:uy ops q aA vl J S a)(r:jD ops J)(w:m<q)(x:ops[m]?=some o)(y:kI ops J m):Region.wanted o (yielded ops a.tmps)=Region.wanted o (bK ops (sl m)):=by
 have U:m<ops.size:=by have:=d.le;omega
 unfold Region.wanted;split
 ·rfl
 ·next j k v =>
  have⟨f,n⟩:=d.guard m o j k w x v;rw[pQ (aA:=sl m) fun t i b=>?_];have c:(sl m).length=a.tmps.size:=by rw[tz d m oq,h.1]
  refine F4 (S:=S) c (tB d h oq fun z A l p u=>?_) b;obtain⟨g,e⟩:∃g,ops[j]?=some g:=⟨_,gF (by have:=oQ d.back m U f;omega)⟩;rw[e] at i
  have:=d.once z j A g t l n p e u (by simpa using i);subst this;exact⟨fun _=>oQ d.back m U f,fun _=>eY d.back r U y f⟩
def qG(d:iA P kt call ops q aA s sl vl hp)(U:uy ops q aA vl J S a){S':bJ}(n:S.le S')(f:m<q)(c:ops[m]?=some o)(r:J m=false)(p:VR S' (vl m) v'):uy ops q aA vl (fun k=>if k=m then true else J k) S' (a.put o.dst v'):=by
 refine⟨?_,?_,fun t x g h=>?_⟩
 ·cases b:o.dst<;>simp[Act.put,U.1]
 ·cases b:o.dst<;>exact U.2.1
 ·by_cases b:o.dst=some t
  ·have l:x=vl m:=by
    rcases h with ⟨k,i,h1,h2,h3,h4,h5⟩|⟨h1,h2⟩
    ·have:=d.once k m i o t h1 f h2 c h3 b;subst this;exact h5
    ·have:=h1 m o f c b;simp at this
   subst l;rw[b];show VR S' (vl m) ((a.tmps.setIfInBounds t v').getD t undef);rw[Array.getD_eq_getD_getElem?,Array.getElem?_setIfInBounds];simp only[if_true];rw[ip (by rw[U.1];exact g)];exact p
  ·have j:xD ops q aA vl J t x:=oI h fun k i h1 h2 h3=>by
    by_cases e:k=m
    ·subst e;rw[c] at h2;cases h2;exact absurd h3 b
    ·simp[e]
   have:=(U.2.2 t x g j).mono n;cases SG:o.dst with
   | none=>exact this
   | some u =>show VR S' x ((a.tmps.setIfInBounds u v').getD t undef);rw[Array.getD_eq_getD_getElem?,Array.getElem?_setIfInBounds,iw (by rintro rfl;exact b SG),← Array.getD_eq_getD_getElem?];exact this
def qT{a:TL}(U:kindOf P o=0)(h:bM P kt call a o s1=some (v,VJ)):VJ=s1∧∀d,bM P kt call a o d=some (v,d):=by
 unfold kindOf at U;split at U
 ·cases U
 ·next g =>
  unfold bM at h ⊢;rw[iw g] at h;cases a0:o.op<;>simp only[a0] at U h ⊢<;>first
   | (cases U;done)
   | skip
  case slice t x lo hi mx =>
   split at U
   ·next m =>
    have e:∀d,fP P t (a.at x) (lo.map a.at) (hi.map a.at) (mx.map a.at) d=fP P t (a.at x) (lo.map a.at) (hi.map a.at) (mx.map a.at) s1:=fun d=>by unfold fP;simp only[m];cases a.at x<;>cases Option.map a.at mx<;>rfl
    split at h
    ·next j i =>cases h;refine⟨rfl,fun d=>?_⟩;rw[a0] at g;rw[iw g,e d,i]
    ·cases h
   ·cases U
  case call c =>
   rw[a0] at g;cases hc:c.callee with
   | value f=>rw[hc] at U;simp at U
   | invoke r n=>rw[hc] at U;simp at U
   | builtin b =>
    rw[hc] at h U;simp only at h U;split at h
    ·next j i=>cases h;exact⟨rfl,fun d=>by first|(rw[iw g];done)|(rw[iw g];simp only[i])⟩
    ·next i =>
     exfalso;unfold eS at h;split at h;iterate 4
      ·simp at U
     ·cases h
  case convert t u x =>
   rw[a0] at g;have e:∀d,fv P t u (a.at x) d=none:=fun d=>by
    unfold fv;split;iterate 2
     ·next k l _=>simp[k,l] at U
    ·rfl
   split at h
   ·next j i=>cases h;exact⟨rfl,fun d=>by first|(rw[iw g];done)|(rw[iw g];simp only[i])⟩
   ·rw[e] at h;cases h
  all_goals
   rw[a0] at g
   split at h
   ·next j i=>cases h;exact⟨rfl,fun d=>by first|(rw[iw g];done)|(rw[iw g];simp only[i])⟩
   ·cases h
end
def ui{f:α→β}{l:List α}(h:(l.map f).Nodup){x y:α}(U:x∈l)(a:y∈l)(e:f x=f y):x=y:=by
 induction l with
 | nil=>simp at U
 | cons z l b =>
  rw[List.map_cons,List.nodup_cons] at h;rcases List.mem_cons.1 U with h1|h1<;>rcases List.mem_cons.1 a with h2|h2
  ·rw[h1,h2]
  ·exact absurd (List.mem_map.2 ⟨y,h2,by rw[← e,h1]⟩) h.1
  ·exact absurd (List.mem_map.2 ⟨x,h1,by rw[e,h2]⟩) h.1
  ·exact b h.2 h1 h2
section
variable {P:Program}{KT:TypeId→Prop}{An:bJ}{S:bJ}{s:AS}{l l':Hq}
def eK.more(h:eK P KT An S s l)(a:∀x∈l,x∈l'):eK P KT An S s l':=⟨fun b o U=>by have⟨g,z,e,c,h1,h2,h3⟩:=h.live b o U;exact⟨g,z,e,c,h1,a _ h2,h3⟩,h.inj,h.lt,h.an⟩
def eK.OB(h:eK P KT An S s l)(a:S s.nx=some (g,z,e))(j:(g,o')∈l)(k:OR S z ob o')(m:∀f t i,ob=.cells f t i→bQ P t=some e∧¬KT t)(d:∀b o x,s.get b=some o→S b=some x→x.1≠g):eK P KT An S (s.add ob) l where
 live b Um hb:=by
  rw[AS.aG] at hb
  split at hb
  ·
   next U=>subst U;cases hb;exact⟨g,z,e,o',a,j,k,m⟩
  ·
   exact h.live b Um hb
 inj b b' o1 o2 x x' hb pV hx yI he:=by
  rw[AS.aG] at hb pV
  split at hb<;>split at pV
  ·
   omega
  ·
   next e1 c=>subst e1;rw[a] at hx;cases hx;exact absurd he.symm (d b' o2 x' pV yI)
  ·
   next e1 c=>subst c;rw[a] at yI;cases yI;exact absurd he (d b o1 x hb hx)
  ·
   exact h.inj b b' o1 o2 x x' hb pV hx yI he
 lt b Um hb:=by
  rw[AS.aG] at hb
  split at hb
  ·
   next U=>simp[U]
  ·
   have:=h.lt b Um hb;simp;omega
 an:=h.an
end
section
variable {ι:Type}{P:Program}{KT:TypeId→Prop}{An:bJ}{N0:ι→Nat}{M:ι→World→Nat→Prop}{O:ι→Nat→Prop}{R:ι→Wq}{D:ι→World→World→Array Event→Prop}{X:ι→Gq}{Hd:ι→Hq→World→Prop}
variable {kt:TypeId→Bool}{call:FuncId→Aq→AS→Option (Value × AS)}{ops:Array Oper}{q:Nat}{aA jy:TL}{s s':AS}{sl:Nat→TL}{vl:Nq}{hp:Nat→AS}{J J':Nat→Bool}{S0 S S1:bJ}{a a1:Act}{fr l l1:Hq}{i i1:ι}{w w1:World}{p m:Nat}{B:Nat→Nat × Obj}{As:List Nat}{o:Oper}
def lK(P:Program)(kt:TypeId→Bool)(ops:Array Oper)(sl:Nat→TL)(vl:Nq)(hp:Nat→AS)(m:Nat)(ob:Obj)(mk:Nq):Prop :=
 ∃o,ops[m]?=some o∧kindOf P o=2∧Region.wanted o (bK ops (sl m))=true∧ss P kt (sl m) o=some (ob,mk)∧hp (m+1)=(hp m).add ob∧vl m=mk (hp m).nx
structure xp(P:Program)(KT:TypeId→Prop)(An:bJ)(Hd:ι→Hq→World→Prop)(kt:TypeId→Bool)(ops:Array Oper)(q:Nat)(aA:TL)(s:AS)(sl:Nat→TL)(vl:Nq)(hp:Nat→AS)(S0:bJ)(fr:Hq)(J:Nat→Bool)(i:ι)(a:Act)(w:World)(p:Nat)(S:bJ)(l:Hq)(B:Nat→Nat × Obj)(As:List Nat):Prop where
 pq:p≤q
 Fc:∀m o,m<q→ops[m]?=some o→kindOf P o=3→(J m=true↔m<p)
 Oh:p=0∨∃e o',p=e+1∧e<q∧ops[e]?=some o'∧kindOf P o'=3
 low:∀m ob mk,m<p→lK P kt ops sl vl hp m ob mk→J m=true
 nd:As.Nodup
 mem:∀m,m∈As↔(m<q∧p≤m∧J m=true∧∃ob mk,lK P kt ops sl vl hp m ob mk)
 uq:eK P KT An S (hp p) l
 hd:Hd i (l++(As.map B++fr)) w
 y9:∀m∈As,∃ob mk z e,lK P kt ops sl vl hp m ob mk∧S (hp m).nx=some ((B m).1,z,e)∧OR S z ob (B m).2∧∀cs t fz,ob=.cells cs t fz→bQ P t=some e∧¬KT t
 fresh:∀b,(hp p).nx≤b→b<(hp ops.size).nx→S b≠none→∃m∈As,b=(hp m).nx
 le:S0.le S
 out:∀b,b<s.nx∨(hp ops.size).nx≤b→S b=S0 b
 kv:uy ops q aA vl J S a
def Ca(U:∀f a s v b,call f a s=some (v,b)→s.nx≤b.nx)(d:iA P kt call ops q aA s sl vl hp)(c:m<ops.size):(hp m).nx≤(hp (m+1)).nx:=by
 have e:ops[m]?=some ops[m]:=gF c;rcases d.step m _ e with ⟨_,h⟩|⟨_,_,h⟩
 ·exact rI U h
 ·rw[h];exact Nat.le_refl _
def dK(U:∀f args s v s',call f args s=some (v,s')→s.nx≤s'.nx)(d:iA P kt call ops q aA s sl vl hp):∀{m'},m≤m'→m'≤ops.size→(hp m).nx≤(hp m').nx
 | 0,h,_=>by rw[Nat.le_zero.1 h];exact Nat.le_refl _
 | m'+1,h,h'=>by
  by_cases e:m=m'+1
  ·rw[e];exact Nat.le_refl _
  ·exact lT (dK U d (m':=m') oq oq) (Ca U d oq)
def lK.nx(h:lK P kt ops sl vl hp m ob mk):(hp (m+1)).nx=(hp m).nx+1:=by have⟨o,_,_,_,_,h,_⟩:=h;rw[h];rfl
def uW(d:iA P kt call ops q aA s sl vl hp)(i:ops[m]?=some o)(a:kindOf P o≠3):(∃f e,lK P kt ops sl vl hp m f e)∨((¬∃f e,lK P kt ops sl vl hp m f e)∧hp (m+1)=hp m):=by
 rcases d.step m o i with ⟨hw,h⟩|⟨hw,hv,h⟩
 ·by_cases h2:eI o.op=true
  ·have l:kindOf P o=2:=by unfold kindOf;rw[ip h2]
   have b:=h;unfold bM at b;rw[ip h2] at b;split at b
   ·next f e g =>simp only[Option.some.injEq,Prod.mk.injEq] at b;exact .inl ⟨f,e,o,i,l,hw,g,b.2.symm,b.1.symm⟩
   ·cases b
  ·right;refine⟨?_,?_⟩
   ·rintro⟨f,e,o',a0,_,_,g,_⟩;rw[i] at a0;cases a0;unfold ss at g;cases U:o.op<;>simp only[U] at g h2<;>first|(cases g;done)|(simp[eI] at h2)
   ·by_cases j:∃t x,o.op=.load t x
    ·have⟨t,x,U⟩:=j;unfold bM at h;rw[iw h2,U] at h;simp only at h;split at h
     ·simp only[Option.some.injEq,Prod.mk.injEq] at h;exact h.2.symm
     ·cases h
    ·have k:kindOf P o=0:=by
      unfold kindOf at a ⊢;rw[iw h2] at a ⊢;cases U:o.op<;>simp only[U] at a ⊢<;>first|rfl|(exact absurd rfl a)|skip
      case load t x=>exact absurd ⟨t,x,U⟩ j
      case slice t x lo hi mx=>split at a<;>first|rfl|exact absurd rfl a
      case call c=>split at a<;>first|rfl|exact absurd rfl a
      case convert t u x=>split at a<;>first|rfl|exact absurd rfl a
     exact(qT k h).1
 ·right;refine⟨?_,h⟩;rintro⟨f,e,o',a0,_,a2,_⟩;rw[i] at a0;cases a0;rw[hw] at a2;cases a2
def xp.merge(Y:Cy P KT N0 M O R D X Hd)(d:iA P kt call ops q aA s sl vl hp)(h:xp P KT An Hd kt ops q aA s sl vl hp S0 fr J i a w p S l B As)(h0:m0≤q)(L:∀m o,p≤m→m<m0→ops[m]?=some o→kindOf P o≠3)(I:∀m,p≤m→m<m0→(∃H G,lK P kt ops sl vl hp m H G)→m∈As) :
  ∀m,p≤m→m≤m0→eK P KT An S (hp m) (l++(As.filter (·<m0)).map B)∧∀b o,(hp m).get b=some o→(∃v,(hp p).get b=some v)∨∃j∈As,j<m∧b=(hp j).nx:=by
 have A:=(Y.Z h.hd).nodup h.hd;rw[List.map_append,List.map_append,List.nodup_append,List.nodup_append] at A;obtain⟨N,⟨r,_,_⟩,u⟩:=A;rw[List.map_map] at r;intro m;induction m with
 | zero =>
  intro h1 _;have:p=0:=oq
  subst this;exact⟨h.uq.more fun x f=>List.mem_append_left _ f,fun b o c=>.inl ⟨o,c⟩⟩
 | succ m Q =>
  intro h1 h2;by_cases e:p=m+1
  ·subst e;exact⟨h.uq.more fun x f=>List.mem_append_left _ f,fun b o c=>.inl ⟨o,c⟩⟩
  ·obtain⟨F,i2⟩:=Q oq oq;have t:m<ops.size:=by have:=d.le;omega
   have E:ops[m]?=some ops[m]:=gF t;rcases uW d E (L m _ oq oq E) with hA|⟨_,hA⟩
   ·have k:=I m oq oq hA;obtain⟨H,G,z,W,q1,q2,q3,q4⟩:=h.y9 m k;obtain⟨o1,_,_,_,_,T,_⟩:=q1;rw[T];refine⟨F.OB q2 (List.mem_append_right _ (List.mem_map.2 ⟨m,List.mem_filter.2 ⟨k,by simp;omega⟩,rfl⟩)) q3 q4 fun b n x c f=>?_,fun b n c=>?_⟩
    ·intro C;rcases i2 b n c with ⟨v,pV⟩|⟨j,U,a3,rfl⟩
     ·obtain⟨g,zz,ee,oo,V,y,_⟩:=h.uq.live b v pV;rw[V] at f;cases f;exact u g (List.mem_map.2 ⟨_,y,rfl⟩) (B m).1 (List.mem_append_left _ (List.mem_map.2 ⟨B m,List.mem_map.2 ⟨m,k,rfl⟩,rfl⟩)) C
     ·obtain⟨_,_,z',e2,_,y,_⟩:=h.y9 j U;rw[y] at f;cases f
      have:=ui r U k C;omega
    ·rw[AS.aG] at c;split at c
     ·next K=>exact .inr ⟨m,k,by omega,K⟩
     ·rcases i2 b n c with z1|⟨j,U,a3,e4⟩
      ·exact .inl z1
      ·exact .inr ⟨j,U,by omega,e4⟩
   ·rw[hA];refine⟨F,fun b n c=>?_⟩;rcases i2 b n c with z1|⟨j,U,a3,e4⟩
    ·exact .inl z1
    ·exact .inr ⟨j,U,by omega,e4⟩
end
section
variable {ι:Type}{P:Program}{KT:TypeId→Prop}{An:bJ}{N0:ι→Nat}{M:ι→World→Nat→Prop}{O:ι→Nat→Prop}{R:ι→Wq}{D:ι→World→World→Array Event→Prop}{X:ι→Gq}{Hd:ι→Hq→World→Prop}
variable {kt:TypeId→Bool}{call:FuncId→Aq→AS→Option (Value × AS)}{ops:Array Oper}{q:Nat}{aA jy:TL}{s s':AS}{sl:Nat→TL}{vl:Nq}{hp:Nat→AS}{J J':Nat→Bool}{S0 S S1:bJ}{a a1:Act}{fr l l1:Hq}{i i1:ι}{w w1:World}{p m:Nat}{B:Nat→Nat × Obj}{As:List Nat}{o:Oper}{fn:FuncId}{Q:dV ι}{rest:List Nat}
def Ec(h2:¬eI o.op=true)(a:¬∃t x,o.op=.load t x)(U:kindOf P o≠3):kindOf P o=0:=by
 unfold kindOf at U ⊢;rw[iw h2] at U ⊢;cases a0:o.op<;>simp only[a0] at U ⊢<;>first|rfl|(exact absurd rfl U)|skip
 case load t x=>exact absurd ⟨t,x,a0⟩ a
 case slice t x lo hi mx=>split at U<;>first|rfl|exact absurd rfl U
 case call c=>split at U<;>first|rfl|exact absurd rfl U
 case convert t u x=>split at U<;>first|rfl|exact absurd rfl U
abbrev fC(J:Nat→Bool)(m:Nat):Nat→Bool:=fun k=>if k=m then true else J k
def xp.PK(h:xp P KT An Hd kt ops q aA s sl vl hp S0 fr J i a w p S l B As)(d:J m=false)(U:∃c b,lK P kt ops sl vl hp m c b):p≤m:=by apply Classical.byContradiction;intro e;obtain⟨c,b,U⟩:=U;rw[h.low m c b oq U] at d;cases d
def xp.same(d:iA P kt call ops q aA s sl vl hp)(h:xp P KT An Hd kt ops q aA s sl vl hp S0 fr J i a w p S l B As)(v:m<q)(k:ops[m]?=some o)(t:J m=false)(u:kindOf P o≠3)(j:¬∃g f,lK P kt ops sl vl hp m g f)(U:S.le S1)(c:∀b,S1 b=S b)(x:VR S1 (vl m) v')(n:eK P KT An S1 (hp p) l1)(r:Hd i1 (l1++(As.map B++fr)) w1) :
  xp P KT An Hd kt ops q aA s sl vl hp S0 fr (fC J m) i1 (a.put o.dst v') w1 p S1 l1 B As where
 pq:=h.pq
 Fc m' o' h1 h2 h3:=by
  by_cases e:m'=m
  ·
   subst e;rw[k] at h2;cases h2;exact absurd h3 u
  ·
   simp only[fC,iw e];exact h.Fc m' o' h1 h2 h3
 Oh:=h.Oh
 low m' g f h1 h2:=by
  by_cases e:m'=m
  ·
   simp[fC,e]
  ·
   simp only[fC,iw e];exact h.low m' g f h1 h2
 nd:=h.nd
 mem m':=by
  rw[h.mem]
  by_cases e:m'=m
  ·
   subst e;exact⟨fun z=>absurd z.2.2.2 j,fun z=>absurd z.2.2.2 j⟩
  ·
   simp only[fC,iw e]
 uq:=n
 hd:=r
 y9 m' SU:=by
  obtain⟨g,f,z,e,q1,q2,q3,q4⟩:=h.y9 m' SU
  exact⟨g,f,z,e,q1,U _ _ q2,q3.mono U,q4⟩
 fresh b h1 h2 h3:=h.fresh b h1 h2 (by rw[← c];exact h3)
 le:=bJ.le_trans h.le U
 out b hb:=by rw[c];exact h.out b hb
 kv:=qG d h.kv U v k t x
def xp.new(F:∀f A s v s',call f A s=some (v,s')→s.nx≤s'.nx)(Y:Cy P KT N0 M O R D X Hd)(d:iA P kt call ops q aA s sl vl hp)(h:xp P KT An Hd kt ops q aA s sl vl hp S0 fr J i a w p S l B As)(hm:m<q)(ho:ops[m]?=some o)(L:J m=false)(j:lK P kt ops sl vl hp m ob mk)(ab:∀b,s.nx≤b→b<(hp ops.size).nx→S0 b=none)
 (hF:Hd i1 ((g,o')::(l++(As.map B++fr))) w1)(hr:∀H nm,S.le H→H nm=some (g,z,e)→OR H z ob o'∧VR H (mk nm) v')(ht:∀cs t fz,ob=.cells cs t fz→bQ P t=some e∧¬KT t) :
  S (hp m).nx=none∧xp P KT An Hd kt ops q aA s sl vl hp S0 fr (fC J m) i1 (a.put o.dst v') w1 p (S.put (hp m).nx (g,z,e)) l (fun k=>if k=m then (g,o') else B k) (m::As):=by
 have a5:=h.PK L ⟨ob,mk,j⟩;have Z0:m<ops.size:=by have:=d.le;omega
 have I:m∉As:=fun z=>by rw[((h.mem m).1 z).2.2.1] at L;cases L
 have aa:s.nx≤(hp m).nx:=by rw[← d.h0];exact dK F d (Nat.zero_le _) oq
 have a6:(hp m).nx<(hp ops.size).nx:=by have h1:=j.nx;have h2:=dK F d (m:=m+1) (m':=ops.size) oq lr;omega
 have a2:S (hp m).nx=none:=by
  apply Classical.byContradiction;intro hn;have⟨m',c,e'⟩:=h.fresh _ (dK F d a5 oq) a6 hn;have⟨q1,q2,q3,LG,mk',W⟩:=(h.mem m').1 c;have a4:m'≠m:=fun z=>I (z▸c);have n1:=j.nx;have n2:=W.nx;by_cases q8:m'<m
  ·have:=dK F d (m:=m'+1) (m':=m) oq oq;omega
  ·have:=dK F d (m:=m+1) (m':=m') oq (by have:=d.le;omega);omega
 have U:S.le (S.put (hp m).nx (g,z,e)):=bJ.jT a2;have C:As.map (fun k=>if k=m then (g,o') else B k)=As.map B:=by refine List.map_congr_left fun k hk=>?_;rw[iw (fun K=>I (by rw[← K];exact hk))]
 have⟨a7,a9⟩:=hr _ (hp m).nx U bJ.iG;have SP:kindOf P o=2:=by have⟨r,q1,q2,_⟩:=j;rw[ho] at q1;cases q1;exact q2
 have a8:vl m=mk (hp m).nx:=by have⟨_,_,_,_,_,_,q⟩:=j;exact q
 refine⟨a2,h.pq,fun m' r h1 h2 h3=>?_,h.Oh,fun m' u n h1 h2=>?_,List.nodup_cons.2 ⟨I,h.nd⟩,fun m'=>?_,⟨fun b r y=>?_,fun b b' r N x x' y E hx G he=>?_,h.uq.lt,bJ.le_trans h.uq.an U⟩,?_,fun m' c=>?_,fun b h1 h2 h3=>?_,bJ.le_trans h.le U,fun b y=>?_,qG d h.kv U hm ho L (by rw[a8];exact a9)⟩
 ·by_cases e1:m'=m
  ·subst e1;rw[ho] at h2;cases h2;omega
  ·simp only[fC,iw e1];exact h.Fc m' r h1 h2 h3
 ·by_cases e1:m'=m
  ·simp[fC,e1]
  ·simp only[fC,iw e1];exact h.low m' u n h1 h2
 ·by_cases e1:m'=m
  ·subst e1;exact⟨fun _=>⟨hm,a5,by simp[fC],ob,mk,j⟩,fun _=>List.mem_cons_self ..⟩
  ·simp only[fC,List.mem_cons,e1,false_or];exact h.mem m'
 ·have⟨g1,V,e1,N,Q,T,r3,r4⟩:=h.uq.live b r y;exact⟨g1,V,e1,N,U _ _ Q,T,r3.mono U,r4⟩
 ·have⟨g1,V,e1,o3,Q,_⟩:=h.uq.live b r y;have⟨g2,z2,K,o4,T,_⟩:=h.uq.live b' N E;rw[U _ _ Q] at hx;rw[U _ _ T] at G;cases hx;cases G;exact h.uq.inj b b' r N _ _ y E Q T he
 ·rw[List.map_cons,C];simp only[if_true];refine(Y.Z hF).perm hF ?_;exact List.perm_middle
 ·rcases List.mem_cons.1 c with rfl|c
  ·refine⟨ob,mk,z,e,j,?_,?_,ht⟩
   ·rw[ip rfl];exact bJ.iG
   ·rw[ip rfl];exact a7
  ·have a4:m'≠m:=fun z=>I (z▸c);have⟨u,n,V,e1,q1,q2,q3,q4⟩:=h.y9 m' c;rw[iw a4];exact⟨u,n,V,e1,q1,U _ _ q2,q3.mono U,q4⟩
 ·by_cases e1:b=(hp m).nx
  ·exact⟨m,List.mem_cons_self ..,e1⟩
  ·have:S b≠none:=by intro hn;apply h3;unfold bJ.put;rw[iw e1];exact hn
   have⟨m',c,K⟩:=h.fresh b h1 h2 this;exact⟨m',List.mem_cons_of_mem _ c,K⟩
 ·unfold bJ.put;rw[iw oq];exact h.out b y
def xp.Ml(Y:Cy P KT N0 M O R D X Hd)(d:iA P kt call ops q aA s sl vl hp)(h:xp P KT An Hd kt ops q aA s sl vl hp S0 fr J i a w p S l B As)(u:jD ops J)(r:m<q)(t:ops[m]?=some o)(j:J m=false)(n:kindOf P o=3)(x:kI ops J m) :
  p≤m∧eK P KT An S (hp m) (l++(As.filter (·<m)).map B)∧Hd i ((l++(As.filter (·<m)).map B)++((As.filter (fun k=>!decide (k<m))).map B++fr)) w:=by
 have v:m<ops.size:=by have:=d.le;omega
 have f:p≤m:=by apply Classical.byContradiction;intro C;rw[(h.Fc m o r t n).2 oq] at j;cases j
 have U:∀b c,b<m→ops[b]?=some c→2≤kindOf P c→J b=true:=fun b c h1 h2 h3=>eY d.back u v x (d.chain m b o c r t n h1 h2 h3);refine⟨f,(h.merge Y d (m0:=m) oq (fun b c h1 h2 h3 y=>?_) (fun b h1 h2 h3=>?_) m f lr).1,(Y.Z h.hd).perm h.hd ?_⟩
 ·have:=(h.Fc b c oq h3 y).1 (U b c h2 h3 oq);omega
 ·obtain⟨A,z,g⟩:=h3;have e:=g;obtain⟨c,q1,q2,_⟩:=e;exact(h.mem b).2 ⟨oq,h1,U b c h2 q1 oq,A,z,g⟩
 ·rw[List.append_assoc,← List.append_assoc ((As.filter (·<m)).map B)];refine List.Perm.append_left _ (List.Perm.append_right _ ?_);rw[← List.map_append];exact(List.filter_append_perm _ _).map B
def xp.OO(t:∀f c s v G,call f c s=some (v,G)→s.nx≤G.nx)(d:iA P kt call ops q aA s sl vl hp)(h:xp P KT An Hd kt ops q aA s sl vl hp S0 fr J i a w p S l B As)(D:jD ops J)(u:m<q)(x:ops[m]?=some o)(F:J m=false)(y:kindOf P o=3)(E:kI ops J m)(Q:p≤m)
 (n:S.le S1)(g:∀b,b<(hp m).nx∨(hp (m+1)).nx≤b→S1 b=S b)(N:VR S1 (vl m) v')(H:eK P KT An S1 (hp (m+1)) l1)(M:Hd i1 (l1++((As.filter (fun k=>!decide (k<m))).map B++fr)) w1) :
  xp P KT An Hd kt ops q aA s sl vl hp S0 fr (fC J m) i1 (a.put o.dst v') w1 (m+1) S1 l1 B (As.filter (fun k=>!decide (k<m))) where
 pq:=oq
 Fc m' j h1 h2 h3:=by
  have U:m<ops.size:=by have:=d.le;omega
  by_cases e:m'=m
  ·
   subst e;simp[fC]
  ·
   simp only[fC,iw e]
   rw[h.Fc m' j h1 h2 h3]
   constructor
   ·
    intro;omega
   ·
    intro K
    exact(h.Fc m' j h1 h2 h3).1 (eY d.back D U E (d.chain m m' o j u x y oq h2 oq))
 Oh:=.inr ⟨m,o,rfl,u,x,y⟩
 low m' C A h1 h2:=by
  have U:m<ops.size:=by have:=d.le;omega
  by_cases e:m'=m
  ·
   simp[fC,e]
  ·
   simp only[fC,iw e]
   obtain⟨j,q1,q2,_⟩:=h2
   exact eY d.back D U E (d.chain m m' o j u x y oq q1 oq)
 nd:=h.nd.filter _
 mem m':=by
  rw[List.mem_filter,h.mem]
  by_cases e:m'=m
  ·
   subst e
   refine⟨fun z=>?_,fun z=>by omega⟩
   obtain⟨⟨_,_,z,_⟩,_⟩:=z
   rw[F] at z
   cases z
  ·
   simp only[fC,iw e,Bool.not_eq_true',decide_eq_false_iff_not]
   constructor
   ·
    rintro⟨⟨z1,z2,z3,z4⟩,z5⟩;exact⟨z1,by omega,z3,z4⟩
   ·
    rintro⟨z1,z2,z3,z4⟩;exact⟨⟨z1,by omega,z3,z4⟩,by omega⟩
 uq:=H
 hd:=M
 y9 m' r:=by
  obtain⟨C,A,z,e,q1,q2,q3,q4⟩:=h.y9 m' (List.mem_filter.1 r).1
  exact⟨C,A,z,e,q1,n _ _ q2,q3.mono n,q4⟩
 fresh b h1 h2 h3:=by
  have U:m<ops.size:=by have:=d.le;omega
  have I:S b≠none:=by rw[← g b (.inr h1)];exact h3
  have O:=dK t d (m:=p) (m':=m+1) oq oq
  obtain⟨m',r,e⟩:=h.fresh b oq h2 I
  refine⟨m',List.mem_filter.2 ⟨r,?_⟩,e⟩
  simp only[Bool.not_eq_true',decide_eq_false_iff_not]
  intro K
  obtain⟨_,_,_,C,A,L⟩:=(h.mem m').1 r
  have R:=L.nx
  have:=dK t d (m:=m'+1) (m':=m+1) oq oq
  omega
 le:=bJ.le_trans h.le n
 out b hb:=by
  have U:m<ops.size:=by have:=d.le;omega
  rw[g b,h.out b hb]
  rcases hb with hb|hb
  ·
   left
   have:=dK t d (m:=0) (m':=m) (Nat.zero_le _) oq
   rw[d.h0] at this
   omega
  ·
   right
   have:=dK t d (m:=m+1) (m':=ops.size) oq lr
   omega
 kv:=qG d h.kv n u x F N
def DR(U:∀f args s v s',call f args s=some (v,s')→s.nx≤s'.nx)(h:jQ P kt call ops aA s=some (jy,s')):s.nx≤s'.nx:=by
 obtain⟨q,sl,vl,hp,d,_,rfl⟩:=yh h
 have:=dK U d (m:=0) (m':=ops.size) (Nat.zero_le _) lr;rw[d.h0] at this;exact this
def Can (P:Program)(KT:TypeId→Prop)(An:bJ)(Hd:ι→Hq→World→Prop)(s:AS)(sl:Nat→TL)(hp:Nat→AS)(S0:bJ)(fr:Hq)(m:Nat)(i:ι)(a:Act)(w:World):Prop :=
 ∃S l,S0.le S∧(∀b,b<s.nx∨(hp m).nx≤b→S b=S0 b)∧eK P KT An S (hp m) l∧Hd i (l++fr) w∧AR (VR S) (sl m).toArray a.tmps∧a.defers=[]
def xp.all(r:∀f c s v A,call f c s=some (v,A)→s.nx≤A.nx)(Y:Cy P KT N0 M O R D X Hd)(d:iA P kt call ops q aA s sl vl hp)(h:xp P KT An Hd kt ops q aA s sl vl hp S0 fr J i a w p S l B As)(n:∀m,m<q→J m=true)(C:∀b,s.nx≤b→b<(hp ops.size).nx→S0 b=none):Can P KT An Hd s sl hp S0 fr q i a w:=by
 have E:∀m∈As,m<q:=fun m U=>((h.mem m).1 U).1;have g:As.filter (·<q)=As:=List.filter_eq_self.2 fun m U=>by simp[E m U]
 have U:=(h.merge Y d (m0:=q) lr (fun m o h1 h2 h3 I=>?_) (fun m h1 h2 h3=>(h.mem m).2 ⟨h2,h1,n m h2,h3⟩) q h.pq lr).1
 ·rw[g] at U;refine⟨S,l++As.map B,h.le,fun b k=>?_,U,by rw[List.append_assoc];exact h.hd,⟨?_,fun t x y Q T=>?_⟩,h.kv.2.1⟩
  ·rcases k with k|k
   ·exact h.out b (.inl k)
   ·by_cases N:(hp ops.size).nx≤b
    ·exact h.out b (.inr N)
    ·have G:S0 b=none:=by
      refine C b ?_ oq
      have:=dK r d (m:=0) (m':=q) (Nat.zero_le _) d.le;rw[d.h0] at this;omega
     rw[G];apply Classical.byContradiction;intro F;have L:=dK r d (m:=p) (m':=q) h.pq d.le;obtain⟨m',u,e⟩:=h.fresh b oq oq F;obtain⟨q1,_,_,Z,V,K⟩:=(h.mem m').1 u;have W:=K.nx
     have:=dK r d (m:=m'+1) (m':=q) oq d.le;omega
  ·rw[List.size_toArray,tz d q d.le,h.kv.1]
  ·have H:(sl q)[t]?=some x:=by simpa using Q
   have:=tB d h.kv (m:=q) (t:=t) lr fun j o z _ _=>⟨fun _=>z,fun _=>n j z⟩;rw[List.getD_eq_getElem?_getD,H,Array.getD_eq_getD_getElem?,T] at this;exact this
 ·have:=(h.Fc m o oq h3 I).1 (n m oq);omega
def xZ(d:iA P kt call ops q aA s sl vl hp)(a:jD ops J)(g:m<ops.size)(f:kI ops J m):jD ops (fC J m):=by
 intro x y h U e;by_cases c:y=m
 ·simp[fC,c]
 ·simp only[fC,iw c];by_cases b:x=m
  ·subst b;exact eY d.back a g f e
  ·simp only[fC,iw b] at U;exact a x y h U e
def Ap(Y:Cy P KT N0 M O R D X Hd)(b3:P.follows .mixedOrders=true)(af:∀t,kt t=false→¬KT t)(a6:∀f H s v s',call f H s=some (v,s')→Sound P KT An R D X Hd f H s v s')(L:∀f H s v s',call f H s=some (v,s')→s.nx≤s'.nx)(ag:kn ops=true)
 (h:jQ P kt call ops aA s=some (jy,s'))(hS:eK P KT An S0 s l)(hF:Hd i (l++fr) w)(hA:AR (VR S0) aA.toArray a.tmps)(hd:a.defers=[])(ab:∀b,s.nx≤b→b<s'.nx→S0 b=none)
 (K:L8 P KT An Hd S0 s s' fr jy (fun I G N=>Q I .normal G N)):lm X fn (.region id ops true) i Q a w:=by
 obtain⟨q,sl,vl,W,d,rfl,rfl⟩:=yh h;refine lB Y.C (Y.Z hF).env.BS b3 rfl d.back (fun J I G N=>jD ops J∧((∃m,q≤m∧m≤ops.size∧(∀k,k<ops.size→(J k=true↔k<m))∧Can P KT An Hd s sl W S0 fr m I G N)∨((∀k,q≤k→k<ops.size→J k=false)∧∃p S l B As,xp P KT An Hd kt ops q aA s sl vl W S0 fr J I G N p S l B As))) (fun aE hR=>?_) ?_ ?_ ?_
 ·refine⟨fun x y _ hx=>(by cases hx),.inr ⟨fun k _ _=>rfl,0,S0,l,fun _=>(0,.pending #[] 0),[],Nat.zero_le _,fun m o _ _ _=>by simp,.inl rfl,fun m ob mk r=>by omega,iq,fun m=>by simp,by rw[d.h0];exact hS,?_,fun m r=>by simp at r,fun b h1 h2 h3=>?_,bJ.le_refl S0,fun b hb=>rfl,by rw[← hA.1];simp,hd,fun t x ht hx=>?_⟩⟩
  ·have ai:=(Y.Z hF).rely hF hR;exact(Y.Z hF).rely ai ((Y.Z hF).env.uK _)
  ·rw[d.h0] at h1;exact absurd (ab b h1 h2) h3
  ·rcases hx with ⟨m,o,_,_,_,j,_⟩|⟨_,rfl⟩
   ·cases j
   ·exact l6 hA t
 ·rintro J J' I G N j ⟨U,hI⟩;refine⟨fun x y hx W9 hh=>?_,?_⟩
  ·have b5:=oQ d.back x hx hh;rw[← j y oq];exact U x y hx (by rw[j x hx];exact W9) hh
  ·rcases hI with ⟨m,h1,h2,h3,h4⟩|⟨h1,p,S,l,B,As,h2⟩
   ·exact .inl ⟨m,h1,h2,fun k A=>by rw[← j k A];exact h3 k A,h4⟩
   ·have hq:∀k,k<q→J k=J' k:=fun k A=>j k (by have:=d.le;omega);refine .inr ⟨fun k A n=>by rw[← j k n];exact h1 k A n,p,S,l,B,As,h2.pq,fun m o r c A=>by rw[← hq m r];exact h2.Fc m o r c A,h2.Oh,fun m ob mk r hA=>?_,h2.nd,fun m=>?_,h2.uq,h2.hd,h2.y9,h2.fresh,h2.le,h2.out,h2.kv.1,h2.kv.2.1,fun t x ht hx=>h2.kv.2.2 t x ht (oI hx fun m o r _ _=>(hq m r).symm)⟩
    ·rw[← hq m (by have:=h2.pq;omega)];exact h2.low m ob mk r hA
    ·rw[h2.mem];constructor
     ·rintro⟨z1,z2⟩;exact⟨z1,by rw[← hq m z1];exact z2⟩
     ·rintro⟨z1,z2⟩;exact⟨z1,by rw[hq m z1];exact z2⟩
 ·rintro J m I G N ⟨U,hI⟩ r j a4 rest hK;have c:ops[m]?=some ops[m]:=gF r;have u:=xZ d U r a4;by_cases E:m<q
  ·
   rcases hI with ⟨m',h1,h2,h3,h4⟩|⟨h1,p,S,l,B,As,h2⟩
   ·rw[(h3 m r).2 oq] at j;cases j
   have a0:∀k,q≤k→k<ops.size→fC J m k=false:=fun k A n=>by simp only[fC,iw (show k≠m by omega)];exact h1 k A n
   have a3:=Gn d ag h2.kv U E c a4;have a5:=yg d h2.kv U E c a4;have Vg:p≤ops.size:=by have:=d.le;have:=h2.pq;omega
   by_cases a9:kindOf P ops[m]=3
   ·have⟨al,ah,ao⟩:=h2.Ml Y d U E c j a9 a4;rcases d.step m _ c with ⟨hw,Fh⟩|⟨hw,hv,hh⟩
    ·refine mm Y af a6 c (by rw[a5];exact hw) a3 ah ao Fh (fun b b1 b2=>?_) ?_
     ·apply Classical.byContradiction;intro hn;have m1:=dK L d (m:=p) (m':=m) al oq;have m2:=dK L d (m:=m+1) (m':=ops.size) oq lr;have⟨m',SU,e⟩:=h2.fresh b oq oq hn;have⟨q1,q2,q3,ob,mk,ae⟩:=(h2.mem m').1 SU;have n1:=ae.nx;by_cases q8:m'<m
      ·have:=dK L d (m:=m'+1) (m':=m) oq oq;omega
      ·have au:m'≠m:=fun z=>by rw[z] at q3;rw[j] at q3;cases q3
       have:=dK L d (m:=m+1) (m':=m') oq (by have:=d.le;omega);omega
     ·intro i1 F l1 V v1 r1 r2 r3 r4 r5;exact hK i1 _ V ⟨u,.inr ⟨a0,m+1,F,l1,B,_,h2.OO L d U E c j a9 a4 al r1 r2 r5 r3 r4⟩⟩
    ·refine gm Y.C Y.T c (by rw[a5];exact hw) ?_;refine hK I _ N ⟨u,.inr ⟨a0,m+1,S,_,B,_,h2.OO L d U E c j a9 a4 al (bJ.le_refl S) (fun _ _=>rfl) (by rw[hv];exact VR.undef) (by rw[hh];exact ah) ao⟩⟩
   ·rcases uW d c a9 with ⟨ob,mk,ae⟩|⟨ar,hh⟩
    ·have ay:=ae;have⟨o1,q1,q2,q3,q4,q5,q6⟩:=ay;rw[c] at q1;cases q1;refine Hg Y af c (by rw[a5];exact q3) a3 h2.hd q4 fun g z e o' V v1 ai hr ht=>?_;exact hK I _ V ⟨u,.inr ⟨a0,p,_,l,_,_,(h2.new L Y d E c j ae ab ai hr ht).2⟩⟩
    ·have a7:∀i1 F l1 V v1,S.le F→(∀b,b<(W p).nx∨(W p).nx≤b→F b=S b)→eK P KT An F (W p) l1→Hd i1 (l1++(As.map B++fr)) V→VR F (vl m) v1→ck X fn ops rest i1 Q (G.put (ops[m]).dst v1) V:=fun i1 F l1 V v1 r1 r2 r3 r4 r5 =>hK i1 _ V ⟨u,.inr ⟨a0,p,F,l1,B,As,h2.same d E c j a9 ar r1 (fun b=>r2 b oq) r5 r3 r4⟩⟩;rcases d.step m _ c with ⟨hw,Fh⟩|⟨hw,hv,_⟩
     ·have ax:Region.wanted ops[m] (yielded ops G.tmps)=true:=by rw[a5];exact hw
      by_cases hl:∃t x,(ops[m]).op=.load t x
      ·have⟨t,x,aw⟩:=hl;have Pm:=d.PH m _ t x E c aw hw p h2.Oh fun e o' he LB n=>⟨fun q8 SK=>?_,fun Vb SK=>?_⟩
       ·exact CC Y c ax aw a3 h2.uq h2.hd Pm a7
       ·
        have aj:=(h2.Fc e o' he LB n).2 q8
        have:=U e m (by have:=d.le;omega) aj SK;rw[j] at this;cases this
       ·have aj:=eY d.back U r a4 SK
        have:=(h2.Fc e o' he LB n).1 aj;omega
      ·have az:kindOf P ops[m]=0:=by
        have hn:¬eI (ops[m]).op=true:=by
         intro hn;apply ar;have a2:=Fh;unfold bM at a2;rw[ip hn] at a2;split at a2
         ·next ob mk hq =>simp only[Option.some.injEq,Prod.mk.injEq] at a2;exact⟨ob,mk,_,c,by unfold kindOf;rw[ip hn],hw,hq,a2.2.symm,a2.1.symm⟩
         ·cases a2
        exact Ec hn hl a9
       have aq:=(qT az Fh).2 (W p);exact mm Y af a6 c ax a3 h2.uq h2.hd aq (fun b b1 b2=>by omega) a7
     ·refine gm Y.C Y.T c (by rw[a5];exact hw) ?_;exact a7 I S l N undef (bJ.le_refl S) (fun _ _=>rfl) h2.uq h2.hd (by rw[hv];exact VR.undef)
  ·
   have a8:∀k,k<m→J k=true:=fun k A=>eY d.back U r a4 (d.last m k oq r A);have MJ:∀k,m<k→k<ops.size→J k=false:=fun k A n=>by
    cases hb:J k with
    | false=>rfl
    | true =>have:=U k m n hb (d.last k m oq n A);rw[j] at this;cases this
   have aa:Can P KT An Hd s sl W S0 fr m I G N:=by
    rcases hI with ⟨m',h1,h2,h3,h4⟩|⟨h1,p,S,l,B,As,h2⟩
    ·have:m'=m:=by
      have h5:¬m<m':=fun z=>by rw[(h3 m r).2 z] at j;cases j
      have h6:¬m'<m:=fun z=>by have:=(h3 m' oq).1 (a8 m' z);omega
      omega
     rw[← this];exact h4
    ·have:m=q:=by
      have h5:¬q<m:=fun z=>by have:=h1 q lr oq;rw[a8 q z] at this;cases this
      omega
     rw[this];exact h2.all L Y d (fun k A=>a8 k oq) ab
   have⟨S,l,c1,c2,c3,c4,c5,c6⟩:=aa;have a3:eB S (sl m) G ops[m]:=fun x hx=>Ae c5 (by
    unfold kn at ag;rw[aT] at ag
    have:=ag ops[m] (by have:=Array.mem_of_getElem? c;simpa using this);rw[aT] at this;exact this x (by simpa using hx));have D3:∀i1 F l1 V v1,S.le F→(∀b,b<(W m).nx∨(W (m+1)).nx≤b→F b=S b)→eK P KT An F (W (m+1)) l1→Hd i1 (l1++fr) V→VR F (vl m) v1→ck X fn ops rest i1 Q (G.put (ops[m]).dst v1) V:=by
    intro i1 F l1 V v1 r1 r2 r3 r4 r5;refine hK i1 _ V ⟨u,.inl ⟨m+1,oq,oq,fun k A=>?_,F,l1,bJ.le_trans c1 r1,fun b hb=>?_,r3,r4,?_,?_⟩⟩
    ·by_cases e:k=m
     ·simp[e]
     ·simp only[iw e];constructor
      ·intro ak;apply Classical.byContradiction;intro hn;rw[MJ k oq A] at ak;cases ak
      ·intro ak;exact a8 k oq
    ·have b4:=Ca L d r;have SV:=dK L d (m:=0) (m':=m) (Nat.zero_le _) oq;rw[d.h0] at SV;rw[r2 b oq,c2 b oq]
    ·rw[d.UH m _ c];exact rR (c5.mono r1) r5 _
    ·cases (ops[m]).dst<;>exact c6
   have a5:=ll c5 ops ops[m];rcases d.step m _ c with ⟨hw,Fh⟩|⟨hw,hv,hh⟩
   ·refine mm Y af a6 c (by rw[a5];exact hw) a3 c3 c4 Fh (fun b b1 b2=>?_) D3;rw[c2 b (.inr b1)];have SV:=dK L d (m:=0) (m':=m) (Nat.zero_le _) oq;have ZZ:=dK L d (m:=m+1) (m':=ops.size) oq lr;rw[d.h0] at SV;exact ab b oq oq
   ·refine gm Y.C Y.T c (by rw[a5];exact hw) ?_;exact D3 I S l N undef (bJ.le_refl S) (fun _ _=>rfl) (by rw[hh];exact c3) c4 (by rw[hv];exact VR.undef)
 ·rintro J I G N j ⟨U,hI⟩;have aa:Can P KT An Hd s sl W S0 fr ops.size I G N:=by
   rcases hI with ⟨m',h1,h2,h3,h4⟩|⟨h1,p,S,l,B,As,h2⟩
   ·have:m'=ops.size:=by
     apply Classical.byContradiction;intro au
     have:=(h3 m' oq).1 (j m' oq);omega
    rw[← this];exact h4
   ·have:q=ops.size:=by
     apply Classical.byContradiction;intro au
     have:=d.le
     have:=h1 q lr oq;rw[j q oq] at this;cases this
    have hh:=h2.all L Y d (fun k A=>j k oq) ab;rw[this] at hh;exact hh
  have⟨S,l,c1,c2,c3,c4,c5,c6⟩:=aa;exact bq Y.C Y.T (K I S l N G c1 c2 c3 c4 c5 c6)
end
end
end Go.Proofs.YtgcaionclkbehaaGreatDoor
