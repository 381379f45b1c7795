import Derived.Test.YtgcaionclkbehaaGreatDoorDone2
import Derived.Lib.BufferWrite
set_option linter.all false
namespace Go.Proofs.YtgcaionclkbehaaGreatDoor
section
open Go.Conc Go.RowKit Go.Lib
def evS {α : Type} (P : Program) : Sem α → Option α
 | .pure a => some a
 | .program k => evS P (k P)
 | _ => none
def lset {α : Type} (d : α) : Nat → List α → α → List α
 | 0,l,x => x :: l.tail
 | n + 1,l,x => l.headD d :: lset d n l.tail x
structure AS where
 hp : List (List (Option Obj))
 nx : Nat
def AS.get (s : AS) (b : Nat) : Option Obj := (s.hp.getD (b / 16) []).getD (b % 16) none
def AS.set (s : AS) (b : Nat) (o : Option Obj) : AS := ⟨lset [] (b / 16) s.hp (lset none (b % 16) (s.hp.getD (b / 16) []) o),s.nx⟩
def AS.add (s : AS) (o : Obj) : AS := ⟨(s.set s.nx (some o)).hp,s.nx + 1⟩
def isSc : Value → Bool
 | .bool _ | .int _ _ | .string _ | .pointer none | .slice none _ _ | .nilFunc | .nilIface => true
 | _ => false
def aptr (b off : Nat) : Value := .pointer (some ⟨b,off,none⟩)
def rowT (P : Program) (t : TypeId) : Bool := match P.underlying t with
 | some d => d.isRow
 | none => false
def sizeT (P : Program) (t : TypeId) : Option Nat := (P.info? t).map (·.size)
def zeroT (P : Program) (t : TypeId) : Bool := match P.info? t with
 | some i => match i.zero with
  | some z => z.cells.toList.all isSc
  | none => false
 | none => false
def val? : Option Go.Next → Option Value
 | some (.value v) => some v
 | _ => none
def zc8 (P : Program) (t : TypeId) (x : Value) (s : AS) : Option Value := match x with
 | .pointer (some ⟨b,off,none⟩) => match s.get b with
  | some (.cells cs _ _) => match P.underlying t with
   | some d => if d.isRow then match sizeT P t with
     | some n => if off + n ≤ cs.size then some (.agg (cs.toList.drop off |>.take n).toArray) else none
     | none => none
    else cs[off]?
   | none => none
  | _ => none
 | _ => none
def evStore (P : Program) (t : TypeId) (x y : Value) (s : AS) : Option AS := match x with
 | .pointer (some ⟨b,off,none⟩) => match s.get b with
  | some (.cells cs ty fz) =>
   if sizeT P t = some y.cells.size ∧ off + y.cells.size ≤ cs.size ∧ y.cells.toList.all Value.oneCell' = true then some (s.set b (some (.cells (putAt cs off y.cells.toList) ty fz))) else none
  | _ => none
 | _ => none
def zj5 (s : AS) (sz : Nat) (ad : Option Addr) (n : Nat) : Option (List Value) := match ad with
 | none => if n = 0 then some [] else none
 | some ⟨b,off,_⟩ => match s.get b with
  | some (.cells cs _ _) => if off + n * sz ≤ cs.size then some (cs.toList.drop off |>.take (n * sz)) else none
  | _ => none
def zd4 (P : Program) (e : TypeId) (x : Value) (news : List Value) (m : Nat) (s : AS) : Option (Value × AS) := match x with
 | .slice none 0 0 => if m = 0 then some (x,s) else some (.slice (some ⟨s.nx,0,none⟩) m m,s.add (.cells news.toArray e (1,1)))
 | .slice (some ⟨b,0,none⟩) n _ => if m = 0 then some (x,s) else match s.get b,sizeT P e with
  | some (.cells cs t _),some sz =>
   if t = e ∧ n * sz ≤ cs.size ∧ n + m ≤ 1000000000 then some (.slice (some ⟨s.nx,0,none⟩) (n + m) (n + m),(s.set b none).add (.cells (cs.toList.take (n * sz) ++ news).toArray e (1,1))) else none
  | _,_ => none
 | .slice (some ⟨_,_,some _⟩) 0 0 => if m = 0 then none else some (.slice (some ⟨s.nx,0,none⟩) m m,s.add (.cells news.toArray e (1,1)))
 | _ => none
def lenL {α : Type} : List α → Nat → Nat
 | [],n => n
 | _ :: l,n => lenL l (n + 1)
def beqL : List UInt8 → List UInt8 → Bool
 | [], [] => true
 | x :: l,y :: m => if x.toNat.beq y.toNat then beqL l m else false
 | _,_ => false
def wrapF (k : IntKind) (r : Int) : Int := match k with
 | .i64 | .i32 => if -2000000000 ≤ r ∧ r ≤ 2000000000 then r else k.wrap r
 | _ => k.wrap r
abbrev TL := List Value
def TL.at : TL → Operand → Value
 | l, .tmp t => l.getD t undef
 | _, .const v => v
 | _, .global g => .pointer (some ⟨g,0,none⟩)
 | _, .func f => .func (.func f) #[] #[]
def lput : List Value → Nat → Value → List Value
 | [],_,_ => []
 | _ :: l,0,v => v :: l
 | x :: l,n + 1,v => x :: lput l n v
def TL.put (a : TL) (d : Option Tmp) (v : Value) : TL := match d with
 | some t => lput a t v
 | none => a
def zc7 (ops : Array Oper) (a : TL) (j : Nat) : Option Bool := match ops.toList[j]? with
 | some o => match o.dst with
  | some d => match a[d]? with
   | some (.bool b) => some b
   | _ => none
  | none => none
 | none => none
def okOpd : Operand → Bool
 | .tmp _ | .func _ => true
 | .const v => isSc v
 | .global _ => false
def okOps (ops : Array Oper) : Bool := ops.toList.all fun o => o.op.operands.toList.all okOpd
def evBytes (l : List Value) : Option (List UInt8) := match l with
 | [] => some []
 | .int .u8 x :: r => if 0 ≤ x ∧ x < 256 then match evBytes r with
   | some bs => some (x.toNat.toUInt8 :: bs)
   | none => none
  else none
 | _ => none
def rowsApart : Value → Option Addr → Bool
 | .slice (some ⟨b,_,none⟩) _ _,some ⟨b',_,_⟩ => !b.beq b'
 | _,_ => true
def plainRow : Value → Bool
 | .slice (some ⟨_,_,some _⟩) _ _ => false
 | _ => true
def zj4 (P : Program) (kt : TypeId → Bool) (b : Builtin) (args : List Value) (ts : List TypeId) (s : AS) : Option (Value × AS) := match b,args,ts with
 | .append, [x, .slice y m _], [t,t'] => if t = t' then match P.underlying t with
   | some (.slice e) => match (P.info? e).map (fun i => (i.zero,i.size,i.bytes)) with
    | some (some z,sz,bytes) => match zj5 s sz y m with
     | some news => if z.cells.size = sz ∧ 0 < sz ∧ bytes ≤ 1000 ∧ m ≤ 1000000000 ∧ kt e = false ∧ rowsApart x y = true ∧ news.all Value.oneCell' = true then zd4 P e x news m s else none
     | none => none
    | _ => none
   | _ => none
  else none
 | .append, [x, .string str], [t,t'] => match P.underlying t,P.underlying t' with
  | some (.slice e),some .string => match (P.info? e).map (fun i => (i.zero,i.size,i.bytes)) with
   | some (some (Value.int IntKind.u8 0),1,1) => if str.size ≤ 1000000000 ∧ kt e = false ∧ plainRow x = true then zd4 P e x (strCells str) str.size s else none
   | _ => none
  | _,_ => none
 | .copy, [.slice (some ⟨b,off,none⟩) n _, .string str], [t,_] => match P.underlying t,s.get b with
  | some (.slice e),some (.cells cs bt fz) => if sizeT P e = some 1 ∧ str.size = n ∧ off + n ≤ cs.size then some (goInt (lenL str.data.toList 0),s.set b (some (.cells (putAt cs off (strCells str)) bt fz))) else none
  | _,_ => none
 | .unsafeString, [.pointer (some ⟨b,0,none⟩), .int .i64 n], [pt,_] => match P.underlying pt,s.get b with
  | some (.pointer e),some (.cells cs t _) => if P.cellsOf e = 1 ∧ t = e ∧ 0 < n ∧ n ≤ 1000000000 ∧ n.toNat ≤ cs.size then match evBytes (cs.toList.take n.toNat) with
    | some bs => some (.string ⟨bs.toArray⟩,s.set b none)
    | none => none
   else none
  | _,_ => none
 | _,_,_ => none
def evBin (op : BinOp) (x y : Value) : Option Value := match x,y with
 | .int k a, .int k' b => if k = k' then match op with
   | .add => some (.int k (wrapF k (a + b)))
   | .sub => some (.int k (wrapF k (a - b)))
   | .eql => some (.bool (a == b))
   | .neq => some (.bool (a != b))
   | .lss => some (.bool (decide (a < b)))
   | .leq => some (.bool (decide (a ≤ b)))
   | .gtr => some (.bool (decide (a > b)))
   | .geq => some (.bool (decide (a ≥ b)))
   | _ => none
  else none
 | .string a, .string b => match op with
  | .eql => some (.bool (beqL a.data.toList b.data.toList))
  | .neq => some (.bool (!beqL a.data.toList b.data.toList))
  | .add => if lenL a.data.toList 0 + lenL b.data.toList 0 ≤ 1000000000 then some (.string ⟨(a.data.toList ++ b.data.toList).toArray⟩) else none
  | _ => none
 | _,_ => none
def evBinP (P : Program) (op : BinOp) (t : TypeId) (x y : Value) : Option Value := match x,y,P.underlying t with
 | .pointer (some p), .pointer (some q),some (.pointer e) => match sizeT P e with
  | some (_ + 1) => if p.block = q.block then match op with
    | .eql => some (.bool (p == q))
    | .neq => some (.bool (!(p == q)))
    | _ => none
   else none
  | _ => none
 | .pointer (some _), .pointer none,some (.pointer _) | .pointer none, .pointer (some _),some (.pointer _) | .slice (some _) _ _, .slice none _ _,some (.slice _) | .slice none _ _, .slice (some _) _ _,some (.slice _)
 | .func _ _ _, .nilFunc,some (.func _ _ _) | .nilFunc, .func _ _ _,some (.func _ _ _) | .map (some (_ + 1)), .int .i64 0,_ => match op with
  | .eql => some (.bool false)
  | .neq => some (.bool true)
  | _ => none
 | _,_,_ => none
def evSc (P : Program) (a : TL) (o : Oper) : Option Value :=
 if o.op.operands.toList.all fun x => isSc (a.at x) then match val? (evS P (execOp a.at o)) with
  | some v => if isSc v then some v else none
  | none => none
 else none
def zd5 (n c : Nat) (lo hi : Option Value) : Option (Nat × Nat) := match hi with
 | none => match lo with
  | none => some (0,n)
  | some (.int _ i) => if 0 ≤ i ∧ i ≤ n then some (i.toNat,n) else none
  | _ => none
 | some (.int _ k) => if 0 ≤ k ∧ k ≤ c then match lo with
   | none => some (0,k.toNat)
   | some (.int _ i) => if 0 ≤ i ∧ i ≤ k then some (i.toNat,k.toNat) else none
   | _ => none
  else none
 | _ => none
def evSlice (P : Program) (t : TypeId) (x : Value) (lo hi mx : Option Value) (s : AS) : Option Value := match P.underlying t,x,mx with
 | some (.slice e), .slice (some ⟨b,off,none⟩) n c,none => match sizeT P e,s.get b with
  | some sz,some (.cells _ bt _) => if bt = e then match zd5 n c lo hi with
    | some (l,h) => if l < c then some (.slice (some ⟨b,off + l * sz,none⟩) (h - l) (c - l)) else if l = h then some (.slice (some ⟨b,off,some 0⟩) 0 1) else none
    | none => none
   else none
  | _,_ => none
 | some (.slice e), .slice (some ⟨b,off,none⟩) _ _,some (.int _ 0) => match sizeT P e,lo,hi with
  | some _,none,some (.int _ 0) => some (.slice (some ⟨b,off,some 0⟩) 0 0)
  | _,_,_ => none
 | some .string, .string str,none => match zd5 (lenL str.data.toList 0) (lenL str.data.toList 0) lo hi with
  | some (l,h) => some (.string ⟨((str.data.toList.take h).drop l).toArray⟩)
  | none => none
 | some (.slice e), .slice none 0 0,none => match sizeT P e,zd5 0 0 lo hi with
  | some _,some _ => some (.slice none 0 0)
  | _,_ => none
 | _,_,_ => none
def ze4 (P : Program) (a : TL) (o : Oper) : Option Value := match o.op with
 | .move x | .assign x => some (a.at x)
 | .pick c x y => match a.at c with
  | .bool b => some (if b then a.at x else a.at y)
  | _ => none
 | .build t parts => if zeroT P t = false then none else match P.built t (parts.map fun (i,x) => (i,a.at x)).toList with
  | some c => some (.agg c)
  | none => none
 | .nilCheck x => match a.at x with
  | .pointer (some p) => some (.pointer (some p))
  | .func (.func f) x y => some (.func (.func f) x y)
  | _ => none
 | .makeFunc (.func f) first cap => some (.func (.func f) (first.map a.at) (cap.map a.at))
 | .extract t ix => match a.at t with
  | .tuple vs => vs[ix]?
  | _ => none
 | .fieldAddr t x f => match P.underlying t,a.at x with
  | some (.struct fields), .pointer (some ⟨b,off,none⟩) => match fields[f]? with
   | some g => match sizeT P g.type with
    | some (_ + 1) => some (aptr b (off + g.offset))
    | _ => none
   | none => none
  | _,_ => none
 | .indexAddr t x ix => match P.underlying t,a.at x,a.at ix with
  | some (.slice e), .slice (some ⟨b,off,_⟩) n _, .int _ i => match sizeT P e with
   | some sz => if 0 ≤ i ∧ i < n then some (aptr b (off + i.toNat * sz)) else none
   | none => none
  | some (.array n e), .pointer (some ⟨b,off,none⟩), .int _ i => match sizeT P e with
   | some sz => if 0 ≤ i ∧ i < n then some (aptr b (off + i.toNat * sz)) else none
   | none => none
  | _,_,_ => none
 | .binOp op t x y _ => match evBin op (a.at x) (a.at y) with
  | some v => some v
  | none => match evBinP P op t (a.at x) (a.at y) with
   | some v => some v
   | none => evSc P a o
 | .convert t u x => match P.underlying t,P.underlying u,a.at x with
  | some _,some (.int k), .int _ n => some (.int k (wrapF k n))
  | _,_,_ => evSc P a o
 | .index t x i => match P.underlying t,a.at x,a.at i with
  | some .string, .string str, .int _ n => if 0 ≤ n then match str.data.toList[n.toNat]? with
    | some b => some (.int .u8 b.toNat)
    | none => none
   else none
  | _,_,_ => evSc P a o
 | .call c => match c.callee,c.args.toList,c.argTypes.toList with
  | .builtin .len, [x], [t] => match a.at x,P.underlying t with
   | .slice _ n _,some (.slice _) => some (goInt n)
   | .string str,some .string => some (goInt (lenL str.data.toList 0))
   | _,_ => none
  | .builtin .unsafeSliceData, [x],_ => match a.at x with
   | .slice (some ⟨b,off,none⟩) _ (_ + 1) => some (.pointer (some ⟨b,off,none⟩))
   | _ => evSc P a o
  | .builtin .cap, [x], [t] => match a.at x,P.underlying t with
   | .slice (some ⟨_,_,none⟩) _ c,some (.slice _) => some (.map (some c))
   | _,_ => evSc P a o
  | .builtin .min,_,_ | .builtin .max,_,_ | .builtin .unsafeString,_,_ => evSc P a o
  | _,_,_ => none
 | .unOp _ _ _ => evSc P a o
 | _ => none
def noEsc (P : Program) : Operand → Bool
 | .func g => match P.funcs[g]? with
  | some fn => fn.body.isNone && fn.name == "internal" ++ String.singleton (Char.ofNat 47) ++ "abi.NoEscape"
  | none => false
 | _ => false
def zl9 (P : Program) (t u : TypeId) (x : Value) (s : AS) : Option Value := match P.underlying t,P.underlying u,x with
 | some (.pointer e),some .unsafePointer, .pointer (some ⟨b,off,none⟩) => match s.get b,sizeT P e with
  | some (.cells cs _ _),some (_ + 1) => if off < cs.size then some x else none
  | _,_ => none
 | some .unsafePointer,some (.pointer e), .pointer (some ⟨b,off,none⟩) => match s.get b,sizeT P e with
  | some (.cells cs bt (0,0)),some (_ + 1) => if liesAt P P.depth bt (cs.size / P.cellsOf bt) off e 1 = true then some x else none
  | _,_ => none
 | _,_,_ => none
def evNew (P : Program) (kt : TypeId → Bool) (a : TL) (o : Oper) : Option (Obj × (Nat → Value)) := match o.op with
 | .alloc t => if zeroT P t = false ∨ kt t = true ∨ sizeT P t = none then none else match (P.info? t).map (·.zero) with
  | some (some z) => some (.cells z.cells t,fun b => aptr b 0)
  | _ => none
 | .box t x => if kt t = true ∨ sizeT P t = none then none else some (.cells (a.at x).cells t,fun b => aptr b 0)
 | .buildSlice t len parts => match P.underlying t with
  | some (.slice e) => if zeroT P e = false ∨ kt e = true ∨ 1000000000 < len then none else match sliced P e len (parts.map fun (i,x) => (i,a.at x)).toList with
   | some c => some (.cells c e,fun b => .slice (some ⟨b,0,none⟩) len len)
   | none => none
  | _ => none
 | .range t x => match P.underlying t,a.at x with
  | some .string, .string str => if kt (1000 + str.size) = true then none else some (.stringIter str 0,fun b => aptr b 0)
  | _,_ => none
 | .makeSlice t x y => match P.underlying t,a.at x,a.at y with
  | some (.slice e), .int .i64 n, .int .i64 m => match (P.info? e).map (fun i => (i.zero,i.size,i.bytes)) with
   | some (some z,sz,bytes) => if n = m ∧ 0 < n ∧ n ≤ 1000000 ∧ zeroT P e = true ∧ kt e = false ∧ bytes ≤ 1000 then some (.cells (madeCells z.cells (n.toNat * sz)) e,fun b => .slice (some ⟨b,0,none⟩) n.toNat n.toNat) else none
   | _ => none
  | _,_,_ => none
 | _ => none
def isNew : Op → Bool
 | .alloc _ | .box _ _ | .buildSlice _ _ _ | .range _ _ | .makeSlice _ _ _ => true
 | _ => false
def evOp (P : Program) (kt : TypeId → Bool) (call : FuncId → Array Value → AS → Option (Value × AS)) (a : TL) (o : Oper) (s : AS) : Option (Value × AS) :=
 if isNew o.op then match evNew P kt a o with
  | some (ob,mk) => some (mk s.nx,s.add ob)
  | none => none
 else match o.op with
 | .load t x => match zc8 P t (a.at x) s with
  | some v => some (v,s)
  | none => none
 | .store t x y => match evStore P t (a.at x) (a.at y) s with
  | some s' => some (undef,s')
  | none => none
 | .slice t x lo hi mx => match evSlice P t (a.at x) (lo.map a.at) (hi.map a.at) (mx.map a.at) s with
  | some v => some (v,s)
  | none => none
 | .next it true => match a.at it with
  | .pointer (some ⟨b,0,none⟩) => match s.get b with
   | some (.stringIter str pos) =>
    if pos < str.size then if kt (1000 + str.size) = true then none else some (.tuple #[.bool true,goInt pos, .int .i32 (Utf8.decode str pos).1],s.set b (some (.stringIter str (pos + (Utf8.decode str pos).2))))
    else some (.tuple #[.bool false],s)
   | _ => none
  | _ => none
 | .call c => match c.callee with
  | .value f => if noEsc P f = true then match c.args.toList with
    | [x] => some (a.at x,s)
    | _ => none
   else match a.at f with
   | .func (.func g) first cap => call g (first ++ c.args.map a.at ++ cap) s
   | _ => none
  | .builtin b => match ze4 P a o with
   | some v => some (v,s)
   | none => zj4 P kt b (c.args.toList.map a.at) c.argTypes.toList s
  | _ => none
 | .convert t u x => match ze4 P a o with
  | some v => some (v,s)
  | none => match zl9 P t u (a.at x) s with
   | some v => some (v,s)
   | none => none
 | _ => match ze4 P a o with
  | some v => some (v,s)
  | none => none
def evOps (P : Program) (kt : TypeId → Bool) (call : FuncId → Array Value → AS → Option (Value × AS)) (ops : Array Oper) : List Oper → TL → AS → Option (TL × AS)
 | [],a,s => some (a,s)
 | o :: rest,a,s =>
  if Region.wanted o (zc7 ops a) then
   match evOp P kt call a o s with
   | some (v,s') => evOps P kt call ops rest (a.put o.dst v) s'
   | none => none
  else evOps P kt call ops rest (a.put o.dst undef) s
def evOps' (P : Program) (kt : TypeId → Bool) (call : FuncId → Array Value → AS → Option (Value × AS)) (ops : Array Oper) (a : TL) (s : AS) : Option (TL × AS) := evOps P kt call ops ops.toList a s
def evTr (P : Program) (kt : TypeId → Bool) (call : FuncId → Array Value → AS → Option (Value × AS)) (ops : Array Oper) : List Oper → TL → AS → Option (List (TL × Value × AS))
 | [],_,_ => some []
 | o :: rest,a,s =>
  if Region.wanted o (zc7 ops a) then
   match evOp P kt call a o s with
   | some (v,s') => match evTr P kt call ops rest (a.put o.dst v) s' with
    | some tr => some ((a,v,s') :: tr)
    | none => none
   | none => none
  else match evTr P kt call ops rest (a.put o.dst undef) s with
   | some tr => some ((a,undef,s) :: tr)
   | none => none
def zd8 (P : Program) (o : Oper) : Nat :=
 if isNew o.op then 2 else match o.op with
  | .load _ _ => 1
  | .store _ _ _ | .next _ _ => 3
  | .slice t _ _ _ _ => match P.underlying t with
   | some .string => 0
   | _ => 3
  | .convert t u _ => match P.underlying t,P.underlying u with
   | some .unsafePointer,_ | _,some .unsafePointer => 3
   | _,_ => 0
  | .call c => match c.callee with
   | .builtin .len | .builtin .min | .builtin .max | .builtin .cap | .builtin .unsafeSliceData => 0
   | _ => 3
  | _ => 0
def depOf (acc : List Nat) (o : Oper) : Nat := o.after.toList.foldl (fun m e => if Region.binds .any e then m ||| (1 <<< e.on ||| acc.getD e.on 0) else m) 0
def zh2 : List Oper → List Nat → List Nat
 | [],acc => acc
 | o :: rest,acc => zh2 rest (acc ++ [depOf acc o])
def veq : Nat → Value → Value → Bool
 | 0,_,_ => false
 | n + 1,x,y => match x,y with
  | .bool a, .bool b => a == b
  | .int k a, .int k' b => k == k' && a == b
  | .string a, .string b => beqL a.data.toList b.data.toList
  | .pointer a, .pointer b => a == b
  | .slice a n c, .slice a' n' c' => a == a' && n.beq n' && c.beq c'
  | .func f x y, .func f' x' y' => f == f' && x.toList.length.beq x'.toList.length && y.toList.length.beq y'.toList.length && (x.toList.zip x'.toList).all (fun p => veq n p.1 p.2) && (y.toList.zip y'.toList).all (fun p => veq n p.1 p.2)
  | .agg x, .agg x' => x.toList.length.beq x'.toList.length && (x.toList.zip x'.toList).all (fun p => veq n p.1 p.2)
  | .nilFunc, .nilFunc => true
  | .nilIface, .nilIface => true
  | _,_ => false
def tmpsOf (o : Oper) : List Nat := o.op.operands.toList.filterMap fun x => match x with
 | .tmp t => some t
 | _ => none
def okDraw (P : Program) (ops : List Oper) (deps : List Nat) (q : Nat) : Bool :=
 let n := ops.length
 let has := fun i j => (deps.getD i 0).testBit j
 let ks := ops.map (zd8 P)
 (List.range n).all (fun i => decide (i < q) || (List.range i).all (has i)) &&
 (List.range q).all (fun i => match ops[i]? with
  | some o => (tmpsOf o).all (fun t => (List.range q).all fun j => ((ops[j]?).bind (·.dst) != some t) || has i j) &&
   (match o.guard with | some (j,_) => has i j && decide (j < q) | none => true) &&
   (List.range q).all (fun j => (i == j) || o.dst == none || (ops[j]?).bind (·.dst) != o.dst)
  | none => false) &&
 (List.range q).all (fun i => (ks.getD i 0 != 3) || (List.range i).all fun j => (ks.getD j 0).blt 2 || has i j)
def zl3 (deps : List Nat) : Nat → Nat
 | 0 => 0
 | n + 1 => if (List.range n).all (fun j => (deps.getD n 0).testBit j) then zl3 deps n else n + 1
def zl2 (tr : List (TL × Value × AS)) (s : AS) (m : Nat) : AS := match m with
 | 0 => s
 | m + 1 => match tr[m]? with
  | some (_,_,s') => s'
  | none => s
def okLoads (P : Program) (ops : Array Oper) (deps : List Nat) (q : Nat) (tr : List (TL × Value × AS)) (s : AS) : Bool :=
 let has := fun i j => (deps.getD i 0).testBit j
 let es := (List.range q).filter fun i => (match ops.toList[i]? with | some o => zd8 P o | none => 0) == 3
 (List.range q).all fun r => match ops.toList[r]?,tr[r]? with
  | some o,some (a,v,_) => match o.op with
   | .load t x => (0 :: es.map (· + 1)).all fun p =>
    (es.any fun e => (e.blt p && has e r) || (!e.blt p && has r e)) ||
    (match zc8 P t (a.at x) (zl2 tr s p) with
     | some v' => veq 20 v' v
     | none => false) || !(Region.wanted o (zc7 ops a))
   | _ => true
  | _,_ => false
def evDraw (P : Program) (kt : TypeId → Bool) (call : FuncId → Array Value → AS → Option (Value × AS)) (ops : Array Oper) (a : TL) (s : AS) : Option (TL × AS) :=
 let deps := zh2 ops.toList []
 let q := zl3 deps ops.toList.length
 if zi3 ops = false ∨ okDraw P ops.toList deps q = false then none else
 match evTr P kt call ops ops.toList a s with
 | some tr => if okLoads P ops deps q tr s = false then none else match tr.reverse,ops.toList.reverse with
  | (a',v,s') :: _,o :: _ => some (a'.put o.dst v,s')
  | _,_ => none
 | none => none
def evRes1 (P : Program) (tmps : TL) (s : AS) : ResultVar → Option Value
 | .tmp t => some (tmps.getD t undef)
 | .cell t ty => zc8 P ty (tmps.getD t undef) s
def evRes (P : Program) (fn : Func) (tmps : TL) (s : AS) : Option Value :=
 match fn.results.toList with
 | [r] => evRes1 P tmps s r
 | rs => match rs.mapM (evRes1 P tmps s) with
  | some vs => some (.tuple vs.toArray)
  | none => none
abbrev Prim := FuncId → Option (Array Value → AS → Option (Value × AS))
def evC (P : Program) (kt : TypeId → Bool) (pr : Prim) : Nat → Code → TL → AS → Option (Exit × TL × AS)
 | 0,_,_,_ => none
 | n + 1,c,a,s => match c with
  | .skip => some (.normal,a,s)
  | .ret => some (.ret,a,s)
  | .exit id => some (.exit id,a,s)
  | .label _ => some (.normal,a,s)
  | .seq x y => match evC P kt pr n x a s with
   | some (.normal,a',s') => evC P kt pr n y a' s'
   | r => r
  | .cond x y z => match a.at x with
   | .bool true => evC P kt pr n y a s
   | .bool false => evC P kt pr n z a s
   | _ => none
  | .block id x => match evC P kt pr n x a s with
   | some (.exit k,a',s') => if k = id then some (.normal,a',s') else some (.exit k,a',s')
   | r => r
  | .loop x => match evC P kt pr n x a s with
   | some (.normal,a',s') => evC P kt pr n (.loop x) a' s'
   | r => r
  | .scope x => evC P kt pr n x a s
  | .region _ ops draw => if okOps ops = false then none else
   match (if draw then evDraw P kt else evOps' P kt) (fun f args s => match pr f with
    | some g => g args s
    | none => match P.funcs[f]? with
     | some fn => match fn.body with
      | some b => match evC P kt pr n b (args.toList ++ List.replicate (fn.ntmps - args.toList.length) undef) s with
       | some (e,a',s') => match e with
        | .normal | .ret => (evRes P fn a' s').map (·,s')
        | _ => none
       | none => none
      | none => none
     | none => none) ops a s with
   | some (a',s') => some (.normal,a',s')
   | none => none
  | _ => none
def zb8 (P : Program) (kt : TypeId → Bool) (pr : Prim) (n : Nat) (f : FuncId) (args : Array Value) (s : AS) : Option (Value × AS) :=
 match pr f with
 | some g => g args s
 | none => match P.funcs[f]? with
  | some fn => match fn.body with
   | some b => match evC P kt pr n b (args.toList ++ List.replicate (fn.ntmps - args.toList.length) undef) s with
    | some (e,a',s') => match e with
     | .normal | .ret => (evRes P fn a' s').map (·,s')
     | _ => none
    | none => none
   | none => none
  | none => none
end
section
open Go.Conc Go.RowKit Go.Lib
theorem getD_lset {α : Type} (d : α) : ∀ (n : Nat) (l : List α) (x : α) (m : Nat),(lset d n l x).getD m d = if m = n then x else l.getD m d
 | 0,l,x,0 => by simp [lset]
 | 0,l,x,m + 1 => by cases l <;> simp [lset]
 | n + 1,l,x,0 => by cases l <;> simp [lset]
 | n + 1,l,x,m + 1 => by
  have := getD_lset d n l.tail x m
  cases l <;> simp_all [lset]
theorem AS.get_set (s : AS) (b b' : Nat) (o : Option Obj) : (s.set b o).get b' = if b' = b then o else s.get b' := by
 unfold AS.get AS.set
 rw [getD_lset]
 by_cases h : b' / 16 = b / 16
 ·
  rw [if_pos h,getD_lset]
  by_cases h2 : b' % 16 = b % 16
  ·
   have : b' = b := by omega
   simp [h2,this]
  ·
   have : b' ≠ b := fun e => h2 (by rw [e])
   simp [h2,this,h]
 ·
  have : b' ≠ b := fun e => h (by rw [e])
  simp [h,this]
theorem AS.get_add (s : AS) (b' : Nat) (o : Obj) : (s.add o).get b' = if b' = s.nx then some o else s.get b' := by
 have : (s.add o).get b' = (s.set s.nx (some o)).get b' := rfl
 rw [this,AS.get_set]
@[simp] theorem AS.nx_set (s : AS) (b : Nat) (o : Option Obj) : (s.set b o).nx = s.nx := rfl
@[simp] theorem AS.nx_add (s : AS) (o : Obj) : (s.add o).nx = s.nx + 1 := rfl
abbrev Who := Nat → Option (Nat × Nat × Nat)
def Who.le (S S' : Who) : Prop := ∀ b x,S b = some x → S' b = some x
theorem Who.le_refl (S : Who) : S.le S := fun _ _ h => h
theorem Who.le_trans {S S' S'' : Who} (h : S.le S') (h' : S'.le S'') : S.le S'' := fun b x e => h' b x (h b x e)
def AR (R : Value → Value → Prop) (a b : Array Value) : Prop := a.size = b.size ∧ ∀ (i : Nat) (x y : Value),a[i]? = some x → b[i]? = some y → R x y
def VD (S : Who) : Nat → Value → Value → Prop
 | 0,_,_ => False
 | d + 1,x,v => match x with
  | .pointer (some ⟨b,off,none⟩) => ∃ g z e,S b = some (g,z,e) ∧ v = .pointer (some ⟨g,off,none⟩)
  | .slice (some ⟨b,off,none⟩) n c => ∃ g z e c',S b = some (g,z,e) ∧ v = .slice (some ⟨g,off,none⟩) n c' ∧ n ≤ c ∧ c ≤ c' ∧ c' ≤ maxLen ∧ off + c' * e = z
  | .slice (some ⟨b,_,some _⟩) n c => ∃ g z e o' c',S b = some (g,z,e) ∧ v = .slice (some ⟨g,o',none⟩) 0 c' ∧ n = 0 ∧ (c = 0 → c' = 0) ∧ c' ≤ maxLen
  | .map (some k) => ∃ m : Nat,v = goInt m ∧ k ≤ m
  | .func f x y => ∃ x' y',v = .func f x' y' ∧ AR (VD S d) x x' ∧ AR (VD S d) y y'
  | .agg x => ∃ x',v = .agg x' ∧ AR (VD S d) x x'
  | .tuple x => ∃ x',v = .tuple x' ∧ AR (VD S d) x x'
  | x => isSc x = true ∧ v = x
def VR (S : Who) (x v : Value) : Prop := ∃ d,VD S d x v
theorem AR.imp {R R' : Value → Value → Prop} {a b : Array Value} (h : AR R a b) (i : ∀ x y,R x y → R' x y) : AR R' a b := ⟨h.1,fun k x y hx hy => i x y (h.2 k x y hx hy)⟩
theorem VD.imp {S S' : Who} (hS : S.le S') : ∀ {d d' : Nat} {x v : Value},VD S d x v → d ≤ d' → VD S' d' x v
 | 0,_,_,_,h,_ => h.elim
 | d + 1,0,_,_,_,h => absurd h (by omega)
 | d + 1,d' + 1,x,v,h,hd => by
  have ih : ∀ x y,VD S d x y → VD S' d' x y := fun x y h => VD.imp hS h (by omega)
  unfold VD at h ⊢
  split at h
  ·
   obtain ⟨g,z,e,h1,h2⟩ := h; exact ⟨g,z,e,hS _ _ h1,h2⟩
  ·
   obtain ⟨g,z,e,c,h1,h2⟩ := h; exact ⟨g,z,e,c,hS _ _ h1,h2⟩
  ·
   obtain ⟨g,z,e,o',c',h1,h2⟩ := h; exact ⟨g,z,e,o',c',hS _ _ h1,h2⟩
  ·
   exact h
  ·
   obtain ⟨x',y',h1,h2,h3⟩ := h; exact ⟨x',y',h1,h2.imp ih,h3.imp ih⟩
  iterate 2
   ·
    obtain ⟨x',h1,h2⟩ := h; exact ⟨x',h1,h2.imp ih⟩
  ·
   exact h
theorem VR.mono {S S' : Who} {x v : Value} (h : VR S x v) (hS : S.le S') : VR S' x v := h.elim fun d h => ⟨d,h.imp hS (Nat.le_refl d)⟩
theorem AR.mono {S S' : Who} {a b : Array Value} (h : AR (VR S) a b) (hS : S.le S') : AR (VR S') a b := h.imp fun _ _ h => h.mono hS
section
variable {S : Who} {x v : Value}
theorem VR.sc (hx : isSc x = true) (h : VR S x v) : v = x := by
 obtain ⟨d,h⟩ := h
 cases d with
 | zero => exact h.elim
 | succ d =>
  unfold VD at h
  split at h <;> first | exact h.2 | (simp [isSc] at hx)
theorem VR.of_sc (hx : isSc x = true) : VR S x x := by
 refine ⟨1,?_⟩
 unfold VD
 split <;> first | exact ⟨hx,rfl⟩ | (simp [isSc] at hx)
theorem VR.mp {p : Option Nat} (h : VR S (.map p) v) : ∃ k m : Nat,p = some k ∧ v = goInt m ∧ k ≤ m := by
 obtain ⟨d,h⟩ := h
 cases d with
 | zero => exact h.elim
 | succ d => cases p with
  | none => exact absurd h.1 (by simp [isSc])
  | some k => obtain ⟨m,h1,h2⟩ := h; exact ⟨k,m,rfl,h1,h2⟩
theorem VR.ptr {b off : Nat} (h : VR S (.pointer (some ⟨b,off,none⟩)) v) : ∃ g z e,S b = some (g,z,e) ∧ v = .pointer (some ⟨g,off,none⟩) := by
 obtain ⟨d,h⟩ := h
 cases d with
 | zero => exact h.elim
 | succ d => exact h
theorem VR.of_ptr {b off g z e : Nat} (h : S b = some (g,z,e)) : VR S (.pointer (some ⟨b,off,none⟩)) (.pointer (some ⟨g,off,none⟩)) := ⟨1,g,z,e,h,rfl⟩
theorem VR.ptr_none {p : Addr} (h : VR S (.pointer (some p)) v) : p.spot = none := by
 obtain ⟨d,h⟩ := h
 obtain ⟨b,off,sp⟩ := p
 cases sp with
 | none => rfl
 | some q => cases d with
  | zero => exact h.elim
  | succ d => exact absurd h.1 (by simp [isSc])
theorem VR.sl {b off n c : Nat} (h : VR S (.slice (some ⟨b,off,none⟩) n c) v) : ∃ g z e c',S b = some (g,z,e) ∧ v = .slice (some ⟨g,off,none⟩) n c' ∧ n ≤ c ∧ c ≤ c' ∧ c' ≤ maxLen ∧ off + c' * e = z := by
 obtain ⟨d,h⟩ := h
 cases d with
 | zero => exact h.elim
 | succ d => exact h
theorem VR.of_sl {b off n c g z e c' : Nat} (h : S b = some (g,z,e)) (h1 : n ≤ c) (h2 : c ≤ c') (h3 : c' ≤ maxLen) (h4 : off + c' * e = z) : VR S (.slice (some ⟨b,off,none⟩) n c) (.slice (some ⟨g,off,none⟩) n c') := ⟨1,g,z,e,c',h,rfl,h1,h2,h3,h4⟩
theorem VR.sl_any {ad : Addr} {n c : Nat} (h : VR S (.slice (some ad) n c) v) : ∃ g z e o' c',S ad.block = some (g,z,e) ∧ v = .slice (some ⟨g,o',none⟩) n c' ∧ n ≤ c' ∧ c' ≤ maxLen ∧ (n = 0 ∨ o' = ad.off) := by
 obtain ⟨d,h⟩ := h
 obtain ⟨b,off,sp⟩ := ad
 cases d with
 | zero => exact h.elim
 | succ d =>
  cases sp with
  | none => obtain ⟨g,z,e,c',h1,h2,h3,h4,h5,_⟩ := h; exact ⟨g,z,e,off,c',h1,h2,by omega,h5, .inr rfl⟩
  | some q => obtain ⟨g,z,e,o',c',h1,h2,h3,h4,h5⟩ := h; subst h3; exact ⟨g,z,e,o',c',h1,h2,by omega,h5, .inl rfl⟩
theorem VR.sl_flag {b off n c : Nat} {q} (h : VR S (.slice (some ⟨b,off,some q⟩) n c) v) : ∃ g z e o' c',S b = some (g,z,e) ∧ v = .slice (some ⟨g,o',none⟩) 0 c' ∧ n = 0 ∧ (c = 0 → c' = 0) ∧ c' ≤ maxLen := by
 obtain ⟨d,h⟩ := h
 cases d with
 | zero => exact h.elim
 | succ d => exact h
theorem VR.of_flag {b off c g z e o' c' : Nat} {q} (h : S b = some (g,z,e)) (h1 : c = 0 → c' = 0) (h2 : c' ≤ maxLen) : VR S (.slice (some ⟨b,off,some q⟩) 0 c) (.slice (some ⟨g,o',none⟩) 0 c') := ⟨1,g,z,e,o',c',h,rfl,rfl,h1,h2⟩
theorem VR.fn {f : Fn} {p q : Array Value} (h : VR S (.func f p q) v) : ∃ p' q',v = .func f p' q' ∧ AR (VR S) p p' ∧ AR (VR S) q q' := by
 obtain ⟨d,h⟩ := h
 cases d with
 | zero => exact h.elim
 | succ d => obtain ⟨p',q',h1,h2,h3⟩ := h; exact ⟨p',q',h1,h2.imp fun _ _ h => ⟨d,h⟩,h3.imp fun _ _ h => ⟨d,h⟩⟩
theorem VR.ag {p : Array Value} (h : VR S (.agg p) v) : ∃ p',v = .agg p' ∧ AR (VR S) p p' := by
 obtain ⟨d,h⟩ := h
 cases d with
 | zero => exact h.elim
 | succ d => obtain ⟨p',h1,h2⟩ := h; exact ⟨p',h1,h2.imp fun _ _ h => ⟨d,h⟩⟩
theorem VR.tu {p : Array Value} (h : VR S (.tuple p) v) : ∃ p',v = .tuple p' ∧ AR (VR S) p p' := by
 obtain ⟨d,h⟩ := h
 cases d with
 | zero => exact h.elim
 | succ d => obtain ⟨p',h1,h2⟩ := h; exact ⟨p',h1,h2.imp fun _ _ h => ⟨d,h⟩⟩
theorem common_list : ∀ (a b : List Value),(∀ (i : Nat) (x y : Value),a[i]? = some x → b[i]? = some y → VR S x y) → ∃ d, ∀ (i : Nat) (x y : Value),a[i]? = some x → b[i]? = some y → VD S d x y
 | [],b,_ => ⟨0,fun i x y h => by simp at h⟩
 | x :: a, [],_ => ⟨0,fun i x y _ h => by simp at h⟩
 | x :: a,y :: b,h => by
  obtain ⟨d,hd⟩ := common_list a b fun i x y hx hy => h (i + 1) x y (by simpa using hx) (by simpa using hy)
  obtain ⟨d',hd'⟩ := h 0 x y rfl rfl
  refine ⟨max d d',fun i x' y' hx hy => ?_⟩
  cases i with
  | zero => simp at hx hy; subst hx hy; exact hd'.imp (Who.le_refl S) (Nat.le_max_right _ _)
  | succ i => exact (hd i x' y' (by simpa using hx) (by simpa using hy)).imp (Who.le_refl S) (Nat.le_max_left _ _)
theorem AR.common {a b : Array Value} (h : AR (VR S) a b) : ∃ d,AR (VD S d) a b := by
 obtain ⟨d,hd⟩ := common_list (S := S) a.toList b.toList fun i x y hx hy => h.2 i x y (by simpa using hx) (by simpa using hy)
 exact ⟨d,h.1,fun i x y hx hy => hd i x y (by simpa using hx) (by simpa using hy)⟩
theorem VR.of_ag {p p' : Array Value} (h : AR (VR S) p p') : VR S (.agg p) (.agg p') := by
 obtain ⟨d,hd⟩ := h.common
 exact ⟨d + 1,p',rfl,hd⟩
theorem VR.of_tu {p p' : Array Value} (h : AR (VR S) p p') : VR S (.tuple p) (.tuple p') := by
 obtain ⟨d,hd⟩ := h.common
 exact ⟨d + 1,p',rfl,hd⟩
theorem VR.of_fn {f : Fn} {p p' q q' : Array Value} (h : AR (VR S) p p') (h' : AR (VR S) q q') : VR S (.func f p q) (.func f p' q') := by
 obtain ⟨d,hd⟩ := h.common
 obtain ⟨d',hd'⟩ := h'.common
 exact ⟨max d d' + 1,p',q',rfl,hd.imp fun _ _ h => h.imp (Who.le_refl S) (Nat.le_max_left _ _),hd'.imp fun _ _ h => h.imp (Who.le_refl S) (Nat.le_max_right _ _)⟩
theorem AR.nil : AR (VR S) #[] #[] := ⟨rfl,fun i x y h => by simp at h⟩
theorem AR.one {x v : Value} (h : VR S x v) : AR (VR S) #[x] #[v] := ⟨rfl,fun i x' y' hx hy => by
 cases i with
 | zero => simp at hx hy; subst hx hy; exact h
 | succ i => simp at hx⟩
theorem AR.append {a b a' b' : Array Value} (h : AR (VR S) a b) (h' : AR (VR S) a' b') : AR (VR S) (a ++ a') (b ++ b') := by
 refine ⟨by simp [h.1,h'.1],fun i x y hx hy => ?_⟩
 rw [Array.getElem?_append] at hx hy
 rw [← h.1] at hy
 split at hx
 ·
  rw [if_pos (by assumption)] at hy
  exact h.2 i x y hx hy
 ·
  rw [if_neg (by assumption)] at hy
  exact h'.2 _ x y hx hy
theorem AR.replicate (n : Nat) (hx : VR S x v) : AR (VR S) (Array.replicate n x) (Array.replicate n v) := by
 refine ⟨by simp,fun i a b ha hb => ?_⟩
 simp [Array.getElem?_replicate] at ha hb
 rw [← ha.2, ← hb.2]
 exact hx
theorem VR.undef : VR S undef undef := VR.of_tu AR.nil
theorem VR.cells (h : VR S x v) : AR (VR S) x.cells v.cells := by
 cases x with
 | agg p => obtain ⟨p',rfl,h'⟩ := h.ag; exact h'
 | tuple p => obtain ⟨p',rfl,h'⟩ := h.tu; exact AR.one (VR.of_tu h')
 | map p => obtain ⟨k,m,rfl,rfl,h'⟩ := h.mp; exact AR.one h
 | func f p q => obtain ⟨p',q',rfl,h1,h2⟩ := h.fn; exact AR.one (VR.of_fn h1 h2)
 | pointer p =>
  cases p with
  | none => rw [h.sc rfl]; exact AR.one (VR.of_sc rfl)
  | some p =>
   obtain ⟨b,off,sp⟩ := p
   have := h.ptr_none
   simp at this
   subst this
   obtain ⟨g,z,e,h1,rfl⟩ := h.ptr
   exact AR.one (VR.of_ptr h1)
 | slice p n c =>
  cases p with
  | none => rw [h.sc rfl]; exact AR.one (VR.of_sc rfl)
  | some p =>
   obtain ⟨g,z,e,o',c',h1,rfl,h2⟩ := h.sl_any
   exact AR.one h
 | bool b => rw [h.sc rfl]; exact AR.one (VR.of_sc rfl)
 | int k n => rw [h.sc rfl]; exact AR.one (VR.of_sc rfl)
 | string s => rw [h.sc rfl]; exact AR.one (VR.of_sc rfl)
 | nilFunc => rw [h.sc rfl]; exact AR.one (VR.of_sc rfl)
 | nilIface => rw [h.sc rfl]; exact AR.one (VR.of_sc rfl)
 | _ => obtain ⟨d,h⟩ := h; cases d with
  | zero => exact h.elim
  | succ d => exact absurd h.1 (by simp [isSc])
theorem VR.oneCell (h : VR S x v) : v.oneCell' = x.oneCell' := by
 cases x with
 | agg p => obtain ⟨p',rfl,h'⟩ := h.ag; rfl
 | tuple p => obtain ⟨p',rfl,h'⟩ := h.tu; rfl
 | map p => obtain ⟨k,m,rfl,rfl,h'⟩ := h.mp; rfl
 | func f p q => obtain ⟨p',q',rfl,h1,h2⟩ := h.fn; rfl
 | pointer p =>
  cases p with
  | none => rw [h.sc rfl]
  | some p =>
   obtain ⟨b,off,sp⟩ := p
   have := h.ptr_none
   simp at this
   subst this
   obtain ⟨g,z,e,h1,rfl⟩ := h.ptr
   rfl
 | slice p n c =>
  cases p with
  | none => rw [h.sc rfl]
  | some p => obtain ⟨g,z,e,o',c',h1,rfl,h2⟩ := h.sl_any; rfl
 | bool b => rw [h.sc rfl]
 | int k n => rw [h.sc rfl]
 | string s => rw [h.sc rfl]
 | nilFunc => rw [h.sc rfl]
 | nilIface => rw [h.sc rfl]
 | _ => obtain ⟨d,h⟩ := h; cases d with
  | zero => exact h.elim
  | succ d => exact absurd h.1 (by simp [isSc])
end
def OR (S : Who) (z : Nat) : Obj → Obj → Prop
 | .cells cs t fz,o' => ∃ cs',o' = .cells cs' t ∧ cs'.size = z ∧ (cs.size ≤ z ∧ (fz = (0,0) → cs.size = z)) ∧ ∀ (i : Nat) (x y : Value),cs[i]? = some x → cs'[i]? = some y → VR S x y
 | .stringIter s p,o' => o' = .stringIter s p
 | _,_ => False
theorem OR.mono {S S' : Who} (hS : S.le S') {z : Nat} {o o' : Obj} (h : OR S z o o') : OR S' z o o' := by
 unfold OR at h ⊢
 split at h
 ·
  obtain ⟨cs',h1,h2,h3,h4⟩ := h; exact ⟨cs',h1,h2,h3,fun i x y hx hy => (h4 i x y hx hy).mono hS⟩
 ·
  exact h
 ·
  exact h.elim
structure Sim (P : Program) (KT : TypeId → Prop) (An : Who) (S : Who) (s : AS) (l : List (Nat × Obj)) : Prop where
 live : ∀ b o,s.get b = some o → ∃ g z e o',S b = some (g,z,e) ∧ (g,o') ∈ l ∧ OR S z o o' ∧ ∀ cs t fz,o = .cells cs t fz → sizeT P t = some e ∧ ¬ KT t
 inj : ∀ b b' o o' x x',s.get b = some o → s.get b' = some o' → S b = some x → S b' = some x' → x.1 = x'.1 → b = b'
 lt : ∀ b o,s.get b = some o → b < s.nx
 an : An.le S
section
variable {P : Program} {KT : TypeId → Prop} {An : Who} {S S' : Who} {s : AS} {l : List (Nat × Obj)}
def Who.put (S : Who) (b : Nat) (x : Nat × Nat × Nat) : Who := fun k => if k = b then some x else S k
theorem Who.le_put {b : Nat} {x : Nat × Nat × Nat} (h : S b = none) : S.le (S.put b x) := fun k y hk => by
 unfold Who.put
 rw [if_neg (by rintro rfl; rw [h] at hk; cases hk)]
 exact hk
theorem Who.put_self {b : Nat} {x : Nat × Nat × Nat} : S.put b x b = some x := by simp [Who.put]
theorem Sim.grown (h : Sim P KT An S s l) {o o' : Obj} {g z e : Nat} (hn : S s.nx = none) (hg : ∀ o,(g,o) ∉ l) (ho : OR (S.put s.nx (g,z,e)) z o o') (ht : ∀ cs t fz,o = .cells cs t fz → sizeT P t = some e ∧ ¬ KT t) : Sim P KT An (S.put s.nx (g,z,e)) (s.add o) ((g,o') :: l) where
 live b ob hb := by
  rw [AS.get_add] at hb
  split at hb
  ·
   next e' =>
   subst e'
   cases hb
   exact ⟨g,z,e,o',Who.put_self,List.mem_cons_self ..,ho,ht⟩
  ·
   obtain ⟨g',z',e',ob',h1,h2,h3,h4⟩ := h.live b ob hb
   exact ⟨g',z',e',ob',Who.le_put hn _ _ h1,List.mem_cons_of_mem _ h2,h3.mono (Who.le_put hn),h4⟩
 inj b b' o1 o2 x x' hb hb' hx hx' he := by
  rw [AS.get_add] at hb hb'
  unfold Who.put at hx hx'
  split at hb <;> split at hb'
  ·
   omega
  ·
   next e1 e2 =>
   rw [if_pos e1] at hx
   rw [if_neg e2] at hx'
   cases hx
   obtain ⟨g',z',e',ob',h1,h2,_⟩ := h.live b' o2 hb'
   rw [h1] at hx'
   cases hx'
   simp at he
   subst he
   exact absurd h2 (hg _)
  ·
   next e1 e2 =>
   rw [if_neg e1] at hx
   rw [if_pos e2] at hx'
   cases hx'
   obtain ⟨g',z',e',ob',h1,h2,_⟩ := h.live b o1 hb
   rw [h1] at hx
   cases hx
   simp at he
   subst he
   exact absurd h2 (hg _)
  ·
   next e1 e2 =>
   rw [if_neg e1] at hx
   rw [if_neg e2] at hx'
   exact h.inj b b' o1 o2 x x' hb hb' hx hx' he
 lt b ob hb := by
  rw [AS.get_add] at hb
  split at hb
  ·
   next e' => simp [e']
  ·
   have := h.lt b ob hb; simp; omega
 an := Who.le_trans h.an (Who.le_put hn)
end
end
end Go.Proofs.YtgcaionclkbehaaGreatDoor
