import Derived.Test.YtgcaionclkbehaaGreatDoorE21
import Derived.Room.MakeNoZero
set_option linter.all false
set_option maxHeartbeats 2000000
set_option maxRecDepth 100000
namespace Go.Proofs.YtgcaionclkbehaaGreatDoor
open Go.Conc Go.RowKit Go.Lib Tryz
section
variable [Inhabited KC]
variable {P:Program}{kt:TypeId->Bool}{pr:Prim}{f fn:FuncId}{args:Aq}{s s' s1:AS}{p v:Value}{w:World}{n:Nat}{ops:Array Oper}{o:Oper}{ι:Type}{R:ι->Wq}{D:ι->World->World->Array Event->Prop}{X:ι->Gq}{xs:Vq}{An:dQ}{Hd:ι->Hq->World->Prop}
variable {g:FuncId}{args' cs:Aq}{s2:AS}{sl:Value}{e pt t t' ty u:TypeId}{x y:Operand}{l m:Bq}{i j:Int}{N b c d k off sz:Nat}{fz:Nat × Nat}{l0 news:Vq}{S:dQ}
theorem EF.one{w:Value}(h:EF P kt pr f args s v s1)(U:EF P kt pr f args s w s2):v=w/\s1=s2:=by have⟨n,h⟩:=h;have⟨m,U⟩:=U;have e1:=jf (Nat.le_max_left n m) _ _ _ _ h;have a:=jf (Nat.le_max_right n m) _ _ _ _ U;grind
def Vz (V:Aq->Option Value)(args:Aq)(s:AS):Option (Value × AS):=match V args with
 | some v=>some (v,s)
 | none=>none
def tP (f:FuncId)(V:Aq->Option Value)(pr:Prim):Prim:=λg=>if g.beq f then some (Vz V) else pr g
def Hw{V:Aq->Option Value}(b:pr f=some (Vz V))(a:V args=some v):EF P kt pr f args s v s:=fI b<|by unfold Vz;rw[a]
def qOk:Option (Value × AS)->Bool
 | some _=>true
 | none=>false
def qV:Option (Value × AS)->Value
 | some (v,_)=>v
 | none=>undef
def qS:Option (Value × AS)->AS
 | some (_,s)=>s
 | none=>⟨[],0⟩
variable {Q:Exit->TL->AS->Prop}{K:TL->AS->Prop}{KT:List (TL × Value × AS)->Prop}{rest:List Oper}
section
variable {c:km}{a:TL}
section
variable (hw:Region.wanted o (bK ops a)=true)
section
variable (h:qOk (bS P kt (λ_ _ _=>none) a o s)=true)
def ET.q(k:ET P kt pr ops rest (a.put o.dst<|qV<|bS P kt (λ_ _ _=>none) a o s) (qS<|bS P kt (λ_ _ _=>none) a o s) (λc=>KT ((a,qV<|bS P kt (λ_ _ _=>none) a o s,qS<|bS P kt (λ_ _ _=>none) a o s)::c))):ET P kt pr ops (o::rest) a s KT:=by
 generalize b:bS P kt (λ_ _ _=>none) a o s=q at h k;obtain _|⟨v,s'⟩:=q
 .cases h
 .exact ET.op hw b k
def EO.q(k:EO P kt pr ops rest (a.put o.dst<|qV<|bS P kt (λ_ _ _=>none) a o s) (qS<|bS P kt (λ_ _ _=>none) a o s) K):EO P kt pr ops (o::rest) a s K:=by
 generalize b:bS P kt (λ_ _ _=>none) a o s=q at h k;obtain _|⟨v,s'⟩:=q
 .cases h
 .exact bV hw b k
end
end
def ET.R0(s':AS)(h:s=s')(k:ET P kt pr ops rest a s' KT):ET P kt pr ops rest a s KT:=h▸k
theorem aI{b:BinOp}{z}{u w:Value}(U:o.op=.binOp b t x y z)(d:a.at x=u)(e:a.at y=w)(h:dj b u w=some v):bS P kt c a o s=some (v,s):=by refine fe (by rw[U];rfl) gq ?_;unfold cW;grind
def di(b:o.op=.call { callee:=.builtin .len,args:=#[x],argTypes:=#[t] })(d:P.underlying t=some .string)(f:a.at x=str l):bS P kt c a o s=some (num l.length,s):=by
 have e:cW P a o=some (num l.length):=by unfold cW;rw[b];simp only;rw[d,f];show some (goInt<|mV l 0)=_;rw[rX];rfl
 unfold bS;rw[iw (by rw[b];simp[gW]),b];simp only;rw[e]
def iL{lo hi:Option Operand}{i j:Nat}(b:o.op=.slice t x lo hi none)(f:P.underlying t=some .string)(g:a.at x=str l)(d:bM l.length l.length (lo.map a.at) (hi.map a.at)=some (i,j))(e:(l.take j).drop i=m):bS P kt c a o s=some (str m,s):=by rw[Ay b f g d,e]
def jp{b:Bool}(h:decide (i>=j)=b):dj .geq (num i) (num j)=some (.bool b):=by unfold dj;simp only[ip];rw[h]
def db{b:Bool}(h:decide (i>j)=b):dj .gtr (num i) (num j)=some (.bool b):=by unfold dj;simp only[ip];rw[h]
def cj{b:Bool}(h:decide (i<j)=b):dj .lss (num i) (num j)=some (.bool b):=by unfold dj;simp only[ip];rw[h]
def j7{b:Bool}(h:decide (i<=j)=b):dj .leq (num i) (num j)=some (.bool b):=by unfold dj;simp only[ip];rw[h]
def fh{b:Bool}(h:(i==j)=b):dj .eql (num i) (num j)=some (.bool b):=by unfold dj;simp only[ip];rw[h]
def nt{b:Bool}(h:ce l m=b):dj .eql (str l) (str m)=some (.bool b):=by unfold dj;simp only;rw[h]
end
def eS(l m:Bq):ce l m=true↔l=m:=by
 constructor
 .intro h;induction l generalizing m with
  | nil=>cases m with
   | nil=>rfl
   | cons y m=>simp[ce] at h
  | cons x l a=>cases m with
   | nil=>simp[ce] at h
   | cons y m =>
    unfold ce at h;split at h
    .next e=>rw[UInt8.toNat_inj.1 (ja e),a m h]
    .cases h
 .rintro rfl;induction l with
  | nil=>rfl
  | cons x l a=>unfold ce;simp[a]
def Oq(h:l≠m):ce l m=false:=by
 cases hb:ce l m with
 | false=>rfl
 | true=>exact absurd ((eS l m).1 hb) h
def bN:Nat->Value->Bool
 | 0,_=>false
 | n+1,v=>match v with
  | .bool _|.int _ _|.string _|.pointer _|.slice _ _ _|.nilFunc|.nilIface=>true
  | .func _ x y=>x.toList.all (bN n)&&y.toList.all (bN n)
  | .agg x=>x.toList.all<|bN n
  | _=>false
def sQ{α:Type}{p:α × α->Bool}:∀{l:List α},(∀x∈l,p (x,x)=true)->(l.zip l).all p=true
 | [],_=>rfl
 | x::l,h=>by rw[List.zip_cons_cons,List.all_cons,h x iq,sQ λy hy=>h y<|by simp[hy]];rfl
def sJ:∀{n:Nat} {v:Value},bN n v=true->qz n v v=true
 | 0,v,h=>by simp[bN] at h
 | n+1,v,h=>by
  cases v with
  | bool b=>unfold qz;simp
  | int k i=>unfold qz;simp
  | string x=>unfold qz;exact(eS _ _).2 Y
  | pointer x=>unfold qz;simp
  | slice x l c=>unfold qz;simp
  | nilFunc=>unfold qz;rfl
  | nilIface=>unfold qz;rfl
  | func f x y =>unfold bN at h;simp only[vy,aT] at h;unfold qz;simp only[beq_self_eq_true,Bool.true_and,Nat.beq_refl];rw[sQ λz hz=>sJ<|h.1 z hz,sQ λz hz=>sJ<|h.2 z hz];rfl
  | agg x =>unfold bN at h;simp only[aT] at h;unfold qz;simp only[Nat.beq_refl,Bool.true_and];exact sQ λz hz=>sJ<|h z hz
  | _=>simp[bN] at h
def LA (P:Program)(ops:Array Oper)(q:Nat):List Nat:=(List.range q).filter λi=>(match ops.toList[i]? with|some o=>kindOf P o|none=>0)==3
def LB(P:Program)(ops:Array Oper)(ko:List Nat)(q:Nat)(tr:List (TL × Value × AS))(s:AS):List (Option Value × Value) :=
 (List.range q).flatMap λr=>match ops.toList[r]?,tr[r]? with
  | some o,some (a,v,_)=>match o.op with
   | .load t x=>if Region.wanted o (bK ops a) then ((0::(LA P ops q).map (·+1)).filter λp=>!((LA P ops q).any λe=>(e.blt p&&(ko.getD e 0).testBit r)||(!e.blt p&&(ko.getD r 0).testBit e))).map λp=>(bA P t (a.at x)<|jv tr s p,v) else []
   | _=>[]
  | _,_=>[(none,undef)]
def dh{ko:List Nat}{q:Nat}{tr:List (TL × Value × AS)}(L:List (Option Value × Value))(g:LB P ops ko q tr s=L)(h:∀x∈L,x.1=some x.2/\bN 20 x.2=true):pU P ops ko q tr s=true:=by
 subst g;unfold pU;simp only;rw[aT];intro r j;have b:∀x,x∈(match ops.toList[r]?,tr[r]? with
  | some o,some (a,v,_)=>match o.op with
   | .load t x=>if Region.wanted o (bK ops a) then ((0::(LA P ops q).map (·+1)).filter λp=>!((LA P ops q).any λe=>(e.blt p&&(ko.getD e 0).testBit r)||(!e.blt p&&(ko.getD r 0).testBit e))).map λp=>(bA P t (a.at x)<|jv tr s p,v) else []
   | _=>[]
  | _,_=>[(none,undef)]:List (Option Value × Value))->x.1=some x.2/\bN 20 x.2=true:=λx k=>h x<|List.mem_flatMap.2 ⟨r,j,k⟩;cases ho:ops.toList[r]? with
 | none=>rw[ho] at b;exact absurd (b (none,undef) iq).1 iq
 | some o =>
  cases ht:tr[r]? with
  | none=>rw[ho,ht] at b;exact absurd (b (none,undef) iq).1 iq
  | some z =>
   have⟨a,v,l⟩:=z;rw[ho,ht] at b;simp only at b |-;cases lx:o.op with
   | load t x =>
    rw[lx] at b;simp only at b |-;rw[aT];intro p i;by_cases d:Region.wanted o (bK ops a)=true
    .rw[ip d] at b;by_cases f:((LA P ops q).any λe=>(e.blt p&&(ko.getD e 0).testBit r)||(!e.blt p&&(ko.getD r 0).testBit e))=true
     .rw[FM,FM];exact .inl<|.inl f
     .have c:=b (bA P t (a.at x)<|jv tr s p,v)<|List.mem_map.2 ⟨p,List.mem_filter.2 ⟨i,by simpa using f⟩,Y⟩;simp only at c;rw[c.1];simp only[sJ c.2,Bool.or_true,Bool.true_or]
    .simp only[Bool.not_eq_true] at d;rw[d];simp
   | _=>rfl
def Dz{ko:List Nat}{q:Nat}{tr:List (TL × Value × AS)}{L:List (Option Value × Value)}(h:∀x∈L,x.1=some x.2/\bN 20 x.2=true)(g:LB P ops ko q tr s=L:=by kernel_rfl):pU P ops ko q tr s=true:=dh L g h
def cQ{k:IntKind}{b:Bool}(h:(i==j)=b):dj .eql (.int k i) (.int k j)=some (.bool b):=by unfold dj;simp only[ip];rw[h]
def aP{f:(Nq)->TL}{a:TL}(h:a=f (λj=>a.getD j undef)):∃x,a=f x:=⟨_,h⟩
section
variable {c:km}{a:TL}
def wm{r:Aq}{d:TypeDesc}(e:o.op=.load t x)(k:P.underlying t=some d)(g:d.isRow=true)(f:cH P t=some n)(l:a.at x=aF b off)(j:s.get b=some (.cells cs ty fz))(h:off+n<=cs.size)(i:(cs.toList.drop off |>.take n).toArray=r):bS P kt c a o s=some (.agg r,s):=by unfold bS;rw[iw (by rw[e];simp[gW]),e];simp only;unfold bA;rw[l];simp only[aF,j,k,g,f,if_true];rw[ip h,i]
theorem wj(U:o.op=.convert t u x)(b:cW P a o=none)(h:gm P t u (a.at x) s=some v):bS P kt c a o s=some (v,s):=by unfold bS;rw[iw (by rw[U];simp[gW])];grind
theorem VL{x:Value}(c:x=aF b 0)(U:P.underlying t=some (.pointer e))(a:P.underlying u=some .unsafePointer)(f:s.get b=some (.cells cs ty fz))(g:cH P e=some (k+1))(d:0<cs.size):gm P t u x s=some (aF b 0):=by subst c;unfold gm;rw[U,a];simp only[aF];grind
theorem VM{x:Value}(c:x=aF b 0)(U:P.underlying t=some .unsafePointer)(a:P.underlying u=some (.pointer e))(f:s.get b=some (.cells cs ty (0,0)))(g:cH P e=some (k+1))(d:liesAt P P.depth ty (cs.size / P.cellsOf ty) 0 e 1=true):gm P t u x s=some (aF b 0):=by subst c;unfold gm;rw[U,a];simp only[aF];grind
theorem PH{z}(U:o.op=.binOp .neq t x y z)(f:a.at x=aF b 0)(g:a.at y=aF b 0)(d:P.underlying t=some (.pointer e))(h:cH P e=some (k+1)):bS P kt c a o s=some (.bool false,s):=by
 refine fe (by rw[U];rfl) gq ?_;unfold cW;rw[U];simp only;rw[f,g];have h1:dj .neq (aF b 0) (aF b 0)=none:=Y;have h2:oK P .neq t (aF b 0) (aF b 0)=some (.bool false):=by unfold oK;simp only[aF,d];rw[h];simp
 rw[h1,h2]
theorem Aw(U:o.op=.call { callee:=.builtin .append,args:=#[x,y],argTypes:=#[t,t'] })(l:a.at x=sl)(n:a.at y=str m)(k:P.underlying t=some (.slice e))(d:P.underlying t'=some .string)(hi:(P.info? e).map (λi=>(i.zero,i.size,i.bytes))=some (some<|Value.int .u8 0,1,1))(b:kt e=false)(f:m.length<=1000000000)(g:kD sl=true)(h:cf P e sl (strCells ⟨m.toArray⟩) m.length s=some (v,s')):bS P kt c a o s=some (v,s'):=by
 have j:cW P a o=none:=by unfold cW;rw[U]
 unfold bS;rw[iw (by rw[U];simp[gW])];rw[U];simp only;rw[j];simp only[yB,List.map_nil];rw[l,n];unfold gC;simp only;rw[k,d];simp only;rw[hi];simp only;rw[ip ⟨by show m.toArray.size<=_;simpa using f,b,g⟩];show cf P e sl (strCells ⟨m.toArray⟩) m.toArray.size s=_;grind
def BE(h:sl=.slice none 0 0\/∃d n k,sl=.slice (sq d) n k):cf P e sl news 0 s=some (sl,s):=by
 rcases h with rfl|⟨d,n,k,rfl⟩
 .rfl
 .rfl
def oG{m:Nat}(h:m≠0):cf P e (.slice none 0 0) news m s=some (.slice (sq s.nx) m m,s.add<|.cells news.toArray e (1,1)):=by unfold cf;simp only;rw[iw h]
theorem ry{m:Nat}(h:m≠0)(b:s.get d=some (.cells cs e fz))(c:cH P e=some sz)(a:n*sz<=cs.size)(U:n+m<=1000000000):cf P e (.slice (sq d) n k) news m s=some (.slice (sq s.nx) (n+m)<|n+m,(s.set d none).add<|.cells (cs.toList.take (n*sz)++news).toArray e (1,1)):=by unfold cf;grind
def ye:∀(l:Bq),ju (l.map λb=>Value.int .u8 b.toNat)=some l
 | []=>rfl
 | b::l=>by rw[yB];unfold ju;have h:=b.toNat_lt;rw[ip ⟨oq,oq⟩,ye l];simp
def Md(f:o.op=.call { callee:=.builtin .unsafeString,args:=#[x,y],argTypes:=#[pt,t'] })(i:a.at x=aF d 0)(p:a.at y=num l.length)(n:P.underlying pt=some (.pointer e))(m:s.get d=some (.cells (strCells ⟨l.toArray⟩).toArray e fz))(j:P.cellsOf e=1)(q:0<l.length)(h1:l.length<=1000000000):bS P kt c a o s=some (str l,s.set d none):=by
 have k:cW P a o=none:=by unfold cW;rw[f];simp only;unfold uM;rw[f];rw[iw];intro h;have:((Op.call { callee:=.builtin .unsafeString,args:=#[x,y],argTypes:=#[pt,t'] }).operands.toList.all λx=>qL<|a.at x)=(qL (a.at x)&&(qL (a.at y)&&true)):=Y;rw[this,i] at h;simp[qL,fs,aF] at h
 have g:(strCells ⟨l.toArray⟩).toArray.size=l.length:=by simp[strCells]
 unfold bS;rw[iw (by rw[f];simp[gW])];rw[f];simp only;rw[k];simp only[yB,List.map_nil];rw[i,p];unfold gC;simp only[aF];rw[n,m];simp only;rw[ip ⟨j,trivial,oq,oq,by rw[g];simp⟩];have:(List.take ((l.length:Int)).toNat (strCells ⟨l.toArray⟩).toArray.toList)=l.map λb=>Value.int .u8 b.toNat:=by rw[Iu];show List.take l.length (l.map λb=>Value.int .u8 b.toNat)=_;rw[tL iq]
 rw[this,ye]
end
def VF (p u:Value):Obj:=.cells #[p,u] 119
variable {Bb:Nat}{rl:Hq}
section
variable {i:ι}{M:World->Nat->Prop}{O:Nat->Prop}{N0:Nat}{Rb at_:Nat}{u lv:Value}
def vf(x:Option Addr)(n c:Nat)(w:World)(es:Array Event):(Builtin.len_ #[55] 3 #[.slice x n c]).events prog w es=es:=by simp[Builtin.len_,go_sem]
end
section
variable (x:Option Addr)
def ve(n c:Nat)(w:World)(es:Array Event):(Builtin.cap_ #[55] 3 #[.slice x n c]).events prog w es=es:=by simp[Builtin.cap_,go_sem]
def Ad(n c:Nat)(w:World)(es:Array Event):(Instr.sliceAt 55 (.slice x n c) none (some<|.int .i64 0) none).events prog w es=es:=by
 have a:(prog.info? 5).isSome=true:=kq
 have⟨b,a⟩:=Option.isSome_iff_exists.1 a;simp[Instr.sliceAt,Instr.slice,Instr.sliceBounds,Instr.sliceBound,underlying,underlying55,asIntOf,sizeOf,typeInfo,a]
def rM(c:Nat)(w:World)(es:Array Event):(Builtin.copy_ #[55,55] 3 #[.slice x 0 c,.slice none 0 0]).events prog w es=es:=by
 have a:(prog.info? 5).isSome=true:=kq
 have⟨b,a⟩:=Option.isSome_iff_exists.1 a;cases x<;>simp[Builtin.copy_,underlying,underlying55,sizeOf,typeInfo,a,Builtin.lenOf,Builtin.firstCells,storeCells]
end
def Ei(w:World)(ps:Array TypeId)(t e:TypeId)(f:P.underlying t=some (.slice e))(n:Nat)(h:n<=281474976710656)(es:Array Event):∃c,(Extern.BytealgMakeNoZero.makeNoZero ps #[t] #[.int .i64 n]).events P w es=es++c/\∀g∈c,g=⟨.mark .noRoom,false,true⟩:=by
 have b:Extern.BytealgMakeNoZero.makeNoZero ps #[t] #[.int .i64 n] =
   (do
    let .slice elem <-underlying t|stuck _
    if (n:Int)<0||(n:Int)>2 ^ 48 then runtimePanic (.error _)
    let cap <-choose (.appendCap (n:Int).toNat 0 elem)
    askRoom cap
    let bytes <-choose (.extern _ 0)
    let a <-newRow elem (Extern.BytealgMakeNoZero.digits cap bytes #[])
    pure (.slice (some a) (n:Int).toNat cap)):=Y;have h1:¬(n:Int)<0:=oq
 have h2:¬(281474976710656:Int)<(n:Int):=oq
 by_cases d:grownCap w n 0 e>roomBytes
 .refine⟨#[⟨.mark .noRoom,false,true⟩],?_,iq⟩;rw[b];simp[h1,h2,Question.forced,newRow,askRoom,underlying,f];simpa[grownCap] using d
 .refine⟨#[],?_,iq⟩;rw[b];simp[h1,h2,Question.forced,newRow,askRoom,underlying,f];simpa[grownCap] using d
variable {H:Hq->World->Prop}
section
variable {i:ι}{M:World->Nat->Prop}{O:Nat->Prop}{N0:Nat}{l:Hq}
variable {Q:fO ι}{a:Act}{vs:ι}
theorem IJ(C:cC prog true R D X)(Z:Co dt N0 M O (R vs) (D vs) H){i:Nat}{f:List Nat}{o:Oper}{ats:Array TypeId}{z:Int}(n:Nat)(hn:n<=1000000000)(N:ops[i]?=some o)(S:Region.wanted o (yielded ops a.tmps)=true)(B:o.op=.call { callee:=.value<|.func 378,args:=#[x],argTypes:=ats })(T:a.eval x=.int .i64 z)(W:z=(n:Int))(F:H l w)
 (h:∀b p v,n<=p.size->p.size<=maxLen->H ((b,.cells p 5)::l) v->cM X fn ops f vs Q (a.put o.dst<|.slice (sq b) n p.size) v):cM X fn ops (i::f) vs Q a w:=λb k p A t I=>C.step rfl λc s=>by
 subst W;have U:=Z.rely F s;have j:H l c.drew.drew:=Z.rely (Z.rely U<|Z.env.xZ _)<|Z.env.xZ _;have⟨g,r,h1,h2,_⟩:=Lib.run_makeNoZero_cap (P:=prog) c #[3] 55 5 underlying55 n oq;have⟨evs,J,d⟩:=Ei (P:=prog) c #[3] 55 5 underlying55 n oq #[⟨.mark<|.extern 378,false,true⟩];have m:(#[x]:Array Operand).map a.eval=#[.int .i64 (n:Int)]:=by simp[T]
 rw[stepG_entry N S t B func378 rq rq kq (e:=Extern.BytealgMakeNoZero.makeNoZero #[3] #[55]) kq (by rw[m];exact r) (evs:=evs) gq (λy V=>by rw[d y V];simp)];have q:Own dt M c.drew.drew (c.drew.drew.alloc<|.cells g 5):=ec (by simp[dt]);have u:Own dt M c (c.drew.drew.alloc<|.cells g 5):=⟨q.tape,q.os,q.output,q.grow,λb G hm=>heap_alloc_old c.drew.drew _ b G,λb Y K t=>(q.kt b Y K t)⟩;refine⟨Z.env.jb (Z.size U) u λE L=>?_,h _ g _ h1 (h2<|by unfold maxLen;omega) (Z.grown j q) b k p A t I⟩;rw[d E L];exact .inr<|.inr ⟨by simp[MemAct.ofEvent,MemAct.touch?],iq,iq,by simp[MemAct.ofEvent]⟩
end
section
variable {i:ι}{M:World->Nat->Prop}{O:Nat->Prop}{N0:Nat}{l:Hq}
theorem SP(C:cC prog true R D X)(T:∀i,Terms (R i)<|D i)(Z:Co dt N0 M O (R i) (D i) H)(n:Nat)(F:n<=1000000000)(a:H ((Bb,VF p<|.slice none 0 0)::l) w) :
  fx prog X 344 #[.pointer (sq Bb),.int .i64 (n:Int)] i w (λI x k=>I=i/\x=.tuple #[]/\∃g cs,n<=cs.size/\cs.size<=maxLen/\H ((g,.cells cs 5)::(Bb,VF p<|.slice (sq g) 0 cs.size)::l) k):=by
 have N:=underlying9;have G:IntKind.i64.wrap (n:Int)=(n:Int):=by rw[IntKind.wrap_i64];omega
 have L:IntKind.i64.wrap 0=0:=dq
 refine iu func344 rq Y ?_;simp only[ntmps344,bZ,Nat.reduceAdd,Nat.reduceSub];refine bY C T<|oe C Z.env.F7 kq (n:=16) Y kq (λJ s r k=>s=i/\∃(g:Nat) (cs:Aq),H ((Bb,VF p<|.slice none 0 0)::(if J 8=true then (g,.cells cs 5)::l else l)) k/\(J 8=true->n<=cs.size/\cs.size<=maxLen)/\((J 14=true->J 8=true))/\((J 15=true->J 8=true))/\r=⟨#[.pointer (sq Bb),.int .i64 (n:Int),undef,undef,(if J 15=true then .slice (sq g) 0 cs.size else undef),(if J 0=true then .pointer (sq Bb) else undef),(if J 1=true then .pointer (sq Bb) else undef),(if J 2=true then .pointer (some ⟨Bb,1,none⟩) else undef),(if J 3=true then .slice none 0 0 else undef),(if J 4=true then .int .i64 0 else undef),(if J 5=true then .int .i64 0 else undef),(if J 6=true then .int .i64 (n:Int) else undef),(if J 7=true then .int .i64 (n:Int) else undef),(if J 8=true then .slice (sq g) n cs.size else undef),(if J 9=true then .pointer (sq Bb) else undef),(if J 10=true then .pointer (sq Bb) else undef),(if J 11=true then .pointer (some ⟨Bb,1,none⟩) else undef),(if J 12=true then .slice none 0 0 else undef),(if J 13=true then .int .i64 0 else undef),(if J 14=true then .slice (sq g) 0 cs.size else undef),undef,undef,undef,undef,undef,undef,undef,undef,undef,undef],[]⟩) (λu B=>⟨Y,0,#[],?_,iq,iq,iq,Y⟩) ?_ ?_ ?_
 .simpa using Z.rely (Z.rely a B) (Z.env.xZ _)
 .rintro J K s r k U ⟨rfl,g,cs,a,f,o,q,rfl⟩;simp only[U 0 dq,U 1 dq,U 2 dq,U 3 dq,U 4 dq,U 5 dq,U 6 dq,U 7 dq,U 8 dq,U 9 dq,U 10 dq,U 11 dq,U 12 dq,U 13 dq,U 14 dq,U 15 dq] at a f o q;refine⟨Y,g,cs,a,f,o,q,?_⟩;simp only[U 0 dq,U 1 dq,U 2 dq,U 3 dq,U 4 dq,U 5 dq,U 6 dq,U 7 dq,U 8 dq,U 9 dq,U 10 dq,U 11 dq,U 12 dq,U 13 dq,U 14 dq,U 15 dq]
 .rintro J j s r k ⟨rfl,g,cs,a,f,o,q,rfl⟩ E U c t A;match j,E with
  | 0,_|1,_|2,_|4,_|5,_|6,_|7,_|9,_|10,_|11,_|13,_|14,_|15,_=>
   have c:=c _ Y;simp[Region.binds] at c;try simp only[c,if_true,reduceIte]
   refine dD C T Y rq λ_ e d=>?_;go_simp;refine d _ ?_ (by first|(simp[go_sem];done)|(simp[go_sem, *];done)|(simp[go_sem,kL,kM,kN,iW,n8,vf,ve,Ad,rM, *];done));clear d e;grind
  | 3,_|12,_=>
   have c:=c _ Y;simp[Region.binds] at c;try simp only[c,if_true,reduceIte]
   refine jc C Z (v:=.slice none 0 0) (b:=Bb) (off:=1) 0 Y rq Y (by simp[Act.eval, *]) underlying55 Y a Y rq λ_ a=>?_;try walk_nrm
   grind
  | 8,_=>
   have c:=c _ Y;simp[Region.binds] at c;try simp only[c,if_true,reduceIte]
   have y:J 14=false:=gq
   have z:J 15=false:=gq
   simp only[U,j6,if_false,reduceIte] at a;refine IJ C Z n F Y rq Y (by simp[Act.eval, *]) Y a λg cs P h1 h2 a=>?_;try walk_nrm
   refine A _ _ _ ⟨Y,g,cs,by simpa using Z.perm a (List.Perm.swap _ _ _),λ_=>⟨h1,h2⟩,by simp[y],by simp[z],?_⟩;simp[*]
  | m+16,h=>exact absurd h oq
 .rintro J s r k U ⟨rfl,g,cs,a,f,o,q,rfl⟩;simp only[U 0 dq,U 1 dq,U 2 dq,U 3 dq,U 4 dq,U 5 dq,U 6 dq,U 7 dq,U 8 dq,U 9 dq,U 10 dq,U 11 dq,U 12 dq,U 13 dq,U 14 dq,U 15 dq,if_true,reduceIte,true_implies,forall_const] at a f o q |-;refine bv C T ?_;show il _ _ _ _ _ _ _;refine bY C T<|aW C T ?_;simp only[iB,Nat.reduceAdd];iterate 4
   refine dD C T Y rq λ_ e d=>?_
   go_simp
   refine d _ ?_<|by first|(simp[go_sem];done)|(simp[go_sem, *];done)|(simp[go_sem,kL,kM,kN,iW,n8,vf,ve,Ad,rM, *];done)
   clear d e
   try walk_nrm
  refine jc C (Z) (v:=.slice none 0 0) 0 Y rq Y rq underlying55 Y a Y rq λ_ a=>?_;try walk_nrm
  refine dD C T Y rq λ_ e d=>?_;go_simp;refine d _ ?_ (by first|(simp[go_sem];done)|(simp[go_sem, *];done)|(simp[go_sem,kL,kM,kN,iW,n8,vf,ve,Ad,rM, *];done));clear d e;try walk_nrm
  refine bv C T ?_;show il _ _ _ _ _ _ _;refine aW C T ?_;simp only[iB,Nat.reduceAdd];iterate 4
   refine dD C T Y rq λ_ e d=>?_
   go_simp
   refine d _ ?_<|by first|(simp[go_sem];done)|(simp[go_sem, *];done)|(simp[go_sem,kL,kM,kN,iW,n8,vf,ve,Ad,rM, *];done)
   clear d e
   try walk_nrm
  refine uC C (Z) (cs:=[.slice (sq g) 0 cs.size]) (cur':=#[p,.slice (sq g) 0 cs.size]) 0 Y rq Y rq rq rq (by simp[Value.oneCell']) (by simp[dt]) a Y gq (by first|rfl|(simp[putAt];done)) λ_ a=>?_;simp only[List.set_cons_zero,List.set_cons_succ,List.set] at a;try walk_nrm
  exact bv C T ⟨.inl Y,Y,_,resultsC_none rq _,Y,Y,g,cs,f.1,f.2,Z.perm a<|List.Perm.swap _ _ _⟩
end
def qb{ι:Type}{X:ι->Gq}{c:Code}{vs:ι}{Q:fO ι}{a:Act}{f:(Nq)->Act}(h:f (λi=>a.tmps.getD i undef)=a)(k:∀x,il X fn c vs Q (f x) w):il X fn c vs Q a w:=h▸k _
def Ib(s:ByteArray)(c:Int)(w:World)(es:Array Event):(Extern.BytealgCount.count #[.string s,.int .u8 c]).events prog w es=es:=by
 change Sem.events prog (do
  let b <-Extern.Bytes.bytesOf (.string s)
  let c' <-Extern.Bytes.asByte (.int .u8 c)
  pure (goInt<|b.foldl (λn x=>if x==c' then n+1 else n) (0:Nat))) w es=_;simp only[Extern.Bytes.bytesOf,Extern.Bytes.asByte,Sem.events_bind,Sem.run_pure,Sem.events_pure,Result.evThen_ok]
def OD (s:ByteArray)(c:Int):Int:=(Lib.countByte s.data.toList c.toNat.toUInt8:Nat)
theorem OE(s:ByteArray)(c:UInt8):QM prog 343 #[.string s,.string ⟨#[c]⟩] (.int .i64<|OD s c.toNat):=by
 intro g R D X C T i w;have f:=underlying9;have h1:(⟨#[c]⟩:ByteArray).size=1:=Y;refine iu func343 rq Y ?_;simp only[ntmps343,bZ,Nat.reduceAdd,Nat.reduceSub];refine bY C T<|aW C T ?_;simp only[iB,Nat.reduceAdd];refine dD C T Y rq λ_ a U=>?_;go_simp;refine U _ ?_ (by first|(simp[go_sem];done)|(simp[go_sem, *];done)|(simp[go_sem,kL,kM,kN,iW,n8, *];done));clear U a;try walk_nrm
 refine bv C T ?_;show il _ _ _ _ _ _ _;iterate 2 refine bY C T ?_
 refine aW C T ?_;simp only[iB,Nat.reduceAdd];iterate 3
  refine dD C T Y rq λ_ a U=>?_
  go_simp
  refine U _ ?_<|by first|(simp[go_sem];done)|(simp[go_sem, *];done)|(simp[go_sem,kL,kM,kN,iW,n8, *];done)
  clear U a
  try walk_nrm
 refine bv C T ?_;show il _ _ _ _ _ _ _;refine zh C T Y (λb=>?_)<|λb=>?_
 .grind
 .
  try simp only[b]
  try simp only[VI,beq_iff_eq,bF,bne_iff_ne,bne_eq_false_iff_eq] at b
  refine kI C T ?_;show il _ _ _ _ _ _ _;iterate 2 refine bY C T ?_
  refine aW C T ?_;simp only[iB,Nat.reduceAdd];iterate 3
   refine dD C T Y rq λ_ a U=>?_
   go_simp
   refine U _ ?_<|by first|(simp[go_sem];done)|(simp[go_sem, *];done)|(simp[go_sem,kL,kM,kN,iW,n8, *];done)
   clear U a
   try walk_nrm
  refine bv C T ?_;show il _ _ _ _ _ _ _;refine zh C T Y (λb=>?_)<|λb=>?_
  .
   try simp only[b]
   try simp only[VI,beq_iff_eq,bF,bne_iff_ne,bne_eq_false_iff_eq] at b
   refine bY C T<|aW C T ?_;simp only[iB,Nat.reduceAdd];iterate 3
    refine dD C T Y rq λ_ a U=>?_
    go_simp
    refine U _ ?_<|by first|(simp[go_sem];done)|(simp[go_sem, *];done)|(simp[go_sem,kL,kM,kN,iW,n8, *];done)
    clear U a
    try walk_nrm
   try simp only[show((⟨#[c]⟩:ByteArray)[0]).toNat=c.toNat from Y]
   refine qQ C T Y rq Y func377 rq rq kq (e:=Extern.BytealgCount.count) kq (x:=.int .i64<|OD s c.toNat) (args':=#[.string s,.int .u8 c.toNat]) (by simp[Act.eval]) (λw=>Lib.run_countString s c.toNat w) (λw d=>Ib s c.toNat w d) ?_;try walk_nrm
   refine dD C T Y rq λ_ a U=>?_;go_simp;refine U _ ?_ (by first|(simp[go_sem];done)|(simp[go_sem, *];done)|(simp[go_sem,kL,kM,kN,iW,n8, *];done));clear U a;try walk_nrm
   refine bv C T ?_;show il _ _ _ _ _ _ _;refine qc C T ⟨.inr Y,Y,_,resultsC_tmp rq _,Y,?_,Y⟩;simp
  .grind
section
variable {KT:TypeId->Prop}{N0:ι->Nat}{M:ι->World->Nat->Prop}{O:ι->Nat->Prop}
def Sound.same(Y:Cy P KT N0 M O R D X Hd)(p:fs v=true)(h:∀S l c i w a,gh P KT An S s l->Hd i (l++c) w->AR (VR S) args a->fx P X f a i w (λe x g=>x=v/\Hd e (l++c) g)):Sound P KT An R D X Hd f args s v s:=by intro S l c i w a d m k o;refine(h S l c i w a d m k).toE Y.C Y.T ?_;rintro e x g j ⟨rfl,b⟩ n;exact⟨S,l,aR S,λ_ _=>I,d,(Y.Z b).rely b n,bn p⟩
theorem AR.sc{a b:Aq}(h:AR (VR S) a b)(U:a.toList.all fs=true):b=a:=by
 apply vp.1;apply List.ext_getElem?;intro i;rw[Array.getElem?_toList,Array.getElem?_toList];by_cases c:i<a.size
 .have h1:a[i]?=some a[i]:=gF c;have h2:b[i]?=some (b[i]'(by rw[<-h.1];exact c)):=gF _;rw[h1,h2];rw[aT] at U;rw[(h.2 i _ _ h1 h2).sc (U _ iq)]
 .have h2:¬i<b.size:=by rw[<-h.1];exact c
  grind
def vZ{i:ι}{Post a:ι->Value->World->Prop}(h:fx P X f args i w Post)(g:∀i v w,Post i v w->a i v w):fx P X f args i w a:=by have⟨b,c,h1,h2,h3,d⟩:=h;exact⟨b,c,h1,h2,h3,lK d λo e n p ⟨j,k,v,l,m⟩=>⟨j,k,v,l,g _ _ _ m⟩⟩
end
def mw (c:Nat):Bq->Nat->Int
 | [],_ => -1
 | b::l,k=>if b.toNat.beq c then (k:Int) else mw c l (k+1)
def D8 (c:Nat):Bq->Nat->Nat
 | [],k=>k
 | b::l,k=>if b.toNat.beq c then D8 c l (k+1) else D8 c l k
def oH(b u:UInt8):b.toNat.beq u.toNat=(b==u):=by
 by_cases h:b=u
 .subst h;simp
 .have:b.toNat≠u.toNat:=λe=>h<|UInt8.toNat_inj.1 e;rw[show(b==u)=false by simp[h]];exact Bool.eq_false_iff.2 λe=>this<|ja e
theorem Gu(u:UInt8):∀(l:Bq) (k:Nat),mw u.toNat l k=if indexByte l u = -1 then -1 else indexByte l u+k
 | [],k=>by simp[mw,indexByte]
 | b::l,k=>by
  unfold mw indexByte;rw[oH];by_cases U:(b==u)=true
  .simp[U]
  .have a0:=indexByte_ge l u;simp only[U,if_false,j6];rw[Gu u l (k+1)];grind
theorem FX(u:UInt8):∀(l:Bq) (k:Nat),D8 u.toNat l k=countByte l u+k
 | [],k=>by simp[D8,countByte]
 | b::l,k=>by
  unfold D8;rw[oH]
  have:=FX u l;unfold countByte at this |-;grind
def GK:prog.funcs.size=416:=kq
theorem HD{p:Func->Bool}(h:(List.range n).all (λg=>(P.funcs[g]?).all p)=true)(a:P.funcs.size=n){aY:Func}(U:P.funcs[g]?=some aY):p aY=true:=gq
def LX(aY:Func):Bool:=!(aY.name == "runtime.NumGoroutine")
def Px:(List.range 416).all (λg=>(prog.funcs[g]?).all LX)=true:=kq
def cL:∀ (f:FuncId) (aY:Func),prog.funcs[f]?=some aY->(aY.name == "runtime.NumGoroutine")=false:=by intro g aY hf;have h:=HD Px GK hf;unfold LX at h;simpa using h
def Ul(x:Bq)(v:Value)(n i:Nat)(r:Nq):TL:=[str x,v,r 2,r 3,.bool false,r 5,r 6,v,num n,num i,r 10,r 11,r 12,r 13,r 14,r 15,r 16]
theorem W1{x:Bq}{xs:List (Bq)}{y:Option Addr}(F:pr 127=none)(U:eH s 1 y n=some (xs.map str))(H:n<=1000000):EF prog kt pr 127 #[str x,.slice y n c] s (.bool<|xs.any λz=>ce x z) s:=by
 have q:xs.length=n/\∀k z,xs[k]?=some z->∃b o p,y=some ⟨b,o,p⟩/\∃d g f,s.get b=some (.cells d g f)/\d[o+k]?=some (str z):=by
  unfold eH at U;split at U
  .split at U
   .next h=>cases xs with
    | nil=>exact⟨h.symm,λk z B=>by simp at B⟩
    | cons z xs=>cases U
   .cases U
  .next b o p =>
   split at U
   .next d g f A =>
    split at U
    .next E =>simp only[Option.some.injEq,Nat.mul_one] at U;have B:=congrArg List.length U;simp at B;refine⟨oq,λk z C=>⟨b,o,p,Y,d,g,f,A,?_⟩⟩;have h1:=congrArg (λl=>l[k]?) U;grind
    .cases U
   .cases U
 have⟨E,q⟩:=q;clear U;refine aQ F func127 Y<|am<|cu 5 kq<|am<|am<|cu 5 kq<|aD<|aZ (λm a D=>D=s/\∃i,i+m=n/\((xs.drop i).any λz=>ce x z)=(xs.any λz=>ce x z)/\∃r,a=Ul x (.slice y n c) n i r) ?_ n _ _ ⟨kq,0,oq,Y,aP kq⟩;rintro m a D ⟨rfl,i,G,e,r,rfl⟩;refine am<|eB kq ?_;cases m with
 | zero =>refine bV kq (aI (u:=num i) (w:=num n) Y kq kq<|cj (b:=false)<|fD oq)<|aB<|am<|m8 5 (.exit 0) kq<|am<|cu 5 kq<|aE ⟨.inr Y,?_,kq⟩;rw[<-e,List.drop_of_length_le oq];kernel_rfl
 | succ m =>
  have C:xs[i]?=some xs[i]:=gE oq;obtain⟨b,o,p,rfl,d,g,f,A,I⟩:=q i _ C;rw[List.drop_eq_getElem_cons oq,List.any_cons] at e;refine bV kq (aI (u:=num i) (w:=num n) Y kq kq<|cj (b:=true)<|tD oq)<|aB<|am<|cu 5 kq<|am<|aD<|am<|eB kq<|bV kq (GQ (j:=i) (b:=b) (off:=o) (n:=n) (cp:=c) (sp:=p) (k:=.i64) (sz:=1) Y underlying62 kq kq kq oq oq)<|bV kq (me (b:=b) (off:=o+(i:Int).toNat*1) (v:=str xs[i]) Y underlying9 Y kq A gq)<|EO.fin 5 kq<|am<|cu 5 kq<|EW.cond (b:=ce x xs[i]) kq (λt=>?_)<|λt=>?_
  .refine m8 5 .ret kq ⟨.inr Y,?_,kq⟩;rw[<-e,t];kernel_rfl
  .rw[t,Bool.false_or] at e;exact cu 5 kq<|eB kq<|bV kq (dV (i:=i) (j:=1) (r:=((i+1:Nat):Int)) Y kq kq oq oq)<|EO.fin 5 kq ⟨m,oq,kq,i+1,oq,e,aP kq⟩
def eL:Prim
 | 127=>some λargs s=>match args.toList with
  | [.string x,.slice y n _]=>match eH s 1 y n with
   | some l=>if n<=1000000/\(l.all λv=>match v with|.string _=>true|_=>false)=true then some (.bool<|l.any λv=>match v with|.string z=>ce x.data.toList z.data.toList|_=>false,s) else none
   | none=>none
  | _=>none
 | 373=>some λargs s=>match args.toList with
  | [.string x,.int .u8 c]=>some (.int .i64<|mw (c.toNat % 256) x.data.toList 0,s)
  | _=>none
 | 343=>some λargs s=>match args.toList with
  | [.string x,.string y]=>match y.data.toList with
   | [c]=>some (.int .i64<|D8 c.toNat x.data.toList 0,s)
   | _=>none
  | _=>none
 | 344=>some λargs s=>match args.toList with
  | [.pointer (some ⟨b,0,none⟩),.int .i64 n]=>match s.get b with
   | some (.cells cs 119 (0,0))=>match cs.toList with
    | [p,.slice none 0 0]=>if 0<=n/\n<=1000000000 then some (.tuple #[],(s.set b<|some<|.cells #[p,.slice (some ⟨s.nx,0,none⟩) 0 0] 119 (0,0)).add<|.cells #[] 5 (1,1)) else none
    | _=>none
   | _=>none
  | _=>none
 | _=>none
theorem sg{g:Aq->AS->Option (Value × AS)}(h:eL f=some g):f=127\/f=373\/f=343\/f=344:=by unfold eL at h;grind
theorem yL:∀f g a s v b,eL f=some g->g a s=some (v,b)->s.nx<=b.nx:=by
 intro f g a s v b U h;rcases sg U with rfl|rfl|rfl|rfl
 iterate 3
  .cases U;grind
 .cases U;simp only at h;split at h
  .split at h
   .split at h
    .split at h
     .cases h;simp
     .cases h
    .cases h
   .cases h
  .cases h
section
variable {N0:ι->Nat}{M:ι->World->Nat->Prop}{O:ι->Nat->Prop}
theorem rZ{x y:Value}(h:args.toList=[x,y]):args=#[x,y]:=gq
def Lu(Y:Cy prog dt N0 M O R D X Hd){x:ByteArray}{y:Option Addr}(hc:eH s 1 y n=some l0)(hn:n<=1000000)(mv:(l0.all λv=>match v with|.string _=>true|_=>false)=true) :
  Sound prog dt An R D X Hd 127 #[.string x,.slice y n c] s (.bool<|l0.any λv=>match v with|.string z=>ce x.data.toList z.data.toList|_=>false) s:=by
 obtain⟨xs,rfl⟩:∃xs:List (Bq),l0=xs.map str:=by
  clear hc;induction l0 with
  | nil=>exact⟨[],I⟩
  | cons v l0 ih =>
   simp only[List.all_cons,vy] at mv;obtain⟨xs,rfl⟩:=ih mv.2;cases v with
   | string z=>exact⟨z.data.toList::xs,I⟩
   | _=>simp at mv
 have⟨m,hm⟩:=W1 (kt:=λ_=>true) (pr:=λ_=>none) (x:=x.data.toList) (c:=c) I hc hn;rw[List.any_map];exact(kr Y kq (λ_ h=>by cases h) ⟨λ_ _ _ _ _ _ h=>(by cases h),λ_ _ _ _ _ _ h=>(by cases h)⟩ cL m).2 _ _ _ _ _ hm
def gh.same{KT:TypeId->Prop}{l:Hq}(h:gh P KT An S s l)(a:∀b,s'.get b=s.get b)(c:s'.nx=s.nx):gh P KT An S s' l where
 live b o hb:=h.live b o (a b▸hb)
 inj b b' o o' x x' hb tv:=h.inj b b' o o' x x' (a b▸hb) (a b'▸tv)
 lt b o hb:=c▸h.lt b o (a b▸hb)
 an:=h.an
theorem Eo(Y:Cy prog dt N0 M O R D X Hd){n:Int}(hb:s.get b=some (.cells cs 119 (0,0)))(Es:cs.toList=[p,.slice none 0 0])(hn:0<=n/\n<=1000000000) :
  Sound prog dt An R D X Hd 344 #[.pointer (sq b),.int .i64 n] s (.tuple #[]) ((s.set b<|some<|.cells #[p,.slice (sq s.nx) 0 0] 119 (0,0)).add<|.cells #[] 5 (1,1)):=by
 intro S l fr i w args' hS hF hA oy;obtain rfl:cs=#[p,.slice none 0 0]:=gq
 obtain⟨a0,a1,rfl,h0,h1⟩:∃a0 a1,args'=#[a0,a1]/\VR S (.pointer<|sq b) a0/\VR S (.int .i64 n) a1:=by have uN:=hA.1;simp at uN;refine⟨args'[0]' oq,args'[1]' oq,?_,hA.2 0 _ _ I<|gF<|oq,hA.2 1 _ _ I<|gF<|oq⟩;grind
 have h1:=h1.sc I;subst h1;have⟨d,hd⟩:=h0;cases d with
 | zero=>exact hd.elim
 | succ d =>
  unfold VD at hd;obtain⟨g,z,e,hg,rfl⟩:=hd;have⟨k,o',hk,iX,O7,Ip,Is⟩:=hS.at (fr:=fr) hb hg;unfold OR at Ip;obtain⟨uo,rfl,hz,⟨hz1,hz2⟩,hv⟩:=Ip;have hz3:=hz2 I;simp at hz3;obtain⟨p',u',rfl⟩:∃p' u',uo=#[p',u']:=by refine⟨uo[0]' oq,uo[1]' oq,?_⟩;grind
  have hu:=(hv 1 _ _ I I).sc I;subst hu;have Z:=Y.Z hF;obtain⟨m,rfl⟩:∃m:Nat,n=(m:Int):=⟨n.toNat,oq⟩;refine(SP Y.C Y.T Z m oq<|Z.front hF k O7).toE Y.C Y.T ?_;rintro i' x w' aL ⟨rfl,rfl,g2,xo,Q5,Tc,Zt⟩ hR;have hF3:=Z.rely Zt hR;have hnd:=Z.nodup hF;have Z3:(l.map Prod.fst).Nodup:=gq
  have hs0:S s.nx=none:=oy _ lr iq;have ZS:k<(l++fr).length:=by simp;omega
  have Wr:=List.eraseIdx_append_of_lt_length iX fr;have hgl:∀o,(g2,o)∉l:=by
   intro o ho;have Tl:=Z.nodup hF3;rw[Wr] at Tl;simp only[yB,List.nodup_cons,Dy,pS,List.mem_append,not_or] at Tl;by_cases hgg:g2=g
   .exact Tl.1.1 hgg
   .apply Tl.1.2.1;have⟨q,hq⟩:=List.mem_iff_getElem?.1 ho;have hqk:q≠k:=gq
    refine List.mem_map.2 ⟨(g2,o),?_,I⟩;rw[List.mem_eraseIdx_iff_getElem?];exact⟨q,hqk,hq⟩
  have Q4:gh prog dt An (S.put s.nx (g2,xo.size,1)) (s.add<|.cells #[] 5 (1,1)) ((g2,.cells xo 5)::l):=by
   refine hS.grown hs0 hgl ?_ ?_
   .unfold OR;grind
   .intro cs t fz h;cases h;exact⟨kq,by simp[dt]⟩
  have Dw:b≠s.nx:=gq
  have xq:(s.add<|.cells #[] 5 (1,1)).get b=some (.cells #[p,.slice none 0 0] 119 (0,0)):=by rw[AS.bu,iw Dw];exact hb
  have yr:=ew (S:=S) (x:=(g2,xo.size,1)) hs0;have Le:(((g2,Obj.cells xo 5)::l).map Prod.fst).Nodup:=gq
  have SY:=Q4.wY (k:=k+1) (Rp:=VF p'<|.slice (sq g2) 0 xo.size) (L0:=.cells #[p,.slice (sq s.nx) 0 0] 119 (0,0)) xq (yr _ _ hg) (by simpa using hk) Le (by
   unfold OR VF;refine⟨_,I,by simpa using hz,⟨by simp;omega,λ_=>by simp;omega⟩,?_⟩;intro j x y hx hy;match j with
   | 0=>simp at hx hy;subst hx hy;exact (hv 0 _ _ I I).mono yr
   | 1 =>simp at hx hy;subst hx hy;exact⟨1,g2,xo.size,1,xo.size,eF,I,oq,oq,oq,oq⟩
   | j+2=>simp at hx) (by
   intro cs t fz h;cases h;exact Is _ _ _ I);refine⟨_,_,yr,?_,(SY.same (λb'=>by
   rw[AS.bu,AS.aU,AS.aU,AS.bu];by_cases h1:b'=s.nx
   .subst h1;simp[Ne.symm Dw]
   .simp[h1]) I),?_,?_⟩
  .intro b' tv;unfold dQ.put;rw[iw];simp at tv;omega
  .simp only[List.set_cons_succ,List.cons_append];refine Z.perm hF3 ?_;rw[Wr];refine List.Perm.cons _ ?_;rw[<-List.cons_append];exact List.Perm.append_right _<|wy hk
  .exact⟨1,#[],I,I,λi x y hx=>by simp at hx⟩
theorem pV(Y:Cy prog dt N0 M O R D X Hd):cb prog dt An R D X Hd eL where
 nx:=yL
 sound f g args s v s' hf h:=by
  rcases sg hf with rfl|rfl|rfl|rfl
  .
   cases hf
   simp only at h
   split at h
   .
    next x y n c U =>
    rw[rZ U]
    split at h
    .
     next l A =>
     split at h
     .
      next q=>cases h;exact Lu Y A q.1 q.2
     .
      cases h
    .
     cases h
   .
    cases h
  .
   cases hf
   simp only at h
   split at h
   .
    next x c U =>
    rw[rZ U]
    cases h
    refine Sound.same Y I λS l t i w a u j d=>?_
    rw[d.sc I]
    have e:mw (c.toNat % 256) x.data.toList 0=Pd x c:=by
     have:=Gu c.toNat.toUInt8 x.data.toList 0
     rw[show c.toNat.toUInt8.toNat=c.toNat % 256 by simp] at this
     rw[this]
     unfold Pd
     grind
    rw[e]
    exact vZ (Ag x c _ _ _ _ Y.C Y.T i w) λE v F ⟨k,m,o⟩=>⟨m,by subst k;subst o;exact j⟩
   .
    cases h
  .
   cases hf
   simp only at h
   split at h
   .
    next x y U =>
    rw[rZ U]
    split at h
    .
     next c H =>
     cases h
     refine Sound.same Y I λS l t i w a u j d=>?_
     rw[d.sc I]
     obtain rfl:y=⟨#[c]⟩:=by
      have⟨y⟩:=y
      congr 1
      grind
     have e:(D8 c.toNat x.data.toList 0:Int)=OD x c.toNat:=by
      rw[FX]
      unfold OD
      simp
     rw[e]
     exact vZ (OE x c _ _ _ _ Y.C Y.T i w) λE v F ⟨k,m,o⟩=>⟨m,by subst k;subst o;exact j⟩
    .
     cases h
   .
    cases h
  .
   cases hf
   simp only at h
   split at h
   .
    next b n U =>
    rw[rZ U]
    split at h
    .
     next G z =>
     split at h
     .
      next p r =>
      split at h
      .
       next B=>cases h;exact Eo Y z r B
      .
       cases h
     .
      cases h
    .
     cases h
   .
    cases h
end
def Sy:List (ByteArray × Int × Bool):=[(⟨#[97,109,112]⟩,38,true),(⟨#[108,116]⟩,60,true),(⟨#[103,116]⟩,62,true),(⟨#[113,117,111,116]⟩,34,true),(⟨#[97,112,111,115]⟩,39,false),(⟨#[110,98,115,112]⟩,160,true),(⟨#[99,111,112,121]⟩,169,true),(⟨#[114,101,103]⟩,174,true),(⟨#[110,111,116]⟩,172,true),(⟨#[110,111,116,105,110]⟩,8713,false),(⟨#[101,97,99,117,116,101]⟩,233,true),(⟨#[101,117,109,108]⟩,235,true),(⟨#[101,117,114,111]⟩,8364,false),(⟨#[110,100,97,115,104]⟩,8211,false),(⟨#[109,100,97,115,104]⟩,8212,false),(⟨#[104,101,108,108,105,112]⟩,8230,false),(⟨#[108,97,114,114]⟩,8592,false),(⟨#[114,97,114,114]⟩,8594,false)]
def KW (x:ByteArray × Int × Bool):Vq:=[.string x.1,.int .i32 x.2.1,.bool x.2.2]
def eZ:Vq:=Sy.flatMap KW
def YA:Bq->Option (Int × Int)
 | 97::109::112::59::_=>some (38,4)
 | 108::116::59::_=>some (60,3)
 | 103::116::59::_=>some (62,3)
 | 113::117::111::116::59::_=>some (34,5)
 | _=>none
def kJ (t:TypeId):Bool:=t.beq 177||t.beq 179||(Nat.ble 1000 t&&(t-1000).beq kc)
abbrev Ef:=EF prog kJ
abbrev Ew:=EW prog kJ
def cx(t:TypeId)(h:kJ t=false):¬dt t:=by
 rintro(rfl|rfl|h')
 .cases h
 .cases h
 .subst h';rw[Nat.add_comm] at h;unfold kJ at h;simp only[Bool.or_eq_false_iff,Bool.and_eq_false_iff] at h;rcases h.2 with g|g
  .rw[Nat.ble_eq_true_of_le (Nat.le_add_right 1000 kc)] at g;cases g
  .rw[Nat.add_sub_cancel_left,Nat.beq_refl] at g;cases g
theorem GL:∀ g aY,lE prog (.func g)=true->prog.funcs[g]?=some aY->(aY.name == "runtime.NumGoroutine")=false/\Extern.findNext aY=none/\Extern.find aY=some Extern.AbiNoEscape.same:=by
 intro g aY h hf;have hg:g<416:=by rw[<-GK]; exact(oa.1 hf).1
 have:(List.range 416).all (λg=>!(lE prog<|.func g)||g.beq 330)=true:=kq;rw[aT] at this
 have:=this g<|List.mem_range.2 hg;rw[h] at this;have e:g=330:=ja gq;subst e;rw[func330] at hf;cases hf;exact⟨rq,kq,kq⟩
def yd(l:Vq):Bool:=(mV l 0).beq (mV eZ 0)&&(l.zip eZ).all λp=>qz 3 p.1 p.2
def vJ{l:Vq}(h:yd l=true):l=eZ:=by unfold yd at h;simp only[vy,kg,Nat.zero_add] at h;exact sP _ _ (ja h.1) h.2 λp a=>ue a
theorem J9{x y:Value}(h:AR (VR S) #[x,y] args'):∃a b,args'=#[a,b]/\VR S x a/\VR S y b:=by have U:=h.1;simp at U;refine⟨args'[0]'oq,args'[1]'oq,?_,h.2 0 _ _ Y<|gF oq,h.2 1 _ _ Y<|gF oq⟩;grind
theorem VB{x y z:Value}(h:AR (VR S) #[x,y,z] args'):∃a b c,args'=#[a,b,c]/\VR S x a/\VR S y b/\VR S z c:=by have U:=h.1;simp at U;refine⟨args'[0]'oq,args'[1]'oq,args'[2]'oq,?_,h.2 0 _ _ Y<|gF oq,h.2 1 _ _ Y<|gF oq,h.2 2 _ _ Y<|gF oq⟩;grind
def gz(rn:Nat)(L:Iq):Prim
 | 146=>some λargs s=>match args.toList with
  | [.pointer (some ⟨b,0,none⟩),.int .i64 k]=>if b=rn/\0<=k then some (.int .i32<|L[k.toNat]?.getD (-1),s) else none
  | _=>none
 | 92=>some λargs s=>match args.toList with
  | [.pointer (some ⟨b,0,none⟩),.int .i64 i,.int .i64 j]=>if b=rn/\0<=i/\0<=j/\j<=1000000 then some (.string ⟨(aG<|(L.drop i.toNat).take<|j.toNat-i.toNat).toArray⟩,s) else none
  | _=>none
 | 333=>some λargs s=>match args.toList with
  | [.string x,.int .i64 k]=>match s.get 1 with
   | some (.cells cs 335 (0,0))=>if yd cs.toList=true then match YA x.data.toList with
     | some (c,n)=>some (.tuple #[.int .i32 c,.int .i64 n],s)
     | none=>none
    else none
   | _=>none
  | _=>none
 | f=>eL f
theorem si(rn:Nat)(all:Iq):∀f g a s v b,gz rn all f=some g->g a s=some (v,b)->s.nx<=b.nx:=by
 intro f g a s v b U h;unfold gz at U;split at U;iterate 3
  .grind
 .exact yL _ _ _ _ _ _ U h
def cm{fn:Func}{b:Code}{G:AS->Prop}(k:pr f=none)(j:P.funcs[f]?=some fn)(g:fn.body=some b)(h:EW P kt pr b (args.toList++List.replicate (fn.ntmps-args.toList.length) undef) s (λe c a=>(e=.normal\/e=.ret)/\cN P fn c a=some v/\G a)):∃d,EF P kt pr f args s v d/\G d:=by have⟨n,e,c,a,h1,i,h2,h3⟩:=h;exact⟨a,aQ k j g ⟨n,e,c,a,h1,i,h2,Y⟩,h3⟩
section
variable {a:TL}
def oT:Option (TL × AS)->Option AS
 | some (_,s)=>some s
 | none=>none
def goC (P:Program)(ops:Array Oper)(r:List Oper):Option (TL × AS)->Option (FuncId × Aq × AS)
 | some (a,s)=>match r with
  | o::_=>match o.op with
   | .call cl=>match cl.callee with
    | .value (.func g)=>if Region.wanted o (bK ops a)=true/\lE P (.func g)=false then some (g,#[]++cl.args.map a.at++#[],s) else none
    | _=>none
   | _=>none
  | []=>none
 | none=>none
def aaq (r:List Oper)(a:TL)(v:Value):TL:=match r with
 | o::_=>a.put o.dst v
 | []=>a
end
def fW (x:Nq):Nat->Nat->TL
 | _,0=>[]
 | k,n+1=>x k::fW x (k+1) n
def rA{k:IntKind}{b:Bool}(h:decide (i>=j)=b):dj .geq (.int k i) (.int k j)=some (.bool b):=by unfold dj;simp only[ip];rw[h]
def ck{k:IntKind}{b:Bool}(h:decide (i<=j)=b):dj .leq (.int k i) (.int k j)=some (.bool b):=by unfold dj;simp only[ip];rw[h]
abbrev oJ(l:Bq):Aq:=(strCells ⟨l.toArray⟩).toArray
def BW (s:AS)(N b:Nat)(l:Bq):Prop:=N<=b/\b<s.nx/\∃p sl,s.get b=some (.cells #[p,sl] 119)/\(p=.pointer none\/p=aF b 0)/\((sl=.slice none 0 0/\l=[])\/∃d fz,sl=.slice (some ⟨d,0,none⟩) l.length l.length/\N<=d/\d<s.nx/\d≠b/\s.get d=some (.cells (oJ l) 5 fz))
def eQ (N:Nat)(s s':AS):Prop:=s.nx<=s'.nx/\∀k,k<N->s'.get k=s.get k
def eQ.refl:eQ N s s:=⟨lr,λ_ _=>Y⟩
def eQ.trans(h:eQ N s s1)(a:eQ N s1 s2):eQ N s s2:=⟨lT h.1 a.1,λk b=>(a.2 k b).trans<|h.2 k b⟩
def eQ.add{o:Obj}(h:N<=s.nx):eQ N s (s.add o):=⟨iq,λk a=>by rw[AS.bu,iw oq]⟩
def BW.add(h:BW s N b l)(o:Obj):BW (s.add o) N b l:=by
 have⟨h1,h2,p,e,h3,c,a⟩:=h;refine⟨h1,by simp;omega,p,e,by rw[AS.bu,iw oq];exact h3,c,?_⟩;rcases a with a|⟨d,fz,q1,q2,q3,q4,q5⟩
 .exact .inl a
 .exact .inr ⟨d,fz,q1,q2,by simp;omega,q4,by rw[AS.bu,iw oq];exact q5⟩
def tg(d:pr 261=none)(a:s.get b=some (.cells #[p,sl] 119))(f:p=.pointer none\/p=aF b 0):∃c,Ef pr 261 #[aF b 0] s (.tuple #[]) c/\c.nx=s.nx/\c.get b=some (.cells #[aF b 0,sl] 119)/\∀k,k≠b->c.get k=s.get k:=by
 refine cm d func261 Y<|am<|eB kq<|jB 3 5 kq<|ig s kq<|bV kq (me (off:=0) Y underlying117 Y kq a Y) ?_;rcases f with rfl|rfl
 .refine EO.fin 5 kq<|bU kq<|eB kq<|jB 2 5 kq<|ig s kq<|bV kq (wj Y kq<|VL (k:=1) kq underlying117 underlying244 a kq iq)<|EO.q kq kq<|ig s kq<|bV kq (wj Y kq<|VM (k:=1) kq underlying244 underlying117 a kq kq)<|jB 2 5 kq<|ig s kq<|bV kq (kB (off:=0) (w:=aF b 0) Y kq kq Y Y kq a iq)<|aB ⟨.inl Y,kq,⟨Y,?_,λk e=>?_⟩⟩
  .rw[AS.aU,ip Y];rfl
  .rw[AS.aU,iw e]
 .exact EO.fin 5 kq<|aJ kq<|am<|eB kq<|jB 3 5 kq<|ig s kq<|bV kq (me (off:=0) Y underlying117 Y kq a Y)<|jB 1 5 kq<|ig s kq<|bV kq (PH (b:=b) (k:=1) Y kq kq underlying117 kq)<|aB<|aJ kq<|EW.skip ⟨.inl Y,kq,Y,a,λk e=>Y⟩
def nU(l m:Bq):strCells ⟨l.toArray⟩++strCells ⟨m.toArray⟩=strCells ⟨(l++m).toArray⟩:=by show(l.map λb=>Value.int .u8 b.toNat)++(m.map λb=>Value.int .u8 b.toNat)=(l++m).map λb=>Value.int .u8 b.toNat;rw[Dy]
theorem A8(t:pr 261=none)(r:pr 156=none)(h:BW s N b l)(S:l.length+m.length<=1000000):∃o,Ef pr 156 #[aF b 0,str m] s (.tuple #[num m.length,.nilIface]) o/\BW o N b (l++m)/\eQ N s o:=by
 have⟨E,R,p,sl,H,G,q⟩:=h;have⟨a,F,Q,g,j⟩:=tg t H G;refine cm r func156 Y<|am<|cu 5 kq<|am<|eB kq<|jB 1 5 kq<|ig s kq<|eM #[aF b 0] kq Y Y kq kq F<|aB<|am<|eB kq<|jB 4 5 kq<|ig a kq<|bV kq (me (b:=b) (off:=1) (v:=sl) Y underlying55 Y kq g Y)<|jB 1 5 kq<|ig a kq ?_;have c:∀(v:Value) (e:AS),v.cells=#[v]->v.oneCell'=true->cf prog 5 sl (strCells ⟨m.toArray⟩) m.length a=some (v,e)->e.get b=some (.cells #[aF b 0,sl] 119)->a.nx<=e.nx->(∀k,k<N->e.get k=a.get k)->((v=.slice none 0 0/\l++m=[])\/∃d f,v=.slice (sq d) (l++m).length (l++m).length/\N<=d/\d<e.nx/\d≠b/\e.get d=some (.cells (oJ<|l++m) 5 f))->kD sl=true->∃w U,cf prog 5 sl (strCells ⟨m.toArray⟩) m.length a=some (w,U)/\w.cells=#[w]/\w.oneCell'=true/\kD sl=true/\U.get b=some (.cells #[aF b 0,sl] 119)/\BW (U.set b<|some<|.cells #[aF b 0,w] 119) N b (l++m)/\eQ N s (U.set b<|some<|.cells #[aF b 0,w] 119):=by
  intro v e I J K L T M n O;refine⟨v,e,K,I,J,O,L,⟨E,by simp;omega,aF b 0,v,by rw[AS.aU,ip Y],.inr Y,?_⟩,by simp;omega,λk i=>?_⟩
  .rcases n with n|⟨d,f,q1,q2,q3,q4,q5⟩
   .exact .inl n
   .exact .inr ⟨d,f,q1,q2,by simpa using q3,q4,by rw[AS.aU,iw q4];exact q5⟩
  .rw[AS.aU,iw oq,M k i,j k oq]
 have u:∃w U,cf prog 5 sl (strCells ⟨m.toArray⟩) m.length a=some (w,U)/\w.cells=#[w]/\w.oneCell'=true/\kD sl=true/\U.get b=some (.cells #[aF b 0,sl] 119)/\BW (U.set b<|some<|.cells #[aF b 0,w] 119) N b (l++m)/\eQ N s (U.set b<|some<|.cells #[aF b 0,w] 119):=by
  cases m with
  | nil =>
   rcases q with ⟨rfl,rfl⟩|⟨d,f,rfl,q2,q3,q4,q5⟩
   .exact c _ a Y Y (BE<|.inl Y) g lr (λk i=>Y) (.inl ⟨Y,Y⟩) Y
   .refine c _ a Y Y (BE<|.inr ⟨d,_,_,Y⟩) g lr (λk i=>Y) (.inr ⟨d,f,by rw[List.append_nil],q2,oq,q4,by rw[j d q4,List.append_nil];exact q5⟩) Y
  | cons x m =>
   rcases q with ⟨rfl,rfl⟩|⟨d,f,rfl,q2,q3,q4,q5⟩
   .refine c _ _ Y Y (oG iq) (by rw[AS.bu,iw oq];exact g) iq (λk i=>by rw[AS.bu,iw oq]) (.inr ⟨a.nx,(1,1),Y,oq,iq,oq,by rw[AS.bu,ip Y];rfl⟩) Y
   .have P:(oJ l).size=l.length:=by simp[strCells]
    refine c _ _ Y Y (ry (sz:=1) iq (by rw[j d q4];exact q5) kq gq oq) (by rw[AS.bu,iw<|by simp;omega,AS.aU,iw<|Ne.symm q4];exact g) iq (λk i=>by rw[AS.bu,iw<|by simp;omega,AS.aU,iw oq]) (.inr ⟨a.nx,(1,1),by rw[lA],oq,iq,oq,?_⟩) Y;rw[AS.bu,ip iq];have:List.take (l.length*1) (oJ l).toList=strCells ⟨l.toArray⟩:=gq
    rw[this,nU]
 have⟨w,U,e1,y,z,A,B,C,D⟩:=u;exact bV kq (Aw (sl:=sl) (m:=m) Y kq kq underlying55 underlying9 kq kq oq A e1)<|jB 2 5 kq<|ig U kq<|bV kq (kB (b:=b) (off:=1) Y kq kq y z kq B iq)<|aB<|am<|eB kq<|jB 1 5 kq<|bV kq (di (l:=m) Y underlying9 kq)<|EO.fin 5 kq<|aE ⟨.inr Y,kq,⟨C,D⟩⟩
def wU(f:pr 84=none)(h:BW s N b l)(i:l≠[])(u:l.length<=1000000):∃m,Ef pr 84 #[aF b 0] s (str l) m/\eQ N s m:=by
 have⟨o,r,p,x,j,w,a⟩:=h;rcases a with ⟨_,a⟩|⟨d,fz,rfl,q2,q3,q4,q5⟩
 .exact absurd a i
 obtain⟨c,l,rfl⟩:∃c n,l=c::n:=by
  cases l with
  | nil=>exact absurd Y i
  | cons c l=>exact⟨c,l,Y⟩
 refine cm f func84 Y<|am<|cu 5 kq<|am<|bO kq kq kq ?_;iterate 2
  refine ET.q kq kq ?_
  refine ET.q kq kq ?_
  refine ET.q kq kq ?_
  refine ET.R0 s kq ?_
  refine ET.op kq (me (off:=1) Y underlying55 Y kq j Y) ?_
  refine ET.q kq kq ?_
 refine ET.R0 s kq<|ET.op kq (Md Y kq kq kq q5 kq iq oq)<|ET.q kq kq ?_;have g:bA prog 55 (aF b 1) s=some (.slice (sq d) (c::l).length (c::l).length):=by unfold bA;simp only[aF,j,underlying55];rfl
 refine cg ⟨dh [(bA prog 55 (aF b 1) s,.slice (sq d) (c::l).length (c::l).length),(bA prog 55 (aF b 1) s,.slice (sq d) (c::l).length (c::l).length)] kq<|by simp[bN,g],_,_,_,_,_,_,Y,Y,aE ⟨.inr Y,kq,⟨lr,λk t=>?_⟩⟩⟩;show(s.set d none).get k=_;rw[AS.aU,iw oq]
section
variable {a:TL}{id:Nat}{y c:Code}{t:Operand}
def zr(k:EO P kt pr ops ops.toList a s λb c=>pw P kt pr y Q .normal b c)(h:jI ops=true:=by kernel_rfl):EW P kt pr (.seq (.region id ops false) y) a s Q:=am<|eB h k
def zx(k:EO P kt pr ops ops.toList a s λb c=>Q .normal b c)(h:jI ops=true:=by kernel_rfl):EW P kt pr (.region id ops false) a s Q:=eB h k
def zf(k:K (oA<|dN P kt (bW P kt pr 9) ops rest a s) (oS<|dN P kt (bW P kt pr 9) ops rest a s))(h:YC (dN P kt (bW P kt pr 9) ops rest a s)=true:=by kernel_rfl):EO P kt pr ops rest a s K:=EO.fin 9 h k
def zs(k:pw P kt pr y Q .normal (cA<|gx P kt pr 9 c a s) (cS<|gx P kt pr 9 c a s))(h:Y8 (gx P kt pr 9 c a s)=true:=by kernel_rfl):EW P kt pr (.seq c y) a s Q:=am<|cu 9 h k
def zg(k:Nat)(s':AS)(b:EO P kt pr ops (rest.drop k) (oA<|dN P kt (bW P kt pr 9) ops (rest.take k) a s) s' K)(h:oT (dN P kt (bW P kt pr 9) ops (rest.take k) a s)=some s':=by kernel_rfl):EO P kt pr ops rest a s K:=by
 generalize c:dN P kt (bW P kt pr 9) ops (rest.take k) a s=q at h b;obtain _|⟨a',s2⟩:=q
 .cases h
 .cases h;exact EO.run k 9 a' s' c b
def zk(k:Nat)(b:EO P kt pr ops (rest.drop k) (oA<|dN P kt (bW P kt pr 9) ops (rest.take k) a s) (oS<|dN P kt (bW P kt pr 9) ops (rest.take k) a s) K)(h:YC (dN P kt (bW P kt pr 9) ops (rest.take k) a s)=true:=by kernel_rfl):EO P kt pr ops rest a s K:=jB k 9 h b
def zc(k:Nat)(b:EF P kt pr g args s' v s1)(c:EO P kt pr ops (rest.drop<|k+1) (aaq (rest.drop k) (oA<|dN P kt (bW P kt pr 9) ops (rest.take k) a s) v) s1 K)(h:goC P ops (rest.drop k) (dN P kt (bW P kt pr 9) ops (rest.take k) a s)=some (g,args,s'):=by kernel_rfl):EO P kt pr ops rest a s K:=by
 generalize i:dN P kt (bW P kt pr 9) ops (rest.take k) a s=q at h c;obtain _|⟨a',s2⟩:=q
 .cases h
 .rw[<-List.drop_drop] at c;refine EO.run k 9 a' s2 i ?_;generalize rest.drop k=r at h c;cases r with
  | nil=>cases h
  | cons o t =>
   simp only[goC] at h;split at h
   .next j d =>
    split at h
    .next l m =>
     split at h
     .next e =>cases h;exact eM _ e.1 d m e.2 Y b c
     .cases h
    .cases h
   .cases h
def za(s':AS)(k:EW P kt pr c a s' Q)(h:s=s':=by kernel_rfl):EW P kt pr c a s Q:=pC s' h k
def zo(s':AS)(k:EO P kt pr ops rest a s' K)(h:s=s':=by kernel_rfl):EO P kt pr ops rest a s K:=ig s' h k
def zt(s':AS)(k:ET P kt pr ops rest a s' KT)(h:s=s':=by kernel_rfl):ET P kt pr ops rest a s KT:=ET.R0 s' h k
def zF(k:Q .normal a s)(h:a.at t=.bool false:=by kernel_rfl):EW P kt pr (.cond t y .skip) a s Q:=aJ h<|EW.skip k
def zT(k:Q .normal a s)(h:a.at t=.bool true:=by kernel_rfl):EW P kt pr (.cond t .skip y) a s Q:=bU h<|EW.skip k
def zG(k:EW P kt pr y a s Q)(h:a.at t=.bool false:=by kernel_rfl):EW P kt pr (.cond t c y) a s Q:=aJ h k
def zH(k:EW P kt pr c a s Q)(h:a.at t=.bool true:=by kernel_rfl):EW P kt pr (.cond t c y) a s Q:=bU h k
def zq(k:ET P kt pr ops rest (a.put o.dst<|qV<|bS P kt (λ_ _ _=>none) a o s) (qS<|bS P kt (λ_ _ _=>none) a o s) λc=>KT ((a,qV<|bS P kt (λ_ _ _=>none) a o s,qS<|bS P kt (λ_ _ _=>none) a o s)::c))(h:Region.wanted o (bK ops a)=true:=by kernel_rfl)(b:qOk (bS P kt (λ_ _ _=>none) a o s)=true:=by kernel_rfl):ET P kt pr ops (o::rest) a s KT:=ET.q h b k
section
variable (e:bS P kt (λ_ _ _=>none) a o s=some (v,s1))
def zp(k:EO P kt pr ops rest (a.put o.dst v) s1 K)(h:Region.wanted o (bK ops a)=true:=by kernel_rfl):EO P kt pr ops (o::rest) a s K:=bV h e k
def zu(k:ET P kt pr ops rest (a.put o.dst v) s1 λb=>KT ((a,v,s1)::b))(h:Region.wanted o (bK ops a)=true:=by kernel_rfl):ET P kt pr ops (o::rest) a s KT:=ET.op h e k
end
end
end
section
variable [Inhabited KC]
variable {n rn:Nat}{v:Value}{w w':World}{f:FuncId}{args:Aq}{pr:Prim}{ι:Type}{X:ι->Gq}{Hd:ι->Hq->World->Prop}
variable {c e e2 id k nm off z z1 z2:Nat}{pv sl:Value}{en l m p x:Bq}{o:Obj}{i j:Int}{b:Bool}{aY:Func}{args' cap xn:Aq}{mD:TL}
def qg (c:Nat):Bq:=if c<2048 then [UInt8.ofNat (192+c / 64),UInt8.ofNat<|128+c % 64] else if c<65536 then [UInt8.ofNat (224+c / 4096),UInt8.ofNat<|128+c / 64 % 64,UInt8.ofNat<|128+c % 64] else [UInt8.ofNat (240+c / 262144),UInt8.ofNat<|128+c / 4096 % 64,UInt8.ofNat<|128+c / 64 % 64,UInt8.ofNat<|128+c % 64]
theorem Vj(h:n<256):((UInt8.ofNat n).toNat:Int)=(n:Nat):=by rw[UInt8.toNat_ofNat'];grind
theorem mP(c k:Nat):Int.fdiv (c:Int) (2 ^ k)=((c / 2 ^ k:Nat):Int):=gq
def RS (c:Nat):Prop:=128<=c/\(c<55296\/(57343<c/\c<=1114111))
def sZ (s:AS)(sl:Value)(l:Bq):Prop:=(sl=.slice none 0 0/\l=[])\/∃d fz,sl=.slice (some ⟨d,0,none⟩) l.length l.length/\d<s.nx/\s.get d=some (.cells (oJ l) 5 fz)
def sZ.add{s:AS}(h:sZ s sl l)(o:Obj):sZ (s.add o) sl l:=by
 rcases h with h|⟨d,fz,q1,q2,q3⟩
 .exact .inl h
 .exact .inr ⟨d,fz,q1,by simp;omega,by rw[AS.bu,iw oq];exact q3⟩
def xk (s:AS)(sl:Value)(l m:Bq)(s3:AS)(w:Value):Prop:=∃g,w=.slice (some ⟨g,0,none⟩) (l++m).length (l++m).length/\s.nx<=g/\g<s3.nx/\s3.get g=some (.cells (oJ<|l++m) 5 (1,1))/\∀k,k<s.nx->(∀n c,sl≠.slice (some ⟨k,0,none⟩) n c)->s3.get k=s.get k
theorem J5{s:AS}(h:sZ s sl l)(i:m≠[])(g:l.length+m.length<=1000000000):∃w a,cf prog 5 sl (strCells ⟨m.toArray⟩) m.length s=some (w,a)/\xk s sl l m a w:=by
 have U:m.length≠0:=gq
 rcases h with ⟨rfl,rfl⟩|⟨d,fz,rfl,q2,q3⟩
 .exact⟨_,_,oG U,s.nx,iq,lr,iq,by rw[AS.bu,ip I];rfl,λk c _=>by rw[AS.bu,iw oq]⟩
 .have f:(oJ l).size=l.length:=by simp[strCells]
  refine⟨_,_,ry (sz:=1) U q3 kq gq oq,s.nx,by rw[lA],lr,iq,?_,λk c b=>?_⟩
  .rw[AS.bu,ip iq];have:List.take (l.length*1) (oJ l).toList=strCells ⟨l.toArray⟩:=gq
   rw[this,nU]
  .rw[AS.bu,iw<|by simp;omega,AS.aU,iw<|λe=>b _ _<|by rw[e]]
theorem sf{kt:TypeId->Bool}{c:km}{a:TL}{s s':AS}{o:Oper}{x y:Operand}{d:Nat}{fz:Nat × Nat}(U:o.op=.call { callee:=.builtin .append,args:=#[x,y],argTypes:=#[55,55] })(l:a.at x=sl)(n:a.at y=.slice (sq d) m.length k)(e:kt 5=false)(q:s.get d=some (.cells (oJ m) 5 fz))(b:dZ sl (sq d)=true)(r:m.length<=1000000)(h:cf prog 5 sl (strCells ⟨m.toArray⟩) m.length s=some (v,s')):bS prog kt c a o s=some (v,s'):=by
 have j:cW prog a o=none:=by unfold cW;rw[U]
 have p:(oJ m).size=m.length:=by simp[strCells]
 have f:eH s 1 (sq d) m.length=some (strCells ⟨m.toArray⟩):=by unfold eH;grind
 have g:(prog.info? 5).map (λi=>(i.zero,i.size,i.bytes))=some (some<|Value.int .u8 0,1,1):=kq
 unfold bS;rw[iw (by rw[U];simp[gW])];rw[U];simp only;rw[j];simp;rw[l,n];unfold gC;simp only[if_true];rw[underlying55];simp only;rw[g];simp only;rw[f];simp only;rw[ip ⟨rq,oq,oq,oq,e,b,by simp[strCells,Value.oneCell']⟩];exact h
variable {all:Iq}{s:AS}
def mH(h:sZ s sl l)(a:s.nx<=k):dZ sl (sq k)=true:=by
 rcases h with ⟨rfl,_⟩|⟨d,fz,rfl,q,_⟩
 .rfl
 .show(!d.beq k)=true;cases hb:d.beq k
  .rfl
  .exact absurd (ja hb) oq
def A7(h:c<=1114111):IntKind.u32.wrap (c:Int)=(c:Int):=by rw[IntKind.wrap_u32];omega
def Vh{x:Int}(a:n<64)(h:x % 64=(n:Int)):bits .or .u8 128 (bits .and .u8 (IntKind.u8.wrap x) 63)=((UInt8.ofNat<|128+n).toNat:Int):=by rw[XL,Vj oq,h];omega
def Wn(a:n<32):bits .or .u8 192 (IntKind.u8.wrap (n:Int))=((UInt8.ofNat<|192+n).toNat:Int):=by rw[IntKind.wrap_u8,show(n:Int) % 256=n by omega,Xl _ oq oq,Vj oq];omega
def Wo(a:n<16):bits .or .u8 224 (IntKind.u8.wrap (n:Int))=((UInt8.ofNat<|224+n).toNat:Int):=by rw[IntKind.wrap_u8,show(n:Int) % 256=n by omega,Xm _ oq oq,Vj oq];omega
def Wp(a:n<8):bits .or .u8 240 (IntKind.u8.wrap (n:Int))=((UInt8.ofNat<|240+n).toNat:Int):=by rw[IntKind.wrap_u8,show(n:Int) % 256=n by omega,Xn _ oq oq,Vj oq];omega
def eh{k:IntKind}(h:decide (i<j)=b):dj .lss (.int k i) (.int k j)=some (.bool b):=by unfold dj;simp[ip];rw[h]
def dI{k:IntKind}(h:(i != j)=b):dj .neq (.int k i) (.int k j)=some (.bool b):=by unfold dj;simp[ip];rw[h]
def xk.Au{b:AS}{w:Value}(h:xk (s.add o) sl l m b w):xk s sl l m b w:=by have⟨g,h1,h2,h3,c,d⟩:=h;exact⟨g,h1,by simp at h2;omega,h3,c,λk e a=>(d k (by simp;omega) a).trans<|by rw[AS.bu,iw oq]⟩
def XC(sl:Value)(c:Nat)(tb:Bool)(x:Nq):TL:=[sl,.int .i32 (c:Int),x 2,x 3,x 4,.int .u32 (c:Int),x 6,x 7,x 8,x 9,x 10,x 11,x 12,x 13,x 14,x 15,x 16,x 17,x 18,x 19,x 20,x 21,x 22,x 23,x 24,.bool tb,x 26,x 27,x 28,x 29,x 30,x 31,x 32,x 33,x 34,x 35,x 36,x 37,x 38,x 39,x 40,x 41,x 42,x 43,x 44,x 45,x 46,x 47,x 48,x 49,x 50,x 51,x 52,x 53,x 54,x 55,x 56,x 57,x 58,x 59,x 60,x 61,x 62,x 63,x 64,x 65,x 66,x 67,x 68,x 69,x 70,x 71,x 72,x 73,x 74,x 75,x 76,x 77]
theorem HH(A:RS c)(h:sZ s sl l)(C:l.length<=999999996)(y:pr 346=none):∃a,∃w,Ef pr 346 #[sl,.int .i32 (c:Int)] s w a/\xk s sl l (qg c) a w:=by
 suffices hh:Ew pr (match f346.body with|some c=>c|none=>.skip) ((#[sl,.int .i32 (c:Int)]:Aq).toList++List.replicate (f346.ntmps-(#[sl,.int .i32 (c:Int)]:Aq).toList.length) undef) s (λe j s1=>(e=.normal\/e=.ret)/\∃w,xk s sl l (qg c) s1 w/\cN prog f346 j s1=some w) by have⟨m,e,j,s1,h1,i,w,h3,z⟩:=hh;exact⟨s1,w,aQ y func346 I ⟨m,e,j,s1,h1,i,z,I⟩,h3⟩
 have⟨B,r⟩:=A;refine zs<|zr<|zg 1 s<|bV (v:=.int .u32 (c:Int)) (s1:=s) kq ((show _=some (Value.int .u32<|IntKind.u32.wrap (c:Int),s) by kernel_rfl).trans<|by rw[A7 oq])<|zf<|za s<|aD<|zr<|zk 1 ?_;by_cases h1:c<2048
 .have i:qg c=[UInt8.ofNat (192+c / 64),UInt8.ofNat<|128+c % 64]:=by unfold qg;rw[ip h1]
  rw[i];refine zp (aI (u:=.int .u32 (c:Int)) (w:=.int .u32 2047) I kq kq<|ck (b:=true)<|tD oq)<|zf<|zH<|zr<|zg 4 s<|bV (s1:=s) kq ((show _=some (Value.int .u8<|bits .or .u8 192<|IntKind.u8.wrap<|Int.fdiv (c:Int)<|2 ^ 6,s) by kernel_rfl).trans<|by rw[mP,Wn oq])<|zg 3 s<|bV (s1:=s) kq ((show _=some (Value.int .u8<|bits .or .u8 128<|bits .and .u8 (IntKind.u8.wrap (c:Int)) 63,s) by kernel_rfl).trans<|by rw[Vh (n:=c % 64) oq oq]) ?_;generalize UInt8.ofNat (192+c / 64)=U;generalize UInt8.ofNat (128+c % 64)=f;refine zg 1 (s.add<|.cells (oJ [U,f]) 5) ?_;have⟨w,t,o,p⟩:=J5 (m:=[U,f]) (h.add<|.cells (oJ [U,f]) 5) iq (by simp;omega);exact zp (sf (m:=[U,f]) (d:=s.nx) (k:=2) (sl:=sl) I kq kq kq (by rw[AS.bu,ip I]) (mH h lr) iq o)<|zf<|aE ⟨.inr I,w,p.Au,by kernel_rfl⟩
 .refine zp (aI (u:=.int .u32 (c:Int)) (w:=.int .u32 2047) I kq kq<|ck (b:=false)<|fD oq)<|zf<|zG<|am<|aN (Q:=λe j a=>e=.normal/\a=s/\∃x,j=XC sl c (decide (c<65536)) x) ?_ ?_
  .refine zr<|zk 1 ?_;rcases r with r|⟨r,a4⟩
   .rw[tD (show c<65536 by omega)];exact zp (aI (u:=.int .u32 (c:Int)) (w:=.int .u32 55296) I kq kq<|eh (b:=true)<|tD oq)<|zf<|zH<|EW.skip ⟨I,by kernel_rfl,aP kq⟩
   .refine zp (aI (u:=.int .u32 (c:Int)) (w:=.int .u32 55296) I kq kq<|eh (b:=false)<|fD oq)<|zf<|zG<|zx<|zk 1<|zp (aI (u:=.int .u32 57343) (w:=.int .u32 (c:Int)) I kq kq<|eh (b:=true)<|tD oq)<|zk 2<|zp (aI (u:=.int .u32 (c:Int)) (w:=.int .u32 65535) I kq kq<|ck (b:=decide (c<65536)) gq) ?_;generalize decide (c<65536)=D;exact zf ⟨I,by kernel_rfl,aP kq⟩
  rintro e j a ⟨rfl,rfl,x,rfl⟩;by_cases h2:c<65536
  .have i:qg c=[UInt8.ofNat (224+c / 4096),UInt8.ofNat<|128+c / 64 % 64,UInt8.ofNat<|128+c % 64]:=by unfold qg;rw[iw h1,ip h2]
   rw[i,tD h2];refine zH<|zr<|zg 4 a<|bV (s1:=a) kq ((show _=some (Value.int .u8<|bits .or .u8 224<|IntKind.u8.wrap<|Int.fdiv (c:Int)<|2 ^ 12,a) by kernel_rfl).trans<|by rw[mP,Wo oq])<|zg 4 a<|bV (s1:=a) kq ((show _=some (Value.int .u8<|bits .or .u8 128<|bits .and .u8 (IntKind.u8.wrap<|Int.fdiv (c:Int)<|2 ^ 6) 63,a) by kernel_rfl).trans<|by rw[mP,Vh (n:=c / 64 % 64) oq oq])<|zg 3 a<|bV (s1:=a) kq ((show _=some (Value.int .u8<|bits .or .u8 128<|bits .and .u8 (IntKind.u8.wrap (c:Int)) 63,a) by kernel_rfl).trans<|by rw[Vh (n:=c % 64) oq oq]) ?_;generalize UInt8.ofNat (224+c / 4096)=U;generalize UInt8.ofNat (128+c / 64 % 64)=f;generalize UInt8.ofNat (128+c % 64)=g;refine zg 1 (a.add<|.cells (oJ [U,f,g]) 5) ?_;have⟨w,t,o,p⟩:=J5 (m:=[U,f,g]) (h.add<|.cells (oJ [U,f,g]) 5) iq (by simp;omega);exact zp (sf (m:=[U,f,g]) (d:=a.nx) (k:=3) (sl:=sl) I kq kq kq (by rw[AS.bu,ip I]) (mH h lr) iq o)<|zf<|aE ⟨.inr I,w,p.Au,by kernel_rfl⟩
  .have i:qg c=[UInt8.ofNat (240+c / 262144),UInt8.ofNat<|128+c / 4096 % 64,UInt8.ofNat<|128+c / 64 % 64,UInt8.ofNat<|128+c % 64]:=by unfold qg;rw[iw h1,iw h2]
   rw[i,fD h2];refine zG<|zr<|zk 1<|zp (aI (u:=.int .u32 (c:Int)) (w:=.int .u32 65535) I kq kq<|by unfold dj;simp only[ip];rw[(tD oq)])<|zk 2<|zp (aI (u:=.int .u32 (c:Int)) (w:=.int .u32 1114111) I kq kq<|ck (b:=true)<|tD oq)<|zf<|zH<|zr<|zg 4 a<|bV (s1:=a) kq ((show _=some (Value.int .u8<|bits .or .u8 240<|IntKind.u8.wrap<|Int.fdiv (c:Int)<|2 ^ 18,a) by kernel_rfl).trans<|by rw[mP,Wp oq])<|zg 4 a<|bV (s1:=a) kq ((show _=some (Value.int .u8<|bits .or .u8 128<|bits .and .u8 (IntKind.u8.wrap<|Int.fdiv (c:Int)<|2 ^ 12) 63,a) by kernel_rfl).trans<|by rw[mP,Vh (n:=c / 4096 % 64) oq oq])<|zg 4 a<|bV (s1:=a) kq ((show _=some (Value.int .u8<|bits .or .u8 128<|bits .and .u8 (IntKind.u8.wrap<|Int.fdiv (c:Int)<|2 ^ 6) 63,a) by kernel_rfl).trans<|by rw[mP,Vh (n:=c / 64 % 64) oq oq])<|zg 3 a<|bV (s1:=a) kq ((show _=some (Value.int .u8<|bits .or .u8 128<|bits .and .u8 (IntKind.u8.wrap (c:Int)) 63,a) by kernel_rfl).trans<|by rw[Vh (n:=c % 64) oq oq]) ?_;generalize UInt8.ofNat (240+c / 262144)=U;generalize UInt8.ofNat (128+c / 4096 % 64)=f;generalize UInt8.ofNat (128+c / 64 % 64)=g;generalize UInt8.ofNat (128+c % 64)=q;refine zg 1 (a.add<|.cells (oJ [U,f,g,q]) 5) ?_;have⟨w,t,o,p⟩:=J5 (m:=[U,f,g,q]) (h.add<|.cells (oJ [U,f,g,q]) 5) iq (by simp;omega);exact zp (sf (m:=[U,f,g,q]) (d:=a.nx) (k:=4) (sl:=sl) I kq kq kq (by rw[AS.bu,ip I]) (mH h lr) iq o)<|zf<|aE ⟨.inr I,w,p.Au,by kernel_rfl⟩
def BG(f:RS c)(h:sZ s sl l)(j:l.length<=999999996)(d:pr 346=none)(a:pr 275=none):∃e,∃w,Ef pr 275 #[sl,.int .i32 (c:Int)] s w e/\xk s sl l (qg c) e w:=by have⟨e,w,h1,h2⟩:=HH f h j d;refine⟨e,w,?_,h2⟩;have⟨g,i⟩:=f;exact aQ a func275 I<|zs<|am<|zr<|zg 1 s<|bV kq ((show _=some (Value.int .u32<|IntKind.u32.wrap c,s) by kernel_rfl).trans<|by rw[A7 oq])<|zp (aI (u:=.int .u32 c) (w:=.int .u32 127) I kq kq<|ck<|fD oq)<|aB<|zF<|zr<|zc 2 h1<|zf<|aE ⟨.inr I,by kernel_rfl,by kernel_rfl⟩
theorem Fz{N b:Nat}{c:Int}(C:pr 261=none)(B:pr 180=none)(h:BW s N b l)(D:∀(s:AS) (sl:Value),sZ s sl l->∃i,∃w,Ef pr 275 #[sl,.int .i32 c] s w i/\xk s sl l en i w):∃i v,Ef pr 180 #[aF b 0,.int .i32 c] s v i/\BW i N b (l++en)/\eQ N s i:=by
 have⟨M,W,p,sl,S,Q,I⟩:=h;have⟨f,x,V,u,y⟩:=tg C S Q;have o:sZ f sl l:=by
  rcases I with h|⟨d,fz,q1,q2,q3,q4,q5⟩
  .exact .inl h
  .exact .inr ⟨d,fz,q1,oq,(y d q4).trans q5⟩
 have H:∀n k,sl≠.slice (sq b) n k:=gq
 have F:∀k,k<N->∀n J,sl≠.slice (sq k) n J:=gq
 have E:∃n r,sl=.slice (match sl with|.slice a _ _=>a|_=>none) n r/\n=l.length:=gq
 obtain⟨j,w,G,g,rfl,g1,g2,g3,g4⟩:=D f sl o;have K:=(g4 b oq H).trans u;suffices hh:Ew pr (match f180.body with|some c=>c|none=>.skip) ((#[aF b 0,.int .i32 c]:Aq).toList++List.replicate (f180.ntmps-(#[aF b 0,.int .i32 c]:Aq).toList.length) undef) s (λe t f=>(e=.normal\/e=.ret)/\f=j.set b (some<|.cells #[aF b 0,.slice (sq g) (l++en).length (l++en).length] 119)/\∃w,cN prog f180 t f=some w) by
  have⟨m,e,t,A,h1,O,h2,w,h3⟩:=hh;refine⟨A,w,aQ B func180 rfl ⟨m,e,t,A,h1,O,h3,rfl⟩,?_,?_⟩
  .rw[h2];refine⟨M,by simp;omega,_,_,by rw[AS.aU,ip rfl],.inr rfl,.inr ⟨g,(1,1),rfl,oq,by simpa using g2,oq,by rw[AS.aU,iw oq];exact g3⟩⟩
  .rw[h2];exact⟨by simp;omega,λk P=>by rw[AS.aU,iw oq,g4 k oq<|F k P,y k oq]⟩
 refine zs<|zr<|zc 1 x<|aB ?_;obtain⟨n,r,U,rfl⟩:=E;generalize R:(match sl with|.slice a _ _=>a|_=>none)=q at U;clear R;subst U;refine zr<|zg 3 f<|zp (me (b:=b) (off:=1) rfl underlying55 rfl kq u rfl)<|zf<|za f<|zr<|zg 4 f<|zp (me (b:=b) (off:=1) rfl underlying55 rfl kq u rfl)<|zc 1 G<|zg 2 j ?_;generalize (l++en).length=L;refine zp (kB (b:=b) (off:=1) (w:=.slice (sq g) L L) rfl kq kq rfl rfl kq K iq)<|aB<|za (j.set b<|some<|.cells #[aF b 0,.slice (sq g) L L] 119) ?_;have z:(j.set b<|some<|.cells #[aF b 0,.slice (sq g) L L] 119).get b=some (.cells #[aF b 0,.slice (sq g) L L] 119):=by rw[AS.aU,ip rfl]
 generalize j.set b _=T at z;exact zr<|zg 3 T<|zp (me (b:=b) (off:=1) rfl underlying55 rfl kq z rfl)<|zf<|aE ⟨.inr rfl,kq,.tuple #[.int .i64 (fv .i64<|(L:Int)-(l.length:Int)),.nilIface],kq⟩
variable {P:Program}{KT:TypeId->Prop}{An:dQ}{s1:AS}
section
variable {N0:ι->Nat}{M:ι->World->Nat->Prop}{O:ι->Nat->Prop}{R:ι->Wq}{D:ι->World->World->Array Event->Prop}{kt:TypeId->Bool}
def WI (P:Program)(KT:TypeId->Prop)(An:dQ)(X:ι->Gq)(Hd:ι->Hq->World->Prop)(c:Code)(aA:TL)(s:AS)(Q:Exit->TL->AS->Prop):Prop :=
 ∀(fn:FuncId) (S:dQ) (l fr:Hq) (i:ι) (w:World) (a:Act) (Q':fO ι),gh P KT An S s l->Hd i (l++fr) w->AR (VR S) aA.toArray a.tmps->a.defers=[]->(∀b,s.nx<=b->S b=none) ->
  (∀e mD s' i' S' l' w' a',Q e mD s'->S.le S'->gh P KT An S' s' l'->Hd i' (l'++fr) w'->AR (VR S') mD.toArray a'.tmps->a'.defers=[]->(∀b,s'.nx<=b->S' b=none)->Q' i' e a' w')->il X fn c i Q' a w
def WO (P:Program)(KT:TypeId->Prop)(An:dQ)(X:ι->Gq)(Hd:ι->Hq->World->Prop)(ops:Array Oper)(k:Nat)(aA:TL)(s:AS)(Q:TL->AS->Prop):Prop :=
 ∀(fn:FuncId) (S:dQ) (l fr:Hq) (i:ι) (w:World) (a:Act) (Q':fO ι),gh P KT An S s l->Hd i (l++fr) w->AR (VR S) aA.toArray a.tmps->a.defers=[]->(∀b,s.nx<=b->S b=none) ->
  (∀mD s' i' S' l' w' a',Q mD s'->S.le S'->gh P KT An S' s' l'->Hd i' (l'++fr) w'->AR (VR S') mD.toArray a'.tmps->a'.defers=[]->(∀b,s'.nx<=b->S' b=none)->Q' i' .normal a' w')->cM X fn ops (List.range' k<|ops.size-k) i Q' a w
variable {aA:TL}{Q:Exit->TL->AS->Prop}{K:TL->AS->Prop}{c x y:Code}{ops:Array Oper}{o:Oper}
theorem WI.of(Y:Cy P KT N0 M O R D X Hd)(hm:P.follows .mixedOrders=true)(Cg:∀ t,kt t=false->¬ KT t)(hp:cb P KT An R D X Hd pr)(Bj:∀ (f:FuncId) (aY:Func),P.funcs[f]?=some aY->(aY.name == "runtime.NumGoroutine")=false)(h:EW P kt pr c aA s Q):WI P KT An X Hd c aA s Q:=by have⟨n,e,mD,s',h1,h2⟩:=h;intro fn S l fr i w a Q' hS hF hA hd oy k;have vT:=(yk hp.nx n).1 _ _ _ _ _ _ h1;refine((kr Y hm Cg hp Bj n).1 c fn aA mD s s' e S l fr i w a Q' h1 hS hF hA hd (λb hb _=>oy b hb) ?_).1;intro i' S' l' w' a' q1 q2 q3 q4 q5 q6;exact k e mD s' i' S' l' w' a' h2 q1 q3 q4 q5 q6 λb hb=>by rw[q2 b (.inr hb)];exact oy b (by omega)
def fo:=@WI.of
def RG(P:Program)(KT:TypeId->Prop)(An:dQ)(X:ι->Gq)(b:ι->Hq->World->Prop)(y:Code)(Q:Exit->TL->AS->Prop):Exit->TL->AS->Prop:=λe a s=>match e with
 | .normal=>WI P KT An X b y a s Q
 | e=>Q e a s
section
variable (Y:Cy P KT N0 M O R D X Hd)
def WI.seq(h:WI P KT An X Hd x aA s (RG P KT An X Hd y Q)):WI P KT An X Hd (.seq x y) aA s Q:=by
 intro g S l j i w a z D B A E c k;refine bY Y.C Y.T<|h g S l j i w a _ D B A E c ?_;intro e b F m d n v f q L o p r t u;cases e with
 | normal=>exact q g d n j m v f z o p r t u λ_ _ _ _ _ _ _ _ q H=>k _ _ _ _ _ _ _ _ q λb x h=>H b x (L b x h)
 | _=>exact k _ b F m d n v f q L o p r t u
def bR:=@WI.seq
def WI.region(h:WO P KT An X Hd ops 0 aA s (λb e=>Q .normal b e)):WI P KT An X Hd (.region id ops false) aA s Q:=by intro j S l m i w a f p o n r d k;refine aW Y.C Y.T ?_;rw[List.range_eq_range'];exact h j S l m i w a f p o n r d λc e t g u v b q=>k .normal c e t g u v b q
end
def jT(h:k<n):List.range' k (n-k)=k::List.range' (k+1) (n-(k+1)):=by obtain⟨m,a⟩:∃m,n-k=m+1:=⟨n-k-1,by omega⟩;rw[a,List.range'_succ,show n-(k+1)=m by omega]
section
variable (Y:Cy P KT N0 M O R D X Hd)
def gg(q:∀t,kt t=false->¬KT t)(x:ops[k]?=some o)(D:∀(S:dQ) (a:Act),An.le S->AR (VR S) aA.toArray a.tmps->fq S aA a o)(G:Region.wanted o (bK ops aA)=true)(h:bS P kt (λ_ _ _=>none) aA o s=some (v,s1))(I:WO P KT An X Hd ops (k+1) (aA.put o.dst v) s1 K):WO P KT An X Hd ops k aA s K:=by intro A S l B i w a y u C g E e J;have F:=u9 (λf d s v M h=>by cases h) h;rw[jT (oa.1 x).1];refine pi Y q (λf d s v M h=>by cases h) x (by rw[gr g];exact G) (D S a u.an g) u C h (λb n _=>e b n) ?_;intro H z L O N m p c j r;refine I A z L B H O _ y c j (ki (g.mono m) r _) ?_ (λb n=>by rw[p b (.inr n)];exact e b oq) λ_ _ _ _ _ _ _ q H=>J _ _ _ _ _ _ _ q λb x h=>H b x (m b x h);cases Cf:o.dst<;>exact E
def WO.load(F:ops[k]?=some o)(T:Region.wanted o (bK ops aA)=true){t:TypeId}{d:TypeDesc}{q:Tmp}{g:Nat}(n:o.op=.load t (.tmp q))(U:aA.at (.tmp q)=aF nm off)(u:An nm=some (g,z,e))(A:P.underlying t=some d)(m:d.isRow=false)(R:fs v=true)(h:∀i l w,Hd i l w->M i w g/\w.cell? ⟨g,off,none⟩=some v)(V:WO P KT An X Hd ops (k+1) (aA.put o.dst v) s K):WO P KT An X Hd ops k aA s K:=by
 intro H S l I i w a G D B r N y W;rw[jT (oa.1 F).1];have p:a.eval (.tmp q)=.pointer (some ⟨g,off,none⟩):=by have:=iI (x:=.tmp q) r rfl;rw[U] at this;have⟨g',z',e',h1,h2⟩:=this.ptr;rw[D.an _ _ u] at h1;cases h1;exact h2
 refine aM Y.C F (by rw[gr r];exact T) λc L Kx J=>?_;have b:=(Y.Z B).rely B L;have⟨j,E⟩:=h i _ c b;have Q:(execOp a.eval o).run P c=.ok (.value v) c:=by simp[execOp,n,p,Instr.loadAt,Instr.sureAddr,loadVar,jg A m,E]
 have O:(execOp a.eval o).events P c #[]=#[⟨.cell ⟨g,off,none⟩,false,false⟩]:=by simp[execOp,n,p,Instr.loadAt,Instr.sureAddr,loadVar,jg A m,kT A,events_load,E]
 rw[Q];refine J _ _ ⟨?_,V H S l I i c _ G D b (ki r (bn R) _) ?_ y W⟩
 .refine(Y.Z b).env.jb ((Y.Z b).size b) (dM _) λev f=>?_;have f:=mem_listed f;rw[O] at f;simp at f;subst f;exact .inl ⟨_,rfl,j⟩
 .cases Cf:o.dst<;>exact N
def WO.nil(g:ops.size=k)(h:K aA s):WO P KT An X Hd ops k aA s K:=by intro n S l o i w a m e d c f b j;rw[g,Nat.sub_self,List.range'_zero];exact bv Y.C Y.T<|j aA s i S l w a h (λ_ _ h=>h) e d c f b
end
theorem mo.of(Y:Cy P KT N0 M O R D X Hd)(Bj:∀ (f:FuncId) (aY:Func),P.funcs[f]?=some aY->(aY.name == "runtime.NumGoroutine")=false){args:Array Value}{s':AS}(hf:P.funcs[f]?=some aY)(hb:aY.body=some c)(h:WI P KT An X Hd c (args.toList++List.replicate (aY.ntmps - args.toList.length) undef) s (λe a' s1 => (e=.normal\/e=.ret)/\cN P aY a' s1=some v/\s1=s')):mo P KT An R D X Hd f args s v s':=by
 intro S l fr i w args' hS hF hA oy;refine⟨aY,c,hf,Bj f aY hf,hb,h f S l fr i w _ _ hS hF ?_ I oy ?_⟩
 .have:args.toList.length=args'.size:=by rw[<-hA.1]; simp
  have he:(args.toList++List.replicate (aY.ntmps-args.toList.length) undef).toArray=args++Array.replicate (aY.ntmps-args'.size) undef:=gq
  rw[he];exact (hA.append<|AR.replicate _ eO)
 .rintro e a1 s1 i' S' l' w' a' ⟨hex,hr,rfl⟩ _ h3 h4 h5 h6 _;refine⟨hex,h6,λaL WK=>?_⟩;have B8:=(Y.Z h4).rely h4 WK;have⟨v',hv,Rj⟩:=tQ Y h3 B8 h5 hr;exact⟨v',Rj.1,(Y.Z B8).env.jb ((Y.Z B8).size B8) (dM _) λev rT=>Rj.2 ev<|mem_seen rT,S',l',h3,B8,hv⟩
end
def rQ(c:pr 178=none)(h:(decide (p.length<=l.length)&&ce (l.take p.length) p)=b):Ef pr 178 #[str l,str p] s (.bool b) s:=by
 refine aQ c func178 I<|zs<|zr<|zk 1<|zp (di (l:=l) I underlying9 kq)<|zk 1<|zp (di (l:=p) I underlying9 kq) ?_;by_cases a:p.length<=l.length
 .refine zp (aI (u:=num l.length) (w:=num p.length) I kq kq<|jp<|tD oq)<|zk 3<|zp (di (l:=p) I underlying9 kq)<|zp (iL (l:=l) I underlying9 kq ((show _=bM l.length l.length none (some<|num p.length) by kernel_rfl).trans<|D2 oq oq) I)<|zf<|aE ⟨.inr I,?_,by kernel_rfl⟩;rw[tD a,Bool.true_and] at h;rw[<-h];kernel_rfl
 .refine zp (aI (u:=num l.length) (w:=num p.length) I kq kq<|jp<|fD oq)<|zf<|aE ⟨.inr I,?_,by kernel_rfl⟩;rw[fD a,Bool.false_and] at h;rw[<-h];kernel_rfl
def uy(c:pr 178=none)(a:pr 89=none)(h:(decide (p.length<=l.length)&&ce (l.take p.length) p)=b):Ef pr 89 #[str l,str p] s (.bool b) s:=by exact aQ a func89 I<|zs<|zr<|zk 2<|eM _ kq I I kq kq (rQ c h)<|zf<|aE ⟨.inr I,kq,kq⟩
def H2(a:pr 178=none)(c:pr 340=none)(h:(b=false/\(decide (p.length<=l.length)&&ce (l.take p.length) p)=false/\x=l)\/(b=true/\l=p++x)):Ef pr 340 #[str l,str p] s (.tuple #[str x,.bool b]) s:=by
 refine aQ c func340 I<|zs<|am<|zr<|zk 2 ?_;rcases h with ⟨rfl,h,rfl⟩|⟨rfl,rfl⟩
 .exact eM _ kq I I kq kq (rQ a h)<|zf<|m8 5 .ret kq ⟨.inr I,by kernel_rfl,by kernel_rfl⟩
 .exact eM #[str (p++x),str p] kq I I kq kq (rQ (b:=true) a<|by simp[(eS p p).2 I])<|zf<|cu 5 kq<|zr<|zk 2<|zp (di (l:=p) I underlying9 kq)<|zp (iL (i:=p.length) I underlying9 kq ((show _=bM (p++x).length (p++x).length (some<|num p.length) none by kernel_rfl).trans<|mq oq<|by simp;omega)<|by rw[List.take_length,List.drop_left])<|zf<|aE ⟨.inr I,by kernel_rfl,by kernel_rfl⟩
def rE(a:pr 178=none)(d:pr 340=none)(c:pr 269=none)(h:(b=false/\(decide (p.length<=l.length)&&ce (l.take p.length) p)=false/\x=l)\/(b=true/\l=p++x)):Ef pr 269 #[str l,str p] s (.tuple #[str x,.bool b]) s:=by exact aQ c func269 I<|zs<|zr<|zk 2<|eM _ kq I I kq kq (H2 a d h)<|zf<|aE ⟨.inr I,kq,kq⟩
def jr:Bq->Bq->Option (Bq)
 | [],l=>some l
 | _::_,[]=>none
 | a::p,b::l=>if b.toNat.beq a.toNat then jr p l else none
def iv:∀{p l r:Bq},jr p l=some r->l=p++r
 | [],l,r,h=>by cases h;rfl
 | _::_,[],r,h=>by cases h
 | a::p,b::l,r,h=>by
  unfold jr at h;split at h
  .next e=>rw[iv h,UInt8.toNat_inj.1<|ja e];rfl
  .cases h
theorem pL:∀{p l:Bq},jr p l=none->(decide (p.length<=l.length)&&ce (l.take p.length) p)=false
 | [],l,h=>by cases h
 | _::_,[],h=>iq
 | a::p,b::l,h=>by
  unfold jr at h;have e1:decide ((a::p).length<=(b::l).length)=decide (p.length<=l.length):=iq
  have c:(b::l).take (a::p).length=b::l.take p.length:=I;rw[e1,c];unfold ce;split at h
  .next e=>rw[ip e];exact pL h
  .grind
def XS (args:Aq):Option Value:=match args.toList with
 | [.string x,.string p]=>some<|match jr p.data.toList x.data.toList with
  | some r=>.tuple #[str r,.bool true]
  | none=>.tuple #[.string x,.bool false]
 | _=>none
def XT (args:Aq):Option Value:=match args.toList with
 | [.string x,.string p]=>some<|.bool (jr p.data.toList x.data.toList).isSome
 | _=>none
def Xq:Prim:=lF 178 XT<|lF 269 XS eL
def S8:(decide (p.length<=l.length)&&ce (l.take p.length) p)=(jr p l).isSome:=by
 cases h:jr p l with
 | none=>exact pL h
 | some r=>rw[iv h];simp[(eS p p).2 I]
section
variable {N0:ι->Nat}{M:ι->World->Nat->Prop}{O:ι->Nat->Prop}{R:ι->Wq}{D:ι->World->World->Array Event->Prop}
def s9:AS:=⟨[[none,some<|.cells eZ.toArray 335]],2⟩
def sN (n:Nat):AS:=(Sy.take n).foldl (λs e=>s.add<|.cells (KW e).toArray 334) s9
def nmI:Int->Nat
 | 38=>1
 | 60=>2
 | 62=>3
 | _=>4
def R7(Y:Cy prog dt N0 M O R D X Hd)(g:∀b,2<=b->An b=none)(h1:An 1=some (1,z,e)){t:Bq}{c m:Int}(f:YA t=some (c,m))(k:Int):(sN<|nmI c).get 1=some (.cells eZ.toArray 335)/\mo prog dt An R D X Hd 333 #[str t,num k] s9 (.tuple #[.int .i32 c,num m]) (sN<|nmI c):=by
 have i:cb prog dt An R D X Hd Xq:=by
  refine cb.add Y kq cx cL (m:=2) g (cb.add Y kq cx cL (m:=2) g (pV Y) λa v h=>?_) λa v h=>?_
  .unfold XS at h;split at h
   .next x p d =>
    rw[rZ d];cases hc:jr p.data.toList x.data.toList with
    | none=>simp only[hc] at h;cases h;exact⟨I,I,_,rE I I I<|.inl ⟨I,pL hc,I⟩⟩
    | some r=>simp only[hc] at h;cases h;exact⟨I,I,_,rE I I I<|.inr ⟨I,iv hc⟩⟩
   .cases h
  .unfold XT at h;split at h
   .next x p d =>cases h;rw[rZ d];exact⟨I,I,_,rQ I S8⟩
   .cases h
 unfold YA at f;split at f;iterate 4
  .cases f;refine⟨kq,?_⟩
   .refine mo.of Y cL func333 I ?_;iterate 2 refine bR Y<|fo Y kq cx i cL<|cu 5 kq ?_
    refine bR Y<|bR Y<|WI.region Y<|gg Y cx (v:=.agg eZ.toArray) (s1:=s9) I (λS a h j x d=>?_) kq kq ?_
    .simp[Op.operands] at d;subst d;exact dk<|h _ _ h1
    refine gg Y cx (v:=num 0) (s1:=s9) I (λS a h j x d=>?_) kq kq ?_
    .simp[Op.operands] at d;subst d;exact bn I
    exact WO.nil Y I<|fo Y kq cx i cL<|m8 60 .ret kq ⟨.inr I,kq,kq⟩
 .cases f
def iZ{P:Program}{KT:TypeId->Prop}{s:AS}{b:dQ}{s':AS}(e:b.le An)(h:Sound P KT b R D X Hd f args s v s'):Sound P KT An R D X Hd f args s v s':=by intro S l m i w a c o n d;refine(h S l m i w a ⟨c.live,c.inj,c.lt,cT e c.an⟩ o n d).mono ?_;rintro u x y ⟨k,p,j,q,g,r,t⟩;exact⟨k,p,j,q,⟨g.live,g.inj,g.lt,cT c.an j⟩,r,t⟩
theorem MD(b:Nat):s9.get b=if b=1 then some (.cells eZ.toArray 335) else none:=by
 match b with
 | 0=>rfl
 | 1=>rfl
 | b+2 =>unfold AS.get s9;grind
def D4(Y:Cy prog dt N0 M O R D X Hd)(h1:An 1=some (1,z,e)){x:ByteArray}{c m:Int}(j:YA x.data.toList=some (c,m))(k:Int){s:AS}(i:s.get 1=some (.cells eZ.toArray 335)):Sound prog dt An R D X Hd 333 #[.string x,.int .i64 k] s (.tuple #[.int .i32 c,.int .i64 m]) s:=by
 obtain⟨A,g,a,f⟩:∃A:dQ,(∀b,2<=b->A b=none)/\A 1=some _/\A.le An:=⟨λb=>if b=1 then An b else none,λb d=>iw oq,by simpa using h1,λb y h=>by
  by_cases d:b=1
  .simpa[d] using h
  .simp[d] at h⟩;have⟨g1,g2⟩:=R7 Y g a j k;exact iZ f<|pG (m:=2) Y a g kq MD I g1 i I I g2
end
def AB (rn:Nat)(L:Iq):Prim:=λf=>if f.beq 92 then none else gz rn L f
section
variable {N0:ι->Nat}{M:ι->World->Nat->Prop}{O:ι->Nat->Prop}{R:ι->Wq}{D:ι->World->World->Array Event->Prop}
def xc(Y:Cy P KT N0 M O R D X Hd){m:Nat}{s1:AS}(e:∀b,k<=b->An b=none)(r:∀(S:dQ) a,An.le S->AR (VR S) args a->AR (VR An) args a)(j:gj m v=true)(h:Sound P KT An R D X Hd f args ⟨[],k⟩ v s1):Sound P KT An R D X Hd f args s v s:=by
 intro S l n i w a g q p t;have d:∀b o,(⟨[],k⟩:AS).get b=some o->False:=λb o c=>by unfold AS.get at c;simp at c
 refine(h An [] _ i w a ⟨λb o c=>(d b o c).elim,λb A o E x K c=>(d b o c).elim,λb o c=>(d b o c).elim,aR An⟩ q (r S a g.an p) λb c _=>e b c).mono ?_;rintro B I J ⟨z,C,F,G,H,u,y⟩;refine⟨S,l,aR S,λ_ _=>W,g,mQ Y u,?_⟩;rw[iE j y];exact eu j
end
def rH (c:Nat):Bq:=if c<128 then [UInt8.ofNat c] else qg c
theorem oU{r:Int}(h:Good r):∃c:Nat,r=(c:Int)/\(c<128\/RS c)/\Lib.encodeRune r=rH c:=by
 have U:0<=r:=by rcases h with h|h<;>omega
 obtain⟨c,rfl⟩:=Int.eq_ofNat_of_zero_le U;have a:c<55296\/(57343<c/\c<=1114111):=by rcases h with h|h<;>omega
 refine⟨c,I,?_,?_⟩
 .by_cases h1:c<128
  .exact .inl h1
  .exact .inr ⟨oq,a⟩
 .unfold rH qg Lib.encodeRune;split
  .next h1=>rw[Lib.encodeRuneZ_one oq oq];simp
  .next h1 =>
   split
   .next h2 =>rw[Lib.encodeRuneZ_two oq oq];grind
   .next h2 =>
    split
    .next h3 =>rw[Lib.encodeRuneZ_three oq];grind
    .next h3 =>rw[Lib.encodeRuneZ_four oq oq];grind
def xL(n:c<128)(h:sZ s sl l)(o:l.length<=999999996)(a:pr 275=none):∃f,∃w,Ef pr 275 #[sl,.int .i32 (c:Int)] s w f/\xk s sl l [UInt8.ofNat c] f w:=by
 have e:IntKind.u8.wrap (c:Int)=((UInt8.ofNat c).toNat:Int):=by rw[IntKind.wrap_u8,Vj oq];omega
 generalize UInt8.ofNat c=b at e;have⟨w,j,g,i⟩:=J5 (m:=[b]) (h.add<|.cells (oJ [b]) 5) iq (by simp;omega);exact⟨j,w,aQ a func275 I<|zs<|am<|zr<|zk 1<|zo s<|bV kq ((show _=some (Value.int .u32<|IntKind.u32.wrap (c:Int),s) by kernel_rfl).trans<|by rw[A7 oq])<|zp (aI (u:=.int .u32 (c:Int)) (w:=.int .u32 127) I kq kq<|ck<|tD oq)<|aB<|zH<|zr<|zk 2<|zo s<|bV kq ((show _=some (Value.int .u8<|IntKind.u8.wrap (c:Int),s) by kernel_rfl).trans<|by rw[e])<|zk 1<|zo _<|zp (sf (k:=1) I kq kq kq (by rw[AS.bu,ip I]) (mH h lr) iq g)<|zf (aE ⟨.inr I,by kernel_rfl,by kernel_rfl⟩),i.Au⟩
def yY{b:Nat}{p:Value}(a:pr 84=none)(d:s.get b=some (.cells #[p,.slice none 0 0] 119)):Ef pr 84 #[aF b 0] s (str []) s:=by
 refine aQ a func84 I<|zs<|am<|bO kq kq kq<|zq<|zq<|zq<|zt s<|zu (me (off:=1) I underlying55 I kq d I)<|zq<|zq<|zq<|zq<|zt s<|zu (me (off:=1) I underlying55 I kq d I) ?_;iterate 3 refine zq ?_
 have c:bA prog 55 (aF b 1) s=some (.slice none 0 0):=by unfold bA;simp only[aF,d,underlying55];rfl
 exact cg ⟨dh [(bA prog 55 (aF b 1) s,.slice none 0 0),(bA prog 55 (aF b 1) s,.slice none 0 0)] kq<|by simp[bN,c],_,_,_,_,_,_,I,I,aE ⟨.inr I,kq,kq⟩⟩
def Up (rn i j b p:Nat)(x:Nq):TL:=[aF rn 0,num i,num j,x 3,x 4,x 5,str [],aF b 0,num p]++fW x 9 17
theorem RX:(k<all.length/\∃r,all[k]?=some r/\all[k]?.getD (-1)=r)\/(all.length<=k/\all[k]?.getD (-1) = -1):=gq
def y9(l:Iq)(r:Int):aG (l++[r])=aG l++Lib.encodeRune r:=by simp[aG]
def Dk(l:Iq):(aG l).length<=4*l.length:=by
 induction l with
 | nil=>simp[aG]
 | cons r l a =>
  have h:(Lib.encodeRune r).length<=4:=by unfold Lib.encodeRune;rw[List.length_map];exact(Lib.encodeRuneZ_length r).2
  simp[aG,List.flatMap_cons,lA,lC] at a |-;omega
theorem IV(E:∀r∈all,Good r)(W:4*all.length<=1000000)(i j:Nat)(T:j<=1000000):∃B,Ef (AB rn all) 92 #[aF rn 0,num i,num j] s (str<|aG<|(all.drop i).take<|j-i) B:=by
 suffices hh:∃B,Ef (AB rn all) 92 #[aF rn 0,num i,num j] s (str<|aG<|(all.drop i).take<|j-i) B/\True by grind
 have M:BW (s.add<|.cells _ 119) s.nx s.nx []:=⟨lr,by simp,.pointer none,.slice none 0 0,by rw[AS.bu,ip rfl],.inl rfl,.inl ⟨rfl,rfl⟩⟩;refine cm kq func92 rfl ?_;iterate 2 refine zs ?_
 refine am<|zs<|za (s.add<|.cells #[.pointer none,.slice none 0 0] 119)<|ea (Up rn i j s.nx i) kq ?_;intro O;refine aD<|aN (aZ (Q:=λe o a=>e=.exit 0/\∃d,((d=0/\a=s.add (.cells #[.pointer none,.slice none 0 0] 119))\/(d≠0/\BW a s.nx s.nx (aG<|(all.drop i).take d)))/\(d=0\/i+d<=all.length)/\(all.drop i).take d=(all.drop i).take (j-i)/\∃x,o=Up rn i j s.nx (i+d) x) (λm o a=>∃d,m+d=j-i/\((d=0/\a=s.add (.cells _ 119))\/(d≠0/\BW a s.nx s.nx (aG<|(all.drop i).take d)))/\(d=0\/i+d<=all.length)/\∃x,o=Up rn i j s.nx (i+d) x) ?_ (j-i) _ _ ⟨0,by omega,.inl ⟨rfl,rfl⟩,.inl rfl,O,rfl⟩) ?_
 .rintro m o a ⟨d,V,U,t,x,rfl⟩;have g:EF prog kJ (AB rn all) 146 #[aF rn 0,num (i+d)] a (.int .i32<|all[(i+d)]?.getD (-1)) a:=by
   refine fI I ?_
   simp only [aF]
   grind
  refine am<|zr<|zk 2 ?_;by_cases K:i+d<j
  .refine zp (aI (u:=num ((i+d:Nat):Int)) (w:=num j) rfl kq kq<|cj (b:=true)<|tD oq)<|zk 3<|zo a<|eM _ kq rfl rfl kq kq g ?_;rcases RX (all:=all) (k:=i+d) with ⟨v,r,hr,hrD⟩|⟨v,hrD⟩
   .rw[hrD] at g |-;have H:=E r<|mG hr;obtain⟨c,rfl,l,y⟩:=oU H;have A:BW a s.nx s.nx (aG<|(all.drop i).take d):=by
     rcases U with ⟨rfl,rfl⟩|⟨_,h⟩
     .exact M
     .exact h
    have F:=Dk<|(all.drop i).take d;have n:((all.drop i).take d).length+1<=all.length:=gq
    have⟨N,v2,L,C,P⟩:=Fz (pr:=AB rn all) (en:=rH c) (c:=(c:Int)) kq kq A (λs Y f=>by
     unfold rH;rcases l with l|l
     .rw[ip l];exact xL l f oq kq
     .rw[iw (by have:=l.1;omega)];exact BG l f oq kq kq);have q:(all.drop i).take (d+1)=(all.drop i).take d++[(c:Int)]:=by rw[List.take_add_one,OG,hr];rfl
    rw[<-y,<-y9,<-q] at C;exact zp (aI (u:=.int .i32 (c:Int)) (w:=.int .i32<|-1) rfl kq kq<|dI (b:=true)<|bne_iff_ne.2 oq)<|zf<|zT<|za a<|am<|aD<|zx<|zc 2 g<|zo a<|eM _ kq rfl rfl kq kq L<|aB<|za N<|zx<|zk 1<|zp (dV (i:=((i+d:Nat):Int)) (j:=1) (r:=((i+(d+1):Nat):Int)) rfl kq kq oq oq)<|zf ⟨m-1,by omega,d+1,by omega,.inr ⟨oq,C⟩,.inr oq,aP kq⟩
   .rw[hrD];exact zf<|za a<|zG<|cB ⟨rfl,d,U,t,by rw[tL gq,tL gq],aP kq⟩
  .exact zp (aI (u:=num ((i+d:Nat):Int)) (w:=num j) rfl kq kq<|cj (b:=false)<|fD oq)<|zf<|za a<|zG<|cB ⟨rfl,d,U,t,by rw[show d=j-i by omega],aP kq⟩
 .rintro e o a ⟨rfl,d,U,t,q,x,rfl⟩;rw[q] at U;rcases U with ⟨rfl,rfl⟩|⟨hd,hb⟩
  .rw[<-q,List.take_zero];exact zr<|zc 0 (yY (b:=s.nx) (p:=.pointer none) kq<|by rw[AS.bu,ip rfl])<|zf<|aE ⟨.inr rfl,by kernel_rfl,trivial⟩
  .have I:aG ((all.drop i).take<|j-i)≠[]:=by
    rw[<-q];intro e;have J:i+d<=all.length:=t.resolve_left hd;obtain⟨z,rfl⟩:∃z,d=z+1:=⟨d-1,by omega⟩;have v:i+z<all.length:=oq
    rw[List.take_add_one,OG,gE v] at e;simp only[Option.toList_some] at e;rw[y9] at e;have⟨c,_,_,y⟩:=oU<|E _<|OY v;rw[y] at e
    have:1<=(rH c).length/\(rH c).length<=4:=by unfold rH qg;grind
    have S:=(List.append_eq_nil_iff.1 e).2;grind
   have F:=Dk<|(all.drop i).take<|j-i;have n:((all.drop i).take<|j-i).length<=all.length:=gq
   have⟨X,D,R⟩:=wU (pr:=AB rn all) kq hb I oq;generalize aG ((all.drop i).take<|j-i)=Z at D |-;exact zr<|zc 0 D<|zf<|aE ⟨.inr rfl,by kernel_rfl,trivial⟩
variable {l:Hq}{N Pb B Rb:Nat}{Shun Mz:Loc->Prop}{val:Value}{Ex:Nat->Prop}{w₀ aL:World}
section
variable {Az:Gq}{i:Ph}
variable [ConcR.Payload][ConcX.Payload]
variable [ConcX.Shy (Cfg.Wg<|aH prog N Pb Shun val B Mz) (Cfg.C<|aH prog N Pb Shun val B Mz)]
def Za(F:Cfg.Fit (aH prog N Pb Shun val B Mz)):Cy prog dt (λ_=>N+9) (λ_=>dy<|aH prog N Pb Shun val B Mz) (λ_=>jx<|aH prog N Pb Shun val B Mz) (re<|aH prog N Pb Shun val B Mz) (xE<|aH prog N Pb Shun val B Mz) (XM (aH prog N Pb Shun val B Mz) Az) (λi l w=>HX (aH prog N Pb Shun val B Mz) Ex w₀ all Rb i l w) where
 C:=XM.closed (K:=aH prog N Pb Shun val B Mz)
 T:=tU
 ne:=GL
 Z h:=HX.co F h
theorem GU(F:Cfg.Fit (aH prog N Pb Shun val B Mz))(J:∀r∈all,Good r)(L:4*all.length<=1000000){e1:Nat}(h1:An rn=some (Rb,z1,e1))(h2:An 1=some (1,z2,e2)) :
  cb prog dt An (re<|aH prog N Pb Shun val B Mz) (xE<|aH prog N Pb Shun val B Mz) (XM (aH prog N Pb Shun val B Mz) Az) (λi l w=>HX (aH prog N Pb Shun val B Mz) Ex w₀ all Rb i l w) (AB rn all):=by
 have Y:=Za (Az:=Az) (Ex:=Ex) (w₀:=w₀) (all:=all) (Rb:=Rb) F;constructor
 .intro f g a s v c b h;unfold AB at b;split at b
  .cases b
  .exact si rn all f g a s v c b h
 .intro f g m s v M U h;unfold AB at U;split at U
  .cases U
  next p =>
  unfold gz at U;split at U
  .cases U;simp only at h;split at h
   .next b k d =>
    split at h
    .next j =>
     obtain⟨rfl,K⟩:=j;cases h;rw[rZ d];refine Sound.same Y W λS l I i w a D C A=>?_;obtain⟨O,P,rfl,G,H⟩:=J9 A;obtain⟨g,z,e,o,rfl⟩:=G.ptr;rw[D.an _ _ h1] at o;cases o;rw[H.sc W]
     have:=HX.at (Az:=Az) F oq C k.toNat;grind
    .cases h
   .cases h
  .cases p W
  .cases U;simp only at h;split at h
   .next x k d =>
    split at h
    .next y q =>
     split at h
     .next j =>
      split at h
      .next c n u =>
       cases h;rw[rZ d];have t:y=eZ.toArray:=by apply vp.1;simp[vJ j]
       subst t;exact D4 Y h2 u k q
      .cases h
     .cases h
    .cases h
   .cases h
  .exact (pV Y).sound _ _ _ _ _ _ U h
theorem Ms(F:Cfg.Fit (aH prog N Pb Shun val B Mz))(A:∀r∈all,Good r)(C:4*all.length<=1000000){e1:Nat}(h1:An rn=some (Rb,z1,e1))(h2:An 1=some (1,z2,e2))(Z:1<rn) :
  cb prog dt An (re<|aH prog N Pb Shun val B Mz) (xE<|aH prog N Pb Shun val B Mz) (XM (aH prog N Pb Shun val B Mz) Az) (λi l w=>HX (aH prog N Pb Shun val B Mz) Ex w₀ all Rb i l w) (gz rn all):=by
 have Y:=Za (Az:=Az) (Ex:=Ex) (w₀:=w₀) (all:=all) (Rb:=Rb) F;refine⟨si rn all,λf g a s v W E h=>?_⟩;by_cases o:f=92
 .subst o;cases E;simp only at h;split at h
  .next b T V ha =>
   split at h
   .next D =>
    obtain⟨rfl,O,P,X⟩:=D;cases h;have:a=#[.pointer (sq b),.int .i64 T,.int .i64 V]:=gq
    rw[this];obtain⟨i,rfl⟩:=Int.eq_ofNat_of_zero_le O;obtain⟨j,rfl⟩:=Int.eq_ofNat_of_zero_le P;have⟨s1,n,Q⟩:=IV (rn:=b) (s:=⟨[],b+1⟩) A C i j oq;obtain⟨U,I,q,J,K⟩:∃U:dQ,U.le An/\U b=some (Rb,z1,e1)/\U 1=some (1,z2,e2)/\∀c,b+1<=c->U c=none:=by
     refine⟨λc=>if c=1\/c=b then An c else none,λc x d=>?_,?_,?_,λc D=>?_⟩
     .grind
     .simpa using h1
     .simpa using h2
     .grind
    refine iZ I<|xc Y K (λS t M L=>?_) (m:=1) rfl<|(kr Y kq cx (GU F A C q J) cL n).2 _ _ _ _ _ Q;obtain⟨x',y',z',rfl,d,p,R⟩:=VB L;obtain⟨g,z,e,G,rfl⟩:=d.ptr;rw[M _ _ q] at G;cases G;rw[p.sc rfl,R.sc rfl];refine⟨rfl,λk x y d p=>?_⟩;match k with
    | 0=>cases d;cases p;exact dk q
    | 1=>cases d;cases p;exact bn rfl
    | 2=>cases d;cases p;exact bn rfl
    | k+3=>simp at d
   .cases h
  .cases h
 .exact (GU F A C h1 h2).sound f g a s v W (by unfold AB;rw[iw (by intro e;exact o<|ja e)];exact E) h
end
def ot:Obj->Bool
 | .cells _ t _=>!(t.beq 175)&&!(t.beq 21)
 | .chan _ _ _ _ _ _=>false
 | _=>true
section
variable {S:dQ}
def gh.T5(h:gh P KT An S s l)(c:∀b o,s1.get b=some o->s.get b=some o/\ot o=true)(i:s.nx<=s1.nx):gh P KT An S s1 (l.filter λx=>ot x.2) where
 live b o hb:=by
  have⟨h1,h2⟩:=c b o hb
  have⟨g,z,e,d,j,k,a,m⟩:=h.live b o h1
  refine⟨g,z,e,d,j,List.mem_filter.2 ⟨k,?_⟩,a,m⟩
  unfold OR at a
  split at a
  .
   obtain⟨f,rfl,_⟩:=a;exact h2
  .
   subst a;rfl
  .
   cases h2
  .
   exact a.elim
 inj b b' o d x x' hb tv:=h.inj b b' o d x x' (c b o hb).1 (c b' d tv).1
 lt b o hb:=lL (h.lt b o (c b o hb).1) i
 an:=h.an
end
structure YR(w₀:World)(N Pb:Nat)(Sh:Nat->Prop)(sR:AS)(S0 An:dQ)(l0:Hq):Prop where
 size:w₀.heap.size=N
 xy:gh prog dt An S0 sR l0
 own:∀b o,(b,o)∈l0->b<N/\b≠Pb/\¬Sh b/\w₀.heap[b]?=some o
 nd:(l0.map Prod.fst).Nodup
 tight:∀b o,(b,o)∈l0->∃nm ob z e,sR.get nm=some ob/\S0 nm=some (b,z,e)
structure mE(w₀:World)(N:Nat)(Ek:Nat->Prop)(w:World):Prop where
 tape:w.tape=w₀.tape
 os:w.os=w₀.os
 output:w.output=w₀.output
 size:N+9<=w.heap.size
 old:∀b,b<N->¬Ek b->w.heap[b]?=w₀.heap[b]?
def Oh (w:World):Prop:=3<w.heap.size/\w.cell? ⟨2,239,none⟩=some (.int .u8 3)/\w.cell? ⟨3,0,none⟩=some (.int .u8 128)/\w.cell? ⟨3,1,none⟩=some (.int .u8 191)
def Oh.of(h:Oh w)(e:w.heap.size<=w'.heap.size)(h2:w'.heap[2]?=w.heap[2]?)(h3:w'.heap[3]?=w.heap[3]?):Oh w':=by
 have⟨a,b,c,d⟩:=h;refine⟨oq,?_,?_,?_⟩
 .rw[<-b];unfold World.cell?;rw[h2]
 .rw[<-c];unfold World.cell?;rw[h3]
 .rw[<-d];unfold World.cell?;rw[h3]
def Tb {ι:Type}(M:ι->World->Nat->Prop)(Hd:ι->Hq->World->Prop):Prop:=∀i l w,Hd i l w->M i w 2/\M i w 3/\Oh w
section
variable {Ek:Nat->Prop}{l0:Hq}{sR s':AS}{S0:dQ}{Sh:Nat->Prop}
def mE.low(h:mE w₀ N Ek w)(h1:w'.tape=w.tape)(h2:w'.os=w.os)(h3:w'.output=w.output)(h4:w.heap.size<=w'.heap.size)(hb:∀b,b<N->¬Ek b->w'.heap[b]?=w.heap[b]?):mE w₀ N Ek w' :=
 ⟨h1.trans h.tape,h2.trans h.os,h3.trans h.output,lT h.size h4,λb h5 h6=>(hb b h5 h6).trans<|h.old b h5 h6⟩
def mE.rm(F:Cfg.Fit (aH prog N Pb Shun val B Mz))(h:mE w₀ N Ek w)(r:RM (aH prog N Pb Shun val B Mz) w aL):mE w₀ N Ek aL:=h.low r.tape r.os r.output r.size λb a _=>(BV F).PM r (Aj a)<|by have:=h.size;omega
def mE.kept(h:mE w₀ N Ek w)(c:∀b,Ex b->N<=b)(k:Kept (dy<|aH prog N Pb Shun val B Mz) (jx<|aH prog N Pb Shun val B Mz) Ex w w'):mE w₀ N Ek w':=h.low k.tape k.os k.output k.grow λb a _=>k.low b (Aj a) (by have:=h.size;omega) λz=>by have:=c b z;omega
def mE.aside(h:mE w₀ N Ek w)(r:ConcX.Aside2 N (N+6) w aL):mE w₀ N Ek aL:=h.low r.tape r.os r.output (by rw[r.size];exact lr) λb a _=>r.block b oq oq
theorem mE.alloc(h:mE w₀ N Ek w)(o:Obj):mE w₀ N Ek (w.alloc o):=h.low I I I (by simp_all) λb U _=>Below.heap_alloc _ _ _<|by have:=h.size;omega
def kP(l0:Hq)(b:Nat):Prop:=∃o,(b,o)∈l0
def Yc (w₀:World)(N Pb:Nat)(a:Nat->Prop)(c:Hq):Prop:=Oh w₀/\∀b,b=2\/b=3->b<N/\b≠Pb/\¬a b/\¬kP c b
def Vr(K:Cfg)(w₀:World)(N:Nat)(sR s1:AS)(S0:dQ)(l0:Hq)(Rb:Nat)(w:World):Prop :=
 ∃S' l',gh prog dt S0 S' s1 l'/\(∀b,b<sR.nx\/s1.nx<=b->S' b=S0 b)/\(l'.map Prod.fst).Nodup/\(∀b o,(b,o)∈l'->dy K w b/\w.heap[b]?=some o/\ot o=true/\(b<N->kP l0 b))/\mE w₀ N (kP l0) w
def QI(w₀:World)(N:Nat)(Sh:Nat->Prop)(sR s1:AS)(S0:dQ)(l0:Hq)(w:World):Prop :=
 ∃S' l',gh prog dt S0 S' s1 l'/\(∀b,b<sR.nx\/s1.nx<=b->S' b=S0 b)/\(l'.map Prod.fst).Nodup/\(∀b o,(b,o)∈l'->b<w.heap.size/\b≠N/\b≠N+6/\(b<N->kP l0 b)/\w.heap[b]?=some o)/\mE w₀ N (kP l0) w
theorem vH(y:∀{W:Type} {N0:W->Nat} {M:W->World->Nat->Prop} {O:W->Nat->Prop} {R:W->Wq} {D:W->World->World->Array Event->Prop} {X:W->Gq} {Hd:W->Hq->World->Prop} (_:Cy prog dt N0 M O R D X Hd) (A:dQ),(Yc w₀ N Pb Sh l0->Tb M Hd)->(∀b,b≠sR.nx->A b=S0 b)->cb prog dt A R D X Hd (gz sR.nx all)->cb prog dt A R D X Hd pr)(H:vw w₀ N Pb Sh)(B:YR w₀ N Pb Sh sR S0 An l0)(a1:∀b,sR.nx<=b->b<s'.nx->S0 b=none)(ai:sR.nx<s'.nx){e1:Nat}(h1:S0 1=some (1,z1,e1))(a3:1<sR.nx)(hg:∀r∈all,Good r)(hn:4*all.length<=1000000)
 {c:Code}(aa:prog.funcs[f]?=some aY)(a7:aY.body=some c)(ab:aY.results=#[])(a4:AR (VR S0) xn cap)
 {e:Exit}(af:gx prog kJ pr n c ((aF sR.nx 0::xn.toList)++List.replicate (aY.ntmps-(xn.size+1)) undef) ⟨sR.hp,sR.nx+1⟩=some (e,mD,s'))(he:e=.normal\/e=.ret)
 (a8:∀nm ob,sR.get nm=some ob->∃P,s'.get nm=some P)(ak:∀b o,s1.get b=some o->s'.get b=some o/\ot o=true)(ah:s'.nx<=s1.nx)(a9:∀l,Shun l->∃j:Addr,l=.cell j/\Sh j.block) :
  Client (aH prog N Pb (fV N Shun) val (N+9)<|λ_=>False) N all f cap (mE w₀ N<|λ_=>False) (QI w₀ N Sh sR s1 S0 l0) (Vr (aH prog N Pb (fV N<|λl=>∃j:Addr,l=.cell j/\Sh j.block) val (N+9)<|λ_=>False) w₀ N sR s1 S0 l0):=by
 have up:∀{w:World} {b:Nat},dy (aH prog N Pb (fV N Shun) val (N+9)<|λ_=>False) w b->¬Sh b->dy (aH prog N Pb (fV N<|λl=>∃j:Addr,l=.cell j/\Sh j.block) val (N+9)<|λ_=>False) w b:=λ{w b} h U=>⟨h.1,h.2.1,h.2.2.1,h.2.2.2.1,λj ha hs=>by
  rcases hs with ⟨a,e,z⟩|⟨a,e,z⟩
  .cases e;exact U<|ha▸z
  .exact h.2.2.2.2 j ha<|.inr ⟨a,e,z⟩⟩;have dn:∀{w:World} {b:Nat},dy (aH prog N Pb (fV N<|λl=>∃j:Addr,l=.cell j/\Sh j.block) val (N+9)<|λ_=>False) w b->dy (aH prog N Pb (fV N Shun) val (N+9)<|λ_=>False) w b/\¬Sh b:=λ{w b} h=>⟨⟨h.1,h.2.1,h.2.2.1,h.2.2.2.1,λj ha hs=>by
  rcases hs with z|⟨a,e,z⟩
  .exact h.2.2.2.2 j ha<|.inl<|a9 _ z
  .exact h.2.2.2.2 j ha<|.inr ⟨a,e,z⟩⟩,λU=>h.2.2.2.2 ⟨b,0,none⟩ rfl<|.inl ⟨_,rfl,U⟩⟩;have F:=V2 (val:=val) H a9;have Dx:∀b,b<N->¬Sh b->∀j:Addr,j.block=b->¬fV N Shun (.cell j):=by
  rintro b U hS j rfl (h|⟨a,e,h⟩)
  .grind
  .cases e;omega
 constructor
 .exact λw aL r h=>h.rm F r
 .exact λw cs h=>h.alloc _
 .intro _ _ _ AW Rb w ae u hW;have J:∀b o,(b,o)∈l0->dy (aH prog N Pb (fV N Shun) val (N+9)<|λ_=>False) w b/\w.heap[b]?=some o:=λb o q=>by have⟨d,m,t,E⟩:=B.own b o q;exact⟨Cs d m (Dx b d t) u.size,(u.old b d id).trans E⟩
  have hX:HX (aH prog N Pb (fV N Shun) val (N+9)<|λ_=>False) (λb=>kP l0 b\/N<=b) w all Rb (.front<|V all) (l0++[]) w:=by
   rw[List.append_nil];refine⟨⟨Kept.refl w,u.size,λb o q=>⟨(J b o q).1,(J b o q).2,.inl<|.inl ⟨o,q⟩⟩,B.nd⟩,pf,[],all,false,rfl,.inl ⟨rfl,.inl rfl⟩,hW,λb o q y=>?_,λb y=>?_⟩
   .have:=(B.own b o q).1;rcases y with rfl|y
    .omega
    .cases y
   .rcases y with rfl|y
    .exact .inl<|.inr ae
    .cases y
  have aj:S0 sR.nx=none:=a1 _ lr ai;have p:S0.le (S0.put sR.nx (Rb,0,0)):=ew aj;have aaa:gh prog dt (S0.put sR.nx (Rb,0,0)) (S0.put sR.nx (Rb,0,0)) ⟨sR.hp,sR.nx+1⟩ l0:=by
   refine⟨λb o U=>?_,λb b' o o' x x' U a6 y Bl hxx=>?_,λb o U=>?_,aR _⟩
   .have⟨g,z,e,o',d,m,t,E⟩:=B.xy.live b o U;exact⟨g,z,e,o',p _ _ d,m,t.mono p,E⟩
   .have⟨g,z,e,o3,d,_⟩:=B.xy.live b o U;have⟨g',z',e',o4,m,_⟩:=B.xy.live b' o' a6;rw[p _ _ d] at y;rw[p _ _ m] at Bl;cases y;cases Bl;exact B.xy.inj b b' o o' _ _ U a6 d m hxx
   .have:=B.xy.lt b o U;grind
  have a0:=Ms (Az:=AW) (Ex:=λb=>kP l0 b\/N<=b) (w₀:=w) (An:=S0.put sR.nx (Rb,0,0)) (Rb:=Rb) F hg hn (rn:=sR.nx) eF (p _ _ h1) a3;have Y:=Za (Az:=AW) (Ex:=λb=>kP l0 b\/N<=b) (w₀:=w) (all:=all) (Rb:=Rb) F;have htb:Yc w₀ N Pb Sh l0->Tb (λ_:Ph=>dy<|aH prog N Pb (fV N Shun) val (N+9)<|λ_=>False) (λi l T=>HX (aH prog N Pb (fV N Shun) val (N+9)<|λ_=>False) (λb=>kP l0 b\/N<=b) w all Rb i l T):=by
   intro hT i l T a5;have G:∀b,b=2\/b=3->dy (aH prog N Pb (fV N Shun) val (N+9)<|λ_=>False) T b/\T.heap[b]?=w₀.heap[b]?:=λb U=>by have⟨d,m,t,E⟩:=hT.2 b U;have m0:dy (aH prog N Pb (fV N Shun) val (N+9)<|λ_=>False) w b:=Cs d m (Dx b d t) u.size;exact⟨a5.hl.kept.mine b m0,(a5.hl.kept.block b m0 gq).trans<|u.old b d id⟩
   have al:w₀.heap.size<=T.heap.size:=by have:=u.size;have:=a5.hl.kept.grow;have:=B.size;omega
   exact⟨(G 2<|.inl rfl).1,(G 3<|.inr rfl).1,hT.1.of al (G 2<|.inl rfl).2 (G 3<|.inr rfl).2⟩
  refine⟨aY,c,aa,cL f aY aa,a7,((kr Y kq cx (y Y _ htb (λb U=>by unfold dQ.put;rw[iw U]) a0) cL n).1 c f _ mD _ s' e _ l0 [] (.front<|V all) w _ _ af aaa hX ?_ rfl (λb b1 b2=>?_) ?_).1⟩
  .have ar:xn.size=cap.size:=a4.1;have h2:AR (VR<|S0.put sR.nx (Rb,0,0)) (#[aF sR.nx 0]++xn) (#[.pointer (sq Rb)]++cap):=(fg<|dk eF).append<|a4.mono p;have h3:=h2.append<|AR.replicate (S:=S0.put sR.nx (Rb,0,0)) (x:=undef) (v:=undef) (aY.ntmps-(xn.size+1)) eO;have e1:((aF sR.nx 0::xn.toList)++List.replicate (aY.ntmps-(xn.size+1)) undef).toArray=(#[aF sR.nx 0]++xn)++Array.replicate (aY.ntmps-(xn.size+1)) undef:=gq
   grind
  .have a6:sR.nx+1<=b:=b1;unfold dQ.put;grind
  .intro i' K L T a' r1 r2 r3 r4 r5 r6;rw[List.append_nil] at r4;have⟨v',Uy,Q,Sp,k1,k2,k3,k4,k5⟩:=r4.row;have hhi:∀b,sS Rb v' b->N<=b:=λb U=>by
    rcases k5 b U with (⟨o,q⟩|z)|z
    .have⟨nm,ob,zz,ee,d,m⟩:=B.tight b o q;have⟨P,t⟩:=a8 nm ob d;have⟨g,z3,e3,o3,E,q5,_⟩:=r3.live nm P t;have q6:=r1 _ _<|p _ _ m;grind
    .exact z
    .have:=u.size;omega
   refine⟨he,r6,_,resultsC_none ab _,_,_,v',Uy,Q,Sp,k1,k2,k3,hhi,K,L.filter<|λx=>ot x.2,?_,λb U=>?_,?_,λb o q=>?_,?_⟩
   .have:=r3.T5 ak ah;exact⟨this.live,this.inj,this.lt,cT p r1⟩
   .rw[r2 b (U.imp (λU=>by show b<sR.nx+1;omega)<|λU=>oq)];unfold dQ.put;rw[iw oq]
   .exact(List.filter_sublist.map Prod.fst).nodup r4.hl.nodup
   .have⟨s,C⟩:=List.mem_filter.1 q;have⟨d,m,t⟩:=r4.hl.own b o s;have I:b<N->kP l0 b:=λhbN=>by
     rcases t with (z|z)|z
     .exact z
     .omega
     .have:=u.size;omega
    refine⟨up d λU=>?_,m,C,I⟩;have⟨o2,Ld⟩:=I (H.sh b U).1;exact(B.own b o2 Ld).2.2.1 U
   .have kp:=r4.hl.kept;exact⟨kp.tape.trans u.tape,kp.os.trans u.os,kp.output.trans u.output,lT u.size kp.grow,λb U hk=>(kp.low b (Aj U) (by have:=u.size;omega)<|λz=>z.elim hk oq).trans<|u.old b U id⟩
 .rintro Rb w aL r ⟨K,L,d,m,t,E,q5⟩;refine⟨K,L,d,m,t,λb o q=>?_,q5.rm F r⟩;have⟨s,C,Z,m4⟩:=E b o q;have⟨s,m5⟩:=dn s;exact⟨up ((BV F).stay r s) m5,((BV F).keep r s).trans C,Z,m4⟩
 .rintro Rb ao au v tk en w T hW y k ⟨K,L,d,m,t,E,q5⟩;refine⟨K,L,d,m,t,λb o q=>?_,q5.kept y k⟩;have⟨s,C,Z,m4⟩:=E b o q;have Z4:¬sS Rb v b:=by
   rintro(rfl|U)
   .rw[hW.rb] at C;cases C;simp[ot] at Z
   .rcases hW.ro.row.2 with ⟨z,_⟩|⟨g,cp,aq,z,_,ag,_⟩
    .rw[z] at U;cases U
    .rw[z] at U;cases U;rw[ag] at C;cases C;simp[ot] at Z
  have⟨s,m5⟩:=dn s;exact⟨up (k.mine b s) m5,(k.block b s Z4).trans C,Z,m4⟩
 .rintro Rb w ⟨K,L,d,m,t,E,q5⟩;refine⟨K,L,d,m,t,λb o q=>?_,q5⟩;have⟨s,C,Z,m4⟩:=E b o q;refine⟨s.1,λe=>s.2.1<|.inl e,λe=>s.2.2.2.1<|.inr<|.inr e,m4,C⟩
end
variable {Post:Value->World->Prop}
section
variable {S:Nat->Prop}{cp:JW}{s:ByteArray}
def Po(H:vw w₀ N Pb S)(j:cp.l=[]\/Pb<N/\oD Pb cp w₀)(x:∃d c,cp.v=.slice d cp.l.length c)(u:s.size<=20000)(g:∀p∈cp.l,p.size<=20000)(i:cp.l.length<=9223372036854775806)(b:cp.l.flatMap bytesOf=bytesOf s)(Shun:Loc->Prop)(w:World)[ConcR.Payload][ConcX.Payload](a:He w₀ (pg N cp.v 62<|Km N) w):XK (aH prog N Pb (fV N Shun) cp.v (N+9)<|λ_=>False) (true,V<|dH s) (born prog<|ll N) w:=by
 obtain rfl:=H.size;have m:HB w₀.heap.size _ w:=⟨a.blocks 1 _ I,a.blocks 3 _ I,a.blocks 5 _ I,a.blocks 7 _ I,a.blocks 8 _ I⟩;have f:Pb<w₀.heap.size+9:=by rcases H.plo with h|h<;>omega
 have q:HQ w₀.heap.size Pb cp w:=by
  refine⟨a.blocks 0 _ I,?_,f⟩;rcases j with h|⟨h1,h2⟩
  .have⟨d,c,e⟩:=x;exact⟨d,c,e,λk p n=>by rw[h] at n;simp at n⟩
  .exact h2.of<|a.old Pb h1
 refine Rm m λo r=>?_
 have:=ES (Shun:=fV w₀.heap.size Shun) (B:=w₀.heap.size+9) (Mz:=λ_=>False) (m.rc r) (q.rc r) (λp t=>by have:=g p t;omega) i;rw[Cm b] at this;simpa using this
theorem EU{A Fw:World->Prop}{I:Nat->World->Prop}(H:vw w₀ N Pb S)(E:cp.l=[]\/Pb<N/\oD Pb cp w₀)(q:∃i c,cp.v=.slice i cp.l.length c)(F:s.size<=20000)(B:∀p∈cp.l,p.size<=20000)(D:cp.l.length<=9223372036854775806)(u:cp.l.flatMap bytesOf=bytesOf s)
 (o:∀a:Loc->Prop,(∀l,a l->∃i:Addr,l=.cell i/\S i.block)->Client (aH prog N Pb (fV N a) cp.v (N+9)<|λ_=>False) N (dH s) f cap A Fw I)(n:∀w,He w₀ (pg N cp.v 62<|Km N) w->A w)(z:∀w g,ConcX.Aside2 N (N+6) w g->Fw w->Fw g) :
  fx prog (ZI prog Post 0) 37 #[cp.v,.func (.func f) #[] cap] S w₀ (λt x r=>x=.tuple #[]/\t=SE N S/\Fw r/\r.heap[N+6]?=some (.cells #[.int .u64 0,.int .u32 0] 169)):=by
 have⟨O,L⟩:=cp;have⟨i,K,e⟩:=id q;simp only at e;subst e;simp only at o n |-;have C:cC prog true (λ_:Nat->Prop=>AtRel) DZ (ZI prog Post 0):=ZI.closed;have T:=tV;have M:∀w m,(Instr.makeFunc (Fn.func 62) #[] #[Value.pointer (sq N)]).events prog w m=m:=λw m=>by simp[Instr.makeFunc]
 obtain rfl:=H.size;have b:=He.start w₀;refine iu func37 rq W ?_;refine bY C T<|aW C T ?_;simp only[iB];refine aM C W rq λ_ d j U=>?_;replace b:=gd b d;clear d;go_simp;try (unfold stored;go_simp)
 refine U _ _ ⟨?_,?_⟩
 .intro e G;have J:=mem_listed G;simp[go_sem, *] at J
 try walk_nrm
 have k:=b.size;simp only[k];clear k;replace b:=b.alloc<|.cells #[(.slice i L.length K)] 62;simp only[List.nil_append] at b;refine bv C T ?_;refine aW C T ?_;simp only[iB,Nat.reduceAdd];refine aM C W rq λ_ d j U=>?_;replace b:=gd b d;clear d;go_simp;try (unfold stored;go_simp)
 refine U _ _ ⟨?_,?_⟩
 .co_still (T _)
 try walk_nrm
 refine aM C W rq λ_ d j U=>?_;replace b:=gd b d;clear d;go_simp;try (unfold stored;go_simp)
 refine U _ _ ⟨?_,?_⟩
 .co_quiet (T _)
 try walk_nrm
 refine jS C T W rq W W (by simp[Act.eval]) W (Ru (f:=f) (fr:=62) H b (by have:=uB s;omega) (λa w _ _ h=>Po H E q F B D u a w h) o n z) ?_;rintro _ _ _ ⟨rfl,h1,h2⟩;exact bv C T ⟨.inl W,W,_,resultsC_none rq _,W,W,h1,h2⟩
end
section
variable {N0:Nat}{M:World->Nat->Prop}{O:Nat->Prop}{R:Wq}{D:World->World->Array Event->Prop}{H:Hq->World->Prop}{p:Prop}
def JB(a:p)(Z:Co KT N0 M O R D H):Co KT N0 M O R D (λl w=>p/\H l w) where
 env:=Z.env
 rely h r:=⟨a,Z.rely h.2 r⟩
 size h:=Z.size h.2
 own h hm:=Z.own h.2 hm
 nodup h:=Z.nodup h.2
 grown h hO:=⟨a,Z.grown h.2 hO⟩
 turn h hO hb hk:=⟨a,Z.turn h.2 hO hb hk⟩
 perm h q:=⟨a,Z.perm h.2 q⟩
 drop h:=⟨a,Z.drop h.2⟩
 past h k hs:=⟨a,Z.past h.2 k hs⟩
 call h h':=⟨a,Z.call h.2 h'⟩
end
abbrev Zx:=(Nat->Prop) × Nat
def uI (Ex:Nat->Prop)(w₀:World)(j:Zx)(l:Hq)(w:World):Prop:=((∀b,j.1 b->b<j.2)/\∀b,j.1 b->w₀.heap.size<=b)/\HL (oc j.1) (λ_=>False) j.2 Ex w₀ l w
def Sl:Cy prog dt (λj:Zx=>j.2) (λj=>oc j.1) (λ_ _=>False) (λ_=>AtRel) (λj=>DZ j.1) (λj=>ZI prog Post 0 j.1) (uI Ex w₀) where
 C:=⟨λh r=>(ZI.closed).rely h r,λa h=>(ZI.closed).step a h⟩
 T j:=tV j.1
 ne:=GL
 Z h:=JB h.1<|HL.co<|Sz h.1.1
def AS.keeps(s s':AS):Bool:=(List.range s.nx).all λb=>(s.get b).isNone||(s'.get b).isSome
section
def qq{S:Nat->Prop}{o:(Nat->Prop)->Value->World->Prop}{p:Zx->Value->World->Prop}(h:fx prog (ZI prog Post 0) f args S w o)(B:∀d v i,o d v i->∃m,∀a,AtRel i a->p (d,m) v a) :
  lh prog (λ_:Zx=>AtRel) (λj=>DZ j.1) (λj=>ZI prog Post 0 j.1) f args (S,n) w p:=by
 have⟨g,c,h1,h2,h3,x⟩:=h;refine⟨g,c,h1,h2,h3,λb k u y A z=>x b k u y A λd e t i q=>?_⟩;have⟨C,D,v,s,E⟩:=q;have⟨m,l⟩:=B d v i E
 have:=z _ e t i ⟨C,D,λa r=>⟨v,(s a).1,by rw[(s a).2];exact(tV d).idle _,l a r⟩⟩;cases e<;>exact this
def xH(od:AS->AS):Prop:=∀s:AS,(od s).nx=s.nx/\∀b o,(od s).get b=some o->s.get b=some o/\ot o=true
def JE (Ex:Nat->Prop)(w₀:World):Prop:=¬Ex 2/\¬Ex 3/\Oh w₀
theorem XN(h:JE Ex w₀):Tb (λj:Zx=>oc j.1) (uI Ex w₀):=by
 rintro j l w ⟨⟨i,U⟩,c⟩;have⟨h2,h3,d⟩:=h;have f:=d.1;have a:∀b,b=2\/b=3->oc j.1 w b/\w.heap[b]?=w₀.heap[b]?:=λb g=>by have e:oc j.1 w₀ b:=⟨oq,λz=>by have:=U b z;omega⟩;exact⟨c.kept.mine b e,c.kept.block b e gq⟩
 exact⟨(a 2<|.inl I).1,(a 3<|.inr I).1,d.of c.kept.grow (a 2<|.inl I).2 (a 3<|.inr I).2⟩
def Vs (s:AS)(pv:Value)(ps:List ByteArray)(sB:AS):Prop:=(pv=.slice none 0 0/\ps=[]/\sB=s)\/∃bp c0 cs fz,pv=.slice (some ⟨bp,0,none⟩) ps.length c0/\s.get bp=some (.cells cs 9 fz)/\(∀(k:Nat) (p:ByteArray),ps[k]?=some p->cs[k]?=some (.string p))/\sB=s.set bp none
open Classical in
theorem Xh{e1:Nat}(h1:An 1=some (1,z1,e1)){s E:AS}(bf:1<s.nx){ps:List ByteArray}{sB:AS}{y:Aq}(ai:Vs s pv ps sB)(hf:prog.funcs[f]?=some aY){str:ByteArray}{c:Code}(ao:ps.flatMap bytesOf=bytesOf str)(bc:∀p∈ps,p.size<=20000)(bd:ps.length<=9223372036854775806)(af:aY.body=some c)(bi:aY.results.toList.isEmpty=true)(az:mV str.data.toList 0<=20000){S:dQ}
 (be:∀{ι:Type} {N0:ι->Nat} {M:ι->World->Nat->Prop} {O:ι->Nat->Prop} {R:ι->Wq} {D:ι->World->World->Array Event->Prop} {X:ι->Gq} {Hd:ι->Hq->World->Prop} (_:Cy prog dt N0 M O R D X Hd) (A:dQ),(JE Ex w₀->Tb M Hd)->(∀b,b≠s.nx->A b=S b)->cb prog dt A R D X Hd (gz s.nx<|dH str)->cb prog dt A R D X Hd pr){od:AS->AS}(ae:xH od){e:Exit}(b8:gx prog kJ pr n c ((aF s.nx 0::y.toList)++List.replicate (aY.ntmps-(y.size+1)) undef) ⟨sB.hp,s.nx+1⟩=some (e,mD,E))(bm:s.nx+1<=E.nx)(aa:AS.keeps sB E=true)(he:e=.normal\/e=.ret)
 {l fr:Hq}{j:Zx}(H:gh prog dt An S s l)(hF:uI Ex w₀ j (l++fr) w)(hA:AR (VR S) #[pv,.func (.func f) #[] y] args')(b9:∀b,s.nx<=b->b<E.nx->S b=none) :
  lh prog (λ_:Zx=>AtRel) (λj=>DZ j.1) (λj=>ZI prog Post 0 j.1) 37 args' j w λi' v' w'=>∃Z l',S.le Z/\(∀b,b<s.nx\/(od E).nx<=b->Z b=S b)/\gh prog dt An Z (od E) l'/\uI Ex w₀ i' (l'++fr) w'/\VR Z (.tuple #[]) v':=by
 have ab:sB.nx=s.nx:=by rcases ai with ⟨_,_,rfl⟩|⟨bp,c0,cs,fz,_,_,_,rfl⟩<;>rfl
 have⟨a5,nB⟩:=sB;have ab:nB=s.nx:=ab;subst ab;have uN:str.size<=20000:=by rw[kg,Nat.zero_add,Hh] at az;exact az
 have aj:aY.results=#[]:=gq
 obtain⟨a0,a1,rfl,v0,v1⟩:=J9 hA;obtain⟨p',cap,rfl,yu,Td⟩:=v1.fn;have WJ:p'=#[]:=by apply vp.1;have:=yu.1;simp at this;exact List.eq_nil_of_length_eq_zero<|by simpa using this.symm
 subst WJ;obtain⟨⟨hj,ag⟩,m⟩:=hF;have hlw:∀a d x,s.get a=some d->S a=some x->x.1<w.heap.size/\¬j.1 x.1:=λa d x C I=>by have⟨g,z,e,o',P,r2,_,_⟩:=H.live a d C;rw[I] at P;cases P;exact(m.own _ _<|yC _ r2).1
 obtain⟨u,cp,aq,a6,U,av,ax,bl,aw,au⟩:∃(u:Nat) (cp:JW),cp.v=a0/\cp.l=ps/\(∀a d,(⟨a5,s.nx⟩:AS).get a=some d->s.get a=some d)/\(u<w.heap.size\/u=w.heap.size+1)/\¬j.1 u/\(∀a d x,(⟨a5,s.nx⟩:AS).get a=some d->S a=some x->x.1≠u)/\(cp.l=[]\/u<w.heap.size/\oD u cp w)/\((∃o,(u,o)∈l++fr)\/u=w.heap.size+1):=by
  rcases ai with ⟨rfl,rfl,ay⟩|⟨bp,c0,cs,fz,rfl,hb,b6,ay⟩<;>rw[ay]
  .refine⟨w.heap.size+1,⟨a0,[]⟩,rfl,rfl,λ_ _ h=>h,.inr rfl,λz=>?_,λa d x C I e=>?_,.inl rfl,.inr rfl⟩
   .have:=hj _ z;have:=m.size;omega
   .grind
  .obtain⟨u,zP,eP,cp,ak,rfl,_,_,_,_⟩:=v0.sl;have⟨kk,oP,hk,iX,O7,Ip,Is⟩:=H.at (fr:=fr) hb ak;obtain⟨csP,rfl,hzP,⟨hleP,_⟩,K⟩:=Ip;have F:(u,Obj.cells csP 9)∈l++fr:=mG O7;have⟨ZW,hgP,_⟩:=m.own _ _ F;have U:∀a d,(s.set bp none).get a=some d->a≠bp/\s.get a=some d:=λa d hq=>by rw[AS.aU] at hq;grind
   refine⟨u,⟨.slice (sq u) ps.length cp,ps⟩,rfl,rfl,λa d h=>(U a d h).2,.inl ZW.1,ZW.2,λa d x C I e=>(U a d C).1<|H.inj a bp d _ _ _ (U a d C).2 hb I ak e,.inr ⟨ZW.1,_,_,rfl,λk p hkp=>⟨0,rfl,?_⟩⟩,.inl ⟨_,F⟩⟩;have h0:=b6 k p hkp;have T:k<csP.size:=gq
   have:=(K k _ _ h0<|gF T).sc rfl;simp[World.cell?,hgP,this,T]
 let a3:Nat × Obj->Prop:=λq=>∃a d z e,(⟨a5,s.nx⟩:AS).get a=some d/\S a=some (q.1,z,e);have hH:vw w w.heap.size u j.1:=⟨rfl,av,λb J=>⟨lL (hj b J) m.size,λe'=>ax<|e'▸J⟩⟩;have Zw:YR w w.heap.size u j.1 (⟨a5,s.nx⟩:AS) S An (l.filter λq=>decide (a3 q)):=by
  refine⟨rfl,⟨λb o a9=>?_,λb b' o o' q q' a9 S9=>H.inj b b' o o' q q' (U b o a9)<|U b' o' S9,λb o a9=>H.lt b o<|U b o a9,H.an⟩,λb o t=>?_,?_,λb o t=>?_⟩
  .have⟨g,z,e,o',C,I,q3,q4⟩:=H.live b o<|U b o a9;grind
  .have⟨m1,m2⟩:=List.mem_filter.1 t;have⟨a,d,z,e,C,I⟩:=of_decide_eq_true m2;have⟨m3,m4,_⟩:=m.own b o<|yC _ m1;grind
  .have ah:=m.nodup;grind
  .grind
 obtain⟨bj,bk,ar⟩:∃ad c,cp.v=.slice ad cp.l.length c:=by
  rcases aw with h|⟨_,ad,c,e,_⟩
  .rw[aq,h];rw[a6] at h;rcases ai with ⟨rfl,_,_⟩|⟨bp,c0,cs,fz,rfl,_⟩
   .exact⟨_,_,v0.sc rfl⟩
   .have⟨_,_,_,_,_,e,_⟩:=v0.sl;grind
  .exact⟨ad,c,e⟩
 have⟨hg,ba⟩:=Ah str uN;have L:∀a d,(⟨a5,s.nx⟩:AS).get a=some d->∃L0,E.get a=some L0:=λa d hq=>by
  unfold AS.keeps at aa
  have:=fa aa (i:=a)<|H.lt a d<|U a d hq;rw[hq] at this;simp only[Option.isNone_some,Bool.false_or] at this;exact Option.isSome_iff_exists.1 this
 have bg:JE Ex w₀->Yc w w.heap.size u j.1 (l.filter λq=>decide (a3 q)):=by
  intro hT;have⟨_,_,We⟩:=XN hT j _ w ⟨⟨hj,ag⟩,m⟩;have⟨x2,x3,Zz⟩:=hT;have iX:=Zz.1;have hlw:=We.1;have ex:∀b,b=2\/b=3->¬(Ex b\/w₀.heap.size<=b):=λb hb=>gq
  refine⟨We,λb hb=>⟨oq,λe=>?_,λz=>by have:=ag b z;omega,?_⟩⟩
  .rcases au with ⟨o,t⟩|hp
   .exact ex b hb<|e▸(m.own _ _ t).2.2
   .omega
  .rintro⟨o,t⟩;exact ex b hb (m.own _ _<|yC _ (List.mem_filter.1 t).1).2.2
 have b5:=λ(Shun:Loc->Prop) (b4:∀l,Shun l->∃ad:Addr,l=.cell ad/\j.1 ad.block) =>vH (sR:=(⟨a5,s.nx⟩:AS)) (all:=dH str) (λY A hT hA hp=>be Y A (λz=>hT<|bg z) hA hp) (val:=cp.v) (s':=E) (s1:=od E) hH Zw (λb b1 Q=>b9 b b1 Q) gq (H.an _ _ h1) bf hg ba hf af aj Td b8 he L (ae E).2 (Nat.le_of_eq (ae E).1.symm) b4;have hof:=EU (Post:=Post) (cp:=cp) (A:=mE w w.heap.size<|λ_=>False) (Fw:=QI w w.heap.size j.1 (⟨a5,s.nx⟩:AS) (od E) S<|l.filter λq=>decide (a3 q)) hH aw ⟨_,_,ar⟩ uN (a6.symm▸bc) (a6.symm▸bd) (a6.symm▸ao) b5 (λw1 G=>⟨G.tape,G.os,G.output,by rw[G.size];simp[pg],λb J _=>G.old b J⟩) (λw1 w2 r hq=>by have⟨Z,l',C,I,q3,q4,W⟩:=hq;refine⟨Z,l',C,I,q3,λb o t=>?_,W.aside r⟩;have⟨m1,m2,m3,m4,m5⟩:=q4 b o t;exact⟨by rw[r.size];exact m1,m2,m3,m4,(r.block b m2 m3).trans m5⟩);rw[aq] at hof;refine qq (n:=j.2) hof ?_;rintro Z v w' ⟨rfl,rfl,⟨S2,l',C,I,q3,q4,W⟩,q6⟩;have ah:=m.nodup;rw[Dy,List.nodup_append] at ah;have⟨Z1,Le,V⟩:=ah;have N:∀b,kP (l.filter λq=>decide (a3 q)) b->∃o,(b,o)∈l:=λb ⟨o,t⟩=>⟨o,(List.mem_filter.1 t).1⟩;have B:w.heap.size<=w'.heap.size:=gq
 have b3:HL (oc<|SE w.heap.size j.1) (λ_=>False) (w.heap.size+7) Ex w₀ (l'++fr) w':=by
  refine⟨⟨W.tape.trans m.kept.tape,W.os.trans m.kept.os,W.output.trans m.kept.output,lT m.kept.grow B,λb a4 al=>?_,λb a4=>⟨lL a4.1<|lT m.kept.grow B,a4.2⟩,λb z=>z.elim⟩,by have:=W.size;omega,λb o t=>?_,?_⟩
  .have a8:b<w.heap.size:=lL a4.1 m.kept.grow;have Z2:¬kP (l.filter λq=>decide (a3 q)) b:=λz=>by
    have⟨o,t⟩:=N b z;rcases(m.own b o<|yC _ t).2.2 with z|z
    .exact al z
    .have:=a4.1;omega
   exact(W.old b a8 Z2).trans (m.kept.block b ⟨a4.1,λz=>a4.2<|.inl z⟩ al)
  .rcases List.mem_append.1 t with t|t
   .have⟨m1,m2,m3,m4,m5⟩:=q4 b o t;by_cases a8:b<w.heap.size
    .have⟨o2,a7⟩:=N b<|m4 a8;have⟨P,r2,r3⟩:=m.own b o2<|yC _ a7;exact⟨⟨m1,λz=>z.elim P.2 m3⟩,m5,r3⟩
    .refine⟨⟨m1,λz=>z.elim (λz=>?_) m3⟩,m5,.inr<|by have:=m.kept.grow;omega⟩
     have:=hj b z
     have:=m.size;omega
   .have⟨P,r2,r3⟩:=m.own b o<|GF _ t;have Z2:¬kP (l.filter λq=>decide (a3 q)) b:=λz=>by have⟨o2,a7⟩:=N b z;exact V b (List.mem_map.2 ⟨_,a7,rfl⟩) b (List.mem_map.2 ⟨_,t,rfl⟩) rfl
    refine⟨⟨lL P.1 B,λz=>z.elim P.2<|λz=>?_⟩,(W.old b P.1 Z2).trans r2,r3⟩
    have:=P.1;omega
  .rw[Dy,List.nodup_append];refine⟨q3,Le,λx hx y hy bh=>?_⟩;subst bh;obtain⟨⟨b,o⟩,t,rfl⟩:=List.mem_map.1 hx;obtain⟨⟨Q,o2⟩,a7,e2⟩:=List.mem_map.1 hy;have e2:Q=b:=e2;subst e2;have a8:=(m.own Q o2<|GF _ a7).1.1;have⟨o3,ZV⟩:=N Q<|(q4 Q o t).2.2.2.1 a8;exact V Q (List.mem_map.2 ⟨_,ZV,rfl⟩) Q (List.mem_map.2 ⟨_,a7,rfl⟩) rfl
 refine⟨w.heap.size+7,λaL r=>⟨S2,l',C.an,I,⟨C.live,C.inj,C.lt,cT H.an C.an⟩,⟨⟨λb z=>?_,λb z=>?_⟩,b3.rely (Sz (KT:=dt)<|λb z=>?_) r⟩,?_⟩⟩
 .rcases z with z|z
  .have:=hj b z;have:=m.size;omega
  .omega
 .rcases z with z|z
  .exact ag b z
  .have:=m.kept.grow;omega
 .rcases z with z|z
  .have:=hj b z;have:=m.size;omega
  .omega
 .exact ij AR.nil
end
end
section
variable [Inhabited KC]
variable {v:Value}{pr:Prim}
variable {b k n r0 rn z1:Nat}{pv x:Value}{cs:Aq}{t:TypeId}{fz:Nat × Nat}{c:Code}{sj:Prim}{a0 aA:TL}{ps:List ByteArray}
def nf (n:Nat):Value->Bool
 | .pointer (some ⟨b,_,none⟩)=>Nat.blt b n
 | .slice (some ⟨b,_,none⟩) _ _=>Nat.blt b n
 | .map none=>true
 | v=>fs v
def Ro (n:Nat):Value->Bool
 | .func _ x y=>x.toList.all (nf n)&&y.toList.all (nf n)
 | v=>nf n v
theorem zL{a:Nat}(h:Nat.blt a b=true):a<b:=by simp_all
def VR.qo{S S':dQ}(a:nf n x=true)(h:∀b,b<n->S b=S' b)(c:VR S x v):VR S' x v:=by
 unfold nf at a;split at a
 .obtain⟨g,z,e,h1,rfl⟩:=c.ptr;exact dk<|(h _<|zL a).symm.trans h1
 .have⟨d,c⟩:=c;cases d with
  | zero=>exact c.elim
  | succ d =>obtain⟨g,z,e,f,h1,h2⟩:=c;exact⟨1,g,z,e,f,(h _<|zL a).symm.trans h1,h2⟩
 .obtain⟨p,n,c,rfl⟩:=c.YE;exact xg
 .rw[c.sc a];exact bn a
theorem OR.qo{S S':dQ}{z:Nat}{o':Obj}(a:cs.toList.all (nf n)=true)(h:∀b,b<n->S b=S' b)(c:OR S z (.cells cs t fz) o'):OR S' z (.cells cs t fz) o':=by rw[aT] at a;have⟨U,f,g,j,k⟩:=c;exact⟨U,f,g,j,λi x y d e=>(k i x y d e).qo (a x gq) h⟩
def VD.qo{S S':dQ}{d:Nat}(a:nf n x=true)(h:∀b,b<n->S b=S' b)(c:VD S d x v):VD S' d x v:=by
 cases d with
 | zero=>exact c.elim
 | succ d =>
  unfold nf at a;split at a
  .have⟨g,z,e,h1,h2⟩:=c;exact⟨g,z,e,(h _<|zL a).symm.trans h1,h2⟩
  .have⟨g,z,e,f,h1,h2⟩:=c;exact⟨g,z,e,f,(h _<|zL a).symm.trans h1,h2⟩
  .unfold VD at c |-;exact c
  .have:=bn (S:=S') a;have e:=VR.sc a ⟨d+1,c⟩;subst e;have⟨j,i⟩:=this;unfold VD;split<;>first|exact⟨a,rfl⟩|(simp[fs] at a)
theorem VR.RV{S S':dQ}(U:Ro n x=true)(h:∀b,b<n->S b=S' b)(c:VR S x v):VR S' x v:=by
 unfold Ro at U;split at U
 .have⟨d,c⟩:=c;cases d with
  | zero=>exact c.elim
  | succ d =>
   have⟨g,j,h1,h2,h3⟩:=c;rw[vy,aT,aT] at U;refine⟨d+1,g,j,h1,⟨h2.1,λi a b e f=>(h2.2 i a b e f).qo (U.1 a ?_) h⟩,⟨h3.1,λi a b e f=>(h3.2 i a b e f).qo (U.2 a ?_) h⟩⟩
   .grind
   .grind
 .exact c.qo U h
def AS.AY(s:AS):Bool:=(List.range s.nx).all λb=>match s.get b with
 | some (.cells cs _ _)=>cs.toList.all<|nf s.nx
 | _=>true
variable {ι:Type}{P:Program}{KT:TypeId->Prop}{An:dQ}{kt:TypeId->Bool}{s:AS}
section
variable {N0:ι->Nat}{M:ι->World->Nat->Prop}{O:ι->Nat->Prop}{R:ι->Wq}{D:ι->World->World->Array Event->Prop}{X:ι->Gq}{Hd:ι->Hq->World->Prop}{f:FuncId}{args:Aq}
theorem xd(Y:Cy P KT N0 M O R D X Hd){c:Nat}{s0 s1:AS}(a5:∀b,k<=b->An b=none)(hk:k<=s.nx)(a3:cs.toList.all (nf s.nx)=true)(a9:∀b,s0.get b=if b=c then some (.cells cs t fz) else none)(a7:s0.nx=s.nx)(aa:s1.get c=some (.cells cs t fz))(I:s.get c=some (.cells cs t fz))(ha:args.toList.all (nf s.nx)=true)(hv:fs v=true)(h:Sound P KT An R D X Hd f args s0 v s1):Sound P KT An R D X Hd f args s v s:=by
 intro S l u i w n d hF hA ab;rw[aT] at ha;have⟨g,z,e,m,J,q2,q3,q4⟩:=d.live c _ I;have C:=d.lt c _ I;let T:dQ:=λb=>if b<s.nx then S b else none;have A:∀b,b<s.nx->S b=T b:=λb U=>by show S b=if b<s.nx then S b else none;rw[ip U]
 have⟨q,r,hl⟩:=List.append_of_mem q2;have E:(q++(g,m)::r).Perm ([(g,m)]++(q++r)):=List.perm_middle;have L:Hd i ([(g,m)]++((q++r)++u)) w:=(Y.Z hF).perm hF (by
  rw[hl,<-uW];exact(E.append_right u).symm);have H:∀b o,s0.get b=some o->b=c/\o=.cells cs t fz:=λb o U=>by
  rw[a9] at U;split at U
  .next e=>cases U;exact⟨e,rfl⟩
  .cases U
 have a4:gh P KT An T s0 [(g,m)]:=by
  refine⟨λb o U=>?_,λb b' o m x x' U Q _ _ _=>by rw[(H b o U).1,(H b' m Q).1],λb o U=>by rw[(H b o U).1,a7];exact C,λb x F=>?_⟩
  .obtain⟨rfl,rfl⟩:=H b o U;exact⟨g,z,e,m,(A _ C).symm.trans J,by simp,q3.qo a3 A,q4⟩
  .by_cases U:b<s.nx
   .rw[<-A b U];exact d.an b x F
   .rw[a5 b oq] at F;cases F
 refine(h T [(g,m)] ((q++r)++u) i w n a4 L ⟨hA.1,λj x y F hy=>(hA.2 j x y F hy).qo (ha x gq) A⟩ λb U _=>?_).mono ?_
 .show(if b<s.nx then S b else none)=none;rw[iw oq]
 .rintro i' v' w' ⟨S',l',r1,r2,r3,r4,r5⟩;have⟨g2,z2,e2,G,p1,p2,p3,p4⟩:=r3.live c _ aa;have he:(g2,z2,e2)=(g,z,e):=gq
  cases he;have⟨V,W,a6⟩:=List.append_of_mem p2;have p:(V++(g,G)::W).Perm ((V++W)++[(g,G)]):=List.perm_middle.trans (List.perm_append_singleton _ _).symm;have N:Hd i' ((V++W)++(([(g,G)]++(q++r))++u)) w':=(Y.Z r4).perm r4 (by
   rw[a6]
   have:=(p.append_right<|(q++r)++u).symm;simpa[uW] using this);refine⟨S,[(g,G)]++(q++r),aR S,λ_ _=>rfl,⟨λb o U=>?_,d.inj,d.lt,d.an⟩,mQ Y N,?_⟩
  .have⟨gb,zb,eb,ob,K,a,u3,u4⟩:=d.live b o U;by_cases B:b=c
   .subst B;rw[I] at U;cases U;rw[J] at K;cases K;exact⟨g,z,e,G,J,by simp,p3.qo a3 λb U=>by rw[A b U];exact r2 b<|.inl oq,u4⟩
   .rw[hl] at a;have a8:gb≠g:=λe'=>B<|d.inj b c o _ _ _ U I K J e';refine⟨gb,zb,eb,ob,K,?_,u3,u4⟩;rcases List.mem_append.1 a with a|a
    .simp[a]
    .rcases pS.1 a with a|a
     .cases a;exact absurd rfl a8
     .simp[a]
  .rw[r5.sc hv];exact bn hv
theorem uG{s':AS}(a6:∀b,s.nx<=b->An b=none)(N:s.AY=true)(M:args.toList.all (Ro s.nx)=true)(a9:s.nx<=s'.nx)
 (h:∀S l E i w c,(∀b,s.nx<=b->S b=none)->gh P KT An S s l->Hd i (l++E) w->AR (VR S) args c ->
   lh P R D X f c i w λO Q V=>∃d F,S.le d/\(∀b,b<s.nx\/s'.nx<=b->d b=S b)/\gh P KT An d s' F/\Hd O (F++E) V/\VR d v Q):Sound P KT An R D X Hd f args s v s':=by
 intro S l E i w c p hF L a8;rw[aT] at M;let T:dQ:=λb=>if b<s.nx then S b else none;have r:∀b,b<s.nx->S b=T b:=λb a=>by show S b=if b<s.nx then S b else none;rw[ip a]
 have Z:∀b,s.nx<=b->T b=none:=λb a=>by show(if b<s.nx then S b else none)=none;rw[iw oq]
 unfold AS.AY at N;have W:gh P KT An T s l:=by
  refine⟨λb o a=>?_,λb A o n x K a k m q=>?_,p.lt,λb x m=>?_⟩
  .have⟨g,z,e,n,H,I,G,J⟩:=p.live b o a;refine⟨g,z,e,n,(r _<|p.lt b o a).symm.trans H,I,?_,J⟩
   have:=fa N<|p.lt b o a;rw[a] at this;cases o with
   | cells cs t fz=>exact G.qo this r
   | _=>exact G
  .exact p.inj b A o n x K a k ((r _<|p.lt b o a).trans m)<|(r _<|p.lt A n k).trans q
  .by_cases a:b<s.nx
   .rw[<-r b a];exact p.an b x m
   .grind
 refine(h T l E i w c Z W hF ⟨L.1,λj x y m hy=>(L.2 j x y m hy).RV (M x gq) r⟩).mono ?_;rintro O Q V ⟨d,F,r1,r2,u,r4,r5⟩;let U:dQ:=λb=>if b<s'.nx then d b else S b;have B:∀b,b<s'.nx->U b=d b:=λb a=>by show(if b<s'.nx then d b else S b)=d b;rw[ip a]
 have a7:∀b,¬b<s'.nx->U b=S b:=λb a=>by show(if b<s'.nx then d b else S b)=S b;rw[iw a]
 have C:d.le U:=λb x m=>by grind
 have Y:∀b,b<s.nx\/s'.nx<=b->U b=S b:=λb a=>by grind
 refine⟨U,F,λb x m=>?_,Y,⟨λb o a=>?_,λb A o n x K a k m q=>?_,u.lt,cT u.an C⟩,r4,r5.mono C⟩
 .grind
 .have⟨g,z,e,n,H,I,G,J⟩:=u.live b o a;exact⟨g,z,e,n,C _ _ H,I,G.mono C,J⟩
 .exact u.inj b A o n x K a k ((B _<|u.lt b o a).symm.trans m)<|(B _<|u.lt A n k).symm.trans q
def mW(f:FuncId)(c:Aq->AS->Option Value)(b:Aq->AS->Option (Value × AS))(pr:Prim):Prim:=λg=>if g.beq f then some λa s=>match c a s with
 | some v=>some (v,s)
 | none=>b a s
 else pr g
theorem cb.forget(Y:Cy P KT N0 M O R D X Hd)(hm:P.follows .mixedOrders=true)(Cg:∀ t,kt t=false->¬ KT t)(Bj:∀ (f:FuncId) (aY:Func),P.funcs[f]?=some aY->(aY.name == "runtime.NumGoroutine")=false){m:Nat}(O1:∀ b,k<=b->An b=none)(hp:cb P KT An R D X Hd pr){ok:Array Value->AS->Option Value}
 (Ae:∀args s v,ok args s=some v->fs v=true/\k<=s.nx/\args.toList.all (nf s.nx)=true/\∃c cs t fz,s.get c=some (.cells cs t fz)/\cs.toList.all (nf s.nx)=true/\∀s0:AS,s0.nx=s.nx->s0.get c=some (.cells cs t fz)->∃s1,EF P kt pr f args s0 v s1/\s1.get c=some (.cells cs t fz)):cb P KT An R D X Hd (mW f ok (bW P kt pr m f) pr):=by
 constructor
 .intro g h args s v s' hf hh;unfold mW at hf;split at hf
  .cases hf;simp only at hh;split at hh
   .cases hh; exact l8 _
   .exact(yk hp.nx m).2 _ _ _ _ _ hh
  .exact hp.nx g h args s v s' hf hh
 .intro g h args s v s' hf hh;unfold mW at hf;split at hf
  .next he =>
   have he:=ja he;subst he;cases hf;simp only at hh;split at hh
   .next v' hv =>
    cases hh;have⟨h1,h2,h3,c,cs,t,fz,h4,h5,h6⟩:=Ae _ _ _ hv;have hg:∀b,((⟨[],s.nx⟩:AS).set c<|some<|.cells cs t fz).get b=if b=c then some _ else none:=λb=>by
     rw[AS.aU];split
     .rfl
     .unfold AS.get; simp
    obtain⟨s1,⟨n,h7⟩,h8⟩:=h6 ((⟨[],s.nx⟩:AS).set c<|some<|.cells cs t fz) I gq;exact xd Y O1 h2 h5 hg I h8 h4 h3 h1<|(kr Y hm Cg hp Bj n).2 _ _ _ _ _ h7
   .exact(kr Y hm Cg hp Bj m).2 _ _ _ _ _ hh
  .exact hp.sound g h args s v s' hf hh
def lM{g:Aq->AS->Option (Value × AS)}{s1:AS}(h:pr f=some g)(a:g args s=some (v,s1)):EF P kt pr f args s v s1:=by refine⟨1,?_⟩;unfold bW;rw[h];exact a
end
def QB (A:dQ):Prop:=(∃z e,A 1=some (1,z,e))/\(∃z e,A 2=some (2,z,e))/\∃z e,A 3=some (3,z,e)
def Of (An:dQ)(p:Prop)(rn:Nat)(sj:Prim)(all:Iq):Prop:=(∀f g args s v s',sj f=some g->g args s=some (v,s')->s.nx<=s'.nx)/\∀{ι:Type} {N0:ι->Nat} {M:ι->World->Nat->Prop} {O:ι->Nat->Prop} {R:ι->Wq} {D:ι->World->World->Array Event->Prop} {X:ι->Gq} {Hd:ι->Hq->World->Prop} (_:Cy prog dt N0 M O R D X Hd) (A:dQ),(∀b x,b<32->An b=some x->A b=some x)->(p->Tb M Hd)->(∀b,rn+1<=b->A b=none)->cb prog dt A R D X Hd (gz rn all)->cb prog dt A R D X Hd sj
def xm (rn:Nat)(sj:Prim)(all:Iq):Prop:=(∀f g args s v s',sj f=some g->g args s=some (v,s')->s.nx<=s'.nx)/\∀{ι:Type} {N0:ι->Nat} {M:ι->World->Nat->Prop} {O:ι->Nat->Prop} {R:ι->Wq} {D:ι->World->World->Array Event->Prop} {X:ι->Gq} {Hd:ι->Hq->World->Prop} (_:Cy prog dt N0 M O R D X Hd) (A:dQ),QB A->Tb M Hd->(∀b,rn+1<=b->A b=none)->cb prog dt A R D X Hd (gz rn all)->cb prog dt A R D X Hd sj
def xm.toA{An:dQ}{p:Prop}{all:Iq}(h:xm rn sj all)(d:QB An)(f:p):Of An p rn sj all:=⟨h.1,λY A a i e g=>by obtain⟨⟨j,e1,h1⟩,⟨k,b,h2⟩,l,c,h3⟩:=d;exact h.2 Y A ⟨⟨j,e1,a _ _ oq h1⟩,⟨k,b,a _ _ oq h2⟩,l,c,a _ _ oq h3⟩ (i f) e g⟩
variable {r:Nat->Nat}
def Hg:Vq->Option (List ByteArray)
 | []=>some []
 | .string s::l=>match Hg l with
  | some r=>some (s::r)
  | none=>none
 | _=>none
theorem yZ:∀{l:Vq} {r:List ByteArray},Hg l=some r->l.length=r.length/\∀(k:Nat) (p:ByteArray),r[k]?=some p->l[k]?=some (.string p)
 | [],r,h=>by cases h;exact⟨Y,λk p U=>by simp at U⟩
 | x::l,r,h=>by
  cases x<;>simp only[Hg] at h<;>try cases h
  split at h
  .next r' hr =>cases h;have⟨h1,h2⟩:=yZ hr;grind
  .cases h
def CH(pv:Value)(s:AS):Option (List ByteArray × AS):=match pv with
 | .slice none 0 0=>some ([],s)
 | .slice (some ⟨bp,0,none⟩) m _=>match s.get bp with
  | some (.cells cs 9 _)=>if m<=cs.toList.length/\bp<s.nx then match Hg (cs.toList.take m) with
    | some a=>some (a,s.set bp none)
    | none=>none
   else none
  | _=>none
 | _=>none
theorem PO{s sB:AS}(h:CH pv s=some (ps,sB)):Vs s pv ps sB/\Ro s.nx pv=true:=by
 unfold CH at h;split at h
 .cases h;exact⟨.inl ⟨Y,Y,Y⟩,Y⟩
 .next b m c =>
  split at h
  .next d e f =>
   split at h
   .next a =>
    split at h
    .next g U =>cases h;have⟨h1,h2⟩:=yZ U;rw[List.length_take,Nat.min_eq_left a.1] at h1;refine⟨.inr ⟨b,c,d,e,by rw[h1],f,λk p i=>?_,Y⟩,by simpa[Ro,nf,Nat.blt_eq] using a.2⟩;grind
    .cases h
   .cases h
  .cases h
 .cases h
def wA (P:Program)(n r0:Nat)(str:ByteArray)(od:AS->AS)(sj:Prim)(pr:Prim):Prim:=λg=>if g.beq 37 then some λa s=>match a.toList with
 | [pv,.func (.func f) x y]=>match CH pv s,P.funcs[f]? with
  | some (ps,sB),some aY=>match aY.body with
   | some c =>
    if ps.flatMap bytesOf=bytesOf str/\ps.length<=1000000000/\x.toList.isEmpty=true/\s.nx=r0/\aY.results.toList.isEmpty=true/\s.AY=true/\y.toList.all (nf s.nx)=true then
     match gx P kJ sj n c ((aF s.nx 0::y.toList)++List.replicate (aY.ntmps-(y.size+1)) undef) ⟨sB.hp,s.nx+1⟩ with
     | some (e,_,s')=>if AS.keeps sB s'=true then match e with
       | .normal|.ret=>some (.tuple #[],od s')
       | _=>none
      else none
     | none=>none
    else none
   | none=>none
  | _,_=>none
 | _=>none
 else pr g
section
variable {Post:Value->World->Prop}{Ex:Nat->Prop}{w₀:World}
theorem PV{e1:Nat}(h1:An 1=some (1,z1,e1))(T:∀b,32<=b->An b=none){str:ByteArray}(ak:32<=r0){od:AS->AS}(I:xH od)(t:Of An (JE Ex w₀) r0 sj (dH str))(B:mV str.data.toList 0<=20000)(m:cb prog dt An (λ_:Zx=>AtRel) (λj=>DZ j.1) (λj=>ZI prog Post 0 j.1) (uI Ex w₀) pr) :
  cb prog dt An (λ_:Zx=>AtRel) (λj=>DZ j.1) (λj=>ZI prog Post 0 j.1) (uI Ex w₀) (wA prog n r0 str od sj pr):=by
 have G:∀g h a s v i,g=37->wA prog n r0 str od sj pr g=some h->h a s=some (v,i)->s.nx<=i.nx/\Sound prog dt An (λ_:Zx=>AtRel) (λj=>DZ j.1) (λj=>ZI prog Post 0 j.1) (uI Ex w₀) 37 a s v i:=by
  rintro g h a s v i rfl d U;unfold wA at d;rw[ip (show Nat.beq 37 37=true from rfl)] at d;cases d;simp only at U;split at U
  .next pv f x y ha =>
   split at U
   .next N sB K X d =>
    split at U
    .next c O =>
     split at U
     .next hc =>
      obtain⟨H,aj,al,rfl,R,Z,hy⟩:=hc;have⟨D,hpV⟩:=PO X;have E:∀p∈N,p.size<=20000:=λp m=>by have h1:=(List.sublist_flatten_of_mem (List.mem_map.2 ⟨p,m,rfl⟩:bytesOf p∈N.map bytesOf)).length_le;rw[<-List.flatMap_def,H] at h1;rw[kg,Nat.zero_add,Hh] at B;unfold bytesOf at h1;rw[List.length_map,List.length_map,Hh,Hh] at h1;exact lT h1 B
      split at U
      .next e ah u J =>
       split at U
       .next P =>
        have Q:(e=.normal\/e=.ret)/\v=.tuple #[]/\i=od u:=gq
        obtain⟨k,rfl,rfl⟩:=Q;have F:x=#[]:=gq
        subst F;have V:a=#[pv,.func (.func f) #[] y]:=gq
        subst V;have W:s.nx+1<=u.nx:=(yk t.1 n).1 _ _ _ _ _ _ J;have q:s.nx<=(od u).nx:=by rw[(I u).1];omega
        refine⟨q,uG (λb M=>T b oq) Z ?_ q λS l fr j w C o L hF r=>?_⟩
        .have ai:Ro s.nx (.func (.func f) #[] y)=true:=by simp only[Ro,hy,List.all_nil,Bool.and_true]
         grind
        .exact Xh h1 oq D d H E oq O R B (λY A hT r m=>t.2 Y A (λb x M t=>(r b oq).trans<|L.an b x t) hT (λb M=>(r b oq).trans<|o b oq) m) I J W P k L hF r<|λb b1 _=>o b b1
       .cases U
      .cases U
     .cases U
    .cases U
   .cases U
  .cases U
 constructor
 .intro g h a s v i d U;by_cases k:g=37
  .exact(G g h a s v i k d U).1
  .unfold wA at d;rw[iw (λz=>k<|ja z)] at d;exact m.nx g h a s v i d U
 .intro g h a s v i d U;by_cases k:g=37
  .grind
  .unfold wA at d;rw[iw (λz=>k<|ja z)] at d;exact m.sound g h a s v i d U
def T2{str:ByteArray}{od:AS->AS}{s s1 sB:AS}{f:FuncId}{aY:Func}{y:Aq}(g:CH pv s=some (ps,sB))(b:ps.flatMap bytesOf=bytesOf str)(h:ps.length<=1000000000)(l:prog.funcs[f]?=some aY)(a:aY.body=some c)(d:aY.results.toList.isEmpty=true)(m:s.nx=r0)(i:s.AY=true)(p:y.toList.all (nf s.nx)=true)
 (o:Ew sj c ((aF s.nx 0::y.toList)++List.replicate (aY.ntmps-(y.size+1)) undef) ⟨sB.hp,s.nx+1⟩ λe _ j=>(e=.normal\/e=.ret)/\AS.keeps sB j=true/\od j=s1) :
  ∃n,∀k,Ef (wA prog n r0 str od sj k) 37 #[pv,.func (.func f) #[] y] s (.tuple #[]) s1:=by obtain⟨n,e,q,j,h1,h2,h3,rfl⟩:=o;refine⟨n,λk=>⟨1,?_⟩⟩;unfold bW wA;rw[ip (show Nat.beq 37 37=true from Y)];simp only[g,l,a,h1,h3,if_true];rw[ip ⟨b,h,Y,m,d,i,p⟩];rcases h2 with rfl|rfl<;>rfl
end
end
section
variable [Inhabited KC]
variable {b k n:Nat}{t:TypeId}{x y:Operand}{P:Program}{kt:TypeId->Bool}{a:TL}{v:Value}{s s':AS}{all:Iq}
variable {cp d i j m off pos sz z1:Nat}{c:km}{e t' ty u:TypeId}{cs uo:Aq}{fz Gj:Nat × Nat}{o:Oper}{r:Int}{sl w z:Value}{l stops:Bq}{α:Type}{K K':Nat->Prop}
section
variable {Post:Value->World->Prop}{Ex:Nat->Prop}{w₀:World}{An:dQ}
def nM:prog.follows .mixedOrders=true:=kq
def zZ:eZ.all fs=true:=by decide +kernel
end
def rU{c:UInt8}:∀{l:Bq} {k:Nat},c∉l->mw c.toNat l k = -1
 | [],k,_=>rfl
 | b::l,k,h=>by unfold mw;rw[oH];simp only[pS,not_or] at h;rw[show(b==c)=false by simp;exact λe=>h.1 e.symm];simp only[if_false,j6];exact rU h.2
theorem vU{c:UInt8}{b:Bq}:∀{a:Bq} {k:Nat},c∉a->mw c.toNat (a++c::b) k=a.length+k
 | [],k,_=>by rw[List.nil_append];unfold mw;rw[oH];simp
 | x::a,k,h=>by rw[List.cons_append];unfold mw;rw[oH];simp only[pS,not_or] at h;rw[show(x==c)=false by simp;exact λe=>h.1 e.symm];simp only[if_false,j6];rw[vU h.2];grind
theorem toNat_mod(c:UInt8):(c.toNat:Int).toNat % 256=c.toNat:=by have:=c.toNat_lt;grind
def Vm (c:UInt8)(x a b:Bq)(t:Bool):Prop:=(t=false/\c∉x/\a=x/\b=[])\/(t=true/\c∉a/\x=a++c::b)
def Nv(a b:Bq)(c:UInt8):((a++c::b).take a.length).drop 0=a:=iq
def KI(a b:Bq)(c:UInt8):((a++c::b).take (a++c::b).length).drop (a.length+1)=b:=by rw[List.take_length,show a++c::b=(a++[c])++b by simp,show a.length+1=(a++[c]).length by simp,List.drop_left]
variable {pr:Prim}
abbrev z0:AS:=⟨[],32⟩
variable {c:km}{o:Oper}
def PF{s:AS}{i:Operand}{sp:Option Nat}{kd:IntKind}{j:Int}(d:o.op=.indexAddr t x i)(l:P.underlying t=some (.slice e))(f:cH P e=some sz)(m:a.at x=.slice (some ⟨b,off,sp⟩) n cp)(hi:a.at i=.int kd j)(g:0<=j)(h1:j<n)(h:off+j.toNat*sz=k):bS P kt c a o s=some (aF b k,s):=by rw[GQ d l f m hi g h1,h]
def Yy (P:Program)(t:TypeId):Bool:=match P.underlying t with
 | some d=>!d.isRow
 | none=>false
def slT (P:Program)(t:TypeId):Option Nat:=match P.underlying t with
 | some (.slice e)=>cH P e
 | _=>none
def yn{L:List FuncId}{pr:Prim}(h:∀f,f∈L->pr f=none)(f:FuncId)(a:f∈L:=by decide):pr f=none:=h f a
variable {s1:AS}
section
variable {c:km}{o:Oper}{ops:Array Oper}{rest:List Oper}{K:TL->AS->Prop}{KT:List (TL × Value × AS)->Prop}{g:FuncId}{args:Aq}{cl:Call}
def yl(b off:Nat)(v:Value)(g:s.get b=some (.cells cs ty fz))(f:o.op=.load t x:=by rfl)(e:Yy P t=true:=by kernel_rfl)(j:a.at x=aF b off:=by kernel_rfl)(i:cs[off]?=some v:=by rfl):bS P kt c a o s=some (v,s):=by
 unfold Yy at e;cases h:P.underlying t with
 | none=>rw[h] at e;cases e
 | some d=>rw[h] at e;exact me f h (by simpa using e) j g i
def yA(b off n:Nat)(r:Aq)(j:s.get b=some (.cells cs ty fz))(f:off+n<=cs.size)(g:o.op=.load t x:=by rfl)(e:Xx P t=true:=by kernel_rfl)(l:cH P t=some n:=by kernel_rfl)(k:a.at x=aF b off:=by kernel_rfl)(i:(cs.toList.drop off |>.take n).toArray=r:=by kernel_rfl):bS P kt c a o s=some (.agg r,s):=by
 unfold Xx at e;cases h:P.underlying t with
 | none=>rw[h] at e;cases e
 | some d=>rw[h] at e;exact wm g h e l k j f i
def yb{b:BinOp}{z}(u w:Value)(h:dj b u w=some v)(d:o.op=.binOp b t x y z:=by rfl)(e:a.at x=u:=by kernel_rfl)(f:a.at y=w:=by kernel_rfl):bS P kt c a o s=some (v,s):=aI d e f h
def yi{i:Operand}(b off n cp k:Nat)(sp:Option Nat)(kd:IntKind)(j:Int)(sz:Nat)(f:0<=j)(h1:j<n)(g:off+j.toNat*sz=k)(l:o.op=.indexAddr t x i:=by rfl)(d:slT P t=some sz:=by kernel_rfl)(m:a.at x=.slice (some ⟨b,off,sp⟩) n cp:=by kernel_rfl)(hi:a.at i=.int kd j:=by kernel_rfl):bS P kt c a o s=some (aF b k,s):=by
 unfold slT at d;split at d
 .next e h=>exact PF l h d m hi f h1 g
 .cases d
def ys(b off:Nat)(w:Value)(g:s.get b=some (.cells cs ty fz))(e:off+1<=cs.size)(f:o.op=.store t x y:=by rfl)(h:a.at x=aF b off:=by kernel_rfl)(i:a.at y=w:=by kernel_rfl)(d:w.cells=#[w]:=by rfl)(h1:w.oneCell'=true:=by rfl)(j:cH P t=some 1:=by kernel_rfl):bS P kt c a o s=some (undef,s.set b<|some<|.cells (putAt cs off [w]) ty fz):=kB f h i d h1 j g e
def yp{z}(i j r:Int)(d:i+j=r)(e : -2000000000<=r/\r<=2000000000)(b:o.op=.binOp .add t x y z:=by rfl)(f:a.at x=num i:=by kernel_rfl)(g:a.at y=num j:=by kernel_rfl):bS P kt c a o s=some (num r,s):=dV b f g d e
section
variable (h:EF P kt pr g args s v s1)
def yf(k:EO P kt pr ops rest (a.put o.dst v) s1 K)(f:Region.wanted o (bK ops a)=true:=by kernel_rfl)(e:o.op=.call cl:=by rfl)(c:cl.callee=.value (.func g):=by rfl)(d:lE P (.func g)=false:=by kernel_rfl)(b:(#[]++cl.args.map a.at++#[]:Aq)=args:=by kernel_rfl):EO P kt pr ops (o::rest) a s K:=eM args f e c d b h k
def yt(k:ET P kt pr ops rest (a.put o.dst v) s1 (λi=>KT ((a,v,s1)::i)))(f:Region.wanted o (bK ops a)=true:=by kernel_rfl)(e:o.op=.call cl:=by rfl)(c:cl.callee=.value (.func g):=by rfl)(d:lE P (.func g)=false:=by kernel_rfl)(b:(#[]++cl.args.map a.at++#[]:Aq)=args:=by kernel_rfl):ET P kt pr ops (o::rest) a s KT:=ET.xS args f e c d b h k
end
def yc{f:Operand}(first cap:Aq)(h:EF P kt pr g args s v s1)(k:EO P kt pr ops rest (a.put o.dst v) s1 K)(j:Region.wanted o (bK ops a)=true:=by kernel_rfl)(i:o.op=.call cl:=by rfl)(c:cl.callee=.value f:=by rfl)(e:lE P f=false:=by kernel_rfl)(d:a.at f=.func (.func g) first cap:=by kernel_rfl)(b:first++cl.args.map a.at++cap=args:=by kernel_rfl):EO P kt pr ops (o::rest) a s K:=EO.call j i c e d b h k
def yR{fn:Func}{s':AS}(h1:cN P fn a s=some v:=by kernel_rfl)(h2:s=s':=by kernel_rfl):EW P kt pr .ret a s (λe c b=>(e=.normal\/e=.ret)/\cN P fn c b=some v/\b=s'):=aE ⟨.inr O,h1,h2⟩
end
def NV(h : -9223372036854775808<=r/\r<=9223372036854775807):IntKind.i64.wrap r=r:=by rw[IntKind.wrap_i64];omega
theorem vk{s s':AS}{bytes:Nat}(U:o.op=.call { callee:=.builtin .append,args:=#[x,y],argTypes:=#[t,t] })(g:a.at x=sl)(j:a.at y=.slice (sq d) 1 k)(r:P.underlying t=some (.slice e))(hi:(P.info? e).map (λi=>(i.zero,i.size,i.bytes))=some (some z,1,bytes))(u:z.cells.size=1)(n:bytes<=1000)(m:kt e=false)(b:s.get d=some (.cells #[w] e fz))(l:dZ sl (sq d)=true)(q:w.oneCell'=true)(h:cf P e sl [w] 1 s=some (v,s')):bS P kt c a o s=some (v,s'):=by
 have f:cW P a o=none:=by unfold cW;rw[U]
 have p:eH s 1 (sq d) 1=some [w]:=by unfold eH;simp only;rw[b];rfl
 unfold bS;rw[iw (by rw[U];simp[gW])];rw[U];simp only;rw[f];simp;rw[g,j];unfold gC;grind
section
variable {c:km}{o:Oper}
def Cx(b:o.op=.range t x)(e:P.underlying t=some .string)(f:a.at x=str l)(d:kt (1000+gi l)=false):bS P kt c a o s=some (aF s.nx 0,s.add<|.stringIter ⟨l.toArray⟩ 0):=by unfold bS;rw[ip (by rw[b];rfl)];unfold yg;rw[b];simp only[e,f];rw[iw (by rw[show FA ⟨l.toArray⟩=gi l from rfl,d];simp)]
theorem Mb{r:UInt8}(d:o.op=.next x true)(k:a.at x=aF b 0)(j:s.get b=some (.stringIter ⟨l.toArray⟩ pos))(i:l[pos]?=some r)(m:r.toNat<128)(h:kt (1000+gi l)=false) :
  bS P kt c a o s=some (.tuple #[.bool true,num pos,.int .i32 r.toNat],s.set b<|some<|.stringIter ⟨l.toArray⟩<|pos+1):=by
 have f:ByteArray.size ⟨l.toArray⟩=l.length:=by simp[ByteArray.size]
 have⟨e,U⟩:=gS.1 i;have g:Utf8.decode ⟨l.toArray⟩ pos=(r.toNat,1):=by
  have h1:pos<ByteArray.size ⟨l.toArray⟩:=oq
  have h2:(ByteArray.mk l.toArray)[pos]'h1=r:=by show l.toArray[pos]=r;simpa using U
  rw[Eb h1 gq,h2]
 unfold bS;rw[iw (by rw[d];simp[gW]),d];simp only[k,aF,j,f,g];rw[ip e,iw<|by show ¬kt (1000+gi l)=true;rw[h];simp];rfl
def wo(d:o.op=.next x true)(g:a.at x=aF b 0)(f:s.get b=some (.stringIter ⟨l.toArray⟩ pos))(h:l.length<=pos):bS P kt c a o s=some (.tuple #[.bool false],s):=by
 have e:ByteArray.size ⟨l.toArray⟩=l.length:=by simp[ByteArray.size]
 unfold bS;rw[iw (by rw[d];simp[gW]),d];simp only[g,aF,f,e];rw[iw oq]
end
theorem eJ:∀a b:Bq,gi (a++b)=gi a+gi b
 | [],b=>by show gi b=0+gi b;omega
 | x::a,b=>by show Vk x+gi (a++b)=Vk x+gi a+gi b;rw[eJ a b];omega
theorem xa(t:Bq)(n:Nat):gi (t.drop n)<=gi t:=by have:=eJ (t.take n) (t.drop n);rw[List.take_append_drop] at this;omega
theorem Vb{a b:Nat}(h:a≠b):a.beq b=false:=by
 cases e:a.beq b with
 | false =>rfl
 | true =>exact absurd (Nat.eq_of_beq_eq_true e) h
/-- A lighter text is goroutine 0's own. -/
theorem my{m:Nat}(h:m<kc):kJ (1000+m)=false:=by unfold kJ;rw[Vb (by omega),Vb (by omega),Nat.add_sub_cancel_left,Vb (by omega),Bool.and_false];rfl
abbrev C2:=Inhabited (PLift (2<=kc))
theorem c2[h:C2]:2<=kc:=h.default.down
theorem w2[C2]{l:Bq}(h:gi l<2:=by decide):gi l<kc:=Nat.lt_of_lt_of_le h c2
abbrev C3:=Inhabited (PLift (3<=kc))
theorem c3[h:C3]:3<=kc:=h.default.down
def dG (all:Iq)(k:Nat):Int:=all[k]?.getD (-1)
variable {rn:Nat}
def Y5(a:pr 146=gz rn all 146)(k:Nat):Ef pr 146 #[aF rn 0,num k] s (.int .i32<|dG all k) s:=by refine fI (a.trans O) ?_;simp only[aF];simp[dG]
def ni(g:pr 70=none)(a:pr 146=gz rn all 146){c:Nat}{p:Nat}(f:s.get c=some (.cells cs t fz))(j:cs[0]?=some (aF rn 0))(h1:cs[1]?=some (num k))(m:k+p<=1000000):Ef pr 70 #[aF c 0,num p] s (.int .i32<|dG all<|k+p) s:=by
 have d:=Y5 (s:=s) a<|k+p;have h:bA prog 84 (aF c 0) s=some (aF rn 0):=by unfold bA;simp only[aF,f,underlying84];exact j
 have i:bA prog 3 (aF c 1) s=some (num k):=by unfold bA;simp only[aF,f,underlying3];exact h1
 have e:∀x∈[(bA prog 84 (aF c 0) s,aF rn 0),(bA prog 3 (aF c 1) s,num k)],x.1=some x.2/\bN 20 x.2=true:=by
  intro x l;simp at l;rcases l with rfl|rfl
  .exact⟨h,O⟩
  .exact⟨i,O⟩
 exact aQ g func70 O<|zs<|am<|bO kq kq kq<|zq<|zq<|zq<|zt s<|zu (me (b:=c) (off:=0) (v:=aF rn 0) O underlying84 O kq f j)<|zq<|zq<|zq<|zt s<|zu (me (b:=c) (off:=1) (v:=num k) O underlying3 O kq f h1)<|zq<|zt s<|zu (yp k (p:Nat) ((k+p:Nat):Int) oq oq)<|yt d<|zq<|cg ⟨Dz e,_,_,_,_,_,_,O,O,yR⟩
def Xe:List FuncId:=[70,150,160,247,257,259,260,264,324,328,334,366]
structure X8(rn:Nat)(all:Iq)(pr:Prim):Prop where
 xw:pr 146=gz rn all 146
 p92:pr 92=gz rn all 92
 Mi:pr 373=eL 373
 no:∀f,f∈Xe->pr f=none
variable {r p q:Value}
section
section
variable (hp:X8 rn all pr)
def Gz{b:UInt8}(l:b.toNat<128)(stops:Bq):Ef pr 328 #[.int .i32 (b.toNat:Int),str stops] s (.bool<|decide (0<=mw b.toNat stops 0)) s:=by
 have c:Ef pr 334 #[str stops,.int .u8 (b.toNat:Int)] s (num<|mw b.toNat stops 0) s:=by
  have d:Ef pr 373 #[str stops,.int .u8 (b.toNat:Int)] s (num<|mw b.toNat stops 0) s:=by obtain⟨g,j⟩:∃g,eL 373=some g:=⟨_,O⟩;have h:=fH (P:=prog) (kt:=kJ) (pr:=eL) (f:=373) (args:=#[str stops,.int .u8 (b.toNat:Int)]) (s:=s) (v:=num<|mw ((b.toNat:Int).toNat % 256) stops 0) (s':=s) 1 kq;rw[toNat_mod] at h;have⟨m,h⟩:=h;refine fI (hp.Mi.trans j) ?_;unfold bW at h;rw[j] at h;exact h
  exact aQ (hp.no 334 dq) func334 O<|zs<|zr<|zc 2 d<|zf<|aE ⟨.inr O,by kernel_rfl,by kernel_rfl⟩
 generalize mw b.toNat stops 0=e at c;have i:Ef pr 264 #[str stops,.int .i32 (b.toNat:Int)] s (num e) s:=by exact aQ (hp.no 264 dq) func264 O<|zs<|aD<|zr<|zk 1<|zp (aI (u:=.int .i32 0) (w:=.int .i32 (b.toNat:Int)) O kq kq<|ck (b:=true)<|tD oq)<|zk 2<|zp (aI (u:=.int .i32 (b.toNat:Int)) (w:=.int .i32 128) O kq kq<|eh (b:=true)<|tD oq)<|zf<|zH<|zr<|zg 2 s<|bV (v:=.int .u8 (b.toNat:Int)) (s1:=s) kq ((show _=some (Value.int .u8<|IntKind.u8.wrap (b.toNat:Int),s) by kernel_rfl).trans<|by rw[IntKind.wrap_u8,show(b.toNat:Int) % 256=(b.toNat:Nat) by omega])<|zo s<|eM _ kq O O kq kq c<|zf<|aE ⟨.inr O,by kernel_rfl,by kernel_rfl⟩
 have a:Ef pr 160 #[str stops,.int .i32 (b.toNat:Int)] s (.bool<|decide (0<=e)) s:=by refine aQ (hp.no 160 dq) func160 O<|zs<|zr<|zc 2 i<|zp (aI (u:=num e) (w:=num 0) O kq kq<|jp (b:=decide (0<=e)) O) ?_;generalize decide (0<=e)=k;exact zf<|aE ⟨.inr O,by kernel_rfl,by kernel_rfl⟩
 exact aQ (hp.no 328 dq) func328 O<|zs<|zr<|zc 2 a<|zf<|aE ⟨.inr O,by kernel_rfl,by kernel_rfl⟩
def Lt{b:UInt8}(a:b.toNat<128)(h:b∉stops):Ef pr 328 #[.int .i32 (b.toNat:Int),str stops] s (.bool false) s:=by have:=Gz hp (s:=s) a stops;rw[rU h] at this;exact this
def Iv{b:UInt8}(a:b.toNat<128)(h:b∈stops):Ef pr 328 #[.int .i32 (b.toNat:Int),str stops] s (.bool true) s:=by have:=Gz hp (s:=s) a stops;rw[tD (by obtain⟨a,b,rfl,d⟩:=List.eq_append_cons_of_mem h;rw[vU d];omega)] at this;exact this
end
variable {St:Nat->AS}{c:Nat}
theorem o9{a b:Option Value}{u v:Value}(g:a=some u)(h:b=some v)(p:bN 20 u=true:=by rfl)(q:bN 20 v=true:=by rfl):∀x∈[(a,u),(b,v)],x.1=some x.2/\bN 20 x.2=true:=gq
def MQ(c:Nat)(stops:Bq)(k:Nat)(x:Nq):TL:=[aF c 0,str stops,x 2,x 3,x 4,num k]++fW x 6 31
abbrev aK:Bq:=[9,10,12,13,32]
end
abbrev aX:Value:=.slice none 0 0
def uh (l:Bq):Prop:=∀b∈l,b.toNat<128
def Sr{b:UInt8}(h:b.toNat<128):Lib.encodeRune (b.toNat:Int)=[b]:=by unfold Lib.encodeRune;rw[Lib.encodeRuneZ_one oq oq];simp
def AS.only(s:AS):List Nat->AS
 | []=>⟨[],s.nx⟩
 | b::l=>match s.get b with
  | some o=>if ot o=true then (s.only l).set b (some o) else s.only l
  | none=>s.only l
theorem nN(l:List Nat):xH λs=>s.only l:=by
 intro s;induction l with
 | nil=>exact⟨O,λb o h=>by simp only[AS.only] at h;unfold AS.get at h;simp at h⟩
 | cons b l U =>
  simp only[AS.only];split
  .next o d =>
   split
   .next a =>refine⟨U.1,λc e h=>?_⟩;rw[AS.aU] at h;grind
   .exact U
  .exact U
def tH(d:α):∀(n:Nat) (l:List α) (x y:α),pe d n (pe d n l x) y=pe d n l y
 | 0,l,x,y=>by simp[pe]
 | n+1,l,x,y=>by have:=tH d n l.tail x y;simp[pe,this]
def tI(d:α):∀(n:Nat) (l:List α),n<l.length->pe d n l (l.getD n d)=l
 | 0,x::l,h=>by simp[pe]
 | n+1,x::l,h=>by have:=tI d n l (by simpa using h);simp only[pe,List.headD_cons,List.tail_cons,List.getD_cons_succ];rw[this]
 | _,[],h=>by simp at h
def AS.set_set(s:AS)(b:Nat)(x y:Option Obj):(s.set b x).set b y=s.set b y:=by unfold AS.set;simp only[pR,if_true];rw[tH,tH]
theorem AS.eU{s:AS}{o:Obj}(h:s.get b=some o):s.set b (some o)=s:=by
 unfold AS.get at h;have h1:b % 16<(s.hp.getD (b / 16) []).length:=gq
 have h2:b / 16<s.hp.length:=gq
 unfold AS.set;have e:pe none (b % 16) (s.hp.getD (b / 16) []) (some o)=s.hp.getD (b / 16) []:=by have:=tI none _ _ h1;rw[h] at this;exact this
 rw[e,tI [] _ s.hp h2]
def Has (s:AS)(b:Nat)(o:Obj):Prop:=b<s.nx/\s.get b=some o
variable {s2:AS}
section
variable {c:Nat}{o o':Obj}
def Has.add(h:Has s b o)(x:Obj):Has (s.add x) b o:=⟨by have:=h.1;simp;omega,by rw[AS.bu,iw<|by have:=h.1;omega];exact h.2⟩
def Has.new(s:AS)(o:Obj):Has (s.add o) s.nx o:=⟨iq,by rw[AS.bu,ip O]⟩
def bw:=@Has.new
def Has.set(h:Has s b o)(a:b≠c)(x:Option Obj):Has (s.set c x) b o:=⟨h.1,by rw[AS.aU,iw a];exact h.2⟩
def Has.put(h:Has s b o)(o':Obj):Has (s.set b<|some o') b o':=⟨h.1,by rw[AS.aU,ip O]⟩
theorem Has.ne(h:Has s b (.cells cs t fz))(U:Has s c (.cells uo t' Gj))(a:t≠t'):b≠c:=λe=>by have h1:=h.2;rw[e,U.2] at h1;grind
def fp (K:Nat->Prop)(s s':AS):Prop:=s.nx<=s'.nx/\∀b,b<s.nx->¬K b->s'.get b=s.get b
def fp.refl(s:AS):fp K s s:=⟨lr,λ_ _ _=>O⟩
def bC:=@fp.refl
def fp.add(h:fp K s s')(x:Obj):fp K s (s'.add x):=⟨by have:=h.1;simp;omega,λb a c=>by rw[AS.bu,iw<|by have:=h.1;omega];exact h.2 b a c⟩
theorem fp.set(h:fp K s s')(d:c<s.nx->K c)(x:Option Obj):fp K s (s'.set c x):=⟨h.1,λb a U=>by rw[AS.aU,iw<|λe=>U gq];exact h.2 b a U⟩
def bG:=@fp.set
def fp.trans(h:fp K s s1)(a:fp K' s1 s2)(e:∀b,b<s.nx->K' b->K b):fp K s s2:=⟨lT h.1 a.1,λb c d=>by have:=h.1;rw[a.2 b oq λz=>d<|e b c z,h.2 b c d]⟩
def Has.fr(h:Has s b o)(a:fp K s s')(c:¬K b):Has s' b o:=⟨by have:=h.1;have:=a.1;omega,(a.2 b h.1 c).trans h.2⟩
end
abbrev iN(rn k:Nat)(p q r:Value):Obj:=.cells #[aF rn 0,num k,p,q,r] 121
def sp (s:AS)(c rn:Nat)(p q r:Value)(k:Nat):AS:=s.set c<|some<|iN rn k p q r
variable {k':Nat}
section
variable {c:Nat}
def fE:(sp s c rn p q r k).get c=some (iN rn k p q r):=by unfold sp;rw[AS.aU,ip O]
def qX:(sp s c rn p q r k).set c (some<|iN rn k' p q r)=sp s c rn p q r k':=by unfold sp;rw[AS.set_set]
def nQ(h:s.get c=some (iN rn k p q r)):sp s c rn p q r k=s:=AS.eU h
end
def da (l:Int)(stops:Bq):Bool:=stops.any λb=>l==(b.toNat:Int)
def yE:List FuncId:=[40,70,71,72,73,84,148,149,156,158,159,248,249,252,253,257,259,260,261,322,324,325,326,364,365,366]
structure JX(rn:Nat)(all:Iq)(pr:Prim):Prop where
 xw:pr 146=gz rn all 146
 p92:pr 92=gz rn all 92
 one:∀(s:AS) (l:Int) (stops:Bq),(l = -1\/l∈all)->uh stops->gi stops<kc->EF prog kJ pr 328 #[.int .i32 l,str stops] s (.bool<|da l stops) s
 no:∀f,f∈yE->pr f=none
 pos:∀l∈all,0<=l
 len:all.length<=100000
def gR (all:Iq)(stops:Bq)(k:Nat):Nat:=k+((all.drop k).takeWhile λl=>!da l stops).length
def mA (all:Iq)(some_:Bq)(k:Nat):Nat:=k+((all.drop k).takeWhile λl=>da l some_).length
def Ho{f:α->Bool}:∀{l:List α} {j:Nat},j<(l.takeWhile f).length->∃x,l[j]?=some x/\f x=true
 | [],j,h=>by simp at h
 | x::l,j,h=>by
  rw[List.takeWhile_cons] at h;split at h
  .next hx =>
   cases j with
   | zero=>exact⟨x,O,hx⟩
   | succ j=>exact Ho (l:=l)<|by simpa using h
  .simp at h
theorem A2(f:α->Bool):∀l:List α,l[(l.takeWhile f).length]?=none\/∃x,l[(l.takeWhile f).length]?=some x/\f x=false
 | []=>.inl O
 | x::l=>by
  rw[List.takeWhile_cons];split
  .simpa using A2 f l
  .grind
def rW(all:Iq)(k j:Nat):dG all (k+j)=((all.drop k)[j]?).getD (-1):=by unfold dG;rw[OG]
def mU{all:Iq}{x:Int}(h:(all.drop k)[j]?=some x):dG all (k+j)=x/\x∈all:=⟨by rw[rW,h];rfl,List.mem_of_mem_drop<|mG h⟩
def tZ(f:α->Bool)(l:List α):(l.takeWhile f).length<=l.length:=(List.takeWhile_sublist f).length_le
def cV (all:Iq)(k j:Nat):Bq:=aG<|(all.drop k).take<|j-k
section
variable {c:Nat}
def JX.at(a:JX rn all pr)(k:Nat):dG all k = -1\/dG all k∈all:=by
 unfold dG;cases h:all[k]? with
 | none=>exact .inl O
 | some x=>exact .inr<|mG h
section
variable (hp:JX rn all pr)
def jm(hk:k<=1000000):Ef pr 70 #[aF c 0,num 0] (sp s c rn p q r k) (.int .i32<|dG all k) (sp s c rn p q r k):=ni (hp.no 70 dq) hp.xw fE O O hk
def su(a:j<=1000000):Ef pr 92 #[aF rn 0,num k,num j] s (str<|cV all k j) s:=by refine fI (hp.p92.trans O) ?_;simp only[aF];rw[ip ⟨trivial,oq,oq,oq⟩];simp[cV]
end
def Hc(k:Nat):bA prog 84 (aF c 0) (sp s c rn p q r k)=some (aF rn 0):=by unfold bA;simp only[aF,fE,underlying84];rfl
def M7(k:Nat):bA prog 3 (aF c 1) (sp s c rn p q r k)=some (num k):=by unfold bA;simp only[aF,fE,underlying3];rfl
section
variable (hp:JX rn all pr)
def NN[C2](y:uh stops)(G:k<=200000)(hw:gi stops<2:=by decide):Ef pr 259 #[aF c 0,str stops] (sp s c rn p q r k) (str<|cV all k<|gR all stops k) (sp s c rn p q r<|gR all stops k):=by
 have v:=λ(j:Nat)=>Ho (f:=λl=>!da l stops) (l:=all.drop k) (j:=j);have i:=A2 (λl=>!da l stops)<|all.drop k;have w:=tZ (λl=>!da l stops)<|all.drop k;have C:(all.drop k).length<=all.length:=iq
 have D:=hp.len;unfold gR;generalize ((all.drop k).takeWhile λl=>!da l stops).length=m at v i w |-;refine aQ (hp.no 259 dq) func259 O<|zs<|za (sp s c rn p q r k)<|zr<|zg 3 (sp s c rn p q r k)<|zp (yl c 1 (num k) fE)<|zf<|za (sp s c rn p q r k)<|ea (MQ c stops k) kq ?_;intro F;refine am<|aD<|aN (aZ (Q:=λe t A=>e=.exit 0/\A=sp s c rn p q r (k+m)/\∃x,t=MQ c stops k x) (λu t A=>∃j,u+j=m/\A=sp s c rn p q r (k+j)/\∃x,t=MQ c stops k x) ?_ m _ _ ⟨0,oq,O,F,O⟩) ?_
 .rintro u t A ⟨j,H,rfl,x,rfl⟩;have d:=jm (s:=s) (c:=c) (p:=p) (q:=q) (r:=r) hp (k:=k+j) oq;by_cases E:j<m
  .have⟨l,g,n⟩:=v j E;have⟨o,h⟩:=mU g;have B:=hp.pos l h;rw[o] at d;have a:=hp.one (sp s c rn p q r<|k+j) l stops (.inr h) y (w2 hw);rw[show da l stops=false by simpa using n] at a;exact am<|zr<|zc 1 d<|zp (yb (.int .i32 l) (.int .i32<|-1)<|dI (b:=true)<|bne_iff_ne.2 oq)<|zc 2 d<|zc 1 a<|zf<|za (sp s c rn p q r<|k+j)<|zT<|aD<|zx<|zg 3 (sp s c rn p q r<|k+j)<|zp (yl c 1 (num ((k+j:Nat):Int)) fE)<|zp (yp ((k+j:Nat):Int) 1 ((k+(j+1):Nat):Int) oq oq)<|zg 2 (sp s c rn p q r<|k+j)<|zp (ys c 1 (num ((k+(j+1):Nat):Int)) fE iq)<|aB ⟨u-1,oq,j+1,oq,qX,aP kq⟩
  .obtain rfl:j=m:=oq
   rcases i with g|⟨l,g,n⟩
   .have e:dG all (k+j) = -1:=by rw[rW,g];rfl
    rw[e] at d;exact am<|zr<|zc 1 d<|zf<|za (sp s c rn p q r<|k+j)<|zG<|cB ⟨O,O,aP kq⟩
   .have⟨o,h⟩:=mU g;have B:=hp.pos l h;rw[o] at d;have a:=hp.one (sp s c rn p q r<|k+j) l stops (.inr h) y (w2 hw);rw[show da l stops=true by simpa using n] at a;exact am<|zr<|zc 1 d<|zp (yb (.int .i32 l) (.int .i32<|-1)<|dI (b:=true)<|bne_iff_ne.2 oq)<|zc 2 d<|zc 1 a<|zf<|za (sp s c rn p q r<|k+j)<|zG<|cB ⟨O,O,aP kq⟩
 rintro e t A ⟨rfl,rfl,x,rfl⟩;have z:=su hp (s:=sp s c rn p q r<|k+m) (k:=k) (j:=k+m) oq;generalize cV all k (k+m)=I at z |-;exact am<|bO kq kq kq<|zq<|zq<|zq<|zt (sp s c rn p q r<|k+m)<|zu (yl c 0 (aF rn 0) fE)<|zq<|zq<|zq<|zq<|zt (sp s c rn p q r<|k+m)<|zu (yl c 1 (num ((k+m:Nat):Int)) fE)<|yt z<|zq<|cg ⟨dh [(bA prog 84 (aF c 0)<|sp s c rn p q r<|k+m,aF rn 0),(bA prog 3 (aF c 1)<|sp s c rn p q r<|k+m,num ((k+m:Nat):Int))] kq<|o9 (Hc _) (M7 _) O O,_,_,_,_,_,_,O,O,yR⟩
def UF(stops:Bq)(k:Nat):k<=gR all stops k/\gR all stops k<=k+100000:=by
 have h1:=tZ (λl=>!da l stops)<|all.drop k;have h2:(all.drop k).length<=all.length:=iq
 have h3:=hp.len;unfold gR;omega
def Hu[C2]{b0:UInt8}(e:b0.toNat<128)(f:k<=200000)(hw:gi [b0]<2:=by decide):Ef pr 260 #[aF c 0,str [b0]] (sp s c rn p q r k) (str<|cV all k<|gR all [b0] k) (sp s c rn p q r<|gR all [b0] k+1):=by have d:=NN (s:=s) (c:=c) (p:=p) (q:=q) (r:=r) hp (stops:=[b0]) (by intro b h;simp at h;subst h;exact e) (k:=k) f hw;have g:=UF hp [b0] k;generalize gR all [b0] k=a at *;exact aQ (hp.no 260 dq) func260 O<|zs<|zr<|zc 2 d<|zf<|za (sp s c rn p q r a)<|zr<|zg 3 (sp s c rn p q r a)<|zp (yl c 1 (num a) fE)<|zk 2<|zp (yp a 1 ((a+1:Nat):Int) oq oq)<|zg 2 (sp s c rn p q r a)<|zp (ys c 1 _ fE iq)<|aB<|pC (sp s c rn p q r<|a+1) qX<|zs yR
end
def wR:uh aK:=by intro b h;simp at h;rcases h with rfl|rfl|rfl|rfl|rfl<;>decide
def MP(c:Nat)(x:Nq):TL:=[aF c 0]++fW x 1 11
theorem Fc[C2](a:JX rn all pr)(C:k<=200000):Ef pr 257 #[aF c 0] (sp s c rn p q r k) (.tuple #[]) (sp s c rn p q r<|mA all aK k):=by
 have w:=λ(j:Nat)=>Ho (f:=λl=>da l aK) (l:=all.drop k) (j:=j);have v:=A2 (λl=>da l aK)<|all.drop k;have g:=tZ (λl=>da l aK)<|all.drop k;have t:(all.drop k).length<=all.length:=iq
 have B:=a.len;unfold mA;generalize ((all.drop k).takeWhile λl=>da l aK).length=m at w v g |-;refine aQ (a.no 257 dq) func257 O<|za (sp s c rn p q r k)<|ea (MP c) kq ?_;intro A;refine aD<|aN (aZ (Q:=λe b h=>e=.exit 0/\h=sp s c rn p q r (k+m)/\∃x,b=MP c x) (λu b h=>∃j,u+j=m/\h=sp s c rn p q r (k+j)/\∃x,b=MP c x) ?_ m _ _ ⟨0,oq,O,A,O⟩) ?_
 .rintro u b h ⟨j,D,rfl,x,rfl⟩;have i:=jm (s:=s) (c:=c) (p:=p) (q:=q) (r:=r) a (k:=k+j) oq;by_cases z:j<m
  .have⟨l,d,y⟩:=w j z;have⟨n,o⟩:=mU d;rw[n] at i;have U:=a.one (sp s c rn p q r<|k+j) l aK (.inr o) wR w2;rw[show da l aK=true by simpa using y] at U;exact am<|zr<|zc 1 i<|zc 0 U<|aB<|zT<|aD<|zx<|zg 3 (sp s c rn p q r<|k+j)<|zp (yl c 1 (num ((k+j:Nat):Int)) fE)<|zp (yp ((k+j:Nat):Int) 1 ((k+(j+1):Nat):Int) oq oq)<|zg 2 (sp s c rn p q r<|k+j)<|zp (ys c 1 (num ((k+(j+1):Nat):Int)) fE iq)<|aB ⟨u-1,oq,j+1,oq,qX,aP kq⟩
  .obtain rfl:j=m:=oq
   have U:Ef pr 328 #[.int .i32 (dG all<|k+j),str aK] (sp s c rn p q r<|k+j) (.bool false) (sp s c rn p q r<|k+j):=by
    rcases v with d|⟨l,d,y⟩
    .have e:dG all (k+j) = -1:=by rw[rW,d];rfl
     rw[e];exact a.one _ _ aK (.inl O) wR w2
    .have⟨n,o⟩:=mU d;rw[n]
     have:=a.one (sp s c rn p q r<|k+j) l aK (.inr o) wR w2;grind
   exact am<|zr<|zc 1 i<|zc 0 U<|aB<|zG<|cB ⟨O,O,aP kq⟩
 rintro e b h ⟨rfl,rfl,x,rfl⟩;exact⟨.inl O,kq,kq⟩
def tR(all:Iq)(k:Nat):Bool:=decide (k<mA all (aK++[47]) k)&&(dG all (mA all (aK++[47]) k-1)==47)
def M0:uh (aK++[47]):=by intro b h;simp at h;rcases h with rfl|rfl|rfl|rfl|rfl|rfl<;>decide
def AM(c:Nat)(b:Bool)(x:Nq):TL:=[aF c 0,x 1,.bool b]++fW x 3 14
theorem P4[C2](a:JX rn all pr)(H:k<=200000):Ef pr 324 #[aF c 0] (sp s c rn p q r k) (.bool<|tR all k) (sp s c rn p q r<|mA all (aK++[47]) k):=by
 have z:=λ(j:Nat)=>Ho (f:=λl=>da l<|aK++[47]) (l:=all.drop k) (j:=j);have y:=A2 (λl=>da l<|aK++[47])<|all.drop k;have n:=tZ (λl=>da l<|aK++[47])<|all.drop k;have w:(all.drop k).length<=all.length:=iq
 have F:=a.len;unfold tR mA;generalize ((all.drop k).takeWhile λl=>da l<|aK++[47]).length=m at z y n |-;refine aQ (a.no 324 dq) func324 O<|zs<|za (sp s c rn p q r k)<|ea (AM c false) kq ?_;intro E;refine am<|aD<|aN (aZ (Q:=λe d o=>e=.exit 0/\o=sp s c rn p q r (k+m)/\∃x,d=AM c (decide (k<k+m)&&(dG all (k+m-1)==47)) x) (λu d o=>∃j,u+j=m/\o=sp s c rn p q r (k+j)/\∃x,d=AM c (decide (k<k+j)&&(dG all (k+j-1)==47)) x) ?_ m _ _ ⟨0,oq,O,E,by simp[AM]⟩) ?_
 .rintro u d o ⟨j,I,rfl,x,rfl⟩;have g:=jm (s:=s) (c:=c) (p:=p) (q:=q) (r:=r) a (k:=k+j) oq;by_cases D:j<m
  .have⟨l,h,A⟩:=z j D;have⟨t,v⟩:=mU h;have i:(decide (k<k+(j+1))&&(dG all (k+(j+1)-1)==47))=(l==47):=gq
   rw[t] at g;have U:=a.one (sp s c rn p q r<|k+j) l (aK++[47]) (.inr v) M0 w2;rw[show da l (aK++[47])=true by simpa using A] at U;refine am<|zr<|zc 1 g<|zc 0 U<|aB<|zT<|aD<|zr<|zc 1 g<|zp (yb (.int .i32 l) (.int .i32 47)<|cQ O) ?_;generalize C:(l==(47:Int))=G at i;exact zf<|za (sp s c rn p q r<|k+j)<|zx<|zg 3 (sp s c rn p q r<|k+j)<|zp (yl c 1 _ fE)<|zp (yp ((k+j:Nat):Int) 1 ((k+(j+1):Nat):Int) oq oq)<|zg 2 (sp s c rn p q r<|k+j)<|zp (ys c 1 _ fE iq)<|aB ⟨u-1,oq,j+1,oq,qX,by rw[i];exact aP kq⟩
  .obtain rfl:j=m:=oq
   have U:Ef pr 328 #[.int .i32 (dG all<|k+j),str<|aK++[47]] (sp s c rn p q r<|k+j) (.bool false) (sp s c rn p q r<|k+j):=by
    rcases y with h|⟨l,h,A⟩
    .have e:dG all (k+j) = -1:=by rw[rW,h];rfl
     rw[e];exact a.one _ _ (aK++[47]) (.inl O) M0 w2
    .have⟨t,v⟩:=mU h;rw[t]
     have:=a.one (sp s c rn p q r<|k+j) l (aK++[47]) (.inr v) M0 w2;grind
   generalize dG all (k+j)=l at g U;exact am<|zr<|zc 1 g<|zc 0 U<|aB<|zG<|cB ⟨O,O,aP kq⟩
 rintro e d o ⟨rfl,rfl,x,rfl⟩;exact zs yR
def kH (all:Iq)(k:Nat):Bq × Nat:=if dG all k=34 then (cV all (k+1)<|gR all [34]<|k+1,gR all [34] (k+1)+1) else if dG all k=39 then (cV all (k+1)<|gR all [39]<|k+1,gR all [39] (k+1)+1) else (cV all k<|gR all (aK++[62]) k,gR all (aK++[62]) k)
end
theorem Sf{x:Value}(c:x=aF b off)(U:P.underlying t=some (.pointer e))(a:P.underlying u=some .unsafePointer)(f:s.get b=some (.cells cs ty fz))(g:cH P e=some (k+1))(d:off<cs.size):gm P t u x s=some (aF b off):=by subst c;unfold gm;simp[aF];grind
theorem Sg{x:Value}(c:x=aF b off)(U:P.underlying t=some .unsafePointer)(a:P.underlying u=some (.pointer e))(f:s.get b=some (.cells cs ty (0,0)))(g:cH P e=some (k+1))(d:liesAt P P.depth ty (cs.size / P.cellsOf ty) off e 1=true):gm P t u x s=some (aF b off):=by subst c;unfold gm;simp only[aF];grind
theorem L8{z}(U:o.op=.binOp .neq t x y z)(f:a.at x=aF b off)(g:a.at y=aF b off)(d:P.underlying t=some (.pointer e))(h:cH P e=some (k+1)):bS P kt c a o s=some (.bool false,s):=by
 refine fe (by rw[U];rfl) gq ?_;unfold cW;rw[U];simp only;rw[f,g];have h1:dj .neq (aF b off) (aF b off)=none:=O;have h2:oK P .neq t (aF b off) (aF b off)=some (.bool false):=by unfold oK;simp only[aF,d];rw[h];simp
 rw[h1,h2]
structure fA where
 kind:Int
 text:Bq
 name:Bq
 at_:Value
 closed:Bool
abbrev cR(t:fA):Vq:=[num t.kind,str t.text,str t.name,t.at_,.bool t.closed]
section
variable (ts:List fA)
def gO:Aq:=(ts.flatMap cR).toArray
def tW:(gO ts).size=ts.length*5:=by
 unfold gO;induction ts with
 | nil=>rfl
 | cons t ts ih=>simp at ih |-;omega
def Jx(t:fA):((gO ts).toList.take (ts.length*5)++cR t).toArray=gO (ts++[t]):=by rw[tL (by rw[Hh,tW];exact lr)];unfold gO;simp
end
def FF (s:AS)(q:Value)(tx:Bq):Prop:=(q=aX/\tx=[])\/∃d fz,q=.slice (some ⟨d,0,none⟩) tx.length tx.length/\Has s d (.cells (oJ tx) 5 fz)
def jl (s:AS)(r:Value)(ts:List fA):Prop:=(r=aX/\ts=[])\/∃d fz,r=.slice (some ⟨d,0,none⟩) ts.length ts.length/\Has s d (.cells (gO ts) 60 fz)
def SC (rn c:Nat)(s:AS)(k:Nat)(tx:Bq)(ts:List fA):Prop:=∃p q r,Has s c (iN rn k p q r)/\(p=.pointer none\/p=aF c 2)/\FF s q tx/\jl s r ts
def blk (v:Value)(b:Nat):Prop:=∃off sp n m,v=.slice (some ⟨b,off,sp⟩) n m
def KS (c:Nat)(s:AS)(b:Nat):Prop:=b=c\/∃rn k p q r,s.get c=some (iN rn k p q r)/\(blk q b\/blk r b)
def ir (c:Nat)(s s':AS):Prop:=fp (KS c s) s s'/\∀b,b<s.nx->KS c s' b->KS c s b
variable {tx:Bq}{ts:List fA}
section
variable {c:Nat}{p' q' r':Value}
def ir.refl(s:AS):ir c s s:=⟨bC s,λ_ _ h=>h⟩
def ir.trans(h:ir c s s1)(d:ir c s1 s2):ir c s s2:=by have e:=h.1.1;exact⟨h.1.trans d.1 λb a z=>h.2 b a z,λb a z=>h.2 b a<|d.2 b oq z⟩
theorem KS.at(h:s.get c=some (iN rn k p q r)):KS c s b↔b=c\/blk q b\/blk r b:=by
 constructor
 .rintro(z|⟨_,_,_,_,_,z,w⟩)
  .exact .inl z
  .grind
 .rintro(z|z)
  .exact .inl z
  .exact .inr ⟨_,_,_,_,_,h,z⟩
def kl:=@KS.at
theorem ir.mk'(h1:Has s c (iN rn k p q r))(h2:Has s' c (iN rn k' p' q' r'))(U:fp (KS c s) s s')(d:q'=q\/∀b,blk q' b->s.nx<=b)(e:r'=r\/∀b,blk r' b->s.nx<=b):ir c s s':=by
 refine⟨U,λb a z=>(kl h1.2).2 ?_⟩;rcases(kl h2.2).1 z with z|z|z
 .exact .inl z
 .grind
 .grind
def dT(h:blk aX b):False:=by have⟨_,_,_,_,h⟩:=h;cases h
def dz(h:blk (.slice (sq d) n m) b):b=d:=by have⟨_,_,_,_,h⟩:=h;cases h;rfl
def mJ(d n m:Nat):blk (.slice (sq d) n m) d:=⟨0,none,n,m,O⟩
def FF.blk(h:FF s q tx)(c:YtgcaionclkbehaaGreatDoor.blk q b):∃e a,Has s b (.cells e 5 a):=by
 rcases h with ⟨rfl,_⟩|⟨d,a,rfl,h⟩
 .exact(dT c).elim
 .rw[dz c];exact⟨_,_,h⟩
def jl.blk(h:jl s r ts)(c:YtgcaionclkbehaaGreatDoor.blk r b):∃e a,Has s b (.cells e 60 a):=by
 rcases h with ⟨rfl,_⟩|⟨d,a,rfl,h⟩
 .exact(dT c).elim
 .rw[dz c];exact⟨_,_,h⟩
def SC.no(h:SC rn c s k tx ts)(a:Has s b (.cells cs t fz))(h1:t≠121)(e:t≠5)(f:t≠60):¬KS c s b:=by
 have⟨p,q,r,d,j,g,i⟩:=h;intro z;rcases(kl d.2).1 z with z|z|z
 .exact a.ne d h1 z
 .have⟨_,_,z⟩:=g.blk z;exact a.ne z e O
 .have⟨_,_,z⟩:=i.blk z;exact a.ne z f O
def FF.add(h:FF s q tx)(x:Obj):FF (s.add x) q tx:=h.imp id λ⟨d,a,h1,h3⟩=>⟨d,a,h1,h3.add x⟩
def jl.add(h:jl s r ts)(x:Obj):jl (s.add x) r ts:=h.imp id λ⟨d,a,h1,h3⟩=>⟨d,a,h1,h3.add x⟩
def SC.add(h:SC rn c s k tx ts)(x:Obj):SC rn c (s.add x) k tx ts:=by have⟨p,q,r,h1,h2,h3,a⟩:=h;exact⟨p,q,r,h1.add x,h2,h3.add x,a.add x⟩
def ir.add(h:SC rn c s k tx ts)(x:Obj):ir c s (s.add x):=by have⟨p,q,r,h1,_⟩:=h;exact ir.mk' h1 (h1.add x) ((bC s).add x) (.inl O)<|.inl O
def FF.set(h:FF s q tx)(a:Has s b (.cells cs t fz))(c:t≠5)(x:Option Obj):FF (s.set b x) q tx:=h.imp id λ⟨d,f,h1,h3⟩=>⟨d,f,h1,h3.set (h3.ne a<|Ne.symm c) x⟩
def jl.set(h:jl s r ts)(a:Has s b (.cells cs t fz))(c:t≠60)(x:Option Obj):jl (s.set b x) r ts:=h.imp id λ⟨d,f,h1,h3⟩=>⟨d,f,h1,h3.set (h3.ne a<|Ne.symm c) x⟩
section
variable (h1:Has s c (iN rn k p q r))
def SC.sp(h2:p=.pointer none\/p=aF c 2)(h3:FF s q tx)(h4:jl s r ts):SC rn c (sp s c rn p q r k') k' tx ts :=
 ⟨p,q,r,h1.put _,h2,h3.set h1 dq _,h4.set h1 dq _⟩
def ir.sp:ir c s (sp s c rn p q r k'):=ir.mk' h1 (h1.put _) (bG (bC s) (λ_=>.inl O) _) (.inl O)<|.inl O
end
variable {x0 x1 x4:Value}
theorem Dq{m:Bq}(u:pr 261=none)(t:pr 156=none)(h:SC rn c s k tx ts)(K:tx.length+m.length<=1000000):∃v f,Ef pr 156 #[aF c 2,str m] s v f/\SC rn c f k (tx++m) ts/\ir c s f:=by
 have⟨p,q,r,h1,h2,h3,H⟩:=h;have I:Ef pr 261 #[aF c 2] s (.tuple #[]) (s.set c<|some<|.cells #[(aF rn 0),(num ↑k),aF c 2,q,r] 121):=by
  refine aQ u func261 O<|zr<|zg 3 s<|zp (yl c 2 p h1.2) ?_;rcases h2 with rfl|rfl
  .exact zf<|zH<|zx<|zg 2 s<|zp (wj O kq<|Sf (off:=2) (b:=c) (k:=1) kq underlying117 underlying244 h1.2 kq iq)<|EO.q kq kq<|zo s<|zp (wj O kq<|Sg (off:=2) (b:=c) (k:=1) kq underlying244 underlying117 h1.2 kq kq)<|zg 2 s<|zp (ys c 2 (aF c 2) h1.2 iq)<|aB ⟨.inl O,kq,kq⟩
  .exact zf<|zG<|zr<|zg 3 s<|zp (yl c 2 (aF c 2) h1.2)<|zg 1 s<|zp (L8 (off:=2) (b:=c) (k:=1) O kq kq underlying117 kq)<|aB<|zF ⟨.inl O,kq,(AS.eU h1.2).symm⟩
 have e:Has (s.set c<|some<|iN rn k (aF c 2) q r) c (iN rn k (aF c 2) q r):=h1.put _;have o:FF (s.set c<|some<|iN rn k (aF c 2) q r) q tx:=h3.set h1 dq _;have i:jl (s.set c<|some<|iN rn k (aF c 2) q r) r ts:=H.set h1 dq _;have y:ir c s (s.set c<|some<|iN rn k (aF c 2) q r):=ir.mk' h1 e (bG (bC s) (λ_=>.inl O) _) (.inl O)<|.inl O;generalize s.set c (some<|iN rn k (aF c 2) q r)=a at *;have n:∃w U,cf prog 5 q (strCells ⟨m.toArray⟩) m.length a=some (w,U)/\w.cells=#[w]/\w.oneCell'=true/\kD q=true/\Has U c (iN rn k (aF c 2) q r)/\FF U w (tx++m)/\jl U r ts/\fp (KS c a) a U/\(w=q\/∀b,blk w b->a.nx<=b):=by
  cases m with
  | nil =>
   rcases o with ⟨rfl,rfl⟩|⟨d,fz,rfl,q3⟩
   .exact⟨_,a,BE<|.inl O,O,O,O,e,.inl ⟨O,O⟩,i,bC a,.inl O⟩
   .exact⟨_,a,BE<|.inr ⟨d,_,_,O⟩,O,O,O,e,.inr ⟨d,fz,by rw[List.append_nil],by rw[List.append_nil];exact q3⟩,i,bC a,.inl O⟩
  | cons x m =>
   rcases o with ⟨rfl,rfl⟩|⟨d,fz,rfl,q3⟩
   .exact⟨_,_,oG iq,O,O,O,e.add _,.inr ⟨a.nx,(1,1),O,bw a _⟩,i.add _,(bC a).add _,.inr λb z=>Nat.le_of_eq (dz z).symm⟩
   .have J:(oJ tx).size=tx.length:=by simp[strCells]
    refine⟨_,_,ry (sz:=1) iq q3.2 kq gq oq,O,O,O,(e.set (e.ne q3 dq) none).add _,.inr ⟨a.nx,(1,1),by rw[lA],?_⟩,(i.set q3 dq none).add _,(bG (bC a) (λ_=>(kl e.2).2<|.inr<|.inl<|mJ _ _ _) none).add _,.inr λb z=>Nat.le_of_eq (dz z).symm⟩;have:List.take (tx.length*1) (oJ tx).toList=strCells ⟨tx.toArray⟩:=gq
    rw[this,nU];exact bw (a.set d none) _
 have⟨w,U,e1,A,B,C,g,D,E,F,G⟩:=n;have j:ir c a (U.set c<|some<|iN rn k (aF c 2) w r):=ir.mk' e (g.put _) (bG F (λ_=>.inl O) _) G<|.inl O;suffices h:∃f,Ef pr 156 #[aF c 2,str m] s (.tuple #[num m.length,.nilIface]) f/\SC rn c f k (tx++m) ts/\ir c s f by grind
 exact cm t func156 O<|zs<|zr<|zc 1 I<|aB<|zr<|zg 4 a<|zp (yl c 3 q e.2)<|zg 1 a<|zp (Aw (sl:=q) (m:=m) O kq kq underlying55 underlying9 kq kq oq C e1)<|zg 2 U<|zp (kB (b:=c) (off:=3) O kq kq A B kq g.2 iq)<|aB<|zr<|zk 1<|zp (di (l:=m) O underlying9 kq)<|zf<|aE ⟨.inr O,kq,⟨aF c 2,w,r,g.put _,.inr O,D.set g dq _,E.set g dq _⟩,y.trans j⟩
end
structure lU where
 kind:Int
 parent:Int
 name:Bq
 text:Bq
 lV:Value
def lU.cells(x:lU):Vq:=[num x.kind,num x.parent,str x.name,str x.text,x.lV]
abbrev TQ(l:List lU):Aq:=(l.flatMap lU.cells).toArray
theorem W3{a b c:Option Value}{u v w:Value}(g:a=some u)(h:b=some v)(i:c=some w)(p:bN 20 u=true:=by rfl)(q:bN 20 v=true:=by rfl)(r:bN 20 w=true:=by rfl):∀x∈[(a,u),(b,v),(c,w)],x.1=some x.2/\bN 20 x.2=true:=gq
def e9{d:TypeDesc}{s:AS}(e:P.underlying t=some d)(a:d.isRow=false)(c:s.get b=some (.cells cs ty fz))(f:cs[off]?=some v):bA P t (aF b off) s=some v:=by unfold bA;simp[aF,c,e,a];exact f
def N9{s:AS}(t:TypeId)(c:s.get b=some (.cells cs ty fz))(f:cs[off]?=some v)(e:Yy prog t=true:=by kernel_rfl):bA prog t (aF b off) s=some v:=by
 unfold Yy at e;cases h:prog.underlying t with
 | none=>rw[h] at e;cases e
 | some d=>rw[h] at e;exact e9 h (by simpa using e) c f
theorem eA{s:AS}{ws:Vq}(U:o.op=.store t x y)(f:a.at x=aF b off)(g:a.at y=w)(d:w.cells=ws.toArray)(j:ws.all Value.oneCell'=true)(h:cH P t=some ws.length)(e:s.get b=some (.cells cs ty fz))(i:off+ws.length<=cs.size):bS P kt c a o s=some (undef,s.set b<|some<|.cells (putAt cs off ws) ty fz):=by unfold bS;rw[iw (by rw[U];simp[gW]),U];simp only;unfold nI;rw[f,g];simp only[aF,e,d];grind
abbrev jP(l:List (Bq × Bq)):Aq:=(l.flatMap λp=>[str p.1,str p.2]).toArray
def fw (s:AS)(v:Value)(l:List (Bq × Bq)):Prop:=(v=.slice none 0 0/\l=[])\/∃ab c fz,v=.slice (some ⟨ab,0,none⟩) l.length c/\ab<s.nx/\s.get ab=some (.cells (jP l) 47 fz)
theorem FL{l:List (Bq × Bq)}{p:Bq × Bq}(h:l[i]?=some p):i*2+2<=(jP l).size/\(((jP l).toList.drop<|i*2).take 2).toArray=#[str p.1,str p.2]:=by
 induction l generalizing i with
 | nil=>simp at h
 | cons q l U =>
  cases i with
  | zero =>grind
  | succ i =>grind
theorem qP{s s':AS}{news:Vq}{bytes:Nat}(U:o.op=.call { callee:=.builtin .append,args:=#[x,y],argTypes:=#[t,t] })(f:a.at x=sl)(g:a.at y=.slice (sq d) m k)(C:P.underlying t=some (.slice e))(hi:(P.info? e).map (λi=>(i.zero,i.size,i.bytes))=some (some z,sz,bytes))(D:z.cells.size=sz)(n:0<sz)(p:bytes<=1000)(l:kt e=false)(r:s.get d=some (.cells cs e fz))(j:dZ sl (sq d)=true)(w:m<=1000000000)(u:m*sz<=cs.size)(A:cs.toList.take (m*sz)=news)(B:news.all Value.oneCell'=true)(h:cf P e sl news m s=some (v,s')):bS P kt c a o s=some (v,s'):=by
 have b:cW P a o=none:=by unfold cW;rw[U]
 have q:eH s sz (sq d) m=some news:=by unfold eH;grind
 unfold bS;rw[iw (by rw[U];simp[gW])];rw[U];simp only;rw[b];simp;rw[f,g];unfold gC;grind
abbrev US:Value:=.agg #[num 0,str [],str [],aX,.bool false]
def nW(t:fA)(h:t.at_.oneCell'=true):(cR t).all Value.oneCell'=true:=by show((num t.kind).oneCell'&&((str t.text).oneCell'&&((str t.name).oneCell'&&(t.at_.oneCell'&&((Value.bool t.closed).oneCell'&&true)))))=true;rw[h];rfl
def fJ(h:∀b,blk v b->b<n):dZ v (sq n)=true:=by
 unfold dZ;split
 .next b a f m d g c e =>
  cases e
  have:=h b ⟨a,none,_,_,O⟩;cases hq:Nat.beq b n with
  | false=>rfl
  | true=>exact absurd (ja hq) oq
 .rfl
section
variable {c:Nat}
section
variable (h:jl s r ts)
def jl.lt:∀b,YtgcaionclkbehaaGreatDoor.blk r b->b<s.nx:=λb a=>by have⟨_,_,z⟩:=jl.blk h a;exact z.1
def jl.qz:bN 20 r=true:=by rcases h with ⟨rfl,_⟩|⟨d',Gj,rfl,_⟩<;>rfl
def Mt{x:Obj}(h1:Has s c x)(f:¬blk r c)(i:ts.length<=1000000)(t:fA):∃w a,cf prog 60 r (cR t) 1 s=some (w,a)/\w.cells=#[w]/\w.oneCell'=true/\jl a w (ts++[t])/\Has a c x/\fp (λb=>blk r b) s a/\∀b,blk w b->s.nx<=b:=by
 rcases h with ⟨rfl,rfl⟩|⟨d,fz,rfl,q3⟩
 .exact⟨_,_,oG dq,O,O,.inr ⟨s.nx,(1,1),O,bw s _⟩,h1.add _,(bC s).add _,λb z=>Nat.le_of_eq (dz z).symm⟩
 .have g:=tW ts;refine⟨_,_,ry (sz:=5) dq q3.2 kq oq oq,O,O,?_,(h1.set (λe=>f<|e▸mJ _ _ _) none).add _,(bG (bC s) (λ_=>mJ _ _ _) none).add _,λb z=>Nat.le_of_eq (dz z).symm⟩;rw[Jx];exact .inr ⟨s.nx,(1,1),by rw[lA];rfl,bw _ _⟩
end
def oh (tx:Bq)(a:List fA):List fA:=if tx=[] then a else a++[⟨1,tx,[],aX,false⟩]
def SC.rc{p q:Value}(h1:Has s c (iN rn k p q r))(a:jl s r ts):¬blk r c:=λz=>by have⟨_,_,w⟩:=a.blk z;exact h1.ne w dq O
section
variable (xj:∀f,f∈yE->pr f=none)
def ya(h:SC rn c s k tx ts)(hx:tx.length<=1000000)(Y:ts.length<=1000000):∃G,Ef pr 73 #[aF c 0] s (.tuple #[]) G/\SC rn c G k [] (oh tx ts)/\ir c s G:=by
 have F:=h;have⟨p,q,r,h1,h2,h3,D⟩:=h;obtain⟨L,M,Z⟩:∃L M,q=.slice L tx.length M:=by
  rcases h3 with ⟨rfl,rfl⟩|⟨d,fz,rfl,_⟩
  .exact⟨none,0,rfl⟩
  .exact⟨_,_,rfl⟩
 have t:Ef pr 158 #[aF c 2] s (num tx.length) s:=by have o:=h1;rw[Z] at o;exact aQ (xj 158 dq) func158 O<|zs<|zr<|zg 3 s<|zp (yl c 3 (.slice L (List.length tx) M) o.2)<|zf yR
 refine cm (xj 73 dq) func73 rfl<|zr<|zc 3 t ?_;by_cases y:tx=[]
 .subst y;exact zp (yb (num (([]:Bq).length:Nat)) (num 0)<|db (b:=false) dq)<|aB<|za s<|zF ⟨.inl rfl,kq,F,ir.refl s⟩
 .have T:0<tx.length:=EA.2 y;rcases h3 with ⟨_,z⟩|⟨d,fz,Ir,q3⟩
  .exact absurd z y
  rw[Ir] at h1;have v:Ef pr 84 #[aF c 2] s (str tx) (s.set d none):=by
   obtain⟨a5,tx,rfl⟩:∃a5 h,tx=a5::h:=by
    cases tx with
    | nil=>exact absurd O y
    | cons a5 tx=>exact⟨a5,tx,O⟩
   refine aQ (xj 84 dq) func84 O<|zs<|am<|bO kq kq kq<|zq<|zq<|zq<|zt s<|zu (yl c 3 (.slice (sq d) (a5::tx).length (a5::tx).length) h1.2)<|zq<|zq<|zq<|zq<|zt s<|zu (yl c 3 (.slice (sq d) (a5::tx).length (a5::tx).length) h1.2)<|zq<|zt s<|zu (Md O kq kq kq q3.2 kq iq oq)<|zq ?_;have a:bA prog 55 (aF c 3) s=some (.slice (sq d) (a5::tx).length (a5::tx).length):=by unfold bA;simp only[aF,h1.2,underlying55];rfl
   exact cg ⟨Dz<|o9 a a O O,_,_,_,_,_,_,O,O,yR⟩
  have E:bA prog 56 (aF c 4) s=some r:=e9 underlying56 rfl h1.2 (off:=4) rfl;have e1:Has (s.set d none) c (iN rn k p (.slice (sq d) tx.length tx.length) r):=h1.set (h1.ne q3 dq) none;have e:bA prog 56 (aF c 4) (s.set d none)=some r:=e9 underlying56 rfl e1.2 (off:=4) rfl;have x:=D.qz;have Q:fp (KS c s) s (s.set d none):=bG (bC s) (λ_=>(kl h1.2).2<|.inr<|.inl<|mJ _ _ _) none;have B:jl (s.set d none) r ts:=D.set q3 dq none;have a:=fJ B.lt;have N:=B.add<|.cells (cR ⟨1,tx,[],aX,false⟩).toArray 60;have O:=bw (s.set d none)<|.cells (cR ⟨1,tx,[],aX,false⟩).toArray 60;have P:=e1.add<|.cells (cR ⟨1,tx,[],aX,false⟩).toArray 60;have R:=Q.add<|.cells (cR ⟨1,tx,[],aX,false⟩).toArray 60;have⟨w,A,I,U,V,W,C,J,K⟩:=Mt N P (SC.rc h1 D) Y ⟨1,tx,[],aX,false⟩;have X:fp (KS c s) s A:=R.trans J λb _ z=>(kl h1.2).2<|.inr<|.inr z;have hw:∀b,blk w b->s.nx<=b:=λb z=>by have:=K b z;simp at this;omega
  generalize s.set d none=H at e1 e B a N O P I J K v Q R;refine zp (yb (num tx.length) (num 0)<|db (b:=true)<|tD oq)<|aB<|zH<|za s<|am<|bO kq kq kq<|zq<|zq<|zq<|zq<|zt s<|zu (yl c 4 r h1.2)<|zq<|zq<|zq<|zt s<|yt v<|zq<|zq<|zt (H.add<|.cells (cR ⟨1,tx,[],aX,false⟩).toArray 60)<|zu (qP (sl:=r) (news:=cR ⟨1,tx,[],aX,false⟩) (d:=H.nx) (m:=1) (k:=1) (sz:=5) (z:=US) (bytes:=72) rfl kq kq underlying56 kq rfl dq dq kq O.2 a dq iq iq (nW _ rfl) I)<|zq<|zq<|zt A<|zu (kB (b:=c) (off:=4) rfl kq kq U V kq C.2 iq)<|cg ⟨Dz<|o9 E e x x,_,_,_,_,_,_,rfl,rfl,?_⟩;have n:=C.put<|iN rn k p (.slice (sq d) tx.length tx.length) w;have g:=W.set C dq<|some<|iN rn k p (.slice (sq d) tx.length tx.length) w;have S:fp (KS c s) s (A.set c<|some<|iN rn k p (.slice (sq d) tx.length tx.length) w):=bG X (λ_=>.inl rfl) _;refine za (A.set c<|some<|iN rn k p (.slice (sq d) tx.length tx.length) w) ?_;generalize A.set c (some<|iN rn k p (.slice (sq d) tx.length tx.length) w)=f at n g S |-;have u:Ef pr 159 #[aF c 2] f (.tuple #[]) (f.set c<|some<|iN rn k (.pointer none) aX w):=by refine aQ (xj 159 dq) func159 rfl<|zr<|zg 3 f<|zp (ys c 2 (.pointer none) n.2 iq)<|aB ?_;have i:=n.put<|iN rn k (.pointer none) (.slice (sq d) tx.length tx.length) w;have j:=AS.set_set f c (some<|iN rn k (.pointer none) (.slice (sq d) tx.length tx.length) w)<|some<|iN rn k (.pointer none) aX w;refine za (f.set c<|some<|iN rn k (.pointer none) (.slice (sq d) tx.length tx.length) w) ?_;generalize f.set c (some<|iN rn k (.pointer none) (.slice (sq d) tx.length tx.length) w)=s5 at i j |-;exact zx<|zg 3 s5<|zp (ys c 3 aX i.2 iq)<|aB ⟨.inl rfl,kq,by rw[<-j];kernel_rfl⟩
  have l:Has (f.set c<|some<|iN rn k (.pointer none) aX w) c (iN rn k (.pointer none) aX w):=n.put _;refine zx<|zc 3 u<|aB ⟨.inl rfl,kq,⟨.pointer none,aX,w,l,.inl rfl,.inl ⟨rfl,rfl⟩,?_⟩,ir.mk' h1 l (bG S (λ_=>.inl rfl) _) (.inr λb z=>(dT z).elim)<|.inr hw⟩;unfold oh;rw[iw y];exact g.set n dq _
def QP(h:SC rn c s k tx ts)(V:tx.length<=1000000)(Z:ts.length<=900000)(t:fA)(x:t.at_.oneCell'=true)(y:bN 19 t.at_=true):∃B,Ef pr 249 #[aF c 0,.agg (cR t).toArray] s (.tuple #[]) B/\SC rn c B k [] (oh tx ts++[t])/\ir c s B:=by
 have⟨a,S,v,g⟩:=ya xj (h.add<|.cells (cR t).toArray 60) V oq;have T:(oh tx ts).length<=ts.length+1:=by unfold oh;split<;>simp
 have f:Has a s.nx (.cells (cR t).toArray 60):=by
  refine(bw s _).fr g.1 λz=>?_;have⟨p,q,r,E,q2,W,X⟩:=h;have Y:=E.1;rcases(kl (E.add<|.cells (cR t).toArray 60).2).1 z with z|z|z
  .omega
  .have⟨_,_,z⟩:=W.blk z;have:=z.1;omega
  .have⟨_,_,z⟩:=X.blk z;have:=z.1;omega
 have⟨p,q,r,h1,h2,h3,e⟩:=v;have u:=e9 (P:=prog) (t:=56) underlying56 rfl h1.2 (off:=4) rfl;have i:bA prog 60 (aF s.nx 0) a=some (.agg (cR t).toArray):=by unfold bA;simp only[aF,f.2,underlying60];kernel_rfl
 have A:bN 20 (.agg (cR t).toArray)=true:=by show((bN 19<|num t.kind)&&((bN 19<|str t.text)&&((bN 19<|str t.name)&&(bN 19 t.at_&&(bN 19 (.bool t.closed)&&true)))))=true;rw[y];rfl
 have L:=e.add<|.cells (cR t).toArray 60;have N:=h1.add<|.cells (cR t).toArray 60;have O:=(bC (K:=KS c a) a).add<|.cells (cR t).toArray 60;have⟨w,j,F,G,H,I,l,C,J⟩:=Mt L N (SC.rc h1 e) oq t;have Q:=O.trans C λb _ z=>(kl h1.2).2<|.inr<|.inr z;have U:∀b,blk w b->a.nx<=b:=λb z=>by have:=J b z;simp at this;omega
 have D:Has _ c (iN rn k p q w):=l.put _;have R:=ir.mk' h1 D (bG Q (λ_=>.inl rfl) _) (.inl rfl)<|.inr U;have n:FF j q []:=by
  rcases h3 with z|⟨d,fz,z1,z2⟩
  .exact .inl z
  .refine .inr ⟨d,fz,z1,(z2.add _).fr C λz=>?_⟩;have⟨_,_,z⟩:=e.blk z;exact z2.ne z dq rfl
 exact cm (xj 249 dq) func249 rfl<|zs<|za (s.add<|.cells (cR t).toArray 60)<|zr<|zc 1 S<|aB<|za a<|bO kq kq kq<|zq<|zq<|zq<|zq<|zt a<|zu (yl c 4 r h1.2)<|zu (yA s.nx 0 5 ((cR t).toArray) f.2 iq)<|zq<|zt _<|zu (qP (sl:=r) (d:=a.nx) (m:=1) (k:=1) (sz:=5) (z:=US) (bytes:=72) rfl kq kq underlying56 kq rfl dq dq kq (bw a<|.cells (cR t).toArray 60).2 (fJ e.lt) dq iq iq (nW _ x) F)<|zq<|zq<|zt j<|zu (kB (b:=c) (off:=4) (w:=w) rfl kq kq G H kq l.2 iq)<|cg ⟨Dz<|o9 u i e.qz A,_,_,_,_,_,_,rfl,rfl,⟨.inl rfl,kq,⟨p,q,w,D,h2,n.set l dq _,I.set l dq _⟩,((ir.add h<|.cells (cR t).toArray 60).trans g).trans R⟩⟩
end
end
