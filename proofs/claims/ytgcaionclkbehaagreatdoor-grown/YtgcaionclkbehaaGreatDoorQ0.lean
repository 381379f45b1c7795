
import Derived.Test.YtgcaionclkbehaaGreatDoorE21
import Derived.Room.MakeNoZero
set_option linter.all false
set_option maxHeartbeats 2000000
set_option maxRecDepth 100000
namespace Go.Proofs.YtgcaionclkbehaaGreatDoor
open Go.Conc Go.RowKit Go.Lib Tryz
variable {P:Program}{kt:TypeId->Bool}{pr:Prim}{f fn g:FuncId}{args args' cs:Aq}{s s' s1 s2:AS}{p sl v:Value}{w:World}{e pt t t' ty u:TypeId}{x y:Operand}{l m:Bq}{i j:Int}{N b c d k n off sz:Nat}{ops:Array Oper}{fz:Nat × Nat}{l0 news:Vq}{S:cb}
theorem EF.one{w:Value}(h:EF P kt pr f args s v s1)(U:EF P kt pr f args s w s2):v=w/\s1=s2:=by have⟨n,h⟩:=h;have⟨m,U⟩:=U;have e1:=gW (Nat.le_max_left n m) _ _ _ _ h;have a:=gW (Nat.le_max_right n m) _ _ _ _ U;grind
def RX (V:Aq->Option Value)(args:Aq)(s:AS):Option (Value × AS):=match V args with
 | some v=>some (v,s)
 | none=>none
def uB (f:FuncId)(V:Aq->Option Value)(pr:Prim):Prim:=λg=>if g.beq f then some (RX V) else pr g
def EF.al{V:Aq->Option Value}(b:pr f=some (RX V))(a:V args=some v):EF P kt pr f args s v s:=EF.vp b (by unfold RX;rw[a])
def qOk:Option (Value × AS)->Bool
 | some _=>true
 | none=>false
def qV:Option (Value × AS)->Value
 | some (v,_)=>v
 | none=>undef
def qS:Option (Value × AS)->AS
 | some (_,s)=>s
 | none=>⟨[],0⟩
variable {Q:Exit->TL->AS->Prop}{K:TL->AS->Prop}{KT:List (TL × Value × AS)->Prop}{rest:List Oper}
section
variable {P:Program}{kt:TypeId->Bool}{pr:Prim}{c:fI}{a:TL}{s:AS}{ops:Array Oper}{o:Oper}{v:Value}{s1:AS}
section
variable (hw:Region.wanted o (bL ops a)=true)
section
variable (h:qOk (bN P kt (λ_ _ _=>none) a o s)=true)
def ET.q(k:ET P kt pr ops rest (a.put o.dst (qV (bN P kt (λ_ _ _=>none) a o s))) (qS (bN P kt (λ_ _ _=>none) a o s)) (λc=>KT ((a,qV (bN P kt (λ_ _ _=>none) a o s),qS (bN P kt (λ_ _ _=>none) a o s))::c))):ET P kt pr ops (o::rest) a s KT:=by
 generalize b:bN P kt (λ_ _ _=>none) a o s=q at h k;obtain _|⟨v,s'⟩:=q
 .cases h
 .exact ET.op hw b k
def EO.q(k:EO P kt pr ops rest (a.put o.dst (qV (bN P kt (λ_ _ _=>none) a o s))) (qS (bN P kt (λ_ _ _=>none) a o s)) K):EO P kt pr ops (o::rest) a s K:=by
 generalize b:bN P kt (λ_ _ _=>none) a o s=q at h k;obtain _|⟨v,s'⟩:=q
 .cases h
 .exact EO.op hw b k
end
end
def ET.kZ(s':AS)(h:s=s')(k:ET P kt pr ops rest a s' KT):ET P kt pr ops rest a s KT:=h▸k
theorem aQ{b:BinOp}{z}{u w:Value}(U:o.op=.binOp b t x y z)(d:a.at x=u)(e:a.at y=w)(h:dw b u w=some v):bN P kt c a o s=some (v,s):=by refine ej (by rw[U];rfl) gq ?_;unfold cj;grind
def cY(b:o.op=.call { callee:=.builtin .len,args:=#[x],argTypes:=#[t] })(d:P.underlying t=some .string)(f:a.at x=str l):bN P kt c a o s=some (num l.length,s):=by
 have e:cj P a o=some (num l.length):=by unfold cj;rw[b];simp only;rw[d,f];show some (goInt (jg l 0))=_;rw[pW];rfl
 unfold bN;rw[iw (by rw[b];simp[eF]),b];simp only;rw[e]
def iF{lo hi:Option Operand}{i j:Nat}(b:o.op=.slice t x lo hi none)(f:P.underlying t=some .string)(g:a.at x=str l)(d:bD l.length l.length (lo.map a.at) (hi.map a.at)=some (i,j))(e:(l.take j).drop i=m):bN P kt c a o s=some (str m,s):=by rw[xK b f g d,e]
def eZ{b:Bool}(h:decide (i>=j)=b):dw .geq (num i) (num j)=some (.bool b):=by unfold dw;simp only[ip];rw[h]
def dQ{b:Bool}(h:decide (i>j)=b):dw .gtr (num i) (num j)=some (.bool b):=by unfold dw;simp only[ip];rw[h]
def aX{b:Bool}(h:decide (i<j)=b):dw .lss (num i) (num j)=some (.bool b):=by unfold dw;simp only[ip];rw[h]
def sU{b:Bool}(h:decide (i<=j)=b):dw .leq (num i) (num j)=some (.bool b):=by unfold dw;simp only[ip];rw[h]
def dk{b:Bool}(h:(i==j)=b):dw .eql (num i) (num j)=some (.bool b):=by unfold dw;simp only[ip];rw[h]
def dP{b:Bool}(h:cw l m=b):dw .eql (str l) (str m)=some (.bool b):=by unfold dw;simp only;rw[h]
end
def dz(l m:Bq):cw l m=true↔l=m:=by
 constructor
 .intro h;induction l generalizing m with
  | nil=>cases m with
   | nil=>rfl
   | cons y m=>simp[cw] at h
  | cons x l a=>cases m with
   | nil=>simp[cw] at h
   | cons y m =>
    unfold cw at h;split at h
    .next e=>rw[UInt8.toNat_inj.1 (gh e),a m h]
    .cases h
 .rintro rfl;induction l with
  | nil=>rfl
  | cons x l a=>unfold cw;simp[a]
def kv(h:l≠m):cw l m=false:=by
 cases hb:cw l m with
 | false=>rfl
 | true=>exact absurd ((dz l m).1 hb) h
def bB:Nat->Value->Bool
 | 0,_=>false
 | n+1,v=>match v with
  | .bool _|.int _ _|.string _|.pointer _|.slice _ _ _|.nilFunc|.nilIface=>true
  | .func _ x y=>x.toList.all (bB n)&&y.toList.all (bB n)
  | .agg x=>x.toList.all (bB n)
  | _=>false
def qF{α:Type}{p:α × α->Bool}:∀{l:List α},(∀x∈l,p (x,x)=true)->(l.zip l).all p=true
 | [],_=>rfl
 | x::l,h=>by rw[List.zip_cons_cons,List.all_cons,h x iq,qF λy hy=>h y (by simp[hy])];rfl
def qA:∀{n:Nat} {v:Value},bB n v=true->og n v v=true
 | 0,v,h=>by simp[bB] at h
 | n+1,v,h=>by
  cases v with
  | bool b=>unfold og;simp
  | int k i=>unfold og;simp
  | string x=>unfold og;exact(dz _ _).2 rfl
  | pointer x=>unfold og;simp
  | slice x l c=>unfold og;simp
  | nilFunc=>unfold og;rfl
  | nilIface=>unfold og;rfl
  | func f x y =>unfold bB at h;simp only[lV,aT] at h;unfold og;simp only[beq_self_eq_true,Bool.true_and,Nat.beq_refl];rw[qF λz hz=>qA (h.1 z hz),qF λz hz=>qA (h.2 z hz)];rfl
  | agg x =>unfold bB at h;simp only[aT] at h;unfold og;simp only[Nat.beq_refl,Bool.true_and];exact qF λz hz=>qA (h z hz)
  | _=>simp[bB] at h
def Ji (P:Program)(ops:Array Oper)(q:Nat):List Nat:=(List.range q).filter λi=>(match ops.toList[i]? with|some o=>kindOf P o|none=>0)==3
def QD(P:Program)(ops:Array Oper)(fT:List Nat)(q:Nat)(tr:List (TL × Value × AS))(s:AS):List (Option Value × Value) :=
 (List.range q).flatMap λr=>match ops.toList[r]?,tr[r]? with
  | some o,some (a,v,_)=>match o.op with
   | .load t x=>if Region.wanted o (bL ops a) then ((0::(Ji P ops q).map (·+1)).filter λp=>!((Ji P ops q).any λe=>(e.blt p&&(fT.getD e 0).testBit r)||(!e.blt p&&(fT.getD r 0).testBit e))).map λp=>(aB P t (a.at x) (ir tr s p),v) else []
   | _=>[]
  | _,_=>[(none,undef)]
def aI{fT:List Nat}{q:Nat}{tr:List (TL × Value × AS)}(L:List (Option Value × Value))(g:QD P ops fT q tr s=L)(h:∀x∈L,x.1=some x.2/\bB 20 x.2=true):qc P ops fT q tr s=true:=by
 subst g;unfold qc;simp only;rw[aT];intro r j;have b:∀x,x∈(match ops.toList[r]?,tr[r]? with
  | some o,some (a,v,_)=>match o.op with
   | .load t x=>if Region.wanted o (bL ops a) then ((0::(Ji P ops q).map (·+1)).filter λp=>!((Ji P ops q).any λe=>(e.blt p&&(fT.getD e 0).testBit r)||(!e.blt p&&(fT.getD r 0).testBit e))).map λp=>(aB P t (a.at x) (ir tr s p),v) else []
   | _=>[]
  | _,_=>[(none,undef)]:List (Option Value × Value))->x.1=some x.2/\bB 20 x.2=true:=λx k=>h x (List.mem_flatMap.2 ⟨r,j,k⟩);cases ho:ops.toList[r]? with
 | none=>rw[ho] at b;exact absurd (b (none,undef) iq).1 iq
 | some o =>
  cases ht:tr[r]? with
  | none=>rw[ho,ht] at b;exact absurd (b (none,undef) iq).1 iq
  | some z =>
   have⟨a,v,l⟩:=z;rw[ho,ht] at b;simp only at b |-;cases ko:o.op with
   | load t x =>
    rw[ko] at b;simp only at b |-;rw[aT];intro p i;by_cases d:Region.wanted o (bL ops a)=true
    .rw[ip d] at b;by_cases f:((Ji P ops q).any λe=>(e.blt p&&(fT.getD e 0).testBit r)||(!e.blt p&&(fT.getD r 0).testBit e))=true
     .rw[BM,BM];exact .inl (.inl f)
     .have c:=b (aB P t (a.at x) (ir tr s p),v) (List.mem_map.2 ⟨p,List.mem_filter.2 ⟨i,by simpa using f⟩,rfl⟩);simp only at c;rw[c.1];simp only[qA c.2,Bool.or_true,Bool.true_or]
    .simp only[Bool.not_eq_true] at d;rw[d];simp
   | _=>rfl
def cL{k:IntKind}{b:Bool}(h:(i==j)=b):dw .eql (.int k i) (.int k j)=some (.bool b):=by unfold dw;simp only[ip];rw[h]
def aR{f:(Nq)->TL}{a:TL}(h:a=f (λj=>a.getD j undef)):∃x,a=f x:=⟨_,h⟩
section
variable {P:Program}{kt:TypeId->Bool}{pr:Prim}{c:fI}{a:TL}{s s':AS}{o:Oper}{v:Value}
def rB{r:Aq}{d:TypeDesc}(e:o.op=.load t x)(k:P.underlying t=some d)(g:d.isRow=true)(f:bP P t=some n)(l:a.at x=am b off)(j:s.get b=some (.cells cs ty fz))(h:off+n<=cs.size)(i:(cs.toList.drop off |>.take n).toArray=r):bN P kt c a o s=some (.agg r,s):=by unfold bN;rw[iw (by rw[e];simp[eF]),e];simp only;unfold aB;rw[l];simp only[am,j,k,g,f,if_true];rw[ip h,i]
theorem xH(U:o.op=.convert t u x)(b:cj P a o=none)(h:fB P t u (a.at x) s=some v):bN P kt c a o s=some (v,s):=by unfold bN;rw[iw (by rw[U];simp[eF])];grind
theorem SL{x:Value}(c:x=am b 0)(U:P.underlying t=some (.pointer e))(a:P.underlying u=some .unsafePointer)(f:s.get b=some (.cells cs ty fz))(g:bP P e=some (k+1))(d:0<cs.size):fB P t u x s=some (am b 0):=by subst c;unfold fB;rw[U,a];simp only[am];grind
theorem SM{x:Value}(c:x=am b 0)(U:P.underlying t=some .unsafePointer)(a:P.underlying u=some (.pointer e))(f:s.get b=some (.cells cs ty (0,0)))(g:bP P e=some (k+1))(d:liesAt P P.depth ty (cs.size / P.cellsOf ty) 0 e 1=true):fB P t u x s=some (am b 0):=by subst c;unfold fB;rw[U,a];simp only[am];grind
theorem MR{z}(U:o.op=.binOp .neq t x y z)(f:a.at x=am b 0)(g:a.at y=am b 0)(d:P.underlying t=some (.pointer e))(h:bP P e=some (k+1)):bN P kt c a o s=some (.bool false,s):=by
 refine ej (by rw[U];rfl) gq ?_;unfold cj;rw[U];simp only;rw[f,g];have h1:dw .neq (am b 0) (am b 0)=none:=rfl;have h2:oJ P .neq t (am b 0) (am b 0)=some (.bool false):=by unfold oJ;simp only[am,d];rw[h];simp
 rw[h1,h2]
theorem xG(U:o.op=.call { callee:=.builtin .append,args:=#[x,y],argTypes:=#[t,t'] })(l:a.at x=sl)(n:a.at y=str m)(k:P.underlying t=some (.slice e))(d:P.underlying t'=some .string)(hi:(P.info? e).map (λi=>(i.zero,i.size,i.bytes))=some (some (Value.int .u8 0),1,1))(b:kt e=false)(f:m.length<=1000000000)(g:iU sl=true)(h:bK P e sl (strCells ⟨m.toArray⟩) m.length s=some (v,s')):bN P kt c a o s=some (v,s'):=by
 have j:cj P a o=none:=by unfold cj;rw[U]
 unfold bN;rw[iw (by rw[U];simp[eF])];rw[U];simp only;rw[j];simp only[rp,List.map_nil];rw[l,n];unfold eN;simp only;rw[k,d];simp only;rw[hi];simp only;rw[ip ⟨by show m.toArray.size<=_;simpa using f,b,g⟩];show bK P e sl (strCells ⟨m.toArray⟩) m.toArray.size s=_;grind
def vB(h:sl=.slice none 0 0\/∃d n k,sl=.slice (sq d) n k):bK P e sl news 0 s=some (sl,s):=by
 rcases h with rfl|⟨d,n,k,rfl⟩
 .rfl
 .rfl
def ia{m:Nat}(h:m≠0):bK P e (.slice none 0 0) news m s=some (.slice (sq s.nx) m m,s.add (.cells news.toArray e (1,1))):=by unfold bK;simp only;rw[iw h]
theorem gH{m:Nat}(h:m≠0)(b:s.get d=some (.cells cs e fz))(c:bP P e=some sz)(a:n*sz<=cs.size)(U:n+m<=1000000000):bK P e (.slice (sq d) n k) news m s=some (.slice (sq s.nx) (n+m) (n+m),(s.set d none).add (.cells (cs.toList.take (n*sz)++news).toArray e (1,1))):=by unfold bK;grind
def vO:∀(l:Bq),kz (l.map λb=>Value.int .u8 b.toNat)=some l
 | []=>rfl
 | b::l=>by rw[rp];unfold kz;have h:=b.toNat_lt;rw[ip ⟨oq,by omega⟩,vO l];simp
def CN(f:o.op=.call { callee:=.builtin .unsafeString,args:=#[x,y],argTypes:=#[pt,t'] })(i:a.at x=am d 0)(p:a.at y=num l.length)(n:P.underlying pt=some (.pointer e))(m:s.get d=some (.cells (strCells ⟨l.toArray⟩).toArray e fz))(j:P.cellsOf e=1)(q:0<l.length)(h1:l.length<=1000000000):bN P kt c a o s=some (str l,s.set d none):=by
 have k:cj P a o=none:=by unfold cj;rw[f];simp only;unfold tP;rw[f];rw[iw];intro h;have:((Op.call { callee:=.builtin .unsafeString,args:=#[x,y],argTypes:=#[pt,t'] }).operands.toList.all λx=>pS (a.at x))=(pS (a.at x)&&(pS (a.at y)&&true)):=rfl;rw[this,i] at h;simp[pS,dX,am] at h
 have g:(strCells ⟨l.toArray⟩).toArray.size=l.length:=by simp[strCells]
 unfold bN;rw[iw (by rw[f];simp[eF])];rw[f];simp only;rw[k];simp only[rp,List.map_nil];rw[i,p];unfold eN;simp only[am];rw[n,m];simp only;rw[ip ⟨j,trivial,by omega,by omega,by rw[g];simp⟩];have:(List.take ((l.length:Int)).toNat (strCells ⟨l.toArray⟩).toArray.toList)=l.map λb=>Value.int .u8 b.toNat:=by rw[xn];show List.take l.length (l.map λb=>Value.int .u8 b.toNat)=_;rw[tL iq]
 rw[this,vO]
end
def SI (p u:Value):Obj:=.cells #[p,u] 119
variable {ι:Type}{Bb:Nat}{rl:Hq}
section
variable {R:ι->Wq}{D:ι->World->World->Array Event->Prop}{X:ι->Gq}{i:ι}{M:World->Nat->Prop}{O:Nat->Prop}{N0:Nat}{w:World}{Rb at_:Nat}{p u v lv:Value}{n:Nat}{xs:Vq}
def s7(x:Option Addr)(n c:Nat)(w:World)(es:Array Event):(Builtin.len_ #[55] 3 #[.slice x n c]).events prog w es=es:=by simp[Builtin.len_,go_sem]
end
section
variable (x:Option Addr)
def sZ(n c:Nat)(w:World)(es:Array Event):(Builtin.cap_ #[55] 3 #[.slice x n c]).events prog w es=es:=by simp[Builtin.cap_,go_sem]
def xh(n c:Nat)(w:World)(es:Array Event):(Instr.sliceAt 55 (.slice x n c) none (some (.int .i64 0)) none).events prog w es=es:=by
 have a:(prog.info? 5).isSome=true:=kq
 have⟨b,a⟩:=Option.isSome_iff_exists.1 a;simp[Instr.sliceAt,Instr.slice,Instr.sliceBounds,Instr.sliceBound,underlying,underlying55,asIntOf,sizeOf,typeInfo,a]
def pJ(c:Nat)(w:World)(es:Array Event):(Builtin.copy_ #[55,55] 3 #[.slice x 0 c,.slice none 0 0]).events prog w es=es:=by
 have a:(prog.info? 5).isSome=true:=kq
 have⟨b,a⟩:=Option.isSome_iff_exists.1 a;cases x<;>simp[Builtin.copy_,underlying,underlying55,sizeOf,typeInfo,a,Builtin.lenOf,Builtin.firstCells,storeCells]
end
def B8(w:World)(ps:Array TypeId)(t e:TypeId)(f:P.underlying t=some (.slice e))(n:Nat)(h:n<=281474976710656)(es:Array Event):∃c,(Extern.BytealgMakeNoZero.makeNoZero ps #[t] #[.int .i64 n]).events P w es=es++c/\∀g∈c,g=⟨.mark .noRoom,false,true⟩:=by
 have b:Extern.BytealgMakeNoZero.makeNoZero ps #[t] #[.int .i64 n] =
   (do
    let .slice elem <-underlying t|stuck _
    if (n:Int)<0||(n:Int)>2 ^ 48 then runtimePanic (.error _)
    let cap <-choose (.appendCap (n:Int).toNat 0 elem)
    askRoom cap
    let bytes <-choose (.extern _ 0)
    let a <-newRow elem (Extern.BytealgMakeNoZero.digits cap bytes #[])
    pure (.slice (some a) (n:Int).toNat cap)):=rfl;have h1:¬(n:Int)<0:=oq
 have h2:¬(281474976710656:Int)<(n:Int):=oq
 by_cases d:grownCap w n 0 e>roomBytes
 .refine⟨#[⟨.mark .noRoom,false,true⟩],?_,by simp⟩;rw[b];simp[h1,h2,Question.forced,newRow,askRoom,underlying,f];simpa[grownCap] using d
 .refine⟨#[],?_,by simp⟩;rw[b];simp[h1,h2,Question.forced,newRow,askRoom,underlying,f];simpa[grownCap] using d
variable {H:Hq->World->Prop}
section
variable {R:ι->Wq}{D:ι->World->World->Array Event->Prop}{X:ι->Gq}{i:ι}{M:World->Nat->Prop}{O:Nat->Prop}{N0:Nat}{w:World}{l:Hq}{p v:Value}{n:Nat}{xs:Vq}
variable {fn:FuncId}{Q:ei ι}{a:Act}{vs:ι}
theorem Gx(C:bW prog true R D X)(Z:Co eg N0 M O (R vs) (D vs) H){i:Nat}{f:List Nat}{o:Oper}{ats:Array TypeId}{z:Int}(n:Nat)(hn:n<=1000000000)(N:ops[i]?=some o)(S:Region.wanted o (yielded ops a.tmps)=true)(B:o.op=.call { callee:=.value (.func 378),args:=#[x],argTypes:=ats })(T:a.eval x=.int .i64 z)(W:z=(n:Int))(F:H l w)
 (h:∀b p v,n<=p.size->p.size<=maxLen->H ((b,.cells p 5)::l) v->ce X fn ops f vs Q (a.put o.dst (.slice (sq b) n p.size)) v):ce X fn ops (i::f) vs Q a w:=λb k p A t I=>C.step rfl λc s=>by
 subst W;have U:=Z.rely F s;have j:H l c.drew.drew:=Z.rely (Z.rely U (Z.env.tM _)) (Z.env.tM _);have⟨g,r,h1,h2,_⟩:=Lib.run_makeNoZero_cap (P:=prog) c #[3] 55 5 underlying55 n oq;have⟨evs,J,d⟩:=B8 (P:=prog) c #[3] 55 5 underlying55 n oq #[⟨.mark (.extern 378),false,true⟩];have m:(#[x]:Array Operand).map a.eval=#[.int .i64 (n:Int)]:=by simp[T]
 rw[stepG_entry N S t B func378 rq rq kq (e:=Extern.BytealgMakeNoZero.makeNoZero #[3] #[55]) kq (by rw[m];exact r) (evs:=evs) gq (λy V=>by rw[d y V];simp)];have q:Own eg M c.drew.drew (c.drew.drew.alloc (.cells g 5)):=Own.alloc (by simp[eg]);have u:Own eg M c (c.drew.drew.alloc (.cells g 5)):=⟨q.tape,q.os,q.output,q.grow,λb G hm=>heap_alloc_old c.drew.drew _ b G,λb Y K t=>(q.kt b Y K t)⟩;refine⟨Z.env.jb (Z.size U) u λE L=>?_,h _ g _ h1 (h2 (by unfold maxLen;omega)) (Z.grown j q) b k p A t I⟩;rw[d E L];exact .inr (.inr ⟨by simp[MemAct.ofEvent,MemAct.touch?],by simp,by simp,by simp[MemAct.ofEvent]⟩)
end
section
variable {R:ι->Wq}{D:ι->World->World->Array Event->Prop}{X:ι->Gq}{i:ι}{M:World->Nat->Prop}{O:Nat->Prop}{N0:Nat}{w:World}{l:Hq}{p v:Value}{n:Nat}{xs:Vq}
theorem P3(C:bW prog true R D X)(T:∀i,Terms (R i) (D i))(Z:Co eg N0 M O (R i) (D i) H)(n:Nat)(F:n<=1000000000)(a:H ((Bb,SI p (.slice none 0 0))::l) w) :
  eM prog X 344 #[.pointer (sq Bb),.int .i64 (n:Int)] i w (λI x k=>I=i/\x=.tuple #[]/\∃g cs,n<=cs.size/\cs.size<=maxLen/\H ((g,.cells cs 5)::(Bb,SI p (.slice (sq g) 0 cs.size))::l) k):=by
 have N:=underlying9;have G:IntKind.i64.wrap (n:Int)=(n:Int):=by rw[IntKind.wrap_i64];omega
 have L:IntKind.i64.wrap 0=0:=dq
 refine gU func344 rq rfl ?_;simp only[ntmps344,bZ,Nat.reduceAdd,Nat.reduceSub];refine bQ C T ?_;refine jk C Z.env.y9 kq (n:=16) rfl kq (λJ s r k=>s=i/\∃(g:Nat) (cs:Aq),H ((Bb,SI p (.slice none 0 0))::(if J 8=true then (g,.cells cs 5)::l else l)) k/\(J 8=true->n<=cs.size/\cs.size<=maxLen)/\((J 14=true->J 8=true))/\((J 15=true->J 8=true))/\r=⟨#[.pointer (sq Bb),.int .i64 (n:Int),undef,undef,(if J 15=true then .slice (sq g) 0 cs.size else undef),(if J 0=true then .pointer (sq Bb) else undef),(if J 1=true then .pointer (sq Bb) else undef),(if J 2=true then .pointer (some ⟨Bb,1,none⟩) else undef),(if J 3=true then .slice none 0 0 else undef),(if J 4=true then .int .i64 0 else undef),(if J 5=true then .int .i64 0 else undef),(if J 6=true then .int .i64 (n:Int) else undef),(if J 7=true then .int .i64 (n:Int) else undef),(if J 8=true then .slice (sq g) n cs.size else undef),(if J 9=true then .pointer (sq Bb) else undef),(if J 10=true then .pointer (sq Bb) else undef),(if J 11=true then .pointer (some ⟨Bb,1,none⟩) else undef),(if J 12=true then .slice none 0 0 else undef),(if J 13=true then .int .i64 0 else undef),(if J 14=true then .slice (sq g) 0 cs.size else undef),undef,undef,undef,undef,undef,undef,undef,undef,undef,undef],[]⟩) (λu B=>⟨rfl,0,#[],?_,by simp,by simp,by simp,rfl⟩) ?_ ?_ ?_
 .simpa using Z.rely (Z.rely a B) (Z.env.tM _)
 .rintro J K s r k U ⟨rfl,g,cs,a,f,o,q,rfl⟩;simp only[U 0 dq,U 1 dq,U 2 dq,U 3 dq,U 4 dq,U 5 dq,U 6 dq,U 7 dq,U 8 dq,U 9 dq,U 10 dq,U 11 dq,U 12 dq,U 13 dq,U 14 dq,U 15 dq] at a f o q;refine⟨rfl,g,cs,a,f,o,q,?_⟩;simp only[U 0 dq,U 1 dq,U 2 dq,U 3 dq,U 4 dq,U 5 dq,U 6 dq,U 7 dq,U 8 dq,U 9 dq,U 10 dq,U 11 dq,U 12 dq,U 13 dq,U 14 dq,U 15 dq]
 .rintro J j s r k ⟨rfl,g,cs,a,f,o,q,rfl⟩ E U c t A;match j,E with
  | 0,_|1,_|2,_|4,_|5,_|6,_|7,_|9,_|10,_|11,_|13,_|14,_|15,_=>
   have c:=c _ rfl;simp[Region.binds] at c;try simp only[c,if_true,reduceIte]
   refine cV C T rfl rq λ_ e d=>?_;go_simp;refine d _ ?_ (by first|(simp[go_sem];done)|(simp[go_sem, *];done)|(simp[go_sem,jc,jd,je,gI,mE,s7,sZ,xh,pJ, *];done));clear d e;grind
  | 3,_|12,_=>
   have c:=c _ rfl;simp[Region.binds] at c;try simp only[c,if_true,reduceIte]
   refine mi C Z (v:=.slice none 0 0) (b:=Bb) (off:=1) 0 rfl rq rfl (by simp[Act.eval, *]) underlying55 rfl a rfl rq λ_ a=>?_;try walk_nrm
   grind
  | 8,_=>
   have c:=c _ rfl;simp[Region.binds] at c;try simp only[c,if_true,reduceIte]
   have y:J 14=false:=gq
   have z:J 15=false:=gq
   simp only[U,kj,if_false,reduceIte] at a;refine Gx C Z n F rfl rq rfl (by simp[Act.eval, *]) rfl a λg cs P h1 h2 a=>?_;try walk_nrm
   refine A _ _ _ ⟨rfl,g,cs,by simpa using Z.perm a (List.Perm.swap _ _ _),λ_=>⟨h1,h2⟩,by simp[y],by simp[z],?_⟩;simp[*]
  | m+16,h=>exact absurd h oq
 .rintro J s r k U ⟨rfl,g,cs,a,f,o,q,rfl⟩;simp only[U 0 dq,U 1 dq,U 2 dq,U 3 dq,U 4 dq,U 5 dq,U 6 dq,U 7 dq,U 8 dq,U 9 dq,U 10 dq,U 11 dq,U 12 dq,U 13 dq,U 14 dq,U 15 dq,if_true,reduceIte,true_implies,forall_const] at a f o q |-;refine aW C T ?_;show fA _ _ _ _ _ _ _;refine bQ C T ?_;refine aN C T ?_;simp only[fH,Nat.reduceAdd];iterate 4
   refine cV C T rfl rq λ_ e d=>?_
   go_simp
   refine d _ ?_ (by first|(simp[go_sem];done)|(simp[go_sem, *];done)|(simp[go_sem,jc,jd,je,gI,mE,s7,sZ,xh,pJ, *];done))
   clear d e
   try walk_nrm
  refine mi C (Z) (v:=.slice none 0 0) 0 rfl rq rfl rq underlying55 rfl a rfl rq λ_ a=>?_;try walk_nrm
  refine cV C T rfl rq λ_ e d=>?_;go_simp;refine d _ ?_ (by first|(simp[go_sem];done)|(simp[go_sem, *];done)|(simp[go_sem,jc,jd,je,gI,mE,s7,sZ,xh,pJ, *];done));clear d e;try walk_nrm
  refine aW C T ?_;show fA _ _ _ _ _ _ _;refine aN C T ?_;simp only[fH,Nat.reduceAdd];iterate 4
   refine cV C T rfl rq λ_ e d=>?_
   go_simp
   refine d _ ?_ (by first|(simp[go_sem];done)|(simp[go_sem, *];done)|(simp[go_sem,jc,jd,je,gI,mE,s7,sZ,xh,pJ, *];done))
   clear d e
   try walk_nrm
  refine sk C (Z) (cs:=[.slice (sq g) 0 cs.size]) (cur':=#[p,.slice (sq g) 0 cs.size]) 0 rfl rq rfl rq rq rq (by simp[Value.oneCell']) (by simp[eg]) a rfl gq (by first|rfl|(simp[putAt];done)) λ_ a=>?_;simp only[List.set_cons_zero,List.set_cons_succ,List.set] at a;try walk_nrm
  refine aW C T ⟨.inl rfl,rfl,_,resultsC_none rq _,rfl,rfl,g,cs,f.1,f.2,?_⟩;exact Z.perm a (List.Perm.swap _ _ _)
end
def n5{ι:Type}{X:ι->Gq}{c:Code}{vs:ι}{Q:ei ι}{a:Act}{f:(Nq)->Act}(h:f (λi=>a.tmps.getD i undef)=a)(k:∀x,fA X fn c vs Q (f x) w):fA X fn c vs Q a w:=h▸k _
def FF(s:ByteArray)(c:Int)(w:World)(es:Array Event):(Extern.BytealgCount.count #[.string s,.int .u8 c]).events prog w es=es:=by
 change Sem.events prog (do
  let b <-Extern.Bytes.bytesOf (.string s)
  let c' <-Extern.Bytes.asByte (.int .u8 c)
  pure (goInt (b.foldl (λn x=>if x==c' then n+1 else n) (0:Nat)))) w es=_;simp only[Extern.Bytes.bytesOf,Extern.Bytes.asByte,Sem.events_bind,Sem.run_pure,Sem.events_pure,Result.evThen_ok]
def LK (s:ByteArray)(c:Int):Int:=(Lib.countByte s.data.toList c.toNat.toUInt8:Nat)
theorem LM(s:ByteArray)(c:UInt8):N5 prog 343 #[.string s,.string ⟨#[c]⟩] (.int .i64 (LK s c.toNat)):=by
 intro g R D X C T i w;have f:=underlying9;have h1:(⟨#[c]⟩:ByteArray).size=1:=rfl;refine gU func343 rq rfl ?_;simp only[ntmps343,bZ,Nat.reduceAdd,Nat.reduceSub];refine bQ C T ?_;refine aN C T ?_;simp only[fH,Nat.reduceAdd];refine cV C T rfl rq λ_ a U=>?_;go_simp;refine U _ ?_ (by first|(simp[go_sem];done)|(simp[go_sem, *];done)|(simp[go_sem,jc,jd,je,gI,mE, *];done));clear U a;try walk_nrm
 refine aW C T ?_;show fA _ _ _ _ _ _ _;iterate 2 refine bQ C T ?_
 refine aN C T ?_;simp only[fH,Nat.reduceAdd];iterate 3
  refine cV C T rfl rq λ_ a U=>?_
  go_simp
  refine U _ ?_ (by first|(simp[go_sem];done)|(simp[go_sem, *];done)|(simp[go_sem,jc,jd,je,gI,mE, *];done))
  clear U a
  try walk_nrm
 refine aW C T ?_;show fA _ _ _ _ _ _ _;refine wQ C T rfl (λb=>?_) (λb=>?_)
 .grind
 .
  try simp only[b]
  try simp only[SK,beq_iff_eq,bF,bne_iff_ne,bne_eq_false_iff_eq] at b
  refine lN C T ?_;show fA _ _ _ _ _ _ _;iterate 2 refine bQ C T ?_
  refine aN C T ?_;simp only[fH,Nat.reduceAdd];iterate 3
   refine cV C T rfl rq λ_ a U=>?_
   go_simp
   refine U _ ?_ (by first|(simp[go_sem];done)|(simp[go_sem, *];done)|(simp[go_sem,jc,jd,je,gI,mE, *];done))
   clear U a
   try walk_nrm
  refine aW C T ?_;show fA _ _ _ _ _ _ _;refine wQ C T rfl (λb=>?_) (λb=>?_)
  .
   try simp only[b]
   try simp only[SK,beq_iff_eq,bF,bne_iff_ne,bne_eq_false_iff_eq] at b
   refine bQ C T ?_;refine aN C T ?_;simp only[fH,Nat.reduceAdd];iterate 3
    refine cV C T rfl rq λ_ a U=>?_
    go_simp
    refine U _ ?_ (by first|(simp[go_sem];done)|(simp[go_sem, *];done)|(simp[go_sem,jc,jd,je,gI,mE, *];done))
    clear U a
    try walk_nrm
   try simp only[show((⟨#[c]⟩:ByteArray)[0]).toNat=c.toNat from rfl]
   refine oQ C T rfl rq rfl func377 rq rq kq (e:=Extern.BytealgCount.count) kq (x:=.int .i64 (LK s c.toNat)) (args':=#[.string s,.int .u8 c.toNat]) (by simp[Act.eval]) (λw=>Lib.run_countString s c.toNat w) (λw d=>FF s c.toNat w d) ?_;try walk_nrm
   refine cV C T rfl rq λ_ a U=>?_;go_simp;refine U _ ?_ (by first|(simp[go_sem];done)|(simp[go_sem, *];done)|(simp[go_sem,jc,jd,je,gI,mE, *];done));clear U a;try walk_nrm
   refine aW C T ?_;show fA _ _ _ _ _ _ _;refine n6 C T ⟨.inr rfl,rfl,_,resultsC_tmp rq _,rfl,?_,rfl⟩;simp
  .grind
section
variable {P:Program}{KT:TypeId->Prop}{An:cb}{N0:ι->Nat}{M:ι->World->Nat->Prop}{O:ι->Nat->Prop}{R:ι->Wq}{D:ι->World->World->Array Event->Prop}{X:ι->Gq}{Hd:ι->Hq->World->Prop}{f:FuncId}{args:Aq}{s:AS}{v:Value}
def Sound.same(Y:Cy P KT N0 M O R D X Hd)(p:dX v=true)(h:∀S l c i w a,eT P KT An S s l->Hd i (l++c) w->AR (VR S) args a->eM P X f a i w (λe x g=>x=v/\Hd e (l++c) g)):Sound P KT An R D X Hd f args s v s:=by intro S l c i w a d m k o;refine(h S l c i w a d m k).toE Y.C Y.T ?_;rintro e x g j ⟨rfl,b⟩ n;exact⟨S,l,cb.le_refl S,λ_ _=>rfl,d,(Y.Z b).rely b n,VR.dx p⟩
theorem AR.sc{a b:Aq}(h:AR (VR S) a b)(U:a.toList.all dX=true):b=a:=by
 apply uX.1;apply List.ext_getElem?;intro i;rw[Array.getElem?_toList,Array.getElem?_toList];by_cases c:i<a.size
 .have h1:a[i]?=some a[i]:=gF c;have h2:b[i]?=some (b[i]'(by rw[<-h.1];exact c)):=gF _;rw[h1,h2];rw[aT] at U;rw[(h.2 i _ _ h1 h2).sc (U _ iq)]
 .have h2:¬i<b.size:=by rw[<-h.1];exact c
  grind
def uk{i:ι}{Post a:ι->Value->World->Prop}(h:eM P X f args i w Post)(g:∀i v w,Post i v w->a i v w):eM P X f args i w a:=by have⟨b,c,h1,h2,h3,d⟩:=h;exact⟨b,c,h1,h2,h3,lM d λo e n p ⟨j,k,v,l,m⟩=>⟨j,k,v,l,g _ _ _ m⟩⟩
end
def ju (c:Nat):Bq->Nat->Int
 | [],_ => -1
 | b::l,k=>if b.toNat.beq c then (k:Int) else ju c l (k+1)
def BU (c:Nat):Bq->Nat->Nat
 | [],k=>k
 | b::l,k=>if b.toNat.beq c then BU c l (k+1) else BU c l k
def mR(b u:UInt8):b.toNat.beq u.toNat=(b==u):=by
 by_cases h:b=u
 .subst h;simp
 .have:b.toNat≠u.toNat:=λe=>h (UInt8.toNat_inj.1 e);rw[show(b==u)=false by simp[h]];exact Bool.eq_false_iff.2 λe=>this (gh e)
theorem Ea(u:UInt8):∀(l:Bq) (k:Nat),ju u.toNat l k=if indexByte l u = -1 then -1 else indexByte l u+k
 | [],k=>by simp[ju,indexByte]
 | b::l,k=>by
  unfold ju indexByte;rw[mR];by_cases U:(b==u)=true
  .simp[U]
  .have a0:=indexByte_ge l u;simp only[U,if_false,kj];rw[Ea u l (k+1)];grind
theorem Dx(u:UInt8):∀(l:Bq) (k:Nat),BU u.toNat l k=countByte l u+k
 | [],k=>by simp[BU,countByte]
 | b::l,k=>by
  unfold BU;rw[mR]
  have:=Dx u l;unfold countByte at this |-;grind
def Es:prog.funcs.size=416:=kq
theorem Fc{p:Func->Bool}(h:(List.range n).all (λg=>(P.funcs[g]?).all p)=true)(a:P.funcs.size=n){aS:Func}(U:P.funcs[g]?=some aS):p aS=true:=gq
def Jv(aS : Func) : Bool := !(aS.name == "runtime.NumGoroutine")
def MG:(List.range 416).all (λg=>(prog.funcs[g]?).all Jv)=true:=kq
def cn : ∀ (f : FuncId) (aS : Func), prog.funcs[f]? = some aS -> (aS.name == "runtime.NumGoroutine") = false := by intro g aS hf;have h:=Fc MG Es hf;unfold Jv at h;simpa using h
def Rk(x:Bq)(v:Value)(n i:Nat)(r:Nq):TL:=[str x,v,r 2,r 3,.bool false,r 5,r 6,v,num n,num i,r 10,r 11,r 12,r 13,r 14,r 15,r 16]
theorem T5{x:Bq}{xs:List (Bq)}{y:Option Addr}(F:pr 127=none)(U:ep s 1 y n=some (xs.map str))(H:n<=1000000):EF prog kt pr 127 #[str x,.slice y n c] s (.bool (xs.any λz=>cw x z)) s:=by
 have q:xs.length=n/\∀k z,xs[k]?=some z->∃b o p,y=some ⟨b,o,p⟩/\∃d g f,s.get b=some (.cells d g f)/\d[o+k]?=some (str z):=by
  unfold ep at U;split at U
  .split at U
   .next h=>cases xs with
    | nil=>exact⟨h.symm,λk z B=>by simp at B⟩
    | cons z xs=>cases U
   .cases U
  .next b o p =>
   split at U
   .next d g f A =>
    split at U
    .next E =>simp only[Option.some.injEq,Nat.mul_one] at U;have B:=congrArg List.length U;simp at B;refine⟨oq,λk z C=>⟨b,o,p,rfl,d,g,f,A,?_⟩⟩;have h1:=congrArg (λl=>l[k]?) U;grind
    .cases U
   .cases U
 have⟨E,q⟩:=q;clear U;refine EF.of F func127 rfl ?_;refine EW.seq (EW.go 5 kq (EW.seq (EW.seq (EW.go 5 kq (EW.block ?_)))));refine EW.dG (λm a D=>D=s/\∃i,i+m=n/\((xs.drop i).any λz=>cw x z)=(xs.any λz=>cw x z)/\∃r,a=Rk x (.slice y n c) n i r) ?_ n _ _ ⟨kq,0,by omega,rfl,aR kq⟩;rintro m a D ⟨rfl,i,G,e,r,rfl⟩;refine EW.seq (EW.region kq ?_);cases m with
 | zero =>refine EO.op kq (aQ (u:=num i) (w:=num n) rfl kq kq (aX (b:=false) (fD oq))) ?_;refine EO.nil (EW.seq (EW.Oj 5 (.exit 0) kq (EW.seq (EW.go 5 kq (EW.ret ⟨.inr rfl,?_,by kernel_rfl⟩)))));rw[<-e,List.drop_of_length_le oq];kernel_rfl
 | succ m =>
  have C:xs[i]?=some xs[i]:=gE oq;obtain⟨b,o,p,rfl,d,g,f,A,I⟩:=q i _ C;rw[List.drop_eq_getElem_cons oq,List.any_cons] at e;refine EO.op kq (aQ (u:=num i) (w:=num n) rfl kq kq (aX (b:=true) (tD oq))) (EO.nil (EW.seq (EW.go 5 kq (EW.seq (EW.block (EW.seq (EW.region kq (EO.op kq (qf (j:=i) (b:=b) (off:=o) (n:=n) (cp:=c) (sp:=p) (k:=.i64) (sz:=1) rfl underlying62 kq kq kq oq oq) (EO.op kq (bw (b:=b) (off:=o+(i:Int).toNat*1) (v:=str xs[i]) rfl underlying9 rfl kq A gq) (EO.fin 5 kq (EW.seq (EW.go 5 kq (EW.cond (b:=cw x xs[i]) kq (λt=>?_) (λt=>?_))))))))))))))
  .refine EW.Oj 5 .ret kq ?_;refine⟨.inr rfl,?_,by kernel_rfl⟩;rw[<-e,t];kernel_rfl
  .rw[t,Bool.false_or] at e;refine EW.go 5 kq (EW.region kq (EO.op kq (iP (i:=i) (j:=1) (r:=((i+1:Nat):Int)) rfl kq kq oq oq) (EO.fin 5 kq ?_)));exact⟨m,by omega,by kernel_rfl,i+1,by omega,e,aR kq⟩
def bu:Prim
 | 127=>some λargs s=>match args.toList with
  | [.string x,.slice y n _]=>match ep s 1 y n with
   | some l=>if n<=1000000/\(l.all λv=>match v with|.string _=>true|_=>false)=true then some (.bool (l.any λv=>match v with|.string z=>cw x.data.toList z.data.toList|_=>false),s) else none
   | none=>none
  | _=>none
 | 373=>some λargs s=>match args.toList with
  | [.string x,.int .u8 c]=>some (.int .i64 (ju (c.toNat % 256) x.data.toList 0),s)
  | _=>none
 | 343=>some λargs s=>match args.toList with
  | [.string x,.string y]=>match y.data.toList with
   | [c]=>some (.int .i64 (BU c.toNat x.data.toList 0),s)
   | _=>none
  | _=>none
 | 344=>some λargs s=>match args.toList with
  | [.pointer (some ⟨b,0,none⟩),.int .i64 n]=>match s.get b with
   | some (.cells cs 119 (0,0))=>match cs.toList with
    | [p,.slice none 0 0]=>if 0<=n/\n<=1000000000 then some (.tuple #[],(s.set b (some (.cells #[p,.slice (some ⟨s.nx,0,none⟩) 0 0] 119 (0,0)))).add (.cells #[] 5 (1,1))) else none
    | _=>none
   | _=>none
  | _=>none
 | _=>none
theorem qi{g:Aq->AS->Option (Value × AS)}(h:bu f=some g):f=127\/f=373\/f=343\/f=344:=by unfold bu at h;grind
theorem wm:∀f g a s v b,bu f=some g->g a s=some (v,b)->s.nx<=b.nx:=by
 intro f g a s v b U h;rcases qi U with rfl|rfl|rfl|rfl
 iterate 3
  .cases U;grind
 .cases U;simp only at h;split at h
  .split at h
   .split at h
    .split at h
     .cases h;simp
     .cases h
    .cases h
   .cases h
  .cases h
section
variable {An:cb}{N0:ι->Nat}{M:ι->World->Nat->Prop}{O:ι->Nat->Prop}{R:ι->Wq}{D:ι->World->World->Array Event->Prop}{X:ι->Gq}{Hd:ι->Hq->World->Prop}
theorem pY{x y:Value}(h:args.toList=[x,y]):args=#[x,y]:=gq
def Jd(Y:Cy prog eg N0 M O R D X Hd){x:ByteArray}{y:Option Addr}(hc:ep s 1 y n=some l0)(hn:n<=1000000)(kM:(l0.all λv=>match v with|.string _=>true|_=>false)=true) :
  Sound prog eg An R D X Hd 127 #[.string x,.slice y n c] s (.bool (l0.any λv=>match v with|.string z=>cw x.data.toList z.data.toList|_=>false)) s:=by
 obtain⟨xs,rfl⟩:∃xs:List (Bq),l0=xs.map str:=by
  clear hc;induction l0 with
  | nil=>exact⟨[],rfl⟩
  | cons v l0 ih =>
   simp only[List.all_cons,lV] at kM;obtain⟨xs,rfl⟩:=ih kM.2;cases v with
   | string z=>exact⟨z.data.toList::xs,rfl⟩
   | _=>simp at kM
 have⟨m,hm⟩:=T5 (kt:=λ_=>true) (pr:=λ_=>none) (x:=x.data.toList) (c:=c) rfl hc hn;rw[List.any_map];exact(ij Y kq (λ_ h=>by cases h) ⟨λ_ _ _ _ _ _ h=>(by cases h),λ_ _ _ _ _ _ h=>(by cases h)⟩ cn m).2 _ _ _ _ _ hm
def eT.same{KT:TypeId->Prop}{l:Hq}(h:eT P KT An S s l)(a:∀b,s'.get b=s.get b)(c:s'.nx=s.nx):eT P KT An S s' l where
 live b o hb:=h.live b o (a b▸hb)
 inj b b' o o' x x' hb pP:=h.inj b b' o o' x x' (a b▸hb) (a b'▸pP)
 lt b o hb:=c▸h.lt b o (a b▸hb)
 an:=h.an
theorem Cf(Y:Cy prog eg N0 M O R D X Hd){n:Int}(hb:s.get b=some (.cells cs 119 (0,0)))(K8:cs.toList=[p,.slice none 0 0])(hn:0<=n/\n<=1000000000) :
  Sound prog eg An R D X Hd 344 #[.pointer (sq b),.int .i64 n] s (.tuple #[]) ((s.set b (some (.cells #[p,.slice (sq s.nx) 0 0] 119 (0,0)))).add (.cells #[] 5 (1,1))):=by
 intro S l fr i w args' hS hF hA qI;obtain rfl:cs=#[p,.slice none 0 0]:=by grind
 obtain⟨a0,a1,rfl,h0,h1⟩:∃a0 a1,args'=#[a0,a1]/\VR S (.pointer (sq b)) a0/\VR S (.int .i64 n) a1:=by have zW:=hA.1;simp at zW;refine⟨args'[0]'(by omega),args'[1]'(by omega),?_,hA.2 0 _ _ rfl (gF (by omega)),hA.2 1 _ _ rfl (gF (by omega))⟩;grind
 have h1:=h1.sc rfl;subst h1;have⟨d,hd⟩:=h0;cases d with
 | zero=>exact hd.elim
 | succ d =>
  unfold VD at hd;obtain⟨g,z,e,hg,rfl⟩:=hd;have⟨k,o',hk,kF,Qg,Lb,TX⟩:=hS.at (fr:=fr) hb hg;unfold OR at Lb;obtain⟨o9,rfl,hz,⟨hz1,hz2⟩,hv⟩:=Lb;have hz3:=hz2 rfl;simp at hz3;obtain⟨p',u',rfl⟩:∃p' u',o9=#[p',u']:=by refine⟨o9[0]'(by omega),o9[1]'(by omega),?_⟩;grind
  have hp:=hv 0 _ _ rfl rfl;have hu:=(hv 1 _ _ rfl rfl).sc rfl;subst hu;have Z:=Y.Z hF;have XQ:=Z.front hF k Qg;obtain⟨m,rfl⟩:∃m:Nat,n=(m:Int):=⟨n.toNat,by omega⟩;refine(P3 Y.C Y.T Z m (by omega) XQ).toE Y.C Y.T ?_;rintro i' x w' aE ⟨rfl,rfl,g2,sV,Tm,Tn,XR⟩ hR;have hF3:=Z.rely XR hR;have L8:=Z.nodup hF;have Sc:(l.map Prod.fst).Nodup:=by grind
  have hs0:S s.nx=none:=qI _ lr (by simp);have Ym:k<(l++fr).length:=by simp;omega
  have X6:(l++fr).eraseIdx k=l.eraseIdx k++fr:=List.eraseIdx_append_of_lt_length kF fr;have hgl:∀o,(g2,o)∉l:=by
   intro o ho;have VP:=Z.nodup hF3;rw[X6] at VP;simp only[rp,List.nodup_cons,Bz,nk,List.mem_append,not_or] at VP;by_cases hgg:g2=g
   .exact VP.1.1 hgg
   .apply VP.1.2.1;have⟨q,hq⟩:=List.mem_iff_getElem?.1 ho;have hqk:q≠k:=by grind
    refine List.mem_map.2 ⟨(g2,o),?_,rfl⟩;rw[List.mem_eraseIdx_iff_getElem?];exact⟨q,hqk,hq⟩
  have XS:eT prog eg An (S.put s.nx (g2,sV.size,1)) (s.add (.cells #[] 5 (1,1))) ((g2,.cells sV 5)::l):=by
   refine hS.grown hs0 hgl ?_ ?_
   .unfold OR;grind
   .intro cs t fz h;cases h;exact⟨by kernel_rfl,by simp[eg]⟩
  have Cl:b≠s.nx:=by grind
  have K6:(s.add (.cells #[] 5 (1,1))).get b=some (.cells #[p,.slice none 0 0] 119 (0,0)):=by rw[AS.bv,iw Cl];exact hb
  have Bv:=cb.kO (S:=S) (x:=(g2,sV.size,1)) hs0;have Qk:(((g2,Obj.cells sV 5)::l).map Prod.fst).Nodup:=by grind
  have Tg:=XS.uQ (k:=k+1) (OH:=SI p' (.slice (sq g2) 0 sV.size)) (OI:=.cells #[p,.slice (sq s.nx) 0 0] 119 (0,0)) K6 (Bv _ _ hg) (by simpa using hk) Qk (by
   unfold OR SI;refine⟨_,rfl,by simpa using hz,⟨by simp;omega,λ_=>by simp;omega⟩,?_⟩;intro j x y hx hy;match j with
   | 0=>simp at hx hy;subst hx hy;exact hp.mono Bv
   | 1 =>simp at hx hy;subst hx hy;exact⟨1,g2,sV.size,1,sV.size,cb.iX,rfl,by omega,by omega,by omega,by omega⟩
   | j+2=>simp at hx) (by
   intro cs t fz h;cases h;exact TX _ _ _ rfl);have Oo:=Tg.same (s':=(s.set b (some (.cells #[p,.slice (sq s.nx) 0 0] 119 (0,0)))).add (.cells #[] 5 (1,1))) (λb'=>by
   rw[AS.bv,AS.bn,AS.bn,AS.bv];by_cases h1:b'=s.nx
   .subst h1;simp[Ne.symm Cl]
   .simp[h1]) rfl;refine⟨_,_,Bv,?_,Oo,?_,?_⟩
  .intro b' pP;unfold cb.put;rw[iw];simp at pP;omega
  .simp only[List.set_cons_succ,List.cons_append];refine Z.perm hF3 ?_;rw[X6];refine List.Perm.cons _ ?_;rw[<-List.cons_append];exact List.Perm.append_right _ (uA hk)
  .exact⟨1,#[],rfl,rfl,λi x y hx=>by simp at hx⟩
theorem lD(Y:Cy prog eg N0 M O R D X Hd):ck prog eg An R D X Hd bu where
 nx:=wm
 sound f g args s v s' hf h:=by
  rcases qi hf with rfl|rfl|rfl|rfl
  .
   cases hf
   simp only at h
   split at h
   .
    next x y n c U =>
    rw[pY U]
    split at h
    .
     next l A =>
     split at h
     .
      next q=>cases h;exact Jd Y A q.1 q.2
     .
      cases h
    .
     cases h
   .
    cases h
  .
   cases hf
   simp only at h
   split at h
   .
    next x c U =>
    rw[pY U]
    cases h
    refine Sound.same Y rfl λS l t i w a u j d=>?_
    rw[d.sc rfl]
    have e:ju (c.toNat % 256) x.data.toList 0=Mg x c:=by
     have:=Ea c.toNat.toUInt8 x.data.toList 0
     rw[show c.toNat.toUInt8.toNat=c.toNat % 256 by simp] at this
     rw[this]
     unfold Mg
     grind
    rw[e]
    exact uk (xo x c _ _ _ _ Y.C Y.T i w) λE v F ⟨k,m,o⟩=>⟨m,by subst k;subst o;exact j⟩
   .
    cases h
  .
   cases hf
   simp only at h
   split at h
   .
    next x y U =>
    rw[pY U]
    split at h
    .
     next c H =>
     cases h
     refine Sound.same Y rfl λS l t i w a u j d=>?_
     rw[d.sc rfl]
     obtain rfl:y=⟨#[c]⟩:=by
      have⟨y⟩:=y
      congr 1
      grind
     have e:(BU c.toNat x.data.toList 0:Int)=LK x c.toNat:=by
      rw[Dx]
      unfold LK
      simp
     rw[e]
     exact uk (LM x c _ _ _ _ Y.C Y.T i w) λE v F ⟨k,m,o⟩=>⟨m,by subst k;subst o;exact j⟩
    .
     cases h
   .
    cases h
  .
   cases hf
   simp only at h
   split at h
   .
    next b n U =>
    rw[pY U]
    split at h
    .
     next G z =>
     split at h
     .
      next p r =>
      split at h
      .
       next B=>cases h;exact Cf Y z r B
      .
       cases h
     .
      cases h
    .
     cases h
   .
    cases h
end
def PL:List (ByteArray × Int × Bool):=[(⟨#[97,109,112]⟩,38,true),(⟨#[108,116]⟩,60,true),(⟨#[103,116]⟩,62,true),(⟨#[113,117,111,116]⟩,34,true),(⟨#[97,112,111,115]⟩,39,false),(⟨#[110,98,115,112]⟩,160,true),(⟨#[99,111,112,121]⟩,169,true),(⟨#[114,101,103]⟩,174,true),(⟨#[110,111,116]⟩,172,true),(⟨#[110,111,116,105,110]⟩,8713,false),(⟨#[101,97,99,117,116,101]⟩,233,true),(⟨#[101,117,109,108]⟩,235,true),(⟨#[101,117,114,111]⟩,8364,false),(⟨#[110,100,97,115,104]⟩,8211,false),(⟨#[109,100,97,115,104]⟩,8212,false),(⟨#[104,101,108,108,105,112]⟩,8230,false),(⟨#[108,97,114,114]⟩,8592,false),(⟨#[114,97,114,114]⟩,8594,false)]
def Iy (x:ByteArray × Int × Bool):Vq:=[.string x.1,.int .i32 x.2.1,.bool x.2.2]
def cR:Vq:=PL.flatMap Iy
def V3:Bq->Option (Int × Int)
 | 97::109::112::59::_=>some (38,4)
 | 108::116::59::_=>some (60,3)
 | 103::116::59::_=>some (62,3)
 | 113::117::111::116::59::_=>some (34,5)
 | _=>none
def kg (t:TypeId):Bool:=t.beq 177||t.beq 179
abbrev Ef:=EF prog kg
abbrev Ew:=EW prog kg
def cv(t:TypeId)(h:kg t=false):¬eg t:=by
 rintro(rfl|rfl|h')
 .cases h
 .cases h
 .exact h'
def ME:(List.range 416).all (λg=>!(jV prog (.func g))||g.beq 330)=true:=kq
theorem Et : ∀ g aS, jV prog (.func g) = true -> prog.funcs[g]? = some aS -> (aS.name == "runtime.NumGoroutine") = false /\ Extern.findNext aS = none /\ Extern.find aS = some Extern.AbiNoEscape.same := by
 intro g aS h hf;have hg:g<416:=by rw[<-Es]; exact(oK.1 hf).1
 have:=ME;rw[aT] at this
 have:=this g (List.mem_range.2 hg);rw[h] at this;have e:g=330:=gh gq;subst e;rw[func330] at hf;cases hf;exact⟨rq,by kernel_rfl,by kernel_rfl⟩
def vN(l:Vq):Bool:=(jg l 0).beq (jg cR 0)&&(l.zip cR).all λp=>og 3 p.1 p.2
def tN{l:Vq}(h:vN l=true):l=cR:=by unfold vN at h;simp only[lV,iO,Nat.zero_add] at h;exact qE _ _ (gh h.1) h.2 λp a=>iL a
theorem Oa{x y:Value}(h:AR (VR S) #[x,y] args'):∃a b,args'=#[a,b]/\VR S x a/\VR S y b:=by have U:=h.1;simp at U;refine⟨args'[0]'oq,args'[1]'oq,?_,h.2 0 _ _ rfl (gF oq),h.2 1 _ _ rfl (gF oq)⟩;grind
theorem SG{x y z:Value}(h:AR (VR S) #[x,y,z] args'):∃a b c,args'=#[a,b,c]/\VR S x a/\VR S y b/\VR S z c:=by have U:=h.1;simp at U;refine⟨args'[0]'oq,args'[1]'oq,args'[2]'oq,?_,h.2 0 _ _ rfl (gF oq),h.2 1 _ _ rfl (gF oq),h.2 2 _ _ rfl (gF oq)⟩;grind
def gC(rn:Nat)(L:Iq):Prim
 | 146=>some λargs s=>match args.toList with
  | [.pointer (some ⟨b,0,none⟩),.int .i64 k]=>if b=rn/\0<=k then some (.int .i32 (L[k.toNat]?.getD (-1)),s) else none
  | _=>none
 | 92=>some λargs s=>match args.toList with
  | [.pointer (some ⟨b,0,none⟩),.int .i64 i,.int .i64 j]=>if b=rn/\0<=i/\0<=j/\j<=1000000 then some (.string ⟨(aJ ((L.drop i.toNat).take (j.toNat-i.toNat))).toArray⟩,s) else none
  | _=>none
 | 333=>some λargs s=>match args.toList with
  | [.string x,.int .i64 k]=>match s.get 1 with
   | some (.cells cs 335 (0,0))=>if vN cs.toList=true then match V3 x.data.toList with
     | some (c,n)=>some (.tuple #[.int .i32 c,.int .i64 n],s)
     | none=>none
    else none
   | _=>none
  | _=>none
 | f=>bu f
theorem qj(rn:Nat)(all:Iq):∀f g a s v b,gC rn all f=some g->g a s=some (v,b)->s.nx<=b.nx:=by
 intro f g a s v b U h;unfold gC at U;split at U;iterate 3
  .grind
 .exact wm _ _ _ _ _ _ U h
def EF.iy{fn:Func}{b:Code}{G:AS->Prop}(k:pr f=none)(j:P.funcs[f]?=some fn)(g:fn.body=some b)(h:EW P kt pr b (args.toList++List.replicate (fn.ntmps-args.toList.length) undef) s (λe c a=>(e=.normal\/e=.ret)/\c8 P fn c a=some v/\G a)):∃d,EF P kt pr f args s v d/\G d:=by have⟨n,e,c,a,h1,i,h2,h3⟩:=h;exact⟨a,EF.of k j g ⟨n,e,c,a,h1,i,h2,rfl⟩,h3⟩
section
variable {P:Program}{kt:TypeId->Bool}{pr:Prim}{a:TL}{s s1:AS}{ops:Array Oper}{v:Value}
def oT:Option (TL × AS)->Option AS
 | some (_,s)=>some s
 | none=>none
def EO.gs(k n:Nat)(s':AS)(h:oT (cT P kt (bH P kt pr n) ops (rest.take k) a s)=some s')(b:EO P kt pr ops (rest.drop k) (oA (cT P kt (bH P kt pr n) ops (rest.take k) a s)) s' K):EO P kt pr ops rest a s K:=by
 generalize c:cT P kt (bH P kt pr n) ops (rest.take k) a s=q at h b;obtain _|⟨a',s2⟩:=q
 .cases h
 .cases h;exact EO.run k n a' s' c b
def XB (P:Program)(ops:Array Oper)(r:List Oper):Option (TL × AS)->Option (FuncId × Aq × AS)
 | some (a,s)=>match r with
  | o::_=>match o.op with
   | .call cl=>match cl.callee with
    | .value (.func g)=>if Region.wanted o (bL ops a)=true/\jV P (.func g)=false then some (g,#[]++cl.args.map a.at++#[],s) else none
    | _=>none
   | _=>none
  | []=>none
 | none=>none
def US (r:List Oper)(a:TL)(v:Value):TL:=match r with
 | o::_=>a.put o.dst v
 | []=>a
def EO.gc(k n:Nat)(h:XB P ops (rest.drop k) (cT P kt (bH P kt pr n) ops (rest.take k) a s)=some (g,args,s'))(f:EF P kt pr g args s' v s1)(b:EO P kt pr ops (rest.drop (k+1)) (US (rest.drop k) (oA (cT P kt (bH P kt pr n) ops (rest.take k) a s)) v) s1 K):EO P kt pr ops rest a s K:=by
 generalize i:cT P kt (bH P kt pr n) ops (rest.take k) a s=q at h b;obtain _|⟨a',s2⟩:=q
 .cases h
 .rw[<-List.drop_drop] at b;refine EO.run k n a' s2 i ?_;generalize rest.drop k=r at h b;cases r with
  | nil=>cases h
  | cons o t =>
   simp only[XB] at h;split at h
   .next j d =>
    split at h
    .next l c =>
     split at h
     .next e =>cases h;exact EO.gd _ e.1 d c e.2 rfl f b
     .cases h
    .cases h
   .cases h
end
def gD (x:Nq):Nat->Nat->TL
 | _,0=>[]
 | k,n+1=>x k::gD x (k+1) n
def yU{k:IntKind}{b:Bool}(h:decide (i>=j)=b):dw .geq (.int k i) (.int k j)=some (.bool b):=by unfold dw;simp only[ip];rw[h]
def bU{k:IntKind}{b:Bool}(h:decide (i<=j)=b):dw .leq (.int k i) (.int k j)=some (.bool b):=by unfold dw;simp only[ip];rw[h]
abbrev od(l:Bq):Aq:=(strCells ⟨l.toArray⟩).toArray
def BW (s:AS)(N b:Nat)(l:Bq):Prop:=N<=b/\b<s.nx/\∃p sl,s.get b=some (.cells #[p,sl] 119)/\(p=.pointer none\/p=am b 0)/\((sl=.slice none 0 0/\l=[])\/∃d fz,sl=.slice (some ⟨d,0,none⟩) l.length l.length/\N<=d/\d<s.nx/\d≠b/\s.get d=some (.cells (od l) 5 fz))
def iz (N:Nat)(s s':AS):Prop:=s.nx<=s'.nx/\∀k,k<N->s'.get k=s.get k
def iz.refl:iz N s s:=⟨lr,λ_ _=>rfl⟩
def iz.trans(h:iz N s s1)(a:iz N s1 s2):iz N s s2:=⟨lT h.1 a.1,λk b=>(a.2 k b).trans (h.2 k b)⟩
def iz.add{o:Obj}(h:N<=s.nx):iz N s (s.add o):=⟨iq,λk a=>by rw[AS.bv,iw oq]⟩
def BW.add(h:BW s N b l)(o:Obj):BW (s.add o) N b l:=by
 have⟨h1,h2,p,e,h3,c,a⟩:=h;refine⟨h1,by simp;omega,p,e,by rw[AS.bv,iw oq];exact h3,c,?_⟩;rcases a with a|⟨d,fz,q1,q2,q3,q4,q5⟩
 .exact .inl a
 .exact .inr ⟨d,fz,q1,q2,by simp;omega,q4,by rw[AS.bv,iw oq];exact q5⟩
section
variable {pr:Prim}{s:AS}
def qU(d:pr 261=none)(a:s.get b=some (.cells #[p,sl] 119))(f:p=.pointer none\/p=am b 0):∃c,Ef pr 261 #[am b 0] s (.tuple #[]) c/\c.nx=s.nx/\c.get b=some (.cells #[am b 0,sl] 119)/\∀k,k≠b->c.get k=s.get k:=by
 refine EF.iy d func261 rfl (EW.seq (EW.region kq (EO.go 3 5 kq (EO.kZ s kq (EO.op kq (bw (b:=b) (off:=0) (v:=p) rfl underlying117 rfl kq a rfl) ?_)))));rcases f with rfl|rfl
 .refine EO.fin 5 kq (EW.Dy kq (EW.region kq (EO.go 2 5 kq (EO.kZ s kq (EO.op kq (xH rfl kq (SL (b:=b) (k:=1) kq underlying117 underlying244 a kq iq)) (EO.q kq kq (EO.kZ s kq (EO.op kq (xH rfl kq (SM (b:=b) (k:=1) kq underlying244 underlying117 a kq kq)) (EO.go 2 5 kq (EO.kZ s kq (EO.op kq (gA (b:=b) (off:=0) (w:=am b 0) rfl kq kq rfl rfl kq a iq) (EO.nil ⟨.inl rfl,by kernel_rfl,?_⟩))))))))))));refine⟨rfl,?_,λk e=>?_⟩
  .rw[AS.bn,ip rfl];rfl
  .rw[AS.bn,iw e]
 .refine EO.fin 5 kq (EW.y5 kq (EW.seq (EW.region kq (EO.go 3 5 kq (EO.kZ s kq (EO.op kq (bw (b:=b) (off:=0) (v:=am b 0) rfl underlying117 rfl kq a rfl) (EO.go 1 5 kq (EO.kZ s kq (EO.op kq (MR (b:=b) (k:=1) rfl kq kq underlying117 kq) (EO.nil (EW.y5 kq (EW.skip ?_))))))))))));exact⟨.inl rfl,by kernel_rfl,rfl,a,λk e=>rfl⟩
def mw(l m:Bq):strCells ⟨l.toArray⟩++strCells ⟨m.toArray⟩=strCells ⟨(l++m).toArray⟩:=by show(l.map λb=>Value.int .u8 b.toNat)++(m.map λb=>Value.int .u8 b.toNat)=(l++m).map λb=>Value.int .u8 b.toNat;rw[Bz]
theorem yk(t:pr 261=none)(r:pr 156=none)(h:BW s N b l)(S:l.length+m.length<=1000000):∃o,Ef pr 156 #[am b 0,str m] s (.tuple #[num m.length,.nilIface]) o/\BW o N b (l++m)/\iz N s o:=by
 have⟨E,R,p,sl,H,G,q⟩:=h;have⟨a,F,Q,g,j⟩:=qU t H G;refine EF.iy r func156 rfl (EW.seq (EW.go 5 kq (EW.seq (EW.region kq (EO.go 1 5 kq (EO.kZ s kq (EO.gd #[am b 0] kq rfl rfl kq kq F (EO.nil (EW.seq (EW.region kq (EO.go 4 5 kq (EO.kZ a kq (EO.op kq (bw (b:=b) (off:=1) (v:=sl) rfl underlying55 rfl kq g rfl) (EO.go 1 5 kq (EO.kZ a kq ?_)))))))))))))));have c:∀(v:Value) (e:AS),v.cells=#[v]->v.oneCell'=true->bK prog 5 sl (strCells ⟨m.toArray⟩) m.length a=some (v,e)->e.get b=some (.cells #[am b 0,sl] 119)->a.nx<=e.nx->(∀k,k<N->e.get k=a.get k)->((v=.slice none 0 0/\l++m=[])\/∃d f,v=.slice (sq d) (l++m).length (l++m).length/\N<=d/\d<e.nx/\d≠b/\e.get d=some (.cells (od (l++m)) 5 f))->iU sl=true->∃w U,bK prog 5 sl (strCells ⟨m.toArray⟩) m.length a=some (w,U)/\w.cells=#[w]/\w.oneCell'=true/\iU sl=true/\U.get b=some (.cells #[am b 0,sl] 119)/\BW (U.set b (some (.cells #[am b 0,w] 119))) N b (l++m)/\iz N s (U.set b (some (.cells #[am b 0,w] 119))):=by
  intro v e I J K L T M n O;refine⟨v,e,K,I,J,O,L,⟨E,by simp;omega,am b 0,v,by rw[AS.bn,ip rfl],.inr rfl,?_⟩,by simp;omega,λk i=>?_⟩
  .rcases n with n|⟨d,f,q1,q2,q3,q4,q5⟩
   .exact .inl n
   .exact .inr ⟨d,f,q1,q2,by simpa using q3,q4,by rw[AS.bn,iw q4];exact q5⟩
  .rw[AS.bn,iw oq,M k i,j k oq]
 have u:∃w U,bK prog 5 sl (strCells ⟨m.toArray⟩) m.length a=some (w,U)/\w.cells=#[w]/\w.oneCell'=true/\iU sl=true/\U.get b=some (.cells #[am b 0,sl] 119)/\BW (U.set b (some (.cells #[am b 0,w] 119))) N b (l++m)/\iz N s (U.set b (some (.cells #[am b 0,w] 119))):=by
  cases m with
  | nil =>
   rcases q with ⟨rfl,rfl⟩|⟨d,f,rfl,q2,q3,q4,q5⟩
   .exact c _ a rfl rfl (vB (.inl rfl)) g lr (λk i=>rfl) (.inl ⟨rfl,rfl⟩) rfl
   .refine c _ a rfl rfl (vB (.inr ⟨d,_,_,rfl⟩)) g lr (λk i=>rfl) (.inr ⟨d,f,by rw[List.append_nil],q2,by omega,q4,by rw[j d q4,List.append_nil];exact q5⟩) rfl
  | cons x m =>
   rcases q with ⟨rfl,rfl⟩|⟨d,f,rfl,q2,q3,q4,q5⟩
   .refine c _ _ rfl rfl (ia iq) (by rw[AS.bv,iw oq];exact g) iq (λk i=>by rw[AS.bv,iw oq]) (.inr ⟨a.nx,(1,1),rfl,by omega,by simp,by omega,by rw[AS.bv,ip rfl];rfl⟩) rfl
   .have P:(od l).size=l.length:=by simp[strCells]
    refine c _ _ rfl rfl (gH (sz:=1) iq (by rw[j d q4];exact q5) kq gq oq) (by rw[AS.bv,iw (by simp;omega),AS.bn,iw (Ne.symm q4)];exact g) iq (λk i=>by rw[AS.bv,iw (by simp;omega),AS.bn,iw oq]) (.inr ⟨a.nx,(1,1),by rw[lA],by omega,by simp,by omega,?_⟩) rfl;rw[AS.bv,ip iq];have:List.take (l.length*1) (od l).toList=strCells ⟨l.toArray⟩:=gq
    rw[this,mw]
 have⟨w,U,e1,y,z,A,B,C,D⟩:=u;refine EO.op kq (xG (sl:=sl) (m:=m) rfl kq kq underlying55 underlying9 kq kq oq A e1) (EO.go 2 5 kq (EO.kZ U kq (EO.op kq (gA (b:=b) (off:=1) rfl kq kq y z kq B iq) (EO.nil (EW.seq (EW.region kq (EO.go 1 5 kq (EO.op kq (cY (l:=m) rfl underlying9 kq) (EO.fin 5 kq (EW.ret ⟨.inr rfl,by kernel_rfl,?_⟩))))))))));exact⟨C,D⟩
def uM(f:pr 84=none)(h:BW s N b l)(i:l≠[])(u:l.length<=1000000):∃m,Ef pr 84 #[am b 0] s (str l) m/\iz N s m:=by
 have⟨o,r,p,x,j,w,a⟩:=h;rcases a with ⟨_,a⟩|⟨d,fz,rfl,q2,q3,q4,q5⟩
 .exact absurd a i
 obtain⟨c,l,rfl⟩:∃c n,l=c::n:=by
  cases l with
  | nil=>exact absurd rfl i
  | cons c l=>exact⟨c,l,rfl⟩
 refine EF.iy f func84 rfl ?_;refine EW.seq (EW.go 5 kq (EW.seq (EW.draw kq kq kq ?_)));iterate 2
  refine ET.q kq kq ?_
  refine ET.q kq kq ?_
  refine ET.q kq kq ?_
  refine ET.kZ s kq ?_
  refine ET.op kq (bw (off:=1) (v:=.slice (sq d) (c::l).length (c::l).length) rfl underlying55 rfl kq j rfl) ?_
  refine ET.q kq kq ?_
 refine ET.kZ s kq (ET.op kq (CN (d:=d) (e:=5) (fz:=fz) rfl kq kq kq q5 kq iq oq) (ET.q kq kq ?_));have g:aB prog 55 (am b 1) s=some (.slice (sq d) (c::l).length (c::l).length):=by unfold aB;simp only[am,j,underlying55];rfl
 refine ET.nil ⟨aI [(aB prog 55 (am b 1) s,.slice (sq d) (c::l).length (c::l).length),(aB prog 55 (am b 1) s,.slice (sq d) (c::l).length (c::l).length)] kq (by simp[bB,g]),_,_,_,_,_,_,rfl,rfl,?_⟩;refine EW.ret ⟨.inr rfl,by kernel_rfl,?_⟩;refine⟨lr,λk t=>?_⟩;show(s.set d none).get k=_;rw[AS.bn,iw oq]
end
section
variable {P:Program}{kt:TypeId->Bool}{pr:Prim}{a:TL}{s s1:AS}{ops:Array Oper}{id:Nat}{y c:Code}{t:Operand}{o:Oper}{v:Value}
def zr(k:EO P kt pr ops ops.toList a s λb c=>wL P kt pr y Q .normal b c)(h:lB ops=true:=by kernel_rfl):EW P kt pr (.seq (.region id ops false) y) a s Q:=EW.seq (EW.region h k)
def zx(k:EO P kt pr ops ops.toList a s λb c=>Q .normal b c)(h:lB ops=true:=by kernel_rfl):EW P kt pr (.region id ops false) a s Q:=EW.region h k
def zf(k:K (oA (cT P kt (bH P kt pr 9) ops rest a s)) (oS (cT P kt (bH P kt pr 9) ops rest a s)))(h:V4 (cT P kt (bH P kt pr 9) ops rest a s)=true:=by kernel_rfl):EO P kt pr ops rest a s K:=EO.fin 9 h k
def zs(k:wL P kt pr y Q .normal (cA (fe P kt pr 9 c a s)) (cS (fe P kt pr 9 c a s)))(h:Xk (fe P kt pr 9 c a s)=true:=by kernel_rfl):EW P kt pr (.seq c y) a s Q:=EW.seq (EW.go 9 h k)
def zg(k:Nat)(s':AS)(b:EO P kt pr ops (rest.drop k) (oA (cT P kt (bH P kt pr 9) ops (rest.take k) a s)) s' K)(h:oT (cT P kt (bH P kt pr 9) ops (rest.take k) a s)=some s':=by kernel_rfl):EO P kt pr ops rest a s K:=EO.gs k 9 s' h b
def zk(k:Nat)(b:EO P kt pr ops (rest.drop k) (oA (cT P kt (bH P kt pr 9) ops (rest.take k) a s)) (oS (cT P kt (bH P kt pr 9) ops (rest.take k) a s)) K)(h:V4 (cT P kt (bH P kt pr 9) ops (rest.take k) a s)=true:=by kernel_rfl):EO P kt pr ops rest a s K:=EO.go k 9 h b
def zc(k:Nat)(b:EF P kt pr g args s' v s1)(c:EO P kt pr ops (rest.drop (k+1)) (US (rest.drop k) (oA (cT P kt (bH P kt pr 9) ops (rest.take k) a s)) v) s1 K)(h:XB P ops (rest.drop k) (cT P kt (bH P kt pr 9) ops (rest.take k) a s)=some (g,args,s'):=by kernel_rfl):EO P kt pr ops rest a s K:=EO.gc k 9 h b c
def za(s':AS)(k:EW P kt pr c a s' Q)(h:s=s':=by kernel_rfl):EW P kt pr c a s Q:=EW.kZ s' h k
def zo(s':AS)(k:EO P kt pr ops rest a s' K)(h:s=s':=by kernel_rfl):EO P kt pr ops rest a s K:=EO.kZ s' h k
def zt(s':AS)(k:ET P kt pr ops rest a s' KT)(h:s=s':=by kernel_rfl):ET P kt pr ops rest a s KT:=ET.kZ s' h k
def zF(k:Q .normal a s)(h:a.at t=.bool false:=by kernel_rfl):EW P kt pr (.cond t y .skip) a s Q:=EW.y5 h (EW.skip k)
def zT(k:Q .normal a s)(h:a.at t=.bool true:=by kernel_rfl):EW P kt pr (.cond t .skip y) a s Q:=EW.Dy h (EW.skip k)
def zG(k:EW P kt pr y a s Q)(h:a.at t=.bool false:=by kernel_rfl):EW P kt pr (.cond t c y) a s Q:=EW.y5 h k
def zH(k:EW P kt pr c a s Q)(h:a.at t=.bool true:=by kernel_rfl):EW P kt pr (.cond t c y) a s Q:=EW.Dy h k
def zq(k:ET P kt pr ops rest (a.put o.dst (qV (bN P kt (λ_ _ _=>none) a o s))) (qS (bN P kt (λ_ _ _=>none) a o s)) λc=>KT ((a,qV (bN P kt (λ_ _ _=>none) a o s),qS (bN P kt (λ_ _ _=>none) a o s))::c))(h:Region.wanted o (bL ops a)=true:=by kernel_rfl)(b:qOk (bN P kt (λ_ _ _=>none) a o s)=true:=by kernel_rfl):ET P kt pr ops (o::rest) a s KT:=ET.q h b k
section
variable (e:bN P kt (λ_ _ _=>none) a o s=some (v,s1))
def zp(k:EO P kt pr ops rest (a.put o.dst v) s1 K)(h:Region.wanted o (bL ops a)=true:=by kernel_rfl):EO P kt pr ops (o::rest) a s K:=EO.op h e k
def zu(k:ET P kt pr ops rest (a.put o.dst v) s1 λb=>KT ((a,v,s1)::b))(h:Region.wanted o (bL ops a)=true:=by kernel_rfl):ET P kt pr ops (o::rest) a s KT:=ET.op h e k
end
end
end Go.Proofs.YtgcaionclkbehaaGreatDoor
