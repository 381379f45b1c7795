import Derived.Test.YtgcaionclkbehaaGreatDoorE21
import Derived.Room.MakeNoZero
set_option linter.all false
set_option maxHeartbeats 2000000
set_option maxRecDepth 100000
namespace Go.Proofs.YtgcaionclkbehaaGreatDoor
section
open Go.Conc Go.RowKit Go.Lib Tryz
variable {P:Program}{kt:TypeId->Bool}{pr:Prim}{f fn:FuncId}{args:Aq}{s s' s1:AS}{p v:Value}{w:World}{n:Nat}{ops:Array Oper}{o:Oper}{ι:Type}{R:ι->Wq}{D:ι->World->World->Array Event->Prop}{X:ι->Gq}{xs:Vq}{An:eN}{Hd:ι->Hq->World->Prop}
variable {g:FuncId}{args' cs:Aq}{s2:AS}{sl:Value}{e pt t t' ty u:TypeId}{x y:Operand}{l m:Bq}{i j:Int}{N b c d k off sz:Nat}{fz:Nat × Nat}{l0 news:Vq}{S:eN}
theorem EF.one{w:Value}(h:EF P kt pr f args s v s1)(U:EF P kt pr f args s w s2):v=w/\s1=s2:=by have⟨n,h⟩:=h;have⟨m,U⟩:=U;have e1:=jy (Nat.le_max_left n m) _ _ _ _ h;have a:=jy (Nat.le_max_right n m) _ _ _ _ U;grind
def QV (V:Aq->Option Value)(args:Aq)(s:AS):Option (Value × AS):=match V args with
 | some v=>some (v,s)
 | none=>none
def M3 (f:FuncId)(V:Aq->Option Value)(pr:Prim):Prim:=λg=>if g.beq f then some (QV V) else pr g
def Ca{V:Aq->Option Value}(b:pr f=some (QV V))(a:V args=some v):EF P kt pr f args s v s:=gp b<|by unfold QV;rw[a]
def qOk:Option (Value × AS)->Bool
 | some _=>true
 | none=>false
def qV:Option (Value × AS)->Value
 | some (v,_)=>v
 | none=>undef
def qS:Option (Value × AS)->AS
 | some (_,s)=>s
 | none=>⟨[],0⟩
variable {Q:Exit->TL->AS->Prop}{K:TL->AS->Prop}{KT:List (TL × Value × AS)->Prop}{rest:List Oper}
section
variable {c:gX}{a:TL}
section
variable (hw:Region.wanted o (cg ops a)=true)
section
variable (h:qOk (cf P kt (λ_ _ _=>none) a o s)=true)
def ET.q(k:ET P kt pr ops rest (a.put o.dst<|qV<|cf P kt (λ_ _ _=>none) a o s) (qS<|cf P kt (λ_ _ _=>none) a o s) (λc=>KT ((a,qV<|cf P kt (λ_ _ _=>none) a o s,qS<|cf P kt (λ_ _ _=>none) a o s)::c))):ET P kt pr ops (o::rest) a s KT:=by
 generalize b:cf P kt (λ_ _ _=>none) a o s=q at h k;obtain _|⟨v,s'⟩:=q
 .cases h
 .exact ET.op hw b k
def EO.q(k:EO P kt pr ops rest (a.put o.dst<|qV<|cf P kt (λ_ _ _=>none) a o s) (qS<|cf P kt (λ_ _ _=>none) a o s) K):EO P kt pr ops (o::rest) a s K:=by
 generalize b:cf P kt (λ_ _ _=>none) a o s=q at h k;obtain _|⟨v,s'⟩:=q
 .cases h
 .exact bU hw b k
end
end
def ET.I9(s':AS)(h:s=s')(k:ET P kt pr ops rest a s' KT):ET P kt pr ops rest a s KT:=h▸k
theorem bz{b:BinOp}{z}{u w:Value}(U:o.op=.binOp b t x y z)(d:a.at x=u)(e:a.at y=w)(h:dV b u w=some v):cf P kt c a o s=some (v,s):=by refine eG (by rw[U];rfl) gq ?_;unfold cI;grind
def dL(b:o.op=.call { callee:=.builtin .len,args:=#[x],argTypes:=#[t] })(d:P.underlying t=some .string)(f:a.at x=str l):cf P kt c a o s=some (num l.length,s):=by
 have e:cI P a o=some (num l.length):=by unfold cI;rw[b];simp only;rw[d,f];show some (goInt<|l7 l 0)=_;rw[sM];rfl
 unfold cf;rw[iw (by rw[b];simp[fR]),b];simp only;rw[e]
def jr{lo hi:Option Operand}{i j:Nat}(b:o.op=.slice t x lo hi none)(f:P.underlying t=some .string)(g:a.at x=str l)(d:bS l.length l.length (lo.map a.at) (hi.map a.at)=some (i,j))(e:(l.take j).drop i=m):cf P kt c a o s=some (str m,s):=by rw[Bx b f g d,e]
def fQ{b:Bool}(h:decide (i>=j)=b):dV .geq (num i) (num j)=some (.bool b):=by unfold dV;simp only[ip];rw[h]
def fA{b:Bool}(h:decide (i>j)=b):dV .gtr (num i) (num j)=some (.bool b):=by unfold dV;simp only[ip];rw[h]
def bE{b:Bool}(h:decide (i<j)=b):dV .lss (num i) (num j)=some (.bool b):=by unfold dV;simp only[ip];rw[h]
def vQ{b:Bool}(h:decide (i<=j)=b):dV .leq (num i) (num j)=some (.bool b):=by unfold dV;simp only[ip];rw[h]
def cW{b:Bool}(h:(i==j)=b):dV .eql (num i) (num j)=some (.bool b):=by unfold dV;simp only[ip];rw[h]
def lw{b:Bool}(h:cZ l m=b):dV .eql (str l) (str m)=some (.bool b):=by unfold dV;simp only;rw[h]
end
def dP(l m:Bq):cZ l m=true↔l=m:=by
 constructor
 .intro h;induction l generalizing m with
  | nil=>cases m with
   | nil=>rfl
   | cons y m=>simp[cZ] at h
  | cons x l a=>cases m with
   | nil=>simp[cZ] at h
   | cons y m =>
    unfold cZ at h;split at h
    .next e=>rw[UInt8.toNat_inj.1 (iC e),a m h]
    .cases h
 .rintro rfl;induction l with
  | nil=>rfl
  | cons x l a=>unfold cZ;simp[a]
def p9(h:l≠m):cZ l m=false:=by
 cases hb:cZ l m with
 | false=>rfl
 | true=>exact absurd ((dP l m).1 hb) h
def bQ:Nat->Value->Bool
 | 0,_=>false
 | n+1,v=>match v with
  | .bool _|.int _ _|.string _|.pointer _|.slice _ _ _|.nilFunc|.nilIface=>true
  | .func _ x y=>x.toList.all (bQ n)&&y.toList.all (bQ n)
  | .agg x=>x.toList.all<|bQ n
  | _=>false
def tN{α:Type}{p:α × α->Bool}:∀{l:List α},(∀x∈l,p (x,x)=true)->(l.zip l).all p=true
 | [],_=>rfl
 | x::l,h=>by rw[List.zip_cons_cons,List.all_cons,h x iq,tN λy hy=>h y<|by simp[hy]];rfl
def tE:∀{n:Nat} {v:Value},bQ n v=true->qB n v v=true
 | 0,v,h=>by simp[bQ] at h
 | n+1,v,h=>by
  cases v with
  | bool b=>unfold qB;simp
  | int k i=>unfold qB;simp
  | string x=>unfold qB;exact(dP _ _).2 Y
  | pointer x=>unfold qB;simp
  | slice x l c=>unfold qB;simp
  | nilFunc=>unfold qB;rfl
  | nilIface=>unfold qB;rfl
  | func f x y =>unfold bQ at h;simp only[nU,aT] at h;unfold qB;simp only[beq_self_eq_true,Bool.true_and,Nat.beq_refl];rw[tN λz hz=>tE<|h.1 z hz,tN λz hz=>tE<|h.2 z hz];rfl
  | agg x =>unfold bQ at h;simp only[aT] at h;unfold qB;simp only[Nat.beq_refl,Bool.true_and];exact tN λz hz=>tE<|h z hz
  | _=>simp[bQ] at h
def Mq (P:Program)(ops:Array Oper)(q:Nat):List Nat:=(List.range q).filter λi=>(match ops.toList[i]? with|some o=>kindOf P o|none=>0)==3
def Mr(P:Program)(ops:Array Oper)(kJ:List Nat)(q:Nat)(tr:List (TL × Value × AS))(s:AS):List (Option Value × Value) :=
 (List.range q).flatMap λr=>match ops.toList[r]?,tr[r]? with
  | some o,some (a,v,_)=>match o.op with
   | .load t x=>if Region.wanted o (cg ops a) then ((0::(Mq P ops q).map (·+1)).filter λp=>!((Mq P ops q).any λe=>(e.blt p&&(kJ.getD e 0).testBit r)||(!e.blt p&&(kJ.getD r 0).testBit e))).map λp=>(bV P t (a.at x)<|jQ tr s p,v) else []
   | _=>[]
  | _,_=>[(none,undef)]
def fY{kJ:List Nat}{q:Nat}{tr:List (TL × Value × AS)}(L:List (Option Value × Value))(g:Mr P ops kJ q tr s=L)(h:∀x∈L,x.1=some x.2/\bQ 20 x.2=true):qm P ops kJ q tr s=true:=by
 subst g;unfold qm;simp only;rw[aT];intro r j;have b:∀x,x∈(match ops.toList[r]?,tr[r]? with
  | some o,some (a,v,_)=>match o.op with
   | .load t x=>if Region.wanted o (cg ops a) then ((0::(Mq P ops q).map (·+1)).filter λp=>!((Mq P ops q).any λe=>(e.blt p&&(kJ.getD e 0).testBit r)||(!e.blt p&&(kJ.getD r 0).testBit e))).map λp=>(bV P t (a.at x)<|jQ tr s p,v) else []
   | _=>[]
  | _,_=>[(none,undef)]:List (Option Value × Value))->x.1=some x.2/\bQ 20 x.2=true:=λx k=>h x<|List.mem_flatMap.2 ⟨r,j,k⟩;cases ho:ops.toList[r]? with
 | none=>rw[ho] at b;exact absurd (b (none,undef) iq).1 iq
 | some o =>
  cases ht:tr[r]? with
  | none=>rw[ho,ht] at b;exact absurd (b (none,undef) iq).1 iq
  | some z =>
   have⟨a,v,l⟩:=z;rw[ho,ht] at b;simp only at b |-;cases lz:o.op with
   | load t x =>
    rw[lz] at b;simp only at b |-;rw[aT];intro p i;by_cases d:Region.wanted o (cg ops a)=true
    .rw[ip d] at b;by_cases f:((Mq P ops q).any λe=>(e.blt p&&(kJ.getD e 0).testBit r)||(!e.blt p&&(kJ.getD r 0).testBit e))=true
     .rw[G6,G6];exact .inl<|.inl f
     .have c:=b (bV P t (a.at x)<|jQ tr s p,v)<|List.mem_map.2 ⟨p,List.mem_filter.2 ⟨i,by simpa using f⟩,Y⟩;simp only at c;rw[c.1];simp only[tE c.2,Bool.or_true,Bool.true_or]
    .simp only[Bool.not_eq_true] at d;rw[d];simp
   | _=>rfl
def kN{kJ:List Nat}{q:Nat}{tr:List (TL × Value × AS)}{L:List (Option Value × Value)}(h:∀x∈L,x.1=some x.2/\bQ 20 x.2=true)(g:Mr P ops kJ q tr s=L:=by kernel_rfl):qm P ops kJ q tr s=true:=fY L g h
def dp{k:IntKind}{b:Bool}(h:(i==j)=b):dV .eql (.int k i) (.int k j)=some (.bool b):=by unfold dV;simp only[ip];rw[h]
def bu{f:(Nq)->TL}{a:TL}(h:a=f (λj=>a.getD j undef)):∃x,a=f x:=⟨_,h⟩
section
variable {c:gX}{a:TL}
def jq{r:Aq}{d:TypeDesc}(e:o.op=.load t x)(k:P.underlying t=some d)(g:d.isRow=true)(f:cz P t=some n)(l:a.at x=aC b off)(j:s.get b=some (.cells cs ty fz))(h:off+n<=cs.size)(i:(cs.toList.drop off |>.take n).toArray=r):cf P kt c a o s=some (.agg r,s):=by unfold cf;rw[iw (by rw[e];simp[fR]),e];simp only;unfold bV;rw[l];simp only[aC,j,k,g,f,if_true];rw[ip h,i]
theorem ur(U:o.op=.convert t u x)(b:cI P a o=none)(h:ir P t u (a.at x) s=some v):cf P kt c a o s=some (v,s):=by unfold cf;rw[iw (by rw[U];simp[fR])];grind
theorem Wv{x:Value}(c:x=aC b 0)(U:P.underlying t=some (.pointer e))(a:P.underlying u=some .unsafePointer)(f:s.get b=some (.cells cs ty fz))(g:cz P e=some (k+1))(d:0<cs.size):ir P t u x s=some (aC b 0):=by subst c;unfold ir;rw[U,a];simp only[aC];grind
theorem Ww{x:Value}(c:x=aC b 0)(U:P.underlying t=some .unsafePointer)(a:P.underlying u=some (.pointer e))(f:s.get b=some (.cells cs ty (0,0)))(g:cz P e=some (k+1))(d:liesAt P P.depth ty (cs.size / P.cellsOf ty) 0 e 1=true):ir P t u x s=some (aC b 0):=by subst c;unfold ir;rw[U,a];simp only[aC];grind
theorem PS{z}(U:o.op=.binOp .neq t x y z)(f:a.at x=aC b 0)(g:a.at y=aC b 0)(d:P.underlying t=some (.pointer e))(h:cz P e=some (k+1)):cf P kt c a o s=some (.bool false,s):=by
 refine eG (by rw[U];rfl) gq ?_;unfold cI;rw[U];simp only;rw[f,g];have h1:dV .neq (aC b 0) (aC b 0)=none:=Y;have h2:pe P .neq t (aC b 0) (aC b 0)=some (.bool false):=by unfold pe;simp only[aC,d];rw[h];simp
 rw[h1,h2]
theorem Bu(U:o.op=.call { callee:=.builtin .append,args:=#[x,y],argTypes:=#[t,t'] })(l:a.at x=sl)(n:a.at y=str m)(k:P.underlying t=some (.slice e))(d:P.underlying t'=some .string)(hi:(P.info? e).map (λi=>(i.zero,i.size,i.bytes))=some (some<|Value.int .u8 0,1,1))(b:kt e=false)(f:m.length<=1000000000)(g:kQ sl=true)(h:ce P e sl (strCells ⟨m.toArray⟩) m.length s=some (v,s')):cf P kt c a o s=some (v,s'):=by
 have j:cI P a o=none:=by unfold cI;rw[U]
 unfold cf;rw[iw (by rw[U];simp[fR])];rw[U];simp only;rw[j];simp only[rj,List.map_nil];rw[l,n];unfold gl;simp only;rw[k,d];simp only;rw[hi];simp only;rw[ip ⟨by show m.toArray.size<=_;simpa using f,b,g⟩];show ce P e sl (strCells ⟨m.toArray⟩) m.toArray.size s=_;grind
def yW(h:sl=.slice none 0 0\/∃d n k,sl=.slice (sq d) n k):ce P e sl news 0 s=some (sl,s):=by
 rcases h with rfl|⟨d,n,k,rfl⟩
 .rfl
 .rfl
def kI{m:Nat}(h:m≠0):ce P e (.slice none 0 0) news m s=some (.slice (sq s.nx) m m,s.add<|.cells news.toArray e (1,1)):=by unfold ce;simp only;rw[iw h]
theorem im{m:Nat}(h:m≠0)(b:s.get d=some (.cells cs e fz))(c:cz P e=some sz)(a:n*sz<=cs.size)(U:n+m<=1000000000):ce P e (.slice (sq d) n k) news m s=some (.slice (sq s.nx) (n+m)<|n+m,(s.set d none).add<|.cells (cs.toList.take (n*sz)++news).toArray e (1,1)):=by unfold ce;grind
def zl:∀(l:Bq),mD (l.map λb=>Value.int .u8 b.toNat)=some l
 | []=>rfl
 | b::l=>by rw[rj];unfold mD;have h:=b.toNat_lt;rw[ip ⟨oq,oq⟩,zl l];simp
def Bz(f:o.op=.call { callee:=.builtin .unsafeString,args:=#[x,y],argTypes:=#[pt,t'] })(i:a.at x=aC d 0)(p:a.at y=num l.length)(n:P.underlying pt=some (.pointer e))(m:s.get d=some (.cells (strCells ⟨l.toArray⟩).toArray e fz))(j:P.cellsOf e=1)(q:0<l.length)(h1:l.length<=1000000000):cf P kt c a o s=some (str l,s.set d none):=by
 have k:cI P a o=none:=by unfold cI;rw[f];simp only;unfold vA;rw[f];rw[iw];intro h;have:((Op.call { callee:=.builtin .unsafeString,args:=#[x,y],argTypes:=#[pt,t'] }).operands.toList.all λx=>q9<|a.at x)=(q9 (a.at x)&&(q9 (a.at y)&&true)):=Y;rw[this,i] at h;simp[q9,eW,aC] at h
 have g:(strCells ⟨l.toArray⟩).toArray.size=l.length:=by simp[strCells]
 unfold cf;rw[iw (by rw[f];simp[fR])];rw[f];simp only;rw[k];simp only[rj,List.map_nil];rw[i,p];unfold gl;simp only[aC];rw[n,m];simp only;rw[ip ⟨j,trivial,oq,oq,by rw[g];simp⟩];have:(List.take ((l.length:Int)).toNat (strCells ⟨l.toArray⟩).toArray.toList)=l.map λb=>Value.int .u8 b.toNat:=by rw[yE];show List.take l.length (l.map λb=>Value.int .u8 b.toNat)=_;rw[tL iq]
 rw[this,zl]
end
def Ws (p u:Value):Obj:=.cells #[p,u] 119
variable {Bb:Nat}{rl:Hq}
section
variable {i:ι}{M:World->Nat->Prop}{O:Nat->Prop}{N0:Nat}{Rb at_:Nat}{u lv:Value}
def vX(x:Option Addr)(n c:Nat)(w:World)(es:Array Event):(Builtin.len_ #[55] 3 #[.slice x n c]).events prog w es=es:=by simp[Builtin.len_,go_sem]
end
section
variable (x:Option Addr)
def vW(n c:Nat)(w:World)(es:Array Event):(Builtin.cap_ #[55] 3 #[.slice x n c]).events prog w es=es:=by simp[Builtin.cap_,go_sem]
def AZ(n c:Nat)(w:World)(es:Array Event):(Instr.sliceAt 55 (.slice x n c) none (some<|.int .i64 0) none).events prog w es=es:=by
 have a:(prog.info? 5).isSome=true:=kq
 have⟨b,a⟩:=Option.isSome_iff_exists.1 a;simp[Instr.sliceAt,Instr.slice,Instr.sliceBounds,Instr.sliceBound,underlying,underlying55,asIntOf,sizeOf,typeInfo,a]
def sr(c:Nat)(w:World)(es:Array Event):(Builtin.copy_ #[55,55] 3 #[.slice x 0 c,.slice none 0 0]).events prog w es=es:=by
 have a:(prog.info? 5).isSome=true:=kq
 have⟨b,a⟩:=Option.isSome_iff_exists.1 a;cases x<;>simp[Builtin.copy_,underlying,underlying55,sizeOf,typeInfo,a,Builtin.lenOf,Builtin.firstCells,storeCells]
end
def Fv(w:World)(ps:Array TypeId)(t e:TypeId)(f:P.underlying t=some (.slice e))(n:Nat)(h:n<=281474976710656)(es:Array Event):∃c,(Extern.BytealgMakeNoZero.makeNoZero ps #[t] #[.int .i64 n]).events P w es=es++c/\∀g∈c,g=⟨.mark .noRoom,false,true⟩:=by
 have b:Extern.BytealgMakeNoZero.makeNoZero ps #[t] #[.int .i64 n] =
   (do
    let .slice elem <-underlying t|stuck _
    if (n:Int)<0||(n:Int)>2 ^ 48 then runtimePanic (.error _)
    let cap <-choose (.appendCap (n:Int).toNat 0 elem)
    askRoom cap
    let bytes <-choose (.extern _ 0)
    let a <-newRow elem (Extern.BytealgMakeNoZero.digits cap bytes #[])
    pure (.slice (some a) (n:Int).toNat cap)):=Y;have h1:¬(n:Int)<0:=oq
 have h2:¬(281474976710656:Int)<(n:Int):=oq
 by_cases d:grownCap w n 0 e>roomBytes
 .refine⟨#[⟨.mark .noRoom,false,true⟩],?_,iq⟩;rw[b];simp[h1,h2,Question.forced,newRow,askRoom,underlying,f];simpa[grownCap] using d
 .refine⟨#[],?_,iq⟩;rw[b];simp[h1,h2,Question.forced,newRow,askRoom,underlying,f];simpa[grownCap] using d
variable {H:Hq->World->Prop}
section
variable {i:ι}{M:World->Nat->Prop}{O:Nat->Prop}{N0:Nat}{l:Hq}
variable {Q:gY ι}{a:Act}{vs:ι}
theorem JR(C:cG prog true R D X)(Z:Co fa N0 M O (R vs) (D vs) H){i:Nat}{f:List Nat}{o:Oper}{ats:Array TypeId}{z:Int}(n:Nat)(hn:n<=1000000000)(N:ops[i]?=some o)(S:Region.wanted o (yielded ops a.tmps)=true)(B:o.op=.call { callee:=.value<|.func 378,args:=#[x],argTypes:=ats })(T:a.eval x=.int .i64 z)(W:z=(n:Int))(F:H l w)
 (h:∀b p v,n<=p.size->p.size<=maxLen->H ((b,.cells p 5)::l) v->cP X fn ops f vs Q (a.put o.dst<|.slice (sq b) n p.size) v):cP X fn ops (i::f) vs Q a w:=λb k p A t I=>C.step rfl λc s=>by
 subst W;have U:=Z.rely F s;have j:H l c.drew.drew:=Z.rely (Z.rely U<|Z.env.wP _)<|Z.env.wP _;have⟨g,r,h1,h2,_⟩:=Lib.run_makeNoZero_cap (P:=prog) c #[3] 55 5 underlying55 n oq;have⟨evs,J,d⟩:=Fv (P:=prog) c #[3] 55 5 underlying55 n oq #[⟨.mark<|.extern 378,false,true⟩];have m:(#[x]:Array Operand).map a.eval=#[.int .i64 (n:Int)]:=by simp[T]
 rw[stepG_entry N S t B func378 rq rq kq (e:=Extern.BytealgMakeNoZero.makeNoZero #[3] #[55]) kq (by rw[m];exact r) (evs:=evs) gq (λy V=>by rw[d y V];simp)];have q:Own fa M c.drew.drew (c.drew.drew.alloc<|.cells g 5):=eB (by simp[fa]);have u:Own fa M c (c.drew.drew.alloc<|.cells g 5):=⟨q.tape,q.os,q.output,q.grow,λb G hm=>heap_alloc_old c.drew.drew _ b G,λb Y K t=>(q.kt b Y K t)⟩;refine⟨Z.env.kZ (Z.size U) u λE L=>?_,h _ g _ h1 (h2<|by unfold maxLen;omega) (Z.grown j q) b k p A t I⟩;rw[d E L];exact .inr<|.inr ⟨by simp[MemAct.ofEvent,MemAct.touch?],iq,iq,by simp[MemAct.ofEvent]⟩
end
section
variable {i:ι}{M:World->Nat->Prop}{O:Nat->Prop}{N0:Nat}{l:Hq}
theorem S8(C:cG prog true R D X)(T:∀i,Terms (R i)<|D i)(Z:Co fa N0 M O (R i) (D i) H)(n:Nat)(F:n<=1000000000)(a:H ((Bb,Ws p<|.slice none 0 0)::l) w) :
  gj prog X 344 #[.pointer (sq Bb),.int .i64 (n:Int)] i w (λI x k=>I=i/\x=.tuple #[]/\∃g cs,n<=cs.size/\cs.size<=maxLen/\H ((g,.cells cs 5)::(Bb,Ws p<|.slice (sq g) 0 cs.size)::l) k):=by
 have N:=underlying9;have G:IntKind.i64.wrap (n:Int)=(n:Int):=by rw[IntKind.wrap_i64];omega
 have L:IntKind.i64.wrap 0=0:=dq
 refine jw func344 rq Y ?_;simp only[ntmps344,bZ,Nat.reduceAdd,Nat.reduceSub];refine cu C T<|ll C Z.env.CZ kq (n:=16) Y kq (λJ s r k=>s=i/\∃(g:Nat) (cs:Aq),H ((Bb,Ws p<|.slice none 0 0)::(if J 8=true then (g,.cells cs 5)::l else l)) k/\(J 8=true->n<=cs.size/\cs.size<=maxLen)/\((J 14=true->J 8=true))/\((J 15=true->J 8=true))/\r=⟨#[.pointer (sq Bb),.int .i64 (n:Int),undef,undef,(if J 15=true then .slice (sq g) 0 cs.size else undef),(if J 0=true then .pointer (sq Bb) else undef),(if J 1=true then .pointer (sq Bb) else undef),(if J 2=true then .pointer (some ⟨Bb,1,none⟩) else undef),(if J 3=true then .slice none 0 0 else undef),(if J 4=true then .int .i64 0 else undef),(if J 5=true then .int .i64 0 else undef),(if J 6=true then .int .i64 (n:Int) else undef),(if J 7=true then .int .i64 (n:Int) else undef),(if J 8=true then .slice (sq g) n cs.size else undef),(if J 9=true then .pointer (sq Bb) else undef),(if J 10=true then .pointer (sq Bb) else undef),(if J 11=true then .pointer (some ⟨Bb,1,none⟩) else undef),(if J 12=true then .slice none 0 0 else undef),(if J 13=true then .int .i64 0 else undef),(if J 14=true then .slice (sq g) 0 cs.size else undef),undef,undef,undef,undef,undef,undef,undef,undef,undef,undef],[]⟩) (λu B=>⟨Y,0,#[],?_,iq,iq,iq,Y⟩) ?_ ?_ ?_
 .simpa using Z.rely (Z.rely a B) (Z.env.wP _)
 .rintro J K s r k U ⟨rfl,g,cs,a,f,o,q,rfl⟩;simp only[U 0 dq,U 1 dq,U 2 dq,U 3 dq,U 4 dq,U 5 dq,U 6 dq,U 7 dq,U 8 dq,U 9 dq,U 10 dq,U 11 dq,U 12 dq,U 13 dq,U 14 dq,U 15 dq] at a f o q;refine⟨Y,g,cs,a,f,o,q,?_⟩;simp only[U 0 dq,U 1 dq,U 2 dq,U 3 dq,U 4 dq,U 5 dq,U 6 dq,U 7 dq,U 8 dq,U 9 dq,U 10 dq,U 11 dq,U 12 dq,U 13 dq,U 14 dq,U 15 dq]
 .rintro J j s r k ⟨rfl,g,cs,a,f,o,q,rfl⟩ E U c t A;match j,E with
  | 0,_|1,_|2,_|4,_|5,_|6,_|7,_|9,_|10,_|11,_|13,_|14,_|15,_=>
   have c:=c _ Y;simp[Region.binds] at c;try simp only[c,if_true,reduceIte]
   refine dQ C T Y rq λ_ e d=>?_;go_simp;refine d _ ?_ (by first|(simp[go_sem];done)|(simp[go_sem, *];done)|(simp[go_sem,lb,lf,lg,ji,oD,vX,vW,AZ,sr, *];done));clear d e;grind
  | 3,_|12,_=>
   have c:=c _ Y;simp[Region.binds] at c;try simp only[c,if_true,reduceIte]
   refine og C Z (v:=.slice none 0 0) (b:=Bb) (off:=1) 0 Y rq Y (by simp[Act.eval, *]) underlying55 Y a Y rq λ_ a=>?_;try walk_nrm
   grind
  | 8,_=>
   have c:=c _ Y;simp[Region.binds] at c;try simp only[c,if_true,reduceIte]
   have y:J 14=false:=gq
   have z:J 15=false:=gq
   simp only[U,lI,if_false,reduceIte] at a;refine JR C Z n F Y rq Y (by simp[Act.eval, *]) Y a λg cs P h1 h2 a=>?_;try walk_nrm
   refine A _ _ _ ⟨Y,g,cs,by simpa using Z.perm a (List.Perm.swap _ _ _),λ_=>⟨h1,h2⟩,by simp[y],by simp[z],?_⟩;simp[*]
  | m+16,h=>exact absurd h oq
 .rintro J s r k U ⟨rfl,g,cs,a,f,o,q,rfl⟩;simp only[U 0 dq,U 1 dq,U 2 dq,U 3 dq,U 4 dq,U 5 dq,U 6 dq,U 7 dq,U 8 dq,U 9 dq,U 10 dq,U 11 dq,U 12 dq,U 13 dq,U 14 dq,U 15 dq,if_true,reduceIte,true_implies,forall_const] at a f o q |-;refine bO C T ?_;show iO _ _ _ _ _ _ _;refine cu C T<|bv C T ?_;simp only[jb,Nat.reduceAdd];iterate 4
   refine dQ C T Y rq λ_ e d=>?_
   go_simp
   refine d _ ?_<|by first|(simp[go_sem];done)|(simp[go_sem, *];done)|(simp[go_sem,lb,lf,lg,ji,oD,vX,vW,AZ,sr, *];done)
   clear d e
   try walk_nrm
  refine og C (Z) (v:=.slice none 0 0) 0 Y rq Y rq underlying55 Y a Y rq λ_ a=>?_;try walk_nrm
  refine dQ C T Y rq λ_ e d=>?_;go_simp;refine d _ ?_ (by first|(simp[go_sem];done)|(simp[go_sem, *];done)|(simp[go_sem,lb,lf,lg,ji,oD,vX,vW,AZ,sr, *];done));clear d e;try walk_nrm
  refine bO C T ?_;show iO _ _ _ _ _ _ _;refine bv C T ?_;simp only[jb,Nat.reduceAdd];iterate 4
   refine dQ C T Y rq λ_ e d=>?_
   go_simp
   refine d _ ?_<|by first|(simp[go_sem];done)|(simp[go_sem, *];done)|(simp[go_sem,lb,lf,lg,ji,oD,vX,vW,AZ,sr, *];done)
   clear d e
   try walk_nrm
  refine ve C (Z) (cs:=[.slice (sq g) 0 cs.size]) (cur':=#[p,.slice (sq g) 0 cs.size]) 0 Y rq Y rq rq rq (by simp[Value.oneCell']) (by simp[fa]) a Y gq (by first|rfl|(simp[putAt];done)) λ_ a=>?_;simp only[List.set_cons_zero,List.set_cons_succ,List.set] at a;try walk_nrm
  exact bO C T ⟨.inl Y,Y,_,resultsC_none rq _,Y,Y,g,cs,f.1,f.2,Z.perm a<|List.Perm.swap _ _ _⟩
end
def qp{ι:Type}{X:ι->Gq}{c:Code}{vs:ι}{Q:gY ι}{a:Act}{f:(Nq)->Act}(h:f (λi=>a.tmps.getD i undef)=a)(k:∀x,iO X fn c vs Q (f x) w):iO X fn c vs Q a w:=h▸k _
def Jt(s:ByteArray)(c:Int)(w:World)(es:Array Event):(Extern.BytealgCount.count #[.string s,.int .u8 c]).events prog w es=es:=by
 change Sem.events prog (do
  let b <-Extern.Bytes.bytesOf (.string s)
  let c' <-Extern.Bytes.asByte (.int .u8 c)
  pure (goInt<|b.foldl (λn x=>if x==c' then n+1 else n) (0:Nat))) w es=_;simp only[Extern.Bytes.bytesOf,Extern.Bytes.asByte,Sem.events_bind,Sem.run_pure,Sem.events_pure,Result.evThen_ok]
def OL (s:ByteArray)(c:Int):Int:=(Lib.countByte s.data.toList c.toNat.toUInt8:Nat)
theorem OM(s:ByteArray)(c:UInt8):QR prog 343 #[.string s,.string ⟨#[c]⟩] (.int .i64<|OL s c.toNat):=by
 intro g R D X C T i w;have f:=underlying9;have h1:(⟨#[c]⟩:ByteArray).size=1:=Y;refine jw func343 rq Y ?_;simp only[ntmps343,bZ,Nat.reduceAdd,Nat.reduceSub];refine cu C T<|bv C T ?_;simp only[jb,Nat.reduceAdd];refine dQ C T Y rq λ_ a U=>?_;go_simp;refine U _ ?_ (by first|(simp[go_sem];done)|(simp[go_sem, *];done)|(simp[go_sem,lb,lf,lg,ji,oD, *];done));clear U a;try walk_nrm
 refine bO C T ?_;show iO _ _ _ _ _ _ _;iterate 2 refine cu C T ?_
 refine bv C T ?_;simp only[jb,Nat.reduceAdd];iterate 3
  refine dQ C T Y rq λ_ a U=>?_
  go_simp
  refine U _ ?_<|by first|(simp[go_sem];done)|(simp[go_sem, *];done)|(simp[go_sem,lb,lf,lg,ji,oD, *];done)
  clear U a
  try walk_nrm
 refine bO C T ?_;show iO _ _ _ _ _ _ _;refine Ar C T Y (λb=>?_)<|λb=>?_
 .grind
 .
  try simp only[b]
  try simp only[Wu,beq_iff_eq,bF,bne_iff_ne,bne_eq_false_iff_eq] at b
  refine nP C T ?_;show iO _ _ _ _ _ _ _;iterate 2 refine cu C T ?_
  refine bv C T ?_;simp only[jb,Nat.reduceAdd];iterate 3
   refine dQ C T Y rq λ_ a U=>?_
   go_simp
   refine U _ ?_<|by first|(simp[go_sem];done)|(simp[go_sem, *];done)|(simp[go_sem,lb,lf,lg,ji,oD, *];done)
   clear U a
   try walk_nrm
  refine bO C T ?_;show iO _ _ _ _ _ _ _;refine Ar C T Y (λb=>?_)<|λb=>?_
  .
   try simp only[b]
   try simp only[Wu,beq_iff_eq,bF,bne_iff_ne,bne_eq_false_iff_eq] at b
   refine cu C T<|bv C T ?_;simp only[jb,Nat.reduceAdd];iterate 3
    refine dQ C T Y rq λ_ a U=>?_
    go_simp
    refine U _ ?_<|by first|(simp[go_sem];done)|(simp[go_sem, *];done)|(simp[go_sem,lb,lf,lg,ji,oD, *];done)
    clear U a
    try walk_nrm
   try simp only[show((⟨#[c]⟩:ByteArray)[0]).toNat=c.toNat from Y]
   refine ry C T Y rq Y func377 rq rq kq (e:=Extern.BytealgCount.count) kq (x:=.int .i64<|OL s c.toNat) (args':=#[.string s,.int .u8 c.toNat]) (by simp[Act.eval]) (λw=>Lib.run_countString s c.toNat w) (λw d=>Jt s c.toNat w d) ?_;try walk_nrm
   refine dQ C T Y rq λ_ a U=>?_;go_simp;refine U _ ?_ (by first|(simp[go_sem];done)|(simp[go_sem, *];done)|(simp[go_sem,lb,lf,lg,ji,oD, *];done));clear U a;try walk_nrm
   refine bO C T ?_;show iO _ _ _ _ _ _ _;refine qq C T ⟨.inr Y,Y,_,resultsC_tmp rq _,Y,?_,Y⟩;simp
  .grind
section
variable {KT:TypeId->Prop}{N0:ι->Nat}{M:ι->World->Nat->Prop}{O:ι->Nat->Prop}
def Sound.same(Y:Cy P KT N0 M O R D X Hd)(p:eW v=true)(h:∀S l c i w a,gz P KT An S s l->Hd i (l++c) w->AR (VR S) args a->gj P X f a i w (λe x g=>x=v/\Hd e (l++c) g)):Sound P KT An R D X Hd f args s v s:=by intro S l c i w a d m k o;refine(h S l c i w a d m k).toE Y.C Y.T ?_;rintro e x g j ⟨rfl,b⟩ n;exact⟨S,l,aQ S,λ_ _=>I,d,(Y.Z b).rely b n,bD p⟩
theorem AR.sc{a b:Aq}(h:AR (VR S) a b)(U:a.toList.all eW=true):b=a:=by
 apply wu.1;apply List.ext_getElem?;intro i;rw[Array.getElem?_toList,Array.getElem?_toList];by_cases c:i<a.size
 .have h1:a[i]?=some a[i]:=gF c;have h2:b[i]?=some (b[i]'(by rw[<-h.1];exact c)):=gF _;rw[h1,h2];rw[aT] at U;rw[(h.2 i _ _ h1 h2).sc (U _ iq)]
 .have h2:¬i<b.size:=by rw[<-h.1];exact c
  grind
def xj{i:ι}{Post a:ι->Value->World->Prop}(h:gj P X f args i w Post)(g:∀i v w,Post i v w->a i v w):gj P X f args i w a:=by have⟨b,c,h1,h2,h3,d⟩:=h;exact⟨b,c,h1,h2,h3,nO d λo e n p ⟨j,k,v,l,m⟩=>⟨j,k,v,l,g _ _ _ m⟩⟩
end
def km (c:Nat):Bq->Nat->Int
 | [],_ => -1
 | b::l,k=>if b.toNat.beq c then (k:Int) else km c l (k+1)
def Ff (c:Nat):Bq->Nat->Nat
 | [],k=>k
 | b::l,k=>if b.toNat.beq c then Ff c l (k+1) else Ff c l k
def oZ(b u:UInt8):b.toNat.beq u.toNat=(b==u):=by
 by_cases h:b=u
 .subst h;simp
 .have:b.toNat≠u.toNat:=λe=>h<|UInt8.toNat_inj.1 e;rw[show(b==u)=false by simp[h]];exact Bool.eq_false_iff.2 λe=>this<|iC e
theorem HN(u:UInt8):∀(l:Bq) (k:Nat),km u.toNat l k=if indexByte l u = -1 then -1 else indexByte l u+k
 | [],k=>by simp[km,indexByte]
 | b::l,k=>by
  unfold km indexByte;rw[oZ];by_cases U:(b==u)=true
  .simp[U]
  .have a0:=indexByte_ge l u;simp only[U,if_false,lI];rw[HN u l (k+1)];grind
theorem Hf(u:UInt8):∀(l:Bq) (k:Nat),Ff u.toNat l k=countByte l u+k
 | [],k=>by simp[Ff,countByte]
 | b::l,k=>by
  unfold Ff;rw[oZ]
  have:=Hf u l;unfold countByte at this |-;grind
def H8:prog.funcs.size=416:=kq
theorem I6{p:Func->Bool}(h:(List.range n).all (λg=>(P.funcs[g]?).all p)=true)(a:P.funcs.size=n){bL:Func}(U:P.funcs[g]?=some bL):p bL=true:=gq
def MK(bL:Func):Bool:=!(bL.name == "runtime.NumGoroutine")
def PD:(List.range 416).all (λg=>(prog.funcs[g]?).all MK)=true:=kq
def cm:∀ (f:FuncId) (bL:Func),prog.funcs[f]?=some bL->(bL.name == "runtime.NumGoroutine")=false:=by intro g bL hf;have h:=I6 PD H8 hf;unfold MK at h;simpa using h
def UT(x:Bq)(v:Value)(n i:Nat)(r:Nq):TL:=[str x,v,r 2,r 3,.bool false,r 5,r 6,v,num n,num i,r 10,r 11,r 12,r 13,r 14,r 15,r 16]
theorem X2{x:Bq}{xs:List (Bq)}{y:Option Addr}(F:pr 127=none)(U:fC s 1 y n=some (xs.map str))(H:n<=1000000):EF prog kt pr 127 #[str x,.slice y n c] s (.bool<|xs.any λz=>cZ x z) s:=by
 have q:xs.length=n/\∀k z,xs[k]?=some z->∃b o p,y=some ⟨b,o,p⟩/\∃d g f,s.get b=some (.cells d g f)/\d[o+k]?=some (str z):=by
  unfold fC at U;split at U
  .split at U
   .next h=>cases xs with
    | nil=>exact⟨h.symm,λk z B=>by simp at B⟩
    | cons z xs=>cases U
   .cases U
  .next b o p =>
   split at U
   .next d g f A =>
    split at U
    .next E =>simp only[Option.some.injEq,Nat.mul_one] at U;have B:=congrArg List.length U;simp at B;refine⟨oq,λk z C=>⟨b,o,p,Y,d,g,f,A,?_⟩⟩;have h1:=congrArg (λl=>l[k]?) U;grind
    .cases U
   .cases U
 have⟨E,q⟩:=q;clear U;refine aH F func127 Y<|aB<|eJ 5 kq<|aB<|aB<|eJ 5 kq<|aF<|bw (λm a D=>D=s/\∃i,i+m=n/\((xs.drop i).any λz=>cZ x z)=(xs.any λz=>cZ x z)/\∃r,a=UT x (.slice y n c) n i r) ?_ n _ _ ⟨kq,0,oq,Y,bu kq⟩;rintro m a D ⟨rfl,i,G,e,r,rfl⟩;refine aB<|eA kq ?_;cases m with
 | zero =>refine bU kq (bz (u:=num i) (w:=num n) Y kq kq<|bE (b:=false)<|fD oq)<|am<|aB<|kT 5 (.exit 0) kq<|aB<|eJ 5 kq<|aD ⟨.inr Y,?_,kq⟩;rw[<-e,List.drop_of_length_le oq];kernel_rfl
 | succ m =>
  have C:xs[i]?=some xs[i]:=gE oq;obtain⟨b,o,p,rfl,d,g,f,A,I⟩:=q i _ C;rw[List.drop_eq_getElem_cons oq,List.any_cons] at e;refine bU kq (bz (u:=num i) (w:=num n) Y kq kq<|bE (b:=true)<|tD oq)<|am<|aB<|eJ 5 kq<|aB<|aF<|aB<|eA kq<|bU kq (ta (j:=i) (b:=b) (off:=o) (n:=n) (cp:=c) (sp:=p) (k:=.i64) (sz:=1) Y underlying62 kq kq kq oq oq)<|bU kq (kO (b:=b) (off:=o+(i:Int).toNat*1) (v:=str xs[i]) Y underlying9 Y kq A gq)<|EO.fin 5 kq<|aB<|eJ 5 kq<|EW.cond (b:=cZ x xs[i]) kq (λt=>?_)<|λt=>?_
  .refine kT 5 .ret kq ⟨.inr Y,?_,kq⟩;rw[<-e,t];kernel_rfl
  .rw[t,Bool.false_or] at e;exact eJ 5 kq<|eA kq<|bU kq (jY (i:=i) (j:=1) (r:=((i+1:Nat):Int)) Y kq kq oq oq)<|EO.fin 5 kq ⟨m,oq,kq,i+1,oq,e,bu kq⟩
def bP:Prim
 | 127=>some λargs s=>match args.toList with
  | [.string x,.slice y n _]=>match fC s 1 y n with
   | some l=>if n<=1000000/\(l.all λv=>match v with|.string _=>true|_=>false)=true then some (.bool<|l.any λv=>match v with|.string z=>cZ x.data.toList z.data.toList|_=>false,s) else none
   | none=>none
  | _=>none
 | 373=>some λargs s=>match args.toList with
  | [.string x,.int .u8 c]=>some (.int .i64<|km (c.toNat % 256) x.data.toList 0,s)
  | _=>none
 | 343=>some λargs s=>match args.toList with
  | [.string x,.string y]=>match y.data.toList with
   | [c]=>some (.int .i64<|Ff c.toNat x.data.toList 0,s)
   | _=>none
  | _=>none
 | 344=>some λargs s=>match args.toList with
  | [.pointer (some ⟨b,0,none⟩),.int .i64 n]=>match s.get b with
   | some (.cells cs 119 (0,0))=>match cs.toList with
    | [p,.slice none 0 0]=>if 0<=n/\n<=1000000000 then some (.tuple #[],(s.set b<|some<|.cells #[p,.slice (some ⟨s.nx,0,none⟩) 0 0] 119 (0,0)).add<|.cells #[] 5 (1,1)) else none
    | _=>none
   | _=>none
  | _=>none
 | _=>none
theorem td{g:Aq->AS->Option (Value × AS)}(h:bP f=some g):f=127\/f=373\/f=343\/f=344:=by unfold bP at h;grind
theorem zZ:∀f g a s v b,bP f=some g->g a s=some (v,b)->s.nx<=b.nx:=by
 intro f g a s v b U h;rcases td U with rfl|rfl|rfl|rfl
 iterate 3
  .cases U;grind
 .cases U;simp only at h;split at h
  .split at h
   .split at h
    .split at h
     .cases h;simp
     .cases h
    .cases h
   .cases h
  .cases h
section
variable {N0:ι->Nat}{M:ι->World->Nat->Prop}{O:ι->Nat->Prop}
theorem sP{x y:Value}(h:args.toList=[x,y]):args=#[x,y]:=gq
def Ml(Y:Cy prog fa N0 M O R D X Hd){x:ByteArray}{y:Option Addr}(hc:fC s 1 y n=some l0)(hn:n<=1000000)(mT:(l0.all λv=>match v with|.string _=>true|_=>false)=true) :
  Sound prog fa An R D X Hd 127 #[.string x,.slice y n c] s (.bool<|l0.any λv=>match v with|.string z=>cZ x.data.toList z.data.toList|_=>false) s:=by
 obtain⟨xs,rfl⟩:∃xs:List (Bq),l0=xs.map str:=by
  clear hc;induction l0 with
  | nil=>exact⟨[],I⟩
  | cons v l0 ih =>
   simp only[List.all_cons,nU] at mT;obtain⟨xs,rfl⟩:=ih mT.2;cases v with
   | string z=>exact⟨z.data.toList::xs,I⟩
   | _=>simp at mT
 have⟨m,hm⟩:=X2 (kt:=λ_=>true) (pr:=λ_=>none) (x:=x.data.toList) (c:=c) I hc hn;rw[List.any_map];exact(jM Y kq (λ_ h=>by cases h) ⟨λ_ _ _ _ _ _ h=>(by cases h),λ_ _ _ _ _ _ h=>(by cases h)⟩ cm m).2 _ _ _ _ _ hm
def gz.same{KT:TypeId->Prop}{l:Hq}(h:gz P KT An S s l)(a:∀b,s'.get b=s.get b)(c:s'.nx=s.nx):gz P KT An S s' l where
 live b o hb:=h.live b o (a b▸hb)
 inj b b' o o' x x' hb uU:=h.inj b b' o o' x x' (a b▸hb) (a b'▸uU)
 lt b o hb:=c▸h.lt b o (a b▸hb)
 an:=h.an
theorem FC(Y:Cy prog fa N0 M O R D X Hd){n:Int}(hb:s.get b=some (.cells cs 119 (0,0)))(ER:cs.toList=[p,.slice none 0 0])(hn:0<=n/\n<=1000000000) :
  Sound prog fa An R D X Hd 344 #[.pointer (sq b),.int .i64 n] s (.tuple #[]) ((s.set b<|some<|.cells #[p,.slice (sq s.nx) 0 0] 119 (0,0)).add<|.cells #[] 5 (1,1)):=by
 intro S l fr i w args' hS hF hA tQ;obtain rfl:cs=#[p,.slice none 0 0]:=gq
 obtain⟨a0,a1,rfl,h0,h1⟩:∃a0 a1,args'=#[a0,a1]/\VR S (.pointer<|sq b) a0/\VR S (.int .i64 n) a1:=by have vC:=hA.1;simp at vC;refine⟨args'[0]' oq,args'[1]' oq,?_,hA.2 0 _ _ I<|gF<|oq,hA.2 1 _ _ I<|gF<|oq⟩;grind
 have h1:=h1.sc I;subst h1;have⟨d,hd⟩:=h0;cases d with
 | zero=>exact hd.elim
 | succ d =>
  unfold VD at hd;obtain⟨g,z,e,hg,rfl⟩:=hd;have⟨k,o',hk,mH,Oj,Om,XT⟩:=hS.at (fr:=fr) hb hg;unfold OR at Om;obtain⟨qG,rfl,hz,⟨JC,Rs⟩,hv⟩:=Om;have X0:=Rs I;simp at X0;obtain⟨p',u',rfl⟩:∃p' u',qG=#[p',u']:=by refine⟨qG[0]' oq,qG[1]' oq,?_⟩;grind
  have hu:=(hv 1 _ _ I I).sc I;subst hu;have Z:=Y.Z hF;obtain⟨m,rfl⟩:∃m:Nat,n=(m:Int):=⟨n.toNat,oq⟩;refine(S8 Y.C Y.T Z m oq<|Z.front hF k Oj).toE Y.C Y.T ?_;rintro i' x w' aK ⟨rfl,rfl,g2,vR,Xc,Rh,WV⟩ hR;have hF3:=Z.rely WV hR;have O2:=Z.nodup hF;have VS:(l.map Prod.fst).Nodup:=gq
  have hs0:S s.nx=none:=tQ _ lr iq;have abj:k<(l++fr).length:=by simp;omega
  have ZG:=List.eraseIdx_append_of_lt_length mH fr;have hgl:∀o,(g2,o)∉l:=by
   intro o ho;have Tu:=Z.nodup hF3;rw[ZG] at Tu;simp only[rj,List.nodup_cons,Bf,oc,List.mem_append,not_or] at Tu;by_cases hgg:g2=g
   .exact Tu.1.1 hgg
   .apply Tu.1.2.1;have⟨q,hq⟩:=List.mem_iff_getElem?.1 ho;have hqk:q≠k:=gq
    refine List.mem_map.2 ⟨(g2,o),?_,I⟩;rw[List.mem_eraseIdx_iff_getElem?];exact⟨q,hqk,hq⟩
  have hS0:gz prog fa An (S.put s.nx (g2,vR.size,1)) (s.add<|.cells #[] 5 (1,1)) ((g2,.cells vR 5)::l):=by
   refine hS.grown hs0 hgl ?_ ?_
   .unfold OR;grind
   .intro cs t fz h;cases h;exact⟨kq,by simp[fa]⟩
  have ES:b≠s.nx:=gq
  have Cm:(s.add<|.cells #[] 5 (1,1)).get b=some (.cells #[p,.slice none 0 0] 119 (0,0)):=by rw[AS.aZ,iw ES];exact hb
  have Cn:=eM (S:=S) (x:=(g2,vR.size,1)) hs0;have Tw:(((g2,Obj.cells vR 5)::l).map Prod.fst).Nodup:=gq
  have WY:=hS0.xX (k:=k+1) (Rz:=Ws p'<|.slice (sq g2) 0 vR.size) (RA:=.cells #[p,.slice (sq s.nx) 0 0] 119 (0,0)) Cm (Cn _ _ hg) (by simpa using hk) Tw (by
   unfold OR Ws;refine⟨_,I,by simpa using hz,⟨by simp;omega,λ_=>by simp;omega⟩,?_⟩;intro j x y hx hy;match j with
   | 0=>simp at hx hy;subst hx hy;exact (hv 0 _ _ I I).mono Cn
   | 1 =>simp at hx hy;subst hx hy;exact⟨1,g2,vR.size,1,vR.size,eS,I,oq,oq,oq,oq⟩
   | j+2=>simp at hx) (by
   intro cs t fz h;cases h;exact XT _ _ _ I);refine⟨_,_,Cn,?_,(WY.same (λb'=>by
   rw[AS.aZ,AS.aN,AS.aN,AS.aZ];by_cases h1:b'=s.nx
   .subst h1;simp[Ne.symm ES]
   .simp[h1]) I),?_,?_⟩
  .intro b' uU;unfold eN.put;rw[iw];simp at uU;omega
  .simp only[List.set_cons_succ,List.cons_append];refine Z.perm hF3 ?_;rw[ZG];refine List.Perm.cons _ ?_;rw[<-List.cons_append];exact List.Perm.append_right _<|xz hk
  .exact⟨1,#[],I,I,λi x y hx=>by simp at hx⟩
theorem nG(Y:Cy prog fa N0 M O R D X Hd):cR prog fa An R D X Hd bP where
 nx:=zZ
 sound f g args s v s' hf h:=by
  rcases td hf with rfl|rfl|rfl|rfl
  .
   cases hf
   simp only at h
   split at h
   .
    next x y n c U =>
    rw[sP U]
    split at h
    .
     next l A =>
     split at h
     .
      next q=>cases h;exact Ml Y A q.1 q.2
     .
      cases h
    .
     cases h
   .
    cases h
  .
   cases hf
   simp only at h
   split at h
   .
    next x c U =>
    rw[sP U]
    cases h
    refine Sound.same Y I λS l t i w a u j d=>?_
    rw[d.sc I]
    have e:km (c.toNat % 256) x.data.toList 0=Pc x c:=by
     have:=HN c.toNat.toUInt8 x.data.toList 0
     rw[show c.toNat.toUInt8.toNat=c.toNat % 256 by simp] at this
     rw[this]
     unfold Pc
     grind
    rw[e]
    exact xj (Ba x c _ _ _ _ Y.C Y.T i w) λE v F ⟨k,m,o⟩=>⟨m,by subst k;subst o;exact j⟩
   .
    cases h
  .
   cases hf
   simp only at h
   split at h
   .
    next x y U =>
    rw[sP U]
    split at h
    .
     next c H =>
     cases h
     refine Sound.same Y I λS l t i w a u j d=>?_
     rw[d.sc I]
     obtain rfl:y=⟨#[c]⟩:=by
      have⟨y⟩:=y
      congr 1
      grind
     have e:(Ff c.toNat x.data.toList 0:Int)=OL x c.toNat:=by
      rw[Hf]
      unfold OL
      simp
     rw[e]
     exact xj (OM x c _ _ _ _ Y.C Y.T i w) λE v F ⟨k,m,o⟩=>⟨m,by subst k;subst o;exact j⟩
    .
     cases h
   .
    cases h
  .
   cases hf
   simp only at h
   split at h
   .
    next b n U =>
    rw[sP U]
    split at h
    .
     next G z =>
     split at h
     .
      next p r =>
      split at h
      .
       next B=>cases h;exact FC Y z r B
      .
       cases h
     .
      cases h
    .
     cases h
   .
    cases h
end
def SL:List (ByteArray × Int × Bool):=[(⟨#[97,109,112]⟩,38,true),(⟨#[108,116]⟩,60,true),(⟨#[103,116]⟩,62,true),(⟨#[113,117,111,116]⟩,34,true),(⟨#[97,112,111,115]⟩,39,false),(⟨#[110,98,115,112]⟩,160,true),(⟨#[99,111,112,121]⟩,169,true),(⟨#[114,101,103]⟩,174,true),(⟨#[110,111,116]⟩,172,true),(⟨#[110,111,116,105,110]⟩,8713,false),(⟨#[101,97,99,117,116,101]⟩,233,true),(⟨#[101,117,109,108]⟩,235,true),(⟨#[101,117,114,111]⟩,8364,false),(⟨#[110,100,97,115,104]⟩,8211,false),(⟨#[109,100,97,115,104]⟩,8212,false),(⟨#[104,101,108,108,105,112]⟩,8230,false),(⟨#[108,97,114,114]⟩,8592,false),(⟨#[114,97,114,114]⟩,8594,false)]
def LO (x:ByteArray × Int × Bool):Vq:=[.string x.1,.int .i32 x.2.1,.bool x.2.2]
def dy:Vq:=SL.flatMap LO
def Z4:Bq->Option (Int × Int)
 | 97::109::112::59::_=>some (38,4)
 | 108::116::59::_=>some (60,3)
 | 103::116::59::_=>some (62,3)
 | 113::117::111::116::59::_=>some (34,5)
 | _=>none
def kg (t:TypeId):Bool:=t.beq 177||t.beq 179
abbrev Ef:=EF prog kg
abbrev Ew:=EW prog kg
def cB(t:TypeId)(h:kg t=false):¬fa t:=by
 rintro(rfl|rfl|h')
 .cases h
 .cases h
 .exact h'
theorem H9:∀ g bL,mc prog (.func g)=true->prog.funcs[g]?=some bL->(bL.name == "runtime.NumGoroutine")=false/\Extern.findNext bL=none/\Extern.find bL=some Extern.AbiNoEscape.same:=by
 intro g bL h hf;have hg:g<416:=by rw[<-H8]; exact(oF.1 hf).1
 have:(List.range 416).all (λg=>!(mc prog<|.func g)||g.beq 330)=true:=kq;rw[aT] at this
 have:=this g<|List.mem_range.2 hg;rw[h] at this;have e:g=330:=iC gq;subst e;rw[func330] at hf;cases hf;exact⟨rq,kq,kq⟩
def zj(l:Vq):Bool:=(l7 l 0).beq (l7 dy 0)&&(l.zip dy).all λp=>qB 3 p.1 p.2
def wQ{l:Vq}(h:zj l=true):l=dy:=by unfold zj at h;simp only[nU,kF,Nat.zero_add] at h;exact tM _ _ (iC h.1) h.2 λp a=>kv a
theorem QY{x y:Value}(h:AR (VR S) #[x,y] args'):∃a b,args'=#[a,b]/\VR S x a/\VR S y b:=by have U:=h.1;simp at U;refine⟨args'[0]'oq,args'[1]'oq,?_,h.2 0 _ _ Y<|gF oq,h.2 1 _ _ Y<|gF oq⟩;grind
theorem Wo{x y z:Value}(h:AR (VR S) #[x,y,z] args'):∃a b c,args'=#[a,b,c]/\VR S x a/\VR S y b/\VR S z c:=by have U:=h.1;simp at U;refine⟨args'[0]'oq,args'[1]'oq,args'[2]'oq,?_,h.2 0 _ _ Y<|gF oq,h.2 1 _ _ Y<|gF oq,h.2 2 _ _ Y<|gF oq⟩;grind
def jf(rn:Nat)(L:Iq):Prim
 | 146=>some λargs s=>match args.toList with
  | [.pointer (some ⟨b,0,none⟩),.int .i64 k]=>if b=rn/\0<=k then some (.int .i32<|L[k.toNat]?.getD (-1),s) else none
  | _=>none
 | 92=>some λargs s=>match args.toList with
  | [.pointer (some ⟨b,0,none⟩),.int .i64 i,.int .i64 j]=>if b=rn/\0<=i/\0<=j/\j<=1000000 then some (.string ⟨(aS<|(L.drop i.toNat).take<|j.toNat-i.toNat).toArray⟩,s) else none
  | _=>none
 | 333=>some λargs s=>match args.toList with
  | [.string x,.int .i64 k]=>match s.get 1 with
   | some (.cells cs 335 (0,0))=>if zj cs.toList=true then match Z4 x.data.toList with
     | some (c,n)=>some (.tuple #[.int .i32 c,.int .i64 n],s)
     | none=>none
    else none
   | _=>none
  | _=>none
 | f=>bP f
theorem te(rn:Nat)(all:Iq):∀f g a s v b,jf rn all f=some g->g a s=some (v,b)->s.nx<=b.nx:=by
 intro f g a s v b U h;unfold jf at U;split at U;iterate 3
  .grind
 .exact zZ _ _ _ _ _ _ U h
def aX{fn:Func}{b:Code}{G:AS->Prop}(k:pr f=none)(j:P.funcs[f]?=some fn)(g:fn.body=some b)(h:EW P kt pr b (args.toList++List.replicate (fn.ntmps-args.toList.length) undef) s (λe c a=>(e=.normal\/e=.ret)/\di P fn c a=some v/\G a)):∃d,EF P kt pr f args s v d/\G d:=by have⟨n,e,c,a,h1,i,h2,h3⟩:=h;exact⟨a,aH k j g ⟨n,e,c,a,h1,i,h2,Y⟩,h3⟩
section
variable {a:TL}
def oT:Option (TL × AS)->Option AS
 | some (_,s)=>some s
 | none=>none
def goC (P:Program)(ops:Array Oper)(r:List Oper):Option (TL × AS)->Option (FuncId × Aq × AS)
 | some (a,s)=>match r with
  | o::_=>match o.op with
   | .call cl=>match cl.callee with
    | .value (.func g)=>if Region.wanted o (cg ops a)=true/\mc P (.func g)=false then some (g,#[]++cl.args.map a.at++#[],s) else none
    | _=>none
   | _=>none
  | []=>none
 | none=>none
def acx (r:List Oper)(a:TL)(v:Value):TL:=match r with
 | o::_=>a.put o.dst v
 | []=>a
end
def gG (x:Nq):Nat->Nat->TL
 | _,0=>[]
 | k,n+1=>x k::gG x (k+1) n
def wE{k:IntKind}{b:Bool}(h:decide (i>=j)=b):dV .geq (.int k i) (.int k j)=some (.bool b):=by unfold dV;simp only[ip];rw[h]
def cx{k:IntKind}{b:Bool}(h:decide (i<=j)=b):dV .leq (.int k i) (.int k j)=some (.bool b):=by unfold dV;simp only[ip];rw[h]
abbrev qY(l:Bq):Aq:=(strCells ⟨l.toArray⟩).toArray
def BW (s:AS)(N b:Nat)(l:Bq):Prop:=N<=b/\b<s.nx/\∃p sl,s.get b=some (.cells #[p,sl] 119)/\(p=.pointer none\/p=aC b 0)/\((sl=.slice none 0 0/\l=[])\/∃d fz,sl=.slice (some ⟨d,0,none⟩) l.length l.length/\N<=d/\d<s.nx/\d≠b/\s.get d=some (.cells (qY l) 5 fz))
def kU (N:Nat)(s s':AS):Prop:=s.nx<=s'.nx/\∀k,k<N->s'.get k=s.get k
def kU.refl:kU N s s:=⟨lr,λ_ _=>Y⟩
def kU.trans(h:kU N s s1)(a:kU N s1 s2):kU N s s2:=⟨lT h.1 a.1,λk b=>(a.2 k b).trans<|h.2 k b⟩
def kU.add{o:Obj}(h:N<=s.nx):kU N s (s.add o):=⟨iq,λk a=>by rw[AS.aZ,iw oq]⟩
def BW.add(h:BW s N b l)(o:Obj):BW (s.add o) N b l:=by
 have⟨h1,h2,p,e,h3,c,a⟩:=h;refine⟨h1,by simp;omega,p,e,by rw[AS.aZ,iw oq];exact h3,c,?_⟩;rcases a with a|⟨d,fz,q1,q2,q3,q4,q5⟩
 .exact .inl a
 .exact .inr ⟨d,fz,q1,q2,by simp;omega,q4,by rw[AS.aZ,iw oq];exact q5⟩
def ud(d:pr 261=none)(a:s.get b=some (.cells #[p,sl] 119))(f:p=.pointer none\/p=aC b 0):∃c,Ef pr 261 #[aC b 0] s (.tuple #[]) c/\c.nx=s.nx/\c.get b=some (.cells #[aC b 0,sl] 119)/\∀k,k≠b->c.get k=s.get k:=by
 refine aX d func261 Y<|aB<|eA kq<|jk 3 5 kq<|dY s kq<|bU kq (kO (off:=0) Y underlying117 Y kq a Y) ?_;rcases f with rfl|rfl
 .refine EO.fin 5 kq<|oy kq<|eA kq<|jk 2 5 kq<|dY s kq<|bU kq (ur Y kq<|Wv (k:=1) kq underlying117 underlying244 a kq iq)<|EO.q kq kq<|dY s kq<|bU kq (ur Y kq<|Ww (k:=1) kq underlying244 underlying117 a kq kq)<|jk 2 5 kq<|dY s kq<|bU kq (iH (off:=0) (w:=aC b 0) Y kq kq Y Y kq a iq)<|am ⟨.inl Y,kq,⟨Y,?_,λk e=>?_⟩⟩
  .rw[AS.aN,ip Y];rfl
  .rw[AS.aN,iw e]
 .exact EO.fin 5 kq<|mq kq<|aB<|eA kq<|jk 3 5 kq<|dY s kq<|bU kq (kO (off:=0) Y underlying117 Y kq a Y)<|jk 1 5 kq<|dY s kq<|bU kq (PS (b:=b) (k:=1) Y kq kq underlying117 kq)<|am<|mq kq<|EW.skip ⟨.inl Y,kq,Y,a,λk e=>Y⟩
def ot(l m:Bq):strCells ⟨l.toArray⟩++strCells ⟨m.toArray⟩=strCells ⟨(l++m).toArray⟩:=by show(l.map λb=>Value.int .u8 b.toNat)++(m.map λb=>Value.int .u8 b.toNat)=(l++m).map λb=>Value.int .u8 b.toNat;rw[Bf]
theorem B8(t:pr 261=none)(r:pr 156=none)(h:BW s N b l)(S:l.length+m.length<=1000000):∃o,Ef pr 156 #[aC b 0,str m] s (.tuple #[num m.length,.nilIface]) o/\BW o N b (l++m)/\kU N s o:=by
 have⟨E,R,p,sl,H,G,q⟩:=h;have⟨a,F,Q,g,j⟩:=ud t H G;refine aX r func156 Y<|aB<|eJ 5 kq<|aB<|eA kq<|jk 1 5 kq<|dY s kq<|dF #[aC b 0] kq Y Y kq kq F<|am<|aB<|eA kq<|jk 4 5 kq<|dY a kq<|bU kq (kO (b:=b) (off:=1) (v:=sl) Y underlying55 Y kq g Y)<|jk 1 5 kq<|dY a kq ?_;have c:∀(v:Value) (e:AS),v.cells=#[v]->v.oneCell'=true->ce prog 5 sl (strCells ⟨m.toArray⟩) m.length a=some (v,e)->e.get b=some (.cells #[aC b 0,sl] 119)->a.nx<=e.nx->(∀k,k<N->e.get k=a.get k)->((v=.slice none 0 0/\l++m=[])\/∃d f,v=.slice (sq d) (l++m).length (l++m).length/\N<=d/\d<e.nx/\d≠b/\e.get d=some (.cells (qY<|l++m) 5 f))->kQ sl=true->∃w U,ce prog 5 sl (strCells ⟨m.toArray⟩) m.length a=some (w,U)/\w.cells=#[w]/\w.oneCell'=true/\kQ sl=true/\U.get b=some (.cells #[aC b 0,sl] 119)/\BW (U.set b<|some<|.cells #[aC b 0,w] 119) N b (l++m)/\kU N s (U.set b<|some<|.cells #[aC b 0,w] 119):=by
  intro v e I J K L T M n O;refine⟨v,e,K,I,J,O,L,⟨E,by simp;omega,aC b 0,v,by rw[AS.aN,ip Y],.inr Y,?_⟩,by simp;omega,λk i=>?_⟩
  .rcases n with n|⟨d,f,q1,q2,q3,q4,q5⟩
   .exact .inl n
   .exact .inr ⟨d,f,q1,q2,by simpa using q3,q4,by rw[AS.aN,iw q4];exact q5⟩
  .rw[AS.aN,iw oq,M k i,j k oq]
 have u:∃w U,ce prog 5 sl (strCells ⟨m.toArray⟩) m.length a=some (w,U)/\w.cells=#[w]/\w.oneCell'=true/\kQ sl=true/\U.get b=some (.cells #[aC b 0,sl] 119)/\BW (U.set b<|some<|.cells #[aC b 0,w] 119) N b (l++m)/\kU N s (U.set b<|some<|.cells #[aC b 0,w] 119):=by
  cases m with
  | nil =>
   rcases q with ⟨rfl,rfl⟩|⟨d,f,rfl,q2,q3,q4,q5⟩
   .exact c _ a Y Y (yW<|.inl Y) g lr (λk i=>Y) (.inl ⟨Y,Y⟩) Y
   .refine c _ a Y Y (yW<|.inr ⟨d,_,_,Y⟩) g lr (λk i=>Y) (.inr ⟨d,f,by rw[List.append_nil],q2,oq,q4,by rw[j d q4,List.append_nil];exact q5⟩) Y
  | cons x m =>
   rcases q with ⟨rfl,rfl⟩|⟨d,f,rfl,q2,q3,q4,q5⟩
   .refine c _ _ Y Y (kI iq) (by rw[AS.aZ,iw oq];exact g) iq (λk i=>by rw[AS.aZ,iw oq]) (.inr ⟨a.nx,(1,1),Y,oq,iq,oq,by rw[AS.aZ,ip Y];rfl⟩) Y
   .have P:(qY l).size=l.length:=by simp[strCells]
    refine c _ _ Y Y (im (sz:=1) iq (by rw[j d q4];exact q5) kq gq oq) (by rw[AS.aZ,iw<|by simp;omega,AS.aN,iw<|Ne.symm q4];exact g) iq (λk i=>by rw[AS.aZ,iw<|by simp;omega,AS.aN,iw oq]) (.inr ⟨a.nx,(1,1),by rw[lA],oq,iq,oq,?_⟩) Y;rw[AS.aZ,ip iq];have:List.take (l.length*1) (qY l).toList=strCells ⟨l.toArray⟩:=gq
    rw[this,ot]
 have⟨w,U,e1,y,z,A,B,C,D⟩:=u;exact bU kq (Bu (sl:=sl) (m:=m) Y kq kq underlying55 underlying9 kq kq oq A e1)<|jk 2 5 kq<|dY U kq<|bU kq (iH (b:=b) (off:=1) Y kq kq y z kq B iq)<|am<|aB<|eA kq<|jk 1 5 kq<|bU kq (dL (l:=m) Y underlying9 kq)<|EO.fin 5 kq<|aD ⟨.inr Y,kq,⟨C,D⟩⟩
def xP(f:pr 84=none)(h:BW s N b l)(i:l≠[])(u:l.length<=1000000):∃m,Ef pr 84 #[aC b 0] s (str l) m/\kU N s m:=by
 have⟨o,r,p,x,j,w,a⟩:=h;rcases a with ⟨_,a⟩|⟨d,fz,rfl,q2,q3,q4,q5⟩
 .exact absurd a i
 obtain⟨c,l,rfl⟩:∃c n,l=c::n:=by
  cases l with
  | nil=>exact absurd Y i
  | cons c l=>exact⟨c,l,Y⟩
 refine aX f func84 Y<|aB<|eJ 5 kq<|aB<|aP kq kq kq ?_;iterate 2
  refine ET.q kq kq ?_
  refine ET.q kq kq ?_
  refine ET.q kq kq ?_
  refine ET.I9 s kq ?_
  refine ET.op kq (kO (off:=1) Y underlying55 Y kq j Y) ?_
  refine ET.q kq kq ?_
 refine ET.I9 s kq<|ET.op kq (Bz Y kq kq kq q5 kq iq oq)<|ET.q kq kq ?_;have g:bV prog 55 (aC b 1) s=some (.slice (sq d) (c::l).length (c::l).length):=by unfold bV;simp only[aC,j,underlying55];rfl
 refine bq ⟨fY [(bV prog 55 (aC b 1) s,.slice (sq d) (c::l).length (c::l).length),(bV prog 55 (aC b 1) s,.slice (sq d) (c::l).length (c::l).length)] kq<|by simp[bQ,g],_,_,_,_,_,_,Y,Y,aD ⟨.inr Y,kq,⟨lr,λk t=>?_⟩⟩⟩;show(s.set d none).get k=_;rw[AS.aN,iw oq]
section
variable {a:TL}{id:Nat}{y c:Code}{t:Operand}
def zr(k:EO P kt pr ops ops.toList a s λb c=>xV P kt pr y Q .normal b c)(h:oG ops=true:=by kernel_rfl):EW P kt pr (.seq (.region id ops false) y) a s Q:=aB<|eA h k
def zx(k:EO P kt pr ops ops.toList a s λb c=>Q .normal b c)(h:oG ops=true:=by kernel_rfl):EW P kt pr (.region id ops false) a s Q:=eA h k
def zf(k:K (oA<|eh P kt (ck P kt pr 9) ops rest a s) (oS<|eh P kt (ck P kt pr 9) ops rest a s))(h:Z5 (eh P kt (ck P kt pr 9) ops rest a s)=true:=by kernel_rfl):EO P kt pr ops rest a s K:=EO.fin 9 h k
def zs(k:xV P kt pr y Q .normal (cA<|gV P kt pr 9 c a s) (cS<|gV P kt pr 9 c a s))(h:cOk (gV P kt pr 9 c a s)=true:=by kernel_rfl):EW P kt pr (.seq c y) a s Q:=aB<|eJ 9 h k
def zg(k:Nat)(s':AS)(b:EO P kt pr ops (rest.drop k) (oA<|eh P kt (ck P kt pr 9) ops (rest.take k) a s) s' K)(h:oT (eh P kt (ck P kt pr 9) ops (rest.take k) a s)=some s':=by kernel_rfl):EO P kt pr ops rest a s K:=by
 generalize c:eh P kt (ck P kt pr 9) ops (rest.take k) a s=q at h b;obtain _|⟨a',s2⟩:=q
 .cases h
 .cases h;exact EO.run k 9 a' s' c b
def zk(k:Nat)(b:EO P kt pr ops (rest.drop k) (oA<|eh P kt (ck P kt pr 9) ops (rest.take k) a s) (oS<|eh P kt (ck P kt pr 9) ops (rest.take k) a s) K)(h:Z5 (eh P kt (ck P kt pr 9) ops (rest.take k) a s)=true:=by kernel_rfl):EO P kt pr ops rest a s K:=jk k 9 h b
def zc(k:Nat)(b:EF P kt pr g args s' v s1)(c:EO P kt pr ops (rest.drop<|k+1) (acx (rest.drop k) (oA<|eh P kt (ck P kt pr 9) ops (rest.take k) a s) v) s1 K)(h:goC P ops (rest.drop k) (eh P kt (ck P kt pr 9) ops (rest.take k) a s)=some (g,args,s'):=by kernel_rfl):EO P kt pr ops rest a s K:=by
 generalize i:eh P kt (ck P kt pr 9) ops (rest.take k) a s=q at h c;obtain _|⟨a',s2⟩:=q
 .cases h
 .rw[<-List.drop_drop] at c;refine EO.run k 9 a' s2 i ?_;generalize rest.drop k=r at h c;cases r with
  | nil=>cases h
  | cons o t =>
   simp only[goC] at h;split at h
   .next j d =>
    split at h
    .next l m =>
     split at h
     .next e =>cases h;exact dF _ e.1 d m e.2 Y b c
     .cases h
    .cases h
   .cases h
def za(s':AS)(k:EW P kt pr c a s' Q)(h:s=s':=by kernel_rfl):EW P kt pr c a s Q:=fe s' h k
def zo(s':AS)(k:EO P kt pr ops rest a s' K)(h:s=s':=by kernel_rfl):EO P kt pr ops rest a s K:=dY s' h k
def zt(s':AS)(k:ET P kt pr ops rest a s' KT)(h:s=s':=by kernel_rfl):ET P kt pr ops rest a s KT:=ET.I9 s' h k
def zF(k:Q .normal a s)(h:a.at t=.bool false:=by kernel_rfl):EW P kt pr (.cond t y .skip) a s Q:=mq h<|EW.skip k
def zT(k:Q .normal a s)(h:a.at t=.bool true:=by kernel_rfl):EW P kt pr (.cond t .skip y) a s Q:=oy h<|EW.skip k
def zG(k:EW P kt pr y a s Q)(h:a.at t=.bool false:=by kernel_rfl):EW P kt pr (.cond t c y) a s Q:=mq h k
def zH(k:EW P kt pr c a s Q)(h:a.at t=.bool true:=by kernel_rfl):EW P kt pr (.cond t c y) a s Q:=oy h k
def zq(k:ET P kt pr ops rest (a.put o.dst<|qV<|cf P kt (λ_ _ _=>none) a o s) (qS<|cf P kt (λ_ _ _=>none) a o s) λc=>KT ((a,qV<|cf P kt (λ_ _ _=>none) a o s,qS<|cf P kt (λ_ _ _=>none) a o s)::c))(h:Region.wanted o (cg ops a)=true:=by kernel_rfl)(b:qOk (cf P kt (λ_ _ _=>none) a o s)=true:=by kernel_rfl):ET P kt pr ops (o::rest) a s KT:=ET.q h b k
section
variable (e:cf P kt (λ_ _ _=>none) a o s=some (v,s1))
def zp(k:EO P kt pr ops rest (a.put o.dst v) s1 K)(h:Region.wanted o (cg ops a)=true:=by kernel_rfl):EO P kt pr ops (o::rest) a s K:=bU h e k
def zu(k:ET P kt pr ops rest (a.put o.dst v) s1 λb=>KT ((a,v,s1)::b))(h:Region.wanted o (cg ops a)=true:=by kernel_rfl):ET P kt pr ops (o::rest) a s KT:=ET.op h e k
end
end
end
section
open Go.Conc Go.RowKit Go.Lib Tryz
variable {n rn:Nat}{v:Value}{w w':World}{f:FuncId}{args:Aq}{pr:Prim}{ι:Type}{X:ι->Gq}{Hd:ι->Hq->World->Prop}
variable {c e e2 id k nm off z z1 z2:Nat}{pv sl:Value}{en l m p x:Bq}{o:Obj}{i j:Int}{b:Bool}{bL:Func}{args' cap yB:Aq}{nS:TL}
def vx (c:Nat):Bq:=if c<2048 then [UInt8.ofNat (192+c / 64),UInt8.ofNat<|128+c % 64] else if c<65536 then [UInt8.ofNat (224+c / 4096),UInt8.ofNat<|128+c / 64 % 64,UInt8.ofNat<|128+c % 64] else [UInt8.ofNat (240+c / 262144),UInt8.ofNat<|128+c / 4096 % 64,UInt8.ofNat<|128+c / 64 % 64,UInt8.ofNat<|128+c % 64]
theorem Zg(h:n<256):((UInt8.ofNat n).toNat:Int)=(n:Nat):=by rw[UInt8.toNat_ofNat'];grind
theorem np(c k:Nat):Int.fdiv (c:Int) (2 ^ k)=((c / 2 ^ k:Nat):Int):=gq
def Sg (c:Nat):Prop:=128<=c/\(c<55296\/(57343<c/\c<=1114111))
def qU (s:AS)(sl:Value)(l:Bq):Prop:=(sl=.slice none 0 0/\l=[])\/∃d fz,sl=.slice (some ⟨d,0,none⟩) l.length l.length/\d<s.nx/\s.get d=some (.cells (qY l) 5 fz)
def qU.add{s:AS}(h:qU s sl l)(o:Obj):qU (s.add o) sl l:=by
 rcases h with h|⟨d,fz,q1,q2,q3⟩
 .exact .inl h
 .exact .inr ⟨d,fz,q1,by simp;omega,by rw[AS.aZ,iw oq];exact q3⟩
def wz (s:AS)(sl:Value)(l m:Bq)(s3:AS)(w:Value):Prop:=∃g,w=.slice (some ⟨g,0,none⟩) (l++m).length (l++m).length/\s.nx<=g/\g<s3.nx/\s3.get g=some (.cells (qY<|l++m) 5 (1,1))/\∀k,k<s.nx->(∀n c,sl≠.slice (some ⟨k,0,none⟩) n c)->s3.get k=s.get k
theorem K8{s:AS}(h:qU s sl l)(i:m≠[])(g:l.length+m.length<=1000000000):∃w a,ce prog 5 sl (strCells ⟨m.toArray⟩) m.length s=some (w,a)/\wz s sl l m a w:=by
 have U:m.length≠0:=gq
 rcases h with ⟨rfl,rfl⟩|⟨d,fz,rfl,q2,q3⟩
 .exact⟨_,_,kI U,s.nx,iq,lr,iq,by rw[AS.aZ,ip I];rfl,λk c _=>by rw[AS.aZ,iw oq]⟩
 .have f:(qY l).size=l.length:=by simp[strCells]
  refine⟨_,_,im (sz:=1) U q3 kq gq oq,s.nx,by rw[lA],lr,iq,?_,λk c b=>?_⟩
  .rw[AS.aZ,ip iq];have:List.take (l.length*1) (qY l).toList=strCells ⟨l.toArray⟩:=gq
   rw[this,ot]
  .rw[AS.aZ,iw<|by simp;omega,AS.aN,iw<|λe=>b _ _<|by rw[e]]
theorem sZ{kt:TypeId->Bool}{c:gX}{a:TL}{s s':AS}{o:Oper}{x y:Operand}{d:Nat}{fz:Nat × Nat}(U:o.op=.call { callee:=.builtin .append,args:=#[x,y],argTypes:=#[55,55] })(l:a.at x=sl)(n:a.at y=.slice (sq d) m.length k)(e:kt 5=false)(q:s.get d=some (.cells (qY m) 5 fz))(b:ej sl (sq d)=true)(r:m.length<=1000000)(h:ce prog 5 sl (strCells ⟨m.toArray⟩) m.length s=some (v,s')):cf prog kt c a o s=some (v,s'):=by
 have j:cI prog a o=none:=by unfold cI;rw[U]
 have p:(qY m).size=m.length:=by simp[strCells]
 have f:fC s 1 (sq d) m.length=some (strCells ⟨m.toArray⟩):=by unfold fC;grind
 have g:(prog.info? 5).map (λi=>(i.zero,i.size,i.bytes))=some (some<|Value.int .u8 0,1,1):=kq
 unfold cf;rw[iw (by rw[U];simp[fR])];rw[U];simp only;rw[j];simp;rw[l,n];unfold gl;simp only[if_true];rw[underlying55];simp only;rw[g];simp only;rw[f];simp only;rw[ip ⟨rq,oq,oq,oq,e,b,by simp[strCells,Value.oneCell']⟩];exact h
variable {all:Iq}{s:AS}
def ng(h:qU s sl l)(a:s.nx<=k):ej sl (sq k)=true:=by
 rcases h with ⟨rfl,_⟩|⟨d,fz,rfl,q,_⟩
 .rfl
 .show(!d.beq k)=true;cases hb:d.beq k
  .rfl
  .exact absurd (iC hb) oq
def B7(h:c<=1114111):IntKind.u32.wrap (c:Int)=(c:Int):=by rw[IntKind.wrap_u32];omega
def VZ{x:Int}(a:n<64)(h:x % 64=(n:Int)):bits .or .u8 128 (bits .and .u8 (IntKind.u8.wrap x) 63)=((UInt8.ofNat<|128+n).toNat:Int):=by rw[Y9,Zg oq,h];omega
def Xh(a:n<32):bits .or .u8 192 (IntKind.u8.wrap (n:Int))=((UInt8.ofNat<|192+n).toNat:Int):=by rw[IntKind.wrap_u8,show(n:Int) % 256=n by omega,YF _ oq oq,Zg oq];omega
def Xi(a:n<16):bits .or .u8 224 (IntKind.u8.wrap (n:Int))=((UInt8.ofNat<|224+n).toNat:Int):=by rw[IntKind.wrap_u8,show(n:Int) % 256=n by omega,YG _ oq oq,Zg oq];omega
def Xj(a:n<8):bits .or .u8 240 (IntKind.u8.wrap (n:Int))=((UInt8.ofNat<|240+n).toNat:Int):=by rw[IntKind.wrap_u8,show(n:Int) % 256=n by omega,YH _ oq oq,Zg oq];omega
def eO{k:IntKind}(h:decide (i<j)=b):dV .lss (.int k i) (.int k j)=some (.bool b):=by unfold dV;simp[ip];rw[h]
def cM{k:IntKind}(h:(i != j)=b):dV .neq (.int k i) (.int k j)=some (.bool b):=by unfold dV;simp[ip];rw[h]
def wz.Bs{b:AS}{w:Value}(h:wz (s.add o) sl l m b w):wz s sl l m b w:=by have⟨g,h1,h2,h3,c,d⟩:=h;exact⟨g,h1,by simp at h2;omega,h3,c,λk e a=>(d k (by simp;omega) a).trans<|by rw[AS.aZ,iw oq]⟩
def Y5(sl:Value)(c:Nat)(tb:Bool)(x:Nq):TL:=[sl,.int .i32 (c:Int),x 2,x 3,x 4,.int .u32 (c:Int),x 6,x 7,x 8,x 9,x 10,x 11,x 12,x 13,x 14,x 15,x 16,x 17,x 18,x 19,x 20,x 21,x 22,x 23,x 24,.bool tb,x 26,x 27,x 28,x 29,x 30,x 31,x 32,x 33,x 34,x 35,x 36,x 37,x 38,x 39,x 40,x 41,x 42,x 43,x 44,x 45,x 46,x 47,x 48,x 49,x 50,x 51,x 52,x 53,x 54,x 55,x 56,x 57,x 58,x 59,x 60,x 61,x 62,x 63,x 64,x 65,x 66,x 67,x 68,x 69,x 70,x 71,x 72,x 73,x 74,x 75,x 76,x 77]
theorem I8(A:Sg c)(h:qU s sl l)(C:l.length<=999999996)(y:pr 346=none):∃a,∃w,Ef pr 346 #[sl,.int .i32 (c:Int)] s w a/\wz s sl l (vx c) a w:=by
 suffices hh:Ew pr (match f346.body with|some c=>c|none=>.skip) ((#[sl,.int .i32 (c:Int)]:Aq).toList++List.replicate (f346.ntmps-(#[sl,.int .i32 (c:Int)]:Aq).toList.length) undef) s (λe j s1=>(e=.normal\/e=.ret)/\∃w,wz s sl l (vx c) s1 w/\di prog f346 j s1=some w) by have⟨m,e,j,s1,h1,i,w,h3,z⟩:=hh;exact⟨s1,w,aH y func346 I ⟨m,e,j,s1,h1,i,z,I⟩,h3⟩
 have⟨B,r⟩:=A;refine zs<|zr<|zg 1 s<|bU (v:=.int .u32 (c:Int)) (s1:=s) kq ((show _=some (Value.int .u32<|IntKind.u32.wrap (c:Int),s) by kernel_rfl).trans<|by rw[B7 oq])<|zf<|za s<|aF<|zr<|zk 1 ?_;by_cases h1:c<2048
 .have i:vx c=[UInt8.ofNat (192+c / 64),UInt8.ofNat<|128+c % 64]:=by unfold vx;rw[ip h1]
  rw[i];refine zp (bz (u:=.int .u32 (c:Int)) (w:=.int .u32 2047) I kq kq<|cx (b:=true)<|tD oq)<|zf<|zH<|zr<|zg 4 s<|bU (s1:=s) kq ((show _=some (Value.int .u8<|bits .or .u8 192<|IntKind.u8.wrap<|Int.fdiv (c:Int)<|2 ^ 6,s) by kernel_rfl).trans<|by rw[np,Xh oq])<|zg 3 s<|bU (s1:=s) kq ((show _=some (Value.int .u8<|bits .or .u8 128<|bits .and .u8 (IntKind.u8.wrap (c:Int)) 63,s) by kernel_rfl).trans<|by rw[VZ (n:=c % 64) oq oq]) ?_;generalize UInt8.ofNat (192+c / 64)=U;generalize UInt8.ofNat (128+c % 64)=f;refine zg 1 (s.add<|.cells (qY [U,f]) 5) ?_;have⟨w,t,o,p⟩:=K8 (m:=[U,f]) (h.add<|.cells (qY [U,f]) 5) iq (by simp;omega);exact zp (sZ (m:=[U,f]) (d:=s.nx) (k:=2) (sl:=sl) I kq kq kq (by rw[AS.aZ,ip I]) (ng h lr) iq o)<|zf<|aD ⟨.inr I,w,p.Bs,by kernel_rfl⟩
 .refine zp (bz (u:=.int .u32 (c:Int)) (w:=.int .u32 2047) I kq kq<|cx (b:=false)<|fD oq)<|zf<|zG<|aB<|bn (Q:=λe j a=>e=.normal/\a=s/\∃x,j=Y5 sl c (decide (c<65536)) x) ?_ ?_
  .refine zr<|zk 1 ?_;rcases r with r|⟨r,a4⟩
   .rw[tD (show c<65536 by omega)];exact zp (bz (u:=.int .u32 (c:Int)) (w:=.int .u32 55296) I kq kq<|eO (b:=true)<|tD oq)<|zf<|zH<|EW.skip ⟨I,by kernel_rfl,bu kq⟩
   .refine zp (bz (u:=.int .u32 (c:Int)) (w:=.int .u32 55296) I kq kq<|eO (b:=false)<|fD oq)<|zf<|zG<|zx<|zk 1<|zp (bz (u:=.int .u32 57343) (w:=.int .u32 (c:Int)) I kq kq<|eO (b:=true)<|tD oq)<|zk 2<|zp (bz (u:=.int .u32 (c:Int)) (w:=.int .u32 65535) I kq kq<|cx (b:=decide (c<65536)) gq) ?_;generalize decide (c<65536)=D;exact zf ⟨I,by kernel_rfl,bu kq⟩
  rintro e j a ⟨rfl,rfl,x,rfl⟩;by_cases h2:c<65536
  .have i:vx c=[UInt8.ofNat (224+c / 4096),UInt8.ofNat<|128+c / 64 % 64,UInt8.ofNat<|128+c % 64]:=by unfold vx;rw[iw h1,ip h2]
   rw[i,tD h2];refine zH<|zr<|zg 4 a<|bU (s1:=a) kq ((show _=some (Value.int .u8<|bits .or .u8 224<|IntKind.u8.wrap<|Int.fdiv (c:Int)<|2 ^ 12,a) by kernel_rfl).trans<|by rw[np,Xi oq])<|zg 4 a<|bU (s1:=a) kq ((show _=some (Value.int .u8<|bits .or .u8 128<|bits .and .u8 (IntKind.u8.wrap<|Int.fdiv (c:Int)<|2 ^ 6) 63,a) by kernel_rfl).trans<|by rw[np,VZ (n:=c / 64 % 64) oq oq])<|zg 3 a<|bU (s1:=a) kq ((show _=some (Value.int .u8<|bits .or .u8 128<|bits .and .u8 (IntKind.u8.wrap (c:Int)) 63,a) by kernel_rfl).trans<|by rw[VZ (n:=c % 64) oq oq]) ?_;generalize UInt8.ofNat (224+c / 4096)=U;generalize UInt8.ofNat (128+c / 64 % 64)=f;generalize UInt8.ofNat (128+c % 64)=g;refine zg 1 (a.add<|.cells (qY [U,f,g]) 5) ?_;have⟨w,t,o,p⟩:=K8 (m:=[U,f,g]) (h.add<|.cells (qY [U,f,g]) 5) iq (by simp;omega);exact zp (sZ (m:=[U,f,g]) (d:=a.nx) (k:=3) (sl:=sl) I kq kq kq (by rw[AS.aZ,ip I]) (ng h lr) iq o)<|zf<|aD ⟨.inr I,w,p.Bs,by kernel_rfl⟩
  .have i:vx c=[UInt8.ofNat (240+c / 262144),UInt8.ofNat<|128+c / 4096 % 64,UInt8.ofNat<|128+c / 64 % 64,UInt8.ofNat<|128+c % 64]:=by unfold vx;rw[iw h1,iw h2]
   rw[i,fD h2];refine zG<|zr<|zk 1<|zp (bz (u:=.int .u32 (c:Int)) (w:=.int .u32 65535) I kq kq<|by unfold dV;simp only[ip];rw[(tD oq)])<|zk 2<|zp (bz (u:=.int .u32 (c:Int)) (w:=.int .u32 1114111) I kq kq<|cx (b:=true)<|tD oq)<|zf<|zH<|zr<|zg 4 a<|bU (s1:=a) kq ((show _=some (Value.int .u8<|bits .or .u8 240<|IntKind.u8.wrap<|Int.fdiv (c:Int)<|2 ^ 18,a) by kernel_rfl).trans<|by rw[np,Xj oq])<|zg 4 a<|bU (s1:=a) kq ((show _=some (Value.int .u8<|bits .or .u8 128<|bits .and .u8 (IntKind.u8.wrap<|Int.fdiv (c:Int)<|2 ^ 12) 63,a) by kernel_rfl).trans<|by rw[np,VZ (n:=c / 4096 % 64) oq oq])<|zg 4 a<|bU (s1:=a) kq ((show _=some (Value.int .u8<|bits .or .u8 128<|bits .and .u8 (IntKind.u8.wrap<|Int.fdiv (c:Int)<|2 ^ 6) 63,a) by kernel_rfl).trans<|by rw[np,VZ (n:=c / 64 % 64) oq oq])<|zg 3 a<|bU (s1:=a) kq ((show _=some (Value.int .u8<|bits .or .u8 128<|bits .and .u8 (IntKind.u8.wrap (c:Int)) 63,a) by kernel_rfl).trans<|by rw[VZ (n:=c % 64) oq oq]) ?_;generalize UInt8.ofNat (240+c / 262144)=U;generalize UInt8.ofNat (128+c / 4096 % 64)=f;generalize UInt8.ofNat (128+c / 64 % 64)=g;generalize UInt8.ofNat (128+c % 64)=q;refine zg 1 (a.add<|.cells (qY [U,f,g,q]) 5) ?_;have⟨w,t,o,p⟩:=K8 (m:=[U,f,g,q]) (h.add<|.cells (qY [U,f,g,q]) 5) iq (by simp;omega);exact zp (sZ (m:=[U,f,g,q]) (d:=a.nx) (k:=4) (sl:=sl) I kq kq kq (by rw[AS.aZ,ip I]) (ng h lr) iq o)<|zf<|aD ⟨.inr I,w,p.Bs,by kernel_rfl⟩
def wC(f:Sg c)(h:qU s sl l)(j:l.length<=999999996)(d:pr 346=none)(a:pr 275=none):∃e,∃w,Ef pr 275 #[sl,.int .i32 (c:Int)] s w e/\wz s sl l (vx c) e w:=by have⟨e,w,h1,h2⟩:=I8 f h j d;refine⟨e,w,?_,h2⟩;have⟨g,i⟩:=f;exact aH a func275 I<|zs<|aB<|zr<|zg 1 s<|bU kq ((show _=some (Value.int .u32<|IntKind.u32.wrap c,s) by kernel_rfl).trans<|by rw[B7 oq])<|zp (bz (u:=.int .u32 c) (w:=.int .u32 127) I kq kq<|cx<|fD oq)<|am<|zF<|zr<|zc 2 h1<|zf<|aD ⟨.inr I,by kernel_rfl,by kernel_rfl⟩
theorem GU{N b:Nat}{c:Int}(C:pr 261=none)(B:pr 180=none)(h:BW s N b l)(D:∀(s:AS) (sl:Value),qU s sl l->∃i,∃w,Ef pr 275 #[sl,.int .i32 c] s w i/\wz s sl l en i w):∃i v,Ef pr 180 #[aC b 0,.int .i32 c] s v i/\BW i N b (l++en)/\kU N s i:=by
 have⟨M,W,p,sl,S,Q,I⟩:=h;have⟨f,x,V,u,y⟩:=ud C S Q;have o:qU f sl l:=by
  rcases I with h|⟨d,fz,q1,q2,q3,q4,q5⟩
  .exact .inl h
  .exact .inr ⟨d,fz,q1,oq,(y d q4).trans q5⟩
 have H:∀n k,sl≠.slice (sq b) n k:=gq
 have F:∀k,k<N->∀n J,sl≠.slice (sq k) n J:=gq
 have E:∃n r,sl=.slice (match sl with|.slice a _ _=>a|_=>none) n r/\n=l.length:=gq
 obtain⟨j,w,G,g,rfl,g1,g2,g3,g4⟩:=D f sl o;have K:=(g4 b oq H).trans u;suffices hh:Ew pr (match f180.body with|some c=>c|none=>.skip) ((#[aC b 0,.int .i32 c]:Aq).toList++List.replicate (f180.ntmps-(#[aC b 0,.int .i32 c]:Aq).toList.length) undef) s (λe t f=>(e=.normal\/e=.ret)/\f=j.set b (some<|.cells #[aC b 0,.slice (sq g) (l++en).length (l++en).length] 119)/\∃w,di prog f180 t f=some w) by
  have⟨m,e,t,A,h1,O,h2,w,h3⟩:=hh;refine⟨A,w,aH B func180 rfl ⟨m,e,t,A,h1,O,h3,rfl⟩,?_,?_⟩
  .rw[h2];refine⟨M,by simp;omega,_,_,by rw[AS.aN,ip rfl],.inr rfl,.inr ⟨g,(1,1),rfl,oq,by simpa using g2,oq,by rw[AS.aN,iw oq];exact g3⟩⟩
  .rw[h2];exact⟨by simp;omega,λk P=>by rw[AS.aN,iw oq,g4 k oq<|F k P,y k oq]⟩
 refine zs<|zr<|zc 1 x<|am ?_;obtain⟨n,r,U,rfl⟩:=E;generalize R:(match sl with|.slice a _ _=>a|_=>none)=q at U;clear R;subst U;refine zr<|zg 3 f<|zp (kO (b:=b) (off:=1) rfl underlying55 rfl kq u rfl)<|zf<|za f<|zr<|zg 4 f<|zp (kO (b:=b) (off:=1) rfl underlying55 rfl kq u rfl)<|zc 1 G<|zg 2 j ?_;generalize (l++en).length=L;refine zp (iH (b:=b) (off:=1) (w:=.slice (sq g) L L) rfl kq kq rfl rfl kq K iq)<|am<|za (j.set b<|some<|.cells #[aC b 0,.slice (sq g) L L] 119) ?_;have z:(j.set b<|some<|.cells #[aC b 0,.slice (sq g) L L] 119).get b=some (.cells #[aC b 0,.slice (sq g) L L] 119):=by rw[AS.aN,ip rfl]
 generalize j.set b _=T at z;exact zr<|zg 3 T<|zp (kO (b:=b) (off:=1) rfl underlying55 rfl kq z rfl)<|zf<|aD ⟨.inr rfl,kq,.tuple #[.int .i64 (eU .i64<|(L:Int)-(l.length:Int)),.nilIface],kq⟩
variable {P:Program}{KT:TypeId->Prop}{An:eN}{s1:AS}
section
variable {N0:ι->Nat}{M:ι->World->Nat->Prop}{O:ι->Nat->Prop}{R:ι->Wq}{D:ι->World->World->Array Event->Prop}{kt:TypeId->Bool}
def WI (P:Program)(KT:TypeId->Prop)(An:eN)(X:ι->Gq)(Hd:ι->Hq->World->Prop)(c:Code)(aA:TL)(s:AS)(Q:Exit->TL->AS->Prop):Prop :=
 ∀(fn:FuncId) (S:eN) (l fr:Hq) (i:ι) (w:World) (a:Act) (Q':gY ι),gz P KT An S s l->Hd i (l++fr) w->AR (VR S) aA.toArray a.tmps->a.defers=[]->(∀b,s.nx<=b->S b=none) ->
  (∀e nS s' i' S' l' w' a',Q e nS s'->gz P KT An S' s' l'->Hd i' (l'++fr) w'->AR (VR S') nS.toArray a'.tmps->a'.defers=[]->(∀b,s'.nx<=b->S' b=none)->Q' i' e a' w')->iO X fn c i Q' a w
def WO (P:Program)(KT:TypeId->Prop)(An:eN)(X:ι->Gq)(Hd:ι->Hq->World->Prop)(ops:Array Oper)(k:Nat)(aA:TL)(s:AS)(Q:TL->AS->Prop):Prop :=
 ∀(fn:FuncId) (S:eN) (l fr:Hq) (i:ι) (w:World) (a:Act) (Q':gY ι),gz P KT An S s l->Hd i (l++fr) w->AR (VR S) aA.toArray a.tmps->a.defers=[]->(∀b,s.nx<=b->S b=none) ->
  (∀nS s' i' S' l' w' a',Q nS s'->gz P KT An S' s' l'->Hd i' (l'++fr) w'->AR (VR S') nS.toArray a'.tmps->a'.defers=[]->(∀b,s'.nx<=b->S' b=none)->Q' i' .normal a' w')->cP X fn ops (List.range' k<|ops.size-k) i Q' a w
variable {aA:TL}{Q:Exit->TL->AS->Prop}{K:TL->AS->Prop}{c x y:Code}{ops:Array Oper}{o:Oper}
theorem WI.of(Y:Cy P KT N0 M O R D X Hd)(hm:P.follows .mixedOrders=true)(FH:∀ t,kt t=false->¬ KT t)(hp:cR P KT An R D X Hd pr)(Jy:∀ (f:FuncId) (bL:Func),P.funcs[f]?=some bL->(bL.name == "runtime.NumGoroutine")=false)(h:EW P kt pr c aA s Q):WI P KT An X Hd c aA s Q:=by have⟨n,e,nS,s',h1,h2⟩:=h;intro fn S l fr i w a Q' hS hF hA hd tQ k;have ZO:=(Da hp.nx n).1 _ _ _ _ _ _ h1;refine((jM Y hm FH hp Jy n).1 c fn aA nS s s' e S l fr i w a Q' h1 hS hF hA hd (λb hb _=>tQ b hb) ?_).1;intro i' S' l' w' a' q1 q2 q3 q4 q5 q6;grind
def dM:=@WI.of
def Zb(P:Program)(KT:TypeId->Prop)(An:eN)(X:ι->Gq)(b:ι->Hq->World->Prop)(y:Code)(Q:Exit->TL->AS->Prop):Exit->TL->AS->Prop:=λe a s=>match e with
 | .normal=>WI P KT An X b y a s Q
 | e=>Q e a s
section
variable (Y:Cy P KT N0 M O R D X Hd)
def WI.seq(h:WI P KT An X Hd x aA s (Zb P KT An X Hd y Q)):WI P KT An X Hd (.seq x y) aA s Q:=by
 intro g S l j i w a z D B A E c k;refine cu Y.C Y.T<|h g S l j i w a _ D B A E c ?_;intro e b F m d n v f q o p r t u;cases e with
 | normal=>exact q g d n j m v f z o p r t u k
 | _=>exact k _ b F m d n v f q o p r t u
def cU:=@WI.seq
def WI.region(h:WO P KT An X Hd ops 0 aA s (λb e=>Q .normal b e)):WI P KT An X Hd (.region id ops false) aA s Q:=by intro j S l m i w a f p o n r d k;refine bv Y.C Y.T ?_;rw[List.range_eq_range'];exact h j S l m i w a f p o n r d λc e t g u v b q=>k .normal c e t g u v b q
end
def rA(h:k<n):List.range' k (n-k)=k::List.range' (k+1) (n-(k+1)):=by obtain⟨m,a⟩:∃m,n-k=m+1:=⟨n-k-1,by omega⟩;rw[a,List.range'_succ,show n-(k+1)=m by omega]
section
variable (Y:Cy P KT N0 M O R D X Hd)
def g9(q:∀t,kt t=false->¬KT t)(x:ops[k]?=some o)(D:∀(S:eN) (a:Act),An.le S->AR (VR S) aA.toArray a.tmps->gh S aA a o)(G:Region.wanted o (cg ops aA)=true)(h:cf P kt (λ_ _ _=>none) aA o s=some (v,s1))(I:WO P KT An X Hd ops (k+1) (aA.put o.dst v) s1 K):WO P KT An X Hd ops k aA s K:=by intro A S l B i w a y u C g E e J;have F:=vV (λf d s v M h=>by cases h) h;rw[rA (oF.1 x).1];refine pG Y q (λf d s v M h=>by cases h) x (by rw[kw g];exact G) (D S a u.an g) u C h (λb n _=>e b n) ?_;intro H z L O N m p c j r;refine I A z L B H O _ y c j (qo (g.mono m) r _) ?_ (λb n=>by rw[p b (.inr n)];exact e b oq) J;cases OZ:o.dst<;>exact E
def WO.load(F:ops[k]?=some o)(T:Region.wanted o (cg ops aA)=true){t:TypeId}{d:TypeDesc}{q:Tmp}{g:Nat}(n:o.op=.load t (.tmp q))(U:aA.at (.tmp q)=aC nm off)(u:An nm=some (g,z,e))(A:P.underlying t=some d)(m:d.isRow=false)(R:eW v=true)(h:∀i l w,Hd i l w->M i w g/\w.cell? ⟨g,off,none⟩=some v)(V:WO P KT An X Hd ops (k+1) (aA.put o.dst v) s K):WO P KT An X Hd ops k aA s K:=by
 intro H S l I i w a G D B r N y W;rw[rA (oF.1 F).1];have p:a.eval (.tmp q)=.pointer (some ⟨g,off,none⟩):=by have:=kX (x:=.tmp q) r rfl;rw[U] at this;have⟨g',z',e',h1,h2⟩:=this.ptr;rw[D.an _ _ u] at h1;cases h1;exact h2
 refine aM Y.C F (by rw[kw r];exact T) λc L Kx J=>?_;have b:=(Y.Z B).rely B L;have⟨j,E⟩:=h i _ c b;have Q:(execOp a.eval o).run P c=.ok (.value v) c:=by simp[execOp,n,p,Instr.loadAt,Instr.sureAddr,loadVar,jz A m,E]
 have O:(execOp a.eval o).events P c #[]=#[⟨.cell ⟨g,off,none⟩,false,false⟩]:=by simp[execOp,n,p,Instr.loadAt,Instr.sureAddr,loadVar,jz A m,lB A,events_load,E]
 rw[Q];refine J _ _ ⟨?_,V H S l I i c _ G D b (qo r (bD R) _) ?_ y W⟩
 .refine(Y.Z b).env.kZ ((Y.Z b).size b) (fw _) λev f=>?_;have f:=mem_listed f;rw[O] at f;simp at f;subst f;exact .inl ⟨_,rfl,j⟩
 .cases OZ:o.dst<;>exact N
def WO.nil(g:ops.size=k)(h:K aA s):WO P KT An X Hd ops k aA s K:=by intro n S l o i w a m e d c f b j;rw[g,Nat.sub_self,List.range'_zero];exact bO Y.C Y.T<|j aA s i S l w a h e d c f b
end
theorem lR.of(Y:Cy P KT N0 M O R D X Hd)(Jy:∀ (f:FuncId) (bL:Func),P.funcs[f]?=some bL->(bL.name == "runtime.NumGoroutine")=false){args:Array Value}{s':AS}(hf:P.funcs[f]?=some bL)(hb:bL.body=some c)(h:WI P KT An X Hd c (args.toList++List.replicate (bL.ntmps - args.toList.length) undef) s (λe a' s1 => (e=.normal\/e=.ret)/\di P bL a' s1=some v/\s1=s')):lR P KT An R D X Hd f args s v s':=by
 intro S l fr i w args' hS hF hA tQ;refine⟨bL,c,hf,Jy f bL hf,hb,h f S l fr i w _ _ hS hF ?_ I tQ ?_⟩
 .have:args.toList.length=args'.size:=by rw[<-hA.1]; simp
  have he:(args.toList++List.replicate (bL.ntmps-args.toList.length) undef).toArray=args++Array.replicate (bL.ntmps-args'.size) undef:=gq
  rw[he];exact (hA.append<|AR.replicate _ fx)
 .rintro e a1 s1 i' S' l' w' a' ⟨hex,hr,rfl⟩ h3 h4 h5 h6 _;refine⟨hex,h6,λaK XH=>?_⟩;have L5:=(Y.Z h4).rely h4 XH;have⟨v',hv,Jz⟩:=z9 Y h3 L5 h5 hr;exact⟨v',Jz.1,(Y.Z L5).env.kZ ((Y.Z L5).size L5) (fw _) λev FG=>Jz.2 ev<|mem_seen FG,S',l',h3,L5,hv⟩
end
def sx(c:pr 178=none)(h:(decide (p.length<=l.length)&&cZ (l.take p.length) p)=b):Ef pr 178 #[str l,str p] s (.bool b) s:=by
 refine aH c func178 I<|zs<|zr<|zk 1<|zp (dL (l:=l) I underlying9 kq)<|zk 1<|zp (dL (l:=p) I underlying9 kq) ?_;by_cases a:p.length<=l.length
 .refine zp (bz (u:=num l.length) (w:=num p.length) I kq kq<|fQ<|tD oq)<|zk 3<|zp (dL (l:=p) I underlying9 kq)<|zp (jr (l:=l) I underlying9 kq ((show _=bS l.length l.length none (some<|num p.length) by kernel_rfl).trans<|nV oq oq) I)<|zf<|aD ⟨.inr I,?_,by kernel_rfl⟩;rw[tD a,Bool.true_and] at h;rw[<-h];kernel_rfl
 .refine zp (bz (u:=num l.length) (w:=num p.length) I kq kq<|fQ<|fD oq)<|zf<|aD ⟨.inr I,?_,by kernel_rfl⟩;rw[fD a,Bool.false_and] at h;rw[<-h];kernel_rfl
def uT(c:pr 178=none)(a:pr 89=none)(h:(decide (p.length<=l.length)&&cZ (l.take p.length) p)=b):Ef pr 89 #[str l,str p] s (.bool b) s:=by exact aH a func89 I<|zs<|zr<|zk 2<|dF _ kq I I kq kq (sx c h)<|zf<|aD ⟨.inr I,kq,kq⟩
def Jj(a:pr 178=none)(c:pr 340=none)(h:(b=false/\(decide (p.length<=l.length)&&cZ (l.take p.length) p)=false/\x=l)\/(b=true/\l=p++x)):Ef pr 340 #[str l,str p] s (.tuple #[str x,.bool b]) s:=by
 refine aH c func340 I<|zs<|aB<|zr<|zk 2 ?_;rcases h with ⟨rfl,h,rfl⟩|⟨rfl,rfl⟩
 .exact dF _ kq I I kq kq (sx a h)<|zf<|kT 5 .ret kq ⟨.inr I,by kernel_rfl,by kernel_rfl⟩
 .exact dF #[str (p++x),str p] kq I I kq kq (sx (b:=true) a<|by simp[(dP p p).2 I])<|zf<|eJ 5 kq<|zr<|zk 2<|zp (dL (l:=p) I underlying9 kq)<|zp (jr (i:=p.length) I underlying9 kq ((show _=bS (p++x).length (p++x).length (some<|num p.length) none by kernel_rfl).trans<|ig oq<|by simp;omega)<|by rw[List.take_length,List.drop_left])<|zf<|aD ⟨.inr I,by kernel_rfl,by kernel_rfl⟩
def sb(a:pr 178=none)(d:pr 340=none)(c:pr 269=none)(h:(b=false/\(decide (p.length<=l.length)&&cZ (l.take p.length) p)=false/\x=l)\/(b=true/\l=p++x)):Ef pr 269 #[str l,str p] s (.tuple #[str x,.bool b]) s:=by exact aH c func269 I<|zs<|zr<|zk 2<|dF _ kq I I kq kq (Jj a d h)<|zf<|aD ⟨.inr I,kq,kq⟩
def o9:Bq->Bq->Option (Bq)
 | [],l=>some l
 | _::_,[]=>none
 | a::p,b::l=>if b.toNat.beq a.toNat then o9 p l else none
def nj:∀{p l r:Bq},o9 p l=some r->l=p++r
 | [],l,r,h=>by cases h;rfl
 | _::_,[],r,h=>by cases h
 | a::p,b::l,r,h=>by
  unfold o9 at h;split at h
  .next e=>rw[nj h,UInt8.toNat_inj.1<|iC e];rfl
  .cases h
theorem qa:∀{p l:Bq},o9 p l=none->(decide (p.length<=l.length)&&cZ (l.take p.length) p)=false
 | [],l,h=>by cases h
 | _::_,[],h=>iq
 | a::p,b::l,h=>by
  unfold o9 at h;have e1:decide ((a::p).length<=(b::l).length)=decide (p.length<=l.length):=iq
  have c:(b::l).take (a::p).length=b::l.take p.length:=I;rw[e1,c];unfold cZ;split at h
  .next e=>rw[ip e];exact qa h
  .grind
def Zh (args:Aq):Option Value:=match args.toList with
 | [.string x,.string p]=>some<|match o9 p.data.toList x.data.toList with
  | some r=>.tuple #[str r,.bool true]
  | none=>.tuple #[.string x,.bool false]
 | _=>none
def Zi (args:Aq):Option Value:=match args.toList with
 | [.string x,.string p]=>some<|.bool (o9 p.data.toList x.data.toList).isSome
 | _=>none
def YN:Prim:=kR 178 Zi<|kR 269 Zh bP
def Th:(decide (p.length<=l.length)&&cZ (l.take p.length) p)=(o9 p l).isSome:=by
 cases h:o9 p l with
 | none=>exact qa h
 | some r=>rw[nj h];simp[(dP p p).2 I]
section
variable {N0:ι->Nat}{M:ι->World->Nat->Prop}{O:ι->Nat->Prop}{R:ι->Wq}{D:ι->World->World->Array Event->Prop}
def s9:AS:=⟨[[none,some<|.cells dy.toArray 335]],2⟩
def sN (n:Nat):AS:=(SL.take n).foldl (λs e=>s.add<|.cells (LO e).toArray 334) s9
def nmI:Int->Nat
 | 38=>1
 | 60=>2
 | 62=>3
 | _=>4
def Sv(Y:Cy prog fa N0 M O R D X Hd)(g:∀b,2<=b->An b=none)(h1:An 1=some (1,z,e)){t:Bq}{c m:Int}(f:Z4 t=some (c,m))(k:Int):(sN<|nmI c).get 1=some (.cells dy.toArray 335)/\lR prog fa An R D X Hd 333 #[str t,num k] s9 (.tuple #[.int .i32 c,num m]) (sN<|nmI c):=by
 have i:cR prog fa An R D X Hd YN:=by
  refine cR.add Y kq cB cm (m:=2) g (cR.add Y kq cB cm (m:=2) g (nG Y) λa v h=>?_) λa v h=>?_
  .unfold Zh at h;split at h
   .next x p d =>
    rw[sP d];cases hc:o9 p.data.toList x.data.toList with
    | none=>simp only[hc] at h;cases h;exact⟨I,I,_,sb I I I<|.inl ⟨I,qa hc,I⟩⟩
    | some r=>simp only[hc] at h;cases h;exact⟨I,I,_,sb I I I<|.inr ⟨I,nj hc⟩⟩
   .cases h
  .unfold Zi at h;split at h
   .next x p d =>cases h;rw[sP d];exact⟨I,I,_,sx I Th⟩
   .cases h
 unfold Z4 at f;split at f;iterate 4
  .cases f;refine⟨kq,?_⟩
   .refine lR.of Y cm func333 I ?_;iterate 2 refine cU Y<|dM Y kq cB i cm<|eJ 5 kq ?_
    refine cU Y<|cU Y<|WI.region Y<|g9 Y cB (v:=.agg dy.toArray) (s1:=s9) I (λS a h j x d=>?_) kq kq ?_
    .simp[Op.operands] at d;subst d;exact dj<|h _ _ h1
    refine g9 Y cB (v:=num 0) (s1:=s9) I (λS a h j x d=>?_) kq kq ?_
    .simp[Op.operands] at d;subst d;exact bD I
    exact WO.nil Y I<|dM Y kq cB i cm<|kT 60 .ret kq ⟨.inr I,kq,kq⟩
 .cases f
def jl{P:Program}{KT:TypeId->Prop}{s:AS}{b:eN}{s':AS}(e:b.le An)(h:Sound P KT b R D X Hd f args s v s'):Sound P KT An R D X Hd f args s v s':=by intro S l m i w a c o n d;refine(h S l m i w a ⟨c.live,c.inj,c.lt,cQ e c.an⟩ o n d).mono ?_;rintro u x y ⟨k,p,j,q,g,r,t⟩;exact⟨k,p,j,q,⟨g.live,g.inj,g.lt,cQ c.an j⟩,r,t⟩
theorem Ns(b:Nat):s9.get b=if b=1 then some (.cells dy.toArray 335) else none:=by
 match b with
 | 0=>rfl
 | 1=>rfl
 | b+2 =>unfold AS.get s9;grind
def E8(Y:Cy prog fa N0 M O R D X Hd)(h1:An 1=some (1,z,e)){x:ByteArray}{c m:Int}(j:Z4 x.data.toList=some (c,m))(k:Int){s:AS}(i:s.get 1=some (.cells dy.toArray 335)):Sound prog fa An R D X Hd 333 #[.string x,.int .i64 k] s (.tuple #[.int .i32 c,.int .i64 m]) s:=by
 obtain⟨A,g,a,f⟩:∃A:eN,(∀b,2<=b->A b=none)/\A 1=some _/\A.le An:=⟨λb=>if b=1 then An b else none,λb d=>iw oq,by simpa using h1,λb y h=>by
  by_cases d:b=1
  .simpa[d] using h
  .simp[d] at h⟩;have⟨g1,g2⟩:=Sv Y g a j k;exact jl f<|ms (m:=2) Y a g kq Ns I g1 i I I g2
end
def BF (rn:Nat)(L:Iq):Prim:=λf=>if f.beq 92 then none else jf rn L f
section
variable {N0:ι->Nat}{M:ι->World->Nat->Prop}{O:ι->Nat->Prop}{R:ι->Wq}{D:ι->World->World->Array Event->Prop}
def yj(Y:Cy P KT N0 M O R D X Hd){m:Nat}{s1:AS}(e:∀b,k<=b->An b=none)(r:∀(S:eN) a,An.le S->AR (VR S) args a->AR (VR An) args a)(j:gA m v=true)(h:Sound P KT An R D X Hd f args ⟨[],k⟩ v s1):Sound P KT An R D X Hd f args s v s:=by
 intro S l n i w a g q p t;have d:∀b o,(⟨[],k⟩:AS).get b=some o->False:=λb o c=>by unfold AS.get at c;simp at c
 refine(h An [] _ i w a ⟨λb o c=>(d b o c).elim,λb A o E x K c=>(d b o c).elim,λb o c=>(d b o c).elim,aQ An⟩ q (r S a g.an p) λb c _=>e b c).mono ?_;rintro B I J ⟨z,C,F,G,H,u,y⟩;refine⟨S,l,aQ S,λ_ _=>W,g,nw Y u,?_⟩;rw[iT j y];exact eL j
end
def AQ (c:Nat):Bq:=if c<128 then [UInt8.ofNat c] else vx c
theorem sv{r:Int}(h:Good r):∃c:Nat,r=(c:Int)/\(c<128\/Sg c)/\Lib.encodeRune r=AQ c:=by
 have U:0<=r:=by rcases h with h|h<;>omega
 obtain⟨c,rfl⟩:=Int.eq_ofNat_of_zero_le U;have a:c<55296\/(57343<c/\c<=1114111):=by rcases h with h|h<;>omega
 refine⟨c,I,?_,?_⟩
 .by_cases h1:c<128
  .exact .inl h1
  .exact .inr ⟨oq,a⟩
 .unfold AQ vx Lib.encodeRune;split
  .next h1=>rw[Lib.encodeRuneZ_one oq oq];simp
  .next h1 =>
   split
   .next h2 =>rw[Lib.encodeRuneZ_two oq oq];grind
   .next h2 =>
    split
    .next h3 =>rw[Lib.encodeRuneZ_three oq];grind
    .next h3 =>rw[Lib.encodeRuneZ_four oq oq];grind
def tV(n:c<128)(h:qU s sl l)(o:l.length<=999999996)(a:pr 275=none):∃f,∃w,Ef pr 275 #[sl,.int .i32 (c:Int)] s w f/\wz s sl l [UInt8.ofNat c] f w:=by
 have e:IntKind.u8.wrap (c:Int)=((UInt8.ofNat c).toNat:Int):=by rw[IntKind.wrap_u8,Zg oq];omega
 generalize UInt8.ofNat c=b at e;have⟨w,j,g,i⟩:=K8 (m:=[b]) (h.add<|.cells (qY [b]) 5) iq (by simp;omega);exact⟨j,w,aH a func275 I<|zs<|aB<|zr<|zk 1<|zo s<|bU kq ((show _=some (Value.int .u32<|IntKind.u32.wrap (c:Int),s) by kernel_rfl).trans<|by rw[B7 oq])<|zp (bz (u:=.int .u32 (c:Int)) (w:=.int .u32 127) I kq kq<|cx<|tD oq)<|am<|zH<|zr<|zk 2<|zo s<|bU kq ((show _=some (Value.int .u8<|IntKind.u8.wrap (c:Int),s) by kernel_rfl).trans<|by rw[e])<|zk 1<|zo _<|zp (sZ (k:=1) I kq kq kq (by rw[AS.aZ,ip I]) (ng h lr) iq g)<|zf (aD ⟨.inr I,by kernel_rfl,by kernel_rfl⟩),i.Bs⟩
def Ag{b:Nat}{p:Value}(a:pr 84=none)(d:s.get b=some (.cells #[p,.slice none 0 0] 119)):Ef pr 84 #[aC b 0] s (str []) s:=by
 refine aH a func84 I<|zs<|aB<|aP kq kq kq<|zq<|zq<|zq<|zt s<|zu (kO (off:=1) I underlying55 I kq d I)<|zq<|zq<|zq<|zq<|zt s<|zu (kO (off:=1) I underlying55 I kq d I) ?_;iterate 3 refine zq ?_
 have c:bV prog 55 (aC b 1) s=some (.slice none 0 0):=by unfold bV;simp only[aC,d,underlying55];rfl
 exact bq ⟨fY [(bV prog 55 (aC b 1) s,.slice none 0 0),(bV prog 55 (aC b 1) s,.slice none 0 0)] kq<|by simp[bQ,c],_,_,_,_,_,_,I,I,aD ⟨.inr I,kq,kq⟩⟩
def U3 (rn i j b p:Nat)(x:Nq):TL:=[aC rn 0,num i,num j,x 3,x 4,x 5,str [],aC b 0,num p]++gG x 9 17
theorem Sm:(k<all.length/\∃r,all[k]?=some r/\all[k]?.getD (-1)=r)\/(all.length<=k/\all[k]?.getD (-1) = -1):=gq
def Ao(l:Iq)(r:Int):aS (l++[r])=aS l++Lib.encodeRune r:=by simp[aS]
def Ey(l:Iq):(aS l).length<=4*l.length:=by
 induction l with
 | nil=>simp[aS]
 | cons r l a =>
  have h:(Lib.encodeRune r).length<=4:=by unfold Lib.encodeRune;rw[List.length_map];exact(Lib.encodeRuneZ_length r).2
  simp[aS,List.flatMap_cons,lA,lC] at a |-;omega
theorem Kd(E:∀r∈all,Good r)(W:4*all.length<=1000000)(i j:Nat)(T:j<=1000000):∃B,Ef (BF rn all) 92 #[aC rn 0,num i,num j] s (str<|aS<|(all.drop i).take<|j-i) B:=by
 suffices hh:∃B,Ef (BF rn all) 92 #[aC rn 0,num i,num j] s (str<|aS<|(all.drop i).take<|j-i) B/\True by grind
 have M:BW (s.add<|.cells _ 119) s.nx s.nx []:=⟨lr,by simp,.pointer none,.slice none 0 0,by rw[AS.aZ,ip rfl],.inl rfl,.inl ⟨rfl,rfl⟩⟩;refine aX kq func92 rfl ?_;iterate 2 refine zs ?_
 refine aB<|zs<|za (s.add<|.cells #[.pointer none,.slice none 0 0] 119)<|aV (U3 rn i j s.nx i) kq ?_;intro O;refine aF<|bn (bw (Q:=λe o a=>e=.exit 0/\∃d,((d=0/\a=s.add (.cells #[.pointer none,.slice none 0 0] 119))\/(d≠0/\BW a s.nx s.nx (aS<|(all.drop i).take d)))/\(d=0\/i+d<=all.length)/\(all.drop i).take d=(all.drop i).take (j-i)/\∃x,o=U3 rn i j s.nx (i+d) x) (λm o a=>∃d,m+d=j-i/\((d=0/\a=s.add (.cells _ 119))\/(d≠0/\BW a s.nx s.nx (aS<|(all.drop i).take d)))/\(d=0\/i+d<=all.length)/\∃x,o=U3 rn i j s.nx (i+d) x) ?_ (j-i) _ _ ⟨0,by omega,.inl ⟨rfl,rfl⟩,.inl rfl,O,rfl⟩) ?_
 .rintro m o a ⟨d,V,U,t,x,rfl⟩;have g:EF prog kg (BF rn all) 146 #[aC rn 0,num (i+d)] a (.int .i32<|all[(i+d)]?.getD (-1)) a:=by
   refine gp I ?_
   simp only [aC]
   grind
  refine aB<|zr<|zk 2 ?_;by_cases K:i+d<j
  .refine zp (bz (u:=num ((i+d:Nat):Int)) (w:=num j) rfl kq kq<|bE (b:=true)<|tD oq)<|zk 3<|zo a<|dF _ kq rfl rfl kq kq g ?_;rcases Sm (all:=all) (k:=i+d) with ⟨v,r,hr,hrD⟩|⟨v,hrD⟩
   .rw[hrD] at g |-;have H:=E r<|mG hr;obtain⟨c,rfl,l,y⟩:=sv H;have A:BW a s.nx s.nx (aS<|(all.drop i).take d):=by
     rcases U with ⟨rfl,rfl⟩|⟨_,h⟩
     .exact M
     .exact h
    have F:=Ey<|(all.drop i).take d;have n:((all.drop i).take d).length+1<=all.length:=gq
    have⟨N,v2,L,C,P⟩:=GU (pr:=BF rn all) (en:=AQ c) (c:=(c:Int)) kq kq A (λs Y f=>by
     unfold AQ;rcases l with l|l
     .rw[ip l];exact tV l f oq kq
     .rw[iw (by have:=l.1;omega)];exact wC l f oq kq kq);have q:(all.drop i).take (d+1)=(all.drop i).take d++[(c:Int)]:=by rw[List.take_add_one,LA,hr];rfl
    rw[<-y,<-Ao,<-q] at C;exact zp (bz (u:=.int .i32 (c:Int)) (w:=.int .i32<|-1) rfl kq kq<|cM (b:=true)<|bne_iff_ne.2 oq)<|zf<|zT<|za a<|aB<|aF<|zx<|zc 2 g<|zo a<|dF _ kq rfl rfl kq kq L<|am<|za N<|zx<|zk 1<|zp (jY (i:=((i+d:Nat):Int)) (j:=1) (r:=((i+(d+1):Nat):Int)) rfl kq kq oq oq)<|zf ⟨m-1,by omega,d+1,by omega,.inr ⟨oq,C⟩,.inr oq,bu kq⟩
   .rw[hrD];exact zf<|za a<|zG<|aR ⟨rfl,d,U,t,by rw[tL gq,tL gq],bu kq⟩
  .exact zp (bz (u:=num ((i+d:Nat):Int)) (w:=num j) rfl kq kq<|bE (b:=false)<|fD oq)<|zf<|za a<|zG<|aR ⟨rfl,d,U,t,by rw[show d=j-i by omega],bu kq⟩
 .rintro e o a ⟨rfl,d,U,t,q,x,rfl⟩;rw[q] at U;rcases U with ⟨rfl,rfl⟩|⟨hd,hb⟩
  .rw[<-q,List.take_zero];exact zr<|zc 0 (Ag (b:=s.nx) (p:=.pointer none) kq<|by rw[AS.aZ,ip rfl])<|zf<|aD ⟨.inr rfl,by kernel_rfl,trivial⟩
  .have I:aS ((all.drop i).take<|j-i)≠[]:=by
    rw[<-q];intro e;have J:i+d<=all.length:=t.resolve_left hd;obtain⟨z,rfl⟩:∃z,d=z+1:=⟨d-1,by omega⟩;have v:i+z<all.length:=oq
    rw[List.take_add_one,LA,gE v] at e;simp only[Option.toList_some] at e;rw[Ao] at e;have⟨c,_,_,y⟩:=sv<|E _<|zB v;rw[y] at e
    have:1<=(AQ c).length/\(AQ c).length<=4:=by unfold AQ vx;grind
    have S:=(List.append_eq_nil_iff.1 e).2;grind
   have F:=Ey<|(all.drop i).take<|j-i;have n:((all.drop i).take<|j-i).length<=all.length:=gq
   have⟨X,D,R⟩:=xP (pr:=BF rn all) kq hb I oq;generalize aS ((all.drop i).take<|j-i)=Z at D |-;exact zr<|zc 0 D<|zf<|aD ⟨.inr rfl,by kernel_rfl,trivial⟩
variable {l:Hq}{N Pb B Rb:Nat}{Shun Mz:Loc->Prop}{val:Value}{Ex:Nat->Prop}{w₀ aK:World}
section
variable {Az:Gq}{i:Ph}
variable [ConcR.Payload][ConcX.Payload]
variable [ConcX.Shy (Cfg.Wg<|aJ prog N Pb Shun val B Mz) (Cfg.C<|aJ prog N Pb Shun val B Mz)]
def cyM(F:Cfg.Fit (aJ prog N Pb Shun val B Mz)):Cy prog fa (λ_=>N+9) (λ_=>dK<|aJ prog N Pb Shun val B Mz) (λ_=>jZ<|aJ prog N Pb Shun val B Mz) (rK<|aJ prog N Pb Shun val B Mz) (yT<|aJ prog N Pb Shun val B Mz) (XM (aJ prog N Pb Shun val B Mz) Az) (λi l w=>HX (aJ prog N Pb Shun val B Mz) Ex w₀ all Rb i l w) where
 C:=XM.closed (K:=aJ prog N Pb Shun val B Mz)
 T:=uA
 ne:=H9
 Z h:=HX.co F h
theorem Il(F:Cfg.Fit (aJ prog N Pb Shun val B Mz))(J:∀r∈all,Good r)(L:4*all.length<=1000000){e1:Nat}(h1:An rn=some (Rb,z1,e1))(h2:An 1=some (1,z2,e2)) :
  cR prog fa An (rK<|aJ prog N Pb Shun val B Mz) (yT<|aJ prog N Pb Shun val B Mz) (XM (aJ prog N Pb Shun val B Mz) Az) (λi l w=>HX (aJ prog N Pb Shun val B Mz) Ex w₀ all Rb i l w) (BF rn all):=by
 have Y:=cyM (Az:=Az) (Ex:=Ex) (w₀:=w₀) (all:=all) (Rb:=Rb) F;constructor
 .intro f g a s v c b h;unfold BF at b;split at b
  .cases b
  .exact te rn all f g a s v c b h
 .intro f g m s v M U h;unfold BF at U;split at U
  .cases U
  next p =>
  unfold jf at U;split at U
  .cases U;simp only at h;split at h
   .next b k d =>
    split at h
    .next j =>
     obtain⟨rfl,K⟩:=j;cases h;rw[sP d];refine Sound.same Y W λS l I i w a D C A=>?_;obtain⟨O,P,rfl,G,H⟩:=QY A;obtain⟨g,z,e,o,rfl⟩:=G.ptr;rw[D.an _ _ h1] at o;cases o;rw[H.sc W]
     have:=HX.at (Az:=Az) F oq C k.toNat;grind
    .cases h
   .cases h
  .cases p W
  .cases U;simp only at h;split at h
   .next x k d =>
    split at h
    .next y q =>
     split at h
     .next j =>
      split at h
      .next c n u =>
       cases h;rw[sP d];have t:y=dy.toArray:=by apply wu.1;simp[wQ j]
       subst t;exact E8 Y h2 u k q
      .cases h
     .cases h
    .cases h
   .cases h
  .exact (nG Y).sound _ _ _ _ _ _ U h
theorem Nh(F:Cfg.Fit (aJ prog N Pb Shun val B Mz))(A:∀r∈all,Good r)(C:4*all.length<=1000000){e1:Nat}(h1:An rn=some (Rb,z1,e1))(h2:An 1=some (1,z2,e2))(Z:1<rn) :
  cR prog fa An (rK<|aJ prog N Pb Shun val B Mz) (yT<|aJ prog N Pb Shun val B Mz) (XM (aJ prog N Pb Shun val B Mz) Az) (λi l w=>HX (aJ prog N Pb Shun val B Mz) Ex w₀ all Rb i l w) (jf rn all):=by
 have Y:=cyM (Az:=Az) (Ex:=Ex) (w₀:=w₀) (all:=all) (Rb:=Rb) F;refine⟨te rn all,λf g a s v W E h=>?_⟩;by_cases o:f=92
 .subst o;cases E;simp only at h;split at h
  .next b T V ha =>
   split at h
   .next D =>
    obtain⟨rfl,O,P,X⟩:=D;cases h;have:a=#[.pointer (sq b),.int .i64 T,.int .i64 V]:=gq
    rw[this];obtain⟨i,rfl⟩:=Int.eq_ofNat_of_zero_le O;obtain⟨j,rfl⟩:=Int.eq_ofNat_of_zero_le P;have⟨s1,n,Q⟩:=Kd (rn:=b) (s:=⟨[],b+1⟩) A C i j oq;obtain⟨U,I,q,J,K⟩:∃U:eN,U.le An/\U b=some (Rb,z1,e1)/\U 1=some (1,z2,e2)/\∀c,b+1<=c->U c=none:=by
     refine⟨λc=>if c=1\/c=b then An c else none,λc x d=>?_,?_,?_,λc D=>?_⟩
     .grind
     .simpa using h1
     .simpa using h2
     .grind
    refine jl I<|yj Y K (λS t M L=>?_) (m:=1) rfl<|(jM Y kq cB (Il F A C q J) cm n).2 _ _ _ _ _ Q;obtain⟨x',y',z',rfl,d,p,R⟩:=Wo L;obtain⟨g,z,e,G,rfl⟩:=d.ptr;rw[M _ _ q] at G;cases G;rw[p.sc rfl,R.sc rfl];refine⟨rfl,λk x y d p=>?_⟩;match k with
    | 0=>cases d;cases p;exact dj q
    | 1=>cases d;cases p;exact bD rfl
    | 2=>cases d;cases p;exact bD rfl
    | k+3=>simp at d
   .cases h
  .cases h
 .exact (Il F A C h1 h2).sound f g a s v W (by unfold BF;rw[iw (by intro e;exact o<|iC e)];exact E) h
end
def oL:Obj->Bool
 | .cells _ t _=>!(t.beq 175)&&!(t.beq 21)
 | .chan _ _ _ _ _ _=>false
 | _=>true
section
variable {S:eN}
def gz.UC(h:gz P KT An S s l)(c:∀b o,s1.get b=some o->s.get b=some o/\oL o=true)(i:s.nx<=s1.nx):gz P KT An S s1 (l.filter λx=>oL x.2) where
 live b o hb:=by
  have⟨h1,h2⟩:=c b o hb
  have⟨g,z,e,d,j,k,a,m⟩:=h.live b o h1
  refine⟨g,z,e,d,j,List.mem_filter.2 ⟨k,?_⟩,a,m⟩
  unfold OR at a
  split at a
  .
   obtain⟨f,rfl,_⟩:=a;exact h2
  .
   subst a;rfl
  .
   cases h2
  .
   exact a.elim
 inj b b' o d x x' hb uU:=h.inj b b' o d x x' (c b o hb).1 (c b' d uU).1
 lt b o hb:=lL (h.lt b o (c b o hb).1) i
 an:=h.an
end
structure HRd(w₀:World)(N Pb:Nat)(Sh:Nat->Prop)(sR:AS)(S0 An:eN)(l0:Hq):Prop where
 size:w₀.heap.size=N
 yM:gz prog fa An S0 sR l0
 own:∀b o,(b,o)∈l0->b<N/\b≠Pb/\¬Sh b/\w₀.heap[b]?=some o
 nd:(l0.map Prod.fst).Nodup
 tight:∀b o,(b,o)∈l0->∃nm ob z e,sR.get nm=some ob/\S0 nm=some (b,z,e)
structure nQ(w₀:World)(N:Nat)(Ek:Nat->Prop)(w:World):Prop where
 tape:w.tape=w₀.tape
 os:w.os=w₀.os
 output:w.output=w₀.output
 size:N+9<=w.heap.size
 old:∀b,b<N->¬Ek b->w.heap[b]?=w₀.heap[b]?
def QT (w:World):Prop:=3<w.heap.size/\w.cell? ⟨2,239,none⟩=some (.int .u8 3)/\w.cell? ⟨3,0,none⟩=some (.int .u8 128)/\w.cell? ⟨3,1,none⟩=some (.int .u8 191)
def QT.of(h:QT w)(e:w.heap.size<=w'.heap.size)(h2:w'.heap[2]?=w.heap[2]?)(h3:w'.heap[3]?=w.heap[3]?):QT w':=by
 have⟨a,b,c,d⟩:=h;refine⟨oq,?_,?_,?_⟩
 .rw[<-b];unfold World.cell?;rw[h2]
 .rw[<-c];unfold World.cell?;rw[h3]
 .rw[<-d];unfold World.cell?;rw[h3]
def Tb {ι:Type}(M:ι->World->Nat->Prop)(Hd:ι->Hq->World->Prop):Prop:=∀i l w,Hd i l w->M i w 2/\M i w 3/\QT w
section
variable {Ek:Nat->Prop}{l0:Hq}{sR s':AS}{S0:eN}{Sh:Nat->Prop}
def nQ.low(h:nQ w₀ N Ek w)(h1:w'.tape=w.tape)(h2:w'.os=w.os)(h3:w'.output=w.output)(h4:w.heap.size<=w'.heap.size)(hb:∀b,b<N->¬Ek b->w'.heap[b]?=w.heap[b]?):nQ w₀ N Ek w' :=
 ⟨h1.trans h.tape,h2.trans h.os,h3.trans h.output,lT h.size h4,λb h5 h6=>(hb b h5 h6).trans<|h.old b h5 h6⟩
def nQ.rm(F:Cfg.Fit (aJ prog N Pb Shun val B Mz))(h:nQ w₀ N Ek w)(r:RM (aJ prog N Pb Shun val B Mz) w aK):nQ w₀ N Ek aK:=h.low r.tape r.os r.output r.size λb a _=>(C4 F).PY r (Be a)<|by have:=h.size;omega
def nQ.kept(h:nQ w₀ N Ek w)(c:∀b,Ex b->N<=b)(k:Kept (dK<|aJ prog N Pb Shun val B Mz) (jZ<|aJ prog N Pb Shun val B Mz) Ex w w'):nQ w₀ N Ek w':=h.low k.tape k.os k.output k.grow λb a _=>k.low b (Be a) (by have:=h.size;omega) λz=>by have:=c b z;omega
def nQ.aside(h:nQ w₀ N Ek w)(r:ConcX.Aside2 N (N+6) w aK):nQ w₀ N Ek aK:=h.low r.tape r.os r.output (by rw[r.size];exact lr) λb a _=>r.block b oq oq
theorem nQ.alloc(h:nQ w₀ N Ek w)(o:Obj):nQ w₀ N Ek (w.alloc o):=h.low I I I (by simp_all) λb U _=>Below.heap_alloc _ _ _<|by have:=h.size;omega
def nC(l0:Hq)(b:Nat):Prop:=∃o,(b,o)∈l0
def TbW (w₀:World)(N Pb:Nat)(a:Nat->Prop)(c:Hq):Prop:=QT w₀/\∀b,b=2\/b=3->b<N/\b≠Pb/\¬a b/\¬nC c b
def Wd(K:Cfg)(w₀:World)(N:Nat)(sR s1:AS)(S0:eN)(l0:Hq)(Rb:Nat)(w:World):Prop :=
 ∃S' l',gz prog fa S0 S' s1 l'/\(∀b,b<sR.nx\/s1.nx<=b->S' b=S0 b)/\(l'.map Prod.fst).Nodup/\(∀b o,(b,o)∈l'->dK K w b/\w.heap[b]?=some o/\oL o=true/\(b<N->nC l0 b))/\nQ w₀ N (nC l0) w
def QO(w₀:World)(N:Nat)(Sh:Nat->Prop)(sR s1:AS)(S0:eN)(l0:Hq)(w:World):Prop :=
 ∃S' l',gz prog fa S0 S' s1 l'/\(∀b,b<sR.nx\/s1.nx<=b->S' b=S0 b)/\(l'.map Prod.fst).Nodup/\(∀b o,(b,o)∈l'->b<w.heap.size/\b≠N/\b≠N+6/\(b<N->nC l0 b)/\w.heap[b]?=some o)/\nQ w₀ N (nC l0) w
theorem Fe(y:∀{W:Type} {N0:W->Nat} {M:W->World->Nat->Prop} {O:W->Nat->Prop} {R:W->Wq} {D:W->World->World->Array Event->Prop} {X:W->Gq} {Hd:W->Hq->World->Prop} (_:Cy prog fa N0 M O R D X Hd) (A:eN),(TbW w₀ N Pb Sh l0->Tb M Hd)->(∀b,b≠sR.nx->A b=S0 b)->cR prog fa A R D X Hd (jf sR.nx all)->cR prog fa A R D X Hd pr)(H:CE w₀ N Pb Sh)(B:HRd w₀ N Pb Sh sR S0 An l0)(a1:∀b,sR.nx<=b->b<s'.nx->S0 b=none)(ai:sR.nx<s'.nx){e1:Nat}(h1:S0 1=some (1,z1,e1))(a3:1<sR.nx)(hg:∀r∈all,Good r)(hn:4*all.length<=1000000)
 {c:Code}(aa:prog.funcs[f]?=some bL)(a7:bL.body=some c)(ab:bL.results=#[])(a4:AR (VR S0) yB cap)
 {e:Exit}(af:gV prog kg pr n c ((aC sR.nx 0::yB.toList)++List.replicate (bL.ntmps-(yB.size+1)) undef) ⟨sR.hp,sR.nx+1⟩=some (e,nS,s'))(he:e=.normal\/e=.ret)
 (a8:∀nm ob,sR.get nm=some ob->∃P,s'.get nm=some P)(ak:∀b o,s1.get b=some o->s'.get b=some o/\oL o=true)(ah:s'.nx<=s1.nx)(a9:∀l,Shun l->∃j:Addr,l=.cell j/\Sh j.block) :
  Client (aJ prog N Pb (iv N Shun) val (N+9)<|λ_=>False) N all f cap (nQ w₀ N<|λ_=>False) (QO w₀ N Sh sR s1 S0 l0) (Wd (aJ prog N Pb (iv N<|λl=>∃j:Addr,l=.cell j/\Sh j.block) val (N+9)<|λ_=>False) w₀ N sR s1 S0 l0):=by
 have up:∀{w:World} {b:Nat},dK (aJ prog N Pb (iv N Shun) val (N+9)<|λ_=>False) w b->¬Sh b->dK (aJ prog N Pb (iv N<|λl=>∃j:Addr,l=.cell j/\Sh j.block) val (N+9)<|λ_=>False) w b:=λ{w b} h U=>⟨h.1,h.2.1,h.2.2.1,h.2.2.2.1,λj ha hs=>by
  rcases hs with ⟨a,e,z⟩|⟨a,e,z⟩
  .cases e;exact U<|ha▸z
  .exact h.2.2.2.2 j ha<|.inr ⟨a,e,z⟩⟩;have dn:∀{w:World} {b:Nat},dK (aJ prog N Pb (iv N<|λl=>∃j:Addr,l=.cell j/\Sh j.block) val (N+9)<|λ_=>False) w b->dK (aJ prog N Pb (iv N Shun) val (N+9)<|λ_=>False) w b/\¬Sh b:=λ{w b} h=>⟨⟨h.1,h.2.1,h.2.2.1,h.2.2.2.1,λj ha hs=>by
  rcases hs with z|⟨a,e,z⟩
  .exact h.2.2.2.2 j ha<|.inl<|a9 _ z
  .exact h.2.2.2.2 j ha<|.inr ⟨a,e,z⟩⟩,λU=>h.2.2.2.2 ⟨b,0,none⟩ rfl<|.inl ⟨_,rfl,U⟩⟩;have F:=WN (val:=val) H a9;have EU:∀b,b<N->¬Sh b->∀j:Addr,j.block=b->¬iv N Shun (.cell j):=by
  rintro b U hS j rfl (h|⟨a,e,h⟩)
  .grind
  .cases e;omega
 constructor
 .exact λw aK r h=>h.rm F r
 .exact λw cs h=>h.alloc _
 .intro _ _ _ AW Rb w ae u hW;have J:∀b o,(b,o)∈l0->dK (aJ prog N Pb (iv N Shun) val (N+9)<|λ_=>False) w b/\w.heap[b]?=some o:=λb o q=>by have⟨d,m,t,E⟩:=B.own b o q;exact⟨Dx d m (EU b d t) u.size,(u.old b d id).trans E⟩
  have hX:HX (aJ prog N Pb (iv N Shun) val (N+9)<|λ_=>False) (λb=>nC l0 b\/N<=b) w all Rb (.front<|V all) (l0++[]) w:=by
   rw[List.append_nil];refine⟨⟨Kept.refl w,u.size,λb o q=>⟨(J b o q).1,(J b o q).2,.inl<|.inl ⟨o,q⟩⟩,B.nd⟩,pD,[],all,false,rfl,.inl ⟨rfl,.inl rfl⟩,hW,λb o q y=>?_,λb y=>?_⟩
   .have:=(B.own b o q).1;rcases y with rfl|y
    .omega
    .cases y
   .rcases y with rfl|y
    .exact .inl<|.inr ae
    .cases y
  have aj:S0 sR.nx=none:=a1 _ lr ai;have p:S0.le (S0.put sR.nx (Rb,0,0)):=eM aj;have abB:gz prog fa (S0.put sR.nx (Rb,0,0)) (S0.put sR.nx (Rb,0,0)) ⟨sR.hp,sR.nx+1⟩ l0:=by
   refine⟨λb o U=>?_,λb b' o o' x x' U a6 y Dq hxx=>?_,λb o U=>?_,aQ _⟩
   .have⟨g,z,e,o',d,m,t,E⟩:=B.yM.live b o U;exact⟨g,z,e,o',p _ _ d,m,t.mono p,E⟩
   .have⟨g,z,e,o3,d,_⟩:=B.yM.live b o U;have⟨g',z',e',o4,m,_⟩:=B.yM.live b' o' a6;rw[p _ _ d] at y;rw[p _ _ m] at Dq;cases y;cases Dq;exact B.yM.inj b b' o o' _ _ U a6 d m hxx
   .have:=B.yM.lt b o U;grind
  have a0:=Nh (Az:=AW) (Ex:=λb=>nC l0 b\/N<=b) (w₀:=w) (An:=S0.put sR.nx (Rb,0,0)) (Rb:=Rb) F hg hn (rn:=sR.nx) eS (p _ _ h1) a3;have Y:=cyM (Az:=AW) (Ex:=λb=>nC l0 b\/N<=b) (w₀:=w) (all:=all) (Rb:=Rb) F;have ZS:TbW w₀ N Pb Sh l0->Tb (λ_:Ph=>dK<|aJ prog N Pb (iv N Shun) val (N+9)<|λ_=>False) (λi l T=>HX (aJ prog N Pb (iv N Shun) val (N+9)<|λ_=>False) (λb=>nC l0 b\/N<=b) w all Rb i l T):=by
   intro hT i l T a5;have G:∀b,b=2\/b=3->dK (aJ prog N Pb (iv N Shun) val (N+9)<|λ_=>False) T b/\T.heap[b]?=w₀.heap[b]?:=λb U=>by have⟨d,m,t,E⟩:=hT.2 b U;have m0:dK (aJ prog N Pb (iv N Shun) val (N+9)<|λ_=>False) w b:=Dx d m (EU b d t) u.size;exact⟨a5.hl.kept.mine b m0,(a5.hl.kept.block b m0 gq).trans<|u.old b d id⟩
   have al:w₀.heap.size<=T.heap.size:=by have:=u.size;have:=a5.hl.kept.grow;have:=B.size;omega
   exact⟨(G 2<|.inl rfl).1,(G 3<|.inr rfl).1,hT.1.of al (G 2<|.inl rfl).2 (G 3<|.inr rfl).2⟩
  refine⟨bL,c,aa,cm f bL aa,a7,((jM Y kq cB (y Y _ ZS (λb U=>by unfold eN.put;rw[iw U]) a0) cm n).1 c f _ nS _ s' e _ l0 [] (.front<|V all) w _ _ af abB hX ?_ rfl (λb b1 b2=>?_) ?_).1⟩
  .have ar:yB.size=cap.size:=a4.1;have h2:AR (VR<|S0.put sR.nx (Rb,0,0)) (#[aC sR.nx 0]++yB) (#[.pointer (sq Rb)]++cap):=(gn<|dj eS).append<|a4.mono p;have h3:=h2.append<|AR.replicate (S:=S0.put sR.nx (Rb,0,0)) (x:=undef) (v:=undef) (bL.ntmps-(yB.size+1)) fx;have e1:((aC sR.nx 0::yB.toList)++List.replicate (bL.ntmps-(yB.size+1)) undef).toArray=(#[aC sR.nx 0]++yB)++Array.replicate (bL.ntmps-(yB.size+1)) undef:=gq
   grind
  .have a6:sR.nx+1<=b:=b1;unfold eN.put;grind
  .intro i' K L T a' r1 r2 r3 r4 r5 r6;rw[List.append_nil] at r4;have⟨v',Va,Q,SA,k1,k2,k3,k4,k5⟩:=r4.row;have hhi:∀b,tO Rb v' b->N<=b:=λb U=>by
    rcases k5 b U with (⟨o,q⟩|z)|z
    .have⟨nm,ob,zz,ee,d,m⟩:=B.tight b o q;have⟨P,t⟩:=a8 nm ob d;have⟨g,z3,e3,o3,E,q5,_⟩:=r3.live nm P t;have q6:=r1 _ _<|p _ _ m;grind
    .exact z
    .have:=u.size;omega
   refine⟨he,r6,_,resultsC_none ab _,_,_,v',Va,Q,SA,k1,k2,k3,hhi,K,L.filter<|λx=>oL x.2,?_,λb U=>?_,?_,λb o q=>?_,?_⟩
   .have:=r3.UC ak ah;exact⟨this.live,this.inj,this.lt,cQ p r1⟩
   .rw[r2 b (U.imp (λU=>by show b<sR.nx+1;omega)<|λU=>oq)];unfold eN.put;rw[iw oq]
   .exact(List.filter_sublist.map Prod.fst).nodup r4.hl.nodup
   .have⟨s,C⟩:=List.mem_filter.1 q;have⟨d,m,t⟩:=r4.hl.own b o s;have I:b<N->nC l0 b:=λhbN=>by
     rcases t with (z|z)|z
     .exact z
     .omega
     .have:=u.size;omega
    refine⟨up d λU=>?_,m,C,I⟩;have⟨o2,VQ⟩:=I (H.sh b U).1;exact(B.own b o2 VQ).2.2.1 U
   .have kp:=r4.hl.kept;exact⟨kp.tape.trans u.tape,kp.os.trans u.os,kp.output.trans u.output,lT u.size kp.grow,λb U hk=>(kp.low b (Be U) (by have:=u.size;omega)<|λz=>z.elim hk oq).trans<|u.old b U id⟩
 .rintro Rb w aK r ⟨K,L,d,m,t,E,q5⟩;refine⟨K,L,d,m,t,λb o q=>?_,q5.rm F r⟩;have⟨s,C,Z,m4⟩:=E b o q;have⟨s,m5⟩:=dn s;exact⟨up ((C4 F).stay r s) m5,((C4 F).keep r s).trans C,Z,m4⟩
 .rintro Rb ao au v tk en w T hW y k ⟨K,L,d,m,t,E,q5⟩;refine⟨K,L,d,m,t,λb o q=>?_,q5.kept y k⟩;have⟨s,C,Z,m4⟩:=E b o q;have abo:¬tO Rb v b:=by
   rintro(rfl|U)
   .rw[hW.rb] at C;cases C;simp[oL] at Z
   .rcases hW.ro.row.2 with ⟨z,_⟩|⟨g,cp,aq,z,_,ag,_⟩
    .rw[z] at U;cases U
    .rw[z] at U;cases U;rw[ag] at C;cases C;simp[oL] at Z
  have⟨s,m5⟩:=dn s;exact⟨up (k.mine b s) m5,(k.block b s abo).trans C,Z,m4⟩
 .rintro Rb w ⟨K,L,d,m,t,E,q5⟩;refine⟨K,L,d,m,t,λb o q=>?_,q5⟩;have⟨s,C,Z,m4⟩:=E b o q;refine⟨s.1,λe=>s.2.1<|.inl e,λe=>s.2.2.2.1<|.inr<|.inr e,m4,C⟩
end
variable {Post:Value->World->Prop}
section
variable {S:Nat->Prop}{cp:K1}{s:ByteArray}
def Pl(H:CE w₀ N Pb S)(j:cp.l=[]\/Pb<N/\oV Pb cp w₀)(x:∃d c,cp.v=.slice d cp.l.length c)(u:s.size<=20000)(g:∀p∈cp.l,p.size<=20000)(i:cp.l.length<=9223372036854775806)(b:cp.l.flatMap bytesOf=bytesOf s)(Shun:Loc->Prop)(w:World)[ConcR.Payload][ConcX.Payload](a:He w₀ (u9 N cp.v 62<|Li N) w):XK (aJ prog N Pb (iv N Shun) cp.v (N+9)<|λ_=>False) (true,V<|cJ s) (born prog<|mQ N) w:=by
 obtain rfl:=H.size;have m:HB w₀.heap.size _ w:=⟨a.blocks 1 _ I,a.blocks 3 _ I,a.blocks 5 _ I,a.blocks 7 _ I,a.blocks 8 _ I⟩;have f:Pb<w₀.heap.size+9:=by rcases H.plo with h|h<;>omega
 have q:HQ w₀.heap.size Pb cp w:=by
  refine⟨a.blocks 0 _ I,?_,f⟩;rcases j with h|⟨h1,h2⟩
  .have⟨d,c,e⟩:=x;exact⟨d,c,e,λk p n=>by rw[h] at n;simp at n⟩
  .exact h2.of<|a.old Pb h1
 refine X8 m λo r=>?_
 have:=FW (Shun:=iv w₀.heap.size Shun) (B:=w₀.heap.size+9) (Mz:=λ_=>False) (m.rc r) (q.rc r) (λp t=>by have:=g p t;omega) i;rw[Ds b] at this;simpa using this
theorem FX{A Fw:World->Prop}{I:Nat->World->Prop}(H:CE w₀ N Pb S)(E:cp.l=[]\/Pb<N/\oV Pb cp w₀)(q:∃i c,cp.v=.slice i cp.l.length c)(F:s.size<=20000)(B:∀p∈cp.l,p.size<=20000)(D:cp.l.length<=9223372036854775806)(u:cp.l.flatMap bytesOf=bytesOf s)
 (o:∀a:Loc->Prop,(∀l,a l->∃i:Addr,l=.cell i/\S i.block)->Client (aJ prog N Pb (iv N a) cp.v (N+9)<|λ_=>False) N (cJ s) f cap A Fw I)(n:∀w,He w₀ (u9 N cp.v 62<|Li N) w->A w)(z:∀w g,ConcX.Aside2 N (N+6) w g->Fw w->Fw g) :
  gj prog (ZI prog Post 0) 37 #[cp.v,.func (.func f) #[] cap] S w₀ (λt x r=>x=.tuple #[]/\t=SE N S/\Fw r/\r.heap[N+6]?=some (.cells #[.int .u64 0,.int .u32 0] 169)):=by
 have⟨O,L⟩:=cp;have⟨i,K,e⟩:=id q;simp only at e;subst e;simp only at o n |-;have C:cG prog true (λ_:Nat->Prop=>AtRel) DZ (ZI prog Post 0):=ZI.closed;have T:=xT;have M:∀w m,(Instr.makeFunc (Fn.func 62) #[] #[Value.pointer (sq N)]).events prog w m=m:=λw m=>by simp[Instr.makeFunc]
 obtain rfl:=H.size;have b:=He.start w₀;refine jw func37 rq W ?_;refine cu C T<|bv C T ?_;simp only[jb];refine aM C W rq λ_ d j U=>?_;replace b:=gv b d;clear d;go_simp;try (unfold stored;go_simp)
 refine U _ _ ⟨?_,?_⟩
 .intro e G;have J:=mem_listed G;simp[go_sem, *] at J
 try walk_nrm
 have k:=b.size;simp only[k];clear k;replace b:=b.alloc<|.cells #[(.slice i L.length K)] 62;simp only[List.nil_append] at b;refine bO C T ?_;refine bv C T ?_;simp only[jb,Nat.reduceAdd];refine aM C W rq λ_ d j U=>?_;replace b:=gv b d;clear d;go_simp;try (unfold stored;go_simp)
 refine U _ _ ⟨?_,?_⟩
 .co_still (T _)
 try walk_nrm
 refine aM C W rq λ_ d j U=>?_;replace b:=gv b d;clear d;go_simp;try (unfold stored;go_simp)
 refine U _ _ ⟨?_,?_⟩
 .co_quiet (T _)
 try walk_nrm
 refine mf C T W rq W W (by simp[Act.eval]) W (YW (f:=f) (fr:=62) H b (by have:=uZ s;omega) (λa w _ _ h=>Pl H E q F B D u a w h) o n z) ?_;rintro _ _ _ ⟨rfl,h1,h2⟩;exact bO C T ⟨.inl W,W,_,resultsC_none rq _,W,W,h1,h2⟩
end
section
variable {N0:Nat}{M:World->Nat->Prop}{O:Nat->Prop}{R:Wq}{D:World->World->Array Event->Prop}{H:Hq->World->Prop}{p:Prop}
def Kw(a:p)(Z:Co KT N0 M O R D H):Co KT N0 M O R D (λl w=>p/\H l w) where
 env:=Z.env
 rely h r:=⟨a,Z.rely h.2 r⟩
 size h:=Z.size h.2
 own h hm:=Z.own h.2 hm
 nodup h:=Z.nodup h.2
 grown h hO:=⟨a,Z.grown h.2 hO⟩
 turn h hO hb hk:=⟨a,Z.turn h.2 hO hb hk⟩
 perm h q:=⟨a,Z.perm h.2 q⟩
 drop h:=⟨a,Z.drop h.2⟩
 past h k hs:=⟨a,Z.past h.2 k hs⟩
 call h h':=⟨a,Z.call h.2 h'⟩
end
abbrev Zx:=(Nat->Prop) × Nat
def vK (Ex:Nat->Prop)(w₀:World)(j:Zx)(l:Hq)(w:World):Prop:=((∀b,j.1 b->b<j.2)/\∀b,j.1 b->w₀.heap.size<=b)/\HL (sU j.1) (λ_=>False) j.2 Ex w₀ l w
def vS:Cy prog fa (λj:Zx=>j.2) (λj=>sU j.1) (λ_ _=>False) (λ_=>AtRel) (λj=>DZ j.1) (λj=>ZI prog Post 0 j.1) (vK Ex w₀) where
 C:=⟨λh r=>(ZI.closed).rely h r,λa h=>(ZI.closed).step a h⟩
 T j:=xT j.1
 ne:=H9
 Z h:=Kw h.1<|HL.co<|WK h.1.1
def RH:Option Addr->List Nat
 | some ad=>[ad.block]
 | none=>[]
def D6:Nat->Value->List Nat
 | 0,_=>[]
 | n+1,v=>match v with
  | .pointer p=>RH p
  | .slice p _ _=>RH p
  | .func _ x y=>x.toList.flatMap (D6 n)++y.toList.flatMap (D6 n)
  | .agg x=>x.toList.flatMap<|D6 n
  | .tuple x=>x.toList.flatMap<|D6 n
  | _=>[]
def YS:Obj->List Nat
 | .cells cs _ _=>cs.toList.flatMap<|D6 5
 | _=>[]
def AS.reach(s:AS):Nat->List Nat->AS->AS
 | 0,_,r=>r
 | _+1,[],r=>r
 | n+1,b::l,r=>match r.get b with
  | some _=>s.reach n l r
  | none=>match s.get b with
   | some o=>if oL o then s.reach n (YS o++l) (r.set b<|some o) else s.reach n l r
   | none=>s.reach n l r
theorem AS.nq{s:AS}:∀{n:Nat} {l:List Nat} {r:AS},(∀b o,r.get b=some o->s.get b=some o/\oL o=true)->∀b o,(s.reach n l r).get b=some o->s.get b=some o/\oL o=true
 | 0,l,r,h=>h
 | n+1,[],r,h=>h
 | n+1,c::l,r,h=>by
  unfold AS.reach;split
  .exact AS.nq h
  .split
   .next o U =>
    split
    .next hk =>refine AS.nq λb d a=>?_;rw[AS.aN] at a;grind
    .exact AS.nq h
   .exact AS.nq h
def AS.tidy(m:Nat)(s:AS):AS:=⟨(s.reach 5000 (List.range m) ⟨[],0⟩).hp,s.nx⟩
def AS.keeps(s s':AS):Bool:=(List.range s.nx).all λb=>(s.get b).isNone||(s'.get b).isSome
section
def yz{S:Nat->Prop}{o:(Nat->Prop)->Value->World->Prop}{p:Zx->Value->World->Prop}(h:gj prog (ZI prog Post 0) f args S w o)(B:∀d v i,o d v i->∃m,∀a,AtRel i a->p (d,m) v a) :
  lP prog (λ_:Zx=>AtRel) (λj=>DZ j.1) (λj=>ZI prog Post 0 j.1) f args (S,n) w p:=by
 have⟨g,c,h1,h2,h3,x⟩:=h;refine⟨g,c,h1,h2,h3,λb k u y A z=>x b k u y A λd e t i q=>?_⟩;have⟨C,D,v,s,E⟩:=q;have⟨m,l⟩:=B d v i E
 have:=z _ e t i ⟨C,D,λa r=>⟨v,(s a).1,by rw[(s a).2];exact(xT d).idle _,l a r⟩⟩;cases e<;>exact this
def G1(vj:AS->AS):Prop:=∀s:AS,(vj s).nx=s.nx/\∀b o,(vj s).get b=some o->s.get b=some o/\oL o=true
def VA (Ex:Nat->Prop)(w₀:World):Prop:=¬Ex 2/\¬Ex 3/\QT w₀
theorem acM(h:VA Ex w₀):Tb (λj:Zx=>sU j.1) (vK Ex w₀):=by
 rintro j l w ⟨⟨i,U⟩,c⟩;have⟨h2,h3,d⟩:=h;have f:=d.1;have a:∀b,b=2\/b=3->sU j.1 w b/\w.heap[b]?=w₀.heap[b]?:=λb g=>by have e:sU j.1 w₀ b:=⟨oq,λz=>by have:=U b z;omega⟩;exact⟨c.kept.mine b e,c.kept.block b e gq⟩
 exact⟨(a 2<|.inl I).1,(a 3<|.inr I).1,d.of c.kept.grow (a 2<|.inl I).2 (a 3<|.inr I).2⟩
def We (s:AS)(pv:Value)(ps:List ByteArray)(sB:AS):Prop:=(pv=.slice none 0 0/\ps=[]/\sB=s)\/∃bp c0 cs fz,pv=.slice (some ⟨bp,0,none⟩) ps.length c0/\s.get bp=some (.cells cs 9 fz)/\(∀(k:Nat) (p:ByteArray),ps[k]?=some p->cs[k]?=some (.string p))/\sB=s.set bp none
open Classical in
theorem YA{e1:Nat}(h1:An 1=some (1,z1,e1)){s E:AS}(bf:1<s.nx){ps:List ByteArray}{sB:AS}{y:Aq}(ai:We s pv ps sB)(hf:prog.funcs[f]?=some bL){str:ByteArray}{c:Code}(ao:ps.flatMap bytesOf=bytesOf str)(bc:∀p∈ps,p.size<=20000)(bd:ps.length<=9223372036854775806)(af:bL.body=some c)(bi:bL.results.toList.isEmpty=true)(az:l7 str.data.toList 0<=20000){S:eN}
 (be:∀{ι:Type} {N0:ι->Nat} {M:ι->World->Nat->Prop} {O:ι->Nat->Prop} {R:ι->Wq} {D:ι->World->World->Array Event->Prop} {X:ι->Gq} {Hd:ι->Hq->World->Prop} (_:Cy prog fa N0 M O R D X Hd) (A:eN),(VA Ex w₀->Tb M Hd)->(∀b,b≠s.nx->A b=S b)->cR prog fa A R D X Hd (jf s.nx<|cJ str)->cR prog fa A R D X Hd pr){vj:AS->AS}(ae:G1 vj){e:Exit}(b8:gV prog kg pr n c ((aC s.nx 0::y.toList)++List.replicate (bL.ntmps-(y.size+1)) undef) ⟨sB.hp,s.nx+1⟩=some (e,nS,E))(bm:s.nx+1<=E.nx)(aa:AS.keeps sB E=true)(he:e=.normal\/e=.ret)
 {l fr:Hq}{j:Zx}(H:gz prog fa An S s l)(hF:vK Ex w₀ j (l++fr) w)(hA:AR (VR S) #[pv,.func (.func f) #[] y] args')(b9:∀b,s.nx<=b->b<E.nx->S b=none) :
  lP prog (λ_:Zx=>AtRel) (λj=>DZ j.1) (λj=>ZI prog Post 0 j.1) 37 args' j w λi' v' w'=>∃Z l',S.le Z/\(∀b,b<s.nx\/(vj E).nx<=b->Z b=S b)/\gz prog fa An Z (vj E) l'/\vK Ex w₀ i' (l'++fr) w'/\VR Z (.tuple #[]) v':=by
 have ab:sB.nx=s.nx:=by rcases ai with ⟨_,_,rfl⟩|⟨bp,c0,cs,fz,_,_,_,rfl⟩<;>rfl
 have⟨a5,nB⟩:=sB;have ab:nB=s.nx:=ab;subst ab;have vC:str.size<=20000:=by rw[kF,Nat.zero_add,KO] at az;exact az
 have aj:bL.results=#[]:=gq
 obtain⟨a0,a1,rfl,v0,v1⟩:=QY hA;obtain⟨p',cap,rfl,Cp,Xe⟩:=v1.fn;have hp0:p'=#[]:=by apply wu.1;have:=Cp.1;simp at this;exact List.eq_nil_of_length_eq_zero<|by simpa using this.symm
 subst hp0;obtain⟨⟨hj,ag⟩,m⟩:=hF;have hlw:∀a d x,s.get a=some d->S a=some x->x.1<w.heap.size/\¬j.1 x.1:=λa d x C I=>by have⟨g,z,e,o',P,r2,_,_⟩:=H.live a d C;rw[I] at P;cases P;exact(m.own _ _<|KM _ r2).1
 obtain⟨u,cp,aq,a6,U,av,ax,bl,aw,au⟩:∃(u:Nat) (cp:K1),cp.v=a0/\cp.l=ps/\(∀a d,(⟨a5,s.nx⟩:AS).get a=some d->s.get a=some d)/\(u<w.heap.size\/u=w.heap.size+1)/\¬j.1 u/\(∀a d x,(⟨a5,s.nx⟩:AS).get a=some d->S a=some x->x.1≠u)/\(cp.l=[]\/u<w.heap.size/\oV u cp w)/\((∃o,(u,o)∈l++fr)\/u=w.heap.size+1):=by
  rcases ai with ⟨rfl,rfl,ay⟩|⟨bp,c0,cs,fz,rfl,hb,b6,ay⟩<;>rw[ay]
  .refine⟨w.heap.size+1,⟨a0,[]⟩,rfl,rfl,λ_ _ h=>h,.inr rfl,λz=>?_,λa d x C I e=>?_,.inl rfl,.inr rfl⟩
   .have:=hj _ z;have:=m.size;omega
   .grind
  .obtain⟨u,zP,eP,cp,ak,rfl,_,_,_,_⟩:=v0.sl;have⟨kk,oP,hk,mH,Oj,Om,XT⟩:=H.at (fr:=fr) hb ak;obtain⟨csP,rfl,hzP,⟨hleP,_⟩,K⟩:=Om;have F:(u,Obj.cells csP 9)∈l++fr:=mG Oj;have⟨hmP,hgP,_⟩:=m.own _ _ F;have U:∀a d,(s.set bp none).get a=some d->a≠bp/\s.get a=some d:=λa d hq=>by rw[AS.aN] at hq;grind
   refine⟨u,⟨.slice (sq u) ps.length cp,ps⟩,rfl,rfl,λa d h=>(U a d h).2,.inl hmP.1,hmP.2,λa d x C I e=>(U a d C).1<|H.inj a bp d _ _ _ (U a d C).2 hb I ak e,.inr ⟨hmP.1,_,_,rfl,λk p ZL=>⟨0,rfl,?_⟩⟩,.inl ⟨_,F⟩⟩;have h0:=b6 k p ZL;have T:k<csP.size:=gq
   have:=(K k _ _ h0<|gF T).sc rfl;simp[World.cell?,hgP,this,T]
 let a3:Nat × Obj->Prop:=λq=>∃a d z e,(⟨a5,s.nx⟩:AS).get a=some d/\S a=some (q.1,z,e);have hH:CE w w.heap.size u j.1:=⟨rfl,av,λb J=>⟨lL (hj b J) m.size,λe'=>ax<|e'▸J⟩⟩;have hRd:HRd w w.heap.size u j.1 (⟨a5,s.nx⟩:AS) S An (l.filter λq=>decide (a3 q)):=by
  refine⟨rfl,⟨λb o a9=>?_,λb b' o o' q q' a9 aa4=>H.inj b b' o o' q q' (U b o a9)<|U b' o' aa4,λb o a9=>H.lt b o<|U b o a9,H.an⟩,λb o t=>?_,?_,λb o t=>?_⟩
  .have⟨g,z,e,o',C,I,q3,q4⟩:=H.live b o<|U b o a9;grind
  .have⟨m1,m2⟩:=List.mem_filter.1 t;have⟨a,d,z,e,C,I⟩:=of_decide_eq_true m2;have⟨m3,m4,_⟩:=m.own b o<|KM _ m1;grind
  .have ah:=m.nodup;grind
  .grind
 obtain⟨bj,bk,ar⟩:∃ad c,cp.v=.slice ad cp.l.length c:=by
  rcases aw with h|⟨_,ad,c,e,_⟩
  .rw[aq,h];rw[a6] at h;rcases ai with ⟨rfl,_,_⟩|⟨bp,c0,cs,fz,rfl,_⟩
   .exact⟨_,_,v0.sc rfl⟩
   .have⟨_,_,_,_,_,e,_⟩:=v0.sl;grind
  .exact⟨ad,c,e⟩
 have⟨hg,ba⟩:=sO str vC;have L:∀a d,(⟨a5,s.nx⟩:AS).get a=some d->∃RA,E.get a=some RA:=λa d hq=>by
  unfold AS.keeps at aa
  have:=fP aa (i:=a)<|H.lt a d<|U a d hq;rw[hq] at this;simp only[Option.isNone_some,Bool.false_or] at this;exact Option.isSome_iff_exists.1 this
 have bg:VA Ex w₀->TbW w w.heap.size u j.1 (l.filter λq=>decide (a3 q)):=by
  intro hT;have⟨_,_,hTw⟩:=acM hT j _ w ⟨⟨hj,ag⟩,m⟩;have⟨x2,x3,hT0⟩:=hT;have mH:=hT0.1;have hlw:=hTw.1;have ex:∀b,b=2\/b=3->¬(Ex b\/w₀.heap.size<=b):=λb hb=>gq
  refine⟨hTw,λb hb=>⟨oq,λe=>?_,λz=>by have:=ag b z;omega,?_⟩⟩
  .rcases au with ⟨o,t⟩|hp
   .exact ex b hb<|e▸(m.own _ _ t).2.2
   .omega
  .rintro⟨o,t⟩;exact ex b hb (m.own _ _<|KM _ (List.mem_filter.1 t).1).2.2
 have b5:=λ(Shun:Loc->Prop) (b4:∀l,Shun l->∃ad:Addr,l=.cell ad/\j.1 ad.block) =>Fe (sR:=(⟨a5,s.nx⟩:AS)) (all:=cJ str) (λY A hT hA hp=>be Y A (λz=>hT<|bg z) hA hp) (val:=cp.v) (s':=E) (s1:=vj E) hH hRd (λb b1 Q=>b9 b b1 Q) gq (H.an _ _ h1) bf hg ba hf af aj Xe b8 he L (ae E).2 (Nat.le_of_eq (ae E).1.symm) b4;have hof:=FX (Post:=Post) (cp:=cp) (A:=nQ w w.heap.size<|λ_=>False) (Fw:=QO w w.heap.size j.1 (⟨a5,s.nx⟩:AS) (vj E) S<|l.filter λq=>decide (a3 q)) hH aw ⟨_,_,ar⟩ vC (a6.symm▸bc) (a6.symm▸bd) (a6.symm▸ao) b5 (λw1 G=>⟨G.tape,G.os,G.output,by rw[G.size];simp[u9],λb J _=>G.old b J⟩) (λw1 w2 r hq=>by have⟨Z,l',C,I,q3,q4,W⟩:=hq;refine⟨Z,l',C,I,q3,λb o t=>?_,W.aside r⟩;have⟨m1,m2,m3,m4,m5⟩:=q4 b o t;exact⟨by rw[r.size];exact m1,m2,m3,m4,(r.block b m2 m3).trans m5⟩);rw[aq] at hof;refine yz (n:=j.2) hof ?_;rintro Z v w' ⟨rfl,rfl,⟨S2,l',C,I,q3,q4,W⟩,q6⟩;have ah:=m.nodup;rw[Bf,List.nodup_append] at ah;have⟨hnd1,Tw,V⟩:=ah;have N:∀b,nC (l.filter λq=>decide (a3 q)) b->∃o,(b,o)∈l:=λb ⟨o,t⟩=>⟨o,(List.mem_filter.1 t).1⟩;have B:w.heap.size<=w'.heap.size:=gq
 have b3:HL (sU<|SE w.heap.size j.1) (λ_=>False) (w.heap.size+7) Ex w₀ (l'++fr) w':=by
  refine⟨⟨W.tape.trans m.kept.tape,W.os.trans m.kept.os,W.output.trans m.kept.output,lT m.kept.grow B,λb a4 al=>?_,λb a4=>⟨lL a4.1<|lT m.kept.grow B,a4.2⟩,λb z=>z.elim⟩,by have:=W.size;omega,λb o t=>?_,?_⟩
  .have a8:b<w.heap.size:=lL a4.1 m.kept.grow;have XC:¬nC (l.filter λq=>decide (a3 q)) b:=λz=>by
    have⟨o,t⟩:=N b z;rcases(m.own b o<|KM _ t).2.2 with z|z
    .exact al z
    .have:=a4.1;omega
   exact(W.old b a8 XC).trans (m.kept.block b ⟨a4.1,λz=>a4.2<|.inl z⟩ al)
  .rcases List.mem_append.1 t with t|t
   .have⟨m1,m2,m3,m4,m5⟩:=q4 b o t;by_cases a8:b<w.heap.size
    .have⟨o2,a7⟩:=N b<|m4 a8;have⟨P,r2,r3⟩:=m.own b o2<|KM _ a7;exact⟨⟨m1,λz=>z.elim P.2 m3⟩,m5,r3⟩
    .refine⟨⟨m1,λz=>z.elim (λz=>?_) m3⟩,m5,.inr<|by have:=m.kept.grow;omega⟩
     have:=hj b z
     have:=m.size;omega
   .have⟨P,r2,r3⟩:=m.own b o<|MC _ t;have XC:¬nC (l.filter λq=>decide (a3 q)) b:=λz=>by have⟨o2,a7⟩:=N b z;exact V b (List.mem_map.2 ⟨_,a7,rfl⟩) b (List.mem_map.2 ⟨_,t,rfl⟩) rfl
    refine⟨⟨lL P.1 B,λz=>z.elim P.2<|λz=>?_⟩,(W.old b P.1 XC).trans r2,r3⟩
    have:=P.1;omega
  .rw[Bf,List.nodup_append];refine⟨q3,Tw,λx hx y hy bh=>?_⟩;subst bh;obtain⟨⟨b,o⟩,t,rfl⟩:=List.mem_map.1 hx;obtain⟨⟨Q,o2⟩,a7,e2⟩:=List.mem_map.1 hy;have e2:Q=b:=e2;subst e2;have a8:=(m.own Q o2<|MC _ a7).1.1;have⟨o3,hm3⟩:=N Q<|(q4 Q o t).2.2.2.1 a8;exact V Q (List.mem_map.2 ⟨_,hm3,rfl⟩) Q (List.mem_map.2 ⟨_,a7,rfl⟩) rfl
 refine⟨w.heap.size+7,λaK r=>⟨S2,l',C.an,I,⟨C.live,C.inj,C.lt,cQ H.an C.an⟩,⟨⟨λb z=>?_,λb z=>?_⟩,b3.rely (WK (KT:=fa)<|λb z=>?_) r⟩,?_⟩⟩
 .rcases z with z|z
  .have:=hj b z;have:=m.size;omega
  .omega
 .rcases z with z|z
  .exact ag b z
  .have:=m.kept.grow;omega
 .rcases z with z|z
  .have:=hj b z;have:=m.size;omega
  .omega
 .exact ju AR.nil
end
end
section
open Go.Conc Go.RowKit Go.Lib
def qJ:ByteArray:=⟨#[60,116,105,116,108,101,62,65,32,38,97,109,112,59,32,66,60,47,116,105,116,108,101,62,60,117,108,62,60,108,105,62,111,110,101,60,108,105,62,60,97,32,104,114,101,102,61,47,120,62,116,119,111,60,47,97,62,60,47,117,108,62]⟩
def L0:Iq:=[60,116,105,116,108,101,62,65,32,38,97,109,112,59,32,66,60,47,116,105,116,108,101,62,60,117,108,62,60,108,105,62,111,110,101,60,108,105,62,60,97,32,104,114,101,102,61,47,120,62,116,119,111,60,47,97,62,60,47,117,108,62]
def nN:ByteArray:=⟨#[]⟩
def B3:ByteArray:=⟨#[116,105,116,108,101]⟩
def IQ:ByteArray:=⟨#[108,105]⟩
def Kr:ByteArray:=⟨#[117,108]⟩
def Ks:ByteArray:=⟨#[97]⟩
def Ox:ByteArray:=⟨#[60,47,116,105,116,108,101]⟩
def Vr:ByteArray:=⟨#[104,114,101,102]⟩
def V6:ByteArray:=⟨#[116,101,120,116,97,114,101,97]⟩
def V7:ByteArray:=⟨#[47,120]⟩
def Zm:ByteArray:=⟨#[115,99,114,105,112,116]⟩
def Zn:ByteArray:=⟨#[115,116,121,108,101]⟩
def wbl:ByteArray:=⟨#[65,32,38,32,66]⟩
def wbm:ByteArray:=⟨#[111,110,101]⟩
def wbn:ByteArray:=⟨#[116,119,111]⟩
def wt(k:Int)(a b:ByteArray):Option Obj:=some<|.cells #[.int .i64 k,.string a,.string b,.slice none 0 0,.bool false] 60
def wg(a:ByteArray):Option Obj:=some<|.cells #[.string a,.slice none 0 0,.bool false] 262
def wc:Option Obj:=some<|.cells #[.pointer none,.slice none 0 0] 119
def wi(a:ByteArray)(n:Nat):Option Obj:=some<|.stringIter a n
def wp:Option Obj:=some<|.cells #[.pointer (some ⟨38,0,none⟩)] 196
def wn(a b:ByteArray):Option Obj:=some<|.cells #[.string a,.string b] 9
def wk(k:Int)(a b:ByteArray)(v:Value:=.slice none 0 0):Aq:=#[.int .i64 k,.string a,.string b,v,.bool false]
def sA:AS:=⟨[[none,some<|.cells dy.toArray 335]],32⟩
def sB:AS:=⟨[[none,some<|.cells dy.toArray 335],[],[some (.cells #[.slice (some ⟨35,0,none⟩) 1 1,.int .i64 62,.bool false] 80),none,some<|.cells #[.string qJ] 9,some<|.cells #[.string qJ] 9 (1,1)]],36⟩
def sC:AS:=sB.add<|.cells #[.slice none 0 0] 82
def sD:AS:=⟨(sC.set 35 none).hp,38⟩
def sE:AS:=⟨[[none,some<|.cells dy.toArray 335],[],[some (.cells #[.slice (some ⟨35,0,none⟩) 1 1,.int .i64 62,.bool false] 80),none,some<|.cells #[.string qJ] 9,none,some<|.cells #[.slice none 0 0] 82,none,some<|.cells #[.pointer (some ⟨37,0,none⟩),.int .i64 62,.pointer none,.slice none 0 0,.slice (some ⟨164,0,none⟩) 11 11] 121,wp,wg B3,wc,wi B3 5,wg B3,wt 2 nN B3,wt 2 nN B3,none,wn Zm Zn],[wn B3 V6,wi Ox 1,wi Ox 1,wi Ox 1,wi Ox 1,wi Ox 1,wi Ox 1,wi Ox 1,wi Ox 1,wi Ox 1,wi Ox 7,wn B3 V6,some<|.cells #[.pointer (some ⟨60,0,none⟩),.slice (some ⟨64,0,none⟩) 5 5] 119,none,some<|.cells #[.int .u8 38] 5,none],[none,none,wp,wp,wg B3,wc,wi B3 5,wg B3,wt 3 nN B3,wt 1 wbl nN,none,wt 3 nN B3,none,wp,wg Kr,wc],[wi Kr 2,wg Kr,wt 2 nN Kr,wt 2 nN Kr,none,wn Zm Zn,wn B3 V6,wp,wg IQ,wc,wi IQ 2,wg IQ,wt 2 nN IQ,wt 2 nN IQ,none,wn Zm Zn],[wn B3 V6,wp,wp,wp,wp,wp,some<|.cells #[.pointer (some ⟨102,0,none⟩),.slice (some ⟨103,0,none⟩) 3 3] 119,none,none,wp,wg IQ,wc,wi IQ 2,wg IQ,wt 2 nN IQ,wt 1 wbm nN],[none,wt 2 nN IQ,none,wn Zm Zn,wn B3 V6,wp,some<|.cells #[.string Ks,.slice (some ⟨129,0,none⟩) 1 1,.bool false] 262,wc,wi Ks 1,some<|.cells #[.string Vr,.string V7] 47,wc,wi Vr 4,some<|.cells #[.string Vr,.string V7] 47,some<|.cells #[.pointer (some ⟨125,0,none⟩),.slice (some ⟨126,0,none⟩) 2 2] 119,none,some<|.cells #[.string Vr,.string V7] 47],[some (.cells #[.string Vr,.string V7] 47),some<|.cells #[.string Vr,.string V7] 47 (1,1),some<|.cells #[.string Ks,.slice (some ⟨129,0,none⟩) 1 1,.bool false] 262,some<|.cells #[.int .i64 2,.string nN,.string Ks,.slice (some ⟨129,0,none⟩) 1 1,.bool false] 60,some<|.cells #[.int .i64 2,.string nN,.string Ks,.slice (some ⟨129,0,none⟩) 1 1,.bool false] 60,none,wn Zm Zn,wn B3 V6,wp,wp,wp,wp,wp,wp,some<|.cells #[.pointer (some ⟨142,0,none⟩),.slice (some ⟨143,0,none⟩) 3 3] 119,none],[none,wp,wp,wg Ks,wc,wi Ks 1,wg Ks,wt 3 nN Ks,wt 1 wbn nN,none,wt 3 nN Ks,none,wp,wp,wg Kr,wc],[wi Kr 2,wg Kr,wt 3 nN Kr,wt 3 nN Kr,some<|.cells (wk 2 nN B3++wk 1 wbl nN++wk 3 nN B3++wk 2 nN Kr++wk 2 nN IQ++wk 1 wbm nN++wk 2 nN IQ++wk 2 nN Ks (.slice (some ⟨129,0,none⟩) 1 1)++wk 1 wbn nN++wk 3 nN Ks++wk 3 nN Kr) 60 (1,1)]],165⟩
def sG:AS:=⟨[[none,some<|.cells dy.toArray 335],[],[some (.cells #[.slice (some ⟨35,0,none⟩) 1 1,.int .i64 62,.bool false] 80),none,some<|.cells #[.string qJ] 9,none,some<|.cells #[.slice (some ⟨552,0,none⟩) 11 11] 82],[],[],[],[],[],[none,some<|.cells #[.string Vr,.string V7] 47 (1,1)],[],[],[],[],[],[],[],[],[],[],[],[],[],[],[],[],[],[],[],[],[],[],[],[],[],[none,none,none,none,none,none,none,none,some<|.cells #[.int .i64 1,.int .i64<|-1,.string ⟨#[104,116,109,108]⟩,.string nN,.slice none 0 0,.int .i64 1,.int .i64 0,.string ⟨#[104,101,97,100]⟩,.string nN,.slice none 0 0,.int .i64 1,.int .i64 1,.string B3,.string nN,.slice none 0 0,.int .i64 2,.int .i64 2,.string nN,.string wbl,.slice none 0 0,.int .i64 1,.int .i64 0,.string ⟨#[98,111,100,121]⟩,.string nN,.slice none 0 0,.int .i64 1,.int .i64 4,.string Kr,.string nN,.slice none 0 0,.int .i64 1,.int .i64 5,.string IQ,.string nN,.slice none 0 0,.int .i64 2,.int .i64 6,.string nN,.string wbm,.slice none 0 0,.int .i64 1,.int .i64 5,.string IQ,.string nN,.slice none 0 0,.int .i64 1,.int .i64 8,.string Ks,.string nN,.slice (some ⟨129,0,none⟩) 1 1,.int .i64 2,.int .i64 9,.string nN,.string wbn,.slice none 0 0] 44 (1,1)]],757⟩
def sH:AS:=sG.set 32<|some<|.cells #[.slice none 0 0,.int .i64 0,.bool true] 80
def Q9(P:Program)(r:Option (Value × AS)):Bool:=match r with
 | some (v,s)=>match ly P 38 (aC 36 0) v s with
  | some s'=>AS.keeps (sC.set 35 none) s'&&Qc (s'.tidy 37) sG
  | none=>false
 | none=>false
def Zz (r:Option (Exit × TL × AS)):Bool:=match r with
 | some (.ret,a,s)=>qB 5 (a.getD 0 undef) (.bool true)&&Yz (s.get 1) (some<|.cells dy.toArray 335)
 | _=>false
def Pn:cJ qJ=L0:=kq
