import Derived.Test.YtgcaionclkbehaaGreatDoorFol
import Derived.Lib.RuneBytes
import Derived.Lib.Builder
import Derived.Deep.MidRow
import Derived.Great.BuildSlice
set_option linter.all false
set_option maxHeartbeats 2000000
set_option maxRecDepth 100000
namespace Go.Proofs.YtgcaionclkbehaaGreatDoor
open Go.Conc Go.RowKit Go.Lib Tryz
variable {α:Type}{P:Program}{w w' aE:World}{e t ty:TypeId}{v v' z:Value}{es:Array Event}{b g i id k len n off p' pos sz:Nat}{cs cur cur':Aq}{fz:Nat × Nat}{KT:TypeId→Prop}{ops:Array Oper}{rest todo:List Nat}{o:Oper}{x:Operand}{K:Cfg}{R:Wq}{D:World→World→Array Event→Prop}{news xs:Vq}{s:ByteArray}{tk:Iq}{en main:Bool}{Fx:Nat→Prop}{o':Obj}{d:TypeDesc}
def dm(d:DS)(b:Int):DS × Iq :=
 if 0<d.missing then if d.low≤b∧b≤d.high then cZ d b else ((dd (gu d).1 b).1,(gu d).2++(dd (gu d).1 b).2) else dd d b
def lu(c:CS)(x y:Iq):aJ c (x++y)=((aJ (aJ c x).1 y).1,(aJ c x).2++(aJ (aJ c x).1 y).2):=by
 induction x generalizing c with
 | nil=>simp[aJ]
 | cons r l U=>simp[aJ,U]
def me(x y:List α):(x++y).isEmpty=(x.isEmpty&&y.isEmpty):=by cases x<;>rfl
def ox(x y:Iq):V (x++y)=V x++V y:=by simp[V]
section
variable {N Pb cp c1 c2:Nat}{Shun:Loc→Prop}{val:Value}{B:Nat}{Mine:Loc→Prop}{c:CS}{d:DS}{w aE:World}
variable [Go.ConcR.Payload][Go.ConcX.Payload]
def NP(U:HC N Pb cp c1 c2 c d w)(fr:Bool)(b:Int)(vs:Vq) :
  gJ prog (XK (aB prog N Pb Shun val B Mine)) 117 #[.pointer (sq c2),.int .u8 b] (fr,V (aJ c (dm d b).2).2++vs) w (fun q _ r=>q=(fr&&(aJ c (dm d b).2).2.isEmpty,vs)∧HC N Pb cp c1 c2 (aJ c (dm d b).2).1 (dm d b).1 r):=by
 have C:=cK N Pb Shun val B Mine;have T:=tK N Pb Shun val B Mine;have a:=T (true,[]);refine fh func117 rq rfl ?_;simp only[ntmps117,bZ,Nat.reduceAdd,Nat.reduceSub];refine fR C T ?_;co_apply aO C T (eZ.refl _);co_reg (T _);co_op HC.rely U (co_quiet a);iterate 2 co_opw HC.rely U (skip) (co_still a)
 co_opw HC.rely U (have p:=U.cO) (refine dT U ?_;co_evs (exact cM (.inr (.inr rfl))));co_op HC.rely U (co_quiet a);co_apply opsC_nil (T _);co_then;by_cases i:0<d.missing
 ·have o:decide (0<d.missing)=true:=tD i;try simp only[o]
  refine aW C T (t:=true) rfl ?_;simp only[if_true];refine fR C T ?_;by_cases l:d.low≤b
  ·have n:decide (d.low≤b)=true:=tD l;co_apply aO C T (eZ.refl _);co_reg (T _);co_op HC.rely U (co_quiet a);iterate 2 co_opw HC.rely U (skip) (co_still a)
   co_opw HC.rely U (have p:=U.cO) (refine dT U ?_;co_evs (exact cM (.inr (.inr rfl))));iterate 3 co_op HC.rely U (co_quiet a)
   try simp only[n]
   iterate 2 co_op HC.rely U (co_quiet a)
   iterate 2 co_opw HC.rely U (skip) (co_still a)
   co_opw HC.rely U (have p:=U.cO) (refine dT U ?_;co_evs (exact cM (.inr (.inr rfl))));iterate 2 co_op HC.rely U (co_quiet a)
   co_apply opsC_nil (T _);co_then;by_cases k:b≤d.high
   ·have m:decide (b≤d.high)=true:=tD k;try simp only[m]
    refine aW C T (t:=true) rfl ?_;simp only[if_true];refine fR C T ?_;have f:dm d b=cZ d b:=by simp only[dm,ip i,ip (And.intro l k)]
    refine bS C T ?_;simp only[ga,Nat.reduceAdd];iterate 2
     refine aL C rfl rq fun _ g j e=>?_
     replace U:=HC.rely U g
     go_simp
     try (unfold stored;go_simp)
     refine e _ _ ⟨?_,?_⟩
     ·co_quiet a
     try walk_nrm
    refine bW C T rfl rq rfl rfl (by simp[Act.eval]) (by rw[f]) (Gz U fr b vs) ?_;rintro _ _ _ ⟨rfl,U⟩;refine cJ C T ?_;refine na C T ?_;exact⟨.inr rfl,rfl,_,resultsC_none rq _,by simp[f],by rw[f];exact U⟩
   ·have m:decide (b≤d.high)=false:=fD k;try simp only[m]
    refine aW C T (t:=false) rfl ?_;simp only[if_false,Bool.false_eq_true];refine fg C T ?_;have f:dm d b=((dd (gu d).1 b).1,(gu d).2++(dd (gu d).1 b).2):=by simp only[dm,ip i,iw (fun h:d.low≤b∧b≤d.high=>k h.2)]
    rw[f];simp only[lu,ox,List.append_assoc];refine bS C T ?_;simp only[ga,Nat.reduceAdd];refine aL C rfl rq fun _ g j e=>?_;replace U:=HC.rely U g;go_simp;try (unfold stored;go_simp)
    refine e _ _ ⟨?_,?_⟩
    ·co_quiet a
    try walk_nrm
    refine bW C T rfl rq rfl rfl (by simp[Act.eval]) rfl (Gv U fr _) ?_;rintro _ _ _ ⟨rfl,U⟩;refine cJ C T ?_;refine bS C T ?_;simp only[ga,Nat.reduceAdd];iterate 2
     refine aL C rfl rq fun _ g j e=>?_
     replace U:=HC.rely U g
     go_simp
     try (unfold stored;go_simp)
     refine e _ _ ⟨?_,?_⟩
     ·co_quiet a
     try walk_nrm
    refine bW C T rfl rq rfl rfl (by simp[Act.eval]) rfl (vQ U _ b vs) ?_;rintro _ _ _ ⟨rfl,U⟩;refine cJ C T ?_;exact⟨.inl rfl,rfl,_,resultsC_none rq _,by simp[me,Bool.and_assoc],U⟩
  ·have n:decide (d.low≤b)=false:=fD l;co_apply aO C T (eZ.refl _);co_reg (T _);co_op HC.rely U (co_quiet a);iterate 2 co_opw HC.rely U (skip) (co_still a)
   co_opw HC.rely U (have p:=U.cO) (refine dT U ?_;co_evs (exact cM (.inr (.inr rfl))));iterate 3 co_op HC.rely U (co_quiet a)
   try simp only[n]
   iterate 6 co_apply opsC_unwanted (T _) rfl rq
   co_op HC.rely U (co_quiet a);co_apply opsC_nil (T _);co_then;refine aW C T (t:=false) rfl ?_;simp only[if_false,Bool.false_eq_true];refine fg C T ?_;have f:dm d b=((dd (gu d).1 b).1,(gu d).2++(dd (gu d).1 b).2):=by simp only[dm,ip i,iw (fun h:d.low≤b∧b≤d.high=>l h.1)]
   rw[f];simp only[lu,ox,List.append_assoc];refine bS C T ?_;simp only[ga,Nat.reduceAdd];refine aL C rfl rq fun _ g j e=>?_;replace U:=HC.rely U g;go_simp;try (unfold stored;go_simp)
   refine e _ _ ⟨?_,?_⟩
   ·co_quiet a
   try walk_nrm
   refine bW C T rfl rq rfl rfl (by simp[Act.eval]) rfl (Gv U fr _) ?_;rintro _ _ _ ⟨rfl,U⟩;refine cJ C T ?_;refine bS C T ?_;simp only[ga,Nat.reduceAdd];iterate 2
    refine aL C rfl rq fun _ g j e=>?_
    replace U:=HC.rely U g
    go_simp
    try (unfold stored;go_simp)
    refine e _ _ ⟨?_,?_⟩
    ·co_quiet a
    try walk_nrm
   refine bW C T rfl rq rfl rfl (by simp[Act.eval]) rfl (vQ U _ b vs) ?_;rintro _ _ _ ⟨rfl,U⟩;refine cJ C T ?_;exact⟨.inl rfl,rfl,_,resultsC_none rq _,by simp[me,Bool.and_assoc],U⟩
 ·have o:decide (0<d.missing)=false:=fD i;try simp only[o]
  refine aW C T (t:=false) rfl ?_;simp only[if_false,Bool.false_eq_true];refine fg C T ?_;have f:dm d b=dd d b:=by simp only[dm,iw i]
  refine bS C T ?_;simp only[ga,Nat.reduceAdd];iterate 2
   refine aL C rfl rq fun _ g j e=>?_
   replace U:=HC.rely U g
   go_simp
   try (unfold stored;go_simp)
   refine e _ _ ⟨?_,?_⟩
   ·co_quiet a
   try walk_nrm
  refine bW C T rfl rq rfl rfl (by simp[Act.eval]) (by rw[f]) (vQ U fr b vs) ?_;rintro _ _ _ ⟨rfl,U⟩;refine cJ C T ?_;exact⟨.inl rfl,rfl,_,resultsC_none rq _,by simp[f],by rw[f];exact U⟩
end
def BO(P:Program)(w:World)(t:TypeId)(v:Value):(Instr.box t v).run P w=.ok (.pointer (sq w.heap.size)) (w.alloc (.cells v.cells t)):=by simp[Instr.box,newVar,go_sem]
def sf(P:Program)(w:World)(t:TypeId)(v:Value)(es:Array Event):(Instr.box t v).events P w es=es:=by simp[Instr.box,newVar,go_sem]
def p6(U:∀w,(zeroValue t).run P w=.ok z w):(Instr.alloc t true (.tuple #[])).run P w=.ok (.pointer (sq w.heap.size)) (w.alloc (.cells z.cells t)):=by simp[Instr.alloc,newVar,go_sem,U]
def kJ(U:∀w,(zeroValue t).run P w=.ok z w)(es:Array Event):(Instr.alloc t true (.tuple #[])).events P w es=es:=by simp[Instr.alloc,newVar,go_sem,U]
def nw(w:World):∀(a:List Field) (U:List (Nat × Nat)) (es:Array Event),a.mapM (fun f:Field=>(P.info? f.type).map fun i=>(f.offset,i.size))=some U →
  (a.mapM fun f:Field=>Functor.map (Prod.mk f.offset) (sizeOf f.type)).events P w es=es
 | [],U,es,h=>by simp
 | f::a,U,es,h=>by
  simp only[List.mapM_cons,Option.bind_eq_bind,Option.pure_def] at h;cases hi:P.info? f.type with
  | none=>simp[hi] at h
  | some i =>
   cases hr:a.mapM (fun f=>(P.info? f.type).map fun i=>(f.offset,i.size)) with
   | none=>simp[hi,hr] at h
   | some rest =>
    have hs:(sizeOf f.type).run P w=.ok i.size w:=by simp[sizeOf,typeInfo,hi]
    simp[List.mapM_cons,hs,nw w a rest _ hr]
def iR(w:World)(t:TypeId)(a:Array (Nat × Value))(cells:Aq)(h:P.built t a.toList=some cells)(es:Array Event):(Instr.build t a).events P w es=es:=by
 unfold Program.built at h;cases U:P.info? t with
 | none=>simp[U] at h
 | some g =>
  cases hu:P.underlying t with
  | none=>simp[U,hu] at h
  | some d =>
   cases hz:g.zero with
   | none=>cases d<;>simp[U,hu,hz] at h
   | some z =>
    cases d<;>try (simp[U,hu] at h;done)
    case array n e =>
     cases a2:P.info? e with
     | none=>simp[U,hu,hz,a2] at h
     | some j =>simp only[U,hu,hz,a2] at h;simp[Instr.build,run_underlying hu,sizeOf,typeInfo,zeroValue,U,hz,a2,h]
    case struct a0 =>
     cases hp:a0.toList.mapM (fun f=>(P.info? f.type).map fun i=>(f.offset,i.size)) with
     | none=>simp[U,hu,hz,hp] at h
     | some b =>
      simp only[U,hu,hz,hp] at h;have c:Instr.fill (fun x=>b[x]?) z.cells a.toList=some cells:=by simpa using h
      simp[Instr.build,run_underlying hu,typeInfo,zeroValue,U,hz,Array.mapM_eq_mapM_toList,run_places w _ _ hp,nw w _ _ _ hp,c]
def mz(g:Nat)(t:TypeId):∀(vs:Vq) (i:Nat) (a:Aq) (w:World) (es:Array Event),w.heap[g]?=some (.cells a t (0,0))→i+vs.length≤a.size→(∀v∈vs,v.oneCell'=true) →
  ∀b∈(storeCells ⟨g,0,none⟩ vs i).events P w es,b∈es∨∃o,b=⟨.cell ⟨g,o,none⟩,true,false⟩
 | [],_,_,_,_,_,_,_=>fun b h=>.inl (by simpa[storeCells] using h)
 | v::rest,i,a,w,es,hg,hl,h1=>fun b h=>by
  have hi:i<a.size:=by simp at hl;omega
  have c:(⟨g,0,none⟩:Addr).add i=⟨g,i,none⟩:=by unfold Addr.add;split<;>simp_all
  have U:w.cell? ⟨g,i,none⟩=some a[i]:=by simp[World.cell?,hg,hi]
  have d:w.frozen? ⟨g,i,none⟩=false:=by simp[World.frozen?,hg]
  have f:(store ((⟨g,0,none⟩:Addr).add i) v).run P w=.ok () (w.setRow g (a.setIfInBounds i v)):=by rw[c,run_store P w _ v _ (h1 v iq),U];simp[d,setCell_eq_setRow w g i a t (0,0) v hg]
  have e:(store ((⟨g,0,none⟩:Addr).add i) v).events P w es=es.push ⟨.cell ⟨g,i,none⟩,true,false⟩:=by rw[c,events_store P w es _ v _ (h1 v iq),U];simp only[d,Bool.false_eq_true,if_false];rfl
  simp only[storeCells,Sem.events_bind,f,Result.evThen_ok,e] at h;rcases mz g t rest (i+1) (a.setIfInBounds i v) (w.setRow g (a.setIfInBounds i v)) _ (setRow_heap w g a _ t _ hg) (by simp at hl ⊢;omega) (fun x j=>h1 x (by simp[j])) b h with h|h
  ·rcases Array.mem_push.1 h with h|rfl
   ·exact .inl h
   ·exact .inr ⟨_,rfl⟩
  ·exact .inr h
def xe(w:World)(g:Nat)(t ty:TypeId)(old cells:Aq)(d:w.heap[g]?=some (.cells old t (0,0)))(b:(P.info? ty).map (·.size)=some cells.size)(j:old.size=cells.size)(h1:cells.all (·.oneCell')=true) :
  ∀a∈(storeVar ty ⟨g,0,none⟩ (.agg cells)).events P w #[],∃o,a=⟨.cell ⟨g,o,none⟩,true,false⟩:=by
 intro a c;cases hq:P.info? ty with
 | none=>simp[hq] at b
 | some i =>
  have e:cells.size=i.size:=by simp[hq] at b;omega
  have U:a∈(storeCells ⟨g,0,none⟩ cells.toList).events P w #[]:=by simpa[storeVar,sizeOf,typeInfo,hq,Value.cells,e] using c
  rcases mz g t cells.toList 0 old w #[] d (by simp;omega) (fun v f=>(Array.all_eq_true_iff_forall_mem.1 h1) v (by simpa using f)) a U with h|h
  ·simp at h
  ·exact h
abbrev eO:TypeId→Prop:=fun t=>t=177∨t=179∨1016≤t
structure HM(M:World→Nat→Prop)(O:Nat→Prop)(N0:Nat)(Ex:Nat→Prop)(w₀:World)(Bb:Nat)(p u v:Value)(n:Nat)(xs:Vq)(w:World):Prop where
 bd:w.heap[Bb]?=some (.cells #[p,u] 119)
 mb:M w Bb
 ZF:Ex Bb∨w₀.heap.size≤Bb
 ro:lN M Ex w₀ 5 v n xs w
 size:N0≤w.heap.size
 old:Kept M O Ex w₀ w
section
variable {ι:Type}{R:ι→Wq}{D:ι→World→World→Array Event→Prop}{i:ι}{M:World→Nat→Prop}{O:Nat→Prop}{N0:Nat}{Ex:Nat→Prop}{w₀ w aE:World}{Bb:Nat}{p u v:Value}{n:Nat}{xs:Vq}
def eE{e:Event}{ad:Addr}(a:e.loc=.cell ad)(U:M w ad.block):tW (M w) e:=.inl ⟨ad,a,U⟩
def dU(E:Env eO N0 M O (R i) (D i))(U:N0≤w.heap.size)(h:∀e∈es,tW (M w) e):D i w w es:=E.jA U (Own.refl w) h
theorem tW.up{e:Event}(h:tW (M w) e)(U:∀b,M w b→M w' b):tW (M w') e:=h.imp (fun ⟨a,h1,h2⟩=>⟨a,h1,U _ h2⟩) (Or.imp (fun ⟨b,c,h1,h2⟩=>⟨b,c,h1,U _ h2⟩) id)
def wq(E:Env eO N0 M O (R i) (D i))(b:N0≤w.heap.size)(o:Own eO M w w')(h:∀e∈es,tW (M w) e):D i w w' es:=E.jA b o fun e U=>(h e U).up fun _ a=>E.mine o a
end
section
variable {P:Program}
def xK(a:Addr)(j:Nat):(a.add 1).add j=a.add (j+1):=by
 unfold Addr.add;by_cases U:j=0
 ·subst U;simp
 ·simp[U];omega
def j6(w:World):∀(l:Bq) (a:Addr) (U:ByteArray) (es:Array Event),(∀j x,l[j]?=some x→w.cell? (a.add j)=some (.int .u8 x.toNat)) →
  ∀b∈(loadBytes a U l.length).events P w es,b∈es∨∃c,b.loc=.cell c∧c.block=a.block
 | [],a,U,es,_=>fun b h=>.inl (by simpa[loadBytes] using h)
 | x::l,a,U,es,h=>fun b d=>by
  have h0:w.cell? a=some (.int .u8 x.toNat):=by have:=h 0 x rfl;simpa[Addr.add] using this
  simp only[lC,loadBytes,Sem.events_bind,run_load,h0,Result.evThen_ok] at d;rcases j6 w l (a.add 1) _ _ (fun j y e=>by rw[xK];exact h (j+1) y (by simpa using e)) b d with z|⟨c,z1,z2⟩
  ·rcases events_load_at (P:=P) w a .plain es h0 b z with y|⟨y,_⟩
   ·exact .inl y
   ·exact .inr ⟨a,y,rfl⟩
  ·exact .inr ⟨c,z1,by rw[z2,addBlock]⟩
def j7(w:World)(d m ty e:TypeId)(C:P.underlying d=some (.pointer e))(k:P.cellsOf e=1)(g cells:Nat)(v:w.shape? g=some (e,cells))(l:Bq)(y:l≠[])(B:l.length≤cells)(D:l.length≤9223372036854775807)
 (U:∀j x,l[j]?=some x→w.cell? ((⟨g,0,none⟩:Addr).add j)=some (.int .u8 x.toNat)) :
  ∀f∈(Builtin.unsafeString_ #[d,m] ty #[.pointer (sq g),.int .i64 l.length]).events P w #[],∃i,f.loc=.cell i∧i.block=g:=by
 have A:l.length≠0:=by simpa using y
 have u:=Lib.run_loadBytes (P:=P) w l ⟨g,0,none⟩ .empty U;have a:=Lib.liesAt_bytes (P:=P) k (cells / P.cellsOf e) l.length (by rw[k];simpa using B);have b:¬(9223372036854775807:Int)<(l.length:Int):=oq
 obtain⟨o,p,q,r⟩:∃o p q:String,Builtin.unsafeString_ #[d,m] ty #[.pointer (sq g),.int .i64 l.length] =
   (do
    let n ← asInt (.int .i64 l.length)
    if n<0 then runtimePanic (.error o)
    if n>IntKind.i64.max then unsupported (.unsafePointer p)
    if n=0 then pure (.string .empty)
    else if ← variablesAt ⟨g,0,none⟩ (← elemOf d) n.toNat then do
     let s ← loadBytes ⟨g,0,none⟩ .empty n.toNat
     freeze ⟨g,0,none⟩ n.toNat
     pure (.string s)
    else unsupported (.unsafePointer q)):=⟨_,_,_,rfl⟩;rw[r];have t:IntKind.i64.max=9223372036854775807:=rfl;have c:¬(l.length:Int)<0:=oq
 intro f h;simp[asInt,asIntOf,t,b,c,A,variablesAt,v,elemOf,run_underlying C,a,u] at h;rcases j6 (P:=P) w l ⟨g,0,none⟩ .empty #[] U f h with z|z
 ·simp at z
 ·exact z
def qk(w:World)(h:k≠b):(w.freeze ⟨b,0,none⟩ n).heap[k]?=w.heap[k]?:=by
 unfold World.freeze;split
 ·rfl
 ·simp[Array.getElem?_modify,Ne.symm h]
def DW(w:World)(h:w.heap[b]?=some (.cells cs t fz)):∃U,(w.freeze ⟨b,0,none⟩ n).heap[b]?=some (.cells cs t U):=by
 unfold World.freeze;split
 ·exact⟨_,h⟩
 ·simp[Array.getElem?_modify,h]
def Own.freeze{M:World→Nat→Prop}(c:w.heap[b]?=some (.cells cs t fz))(d:M w b)(f:¬KT t)(n:Nat):Own KT M w (w.freeze ⟨b,0,none⟩ n):=by
 have U:(w.freeze ⟨b,0,none⟩ n).tape=w.tape∧(w.freeze ⟨b,0,none⟩ n).os=w.os∧(w.freeze ⟨b,0,none⟩ n).output=w.output∧(w.freeze ⟨b,0,none⟩ n).heap.size=w.heap.size:=by unfold World.freeze;split<;>simp
 refine⟨U.1,U.2.1,U.2.2.1,by rw[U.2.2.2];exact lr,fun k _ a=>qk w (fun e=>a (e▸d)),fun k i h a=>?_⟩;by_cases e:k=b
 ·subst e;have⟨g,h2⟩:=DW w (n:=n) c;rw[h2] at h;cases h;exact absurd a f
 ·exact qk w e
end
def Lr(x:Int)(U:0≤x)(h1:x<256):bits .and .u8 x 63=x % 64:=by
 have h:∀n:_root_.Fin 256,bits .and .u8 (n.val:Int) 63=(n.val:Int) % 64:=by decide +kernel
 have:=h ⟨x.toNat,oq⟩;simpa[Int.toNat_of_nonneg U] using this
def P6(x:Int)(U:0≤x)(h1:x<32):bits .or .u8 192 x=192+x:=by
 have h:∀n:_root_.Fin 32,bits .or .u8 192 (n.val:Int)=192+(n.val:Int):=by decide +kernel
 have:=h ⟨x.toNat,oq⟩;simpa[Int.toNat_of_nonneg U] using this
def P5(x:Int)(U:0≤x)(h1:x<64):bits .or .u8 128 x=128+x:=by
 have h:∀n:_root_.Fin 64,bits .or .u8 128 (n.val:Int)=128+(n.val:Int):=by decide +kernel
 have:=h ⟨x.toNat,oq⟩;simpa[Int.toNat_of_nonneg U] using this
def P7(x:Int)(U:0≤x)(h1:x<16):bits .or .u8 224 x=224+x:=by
 have h:∀n:_root_.Fin 16,bits .or .u8 224 (n.val:Int)=224+(n.val:Int):=by decide +kernel
 have:=h ⟨x.toNat,oq⟩;simpa[Int.toNat_of_nonneg U] using this
def P8(x:Int)(U:0≤x)(h1:x<8):bits .or .u8 240 x=240+x:=by
 have h:∀n:_root_.Fin 8,bits .or .u8 240 (n.val:Int)=240+(n.val:Int):=by decide +kernel
 have:=h ⟨x.toNat,oq⟩;simpa[Int.toNat_of_nonneg U] using this
def Qy(x:Int):bits .or .u8 128 (bits .and .u8 (IntKind.u8.wrap x) 63)=128+x % 64:=by
 have U:IntKind.u8.wrap x=x % 256:=by rw[IntKind.wrap_u8]
 rw[U,Lr _ oq oq,P5 _ oq oq];omega
def Good (r:Int):Prop:=(0≤r∧r<55296)∨(57343<r∧r≤1114111)
section
variable {ι:Type}{R:ι→Wq}{D:ι→World→World→Array Event→Prop}{X:ι→Gq}{i:ι}{M:World→Nat→Prop}{O:Nat→Prop}{N0:Nat}{Ex:Nat→Prop}{w₀ w aE:World}{Bb:Nat}{p u v:Value}{n:Nat}{xs:Vq}
variable {r:Int}
def n5{R:ι→World→World→Prop}{D:ι→World→World→Array Event→Prop}{X:ι→Goroutine→World→Prop}{fn:FuncId}{Q:dV ι}{a:Act}{vs:ι}(C:bw P main R D X)(T:∀i,Terms (R i) (D i))
 {i:Nat}{f:FuncId}{aM:Func}{Lt:Array Operand}{ats:Array TypeId}{e:Array Value→Sem Value}{x:Value}(ho:ops[i]?=some o)(hw:Region.wanted o (yielded ops a.tmps)=true)(sI:o.op=.call { callee:=.value (.func f),args:=Lt,argTypes:=ats })
 (hf : P.funcs[f]? = some aM)(jo : (aM.name == "runtime.NumGoroutine") = false)(hb : aM.body.isNone = true)(hn : Extern.findNext aM = none)(he : Extern.find aM = some e){args' : Array Value}(O2 : Lt.map a.eval = args')(Ti : ∀ w, (e args').run P w = .ok x w)(Fh : ∀ w es, (e args').events P w es = es)
 (h:ck X fn ops rest vs Q (a.put o.dst x) w):ck X fn ops (i::rest) vs Q a w:=fun b k cs pV hk hc=>C.step rfl fun aE gv=>by subst O2;rw[stepG_entry ho hw hk sI hf jo hb hn he (Ti aE) (evs:=#[]) (by rw[Fh]; rfl) iq];exact⟨(T vs).idle _,C.rely (h b k cs pV hk hc) gv⟩
end
section
variable {N Pb:Nat}{Shun:Loc→Prop}{val:Value}{B:Nat}{Mine:Loc→Prop}{Ex:Nat→Prop}{w₀ w aE:World}{AnchW:Gq}{u v:Value}{tk rest:Iq}{en:Bool}{Rb:Nat}
def oh (Rb:Nat)(v:Value)(b:Nat):Prop:=b=Rb∨v.ownBlock=some b
structure HW(K:Cfg)(Ex:Nat→Prop)(w₀:World)(Rb:Nat)(u v:Value)(tk:Iq)(en:Bool)(w:World):Prop where
 rb:w.heap[Rb]?=some (.cells #[.chan (some K.A),.chan (some K.E),u,.bool en] 175)
 mr:c9 K w Rb
 N7:Ex Rb∨w₀.heap.size≤Rb
 ro:lN (c9 K) Ex w₀ 21 v tk.length (V tk) w
 size:K.N0≤w.heap.size
 old:Kept (c9 K) (gG K) Ex w₀ w
def HW.cells(h:HW K Ex w₀ Rb u v tk en w):w.cell? ⟨Rb,0,none⟩=some (.chan (some K.A))∧w.cell? ⟨Rb,1,none⟩=some (.chan (some K.E))∧w.cell? ⟨Rb,2,none⟩=some u∧w.cell? ⟨Rb,3,none⟩=some (.bool en)∧w.frozen? ⟨Rb,2,none⟩=false∧w.frozen? ⟨Rb,3,none⟩=false:=by simp[World.cell?,World.frozen?,h.rb]
def HW.slice(h:HW K Ex w₀ Rb u v tk en w):∃x c,v=.slice x tk.length c:=by
 rcases h.ro.row.2 with ⟨z,U⟩|⟨g,cap,cur,rfl,_⟩
 ·exact⟨_,_,by rw[z,U]⟩
 ·exact⟨_,_,rfl⟩
def HW.vm(E:Env KT K.N0 (c9 K) (gG K) R D)(h:HW K Ex w₀ Rb u v tk en w)(r:R w aE):HW K Ex w₀ Rb u v tk en aE :=
 ⟨(E.keep r h.mr).trans h.rb,E.stay r h.mr,h.N7,h.ro.rely E r,lT h.size (E.size r),h.old.rely E r⟩
def HW.lg(h:HW K Ex w₀ Rb u v tk en w):HW K (oh Rb v) w Rb u v tk en w:=⟨h.rb,h.mr,.inl (.inl rfl),⟨h.ro.row,fun k U=>⟨(h.ro.own k U).1,.inl (.inr U)⟩,h.ro.nil⟩,h.size,Kept.refl w⟩
def HW.Ba(h:HW (aB prog N Pb Shun val B Mine) Ex w₀ Rb u v tk en w)(o:Nat)(x:Value):Own eO (c9 (aB prog N Pb Shun val B Mine)) w (w.setCell ⟨Rb,o,none⟩ x):=Own.setCell h.rb h.mr (by simp[eO])
def HW.Qq(F:Cfg.Fit (aB prog N Pb Shun val B Mine))(h:HW (aB prog N Pb Shun val B Mine) Ex w₀ Rb u v tk en w)(o:Nat)(x d:Value)(U:Bool)(f:(#[.chan (some (N+2)),.chan (some (N+4)),u,.bool en]:Aq).setIfInBounds o x=#[.chan (some (N+2)),.chan (some (N+4)),d,.bool U]):HW (aB prog N Pb Shun val B Mine) Ex w₀ Rb d v tk U (w.setCell ⟨Rb,o,none⟩ x):=by
 have a:=h.Ba o x;have E:=ym F;refine⟨(dr h.rb _).trans (by rw[show Cfg.A (aB prog N Pb Shun val B Mine)=N+2 from rfl,show Cfg.E (aB prog N Pb Shun val B Mine)=N+4 from rfl,f]),E.mine a h.mr,h.N7,h.ro.same fun k c=>⟨HC.ia w _ (h.ro.ne h.rb dq c),E.mine a (h.ro.own k c).1⟩,by simpa[World.setCell] using h.size,h.old.own E a fun b e g=>HC.ia w _ ?_⟩;rintro rfl;rcases h.N7 with z|z
 ·exact g z
 ·have:=E.lt e;omega
structure HV(K:Cfg)(Ex:Nat→Prop)(w₀:World)(Rb:Nat)(u v:Value)(tk:Iq)(en:Bool)(news:Vq)(g:Nat)(w:World):Prop where
 hw:HW K Ex w₀ Rb u v tk en w
 src:FB (c9 K) 21 news g w
def HW.built(F:Cfg.Fit (aB prog N Pb Shun val B Mine))(h:HW (aB prog N Pb Shun val B Mine) Ex w₀ Rb u v tk en w)(news:Vq):HV (aB prog N Pb Shun val B Mine) Ex w₀ Rb u v tk en news w.heap.size (w.alloc (.cells news.toArray 21)):=by have E:=ym F;have o:Own eO (c9 (aB prog N Pb Shun val B Mine)) w (w.alloc (.cells news.toArray 21)):=Own.alloc (by simp[eO]);refine⟨⟨(Below.heap_alloc _ _ _ (E.lt h.mr)).trans h.rb,E.mine o h.mr,h.N7,h.ro.same fun k a=>⟨Below.heap_alloc _ _ _ (E.lt (h.ro.own k a).1),E.mine o (h.ro.own k a).1⟩,by simp[World.size_alloc];have:=h.size;omega,h.old.own E o fun b c _=>Below.heap_alloc _ _ _ (E.lt (h.old.mine b c))⟩,heap_alloc_new w _,E.new h.size o lr (by simp[World.size_alloc])⟩
def HV.vm(E:Env KT K.N0 (c9 K) (gG K) R D)(h:HV K Ex w₀ Rb u v tk en news g w)(r:R w aE):HV K Ex w₀ Rb u v tk en news g aE:=⟨h.hw.vm E r,h.src.rely E r⟩
def FT(E:Env eO (N+9) (c9 (aB prog N Pb Shun val B Mine)) (gG (aB prog N Pb Shun val B Mine)) R D){r:Int}(h:HV (aB prog N Pb Shun val B Mine) Ex w₀ Rb u v tk en (V [r]) g w)(l:tk.length≤1000000)(ty:TypeId) :
  ∃b a,(Builtin.append_ #[173,173] ty #[v,.slice (sq g) 1 1]).run prog w=.ok b a∧HW (aB prog N Pb Shun val B Mine) Ex w₀ Rb u b (tk++[r]) en a ∧
   D w a ((Builtin.append_ #[173,173] ty #[v,.slice (sq g) 1 1]).events prog w #[]) ∧
   ∀e∈(Builtin.append_ #[173,173] ty #[v,.slice (sq g) 1 1]).events prog w #[],∀m,e.loc=.mark m→m=.noRoom:=by
 have⟨b,a,k,j,f,U,d,c,i⟩:=FR (P:=prog) E h.hw.size (by simp[eO]) h.hw.old h.hw.ro h.src 173 ty (.int .i32 0) 4 underlying173 kq rfl (by simp[V,Value.oneCell']) (by simp[V];unfold maxLen;omega) (by simp[V];omega);refine⟨b,a,k,⟨(d Rb (E.lt h.hw.mr) fun e=>h.hw.ro.ne h.hw.rb dq e rfl).trans h.hw.rb,E.mine U h.hw.mr,h.hw.N7,?_,lT h.hw.size U.grow,f⟩,c,i⟩;have e1:(tk++[r]).length=tk.length+(V [r]).length:=by simp[V]
 rw[e1,ox];exact j
def E8 (rest:Iq)(en:Bool)(i:Ph):Prop:=(en=false∧(i=.front (V rest)∨i=.walk (V rest)))∨(en=true∧i=.over∧rest=[])
def E8.early{i:Ph}(h:E8 rest en i):i.early:=by rcases h with ⟨_,rfl|rfl⟩|⟨_,rfl,_⟩<;>exact trivial
variable [Go.ConcR.Payload][Go.ConcX.Payload]
variable [Go.ConcX.Shy (Cfg.Wg (aB prog N Pb Shun val B Mine)) (Cfg.C (aB prog N Pb Shun val B Mine))]
def HW.rely{i:Ph}(E:Env eO (N+9) (c9 (aB prog N Pb Shun val B Mine)) (gG (aB prog N Pb Shun val B Mine)) (nh (aB prog N Pb Shun val B Mine) i) (rZ (aB prog N Pb Shun val B Mine) i))(h:HW (aB prog N Pb Shun val B Mine) Ex w₀ Rb u v tk en w)(r:nh (aB prog N Pb Shun val B Mine) i w aE):HW (aB prog N Pb Shun val B Mine) Ex w₀ Rb u v tk en aE:=HW.vm (K:=(aB prog N Pb Shun val B Mine)) E h r
def HV.rely{i:Ph}(E:Env eO (N+9) (c9 (aB prog N Pb Shun val B Mine)) (gG (aB prog N Pb Shun val B Mine)) (nh (aB prog N Pb Shun val B Mine) i) (rZ (aB prog N Pb Shun val B Mine) i))(h:HV (aB prog N Pb Shun val B Mine) Ex w₀ Rb u v tk en news g w)(r:nh (aB prog N Pb Shun val B Mine) i w aE):HV (aB prog N Pb Shun val B Mine) Ex w₀ Rb u v tk en news g aE:=HV.vm (K:=(aB prog N Pb Shun val B Mine)) E h r
def HW.Bv{i:Ph}(F:Cfg.Fit (aB prog N Pb Shun val B Mine))(h:HW (aB prog N Pb Shun val B Mine) Ex w₀ Rb u v tk en w)(r:RM (aB prog N Pb Shun val B Mine) w aE):HW (aB prog N Pb Shun val B Mine) Ex w₀ Rb u v tk en aE:=HW.vm (K:=(aB prog N Pb Shun val B Mine)) (ym F) h r
def vk{i:Ph}(q:Cfg.Fit (aB prog N Pb Shun val B Mine))(U:HW (aB prog N Pb Shun val B Mine) Ex w₀ Rb v v tk false w)(G:i=.front (V rest)∨i=.walk (V rest))(hn:tk.length≤1000000) :
  eA prog (XM (aB prog N Pb Shun val B Mine) AnchW) 203 #[.pointer (sq Rb)] i w (fun M _ R=>(∃r l O,rest=r::l∧M=.walk (V l)∧HW (aB prog N Pb Shun val B Mine) Ex w₀ Rb O O (tk++[r]) false R)∨(rest=[]∧M=.over∧HW (aB prog N Pb Shun val B Mine) Ex w₀ Rb v v tk true R)):=by
 have C:bw prog true (nh (aB prog N Pb Shun val B Mine)) (rZ (aB prog N Pb Shun val B Mine)) (XM (aB prog N Pb Shun val B Mine) AnchW):=XM.closed (K:=(aB prog N Pb Shun val B Mine));have T:=qH (K:=(aB prog N Pb Shun val B Mine));have ZE:∀(w:World) (g:Array Event) (a:Addr) (m:Mode) (x:Option Addr),(store a (.pointer x) m).events prog w g=storedEv prog w g a (.pointer x) m:=fun w g a m x=>events_store prog w g a _ m rfl;have ZD:∀(w:World) (g:Array Event) (a:Addr) (m:Mode) (x:Option Addr) (l c:Nat),(store a (.slice x l c) m).events prog w g=storedEv prog w g a (.slice x l c) m:=fun w g a m x l c=>events_store prog w g a _ m rfl;have WC:∀(w:World) (g:Array Event) (a:Addr) (m:Mode) (x:Bool),(store a (.bool x) m).events prog w g=storedEv prog w g a (.bool x) m:=fun w g a m x=>events_store prog w g a _ m rfl;have E:Env eO (N+9) (c9 (aB prog N Pb Shun val B Mine)) (gG (aB prog N Pb Shun val B Mine)) (nh (aB prog N Pb Shun val B Mine) i) (rZ (aB prog N Pb Shun val B Mine) i):=yo (K:=(aB prog N Pb Shun val B Mine)) q (by rcases G with rfl|rfl<;>exact trivial);have j:∀(a:Act) (o:Oper) w,o.op=.select #[{ chan:=.tmp 6,send:=none,elem:=21 },{ chan:=.tmp 10,send:=none,elem:=160 }] true→a.eval (.tmp 6)=.chan (some (N+2))→a.eval (.tmp 10)=.chan (some (N+4))→(execOp a.eval o).run prog w=.ok (.comm (Cfg.cases (aB prog N Pb Shun val B Mine)) true .select) w∧(execOp a.eval o).events prog w #[]=#[]:=by
  intro a o w L D F;simp only[Act.eval,Array.getD_eq_getD_getElem?] at D F;constructor
  ·unfold execOp;simp[L,D,F,Cfg.cases,aB,rcase,Tryz.zeroValue21,Tryz.zeroValue160,go_sem]
  ·unfold execOp;simp[L,D,F,Tryz.zeroValue21,go_sem]
 have X:∀r,commResult (Cfg.cases (aB prog N Pb Shun val B Mine)) .select 0 (.int .i32 r) true=.tuple #[.int .i64 0,.bool true,.int .i32 r,.agg #[]]:=fun r=>by simp[commResult,Cfg.cases,aB,rcase,goInt]
 have Y:commResult (Cfg.cases (aB prog N Pb Shun val B Mine)) .select 1 (Cfg.zE (aB prog N Pb Shun val B Mine)) false=.tuple #[.int .i64 1,.bool false,.int .i32 0,.agg #[]]:=by simp[commResult,Cfg.cases,aB,rcase,goInt]
 refine gz func203 rq rfl ?_;simp only[ntmps203,bZ,Nat.reduceAdd,Nat.reduceSub];iterate 2 refine cj C T ?_
 refine aR C T ?_;simp only[ga,Nat.reduceAdd];iterate 4
  refine aF C rfl rq fun _ d k b=>?_
  replace U:=HW.rely E U d
  have p:=U.cells
  go_simp
  try (unfold stored;go_simp)
  refine b _ _ ⟨?_,?_⟩
  ·first|(rw[listed_nil];exact Terms.idle (T _) _;first|(simp[go_sem];done)|(simp[go_sem, *];done))|(refine dU E U.size ?_;co_evs (exact eE rfl U.mr))
  try walk_nrm
 refine bq C T ?_;refine aR C T ?_;simp only[ga,Nat.reduceAdd];iterate 4
  refine aF C rfl rq fun _ d k b=>?_
  replace U:=HW.rely E U d
  have p:=U.cells
  go_simp
  try (unfold stored;go_simp)
  refine b _ _ ⟨?_,?_⟩
  ·first|(rw[listed_nil];exact Terms.idle (T _) _;first|(simp[go_sem];done)|(simp[go_sem, *];done))|(refine dU E U.size ?_;co_evs (exact eE rfl U.mr))
  try walk_nrm
 refine bq C T ?_;simp only[show Cfg.A (aB prog N Pb Shun val B Mine)=N+2 from rfl,show Cfg.E (aB prog N Pb Shun val B Mine)=N+4 from rfl];refine cj C T ?_;refine aR C T ?_;simp only[ga,Nat.reduceAdd];by_cases J:rest=[]
 ·obtain rfl:rest=[]:=J;refine Hl G rfl rq (fun w=>(j _ _ w rfl rfl rfl).1) (fun w=>(j _ _ w rfl rfl rfl).2) fun z n hs=>?_;replace U:=HW.Bv (i:=.over) q U n;have E:Env eO (N+9) (c9 (aB prog N Pb Shun val B Mine)) (gG (aB prog N Pb Shun val B Mine)) (nh (aB prog N Pb Shun val B Mine) .over) (rZ (aB prog N Pb Shun val B Mine) .over):=yo (K:=(aB prog N Pb Shun val B Mine)) q trivial;simp only[Y];try walk_nrm
  iterate 3
   refine aF C rfl rq fun _ d k b=>?_
   replace U:=HW.rely E U d
   have p:=U.cells
   go_simp
   try (unfold stored;go_simp)
   refine b _ _ ⟨?_,?_⟩
   ·first|(rw[listed_nil];exact Terms.idle (T _) _;first|(simp[go_sem];done)|(simp[go_sem, *];done))|(refine dU E U.size ?_;co_evs (exact eE rfl U.mr))
   try walk_nrm
  refine bq C T ?_;refine gD C T ?_;refine eU C T (t:=false) rfl ?_;simp only[if_false,Bool.false_eq_true];refine eU C T (t:=true) rfl ?_;simp only[if_true];refine aR C T ?_;simp only[ga,Nat.reduceAdd];iterate 3
   refine aF C rfl rq fun _ d k b=>?_
   replace U:=HW.rely E U d
   have p:=U.cells
   go_simp
   try (unfold stored;go_simp)
   refine b _ _ ⟨?_,?_⟩
   ·first|(rw[listed_nil];exact Terms.idle (T _) _;first|(simp[go_sem];done)|(simp[go_sem, *];done))|(refine dU E U.size ?_;co_evs (exact eE rfl U.mr))
   try walk_nrm
  refine aF C rfl rq fun _ d k b=>?_;replace U:=HW.rely E U d;have p:=U.cells;go_simp;try (unfold stored;go_simp)
  refine b _ _ ⟨?_,?_⟩
  ·exact wq E U.size (U.Ba _ _) (by co_evs (exact eE rfl U.mr))
  try walk_nrm
  replace U:=U.Qq q 3 (.bool true) v true rfl;refine bq C T ?_;exact⟨.inl rfl,rfl,_,resultsC_none rq _,.inr ⟨by first|rfl|trivial,rfl,U⟩⟩
 ·obtain⟨r,u,rfl⟩:∃r u,rest=r::u:=by cases rest with|nil=>exact absurd rfl J|cons r t=>exact⟨r,t,rfl⟩
  refine yZ (v:=.int .i32 r) (vs:=V u) G rfl rq (fun w=>(j _ _ w rfl rfl rfl).1) (fun w=>(j _ _ w rfl rfl rfl).2) fun z n hs=>?_;replace U:=HW.Bv (i:=.over) q U n;have E:Env eO (N+9) (c9 (aB prog N Pb Shun val B Mine)) (gG (aB prog N Pb Shun val B Mine)) (nh (aB prog N Pb Shun val B Mine) (.walk (V u))) (rZ (aB prog N Pb Shun val B Mine) (.walk (V u))):=yo (K:=(aB prog N Pb Shun val B Mine)) q trivial;simp only[X];try walk_nrm
  iterate 3
   refine aF C rfl rq fun _ d k b=>?_
   replace U:=HW.rely E U d
   have p:=U.cells
   go_simp
   try (unfold stored;go_simp)
   refine b _ _ ⟨?_,?_⟩
   ·first|(rw[listed_nil];exact Terms.idle (T _) _;first|(simp[go_sem];done)|(simp[go_sem, *];done))|(refine dU E U.size ?_;co_evs (exact eE rfl U.mr))
   try walk_nrm
  refine bq C T ?_;refine gD C T ?_;refine eU C T (t:=true) rfl ?_;simp only[if_true];refine cj C T ?_;refine aR C T ?_;simp only[ga,Nat.reduceAdd];iterate 2
   refine aF C rfl rq fun _ d k b=>?_
   replace U:=HW.rely E U d
   have p:=U.cells
   go_simp
   try (unfold stored;go_simp)
   refine b _ _ ⟨?_,?_⟩
   ·first|(rw[listed_nil];exact Terms.idle (T _) _;first|(simp[go_sem];done)|(simp[go_sem, *];done))|(refine dU E U.size ?_;co_evs (exact eE rfl U.mr))
   try walk_nrm
  refine bq C T ?_;refine aR C T ?_;simp only[ga,Nat.reduceAdd];iterate 6
   refine aF C rfl rq fun _ d k b=>?_
   replace U:=HW.rely E U d
   have p:=U.cells
   go_simp
   try (unfold stored;go_simp)
   refine b _ _ ⟨?_,?_⟩
   ·first|(rw[listed_nil];exact Terms.idle (T _) _;first|(simp[go_sem];done)|(simp[go_sem, *];done))|(refine dU E U.size ?_;co_evs (exact eE rfl U.mr))
   try walk_nrm
  refine aF C rfl rq fun _ d k b=>?_;replace U:=HW.rely E U d;go_simp;try (unfold stored;go_simp)
  refine b _ _ ⟨?_,?_⟩
  ·refine wq E U.size (Own.alloc (by simp[eO])) ?_;co_evs (skip)
  try walk_nrm
  replace U:=U.built q (V [r]);refine aF C rfl rq fun _ d k b=>?_;replace U:=HV.rely E U d;have⟨Q,S,y,s,hD,H⟩:=FT E U hn 173;refine uponK_append (Operand.tmp 20) (Operand.tmp 22) 173 rfl rfl rfl y (b _ _ ⟨?_,?_⟩)
  ·have Z:=seen_eq (P:=prog) (fn:=203) kq (fun e he f h=>by cases H e he _ h);unfold listed;rw[events_append_op (Operand.tmp 20) (Operand.tmp 22) 173 rfl rfl rfl];exact(congrArg (rZ (aB prog N Pb Shun val B Mine) _ _ _) Z).mpr hD
  replace U:=s;try walk_nrm
  obtain⟨W,I,rfl⟩:=U.slice;iterate 2
   refine aF C rfl rq fun _ d k b=>?_
   replace U:=HW.rely E U d
   have p:=U.cells
   go_simp
   try (unfold stored;go_simp)
   refine b _ _ ⟨?_,?_⟩
   ·first|(rw[listed_nil];exact Terms.idle (T _) _;first|(simp[go_sem];done)|(simp[go_sem, *];done))|(refine dU E U.size ?_;co_evs (exact eE rfl U.mr))
   try walk_nrm
  refine aF C rfl rq fun _ d k b=>?_;replace U:=HW.rely E U d;have p:=U.cells;go_simp;try (unfold stored;go_simp)
  refine b _ _ ⟨?_,?_⟩
  ·exact wq E U.size (U.Ba _ _) (by co_evs (exact eE rfl U.mr))
  try walk_nrm
  replace U:=U.Qq q 2 (.slice W (tk++[r]).length I) (.slice W (tk++[r]).length I) false rfl;rw[show(tk++[r]).length=tk.length+1 by simp] at U;refine bq C T ?_;exact⟨.inl rfl,rfl,_,resultsC_none rq _,.inl ⟨r,u,_,by first|rfl|trivial,rfl,U⟩⟩
end
section
variable {N Pb:Nat}{Shun:Loc→Prop}{val:Value}{B:Nat}{Mine:Loc→Prop}{Ex:Nat→Prop}{w₀ w aE:World}{AnchW:Gq}{u v:Value}{tk rest:Iq}{en:Bool}{Rb:Nat}
variable [Go.ConcR.Payload][Go.ConcX.Payload]
variable [Go.ConcX.Shy (Cfg.Wg (aB prog N Pb Shun val B Mine)) (Cfg.C (aB prog N Pb Shun val B Mine))]
def Fo (rest:Iq)(en:Bool):Nat:=rest.length+if en then 0 else 1
def Jx{i:Ph}(Fi:Cfg.Fit (aB prog N Pb Shun val B Mine))(all:Iq)(U:tk++rest=all)(hn:all.length≤1000000)(hF:HW (aB prog N Pb Shun val B Mine) Ex w₀ Rb v v tk en w)(a1:E8 rest en i) :
  eA prog (XM (aB prog N Pb Shun val B Mine) AnchW) 114 #[.pointer (sq Rb)] i w (fun i' _ w'=>i'=.over∧∃v',HW (aB prog N Pb Shun val B Mine) Ex w₀ Rb v' v' all true w'):=by
 have C:bw prog true (nh (aB prog N Pb Shun val B Mine)) (rZ (aB prog N Pb Shun val B Mine)) (XM (aB prog N Pb Shun val B Mine) AnchW):=XM.closed (K:=(aB prog N Pb Shun val B Mine));have T:=qH (K:=(aB prog N Pb Shun val B Mine));refine gz func114 rq rfl ?_;simp only[ntmps114,bZ,Nat.reduceAdd,Nat.reduceSub];refine gD C T ?_;refine zK C T (fun m i a w=>∃v tk rest en,m=Fo rest en∧E8 rest en i∧HW (aB prog N Pb Shun val B Mine) Ex w₀ Rb v v tk en w∧tk++rest=all∧∃x2 x3 x4 x5 x6 x7 x8,a=⟨#[.pointer (sq Rb),undef,x2,x3,x4,x5,x6,x7,x8],[]⟩) (Fo rest en) ⟨v,tk,rest,en,rfl,a1,hF,U,_,_,_,_,_,_,_,rfl⟩ ?_;rintro m i a w ⟨v,tk,rest,en,rfl,a1,hF,U,x2,x3,x4,x5,x6,x7,x8,rfl⟩;have E:Env eO (N+9) (c9 (aB prog N Pb Shun val B Mine)) (gG (aB prog N Pb Shun val B Mine)) (nh (aB prog N Pb Shun val B Mine) _) (rZ (aB prog N Pb Shun val B Mine) _):=yo (K:=(aB prog N Pb Shun val B Mine)) Fi a1.early;have Pu:tk.length≤1000000:=by rw[← U] at hn;simp at hn;omega
 rcases a1 with ⟨rfl,hi⟩|⟨rfl,rfl,rfl⟩
 ·refine cj C T ?_;refine cj C T ?_;refine aR C T ?_;simp only[ga,Nat.reduceAdd];iterate 5
   refine aF C rfl rq fun _ hR Kx a0=>?_
   replace hF:=HW.rely E hF hR
   have hc:=hF.cells
   go_simp
   try (unfold stored;go_simp)
   refine a0 _ _ ⟨?_,?_⟩
   ·first|(rw[listed_nil];exact Terms.idle (T _) _;first|(simp[go_sem];done)|(simp[go_sem, *];done))|(refine dU E hF.size ?_;co_evs (exact eE rfl hF.mr))
   try walk_nrm
  refine bq C T ?_;refine eU C T (t:=true) rfl ?_;simp only[if_true];refine mB C T ?_;refine gD C T ?_;refine aR C T ?_;simp only[ga,Nat.reduceAdd];refine aF C rfl rq fun _ hR Kx a0=>?_;replace hF:=HW.rely E hF hR;go_simp;try (unfold stored;go_simp)
  refine a0 _ _ ⟨?_,?_⟩
  ·co_quiet (T _)
  try walk_nrm
  refine jw C T rfl rq rfl rfl (by simp[Act.eval]) rfl (vk Fi hF hi Pu) ?_;rintro _ _ _ (⟨r,l,v2,rfl,rfl,hF⟩|⟨rfl,rfl,hF⟩)
  ·refine bq C T ?_;exact⟨Fo l false,by simp[Fo],v2,_,l,false,rfl,.inl ⟨rfl,.inr rfl⟩,hF,by rw[← U];simp,_,_,_,_,_,_,_,rfl⟩
  ·refine bq C T ?_;exact⟨Fo [] true,by simp[Fo],v,_,[],true,rfl,.inr ⟨rfl,rfl,rfl⟩,hF,U,_,_,_,_,_,_,_,rfl⟩
 ·refine cj C T ?_;refine cj C T ?_;refine aR C T ?_;simp only[ga,Nat.reduceAdd];iterate 5
   refine aF C rfl rq fun _ hR Kx a0=>?_
   replace hF:=HW.rely E hF hR
   have hc:=hF.cells
   go_simp
   try (unfold stored;go_simp)
   refine a0 _ _ ⟨?_,?_⟩
   ·first|(rw[listed_nil];exact Terms.idle (T _) _;first|(simp[go_sem];done)|(simp[go_sem, *];done))|(refine dU E hF.size ?_;co_evs (exact eE rfl hF.mr))
   try walk_nrm
  refine bq C T ?_;refine eU C T (t:=false) rfl ?_;simp only[if_false,Bool.false_eq_true];refine pM C T ?_;simp only[jp,vz,if_true];rw[List.append_nil] at U;subst U;refine⟨.inl ?_,?_,_,resultsC_none rq _,?_,_,hF⟩<;>first|rfl|trivial
def R7{i:Ph}(Fi:Cfg.Fit (aB prog N Pb Shun val B Mine))(all:Iq)(place:Nat)(a0:tk++rest=all)(hn:all.length≤1000000)(hF:HW (aB prog N Pb Shun val B Mine) Ex w₀ Rb v v tk en w)(a1:E8 rest en i) :
  eA prog (XM (aB prog N Pb Shun val B Mine) AnchW) 146 #[.pointer (sq Rb),.int .i64 (place:Int)] i w (fun i' x w'=>x=.int .i32 (all[place]?.getD (-1))∧∃v' a5 a2 a4,a5++a2=all∧E8 a2 a4 i'∧HW (aB prog N Pb Shun val B Mine) Ex w₀ Rb v' v' a5 a4 w'):=by
 have C:bw prog true (nh (aB prog N Pb Shun val B Mine)) (rZ (aB prog N Pb Shun val B Mine)) (XM (aB prog N Pb Shun val B Mine) AnchW):=XM.closed (K:=(aB prog N Pb Shun val B Mine));have T:=qH (K:=(aB prog N Pb Shun val B Mine));have lns:∀x n c w es,(Builtin.len_ #[173] 3 #[.slice x n c]).events prog w es=es:=fun x n c w es=>by simp[Builtin.len_,go_sem]
 have E:Env eO (N+9) (c9 (aB prog N Pb Shun val B Mine)) (gG (aB prog N Pb Shun val B Mine)) (nh (aB prog N Pb Shun val B Mine) i) (rZ (aB prog N Pb Shun val B Mine) i):=yo (K:=(aB prog N Pb Shun val B Mine)) Fi a1.early;refine gz func146 rq rfl ?_;simp only[ntmps146,bZ,Nat.reduceAdd,Nat.reduceSub];refine cj C T ?_;refine aR C T ?_;simp only[ga];refine aF C rfl rq fun _ hR Kx U=>?_;replace hF:=HW.rely E hF hR;go_simp;try (unfold stored;go_simp)
 refine U _ _ ⟨?_,?_⟩
 ·co_quiet (T _)
 try walk_nrm
 refine bq C T ?_;refine cj C T ?_;refine gD C T ?_;refine zK C T (fun m i a w=>∃v tk rest en,m=Fo rest en∧E8 rest en i∧HW (aB prog N Pb Shun val B Mine) Ex w₀ Rb v v tk en w∧tk++rest=all∧∃x5 x6 x7 x8 x9 VS Rn VT VU VV VW QI QJ QK QL QM,a=⟨#[.pointer (sq Rb),.int .i64 (place:Int),undef,undef,.int .i32 0,x5,x6,x7,x8,x9,VS,Rn,VT,VU,VV,VW,QI,QJ,QK,QL,QM,undef,undef,undef,undef,undef,undef,undef,undef,undef,undef,undef,undef,undef,undef],[]⟩) (Fo rest en) ⟨v,tk,rest,en,rfl,a1,hF,a0,_,_,_,_,_,_,_,_,_,_,_,_,_,_,_,_,rfl⟩ ?_;rintro m i a w ⟨v,tk,rest,en,rfl,a1,hF,a0,x5,x6,x7,x8,x9,VS,Rn,VT,VU,VV,VW,QI,QJ,QK,QL,QM,rfl⟩;have E:Env eO (N+9) (c9 (aB prog N Pb Shun val B Mine)) (gG (aB prog N Pb Shun val B Mine)) (nh (aB prog N Pb Shun val B Mine) _) (rZ (aB prog N Pb Shun val B Mine) _):=yo (K:=(aB prog N Pb Shun val B Mine)) Fi a1.early;have Pu:tk.length≤1000000:=by rw[← a0] at hn;simp at hn;omega
 obtain⟨x1,c1,rfl⟩:=hF.slice;by_cases Of:place<tk.length
 ·have hb:decide ((tk.length:Int)≤(place:Int))=false:=fD oq;have wE:decide (tk.length≤place)=false:=fD oq;iterate 2 refine cj C T ?_
  refine aR C T ?_;simp only[ga,Nat.reduceAdd];iterate 7
   refine aF C rfl rq fun _ hR Kx U=>?_
   replace hF:=HW.rely E hF hR
   have hc:=hF.cells
   go_simp
   try (unfold stored;go_simp)
   refine U _ _ ⟨?_,?_⟩
   ·first|(rw[listed_nil];exact Terms.idle (T _) _;first|(simp[go_sem];done)|(simp[go_sem, *];done))|(refine dU E hF.size ?_;co_evs (exact eE rfl hF.mr))
   try walk_nrm
  try simp only[hb,wE]
  refine aF C rfl rq fun _ hR Kx U=>?_;replace hF:=HW.rely E hF hR;go_simp;try (unfold stored;go_simp)
  refine U _ _ ⟨?_,?_⟩
  ·co_quiet (T _)
  iterate 5
   try walk_nrm
   refine gm C T rfl rq ?_
  try walk_nrm
  refine aF C rfl rq fun _ hR Kx U=>?_;replace hF:=HW.rely E hF hR;go_simp;try (unfold stored;go_simp)
  refine U _ _ ⟨?_,?_⟩
  ·co_quiet (T _)
  try walk_nrm
  refine bq C T ?_;refine eU C T (t:=false) rfl ?_;simp only[if_false,Bool.false_eq_true];refine pM C T ?_;simp only[jp,vz,if_true];iterate 2 refine cj C T ?_
  refine aR C T ?_;simp only[ga,Nat.reduceAdd];iterate 7
   refine aF C rfl rq fun _ hR Kx U=>?_
   replace hF:=HW.rely E hF hR
   have hc:=hF.cells
   go_simp
   try (unfold stored;go_simp)
   refine U _ _ ⟨?_,?_⟩
   ·first|(rw[listed_nil];exact Terms.idle (T _) _;first|(simp[go_sem];done)|(simp[go_sem, *];done))|(refine dU E hF.size ?_;co_evs (exact eE rfl hF.mr))
   try walk_nrm
  refine bq C T ?_;try simp only[hb,wE]
  refine eU C T (t:=false) rfl ?_;simp only[if_false,Bool.false_eq_true];refine mB C T ?_;refine cj C T ?_;obtain⟨g,rfl⟩:∃g,x1=some ⟨g,0,none⟩:=by
   rcases hF.ro.row.2 with ⟨_,z⟩|⟨g,cap,cur,z,_⟩
   ·omega
   ·cases z;exact⟨g,rfl⟩
  have a3:∀w,HW (aB prog N Pb Shun val B Mine) Ex w₀ Rb (.slice (sq g) tk.length c1) (.slice (sq g) tk.length c1) tk en w→w.cell? ⟨g,place,none⟩=some (.int .i32 (all[place]?.getD (-1))):=fun w h=>(by rw[show(⟨g,place,none⟩:Addr)=(⟨g,0,none⟩:Addr).add place by unfold Addr.add;split<;>simp_all];exact h.ro.row.cells (g:=g) rfl place _ (by rw[← a0,List.getElem?_append_left Of];simp[V,List.getElem?_map,gE Of]));refine aR C T ?_;simp only[ga,Nat.reduceAdd];iterate 6
   refine aF C rfl rq fun _ hR Kx U=>?_
   replace hF:=HW.rely E hF hR
   have hc:=hF.cells
   go_simp
   try (unfold stored;go_simp)
   refine U _ _ ⟨?_,?_⟩
   ·first|(rw[listed_nil];exact Terms.idle (T _) _;first|(simp[go_sem];done)|(simp[go_sem, *];done))|(refine dU E hF.size ?_;co_evs (exact eE rfl hF.mr))
   try walk_nrm
  refine aF C rfl rq fun _ hR Kx U=>?_;replace hF:=HW.rely E hF hR;have hc:=a3 _ hF;go_simp;try (unfold stored;go_simp)
  refine U _ _ ⟨?_,?_⟩
  ·refine dU E hF.size ?_;co_evs (exact eE rfl (hF.ro.own _ rfl).1)
  try walk_nrm
  refine aF C rfl rq fun _ hR Kx U=>?_;replace hF:=HW.rely E hF hR;go_simp;try (unfold stored;go_simp)
  refine U _ _ ⟨?_,?_⟩
  ·co_quiet (T _)
  try walk_nrm
  refine bq C T ?_;refine pO C T ?_;exact⟨.inr rfl,rfl,_,resultsC_tmp rq _,rfl,_,_,_,_,a0,a1,hF⟩
 ·have hb:decide ((tk.length:Int)≤(place:Int))=true:=tD oq;have wE:decide (tk.length≤place)=true:=tD oq;rcases a1 with ⟨rfl,hi⟩|⟨rfl,rfl,rfl⟩
  ·refine cj C T ?_;refine cj C T ?_;refine aR C T ?_;simp only[ga,Nat.reduceAdd];iterate 7
    refine aF C rfl rq fun _ hR Kx U=>?_
    replace hF:=HW.rely E hF hR
    have hc:=hF.cells
    go_simp
    try (unfold stored;go_simp)
    refine U _ _ ⟨?_,?_⟩
    ·first|(rw[listed_nil];exact Terms.idle (T _) _;first|(simp[go_sem];done)|(simp[go_sem, *];done))|(refine dU E hF.size ?_;co_evs (exact eE rfl hF.mr))
    try walk_nrm
   try simp only[hb,wE]
   iterate 7
    refine aF C rfl rq fun _ hR Kx U=>?_
    replace hF:=HW.rely E hF hR
    have hc:=hF.cells
    go_simp
    try (unfold stored;go_simp)
    refine U _ _ ⟨?_,?_⟩
    ·first|(rw[listed_nil];exact Terms.idle (T _) _;first|(simp[go_sem];done)|(simp[go_sem, *];done))|(refine dU E hF.size ?_;co_evs (exact eE rfl hF.mr))
    try walk_nrm
   refine bq C T ?_;refine eU C T (t:=true) rfl ?_;simp only[if_true];refine mB C T ?_;refine gD C T ?_;refine aR C T ?_;simp only[ga,Nat.reduceAdd];refine aF C rfl rq fun _ hR Kx U=>?_;replace hF:=HW.rely E hF hR;go_simp;try (unfold stored;go_simp)
   refine U _ _ ⟨?_,?_⟩
   ·co_quiet (T _)
   try walk_nrm
   refine jw C T rfl rq rfl rfl (by simp[Act.eval]) rfl (vk Fi hF hi Pu) ?_;rintro _ _ _ (⟨r,l,v2,rfl,rfl,hF⟩|⟨rfl,rfl,hF⟩)
   ·refine bq C T ?_;exact⟨Fo l false,by simp[Fo],v2,_,l,false,rfl,.inl ⟨rfl,.inr rfl⟩,hF,by rw[← a0];simp,_,_,_,_,_,_,_,_,_,_,_,_,_,_,_,_,rfl⟩
   ·refine bq C T ?_;exact⟨Fo [] true,by simp[Fo],_,_,[],true,rfl,.inr ⟨rfl,rfl,rfl⟩,hF,a0,_,_,_,_,_,_,_,_,_,_,_,_,_,_,_,_,rfl⟩
  ·have a1:E8 [] true .over:=.inr ⟨rfl,rfl,rfl⟩;iterate 2 refine cj C T ?_
   refine aR C T ?_;simp only[ga,Nat.reduceAdd];iterate 7
    refine aF C rfl rq fun _ hR Kx U=>?_
    replace hF:=HW.rely E hF hR
    have hc:=hF.cells
    go_simp
    try (unfold stored;go_simp)
    refine U _ _ ⟨?_,?_⟩
    ·first|(rw[listed_nil];exact Terms.idle (T _) _;first|(simp[go_sem];done)|(simp[go_sem, *];done))|(refine dU E hF.size ?_;co_evs (exact eE rfl hF.mr))
    try walk_nrm
   try simp only[hb,wE]
   iterate 7
    refine aF C rfl rq fun _ hR Kx U=>?_
    replace hF:=HW.rely E hF hR
    have hc:=hF.cells
    go_simp
    try (unfold stored;go_simp)
    refine U _ _ ⟨?_,?_⟩
    ·first|(rw[listed_nil];exact Terms.idle (T _) _;first|(simp[go_sem];done)|(simp[go_sem, *];done))|(refine dU E hF.size ?_;co_evs (exact eE rfl hF.mr))
    try walk_nrm
   refine bq C T ?_;refine eU C T (t:=false) rfl ?_;simp only[if_false,Bool.false_eq_true];refine pM C T ?_;simp only[jp,vz,if_true];iterate 2 refine cj C T ?_
   refine aR C T ?_;simp only[ga,Nat.reduceAdd];iterate 7
    refine aF C rfl rq fun _ hR Kx U=>?_
    replace hF:=HW.rely E hF hR
    have hc:=hF.cells
    go_simp
    try (unfold stored;go_simp)
    refine U _ _ ⟨?_,?_⟩
    ·first|(rw[listed_nil];exact Terms.idle (T _) _;first|(simp[go_sem];done)|(simp[go_sem, *];done))|(refine dU E hF.size ?_;co_evs (exact eE rfl hF.mr))
    try walk_nrm
   refine bq C T ?_;try simp only[hb,wE]
   refine eU C T (t:=true) rfl ?_;simp only[if_true];refine cj C T ?_;refine aR C T ?_;simp only[ga];refine aF C rfl rq fun _ hR Kx U=>?_;replace hF:=HW.rely E hF hR;go_simp;try (unfold stored;go_simp)
   refine U _ _ ⟨?_,?_⟩
   ·co_quiet (T _)
   try walk_nrm
   refine bq C T ?_;refine pO C T ?_;refine⟨.inr rfl,rfl,_,resultsC_tmp rq _,?_,_,_,_,_,a0,a1,hF⟩;rw[← a0,List.getElem?_eq_none (by simp;omega)];rfl
end
def aV(l:Iq):Bq:=l.flatMap Lib.encodeRune
section
variable {N Pb:Nat}{Shun:Loc→Prop}{val:Value}{B:Nat}{Mine:Loc→Prop}{Ex:Nat→Prop}{w₀ w aE:World}{AnchW:Gq}{u v:Value}{tk rest:Iq}{en:Bool}{Rb:Nat}
variable {M:World→Nat→Prop}{O:Nat→Prop}{N0:Nat}{Fx:Nat→Prop}{Bb:Nat}{p:Value}{n:Nat}{xs:Vq}{w':World}
def HW.WE(h:HW K Ex w₀ Rb u v tk en w)(b:Nat)(U:oh Rb v b):Ex b∨w₀.heap.size≤b:=by
 rcases U with rfl|z
 ·exact h.N7
 ·exact(h.ro.own b z).2
def apart{y x:Value}(a:HW K Ex w₀ Rb u v tk en w)(U:HM (c9 K) (gG K) N0 Fx aE Bb x y z n xs w):(¬oh Rb v Bb∧∀k,z.ownBlock=some k→¬oh Rb v k)∧(¬oh Bb z Rb∧∀k,v.ownBlock=some k→¬oh Bb z k):=by
 have h1:Bb≠Rb:=by
  rintro rfl
  have:=U.bd.symm.trans a.rb;simp at this
 refine⟨⟨?_,fun k c=>?_⟩,⟨?_,fun k c=>?_⟩⟩
 ·rintro(e|e)
  ·exact h1 e
  ·exact a.ro.ne U.bd dq e rfl
 ·rintro(e|e)
  ·exact U.ro.ne a.rb dq c e
  ·have⟨_,d⟩:=U.ro.type c;have⟨_,b⟩:=a.ro.type e;rw[d] at b;simp at b
 ·rintro(e|e)
  ·exact h1 e.symm
  ·exact U.ro.ne a.rb dq e rfl
 ·rintro(e|e)
  ·exact a.ro.ne U.bd dq c e
  ·have⟨_,d⟩:=U.ro.type e;have⟨_,b⟩:=a.ro.type c;rw[d] at b;simp at b
variable [Go.ConcR.Payload][Go.ConcX.Payload]
variable [Go.ConcX.Shy (Cfg.Wg (aB prog N Pb Shun val B Mine)) (Cfg.C (aB prog N Pb Shun val B Mine))]
end
section
variable {ι:Type}{P:Program}{main:Bool}{R:ι→Wq}{D:ι→World→World→Array Event→Prop}{X:ι→Gq}{fn:FuncId}{Q:dV ι}{a:Act}{w:World}{vs:ι}
def ck.rely(C:bw P main R D X)(h:ck X fn ops todo vs Q a w)(r:R vs w aE):ck X fn ops todo vs Q a aE:=fun b k c U e d=>C.rely (h b k c U e d) r
def dh(C:bw P main R D X)(T:∀i,Terms (R i) (D i))(ho:ops[i]?=some o)(hw:Region.wanted o (yielded ops a.tmps)=true)
 (h:∀(aE:World) (K:Act→World→Prop),(∀a',ck X fn ops rest vs Q a' w→(execOp a.eval o).events P aE #[]=#[]→K a' aE)→uponK o a K ((execOp a.eval o).run P aE)):ck X fn ops (i::rest) vs Q a w :=
 aF C ho hw fun aE hR K U=>h aE K fun a' hO he=>U a' aE ⟨by rw[listed_nil he];exact(T vs).idle _,hO.rely C hR⟩
def vE(C:bw P main R D X)(T:∀i,Terms (R i) (D i)){c:Operand}{x y:Code}{t:Bool}(b:a.eval c=.bool t)(h1:t=true→lm X fn x vs Q a w)(U:t=false→lm X fn y vs Q a w):lm X fn (.cond c x y) vs Q a w:=by
 refine eU C T b ?_;cases t
 ·exact U rfl
 ·exact h1 rfl
end
def Ln(P:Program)(f:FuncId)(args:Aq)(v:Value):Prop :=
 ∀(ι:Type) (R:ι→Wq) (D:ι→World→World→Array Event→Prop) (X:ι→Gq) (_:bw P true R D X) (_:∀i,Terms (R i) (D i)) (i:ι) (w:World),eA P X f args i w (fun i' x w'=>i'=i∧x=v∧w'=w)
structure HL(M:World→Nat→Prop)(O:Nat→Prop)(N0:Nat)(Ex:Nat→Prop)(w₀:World)(l:Hq)(w:World):Prop where
 kept:Kept M O Ex w₀ w
 size:N0≤w.heap.size
 own:∀b o,(b,o)∈l→M w b∧w.heap[b]?=some o∧(Ex b∨w₀.heap.size≤b)
 nodup:(l.map Prod.fst).Nodup
section
variable {KT:TypeId→Prop}{N0:Nat}{M:World→Nat→Prop}{O:Nat→Prop}{R:Wq}{D:World→World→Array Event→Prop}{Ex:Nat→Prop}{w₀ w aE w':World}{l:Hq}{b:Nat}{o o':Obj}
def HL.rely(E:Env KT N0 M O R D)(h:HL M O N0 Ex w₀ l w)(r:R w aE):HL M O N0 Ex w₀ l aE :=
 ⟨h.kept.rely E r,lT h.size (E.size r),fun b o U=>⟨E.stay r (h.own b o U).1,(E.keep r (h.own b o U).1).trans (h.own b o U).2.1,(h.own b o U).2.2⟩,h.nodup⟩
def HL.perm{a:Hq}(h:HL M O N0 Ex w₀ l w)(p:a.Perm l):HL M O N0 Ex w₀ a w:=⟨h.kept,h.size,fun b o U=>h.own b o (p.mem_iff.1 U),(p.map Prod.fst).nodup_iff.2 h.nodup⟩
def HL.drop{x:Nat × Obj}(h:HL M O N0 Ex w₀ (x::l) w):HL M O N0 Ex w₀ l w:=⟨h.kept,h.size,fun b o U=>h.own b o (List.mem_cons_of_mem _ U),(List.nodup_cons.1 h.nodup).2⟩
def HL.head(h:HL M O N0 Ex w₀ ((b,o)::l) w):M w b∧w.heap[b]?=some o∧(Ex b∨w₀.heap.size≤b):=h.own b o (List.mem_cons_self ..)
def HL.grown(E:Env KT N0 M O R D)(h:HL M O N0 Ex w₀ l w)(a:Own KT M w (w.alloc o)):HL M O N0 Ex w₀ ((w.heap.size,o)::l) (w.alloc o):=by
 refine⟨h.kept.own E a fun b f _=>Below.heap_alloc _ _ _ (E.lt (h.kept.mine b f)),by simp[World.size_alloc];have:=h.size;omega,fun b i U=>?_,?_⟩
 ·rcases List.mem_cons.1 U with e|U
  ·cases e;exact⟨E.new h.size a lr (by simp[World.size_alloc]),heap_alloc_new w _,.inr h.kept.grow⟩
  ·have⟨h1,h2,h3⟩:=h.own b i U;exact⟨E.mine a h1,(Below.heap_alloc _ _ _ (E.lt h1)).trans h2,h3⟩
 ·refine List.nodup_cons.2 ⟨fun U=>?_,h.nodup⟩;have⟨p,g,e⟩:=List.mem_map.1 U;have c:=E.lt (h.own p.1 p.2 g).1;have d:p.1=w.heap.size:=e;rw[d] at c;exact Nat.lt_irrefl _ c
def HL.turn(E:Env KT N0 M O R D)(h:HL M O N0 Ex w₀ ((b,o)::l) w)(a:Own KT M w w')(i:w'.heap[b]?=some o')(g:∀k,k≠b→w'.heap[k]?=w.heap[k]?):HL M O N0 Ex w₀ ((b,o')::l) w':=by
 have j:=List.nodup_cons.1 h.nodup;refine⟨h.kept.own E a fun k c n=>g k fun e=>?_,lT h.size a.grow,fun k f m=>?_,h.nodup⟩
 ·subst e;rcases h.head.2.2 with z|z
  ·exact n z
  ·have:=E.lt c;omega
 ·rcases List.mem_cons.1 m with e|U
  ·cases e;exact⟨E.mine a h.head.1,i,h.head.2.2⟩
  ·have⟨h1,h2,h3⟩:=h.own k f (List.mem_cons_of_mem _ U);have d:k≠b:=fun e=>j.1 (List.mem_map.2 ⟨_,U,e⟩);exact⟨E.mine a h1,(g k d).trans h2,h3⟩
theorem HL.past(E:Env KT N0 M O R D)(h:HL M O N0 Ex w₀ l w)(k:Kept M O (fun _=>False) w w')(U:N0≤w'.heap.size):HL M O N0 Ex w₀ l w' :=
 ⟨h.kept.trans E k (fun _ z=>z.elim),U,fun b o a=>⟨k.mine _ (h.own b o a).1,(k.block _ (h.own b o a).1 id).trans (h.own b o a).2.1,(h.own b o a).2.2⟩,h.nodup⟩
end
section
variable {ι:Type}{P:Program}{R:ι→Wq}{D:ι→World→World→Array Event→Prop}{X:ι→Gq}{fn:FuncId}{Q:dV ι}{a:Act}{w:World}{vs:ι}{KT:TypeId→Prop}{N0:Nat}{M:World→Nat→Prop}{O:Nat→Prop}{Ex:Nat→Prop}{w₀:World}{l:Hq}
def EL(U:P.underlying t=some .string)(w:World):(Instr.range t (.string s)).run P w=.ok (.pointer (sq w.heap.size)) (w.alloc (.stringIter s 0)):=by simp[Instr.range,run_underlying U,newObj,Sem.run]
def wD(U:P.underlying t=some .string)(w:World)(es:Array Event):(Instr.range t (.string s)).events P w es=es:=by simp[Instr.range,newObj,underlying,U];rfl
def jK(U:w.heap[b]?=some (.stringIter s pos)):(getObj b).run P w=.ok (.stringIter s pos) w:=by simp[getObj,Sem.run,U]
def lZ(U:w.heap[b]?=some (.stringIter s pos))(es:Array Event):(getObj b).events P w es=es.push ⟨.obj b,false,false⟩:=by unfold Sem.events;simp only[getObj,Sem.runT,U,Obj.isChan]
def zi(o:Obj)(a:w.heap[b]?=some (.stringIter s pos)):(setObj b o).run P w=.ok () { w with heap:=w.heap.setIfInBounds b o }:=by simp[setObj,Sem.run,a]
def sw(U:w.heap[b]?=some (.stringIter s pos))(es:Array Event):(setObj b (.stringIter s p')).events P w es=es.push ⟨.obj b,true,false⟩:=by unfold Sem.events;simp only[setObj,Sem.runT,U,Obj.isChan]
def HY(a:w.heap[b]?=some (.stringIter s pos))(c:pos<s.size) :
  (Instr.next (.pointer (sq b)) true t).run P w=.ok (.tuple #[.bool true,.int .i64 pos,.int .i32 (Utf8.decode s pos).1]) { w with heap:=w.heap.setIfInBounds b (.stringIter s (pos+(Utf8.decode s pos).2)) }:=by simp[Instr.next,jK a,zi _ a,c,goInt]
def yz(U:w.heap[b]?=some (.stringIter s pos))(a:pos<s.size)(es:Array Event) :
  (Instr.next (.pointer (sq b)) true t).events P w es=(es.push ⟨.obj b,false,false⟩).push ⟨.obj b,true,false⟩:=by simp[Instr.next,jK U,lZ U,sw U,a,goInt]
def w9(U:w.heap[b]?=some (.stringIter s pos))(a:¬pos<s.size) :
  (Instr.next (.pointer (sq b)) true t).run P w=.ok (.tuple #[.bool false]) w:=by simp[Instr.next,jK U,a]
def rA(U:w.heap[b]?=some (.stringIter s pos))(a:¬pos<s.size)(es:Array Event) :
  (Instr.next (.pointer (sq b)) true t).events P w es=es.push ⟨.obj b,false,false⟩:=by simp[Instr.next,jK U,lZ U,a]
end
section
variable {KT:TypeId→Prop}{N0:Nat}{M:World→Nat→Prop}{O:Nat→Prop}{R:Wq}{D:World→World→Array Event→Prop}{Ex Fx:Nat→Prop}{w₀ w aE w':World}{l:Hq}
def HL.over(E:Env KT N0 M O R D)(h:HL M O N0 Ex w₀ l w)(k:Kept M O Fx w w')(hs:N0≤w'.heap.size)(hl:∀b o,(b,o)∈l→¬Fx b)(hx:∀b,Fx b→Ex b∨w₀.heap.size≤b):HL M O N0 Ex w₀ l w' :=
 ⟨h.kept.trans E k hx,hs,fun b o U=>⟨k.mine _ (h.own b o U).1,(k.block _ (h.own b o U).1 (hl b o U)).trans (h.own b o U).2.1,(h.own b o U).2.2⟩,h.nodup⟩
end
structure HX(K:Cfg)(Ex:Nat→Prop)(w₀:World)(all:Iq)(Rb:Nat)(i:Ph)(l:Hq)(w:World):Prop where
 hl:HL (c9 K) (gG K) K.N0 Ex w₀ l w
 row:∃v tk rest en,tk++rest=all∧E8 rest en i∧HW K (oh Rb v) w Rb v v tk en w∧(∀b o,(b,o)∈l→¬oh Rb v b)∧∀b,oh Rb v b→Ex b∨w₀.heap.size≤b
section
variable {N Pb:Nat}{Shun:Loc→Prop}{val:Value}{B:Nat}{Mine:Loc→Prop}{Ex:Nat→Prop}{w₀ w aE w':World}{AnchW:Gq}{all:Iq}{Rb:Nat}{i:Ph}{l l':Hq}{b:Nat}{o o':Obj}
def HX.early(h:HX K Ex w₀ all Rb i l w):i.early:=by have⟨_,_,_,_,_,U,_⟩:=h.row;exact U.early
variable [Go.ConcR.Payload][Go.ConcX.Payload]
variable [Go.ConcX.Shy (Cfg.Wg (aB prog N Pb Shun val B Mine)) (Cfg.C (aB prog N Pb Shun val B Mine))]
def HX.env(F:Cfg.Fit (aB prog N Pb Shun val B Mine))(h:HX (aB prog N Pb Shun val B Mine) Ex w₀ all Rb i l w):Env eO (N+9) (c9 (aB prog N Pb Shun val B Mine)) (gG (aB prog N Pb Shun val B Mine)) (nh (aB prog N Pb Shun val B Mine) i) (rZ (aB prog N Pb Shun val B Mine) i):=yo (K:=aB prog N Pb Shun val B Mine) F h.early
def HX.rely(F:Cfg.Fit (aB prog N Pb Shun val B Mine))(h:HX (aB prog N Pb Shun val B Mine) Ex w₀ all Rb i l w)(r:nh (aB prog N Pb Shun val B Mine) i w aE):HX (aB prog N Pb Shun val B Mine) Ex w₀ all Rb i l aE:=by have E:=h.env F;have⟨v,e,a,b,h1,h2,h3,c,d⟩:=h.row;exact⟨h.hl.rely E r,v,e,a,b,h1,h2,(h3.vm E r).lg,c,d⟩
def HX.drop{x:Nat × Obj}(h:HX K Ex w₀ all Rb i (x::l) w):HX K Ex w₀ all Rb i l w:=by have⟨v,f,a,c,h1,h2,h3,U,d⟩:=h.row;exact⟨h.hl.drop,v,f,a,c,h1,h2,h3,fun b o e=>U b o (List.mem_cons_of_mem _ e),d⟩
def HW.still(h:HW K Fx w₀ Rb v v tk en w)(hb:∀b,oh Rb v b→w'.heap[b]?=w.heap[b]?)(hm:∀b,c9 K w b→c9 K w' b)(hs:K.N0≤w'.heap.size):HW K (oh Rb v) w' Rb v v tk en w' :=
 ⟨(hb Rb (.inl rfl)).trans h.rb,hm _ h.mr,.inl (.inl rfl),⟨(h.ro.same (w':=w') fun k U=>⟨hb k (.inr U),hm _ (h.ro.own k U).1⟩).row,fun k U=>⟨hm _ (h.ro.own k U).1,.inl (.inr U)⟩,h.ro.nil⟩,hs,Kept.refl _⟩
def HW.lt(F:K.Fit)(h:HW K Fx w₀ Rb v v tk en w)(b:Nat)(U:oh Rb v b):b<w.heap.size:=by
 rcases U with rfl|U
 ·exact h.mr.1
 ·exact(h.ro.own b U).1.1
def HX.grown(F:Cfg.Fit (aB prog N Pb Shun val B Mine))(h:HX (aB prog N Pb Shun val B Mine) Ex w₀ all Rb i l w)(c:Own eO (c9 (aB prog N Pb Shun val B Mine)) w (w.alloc o)):HX (aB prog N Pb Shun val B Mine) Ex w₀ all Rb i ((w.heap.size,o)::l) (w.alloc o):=by
 have E:=h.env F;have⟨v,m,a,d,h1,h2,h3,f,g⟩:=h.row;refine⟨h.hl.grown E c,v,m,a,d,h1,h2,h3.still (fun b U=>Below.heap_alloc _ _ _ (h3.lt F b U)) (fun b U=>E.mine c U) (by simp[World.size_alloc];have:=h.hl.size;omega),fun b k j=>?_,g⟩;rcases List.mem_cons.1 j with e|Pn
 ·cases e;exact fun U=>absurd (h3.lt F _ U) (Nat.lt_irrefl _)
 ·exact f b k Pn
def HX.turn(F:Cfg.Fit (aB prog N Pb Shun val B Mine))(h:HX (aB prog N Pb Shun val B Mine) Ex w₀ all Rb i ((b,o)::l) w)(c:Own eO (c9 (aB prog N Pb Shun val B Mine)) w w')(d:w'.heap[b]?=some o')(j:∀k,k≠b→w'.heap[k]?=w.heap[k]?):HX (aB prog N Pb Shun val B Mine) Ex w₀ all Rb i ((b,o')::l) w':=by
 have E:=h.env F;have⟨v,q,a,m,h1,h2,h3,U,n⟩:=h.row;refine⟨h.hl.turn E c d j,v,q,a,m,h1,h2,h3.still (fun k f=>j k fun e=>U b o (List.mem_cons_self ..) (e▸f)) (fun b d=>E.mine c d) (lT h.hl.size c.grow),fun k g p=>?_,n⟩;rcases List.mem_cons.1 p with e|Pn
 ·cases e;exact U b o (List.mem_cons_self ..)
 ·exact U k g (List.mem_cons_of_mem _ Pn)
theorem HX.past(F:Cfg.Fit (aB prog N Pb Shun val B Mine))(h:HX (aB prog N Pb Shun val B Mine) Ex w₀ all Rb i l w)(k:Kept (c9 (aB prog N Pb Shun val B Mine)) (gG (aB prog N Pb Shun val B Mine)) (fun _=>False) w w')(U:N+9≤w'.heap.size):HX (aB prog N Pb Shun val B Mine) Ex w₀ all Rb i l w':=by
 have E:=h.env F;have⟨v,g,c,d,h1,h2,h3,e,f⟩:=h.row;refine⟨h.hl.past E k U,v,g,c,d,h1,h2,h3.still (fun b a=>k.block b ?_ id) (fun b a=>k.mine b a) U,e,f⟩;rcases a with rfl|a
 ·exact h3.mr
 ·exact(h3.ro.own b a).1
def HX.at(F:Cfg.Fit (aB prog N Pb Shun val B Mine))(hn:all.length≤1000000)(h:HX (aB prog N Pb Shun val B Mine) Ex w₀ all Rb i l w)(place:Nat) :
  eA prog (XM (aB prog N Pb Shun val B Mine) AnchW) 146 #[.pointer (sq Rb),.int .i64 (place:Int)] i w (fun i' x w'=>x=.int .i32 (all[place]?.getD (-1))∧HX (aB prog N Pb Shun val B Mine) Ex w₀ all Rb i' l w'):=by
 have E:=h.env F;have⟨v,tk,rest,en,h1,h2,h3,h4,h5⟩:=h.row;have⟨aM,c,hf,SX,U,hw⟩:=R7 (AnchW:=AnchW) F all place h1 hn h3 h2;refine⟨aM,c,hf,SX,U,mA hw ?_⟩;rintro i' e a' w' ⟨q1,q2,x,q3,rfl,v',Oj,CL,N4,k1,k2,k3⟩;have hx:∀b,oh Rb v' b→oh Rb v b∨w.heap.size≤b:=k3.WE;refine⟨q1,q2,_,q3,rfl,h.hl.over E k3.old k3.size h4 h5,v',Oj,CL,N4,k1,k2,k3.lg,fun b o hm U=>?_,fun b U=>?_⟩
 ·rcases hx b U with z|z
  ·exact h4 b o hm z
  ·have:=E.lt (h.hl.own b o hm).1;omega
 ·rcases hx b U with z|z
  ·exact h5 b z
  ·exact .inr (lT h.hl.kept.grow z)
end
def lp(e:TypeId)(sz:Nat)(v:Value)(n:Nat)(xs:Vq)(rl:Hq):Prop :=
 xs.length=n*sz∧((v=.slice none 0 0∧n=0∧rl=[]) ∨
  ∃g cap cur,v=.slice (some ⟨g,0,none⟩) n cap∧rl=[(g,.cells cur e)]∧0<n∧n≤cap∧cap≤maxLen∧cur.size=cap*sz∧cur.toList.take (n*sz)=xs)
def ig(e:TypeId)(sz:Nat)(v:Value)(n:Nat)(xs:Vq)(rl:Hq):Prop :=
 xs.length=n*sz∧((v=.slice none 0 0∧n=0∧rl=[]) ∨
  ∃g cap cur,v=.slice (some ⟨g,0,none⟩) n cap∧rl=[(g,.cells cur e)]∧n≤cap∧cap≤maxLen∧cur.size=cap*sz∧cur.toList.take (n*sz)=xs)
theorem lp.zero{rl:Hq}(h:lp e sz v n xs rl):ig e sz v n xs rl :=
 ⟨h.1,h.2.imp id fun ⟨g,a,b,h1,h2,_,U⟩=>⟨g,a,b,h1,h2,U⟩⟩
def lp.nil(e:TypeId)(sz:Nat):lp e sz (.slice none 0 0) 0 [] []:=⟨iq,.inl ⟨rfl,rfl,rfl⟩⟩
section
variable {KT:TypeId→Prop}{N0:Nat}{M:World→Nat→Prop}{O:Nat→Prop}{R:Wq}{D:World→World→Array Event→Prop}{Ex:Nat→Prop}{w₀ w w':World}{l rl:Hq}{e:TypeId}{sz:Nat}{v:Value}{n:Nat}{xs news:Vq}
def ig.Qa(h:ig e sz v n xs rl)(a:HL M O N0 Ex w₀ (rl++l) w):w.ownsRow 0 e sz v n xs:=by
 refine⟨h.1,?_⟩;rcases h.2 with ⟨h1,h2,_⟩|⟨g,cap,cur,h1,h2,U,h5,h6,h7⟩
 ·exact .inl ⟨h1,h2⟩
 ·exact .inr ⟨g,cap,cur,h1,Nat.zero_le _,(a.own g _ (by rw[h2];simp)).2.1,U,h5,h6,h7⟩
def ig.block(h:ig e sz v n xs rl)(U:v.ownBlock=some k):∃a,rl=[(k,.cells a e)]:=by
 rcases h.2 with ⟨h1,_,_⟩|⟨g,cap,a,h1,h2,_⟩
 ·rw[h1] at U;cases U
 ·rw[h1] at U;cases U;exact⟨a,h2⟩
def HL.right(h:HL M O N0 Ex w₀ (rl++l) w):HL M O N0 Ex w₀ l w:=⟨h.kept,h.size,fun b o U=>h.own b o (List.mem_append_right _ U),by have:=h.nodup;rw[List.map_append] at this;exact(List.nodup_append.1 this).2.1⟩
def HL.oy(h:HL M O N0 Ex w₀ (rl++l) w){o:Obj}(h1:(k,o)∈rl)(h2:(k,o')∈l):False:=by have U:=h.nodup;rw[List.map_append] at U;exact(List.nodup_append.1 U).2.2 k (List.mem_map.2 ⟨_,h1,rfl⟩) k (List.mem_map.2 ⟨_,h2,rfl⟩) rfl
def HL.Jh(E:Env KT N0 M O R D)(he:¬KT e)(h:HL M O N0 Ex w₀ (rl++l) w)(X:ig e sz v n xs rl)(t ty:TypeId)(z:Value)(bytes:Nat)(ht:P.underlying t=some (.slice e))(L:(P.info? e).map (fun i=>(i.zero,i.size,i.bytes))=some (some z,sz,bytes))(hz:z.cells.size=sz)(aq:0<sz)
 (a:Addr)(m c:Nat)(H:0<m)(hl:news.length=m*sz)(U:∀j u,news[j]?=some u→w.cell? (a.add j)=some u)(ha:M w a.block)(h1:∀u∈news,u.oneCell'=true)(hn:n+m≤maxLen)(G:(n+m)*bytes≤140737488355328) :
  ∃I x ah,(Builtin.append_ #[t,t] ty #[v,.slice (some a) m c]).run P w=.ok I x∧HL M O N0 Ex w₀ (ah++l) x∧lp e sz I (n+m) (xs++news) ah∧Own KT M w x∧(∀b,b<w.heap.size→v.ownBlock≠some b→x.heap[b]?=w.heap[b]?) ∧
   (∀k,I.ownBlock=some k→v.ownBlock=some k∨w.heap.size≤k) ∧
   (∀C∈(Builtin.append_ #[t,t] ty #[v,.slice (some a) m c]).events P w #[],tW (M x) C)∧∀C∈(Builtin.append_ #[t,t] ty #[v,.slice (some a) m c]).events P w #[],∀S,C.loc=.mark S→Conc.Neutral S:=by
 have⟨i0,L,a6,a7,a8⟩:=info_parts L;have s:=X.Qa h;have⟨I,x,B,W,hg,N,r⟩:=run_append_own_at (P:=P) w 0 t ty e i0 z sz bytes ht L a6 a7 a8 hz aq v n xs s a m c news hl U h1 hn G (Nat.zero_le _);have ao:=oz (P:=P) 0 t ty e i0 z sz bytes ht L a6 a7 a8 v n xs s a m c news hl U h1 hn G B;have aa:=events_append_where (P:=P) w 0 t ty e i0 z sz bytes ht L a6 a7 a8 v n xs s a m c news hl U h1 hn G;have Q:∀k,v.ownBlock=some k→M w k∧(Ex k∨w₀.heap.size≤k)∧∃d,w.heap[k]?=some (.cells d e):=by intro k f;have⟨d,K⟩:=X.block f;have⟨y,A,z3⟩:=h.own k _ (by rw[K];simp:(k,Obj.cells d e)∈rl++l);exact⟨y,z3,d,A⟩
 have F:Own KT M w x:=by
  rcases ao with rfl|⟨k,cs,f,rfl⟩|⟨cs,rfl⟩
  ·exact Own.refl _
  ·have⟨y,_,d,T⟩:=Q k f;exact Own.setRow T y he
  ·have:=Own.alloc (KT:=KT) (M:=M) (w:=w.drew) (cs:=cs) (t:=e) he;exact⟨this.tape,this.os,this.output,this.grow,fun b G H=>heap_alloc_old w.drew _ b G,fun b o' hh f=>(this.kt b o' hh f)⟩
 have Y:∀b,b<w.heap.size→v.ownBlock≠some b→x.heap[b]?=w.heap[b]?:=fun b G hx=>hg.block b G (fun e=>hx e.symm);have V:∀k,I.ownBlock=some k→v.ownBlock=some k∨w.heap.size≤k:=by
  intro k f;rcases r with r|r
  ·exact .inl (r▸f)
  ·rw[r] at f;cases f;exact .inr lr
 have al:I≠.slice Option.none 0 0:=fun e=>by have:=(N.1 e).2;omega
 have⟨ab,ag⟩:=W;rcases ag with ⟨e,_⟩|⟨g,cap,d,rfl,_,T,O8,O9,Pa,Q5⟩
 ·exact absurd e al
 have aj:∀o,(g,o)∈l→False:=by
  intro o W;rcases V g rfl with z|z
  ·have⟨p,K⟩:=X.block z;exact h.oy (k:=g) (o:=.cells p e) (by rw[K];simp) W
  ·have:=E.lt (h.own g o (List.mem_append_right _ W)).1;omega
 have ai:M x g:=by
  rcases V g rfl with z|z
  ·exact E.mine F (Q g z).1
  ·exact E.new h.size F z (Array.getElem?_eq_some_iff.1 T).1
 have af:∀b o,(b,o)∈l→v.ownBlock≠some b:=by intro b o H f;have⟨p,K⟩:=X.block f;exact h.oy (k:=b) (o:=.cells p e) (by rw[K];simp) H
 refine⟨_,x,[(g,.cells d e)],B,⟨h.kept.own E F fun b a9 hx=>Y b (E.lt (h.kept.mine b a9)) fun f=>?_,lT h.size F.grow,fun b o H=>?_,?_⟩,⟨ab,.inr ⟨g,cap,d,rfl,rfl,oq,O8,O9,Pa,Q5⟩⟩,F,Y,V,fun C Z=>?_,fun C Z S J=>?_⟩
 ·rcases(Q b f).2.1 with z|z
  ·exact hx z
  ·have:=E.lt a9;omega
 ·rcases List.mem_append.1 H with z|z
  ·rw[List.mem_singleton] at z;cases z;refine⟨ai,T,?_⟩;rcases V g rfl with z|z
   ·exact(Q g z).2.1
   ·exact .inr (lT h.kept.grow z)
  ·have⟨y,A,z3⟩:=h.own b o (List.mem_append_right _ z);exact⟨E.mine F y,(Y b (E.lt y) (af b o z)).trans A,z3⟩
 ·have ak:=h.right.nodup;refine List.nodup_cons.2 ⟨fun H=>?_,ak⟩;have⟨q,hq,e'⟩:=List.mem_map.1 H;have e2:q.1=g:=e';exact aj q.2 (by rw[← e2];exact hq)
 ·rcases aa C Z with ⟨ad,y,A⟩|⟨S,rfl,J⟩
  ·refine .inl ⟨ad,y,E.mine F ?_⟩;rcases A with ⟨_,A⟩|A
   ·rw[A];exact ha
   ·exact(Q _ A.symm).1
  ·obtain rfl:S=.noRoom:=J;exact .inr (.inr ⟨by simp[MemAct.ofEvent,MemAct.touch?],iq,iq,by simp[MemAct.ofEvent]⟩)
 ·rcases aa C Z with ⟨ad,y,_⟩|⟨mk',rfl,ae⟩
  ·rw[y] at J;cases J
  ·cases J;exact ae
end
section
variable {P:Program}{w:World}
def oN(w:World)(t u ty e:TypeId)(i:TypeInfo)(z:Value)(D:P.underlying t=some (.slice e))(E:P.underlying u=some .string)(C:P.info? e=some i)(N:i.zero=some z)(A:i.size=1)(L:i.bytes=1)
 (v:Value)(n:Nat)(xs:Vq)(y:w.ownsRow 0 e 1 v n xs)(s:ByteArray)(T:n+s.size≤maxLen)(Z:n+s.size≤140737488355328) :
  ∀U∈(Builtin.append_ #[t,u] ty #[v,.string s]).events P w #[],(∃c,U.loc=.cell c∧some c.block=v.ownBlock)∨∃m,U=⟨.mark m,false,true⟩∧Conc.Neutral m:=by
 have ae:n+s.size≤9223372036854775807:=by simp only[maxLen] at T;omega
 let B:Nat→Prop:=fun g=>some g=v.ownBlock;let Q:Event→Prop:=fun e=>e.readsIn B∨∃m,e=⟨.mark m,false,true⟩∧Conc.Neutral m;have d:∀U:Event,Q U→(∃c,U.loc=.cell c∧some c.block=v.ownBlock)∨∃m,U=⟨.mark m,false,true⟩∧Conc.Neutral m :=
  fun U h=>h.elim (fun ⟨c,O,_,R⟩=>.inl ⟨c,O,R⟩) .inr;have a:∀e∈(#[]:Array Event),Q e:=by intro e V;simp at V
 have str:∀(o:World) (k sz:Nat) b q p,Value.string s=.slice (some b) q p→B b.block∧∀j,j<k*sz→(o.cell? (b.add j)).isSome:=by intro _ _ _ _ _ _ e;cases e
 have l:∀(o:World) (k sz TH Sc:Nat) b q p,Value.slice none TH Sc=.slice (some b) q p→B b.block∧∀j,j<k*sz→(o.cell? (b.add j)).isSome:=by intro _ _ _ _ _ _ _ _ e;cases e
 intro U f;rcases y.2 with ⟨rfl,rfl⟩|⟨g,cap,cur,rfl,ZN,hg,Z2,ZP,B8,Vk⟩
 ·by_cases M:s.size=0
  ·simp[Builtin.append_,run_underlying D,run_underlying E,sizeOf,typeInfo,C,A,Builtin.lenOf,M] at f;exact d U ((events_firstCells_in B _ _ _ _ _ (by first|exact str _ _ _|exact l _ _ _ _ _) U f).elim (a U) .inl)
  ·have G:¬(9223372036854775807<(s.size:Int)):=oq
   have F:¬(281474976710656<Builtin.nextslicecap s.size 0*i.bytes):=by rw[nextslicecap_zero oq,L];omega
   have r:=run_firstCells_string (P:=P) w.drew i.size s;have W:=run_firstCells_string (P:=P) w.drew 1 s;simp[Builtin.append_,run_underlying D,run_underlying E,sizeOf,typeInfo,zeroValue,C,N,Builtin.lenOf,M,G,F,Question.forced,run_firstCells_none,r,newRow] at f;refine d U ((events_firstCells_in B _ _ _ _ _ (by first|exact str _ _ _|exact l _ _ _ _ _) U f).elim (fun h=>?_) .inl);refine(events_firstCells_in B _ _ _ _ _ (by first|exact str _ _ _|exact l _ _ _ _ _) U h).elim (fun h2=>?_) .inl;exact(Conc.events_askRoom _ _ _ U h2).elim (a U) .inr
 ·have J:∀j u,xs[j]?=some u→w.cell? ((⟨g,0,none⟩:Addr).add j)=some u:=y.cells (g:=g) rfl;have x:∀(o:World),(∀c,o.cell? c=w.cell? c)→∀b q p,Value.slice (sq g) n cap=.slice (some b) q p→B b.block∧∀j,j<n*i.size→(o.cell? (b.add j)).isSome:=by intro o I b q p e;cases e;exact⟨by simp[B,Value.ownBlock],fun j X=>by rw[I];exact isSome_of_list J (by rw[y.1,← A];exact X)⟩
  by_cases K:n+s.size≤cap
  ·have S:n+s.size≤cur.size:=by rw[B8];omega
   have r:=run_firstCells_string (P:=P) w 1 s;simp[Builtin.append_,run_underlying D,run_underlying E,sizeOf,typeInfo,C,A,Builtin.lenOf,K,r,Addr.add_lit] at f;rcases events_storeCells_at (P:=P) g n e (strCells s) 0 cur w _ hg (by simpa[strCells_length] using S) (strCells_oneCell s) U f with h|⟨c,h2,h3⟩
   ·exact d U ((events_firstCells_in B _ _ _ _ _ (str _ _ _) U h).elim (a U) .inl)
   ·exact .inl ⟨c,h2,by simp[Value.ownBlock,h3]⟩
  ·have Y:¬(n+s.size≤cap):=K;have G:¬(9223372036854775807<((n:Int)+(s.size:Int))):=oq
   have F:¬(281474976710656<Builtin.nextslicecap (n+s.size) cap*i.bytes):=by have:=growslice_fits (need:=n+s.size) (old:=cap) (bytes:=i.bytes) oq (by rw[L];omega);omega
   have r:=run_firstCells_string (P:=P) w.drew i.size s;have H:=run_firstCells_some (P:=P) w.drew i.size n ⟨g,0,none⟩ n cap xs (by rw[A];exact y.1) (by simpa using J);simp[Builtin.append_,run_underlying D,run_underlying E,sizeOf,typeInfo,zeroValue,C,N,Builtin.lenOf,Y,G,F,Question.forced,r,H,newRow] at f;refine d U ((events_firstCells_in B _ _ _ _ _ (by first|exact str _ _ _|exact x _ (fun _=>rfl)) U f).elim (fun h=>?_) .inl);refine(events_firstCells_in B _ _ _ _ _ (by first|exact str _ _ _|exact x _ (fun _=>rfl)) U h).elim (fun h2=>?_) .inl;exact(Conc.events_askRoom _ _ _ U h2).elim (a U) .inr
def p7(t u ty e:TypeId)(i:TypeInfo)(z:Value)(c:P.underlying t=some (.slice e))(d:P.underlying u=some .string)(b:P.info? e=some i)(p:i.zero=some z)(h:i.size=1)(l:i.bytes=1)
 (v:Value)(n:Nat)(xs:Vq)(f:w.ownsRow 0 e 1 v n xs)(s:ByteArray)(x:n+s.size≤maxLen)(y:n+s.size≤140737488355328)(U:(Builtin.append_ #[t,u] ty #[v,.string s]).run P w=.ok v' w') :
  (w'=w∨(∃g k,v.ownBlock=some g∧w'=w.setRow g k)∨∃k,w'=w.drew.alloc (.cells k e))∧(v'.ownBlock=v.ownBlock∨v'.ownBlock=some w.heap.size):=by
 have A:n+s.size≤9223372036854775807:=by simp only[maxLen] at x;omega
 rcases f.2 with ⟨rfl,rfl⟩|⟨g,cap,cur,rfl,aa,hg,ae,ab,a8,a9⟩
 ·by_cases o:s.size=0
  ·have m:=run_firstCells_string (P:=P) w 1 s;rw[o] at m;simp[Builtin.append_,run_underlying c,run_underlying d,sizeOf,typeInfo,b,h,Builtin.lenOf,o,m] at U;exact⟨.inl U.2.symm,.inl (by rw[← U.1])⟩
  ·have a:=run_append_nil_string (P:=P) w t u ty e i z c d b p s oq oq (by rw[l];omega);rw[a] at U;cases U;exact⟨.inr (.inr ⟨_,rfl⟩),.inr rfl⟩
 ·by_cases r:n+s.size≤cap
  ·have a:=run_append_room_string (P:=P) w t u ty e i c d b h g n cap cur hg s r (by rw[a8];omega);rw[a] at U;cases U;exact⟨.inr (.inl ⟨g,_,rfl,rfl⟩),.inl rfl⟩
  ·have q:∀j u,xs[j]?=some u→w.cell? ((⟨g,0,none⟩:Addr).add j)=some u:=f.cells (g:=g) rfl;have a:=run_append_grow_string (P:=P) w t u ty e i z c d b p ⟨g,0,none⟩ n cap xs (by rw[h];exact f.1) q s oq oq (growslice_fits oq (by rw[l];omega));rw[a] at U;cases U;exact⟨.inr (.inr ⟨_,rfl⟩),.inr rfl⟩
end
section
variable {KT:TypeId→Prop}{N0:Nat}{M:World→Nat→Prop}{O:Nat→Prop}{R:Wq}{D:World→World→Array Event→Prop}{Ex:Nat→Prop}{w₀ w w':World}{l rl:Hq}{e:TypeId}{v:Value}{n:Nat}{xs:Vq}{P:Program}
def HL.Ac(E:Env KT N0 M O R D)(he:¬KT e)(h:HL M O N0 Ex w₀ (rl++l) w)(y:ig e 1 v n xs rl)(t u ty:TypeId)(ht:P.underlying t=some (.slice e))(hu:P.underlying u=some .string)(I:(P.info? e).map (fun i=>(i.zero,i.size,i.bytes))=some (some (.int .u8 0),1,1))
 (s:ByteArray)(hn:n+s.size≤140737488355328) :
  ∃B c Y,(Builtin.append_ #[t,u] ty #[v,.string s]).run P w=.ok B c∧HL M O N0 Ex w₀ (Y++l) c∧(ig e 1 B (n+s.size) (xs++strCells s) Y∧(lp e 1 v n xs rl→lp e 1 B (n+s.size) (xs++strCells s) Y))∧Own KT M w c∧(∀b,b<w.heap.size→v.ownBlock≠some b→c.heap[b]?=w.heap[b]?) ∧
   (∀k,B.ownBlock=some k→v.ownBlock=some k∨w.heap.size≤k) ∧
   (∀G∈(Builtin.append_ #[t,u] ty #[v,.string s]).events P w #[],tW (M c) G):=by
 have⟨i0,I,V,W,X⟩:=info_parts I;have j:=y.Qa h;have x:n+s.size≤maxLen:=by unfold maxLen;omega
 have⟨B,c,T,S,hg,af⟩:=run_append_own_string (P:=P) w 0 t u ty e i0 ht hu I V W X v n xs j s x hn (Nat.zero_le _);have⟨ao,f⟩:=p7 (P:=P) t u ty e i0 _ ht hu I V W X v n xs j s x hn T;have aj:=oN (P:=P) w t u ty e i0 _ ht hu I V W X v n xs j s x hn;have J:∀k,v.ownBlock=some k→M w k∧(Ex k∨w₀.heap.size≤k)∧∃a,w.heap[k]?=some (.cells a e):=by intro k d;have⟨a,A⟩:=y.block d;have⟨r,K,z3⟩:=h.own k _ (by rw[A];simp:(k,Obj.cells a e)∈rl++l);exact⟨r,z3,a,K⟩
 have m:Own KT M w c:=by
  rcases ao with rfl|⟨k,cs,d,rfl⟩|⟨cs,rfl⟩
  ·exact Own.refl _
  ·have⟨r,_,a,L⟩:=J k d;exact Own.setRow L r he
  ·have:=Own.alloc (KT:=KT) (M:=M) (w:=w.drew) (cs:=cs) (t:=e) he;exact⟨this.tape,this.os,this.output,this.grow,fun b Z p=>heap_alloc_old w.drew _ b Z,fun b o' hh d=>(this.kt b o' hh d)⟩
 have U:∀b,b<w.heap.size→v.ownBlock≠some b→c.heap[b]?=w.heap[b]?:=fun b Z hx=>hg.block b Z (fun e=>hx e.symm);have C:∀k,B.ownBlock=some k→v.ownBlock=some k∨w.heap.size≤k:=by
  intro k d;rcases f with f|f
  ·exact .inl (f▸d)
  ·rw[f] at d;cases d;exact .inr lr
 have a6:∀b o,(b,o)∈l→v.ownBlock≠some b:=by intro b o p d;have⟨F,A⟩:=y.block d;exact h.oy (k:=b) (o:=.cells F e) (by rw[A];simp) p
 have a2:Kept M O Ex w₀ c:=h.kept.own E m fun b H hx=>U b (E.lt (h.kept.mine b H)) fun d=>by
  rcases(J b d).2.1 with z|z
  ·exact hx z
  ·have:=E.lt H;omega
 have ae:∀b o,(b,o)∈l→M c b∧c.heap[b]?=some o∧(Ex b∨w₀.heap.size≤b):=fun b o z=>by have⟨r,K,z3⟩:=h.own b o (List.mem_append_right _ z);exact⟨E.mine m r,(U b (E.lt r) (a6 b o z)).trans K,z3⟩
 have a5:∀G∈(Builtin.append_ #[t,u] ty #[v,.string s]).events P w #[],tW (M c) G:=fun G ab=>by
  rcases aj G ab with ⟨ad,r,K⟩|⟨mk,rfl,al⟩
  ·exact .inl ⟨ad,r,E.mine m (J _ K.symm).1⟩
  ·obtain rfl:mk=.noRoom:=al;exact .inr (.inr ⟨by simp[MemAct.ofEvent,MemAct.touch?],iq,iq,by simp[MemAct.ofEvent]⟩)
 have⟨N,ah⟩:=S;rcases ah with ⟨e1,Q⟩|⟨g,cap,a,rfl,_,L,O8,O9,Pa,Q5⟩
 ·exact⟨B,c,[],T,⟨a2,lT h.size m.grow,fun b o p=>ae b o (by simpa using p),by simpa using h.right.nodup⟩,⟨⟨N,.inl ⟨e1,Q,rfl⟩⟩,fun _=>⟨N,.inl ⟨e1,Q,rfl⟩⟩⟩,m,U,C,a5⟩
 have ag:lp e 1 v n xs rl→0<n+s.size:=fun y=>by
  apply Classical.byContradiction;intro hp
  have aq:v=.slice Option.none 0 0:=by
   rcases y.2 with ⟨z,_⟩|⟨_,_,_,_,_,z,_⟩
   ·exact z
   ·omega
  have:=af.2 ⟨aq,oq⟩;cases this
 have ak:∀o,(g,o)∈l→False:=by
  intro o S;rcases C g rfl with z|z
  ·exact a6 g o S z
  ·have:=E.lt (h.own g o (List.mem_append_right _ S)).1;omega
 have ai:M c g:=by
  rcases C g rfl with z|z
  ·exact E.mine m (J g z).1
  ·exact E.new h.size m z (Array.getElem?_eq_some_iff.1 L).1
 refine⟨_,c,[(g,.cells a e)],T,⟨a2,lT h.size m.grow,fun b o p=>?_,?_⟩,⟨⟨N,.inr ⟨g,cap,a,rfl,rfl,O8,O9,Pa,Q5⟩⟩,fun y=>⟨N,.inr ⟨g,cap,a,rfl,rfl,ag y,O8,O9,Pa,Q5⟩⟩⟩,m,U,C,a5⟩
 ·rcases List.mem_append.1 p with z|z
  ·rw[List.mem_singleton] at z;cases z;refine⟨ai,L,?_⟩;rcases C g rfl with z|z
   ·exact(J g z).2.1
   ·exact .inr (lT h.kept.grow z)
  ·exact ae b o z
 ·refine List.nodup_cons.2 ⟨fun p=>?_,h.right.nodup⟩;have⟨q,hq,e'⟩:=List.mem_map.1 p;have Q:q.1=g:=e';exact ak q.2 (by rw[← Q];exact hq)
end
def jS(l:Hq)(b:Nat):Prop:=∃o,(b,o)∈l
section
variable {KT:TypeId→Prop}{N0:Nat}{M:World→Nat→Prop}{O:Nat→Prop}{R:Wq}{D:World→World→Array Event→Prop}{Ex:Nat→Prop}{w₀ w w':World}{l l1 LC:Hq}
def HL.left(h:HL M O N0 Ex w₀ (l1++l) w):HL M O N0 Ex w₀ l1 w:=⟨h.kept,h.size,fun b o U=>h.own b o (List.mem_append_left _ U),by have:=h.nodup;rw[List.map_append] at this;exact(List.nodup_append.1 this).1⟩
def HL.lg(h:HL M O N0 Ex w₀ l w):HL M O N0 (jS l) w l w:=⟨Kept.refl w,h.size,fun b o U=>⟨(h.own b o U).1,(h.own b o U).2.1,.inl ⟨o,U⟩⟩,h.nodup⟩
def HL.call(E:Env KT N0 M O R D)(h:HL M O N0 Ex w₀ (l1++l) w)(U:HL M O N0 (jS l1) w LC w'):HL M O N0 Ex w₀ (LC++l) w':=by
 have m:∀b,jS l1 b→Ex b∨w₀.heap.size≤b:=fun b ⟨o,a⟩=>(h.own b o (List.mem_append_left _ a)).2.2;have k:∀b o,(b,o)∈l→¬jS l1 b:=fun b o a ⟨u,g⟩=>h.oy g a;refine⟨h.kept.trans E U.kept m,U.size,fun b o a=>?_,?_⟩
 ·rcases List.mem_append.1 a with z|z
  ·have⟨f,i,j⟩:=U.own b o z;exact⟨f,i,j.elim (m b) fun z=>.inr (lT h.kept.grow z)⟩
  ·have⟨f,i,j⟩:=h.own b o (List.mem_append_right _ z);exact⟨U.kept.mine b f,(U.kept.block b f (k b o z)).trans i,j⟩
 ·rw[List.map_append];refine List.nodup_append.2 ⟨U.nodup,h.right.nodup,fun x n y t e=>?_⟩;obtain⟨q,s,rfl⟩:=List.mem_map.1 n;have⟨d,c,p⟩:=List.mem_map.1 t;have r:q.1=d.1:=e.trans p.symm;rcases(U.own q.1 q.2 s).2.2 with z|z
  ·rw[r] at z;exact k d.1 d.2 c z
  ·have:=E.lt (h.own d.1 d.2 (List.mem_append_right _ c)).1;omega
end
section
variable {N Pb:Nat}{Shun:Loc→Prop}{val:Value}{B:Nat}{Mine:Loc→Prop}{Ex:Nat→Prop}{w₀ w w':World}{all:Iq}{Rb:Nat}{i:Ph}{l l1 LC:Hq}
variable [Go.ConcR.Payload][Go.ConcX.Payload]
variable [Go.ConcX.Shy (Cfg.Wg (aB prog N Pb Shun val B Mine)) (Cfg.C (aB prog N Pb Shun val B Mine))]
def HX.call(F:Cfg.Fit (aB prog N Pb Shun val B Mine))(h:HX (aB prog N Pb Shun val B Mine) Ex w₀ all Rb i (l1++l) w)(a:HL (c9 (aB prog N Pb Shun val B Mine)) (gG (aB prog N Pb Shun val B Mine)) (N+9) (jS l1) w LC w'):HX (aB prog N Pb Shun val B Mine) Ex w₀ all Rb i (LC++l) w':=by
 have E:=h.env F;have⟨v,m,d,j,h1,h2,h3,e,k⟩:=h.row;have g:∀b,oh Rb v b→¬jS l1 b:=fun b U ⟨o,f⟩=>e b o (List.mem_append_left _ f) U;have f:∀b,oh Rb v b→c9 (aB prog N Pb Shun val B Mine) w b:=fun b U=>by
  rcases U with rfl|U
  ·exact h3.mr
  ·exact(h3.ro.own b U).1
 refine⟨h.hl.call E a,v,m,d,j,h1,h2,h3.still (fun b U=>a.kept.block b (f b U) (g b U)) (fun b U=>a.kept.mine b U) a.size,fun b o c=>?_,k⟩;rcases List.mem_append.1 c with z|z
 ·rcases(a.own b o z).2.2 with ⟨o',y⟩|y
  ·exact e b o' (List.mem_append_left _ y)
  ·exact fun U=>by have:=h3.lt F b U;omega
 ·exact e b o (List.mem_append_right _ z)
end
section
variable {P:Program}
def tl{cs:Vq}(U:w.heap[b]?=some (.cells cur t fz))(a:∀j v,cs[j]?=some v→cur[off+j]?=some v):w.rangeAt b off cs:=fun j v c=>by simp[World.cell?,U,a j v c]
def jG(w:World)(b off:Nat)(ty:TypeId)(cs:Vq)(d:TypeDesc)(n:w.rangeAt b off cs)(f:P.underlying ty=some d)(r:d.isRow=true)(l:(P.info? ty).map (·.size)=some cs.length) :
  ∀c∈(Instr.loadAt ty (.pointer (some ⟨b,off,none⟩))).events P w #[],∃e:Addr,c.loc=.cell e∧e.block=b:=by
 intro c k;cases hq:P.info? ty with
 | none=>simp[hq] at l
 | some i =>
  have q:i.size=cs.length:=by simpa[hq] using l
  have m:(isAgg ty).run P w=.ok true w:=by unfold isAgg;rw[Sem.run_bind,run_underlying f w];cases d<;>simp_all [TypeDesc.isRow]
  have U:∀a,(isAgg ty).events P w a=a:=fun a=>by unfold isAgg;simp only[Sem.events_bind,run_underlying f w];cases d<;>simp[underlying,f]
  simp[Instr.loadAt,Instr.sureAddr,loadVar,Sem.events_bind,m,U,sizeOf,typeInfo,hq,q] at k;have p:∀a,∀c∈(loadCells ⟨b,off,none⟩ cs.length).events P w a,c∈a∨c.readsIn (fun g=>g=b):=fun a =>events_loadCellsFrom_at (P:=P) ⟨b,off,none⟩ (fun g=>g=b) rfl cs.length 0 #[] w a (fun j o=>by have h:=n j cs[j] (gE o);rw[Nat.zero_add,Addr.add_mid,h];rfl);rcases p _ c k with h|⟨e,h1,_,h3⟩
  ·simp at h
  ·exact⟨e,h1,h3⟩
end
structure Co(KT:TypeId→Prop)(N0:Nat)(M:World→Nat→Prop)(O:Nat→Prop)(R:Wq)(D:World→World→Array Event→Prop)(H:Hq→World→Prop):Prop where
 env:Env KT N0 M O R D
 rely:∀{l w aE},H l w→R w aE→H l aE
 size:∀{l w},H l w→N0≤w.heap.size
 own:∀{l w b o},H l w→(b,o)∈l→M w b∧w.heap[b]?=some o
 nodup:∀{l w},H l w→(l.map Prod.fst).Nodup
 grown:∀{l w o},H l w→Own KT M w (w.alloc o)→H ((w.heap.size,o)::l) (w.alloc o)
 turn:∀{l w w' b o o'},H ((b,o)::l) w→Own KT M w w'→w'.heap[b]?=some o'→(∀k,k≠b→w'.heap[k]?=w.heap[k]?)→H ((b,o')::l) w'
 perm:∀{l l' w},H l w→l'.Perm l→H l' w
 drop:∀{x l w},H (x::l) w→H l w
 past:∀{l w w'},H l w→Kept M O (fun _=>False) w w'→N0≤w'.heap.size→H l w'
 call:∀{l1 LC l w w'},H (l1++l) w→HL M O N0 (jS l1) w LC w'→H (LC++l) w'
section
variable {KT:TypeId→Prop}{N0:Nat}{M:World→Nat→Prop}{O:Nat→Prop}{R:Wq}{D:World→World→Array Event→Prop}{H:Hq→World→Prop}{Ex:Nat→Prop}{w₀ w w':World}{l l1:Hq}
def HL.co(E:Env KT N0 M O R D):Co KT N0 M O R D (HL M O N0 Ex w₀) where
 env:=E
 rely h r:=h.rely E r
 size h:=h.size
 own h hm:=⟨(h.own _ _ hm).1,(h.own _ _ hm).2.1⟩
 nodup h:=h.nodup
 grown h hO:=h.grown E hO
 turn h hO hb hk:=h.turn E hO hb hk
 perm h p:=h.perm p
 drop h:=h.drop
 past h k hs:=h.past E k hs
 call h h':=h.call E h'
def Co.hl(Z:Co KT N0 M O R D H)(h:H l w):HL M O N0 (jS l) w l w:=⟨Kept.refl w,Z.size h,fun b o U=>⟨(Z.own h U).1,(Z.own h U).2,.inl ⟨o,U⟩⟩,Z.nodup h⟩
def kY:∀{l:List α} {k:Nat} {x:α},l[k]?=some x→(x::l.eraseIdx k).Perm l
 | y::l,0,x,h=>by simp at h;subst h;exact .refl _
 | y::l,k+1,x,h=>((List.Perm.swap y x (l.eraseIdx k))).trans (.cons y (kY (by simpa using h)))
def tf:∀{l:List α} {k:Nat} {x y:α},l[k]?=some x→(l.set k y).Perm (y::l.eraseIdx k)
 | z::l,0,x,y,h=>.refl _
 | z::l,k+1,x,y,h=>(List.Perm.cons z (tf (x:=x) (by simpa using h))).trans (List.Perm.swap y z _)
def Co.front(Z:Co KT N0 M O R D H)(h:H l w)(k:Nat){o:Obj}(U:l[k]?=some (b,o)):H ((b,o)::l.eraseIdx k) w:=by exact Z.perm h (kY U)
def Co.Bw(Z:Co KT N0 M O R D H)(h:H l w)(k:Nat){o:Obj}(U:l[k]?=some (b,o))(a:Own KT M w w')(c:w'.heap[b]?=some o')(d:∀k,k≠b→w'.heap[k]?=w.heap[k]?):H (l.set k (b,o')) w':=by exact Z.perm (Z.turn (Z.front h k U) a c d) (tf U)
end
def putAt(cur:Aq)(off:Nat)(cs:Vq):Aq:=(cur.toList.take off++cs++cur.toList.drop (off+cs.length)).toArray
section
variable {ι:Type}{P:Program}{R:ι→Wq}{D:ι→World→World→Array Event→Prop}{X:ι→Gq}{fn:FuncId}{Q:dV ι}{a:Act}{w:World}{vs:ι}{KT:TypeId→Prop}{N0:Nat}{M:World→Nat→Prop}{O:Nat→Prop}{H:Hq→World→Prop}{l:Hq}
def Eo(C:bw P true R D X)(Z:Co KT N0 M O (R vs) (D vs) H)(p:ops[i]?=some o)(s:Region.wanted o (yielded ops a.tmps)=true)(U:o.op=.box t x)(u:(a.eval x).cells=cs)(r:¬KT t)
 (k:H l w)(h:∀b j,H ((b,.cells cs t)::l) j→ck X fn ops rest vs Q (a.put o.dst (.pointer (sq b))) j):ck X fn ops (i::rest) vs Q a w:=by
 refine aF C p s fun c n K m=>?_;have d:=Z.rely k n;have g:Own KT M c (c.alloc (.cells cs t)):=Own.alloc r;have q:(execOp a.eval o).run P c=.ok (.value (.pointer (sq c.heap.size))) (c.alloc (.cells cs t)):=by simp[execOp,U,BO,u]
 have f:(execOp a.eval o).events P c #[]=#[]:=by simp[execOp,U,sf]
 rw[q];refine m _ _ ⟨?_,h _ _ (Z.grown d g)⟩;rw[listed_nil f];exact Z.env.jA (Z.size d) g (fun e f=>by simp at f)
def yY(C:bw P true R D X)(Z:Co KT N0 M O (R vs) (D vs) H)(q:ops[i]?=some o)(u:Region.wanted o (yielded ops a.tmps)=true)(U:o.op=.alloc t)(j:∀w,(zeroValue t).run P w=.ok z w)(v:z.cells=cs)(s:¬KT t)
 (m:H l w)(h:∀b k,H ((b,.cells cs t)::l) k→ck X fn ops rest vs Q (a.put o.dst (.pointer (sq b))) k):ck X fn ops (i::rest) vs Q a w:=by
 refine aF C q u fun c p K n=>?_;have d:=Z.rely m p;have g:Own KT M c (c.alloc (.cells cs t)):=Own.alloc s;have r:(execOp a.eval o).run P c=.ok (.value (.pointer (sq c.heap.size))) (c.alloc (.cells cs t)):=by simp[execOp,U,p6 j,v]
 have f:(execOp a.eval o).events P c #[]=#[]:=by simp[execOp,U,kJ j]
 rw[r];refine n _ _ ⟨?_,h _ _ (Z.grown d g)⟩;rw[listed_nil f];exact Z.env.jA (Z.size d) g (fun e f=>by simp at f)
def jc(U:P.underlying ty=some d)(a:d.isRow=false)(w:World):(isAgg ty).run P w=.ok false w:=by unfold isAgg;rw[Sem.run_bind,run_underlying U w];cases d<;>simp_all [TypeDesc.isRow]
def kQ(U:P.underlying ty=some d)(w:World)(es:Array Event):(isAgg ty).events P w es=es:=by unfold isAgg;simp only[Sem.events_bind,run_underlying U w];cases d<;>simp[underlying,U]
def kV(C:bw P true R D X)(Z:Co KT N0 M O (R vs) (D vs) H)(k:Nat)(B:ops[i]?=some o)(G:Region.wanted o (yielded ops a.tmps)=true)(j:o.op=.load ty x)(n:a.eval x=.pointer (some ⟨b,off,none⟩))
 (g:P.underlying ty=some d)(m:d.isRow=false)(q:H l w)(z:l[k]?=some (b,.cells cs t fz))(F:cs[off]?=some v)(h:∀p,H l p→ck X fn ops rest vs Q (a.put o.dst v) p):ck X fn ops (i::rest) vs Q a w:=by
 refine aF C B G fun c s K r=>?_;have e:=Z.rely q s;have⟨A,u⟩:=Z.own e (mG z);have f:c.cell? ⟨b,off,none⟩=some v:=by simp[World.cell?,u,F]
 have E:(execOp a.eval o).run P c=.ok (.value v) c:=by simp[execOp,j,n,Instr.loadAt,Instr.sureAddr,loadVar,jc g m,load,Sem.run,f]
 have y:(execOp a.eval o).events P c #[]=#[⟨.cell ⟨b,off,none⟩,false,false⟩]:=by simp[execOp,j,n,Instr.loadAt,Instr.sureAddr,loadVar,jc g m,kQ g,events_load,f]
 rw[E];refine r _ _ ⟨Z.env.jA (Z.size e) (Own.refl _) fun I U=>?_,h c e⟩;have U:=mem_listed U;rw[y] at U;simp at U;subst U;exact .inl ⟨_,rfl,A⟩
def uk(C:bw P true R D X)(Z:Co KT N0 M O (R vs) (D vs) H){cs:Vq}(k:Nat)(N:ops[i]?=some o)(S:Region.wanted o (yielded ops a.tmps)=true)(U:o.op=.load ty x)(s:a.eval x=.pointer (some ⟨b,off,none⟩))
 (r:P.underlying ty=some d)(p:d.isRow=true)(q:(P.info? ty).map (·.size)=some cs.length)(B:H l w)(J:l[k]?=some (b,.cells cur t fz))(I:∀j v,cs[j]?=some v→cur[off+j]?=some v)
 (h:∀u,H l u→ck X fn ops rest vs Q (a.put o.dst (.agg cs.toArray)) u):ck X fn ops (i::rest) vs Q a w:=by
 refine aF C N S fun c F K E=>?_;have e:=Z.rely B F;have⟨L,G⟩:=Z.own e (mG J);have g:=tl G I;have f:=run_loadAt_mid (P:=P) c b off ty cs d g r p q;have n:(execOp a.eval o).run P c=.ok (.value (.agg cs.toArray)) c:=by unfold execOp;simp only[U,s,Sem.run_bind,Sem.run_pure,Result.andThen_ok,f]
 have y:(execOp a.eval o).events P c #[]=(Instr.loadAt ty (.pointer (some ⟨b,off,none⟩))).events P c #[]:=by unfold execOp;simp only[U,s,Sem.events_bind,f,Result.evThen_ok,Sem.events_pure]
 rw[n];refine E _ _ ⟨Z.env.jA (Z.size e) (Own.refl _) fun A m=>?_,h c e⟩;have m:=mem_listed m;rw[y] at m;have⟨z,h1,h2⟩:=jG c b off ty cs d g r p q A m;exact .inl ⟨z,h1,by rw[h2];exact L⟩
def rj(C:bw P true R D X)(Z:Co KT N0 M O (R vs) (D vs) H){y:Operand}{cs:Vq}(k:Nat)(V:ops[i]?=some o)(Y:Region.wanted o (yielded ops a.tmps)=true)(q:o.op=.store ty x y)(A:a.eval x=.pointer (some ⟨b,off,none⟩))(B:(a.eval y).cells=cs.toArray)
 (r:(P.info? ty).map (·.size)=some cs.length)(h1:∀v∈cs,v.oneCell'=true)(W:¬KT t)(N:H l w)(g:l[k]?=some (b,.cells cur t))(a5:off+cs.length≤cur.size)(F:putAt cur off cs=cur')
 (h:∀E,H (l.set k (b,.cells cur' t)) E→ck X fn ops rest vs Q (a.put o.dst undef) E):ck X fn ops (i::rest) vs Q a w:=by
 subst F;refine aF C V Y fun c T K S=>?_;have d:=Z.rely N T;have⟨s,f⟩:=Z.own d (mG g);cases hq:P.info? ty with
 | none=>simp[hq] at r
 | some J =>
  have u:J.size=cs.length:=by simpa[hq] using r
  have U:=run_storeCells_at (P:=P) b off t cs 0 cur c f oq h1;have p:=events_storeCells_at (P:=P) b off t cs 0 cur c #[] f oq h1;have U:(storeCells ⟨b,off,none⟩ cs).run P c=.ok () (c.setRow b (putAt cur off cs)):=U;have e:(Instr.storeAt ty (.pointer (some ⟨b,off,none⟩)) (a.eval y)).run P c=.ok () (c.setRow b (putAt cur off cs)):=by simp[Instr.storeAt,Instr.sureAddr,storeVar,sizeOf,typeInfo,hq,u,B,U]
  have I:(Instr.storeAt ty (.pointer (some ⟨b,off,none⟩)) (a.eval y)).events P c #[]=(storeCells ⟨b,off,none⟩ cs).events P c #[]:=by simp[Instr.storeAt,Instr.sureAddr,storeVar,sizeOf,typeInfo,hq,u,B]
  have m:Own KT M c (c.setRow b (putAt cur off cs)):=Own.setRow f s W;have n:(execOp a.eval o).run P c=.ok .skip (c.setRow b (putAt cur off cs)):=by unfold execOp;simp only[q,A,Sem.run_bind,Sem.run_pure,Result.andThen_ok,e]
  have G:(execOp a.eval o).events P c #[]=(Instr.storeAt ty (.pointer (some ⟨b,off,none⟩)) (a.eval y)).events P c #[]:=by unfold execOp;simp only[q,A,Sem.events_bind,e,Result.evThen_ok,Sem.events_pure]
  rw[n];refine S _ _ ⟨Z.env.jA (Z.size d) m fun L j=>?_,h _ (Z.Bw d k g m ?_ fun k g=>?_)⟩
  ·have j:=mem_listed j;rw[G,I] at j;rcases p L j with z|⟨ad,z1,z2⟩
   ·simp at z
   ·exact .inl ⟨ad,z1,by rw[z2];exact Z.env.mine m s⟩
  ·simp[World.setRow,Array.getElem?_modify,f]
  ·simp[World.setRow,Array.getElem?_modify,Ne.symm g]
end
section
variable {N Pb:Nat}{Shun:Loc→Prop}{val:Value}{B:Nat}{Mine:Loc→Prop}{Ex:Nat→Prop}{w₀ w w':World}{all:Iq}{Rb:Nat}{i:Ph}{l l':Hq}
def HX.perm(h:HX K Ex w₀ all Rb i l w)(p:l'.Perm l):HX K Ex w₀ all Rb i l' w:=by have⟨v,f,a,c,h1,h2,h3,U,d⟩:=h.row;exact⟨h.hl.perm p,v,f,a,c,h1,h2,h3,fun b o e=>U b o (p.mem_iff.1 e),d⟩
variable [Go.ConcR.Payload][Go.ConcX.Payload]
variable [Go.ConcX.Shy (Cfg.Wg (aB prog N Pb Shun val B Mine)) (Cfg.C (aB prog N Pb Shun val B Mine))]
def HX.co(F:Cfg.Fit (aB prog N Pb Shun val B Mine))(h:HX (aB prog N Pb Shun val B Mine) Ex w₀ all Rb i l w):Co eO (N+9) (c9 (aB prog N Pb Shun val B Mine)) (gG (aB prog N Pb Shun val B Mine)) (nh (aB prog N Pb Shun val B Mine) i) (rZ (aB prog N Pb Shun val B Mine) i) (fun l w=>HX (aB prog N Pb Shun val B Mine) Ex w₀ all Rb i l w) where
 env:=h.env F
 rely h r:=h.rely F r
 size h:=h.hl.size
 own h hm:=⟨(h.hl.own _ _ hm).1,(h.hl.own _ _ hm).2.1⟩
 nodup h:=h.hl.nodup
 grown h hO:=h.grown F hO
 turn h hO hb hk:=h.turn F hO hb hk
 perm h p:=h.perm p
 drop h:=h.drop
 past h k hs:=h.past F k hs
 call h h':=h.call F h'
end
section
variable {ι:Type}{P:Program}{R:ι→Wq}{D:ι→World→World→Array Event→Prop}{X:ι→Gq}{fn:FuncId}{Q:dV ι}{a:Act}{w:World}{vs:ι}{KT:TypeId→Prop}{N0:Nat}{M:World→Nat→Prop}{O:Nat→Prop}{H:Hq→World→Prop}{l rl:Hq}
def oG(w:World)(t e:TypeId)(b:Nat)(a:Array (Nat × Value))(cells:Aq)(c:TypeInfo)(z:Value)
 (g:P.underlying t=some (.slice e))(f:P.info? e=some c)(j:c.zero=some z)(U:¬b*c.size>2 ^ 24)(d:¬b*c.size=0)
 (h:Instr.fill (fun i=>some (i*c.size,c.size)) ((Array.range (b*c.size)).map (z.cells[· % z.cells.size]!)) a.toList=some cells)(es:Array Event) :
  (Instr.buildSlice t b a).events P w es=es:=by simp[Instr.buildSlice,run_underlying g,sizeOf,typeInfo,zeroValue,f,j,U,d,h,newRow]
def ry(w:World)(t e:TypeId)(b:Nat)(a:Array (Nat × Value))(cells:Aq)(c:TypeInfo)(z:Value)
 (g:P.underlying t=some (.slice e))(f:P.info? e=some c)(k:c.zero=some z)(U:¬b*c.size>2 ^ 24)
 (h:Instr.fill (fun i=>some (i*c.size,c.size)) ((Array.range (b*c.size)).map (z.cells[· % z.cells.size]!)) a.toList=some cells)(es:Array Event) :
  (Instr.buildSlice t b a).run P w=.ok (.slice (sq w.heap.size) b b) (w.alloc (.cells cells e))∧(Instr.buildSlice t b a).events P w es=es:=by
 by_cases d:b*c.size=0
 ·rw[d] at h;have j:Array.range 0=#[]:=rfl;have l:Instr.fill (fun i=>some (i*c.size,c.size)) #[] a.toList=some cells:=by rw[j] at h;simpa using h
  constructor;iterate 2
   ·simp[Instr.buildSlice,run_underlying g,sizeOf,typeInfo,f,d,j,l,newRow]
 ·exact⟨run_buildSlice w t e b a cells c z g f k U d h,oG w t e b a cells c z g f k U d h es⟩
def sliced(P:Program)(e:TypeId)(len:Nat)(parts:List (Nat × Value)):Option (Aq) :=
 match P.info? e with
 | some ie=>match ie.zero with
  | some z=>if len*ie.size>2 ^ 24 then none else Instr.fill (fun i=>some (i*ie.size,ie.size)) ((Array.range (len*ie.size)).map (z.cells[· % z.cells.size]!)) parts
  | none=>none
 | none=>none
def qC(C:bw P true R D X)(Z:Co KT N0 M O (R vs) (D vs) H){d:Array (Nat × Operand)}{cells:Aq}(v:ops[i]?=some o)(E:Region.wanted o (yielded ops a.tmps)=true)(k:o.op=.buildSlice t len d)(B:P.underlying t=some (.slice e))(A:¬KT e)(U:sliced P e len (d.map fun (i,x)=>(i,a.eval x)).toList=some cells)
 (r:H l w)(h:∀b p,H ((b,.cells cells e)::l) p→ck X fn ops rest vs Q (a.put o.dst (.slice (sq b) len len)) p):ck X fn ops (i::rest) vs Q a w:=by
 refine aF C v E fun c u K s=>?_;have f:=Z.rely r u;unfold sliced at U;cases Q7:P.info? e with
 | none=>simp[Q7] at U
 | some n =>
  cases hz:n.zero with
  | none=>simp[Q7,hz] at U
  | some z =>
   simp only[Q7,hz] at U;split at U
   ·cases U
   ·rename_i hn
    have j:=fun q=>ry (P:=P) c t e len (d.map fun (i,x)=>(i,a.eval x)) cells n z B Q7 hz hn U q;have m:Own KT M c (c.alloc (.cells cells e)):=Own.alloc A;have y:(execOp a.eval o).run P c=.ok (.value (.slice (sq c.heap.size) len len)) (c.alloc (.cells cells e)):=by unfold execOp;simp only[k,Sem.run_bind,(j #[]).1,Result.andThen_ok,Sem.run_pure]
    have g:(execOp a.eval o).events P c #[]=#[]:=by unfold execOp;simp only[k,Sem.events_bind,(j #[]).1,(j _).2,Result.evThen_ok,Sem.events_pure]
    rw[y];refine s _ _ ⟨?_,h _ _ (Z.grown f m)⟩;rw[listed_nil g];exact Z.env.jA (Z.size f) m (fun e g=>by simp at g)
end
def fO(ops:Array Oper):Bool:=(List.range ops.size).all fun i=>((ops[i]?).map (·.after.all fun e=>!Region.binds .any e||decide (e.on<i))).getD false
def kK(h:fO ops=true)(U:ops[i]?=some o){e:Edge}(b:e∈o.after)(a:Region.binds .any e=true):e.on<i:=by
 unfold fO at h;rw[aT] at h;have c:i<ops.size:=(Array.getElem?_eq_some_iff.1 U).1
 have:=h i (List.mem_range.2 c);rw[U] at this;simp only[Option.map_some,Option.getD_some,Array.all_eq_true_iff_forall_mem] at this
 have:=this e b;rw[a] at this;simpa using this
def kI(ops:Array Oper)(J:Nat→Bool)(i:Nat):Prop:=∀o,ops[i]?=some o→∀e∈o.after,Region.binds .any e=true→J e.on=true
section
variable {ι:Type}{P:Program}{main:Bool}{R:ι→Wq}{D:ι→World→World→Array Event→Prop}{X:ι→Gq}{fn:FuncId}{Q:dV ι}{a:Act}{w:World}{vs:ι}
def lB(C:bw P main R D X)(hd:LetsDraw (D vs))(hm:P.follows .mixedOrders=true)(O:ops.size=n)(V:fO ops=true)
 (f:(Nat→Bool)→ι→Act→World→Prop)(h0:∀d,R vs w d→f (fun _=>false) vs a { d with drawn:=d.drawn+1 })
 (G:∀J E vs a w,(∀k,k<n→J k=E k)→f J vs a w→f E vs a w)
 (W:∀(J:Nat→Bool) (i:Nat) (vs:ι) (a:Act) (w:World),f J vs a w→i<n→J i=false→kI ops J i→∀j,(∀g m s,f (fun k=>if k=i then true else J k) g m s→ck X fn ops j g Q m s)→ck X fn ops (i::j) vs Q a w)
 (F:∀(J:Nat→Bool) (vs:ι) (a:Act) (w:World),(∀k,k<n→J k=true)→f J vs a w→ck X fn ops [] vs Q a w):lm X fn (.region id ops true) vs Q a w:=by
 have B:∀(U t:Nat) (c:Array Bool) (vs:ι) (a:Act) (w:World),c.size=n→c.toList.count false≤U→f (fun k=>c.getD k false) vs a w→ck X fn ops (Region.linearise.go .any ops U t c []) vs Q a w:=by
  intro U;induction U with
  | zero =>
   intro t c vs a w T v u;refine F _ vs a w (fun k l=>?_) u;have h:=List.count_eq_zero.1 (Nat.le_zero.1 v);rw[Array.getD_eq_getD_getElem?,gF oq,Option.getD_some];cases e:c[k]'oq with
   | true=>rfl
   | false=>exact absurd (by rw[← e];simp) h
  | succ U ih =>
   intro t c vs a w T v u;by_cases z:Region.ready .any ops c=[]
   ·rw[AB z];refine F _ vs a w (fun k l=>?_) u;induction k using Nat.strongRecOn with
    | _ k ag =>
     cases e:c.getD k false with
     | true=>rfl
     | false =>
      exfalso;have K:k<ops.size:=oq
      have p:k∈Region.ready .any ops c:=by
       refine mem_ready.2 ⟨?_,ops[k],gF K,fun ed x q=>?_⟩
       ·rw[Array.getD_eq_getD_getElem?,gF oq,Option.getD_some] at e ⊢;exact e
       ·have af:=kK V (gF K) x q;exact ag ed.on af oq
      rw[z] at p;simp at p
   ·have Z:0<(Region.ready .any ops c).length:=List.length_pos_iff.2 z;obtain⟨i,N⟩:∃i,(Region.ready .any ops c)[t % (Region.ready .any ops c).length]?=some i:=⟨_,gE (Nat.mod_lt _ Z)⟩;have p:=mem_ready.1 (mG N);have⟨M,o,S,x⟩:=p;have A:i<n:=by rw[← O];exact(Array.getElem?_eq_some_iff.1 S).1
    have I:c[i]?=some false:=by rw[Array.getD_eq_getD_getElem?,gF oq,Option.getD_some] at M;rw[gF oq,M]
    rw[rJ N];refine W _ i vs a w u A (by rw[Array.getD_eq_getD_getElem?,I];rfl) (fun o' L e ae q=>?_) _ fun g m s y=>ih _ _ g m s (by simpa using T) ?_ (G _ _ g m s (fun k l=>?_) y)
    ·rw[S] at L;cases L;exact x e ae q
    ·have H:c.toList[i]'(by simpa using(show i<c.size by omega))=false:=by have:=(Array.getElem?_eq_some_iff.1 I).2;simpa using this
     have Y:i<c.toList.length:=by simpa using(show i<c.size by omega)
     have p:false∈c.toList:=by rw[← H];exact List.getElem_mem _
     rw[Array.toList_setIfInBounds,List.count_set Y,H,ip dq,iw dq];omega
    ·by_cases e:k=i
     ·subst e;simp[show k<c.size by omega]
     ·simp[Array.getD_eq_getD_getElem?,e,Ne.symm e]
 intro b k cs q l v;refine C.step rfl fun d r=>?_;rw[stepG_region_draw];refine⟨hd _,?_⟩;simp only[Region.schedule,hm,Bool.true_or,if_true];have e:Region.linearise .any ops (d.tape d.drawn (.order b.fn id))=Region.linearise.go .any ops n (d.tape d.drawn (.order b.fn id)) (Array.replicate n false) []:=by unfold Region.linearise;rw[O]
 rw[e];exact B n _ (Array.replicate n false) vs a _ iq iq (G _ _ vs a _ (fun k l=>by simp[Array.getD_eq_getD_getElem?,l]) (h0 d r)) b k cs q l v
end
end Go.Proofs.YtgcaionclkbehaaGreatDoor
