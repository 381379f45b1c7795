
import Derived.Test.YtgcaionclkbehaaGreatDoorFol
import Derived.Lib.RuneBytes
import Derived.Lib.Builder
set_option linter.all false
set_option maxHeartbeats 2000000
set_option maxRecDepth 100000
namespace Go.Proofs.YtgcaionclkbehaaGreatDoor
open Go.Conc Go.RowKit Tryz
def eo(d:DS)(b:Int):DS × Iq :=
 if 0<d.missing then if d.low<=b/\b<=d.high then cW d b else ((di (g8 d).1 b).1,(g8 d).2++(di (g8 d).1 b).2) else di d b
def mC(c:CS)(x y:Iq):aV c (x++y)=((aV (aV c x).1 y).1,(aV c x).2++(aV (aV c x).1 y).2):=by
 induction x generalizing c with
 | nil=>simp[aV]
 | cons r l a=>simp[aV,a]
def ng{a:Type}(x y:List a):(x++y).isEmpty=(x.isEmpty&&y.isEmpty):=by cases x<;>rfl
def pm(x y:Iq):V (x++y)=V x++V y:=by simp[V]
variable {N Pb c1 c2 B:Nat}{cp:Hp}{Shun Mz:Loc->Prop}{val:Value}{c:CS}{d:DS}{w aE:World}
section
variable [ConcR.Payload][ConcX.Payload]
def Ru(a:HC N Pb cp c1 c2 c d w)(fr:Bool)(b:Int)(vs:Vq) :
  hM prog (XK (aC prog N Pb Shun val B Mz)) 117 #[.pointer (sq c2),.int .u8 b] (fr,V (aV c (eo d b).2).2++vs) w (λr _ s=>r=(fr&&(aV c (eo d b).2).2.isEmpty,vs)/\HC N Pb cp c1 c2 (aV c (eo d b).2).1 (eo d b).1 s):=by
 have C:=cK N Pb Shun val B Mz;have T:=tK N Pb Shun val B Mz;have g:=T (true,[]);refine fp func117 rq rfl ?_;simp only[ntmps117,bZ,Nat.reduceAdd,Nat.reduceSub];refine fZ C T ?_;co_apply aU C T (eY.refl _);co_reg (T _);co_op HC.rely a (co_quiet g);iterate 2 co_opw HC.rely a (skip) (co_still g)
 co_opw HC.rely a (have k:=a.cN) (refine ea a ?_;co_evs (exact cJ (.inr (.inr rfl))));clear k;co_op HC.rely a (co_quiet g);co_apply opsC_nil (T _);co_then;by_cases o:0<d.missing
 .have n:decide (0<d.missing)=true:=tD o;try simp only[n]
  refine aZ C T (t:=true) rfl ?_;simp only[if_true];refine fZ C T ?_;by_cases q:d.low<=b
  .have m:decide (d.low<=b)=true:=tD q;co_apply aU C T (eY.refl _);co_reg (T _);co_op HC.rely a (co_quiet g);iterate 2 co_opw HC.rely a (skip) (co_still g)
   co_opw HC.rely a (have k:=a.cN) (refine ea a ?_;co_evs (exact cJ (.inr (.inr rfl))));clear k;iterate 3 co_op HC.rely a (co_quiet g)
   try simp only[m]
   iterate 2 co_op HC.rely a (co_quiet g)
   iterate 2 co_opw HC.rely a (skip) (co_still g)
   co_opw HC.rely a (have k:=a.cN) (refine ea a ?_;co_evs (exact cJ (.inr (.inr rfl))));clear k;iterate 2 co_op HC.rely a (co_quiet g)
   co_apply opsC_nil (T _);co_then;by_cases p:b<=d.high
   .have l:decide (b<=d.high)=true:=tD p;try simp only[l]
    refine aZ C T (t:=true) rfl ?_;simp only[if_true];refine fZ C T ?_;have f:eo d b=cW d b:=by simp only[eo,ip o,ip (And.intro q p)]
    refine bX C T ?_;simp only[fH,Nat.reduceAdd];iterate 2
     refine aP C rfl rq λ_ i j e=>?_
     replace a:=HC.rely a i
     clear i
     go_simp
     try (unfold stored;go_simp)
     refine e _ _ ⟨?_,?_⟩
     .co_quiet g
     clear e j;try walk_nrm
    refine cf C T rfl rq rfl rfl (by simp[Act.eval]) (by rw[f]) (IA a fr b vs) ?_;rintro _ _ _ ⟨rfl,a⟩;refine cG C T ?_;show mH _ _ _ _ _ _ _;refine n7 C T ?_;exact⟨.inr rfl,rfl,_,resultsC_none rq _,by simp[f],by rw[f];exact a⟩
   .have l:decide (b<=d.high)=false:=fD p;try simp only[l]
    refine aZ C T (t:=false) rfl ?_;simp only[if_false,kj];refine fh C T ?_;show mH _ _ _ _ _ _ _;have f:eo d b=((di (g8 d).1 b).1,(g8 d).2++(di (g8 d).1 b).2):=by simp only[eo,ip o,iw (λh:d.low<=b/\b<=d.high=>p h.2)]
    rw[f];simp only[mC,pm,u6];refine bX C T ?_;simp only[fH,Nat.reduceAdd];refine aP C rfl rq λ_ i j e=>?_;replace a:=HC.rely a i;clear i;go_simp;try (unfold stored;go_simp)
    refine e _ _ ⟨?_,?_⟩
    .co_quiet g
    clear e j;try walk_nrm
    refine cf C T rfl rq rfl rfl (by simp[Act.eval]) rfl (Iw a fr _) ?_;rintro _ _ _ ⟨rfl,a⟩;refine cG C T ?_;show mH _ _ _ _ _ _ _;refine bX C T ?_;simp only[fH,Nat.reduceAdd];iterate 2
     refine aP C rfl rq λ_ i j e=>?_
     replace a:=HC.rely a i
     clear i
     go_simp
     try (unfold stored;go_simp)
     refine e _ _ ⟨?_,?_⟩
     .co_quiet g
     clear e j;try walk_nrm
    refine cf C T rfl rq rfl rfl (by simp[Act.eval]) rfl (wZ a _ b vs) ?_;rintro _ _ _ ⟨rfl,a⟩;refine cG C T ?_;exact⟨.inl rfl,rfl,_,resultsC_none rq _,by simp[ng,Bool.and_assoc],a⟩
  .have m:decide (d.low<=b)=false:=fD q;co_apply aU C T (eY.refl _);co_reg (T _);co_op HC.rely a (co_quiet g);iterate 2 co_opw HC.rely a (skip) (co_still g)
   co_opw HC.rely a (have k:=a.cN) (refine ea a ?_;co_evs (exact cJ (.inr (.inr rfl))));clear k;iterate 3 co_op HC.rely a (co_quiet g)
   try simp only[m]
   iterate 6 co_apply opsC_unwanted (T _) rfl rq
   co_op HC.rely a (co_quiet g);co_apply opsC_nil (T _);co_then;refine aZ C T (t:=false) rfl ?_;simp only[if_false,kj];refine fh C T ?_;show mH _ _ _ _ _ _ _;have f:eo d b=((di (g8 d).1 b).1,(g8 d).2++(di (g8 d).1 b).2):=by simp only[eo,ip o,iw (λh:d.low<=b/\b<=d.high=>q h.1)]
   rw[f];simp only[mC,pm,u6];refine bX C T ?_;simp only[fH,Nat.reduceAdd];refine aP C rfl rq λ_ i j e=>?_;replace a:=HC.rely a i;clear i;go_simp;try (unfold stored;go_simp)
   refine e _ _ ⟨?_,?_⟩
   .co_quiet g
   clear e j;try walk_nrm
   refine cf C T rfl rq rfl rfl (by simp[Act.eval]) rfl (Iw a fr _) ?_;rintro _ _ _ ⟨rfl,a⟩;refine cG C T ?_;show mH _ _ _ _ _ _ _;refine bX C T ?_;simp only[fH,Nat.reduceAdd];iterate 2
    refine aP C rfl rq λ_ i j e=>?_
    replace a:=HC.rely a i
    clear i
    go_simp
    try (unfold stored;go_simp)
    refine e _ _ ⟨?_,?_⟩
    .co_quiet g
    clear e j;try walk_nrm
   refine cf C T rfl rq rfl rfl (by simp[Act.eval]) rfl (wZ a _ b vs) ?_;rintro _ _ _ ⟨rfl,a⟩;refine cG C T ?_;exact⟨.inl rfl,rfl,_,resultsC_none rq _,by simp[ng,Bool.and_assoc],a⟩
 .have n:decide (0<d.missing)=false:=fD o;try simp only[n]
  refine aZ C T (t:=false) rfl ?_;simp only[if_false,kj];refine fh C T ?_;show mH _ _ _ _ _ _ _;have f:eo d b=di d b:=by simp only[eo,iw o]
  refine bX C T ?_;simp only[fH,Nat.reduceAdd];iterate 2
   refine aP C rfl rq λ_ i j e=>?_
   replace a:=HC.rely a i
   clear i
   go_simp
   try (unfold stored;go_simp)
   refine e _ _ ⟨?_,?_⟩
   .co_quiet g
   clear e j;try walk_nrm
  refine cf C T rfl rq rfl rfl (by simp[Act.eval]) (by rw[f]) (wZ a fr b vs) ?_;rintro _ _ _ ⟨rfl,a⟩;refine cG C T ?_;exact⟨.inl rfl,rfl,_,resultsC_none rq _,by simp[f],by rw[f];exact a⟩
end
def Dt(P:Program)(w:World)(t:TypeId)(v:Value):(Instr.box t v).run P w=.ok (.pointer (sq w.heap.size)) (w.alloc (.cells v.cells t)):=by simp[Instr.box,newVar,go_sem]
def tz(P:Program)(w:World)(t:TypeId)(v:Value)(es:Array Event):(Instr.box t v).events P w es=es:=by simp[Instr.box,newVar,go_sem]
def qN{P:Program}{w:World}{t:TypeId}{z:Value}(a:∀w,(zeroValue t).run P w=.ok z w):(Instr.alloc t true (.tuple #[])).run P w=.ok (.pointer (sq w.heap.size)) (w.alloc (.cells z.cells t)):=by simp[Instr.alloc,newVar,go_sem,a]
def lU{P:Program}{w:World}{t:TypeId}{z:Value}(a:∀w,(zeroValue t).run P w=.ok z w)(es:Array Event):(Instr.alloc t true (.tuple #[])).events P w es=es:=by simp[Instr.alloc,newVar,go_sem,a]
def ou{P:Program}(w:World):∀(b:List Field) (a:List (Nat × Nat)) (es:Array Event),b.mapM (λf:Field=>(P.info? f.type).map λi=>(f.offset,i.size))=some a ->
  (b.mapM λf:Field=>Functor.map (Prod.mk f.offset) (sizeOf f.type)).events P w es=es
 | [],a,es,h=>by simp
 | f::b,a,es,h=>by
  simp only[List.mapM_cons,Option.bind_eq_bind,Option.pure_def] at h;cases hi:P.info? f.type with
  | none=>simp[hi] at h
  | some i =>
   cases hr:b.mapM (λf=>(P.info? f.type).map λi=>(f.offset,i.size)) with
   | none=>simp[hi,hr] at h
   | some rest =>
    have hs:(sizeOf f.type).run P w=.ok i.size w:=by simp[sizeOf,typeInfo,hi]
    simp[List.mapM_cons,hs,ou w b rest _ hr]
def jq{P:Program}(w:World)(t:TypeId)(a:Array (Nat × Value))(cells:Aq)(h:P.built t a.toList=some cells)(es:Array Event):(Instr.build t a).events P w es=es:=by
 unfold Program.built at h;cases K9:P.info? t with
 | none=>simp[K9] at h
 | some g =>
  cases hu:P.underlying t with
  | none=>simp[K9,hu] at h
  | some d =>
   cases hz:g.zero with
   | none=>cases d<;>simp[K9,hu,hz] at h
   | some z =>
    cases d<;>try (simp[K9,hu] at h;done)
    case array n e =>
     cases Oq:P.info? e with
     | none=>simp[K9,hu,hz,Oq] at h
     | some j =>simp only[K9,hu,hz,Oq] at h;simp[Instr.build,run_underlying hu,sizeOf,typeInfo,zeroValue,K9,hz,Oq,h]
    case struct fields =>
     cases hp:fields.toList.mapM (λf=>(P.info? f.type).map λi=>(f.offset,i.size)) with
     | none=>simp[K9,hu,hz,hp] at h
     | some b =>
      simp only[K9,hu,hz,hp] at h;have c:Instr.fill (λx=>b[x]?) z.cells a.toList=some cells:=by simpa using h
      simp[Instr.build,run_underlying hu,typeInfo,zeroValue,K9,hz,Array.mapM_eq_mapM_toList,run_places w _ _ hp,ou w _ _ _ hp,c]
theorem nI{P:Program}(g:Nat)(t:TypeId):∀(vs:Vq) (i:Nat) (U:Aq) (w:World) (es:Array Event),w.heap[g]?=some (.cells U t (0,0))->i+vs.length<=U.size->(∀v∈vs,v.oneCell'=true) ->
  ∀a∈(storeCells ⟨g,0,none⟩ vs i).events P w es,a∈es\/∃o,a=⟨.cell ⟨g,o,none⟩,true,false⟩
 | [],_,_,_,_,_,_,_=>λa h=>.inl (by simpa[storeCells] using h)
 | v::rest,i,U,w,es,hg,hl,h1=>λa h=>by
  have hi:i<U.size:=gq
  have c:(⟨g,0,none⟩:Addr).add i=⟨g,i,none⟩:=by unfold Addr.add;split<;>simp_all
  have b:w.cell? ⟨g,i,none⟩=some U[i]:=by simp[World.cell?,hg,hi]
  have d:w.frozen? ⟨g,i,none⟩=false:=by simp[World.frozen?,hg]
  have f:(store ((⟨g,0,none⟩:Addr).add i) v).run P w=.ok () (w.setRow g (U.setIfInBounds i v)):=by rw[c,run_store P w _ v _ (h1 v iq),b];simp[d,setCell_eq_setRow w g i U t (0,0) v hg]
  have e:(store ((⟨g,0,none⟩:Addr).add i) v).events P w es=es.push ⟨.cell ⟨g,i,none⟩,true,false⟩:=by rw[c,events_store P w es _ v _ (h1 v iq),b];grind
  simp only[storeCells,Sem.events_bind,f,Result.evThen_ok,e] at h;rcases nI g t rest (i+1) (U.setIfInBounds i v) (w.setRow g (U.setIfInBounds i v)) _ (setRow_heap w g U _ t _ hg) gq (λx j=>h1 x (by simp[j])) a h with h|h
  .grind
  .exact .inr h
theorem xZ{P:Program}(w:World)(g:Nat)(t ty:TypeId)(old cells:Aq)(c:w.heap[g]?=some (.cells old t (0,0)))(hi:(P.info? ty).map (·.size)=some cells.size)(e:old.size=cells.size)(h1:cells.all (·.oneCell')=true) :
  ∀a∈(storeVar ty ⟨g,0,none⟩ (.agg cells)).events P w #[],∃o,a=⟨.cell ⟨g,o,none⟩,true,false⟩:=by
 intro a b;cases hq:P.info? ty with
 | none=>simp[hq] at hi
 | some i =>
  have d:cells.size=i.size:=gq
  have U:a∈(storeCells ⟨g,0,none⟩ cells.toList).events P w #[]:=by simpa[storeVar,sizeOf,typeInfo,hq,Value.cells,d] using b
  rcases nI g t cells.toList 0 old w #[] c (by simp;omega) (λv f=>(Array.all_eq_true_iff_forall_mem.1 h1) v gq) a U with h|h
  .simp at h
  .exact h
abbrev eg:TypeId->Prop:=λt=>t=177\/t=179\/False
structure HM(M:World->Nat->Prop)(O:Nat->Prop)(N0:Nat)(Ex:Nat->Prop)(w₀:World)(Bb:Nat)(p u v:Value)(n:Nat)(xs:Vq)(w:World):Prop where
 bd:w.heap[Bb]?=some (.cells #[p,u] 119)
 mb:M w Bb
 exb:Ex Bb\/w₀.heap.size<=Bb
 ro:mN M Ex w₀ 5 v n xs w
 size:N0<=w.heap.size
 old:Kept M O Ex w₀ w
variable {ι:Type}{M:World->Nat->Prop}{O Ex:Nat->Prop}{N0 Bb n:Nat}{w₀:World}{p u v:Value}{xs:Vq}
section
variable {R:ι->Wq}{D:ι->World->World->Array Event->Prop}{i:ι}
def eJ{e:Event}{ad:Addr}(b:e.loc=.cell ad)(a:M w ad.block):u0 (M w) e:=.inl ⟨ad,b,a⟩
section
variable (E:Env eg N0 M O (R i) (D i))
def ec(a:N0<=w.heap.size){es:Array Event}(h:∀e∈es,u0 (M w) e):D i w w es:=E.jb a (Own.refl w) h
def u0.up{w':World}{e:Event}(h:u0 (M w) e)(a:∀b,M w b->M w' b):u0 (M w') e:=h.imp (λ⟨c,h1,h2⟩=>⟨c,h1,a _ h2⟩) (Or.imp (λ⟨b,d,h1,h2⟩=>⟨b,d,h1,a _ h2⟩) id)
def xb{w':World}(c:N0<=w.heap.size)(o:Own eg M w w'){es:Array Event}(h:∀e∈es,u0 (M w) e):D i w w' es:=E.jb c o λe b=>(h e b).up λ_ a=>E.mine o a
end
end
variable {P:Program}
section
theorem yL(a:Addr)(j:Nat):(a.add 1).add j=a.add (j+1):=by unfold Addr.add;grind
theorem lg(w:World):∀(l:Bq) (a:Addr) (acc:ByteArray) (es:Array Event),(∀j x,l[j]?=some x->w.cell? (a.add j)=some (.int .u8 x.toNat)) ->
  ∀U∈(loadBytes a acc l.length).events P w es,U∈es\/∃b,U.loc=.cell b/\b.block=a.block
 | [],a,acc,es,_=>λU h=>.inl (by simpa[loadBytes] using h)
 | x::l,a,acc,es,h=>λU c=>by
  have h0:w.cell? a=some (.int .u8 x.toNat):=by have:=h 0 x rfl;simpa[Addr.add] using this
  simp only[lC,loadBytes,Sem.events_bind,run_load,h0,Result.evThen_ok] at c;rcases lg w l (a.add 1) _ _ (λj y d=>by rw[yL];exact h (j+1) y gq) U c with z|⟨b,z1,z2⟩
  .rcases events_load_at w a .plain es h0 U z with y|⟨y,_⟩
   .exact .inl y
   .exact .inr ⟨a,y,rfl⟩
  .exact .inr ⟨b,z1,by rw[z2,addBlock]⟩
theorem lh(w:World)(d k ty e:TypeId)(A:P.underlying d=some (.pointer e))(v:P.cellsOf e=1)(g cells:Nat)(u:w.shape? g=some (e,cells))(l:Bq)(C:l≠[])(D:l.length<=cells)(B:l.length<=9223372036854775807)
 (U:∀j x,l[j]?=some x->w.cell? ((⟨g,0,none⟩:Addr).add j)=some (.int .u8 x.toNat)) :
  ∀f∈(Builtin.unsafeString_ #[d,k] ty #[.pointer (sq g),.int .i64 l.length]).events P w #[],∃i,f.loc=.cell i/\i.block=g:=by
 have y:l.length≠0:=gq
 have t:=Lib.run_loadBytes (P:=P) w l ⟨g,0,none⟩ .empty U;have a:=Lib.liesAt_bytes (P:=P) v (cells / P.cellsOf e) l.length gq;have b:¬(9223372036854775807:Int)<(l.length:Int):=oq
 obtain⟨m,o,p,q⟩:∃m o p:String,Builtin.unsafeString_ #[d,k] ty #[.pointer (sq g),.int .i64 l.length] =
   (do
    let n <-asInt (.int .i64 l.length)
    if n<0 then runtimePanic (.error m)
    if n>IntKind.i64.max then unsupported (.unsafePointer o)
    if n=0 then pure (.string .empty)
    else if <-variablesAt ⟨g,0,none⟩ (<-elemOf d) n.toNat then do
     let s <-loadBytes ⟨g,0,none⟩ .empty n.toNat
     freeze ⟨g,0,none⟩ n.toNat
     pure (.string s)
    else unsupported (.unsafePointer p)):=⟨_,_,_,rfl⟩;rw[q];have r:IntKind.i64.max=9223372036854775807:=rfl;have c:¬(l.length:Int)<0:=oq
 intro f h;simp[asInt,asIntOf,r,b,c,y,variablesAt,u,elemOf,run_underlying A,a,t] at h;rcases lg (P:=P) w l ⟨g,0,none⟩ .empty #[] U f h with z|z
 .simp at z
 .exact z
theorem q9(w:World){b k n:Nat}(h:k≠b):(w.freeze ⟨b,0,none⟩ n).heap[k]?=w.heap[k]?:=by unfold World.freeze;grind
theorem FH(w:World){b n:Nat}{cs:Aq}{t:TypeId}{fz:Nat × Nat}(h:w.heap[b]?=some (.cells cs t fz)):∃U,(w.freeze ⟨b,0,none⟩ n).heap[b]?=some (.cells cs t U):=by unfold World.freeze;grind
def Own.freeze{KT:TypeId->Prop}{M:World->Nat->Prop}{w:World}{b:Nat}{cs:Aq}{t:TypeId}{fz:Nat × Nat}(f:w.heap[b]?=some (.cells cs t fz))(g:M w b)(i:¬KT t)(n:Nat):Own KT M w (w.freeze ⟨b,0,none⟩ n):=by
 have a:(w.freeze ⟨b,0,none⟩ n).tape=w.tape/\(w.freeze ⟨b,0,none⟩ n).os=w.os/\(w.freeze ⟨b,0,none⟩ n).output=w.output/\(w.freeze ⟨b,0,none⟩ n).heap.size=w.heap.size:=by unfold World.freeze;split<;>simp
 refine⟨a.1,a.2.1,a.2.2.1,by rw[a.2.2.2];exact lr,λk _ c=>q9 w (λe=>c (e▸g)),λk j h c=>?_⟩;by_cases e:k=b
 .subst e;have⟨d,h2⟩:=FH w (n:=n) f;rw[h2] at h;cases h;exact absurd c i
 .exact q9 w e
end
theorem N9(x:Int)(U:0<=x)(h1:x<256):bits .and .u8 x 63=x % 64:=by
 have h:∀n:_root_.Fin 256,bits .and .u8 (n.val:Int) 63=(n.val:Int) % 64:=by decide +kernel
 have:=h ⟨x.toNat,by omega⟩;grind
theorem UJ(x:Int)(U:0<=x)(h1:x<32):bits .or .u8 192 x=192+x:=by
 have h:∀n:_root_.Fin 32,bits .or .u8 192 (n.val:Int)=192+(n.val:Int):=by decide +kernel
 have:=h ⟨x.toNat,by omega⟩;grind
theorem UI(x:Int)(U:0<=x)(h1:x<64):bits .or .u8 128 x=128+x:=by
 have h:∀n:_root_.Fin 64,bits .or .u8 128 (n.val:Int)=128+(n.val:Int):=by decide +kernel
 have:=h ⟨x.toNat,by omega⟩;grind
theorem UK(x:Int)(U:0<=x)(h1:x<16):bits .or .u8 224 x=224+x:=by
 have h:∀n:_root_.Fin 16,bits .or .u8 224 (n.val:Int)=224+(n.val:Int):=by decide +kernel
 have:=h ⟨x.toNat,by omega⟩;grind
theorem UL(x:Int)(U:0<=x)(h1:x<8):bits .or .u8 240 x=240+x:=by
 have h:∀n:_root_.Fin 8,bits .or .u8 240 (n.val:Int)=240+(n.val:Int):=by decide +kernel
 have:=h ⟨x.toNat,by omega⟩;grind
def Vf(x:Int):bits .or .u8 128 (bits .and .u8 (IntKind.u8.wrap x) 63)=128+x % 64:=by
 have a:IntKind.u8.wrap x=x % 256:=by rw[IntKind.wrap_u8]
 rw[a,N9 _ oq oq,UI _ oq oq];omega
def Good (r:Int):Prop:=(0<=r/\r<55296)\/(57343<r/\r<=1114111)
section
variable {R:ι->Wq}{D:ι->World->World->Array Event->Prop}{X:ι->Gq}{i:ι}
variable {r:Int}
def oQ{ι:Type}{P:Program}{main:Bool}{R:ι->World->World->Prop}{D:ι->World->World->Array Event->Prop}{X:ι->Goroutine->World->Prop}{fn:FuncId}{Q:ei ι}{a:Act}{w:World}{vs:ι}(C:bW P main R D X)(T:∀i,Terms (R i) (D i))
 {ops:Array Oper}{i:Nat}{rest:List Nat}{o:Oper}{f:FuncId}{aS:Func}{Ob:Array Operand}{ats:Array TypeId}{e:Array Value->Sem Value}{x:Value}(ho:ops[i]?=some o)(hw:Region.wanted o (yielded ops a.tmps)=true)(ko:o.op=.call { callee:=.value (.func f),args:=Ob,argTypes:=ats })
 (hf : P.funcs[f]? = some aS)(lm : (aS.name == "runtime.NumGoroutine") = false)(hb : aS.body.isNone = true)(hn : Extern.findNext aS = none)(he : Extern.find aS = some e){args' : Array Value}(tZ : Ob.map a.eval = args')(zV : ∀ w, (e args').run P w = .ok x w)(Cj : ∀ w es, (e args').events P w es = es)
 (h:ce X fn ops rest vs Q (a.put o.dst x) w):ce X fn ops (i::rest) vs Q a w:=λb k cs pP hk hc=>C.step rfl λaE cg=>by subst tZ;rw[stepG_entry ho hw hk ko hf lm hb hn he (zV aE) (evs:=#[]) (by rw[Cj]; rfl) iq];exact⟨(T vs).idle _,C.rely (h b k cs pP hk hc) cg⟩
end
variable {Az:Gq}{tk rest:Iq}{en:Bool}{Rb:Nat}
section
def pb (Rb:Nat)(v:Value)(b:Nat):Prop:=b=Rb\/v.ownBlock=some b
structure HW(K:Cfg)(Ex:Nat->Prop)(w₀:World)(Rb:Nat)(u v:Value)(tk:Iq)(en:Bool)(w:World):Prop where
 rb:w.heap[Rb]?=some (.cells #[.chan (some K.A),.chan (some K.E),u,.bool en] 175)
 mr:cO K w Rb
 R0:Ex Rb\/w₀.heap.size<=Rb
 ro:mN (cO K) Ex w₀ 21 v tk.length (V tk) w
 size:K.N0<=w.heap.size
 old:Kept (cO K) (g9 K) Ex w₀ w
def HW.cells{K:Cfg}(h:HW K Ex w₀ Rb u v tk en w):w.cell? ⟨Rb,0,none⟩=some (.chan (some K.A))/\w.cell? ⟨Rb,1,none⟩=some (.chan (some K.E))/\w.cell? ⟨Rb,2,none⟩=some u/\w.cell? ⟨Rb,3,none⟩=some (.bool en)/\w.frozen? ⟨Rb,2,none⟩=false/\w.frozen? ⟨Rb,3,none⟩=false:=by simp[World.cell?,World.frozen?,h.rb]
def HW.slice{K:Cfg}(h:HW K Ex w₀ Rb u v tk en w):∃x c,v=.slice x tk.length c:=by
 rcases h.ro.row.2 with ⟨z,z'⟩|⟨g,cap,cur,rfl,_⟩
 .exact⟨_,_,by rw[z,z']⟩
 .exact⟨_,_,rfl⟩
def HW.wx{K:Cfg}{KT:TypeId->Prop}{R:Wq}{D:World->World->Array Event->Prop}(E:Env KT K.N0 (cO K) (g9 K) R D)(h:HW K Ex w₀ Rb u v tk en w)(r:R w aE):HW K Ex w₀ Rb u v tk en aE :=
 ⟨(E.keep r h.mr).trans h.rb,E.stay r h.mr,h.R0,h.ro.rely E r,lT h.size (E.size r),h.old.rely E r⟩
def HW.mm{K:Cfg}(h:HW K Ex w₀ Rb u v tk en w):HW K (pb Rb v) w Rb u v tk en w:=⟨h.rb,h.mr,.inl (.inl rfl),⟨h.ro.row,λk a=>⟨(h.ro.own k a).1,.inl (.inr a)⟩,h.ro.nil⟩,h.size,Kept.refl w⟩
def HW.CU(h:HW (aC prog N Pb Shun val B Mz) Ex w₀ Rb u v tk en w)(o:Nat)(x:Value):Own eg (cO (aC prog N Pb Shun val B Mz)) w (w.setCell ⟨Rb,o,none⟩ x):=Own.setCell h.rb h.mr (by simp[eg])
def HW.U6(F:Cfg.Fit (aC prog N Pb Shun val B Mz))(h:HW (aC prog N Pb Shun val B Mz) Ex w₀ Rb u v tk en w)(o:Nat)(x e:Value)(a:Bool)(g:(#[.chan (some (N+2)),.chan (some (N+4)),u,.bool en]:Aq).setIfInBounds o x=#[.chan (some (N+2)),.chan (some (N+4)),e,.bool a]):HW (aC prog N Pb Shun val B Mz) Ex w₀ Rb e v tk a (w.setCell ⟨Rb,o,none⟩ x):=by
 have c:=h.CU o x;have E:=zl F;refine⟨(dy h.rb _).trans (by rw[show Cfg.A (aC prog N Pb Shun val B Mz)=N+2 from rfl,show Cfg.E (aC prog N Pb Shun val B Mz)=N+4 from rfl,g]),E.mine c h.mr,h.R0,h.ro.same λk d=>⟨HC.fO w _ (h.ro.ne h.rb dq d),E.mine c (h.ro.own k d).1⟩,by simpa[World.setCell] using h.size,h.old.own E c λb f i=>HC.fO w _ ?_⟩;rintro rfl;rcases h.R0 with z|z
 .exact i z
 .have:=E.lt f;omega
structure HV(K:Cfg)(Ex:Nat->Prop)(w₀:World)(Rb:Nat)(u v:Value)(tk:Iq)(en:Bool)(news:Vq)(g:Nat)(w:World):Prop where
 hw:HW K Ex w₀ Rb u v tk en w
 src:Hv (cO K) 21 news g w
theorem HW.built(F:Cfg.Fit (aC prog N Pb Shun val B Mz))(h:HW (aC prog N Pb Shun val B Mz) Ex w₀ Rb u v tk en w)(news:Vq):HV (aC prog N Pb Shun val B Mz) Ex w₀ Rb u v tk en news w.heap.size (w.alloc (.cells news.toArray 21)):=by have E:=zl F;have o:Own eg (cO (aC prog N Pb Shun val B Mz)) w (w.alloc (.cells news.toArray 21)):=Own.alloc (by simp[eg]);refine⟨⟨(Below.heap_alloc _ _ _ (E.lt h.mr)).trans h.rb,E.mine o h.mr,h.R0,h.ro.same λk a=>⟨Below.heap_alloc _ _ _ (E.lt (h.ro.own k a).1),E.mine o (h.ro.own k a).1⟩,by simp[World.size_alloc];have:=h.size;omega,h.old.own E o λb c _=>Below.heap_alloc _ _ _ (E.lt (h.old.mine b c))⟩,heap_alloc_new w _,E.new h.size o lr (by simp_all)⟩
def HV.wx{K:Cfg}{KT:TypeId->Prop}{R:Wq}{D:World->World->Array Event->Prop}{news:Vq}{g:Nat}(E:Env KT K.N0 (cO K) (g9 K) R D)(h:HV K Ex w₀ Rb u v tk en news g w)(r:R w aE):HV K Ex w₀ Rb u v tk en news g aE:=⟨h.hw.wx E r,h.src.rely E r⟩
def HF{R:Wq}{D:World->World->Array Event->Prop}{g:Nat}(E:Env eg (N+9) (cO (aC prog N Pb Shun val B Mz)) (g9 (aC prog N Pb Shun val B Mz)) R D){r:Int}(h:HV (aC prog N Pb Shun val B Mz) Ex w₀ Rb u v tk en (V [r]) g w)(n:tk.length<=1000000)(ty:TypeId) :
  ∃b a,(Builtin.append_ #[173,173] ty #[v,.slice (sq g) 1 1]).run prog w=.ok b a/\HW (aC prog N Pb Shun val B Mz) Ex w₀ Rb u b (tk++[r]) en a /\
   D w a ((Builtin.append_ #[173,173] ty #[v,.slice (sq g) 1 1]).events prog w #[]) /\
   ∀e∈(Builtin.append_ #[173,173] ty #[v,.slice (sq g) 1 1]).events prog w #[],∀m,e.loc=.mark m->m=.noRoom:=by
 have⟨b,a,l,k,i,c,f,d,j⟩:=HD E h.hw.size (by simp[eg]) h.hw.old h.hw.ro h.src 173 ty (.int .i32 0) 4 underlying173 kq rfl (by simp[V,Value.oneCell']) (by simp[V];unfold maxLen;omega) (by simp[V];omega);refine⟨b,a,l,⟨(f Rb (E.lt h.hw.mr) λe=>h.hw.ro.ne h.hw.rb dq e rfl).trans h.hw.rb,E.mine c h.hw.mr,h.hw.R0,?_,lT h.hw.size c.grow,i⟩,d,j⟩;have e1:(tk++[r]).length=tk.length+(V [r]).length:=by simp[V]
 rw[e1,pm];exact k
def G1 (rest:Iq)(en:Bool)(i:Ph):Prop:=(en=false/\(i=.front (V rest)\/i=.walk (V rest)))\/(en=true/\i=.over/\rest=[])
def G1.early{i:Ph}(h:G1 rest en i):i.early:=by rcases h with ⟨_,rfl|rfl⟩|⟨_,rfl,_⟩<;>exact trivial
variable [ConcR.Payload][ConcX.Payload]
variable [ConcX.Shy (Cfg.Wg (aC prog N Pb Shun val B Mz)) (Cfg.C (aC prog N Pb Shun val B Mz))]
def HW.rely{i:Ph}(E:Env eg (N+9) (cO (aC prog N Pb Shun val B Mz)) (g9 (aC prog N Pb Shun val B Mz)) (oa (aC prog N Pb Shun val B Mz) i) (tj (aC prog N Pb Shun val B Mz) i))(h:HW (aC prog N Pb Shun val B Mz) Ex w₀ Rb u v tk en w)(r:oa (aC prog N Pb Shun val B Mz) i w aE):HW (aC prog N Pb Shun val B Mz) Ex w₀ Rb u v tk en aE:=HW.wx E h r
def HV.rely{i:Ph}{news:Vq}{g:Nat}(E:Env eg (N+9) (cO (aC prog N Pb Shun val B Mz)) (g9 (aC prog N Pb Shun val B Mz)) (oa (aC prog N Pb Shun val B Mz) i) (tj (aC prog N Pb Shun val B Mz) i))(h:HV (aC prog N Pb Shun val B Mz) Ex w₀ Rb u v tk en news g w)(r:oa (aC prog N Pb Shun val B Mz) i w aE):HV (aC prog N Pb Shun val B Mz) Ex w₀ Rb u v tk en news g aE:=HV.wx E h r
def HW.Dc{i:Ph}(F:Cfg.Fit (aC prog N Pb Shun val B Mz))(h:HW (aC prog N Pb Shun val B Mz) Ex w₀ Rb u v tk en w)(r:RM (aC prog N Pb Shun val B Mz) w aE):HW (aC prog N Pb Shun val B Mz) Ex w₀ Rb u v tk en aE:=HW.wx (zl F) h r
def wu{i:Ph}(s:Cfg.Fit (aC prog N Pb Shun val B Mz))(b:HW (aC prog N Pb Shun val B Mz) Ex w₀ Rb v v tk false w)(hi:i=.front (V rest)\/i=.walk (V rest))(hn:tk.length<=1000000) :
  eM prog (XM (aC prog N Pb Shun val B Mz) Az) 203 #[.pointer (sq Rb)] i w (λS _ X=>(∃r l U,rest=r::l/\S=.walk (V l)/\HW (aC prog N Pb Shun val B Mz) Ex w₀ Rb U U (tk++[r]) false X)\/(rest=[]/\S=.over/\HW (aC prog N Pb Shun val B Mz) Ex w₀ Rb v v tk true X)):=by
 have C:bW prog true (oa (aC prog N Pb Shun val B Mz)) (tj (aC prog N Pb Shun val B Mz)) (XM (aC prog N Pb Shun val B Mz) Az):=XM.closed (K:=(aC prog N Pb Shun val B Mz));have T:=rJ (K:=(aC prog N Pb Shun val B Mz));have evp:∀(w:World) (n:Array Event) (a:Addr) (m:Mode) (x:Option Addr),(store a (.pointer x) m).events prog w n=storedEv prog w n a (.pointer x) m:=λw n a m x=>events_store prog w n a _ m rfl;have evl:∀(w:World) (n:Array Event) (a:Addr) (m:Mode) (x:Option Addr) (l c:Nat),(store a (.slice x l c) m).events prog w n=storedEv prog w n a (.slice x l c) m:=λw n a m x l c=>events_store prog w n a _ m rfl;have evb:∀(w:World) (n:Array Event) (a:Addr) (m:Mode) (x:Bool),(store a (.bool x) m).events prog w n=storedEv prog w n a (.bool x) m:=λw n a m x=>events_store prog w n a _ m rfl;have E:Env eg (N+9) (cO (aC prog N Pb Shun val B Mz)) (g9 (aC prog N Pb Shun val B Mz)) (oa (aC prog N Pb Shun val B Mz) i) (tj (aC prog N Pb Shun val B Mz) i):=zm (K:=(aC prog N Pb Shun val B Mz)) s (by rcases hi with rfl|rfl<;>exact trivial);have p:∀(a:Act) (o:Oper) w,o.op=.select #[{ chan:=.tmp 6,send:=none,elem:=21 },{ chan:=.tmp 10,send:=none,elem:=160 }] true->a.eval (.tmp 6)=.chan (some (N+2))->a.eval (.tmp 10)=.chan (some (N+4))->(execOp a.eval o).run prog w=.ok (.comm (Cfg.cases (aC prog N Pb Shun val B Mz)) true .select) w/\(execOp a.eval o).events prog w #[]=#[]:=by
  intro a o w R I J;simp only[Act.eval,D4] at I J;constructor
  .unfold execOp;simp[R,I,J,Cfg.cases,aC,rcase,Tryz.zeroValue21,Tryz.zeroValue160,go_sem]
  .unfold execOp;simp[R,I,J,Tryz.zeroValue21,go_sem]
 have D:∀r,commResult (Cfg.cases (aC prog N Pb Shun val B Mz)) .select 0 (.int .i32 r) true=.tuple #[.int .i64 0,.bool true,.int .i32 r,.agg #[]]:=λr=>by simp[commResult,Cfg.cases,aC,rcase,goInt]
 have F:commResult (Cfg.cases (aC prog N Pb Shun val B Mz)) .select 1 (Cfg.zE (aC prog N Pb Shun val B Mz)) false=.tuple #[.int .i64 1,.bool false,.int .i32 0,.agg #[]]:=by simp[commResult,Cfg.cases,aC,rcase,goInt]
 refine gU func203 rq rfl ?_;simp only[ntmps203,bZ,Nat.reduceAdd,Nat.reduceSub];iterate 2 refine bQ C T ?_
 refine aN C T ?_;simp only[fH,Nat.reduceAdd];iterate 4
  refine aG C rfl rq λ_ g j d=>?_
  replace b:=HW.rely E b g
  clear g
  have k:=b.cells
  go_simp
  try (unfold stored;go_simp)
  refine d _ _ ⟨?_,?_⟩
  .first|(rw[listed_nil];exact Terms.idle (T _) _;first|(simp[go_sem];done)|(simp[go_sem, *];done))|(refine ec E b.size ?_;co_evs (exact eJ rfl b.mr))
  clear d j;try walk_nrm
  clear k
 refine aW C T ?_;show fA _ _ _ _ _ _ _;refine aN C T ?_;simp only[fH,Nat.reduceAdd];iterate 4
  refine aG C rfl rq λ_ g j d=>?_
  replace b:=HW.rely E b g
  clear g
  have k:=b.cells
  go_simp
  try (unfold stored;go_simp)
  refine d _ _ ⟨?_,?_⟩
  .first|(rw[listed_nil];exact Terms.idle (T _) _;first|(simp[go_sem];done)|(simp[go_sem, *];done))|(refine ec E b.size ?_;co_evs (exact eJ rfl b.mr))
  clear d j;try walk_nrm
  clear k
 refine aW C T ?_;show fA _ _ _ _ _ _ _;simp only[show Cfg.A (aC prog N Pb Shun val B Mz)=N+2 from rfl,show Cfg.E (aC prog N Pb Shun val B Mz)=N+4 from rfl];refine bQ C T (aN C T ?_);simp only[fH,Nat.reduceAdd];by_cases L:rest=[]
 .obtain rfl:rest=[]:=L;refine JP hi rfl rq (λw=>(p _ _ w rfl rfl rfl).1) (λw=>(p _ _ w rfl rfl rfl).2) λH q hs=>?_;replace b:=HW.Dc (i:=.over) s b q;clear hi E;have E:Env eg (N+9) (cO (aC prog N Pb Shun val B Mz)) (g9 (aC prog N Pb Shun val B Mz)) (oa (aC prog N Pb Shun val B Mz) .over) (tj (aC prog N Pb Shun val B Mz) .over):=zm (K:=(aC prog N Pb Shun val B Mz)) s trivial;simp only[F];try walk_nrm
  iterate 3
   refine aG C rfl rq λ_ g j d=>?_
   replace b:=HW.rely E b g
   clear g
   have k:=b.cells
   go_simp
   try (unfold stored;go_simp)
   refine d _ _ ⟨?_,?_⟩
   .first|(rw[listed_nil];exact Terms.idle (T _) _;first|(simp[go_sem];done)|(simp[go_sem, *];done))|(refine ec E b.size ?_;co_evs (exact eJ rfl b.mr))
   clear d j;try walk_nrm
   clear k
  refine aW C T ?_;show fA _ _ _ _ _ _ _;refine gZ C T ?_;refine eG C T (t:=false) rfl ?_;simp only[if_false,kj];refine eG C T (t:=true) rfl ?_;simp only[if_true];refine aN C T ?_;simp only[fH,Nat.reduceAdd];iterate 3
   refine aG C rfl rq λ_ g j d=>?_
   replace b:=HW.rely E b g
   clear g
   have k:=b.cells
   go_simp
   try (unfold stored;go_simp)
   refine d _ _ ⟨?_,?_⟩
   .first|(rw[listed_nil];exact Terms.idle (T _) _;first|(simp[go_sem];done)|(simp[go_sem, *];done))|(refine ec E b.size ?_;co_evs (exact eJ rfl b.mr))
   clear d j;try walk_nrm
   clear k
  refine aG C rfl rq λ_ g j d=>?_;replace b:=HW.rely E b g;clear g;have k:=b.cells;go_simp;try (unfold stored;go_simp)
  refine d _ _ ⟨?_,?_⟩
  .exact xb E b.size (b.CU _ _) (by co_evs (exact eJ rfl b.mr))
  clear d j;try walk_nrm
  clear k;replace b:=b.U6 s 3 (.bool true) v true rfl;refine aW C T ?_;exact⟨.inl rfl,rfl,_,resultsC_none rq _,.inr ⟨by first|rfl|trivial,rfl,b⟩⟩
 .obtain⟨r,z,rfl⟩:∃r z,rest=r::z:=by cases rest with|nil=>exact absurd rfl L|cons r t=>exact⟨r,t,rfl⟩
  refine Ao (v:=.int .i32 r) (vs:=V z) hi rfl rq (λw=>(p _ _ w rfl rfl rfl).1) (λw=>(p _ _ w rfl rfl rfl).2) λH q hs=>?_;replace b:=HW.Dc (i:=.over) s b q;clear hi E L;have E:Env eg (N+9) (cO (aC prog N Pb Shun val B Mz)) (g9 (aC prog N Pb Shun val B Mz)) (oa (aC prog N Pb Shun val B Mz) (.walk (V z))) (tj (aC prog N Pb Shun val B Mz) (.walk (V z))):=zm (K:=(aC prog N Pb Shun val B Mz)) s trivial;simp only[D];try walk_nrm
  iterate 3
   refine aG C rfl rq λ_ g j d=>?_
   replace b:=HW.rely E b g
   clear g
   have k:=b.cells
   go_simp
   try (unfold stored;go_simp)
   refine d _ _ ⟨?_,?_⟩
   .first|(rw[listed_nil];exact Terms.idle (T _) _;first|(simp[go_sem];done)|(simp[go_sem, *];done))|(refine ec E b.size ?_;co_evs (exact eJ rfl b.mr))
   clear d j;try walk_nrm
   clear k
  refine aW C T ?_;show fA _ _ _ _ _ _ _;refine gZ C T ?_;refine eG C T (t:=true) rfl ?_;simp only[if_true];refine bQ C T ?_;refine aN C T ?_;simp only[fH,Nat.reduceAdd];iterate 2
   refine aG C rfl rq λ_ g j d=>?_
   replace b:=HW.rely E b g
   clear g
   have k:=b.cells
   go_simp
   try (unfold stored;go_simp)
   refine d _ _ ⟨?_,?_⟩
   .first|(rw[listed_nil];exact Terms.idle (T _) _;first|(simp[go_sem];done)|(simp[go_sem, *];done))|(refine ec E b.size ?_;co_evs (exact eJ rfl b.mr))
   clear d j;try walk_nrm
   clear k
  refine aW C T ?_;show fA _ _ _ _ _ _ _;refine aN C T ?_;simp only[fH,Nat.reduceAdd];iterate 6
   refine aG C rfl rq λ_ g j d=>?_
   replace b:=HW.rely E b g
   clear g
   have k:=b.cells
   go_simp
   try (unfold stored;go_simp)
   refine d _ _ ⟨?_,?_⟩
   .first|(rw[listed_nil];exact Terms.idle (T _) _;first|(simp[go_sem];done)|(simp[go_sem, *];done))|(refine ec E b.size ?_;co_evs (exact eJ rfl b.mr))
   clear d j;try walk_nrm
   clear k
  refine aG C rfl rq λ_ g j d=>?_;replace b:=HW.rely E b g;clear g;go_simp;try (unfold stored;go_simp)
  refine d _ _ ⟨?_,?_⟩
  .refine xb E b.size (Own.alloc (by simp[eg])) ?_;co_evs (skip)
  clear d j;try walk_nrm
  replace b:=b.built s (V [r]);refine aG C rfl rq λ_ g j d=>?_;replace b:=HV.rely E b g;clear g;have⟨W,Y,u,y,Q,G⟩:=HF E b hn 173;refine uponK_append (Operand.tmp 20) (Operand.tmp 22) 173 rfl rfl rfl u (d _ _ ⟨?_,?_⟩)
  .have M:=seen_eq (P:=prog) (fn:=203) kq (λe he f h=>by cases G e he _ h);unfold listed;rw[events_append_op (Operand.tmp 20) (Operand.tmp 22) 173 rfl rfl rfl];exact(congrArg (tj (aC prog N Pb Shun val B Mz) _ _ _) M).mpr Q
  clear d j u Q G;replace b:=y;try walk_nrm
  obtain⟨Z,O,rfl⟩:=b.slice;iterate 2
   refine aG C rfl rq λ_ g j d=>?_
   replace b:=HW.rely E b g
   clear g
   have k:=b.cells
   go_simp
   try (unfold stored;go_simp)
   refine d _ _ ⟨?_,?_⟩
   .first|(rw[listed_nil];exact Terms.idle (T _) _;first|(simp[go_sem];done)|(simp[go_sem, *];done))|(refine ec E b.size ?_;co_evs (exact eJ rfl b.mr))
   clear d j;try walk_nrm
   clear k
  refine aG C rfl rq λ_ g j d=>?_;replace b:=HW.rely E b g;clear g;have k:=b.cells;go_simp;try (unfold stored;go_simp)
  refine d _ _ ⟨?_,?_⟩
  .exact xb E b.size (b.CU _ _) (by co_evs (exact eJ rfl b.mr))
  clear d j;try walk_nrm
  clear k;replace b:=b.U6 s 2 (.slice Z (tk++[r]).length O) (.slice Z (tk++[r]).length O) false rfl;rw[show(tk++[r]).length=tk.length+1 by simp] at b;refine aW C T ?_;exact⟨.inl rfl,rfl,_,resultsC_none rq _,.inl ⟨r,z,_,by first|rfl|trivial,rfl,b⟩⟩
end
section
variable [ConcR.Payload][ConcX.Payload]
variable [ConcX.Shy (Cfg.Wg (aC prog N Pb Shun val B Mz)) (Cfg.C (aC prog N Pb Shun val B Mz))]
def G7 (rest:Iq)(en:Bool):Nat:=rest.length+if en then 0 else 1
theorem LQ{i:Ph}(Fi:Cfg.Fit (aC prog N Pb Shun val B Mz))(all:Iq)(kM:tk++rest=all)(hn:all.length<=1000000)(hF:HW (aC prog N Pb Shun val B Mz) Ex w₀ Rb v v tk en w)(pO:G1 rest en i) :
  eM prog (XM (aC prog N Pb Shun val B Mz) Az) 114 #[.pointer (sq Rb)] i w (λi' _ w'=>i'=.over/\∃v',HW (aC prog N Pb Shun val B Mz) Ex w₀ Rb v' v' all true w'):=by
 have C:bW prog true (oa (aC prog N Pb Shun val B Mz)) (tj (aC prog N Pb Shun val B Mz)) (XM (aC prog N Pb Shun val B Mz) Az):=XM.closed (K:=(aC prog N Pb Shun val B Mz));have T:=rJ (K:=(aC prog N Pb Shun val B Mz));refine gU func114 rq rfl ?_;simp only[ntmps114,bZ,Nat.reduceAdd,Nat.reduceSub];refine gZ C T (Bg C T (λm i a w=>∃v tk rest en,m=G7 rest en/\G1 rest en i/\HW (aC prog N Pb Shun val B Mz) Ex w₀ Rb v v tk en w/\tk++rest=all/\∃x2 x3 x4 x5 x6 x7 x8,a=⟨#[.pointer (sq Rb),undef,x2,x3,x4,x5,x6,x7,x8],[]⟩) (G7 rest en) ⟨v,tk,rest,en,rfl,pO,hF,kM,_,_,_,_,_,_,_,rfl⟩ ?_);clear hF pO kM;rintro m i a w ⟨v,tk,rest,en,rfl,pO,hF,kM,x2,x3,x4,x5,x6,x7,x8,rfl⟩;have E:Env eg (N+9) (cO (aC prog N Pb Shun val B Mz)) (g9 (aC prog N Pb Shun val B Mz)) (oa (aC prog N Pb Shun val B Mz) _) (tj (aC prog N Pb Shun val B Mz) _):=zm (K:=(aC prog N Pb Shun val B Mz)) Fi pO.early;have G5:tk.length<=1000000:=gq
 rcases pO with ⟨rfl,hi⟩|⟨rfl,rfl,rfl⟩
 .refine bQ C T ?_;refine bQ C T ?_;refine aN C T ?_;simp only[fH,Nat.reduceAdd];iterate 5
   refine aG C rfl rq λ_ hR Kx dg=>?_
   replace hF:=HW.rely E hF hR
   clear hR
   have hc:=hF.cells
   go_simp
   try (unfold stored;go_simp)
   refine dg _ _ ⟨?_,?_⟩
   .first|(rw[listed_nil];exact Terms.idle (T _) _;first|(simp[go_sem];done)|(simp[go_sem, *];done))|(refine ec E hF.size ?_;co_evs (exact eJ rfl hF.mr))
   clear dg Kx;try walk_nrm
   clear hc
  refine aW C T ?_;show fA _ _ _ _ _ _ _;refine eG C T (t:=true) rfl ?_;simp only[if_true];refine lN C T ?_;show fA _ _ _ _ _ _ _;refine gZ C T (aN C T ?_);simp only[fH,Nat.reduceAdd];refine aG C rfl rq λ_ hR Kx dg=>?_;replace hF:=HW.rely E hF hR;clear hR;go_simp;try (unfold stored;go_simp)
  refine dg _ _ ⟨?_,?_⟩
  .co_quiet (T _)
  clear dg Kx;try walk_nrm
  refine jX C T rfl rq rfl rfl (by simp[Act.eval]) rfl (wu Fi hF hi G5) ?_;rintro _ _ _ (⟨r,l,v2,rfl,rfl,hF⟩|⟨rfl,rfl,hF⟩)
  .refine aW C T ?_;exact⟨G7 l false,by simp[G7],v2,_,l,false,rfl,.inl ⟨rfl,.inr rfl⟩,hF,by rw[<-kM];simp,_,_,_,_,_,_,_,rfl⟩
  .refine aW C T ?_;exact⟨G7 [] true,by simp[G7],v,_,[],true,rfl,.inr ⟨rfl,rfl,rfl⟩,hF,kM,_,_,_,_,_,_,_,rfl⟩
 .refine bQ C T ?_;refine bQ C T ?_;refine aN C T ?_;simp only[fH,Nat.reduceAdd];iterate 5
   refine aG C rfl rq λ_ hR Kx dg=>?_
   replace hF:=HW.rely E hF hR
   clear hR
   have hc:=hF.cells
   go_simp
   try (unfold stored;go_simp)
   refine dg _ _ ⟨?_,?_⟩
   .first|(rw[listed_nil];exact Terms.idle (T _) _;first|(simp[go_sem];done)|(simp[go_sem, *];done))|(refine ec E hF.size ?_;co_evs (exact eJ rfl hF.mr))
   clear dg Kx;try walk_nrm
   clear hc
  refine aW C T ?_;show fA _ _ _ _ _ _ _;refine eG C T (t:=false) rfl ?_;simp only[if_false,kj];refine qC C T ?_;simp only[jP,wK,if_true];rw[List.append_nil] at kM;subst kM;refine⟨.inl ?_,?_,_,resultsC_none rq _,?_,_,hF⟩<;>first|rfl|trivial
theorem Xi{i:Ph}(Fi:Cfg.Fit (aC prog N Pb Shun val B Mz))(all:Iq)(place:Nat)(kM:tk++rest=all)(hn:all.length<=1000000)(hF:HW (aC prog N Pb Shun val B Mz) Ex w₀ Rb v v tk en w)(pO:G1 rest en i) :
  eM prog (XM (aC prog N Pb Shun val B Mz) Az) 146 #[.pointer (sq Rb),.int .i64 (place:Int)] i w (λi' x w'=>x=.int .i32 (all[place]?.getD (-1))/\∃v' Rv AF PC,Rv++AF=all/\G1 AF PC i'/\HW (aC prog N Pb Shun val B Mz) Ex w₀ Rb v' v' Rv PC w'):=by
 have C:bW prog true (oa (aC prog N Pb Shun val B Mz)) (tj (aC prog N Pb Shun val B Mz)) (XM (aC prog N Pb Shun val B Mz) Az):=XM.closed (K:=(aC prog N Pb Shun val B Mz));have T:=rJ (K:=(aC prog N Pb Shun val B Mz));have lns:∀x n c w es,(Builtin.len_ #[173] 3 #[.slice x n c]).events prog w es=es:=λx n c w es=>by simp[Builtin.len_,go_sem]
 have E:Env eg (N+9) (cO (aC prog N Pb Shun val B Mz)) (g9 (aC prog N Pb Shun val B Mz)) (oa (aC prog N Pb Shun val B Mz) i) (tj (aC prog N Pb Shun val B Mz) i):=zm (K:=(aC prog N Pb Shun val B Mz)) Fi pO.early;refine gU func146 rq rfl ?_;simp only[ntmps146,bZ,Nat.reduceAdd,Nat.reduceSub];refine bQ C T (aN C T ?_);simp only[fH];refine aG C rfl rq λ_ hR Kx dg=>?_;replace hF:=HW.rely E hF hR;clear hR;go_simp;try (unfold stored;go_simp)
 refine dg _ _ ⟨?_,?_⟩
 .co_quiet (T _)
 clear dg Kx;try walk_nrm
 refine aW C T ?_;show fA _ _ _ _ _ _ _;refine bQ C T (gZ C T ?_);clear E;refine Bg C T (λm i a w=>∃v tk rest en,m=G7 rest en/\G1 rest en i/\HW (aC prog N Pb Shun val B Mz) Ex w₀ Rb v v tk en w/\tk++rest=all/\∃x5 x6 x7 x8 x9 x10 We x12 x13 x14 x15 x16 Vt Vu Vv Vw,a=⟨#[.pointer (sq Rb),.int .i64 (place:Int),undef,undef,.int .i32 0,x5,x6,x7,x8,x9,x10,We,x12,x13,x14,x15,x16,Vt,Vu,Vv,Vw,undef,undef,undef,undef,undef,undef,undef,undef,undef,undef,undef,undef,undef,undef],[]⟩) (G7 rest en) ⟨v,tk,rest,en,rfl,pO,hF,kM,_,_,_,_,_,_,_,_,_,_,_,_,_,_,_,_,rfl⟩ ?_;clear hF pO kM;rintro m i a w ⟨v,tk,rest,en,rfl,pO,hF,kM,x5,x6,x7,x8,x9,x10,We,x12,x13,x14,x15,x16,Vt,Vu,Vv,Vw,rfl⟩;have E:Env eg (N+9) (cO (aC prog N Pb Shun val B Mz)) (g9 (aC prog N Pb Shun val B Mz)) (oa (aC prog N Pb Shun val B Mz) _) (tj (aC prog N Pb Shun val B Mz) _):=zm (K:=(aC prog N Pb Shun val B Mz)) Fi pO.early;have G5:tk.length<=1000000:=gq
 obtain⟨x1,c1,rfl⟩:=hF.slice;by_cases VS:place<tk.length
 .have hb:decide ((tk.length:Int)<=(place:Int))=false:=fD oq;have K6:decide (tk.length<=place)=false:=fD oq;iterate 2 refine bQ C T ?_
  refine aN C T ?_;simp only[fH,Nat.reduceAdd];iterate 7
   refine aG C rfl rq λ_ hR Kx dg=>?_
   replace hF:=HW.rely E hF hR
   clear hR
   have hc:=hF.cells
   go_simp
   try (unfold stored;go_simp)
   refine dg _ _ ⟨?_,?_⟩
   .first|(rw[listed_nil];exact Terms.idle (T _) _;first|(simp[go_sem];done)|(simp[go_sem, *];done))|(refine ec E hF.size ?_;co_evs (exact eJ rfl hF.mr))
   clear dg Kx;try walk_nrm
   clear hc
  try simp only[hb,K6]
  refine aG C rfl rq λ_ hR Kx dg=>?_;replace hF:=HW.rely E hF hR;clear hR;go_simp;try (unfold stored;go_simp)
  refine dg _ _ ⟨?_,?_⟩
  .co_quiet (T _)
  clear dg Kx;iterate 5
   try walk_nrm
   refine gB C T rfl rq ?_
  try walk_nrm
  refine aG C rfl rq λ_ hR Kx dg=>?_;replace hF:=HW.rely E hF hR;clear hR;go_simp;try (unfold stored;go_simp)
  refine dg _ _ ⟨?_,?_⟩
  .co_quiet (T _)
  clear dg Kx;try walk_nrm
  refine aW C T ?_;show fA _ _ _ _ _ _ _;refine eG C T (t:=false) rfl ?_;simp only[if_false,kj];refine qC C T ?_;simp only[jP,wK,if_true];show fA _ _ _ _ _ _ _;iterate 2 refine bQ C T ?_
  refine aN C T ?_;simp only[fH,Nat.reduceAdd];iterate 7
   refine aG C rfl rq λ_ hR Kx dg=>?_
   replace hF:=HW.rely E hF hR
   clear hR
   have hc:=hF.cells
   go_simp
   try (unfold stored;go_simp)
   refine dg _ _ ⟨?_,?_⟩
   .first|(rw[listed_nil];exact Terms.idle (T _) _;first|(simp[go_sem];done)|(simp[go_sem, *];done))|(refine ec E hF.size ?_;co_evs (exact eJ rfl hF.mr))
   clear dg Kx;try walk_nrm
   clear hc
  refine aW C T ?_;show fA _ _ _ _ _ _ _;try simp only[hb,K6]
  refine eG C T (t:=false) rfl ?_;simp only[if_false,kj];refine lN C T ?_;show fA _ _ _ _ _ _ _;refine bQ C T ?_;obtain⟨g,rfl⟩:∃g,x1=some ⟨g,0,none⟩:=by
   rcases hF.ro.row.2 with ⟨_,z⟩|⟨g,cap,cur,z,_⟩
   .omega
   .cases z;exact⟨g,rfl⟩
  have Tp:∀w,HW (aC prog N Pb Shun val B Mz) Ex w₀ Rb (.slice (sq g) tk.length c1) (.slice (sq g) tk.length c1) tk en w->w.cell? ⟨g,place,none⟩=some (.int .i32 (all[place]?.getD (-1))):=λw h=>(by rw[show(⟨g,place,none⟩:Addr)=(⟨g,0,none⟩:Addr).add place by unfold Addr.add;split<;>simp_all];exact h.ro.row.cells (g:=g) rfl place _ (by rw[<-kM,vA VS];simp[V,List.getElem?_map,gE VS]));refine aN C T ?_;simp only[fH,Nat.reduceAdd];iterate 6
   refine aG C rfl rq λ_ hR Kx dg=>?_
   replace hF:=HW.rely E hF hR
   clear hR
   have hc:=hF.cells
   go_simp
   try (unfold stored;go_simp)
   refine dg _ _ ⟨?_,?_⟩
   .first|(rw[listed_nil];exact Terms.idle (T _) _;first|(simp[go_sem];done)|(simp[go_sem, *];done))|(refine ec E hF.size ?_;co_evs (exact eJ rfl hF.mr))
   clear dg Kx;try walk_nrm
   clear hc
  refine aG C rfl rq λ_ hR Kx dg=>?_;replace hF:=HW.rely E hF hR;clear hR;have hc:=Tp _ hF;go_simp;try (unfold stored;go_simp)
  refine dg _ _ ⟨?_,?_⟩
  .refine ec E hF.size ?_;co_evs (exact eJ rfl (hF.ro.own _ rfl).1)
  clear dg Kx;try walk_nrm
  clear hc;refine aG C rfl rq λ_ hR Kx dg=>?_;replace hF:=HW.rely E hF hR;clear hR;go_simp;try (unfold stored;go_simp)
  refine dg _ _ ⟨?_,?_⟩
  .co_quiet (T _)
  clear dg Kx;try walk_nrm
  refine aW C T ?_;show fA _ _ _ _ _ _ _;exact n6 C T ⟨.inr rfl,rfl,_,resultsC_tmp rq _,rfl,_,_,_,_,kM,pO,hF⟩
 .have hb:decide ((tk.length:Int)<=(place:Int))=true:=tD oq;have K6:decide (tk.length<=place)=true:=tD oq;rcases pO with ⟨rfl,hi⟩|⟨rfl,rfl,rfl⟩
  .refine bQ C T ?_;refine bQ C T ?_;refine aN C T ?_;simp only[fH,Nat.reduceAdd];iterate 7
    refine aG C rfl rq λ_ hR Kx dg=>?_
    replace hF:=HW.rely E hF hR
    clear hR
    have hc:=hF.cells
    go_simp
    try (unfold stored;go_simp)
    refine dg _ _ ⟨?_,?_⟩
    .first|(rw[listed_nil];exact Terms.idle (T _) _;first|(simp[go_sem];done)|(simp[go_sem, *];done))|(refine ec E hF.size ?_;co_evs (exact eJ rfl hF.mr))
    clear dg Kx;try walk_nrm
    clear hc
   try simp only[hb,K6]
   iterate 7
    refine aG C rfl rq λ_ hR Kx dg=>?_
    replace hF:=HW.rely E hF hR
    clear hR
    have hc:=hF.cells
    go_simp
    try (unfold stored;go_simp)
    refine dg _ _ ⟨?_,?_⟩
    .first|(rw[listed_nil];exact Terms.idle (T _) _;first|(simp[go_sem];done)|(simp[go_sem, *];done))|(refine ec E hF.size ?_;co_evs (exact eJ rfl hF.mr))
    clear dg Kx;try walk_nrm
    clear hc
   refine aW C T ?_;show fA _ _ _ _ _ _ _;refine eG C T (t:=true) rfl ?_;simp only[if_true];refine lN C T ?_;show fA _ _ _ _ _ _ _;refine gZ C T (aN C T ?_);simp only[fH,Nat.reduceAdd];refine aG C rfl rq λ_ hR Kx dg=>?_;replace hF:=HW.rely E hF hR;clear hR;go_simp;try (unfold stored;go_simp)
   refine dg _ _ ⟨?_,?_⟩
   .co_quiet (T _)
   clear dg Kx;try walk_nrm
   refine jX C T rfl rq rfl rfl (by simp[Act.eval]) rfl (wu Fi hF hi G5) ?_;rintro _ _ _ (⟨r,l,v2,rfl,rfl,hF⟩|⟨rfl,rfl,hF⟩)
   .refine aW C T ?_;exact⟨G7 l false,by simp[G7],v2,_,l,false,rfl,.inl ⟨rfl,.inr rfl⟩,hF,by rw[<-kM];simp,_,_,_,_,_,_,_,_,_,_,_,_,_,_,_,_,rfl⟩
   .refine aW C T ?_;exact⟨G7 [] true,by simp[G7],_,_,[],true,rfl,.inr ⟨rfl,rfl,rfl⟩,hF,kM,_,_,_,_,_,_,_,_,_,_,_,_,_,_,_,_,rfl⟩
  .have pO:G1 [] true .over:=.inr ⟨rfl,rfl,rfl⟩;iterate 2 refine bQ C T ?_
   refine aN C T ?_;simp only[fH,Nat.reduceAdd];iterate 7
    refine aG C rfl rq λ_ hR Kx dg=>?_
    replace hF:=HW.rely E hF hR
    clear hR
    have hc:=hF.cells
    go_simp
    try (unfold stored;go_simp)
    refine dg _ _ ⟨?_,?_⟩
    .first|(rw[listed_nil];exact Terms.idle (T _) _;first|(simp[go_sem];done)|(simp[go_sem, *];done))|(refine ec E hF.size ?_;co_evs (exact eJ rfl hF.mr))
    clear dg Kx;try walk_nrm
    clear hc
   try simp only[hb,K6]
   iterate 7
    refine aG C rfl rq λ_ hR Kx dg=>?_
    replace hF:=HW.rely E hF hR
    clear hR
    have hc:=hF.cells
    go_simp
    try (unfold stored;go_simp)
    refine dg _ _ ⟨?_,?_⟩
    .first|(rw[listed_nil];exact Terms.idle (T _) _;first|(simp[go_sem];done)|(simp[go_sem, *];done))|(refine ec E hF.size ?_;co_evs (exact eJ rfl hF.mr))
    clear dg Kx;try walk_nrm
    clear hc
   refine aW C T ?_;show fA _ _ _ _ _ _ _;refine eG C T (t:=false) rfl ?_;simp only[if_false,kj];refine qC C T ?_;simp only[jP,wK,if_true];show fA _ _ _ _ _ _ _;iterate 2 refine bQ C T ?_
   refine aN C T ?_;simp only[fH,Nat.reduceAdd];iterate 7
    refine aG C rfl rq λ_ hR Kx dg=>?_
    replace hF:=HW.rely E hF hR
    clear hR
    have hc:=hF.cells
    go_simp
    try (unfold stored;go_simp)
    refine dg _ _ ⟨?_,?_⟩
    .first|(rw[listed_nil];exact Terms.idle (T _) _;first|(simp[go_sem];done)|(simp[go_sem, *];done))|(refine ec E hF.size ?_;co_evs (exact eJ rfl hF.mr))
    clear dg Kx;try walk_nrm
    clear hc
   refine aW C T ?_;show fA _ _ _ _ _ _ _;try simp only[hb,K6]
   refine eG C T (t:=true) rfl ?_;simp only[if_true];refine bQ C T (aN C T ?_);simp only[fH];refine aG C rfl rq λ_ hR Kx dg=>?_;replace hF:=HW.rely E hF hR;clear hR;go_simp;try (unfold stored;go_simp)
   refine dg _ _ ⟨?_,?_⟩
   .co_quiet (T _)
   clear dg Kx;try walk_nrm
   refine aW C T ?_;show fA _ _ _ _ _ _ _;refine n6 C T ⟨.inr rfl,rfl,_,resultsC_tmp rq _,?_,_,_,_,_,kM,pO,hF⟩;rw[<-kM,List.getElem?_eq_none (by simp;omega)];rfl
end
def AN (c:CS)(d:DS):Iq->CS × DS × Iq
 | []=>(c,d,[])
 | b::l=>((AN (aV c (eo d b).2).1 (eo d b).1 l).1,(AN (aV c (eo d b).2).1 (eo d b).1 l).2.1,(aV c (eo d b).2).2++(AN (aV c (eo d b).2).1 (eo d b).1 l).2.2)
def bytesOf(s:ByteArray):Iq:=s.data.toList.map λb=>(b.toNat:Int)
def cX(c:CS)(d:DS)(l:Iq):Iq:=(AN c d l).2.2++(aV (AN c d l).1 (g8 (AN c d l).2.1).2).2
def iT(l:List ByteArray):Iq:=cX ⟨false,false⟩ ⟨0,0,0,0⟩ (l.flatMap bytesOf)
def cI(s:ByteArray):Iq:=cX ⟨false,false⟩ ⟨0,0,0,0⟩ (bytesOf s)
def jh(c:CS)(d:DS):cX c d []=(aV c (g8 d).2).2:=by simp[cX,AN]
def iE(c:CS)(d:DS)(b:Int)(l:Iq):cX c d (b::l)=(aV c (eo d b).2).2++cX (aV c (eo d b).2).1 (eo d b).1 l:=by simp[cX,AN]
def zY{l:List ByteArray}{s:ByteArray}(h:l.flatMap bytesOf=bytesOf s):iT l=cI s:=by unfold iT cI;rw[h]
theorem mM.at{Pb:Nat}{cp:Hp}{w:World}{ad:Option Addr}{m c k:Nat}{p:ByteArray}(h:mM Pb cp w)(f:cp.v=.slice ad m c)(d:cp.l[k]?=some p):∃a,ad=some ⟨Pb,a,none⟩/\w.cell? ⟨Pb,a+k,none⟩=some (.string p):=by have⟨U,b,e,h⟩:=h;grind
structure HP(N Pb:Nat)(cp:Hp)(k c1 c2:Nat)(x1 x2:Aq)(w:World):Prop where
 lv:w.heap[N+3]?=some (.cells #[.chan (some (N+2))] 158)
 ps:mM Pb cp w
 lo:Pb<N+9
 bf:∃o,w.heap[N+8]?=some o
 cl:1<=k->w.heap[c1]?=some (.cells x1 177)
 h1:1<=k->N+9<=c1
 de:2<=k->w.heap[c2]?=some (.cells x2 179)
 h2:2<=k->N+9<=c2/\c1≠c2
 pc:w.heap[N]?=some (.cells #[cp.v] 62)
 wb:w.heap[N+7]?=some (.cells #[.pointer (some ⟨N+6,0,none⟩)] 240)
section
variable [ConcR.Payload][ConcX.Payload]
variable {k:Nat}{x1 x2:Aq}
theorem HP.size(h:HP N Pb cp k c1 c2 x1 x2 w):N+9<=w.heap.size:=by have⟨o,U⟩:=h.bf;grind
section
variable (h:HP N Pb cp k c1 c2 x1 x2 w)
def HP.rc(r:RC (aC prog N Pb Shun val B Mz) w aE):HP N Pb cp k c1 c2 x1 x2 aE:=by refine⟨(r _ (.inr (.inr (.inl rfl)))).trans h.lv,?_,h.lo,h.bf.imp λ_ b=>(r _ (i3 (.inr (.inr (.inl rfl))))).trans b,λa=>(r _ (.inl (.inr ⟨h.h1 a,_,h.cl a,.inl rfl⟩))).trans (h.cl a),h.h1,λa=>(r _ (.inl (.inr ⟨(h.h2 a).1,_,h.de a,.inr (.inl rfl)⟩))).trans (h.de a),h.h2,(r _ (.inl (.inl rfl))).trans h.pc,(r _ (i3 (.inr (.inl rfl)))).trans h.wb⟩;exact h.ps.of (r Pb (i3 (i3 rfl)))
def HP.rely{i:Ix}(r:eY (aC prog N Pb Shun val B Mz) i w aE):HP N Pb cp k c1 c2 x1 x2 aE:=h.rc r.rc
end
def cx(w:World)(o:Obj){b:Nat}(h:b<w.heap.size):(w.alloc o).heap[b]?=w.heap[b]?:=Below.heap_alloc _ _ _ h
def HP.Pc(h:HP N Pb cp 0 c1 c2 x1 x2 w)(c:Aq):∃c1,c1=w.heap.size/\HP N Pb cp 1 c1 c2 c x2 (w.alloc (.cells c 177)):=by have hs:=h.size;refine⟨_,rfl,(cx _ _ oq).trans h.lv,h.ps.of (cx _ _ (by have:=h.lo;omega)),h.lo,h.bf.imp λ_ ho=>(cx _ _ oq).trans ho,λ_=>heap_alloc_new w (.cells c 177),λ_=>hs,λh2=>by omega,λh2=>by omega,(cx _ _ oq).trans h.pc,(cx _ _ oq).trans h.wb⟩
def HP.Pd(h:HP N Pb cp 1 c1 c2 x1 x2 w)(c:Aq):∃c2,c2=w.heap.size/\HP N Pb cp 2 c1 c2 x1 c (w.alloc (.cells c 179)):=by have hs:=h.size;have kF:=(oK.1 (h.cl oq)).1;refine⟨_,rfl,(cx _ _ oq).trans h.lv,h.ps.of (cx _ _ (by have:=h.lo;omega)),h.lo,h.bf.imp λ_ ho=>(cx _ _ oq).trans ho,λ_=>(cx _ _ kF).trans (h.cl oq),λ_=>h.h1 oq,λ_=>heap_alloc_new w (.cells c 179),λ_=>⟨hs,by omega⟩,(cx _ _ oq).trans h.pc,(cx _ _ oq).trans h.wb⟩
def dI(w:World){g b:Nat}(cs:Aq)(h:b≠g):(w.setRow g cs).heap[b]?=w.heap[b]?:=by simp[World.setRow,IF,Ne.symm h]
theorem HP.Ri(h:HP N Pb cp k c1 c2 x1 x2 w)(U:1<=k)(c:Aq):HP N Pb cp k c1 c2 c x2 (w.setRow c1 c):=by have d:=h.size;have a:=h.lo;have h1:=h.h1 U;refine⟨(dI _ _ oq).trans h.lv,?_,h.lo,h.bf.imp λ_ b=>(dI _ _ oq).trans b,λ_=>setRow_heap w _ _ _ _ _ (h.cl U),h.h1,λz=>(dI _ _ (Ne.symm (h.h2 z).2)).trans (h.de z),h.h2,(dI _ _ oq).trans h.pc,(dI _ _ oq).trans h.wb⟩;exact h.ps.of (dI _ _ gq)
theorem HP.Rj(h:HP N Pb cp k c1 c2 x1 x2 w)(U:2<=k)(c:Aq):HP N Pb cp k c1 c2 x1 c (w.setRow c2 c):=by have d:=h.size;have a:=h.lo;have h2:=h.h2 U;refine⟨(dI _ _ oq).trans h.lv,?_,h.lo,h.bf.imp λ_ b=>(dI _ _ oq).trans b,λz=>(dI _ _ h2.2).trans (h.cl z),h.h1,λ_=>setRow_heap w _ _ _ _ _ (h.de U),h.h2,(dI _ _ oq).trans h.pc,(dI _ _ oq).trans h.wb⟩;exact h.ps.of (dI _ _ gq)
def HP.hc(h:HP N Pb cp 2 c1 c2 #[gY N,.bool false,.bool false] #[oe c1,.int .i32 0,.int .i64 0,.int .u8 0,.int .u8 0] w):HC N Pb cp c1 c2 ⟨false,false⟩ ⟨0,0,0,0⟩ w:=⟨h.lv,h.cl oq,h.de oq,h.pc,h.wb,h.h1 oq,(h.h2 oq).1,(h.h2 oq).2,h.ps,h.lo⟩
def Fz{es:Array Event}{a:Obj}(d:N+9<=w.heap.size)(f:GU a=177\/GU a=179\/False)(h:∀e∈es,Li (aC prog N Pb Shun val B Mz) (w.alloc a) e):DK (aC prog N Pb Shun val B Mz) w (w.alloc a) es:=by
 refine⟨rfl,rfl,rfl,λb c _=>cx _ _ c,λb c=>?_,λb h1 h2=>?_,cx _ _ (by show N<_;omega),by simp[World.size_alloc],h⟩
 .rcases c with z|⟨z,o',z1,z2⟩
  .exact .inl z
  .exact .inr ⟨z,o',(cx _ _ (oK.1 z1).1).trans z1,z2⟩
 .have:b=w.heap.size:=by simp[World.size_alloc] at h2;omega
  subst this;exact .inr ⟨d,_,heap_alloc_new w a,f⟩
def y7{es:Array Event}{cs:Aq}{t:TypeId}(hs:N+9<=w.heap.size)(ht:t=177\/t=179\/False)(h:∀e∈es,Li (aC prog N Pb Shun val B Mz) (w.alloc (.cells cs t)) e):DK (aC prog N Pb Shun val B Mz) w (w.alloc (.cells cs t)) es:=Fz hs ht h
def Ik{es:Array Event}{g:Nat}{cs old:Aq}{t:TypeId}(c:w.heap[g]?=some (.cells old t))(a:N+9<=g)(d:t=177\/t=179\/False)(h:∀e∈es,Li (aC prog N Pb Shun val B Mz) (w.setRow g cs) e):DK (aC prog N Pb Shun val B Mz) w (w.setRow g cs) es:=by
 have j:(w.setRow g cs).heap.size=w.heap.size:=iq
 refine⟨rfl,rfl,rfl,λk _ i=>dI _ _ ?_,λb f=>?_,λb h1 h2=>absurd h1 oq,dI _ _ (by show N≠g;omega),by omega,h⟩
 .rintro rfl;exact i (.inr ⟨a,_,c,d⟩)
 .by_cases e:b=g
  .subst e;exact .inr ⟨a,_,setRow_heap w _ _ _ _ _ c,d⟩
  .exact f.of_same (dI _ _ e)
def wG{P:Program}{w:World}{o:Oper}{a:Act}{ty t:TypeId}{x y:Operand}{g:Nat}{old cells:Aq}(c:o.op=.store ty x y)(h:a.eval x=.pointer (sq g))(i:a.eval y=.agg cells)
 (e:w.heap[g]?=some (.cells old t (0,0)))(hi:(P.info? ty).map (·.size)=some cells.size)(f:old.size=cells.size)(h1:cells.all (·.oneCell')=true) :
  (execOp a.eval o).run P w=.ok .skip (w.setRow g cells)/\∀d∈(execOp a.eval o).events P w #[],∃o,d=⟨.cell ⟨g,o,none⟩,true,false⟩:=by
 constructor
 .unfold execOp;simp[c,h,i,Instr.storeAt,Instr.sureAddr,run_storeVar_row w g t ty old cells e hi f h1]
 .intro d b;unfold execOp at b;simp only[c,h,i] at b;refine xZ w g t ty old cells e hi f h1 d ?_;simpa[Instr.storeAt,Instr.sureAddr] using b
def Rc(b:HP N Pb cp 0 0 0 #[] #[] w)(hz:∀p∈cp.l,p.size<=9223372036854775806)(hz2:cp.l.length<=9223372036854775806)(vs:Vq) :
  hM prog (XK (aC prog N Pb Shun val B Mz)) 63 #[cp.v,gY N] (true,V (iT cp.l)++vs) w (λi' _ w'=>i'=((iT cp.l).isEmpty,vs)/\∃f M c d,HC N Pb cp f M c d w'):=by
 have⟨ad,cc,hv,_⟩:=id b.ps;rw[hv];have C:=cK N Pb Shun val B Mz;have T:=tK N Pb Shun val B Mz;have q:=T (true,[]);have evb:∀(w:World) (h:Array Event) (a:Addr) (m:Mode) (x:Bool),(store a (.bool x) m).events prog w h=storedEv prog w h a (.bool x) m:=λw h a m x=>events_store prog w h a _ m rfl;have hdr:∀w:World,eY (aC prog N Pb Shun val B Mz) (true,[]) w { w with drawn:=w.drawn+1 }:=uy;have bd1:=λw=>run_build (P:=prog) w 177 #[(0,gY N)] #[gY N,.bool false,.bool false] kq;have be1:=λw h=>jq (P:=prog) w 177 #[(0,gY N)] #[gY N,.bool false,.bool false] kq h;have bd2:=λf w=>run_build (P:=prog) w 179 #[(0,oe f)] #[oe f,.int .i32 0,.int .i64 0,.int .u8 0,.int .u8 0] kq;have be2:=λf w h=>jq (P:=prog) w 179 #[(0,oe f)] #[oe f,.int .i32 0,.int .i64 0,.int .u8 0,.int .u8 0] kq h;have al1:=λw=>qN (w:=w) Tryz.zeroValue177;have ae1:=λw h=>lU (w:=w) Tryz.zeroValue177 h;have al2:=λw=>qN (w:=w) Tryz.zeroValue179;have ae2:=λw h=>lU (w:=w) Tryz.zeroValue179 h;have ln:∀s w h,(Builtin.len_ #[9] 3 #[.string s]).events prog w h=h:=λs w h=>by simp[Builtin.len_,go_sem]
 have mk:∀f w h,(Instr.makeFunc (Fn.func 116) #[Value.pointer (sq f)] #[]).events prog w h=h:=λf w h=>by simp[Instr.makeFunc]
 refine fp func63 rq rfl ?_;simp only[ntmps63,bZ,Nat.reduceAdd,Nat.reduceSub];co_apply aU C T (eY.refl _);co_reg (T _);co_op HP.rely b (co_quiet q);co_opw HP.rely b (skip) (co_still q);co_opw HP.rely b (skip) (exact y7 b.size (.inl rfl) (by co_evs (skip)));have⟨f,W,b⟩:=b.Pc #[.nilFunc,.bool false,.bool false];simp only[<-W];clear W;co_apply opsC_cons_k rfl rq;intro _ D K U;replace b:=HP.rely b D;clear D;have u:=λ{o:Oper} {a:Act} {x y:Operand} ko hx hy=>wG (P:=prog) (ty:=177) (o:=o) (a:=a) (x:=x) (y:=y) (g:=f) (cells:=#[gY N,.bool false,.bool false]) ko hx hy (b.cl oq) kq rfl (by simp[Value.oneCell',gY]);rw[(u rfl rfl rfl).1];refine U _ _ ⟨?_,?_⟩
 .refine Ik (b.cl oq) (b.h1 oq) (.inl rfl) λe r=>?_;obtain⟨o,rfl⟩:=(u rfl rfl rfl).2 e (mem_listed r);exact .inl ⟨_,_,rfl,.inl (.inr ⟨b.h1 oq,_,setRow_heap _ _ _ _ _ _ (b.cl oq),.inl rfl⟩)⟩
 clear U K u;try walk_nrm
 replace b:=b.Ri oq #[gY N,.bool false,.bool false];co_apply opsC_nil (T _);co_then;co_apply aU C T (eY.refl _);co_reg (T _);co_opw HP.rely b (skip) (co_still q);simp only[show Value.func (Fn.func 116) #[Value.pointer (sq f)] #[]=oe f from rfl];co_opw HP.rely b (skip) (co_still q);co_opw HP.rely b (skip) (exact y7 b.size (.inr (.inl rfl)) (by co_evs (skip)));have⟨M,X,b⟩:=b.Pd #[.nilFunc,.int .i32 0,.int .i64 0,.int .u8 0,.int .u8 0];simp only[<-X];clear X;co_apply opsC_cons_k rfl rq;intro _ D K U;replace b:=HP.rely b D;clear D;have u:=λ{o:Oper} {a:Act} {x y:Operand} ko hx hy=>wG (P:=prog) (ty:=179) (o:=o) (a:=a) (x:=x) (y:=y) (g:=M) (cells:=#[oe f,.int .i32 0,.int .i64 0,.int .u8 0,.int .u8 0]) ko hx hy (b.de oq) kq rfl (by simp[Value.oneCell',oe]);rw[(u rfl rfl rfl).1];refine U _ _ ⟨?_,?_⟩
 .refine Ik (b.de oq) (b.h2 oq).1 (.inr (.inl rfl)) λe r=>?_;obtain⟨o,rfl⟩:=(u rfl rfl rfl).2 e (mem_listed r);exact .inl ⟨_,_,rfl,.inl (.inr ⟨(b.h2 oq).1,_,setRow_heap _ _ _ _ _ _ (b.de oq),.inr (.inl rfl)⟩)⟩
 clear U K u;try walk_nrm
 replace b:=b.Rj oq #[oe f,.int .i32 0,.int .i64 0,.int .u8 0,.int .u8 0];co_apply opsC_nil (T _);co_then;refine fZ C T ?_;co_apply aU C T (eY.refl _);co_reg (T _);co_op HP.rely b (co_quiet q);co_opw HP.rely b (skip) (co_still q);co_op HP.rely b (co_quiet q);co_apply opsC_nil (T _);co_then;refine iN C T ?_;have b:=b.hc;refine Bi C T (λn i a w=>∃c d z k,n+k=cp.l.length/\i=(z,V (cX c d ((cp.l.drop k).flatMap bytesOf))++vs)/\(z&&(cX c d ((cp.l.drop k).flatMap bytesOf)).isEmpty)=(iT cp.l).isEmpty/\HC N Pb cp f M c d w/\∃x7 x8 Z Vt Vu Vv Vw x21 E F G H I J L S,a=⟨#[.slice ad cp.l.length cc,gY N,undef,undef,.pointer (sq f),.pointer (sq M),undef,x7,x8,gY N,.agg #[gY N,.bool false,.bool false],oe f,.agg #[oe f,.int .i32 0,.int .i64 0,.int .u8 0,.int .u8 0],.slice ad cp.l.length cc,.int .i64 (cp.l.length:Int),.int .i64 (k:Int),Z,Vt,Vu,Vv,Vw,x21,E,F,G,H,I,J,L,S,undef],[]⟩) cp.l.length ⟨⟨false,false⟩,⟨0,0,0,0⟩,true,0,by omega,rfl,by simp[iT],b,_,_,_,_,_,_,_,_,_,_,_,_,_,_,_,_,rfl⟩ ?_;clear b;rintro n i a w ⟨c,d,z,k,hn,rfl,r,b,x7,x8,Z,Vt,Vu,Vv,Vw,x21,E,F,G,H,I,J,L,S,rfl⟩;by_cases hk:k<cp.l.length
 .have Q:decide ((k:Int)<(cp.l.length:Int))=true:=tD oq;obtain⟨s,hs⟩:∃s,cp.l[k]?=some s:=⟨_,gE hk⟩;have zW:=hz s (mG hs);have hdk:(cp.l.drop k).flatMap bytesOf=bytesOf s++(cp.l.drop (k+1)).flatMap bytesOf:=by rw[List.drop_eq_getElem_cons hk,List.flatMap_cons,(gS.1 hs).2]
  obtain⟨R,rfl,_⟩:=b.ps.at hv hs;rw[hdk] at r |-;generalize hrs:(cp.l.drop (k+1)).flatMap bytesOf=rs at r |-;co_apply aU C T (eY.refl _);co_reg (T _);co_op HC.rely b (co_quiet q);co_apply opsC_nil (T _);co_then;try simp only[Q]
  refine fZ C T (aZ C T (t:=true) rfl ?_);simp only[if_true];refine fh C T ?_;show mH _ _ _ _ _ _ _;refine fZ C T (iN C T ?_);co_apply aU C T (eY.refl _);co_reg (T _);co_opw HC.rely b (skip) (co_still q);co_opw HC.rely b (obtain⟨fO,e1,hc⟩:=b.ps.at hv hs;cases e1) (refine ea b ?_;co_evs (exact qY (i3 (.inr (.inr rfl)))));clear hc;co_op HC.rely b (co_quiet q);co_apply opsC_nil (T _);co_then;co_apply aU C T (eY.refl _);co_reg (T _);co_op HC.rely b (co_quiet q);co_opw HC.rely b (skip) (co_still q);co_op HC.rely b (co_quiet q);co_apply opsC_nil (T _);co_then;refine iN C T ?_;refine Bi C T (λm i a w=>∃c d z j,m+j=s.size/\i=(z,V (cX c d ((bytesOf s).drop j++rs))++vs)/\(z&&(cX c d ((bytesOf s).drop j++rs)).isEmpty)=(iT cp.l).isEmpty/\HC N Pb cp f M c d w/\∃x8 E F G H I J L,a=⟨#[.slice (some ⟨Pb,R,none⟩) cp.l.length cc,gY N,undef,undef,.pointer (sq f),.pointer (sq M),undef,.string s,x8,gY N,.agg #[gY N,.bool false,.bool false],oe f,.agg #[oe f,.int .i32 0,.int .i64 0,.int .u8 0,.int .u8 0],.slice (some ⟨Pb,R,none⟩) cp.l.length cc,.int .i64 (cp.l.length:Int),.int .i64 (k:Int),.bool true,.pointer (some ⟨Pb,R+k,none⟩),.string s,.string s,.int .i64 (s.size:Int),.int .i64 (j:Int),E,F,G,H,I,J,L,S,undef],[]⟩) s.size ⟨c,d,z,0,by omega,rfl,r,b,_,_,_,_,_,_,_,_,rfl⟩ ?_;clear b r;rintro m i a w ⟨c,d,z,j,hm,rfl,r,b,x8,E,F,G,H,I,J,L,rfl⟩;by_cases hj:j<s.size
  .have O:decide ((j:Int)<(s.size:Int))=true:=tD oq;co_apply aU C T (eY.refl _);co_reg (T _);co_op HC.rely b (co_quiet q);co_apply opsC_nil (T _);co_then;try simp only[O]
   refine fZ C T ?_;refine aZ C T (t:=true) rfl ?_;simp only[if_true];refine fh C T ?_;show mH _ _ _ _ _ _ _;refine fZ C T ?_;refine iN C T ?_;co_apply aU C T (eY.refl _);co_reg (T _);iterate 2 co_op HC.rely b (co_quiet q)
   co_apply opsC_nil (T _);co_then;have Yg:(bytesOf s).drop j=((s[j]'hj).toNat:Int)::(bytesOf s).drop (j+1):=by rw[List.drop_eq_getElem_cons (by simpa[bytesOf] using hj)];simp[bytesOf];rfl
   have ixe:∀w h,(Instr.index 9 (.string s) (.int .i64 (j:Int))).events prog w h=h:=λw h=>by simp[Instr.index,go_sem,hj]
   rw[Yg,List.cons_append,iE] at r |-;simp only[pm,u6];refine bX C T ?_;simp only[fH,Nat.reduceAdd];iterate 2
    refine aP C rfl rq λ_ D Kx A=>?_
    replace b:=HC.rely b D
    clear D
    go_simp
    try (unfold stored;go_simp)
    refine A _ _ ⟨?_,?_⟩
    .co_quiet q
    clear A Kx;try walk_nrm
   refine aP C rfl rq λ_ D Kx A=>?_;replace b:=HC.rely b D;clear D;go_simp;try (unfold stored;go_simp)
   refine A _ _ ⟨?_,?_⟩
   .co_still q
   clear A Kx;try walk_nrm
   refine cf C T rfl rq rfl rfl (by simp[Act.eval]) rfl (Ru b z _ _) ?_;rintro _ _ _ ⟨rfl,b⟩;refine cG C T ?_;show mH _ _ _ _ _ _ _;co_apply o0 C (eY.refl _);co_reg (T _);iterate 2 co_op HC.rely b (co_quiet q)
   co_apply opsC_nil (T _);have hwr:IntKind.i64.wrap ((j:Int)+1)=((j+1:Nat):Int):=by rw[IntKind.wrap_i64];omega
   simp only[hwr];rw[ng,<-Bool.and_assoc] at r;exact⟨m-1,by omega,_,_,_,j+1,by omega,rfl,r,b,_,_,_,_,_,_,_,_,rfl⟩
  .have O:decide ((j:Int)<(s.size:Int))=false:=fD oq;co_apply aU C T (eY.refl _);co_reg (T _);co_op HC.rely b (co_quiet q);co_apply opsC_nil (T _);co_then;try simp only[O]
   refine fZ C T (aZ C T (t:=false) rfl ?_);simp only[if_false,kj];refine Bh C T ?_;simp only[na,E2,if_true];have Y:(bytesOf s).drop j=[]:=List.drop_eq_nil_of_le (by simp[bytesOf];have:s.size=s.data.size:=rfl;omega);rw[Y,List.nil_append,<-hrs] at r |-;have hwk:IntKind.i64.wrap ((k:Int)+1)=((k+1:Nat):Int):=by rw[IntKind.wrap_i64];omega
   co_apply o0 C (eY.refl _);co_reg (T _);iterate 2 co_op HC.rely b (co_quiet q)
   co_apply opsC_nil (T _);try simp only[hwk]
   exact⟨n-1,by omega,c,d,z,k+1,by omega,rfl,r,b,_,_,_,_,_,_,_,_,_,_,_,_,_,_,_,_,rfl⟩
 .have Q:decide ((k:Int)<(cp.l.length:Int))=false:=fD oq;rw[List.drop_eq_nil_of_le oq,List.flatMap_nil] at r |-;co_apply aU C T (eY.refl _);co_reg (T _);co_op HC.rely b (co_quiet q);co_apply opsC_nil (T _);co_then;try simp only[Q]
  refine fZ C T (aZ C T (t:=false) rfl ?_);simp only[if_false,kj];refine Bh C T ?_;simp only[na,E2,if_true];rw[jh] at r |-;refine bX C T ?_;simp only[fH];refine cf C T rfl rq rfl rfl (by simp[Act.eval]) rfl (Iw b z vs) ?_;rintro _ _ _ ⟨rfl,b⟩;refine cG C T ?_;exact⟨.inl rfl,rfl,_,resultsC_none rq _,by rw[r],_,_,_,_,b⟩
end
section
variable {main:Bool}{b:Frame}{a:Act}{k:List Item}{cs:List Frame}{ops:Array Oper}{i:Nat}{rest:List Nat}{o:Oper}
theorem qx{d:Deferred}(c:ops[i]?=some o)(h:Region.wanted o (yielded ops a.tmps)=true)(j:b.kind≠.early)(g:(execOp a.eval o).run P w=.ok (.defer d) w)(f:(execOp a.eval o).events P w #[]=#[]) :
  stepG P main (G (b.at a (.inRegion ops (i::rest)::k)) cs) w=.go (G (b.at (Act.put ⟨a.tmps,d::a.defers⟩ o.dst undef) (.inRegion ops rest::k)) cs) w #[]:=by
 have U:(b.at ⟨a.tmps,d::a.defers⟩ (.inRegion ops (i::rest)::k)).finish undef=b.at (Act.put ⟨a.tmps,d::a.defers⟩ o.dst undef) (.inRegion ops rest::k):=by rw[Frame.finish_at,c];rfl
 have e:(b.kind==CallKind.early)=false:=gq
 rw[stepG_oper c h,<-U];simp[stepG.apply,g,f,G,Frame.at,e,GStep.after,seen_none]
def vu{c:Frame}(e:ops[i]?=some o)(m:Region.wanted o (yielded ops a.tmps)=true)(h:b.kind=.deferred)(l:b.roundOf=none)(f:c.mode=.returning)(j:(execOp a.eval o).run P w=.ok .recover w)(g:(execOp a.eval o).events P w #[]=#[]) :
  stepG P main (G (b.at a (.inRegion ops (i::rest)::k)) (c::cs)) w=.go (G (b.at (a.put o.dst .nilIface) (.inRegion ops rest::k)) (c::cs)) w #[]:=by
 have d:(b.at a (.inRegion ops (i::rest)::k)).finish .nilIface=b.at (a.put o.dst .nilIface) (.inRegion ops rest::k):=by rw[Frame.finish_at,e];rfl
 rw[stepG_oper e m,<-d];simp[stepG.apply,j,g,G,Frame.at,h,tryRecover,f,GStep.after,seen_none]
variable {todo:List Item}{ds:List Deferred}{f:FuncId}{fn:Func}{args cap:Aq}
theorem nH{c : Code}(hd : a.defers = { target := .fn (.func f) cap, args := args } :: ds)(hf : P.funcs[f]? = some fn)(lm : (fn.name == "runtime.NumGoroutine") = false)(hb : fn.body = some c) :
  stepG P main (G { b.at a todo with mode:=.returning } cs) w =
   .go (G ((baseD f).at { tmps:=(args++cap)++Array.replicate (fn.ntmps-(args++cap).size) undef,defers:=[] } [.code c]) ({ b.at ⟨a.tmps,ds⟩ todo with mode:=.returning }::cs)) w #[]:=by
 have h1 : ¬ fn.name = "runtime.NumGoroutine" := by grind
 rw[<-enter_atD (args++cap) hf hb];simp[G,stepG,unwind,callDeferred,Frame.at,hd,invoke,callFunc,hf,h1,hb,GStep.after,seen_none]
def oY{ats:Array TypeId}{ty:TypeId}{g:Array Bool}{r cap s i:Nat}{c:Aq}{tm:Bool}(j:a.defers={ target:=.builtin .close ats ty g,args:=#[.chan (some r)] }::ds)
 (h:w.heap[r]?=some (.chan cap c false s i tm))(k:(P.funcs[b.fn]?).any (·.norace)=false) :
  stepG P main (G { b.at a todo with mode:=.returning } cs) w=.go (G { b.at ⟨a.tmps,ds⟩ todo with mode:=.returning } cs) (w.setChan r cap c true s i tm) (closeEvents r):=by
 have l:(builtin .close ats ty g #[.chan (some r)]).run P w=.ok (.value (.tuple #[])) (w.setChan r cap c true s i tm):=by simp[go_sem,run_close_open _ _ h,World.setChan]
 have d:(builtin .close ats ty g #[.chan (some r)]).events P w #[]=closeEvents r:=by simp[go_sem,events_close_open _ _ h,closeEvents]
 have m:seen P b.fn (closeEvents r)=closeEvents r:=seen_eq k (by intro e d f;simp only[closeEvents,List.mem_toArray,nk,vh,or_false] at d;rcases d with rfl|rfl<;>simp);simp[G,stepG,unwind,callDeferred,Frame.at,j,invoke,l,d,m,GStep.after]
end
structure HB(N:Nat)(nv:Value)(w:World):Prop where
 nx:w.heap[N+1]?=some (.cells #[nv] 110)
 lv:w.heap[N+3]?=some (.cells #[.chan (some (N+2))] 158)
 ev:w.heap[N+5]?=some (.cells #[.chan (some (N+4))] 159)
 wb:w.heap[N+7]?=some (.cells #[.pointer (some ⟨N+6,0,none⟩)] 240)
 fb:w.heap[N+8]?=some (.cells #[.func (.func 112) #[] #[.pointer (some ⟨N+5,0,none⟩),.pointer (some ⟨N+1,0,none⟩),.pointer (some ⟨N+3,0,none⟩)]] 1)
structure HE(N:Nat)(val:Value)(w:World):Prop where
 pc:∃t,w.heap[N]?=some (.cells #[val] t)
 wb:w.heap[N+7]?=some (.cells #[.pointer (some ⟨N+6,0,none⟩)] 240)
 bf:∃o,w.heap[N+8]?=some o
structure HQ(N Pb:Nat)(cp:Hp)(w:World):Prop where
 pc:w.heap[N]?=some (.cells #[cp.v] 62)
 ps:mM Pb cp w
 lo:Pb<N+9
def tG(N:Nat):Deferred:={ target:=.builtin .close #[159] 0 #[false],args:=#[.chan (some (N+4))] }
section
variable {nv:Value}
def cell1{b:Nat}{v:Value}{t:TypeId}(h:w.heap[b]?=some (.cells #[v] t)):w.cell? ⟨b,0,none⟩=some v:=by simp[World.cell?,h]
variable [ConcR.Payload][ConcX.Payload]
def HB.rc(h:HB N nv w)(r:RC (aC prog N Pb Shun val B Mz) w aE):HB N nv aE :=
 ⟨(r _ (.inr (.inl rfl))).trans h.nx,(r _ (.inr (.inr (.inl rfl)))).trans h.lv,(r _ (i3 (.inl rfl))).trans h.ev,(r _ (i3 (.inr (.inl rfl)))).trans h.wb,(r _ (i3 (.inr (.inr (.inl rfl))))).trans h.fb⟩
def HB.rely{i:Ix}(h:HB N nv w)(r:eY (aC prog N Pb Shun val B Mz) i w aE):HB N nv aE:=h.rc r.rc
theorem HE.size(h:HE N val w):N+9<=w.heap.size:=by have⟨o,U⟩:=h.bf;grind
def HQ.rc(h:HQ N Pb cp w)(r:RC (aC prog N Pb Shun val B Mz) w aE):HQ N Pb cp aE:=by exact⟨(r _ (.inl (.inl rfl))).trans h.pc,h.ps.of (r Pb (i3 (i3 rfl))),h.lo⟩
def HQ.rely{i:Ix}(h:HQ N Pb cp w)(r:eY (aC prog N Pb Shun val B Mz) i w aE):HQ N Pb cp aE:=h.rc r.rc
def HB.hp(h:HB N nv w)(q:HQ N Pb cp w):HP N Pb cp 0 0 0 #[] #[] w:=⟨h.lv,q.ps,q.lo,⟨_,h.fb⟩,λh=>absurd h oq,λh=>absurd h oq,λh=>absurd h oq,λh=>absurd h oq,q.pc,h.wb⟩
def nN{K:Cfg}{es:Array Event}(h:∀e∈es,Li K w e):DK K w w es :=
 ⟨rfl,rfl,rfl,λ_ _ _=>rfl,λ_ h=>h,λ_ h1 h2=>absurd h1 oq,rfl,lr,h⟩
def qZ{o:Nat}{b:Nat}(a:b=N+1\/b=N+3\/b=N+5\/b=N+7\/b=N+8\/b=Pb):Li (aC prog N Pb Shun val B Mz) w ⟨.cell ⟨b,o,none⟩,false,false⟩:=.inl ⟨_,_,rfl,.inr ⟨a,rfl⟩⟩
def LV{o:Nat}{wr:Bool}:Li (aC prog N Pb Shun val B Mz) w ⟨.cell ⟨N,o,none⟩,wr,false⟩:=.inl ⟨_,_,rfl,.inl (.inl rfl)⟩
def CR{g:Type}{P:Program}{main:Bool}{R:g->Wq}{D:World->World->Array Event->Prop}{X:g->Gq}{fn:FuncId}{Q:pf g}{a:Act}{w:World}{vs:g}(C:Closed P main R D X)(T:∀i,Terms (R i) D)
 {ops:Array Oper}{i:Nat}{c:List Nat}{o:Oper}{d:Deferred}(q:ops[i]?=some o)(s:Region.wanted o (yielded ops a.tmps)=true)(r:∀w,(execOp a.eval o).run P w=.ok (.defer d) w)(p:∀w,(execOp a.eval o).events P w #[]=#[])
 (h:lQ X fn ops c vs Q (Act.put ⟨a.tmps,d::a.defers⟩ o.dst undef) w):lQ X fn ops (i::c) vs Q a w:=λb k l m j n=>C.step rfl λe f=>by rw[qx q s j (r e) (p e)];exact⟨(T vs).idle _,C.rely (h b k l m j n) f⟩
def BO(N:Nat):Value:=.func (.func 62) #[] #[.pointer (some ⟨N,0,none⟩)]
theorem CH(a:HB N nv w)(e:HQ N Pb cp w)(k:∀p∈cp.l,p.size<=9223372036854775806)(h:cp.l.length<=9223372036854775806) :
  hM prog (XK (aC prog N Pb Shun cp.v B Mz)) 62 #[gY N,.pointer (sq N)] (true,V (iT cp.l)) w (λm _ n=>m.2=[]/\HE N cp.v n):=by
 have C:Closed prog false (eY (aC prog N Pb Shun cp.v B Mz)) (DK (aC prog N Pb Shun cp.v B Mz)) (XK (aC prog N Pb Shun cp.v B Mz)):=XK.closed (K:=(aC prog N Pb Shun cp.v B Mz));have T:=KM (K:=(aC prog N Pb Shun cp.v B Mz));have g:=T (true,[]);refine fp func62 rq rfl ?_;simp only[ntmps62,bZ,Nat.reduceAdd,Nat.reduceSub];refine bX C T ?_;simp only[fH,Nat.reduceAdd];refine aP C rfl rq λ_ b f U=>?_;replace a:=HB.rely a b;replace e:=HQ.rely e b;clear b;have j:=cell1 e.pc;go_simp;try (unfold stored;go_simp)
 refine U _ _ ⟨?_,?_⟩
 .refine nN ?_;co_evs (exact LV)
 clear U f;try walk_nrm
 clear j;refine aP C rfl rq λ_ b f U=>?_;replace a:=HB.rely a b;replace e:=HQ.rely e b;clear b;go_simp;try (unfold stored;go_simp)
 refine U _ _ ⟨?_,?_⟩
 .co_quiet g
 clear U f;try walk_nrm
 refine cf C T rfl rq rfl rfl (by simp[Act.eval]) gq (Rc (a.hp e) k h []) ?_;rintro _ _ _ ⟨rfl,o,q,c,d,a⟩;refine cG C T ?_;exact⟨.inl rfl,rfl,_,resultsC_none rq _,rfl,⟨_,a.pc⟩,a.wb,⟨_,gF (i:=N+8) (by have:=a.size;omega)⟩⟩
def Re{f:FuncId}{cap:Aq}{ls:Vq}(j:HB N (.func (.func f) #[] cap) w)
 (k:∀a,RC (aC prog N Pb Shun val B Mz) w a->hM prog (XK (aC prog N Pb Shun val B Mz)) f (#[gY N]++cap) (true,ls) a (λs _ o=>s.2=[]/\HE N val o)) :
  ∃c,Tryz.f112.body=some c/\mH (XK (aC prog N Pb Shun val B Mz)) 112 c (true,ls) (λi e q o=>e=.normal/\i.2=[]/\q.defers=[tG N]/\HE N val o) ⟨#[.pointer (sq (N+5)),.pointer (sq (N+1)),.pointer (sq (N+3)),undef,undef,undef,undef],[]⟩ w:=by
 have C:=cK N Pb Shun val B Mz;have T:=tK N Pb Shun val B Mz;have p:=T (true,[]);have t:∀w m,(Instr.makeFunc (Fn.func 113) #[] #[Value.pointer (sq (N+3))]).events prog w m=m:=λw m=>by simp[Instr.makeFunc]
 refine⟨_,rfl,?_⟩;refine fZ C T (bX C T ?_);simp only[fH,Nat.reduceAdd];refine aP C rfl rq λ_ h l b=>?_;replace j:=HB.rely j h;replace k:=λa g=>k a (RC.trans h.rc g);clear h;have n:=cell1 j.ev;go_simp;try (unfold stored;go_simp)
 refine b _ _ ⟨?_,?_⟩
 .refine nN ?_;co_evs (exact qZ (.inr (.inr (.inl rfl))))
 clear b l;try walk_nrm
 clear n;refine CR C T (d:=tG N) rfl rq (λw=>by simp[execOp,go_sem,resolve,tG,Act.eval]) (λw=>by simp[execOp,go_sem,resolve,Act.eval]) ?_;try walk_nrm
 refine cG C T ?_;show mH _ _ _ _ _ _ _;refine bX C T ?_;simp only[fH,Nat.reduceAdd];refine aP C rfl rq λ_ h l b=>?_;replace j:=HB.rely j h;replace k:=λa g=>k a (RC.trans h.rc g);clear h;have n:=cell1 j.nx;go_simp;try (unfold stored;go_simp)
 refine b _ _ ⟨?_,?_⟩
 .refine nN ?_;co_evs (exact qZ (.inl rfl))
 clear b l;try walk_nrm
 clear n;refine aP C rfl rq λ_ h l b=>?_;replace j:=HB.rely j h;replace k:=λa g=>k a (RC.trans h.rc g);clear h;go_simp;try (unfold stored;go_simp)
 refine b _ _ ⟨?_,?_⟩
 .co_still p
 clear b l;try walk_nrm
 refine cf C T rfl rq rfl rfl (by simp[Act.eval];rfl) rfl (k _ (RC.refl _)) ?_;rintro i _ _ ⟨r,j⟩;exact cG C T ⟨rfl,r,rfl,j⟩
end
end Go.Proofs.YtgcaionclkbehaaGreatDoor
