import Derived.Test.YtgcaionclkbehaaGreatDoorFol
import Derived.Lib.RuneBytes
import Derived.Lib.Builder
set_option linter.all false
set_option maxHeartbeats 2000000
set_option maxRecDepth 100000
namespace Go.Proofs.YtgcaionclkbehaaGreatDoor
open Go.Conc Go.RowKit Tryz
variable {P:Program}{w w' aB:World}{t:TypeId}{v x z:Value}{e:Event}{es:Array Event}{b g k n p' pos sz:Nat}{cs:Aq}{fz:Nat × Nat}{KT:TypeId→Prop}{ops:Array Oper}{rest todo:List Nat}{K:Cfg}{R:Wq}{D:World→World→Array Event→Prop}{news:Vq}{s:ByteArray}{tk:Iq}{en main:Bool}{EM:Nat→Prop}
def cT(d:DS)(b:Int):DS × List Int :=
 if 0<d.missing then if d.low≤b∧b≤d.high then cG d b else ((cK (gk d).1 b).1,(gk d).2++(cK (gk d).1 b).2) else cK d b
theorem kZ(c:CS)(x y:Iq):aI c (x++y)=((aI (aI c x).1 y).1,(aI c x).2++(aI (aI c x).1 y).2):=by
 induction x generalizing c with
 | nil=>simp[aI]
 | cons r l U=>simp[aI,U]
theorem lO{U:Type}(x y:List U):(x++y).isEmpty=(x.isEmpty&&y.isEmpty):=by cases x<;>rfl
theorem nW(x y:Iq):V (x++y)=V x++V y:=by simp[V]
section
variable {N Pb cp c1 c2:Nat}{Shun:Loc→Prop}{val:Value}{B:Nat}{Mine:Loc→Prop}{c:CS}{d:DS}{w aB:World}
variable [Go.ConcR.Payload][Go.ConcX.Payload]
theorem NU(U:HC N Pb cp c1 c2 c d w)(fr:Bool)(b:Int)(vs:Vq) :
  gD prog (XK (aC prog N Pb Shun val B Mine)) 117 #[.pointer (sq c2),.int .u8 b] (fr,V (aI c (cT d b).2).2++vs) w (fun i' _ w'=>i'=(fr&&(aI c (cT d b).2).2.isEmpty,vs)∧HC N Pb cp c1 c2 (aI c (cT d b).2).1 (cT d b).1 w'):=by
 have C:Closed prog false (ef (aC prog N Pb Shun val B Mine)) (DK (aC prog N Pb Shun val B Mine)) (XK (aC prog N Pb Shun val B Mine)):=XK.closed (K:=(aC prog N Pb Shun val B Mine));have T:=jq (K:=(aC prog N Pb Shun val B Mine));have Tq:=T (true,[]);refine fe func117 (by rfl) rfl ?_;simp only[ntmps117,List.size_toArray,List.length_cons,List.length_nil,Nat.reduceAdd,Nat.reduceSub,Array.replicate_succ,Array.replicate_zero,List.push_toArray,List.append_toArray,List.nil_append,List.cons_append];refine fQ C T ?_;co_apply aO C T (ef.refl _);co_reg (T _);co_op HC.rely U (co_quiet Tq);iterate 2 co_opw HC.rely U (skip) (co_still Tq)
 co_opw HC.rely U (have hc:=U.bZ) (refine dj U ?_; co_evs (exact ca (.inr (.inr rfl))));clear hc;co_op HC.rely U (co_quiet Tq);co_apply opsC_nil (T _);co_then;by_cases hm:0<d.missing
 ·have a4:decide (0<d.missing)=true:=decide_eq_true hm;try simp only[a4]
  refine aR C T (t:=true) rfl ?_;simp only[if_true,if_false,reduceIte,Bool.false_eq_true];refine fQ C T ?_;by_cases hl:d.low≤b
  ·have a3:decide (d.low≤b)=true:=decide_eq_true hl;co_apply aO C T (ef.refl _);co_reg (T _);co_op HC.rely U (co_quiet Tq);iterate 2 co_opw HC.rely U (skip) (co_still Tq)
   co_opw HC.rely U (have hc:=U.bZ) (refine dj U ?_; co_evs (exact ca (.inr (.inr rfl))));clear hc;iterate 3 co_op HC.rely U (co_quiet Tq)
   try simp only[a3]
   iterate 2 co_op HC.rely U (co_quiet Tq)
   iterate 2 co_opw HC.rely U (skip) (co_still Tq)
   co_opw HC.rely U (have hc:=U.bZ) (refine dj U ?_; co_evs (exact ca (.inr (.inr rfl))));clear hc;iterate 2 co_op HC.rely U (co_quiet Tq)
   co_apply opsC_nil (T _);co_then;by_cases hh:b≤d.high
   ·have a2:decide (b≤d.high)=true:=decide_eq_true hh;try simp only[a2]
    refine aR C T (t:=true) rfl ?_;simp only[if_true,if_false,reduceIte,Bool.false_eq_true];refine fQ C T ?_;have a1:cT d b=cG d b:=by simp only[cT,if_pos hm,if_pos (And.intro hl hh)]
    refine bN C T ?_;simp only[ia,Nat.reduceAdd];iterate 2
     refine aL C rfl (by rfl) fun _ hR Kx a0=>?_
     replace U:=HC.rely U hR
     clear hR
     go_simp
     try (unfold stored; go_simp)
     refine a0 _ _ ⟨?_,?_⟩
     ·co_quiet Tq
     clear a0 Kx;try walk_nrm
    refine bP C T rfl (by rfl) rfl rfl (by simp[Act.eval]) (by rw[a1]) (FM U fr b vs) ?_;rintro _ _ _ ⟨rfl,U⟩;refine cf C T ?_;show lm _ _ _ _ _ _ _;refine mI C T ?_;exact⟨.inr rfl,rfl,_,resultsC_none (by rfl) _,by simp[a1],by rw[a1]; exact U⟩
   ·have a2:decide (b≤d.high)=false:=decide_eq_false hh;try simp only[a2]
    refine aR C T (t:=false) rfl ?_;simp only[if_true,if_false,reduceIte,Bool.false_eq_true];refine eZ C T ?_;show lm _ _ _ _ _ _ _;have a1:cT d b=((cK (gk d).1 b).1,(gk d).2++(cK (gk d).1 b).2):=by simp only[cT,if_pos hm,if_neg (fun h:d.low≤b∧b≤d.high=>hh h.2)]
    rw[a1];simp only[kZ,nW,List.append_assoc];refine bN C T ?_;simp only[ia,Nat.reduceAdd];refine aL C rfl (by rfl) fun _ hR Kx a0=>?_;replace U:=HC.rely U hR;clear hR;go_simp;try (unfold stored; go_simp)
    refine a0 _ _ ⟨?_,?_⟩
    ·co_quiet Tq
    clear a0 Kx;try walk_nrm
    refine bP C T rfl (by rfl) rfl rfl (by simp[Act.eval]) rfl (FH U fr _) ?_;rintro _ _ _ ⟨rfl,U⟩;refine cf C T ?_;show lm _ _ _ _ _ _ _;refine bN C T ?_;simp only[ia,Nat.reduceAdd];iterate 2
     refine aL C rfl (by rfl) fun _ hR Kx a0=>?_
     replace U:=HC.rely U hR
     clear hR
     go_simp
     try (unfold stored; go_simp)
     refine a0 _ _ ⟨?_,?_⟩
     ·co_quiet Tq
     clear a0 Kx;try walk_nrm
    refine bP C T rfl (by rfl) rfl rfl (by simp[Act.eval]) rfl (ve U _ b vs) ?_;rintro _ _ _ ⟨rfl,U⟩;refine cf C T ?_;exact⟨.inl rfl,rfl,_,resultsC_none (by rfl) _,by simp[lO,Bool.and_assoc],U⟩
  ·have a3:decide (d.low≤b)=false:=decide_eq_false hl;co_apply aO C T (ef.refl _);co_reg (T _);co_op HC.rely U (co_quiet Tq);iterate 2 co_opw HC.rely U (skip) (co_still Tq)
   co_opw HC.rely U (have hc:=U.bZ) (refine dj U ?_; co_evs (exact ca (.inr (.inr rfl))));clear hc;iterate 3 co_op HC.rely U (co_quiet Tq)
   try simp only[a3]
   iterate 6 co_apply opsC_unwanted (T _) rfl (by rfl)
   co_op HC.rely U (co_quiet Tq);co_apply opsC_nil (T _);co_then;refine aR C T (t:=false) rfl ?_;simp only[if_true,if_false,reduceIte,Bool.false_eq_true];refine eZ C T ?_;show lm _ _ _ _ _ _ _;have a1:cT d b=((cK (gk d).1 b).1,(gk d).2++(cK (gk d).1 b).2):=by simp only[cT,if_pos hm,if_neg (fun h:d.low≤b∧b≤d.high=>hl h.1)]
   rw[a1];simp only[kZ,nW,List.append_assoc];refine bN C T ?_;simp only[ia,Nat.reduceAdd];refine aL C rfl (by rfl) fun _ hR Kx a0=>?_;replace U:=HC.rely U hR;clear hR;go_simp;try (unfold stored; go_simp)
   refine a0 _ _ ⟨?_,?_⟩
   ·co_quiet Tq
   clear a0 Kx;try walk_nrm
   refine bP C T rfl (by rfl) rfl rfl (by simp[Act.eval]) rfl (FH U fr _) ?_;rintro _ _ _ ⟨rfl,U⟩;refine cf C T ?_;show lm _ _ _ _ _ _ _;refine bN C T ?_;simp only[ia,Nat.reduceAdd];iterate 2
    refine aL C rfl (by rfl) fun _ hR Kx a0=>?_
    replace U:=HC.rely U hR
    clear hR
    go_simp
    try (unfold stored; go_simp)
    refine a0 _ _ ⟨?_,?_⟩
    ·co_quiet Tq
    clear a0 Kx;try walk_nrm
   refine bP C T rfl (by rfl) rfl rfl (by simp[Act.eval]) rfl (ve U _ b vs) ?_;rintro _ _ _ ⟨rfl,U⟩;refine cf C T ?_;exact⟨.inl rfl,rfl,_,resultsC_none (by rfl) _,by simp[lO,Bool.and_assoc],U⟩
 ·have a4:decide (0<d.missing)=false:=decide_eq_false hm;try simp only[a4]
  refine aR C T (t:=false) rfl ?_;simp only[if_true,if_false,reduceIte,Bool.false_eq_true];refine eZ C T ?_;show lm _ _ _ _ _ _ _;have a1:cT d b=cK d b:=by simp only[cT,if_neg hm]
  refine bN C T ?_;simp only[ia,Nat.reduceAdd];iterate 2
   refine aL C rfl (by rfl) fun _ hR Kx a0=>?_
   replace U:=HC.rely U hR
   clear hR
   go_simp
   try (unfold stored; go_simp)
   refine a0 _ _ ⟨?_,?_⟩
   ·co_quiet Tq
   clear a0 Kx;try walk_nrm
  refine bP C T rfl (by rfl) rfl rfl (by simp[Act.eval]) (by rw[a1]) (ve U fr b vs) ?_;rintro _ _ _ ⟨rfl,U⟩;refine cf C T ?_;exact⟨.inl rfl,rfl,_,resultsC_none (by rfl) _,by simp[a1],by rw[a1]; exact U⟩
end
theorem vg(P:Program)(w:World)(t:TypeId)(v:Value):(Instr.box t v).run P w=.ok (.pointer (sq w.heap.size)) (w.alloc (.cells v.cells t)):=by simp[Instr.box,newVar,go_sem]
theorem rE(P:Program)(w:World)(t:TypeId)(v:Value)(es:Array Event):(Instr.box t v).events P w es=es:=by simp[Instr.box,newVar,go_sem]
theorem mf(U:∀w,(zeroValue t).run P w=.ok z w):(Instr.alloc t true (.tuple #[])).run P w=.ok (.pointer (sq w.heap.size)) (w.alloc (.cells z.cells t)):=by simp[Instr.alloc,newVar,go_sem,U]
theorem kv(U:∀w,(zeroValue t).run P w=.ok z w)(es:Array Event):(Instr.alloc t true (.tuple #[])).events P w es=es:=by simp[Instr.alloc,newVar,go_sem,U]
theorem mW(w:World):∀(fs:List Field) (U:List (Nat × Nat)) (es:Array Event),fs.mapM (fun f:Field=>(P.info? f.type).map fun i=>(f.offset,i.size))=some U →
  (fs.mapM fun f:Field=>Functor.map (Prod.mk f.offset) (sizeOf f.type)).events P w es=es
 | [],U,es,h=>by simp
 | f::fs,U,es,h=>by
  simp only[List.mapM_cons,Option.bind_eq_bind,Option.pure_def] at h;cases hi:P.info? f.type with
  | none=>simp[hi] at h
  | some i =>
   cases hr:fs.mapM (fun f=>(P.info? f.type).map fun i=>(f.offset,i.size)) with
   | none=>simp[hi,hr] at h
   | some rest =>
    have hs:(sizeOf f.type).run P w=.ok i.size w:=by simp[sizeOf,typeInfo,hi]
    simp[List.mapM_cons,hs,run_places w fs rest hr,mW w fs rest _ hr]
theorem iK(w:World)(t:TypeId)(parts:Array (Nat × Value))(cells:Aq)(h:P.built t parts.toList=some cells)(es:Array Event):(Instr.build t parts).events P w es=es:=by
 unfold Program.built at h;cases U:P.info? t with
 | none=>simp[U] at h
 | some it =>
  cases hu:P.underlying t with
  | none=>simp[U,hu] at h
  | some d =>
   cases hz:it.zero with
   | none=>cases d<;>simp[U,hu,hz] at h
   | some z =>
    cases d<;>try (simp[U,hu] at h; done)
    case array n e =>
     cases a2:P.info? e with
     | none=>simp[U,hu,hz,a2] at h
     | some ie =>simp only[U,hu,hz,a2] at h;simp[Instr.build,run_underlying hu,sizeOf,typeInfo,zeroValue,U,hz,a2,h]
    case struct a0 =>
     cases hp:a0.toList.mapM (fun f=>(P.info? f.type).map fun i=>(f.offset,i.size)) with
     | none=>simp[U,hu,hz,hp] at h
     | some a1 =>
      simp only[U,hu,hz,hp] at h;have h':Instr.fill (fun x=>a1[x]?) z.cells parts.toList=some cells:=by simpa using h
      simp[Instr.build,run_underlying hu,typeInfo,zeroValue,U,hz,Array.mapM_eq_mapM_toList,run_places w _ _ hp,mW w _ _ _ hp,h']
theorem l6(g:Nat)(t:TypeId):∀(vs:Vq) (i:Nat) (U:Aq) (w:World) (es:Array Event),w.heap[g]?=some (.cells U t (0,0))→i+vs.length≤U.size→(∀v∈vs,v.oneCell'=true) →
  ∀ev∈(storeCells ⟨g,0,none⟩ vs i).events P w es,ev∈es∨∃o,ev=⟨.cell ⟨g,o,none⟩,true,false⟩
 | [],_,_,_,_,_,_,_=>fun ev h=>.inl (by simpa[storeCells] using h)
 | v::rest,i,U,w,es,hg,hl,h1=>fun ev h=>by
  have hi:i<U.size:=by simp at hl; omega
  have a1:(⟨g,0,none⟩:Addr).add i=⟨g,i,none⟩:=by unfold Addr.add; split<;>simp_all
  have a0:w.cell? ⟨g,i,none⟩=some U[i]:=by simp[World.cell?,hg,hi]
  have a2:w.frozen? ⟨g,i,none⟩=false:=by simp[World.frozen?,hg]
  have a4:(store ((⟨g,0,none⟩:Addr).add i) v).run P w=.ok () (w.setRow g (U.setIfInBounds i v)):=by rw[a1,run_store P w _ v _ (h1 v (by simp)),a0];simp[a2,setCell_eq_setRow w g i U t (0,0) v hg]
  have a3:(store ((⟨g,0,none⟩:Addr).add i) v).events P w es=es.push ⟨.cell ⟨g,i,none⟩,true,false⟩:=by rw[a1,events_store P w es _ v _ (h1 v (by simp)),a0];simp only[a2,Bool.false_eq_true,if_false];rfl
  simp only[storeCells,Sem.events_bind,a4,Result.evThen_ok,a3] at h;rcases l6 g t rest (i+1) (U.setIfInBounds i v) (w.setRow g (U.setIfInBounds i v)) _ (setRow_heap w g U _ t _ hg) (by simp at hl ⊢; omega) (fun x hx=>h1 x (by simp[hx])) ev h with h|h
  ·rcases Array.mem_push.1 h with h|rfl
   ·exact .inl h
   ·exact .inr ⟨_,rfl⟩
  ·exact .inr h
theorem wu(w:World)(g:Nat)(t ty:TypeId)(old cells:Aq)(hg:w.heap[g]?=some (.cells old t (0,0)))(hi:(P.info? ty).map (·.size)=some cells.size)(ho:old.size=cells.size)(h1:cells.all (·.oneCell')=true) :
  ∀ev∈(storeVar ty ⟨g,0,none⟩ (.agg cells)).events P w #[],∃o,ev=⟨.cell ⟨g,o,none⟩,true,false⟩:=by
 intro ev a0;cases hq:P.info? ty with
 | none=>simp[hq] at hi
 | some i =>
  have hs:cells.size=i.size:=by simp[hq] at hi; omega
  have U:ev∈(storeCells ⟨g,0,none⟩ cells.toList).events P w #[]:=by simpa[storeVar,sizeOf,typeInfo,hq,Value.cells,hs] using a0
  rcases l6 g t cells.toList 0 old w #[] hg (by simp; omega) (fun v hv=>(Array.all_eq_true_iff_forall_mem.1 h1) v (by simpa using hv)) ev U with h|h
  ·simp at h
  ·exact h
abbrev eS:TypeId→Prop:=fun t=>t=177∨t=179∨1016≤t
structure HM(M:World→Nat→Prop)(O:Nat→Prop)(N0:Nat)(Ex:Nat→Prop)(w₀:World)(Bb:Nat)(p u v:Value)(n:Nat)(xs:List Value)(w:World):Prop where
 bd:w.heap[Bb]?=some (.cells #[p,u] 119)
 mb:M w Bb
 exb:Ex Bb∨w₀.heap.size≤Bb
 ro:lu M Ex w₀ 5 v n xs w
 size:N0≤w.heap.size
 old:Kept M O Ex w₀ w
section
variable {ι:Type}{R:ι→Wq}{D:ι→World→World→Array Event→Prop}{i:ι}{M:World→Nat→Prop}{O:Nat→Prop}{N0:Nat}{Ex:Nat→Prop}{w₀ w aB:World}{Bb:Nat}{p u v:Value}{n:Nat}{xs:Vq}
theorem fV{ad:Addr}(he:e.loc=.cell ad)(U:M w ad.block):uX (M w) e:=.inl ⟨ad,he,U⟩
theorem fp(E:Env eS N0 M O (R i) (D i))(U:N0≤w.heap.size)(h:∀e∈es,uX (M w) e):D i w w es:=E.jr U (Own.refl w) h
theorem uX.up(h:uX (M w) e)(U:∀b,M w b→M w' b):uX (M w') e:=h.imp (fun ⟨ad,h1,h2⟩=>⟨ad,h1,U _ h2⟩) (Or.imp (fun ⟨b,wr,h1,h2⟩=>⟨b,wr,h1,U _ h2⟩) id)
theorem vt(E:Env eS N0 M O (R i) (D i))(hs:N0≤w.heap.size)(o:Own eS M w w')(h:∀e∈es,uX (M w) e):D i w w' es:=E.jr hs o fun e U=>(h e U).up fun _ hb=>E.mine o hb
end
section
variable {P:Program}
theorem wW(a:Addr)(j:Nat):(a.add 1).add j=a.add (j+1):=by
 unfold Addr.add;by_cases U:j=0
 ·subst U; simp
 ·simp[U]; omega
theorem jW(w:World):∀(l:Bq) (a:Addr) (U:ByteArray) (es:Array Event),(∀j x,l[j]?=some x→w.cell? (a.add j)=some (.int .u8 x.toNat)) →
  ∀ev∈(loadBytes a U l.length).events P w es,ev∈es∨∃ad,ev.loc=.cell ad∧ad.block=a.block
 | [],a,U,es,_=>fun ev h=>.inl (by simpa[loadBytes] using h)
 | x::l,a,U,es,h=>fun ev a0=>by
  have h0:w.cell? a=some (.int .u8 x.toNat):=by have:=h 0 x rfl;simpa[Addr.add] using this
  have hx:((x.toNat:Int).toNat).toUInt8=x:=by simp
  simp only[List.length_cons,loadBytes,Sem.events_bind,run_load,h0,Result.evThen_ok] at a0;rcases jW w l (a.add 1) _ _ (fun j y hy=>by rw[wW]; exact h (j+1) y (by simpa using hy)) ev a0 with z|⟨ad,z1,z2⟩
  ·rcases events_load_at (P:=P) w a .plain es h0 ev z with y|⟨y,_⟩
   ·exact .inl y
   ·exact .inr ⟨a,y,rfl⟩
  ·exact .inr ⟨ad,z1,by rw[z2,addBlock]⟩
theorem jX(w:World)(pt it ty e:TypeId)(hp:P.underlying pt=some (.pointer e))(hc:P.cellsOf e=1)(g cells:Nat)(a4:w.shape? g=some (e,cells))(l:Bq)(h0:l≠[])(hn:l.length≤cells)(a5:l.length≤9223372036854775807)
 (U:∀j x,l[j]?=some x→w.cell? ((⟨g,0,none⟩:Addr).add j)=some (.int .u8 x.toNat)) :
  ∀ev∈(Builtin.unsafeString_ #[pt,it] ty #[.pointer (sq g),.int .i64 l.length]).events P w #[],∃ad,ev.loc=.cell ad∧ad.block=g:=by
 have hl:l.length≠0:=by simpa using h0
 have a3:=Lib.run_loadBytes (P:=P) w l ⟨g,0,none⟩ .empty U;have Ql:=Lib.liesAt_bytes (P:=P) hc (cells / P.cellsOf e) l.length (by rw[hc]; simpa using hn);have Uy:¬(9223372036854775807:Int)<(l.length:Int):=by omega
 obtain⟨t1,t2,t3,a0⟩:∃t1 t2 t3:String,Builtin.unsafeString_ #[pt,it] ty #[.pointer (sq g),.int .i64 l.length] =
   (do
    let n ← asInt (.int .i64 l.length)
    if n<0 then runtimePanic (.error t1)
    if n>IntKind.i64.max then unsupported (.unsafePointer t2)
    if n=0 then pure (.string .empty)
    else if ← variablesAt ⟨g,0,none⟩ (← elemOf pt) n.toNat then do
     let s ← loadBytes ⟨g,0,none⟩ .empty n.toNat
     freeze ⟨g,0,none⟩ n.toNat
     pure (.string s)
    else unsupported (.unsafePointer t3)):=⟨_,_,_,rfl⟩;rw[a0];have a2:IntKind.i64.max=9223372036854775807:=rfl;have Vz:¬(l.length:Int)<0:=by omega
 intro ev a1;simp[asInt,asIntOf,a2,Uy,Vz,hl,variablesAt,a4,elemOf,run_underlying hp,Ql,a3] at a1;rcases jW (P:=P) w l ⟨g,0,none⟩ .empty #[] U ev a1 with z|z
 ·simp at z
 ·exact z
theorem pJ(w:World)(h:k≠b):(w.freeze ⟨b,0,none⟩ n).heap[k]?=w.heap[k]?:=by
 unfold World.freeze;split
 ·rfl
 ·simp[Array.getElem?_modify,Ne.symm h]
theorem C9(w:World)(h:w.heap[b]?=some (.cells cs t fz)):∃U,(w.freeze ⟨b,0,none⟩ n).heap[b]?=some (.cells cs t U):=by
 unfold World.freeze;split
 ·exact⟨_,h⟩
 ·simp[Array.getElem?_modify,h]
theorem Own.freeze{M:World→Nat→Prop}(hb:w.heap[b]?=some (.cells cs t fz))(hm:M w b)(ht:¬KT t)(n:Nat):Own KT M w (w.freeze ⟨b,0,none⟩ n):=by
 have U:(w.freeze ⟨b,0,none⟩ n).tape=w.tape∧(w.freeze ⟨b,0,none⟩ n).os=w.os∧(w.freeze ⟨b,0,none⟩ n).output=w.output∧(w.freeze ⟨b,0,none⟩ n).heap.size=w.heap.size:=by unfold World.freeze;split<;>simp
 refine⟨U.1,U.2.1,U.2.2.1,by rw[U.2.2.2]; exact Nat.le_refl _,fun k _ hk=>pJ w (fun e=>hk (e▸hm)),fun k o' h hk=>?_⟩;by_cases e:k=b
 ·subst e;obtain⟨a0,h2⟩:=C9 w (n:=n) hb;rw[h2] at h;cases h;exact absurd hk ht
 ·exact pJ w e
end
theorem KZ(x:Int)(U:0≤x)(h1:x<256):bits .and .u8 x 63=x % 64:=by
 have h:∀n:_root_.Fin 256,bits .and .u8 (n.val:Int) 63=(n.val:Int) % 64:=by decide +kernel
 have:=h ⟨x.toNat,by omega⟩;simpa[Int.toNat_of_nonneg U] using this
theorem Rs(x:Int)(U:0≤x)(h1:x<32):bits .or .u8 192 x=192+x:=by
 have h:∀n:_root_.Fin 32,bits .or .u8 192 (n.val:Int)=192+(n.val:Int):=by decide +kernel
 have:=h ⟨x.toNat,by omega⟩;simpa[Int.toNat_of_nonneg U] using this
theorem Rr(x:Int)(U:0≤x)(h1:x<64):bits .or .u8 128 x=128+x:=by
 have h:∀n:_root_.Fin 64,bits .or .u8 128 (n.val:Int)=128+(n.val:Int):=by decide +kernel
 have:=h ⟨x.toNat,by omega⟩;simpa[Int.toNat_of_nonneg U] using this
theorem Rt(x:Int)(U:0≤x)(h1:x<16):bits .or .u8 224 x=224+x:=by
 have h:∀n:_root_.Fin 16,bits .or .u8 224 (n.val:Int)=224+(n.val:Int):=by decide +kernel
 have:=h ⟨x.toNat,by omega⟩;simpa[Int.toNat_of_nonneg U] using this
theorem Ru(x:Int)(U:0≤x)(h1:x<8):bits .or .u8 240 x=240+x:=by
 have h:∀n:_root_.Fin 8,bits .or .u8 240 (n.val:Int)=240+(n.val:Int):=by decide +kernel
 have:=h ⟨x.toNat,by omega⟩;simpa[Int.toNat_of_nonneg U] using this
theorem Sk(x:Int):bits .or .u8 128 (bits .and .u8 (IntKind.u8.wrap x) 63)=128+x % 64:=by
 have U:IntKind.u8.wrap x=x % 256:=by rw[IntKind.wrap_u8]
 rw[U,KZ _ (by omega) (by omega),Rr _ (by omega) (by omega)];omega
def Good (r:Int):Prop:=(0≤r∧r<55296)∨(57343<r∧r≤1114111)
section
variable {ι:Type}{R:ι→Wq}{D:ι→World→World→Array Event→Prop}{X:ι→Gq}{i:ι}{M:World→Nat→Prop}{O:Nat→Prop}{N0:Nat}{Ex:Nat→Prop}{w₀ w aB:World}{Bb:Nat}{p u v:Value}{n:Nat}{xs:Vq}
variable {r:Int}
theorem nB{R:ι→World→World→Prop}{D:ι→World→World→Array Event→Prop}{X:ι→Goroutine→World→Prop}{fn:FuncId}{Q:dK ι}{a:Act}{vs:ι}(C:aV P main R D X)(T:∀i,Terms (R i) (D i))
 {i:Nat}{o:Oper}{f:FuncId}{aJ:Func}{K1:Array Operand}{ats:Array TypeId}{e:Array Value→Sem Value}(ho:ops[i]?=some o)(hw:Region.wanted o (yielded ops a.tmps)=true)(eI:o.op=.call { callee:=.value (.func f),args:=K1,argTypes:=ats })
 (hf : P.funcs[f]? = some aJ)(jd : (aJ.name == "runtime.NumGoroutine") = false)(hb : aJ.body.isNone = true)(hn : Extern.findNext aJ = none)(he : Extern.find aJ = some e){args' : Array Value}(uj : K1.map a.eval = args')(dZ : ∀ w, (e args').run P w = .ok x w)(ju : ∀ w es, (e args').events P w es = es)
 (h:bU X fn ops rest vs Q (a.put o.dst x) w):bU X fn ops (i::rest) vs Q a w:=fun b k cs jA hk hc=>C.step rfl fun aB aF=>by subst uj;rw[stepG_entry ho hw hk eI hf jd hb hn he (dZ aB) (evs:=#[]) (by rw[ju]; rfl) (by simp)];exact⟨(T vs).idle _,C.rely (h b k cs jA hk hc) aF⟩
end
section
variable {N Pb:Nat}{Shun:Loc→Prop}{val:Value}{B:Nat}{Mine:Loc→Prop}{Ex:Nat→Prop}{w₀ w aB:World}{AnchW:Gq}{u v:Value}{tk rest:Iq}{en:Bool}{Rb:Nat}
def nN (Rb:Nat)(v:Value)(b:Nat):Prop:=b=Rb∨v.ownBlock=some b
structure HW(K:Cfg)(Ex:Nat→Prop)(w₀:World)(Rb:Nat)(u v:Value)(tk:List Int)(en:Bool)(w:World):Prop where
 rb:w.heap[Rb]?=some (.cells #[.chan (some K.A),.chan (some K.E),u,.bool en] 175)
 mr:cH K w Rb
 Oe:Ex Rb∨w₀.heap.size≤Rb
 ro:lu (cH K) Ex w₀ 21 v tk.length (V tk) w
 size:K.N0≤w.heap.size
 old:Kept (cH K) (gx K) Ex w₀ w
theorem HW.cells(h:HW K Ex w₀ Rb u v tk en w):w.cell? ⟨Rb,0,none⟩=some (.chan (some K.A))∧w.cell? ⟨Rb,1,none⟩=some (.chan (some K.E))∧w.cell? ⟨Rb,2,none⟩=some u∧w.cell? ⟨Rb,3,none⟩=some (.bool en)∧w.frozen? ⟨Rb,2,none⟩=false∧w.frozen? ⟨Rb,3,none⟩=false:=by simp[World.cell?,World.frozen?,h.rb]
theorem HW.slice(h:HW K Ex w₀ Rb u v tk en w):∃x c,v=.slice x tk.length c:=by
 rcases h.ro.row.2 with ⟨z,z'⟩|⟨g,cap,U,rfl,_⟩
 ·exact⟨_,_,by rw[z,z']⟩
 ·exact⟨_,_,rfl⟩
theorem HW.uF(E:Env KT K.N0 (cH K) (gx K) R D)(h:HW K Ex w₀ Rb u v tk en w)(r:R w aB):HW K Ex w₀ Rb u v tk en aB :=
 ⟨(E.keep r h.mr).trans h.rb,E.stay r h.mr,h.Oe,h.ro.rely E r,Nat.le_trans h.size (E.size r),h.old.rely E r⟩
theorem HW.kP(h:HW K Ex w₀ Rb u v tk en w):HW K (nN Rb v) w Rb u v tk en w:=⟨h.rb,h.mr,.inl (.inl rfl),⟨h.ro.row,fun k U=>⟨(h.ro.own k U).1,.inl (.inr U)⟩,h.ro.nil⟩,h.size,Kept.refl w⟩
theorem HW.AZ(h:HW (aC prog N Pb Shun val B Mine) Ex w₀ Rb u v tk en w)(o:Nat)(x:Value):Own eS (cH (aC prog N Pb Shun val B Mine)) w (w.setCell ⟨Rb,o,none⟩ x):=Own.setCell h.rb h.mr (by simp[eS])
theorem HW.Sc(F:Cfg.Fit (aC prog N Pb Shun val B Mine))(h:HW (aC prog N Pb Shun val B Mine) Ex w₀ Rb u v tk en w)(o:Nat)(x u':Value)(U:Bool)(he:(#[.chan (some (N+2)),.chan (some (N+4)),u,.bool en]:Aq).setIfInBounds o x=#[.chan (some (N+2)),.chan (some (N+4)),u',.bool U]):HW (aC prog N Pb Shun val B Mine) Ex w₀ Rb u' v tk U (w.setCell ⟨Rb,o,none⟩ x):=by
 have ow:=h.AZ o x;have E:=xl F;refine⟨(cZ h.rb _).trans (by rw[show Cfg.A (aC prog N Pb Shun val B Mine)=N+2 from rfl,show Cfg.E (aC prog N Pb Shun val B Mine)=N+4 from rfl,he]),E.mine ow h.mr,h.Oe,h.ro.same fun k hk=>⟨HC.gd w _ (h.ro.ne h.rb (by decide) hk),E.mine ow (h.ro.own k hk).1⟩,by simpa[World.setCell] using h.size,h.old.own E ow fun b hb hx=>HC.gd w _ ?_⟩;rintro rfl;rcases h.Oe with z|z
 ·exact hx z
 ·have:=E.lt hb; omega
structure HV(K:Cfg)(Ex:Nat→Prop)(w₀:World)(Rb:Nat)(u v:Value)(tk:List Int)(en:Bool)(news:List Value)(g:Nat)(w:World):Prop where
 hw:HW K Ex w₀ Rb u v tk en w
 src:EV (cH K) 21 news g w
theorem HW.built(F:Cfg.Fit (aC prog N Pb Shun val B Mine))(h:HW (aC prog N Pb Shun val B Mine) Ex w₀ Rb u v tk en w)(news:Vq):HV (aC prog N Pb Shun val B Mine) Ex w₀ Rb u v tk en news w.heap.size (w.alloc (.cells news.toArray 21)):=by have E:=xl F;have o:Own eS (cH (aC prog N Pb Shun val B Mine)) w (w.alloc (.cells news.toArray 21)):=Own.alloc (by simp[eS]);refine⟨⟨(Below.heap_alloc _ _ _ (E.lt h.mr)).trans h.rb,E.mine o h.mr,h.Oe,h.ro.same fun k hk=>⟨Below.heap_alloc _ _ _ (E.lt (h.ro.own k hk).1),E.mine o (h.ro.own k hk).1⟩,by simp[World.size_alloc]; have:=h.size; omega,h.old.own E o fun b hb _=>Below.heap_alloc _ _ _ (E.lt (h.old.mine b hb))⟩,heap_alloc_new w _,E.new h.size o (Nat.le_refl _) (by simp[World.size_alloc])⟩
theorem HV.uF(E:Env KT K.N0 (cH K) (gx K) R D)(h:HV K Ex w₀ Rb u v tk en news g w)(r:R w aB):HV K Ex w₀ Rb u v tk en news g aB:=⟨h.hw.uF E r,h.src.rely E r⟩
theorem E4(E:Env eS (N+9) (cH (aC prog N Pb Shun val B Mine)) (gx (aC prog N Pb Shun val B Mine)) R D){r:Int}(h:HV (aC prog N Pb Shun val B Mine) Ex w₀ Rb u v tk en (V [r]) g w)(hn:tk.length≤1000000)(ty:TypeId) :
  ∃U w',(Builtin.append_ #[173,173] ty #[v,.slice (sq g) 1 1]).run prog w=.ok U w'∧HW (aC prog N Pb Shun val B Mine) Ex w₀ Rb u U (tk++[r]) en w' ∧
   D w w' ((Builtin.append_ #[173,173] ty #[v,.slice (sq g) 1 1]).events prog w #[]) ∧
   ∀e∈(Builtin.append_ #[173,173] ty #[v,.slice (sq g) 1 1]).events prog w #[],∀m,e.loc=.mark m→m=.noRoom:=by
 obtain⟨U,w',hr,ho,hk,hO,hb,hD,hm⟩:=E3 (P:=prog) E h.hw.size (by simp[eS]) h.hw.old h.hw.ro h.src 173 ty (.int .i32 0) 4 underlying173 (by kernel_rfl) rfl (by simp[V,Value.oneCell']) (by simp[V]; unfold maxLen; omega) (by simp[V]; omega);refine⟨U,w',hr,⟨(hb Rb (E.lt h.hw.mr) fun e=>h.hw.ro.ne h.hw.rb (by decide) e rfl).trans h.hw.rb,E.mine hO h.hw.mr,h.hw.Oe,?_,Nat.le_trans h.hw.size hO.grow,hk⟩,hD,hm⟩;have e1:(tk++[r]).length=tk.length+(V [r]).length:=by simp[V]
 rw[e1,nW];exact ho
def En (rest:List Int)(en:Bool)(i:Ph):Prop:=(en=false∧(i=.front (V rest)∨i=.walk (V rest)))∨(en=true∧i=.over∧rest=[])
theorem En.early{i:Ph}(h:En rest en i):i.early:=by rcases h with ⟨_,rfl|rfl⟩|⟨_,rfl,_⟩<;>exact trivial
variable [Go.ConcR.Payload][Go.ConcX.Payload]
variable [Go.ConcX.Shy (Cfg.Wg (aC prog N Pb Shun val B Mine)) (Cfg.C (aC prog N Pb Shun val B Mine))]
theorem HW.rely{i:Ph}(E:Env eS (N+9) (cH (aC prog N Pb Shun val B Mine)) (gx (aC prog N Pb Shun val B Mine)) (mL (aC prog N Pb Shun val B Mine) i) (rz (aC prog N Pb Shun val B Mine) i))(h:HW (aC prog N Pb Shun val B Mine) Ex w₀ Rb u v tk en w)(r:mL (aC prog N Pb Shun val B Mine) i w aB):HW (aC prog N Pb Shun val B Mine) Ex w₀ Rb u v tk en aB:=HW.uF (K:=(aC prog N Pb Shun val B Mine)) E h r
theorem HV.rely{i:Ph}(E:Env eS (N+9) (cH (aC prog N Pb Shun val B Mine)) (gx (aC prog N Pb Shun val B Mine)) (mL (aC prog N Pb Shun val B Mine) i) (rz (aC prog N Pb Shun val B Mine) i))(h:HV (aC prog N Pb Shun val B Mine) Ex w₀ Rb u v tk en news g w)(r:mL (aC prog N Pb Shun val B Mine) i w aB):HV (aC prog N Pb Shun val B Mine) Ex w₀ Rb u v tk en news g aB:=HV.uF (K:=(aC prog N Pb Shun val B Mine)) E h r
theorem HW.Be{i:Ph}(F:Cfg.Fit (aC prog N Pb Shun val B Mine))(h:HW (aC prog N Pb Shun val B Mine) Ex w₀ Rb u v tk en w)(r:RM (aC prog N Pb Shun val B Mine) w aB):HW (aC prog N Pb Shun val B Mine) Ex w₀ Rb u v tk en aB:=HW.uF (K:=(aC prog N Pb Shun val B Mine)) (xl F) h r
theorem uE{i:Ph}(Fi:Cfg.Fit (aC prog N Pb Shun val B Mine))(hF:HW (aC prog N Pb Shun val B Mine) Ex w₀ Rb v v tk false w)(hi:i=.front (V rest)∨i=.walk (V rest))(hn:tk.length≤1000000) :
  ew prog (XM (aC prog N Pb Shun val B Mine) AnchW) 203 #[.pointer (sq Rb)] i w (fun i' _ w'=>(∃r l v',rest=r::l∧i'=.walk (V l)∧HW (aC prog N Pb Shun val B Mine) Ex w₀ Rb v' v' (tk++[r]) false w')∨(rest=[]∧i'=.over∧HW (aC prog N Pb Shun val B Mine) Ex w₀ Rb v v tk true w')):=by
 have C:aV prog true (mL (aC prog N Pb Shun val B Mine)) (rz (aC prog N Pb Shun val B Mine)) (XM (aC prog N Pb Shun val B Mine) AnchW):=XM.closed (K:=(aC prog N Pb Shun val B Mine));have T:=p7 (K:=(aC prog N Pb Shun val B Mine));have evp:∀(w:World) (es:Array Event) (a:Addr) (m:Mode) (x:Option Addr),(store a (.pointer x) m).events prog w es=storedEv prog w es a (.pointer x) m:=fun w es a m x=>events_store prog w es a _ m rfl;have evl:∀(w:World) (es:Array Event) (a:Addr) (m:Mode) (x:Option Addr) (l c:Nat),(store a (.slice x l c) m).events prog w es=storedEv prog w es a (.slice x l c) m:=fun w es a m x l c=>events_store prog w es a _ m rfl;have XY:∀(w:World) (es:Array Event) (a:Addr) (m:Mode) (x:Bool),(store a (.bool x) m).events prog w es=storedEv prog w es a (.bool x) m:=fun w es a m x=>events_store prog w es a _ m rfl;have E:Env eS (N+9) (cH (aC prog N Pb Shun val B Mine)) (gx (aC prog N Pb Shun val B Mine)) (mL (aC prog N Pb Shun val B Mine) i) (rz (aC prog N Pb Shun val B Mine) i):=xm (K:=(aC prog N Pb Shun val B Mine)) Fi (by rcases hi with rfl|rfl<;>exact trivial);have rU:∀(a:Act) (o:Oper) w,o.op=.select #[{ chan:=.tmp 6,send:=none,elem:=21 },{ chan:=.tmp 10,send:=none,elem:=160 }] true→a.eval (.tmp 6)=.chan (some (N+2))→a.eval (.tmp 10)=.chan (some (N+4))→(execOp a.eval o).run prog w=.ok (.comm (Cfg.cases (aC prog N Pb Shun val B Mine)) true .select) w∧(execOp a.eval o).events prog w #[]=#[]:=by
  intro a o w ho h7 h8;simp only[Act.eval,Array.getD_eq_getD_getElem?] at h7 h8;constructor
  ·unfold execOp;simp[ho,h7,h8,Cfg.cases,aC,rcase,Tryz.zeroValue21,Tryz.zeroValue160,go_sem]
  ·unfold execOp;simp[ho,h7,h8,Tryz.zeroValue21,Tryz.zeroValue160,go_sem]
 have a0:∀r,commResult (Cfg.cases (aC prog N Pb Shun val B Mine)) .select 0 (.int .i32 r) true=.tuple #[.int .i64 0,.bool true,.int .i32 r,.agg #[]]:=fun r=>by simp[commResult,Cfg.cases,aC,rcase,goInt]
 have a1:commResult (Cfg.cases (aC prog N Pb Shun val B Mine)) .select 1 (Cfg.zE (aC prog N Pb Shun val B Mine)) false=.tuple #[.int .i64 1,.bool false,.int .i32 0,.agg #[]]:=by simp[commResult,Cfg.cases,aC,rcase,goInt]
 refine gn func203 (by rfl) rfl ?_;simp only[ntmps203,List.size_toArray,List.length_cons,List.length_nil,Nat.reduceAdd,Nat.reduceSub,Array.replicate_succ,Array.replicate_zero,List.push_toArray,List.append_toArray,List.nil_append,List.cons_append];iterate 2 refine bS C T ?_
 refine aP C T ?_;simp only[ia,Nat.reduceAdd];refine aD C rfl (by rfl) fun _ hR Kx U=>?_;replace hF:=HW.rely E hF hR;clear hR;go_simp;try (unfold stored; go_simp)
 refine U _ _ ⟨?_,?_⟩
 ·co_quiet (T _)
 iterate 2
  clear U Kx
  try walk_nrm
  refine aD C rfl (by rfl) fun _ hR Kx U=>?_
  replace hF:=HW.rely E hF hR
  clear hR
  go_simp
  try (unfold stored; go_simp)
  refine U _ _ ⟨?_,?_⟩
  ·co_still (T _)
 clear U Kx;try walk_nrm
 refine aD C rfl (by rfl) fun _ hR Kx U=>?_;replace hF:=HW.rely E hF hR;clear hR;have hc:=hF.cells;go_simp;try (unfold stored; go_simp)
 refine U _ _ ⟨?_,?_⟩
 ·refine fp E hF.size ?_;co_evs (exact fV rfl hF.mr)
 clear U Kx;try walk_nrm
 clear hc;refine aS C T ?_;show fx _ _ _ _ _ _ _;refine aP C T ?_;simp only[ia,Nat.reduceAdd];refine aD C rfl (by rfl) fun _ hR Kx U=>?_;replace hF:=HW.rely E hF hR;clear hR;go_simp;try (unfold stored; go_simp)
 refine U _ _ ⟨?_,?_⟩
 ·co_quiet (T _)
 iterate 2
  clear U Kx
  try walk_nrm
  refine aD C rfl (by rfl) fun _ hR Kx U=>?_
  replace hF:=HW.rely E hF hR
  clear hR
  go_simp
  try (unfold stored; go_simp)
  refine U _ _ ⟨?_,?_⟩
  ·co_still (T _)
 clear U Kx;try walk_nrm
 refine aD C rfl (by rfl) fun _ hR Kx U=>?_;replace hF:=HW.rely E hF hR;clear hR;have hc:=hF.cells;go_simp;try (unfold stored; go_simp)
 refine U _ _ ⟨?_,?_⟩
 ·refine fp E hF.size ?_;co_evs (exact fV rfl hF.mr)
 clear U Kx;try walk_nrm
 clear hc;refine aS C T ?_;show fx _ _ _ _ _ _ _;simp only[show Cfg.A (aC prog N Pb Shun val B Mine)=N+2 from rfl,show Cfg.E (aC prog N Pb Shun val B Mine)=N+4 from rfl];refine bS C T ?_;refine aP C T ?_;simp only[ia,Nat.reduceAdd];by_cases hl:rest=[]
 ·obtain rfl:rest=[]:=hl;refine GH hi rfl (by rfl) (fun w=>(rU _ _ w rfl rfl rfl).1) (fun w=>(rU _ _ w rfl rfl rfl).2) fun aB aF hs=>?_;replace hF:=HW.Be (i:=.over) Fi hF aF;clear hi E;have E:Env eS (N+9) (cH (aC prog N Pb Shun val B Mine)) (gx (aC prog N Pb Shun val B Mine)) (mL (aC prog N Pb Shun val B Mine) .over) (rz (aC prog N Pb Shun val B Mine) .over):=xm (K:=(aC prog N Pb Shun val B Mine)) Fi trivial;simp only[a1];try walk_nrm
  refine aD C rfl (by rfl) fun _ hR Kx U=>?_;replace hF:=HW.rely E hF hR;clear hR;go_simp;try (unfold stored; go_simp)
  refine U _ _ ⟨?_,?_⟩
  ·co_still (T _)
  iterate 2
   clear U Kx
   try walk_nrm
   refine aD C rfl (by rfl) fun _ hR Kx U=>?_
   replace hF:=HW.rely E hF hR
   clear hR
   go_simp
   try (unfold stored; go_simp)
   refine U _ _ ⟨?_,?_⟩
   ·co_quiet (T _)
  clear U Kx;try walk_nrm
  refine aS C T ?_;show fx _ _ _ _ _ _ _;refine gv C T ?_;refine eG C T (t:=false) rfl ?_;simp only[if_true,if_false,reduceIte,Bool.false_eq_true];refine eG C T (t:=true) rfl ?_;simp only[if_true,if_false,reduceIte,Bool.false_eq_true];refine aP C T ?_;simp only[ia,Nat.reduceAdd];refine aD C rfl (by rfl) fun _ hR Kx U=>?_;replace hF:=HW.rely E hF hR;clear hR;go_simp;try (unfold stored; go_simp)
  refine U _ _ ⟨?_,?_⟩
  ·co_quiet (T _)
  iterate 2
   clear U Kx
   try walk_nrm
   refine aD C rfl (by rfl) fun _ hR Kx U=>?_
   replace hF:=HW.rely E hF hR
   clear hR
   go_simp
   try (unfold stored; go_simp)
   refine U _ _ ⟨?_,?_⟩
   ·co_still (T _)
  clear U Kx;try walk_nrm
  refine aD C rfl (by rfl) fun _ hR Kx U=>?_;replace hF:=HW.rely E hF hR;clear hR;have hc:=hF.cells;go_simp;try (unfold stored; go_simp)
  refine U _ _ ⟨?_,?_⟩
  ·exact vt E hF.size (hF.AZ _ _) (by co_evs (exact fV rfl hF.mr))
  clear U Kx;try walk_nrm
  clear hc;replace hF:=hF.Sc Fi 3 (.bool true) v true rfl;refine aS C T ?_;exact⟨.inl rfl,rfl,_,resultsC_none (by rfl) _,.inr ⟨by first|rfl|trivial,rfl,hF⟩⟩
 ·obtain⟨r,l2,rfl⟩:∃r l2,rest=r::l2:=by cases rest with|nil=>exact absurd rfl hl|cons r t=>exact⟨r,t,rfl⟩
  refine yE (v:=.int .i32 r) (vs:=V l2) hi rfl (by rfl) (fun w=>(rU _ _ w rfl rfl rfl).1) (fun w=>(rU _ _ w rfl rfl rfl).2) fun aB aF hs=>?_;replace hF:=HW.Be (i:=.over) Fi hF aF;clear hi E hl;have E:Env eS (N+9) (cH (aC prog N Pb Shun val B Mine)) (gx (aC prog N Pb Shun val B Mine)) (mL (aC prog N Pb Shun val B Mine) (.walk (V l2))) (rz (aC prog N Pb Shun val B Mine) (.walk (V l2))):=xm (K:=(aC prog N Pb Shun val B Mine)) Fi trivial;simp only[a0];try walk_nrm
  refine aD C rfl (by rfl) fun _ hR Kx U=>?_;replace hF:=HW.rely E hF hR;clear hR;go_simp;try (unfold stored; go_simp)
  refine U _ _ ⟨?_,?_⟩
  ·co_still (T _)
  iterate 2
   clear U Kx
   try walk_nrm
   refine aD C rfl (by rfl) fun _ hR Kx U=>?_
   replace hF:=HW.rely E hF hR
   clear hR
   go_simp
   try (unfold stored; go_simp)
   refine U _ _ ⟨?_,?_⟩
   ·co_quiet (T _)
  clear U Kx;try walk_nrm
  refine aS C T ?_;show fx _ _ _ _ _ _ _;refine gv C T ?_;refine eG C T (t:=true) rfl ?_;simp only[if_true,if_false,reduceIte,Bool.false_eq_true];refine bS C T ?_;refine aP C T ?_;simp only[ia,Nat.reduceAdd];refine aD C rfl (by rfl) fun _ hR Kx U=>?_;replace hF:=HW.rely E hF hR;clear hR;go_simp;try (unfold stored; go_simp)
  refine U _ _ ⟨?_,?_⟩
  ·co_still (T _)
  clear U Kx;try walk_nrm
  refine aD C rfl (by rfl) fun _ hR Kx U=>?_;replace hF:=HW.rely E hF hR;clear hR;go_simp;try (unfold stored; go_simp)
  refine U _ _ ⟨?_,?_⟩
  ·co_quiet (T _)
  clear U Kx;try walk_nrm
  refine aS C T ?_;show fx _ _ _ _ _ _ _;refine aP C T ?_;simp only[ia,Nat.reduceAdd];iterate 2
   refine aD C rfl (by rfl) fun _ hR Kx U=>?_
   replace hF:=HW.rely E hF hR
   clear hR
   go_simp
   try (unfold stored; go_simp)
   refine U _ _ ⟨?_,?_⟩
   ·co_quiet (T _)
   clear U Kx;try walk_nrm
  iterate 2
   refine aD C rfl (by rfl) fun _ hR Kx U=>?_
   replace hF:=HW.rely E hF hR
   clear hR
   go_simp
   try (unfold stored; go_simp)
   refine U _ _ ⟨?_,?_⟩
   ·co_still (T _)
   clear U Kx;try walk_nrm
  refine aD C rfl (by rfl) fun _ hR Kx U=>?_;replace hF:=HW.rely E hF hR;clear hR;have hc:=hF.cells;go_simp;try (unfold stored; go_simp)
  refine U _ _ ⟨?_,?_⟩
  ·refine fp E hF.size ?_;co_evs (exact fV rfl hF.mr)
  clear U Kx;try walk_nrm
  clear hc;refine aD C rfl (by rfl) fun _ hR Kx U=>?_;replace hF:=HW.rely E hF hR;clear hR;go_simp;try (unfold stored; go_simp)
  refine U _ _ ⟨?_,?_⟩
  ·co_quiet (T _)
  clear U Kx;try walk_nrm
  refine aD C rfl (by rfl) fun _ hR Kx U=>?_;replace hF:=HW.rely E hF hR;clear hR;go_simp;try (unfold stored; go_simp)
  refine U _ _ ⟨?_,?_⟩
  ·refine vt E hF.size (Own.alloc (by simp[eS])) ?_;co_evs (skip)
  clear U Kx;try walk_nrm
  replace hF:=hF.built Fi (V [r]);refine aD C rfl (by rfl) fun _ hR Kx U=>?_;replace hF:=HV.rely E hF hR;clear hR;obtain⟨v₂,dI,dZ,ui,hD,vG⟩:=E4 E hF hn 173;refine uponK_append (Operand.tmp 20) (Operand.tmp 22) 173 rfl rfl rfl dZ (U _ _ ⟨?_,?_⟩)
  ·have a2:=seen_eq (P:=prog) (fn:=203) (by kernel_rfl) (fun e he f h=>by cases vG e he _ h);unfold listed;rw[events_append_op (Operand.tmp 20) (Operand.tmp 22) 173 rfl rfl rfl];exact(congrArg (rz (aC prog N Pb Shun val B Mine) _ _ _) a2).mpr hD
  clear U Kx dZ hD vG;replace hF:=ui;try walk_nrm
  obtain⟨x1,c1,rfl⟩:=hF.slice;iterate 2
   refine aD C rfl (by rfl) fun _ hR Kx U=>?_
   replace hF:=HW.rely E hF hR
   clear hR
   go_simp
   try (unfold stored; go_simp)
   refine U _ _ ⟨?_,?_⟩
   ·co_still (T _)
   clear U Kx;try walk_nrm
  refine aD C rfl (by rfl) fun _ hR Kx U=>?_;replace hF:=HW.rely E hF hR;clear hR;have hc:=hF.cells;go_simp;try (unfold stored; go_simp)
  refine U _ _ ⟨?_,?_⟩
  ·exact vt E hF.size (hF.AZ _ _) (by co_evs (exact fV rfl hF.mr))
  clear U Kx;try walk_nrm
  clear hc;replace hF:=hF.Sc Fi 2 (.slice x1 (tk++[r]).length c1) (.slice x1 (tk++[r]).length c1) false rfl;rw[show(tk++[r]).length=tk.length+1 by simp] at hF;refine aS C T ?_;exact⟨.inl rfl,rfl,_,resultsC_none (by rfl) _,.inl ⟨r,l2,_,by first|rfl|trivial,rfl,hF⟩⟩
end
section
variable {N Pb:Nat}{Shun:Loc→Prop}{val:Value}{B:Nat}{Mine:Loc→Prop}{Ex:Nat→Prop}{w₀ w aB:World}{AnchW:Gq}{u v:Value}{tk rest:Iq}{en:Bool}{Rb:Nat}
variable [Go.ConcR.Payload][Go.ConcX.Payload]
variable [Go.ConcX.Shy (Cfg.Wg (aC prog N Pb Shun val B Mine)) (Cfg.C (aC prog N Pb Shun val B Mine))]
def EB (rest:List Int)(en:Bool):Nat:=rest.length+if en then 0 else 1
theorem IY{i:Ph}(Fi:Cfg.Fit (aC prog N Pb Shun val B Mine))(all:Iq)(a0:tk++rest=all)(hn:all.length≤1000000)(hF:HW (aC prog N Pb Shun val B Mine) Ex w₀ Rb v v tk en w)(a1:En rest en i) :
  ew prog (XM (aC prog N Pb Shun val B Mine) AnchW) 114 #[.pointer (sq Rb)] i w (fun i' _ w'=>i'=.over∧∃v',HW (aC prog N Pb Shun val B Mine) Ex w₀ Rb v' v' all true w'):=by
 have C:aV prog true (mL (aC prog N Pb Shun val B Mine)) (rz (aC prog N Pb Shun val B Mine)) (XM (aC prog N Pb Shun val B Mine) AnchW):=XM.closed (K:=(aC prog N Pb Shun val B Mine));have T:=p7 (K:=(aC prog N Pb Shun val B Mine));refine gn func114 (by rfl) rfl ?_;simp only[ntmps114,List.size_toArray,List.length_cons,List.length_nil,Nat.reduceAdd,Nat.reduceSub,Array.replicate_succ,Array.replicate_zero,List.push_toArray,List.append_toArray,List.nil_append,List.cons_append];refine gv C T ?_;refine y3 C T (fun m i a w=>∃v tk rest en,m=EB rest en∧En rest en i∧HW (aC prog N Pb Shun val B Mine) Ex w₀ Rb v v tk en w∧tk++rest=all∧∃x2 x3 x4 x5 x6 x7 x8,a=⟨#[.pointer (sq Rb),undef,x2,x3,x4,x5,x6,x7,x8],[]⟩) (EB rest en) ⟨v,tk,rest,en,rfl,a1,hF,a0,_,_,_,_,_,_,_,rfl⟩ ?_;clear hF a1 a0;rintro m i a w ⟨v,tk,rest,en,rfl,a1,hF,a0,x2,x3,x4,x5,x6,x7,x8,rfl⟩;have E:Env eS (N+9) (cH (aC prog N Pb Shun val B Mine)) (gx (aC prog N Pb Shun val B Mine)) (mL (aC prog N Pb Shun val B Mine) _) (rz (aC prog N Pb Shun val B Mine) _):=xm (K:=(aC prog N Pb Shun val B Mine)) Fi a1.early;have Au:tk.length≤1000000:=by rw[← a0] at hn; simp at hn; omega
 rcases a1 with ⟨rfl,hi⟩|⟨rfl,rfl,rfl⟩
 ·refine bS C T ?_;refine bS C T ?_;refine aP C T ?_;simp only[ia,Nat.reduceAdd];refine aD C rfl (by rfl) fun _ hR Kx U=>?_;replace hF:=HW.rely E hF hR;clear hR;go_simp;try (unfold stored; go_simp)
  refine U _ _ ⟨?_,?_⟩
  ·co_quiet (T _)
  iterate 2
   clear U Kx
   try walk_nrm
   refine aD C rfl (by rfl) fun _ hR Kx U=>?_
   replace hF:=HW.rely E hF hR
   clear hR
   go_simp
   try (unfold stored; go_simp)
   refine U _ _ ⟨?_,?_⟩
   ·co_still (T _)
  clear U Kx;try walk_nrm
  refine aD C rfl (by rfl) fun _ hR Kx U=>?_;replace hF:=HW.rely E hF hR;clear hR;have hc:=hF.cells;go_simp;try (unfold stored; go_simp)
  refine U _ _ ⟨?_,?_⟩
  ·refine fp E hF.size ?_;co_evs (exact fV rfl hF.mr)
  clear U Kx;try walk_nrm
  clear hc;refine aD C rfl (by rfl) fun _ hR Kx U=>?_;replace hF:=HW.rely E hF hR;clear hR;go_simp;try (unfold stored; go_simp)
  refine U _ _ ⟨?_,?_⟩
  ·co_quiet (T _)
  clear U Kx;try walk_nrm
  refine aS C T ?_;show fx _ _ _ _ _ _ _;refine eG C T (t:=true) rfl ?_;simp only[if_true,if_false,reduceIte,Bool.false_eq_true];refine mc C T ?_;show fx _ _ _ _ _ _ _;refine gv C T ?_;refine aP C T ?_;simp only[ia,Nat.reduceAdd];refine aD C rfl (by rfl) fun _ hR Kx U=>?_;replace hF:=HW.rely E hF hR;clear hR;go_simp;try (unfold stored; go_simp)
  refine U _ _ ⟨?_,?_⟩
  ·co_quiet (T _)
  clear U Kx;try walk_nrm
  refine jl C T rfl (by rfl) rfl rfl (by simp[Act.eval]) rfl (uE Fi hF hi Au) ?_;rintro _ _ _ (⟨r,l,v2,rfl,rfl,hF⟩|⟨rfl,rfl,hF⟩)
  ·refine aS C T ?_;exact⟨EB l false,by simp[EB],v2,_,l,false,rfl,.inl ⟨rfl,.inr rfl⟩,hF,by rw[← a0]; simp,_,_,_,_,_,_,_,rfl⟩
  ·refine aS C T ?_;exact⟨EB [] true,by simp[EB],v,_,[],true,rfl,.inr ⟨rfl,rfl,rfl⟩,hF,a0,_,_,_,_,_,_,_,rfl⟩
 ·refine bS C T ?_;refine bS C T ?_;refine aP C T ?_;simp only[ia,Nat.reduceAdd];refine aD C rfl (by rfl) fun _ hR Kx U=>?_;replace hF:=HW.rely E hF hR;clear hR;go_simp;try (unfold stored; go_simp)
  refine U _ _ ⟨?_,?_⟩
  ·co_quiet (T _)
  iterate 2
   clear U Kx
   try walk_nrm
   refine aD C rfl (by rfl) fun _ hR Kx U=>?_
   replace hF:=HW.rely E hF hR
   clear hR
   go_simp
   try (unfold stored; go_simp)
   refine U _ _ ⟨?_,?_⟩
   ·co_still (T _)
  clear U Kx;try walk_nrm
  refine aD C rfl (by rfl) fun _ hR Kx U=>?_;replace hF:=HW.rely E hF hR;clear hR;have hc:=hF.cells;go_simp;try (unfold stored; go_simp)
  refine U _ _ ⟨?_,?_⟩
  ·refine fp E hF.size ?_;co_evs (exact fV rfl hF.mr)
  clear U Kx;try walk_nrm
  clear hc;refine aD C rfl (by rfl) fun _ hR Kx U=>?_;replace hF:=HW.rely E hF hR;clear hR;go_simp;try (unfold stored; go_simp)
  refine U _ _ ⟨?_,?_⟩
  ·co_quiet (T _)
  clear U Kx;try walk_nrm
  refine aS C T ?_;show fx _ _ _ _ _ _ _;refine eG C T (t:=false) rfl ?_;simp only[if_true,if_false,reduceIte,Bool.false_eq_true];refine oY C T ?_;simp only[je,uO,if_true];rw[List.append_nil] at a0;subst a0;refine⟨.inl ?_,?_,_,resultsC_none (by rfl) _,?_,_,hF⟩<;>first|rfl|trivial
theorem T9{i:Ph}(Fi:Cfg.Fit (aC prog N Pb Shun val B Mine))(all:Iq)(place:Nat)(a0:tk++rest=all)(hn:all.length≤1000000)(hF:HW (aC prog N Pb Shun val B Mine) Ex w₀ Rb v v tk en w)(a1:En rest en i) :
  ew prog (XM (aC prog N Pb Shun val B Mine) AnchW) 146 #[.pointer (sq Rb),.int .i64 (place:Int)] i w (fun i' x w'=>x=.int .i32 (all[place]?.getD (-1))∧∃v' a5 a2 a4,a5++a2=all∧En a2 a4 i'∧HW (aC prog N Pb Shun val B Mine) Ex w₀ Rb v' v' a5 a4 w'):=by
 have C:aV prog true (mL (aC prog N Pb Shun val B Mine)) (rz (aC prog N Pb Shun val B Mine)) (XM (aC prog N Pb Shun val B Mine) AnchW):=XM.closed (K:=(aC prog N Pb Shun val B Mine));have T:=p7 (K:=(aC prog N Pb Shun val B Mine));have lns:∀x n c w es,(Builtin.len_ #[173] 3 #[.slice x n c]).events prog w es=es:=fun x n c w es=>by simp[Builtin.len_,go_sem]
 have E:Env eS (N+9) (cH (aC prog N Pb Shun val B Mine)) (gx (aC prog N Pb Shun val B Mine)) (mL (aC prog N Pb Shun val B Mine) i) (rz (aC prog N Pb Shun val B Mine) i):=xm (K:=(aC prog N Pb Shun val B Mine)) Fi a1.early;refine gn func146 (by rfl) rfl ?_;simp only[ntmps146,List.size_toArray,List.length_cons,List.length_nil,Nat.reduceAdd,Nat.reduceSub,Array.replicate_succ,Array.replicate_zero,List.push_toArray,List.append_toArray,List.nil_append,List.cons_append];refine bS C T ?_;refine aP C T ?_;simp only[ia,Nat.reduceAdd];refine aD C rfl (by rfl) fun _ hR Kx U=>?_;replace hF:=HW.rely E hF hR;clear hR;go_simp;try (unfold stored; go_simp)
 refine U _ _ ⟨?_,?_⟩
 ·co_quiet (T _)
 clear U Kx;try walk_nrm
 refine aS C T ?_;show fx _ _ _ _ _ _ _;refine bS C T ?_;refine gv C T ?_;clear E;refine y3 C T (fun m i a w=>∃v tk rest en,m=EB rest en∧En rest en i∧HW (aC prog N Pb Shun val B Mine) Ex w₀ Rb v v tk en w∧tk++rest=all∧∃x5 x6 x7 x8 x9 Y8 Tu Y9 Za Zb Zc Su Sv Sw Sx Sy,a=⟨#[.pointer (sq Rb),.int .i64 (place:Int),undef,undef,.int .i32 0,x5,x6,x7,x8,x9,Y8,Tu,Y9,Za,Zb,Zc,Su,Sv,Sw,Sx,Sy,undef,undef,undef,undef,undef,undef,undef,undef,undef,undef,undef,undef,undef,undef],[]⟩) (EB rest en) ⟨v,tk,rest,en,rfl,a1,hF,a0,_,_,_,_,_,_,_,_,_,_,_,_,_,_,_,_,rfl⟩ ?_;clear hF a1 a0;rintro m i a w ⟨v,tk,rest,en,rfl,a1,hF,a0,x5,x6,x7,x8,x9,Y8,Tu,Y9,Za,Zb,Zc,Su,Sv,Sw,Sx,Sy,rfl⟩;have E:Env eS (N+9) (cH (aC prog N Pb Shun val B Mine)) (gx (aC prog N Pb Shun val B Mine)) (mL (aC prog N Pb Shun val B Mine) _) (rz (aC prog N Pb Shun val B Mine) _):=xm (K:=(aC prog N Pb Shun val B Mine)) Fi a1.early;have Au:tk.length≤1000000:=by rw[← a0] at hn; simp at hn; omega
 obtain⟨x1,c1,rfl⟩:=hF.slice;by_cases MI:place<tk.length
 ·have hb:decide ((tk.length:Int)≤(place:Int))=false:=decide_eq_false (by omega);have iN:decide (tk.length≤place)=false:=decide_eq_false (by omega);iterate 2 refine bS C T ?_
  refine aP C T ?_;simp only[ia,Nat.reduceAdd];iterate 2
   refine aD C rfl (by rfl) fun _ hR Kx U=>?_
   replace hF:=HW.rely E hF hR
   clear hR
   go_simp
   try (unfold stored; go_simp)
   refine U _ _ ⟨?_,?_⟩
   ·co_quiet (T _)
   clear U Kx;try walk_nrm
  iterate 2
   refine aD C rfl (by rfl) fun _ hR Kx U=>?_
   replace hF:=HW.rely E hF hR
   clear hR
   go_simp
   try (unfold stored; go_simp)
   refine U _ _ ⟨?_,?_⟩
   ·co_still (T _)
   clear U Kx;try walk_nrm
  refine aD C rfl (by rfl) fun _ hR Kx U=>?_;replace hF:=HW.rely E hF hR;clear hR;have hc:=hF.cells;go_simp;try (unfold stored; go_simp)
  refine U _ _ ⟨?_,?_⟩
  ·refine fp E hF.size ?_;co_evs (exact fV rfl hF.mr)
  clear U Kx;try walk_nrm
  clear hc;refine aD C rfl (by rfl) fun _ hR Kx U=>?_;replace hF:=HW.rely E hF hR;clear hR;go_simp;try (unfold stored; go_simp)
  refine U _ _ ⟨?_,?_⟩
  ·co_still (T _)
  clear U Kx;try walk_nrm
  refine aD C rfl (by rfl) fun _ hR Kx U=>?_;replace hF:=HW.rely E hF hR;clear hR;go_simp;try (unfold stored; go_simp)
  refine U _ _ ⟨?_,?_⟩
  ·co_quiet (T _)
  clear U Kx;try walk_nrm
  try simp only[hb,iN]
  refine aD C rfl (by rfl) fun _ hR Kx U=>?_;replace hF:=HW.rely E hF hR;clear hR;go_simp;try (unfold stored; go_simp)
  refine U _ _ ⟨?_,?_⟩
  ·co_quiet (T _)
  clear U Kx;iterate 5
   try walk_nrm
   refine gg C T rfl (by rfl) ?_
  try walk_nrm
  refine aD C rfl (by rfl) fun _ hR Kx U=>?_;replace hF:=HW.rely E hF hR;clear hR;go_simp;try (unfold stored; go_simp)
  refine U _ _ ⟨?_,?_⟩
  ·co_quiet (T _)
  clear U Kx;try walk_nrm
  refine aS C T ?_;show fx _ _ _ _ _ _ _;refine eG C T (t:=false) rfl ?_;simp only[if_true,if_false,reduceIte,Bool.false_eq_true];refine oY C T ?_;simp only[je,uO,if_true];show fx _ _ _ _ _ _ _;iterate 2 refine bS C T ?_
  refine aP C T ?_;simp only[ia,Nat.reduceAdd];iterate 2
   refine aD C rfl (by rfl) fun _ hR Kx U=>?_
   replace hF:=HW.rely E hF hR
   clear hR
   go_simp
   try (unfold stored; go_simp)
   refine U _ _ ⟨?_,?_⟩
   ·co_quiet (T _)
   clear U Kx;try walk_nrm
  iterate 2
   refine aD C rfl (by rfl) fun _ hR Kx U=>?_
   replace hF:=HW.rely E hF hR
   clear hR
   go_simp
   try (unfold stored; go_simp)
   refine U _ _ ⟨?_,?_⟩
   ·co_still (T _)
   clear U Kx;try walk_nrm
  refine aD C rfl (by rfl) fun _ hR Kx U=>?_;replace hF:=HW.rely E hF hR;clear hR;have hc:=hF.cells;go_simp;try (unfold stored; go_simp)
  refine U _ _ ⟨?_,?_⟩
  ·refine fp E hF.size ?_;co_evs (exact fV rfl hF.mr)
  clear U Kx;try walk_nrm
  clear hc;refine aD C rfl (by rfl) fun _ hR Kx U=>?_;replace hF:=HW.rely E hF hR;clear hR;go_simp;try (unfold stored; go_simp)
  refine U _ _ ⟨?_,?_⟩
  ·co_still (T _)
  clear U Kx;try walk_nrm
  refine aD C rfl (by rfl) fun _ hR Kx U=>?_;replace hF:=HW.rely E hF hR;clear hR;go_simp;try (unfold stored; go_simp)
  refine U _ _ ⟨?_,?_⟩
  ·co_quiet (T _)
  clear U Kx;try walk_nrm
  refine aS C T ?_;show fx _ _ _ _ _ _ _;try simp only[hb,iN]
  refine eG C T (t:=false) rfl ?_;simp only[if_true,if_false,reduceIte,Bool.false_eq_true];refine mc C T ?_;show fx _ _ _ _ _ _ _;refine bS C T ?_;obtain⟨g,rfl⟩:∃g,x1=some ⟨g,0,none⟩:=by
   rcases hF.ro.row.2 with ⟨_,z⟩|⟨g,cap,a6,z,_⟩
   ·omega
   ·cases z; exact⟨g,rfl⟩
  have a3:∀w,HW (aC prog N Pb Shun val B Mine) Ex w₀ Rb (.slice (sq g) tk.length c1) (.slice (sq g) tk.length c1) tk en w→w.cell? ⟨g,place,none⟩=some (.int .i32 (all[place]?.getD (-1))):=fun w h=>(by rw[show(⟨g,place,none⟩:Addr)=(⟨g,0,none⟩:Addr).add place by unfold Addr.add; split<;>simp_all]; exact h.ro.row.cells (g:=g) rfl place _ (by rw[← a0,List.getElem?_append_left MI]; simp[V,List.getElem?_map,List.getElem?_eq_getElem MI]));refine aP C T ?_;simp only[ia,Nat.reduceAdd];refine aD C rfl (by rfl) fun _ hR Kx U=>?_;replace hF:=HW.rely E hF hR;clear hR;go_simp;try (unfold stored; go_simp)
  refine U _ _ ⟨?_,?_⟩
  ·co_quiet (T _)
  iterate 2
   clear U Kx
   try walk_nrm
   refine aD C rfl (by rfl) fun _ hR Kx U=>?_
   replace hF:=HW.rely E hF hR
   clear hR
   go_simp
   try (unfold stored; go_simp)
   refine U _ _ ⟨?_,?_⟩
   ·co_still (T _)
  clear U Kx;try walk_nrm
  refine aD C rfl (by rfl) fun _ hR Kx U=>?_;replace hF:=HW.rely E hF hR;clear hR;have hc:=hF.cells;go_simp;try (unfold stored; go_simp)
  refine U _ _ ⟨?_,?_⟩
  ·refine fp E hF.size ?_;co_evs (exact fV rfl hF.mr)
  clear U Kx;try walk_nrm
  clear hc;refine aD C rfl (by rfl) fun _ hR Kx U=>?_;replace hF:=HW.rely E hF hR;clear hR;go_simp;try (unfold stored; go_simp)
  refine U _ _ ⟨?_,?_⟩
  ·co_quiet (T _)
  clear U Kx;try walk_nrm
  refine aD C rfl (by rfl) fun _ hR Kx U=>?_;replace hF:=HW.rely E hF hR;clear hR;go_simp;try (unfold stored; go_simp)
  refine U _ _ ⟨?_,?_⟩
  ·co_still (T _)
  clear U Kx;try walk_nrm
  refine aD C rfl (by rfl) fun _ hR Kx U=>?_;replace hF:=HW.rely E hF hR;clear hR;have hc:=a3 _ hF;go_simp;try (unfold stored; go_simp)
  refine U _ _ ⟨?_,?_⟩
  ·refine fp E hF.size ?_;co_evs (exact fV rfl (hF.ro.own _ rfl).1)
  clear U Kx;try walk_nrm
  clear hc;refine aD C rfl (by rfl) fun _ hR Kx U=>?_;replace hF:=HW.rely E hF hR;clear hR;go_simp;try (unfold stored; go_simp)
  refine U _ _ ⟨?_,?_⟩
  ·co_quiet (T _)
  clear U Kx;try walk_nrm
  refine aS C T ?_;show fx _ _ _ _ _ _ _;refine oZ C T ?_;exact⟨.inr rfl,rfl,_,resultsC_tmp (by rfl) _,rfl,_,_,_,_,a0,a1,hF⟩
 ·have hb:decide ((tk.length:Int)≤(place:Int))=true:=decide_eq_true (by omega);have iN:decide (tk.length≤place)=true:=decide_eq_true (by omega);rcases a1 with ⟨rfl,hi⟩|⟨rfl,rfl,rfl⟩
  ·refine bS C T ?_;refine bS C T ?_;refine aP C T ?_;simp only[ia,Nat.reduceAdd];iterate 2
    refine aD C rfl (by rfl) fun _ hR Kx U=>?_
    replace hF:=HW.rely E hF hR
    clear hR
    go_simp
    try (unfold stored; go_simp)
    refine U _ _ ⟨?_,?_⟩
    ·co_quiet (T _)
    clear U Kx;try walk_nrm
   iterate 2
    refine aD C rfl (by rfl) fun _ hR Kx U=>?_
    replace hF:=HW.rely E hF hR
    clear hR
    go_simp
    try (unfold stored; go_simp)
    refine U _ _ ⟨?_,?_⟩
    ·co_still (T _)
    clear U Kx;try walk_nrm
   refine aD C rfl (by rfl) fun _ hR Kx U=>?_;replace hF:=HW.rely E hF hR;clear hR;have hc:=hF.cells;go_simp;try (unfold stored; go_simp)
   refine U _ _ ⟨?_,?_⟩
   ·refine fp E hF.size ?_;co_evs (exact fV rfl hF.mr)
   clear U Kx;try walk_nrm
   clear hc;refine aD C rfl (by rfl) fun _ hR Kx U=>?_;replace hF:=HW.rely E hF hR;clear hR;go_simp;try (unfold stored; go_simp)
   refine U _ _ ⟨?_,?_⟩
   ·co_still (T _)
   clear U Kx;try walk_nrm
   refine aD C rfl (by rfl) fun _ hR Kx U=>?_;replace hF:=HW.rely E hF hR;clear hR;go_simp;try (unfold stored; go_simp)
   refine U _ _ ⟨?_,?_⟩
   ·co_quiet (T _)
   clear U Kx;try walk_nrm
   try simp only[hb,iN]
   iterate 2
    refine aD C rfl (by rfl) fun _ hR Kx U=>?_
    replace hF:=HW.rely E hF hR
    clear hR
    go_simp
    try (unfold stored; go_simp)
    refine U _ _ ⟨?_,?_⟩
    ·co_quiet (T _)
    clear U Kx;try walk_nrm
   iterate 2
    refine aD C rfl (by rfl) fun _ hR Kx U=>?_
    replace hF:=HW.rely E hF hR
    clear hR
    go_simp
    try (unfold stored; go_simp)
    refine U _ _ ⟨?_,?_⟩
    ·co_still (T _)
    clear U Kx;try walk_nrm
   refine aD C rfl (by rfl) fun _ hR Kx U=>?_;replace hF:=HW.rely E hF hR;clear hR;have hc:=hF.cells;go_simp;try (unfold stored; go_simp)
   refine U _ _ ⟨?_,?_⟩
   ·refine fp E hF.size ?_;co_evs (exact fV rfl hF.mr)
   clear U Kx;try walk_nrm
   clear hc;iterate 2
    refine aD C rfl (by rfl) fun _ hR Kx U=>?_
    replace hF:=HW.rely E hF hR
    clear hR
    go_simp
    try (unfold stored; go_simp)
    refine U _ _ ⟨?_,?_⟩
    ·co_quiet (T _)
    clear U Kx;try walk_nrm
   refine aS C T ?_;show fx _ _ _ _ _ _ _;refine eG C T (t:=true) rfl ?_;simp only[if_true,if_false,reduceIte,Bool.false_eq_true];refine mc C T ?_;show fx _ _ _ _ _ _ _;refine gv C T ?_;refine aP C T ?_;simp only[ia,Nat.reduceAdd];refine aD C rfl (by rfl) fun _ hR Kx U=>?_;replace hF:=HW.rely E hF hR;clear hR;go_simp;try (unfold stored; go_simp)
   refine U _ _ ⟨?_,?_⟩
   ·co_quiet (T _)
   clear U Kx;try walk_nrm
   refine jl C T rfl (by rfl) rfl rfl (by simp[Act.eval]) rfl (uE Fi hF hi Au) ?_;rintro _ _ _ (⟨r,l,v2,rfl,rfl,hF⟩|⟨rfl,rfl,hF⟩)
   ·refine aS C T ?_;exact⟨EB l false,by simp[EB],v2,_,l,false,rfl,.inl ⟨rfl,.inr rfl⟩,hF,by rw[← a0]; simp,_,_,_,_,_,_,_,_,_,_,_,_,_,_,_,_,rfl⟩
   ·refine aS C T ?_;exact⟨EB [] true,by simp[EB],_,_,[],true,rfl,.inr ⟨rfl,rfl,rfl⟩,hF,a0,_,_,_,_,_,_,_,_,_,_,_,_,_,_,_,_,rfl⟩
  ·have a1:En [] true .over:=.inr ⟨rfl,rfl,rfl⟩;iterate 2 refine bS C T ?_
   refine aP C T ?_;simp only[ia,Nat.reduceAdd];iterate 2
    refine aD C rfl (by rfl) fun _ hR Kx U=>?_
    replace hF:=HW.rely E hF hR
    clear hR
    go_simp
    try (unfold stored; go_simp)
    refine U _ _ ⟨?_,?_⟩
    ·co_quiet (T _)
    clear U Kx;try walk_nrm
   iterate 2
    refine aD C rfl (by rfl) fun _ hR Kx U=>?_
    replace hF:=HW.rely E hF hR
    clear hR
    go_simp
    try (unfold stored; go_simp)
    refine U _ _ ⟨?_,?_⟩
    ·co_still (T _)
    clear U Kx;try walk_nrm
   refine aD C rfl (by rfl) fun _ hR Kx U=>?_;replace hF:=HW.rely E hF hR;clear hR;have hc:=hF.cells;go_simp;try (unfold stored; go_simp)
   refine U _ _ ⟨?_,?_⟩
   ·refine fp E hF.size ?_;co_evs (exact fV rfl hF.mr)
   clear U Kx;try walk_nrm
   clear hc;refine aD C rfl (by rfl) fun _ hR Kx U=>?_;replace hF:=HW.rely E hF hR;clear hR;go_simp;try (unfold stored; go_simp)
   refine U _ _ ⟨?_,?_⟩
   ·co_still (T _)
   clear U Kx;try walk_nrm
   refine aD C rfl (by rfl) fun _ hR Kx U=>?_;replace hF:=HW.rely E hF hR;clear hR;go_simp;try (unfold stored; go_simp)
   refine U _ _ ⟨?_,?_⟩
   ·co_quiet (T _)
   clear U Kx;try walk_nrm
   try simp only[hb,iN]
   iterate 2
    refine aD C rfl (by rfl) fun _ hR Kx U=>?_
    replace hF:=HW.rely E hF hR
    clear hR
    go_simp
    try (unfold stored; go_simp)
    refine U _ _ ⟨?_,?_⟩
    ·co_quiet (T _)
    clear U Kx;try walk_nrm
   iterate 2
    refine aD C rfl (by rfl) fun _ hR Kx U=>?_
    replace hF:=HW.rely E hF hR
    clear hR
    go_simp
    try (unfold stored; go_simp)
    refine U _ _ ⟨?_,?_⟩
    ·co_still (T _)
    clear U Kx;try walk_nrm
   refine aD C rfl (by rfl) fun _ hR Kx U=>?_;replace hF:=HW.rely E hF hR;clear hR;have hc:=hF.cells;go_simp;try (unfold stored; go_simp)
   refine U _ _ ⟨?_,?_⟩
   ·refine fp E hF.size ?_;co_evs (exact fV rfl hF.mr)
   clear U Kx;try walk_nrm
   clear hc;iterate 2
    refine aD C rfl (by rfl) fun _ hR Kx U=>?_
    replace hF:=HW.rely E hF hR
    clear hR
    go_simp
    try (unfold stored; go_simp)
    refine U _ _ ⟨?_,?_⟩
    ·co_quiet (T _)
    clear U Kx;try walk_nrm
   refine aS C T ?_;show fx _ _ _ _ _ _ _;refine eG C T (t:=false) rfl ?_;simp only[if_true,if_false,reduceIte,Bool.false_eq_true];refine oY C T ?_;simp only[je,uO,if_true];show fx _ _ _ _ _ _ _;iterate 2 refine bS C T ?_
   refine aP C T ?_;simp only[ia,Nat.reduceAdd];iterate 2
    refine aD C rfl (by rfl) fun _ hR Kx U=>?_
    replace hF:=HW.rely E hF hR
    clear hR
    go_simp
    try (unfold stored; go_simp)
    refine U _ _ ⟨?_,?_⟩
    ·co_quiet (T _)
    clear U Kx;try walk_nrm
   iterate 2
    refine aD C rfl (by rfl) fun _ hR Kx U=>?_
    replace hF:=HW.rely E hF hR
    clear hR
    go_simp
    try (unfold stored; go_simp)
    refine U _ _ ⟨?_,?_⟩
    ·co_still (T _)
    clear U Kx;try walk_nrm
   refine aD C rfl (by rfl) fun _ hR Kx U=>?_;replace hF:=HW.rely E hF hR;clear hR;have hc:=hF.cells;go_simp;try (unfold stored; go_simp)
   refine U _ _ ⟨?_,?_⟩
   ·refine fp E hF.size ?_;co_evs (exact fV rfl hF.mr)
   clear U Kx;try walk_nrm
   clear hc;refine aD C rfl (by rfl) fun _ hR Kx U=>?_;replace hF:=HW.rely E hF hR;clear hR;go_simp;try (unfold stored; go_simp)
   refine U _ _ ⟨?_,?_⟩
   ·co_still (T _)
   clear U Kx;try walk_nrm
   refine aD C rfl (by rfl) fun _ hR Kx U=>?_;replace hF:=HW.rely E hF hR;clear hR;go_simp;try (unfold stored; go_simp)
   refine U _ _ ⟨?_,?_⟩
   ·co_quiet (T _)
   clear U Kx;try walk_nrm
   refine aS C T ?_;show fx _ _ _ _ _ _ _;try simp only[hb,iN]
   refine eG C T (t:=true) rfl ?_;simp only[if_true,if_false,reduceIte,Bool.false_eq_true];refine bS C T ?_;refine aP C T ?_;simp only[ia,Nat.reduceAdd];refine aD C rfl (by rfl) fun _ hR Kx U=>?_;replace hF:=HW.rely E hF hR;clear hR;go_simp;try (unfold stored; go_simp)
   refine U _ _ ⟨?_,?_⟩
   ·co_quiet (T _)
   clear U Kx;try walk_nrm
   refine aS C T ?_;show fx _ _ _ _ _ _ _;refine oZ C T ?_;refine⟨.inr rfl,rfl,_,resultsC_tmp (by rfl) _,?_,_,_,_,_,a0,a1,hF⟩;rw[← a0,List.getElem?_eq_none (by simp; omega)];rfl
end
def bw(l:List Int):List UInt8:=l.flatMap Lib.encodeRune
section
variable {N Pb:Nat}{Shun:Loc→Prop}{val:Value}{B:Nat}{Mine:Loc→Prop}{Ex:Nat→Prop}{w₀ w aB:World}{AnchW:Gq}{u v:Value}{tk rest:Iq}{en:Bool}{Rb:Nat}
variable {M:World→Nat→Prop}{O:Nat→Prop}{N0:Nat}{EM:Nat→Prop}{Bb:Nat}{p:Value}{n:Nat}{xs:Vq}{w':World}
theorem HW.ZV(h:HW K Ex w₀ Rb u v tk en w)(b:Nat)(U:nN Rb v b):Ex b∨w₀.heap.size≤b:=by
 rcases U with rfl|z
 ·exact h.Oe
 ·exact(h.ro.own b z).2
theorem apart{y:Value}(hW:HW K Ex w₀ Rb u v tk en w)(U:HM (cH K) (gx K) N0 EM aB Bb x y z n xs w):(¬nN Rb v Bb∧∀k,z.ownBlock=some k→¬nN Rb v k)∧(¬nN Bb z Rb∧∀k,v.ownBlock=some k→¬nN Bb z k):=by
 have h1:Bb≠Rb:=by
  rintro rfl
  have:=U.bd.symm.trans hW.rb;simp at this
 refine⟨⟨?_,fun k hk=>?_⟩,⟨?_,fun k hk=>?_⟩⟩
 ·rintro(e|e)
  ·exact h1 e
  ·exact hW.ro.ne U.bd (by decide) e rfl
 ·rintro(e|e)
  ·exact U.ro.ne hW.rb (by decide) hk e
  ·obtain⟨_,c1⟩:=U.ro.type hk;obtain⟨_,c2⟩:=hW.ro.type e;rw[c1] at c2;simp at c2
 ·rintro(e|e)
  ·exact h1 e.symm
  ·exact U.ro.ne hW.rb (by decide) e rfl
 ·rintro(e|e)
  ·exact hW.ro.ne U.bd (by decide) hk e
  ·obtain⟨_,c1⟩:=U.ro.type e;obtain⟨_,c2⟩:=hW.ro.type hk;rw[c1] at c2;simp at c2
variable [Go.ConcR.Payload][Go.ConcX.Payload]
variable [Go.ConcX.Shy (Cfg.Wg (aC prog N Pb Shun val B Mine)) (Cfg.C (aC prog N Pb Shun val B Mine))]
end
section
variable {ι:Type}{P:Program}{main:Bool}{R:ι→Wq}{D:ι→World→World→Array Event→Prop}{X:ι→Gq}{fn:FuncId}{Q:dK ι}{a:Act}{w:World}{vs:ι}
theorem bU.rely(C:aV P main R D X)(h:bU X fn ops todo vs Q a w)(r:R vs w aB):bU X fn ops todo vs Q a aB:=fun b k cs U hk hc=>C.rely (h b k cs U hk hc) r
theorem bu(C:aV P main R D X)(T:∀i,Terms (R i) (D i)){i:Nat}{o:Oper}(ho:ops[i]?=some o)(hw:Region.wanted o (yielded ops a.tmps)=true)
 (h:∀(aB:World) (K:Act→World→Prop),(∀a',bU X fn ops rest vs Q a' w→(execOp a.eval o).events P aB #[]=#[]→K a' aB)→uponK o a K ((execOp a.eval o).run P aB)):bU X fn ops (i::rest) vs Q a w :=
 aD C ho hw fun aB hR K U=>h aB K fun a' hO he=>U a' aB ⟨by rw[listed_nil he]; exact(T vs).idle _,hO.rely C hR⟩
theorem uT(C:aV P main R D X)(T:∀i,Terms (R i) (D i)){c:Operand}{x y:Code}{t:Bool}(hc:a.eval c=.bool t)(h1:t=true→fx X fn x vs Q a w)(U:t=false→fx X fn y vs Q a w):fx X fn (.cond c x y) vs Q a w:=by
 refine eG C T hc ?_;cases t
 ·exact U rfl
 ·exact h1 rfl
end
def KW(P:Program)(f:FuncId)(args:Array Value)(v:Value):Prop :=
 ∀(ι:Type) (R:ι→World→World→Prop) (D:ι→World→World→Array Event→Prop) (X:ι→Goroutine→World→Prop) (_:aV P true R D X) (_:∀i,Terms (R i) (D i)) (i:ι) (w:World),ew P X f args i w (fun i' x w'=>i'=i∧x=v∧w'=w)
structure HL(M:World→Nat→Prop)(O:Nat→Prop)(N0:Nat)(Ex:Nat→Prop)(w₀:World)(l:List (Nat × Obj))(w:World):Prop where
 kept:Kept M O Ex w₀ w
 size:N0≤w.heap.size
 own:∀b o,(b,o)∈l→M w b∧w.heap[b]?=some o∧(Ex b∨w₀.heap.size≤b)
 nodup:(l.map Prod.fst).Nodup
section
variable {KT:TypeId→Prop}{N0:Nat}{M:World→Nat→Prop}{O:Nat→Prop}{R:Wq}{D:World→World→Array Event→Prop}{Ex:Nat→Prop}{w₀ w aB w':World}{l:Hq}{b:Nat}{o o':Obj}
theorem HL.rely(E:Env KT N0 M O R D)(h:HL M O N0 Ex w₀ l w)(r:R w aB):HL M O N0 Ex w₀ l aB :=
 ⟨h.kept.rely E r,Nat.le_trans h.size (E.size r),fun b o U=>⟨E.stay r (h.own b o U).1,(E.keep r (h.own b o U).1).trans (h.own b o U).2.1,(h.own b o U).2.2⟩,h.nodup⟩
theorem HL.perm{l':Hq}(h:HL M O N0 Ex w₀ l w)(p:l'.Perm l):HL M O N0 Ex w₀ l' w:=⟨h.kept,h.size,fun b o U=>h.own b o (p.mem_iff.1 U),(p.map Prod.fst).nodup_iff.2 h.nodup⟩
theorem HL.drop{x:Nat × Obj}(h:HL M O N0 Ex w₀ (x::l) w):HL M O N0 Ex w₀ l w:=⟨h.kept,h.size,fun b o U=>h.own b o (List.mem_cons_of_mem _ U),(List.nodup_cons.1 h.nodup).2⟩
theorem HL.head(h:HL M O N0 Ex w₀ ((b,o)::l) w):M w b∧w.heap[b]?=some o∧(Ex b∨w₀.heap.size≤b):=h.own b o (List.mem_cons_self ..)
theorem HL.grown(E:Env KT N0 M O R D)(h:HL M O N0 Ex w₀ l w)(hO:Own KT M w (w.alloc o)):HL M O N0 Ex w₀ ((w.heap.size,o)::l) (w.alloc o):=by
 refine⟨h.kept.own E hO fun b hb _=>Below.heap_alloc _ _ _ (E.lt (h.kept.mine b hb)),by simp[World.size_alloc]; have:=h.size; omega,fun b o' U=>?_,?_⟩
 ·rcases List.mem_cons.1 U with e|U
  ·cases e;exact⟨E.new h.size hO (Nat.le_refl _) (by simp[World.size_alloc]),heap_alloc_new w _,.inr h.kept.grow⟩
  ·obtain⟨h1,h2,h3⟩:=h.own b o' U;exact⟨E.mine hO h1,(Below.heap_alloc _ _ _ (E.lt h1)).trans h2,h3⟩
 ·refine List.nodup_cons.2 ⟨fun U=>?_,h.nodup⟩;obtain⟨p,hp,e⟩:=List.mem_map.1 U;have h4:=E.lt (h.own p.1 p.2 hp).1;have e':p.1=w.heap.size:=e;rw[e'] at h4;exact Nat.lt_irrefl _ h4
theorem HL.turn(E:Env KT N0 M O R D)(h:HL M O N0 Ex w₀ ((b,o)::l) w)(hO:Own KT M w w')(hb:w'.heap[b]?=some o')(hk:∀k,k≠b→w'.heap[k]?=w.heap[k]?):HL M O N0 Ex w₀ ((b,o')::l) w':=by
 have hd:=List.nodup_cons.1 h.nodup;refine⟨h.kept.own E hO fun k kG hx=>hk k fun e=>?_,Nat.le_trans h.size hO.grow,fun k ED hm=>?_,h.nodup⟩
 ·subst e;rcases h.head.2.2 with z|z
  ·exact hx z
  ·have:=E.lt kG; omega
 ·rcases List.mem_cons.1 hm with e|U
  ·cases e;exact⟨E.mine hO h.head.1,hb,h.head.2.2⟩
  ·obtain⟨h1,h2,h3⟩:=h.own k ED (List.mem_cons_of_mem _ U);have vG:k≠b:=fun e=>hd.1 (List.mem_map.2 ⟨_,U,e⟩);exact⟨E.mine hO h1,(hk k vG).trans h2,h3⟩
theorem HL.past(E:Env KT N0 M O R D)(h:HL M O N0 Ex w₀ l w)(k:Kept M O (fun _=>False) w w')(U:N0≤w'.heap.size):HL M O N0 Ex w₀ l w' :=
 ⟨h.kept.trans E k (fun _ z=>z.elim),U,fun b o hm=>⟨k.mine _ (h.own b o hm).1,(k.block _ (h.own b o hm).1 id).trans (h.own b o hm).2.1,(h.own b o hm).2.2⟩,h.nodup⟩
end
section
variable {ι:Type}{P:Program}{R:ι→Wq}{D:ι→World→World→Array Event→Prop}{X:ι→Gq}{fn:FuncId}{Q:dK ι}{a:Act}{w:World}{vs:ι}{KT:TypeId→Prop}{N0:Nat}{M:World→Nat→Prop}{O:Nat→Prop}{Ex:Nat→Prop}{w₀:World}{l:Hq}
theorem uI(U:P.underlying t=some .string)(w:World):(Instr.range t (.string s)).run P w=.ok (.pointer (sq w.heap.size)) (w.alloc (.stringIter s 0)):=by simp[Instr.range,run_underlying U,newObj,Sem.run]
theorem vC(U:P.underlying t=some .string)(w:World)(es:Array Event):(Instr.range t (.string s)).events P w es=es:=by simp[Instr.range,run_underlying U,newObj,underlying,U];rfl
theorem jE(U:w.heap[b]?=some (.stringIter s pos)):(getObj b).run P w=.ok (.stringIter s pos) w:=by simp[getObj,Sem.run,U]
theorem lI(U:w.heap[b]?=some (.stringIter s pos))(es:Array Event):(getObj b).events P w es=es.push ⟨.obj b,false,false⟩:=by unfold Sem.events;simp only[getObj,Sem.runT,U,Obj.isChan]
theorem qz(o:Obj)(hb:w.heap[b]?=some (.stringIter s pos)):(setObj b o).run P w=.ok () { w with heap:=w.heap.setIfInBounds b o }:=by simp[setObj,Sem.run,hb]
theorem rQ(U:w.heap[b]?=some (.stringIter s pos))(es:Array Event):(setObj b (.stringIter s p')).events P w es=es.push ⟨.obj b,true,false⟩:=by unfold Sem.events;simp only[setObj,Sem.runT,U,Obj.isChan]
theorem yN(hb:w.heap[b]?=some (.stringIter s pos))(hp:pos<s.size) :
  (Instr.next (.pointer (sq b)) true t).run P w=.ok (.tuple #[.bool true,.int .i64 pos,.int .i32 (Utf8.decode s pos).1]) { w with heap:=w.heap.setIfInBounds b (.stringIter s (pos+(Utf8.decode s pos).2)) }:=by simp[Instr.next,jE hb,qz _ hb,hp,goInt]
theorem xR(U:w.heap[b]?=some (.stringIter s pos))(hp:pos<s.size)(es:Array Event) :
  (Instr.next (.pointer (sq b)) true t).events P w es=(es.push ⟨.obj b,false,false⟩).push ⟨.obj b,true,false⟩:=by simp[Instr.next,jE U,lI U,qz _ U,rQ U,hp,goInt]
theorem oM(U:w.heap[b]?=some (.stringIter s pos))(hp:¬pos<s.size) :
  (Instr.next (.pointer (sq b)) true t).run P w=.ok (.tuple #[.bool false]) w:=by simp[Instr.next,jE U,hp]
theorem qJ(U:w.heap[b]?=some (.stringIter s pos))(hp:¬pos<s.size)(es:Array Event) :
  (Instr.next (.pointer (sq b)) true t).events P w es=es.push ⟨.obj b,false,false⟩:=by simp[Instr.next,jE U,lI U,hp]
end
section
variable {KT:TypeId→Prop}{N0:Nat}{M:World→Nat→Prop}{O:Nat→Prop}{R:Wq}{D:World→World→Array Event→Prop}{Ex EM:Nat→Prop}{w₀ w aB w':World}{l:Hq}
theorem HL.over(E:Env KT N0 M O R D)(h:HL M O N0 Ex w₀ l w)(k:Kept M O EM w w')(hs:N0≤w'.heap.size)(hl:∀b o,(b,o)∈l→¬EM b)(hx:∀b,EM b→Ex b∨w₀.heap.size≤b):HL M O N0 Ex w₀ l w' :=
 ⟨h.kept.trans E k hx,hs,fun b o U=>⟨k.mine _ (h.own b o U).1,(k.block _ (h.own b o U).1 (hl b o U)).trans (h.own b o U).2.1,(h.own b o U).2.2⟩,h.nodup⟩
end
structure HX(K:Cfg)(Ex:Nat→Prop)(w₀:World)(all:List Int)(Rb:Nat)(i:Ph)(l:List (Nat × Obj))(w:World):Prop where
 hl:HL (cH K) (gx K) K.N0 Ex w₀ l w
 row:∃v tk rest en,tk++rest=all∧En rest en i∧HW K (nN Rb v) w Rb v v tk en w∧(∀b o,(b,o)∈l→¬nN Rb v b)∧∀b,nN Rb v b→Ex b∨w₀.heap.size≤b
section
variable {N Pb:Nat}{Shun:Loc→Prop}{val:Value}{B:Nat}{Mine:Loc→Prop}{Ex:Nat→Prop}{w₀ w aB w':World}{AnchW:Gq}{all:Iq}{Rb:Nat}{i:Ph}{l l':Hq}{b:Nat}{o o':Obj}
theorem HX.early(h:HX K Ex w₀ all Rb i l w):i.early:=by obtain⟨_,_,_,_,_,U,_⟩:=h.row;exact U.early
variable [Go.ConcR.Payload][Go.ConcX.Payload]
variable [Go.ConcX.Shy (Cfg.Wg (aC prog N Pb Shun val B Mine)) (Cfg.C (aC prog N Pb Shun val B Mine))]
theorem HX.env(F:Cfg.Fit (aC prog N Pb Shun val B Mine))(h:HX (aC prog N Pb Shun val B Mine) Ex w₀ all Rb i l w):Env eS (N+9) (cH (aC prog N Pb Shun val B Mine)) (gx (aC prog N Pb Shun val B Mine)) (mL (aC prog N Pb Shun val B Mine) i) (rz (aC prog N Pb Shun val B Mine) i):=xm (K:=aC prog N Pb Shun val B Mine) F h.early
theorem HX.rely(F:Cfg.Fit (aC prog N Pb Shun val B Mine))(h:HX (aC prog N Pb Shun val B Mine) Ex w₀ all Rb i l w)(r:mL (aC prog N Pb Shun val B Mine) i w aB):HX (aC prog N Pb Shun val B Mine) Ex w₀ all Rb i l aB:=by have E:=h.env F;obtain⟨v,tk,rest,en,h1,h2,h3,h4,h5⟩:=h.row;exact⟨h.hl.rely E r,v,tk,rest,en,h1,h2,(h3.uF E r).kP,h4,h5⟩
theorem HX.drop{x:Nat × Obj}(h:HX K Ex w₀ all Rb i (x::l) w):HX K Ex w₀ all Rb i l w:=by obtain⟨v,tk,rest,en,h1,h2,h3,U,h5⟩:=h.row;exact⟨h.hl.drop,v,tk,rest,en,h1,h2,h3,fun b o hm=>U b o (List.mem_cons_of_mem _ hm),h5⟩
theorem HW.still(h:HW K EM w₀ Rb v v tk en w)(hb:∀b,nN Rb v b→w'.heap[b]?=w.heap[b]?)(hm:∀b,cH K w b→cH K w' b)(hs:K.N0≤w'.heap.size):HW K (nN Rb v) w' Rb v v tk en w' :=
 ⟨(hb Rb (.inl rfl)).trans h.rb,hm _ h.mr,.inl (.inl rfl),⟨(h.ro.same (w':=w') fun k U=>⟨hb k (.inr U),hm _ (h.ro.own k U).1⟩).row,fun k U=>⟨hm _ (h.ro.own k U).1,.inl (.inr U)⟩,h.ro.nil⟩,hs,Kept.refl _⟩
theorem HW.lt(F:K.Fit)(h:HW K EM w₀ Rb v v tk en w)(b:Nat)(U:nN Rb v b):b<w.heap.size:=by
 rcases U with rfl|U
 ·exact h.mr.1
 ·exact(h.ro.own b U).1.1
theorem HX.grown(F:Cfg.Fit (aC prog N Pb Shun val B Mine))(h:HX (aC prog N Pb Shun val B Mine) Ex w₀ all Rb i l w)(hO:Own eS (cH (aC prog N Pb Shun val B Mine)) w (w.alloc o)):HX (aC prog N Pb Shun val B Mine) Ex w₀ all Rb i ((w.heap.size,o)::l) (w.alloc o):=by
 have E:=h.env F;obtain⟨v,tk,rest,en,h1,h2,h3,h4,h5⟩:=h.row;refine⟨h.hl.grown E hO,v,tk,rest,en,h1,h2,h3.still (fun b U=>Below.heap_alloc _ _ _ (h3.lt F b U)) (fun b U=>E.mine hO U) (by simp[World.size_alloc]; have:=h.hl.size; omega),fun b o' hm=>?_,h5⟩;rcases List.mem_cons.1 hm with e|Qp
 ·cases e;exact fun U=>absurd (h3.lt F _ U) (Nat.lt_irrefl _)
 ·exact h4 b o' Qp
theorem HX.turn(F:Cfg.Fit (aC prog N Pb Shun val B Mine))(h:HX (aC prog N Pb Shun val B Mine) Ex w₀ all Rb i ((b,o)::l) w)(hO:Own eS (cH (aC prog N Pb Shun val B Mine)) w w')(hb:w'.heap[b]?=some o')(hk:∀k,k≠b→w'.heap[k]?=w.heap[k]?):HX (aC prog N Pb Shun val B Mine) Ex w₀ all Rb i ((b,o')::l) w':=by
 have E:=h.env F;obtain⟨v,tk,rest,en,h1,h2,h3,U,h5⟩:=h.row;refine⟨h.hl.turn E hO hb hk,v,tk,rest,en,h1,h2,h3.still (fun k kG=>hk k fun e=>U b o (List.mem_cons_self ..) (e▸kG)) (fun b hb=>E.mine hO hb) (Nat.le_trans h.hl.size hO.grow),fun k ED hm=>?_,h5⟩;rcases List.mem_cons.1 hm with e|Qp
 ·cases e;exact U b o (List.mem_cons_self ..)
 ·exact U k ED (List.mem_cons_of_mem _ Qp)
theorem HX.past(F:Cfg.Fit (aC prog N Pb Shun val B Mine))(h:HX (aC prog N Pb Shun val B Mine) Ex w₀ all Rb i l w)(k:Kept (cH (aC prog N Pb Shun val B Mine)) (gx (aC prog N Pb Shun val B Mine)) (fun _=>False) w w')(U:N+9≤w'.heap.size):HX (aC prog N Pb Shun val B Mine) Ex w₀ all Rb i l w':=by
 have E:=h.env F;obtain⟨v,tk,rest,en,h1,h2,h3,h4,h5⟩:=h.row;refine⟨h.hl.past E k U,v,tk,rest,en,h1,h2,h3.still (fun b hb=>k.block b ?_ id) (fun b hb=>k.mine b hb) U,h4,h5⟩;rcases hb with rfl|hb
 ·exact h3.mr
 ·exact(h3.ro.own b hb).1
theorem HX.at(F:Cfg.Fit (aC prog N Pb Shun val B Mine))(hn:all.length≤1000000)(h:HX (aC prog N Pb Shun val B Mine) Ex w₀ all Rb i l w)(place:Nat) :
  ew prog (XM (aC prog N Pb Shun val B Mine) AnchW) 146 #[.pointer (sq Rb),.int .i64 (place:Int)] i w (fun i' x w'=>x=.int .i32 (all[place]?.getD (-1))∧HX (aC prog N Pb Shun val B Mine) Ex w₀ all Rb i' l w'):=by
 have E:=h.env F;obtain⟨v,tk,rest,en,h1,h2,h3,h4,h5⟩:=h.row;obtain⟨aJ,c,hf,Dj,U,hw⟩:=T9 (AnchW:=AnchW) F all place h1 hn h3 h2;refine⟨aJ,c,hf,Dj,U,l9 hw ?_⟩;rintro i' e a' w' ⟨q1,q2,x,q3,rfl,v',Kz,oL,IZ,k1,k2,k3⟩;have hx:∀b,nN Rb v' b→nN Rb v b∨w.heap.size≤b:=k3.ZV;refine⟨q1,q2,_,q3,rfl,h.hl.over E k3.old k3.size h4 h5,v',Kz,oL,IZ,k1,k2,k3.kP,fun b o hm U=>?_,fun b U=>?_⟩
 ·rcases hx b U with z|z
  ·exact h4 b o hm z
  ·have:=E.lt (h.hl.own b o hm).1; omega
 ·rcases hx b U with z|z
  ·exact h5 b z
  ·exact .inr (Nat.le_trans h.hl.kept.grow z)
end
def kX (e:TypeId) (sz:Nat) (v:Value) (n:Nat) (xs:List Value) (rl:List (Nat × Obj)):Prop :=
 xs.length=n*sz∧((v=.slice none 0 0∧n=0∧rl=[]) ∨
  ∃g cap cur,v=.slice (some ⟨g,0,none⟩) n cap∧rl=[(g,.cells cur e)]∧0<n∧n≤cap∧cap≤maxLen∧cur.size=cap*sz∧cur.toList.take (n*sz)=xs)
def gT (e:TypeId) (sz:Nat) (v:Value) (n:Nat) (xs:List Value) (rl:List (Nat × Obj)):Prop :=
 xs.length=n*sz∧((v=.slice none 0 0∧n=0∧rl=[]) ∨
  ∃g cap cur,v=.slice (some ⟨g,0,none⟩) n cap∧rl=[(g,.cells cur e)]∧n≤cap∧cap≤maxLen∧cur.size=cap*sz∧cur.toList.take (n*sz)=xs)
theorem kX.zero {e:TypeId}{xs:List Value} {rl:List (Nat × Obj)} (h:kX e sz v n xs rl):gT e sz v n xs rl :=
 ⟨h.1,h.2.imp id fun ⟨g,cap,U,h1,h2,_,h4⟩=>⟨g,cap,U,h1,h2,h4⟩⟩
theorem kX.nil (e:TypeId) (sz:Nat):kX e sz (.slice none 0 0) 0 [] []:=⟨by simp,.inl ⟨rfl,rfl,rfl⟩⟩
section
variable {KT:TypeId→Prop} {N0:Nat} {M:World→Nat→Prop} {O:Nat→Prop} {R:World→World→Prop} {D:World→World→Array Event→Prop} {Ex:Nat→Prop} {w₀ w w':World} {l rl:List (Nat × Obj)} {e:TypeId} {sz:Nat} {v:Value} {n:Nat} {xs news:List Value}
theorem gT.Rw (h:gT e sz v n xs rl) (hl:HL M O N0 Ex w₀ (rl++l) w):w.ownsRow 0 e sz v n xs:=by
 refine ⟨h.1,?_⟩
 rcases h.2 with ⟨h1,h2,_⟩|⟨g,cap,U,h1,h2,h4,h5,h6,h7⟩
 ·
  exact .inl ⟨h1,h2⟩
 ·
  exact .inr ⟨g,cap,U,h1,Nat.zero_le _,(hl.own g _ (by rw [h2]; simp)).2.1,h4,h5,h6,h7⟩
theorem gT.block (h:gT e sz v n xs rl)(hk:v.ownBlock=some k):∃U,rl=[(k,.cells U e)]:=by
 rcases h.2 with ⟨h1,_,_⟩|⟨g,cap,U,h1,h2,_⟩
 ·
  rw [h1] at hk; cases hk
 ·
  rw [h1] at hk; cases hk; exact ⟨U,h2⟩
theorem HL.right (h:HL M O N0 Ex w₀ (rl++l) w):HL M O N0 Ex w₀ l w:=⟨h.kept,h.size,fun b o U=>h.own b o (List.mem_append_right _ U),by have:=h.nodup; rw [List.map_append] at this; exact (List.nodup_append.1 this).2.1⟩
theorem HL.nX (h:HL M O N0 Ex w₀ (rl++l) w){o o':Obj} (h1:(k,o)∈rl) (h2:(k,o')∈l):False:=by
 have U:=h.nodup
 rw [List.map_append] at U
 exact (List.nodup_append.1 U).2.2 k (List.mem_map.2 ⟨_,h1,rfl⟩) k (List.mem_map.2 ⟨_,h2,rfl⟩) rfl
theorem HL.IC(E:Env KT N0 M O R D) (he:¬KT e) (h:HL M O N0 Ex w₀ (rl++l) w) (hr:gT e sz v n xs rl) (t ty:TypeId) (z:Value) (bytes:Nat) (ht:P.underlying t=some (.slice e)) (hi:(P.info? e).map (fun i=>(i.zero,i.size,i.bytes))=some (some z,sz,bytes)) (hz:z.cells.size=sz) (b3:0<sz)
  (a:Addr) (m c:Nat) (hm:0<m) (hl:news.length=m*sz) (a0:∀j u,news[j]?=some u→w.cell? (a.add j)=some u) (ha:M w a.block) (h1:∀u∈news,u.oneCell'=true) (hn:n+m≤maxLen) (hb:(n+m)*bytes≤140737488355328) :
  ∃v' w' aq,(Builtin.append_ #[t,t] ty #[v,.slice (some a) m c]).run P w=.ok v' w'∧HL M O N0 Ex w₀ (aq++l) w'∧kX e sz v' (n+m) (xs++news) aq∧Own KT M w w'∧(∀b,b<w.heap.size→v.ownBlock≠some b→w'.heap[b]?=w.heap[b]?) ∧
   (∀k,v'.ownBlock=some k→v.ownBlock=some k∨w.heap.size≤k) ∧
   (∀ev∈(Builtin.append_ #[t,t] ty #[v,.slice (some a) m c]).events P w #[],uX (M w') ev)∧∀ev∈(Builtin.append_ #[t,t] ty #[v,.slice (some a) m c]).events P w #[],∀mk,ev.loc=.mark mk→Conc.Neutral mk:=by
 obtain ⟨i0,hi,aa,ae,af⟩:=info_parts hi
 have a6:=hr.Rw h
 obtain ⟨v',w',a9,ho,hg,ak,a2⟩:=run_append_own_at (P:=P) w 0 t ty e i0 z sz bytes ht hi aa ae af hz b3 v n xs a6 a m c news hl a0 h1 hn hb (Nat.zero_le _)
 have b2:=nY (P:=P) 0 t ty e i0 z sz bytes ht hi aa ae af v n xs a6 a m c news hl a0 h1 hn hb a9
 have ah:=events_append_where (P:=P) w 0 t ty e i0 z sz bytes ht hi aa ae af v n xs a6 a m c news hl a0 h1 hn hb
 have hv:∀k,v.ownBlock=some k→M w k∧(Ex k∨w₀.heap.size≤k)∧∃U,w.heap[k]?=some (.cells U e):=by
  intro k hk
  obtain ⟨U,a7⟩:=hr.block hk
  obtain ⟨z1,z2,z3⟩:=h.own k _ (by rw [a7]; simp:(k,Obj.cells U e)∈rl++l)
  exact ⟨z1,z3,U,z2⟩
 have hO:Own KT M w w':=by
  rcases b2 with rfl|⟨k,cs,hk,rfl⟩|⟨cs,rfl⟩
  ·
   exact Own.refl _
  ·
   obtain ⟨z1,_,U,a1⟩:=hv k hk
   exact Own.setRow a1 z1 he
  ·
   have:=Own.alloc (KT:=KT) (M:=M) (w:=w.drew) (cs:=cs) (t:=e) he
   exact ⟨this.tape,this.os,this.output,this.grow,fun b hb hm=>heap_alloc_old w.drew _ b hb,fun b o' hh hk=>(this.kt b o' hh hk)⟩
 have a3:∀b,b<w.heap.size→v.ownBlock≠some b→w'.heap[b]?=w.heap[b]?:=fun b hb hx=>hg.block b hb (fun e=>hx e.symm)
 have a8:∀k,v'.ownBlock=some k→v.ownBlock=some k∨w.heap.size≤k:=by
  intro k hk
  rcases a2 with a2|a2
  ·
   exact .inl (a2▸hk)
  ·
   rw [a2] at hk; cases hk; exact .inr (Nat.le_refl _)
 have b1:v'≠.slice Option.none 0 0:=fun e=>by have:=(ak.1 e).2; omega
 obtain ⟨ai,ao⟩:=ho
 rcases ao with ⟨e,_⟩|⟨g,cap,U,rfl,_,a1,au,av,aw,ax⟩
 ·
  exact absurd e b1
 have ay:∀o,(g,o)∈l→False:=by
  intro o ho
  rcases a8 g rfl with z|z
  ·
   obtain ⟨cur',a7⟩:=hr.block z
   exact h.nX (k:=g) (o:=.cells cur' e) (by rw [a7]; simp) ho
  ·
   have:=E.lt (h.own g o (List.mem_append_right _ ho)).1
   omega
 have ar:M w' g:=by
  rcases a8 g rfl with z|z
  ·
   exact E.mine hO (hv g z).1
  ·
   exact E.new h.size hO z (Array.getElem?_eq_some_iff.1 a1).1
 have al:∀b o,(b,o)∈l→v.ownBlock≠some b:=by
  intro b o hm hk
  obtain ⟨cur',a7⟩:=hr.block hk
  exact h.nX (k:=b) (o:=.cells cur' e) (by rw [a7]; simp) hm
 refine ⟨_,w',[(g,.cells U e)],a9,⟨h.kept.own E hO fun b ag hx=>a3 b (E.lt (h.kept.mine b ag)) fun hk=>?_,Nat.le_trans h.size hO.grow,fun b o hm=>?_,?_⟩,⟨ai,.inr ⟨g,cap,U,rfl,rfl,by omega,au,av,aw,ax⟩⟩,hO,a3,a8,fun ev a4=>?_,fun ev a4 mk a5=>?_⟩
 ·
  rcases (hv b hk).2.1 with z|z
  ·
   exact hx z
  ·
   have:=E.lt ag; omega
 ·
  rcases List.mem_append.1 hm with z|z
  ·
   rw [List.mem_singleton] at z
   cases z
   refine ⟨ar,a1,?_⟩
   rcases a8 g rfl with z|z
   ·
    exact (hv g z).2.1
   ·
    exact .inr (Nat.le_trans h.kept.grow z)
  ·
   obtain ⟨z1,z2,z3⟩:=h.own b o (List.mem_append_right _ z)
   exact ⟨E.mine hO z1,(a3 b (E.lt z1) (al b o z)).trans z2,z3⟩
 ·
  have az:=h.right.nodup
  refine List.nodup_cons.2 ⟨fun hm=>?_,az⟩
  obtain ⟨q,hq,e'⟩:=List.mem_map.1 hm
  have e2:q.1=g:=e'
  exact ay q.2 (by rw [← e2]; exact hq)
 ·
  rcases ah ev a4 with ⟨ad,z1,z2⟩|⟨mk,rfl,a5⟩
  ·
   refine .inl ⟨ad,z1,E.mine hO ?_⟩
   rcases z2 with ⟨_,z2⟩|z2
   ·
    rw [z2]; exact ha
   ·
    exact (hv _ z2.symm).1
  ·
   obtain rfl:mk=.noRoom:=a5
   exact .inr (.inr ⟨by simp [MemAct.ofEvent,MemAct.touch?],by simp,by simp,by simp [MemAct.ofEvent]⟩)
 ·
  rcases ah ev a4 with ⟨ad,z1,_⟩|⟨mk',rfl,aj⟩
  ·
   rw [z1] at a5; cases a5
  ·
   cases a5; exact aj
end
end Go.Proofs.YtgcaionclkbehaaGreatDoor
