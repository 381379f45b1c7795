import Derived.Test.YtgcaionclkbehaaGreatDoorJ21
import Derived.Test.YtgcaionclkbehaaGreatDoorCards
import Derived.Test.YtgcaionclkbehaaGreatDoorTie
import Derived.Deep.DeepHandedRow
import Derived.Conc.LeavingOf
import Derived.OpenShut
set_option linter.all false
set_option maxHeartbeats 2000000
set_option maxRecDepth 100000
namespace Go.Proofs.YtgcaionclkbehaaGreatDoor
open Go.ChangeShapes Go.WideShapes Go.ChangeAt Go.RowKit Go.Conc
def P9:ownKnob Tryz.prog.godebug=none:=kq
def uX:laidOutB Tryz.prog=true:=kq
def F6:Tryz.prog.cellsOf 3=1:=kq
def xW:Tryz.prog.cellsOf 9=1:=kq
def DG:Tryz.prog.cellsOf 21=1:=kq
def F7:Tryz.prog.cellsOf 4=1:=kq
def si:Tryz.prog.cellsOf 334=3:=kq
def Aj:Tryz.prog.cellsOf 335=54:=kq
def addr_add(b off n:Nat):Addr.add ⟨b,off,none⟩ n=⟨b,off+n,none⟩:=by unfold Addr.add;split<;>simp_all
section
variable {H:Type}{enc:TypeId × Value→H}
def nY{a:Assume}{C:Checked}{L:Os}{f:FuncId}{fn:Func}{s:ChangeSpec}{k:List PathCond}{apart l d h:Bool}{m:List (String × DataW Unit)}
 (N:ownKnob C.prog.godebug=.none)(n:L.Started)(E:C.prog.funcs[f]?=some fn)
 (p:∃(w:World) (b:Tape) (i:Input),w.os=L∧(w.forCall b i).Shaped C.prog∧i.vars=[]∧Input.okWide C.prog (w.forCall b i) .any w.heap.size f i ∧
   (OpenSpec.ofChange s).preRow enc C.prog fn k apart m (w.forCall b i).memory i.args∧a.holds C.prog (lone (Frame.enter C.prog f i.args .normal) [] (w.forCall b i)))
 (x:∀(W:World) (base:Nat) (args:Array Value) (y z:List (DataW H)) (c:List MemPlace),W.ShapedOpen C.prog →
   (∀(j:Nat) t v,fn.params[j]?=some t→args[j]?=some v→Value.okWide C.prog W .any base t v) →
   DataW.Whole enc C.prog fn.params.toList s.vars apart W args.toList y z c →
   (DataW.weightsEach C.prog (fn.params.toList++s.plain.varTypes C.prog) (y++z)).all (·≤reachBytes)=true →
   laidMetH C.prog m W →
   ∃M g o w' B,runNT C.prog (M+1) (solo (G (Frame.enter C.prog f args .normal) []) W) #[]=(.ended o w',B)∧runN C.prog M (solo (G (Frame.enter C.prog f args .normal) []) W)=.next g ∧
    step C.prog g=.ended o w'∧Conc.Good C.prog (fun v P=>s.post enc C.prog fn apart l d h W args v P) g o w' B) :
  ReturnsInLeavingWide a C L f .any ((OpenSpec.ofChange s).preRow enc C.prog fn k apart m) (s.post enc C.prog fn apart l d h):=by refine returnsInLeavingWide_of_good N n p ?_;intro w b i _ J _ F r A;have⟨_,_,_,D,q,_,_,_,_,u⟩:=F;have e:D=fn:=Option.some.inj (q.symm.trans E);subst e;obtain⟨⟨I,R⟩,S⟩:=r;have⟨y,z,c,O,_,_⟩:=OpenSpec.pre_parts I;have K:=DataW.Whole.of_heap (w':=w.forCall b i) rq O;have⟨M,g,o,w',B,h1,h2,h3,Q⟩:=x (w.forCall b i) w.heap.size i.args y z c J u K (S.weights O) (R.of_heap rq);exact⟨M,g,o,w',B,h1,h2,h3,Q.mono fun v I=>ChangeSpec.post_blind I⟩
end
def Cg:DataW Unit→List Value
 | .lit (.int k i)=>[.int k i]
 | .lit (.string b)=>[.string ⟨b.toArray⟩]
 | .lit (.bool b)=>[.bool b]
 | _=>[]
def Bs:DataW Unit→List Value
 | .agg ds=>ds.flatMap Cg
 | d=>Cg d
def im:DataW Unit→Array Value
 | .agg ds=>(ds.flatMap Bs).toArray
 | _=>#[]
def tj(cs:Array Value):Obj→Obj
 | .cells _ t frozen=>.cells cs t frozen
 | o=>o
def qn(w:World):World :=
 { w with heap:=((w.heap.modify 1 (tj (im Rows.laid_folio_tokens_entities))).modify 2 (tj (im Rows.laid_unicode_utf8_first))).modify 3 (tj (im Rows.laid_unicode_utf8_acceptRanges)) }
def EJ{H:Type}{enc:TypeId × Value→H}{W:World}{base g:Nat}{a:Nat→Bool}{c:Bool}{cs:List Value}{x:DataW Unit × List MemPlace}(h:DataW.trod (fun _=>()) Tryz.prog W base a c g 334 cs=some x):cs=Bs x.1:=by
 obtain⟨i,n,_,rfl,u,y,j⟩:=DataW.trod_struct Tryz.underlying334 h;rw[si] at u;obtain⟨d,e,f,rfl⟩:∃d e f,cs=[d,e,f]:=by
  rcases cs with _|⟨d,_|⟨e,_|⟨f,_|⟨c3,cs⟩⟩⟩⟩
  case cons.cons.cons.nil=>exact⟨d,e,f,rfl⟩
  all_goals (simp only[List.length_cons,List.length_nil] at u; omega)
 have l:i.length=3:=by simpa using y
 obtain⟨m,o,p,rfl⟩:∃m o p,i=[m,o,p]:=by
  rcases i with _|⟨d,_|⟨e,_|⟨f,_|⟨c3,i⟩⟩⟩⟩
  case cons.cons.cons.nil=>exact⟨d,e,f,rfl⟩
  all_goals (simp only[List.length_cons,List.length_nil] at l; omega)
 have q:DataW.trod (fun _=>()) Tryz.prog W base a c n 9 (([d,e,f].drop 0).take (Tryz.prog.cellsOf 9))=some m:=j 0 _ rfl;have r:DataW.trod (fun _=>()) Tryz.prog W base a c n 21 (([d,e,f].drop 1).take (Tryz.prog.cellsOf 21))=some o:=j 1 _ rfl;have s:DataW.trod (fun _=>()) Tryz.prog W base a c n 4 (([d,e,f].drop 2).take (Tryz.prog.cellsOf 4))=some p:=j 2 _ rfl;rw[xW] at q;rw[DG] at r;rw[F7] at s;have⟨A,t,v,_⟩:=DataW.trod_string Tryz.underlying9 q;have⟨k,h1,e1,_⟩:=DataW.trod_int Tryz.underlying21 r;have⟨b,h2,w⟩:=DataW.trod_bool Tryz.underlying4 s;simp only[List.drop_zero,List.drop_succ_cons,List.take_succ_cons,List.take_zero,List.cons.injEq,and_true] at t h1 h2;subst t h1 h2 v e1 w;rfl
def zB{W:World}{base b:Nat}{a:Nat→Bool}{c:Bool}{cs:List Value}{x:DataW Unit × List MemPlace}(h:DataW.trod (fun _=>()) Tryz.prog W base a c b 335 cs=some x):cs.toArray=im x.1:=by
 obtain⟨e,m,_,rfl,i,n,g⟩:=DataW.trod_array Tryz.underlying335 h;rw[Aj] at i;rw[si] at g;unfold im;simp only;have f:∀(k:Nat),k≤18→cs.take (k*3)=((e.take k).map (·.1)).flatMap Bs:=by
  intro k;induction k with
  | zero=>intro _; simp
  | succ k j =>
   intro l;have d:k<e.length:=oq
   have h1:=g k oq;rw[List.getElem?_eq_getElem d] at h1;have h2:=EJ (H:=Unit) (enc:=fun _=>()) h1;have h3:e.take (k+1)=e.take k++[e[k]]:=by rw[List.take_add_one,List.getElem?_eq_getElem d]; rfl
   rw[show(k+1)*3=k*3+3 by omega,List.take_add,j oq,h2,h3,List.map_append,List.flatMap_append];simp
 have:=f 18 oq;rw[List.take_of_length_le oq,List.take_of_length_le oq] at this;rw[this]
def GS:im Rows.laid_folio_tokens_entities=db.toArray:=kq
def K1{W:World}(c:W.ShapedOpen Tryz.prog)(b:laidMetH Tryz.prog Rows.againRow.laid W):W.heap[1]?=some (.cells db.toArray 335):=by
 have k:laidMet Tryz.prog Rows.againRow.laid W:=by unfold laidMetH at b;rw[show(Rows.againRow.laid.filter fun x=>x.2.handleName?.isSome)=[] by kernel_rfl] at b;exact b
 have⟨o,m,_,_⟩:=k;have⟨_,_,_,_,_,q,_,_,_,_,d,_⟩:=m;have⟨g,t,n,e,p,q2,h1,h2,h3,i,_,_⟩:=d;have j:g=1:=Option.some.inj (h1.symm.trans (show Tryz.prog.globalNamed _=some 1 by kernel_rfl));subst j;have l:t=335:=Option.some.inj (h2.symm.trans (show(Tryz.prog.globals[1]?).map (·.type)=some 335 by kernel_rfl));subst l;have⟨h,f,_,_⟩:=c.1 1 (((begin Tryz.prog (fun _ _=>0) default).world.heap[1]?.bind Obj.row?).getD (#[],0)).1 335 (by decide +kernel) kq;unfold World.var? at h3;rw[h1] at h3;simp only[Option.bind_some,f,Option.some.injEq] at h3;subst h3;have a:=zB i;rw[f];simp only at a;rw[GS] at a;rw[← a]
end Go.Proofs.YtgcaionclkbehaaGreatDoor
