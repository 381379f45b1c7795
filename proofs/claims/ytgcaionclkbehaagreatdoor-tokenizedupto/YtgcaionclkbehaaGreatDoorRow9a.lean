import Derived.Test.YtgcaionclkbehaaGreatDoorX82
import Derived.Test.YtgcaionclkbehaaGreatDoorRows
import Derived.Test.YtgcaionclkbehaaGreatDoorCards
import Derived.Test.YtgcaionclkbehaaGreatDoorTie
import Derived.Deep.DeepHandedRow
import Derived.Conc.LeavingOf
import Derived.OpenShut
set_option linter.all false
set_option maxHeartbeats 0
set_option maxRecDepth 100000
namespace Go.Proofs.YtgcaionclkbehaaGreatDoor
open Go.ChangeShapes Go.WideShapes Go.ChangeAt Go.RowKit Go.Conc

theorem Xo:ownKnob Tryz.prog.godebug=none:=by kernel_rfl
theorem Iw:laidOutB Tryz.prog=true:=by kernel_rfl
theorem Kn:Tryz.prog.cellsOf 3=1:=by kernel_rfl
theorem BO:Tryz.prog.cellsOf 9=1:=by kernel_rfl
theorem HT:Tryz.prog.cellsOf 21=1:=by kernel_rfl
theorem Ko:Tryz.prog.cellsOf 4=1:=by kernel_rfl
theorem vD:Tryz.prog.cellsOf 334=3:=by kernel_rfl
theorem D6:Tryz.prog.cellsOf 335=54:=by kernel_rfl
theorem addr_add(b off n:Nat):Addr.add ⟨b,off,none⟩ n=⟨b,off+n,none⟩:=by unfold Addr.add;split<;>simp_all
section
variable {H:Type}{enc:TypeId × Value->H}
theorem qN{a:Assume}{C:Checked}{os:Os}{f:FuncId}{fn:Func}{s:ChangeSpec}{kk:(H:Type)->List (DataW H)->Bool}{conds:List PathCond}{apart fresh handsOn again:Bool}{laid:List (String × DataW Unit)}
 (own:ownKnob C.prog.godebug=.none)(started:os.Started)(ZJ:C.prog.funcs[f]?=some fn)
 (witness:∃(w:World) (tape:Tape) (i:Input),w.os=os/\(w.forCall tape i).Shaped C.prog/\i.vars=[]/\Input.okWide C.prog (w.forCall tape i) .any w.heap.size f i /\
   ({ OpenSpec.ofChange s with cond:=some kk }:OpenSpec).preRow enc C.prog fn conds apart laid (w.forCall tape i).memory i.args/\a.holds C.prog (lone (Frame.enter C.prog f i.args .normal) [] (w.forCall tape i)))
 (runs:∀(W:World) (base:Nat) (args:Array Value) (ds gs:List (DataW H)) (before:List MemPlace),W.ShapedOpen C.prog ->
   (∀(j:Nat) t v,fn.params[j]?=some t->args[j]?=some v->Value.okWide C.prog W .any base t v) ->
   DataW.Whole enc C.prog fn.params.toList s.vars apart W args.toList ds gs before->kk H (ds++gs)=true->laidMetH C.prog laid W ->
   ∃M last o w' t',runNT C.prog (M+1) (solo (G (Frame.enter C.prog f args .normal) []) W) #[]=(.ended o w',t')/\runN C.prog M (solo (G (Frame.enter C.prog f args .normal) []) W)=.next last /\
    step C.prog last=.ended o w'/\Conc.Good C.prog (λv W'=>s.post enc C.prog fn apart fresh handsOn again W args v W') last o w' t') :
  ReturnsInLeavingWide a C os f .any (({ OpenSpec.ofChange s with cond:=some kk }:OpenSpec).preRow enc C.prog fn conds apart laid) (s.post enc C.prog fn apart fresh handsOn again):=by refine returnsInLeavingWide_of_good own started witness ?_;intro w tape i _ Dx _ Ae Tp ZN;have⟨_,_,_,fn',ZK,_,_,_,_,Lh⟩:=Ae;have e:fn'=fn:=Option.some.inj (ZK.symm.trans ZJ);subst e;obtain⟨⟨hp,hl⟩,hz⟩:=Tp;have⟨ds,gs,before,hw,_,hc⟩:=OpenSpec.pre_parts hp;have Li:=DataW.Whole.of_heap (w':=w.forCall tape i) (by rfl) hw;have⟨M,last,o,w',t',h1,h2,h3,h4⟩:=runs (w.forCall tape i) w.heap.size i.args ds gs before Dx Lh Li (hc _ rfl) (hl.of_heap (by rfl));exact⟨M,last,o,w',t',h1,h2,h3,h4.mono λv hp=>ChangeSpec.post_blind hp⟩
end
def GB:DataW Unit->List Value
 | .lit (.int k i)=>[.int k i]
 | .lit (.string b)=>[.string ⟨b.toArray⟩]
 | .lit (.bool b)=>[.bool b]
 | _=>[]
def Ft:DataW Unit->List Value
 | .agg ds=>ds.flatMap GB
 | d=>GB d
def jU:DataW Unit->Array Value
 | .agg ds=>(ds.flatMap Ft).toArray
 | _=>#[]
def wC(cs:Array Value):Obj->Obj
 | .cells _ t frozen=>.cells cs t frozen
 | o=>o
def tF(w:World):World :=
 { w with heap:=((w.heap.modify 1 (wC (jU Rows.laid_folio_tokens_entities))).modify 2 (wC (jU Rows.laid_unicode_utf8_first))).modify 3 (wC (jU Rows.laid_unicode_utf8_acceptRanges)) }

/-! ### the table of names -/
theorem IW{H:Type}{enc:TypeId × Value->H}{W:World}{base fuel:Nat}{spare:Nat->Bool}{held:Bool}{cs:List Value}{x:DataW Unit × List MemPlace}(h:DataW.trod (λ_=>()) Tryz.prog W base spare held fuel 334 cs=some x):cs=Ft x.1:=by
 obtain⟨xs,n,_,rfl,hl,hx,hf⟩:=DataW.trod_struct Tryz.underlying334 h;rw[vD] at hl;obtain⟨c0,c1,c2,rfl⟩:∃c0 c1 c2,cs=[c0,c1,c2]:=by
  rcases cs with _|⟨c0,_|⟨c1,_|⟨c2,_|⟨c3,cs⟩⟩⟩⟩
  case cons.cons.cons.nil=>exact⟨c0,c1,c2,rfl⟩
  all_goals (simp only[List.length_cons,List.length_nil] at hl;omega)
 have WW:xs.length=3:=by simpa using hx
 obtain⟨x0,x1,x2,rfl⟩:∃x0 x1 x2,xs=[x0,x1,x2]:=by
  rcases xs with _|⟨c0,_|⟨c1,_|⟨c2,_|⟨c3,xs⟩⟩⟩⟩
  case cons.cons.cons.nil=>exact⟨c0,c1,c2,rfl⟩
  all_goals (simp only[List.length_cons,List.length_nil] at WW;omega)
 have f0:DataW.trod (λ_=>()) Tryz.prog W base spare held n 9 (([c0,c1,c2].drop 0).take (Tryz.prog.cellsOf 9))=some x0:=hf 0 _ rfl;have f1:DataW.trod (λ_=>()) Tryz.prog W base spare held n 21 (([c0,c1,c2].drop 1).take (Tryz.prog.cellsOf 21))=some x1:=hf 1 _ rfl;have f2:DataW.trod (λ_=>()) Tryz.prog W base spare held n 4 (([c0,c1,c2].drop 2).take (Tryz.prog.cellsOf 4))=some x2:=hf 2 _ rfl;rw[BO] at f0;rw[HT] at f1;rw[Ko] at f2;have⟨A,h0,e0,_⟩:=DataW.trod_string Tryz.underlying9 f0;have⟨k,h1,e1,_⟩:=DataW.trod_int Tryz.underlying21 f1;have⟨b,h2,e2⟩:=DataW.trod_bool Tryz.underlying4 f2;simp only[List.drop_zero,List.drop_succ_cons,List.take_succ_cons,List.take_zero,List.cons.injEq,and_true] at h0 h1 h2;subst h0 h1 h2 e0 e1 e2;rfl
theorem C5{W:World}{base fuel:Nat}{spare:Nat->Bool}{held:Bool}{cs:List Value}{x:DataW Unit × List MemPlace}(h:DataW.trod (λ_=>()) Tryz.prog W base spare held fuel 335 cs=some x):cs.toArray=jU x.1:=by
 obtain⟨xs,m,_,rfl,hl,hx,hf⟩:=DataW.trod_array Tryz.underlying335 h;rw[D6] at hl;rw[vD] at hf;unfold jU;simp only;have key:∀(k:Nat),k<=18->cs.take (k*3)=((xs.take k).map (·.1)).flatMap Ft:=by
  intro k;induction k with
  | zero=>intro _;simp
  | succ k ih =>
   intro hk;have iX:k<xs.length:=by omega
   have h1:=hf k (by omega);rw[List.getElem?_eq_getElem iX] at h1;have h2:=IW (H:=Unit) (enc:=λ_=>()) h1;have h3:xs.take (k+1)=xs.take k++[xs[k]]:=by rw[List.take_add_one,List.getElem?_eq_getElem iX];rfl
   rw[show(k+1)*3=k*3+3 by omega,List.take_add,ih (by omega),h2,h3,List.map_append,List.flatMap_append];simp
 have:=key 18 (by omega);rw[List.take_of_length_le (by omega),List.take_of_length_le (by omega)] at this;rw[this]
theorem Ly:jU Rows.laid_folio_tokens_entities=eZ.toArray:=by kernel_rfl
theorem BN:Tryz.prog.cellsOf 5=1:=by kernel_rfl
theorem D7:Tryz.prog.cellsOf 344=2:=by kernel_rfl
theorem R9:Tryz.prog.cellsOf 342=256:=by kernel_rfl
theorem Sa:Tryz.prog.cellsOf 345=32:=by kernel_rfl
section
variable {W:World}{base fuel:Nat}{spare:Nat->Bool}{held:Bool}{cs:List Value}{x:DataW Unit × List MemPlace}{ds:List (DataW Unit)}
theorem we{k:Nat}{n:Int}{v:Value}(h:(cs.drop k).take 1=[v]):cs[k]?=some v:=by have:=congrArg (λz:List Value=>z[0]?) h;simp only[List.getElem?_take,List.getElem?_drop] at this;simpa using this
theorem Em(h:DataW.trod (λ_=>()) Tryz.prog W base spare held fuel 342 cs=some x)(hx:x.1=.agg ds)(hd:ds[239]?=some (.lit (.int .u8 3))):cs[239]?=some (.int .u8 3):=by obtain⟨xs,m,_,rfl,hl,WW,hf⟩:=DataW.trod_array Tryz.underlying342 h;simp only[DataW.agg.injEq] at hx;subst hx;rw[List.getElem?_map] at hd;have⟨y,hy,Pc⟩:=Option.map_eq_some_iff.1 hd;have h1:=hf 239 (by omega);rw[hy,BN] at h1;have⟨n,h2,h3,_⟩:=DataW.trod_int Tryz.underlying5 h1;rw[h3] at Pc;simp only[DataW.lit.injEq,Lit.int.injEq,true_and] at Pc;subst Pc;exact we (n:=0) h2
theorem HA(h:DataW.trod (λ_=>()) Tryz.prog W base spare held fuel 345 cs=some x)(hx:x.1=.agg ds)(hd:ds[0]?=some (.agg [.lit (.int .u8 128),.lit (.int .u8 191)])):cs[0]?=some (.int .u8 128)/\cs[1]?=some (.int .u8 191):=by
 obtain⟨xs,m,_,rfl,hl,WW,hf⟩:=DataW.trod_array Tryz.underlying345 h;simp only[DataW.agg.injEq] at hx;subst hx;rw[List.getElem?_map] at hd;have⟨y,hy,Pc⟩:=Option.map_eq_some_iff.1 hd;have h1:=hf 0 (by omega);rw[hy,D7] at h1;obtain⟨zs,m2,_,rfl,hl2,hx2,Q9⟩:=DataW.trod_struct Tryz.underlying344 h1;simp only[DataW.agg.injEq] at Pc;have hz:zs.length=2:=by simpa using hx2
 obtain⟨z0,z1,rfl⟩:∃z0 z1,zs=[z0,z1]:=by
  rcases zs with _|⟨c0,_|⟨c1,_|⟨c2,zs⟩⟩⟩
  case cons.cons.nil=>exact⟨c0,c1,rfl⟩
  all_goals (simp only[List.length_cons,List.length_nil] at hz;omega)
 simp only[List.map_cons,List.map_nil,List.cons.injEq,and_true] at Pc;have f0:DataW.trod (λ_=>()) Tryz.prog W base spare held m2 5 ((((cs.drop (0*2)).take 2).drop 0).take (Tryz.prog.cellsOf 5))=some z0:=Q9 0 _ rfl;have f1:DataW.trod (λ_=>()) Tryz.prog W base spare held m2 5 ((((cs.drop (0*2)).take 2).drop 1).take (Tryz.prog.cellsOf 5))=some z1:=Q9 1 _ rfl;rw[BN] at f0 f1;have⟨n0,p0,e0,_⟩:=DataW.trod_int Tryz.underlying5 f0;have⟨n1,p1,e1,_⟩:=DataW.trod_int Tryz.underlying5 f1;rw[e0,e1] at Pc;simp only[DataW.lit.injEq,Lit.int.injEq,true_and] at Pc;obtain⟨rfl,rfl⟩:=Pc;have q0:=we (n:=0) p0;have q1:=we (n:=0) p1;rw[List.getElem?_take,if_pos (by decide),List.getElem?_drop] at q0 q1;exact⟨by simpa using q0,by simpa using q1⟩
end
theorem EB:∃ds,Rows.laid_unicode_utf8_first=.agg ds/\ds[239]?=some (.lit (.int .u8 3)):=⟨_,rfl,by kernel_rfl⟩
theorem Lx:∃ds,(Rows.laid_unicode_utf8_acceptRanges:DataW Unit)=.agg ds/\ds[0]?=some (.agg [.lit (.int .u8 128),.lit (.int .u8 191)]):=⟨_,rfl,rfl⟩
theorem Qi{W:World}(Dx:W.ShapedOpen Tryz.prog)(hl:laidMetH Tryz.prog Rows.tokenizedUptoRow.laid W):W.heap[1]?=some (.cells eZ.toArray 335)/\Oh W:=by
 have hm:laidMet Tryz.prog Rows.tokenizedUptoRow.laid W:=by unfold laidMetH at hl;rw[show(Rows.tokenizedUptoRow.laid.filter λx=>x.2.handleName?.isSome)=[] by kernel_rfl] at hl;exact hl
 have⟨ps,hv,_,_⟩:=hm;have⟨g3,t3,cs3,fuel3,p3,q3,a1,a2,a3,a4,Rk,_⟩:=hv;have⟨g,t,cs,fuel,p,q2,h1,h2,h3,h4,hv3,_⟩:=Rk;have⟨g2,t2,xo,fuel2,p2,q4,b1,b2,b3,b4,_,_⟩:=hv3;have hg:g=1:=Option.some.inj (h1.symm.trans (show Tryz.prog.globalNamed _=some 1 by kernel_rfl));subst hg;have ht:t=335:=Option.some.inj (h2.symm.trans (show(Tryz.prog.globals[1]?).map (·.type)=some 335 by kernel_rfl));subst ht;have hg:g3=3:=Option.some.inj (a1.symm.trans (show Tryz.prog.globalNamed _=some 3 by kernel_rfl));subst hg;have ht:t3=345:=Option.some.inj (a2.symm.trans (show(Tryz.prog.globals[3]?).map (·.type)=some 345 by kernel_rfl));subst ht;have hg:g2=2:=Option.some.inj (b1.symm.trans (show Tryz.prog.globalNamed _=some 2 by kernel_rfl));subst hg;have ht:t2=342:=Option.some.inj (b2.symm.trans (show(Tryz.prog.globals[2]?).map (·.type)=some 342 by kernel_rfl));subst ht;have⟨c1,r1,_,_⟩:=Dx.1 1 (((begin Tryz.prog (λ_ _=>0) default).world.heap[1]?.bind Obj.row?).getD (#[],0)).1 335 (by decide +kernel) (by kernel_rfl);have⟨c2,r2,_,_⟩:=Dx.1 2 (((begin Tryz.prog (λ_ _=>0) default).world.heap[2]?.bind Obj.row?).getD (#[],0)).1 342 (by decide +kernel) (by kernel_rfl);have⟨c3,r3,_,_⟩:=Dx.1 3 (((begin Tryz.prog (λ_ _=>0) default).world.heap[3]?.bind Obj.row?).getD (#[],0)).1 345 (by decide +kernel) (by kernel_rfl);unfold World.var? at h3 a3 b3;rw[h1] at h3;rw[a1] at a3;rw[b1] at b3;simp only[Option.bind_some,r1,Option.some.injEq] at h3;simp only[Option.bind_some,r2,Option.some.injEq] at b3;simp only[Option.bind_some,r3,Option.some.injEq] at a3;subst h3 a3 b3;refine⟨?_,(Array.getElem?_eq_some_iff.1 r3).1,?_,?_⟩
 .have hc:=C5 h4;rw[r1];simp only at hc;rw[Ly] at hc;rw[<-hc]
 .have⟨ds,e,hd⟩:=EB
  have:=Em b4 e hd;simp only[World.cell?,r2];simpa using this
 .have⟨ds,e,hd⟩:=Lx
  have:=HA a4 e hd;simp only[World.cell?,r3];simpa using this
