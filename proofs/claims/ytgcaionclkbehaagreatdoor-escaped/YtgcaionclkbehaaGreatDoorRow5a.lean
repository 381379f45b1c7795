import Derived.Test.YtgcaionclkbehaaGreatDoorI7
import Derived.Test.YtgcaionclkbehaaGreatDoorRows
import Derived.Test.YtgcaionclkbehaaGreatDoorCards
import Derived.Test.YtgcaionclkbehaaGreatDoorTie
import Derived.Deep.DeepHandedRow
import Derived.Conc.LeavingOf
import Derived.OpenShut
set_option linter.all false
set_option maxHeartbeats 2000000
set_option maxRecDepth 100000
namespace Go.Proofs.YtgcaionclkbehaaGreatDoor
open Go.ChangeShapes Go.WideShapes Go.ChangeAt Go.RowKit Go.Conc
theorem Rv:ownKnob Tryz.prog.godebug=none:=by kernel_rfl
theorem ur:laidOutB Tryz.prog=true:=by kernel_rfl
theorem Fl:Tryz.prog.cellsOf 9=1:=by kernel_rfl
theorem CY:Tryz.prog.cellsOf 21=1:=by kernel_rfl
theorem Fj:Tryz.prog.cellsOf 4=1:=by kernel_rfl
theorem rH:Tryz.prog.cellsOf 334=3:=by kernel_rfl
theorem zN:Tryz.prog.cellsOf 335=54:=by kernel_rfl
section
variable {H:Type} {enc:TypeId × Value→H}
theorem nw {a:Assume} {C:Checked} {os:Os} {f:FuncId} {fn:Func} {s:ChangeSpec} {conds:List PathCond} {apart fresh handsOn again:Bool} {laid:List (String × DataW Unit)}
  (own:ownKnob C.prog.godebug=.none) (started:os.Started) (Vf:C.prog.funcs[f]?=some fn)
  (witness:∃(w:World) (tape:Tape) (i:Input),w.os=os∧(w.forCall tape i).Shaped C.prog∧i.vars=[]∧Input.okWide C.prog (w.forCall tape i) .any w.heap.size f i ∧
   (OpenSpec.ofChange s).preRow enc C.prog fn conds apart laid (w.forCall tape i).memory i.args∧a.holds C.prog (lone (Frame.enter C.prog f i.args .normal) [] (w.forCall tape i)))
  (runs:∀(W:World) (base:Nat) (args:Array Value) (ds gs:List (DataW H)) (before:List MemPlace),W.ShapedOpen C.prog →
   (∀(j:Nat) t v,fn.params[j]?=some t→args[j]?=some v→Value.okWide C.prog W .any base t v) →
   DataW.Whole enc C.prog fn.params.toList s.vars apart W args.toList ds gs before →
   (DataW.weightsEach C.prog (fn.params.toList++s.plain.varTypes C.prog) (ds++gs)).all (·≤reachBytes)=true →
   laidMetH C.prog laid W →
   ∃M last o w' t',runNT C.prog (M+1) (solo (G (Frame.enter C.prog f args .normal) []) W) #[]=(.ended o w',t')∧runN C.prog M (solo (G (Frame.enter C.prog f args .normal) []) W)=.next last ∧
    step C.prog last=.ended o w'∧Conc.Good C.prog (fun v W'=>s.post enc C.prog fn apart fresh handsOn again W args v W') last o w' t') :
  ReturnsInLeavingWide a C os f .any ((OpenSpec.ofChange s).preRow enc C.prog fn conds apart laid) (s.post enc C.prog fn apart fresh handsOn again):=by
 refine returnsInLeavingWide_of_good own started witness ?_
 intro w tape i _ rV _ BP VK Vm
 obtain ⟨_,_,_,ZW,Vg,_,_,_,_,tl⟩:=BP
 have e:ZW=fn:=Option.some.inj (Vg.symm.trans Vf)
 subst e
 obtain ⟨⟨hp,hl⟩,hz⟩:=VK
 obtain ⟨ds,gs,before,hw,_,_⟩:=OpenSpec.pre_parts hp
 have wK:=DataW.Whole.of_heap (w':=w.forCall tape i) (by rfl) hw
 obtain ⟨M,last,o,w',t',h1,h2,h3,h4⟩:=runs (w.forCall tape i) w.heap.size i.args ds gs before rV tl wK (hz.weights hw) (hl.of_heap (by rfl))
 exact ⟨M,last,o,w',t',h1,h2,h3,h4.mono fun v hp=>ChangeSpec.post_blind hp⟩
end
def B0:DataW Unit→List Value
 | .lit (.int k i)=>[.int k i]
 | .lit (.string b)=>[.string ⟨b.toArray⟩]
 | .lit (.bool b)=>[.bool b]
 | _=>[]
def Bc:DataW Unit→List Value
 | .agg ds=>ds.flatMap B0
 | d=>B0 d
def ib:DataW Unit→Array Value
 | .agg ds=>(ds.flatMap Bc).toArray
 | _=>#[]
def sk (cs:Array Value):Obj→Obj
 | .cells _ t frozen=>.cells cs t frozen
 | o=>o
def pQ (w:World):World :=
 { w with heap:=((w.heap.modify 1 (sk (ib Rows.laid_folio_tokens_entities))).modify 2 (sk (ib Rows.laid_unicode_utf8_first))).modify 3 (sk (ib Rows.laid_unicode_utf8_acceptRanges)) }
theorem D7 {H:Type} {enc:TypeId × Value→H} {W:World} {base fuel:Nat} {spare:Nat→Bool} {held:Bool} {cs:List Value} {x:DataW Unit × List MemPlace} (h:DataW.trod (fun _=>()) Tryz.prog W base spare held fuel 334 cs=some x):cs=Bc x.1:=by
 obtain ⟨xs,n,_,rfl,hl,hx,hf⟩:=DataW.trod_struct Tryz.underlying334 h
 rw [rH] at hl
 obtain ⟨c0,c1,c2,rfl⟩:∃c0 c1 c2,cs=[c0,c1,c2]:=by
  rcases cs with _|⟨c0,_|⟨c1,_|⟨c2,_|⟨c3,cs⟩⟩⟩⟩
  case cons.cons.cons.nil=>exact ⟨c0,c1,c2,rfl⟩
  all_goals (simp only [List.length_cons,List.length_nil] at hl; omega)
 have hxl:xs.length=3:=by simpa using hx
 obtain ⟨x0,x1,x2,rfl⟩:∃x0 x1 x2,xs=[x0,x1,x2]:=by
  rcases xs with _|⟨c0,_|⟨c1,_|⟨c2,_|⟨c3,xs⟩⟩⟩⟩
  case cons.cons.cons.nil=>exact ⟨c0,c1,c2,rfl⟩
  all_goals (simp only [List.length_cons,List.length_nil] at hxl; omega)
 have f0:DataW.trod (fun _=>()) Tryz.prog W base spare held n 9 (([c0,c1,c2].drop 0).take (Tryz.prog.cellsOf 9))=some x0:=hf 0 _ rfl
 have f1:DataW.trod (fun _=>()) Tryz.prog W base spare held n 21 (([c0,c1,c2].drop 1).take (Tryz.prog.cellsOf 21))=some x1:=hf 1 _ rfl
 have f2:DataW.trod (fun _=>()) Tryz.prog W base spare held n 4 (([c0,c1,c2].drop 2).take (Tryz.prog.cellsOf 4))=some x2:=hf 2 _ rfl
 rw [Fl] at f0
 rw [CY] at f1
 rw [Fj] at f2
 obtain ⟨A,h0,e0,_⟩:=DataW.trod_string Tryz.underlying9 f0
 obtain ⟨k,h1,e1,_⟩:=DataW.trod_int Tryz.underlying21 f1
 obtain ⟨b,h2,e2⟩:=DataW.trod_bool Tryz.underlying4 f2
 simp only [List.drop_zero,List.drop_succ_cons,List.take_succ_cons,List.take_zero,List.cons.injEq,and_true] at h0 h1 h2
 subst h0 h1 h2 e0 e1 e2
 rfl
theorem yW {W:World} {base fuel:Nat} {spare:Nat→Bool} {held:Bool} {cs:List Value} {x:DataW Unit × List MemPlace} (h:DataW.trod (fun _=>()) Tryz.prog W base spare held fuel 335 cs=some x):cs.toArray=ib x.1:=by
 obtain ⟨xs,m,_,rfl,hl,hx,hf⟩:=DataW.trod_array Tryz.underlying335 h
 rw [zN] at hl
 rw [rH] at hf
 unfold ib
 simp only
 have key:∀(k:Nat),k≤18→cs.take (k*3)=((xs.take k).map (·.1)).flatMap Bc:=by
  intro k
  induction k with
  | zero=>intro _; simp
  | succ k ih =>
   intro hk
   have eH:k<xs.length:=by omega
   have h1:=hf k (by omega)
   rw [List.getElem?_eq_getElem eH] at h1
   have h2:=D7 (H:=Unit) (enc:=fun _=>()) h1
   have h3:xs.take (k+1)=xs.take k++[xs[k]]:=by rw [List.take_add_one,List.getElem?_eq_getElem eH]; rfl
   rw [show (k+1)*3=k*3+3 by omega,List.take_add,ih (by omega),h2,h3,List.map_append,List.flatMap_append]
   simp
 have:=key 18 (by omega)
 rw [List.take_of_length_le (by omega),List.take_of_length_le (by omega)] at this
 rw [this]
theorem Gs:ib Rows.laid_folio_tokens_entities=cY.toArray:=by kernel_rfl
theorem Ks {W:World} (rV:W.ShapedOpen Tryz.prog) (hl:laidMetH Tryz.prog Rows.escapedRow.laid W):W.heap[1]?=some (.cells cY.toArray 335):=by
 have hm:laidMet Tryz.prog Rows.escapedRow.laid W:=by
  unfold laidMetH at hl
  rw [show (Rows.escapedRow.laid.filter fun x=>x.2.handleName?.isSome)=[] by kernel_rfl] at hl
  exact hl
 obtain ⟨ps,hv,_,_⟩:=hm
 obtain ⟨_,_,_,_,_,q,_,_,_,_,QJ,_⟩:=hv
 obtain ⟨g,t,cs,fuel,p,q2,h1,h2,h3,h4,_,_⟩:=QJ
 have hg:g=1:=Option.some.inj (h1.symm.trans (show Tryz.prog.globalNamed _=some 1 by kernel_rfl))
 subst hg
 have ht:t=335:=Option.some.inj (h2.symm.trans (show (Tryz.prog.globals[1]?).map (·.type)=some 335 by kernel_rfl))
 subst ht
 obtain ⟨cs2,r1,_,_⟩:=rV.1 1 (((begin Tryz.prog (fun _ _=>0) default).world.heap[1]?.bind Obj.row?).getD (#[],0)).1 335 (by decide +kernel) (by kernel_rfl)
 unfold World.var? at h3
 rw [h1] at h3
 simp only [Option.bind_some,r1,Option.some.injEq] at h3
 subst h3
 have hc:=yW h4
 rw [r1]
 simp only at hc
 rw [Gs] at hc
 rw [← hc]
end Go.Proofs.YtgcaionclkbehaaGreatDoor
