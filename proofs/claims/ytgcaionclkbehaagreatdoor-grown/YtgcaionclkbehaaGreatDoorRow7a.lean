import Derived.Test.YtgcaionclkbehaaGreatDoorM18
import Derived.Test.YtgcaionclkbehaaGreatDoorCards
import Derived.Test.YtgcaionclkbehaaGreatDoorTie
import Derived.Deep.DeepHandedRow
import Derived.Conc.LeavingOf
import Derived.OpenShut
set_option linter.all false
set_option maxHeartbeats 2000000
set_option maxRecDepth 100000
namespace Go.Proofs.YtgcaionclkbehaaGreatDoor
open Go.ChangeShapes Go.WideShapes Go.ChangeAt Go.RowKit Go.Conc
theorem UM:ownKnob Tryz.prog.godebug=none:=by kernel_rfl
theorem Ge:laidOutB Tryz.prog=true:=by kernel_rfl
theorem HU:Tryz.prog.cellsOf 9=1:=by kernel_rfl
theorem Fp:Tryz.prog.cellsOf 21=1:=by kernel_rfl
theorem HT:Tryz.prog.cellsOf 4=1:=by kernel_rfl
theorem tB:Tryz.prog.cellsOf 334=3:=by kernel_rfl
theorem BP:Tryz.prog.cellsOf 335=54:=by kernel_rfl
section
variable {H:Type} {enc:TypeId × Value->H}
theorem oN {a:Assume} {C:Checked} {os:Os} {f:FuncId} {fn:Func} {s:ChangeSpec} {conds:List PathCond} {apart fresh handsOn again:Bool} {laid:List (String × DataW Unit)}
  (own:ownKnob C.prog.godebug=.none) (started:os.Started) (X9:C.prog.funcs[f]?=some fn)
  (witness:∃(w:World) (tape:Tape) (i:Input),w.os=os/\(w.forCall tape i).Shaped C.prog/\i.vars=[]/\Input.okWide C.prog (w.forCall tape i) .any w.heap.size f i /\
   (OpenSpec.ofChange s).preRow enc C.prog fn conds apart laid (w.forCall tape i).memory i.args/\a.holds C.prog (lone (Frame.enter C.prog f i.args .normal) [] (w.forCall tape i)))
  (runs:∀(W:World) (base:Nat) (args:Array Value) (ds gs:List (DataW H)) (before:List MemPlace),W.ShapedOpen C.prog ->
   (∀(j:Nat) t v,fn.params[j]?=some t->args[j]?=some v->Value.okWide C.prog W .any base t v) ->
   DataW.Whole enc C.prog fn.params.toList s.vars apart W args.toList ds gs before ->
   (DataW.weightsEach C.prog (fn.params.toList++s.plain.varTypes C.prog) (ds++gs)).all (·<=reachBytes)=true ->
   laidMetH C.prog laid W ->
   ∃M last o w' t',runNT C.prog (M+1) (solo (G (Frame.enter C.prog f args .normal) []) W) #[]=(.ended o w',t')/\runN C.prog M (solo (G (Frame.enter C.prog f args .normal) []) W)=.next last /\
    step C.prog last=.ended o w'/\Conc.Good C.prog (λv W'=>s.post enc C.prog fn apart fresh handsOn again W args v W') last o w' t') :
  ReturnsInLeavingWide a C os f .any ((OpenSpec.ofChange s).preRow enc C.prog fn conds apart laid) (s.post enc C.prog fn apart fresh handsOn again):=by
 refine returnsInLeavingWide_of_good own started witness ?_
 intro w tape i _ Bw _ Cm Yw Ye
 obtain ⟨_,_,_,fn',Ya,_,_,_,_,Md⟩:=Cm
 have e:fn'=fn:=Option.some.inj (Ya.symm.trans X9)
 subst e
 obtain ⟨⟨hp,hl⟩,hz⟩:=Yw
 obtain ⟨ds,gs,before,hw,_,_⟩:=OpenSpec.pre_parts hp
 have Qp:=DataW.Whole.of_heap (w':=w.forCall tape i) (by rfl) hw
 obtain ⟨M,last,o,w',t',h1,h2,h3,h4⟩:=runs (w.forCall tape i) w.heap.size i.args ds gs before Bw Md Qp (hz.weights hw) (hl.of_heap (by rfl))
 exact ⟨M,last,o,w',t',h1,h2,h3,h4.mono λv hp=>ChangeSpec.post_blind hp⟩
end
def Eh:DataW Unit->List Value
 | .lit (.int k i)=>[.int k i]
 | .lit (.string b)=>[.string ⟨b.toArray⟩]
 | .lit (.bool b)=>[.bool b]
 | _=>[]
def Db:DataW Unit->List Value
 | .agg ds=>ds.flatMap Eh
 | d=>Eh d
def iJ:DataW Unit->Array Value
 | .agg ds=>(ds.flatMap Db).toArray
 | _=>#[]
def uD (cs:Array Value):Obj->Obj
 | .cells _ t frozen=>.cells cs t frozen
 | o=>o
def ri (w:World):World :=
 { w with heap:=((w.heap.modify 1 (uD (iJ Rows.laid_folio_tokens_entities))).modify 2 (uD (iJ Rows.laid_unicode_utf8_first))).modify 3 (uD (iJ Rows.laid_unicode_utf8_acceptRanges)) }
theorem GK {H:Type} {enc:TypeId × Value->H} {W:World} {base fuel:Nat} {spare:Nat->Bool} {held:Bool} {cs:List Value} {x:DataW Unit × List MemPlace} (h:DataW.trod (λ_=>()) Tryz.prog W base spare held fuel 334 cs=some x):cs=Db x.1:=by
 obtain ⟨xs,n,_,rfl,hl,hx,hf⟩:=DataW.trod_struct Tryz.underlying334 h
 rw [tB] at hl
 obtain ⟨c0,c1,c2,rfl⟩:∃c0 c1 c2,cs=[c0,c1,c2]:=by
  rcases cs with _|⟨c0,_|⟨c1,_|⟨c2,_|⟨c3,cs⟩⟩⟩⟩
  case cons.cons.cons.nil=>exact ⟨c0,c1,c2,rfl⟩
  all_goals (simp only [List.length_cons,List.length_nil] at hl; omega)
 have T0:xs.length=3:=by simpa using hx
 obtain ⟨x0,x1,x2,rfl⟩:∃x0 x1 x2,xs=[x0,x1,x2]:=by
  rcases xs with _|⟨c0,_|⟨c1,_|⟨c2,_|⟨c3,xs⟩⟩⟩⟩
  case cons.cons.cons.nil=>exact ⟨c0,c1,c2,rfl⟩
  all_goals (simp only [List.length_cons,List.length_nil] at T0; omega)
 have f0:DataW.trod (λ_=>()) Tryz.prog W base spare held n 9 (([c0,c1,c2].drop 0).take (Tryz.prog.cellsOf 9))=some x0:=hf 0 _ rfl
 have f1:DataW.trod (λ_=>()) Tryz.prog W base spare held n 21 (([c0,c1,c2].drop 1).take (Tryz.prog.cellsOf 21))=some x1:=hf 1 _ rfl
 have f2:DataW.trod (λ_=>()) Tryz.prog W base spare held n 4 (([c0,c1,c2].drop 2).take (Tryz.prog.cellsOf 4))=some x2:=hf 2 _ rfl
 rw [HU] at f0
 rw [Fp] at f1
 rw [HT] at f2
 obtain ⟨A,h0,e0,_⟩:=DataW.trod_string Tryz.underlying9 f0
 obtain ⟨k,h1,e1,_⟩:=DataW.trod_int Tryz.underlying21 f1
 obtain ⟨b,h2,e2⟩:=DataW.trod_bool Tryz.underlying4 f2
 simp only [List.drop_zero,List.drop_succ_cons,List.take_succ_cons,List.take_zero,List.cons.injEq,and_true] at h0 h1 h2
 subst h0 h1 h2 e0 e1 e2
 rfl
theorem A7 {W:World} {base fuel:Nat} {spare:Nat->Bool} {held:Bool} {cs:List Value} {x:DataW Unit × List MemPlace} (h:DataW.trod (λ_=>()) Tryz.prog W base spare held fuel 335 cs=some x):cs.toArray=iJ x.1:=by
 obtain ⟨xs,m,_,rfl,hl,hx,hf⟩:=DataW.trod_array Tryz.underlying335 h
 rw [BP] at hl
 rw [tB] at hf
 unfold iJ
 simp only
 have key:∀(k:Nat),k<=18->cs.take (k*3)=((xs.take k).map (·.1)).flatMap Db:=by
  intro k
  induction k with
  | zero=>intro _; simp
  | succ k ih =>
   intro hk
   have kF:k<xs.length:=by omega
   have h1:=hf k (by omega)
   rw [List.getElem?_eq_getElem kF] at h1
   have h2:=GK (H:=Unit) (enc:=λ_=>()) h1
   have h3:xs.take (k+1)=xs.take k++[xs[k]]:=by rw [List.take_add_one,List.getElem?_eq_getElem kF]; rfl
   rw [show (k+1)*3=k*3+3 by omega,List.take_add,ih (by omega),h2,h3,List.map_append,List.flatMap_append]
   simp
 have:=key 18 (by omega)
 rw [List.take_of_length_le (by omega),List.take_of_length_le (by omega)] at this
 rw [this]
theorem Jg:iJ Rows.laid_folio_tokens_entities=cR.toArray:=by kernel_rfl
theorem yX:Tryz.prog.cellsOf 5=1:=by kernel_rfl
theorem BQ:Tryz.prog.cellsOf 344=2:=by kernel_rfl
section
variable {W:World} {base fuel:Nat} {spare:Nat->Bool} {held:Bool} {cs:List Value} {x:DataW Unit × List MemPlace} {ds:List (DataW Unit)}
theorem uv {k:Nat} {n:Int} {v:Value} (h:(cs.drop k).take 1=[v]):cs[k]?=some v:=by
 have:=congrArg (λz:List Value=>z[0]?) h
 simp only [List.getElem?_take,List.getElem?_drop] at this
 simpa using this
theorem Cb (h:DataW.trod (λ_=>()) Tryz.prog W base spare held fuel 342 cs=some x) (hx:x.1=.agg ds) (hd:ds[239]?=some (.lit (.int .u8 3))):cs[239]?=some (.int .u8 3):=by
 obtain ⟨xs,m,_,rfl,hl,T0,hf⟩:=DataW.trod_array Tryz.underlying342 h
 simp only [DataW.agg.injEq] at hx
 subst hx
 rw [List.getElem?_map] at hd
 obtain ⟨y,hy,Mf⟩:=Option.map_eq_some_iff.1 hd
 have h1:=hf 239 (by omega)
 rw [hy,yX] at h1
 obtain ⟨n,h2,h3,_⟩:=DataW.trod_int Tryz.underlying5 h1
 rw [h3] at Mf
 simp only [DataW.lit.injEq,Lit.int.injEq,true_and] at Mf
 subst Mf
 exact uv (n:=0) h2
theorem Fb (h:DataW.trod (λ_=>()) Tryz.prog W base spare held fuel 345 cs=some x) (hx:x.1=.agg ds) (hd:ds[0]?=some (.agg [.lit (.int .u8 128),.lit (.int .u8 191)])):cs[0]?=some (.int .u8 128)/\cs[1]?=some (.int .u8 191):=by
 obtain ⟨xs,m,_,rfl,hl,T0,hf⟩:=DataW.trod_array Tryz.underlying345 h
 simp only [DataW.agg.injEq] at hx
 subst hx
 rw [List.getElem?_map] at hd
 obtain ⟨y,hy,Mf⟩:=Option.map_eq_some_iff.1 hd
 have h1:=hf 0 (by omega)
 rw [hy,BQ] at h1
 obtain ⟨zs,m2,_,rfl,hl2,hx2,L5⟩:=DataW.trod_struct Tryz.underlying344 h1
 simp only [DataW.agg.injEq] at Mf
 have hz:zs.length=2:=by simpa using hx2
 obtain ⟨z0,z1,rfl⟩:∃z0 z1,zs=[z0,z1]:=by
  rcases zs with _|⟨c0,_|⟨c1,_|⟨c2,zs⟩⟩⟩
  case cons.cons.nil=>exact ⟨c0,c1,rfl⟩
  all_goals (simp only [List.length_cons,List.length_nil] at hz; omega)
 simp only [List.map_cons,List.map_nil,List.cons.injEq,and_true] at Mf
 have f0:DataW.trod (λ_=>()) Tryz.prog W base spare held m2 5 ((((cs.drop (0*2)).take 2).drop 0).take (Tryz.prog.cellsOf 5))=some z0:=L5 0 _ rfl
 have f1:DataW.trod (λ_=>()) Tryz.prog W base spare held m2 5 ((((cs.drop (0*2)).take 2).drop 1).take (Tryz.prog.cellsOf 5))=some z1:=L5 1 _ rfl
 rw [yX] at f0 f1
 obtain ⟨n0,p0,e0,_⟩:=DataW.trod_int Tryz.underlying5 f0
 obtain ⟨n1,p1,e1,_⟩:=DataW.trod_int Tryz.underlying5 f1
 rw [e0,e1] at Mf
 simp only [DataW.lit.injEq,Lit.int.injEq,true_and] at Mf
 obtain ⟨rfl,rfl⟩:=Mf
 have q0:=uv (n:=0) p0
 have q1:=uv (n:=0) p1
 rw [List.getElem?_take,if_pos (by decide),List.getElem?_drop] at q0 q1
 exact ⟨by simpa using q0,by simpa using q1⟩
end
theorem Cp:∃ds,Rows.laid_unicode_utf8_first=.agg ds/\ds[239]?=some (.lit (.int .u8 3)):=⟨_,rfl,by kernel_rfl⟩
theorem Jf:∃ds,(Rows.laid_unicode_utf8_acceptRanges:DataW Unit)=.agg ds/\ds[0]?=some (.agg [.lit (.int .u8 128),.lit (.int .u8 191)]):=⟨_,rfl,rfl⟩
theorem Nz {W:World} (Bw:W.ShapedOpen Tryz.prog) (hl:laidMetH Tryz.prog Rows.grownRow.laid W):W.heap[1]?=some (.cells cR.toArray 335)/\N7 W:=by
 have hm:laidMet Tryz.prog Rows.grownRow.laid W:=by
  unfold laidMetH at hl
  rw [show (Rows.grownRow.laid.filter λx=>x.2.handleName?.isSome)=[] by kernel_rfl] at hl
  exact hl
 obtain ⟨ps,hv,_,_⟩:=hm
 obtain ⟨g3,t3,cs3,fuel3,p3,q3,a1,a2,a3,a4,hv2,_⟩:=hv
 obtain ⟨g,t,cs,fuel,p,q2,h1,h2,h3,h4,hv3,_⟩:=hv2
 obtain ⟨g2,t2,sV,fuel2,p2,q4,b1,b2,b3,b4,_,_⟩:=hv3
 have hg:g=1:=Option.some.inj (h1.symm.trans (show Tryz.prog.globalNamed _=some 1 by kernel_rfl))
 subst hg
 have ht:t=335:=Option.some.inj (h2.symm.trans (show (Tryz.prog.globals[1]?).map (·.type)=some 335 by kernel_rfl))
 subst ht
 have hg:g3=3:=Option.some.inj (a1.symm.trans (show Tryz.prog.globalNamed _=some 3 by kernel_rfl))
 subst hg
 have ht:t3=345:=Option.some.inj (a2.symm.trans (show (Tryz.prog.globals[3]?).map (·.type)=some 345 by kernel_rfl))
 subst ht
 have hg:g2=2:=Option.some.inj (b1.symm.trans (show Tryz.prog.globalNamed _=some 2 by kernel_rfl))
 subst hg
 have ht:t2=342:=Option.some.inj (b2.symm.trans (show (Tryz.prog.globals[2]?).map (·.type)=some 342 by kernel_rfl))
 subst ht
 obtain ⟨c1,r1,_,_⟩:=Bw.1 1 (((begin Tryz.prog (λ_ _=>0) default).world.heap[1]?.bind Obj.row?).getD (#[],0)).1 335 (by decide +kernel) (by kernel_rfl)
 obtain ⟨c2,r2,_,_⟩:=Bw.1 2 (((begin Tryz.prog (λ_ _=>0) default).world.heap[2]?.bind Obj.row?).getD (#[],0)).1 342 (by decide +kernel) (by kernel_rfl)
 obtain ⟨c3,r3,_,_⟩:=Bw.1 3 (((begin Tryz.prog (λ_ _=>0) default).world.heap[3]?.bind Obj.row?).getD (#[],0)).1 345 (by decide +kernel) (by kernel_rfl)
 unfold World.var? at h3 a3 b3
 rw [h1] at h3
 rw [a1] at a3
 rw [b1] at b3
 simp only [Option.bind_some,r1,Option.some.injEq] at h3
 simp only [Option.bind_some,r2,Option.some.injEq] at b3
 simp only [Option.bind_some,r3,Option.some.injEq] at a3
 subst h3 a3 b3
 refine ⟨?_,(Array.getElem?_eq_some_iff.1 r3).1,?_,?_⟩
 .
  have hc:=A7 h4
  rw [r1]
  simp only at hc
  rw [Jg] at hc
  rw [<-hc]
 .
  obtain ⟨ds,e,hd⟩:=Cp
  have:=Cb b4 e hd
  simp only [World.cell?,r2]
  simpa using this
 .
  obtain ⟨ds,e,hd⟩:=Jf
  have:=Fb a4 e hd
  simp only [World.cell?,r3]
  simpa using this
end Go.Proofs.YtgcaionclkbehaaGreatDoor
