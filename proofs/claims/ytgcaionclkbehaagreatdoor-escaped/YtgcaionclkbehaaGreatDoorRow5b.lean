/-
 Proved: whatever two texts are handed in, foliokeep.Escaped at the commit 6208ed2 returns true on every schedule, without a data race, every other goroutine being ended or only leaving, and what was handed in reads as it did. Its conditions are those of the card alone: the listed tables read as the program's text lays them.
-/
import Derived.Test.YtgcaionclkbehaaGreatDoorRow5a
import Derived.Test.YtgcaionclkbehaaGreatDoorFacts5
set_option linter.all false
set_option maxHeartbeats 2000000
set_option maxRecDepth 100000
namespace Go.Proofs.YtgcaionclkbehaaGreatDoor
open Go.ChangeShapes Go.WideShapes Go.ChangeAt Go.RowKit Go.Conc
theorem Gt (os:Os):laidMet Tryz.prog Rows.escapedRow.laid ((pQ (World.holding Tryz.prog os ⟨#[],#[],[]⟩)).forCall (fun _ _=>0) ⟨#[],#[.string ⟨#[]⟩,.string ⟨#[]⟩],[]⟩).memory :=
 laidMet_of_run' 8 (by kernel_rfl) (by kernel_rfl)
theorem Ka (os:Os) {H:Type} (enc:TypeId × Value→H):∃places,DataW.whole enc Tryz.prog ((pQ (World.holding Tryz.prog os ⟨#[],#[],[]⟩)).forCall (fun _ _=>0) ⟨#[],#[.string ⟨#[]⟩,.string ⟨#[]⟩],[]⟩).memory Tryz.f10.params.toList Rows.escapedSpec.vars false #[Value.string ⟨#[]⟩,.string ⟨#[]⟩].toList 8=some ([.lit (.string []),.lit (.string [])],[],places) :=
 ⟨[],by kernel_rfl⟩
theorem rO (os:Os) (started:os.Started) (H:Type) (enc:TypeId × Value→H) :
  ReturnsInLeavingWide {} Tryz.checked os 10 .any ((OpenSpec.ofChange Rows.escapedSpec).preRow enc Tryz.prog Tryz.f10 Rows.escapedRow.domain false Rows.escapedRow.laid) (Rows.escapedSpec.post enc Tryz.prog Tryz.f10 false true false false):=by
 obtain ⟨places,hx⟩:=Ka os enc
 refine nw (C:=Tryz.checked) Rv started Tryz.func10
  (witness_row_at (enc:=enc) (C:=Tryz.checked) false (pQ (World.holding Tryz.prog os ⟨#[],#[],[]⟩)) #[.string ⟨#[]⟩,.string ⟨#[]⟩] rfl (by kernel_rfl) (by kernel_rfl) (by kernel_rfl)
   (OpenSpec.preRow_of_cond 8 hx (by kernel_rfl) (fun k hk=>by cases hk) (by kernel_rfl) (Gt os))) ?_
 intro W base args ds gs before rV Lc hW V4 K8
 have hG:W.heap[1]?=some (.cells cY.toArray 335):=Ks rV K8
 clear V4 K8 rV
 have tl:∀(j:Nat) t v,Tryz.f10.params[j]?=some t→args[j]?=some v→Value.okWide Tryz.prog W .any base t v:=Lc
 have UJ:=hW
 obtain ⟨p,q,SS,hV,rfl,_,_⟩:=hW
 have hA:DataW.TrodAll enc Tryz.prog W 0 (fun _=>true) true Tryz.f10.params.toList args.toList ds p:=SS
 rw [Tryz.params10] at hA tl
 obtain ⟨v0,v1,d0,d1,p0,p1,rfl,rfl,rfl,h0,h1⟩:=trodAll_two hA
 obtain ⟨rfl,rfl⟩:=trodVars_none hV
 have Z6:=h0
 have Z8:=h1
 obtain ⟨fuel,hf⟩:=h0
 obtain ⟨X0,H5⟩:=h1
 clear SS Lc
 simp only [List.append_nil] at UJ
 obtain ⟨qs,rfl⟩:=okWide_string Tryz.underlying9 (tl 0 9 v0 rfl rfl)
 obtain ⟨us,rfl⟩:=okWide_string Tryz.underlying9 (tl 1 9 v1 rfl rfl)
 obtain ⟨us',Mp,_,hu⟩:=DataW.trod_string Tryz.underlying9 H5
 obtain ⟨qs',H3,_,hq⟩:=DataW.trod_string Tryz.underlying9 hf
 simp only [Value.cells,List.cons.injEq,and_true,Value.string.injEq] at Mp H3
 subst Mp H3
 have hqs:qs.data.toList.length≤9223372036854775807:=Nat.le_trans hq (by decide)
 have hus:us.data.toList.length≤9223372036854775807:=Nat.le_trans hu (by decide)
 have eH:∀x∈p0++p1,x.block<W.heap.size:=fun x hx=>by simpa using UJ.lt x hx
 have ht0:∀(W':World),Below W.heap.size W W'→DataW.Trod enc Tryz.prog W' 0 (fun b=>decide (b<W.heap.size)) true 9 (.string qs) d0 p0 :=
  fun W' hn=>Below.trod ur (by kernel_rfl) (of_decide_eq_true (by kernel_rfl)) Z6 hn fun x hx=>eH x (by simp [hx])
 have Jq:∀(W':World),Below W.heap.size W W'→DataW.Trod enc Tryz.prog W' 0 (fun b=>decide (b<W.heap.size)) true 9 (.string us) d1 p1 :=
  fun W' hn=>Below.trod ur (by kernel_rfl) (of_decide_eq_true (by kernel_rfl)) Z8 hn fun x hx=>eH x (by simp [hx])
 refine ends_of_calls (P:=Tryz.prog) (Q:=fun v w'=>v=.bool true∧Ext W w') (by kernel_rfl) ?_ (C4 hG hqs hus)
 rintro v w' e ⟨rfl,hE⟩
 have hb:Below W.heap.size W (w'.at e):=⟨hE.os,hE.tape,hE.output,hE.size,hE.block⟩
 refine ⟨_,_,_,[],p0++p1,[],UJ,?_,?_,by rfl,hb.frame _,fun h=>by cases h⟩
 ·
  exact trodAll_mk1 (shut_bool Tryz.underlying4 true)
 ·
  exact trodAll_mk2 (ht0 _ hb) (Jq _ hb)
theorem cN {a b:Bool} (ha:a=true) (hb:b=true):(a&&b)=true:=by
 rw [ha,hb]
 rfl
theorem tc:joinedFacts Tryz.pinned.checked.prog 10 Tryz.f10 Rows.escapedSpec Rows.escapedRow=true:=cN (cN (cN (cN (cN (cN (cN (cN (cN (cN (cN (cN (cN (cN (cN (cN (cN (cN (cN (cN (cN (cN (cN (cN (cN (cN (cN (cN (cN (cN (cN zX zY) zZ) z6) z7) z8) z9) Aa) Ab) Ac) xn) xo) xp) xq) xr) xt) xv) xw) xx) xy) xz) xC) xD) xE) xF) xG) xH) xI) xJ) xK) xL) xM
theorem td:Rows.EscapedSaid :=
 OpenClaim.holds_of_wide_leaving 10 Tryz.f10 rfl rfl rfl rfl rfl rfl rfl ⟨rfl,rfl,rfl,rfl,rfl⟩ rfl rfl rfl rfl rfl (by kernel_rfl) Tryz.func10 tc
  (of_decide_eq_true (by kernel_rfl)) (by unfold Func.isWrapper; first|(rw [if_pos (by decide +kernel)]; kernel_rfl)|(rw [if_neg (by decide +kernel)]; exact ⟨rfl,rfl⟩))
  (fun os started H enc _=>by rw [OpenClaim.pre_eq_preRow]; exact rO os started H enc)
theorem J1 (f:FuncId) (fn:Func) (hf:Tryz.pinned.checked.prog.funcNamed Tryz.f10.name=some f) (Vf:Tryz.pinned.checked.prog.funcs[f]?=some fn) :
  false=Tryz.pinned.checked.prog.looks []∧∀(j:Nat) t,fn.params[j]?=some t→Tryz.pinned.checked.prog.wantsStandIn t=false:=by
 obtain rfl:f=10:=Option.some.inj ((show Tryz.prog.funcNamed Tryz.f10.name=some 10 by kernel_rfl).symm.trans hf) |>.symm
 obtain rfl:fn=Tryz.f10:=(Option.some.inj (Tryz.func10.symm.trans Vf)).symm
 refine ⟨by kernel_rfl,fun j t ht=>?_⟩
 rw [Tryz.params10] at ht
 have hm:t=9∨t=9:=by simpa using Array.mem_of_getElem? ht
 obtain rfl:t=9:=hm.elim id id
 exact (show Tryz.prog.wantsStandIn 9=false by kernel_rfl)
theorem escaped_card:Rows.EscapedCardSaid :=
 ⟨Claim7.tied_new_at .later [.data,.data,.pinned] true (Claim7.new_of_sixth td _ _ rfl ⟨rfl,rfl⟩ (by kernel_rfl) rfl J1) (by kernel_rfl),(fun _ h=>by cases h),escaped_row_tie,(fun h=>by cases h),by kernel_rfl⟩
#print axioms escaped_card
end Go.Proofs.YtgcaionclkbehaaGreatDoor
