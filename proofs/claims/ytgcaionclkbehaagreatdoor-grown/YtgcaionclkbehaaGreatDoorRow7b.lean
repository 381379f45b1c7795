/-
 Proved: whatever text is handed in, foliokeep.Grown at the commit 6208ed2 returns true on every schedule, without a data race, every other goroutine being ended or only leaving, and what was handed in reads as it did. Its conditions are those of the card alone: the listed tables read as the program's text lays them.
-/
import Derived.Test.YtgcaionclkbehaaGreatDoorRow7a
import Derived.Test.YtgcaionclkbehaaGreatDoorFacts7
set_option linter.all false
set_option maxHeartbeats 2000000
set_option maxRecDepth 100000
namespace Go.Proofs.YtgcaionclkbehaaGreatDoor
open Go.ChangeShapes Go.WideShapes Go.ChangeAt Go.RowKit Go.Conc
theorem Jh (os:Os):laidMet Tryz.prog Rows.grownRow.laid ((ri (World.holding Tryz.prog os ⟨#[],#[],[]⟩)).forCall (λ_ _=>0) ⟨#[],#[.string ⟨#[]⟩],[]⟩).memory :=
 laidMet_of_run' 8 (by kernel_rfl) (by kernel_rfl)
theorem M9 (os:Os) {H:Type} (enc:TypeId × Value->H):∃places,DataW.whole enc Tryz.prog ((ri (World.holding Tryz.prog os ⟨#[],#[],[]⟩)).forCall (λ_ _=>0) ⟨#[],#[.string ⟨#[]⟩],[]⟩).memory Tryz.f7.params.toList Rows.grownSpec.vars false #[Value.string ⟨#[]⟩].toList 8=some ([.lit (.string [])],[],places) :=
 ⟨[],by kernel_rfl⟩
theorem xk (os:Os) (started:os.Started) (H:Type) (enc:TypeId × Value->H) :
  ReturnsInLeavingWide {} Tryz.checked os 7 .any ((OpenSpec.ofChange Rows.grownSpec).preRow enc Tryz.prog Tryz.f7 Rows.grownRow.domain false Rows.grownRow.laid) (Rows.grownSpec.post enc Tryz.prog Tryz.f7 false true false false):=by
 obtain ⟨places,hx⟩:=M9 os enc
 refine oN (C:=Tryz.checked) UM started Tryz.func7
  (witness_row_at (enc:=enc) (C:=Tryz.checked) false (ri (World.holding Tryz.prog os ⟨#[],#[],[]⟩)) #[.string ⟨#[]⟩] rfl (by kernel_rfl) (by kernel_rfl) (by kernel_rfl)
   (OpenSpec.preRow_of_cond 8 hx (by kernel_rfl) (λk hk=>by cases hk) (by kernel_rfl) (Jh os))) ?_
 intro W base args ds gs before Bw Oy hW YK Ou
 obtain ⟨hG,hTb⟩:=Nz Bw Ou
 clear YK Ou Bw
 have Md:∀(j:Nat) t v,Tryz.f7.params[j]?=some t->args[j]?=some v->Value.okWide Tryz.prog W .any base t v:=Oy
 have XU:=hW
 obtain ⟨p,q,VG,hV,rfl,_,_⟩:=hW
 have hA:DataW.TrodAll enc Tryz.prog W 0 (λ_=>true) true Tryz.f7.params.toList args.toList ds p:=VG
 rw [Tryz.params7] at hA Md
 obtain ⟨v0,d0,rfl,rfl,h0⟩:=trodAll_one hA
 obtain ⟨rfl,rfl⟩:=trodVars_none hV
 have h0k:=h0
 obtain ⟨fuel,hf⟩:=h0
 clear VG Oy
 simp only [List.append_nil] at XU
 obtain ⟨qs,rfl⟩:=okWide_string Tryz.underlying9 (Md 0 9 v0 rfl rfl)
 have kF:∀x∈p,x.block<W.heap.size:=λx hx=>by simpa using XU.lt x hx
 have ht0:∀(W':World),Below W.heap.size W W'->DataW.Trod enc Tryz.prog W' 0 (λb=>decide (b<W.heap.size)) true 9 (.string qs) d0 p :=
  λW' hn=>Below.trod Ge (by kernel_rfl) (of_decide_eq_true (by kernel_rfl)) h0k hn λx hx=>kF x hx
 refine ends_of_calls (P:=Tryz.prog) (Q:=λv w'=>v=.bool true/\Ext W w') (by kernel_rfl) ?_ (L1 hG hTb (q:=qs.data.toList))
 rintro v w' e ⟨rfl,hE⟩
 have hb:Below W.heap.size W (w'.at e):=⟨hE.os,hE.tape,hE.output,hE.size,hE.block⟩
 refine ⟨_,_,_,[],p,[],XU,?_,?_,by rfl,hb.frame _,λh=>by cases h⟩
 .
  exact trodAll_mk1 (shut_bool Tryz.underlying4 true)
 .
  exact trodAll_mk1 (ht0 _ hb)
theorem dh {a b:Bool} (ha:a=true) (hb:b=true):(a&&b)=true:=by
 rw [ha,hb]
 rfl
theorem zO:joinedFacts Tryz.pinned.checked.prog 7 Tryz.f7 Rows.grownSpec Rows.grownRow=true:=dh (dh (dh (dh (dh (dh (dh (dh (dh (dh (dh (dh (dh (dh (dh (dh (dh (dh (dh (dh (dh (dh (dh (dh (dh (dh (dh (dh (dh (dh (dh II IJ) IK) IL) IM) IP) IQ) IU) IV) IW) FK) FL) FM) FN) FO) FP) FQ) FR) FU) FV) FW) FX) FY) FZ) F0) F1) F2) F3) F4) F5) F6) F7
theorem zQ:Rows.GrownSaid :=
 OpenClaim.holds_of_wide_leaving 7 Tryz.f7 rfl rfl rfl rfl rfl rfl rfl ⟨rfl,rfl,rfl,rfl,rfl⟩ rfl rfl rfl rfl rfl (by kernel_rfl) Tryz.func7 zO
  (of_decide_eq_true (by kernel_rfl)) (by unfold Func.isWrapper; first|(rw [if_pos (by decide +kernel)]; kernel_rfl)|(rw [if_neg (by decide +kernel)]; exact ⟨rfl,rfl⟩))
  (λos started H enc _=>by rw [OpenClaim.pre_eq_preRow]; exact xk os started H enc)
theorem MX (f:FuncId) (fn:Func) (hf:Tryz.pinned.checked.prog.funcNamed Tryz.f7.name=some f) (X9:Tryz.pinned.checked.prog.funcs[f]?=some fn) :
  false=Tryz.pinned.checked.prog.looks []/\∀(j:Nat) t,fn.params[j]?=some t->Tryz.pinned.checked.prog.wantsStandIn t=false:=by
 obtain rfl:f=7:=Option.some.inj ((show Tryz.prog.funcNamed Tryz.f7.name=some 7 by kernel_rfl).symm.trans hf) |>.symm
 obtain rfl:fn=Tryz.f7:=(Option.some.inj (Tryz.func7.symm.trans X9)).symm
 refine ⟨by kernel_rfl,λj t ht=>?_⟩
 rw [Tryz.params7] at ht
 obtain rfl:t=9:=by simpa using Array.mem_of_getElem? ht
 exact (show Tryz.prog.wantsStandIn 9=false by kernel_rfl)
theorem grown_card:Rows.GrownCardSaid :=
 ⟨Claim7.tied_new_at .later [.data,.data,.pinned] true (Claim7.new_of_sixth zQ _ _ rfl ⟨rfl,rfl⟩ (by kernel_rfl) rfl MX) (by kernel_rfl),(λ_ h=>by cases h),grown_row_tie,(λh=>by cases h),by kernel_rfl⟩
#print axioms grown_card
end Go.Proofs.YtgcaionclkbehaaGreatDoor
