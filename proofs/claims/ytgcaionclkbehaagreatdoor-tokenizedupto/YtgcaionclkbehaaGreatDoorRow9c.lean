/-
 Proved: whatever script of bulk at most 1048576 is handed in,foliolaw.Tokenized at the commit 6208ed2 returns true on every schedule,without a data race,every other goroutine being ended or only leaving,and what was handed in reads as it did. Its conditions are those of the card alone: the bound,and that the listed tables read as the program's text lays them.
-/
import Derived.Test.YtgcaionclkbehaaGreatDoorRow9b
import Derived.Test.YtgcaionclkbehaaGreatDoorFacts9
set_option linter.all false
set_option maxHeartbeats 0
set_option maxRecDepth 100000
namespace Go.Proofs.YtgcaionclkbehaaGreatDoor
open Go.ChangeShapes Go.WideShapes Go.ChangeAt Go.RowKit Go.Conc
theorem dL{a b:Bool}(ha:a=true)(hb:b=true):(a&&b)=true:=by rw[ha,hb];rfl
theorem Db:joinedFacts Tryz.pinned.checked.prog 4 Tryz.f4 Rows.tokenizedSpec Rows.tokenizedUptoRow=true:=dL (dL (dL (dL (dL (dL (dL (dL (dL (dL (dL (dL (dL (dL (dL (dL (dL (dL (dL (dL (dL (dL (dL (dL (dL (dL (dL (dL (dL (dL (dL NA NB) NC) ND) NE) NF) NG) NH) NI) NJ) I7) I8) I9) Ja) Jb) Jc) Jd) Je) Jf) Jg) Jh) Ji) Jj) Jk) Jl) Jm) Jn) Jo) Jp) Jq) Jr) Js

theorem Dc:Rows.TokenizedUptoSaid:=by
 have closed:=Db;simp only[joinedFacts,Bool.and_eq_true,beq_iff_eq,Array.all_eq_true_iff_forall_mem,List.all_eq_true,decide_eq_true_eq] at closed;obtain⟨⟨⟨⟨⟨⟨⟨⟨⟨⟨⟨⟨⟨⟨⟨⟨⟨⟨⟨⟨⟨⟨⟨⟨⟨⟨⟨⟨⟨⟨⟨c1,c2⟩,c3⟩,c4⟩,c5⟩,c6⟩,c7⟩,c8⟩,c9⟩,c10⟩,c11⟩,c12⟩,c13⟩,c14⟩,c15⟩,c16⟩,c17⟩,c18⟩,c19⟩,c20⟩,c21⟩,c22⟩,c23⟩,c24⟩,c25⟩,c26⟩,c27⟩,c28⟩,c29⟩,c30⟩,c31⟩,c32⟩:=closed;have quiet:∀os:Os,Stop.quiet Tryz.pinned.checked.prog os:=λos k hk=>by rw[c9] at hk;cases hk
 refine⟨c1,rfl,rfl,rfl,c2,c3,c26,⟨rfl,rfl,rfl,rfl,rfl,rfl,rfl⟩,4,Tryz.f4,by kernel_rfl,Tryz.func4,⟨c4,c20⟩,λh=>(by cases h),c5,of_decide_eq_true (by kernel_rfl),(by unfold Func.isWrapper;first|(rw[if_pos (by decide +kernel)];kernel_rfl)|(rw[if_neg (by decide +kernel)];exact⟨rfl,rfl⟩)),c6.trans c7.symm,⟨c8.trans c9.symm,(by unfold Program.envWorded;rw[c9];rfl),c25⟩,c10,c11,c12,c13,c14,⟨c15,c31,c32⟩,⟨c16,c21⟩,⟨c17,c22,c29,c30⟩,⟨c23,c27,c28,c18⟩,rfl,λn hn=>varReadable_some (c19 n hn),⟨_,WideRow.started_initial,quiet _⟩,[],rfl,λos st _ H enc inj=>?_⟩;rw[OpenClaim.post_not_still rfl];unfold OpenClaim.form;rw[show Rows.tokenizedUptoRow.start=.entering from rfl,c6];intro F;have Tp:=OpenClaim.pre_eq_preRow (enc:=enc) Tryz.pinned.checked.prog Tryz.f4 (Rows.OpenSpec.upto Rows.tokenizedSpec) Rows.tokenizedUptoRow;have key:=A1 os st H enc c26;show ReturnsInOpen _ _ _ _ _ _ _ _ (Rows.tokenizedSpec.post enc Tryz.prog Tryz.f4 false true false false) _ _;rw[Tp];exact key
theorem PQ(f:FuncId)(fn:Func)(hf:Tryz.pinned.checked.prog.funcNamed Tryz.f4.name=some f)(ZJ:Tryz.pinned.checked.prog.funcs[f]?=some fn) :
  false=Tryz.pinned.checked.prog.looks []/\∀(j:Nat) t,fn.params[j]?=some t->Tryz.pinned.checked.prog.wantsStandIn t=false:=by
 obtain rfl:f=4:=Option.some.inj ((show Tryz.prog.funcNamed Tryz.f4.name=some 4 by kernel_rfl).symm.trans hf) |>.symm;obtain rfl:fn=Tryz.f4:=(Option.some.inj (Tryz.func4.symm.trans ZJ)).symm;refine⟨by kernel_rfl,λj t ht=>?_⟩;rw[Tryz.params4] at ht;obtain rfl:t=22:=by simpa using Array.mem_of_getElem? ht
 exact(show Tryz.prog.wantsStandIn 22=false by kernel_rfl)
theorem tokenizedUpto_card:Rows.TokenizedUptoCardSaid :=
 ⟨Claim7.tied_new_at .later [.data,.data,.pinned] true (Claim7.new_of_sixth Dc _ _ rfl ⟨rfl,rfl⟩ (by kernel_rfl) rfl PQ) (by kernel_rfl),(λ_ h=>by cases h),tokenizedUpto_row_tie,(λh=>by cases h),by kernel_rfl⟩
#print axioms tokenizedUpto_card
end Go.Proofs.YtgcaionclkbehaaGreatDoor
