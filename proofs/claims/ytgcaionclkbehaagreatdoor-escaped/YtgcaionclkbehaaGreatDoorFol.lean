import Derived.Test.YtgcaionclkbehaaGreatDoorKid
set_option linter.all false
set_option maxHeartbeats 2000000
set_option maxRecDepth 100000
namespace Go.Proofs.YtgcaionclkbehaaGreatDoor
open Go.Conc Go.RowKit Tryz
def eh(c:CS)(r:Int):CS × List Int :=
 (⟨true,r==13⟩,if (!c.begun&&r==65279)=true then [] else if (c.returned&&r==10)=true then [] else if r=13 then [10] else if r=0 then [65533] else [r])
def V (ls:List Int):List Value:=ls.map (.int .i32 ·)
section
variable {N Pb cp c1 c2:Nat}{Shun:Loc→Prop}{val:Value}{B:Nat}{Mine:Loc→Prop}{c:CS}{d:DS}{w aB:World}
variable [Go.ConcR.Payload][Go.ConcX.Payload]
theorem yH(hF:HC N Pb cp c1 c2 c d w)(fr:Bool)(r:Int)(vs:Vq) :
  gD prog (XK (aC prog N Pb Shun val B Mine)) 116 #[.pointer (sq c1),.int .i32 r] (fr,V (eh c r).2++vs) w (fun i' _ w'=>i'=(fr&&(eh c r).2.isEmpty,vs)∧HC N Pb cp c1 c2 (eh c r).1 d w'):=by
 have C:Closed prog false (ef (aC prog N Pb Shun val B Mine)) (DK (aC prog N Pb Shun val B Mine)) (XK (aC prog N Pb Shun val B Mine)):=XK.closed (K:=(aC prog N Pb Shun val B Mine));have T:=jq (K:=(aC prog N Pb Shun val B Mine));have Tq:=T (true,[]);have XY:∀(w:World) (es:Array Event) (a:Addr) (m:Mode) (x:Bool),(store a (.bool x) m).events prog w es=storedEv prog w es a (.bool x) m:=fun w es a m x=>events_store prog w es a _ m rfl;have SZ:∀w:World,ef (aC prog N Pb Shun val B Mine) (true,[]) w { w with drawn:=w.drawn+1 }:=sf;refine fe func116 (by rfl) rfl ?_;simp only[ntmps116,List.size_toArray,List.length_cons,List.length_nil,Nat.reduceAdd,Nat.reduceSub,Array.replicate_succ,Array.replicate_zero,List.push_toArray,List.append_toArray,List.nil_append,List.cons_append];co_apply aO C T (ef.refl _);co_held (T _) K4 SZ (HC N Pb cp c1 c2 c d) HC.rely hF;co_applyP anyCH_take (T _) (fun _ _ h r=>HC.rely h r) (fun _ _ _ h r=>fL C h r) (i:=0) rfl (by decide +kernel) (by decide +kernel) (by decide +kernel) (.inl ⟨by rfl,fun _ hw=>⟨run_eq_of ?Nv,?FP⟩⟩) hF ?RX;case Nv =>intro Kx U;go_simp;exact U
 case FP =>co_quiet Tq
 try walk_nrm
 co_applyP anyCH_take (T _) (fun _ _ h r=>HC.rely h r) (fun _ _ _ h r=>fL C h r) (i:=1) rfl (by decide +kernel) (by decide +kernel) (by decide +kernel) (.inl ⟨by rfl,fun _ hw=>⟨run_eq_of ?Nw,?FQ⟩⟩) hF ?RY;case Nw =>intro Kx U;go_simp;exact U
 case FQ =>co_still Tq
 try walk_nrm
 co_applyP anyCH_take (T _) (fun _ _ h r=>HC.rely h r) (fun _ _ _ h r=>fL C h r) (i:=2) rfl (by decide +kernel) (by decide +kernel) (by decide +kernel) (.inl ⟨by rfl,fun _ hw=>⟨run_eq_of ?Ny,?FR⟩⟩) hF ?RZ;case Ny =>intro Kx U;go_simp;exact U
 case FR =>co_still Tq
 try walk_nrm
 co_applyP anyCH_take (T _) (fun _ _ h r=>HC.rely h r) (fun _ _ _ h r=>fL C h r) (i:=3) rfl (by decide +kernel) (by decide +kernel) (by decide +kernel) (.inl ⟨by rfl,fun _ hw=>⟨run_eq_of ?Nz,?FT⟩⟩) hF ?R0;case Nz =>intro Kx U;have hc:=hw.gG;go_simp;exact U
 case FT =>have hc:=hw.gG;refine dj hw ?_; co_evs (exact ca (.inr (.inl rfl)))
 try walk_nrm
 co_applyP anyCH_take (T _) (fun _ _ h r=>HC.rely h r) (fun _ _ _ h r=>fL C h r) (i:=4) rfl (by decide +kernel) (by decide +kernel) (by decide +kernel) (.inl ⟨by rfl,fun _ hw=>⟨run_eq_of ?NA,?FU⟩⟩) hF ?R4;case NA =>intro Kx U;go_simp;exact U
 case FU =>co_quiet Tq
 try walk_nrm
 co_applyP anyCH_take (T _) (fun _ _ h r=>HC.rely h r) (fun _ _ _ h r=>fL C h r) (i:=5) rfl (by decide +kernel) (by decide +kernel) (by decide +kernel) (.inl ⟨by rfl,fun _ hw=>⟨run_eq_of ?NB,?FV⟩⟩) hF ?R5;case NB =>intro Kx U;go_simp;exact U
 case FV =>co_quiet Tq
 try walk_nrm
 co_applyP anyCH_take (T _) (fun _ _ h r=>HC.rely h r) (fun _ _ _ h r=>fL C h r) (i:=6) rfl (by decide +kernel) (by decide +kernel) (by decide +kernel) (.inl ⟨by rfl,fun _ hw=>⟨run_eq_of ?NC,?FW⟩⟩) hF ?R6;case NC =>intro Kx U;go_simp;exact U
 case FW =>co_still Tq
 try walk_nrm
 co_applyP anyCH_take (T _) (fun _ _ h r=>HC.rely h r) (fun _ _ _ h r=>fL C h r) (i:=7) rfl (by decide +kernel) (by decide +kernel) (by decide +kernel) (.inl ⟨by rfl,fun _ hw=>⟨run_eq_of ?ND,?FX⟩⟩) hF ?R7;case ND =>intro Kx U;go_simp;exact U
 case FX =>co_still Tq
 try walk_nrm
 co_applyP anyCH_take (T _) (fun _ _ h r=>HC.rely h r) (fun _ _ _ h r=>fL C h r) (i:=8) rfl (by decide +kernel) (by decide +kernel) (by decide +kernel) (.inl ⟨by rfl,fun _ hw=>⟨run_eq_of ?XC,?Py⟩⟩) hF ?YZ;case XC =>intro Kx U;have hc:=hw.gG;go_simp;exact U
 case Py =>have hc:=hw.gG;refine dj hw ?_; co_evs (exact ca (.inr (.inl rfl)))
 try walk_nrm
 co_applyP anyCH_take (T _) (fun _ _ h r=>HC.rely h r) (fun _ _ _ h r=>fL C h r) (i:=9) rfl (by decide +kernel) (by decide +kernel) (by decide +kernel) (.inl ⟨by rfl,fun _ hw=>⟨run_eq_of ?XD,?Pz⟩⟩) hF ?Y0;case XD =>intro Kx U;go_simp;exact U
 case Pz =>co_quiet Tq
 try walk_nrm
 co_applyP anyCH_take (T _) (fun _ _ h r=>HC.rely h r) (fun _ _ _ h r=>fL C h r) (i:=10) rfl (by decide +kernel) (by decide +kernel) (by decide +kernel) (.inl ⟨by rfl,fun _ hw=>⟨run_eq_of ?R8,?Me⟩⟩) hF ?XA;case R8 =>intro Kx U;go_simp;exact U
 case Me =>co_quiet Tq
 try walk_nrm
 co_done;co_apply aO C T (ef.refl _);co_reg (T _);iterate 4 co_op HC.rely hF (co_quiet Tq)
 iterate 2 co_opw HC.rely hF (skip) (co_still Tq)
 co_opw HC.rely hF (have hc:=hF.gG) (exact fB hF (.inl rfl) (by co_evs (exact ca (.inr (.inl rfl)))));replace hF:=hF.NI true;clear hc;iterate 2 co_opw HC.rely hF (skip) (co_still Tq)
 co_opw HC.rely hF (have hc:=hF.gG) (exact fB hF (.inl rfl) (by co_evs (exact ca (.inr (.inl rfl)))));replace hF:=hF.NJ (r==13);clear hc;co_apply opsC_nil (T _);co_then;refine ig C T ?_;generalize H5:(!c.begun)=f1;generalize my:c.returned=b1;have H3:eh c r=(⟨true,r==13⟩,if (f1&&r==65279)=true then [] else if (b1&&r==10)=true then [] else if r=13 then [10] else if r=0 then [65533] else [r]):=by rw[eh,H5,my]
 rw[H3];clear H3 H5 my;cases f1<;>cases b1;focus
  iterate 2
   co_apply aO C T (ef.refl _)
   co_reg (T _)
   co_op HC.rely hF (co_quiet Tq)
   co_op HC.rely hF (co_quiet Tq)
   co_apply opsC_unwanted (T _) rfl (by rfl)
   co_apply opsC_unwanted (T _) rfl (by rfl)
   co_op HC.rely hF (co_quiet Tq)
   co_op HC.rely hF (co_quiet Tq)
   co_apply opsC_nil (T _)
   co_then
   try simp only[Bool.and_true,Bool.and_false,Bool.false_and,Bool.true_and,Bool.false_eq_true,if_true,if_false,reduceIte]
   refine aR C T (t:=false) rfl ?_
   simp only[if_true,if_false,reduceIte,Bool.false_eq_true]
  co_apply aO C T (ef.refl _)
 rotate_left;focus
  co_apply aO C T (ef.refl _)
  co_reg (T _)
  iterate 2 co_op HC.rely hF (co_quiet Tq)
  iterate 2 co_apply opsC_unwanted (T _) rfl (by rfl)
  iterate 2 co_op HC.rely hF (co_quiet Tq)
  co_apply opsC_nil (T _)
  co_then
  try simp only[Bool.and_true,Bool.and_false,Bool.false_and,Bool.true_and,Bool.false_eq_true,if_true,if_false,reduceIte]
  refine aR C T (t:=false) rfl ?_
  simp only[if_true,if_false,reduceIte,Bool.false_eq_true]
  co_apply aO C T (ef.refl _)
  co_reg (T _)
  iterate 6 co_op HC.rely hF (co_quiet Tq)
  co_apply opsC_nil (T _)
  co_then
  by_cases a3:r=10
  ·have a2:(r==10)=true:=by simp[a3]
   simp only[a2,if_pos a3,Bool.and_true,Bool.and_false,Bool.false_and,Bool.true_and,Bool.false_eq_true,if_true,if_false,reduceIte];try simp only[a2] at hF
   refine aR C T (t:=true) rfl ?_;simp only[if_true,if_false,reduceIte,Bool.false_eq_true];refine eZ C T ?_;exact⟨.inl rfl,rfl,_,resultsC_none (by rfl) _,by simp[V],by simpa using hF⟩
  have a2:(r==10)=false:=by simp[a3]
  simp only[a2,if_neg a3,Bool.and_true,Bool.and_false,Bool.false_and,Bool.true_and,Bool.false_eq_true,if_true,if_false,reduceIte];try simp only[a2] at hF
  refine aR C T (t:=false) rfl ?_;simp only[if_true,if_false,reduceIte,Bool.false_eq_true];co_apply aO C T (ef.refl _)
 rotate_left;focus
  co_apply aO C T (ef.refl _)
  co_reg (T _)
  iterate 6 co_op HC.rely hF (co_quiet Tq)
  co_apply opsC_nil (T _)
  co_then
  by_cases a1:r=65279
  ·have a0:(r==65279)=true:=by simp[a1]
   simp only[a0,if_pos a1,Bool.and_true,Bool.and_false,Bool.false_and,Bool.true_and,Bool.false_eq_true,if_true,if_false,reduceIte];try simp only[a0] at hF
   refine aR C T (t:=true) rfl ?_;simp only[if_true,if_false,reduceIte,Bool.false_eq_true];refine eZ C T ?_;exact⟨.inl rfl,rfl,_,resultsC_none (by rfl) _,by simp[V],by simpa using hF⟩
  have a0:(r==65279)=false:=by simp[a1]
  simp only[a0,if_neg a1,Bool.and_true,Bool.and_false,Bool.false_and,Bool.true_and,Bool.false_eq_true,if_true,if_false,reduceIte];try simp only[a0] at hF
  refine aR C T (t:=false) rfl ?_;simp only[if_true,if_false,reduceIte,Bool.false_eq_true];co_apply aO C T (ef.refl _);co_reg (T _);iterate 2 co_op HC.rely hF (co_quiet Tq)
  iterate 2 co_apply opsC_unwanted (T _) rfl (by rfl)
  iterate 2 co_op HC.rely hF (co_quiet Tq)
  co_apply opsC_nil (T _);co_then;try simp only[Bool.and_true,Bool.and_false,Bool.false_and,Bool.true_and,Bool.false_eq_true,if_true,if_false,reduceIte]
  refine aR C T (t:=false) rfl ?_;simp only[if_true,if_false,reduceIte,Bool.false_eq_true];co_apply aO C T (ef.refl _)
 rotate_left;focus
  co_apply aO C T (ef.refl _)
  co_reg (T _)
  iterate 6 co_op HC.rely hF (co_quiet Tq)
  co_apply opsC_nil (T _)
  co_then
  by_cases a1:r=65279
  ·have a0:(r==65279)=true:=by simp[a1]
   simp only[a0,if_pos a1,Bool.and_true,Bool.and_false,Bool.false_and,Bool.true_and,Bool.false_eq_true,if_true,if_false,reduceIte];try simp only[a0] at hF
   refine aR C T (t:=true) rfl ?_;simp only[if_true,if_false,reduceIte,Bool.false_eq_true];refine eZ C T ?_;exact⟨.inl rfl,rfl,_,resultsC_none (by rfl) _,by simp[V],by simpa using hF⟩
  have a0:(r==65279)=false:=by simp[a1]
  simp only[a0,if_neg a1,Bool.and_true,Bool.and_false,Bool.false_and,Bool.true_and,Bool.false_eq_true,if_true,if_false,reduceIte];try simp only[a0] at hF
  refine aR C T (t:=false) rfl ?_;simp only[if_true,if_false,reduceIte,Bool.false_eq_true];co_apply aO C T (ef.refl _);co_reg (T _);iterate 6 co_op HC.rely hF (co_quiet Tq)
  co_apply opsC_nil (T _);co_then;by_cases a3:r=10
  ·have a2:(r==10)=true:=by simp[a3]
   simp only[a2,if_pos a3,Bool.and_true,Bool.and_false,Bool.false_and,Bool.true_and,Bool.false_eq_true,if_true,if_false,reduceIte];try simp only[a2] at hF
   refine aR C T (t:=true) rfl ?_;simp only[if_true,if_false,reduceIte,Bool.false_eq_true];refine eZ C T ?_;exact⟨.inl rfl,rfl,_,resultsC_none (by rfl) _,by simp[V],by simpa using hF⟩
  have a2:(r==10)=false:=by simp[a3]
  simp only[a2,if_neg a3,Bool.and_true,Bool.and_false,Bool.false_and,Bool.true_and,Bool.false_eq_true,if_true,if_false,reduceIte];try simp only[a2] at hF
  refine aR C T (t:=false) rfl ?_;simp only[if_true,if_false,reduceIte,Bool.false_eq_true];co_apply aO C T (ef.refl _)
 rotate_left;all_goals
  co_reg (T _)
  iterate 3 co_op HC.rely hF (co_quiet Tq)
  co_apply opsC_nil (T _)
  co_then
  by_cases a6:r=13
  ·have a4:(r==13)=true:=by simp[a6]
   simp only[a4,if_pos a6,Bool.and_true,Bool.and_false,Bool.false_and,Bool.true_and,Bool.false_eq_true,if_true,if_false,reduceIte];try simp only[a4] at hF
   refine aR C T (t:=true) rfl ?_;simp only[if_true,if_false,reduceIte,Bool.false_eq_true];refine bN C T ?_;simp only[ia,Nat.reduceAdd];refine aL C rfl (by rfl) fun _ hR Kx U=>?_;replace hF:=HC.rely hF hR;clear hR;go_simp;try (unfold stored; go_simp)
   refine U _ _ ⟨?_,?_⟩
   ·co_quiet Tq
   iterate 2
    clear U Kx
    try walk_nrm
    refine aL C rfl (by rfl) fun _ hR Kx U=>?_
    replace hF:=HC.rely hF hR
    clear hR
    go_simp
    try (unfold stored; go_simp)
    refine U _ _ ⟨?_,?_⟩
    ·co_still Tq
   clear U Kx;try walk_nrm
   refine aL C rfl (by rfl) fun _ hR Kx U=>?_;replace hF:=HC.rely hF hR;clear hR;have hc:=hF.gG;go_simp;try (unfold stored; go_simp)
   refine U _ _ ⟨?_,?_⟩
   ·refine dj hF ?_;co_evs (exact ca (.inr (.inl rfl)))
   clear U Kx;try walk_nrm
   clear hc;refine bP C T rfl (by rfl) rfl rfl (by simp[Act.eval]) (by simp[V]) (A7 hF fr 10 vs) ?_;rintro _ _ _ ⟨rfl,hF⟩;refine cf C T ?_;exact⟨.inl rfl,rfl,_,resultsC_none (by rfl) _,by simp[V],by simpa using hF⟩
  ·have a4:(r==13)=false:=by simp[a6]
   simp only[a4,if_neg a6,Bool.and_true,Bool.and_false,Bool.false_and,Bool.true_and,Bool.false_eq_true,if_true,if_false,reduceIte];try simp only[a4] at hF
   refine aR C T (t:=false) rfl ?_;simp only[if_true,if_false,reduceIte,Bool.false_eq_true];co_apply aO C T (ef.refl _);co_reg (T _);iterate 3 co_op HC.rely hF (co_quiet Tq)
   co_apply opsC_nil (T _);co_then;by_cases h0:r=0
   ·have a5:(r==0)=true:=by simp[h0]
    simp only[a5,if_pos h0,Bool.and_true,Bool.and_false,Bool.false_and,Bool.true_and,Bool.false_eq_true,if_true,if_false,reduceIte];try simp only[a5] at hF
    refine aR C T (t:=true) rfl ?_;simp only[if_true,if_false,reduceIte,Bool.false_eq_true];refine bN C T ?_;simp only[ia,Nat.reduceAdd];refine aL C rfl (by rfl) fun _ hR Kx U=>?_;replace hF:=HC.rely hF hR;clear hR;go_simp;try (unfold stored; go_simp)
    refine U _ _ ⟨?_,?_⟩
    ·co_quiet Tq
    iterate 2
     clear U Kx
     try walk_nrm
     refine aL C rfl (by rfl) fun _ hR Kx U=>?_
     replace hF:=HC.rely hF hR
     clear hR
     go_simp
     try (unfold stored; go_simp)
     refine U _ _ ⟨?_,?_⟩
     ·co_still Tq
    clear U Kx;try walk_nrm
    refine aL C rfl (by rfl) fun _ hR Kx U=>?_;replace hF:=HC.rely hF hR;clear hR;have hc:=hF.gG;go_simp;try (unfold stored; go_simp)
    refine U _ _ ⟨?_,?_⟩
    ·refine dj hF ?_;co_evs (exact ca (.inr (.inl rfl)))
    clear U Kx;try walk_nrm
    clear hc;refine bP C T rfl (by rfl) rfl rfl (by simp[Act.eval]) (by simp[V]) (A7 hF fr 65533 vs) ?_;rintro _ _ _ ⟨rfl,hF⟩;refine cf C T ?_;exact⟨.inl rfl,rfl,_,resultsC_none (by rfl) _,by simp[V],by simpa using hF⟩
   ·have a5:(r==0)=false:=by simp[h0]
    simp only[a5,if_neg h0,Bool.and_true,Bool.and_false,Bool.false_and,Bool.true_and,Bool.false_eq_true,if_true,if_false,reduceIte];try simp only[a5] at hF
    refine aR C T (t:=false) rfl ?_;simp only[if_true,if_false,reduceIte,Bool.false_eq_true];refine bN C T ?_;simp only[ia,Nat.reduceAdd];refine aL C rfl (by rfl) fun _ hR Kx U=>?_;replace hF:=HC.rely hF hR;clear hR;go_simp;try (unfold stored; go_simp)
    refine U _ _ ⟨?_,?_⟩
    ·co_quiet Tq
    iterate 2
     clear U Kx
     try walk_nrm
     refine aL C rfl (by rfl) fun _ hR Kx U=>?_
     replace hF:=HC.rely hF hR
     clear hR
     go_simp
     try (unfold stored; go_simp)
     refine U _ _ ⟨?_,?_⟩
     ·co_still Tq
    clear U Kx;try walk_nrm
    refine aL C rfl (by rfl) fun _ hR Kx U=>?_;replace hF:=HC.rely hF hR;clear hR;have hc:=hF.gG;go_simp;try (unfold stored; go_simp)
    refine U _ _ ⟨?_,?_⟩
    ·refine dj hF ?_;co_evs (exact ca (.inr (.inl rfl)))
    clear U Kx;try walk_nrm
    clear hc;refine aL C rfl (by rfl) fun _ hR Kx U=>?_;replace hF:=HC.rely hF hR;clear hR;go_simp;try (unfold stored; go_simp)
    refine U _ _ ⟨?_,?_⟩
    ·co_quiet Tq
    clear U Kx;try walk_nrm
    refine bP C T rfl (by rfl) rfl rfl (by simp[Act.eval]) (by simp[V]) (A7 hF fr r vs) ?_;rintro _ _ _ ⟨rfl,hF⟩;refine cf C T ?_;exact⟨.inl rfl,rfl,_,resultsC_none (by rfl) _,by simp[V],by simpa using hF⟩
end
def jS (b:Int):Int × Int:=if b=224 then (160,191) else if b=237 then (128,159) else if b=240 then (144,191) else if b=244 then (128,143) else (128,191)
section
variable {N Pb cp c1 c2:Nat}{Shun:Loc→Prop}{val:Value}{B:Nat}{Mine:Loc→Prop}{c:CS}{d:DS}{w aB:World}
variable [Go.ConcR.Payload][Go.ConcX.Payload]
theorem Fh(U:HC N Pb cp c1 c2 c d w)(i:Ix)(b:Int) :
  gD prog (XK (aC prog N Pb Shun val B Mine)) 362 #[.int .u8 b] i w (fun i' v w'=>i'=i∧v=.tuple #[.int .u8 (jS b).1,.int .u8 (jS b).2]∧HC N Pb cp c1 c2 c d w'):=by
 have C:Closed prog false (ef (aC prog N Pb Shun val B Mine)) (DK (aC prog N Pb Shun val B Mine)) (XK (aC prog N Pb Shun val B Mine)):=XK.closed (K:=(aC prog N Pb Shun val B Mine));have T:=jq (K:=(aC prog N Pb Shun val B Mine));have Tq:=T (true,[]);refine fe func362 (by rfl) rfl ?_;simp only[ntmps362,List.size_toArray,List.length_cons,List.length_nil,Nat.reduceAdd,Nat.reduceSub,Array.replicate_succ,Array.replicate_zero,List.push_toArray,List.append_toArray,List.nil_append,List.cons_append];co_apply aO C T (ef.refl _);co_reg (T _);iterate 2 co_op HC.rely U (co_quiet Tq)
 co_apply opsC_nil (T _);co_then;refine fQ C T ?_;co_apply aO C T (ef.refl _);co_reg (T _);co_op HC.rely U (co_quiet Tq);co_apply opsC_nil (T _);co_then;refine ig C T ?_;co_apply aO C T (ef.refl _);co_reg (T _);iterate 2 co_op HC.rely U (co_quiet Tq)
 co_apply opsC_nil (T _);co_then;by_cases a4:b=224
 ·have a0:(b==224)=true:=by simp[a4]
  simp only[a0];refine aR C T (t:=true) rfl ?_;simp only[if_true,if_false,reduceIte,Bool.false_eq_true];co_apply aO C T (ef.refl _);co_reg (T _);iterate 2 co_op HC.rely U (co_quiet Tq)
  co_apply opsC_nil (T _);co_then;refine mI C T ?_;exact⟨.inr rfl,rfl,_,resultsC_tmp2 (by rfl) _,rfl,by simp[jS, *],U⟩
 ·have a0:(b==224)=false:=by simp[a4]
  simp only[a0];refine aR C T (t:=false) rfl ?_;simp only[if_true,if_false,reduceIte,Bool.false_eq_true];co_apply aO C T (ef.refl _);co_reg (T _);iterate 2 co_op HC.rely U (co_quiet Tq)
  co_apply opsC_nil (T _);co_then;by_cases a5:b=237
  ·have a1:(b==237)=true:=by simp[a5]
   simp only[a1];refine aR C T (t:=true) rfl ?_;simp only[if_true,if_false,reduceIte,Bool.false_eq_true];co_apply aO C T (ef.refl _);co_reg (T _);iterate 2 co_op HC.rely U (co_quiet Tq)
   co_apply opsC_nil (T _);co_then;refine mI C T ?_;exact⟨.inr rfl,rfl,_,resultsC_tmp2 (by rfl) _,rfl,by simp[jS, *],U⟩
  ·have a1:(b==237)=false:=by simp[a5]
   simp only[a1];refine aR C T (t:=false) rfl ?_;simp only[if_true,if_false,reduceIte,Bool.false_eq_true];co_apply aO C T (ef.refl _);co_reg (T _);iterate 2 co_op HC.rely U (co_quiet Tq)
   co_apply opsC_nil (T _);co_then;by_cases a6:b=240
   ·have a2:(b==240)=true:=by simp[a6]
    simp only[a2];refine aR C T (t:=true) rfl ?_;simp only[if_true,if_false,reduceIte,Bool.false_eq_true];co_apply aO C T (ef.refl _);co_reg (T _);iterate 2 co_op HC.rely U (co_quiet Tq)
    co_apply opsC_nil (T _);co_then;refine mI C T ?_;exact⟨.inr rfl,rfl,_,resultsC_tmp2 (by rfl) _,rfl,by simp[jS, *],U⟩
   ·have a2:(b==240)=false:=by simp[a6]
    simp only[a2];refine aR C T (t:=false) rfl ?_;simp only[if_true,if_false,reduceIte,Bool.false_eq_true];co_apply aO C T (ef.refl _);co_reg (T _);iterate 2 co_op HC.rely U (co_quiet Tq)
    co_apply opsC_nil (T _);co_then;by_cases a7:b=244
    ·have a3:(b==244)=true:=by simp[a7]
     simp only[a3];refine aR C T (t:=true) rfl ?_;simp only[if_true,if_false,reduceIte,Bool.false_eq_true];co_apply aO C T (ef.refl _);co_reg (T _);iterate 2 co_op HC.rely U (co_quiet Tq)
     co_apply opsC_nil (T _);co_then;refine mI C T ?_;exact⟨.inr rfl,rfl,_,resultsC_tmp2 (by rfl) _,rfl,by simp[jS, *],U⟩
    ·have a3:(b==244)=false:=by simp[a7]
     simp only[a3];refine aR C T (t:=false) rfl ?_;simp only[if_true,if_false,reduceIte,Bool.false_eq_true];refine eZ C T ?_;show lm _ _ _ _ _ _ _;co_apply aO C T (ef.refl _);co_reg (T _);iterate 2 co_op HC.rely U (co_quiet Tq)
     co_apply opsC_nil (T _);co_then;refine mI C T ?_;exact⟨.inr rfl,rfl,_,resultsC_tmp2 (by rfl) _,rfl,by simp[jS, *],U⟩
def eL(b k:Int):Int:=IntKind.i32.wrap (bits .and .u8 b k)
theorem Ay(U:HC N Pb cp c1 c2 c d w)(i:Ix)(b m k:Int) :
  gD prog (XK (aC prog N Pb Shun val B Mine)) 313 #[.pointer (sq c2),.int .u8 b,.int .i64 m,.int .u8 k] i w (fun i' _ w'=>i'=i∧HC N Pb cp c1 c2 c ⟨eL b k,m,(jS b).1,(jS b).2⟩ w'):=by
 have C:Closed prog false (ef (aC prog N Pb Shun val B Mine)) (DK (aC prog N Pb Shun val B Mine)) (XK (aC prog N Pb Shun val B Mine)):=XK.closed (K:=(aC prog N Pb Shun val B Mine));have T:=jq (K:=(aC prog N Pb Shun val B Mine));have Tq:=T (true,[]);refine fe func313 (by rfl) rfl ?_;simp only[ntmps313,List.size_toArray,List.length_cons,List.length_nil,Nat.reduceAdd,Nat.reduceSub,Array.replicate_succ,Array.replicate_zero,List.push_toArray,List.append_toArray,List.nil_append,List.cons_append];co_apply aO C T (ef.refl _);co_reg (T _);iterate 5 co_op HC.rely U (co_quiet Tq)
 iterate 2 co_opw HC.rely U (skip) (co_still Tq)
 co_opw HC.rely U (have hc:=U.bZ) (exact fB U (.inr rfl) (by co_evs (exact ca (.inr (.inr rfl)))));replace U:=U.uJ (eL b k);clear hc;co_apply opsC_nil (T _);co_then;co_apply aO C T (ef.refl _);co_reg (T _);iterate 2 co_op HC.rely U (co_quiet Tq)
 iterate 2 co_opw HC.rely U (skip) (co_still Tq)
 co_opw HC.rely U (have hc:=U.bZ) (exact fB U (.inr rfl) (by co_evs (exact ca (.inr (.inr rfl)))));replace U:=U.nI m;clear hc;co_apply opsC_nil (T _);co_then;refine bN C T ?_;simp only[ia,Nat.reduceAdd];iterate 3
  refine aL C rfl (by rfl) fun _ hR Kx a0=>?_
  replace U:=HC.rely U hR
  clear hR
  go_simp
  try (unfold stored; go_simp)
  refine a0 _ _ ⟨?_,?_⟩
  ·co_quiet Tq
  clear a0 Kx;try walk_nrm
 refine bP C T rfl (by rfl) rfl rfl (by simp[Act.eval]) rfl (Fh U i b) ?_;rintro _ _ _ ⟨rfl,rfl,U⟩;iterate 3
  try walk_nrm
  refine aL C rfl (by rfl) fun _ hR Kx a0=>?_
  replace U:=HC.rely U hR
  clear hR
  go_simp
  try (unfold stored; go_simp)
  refine a0 _ _ ⟨?_,?_⟩
  ·co_quiet Tq
  clear a0 Kx
 iterate 2
  try walk_nrm
  refine aL C rfl (by rfl) fun _ hR Kx a0=>?_
  replace U:=HC.rely U hR
  clear hR
  go_simp
  try (unfold stored; go_simp)
  refine a0 _ _ ⟨?_,?_⟩
  ·co_still Tq
  clear a0 Kx
 try walk_nrm
 refine aL C rfl (by rfl) fun _ hR Kx a0=>?_;replace U:=HC.rely U hR;clear hR;have hc:=U.bZ;go_simp;try (unfold stored; go_simp)
 refine a0 _ _ ⟨?_,?_⟩
 ·exact fB U (.inr rfl) (by co_evs (exact ca (.inr (.inr rfl))))
 clear a0 Kx;try walk_nrm
 replace U:=U.G3 (jS b).1;clear hc;iterate 2
  refine aL C rfl (by rfl) fun _ hR Kx a0=>?_
  replace U:=HC.rely U hR
  clear hR
  go_simp
  try (unfold stored; go_simp)
  refine a0 _ _ ⟨?_,?_⟩
  ·co_still Tq
  clear a0 Kx;try walk_nrm
 refine aL C rfl (by rfl) fun _ hR Kx a0=>?_;replace U:=HC.rely U hR;clear hR;have hc:=U.bZ;go_simp;try (unfold stored; go_simp)
 refine a0 _ _ ⟨?_,?_⟩
 ·exact fB U (.inr rfl) (by co_evs (exact ca (.inr (.inr rfl))))
 clear a0 Kx;try walk_nrm
 replace U:=U.Cw (jS b).2;clear hc;refine cf C T ?_;exact⟨.inl rfl,rfl,_,resultsC_none (by rfl) _,rfl,U⟩
def gk (d:DS):DS × List Int:=if 0<d.missing then ({ d with missing:=0 },[65533]) else (d,[])
def aI(c:CS):List Int→CS × List Int
 | []=>(c,[])
 | r::l=>((aI (eh c r).1 l).1,(eh c r).2++(aI (eh c r).1 l).2)
theorem bY(c:CS)(r:Int):aI c [r]=eh c r:=by simp[aI]
theorem FH(U:HC N Pb cp c1 c2 c d w)(fr:Bool)(vs:Vq) :
  gD prog (XK (aC prog N Pb Shun val B Mine)) 118 #[.pointer (sq c2)] (fr,V (aI c (gk d).2).2++vs) w (fun i' _ w'=>i'=(fr&&(aI c (gk d).2).2.isEmpty,vs)∧HC N Pb cp c1 c2 (aI c (gk d).2).1 (gk d).1 w'):=by
 have C:Closed prog false (ef (aC prog N Pb Shun val B Mine)) (DK (aC prog N Pb Shun val B Mine)) (XK (aC prog N Pb Shun val B Mine)):=XK.closed (K:=(aC prog N Pb Shun val B Mine));have T:=jq (K:=(aC prog N Pb Shun val B Mine));have Tq:=T (true,[]);refine fe func118 (by rfl) rfl ?_;simp only[ntmps118,List.size_toArray,List.length_cons,List.length_nil,Nat.reduceAdd,Nat.reduceSub,Array.replicate_succ,Array.replicate_zero,List.push_toArray,List.append_toArray,List.nil_append,List.cons_append];co_apply aO C T (ef.refl _);co_reg (T _);co_op HC.rely U (co_quiet Tq);iterate 2 co_opw HC.rely U (skip) (co_still Tq)
 co_opw HC.rely U (have hc:=U.bZ) (refine dj U ?_; co_evs (exact ca (.inr (.inr rfl))));clear hc;co_op HC.rely U (co_quiet Tq);co_apply opsC_nil (T _);co_then;by_cases hm:0<d.missing
 ·have a1:decide (0<d.missing)=true:=decide_eq_true hm;try simp only[a1]
  refine aR C T (t:=true) rfl ?_;simp only[if_true,if_false,reduceIte,Bool.false_eq_true];co_apply aO C T (ef.refl _);co_reg (T _);co_op HC.rely U (co_quiet Tq);iterate 2 co_opw HC.rely U (skip) (co_still Tq)
  co_opw HC.rely U (have hc:=U.bZ) (exact fB U (.inr rfl) (by co_evs (exact ca (.inr (.inr rfl)))));replace U:=U.nI 0;clear hc;co_apply opsC_nil (T _);co_then;refine bN C T ?_;simp only[ia,Nat.reduceAdd];refine aL C rfl (by rfl) fun _ hR Kx a0=>?_;replace U:=HC.rely U hR;clear hR;go_simp;try (unfold stored; go_simp)
  refine a0 _ _ ⟨?_,?_⟩
  ·co_quiet Tq
  iterate 2
   clear a0 Kx
   try walk_nrm
   refine aL C rfl (by rfl) fun _ hR Kx a0=>?_
   replace U:=HC.rely U hR
   clear hR
   go_simp
   try (unfold stored; go_simp)
   refine a0 _ _ ⟨?_,?_⟩
   ·co_still Tq
  clear a0 Kx;try walk_nrm
  refine aL C rfl (by rfl) fun _ hR Kx a0=>?_;replace U:=HC.rely U hR;clear hR;have hc:=U.bZ;go_simp;try (unfold stored; go_simp)
  refine a0 _ _ ⟨?_,?_⟩
  ·refine dj U ?_;co_evs (exact ca (.inr (.inr rfl)))
  clear a0 Kx;try walk_nrm
  clear hc;refine bP C T rfl (by rfl) rfl rfl (by simp[Act.eval]) (by simp only[gk,if_pos hm,bY]) (yH U fr 65533 vs) ?_;rintro _ _ _ ⟨rfl,U⟩;refine cf C T ?_;exact⟨.inl rfl,rfl,_,resultsC_none (by rfl) _,by simp[gk,hm,bY],by simpa[gk,hm,bY] using U⟩
 ·have a1:decide (0<d.missing)=false:=decide_eq_false hm;try simp only[a1]
  refine aR C T (t:=false) rfl ?_;simp only[if_true,if_false,reduceIte,Bool.false_eq_true];refine eZ C T ?_;exact⟨.inl rfl,rfl,_,resultsC_none (by rfl) _,by simp[gk,hm,aI,V],by simpa[gk,hm,aI] using U⟩
def cK(d:DS)(b:Int):DS × List Int :=
 if b<128 then (d,[IntKind.i32.wrap b]) else if b<194 then (d,[65533]) else if b>244 then (d,[65533]) else if b<224 then (⟨eL b 31,1,(jS b).1,(jS b).2⟩,[]) else if b<240 then (⟨eL b 15,2,(jS b).1,(jS b).2⟩,[]) else (⟨eL b 7,3,(jS b).1,(jS b).2⟩,[])
theorem ve(hF:HC N Pb cp c1 c2 c d w)(fr:Bool)(b:Int)(vs:Vq) :
  gD prog (XK (aC prog N Pb Shun val B Mine)) 215 #[.pointer (sq c2),.int .u8 b] (fr,V (aI c (cK d b).2).2++vs) w (fun i' _ w'=>i'=(fr&&(aI c (cK d b).2).2.isEmpty,vs)∧HC N Pb cp c1 c2 (aI c (cK d b).2).1 (cK d b).1 w'):=by
 have C:Closed prog false (ef (aC prog N Pb Shun val B Mine)) (DK (aC prog N Pb Shun val B Mine)) (XK (aC prog N Pb Shun val B Mine)):=XK.closed (K:=(aC prog N Pb Shun val B Mine));have T:=jq (K:=(aC prog N Pb Shun val B Mine));have Tq:=T (true,[]);refine fe func215 (by rfl) rfl ?_;simp only[ntmps215,List.size_toArray,List.length_cons,List.length_nil,Nat.reduceAdd,Nat.reduceSub,Array.replicate_succ,Array.replicate_zero,List.push_toArray,List.append_toArray,List.nil_append,List.cons_append];refine ig C T ?_;co_apply aO C T (ef.refl _);co_reg (T _);iterate 3 co_op HC.rely hF (co_quiet Tq)
 co_apply opsC_nil (T _);co_then;by_cases h1:b<128
 ·have Mg:decide (b<128)=true:=decide_eq_true h1;try simp only[Mg]
  refine aR C T (t:=true) rfl ?_;simp only[if_true,if_false,reduceIte,Bool.false_eq_true];have a0:cK d b=(d,[IntKind.i32.wrap b]):=by simp[cK,h1]
  refine bN C T ?_;simp only[ia,Nat.reduceAdd];refine aL C rfl (by rfl) fun _ hR Kx U=>?_;replace hF:=HC.rely hF hR;clear hR;go_simp;try (unfold stored; go_simp)
  refine U _ _ ⟨?_,?_⟩
  ·co_quiet Tq
  iterate 2
   clear U Kx
   try walk_nrm
   refine aL C rfl (by rfl) fun _ hR Kx U=>?_
   replace hF:=HC.rely hF hR
   clear hR
   go_simp
   try (unfold stored; go_simp)
   refine U _ _ ⟨?_,?_⟩
   ·co_still Tq
  clear U Kx;try walk_nrm
  refine aL C rfl (by rfl) fun _ hR Kx U=>?_;replace hF:=HC.rely hF hR;clear hR;have hc:=hF.bZ;go_simp;try (unfold stored; go_simp)
  refine U _ _ ⟨?_,?_⟩
  ·refine dj hF ?_;co_evs (exact ca (.inr (.inr rfl)))
  clear U Kx;try walk_nrm
  clear hc;iterate 2
   refine aL C rfl (by rfl) fun _ hR Kx U=>?_
   replace hF:=HC.rely hF hR
   clear hR
   go_simp
   try (unfold stored; go_simp)
   refine U _ _ ⟨?_,?_⟩
   ·co_quiet Tq
   clear U Kx;try walk_nrm
  refine bP C T rfl (by rfl) rfl rfl (by simp[Act.eval]) (by rw[a0]; simp only[bY]) (yH hF fr (IntKind.i32.wrap b) vs) ?_;rintro _ _ _ ⟨rfl,hF⟩;refine cf C T ?_;exact⟨.inl rfl,rfl,_,resultsC_none (by rfl) _,by simp[a0,bY],by rw[a0,bY]; exact hF⟩
 ·have Mg:decide (b<128)=false:=decide_eq_false h1;try simp only[Mg]
  refine aR C T (t:=false) rfl ?_;simp only[if_true,if_false,reduceIte,Bool.false_eq_true];by_cases h2:b<194
  ·have a1:decide (b<194)=true:=decide_eq_true h2;co_apply aO C T (ef.refl _);co_reg (T _);iterate 3 co_op HC.rely hF (co_quiet Tq)
   try simp only[a1]
   iterate 2 co_apply opsC_unwanted (T _) rfl (by rfl)
   iterate 2 co_op HC.rely hF (co_quiet Tq)
   co_apply opsC_nil (T _);co_then;refine aR C T (t:=true) rfl ?_;simp only[if_true,if_false,reduceIte,Bool.false_eq_true];have a0:cK d b=(d,[65533]):=by simp[cK,h1,h2]
   refine bN C T ?_;simp only[ia,Nat.reduceAdd];refine aL C rfl (by rfl) fun _ hR Kx U=>?_;replace hF:=HC.rely hF hR;clear hR;go_simp;try (unfold stored; go_simp)
   refine U _ _ ⟨?_,?_⟩
   ·co_quiet Tq
   iterate 2
    clear U Kx
    try walk_nrm
    refine aL C rfl (by rfl) fun _ hR Kx U=>?_
    replace hF:=HC.rely hF hR
    clear hR
    go_simp
    try (unfold stored; go_simp)
    refine U _ _ ⟨?_,?_⟩
    ·co_still Tq
   clear U Kx;try walk_nrm
   refine aL C rfl (by rfl) fun _ hR Kx U=>?_;replace hF:=HC.rely hF hR;clear hR;have hc:=hF.bZ;go_simp;try (unfold stored; go_simp)
   refine U _ _ ⟨?_,?_⟩
   ·refine dj hF ?_;co_evs (exact ca (.inr (.inr rfl)))
   clear U Kx;try walk_nrm
   clear hc;refine bP C T rfl (by rfl) rfl rfl (by simp[Act.eval]) (by rw[a0]; simp only[bY]) (yH hF fr 65533 vs) ?_;rintro _ _ _ ⟨rfl,hF⟩;refine cf C T ?_;exact⟨.inl rfl,rfl,_,resultsC_none (by rfl) _,by simp[a0,bY],by rw[a0,bY]; exact hF⟩
  ·have a1:decide (b<194)=false:=decide_eq_false h2;co_apply aO C T (ef.refl _);co_reg (T _);iterate 3 co_op HC.rely hF (co_quiet Tq)
   try simp only[a1]
   iterate 4 co_op HC.rely hF (co_quiet Tq)
   co_apply opsC_nil (T _);co_then;by_cases h3:b>244
   ·have a2:decide (b>244)=true:=decide_eq_true h3;try simp only[a2]
    refine aR C T (t:=true) rfl ?_;simp only[if_true,if_false,reduceIte,Bool.false_eq_true];have a0:cK d b=(d,[65533]):=by simp[cK,h1,h2,h3]
    refine bN C T ?_;simp only[ia,Nat.reduceAdd];refine aL C rfl (by rfl) fun _ hR Kx U=>?_;replace hF:=HC.rely hF hR;clear hR;go_simp;try (unfold stored; go_simp)
    refine U _ _ ⟨?_,?_⟩
    ·co_quiet Tq
    iterate 2
     clear U Kx
     try walk_nrm
     refine aL C rfl (by rfl) fun _ hR Kx U=>?_
     replace hF:=HC.rely hF hR
     clear hR
     go_simp
     try (unfold stored; go_simp)
     refine U _ _ ⟨?_,?_⟩
     ·co_still Tq
    clear U Kx;try walk_nrm
    refine aL C rfl (by rfl) fun _ hR Kx U=>?_;replace hF:=HC.rely hF hR;clear hR;have hc:=hF.bZ;go_simp;try (unfold stored; go_simp)
    refine U _ _ ⟨?_,?_⟩
    ·refine dj hF ?_;co_evs (exact ca (.inr (.inr rfl)))
    clear U Kx;try walk_nrm
    clear hc;refine bP C T rfl (by rfl) rfl rfl (by simp[Act.eval]) (by rw[a0]; simp only[bY]) (yH hF fr 65533 vs) ?_;rintro _ _ _ ⟨rfl,hF⟩;refine cf C T ?_;exact⟨.inl rfl,rfl,_,resultsC_none (by rfl) _,by simp[a0,bY],by rw[a0,bY]; exact hF⟩
   ·have a2:decide (b>244)=false:=decide_eq_false h3;try simp only[a2]
    refine aR C T (t:=false) rfl ?_;simp only[if_true,if_false,reduceIte,Bool.false_eq_true];co_apply aO C T (ef.refl _);co_reg (T _);iterate 3 co_op HC.rely hF (co_quiet Tq)
    co_apply opsC_nil (T _);co_then;by_cases h4:b<224
    ·have a3:decide (b<224)=true:=decide_eq_true h4;try simp only[a3]
     refine aR C T (t:=true) rfl ?_;simp only[if_true,if_false,reduceIte,Bool.false_eq_true];have a0:cK d b=(⟨eL b 31,1,(jS b).1,(jS b).2⟩,[]):=by simp[cK,h1,h2,h3,h4]
     refine bN C T ?_;simp only[ia,Nat.reduceAdd];iterate 2
      refine aL C rfl (by rfl) fun _ hR Kx U=>?_
      replace hF:=HC.rely hF hR
      clear hR
      go_simp
      try (unfold stored; go_simp)
      refine U _ _ ⟨?_,?_⟩
      ·co_quiet Tq
      clear U Kx;try walk_nrm
     refine bP C T rfl (by rfl) rfl rfl (by simp[Act.eval]) (by rw[a0]; simp[aI,V]) (Ay hF (fr,vs) b 1 31) ?_;rintro _ _ _ ⟨rfl,hF⟩;refine cf C T ?_;exact⟨.inl rfl,rfl,_,resultsC_none (by rfl) _,by simp[a0,aI],by rw[a0]; exact hF⟩
    ·have a3:decide (b<224)=false:=decide_eq_false h4;try simp only[a3]
     refine aR C T (t:=false) rfl ?_;simp only[if_true,if_false,reduceIte,Bool.false_eq_true];co_apply aO C T (ef.refl _);co_reg (T _);iterate 3 co_op HC.rely hF (co_quiet Tq)
     co_apply opsC_nil (T _);co_then;by_cases h5:b<240
     ·have a4:decide (b<240)=true:=decide_eq_true h5;try simp only[a4]
      refine aR C T (t:=true) rfl ?_;simp only[if_true,if_false,reduceIte,Bool.false_eq_true];have a0:cK d b=(⟨eL b 15,2,(jS b).1,(jS b).2⟩,[]):=by simp[cK,h1,h2,h3,h4,h5]
      refine bN C T ?_;simp only[ia,Nat.reduceAdd];iterate 2
       refine aL C rfl (by rfl) fun _ hR Kx U=>?_
       replace hF:=HC.rely hF hR
       clear hR
       go_simp
       try (unfold stored; go_simp)
       refine U _ _ ⟨?_,?_⟩
       ·co_quiet Tq
       clear U Kx;try walk_nrm
      refine bP C T rfl (by rfl) rfl rfl (by simp[Act.eval]) (by rw[a0]; simp[aI,V]) (Ay hF (fr,vs) b 2 15) ?_;rintro _ _ _ ⟨rfl,hF⟩;refine cf C T ?_;exact⟨.inl rfl,rfl,_,resultsC_none (by rfl) _,by simp[a0,aI],by rw[a0]; exact hF⟩
     ·have a4:decide (b<240)=false:=decide_eq_false h5;try simp only[a4]
      refine aR C T (t:=false) rfl ?_;simp only[if_true,if_false,reduceIte,Bool.false_eq_true];have a0:cK d b=(⟨eL b 7,3,(jS b).1,(jS b).2⟩,[]):=by simp[cK,h1,h2,h3,h4,h5]
      refine bN C T ?_;simp only[ia,Nat.reduceAdd];iterate 2
       refine aL C rfl (by rfl) fun _ hR Kx U=>?_
       replace hF:=HC.rely hF hR
       clear hR
       go_simp
       try (unfold stored; go_simp)
       refine U _ _ ⟨?_,?_⟩
       ·co_quiet Tq
       clear U Kx;try walk_nrm
      refine bP C T rfl (by rfl) rfl rfl (by simp[Act.eval]) (by rw[a0]; simp[aI,V]) (Ay hF (fr,vs) b 3 7) ?_;rintro _ _ _ ⟨rfl,hF⟩;refine cf C T ?_;exact⟨.inl rfl,rfl,_,resultsC_none (by rfl) _,by simp[a0,aI],by rw[a0]; exact hF⟩
end
def c8(l b:Int):Int:=bits .or .i32 (IntKind.i32.wrap (l*64)) (IntKind.i32.wrap (bits .and .u8 b 63))
def cG(d:DS)(b:Int):DS × List Int :=
 (⟨c8 d.letter b,IntKind.i64.wrap (d.missing-1),128,191⟩,if IntKind.i64.wrap (d.missing-1)=0 then [c8 d.letter b] else [])
section
variable {N Pb cp c1 c2:Nat}{Shun:Loc→Prop}{val:Value}{B:Nat}{Mine:Loc→Prop}{c:CS}{d:DS}{w aB:World}
variable [Go.ConcR.Payload][Go.ConcX.Payload]
theorem FM(U:HC N Pb cp c1 c2 c d w)(fr:Bool)(b:Int)(vs:Vq) :
  gD prog (XK (aC prog N Pb Shun val B Mine)) 214 #[.pointer (sq c2),.int .u8 b] (fr,V (aI c (cG d b).2).2++vs) w (fun i' _ w'=>i'=(fr&&(aI c (cG d b).2).2.isEmpty,vs)∧HC N Pb cp c1 c2 (aI c (cG d b).2).1 (cG d b).1 w'):=by
 have C:Closed prog false (ef (aC prog N Pb Shun val B Mine)) (DK (aC prog N Pb Shun val B Mine)) (XK (aC prog N Pb Shun val B Mine)):=XK.closed (K:=(aC prog N Pb Shun val B Mine));have T:=jq (K:=(aC prog N Pb Shun val B Mine));have Tq:=T (true,[]);have SZ:∀w:World,ef (aC prog N Pb Shun val B Mine) (true,[]) w { w with drawn:=w.drawn+1 }:=sf;refine fe func214 (by rfl) rfl ?_;simp only[ntmps214,List.size_toArray,List.length_cons,List.length_nil,Nat.reduceAdd,Nat.reduceSub,Array.replicate_succ,Array.replicate_zero,List.push_toArray,List.append_toArray,List.nil_append,List.cons_append];co_apply aO C T (ef.refl _);co_reg (T _);iterate 2 co_op HC.rely U (co_quiet Tq)
 iterate 2 co_opw HC.rely U (skip) (co_still Tq)
 co_opw HC.rely U (have hc:=U.bZ) (refine dj U ?_; co_evs (exact ca (.inr (.inr rfl))));clear hc;iterate 5 co_op HC.rely U (co_quiet Tq)
 iterate 2 co_opw HC.rely U (skip) (co_still Tq)
 co_opw HC.rely U (have hc:=U.bZ) (exact fB U (.inr rfl) (by co_evs (exact ca (.inr (.inr rfl)))));replace U:=U.uJ (c8 d.letter b);clear hc;co_apply opsC_nil (T _);co_then;co_apply aO C T (ef.refl _);co_reg (T _);co_op HC.rely U (co_quiet Tq);iterate 2 co_opw HC.rely U (skip) (co_still Tq)
 co_opw HC.rely U (have hc:=U.bZ) (refine dj U ?_; co_evs (exact ca (.inr (.inr rfl))));clear hc;co_op HC.rely U (co_quiet Tq);iterate 2 co_opw HC.rely U (skip) (co_still Tq)
 co_opw HC.rely U (have hc:=U.bZ) (exact fB U (.inr rfl) (by co_evs (exact ca (.inr (.inr rfl)))));replace U:=U.nI (IntKind.i64.wrap (d.missing-1));clear hc;co_apply opsC_nil (T _);co_then;co_apply aO C T (ef.refl _);co_reg (T _);iterate 2 co_op HC.rely U (co_quiet Tq)
 iterate 2 co_opw HC.rely U (skip) (co_still Tq)
 co_opw HC.rely U (have hc:=U.bZ) (exact fB U (.inr rfl) (by co_evs (exact ca (.inr (.inr rfl)))));replace U:=U.G3 128;clear hc;iterate 2 co_opw HC.rely U (skip) (co_still Tq)
 co_opw HC.rely U (have hc:=U.bZ) (exact fB U (.inr rfl) (by co_evs (exact ca (.inr (.inr rfl)))));replace U:=U.Cw 191;clear hc;co_apply opsC_nil (T _);co_then;co_apply aO C T (ef.refl _);co_reg (T _);co_op HC.rely U (co_quiet Tq);iterate 2 co_opw HC.rely U (skip) (co_still Tq)
 co_opw HC.rely U (have hc:=U.bZ) (refine dj U ?_; co_evs (exact ca (.inr (.inr rfl))));clear hc;co_op HC.rely U (co_quiet Tq);co_apply opsC_nil (T _);co_then;by_cases Ov:IntKind.i64.wrap (d.missing-1)=0
 ·have a1:(IntKind.i64.wrap (d.missing-1)==0)=true:=by simp[Ov]
  try simp only[a1]
  clear a1;refine aR C T (t:=true) rfl ?_;simp only[if_true,if_false,reduceIte,Bool.false_eq_true];refine qR C T (n:=8) (S:=HC N Pb cp c1 c2 c ⟨c8 d.letter b,IntKind.i64.wrap (d.missing-1),128,191⟩) (K:=fun a' w'=>(a'.eval (.tmp 37)=kg c1∧a'.eval (.tmp 41)=.int .i32 (c8 d.letter b)∧a'.defers=[])∧HC N Pb cp c1 c2 c ⟨c8 d.letter b,IntKind.i64.wrap (d.missing-1),128,191⟩ w') K4 (by first|kernel_rfl|rfl) rfl (fun l=>(!l.getD 1 false||l.getD 0 false)&&(!l.getD 2 false||l.getD 1 false)&&(!l.getD 3 false||l.getD 2 false)&&(!l.getD 5 false||l.getD 4 false)&&(!l.getD 6 false||l.getD 5 false)&&(!l.getD 7 false||l.getD 6 false)) rfl ?U7 ?Gb (fun aB hR=>?any) ?last;case Gb =>
   intro listed hs hl;obtain⟨l⟩:=listed;match l,hs,hl with
   | [b0,b1,b2,b3,b4,b5,b6,b7,b8],hs,hl =>clear hs;simp only[List.getElem?_toArray,List.getElem?_cons_succ,List.getElem?_cons_zero,Option.some.injEq] at hl;subst hl;clear U Ov;revert b0 b1 b2 b3 b4 b5 b6 b7;decide +kernel
  case U7 =>
   intro listed hs hl;obtain⟨l⟩:=listed;match l,hs,hl with
   | [b0,b1,b2,b3,b4,b5,b6,b7,b8],hs,hl =>clear hs;simp only[List.getElem?_toArray,List.getElem?_cons_succ,List.getElem?_cons_zero,Option.some.injEq] at hl;subst hl;clear U Ov;revert b0 b1 b2 b3 b4 b5 b6 b7;decide +kernel
  case any =>
   replace U:=HC.rely (HC.rely U hR) (SZ _);clear hR;co_applyP anyCH_take (T _) (fun _ _ h r=>HC.rely h r) (fun _ _ _ h r=>⟨h.1,h.2.1,HC.rely h.2.2 r⟩) (i:=0) rfl (by decide +kernel) (by decide +kernel) (by decide +kernel) (.inl ⟨by rfl,fun _ hw=>⟨run_eq_of ?Nv,?FP⟩⟩) U ?RX;case Nv =>intro Kx js;go_simp;exact js
   case FP =>co_quiet Tq
   try walk_nrm
   co_applyP anyCH_take (T _) (fun _ _ h r=>HC.rely h r) (fun _ _ _ h r=>⟨h.1,h.2.1,HC.rely h.2.2 r⟩) (i:=1) rfl (by decide +kernel) (by decide +kernel) (by decide +kernel) (.inl ⟨by rfl,fun _ hw=>⟨run_eq_of ?Nw,?FQ⟩⟩) U ?RY;case Nw =>intro Kx js;go_simp;exact js
   case FQ =>co_still Tq
   try walk_nrm
   co_applyP anyCH_take (T _) (fun _ _ h r=>HC.rely h r) (fun _ _ _ h r=>⟨h.1,h.2.1,HC.rely h.2.2 r⟩) (i:=2) rfl (by decide +kernel) (by decide +kernel) (by decide +kernel) (.inl ⟨by rfl,fun _ hw=>⟨run_eq_of ?Ny,?FR⟩⟩) U ?RZ;case Ny =>intro Kx js;go_simp;exact js
   case FR =>co_still Tq
   try walk_nrm
   co_applyP anyCH_take (T _) (fun _ _ h r=>HC.rely h r) (fun _ _ _ h r=>⟨h.1,h.2.1,HC.rely h.2.2 r⟩) (i:=3) rfl (by decide +kernel) (by decide +kernel) (by decide +kernel) (.inl ⟨by rfl,fun _ hw=>⟨run_eq_of ?Nz,?FT⟩⟩) U ?R0;case Nz =>intro Kx js;have hc:=hw.bZ;go_simp;exact js
   case FT =>have hc:=hw.bZ;refine dj hw ?_; co_evs (exact ca (.inr (.inr rfl)))
   try walk_nrm
   co_applyP anyCH_take (T _) (fun _ _ h r=>HC.rely h r) (fun _ _ _ h r=>⟨h.1,h.2.1,HC.rely h.2.2 r⟩) (i:=4) rfl (by decide +kernel) (by decide +kernel) (by decide +kernel) (.inl ⟨by rfl,fun _ hw=>⟨run_eq_of ?NA,?FU⟩⟩) U ?R4;case NA =>intro Kx js;go_simp;exact js
   case FU =>co_quiet Tq
   try walk_nrm
   co_applyP anyCH_take (T _) (fun _ _ h r=>HC.rely h r) (fun _ _ _ h r=>⟨h.1,h.2.1,HC.rely h.2.2 r⟩) (i:=5) rfl (by decide +kernel) (by decide +kernel) (by decide +kernel) (.inl ⟨by rfl,fun _ hw=>⟨run_eq_of ?NB,?FV⟩⟩) U ?R5;case NB =>intro Kx js;go_simp;exact js
   case FV =>co_still Tq
   try walk_nrm
   co_applyP anyCH_take (T _) (fun _ _ h r=>HC.rely h r) (fun _ _ _ h r=>⟨h.1,h.2.1,HC.rely h.2.2 r⟩) (i:=6) rfl (by decide +kernel) (by decide +kernel) (by decide +kernel) (.inl ⟨by rfl,fun _ hw=>⟨run_eq_of ?NC,?FW⟩⟩) U ?R6;case NC =>intro Kx js;go_simp;exact js
   case FW =>co_still Tq
   try walk_nrm
   co_applyP anyCH_take (T _) (fun _ _ h r=>HC.rely h r) (fun _ _ _ h r=>⟨h.1,h.2.1,HC.rely h.2.2 r⟩) (i:=7) rfl (by decide +kernel) (by decide +kernel) (by decide +kernel) (.inl ⟨by rfl,fun _ hw=>⟨run_eq_of ?ND,?FX⟩⟩) U ?R7;case ND =>intro Kx js;have hc:=hw.bZ;go_simp;exact js
   case FX =>have hc:=hw.bZ;refine dj hw ?_; co_evs (exact ca (.inr (.inr rfl)))
   try walk_nrm
   exact anyCH_done (by decide +kernel) ⟨rfl,⟨rfl,rfl,rfl⟩,U⟩ _
  case last =>
   rintro a' w' ⟨⟨a2,a3,a4⟩,U⟩;have a0:cG d b=(⟨c8 d.letter b,IntKind.i64.wrap (d.missing-1),128,191⟩,[c8 d.letter b]):=by simp only[cG,if_pos Ov]
   refine bP C T rfl (by rfl) rfl a2 (by simp only[List.map_toArray,List.map_cons,List.map_nil,a3]; rfl) (by rw[a0]; simp only[bY]) (yH U fr (c8 d.letter b) vs) ?_;rintro _ _ _ ⟨rfl,U⟩;refine cf C T ?_;exact⟨.inl rfl,a4,_,resultsC_none (by rfl) _,by simp[a0,bY],by rw[a0,bY]; exact U⟩
 ·have a1:(IntKind.i64.wrap (d.missing-1)==0)=false:=by simp[Ov]
  try simp only[a1]
  refine aR C T (t:=false) rfl ?_;simp only[if_true,if_false,reduceIte,Bool.false_eq_true];refine eZ C T ?_;have a0:cG d b=(⟨c8 d.letter b,IntKind.i64.wrap (d.missing-1),128,191⟩,[]):=by simp only[cG,if_neg Ov]
  exact⟨.inl rfl,rfl,_,resultsC_none (by rfl) _,by simp[a0,aI,V],by rw[a0]; exact U⟩
end
end Go.Proofs.YtgcaionclkbehaaGreatDoor
