import Derived.Test.YtgcaionclkbehaaGreatDoorKid
set_option linter.all false
set_option maxRecDepth 100000
set_option maxHeartbeats 2000000
namespace Go.Proofs.YtgcaionclkbehaaGreatDoor
open Tryz
open Go.Conc Go.RowKit
def zj7 (c : CS) (r : Int) : CS × List Int :=
 (⟨true,r == 13⟩,if (!c.begun && r == 65279) = true then [] else if (c.returned && r == 10) = true then [] else if r = 13 then [10] else if r = 0 then [65533] else [r])
def V (ls : List Int) : List Value := ls.map (.int .i32 ·)
section
variable {N Pb cp c1 c2 : Nat} {Shun : Loc → Prop} {val : Value} {B : Nat} {Mine : Loc → Prop} {c : CS} {d : DS} {w w₁ : World}
variable [Go.ConcR.Payload] [Go.ConcX.Payload]
theorem put_x (hF : HC N Pb cp c1 c2 c d w) (fr : Bool) (r : Int) (vs : List Value) :
  zj8 prog (XK (kcfg prog N Pb Shun val B Mine)) 116 #[.pointer (some ⟨c1,0,none⟩), .int .i32 r] (fr,V (zj7 c r).2 ++ vs) w (fun i' _ w' => i' = (fr && (zj7 c r).2.isEmpty,vs) ∧ HC N Pb cp c1 c2 (zj7 c r).1 d w') := by
 have C : Closed prog false (RKd (kcfg prog N Pb Shun val B Mine)) (DK (kcfg prog N Pb Shun val B Mine)) (XK (kcfg prog N Pb Shun val B Mine)) := XK.closed (K := (kcfg prog N Pb Shun val B Mine))
 have T := zm6 (K := (kcfg prog N Pb Shun val B Mine))
 have Tq := T (true, [])
 have evb : ∀ (w : World) (es : Array Event) (a : Addr) (m : Mode) (x : Bool),(store a (.bool x) m).events prog w es = storedEv prog w es a (.bool x) m := fun w es a m x => events_store prog w es a _ m rfl
 have hdr : ∀ w : World,RKd (kcfg prog N Pb Shun val B Mine) (true, []) w { w with drawn := w.drawn + 1 } := zl1
 refine zf5 func116 (by rfl) rfl ?_
 simp only [ntmps116,List.size_toArray,List.length_cons,List.length_nil,Nat.reduceAdd,Nat.reduceSub,Array.replicate_succ,Array.replicate_zero,List.push_toArray,List.append_toArray,List.nil_append,List.cons_append]
 co_apply zb1 C T (RKd.refl _)
 co_held (T _) drawK hdr (HC N Pb cp c1 c2 c d) HC.rely hF
 co_applyP anyCH_take (T _) (fun _ _ h r => HC.rely h r) (fun _ _ _ h r => zh1 C h r) (i := 0) rfl (by first | kernel_rfl | decide +kernel) (by first | kernel_rfl | decide +kernel) (by first | kernel_rfl | decide +kernel) (.inl ⟨by rfl,fun _ hw => ⟨run_eq_of ?run0,?guar0⟩⟩) hF ?rest0
 case run0 =>
  intro Kx hKx
  skip
  go_simp
  exact hKx
 case guar0 =>
  skip
  co_quiet Tq
 try walk_nrm
 co_applyP anyCH_take (T _) (fun _ _ h r => HC.rely h r) (fun _ _ _ h r => zh1 C h r) (i := 1) rfl (by first | kernel_rfl | decide +kernel) (by first | kernel_rfl | decide +kernel) (by first | kernel_rfl | decide +kernel) (.inl ⟨by rfl,fun _ hw => ⟨run_eq_of ?run1,?guar1⟩⟩) hF ?rest1
 case run1 =>
  intro Kx hKx
  skip
  go_simp
  exact hKx
 case guar1 =>
  skip
  co_still Tq
 try walk_nrm
 co_applyP anyCH_take (T _) (fun _ _ h r => HC.rely h r) (fun _ _ _ h r => zh1 C h r) (i := 2) rfl (by first | kernel_rfl | decide +kernel) (by first | kernel_rfl | decide +kernel) (by first | kernel_rfl | decide +kernel) (.inl ⟨by rfl,fun _ hw => ⟨run_eq_of ?run2,?guar2⟩⟩) hF ?rest2
 case run2 =>
  intro Kx hKx
  skip
  go_simp
  exact hKx
 case guar2 =>
  skip
  co_still Tq
 try walk_nrm
 co_applyP anyCH_take (T _) (fun _ _ h r => HC.rely h r) (fun _ _ _ h r => zh1 C h r) (i := 3) rfl (by first | kernel_rfl | decide +kernel) (by first | kernel_rfl | decide +kernel) (by first | kernel_rfl | decide +kernel) (.inl ⟨by rfl,fun _ hw => ⟨run_eq_of ?run3,?guar3⟩⟩) hF ?rest3
 case run3 =>
  intro Kx hKx
  have hc := hw.cells_cl
  go_simp
  exact hKx
 case guar3 =>
  have hc := hw.cells_cl
  refine zd1 hw ?_; co_evs (exact zc1 (.inr (.inl rfl)))
 try walk_nrm
 co_applyP anyCH_take (T _) (fun _ _ h r => HC.rely h r) (fun _ _ _ h r => zh1 C h r) (i := 4) rfl (by first | kernel_rfl | decide +kernel) (by first | kernel_rfl | decide +kernel) (by first | kernel_rfl | decide +kernel) (.inl ⟨by rfl,fun _ hw => ⟨run_eq_of ?run4,?guar4⟩⟩) hF ?rest4
 case run4 =>
  intro Kx hKx
  skip
  go_simp
  exact hKx
 case guar4 =>
  skip
  co_quiet Tq
 try walk_nrm
 co_applyP anyCH_take (T _) (fun _ _ h r => HC.rely h r) (fun _ _ _ h r => zh1 C h r) (i := 5) rfl (by first | kernel_rfl | decide +kernel) (by first | kernel_rfl | decide +kernel) (by first | kernel_rfl | decide +kernel) (.inl ⟨by rfl,fun _ hw => ⟨run_eq_of ?run5,?guar5⟩⟩) hF ?rest5
 case run5 =>
  intro Kx hKx
  skip
  go_simp
  exact hKx
 case guar5 =>
  skip
  co_quiet Tq
 try walk_nrm
 co_applyP anyCH_take (T _) (fun _ _ h r => HC.rely h r) (fun _ _ _ h r => zh1 C h r) (i := 6) rfl (by first | kernel_rfl | decide +kernel) (by first | kernel_rfl | decide +kernel) (by first | kernel_rfl | decide +kernel) (.inl ⟨by rfl,fun _ hw => ⟨run_eq_of ?run6,?guar6⟩⟩) hF ?rest6
 case run6 =>
  intro Kx hKx
  skip
  go_simp
  exact hKx
 case guar6 =>
  skip
  co_still Tq
 try walk_nrm
 co_applyP anyCH_take (T _) (fun _ _ h r => HC.rely h r) (fun _ _ _ h r => zh1 C h r) (i := 7) rfl (by first | kernel_rfl | decide +kernel) (by first | kernel_rfl | decide +kernel) (by first | kernel_rfl | decide +kernel) (.inl ⟨by rfl,fun _ hw => ⟨run_eq_of ?run7,?guar7⟩⟩) hF ?rest7
 case run7 =>
  intro Kx hKx
  skip
  go_simp
  exact hKx
 case guar7 =>
  skip
  co_still Tq
 try walk_nrm
 co_applyP anyCH_take (T _) (fun _ _ h r => HC.rely h r) (fun _ _ _ h r => zh1 C h r) (i := 8) rfl (by first | kernel_rfl | decide +kernel) (by first | kernel_rfl | decide +kernel) (by first | kernel_rfl | decide +kernel) (.inl ⟨by rfl,fun _ hw => ⟨run_eq_of ?run8,?guar8⟩⟩) hF ?rest8
 case run8 =>
  intro Kx hKx
  have hc := hw.cells_cl
  go_simp
  exact hKx
 case guar8 =>
  have hc := hw.cells_cl
  refine zd1 hw ?_; co_evs (exact zc1 (.inr (.inl rfl)))
 try walk_nrm
 co_applyP anyCH_take (T _) (fun _ _ h r => HC.rely h r) (fun _ _ _ h r => zh1 C h r) (i := 9) rfl (by first | kernel_rfl | decide +kernel) (by first | kernel_rfl | decide +kernel) (by first | kernel_rfl | decide +kernel) (.inl ⟨by rfl,fun _ hw => ⟨run_eq_of ?run9,?guar9⟩⟩) hF ?rest9
 case run9 =>
  intro Kx hKx
  skip
  go_simp
  exact hKx
 case guar9 =>
  skip
  co_quiet Tq
 try walk_nrm
 co_applyP anyCH_take (T _) (fun _ _ h r => HC.rely h r) (fun _ _ _ h r => zh1 C h r) (i := 10) rfl (by first | kernel_rfl | decide +kernel) (by first | kernel_rfl | decide +kernel) (by first | kernel_rfl | decide +kernel) (.inl ⟨by rfl,fun _ hw => ⟨run_eq_of ?run10,?guar10⟩⟩) hF ?rest10
 case run10 =>
  intro Kx hKx
  skip
  go_simp
  exact hKx
 case guar10 =>
  skip
  co_quiet Tq
 try walk_nrm
 co_done
 co_apply zb1 C T (RKd.refl _)
 co_reg (T _)
 iterate 4
  co_op HC.rely hF (co_quiet Tq)
 iterate 2
  co_opw HC.rely hF (skip) (co_still Tq)
 co_opw HC.rely hF (have hc := hF.cells_cl) (exact zh4 hF (.inl rfl) (by co_evs (exact zc1 (.inr (.inl rfl)))))
 replace hF := hF.set1 true
 clear hc
 iterate 2
  co_opw HC.rely hF (skip) (co_still Tq)
 co_opw HC.rely hF (have hc := hF.cells_cl) (exact zh4 hF (.inl rfl) (by co_evs (exact zc1 (.inr (.inl rfl)))))
 replace hF := hF.set2 (r == 13)
 clear hc
 co_apply opsC_nil (T _)
 co_then
 refine zh9 C T ?_
 generalize hf1 : (!c.begun) = f1
 generalize hb1 : c.returned = b1
 have hc2 : zj7 c r = (⟨true,r == 13⟩,if (f1 && r == 65279) = true then [] else if (b1 && r == 10) = true then [] else if r = 13 then [10] else if r = 0 then [65533] else [r]) := by rw [zj7,hf1,hb1]
 rw [hc2]
 clear hc2 hf1 hb1
 cases f1 <;> cases b1
 ·
  co_apply zb1 C T (RKd.refl _)
  iterate 2
   co_reg (T _)
   co_op HC.rely hF (co_quiet Tq)
   co_op HC.rely hF (co_quiet Tq)
   co_apply opsC_unwanted (T _) rfl (by rfl)
   co_apply opsC_unwanted (T _) rfl (by rfl)
   co_op HC.rely hF (co_quiet Tq)
   co_op HC.rely hF (co_quiet Tq)
   co_apply opsC_nil (T _)
   co_then
   try simp only [Bool.and_true,Bool.and_false,Bool.false_and,Bool.true_and,Bool.false_eq_true,if_true,if_false,reduceIte]
   refine zb0 C T (t := false) rfl ?_
   simp only [if_true,if_false,reduceIte,Bool.false_eq_true]
   co_apply zb1 C T (RKd.refl _)
  co_reg (T _)
  iterate 3
   co_op HC.rely hF (co_quiet Tq)
  co_apply opsC_nil (T _)
  co_then
  by_cases h13 : r = 13
  ·
   have hb13 : (r == 13) = true := by simp [h13]
   simp only [hb13,if_pos h13,Bool.and_true,Bool.and_false,Bool.false_and,Bool.true_and,Bool.false_eq_true,if_true,if_false,reduceIte]
   try simp only [hb13] at hF
   refine zb0 C T (t := true) rfl ?_
   simp only [if_true,if_false,reduceIte,Bool.false_eq_true]
   refine zb2 C T ?_
   simp only [szR,Nat.reduceAdd]
   refine za4 C rfl (by rfl) fun _ hR Kx hKx => ?_
   replace hF := HC.rely hF hR
   clear hR
   go_simp
   try (unfold stored; go_simp)
   refine hKx _ _ ⟨?_,?_⟩
   ·
    co_quiet Tq
   iterate 2
    clear hKx Kx
    try walk_nrm
    refine za4 C rfl (by rfl) fun _ hR Kx hKx => ?_
    replace hF := HC.rely hF hR
    clear hR
    go_simp
    try (unfold stored; go_simp)
    refine hKx _ _ ⟨?_,?_⟩
    ·
     co_still Tq
   clear hKx Kx
   try walk_nrm
   refine za4 C rfl (by rfl) fun _ hR Kx hKx => ?_
   replace hF := HC.rely hF hR
   clear hR
   have hc := hF.cells_cl
   go_simp
   try (unfold stored; go_simp)
   refine hKx _ _ ⟨?_,?_⟩
   ·
    refine zd1 hF ?_
    co_evs (exact zc1 (.inr (.inl rfl)))
   clear hKx Kx
   try walk_nrm
   clear hc
   refine zb4 C T rfl (by rfl) rfl rfl (by simp [Act.eval]) (by simp [V]) (send_x hF fr 10 vs) ?_
   rintro _ _ _ ⟨rfl,hF⟩
   refine zb6 C T ?_
   exact ⟨.inl rfl,rfl,_,resultsC_none (by rfl) _,by simp [V],by simpa using hF⟩
  ·
   have hb13 : (r == 13) = false := by simp [h13]
   simp only [hb13,if_neg h13,Bool.and_true,Bool.and_false,Bool.false_and,Bool.true_and,Bool.false_eq_true,if_true,if_false,reduceIte]
   try simp only [hb13] at hF
   refine zb0 C T (t := false) rfl ?_
   simp only [if_true,if_false,reduceIte,Bool.false_eq_true]
   co_apply zb1 C T (RKd.refl _)
   co_reg (T _)
   iterate 3
    co_op HC.rely hF (co_quiet Tq)
   co_apply opsC_nil (T _)
   co_then
   by_cases h0 : r = 0
   ·
    have hb0 : (r == 0) = true := by simp [h0]
    simp only [hb0,if_pos h0,Bool.and_true,Bool.and_false,Bool.false_and,Bool.true_and,Bool.false_eq_true,if_true,if_false,reduceIte]
    try simp only [hb0] at hF
    refine zb0 C T (t := true) rfl ?_
    simp only [if_true,if_false,reduceIte,Bool.false_eq_true]
    refine zb2 C T ?_
    simp only [szR,Nat.reduceAdd]
    refine za4 C rfl (by rfl) fun _ hR Kx hKx => ?_
    replace hF := HC.rely hF hR
    clear hR
    go_simp
    try (unfold stored; go_simp)
    refine hKx _ _ ⟨?_,?_⟩
    ·
     co_quiet Tq
    iterate 2
     clear hKx Kx
     try walk_nrm
     refine za4 C rfl (by rfl) fun _ hR Kx hKx => ?_
     replace hF := HC.rely hF hR
     clear hR
     go_simp
     try (unfold stored; go_simp)
     refine hKx _ _ ⟨?_,?_⟩
     ·
      co_still Tq
    clear hKx Kx
    try walk_nrm
    refine za4 C rfl (by rfl) fun _ hR Kx hKx => ?_
    replace hF := HC.rely hF hR
    clear hR
    have hc := hF.cells_cl
    go_simp
    try (unfold stored; go_simp)
    refine hKx _ _ ⟨?_,?_⟩
    ·
     refine zd1 hF ?_
     co_evs (exact zc1 (.inr (.inl rfl)))
    clear hKx Kx
    try walk_nrm
    clear hc
    refine zb4 C T rfl (by rfl) rfl rfl (by simp [Act.eval]) (by simp [V]) (send_x hF fr 65533 vs) ?_
    rintro _ _ _ ⟨rfl,hF⟩
    refine zb6 C T ?_
    exact ⟨.inl rfl,rfl,_,resultsC_none (by rfl) _,by simp [V],by simpa using hF⟩
   ·
    have hb0 : (r == 0) = false := by simp [h0]
    simp only [hb0,if_neg h0,Bool.and_true,Bool.and_false,Bool.false_and,Bool.true_and,Bool.false_eq_true,if_true,if_false,reduceIte]
    try simp only [hb0] at hF
    refine zb0 C T (t := false) rfl ?_
    simp only [if_true,if_false,reduceIte,Bool.false_eq_true]
    refine zb2 C T ?_
    simp only [szR,Nat.reduceAdd]
    refine za4 C rfl (by rfl) fun _ hR Kx hKx => ?_
    replace hF := HC.rely hF hR
    clear hR
    go_simp
    try (unfold stored; go_simp)
    refine hKx _ _ ⟨?_,?_⟩
    ·
     co_quiet Tq
    iterate 2
     clear hKx Kx
     try walk_nrm
     refine za4 C rfl (by rfl) fun _ hR Kx hKx => ?_
     replace hF := HC.rely hF hR
     clear hR
     go_simp
     try (unfold stored; go_simp)
     refine hKx _ _ ⟨?_,?_⟩
     ·
      co_still Tq
    clear hKx Kx
    try walk_nrm
    refine za4 C rfl (by rfl) fun _ hR Kx hKx => ?_
    replace hF := HC.rely hF hR
    clear hR
    have hc := hF.cells_cl
    go_simp
    try (unfold stored; go_simp)
    refine hKx _ _ ⟨?_,?_⟩
    ·
     refine zd1 hF ?_
     co_evs (exact zc1 (.inr (.inl rfl)))
    clear hKx Kx
    try walk_nrm
    clear hc
    refine za4 C rfl (by rfl) fun _ hR Kx hKx => ?_
    replace hF := HC.rely hF hR
    clear hR
    go_simp
    try (unfold stored; go_simp)
    refine hKx _ _ ⟨?_,?_⟩
    ·
     co_quiet Tq
    clear hKx Kx
    try walk_nrm
    refine zb4 C T rfl (by rfl) rfl rfl (by simp [Act.eval]) (by simp [V]) (send_x hF fr r vs) ?_
    rintro _ _ _ ⟨rfl,hF⟩
    refine zb6 C T ?_
    exact ⟨.inl rfl,rfl,_,resultsC_none (by rfl) _,by simp [V],by simpa using hF⟩
 ·
  co_apply zb1 C T (RKd.refl _)
  co_reg (T _)
  iterate 2
   co_op HC.rely hF (co_quiet Tq)
  iterate 2
   co_apply opsC_unwanted (T _) rfl (by rfl)
  iterate 2
   co_op HC.rely hF (co_quiet Tq)
  co_apply opsC_nil (T _)
  co_then
  try simp only [Bool.and_true,Bool.and_false,Bool.false_and,Bool.true_and,Bool.false_eq_true,if_true,if_false,reduceIte]
  refine zb0 C T (t := false) rfl ?_
  simp only [if_true,if_false,reduceIte,Bool.false_eq_true]
  co_apply zb1 C T (RKd.refl _)
  co_reg (T _)
  iterate 6
   co_op HC.rely hF (co_quiet Tq)
  co_apply opsC_nil (T _)
  co_then
  by_cases h10 : r = 10
  ·
   have hb10 : (r == 10) = true := by simp [h10]
   simp only [hb10,if_pos h10,Bool.and_true,Bool.and_false,Bool.false_and,Bool.true_and,Bool.false_eq_true,if_true,if_false,reduceIte]
   try simp only [hb10] at hF
   refine zb0 C T (t := true) rfl ?_
   simp only [if_true,if_false,reduceIte,Bool.false_eq_true]
   refine zg3 C T ?_
   exact ⟨.inl rfl,rfl,_,resultsC_none (by rfl) _,by simp [V],by simpa using hF⟩
  ·
   have hb10 : (r == 10) = false := by simp [h10]
   simp only [hb10,if_neg h10,Bool.and_true,Bool.and_false,Bool.false_and,Bool.true_and,Bool.false_eq_true,if_true,if_false,reduceIte]
   try simp only [hb10] at hF
   refine zb0 C T (t := false) rfl ?_
   simp only [if_true,if_false,reduceIte,Bool.false_eq_true]
   co_apply zb1 C T (RKd.refl _)
   co_reg (T _)
   iterate 3
    co_op HC.rely hF (co_quiet Tq)
   co_apply opsC_nil (T _)
   co_then
   by_cases h13 : r = 13
   ·
    have hb13 : (r == 13) = true := by simp [h13]
    simp only [hb13,if_pos h13,Bool.and_true,Bool.and_false,Bool.false_and,Bool.true_and,Bool.false_eq_true,if_true,if_false,reduceIte]
    try simp only [hb13] at hF
    refine zb0 C T (t := true) rfl ?_
    simp only [if_true,if_false,reduceIte,Bool.false_eq_true]
    refine zb2 C T ?_
    simp only [szR,Nat.reduceAdd]
    refine za4 C rfl (by rfl) fun _ hR Kx hKx => ?_
    replace hF := HC.rely hF hR
    clear hR
    go_simp
    try (unfold stored; go_simp)
    refine hKx _ _ ⟨?_,?_⟩
    ·
     co_quiet Tq
    iterate 2
     clear hKx Kx
     try walk_nrm
     refine za4 C rfl (by rfl) fun _ hR Kx hKx => ?_
     replace hF := HC.rely hF hR
     clear hR
     go_simp
     try (unfold stored; go_simp)
     refine hKx _ _ ⟨?_,?_⟩
     ·
      co_still Tq
    clear hKx Kx
    try walk_nrm
    refine za4 C rfl (by rfl) fun _ hR Kx hKx => ?_
    replace hF := HC.rely hF hR
    clear hR
    have hc := hF.cells_cl
    go_simp
    try (unfold stored; go_simp)
    refine hKx _ _ ⟨?_,?_⟩
    ·
     refine zd1 hF ?_
     co_evs (exact zc1 (.inr (.inl rfl)))
    clear hKx Kx
    try walk_nrm
    clear hc
    refine zb4 C T rfl (by rfl) rfl rfl (by simp [Act.eval]) (by simp [V]) (send_x hF fr 10 vs) ?_
    rintro _ _ _ ⟨rfl,hF⟩
    refine zb6 C T ?_
    exact ⟨.inl rfl,rfl,_,resultsC_none (by rfl) _,by simp [V],by simpa using hF⟩
   ·
    have hb13 : (r == 13) = false := by simp [h13]
    simp only [hb13,if_neg h13,Bool.and_true,Bool.and_false,Bool.false_and,Bool.true_and,Bool.false_eq_true,if_true,if_false,reduceIte]
    try simp only [hb13] at hF
    refine zb0 C T (t := false) rfl ?_
    simp only [if_true,if_false,reduceIte,Bool.false_eq_true]
    co_apply zb1 C T (RKd.refl _)
    co_reg (T _)
    iterate 3
     co_op HC.rely hF (co_quiet Tq)
    co_apply opsC_nil (T _)
    co_then
    by_cases h0 : r = 0
    ·
     have hb0 : (r == 0) = true := by simp [h0]
     simp only [hb0,if_pos h0,Bool.and_true,Bool.and_false,Bool.false_and,Bool.true_and,Bool.false_eq_true,if_true,if_false,reduceIte]
     try simp only [hb0] at hF
     refine zb0 C T (t := true) rfl ?_
     simp only [if_true,if_false,reduceIte,Bool.false_eq_true]
     refine zb2 C T ?_
     simp only [szR,Nat.reduceAdd]
     refine za4 C rfl (by rfl) fun _ hR Kx hKx => ?_
     replace hF := HC.rely hF hR
     clear hR
     go_simp
     try (unfold stored; go_simp)
     refine hKx _ _ ⟨?_,?_⟩
     ·
      co_quiet Tq
     iterate 2
      clear hKx Kx
      try walk_nrm
      refine za4 C rfl (by rfl) fun _ hR Kx hKx => ?_
      replace hF := HC.rely hF hR
      clear hR
      go_simp
      try (unfold stored; go_simp)
      refine hKx _ _ ⟨?_,?_⟩
      ·
       co_still Tq
     clear hKx Kx
     try walk_nrm
     refine za4 C rfl (by rfl) fun _ hR Kx hKx => ?_
     replace hF := HC.rely hF hR
     clear hR
     have hc := hF.cells_cl
     go_simp
     try (unfold stored; go_simp)
     refine hKx _ _ ⟨?_,?_⟩
     ·
      refine zd1 hF ?_
      co_evs (exact zc1 (.inr (.inl rfl)))
     clear hKx Kx
     try walk_nrm
     clear hc
     refine zb4 C T rfl (by rfl) rfl rfl (by simp [Act.eval]) (by simp [V]) (send_x hF fr 65533 vs) ?_
     rintro _ _ _ ⟨rfl,hF⟩
     refine zb6 C T ?_
     exact ⟨.inl rfl,rfl,_,resultsC_none (by rfl) _,by simp [V],by simpa using hF⟩
    ·
     have hb0 : (r == 0) = false := by simp [h0]
     simp only [hb0,if_neg h0,Bool.and_true,Bool.and_false,Bool.false_and,Bool.true_and,Bool.false_eq_true,if_true,if_false,reduceIte]
     try simp only [hb0] at hF
     refine zb0 C T (t := false) rfl ?_
     simp only [if_true,if_false,reduceIte,Bool.false_eq_true]
     refine zb2 C T ?_
     simp only [szR,Nat.reduceAdd]
     refine za4 C rfl (by rfl) fun _ hR Kx hKx => ?_
     replace hF := HC.rely hF hR
     clear hR
     go_simp
     try (unfold stored; go_simp)
     refine hKx _ _ ⟨?_,?_⟩
     ·
      co_quiet Tq
     iterate 2
      clear hKx Kx
      try walk_nrm
      refine za4 C rfl (by rfl) fun _ hR Kx hKx => ?_
      replace hF := HC.rely hF hR
      clear hR
      go_simp
      try (unfold stored; go_simp)
      refine hKx _ _ ⟨?_,?_⟩
      ·
       co_still Tq
     clear hKx Kx
     try walk_nrm
     refine za4 C rfl (by rfl) fun _ hR Kx hKx => ?_
     replace hF := HC.rely hF hR
     clear hR
     have hc := hF.cells_cl
     go_simp
     try (unfold stored; go_simp)
     refine hKx _ _ ⟨?_,?_⟩
     ·
      refine zd1 hF ?_
      co_evs (exact zc1 (.inr (.inl rfl)))
     clear hKx Kx
     try walk_nrm
     clear hc
     refine za4 C rfl (by rfl) fun _ hR Kx hKx => ?_
     replace hF := HC.rely hF hR
     clear hR
     go_simp
     try (unfold stored; go_simp)
     refine hKx _ _ ⟨?_,?_⟩
     ·
      co_quiet Tq
     clear hKx Kx
     try walk_nrm
     refine zb4 C T rfl (by rfl) rfl rfl (by simp [Act.eval]) (by simp [V]) (send_x hF fr r vs) ?_
     rintro _ _ _ ⟨rfl,hF⟩
     refine zb6 C T ?_
     exact ⟨.inl rfl,rfl,_,resultsC_none (by rfl) _,by simp [V],by simpa using hF⟩
 ·
  co_apply zb1 C T (RKd.refl _)
  co_reg (T _)
  iterate 6
   co_op HC.rely hF (co_quiet Tq)
  co_apply opsC_nil (T _)
  co_then
  by_cases h65279 : r = 65279
  ·
   have hb65279 : (r == 65279) = true := by simp [h65279]
   simp only [hb65279,if_pos h65279,Bool.and_true,Bool.and_false,Bool.false_and,Bool.true_and,Bool.false_eq_true,if_true,if_false,reduceIte]
   try simp only [hb65279] at hF
   refine zb0 C T (t := true) rfl ?_
   simp only [if_true,if_false,reduceIte,Bool.false_eq_true]
   refine zg3 C T ?_
   exact ⟨.inl rfl,rfl,_,resultsC_none (by rfl) _,by simp [V],by simpa using hF⟩
  ·
   have hb65279 : (r == 65279) = false := by simp [h65279]
   simp only [hb65279,if_neg h65279,Bool.and_true,Bool.and_false,Bool.false_and,Bool.true_and,Bool.false_eq_true,if_true,if_false,reduceIte]
   try simp only [hb65279] at hF
   refine zb0 C T (t := false) rfl ?_
   simp only [if_true,if_false,reduceIte,Bool.false_eq_true]
   co_apply zb1 C T (RKd.refl _)
   co_reg (T _)
   iterate 2
    co_op HC.rely hF (co_quiet Tq)
   iterate 2
    co_apply opsC_unwanted (T _) rfl (by rfl)
   iterate 2
    co_op HC.rely hF (co_quiet Tq)
   co_apply opsC_nil (T _)
   co_then
   try simp only [Bool.and_true,Bool.and_false,Bool.false_and,Bool.true_and,Bool.false_eq_true,if_true,if_false,reduceIte]
   refine zb0 C T (t := false) rfl ?_
   simp only [if_true,if_false,reduceIte,Bool.false_eq_true]
   co_apply zb1 C T (RKd.refl _)
   co_reg (T _)
   iterate 3
    co_op HC.rely hF (co_quiet Tq)
   co_apply opsC_nil (T _)
   co_then
   by_cases h13 : r = 13
   ·
    have hb13 : (r == 13) = true := by simp [h13]
    simp only [hb13,if_pos h13,Bool.and_true,Bool.and_false,Bool.false_and,Bool.true_and,Bool.false_eq_true,if_true,if_false,reduceIte]
    try simp only [hb13] at hF
    refine zb0 C T (t := true) rfl ?_
    simp only [if_true,if_false,reduceIte,Bool.false_eq_true]
    refine zb2 C T ?_
    simp only [szR,Nat.reduceAdd]
    refine za4 C rfl (by rfl) fun _ hR Kx hKx => ?_
    replace hF := HC.rely hF hR
    clear hR
    go_simp
    try (unfold stored; go_simp)
    refine hKx _ _ ⟨?_,?_⟩
    ·
     co_quiet Tq
    iterate 2
     clear hKx Kx
     try walk_nrm
     refine za4 C rfl (by rfl) fun _ hR Kx hKx => ?_
     replace hF := HC.rely hF hR
     clear hR
     go_simp
     try (unfold stored; go_simp)
     refine hKx _ _ ⟨?_,?_⟩
     ·
      co_still Tq
    clear hKx Kx
    try walk_nrm
    refine za4 C rfl (by rfl) fun _ hR Kx hKx => ?_
    replace hF := HC.rely hF hR
    clear hR
    have hc := hF.cells_cl
    go_simp
    try (unfold stored; go_simp)
    refine hKx _ _ ⟨?_,?_⟩
    ·
     refine zd1 hF ?_
     co_evs (exact zc1 (.inr (.inl rfl)))
    clear hKx Kx
    try walk_nrm
    clear hc
    refine zb4 C T rfl (by rfl) rfl rfl (by simp [Act.eval]) (by simp [V]) (send_x hF fr 10 vs) ?_
    rintro _ _ _ ⟨rfl,hF⟩
    refine zb6 C T ?_
    exact ⟨.inl rfl,rfl,_,resultsC_none (by rfl) _,by simp [V],by simpa using hF⟩
   ·
    have hb13 : (r == 13) = false := by simp [h13]
    simp only [hb13,if_neg h13,Bool.and_true,Bool.and_false,Bool.false_and,Bool.true_and,Bool.false_eq_true,if_true,if_false,reduceIte]
    try simp only [hb13] at hF
    refine zb0 C T (t := false) rfl ?_
    simp only [if_true,if_false,reduceIte,Bool.false_eq_true]
    co_apply zb1 C T (RKd.refl _)
    co_reg (T _)
    iterate 3
     co_op HC.rely hF (co_quiet Tq)
    co_apply opsC_nil (T _)
    co_then
    by_cases h0 : r = 0
    ·
     have hb0 : (r == 0) = true := by simp [h0]
     simp only [hb0,if_pos h0,Bool.and_true,Bool.and_false,Bool.false_and,Bool.true_and,Bool.false_eq_true,if_true,if_false,reduceIte]
     try simp only [hb0] at hF
     refine zb0 C T (t := true) rfl ?_
     simp only [if_true,if_false,reduceIte,Bool.false_eq_true]
     refine zb2 C T ?_
     simp only [szR,Nat.reduceAdd]
     refine za4 C rfl (by rfl) fun _ hR Kx hKx => ?_
     replace hF := HC.rely hF hR
     clear hR
     go_simp
     try (unfold stored; go_simp)
     refine hKx _ _ ⟨?_,?_⟩
     ·
      co_quiet Tq
     iterate 2
      clear hKx Kx
      try walk_nrm
      refine za4 C rfl (by rfl) fun _ hR Kx hKx => ?_
      replace hF := HC.rely hF hR
      clear hR
      go_simp
      try (unfold stored; go_simp)
      refine hKx _ _ ⟨?_,?_⟩
      ·
       co_still Tq
     clear hKx Kx
     try walk_nrm
     refine za4 C rfl (by rfl) fun _ hR Kx hKx => ?_
     replace hF := HC.rely hF hR
     clear hR
     have hc := hF.cells_cl
     go_simp
     try (unfold stored; go_simp)
     refine hKx _ _ ⟨?_,?_⟩
     ·
      refine zd1 hF ?_
      co_evs (exact zc1 (.inr (.inl rfl)))
     clear hKx Kx
     try walk_nrm
     clear hc
     refine zb4 C T rfl (by rfl) rfl rfl (by simp [Act.eval]) (by simp [V]) (send_x hF fr 65533 vs) ?_
     rintro _ _ _ ⟨rfl,hF⟩
     refine zb6 C T ?_
     exact ⟨.inl rfl,rfl,_,resultsC_none (by rfl) _,by simp [V],by simpa using hF⟩
    ·
     have hb0 : (r == 0) = false := by simp [h0]
     simp only [hb0,if_neg h0,Bool.and_true,Bool.and_false,Bool.false_and,Bool.true_and,Bool.false_eq_true,if_true,if_false,reduceIte]
     try simp only [hb0] at hF
     refine zb0 C T (t := false) rfl ?_
     simp only [if_true,if_false,reduceIte,Bool.false_eq_true]
     refine zb2 C T ?_
     simp only [szR,Nat.reduceAdd]
     refine za4 C rfl (by rfl) fun _ hR Kx hKx => ?_
     replace hF := HC.rely hF hR
     clear hR
     go_simp
     try (unfold stored; go_simp)
     refine hKx _ _ ⟨?_,?_⟩
     ·
      co_quiet Tq
     iterate 2
      clear hKx Kx
      try walk_nrm
      refine za4 C rfl (by rfl) fun _ hR Kx hKx => ?_
      replace hF := HC.rely hF hR
      clear hR
      go_simp
      try (unfold stored; go_simp)
      refine hKx _ _ ⟨?_,?_⟩
      ·
       co_still Tq
     clear hKx Kx
     try walk_nrm
     refine za4 C rfl (by rfl) fun _ hR Kx hKx => ?_
     replace hF := HC.rely hF hR
     clear hR
     have hc := hF.cells_cl
     go_simp
     try (unfold stored; go_simp)
     refine hKx _ _ ⟨?_,?_⟩
     ·
      refine zd1 hF ?_
      co_evs (exact zc1 (.inr (.inl rfl)))
     clear hKx Kx
     try walk_nrm
     clear hc
     refine za4 C rfl (by rfl) fun _ hR Kx hKx => ?_
     replace hF := HC.rely hF hR
     clear hR
     go_simp
     try (unfold stored; go_simp)
     refine hKx _ _ ⟨?_,?_⟩
     ·
      co_quiet Tq
     clear hKx Kx
     try walk_nrm
     refine zb4 C T rfl (by rfl) rfl rfl (by simp [Act.eval]) (by simp [V]) (send_x hF fr r vs) ?_
     rintro _ _ _ ⟨rfl,hF⟩
     refine zb6 C T ?_
     exact ⟨.inl rfl,rfl,_,resultsC_none (by rfl) _,by simp [V],by simpa using hF⟩
 ·
  co_apply zb1 C T (RKd.refl _)
  co_reg (T _)
  iterate 6
   co_op HC.rely hF (co_quiet Tq)
  co_apply opsC_nil (T _)
  co_then
  by_cases h65279 : r = 65279
  ·
   have hb65279 : (r == 65279) = true := by simp [h65279]
   simp only [hb65279,if_pos h65279,Bool.and_true,Bool.and_false,Bool.false_and,Bool.true_and,Bool.false_eq_true,if_true,if_false,reduceIte]
   try simp only [hb65279] at hF
   refine zb0 C T (t := true) rfl ?_
   simp only [if_true,if_false,reduceIte,Bool.false_eq_true]
   refine zg3 C T ?_
   exact ⟨.inl rfl,rfl,_,resultsC_none (by rfl) _,by simp [V],by simpa using hF⟩
  ·
   have hb65279 : (r == 65279) = false := by simp [h65279]
   simp only [hb65279,if_neg h65279,Bool.and_true,Bool.and_false,Bool.false_and,Bool.true_and,Bool.false_eq_true,if_true,if_false,reduceIte]
   try simp only [hb65279] at hF
   refine zb0 C T (t := false) rfl ?_
   simp only [if_true,if_false,reduceIte,Bool.false_eq_true]
   co_apply zb1 C T (RKd.refl _)
   co_reg (T _)
   iterate 6
    co_op HC.rely hF (co_quiet Tq)
   co_apply opsC_nil (T _)
   co_then
   by_cases h10 : r = 10
   ·
    have hb10 : (r == 10) = true := by simp [h10]
    simp only [hb10,if_pos h10,Bool.and_true,Bool.and_false,Bool.false_and,Bool.true_and,Bool.false_eq_true,if_true,if_false,reduceIte]
    try simp only [hb10] at hF
    refine zb0 C T (t := true) rfl ?_
    simp only [if_true,if_false,reduceIte,Bool.false_eq_true]
    refine zg3 C T ?_
    exact ⟨.inl rfl,rfl,_,resultsC_none (by rfl) _,by simp [V],by simpa using hF⟩
   ·
    have hb10 : (r == 10) = false := by simp [h10]
    simp only [hb10,if_neg h10,Bool.and_true,Bool.and_false,Bool.false_and,Bool.true_and,Bool.false_eq_true,if_true,if_false,reduceIte]
    try simp only [hb10] at hF
    refine zb0 C T (t := false) rfl ?_
    simp only [if_true,if_false,reduceIte,Bool.false_eq_true]
    co_apply zb1 C T (RKd.refl _)
    co_reg (T _)
    iterate 3
     co_op HC.rely hF (co_quiet Tq)
    co_apply opsC_nil (T _)
    co_then
    by_cases h13 : r = 13
    ·
     have hb13 : (r == 13) = true := by simp [h13]
     simp only [hb13,if_pos h13,Bool.and_true,Bool.and_false,Bool.false_and,Bool.true_and,Bool.false_eq_true,if_true,if_false,reduceIte]
     try simp only [hb13] at hF
     refine zb0 C T (t := true) rfl ?_
     simp only [if_true,if_false,reduceIte,Bool.false_eq_true]
     refine zb2 C T ?_
     simp only [szR,Nat.reduceAdd]
     refine za4 C rfl (by rfl) fun _ hR Kx hKx => ?_
     replace hF := HC.rely hF hR
     clear hR
     go_simp
     try (unfold stored; go_simp)
     refine hKx _ _ ⟨?_,?_⟩
     ·
      co_quiet Tq
     iterate 2
      clear hKx Kx
      try walk_nrm
      refine za4 C rfl (by rfl) fun _ hR Kx hKx => ?_
      replace hF := HC.rely hF hR
      clear hR
      go_simp
      try (unfold stored; go_simp)
      refine hKx _ _ ⟨?_,?_⟩
      ·
       co_still Tq
     clear hKx Kx
     try walk_nrm
     refine za4 C rfl (by rfl) fun _ hR Kx hKx => ?_
     replace hF := HC.rely hF hR
     clear hR
     have hc := hF.cells_cl
     go_simp
     try (unfold stored; go_simp)
     refine hKx _ _ ⟨?_,?_⟩
     ·
      refine zd1 hF ?_
      co_evs (exact zc1 (.inr (.inl rfl)))
     clear hKx Kx
     try walk_nrm
     clear hc
     refine zb4 C T rfl (by rfl) rfl rfl (by simp [Act.eval]) (by simp [V]) (send_x hF fr 10 vs) ?_
     rintro _ _ _ ⟨rfl,hF⟩
     refine zb6 C T ?_
     exact ⟨.inl rfl,rfl,_,resultsC_none (by rfl) _,by simp [V],by simpa using hF⟩
    ·
     have hb13 : (r == 13) = false := by simp [h13]
     simp only [hb13,if_neg h13,Bool.and_true,Bool.and_false,Bool.false_and,Bool.true_and,Bool.false_eq_true,if_true,if_false,reduceIte]
     try simp only [hb13] at hF
     refine zb0 C T (t := false) rfl ?_
     simp only [if_true,if_false,reduceIte,Bool.false_eq_true]
     co_apply zb1 C T (RKd.refl _)
     co_reg (T _)
     iterate 3
      co_op HC.rely hF (co_quiet Tq)
     co_apply opsC_nil (T _)
     co_then
     by_cases h0 : r = 0
     ·
      have hb0 : (r == 0) = true := by simp [h0]
      simp only [hb0,if_pos h0,Bool.and_true,Bool.and_false,Bool.false_and,Bool.true_and,Bool.false_eq_true,if_true,if_false,reduceIte]
      try simp only [hb0] at hF
      refine zb0 C T (t := true) rfl ?_
      simp only [if_true,if_false,reduceIte,Bool.false_eq_true]
      refine zb2 C T ?_
      simp only [szR,Nat.reduceAdd]
      refine za4 C rfl (by rfl) fun _ hR Kx hKx => ?_
      replace hF := HC.rely hF hR
      clear hR
      go_simp
      try (unfold stored; go_simp)
      refine hKx _ _ ⟨?_,?_⟩
      ·
       co_quiet Tq
      iterate 2
       clear hKx Kx
       try walk_nrm
       refine za4 C rfl (by rfl) fun _ hR Kx hKx => ?_
       replace hF := HC.rely hF hR
       clear hR
       go_simp
       try (unfold stored; go_simp)
       refine hKx _ _ ⟨?_,?_⟩
       ·
        co_still Tq
      clear hKx Kx
      try walk_nrm
      refine za4 C rfl (by rfl) fun _ hR Kx hKx => ?_
      replace hF := HC.rely hF hR
      clear hR
      have hc := hF.cells_cl
      go_simp
      try (unfold stored; go_simp)
      refine hKx _ _ ⟨?_,?_⟩
      ·
       refine zd1 hF ?_
       co_evs (exact zc1 (.inr (.inl rfl)))
      clear hKx Kx
      try walk_nrm
      clear hc
      refine zb4 C T rfl (by rfl) rfl rfl (by simp [Act.eval]) (by simp [V]) (send_x hF fr 65533 vs) ?_
      rintro _ _ _ ⟨rfl,hF⟩
      refine zb6 C T ?_
      exact ⟨.inl rfl,rfl,_,resultsC_none (by rfl) _,by simp [V],by simpa using hF⟩
     ·
      have hb0 : (r == 0) = false := by simp [h0]
      simp only [hb0,if_neg h0,Bool.and_true,Bool.and_false,Bool.false_and,Bool.true_and,Bool.false_eq_true,if_true,if_false,reduceIte]
      try simp only [hb0] at hF
      refine zb0 C T (t := false) rfl ?_
      simp only [if_true,if_false,reduceIte,Bool.false_eq_true]
      refine zb2 C T ?_
      simp only [szR,Nat.reduceAdd]
      refine za4 C rfl (by rfl) fun _ hR Kx hKx => ?_
      replace hF := HC.rely hF hR
      clear hR
      go_simp
      try (unfold stored; go_simp)
      refine hKx _ _ ⟨?_,?_⟩
      ·
       co_quiet Tq
      iterate 2
       clear hKx Kx
       try walk_nrm
       refine za4 C rfl (by rfl) fun _ hR Kx hKx => ?_
       replace hF := HC.rely hF hR
       clear hR
       go_simp
       try (unfold stored; go_simp)
       refine hKx _ _ ⟨?_,?_⟩
       ·
        co_still Tq
      clear hKx Kx
      try walk_nrm
      refine za4 C rfl (by rfl) fun _ hR Kx hKx => ?_
      replace hF := HC.rely hF hR
      clear hR
      have hc := hF.cells_cl
      go_simp
      try (unfold stored; go_simp)
      refine hKx _ _ ⟨?_,?_⟩
      ·
       refine zd1 hF ?_
       co_evs (exact zc1 (.inr (.inl rfl)))
      clear hKx Kx
      try walk_nrm
      clear hc
      refine za4 C rfl (by rfl) fun _ hR Kx hKx => ?_
      replace hF := HC.rely hF hR
      clear hR
      go_simp
      try (unfold stored; go_simp)
      refine hKx _ _ ⟨?_,?_⟩
      ·
       co_quiet Tq
      clear hKx Kx
      try walk_nrm
      refine zb4 C T rfl (by rfl) rfl rfl (by simp [Act.eval]) (by simp [V]) (send_x hF fr r vs) ?_
      rintro _ _ _ ⟨rfl,hF⟩
      refine zb6 C T ?_
      exact ⟨.inl rfl,rfl,_,resultsC_none (by rfl) _,by simp [V],by simpa using hF⟩
end
end Go.Proofs.YtgcaionclkbehaaGreatDoor
