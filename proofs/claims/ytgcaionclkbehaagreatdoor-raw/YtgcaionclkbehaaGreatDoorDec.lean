import Derived.Test.YtgcaionclkbehaaGreatDoorPut
set_option linter.all false
set_option maxRecDepth 100000
set_option maxHeartbeats 2000000
namespace Go.Proofs.YtgcaionclkbehaaGreatDoor
open Tryz
open Go.Conc Go.RowKit
def fbS (b : Int) : Int × Int := if b = 224 then (160,191) else if b = 237 then (128,159) else if b = 240 then (144,191) else if b = 244 then (128,143) else (128,191)
section
variable {N Pb cp c1 c2 : Nat} {Shun : Loc → Prop} {val : Value} {B : Nat} {Mine : Loc → Prop} {c : CS} {d : DS} {w w₁ : World}
variable [Go.ConcR.Payload] [Go.ConcX.Payload]
theorem bounds_x (hF : HC N Pb cp c1 c2 c d w) (i : Ix) (b : Int) :
  zj8 prog (XK (kcfg prog N Pb Shun val B Mine)) 362 #[.int .u8 b] i w (fun i' v w' => i' = i ∧ v = .tuple #[.int .u8 (fbS b).1, .int .u8 (fbS b).2] ∧ HC N Pb cp c1 c2 c d w') := by
 have C : Closed prog false (RKd (kcfg prog N Pb Shun val B Mine)) (DK (kcfg prog N Pb Shun val B Mine)) (XK (kcfg prog N Pb Shun val B Mine)) := XK.closed (K := (kcfg prog N Pb Shun val B Mine))
 have T := zm6 (K := (kcfg prog N Pb Shun val B Mine))
 have Tq := T (true, [])
 have evb : ∀ (w : World) (es : Array Event) (a : Addr) (m : Mode) (x : Bool),(store a (.bool x) m).events prog w es = storedEv prog w es a (.bool x) m := fun w es a m x => events_store prog w es a _ m rfl
 have hdr : ∀ w : World,RKd (kcfg prog N Pb Shun val B Mine) (true, []) w { w with drawn := w.drawn + 1 } := zl1
 refine zf5 func362 (by rfl) rfl ?_
 simp only [ntmps362,List.size_toArray,List.length_cons,List.length_nil,Nat.reduceAdd,Nat.reduceSub,Array.replicate_succ,Array.replicate_zero,List.push_toArray,List.append_toArray,List.nil_append,List.cons_append]
 co_apply zb1 C T (RKd.refl _)
 co_reg (T _)
 iterate 2
  co_op HC.rely hF (co_quiet Tq)
 co_apply opsC_nil (T _)
 co_then
 refine zf6 C T ?_
 co_apply zb1 C T (RKd.refl _)
 co_reg (T _)
 co_op HC.rely hF (co_quiet Tq)
 co_apply opsC_nil (T _)
 co_then
 refine zh9 C T ?_
 co_apply zb1 C T (RKd.refl _)
 co_reg (T _)
 iterate 2
  co_op HC.rely hF (co_quiet Tq)
 co_apply opsC_nil (T _)
 co_then
 by_cases h224 : b = 224
 ·
  have hb224 : (b == 224) = true := by simp [h224]
  simp only [hb224]
  refine zb0 C T (t := true) rfl ?_
  simp only [if_true,if_false,reduceIte,Bool.false_eq_true]
  co_apply zb1 C T (RKd.refl _)
  co_reg (T _)
  iterate 2
   co_op HC.rely hF (co_quiet Tq)
  co_apply opsC_nil (T _)
  co_then
  refine wpX_ret C T ?_
  exact ⟨.inr rfl,rfl,_,resultsC_tmp2 (by rfl) _,rfl,by simp [fbS, *],hF⟩
 ·
  have hb224 : (b == 224) = false := by simp [h224]
  simp only [hb224]
  refine zb0 C T (t := false) rfl ?_
  simp only [if_true,if_false,reduceIte,Bool.false_eq_true]
  co_apply zb1 C T (RKd.refl _)
  co_reg (T _)
  iterate 2
   co_op HC.rely hF (co_quiet Tq)
  co_apply opsC_nil (T _)
  co_then
  by_cases h237 : b = 237
  ·
   have hb237 : (b == 237) = true := by simp [h237]
   simp only [hb237]
   refine zb0 C T (t := true) rfl ?_
   simp only [if_true,if_false,reduceIte,Bool.false_eq_true]
   co_apply zb1 C T (RKd.refl _)
   co_reg (T _)
   iterate 2
    co_op HC.rely hF (co_quiet Tq)
   co_apply opsC_nil (T _)
   co_then
   refine wpX_ret C T ?_
   exact ⟨.inr rfl,rfl,_,resultsC_tmp2 (by rfl) _,rfl,by simp [fbS, *],hF⟩
  ·
   have hb237 : (b == 237) = false := by simp [h237]
   simp only [hb237]
   refine zb0 C T (t := false) rfl ?_
   simp only [if_true,if_false,reduceIte,Bool.false_eq_true]
   co_apply zb1 C T (RKd.refl _)
   co_reg (T _)
   iterate 2
    co_op HC.rely hF (co_quiet Tq)
   co_apply opsC_nil (T _)
   co_then
   by_cases h240 : b = 240
   ·
    have hb240 : (b == 240) = true := by simp [h240]
    simp only [hb240]
    refine zb0 C T (t := true) rfl ?_
    simp only [if_true,if_false,reduceIte,Bool.false_eq_true]
    co_apply zb1 C T (RKd.refl _)
    co_reg (T _)
    iterate 2
     co_op HC.rely hF (co_quiet Tq)
    co_apply opsC_nil (T _)
    co_then
    refine wpX_ret C T ?_
    exact ⟨.inr rfl,rfl,_,resultsC_tmp2 (by rfl) _,rfl,by simp [fbS, *],hF⟩
   ·
    have hb240 : (b == 240) = false := by simp [h240]
    simp only [hb240]
    refine zb0 C T (t := false) rfl ?_
    simp only [if_true,if_false,reduceIte,Bool.false_eq_true]
    co_apply zb1 C T (RKd.refl _)
    co_reg (T _)
    iterate 2
     co_op HC.rely hF (co_quiet Tq)
    co_apply opsC_nil (T _)
    co_then
    by_cases h244 : b = 244
    ·
     have hb244 : (b == 244) = true := by simp [h244]
     simp only [hb244]
     refine zb0 C T (t := true) rfl ?_
     simp only [if_true,if_false,reduceIte,Bool.false_eq_true]
     co_apply zb1 C T (RKd.refl _)
     co_reg (T _)
     iterate 2
      co_op HC.rely hF (co_quiet Tq)
     co_apply opsC_nil (T _)
     co_then
     refine wpX_ret C T ?_
     exact ⟨.inr rfl,rfl,_,resultsC_tmp2 (by rfl) _,rfl,by simp [fbS, *],hF⟩
    ·
     have hb244 : (b == 244) = false := by simp [h244]
     simp only [hb244]
     refine zb0 C T (t := false) rfl ?_
     simp only [if_true,if_false,reduceIte,Bool.false_eq_true]
     refine zg3 C T ?_
     show wpX _ _ _ _ _ _ _
     co_apply zb1 C T (RKd.refl _)
     co_reg (T _)
     iterate 2
      co_op HC.rely hF (co_quiet Tq)
     co_apply opsC_nil (T _)
     co_then
     refine wpX_ret C T ?_
     exact ⟨.inr rfl,rfl,_,resultsC_tmp2 (by rfl) _,rfl,by simp [fbS, *],hF⟩
def leadL (b k : Int) : Int := IntKind.i32.wrap (bits .and .u8 b k)
theorem lead_x (hF : HC N Pb cp c1 c2 c d w) (i : Ix) (b m k : Int) :
  zj8 prog (XK (kcfg prog N Pb Shun val B Mine)) 313 #[.pointer (some ⟨c2,0,none⟩), .int .u8 b, .int .i64 m, .int .u8 k] i w (fun i' _ w' => i' = i ∧ HC N Pb cp c1 c2 c ⟨leadL b k,m,(fbS b).1,(fbS b).2⟩ w') := by
 have C : Closed prog false (RKd (kcfg prog N Pb Shun val B Mine)) (DK (kcfg prog N Pb Shun val B Mine)) (XK (kcfg prog N Pb Shun val B Mine)) := XK.closed (K := (kcfg prog N Pb Shun val B Mine))
 have T := zm6 (K := (kcfg prog N Pb Shun val B Mine))
 have Tq := T (true, [])
 have evb : ∀ (w : World) (es : Array Event) (a : Addr) (m : Mode) (x : Bool),(store a (.bool x) m).events prog w es = storedEv prog w es a (.bool x) m := fun w es a m x => events_store prog w es a _ m rfl
 have hdr : ∀ w : World,RKd (kcfg prog N Pb Shun val B Mine) (true, []) w { w with drawn := w.drawn + 1 } := zl1
 refine zf5 func313 (by rfl) rfl ?_
 simp only [ntmps313,List.size_toArray,List.length_cons,List.length_nil,Nat.reduceAdd,Nat.reduceSub,Array.replicate_succ,Array.replicate_zero,List.push_toArray,List.append_toArray,List.nil_append,List.cons_append]
 co_apply zb1 C T (RKd.refl _)
 co_reg (T _)
 iterate 5
  co_op HC.rely hF (co_quiet Tq)
 iterate 2
  co_opw HC.rely hF (skip) (co_still Tq)
 co_opw HC.rely hF (have hc := hF.cells_de) (exact zh4 hF (.inr rfl) (by co_evs (exact zc1 (.inr (.inr rfl)))))
 replace hF := hF.setLetter (leadL b k)
 clear hc
 co_apply opsC_nil (T _)
 co_then
 co_apply zb1 C T (RKd.refl _)
 co_reg (T _)
 iterate 2
  co_op HC.rely hF (co_quiet Tq)
 iterate 2
  co_opw HC.rely hF (skip) (co_still Tq)
 co_opw HC.rely hF (have hc := hF.cells_de) (exact zh4 hF (.inr rfl) (by co_evs (exact zc1 (.inr (.inr rfl)))))
 replace hF := hF.setMissing m
 clear hc
 co_apply opsC_nil (T _)
 co_then
 refine zb2 C T ?_
 simp only [szR,Nat.reduceAdd]
 iterate 3
  refine za4 C rfl (by rfl) fun _ hR Kx hKx => ?_
  replace hF := HC.rely hF hR
  clear hR
  go_simp
  try (unfold stored; go_simp)
  refine hKx _ _ ⟨?_,?_⟩
  ·
   co_quiet Tq
  clear hKx Kx
  try walk_nrm
 refine zb4 C T rfl (by rfl) rfl rfl (by simp [Act.eval]) rfl (bounds_x hF i b) ?_
 rintro _ _ _ ⟨rfl,rfl,hF⟩
 iterate 3
  try walk_nrm
  refine za4 C rfl (by rfl) fun _ hR Kx hKx => ?_
  replace hF := HC.rely hF hR
  clear hR
  go_simp
  try (unfold stored; go_simp)
  refine hKx _ _ ⟨?_,?_⟩
  ·
   co_quiet Tq
  clear hKx Kx
 iterate 2
  try walk_nrm
  refine za4 C rfl (by rfl) fun _ hR Kx hKx => ?_
  replace hF := HC.rely hF hR
  clear hR
  go_simp
  try (unfold stored; go_simp)
  refine hKx _ _ ⟨?_,?_⟩
  ·
   co_still Tq
  clear hKx Kx
 try walk_nrm
 refine za4 C rfl (by rfl) fun _ hR Kx hKx => ?_
 replace hF := HC.rely hF hR
 clear hR
 have hc := hF.cells_de
 go_simp
 try (unfold stored; go_simp)
 refine hKx _ _ ⟨?_,?_⟩
 ·
  exact zh4 hF (.inr rfl) (by co_evs (exact zc1 (.inr (.inr rfl))))
 clear hKx Kx
 try walk_nrm
 replace hF := hF.setLow (fbS b).1
 clear hc
 iterate 2
  refine za4 C rfl (by rfl) fun _ hR Kx hKx => ?_
  replace hF := HC.rely hF hR
  clear hR
  go_simp
  try (unfold stored; go_simp)
  refine hKx _ _ ⟨?_,?_⟩
  ·
   co_still Tq
  clear hKx Kx
  try walk_nrm
 refine za4 C rfl (by rfl) fun _ hR Kx hKx => ?_
 replace hF := HC.rely hF hR
 clear hR
 have hc := hF.cells_de
 go_simp
 try (unfold stored; go_simp)
 refine hKx _ _ ⟨?_,?_⟩
 ·
  exact zh4 hF (.inr rfl) (by co_evs (exact zc1 (.inr (.inr rfl))))
 clear hKx Kx
 try walk_nrm
 replace hF := hF.setHigh (fbS b).2
 clear hc
 refine zb6 C T ?_
 exact ⟨.inl rfl,rfl,_,resultsC_none (by rfl) _,rfl,hF⟩
def endS (d : DS) : DS × List Int := if 0 < d.missing then ({ d with missing := 0 }, [65533]) else (d, [])
def zb3 (c : CS) : List Int → CS × List Int
 | [] => (c, [])
 | r :: l => ((zb3 (zj7 c r).1 l).1,(zj7 c r).2 ++ (zb3 (zj7 c r).1 l).2)
theorem zc6 (c : CS) (r : Int) : zb3 c [r] = zj7 c r := by simp [zb3]
theorem end_x (hF : HC N Pb cp c1 c2 c d w) (fr : Bool) (vs : List Value) :
  zj8 prog (XK (kcfg prog N Pb Shun val B Mine)) 118 #[.pointer (some ⟨c2,0,none⟩)] (fr,V (zb3 c (endS d).2).2 ++ vs) w (fun i' _ w' => i' = (fr && (zb3 c (endS d).2).2.isEmpty,vs) ∧ HC N Pb cp c1 c2 (zb3 c (endS d).2).1 (endS d).1 w') := by
 have C : Closed prog false (RKd (kcfg prog N Pb Shun val B Mine)) (DK (kcfg prog N Pb Shun val B Mine)) (XK (kcfg prog N Pb Shun val B Mine)) := XK.closed (K := (kcfg prog N Pb Shun val B Mine))
 have T := zm6 (K := (kcfg prog N Pb Shun val B Mine))
 have Tq := T (true, [])
 have evb : ∀ (w : World) (es : Array Event) (a : Addr) (m : Mode) (x : Bool),(store a (.bool x) m).events prog w es = storedEv prog w es a (.bool x) m := fun w es a m x => events_store prog w es a _ m rfl
 have hdr : ∀ w : World,RKd (kcfg prog N Pb Shun val B Mine) (true, []) w { w with drawn := w.drawn + 1 } := zl1
 refine zf5 func118 (by rfl) rfl ?_
 simp only [ntmps118,List.size_toArray,List.length_cons,List.length_nil,Nat.reduceAdd,Nat.reduceSub,Array.replicate_succ,Array.replicate_zero,List.push_toArray,List.append_toArray,List.nil_append,List.cons_append]
 co_apply zb1 C T (RKd.refl _)
 co_reg (T _)
 co_op HC.rely hF (co_quiet Tq)
 iterate 2
  co_opw HC.rely hF (skip) (co_still Tq)
 co_opw HC.rely hF (have hc := hF.cells_de) (refine zd1 hF ?_; co_evs (exact zc1 (.inr (.inr rfl))))
 clear hc
 co_op HC.rely hF (co_quiet Tq)
 co_apply opsC_nil (T _)
 co_then
 by_cases hm : 0 < d.missing
 ·
  have hmb : decide (0 < d.missing) = true := decide_eq_true hm
  try simp only [hmb]
  refine zb0 C T (t := true) rfl ?_
  simp only [if_true,if_false,reduceIte,Bool.false_eq_true]
  co_apply zb1 C T (RKd.refl _)
  co_reg (T _)
  co_op HC.rely hF (co_quiet Tq)
  iterate 2
   co_opw HC.rely hF (skip) (co_still Tq)
  co_opw HC.rely hF (have hc := hF.cells_de) (exact zh4 hF (.inr rfl) (by co_evs (exact zc1 (.inr (.inr rfl)))))
  replace hF := hF.setMissing 0
  clear hc
  co_apply opsC_nil (T _)
  co_then
  refine zb2 C T ?_
  simp only [szR,Nat.reduceAdd]
  refine za4 C rfl (by rfl) fun _ hR Kx hKx => ?_
  replace hF := HC.rely hF hR
  clear hR
  go_simp
  try (unfold stored; go_simp)
  refine hKx _ _ ⟨?_,?_⟩
  ·
   co_quiet Tq
  iterate 2
   clear hKx Kx
   try walk_nrm
   refine za4 C rfl (by rfl) fun _ hR Kx hKx => ?_
   replace hF := HC.rely hF hR
   clear hR
   go_simp
   try (unfold stored; go_simp)
   refine hKx _ _ ⟨?_,?_⟩
   ·
    co_still Tq
  clear hKx Kx
  try walk_nrm
  refine za4 C rfl (by rfl) fun _ hR Kx hKx => ?_
  replace hF := HC.rely hF hR
  clear hR
  have hc := hF.cells_de
  go_simp
  try (unfold stored; go_simp)
  refine hKx _ _ ⟨?_,?_⟩
  ·
   refine zd1 hF ?_
   co_evs (exact zc1 (.inr (.inr rfl)))
  clear hKx Kx
  try walk_nrm
  clear hc
  refine zb4 C T rfl (by rfl) rfl rfl (by simp [Act.eval]) (by simp only [endS,if_pos hm,zc6]) (put_x hF fr 65533 vs) ?_
  rintro _ _ _ ⟨rfl,hF⟩
  refine zb6 C T ?_
  exact ⟨.inl rfl,rfl,_,resultsC_none (by rfl) _,by simp [endS,hm,zc6],by simpa [endS,hm,zc6] using hF⟩
 ·
  have hmb : decide (0 < d.missing) = false := decide_eq_false hm
  try simp only [hmb]
  refine zb0 C T (t := false) rfl ?_
  simp only [if_true,if_false,reduceIte,Bool.false_eq_true]
  refine zg3 C T ?_
  exact ⟨.inl rfl,rfl,_,resultsC_none (by rfl) _,by simp [endS,hm,zb3,V],by simpa [endS,hm,zb3] using hF⟩
def ze8 (d : DS) (b : Int) : DS × List Int :=
 if b < 128 then (d, [IntKind.i32.wrap b]) else if b < 194 then (d, [65533]) else if b > 244 then (d, [65533]) else if b < 224 then (⟨leadL b 31,1,(fbS b).1,(fbS b).2⟩, []) else if b < 240 then (⟨leadL b 15,2,(fbS b).1,(fbS b).2⟩, []) else (⟨leadL b 7,3,(fbS b).1,(fbS b).2⟩, [])
theorem begin_x (hF : HC N Pb cp c1 c2 c d w) (fr : Bool) (b : Int) (vs : List Value) :
  zj8 prog (XK (kcfg prog N Pb Shun val B Mine)) 215 #[.pointer (some ⟨c2,0,none⟩), .int .u8 b] (fr,V (zb3 c (ze8 d b).2).2 ++ vs) w (fun i' _ w' => i' = (fr && (zb3 c (ze8 d b).2).2.isEmpty,vs) ∧ HC N Pb cp c1 c2 (zb3 c (ze8 d b).2).1 (ze8 d b).1 w') := by
 have C : Closed prog false (RKd (kcfg prog N Pb Shun val B Mine)) (DK (kcfg prog N Pb Shun val B Mine)) (XK (kcfg prog N Pb Shun val B Mine)) := XK.closed (K := (kcfg prog N Pb Shun val B Mine))
 have T := zm6 (K := (kcfg prog N Pb Shun val B Mine))
 have Tq := T (true, [])
 have evb : ∀ (w : World) (es : Array Event) (a : Addr) (m : Mode) (x : Bool),(store a (.bool x) m).events prog w es = storedEv prog w es a (.bool x) m := fun w es a m x => events_store prog w es a _ m rfl
 have hdr : ∀ w : World,RKd (kcfg prog N Pb Shun val B Mine) (true, []) w { w with drawn := w.drawn + 1 } := zl1
 refine zf5 func215 (by rfl) rfl ?_
 simp only [ntmps215,List.size_toArray,List.length_cons,List.length_nil,Nat.reduceAdd,Nat.reduceSub,Array.replicate_succ,Array.replicate_zero,List.push_toArray,List.append_toArray,List.nil_append,List.cons_append]
 refine zh9 C T ?_
 co_apply zb1 C T (RKd.refl _)
 co_reg (T _)
 iterate 3
  co_op HC.rely hF (co_quiet Tq)
 co_apply opsC_nil (T _)
 co_then
 by_cases h1 : b < 128
 ·
  have h1b : decide (b < 128) = true := decide_eq_true h1
  try simp only [h1b]
  refine zb0 C T (t := true) rfl ?_
  simp only [if_true,if_false,reduceIte,Bool.false_eq_true]
  have hbs : ze8 d b = (d, [IntKind.i32.wrap b]) := by simp [ze8,h1]
  refine zb2 C T ?_
  simp only [szR,Nat.reduceAdd]
  refine za4 C rfl (by rfl) fun _ hR Kx hKx => ?_
  replace hF := HC.rely hF hR
  clear hR
  go_simp
  try (unfold stored; go_simp)
  refine hKx _ _ ⟨?_,?_⟩
  ·
   co_quiet Tq
  iterate 2
   clear hKx Kx
   try walk_nrm
   refine za4 C rfl (by rfl) fun _ hR Kx hKx => ?_
   replace hF := HC.rely hF hR
   clear hR
   go_simp
   try (unfold stored; go_simp)
   refine hKx _ _ ⟨?_,?_⟩
   ·
    co_still Tq
  clear hKx Kx
  try walk_nrm
  refine za4 C rfl (by rfl) fun _ hR Kx hKx => ?_
  replace hF := HC.rely hF hR
  clear hR
  have hc := hF.cells_de
  go_simp
  try (unfold stored; go_simp)
  refine hKx _ _ ⟨?_,?_⟩
  ·
   refine zd1 hF ?_
   co_evs (exact zc1 (.inr (.inr rfl)))
  clear hKx Kx
  try walk_nrm
  clear hc
  iterate 2
   refine za4 C rfl (by rfl) fun _ hR Kx hKx => ?_
   replace hF := HC.rely hF hR
   clear hR
   go_simp
   try (unfold stored; go_simp)
   refine hKx _ _ ⟨?_,?_⟩
   ·
    co_quiet Tq
   clear hKx Kx
   try walk_nrm
  refine zb4 C T rfl (by rfl) rfl rfl (by simp [Act.eval]) (by rw [hbs]; simp only [zc6]) (put_x hF fr (IntKind.i32.wrap b) vs) ?_
  rintro _ _ _ ⟨rfl,hF⟩
  refine zb6 C T ?_
  exact ⟨.inl rfl,rfl,_,resultsC_none (by rfl) _,by simp [hbs,zc6],by rw [hbs,zc6]; exact hF⟩
 ·
  have h1b : decide (b < 128) = false := decide_eq_false h1
  try simp only [h1b]
  refine zb0 C T (t := false) rfl ?_
  simp only [if_true,if_false,reduceIte,Bool.false_eq_true]
  by_cases h2 : b < 194
  ·
   have h2b : decide (b < 194) = true := decide_eq_true h2
   co_apply zb1 C T (RKd.refl _)
   co_reg (T _)
   iterate 3
    co_op HC.rely hF (co_quiet Tq)
   try simp only [h2b]
   iterate 2
    co_apply opsC_unwanted (T _) rfl (by rfl)
   iterate 2
    co_op HC.rely hF (co_quiet Tq)
   co_apply opsC_nil (T _)
   co_then
   refine zb0 C T (t := true) rfl ?_
   simp only [if_true,if_false,reduceIte,Bool.false_eq_true]
   have hbs : ze8 d b = (d, [65533]) := by simp [ze8,h1,h2]
   refine zb2 C T ?_
   simp only [szR,Nat.reduceAdd]
   refine za4 C rfl (by rfl) fun _ hR Kx hKx => ?_
   replace hF := HC.rely hF hR
   clear hR
   go_simp
   try (unfold stored; go_simp)
   refine hKx _ _ ⟨?_,?_⟩
   ·
    co_quiet Tq
   iterate 2
    clear hKx Kx
    try walk_nrm
    refine za4 C rfl (by rfl) fun _ hR Kx hKx => ?_
    replace hF := HC.rely hF hR
    clear hR
    go_simp
    try (unfold stored; go_simp)
    refine hKx _ _ ⟨?_,?_⟩
    ·
     co_still Tq
   clear hKx Kx
   try walk_nrm
   refine za4 C rfl (by rfl) fun _ hR Kx hKx => ?_
   replace hF := HC.rely hF hR
   clear hR
   have hc := hF.cells_de
   go_simp
   try (unfold stored; go_simp)
   refine hKx _ _ ⟨?_,?_⟩
   ·
    refine zd1 hF ?_
    co_evs (exact zc1 (.inr (.inr rfl)))
   clear hKx Kx
   try walk_nrm
   clear hc
   refine zb4 C T rfl (by rfl) rfl rfl (by simp [Act.eval]) (by rw [hbs]; simp only [zc6]) (put_x hF fr 65533 vs) ?_
   rintro _ _ _ ⟨rfl,hF⟩
   refine zb6 C T ?_
   exact ⟨.inl rfl,rfl,_,resultsC_none (by rfl) _,by simp [hbs,zc6],by rw [hbs,zc6]; exact hF⟩
  ·
   have h2b : decide (b < 194) = false := decide_eq_false h2
   co_apply zb1 C T (RKd.refl _)
   co_reg (T _)
   iterate 3
    co_op HC.rely hF (co_quiet Tq)
   try simp only [h2b]
   iterate 4
    co_op HC.rely hF (co_quiet Tq)
   co_apply opsC_nil (T _)
   co_then
   by_cases h3 : b > 244
   ·
    have h3b : decide (b > 244) = true := decide_eq_true h3
    try simp only [h3b]
    refine zb0 C T (t := true) rfl ?_
    simp only [if_true,if_false,reduceIte,Bool.false_eq_true]
    have hbs : ze8 d b = (d, [65533]) := by simp [ze8,h1,h2,h3]
    refine zb2 C T ?_
    simp only [szR,Nat.reduceAdd]
    refine za4 C rfl (by rfl) fun _ hR Kx hKx => ?_
    replace hF := HC.rely hF hR
    clear hR
    go_simp
    try (unfold stored; go_simp)
    refine hKx _ _ ⟨?_,?_⟩
    ·
     co_quiet Tq
    iterate 2
     clear hKx Kx
     try walk_nrm
     refine za4 C rfl (by rfl) fun _ hR Kx hKx => ?_
     replace hF := HC.rely hF hR
     clear hR
     go_simp
     try (unfold stored; go_simp)
     refine hKx _ _ ⟨?_,?_⟩
     ·
      co_still Tq
    clear hKx Kx
    try walk_nrm
    refine za4 C rfl (by rfl) fun _ hR Kx hKx => ?_
    replace hF := HC.rely hF hR
    clear hR
    have hc := hF.cells_de
    go_simp
    try (unfold stored; go_simp)
    refine hKx _ _ ⟨?_,?_⟩
    ·
     refine zd1 hF ?_
     co_evs (exact zc1 (.inr (.inr rfl)))
    clear hKx Kx
    try walk_nrm
    clear hc
    refine zb4 C T rfl (by rfl) rfl rfl (by simp [Act.eval]) (by rw [hbs]; simp only [zc6]) (put_x hF fr 65533 vs) ?_
    rintro _ _ _ ⟨rfl,hF⟩
    refine zb6 C T ?_
    exact ⟨.inl rfl,rfl,_,resultsC_none (by rfl) _,by simp [hbs,zc6],by rw [hbs,zc6]; exact hF⟩
   ·
    have h3b : decide (b > 244) = false := decide_eq_false h3
    try simp only [h3b]
    refine zb0 C T (t := false) rfl ?_
    simp only [if_true,if_false,reduceIte,Bool.false_eq_true]
    co_apply zb1 C T (RKd.refl _)
    co_reg (T _)
    iterate 3
     co_op HC.rely hF (co_quiet Tq)
    co_apply opsC_nil (T _)
    co_then
    by_cases h4 : b < 224
    ·
     have h4b : decide (b < 224) = true := decide_eq_true h4
     try simp only [h4b]
     refine zb0 C T (t := true) rfl ?_
     simp only [if_true,if_false,reduceIte,Bool.false_eq_true]
     have hbs : ze8 d b = (⟨leadL b 31,1,(fbS b).1,(fbS b).2⟩, []) := by simp [ze8,h1,h2,h3,h4]
     refine zb2 C T ?_
     simp only [szR,Nat.reduceAdd]
     iterate 2
      refine za4 C rfl (by rfl) fun _ hR Kx hKx => ?_
      replace hF := HC.rely hF hR
      clear hR
      go_simp
      try (unfold stored; go_simp)
      refine hKx _ _ ⟨?_,?_⟩
      ·
       co_quiet Tq
      clear hKx Kx
      try walk_nrm
     refine zb4 C T rfl (by rfl) rfl rfl (by simp [Act.eval]) (by rw [hbs]; simp [zb3,V]) (lead_x hF (fr,vs) b 1 31) ?_
     rintro _ _ _ ⟨rfl,hF⟩
     refine zb6 C T ?_
     exact ⟨.inl rfl,rfl,_,resultsC_none (by rfl) _,by simp [hbs,zb3],by rw [hbs]; exact hF⟩
    ·
     have h4b : decide (b < 224) = false := decide_eq_false h4
     try simp only [h4b]
     refine zb0 C T (t := false) rfl ?_
     simp only [if_true,if_false,reduceIte,Bool.false_eq_true]
     co_apply zb1 C T (RKd.refl _)
     co_reg (T _)
     iterate 3
      co_op HC.rely hF (co_quiet Tq)
     co_apply opsC_nil (T _)
     co_then
     by_cases h5 : b < 240
     ·
      have h5b : decide (b < 240) = true := decide_eq_true h5
      try simp only [h5b]
      refine zb0 C T (t := true) rfl ?_
      simp only [if_true,if_false,reduceIte,Bool.false_eq_true]
      have hbs : ze8 d b = (⟨leadL b 15,2,(fbS b).1,(fbS b).2⟩, []) := by simp [ze8,h1,h2,h3,h4,h5]
      refine zb2 C T ?_
      simp only [szR,Nat.reduceAdd]
      iterate 2
       refine za4 C rfl (by rfl) fun _ hR Kx hKx => ?_
       replace hF := HC.rely hF hR
       clear hR
       go_simp
       try (unfold stored; go_simp)
       refine hKx _ _ ⟨?_,?_⟩
       ·
        co_quiet Tq
       clear hKx Kx
       try walk_nrm
      refine zb4 C T rfl (by rfl) rfl rfl (by simp [Act.eval]) (by rw [hbs]; simp [zb3,V]) (lead_x hF (fr,vs) b 2 15) ?_
      rintro _ _ _ ⟨rfl,hF⟩
      refine zb6 C T ?_
      exact ⟨.inl rfl,rfl,_,resultsC_none (by rfl) _,by simp [hbs,zb3],by rw [hbs]; exact hF⟩
     ·
      have h5b : decide (b < 240) = false := decide_eq_false h5
      try simp only [h5b]
      refine zb0 C T (t := false) rfl ?_
      simp only [if_true,if_false,reduceIte,Bool.false_eq_true]
      have hbs : ze8 d b = (⟨leadL b 7,3,(fbS b).1,(fbS b).2⟩, []) := by simp [ze8,h1,h2,h3,h4,h5]
      refine zb2 C T ?_
      simp only [szR,Nat.reduceAdd]
      iterate 2
       refine za4 C rfl (by rfl) fun _ hR Kx hKx => ?_
       replace hF := HC.rely hF hR
       clear hR
       go_simp
       try (unfold stored; go_simp)
       refine hKx _ _ ⟨?_,?_⟩
       ·
        co_quiet Tq
       clear hKx Kx
       try walk_nrm
      refine zb4 C T rfl (by rfl) rfl rfl (by simp [Act.eval]) (by rw [hbs]; simp [zb3,V]) (lead_x hF (fr,vs) b 3 7) ?_
      rintro _ _ _ ⟨rfl,hF⟩
      refine zb6 C T ?_
      exact ⟨.inl rfl,rfl,_,resultsC_none (by rfl) _,by simp [hbs,zb3],by rw [hbs]; exact hF⟩
end
end Go.Proofs.YtgcaionclkbehaaGreatDoor
