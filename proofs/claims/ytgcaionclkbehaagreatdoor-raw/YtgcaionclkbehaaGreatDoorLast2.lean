import Derived.Test.YtgcaionclkbehaaGreatDoorDec
import Derived.Lib.RuneBytes
import Derived.Lib.Builder
set_option linter.all false
set_option maxRecDepth 100000
set_option maxHeartbeats 2000000
namespace Go.Proofs.YtgcaionclkbehaaGreatDoor
open Tryz
section
open Go.Conc Go.RowKit
def ze5 (l b : Int) : Int := bits .or .i32 (IntKind.i32.wrap (l * 64)) (IntKind.i32.wrap (bits .and .u8 b 63))
def zd9 (d : DS) (b : Int) : DS × List Int :=
 (⟨ze5 d.letter b,IntKind.i64.wrap (d.missing - 1),128,191⟩,if IntKind.i64.wrap (d.missing - 1) = 0 then [ze5 d.letter b] else [])
section
variable {N Pb cp c1 c2 : Nat} {Shun : Loc → Prop} {val : Value} {B : Nat} {Mine : Loc → Prop} {c : CS} {d : DS} {w w₁ : World}
variable [Go.ConcR.Payload] [Go.ConcX.Payload]
theorem follow_x (hF : HC N Pb cp c1 c2 c d w) (fr : Bool) (b : Int) (vs : List Value) :
  zj8 prog (XK (kcfg prog N Pb Shun val B Mine)) 214 #[.pointer (some ⟨c2,0,none⟩), .int .u8 b] (fr,V (zb3 c (zd9 d b).2).2 ++ vs) w (fun i' _ w' => i' = (fr && (zb3 c (zd9 d b).2).2.isEmpty,vs) ∧ HC N Pb cp c1 c2 (zb3 c (zd9 d b).2).1 (zd9 d b).1 w') := by
 have C : Closed prog false (RKd (kcfg prog N Pb Shun val B Mine)) (DK (kcfg prog N Pb Shun val B Mine)) (XK (kcfg prog N Pb Shun val B Mine)) := XK.closed (K := (kcfg prog N Pb Shun val B Mine))
 have T := zm6 (K := (kcfg prog N Pb Shun val B Mine))
 have Tq := T (true, [])
 have evb : ∀ (w : World) (es : Array Event) (a : Addr) (m : Mode) (x : Bool),(store a (.bool x) m).events prog w es = storedEv prog w es a (.bool x) m := fun w es a m x => events_store prog w es a _ m rfl
 have hdr : ∀ w : World,RKd (kcfg prog N Pb Shun val B Mine) (true, []) w { w with drawn := w.drawn + 1 } := zl1
 refine zf5 func214 (by rfl) rfl ?_
 simp only [ntmps214,List.size_toArray,List.length_cons,List.length_nil,Nat.reduceAdd,Nat.reduceSub,Array.replicate_succ,Array.replicate_zero,List.push_toArray,List.append_toArray,List.nil_append,List.cons_append]
 co_apply zb1 C T (RKd.refl _)
 co_reg (T _)
 iterate 2
  co_op HC.rely hF (co_quiet Tq)
 iterate 2
  co_opw HC.rely hF (skip) (co_still Tq)
 co_opw HC.rely hF (have hc := hF.cells_de) (refine zd1 hF ?_; co_evs (exact zc1 (.inr (.inr rfl))))
 clear hc
 iterate 5
  co_op HC.rely hF (co_quiet Tq)
 iterate 2
  co_opw HC.rely hF (skip) (co_still Tq)
 co_opw HC.rely hF (have hc := hF.cells_de) (exact zh4 hF (.inr rfl) (by co_evs (exact zc1 (.inr (.inr rfl)))))
 replace hF := hF.setLetter (ze5 d.letter b)
 clear hc
 co_apply opsC_nil (T _)
 co_then
 co_apply zb1 C T (RKd.refl _)
 co_reg (T _)
 co_op HC.rely hF (co_quiet Tq)
 iterate 2
  co_opw HC.rely hF (skip) (co_still Tq)
 co_opw HC.rely hF (have hc := hF.cells_de) (refine zd1 hF ?_; co_evs (exact zc1 (.inr (.inr rfl))))
 clear hc
 co_op HC.rely hF (co_quiet Tq)
 iterate 2
  co_opw HC.rely hF (skip) (co_still Tq)
 co_opw HC.rely hF (have hc := hF.cells_de) (exact zh4 hF (.inr rfl) (by co_evs (exact zc1 (.inr (.inr rfl)))))
 replace hF := hF.setMissing (IntKind.i64.wrap (d.missing - 1))
 clear hc
 co_apply opsC_nil (T _)
 co_then
 co_apply zb1 C T (RKd.refl _)
 co_reg (T _)
 iterate 2
  co_op HC.rely hF (co_quiet Tq)
 iterate 2
  co_opw HC.rely hF (skip) (co_still Tq)
 co_opw HC.rely hF (have hc := hF.cells_de) (exact zh4 hF (.inr rfl) (by co_evs (exact zc1 (.inr (.inr rfl)))))
 replace hF := hF.setLow 128
 clear hc
 iterate 2
  co_opw HC.rely hF (skip) (co_still Tq)
 co_opw HC.rely hF (have hc := hF.cells_de) (exact zh4 hF (.inr rfl) (by co_evs (exact zc1 (.inr (.inr rfl)))))
 replace hF := hF.setHigh 191
 clear hc
 co_apply opsC_nil (T _)
 co_then
 co_apply zb1 C T (RKd.refl _)
 co_reg (T _)
 co_op HC.rely hF (co_quiet Tq)
 iterate 2
  co_opw HC.rely hF (skip) (co_still Tq)
 co_opw HC.rely hF (have hc := hF.cells_de) (refine zd1 hF ?_; co_evs (exact zc1 (.inr (.inr rfl))))
 clear hc
 co_op HC.rely hF (co_quiet Tq)
 co_apply opsC_nil (T _)
 co_then
 by_cases hmz : IntKind.i64.wrap (d.missing - 1) = 0
 ·
  have hmb : (IntKind.i64.wrap (d.missing - 1) == 0) = true := by simp [hmz]
  try simp only [hmb]
  clear hmb
  refine zb0 C T (t := true) rfl ?_
  simp only [if_true,if_false,reduceIte,Bool.false_eq_true]
  refine wpX_region_last C T (n := 8) (S := HC N Pb cp c1 c2 c ⟨ze5 d.letter b,IntKind.i64.wrap (d.missing - 1),128,191⟩) (K := fun a' w' => (a'.eval (.tmp 37) = putV c1 ∧ a'.eval (.tmp 41) = .int .i32 (ze5 d.letter b) ∧ a'.defers = []) ∧ HC N Pb cp c1 c2 c ⟨ze5 d.letter b,IntKind.i64.wrap (d.missing - 1),128,191⟩ w') drawK (by first | kernel_rfl | rfl) rfl (fun l => (!l.getD 1 false || l.getD 0 false) && (!l.getD 2 false || l.getD 1 false) && (!l.getD 3 false || l.getD 2 false) && (!l.getD 5 false || l.getD 4 false) && (!l.getD 6 false || l.getD 5 false) && (!l.getD 7 false || l.getD 6 false)) rfl ?hdn ?hord (fun w₁ hR => ?any) ?last
  case hord =>
   intro listed hs hl
   obtain ⟨l⟩ := listed
   match l,hs,hl with
   | [b0,b1,b2,b3,b4,b5,b6,b7,b8],hs,hl =>
    clear hs
    simp only [List.getElem?_toArray,List.getElem?_cons_succ,List.getElem?_cons_zero,Option.some.injEq] at hl
    subst hl
    clear hF hmz
    revert b0 b1 b2 b3 b4 b5 b6 b7
    decide +kernel
  case hdn =>
   intro listed hs hl
   obtain ⟨l⟩ := listed
   match l,hs,hl with
   | [b0,b1,b2,b3,b4,b5,b6,b7,b8],hs,hl =>
    clear hs
    simp only [List.getElem?_toArray,List.getElem?_cons_succ,List.getElem?_cons_zero,Option.some.injEq] at hl
    subst hl
    clear hF hmz
    revert b0 b1 b2 b3 b4 b5 b6 b7
    decide +kernel
  case any =>
   replace hF := HC.rely (HC.rely hF hR) (hdr _)
   clear hR
   co_applyP anyCH_take (T _) (fun _ _ h r => HC.rely h r) (fun _ _ _ h r => ⟨h.1,h.2.1,HC.rely h.2.2 r⟩) (i := 0) rfl (by first | kernel_rfl | decide +kernel) (by first | kernel_rfl | decide +kernel) (by first | kernel_rfl | decide +kernel) (.inl ⟨by rfl,fun _ hw => ⟨run_eq_of ?run0,?guar0⟩⟩) hF ?rest0
   case run0 =>
    intro Kx hKx
    skip
    go_simp
    exact hKx
   case guar0 =>
    skip
    co_quiet Tq
   try walk_nrm
   co_applyP anyCH_take (T _) (fun _ _ h r => HC.rely h r) (fun _ _ _ h r => ⟨h.1,h.2.1,HC.rely h.2.2 r⟩) (i := 1) rfl (by first | kernel_rfl | decide +kernel) (by first | kernel_rfl | decide +kernel) (by first | kernel_rfl | decide +kernel) (.inl ⟨by rfl,fun _ hw => ⟨run_eq_of ?run1,?guar1⟩⟩) hF ?rest1
   case run1 =>
    intro Kx hKx
    skip
    go_simp
    exact hKx
   case guar1 =>
    skip
    co_still Tq
   try walk_nrm
   co_applyP anyCH_take (T _) (fun _ _ h r => HC.rely h r) (fun _ _ _ h r => ⟨h.1,h.2.1,HC.rely h.2.2 r⟩) (i := 2) rfl (by first | kernel_rfl | decide +kernel) (by first | kernel_rfl | decide +kernel) (by first | kernel_rfl | decide +kernel) (.inl ⟨by rfl,fun _ hw => ⟨run_eq_of ?run2,?guar2⟩⟩) hF ?rest2
   case run2 =>
    intro Kx hKx
    skip
    go_simp
    exact hKx
   case guar2 =>
    skip
    co_still Tq
   try walk_nrm
   co_applyP anyCH_take (T _) (fun _ _ h r => HC.rely h r) (fun _ _ _ h r => ⟨h.1,h.2.1,HC.rely h.2.2 r⟩) (i := 3) rfl (by first | kernel_rfl | decide +kernel) (by first | kernel_rfl | decide +kernel) (by first | kernel_rfl | decide +kernel) (.inl ⟨by rfl,fun _ hw => ⟨run_eq_of ?run3,?guar3⟩⟩) hF ?rest3
   case run3 =>
    intro Kx hKx
    have hc := hw.cells_de
    go_simp
    exact hKx
   case guar3 =>
    have hc := hw.cells_de
    refine zd1 hw ?_; co_evs (exact zc1 (.inr (.inr rfl)))
   try walk_nrm
   co_applyP anyCH_take (T _) (fun _ _ h r => HC.rely h r) (fun _ _ _ h r => ⟨h.1,h.2.1,HC.rely h.2.2 r⟩) (i := 4) rfl (by first | kernel_rfl | decide +kernel) (by first | kernel_rfl | decide +kernel) (by first | kernel_rfl | decide +kernel) (.inl ⟨by rfl,fun _ hw => ⟨run_eq_of ?run4,?guar4⟩⟩) hF ?rest4
   case run4 =>
    intro Kx hKx
    skip
    go_simp
    exact hKx
   case guar4 =>
    skip
    co_quiet Tq
   try walk_nrm
   co_applyP anyCH_take (T _) (fun _ _ h r => HC.rely h r) (fun _ _ _ h r => ⟨h.1,h.2.1,HC.rely h.2.2 r⟩) (i := 5) rfl (by first | kernel_rfl | decide +kernel) (by first | kernel_rfl | decide +kernel) (by first | kernel_rfl | decide +kernel) (.inl ⟨by rfl,fun _ hw => ⟨run_eq_of ?run5,?guar5⟩⟩) hF ?rest5
   case run5 =>
    intro Kx hKx
    skip
    go_simp
    exact hKx
   case guar5 =>
    skip
    co_still Tq
   try walk_nrm
   co_applyP anyCH_take (T _) (fun _ _ h r => HC.rely h r) (fun _ _ _ h r => ⟨h.1,h.2.1,HC.rely h.2.2 r⟩) (i := 6) rfl (by first | kernel_rfl | decide +kernel) (by first | kernel_rfl | decide +kernel) (by first | kernel_rfl | decide +kernel) (.inl ⟨by rfl,fun _ hw => ⟨run_eq_of ?run6,?guar6⟩⟩) hF ?rest6
   case run6 =>
    intro Kx hKx
    skip
    go_simp
    exact hKx
   case guar6 =>
    skip
    co_still Tq
   try walk_nrm
   co_applyP anyCH_take (T _) (fun _ _ h r => HC.rely h r) (fun _ _ _ h r => ⟨h.1,h.2.1,HC.rely h.2.2 r⟩) (i := 7) rfl (by first | kernel_rfl | decide +kernel) (by first | kernel_rfl | decide +kernel) (by first | kernel_rfl | decide +kernel) (.inl ⟨by rfl,fun _ hw => ⟨run_eq_of ?run7,?guar7⟩⟩) hF ?rest7
   case run7 =>
    intro Kx hKx
    have hc := hw.cells_de
    go_simp
    exact hKx
   case guar7 =>
    have hc := hw.cells_de
    refine zd1 hw ?_; co_evs (exact zc1 (.inr (.inr rfl)))
   try walk_nrm
   exact anyCH_done (by first | kernel_rfl | decide +kernel) ⟨rfl,⟨rfl,rfl,rfl⟩,hF⟩ _
  case last =>
   rintro a' w' ⟨⟨ha1,ha2,ha3⟩,hF⟩
   have hfs : zd9 d b = (⟨ze5 d.letter b,IntKind.i64.wrap (d.missing - 1),128,191⟩, [ze5 d.letter b]) := by simp only [zd9,if_pos hmz]
   refine zb4 C T rfl (by rfl) rfl ha1 (by simp only [List.map_toArray,List.map_cons,List.map_nil,ha2]; rfl) (by rw [hfs]; simp only [zc6]) (put_x hF fr (ze5 d.letter b) vs) ?_
   rintro _ _ _ ⟨rfl,hF⟩
   refine zb6 C T ?_
   exact ⟨.inl rfl,ha3,_,resultsC_none (by rfl) _,by simp [hfs,zc6],by rw [hfs,zc6]; exact hF⟩
 ·
  have hmb : (IntKind.i64.wrap (d.missing - 1) == 0) = false := by simp [hmz]
  try simp only [hmb]
  refine zb0 C T (t := false) rfl ?_
  simp only [if_true,if_false,reduceIte,Bool.false_eq_true]
  refine zg3 C T ?_
  have hfs : zd9 d b = (⟨ze5 d.letter b,IntKind.i64.wrap (d.missing - 1),128,191⟩, []) := by simp only [zd9,if_neg hmz]
  exact ⟨.inl rfl,rfl,_,resultsC_none (by rfl) _,by simp [hfs,zb3,V],by rw [hfs]; exact hF⟩
end
end
set_option maxRecDepth 100000
set_option maxHeartbeats 2000000
section
open Go.Conc Go.RowKit
def takeS (d : DS) (b : Int) : DS × List Int :=
 if 0 < d.missing then if d.low ≤ b ∧ b ≤ d.high then zd9 d b else ((ze8 (endS d).1 b).1,(endS d).2 ++ (ze8 (endS d).1 b).2) else ze8 d b
theorem cleanAll_append (c : CS) (x y : List Int) : zb3 c (x ++ y) = ((zb3 (zb3 c x).1 y).1,(zb3 c x).2 ++ (zb3 (zb3 c x).1 y).2) := by
 induction x generalizing c with
 | nil => simp [zb3]
 | cons r l ih => simp [zb3,ih]
theorem isEmpty_app {α : Type} (x y : List α) : (x ++ y).isEmpty = (x.isEmpty && y.isEmpty) := by cases x <;> rfl
theorem V_append (x y : List Int) : V (x ++ y) = V x ++ V y := by simp [V]
section
variable {N Pb cp c1 c2 : Nat} {Shun : Loc → Prop} {val : Value} {B : Nat} {Mine : Loc → Prop} {c : CS} {d : DS} {w w₁ : World}
variable [Go.ConcR.Payload] [Go.ConcX.Payload]
theorem take_x (hF : HC N Pb cp c1 c2 c d w) (fr : Bool) (b : Int) (vs : List Value) :
  zj8 prog (XK (kcfg prog N Pb Shun val B Mine)) 117 #[.pointer (some ⟨c2,0,none⟩), .int .u8 b] (fr,V (zb3 c (takeS d b).2).2 ++ vs) w (fun i' _ w' => i' = (fr && (zb3 c (takeS d b).2).2.isEmpty,vs) ∧ HC N Pb cp c1 c2 (zb3 c (takeS d b).2).1 (takeS d b).1 w') := by
 have C : Closed prog false (RKd (kcfg prog N Pb Shun val B Mine)) (DK (kcfg prog N Pb Shun val B Mine)) (XK (kcfg prog N Pb Shun val B Mine)) := XK.closed (K := (kcfg prog N Pb Shun val B Mine))
 have T := zm6 (K := (kcfg prog N Pb Shun val B Mine))
 have Tq := T (true, [])
 have evb : ∀ (w : World) (es : Array Event) (a : Addr) (m : Mode) (x : Bool),(store a (.bool x) m).events prog w es = storedEv prog w es a (.bool x) m := fun w es a m x => events_store prog w es a _ m rfl
 have hdr : ∀ w : World,RKd (kcfg prog N Pb Shun val B Mine) (true, []) w { w with drawn := w.drawn + 1 } := zl1
 refine zf5 func117 (by rfl) rfl ?_
 simp only [ntmps117,List.size_toArray,List.length_cons,List.length_nil,Nat.reduceAdd,Nat.reduceSub,Array.replicate_succ,Array.replicate_zero,List.push_toArray,List.append_toArray,List.nil_append,List.cons_append]
 refine zf6 C T ?_
 co_apply zb1 C T (RKd.refl _)
 co_reg (T _)
 co_op HC.rely hF (co_quiet Tq)
 iterate 2
  co_opw HC.rely hF (skip) (co_still Tq)
 co_opw HC.rely hF (have hc := hF.cells_de) (refine zd1 hF ?_; co_evs (exact zc1 (.inr (.inr rfl))))
 clear hc
 co_op HC.rely hF (co_quiet Tq)
 co_apply opsC_nil (T _)
 co_then
 by_cases hm : 0 < d.missing
 ·
  have hmb : decide (0 < d.missing) = true := decide_eq_true hm
  try simp only [hmb]
  refine zb0 C T (t := true) rfl ?_
  simp only [if_true,if_false,reduceIte,Bool.false_eq_true]
  refine zf6 C T ?_
  by_cases hl : d.low ≤ b
  ·
   have hlb : decide (d.low ≤ b) = true := decide_eq_true hl
   co_apply zb1 C T (RKd.refl _)
   co_reg (T _)
   co_op HC.rely hF (co_quiet Tq)
   iterate 2
    co_opw HC.rely hF (skip) (co_still Tq)
   co_opw HC.rely hF (have hc := hF.cells_de) (refine zd1 hF ?_; co_evs (exact zc1 (.inr (.inr rfl))))
   clear hc
   iterate 3
    co_op HC.rely hF (co_quiet Tq)
   try simp only [hlb]
   iterate 2
    co_op HC.rely hF (co_quiet Tq)
   iterate 2
    co_opw HC.rely hF (skip) (co_still Tq)
   co_opw HC.rely hF (have hc := hF.cells_de) (refine zd1 hF ?_; co_evs (exact zc1 (.inr (.inr rfl))))
   clear hc
   iterate 2
    co_op HC.rely hF (co_quiet Tq)
   co_apply opsC_nil (T _)
   co_then
   by_cases hh : b ≤ d.high
   ·
    have hhb : decide (b ≤ d.high) = true := decide_eq_true hh
    try simp only [hhb]
    refine zb0 C T (t := true) rfl ?_
    simp only [if_true,if_false,reduceIte,Bool.false_eq_true]
    refine zf6 C T ?_
    have hts : takeS d b = zd9 d b := by simp only [takeS,if_pos hm,if_pos (And.intro hl hh)]
    refine zb2 C T ?_
    simp only [szR,Nat.reduceAdd]
    iterate 2
     refine za4 C rfl (by rfl) fun _ hR Kx hKx => ?_
     replace hF := HC.rely hF hR
     clear hR
     go_simp
     try (unfold stored; go_simp)
     refine hKx _ _ ⟨?_,?_⟩
     ·
      co_quiet Tq
     clear hKx Kx
     try walk_nrm
    refine zb4 C T rfl (by rfl) rfl rfl (by simp [Act.eval]) (by rw [hts]) (follow_x hF fr b vs) ?_
    rintro _ _ _ ⟨rfl,hF⟩
    refine zb6 C T ?_
    show wpX _ _ _ _ _ _ _
    refine wpX_ret C T ?_
    exact ⟨.inr rfl,rfl,_,resultsC_none (by rfl) _,by simp [hts],by rw [hts]; exact hF⟩
   ·
    have hhb : decide (b ≤ d.high) = false := decide_eq_false hh
    try simp only [hhb]
    refine zb0 C T (t := false) rfl ?_
    simp only [if_true,if_false,reduceIte,Bool.false_eq_true]
    refine zg3 C T ?_
    show wpX _ _ _ _ _ _ _
    have hts : takeS d b = ((ze8 (endS d).1 b).1,(endS d).2 ++ (ze8 (endS d).1 b).2) := by simp only [takeS,if_pos hm,if_neg (fun h : d.low ≤ b ∧ b ≤ d.high => hh h.2)]
    rw [hts]
    simp only [cleanAll_append,V_append,List.append_assoc]
    refine zb2 C T ?_
    simp only [szR,Nat.reduceAdd]
    refine za4 C rfl (by rfl) fun _ hR Kx hKx => ?_
    replace hF := HC.rely hF hR
    clear hR
    go_simp
    try (unfold stored; go_simp)
    refine hKx _ _ ⟨?_,?_⟩
    ·
     co_quiet Tq
    clear hKx Kx
    try walk_nrm
    refine zb4 C T rfl (by rfl) rfl rfl (by simp [Act.eval]) rfl (end_x hF fr _) ?_
    rintro _ _ _ ⟨rfl,hF⟩
    refine zb6 C T ?_
    show wpX _ _ _ _ _ _ _
    refine zb2 C T ?_
    simp only [szR,Nat.reduceAdd]
    iterate 2
     refine za4 C rfl (by rfl) fun _ hR Kx hKx => ?_
     replace hF := HC.rely hF hR
     clear hR
     go_simp
     try (unfold stored; go_simp)
     refine hKx _ _ ⟨?_,?_⟩
     ·
      co_quiet Tq
     clear hKx Kx
     try walk_nrm
    refine zb4 C T rfl (by rfl) rfl rfl (by simp [Act.eval]) rfl (begin_x hF _ b vs) ?_
    rintro _ _ _ ⟨rfl,hF⟩
    refine zb6 C T ?_
    exact ⟨.inl rfl,rfl,_,resultsC_none (by rfl) _,by simp [isEmpty_app,Bool.and_assoc],hF⟩
  ·
   have hlb : decide (d.low ≤ b) = false := decide_eq_false hl
   co_apply zb1 C T (RKd.refl _)
   co_reg (T _)
   co_op HC.rely hF (co_quiet Tq)
   iterate 2
    co_opw HC.rely hF (skip) (co_still Tq)
   co_opw HC.rely hF (have hc := hF.cells_de) (refine zd1 hF ?_; co_evs (exact zc1 (.inr (.inr rfl))))
   clear hc
   iterate 3
    co_op HC.rely hF (co_quiet Tq)
   try simp only [hlb]
   iterate 6
    co_apply opsC_unwanted (T _) rfl (by rfl)
   co_op HC.rely hF (co_quiet Tq)
   co_apply opsC_nil (T _)
   co_then
   refine zb0 C T (t := false) rfl ?_
   simp only [if_true,if_false,reduceIte,Bool.false_eq_true]
   refine zg3 C T ?_
   show wpX _ _ _ _ _ _ _
   have hts : takeS d b = ((ze8 (endS d).1 b).1,(endS d).2 ++ (ze8 (endS d).1 b).2) := by simp only [takeS,if_pos hm,if_neg (fun h : d.low ≤ b ∧ b ≤ d.high => hl h.1)]
   rw [hts]
   simp only [cleanAll_append,V_append,List.append_assoc]
   refine zb2 C T ?_
   simp only [szR,Nat.reduceAdd]
   refine za4 C rfl (by rfl) fun _ hR Kx hKx => ?_
   replace hF := HC.rely hF hR
   clear hR
   go_simp
   try (unfold stored; go_simp)
   refine hKx _ _ ⟨?_,?_⟩
   ·
    co_quiet Tq
   clear hKx Kx
   try walk_nrm
   refine zb4 C T rfl (by rfl) rfl rfl (by simp [Act.eval]) rfl (end_x hF fr _) ?_
   rintro _ _ _ ⟨rfl,hF⟩
   refine zb6 C T ?_
   show wpX _ _ _ _ _ _ _
   refine zb2 C T ?_
   simp only [szR,Nat.reduceAdd]
   iterate 2
    refine za4 C rfl (by rfl) fun _ hR Kx hKx => ?_
    replace hF := HC.rely hF hR
    clear hR
    go_simp
    try (unfold stored; go_simp)
    refine hKx _ _ ⟨?_,?_⟩
    ·
     co_quiet Tq
    clear hKx Kx
    try walk_nrm
   refine zb4 C T rfl (by rfl) rfl rfl (by simp [Act.eval]) rfl (begin_x hF _ b vs) ?_
   rintro _ _ _ ⟨rfl,hF⟩
   refine zb6 C T ?_
   exact ⟨.inl rfl,rfl,_,resultsC_none (by rfl) _,by simp [isEmpty_app,Bool.and_assoc],hF⟩
 ·
  have hmb : decide (0 < d.missing) = false := decide_eq_false hm
  try simp only [hmb]
  refine zb0 C T (t := false) rfl ?_
  simp only [if_true,if_false,reduceIte,Bool.false_eq_true]
  refine zg3 C T ?_
  show wpX _ _ _ _ _ _ _
  have hts : takeS d b = ze8 d b := by simp only [takeS,if_neg hm]
  refine zb2 C T ?_
  simp only [szR,Nat.reduceAdd]
  iterate 2
   refine za4 C rfl (by rfl) fun _ hR Kx hKx => ?_
   replace hF := HC.rely hF hR
   clear hR
   go_simp
   try (unfold stored; go_simp)
   refine hKx _ _ ⟨?_,?_⟩
   ·
    co_quiet Tq
   clear hKx Kx
   try walk_nrm
  refine zb4 C T rfl (by rfl) rfl rfl (by simp [Act.eval]) (by rw [hts]) (begin_x hF fr b vs) ?_
  rintro _ _ _ ⟨rfl,hF⟩
  refine zb6 C T ?_
  exact ⟨.inl rfl,rfl,_,resultsC_none (by rfl) _,by simp [hts],by rw [hts]; exact hF⟩
end
end
section
open Go.Conc Go.RowKit
theorem box_run (P : Program) (w : World) (t : TypeId) (v : Value) : (Instr.box t v).run P w = .ok (.pointer (some ⟨w.heap.size,0,none⟩)) (w.alloc (.cells v.cells t)) := by
 simp [Instr.box,newVar,go_sem]
theorem zk2 (P : Program) (w : World) (t : TypeId) (v : Value) (es : Array Event) : (Instr.box t v).events P w es = es := by
 simp [Instr.box,newVar,go_sem]
theorem zi1 {P : Program} {w : World} {t : TypeId} {z : Value} (hz : ∀ w,(zeroValue t).run P w = .ok z w) : (Instr.alloc t true (.tuple #[])).run P w = .ok (.pointer (some ⟨w.heap.size,0,none⟩)) (w.alloc (.cells z.cells t)) := by
 simp [Instr.alloc,newVar,go_sem,hz]
theorem zf3 {P : Program} {w : World} {t : TypeId} {z : Value} (hz : ∀ w,(zeroValue t).run P w = .ok z w) (es : Array Event) : (Instr.alloc t true (.tuple #[])).events P w es = es := by
 simp [Instr.alloc,newVar,go_sem,hz]
theorem places_events {P : Program} (w : World) : ∀ (fs : List Field) (places : List (Nat × Nat)) (es : Array Event),fs.mapM (fun f : Field => (P.info? f.type).map fun i => (f.offset,i.size)) = some places →
  (fs.mapM fun f : Field => Functor.map (Prod.mk f.offset) (sizeOf f.type)).events P w es = es
 | [],places,es,h => by simp
 | f :: fs,places,es,h => by
  simp only [List.mapM_cons,Option.bind_eq_bind,Option.pure_def] at h
  cases hi : P.info? f.type with
  | none => simp [hi] at h
  | some i =>
   cases hr : fs.mapM (fun f => (P.info? f.type).map fun i => (f.offset,i.size)) with
   | none => simp [hi,hr] at h
   | some rest =>
    have hs : (sizeOf f.type).run P w = .ok i.size w := by simp [sizeOf,typeInfo,hi]
    simp [List.mapM_cons,hs,run_places w fs rest hr,places_events w fs rest _ hr]
theorem zj3 {P : Program} (w : World) (t : TypeId) (parts : Array (Nat × Value)) (cells : Array Value) (h : P.built t parts.toList = some cells) (es : Array Event) : (Instr.build t parts).events P w es = es := by
 unfold Program.built at h
 cases hit : P.info? t with
 | none => simp [hit] at h
 | some it =>
  cases hu : P.underlying t with
  | none => simp [hit,hu] at h
  | some d =>
   cases hz : it.zero with
   | none => cases d <;> simp [hit,hu,hz] at h
   | some z =>
    cases d <;> try (simp [hit,hu] at h; done)
    case array n e =>
     cases hie : P.info? e with
     | none => simp [hit,hu,hz,hie] at h
     | some ie =>
      simp only [hit,hu,hz,hie] at h
      simp [Instr.build,run_underlying hu,sizeOf,typeInfo,zeroValue,hit,hz,hie,h]
    case struct fields =>
     cases hp : fields.toList.mapM (fun f => (P.info? f.type).map fun i => (f.offset,i.size)) with
     | none => simp [hit,hu,hz,hp] at h
     | some places =>
      simp only [hit,hu,hz,hp] at h
      have h' : Instr.fill (fun x => places[x]?) z.cells parts.toList = some cells := by simpa using h
      simp [Instr.build,run_underlying hu,typeInfo,zeroValue,hit,hz,Array.mapM_eq_mapM_toList,run_places w _ _ hp,places_events w _ _ _ hp,h']
theorem storeCells_evs {P : Program} (g : Nat) (t : TypeId) : ∀ (vs : List Value) (i : Nat) (cur : Array Value) (w : World) (es : Array Event),w.heap[g]? = some (.cells cur t (0,0)) → i + vs.length ≤ cur.size → (∀ v ∈ vs,v.oneCell' = true) →
  ∀ ev ∈ (storeCells ⟨g,0,none⟩ vs i).events P w es,ev ∈ es ∨ ∃ o,ev = ⟨.cell ⟨g,o,none⟩,true,false⟩
 | [],_,_,_,_,_,_,_ => fun ev h => .inl (by simpa [storeCells] using h)
 | v :: rest,i,cur,w,es,hg,hl,h1 => fun ev h => by
  have hi : i < cur.size := by simp at hl; omega
  have hadd : (⟨g,0,none⟩ : Addr).add i = ⟨g,i,none⟩ := by unfold Addr.add; split <;> simp_all
  have hcell : w.cell? ⟨g,i,none⟩ = some cur[i] := by simp [World.cell?,hg,hi]
  have hfro : w.frozen? ⟨g,i,none⟩ = false := by simp [World.frozen?,hg]
  have hst : (store ((⟨g,0,none⟩ : Addr).add i) v).run P w = .ok () (w.setRow g (cur.setIfInBounds i v)) := by
   rw [hadd,run_store P w _ v _ (h1 v (by simp)),hcell]
   simp [hfro,setCell_eq_setRow w g i cur t (0,0) v hg]
  have hev : (store ((⟨g,0,none⟩ : Addr).add i) v).events P w es = es.push ⟨.cell ⟨g,i,none⟩,true,false⟩ := by
   rw [hadd,events_store P w es _ v _ (h1 v (by simp)),hcell]
   simp only [hfro,Bool.false_eq_true,if_false]
   rfl
  simp only [storeCells,Sem.events_bind,hst,Result.evThen_ok,hev] at h
  rcases storeCells_evs g t rest (i + 1) (cur.setIfInBounds i v) (w.setRow g (cur.setIfInBounds i v)) _ (setRow_heap w g cur _ t _ hg) (by simp at hl ⊢; omega) (fun x hx => h1 x (by simp [hx])) ev h with h | h
  ·
   rcases Array.mem_push.1 h with h | rfl
   ·
    exact .inl h
   ·
    exact .inr ⟨_,rfl⟩
  ·
   exact .inr h
theorem storeVar_evs {P : Program} (w : World) (g : Nat) (t ty : TypeId) (old cells : Array Value) (hg : w.heap[g]? = some (.cells old t (0,0))) (hi : (P.info? ty).map (·.size) = some cells.size) (ho : old.size = cells.size) (h1 : cells.all (·.oneCell') = true) :
  ∀ ev ∈ (storeVar ty ⟨g,0,none⟩ (.agg cells)).events P w #[], ∃ o,ev = ⟨.cell ⟨g,o,none⟩,true,false⟩ := by
 intro ev hev
 cases hq : P.info? ty with
 | none => simp [hq] at hi
 | some i =>
  have hs : cells.size = i.size := by simp [hq] at hi; omega
  have hev' : ev ∈ (storeCells ⟨g,0,none⟩ cells.toList).events P w #[] := by simpa [storeVar,sizeOf,typeInfo,hq,Value.cells,hs] using hev
  rcases storeCells_evs g t cells.toList 0 old w #[] hg (by simp; omega) (fun v hv => (Array.all_eq_true_iff_forall_mem.1 h1) v (by simpa using hv)) ev hev' with h | h
  ·
   simp at h
  ·
   exact h
end
section
open Go.Conc Go.RowKit
abbrev KTs : TypeId → Prop := fun t => t = 177 ∨ t = 179 ∨ 1016 ≤ t
structure HM (M : World → Nat → Prop) (O : Nat → Prop) (N0 : Nat) (Ex : Nat → Prop) (w₀ : World) (Bb : Nat) (p u v : Value) (n : Nat) (xs : List Value) (w : World) : Prop where
 bd : w.heap[Bb]? = some (.cells #[p,u] 119)
 mb : M w Bb
 exb : Ex Bb ∨ w₀.heap.size ≤ Bb
 ro : RowO M Ex w₀ 5 v n xs w
 size : N0 ≤ w.heap.size
 old : Kept M O Ex w₀ w
section
variable {ι : Type} {R : ι → World → World → Prop} {D : ι → World → World → Array Event → Prop} {i : ι} {M : World → Nat → Prop} {O : Nat → Prop} {N0 : Nat} {Ex : Nat → Prop} {w₀ w w₁ : World} {Bb : Nat} {p u v : Value} {n : Nat} {xs : List Value}
theorem HM.row (h : HM M O N0 Ex w₀ Bb p u v n xs w) : w.ownsRow 0 5 1 v n xs := h.ro.row
theorem HM.nil (h : HM M O N0 Ex w₀ Bb p u v n xs w) : n = 0 → v = .slice none 0 0 := h.ro.nil
theorem HM.cells (h : HM M O N0 Ex w₀ Bb p u v n xs w) : w.cell? ⟨Bb,0,none⟩ = some p ∧ w.cell? ⟨Bb,1,none⟩ = some u ∧ w.frozen? ⟨Bb,0,none⟩ = false ∧ w.frozen? ⟨Bb,1,none⟩ = false := by
 simp [World.cell?,World.frozen?,h.bd]
theorem HM.rely (E : Env KTs N0 M O (R i) (D i)) (h : HM M O N0 Ex w₀ Bb p u v n xs w) (r : R i w w₁) : HM M O N0 Ex w₀ Bb p u v n xs w₁ :=
 ⟨(E.keep r h.mb).trans h.bd,E.stay r h.mb,h.exb,h.ro.rely E r,Nat.le_trans h.size (E.size r),h.old.rely E r⟩
theorem ze2 {e : Event} {ad : Addr} (he : e.loc = .cell ad) (hb : M w ad.block) : EvO (M w) e := .inl ⟨ad,he,hb⟩
theorem zd2 (E : Env KTs N0 M O (R i) (D i)) (hs : N0 ≤ w.heap.size) {es : Array Event} (h : ∀ e ∈ es,EvO (M w) e) : D i w w es := E.does hs (Own.refl w) h
theorem EvO.up {w' : World} {e : Event} (h : EvO (M w) e) (hm : ∀ b,M w b → M w' b) : EvO (M w') e := h.imp (fun ⟨ad,h1,h2⟩ => ⟨ad,h1,hm _ h2⟩) (Or.imp (fun ⟨b,wr,h1,h2⟩ => ⟨b,wr,h1,hm _ h2⟩) id)
theorem dm_own (E : Env KTs N0 M O (R i) (D i)) {w' : World} (hs : N0 ≤ w.heap.size) (o : Own KTs M w w') {es : Array Event} (h : ∀ e ∈ es,EvO (M w) e) : D i w w' es := E.does hs o fun e he => (h e he).up fun _ hb => E.mine o hb
theorem HM.ownSet (h : HM M O N0 Ex w₀ Bb p u v n xs w) (o : Nat) (x : Value) : Own KTs M w (w.setCell ⟨Bb,o,none⟩ x) := Own.setCell h.bd h.mb (by simp [KTs])
theorem dm_write (E : Env KTs N0 M O (R i) (D i)) (hF : HM M O N0 Ex w₀ Bb p u v n xs w) {es : Array Event} {o : Nat} {x : Value} (h : ∀ e ∈ es,EvO (M w) e) : D i w (w.setCell ⟨Bb,o,none⟩ x) es := dm_own E hF.size (hF.ownSet o x) h
theorem dm_alloc (E : Env KTs N0 M O (R i) (D i)) {cs : Array Value} {t : TypeId} (ht : ¬ KTs t) (hs : N0 ≤ w.heap.size) {es : Array Event} (h : ∀ e ∈ es,EvO (M w) e) : D i w (w.alloc (.cells cs t)) es := dm_own E hs (Own.alloc ht) h
theorem HM.alloc (E : Env KTs N0 M O (R i) (D i)) (h : HM M O N0 Ex w₀ Bb p u v n xs w) {cs : Array Value} {t : TypeId} (ht : ¬ KTs t) : HM M O N0 Ex w₀ Bb p u v n xs (w.alloc (.cells cs t)) := by
 have o : Own KTs M w (w.alloc (.cells cs t)) := Own.alloc ht
 refine ⟨(Below.heap_alloc _ _ _ (E.lt h.mb)).trans h.bd,E.mine o h.mb,h.exb,h.ro.same fun k hk => ⟨Below.heap_alloc _ _ _ (E.lt (h.ro.own k hk).1),E.mine o (h.ro.own k hk).1⟩,by simp [World.size_alloc]; have := h.size; omega,h.old.own E o fun b hb _ => Below.heap_alloc _ _ _ (E.lt (h.old.mine b hb))⟩
structure HA (M : World → Nat → Prop) (O : Nat → Prop) (N0 : Nat) (Ex : Nat → Prop) (w₀ : World) (Bb : Nat) (p u v : Value) (n : Nat) (xs news : List Value) (g : Nat) (w : World) : Prop where
 hm : HM M O N0 Ex w₀ Bb p u v n xs w
 src : SrcO M 5 news g w
theorem HM.built (E : Env KTs N0 M O (R i) (D i)) (h : HM M O N0 Ex w₀ Bb p u v n xs w) (news : List Value) : HA M O N0 Ex w₀ Bb p u v n xs news w.heap.size (w.alloc (.cells news.toArray 5)) :=
 ⟨h.alloc E (by simp [KTs]),heap_alloc_new w _,E.new h.size (Own.alloc (by simp [KTs])) (Nat.le_refl _) (by simp [World.size_alloc])⟩
theorem HA.rely {news : List Value} {g : Nat} (E : Env KTs N0 M O (R i) (D i)) (h : HA M O N0 Ex w₀ Bb p u v n xs news g w) (r : R i w w₁) : HA M O N0 Ex w₀ Bb p u v n xs news g w₁ := ⟨h.hm.rely E r,h.src.rely E r⟩
theorem append_m {news : List Value} {g : Nat} (E : Env KTs N0 M O (R i) (D i)) (h : HA M O N0 Ex w₀ Bb p u v n xs news g w) (h1 : ∀ x ∈ news,x.oneCell' = true) (hn : n + news.length ≤ 140737488355328) (ty : TypeId) :
  ∃ v' w',(Builtin.append_ #[55,55] ty #[v, .slice (some ⟨g,0,none⟩) news.length news.length]).run prog w = .ok v' w' ∧ HM M O N0 Ex w₀ Bb p u v' (n + news.length) (xs ++ news) w' ∧
   D i w w' ((Builtin.append_ #[55,55] ty #[v, .slice (some ⟨g,0,none⟩) news.length news.length]).events prog w #[]) ∧
   ∀ e ∈ (Builtin.append_ #[55,55] ty #[v, .slice (some ⟨g,0,none⟩) news.length news.length]).events prog w #[], ∀ m,e.loc = .mark m → m = .noRoom := by
 obtain ⟨v',w',hr,ho,hk,hO,hb,hD,hm⟩ := append_o (P := prog) E h.hm.size (by simp [KTs]) h.hm.old h.hm.ro h.src 55 ty (.int .u8 0) 1 underlying55 (by kernel_rfl) rfl h1 (by unfold maxLen; omega) (by omega)
 exact ⟨v',w',hr,⟨(hb Bb (E.lt h.hm.mb) fun e => h.hm.ro.ne h.hm.bd (by decide) e rfl).trans h.hm.bd,E.mine hO h.hm.mb,h.hm.exb,ho,Nat.le_trans h.hm.size hO.grow,hk⟩,hD,hm⟩
end
end
section
open Go.Conc
section
variable {P : Program}
theorem events_sliceData_nil (w : World) (ts : Array TypeId) (ty : TypeId) (n c : Nat) (es : Array Event) : (Builtin.unsafeSliceData_ ts ty #[.slice none n c]).events P w es = es := by
 show Sem.events P (pure (Value.pointer none) : Sem Value) w es = es
 simp
theorem events_sliceData_row (w : World) (ts : Array TypeId) (ty : TypeId) (a : Addr) (n c : Nat) (hc : c ≠ 0) (es : Array Event) : (Builtin.unsafeSliceData_ ts ty #[.slice (some a) n c]).events P w es = es := by
 obtain ⟨k,rfl⟩ : ∃ k,c = k + 1 := ⟨c - 1,by omega⟩
 show Sem.events P (pure (Value.pointer (some a)) : Sem Value) w es = es
 simp
theorem zm4 (w : World) (pt it ty : TypeId) (p : Option Addr) (es : Array Event) : (Builtin.unsafeString_ #[pt,it] ty #[.pointer p, .int .i64 0]).events P w es = es := by
 have hmax : IntKind.i64.max = 9223372036854775807 := rfl
 cases p with
 | none =>
  obtain ⟨t1,t2,t3,hdef⟩ : ∃ t1 t2 t3 : String,Builtin.unsafeString_ #[pt,it] ty #[.pointer none, .int .i64 0] =
    (do
     let n ← asInt (.int .i64 0)
     if n < 0 then runtimePanic (.error t1)
     if n > IntKind.i64.max then unsupported (.unsafePointer t2)
     if n = 0 then pure (.string .empty)
     else runtimePanic (.error t3)) := ⟨_,_,_,rfl⟩
  rw [hdef]
  simp [asInt,asIntOf,hmax]
 | some a =>
  obtain ⟨t1,t2,t3,hdef⟩ : ∃ t1 t2 t3 : String,Builtin.unsafeString_ #[pt,it] ty #[.pointer (some a), .int .i64 0] =
    (do
     let n ← asInt (.int .i64 0)
     if n < 0 then runtimePanic (.error t1)
     if n > IntKind.i64.max then unsupported (.unsafePointer t2)
     if n = 0 then pure (.string .empty)
     else if ← variablesAt a (← elemOf pt) n.toNat then do
      let s ← loadBytes a .empty n.toNat
      freeze a n.toNat
      pure (.string s)
     else unsupported (.unsafePointer t3)) := ⟨_,_,_,rfl⟩
  rw [hdef]
  simp [asInt,asIntOf,hmax]
theorem add_one_add (a : Addr) (j : Nat) : (a.add 1).add j = a.add (j + 1) := by
 unfold Addr.add
 by_cases hj : j = 0
 ·
  subst hj; simp
 ·
  simp [hj]; omega
theorem events_loadBytes (w : World) : ∀ (l : List UInt8) (a : Addr) (acc : ByteArray) (es : Array Event),(∀ j x,l[j]? = some x → w.cell? (a.add j) = some (.int .u8 x.toNat)) →
  ∀ ev ∈ (loadBytes a acc l.length).events P w es,ev ∈ es ∨ ∃ ad,ev.loc = .cell ad ∧ ad.block = a.block
 | [],a,acc,es,_ => fun ev h => .inl (by simpa [loadBytes] using h)
 | x :: l,a,acc,es,h => fun ev hev => by
  have h0 : w.cell? a = some (.int .u8 x.toNat) := by
   have := h 0 x rfl
   simpa [Addr.add] using this
  have hx : ((x.toNat : Int).toNat).toUInt8 = x := by simp
  simp only [List.length_cons,loadBytes,Sem.events_bind,run_load,h0,Result.evThen_ok] at hev
  rcases events_loadBytes w l (a.add 1) _ _ (fun j y hy => by rw [add_one_add]; exact h (j + 1) y (by simpa using hy)) ev hev with z | ⟨ad,z1,z2⟩
  ·
   rcases events_load_at (P := P) w a .plain es h0 ev z with y | ⟨y,_⟩
   ·
    exact .inl y
   ·
    exact .inr ⟨a,y,rfl⟩
  ·
   exact .inr ⟨ad,z1,by rw [z2,addBlock]⟩
theorem zh6 (w : World) (pt it ty e : TypeId) (hp : P.underlying pt = some (.pointer e)) (hc : P.cellsOf e = 1) (g cells : Nat) (hsh : w.shape? g = some (e,cells)) (l : List UInt8) (h0 : l ≠ []) (hn : l.length ≤ cells) (h63 : l.length ≤ 9223372036854775807)
  (hcell : ∀ j x,l[j]? = some x → w.cell? ((⟨g,0,none⟩ : Addr).add j) = some (.int .u8 x.toNat)) :
  ∀ ev ∈ (Builtin.unsafeString_ #[pt,it] ty #[.pointer (some ⟨g,0,none⟩), .int .i64 l.length]).events P w #[], ∃ ad,ev.loc = .cell ad ∧ ad.block = g := by
 have hl : l.length ≠ 0 := by simpa using h0
 have hlb := Lib.run_loadBytes (P := P) w l ⟨g,0,none⟩ .empty hcell
 have hlies := Lib.liesAt_bytes (P := P) hc (cells / P.cellsOf e) l.length (by rw [hc]; simpa using hn)
 have h63' : ¬ (9223372036854775807 : Int) < (l.length : Int) := by omega
 obtain ⟨t1,t2,t3,hdef⟩ : ∃ t1 t2 t3 : String,Builtin.unsafeString_ #[pt,it] ty #[.pointer (some ⟨g,0,none⟩), .int .i64 l.length] =
   (do
    let n ← asInt (.int .i64 l.length)
    if n < 0 then runtimePanic (.error t1)
    if n > IntKind.i64.max then unsupported (.unsafePointer t2)
    if n = 0 then pure (.string .empty)
    else if ← variablesAt ⟨g,0,none⟩ (← elemOf pt) n.toNat then do
     let s ← loadBytes ⟨g,0,none⟩ .empty n.toNat
     freeze ⟨g,0,none⟩ n.toNat
     pure (.string s)
    else unsupported (.unsafePointer t3)) := ⟨_,_,_,rfl⟩
 rw [hdef]
 have hmax : IntKind.i64.max = 9223372036854775807 := rfl
 have hneg : ¬ (l.length : Int) < 0 := by omega
 intro ev hev
 simp [asInt,asIntOf,hmax,h63',hneg,hl,variablesAt,hsh,elemOf,run_underlying hp,hlies,hlb] at hev
 rcases events_loadBytes (P := P) w l ⟨g,0,none⟩ .empty #[] hcell ev hev with z | z
 ·
  simp at z
 ·
  exact z
theorem freeze_ne (w : World) {b k n : Nat} (h : k ≠ b) : (w.freeze ⟨b,0,none⟩ n).heap[k]? = w.heap[k]? := by
 unfold World.freeze
 split
 ·
  rfl
 ·
  simp [Array.getElem?_modify,Ne.symm h]
theorem freeze_at (w : World) {b n : Nat} {cs : Array Value} {t : TypeId} {fz : Nat × Nat} (h : w.heap[b]? = some (.cells cs t fz)) : ∃ fz',(w.freeze ⟨b,0,none⟩ n).heap[b]? = some (.cells cs t fz') := by
 unfold World.freeze
 split
 ·
  exact ⟨_,h⟩
 ·
  simp [Array.getElem?_modify,h]
theorem Own.freeze {KT : TypeId → Prop} {M : World → Nat → Prop} {w : World} {b : Nat} {cs : Array Value} {t : TypeId} {fz : Nat × Nat} (hb : w.heap[b]? = some (.cells cs t fz)) (hm : M w b) (ht : ¬ KT t) (n : Nat) : Own KT M w (w.freeze ⟨b,0,none⟩ n) := by
 have hw : (w.freeze ⟨b,0,none⟩ n).tape = w.tape ∧ (w.freeze ⟨b,0,none⟩ n).os = w.os ∧ (w.freeze ⟨b,0,none⟩ n).output = w.output ∧ (w.freeze ⟨b,0,none⟩ n).heap.size = w.heap.size := by
  unfold World.freeze
  split <;> simp
 refine ⟨hw.1,hw.2.1,hw.2.2.1,by rw [hw.2.2.2]; exact Nat.le_refl _,fun k _ hk => freeze_ne w (fun e => hk (e ▸ hm)),fun k o' h hk => ?_⟩
 by_cases e : k = b
 ·
  subst e
  obtain ⟨fz2,h2⟩ := freeze_at w (n := n) hb
  rw [h2] at h
  cases h
  exact absurd hk ht
 ·
  exact freeze_ne w e
end
end
section
open Go.Conc
section
variable {ι : Type} {P : Program} {main : Bool} {R : ι → World → World → Prop} {D : ι → World → World → Array Event → Prop} {X : ι → Goroutine → World → Prop} {fn : FuncId} {Q : PostI ι} {a : Act} {w : World} {vs : ι}
theorem wpI_region_last2 (C : ClosedI P main R D X) (T : ∀ i,Terms (R i) (D i)) {id n : Nat} {ops : Array Oper} {S : World → Prop} {K : Act → World → Prop} (hd : LetsDraw (D vs)) (hm : P.follows .mixedOrders = true) (hn : ops.size = n + 2)
  (dn : Array Bool → Bool) (hdn0 : dn (Array.replicate (n + 2) false) = true)
  (hdn : ∀ listed : Array Bool,listed.size = n + 2 → listed[n]? = some false → listed[n + 1]? = some false → dn listed = true → ∀ i ∈ Region.ready .any ops ((listed.setIfInBounds n true).setIfInBounds (n + 1) true),dn (listed.setIfInBounds i true) = true)
  (hord : ∀ listed : Array Bool,listed.size = n + 2 → listed[n]? = some false → listed[n + 1]? = some false → dn listed = true → Region.ready .any ops listed = if Region.ready .any ops ((listed.setIfInBounds n true).setIfInBounds (n + 1) true) = [] then [n] else Region.ready .any ops ((listed.setIfInBounds n true).setIfInBounds (n + 1) true))
  (hord2 : ∀ listed : Array Bool,listed.size = n + 2 → listed[n]? = some false → listed[n + 1]? = some false → dn listed = true → Region.ready .any ops ((listed.setIfInBounds n true).setIfInBounds (n + 1) true) = [] → Region.ready .any ops (listed.setIfInBounds n true) = [n + 1])
  (h : ∀ w₁,R vs w w₁ → AnyCH P (R vs) (D vs) fn .any ops (fun e a' w' => e = .normal ∧ K a' w') S n (((Array.replicate (n + 2) false).setIfInBounds n true).setIfInBounds (n + 1) true) a { w₁ with drawn := w₁.drawn + 1 })
  (hlast : ∀ a' w',K a' w' → OpsI X fn ops [n,n + 1] vs Q a' w') : wpI X fn (.region id ops true) vs Q a w := by
 have fin : ∀ (fuel t : Nat) (listed : Array Bool) (a : Act) (w : World),listed.size = n + 2 → listed[n]? = some false → listed[n + 1]? = some false → dn listed = true → Region.ready .any ops ((listed.setIfInBounds n true).setIfInBounds (n + 1) true) = [] → K a w →
   OpsI X fn ops (Region.linearise.go .any ops (fuel + 2) t listed []) vs Q a w := by
  intro fuel t listed a w hs hl hl1 hdl he hK
  have hr : Region.ready .any ops listed = [n] := by rw [hord listed hs hl hl1 hdl,if_pos he]
  have hr2 := hord2 listed hs hl hl1 hdl he
  rw [go_cons (i := n) (by rw [hr]; simp [Nat.mod_one]),go_cons (i := n + 1) (by rw [hr2]; simp [Nat.mod_one]),go_nil he]
  exact hlast a w hK
 have key : ∀ (fuel t : Nat) (listed : Array Bool) (a : Act) (w : World),listed.size = n + 2 → listed[n]? = some false → listed[n + 1]? = some false → dn listed = true → AnyCH P (R vs) (D vs) fn .any ops (fun e a' w' => e = .normal ∧ K a' w') S fuel ((listed.setIfInBounds n true).setIfInBounds (n + 1) true) a w →
   OpsI X fn ops (Region.linearise.go .any ops (fuel + 2) t listed []) vs Q a w := by
  intro fuel
  induction fuel with
  | zero => intro t listed a w hs hl hl1 hdl hA; exact fin 0 t listed a w hs hl hl1 hdl hA.1 hA.2.2
  | succ fuel ih =>
   intro t listed a w hs hl hl1 hdl hA
   by_cases he : Region.ready .any ops ((listed.setIfInBounds n true).setIfInBounds (n + 1) true) = []
   ·
    exact fin (fuel + 1) t listed a w hs hl hl1 hdl he (hA.1 he).2
   ·
    have hr : Region.ready .any ops listed = Region.ready .any ops ((listed.setIfInBounds n true).setIfInBounds (n + 1) true) := by rw [hord listed hs hl hl1 hdl,if_neg he]
    have hpos : 0 < (Region.ready .any ops listed).length := by
     rw [hr]; exact List.length_pos_iff.2 he
    obtain ⟨i,hi⟩ : ∃ i,(Region.ready .any ops listed)[t % (Region.ready .any ops listed).length]? = some i := ⟨_,List.getElem?_eq_getElem (Nat.mod_lt _ hpos)⟩
    have hmem : i ∈ Region.ready .any ops ((listed.setIfInBounds n true).setIfInBounds (n + 1) true) := by rw [← hr]; exact List.mem_of_getElem? hi
    have h0 := (mem_ready.1 hmem).1
    have hin1 : i ≠ n + 1 := by
     rintro rfl
     rw [Array.getD_eq_getD_getElem?,Array.getElem?_setIfInBounds_self_of_lt (by simp; omega)] at h0
     simp at h0
    have hin : i ≠ n := by
     rintro rfl
     rw [Array.getD_eq_getD_getElem?,Array.getElem?_setIfInBounds_ne (by omega),Array.getElem?_setIfInBounds_self_of_lt (by omega)] at h0
     simp at h0
    rw [go_cons hi]
    refine opsI_of_opC C T (OpC_mono (fun a' w' x => ih _ _ a' w' (by simpa using hs) (by rw [Array.getElem?_setIfInBounds_ne hin]; exact hl) (by rw [Array.getElem?_setIfInBounds_ne hin1]; exact hl1) (hdn listed hs hl hl1 hdl i hmem) ?_) (hA.2 i hmem))
    rw [Array.setIfInBounds_comm _ _ hin,Array.setIfInBounds_comm _ _ hin1]
    exact x.2
 intro b k cs hb hk hc
 refine C.step rfl fun w₁ h₁ => ?_
 rw [stepG_region_draw]
 refine ⟨hd _,?_⟩
 simp only [Region.schedule,hm,Bool.true_or,if_true]
 have hk' := key n (w₁.tape w₁.drawn (.order b.fn id)) (Array.replicate (n + 2) false) a { w₁ with drawn := w₁.drawn + 1 } (by simp) (by simp) (by simp) hdn0 (h w₁ h₁) b k cs hb hk hc
 have e : Region.linearise .any ops (w₁.tape w₁.drawn (.order b.fn id)) = Region.linearise.go .any ops (n + 2) (w₁.tape w₁.drawn (.order b.fn id)) (Array.replicate (n + 2) false) [] := by
  unfold Region.linearise
  rw [hn]
 rw [e]
 exact hk'
end
end
end Go.Proofs.YtgcaionclkbehaaGreatDoor
