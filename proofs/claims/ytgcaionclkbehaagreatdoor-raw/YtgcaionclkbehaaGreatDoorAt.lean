import Derived.Test.YtgcaionclkbehaaGreatDoorRecv
set_option linter.all false
set_option maxRecDepth 100000
set_option maxHeartbeats 2000000
namespace Go.Proofs.YtgcaionclkbehaaGreatDoor
open Tryz
open Go.Conc Go.RowKit
section
variable {N Pb : Nat} {Shun : Loc → Prop} {val : Value} {B : Nat} {Mine : Loc → Prop} {Ex : Nat → Prop} {w₀ w w₁ : World} {AnchW : Goroutine → World → Prop} {u v : Value} {tk rest : List Int} {en : Bool} {Rb : Nat}
variable [Go.ConcR.Payload] [Go.ConcX.Payload]
variable [Go.ConcX.Shy (Cfg.Wg (kcfg prog N Pb Shun val B Mine)) (Cfg.C (kcfg prog N Pb Shun val B Mine))]
def mOf (rest : List Int) (en : Bool) : Nat := rest.length + if en then 0 else 1
theorem drain_x {i : Ph} (Fi : Cfg.Fit (kcfg prog N Pb Shun val B Mine)) (all : List Int) (hall : tk ++ rest = all) (hn : all.length ≤ 1000000) (hF : HW (kcfg prog N Pb Shun val B Mine) Ex w₀ Rb v v tk en w) (hat : AtP rest en i) :
  CallsI prog (XM (kcfg prog N Pb Shun val B Mine) AnchW) 114 #[.pointer (some ⟨Rb,0,none⟩)] i w (fun i' _ w' => i' = .over ∧ ∃ v',HW (kcfg prog N Pb Shun val B Mine) Ex w₀ Rb v' v' all true w') := by
 have C : ClosedI prog true (RMd (kcfg prog N Pb Shun val B Mine)) (DMd (kcfg prog N Pb Shun val B Mine)) (XM (kcfg prog N Pb Shun val B Mine) AnchW) := XM.closed (K := (kcfg prog N Pb Shun val B Mine))
 have T := termsM (K := (kcfg prog N Pb Shun val B Mine))
 have evp : ∀ (w : World) (es : Array Event) (a : Addr) (m : Mode) (x : Option Addr),(store a (.pointer x) m).events prog w es = storedEv prog w es a (.pointer x) m := fun w es a m x => events_store prog w es a _ m rfl
 have evl : ∀ (w : World) (es : Array Event) (a : Addr) (m : Mode) (x : Option Addr) (l c : Nat),(store a (.slice x l c) m).events prog w es = storedEv prog w es a (.slice x l c) m := fun w es a m x l c => events_store prog w es a _ m rfl
 have evb : ∀ (w : World) (es : Array Event) (a : Addr) (m : Mode) (x : Bool),(store a (.bool x) m).events prog w es = storedEv prog w es a (.bool x) m := fun w es a m x => events_store prog w es a _ m rfl
 refine zc2 func114 (by rfl) rfl ?_
 simp only [ntmps114,List.size_toArray,List.length_cons,List.length_nil,Nat.reduceAdd,Nat.reduceSub,Array.replicate_succ,Array.replicate_zero,List.push_toArray,List.append_toArray,List.nil_append,List.cons_append]
 refine ze3 C T ?_
 refine wpI_loop C T (fun m i a w => ∃ v tk rest en,m = mOf rest en ∧ AtP rest en i ∧ HW (kcfg prog N Pb Shun val B Mine) Ex w₀ Rb v v tk en w ∧ tk ++ rest = all ∧ ∃ x2 x3 x4 x5 x6 x7 x8,a = ⟨#[.pointer (some ⟨Rb,0,none⟩),undef,x2,x3,x4,x5,x6,x7,x8], []⟩) (mOf rest en) ⟨v,tk,rest,en,rfl,hat,hF,hall,_,_,_,_,_,_,_,rfl⟩ ?_
 clear hF hat hall
 rintro m i a w ⟨v,tk,rest,en,rfl,hat,hF,hall,x2,x3,x4,x5,x6,x7,x8,rfl⟩
 have E : Env KTs (N + 9) (mineM (kcfg prog N Pb Shun val B Mine)) (outM (kcfg prog N Pb Shun val B Mine)) (RMd (kcfg prog N Pb Shun val B Mine) _) (DMd (kcfg prog N Pb Shun val B Mine) _) := envP (K := (kcfg prog N Pb Shun val B Mine)) Fi hat.early
 have htk : tk.length ≤ 1000000 := by rw [← hall] at hn; simp at hn; omega
 rcases hat with ⟨rfl,hi⟩ | ⟨rfl,rfl,rfl⟩
 ·
  refine za5 C T ?_
  refine za5 C T ?_
  refine za2 C T ?_
  simp only [szR,Nat.reduceAdd]
  refine za0 C rfl (by rfl) fun _ hR Kx hKx => ?_
  replace hF := HW.rely E hF hR
  clear hR
  go_simp
  try (unfold stored; go_simp)
  refine hKx _ _ ⟨?_,?_⟩
  ·
   co_quiet (T _)
  iterate 2
   clear hKx Kx
   try walk_nrm
   refine za0 C rfl (by rfl) fun _ hR Kx hKx => ?_
   replace hF := HW.rely E hF hR
   clear hR
   go_simp
   try (unfold stored; go_simp)
   refine hKx _ _ ⟨?_,?_⟩
   ·
    co_still (T _)
  clear hKx Kx
  try walk_nrm
  refine za0 C rfl (by rfl) fun _ hR Kx hKx => ?_
  replace hF := HW.rely E hF hR
  clear hR
  have hc := hF.cells
  go_simp
  try (unfold stored; go_simp)
  refine hKx _ _ ⟨?_,?_⟩
  ·
   refine zd2 E hF.size ?_
   co_evs (exact ze2 rfl hF.mr)
  clear hKx Kx
  try walk_nrm
  clear hc
  refine za0 C rfl (by rfl) fun _ hR Kx hKx => ?_
  replace hF := HW.rely E hF hR
  clear hR
  go_simp
  try (unfold stored; go_simp)
  refine hKx _ _ ⟨?_,?_⟩
  ·
   co_quiet (T _)
  clear hKx Kx
  try walk_nrm
  refine za3 C T ?_
  show wpI _ _ _ _ _ _ _
  refine zc0 C T (t := true) rfl ?_
  simp only [if_true,if_false,reduceIte,Bool.false_eq_true]
  refine ze0 C T ?_
  show wpI _ _ _ _ _ _ _
  refine ze3 C T ?_
  refine za2 C T ?_
  simp only [szR,Nat.reduceAdd]
  refine za0 C rfl (by rfl) fun _ hR Kx hKx => ?_
  replace hF := HW.rely E hF hR
  clear hR
  go_simp
  try (unfold stored; go_simp)
  refine hKx _ _ ⟨?_,?_⟩
  ·
   co_quiet (T _)
  clear hKx Kx
  try walk_nrm
  refine zd6 C T rfl (by rfl) rfl rfl (by simp [Act.eval]) rfl (receive_x Fi hF hi htk) ?_
  rintro _ _ _ (⟨r,l,v2,rfl,rfl,hF⟩ | ⟨rfl,rfl,hF⟩)
  ·
   refine za3 C T ?_
   exact ⟨mOf l false,by simp [mOf],v2,_,l,false,rfl, .inl ⟨rfl, .inr rfl⟩,hF,by rw [← hall]; simp,_,_,_,_,_,_,_,rfl⟩
  ·
   refine za3 C T ?_
   exact ⟨mOf [] true,by simp [mOf],v,_, [],true,rfl, .inr ⟨rfl,rfl,rfl⟩,hF,hall,_,_,_,_,_,_,_,rfl⟩
 ·
  refine za5 C T ?_
  refine za5 C T ?_
  refine za2 C T ?_
  simp only [szR,Nat.reduceAdd]
  refine za0 C rfl (by rfl) fun _ hR Kx hKx => ?_
  replace hF := HW.rely E hF hR
  clear hR
  go_simp
  try (unfold stored; go_simp)
  refine hKx _ _ ⟨?_,?_⟩
  ·
   co_quiet (T _)
  iterate 2
   clear hKx Kx
   try walk_nrm
   refine za0 C rfl (by rfl) fun _ hR Kx hKx => ?_
   replace hF := HW.rely E hF hR
   clear hR
   go_simp
   try (unfold stored; go_simp)
   refine hKx _ _ ⟨?_,?_⟩
   ·
    co_still (T _)
  clear hKx Kx
  try walk_nrm
  refine za0 C rfl (by rfl) fun _ hR Kx hKx => ?_
  replace hF := HW.rely E hF hR
  clear hR
  have hc := hF.cells
  go_simp
  try (unfold stored; go_simp)
  refine hKx _ _ ⟨?_,?_⟩
  ·
   refine zd2 E hF.size ?_
   co_evs (exact ze2 rfl hF.mr)
  clear hKx Kx
  try walk_nrm
  clear hc
  refine za0 C rfl (by rfl) fun _ hR Kx hKx => ?_
  replace hF := HW.rely E hF hR
  clear hR
  go_simp
  try (unfold stored; go_simp)
  refine hKx _ _ ⟨?_,?_⟩
  ·
   co_quiet (T _)
  clear hKx Kx
  try walk_nrm
  refine za3 C T ?_
  show wpI _ _ _ _ _ _ _
  refine zc0 C T (t := false) rfl ?_
  simp only [if_true,if_false,reduceIte,Bool.false_eq_true]
  refine zl6 C T ?_
  simp only [zi4,thenI,if_true]
  rw [List.append_nil] at hall
  subst hall
  refine ⟨.inl ?_,?_,_,resultsC_none (by rfl) _,?_,_,hF⟩ <;> first | rfl | trivial
theorem at_x {i : Ph} (Fi : Cfg.Fit (kcfg prog N Pb Shun val B Mine)) (all : List Int) (place : Nat) (hall : tk ++ rest = all) (hn : all.length ≤ 1000000) (hF : HW (kcfg prog N Pb Shun val B Mine) Ex w₀ Rb v v tk en w) (hat : AtP rest en i) :
  CallsI prog (XM (kcfg prog N Pb Shun val B Mine) AnchW) 146 #[.pointer (some ⟨Rb,0,none⟩), .int .i64 (place : Int)] i w (fun i' x w' => x = .int .i32 (all[place]?.getD (-1)) ∧ ∃ v' tk' rest' en',tk' ++ rest' = all ∧ AtP rest' en' i' ∧ HW (kcfg prog N Pb Shun val B Mine) Ex w₀ Rb v' v' tk' en' w') := by
 have C : ClosedI prog true (RMd (kcfg prog N Pb Shun val B Mine)) (DMd (kcfg prog N Pb Shun val B Mine)) (XM (kcfg prog N Pb Shun val B Mine) AnchW) := XM.closed (K := (kcfg prog N Pb Shun val B Mine))
 have T := termsM (K := (kcfg prog N Pb Shun val B Mine))
 have evp : ∀ (w : World) (es : Array Event) (a : Addr) (m : Mode) (x : Option Addr),(store a (.pointer x) m).events prog w es = storedEv prog w es a (.pointer x) m := fun w es a m x => events_store prog w es a _ m rfl
 have evl : ∀ (w : World) (es : Array Event) (a : Addr) (m : Mode) (x : Option Addr) (l c : Nat),(store a (.slice x l c) m).events prog w es = storedEv prog w es a (.slice x l c) m := fun w es a m x l c => events_store prog w es a _ m rfl
 have evb : ∀ (w : World) (es : Array Event) (a : Addr) (m : Mode) (x : Bool),(store a (.bool x) m).events prog w es = storedEv prog w es a (.bool x) m := fun w es a m x => events_store prog w es a _ m rfl
 have lns : ∀ x n c w es,(Builtin.len_ #[173] 3 #[.slice x n c]).events prog w es = es := fun x n c w es => by simp [Builtin.len_,go_sem]
 have E : Env KTs (N + 9) (mineM (kcfg prog N Pb Shun val B Mine)) (outM (kcfg prog N Pb Shun val B Mine)) (RMd (kcfg prog N Pb Shun val B Mine) i) (DMd (kcfg prog N Pb Shun val B Mine) i) := envP (K := (kcfg prog N Pb Shun val B Mine)) Fi hat.early
 refine zc2 func146 (by rfl) rfl ?_
 simp only [ntmps146,List.size_toArray,List.length_cons,List.length_nil,Nat.reduceAdd,Nat.reduceSub,Array.replicate_succ,Array.replicate_zero,List.push_toArray,List.append_toArray,List.nil_append,List.cons_append]
 refine za5 C T ?_
 refine za2 C T ?_
 simp only [szR,Nat.reduceAdd]
 refine za0 C rfl (by rfl) fun _ hR Kx hKx => ?_
 replace hF := HW.rely E hF hR
 clear hR
 go_simp
 try (unfold stored; go_simp)
 refine hKx _ _ ⟨?_,?_⟩
 ·
  co_quiet (T _)
 clear hKx Kx
 try walk_nrm
 refine za3 C T ?_
 show wpI _ _ _ _ _ _ _
 refine za5 C T ?_
 refine ze3 C T ?_
 clear E
 refine wpI_loop C T (fun m i a w => ∃ v tk rest en,m = mOf rest en ∧ AtP rest en i ∧ HW (kcfg prog N Pb Shun val B Mine) Ex w₀ Rb v v tk en w ∧ tk ++ rest = all ∧ ∃ x5 x6 x7 x8 x9 x10 x11 x12 x13 x14 x15 x16 x17 x18 x19 x20,a = ⟨#[.pointer (some ⟨Rb,0,none⟩), .int .i64 (place : Int),undef,undef, .int .i32 0,x5,x6,x7,x8,x9,x10,x11,x12,x13,x14,x15,x16,x17,x18,x19,x20,undef,undef,undef,undef,undef,undef,undef,undef,undef,undef,undef,undef,undef,undef], []⟩) (mOf rest en) ⟨v,tk,rest,en,rfl,hat,hF,hall,_,_,_,_,_,_,_,_,_,_,_,_,_,_,_,_,rfl⟩ ?_
 clear hF hat hall
 rintro m i a w ⟨v,tk,rest,en,rfl,hat,hF,hall,x5,x6,x7,x8,x9,x10,x11,x12,x13,x14,x15,x16,x17,x18,x19,x20,rfl⟩
 have E : Env KTs (N + 9) (mineM (kcfg prog N Pb Shun val B Mine)) (outM (kcfg prog N Pb Shun val B Mine)) (RMd (kcfg prog N Pb Shun val B Mine) _) (DMd (kcfg prog N Pb Shun val B Mine) _) := envP (K := (kcfg prog N Pb Shun val B Mine)) Fi hat.early
 have htk : tk.length ≤ 1000000 := by rw [← hall] at hn; simp at hn; omega
 obtain ⟨x1,c1,rfl⟩ := hF.slice
 by_cases hpl : place < tk.length
 ·
  have hb : decide ((tk.length : Int) ≤ (place : Int)) = false := decide_eq_false (by omega)
  have hb2 : decide (tk.length ≤ place) = false := decide_eq_false (by omega)
  iterate 2
   refine za5 C T ?_
  refine za2 C T ?_
  simp only [szR,Nat.reduceAdd]
  iterate 2
   refine za0 C rfl (by rfl) fun _ hR Kx hKx => ?_
   replace hF := HW.rely E hF hR
   clear hR
   go_simp
   try (unfold stored; go_simp)
   refine hKx _ _ ⟨?_,?_⟩
   ·
    co_quiet (T _)
   clear hKx Kx
   try walk_nrm
  iterate 2
   refine za0 C rfl (by rfl) fun _ hR Kx hKx => ?_
   replace hF := HW.rely E hF hR
   clear hR
   go_simp
   try (unfold stored; go_simp)
   refine hKx _ _ ⟨?_,?_⟩
   ·
    co_still (T _)
   clear hKx Kx
   try walk_nrm
  refine za0 C rfl (by rfl) fun _ hR Kx hKx => ?_
  replace hF := HW.rely E hF hR
  clear hR
  have hc := hF.cells
  go_simp
  try (unfold stored; go_simp)
  refine hKx _ _ ⟨?_,?_⟩
  ·
   refine zd2 E hF.size ?_
   co_evs (exact ze2 rfl hF.mr)
  clear hKx Kx
  try walk_nrm
  clear hc
  refine za0 C rfl (by rfl) fun _ hR Kx hKx => ?_
  replace hF := HW.rely E hF hR
  clear hR
  go_simp
  try (unfold stored; go_simp)
  refine hKx _ _ ⟨?_,?_⟩
  ·
   co_still (T _)
  clear hKx Kx
  try walk_nrm
  refine za0 C rfl (by rfl) fun _ hR Kx hKx => ?_
  replace hF := HW.rely E hF hR
  clear hR
  go_simp
  try (unfold stored; go_simp)
  refine hKx _ _ ⟨?_,?_⟩
  ·
   co_quiet (T _)
  clear hKx Kx
  try walk_nrm
  try simp only [hb,hb2]
  refine za0 C rfl (by rfl) fun _ hR Kx hKx => ?_
  replace hF := HW.rely E hF hR
  clear hR
  go_simp
  try (unfold stored; go_simp)
  refine hKx _ _ ⟨?_,?_⟩
  ·
   co_quiet (T _)
  clear hKx Kx
  iterate 5
   try walk_nrm
   refine zb7 C T rfl (by rfl) ?_
  try walk_nrm
  refine za0 C rfl (by rfl) fun _ hR Kx hKx => ?_
  replace hF := HW.rely E hF hR
  clear hR
  go_simp
  try (unfold stored; go_simp)
  refine hKx _ _ ⟨?_,?_⟩
  ·
   co_quiet (T _)
  clear hKx Kx
  try walk_nrm
  refine za3 C T ?_
  show wpI _ _ _ _ _ _ _
  refine zc0 C T (t := false) rfl ?_
  simp only [if_true,if_false,reduceIte,Bool.false_eq_true]
  refine zl6 C T ?_
  simp only [zi4,thenI,if_true]
  show wpI _ _ _ _ _ _ _
  iterate 2
   refine za5 C T ?_
  refine za2 C T ?_
  simp only [szR,Nat.reduceAdd]
  iterate 2
   refine za0 C rfl (by rfl) fun _ hR Kx hKx => ?_
   replace hF := HW.rely E hF hR
   clear hR
   go_simp
   try (unfold stored; go_simp)
   refine hKx _ _ ⟨?_,?_⟩
   ·
    co_quiet (T _)
   clear hKx Kx
   try walk_nrm
  iterate 2
   refine za0 C rfl (by rfl) fun _ hR Kx hKx => ?_
   replace hF := HW.rely E hF hR
   clear hR
   go_simp
   try (unfold stored; go_simp)
   refine hKx _ _ ⟨?_,?_⟩
   ·
    co_still (T _)
   clear hKx Kx
   try walk_nrm
  refine za0 C rfl (by rfl) fun _ hR Kx hKx => ?_
  replace hF := HW.rely E hF hR
  clear hR
  have hc := hF.cells
  go_simp
  try (unfold stored; go_simp)
  refine hKx _ _ ⟨?_,?_⟩
  ·
   refine zd2 E hF.size ?_
   co_evs (exact ze2 rfl hF.mr)
  clear hKx Kx
  try walk_nrm
  clear hc
  refine za0 C rfl (by rfl) fun _ hR Kx hKx => ?_
  replace hF := HW.rely E hF hR
  clear hR
  go_simp
  try (unfold stored; go_simp)
  refine hKx _ _ ⟨?_,?_⟩
  ·
   co_still (T _)
  clear hKx Kx
  try walk_nrm
  refine za0 C rfl (by rfl) fun _ hR Kx hKx => ?_
  replace hF := HW.rely E hF hR
  clear hR
  go_simp
  try (unfold stored; go_simp)
  refine hKx _ _ ⟨?_,?_⟩
  ·
   co_quiet (T _)
  clear hKx Kx
  try walk_nrm
  refine za3 C T ?_
  show wpI _ _ _ _ _ _ _
  try simp only [hb,hb2]
  refine zc0 C T (t := false) rfl ?_
  simp only [if_true,if_false,reduceIte,Bool.false_eq_true]
  refine ze0 C T ?_
  show wpI _ _ _ _ _ _ _
  refine za5 C T ?_
  obtain ⟨g,rfl⟩ : ∃ g,x1 = some ⟨g,0,none⟩ := by
   rcases hF.ro.row.2 with ⟨_,z⟩ | ⟨g,cap,cur,z,_⟩
   ·
    omega
   ·
    cases z; exact ⟨g,rfl⟩
  have hcell : ∀ w,HW (kcfg prog N Pb Shun val B Mine) Ex w₀ Rb (.slice (some ⟨g,0,none⟩) tk.length c1) (.slice (some ⟨g,0,none⟩) tk.length c1) tk en w → w.cell? ⟨g,place,none⟩ = some (.int .i32 (all[place]?.getD (-1))) := fun w h => (by rw [show (⟨g,place,none⟩ : Addr) = (⟨g,0,none⟩ : Addr).add place by unfold Addr.add; split <;> simp_all]; exact h.ro.row.cells (g := g) rfl place _ (by rw [← hall,List.getElem?_append_left hpl]; simp [V,List.getElem?_map,List.getElem?_eq_getElem hpl]))
  refine za2 C T ?_
  simp only [szR,Nat.reduceAdd]
  refine za0 C rfl (by rfl) fun _ hR Kx hKx => ?_
  replace hF := HW.rely E hF hR
  clear hR
  go_simp
  try (unfold stored; go_simp)
  refine hKx _ _ ⟨?_,?_⟩
  ·
   co_quiet (T _)
  iterate 2
   clear hKx Kx
   try walk_nrm
   refine za0 C rfl (by rfl) fun _ hR Kx hKx => ?_
   replace hF := HW.rely E hF hR
   clear hR
   go_simp
   try (unfold stored; go_simp)
   refine hKx _ _ ⟨?_,?_⟩
   ·
    co_still (T _)
  clear hKx Kx
  try walk_nrm
  refine za0 C rfl (by rfl) fun _ hR Kx hKx => ?_
  replace hF := HW.rely E hF hR
  clear hR
  have hc := hF.cells
  go_simp
  try (unfold stored; go_simp)
  refine hKx _ _ ⟨?_,?_⟩
  ·
   refine zd2 E hF.size ?_
   co_evs (exact ze2 rfl hF.mr)
  clear hKx Kx
  try walk_nrm
  clear hc
  refine za0 C rfl (by rfl) fun _ hR Kx hKx => ?_
  replace hF := HW.rely E hF hR
  clear hR
  go_simp
  try (unfold stored; go_simp)
  refine hKx _ _ ⟨?_,?_⟩
  ·
   co_quiet (T _)
  clear hKx Kx
  try walk_nrm
  refine za0 C rfl (by rfl) fun _ hR Kx hKx => ?_
  replace hF := HW.rely E hF hR
  clear hR
  go_simp
  try (unfold stored; go_simp)
  refine hKx _ _ ⟨?_,?_⟩
  ·
   co_still (T _)
  clear hKx Kx
  try walk_nrm
  refine za0 C rfl (by rfl) fun _ hR Kx hKx => ?_
  replace hF := HW.rely E hF hR
  clear hR
  have hc := hcell _ hF
  go_simp
  try (unfold stored; go_simp)
  refine hKx _ _ ⟨?_,?_⟩
  ·
   refine zd2 E hF.size ?_
   co_evs (exact ze2 rfl (hF.ro.own _ rfl).1)
  clear hKx Kx
  try walk_nrm
  clear hc
  refine za0 C rfl (by rfl) fun _ hR Kx hKx => ?_
  replace hF := HW.rely E hF hR
  clear hR
  go_simp
  try (unfold stored; go_simp)
  refine hKx _ _ ⟨?_,?_⟩
  ·
   co_quiet (T _)
  clear hKx Kx
  try walk_nrm
  refine za3 C T ?_
  show wpI _ _ _ _ _ _ _
  refine zc3 C T ?_
  exact ⟨.inr rfl,rfl,_,resultsC_tmp (by rfl) _,rfl,_,_,_,_,hall,hat,hF⟩
 ·
  have hb : decide ((tk.length : Int) ≤ (place : Int)) = true := decide_eq_true (by omega)
  have hb2 : decide (tk.length ≤ place) = true := decide_eq_true (by omega)
  rcases hat with ⟨rfl,hi⟩ | ⟨rfl,rfl,rfl⟩
  ·
   refine za5 C T ?_
   refine za5 C T ?_
   refine za2 C T ?_
   simp only [szR,Nat.reduceAdd]
   iterate 2
    refine za0 C rfl (by rfl) fun _ hR Kx hKx => ?_
    replace hF := HW.rely E hF hR
    clear hR
    go_simp
    try (unfold stored; go_simp)
    refine hKx _ _ ⟨?_,?_⟩
    ·
     co_quiet (T _)
    clear hKx Kx
    try walk_nrm
   iterate 2
    refine za0 C rfl (by rfl) fun _ hR Kx hKx => ?_
    replace hF := HW.rely E hF hR
    clear hR
    go_simp
    try (unfold stored; go_simp)
    refine hKx _ _ ⟨?_,?_⟩
    ·
     co_still (T _)
    clear hKx Kx
    try walk_nrm
   refine za0 C rfl (by rfl) fun _ hR Kx hKx => ?_
   replace hF := HW.rely E hF hR
   clear hR
   have hc := hF.cells
   go_simp
   try (unfold stored; go_simp)
   refine hKx _ _ ⟨?_,?_⟩
   ·
    refine zd2 E hF.size ?_
    co_evs (exact ze2 rfl hF.mr)
   clear hKx Kx
   try walk_nrm
   clear hc
   refine za0 C rfl (by rfl) fun _ hR Kx hKx => ?_
   replace hF := HW.rely E hF hR
   clear hR
   go_simp
   try (unfold stored; go_simp)
   refine hKx _ _ ⟨?_,?_⟩
   ·
    co_still (T _)
   clear hKx Kx
   try walk_nrm
   refine za0 C rfl (by rfl) fun _ hR Kx hKx => ?_
   replace hF := HW.rely E hF hR
   clear hR
   go_simp
   try (unfold stored; go_simp)
   refine hKx _ _ ⟨?_,?_⟩
   ·
    co_quiet (T _)
   clear hKx Kx
   try walk_nrm
   try simp only [hb,hb2]
   iterate 2
    refine za0 C rfl (by rfl) fun _ hR Kx hKx => ?_
    replace hF := HW.rely E hF hR
    clear hR
    go_simp
    try (unfold stored; go_simp)
    refine hKx _ _ ⟨?_,?_⟩
    ·
     co_quiet (T _)
    clear hKx Kx
    try walk_nrm
   iterate 2
    refine za0 C rfl (by rfl) fun _ hR Kx hKx => ?_
    replace hF := HW.rely E hF hR
    clear hR
    go_simp
    try (unfold stored; go_simp)
    refine hKx _ _ ⟨?_,?_⟩
    ·
     co_still (T _)
    clear hKx Kx
    try walk_nrm
   refine za0 C rfl (by rfl) fun _ hR Kx hKx => ?_
   replace hF := HW.rely E hF hR
   clear hR
   have hc := hF.cells
   go_simp
   try (unfold stored; go_simp)
   refine hKx _ _ ⟨?_,?_⟩
   ·
    refine zd2 E hF.size ?_
    co_evs (exact ze2 rfl hF.mr)
   clear hKx Kx
   try walk_nrm
   clear hc
   iterate 2
    refine za0 C rfl (by rfl) fun _ hR Kx hKx => ?_
    replace hF := HW.rely E hF hR
    clear hR
    go_simp
    try (unfold stored; go_simp)
    refine hKx _ _ ⟨?_,?_⟩
    ·
     co_quiet (T _)
    clear hKx Kx
    try walk_nrm
   refine za3 C T ?_
   show wpI _ _ _ _ _ _ _
   refine zc0 C T (t := true) rfl ?_
   simp only [if_true,if_false,reduceIte,Bool.false_eq_true]
   refine ze0 C T ?_
   show wpI _ _ _ _ _ _ _
   refine ze3 C T ?_
   refine za2 C T ?_
   simp only [szR,Nat.reduceAdd]
   refine za0 C rfl (by rfl) fun _ hR Kx hKx => ?_
   replace hF := HW.rely E hF hR
   clear hR
   go_simp
   try (unfold stored; go_simp)
   refine hKx _ _ ⟨?_,?_⟩
   ·
    co_quiet (T _)
   clear hKx Kx
   try walk_nrm
   refine zd6 C T rfl (by rfl) rfl rfl (by simp [Act.eval]) rfl (receive_x Fi hF hi htk) ?_
   rintro _ _ _ (⟨r,l,v2,rfl,rfl,hF⟩ | ⟨rfl,rfl,hF⟩)
   ·
    refine za3 C T ?_
    exact ⟨mOf l false,by simp [mOf],v2,_,l,false,rfl, .inl ⟨rfl, .inr rfl⟩,hF,by rw [← hall]; simp,_,_,_,_,_,_,_,_,_,_,_,_,_,_,_,_,rfl⟩
   ·
    refine za3 C T ?_
    exact ⟨mOf [] true,by simp [mOf],_,_, [],true,rfl, .inr ⟨rfl,rfl,rfl⟩,hF,hall,_,_,_,_,_,_,_,_,_,_,_,_,_,_,_,_,rfl⟩
  ·
   have hat : AtP [] true .over := .inr ⟨rfl,rfl,rfl⟩
   iterate 2
    refine za5 C T ?_
   refine za2 C T ?_
   simp only [szR,Nat.reduceAdd]
   iterate 2
    refine za0 C rfl (by rfl) fun _ hR Kx hKx => ?_
    replace hF := HW.rely E hF hR
    clear hR
    go_simp
    try (unfold stored; go_simp)
    refine hKx _ _ ⟨?_,?_⟩
    ·
     co_quiet (T _)
    clear hKx Kx
    try walk_nrm
   iterate 2
    refine za0 C rfl (by rfl) fun _ hR Kx hKx => ?_
    replace hF := HW.rely E hF hR
    clear hR
    go_simp
    try (unfold stored; go_simp)
    refine hKx _ _ ⟨?_,?_⟩
    ·
     co_still (T _)
    clear hKx Kx
    try walk_nrm
   refine za0 C rfl (by rfl) fun _ hR Kx hKx => ?_
   replace hF := HW.rely E hF hR
   clear hR
   have hc := hF.cells
   go_simp
   try (unfold stored; go_simp)
   refine hKx _ _ ⟨?_,?_⟩
   ·
    refine zd2 E hF.size ?_
    co_evs (exact ze2 rfl hF.mr)
   clear hKx Kx
   try walk_nrm
   clear hc
   refine za0 C rfl (by rfl) fun _ hR Kx hKx => ?_
   replace hF := HW.rely E hF hR
   clear hR
   go_simp
   try (unfold stored; go_simp)
   refine hKx _ _ ⟨?_,?_⟩
   ·
    co_still (T _)
   clear hKx Kx
   try walk_nrm
   refine za0 C rfl (by rfl) fun _ hR Kx hKx => ?_
   replace hF := HW.rely E hF hR
   clear hR
   go_simp
   try (unfold stored; go_simp)
   refine hKx _ _ ⟨?_,?_⟩
   ·
    co_quiet (T _)
   clear hKx Kx
   try walk_nrm
   try simp only [hb,hb2]
   iterate 2
    refine za0 C rfl (by rfl) fun _ hR Kx hKx => ?_
    replace hF := HW.rely E hF hR
    clear hR
    go_simp
    try (unfold stored; go_simp)
    refine hKx _ _ ⟨?_,?_⟩
    ·
     co_quiet (T _)
    clear hKx Kx
    try walk_nrm
   iterate 2
    refine za0 C rfl (by rfl) fun _ hR Kx hKx => ?_
    replace hF := HW.rely E hF hR
    clear hR
    go_simp
    try (unfold stored; go_simp)
    refine hKx _ _ ⟨?_,?_⟩
    ·
     co_still (T _)
    clear hKx Kx
    try walk_nrm
   refine za0 C rfl (by rfl) fun _ hR Kx hKx => ?_
   replace hF := HW.rely E hF hR
   clear hR
   have hc := hF.cells
   go_simp
   try (unfold stored; go_simp)
   refine hKx _ _ ⟨?_,?_⟩
   ·
    refine zd2 E hF.size ?_
    co_evs (exact ze2 rfl hF.mr)
   clear hKx Kx
   try walk_nrm
   clear hc
   iterate 2
    refine za0 C rfl (by rfl) fun _ hR Kx hKx => ?_
    replace hF := HW.rely E hF hR
    clear hR
    go_simp
    try (unfold stored; go_simp)
    refine hKx _ _ ⟨?_,?_⟩
    ·
     co_quiet (T _)
    clear hKx Kx
    try walk_nrm
   refine za3 C T ?_
   show wpI _ _ _ _ _ _ _
   refine zc0 C T (t := false) rfl ?_
   simp only [if_true,if_false,reduceIte,Bool.false_eq_true]
   refine zl6 C T ?_
   simp only [zi4,thenI,if_true]
   show wpI _ _ _ _ _ _ _
   iterate 2
    refine za5 C T ?_
   refine za2 C T ?_
   simp only [szR,Nat.reduceAdd]
   iterate 2
    refine za0 C rfl (by rfl) fun _ hR Kx hKx => ?_
    replace hF := HW.rely E hF hR
    clear hR
    go_simp
    try (unfold stored; go_simp)
    refine hKx _ _ ⟨?_,?_⟩
    ·
     co_quiet (T _)
    clear hKx Kx
    try walk_nrm
   iterate 2
    refine za0 C rfl (by rfl) fun _ hR Kx hKx => ?_
    replace hF := HW.rely E hF hR
    clear hR
    go_simp
    try (unfold stored; go_simp)
    refine hKx _ _ ⟨?_,?_⟩
    ·
     co_still (T _)
    clear hKx Kx
    try walk_nrm
   refine za0 C rfl (by rfl) fun _ hR Kx hKx => ?_
   replace hF := HW.rely E hF hR
   clear hR
   have hc := hF.cells
   go_simp
   try (unfold stored; go_simp)
   refine hKx _ _ ⟨?_,?_⟩
   ·
    refine zd2 E hF.size ?_
    co_evs (exact ze2 rfl hF.mr)
   clear hKx Kx
   try walk_nrm
   clear hc
   refine za0 C rfl (by rfl) fun _ hR Kx hKx => ?_
   replace hF := HW.rely E hF hR
   clear hR
   go_simp
   try (unfold stored; go_simp)
   refine hKx _ _ ⟨?_,?_⟩
   ·
    co_still (T _)
   clear hKx Kx
   try walk_nrm
   refine za0 C rfl (by rfl) fun _ hR Kx hKx => ?_
   replace hF := HW.rely E hF hR
   clear hR
   go_simp
   try (unfold stored; go_simp)
   refine hKx _ _ ⟨?_,?_⟩
   ·
    co_quiet (T _)
   clear hKx Kx
   try walk_nrm
   refine za3 C T ?_
   show wpI _ _ _ _ _ _ _
   try simp only [hb,hb2]
   refine zc0 C T (t := true) rfl ?_
   simp only [if_true,if_false,reduceIte,Bool.false_eq_true]
   refine za5 C T ?_
   refine za2 C T ?_
   simp only [szR,Nat.reduceAdd]
   refine za0 C rfl (by rfl) fun _ hR Kx hKx => ?_
   replace hF := HW.rely E hF hR
   clear hR
   go_simp
   try (unfold stored; go_simp)
   refine hKx _ _ ⟨?_,?_⟩
   ·
    co_quiet (T _)
   clear hKx Kx
   try walk_nrm
   refine za3 C T ?_
   show wpI _ _ _ _ _ _ _
   refine zc3 C T ?_
   have hlen := hpl
   refine ⟨.inr rfl,rfl,_,resultsC_tmp (by rfl) _,?_,_,_,_,_,hall,hat,hF⟩
   rw [← hall,List.getElem?_eq_none (by simp; omega)]
   rfl
end
end Go.Proofs.YtgcaionclkbehaaGreatDoor
