import Derived.Test.YtgcaionclkbehaaGreatDoorAt
set_option linter.all false
set_option maxRecDepth 100000
set_option maxHeartbeats 2000000
namespace Go.Proofs.YtgcaionclkbehaaGreatDoor
open Tryz
open Go.Conc Go.RowKit
def cellsOf (l : List Int) : List Value := l.flatMap Lib.runeCells
def zf4 (l : List Int) : List UInt8 := l.flatMap Lib.encodeRune
theorem cellsOf_utf8 (l : List Int) : cellsOf l = Lib.byteCells (zf4 l) := by
 induction l with
 | nil => rfl
 | cons r l ih =>
  have e : cellsOf (r :: l) = Lib.runeCells r ++ cellsOf l := rfl
  have e2 : zf4 (r :: l) = Lib.encodeRune r ++ zf4 l := rfl
  rw [e,e2,ih, ← Lib.byteCells_encodeRune]
  simp [Lib.byteCells]
theorem utf8Of_length (l : List Int) : (zf4 l).length ≤ 4 * l.length := by
 induction l with
 | nil => simp [zf4]
 | cons r l ih =>
  have e2 : zf4 (r :: l) = Lib.encodeRune r ++ zf4 l := rfl
  have h := (Lib.runeCells_le r).2
  rw [Lib.runeCells_length] at h
  rw [e2,List.length_append,List.length_cons]
  omega
section
variable {N Pb : Nat} {Shun : Loc → Prop} {val : Value} {B : Nat} {Mine : Loc → Prop} {Ex : Nat → Prop} {w₀ w w₁ : World} {AnchW : Goroutine → World → Prop} {u v : Value} {tk rest : List Int} {en : Bool} {Rb : Nat}
variable {M : World → Nat → Prop} {O : Nat → Prop} {N0 : Nat} {Ex' : Nat → Prop} {Bb : Nat} {p : Value} {n : Nat} {xs : List Value} {w' : World}
theorem HM.over {KT : TypeId → Prop} {R : World → World → Prop} {D : World → World → Array Event → Prop} (E : Env KT N0 M O R D) (h : HM M O N0 Ex w₀ Bb p u v n xs w) (k : Kept M O Ex' w w') (hB : ¬ Ex' Bb) (hv : ∀ k,v.ownBlock = some k → ¬ Ex' k) (hx : ∀ b,Ex' b → Ex b ∨ w₀.heap.size ≤ b) : HM M O N0 Ex w₀ Bb p u v n xs w' :=
 ⟨(k.block Bb h.mb hB).trans h.bd,k.mine _ h.mb,h.exb,h.ro.same fun j hj => ⟨k.block j (h.ro.own j hj).1 (hv j hj),k.mine _ (h.ro.own j hj).1⟩,Nat.le_trans h.size k.grow,h.old.trans E k hx⟩
theorem HM.rebase (h : HM M O N0 Ex w₀ Bb p u v n xs w) : HM M O N0 (exR Bb v) w Bb p u v n xs w := ⟨h.bd,h.mb, .inl (.inl rfl),⟨h.ro.row,fun k hk => ⟨(h.ro.own k hk).1, .inl (.inr hk)⟩,h.ro.nil⟩,h.size,Kept.refl w⟩
theorem HM.exs (h : HM M O N0 Ex w₀ Bb p u v n xs w) (b : Nat) (hb : exR Bb v b) : Ex b ∨ w₀.heap.size ≤ b := by
 rcases hb with rfl | z
 ·
  exact h.exb
 ·
  exact (h.ro.own b z).2
theorem HM.back {KT : TypeId → Prop} {R : World → World → Prop} {D : World → World → Array Event → Prop} (E : Env KT N0 M O R D) {p' u' v' : Value} {n' : Nat} {xs' : List Value} (h : HM M O N0 Ex w₀ Bb p u v n xs w) (h' : HM M O N0 (exR Bb v) w Bb p' u' v' n' xs' w') : HM M O N0 Ex w₀ Bb p' u' v' n' xs' w' := by
 have hx : ∀ b,exR Bb v b ∨ w.heap.size ≤ b → Ex b ∨ w₀.heap.size ≤ b := by
  rintro b (z | z)
  ·
   exact h.exs b z
  ·
   exact .inr (Nat.le_trans h.old.grow z)
 exact ⟨h'.bd,h'.mb,h.exb,⟨h'.ro.row,fun k hk => ⟨(h'.ro.own k hk).1,hx k (h'.ro.own k hk).2⟩,h'.ro.nil⟩,h'.size,h.old.trans E h'.old fun b hb => hx b (.inl hb)⟩
theorem HW.exs {K : Cfg} (h : HW K Ex w₀ Rb u v tk en w) (b : Nat) (hb : exR Rb v b) : Ex b ∨ w₀.heap.size ≤ b := by
 rcases hb with rfl | z
 ·
  exact h.exr
 ·
  exact (h.ro.own b z).2
theorem HW.over {K : Cfg} (F : K.Fit) (h : HW K Ex w₀ Rb u v tk en w) (k : Kept (mineM K) (outM K) Ex' w w') (hB : ¬ Ex' Rb) (hv : ∀ k,v.ownBlock = some k → ¬ Ex' k) (hx : ∀ b,Ex' b → Ex b ∨ w₀.heap.size ≤ b) : HW K Ex w₀ Rb u v tk en w' :=
 ⟨(k.block Rb h.mr hB).trans h.rb,k.mine _ h.mr,h.exr,h.ro.same fun j hj => ⟨k.block j (h.ro.own j hj).1 (hv j hj),k.mine _ (h.ro.own j hj).1⟩,Nat.le_trans h.size k.grow,h.old.trans (envM F) k hx⟩
theorem apart {K : Cfg} {y z x : Value} (hW : HW K Ex w₀ Rb u v tk en w) (hM : HM (mineM K) (outM K) N0 Ex' w₁ Bb x y z n xs w) : (¬ exR Rb v Bb ∧ ∀ k,z.ownBlock = some k → ¬ exR Rb v k) ∧ (¬ exR Bb z Rb ∧ ∀ k,v.ownBlock = some k → ¬ exR Bb z k) := by
 have h1 : Bb ≠ Rb := by
  rintro rfl
  have := hM.bd.symm.trans hW.rb
  simp at this
 refine ⟨⟨?_,fun k hk => ?_⟩,⟨?_,fun k hk => ?_⟩⟩
 ·
  rintro (e | e)
  ·
   exact h1 e
  ·
   exact hW.ro.ne hM.bd (by decide) e rfl
 ·
  rintro (e | e)
  ·
   exact hM.ro.ne hW.rb (by decide) hk e
  ·
   obtain ⟨_,c1⟩ := hM.ro.type hk
   obtain ⟨_,c2⟩ := hW.ro.type e
   rw [c1] at c2
   simp at c2
 ·
  rintro (e | e)
  ·
   exact h1 e.symm
  ·
   exact hM.ro.ne hW.rb (by decide) e rfl
 ·
  rintro (e | e)
  ·
   exact hW.ro.ne hM.bd (by decide) hk e
  ·
   obtain ⟨_,c1⟩ := hM.ro.type e
   obtain ⟨_,c2⟩ := hW.ro.type hk
   rw [c1] at c2
   simp at c2
variable [Go.ConcR.Payload] [Go.ConcX.Payload]
variable [Go.ConcX.Shy (Cfg.Wg (kcfg prog N Pb Shun val B Mine)) (Cfg.C (kcfg prog N Pb Shun val B Mine))]
structure HT (K : Cfg) (Ex : Nat → Prop) (w₀ : World) (Rb Bb : Nat) (v p z : Value) (tk : List Int) (en : Bool) (xs : List Value) (w : World) : Prop where
 hw : HW K Ex w₀ Rb v v tk en w
 hm : HM (mineM K) (outM K) K.N0 Ex w₀ Bb p z z xs.length xs w
theorem HT.rely {i : Ph} {z : Value} (E : Env KTs (N + 9) (mineM (kcfg prog N Pb Shun val B Mine)) (outM (kcfg prog N Pb Shun val B Mine)) (RMd (kcfg prog N Pb Shun val B Mine) i) (DMd (kcfg prog N Pb Shun val B Mine) i)) (h : HT (kcfg prog N Pb Shun val B Mine) Ex w₀ Rb Bb v p z tk en xs w) (r : RMd (kcfg prog N Pb Shun val B Mine) i w w₁) : HT (kcfg prog N Pb Shun val B Mine) Ex w₀ Rb Bb v p z tk en xs w₁ := ⟨h.hw.rely E r,HM.rely (i := i) (R := RMd (kcfg prog N Pb Shun val B Mine)) (D := DMd (kcfg prog N Pb Shun val B Mine)) E h.hm r⟩
theorem HT.row {v' z : Value} {tk' : List Int} {en' : Bool} (F : Cfg.Fit (kcfg prog N Pb Shun val B Mine)) (h : HT (kcfg prog N Pb Shun val B Mine) Ex w₀ Rb Bb v p z tk en xs w) (h' : HW (kcfg prog N Pb Shun val B Mine) (exR Rb v) w Rb v' v' tk' en' w') : HT (kcfg prog N Pb Shun val B Mine) Ex w₀ Rb Bb v' p z tk' en' xs w' := ⟨h.hw.back F h',h.hm.over (envM F) h'.old (apart h.hw h.hm).1.1 (apart h.hw h.hm).1.2 h.hw.exs⟩
theorem HT.wrote {p' z z' : Value} {n' : Nat} {xs' : List Value} (F : Cfg.Fit (kcfg prog N Pb Shun val B Mine)) (hn : n' = xs'.length) (h : HT (kcfg prog N Pb Shun val B Mine) Ex w₀ Rb Bb v p z tk en xs w) (h' : HM (mineM (kcfg prog N Pb Shun val B Mine)) (outM (kcfg prog N Pb Shun val B Mine)) (N + 9) (exR Bb z) w Bb p' z' z' n' xs' w') : HT (kcfg prog N Pb Shun val B Mine) Ex w₀ Rb Bb v p' z' tk en xs' w' := ⟨h.hw.over F h'.old (apart h.hw h.hm).2.1 (apart h.hw h.hm).2.2 h.hm.exs,by subst hn; exact h.hm.back (envM F) h'⟩
theorem HT.start (F : Cfg.Fit (kcfg prog N Pb Shun val B Mine)) (h : HW (kcfg prog N Pb Shun val B Mine) Ex w₀ Rb v v tk en w) : HT (kcfg prog N Pb Shun val B Mine) Ex w₀ Rb w.heap.size v (.pointer none) (.slice none 0 0) tk en [] (w.alloc (.cells #[.pointer none, .slice none 0 0] 119)) := by
 have E := envM F
 have o : Own KTs (mineM (kcfg prog N Pb Shun val B Mine)) w (w.alloc (.cells #[.pointer none, .slice none 0 0] 119)) := Own.alloc (by simp [KTs])
 have hs : (w.alloc (.cells #[.pointer none, .slice none 0 0] 119)).heap.size = w.heap.size + 1 := by simp [World.size_alloc]
 have hk : Kept (mineM (kcfg prog N Pb Shun val B Mine)) (outM (kcfg prog N Pb Shun val B Mine)) Ex w₀ (w.alloc (.cells #[.pointer none, .slice none 0 0] 119)) := h.old.own E o fun b hb _ => Below.heap_alloc _ _ _ (E.lt (h.old.mine b hb))
 refine ⟨⟨(Below.heap_alloc _ _ _ (E.lt h.mr)).trans h.rb,E.mine o h.mr,h.exr,h.ro.same fun k hk => ⟨Below.heap_alloc _ _ _ (E.lt (h.ro.own k hk).1),E.mine o (h.ro.own k hk).1⟩,by rw [hs]; have := h.size; omega,hk⟩,heap_alloc_new w _,E.new h.size o (Nat.le_refl _) (by omega), .inr h.old.grow,RowO.none _ _ _ _ _,by rw [hs]; have : N + 9 ≤ w.heap.size := h.size; show N + 9 ≤ _; omega,hk⟩
theorem text_x {i : Ph} (Fi : Cfg.Fit (kcfg prog N Pb Shun val B Mine)) (all : List Int) (fr to : Nat) (hto : to ≤ 1000000) (hall : tk ++ rest = all) (hg : ∀ r ∈ all,Good r) (hn : 4 * all.length ≤ 1000000) (hF : HW (kcfg prog N Pb Shun val B Mine) Ex w₀ Rb v v tk en w) (hat : AtP rest en i) :
  CallsI prog (XM (kcfg prog N Pb Shun val B Mine) AnchW) 92 #[.pointer (some ⟨Rb,0,none⟩), .int .i64 (fr : Int), .int .i64 (to : Int)] i w (fun i' x w' => x = .string ⟨(zf4 ((all.drop fr).take (to - fr))).toArray⟩ ∧ ∃ v' tk' rest' en',tk' ++ rest' = all ∧ AtP rest' en' i' ∧ HW (kcfg prog N Pb Shun val B Mine) Ex w₀ Rb v' v' tk' en' w') := by
 have C : ClosedI prog true (RMd (kcfg prog N Pb Shun val B Mine)) (DMd (kcfg prog N Pb Shun val B Mine)) (XM (kcfg prog N Pb Shun val B Mine) AnchW) := XM.closed (K := (kcfg prog N Pb Shun val B Mine))
 have T := termsM (K := (kcfg prog N Pb Shun val B Mine))
 have evp : ∀ (w : World) (es : Array Event) (a : Addr) (m : Mode) (x : Option Addr),(store a (.pointer x) m).events prog w es = storedEv prog w es a (.pointer x) m := fun w es a m x => events_store prog w es a _ m rfl
 have evl : ∀ (w : World) (es : Array Event) (a : Addr) (m : Mode) (x : Option Addr) (l c : Nat),(store a (.slice x l c) m).events prog w es = storedEv prog w es a (.slice x l c) m := fun w es a m x l c => events_store prog w es a _ m rfl
 have evb : ∀ (w : World) (es : Array Event) (a : Addr) (m : Mode) (x : Bool),(store a (.bool x) m).events prog w es = storedEv prog w es a (.bool x) m := fun w es a m x => events_store prog w es a _ m rfl
 have E : Env KTs (N + 9) (mineM (kcfg prog N Pb Shun val B Mine)) (outM (kcfg prog N Pb Shun val B Mine)) (RMd (kcfg prog N Pb Shun val B Mine) i) (DMd (kcfg prog N Pb Shun val B Mine) i) := envP (K := (kcfg prog N Pb Shun val B Mine)) Fi hat.early
 have al1 := fun w => zi1 (w := w) Tryz.zeroValue119
 have ae1 := fun w es => zf3 (w := w) Tryz.zeroValue119 es
 have hna : all.length ≤ 1000000 := by omega
 refine zc2 func92 (by rfl) rfl ?_
 simp only [ntmps92,List.size_toArray,List.length_cons,List.length_nil,Nat.reduceAdd,Nat.reduceSub,Array.replicate_succ,Array.replicate_zero,List.push_toArray,List.append_toArray,List.nil_append,List.cons_append]
 refine za5 C T ?_
 refine za2 C T ?_
 simp only [szR,Nat.reduceAdd]
 refine za0 C rfl (by rfl) fun _ hR Kx hKx => ?_
 replace hF := HW.rely E hF hR
 clear hR
 go_simp
 try (unfold stored; go_simp)
 refine hKx _ _ ⟨?_,?_⟩
 ·
  co_quiet (T _)
 clear hKx Kx
 try walk_nrm
 refine za3 C T ?_
 show wpI _ _ _ _ _ _ _
 refine za5 C T ?_
 refine za2 C T ?_
 simp only [szR,Nat.reduceAdd]
 refine za0 C rfl (by rfl) fun _ hR Kx hKx => ?_
 replace hF := HW.rely E hF hR
 clear hR
 go_simp
 try (unfold stored; go_simp)
 refine hKx _ _ ⟨?_,?_⟩
 ·
  refine dm_own E hF.size (Own.alloc (by simp [KTs])) ?_
  co_evs (skip)
 clear hKx Kx
 try walk_nrm
 replace hF := HT.start Fi hF
 refine za3 C T ?_
 show wpI _ _ _ _ _ _ _
 iterate 2
  refine za5 C T ?_
 refine za2 C T ?_
 simp only [szR,Nat.reduceAdd]
 iterate 2
  refine za0 C rfl (by rfl) fun _ hR Kx hKx => ?_
  replace hF := HT.rely E hF hR
  clear hR
  go_simp
  try (unfold stored; go_simp)
  refine hKx _ _ ⟨?_,?_⟩
  ·
   co_quiet (T _)
  clear hKx Kx
  try walk_nrm
 refine za3 C T ?_
 show wpI _ _ _ _ _ _ _
 refine ze3 C T ?_
 clear E
 refine wpI_loop C T (fun m i a w => ∃ Bb, ∃ k v p z tk rest en,m = to - (fr + k) ∧ AtP rest en i ∧ HT (kcfg prog N Pb Shun val B Mine) Ex w₀ Rb Bb v p z tk en (cellsOf ((all.drop fr).take k)) w ∧ (p = .pointer none ∨ p = .pointer (some ⟨Bb,0,none⟩)) ∧ tk ++ rest = all ∧ (k = 0 ∨ (fr + k ≤ to ∧ fr + k ≤ all.length)) ∧ ∃ x9 x10 x11 x12 x13 x14 x15 x16 x17 x18 x19 x20 x21 x22 x23 x24,a = ⟨#[.pointer (some ⟨Rb,0,none⟩), .int .i64 (fr : Int), .int .i64 (to : Int),undef,undef,undef, .string ⟨#[]⟩, .pointer (some ⟨Bb,0,none⟩), .int .i64 ((fr + k : Nat) : Int),x9,x10,x11,x12,x13,x14,x15,x16,x17,x18,x19,x20,x21,x22,x23,x24,undef], []⟩) (to - fr) ⟨_,0,v,_,_,tk,rest,en,rfl,hat,hF, .inl rfl,hall, .inl rfl,_,_,_,_,_,_,_,_,_,_,_,_,_,_,_,_,rfl⟩ ?_
 clear hF hat hall
 rintro m i a w ⟨Bb,k,v,p,z,tk,rest,en,rfl,hat,hF,hp,hall,hk,x9,x10,x11,x12,x13,x14,x15,x16,x17,x18,x19,x20,x21,x22,x23,x24,rfl⟩
 have E : Env KTs (N + 9) (mineM (kcfg prog N Pb Shun val B Mine)) (outM (kcfg prog N Pb Shun val B Mine)) (RMd (kcfg prog N Pb Shun val B Mine) _) (DMd (kcfg prog N Pb Shun val B Mine) _) := envP (K := (kcfg prog N Pb Shun val B Mine)) Fi hat.early
 by_cases hpl : fr + k < to
 ·
  have hb : decide (((fr + k : Nat) : Int) < (to : Int)) = true := decide_eq_true (by omega)
  have hb2 : decide (fr + k < to) = true := decide_eq_true (by omega)
  have hb3 : decide ((fr : Int) + (k : Int) < (to : Int)) = true := decide_eq_true (by omega)
  iterate 2
   refine za5 C T ?_
  refine za2 C T ?_
  simp only [szR,Nat.reduceAdd]
  iterate 3
   refine za0 C rfl (by rfl) fun _ hR Kx hKx => ?_
   replace hF := HT.rely E hF hR
   clear hR
   go_simp
   try (unfold stored; go_simp)
   refine hKx _ _ ⟨?_,?_⟩
   ·
    co_quiet (T _)
   clear hKx Kx
   try walk_nrm
  try simp only [hb,hb2,hb3]
  iterate 3
   refine za0 C rfl (by rfl) fun _ hR Kx hKx => ?_
   replace hF := HT.rely E hF hR
   clear hR
   go_simp
   try (unfold stored; go_simp)
   refine hKx _ _ ⟨?_,?_⟩
   ·
    co_quiet (T _)
   clear hKx Kx
   try walk_nrm
  refine zd6 C T rfl (by rfl) rfl rfl (by simp [Act.eval]) rfl (at_x Fi all (fr + k) hall hna hF.hw.rebase hat) ?_
  rintro i2 _ w2 ⟨rfl,v2,tk2,rest2,en2,hall2,hat2,hW⟩
  replace hF := hF.row Fi hW
  clear hW hat hall E
  have hat := hat2
  have hall := hall2
  clear hat2 hall2
  have E : Env KTs (N + 9) (mineM (kcfg prog N Pb Shun val B Mine)) (outM (kcfg prog N Pb Shun val B Mine)) (RMd (kcfg prog N Pb Shun val B Mine) _) (DMd (kcfg prog N Pb Shun val B Mine) _) := envP (K := (kcfg prog N Pb Shun val B Mine)) Fi hat.early
  try walk_nrm
  cases hr : all[fr + k]? with
  | none =>
   have hrr : all[fr + k]?.getD (-1) = -1 := by rw [hr]; rfl
   try simp only [hrr,Option.getD_none,Option.getD_some]
   iterate 2
    refine za0 C rfl (by rfl) fun _ hR Kx hKx => ?_
    replace hF := HT.rely E hF hR
    clear hR
    go_simp
    try (unfold stored; go_simp)
    refine hKx _ _ ⟨?_,?_⟩
    ·
     co_quiet (T _)
    clear hKx Kx
    try walk_nrm
   refine za3 C T ?_
   show wpI _ _ _ _ _ _ _
   refine zc0 C T (t := false) rfl ?_
   simp only [if_true,if_false,reduceIte,Bool.false_eq_true]
   refine zl6 C T ?_
   simp only [zi4,thenI,if_true]
   show wpI _ _ _ _ _ _ _
   have hkk : (all.drop fr).take (to - fr) = (all.drop fr).take k := by
    have h1 := List.getElem?_eq_none_iff.1 hr
    rw [List.take_of_length_le (by simp; omega),List.take_of_length_le (by simp; omega)]
   refine za5 C T ?_
   refine za2 C T ?_
   simp only [szR,Nat.reduceAdd]
   have hu := utf8Of_length ((all.drop fr).take k)
   have hkl : ((all.drop fr).take k).length ≤ all.length := by simp; omega
   have hm := hF.hm.rebase
   rw [cellsOf_utf8,show (Lib.byteCells (zf4 ((all.drop fr).take k))).length = (zf4 ((all.drop fr).take k)).length by simp [Lib.byteCells]] at hm
   refine zd6 C T rfl (by rfl) rfl rfl (by simp [Act.eval]) rfl (string_x _ C T E hm (by omega)) ?_
   rintro _ _ _ ⟨rfl,rfl,hsz,hK⟩
   replace hF := hF.hw.over Fi hK (apart hF.hw hF.hm).2.1 (apart hF.hw hF.hm).2.2 hF.hm.exs
   clear hm hK hsz
   refine za0 C rfl (by rfl) fun _ hR Kx hKx => ?_
   replace hF := HW.rely E hF hR
   clear hR
   go_simp
   try (unfold stored; go_simp)
   refine hKx _ _ ⟨?_,?_⟩
   ·
    co_quiet (T _)
   clear hKx Kx
   try walk_nrm
   refine za3 C T ?_
   show wpI _ _ _ _ _ _ _
   refine zc3 C T ?_
   exact ⟨.inr rfl,rfl,_,resultsC_tmp (by rfl) _,by rw [hkk]; rfl,_,_,_,_,hall,hat,hF⟩
  | some r =>
   have hgr : Good r := hg r (List.mem_of_getElem? hr)
   have hne : (r != -1) = true := bne_iff_ne.2 (by rcases hgr with h | h <;> omega)
   have hrr : all[fr + k]?.getD (-1) = r := by rw [hr]; rfl
   try simp only [hrr,Option.getD_none,Option.getD_some]
   refine za0 C rfl (by rfl) fun _ hR Kx hKx => ?_
   replace hF := HT.rely E hF hR
   clear hR
   go_simp
   try (unfold stored; go_simp)
   refine hKx _ _ ⟨?_,?_⟩
   ·
    co_quiet (T _)
   clear hKx Kx
   try walk_nrm
   try simp only [hne]
   refine za0 C rfl (by rfl) fun _ hR Kx hKx => ?_
   replace hF := HT.rely E hF hR
   clear hR
   go_simp
   try (unfold stored; go_simp)
   refine hKx _ _ ⟨?_,?_⟩
   ·
    co_quiet (T _)
   clear hKx Kx
   try walk_nrm
   refine za3 C T ?_
   show wpI _ _ _ _ _ _ _
   refine zc0 C T (t := true) rfl ?_
   simp only [if_true,if_false,reduceIte,Bool.false_eq_true]
   refine ze0 C T ?_
   show wpI _ _ _ _ _ _ _
   refine za5 C T ?_
   refine ze3 C T ?_
   refine za2 C T ?_
   simp only [szR,Nat.reduceAdd]
   iterate 2
    refine za0 C rfl (by rfl) fun _ hR Kx hKx => ?_
    replace hF := HT.rely E hF hR
    clear hR
    go_simp
    try (unfold stored; go_simp)
    refine hKx _ _ ⟨?_,?_⟩
    ·
     co_quiet (T _)
    clear hKx Kx
    try walk_nrm
   refine zd6 C T rfl (by rfl) rfl rfl (by simp [Act.eval]) rfl (at_x Fi all (fr + k) hall hna hF.hw.rebase hat) ?_
   rintro i2 _ w2 ⟨rfl,v2,tk2,rest2,en2,hall2,hat2,hW⟩
   replace hF := hF.row Fi hW
   clear hW hat hall E
   have hat := hat2
   have hall := hall2
   clear hat2 hall2
   have E : Env KTs (N + 9) (mineM (kcfg prog N Pb Shun val B Mine)) (outM (kcfg prog N Pb Shun val B Mine)) (RMd (kcfg prog N Pb Shun val B Mine) _) (DMd (kcfg prog N Pb Shun val B Mine) _) := envP (K := (kcfg prog N Pb Shun val B Mine)) Fi hat.early
   try walk_nrm
   try simp only [hrr,Option.getD_none,Option.getD_some]
   have htl : (all.drop fr).take (k + 1) = (all.drop fr).take k ++ [r] := by rw [List.take_add_one,List.getElem?_drop,hr]; rfl
   have hcl : cellsOf ((all.drop fr).take (k + 1)) = cellsOf ((all.drop fr).take k) ++ Lib.runeCells r := by rw [htl]; simp [cellsOf]
   have hle : (cellsOf ((all.drop fr).take k)).length ≤ 1000000 := by
    rw [cellsOf_utf8]
    have := utf8Of_length ((all.drop fr).take k)
    have : ((all.drop fr).take k).length ≤ all.length := by simp; omega
    simp [Lib.byteCells]; omega
   refine zd6 C T rfl (by rfl) rfl rfl (by simp [Act.eval]) rfl (writeRune_x C T E hF.hm.rebase hp hgr hle) ?_
   rintro _ _ w3 ⟨rfl,z2,hM⟩
   replace hF := hF.wrote Fi (by simp) hM
   rw [← hcl] at hF
   clear hM
   refine za3 C T ?_
   show wpI _ _ _ _ _ _ _
   refine za2 C T ?_
   simp only [szR,Nat.reduceAdd]
   iterate 3
    refine za0 C rfl (by rfl) fun _ hR Kx hKx => ?_
    replace hF := HT.rely E hF hR
    clear hR
    go_simp
    try (unfold stored; go_simp)
    refine hKx _ _ ⟨?_,?_⟩
    ·
     co_quiet (T _)
    clear hKx Kx
    try walk_nrm
   refine za3 C T ?_
   have hwr : IntKind.i64.wrap (((fr + k : Nat) : Int) + 1) = ((fr + (k + 1) : Nat) : Int) := by rw [IntKind.wrap_i64]; omega
   have hwr2 : IntKind.i64.wrap ((fr : Int) + (k : Int) + 1) = ((fr + (k + 1) : Nat) : Int) := by rw [IntKind.wrap_i64]; omega
   try simp only [hwr,hwr2]
   have hlt := (List.getElem?_eq_some_iff.1 hr).1
   exact ⟨to - (fr + (k + 1)),by omega,Bb,k + 1,_,_,_,_,_,_,rfl,hat,hF, .inr rfl,hall, .inr ⟨by omega,by omega⟩,_,_,_,_,_,_,_,_,_,_,_,_,_,_,_,_,rfl⟩
 ·
  have hb : decide (((fr + k : Nat) : Int) < (to : Int)) = false := decide_eq_false (by omega)
  have hb2 : decide (fr + k < to) = false := decide_eq_false (by omega)
  have hb3 : decide ((fr : Int) + (k : Int) < (to : Int)) = false := decide_eq_false (by omega)
  iterate 2
   refine za5 C T ?_
  refine za2 C T ?_
  simp only [szR,Nat.reduceAdd]
  iterate 3
   refine za0 C rfl (by rfl) fun _ hR Kx hKx => ?_
   replace hF := HT.rely E hF hR
   clear hR
   go_simp
   try (unfold stored; go_simp)
   refine hKx _ _ ⟨?_,?_⟩
   ·
    co_quiet (T _)
   clear hKx Kx
   try walk_nrm
  try simp only [hb,hb2,hb3]
  refine za0 C rfl (by rfl) fun _ hR Kx hKx => ?_
  replace hF := HT.rely E hF hR
  clear hR
  go_simp
  try (unfold stored; go_simp)
  refine hKx _ _ ⟨?_,?_⟩
  ·
   co_quiet (T _)
  clear hKx Kx
  iterate 4
   try walk_nrm
   refine zb7 C T rfl (by rfl) ?_
  try walk_nrm
  refine za0 C rfl (by rfl) fun _ hR Kx hKx => ?_
  replace hF := HT.rely E hF hR
  clear hR
  go_simp
  try (unfold stored; go_simp)
  refine hKx _ _ ⟨?_,?_⟩
  ·
   co_quiet (T _)
  clear hKx Kx
  try walk_nrm
  refine za3 C T ?_
  show wpI _ _ _ _ _ _ _
  refine zc0 C T (t := false) rfl ?_
  simp only [if_true,if_false,reduceIte,Bool.false_eq_true]
  refine zl6 C T ?_
  simp only [zi4,thenI,if_true]
  show wpI _ _ _ _ _ _ _
  have hkk : (all.drop fr).take (to - fr) = (all.drop fr).take k := by
   rcases hk with rfl | ⟨h1,h2⟩
   ·
    rw [show to - fr = 0 by omega]
   ·
    rw [show to - fr = k by omega]
  refine za5 C T ?_
  refine za2 C T ?_
  simp only [szR,Nat.reduceAdd]
  have hu := utf8Of_length ((all.drop fr).take k)
  have hkl : ((all.drop fr).take k).length ≤ all.length := by simp; omega
  have hm := hF.hm.rebase
  rw [cellsOf_utf8,show (Lib.byteCells (zf4 ((all.drop fr).take k))).length = (zf4 ((all.drop fr).take k)).length by simp [Lib.byteCells]] at hm
  refine zd6 C T rfl (by rfl) rfl rfl (by simp [Act.eval]) rfl (string_x _ C T E hm (by omega)) ?_
  rintro _ _ _ ⟨rfl,rfl,hsz,hK⟩
  replace hF := hF.hw.over Fi hK (apart hF.hw hF.hm).2.1 (apart hF.hw hF.hm).2.2 hF.hm.exs
  clear hm hK hsz
  refine za0 C rfl (by rfl) fun _ hR Kx hKx => ?_
  replace hF := HW.rely E hF hR
  clear hR
  go_simp
  try (unfold stored; go_simp)
  refine hKx _ _ ⟨?_,?_⟩
  ·
   co_quiet (T _)
  clear hKx Kx
  try walk_nrm
  refine za3 C T ?_
  show wpI _ _ _ _ _ _ _
  refine zc3 C T ?_
  exact ⟨.inr rfl,rfl,_,resultsC_tmp (by rfl) _,by rw [hkk]; rfl,_,_,_,_,hall,hat,hF⟩
end
end Go.Proofs.YtgcaionclkbehaaGreatDoor
