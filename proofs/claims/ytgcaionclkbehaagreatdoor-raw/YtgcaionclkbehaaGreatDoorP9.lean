import Derived.Test.YtgcaionclkbehaaGreatDoorE13
set_option linter.all false
set_option maxRecDepth 100000
set_option maxHeartbeats 2000000
namespace Go.Proofs.YtgcaionclkbehaaGreatDoor
open Tryz
open Go.Conc Go.RowKit
def entL : List (ByteArray × Int × Bool) := [(⟨#[97,109,112]⟩,38,true),(⟨#[108,116]⟩,60,true),(⟨#[103,116]⟩,62,true),(⟨#[113,117,111,116]⟩,34,true),(⟨#[97,112,111,115]⟩,39,false),(⟨#[110,98,115,112]⟩,160,true),(⟨#[99,111,112,121]⟩,169,true),(⟨#[114,101,103]⟩,174,true),(⟨#[110,111,116]⟩,172,true),(⟨#[110,111,116,105,110]⟩,8713,false),(⟨#[101,97,99,117,116,101]⟩,233,true),(⟨#[101,117,109,108]⟩,235,true),(⟨#[101,117,114,111]⟩,8364,false),(⟨#[110,100,97,115,104]⟩,8211,false),(⟨#[109,100,97,115,104]⟩,8212,false),(⟨#[104,101,108,108,105,112]⟩,8230,false),(⟨#[108,97,114,114]⟩,8592,false),(⟨#[114,97,114,114]⟩,8594,false)]
def entV (x : ByteArray × Int × Bool) : List Value := [.string x.1, .int .i32 x.2.1, .bool x.2.2]
def entC : List Value := entL.flatMap entV
def cbL (s : ByteArray) (k : Int) : Bool := decide (k = 0) || s.toList.isEmpty || (!isLetterL (s[0]!).toNat && !isDigitL (s[0]!).toNat && (((s[0]!).toNat : Int) != 61))
theorem countsBareL_x (s : ByteArray) (k : Int) : PureI prog 372 #[.string s, .int .i64 k] (.bool (cbL s k)) := countsBare_x s k
def behind (s nm : ByteArray) : ByteArray := s.extract nm.size s.size
def byNL (s : ByteArray) (k : Int) : List (ByteArray × Int × Bool) → Int × Nat → Int × Nat
 | [],acc => acc
 | x :: t,acc => if zj1 s x.1 = true then (if zj1 (behind s x.1) ⟨#[59]⟩ = true then (x.2.1,x.1.size + 1) else if x.2.2 = true ∧ acc.2 < x.1.size ∧ cbL (behind s x.1) k = true then byNL s k t (x.2.1,x.1.size) else byNL s k t acc) else byNL s k t acc
theorem ix_run (cs : Array Value) (j : Nat) (hj : j < 18) (w : World) : (Instr.index 335 (.agg cs) (.int .i64 (j : Int))).run prog w = .ok (.agg (cs.extract (j * 3) (j * 3 + 3))) w := by
 have h1 : (j : Int) < 18 := by omega
 simp [Instr.index,asIntOf,Tryz.runUnderlying335,Tryz.sizeOf334,Tryz.isAgg334,hj,h1,part]
theorem ix_ev (cs : Array Value) (j : Nat) (hj : j < 18) (w : World) (es : Array Event) : (Instr.index 335 (.agg cs) (.int .i64 (j : Int))).events prog w es = es := by
 have h1 : (j : Int) < 18 := by omega
 simp [Instr.index,asIntOf,Tryz.runUnderlying335,Tryz.sizeOf334,Tryz.isAgg334,hj,h1,part]
theorem ent_at {j : Nat} (hj : j < 18) : ∃ x,entL.drop j = x :: entL.drop (j + 1) ∧ x.1.size ≤ 6 ∧ entC.toArray.extract (j * 3) (j * 3 + 3) = (entV x).toArray := by
 match j,hj with
 | 0,_ => exact ⟨_,rfl,by decide,rfl⟩
 | 1,_ => exact ⟨_,rfl,by decide,rfl⟩
 | 2,_ => exact ⟨_,rfl,by decide,rfl⟩
 | 3,_ => exact ⟨_,rfl,by decide,rfl⟩
 | 4,_ => exact ⟨_,rfl,by decide,rfl⟩
 | 5,_ => exact ⟨_,rfl,by decide,rfl⟩
 | 6,_ => exact ⟨_,rfl,by decide,rfl⟩
 | 7,_ => exact ⟨_,rfl,by decide,rfl⟩
 | 8,_ => exact ⟨_,rfl,by decide,rfl⟩
 | 9,_ => exact ⟨_,rfl,by decide,rfl⟩
 | 10,_ => exact ⟨_,rfl,by decide,rfl⟩
 | 11,_ => exact ⟨_,rfl,by decide,rfl⟩
 | 12,_ => exact ⟨_,rfl,by decide,rfl⟩
 | 13,_ => exact ⟨_,rfl,by decide,rfl⟩
 | 14,_ => exact ⟨_,rfl,by decide,rfl⟩
 | 15,_ => exact ⟨_,rfl,by decide,rfl⟩
 | 16,_ => exact ⟨_,rfl,by decide,rfl⟩
 | 17,_ => exact ⟨_,rfl,by decide,rfl⟩
 | n + 18,h => omega
section
variable {ι : Type} {R : ι → World → World → Prop} {D : ι → World → World → Array Event → Prop} {X : ι → Goroutine → World → Prop} {i : ι} {M : World → Nat → Prop} {O : Nat → Prop} {N0 : Nat} {Ex : Nat → Prop} {w₀ w w₁ : World}
def zl7 (s : ByteArray) (k : Int) : Int × Nat := byNL s k entL (38,0)
theorem byName_x (C : ClosedI prog true R D X) (T : ∀ i,Terms (R i) (D i)) (E : Env KTs N0 M O (R i) (D i)) (hs : N0 ≤ w.heap.size) (hG1 : M w 1) (hG2 : w.heap[1]? = some (.cells entC.toArray 335)) (s : ByteArray) (k : Int) (hsz : s.size ≤ 1000000) : CallsI prog X 333 #[.string s, .int .i64 k] i w (fun i' x w' => i' = i ∧ x = .tuple #[.int .i32 (zl7 s k).1, .int .i64 (zl7 s k).2] ∧ Kept M O (fun _ => False) w w' ∧ N0 ≤ w'.heap.size) := by
 have u9 := underlying9
 have hF : HL M O N0 (fun _ => False) w [] w := HL.start hs
 have al1 := fun w => zi1 (w := w) Tryz.zeroValue334
 have ae1 := fun w es => zf3 (w := w) Tryz.zeroValue334 es
 refine zc2 func333 (by rfl) rfl ?_
 simp only [ntmps333,List.size_toArray,List.length_cons,List.length_nil,Nat.reduceAdd,Nat.reduceSub,Array.replicate_succ,Array.replicate_zero,List.push_toArray,List.append_toArray,List.nil_append,List.cons_append]
 refine za5 C T ?_
 refine za2 C T ?_
 simp only [szR,Nat.reduceAdd]
 iterate 2
  refine za1 C T rfl (by rfl) fun _ Kx hKx => ?_
  go_simp
  refine hKx _ ?_ (by first | (simp [go_sem]; done) | (simp [go_sem, *]; done) | (simp [go_sem,za7,za8,za9,za6,ev_ix, *]; done))
  clear hKx Kx
  try walk_nrm
 refine za3 C T ?_
 show wpI _ _ _ _ _ _ _
 refine za5 C T ?_
 refine za2 C T ?_
 simp only [szR,Nat.reduceAdd]
 refine za1 C T rfl (by rfl) fun _ Kx hKx => ?_
 go_simp
 refine hKx _ ?_ (by first | (simp [go_sem]; done) | (simp [go_sem, *]; done) | (simp [go_sem,za7,za8,za9,za6,ev_ix, *]; done))
 clear hKx Kx
 try walk_nrm
 refine za3 C T ?_
 show wpI _ _ _ _ _ _ _
 iterate 2
  refine za5 C T ?_
 refine za2 C T ?_
 simp only [szR,Nat.reduceAdd]
 refine opsI_loadAgg (cs := entC) C E rfl (by rfl) rfl (by rfl) underlying335 rfl (by kernel_rfl) hF (fun w₁ h => ⟨h.kept.mine 1 hG1,rangeAt_of ((h.kept.block 1 hG1 id).trans hG2) (fun q v hv => by simpa using hv)⟩) fun _ hF => ?_
 try walk_nrm
 refine za1 C T rfl (by rfl) fun _ Kx hKx => ?_
 go_simp
 refine hKx _ ?_ (by first | (simp [go_sem]; done) | (simp [go_sem, *]; done) | (simp [go_sem,za7,za8,za9,za6,ev_ix, *]; done))
 clear hKx Kx
 try walk_nrm
 refine za3 C T ?_
 show wpI _ _ _ _ _ _ _
 refine ze3 C T ?_
 refine wpI_loop C T (fun m i' a' w' => ∃ (j : Nat) (lt : Int) (sz : Nat),i = i' ∧ HL M O N0 (fun _ => False) w [] w' ∧ j ≤ 18 ∧ m = 18 - j ∧ sz ≤ 6 ∧ byNL s k (entL.drop j) (lt,sz) = byNL s k entL (38,0) ∧ ∃ x : Nat → Value,a' = ⟨#[.string s, .int .i64 k,x 2,x 3, .int .i32 lt, .int .i64 (sz : Int),x 6,x 7,x 8,x 9, .agg entC.toArray, .int .i64 (j : Int),x 12,x 13,x 14,x 15,x 16,x 17,x 18,x 19,x 20,x 21,x 22,x 23,x 24,x 25,x 26,x 27,x 28,x 29,x 30,x 31,x 32,x 33,x 34,x 35,x 36,x 37,x 38,x 39,x 40,x 41,x 42,x 43,x 44,x 45,x 46,x 47,x 48,x 49,x 50,x 51,x 52,x 53,x 54,x 55], []⟩) (18) ⟨0,38,0,rfl,hF,by omega,rfl,by omega,rfl,fillT rfl⟩ ?_
 clear hF
 rintro m _ _ _ ⟨j,lt,sz,rfl,hF,hj,rfl,hsz6,hI,x,rfl⟩
 refine za5 C T ?_
 refine za2 C T ?_
 simp only [szR,Nat.reduceAdd]
 refine za1 C T rfl (by rfl) fun _ Kx hKx => ?_
 go_simp
 refine hKx _ ?_ (by first | (simp [go_sem]; done) | (simp [go_sem, *]; done) | (simp [go_sem,za7,za8,za9,za6,ev_ix, *]; done))
 clear hKx Kx
 try walk_nrm
 refine za3 C T ?_
 show wpI _ _ _ _ _ _ _
 refine za5 C T ?_
 refine zf9 C T rfl (fun hb => ?_) (fun hb => ?_)
 ·
  try simp only [hb]
  try simp only [bolL,beq_iff_eq,beq_eq_false_iff_ne,bne_iff_ne,bne_eq_false_iff_eq] at hb
  refine ze0 C T ?_
  show wpI _ _ _ _ _ _ _
  refine za5 C T ?_
  refine ze3 C T ?_
  refine za5 C T ?_
  refine za2 C T ?_
  simp only [szR,Nat.reduceAdd]
  have hj18 : j < 18 := by omega
  obtain ⟨⟨nm,l2,br⟩,hdr,hn6,hex⟩ := ent_at hj18
  replace hn6 : nm.size ≤ 6 := hn6
  have hix := fun w => ix_run entC.toArray j hj18 w
  have hixe := fun w es => ix_ev entC.toArray j hj18 w es
  simp only [hex] at hix
  refine za1 C T rfl (by rfl) fun _ Kx hKx => ?_
  go_simp
  refine hKx _ ?_ (by first | (simp [go_sem]; done) | (simp [go_sem, *]; done) | (simp [go_sem,za7,za8,za9,za6,ev_ix, *]; done))
  clear hKx Kx
  try walk_nrm
  clear hix hixe
  refine za0 C rfl (by rfl) fun w5 hR Kx hKx => ?_
  replace hF := HL.rely E hF hR
  clear hR
  go_simp
  refine hKx _ _ ⟨?_,?_⟩
  ·
   refine dm_own E hF.size (Own.alloc (by simp [KTs])) ?_
   co_evs (skip)
  clear hKx Kx
  try walk_nrm
  replace hF := hF.grown E (o := .cells #[.string ⟨#[]⟩, .int .i32 0, .bool false] 334) (Own.alloc (t := 334) (by simp [KTs]))
  generalize w5.heap.size = eb at hF ⊢
  refine opsI_storeAgg (t := 334) (cur := #[.string ⟨#[]⟩, .int .i32 0, .bool false]) (cs := entV (nm,l2,br)) C E rfl (by rfl) rfl (by rfl) (by rfl) (by kernel_rfl) rfl (by simp [entV,Value.oneCell']) (by simp [KTs]) hF fun _ hF => ?_
  try walk_nrm
  refine za3 C T ?_
  show wpI _ _ _ _ _ _ _
  refine za5 C T ?_
  refine za2 C T ?_
  simp only [szR,Nat.reduceAdd]
  iterate 2
   refine za1 C T rfl (by rfl) fun _ Kx hKx => ?_
   go_simp
   refine hKx _ ?_ (by first | (simp [go_sem]; done) | (simp [go_sem, *]; done) | (simp [go_sem,za7,za8,za9,za6,ev_ix, *]; done))
   clear hKx Kx
   try walk_nrm
  refine za0 C rfl (by rfl) fun _ hR Kx hKx => ?_
  replace hF := HL.rely E hF hR
  clear hR
  have hc := cells_of (hF.head.2.1)
  simp only [entV] at hc
  go_simp
  refine hKx _ _ ⟨?_,?_⟩
  ·
   refine zd2 E hF.size ?_
   co_evs (exact ze2 rfl hF.head.1)
  clear hKx Kx hc
  try walk_nrm
  refine zh8 C T rfl (by rfl) rfl rfl (by first | (simp [Act.eval]; done) | ((try walk_nrm); rfl)) (cutPrefix_x s nm) ?_
  try walk_nrm
  rw [show s.extract nm.size s.size = behind s nm from rfl]
  iterate 5
   refine za1 C T rfl (by rfl) fun _ Kx hKx => ?_
   go_simp
   refine hKx _ ?_ (by first | (simp [go_sem]; done) | (simp [go_sem, *]; done) | (simp [go_sem,za7,za8,za9,za6,ev_ix, *]; done))
   clear hKx Kx
   try walk_nrm
  refine za3 C T ?_
  show wpI _ _ _ _ _ _ _
  refine ze3 C T ?_
  refine za5 C T ?_
  refine za2 C T ?_
  simp only [szR,Nat.reduceAdd]
  iterate 3
   refine za1 C T rfl (by rfl) fun _ Kx hKx => ?_
   go_simp
   refine hKx _ ?_ (by first | (simp [go_sem]; done) | (simp [go_sem, *]; done) | (simp [go_sem,za7,za8,za9,za6,ev_ix, *]; done))
   clear hKx Kx
   try walk_nrm
  refine za3 C T ?_
  show wpI _ _ _ _ _ _ _
  refine zf9 C T rfl (fun hb => ?_) (fun hb => ?_)
  ·
   try simp only [hb]
   try simp only [bolL,beq_iff_eq,beq_eq_false_iff_ne,bne_iff_ne,bne_eq_false_iff_eq] at hb
   refine ze0 C T ?_
   show wpI _ _ _ _ _ _ _
   refine za2 C T ?_
   simp only [szR,Nat.reduceAdd]
   iterate 2
    refine za1 C T rfl (by rfl) fun _ Kx hKx => ?_
    go_simp
    refine hKx _ ?_ (by first | (simp [go_sem]; done) | (simp [go_sem, *]; done) | (simp [go_sem,za7,za8,za9,za6,ev_ix, *]; done))
    clear hKx Kx
    try walk_nrm
   refine za3 C T ?_
   have e3 : IntKind.i64.wrap ((j : Int) + 1) = ((j + 1 : Nat) : Int) := by rw [IntKind.wrap_i64]; omega
   have e4 : IntKind.i64.wrap ((j : Int) + 1) = (j : Int) + 1 := by rw [IntKind.wrap_i64]; omega
   refine ⟨18 - (j + 1),by omega,j + 1,_,_,rfl,hF.drop,by omega,rfl,?_,?_,fillT (by simp only [e4]; rfl)⟩
   ·
    omega
   ·
    rw [← hI,hdr,byNL]
    simp [*]
  ·
   try simp only [hb]
   try simp only [bolL,beq_iff_eq,beq_eq_false_iff_ne,bne_iff_ne,bne_eq_false_iff_eq] at hb
   refine za5 C T ?_
   refine za2 C T ?_
   simp only [szR,Nat.reduceAdd]
   refine za1 C T rfl (by rfl) fun _ Kx hKx => ?_
   go_simp
   refine hKx _ ?_ (by first | (simp [go_sem]; done) | (simp [go_sem, *]; done) | (simp [go_sem,za7,za8,za9,za6,ev_ix, *]; done))
   clear hKx Kx
   try walk_nrm
   refine zh8 C T rfl (by rfl) rfl rfl (by first | (simp [Act.eval]; done) | ((try walk_nrm); rfl)) (hasPrefix_x (behind s nm) ⟨#[59]⟩) ?_
   try walk_nrm
   refine za1 C T rfl (by rfl) fun _ Kx hKx => ?_
   go_simp
   refine hKx _ ?_ (by first | (simp [go_sem]; done) | (simp [go_sem, *]; done) | (simp [go_sem,za7,za8,za9,za6,ev_ix, *]; done))
   clear hKx Kx
   try walk_nrm
   refine za3 C T ?_
   show wpI _ _ _ _ _ _ _
   refine zf9 C T rfl (fun hb => ?_) (fun hb => ?_)
   ·
    try simp only [hb]
    try simp only [bolL,beq_iff_eq,beq_eq_false_iff_ne,bne_iff_ne,bne_eq_false_iff_eq] at hb
    refine za5 C T ?_
    refine wpI_fillP (f := fun x => ⟨#[.string s, .int .i64 k,x 2,x 3, .int .i32 lt, .int .i64 (sz : Int),x 6, .pointer (some ⟨eb,0,none⟩),x 8,x 9, .agg entC.toArray, .int .i64 (j : Int),x 12,x 13,x 14,x 15,x 16,x 17,x 18,x 19,x 20,x 21,x 22,x 23,x 24,x 25,x 26,x 27,x 28,x 29,x 30,x 31,x 32,x 33,x 34,x 35,x 36,x 37,x 38,x 39,x 40,x 41,x 42,x 43,x 44,x 45,x 46,x 47,x 48,x 49,x 50,x 51,x 52,x 53,x 54,x 55], []⟩) rfl ?_
    clear x
    intro x
    refine zi2 C E.drawD (by kernel_rfl) (n := 8) rfl (by kernel_rfl) (fun J vs' a' w' => (i = vs' ∧ HL M O N0 (fun _ => False) w ([(eb, .cells (entV (nm,l2,br)).toArray 334)]) w') ∧ a' = ⟨#[.string s, .int .i64 k,x 2,x 3,(if J 6 = true then .int .i32 l2 else .int .i32 lt),(if J 7 = true then .int .i64 ((nm.size : Int) + 1) else .int .i64 (sz : Int)),x 6, .pointer (some ⟨eb,0,none⟩),x 8,x 9, .agg entC.toArray, .int .i64 (j : Int),x 12,x 13,x 14,x 15,x 16,x 17,x 18,x 19,x 20,x 21,x 22,x 23,x 24,x 25,x 26,(if J 0 = true then .pointer (some ⟨eb,1,none⟩) else x 27),(if J 1 = true then .int .i32 l2 else x 28),(if J 2 = true then .pointer (some ⟨eb,0,none⟩) else x 29),(if J 3 = true then .string nm else x 30),(if J 4 = true then .int .i64 (nm.size : Int) else x 31),(if J 5 = true then .int .i64 ((nm.size : Int) + 1) else x 32),x 33,x 34,x 35,x 36,x 37,x 38,x 39,x 40,x 41,x 42,x 43,x 44,x 45,x 46,x 47,x 48,x 49,x 50,x 51,x 52,x 53,x 54,x 55], []⟩) (fun w₁ hR => ⟨?_,rfl⟩) ?_ ?_ ?_
    ·
     exact ⟨rfl,HL.rely E (HL.rely E hF hR) (E.drawR _)⟩
    ·
     rintro J J' vs' a' w' hJ ⟨⟨rfl,hF⟩,rfl⟩
     refine ⟨⟨rfl,hF⟩,?_⟩
     simp only [hJ 0 (by decide),hJ 1 (by decide),hJ 2 (by decide),hJ 3 (by decide),hJ 4 (by decide),hJ 5 (by decide),hJ 6 (by decide),hJ 7 (by decide)]
    ·
     rintro J j vs' a' w' ⟨⟨rfl,hF⟩,rfl⟩ hj hJ hr rest hK
     match j,hj with
     | 0,_ =>
      have hr := hr _ rfl
      simp [Region.binds] at hr
      try simp only [hr,if_true,reduceIte]
      have hwz : IntKind.i64.wrap ((nm.size : Int) + 1) = (nm.size : Int) + 1 := by rw [IntKind.wrap_i64]; omega
      refine za1 C T rfl (by rfl) fun _ Kx hKx => ?_
      go_simp
      refine hKx _ ?_ (by first | (simp [go_sem]; done) | (simp [go_sem, *]; done) | (simp [go_sem,za7,za8,za9,za6,ev_ix, *]; done))
      clear hKx Kx
      try walk_nrm
      refine hK _ _ _ ⟨⟨rfl,hF⟩,?_⟩
      simp [*]
     | 1,_ =>
      have hr := hr _ rfl
      simp [Region.binds] at hr
      try simp only [hr,if_true,reduceIte]
      refine za0 C rfl (by rfl) fun _ hR Kx hKx => ?_
      replace hF := HL.rely E hF hR
      clear hR
      have hc := cells_of (hF.head.2.1)
      simp only [entV] at hc
      go_simp
      refine hKx _ _ ⟨?_,?_⟩
      ·
       refine zd2 E hF.size ?_
       co_evs (exact ze2 rfl hF.head.1)
      clear hKx Kx hc
      try walk_nrm
      refine hK _ _ _ ⟨⟨rfl,hF⟩,?_⟩
      simp [*]
     | 2,_ =>
      have hr := hr _ rfl
      simp [Region.binds] at hr
      try simp only [hr,if_true,reduceIte]
      have hwz : IntKind.i64.wrap ((nm.size : Int) + 1) = (nm.size : Int) + 1 := by rw [IntKind.wrap_i64]; omega
      refine za1 C T rfl (by rfl) fun _ Kx hKx => ?_
      go_simp
      refine hKx _ ?_ (by first | (simp [go_sem]; done) | (simp [go_sem, *]; done) | (simp [go_sem,za7,za8,za9,za6,ev_ix, *]; done))
      clear hKx Kx
      try walk_nrm
      refine hK _ _ _ ⟨⟨rfl,hF⟩,?_⟩
      simp [*]
     | 3,_ =>
      have hr := hr _ rfl
      simp [Region.binds] at hr
      try simp only [hr,if_true,reduceIte]
      refine za0 C rfl (by rfl) fun _ hR Kx hKx => ?_
      replace hF := HL.rely E hF hR
      clear hR
      have hc := cells_of (hF.head.2.1)
      simp only [entV] at hc
      go_simp
      refine hKx _ _ ⟨?_,?_⟩
      ·
       refine zd2 E hF.size ?_
       co_evs (exact ze2 rfl hF.head.1)
      clear hKx Kx hc
      try walk_nrm
      refine hK _ _ _ ⟨⟨rfl,hF⟩,?_⟩
      simp [*]
     | 4,_ =>
      have hr := hr _ rfl
      simp [Region.binds] at hr
      try simp only [hr,if_true,reduceIte]
      have hwz : IntKind.i64.wrap ((nm.size : Int) + 1) = (nm.size : Int) + 1 := by rw [IntKind.wrap_i64]; omega
      refine za1 C T rfl (by rfl) fun _ Kx hKx => ?_
      go_simp
      refine hKx _ ?_ (by first | (simp [go_sem]; done) | (simp [go_sem, *]; done) | (simp [go_sem,za7,za8,za9,za6,ev_ix, *]; done))
      clear hKx Kx
      try walk_nrm
      refine hK _ _ _ ⟨⟨rfl,hF⟩,?_⟩
      simp [*]
     | 5,_ =>
      have hr := hr _ rfl
      simp [Region.binds] at hr
      try simp only [hr,if_true,reduceIte]
      have hwz : IntKind.i64.wrap ((nm.size : Int) + 1) = (nm.size : Int) + 1 := by rw [IntKind.wrap_i64]; omega
      refine za1 C T rfl (by rfl) fun _ Kx hKx => ?_
      go_simp
      refine hKx _ ?_ (by first | (simp [go_sem]; done) | (simp [go_sem, *]; done) | (simp [go_sem,za7,za8,za9,za6,ev_ix, *]; done))
      clear hKx Kx
      try walk_nrm
      refine hK _ _ _ ⟨⟨rfl,hF⟩,?_⟩
      simp [*]
     | 6,_ =>
      have hr := hr _ rfl
      simp [Region.binds] at hr
      try simp only [hr,if_true,reduceIte]
      have hwz : IntKind.i64.wrap ((nm.size : Int) + 1) = (nm.size : Int) + 1 := by rw [IntKind.wrap_i64]; omega
      refine za1 C T rfl (by rfl) fun _ Kx hKx => ?_
      go_simp
      refine hKx _ ?_ (by first | (simp [go_sem]; done) | (simp [go_sem, *]; done) | (simp [go_sem,za7,za8,za9,za6,ev_ix, *]; done))
      clear hKx Kx
      try walk_nrm
      refine hK _ _ _ ⟨⟨rfl,hF⟩,?_⟩
      simp [*]
     | 7,_ =>
      have hr := hr _ rfl
      simp [Region.binds] at hr
      try simp only [hr,if_true,reduceIte]
      have hwz : IntKind.i64.wrap ((nm.size : Int) + 1) = (nm.size : Int) + 1 := by rw [IntKind.wrap_i64]; omega
      refine za1 C T rfl (by rfl) fun _ Kx hKx => ?_
      go_simp
      refine hKx _ ?_ (by first | (simp [go_sem]; done) | (simp [go_sem, *]; done) | (simp [go_sem,za7,za8,za9,za6,ev_ix, *]; done))
      clear hKx Kx
      try walk_nrm
      refine hK _ _ _ ⟨⟨rfl,hF⟩,?_⟩
      simp [*]
    ·
     rintro J vs' a' w' hJ ⟨⟨rfl,hF⟩,rfl⟩
     simp only [hJ 0 (by decide),hJ 1 (by decide),hJ 2 (by decide),hJ 3 (by decide),hJ 4 (by decide),hJ 5 (by decide),hJ 6 (by decide),hJ 7 (by decide),if_true,reduceIte]
     refine za3 C T ?_
     show wpI _ _ _ _ _ _ _
     refine zc3 C T ?_
     refine ⟨.inr rfl,rfl,_,resultsC_tmp2 (by rfl) _,rfl,?_,hF.kept,hF.size⟩
     rw [zl7, ← hI,hdr,byNL]
     simp [*]
   ·
    try simp only [hb]
    try simp only [bolL,beq_iff_eq,beq_eq_false_iff_ne,bne_iff_ne,bne_eq_false_iff_eq] at hb
    refine za5 C T ?_
    refine za2 C T ?_
    simp only [szR,Nat.reduceAdd]
    refine za1 C T rfl (by rfl) fun _ Kx hKx => ?_
    go_simp
    refine hKx _ ?_ (by first | (simp [go_sem]; done) | (simp [go_sem, *]; done) | (simp [go_sem,za7,za8,za9,za6,ev_ix, *]; done))
    clear hKx Kx
    try walk_nrm
    refine za0 C rfl (by rfl) fun _ hR Kx hKx => ?_
    replace hF := HL.rely E hF hR
    clear hR
    have hc := cells_of (hF.head.2.1)
    simp only [entV] at hc
    go_simp
    refine hKx _ _ ⟨?_,?_⟩
    ·
     refine zd2 E hF.size ?_
     co_evs (exact ze2 rfl hF.head.1)
    clear hKx Kx hc
    try walk_nrm
    refine za1 C T rfl (by rfl) fun _ Kx hKx => ?_
    go_simp
    refine hKx _ ?_ (by first | (simp [go_sem]; done) | (simp [go_sem, *]; done) | (simp [go_sem,za7,za8,za9,za6,ev_ix, *]; done))
    clear hKx Kx
    try walk_nrm
    refine zi0 (d := 36) rfl (fun hb => ?_) (fun hb => ?_)
    ·
     try simp only [hb]
     try simp only [bolL,beq_iff_eq,beq_eq_false_iff_ne,bne_iff_ne,bne_eq_false_iff_eq] at hb
     refine za1 C T rfl (by rfl) fun _ Kx hKx => ?_
     go_simp
     refine hKx _ ?_ (by first | (simp [go_sem]; done) | (simp [go_sem, *]; done) | (simp [go_sem,za7,za8,za9,za6,ev_ix, *]; done))
     clear hKx Kx
     try walk_nrm
     refine za0 C rfl (by rfl) fun _ hR Kx hKx => ?_
     replace hF := HL.rely E hF hR
     clear hR
     have hc := cells_of (hF.head.2.1)
     simp only [entV] at hc
     go_simp
     refine hKx _ _ ⟨?_,?_⟩
     ·
      refine zd2 E hF.size ?_
      co_evs (exact ze2 rfl hF.head.1)
     clear hKx Kx hc
     iterate 5
      try walk_nrm
      refine za1 C T rfl (by rfl) fun _ Kx hKx => ?_
      go_simp
      refine hKx _ ?_ (by first | (simp [go_sem]; done) | (simp [go_sem, *]; done) | (simp [go_sem,za7,za8,za9,za6,ev_ix, *]; done))
      clear hKx Kx
     try walk_nrm
     refine zi0 (d := 43) rfl (fun hb => ?_) (fun hb => ?_)
     ·
      try simp only [hb]
      try simp only [bolL,beq_iff_eq,beq_eq_false_iff_ne,bne_iff_ne,bne_eq_false_iff_eq] at hb
      iterate 2
       refine za1 C T rfl (by rfl) fun _ Kx hKx => ?_
       go_simp
       refine hKx _ ?_ (by first | (simp [go_sem]; done) | (simp [go_sem, *]; done) | (simp [go_sem,za7,za8,za9,za6,ev_ix, *]; done))
       clear hKx Kx
       try walk_nrm
      refine zh8 C T rfl (by rfl) rfl rfl (by first | (simp [Act.eval]; done) | ((try walk_nrm); rfl)) (countsBareL_x (behind s nm) k) ?_
      iterate 2
       try walk_nrm
       refine za1 C T rfl (by rfl) fun _ Kx hKx => ?_
       go_simp
       refine hKx _ ?_ (by first | (simp [go_sem]; done) | (simp [go_sem, *]; done) | (simp [go_sem,za7,za8,za9,za6,ev_ix, *]; done))
       clear hKx Kx
      try walk_nrm
      refine za3 C T ?_
      show wpI _ _ _ _ _ _ _
      refine zf9 C T rfl (fun hb => ?_) (fun hb => ?_)
      ·
       try simp only [hb]
       try simp only [bolL,beq_iff_eq,beq_eq_false_iff_ne,bne_iff_ne,bne_eq_false_iff_eq] at hb
       refine wpI_fillP (f := fun x => ⟨#[.string s, .int .i64 k,x 2,x 3, .int .i32 lt, .int .i64 (sz : Int),x 6, .pointer (some ⟨eb,0,none⟩),x 8,x 9, .agg entC.toArray, .int .i64 (j : Int),x 12,x 13,x 14,x 15,x 16,x 17,x 18,x 19,x 20,x 21,x 22,x 23,x 24,x 25,x 26,x 27,x 28,x 29,x 30,x 31,x 32,x 33,x 34,x 35,x 36,x 37,x 38,x 39,x 40,x 41,x 42,x 43,x 44,x 45,x 46,x 47,x 48,x 49,x 50,x 51,x 52,x 53,x 54,x 55], []⟩) rfl ?_
       clear x
       intro x
       refine zi2 C E.drawD (by kernel_rfl) (n := 7) rfl (by kernel_rfl) (fun J vs' a' w' => (i = vs' ∧ HL M O N0 (fun _ => False) w ([(eb, .cells (entV (nm,l2,br)).toArray 334)]) w') ∧ a' = ⟨#[.string s, .int .i64 k,x 2,x 3,(if J 5 = true then .int .i32 l2 else .int .i32 lt),(if J 6 = true then .int .i64 (nm.size : Int) else .int .i64 (sz : Int)),x 6, .pointer (some ⟨eb,0,none⟩),x 8,x 9, .agg entC.toArray, .int .i64 (j : Int),x 12,x 13,x 14,x 15,x 16,x 17,x 18,x 19,x 20,x 21,x 22,x 23,x 24,x 25,x 26,x 27,x 28,x 29,x 30,x 31,x 32,x 33,x 34,x 35,x 36,x 37,x 38,x 39,x 40,x 41,x 42,x 43,x 44,x 45,x 46,x 47,(if J 0 = true then .pointer (some ⟨eb,1,none⟩) else x 48),(if J 1 = true then .int .i32 l2 else x 49),(if J 2 = true then .pointer (some ⟨eb,0,none⟩) else x 50),(if J 3 = true then .string nm else x 51),(if J 4 = true then .int .i64 (nm.size : Int) else x 52),x 53,x 54,x 55], []⟩) (fun w₁ hR => ⟨?_,rfl⟩) ?_ ?_ ?_
       ·
        exact ⟨rfl,HL.rely E (HL.rely E hF hR) (E.drawR _)⟩
       ·
        rintro J J' vs' a' w' hJ ⟨⟨rfl,hF⟩,rfl⟩
        refine ⟨⟨rfl,hF⟩,?_⟩
        simp only [hJ 0 (by decide),hJ 1 (by decide),hJ 2 (by decide),hJ 3 (by decide),hJ 4 (by decide),hJ 5 (by decide),hJ 6 (by decide)]
       ·
        rintro J j vs' a' w' ⟨⟨rfl,hF⟩,rfl⟩ hj hJ hr rest hK
        match j,hj with
        | 0,_ =>
         have hr := hr _ rfl
         simp [Region.binds] at hr
         try simp only [hr,if_true,reduceIte]
         have hwz : IntKind.i64.wrap ((nm.size : Int) + 1) = (nm.size : Int) + 1 := by rw [IntKind.wrap_i64]; omega
         refine za1 C T rfl (by rfl) fun _ Kx hKx => ?_
         go_simp
         refine hKx _ ?_ (by first | (simp [go_sem]; done) | (simp [go_sem, *]; done) | (simp [go_sem,za7,za8,za9,za6,ev_ix, *]; done))
         clear hKx Kx
         try walk_nrm
         refine hK _ _ _ ⟨⟨rfl,hF⟩,?_⟩
         simp [*]
        | 1,_ =>
         have hr := hr _ rfl
         simp [Region.binds] at hr
         try simp only [hr,if_true,reduceIte]
         refine za0 C rfl (by rfl) fun _ hR Kx hKx => ?_
         replace hF := HL.rely E hF hR
         clear hR
         have hc := cells_of (hF.head.2.1)
         simp only [entV] at hc
         go_simp
         refine hKx _ _ ⟨?_,?_⟩
         ·
          refine zd2 E hF.size ?_
          co_evs (exact ze2 rfl hF.head.1)
         clear hKx Kx hc
         try walk_nrm
         refine hK _ _ _ ⟨⟨rfl,hF⟩,?_⟩
         simp [*]
        | 2,_ =>
         have hr := hr _ rfl
         simp [Region.binds] at hr
         try simp only [hr,if_true,reduceIte]
         have hwz : IntKind.i64.wrap ((nm.size : Int) + 1) = (nm.size : Int) + 1 := by rw [IntKind.wrap_i64]; omega
         refine za1 C T rfl (by rfl) fun _ Kx hKx => ?_
         go_simp
         refine hKx _ ?_ (by first | (simp [go_sem]; done) | (simp [go_sem, *]; done) | (simp [go_sem,za7,za8,za9,za6,ev_ix, *]; done))
         clear hKx Kx
         try walk_nrm
         refine hK _ _ _ ⟨⟨rfl,hF⟩,?_⟩
         simp [*]
        | 3,_ =>
         have hr := hr _ rfl
         simp [Region.binds] at hr
         try simp only [hr,if_true,reduceIte]
         refine za0 C rfl (by rfl) fun _ hR Kx hKx => ?_
         replace hF := HL.rely E hF hR
         clear hR
         have hc := cells_of (hF.head.2.1)
         simp only [entV] at hc
         go_simp
         refine hKx _ _ ⟨?_,?_⟩
         ·
          refine zd2 E hF.size ?_
          co_evs (exact ze2 rfl hF.head.1)
         clear hKx Kx hc
         try walk_nrm
         refine hK _ _ _ ⟨⟨rfl,hF⟩,?_⟩
         simp [*]
        | 4,_ =>
         have hr := hr _ rfl
         simp [Region.binds] at hr
         try simp only [hr,if_true,reduceIte]
         have hwz : IntKind.i64.wrap ((nm.size : Int) + 1) = (nm.size : Int) + 1 := by rw [IntKind.wrap_i64]; omega
         refine za1 C T rfl (by rfl) fun _ Kx hKx => ?_
         go_simp
         refine hKx _ ?_ (by first | (simp [go_sem]; done) | (simp [go_sem, *]; done) | (simp [go_sem,za7,za8,za9,za6,ev_ix, *]; done))
         clear hKx Kx
         try walk_nrm
         refine hK _ _ _ ⟨⟨rfl,hF⟩,?_⟩
         simp [*]
        | 5,_ =>
         have hr := hr _ rfl
         simp [Region.binds] at hr
         try simp only [hr,if_true,reduceIte]
         have hwz : IntKind.i64.wrap ((nm.size : Int) + 1) = (nm.size : Int) + 1 := by rw [IntKind.wrap_i64]; omega
         refine za1 C T rfl (by rfl) fun _ Kx hKx => ?_
         go_simp
         refine hKx _ ?_ (by first | (simp [go_sem]; done) | (simp [go_sem, *]; done) | (simp [go_sem,za7,za8,za9,za6,ev_ix, *]; done))
         clear hKx Kx
         try walk_nrm
         refine hK _ _ _ ⟨⟨rfl,hF⟩,?_⟩
         simp [*]
        | 6,_ =>
         have hr := hr _ rfl
         simp [Region.binds] at hr
         try simp only [hr,if_true,reduceIte]
         have hwz : IntKind.i64.wrap ((nm.size : Int) + 1) = (nm.size : Int) + 1 := by rw [IntKind.wrap_i64]; omega
         refine za1 C T rfl (by rfl) fun _ Kx hKx => ?_
         go_simp
         refine hKx _ ?_ (by first | (simp [go_sem]; done) | (simp [go_sem, *]; done) | (simp [go_sem,za7,za8,za9,za6,ev_ix, *]; done))
         clear hKx Kx
         try walk_nrm
         refine hK _ _ _ ⟨⟨rfl,hF⟩,?_⟩
         simp [*]
       ·
        rintro J vs' a' w' hJ ⟨⟨rfl,hF⟩,rfl⟩
        simp only [hJ 0 (by decide),hJ 1 (by decide),hJ 2 (by decide),hJ 3 (by decide),hJ 4 (by decide),hJ 5 (by decide),hJ 6 (by decide),if_true,reduceIte]
        refine za3 C T ?_
        show wpI _ _ _ _ _ _ _
        refine za2 C T ?_
        simp only [szR,Nat.reduceAdd]
        iterate 2
         refine za1 C T rfl (by rfl) fun _ Kx hKx => ?_
         go_simp
         refine hKx _ ?_ (by first | (simp [go_sem]; done) | (simp [go_sem, *]; done) | (simp [go_sem,za7,za8,za9,za6,ev_ix, *]; done))
         clear hKx Kx
         try walk_nrm
        refine za3 C T ?_
        have e3 : IntKind.i64.wrap ((j : Int) + 1) = ((j + 1 : Nat) : Int) := by rw [IntKind.wrap_i64]; omega
        have e4 : IntKind.i64.wrap ((j : Int) + 1) = (j : Int) + 1 := by rw [IntKind.wrap_i64]; omega
        refine ⟨18 - (j + 1),by omega,j + 1,_,_,rfl,hF.drop,by omega,rfl,?_,?_,fillT (by simp only [e4]; rfl)⟩
        ·
         omega
        ·
         rw [← hI,hdr,byNL]
         simp [*]
      ·
       try simp only [hb]
       try simp only [bolL,beq_iff_eq,beq_eq_false_iff_ne,bne_iff_ne,bne_eq_false_iff_eq] at hb
       refine ze0 C T ?_
       show wpI _ _ _ _ _ _ _
       refine za2 C T ?_
       simp only [szR,Nat.reduceAdd]
       iterate 2
        refine za1 C T rfl (by rfl) fun _ Kx hKx => ?_
        go_simp
        refine hKx _ ?_ (by first | (simp [go_sem]; done) | (simp [go_sem, *]; done) | (simp [go_sem,za7,za8,za9,za6,ev_ix, *]; done))
        clear hKx Kx
        try walk_nrm
       refine za3 C T ?_
       have e3 : IntKind.i64.wrap ((j : Int) + 1) = ((j + 1 : Nat) : Int) := by rw [IntKind.wrap_i64]; omega
       have e4 : IntKind.i64.wrap ((j : Int) + 1) = (j : Int) + 1 := by rw [IntKind.wrap_i64]; omega
       refine ⟨18 - (j + 1),by omega,j + 1,_,_,rfl,hF.drop,by omega,rfl,?_,?_,fillT (by simp only [e4]; rfl)⟩
       ·
        omega
       ·
        rw [← hI,hdr,byNL]
        simp [*]
     ·
      try simp only [hb]
      try simp only [bolL,beq_iff_eq,beq_eq_false_iff_ne,bne_iff_ne,bne_eq_false_iff_eq] at hb
      iterate 3
       refine zb7 C T rfl (by rfl) ?_
       try walk_nrm
      iterate 2
       refine za1 C T rfl (by rfl) fun _ Kx hKx => ?_
       go_simp
       refine hKx _ ?_ (by first | (simp [go_sem]; done) | (simp [go_sem, *]; done) | (simp [go_sem,za7,za8,za9,za6,ev_ix, *]; done))
       clear hKx Kx
       try walk_nrm
      refine za3 C T ?_
      show wpI _ _ _ _ _ _ _
      refine zc0 C T (t := false) rfl ?_
      simp only [if_true,if_false,reduceIte,Bool.false_eq_true]
      refine ze0 C T ?_
      show wpI _ _ _ _ _ _ _
      refine za2 C T ?_
      simp only [szR,Nat.reduceAdd]
      iterate 2
       refine za1 C T rfl (by rfl) fun _ Kx hKx => ?_
       go_simp
       refine hKx _ ?_ (by first | (simp [go_sem]; done) | (simp [go_sem, *]; done) | (simp [go_sem,za7,za8,za9,za6,ev_ix, *]; done))
       clear hKx Kx
       try walk_nrm
      refine za3 C T ?_
      have e3 : IntKind.i64.wrap ((j : Int) + 1) = ((j + 1 : Nat) : Int) := by rw [IntKind.wrap_i64]; omega
      have e4 : IntKind.i64.wrap ((j : Int) + 1) = (j : Int) + 1 := by rw [IntKind.wrap_i64]; omega
      refine ⟨18 - (j + 1),by omega,j + 1,_,_,rfl,hF.drop,by omega,rfl,?_,?_,fillT (by simp only [e4]; rfl)⟩
      ·
       omega
      ·
       rw [← hI,hdr,byNL]
       simp [*]
    ·
     try simp only [hb]
     try simp only [bolL,beq_iff_eq,beq_eq_false_iff_ne,bne_iff_ne,bne_eq_false_iff_eq] at hb
     iterate 5
      refine zb7 C T rfl (by rfl) ?_
      try walk_nrm
     iterate 2
      refine za1 C T rfl (by rfl) fun _ Kx hKx => ?_
      go_simp
      refine hKx _ ?_ (by first | (simp [go_sem]; done) | (simp [go_sem, *]; done) | (simp [go_sem,za7,za8,za9,za6,ev_ix, *]; done))
      clear hKx Kx
      try walk_nrm
     iterate 3
      refine zb7 C T rfl (by rfl) ?_
      try walk_nrm
     iterate 2
      refine za1 C T rfl (by rfl) fun _ Kx hKx => ?_
      go_simp
      refine hKx _ ?_ (by first | (simp [go_sem]; done) | (simp [go_sem, *]; done) | (simp [go_sem,za7,za8,za9,za6,ev_ix, *]; done))
      clear hKx Kx
      try walk_nrm
     refine za3 C T ?_
     show wpI _ _ _ _ _ _ _
     refine zc0 C T (t := false) rfl ?_
     simp only [if_true,if_false,reduceIte,Bool.false_eq_true]
     refine ze0 C T ?_
     show wpI _ _ _ _ _ _ _
     refine za2 C T ?_
     simp only [szR,Nat.reduceAdd]
     iterate 2
      refine za1 C T rfl (by rfl) fun _ Kx hKx => ?_
      go_simp
      refine hKx _ ?_ (by first | (simp [go_sem]; done) | (simp [go_sem, *]; done) | (simp [go_sem,za7,za8,za9,za6,ev_ix, *]; done))
      clear hKx Kx
      try walk_nrm
     refine za3 C T ?_
     have e3 : IntKind.i64.wrap ((j : Int) + 1) = ((j + 1 : Nat) : Int) := by rw [IntKind.wrap_i64]; omega
     have e4 : IntKind.i64.wrap ((j : Int) + 1) = (j : Int) + 1 := by rw [IntKind.wrap_i64]; omega
     refine ⟨18 - (j + 1),by omega,j + 1,_,_,rfl,hF.drop,by omega,rfl,?_,?_,fillT (by simp only [e4]; rfl)⟩
     ·
      omega
     ·
      rw [← hI,hdr,byNL]
      simp [*]
 ·
  try simp only [hb]
  try simp only [bolL,beq_iff_eq,beq_eq_false_iff_ne,bne_iff_ne,bne_eq_false_iff_eq] at hb
  refine zl6 C T ?_
  simp only [zi4,thenI,if_true,Nat.reduceEqDiff,reduceIte]
  show wpI _ _ _ _ _ _ _
  refine za5 C T ?_
  refine za2 C T ?_
  simp only [szR,Nat.reduceAdd]
  iterate 4
   refine za1 C T rfl (by rfl) fun _ Kx hKx => ?_
   go_simp
   refine hKx _ ?_ (by first | (simp [go_sem]; done) | (simp [go_sem, *]; done) | (simp [go_sem,za7,za8,za9,za6,ev_ix, *]; done))
   clear hKx Kx
   try walk_nrm
  refine za3 C T ?_
  show wpI _ _ _ _ _ _ _
  refine zc3 C T ?_
  refine ⟨.inr rfl,rfl,_,resultsC_tmp2 (by rfl) _,rfl,?_,hF.kept,hF.size⟩
  have hj18 : j = 18 := by omega
  subst hj18
  rw [zl7, ← hI]
  rfl
end
end Go.Proofs.YtgcaionclkbehaaGreatDoor
