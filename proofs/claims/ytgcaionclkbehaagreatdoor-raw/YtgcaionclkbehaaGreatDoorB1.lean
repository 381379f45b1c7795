import Derived.Test.YtgcaionclkbehaaGreatDoorP1
import Derived.Lib.Bytealg
import Derived.Laws.Slices
import Derived.Laws.Runes
set_option linter.all false
set_option maxRecDepth 100000
set_option maxHeartbeats 2000000
namespace Go.Proofs.YtgcaionclkbehaaGreatDoor
open Tryz
section
open Go.Conc Go.RowKit
theorem za7 (s : ByteArray) (w : World) (es : Array Event) : (Builtin.len_ #[9] 3 #[.string s]).events prog w es = es := by simp [Builtin.len_,go_sem]
theorem za8 (s : ByteArray) (k : IntKind) (h : Int) (w : World) (es : Array Event) (h0 : 0 ≤ h) (h1 : h ≤ s.size) : (Instr.sliceAt 9 (.string s) none (some (.int k h)) none).events prog w es = es := by
 simp [Instr.sliceAt,Instr.slice,Instr.sliceBounds,Instr.sliceBound,underlying,underlying9,asIntOf,h0,h1]
theorem za9 (s : ByteArray) (k : IntKind) (h : Int) (w : World) (es : Array Event) (h0 : 0 ≤ h) (h1 : h ≤ s.size) : (Instr.sliceAt 9 (.string s) (some (.int k h)) none none).events prog w es = es := by
 simp [Instr.sliceAt,Instr.slice,Instr.sliceBounds,Instr.sliceBound,underlying,underlying9,asIntOf,h0,h1]
theorem za6 (s : ByteArray) (k k' : IntKind) (l h : Int) (w : World) (es : Array Event) (h0 : 0 ≤ l) (h1 : l ≤ h) (h2 : h ≤ s.size) : (Instr.sliceAt 9 (.string s) (some (.int k l)) (some (.int k' h)) none).events prog w es = es := by
 have h3 : 0 ≤ h := by omega
 simp [Instr.sliceAt,Instr.slice,Instr.sliceBounds,Instr.sliceBound,underlying,underlying9,asIntOf, *]
 intros
 omega
def zj1 (s p : ByteArray) : Bool := decide (p.size ≤ s.size) && ((s.extract 0 p.size).toList == p.toList)
theorem byteFits (b : UInt8) : Fits (b.toNat : Int) := by
 have := b.toNat_lt
 unfold Fits
 omega
theorem hasPre_le {s p : ByteArray} (h : zj1 s p = true) : p.size ≤ s.size := by
 simp [zj1] at h
 exact h.1
theorem ev_ix (s : ByteArray) (i : Int) (w : World) (es : Array Event) (h0 : 0 ≤ i) (h1 : i < s.size) : (Instr.index 9 (.string s) (.int .i64 i)).events prog w es = es := by
 simp [Instr.index,underlying,underlying9,asIntOf, *]
theorem hasPrefix0_x (s p : ByteArray) : PureI prog 178 #[.string s, .string p] (.bool (zj1 s p)) := by
 intro ι R D X C T i w
 have u9 := underlying9
 refine zc2 func178 (by rfl) rfl ?_
 simp only [ntmps178,List.size_toArray,List.length_cons,List.length_nil,Nat.reduceAdd,Nat.reduceSub,Array.replicate_succ,Array.replicate_zero,List.push_toArray,List.append_toArray,List.nil_append,List.cons_append]
 refine za5 C T ?_
 refine za2 C T ?_
 simp only [szR,Nat.reduceAdd]
 refine za1 C T rfl (by rfl) fun _ Kx hKx => ?_
 go_simp
 refine hKx _ ?_ (by first | (simp [go_sem]; done) | (simp [go_sem, *]; done) | (simp [go_sem,za7,za8,za9,za6,ev_ix, *]; done))
 clear hKx Kx
 try walk_nrm
 refine za3 C T ?_
 show wpI _ _ _ _ _ _ _
 refine za5 C T ?_
 refine za2 C T ?_
 simp only [szR,Nat.reduceAdd]
 iterate 6
  refine za1 C T rfl (by rfl) fun _ Kx hKx => ?_
  go_simp
  refine hKx _ ?_ (by first | (simp [go_sem]; done) | (simp [go_sem, *]; done) | (simp [go_sem,za7,za8,za9,za6,ev_ix, *]; done))
  clear hKx Kx
  try walk_nrm
 refine zi0 (d := 10) rfl (fun hb => ?_) (fun hb => ?_)
 ·
  simp only [hb]
  try simp only [bolL,beq_iff_eq,beq_eq_false_iff_ne,bne_iff_ne,bne_eq_false_iff_eq] at hb
  have hbn : p.size ≤ s.size := by omega
  iterate 8
   refine za1 C T rfl (by rfl) fun _ Kx hKx => ?_
   go_simp
   refine hKx _ ?_ (by first | (simp [go_sem]; done) | (simp [go_sem, *]; done) | (simp [go_sem,za7,za8,za9,za6,ev_ix, *]; done))
   clear hKx Kx
   try walk_nrm
  refine za3 C T ?_
  show wpI _ _ _ _ _ _ _
  refine zc3 C T ?_
  refine ⟨.inr rfl,rfl,_,resultsC_tmp (by rfl) _,rfl,?_,rfl⟩
  simp [zj1, *]
 ·
  simp only [hb]
  try simp only [bolL,beq_iff_eq,beq_eq_false_iff_ne,bne_iff_ne,bne_eq_false_iff_eq] at hb
  iterate 6
   refine zb7 C T rfl (by rfl) ?_
   try walk_nrm
  iterate 2
   refine za1 C T rfl (by rfl) fun _ Kx hKx => ?_
   go_simp
   refine hKx _ ?_ (by first | (simp [go_sem]; done) | (simp [go_sem, *]; done) | (simp [go_sem,za7,za8,za9,za6,ev_ix, *]; done))
   clear hKx Kx
   try walk_nrm
  refine za3 C T ?_
  show wpI _ _ _ _ _ _ _
  refine zc3 C T ?_
  refine ⟨.inr rfl,rfl,_,resultsC_tmp (by rfl) _,rfl,?_,rfl⟩
  have hbn : ¬ p.size ≤ s.size := by omega
  simp [zj1,hbn]
theorem hasPrefix_x (s p : ByteArray) : PureI prog 89 #[.string s, .string p] (.bool (zj1 s p)) := by
 intro ι R D X C T i w
 have u9 := underlying9
 refine zc2 func89 (by rfl) rfl ?_
 simp only [ntmps89,List.size_toArray,List.length_cons,List.length_nil,Nat.reduceAdd,Nat.reduceSub,Array.replicate_succ,Array.replicate_zero,List.push_toArray,List.append_toArray,List.nil_append,List.cons_append]
 refine za5 C T ?_
 refine za2 C T ?_
 simp only [szR,Nat.reduceAdd]
 refine za1 C T rfl (by rfl) fun _ Kx hKx => ?_
 go_simp
 refine hKx _ ?_ (by first | (simp [go_sem]; done) | (simp [go_sem, *]; done) | (simp [go_sem,za7,za8,za9,za6,ev_ix, *]; done))
 clear hKx Kx
 try walk_nrm
 refine za3 C T ?_
 show wpI _ _ _ _ _ _ _
 refine za5 C T ?_
 refine za2 C T ?_
 simp only [szR,Nat.reduceAdd]
 iterate 2
  refine za1 C T rfl (by rfl) fun _ Kx hKx => ?_
  go_simp
  refine hKx _ ?_ (by first | (simp [go_sem]; done) | (simp [go_sem, *]; done) | (simp [go_sem,za7,za8,za9,za6,ev_ix, *]; done))
  clear hKx Kx
  try walk_nrm
 refine zh8 C T rfl (by rfl) rfl rfl (by simp [Act.eval]) (hasPrefix0_x s p) ?_
 try walk_nrm
 refine za1 C T rfl (by rfl) fun _ Kx hKx => ?_
 go_simp
 refine hKx _ ?_ (by first | (simp [go_sem]; done) | (simp [go_sem, *]; done) | (simp [go_sem,za7,za8,za9,za6,ev_ix, *]; done))
 clear hKx Kx
 try walk_nrm
 refine za3 C T ?_
 show wpI _ _ _ _ _ _ _
 refine zc3 C T ?_
 refine ⟨.inr rfl,rfl,_,resultsC_tmp (by rfl) _,rfl,?_,rfl⟩
 simp
theorem cutPrefix0_x (s p : ByteArray) : PureI prog 340 #[.string s, .string p] (.tuple #[.string (if zj1 s p = true then s.extract p.size s.size else s), .bool (zj1 s p)]) := by
 intro ι R D X C T i w
 have u9 := underlying9
 refine zc2 func340 (by rfl) rfl ?_
 simp only [ntmps340,List.size_toArray,List.length_cons,List.length_nil,Nat.reduceAdd,Nat.reduceSub,Array.replicate_succ,Array.replicate_zero,List.push_toArray,List.append_toArray,List.nil_append,List.cons_append]
 refine za5 C T ?_
 refine za2 C T ?_
 simp only [szR,Nat.reduceAdd]
 iterate 2
  refine za1 C T rfl (by rfl) fun _ Kx hKx => ?_
  go_simp
  refine hKx _ ?_ (by first | (simp [go_sem]; done) | (simp [go_sem, *]; done) | (simp [go_sem,za7,za8,za9,za6,ev_ix, *]; done))
  clear hKx Kx
  try walk_nrm
 refine za3 C T ?_
 show wpI _ _ _ _ _ _ _
 iterate 2
  refine za5 C T ?_
 refine za2 C T ?_
 simp only [szR,Nat.reduceAdd]
 iterate 2
  refine za1 C T rfl (by rfl) fun _ Kx hKx => ?_
  go_simp
  refine hKx _ ?_ (by first | (simp [go_sem]; done) | (simp [go_sem, *]; done) | (simp [go_sem,za7,za8,za9,za6,ev_ix, *]; done))
  clear hKx Kx
  try walk_nrm
 refine zh8 C T rfl (by rfl) rfl rfl (by simp [Act.eval]) (hasPrefix0_x s p) ?_
 try walk_nrm
 refine za1 C T rfl (by rfl) fun _ Kx hKx => ?_
 go_simp
 refine hKx _ ?_ (by first | (simp [go_sem]; done) | (simp [go_sem, *]; done) | (simp [go_sem,za7,za8,za9,za6,ev_ix, *]; done))
 clear hKx Kx
 try walk_nrm
 refine za3 C T ?_
 show wpI _ _ _ _ _ _ _
 refine zf9 C T rfl (fun hb => ?_) (fun hb => ?_)
 ·
  simp only [hb]
  try simp only [bolL,beq_iff_eq,beq_eq_false_iff_ne,bne_iff_ne,bne_eq_false_iff_eq] at hb
  refine za5 C T ?_
  refine za2 C T ?_
  simp only [szR,Nat.reduceAdd]
  iterate 3
   refine za1 C T rfl (by rfl) fun _ Kx hKx => ?_
   go_simp
   refine hKx _ ?_ (by first | (simp [go_sem]; done) | (simp [go_sem, *]; done) | (simp [go_sem,za7,za8,za9,za6,ev_ix, *]; done))
   clear hKx Kx
   try walk_nrm
  refine za3 C T ?_
  show wpI _ _ _ _ _ _ _
  refine zc3 C T ?_
  refine ⟨.inr rfl,rfl,_,resultsC_tmp2 (by rfl) _,rfl,?_,rfl⟩
  simp [*]
 ·
  simp only [hb]
  try simp only [bolL,beq_iff_eq,beq_eq_false_iff_ne,bne_iff_ne,bne_eq_false_iff_eq] at hb
  refine ze0 C T ?_
  show wpI _ _ _ _ _ _ _
  refine za5 C T ?_
  refine za2 C T ?_
  simp only [szR,Nat.reduceAdd]
  iterate 3
   refine za1 C T rfl (by rfl) fun _ Kx hKx => ?_
   go_simp
   refine hKx _ ?_ (by first | (simp [go_sem]; done) | (simp [go_sem, *]; done) | (simp [go_sem,za7,za8,za9,za6,ev_ix, *]; done))
   clear hKx Kx
   try walk_nrm
  have hbn : p.size ≤ s.size := hasPre_le (by simpa using hb)
  iterate 3
   refine za1 C T rfl (by rfl) fun _ Kx hKx => ?_
   go_simp
   refine hKx _ ?_ (by first | (simp [go_sem]; done) | (simp [go_sem, *]; done) | (simp [go_sem,za7,za8,za9,za6,ev_ix, *]; done))
   clear hKx Kx
   try walk_nrm
  refine za3 C T ?_
  show wpI _ _ _ _ _ _ _
  refine zc3 C T ?_
  refine ⟨.inr rfl,rfl,_,resultsC_tmp2 (by rfl) _,rfl,?_,rfl⟩
  simp [*]
theorem cutPrefix_x (s p : ByteArray) : PureI prog 269 #[.string s, .string p] (.tuple #[.string (if zj1 s p = true then s.extract p.size s.size else s), .bool (zj1 s p)]) := by
 intro ι R D X C T i w
 have u9 := underlying9
 refine zc2 func269 (by rfl) rfl ?_
 simp only [ntmps269,List.size_toArray,List.length_cons,List.length_nil,Nat.reduceAdd,Nat.reduceSub,Array.replicate_succ,Array.replicate_zero,List.push_toArray,List.append_toArray,List.nil_append,List.cons_append]
 refine za5 C T ?_
 refine za2 C T ?_
 simp only [szR,Nat.reduceAdd]
 iterate 2
  refine za1 C T rfl (by rfl) fun _ Kx hKx => ?_
  go_simp
  refine hKx _ ?_ (by first | (simp [go_sem]; done) | (simp [go_sem, *]; done) | (simp [go_sem,za7,za8,za9,za6,ev_ix, *]; done))
  clear hKx Kx
  try walk_nrm
 refine za3 C T ?_
 show wpI _ _ _ _ _ _ _
 refine za5 C T ?_
 refine za2 C T ?_
 simp only [szR,Nat.reduceAdd]
 iterate 2
  refine za1 C T rfl (by rfl) fun _ Kx hKx => ?_
  go_simp
  refine hKx _ ?_ (by first | (simp [go_sem]; done) | (simp [go_sem, *]; done) | (simp [go_sem,za7,za8,za9,za6,ev_ix, *]; done))
  clear hKx Kx
  try walk_nrm
 refine zh8 C T rfl (by rfl) rfl rfl (by simp [Act.eval]) (cutPrefix0_x s p) ?_
 iterate 4
  try walk_nrm
  refine za1 C T rfl (by rfl) fun _ Kx hKx => ?_
  go_simp
  refine hKx _ ?_ (by first | (simp [go_sem]; done) | (simp [go_sem, *]; done) | (simp [go_sem,za7,za8,za9,za6,ev_ix, *]; done))
  clear hKx Kx
 try walk_nrm
 refine za3 C T ?_
 show wpI _ _ _ _ _ _ _
 refine zc3 C T ?_
 refine ⟨.inr rfl,rfl,_,resultsC_tmp2 (by rfl) _,rfl,?_,rfl⟩
 simp
theorem countsBare_x (s : ByteArray) (k : Int) : PureI prog 372 #[.string s, .int .i64 k] (.bool (decide (k = 0) || s.toList.isEmpty || (!isLetterL (s[0]!).toNat && !isDigitL (s[0]!).toNat && (((s[0]!).toNat : Int) != 61)))) := by
 intro ι R D X C T i w
 have u9 := underlying9
 refine zc2 func372 (by rfl) rfl ?_
 simp only [ntmps372,List.size_toArray,List.length_cons,List.length_nil,Nat.reduceAdd,Nat.reduceSub,Array.replicate_succ,Array.replicate_zero,List.push_toArray,List.append_toArray,List.nil_append,List.cons_append]
 refine za5 C T ?_
 refine za2 C T ?_
 simp only [szR,Nat.reduceAdd]
 refine za1 C T rfl (by rfl) fun _ Kx hKx => ?_
 go_simp
 refine hKx _ ?_ (by first | (simp [go_sem]; done) | (simp [go_sem, *]; done) | (simp [go_sem,za7,za8,za9,za6,ev_ix, *]; done))
 clear hKx Kx
 try walk_nrm
 refine za3 C T ?_
 show wpI _ _ _ _ _ _ _
 iterate 2
  refine za5 C T ?_
 refine za2 C T ?_
 simp only [szR,Nat.reduceAdd]
 iterate 3
  refine za1 C T rfl (by rfl) fun _ Kx hKx => ?_
  go_simp
  refine hKx _ ?_ (by first | (simp [go_sem]; done) | (simp [go_sem, *]; done) | (simp [go_sem,za7,za8,za9,za6,ev_ix, *]; done))
  clear hKx Kx
  try walk_nrm
 refine zi0 (d := 8) rfl (fun hb => ?_) (fun hb => ?_)
 ·
  simp only [hb]
  try simp only [bolL,beq_iff_eq,beq_eq_false_iff_ne,bne_iff_ne,bne_eq_false_iff_eq] at hb
  iterate 2
   refine zb7 C T rfl (by rfl) ?_
   try walk_nrm
  refine za1 C T rfl (by rfl) fun _ Kx hKx => ?_
  go_simp
  refine hKx _ ?_ (by first | (simp [go_sem]; done) | (simp [go_sem, *]; done) | (simp [go_sem,za7,za8,za9,za6,ev_ix, *]; done))
  clear hKx Kx
  try walk_nrm
  refine za3 C T ?_
  show wpI _ _ _ _ _ _ _
  refine zc0 C T (t := true) rfl ?_
  simp only [if_true,if_false,reduceIte,Bool.false_eq_true]
  refine za5 C T ?_
  refine za2 C T ?_
  simp only [szR,Nat.reduceAdd]
  refine za1 C T rfl (by rfl) fun _ Kx hKx => ?_
  go_simp
  refine hKx _ ?_ (by first | (simp [go_sem]; done) | (simp [go_sem, *]; done) | (simp [go_sem,za7,za8,za9,za6,ev_ix, *]; done))
  clear hKx Kx
  try walk_nrm
  refine za3 C T ?_
  show wpI _ _ _ _ _ _ _
  refine zc3 C T ?_
  refine ⟨.inr rfl,rfl,_,resultsC_tmp (by rfl) _,rfl,?_,rfl⟩
  simp [hb]
 ·
  simp only [hb]
  try simp only [bolL,beq_iff_eq,beq_eq_false_iff_ne,bne_iff_ne,bne_eq_false_iff_eq] at hb
  iterate 3
   refine za1 C T rfl (by rfl) fun _ Kx hKx => ?_
   go_simp
   refine hKx _ ?_ (by first | (simp [go_sem]; done) | (simp [go_sem, *]; done) | (simp [go_sem,za7,za8,za9,za6,ev_ix, *]; done))
   clear hKx Kx
   try walk_nrm
  refine za3 C T ?_
  show wpI _ _ _ _ _ _ _
  refine zf9 C T rfl (fun hb => ?_) (fun hb => ?_)
  ·
   simp only [hb]
   try simp only [bolL,beq_iff_eq,beq_eq_false_iff_ne,bne_iff_ne,bne_eq_false_iff_eq] at hb
   refine za5 C T ?_
   refine za2 C T ?_
   simp only [szR,Nat.reduceAdd]
   refine za1 C T rfl (by rfl) fun _ Kx hKx => ?_
   go_simp
   refine hKx _ ?_ (by first | (simp [go_sem]; done) | (simp [go_sem, *]; done) | (simp [go_sem,za7,za8,za9,za6,ev_ix, *]; done))
   clear hKx Kx
   try walk_nrm
   refine za3 C T ?_
   show wpI _ _ _ _ _ _ _
   refine zc3 C T ?_
   refine ⟨.inr rfl,rfl,_,resultsC_tmp (by rfl) _,rfl,?_,rfl⟩
   simp [hb]
  ·
   simp only [hb]
   try simp only [bolL,beq_iff_eq,beq_eq_false_iff_ne,bne_iff_ne,bne_eq_false_iff_eq] at hb
   refine ze0 C T ?_
   show wpI _ _ _ _ _ _ _
   refine za5 C T ?_
   refine za2 C T ?_
   simp only [szR,Nat.reduceAdd]
   have hsz : 0 < s.size := by
    rw [ByteArray.toList_eq] at hb
    have : s.data.toList.length ≠ 0 := by intro h; rw [List.length_eq_zero_iff.1 h] at hb; cases hb
    have e : s.size = s.data.toList.length := by simp
    omega
   iterate 4
    refine za1 C T rfl (by rfl) fun _ Kx hKx => ?_
    go_simp
    refine hKx _ ?_ (by first | (simp [go_sem]; done) | (simp [go_sem, *]; done) | (simp [go_sem,za7,za8,za9,za6,ev_ix, *]; done))
    clear hKx Kx
    try walk_nrm
   refine za3 C T ?_
   show wpI _ _ _ _ _ _ _
   refine za5 C T ?_
   refine za2 C T ?_
   simp only [szR,Nat.reduceAdd]
   have e0 : IntKind.i32.wrap (s[0].toNat : Int) = (s[0]!.toNat : Int) := by rw [wrap32 (byteFits _),getElem!_pos s 0 hsz]
   have e1 : (s[0].toNat : Int) = (s[0]!.toNat : Int) := by rw [getElem!_pos s 0 hsz]
   have e2 : IntKind.i32.wrap (s[0]!.toNat : Int) = (s[0]!.toNat : Int) := wrap32 (byteFits _)
   try simp only [e1,e2]
   refine za1 C T rfl (by rfl) fun _ Kx hKx => ?_
   go_simp
   refine hKx _ ?_ (by first | (simp [go_sem]; done) | (simp [go_sem, *]; done) | (simp [go_sem,za7,za8,za9,za6,ev_ix, *]; done))
   clear hKx Kx
   try walk_nrm
   refine zh8 C T rfl (by rfl) rfl rfl (by simp [Act.eval]) (isLetter_x (r := (s[0]!.toNat : Int)) (byteFits s[0]!)) ?_
   iterate 2
    try walk_nrm
    refine za1 C T rfl (by rfl) fun _ Kx hKx => ?_
    go_simp
    refine hKx _ ?_ (by first | (simp [go_sem]; done) | (simp [go_sem, *]; done) | (simp [go_sem,za7,za8,za9,za6,ev_ix, *]; done))
    clear hKx Kx
   try walk_nrm
   refine zi0 (d := 18) rfl (fun hb => ?_) (fun hb => ?_)
   ·
    simp only [hb]
    try simp only [bolL,beq_iff_eq,beq_eq_false_iff_ne,bne_iff_ne,bne_eq_false_iff_eq] at hb
    refine za1 C T rfl (by rfl) fun _ Kx hKx => ?_
    go_simp
    refine hKx _ ?_ (by first | (simp [go_sem]; done) | (simp [go_sem, *]; done) | (simp [go_sem,za7,za8,za9,za6,ev_ix, *]; done))
    clear hKx Kx
    try walk_nrm
    refine zh8 C T rfl (by rfl) rfl rfl (by simp [Act.eval]) (isDigit_x (r := (s[0]!.toNat : Int))) ?_
    iterate 3
     try walk_nrm
     refine za1 C T rfl (by rfl) fun _ Kx hKx => ?_
     go_simp
     refine hKx _ ?_ (by first | (simp [go_sem]; done) | (simp [go_sem, *]; done) | (simp [go_sem,za7,za8,za9,za6,ev_ix, *]; done))
     clear hKx Kx
    try walk_nrm
    refine zi0 (d := 23) rfl (fun hb => ?_) (fun hb => ?_)
    ·
     simp only [hb]
     try simp only [bolL,beq_iff_eq,beq_eq_false_iff_ne,bne_iff_ne,bne_eq_false_iff_eq] at hb
     iterate 4
      refine za1 C T rfl (by rfl) fun _ Kx hKx => ?_
      go_simp
      refine hKx _ ?_ (by first | (simp [go_sem]; done) | (simp [go_sem, *]; done) | (simp [go_sem,za7,za8,za9,za6,ev_ix, *]; done))
      clear hKx Kx
      try walk_nrm
     refine za3 C T ?_
     show wpI _ _ _ _ _ _ _
     refine zc3 C T ?_
     refine ⟨.inr rfl,rfl,_,resultsC_tmp (by rfl) _,rfl,?_,rfl⟩
     simp [*]
    ·
     simp only [hb]
     try simp only [bolL,beq_iff_eq,beq_eq_false_iff_ne,bne_iff_ne,bne_eq_false_iff_eq] at hb
     iterate 2
      refine zb7 C T rfl (by rfl) ?_
      try walk_nrm
     iterate 2
      refine za1 C T rfl (by rfl) fun _ Kx hKx => ?_
      go_simp
      refine hKx _ ?_ (by first | (simp [go_sem]; done) | (simp [go_sem, *]; done) | (simp [go_sem,za7,za8,za9,za6,ev_ix, *]; done))
      clear hKx Kx
      try walk_nrm
     refine za3 C T ?_
     show wpI _ _ _ _ _ _ _
     refine zc3 C T ?_
     refine ⟨.inr rfl,rfl,_,resultsC_tmp (by rfl) _,rfl,?_,rfl⟩
     simp [*]
   ·
    simp only [hb]
    try simp only [bolL,beq_iff_eq,beq_eq_false_iff_ne,bne_iff_ne,bne_eq_false_iff_eq] at hb
    iterate 3
     refine zb7 C T rfl (by rfl) ?_
     try walk_nrm
    iterate 2
     refine za1 C T rfl (by rfl) fun _ Kx hKx => ?_
     go_simp
     refine hKx _ ?_ (by first | (simp [go_sem]; done) | (simp [go_sem, *]; done) | (simp [go_sem,za7,za8,za9,za6,ev_ix, *]; done))
     clear hKx Kx
     try walk_nrm
    iterate 2
     refine zb7 C T rfl (by rfl) ?_
     try walk_nrm
    iterate 2
     refine za1 C T rfl (by rfl) fun _ Kx hKx => ?_
     go_simp
     refine hKx _ ?_ (by first | (simp [go_sem]; done) | (simp [go_sem, *]; done) | (simp [go_sem,za7,za8,za9,za6,ev_ix, *]; done))
     clear hKx Kx
     try walk_nrm
    refine za3 C T ?_
    show wpI _ _ _ _ _ _ _
    refine zc3 C T ?_
    refine ⟨.inr rfl,rfl,_,resultsC_tmp (by rfl) _,rfl,?_,rfl⟩
    simp [*]
end
section
open Go.Conc Go.RowKit
theorem decode_low {s : ByteArray} {i : Nat} (h : i < s.size) (hb : (s[i]'h).toNat < 128) : Utf8.decode s i = ((s[i]'h).toNat,1) := by
 have e : (s.get! (i + 0)).toNat = (s[i]'h).toNat := by
  rw [Nat.add_zero]
  congr 1
  cases s
  exact getElem!_pos _ i h
 unfold Utf8.decode
 simp only [e]
 rw [if_pos hb]
end
set_option maxRecDepth 100000
set_option maxHeartbeats 2000000
section
open Go.Conc Go.RowKit
theorem ev_indexByte (s : ByteArray) (c : Int) (w : World) (es : Array Event) : (Extern.BytealgIndexByte.indexByte #[.string s, .int .u8 c]).events prog w es = es := by
 change Sem.events prog (do
  let b ← Extern.Bytes.bytesOf (.string s)
  let c' ← Extern.Bytes.asByte (.int .u8 c)
  match (List.range b.size).find? fun i => b[i]! == c' with
  | some i => pure (goInt i)
  | none => pure (goInt (-1))) w es = _
 simp only [Extern.Bytes.bytesOf,Extern.Bytes.asByte,Sem.events_bind,Sem.run_pure,Sem.events_pure,Result.evThen_ok]
 split <;> rfl
def idxB (s : ByteArray) (c : Int) : Int := Lib.indexByte s.data.toList c.toNat.toUInt8
theorem indexByte0_x (s : ByteArray) (c : Int) : PureI prog 373 #[.string s, .int .u8 c] (.int .i64 (idxB s c)) := by
 intro ι R D X C T i w
 have u9 := underlying9
 refine zc2 func373 (by rfl) rfl ?_
 simp only [ntmps373,List.size_toArray,List.length_cons,List.length_nil,Nat.reduceAdd,Nat.reduceSub,Array.replicate_succ,Array.replicate_zero,List.push_toArray,List.append_toArray,List.nil_append,List.cons_append]
 refine za5 C T ?_
 refine za2 C T ?_
 simp only [szR,Nat.reduceAdd]
 refine za1 C T rfl (by rfl) fun _ Kx hKx => ?_
 go_simp
 refine hKx _ ?_ (by first | (simp [go_sem]; done) | (simp [go_sem, *]; done) | (simp [go_sem,za7,za8,za9,za6,ev_ix, *]; done))
 clear hKx Kx
 try walk_nrm
 refine za3 C T ?_
 show wpI _ _ _ _ _ _ _
 refine za5 C T ?_
 refine za2 C T ?_
 simp only [szR,Nat.reduceAdd]
 iterate 2
  refine za1 C T rfl (by rfl) fun _ Kx hKx => ?_
  go_simp
  refine hKx _ ?_ (by first | (simp [go_sem]; done) | (simp [go_sem, *]; done) | (simp [go_sem,za7,za8,za9,za6,ev_ix, *]; done))
  clear hKx Kx
  try walk_nrm
 refine opsI_entry C T rfl (by rfl) rfl func386 (by rfl) (by rfl) (by kernel_rfl) (e := Extern.BytealgIndexByte.indexByte) (by kernel_rfl) (x := .int .i64 (idxB s c)) (args' := #[.string s, .int .u8 c]) (by simp [Act.eval]) (fun w => Lib.run_indexByteString s c w) (fun w es => ev_indexByte s c w es) ?_
 try walk_nrm
 refine za1 C T rfl (by rfl) fun _ Kx hKx => ?_
 go_simp
 refine hKx _ ?_ (by first | (simp [go_sem]; done) | (simp [go_sem, *]; done) | (simp [go_sem,za7,za8,za9,za6,ev_ix, *]; done))
 clear hKx Kx
 try walk_nrm
 refine za3 C T ?_
 show wpI _ _ _ _ _ _ _
 refine zc3 C T ?_
 refine ⟨.inr rfl,rfl,_,resultsC_tmp (by rfl) _,rfl,?_,rfl⟩
 simp
end
section
open Go.Conc Go.RowKit
section
variable {ι : Type} {P : Program} {R : ι → World → World → Prop} {D : ι → World → World → Array Event → Prop} {X : ι → Goroutine → World → Prop} {fn : FuncId} {Q : PostI ι} {a : Act} {w : World} {vs : ι} {KT : TypeId → Prop} {N0 : Nat} {M : World → Nat → Prop} {O : Nat → Prop} {H : List (Nat × Obj) → World → Prop} {l rl : List (Nat × Obj)}
theorem opsI_indexAddr (C : ClosedI P true R D X) (T : ∀ i,Terms (R i) (D i)) {ops : Array Oper} {i : Nat} {rest : List Nat} {o : Oper} {t e : TypeId} {x ix : Operand} {g off n cap k sz : Nat} {kd : IntKind} {z : Int} (ho : ops[i]? = some o) (hw : Region.wanted o (yielded ops a.tmps) = true) (hop : o.op = .indexAddr t x ix) (hx : a.eval x = .slice (some ⟨g,off,none⟩) n cap) (hix : a.eval ix = .int kd z) (hzk : z = (k : Int)) (hk : k < n) (ht : P.underlying t = some (.slice e)) (hs : (P.info? e).map (·.size) = some sz)
  (h : OpsI X fn ops rest vs Q (a.put o.dst (.pointer (some ⟨g,off + k * sz,none⟩))) w) : OpsI X fn ops (i :: rest) vs Q a w := by
 subst hzk
 refine za1 C T ho hw fun w₁ K hK => ?_
 cases hq : P.info? e with
 | none => simp [hq] at hs
 | some inf =>
  have hs' : inf.size = sz := by simpa [hq] using hs
  have hr : (execOp a.eval o).run P w₁ = .ok (.value (.pointer (some ⟨g,off + k * sz,none⟩))) w₁ := by
   simp [execOp,hop,hx,hix,Instr.indexAt,asIntOf,run_underlying ht,hk,sizeOf,typeInfo,hq,hs',Addr.add_lit]
  have he : (execOp a.eval o).events P w₁ #[] = #[] := by
   simp [execOp,hop,hx,hix,Instr.indexAt,asIntOf,run_underlying ht,hk,sizeOf,typeInfo,hq,hs',underlying,ht]
  rw [hr]
  exact hK _ h he
end
def StrsIn (v : Value) (xs : List ByteArray) (l : List (Nat × Obj)) : Prop :=
 ∃ ao cap,v = .slice ao xs.length cap ∧ (0 < xs.length → ∃ (g off k : Nat) (cur : Array Value) (t : TypeId) (fz : Nat × Nat),ao = some ⟨g,off,none⟩ ∧ l[k]? = some (g, .cells cur t fz) ∧ ∀ j s,xs[j]? = some s → cur[off + j]? = some (.string s))
def isNm (s : ByteArray) (xs : List ByteArray) : Bool := xs.any fun x => s.data.toList == x.data.toList
end
section
open Go.Conc Go.RowKit
theorem cells_of {w : World} {b : Nat} {cs : Array Value} {t : TypeId} {fz : Nat × Nat} (h : w.heap[b]? = some (.cells cs t fz)) (off : Nat) : w.cell? ⟨b,off,none⟩ = cs[off]? := by simp [World.cell?,h]
end
set_option maxRecDepth 100000
set_option maxHeartbeats 2000000
section
open Go.Conc Go.RowKit
section
variable {ι : Type} {R : ι → World → World → Prop} {D : ι → World → World → Array Event → Prop} {X : ι → Goroutine → World → Prop} {i : ι} {M : World → Nat → Prop} {O : Nat → Prop} {N0 : Nat} {H : List (Nat × Obj) → World → Prop} {w : World} {l : List (Nat × Obj)}
theorem is_x (C : ClosedI prog true R D X) (T : ∀ i,Terms (R i) (D i)) (Z : Co KTs N0 M O (R i) (D i) H) (s : ByteArray) (xs : List ByteArray) (v : Value) (hv : StrsIn v xs l) (hxs : xs.length ≤ 1000000) (hF : H (l) w) :
  CallsI prog X 127 #[.string s,v] i w (fun i' x w' => i' = i ∧ x = .bool (isNm s xs) ∧ H l w') := by
 have u9 := underlying9
 obtain ⟨ao,cap,rfl,hv⟩ := hv
 refine zc2 func127 (by rfl) rfl ?_
 simp only [ntmps127,List.size_toArray,List.length_cons,List.length_nil,Nat.reduceAdd,Nat.reduceSub,Array.replicate_succ,Array.replicate_zero,List.push_toArray,List.append_toArray,List.nil_append,List.cons_append]
 refine za5 C T ?_
 refine za2 C T ?_
 simp only [szR,Nat.reduceAdd]
 refine za1 C T rfl (by rfl) fun _ Kx hKx => ?_
 go_simp
 refine hKx _ ?_ (by first | (simp [go_sem]; done) | (simp [go_sem, *]; done) | (simp [go_sem,za7,za8,za9,za6,ev_ix, *]; done))
 clear hKx Kx
 try walk_nrm
 refine za3 C T ?_
 show wpI _ _ _ _ _ _ _
 iterate 2
  refine za5 C T ?_
 refine za2 C T ?_
 simp only [szR,Nat.reduceAdd]
 iterate 3
  refine za1 C T rfl (by rfl) fun _ Kx hKx => ?_
  go_simp
  refine hKx _ ?_ (by first | (simp [go_sem]; done) | (simp [go_sem, *]; done) | (simp [go_sem,za7,za8,za9,za6,ev_ix, *]; done))
  clear hKx Kx
  try walk_nrm
 refine za3 C T ?_
 show wpI _ _ _ _ _ _ _
 refine ze3 C T ?_
 refine wpI_loop C T (fun m i' a' w' => i' = i ∧ ∃ (k : Nat),H (l) w' ∧ k ≤ xs.length ∧ m = xs.length - k ∧ isNm s (xs.drop k) = isNm s xs ∧ ∃ x : Nat → Value,a' = ⟨#[.string s, .slice ao xs.length cap,x 2,x 3, .bool false,x 5,x 6, .slice ao xs.length cap, .int .i64 (xs.length : Int), .int .i64 (k : Int),x 10,x 11,x 12,x 13,x 14,x 15,x 16], []⟩) (xs.length) ⟨rfl,0,hF,by omega,rfl,rfl,fillT rfl⟩ ?_
 clear hF
 rintro m _ _ _ ⟨rfl,k,hF,hk,rfl,hI,x,rfl⟩
 refine za5 C T ?_
 refine za2 C T ?_
 simp only [szR,Nat.reduceAdd]
 refine za1 C T rfl (by rfl) fun _ Kx hKx => ?_
 go_simp
 refine hKx _ ?_ (by first | (simp [go_sem]; done) | (simp [go_sem, *]; done) | (simp [go_sem,za7,za8,za9,za6,ev_ix, *]; done))
 clear hKx Kx
 try walk_nrm
 refine za3 C T ?_
 show wpI _ _ _ _ _ _ _
 refine za5 C T ?_
 refine zf9 C T rfl (fun hb => ?_) (fun hb => ?_)
 ·
  try simp only [hb]
  try simp only [bolL,beq_iff_eq,beq_eq_false_iff_ne,bne_iff_ne,bne_eq_false_iff_eq] at hb
  refine ze0 C T ?_
  show wpI _ _ _ _ _ _ _
  refine za5 C T ?_
  refine ze3 C T ?_
  refine za5 C T ?_
  refine za2 C T ?_
  simp only [szR,Nat.reduceAdd]
  have hlt : k < xs.length := by omega
  obtain ⟨g,off,kk,cur,t,fz,rfl,hkk,hcur⟩ := hv (by omega)
  have hdrop : xs.drop k = xs[k] :: xs.drop (k + 1) := List.drop_eq_getElem_cons hlt
  have hck := hcur k xs[k] (List.getElem?_eq_getElem hlt)
  refine opsI_indexAddr C T (k := k) (sz := 1) rfl (by rfl) rfl (by rfl) (by rfl) rfl hlt underlying62 (by rfl) ?_
  simp only [Nat.mul_one]
  try walk_nrm
  refine zm7 C Z (v := .string xs[k]) kk rfl (by rfl) rfl (by rfl) underlying9 rfl hF hkk hck fun _ hF => ?_
  try walk_nrm
  refine za1 C T rfl (by rfl) fun _ Kx hKx => ?_
  go_simp
  refine hKx _ ?_ (by first | (simp [go_sem]; done) | (simp [go_sem, *]; done) | (simp [go_sem,za7,za8,za9,za6,ev_ix, *]; done))
  clear hKx Kx
  try walk_nrm
  refine za3 C T ?_
  show wpI _ _ _ _ _ _ _
  refine za5 C T ?_
  refine za2 C T ?_
  simp only [szR,Nat.reduceAdd]
  iterate 3
   refine za1 C T rfl (by rfl) fun _ Kx hKx => ?_
   go_simp
   refine hKx _ ?_ (by first | (simp [go_sem]; done) | (simp [go_sem, *]; done) | (simp [go_sem,za7,za8,za9,za6,ev_ix, *]; done))
   clear hKx Kx
   try walk_nrm
  refine za3 C T ?_
  show wpI _ _ _ _ _ _ _
  refine zf9 C T rfl (fun hb => ?_) (fun hb => ?_)
  ·
   try simp only [hb]
   try simp only [bolL,beq_iff_eq,beq_eq_false_iff_ne,bne_iff_ne,bne_eq_false_iff_eq] at hb
   refine za5 C T ?_
   refine za2 C T ?_
   simp only [szR,Nat.reduceAdd]
   refine za1 C T rfl (by rfl) fun _ Kx hKx => ?_
   go_simp
   refine hKx _ ?_ (by first | (simp [go_sem]; done) | (simp [go_sem, *]; done) | (simp [go_sem,za7,za8,za9,za6,ev_ix, *]; done))
   clear hKx Kx
   try walk_nrm
   refine za3 C T ?_
   show wpI _ _ _ _ _ _ _
   refine zc3 C T ?_
   refine ⟨.inr rfl,rfl,_,resultsC_tmp (by rfl) _,rfl,?_,hF⟩
   rw [ByteArray.toList_eq,ByteArray.toList_eq] at hb
   have hb2 : (s.data.toList == xs[k].data.toList) = true := beq_iff_eq.2 hb
   rw [← hI,hdrop,isNm,List.any_cons,hb2,Bool.true_or]
   rfl
  ·
   try simp only [hb]
   try simp only [bolL,beq_iff_eq,beq_eq_false_iff_ne,bne_iff_ne,bne_eq_false_iff_eq] at hb
   refine ze0 C T ?_
   show wpI _ _ _ _ _ _ _
   refine za2 C T ?_
   simp only [szR,Nat.reduceAdd]
   have e2 : IntKind.i64.wrap ((k : Int) + 1) = (k : Int) + 1 := by rw [IntKind.wrap_i64]; omega
   iterate 2
    refine za1 C T rfl (by rfl) fun _ Kx hKx => ?_
    go_simp
    refine hKx _ ?_ (by first | (simp [go_sem]; done) | (simp [go_sem, *]; done) | (simp [go_sem,za7,za8,za9,za6,ev_ix, *]; done))
    clear hKx Kx
    try walk_nrm
   refine za3 C T ?_
   refine ⟨xs.length - (k + 1),by omega,rfl,k + 1,hF,by omega,rfl,?_,fillT rfl⟩
   rw [ByteArray.toList_eq,ByteArray.toList_eq] at hb
   have hb2 : (s.data.toList == xs[k].data.toList) = false := beq_eq_false_iff_ne.2 hb
   rw [← hI,hdrop,isNm,isNm,List.any_cons,hb2,Bool.false_or]
 ·
  try simp only [hb]
  try simp only [bolL,beq_iff_eq,beq_eq_false_iff_ne,bne_iff_ne,bne_eq_false_iff_eq] at hb
  refine zl6 C T ?_
  simp only [zi4,thenI,if_true,Nat.reduceEqDiff,reduceIte]
  show wpI _ _ _ _ _ _ _
  refine za5 C T ?_
  refine za2 C T ?_
  simp only [szR,Nat.reduceAdd]
  refine za1 C T rfl (by rfl) fun _ Kx hKx => ?_
  go_simp
  refine hKx _ ?_ (by first | (simp [go_sem]; done) | (simp [go_sem, *]; done) | (simp [go_sem,za7,za8,za9,za6,ev_ix, *]; done))
  clear hKx Kx
  try walk_nrm
  refine za3 C T ?_
  show wpI _ _ _ _ _ _ _
  refine zc3 C T ?_
  refine ⟨.inr rfl,rfl,_,resultsC_tmp (by rfl) _,rfl,?_,hF⟩
  have e : xs.drop k = [] := List.drop_eq_nil_iff.2 (by omega)
  rw [← hI,e]
  rfl
end
end
section
open Go.Conc Go.RowKit
def txt (all : List Int) (a b : Nat) : List UInt8 := zf4 ((all.drop a).take (b - a))
end
section
open Go.Conc Go.RowKit
def blO (p u : Value) : Obj := .cells #[p,u] 119
section
variable {ι : Type} {R : ι → World → World → Prop} {D : ι → World → World → Array Event → Prop} {X : ι → Goroutine → World → Prop} {i : ι} {M : World → Nat → Prop} {O : Nat → Prop} {N0 : Nat} {w : World} {Bb Rb at_ : Nat} {p u v lv : Value} {n : Nat} {xs : List Value} {rl : List (Nat × Obj)}
theorem zg4 (x : Option Addr) (n c : Nat) (w : World) (es : Array Event) : (Builtin.len_ #[55] 3 #[.slice x n c]).events prog w es = es := by simp [Builtin.len_,go_sem]
end
end
end Go.Proofs.YtgcaionclkbehaaGreatDoor
