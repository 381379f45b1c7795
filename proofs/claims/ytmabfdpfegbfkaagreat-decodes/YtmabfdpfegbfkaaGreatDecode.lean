/-
  folio.Decode, alone.
-/
import Derived.Test.YtmabfdpfegbfkaaGreatString
set_option linter.all false
set_option linter.unusedSectionVars false
set_option linter.unusedSimpArgs false
namespace Go.Proofs.YtmabfdpfegbfkaaGreat
open Go.Conc Go.RowKit
/-- The bytes of letters. -/
def utf8Of (l : List Int) : List UInt8 := l.flatMap Lib.encodeRune
theorem cellsOf_utf8 (l : List Int) : cellsOf l = Lib.byteCells (utf8Of l) := by
  induction l with
  | nil => rfl
  | cons r l ih =>
    have e : cellsOf (r :: l) = Lib.runeCells r ++ cellsOf l := rfl
    have e2 : utf8Of (r :: l) = Lib.encodeRune r ++ utf8Of l := rfl
    rw [e, e2, ih, ← Lib.byteCells_encodeRune]
    simp [Lib.byteCells]
theorem utf8Of_length (l : List Int) : (utf8Of l).length ≤ 4 * l.length := by
  induction l with
  | nil => simp [utf8Of]
  | cons r l ih =>
    have e2 : utf8Of (r :: l) = Lib.encodeRune r ++ utf8Of l := rfl
    have h := (Lib.runeCells_le r).2
    rw [Lib.runeCells_length] at h
    rw [e2, List.length_append, List.length_cons]
    omega
/-- What a call leaves of the world. -/
structure Ext (w w' : World) : Prop where
  tape : w'.tape = w.tape
  os : w'.os = w.os
  output : w'.output = w.output
  size : w.heap.size ≤ w'.heap.size
  block : ∀ b, b < w.heap.size → w'.heap[b]? = w.heap[b]?
structure Ext7 (w w' : World) : Prop extends Ext w w' where
  big : w.heap.size + 7 < w'.heap.size
section
variable {w₀ w w₁ : World} {Post : Value → World → Prop} {S : Nat → Prop}
theorem Ext.at {w₂ : World} (h : Ext w w₁) (r : AtRel w₁ w₂) : Ext w w₂ := by
  obtain ⟨e, rfl⟩ := r
  exact ⟨h.tape, h.os, h.output, h.size, h.block⟩
theorem Ext7.at {w₂ : World} (h : Ext7 w w₁) (r : AtRel w₁ w₂) : Ext7 w w₂ := by
  obtain ⟨e, rfl⟩ := r
  exact ⟨⟨h.tape, h.os, h.output, h.size, h.block⟩, h.big⟩
theorem He.ext {objs : List Obj} (h : He w objs w₁) : Ext w w₁ := ⟨h.tape, h.os, h.output, by rw [h.size]; omega, h.old⟩
set_option maxRecDepth 100000 in
set_option maxHeartbeats 2000000 in
/-- ████ folio.Decode ████ -/
theorem decode_x (s : ByteArray) (hS : ∀ b, S b → b < w.heap.size) :
    CallsI Tryz.prog (ZI Tryz.prog Post 0) 7 #[.string s] S w (fun S' x w' => Ext w w' ∧ ((20000 < s.size ∧ S' = S ∧ x = .tuple #[.string ⟨#[]⟩, .int .i64 1]) ∨ (s.size ≤ 20000 ∧ S' = SE (w.heap.size + 2) S ∧ w.heap.size + 7 < w'.heap.size ∧ x = .tuple #[.string ⟨(utf8Of (lettersOf s)).toArray⟩, .int .i64 0]))) := by
  have C : ClosedI Tryz.prog true (fun _ : Nat → Prop => AtRel) DZ (ZI Tryz.prog Post 0) := ZI.closed
  have T : ∀ S, Terms AtRel (DZ S) := termsS
  have hF := He.start w
  have ln : ∀ w es, (Builtin.len_ #[9] 3 #[.string s]).events Tryz.prog w es = es := fun w es => by simp [Builtin.len_, go_sem]
  have al1 := fun w => alloc_run (w := w) Tryz.zeroValue69
  have ae1 := fun w es => alloc_events (w := w) Tryz.zeroValue69 es
  have mk : ∀ wz w es, (Instr.makeFunc (Fn.func 19) #[] #[Value.pointer (some ⟨wz, 0, none⟩)]).events Tryz.prog w es = es := fun wz w es => by simp [Instr.makeFunc]
  refine callsI_of Tryz.func7 (by rfl) rfl ?_
  simp only [Tryz.ntmps7, List.size_toArray, List.length_cons, List.length_nil, Nat.reduceAdd, Nat.reduceSub, Array.replicate_succ, Array.replicate_zero, List.push_toArray, List.append_toArray, List.nil_append, List.cons_append]
  refine wpI_seq C T ?_
  refine wpI_region C T ?_
  simp only [List.size_toArray, List.length_cons, List.length_nil, Nat.reduceAdd, Nat.zero_add, List.range, List.range.loop]
  refine opsI_cons C rfl (by rfl) fun _ hR Kx hKx => ?_
  replace hF := He.rely hF hR
  clear hR
  go_simp
  try (unfold stored; go_simp)
  refine hKx _ _ ⟨?_, ?_⟩
  · co_quiet (T S)
  clear hKx Kx
  try walk_nrm
  refine opsI_cons C rfl (by rfl) fun _ hR Kx hKx => ?_
  replace hF := He.rely hF hR
  clear hR
  go_simp
  try (unfold stored; go_simp)
  refine hKx _ _ ⟨?_, ?_⟩
  · co_quiet (T S)
  clear hKx Kx
  try walk_nrm
  refine opsI_nil C T ?_
  show wpI _ _ _ _ _ _ _
  refine wpI_seq C T ?_
  refine wpI_seq C T ?_
  refine wpI_region C T ?_
  simp only [List.size_toArray, List.length_cons, List.length_nil, Nat.reduceAdd, Nat.zero_add, List.range, List.range.loop]
  refine opsI_cons C rfl (by rfl) fun _ hR Kx hKx => ?_
  replace hF := He.rely hF hR
  clear hR
  go_simp
  try (unfold stored; go_simp)
  refine hKx _ _ ⟨?_, ?_⟩
  · co_quiet (T S)
  clear hKx Kx
  try walk_nrm
  refine opsI_cons C rfl (by rfl) fun _ hR Kx hKx => ?_
  replace hF := He.rely hF hR
  clear hR
  go_simp
  try (unfold stored; go_simp)
  refine hKx _ _ ⟨?_, ?_⟩
  · co_still (T S)
  clear hKx Kx
  try walk_nrm
  refine opsI_cons C rfl (by rfl) fun _ hR Kx hKx => ?_
  replace hF := He.rely hF hR
  clear hR
  go_simp
  try (unfold stored; go_simp)
  refine hKx _ _ ⟨?_, ?_⟩
  · co_quiet (T S)
  clear hKx Kx
  try walk_nrm
  refine opsI_nil C T ?_
  show wpI _ _ _ _ _ _ _
  by_cases hb : 20000 < s.size
  · have hbb : decide ((20000 : Int) < (s.size : Int)) = true := decide_eq_true (by omega)
    try simp only [hbb]
    refine wpI_cond C T (t := true) rfl ?_
    simp only [if_true, if_false, reduceIte, Bool.false_eq_true]
    refine wpI_seq C T ?_
    refine wpI_region C T ?_
    simp only [List.size_toArray, List.length_cons, List.length_nil, Nat.reduceAdd, Nat.zero_add, List.range, List.range.loop]
    refine opsI_cons C rfl (by rfl) fun _ hR Kx hKx => ?_
    replace hF := He.rely hF hR
    clear hR
    go_simp
    try (unfold stored; go_simp)
    refine hKx _ _ ⟨?_, ?_⟩
    · co_quiet (T S)
    clear hKx Kx
    try walk_nrm
    refine opsI_cons C rfl (by rfl) fun _ hR Kx hKx => ?_
    replace hF := He.rely hF hR
    clear hR
    go_simp
    try (unfold stored; go_simp)
    refine hKx _ _ ⟨?_, ?_⟩
    · co_quiet (T S)
    clear hKx Kx
    try walk_nrm
    refine opsI_nil C T ?_
    show wpI _ _ _ _ _ _ _
    refine wpI_ret C T ?_
    exact ⟨.inr rfl, rfl, _, resultsC_tmp2 (by rfl) _, hF.ext, .inl ⟨hb, rfl, rfl⟩⟩
  · have hbb : decide ((20000 : Int) < (s.size : Int)) = false := decide_eq_false (by omega)
    try simp only [hbb]
    refine wpI_cond C T (t := false) rfl ?_
    simp only [if_true, if_false, reduceIte, Bool.false_eq_true]
    refine wpI_skip C T ?_
    show wpI _ _ _ _ _ _ _
    refine wpI_seq C T ?_
    refine wpI_region C T ?_
    simp only [List.size_toArray, List.length_cons, List.length_nil, Nat.reduceAdd, Nat.zero_add, List.range, List.range.loop]
    refine opsI_cons C rfl (by rfl) fun _ hR Kx hKx => ?_
    replace hF := He.rely hF hR
    clear hR
    go_simp
    try (unfold stored; go_simp)
    refine hKx _ _ ⟨?_, ?_⟩
    · intro e he
      have hm := mem_listed he
      simp [go_sem, *] at hm
    clear hKx Kx
    try walk_nrm
    have hsz := hF.size
    simp only [List.length_cons, List.length_nil, Nat.reduceAdd, Nat.add_zero, Nat.zero_add] at hsz
    simp only [hsz]
    clear hsz
    replace hF := hF.alloc (.cells #[.pointer none, .slice none 0 0] 69)
    simp only [List.cons_append, List.nil_append] at hF
    refine opsI_nil C T ?_
    show wpI _ _ _ _ _ _ _
    refine wpI_seq C T ?_
    refine wpI_region C T ?_
    simp only [List.size_toArray, List.length_cons, List.length_nil, Nat.reduceAdd, Nat.zero_add, List.range, List.range.loop]
    refine opsI_cons C rfl (by rfl) fun _ hR Kx hKx => ?_
    replace hF := He.rely hF hR
    clear hR
    go_simp
    try (unfold stored; go_simp)
    refine hKx _ _ ⟨?_, ?_⟩
    · co_quiet (T S)
    clear hKx Kx
    try walk_nrm
    refine opsI_cons C rfl (by rfl) fun _ hR Kx hKx => ?_
    replace hF := He.rely hF hR
    clear hR
    go_simp
    try (unfold stored; go_simp)
    refine hKx _ _ ⟨?_, ?_⟩
    · intro e he
      have hm := mem_listed he
      simp [go_sem, *] at hm
    clear hKx Kx
    try walk_nrm
    have hsz := hF.size
    simp only [List.length_cons, List.length_nil, Nat.reduceAdd, Nat.add_zero, Nat.zero_add] at hsz
    simp only [hsz]
    clear hsz
    replace hF := hF.alloc (.cells #[.string s] 9)
    simp only [List.cons_append, List.nil_append] at hF
    refine opsI_cons C rfl (by rfl) fun _ hR Kx hKx => ?_
    replace hF := He.rely hF hR
    clear hR
    go_simp
    try (unfold stored; go_simp)
    refine hKx _ _ ⟨?_, ?_⟩
    · co_still (T S)
    clear hKx Kx
    try walk_nrm
    obtain ⟨hgood, hfew⟩ := letters_good s (by omega)
    have hHE := fun (w₁ : World) (hF : He w [.cells #[.pointer none, .slice none 0 0] 69, .cells #[.string s] 9] w₁) => (show HEach w₁ (w.heap.size + 2) (w.heap.size + 1) w.heap.size s S from ⟨hF.size, hF.blocks 0 _ rfl, cell1 (hF.blocks 1 _ rfl), by omega, by omega, by omega, fun b h => by have := hS b h; omega, by omega, hgood, hfew⟩)
    refine opsI_callX C T rfl (by rfl) rfl rfl (by simp [Act.eval]) rfl (each_x (hHE _ hF)) ?_
    rintro _ _ w₂ ⟨rfl, ⟨p, v, hm⟩, hwg⟩
    try walk_nrm
    refine opsI_nil C T ?_
    show wpI _ _ _ _ _ _ _
    rw [cellsOf_utf8, show (Lib.byteCells (utf8Of (lettersOf s))).length = (utf8Of (lettersOf s)).length by simp [Lib.byteCells]] at hm
    have hlen := utf8Of_length (lettersOf s)
    have hE : Ext7 w w₂ := ⟨⟨hm.old.tape.trans hF.tape, hm.old.os.trans hF.os, hm.old.output.trans hF.output, by have := hm.size; omega, fun b h => (hm.old.block b (by omega) (by omega)).trans (hF.old b h)⟩, by have := hm.size; omega⟩
    refine wpI_seq C T ?_
    refine wpI_region C T ?_
    simp only [List.size_toArray, List.length_cons, List.length_nil, Nat.reduceAdd, Nat.zero_add, List.range, List.range.loop]
    refine opsI_callX C T rfl (by rfl) rfl rfl (by simp [Act.eval]) rfl (string_x (utf8Of (lettersOf s)) (fun b h => h.elim (fun h => by have := hS b h; omega) (fun h => by omega)) hm (by omega)) ?_
    rintro _ _ w₃ ⟨rfl, rfl, h10⟩
    try walk_nrm
    replace hE : Ext7 w w₃ := ⟨⟨h10.tape.trans hE.tape, h10.os.trans hE.os, h10.output.trans hE.output, Nat.le_trans hE.size h10.size, fun b h => (h10.block b (by omega)).trans (hE.block b h)⟩, Nat.lt_of_lt_of_le hE.big h10.size⟩
    refine opsI_cons C rfl (by rfl) fun _ hR Kx hKx => ?_
    replace hE := Ext7.at hE hR
    clear hR
    go_simp
    try (unfold stored; go_simp)
    refine hKx _ _ ⟨?_, ?_⟩
    · co_quiet (T (SE (w.heap.size + 2) S))
    clear hKx Kx
    try walk_nrm
    refine opsI_cons C rfl (by rfl) fun _ hR Kx hKx => ?_
    replace hE := Ext7.at hE hR
    clear hR
    go_simp
    try (unfold stored; go_simp)
    refine hKx _ _ ⟨?_, ?_⟩
    · co_quiet (T (SE (w.heap.size + 2) S))
    clear hKx Kx
    try walk_nrm
    refine opsI_nil C T ?_
    show wpI _ _ _ _ _ _ _
    refine wpI_ret C T ?_
    exact ⟨.inr rfl, rfl, _, resultsC_tmp2 (by rfl) _, hE.toExt, .inr ⟨by omega, rfl, hE.big, rfl⟩⟩
end
end Go.Proofs.YtmabfdpfegbfkaaGreat
