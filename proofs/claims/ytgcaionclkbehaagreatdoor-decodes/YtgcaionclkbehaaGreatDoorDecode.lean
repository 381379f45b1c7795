/-
  folio.Decode, whole.
-/
import Derived.Test.YtgcaionclkbehaaGreatDoorOf
set_option linter.all false
set_option linter.unusedSectionVars false
set_option linter.unusedSimpArgs false
namespace Go.Proofs.YtgcaionclkbehaaGreatDoor
open Go.Conc Go.RowKit
/-- What a call leaves of the world. -/
structure Ext (w w' : World) : Prop where
  tape : w'.tape = w.tape
  os : w'.os = w.os
  output : w'.output = w.output
  size : w.heap.size ≤ w'.heap.size
  block : ∀ b, b < w.heap.size → w'.heap[b]? = w.heap[b]?
section
variable {w₀ w w₁ : World} {Post : Value → World → Prop} {S : Nat → Prop}
theorem Ext.at {w₂ : World} (h : Ext w w₁) (r : AtRel w₁ w₂) : Ext w w₂ := by
  obtain ⟨e, rfl⟩ := r
  exact ⟨h.tape, h.os, h.output, h.size, h.block⟩
theorem He.ext {objs : List Obj} (h : He w objs w₁) : Ext w w₁ := ⟨h.tape, h.os, h.output, by rw [h.size]; omega, h.old⟩
theorem LowA.at {N Tb : Nat} {x : Value} (h : LowA w₀ N Tb x w) (r : AtRel w w₁) : LowA w₀ N Tb x w₁ := by
  obtain ⟨e, rfl⟩ := r
  exact ⟨h.tape, h.os, h.output, h.size, h.old, h.tx⟩
set_option maxRecDepth 100000 in
set_option maxHeartbeats 2000000 in
/-- ████ folio.Decode ████ -/
theorem decode_x (s : ByteArray) (hS : ∀ b, S b → b < w.heap.size) :
    CallsI Tryz.prog (ZI Tryz.prog Post 0) 50 #[.string s] S w (fun S' x w' => Ext w w' ∧ ((20000 < s.size ∧ S' = S ∧ x = .tuple #[.string ⟨#[]⟩, .int .i64 1]) ∨ (s.size ≤ 20000 ∧ S' = SE (w.heap.size + 3) S ∧ w.heap.size + 9 < w'.heap.size ∧ x = .tuple #[.string ⟨(utf8Of (lettersOf s)).toArray⟩, .int .i64 0]))) := by
  have C : ClosedI Tryz.prog true (fun _ : Nat → Prop => AtRel) DZ (ZI Tryz.prog Post 0) := ZI.closed
  have T : ∀ S, Terms AtRel (DZ S) := termsS
  have hF := He.start w
  have ln : ∀ w es, (Builtin.len_ #[9] 3 #[.string s]).events Tryz.prog w es = es := fun w es => by simp [Builtin.len_, go_sem]
  have al1 := fun w => alloc_run (w := w) Tryz.zeroValue9
  have ae1 := fun w es => alloc_events (w := w) Tryz.zeroValue9 es
  have bx := fun w v => box_run Tryz.prog w 9 v
  have be := fun w v es => box_events Tryz.prog w 9 v es
  have mk : ∀ w' es, (Instr.makeFunc (Fn.func 91) #[] #[Value.pointer (some ⟨w.heap.size, 0, none⟩), Value.pointer (some ⟨w.heap.size + 1, 0, none⟩)]).events Tryz.prog w' es = es := fun w' es => by simp [Instr.makeFunc]
  refine callsI_of Tryz.func50 (by rfl) rfl ?_
  simp only [Tryz.ntmps50, List.size_toArray, List.length_cons, List.length_nil, Nat.reduceAdd, Nat.reduceSub, Array.replicate_succ, Array.replicate_zero, List.push_toArray, List.append_toArray, List.nil_append, List.cons_append]
  refine wpI_seq C T ?_
  refine wpI_region C T ?_
  simp only [List.size_toArray, List.length_cons, List.length_nil, Nat.reduceAdd, Nat.zero_add, List.range, List.range.loop]
  refine opsI_cons C rfl (by rfl) fun _ hR Kx hKx => ?_
  replace hF := He.rely hF hR
  clear hR
  go_simp
  try (unfold stored; go_simp)
  refine hKx _ _ ⟨?_, ?_⟩
  · intro e he
    have hm := mem_listed he
    simp [go_sem, *] at hm
  clear hKx Kx
  try walk_nrm
  have hsz := hF.size
  simp only [List.length_cons, List.length_nil, Nat.reduceAdd, Nat.add_zero, Nat.zero_add] at hsz
  simp only [hsz]
  clear hsz
  replace hF := hF.alloc (.cells #[.string s] 9)
  simp only [List.cons_append, List.nil_append] at hF
  refine opsI_cons C rfl (by rfl) fun _ hR Kx hKx => ?_
  replace hF := He.rely hF hR
  clear hR
  go_simp
  try (unfold stored; go_simp)
  refine hKx _ _ ⟨?_, ?_⟩
  · co_quiet (T _)
  clear hKx Kx
  try walk_nrm
  refine opsI_cons C rfl (by rfl) fun _ hR Kx hKx => ?_
  replace hF := He.rely hF hR
  clear hR
  go_simp
  try (unfold stored; go_simp)
  refine hKx _ _ ⟨?_, ?_⟩
  · co_quiet (T _)
  clear hKx Kx
  try walk_nrm
  refine opsI_nil C T ?_
  show wpI _ _ _ _ _ _ _
  refine wpI_seq C T ?_
  refine wpI_seq C T ?_
  refine wpI_region C T ?_
  simp only [List.size_toArray, List.length_cons, List.length_nil, Nat.reduceAdd, Nat.zero_add, List.range, List.range.loop]
  refine opsI_cons C rfl (by rfl) fun _ hR Kx hKx => ?_
  replace hF := He.rely hF hR
  clear hR
  have hc := cell1 (b := w.heap.size) (hF.blocks 0 _ rfl)
  go_simp
  try (unfold stored; go_simp)
  refine hKx _ _ ⟨?_, ?_⟩
  · intro e he
    have hm := mem_listed he
    simp [go_sem, *] at hm
    subst hm; exact evs_at (w₀ := w) hS rfl (by simp)
  clear hKx Kx
  try walk_nrm
  clear hc
  refine opsI_cons C rfl (by rfl) fun _ hR Kx hKx => ?_
  replace hF := He.rely hF hR
  clear hR
  go_simp
  try (unfold stored; go_simp)
  refine hKx _ _ ⟨?_, ?_⟩
  · co_still (T _)
  clear hKx Kx
  try walk_nrm
  refine opsI_cons C rfl (by rfl) fun _ hR Kx hKx => ?_
  replace hF := He.rely hF hR
  clear hR
  go_simp
  try (unfold stored; go_simp)
  refine hKx _ _ ⟨?_, ?_⟩
  · co_quiet (T _)
  clear hKx Kx
  try walk_nrm
  refine opsI_nil C T ?_
  show wpI _ _ _ _ _ _ _
  by_cases hbig : 20000 < s.size
  · have hb : decide ((20000 : Int) < (s.size : Int)) = true := decide_eq_true (by omega)
    have hb2 : decide (20000 < s.size) = true := decide_eq_true hbig
    have hb3 : decide ((s.size : Int) > 20000) = true := decide_eq_true (by omega)
    try simp only [hb, hb2, hb3]
    refine wpI_cond C T (t := true) rfl ?_
    simp only [if_true, if_false, reduceIte, Bool.false_eq_true]
    refine wpI_seq C T ?_
    refine wpI_region C T ?_
    simp only [List.size_toArray, List.length_cons, List.length_nil, Nat.reduceAdd, Nat.zero_add, List.range, List.range.loop]
    refine opsI_cons C rfl (by rfl) fun _ hR Kx hKx => ?_
    replace hF := He.rely hF hR
    clear hR
    go_simp
    try (unfold stored; go_simp)
    refine hKx _ _ ⟨?_, ?_⟩
    · co_quiet (T _)
    clear hKx Kx
    try walk_nrm
    refine opsI_cons C rfl (by rfl) fun _ hR Kx hKx => ?_
    replace hF := He.rely hF hR
    clear hR
    go_simp
    try (unfold stored; go_simp)
    refine hKx _ _ ⟨?_, ?_⟩
    · co_quiet (T _)
    clear hKx Kx
    try walk_nrm
    refine opsI_nil C T ?_
    show wpI _ _ _ _ _ _ _
    refine wpI_ret C T ?_
    exact ⟨.inr rfl, rfl, _, resultsC_tmp2 (by rfl) _, hF.ext, .inl ⟨hbig, rfl, rfl⟩⟩
  · have hb : decide ((20000 : Int) < (s.size : Int)) = false := decide_eq_false (by omega)
    have hb2 : decide (20000 < s.size) = false := decide_eq_false hbig
    have hb3 : decide ((s.size : Int) > 20000) = false := decide_eq_false (by omega)
    try simp only [hb, hb2, hb3]
    refine wpI_cond C T (t := false) rfl ?_
    simp only [if_true, if_false, reduceIte, Bool.false_eq_true]
    refine wpI_skip C T ?_
    show wpI _ _ _ _ _ _ _
    refine wpI_seq C T ?_
    refine wpI_region C T ?_
    simp only [List.size_toArray, List.length_cons, List.length_nil, Nat.reduceAdd, Nat.zero_add, List.range, List.range.loop]
    refine opsI_cons C rfl (by rfl) fun _ hR Kx hKx => ?_
    replace hF := He.rely hF hR
    clear hR
    go_simp
    try (unfold stored; go_simp)
    refine hKx _ _ ⟨?_, ?_⟩
    · intro e he
      have hm := mem_listed he
      simp [go_sem, *] at hm
    clear hKx Kx
    try walk_nrm
    have hsz := hF.size
    simp only [List.length_cons, List.length_nil, Nat.reduceAdd, Nat.add_zero, Nat.zero_add] at hsz
    simp only [hsz]
    clear hsz
    replace hF := hF.alloc (.cells #[.string ⟨#[]⟩] 9)
    simp only [List.cons_append, List.nil_append] at hF
    refine opsI_nil C T ?_
    show wpI _ _ _ _ _ _ _
    refine wpI_seq C T ?_
    refine wpI_region C T ?_
    simp only [List.size_toArray, List.length_cons, List.length_nil, Nat.reduceAdd, Nat.zero_add, List.range, List.range.loop]
    refine opsI_cons C rfl (by rfl) fun _ hR Kx hKx => ?_
    replace hF := He.rely hF hR
    clear hR
    have hc := cell1 (b := w.heap.size) (hF.blocks 0 _ rfl)
    go_simp
    try (unfold stored; go_simp)
    refine hKx _ _ ⟨?_, ?_⟩
    · intro e he
      have hm := mem_listed he
      simp [go_sem, *] at hm
      subst hm; exact evs_at (w₀ := w) hS rfl (by simp)
    clear hKx Kx
    try walk_nrm
    clear hc
    refine opsI_cons C rfl (by rfl) fun _ hR Kx hKx => ?_
    replace hF := He.rely hF hR
    clear hR
    go_simp
    try (unfold stored; go_simp)
    refine hKx _ _ ⟨?_, ?_⟩
    · intro e he
      have hm := mem_listed he
      simp [go_sem, *] at hm
    clear hKx Kx
    try walk_nrm
    have hsz := hF.size
    simp only [List.length_cons, List.length_nil, Nat.reduceAdd, Nat.add_zero, Nat.zero_add] at hsz
    simp only [hsz]
    clear hsz
    replace hF := hF.alloc (.cells #[.string s] 9)
    simp only [List.cons_append, List.nil_append] at hF
    refine opsI_cons C rfl (by rfl) fun _ hR Kx hKx => ?_
    replace hF := He.rely hF hR
    clear hR
    go_simp
    try (unfold stored; go_simp)
    refine hKx _ _ ⟨?_, ?_⟩
    · co_still (T _)
    clear hKx Kx
    try walk_nrm
    have H : HOf _ (w.heap.size + 3) (w.heap.size + 2) w.heap.size (w.heap.size + 1) s S := ⟨hF.size, cell1 (hF.blocks 2 _ rfl), hF.blocks 0 _ rfl, hF.blocks 1 _ rfl, by omega, by omega, by omega, by omega, by omega, by omega, fun b h => by have := hS b h; omega, by omega⟩
    refine opsI_callX C T rfl (by rfl) rfl rfl (by simp [Act.eval]) rfl (ofbytes_x H) ?_
    rintro _ _ w2 ⟨rfl, hL, _⟩
    have E : Env KTs (w.heap.size + 10) (mineZ (SE (w.heap.size + 3) S)) (fun _ => False) AtRel (DZ (SE (w.heap.size + 3) S)) := envZ fun b h => by rcases h with h | h; have := hS b h; omega; omega
    have hTm : ∀ w', w.heap.size + 3 + 9 ≤ w'.heap.size → mineZ (SE (w.heap.size + 3) S) w' (w.heap.size + 1) := fun w' h => ⟨by omega, fun z => by rcases z with z | z; have := hS _ z; omega; omega⟩
    refine opsI_nil C T ?_
    show wpI _ _ _ _ _ _ _
    refine wpI_seq C T ?_
    refine wpI_region C T ?_
    simp only [List.size_toArray, List.length_cons, List.length_nil, Nat.reduceAdd, Nat.zero_add, List.range, List.range.loop]
    refine opsI_cons C rfl (by rfl) fun _ hR Kx hKx => ?_
    replace hL := LowA.at hL hR
    clear hR
    have hc := cell1 hL.tx
    go_simp
    try (unfold stored; go_simp)
    refine hKx _ _ ⟨?_, ?_⟩
    · refine dm_read (i := SE (w.heap.size + 3) S) (R := fun _ => AtRel) (D := DZ) E (by have := hL.size; omega) ?_
      co_evs (exact evo_at rfl (hTm _ hL.size))
    clear hKx Kx
    try walk_nrm
    clear hc
    refine opsI_cons C rfl (by rfl) fun _ hR Kx hKx => ?_
    replace hL := LowA.at hL hR
    clear hR
    go_simp
    try (unfold stored; go_simp)
    refine hKx _ _ ⟨?_, ?_⟩
    · co_quiet (T _)
    clear hKx Kx
    try walk_nrm
    refine opsI_cons C rfl (by rfl) fun _ hR Kx hKx => ?_
    replace hL := LowA.at hL hR
    clear hR
    go_simp
    try (unfold stored; go_simp)
    refine hKx _ _ ⟨?_, ?_⟩
    · co_quiet (T _)
    clear hKx Kx
    try walk_nrm
    refine opsI_nil C T ?_
    show wpI _ _ _ _ _ _ _
    refine wpI_ret C T ?_
    refine ⟨.inr rfl, rfl, _, resultsC_tmp2 (by rfl) _, ⟨hL.tape.trans hF.tape, hL.os.trans hF.os, hL.output.trans hF.output, by have := hL.size; omega, fun b hb => (hL.old b (by omega) (by omega)).trans (hF.old b hb)⟩, .inr ⟨by omega, rfl, by have := hL.size; omega, rfl⟩⟩
end
end Go.Proofs.YtgcaionclkbehaaGreatDoor
