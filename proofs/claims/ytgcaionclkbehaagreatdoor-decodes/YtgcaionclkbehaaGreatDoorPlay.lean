/-
  foliolaw.played, up to Decode.
-/
import Derived.Test.YtgcaionclkbehaaGreatDoorStill
set_option linter.all false
set_option linter.unusedSectionVars false
set_option linter.unusedSimpArgs false
namespace Go.Proofs.YtgcaionclkbehaaGreatDoor
open Go.Conc Go.RowKit
section
variable {w w₁ w₂ : World} {Post : Value → World → Prop} {S : Nat → Prop}
theorem Ext.cell (h : Ext w w₁) {ad : Addr} (hb : ad.block < w.heap.size) : w₁.cell? ad = w.cell? ad := by unfold World.cell?; rw [h.block _ hb]
/-- What 'played' holds between its steps. -/
structure HP4 (w : World) (S : Nat → Prop) (w' : World) : Prop where
  ext : Ext w w'
  box : w'.heap[w.heap.size]? = some (.cells emptyW 74)
  size : w.heap.size < w'.heap.size
  lo : ∀ b, S b → w.heap.size < b ∧ b < w'.heap.size
theorem HP4.at (h : HP4 w S w₁) (r : AtRel w₁ w₂) : HP4 w S w₂ := by
  obtain ⟨e, rfl⟩ := r
  exact ⟨⟨h.ext.tape, h.ext.os, h.ext.output, h.ext.size, h.ext.block⟩, h.box, h.size, h.lo⟩
theorem HP4.step {S' : Nat → Prop} (h : HP4 w S w₁) (he : Ext w₁ w₂) (ho : SOk w₁ S S' w₂) : HP4 w S' w₂ :=
  ⟨h.ext.trans he, (he.block _ h.size).trans h.box, Nat.lt_of_lt_of_le h.size he.size, fun b hb => ⟨(ho.new b hb).elim (fun z => (h.lo b z).1) (fun z => Nat.lt_of_lt_of_le h.size z), ho.low b hb⟩⟩
def A0 : ByteArray := ⟨#[60, 116, 105, 116, 108, 101, 62, 116, 60, 47, 116, 105, 116, 108, 101, 62, 60, 97, 32, 104, 114, 101, 102, 61, 120, 62, 121, 60, 112, 62, 38, 97, 109, 112, 59, 195, 169]⟩
def B0 : ByteArray := ⟨#[104, 116, 116, 112, 58, 47, 47, 104, 47, 97]⟩
set_option maxRecDepth 100000 in
set_option maxHeartbeats 2000000 in
theorem played_x (a0 : Option Addr) (len cap Sb so : Nat) (kd on : Nat → Int) (A B : Nat → ByteArray) (L : Nat → Value) (hlen : len ≤ 140737488355328) (hS : ∀ b, ¬ S b) (ha : 0 < len → a0 = some ⟨Sb, so, none⟩) (hSb : 0 < len → Sb < w.heap.size)
    (hscr : ∀ i, i < len → ∀ j v, (opV (kd i) (on i) (A i) (B i) (L i))[j]? = some v → w.cell? ⟨Sb, so + i * 5 + j, none⟩ = some v) :
    CallsI Tryz.prog (ZI Tryz.prog Post 0) 14 #[.slice a0 len cap, .int .i64 1] S w (fun _ x w' => x = .bool true ∧ Ext w w') := by
  have C : ClosedI Tryz.prog true (fun _ : Nat → Prop => AtRel) DZ (ZI Tryz.prog Post 0) := ZI.closed
  have T : ∀ S, Terms AtRel (DZ S) := termsS
  have hF := He.start w
  have bx := fun w v => box_run Tryz.prog w 74 v
  have be := fun w v es => box_events Tryz.prog w 74 v es
  have bl1 : ∀ w, (Instr.build 74 #[]).run Tryz.prog w = .ok (.agg emptyW) w := fun w => run_build w 74 #[] emptyW (by kernel_rfl)
  have bl2 : ∀ w es, (Instr.build 74 #[]).events Tryz.prog w es = es := fun w es => build_events w 74 #[] emptyW (by kernel_rfl) es
  have bl3 : ∀ k w, (Instr.build 77 #[(0, .int .i64 k), (2, .string A0), (3, .string B0)]).run Tryz.prog w = .ok (.agg (opV k 0 A0 B0 (.slice none 0 0))) w := fun k w => run_build w 77 _ _ (by kernel_rfl)
  have bl4 : ∀ k w es, (Instr.build 77 #[(0, .int .i64 k), (2, .string A0), (3, .string B0)]).events Tryz.prog w es = es := fun k w es => build_events w 77 #[(0, .int .i64 k), (2, .string A0), (3, .string B0)] (opV k 0 A0 B0 (.slice none 0 0)) (by kernel_rfl) es
  simp only [A0, B0] at bl3 bl4
  have ln : ∀ w es, (Builtin.len_ #[22] 3 #[.slice a0 len cap]).events Tryz.prog w es = es := fun w es => by simp [Builtin.len_, go_sem]
  refine callsI_of Tryz.func14 (by rfl) rfl ?_
  simp only [Tryz.ntmps14, List.size_toArray, List.length_cons, List.length_nil, Nat.reduceAdd, Nat.reduceSub, Array.replicate_succ, Array.replicate_zero, List.push_toArray, List.append_toArray, List.nil_append, List.cons_append]
  refine wpI_seq C T ?_
  refine wpI_region C T ?_
  simp only [List.size_toArray, List.length_cons, List.length_nil, Nat.reduceAdd, Nat.zero_add, List.range, List.range.loop]
  refine opsI_cons C rfl (by rfl) fun _ hR Kx hKx => ?_
  replace hF := He.rely hF hR
  clear hR
  go_simp
  try (unfold stored; go_simp)
  refine hKx _ _ ⟨?_, ?_⟩
  · co_quiet (T _)
  clear hKx Kx
  try walk_nrm
  refine opsI_nil C T ?_
  show wpI _ _ _ _ _ _ _
  refine wpI_seq C T ?_
  refine wpI_region C T ?_
  simp only [List.size_toArray, List.length_cons, List.length_nil, Nat.reduceAdd, Nat.zero_add, List.range, List.range.loop]
  refine opsI_cons C rfl (by rfl) fun _ hR Kx hKx => ?_
  replace hF := He.rely hF hR
  clear hR
  go_simp
  try (unfold stored; go_simp)
  refine hKx _ _ ⟨?_, ?_⟩
  · co_still (T _)
  clear hKx Kx
  try walk_nrm
  refine opsI_cons C rfl (by rfl) fun _ hR Kx hKx => ?_
  replace hF := He.rely hF hR
  clear hR
  go_simp
  try (unfold stored; go_simp)
  refine hKx _ _ ⟨?_, ?_⟩
  · intro e he
    have hm := mem_listed he
    simp [go_sem, *] at hm
  clear hKx Kx
  try walk_nrm
  have hsz := hF.size
  simp only [List.length_cons, List.length_nil, Nat.reduceAdd, Nat.add_zero, Nat.zero_add] at hsz
  simp only [hsz]
  clear hsz
  replace hF := hF.alloc (.cells emptyW 74)
  simp only [List.cons_append, List.nil_append] at hF
  refine opsI_cons C rfl (by rfl) fun _ hR Kx hKx => ?_
  replace hF := He.rely hF hR
  clear hR
  go_simp
  try (unfold stored; go_simp)
  refine hKx _ _ ⟨?_, ?_⟩
  · co_quiet (T _)
  clear hKx Kx
  try walk_nrm
  refine opsI_nil C T ?_
  show wpI _ _ _ _ _ _ _
  replace hF := (⟨hF.ext, hF.blocks 0 _ rfl, by have := hF.size; simp only [List.length_cons, List.length_nil] at this; omega, fun b hb => absurd hb (hS b)⟩ : HP4 w S _)
  refine wpI_seq C T ?_
  refine wpI_region C T ?_
  simp only [List.size_toArray, List.length_cons, List.length_nil, Nat.reduceAdd, Nat.zero_add, List.range, List.range.loop]
  refine opsI_cons C rfl (by rfl) fun _ hR Kx hKx => ?_
  replace hF := HP4.at hF hR
  clear hR
  go_simp
  try (unfold stored; go_simp)
  refine hKx _ _ ⟨?_, ?_⟩
  · co_quiet (T _)
  clear hKx Kx
  try walk_nrm
  refine opsI_nil C T ?_
  show wpI _ _ _ _ _ _ _
  refine wpI_seq C T ?_
  refine wpI_seq C T ?_
  refine wpI_region C T ?_
  simp only [List.size_toArray, List.length_cons, List.length_nil, Nat.reduceAdd, Nat.zero_add, List.range, List.range.loop]
  refine opsI_cons C rfl (by rfl) fun _ hR Kx hKx => ?_
  replace hF := HP4.at hF hR
  clear hR
  go_simp
  try (unfold stored; go_simp)
  refine hKx _ _ ⟨?_, ?_⟩
  · co_quiet (T _)
  clear hKx Kx
  try walk_nrm
  refine opsI_nil C T ?_
  show wpI _ _ _ _ _ _ _
  refine wpI_block C T ?_
  refine wpI_loop C T (fun m i a w' => HP4 w i w' ∧ ∃ (k : Int), ((m = 1 ∧ k = 1) ∨ (m = 0 ∧ k = 2)) ∧ ∃ x : Nat → Value, a = ⟨#[.slice a0 len cap, .int .i64 1, undef, undef, .bool false, .pointer (some ⟨w.heap.size, 0, none⟩), .bool true, .int .i64 k, x 8, x 9, x 10, x 11, x 12, x 13, x 14, x 15, x 16, x 17, x 18, x 19, x 20, x 21, x 22, x 23, x 24, x 25, x 26, x 27, x 28, x 29, x 30, x 31, x 32, x 33, x 34, x 35, x 36, x 37, x 38, x 39, x 40, x 41, x 42, x 43, x 44, x 45, x 46, x 47, x 48, x 49, x 50, x 51, x 52, x 53], []⟩) 1 ⟨hF, 1, .inl ⟨rfl, rfl⟩, fill rfl⟩ ?_
  clear hF
  rintro m i a w' ⟨hF, k, hmk, x, rfl⟩
  refine wpI_seq C T ?_
  refine wpI_seq C T ?_
  refine wpI_region C T ?_
  simp only [List.size_toArray, List.length_cons, List.length_nil, Nat.reduceAdd, Nat.zero_add, List.range, List.range.loop]
  refine opsI_cons C rfl (by rfl) fun _ hR Kx hKx => ?_
  replace hF := HP4.at hF hR
  clear hR
  go_simp
  try (unfold stored; go_simp)
  refine hKx _ _ ⟨?_, ?_⟩
  · co_quiet (T _)
  clear hKx Kx
  try walk_nrm
  refine opsI_cons C rfl (by rfl) fun _ hR Kx hKx => ?_
  replace hF := HP4.at hF hR
  clear hR
  go_simp
  try (unfold stored; go_simp)
  refine hKx _ _ ⟨?_, ?_⟩
  · co_quiet (T _)
  clear hKx Kx
  try walk_nrm
  refine opsI_cons C rfl (by rfl) fun _ hR Kx hKx => ?_
  replace hF := HP4.at hF hR
  clear hR
  go_simp
  try (unfold stored; go_simp)
  refine hKx _ _ ⟨?_, ?_⟩
  · co_quiet (T _)
  clear hKx Kx
  try walk_nrm
  refine opsI_cons C rfl (by rfl) fun _ hR Kx hKx => ?_
  replace hF := HP4.at hF hR
  clear hR
  go_simp
  try (unfold stored; go_simp)
  refine hKx _ _ ⟨?_, ?_⟩
  · co_quiet (T _)
  clear hKx Kx
  try walk_nrm
  refine opsI_cons C rfl (by rfl) fun _ hR Kx hKx => ?_
  replace hF := HP4.at hF hR
  clear hR
  go_simp
  try (unfold stored; go_simp)
  refine hKx _ _ ⟨?_, ?_⟩
  · co_quiet (T _)
  clear hKx Kx
  try walk_nrm
  refine opsI_cons C rfl (by rfl) fun _ hR Kx hKx => ?_
  replace hF := HP4.at hF hR
  clear hR
  go_simp
  try (unfold stored; go_simp)
  refine hKx _ _ ⟨?_, ?_⟩
  · co_quiet (T _)
  clear hKx Kx
  try walk_nrm
  refine opsI_nil C T ?_
  show wpI _ _ _ _ _ _ _
  rcases hmk with ⟨rfl, rfl⟩ | ⟨rfl, rfl⟩
  · refine wpI_cond C T (t := true) rfl ?_
    simp only [if_true, if_false, reduceIte, Bool.false_eq_true]
    refine wpI_skip C T ?_
    show wpI _ _ _ _ _ _ _
    refine wpI_seq C T ?_
    refine wpI_block C T ?_
    refine wpI_region C T ?_
    simp only [List.size_toArray, List.length_cons, List.length_nil, Nat.reduceAdd, Nat.zero_add, List.range, List.range.loop]
    refine opsI_cons C rfl (by rfl) fun _ hR Kx hKx => ?_
    replace hF := HP4.at hF hR
    clear hR
    go_simp
    try (unfold stored; go_simp)
    refine hKx _ _ ⟨?_, ?_⟩
    · co_quiet (T _)
    clear hKx Kx
    try walk_nrm
    refine opsI_cons C rfl (by rfl) fun _ hR Kx hKx => ?_
    replace hF := HP4.at hF hR
    clear hR
    go_simp
    try (unfold stored; go_simp)
    refine hKx _ _ ⟨?_, ?_⟩
    · co_quiet (T _)
    clear hKx Kx
    try walk_nrm
    refine opsI_cons C rfl (by rfl) fun _ hR Kx hKx => ?_
    replace hF := HP4.at hF hR
    clear hR
    go_simp
    try (unfold stored; go_simp)
    refine hKx _ _ ⟨?_, ?_⟩
    · co_still (T _)
    clear hKx Kx
    try walk_nrm
    refine opsI_callX C T rfl (by rfl) rfl rfl (by simp [Act.eval, A0, B0]) rfl (step_x w.heap.size 1 0 A0 B0 (.slice none 0 0) (by omega) (fun b hb => (hF.lo b hb).2)) ?_
    rintro i2 _ w₂ ⟨rfl, hE2, hO⟩
    replace hF := hF.step hE2 hO
    clear hE2 hO
    try walk_nrm
    refine opsI_cons C rfl (by rfl) fun _ hR Kx hKx => ?_
    replace hF := HP4.at hF hR
    clear hR
    go_simp
    try (unfold stored; go_simp)
    refine hKx _ _ ⟨?_, ?_⟩
    · co_quiet (T _)
    clear hKx Kx
    try walk_nrm
    refine opsI_nil C T ?_
    show wpI _ _ _ _ _ _ _
    refine wpI_region C T ?_
    simp only [List.size_toArray, List.length_cons, List.length_nil, Nat.reduceAdd, Nat.zero_add, List.range, List.range.loop]
    refine opsI_cons C rfl (by rfl) fun _ hR Kx hKx => ?_
    replace hF := HP4.at hF hR
    clear hR
    go_simp
    try (unfold stored; go_simp)
    refine hKx _ _ ⟨?_, ?_⟩
    · co_quiet (T _)
    clear hKx Kx
    try walk_nrm
    refine opsI_cons C rfl (by rfl) fun _ hR Kx hKx => ?_
    replace hF := HP4.at hF hR
    clear hR
    go_simp
    try (unfold stored; go_simp)
    refine hKx _ _ ⟨?_, ?_⟩
    · co_quiet (T _)
    clear hKx Kx
    try walk_nrm
    refine opsI_cons C rfl (by rfl) fun _ hR Kx hKx => ?_
    replace hF := HP4.at hF hR
    clear hR
    go_simp
    try (unfold stored; go_simp)
    refine hKx _ _ ⟨?_, ?_⟩
    · co_quiet (T _)
    clear hKx Kx
    try walk_nrm
    refine opsI_nil C T ?_
    exact ⟨0, by omega, hF, 2, .inr ⟨rfl, rfl⟩, fill rfl⟩
  · refine wpI_cond C T (t := false) rfl ?_
    simp only [if_true, if_false, reduceIte, Bool.false_eq_true]
    refine wpI_exit C T ?_
    simp only [inBlockI, thenI, if_true]
    refine wpI_seq C T ?_
    refine wpI_seq C T ?_
    refine wpI_region C T ?_
    simp only [List.size_toArray, List.length_cons, List.length_nil, Nat.reduceAdd, Nat.zero_add, List.range, List.range.loop]
    refine opsI_cons C rfl (by rfl) fun _ hR Kx hKx => ?_
    replace hF := HP4.at hF hR
    clear hR
    go_simp
    try (unfold stored; go_simp)
    refine hKx _ _ ⟨?_, ?_⟩
    · co_quiet (T _)
    clear hKx Kx
    try walk_nrm
    refine opsI_nil C T ?_
    show wpI _ _ _ _ _ _ _
    refine wpI_block C T ?_
    refine wpI_loop C T (fun m i a w' => HP4 w i w' ∧ ∃ (q : Nat), q ≤ len ∧ m = len - q ∧ ∃ x : Nat → Value, a = ⟨#[.slice a0 len cap, .int .i64 1, undef, undef, .bool false, .pointer (some ⟨w.heap.size, 0, none⟩), .bool true, .int .i64 2, .int .i64 (q : Int), x 9, x 10, x 11, x 12, x 13, x 14, x 15, x 16, x 17, x 18, x 19, x 20, x 21, x 22, x 23, x 24, x 25, x 26, x 27, x 28, x 29, x 30, x 31, x 32, x 33, x 34, x 35, x 36, x 37, x 38, x 39, x 40, x 41, x 42, x 43, x 44, x 45, x 46, x 47, x 48, x 49, x 50, x 51, x 52, x 53], []⟩) len ⟨hF, 0, by omega, by omega, fill rfl⟩ ?_
    clear hF x
    rintro m i a w' ⟨hF, q, hq, hm, x, rfl⟩
    refine wpI_seq C T ?_
    refine wpI_seq C T ?_
    have hw1 : IntKind.i64.wrap ((q : Int) + 1) = (q : Int) + 1 := by rw [IntKind.wrap_i64]; omega
    refine wpI_region C T ?_
    simp only [List.size_toArray, List.length_cons, List.length_nil, Nat.reduceAdd, Nat.zero_add, List.range, List.range.loop]
    refine opsI_cons C rfl (by rfl) fun _ hR Kx hKx => ?_
    replace hF := HP4.at hF hR
    clear hR
    go_simp
    try (unfold stored; go_simp)
    refine hKx _ _ ⟨?_, ?_⟩
    · co_quiet (T _)
    clear hKx Kx
    try walk_nrm
    refine opsI_cons C rfl (by rfl) fun _ hR Kx hKx => ?_
    replace hF := HP4.at hF hR
    clear hR
    go_simp
    try (unfold stored; go_simp)
    refine hKx _ _ ⟨?_, ?_⟩
    · co_quiet (T _)
    clear hKx Kx
    try walk_nrm
    refine opsI_cons C rfl (by rfl) fun _ hR Kx hKx => ?_
    replace hF := HP4.at hF hR
    clear hR
    go_simp
    try (unfold stored; go_simp)
    refine hKx _ _ ⟨?_, ?_⟩
    · co_quiet (T _)
    clear hKx Kx
    try walk_nrm
    refine opsI_cons C rfl (by rfl) fun _ hR Kx hKx => ?_
    replace hF := HP4.at hF hR
    clear hR
    go_simp
    try (unfold stored; go_simp)
    refine hKx _ _ ⟨?_, ?_⟩
    · co_quiet (T _)
    clear hKx Kx
    try walk_nrm
    refine opsI_cons C rfl (by rfl) fun _ hR Kx hKx => ?_
    replace hF := HP4.at hF hR
    clear hR
    go_simp
    try (unfold stored; go_simp)
    refine hKx _ _ ⟨?_, ?_⟩
    · co_still (T _)
    clear hKx Kx
    try walk_nrm
    refine opsI_cons C rfl (by rfl) fun _ hR Kx hKx => ?_
    replace hF := HP4.at hF hR
    clear hR
    go_simp
    try (unfold stored; go_simp)
    refine hKx _ _ ⟨?_, ?_⟩
    · co_quiet (T _)
    clear hKx Kx
    try walk_nrm
    refine opsI_cons C rfl (by rfl) fun _ hR Kx hKx => ?_
    replace hF := HP4.at hF hR
    clear hR
    go_simp
    try (unfold stored; go_simp)
    refine hKx _ _ ⟨?_, ?_⟩
    · co_quiet (T _)
    clear hKx Kx
    try walk_nrm
    refine opsI_nil C T ?_
    show wpI _ _ _ _ _ _ _
    by_cases hql : q < len
    · have hb1 : decide ((q : Int) < (len : Int)) = true := decide_eq_true (by omega)
      have hb2 : decide (q < len) = true := decide_eq_true hql
      try simp only [hb1, hb2]
      refine wpI_cond C T (t := true) rfl ?_
      simp only [if_true, if_false, reduceIte, Bool.false_eq_true]
      refine wpI_skip C T ?_
      show wpI _ _ _ _ _ _ _
      refine wpI_seq C T ?_
      refine wpI_block C T ?_
      obtain rfl := ha (by omega)
      have hSb := hSb (by omega)
      have hc := hscr q hql
      have hnS : ¬ i Sb := fun h => by have := (hF.lo Sb h).1; omega
      refine wpI_seq C T ?_
      refine wpI_seq C T ?_
      refine wpI_region C T ?_
      simp only [List.size_toArray, List.length_cons, List.length_nil, Nat.reduceAdd, Nat.zero_add, List.range, List.range.loop]
      refine opsI_cons C rfl (by rfl) fun _ hR Kx hKx => ?_
      replace hF := HP4.at hF hR
      clear hR
      go_simp
      try (unfold stored; go_simp)
      refine hKx _ _ ⟨?_, ?_⟩
      · co_quiet (T _)
      clear hKx Kx
      try walk_nrm
      refine opsI_cons C rfl (by rfl) fun _ hR Kx hKx => ?_
      replace hF := HP4.at hF hR
      clear hR
      go_simp
      try (unfold stored; go_simp)
      refine hKx _ _ ⟨?_, ?_⟩
      · co_quiet (T _)
      clear hKx Kx
      try walk_nrm
      refine opsI_cons C rfl (by rfl) fun _ hR Kx hKx => ?_
      replace hF := HP4.at hF hR
      clear hR
      go_simp
      try (unfold stored; go_simp)
      refine hKx _ _ ⟨?_, ?_⟩
      · co_still (T _)
      clear hKx Kx
      try walk_nrm
      refine opsI_cons C rfl (by rfl) fun _ hR Kx hKx => ?_
      replace hF := HP4.at hF hR
      clear hR
      go_simp
      try (unfold stored; go_simp)
      refine hKx _ _ ⟨?_, ?_⟩
      · co_still (T _)
      clear hKx Kx
      try walk_nrm
      refine opsI_cons C rfl (by rfl) fun _ hR Kx hKx => ?_
      replace hF := HP4.at hF hR
      clear hR
      have hcc : World.cell? _ ⟨Sb, so + q * 5, none⟩ = some (.int .i64 (kd q)) := (hF.ext.cell hSb).trans (hc 0 _ rfl)
      go_simp
      try (unfold stored; go_simp)
      refine hKx _ _ ⟨?_, ?_⟩
      · intro e he
        have hm := mem_listed he
        simp [go_sem, *] at hm
        subst hm
        exact evs_clear rfl hnS
      clear hKx Kx
      try walk_nrm
      clear hcc
      refine opsI_cons C rfl (by rfl) fun _ hR Kx hKx => ?_
      replace hF := HP4.at hF hR
      clear hR
      go_simp
      try (unfold stored; go_simp)
      refine hKx _ _ ⟨?_, ?_⟩
      · co_quiet (T _)
      clear hKx Kx
      try walk_nrm
      refine opsI_cons C rfl (by rfl) fun _ hR Kx hKx => ?_
      replace hF := HP4.at hF hR
      clear hR
      go_simp
      try (unfold stored; go_simp)
      refine hKx _ _ ⟨?_, ?_⟩
      · co_quiet (T _)
      clear hKx Kx
      try walk_nrm
      refine opsI_nil C T ?_
      show wpI _ _ _ _ _ _ _
      by_cases hkd : 1 < kd q
      · have hk1 : decide (1 < kd q) = true := decide_eq_true hkd
        try simp only [hk1]
        refine wpI_cond C T (t := true) rfl ?_
        simp only [if_true, if_false, reduceIte, Bool.false_eq_true]
        refine wpI_exit C T ?_
        simp only [inBlockI, thenI, if_true, if_false, reduceIte, Nat.reduceEqDiff]
        refine wpI_region C T ?_
        simp only [List.size_toArray, List.length_cons, List.length_nil, Nat.reduceAdd, Nat.zero_add, List.range, List.range.loop]
        refine opsI_cons C rfl (by rfl) fun _ hR Kx hKx => ?_
        replace hF := HP4.at hF hR
        clear hR
        go_simp
        try (unfold stored; go_simp)
        refine hKx _ _ ⟨?_, ?_⟩
        · co_quiet (T _)
        clear hKx Kx
        try walk_nrm
        refine opsI_cons C rfl (by rfl) fun _ hR Kx hKx => ?_
        replace hF := HP4.at hF hR
        clear hR
        go_simp
        try (unfold stored; go_simp)
        refine hKx _ _ ⟨?_, ?_⟩
        · co_quiet (T _)
        clear hKx Kx
        try walk_nrm
        try simp only [hw1]
        refine opsI_cons C rfl (by rfl) fun _ hR Kx hKx => ?_
        replace hF := HP4.at hF hR
        clear hR
        go_simp
        try (unfold stored; go_simp)
        refine hKx _ _ ⟨?_, ?_⟩
        · co_quiet (T _)
        clear hKx Kx
        try walk_nrm
        refine opsI_nil C T ?_
        exact ⟨len - (q + 1), by omega, hF, q + 1, by omega, rfl, fill rfl⟩
      · have hk1 : decide (1 < kd q) = false := decide_eq_false hkd
        try simp only [hk1]
        refine wpI_cond C T (t := false) rfl ?_
        simp only [if_true, if_false, reduceIte, Bool.false_eq_true]
        refine wpI_skip C T ?_
        show wpI _ _ _ _ _ _ _
        refine wpI_seq C T ?_
        refine wpI_region C T ?_
        simp only [List.size_toArray, List.length_cons, List.length_nil, Nat.reduceAdd, Nat.zero_add, List.range, List.range.loop]
        refine opsI_cons C rfl (by rfl) fun _ hR Kx hKx => ?_
        replace hF := HP4.at hF hR
        clear hR
        go_simp
        try (unfold stored; go_simp)
        refine hKx _ _ ⟨?_, ?_⟩
        · co_quiet (T _)
        clear hKx Kx
        try walk_nrm
        refine opsI_cons C rfl (by rfl) fun _ hR Kx hKx => ?_
        replace hF := HP4.at hF hR
        clear hR
        go_simp
        try (unfold stored; go_simp)
        refine hKx _ _ ⟨?_, ?_⟩
        · co_quiet (T _)
        clear hKx Kx
        try walk_nrm
        refine opsI_cons C rfl (by rfl) fun _ hR Kx hKx => ?_
        replace hF := HP4.at hF hR
        clear hR
        go_simp
        try (unfold stored; go_simp)
        refine hKx _ _ ⟨?_, ?_⟩
        · co_quiet (T _)
        clear hKx Kx
        try walk_nrm
        refine opsI_cons C rfl (by rfl) fun _ hR Kx hKx => ?_
        replace hF := HP4.at hF hR
        clear hR
        go_simp
        try (unfold stored; go_simp)
        refine hKx _ _ ⟨?_, ?_⟩
        · co_still (T _)
        clear hKx Kx
        try walk_nrm
        refine opsI_cons C rfl (by rfl) fun _ hR Kx hKx => ?_
        replace hF := HP4.at hF hR
        clear hR
        have hcc0 : World.cell? _ ⟨Sb, so + q * 5, none⟩ = some (.int .i64 (kd q)) := (hF.ext.cell hSb).trans (hc 0 _ rfl)
        have hcc1 : World.cell? _ ⟨Sb, so + q * 5 + 1, none⟩ = some (.int .i64 (on q)) := (hF.ext.cell hSb).trans (hc 1 _ rfl)
        have hcc2 : World.cell? _ ⟨Sb, so + q * 5 + 2, none⟩ = some (.string (A q)) := (hF.ext.cell hSb).trans (hc 2 _ rfl)
        have hcc3 : World.cell? _ ⟨Sb, so + q * 5 + 3, none⟩ = some (.string (B q)) := (hF.ext.cell hSb).trans (hc 3 _ rfl)
        have hcc4 : World.cell? _ ⟨Sb, so + q * 5 + 4, none⟩ = some (L q) := (hF.ext.cell hSb).trans (hc 4 _ rfl)
        go_simp
        try (unfold stored; go_simp)
        refine hKx _ _ ⟨?_, ?_⟩
        · intro e he
          have hm := mem_listed he
          simp [go_sem, *] at hm
          rcases hm with rfl | rfl | rfl | rfl | rfl <;> exact evs_clear rfl hnS
        clear hKx Kx
        try walk_nrm
        clear hcc0 hcc1 hcc2 hcc3 hcc4
        refine opsI_callX C T rfl (by rfl) rfl rfl (by simp [Act.eval, A0, B0]) rfl (step_x w.heap.size (kd q) (on q) (A q) (B q) (L q) (by omega) (fun b hb => (hF.lo b hb).2)) ?_
        rintro i2 _ w₂ ⟨rfl, hE2, hO⟩
        replace hF := hF.step hE2 hO
        clear hE2 hO
        try walk_nrm
        refine opsI_cons C rfl (by rfl) fun _ hR Kx hKx => ?_
        replace hF := HP4.at hF hR
        clear hR
        go_simp
        try (unfold stored; go_simp)
        refine hKx _ _ ⟨?_, ?_⟩
        · co_quiet (T _)
        clear hKx Kx
        try walk_nrm
        refine opsI_nil C T ?_
        show wpI _ _ _ _ _ _ _
        refine wpI_seq C T ?_
        refine wpI_region C T ?_
        simp only [List.size_toArray, List.length_cons, List.length_nil, Nat.reduceAdd, Nat.zero_add, List.range, List.range.loop]
        refine opsI_cons C rfl (by rfl) fun _ hR Kx hKx => ?_
        replace hF := HP4.at hF hR
        clear hR
        go_simp
        try (unfold stored; go_simp)
        refine hKx _ _ ⟨?_, ?_⟩
        · co_quiet (T _)
        clear hKx Kx
        try walk_nrm
        refine opsI_callX C T rfl (by rfl) rfl rfl (by simp [Act.eval]) rfl (still_x w.heap.size hF.box (fun h => by have := (hF.lo _ h).1; omega)) ?_
        rintro i3 _ w₃ ⟨hi3, rfl, hF'⟩
        rw [hi3]
        clear hi3 i3
        have hF := HP4.at hF hF'
        clear hF'
        try walk_nrm
        refine opsI_cons C rfl (by rfl) fun _ hR Kx hKx => ?_
        replace hF := HP4.at hF hR
        clear hR
        go_simp
        try (unfold stored; go_simp)
        refine hKx _ _ ⟨?_, ?_⟩
        · co_quiet (T _)
        clear hKx Kx
        try walk_nrm
        refine opsI_nil C T ?_
        show wpI _ _ _ _ _ _ _
        refine wpI_region C T ?_
        simp only [List.size_toArray, List.length_cons, List.length_nil, Nat.reduceAdd, Nat.zero_add, List.range, List.range.loop]
        refine opsI_cons C rfl (by rfl) fun _ hR Kx hKx => ?_
        replace hF := HP4.at hF hR
        clear hR
        go_simp
        try (unfold stored; go_simp)
        refine hKx _ _ ⟨?_, ?_⟩
        · co_quiet (T _)
        clear hKx Kx
        try walk_nrm
        refine opsI_cons C rfl (by rfl) fun _ hR Kx hKx => ?_
        replace hF := HP4.at hF hR
        clear hR
        go_simp
        try (unfold stored; go_simp)
        refine hKx _ _ ⟨?_, ?_⟩
        · co_quiet (T _)
        clear hKx Kx
        try walk_nrm
        refine opsI_cons C rfl (by rfl) fun _ hR Kx hKx => ?_
        replace hF := HP4.at hF hR
        clear hR
        go_simp
        try (unfold stored; go_simp)
        refine hKx _ _ ⟨?_, ?_⟩
        · co_quiet (T _)
        clear hKx Kx
        try walk_nrm
        refine opsI_cons C rfl (by rfl) fun _ hR Kx hKx => ?_
        replace hF := HP4.at hF hR
        clear hR
        go_simp
        try (unfold stored; go_simp)
        refine hKx _ _ ⟨?_, ?_⟩
        · co_quiet (T _)
        clear hKx Kx
        try walk_nrm
        refine opsI_cons C rfl (by rfl) fun _ hR Kx hKx => ?_
        replace hF := HP4.at hF hR
        clear hR
        go_simp
        try (unfold stored; go_simp)
        refine hKx _ _ ⟨?_, ?_⟩
        · co_quiet (T _)
        clear hKx Kx
        try walk_nrm
        refine opsI_nil C T ?_
        show wpI _ _ _ _ _ _ _
        refine wpI_region C T ?_
        simp only [List.size_toArray, List.length_cons, List.length_nil, Nat.reduceAdd, Nat.zero_add, List.range, List.range.loop]
        refine opsI_cons C rfl (by rfl) fun _ hR Kx hKx => ?_
        replace hF := HP4.at hF hR
        clear hR
        go_simp
        try (unfold stored; go_simp)
        refine hKx _ _ ⟨?_, ?_⟩
        · co_quiet (T _)
        clear hKx Kx
        try walk_nrm
        refine opsI_cons C rfl (by rfl) fun _ hR Kx hKx => ?_
        replace hF := HP4.at hF hR
        clear hR
        go_simp
        try (unfold stored; go_simp)
        refine hKx _ _ ⟨?_, ?_⟩
        · co_quiet (T _)
        clear hKx Kx
        try walk_nrm
        try simp only [hw1]
        refine opsI_cons C rfl (by rfl) fun _ hR Kx hKx => ?_
        replace hF := HP4.at hF hR
        clear hR
        go_simp
        try (unfold stored; go_simp)
        refine hKx _ _ ⟨?_, ?_⟩
        · co_quiet (T _)
        clear hKx Kx
        try walk_nrm
        refine opsI_nil C T ?_
        exact ⟨len - (q + 1), by omega, hF, q + 1, by omega, rfl, fill rfl⟩
    · have hb1 : decide ((q : Int) < (len : Int)) = false := decide_eq_false (by omega)
      have hb2 : decide (q < len) = false := decide_eq_false hql
      try simp only [hb1, hb2]
      refine wpI_cond C T (t := false) rfl ?_
      simp only [if_true, if_false, reduceIte, Bool.false_eq_true]
      refine wpI_exit C T ?_
      simp only [inBlockI, thenI, if_true]
      refine wpI_seq C T ?_
      refine wpI_region C T ?_
      simp only [List.size_toArray, List.length_cons, List.length_nil, Nat.reduceAdd, Nat.zero_add, List.range, List.range.loop]
      refine opsI_cons C rfl (by rfl) fun _ hR Kx hKx => ?_
      replace hF := HP4.at hF hR
      clear hR
      go_simp
      try (unfold stored; go_simp)
      refine hKx _ _ ⟨?_, ?_⟩
      · co_quiet (T _)
      clear hKx Kx
      try walk_nrm
      refine opsI_cons C rfl (by rfl) fun _ hR Kx hKx => ?_
      replace hF := HP4.at hF hR
      clear hR
      go_simp
      try (unfold stored; go_simp)
      refine hKx _ _ ⟨?_, ?_⟩
      · co_quiet (T _)
      clear hKx Kx
      try walk_nrm
      refine opsI_nil C T ?_
      show wpI _ _ _ _ _ _ _
      refine wpI_ret C T ?_
      exact ⟨.inr rfl, rfl, _, resultsC_tmp (by rfl) _, rfl, hF.ext⟩
end
end Go.Proofs.YtgcaionclkbehaaGreatDoor
