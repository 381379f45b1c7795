/-
  foliolaw.step, of a Decode or of nothing.
-/
import Derived.Test.YtgcaionclkbehaaGreatDoorRef8
set_option linter.all false
set_option linter.unusedSectionVars false
set_option linter.unusedSimpArgs false
namespace Go.Proofs.YtgcaionclkbehaaGreatDoor
open Go.Conc Go.RowKit
section
variable {w w₁ w₂ : World} {Post : Value → World → Prop} {S : Nat → Prop}
theorem evs_clear {e : Event} {ad : Addr} (he : e.loc = .cell ad) (hb : ¬ S ad.block) : EvS S e := by
  obtain ⟨l, wr, sy⟩ := e
  obtain rfl : l = .cell ad := he
  refine ⟨fun x hx a' ha' hs => ?_, by simp, by simp⟩
  have hl : x.loc = .cell ad := by cases wr <;> cases sy <;> (simp [MemAct.ofEvent, MemAct.touch?] at hx; rw [← hx])
  rw [hl] at ha'
  cases ha'
  exact hb hs
theorem cellk {b o : Nat} {cs : Array Value} {v : Value} {t : TypeId} (h : w.heap[b]? = some (.cells cs t)) (hv : cs[o]? = some v) : w.cell? ⟨b, o, none⟩ = some v := by simp [World.cell?, h, hv]
theorem Ext.refl (w : World) : Ext w w := ⟨rfl, rfl, rfl, Nat.le_refl _, fun _ _ => rfl⟩
theorem Ext.trans (h : Ext w w₁) (h' : Ext w₁ w₂) : Ext w w₂ := ⟨h'.tape.trans h.tape, h'.os.trans h.os, h'.output.trans h.output, Nat.le_trans h.size h'.size, fun b hb => (h'.block b (Nat.lt_of_lt_of_le hb h.size)).trans (h.block b hb)⟩
/-- What has been since w, a step's own copy of its argument with it. -/
structure HS (w : World) (cs : Array Value) (w' : World) : Prop where
  ext : Ext w w'
  box : w'.heap[w.heap.size]? = some (.cells cs 77)
theorem HS.at {cs : Array Value} (h : HS w cs w₁) (r : AtRel w₁ w₂) : HS w cs w₂ := by
  obtain ⟨e, rfl⟩ := r
  exact ⟨⟨h.ext.tape, h.ext.os, h.ext.output, h.ext.size, h.ext.block⟩, h.box⟩
/-- What a call may have done to the shunned blocks. -/
structure SOk (w : World) (S S' : Nat → Prop) (w' : World) : Prop where
  new : ∀ b, S' b → S b ∨ w.heap.size ≤ b
  low : ∀ b, S' b → b < w'.heap.size
theorem SOk.at {S' : Nat → Prop} (h : SOk w S S' w₁) (r : AtRel w₁ w₂) : SOk w S S' w₂ := by
  obtain ⟨e, rfl⟩ := r
  exact ⟨h.new, h.low⟩
structure HS2 (w : World) (S S' : Nat → Prop) (cs : Array Value) (w' : World) : Prop where
  hs : HS w cs w'
  ok : SOk w S S' w'
theorem HS2.at {S' : Nat → Prop} {cs : Array Value} (h : HS2 w S S' cs w₁) (r : AtRel w₁ w₂) : HS2 w S S' cs w₂ := ⟨h.hs.at r, h.ok.at r⟩
abbrev opV (kd on : Int) (A B : ByteArray) (L : Value) : Array Value := #[.int .i64 kd, .int .i64 on, .string A, .string B, L]
/-- What both Decodes tell. -/
def tell (A : ByteArray) : ByteArray × Int := if 20000 < A.size then (⟨#[]⟩, 1) else (⟨(refS A.data.toList).toArray⟩, 0)
theorem tell_big {A : ByteArray} (h : 20000 < A.size) : tell A = (⟨#[]⟩, 1) := by rw [tell, if_pos h]
theorem tell_small {A : ByteArray} (h : A.size ≤ 20000) : tell A = (⟨(refS A.data.toList).toArray⟩, 0) := by rw [tell, if_neg (by omega)]
set_option maxRecDepth 100000 in
set_option maxHeartbeats 2000000 in
theorem step_x (Wb : Nat) (kd on : Int) (A B : ByteArray) (L : Value) (hk : kd ≤ 1) (hS : ∀ b, S b → b < w.heap.size) :
    CallsI Tryz.prog (ZI Tryz.prog Post 0) 33 #[.pointer (some ⟨Wb, 0, none⟩), .agg (opV kd on A B L)] S w (fun S' x w' => x = .bool true ∧ Ext w w' ∧ SOk w S S' w') := by
  have C : ClosedI Tryz.prog true (fun _ : Nat → Prop => AtRel) DZ (ZI Tryz.prog Post 0) := ZI.closed
  have T : ∀ S, Terms AtRel (DZ S) := termsS
  have hF := He.start w
  have bx := fun w v => box_run Tryz.prog w 77 v
  have be := fun w v es => box_events Tryz.prog w 77 v es
  refine callsI_of Tryz.func33 (by rfl) rfl ?_
  simp only [Tryz.ntmps33, List.size_toArray, List.length_cons, List.length_nil, Nat.reduceAdd, Nat.reduceSub, Array.replicate_succ, Array.replicate_zero, List.push_toArray, List.append_toArray, List.nil_append, List.cons_append]
  refine wpI_seq C T ?_
  refine wpI_region C T ?_
  simp only [List.size_toArray, List.length_cons, List.length_nil, Nat.reduceAdd, Nat.zero_add, List.range, List.range.loop]
  refine opsI_cons C rfl (by rfl) fun _ hR Kx hKx => ?_
  replace hF := He.rely hF hR
  clear hR
  go_simp
  try (unfold stored; go_simp)
  refine hKx _ _ ⟨?_, ?_⟩
  · intro e he
    have hm := mem_listed he
    simp [go_sem, *] at hm
  clear hKx Kx
  try walk_nrm
  have hsz := hF.size
  simp only [List.length_cons, List.length_nil, Nat.reduceAdd, Nat.add_zero, Nat.zero_add] at hsz
  simp only [hsz]
  clear hsz
  replace hF := hF.alloc (.cells (opV kd on A B L) 77)
  simp only [List.cons_append, List.nil_append] at hF
  refine opsI_cons C rfl (by rfl) fun _ hR Kx hKx => ?_
  replace hF := He.rely hF hR
  clear hR
  go_simp
  try (unfold stored; go_simp)
  refine hKx _ _ ⟨?_, ?_⟩
  · co_quiet (T _)
  clear hKx Kx
  try walk_nrm
  refine opsI_nil C T ?_
  show wpI _ _ _ _ _ _ _
  refine wpI_seq C T ?_
  refine wpI_seq C T ?_
  refine wpI_region C T ?_
  simp only [List.size_toArray, List.length_cons, List.length_nil, Nat.reduceAdd, Nat.zero_add, List.range, List.range.loop]
  refine opsI_cons C rfl (by rfl) fun _ hR Kx hKx => ?_
  replace hF := He.rely hF hR
  clear hR
  go_simp
  try (unfold stored; go_simp)
  refine hKx _ _ ⟨?_, ?_⟩
  · co_still (T _)
  clear hKx Kx
  try walk_nrm
  refine opsI_cons C rfl (by rfl) fun _ hR Kx hKx => ?_
  replace hF := He.rely hF hR
  clear hR
  have hcc : World.cell? _ ⟨w.heap.size, 0, none⟩ = some (.int .i64 kd) := cellk (hF.blocks 0 _ rfl) rfl
  go_simp
  try (unfold stored; go_simp)
  refine hKx _ _ ⟨?_, ?_⟩
  · intro e he
    have hm := mem_listed he
    simp [go_sem, *] at hm
    subst hm
    exact evs_at (w₀ := w) hS rfl (by simp)
  clear hKx Kx
  try walk_nrm
  clear hcc
  refine opsI_nil C T ?_
  show wpI _ _ _ _ _ _ _
  refine wpI_block C T ?_
  refine wpI_seq C T ?_
  refine wpI_region C T ?_
  simp only [List.size_toArray, List.length_cons, List.length_nil, Nat.reduceAdd, Nat.zero_add, List.range, List.range.loop]
  refine opsI_cons C rfl (by rfl) fun _ hR Kx hKx => ?_
  replace hF := He.rely hF hR
  clear hR
  go_simp
  try (unfold stored; go_simp)
  refine hKx _ _ ⟨?_, ?_⟩
  · co_quiet (T _)
  clear hKx Kx
  try walk_nrm
  refine opsI_cons C rfl (by rfl) fun _ hR Kx hKx => ?_
  replace hF := He.rely hF hR
  clear hR
  go_simp
  try (unfold stored; go_simp)
  refine hKx _ _ ⟨?_, ?_⟩
  · co_quiet (T _)
  clear hKx Kx
  try walk_nrm
  refine opsI_nil C T ?_
  show wpI _ _ _ _ _ _ _
  by_cases h1 : kd = 1
  · have h1b : (kd == 1) = true := by simp [h1]
    try simp only [h1b]
    refine wpI_cond C T (t := true) rfl ?_
    simp only [if_true, if_false, reduceIte, Bool.false_eq_true]
    refine wpI_seq C T ?_
    refine wpI_region C T ?_
    simp only [List.size_toArray, List.length_cons, List.length_nil, Nat.reduceAdd, Nat.zero_add, List.range, List.range.loop]
    refine opsI_cons C rfl (by rfl) fun _ hR Kx hKx => ?_
    replace hF := He.rely hF hR
    clear hR
    go_simp
    try (unfold stored; go_simp)
    refine hKx _ _ ⟨?_, ?_⟩
    · co_still (T _)
    clear hKx Kx
    try walk_nrm
    refine opsI_cons C rfl (by rfl) fun _ hR Kx hKx => ?_
    replace hF := He.rely hF hR
    clear hR
    have hcc : World.cell? _ ⟨w.heap.size, 2, none⟩ = some (.string A) := cellk (hF.blocks 0 _ rfl) rfl
    go_simp
    try (unfold stored; go_simp)
    refine hKx _ _ ⟨?_, ?_⟩
    · intro e he
      have hm := mem_listed he
      simp [go_sem, *] at hm
      subst hm
      exact evs_at (w₀ := w) hS rfl (by simp)
    clear hKx Kx
    try walk_nrm
    clear hcc
    have hS1 : ∀ w₁, He w [.cells (opV kd on A B L) 77] w₁ → ∀ b, S b → b < w₁.heap.size := fun w₁ h b hb => by have h1 := h.size; have h2 := hS b hb; simp at h1; omega
    refine opsI_callX C T rfl (by rfl) rfl rfl (by simp [Act.eval]) rfl (decode_x A (hS1 _ hF)) ?_
    rintro S2 v2 w₂ ⟨hE2, hcase⟩
    have hsz := hF.size
    simp only [List.length_cons, List.length_nil, Nat.reduceAdd, Nat.zero_add] at hsz
    have hv : v2 = .tuple #[.string (tell A).1, .int .i64 (tell A).2] := by
      rcases hcase with ⟨h, _, rfl⟩ | ⟨h, _, _, rfl⟩
      · rw [tell_big h]
      · rw [tell_small h, letters_ref]
    have hO : SOk w S S2 w₂ := by
      rcases hcase with ⟨_, rfl, _⟩ | ⟨_, rfl, hbig, _⟩
      · exact ⟨fun b h => .inl h, fun b h => by have := hS b h; have := hE2.size; omega⟩
      · exact ⟨fun b h => h.elim .inl (fun e => .inr (by omega)), fun b h => h.elim (fun h => by have := hS b h; omega) (fun e => by omega)⟩
    have hnS : ¬ S2 w.heap.size := by
      rcases hcase with ⟨_, rfl, _⟩ | ⟨_, rfl, hbig, _⟩
      · exact fun h => by have := hS _ h; omega
      · exact fun h => h.elim (fun h => by have := hS _ h; omega) (fun e => by omega)
    have hG : HS w (opV kd on A B L) w₂ := ⟨hF.ext.trans hE2, (hE2.block _ (by omega)).trans (hF.blocks 0 _ rfl)⟩
    subst hv
    clear hcase hE2 hsz hS1
    have hsz2 := hO.low
    have hL : ∀ b, S2 b → b < w₂.heap.size := hO.low
    have hL : ∀ b, S2 b → b < w₂.heap.size := hO.low
    clear hsz2
    have hN : w₂.heap.size = w₂.heap.size := rfl
    clear hN
    try walk_nrm
    have hG : HS2 w S S2 (opV kd on A B L) w₂ := ⟨hG, hO⟩
    clear hO hL
    refine opsI_cons C rfl (by rfl) fun _ hR Kx hKx => ?_
    replace hG := HS2.at hG hR
    clear hR
    go_simp
    try (unfold stored; go_simp)
    refine hKx _ _ ⟨?_, ?_⟩
    · co_quiet (T _)
    clear hKx Kx
    try walk_nrm
    refine opsI_cons C rfl (by rfl) fun _ hR Kx hKx => ?_
    replace hG := HS2.at hG hR
    clear hR
    go_simp
    try (unfold stored; go_simp)
    refine hKx _ _ ⟨?_, ?_⟩
    · co_still (T _)
    clear hKx Kx
    try walk_nrm
    refine opsI_cons C rfl (by rfl) fun _ hR Kx hKx => ?_
    replace hG := HS2.at hG hR
    clear hR
    go_simp
    try (unfold stored; go_simp)
    refine hKx _ _ ⟨?_, ?_⟩
    · co_still (T _)
    clear hKx Kx
    try walk_nrm
    refine opsI_cons C rfl (by rfl) fun _ hR Kx hKx => ?_
    replace hG := HS2.at hG hR
    clear hR
    go_simp
    try (unfold stored; go_simp)
    refine hKx _ _ ⟨?_, ?_⟩
    · co_quiet (T _)
    clear hKx Kx
    try walk_nrm
    refine opsI_cons C rfl (by rfl) fun _ hR Kx hKx => ?_
    replace hG := HS2.at hG hR
    clear hR
    go_simp
    try (unfold stored; go_simp)
    refine hKx _ _ ⟨?_, ?_⟩
    · co_quiet (T _)
    clear hKx Kx
    try walk_nrm
    refine opsI_nil C T ?_
    show wpI _ _ _ _ _ _ _
    refine wpI_seq C T ?_
    refine wpI_region C T ?_
    simp only [List.size_toArray, List.length_cons, List.length_nil, Nat.reduceAdd, Nat.zero_add, List.range, List.range.loop]
    refine opsI_cons C rfl (by rfl) fun _ hR Kx hKx => ?_
    replace hG := HS2.at hG hR
    clear hR
    go_simp
    try (unfold stored; go_simp)
    refine hKx _ _ ⟨?_, ?_⟩
    · co_still (T _)
    clear hKx Kx
    try walk_nrm
    refine opsI_cons C rfl (by rfl) fun _ hR Kx hKx => ?_
    replace hG := HS2.at hG hR
    clear hR
    have hcc : World.cell? _ ⟨w.heap.size, 2, none⟩ = some (.string A) := cellk hG.hs.box rfl
    go_simp
    try (unfold stored; go_simp)
    refine hKx _ _ ⟨?_, ?_⟩
    · intro e he
      have hm := mem_listed he
      simp [go_sem, *] at hm
      subst hm
      exact evs_clear rfl hnS
    clear hKx Kx
    try walk_nrm
    clear hcc
    refine opsI_callX C T rfl (by rfl) rfl rfl (by simp [Act.eval]) rfl (refdec_x A) ?_
    rintro S3 v3 w₃ ⟨hS3, hF', hcase⟩
    rw [hS3]
    clear hS3 S3
    have hG := HS2.at hG hF'
    clear hF'
    have hv : v3 = .tuple #[.string (tell A).1, .int .i64 (tell A).2] := by
      rcases hcase with ⟨h, rfl⟩ | ⟨h, rfl⟩
      · rw [tell_big h]
      · rw [tell_small h]
    subst hv
    clear hcase
    try walk_nrm
    refine opsI_cons C rfl (by rfl) fun _ hR Kx hKx => ?_
    replace hG := HS2.at hG hR
    clear hR
    go_simp
    try (unfold stored; go_simp)
    refine hKx _ _ ⟨?_, ?_⟩
    · co_quiet (T _)
    clear hKx Kx
    try walk_nrm
    refine opsI_cons C rfl (by rfl) fun _ hR Kx hKx => ?_
    replace hG := HS2.at hG hR
    clear hR
    go_simp
    try (unfold stored; go_simp)
    refine hKx _ _ ⟨?_, ?_⟩
    · co_still (T _)
    clear hKx Kx
    try walk_nrm
    refine opsI_cons C rfl (by rfl) fun _ hR Kx hKx => ?_
    replace hG := HS2.at hG hR
    clear hR
    go_simp
    try (unfold stored; go_simp)
    refine hKx _ _ ⟨?_, ?_⟩
    · co_still (T _)
    clear hKx Kx
    try walk_nrm
    refine opsI_cons C rfl (by rfl) fun _ hR Kx hKx => ?_
    replace hG := HS2.at hG hR
    clear hR
    go_simp
    try (unfold stored; go_simp)
    refine hKx _ _ ⟨?_, ?_⟩
    · co_quiet (T _)
    clear hKx Kx
    try walk_nrm
    refine opsI_cons C rfl (by rfl) fun _ hR Kx hKx => ?_
    replace hG := HS2.at hG hR
    clear hR
    go_simp
    try (unfold stored; go_simp)
    refine hKx _ _ ⟨?_, ?_⟩
    · co_quiet (T _)
    clear hKx Kx
    try walk_nrm
    refine opsI_nil C T ?_
    show wpI _ _ _ _ _ _ _
    generalize (tell A).1 = r at *
    generalize (tell A).2 = e1 at *
    have hq1 : (r.toList == r.toList) = true := beq_self_eq_true _
    have hq2 : (e1 == e1) = true := beq_self_eq_true _
    refine wpI_seq C T ?_
    refine wpI_region C T ?_
    simp only [List.size_toArray, List.length_cons, List.length_nil, Nat.reduceAdd, Nat.zero_add, List.range, List.range.loop]
    refine opsI_cons C rfl (by rfl) fun _ hR Kx hKx => ?_
    replace hG := HS2.at hG hR
    clear hR
    go_simp
    try (unfold stored; go_simp)
    refine hKx _ _ ⟨?_, ?_⟩
    · co_quiet (T _)
    clear hKx Kx
    try walk_nrm
    refine opsI_cons C rfl (by rfl) fun _ hR Kx hKx => ?_
    replace hG := HS2.at hG hR
    clear hR
    go_simp
    try (unfold stored; go_simp)
    refine hKx _ _ ⟨?_, ?_⟩
    · co_quiet (T _)
    clear hKx Kx
    try walk_nrm
    try simp only [hq1]
    refine opsI_cons C rfl (by rfl) fun _ hR Kx hKx => ?_
    replace hG := HS2.at hG hR
    clear hR
    go_simp
    try (unfold stored; go_simp)
    refine hKx _ _ ⟨?_, ?_⟩
    · co_quiet (T _)
    clear hKx Kx
    try walk_nrm
    try simp only [hq1]
    refine opsI_cons C rfl (by rfl) fun _ hR Kx hKx => ?_
    replace hG := HS2.at hG hR
    clear hR
    go_simp
    try (unfold stored; go_simp)
    refine hKx _ _ ⟨?_, ?_⟩
    · co_quiet (T _)
    clear hKx Kx
    try walk_nrm
    refine opsI_cons C rfl (by rfl) fun _ hR Kx hKx => ?_
    replace hG := HS2.at hG hR
    clear hR
    go_simp
    try (unfold stored; go_simp)
    refine hKx _ _ ⟨?_, ?_⟩
    · co_quiet (T _)
    clear hKx Kx
    try walk_nrm
    refine opsI_cons C rfl (by rfl) fun _ hR Kx hKx => ?_
    replace hG := HS2.at hG hR
    clear hR
    go_simp
    try (unfold stored; go_simp)
    refine hKx _ _ ⟨?_, ?_⟩
    · co_quiet (T _)
    clear hKx Kx
    try walk_nrm
    try simp only [hq2]
    refine opsI_cons C rfl (by rfl) fun _ hR Kx hKx => ?_
    replace hG := HS2.at hG hR
    clear hR
    go_simp
    try (unfold stored; go_simp)
    refine hKx _ _ ⟨?_, ?_⟩
    · co_quiet (T _)
    clear hKx Kx
    try walk_nrm
    try simp only [hq2]
    refine opsI_cons C rfl (by rfl) fun _ hR Kx hKx => ?_
    replace hG := HS2.at hG hR
    clear hR
    go_simp
    try (unfold stored; go_simp)
    refine hKx _ _ ⟨?_, ?_⟩
    · co_quiet (T _)
    clear hKx Kx
    try walk_nrm
    refine opsI_cons C rfl (by rfl) fun _ hR Kx hKx => ?_
    replace hG := HS2.at hG hR
    clear hR
    go_simp
    try (unfold stored; go_simp)
    refine hKx _ _ ⟨?_, ?_⟩
    · co_quiet (T _)
    clear hKx Kx
    try walk_nrm
    refine opsI_nil C T ?_
    show wpI _ _ _ _ _ _ _
    refine wpI_ret C T ?_
    exact ⟨.inr rfl, rfl, _, resultsC_tmp (by rfl) _, rfl, hG.hs.ext, hG.ok⟩
  · have h1b : (kd == 1) = false := by simp [h1]
    try simp only [h1b]
    refine wpI_cond C T (t := false) rfl ?_
    simp only [if_true, if_false, reduceIte, Bool.false_eq_true]
    have h2b : (kd == 2) = false := by simp; omega
    have h3b : (kd == 3) = false := by simp; omega
    have h10b : (kd == 10) = false := by simp; omega
    have h11b : (kd == 11) = false := by simp; omega
    have h4b : (kd == 4) = false := by simp; omega
    have h5b : (kd == 5) = false := by simp; omega
    have h6b : decide (6 ≤ kd) = false := decide_eq_false (by omega)
    refine wpI_seq C T ?_
    refine wpI_region C T ?_
    simp only [List.size_toArray, List.length_cons, List.length_nil, Nat.reduceAdd, Nat.zero_add, List.range, List.range.loop]
    refine opsI_cons C rfl (by rfl) fun _ hR Kx hKx => ?_
    replace hF := He.rely hF hR
    clear hR
    go_simp
    try (unfold stored; go_simp)
    refine hKx _ _ ⟨?_, ?_⟩
    · co_quiet (T _)
    clear hKx Kx
    try walk_nrm
    try simp only [h2b]
    refine opsI_cons C rfl (by rfl) fun _ hR Kx hKx => ?_
    replace hF := He.rely hF hR
    clear hR
    go_simp
    try (unfold stored; go_simp)
    refine hKx _ _ ⟨?_, ?_⟩
    · co_quiet (T _)
    clear hKx Kx
    try walk_nrm
    refine opsI_nil C T ?_
    show wpI _ _ _ _ _ _ _
    refine wpI_cond C T (t := false) rfl ?_
    simp only [if_true, if_false, reduceIte, Bool.false_eq_true]
    refine wpI_seq C T ?_
    refine wpI_region C T ?_
    simp only [List.size_toArray, List.length_cons, List.length_nil, Nat.reduceAdd, Nat.zero_add, List.range, List.range.loop]
    refine opsI_cons C rfl (by rfl) fun _ hR Kx hKx => ?_
    replace hF := He.rely hF hR
    clear hR
    go_simp
    try (unfold stored; go_simp)
    refine hKx _ _ ⟨?_, ?_⟩
    · co_quiet (T _)
    clear hKx Kx
    try walk_nrm
    try simp only [h3b]
    refine opsI_cons C rfl (by rfl) fun _ hR Kx hKx => ?_
    replace hF := He.rely hF hR
    clear hR
    go_simp
    try (unfold stored; go_simp)
    refine hKx _ _ ⟨?_, ?_⟩
    · co_quiet (T _)
    clear hKx Kx
    try walk_nrm
    refine opsI_nil C T ?_
    show wpI _ _ _ _ _ _ _
    refine wpI_cond C T (t := false) rfl ?_
    simp only [if_true, if_false, reduceIte, Bool.false_eq_true]
    refine wpI_seq C T ?_
    refine wpI_region C T ?_
    simp only [List.size_toArray, List.length_cons, List.length_nil, Nat.reduceAdd, Nat.zero_add, List.range, List.range.loop]
    refine opsI_cons C rfl (by rfl) fun _ hR Kx hKx => ?_
    replace hF := He.rely hF hR
    clear hR
    go_simp
    try (unfold stored; go_simp)
    refine hKx _ _ ⟨?_, ?_⟩
    · co_quiet (T _)
    clear hKx Kx
    try walk_nrm
    try simp only [h10b]
    refine opsI_cons C rfl (by rfl) fun _ hR Kx hKx => ?_
    replace hF := He.rely hF hR
    clear hR
    go_simp
    try (unfold stored; go_simp)
    refine hKx _ _ ⟨?_, ?_⟩
    · co_quiet (T _)
    clear hKx Kx
    try walk_nrm
    refine opsI_nil C T ?_
    show wpI _ _ _ _ _ _ _
    refine wpI_cond C T (t := false) rfl ?_
    simp only [if_true, if_false, reduceIte, Bool.false_eq_true]
    refine wpI_skip C T ?_
    show wpI _ _ _ _ _ _ _
    refine wpI_seq C T ?_
    refine wpI_seq C T ?_
    refine wpI_region C T ?_
    simp only [List.size_toArray, List.length_cons, List.length_nil, Nat.reduceAdd, Nat.zero_add, List.range, List.range.loop]
    refine opsI_cons C rfl (by rfl) fun _ hR Kx hKx => ?_
    replace hF := He.rely hF hR
    clear hR
    go_simp
    try (unfold stored; go_simp)
    refine hKx _ _ ⟨?_, ?_⟩
    · co_still (T _)
    clear hKx Kx
    try walk_nrm
    refine opsI_cons C rfl (by rfl) fun _ hR Kx hKx => ?_
    replace hF := He.rely hF hR
    clear hR
    have hcc : World.cell? _ ⟨w.heap.size, 0, none⟩ = some (.int .i64 kd) := cellk (hF.blocks 0 _ rfl) rfl
    go_simp
    try (unfold stored; go_simp)
    refine hKx _ _ ⟨?_, ?_⟩
    · intro e he
      have hm := mem_listed he
      simp [go_sem, *] at hm
      subst hm
      exact evs_at (w₀ := w) hS rfl (by simp)
    clear hKx Kx
    try walk_nrm
    clear hcc
    refine opsI_cons C rfl (by rfl) fun _ hR Kx hKx => ?_
    replace hF := He.rely hF hR
    clear hR
    go_simp
    try (unfold stored; go_simp)
    refine hKx _ _ ⟨?_, ?_⟩
    · co_quiet (T _)
    clear hKx Kx
    try walk_nrm
    try simp only [h11b]
    refine opsI_cons C rfl (by rfl) fun _ hR Kx hKx => ?_
    replace hF := He.rely hF hR
    clear hR
    go_simp
    try (unfold stored; go_simp)
    refine hKx _ _ ⟨?_, ?_⟩
    · co_quiet (T _)
    clear hKx Kx
    try walk_nrm
    refine opsI_unwanted C T rfl (by rfl) ?_
    try walk_nrm
    refine opsI_unwanted C T rfl (by rfl) ?_
    try walk_nrm
    refine opsI_unwanted C T rfl (by rfl) ?_
    try walk_nrm
    refine opsI_unwanted C T rfl (by rfl) ?_
    try walk_nrm
    refine opsI_unwanted C T rfl (by rfl) ?_
    try walk_nrm
    refine opsI_unwanted C T rfl (by rfl) ?_
    try walk_nrm
    refine opsI_unwanted C T rfl (by rfl) ?_
    try walk_nrm
    refine opsI_unwanted C T rfl (by rfl) ?_
    try walk_nrm
    refine opsI_unwanted C T rfl (by rfl) ?_
    try walk_nrm
    refine opsI_cons C rfl (by rfl) fun _ hR Kx hKx => ?_
    replace hF := He.rely hF hR
    clear hR
    go_simp
    try (unfold stored; go_simp)
    refine hKx _ _ ⟨?_, ?_⟩
    · co_quiet (T _)
    clear hKx Kx
    try walk_nrm
    refine opsI_nil C T ?_
    show wpI _ _ _ _ _ _ _
    refine wpI_cond C T (t := false) rfl ?_
    simp only [if_true, if_false, reduceIte, Bool.false_eq_true]
    refine wpI_skip C T ?_
    show wpI _ _ _ _ _ _ _
    refine wpI_seq C T ?_
    refine wpI_seq C T ?_
    refine wpI_region C T ?_
    simp only [List.size_toArray, List.length_cons, List.length_nil, Nat.reduceAdd, Nat.zero_add, List.range, List.range.loop]
    refine opsI_cons C rfl (by rfl) fun _ hR Kx hKx => ?_
    replace hF := He.rely hF hR
    clear hR
    go_simp
    try (unfold stored; go_simp)
    refine hKx _ _ ⟨?_, ?_⟩
    · co_still (T _)
    clear hKx Kx
    try walk_nrm
    refine opsI_cons C rfl (by rfl) fun _ hR Kx hKx => ?_
    replace hF := He.rely hF hR
    clear hR
    have hcc : World.cell? _ ⟨w.heap.size, 0, none⟩ = some (.int .i64 kd) := cellk (hF.blocks 0 _ rfl) rfl
    go_simp
    try (unfold stored; go_simp)
    refine hKx _ _ ⟨?_, ?_⟩
    · intro e he
      have hm := mem_listed he
      simp [go_sem, *] at hm
      subst hm
      exact evs_at (w₀ := w) hS rfl (by simp)
    clear hKx Kx
    try walk_nrm
    clear hcc
    refine opsI_cons C rfl (by rfl) fun _ hR Kx hKx => ?_
    replace hF := He.rely hF hR
    clear hR
    go_simp
    try (unfold stored; go_simp)
    refine hKx _ _ ⟨?_, ?_⟩
    · co_quiet (T _)
    clear hKx Kx
    try walk_nrm
    try simp only [h4b]
    refine opsI_cons C rfl (by rfl) fun _ hR Kx hKx => ?_
    replace hF := He.rely hF hR
    clear hR
    go_simp
    try (unfold stored; go_simp)
    refine hKx _ _ ⟨?_, ?_⟩
    · co_quiet (T _)
    clear hKx Kx
    try walk_nrm
    refine opsI_cons C rfl (by rfl) fun _ hR Kx hKx => ?_
    replace hF := He.rely hF hR
    clear hR
    go_simp
    try (unfold stored; go_simp)
    refine hKx _ _ ⟨?_, ?_⟩
    · co_still (T _)
    clear hKx Kx
    try walk_nrm
    refine opsI_cons C rfl (by rfl) fun _ hR Kx hKx => ?_
    replace hF := He.rely hF hR
    clear hR
    have hcc : World.cell? _ ⟨w.heap.size, 0, none⟩ = some (.int .i64 kd) := cellk (hF.blocks 0 _ rfl) rfl
    go_simp
    try (unfold stored; go_simp)
    refine hKx _ _ ⟨?_, ?_⟩
    · intro e he
      have hm := mem_listed he
      simp [go_sem, *] at hm
      subst hm
      exact evs_at (w₀ := w) hS rfl (by simp)
    clear hKx Kx
    try walk_nrm
    clear hcc
    refine opsI_cons C rfl (by rfl) fun _ hR Kx hKx => ?_
    replace hF := He.rely hF hR
    clear hR
    go_simp
    try (unfold stored; go_simp)
    refine hKx _ _ ⟨?_, ?_⟩
    · co_quiet (T _)
    clear hKx Kx
    try walk_nrm
    try simp only [h5b]
    refine opsI_cons C rfl (by rfl) fun _ hR Kx hKx => ?_
    replace hF := He.rely hF hR
    clear hR
    go_simp
    try (unfold stored; go_simp)
    refine hKx _ _ ⟨?_, ?_⟩
    · co_quiet (T _)
    clear hKx Kx
    try walk_nrm
    refine opsI_cons C rfl (by rfl) fun _ hR Kx hKx => ?_
    replace hF := He.rely hF hR
    clear hR
    go_simp
    try (unfold stored; go_simp)
    refine hKx _ _ ⟨?_, ?_⟩
    · co_quiet (T _)
    clear hKx Kx
    try walk_nrm
    refine opsI_unwanted C T rfl (by rfl) ?_
    try walk_nrm
    refine opsI_unwanted C T rfl (by rfl) ?_
    try walk_nrm
    refine opsI_unwanted C T rfl (by rfl) ?_
    try walk_nrm
    refine opsI_unwanted C T rfl (by rfl) ?_
    try walk_nrm
    refine opsI_unwanted C T rfl (by rfl) ?_
    try walk_nrm
    refine opsI_unwanted C T rfl (by rfl) ?_
    try walk_nrm
    refine opsI_cons C rfl (by rfl) fun _ hR Kx hKx => ?_
    replace hF := He.rely hF hR
    clear hR
    go_simp
    try (unfold stored; go_simp)
    refine hKx _ _ ⟨?_, ?_⟩
    · co_quiet (T _)
    clear hKx Kx
    try walk_nrm
    refine opsI_nil C T ?_
    show wpI _ _ _ _ _ _ _
    refine wpI_cond C T (t := false) rfl ?_
    simp only [if_true, if_false, reduceIte, Bool.false_eq_true]
    refine wpI_skip C T ?_
    show wpI _ _ _ _ _ _ _
    refine wpI_seq C T ?_
    refine wpI_seq C T ?_
    refine wpI_region C T ?_
    simp only [List.size_toArray, List.length_cons, List.length_nil, Nat.reduceAdd, Nat.zero_add, List.range, List.range.loop]
    refine opsI_cons C rfl (by rfl) fun _ hR Kx hKx => ?_
    replace hF := He.rely hF hR
    clear hR
    go_simp
    try (unfold stored; go_simp)
    refine hKx _ _ ⟨?_, ?_⟩
    · co_still (T _)
    clear hKx Kx
    try walk_nrm
    refine opsI_cons C rfl (by rfl) fun _ hR Kx hKx => ?_
    replace hF := He.rely hF hR
    clear hR
    have hcc : World.cell? _ ⟨w.heap.size, 0, none⟩ = some (.int .i64 kd) := cellk (hF.blocks 0 _ rfl) rfl
    go_simp
    try (unfold stored; go_simp)
    refine hKx _ _ ⟨?_, ?_⟩
    · intro e he
      have hm := mem_listed he
      simp [go_sem, *] at hm
      subst hm
      exact evs_at (w₀ := w) hS rfl (by simp)
    clear hKx Kx
    try walk_nrm
    clear hcc
    refine opsI_cons C rfl (by rfl) fun _ hR Kx hKx => ?_
    replace hF := He.rely hF hR
    clear hR
    go_simp
    try (unfold stored; go_simp)
    refine hKx _ _ ⟨?_, ?_⟩
    · co_quiet (T _)
    clear hKx Kx
    try walk_nrm
    try simp only [h6b]
    refine opsI_cons C rfl (by rfl) fun _ hR Kx hKx => ?_
    replace hF := He.rely hF hR
    clear hR
    go_simp
    try (unfold stored; go_simp)
    refine hKx _ _ ⟨?_, ?_⟩
    · co_quiet (T _)
    clear hKx Kx
    try walk_nrm
    refine opsI_unwanted C T rfl (by rfl) ?_
    try walk_nrm
    refine opsI_unwanted C T rfl (by rfl) ?_
    try walk_nrm
    refine opsI_unwanted C T rfl (by rfl) ?_
    try walk_nrm
    refine opsI_cons C rfl (by rfl) fun _ hR Kx hKx => ?_
    replace hF := He.rely hF hR
    clear hR
    go_simp
    try (unfold stored; go_simp)
    refine hKx _ _ ⟨?_, ?_⟩
    · co_quiet (T _)
    clear hKx Kx
    try walk_nrm
    refine opsI_cons C rfl (by rfl) fun _ hR Kx hKx => ?_
    replace hF := He.rely hF hR
    clear hR
    go_simp
    try (unfold stored; go_simp)
    refine hKx _ _ ⟨?_, ?_⟩
    · co_quiet (T _)
    clear hKx Kx
    try walk_nrm
    refine opsI_unwanted C T rfl (by rfl) ?_
    try walk_nrm
    refine opsI_unwanted C T rfl (by rfl) ?_
    try walk_nrm
    refine opsI_unwanted C T rfl (by rfl) ?_
    try walk_nrm
    refine opsI_unwanted C T rfl (by rfl) ?_
    try walk_nrm
    refine opsI_unwanted C T rfl (by rfl) ?_
    try walk_nrm
    refine opsI_unwanted C T rfl (by rfl) ?_
    try walk_nrm
    refine opsI_cons C rfl (by rfl) fun _ hR Kx hKx => ?_
    replace hF := He.rely hF hR
    clear hR
    go_simp
    try (unfold stored; go_simp)
    refine hKx _ _ ⟨?_, ?_⟩
    · co_quiet (T _)
    clear hKx Kx
    try walk_nrm
    refine opsI_nil C T ?_
    show wpI _ _ _ _ _ _ _
    refine wpI_cond C T (t := false) rfl ?_
    simp only [if_true, if_false, reduceIte, Bool.false_eq_true]
    refine wpI_skip C T ?_
    show wpI _ _ _ _ _ _ _
    refine wpI_seq C T ?_
    refine wpI_region C T ?_
    simp only [List.size_toArray, List.length_cons, List.length_nil, Nat.reduceAdd, Nat.zero_add, List.range, List.range.loop]
    refine opsI_cons C rfl (by rfl) fun _ hR Kx hKx => ?_
    replace hF := He.rely hF hR
    clear hR
    go_simp
    try (unfold stored; go_simp)
    refine hKx _ _ ⟨?_, ?_⟩
    · co_quiet (T _)
    clear hKx Kx
    try walk_nrm
    refine opsI_nil C T ?_
    show wpI _ _ _ _ _ _ _
    refine wpI_ret C T ?_
    exact ⟨.inr rfl, rfl, _, resultsC_tmp (by rfl) _, rfl, hF.ext, ⟨fun b h => .inl h, fun b h => by have h1 := hF.size; have := hS b h; simp at h1; omega⟩⟩
end
end Go.Proofs.YtgcaionclkbehaaGreatDoor
