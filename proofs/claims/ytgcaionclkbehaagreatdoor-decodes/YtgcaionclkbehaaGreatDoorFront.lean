/-
  letters.run alone, up to the go statement.
-/
import Derived.Test.YtgcaionclkbehaaGreatDoorFork
set_option linter.all false
set_option linter.unusedSectionVars false
set_option linter.unusedSimpArgs false
namespace Go.Proofs.YtgcaionclkbehaaGreatDoor
open Go.Conc Go.RowKit
section
variable {w₀ w w₁ : World} {Post : Value → World → Prop} {S : Nat → Prop}
/-- The blocks ahead of WaitGroup.Go. -/
def objs7 (N : Nat) (val : Value) (tC : TypeId) (nv : Value) : List Obj := [.cells #[val] tC, .cells #[nv] 110, chan0, .cells #[.chan (some (N + 2))] 158, chan0, .cells #[.chan (some (N + 4))] 159, .cells #[.int .u64 0, .int .u32 0] 169]
set_option maxRecDepth 100000 in
set_option maxHeartbeats 2000000 in
theorem run_front (val nx : Value) (fr : FuncId) (cr : Array Value) (tC : TypeId) (hF : He w₀ [.cells #[val] tC] w) (hS : ∀ b, S b → b < w₀.heap.size) (Q : PostI (Nat → Prop)) (c : Code)
    (hnext : ∀ w, He w₀ (objs7 w₀.heap.size val tC (.func (.func fr) #[] cr)) w → wpI (ZI Tryz.prog Post 0) 61 c S Q ⟨#[(.func (.func fr) #[] cr), nx, .pointer (some ⟨w₀.heap.size + 1, 0, none⟩), undef, .pointer (some ⟨w₀.heap.size + 3, 0, none⟩), .pointer (some ⟨w₀.heap.size + 5, 0, none⟩), .pointer (some ⟨w₀.heap.size + 6, 0, none⟩), undef, .chan (some (w₀.heap.size + 2)), .chan (some (w₀.heap.size + 4)), undef, undef, undef, undef, undef, undef, undef, undef, undef, undef, undef, undef], []⟩ w) :
    ∀ r0 r1 r2 r3, Tryz.f61.body = some (.seq r0 (.seq r1 (.seq r2 (.seq r3 c)))) → wpI (ZI Tryz.prog Post 0) 61 (.seq r0 (.seq r1 (.seq r2 (.seq r3 c)))) S Q ⟨#[(.func (.func fr) #[] cr), nx, undef, undef, undef, undef, undef, undef, undef, undef, undef, undef, undef, undef, undef, undef, undef, undef, undef, undef, undef, undef], []⟩ w := by
  intro r0 r1 r2 r3 hbody
  simp only [Tryz.f61, Option.some.injEq, Code.seq.injEq] at hbody
  obtain ⟨rfl, rfl, rfl, rfl, rfl⟩ := hbody
  have C : ClosedI Tryz.prog true (fun _ : Nat → Prop => AtRel) DZ (ZI Tryz.prog Post 0) := ZI.closed
  have T : ∀ S, Terms AtRel (DZ S) := termsS
  have al1 := fun w => alloc_run (w := w) Tryz.zeroValue158
  have ae1 := fun w es => alloc_events (w := w) Tryz.zeroValue158 es
  have al2 := fun w => alloc_run (w := w) Tryz.zeroValue159
  have ae2 := fun w es => alloc_events (w := w) Tryz.zeroValue159 es
  have al3 := fun w => alloc_run (w := w) Tryz.zeroValue169
  have ae3 := fun w es => alloc_events (w := w) Tryz.zeroValue169 es
  obtain ⟨i1, hi1, hb1⟩ := Option.map_eq_some_iff.1 (show (Tryz.prog.info? 21).map (·.bytes) = some 4 by kernel_rfl)
  obtain ⟨i2, hi2, hb2⟩ := Option.map_eq_some_iff.1 (show (Tryz.prog.info? 160).map (·.bytes) = some 0 by kernel_rfl)
  have mc1 := fun w => run_makeChan (P := Tryz.prog) (w := w) Tryz.underlying158 hi1 .i64 0 (by decide) (by simp [hb1])
  have mc2 := fun w => run_makeChan (P := Tryz.prog) (w := w) Tryz.underlying159 hi2 .i64 0 (by decide) (by simp [hb2])
  have me1 := fun w es => events_makeChan (P := Tryz.prog) (w := w) Tryz.underlying158 hi1 .i64 0 (by decide) (by simp [hb1]) es
  have me2 := fun w es => events_makeChan (P := Tryz.prog) (w := w) Tryz.underlying159 hi2 .i64 0 (by decide) (by simp [hb2]) es
  simp only [Int.ofNat_zero, Int.cast_ofNat_Int] at mc1 mc2 me1 me2
  have bx := fun w v => box_run Tryz.prog w 110 v
  have be := fun w v es => box_events Tryz.prog w 110 v es
  refine wpI_seq C T ?_
  refine wpI_region C T ?_
  simp only [List.size_toArray, List.length_cons, List.length_nil, Nat.reduceAdd, Nat.zero_add, List.range, List.range.loop]
  refine opsI_cons C rfl (by rfl) fun _ hR Kx hKx => ?_
  replace hF := He.rely hF hR
  clear hR
  go_simp
  try (unfold stored; go_simp)
  refine hKx _ _ ⟨?_, ?_⟩
  · intro e he
    have hm := mem_listed he
    simp [go_sem, *] at hm
  clear hKx Kx
  try walk_nrm
  have hsz := hF.size
  simp only [List.length_cons, List.length_nil, Nat.reduceAdd, Nat.add_zero, Nat.zero_add] at hsz
  simp only [hsz]
  clear hsz
  replace hF := hF.alloc (.cells #[(.func (.func fr) #[] cr)] 110)
  simp only [List.cons_append, List.nil_append] at hF
  refine opsI_nil C T ?_
  show wpI _ _ _ _ _ _ _
  refine wpI_seq C T ?_
  refine wpI_region C T ?_
  simp only [List.size_toArray, List.length_cons, List.length_nil, Nat.reduceAdd, Nat.zero_add, List.range, List.range.loop]
  refine opsI_cons C rfl (by rfl) fun _ hR Kx hKx => ?_
  replace hF := He.rely hF hR
  clear hR
  go_simp
  try (unfold stored; go_simp)
  refine hKx _ _ ⟨?_, ?_⟩
  · intro e he
    have hm := mem_listed he
    simp [go_sem, *] at hm
  clear hKx Kx
  try walk_nrm
  have hsz := hF.size
  simp only [List.length_cons, List.length_nil, Nat.reduceAdd, Nat.add_zero, Nat.zero_add] at hsz
  simp only [hsz]
  clear hsz
  replace hF := hF.alloc (chan0)
  simp only [List.cons_append, List.nil_append] at hF
  refine opsI_cons C rfl (by rfl) fun _ hR Kx hKx => ?_
  replace hF := He.rely hF hR
  clear hR
  go_simp
  try (unfold stored; go_simp)
  refine hKx _ _ ⟨?_, ?_⟩
  · intro e he
    have hm := mem_listed he
    simp [go_sem, *] at hm
  clear hKx Kx
  try walk_nrm
  have hsz := hF.size
  simp only [List.length_cons, List.length_nil, Nat.reduceAdd, Nat.add_zero, Nat.zero_add] at hsz
  simp only [hsz]
  clear hsz
  replace hF := hF.alloc (.cells #[.chan none] 158)
  simp only [List.cons_append, List.nil_append] at hF
  refine opsI_cons C rfl (by rfl) fun _ hR Kx hKx => ?_
  replace hF := He.rely hF hR
  clear hR
  have hb := hF.blocks 3 _ rfl
  have hc := cell1 hb
  have hfz : World.frozen? _ ⟨w₀.heap.size + 3, 0, none⟩ = false := frozen1 hb
  go_simp
  try (unfold stored; go_simp)
  refine hKx _ _ ⟨?_, ?_⟩
  · intro e he
    have hm := mem_listed he
    simp [go_sem, *] at hm
    subst hm
    exact evs_at (w₀ := w₀) hS rfl (by simp)
  clear hKx Kx
  try walk_nrm
  clear hb hc hfz
  replace hF := hF.set (j := 3) (o := 0) rfl (.chan (some (w₀.heap.size + 2)))
  simp only [List.set, List.setIfInBounds_toArray] at hF
  refine opsI_nil C T ?_
  show wpI _ _ _ _ _ _ _
  refine wpI_seq C T ?_
  refine wpI_region C T ?_
  simp only [List.size_toArray, List.length_cons, List.length_nil, Nat.reduceAdd, Nat.zero_add, List.range, List.range.loop]
  refine opsI_cons C rfl (by rfl) fun _ hR Kx hKx => ?_
  replace hF := He.rely hF hR
  clear hR
  go_simp
  try (unfold stored; go_simp)
  refine hKx _ _ ⟨?_, ?_⟩
  · intro e he
    have hm := mem_listed he
    simp [go_sem, *] at hm
  clear hKx Kx
  try walk_nrm
  have hsz := hF.size
  simp only [List.length_cons, List.length_nil, Nat.reduceAdd, Nat.add_zero, Nat.zero_add] at hsz
  simp only [hsz]
  clear hsz
  replace hF := hF.alloc (chan0)
  simp only [List.cons_append, List.nil_append] at hF
  refine opsI_cons C rfl (by rfl) fun _ hR Kx hKx => ?_
  replace hF := He.rely hF hR
  clear hR
  go_simp
  try (unfold stored; go_simp)
  refine hKx _ _ ⟨?_, ?_⟩
  · intro e he
    have hm := mem_listed he
    simp [go_sem, *] at hm
  clear hKx Kx
  try walk_nrm
  have hsz := hF.size
  simp only [List.length_cons, List.length_nil, Nat.reduceAdd, Nat.add_zero, Nat.zero_add] at hsz
  simp only [hsz]
  clear hsz
  replace hF := hF.alloc (.cells #[.chan none] 159)
  simp only [List.cons_append, List.nil_append] at hF
  refine opsI_cons C rfl (by rfl) fun _ hR Kx hKx => ?_
  replace hF := He.rely hF hR
  clear hR
  have hb := hF.blocks 5 _ rfl
  have hc := cell1 hb
  have hfz : World.frozen? _ ⟨w₀.heap.size + 5, 0, none⟩ = false := frozen1 hb
  go_simp
  try (unfold stored; go_simp)
  refine hKx _ _ ⟨?_, ?_⟩
  · intro e he
    have hm := mem_listed he
    simp [go_sem, *] at hm
    subst hm
    exact evs_at (w₀ := w₀) hS rfl (by simp)
  clear hKx Kx
  try walk_nrm
  clear hb hc hfz
  replace hF := hF.set (j := 5) (o := 0) rfl (.chan (some (w₀.heap.size + 4)))
  simp only [List.set, List.setIfInBounds_toArray] at hF
  refine opsI_nil C T ?_
  show wpI _ _ _ _ _ _ _
  refine wpI_seq C T ?_
  refine wpI_region C T ?_
  simp only [List.size_toArray, List.length_cons, List.length_nil, Nat.reduceAdd, Nat.zero_add, List.range, List.range.loop]
  refine opsI_cons C rfl (by rfl) fun _ hR Kx hKx => ?_
  replace hF := He.rely hF hR
  clear hR
  go_simp
  try (unfold stored; go_simp)
  refine hKx _ _ ⟨?_, ?_⟩
  · intro e he
    have hm := mem_listed he
    simp [go_sem, *] at hm
  clear hKx Kx
  try walk_nrm
  have hsz := hF.size
  simp only [List.length_cons, List.length_nil, Nat.reduceAdd, Nat.add_zero, Nat.zero_add] at hsz
  simp only [hsz]
  clear hsz
  replace hF := hF.alloc (.cells #[.int .u64 0, .int .u32 0] 169)
  simp only [List.cons_append, List.nil_append] at hF
  refine opsI_nil C T ?_
  show wpI _ _ _ _ _ _ _
  exact hnext _ hF
end
end Go.Proofs.YtgcaionclkbehaaGreatDoor
