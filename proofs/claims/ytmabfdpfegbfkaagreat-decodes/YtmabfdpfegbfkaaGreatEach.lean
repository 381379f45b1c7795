/-
  letters.Each alone, up to the go statement.
-/
import Derived.Test.YtmabfdpfegbfkaaGreatRecv
import Derived.Test.YtmabfdpfegbfkaaGreatBorn
import Derived.Test.YtmabfdpfegbfkaaGreatZ
import Derived.Conc.FxGenLone
import Derived.Conc.FxGenWait
set_option linter.all false
set_option linter.unusedSectionVars false
set_option linter.unusedSimpArgs false
namespace Go.Proofs.YtmabfdpfegbfkaaGreat
open Go.Conc Go.RowKit
/-- The blocks that a call has made since it began in world w₀. -/
structure He (w₀ : World) (objs : List Obj) (w : World) : Prop where
  tape : w.tape = w₀.tape
  os : w.os = w₀.os
  output : w.output = w₀.output
  old : ∀ b, b < w₀.heap.size → w.heap[b]? = w₀.heap[b]?
  size : w.heap.size = w₀.heap.size + objs.length
  blocks : ∀ j o, objs[j]? = some o → w.heap[w₀.heap.size + j]? = some o
section
variable {w₀ w w₁ : World} {objs : List Obj} {Post : Value → World → Prop} {S : Nat → Prop} {Pb Bb : Nat}
theorem He.rely (h : He w₀ objs w) (r : AtRel w w₁) : He w₀ objs w₁ := by
  obtain ⟨e, rfl⟩ := r
  exact ⟨h.tape, h.os, h.output, h.old, h.size, h.blocks⟩
theorem He.alloc (h : He w₀ objs w) (o : Obj) : He w₀ (objs ++ [o]) (w.alloc o) := by
  have hs := h.size
  refine ⟨h.tape, h.os, h.output, fun b hb => (Below.heap_alloc _ _ _ (by omega)).trans (h.old b hb), by simp [World.size_alloc, hs]; omega, fun j x hj => ?_⟩
  rcases Nat.lt_or_ge j objs.length with h1 | h1
  · rw [List.getElem?_append_left h1] at hj
    exact (Below.heap_alloc _ _ _ (by omega)).trans (h.blocks j x hj)
  · rw [List.getElem?_append_right h1] at hj
    obtain ⟨hj0, rfl⟩ : j - objs.length = 0 ∧ o = x := by
      cases hjj : j - objs.length with
      | zero => rw [hjj] at hj; simp at hj; exact ⟨rfl, hj⟩
      | succ m => rw [hjj] at hj; simp at hj
    have : w₀.heap.size + j = w.heap.size := by omega
    rw [this]
    exact heap_alloc_new w o
theorem He.set (h : He w₀ objs w) {j o : Nat} {cs : Array Value} {t : TypeId} (hj : objs[j]? = some (.cells cs t)) (v : Value) : He w₀ (objs.set j (.cells (cs.setIfInBounds o v) t)) (w.setCell ⟨w₀.heap.size + j, o, none⟩ v) := by
  refine ⟨h.tape, h.os, h.output, fun b hb => (HC.off' w _ (by omega)).trans (h.old b hb), by simpa [World.setCell] using h.size, fun i x hi => ?_⟩
  by_cases e : i = j
  · subst e
    have hl := (List.getElem?_eq_some_iff.1 hj).1
    rw [List.getElem?_set_self hl] at hi
    obtain rfl := Option.some.inj hi
    exact setCell_block (h.blocks i _ hj) v
  · rw [List.getElem?_set_ne (Ne.symm e)] at hi
    exact (HC.off' w _ (by omega)).trans (h.blocks i x hi)
theorem evs_at {e : Event} {ad : Addr} (hS : ∀ b, S b → b < w₀.heap.size) (he : e.loc = .cell ad) (hb : w₀.heap.size ≤ ad.block) : EvS S e := by
  obtain ⟨l, wr, sy⟩ := e
  obtain rfl : l = .cell ad := he
  refine ⟨fun x hx a' ha' hs => ?_, by simp, by simp⟩
  have hl : x.loc = .cell ad := by cases wr <;> cases sy <;> (simp [MemAct.ofEvent, MemAct.touch?] at hx; rw [← hx])
  rw [hl] at ha'
  cases ha'
  have := hS _ hs
  omega
theorem frozen1 {b : Nat} {v : Value} {t : TypeId} (h : w.heap[b]? = some (.cells #[v] t)) : w.frozen? ⟨b, 0, none⟩ = false := by simp [World.frozen?, h]
theorem ds_idle (w : World) : DZ S w w #[] := fun e he => by simp at he
def chan0 : Obj := .chan 0 #[] false 0 0 false
/-- The blocks ahead of WaitGroup.Go. -/
def objs6 (N Pb : Nat) : List Obj := [.cells #[pieceV Pb] 29, chan0, .cells #[.chan (some (N + 1))] 103, chan0, .cells #[.chan (some (N + 3))] 104, .cells #[.int .u64 0, .int .u32 0] 114]
set_option maxRecDepth 100000 in
set_option maxHeartbeats 2000000 in
theorem each_front (Pb Bb : Nat) (hF : He w₀ [] w) (hS : ∀ b, S b → b < w₀.heap.size) (Q : PostI (Nat → Prop)) (c : Code)
    (hnext : ∀ w, He w₀ (objs6 w₀.heap.size Pb) w → wpI (ZI Tryz.prog Post 0) 18 c S Q ⟨#[pieceV Pb, .func (.func 19) #[] #[.pointer (some ⟨Bb, 0, none⟩)], .pointer (some ⟨w₀.heap.size, 0, none⟩), undef, .pointer (some ⟨w₀.heap.size + 2, 0, none⟩), .pointer (some ⟨w₀.heap.size + 4, 0, none⟩), .pointer (some ⟨w₀.heap.size + 5, 0, none⟩), .chan (some (w₀.heap.size + 1)), .chan (some (w₀.heap.size + 3)), undef, undef, undef, undef, undef, undef, undef], []⟩ w) :
    ∀ r0 r1 r2 r3, Tryz.f18.body = some (.seq r0 (.seq r1 (.seq r2 (.seq r3 c)))) → wpI (ZI Tryz.prog Post 0) 18 (.seq r0 (.seq r1 (.seq r2 (.seq r3 c)))) S Q ⟨#[pieceV Pb, .func (.func 19) #[] #[.pointer (some ⟨Bb, 0, none⟩)], undef, undef, undef, undef, undef, undef, undef, undef, undef, undef, undef, undef, undef, undef], []⟩ w := by
  intro r0 r1 r2 r3 hbody
  simp only [Tryz.f18, Option.some.injEq, Code.seq.injEq] at hbody
  obtain ⟨rfl, rfl, rfl, rfl, rfl⟩ := hbody
  have C : ClosedI Tryz.prog true (fun _ : Nat → Prop => AtRel) DZ (ZI Tryz.prog Post 0) := ZI.closed
  have T : ∀ S, Terms AtRel (DZ S) := termsS
  have al1 := fun w => alloc_run (w := w) Tryz.zeroValue103
  have ae1 := fun w es => alloc_events (w := w) Tryz.zeroValue103 es
  have al2 := fun w => alloc_run (w := w) Tryz.zeroValue104
  have ae2 := fun w es => alloc_events (w := w) Tryz.zeroValue104 es
  have al3 := fun w => alloc_run (w := w) Tryz.zeroValue114
  have ae3 := fun w es => alloc_events (w := w) Tryz.zeroValue114 es
  obtain ⟨i1, hi1, hb1⟩ := Option.map_eq_some_iff.1 (show (Tryz.prog.info? 21).map (·.bytes) = some 4 by kernel_rfl)
  obtain ⟨i2, hi2, hb2⟩ := Option.map_eq_some_iff.1 (show (Tryz.prog.info? 105).map (·.bytes) = some 0 by kernel_rfl)
  have mc1 := fun w => run_makeChan (P := Tryz.prog) (w := w) Tryz.underlying103 hi1 .i64 0 (by decide) (by simp [hb1])
  have mc2 := fun w => run_makeChan (P := Tryz.prog) (w := w) Tryz.underlying104 hi2 .i64 0 (by decide) (by simp [hb2])
  have me1 := fun w es => events_makeChan (P := Tryz.prog) (w := w) Tryz.underlying103 hi1 .i64 0 (by decide) (by simp [hb1]) es
  have me2 := fun w es => events_makeChan (P := Tryz.prog) (w := w) Tryz.underlying104 hi2 .i64 0 (by decide) (by simp [hb2]) es
  simp only [Int.ofNat_zero, Int.cast_ofNat_Int] at mc1 mc2 me1 me2
  have bx := fun w v => box_run Tryz.prog w 29 v
  have be := fun w v es => box_events Tryz.prog w 29 v es
  refine wpI_seq C T ?_
  refine wpI_region C T ?_
  simp only [List.size_toArray, List.length_cons, List.length_nil, Nat.reduceAdd, Nat.zero_add, List.range, List.range.loop]
  refine opsI_cons C rfl (by rfl) fun _ hR Kx hKx => ?_
  replace hF := He.rely hF hR
  clear hR
  go_simp
  try (unfold stored; go_simp)
  refine hKx _ _ ⟨?_, ?_⟩
  · intro e he
    have hm := mem_listed he
    simp [go_sem, *] at hm
  clear hKx Kx
  try walk_nrm
  have hsz := hF.size
  simp only [List.length_cons, List.length_nil, Nat.reduceAdd, Nat.add_zero, Nat.zero_add] at hsz
  simp only [hsz]
  clear hsz
  replace hF := hF.alloc (.cells #[pieceV Pb] 29)
  simp only [List.cons_append, List.nil_append] at hF
  refine opsI_nil C T ?_
  show wpI _ _ _ _ _ _ _
  refine wpI_seq C T ?_
  refine wpI_region C T ?_
  simp only [List.size_toArray, List.length_cons, List.length_nil, Nat.reduceAdd, Nat.zero_add, List.range, List.range.loop]
  refine opsI_cons C rfl (by rfl) fun _ hR Kx hKx => ?_
  replace hF := He.rely hF hR
  clear hR
  go_simp
  try (unfold stored; go_simp)
  refine hKx _ _ ⟨?_, ?_⟩
  · intro e he
    have hm := mem_listed he
    simp [go_sem, *] at hm
  clear hKx Kx
  try walk_nrm
  have hsz := hF.size
  simp only [List.length_cons, List.length_nil, Nat.reduceAdd, Nat.add_zero, Nat.zero_add] at hsz
  simp only [hsz]
  clear hsz
  replace hF := hF.alloc (chan0)
  simp only [List.cons_append, List.nil_append] at hF
  refine opsI_cons C rfl (by rfl) fun _ hR Kx hKx => ?_
  replace hF := He.rely hF hR
  clear hR
  go_simp
  try (unfold stored; go_simp)
  refine hKx _ _ ⟨?_, ?_⟩
  · intro e he
    have hm := mem_listed he
    simp [go_sem, *] at hm
  clear hKx Kx
  try walk_nrm
  have hsz := hF.size
  simp only [List.length_cons, List.length_nil, Nat.reduceAdd, Nat.add_zero, Nat.zero_add] at hsz
  simp only [hsz]
  clear hsz
  replace hF := hF.alloc (.cells #[.chan none] 103)
  simp only [List.cons_append, List.nil_append] at hF
  refine opsI_cons C rfl (by rfl) fun _ hR Kx hKx => ?_
  replace hF := He.rely hF hR
  clear hR
  have hb := hF.blocks 2 _ rfl
  have hc := cell1 hb
  have hfz : World.frozen? _ ⟨w₀.heap.size + 2, 0, none⟩ = false := frozen1 hb
  go_simp
  try (unfold stored; go_simp)
  refine hKx _ _ ⟨?_, ?_⟩
  · intro e he
    have hm := mem_listed he
    simp [go_sem, *] at hm
    subst hm
    exact evs_at (w₀ := w₀) hS rfl (by simp)
  clear hKx Kx
  try walk_nrm
  clear hb hc hfz
  replace hF := hF.set (j := 2) (o := 0) rfl (.chan (some (w₀.heap.size + 1)))
  simp only [List.set, List.setIfInBounds_toArray] at hF
  refine opsI_nil C T ?_
  show wpI _ _ _ _ _ _ _
  refine wpI_seq C T ?_
  refine wpI_region C T ?_
  simp only [List.size_toArray, List.length_cons, List.length_nil, Nat.reduceAdd, Nat.zero_add, List.range, List.range.loop]
  refine opsI_cons C rfl (by rfl) fun _ hR Kx hKx => ?_
  replace hF := He.rely hF hR
  clear hR
  go_simp
  try (unfold stored; go_simp)
  refine hKx _ _ ⟨?_, ?_⟩
  · intro e he
    have hm := mem_listed he
    simp [go_sem, *] at hm
  clear hKx Kx
  try walk_nrm
  have hsz := hF.size
  simp only [List.length_cons, List.length_nil, Nat.reduceAdd, Nat.add_zero, Nat.zero_add] at hsz
  simp only [hsz]
  clear hsz
  replace hF := hF.alloc (chan0)
  simp only [List.cons_append, List.nil_append] at hF
  refine opsI_cons C rfl (by rfl) fun _ hR Kx hKx => ?_
  replace hF := He.rely hF hR
  clear hR
  go_simp
  try (unfold stored; go_simp)
  refine hKx _ _ ⟨?_, ?_⟩
  · intro e he
    have hm := mem_listed he
    simp [go_sem, *] at hm
  clear hKx Kx
  try walk_nrm
  have hsz := hF.size
  simp only [List.length_cons, List.length_nil, Nat.reduceAdd, Nat.add_zero, Nat.zero_add] at hsz
  simp only [hsz]
  clear hsz
  replace hF := hF.alloc (.cells #[.chan none] 104)
  simp only [List.cons_append, List.nil_append] at hF
  refine opsI_cons C rfl (by rfl) fun _ hR Kx hKx => ?_
  replace hF := He.rely hF hR
  clear hR
  have hb := hF.blocks 4 _ rfl
  have hc := cell1 hb
  have hfz : World.frozen? _ ⟨w₀.heap.size + 4, 0, none⟩ = false := frozen1 hb
  go_simp
  try (unfold stored; go_simp)
  refine hKx _ _ ⟨?_, ?_⟩
  · intro e he
    have hm := mem_listed he
    simp [go_sem, *] at hm
    subst hm
    exact evs_at (w₀ := w₀) hS rfl (by simp)
  clear hKx Kx
  try walk_nrm
  clear hb hc hfz
  replace hF := hF.set (j := 4) (o := 0) rfl (.chan (some (w₀.heap.size + 3)))
  simp only [List.set, List.setIfInBounds_toArray] at hF
  refine opsI_nil C T ?_
  show wpI _ _ _ _ _ _ _
  refine wpI_seq C T ?_
  refine wpI_region C T ?_
  simp only [List.size_toArray, List.length_cons, List.length_nil, Nat.reduceAdd, Nat.zero_add, List.range, List.range.loop]
  refine opsI_cons C rfl (by rfl) fun _ hR Kx hKx => ?_
  replace hF := He.rely hF hR
  clear hR
  go_simp
  try (unfold stored; go_simp)
  refine hKx _ _ ⟨?_, ?_⟩
  · intro e he
    have hm := mem_listed he
    simp [go_sem, *] at hm
  clear hKx Kx
  try walk_nrm
  have hsz := hF.size
  simp only [List.length_cons, List.length_nil, Nat.reduceAdd, Nat.add_zero, Nat.zero_add] at hsz
  simp only [hsz]
  clear hsz
  replace hF := hF.alloc (.cells #[.int .u64 0, .int .u32 0] 114)
  simp only [List.cons_append, List.nil_append] at hF
  refine opsI_nil C T ?_
  show wpI _ _ _ _ _ _ _
  exact hnext _ hF
end
end Go.Proofs.YtmabfdpfegbfkaaGreat
