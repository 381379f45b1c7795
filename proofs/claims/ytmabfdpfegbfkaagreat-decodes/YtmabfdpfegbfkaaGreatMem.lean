/-
  Laws on new blocks and structs, for the program.
-/
import Derived.Test.YtmabfdpfegbfkaaGreatTake
import Derived.Laws.Tables
set_option linter.all false
set_option linter.unusedSectionVars false
set_option linter.unusedSimpArgs false
namespace Go.Proofs.YtmabfdpfegbfkaaGreat
open Go.Conc Go.RowKit

theorem box_run (P : Program) (w : World) (t : TypeId) (v : Value) : (Instr.box t v).run P w = .ok (.pointer (some ⟨w.heap.size, 0, none⟩)) (w.alloc (.cells v.cells t)) := by
  simp [Instr.box, newVar, go_sem]
theorem box_events (P : Program) (w : World) (t : TypeId) (v : Value) (es : Array Event) : (Instr.box t v).events P w es = es := by
  simp [Instr.box, newVar, go_sem]
theorem alloc_run {P : Program} {w : World} {t : TypeId} {z : Value} (hz : ∀ w, (zeroValue t).run P w = .ok z w) : (Instr.alloc t true (.tuple #[])).run P w = .ok (.pointer (some ⟨w.heap.size, 0, none⟩)) (w.alloc (.cells z.cells t)) := by
  simp [Instr.alloc, newVar, go_sem, hz]
theorem alloc_events {P : Program} {w : World} {t : TypeId} {z : Value} (hz : ∀ w, (zeroValue t).run P w = .ok z w) (es : Array Event) : (Instr.alloc t true (.tuple #[])).events P w es = es := by
  simp [Instr.alloc, newVar, go_sem, hz]
theorem places_events {P : Program} (w : World) : ∀ (fs : List Field) (places : List (Nat × Nat)) (es : Array Event), fs.mapM (fun f : Field => (P.info? f.type).map fun i => (f.offset, i.size)) = some places →
    (fs.mapM fun f : Field => Functor.map (Prod.mk f.offset) (sizeOf f.type)).events P w es = es
  | [], places, es, h => by simp
  | f :: fs, places, es, h => by
    simp only [List.mapM_cons, Option.bind_eq_bind, Option.pure_def] at h
    cases hi : P.info? f.type with
    | none => simp [hi] at h
    | some i =>
      cases hr : fs.mapM (fun f => (P.info? f.type).map fun i => (f.offset, i.size)) with
      | none => simp [hi, hr] at h
      | some rest =>
        have hs : (sizeOf f.type).run P w = .ok i.size w := by simp [sizeOf, typeInfo, hi]
        simp [List.mapM_cons, hs, run_places w fs rest hr, places_events w fs rest _ hr]
theorem build_events {P : Program} (w : World) (t : TypeId) (parts : Array (Nat × Value)) (cells : Array Value) (h : P.built t parts.toList = some cells) (es : Array Event) : (Instr.build t parts).events P w es = es := by
  unfold Program.built at h
  cases hit : P.info? t with
  | none => simp [hit] at h
  | some it =>
    cases hu : P.underlying t with
    | none => simp [hit, hu] at h
    | some d =>
      cases hz : it.zero with
      | none => cases d <;> simp [hit, hu, hz] at h
      | some z =>
        cases d <;> try (simp [hit, hu] at h; done)
        case array n e =>
          cases hie : P.info? e with
          | none => simp [hit, hu, hz, hie] at h
          | some ie =>
            simp only [hit, hu, hz, hie] at h
            simp [Instr.build, run_underlying hu, sizeOf, typeInfo, zeroValue, hit, hz, hie, h]
        case struct fields =>
          cases hp : fields.toList.mapM (fun f => (P.info? f.type).map fun i => (f.offset, i.size)) with
          | none => simp [hit, hu, hz, hp] at h
          | some places =>
            simp only [hit, hu, hz, hp] at h
            have h' : Instr.fill (fun x => places[x]?) z.cells parts.toList = some cells := by simpa using h
            simp [Instr.build, run_underlying hu, typeInfo, zeroValue, hit, hz, Array.mapM_eq_mapM_toList, run_places w _ _ hp, places_events w _ _ _ hp, h']

/-- Storing a whole row: each entry is a plain write into its block. -/
theorem storeCells_evs {P : Program} (g : Nat) (t : TypeId) : ∀ (vs : List Value) (i : Nat) (cur : Array Value) (w : World) (es : Array Event), w.heap[g]? = some (.cells cur t (0, 0)) → i + vs.length ≤ cur.size → (∀ v ∈ vs, v.oneCell' = true) →
    ∀ ev ∈ (storeCells ⟨g, 0, none⟩ vs i).events P w es, ev ∈ es ∨ ∃ o, ev = ⟨.cell ⟨g, o, none⟩, true, false⟩
  | [], _, _, _, _, _, _, _ => fun ev h => .inl (by simpa [storeCells] using h)
  | v :: rest, i, cur, w, es, hg, hl, h1 => fun ev h => by
    have hi : i < cur.size := by simp at hl; omega
    have hadd : (⟨g, 0, none⟩ : Addr).add i = ⟨g, i, none⟩ := by unfold Addr.add; split <;> simp_all
    have hcell : w.cell? ⟨g, i, none⟩ = some cur[i] := by simp [World.cell?, hg, hi]
    have hfro : w.frozen? ⟨g, i, none⟩ = false := by simp [World.frozen?, hg]
    have hst : (store ((⟨g, 0, none⟩ : Addr).add i) v).run P w = .ok () (w.setRow g (cur.setIfInBounds i v)) := by
      rw [hadd, run_store P w _ v _ (h1 v (by simp)), hcell]
      simp [hfro, setCell_eq_setRow w g i cur t (0, 0) v hg]
    have hev : (store ((⟨g, 0, none⟩ : Addr).add i) v).events P w es = es.push ⟨.cell ⟨g, i, none⟩, true, false⟩ := by
      rw [hadd, events_store P w es _ v _ (h1 v (by simp)), hcell]
      simp only [hfro, Bool.false_eq_true, if_false]
      rfl
    simp only [storeCells, Sem.events_bind, hst, Result.evThen_ok, hev] at h
    rcases storeCells_evs g t rest (i + 1) (cur.setIfInBounds i v) (w.setRow g (cur.setIfInBounds i v)) _ (setRow_heap w g cur _ t _ hg) (by simp at hl ⊢; omega) (fun x hx => h1 x (by simp [hx])) ev h with h | h
    · rcases Array.mem_push.1 h with h | rfl
      · exact .inl h
      · exact .inr ⟨_, rfl⟩
    · exact .inr h
theorem storeVar_evs {P : Program} (w : World) (g : Nat) (t ty : TypeId) (old cells : Array Value) (hg : w.heap[g]? = some (.cells old t (0, 0))) (hi : (P.info? ty).map (·.size) = some cells.size) (ho : old.size = cells.size) (h1 : cells.all (·.oneCell') = true) :
    ∀ ev ∈ (storeVar ty ⟨g, 0, none⟩ (.agg cells)).events P w #[], ∃ o, ev = ⟨.cell ⟨g, o, none⟩, true, false⟩ := by
  intro ev hev
  cases hq : P.info? ty with
  | none => simp [hq] at hi
  | some i =>
    have hs : cells.size = i.size := by simp [hq] at hi; omega
    have hev' : ev ∈ (storeCells ⟨g, 0, none⟩ cells.toList).events P w #[] := by simpa [storeVar, sizeOf, typeInfo, hq, Value.cells, hs] using hev
    rcases storeCells_evs g t cells.toList 0 old w #[] hg (by simp; omega) (fun v hv => (Array.all_eq_true_iff_forall_mem.1 h1) v (by simpa using hv)) ev hev' with h | h
    · simp at h
    · exact h
end Go.Proofs.YtmabfdpfegbfkaaGreat
