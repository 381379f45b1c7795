/-
  Laws on new blocks and structs, for the program.
-/
import Derived.Test.YtgcaionclkbehaaGreatDoorTake
import Derived.Laws.Tables
import Derived.Test.YtgcaionclkbehaaGreatDoorApp
import Derived.Lib.RuneBytes
set_option linter.all false
set_option linter.unusedSectionVars false
set_option linter.unusedSimpArgs false
namespace Go.Proofs.YtgcaionclkbehaaGreatDoor
open Go.Conc Go.RowKit

theorem box_run (P : Program) (w : World) (t : TypeId) (v : Value) : (Instr.box t v).run P w = .ok (.pointer (some ⟨w.heap.size, 0, none⟩)) (w.alloc (.cells v.cells t)) := by
  simp [Instr.box, newVar, go_sem]
theorem box_events (P : Program) (w : World) (t : TypeId) (v : Value) (es : Array Event) : (Instr.box t v).events P w es = es := by
  simp [Instr.box, newVar, go_sem]
theorem alloc_run {P : Program} {w : World} {t : TypeId} {z : Value} (hz : ∀ w, (zeroValue t).run P w = .ok z w) : (Instr.alloc t true (.tuple #[])).run P w = .ok (.pointer (some ⟨w.heap.size, 0, none⟩)) (w.alloc (.cells z.cells t)) := by
  simp [Instr.alloc, newVar, go_sem, hz]
theorem alloc_events {P : Program} {w : World} {t : TypeId} {z : Value} (hz : ∀ w, (zeroValue t).run P w = .ok z w) (es : Array Event) : (Instr.alloc t true (.tuple #[])).events P w es = es := by
  simp [Instr.alloc, newVar, go_sem, hz]
theorem places_events {P : Program} (w : World) : ∀ (fs : List Field) (places : List (Nat × Nat)) (es : Array Event), fs.mapM (fun f : Field => (P.info? f.type).map fun i => (f.offset, i.size)) = some places →
    (fs.mapM fun f : Field => Functor.map (Prod.mk f.offset) (sizeOf f.type)).events P w es = es
  | [], places, es, h => by simp
  | f :: fs, places, es, h => by
    simp only [List.mapM_cons, Option.bind_eq_bind, Option.pure_def] at h
    cases hi : P.info? f.type with
    | none => simp [hi] at h
    | some i =>
      cases hr : fs.mapM (fun f => (P.info? f.type).map fun i => (f.offset, i.size)) with
      | none => simp [hi, hr] at h
      | some rest =>
        have hs : (sizeOf f.type).run P w = .ok i.size w := by simp [sizeOf, typeInfo, hi]
        simp [List.mapM_cons, hs, run_places w fs rest hr, places_events w fs rest _ hr]
theorem build_events {P : Program} (w : World) (t : TypeId) (parts : Array (Nat × Value)) (cells : Array Value) (h : P.built t parts.toList = some cells) (es : Array Event) : (Instr.build t parts).events P w es = es := by
  unfold Program.built at h
  cases hit : P.info? t with
  | none => simp [hit] at h
  | some it =>
    cases hu : P.underlying t with
    | none => simp [hit, hu] at h
    | some d =>
      cases hz : it.zero with
      | none => cases d <;> simp [hit, hu, hz] at h
      | some z =>
        cases d <;> try (simp [hit, hu] at h; done)
        case array n e =>
          cases hie : P.info? e with
          | none => simp [hit, hu, hz, hie] at h
          | some ie =>
            simp only [hit, hu, hz, hie] at h
            simp [Instr.build, run_underlying hu, sizeOf, typeInfo, zeroValue, hit, hz, hie, h]
        case struct fields =>
          cases hp : fields.toList.mapM (fun f => (P.info? f.type).map fun i => (f.offset, i.size)) with
          | none => simp [hit, hu, hz, hp] at h
          | some places =>
            simp only [hit, hu, hz, hp] at h
            have h' : Instr.fill (fun x => places[x]?) z.cells parts.toList = some cells := by simpa using h
            simp [Instr.build, run_underlying hu, typeInfo, zeroValue, hit, hz, Array.mapM_eq_mapM_toList, run_places w _ _ hp, places_events w _ _ _ hp, h']

/-- Storing a whole row: each entry is a plain write into its block. -/
theorem storeCells_evs {P : Program} (g : Nat) (t : TypeId) : ∀ (vs : List Value) (i : Nat) (cur : Array Value) (w : World) (es : Array Event), w.heap[g]? = some (.cells cur t (0, 0)) → i + vs.length ≤ cur.size → (∀ v ∈ vs, v.oneCell' = true) →
    ∀ ev ∈ (storeCells ⟨g, 0, none⟩ vs i).events P w es, ev ∈ es ∨ ∃ o, ev = ⟨.cell ⟨g, o, none⟩, true, false⟩
  | [], _, _, _, _, _, _, _ => fun ev h => .inl (by simpa [storeCells] using h)
  | v :: rest, i, cur, w, es, hg, hl, h1 => fun ev h => by
    have hi : i < cur.size := by simp at hl; omega
    have hadd : (⟨g, 0, none⟩ : Addr).add i = ⟨g, i, none⟩ := by unfold Addr.add; split <;> simp_all
    have hcell : w.cell? ⟨g, i, none⟩ = some cur[i] := by simp [World.cell?, hg, hi]
    have hfro : w.frozen? ⟨g, i, none⟩ = false := by simp [World.frozen?, hg]
    have hst : (store ((⟨g, 0, none⟩ : Addr).add i) v).run P w = .ok () (w.setRow g (cur.setIfInBounds i v)) := by
      rw [hadd, run_store P w _ v _ (h1 v (by simp)), hcell]
      simp [hfro, setCell_eq_setRow w g i cur t (0, 0) v hg]
    have hev : (store ((⟨g, 0, none⟩ : Addr).add i) v).events P w es = es.push ⟨.cell ⟨g, i, none⟩, true, false⟩ := by
      rw [hadd, events_store P w es _ v _ (h1 v (by simp)), hcell]
      simp only [hfro, Bool.false_eq_true, if_false]
      rfl
    simp only [storeCells, Sem.events_bind, hst, Result.evThen_ok, hev] at h
    rcases storeCells_evs g t rest (i + 1) (cur.setIfInBounds i v) (w.setRow g (cur.setIfInBounds i v)) _ (setRow_heap w g cur _ t _ hg) (by simp at hl ⊢; omega) (fun x hx => h1 x (by simp [hx])) ev h with h | h
    · rcases Array.mem_push.1 h with h | rfl
      · exact .inl h
      · exact .inr ⟨_, rfl⟩
    · exact .inr h
theorem storeVar_evs {P : Program} (w : World) (g : Nat) (t ty : TypeId) (old cells : Array Value) (hg : w.heap[g]? = some (.cells old t (0, 0))) (hi : (P.info? ty).map (·.size) = some cells.size) (ho : old.size = cells.size) (h1 : cells.all (·.oneCell') = true) :
    ∀ ev ∈ (storeVar ty ⟨g, 0, none⟩ (.agg cells)).events P w #[], ∃ o, ev = ⟨.cell ⟨g, o, none⟩, true, false⟩ := by
  intro ev hev
  cases hq : P.info? ty with
  | none => simp [hq] at hi
  | some i =>
    have hs : cells.size = i.size := by simp [hq] at hi; omega
    have hev' : ev ∈ (storeCells ⟨g, 0, none⟩ cells.toList).events P w #[] := by simpa [storeVar, sizeOf, typeInfo, hq, Value.cells, hs] using hev
    rcases storeCells_evs g t cells.toList 0 old w #[] hg (by simp; omega) (fun v hv => (Array.all_eq_true_iff_forall_mem.1 h1) v (by simpa using hv)) ev hev' with h | h
    · simp at h
    · exact h
end Go.Proofs.YtgcaionclkbehaaGreatDoor
/-
  Goroutine 0, beside a child or alone: a strings.Builder of its own, and what is appended to it.
-/
set_option linter.unusedSectionVars false
set_option linter.unusedSimpArgs false
namespace Go.Proofs.YtgcaionclkbehaaGreatDoor
open Go.Conc Go.RowKit
/-- The types of the child's structs. -/
abbrev KTs : TypeId → Prop := fun t => t = 177 ∨ t = 179
/-- What goroutine 0 holds of the world: its builder in block Bb, and the row of bytes that v owns. -/
structure HM (M : World → Nat → Prop) (O : Nat → Prop) (N0 : Nat) (Ex : Nat → Prop) (w₀ : World) (Bb : Nat) (p u v : Value) (n : Nat) (xs : List Value) (w : World) : Prop where
  bd : w.heap[Bb]? = some (.cells #[p, u] 119)
  mb : M w Bb
  exb : Ex Bb ∨ w₀.heap.size ≤ Bb
  ro : RowO M Ex w₀ 5 v n xs w
  size : N0 ≤ w.heap.size
  old : Kept M O Ex w₀ w
section
variable {ι : Type} {R : ι → World → World → Prop} {D : ι → World → World → Array Event → Prop} {i : ι} {M : World → Nat → Prop} {O : Nat → Prop} {N0 : Nat} {Ex : Nat → Prop} {w₀ w w₁ : World} {Bb : Nat} {p u v : Value} {n : Nat} {xs : List Value}
theorem HM.row (h : HM M O N0 Ex w₀ Bb p u v n xs w) : w.ownsRow 0 5 1 v n xs := h.ro.row
theorem HM.nil (h : HM M O N0 Ex w₀ Bb p u v n xs w) : n = 0 → v = .slice none 0 0 := h.ro.nil
theorem HM.cells (h : HM M O N0 Ex w₀ Bb p u v n xs w) : w.cell? ⟨Bb, 0, none⟩ = some p ∧ w.cell? ⟨Bb, 1, none⟩ = some u ∧ w.frozen? ⟨Bb, 0, none⟩ = false ∧ w.frozen? ⟨Bb, 1, none⟩ = false := by
  simp [World.cell?, World.frozen?, h.bd]
theorem HM.rely (E : Env KTs N0 M O (R i) (D i)) (h : HM M O N0 Ex w₀ Bb p u v n xs w) (r : R i w w₁) : HM M O N0 Ex w₀ Bb p u v n xs w₁ :=
  ⟨(E.keep r h.mb).trans h.bd, E.stay r h.mb, h.exb, h.ro.rely E r, Nat.le_trans h.size (E.size r), h.old.rely E r⟩
theorem evo_at {e : Event} {ad : Addr} (he : e.loc = .cell ad) (hb : M w ad.block) : EvO (M w) e := .inl ⟨ad, he, hb⟩
theorem dm_read (E : Env KTs N0 M O (R i) (D i)) (hs : N0 ≤ w.heap.size) {es : Array Event} (h : ∀ e ∈ es, EvO (M w) e) : D i w w es := E.does hs (Own.refl w) h
theorem EvO.up {w' : World} {e : Event} (h : EvO (M w) e) (hm : ∀ b, M w b → M w' b) : EvO (M w') e := h.imp (fun ⟨ad, h1, h2⟩ => ⟨ad, h1, hm _ h2⟩) id
theorem dm_own (E : Env KTs N0 M O (R i) (D i)) {w' : World} (hs : N0 ≤ w.heap.size) (o : Own KTs M w w') {es : Array Event} (h : ∀ e ∈ es, EvO (M w) e) : D i w w' es := E.does hs o fun e he => (h e he).up fun _ hb => E.mine o hb
theorem HM.ownSet (h : HM M O N0 Ex w₀ Bb p u v n xs w) (o : Nat) (x : Value) : Own KTs M w (w.setCell ⟨Bb, o, none⟩ x) := Own.setCell h.bd h.mb (by simp [KTs])
theorem dm_write (E : Env KTs N0 M O (R i) (D i)) (hF : HM M O N0 Ex w₀ Bb p u v n xs w) {es : Array Event} {o : Nat} {x : Value} (h : ∀ e ∈ es, EvO (M w) e) : D i w (w.setCell ⟨Bb, o, none⟩ x) es := dm_own E hF.size (hF.ownSet o x) h
theorem dm_alloc (E : Env KTs N0 M O (R i) (D i)) {cs : Array Value} {t : TypeId} (ht : ¬ KTs t) (hs : N0 ≤ w.heap.size) {es : Array Event} (h : ∀ e ∈ es, EvO (M w) e) : D i w (w.alloc (.cells cs t)) es := dm_own E hs (Own.alloc ht) h
theorem HM.alloc (E : Env KTs N0 M O (R i) (D i)) (h : HM M O N0 Ex w₀ Bb p u v n xs w) {cs : Array Value} {t : TypeId} (ht : ¬ KTs t) : HM M O N0 Ex w₀ Bb p u v n xs (w.alloc (.cells cs t)) := by
  have o : Own KTs M w (w.alloc (.cells cs t)) := Own.alloc ht
  refine ⟨(Below.heap_alloc _ _ _ (E.lt h.mb)).trans h.bd, E.mine o h.mb, h.exb, h.ro.same fun k hk => ⟨Below.heap_alloc _ _ _ (E.lt (h.ro.own k hk).1), E.mine o (h.ro.own k hk).1⟩, by simp [World.size_alloc]; have := h.size; omega, h.old.own E o fun b hb _ => Below.heap_alloc _ _ _ (E.lt (h.old.mine b hb))⟩
/-- .. and a new row of bytes, the next to be appended. -/
structure HA (M : World → Nat → Prop) (O : Nat → Prop) (N0 : Nat) (Ex : Nat → Prop) (w₀ : World) (Bb : Nat) (p u v : Value) (n : Nat) (xs news : List Value) (g : Nat) (w : World) : Prop where
  hm : HM M O N0 Ex w₀ Bb p u v n xs w
  src : SrcO M 5 news g w
theorem HM.built (E : Env KTs N0 M O (R i) (D i)) (h : HM M O N0 Ex w₀ Bb p u v n xs w) (news : List Value) : HA M O N0 Ex w₀ Bb p u v n xs news w.heap.size (w.alloc (.cells news.toArray 5)) :=
  ⟨h.alloc E (by simp [KTs]), heap_alloc_new w _, E.new h.size (Own.alloc (by simp [KTs])) (Nat.le_refl _) (by simp [World.size_alloc])⟩
theorem HA.rely {news : List Value} {g : Nat} (E : Env KTs N0 M O (R i) (D i)) (h : HA M O N0 Ex w₀ Bb p u v n xs news g w) (r : R i w w₁) : HA M O N0 Ex w₀ Bb p u v n xs news g w₁ := ⟨h.hm.rely E r, h.src.rely E r⟩
/-- THE APPEND. -/
theorem append_m {news : List Value} {g : Nat} (E : Env KTs N0 M O (R i) (D i)) (h : HA M O N0 Ex w₀ Bb p u v n xs news g w) (h1 : ∀ x ∈ news, x.oneCell' = true) (hn : n + news.length ≤ 140737488355328) (ty : TypeId) :
    ∃ v' w', (Builtin.append_ #[55, 55] ty #[v, .slice (some ⟨g, 0, none⟩) news.length news.length]).run Tryz.prog w = .ok v' w' ∧ HM M O N0 Ex w₀ Bb p u v' (n + news.length) (xs ++ news) w' ∧
      D i w w' ((Builtin.append_ #[55, 55] ty #[v, .slice (some ⟨g, 0, none⟩) news.length news.length]).events Tryz.prog w #[]) ∧
      ∀ e ∈ (Builtin.append_ #[55, 55] ty #[v, .slice (some ⟨g, 0, none⟩) news.length news.length]).events Tryz.prog w #[], ∀ m, e.loc = .mark m → m = .noRoom := by
  obtain ⟨v', w', hr, ho, hk, hO, hb, hD, hm⟩ := append_o (P := Tryz.prog) E h.hm.size (by simp [KTs]) h.hm.old h.hm.ro h.src 55 ty (.int .u8 0) 1 Tryz.underlying55 (by kernel_rfl) rfl h1 (by unfold maxLen; omega) (by omega)
  exact ⟨v', w', hr, ⟨(hb Bb (E.lt h.hm.mb) fun e => h.hm.ro.ne h.hm.bd (by decide) e rfl).trans h.hm.bd, E.mine hO h.hm.mb, h.hm.exb, ho, Nat.le_trans h.hm.size hO.grow, hk⟩, hD, hm⟩
end
end Go.Proofs.YtgcaionclkbehaaGreatDoor
