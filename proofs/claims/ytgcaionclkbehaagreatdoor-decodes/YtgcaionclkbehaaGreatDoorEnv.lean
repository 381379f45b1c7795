/-
  Goroutine 0's own work, beside a child or alone, by one word: which blocks are its own; what others leave it, what it may do. It knows no program.
-/
import Derived.Test.YtgcaionclkbehaaGreatDoorZ
import Derived.Conc.CompanyDraw
import Derived.Maps.AppendAt
import Derived.RowKit
import Derived.OwnWalk
set_option linter.all false
set_option linter.unusedSectionVars false
namespace Go.Proofs.YtgcaionclkbehaaGreatDoor
open Go.Conc Go.RowKit

/-- What a step lists: cells of blocks of its own, or marks that tell nothing. -/
def EvO (M : Nat → Prop) (e : Event) : Prop :=
  (∃ ad : Addr, e.loc = .cell ad ∧ M ad.block) ∨ ((MemAct.ofEvent e).touch? = none ∧ e.loc ≠ .mark .disable ∧ e.loc ≠ .mark .enable ∧ ∀ a, MemAct.ofEvent e ≠ .mark (.release a))
/-- A step that turns blocks of its own alone, and makes none of the types KT. -/
structure Own (KT : TypeId → Prop) (M : World → Nat → Prop) (w w' : World) : Prop where
  tape : w'.tape = w.tape
  os : w'.os = w.os
  output : w'.output = w.output
  grow : w.heap.size ≤ w'.heap.size
  block : ∀ b, b < w.heap.size → ¬ M w b → w'.heap[b]? = w.heap[b]?
  kt : ∀ (b : Nat) (cs : Array Value) (t : TypeId) (fz : Nat × Nat), w'.heap[b]? = some (Obj.cells cs t fz) → KT t → w'.heap[b]? = w.heap[b]?
/-- The surroundings: M: goroutine 0's blocks in a world. -/
structure Env (KT : TypeId → Prop) (N0 : Nat) (M : World → Nat → Prop) (O : Nat → Prop) (R : World → World → Prop) (D : World → World → Array Event → Prop) : Prop where
  lt : ∀ {w : World} {b : Nat}, M w b → b < w.heap.size
  keep : ∀ {w w₁ : World} {b : Nat}, R w w₁ → M w b → w₁.heap[b]? = w.heap[b]?
  stay : ∀ {w w₁ : World} {b : Nat}, R w w₁ → M w b → M w₁ b
  tape : ∀ {w w₁ : World}, R w w₁ → w₁.tape = w.tape
  os : ∀ {w w₁ : World}, R w w₁ → w₁.os = w.os
  output : ∀ {w w₁ : World}, R w w₁ → w₁.output = w.output
  size : ∀ {w w₁ : World}, R w w₁ → w.heap.size ≤ w₁.heap.size
  does : ∀ {w w' : World} {es : Array Event}, N0 ≤ w.heap.size → Own KT M w w' → (∀ e ∈ es, EvO (M w') e) → D w w' es
  mine : ∀ {w w' : World} {b : Nat}, Own KT M w w' → M w b → M w' b
  new : ∀ {w w' : World} {b : Nat}, N0 ≤ w.heap.size → Own KT M w w' → w.heap.size ≤ b → b < w'.heap.size → M w' b
  outR : ∀ {w w₁ : World} {b : Nat}, R w w₁ → O b → b < w.heap.size → w₁.heap[b]? = w.heap[b]?
  outM : ∀ {w w' : World} {b : Nat}, O b → b < w'.heap.size → M w b → M w' b
  drawR : ∀ w : World, R w { w with drawn := w.drawn + 1 }
  drawD : LetsDraw D
/-- What goroutine 0 had stands, Ex aside; and so do the blocks O that nobody but goroutine 0 turns. -/
structure Kept (M : World → Nat → Prop) (O : Nat → Prop) (Ex : Nat → Prop) (w₀ w : World) : Prop where
  tape : w.tape = w₀.tape
  os : w.os = w₀.os
  output : w.output = w₀.output
  grow : w₀.heap.size ≤ w.heap.size
  block : ∀ b, M w₀ b → ¬ Ex b → w.heap[b]? = w₀.heap[b]?
  mine : ∀ b, M w₀ b → M w b
  low : ∀ b, O b → b < w₀.heap.size → ¬ Ex b → w.heap[b]? = w₀.heap[b]?

section
variable {KT : TypeId → Prop} {N0 : Nat} {M : World → Nat → Prop} {O : Nat → Prop} {R : World → World → Prop} {D : World → World → Array Event → Prop} {Ex Ex' : Nat → Prop} {w₀ w w₁ w' : World}
theorem Own.refl (w : World) : Own KT M w w := ⟨rfl, rfl, rfl, Nat.le_refl _, fun _ _ _ => rfl, fun _ _ _ _ _ _ => rfl⟩
theorem Own.alloc {cs : Array Value} {t : TypeId} (ht : ¬ KT t) (fz : Nat × Nat := (0, 0)) : Own KT M w (w.alloc (.cells cs t fz)) := by
  refine ⟨rfl, rfl, rfl, by simp [World.size_alloc], fun b hb _ => Below.heap_alloc _ _ _ hb, fun b cs' t' fz' h hk => ?_⟩
  by_cases hb : b < w.heap.size
  · exact Below.heap_alloc _ _ _ hb
  · have hlt := (Array.getElem?_eq_some_iff.1 h).1
    have : b = w.heap.size := by simp [World.size_alloc] at hlt; omega
    subst this
    rw [heap_alloc_new] at h
    cases h
    exact absurd hk ht
theorem Own.setCell {b o : Nat} {x : Value} {cs : Array Value} {t : TypeId} {fz : Nat × Nat} (hb : w.heap[b]? = some (.cells cs t fz)) (hm : M w b) (ht : ¬ KT t) : Own KT M w (w.setCell ⟨b, o, none⟩ x) := by
  refine ⟨rfl, rfl, rfl, by simp [World.setCell], fun k _ hk => Below.heap_setCell _ _ _ _ (fun e => hk (e ▸ hm)), fun k cs' t' fz' h hk => ?_⟩
  by_cases e : k = b
  · subst e
    have : (w.setCell ⟨k, o, none⟩ x).heap[k]? = some (.cells (cs.setIfInBounds o x) t fz) := by simp [World.setCell, Array.getElem?_modify, hb]
    rw [this] at h
    cases h
    exact absurd hk ht
  · exact Below.heap_setCell _ _ _ _ e
theorem Own.setRow {b : Nat} {xs cs : Array Value} {t : TypeId} {fz : Nat × Nat} (hb : w.heap[b]? = some (.cells cs t fz)) (hm : M w b) (ht : ¬ KT t) : Own KT M w (w.setRow b xs) := by
  have hne : ∀ k, k ≠ b → (w.setRow b xs).heap[k]? = w.heap[k]? := fun k hk => by simp [World.setRow, Array.getElem?_modify, Ne.symm hk]
  refine ⟨rfl, rfl, rfl, by simp [World.setRow], fun k _ hk => hne k (fun e => hk (e ▸ hm)), fun k cs' t' fz' h hk => ?_⟩
  by_cases e : k = b
  · subst e
    have : (w.setRow k xs).heap[k]? = some (.cells xs t fz) := by simp [World.setRow, Array.getElem?_modify, hb]
    rw [this] at h
    cases h
    exact absurd hk ht
  · exact hne k e
theorem Kept.refl (w : World) : Kept M O Ex w w := ⟨rfl, rfl, rfl, Nat.le_refl _, fun _ _ _ => rfl, fun _ h => h, fun _ _ _ _ => rfl⟩
theorem Kept.rely (E : Env KT N0 M O R D) (h : Kept M O Ex w₀ w) (r : R w w₁) : Kept M O Ex w₀ w₁ :=
  ⟨(E.tape r).trans h.tape, (E.os r).trans h.os, (E.output r).trans h.output, Nat.le_trans h.grow (E.size r), fun b hb hx => (E.keep r (h.mine b hb)).trans (h.block b hb hx), fun b hb => E.stay r (h.mine b hb), fun b ho hl hn => (E.outR r ho (Nat.lt_of_lt_of_le hl h.grow)).trans (h.low b ho hl hn)⟩
theorem Kept.own (E : Env KT N0 M O R D) (h : Kept M O Ex w₀ w) (o : Own KT M w w') (hx : ∀ b, M w₀ b → ¬ Ex b → w'.heap[b]? = w.heap[b]?) : Kept M O Ex w₀ w' :=
  ⟨o.tape.trans h.tape, o.os.trans h.os, o.output.trans h.output, Nat.le_trans h.grow o.grow, fun b hb hn => (hx b hb hn).trans (h.block b hb hn), fun b hb => E.mine o (h.mine b hb), fun b ho hl hn => ((Classical.em (M w b)).elim (fun hm => hx b (E.outM ho hl hm) hn) (fun hm => o.block b (Nat.lt_of_lt_of_le hl h.grow) hm)).trans (h.low b ho hl hn)⟩
theorem Kept.mono (h : Kept M O Ex w₀ w) (hx : ∀ b, Ex b → Ex' b) : Kept M O Ex' w₀ w := ⟨h.tape, h.os, h.output, h.grow, fun b hb hn => h.block b hb fun z => hn (hx b z), h.mine, fun b ho hl hn => h.low b ho hl fun z => hn (hx b z)⟩
/-- One stretch behind another; what the second turns was turned by the first, or is newer. -/
theorem Kept.trans (E : Env KT N0 M O R D) (h : Kept M O Ex w₀ w) (h' : Kept M O Ex' w w₁) (hx : ∀ b, Ex' b → Ex b ∨ w₀.heap.size ≤ b) : Kept M O Ex w₀ w₁ :=
  ⟨h'.tape.trans h.tape, h'.os.trans h.os, h'.output.trans h.output, Nat.le_trans h.grow h'.grow, fun b hb hn => (h'.block b (h.mine b hb) fun z => (hx b z).elim hn fun z => absurd (E.lt hb) (by omega)).trans (h.block b hb hn), fun b hb => h'.mine b (h.mine b hb), fun b ho hl hn => (h'.low b ho (Nat.lt_of_lt_of_le hl h.grow) fun z => (hx b z).elim hn fun z => absurd hl (by omega)).trans (h.low b ho hl hn)⟩

/-! ### beside the child -/
def mineM (K : Cfg) (w : World) (b : Nat) : Prop := b < w.heap.size ∧ ¬ K.Kid w b ∧ ¬ K.Still b ∧ ¬ K.Syn b ∧ ∀ ad : Addr, ad.block = b → ¬ K.Shun (.cell ad)
/-- The blocks below that are neither the child's nor the channels' and the group's. -/
def outM (K : Cfg) (b : Nat) : Prop := b < K.N0 ∧ ¬ K.Kid0 b ∧ ¬ K.Syn b
theorem evM_of {K : Cfg} {e : Event} (h : EvO (mineM K w') e) : EvM K w' e := by
  rcases h with ⟨ad, he, hl, hk, hs, _, hh⟩ | ⟨h1, h2, h3, h4⟩
  · obtain ⟨l, wr, sy⟩ := e
    obtain rfl : l = .cell ad := he
    have hl' : ∀ x, (MemAct.ofEvent ⟨.cell ad, wr, sy⟩).touch? = some x → x.loc = .cell ad := by
      intro x hx
      cases wr <;> cases sy <;> (simp [MemAct.ofEvent, MemAct.touch?] at hx; rw [← hx])
    refine ⟨fun x hx => ⟨⟨?_, ?_, ?_⟩, fun a' ha' => ?_⟩, by simp, by simp, by cases wr <;> cases sy <;> simp [MemAct.ofEvent]⟩
    · rw [hl' x hx]; rintro (⟨a', e, h⟩ | e)
      · cases e; exact hk h
      · cases e
    · rw [hl' x hx]; rintro ⟨a', e, h⟩; cases e; exact absurd h hs
    · rw [hl' x hx]; exact fun h => absurd h (hh ad rfl)
    · rw [hl' x hx] at ha'; cases ha'; exact hl
  · exact ⟨fun x hx => (by rw [h1] at hx; cases hx), h2, h3, h4 _⟩
theorem envM {K : Cfg} (F : K.Fit) : Env K.KT K.N0 (mineM K) (outM K) (RM K) (DM K) where
  lt := fun h => h.1
  keep := fun r h => r.block _ h.1 h.2.1 h.2.2.2.1
  stay := fun r h => ⟨Nat.lt_of_lt_of_le h.1 r.size, fun z => h.2.1 (z.of_same (r.block _ h.1 h.2.1 h.2.2.2.1).symm), h.2.2⟩
  tape := fun r => r.tape
  os := fun r => r.os
  output := fun r => r.output
  size := fun r => r.size
  does := by
    intro w w' es hn o he
    refine ⟨fun b hb => ?_, fun b hb => ?_, o.grow, fun e h => evM_of (he e h)⟩
    · refine o.block b ?_ fun m => ?_
      · rcases hb with hb | hb | hb
        · exact hb.lt F hn
        · exact Nat.lt_of_lt_of_le (F.s0 b hb) hn
        · rcases hb with rfl | rfl | rfl
          · exact Nat.lt_of_lt_of_le F.A0 hn
          · exact Nat.lt_of_lt_of_le F.E0 hn
          · exact Nat.lt_of_lt_of_le F.W0 hn
      · rcases hb with hb | hb | hb
        · exact m.2.1 hb
        · exact m.2.2.1 hb
        · exact m.2.2.2.1 hb
    · rcases hb with hb | ⟨h1, cs, t, fz, h2, h3⟩
      · exact .inl hb
      · exact .inr ⟨h1, cs, t, fz, (o.kt b cs t fz h2 h3).symm.trans h2, h3⟩
  mine := by
    rintro w w' b o ⟨h1, h2, h3⟩
    refine ⟨Nat.lt_of_lt_of_le h1 o.grow, fun hk => h2 ?_, h3⟩
    rcases hk with hb | ⟨h1, cs, t, fz, h2, h3⟩
    · exact .inl hb
    · exact .inr ⟨h1, cs, t, fz, (o.kt b cs t fz h2 h3).symm.trans h2, h3⟩
  new := by
    intro w w' b hn o h1 h2
    refine ⟨h2, ?_, fun z => ?_, ?_, fun ad ha hs => ?_⟩
    · rintro (z | ⟨z, cs, t, fz, z1, z2⟩)
      · have := F.c0 b z; omega
      · have e := (o.kt b cs t fz z1 z2).symm.trans z1
        have := (Array.getElem?_eq_some_iff.1 e).1
        omega
    · have := F.s0 b z; omega
    · rintro (rfl | rfl | rfl)
      · have := F.A0; omega
      · have := F.E0; omega
      · have := F.W0; omega
    · obtain ⟨a, e, z⟩ := F.shunCell _ hs
      cases e
      omega
  outR := fun r ho hl => r.block _ hl (fun z => ho.2.1 (z.low ho.1)) ho.2.2
  outM := fun ho hl h => ⟨hl, fun z => ho.2.1 (z.low ho.1), h.2.2⟩
  drawR := fun w => ⟨rfl, rfl, rfl, fun _ _ _ _ => rfl, Nat.le_refl _⟩
  drawD := fun w => ⟨fun _ _ => rfl, fun _ h => h, Nat.le_refl _, by simp⟩
/-- Ahead of the Wait. -/
def Ph.early : Ph → Prop
  | .inr (.inr (.inr _)) => False
  | _ => True
theorem envP {K : Cfg} [Go.ConcX.Payload] [Go.ConcR.Payload] [Go.ConcX.Shy K.Wg K.C] (F : K.Fit) {i : Ph} (hi : i.early) : Env K.KT K.N0 (mineM K) (outM K) (RMd K i) (DMd K i) := by
  cases i using Ph.casesT with
  | join => exact hi.elim
  | _ => exact envM F

/-! ### alone -/
def mineZ (S : Nat → Prop) (w : World) (b : Nat) : Prop := b < w.heap.size ∧ ¬ S b
theorem envZ {S : Nat → Prop} (hS : ∀ b, S b → b < N0) : Env KT N0 (mineZ S) O AtRel (DZ S) where
  lt := fun h => h.1
  keep := by rintro w _ b ⟨e, rfl⟩ _; rfl
  stay := by rintro w _ b ⟨e, rfl⟩ h; exact h
  tape := by rintro w _ ⟨e, rfl⟩; rfl
  os := by rintro w _ ⟨e, rfl⟩; rfl
  output := by rintro w _ ⟨e, rfl⟩; rfl
  size := by rintro w _ ⟨e, rfl⟩; exact Nat.le_refl _
  does := by
    intro w w' es hn o he e h
    rcases he e h with ⟨ad, h1, _, h2⟩ | ⟨h1, h2, h3, _⟩
    · obtain ⟨l, wr, sy⟩ := e
      obtain rfl : l = .cell ad := h1
      refine ⟨fun x hx a' ha' hs => ?_, by simp, by simp⟩
      have hl : x.loc = .cell ad := by cases wr <;> cases sy <;> (simp [MemAct.ofEvent, MemAct.touch?] at hx; rw [← hx])
      rw [hl] at ha'
      cases ha'
      exact h2 hs
    · exact ⟨fun x hx => (by rw [h1] at hx; cases hx), h2, h3⟩
  mine := fun o h => ⟨Nat.lt_of_lt_of_le h.1 o.grow, h.2⟩
  new := fun hn _ h1 h2 => ⟨h2, fun hs => by have := hS _ hs; omega⟩
  outR := by rintro w _ b ⟨e, rfl⟩ _ _; rfl
  outM := fun _ hl h => ⟨hl, h.2⟩
  drawR := fun w => ⟨w.drawn + 1, rfl⟩
  drawD := fun w e he => by simp at he

/-! ### an append, by what becomes of the world -/
theorem append_shape {P : Program} (base : Nat) (t ty e : TypeId) (i : TypeInfo) (z : Value) (size bytes : Nat) (ht : P.underlying t = some (.slice e)) (hi : P.info? e = some i) (hz : i.zero = some z)
    (hsize : i.size = size) (hby : i.bytes = bytes)
    (v : Value) (n : Nat) (xs : List Value) (hown : w.ownsRow base e size v n xs)
    (a : Addr) (m c : Nat) (news : List Value) (hl : news.length = m * size) (hnews : ∀ j u, news[j]? = some u → w.cell? (a.add j) = some u) (h1 : ∀ u ∈ news, u.oneCell' = true)
    (h63 : n + m ≤ maxLen) (hbytes : (n + m) * bytes ≤ 140737488355328) {v' : Value} (hr' : (Builtin.append_ #[t, t] ty #[v, .slice (some a) m c]).run P w = .ok v' w') :
    w' = w ∨ (∃ g cs, v.ownBlock = some g ∧ w' = w.setRow g cs) ∨ ∃ cs, w' = w.drew.alloc (.cells cs e) := by
  subst hsize
  subst hby
  have hsmall : n + m ≤ 9223372036854775807 := by simp only [maxLen] at h63; omega
  rcases hown.2 with ⟨rfl, rfl⟩ | ⟨g, cap, cur, rfl, hbg, hg, hnc, hcm, hcs, htake⟩
  · by_cases hm : m = 0
    · subst hm
      have hn : news = [] := List.eq_nil_of_length_eq_zero (by simpa using hl)
      subst hn
      left
      simp [Builtin.append_, run_underlying ht, sizeOf, typeInfo, hi, Builtin.lenOf, Builtin.firstCells, loadCells, loadCellsFrom] at hr'
      exact hr'.2.symm
    · have hr := run_append_nil (P := P) w t ty e i z ht hi hz a m c news hl hnews (by omega) (by omega) (by have hb := hbytes; simp only [Nat.zero_add] at hb; omega)
      rw [hr] at hr'
      cases hr'
      exact .inr (.inr ⟨_, rfl⟩)
  · by_cases hroom : n + m ≤ cap
    · have hfit : n * i.size + news.length ≤ cur.size := by rw [hl, hcs, ← Nat.add_mul]; exact Nat.mul_le_mul_right _ hroom
      have hr := run_append_room (P := P) w t ty e i ht hi g n cap cur hg a m c news hl hnews h1 hroom hfit
      rw [hr] at hr'
      cases hr'
      exact .inr (.inl ⟨g, _, rfl, rfl⟩)
    · have holds : ∀ j u, xs[j]? = some u → w.cell? ((⟨g, 0, none⟩ : Addr).add j) = some u := hown.cells (g := g) rfl
      have hr := run_append_grow (P := P) w t ty e i z ht hi hz ⟨g, 0, none⟩ n cap xs hown.1 holds a m c news hl hnews (by omega) (by omega) (growslice_fits (by omega) hbytes)
      rw [hr] at hr'
      cases hr'
      exact .inr (.inr ⟨_, rfl⟩)
end
end Go.Proofs.YtgcaionclkbehaaGreatDoor
