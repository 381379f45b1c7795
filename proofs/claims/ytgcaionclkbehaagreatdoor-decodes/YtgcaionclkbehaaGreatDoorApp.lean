/-
  A row that goroutine 0 owns, and an append to it, beside a child or alone. It knows no program.
-/
import Derived.Test.YtgcaionclkbehaaGreatDoorEnv
import Derived.Conc.AppendWalk
set_option linter.all false
set_option linter.unusedSectionVars false
namespace Go.Proofs.YtgcaionclkbehaaGreatDoor
open Go.Conc Go.RowKit
/-- v: a row of goroutine 0's own, of elements of type e, one cell each. -/
structure RowO (M : World → Nat → Prop) (Ex : Nat → Prop) (w₀ : World) (e : TypeId) (v : Value) (n : Nat) (xs : List Value) (w : World) : Prop where
  row : w.ownsRow 0 e 1 v n xs
  own : ∀ k, v.ownBlock = some k → M w k ∧ (Ex k ∨ w₀.heap.size ≤ k)
  nil : n = 0 → v = .slice none 0 0
section
variable {KT : TypeId → Prop} {N0 : Nat} {M : World → Nat → Prop} {O : Nat → Prop} {R : World → World → Prop} {D : World → World → Array Event → Prop} {Ex : Nat → Prop} {w₀ w w₁ w' : World} {e : TypeId} {v : Value} {n : Nat} {xs news : List Value} {g : Nat}
theorem RowO.same (h : RowO M Ex w₀ e v n xs w) (hb : ∀ k, v.ownBlock = some k → w'.heap[k]? = w.heap[k]? ∧ M w' k) : RowO M Ex w₀ e v n xs w' := by
  refine ⟨⟨h.row.1, ?_⟩, fun k hk => ⟨(hb k hk).2, (h.own k hk).2⟩, h.nil⟩
  rcases h.row.2 with z | ⟨g, cap, cur, h1, h2, h3, h4⟩
  · exact .inl z
  · exact .inr ⟨g, cap, cur, h1, h2, (hb g (by rw [h1]; rfl)).1.trans h3, h4⟩
theorem RowO.rely (E : Env KT N0 M O R D) (h : RowO M Ex w₀ e v n xs w) (r : R w w₁) : RowO M Ex w₀ e v n xs w₁ := h.same fun k hk => ⟨E.keep r (h.own k hk).1, E.stay r (h.own k hk).1⟩
theorem RowO.type (h : RowO M Ex w₀ e v n xs w) {k : Nat} (hk : v.ownBlock = some k) : ∃ cur, w.heap[k]? = some (.cells cur e (0, 0)) := by
  rcases h.row.2 with ⟨z, _⟩ | ⟨g, cap, cur, h1, h2, h3, h4⟩
  · rw [z] at hk; cases hk
  · rw [h1] at hk; cases hk; exact ⟨cur, h3⟩
theorem RowO.ne (h : RowO M Ex w₀ e v n xs w) {b : Nat} {cs : Array Value} {t : TypeId} {fz : Nat × Nat} (hb : w.heap[b]? = some (.cells cs t fz)) (ht : t ≠ e) {k : Nat} (hk : v.ownBlock = some k) : k ≠ b := by
  rintro rfl
  obtain ⟨cur, hc⟩ := h.type hk
  rw [hb] at hc
  cases hc
  exact ht rfl
theorem RowO.none (M : World → Nat → Prop) (Ex : Nat → Prop) (w₀ w : World) (e : TypeId) : RowO M Ex w₀ e (.slice .none 0 0) 0 [] w := ⟨World.ownsRow_nil _ _ _ _, fun k hk => (by cases hk), fun _ => rfl⟩
/-- A row of others' elements, to be appended. -/
structure SrcO (M : World → Nat → Prop) (e : TypeId) (news : List Value) (g : Nat) (w : World) : Prop where
  src : w.heap[g]? = some (.cells news.toArray e)
  mine : M w g
theorem SrcO.rely (E : Env KT N0 M O R D) (h : SrcO M e news g w) (r : R w w₁) : SrcO M e news g w₁ := ⟨(E.keep r h.mine).trans h.src, E.stay r h.mine⟩
/-- THE APPEND. -/
theorem append_o {P : Program} (E : Env KT N0 M O R D) (hs : N0 ≤ w.heap.size) (he : ¬ KT e) (old : Kept M O Ex w₀ w) (h : RowO M Ex w₀ e v n xs w) (q : SrcO M e news g w) (t ty : TypeId) (z : Value) (bytes : Nat) (ht : P.underlying t = some (.slice e)) (hi : (P.info? e).map (fun i => (i.zero, i.size, i.bytes)) = some (some z, 1, bytes)) (hz : z.cells.size = 1)
    (h1 : ∀ x ∈ news, x.oneCell' = true) (hn : n + news.length ≤ maxLen) (hb : (n + news.length) * bytes ≤ 140737488355328) :
    ∃ v' w', (Builtin.append_ #[t, t] ty #[v, .slice (some ⟨g, 0, none⟩) news.length news.length]).run P w = .ok v' w' ∧ RowO M Ex w₀ e v' (n + news.length) (xs ++ news) w' ∧ Kept M O Ex w₀ w' ∧ Own KT M w w' ∧
      (∀ b, b < w.heap.size → v.ownBlock ≠ some b → w'.heap[b]? = w.heap[b]?) ∧
      D w w' ((Builtin.append_ #[t, t] ty #[v, .slice (some ⟨g, 0, none⟩) news.length news.length]).events P w #[]) ∧
      ∀ e ∈ (Builtin.append_ #[t, t] ty #[v, .slice (some ⟨g, 0, none⟩) news.length news.length]).events P w #[], ∀ m, e.loc = .mark m → Conc.Neutral m := by
  have hc : ∀ j x, news[j]? = some x → w.cell? ((⟨g, 0, none⟩ : Addr).add j) = some x := by
    intro j x hj
    have : (⟨g, 0, none⟩ : Addr).add j = ⟨g, j, none⟩ := by unfold Addr.add; split <;> simp_all
    rw [this]
    simp [World.cell?, q.src, hj]
  obtain ⟨i0, hi, hz0, hz1, hz2⟩ := info_parts hi
  obtain ⟨v', w', hr, ho, hg, hnil, hat⟩ := run_append_own_at (P := P) w 0 t ty e i0 z 1 bytes ht hi hz0 hz1 hz2 hz (by decide) v n xs h.row ⟨g, 0, none⟩ news.length news.length news (by simp) hc h1 hn hb (Nat.zero_le _)
  have hsh := append_shape (P := P) 0 t ty e i0 z 1 bytes ht hi hz0 hz1 hz2 v n xs h.row ⟨g, 0, none⟩ news.length news.length news (by simp) hc h1 hn hb hr
  have hev := events_append_where (P := P) w 0 t ty e i0 z 1 bytes ht hi hz0 hz1 hz2 v n xs h.row ⟨g, 0, none⟩ news.length news.length news (by simp) hc h1 hn hb
  have hO : Own KT M w w' := by
    rcases hsh with rfl | ⟨k, cs, hk, rfl⟩ | ⟨cs, rfl⟩
    · exact Own.refl _
    · obtain ⟨cur, hcur⟩ := h.type hk
      exact Own.setRow hcur (h.own k hk).1 he
    · have := Own.alloc (KT := KT) (M := M) (w := w.drew) (cs := cs) (t := e) he
      exact ⟨this.tape, this.os, this.output, this.grow, fun b hb hm => heap_alloc_old w.drew _ b hb, fun b cs' t' fz hh hk => (this.kt b cs' t' fz hh hk)⟩
  have hnew : ∀ k, v'.ownBlock = some k → M w' k ∧ (Ex k ∨ w₀.heap.size ≤ k) := by
    intro k hk
    rcases hat with hat | hat
    · rw [hat] at hk
      exact ⟨E.mine hO (h.own k hk).1, (h.own k hk).2⟩
    · rw [hat] at hk
      cases hk
      refine ⟨E.new hs hO (Nat.le_refl _) (ho.lt _ hat).2, .inr old.grow⟩
  refine ⟨v', w', hr, ⟨ho, hnew, fun e => hnil.2 ⟨h.nil (by omega), by omega⟩⟩, old.own E hO fun b hb hx => hg.block b (E.lt (old.mine b hb)) fun e => ?_, hO, fun b hb hx => hg.block b hb (fun e => hx e.symm), E.does hs hO fun e he => ?_, fun e he m hm => ?_⟩
  · rcases (h.own b e.symm).2 with z | z
    · exact hx z
    · have := E.lt hb; omega
  · rcases hev e he with ⟨ad, h1, h2⟩ | ⟨m, rfl, hm⟩
    · refine .inl ⟨ad, h1, E.mine hO ?_⟩
      rcases h2 with ⟨_, h2⟩ | h2
      · rw [h2]; exact q.mine
      · exact (h.own _ h2.symm).1
    · obtain rfl : m = .noRoom := hm
      exact .inr ⟨by simp [MemAct.ofEvent, MemAct.touch?], by simp, by simp, by simp [MemAct.ofEvent]⟩
  · rcases hev e he with ⟨ad, h1, _⟩ | ⟨m', rfl, hm'⟩
    · rw [h1] at hm; cases hm
    · cases hm; exact hm'
end
end Go.Proofs.YtgcaionclkbehaaGreatDoor
