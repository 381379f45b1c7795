/-
  Goroutine 0 beside the child: what it holds, and (*strings.Builder).WriteRune.
-/
import Derived.Test.YtmabfdpfegbfkaaGreatMain
import Derived.Test.YtmabfdpfegbfkaaGreatMem
import Derived.Lib.RuneBytes
import Derived.Conc.AppendWalk
set_option linter.all false
set_option linter.unusedSectionVars false
set_option linter.unusedSimpArgs false
namespace Go.Proofs.YtmabfdpfegbfkaaGreat
open Go.Conc Go.RowKit
/-- What lay there before stands, the builder aside. -/
structure Kept (w₀ : World) (N Bb : Nat) (w : World) : Prop where
  tape : w.tape = w₀.tape
  os : w.os = w₀.os
  output : w.output = w₀.output
  block : ∀ b, b < N → b ≠ Bb → w.heap[b]? = w₀.heap[b]?
/-- What goroutine 0 holds of the world: its builder in block Bb, and the row of bytes that v owns. -/
structure HM (w₀ : World) (N Pb Bb : Nat) (p u v : Value) (n : Nat) (xs : List Value) (w : World) : Prop where
  bd : w.heap[Bb]? = some (.cells #[p, u] 69)
  row : w.ownsRow (N + 10) 5 1 v n xs
  lo : Bb < N
  np : Bb ≠ Pb
  plo : Pb < N
  size : N + 10 ≤ w.heap.size
  old : Kept w₀ N Bb w
  nil : n = 0 → v = .slice none 0 0
/-- What is not shunned. -/
def Clear (N Bb : Nat) (Shun : Loc → Prop) : Prop := ∀ ad : Addr, ad.block = Bb ∨ N + 10 ≤ ad.block → ¬ Shun (.cell ad)
section
variable {N Pb Bb : Nat} {Shun : Loc → Prop} {val : Value} {B Low : Nat} {Mine : Loc → Prop} {w₀ w w₁ : World} {AnchW : Goroutine → World → Prop} {p u v : Value} {n : Nat} {xs : List Value}
theorem HM.cells (h : HM w₀ N Pb Bb p u v n xs w) : w.cell? ⟨Bb, 0, none⟩ = some p ∧ w.cell? ⟨Bb, 1, none⟩ = some u ∧ w.frozen? ⟨Bb, 0, none⟩ = false ∧ w.frozen? ⟨Bb, 1, none⟩ = false := by
  simp [World.cell?, World.frozen?, h.bd]
variable [Go.ConcR.Payload] [Go.ConcX.Payload]
variable [Go.ConcX.Shy (Cfg.Wg (kcfg Tryz.prog N Pb Shun val B Low Mine)) (Cfg.C (kcfg Tryz.prog N Pb Shun val B Low Mine))]
theorem off_classes (h1 : Bb < N) (h2 : Bb ≠ Pb) (h3 : Pb < N) {b : Nat} (hb : b = Bb ∨ N + 10 ≤ b) : ¬ Cfg.Kid (kcfg Tryz.prog N Pb Shun val B Low Mine) b ∧ ¬ Cfg.Still (kcfg Tryz.prog N Pb Shun val B Low Mine) b ∧ ¬ Cfg.Syn (kcfg Tryz.prog N Pb Shun val B Low Mine) b := by
  refine ⟨?_, ?_, ?_⟩
  · show ¬ (b = N ∨ b = N + 8 ∨ b = N + 9); omega
  · show ¬ (b = N + 2 ∨ b = N + 4 ∨ b = N + 6 ∨ b = N + 7 ∨ b = Pb); omega
  · show ¬ (b = N + 1 ∨ b = N + 3 ∨ b = N + 5); omega
theorem HM.rely {i : Ph} {vs : List Value} (h : HM w₀ N Pb Bb p u v n xs w) (r : RMd (kcfg Tryz.prog N Pb Shun val B Low Mine) (.walk vs) w w₁) : HM w₀ N Pb Bb p u v n xs w₁ := by
  have r' : RM (kcfg Tryz.prog N Pb Shun val B Low Mine) w w₁ := r
  have hb : ∀ b, b = Bb ∨ N + 10 ≤ b → w₁.heap[b]? = w.heap[b]? := fun b hb => by
    obtain ⟨a, _, c⟩ := off_classes (Shun := Shun) (val := val) (B := B) (Low := Low) (Mine := Mine) h.lo h.np h.plo hb
    exact r'.block b a c
  refine ⟨(hb _ (.inl rfl)).trans h.bd, ⟨h.row.1, ?_⟩, h.lo, h.np, h.plo, Nat.le_trans h.size r'.size, ⟨r'.tape.trans h.old.tape, r'.os.trans h.old.os, r'.output.trans h.old.output, fun b h1 h2 => (r'.block b (by show ¬ (b = N ∨ b = N + 8 ∨ b = N + 9); omega) (by show ¬ (b = N + 1 ∨ b = N + 3 ∨ b = N + 5); omega)).trans (h.old.block b h1 h2)⟩, h.nil⟩
  rcases h.row.2 with z | ⟨g, cap, cur, h1, h2, h3, h4⟩
  · exact .inl z
  · exact .inr ⟨g, cap, cur, h1, h2, (hb g (.inr h2)).trans h3, h4⟩
theorem evm_at {e : Event} {ad : Addr} (hS : Clear N Bb Shun) (h1 : Bb < N) (h2 : Bb ≠ Pb) (h3 : Pb < N) (he : e.loc = .cell ad) (hb : ad.block = Bb ∨ N + 10 ≤ ad.block) : EvM (kcfg Tryz.prog N Pb Shun val B Low Mine) e := by
  obtain ⟨a, b, c⟩ := off_classes (Shun := Shun) (val := val) (B := B) (Low := Low) (Mine := Mine) h1 h2 h3 hb
  obtain ⟨l, wr, sy⟩ := e
  obtain rfl : l = .cell ad := he
  have hl : ∀ x, (MemAct.ofEvent ⟨.cell ad, wr, sy⟩).touch? = some x → x.loc = .cell ad := by
    intro x hx
    cases wr <;> cases sy <;> (simp [MemAct.ofEvent, MemAct.touch?] at hx; rw [← hx])
  refine ⟨fun x hx => ?_, by simp, by simp, by cases wr <;> cases sy <;> simp [MemAct.ofEvent]⟩
  have hx' := hl x hx
  refine ⟨?_, ?_, ?_⟩
  · rw [hx']; rintro (⟨a', e, h⟩ | e)
    · cases e; exact a h
    · cases e
  · rw [hx']; rintro ⟨a', e, h⟩; cases e; exact absurd h b
  · rw [hx']; exact fun h => absurd h (hS ad hb)
theorem dm_read {es : Array Event} (h : ∀ e ∈ es, EvM (kcfg Tryz.prog N Pb Shun val B Low Mine) e) : DM (kcfg Tryz.prog N Pb Shun val B Low Mine) w w es := ⟨fun _ _ => rfl, Nat.le_refl _, h⟩
theorem dm_write {es : Array Event} {o : Nat} {x : Value} (h1 : Bb < N) (h2 : Bb ≠ Pb) (h3 : Pb < N) (h : ∀ e ∈ es, EvM (kcfg Tryz.prog N Pb Shun val B Low Mine) e) : DM (kcfg Tryz.prog N Pb Shun val B Low Mine) w (w.setCell ⟨Bb, o, none⟩ x) es := by
  obtain ⟨a, b, c⟩ := off_classes (Shun := Shun) (val := val) (B := B) (Low := Low) (Mine := Mine) h1 h2 h3 (.inl (rfl : Bb = Bb))
  refine ⟨fun k hk => Below.heap_setCell _ _ _ _ ?_, by simp [World.setCell], h⟩
  rintro rfl
  rcases hk with hk | hk | hk
  · exact a hk
  · exact b hk
  · exact c hk
theorem low_classes (h3 : Pb < N) {b : Nat} (hk : Cfg.Kid (kcfg Tryz.prog N Pb Shun val B Low Mine) b ∨ Cfg.Still (kcfg Tryz.prog N Pb Shun val B Low Mine) b ∨ Cfg.Syn (kcfg Tryz.prog N Pb Shun val B Low Mine) b) : b < N + 10 := by
  rcases hk with (h | h | h) | (h | h | h | h | h) | (h | h | h) <;> first | omega | (have h' : b = N + 1 := h; omega) | (have h' : b = N + 3 := h; omega) | (have h' : b = N + 5 := h; omega)
theorem dm_alloc {es : Array Event} {o : Obj} (h3 : Pb < N) (hs : N + 10 ≤ w.heap.size) (h : ∀ e ∈ es, EvM (kcfg Tryz.prog N Pb Shun val B Low Mine) e) : DM (kcfg Tryz.prog N Pb Shun val B Low Mine) w (w.alloc o) es :=
  ⟨fun k hk => Below.heap_alloc _ _ _ (Nat.lt_of_lt_of_le (low_classes h3 hk) hs), by simp [World.size_alloc], h⟩
theorem HM.alloc (h : HM w₀ N Pb Bb p u v n xs w) (o : Obj) : HM w₀ N Pb Bb p u v n xs (w.alloc o) := by
  have hs := h.size
  have hl := h.lo
  exact ⟨(Below.heap_alloc _ _ _ (by omega)).trans h.bd, h.row.alloc o, h.lo, h.np, h.plo, by simp [World.size_alloc]; omega, ⟨h.old.tape, h.old.os, h.old.output, fun b h1 h2 => (Below.heap_alloc _ _ _ (by omega)).trans (h.old.block b h1 h2)⟩, h.nil⟩
/-- .. and a new row of bytes, the next to be appended. -/
structure HA (w₀ : World) (N Pb Bb : Nat) (p u v : Value) (n : Nat) (xs news : List Value) (g : Nat) (w : World) : Prop where
  hm : HM w₀ N Pb Bb p u v n xs w
  src : w.heap[g]? = some (.cells news.toArray 5)
  hi : N + 10 ≤ g
  ne : v.ownBlock ≠ some g
theorem HM.built (h : HM w₀ N Pb Bb p u v n xs w) (news : List Value) : HA w₀ N Pb Bb p u v n xs news w.heap.size (w.alloc (.cells news.toArray 5)) :=
  ⟨h.alloc _, heap_alloc_new w _, h.size, fun e => by have := (h.row.lt _ e).2; omega⟩
theorem HA.rely {news : List Value} {g : Nat} {vs : List Value} (h : HA w₀ N Pb Bb p u v n xs news g w) (r : RMd (kcfg Tryz.prog N Pb Shun val B Low Mine) (.walk vs) w w₁) : HA w₀ N Pb Bb p u v n xs news g w₁ := by
  have r' : RM (kcfg Tryz.prog N Pb Shun val B Low Mine) w w₁ := r
  obtain ⟨a, _, c⟩ := off_classes (Shun := Shun) (val := val) (B := B) (Low := Low) (Mine := Mine) h.hm.lo h.hm.np h.hm.plo (.inr h.hi : g = Bb ∨ N + 10 ≤ g)
  exact ⟨h.hm.rely (i := .join) r, (r'.block g a c).trans h.src, h.hi, h.ne⟩
/-- THE APPEND. -/
theorem append_m {news : List Value} {g : Nat} (hS : Clear N Bb Shun) (h : HA w₀ N Pb Bb p u v n xs news g w) (h1 : ∀ x ∈ news, x.oneCell' = true) (hn : n + news.length ≤ 140737488355328) (ty : TypeId) :
    ∃ v' w', (Builtin.append_ #[67, 67] ty #[v, .slice (some ⟨g, 0, none⟩) news.length news.length]).run Tryz.prog w = .ok v' w' ∧ HM w₀ N Pb Bb p u v' (n + news.length) (xs ++ news) w' ∧
      DM (kcfg Tryz.prog N Pb Shun val B Low Mine) w w' ((Builtin.append_ #[67, 67] ty #[v, .slice (some ⟨g, 0, none⟩) news.length news.length]).events Tryz.prog w #[]) ∧
      ∀ e ∈ (Builtin.append_ #[67, 67] ty #[v, .slice (some ⟨g, 0, none⟩) news.length news.length]).events Tryz.prog w #[], ∀ m, e.loc = .mark m → m = .noRoom := by
  have hc : ∀ j x, news[j]? = some x → w.cell? ((⟨g, 0, none⟩ : Addr).add j) = some x := by
    intro j x hj
    have : (⟨g, 0, none⟩ : Addr).add j = ⟨g, j, none⟩ := by unfold Addr.add; split <;> simp_all
    rw [this]
    simp [World.cell?, h.src, hj]
  obtain ⟨i0, hi, hz0, hz1, hz2⟩ := info_parts (P := Tryz.prog) (e := 5) (z := .int .u8 0) (size := 1) (bytes := 1) (by kernel_rfl)
  obtain ⟨v', w', hr, ho, hg, hnil⟩ := run_append_own (P := Tryz.prog) w (N + 10) 67 ty 5 i0 (.int .u8 0) 1 1 Tryz.underlying67 hi hz0 hz1 hz2 rfl (by decide) v n xs h.hm.row ⟨g, 0, none⟩ news.length news.length news (by simp) hc h1 (by unfold maxLen; omega) (by omega) h.hm.size
  have hev := events_append_where (P := Tryz.prog) w (N + 10) 67 ty 5 i0 (.int .u8 0) 1 1 Tryz.underlying67 hi hz0 hz1 hz2 v n xs h.hm.row ⟨g, 0, none⟩ news.length news.length news (by simp) hc h1 (by unfold maxLen; omega) (by omega)
  have hown : ∀ k, v.ownBlock = some k → N + 10 ≤ k := fun k hk => (h.hm.row.lt k hk).1
  refine ⟨v', w', hr, ⟨(hg.block Bb ?_ ?_).trans h.hm.bd, ho, h.hm.lo, h.hm.np, h.hm.plo, Nat.le_trans h.hm.size hg.size, ⟨hg.tape.trans h.hm.old.tape, hg.os.trans h.hm.old.os, hg.output.trans h.hm.old.output, fun b h1 h2 => (hg.block b (by have := h.hm.size; omega) (fun e => by have := (h.hm.row.lt _ e.symm).1; omega)).trans (h.hm.old.block b h1 h2)⟩, fun e => hnil.2 ⟨h.hm.nil (by omega), by omega⟩⟩, ⟨fun k hk => hg.block k ?_ ?_, hg.size, fun e he => ?_⟩, fun e he => ?_⟩
  · have := h.hm.size; have := h.hm.lo; omega
  · intro e; have := hown _ e.symm; have := h.hm.lo; omega
  · have := low_classes (Shun := Shun) (val := val) (B := B) (Low := Low) (Mine := Mine) h.hm.plo hk; have := h.hm.size; omega
  · intro e; have := hown _ e.symm; have := low_classes (Shun := Shun) (val := val) (B := B) (Low := Low) (Mine := Mine) h.hm.plo hk; omega
  · rcases hev e he with ⟨ad, h1, h2⟩ | ⟨m, rfl, hm⟩
    · refine evm_at hS h.hm.lo h.hm.np h.hm.plo h1 (.inr ?_)
      rcases h2 with ⟨_, h2⟩ | h2
      · rw [h2]; exact h.hi
      · exact hown _ h2.symm
    · obtain rfl : m = .noRoom := hm
      exact ⟨fun x hx => by simp [MemAct.ofEvent, MemAct.touch?] at hx, by simp, by simp, by simp [MemAct.ofEvent]⟩
  · intro m' hm'
    rcases hev e he with ⟨ad, h1, _⟩ | ⟨m, rfl, hm⟩
    · rw [h1] at hm'; cases hm'
    · obtain rfl : m = .noRoom := hm
      cases hm'
      rfl
end
end Go.Proofs.YtmabfdpfegbfkaaGreat
