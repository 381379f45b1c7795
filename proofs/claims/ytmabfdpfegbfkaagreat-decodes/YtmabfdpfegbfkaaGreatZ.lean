/-
  Goroutine 0 alone with goroutines that only leave, as a family over the blocks that are shunned. It knows no program.
-/
import Derived.Test.YtmabfdpfegbfkaaGreatMain
set_option linter.all false
set_option linter.unusedSectionVars false
namespace Go.Proofs.YtmabfdpfegbfkaaGreat
open Go.Conc

/-- From here the run ends as it should; S: the blocks that may be shunned. -/
def ZI (P : Program) (Post : Value → World → Prop) (d : Nat) (S : Nat → Prop) (g : Goroutine) (w : World) : Prop := ∀ N, Z P Post (fun b => ¬ S b) N d g w
/-- What a step may list. -/
def EvS (S : Nat → Prop) (e : Event) : Prop := (∀ x, (MemAct.ofEvent e).touch? = some x → ∀ ad : Addr, x.loc = .cell ad → ¬ S ad.block) ∧ e.loc ≠ .mark .disable ∧ e.loc ≠ .mark .enable
def DZ (S : Nat → Prop) (_ _ : World) (es : Array Event) : Prop := ∀ e ∈ es, EvS S e

section
variable {P : Program} {Post : Value → World → Prop} {d d' : Nat} {S : Nat → Prop} {g g' : Goroutine} {w w' : World}
theorem ZI.closed : ClosedI P true (fun _ : Nat → Prop => AtRel) DZ (ZI P Post d) where
  rely := fun {S g w w₁} h hr N => (Z.closed (P := P) (Post := Post) (Ok := fun b => ¬ S b) (N := N) (d := d)).rely (vs := ()) (h N) hr
  step := by
    intro S g w hs h N
    refine (Z.closed (P := P) (Post := Post) (Ok := fun b => ¬ S b) (N := N) (d := d)).step (vs := ()) hs fun w₁ h₁ => ?_
    have hw := h w₁ h₁
    cases e : stepG P true g w₁ with
    | go g' w' es =>
      rw [e, goes_go] at hw
      rw [goes_go]
      exact ⟨fun ev he => ⟨fun x hx ad ha => .inl ((hw.1 ev he).1 x hx ad ha), (hw.1 ev he).2.1, (hw.1 ev he).2.2⟩, hw.2 N⟩
    | _ => rw [e] at hw; exact hw.elim
theorem termsS (S : Nat → Prop) : Terms AtRel (DZ S) := ⟨atRel_trans, fun _ e he => by simp at he⟩
theorem ZI.mark {m : Mark} (hs : g.status = .running) (hgo : ∀ e, stepG P true g (w.at e) = .go g' (w.at e) #[⟨.mark m, false, true⟩]) (hm : (MemAct.mark m).touch? = none) (hd : deafBehind d #[⟨.mark m, false, true⟩] = d') (h : ZI P Post d' S g' w) : ZI P Post d S g w := fun N => Z.mark hs hgo hm hd (h N)
theorem ZI.done {v : Value} (hs : g.status = .running) (hend : ∀ e, stepG P true g (w.at e) = .ended (.done v) (w.at e) #[]) (hp : ∀ e, Post v (w.at e)) : ZI P Post 0 S g w := fun _ => Z.done hs hend hp
theorem ZI.mono {S' : Nat → Prop} (h : ZI P Post d S g w) (hS : ∀ b, S' b → S b) : ZI P Post d S' g w := fun N => Z.mono (h N) fun b hb hn => ⟨hb, fun z => hn fun h' => z (hS b h')⟩

/-- The library's counted walk, to a place from which the run ends as it should. -/
theorem ZI.goes {ev : Event → Prop} {Stop : Goroutine → World → Prop} {n : Nat} (hev : ∀ e, ev e → EvS S e) (hst : ∀ g w, (∀ w₁, AtRel w w₁ → Stop g w₁) → ZI P Post d S g w) (h : Goes P true AtRel (fun _ _ es => ∀ e ∈ es, ev e) Stop n g w) : ZI P Post d S g w := by
  induction n generalizing g w with
  | zero => exact hst _ _ h
  | succ n ih =>
    rcases h with h | ⟨hs, h⟩
    · exact hst _ _ h
    · refine ZI.closed.step hs fun w₁ h₁ => ?_
      have hw := h w₁ h₁
      cases e : stepG P true g w₁ with
      | go g' w' es => rw [e, goes_go] at hw; rw [goes_go]; exact ⟨fun e he => hev e (hw.1 e he), ih hw.2⟩
      | _ => rw [e] at hw; exact hw.elim
/-- One of the library's marks, at a stop. -/
theorem ZI.atMark {m : Mark} {Next : Goroutine → World → Prop} (hm : (MemAct.mark m).touch? = none) (hd : deafBehind d #[⟨.mark m, false, true⟩] = d') (hn : ∀ g w, Next g w → ZI P Post d' S g w) (h : ∀ w₁, AtRel w w₁ → g.status = .running ∧ ∃ a', stepG P true g w₁ = .go a' w₁ #[⟨.mark m, false, true⟩] ∧ Next a' w₁) : ZI P Post d S g w := by
  intro N
  refine Z.pick (h w (atRel_refl w)).1 fun e Shun gs q t sl hS hF => ?_
  obtain ⟨_, g', hgo, hN⟩ := h (w.at e) ⟨e, rfl⟩
  refine ⟨_, _, runT_crowd_go (P := P) (sl := sl) (i := 0) hF.h0 (show stepG P (0 == 0) g (w.at e) = _ from hgo), ?_⟩
  refine hn _ _ hN N e Shun _ q _ sl hS (hF.own (fun ev he x hx _ => ?_) hd)
  rw [Array.mem_singleton] at he
  subst he
  rw [show MemAct.ofEvent ⟨.mark m, false, true⟩ = .mark m from rfl, hm] at hx
  cases hx

/-- ████ THE GO STATEMENT, THE LETTERS AND THE JOIN. ████ -/
theorem ZI.fork {child : Goroutine} (hs : g.status = .running) (hsp : ∀ e, stepG P true g (w.at e) = .spawn g' child (w.at e) #[])
    (h : ∀ (e : Nat) (Shun : Loc → Prop), (∀ l, Shun l → ∃ ad : Addr, l = .cell ad ∧ S ad.block) → ∃ K I1 I2 I3 AnchW Post' vs Ok' N', Forked P Post Shun g' child (w.at e) K I1 I2 I3 AnchW Post' vs Ok' N') : ZI P Post 0 S g w := by
  intro N
  refine Z.fork hs hsp fun e Shun hS => h e Shun fun l hl => ?_
  obtain ⟨ad, rfl, _, h2⟩ := hS l hl
  exact ⟨ad, rfl, Classical.not_not.1 h2⟩

/-- The family's open limb, filled. -/
abbrev shyK (K : Cfg) (F : K.Fit) (stop : Goroutine → World → Prop) : Go.ConcX.Shy K.Wg K.C where
  ok := fun act => (∀ z, act.touch? = some z → (∃ ad : Addr, z.loc = .cell ad ∧ ad.block = K.C) ∨ Ok0 K.Shun K.kidL K.stillL z) ∧ act.low K.B
  atomicWg := fun a wr h => ⟨fun z hz => .inr (by
    simp only [MemAct.touch?, Option.some.injEq] at hz
    subst hz
    refine ⟨?_, ?_, fun _ => by simp⟩
    · rintro (⟨b, e, hb⟩ | e)
      · cases e; exact F.kW (h ▸ hb)
      · cases e
    · rintro ⟨b, e, hb⟩; cases e; exact absurd (h ▸ hb) F.sW), by show a.block < K.B; rw [h]; exact F.WB⟩
  readWg := fun a h => ⟨fun z hz => .inr (by
    simp only [MemAct.touch?, Option.some.injEq] at hz
    subst hz
    refine ⟨?_, ?_, fun _ => by simp⟩
    · rintro (⟨b, e, hb⟩ | e)
      · cases e; exact F.kW (h ▸ hb)
      · cases e
    · rintro ⟨b, e, hb⟩; cases e; exact absurd (h ▸ hb) F.sW), by show a.block < K.B; rw [h]; exact F.WB⟩
  writeWg := fun a h => ⟨fun z hz => .inr (by
    simp only [MemAct.touch?, Option.some.injEq] at hz
    subst hz
    refine ⟨?_, ?_, fun _ => by simp⟩
    · rintro (⟨b, e, hb⟩ | e)
      · cases e; exact F.kW (h ▸ hb)
      · cases e
    · rintro ⟨b, e, hb⟩; cases e; exact absurd (h ▸ hb) F.sW), by show a.block < K.B; rw [h]; exact F.WB⟩
  theirs := fun a wr h => ⟨fun z hz => .inl (by
    simp only [MemAct.touch?, Option.some.injEq] at hz
    subst hz
    exact ⟨a, rfl, h⟩), by show a.block < K.B; rw [h]; exact F.CB⟩
  disable := ⟨fun x hx => (by cases hx), trivial⟩
  enable := ⟨fun x hx => (by cases hx), trivial⟩
  relMerge := ⟨fun x hx => (by cases hx), F.WB⟩
  acquire := ⟨fun x hx => (by cases hx), F.WB⟩
  go1 := ⟨fun x hx => (by cases hx), trivial⟩
  start := ⟨fun x hx => (by cases hx), trivial⟩
  stop := stop
theorem shyK_ok (K : Cfg) (F : K.Fit) (stop : Goroutine → World → Prop) : @ShyOk K (shyK K F stop) := @ShyOk.mk K (shyK K F stop) fun _ h => h
end
end Go.Proofs.YtmabfdpfegbfkaaGreat
