/-
  (*sync.WaitGroup).Add(1) alone, as a rule.
-/
import Derived.Test.YtmabfdpfegbfkaaGreatZ
import Derived.Test.YtmabfdpfegbfkaaGreatLib
import Derived.Conc.FxGenLone
set_option linter.all false
set_option linter.unusedSectionVars false
namespace Go.Proofs.YtmabfdpfegbfkaaGreat
open Go.Conc

/-- The family's open limb: the group's cells and the payload's alone. -/
abbrev shyN (Wg C : Nat) : Go.ConcX.Shy Wg C where
  ok := fun act => ∀ x, act.touch? = some x → ∀ ad : Addr, x.loc = .cell ad → ad.block = Wg ∨ ad.block = C
  atomicWg := fun a wr h x hx ad e => by simp only [MemAct.touch?, Option.some.injEq] at hx; subst hx; cases e; exact .inl h
  readWg := fun a h x hx ad e => by simp only [MemAct.touch?, Option.some.injEq] at hx; subst hx; cases e; exact .inl h
  writeWg := fun a h x hx ad e => by simp only [MemAct.touch?, Option.some.injEq] at hx; subst hx; cases e; exact .inl h
  theirs := fun a wr h x hx ad e => by simp only [MemAct.touch?, Option.some.injEq] at hx; subst hx; cases e; exact .inr h
  disable := fun x hx => (by cases hx)
  enable := fun x hx => (by cases hx)
  relMerge := fun x hx => (by cases hx)
  acquire := fun x hx => (by cases hx)
  go1 := fun x hx => (by cases hx)
  start := fun x hx => (by cases hx)
  stop := fun _ _ => True

set_option maxRecDepth 100000 in
set_option maxHeartbeats 2000000 in
theorem add_x {Post : Value → World → Prop} {S : Nat → Prop} {Wg C : Nat} {b₀ : Frame} {a₀ : Act} {ops₀ : Array Oper} {i₀ : Nat} {rest₀ : List Nat} {k₀ : List Item} {cs : List Frame} {w : World} (h1 : ¬ S Wg) (h2 : ¬ S C) (hw : w.heap[Wg]? = some (.cells #[.int .u64 0, .int .u32 0] 114))
    (hn : ZI Tryz.prog Post 0 S (G (b₀.at (a₀.put ((ops₀[i₀]?).bind (·.dst)) (.tuple #[])) (.inRegion ops₀ rest₀ :: k₀)) cs) (w.setCell ⟨Wg, 0, none⟩ (.int .u64 4294967296))) :
    ZI Tryz.prog Post 0 S (G ((base 72).at ⟨#[.pointer (some ⟨Wg, 0, none⟩), .int .i64 1, undef, undef, undef, undef, undef, undef, undef, undef, undef, undef, undef, undef, undef, undef, undef, undef, undef, undef, undef, undef, undef, undef, undef, undef, undef, undef, undef, undef, undef, undef, undef, undef, undef, undef, undef, undef, undef, undef, undef, undef, undef, undef, undef, undef, undef, undef, undef, undef, undef, undef, undef, undef, undef, undef, undef, undef, undef, undef, undef, undef, undef, undef, undef, undef, undef, undef, undef, undef, undef, undef, undef, undef, undef, undef, undef, undef, undef, undef, undef, undef, undef, undef, undef, undef, undef, undef, undef, undef, undef, undef, undef, undef, undef, undef, undef, undef, undef, undef, undef, undef, undef, undef, undef, undef, undef, undef, undef, undef, undef, undef, undef, undef, undef, undef, undef], []⟩ [.code (Go.ConcX.Gen.body_add link)]) (b₀.at a₀ (.inRegion ops₀ (i₀ :: rest₀) :: k₀) :: cs)) w := by
  have hA := @Go.ConcX.Gen.addPos link Wg C (shyN Wg C) b₀ a₀ ops₀ i₀ rest₀ k₀ cs (ZI Tryz.prog Post 0 S) 0 Tryz.prog wgLib w hw (fun w₁ h₁ => ZI.closed.rely hn h₁)
  have hev : ∀ e, @Go.ConcX.EvS Wg C (shyN Wg C) e → EvS S e := by
    intro e he
    refine ⟨fun x hx ad ha hs => ?_, fun h => ?_, fun h => ?_⟩
    · rcases he.2.2.2.2.2 x hx ad ha with z | z
      · exact h1 (z ▸ hs)
      · exact h2 (z ▸ hs)
    · exact he.2.2.2.1 (Go.ConcX.ofEvent_loc_mark h)
    · exact he.2.2.2.2.1 (Go.ConcX.ofEvent_loc_mark h)
  refine ZI.goes hev (fun g w h => ?_) hA
  refine ZI.atMark (m := .disable) (d' := 1) rfl rfl (fun g w hN => ?_) h
  obtain ⟨n, hN⟩ := hN
  refine ZI.goes hev (fun g w h => ?_) hN
  refine ZI.atMark (m := .enable) (d' := 0) rfl rfl (fun g w hN => ?_) h
  obtain ⟨n, hN⟩ := hN
  exact ZI.goes hev (fun g w h => h w (atRel_refl w)) hN
end Go.Proofs.YtmabfdpfegbfkaaGreat
