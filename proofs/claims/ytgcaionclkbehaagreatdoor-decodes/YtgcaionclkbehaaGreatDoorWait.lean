/-
  (*sync.WaitGroup).Add(1) alone, as a rule.
-/
import Derived.Test.YtgcaionclkbehaaGreatDoorZ
import Derived.Test.YtgcaionclkbehaaGreatDoorLib
import Derived.Conc.FxGenLone
import Derived.Test.YtgcaionclkbehaaGreatDoorAt
import Derived.Test.YtgcaionclkbehaaGreatDoorBorn
import Derived.Conc.FxGenWait
import Derived.Conc.CrowdMono
set_option linter.all false
set_option linter.unusedSectionVars false
namespace Go.Proofs.YtgcaionclkbehaaGreatDoor
open Go.Conc

/-- The family's open limb: the group's cells and the payload's alone. -/
abbrev shyN (Wg C : Nat) : Go.ConcX.Shy Wg C where
  ok := fun act => ∀ x, act.touch? = some x → ∀ ad : Addr, x.loc = .cell ad → ad.block = Wg ∨ ad.block = C
  atomicWg := fun a wr h x hx ad e => by simp only [MemAct.touch?, Option.some.injEq] at hx; subst hx; cases e; exact .inl h
  readWg := fun a h x hx ad e => by simp only [MemAct.touch?, Option.some.injEq] at hx; subst hx; cases e; exact .inl h
  writeWg := fun a h x hx ad e => by simp only [MemAct.touch?, Option.some.injEq] at hx; subst hx; cases e; exact .inl h
  theirs := fun a wr h x hx ad e => by simp only [MemAct.touch?, Option.some.injEq] at hx; subst hx; cases e; exact .inr h
  disable := fun x hx => (by cases hx)
  enable := fun x hx => (by cases hx)
  relMerge := fun x hx => (by cases hx)
  acquire := fun x hx => (by cases hx)
  go1 := fun x hx => (by cases hx)
  start := fun x hx => (by cases hx)
  stop := fun _ _ => True

set_option maxRecDepth 100000 in
set_option maxHeartbeats 2000000 in
theorem add_x {Post : Value → World → Prop} {S : Nat → Prop} {Wg C : Nat} {b₀ : Frame} {a₀ : Act} {ops₀ : Array Oper} {i₀ : Nat} {rest₀ : List Nat} {k₀ : List Item} {cs : List Frame} {w : World} (h1 : ¬ S Wg) (h2 : ¬ S C) (hw : w.heap[Wg]? = some (.cells #[.int .u64 0, .int .u32 0] 169))
    (hn : ZI Tryz.prog Post 0 S (G (b₀.at (a₀.put ((ops₀[i₀]?).bind (·.dst)) (.tuple #[])) (.inRegion ops₀ rest₀ :: k₀)) cs) (w.setCell ⟨Wg, 0, none⟩ (.int .u64 4294967296))) :
    ZI Tryz.prog Post 0 S (G ((base 199).at ⟨#[.pointer (some ⟨Wg, 0, none⟩), .int .i64 1, undef, undef, undef, undef, undef, undef, undef, undef, undef, undef, undef, undef, undef, undef, undef, undef, undef, undef, undef, undef, undef, undef, undef, undef, undef, undef, undef, undef, undef, undef, undef, undef, undef, undef, undef, undef, undef, undef, undef, undef, undef, undef, undef, undef, undef, undef, undef, undef, undef, undef, undef, undef, undef, undef, undef, undef, undef, undef, undef, undef, undef, undef, undef, undef, undef, undef, undef, undef, undef, undef, undef, undef, undef, undef, undef, undef, undef, undef, undef, undef, undef, undef, undef, undef, undef, undef, undef, undef, undef, undef, undef, undef, undef, undef, undef, undef, undef, undef, undef, undef, undef, undef, undef, undef, undef, undef, undef, undef, undef, undef, undef, undef, undef, undef, undef], []⟩ [.code (Go.ConcX.Gen.body_add link)]) (b₀.at a₀ (.inRegion ops₀ (i₀ :: rest₀) :: k₀) :: cs)) w := by
  have hA := @Go.ConcX.Gen.addPos link Wg C (shyN Wg C) b₀ a₀ ops₀ i₀ rest₀ k₀ cs (ZI Tryz.prog Post 0 S) 0 Tryz.prog wgLib w hw (fun w₁ h₁ => ZI.closed.rely hn h₁)
  have hev : ∀ e, @Go.ConcX.EvS Wg C (shyN Wg C) e → EvS S e := by
    intro e he
    refine ⟨fun x hx ad ha hs => ?_, fun h => ?_, fun h => ?_⟩
    · rcases he.2.2.2.2.2 x hx ad ha with z | z
      · exact h1 (z ▸ hs)
      · exact h2 (z ▸ hs)
    · exact he.2.2.2.1 (Go.ConcX.ofEvent_loc_mark h)
    · exact he.2.2.2.2.1 (Go.ConcX.ofEvent_loc_mark h)
  refine ZI.goes hev (fun g w h => ?_) hA
  refine ZI.atMark (m := .disable) (d' := 1) rfl rfl (fun g w hN => ?_) h
  obtain ⟨n, hN⟩ := hN
  refine ZI.goes hev (fun g w h => ?_) hN
  refine ZI.atMark (m := .enable) (d' := 0) rfl rfl (fun g w hN => ?_) h
  obtain ⟨n, hN⟩ := hN
  exact ZI.goes hev (fun g w h => h w (atRel_refl w)) hN
end Go.Proofs.YtgcaionclkbehaaGreatDoor
/-
  Goroutine 0 beside the child: the Wait of letters.run, whatever it keeps.
-/
set_option linter.unusedSectionVars false
set_option linter.unusedSimpArgs false
namespace Go.Proofs.YtgcaionclkbehaaGreatDoor
open Go.Conc Go.RowKit
/-- letters.run from its call of Go on; its regions. -/
def codeR (b : Option Code) : Code := match b with | some (.seq _ (.seq _ (.seq _ (.seq _ c)))) => c | _ => .skip
def opsR (b : Option Code) (n : Nat) : Array Oper := match codeR b with | .seq (.region _ o4 _) (.seq (.region _ o5 _) (.seq (.region _ o6 _) (.seq (.region _ o7 _) (.region _ o8 _)))) => if n = 4 then o4 else if n = 5 then o5 else if n = 6 then o6 else if n = 7 then o7 else o8 | _ => #[]
section
variable {N Pb : Nat} {Shun : Loc → Prop} {val : Value} {B : Nat} {Mine : Loc → Prop} {w w₁ : World}
variable [Go.ConcR.Payload] [Go.ConcX.Payload]
variable [Go.ConcX.Shy (Cfg.Wg (kcfg Tryz.prog N Pb Shun val B Mine)) (Cfg.C (kcfg Tryz.prog N Pb Shun val B Mine))]
theorem atKd_mono {K : Cfg} [Go.ConcX.Shy K.Wg K.C] {L : Nat} {A A' : Goroutine → World → Prop} (h : ∀ g w, A g w → A' g w) (g : Goroutine) (w : World) : AtKdk K L A g w → AtKdk K L A' g w := fun ⟨h1, g', h2, m, h3⟩ => ⟨h1, g', h2, m, Go.ConcN.goes_mono h h3⟩
theorem atW1_mono {K : Cfg} [Go.ConcX.Shy K.Wg K.C] {L : Nat} {A A' : Goroutine → World → Prop} {Post : Value → World → Prop} (h : ∀ g w, A g w → A' g w) (g : Goroutine) (w : World) : AtW1k K L A Post g w → AtW1k K L A' Post g w := fun ⟨h1, g', h2, h3, h4⟩ =>
  ⟨h1, g', h2, fun z => (h3 z).imp fun _ q => Go.ConcN.goes_mono (fun _ _ ⟨a1, a2, a3⟩ => ⟨a1, a2, fun z => (a3 z).imp fun _ q => ⟨q.1, q.2.imp fun _ q => Go.ConcN.goes_mono h q⟩⟩) q, h4⟩
/-- Where Wait's loop stands, whatever slots letters.run has. -/
def AnchR (K : Cfg) [Go.ConcX.Payload] [Go.ConcX.Shy K.Wg K.C] (F : World → Prop) (b : Frame) (k : List Item) (cs : List Frame) (g : Goroutine) (w : World) : Prop :=
  ∃ a : Act, a.defers = [] ∧ Go.ConcX.Gen.AnchW7 link F K.Wg K.C [K.val] (b.at a (.inRegion (opsR Tryz.f61.body 8) [0] :: k)) cs g w
set_option maxRecDepth 100000 in
set_option maxHeartbeats 2000000 in
theorem wait_x {F : World → Prop} {L : Nat} (hFa : ∀ w w₁, Go.ConcX.Aside2 N (N + 6) w w₁ → F w → F w₁) {b : Frame} {a : Act} {k : List Item} {cs : List Frame} (hk : b.kind ≠ .early) (hd : a.defers = []) (ha : a.eval (.tmp 6) = .pointer (some ⟨N + 6, 0, none⟩)) (hF : F w) (ka : KPak (kcfg Tryz.prog N Pb Shun val B Mine) w) :
    XM (kcfg Tryz.prog N Pb Shun val B Mine) (AnchR (kcfg Tryz.prog N Pb Shun val B Mine) F b k cs) (.join L) (G (b.at a (.code (.region 8 (opsR Tryz.f61.body 8) false) :: k)) cs) w := by
  have C : ClosedI Tryz.prog true (RMd (kcfg Tryz.prog N Pb Shun val B Mine)) (DMd (kcfg Tryz.prog N Pb Shun val B Mine)) (XM (kcfg Tryz.prog N Pb Shun val B Mine) (AnchR (kcfg Tryz.prog N Pb Shun val B Mine) F b k cs)) := XM.closed (K := (kcfg Tryz.prog N Pb Shun val B Mine))
  have T := termsM (K := (kcfg Tryz.prog N Pb Shun val B Mine))
  have hR : ∀ {w w₁}, RMd (kcfg Tryz.prog N Pb Shun val B Mine) (.join L) w w₁ → F w ∧ KPak (kcfg Tryz.prog N Pb Shun val B Mine) w → F w₁ ∧ KPak (kcfg Tryz.prog N Pb Shun val B Mine) w₁ := fun {w w₁} r h => by
    have r' : RPak (kcfg Tryz.prog N Pb Shun val B Mine) w w₁ := r
    exact ⟨hFa _ _ r'.aside h.1, r'.ka h.2⟩
  have hF2 : F w ∧ KPak (kcfg Tryz.prog N Pb Shun val B Mine) w := ⟨hF, ka⟩
  clear hF ka
  refine C.step rfl fun _ h₁ => ?_
  replace hF2 := hR h₁ hF2
  clear h₁
  rw [stepG_region]
  simp only [goes_go]
  refine ⟨(T (.join L)).idle _, ?_⟩
  have hr : List.range (opsR Tryz.f61.body 8).size = [0] := by rfl
  rw [hr]
  refine C.step rfl fun w₁ h₁ => ?_
  replace hF2 := hR h₁ hF2
  clear h₁
  refine goes_call (b := b) (a := a) (args := #[.tmp 6]) (ats := #[169]) (i := 0) (ops := opsR Tryz.f61.body 8) rfl rfl hk rfl wgLib.f_wait (Go.ConcX.Gen.nm_wait link) rfl ⟨(T (.join L)).idle _, ?_⟩
  have hW := Go.ConcX.Gen.waitStart (L := link) (P := Tryz.prog) (Wg := Cfg.Wg (kcfg Tryz.prog N Pb Shun val B Mine)) (C := Cfg.C (kcfg Tryz.prog N Pb Shun val B Mine)) (Low := L) (Mine := Mine) (vals := [val]) (F := F) (b₀ := b) (a₀ := a) (ops₀ := opsR Tryz.f61.body 8) (i₀ := 0) (rest₀ := []) (k₀ := k) (cs := cs) wgLib (fun _ _ r h => hFa _ _ r h) w₁ hF2
  have ht : (#[Operand.tmp 6].map a.eval) = #[Value.pointer (some ⟨N + 6, 0, none⟩)] := by simp [ha]
  rw [ht]
  simp only [Go.ConcX.Gen.body_wait, Go.Conc.Lib.waitFn, Option.getD_some] at hW
  walk_nrmf Go.Conc.Lib.waitFn
  exact Way.weaken (fun _ _ h => h) (fun _ _ _ h => h) (fun g w h => atKd_mono (K := (kcfg Tryz.prog N Pb Shun val B Mine)) (fun _ _ h => ⟨a, hd, h⟩) g w h) (way_of_goes hW)
end
end Go.Proofs.YtgcaionclkbehaaGreatDoor
