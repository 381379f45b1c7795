/-
  A goroutine's own walk in whatever company, as Derived/Conc/Own.lean's 'Goes', but WITHOUT A COUNT: the steps that are left are a tree that branches over the worlds in which the next step may be taken. So walks join without a common bound ('Way.bind'); the tree is the measure. A tree is said by its inner places (each the row of worlds that lead to it, the first in front), none of which goes on for ever. It knows no program.
-/
import Derived.Conc.Own
set_option linter.all false
namespace Go.Proofs.YtgcaionclkbehaaGreatDoor
open Go.Conc

/-- One branch of a tree. -/
def branch (S' S : List World → Prop) : Prop := S [] ∧ ∃ w, S' = fun p => S (w :: p)
/-- The steps that are left. -/
structure Tr where
  S : List World → Prop
  acc : Acc branch S
def Sub (τ' τ : Tr) : Prop := branch τ'.S τ.S
theorem sub_wf : WellFounded Sub := ⟨fun τ => InvImage.accessible (f := Tr.S) τ.acc⟩

def Tr.leaf : Tr := ⟨fun _ => False, Acc.intro _ fun _ h => h.1.elim⟩
def nodeS (f : World → Tr) : List World → Prop
  | [] => True
  | w :: p => (f w).S p
def Tr.node (f : World → Tr) : Tr := ⟨nodeS f, Acc.intro _ fun S' h => by
  obtain ⟨_, w, rfl⟩ := h
  exact (f w).acc⟩
theorem sub_mk (f : World → Tr) (w : World) : Sub (f w) (.node f) := ⟨trivial, w, rfl⟩
theorem sub_leaf {τ : Tr} (h : Sub τ .leaf) : False := h.1

def Tr.ofNat : Nat → Tr
  | 0 => .leaf
  | n + 1 => .node fun _ => Tr.ofNat n
theorem sub_ofNat (n : Nat) (w : World) : Sub (.ofNat n) (.ofNat (n + 1)) := sub_mk (fun _ => .ofNat n) w

/-- One round: it stands at its stop, or takes a step, and less is left. -/
def Rounds (P : Program) (main : Bool) (R : World → World → Prop) (D : World → World → Array Event → Prop) (Stop : Goroutine → World → Prop) (X : Tr → Goroutine → World → Prop) (τ : Tr) (g : Goroutine) (w : World) : Prop :=
  ∀ w₁, R w w₁ → Stop g w₁ ∨ (g.status = .running ∧ ∃ g' w' es τ', stepG P main g w₁ = .go g' w' es ∧ D w₁ w' es ∧ Sub τ' τ ∧ X τ' g' w')
def TGoes (P : Program) (main : Bool) (R : World → World → Prop) (D : World → World → Array Event → Prop) (Stop : Goroutine → World → Prop) (τ : Tr) (g : Goroutine) (w : World) : Prop :=
  ∃ X : Tr → Goroutine → World → Prop, X τ g w ∧ ∀ τ g w, X τ g w → Rounds P main R D Stop X τ g w

def Way (P : Program) (main : Bool) (R : World → World → Prop) (D : World → World → Array Event → Prop) (Stop : Goroutine → World → Prop) (g : Goroutine) (w : World) : Prop := ∃ τ, TGoes P main R D Stop τ g w

section
variable {P : Program} {main : Bool} {R R' : World → World → Prop} {D D' : World → World → Array Event → Prop} {Stop Stop' : Goroutine → World → Prop}

/-- What it stands at when it is picked. -/
theorem TGoes.now {τ : Tr} {g : Goroutine} {w w₁ : World} (h : TGoes P main R D Stop τ g w) (hr : R w w₁) :
    Stop g w₁ ∨ (g.status = .running ∧ ∃ g' w' es τ', stepG P main g w₁ = .go g' w' es ∧ D w₁ w' es ∧ Sub τ' τ ∧ TGoes P main R D Stop τ' g' w') := by
  obtain ⟨X, hx, hX⟩ := h
  rcases hX _ _ _ hx w₁ hr with x | ⟨hs, g', w', es, τ', e, d, s, n⟩
  · exact .inl x
  · exact .inr ⟨hs, g', w', es, τ', e, d, s, X, n, hX⟩
/-- .. and back. -/
theorem TGoes.of_now {τ : Tr} {g : Goroutine} {w : World} (h : Rounds P main R D Stop (TGoes P main R D Stop) τ g w) : TGoes P main R D Stop τ g w := by
  refine ⟨fun τ' g' w' => TGoes P main R D Stop τ' g' w' ∨ (τ' = τ ∧ g' = g ∧ w' = w), .inr ⟨rfl, rfl, rfl⟩, fun τ' g' w' hx w₁ hr => ?_⟩
  rcases hx with hx | ⟨rfl, rfl, rfl⟩
  · rcases hx.now hr with x | ⟨hs, g2, w2, es, τ2, e, d, s, n⟩
    · exact .inl x
    · exact .inr ⟨hs, g2, w2, es, τ2, e, d, s, .inl n⟩
  · rcases h w₁ hr with x | ⟨hs, g2, w2, es, τ2, e, d, s, n⟩
    · exact .inl x
    · exact .inr ⟨hs, g2, w2, es, τ2, e, d, s, .inl n⟩
theorem TGoes.leaf {τ : Tr} {g : Goroutine} {w : World} (h : ∀ w₁, R w w₁ → Stop g w₁) : TGoes P main R D Stop τ g w := .of_now fun w₁ hr => .inl (h w₁ hr)

theorem TGoes.rely (trans : ∀ a b c, R a b → R b c → R a c) {τ : Tr} {g : Goroutine} {w w₁ : World} (h : TGoes P main R D Stop τ g w) (hr : R w w₁) : TGoes P main R D Stop τ g w₁ :=
  .of_now fun w₂ h₂ => h.now (trans _ _ _ hr h₂)

theorem TGoes.running (refl : ∀ w, R w w) (hS : ∀ g w, Stop g w → g.status = .running) {τ : Tr} {g : Goroutine} {w : World} (h : TGoes P main R D Stop τ g w) : g.status = .running := by
  rcases h.now (refl w) with x | ⟨x, _⟩
  · exact hS _ _ x
  · exact x

/-- Fewer turns by the others; less asked of the steps and of the stop. -/
theorem TGoes.weaken (hR : ∀ a b, R' a b → R a b) (hD : ∀ w w' es, D w w' es → D' w w' es) (hS : ∀ g w, Stop g w → Stop' g w) {τ : Tr} {g : Goroutine} {w : World} (h : TGoes P main R D Stop τ g w) : TGoes P main R' D' Stop' τ g w := by
  obtain ⟨X, hx, hX⟩ := h
  refine ⟨X, hx, fun τ g w hx w₁ hr => ?_⟩
  rcases hX _ _ _ hx w₁ (hR _ _ hr) with x | ⟨hs, g', w', es, τ', e, d, s, n⟩
  · exact .inl (hS _ _ x)
  · exact .inr ⟨hs, g', w', es, τ', e, hD _ _ _ d, s, n⟩
theorem Way.weaken (hR : ∀ a b, R' a b → R a b) (hD : ∀ w w' es, D w w' es → D' w w' es) (hS : ∀ g w, Stop g w → Stop' g w) {g : Goroutine} {w : World} (h : Way P main R D Stop g w) : Way P main R' D' Stop' g w :=
  let ⟨τ, x⟩ := h; ⟨τ, x.weaken hR hD hS⟩
theorem Way.rely (trans : ∀ a b c, R a b → R b c → R a c) {g : Goroutine} {w w₁ : World} (h : Way P main R D Stop g w) (hr : R w w₁) : Way P main R D Stop g w₁ := let ⟨τ, x⟩ := h; ⟨τ, x.rely trans hr⟩

theorem Way.stop {g : Goroutine} {w : World} (h : ∀ w₁, R w w₁ → Stop g w₁) : Way P main R D Stop g w := ⟨.leaf, .leaf h⟩

/-- What is asked of it in the world in which it is picked. -/
def Head (P : Program) (main : Bool) (R : World → World → Prop) (D : World → World → Array Event → Prop) (Stop : Goroutine → World → Prop) (g : Goroutine) (w : World) : Prop :=
  Stop g w ∨ (g.status = .running ∧ ∃ g' w' es, stepG P main g w = .go g' w' es ∧ D w w' es ∧ Way P main R D Stop g' w')

theorem Way.head {g : Goroutine} {w w₁ : World} (h : Way P main R D Stop g w) (hr : R w w₁) : Head P main R D Stop g w₁ := by
  obtain ⟨τ, h⟩ := h
  rcases h.now hr with x | ⟨hs, g', w', es, τ', e, d, _, n⟩
  · exact .inl x
  · exact .inr ⟨hs, g', w', es, e, d, τ', n⟩

theorem Way.of_head {g : Goroutine} {w : World} (h : ∀ w₁, R w w₁ → Head P main R D Stop g w₁) : Way P main R D Stop g w := by
  have hc : ∀ w₁ : World, ∃ τ : Tr, R w w₁ → Stop g w₁ ∨ (g.status = .running ∧ ∃ g' w' es, stepG P main g w₁ = .go g' w' es ∧ D w₁ w' es ∧ TGoes P main R D Stop τ g' w') := by
    intro w₁
    by_cases hr : R w w₁
    · rcases h w₁ hr with x | ⟨hs, g', w', es, e, d, τ, n⟩
      · exact ⟨.leaf, fun _ => .inl x⟩
      · exact ⟨τ, fun _ => .inr ⟨hs, g', w', es, e, d, n⟩⟩
    · exact ⟨.leaf, fun z => absurd z hr⟩
  obtain ⟨f, hf⟩ := Classical.axiomOfChoice hc
  refine ⟨.node f, .of_now fun w₁ hr => ?_⟩
  rcases hf w₁ hr with x | ⟨hs, g', w', es, e, d, n⟩
  · exact .inl x
  · exact .inr ⟨hs, g', w', es, f w₁, e, d, sub_mk f w₁, n⟩

/-- WALKS JOIN: whoever walks on from here in whatever world the others leave, walks on from here. -/
theorem Way.of_all (refl : ∀ w, R w w) {g : Goroutine} {w : World} (h : ∀ w₁, R w w₁ → Way P main R D Stop g w₁) : Way P main R D Stop g w :=
  Way.of_head fun w₁ hr => (h w₁ hr).head (refl w₁)

theorem Way.step {g : Goroutine} {w : World} (hs : g.status = .running) (h : ∀ w₁, R w w₁ → ∃ g' w' es, stepG P main g w₁ = .go g' w' es ∧ D w₁ w' es ∧ Way P main R D Stop g' w') : Way P main R D Stop g w :=
  Way.of_head fun w₁ hr => .inr ⟨hs, h w₁ hr⟩

theorem Way.bind (refl : ∀ w, R w w) {g : Goroutine} {w : World} (h : Way P main R D (fun g w => Way P main R D Stop g w) g w) : Way P main R D Stop g w := by
  obtain ⟨τ, h⟩ := h
  induction τ using sub_wf.induction generalizing g w with
  | _ τ ih =>
    refine Way.of_head fun w₁ h₁ => ?_
    rcases h.now h₁ with x | ⟨hs, g', w', es, τ', e, d, s, n⟩
    · exact x.head (refl w₁)
    · exact .inr ⟨hs, g', w', es, e, d, ih τ' s n⟩

/-- The library's counted walk is one. -/
theorem way_of_goes {n : Nat} {g : Goroutine} {w : World} (h : Goes P main R D Stop n g w) : Way P main R D Stop g w := by
  induction n generalizing g w with
  | zero => exact ⟨.leaf, .leaf h⟩
  | succ n ih =>
    rcases h with h | ⟨hs, h⟩
    · exact ⟨.leaf, .leaf h⟩
    · refine Way.step hs fun w₁ h₁ => ?_
      have hw := h w₁ h₁
      cases e : stepG P main g w₁ with
      | go g' w' es => rw [e, goes_go] at hw; exact ⟨g', w', es, rfl, hw.1, ih hw.2⟩
      | _ => rw [e] at hw; exact hw.elim
end
end Go.Proofs.YtgcaionclkbehaaGreatDoor
