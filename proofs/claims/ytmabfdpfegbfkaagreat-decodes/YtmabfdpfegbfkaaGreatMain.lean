/-
  Goroutine 0 beside the child, as a family of places: ahead of the first letter, between letters, behind the last. THE SELECT AS A RULE. It knows no program.
-/
import Derived.Test.YtmabfdpfegbfkaaGreatLone
import Derived.Test.YtmabfdpfegbfkaaGreatWalkI
import Derived.Conc.TokenWalk
set_option linter.all false
set_option linter.unusedSectionVars false
namespace Go.Proofs.YtmabfdpfegbfkaaGreat
open Go.Conc

abbrev Ph := Sum (List Value) (Sum (List Value) (Unit))
abbrev Ph.front (vs : List Value) : Ph := .inl vs
abbrev Ph.walk (vs : List Value) : Ph := .inr (.inl vs)
abbrev Ph.join : Ph := .inr (.inr (()))
theorem Ph.casesT {motive : Ph → Prop} (front : ∀ (vs : List Value), motive (Ph.front vs)) (walk : ∀ (vs : List Value), motive (Ph.walk vs)) (join : motive Ph.join) (x : Ph) : motive x := by
  rcases x with vs | vs | _
  · exact front vs
  · exact walk vs
  · exact join

section
variable (K : Cfg) [Go.ConcX.Payload] [Go.ConcR.Payload] [Go.ConcX.Shy K.Wg K.C] (AnchW : Goroutine → World → Prop)
def RMd : Ph → World → World → Prop
  | .inr (.inr (_)) => RPak K
  | _ => RM K
def DMd : Ph → World → World → Array Event → Prop
  | .inl _ => DM0 K
  | .inr (.inl _) => DM K
  | .inr (.inr (_)) => DPik K
def XM : Ph → Goroutine → World → Prop
  | .inl vs => Way K.P true (RM K) (DM0 K) (selOf K AnchW vs)
  | .inr (.inl vs) => Way K.P true (RM K) (DM K) (selOf K AnchW vs)
  | .inr (.inr (_)) => Way K.P true (RPak K) (DPik K) (AtKdk K AnchW)
end

section
variable {K : Cfg} [Go.ConcX.Payload] [Go.ConcR.Payload] [Go.ConcX.Shy K.Wg K.C] {AnchW : Goroutine → World → Prop} {i : Ph} {w w₁ w₂ : World}
theorem rpa_refl (w : World) : RPak K w w := ⟨⟨rfl, rfl, rfl, rfl, fun _ _ _ => rfl⟩, id, id⟩
theorem rpa_trans (h : RPak K w w₁) (h' : RPak K w₁ w₂) : RPak K w w₂ :=
  ⟨⟨h'.aside.tape.trans h.aside.tape, h'.aside.os.trans h.aside.os, h'.aside.output.trans h.aside.output, h'.aside.size.trans h.aside.size, fun b a c => (h'.aside.block b a c).trans (h.aside.block b a c)⟩, h'.ka ∘ h.ka, h'.kc ∘ h.kc⟩
theorem RMd.refl (i : Ph) (w : World) : RMd K i w w := by
  cases i using Ph.casesT with
  | join => exact rpa_refl w
  | _ => exact RM.refl w
theorem RMd.trans (h : RMd K i w w₁) (h' : RMd K i w₁ w₂) : RMd K i w w₂ := by
  cases i using Ph.casesT with
  | join => exact rpa_trans h h'
  | _ => exact RM.trans h h'
theorem termsM (i : Ph) : Terms (RMd K i) (DMd K i) := by
  refine ⟨fun _ _ _ => RMd.trans, fun w => ?_⟩
  cases i using Ph.casesT with
  | front => exact ⟨rfl, by simp⟩
  | walk => exact ⟨fun _ _ => rfl, Nat.le_refl _, by simp⟩
  | join => exact ⟨fun _ _ => rfl, by simp⟩
theorem XM.closed : ClosedI K.P true (RMd K) (DMd K) (XM K AnchW) where
  rely := by
    intro i g w w₁ h hr
    cases i using Ph.casesT with
    | front => exact Way.rely (R := RM K) (fun _ _ _ => RM.trans) h hr
    | walk => exact Way.rely (R := RM K) (fun _ _ _ => RM.trans) h hr
    | join => exact Way.rely (R := RPak K) (fun _ _ _ => rpa_trans) h hr
  step := by
    intro i g w hs h
    cases i using Ph.casesT <;>
    · refine Way.step hs fun w₁ h₁ => ?_
      have hw := h w₁ h₁
      cases e : stepG K.P true g w₁ with
      | go g' w' es => rw [e, goes_go] at hw; exact ⟨g', w', es, rfl, hw.1, hw.2⟩
      | _ => rw [e] at hw; exact hw.elim

variable {fn : FuncId} {ops : Array Oper} {j : Nat} {rest : List Nat} {o : Oper} {Q : PostI Ph} {a : Act}
theorem sel_at {k : Nat} {v : Value} {ok : Bool} {Next : Goroutine → World → Prop} (ho : ops[j]? = some o) (hw : Region.wanted o (yielded ops a.tmps) = true) {b : Frame} {kk : List Item} {cs : List Frame} (hke : b.kind ≠ .early)
    (hr : ∀ w, (execOp a.eval o).run K.P w = .ok (.comm K.cases true .select) w) (he : ∀ w, (execOp a.eval o).events K.P w #[] = #[])
    (h : ∀ w₁, RM K w w₁ → K.k0 ≤ w₁.heap.size → Next (G (b.at (a.put o.dst (commResult K.cases .select k v ok)) (.inRegion ops rest :: kk)) cs) w₁) : AtSel K k v ok Next (G (b.at a (.inRegion ops (j :: rest) :: kk)) cs) w := by
  refine ⟨rfl, G (b.at a (.inRegion ops (j :: rest) :: kk)) cs, rfl, rfl, rfl, fun w₁ _ => ?_, fun w₁ h₁ hs => ?_⟩
  · rw [stepG_comm ho hw hke (hr w₁), listed_none (he w₁)]
  · have e : ∀ u, Conc.served (G (b.at a (.inRegion ops (j :: rest) :: kk)) cs) u = G (b.at (a.put o.dst u) (.inRegion ops rest :: kk)) cs := fun u => by
      have : (b.at a (.inRegion ops (j :: rest) :: kk)).finish u = b.at (a.put o.dst u) (.inRegion ops rest :: kk) := by rw [Frame.finish_at, ho]; rfl
      simp only [Conc.served, G]
      rw [this]
    rw [e]
    exact h w₁ h₁ hs

/-- THE SELECT, A LETTER. -/
theorem opsI_letter {v : Value} {vs : List Value} (hi : i = .front (v :: vs) ∨ i = .walk (v :: vs)) (ho : ops[j]? = some o) (hw : Region.wanted o (yielded ops a.tmps) = true)
    (hr : ∀ w, (execOp a.eval o).run K.P w = .ok (.comm K.cases true .select) w) (he : ∀ w, (execOp a.eval o).events K.P w #[] = #[])
    (h : ∀ w₁, RM K w w₁ → K.k0 ≤ w₁.heap.size → OpsI (XM K AnchW) fn ops rest (.walk vs) Q (a.put o.dst (commResult K.cases .select 0 v true)) w₁) : OpsI (XM K AnchW) fn ops (j :: rest) i Q a w := by
  intro b kk cs hb hke hc
  rcases hi with rfl | rfl <;>
  · refine Way.stop fun w₁ h₁ => ?_
    refine sel_at (Next := MainS K AnchW vs) ho hw hke hr he fun w₂ h₂ hs => ?_
    rw [mainS_eq]
    exact h w₂ (RM.trans h₁ h₂) hs b kk cs hb hke hc
/-- THE SELECT, THE END. -/
theorem opsI_end (hi : i = .front [] ∨ i = .walk []) (ho : ops[j]? = some o) (hw : Region.wanted o (yielded ops a.tmps) = true)
    (hr : ∀ w, (execOp a.eval o).run K.P w = .ok (.comm K.cases true .select) w) (he : ∀ w, (execOp a.eval o).events K.P w #[] = #[])
    (h : ∀ w₁, RM K w w₁ → K.k0 ≤ w₁.heap.size → KPak K w₁ → OpsI (XM K AnchW) fn ops rest .join Q (a.put o.dst (commResult K.cases .select 1 K.zE false)) w₁) : OpsI (XM K AnchW) fn ops (j :: rest) i Q a w := by
  intro b kk cs hb hke hc
  rcases hi with rfl | rfl <;>
  · refine Way.stop fun w₁ h₁ => ?_
    refine sel_at (Next := JoinM K AnchW) ho hw hke hr he fun w₂ h₂ hs hk => ?_
    exact h w₂ (RM.trans h₁ h₂) hs hk b kk cs hb hke hc
end
end Go.Proofs.YtmabfdpfegbfkaaGreat
