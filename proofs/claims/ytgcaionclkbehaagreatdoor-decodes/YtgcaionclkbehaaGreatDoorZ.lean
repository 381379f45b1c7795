/-
  Goroutine 0 beside the child, as a family of places: ahead of the first letter, between letters, behind the last. THE SELECT AS A RULE. It knows no program.
-/
import Derived.Test.YtgcaionclkbehaaGreatDoorLone
import Derived.Test.YtgcaionclkbehaaGreatDoorWalkI
import Derived.Conc.TokenWalk
set_option linter.all false
set_option linter.unusedSectionVars false
namespace Go.Proofs.YtgcaionclkbehaaGreatDoor
open Go.Conc

abbrev Ph := Sum (List Value) (Sum (List Value) (Sum Unit Nat))
abbrev Ph.front (vs : List Value) : Ph := .inl vs
abbrev Ph.walk (vs : List Value) : Ph := .inr (.inl vs)
abbrev Ph.over : Ph := .inr (.inr (.inl ()))
abbrev Ph.join (L : Nat) : Ph := .inr (.inr (.inr L))
theorem Ph.casesT {motive : Ph → Prop} (front : ∀ (vs : List Value), motive (Ph.front vs)) (walk : ∀ (vs : List Value), motive (Ph.walk vs)) (over : motive Ph.over) (join : ∀ L : Nat, motive (Ph.join L)) (x : Ph) : motive x := by
  rcases x with vs | vs | _ | L
  · exact front vs
  · exact walk vs
  · exact over
  · exact join L

section
variable (K : Cfg) [Go.ConcX.Payload] [Go.ConcR.Payload] [Go.ConcX.Shy K.Wg K.C] (AnchW : Goroutine → World → Prop)
def RMd : Ph → World → World → Prop
  | .inr (.inr (.inr _)) => RPak K
  | _ => RM K
def DMd : Ph → World → World → Array Event → Prop
  | .inr (.inr (.inr L)) => DPik K L
  | _ => DM K
def XM : Ph → Goroutine → World → Prop
  | .inl vs => Way K.P true (RM K) (DM K) (selOf K AnchW vs)
  | .inr (.inl vs) => Way K.P true (RM K) (DM K) (selOf K AnchW vs)
  | .inr (.inr (.inl _)) => Way K.P true (RM K) (DM K) (AtJoin K AnchW)
  | .inr (.inr (.inr L)) => Way K.P true (RPak K) (DPik K L) (AtKdk K L AnchW)
end

section
variable {K : Cfg} [Go.ConcX.Payload] [Go.ConcR.Payload] [Go.ConcX.Shy K.Wg K.C] {AnchW : Goroutine → World → Prop} {i : Ph} {w w₁ w₂ : World}
theorem rpa_refl (w : World) : RPak K w w := ⟨⟨rfl, rfl, rfl, rfl, fun _ _ _ => rfl⟩, id, id⟩
theorem rpa_trans (h : RPak K w w₁) (h' : RPak K w₁ w₂) : RPak K w w₂ :=
  ⟨⟨h'.aside.tape.trans h.aside.tape, h'.aside.os.trans h.aside.os, h'.aside.output.trans h.aside.output, h'.aside.size.trans h.aside.size, fun b a c => (h'.aside.block b a c).trans (h.aside.block b a c)⟩, h'.ka ∘ h.ka, h'.kc ∘ h.kc⟩
theorem RMd.refl (i : Ph) (w : World) : RMd K i w w := by
  cases i using Ph.casesT with
  | join => exact rpa_refl w
  | _ => exact RM.refl w
theorem RMd.trans (h : RMd K i w w₁) (h' : RMd K i w₁ w₂) : RMd K i w w₂ := by
  cases i using Ph.casesT with
  | join => exact rpa_trans h h'
  | _ => exact RM.trans h h'
theorem termsM (i : Ph) : Terms (RMd K i) (DMd K i) := by
  refine ⟨fun _ _ _ => RMd.trans, fun w => ?_⟩
  cases i using Ph.casesT with
  | join => exact ⟨fun _ _ => rfl, by simp⟩
  | _ => exact ⟨fun _ _ => rfl, fun _ h => h, Nat.le_refl _, by simp⟩
theorem XM.closed : ClosedI K.P true (RMd K) (DMd K) (XM K AnchW) where
  rely := by
    intro i g w w₁ h hr
    cases i using Ph.casesT with
    | join => exact Way.rely (R := RPak K) (fun _ _ _ => rpa_trans) h hr
    | _ => exact Way.rely (R := RM K) (fun _ _ _ => RM.trans) h hr
  step := by
    intro i g w hs h
    cases i using Ph.casesT <;>
    · refine Way.step hs fun w₁ h₁ => ?_
      have hw := h w₁ h₁
      cases e : stepG K.P true g w₁ with
      | go g' w' es => rw [e, goes_go] at hw; exact ⟨g', w', es, rfl, hw.1, hw.2⟩
      | _ => rw [e] at hw; exact hw.elim
/-- AHEAD OF THE Wait. -/
theorem XM.joins {g : Goroutine} (hs : g.status = .running) (h : ∀ w₁, RM K w w₁ → KPak K w₁ → ∀ L, K.N0 ≤ L → XM K AnchW (.join L) g w₁) : XM K AnchW .over g w :=
  Way.stop fun w₁ h₁ => ⟨hs, fun hk L hL => h w₁ h₁ hk L hL⟩

variable {fn : FuncId} {ops : Array Oper} {j : Nat} {rest : List Nat} {o : Oper} {Q : PostI Ph} {a : Act}
theorem sel_at {k : Nat} {v : Value} {ok : Bool} {Next : Goroutine → World → Prop} (ho : ops[j]? = some o) (hw : Region.wanted o (yielded ops a.tmps) = true) {b : Frame} {kk : List Item} {cs : List Frame} (hke : b.kind ≠ .early)
    (hr : ∀ w, (execOp a.eval o).run K.P w = .ok (.comm K.cases true .select) w) (he : ∀ w, (execOp a.eval o).events K.P w #[] = #[])
    (h : ∀ w₁, RM K w w₁ → K.N0 ≤ w₁.heap.size → Next (G (b.at (a.put o.dst (commResult K.cases .select k v ok)) (.inRegion ops rest :: kk)) cs) w₁) : AtSel K k v ok Next (G (b.at a (.inRegion ops (j :: rest) :: kk)) cs) w := by
  refine ⟨rfl, G (b.at a (.inRegion ops (j :: rest) :: kk)) cs, rfl, rfl, rfl, fun w₁ _ => ?_, fun w₁ h₁ hs => ?_⟩
  · rw [stepG_comm ho hw hke (hr w₁), listed_none (he w₁)]
  · have e : ∀ u, Conc.served (G (b.at a (.inRegion ops (j :: rest) :: kk)) cs) u = G (b.at (a.put o.dst u) (.inRegion ops rest :: kk)) cs := fun u => by
      have : (b.at a (.inRegion ops (j :: rest) :: kk)).finish u = b.at (a.put o.dst u) (.inRegion ops rest :: kk) := by rw [Frame.finish_at, ho]; rfl
      simp only [Conc.served, G]
      rw [this]
    rw [e]
    exact h w₁ h₁ hs

/-- THE SELECT, A LETTER. -/
theorem opsI_letter {v : Value} {vs : List Value} (hi : i = .front (v :: vs) ∨ i = .walk (v :: vs)) (ho : ops[j]? = some o) (hw : Region.wanted o (yielded ops a.tmps) = true)
    (hr : ∀ w, (execOp a.eval o).run K.P w = .ok (.comm K.cases true .select) w) (he : ∀ w, (execOp a.eval o).events K.P w #[] = #[])
    (h : ∀ w₁, RM K w w₁ → K.N0 ≤ w₁.heap.size → OpsI (XM K AnchW) fn ops rest (.walk vs) Q (a.put o.dst (commResult K.cases .select 0 v true)) w₁) : OpsI (XM K AnchW) fn ops (j :: rest) i Q a w := by
  intro b kk cs hb hke hc
  rcases hi with rfl | rfl <;>
  · refine Way.stop fun w₁ h₁ => ?_
    refine sel_at (Next := MainS K AnchW vs) ho hw hke hr he fun w₂ h₂ hs => ?_
    rw [mainS_eq]
    exact h w₂ (RM.trans h₁ h₂) hs b kk cs hb hke hc
/-- THE SELECT, THE END. -/
theorem opsI_end (hi : i = .front [] ∨ i = .walk []) (ho : ops[j]? = some o) (hw : Region.wanted o (yielded ops a.tmps) = true)
    (hr : ∀ w, (execOp a.eval o).run K.P w = .ok (.comm K.cases true .select) w) (he : ∀ w, (execOp a.eval o).events K.P w #[] = #[])
    (h : ∀ w₁, RM K w w₁ → K.N0 ≤ w₁.heap.size → OpsI (XM K AnchW) fn ops rest .over Q (a.put o.dst (commResult K.cases .select 1 K.zE false)) w₁) : OpsI (XM K AnchW) fn ops (j :: rest) i Q a w := by
  intro b kk cs hb hke hc
  rcases hi with rfl | rfl <;>
  · refine Way.stop fun w₁ h₁ => ?_
    refine sel_at (Next := JoinM K AnchW) ho hw hke hr he fun w₂ h₂ hs => ?_
    exact h w₂ (RM.trans h₁ h₂) hs b kk cs hb hke hc
end
end Go.Proofs.YtgcaionclkbehaaGreatDoor
/-
  Goroutine 0 alone with goroutines that only leave, as a family over the blocks that are shunned. It knows no program.
-/
set_option linter.unusedSectionVars false
namespace Go.Proofs.YtgcaionclkbehaaGreatDoor
open Go.Conc

/-- From here the run ends as it should; S: the blocks that may be shunned. -/
def ZI (P : Program) (Post : Value → World → Prop) (d : Nat) (S : Nat → Prop) (g : Goroutine) (w : World) : Prop := ∀ N, Z P Post (fun b => ¬ S b) N d g w
/-- What a step may list. -/
def EvS (S : Nat → Prop) (e : Event) : Prop := (∀ x, (MemAct.ofEvent e).touch? = some x → ∀ ad : Addr, x.loc = .cell ad → ¬ S ad.block) ∧ e.loc ≠ .mark .disable ∧ e.loc ≠ .mark .enable
def DZ (S : Nat → Prop) (_ _ : World) (es : Array Event) : Prop := ∀ e ∈ es, EvS S e

section
variable {P : Program} {Post : Value → World → Prop} {d d' : Nat} {S : Nat → Prop} {g g' : Goroutine} {w w' : World}
theorem ZI.closed : ClosedI P true (fun _ : Nat → Prop => AtRel) DZ (ZI P Post d) where
  rely := fun {S g w w₁} h hr N => (Z.closed (P := P) (Post := Post) (Ok := fun b => ¬ S b) (N := N) (d := d)).rely (vs := ()) (h N) hr
  step := by
    intro S g w hs h N
    refine (Z.closed (P := P) (Post := Post) (Ok := fun b => ¬ S b) (N := N) (d := d)).step (vs := ()) hs fun w₁ h₁ => ?_
    have hw := h w₁ h₁
    cases e : stepG P true g w₁ with
    | go g' w' es =>
      rw [e, goes_go] at hw
      rw [goes_go]
      exact ⟨fun ev he => ⟨fun x hx ad ha => .inl ((hw.1 ev he).1 x hx ad ha), (hw.1 ev he).2.1, (hw.1 ev he).2.2⟩, hw.2 N⟩
    | _ => rw [e] at hw; exact hw.elim
theorem termsS (S : Nat → Prop) : Terms AtRel (DZ S) := ⟨atRel_trans, fun _ e he => by simp at he⟩
theorem ZI.mark {m : Mark} (hs : g.status = .running) (hgo : ∀ e, stepG P true g (w.at e) = .go g' (w.at e) #[⟨.mark m, false, true⟩]) (hm : (MemAct.mark m).touch? = none) (hd : deafBehind d #[⟨.mark m, false, true⟩] = d') (h : ZI P Post d' S g' w) : ZI P Post d S g w := fun N => Z.mark hs hgo hm hd (h N)
theorem ZI.done {v : Value} (hs : g.status = .running) (hend : ∀ e, stepG P true g (w.at e) = .ended (.done v) (w.at e) #[]) (hp : ∀ e, Post v (w.at e)) : ZI P Post 0 S g w := fun _ => Z.done hs hend hp
theorem ZI.mono {S' : Nat → Prop} (h : ZI P Post d S g w) (hS : ∀ b, S' b → S b) : ZI P Post d S' g w := fun N => Z.mono (h N) fun b hb hn => ⟨hb, fun z => hn fun h' => z (hS b h')⟩

/-- The library's counted walk, to a place from which the run ends as it should. -/
theorem ZI.goes {ev : Event → Prop} {Stop : Goroutine → World → Prop} {n : Nat} (hev : ∀ e, ev e → EvS S e) (hst : ∀ g w, (∀ w₁, AtRel w w₁ → Stop g w₁) → ZI P Post d S g w) (h : Goes P true AtRel (fun _ _ es => ∀ e ∈ es, ev e) Stop n g w) : ZI P Post d S g w := by
  induction n generalizing g w with
  | zero => exact hst _ _ h
  | succ n ih =>
    rcases h with h | ⟨hs, h⟩
    · exact hst _ _ h
    · refine ZI.closed.step hs fun w₁ h₁ => ?_
      have hw := h w₁ h₁
      cases e : stepG P true g w₁ with
      | go g' w' es => rw [e, goes_go] at hw; rw [goes_go]; exact ⟨fun e he => hev e (hw.1 e he), ih hw.2⟩
      | _ => rw [e] at hw; exact hw.elim
/-- One of the library's marks, at a stop. -/
theorem ZI.atMark {m : Mark} {Next : Goroutine → World → Prop} (hm : (MemAct.mark m).touch? = none) (hd : deafBehind d #[⟨.mark m, false, true⟩] = d') (hn : ∀ g w, Next g w → ZI P Post d' S g w) (h : ∀ w₁, AtRel w w₁ → g.status = .running ∧ ∃ a', stepG P true g w₁ = .go a' w₁ #[⟨.mark m, false, true⟩] ∧ Next a' w₁) : ZI P Post d S g w := by
  intro N
  refine Z.pick (h w (atRel_refl w)).1 fun e Shun gs q t sl hS hF => ?_
  obtain ⟨_, g', hgo, hN⟩ := h (w.at e) ⟨e, rfl⟩
  refine ⟨_, _, runT_crowd_go (P := P) (sl := sl) (i := 0) hF.h0 (show stepG P (0 == 0) g (w.at e) = _ from hgo), ?_⟩
  refine hn _ _ hN N e Shun _ q _ sl hS (hF.own (fun ev he x hx _ => ?_) hd)
  rw [Array.mem_singleton] at he
  subst he
  rw [show MemAct.ofEvent ⟨.mark m, false, true⟩ = .mark m from rfl, hm] at hx
  cases hx

/-- ████ THE GO STATEMENT, THE LETTERS AND THE JOIN. ████ -/
theorem ZI.fork {child : Goroutine} (hs : g.status = .running) (hsp : ∀ e, stepG P true g (w.at e) = .spawn g' child (w.at e) #[])
    (h : ∀ (e : Nat) (Shun : Loc → Prop), (∀ l, Shun l → ∃ ad : Addr, l = .cell ad ∧ S ad.block) → ∃ K I1 I2 I3 AnchW Post' vs Ok' N', Forked P Post Shun g' child (w.at e) K I1 I2 I3 AnchW Post' vs Ok' N') : ZI P Post 0 S g w := by
  intro N
  refine Z.fork hs hsp fun e Shun hS => h e Shun fun l hl => ?_
  obtain ⟨ad, rfl, _, h2⟩ := hS l hl
  exact ⟨ad, rfl, Classical.not_not.1 h2⟩

/-- The family's open limb, filled: the group's cells, not plainly, and the payload's alone. -/
abbrev shyK (K : Cfg) (F : K.Fit) (stop : Goroutine → World → Prop) : Go.ConcX.Shy K.Wg K.C where
  ok := fun act => (∀ z, act.touch? = some z → (∃ ad : Addr, z.loc = .cell ad ∧ ad.block = K.C) ∨ (∃ ad : Addr, z.loc = .cell ad ∧ ad.block = K.Wg ∧ z.kind ≠ .plain)) ∧ act.low K.B
  atomicWg := fun a wr h => ⟨fun z hz => .inr (by
    simp only [MemAct.touch?, Option.some.injEq] at hz
    subst hz
    exact ⟨a, rfl, h, by simp⟩), by show a.block < K.B; rw [h]; exact F.WB⟩
  readWg := fun a h => ⟨fun z hz => .inr (by
    simp only [MemAct.touch?, Option.some.injEq] at hz
    subst hz
    exact ⟨a, rfl, h, by simp⟩), by show a.block < K.B; rw [h]; exact F.WB⟩
  writeWg := fun a h => ⟨fun z hz => .inr (by
    simp only [MemAct.touch?, Option.some.injEq] at hz
    subst hz
    exact ⟨a, rfl, h, by simp⟩), by show a.block < K.B; rw [h]; exact F.WB⟩
  theirs := fun a wr h => ⟨fun z hz => .inl (by
    simp only [MemAct.touch?, Option.some.injEq] at hz
    subst hz
    exact ⟨a, rfl, h⟩), by show a.block < K.B; rw [h]; exact F.CB⟩
  disable := ⟨fun x hx => (by cases hx), trivial⟩
  enable := ⟨fun x hx => (by cases hx), trivial⟩
  relMerge := ⟨fun x hx => (by cases hx), F.WB⟩
  acquire := ⟨fun x hx => (by cases hx), F.WB⟩
  go1 := ⟨fun x hx => (by cases hx), trivial⟩
  start := ⟨fun x hx => (by cases hx), trivial⟩
  stop := stop
theorem shyK_ok (K : Cfg) (F : K.Fit) (stop : Goroutine → World → Prop) : @ShyOk K (shyK K F stop) := @ShyOk.mk K (shyK K F stop) fun _ h => h
end
end Go.Proofs.YtgcaionclkbehaaGreatDoor
