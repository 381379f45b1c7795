/-
  Goroutine 0's walk beside goroutines that only leave, to the end of the run, WITHOUT A COUNT: 'Z': from here, whatever the tape, the run ends as it should. 'Z' is closed under goroutine 0's own steps; a call that starts a sender and joins it is one rule ('Z.fork', by 'pair_runs'). It knows no program.
-/
import Derived.Test.YtgcaionclkbehaaGreatDoorPairEnd
import Derived.Test.YtgcaionclkbehaaGreatDoorWalk
import Derived.Conc.FxBegin
set_option linter.all false
set_option linter.unusedSectionVars false
namespace Go.Proofs.YtgcaionclkbehaaGreatDoor
open Go.Conc
open Go.ConcN (sumTo upd sumTo_upd upd_ne upd_same)

def Ends (P : Program) (Post : Value → World → Prop) (M : Machine) (t : Trace) : Prop :=
  ∃ N last o w' t', runNT P (N + 1) M t = (.ended o w', t') ∧ runN P N M = .next last ∧ step P last = .ended o w' ∧ Good P Post last o w' t'

theorem Ends.step {P : Program} {Post : Value → World → Prop} {M M' : Machine} {t : Trace} {ops : Array MemOp} (h : stepT P M = (.next M', ops)) (h' : Ends P Post M' (t ++ ops)) : Ends P Post M t := by
  obtain ⟨N, last, o, w', t', h1, h2, h3, h4⟩ := h'
  refine ⟨N + 1, last, o, w', t', ?_, ?_, h3, h4⟩
  · rw [runNT]; simp only [h]; exact h1
  · rw [runN]; simp only [Go.step, h]; exact h2

theorem Ends.runs {P : Program} {Post : Value → World → Prop} {M' : Machine} {t' : Trace} (h' : Ends P Post M' t') : ∀ (N : Nat) (M : Machine) (t : Trace), runNT P N M t = (.next M', t') → Ends P Post M t
  | 0, M, t, h => by
    simp only [runNT, Prod.mk.injEq, Stepped.next.injEq] at h
    obtain ⟨rfl, rfl⟩ := h
    exact h'
  | N + 1, M, t, h => by
    rw [runNT] at h
    cases e : stepT P M with
    | mk s ops =>
      rw [e] at h
      cases s with
      | next m => exact Ends.step e (Ends.runs h' N m (t ++ ops) h)
      | _ => simp at h

/-- All but goroutine 0 only leave; goroutine 0 knows every touch but atomic ones of shunned places. -/
structure Fr (P : Program) (Shun : Loc → Prop) (d : Nat) (gs : Array Goroutine) (a : Goroutine) (t : Trace) (q : Nat → Nat) : Prop where
  h0 : gs[0]? = some a
  old : Leavers P t gs q
  clean : ∀ said, ¬ Race said t
  known : ∀ i x, touchAt t i = some x → x.loc.isMemory = true → Knows t 0 i ∨ (Shun x.loc ∧ x.kind = .atomic)
  over : t.HandedOver
  deaf : Deaf t 0 = d

theorem Fr.past {P : Program} {Shun : Loc → Prop} {gs : Array Goroutine} {a : Goroutine} {t : Trace} {q : Nat → Nat} (h : Fr P Shun 0 gs a t q) (B : Nat) : ∃ B', B ≤ B' ∧ Past Shun B' t := by
  obtain ⟨B', h1, h2⟩ := trace_low t B
  exact ⟨B', h1, h.clean, h.known, h.over, h.deaf, h2⟩

/-- Which blocks may be shunned. -/
def Shunned (Ok : Nat → Prop) (N : Nat) (Shun : Loc → Prop) : Prop := ∀ l, Shun l → ∃ ad : Addr, l = .cell ad ∧ ad.block < N ∧ ¬ Ok ad.block

/-- ████ FROM HERE, WHATEVER THE TAPE, THE RUN ENDS AS IT SHOULD. ████ 'Ok': blocks that are not shunned; nor are those from N on. 'd': how deaf goroutine 0 is. -/
def Z (P : Program) (Post : Value → World → Prop) (Ok : Nat → Prop) (N d : Nat) (g : Goroutine) (w : World) : Prop :=
  ∀ (e : Nat) (Shun : Loc → Prop) (gs : Array Goroutine) (q : Nat → Nat) (t : Trace) (sl : Option (Nat × Nat)), Shunned Ok N Shun → Fr P Shun d gs g t q → Ends P Post (crowd gs (w.at e) sl) t

/-- What a step of goroutine 0's may list. -/
def EvLo (Ok : Nat → Prop) (N : Nat) (e : Event) : Prop := (∀ x, (MemAct.ofEvent e).touch? = some x → ∀ ad : Addr, x.loc = .cell ad → Ok ad.block ∨ N ≤ ad.block) ∧ e.loc ≠ .mark .disable ∧ e.loc ≠ .mark .enable
def DL (Ok : Nat → Prop) (N : Nat) (_ _ : World) (es : Array Event) : Prop := ∀ e ∈ es, EvLo Ok N e

section
variable {P : Program} {Post : Value → World → Prop} {Ok Ok' : Nat → Prop} {N N' d d' : Nat} {g g' : Goroutine} {w w' : World}

theorem Z.mono (h : Z P Post Ok N d g w) (hn : ∀ b, b < N' → ¬ Ok' b → b < N ∧ ¬ Ok b) : Z P Post Ok' N' d g w := fun e Shun gs q t sl hS hF =>
  h e Shun gs q t sl (fun l hl => by obtain ⟨ad, rfl, h1, h2⟩ := hS l hl; exact ⟨ad, rfl, hn _ h1 h2⟩) hF

theorem Fr.shun {Shun Shun' : Loc → Prop} {gs : Array Goroutine} {a : Goroutine} {t : Trace} {q : Nat → Nat} (h : Fr P Shun d gs a t q) (hs : ∀ l, Shun l → Shun' l) : Fr P Shun' d gs a t q :=
  ⟨h.h0, h.old, h.clean, fun i x hx hm => (h.known i x hx hm).imp id fun z => ⟨hs _ z.1, z.2⟩, h.over, h.deaf⟩

theorem Fr.awake {Shun : Loc → Prop} {gs : Array Goroutine} {t : Trace} {q : Nat → Nat} (h : Fr P Shun d gs g t q) (hs : g.status = .running) : ∀ x ∈ gs, Conc.awake x := by
  intro x hx
  obtain ⟨i, hi, rfl⟩ := Array.mem_iff_getElem.1 hx
  rcases Nat.eq_zero_or_pos i with rfl | hp
  · have : gs[0] = g := by simpa [Array.getElem?_eq_getElem hi] using h.h0
    rw [this]; exact awake_of (.inl hs)
  · exact awake_of ((h.old.old i _ hp (Array.getElem?_eq_getElem hi)).status.elim .inl fun z => .inr (.inr z))

/-- Goroutine 0's own step. -/
theorem Fr.own {Shun : Loc → Prop} {gs : Array Goroutine} {t : Trace} {q : Nat → Nat} {es : Array Event} (h : Fr P Shun d gs g t q) (hes : ∀ e ∈ es, ∀ x, (MemAct.ofEvent e).touch? = some x → Shun x.loc → x.kind ≠ .plain) (hd : deafBehind d es = d') :
    Fr P Shun d' ((gs.map (Conc.woken P g g' w')).setIfInBounds 0 g') g' (t ++ MemOp.ofEvents 0 g.frame.fn g.frame.place es) q := by
  have hlt : 0 < gs.size := (Array.getElem?_eq_some_iff.1 h.h0).1
  have hg0 : ∀ op ∈ MemOp.ofEvents 0 g.frame.fn g.frame.place es, op.g = 0 := ops_g
  refine ⟨by simp [hlt], h.old.own hlt _ _ es, fun said => noRace_append (h.clean said) hg0 fun i x hx op hop b hb hc => ?_, fun i x hx hm => ?_, handedOver_app h.over fun op hop => .inl (hg0 op hop), ?_⟩
  · rcases h.known i x hx hc.2.1 with hk | ⟨hsh, hat⟩
    · exact hk
    · obtain ⟨e, he, rfl⟩ := Conc.mem_ofEvents hop
      have hnp := hes e he b hb (hc.1 ▸ hsh)
      rcases hc.2.2.2 with z | z | ⟨_, z, _⟩
      · rw [hat] at z; cases z
      · exact absurd z hnp
      · rw [hat] at z; cases z
  · obtain ⟨y, hy, hya⟩ := touch_of hx
    rcases getElem?_append_cases hy with ⟨_, hy'⟩ | ⟨_, hyu⟩
    · exact (h.known i x (by rw [touchAt_of hy']; exact hya) hm).imp (·.app _) id
    · have := knows_own hy
      rw [hg0 y hyu] at this
      exact .inl this
  · rw [Deaf_own, h.deaf]; exact hd

/-- One of the others slips. -/
theorem Fr.slip {Shun : Loc → Prop} {gs : Array Goroutine} {t : Trace} {q : Nat → Nat} {i : Nat} {x : Goroutine} {sl : Option (Nat × Nat)} (h : Fr P Shun d gs g t q) (hs : g.status = .running) (hi : gs[i]? = some x) (hi0 : i ≠ 0) (hx : x.status = .running) :
    ∃ gs' ops q', runT P (crowd gs w sl) i = (.next (crowd gs' w sl), ops) ∧ gs'.size = gs.size ∧ Fr P Shun d gs' g (t ++ ops) q' ∧ sumTo gs'.size q' < sumTo gs.size q := by
  have hlt : i < gs.size := (Array.getElem?_eq_some_iff.1 hi).1
  have hq := h.old.old i x (by omega) hi
  have hb : (i == 0) = false := by simp [hi0]
  cases hqi : q i with
  | zero => rw [hqi] at hq; rw [hq.1] at hx; cases hx
  | succ k =>
    rw [hqi] at hq
    rcases hq with ⟨hf, _⟩ | ⟨_, x', es, hm, hstp, hq'⟩
    · rw [hf] at hx; cases hx
    have hgi : ∀ op ∈ MemOp.ofEvents i x.frame.fn x.frame.place es, op.g = i := ops_g
    have hmt : ∀ op ∈ MemOp.ofEvents i x.frame.fn x.frame.place es, op.act.touch? = none := fun op hop => by obtain ⟨e, he, rfl⟩ := Conc.mem_ofEvents hop; exact touch_mute (hm e he)
    refine ⟨_, _, upd q i k, runT_crowd_go (P := P) (sl := sl) (i := i) hi (by rw [hb]; exact hstp w), by simp, ⟨?_, ⟨fun j z hj hz => ?_, fun j hj => ?_⟩, fun said => noRace_append (h.clean said) hgi fun i' a _ op hop b hb' _ => (by rw [hmt op hop] at hb'; cases hb'), fun i' a ha hm' => ?_, handedOver_app h.over fun op hop => .inr (hmt op hop), ?_⟩, ?_⟩
    · rw [Array.getElem?_setIfInBounds_ne hi0, Array.getElem?_map, h.h0]
      simp [woken_run hs]
    · by_cases e : i = j
      · subst e
        rw [Array.getElem?_setIfInBounds_self_of_lt (by simpa using hlt)] at hz
        obtain rfl := Option.some.inj hz
        rw [upd_same, Deaf_own]
        exact hq'
      · rw [Array.getElem?_setIfInBounds_ne e, Array.getElem?_map] at hz
        obtain ⟨z', hz', rfl⟩ := Option.map_eq_some_iff.1 hz
        have hqj := h.old.old j z' hj hz'
        rw [woken_quitsD hqj, upd_ne q k (Ne.symm e), Deaf_other t e _ hgi]
        exact hqj
    · have hj' : gs.size ≤ j := by simpa using hj
      rw [Deaf_other t (g' := i) (by omega) _ hgi]
      exact h.old.above j hj'
    · obtain ⟨y, hy, hya⟩ := touch_of ha
      rcases getElem?_append_cases hy with ⟨_, hy'⟩ | ⟨_, hyu⟩
      · exact (h.known i' a (by rw [touchAt_of hy']; exact hya) hm').imp (·.app _) id
      · rw [hmt y hyu] at hya; cases hya
    · rw [Deaf_other t hi0 _ hgi]; exact h.deaf
    · have h2 : sumTo gs.size (upd q i k) + (k + 1) = sumTo gs.size q + k := by
        have := sumTo_upd q k id hlt
        simpa [hqi] using this
      have h3 : ((gs.map (Conc.woken P x x' w)).setIfInBounds i x').size = gs.size := by simp
      rw [h3]
      omega

/-- Goroutine 0 is picked at last: what is to be shown of that step alone. -/
theorem Z.pick (hs : g.status = .running)
    (h : ∀ (e : Nat) (Shun : Loc → Prop) (gs : Array Goroutine) (q : Nat → Nat) (t : Trace) (sl : Option (Nat × Nat)), Shunned Ok N Shun → Fr P Shun d gs g t q → ∃ M' ops, runT P (crowd gs (w.at e) sl) 0 = (.next M', ops) ∧ Ends P Post M' (t ++ ops)) : Z P Post Ok N d g w := by
  have key : ∀ (n : Nat) (e : Nat) (Shun : Loc → Prop) (gs : Array Goroutine) (q : Nat → Nat) (t : Trace) (sl : Option (Nat × Nat)), sumTo gs.size q = n → Shunned Ok N Shun → Fr P Shun d gs g t q → Ends P Post (crowd gs (w.at e) sl) t := by
    intro n
    induction n using Nat.strongRecOn with
    | _ n ih =>
      rintro e Shun gs q t sl rfl hS hF
      obtain ⟨i, x, e', sl', hi, hx, hst⟩ := crowd_pick (P := P) (w := w.at e) (sl := sl) (hF.awake hs) ⟨0, g, hF.h0, hs⟩
      have ee : (w.at e).at e' = w.at e' := rfl
      rw [ee] at hst
      by_cases hi0 : i = 0
      · subst hi0
        obtain ⟨M', ops, h1, h2⟩ := h e' Shun gs q t sl' hS hF
        exact Ends.step (hst.trans h1) h2
      · obtain ⟨gs', ops, q', h1, _, h3, h4⟩ := hF.slip (w := w.at e') (sl := sl') hs hi hi0 hx
        exact Ends.step (hst.trans h1) (ih _ h4 e' Shun gs' q' _ sl' rfl hS h3)
  exact fun e Shun gs q t sl hS hF => key _ e Shun gs q t sl rfl hS hF

theorem Z.closed : Closed P true (fun _ : Unit => AtRel) (DL Ok N) (fun _ => Z P Post Ok N d) where
  rely := by
    rintro _ g w _ h ⟨e, rfl⟩ e' Shun gs q t sl hS hF
    exact h e' Shun gs q t sl hS hF
  step := by
    intro _ g w hs h
    refine Z.pick hs fun e Shun gs q t sl hS hF => ?_
    have hw := h (w.at e) ⟨e, rfl⟩
    cases eq : stepG P true g (w.at e) with
    | go g' w' es =>
      rw [eq, goes_go] at hw
      obtain ⟨hd, hz⟩ := hw
      refine ⟨_, _, runT_crowd_go (P := P) (sl := sl) (i := 0) hF.h0 (show stepG P (0 == 0) g (w.at e) = _ from eq), ?_⟩
      exact hz w'.drawn Shun _ q _ sl hS (hF.own (fun ev he x hx hsh => by
        obtain ⟨ad, e1, e2, e3⟩ := hS _ hsh
        rcases (hd ev he).1 x hx ad e1 with z | z
        · exact absurd z e3
        · omega) (deafBehind_still (fun ev he => ⟨(hd ev he).2.1, (hd ev he).2.2⟩) _))
    | _ => rw [eq] at hw; exact hw.elim

theorem termsL : ∀ _ : Unit, Terms AtRel (DL Ok N) := fun _ => ⟨atRel_trans, fun _ e he => by simp at he⟩

/-- One of the library's marks. -/
theorem Z.mark {m : Mark} (hs : g.status = .running) (hgo : ∀ e, stepG P true g (w.at e) = .go g' (w.at e) #[⟨.mark m, false, true⟩]) (hm : (MemAct.mark m).touch? = none) (hd : deafBehind d #[⟨.mark m, false, true⟩] = d') (h : Z P Post Ok N d' g' w) : Z P Post Ok N d g w := by
  refine Z.pick hs fun e Shun gs q t sl hS hF => ⟨_, _, runT_crowd_go (P := P) (sl := sl) (i := 0) hF.h0 (show stepG P (0 == 0) g (w.at e) = _ from hgo e), ?_⟩
  refine h e Shun _ q _ sl hS (hF.own (fun ev he x hx _ => ?_) hd)
  rw [Array.mem_singleton] at he
  subst he
  rw [show MemAct.ofEvent ⟨.mark m, false, true⟩ = .mark m from rfl, hm] at hx
  cases hx

/-- ████ THE RETURN. ████ -/
theorem Z.done {v : Value} (hs : g.status = .running) (hend : ∀ e, stepG P true g (w.at e) = .ended (.done v) (w.at e) #[]) (hp : ∀ e, Post v (w.at e)) : Z P Post Ok N 0 g w := by
  intro e Shun gs q t sl hS hF
  obtain ⟨B, _, hP⟩ := hF.past 0
  exact beside_ends (P := P) (Shun := Shun) (B := B) (D := fun _ _ es => es = #[]) (n := 0) (sl := sl) (fun _ _ es h ev he => by rw [h] at he; simp at he) hF.h0 hF.old hP (fun w₁ h₁ => by
    obtain ⟨e', rfl⟩ := h₁
    exact ⟨hs, v, #[], hend e', by simp, hp e'⟩)

/-- What a call that starts a sender must bring. -/
structure Forked (P : Program) (Post : Value → World → Prop) (Shun : Loc → Prop) (g' child : Goroutine) (w : World) (K : Cfg) (I1 : Go.ConcX.Payload) (I2 : Go.ConcR.Payload) (I3 : Go.ConcX.Shy K.Wg K.C) (AnchW : Goroutine → World → Prop) (Post' : Value → World → Prop) (vs : List Value) (Ok' : Nat → Prop) (N' : Nat) : Prop where
  prog : K.P = P
  fit : K.Fit
  ety : I1.ety = I2.ety
  shy : ShyOk K
  ar : ∀ g w, AnchW g w → g.status = .running
  an : ∀ L, K.N0 ≤ L → ∀ g w, AnchW g w → ∃ m, Goes K.P true (RPak K) (DPik K L) (AtW1k K L AnchW Post') m g w
  sh1 : ∀ l, Shun l → K.Shun l
  sh2 : Shunned Ok' N' K.Shun
  kid : Way K.P false (RC K) (DK K) (sendOf K vs) child w
  main : Way K.P true (RM K) (DM K) (selOf K AnchW vs) g' w
  size : K.N0 ≤ w.heap.size
  wg : K.wgIs w KK 0
  chA : w.heap[K.A]? = some (.chan 0 #[] false 0 0 false)
  chE : w.heap[K.E]? = some (.chan 0 #[] false 0 0 false)
  pay : Go.ConcN.PayAt K.C 1 w
  stop : ∀ a w, I3.stop a w → Z P Post Ok' N' 0 a w

/-- ████████ THE GO STATEMENT, THE LETTERS AND THE JOIN, AS ONE RULE. ████████ -/
theorem Z.fork {child : Goroutine} (hs : g.status = .running) (hsp : ∀ e, stepG P true g (w.at e) = .spawn g' child (w.at e) #[])
    (h : ∀ (e : Nat) (Shun : Loc → Prop), Shunned Ok N Shun → ∃ K I1 I2 I3 AnchW Post' vs Ok' N', Forked P Post Shun g' child (w.at e) K I1 I2 I3 AnchW Post' vs Ok' N') : Z P Post Ok N 0 g w := by
  refine Z.pick hs fun e Shun gs q t sl hS hF => ?_
  obtain ⟨K, I1, I2, I3, AnchW, Post', vs, Ok', N', X⟩ := h e Shun hS
  obtain rfl := X.prog
  have hlt : 0 < gs.size := (Array.getElem?_eq_some_iff.1 hF.h0).1
  obtain ⟨B, _, hP⟩ := hF.past 0
  refine ⟨_, _, runT_crowd_spawn (P := K.P) (sl := sl) (i := 0) hF.h0 (show stepG K.P (0 == 0) g (w.at e) = _ from hsp e), ?_⟩
  have hops : ((MemOp.ofEvents 0 g.frame.fn g.frame.place #[]).push { g := 0, fn := g.frame.fn, pos := g.frame.place, act := .go gs.size }).push { g := gs.size, fn := child.frame.fn, pos := g.frame.place, act := .start }
      = #[{ g := 0, fn := g.frame.fn, pos := g.frame.place, act := .go gs.size }, { g := gs.size, fn := child.frame.fn, pos := g.frame.place, act := .start }] := rfl
  rw [hops]
  have hquiet : ∀ j, ∀ op ∈ (#[{ g := 0, fn := g.frame.fn, pos := g.frame.place, act := .go gs.size }, { g := gs.size, fn := child.frame.fn, pos := g.frame.place, act := .start }] : Trace), ∀ d, deafStep j d op = d := by
    intro j op hop d
    simp only [List.mem_toArray, List.mem_cons, List.not_mem_nil, or_false] at hop
    rcases hop with rfl | rfl <;> rfl
  obtain ⟨τc, hτc⟩ := X.kid
  obtain ⟨τm, hτm⟩ := X.main
  have hJ : J K 0 AnchW Post' (K.Kid (w.at e)) gs.size (.fresh vs) (.front vs) τc τm ((gs.setIfInBounds 0 g').push child) g' child (w.at e) (t ++ #[{ g := 0, fn := g.frame.fn, pos := g.frame.place, act := .go gs.size }, { g := gs.size, fn := child.frame.fn, pos := g.frame.place, act := .start }]) q := by
    refine ⟨hlt, ?_, ?_, fun i z hi hic hz => ?_, fun j hj => ?_, hτc, hτm, ⟨KK, 0, ⟨rfl, rfl, rfl⟩, X.wg⟩, ⟨0, X.chA⟩, X.chE, X.pay, fun z => (by cases z), fun _ _ => Iff.rfl, fun _ hb => .inl hb, ⟨_, fun _ hb => hb⟩, fun _ => X.size, (fun z => by cases z), fun _ i z hz => ?_, ?_, ?_, ?_⟩
    · rw [Array.getElem?_push_lt (by simpa using hlt)]; simp
    · have e1 : gs.size = (gs.setIfInBounds 0 g').size := by simp
      conv => lhs; rw [e1]
      exact Array.getElem?_push_size
    · rw [Deaf_quiet (hquiet i)]
      rw [Array.getElem?_push, if_neg (by simp; omega), Array.getElem?_setIfInBounds_ne (by omega)] at hz
      exact hF.old.old i z hi hz
    · rw [Deaf_quiet (hquiet j)]
      exact hF.old.above j (by simp at hj; omega)
    · have hPT := PT.fork (Kid := fun _ => True) (Still := fun _ => False) hP (hF.old.above _ (Nat.le_refl _)) X.sh1 g.frame.fn child.frame.fn g.frame.place
      cases hl : z.loc with
      | cell ad =>
        rcases hPT.known i z hz (by rw [hl]; rfl) with k | k
        · exact .inr (.inr (by rw [← hl]; exact k))
        · exact .inr (.inl (k.kid trivial))
      | _ => exact .inl fun ad e => by cases e
    · exact PT.fork hP (hF.old.above _ (Nat.le_refl _)) X.sh1 _ _ _
    · rw [Deaf_quiet (hquiet 0)]; exact hF.deaf
    · rw [Deaf_quiet (hquiet gs.size)]; exact hF.old.above _ (Nat.le_refl _)
  obtain ⟨n, M, T, hr, gs2, a2, w2, sl2, q2, B2, m2, L2, rfl, _, h02, hL2, hP2, hB2, hG2⟩ := pair_runs X.fit X.ety X.ar X.shy X.an _ _ _ _ _ _ _ _ _ _ _ _ q sl rfl hJ
  refine Ends.runs ?_ n _ _ hr
  obtain ⟨n3, gs3, a3, w3, sl3, T3, q3, hr3, _, h03, hS3, hL3, hP3⟩ := walk_beside (P := K.P) (Shun := K.Shun) (B := B2) (fun _ _ es hD ev he => by
    obtain ⟨h1, h2, h3⟩ := hD.2 ev he
    obtain ⟨_, _, _, hk⟩ := h1 0 ""
    obtain ⟨k1, k2⟩ := X.shy.ok _ hk
    refine ⟨fun x hx hsh => ?_, h2, h3, MemAct.low_mono hB2 k2⟩
    rcases k1 x hx with ⟨ad, e1, e2⟩ | k
    · rw [e1] at hsh
      exact absurd hsh (X.fit.k0h ad (by rw [e2]; exact X.fit.k0C))
    · obtain ⟨_, _, _, k⟩ := k; exact k) _ m2 gs2 a2 w2 sl2 T q2 (Nat.le_refl _) h02 hL2 hP2 hG2
  refine Ends.runs ?_ n3 _ _ hr3
  exact X.stop a3 w3 hS3.2 w3.drawn K.Shun gs3 q3 T3 sl3 X.sh2 ⟨h03, hL3, hP3.clean, hP3.known, hP3.over, hP3.hears⟩
end
end Go.Proofs.YtgcaionclkbehaaGreatDoor
