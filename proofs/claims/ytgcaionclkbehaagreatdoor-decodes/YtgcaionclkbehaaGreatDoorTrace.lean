/-
  What is held of the trace while goroutine 0 and one child, number c, both work, each on places of its own, beside goroutines that only leave: no data race; who knows which touch. It knows no program.
  'Kid': the child's places. 'Still': places that nobody writes any more. 'Shun': places that are touched atomically (the groups' own). 'Kc i': the child knows touch i ('Knows t c i'); behind the child's release, number r: 'Before t i r'.
-/
import Derived.Conc.Beside
import Derived.Conc.CrowdBase
set_option linter.all false
set_option linter.unusedSectionVars false
namespace Go.Proofs.YtgcaionclkbehaaGreatDoor
open Go.Conc
open Go.ConcN (RelBy)

/-- Who knows touch i, a touch a. -/
structure KnownBy (Shun Kid Still : Loc → Prop) (t : Trace) (Kc : Nat → Prop) (i : Nat) (a : Touch) : Prop where
  kid : Kid a.loc → Kc i
  mine : ¬ Kid a.loc → ¬ Still a.loc → Knows t 0 i
  still : Still a.loc → a.write = true → Knows t 0 i ∧ Kc i
  any : Knows t 0 i ∨ Kc i
  shun : Shun a.loc → a.kind = .plain → Kc i

/-- The trace while both work. -/
structure PT (Shun Kid Still : Loc → Prop) (c : Nat) (Kc : Nat → Prop) (t : Trace) : Prop where
  clean : ∀ said, ¬ Race said t
  known : ∀ i a, touchAt t i = some a → a.loc.isMemory = true → (Shun a.loc ∧ a.kind = .atomic) ∨ KnownBy Shun Kid Still t Kc i a
  over : ∀ i g, t.g? i = some g → g ≠ 0 → g ≠ c → t.counts i → ∃ j, t.g? j = some 0 ∧ HappensBefore t i j

/-- The three classes are apart. -/
structure Apart (Shun Kid Still : Loc → Prop) : Prop where
  ks : ∀ l, Kid l → ¬ Still l
  kh : ∀ l, Kid l → ¬ Shun l
  sh : ∀ l, Still l → ¬ Shun l

section
variable {Shun Kid Still : Loc → Prop} {c : Nat} {Kc Kc' : Nat → Prop} {t u : Trace}

theorem KnownBy.app {i : Nat} {a : Touch} (h : KnownBy Shun Kid Still t Kc i a) (hK : ∀ i, Kc i → Kc' i) (u : Trace) : KnownBy Shun Kid Still (t ++ u) Kc' i a :=
  ⟨fun x => hK i (h.kid x), fun x y => (h.mine x y).app u, fun x y => ⟨(h.still x y).1.app u, hK i (h.still x y).2⟩, h.any.imp (·.app u) (hK i), fun x y => hK i (h.shun x y)⟩

/-- What was handed over stays so; operations of goroutine 0's or the child's, or that touch nothing, bring nothing new. -/
theorem over_app (h : ∀ i g, t.g? i = some g → g ≠ 0 → g ≠ c → t.counts i → ∃ j, t.g? j = some 0 ∧ HappensBefore t i j) (hu : ∀ op ∈ u, op.g = 0 ∨ op.g = c ∨ op.act.touch? = none) :
    ∀ i g, (t ++ u).g? i = some g → g ≠ 0 → g ≠ c → (t ++ u).counts i → ∃ j, (t ++ u).g? j = some 0 ∧ HappensBefore (t ++ u) i j := by
  intro i g hg h0 hc hcount
  obtain ⟨x, hx, hm, hk⟩ := hcount
  obtain ⟨op, hop, hox⟩ := touch_of hx
  rcases getElem?_append_cases hop with ⟨hi, _⟩ | ⟨_, hopu⟩
  · obtain ⟨j, hj, hb⟩ := h i g (by rw [← g?_old (u := u) hi]; exact hg) h0 hc ((counts_old hi).1 ⟨x, hx, hm, hk⟩)
    have hjl : j < t.size := by
      obtain ⟨z, hz, _⟩ := Option.map_eq_some_iff.1 hj
      exact lt_size_of_getElem? hz
    exact ⟨j, by rw [g?_old hjl]; exact hj, hb_app u hb⟩
  · have hgo : op.g = g := by simpa [Trace.g?, hop] using hg
    rcases hu op hopu with e | e | e
    · exact absurd (hgo.symm.trans e) h0
    · exact absurd (hgo.symm.trans e) hc
    · rw [e] at hox; cases hox

/-- More places are the child's; it knows whatever touched them. -/
theorem PT.mono {Kid' : Loc → Prop} (h : PT Shun Kid Still c Kc t) (hs : ∀ l, Kid l → Kid' l) (hn : ∀ i a, touchAt t i = some a → Kid' a.loc → Kid a.loc ∨ Kc i ∨ (Shun a.loc ∧ a.kind = .atomic)) : PT Shun Kid' Still c Kc t := by
  refine ⟨h.clean, fun i a ha hm => ?_, h.over⟩
  rcases h.known i a ha hm with k | k
  · exact .inl k
  · by_cases hk : Kid' a.loc
    · rcases hn i a ha hk with z | z | z
      · exact .inr ⟨fun _ => k.kid z, fun z' => absurd hk z', k.still, k.any, k.shun⟩
      · exact .inr ⟨fun _ => z, fun z' => absurd hk z', k.still, k.any, k.shun⟩
      · exact .inl z
    · exact .inr ⟨fun z => absurd z hk, fun _ => k.mine (fun y => hk (hs _ y)), k.still, k.any, k.shun⟩

/-- Operations that touch nothing, whoever makes them. -/
theorem PT.mute (h : PT Shun Kid Still c Kc t) (hK : ∀ i, Kc i → Kc' i) (hn : ∀ op ∈ u, op.act.touch? = none) : PT Shun Kid Still c Kc' (t ++ u) := by
  refine ⟨fun said => ?_, fun i a ha hm => ?_, over_app h.over fun op hop => .inr (.inr (hn op hop))⟩
  · rintro ⟨i, j, hij, ⟨a, b, ha, hb, hc⟩, n1, n2⟩
    obtain ⟨x, hx, hxa⟩ := touch_of ha
    obtain ⟨y, hy, hyb⟩ := touch_of hb
    rcases getElem?_append_cases hy with ⟨hj, hy'⟩ | ⟨_, hyu⟩
    · have hi : i < t.size := Nat.lt_trans hij hj
      have hx' : t[i]? = some x := by rw [← getElem?_append_old (u := u) hi]; exact hx
      exact h.clean said ⟨i, j, hij, ⟨a, b, by simp [Trace.act?, hx', hxa], by simp [Trace.act?, hy', hyb], hc⟩, fun e => n1 (hb_app u e), fun e => n2 (hb_app u e)⟩
    · rw [hn y hyu] at hyb; cases hyb
  · obtain ⟨x, hx, hxa⟩ := touch_of ha
    rcases getElem?_append_cases hx with ⟨_, hx'⟩ | ⟨_, hxu⟩
    · exact (h.known i a (by rw [touchAt_of hx']; exact hxa) hm).imp id fun k => k.app hK u
    · rw [hn x hxu] at hxa; cases hxa

/-- What a touch of goroutine 0's may be. -/
structure Ok0 (Shun Kid Still : Loc → Prop) (b : Touch) : Prop where
  kid : ¬ Kid b.loc
  still : Still b.loc → b.write = false
  shun : Shun b.loc → b.kind ≠ .plain

/-- Goroutine 0's own operations. -/
theorem PT.app0 (h : PT Shun Kid Still c Kc t) (hK : ∀ i, Kc i → Kc' i) (hu : ∀ op ∈ u, op.g = 0) (hs : ∀ op ∈ u, ∀ b, op.act.touch? = some b → Ok0 Shun Kid Still b) : PT Shun Kid Still c Kc' (t ++ u) := by
  refine ⟨fun said => noRace_append (h.clean said) hu fun i a ha op hop b hb hc => ?_, fun i a ha hm => ?_, over_app h.over fun op hop => .inl (hu op hop)⟩
  · have ok := hs op hop b hb
    rcases h.known i a ha hc.2.1 with ⟨hsh, hat⟩ | k
    · have hnp := ok.shun (hc.1 ▸ hsh)
      rcases hc.2.2.2 with e | e | ⟨_, e, _⟩
      · rw [hat] at e; cases e
      · exact absurd e hnp
      · rw [hat] at e; cases e
    · by_cases hS : Still a.loc
      · have hbw := ok.still (hc.1 ▸ hS)
        rcases hc.2.2.1 with e | e
        · exact (k.still hS e).1
        · rw [hbw] at e; cases e
      · exact k.mine (fun e => ok.kid (hc.1 ▸ e)) hS
  · obtain ⟨x, hx, hxa⟩ := touch_of ha
    rcases getElem?_append_cases hx with ⟨_, hx'⟩ | ⟨_, hxu⟩
    · exact (h.known i a (by rw [touchAt_of hx']; exact hxa) hm).imp id fun k => k.app hK u
    · have own := knows_own hx
      rw [hu x hxu] at own
      have ok := hs x hxu a hxa
      exact .inr ⟨fun e => absurd e ok.kid, fun _ _ => own, fun e w => (by rw [ok.still e] at w; cases w), .inl own, fun e w => absurd w (ok.shun e)⟩

/-- What a touch of the child's may be. -/
def OkC (Shun Kid Still : Loc → Prop) (b : Touch) : Prop := Kid b.loc ∨ (Still b.loc ∧ b.write = false) ∨ (Shun b.loc ∧ b.kind = .atomic)

/-- The child's own operations, while it has not released. -/
theorem PT.appC (A : Apart Shun Kid Still) (h : PT Shun Kid Still c (Knows t c) t) (hu : ∀ op ∈ u, op.g = c) (hs : ∀ op ∈ u, ∀ b, op.act.touch? = some b → OkC Shun Kid Still b) : PT Shun Kid Still c (Knows (t ++ u) c) (t ++ u) := by
  refine ⟨fun said => noRace_append (h.clean said) hu fun i a ha op hop b hb hc => ?_, fun i a ha hm => ?_, over_app h.over fun op hop => .inr (.inl (hu op hop))⟩
  · rcases hs op hop b hb with ok | ⟨ok, hbw⟩ | ⟨ok, hbk⟩
    · rcases h.known i a ha hc.2.1 with ⟨hsh, _⟩ | k
      · exact absurd hsh (A.kh _ (by rw [hc.1]; exact ok))
      · exact k.kid (by rw [hc.1]; exact ok)
    · rcases h.known i a ha hc.2.1 with ⟨hsh, _⟩ | k
      · exact absurd hsh (A.sh _ (by rw [hc.1]; exact ok))
      · rcases hc.2.2.1 with e | e
        · exact (k.still (by rw [hc.1]; exact ok) e).2
        · rw [hbw] at e; cases e
    · rcases h.known i a ha hc.2.1 with ⟨_, hat⟩ | k
      · rcases hc.2.2.2 with e | e | ⟨_, e, _⟩
        · rw [hat] at e; cases e
        · rw [hbk] at e; cases e
        · rw [hat] at e; cases e
      · rcases hc.2.2.2 with e | e | ⟨_, _, e⟩
        · exact k.shun (by rw [hc.1]; exact ok) e
        · rw [hbk] at e; cases e
        · rw [hbk] at e; cases e
  · obtain ⟨x, hx, hxa⟩ := touch_of ha
    rcases getElem?_append_cases hx with ⟨_, hx'⟩ | ⟨_, hxu⟩
    · exact (h.known i a (by rw [touchAt_of hx']; exact hxa) hm).imp id fun k => k.app (fun _ => Knows.app u) u
    · have own := knows_own hx
      rw [hu x hxu] at own
      rcases hs x hxu a hxa with ok | ⟨ok, haw⟩ | ⟨ok, hak⟩
      · exact .inr ⟨fun _ => own, fun e => absurd ok e, fun e => absurd e (A.ks _ ok), .inr own, fun e => absurd e (A.kh _ ok)⟩
      · exact .inr ⟨fun e => absurd ok (A.ks _ e), fun _ e => absurd ok e, fun _ w => (by rw [haw] at w; cases w), .inr own, fun e => absurd e (A.sh _ ok)⟩
      · exact .inl ⟨ok, hak⟩

/-- The child's atomic operations on shunned places, behind its release. -/
theorem PT.appA {r : Nat} (h : PT Shun Kid Still c (fun i => Before t i r) t) (hr : t.g? r = some c) (hu : ∀ op ∈ u, op.g = c) (hs : ∀ op ∈ u, ∀ b, op.act.touch? = some b → Shun b.loc ∧ b.kind = .atomic) :
    PT Shun Kid Still c (fun i => Before (t ++ u) i r) (t ++ u) := by
  obtain ⟨z, hz, hzc⟩ := Option.map_eq_some_iff.1 hr
  refine ⟨fun said => noRace_append (h.clean said) hu fun i a ha op hop b hb hc => ?_, fun i a ha hm => ?_, over_app h.over fun op hop => .inr (.inl (hu op hop))⟩
  · obtain ⟨ok, hbk⟩ := hs op hop b hb
    rcases h.known i a ha hc.2.1 with ⟨_, hat⟩ | k
    · rcases hc.2.2.2 with e | e | ⟨_, e, _⟩
      · rw [hat] at e; cases e
      · rw [hbk] at e; cases e
      · rw [hat] at e; cases e
    · rcases hc.2.2.2 with e | e | ⟨_, _, e⟩
      · exact ⟨r, z, hz, hzc, k.shun (by rw [hc.1]; exact ok) e⟩
      · rw [hbk] at e; cases e
      · rw [hbk] at e; cases e
  · obtain ⟨x, hx, hxa⟩ := touch_of ha
    rcases getElem?_append_cases hx with ⟨_, hx'⟩ | ⟨_, hxu⟩
    · exact (h.known i a (by rw [touchAt_of hx']; exact hxa) hm).imp id fun k => k.app (fun _ => Before.app u) u
    · exact .inl (hs x hxu a hxa)

/-- The child releases: all that it knew is before that. -/
theorem PT.release (h : PT Shun Kid Still c (Knows t c) t) {y : MemOp} (hy : y.g = c) (hn : y.act.touch? = none) : PT Shun Kid Still c (fun i => Before (t ++ #[y]) i t.size) (t ++ #[y]) := by
  refine h.mute (fun i hi => ?_) (fun op hop => by simp at hop; subst hop; exact hn)
  exact .inr (hi.hb_new (Nat.le_refl _) (by simp) hy)

/-- ████ THE GO STATEMENT. ████ 'Shun'': more places shunned from now on. -/
theorem PT.fork {Shun' : Loc → Prop} {B : Nat} (h : Past Shun B t) (hc0 : Deaf t c = 0) (hS : ∀ l, Shun l → Shun' l) (fh fc : FuncId) (ph : String) :
    PT Shun' Kid Still c (Knows (t ++ #[{ g := 0, fn := fh, pos := ph, act := .go c }, { g := c, fn := fc, pos := ph, act := .start }]) c) (t ++ #[{ g := 0, fn := fh, pos := ph, act := .go c }, { g := c, fn := fc, pos := ph, act := .start }]) := by
  generalize hu : (#[{ g := 0, fn := fh, pos := ph, act := .go c }, { g := c, fn := fc, pos := ph, act := .start }] : Trace) = u
  have hn : ∀ op ∈ u, op.act.touch? = none := by
    intro op hop
    subst hu
    simp only [List.mem_toArray, List.mem_cons, List.not_mem_nil, or_false] at hop
    rcases hop with rfl | rfl <;> rfl
  have e0 : (t ++ u)[t.size]? = some { g := 0, fn := fh, pos := ph, act := .go c } := by subst hu; simp
  have e1 : (t ++ u)[t.size + 1]? = some { g := c, fn := fc, pos := ph, act := .start } := by subst hu; simp
  have hd1 : (t ++ u).deaf c (t.size + 1) = 0 := by
    rw [deaf_succ e0, deaf_old (Nat.le_refl _)]
    exact hc0
  have edge : HappensBefore (t ++ u) t.size (t.size + 1) :=
    Relation.TransGen.single (.inr ⟨.spawn (by rw [act?_of e0]) (by rw [act?_of e1]) (by simp [Trace.g?, e1]), ⟨0, by simp [Trace.g?, e0], by rw [deaf_old (Nat.le_refl _)]; exact h.hears⟩, ⟨c, by simp [Trace.g?, e1], hd1⟩⟩)
  refine ⟨fun said => ?_, fun i a ha hm => ?_, over_app (fun i g hg h0 _ hcount => h.over i g hg h0 hcount) fun op hop => .inr (.inr (hn op hop))⟩
  · rintro ⟨i, j, hij, ⟨a, b, ha, hb, hc⟩, n1, n2⟩
    obtain ⟨x, hx, hxa⟩ := touch_of ha
    obtain ⟨y, hy, hyb⟩ := touch_of hb
    rcases getElem?_append_cases hy with ⟨hj, hy'⟩ | ⟨_, hyu⟩
    · have hi : i < t.size := Nat.lt_trans hij hj
      have hx' : t[i]? = some x := by rw [← getElem?_append_old (u := u) hi]; exact hx
      exact h.clean said ⟨i, j, hij, ⟨a, b, by simp [Trace.act?, hx', hxa], by simp [Trace.act?, hy', hyb], hc⟩, fun e => n1 (hb_app u e), fun e => n2 (hb_app u e)⟩
    · rw [hn y hyu] at hyb; cases hyb
  · obtain ⟨x, hx, hxa⟩ := touch_of ha
    rcases getElem?_append_cases hx with ⟨_, hx'⟩ | ⟨_, hxu⟩
    · rcases h.known i a (by rw [touchAt_of hx']; exact hxa) hm with k | ⟨k1, k2⟩
      · have kc : Knows (t ++ u) c i := ⟨t.size + 1, _, e1, rfl, .inr ((k.hb_new (Nat.le_refl _) e0 rfl).trans edge)⟩
        have k0 := k.app u
        exact .inr ⟨fun _ => kc, fun _ _ => k0, fun _ _ => ⟨k0, kc⟩, .inl k0, fun _ _ => kc⟩
      · exact .inl ⟨hS _ k1, k2⟩
    · rw [hn x hxu] at hxa; cases hxa

/-- ████ THE JOIN: goroutine 0 says 'acquire', hearing, behind the child's release: all is known to it. ████ -/
theorem PT.join {ad : Addr} {r : Nat} (h : PT Shun Kid Still c (fun i => Before t i r) t) (hr : RelBy ad t c r) (hd : Deaf t 0 = 0) (hnr : ∀ k, r < k → t.act? k ≠ some (.mark (.release ad))) (fn : FuncId) (pos : String) (B : Nat)
    (hB : ∀ op ∈ t ++ #[{ g := 0, fn := fn, pos := pos, act := .mark (.acquire ad) }], op.act.low B) : Past Shun B (t ++ #[{ g := 0, fn := fn, pos := pos, act := .mark (.acquire ad) }]) := by
  generalize hu : (#[{ g := 0, fn := fn, pos := pos, act := .mark (.acquire ad) }] : Trace) = u at hB ⊢
  have hn : ∀ op ∈ u, op.act.touch? = none := by
    intro op hop
    subst hu
    simp at hop
    subst hop; rfl
  have e0 : (t ++ u)[t.size]? = some { g := 0, fn := fn, pos := pos, act := .mark (.acquire ad) } := by subst hu; simp
  have hrl : r < t.size := lt_of_act? hr.act
  have hh0 : (t ++ u).heard t.size := ⟨0, by simp [Trace.g?, e0], by rw [deaf_old (Nat.le_refl _)]; exact hd⟩
  have edge : HappensBefore (t ++ u) r t.size := by
    refine Relation.TransGen.single (.inr ⟨.marked hrl (.inr (by rw [act?_old hrl]; exact hr.act)) (by rw [act?_of e0]) (fun k h1 h2 => ?_), (heard_old hrl).2 hr.heard, hh0⟩)
    rw [act?_old h2]; exact hnr k h1
  have kn : ∀ i, Before t i r → Knows (t ++ u) 0 i := fun i hi => ⟨t.size, _, e0, rfl, .inr ((hi.app u).hb edge)⟩
  have h' := h.mute (u := u) (Kc' := fun i => Knows (t ++ u) 0 i) kn hn
  refine ⟨h'.clean, fun i a ha hm => ?_, fun i g hg h0 hcount => ?_, ?_, hB⟩
  · rcases h'.known i a ha hm with k | k
    · exact .inr k
    · exact .inl (k.any.elim id id)
  · by_cases hgc : g = c
    · subst hgc
      obtain ⟨z, hz, hzg⟩ := Option.map_eq_some_iff.1 hg
      rcases getElem?_append_cases hz with ⟨hi, hz'⟩ | ⟨_, hzu⟩
      · have hgi : t.g? i = some g := by rw [← g?_old (u := u) hi]; exact hg
        have hir : i ≤ r := Nat.le_of_not_lt fun hlt => hr.after i hlt hgi ((counts_old hi).1 hcount)
        refine ⟨t.size, by simp [Trace.g?, e0], ?_⟩
        rcases Nat.lt_or_ge i r with hlt | hge
        · exact Relation.TransGen.trans (.single (.inl ⟨hlt, g, hg, by rw [g?_old hrl]; exact hr.g⟩)) edge
        · obtain rfl : i = r := by omega
          exact edge
      · obtain ⟨x, hx, _⟩ := hcount
        obtain ⟨y, hy, hya⟩ := touch_of hx
        rw [hz] at hy; cases hy
        rw [hn z hzu] at hya; cases hya
    · exact h'.over i g hg h0 hgc hcount
  · show Deaf (t ++ u) 0 = 0
    subst hu
    rw [Deaf_push]
    exact hd
end
end Go.Proofs.YtgcaionclkbehaaGreatDoor
