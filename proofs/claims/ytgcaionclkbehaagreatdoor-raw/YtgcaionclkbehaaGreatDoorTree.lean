import Derived.Conc.Beside
set_option linter.all false
namespace Go.Proofs.YtgcaionclkbehaaGreatDoor
section
open Go.Conc
open Go.ConcN (RelBy)
structure KnownBy (Shun Kid Still : Loc → Prop) (t : Trace) (Kc : Nat → Prop) (i : Nat) (a : Touch) : Prop where
 kid : Kid a.loc → Kc i
 mine : ¬ Kid a.loc → ¬ Still a.loc → Knows t 0 i
 still : Still a.loc → a.write = true → Knows t 0 i ∧ Kc i
 any : Knows t 0 i ∨ Kc i
 shun : Shun a.loc → a.kind = .plain → Kc i
structure PT (Shun Kid Still : Loc → Prop) (c : Nat) (Kc : Nat → Prop) (t : Trace) : Prop where
 clean : ∀ said, ¬ Race said t
 known : ∀ i a,touchAt t i = some a → a.loc.isMemory = true → (Shun a.loc ∧ a.kind = .atomic) ∨ KnownBy Shun Kid Still t Kc i a
 over : ∀ i g,t.g? i = some g → g ≠ 0 → g ≠ c → t.counts i → ∃ j,t.g? j = some 0 ∧ HappensBefore t i j
structure Apart (Shun Kid Still : Loc → Prop) : Prop where
 ks : ∀ l,Kid l → ¬ Still l
 kh : ∀ l,Kid l → ¬ Shun l
 sh : ∀ l,Still l → ¬ Shun l
section
variable {Shun Kid Still : Loc → Prop} {c : Nat} {Kc Kc' : Nat → Prop} {t u : Trace}
theorem KnownBy.app {i : Nat} {a : Touch} (h : KnownBy Shun Kid Still t Kc i a) (hK : ∀ i,Kc i → Kc' i) (u : Trace) : KnownBy Shun Kid Still (t ++ u) Kc' i a :=
 ⟨fun x => hK i (h.kid x),fun x y => (h.mine x y).app u,fun x y => ⟨(h.still x y).1.app u,hK i (h.still x y).2⟩,h.any.imp (·.app u) (hK i),fun x y => hK i (h.shun x y)⟩
theorem over_app (h : ∀ i g,t.g? i = some g → g ≠ 0 → g ≠ c → t.counts i → ∃ j,t.g? j = some 0 ∧ HappensBefore t i j) (hu : ∀ op ∈ u,op.g = 0 ∨ op.g = c ∨ op.act.touch? = none) :
  ∀ i g,(t ++ u).g? i = some g → g ≠ 0 → g ≠ c → (t ++ u).counts i → ∃ j,(t ++ u).g? j = some 0 ∧ HappensBefore (t ++ u) i j := by
 intro i g hg h0 hc hcount
 obtain ⟨x,hx,hm,hk⟩ := hcount
 obtain ⟨op,hop,hox⟩ := touch_of hx
 rcases getElem?_append_cases hop with ⟨hi,_⟩ | ⟨_,hopu⟩
 ·
  obtain ⟨j,hj,hb⟩ := h i g (by rw [← g?_old (u := u) hi]; exact hg) h0 hc ((counts_old hi).1 ⟨x,hx,hm,hk⟩)
  have hjl : j < t.size := by
   obtain ⟨z,hz,_⟩ := Option.map_eq_some_iff.1 hj
   exact lt_size_of_getElem? hz
  exact ⟨j,by rw [g?_old hjl]; exact hj,hb_app u hb⟩
 ·
  have hgo : op.g = g := by simpa [Trace.g?,hop] using hg
  rcases hu op hopu with e | e | e
  ·
   exact absurd (hgo.symm.trans e) h0
  ·
   exact absurd (hgo.symm.trans e) hc
  ·
   rw [e] at hox; cases hox
theorem PT.mono {Kid' : Loc → Prop} (h : PT Shun Kid Still c Kc t) (hs : ∀ l,Kid l → Kid' l) (hn : ∀ i a,touchAt t i = some a → Kid' a.loc → Kid a.loc ∨ Kc i ∨ (Shun a.loc ∧ a.kind = .atomic)) : PT Shun Kid' Still c Kc t := by
 refine ⟨h.clean,fun i a ha hm => ?_,h.over⟩
 rcases h.known i a ha hm with k | k
 ·
  exact .inl k
 ·
  by_cases hk : Kid' a.loc
  ·
   rcases hn i a ha hk with z | z | z
   ·
    exact .inr ⟨fun _ => k.kid z,fun z' => absurd hk z',k.still,k.any,k.shun⟩
   ·
    exact .inr ⟨fun _ => z,fun z' => absurd hk z',k.still,k.any,k.shun⟩
   ·
    exact .inl z
  ·
   exact .inr ⟨fun z => absurd z hk,fun _ => k.mine (fun y => hk (hs _ y)),k.still,k.any,k.shun⟩
theorem PT.mute (h : PT Shun Kid Still c Kc t) (hK : ∀ i,Kc i → Kc' i) (hn : ∀ op ∈ u,op.act.touch? = none) : PT Shun Kid Still c Kc' (t ++ u) := by
 refine ⟨fun said => ?_,fun i a ha hm => ?_,over_app h.over fun op hop => .inr (.inr (hn op hop))⟩
 ·
  rintro ⟨i,j,hij,⟨a,b,ha,hb,hc⟩,n1,n2⟩
  obtain ⟨x,hx,hxa⟩ := touch_of ha
  obtain ⟨y,hy,hyb⟩ := touch_of hb
  rcases getElem?_append_cases hy with ⟨hj,hy'⟩ | ⟨_,hyu⟩
  ·
   have hi : i < t.size := Nat.lt_trans hij hj
   have hx' : t[i]? = some x := by rw [← getElem?_append_old (u := u) hi]; exact hx
   exact h.clean said ⟨i,j,hij,⟨a,b,by simp [Trace.act?,hx',hxa],by simp [Trace.act?,hy',hyb],hc⟩,fun e => n1 (hb_app u e),fun e => n2 (hb_app u e)⟩
  ·
   rw [hn y hyu] at hyb; cases hyb
 ·
  obtain ⟨x,hx,hxa⟩ := touch_of ha
  rcases getElem?_append_cases hx with ⟨_,hx'⟩ | ⟨_,hxu⟩
  ·
   exact (h.known i a (by rw [touchAt_of hx']; exact hxa) hm).imp id fun k => k.app hK u
  ·
   rw [hn x hxu] at hxa; cases hxa
structure Ok0 (Shun Kid Still : Loc → Prop) (b : Touch) : Prop where
 kid : ¬ Kid b.loc
 still : Still b.loc → b.write = false
 shun : Shun b.loc → b.kind ≠ .plain
theorem PT.app0 (h : PT Shun Kid Still c Kc t) (hK : ∀ i,Kc i → Kc' i) (hu : ∀ op ∈ u,op.g = 0) (hs : ∀ op ∈ u, ∀ b,op.act.touch? = some b → Ok0 Shun Kid Still b) : PT Shun Kid Still c Kc' (t ++ u) := by
 refine ⟨fun said => noRace_append (h.clean said) hu fun i a ha op hop b hb hc => ?_,fun i a ha hm => ?_,over_app h.over fun op hop => .inl (hu op hop)⟩
 ·
  have ok := hs op hop b hb
  rcases h.known i a ha hc.2.1 with ⟨hsh,hat⟩ | k
  ·
   have hnp := ok.shun (hc.1 ▸ hsh)
   rcases hc.2.2.2 with e | e | ⟨_,e,_⟩
   ·
    rw [hat] at e; cases e
   ·
    exact absurd e hnp
   ·
    rw [hat] at e; cases e
  ·
   by_cases hS : Still a.loc
   ·
    have hbw := ok.still (hc.1 ▸ hS)
    rcases hc.2.2.1 with e | e
    ·
     exact (k.still hS e).1
    ·
     rw [hbw] at e; cases e
   ·
    exact k.mine (fun e => ok.kid (hc.1 ▸ e)) hS
 ·
  obtain ⟨x,hx,hxa⟩ := touch_of ha
  rcases getElem?_append_cases hx with ⟨_,hx'⟩ | ⟨_,hxu⟩
  ·
   exact (h.known i a (by rw [touchAt_of hx']; exact hxa) hm).imp id fun k => k.app hK u
  ·
   have own := knows_own hx
   rw [hu x hxu] at own
   have ok := hs x hxu a hxa
   exact .inr ⟨fun e => absurd e ok.kid,fun _ _ => own,fun e w => (by rw [ok.still e] at w; cases w), .inl own,fun e w => absurd w (ok.shun e)⟩
def OkC (Shun Kid Still : Loc → Prop) (b : Touch) : Prop := Kid b.loc ∨ (Still b.loc ∧ b.write = false) ∨ (Shun b.loc ∧ b.kind = .atomic)
theorem PT.appC (A : Apart Shun Kid Still) (h : PT Shun Kid Still c (Knows t c) t) (hu : ∀ op ∈ u,op.g = c) (hs : ∀ op ∈ u, ∀ b,op.act.touch? = some b → OkC Shun Kid Still b) : PT Shun Kid Still c (Knows (t ++ u) c) (t ++ u) := by
 refine ⟨fun said => noRace_append (h.clean said) hu fun i a ha op hop b hb hc => ?_,fun i a ha hm => ?_,over_app h.over fun op hop => .inr (.inl (hu op hop))⟩
 ·
  rcases hs op hop b hb with ok | ⟨ok,hbw⟩ | ⟨ok,hbk⟩
  ·
   rcases h.known i a ha hc.2.1 with ⟨hsh,_⟩ | k
   ·
    exact absurd hsh (A.kh _ (by rw [hc.1]; exact ok))
   ·
    exact k.kid (by rw [hc.1]; exact ok)
  ·
   rcases h.known i a ha hc.2.1 with ⟨hsh,_⟩ | k
   ·
    exact absurd hsh (A.sh _ (by rw [hc.1]; exact ok))
   ·
    rcases hc.2.2.1 with e | e
    ·
     exact (k.still (by rw [hc.1]; exact ok) e).2
    ·
     rw [hbw] at e; cases e
  ·
   rcases h.known i a ha hc.2.1 with ⟨_,hat⟩ | k
   ·
    rcases hc.2.2.2 with e | e | ⟨_,e,_⟩
    ·
     rw [hat] at e; cases e
    ·
     rw [hbk] at e; cases e
    ·
     rw [hat] at e; cases e
   ·
    rcases hc.2.2.2 with e | e | ⟨_,_,e⟩
    ·
     exact k.shun (by rw [hc.1]; exact ok) e
    iterate 2
     ·
      rw [hbk] at e; cases e
 ·
  obtain ⟨x,hx,hxa⟩ := touch_of ha
  rcases getElem?_append_cases hx with ⟨_,hx'⟩ | ⟨_,hxu⟩
  ·
   exact (h.known i a (by rw [touchAt_of hx']; exact hxa) hm).imp id fun k => k.app (fun _ => Knows.app u) u
  ·
   have own := knows_own hx
   rw [hu x hxu] at own
   rcases hs x hxu a hxa with ok | ⟨ok,haw⟩ | ⟨ok,hak⟩
   ·
    exact .inr ⟨fun _ => own,fun e => absurd ok e,fun e => absurd e (A.ks _ ok), .inr own,fun e => absurd e (A.kh _ ok)⟩
   ·
    exact .inr ⟨fun e => absurd ok (A.ks _ e),fun _ e => absurd ok e,fun _ w => (by rw [haw] at w; cases w), .inr own,fun e => absurd e (A.sh _ ok)⟩
   ·
    exact .inl ⟨ok,hak⟩
theorem PT.appA {r : Nat} (h : PT Shun Kid Still c (fun i => Before t i r) t) (hr : t.g? r = some c) (hu : ∀ op ∈ u,op.g = c) (hs : ∀ op ∈ u, ∀ b,op.act.touch? = some b → Shun b.loc ∧ b.kind = .atomic) :
  PT Shun Kid Still c (fun i => Before (t ++ u) i r) (t ++ u) := by
 obtain ⟨z,hz,hzc⟩ := Option.map_eq_some_iff.1 hr
 refine ⟨fun said => noRace_append (h.clean said) hu fun i a ha op hop b hb hc => ?_,fun i a ha hm => ?_,over_app h.over fun op hop => .inr (.inl (hu op hop))⟩
 ·
  obtain ⟨ok,hbk⟩ := hs op hop b hb
  rcases h.known i a ha hc.2.1 with ⟨_,hat⟩ | k
  ·
   rcases hc.2.2.2 with e | e | ⟨_,e,_⟩
   ·
    rw [hat] at e; cases e
   ·
    rw [hbk] at e; cases e
   ·
    rw [hat] at e; cases e
  ·
   rcases hc.2.2.2 with e | e | ⟨_,_,e⟩
   ·
    exact ⟨r,z,hz,hzc,k.shun (by rw [hc.1]; exact ok) e⟩
   iterate 2
    ·
     rw [hbk] at e; cases e
 ·
  obtain ⟨x,hx,hxa⟩ := touch_of ha
  rcases getElem?_append_cases hx with ⟨_,hx'⟩ | ⟨_,hxu⟩
  ·
   exact (h.known i a (by rw [touchAt_of hx']; exact hxa) hm).imp id fun k => k.app (fun _ => Before.app u) u
  ·
   exact .inl (hs x hxu a hxa)
theorem PT.release (h : PT Shun Kid Still c (Knows t c) t) {y : MemOp} (hy : y.g = c) (hn : y.act.touch? = none) : PT Shun Kid Still c (fun i => Before (t ++ #[y]) i t.size) (t ++ #[y]) := by
 refine h.mute (fun i hi => ?_) (fun op hop => by simp at hop; subst hop; exact hn)
 exact .inr (hi.hb_new (Nat.le_refl _) (by simp) hy)
theorem PT.fork {Shun' : Loc → Prop} {B : Nat} (h : Past Shun B t) (hc0 : Deaf t c = 0) (hS : ∀ l,Shun l → Shun' l) (fh fc : FuncId) (ph : String) :
  PT Shun' Kid Still c (Knows (t ++ #[{ g := 0,fn := fh,pos := ph,act := .go c }, { g := c,fn := fc,pos := ph,act := .start }]) c) (t ++ #[{ g := 0,fn := fh,pos := ph,act := .go c }, { g := c,fn := fc,pos := ph,act := .start }]) := by
 generalize hu : (#[{ g := 0,fn := fh,pos := ph,act := .go c }, { g := c,fn := fc,pos := ph,act := .start }] : Trace) = u
 have hn : ∀ op ∈ u,op.act.touch? = none := by
  intro op hop
  subst hu
  simp only [List.mem_toArray,List.mem_cons,List.not_mem_nil,or_false] at hop
  rcases hop with rfl | rfl <;> rfl
 have e0 : (t ++ u)[t.size]? = some { g := 0,fn := fh,pos := ph,act := .go c } := by subst hu; simp
 have e1 : (t ++ u)[t.size + 1]? = some { g := c,fn := fc,pos := ph,act := .start } := by subst hu; simp
 have hd1 : (t ++ u).deaf c (t.size + 1) = 0 := by
  rw [deaf_succ e0,deaf_old (Nat.le_refl _)]
  exact hc0
 have edge : HappensBefore (t ++ u) t.size (t.size + 1) :=
  Relation.TransGen.single (.inr ⟨.spawn (by rw [act?_of e0]) (by rw [act?_of e1]) (by simp [Trace.g?,e1]),⟨0,by simp [Trace.g?,e0],by rw [deaf_old (Nat.le_refl _)]; exact h.hears⟩,⟨c,by simp [Trace.g?,e1],hd1⟩⟩)
 refine ⟨fun said => ?_,fun i a ha hm => ?_,over_app (fun i g hg h0 _ hcount => h.over i g hg h0 hcount) fun op hop => .inr (.inr (hn op hop))⟩
 ·
  rintro ⟨i,j,hij,⟨a,b,ha,hb,hc⟩,n1,n2⟩
  obtain ⟨x,hx,hxa⟩ := touch_of ha
  obtain ⟨y,hy,hyb⟩ := touch_of hb
  rcases getElem?_append_cases hy with ⟨hj,hy'⟩ | ⟨_,hyu⟩
  ·
   have hi : i < t.size := Nat.lt_trans hij hj
   have hx' : t[i]? = some x := by rw [← getElem?_append_old (u := u) hi]; exact hx
   exact h.clean said ⟨i,j,hij,⟨a,b,by simp [Trace.act?,hx',hxa],by simp [Trace.act?,hy',hyb],hc⟩,fun e => n1 (hb_app u e),fun e => n2 (hb_app u e)⟩
  ·
   rw [hn y hyu] at hyb; cases hyb
 ·
  obtain ⟨x,hx,hxa⟩ := touch_of ha
  rcases getElem?_append_cases hx with ⟨_,hx'⟩ | ⟨_,hxu⟩
  ·
   rcases h.known i a (by rw [touchAt_of hx']; exact hxa) hm with k | ⟨k1,k2⟩
   ·
    have kc : Knows (t ++ u) c i := ⟨t.size + 1,_,e1,rfl, .inr ((k.hb_new (Nat.le_refl _) e0 rfl).trans edge)⟩
    have k0 := k.app u
    exact .inr ⟨fun _ => kc,fun _ _ => k0,fun _ _ => ⟨k0,kc⟩, .inl k0,fun _ _ => kc⟩
   ·
    exact .inl ⟨hS _ k1,k2⟩
  ·
   rw [hn x hxu] at hxa; cases hxa
theorem PT.join {ad : Addr} {r : Nat} (h : PT Shun Kid Still c (fun i => Before t i r) t) (hr : RelBy ad t c r) (hd : Deaf t 0 = 0) (hnr : ∀ k,r < k → t.act? k ≠ some (.mark (.release ad))) (fn : FuncId) (pos : String) (B : Nat)
  (hB : ∀ op ∈ t ++ #[{ g := 0,fn := fn,pos := pos,act := .mark (.acquire ad) }],op.act.low B) : Past Shun B (t ++ #[{ g := 0,fn := fn,pos := pos,act := .mark (.acquire ad) }]) := by
 generalize hu : (#[{ g := 0,fn := fn,pos := pos,act := .mark (.acquire ad) }] : Trace) = u at hB ⊢
 have hn : ∀ op ∈ u,op.act.touch? = none := by
  intro op hop
  subst hu
  simp at hop
  subst hop; rfl
 have e0 : (t ++ u)[t.size]? = some { g := 0,fn := fn,pos := pos,act := .mark (.acquire ad) } := by subst hu; simp
 have hrl : r < t.size := lt_of_act? hr.act
 have hh0 : (t ++ u).heard t.size := ⟨0,by simp [Trace.g?,e0],by rw [deaf_old (Nat.le_refl _)]; exact hd⟩
 have edge : HappensBefore (t ++ u) r t.size := by
  refine Relation.TransGen.single (.inr ⟨.marked hrl (.inr (by rw [act?_old hrl]; exact hr.act)) (by rw [act?_of e0]) (fun k h1 h2 => ?_),(heard_old hrl).2 hr.heard,hh0⟩)
  rw [act?_old h2]; exact hnr k h1
 have kn : ∀ i,Before t i r → Knows (t ++ u) 0 i := fun i hi => ⟨t.size,_,e0,rfl, .inr ((hi.app u).hb edge)⟩
 have h' := h.mute (u := u) (Kc' := fun i => Knows (t ++ u) 0 i) kn hn
 refine ⟨h'.clean,fun i a ha hm => ?_,fun i g hg h0 hcount => ?_,?_,hB⟩
 ·
  rcases h'.known i a ha hm with k | k
  ·
   exact .inr k
  ·
   exact .inl (k.any.elim id id)
 ·
  by_cases hgc : g = c
  ·
   subst hgc
   obtain ⟨z,hz,hzg⟩ := Option.map_eq_some_iff.1 hg
   rcases getElem?_append_cases hz with ⟨hi,hz'⟩ | ⟨_,hzu⟩
   ·
    have hgi : t.g? i = some g := by rw [← g?_old (u := u) hi]; exact hg
    have hir : i ≤ r := Nat.le_of_not_lt fun hlt => hr.after i hlt hgi ((counts_old hi).1 hcount)
    refine ⟨t.size,by simp [Trace.g?,e0],?_⟩
    rcases Nat.lt_or_ge i r with hlt | hge
    ·
     exact Relation.TransGen.trans (.single (.inl ⟨hlt,g,hg,by rw [g?_old hrl]; exact hr.g⟩)) edge
    ·
     obtain rfl : i = r := by omega
     exact edge
   ·
    obtain ⟨x,hx,_⟩ := hcount
    obtain ⟨y,hy,hya⟩ := touch_of hx
    rw [hz] at hy; cases hy
    rw [hn z hzu] at hya; cases hya
  ·
   exact h'.over i g hg h0 hgc hcount
 ·
  show Deaf (t ++ u) 0 = 0
  subst hu
  rw [Deaf_push]
  exact hd
end
end
section
open Go.Conc
def branch (S' S : List World → Prop) : Prop := S [] ∧ ∃ w,S' = fun p => S (w :: p)
structure Tr where
 S : List World → Prop
 acc : Acc branch S
def Sub (τ' τ : Tr) : Prop := branch τ'.S τ.S
theorem sub_wf : WellFounded Sub := ⟨fun τ => InvImage.accessible (f := Tr.S) τ.acc⟩
def Tr.leaf : Tr := ⟨fun _ => False,Acc.intro _ fun _ h => h.1.elim⟩
def nodeS (f : World → Tr) : List World → Prop
 | [] => True
 | w :: p => (f w).S p
def Tr.node (f : World → Tr) : Tr := ⟨nodeS f,Acc.intro _ fun S' h => by
 obtain ⟨_,w,rfl⟩ := h
 exact (f w).acc⟩
theorem sub_mk (f : World → Tr) (w : World) : Sub (f w) (.node f) := ⟨trivial,w,rfl⟩
def Tr.ofNat : Nat → Tr
 | 0 => .leaf
 | n + 1 => .node fun _ => Tr.ofNat n
theorem sub_ofNat (n : Nat) (w : World) : Sub (.ofNat n) (.ofNat (n + 1)) := sub_mk (fun _ => .ofNat n) w
def Rounds (P : Program) (main : Bool) (R : World → World → Prop) (D : World → World → Array Event → Prop) (Stop : Goroutine → World → Prop) (X : Tr → Goroutine → World → Prop) (τ : Tr) (g : Goroutine) (w : World) : Prop :=
 ∀ w₁,R w w₁ → Stop g w₁ ∨ (g.status = .running ∧ ∃ g' w' es τ',stepG P main g w₁ = .go g' w' es ∧ D w₁ w' es ∧ Sub τ' τ ∧ X τ' g' w')
def TGoes (P : Program) (main : Bool) (R : World → World → Prop) (D : World → World → Array Event → Prop) (Stop : Goroutine → World → Prop) (τ : Tr) (g : Goroutine) (w : World) : Prop :=
 ∃ X : Tr → Goroutine → World → Prop,X τ g w ∧ ∀ τ g w,X τ g w → Rounds P main R D Stop X τ g w
def Way (P : Program) (main : Bool) (R : World → World → Prop) (D : World → World → Array Event → Prop) (Stop : Goroutine → World → Prop) (g : Goroutine) (w : World) : Prop := ∃ τ,TGoes P main R D Stop τ g w
section
variable {P : Program} {main : Bool} {R R' : World → World → Prop} {D D' : World → World → Array Event → Prop} {Stop Stop' : Goroutine → World → Prop}
theorem TGoes.now {τ : Tr} {g : Goroutine} {w w₁ : World} (h : TGoes P main R D Stop τ g w) (hr : R w w₁) :
  Stop g w₁ ∨ (g.status = .running ∧ ∃ g' w' es τ',stepG P main g w₁ = .go g' w' es ∧ D w₁ w' es ∧ Sub τ' τ ∧ TGoes P main R D Stop τ' g' w') := by
 obtain ⟨X,hx,hX⟩ := h
 rcases hX _ _ _ hx w₁ hr with x | ⟨hs,g',w',es, τ',e,d,s,n⟩
 ·
  exact .inl x
 ·
  exact .inr ⟨hs,g',w',es, τ',e,d,s,X,n,hX⟩
theorem TGoes.of_now {τ : Tr} {g : Goroutine} {w : World} (h : Rounds P main R D Stop (TGoes P main R D Stop) τ g w) : TGoes P main R D Stop τ g w := by
 refine ⟨fun τ' g' w' => TGoes P main R D Stop τ' g' w' ∨ (τ' = τ ∧ g' = g ∧ w' = w), .inr ⟨rfl,rfl,rfl⟩,fun τ' g' w' hx w₁ hr => ?_⟩
 rcases hx with hx | ⟨rfl,rfl,rfl⟩
 ·
  rcases hx.now hr with x | ⟨hs,g2,w2,es, τ2,e,d,s,n⟩
  ·
   exact .inl x
  ·
   exact .inr ⟨hs,g2,w2,es, τ2,e,d,s, .inl n⟩
 ·
  rcases h w₁ hr with x | ⟨hs,g2,w2,es, τ2,e,d,s,n⟩
  ·
   exact .inl x
  ·
   exact .inr ⟨hs,g2,w2,es, τ2,e,d,s, .inl n⟩
theorem TGoes.leaf {τ : Tr} {g : Goroutine} {w : World} (h : ∀ w₁,R w w₁ → Stop g w₁) : TGoes P main R D Stop τ g w := .of_now fun w₁ hr => .inl (h w₁ hr)
theorem TGoes.rely (trans : ∀ a b c,R a b → R b c → R a c) {τ : Tr} {g : Goroutine} {w w₁ : World} (h : TGoes P main R D Stop τ g w) (hr : R w w₁) : TGoes P main R D Stop τ g w₁ :=
 .of_now fun w₂ h₂ => h.now (trans _ _ _ hr h₂)
theorem TGoes.running (refl : ∀ w,R w w) (hS : ∀ g w,Stop g w → g.status = .running) {τ : Tr} {g : Goroutine} {w : World} (h : TGoes P main R D Stop τ g w) : g.status = .running := by
 rcases h.now (refl w) with x | ⟨x,_⟩
 ·
  exact hS _ _ x
 ·
  exact x
theorem TGoes.weaken (hR : ∀ a b,R' a b → R a b) (hD : ∀ w w' es,D w w' es → D' w w' es) (hS : ∀ g w,Stop g w → Stop' g w) {τ : Tr} {g : Goroutine} {w : World} (h : TGoes P main R D Stop τ g w) : TGoes P main R' D' Stop' τ g w := by
 obtain ⟨X,hx,hX⟩ := h
 refine ⟨X,hx,fun τ g w hx w₁ hr => ?_⟩
 rcases hX _ _ _ hx w₁ (hR _ _ hr) with x | ⟨hs,g',w',es, τ',e,d,s,n⟩
 ·
  exact .inl (hS _ _ x)
 ·
  exact .inr ⟨hs,g',w',es, τ',e,hD _ _ _ d,s,n⟩
theorem Way.weaken (hR : ∀ a b,R' a b → R a b) (hD : ∀ w w' es,D w w' es → D' w w' es) (hS : ∀ g w,Stop g w → Stop' g w) {g : Goroutine} {w : World} (h : Way P main R D Stop g w) : Way P main R' D' Stop' g w :=
 let ⟨τ,x⟩ := h; ⟨τ,x.weaken hR hD hS⟩
theorem Way.rely (trans : ∀ a b c,R a b → R b c → R a c) {g : Goroutine} {w w₁ : World} (h : Way P main R D Stop g w) (hr : R w w₁) : Way P main R D Stop g w₁ := let ⟨τ,x⟩ := h; ⟨τ,x.rely trans hr⟩
theorem Way.stop {g : Goroutine} {w : World} (h : ∀ w₁,R w w₁ → Stop g w₁) : Way P main R D Stop g w := ⟨.leaf, .leaf h⟩
def Head (P : Program) (main : Bool) (R : World → World → Prop) (D : World → World → Array Event → Prop) (Stop : Goroutine → World → Prop) (g : Goroutine) (w : World) : Prop :=
 Stop g w ∨ (g.status = .running ∧ ∃ g' w' es,stepG P main g w = .go g' w' es ∧ D w w' es ∧ Way P main R D Stop g' w')
theorem Way.head {g : Goroutine} {w w₁ : World} (h : Way P main R D Stop g w) (hr : R w w₁) : Head P main R D Stop g w₁ := by
 obtain ⟨τ,h⟩ := h
 rcases h.now hr with x | ⟨hs,g',w',es, τ',e,d,_,n⟩
 ·
  exact .inl x
 ·
  exact .inr ⟨hs,g',w',es,e,d, τ',n⟩
theorem Way.of_head {g : Goroutine} {w : World} (h : ∀ w₁,R w w₁ → Head P main R D Stop g w₁) : Way P main R D Stop g w := by
 have hc : ∀ w₁ : World, ∃ τ : Tr,R w w₁ → Stop g w₁ ∨ (g.status = .running ∧ ∃ g' w' es,stepG P main g w₁ = .go g' w' es ∧ D w₁ w' es ∧ TGoes P main R D Stop τ g' w') := by
  intro w₁
  by_cases hr : R w w₁
  ·
   rcases h w₁ hr with x | ⟨hs,g',w',es,e,d, τ,n⟩
   ·
    exact ⟨.leaf,fun _ => .inl x⟩
   ·
    exact ⟨τ,fun _ => .inr ⟨hs,g',w',es,e,d,n⟩⟩
  ·
   exact ⟨.leaf,fun z => absurd z hr⟩
 obtain ⟨f,hf⟩ := Classical.axiomOfChoice hc
 refine ⟨.node f, .of_now fun w₁ hr => ?_⟩
 rcases hf w₁ hr with x | ⟨hs,g',w',es,e,d,n⟩
 ·
  exact .inl x
 ·
  exact .inr ⟨hs,g',w',es,f w₁,e,d,sub_mk f w₁,n⟩
theorem Way.step {g : Goroutine} {w : World} (hs : g.status = .running) (h : ∀ w₁,R w w₁ → ∃ g' w' es,stepG P main g w₁ = .go g' w' es ∧ D w₁ w' es ∧ Way P main R D Stop g' w') : Way P main R D Stop g w :=
 Way.of_head fun w₁ hr => .inr ⟨hs,h w₁ hr⟩
theorem Way.bind (refl : ∀ w,R w w) {g : Goroutine} {w : World} (h : Way P main R D (fun g w => Way P main R D Stop g w) g w) : Way P main R D Stop g w := by
 obtain ⟨τ,h⟩ := h
 induction τ using sub_wf.induction generalizing g w with
 | _ τ ih =>
  refine Way.of_head fun w₁ h₁ => ?_
  rcases h.now h₁ with x | ⟨hs,g',w',es, τ',e,d,s,n⟩
  ·
   exact x.head (refl w₁)
  ·
   exact .inr ⟨hs,g',w',es,e,d,ih τ' s n⟩
theorem zc5 {n : Nat} {g : Goroutine} {w : World} (h : Goes P main R D Stop n g w) : Way P main R D Stop g w := by
 induction n generalizing g w with
 | zero => exact ⟨.leaf, .leaf h⟩
 | succ n ih =>
  rcases h with h | ⟨hs,h⟩
  ·
   exact ⟨.leaf, .leaf h⟩
  ·
   refine Way.step hs fun w₁ h₁ => ?_
   have hw := h w₁ h₁
   cases e : stepG P main g w₁ with
   | go g' w' es => rw [e,goes_go] at hw; exact ⟨g',w',es,rfl,hw.1,ih hw.2⟩
   | _ => rw [e] at hw; exact hw.elim
end
end
end Go.Proofs.YtgcaionclkbehaaGreatDoor
