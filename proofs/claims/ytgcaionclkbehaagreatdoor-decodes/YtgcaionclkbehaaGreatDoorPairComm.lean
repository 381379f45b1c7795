/-
  Beside YtgcaionclkbehaaGreatDoorPairMoves: the communications of the pair: goroutine 0 comes to its select; the child comes to its send. It knows no program.
-/
import Derived.Test.YtgcaionclkbehaaGreatDoorPairMoves
set_option linter.all false
set_option linter.unusedSectionVars false
namespace Go.Proofs.YtgcaionclkbehaaGreatDoor
open Go.Conc
open Go.ConcN (sumTo upd sumTo_upd upd_ne upd_same)

variable {K : Cfg} [Go.ConcX.Payload] [Go.ConcR.Payload] [Go.ConcX.Shy K.Wg K.C] {AnchW : Goroutine → World → Prop} {Post : Value → World → Prop}
variable {L : Nat} {S S' : Nat → Prop} {c : Nat} {x x' : Ch} {y y' : Ma} {τc τm τc' τm' : Tr} {gs gs' : Array Goroutine} {a a' b b' : Goroutine} {w w' : World} {t u : Trace} {q : Nat → Nat} {sl : Option (Nat × Nat)} {es : Array Event}

/-- Behind a communication. -/
theorem J.comm (F : K.Fit) (h : J K L AnchW Post S c x y τc τm gs a b w t q) (h0 : gs'[0]? = some a') (hc : gs'[c]? = some b') (hsz : gs'.size = gs.size) (hoth : ∀ j, j ≠ 0 → j ≠ c → gs'[j]? = gs[j]?)
    (hmute : ∀ op ∈ u, op.act.touch? = none) (hq : ∀ g, ∀ op ∈ u, ∀ d, deafStep g d op = d) (hnr : ∀ op ∈ u, op.act ≠ .mark (.release K.stW)) (hblk : ∀ k, k ≠ K.A → w'.heap[k]? = w.heap[k]?)
    (hA : ∃ s, w'.heap[K.A]? = some (.chan 0 #[] false s s false)) (hch : ChM K S x' τc' b' w') (hma : MaM K L AnchW Post y' τm' a' w') (hp : ∀ st sm, Pair x y st sm → Pair x' y' st sm)
    (hrel : x'.rel = x.rel) (hshut : x'.shut = x.shut) (hxd : x'.deaf = x.deaf) (hyd : y'.deaf = y.deaf) (hsize : w'.heap.size = w.heap.size) (hy1 : y'.early = true → y.early = true) (hlow : y'.early = false → K.N0 ≤ L ∧ ∀ b, S b → b < L) :
    J K L AnchW Post S c x' y' τc' τm' gs' a' b' w' (t ++ u) q := by
  have eC := hblk K.C (fun e => F.k0A (e ▸ F.k0C))
  have hk : ∀ b, K.Kid w b → K.Kid w' b := fun b hb => hb.of_same (hblk b (fun e => F.kA w (e ▸ hb)))
  have hk' : ∀ b, K.Kid w' b → K.Kid w b := fun b hb => hb.of_same (hblk b (fun e => F.kA w' (e ▸ hb))).symm
  refine ⟨h.pos, h0, hc, fun i g hi hic hg => ?_, fun j hj => ?_, hch, hma, ?_, hA, ?_, ?_, fun hr => ?_, fun z b => ⟨fun hb => hk b ((h.kid (hy1 z) b).1 hb), fun hb => (h.kid (hy1 z) b).2 (hk' b hb)⟩, h.kid0, h.of, fun z => by rw [hsize]; exact h.size (hy1 z), hlow, fun z => by rw [hsize]; exact lowT_app (Nat.le_refl _) (h.lowT (hy1 z)) (fun op hop z hz => by rw [hmute op hop] at hz; cases hz), ?_, ?_, ?_⟩
  · rw [hoth i (by omega) hic] at hg
    rw [Deaf_quiet (hq i)]
    exact h.old i g hi hic hg
  · rw [Deaf_quiet (hq j)]
    exact h.above j (by omega)
  · obtain ⟨st, sm, h1, h2⟩ := h.pair
    exact ⟨st, sm, hp st sm h1, (hblk _ (Ne.symm F.AW)).trans h2⟩
  · rw [hshut]; exact (hblk _ (Ne.symm F.AE)).trans h.chE
  · obtain ⟨cs, hcs, hn⟩ := h.pay; exact ⟨cs, eC.trans hcs, hn⟩
  · exact Go.ConcX.ChanAt.of_block (h.full (hrel ▸ hr)) eC
  · rw [hrel]; exact h.tr.mute hmute hnr
  · rw [Deaf_quiet (hq 0), h.d0, hyd]
  · rw [Deaf_quiet (hq c), h.dc, hxd]

theorem none_rel : ∀ op ∈ (#[] : Trace), op.act ≠ .mark (.release K.stW) := by simp

theorem setA_rm (F : K.Fit) (s : Nat) : RM K w (w.setChan K.A 0 #[] false s s false) := ⟨rfl, rfl, rfl, fun _ _ _ hs => heap_setChan_ne w _ _ _ _ _ _ (fun e => hs (.inl e.symm)), by simp [World.setChan]⟩
theorem setA_rc (F : K.Fit) (s : Nat) : RC K w (w.setChan K.A 0 #[] false s s false) := fun b hb => heap_setChan_ne w _ _ _ _ _ _ (fun e => by
  subst e
  exact hb.elim (F.kA w) F.sA)

/-- Nobody else offers anything. -/
theorem J.no_offer (h : J K L AnchW Post S c x y τc τm gs a b w t q) {j : Nat} {g : Goroutine} (hj0 : j ≠ 0) (hjc : j ≠ c) (hg : gs[j]? = some g) (r : Nat) (sd : Bool) : offersAt g r sd = [] :=
  offersAt_of_not_blocked (fun hb => by rcases (h.old j g (by omega) hjc hg).status with z | z <;> rw [z] at hb <;> cases hb) r sd

/-- The child, not parked, offers nothing. -/
theorem ChM.no_offer (h : ChM K S x τc b w) (hp : ∀ v vs, x ≠ .parkd v vs) (r : Nat) (sd : Bool) : offersAt b r sd = [] := by
  refine offersAt_of_not_blocked (fun hb => ?_) r sd
  rcases h.status with z | ⟨v, vs, _, e, _⟩ | ⟨n, d, _, hq⟩
  · rw [z] at hb; cases hb
  · exact hp v vs e
  · rcases hq.status with z | z <;> rw [z] at hb <;> cases hb

/-! ### 'L' is of account behind the join alone -/
theorem MaM.lowed (L' : Nat) (hy : y.early = true) (h : MaM K L AnchW Post y τm a w) : MaM K L' AnchW Post y τm a w := by
  cases y using Ma.casesT with
  | front vs | walk vs | parkd vs => exact h
  | over => exact h
  | _ => cases hy
theorem J.lowed (L' : Nat) (hy : y.early = true) (h : J K L AnchW Post S c x y τc τm gs a b w t q) : J K L' AnchW Post S c x y τc τm gs a b w t q :=
  ⟨h.pos, h.h0, h.hc, h.old, h.above, h.ch, h.ma.lowed L' hy, h.pair, h.chA, h.chE, h.pay, h.full, h.kid, h.kid0, h.of, h.size, (fun z => by rw [hy] at z; cases z), h.lowT, h.tr, h.d0, h.dc⟩

/-- ████ GOROUTINE 0 COMES TO ITS select. ████ -/
theorem J.selects (F : K.Fit) (h : J K L AnchW Post S c x y τc τm gs a b w t q) {vs : List Value} (hy : y = .front vs ∨ y = .walk vs) (hs : selOf K AnchW vs a w) :
    ∃ gs' ops x' y' τc' τm' a' b' w' L', runT K.P (crowd gs w sl) 0 = (.next (crowd gs' w' sl), ops) ∧ gs'.size = gs.size ∧ J K L' AnchW Post S c x' y' τc' τm' gs' a' b' w' (t ++ ops) q ∧
      (x'.left < x.left ∨ (x' = x ∧ τc' = τc ∧ y'.rank x.done < y.rank x.done)) := by
  have hlt : 0 < gs.size := (Array.getElem?_eq_some_iff.1 h.h0).1
  have hltc : c < gs.size := (Array.getElem?_eq_some_iff.1 h.hc).1
  have hc0 : c ≠ 0 := by have := h.pos; omega
  obtain ⟨_, a₂, hs⟩ := (selOf_iff K AnchW vs a w).1 hs
  have hcm : stepG K.P (0 == 0) a w = .comm a₂ K.cases true .select w #[] := hs.comm
  obtain ⟨s, hA⟩ := h.chA
  obtain ⟨st, sm, hp, hwg⟩ := h.pair
  have hout : ∀ (r : Nat) (sd : Bool) (j : Nat) (g : Goroutine), j ≠ c → (gs.setIfInBounds 0 ph)[j]? = some g → offersAt g r sd = [] := by
    intro r sd j g hjc hg
    rcases getElem?_stand gs 0 j g hg with ⟨_, rfl⟩ | ⟨hj, hg'⟩
    · exact offersAt_ph _ _
    · exact h.no_offer hj hjc hg' r sd
  by_cases hpk : ∃ v vs', x = .parkd v vs'
  · -- THE CHILD IS PARKED AT ITS SEND: THEY MEET
    obtain ⟨v, vs', rfl⟩ := hpk
    have hvs : vs = v :: vs' ∧ y = .walk vs := by
      rcases hy with rfl | rfl
      · exact hp.elim
      · exact ⟨hp.1, rfl⟩
    obtain ⟨rfl, rfl⟩ := hvs
    obtain ⟨g₂, rfl, hnext⟩ := h.ch
    have hAE : K.A ≠ K.E := F.AE
    have hE := h.chE
    have pA : partners (gs.setIfInBounds 0 ph) K.A true = [(c, 0)] := by
      rw [partners_one (j := c) (stand_get hc0 h.hc) (fun k z hk hz => hout _ _ k z hk hz), offersAt_parked_send]
      simp
    have pE : partners (gs.setIfInBounds 0 ph) K.E true = [] := by
      refine partners_nil fun j g hg => ?_
      by_cases hjc : j = c
      · subst hjc
        rw [stand_get hc0 h.hc] at hg
        obtain rfl := Option.some.inj hg
        rw [offersAt_parked_send, if_neg hAE]
      · exact hout _ _ j g hjc hg
    have hmeet := crowd_sel_recv_meets (P := K.P) (sl := sl) (k := 0) (c := K.A) (z := K.z) (gj := g₂) (zj := K.zs) h.h0 hcm rfl (fun m c' hm hc' => by
      rcases m with _ | _ | m
      · exact absurd rfl hm
      · simp only [Cfg.cases, List.getElem?_toArray, List.getElem?_cons_succ, List.getElem?_cons_zero, Option.some.injEq] at hc'
        subst hc'
        exact ways_recv_none hE pE
      · simp [Cfg.cases] at hc') hA hc0 h.hc pA
    have hk0 : K.N0 ≤ w.heap.size := h.size rfl
    have hch : ChildS K vs' (Conc.served g₂ undef) (w.setChan K.A 0 #[] false (s + 1) (s + 1) false) := hnext _ (setA_rc F _)
    have hmn : MainS K AnchW vs' (Conc.served a₂ (commResult K.cases .select ((0 : Nat) : Int) v true)) (w.setChan K.A 0 #[] false (s + 1) (s + 1) false) := hs.2.2.2.2 _ (setA_rm F _) (by simpa [World.setChan] using hk0)
    rw [childS_eq] at hch
    rw [mainS_eq] at hmn
    obtain ⟨τc', hch⟩ := hch
    obtain ⟨τm', hmn⟩ := hmn
    refine ⟨_, _, .work vs', .walk vs', τc', τm', Conc.served a₂ (commResult K.cases .select ((0 : Nat) : Int) v true), Conc.served g₂ undef, _, L, hmeet, by simp, ?_, .inl (by simp [Ch.left])⟩
    rw [ofEvents_none, Array.empty_append]
    refine J.comm F h (by rw [Array.getElem?_setIfInBounds_self_of_lt (by simpa using hlt)]; rfl) (by rw [Array.getElem?_setIfInBounds_ne (Ne.symm hc0), Array.getElem?_setIfInBounds_self_of_lt hltc]; rfl) (by simp)
      (fun j hj hjc => by rw [Array.getElem?_setIfInBounds_ne (Ne.symm hj), Array.getElem?_setIfInBounds_ne (Ne.symm hjc)])
      (met_mute c 0 _ _ _ _ K.A s 0) (met_quiet c 0 _ _ _ _ K.A s 0) ?_ (fun k hk => heap_setChan_ne w _ _ _ _ _ _ (Ne.symm hk)) ⟨s + 1, heap_setChan_self w hA _ _ _ _ _ _⟩ hch hmn ?_ rfl rfl rfl rfl (by simp [World.setChan]) (fun _ => rfl) (fun z => by cases z)
    · intro op hop
      simp only [List.mem_toArray, List.mem_cons, List.not_mem_nil, or_false] at hop
      rcases hop with rfl | rfl | rfl | rfl <;> simp
    · rintro st sm ⟨_, h2, h3⟩
      exact ⟨rfl, h2, h3⟩
  · have hpk' : ∀ v vs', x ≠ .parkd v vs' := fun v vs' e => hpk ⟨v, vs', e⟩
    have pN : ∀ r, partners (gs.setIfInBounds 0 ph) r true = [] := fun r => by
      refine partners_nil fun j g hg => ?_
      by_cases hjc : j = c
      · subst hjc
        rw [stand_get hc0 h.hc] at hg
        obtain rfl := Option.some.inj hg
        exact h.ch.no_offer hpk' _ _
      · exact hout _ _ j g hjc hg
    have hoth : ∀ z j, j ≠ 0 → j ≠ c → (gs.setIfInBounds 0 z)[j]? = gs[j]? := fun z j hj _ => Array.getElem?_setIfInBounds_ne (Ne.symm hj)
    by_cases hsh : x.shut = true
    · -- THE END IS CLOSED
      have hE := h.chE
      rw [hsh] at hE
      have hvs : vs = [] ∧ y = .walk vs := by
        rcases hy with rfl | rfl <;> cases x using Ch.casesT <;> first | exact hp.elim | exact ⟨hp.1, rfl⟩ | cases hsh
      obtain ⟨rfl, rfl⟩ := hvs
      have hcl := crowd_sel_recv_closed (P := K.P) (sl := sl) (k := 1) (c := K.E) (z := K.zE) h.h0 hcm rfl (fun m c' hm hc' => by
        rcases m with _ | _ | m
        · simp only [Cfg.cases, List.getElem?_toArray, List.getElem?_cons_zero, Option.some.injEq] at hc'
          subst hc'
          exact ways_recv_none hA (pN _)
        · exact absurd rfl hm
        · simp [Cfg.cases] at hc') hE (pN _)
      have hk0 : K.N0 ≤ w.heap.size := h.size rfl
      obtain ⟨τm', hmn⟩ := hs.2.2.2.2 w (RM.refl w) hk0
      refine ⟨_, _, x, .over, τc, τm', Conc.served a₂ (commResult K.cases .select ((1 : Nat) : Int) K.zE false), b, w, L, hcl, by simp, ?_, .inr ⟨rfl, rfl, by simp [Ma.rank]⟩⟩
      rw [ofEvents_none, Array.empty_append]
      refine J.comm F h (by rw [Array.getElem?_setIfInBounds_self_of_lt hlt]; rfl) (by rw [Array.getElem?_setIfInBounds_ne (Ne.symm hc0)]; exact h.hc) (by simp) (hoth _) ?_ ?_ ?_ (fun _ _ => rfl) ⟨s, hA⟩ h.ch hmn ?_ rfl rfl rfl rfl rfl (fun _ => rfl) (fun z => by cases z)
      · intro op hop; simp at hop; subst hop; rfl
      · intro g op hop d; simp at hop; subst hop; rfl
      · intro op hop; simp at hop; subst hop; simp
      · intro st sm hp'
        cases x using Ch.casesT <;> first | exact hp'.elim | exact hp'.2 | cases hsh
    · -- NOBODY IS THERE: IT WAITS
      have hsh' : x.shut = false := by cases e : x.shut <;> simp_all
      have hE := h.chE
      rw [hsh'] at hE
      have hwt := crowd_waits (P := K.P) (sl := sl) h.h0 hcm (fun cc hcc => by
        simp only [Cfg.cases, List.mem_toArray, List.mem_cons, List.not_mem_nil, or_false] at hcc
        rcases hcc with rfl | rfl
        · exact ways_recv_none hA (pN _)
        · exact ways_recv_none hE (pN _))
      refine ⟨_, _, x, .parkd vs, τc, τm, parked a₂ K.cases .select, b, w, L, hwt, by simp, ?_, .inr ⟨rfl, rfl, by rcases hy with rfl | rfl <;> simp [Ma.rank]⟩⟩
      rw [ofEvents_none]
      refine J.comm F h (by simp [hlt]) (by rw [Array.getElem?_setIfInBounds_ne (Ne.symm hc0)]; exact h.hc) (by simp) (hoth _) (by simp) (by simp) (by simp) (fun _ _ => rfl) ⟨s, hA⟩ h.ch ⟨a, a₂, rfl, hs⟩ ?_ rfl rfl rfl (by rcases hy with rfl | rfl <;> rfl) rfl (fun _ => by rcases hy with rfl | rfl <;> rfl) (fun z => by cases z)
      intro st sm hp'
      rcases hy with rfl | rfl <;> cases x using Ch.casesT <;> first | exact absurd rfl (hpk' _ _) | exact hp'.elim | exact hp' | cases hsh'

/-- ████ THE CHILD COMES TO ITS SEND. ████ -/
theorem J.sends (F : K.Fit) (h : J K L AnchW Post S c x y τc τm gs a b w t q) {v : Value} {vs : List Value} (hx : x = .fresh (v :: vs) ∨ x = .work (v :: vs)) (hs : AtSend K v (ChildS K vs) b w) :
    ∃ gs' ops x' y' τc' τm' a' b' w', runT K.P (crowd gs w sl) c = (.next (crowd gs' w' sl), ops) ∧ gs'.size = gs.size ∧ J K L AnchW Post S c x' y' τc' τm' gs' a' b' w' (t ++ ops) q ∧
      (x'.left < x.left ∨ (x'.left = x.left ∧ x'.rank < x.rank)) := by
  have hlt : 0 < gs.size := (Array.getElem?_eq_some_iff.1 h.h0).1
  have hltc : c < gs.size := (Array.getElem?_eq_some_iff.1 h.hc).1
  have hc0 : c ≠ 0 := by have := h.pos; omega
  obtain ⟨_, hk0, hst, hnext⟩ := hs
  have hcm : stepG K.P (c == 0) b w = .comm b #[scase K.A v K.zs] true .send w #[] := by rw [show (c == 0) = false by simp [hc0]]; exact hst
  obtain ⟨s, hA⟩ := h.chA
  obtain ⟨st, sm, hp, hwg⟩ := h.pair
  have hout : ∀ (r : Nat) (sd : Bool) (j : Nat) (g : Goroutine), j ≠ 0 → (gs.setIfInBounds c ph)[j]? = some g → offersAt g r sd = [] := by
    intro r sd j g hj0 hg
    rcases getElem?_stand gs c j g hg with ⟨_, rfl⟩ | ⟨hj, hg'⟩
    · exact offersAt_ph _ _
    · exact h.no_offer hj0 hj hg' r sd
  by_cases hpk : ∃ vs', y = .parkd vs'
  · -- GOROUTINE 0 IS PARKED AT ITS select: THEY MEET
    obtain ⟨vs', rfl⟩ := hpk
    have hvs : vs' = v :: vs := by rcases hx with rfl | rfl <;> exact hp.1
    subst hvs
    obtain ⟨g₀, g₂, rfl, hsel⟩ := h.ma
    have pA : partners (gs.setIfInBounds c ph) K.A false = [(0, 0)] := by
      rw [partners_one (j := 0) (stand_get (Ne.symm hc0) h.h0) (fun k z hk hz => hout _ _ k z hk hz), offersAt_parked_at (k := 0) (z := K.z) rfl (fun m cc hm hcc => by
        rcases m with _ | _ | m
        · exact absurd rfl hm
        · simp only [Cfg.cases, List.getElem?_toArray, List.getElem?_cons_succ, List.getElem?_cons_zero, Option.some.injEq] at hcc
          subst hcc
          simp only [rcase, ne_eq, Value.chan.injEq, Option.some.injEq]
          exact Ne.symm F.AE
        · simp [Cfg.cases] at hcc)]
      simp
    have hmeet := crowd_send_meets_sel (P := K.P) (sl := sl) (k := 0) (zj := K.z) (gj := g₂) h.hc hcm hA (Ne.symm hc0) h.h0 rfl pA
    have hch : ChildS K vs (Conc.served b undef) (w.setChan K.A 0 #[] false (s + 1) (s + 1) false) := hnext _ (setA_rc F _)
    have hmn : MainS K AnchW vs (Conc.served g₂ (commResult K.cases .select ((0 : Nat) : Int) v true)) (w.setChan K.A 0 #[] false (s + 1) (s + 1) false) := hsel.2.2.2.2 _ (setA_rm F _) (by simpa [World.setChan] using hk0)
    rw [childS_eq] at hch
    rw [mainS_eq] at hmn
    obtain ⟨τc', hch⟩ := hch
    obtain ⟨τm', hmn⟩ := hmn
    refine ⟨_, _, .work vs, .walk vs, τc', τm', Conc.served g₂ (commResult K.cases .select ((0 : Nat) : Int) v true), Conc.served b undef, _, hmeet, by simp, ?_, .inl (by rcases hx with rfl | rfl <;> simp [Ch.left])⟩
    rw [ofEvents_none, Array.empty_append]
    refine J.comm F h (by rw [Array.getElem?_setIfInBounds_ne hc0, Array.getElem?_setIfInBounds_self_of_lt hlt]; rfl) (by rw [Array.getElem?_setIfInBounds_self_of_lt (by simpa using hltc)]; rfl) (by simp)
      (fun j hj hjc => by rw [Array.getElem?_setIfInBounds_ne (Ne.symm hjc), Array.getElem?_setIfInBounds_ne (Ne.symm hj)])
      (met_mute c 0 _ _ _ _ K.A s 0) (met_quiet c 0 _ _ _ _ K.A s 0) ?_ (fun k hk => heap_setChan_ne w _ _ _ _ _ _ (Ne.symm hk)) ⟨s + 1, heap_setChan_self w hA _ _ _ _ _ _⟩ hch hmn ?_ (by rcases hx with rfl | rfl <;> rfl) (by rcases hx with rfl | rfl <;> rfl) (by rcases hx with rfl | rfl <;> rfl) rfl (by simp [World.setChan]) (fun _ => rfl) (fun z => by cases z)
    · intro op hop
      simp only [List.mem_toArray, List.mem_cons, List.not_mem_nil, or_false] at hop
      rcases hop with rfl | rfl | rfl | rfl <;> simp
    · intro st sm hp'
      rcases hx with rfl | rfl <;> exact ⟨rfl, hp'.2⟩
  · -- IT WAITS
    have hwl : y = .front (v :: vs) ∨ y = .walk (v :: vs) := by
      rcases hx with rfl | rfl
      · cases y using Ma.casesT with
        | front vs' => exact .inl (congrArg Ma.front hp.1)
        | parkd vs' => exact absurd ⟨_, rfl⟩ hpk
        | _ => exact hp.elim
      · cases y using Ma.casesT with
        | walk vs' => exact .inr (congrArg Ma.walk hp.1)
        | parkd vs' => exact absurd ⟨_, rfl⟩ hpk
        | _ => exact hp.elim
    have hma : MaM K L AnchW Post (.walk (v :: vs)) τm a w := by
      rcases hwl with rfl | rfl
      · exact h.ma
      · exact h.ma
    have hrun : a.status = .running := TGoes.running RM.refl (fun _ _ => selOf.run) hma
    have pN : partners (gs.setIfInBounds c ph) K.A false = [] := by
      refine partners_nil fun j g hg => ?_
      by_cases hj0 : j = 0
      · subst hj0
        rw [stand_get (Ne.symm hc0) h.h0] at hg
        obtain rfl := Option.some.inj hg
        exact offersAt_of_not_blocked (fun hb => by rw [hrun] at hb; cases hb) _ _
      · exact hout _ _ j g hj0 hg
    have hwt := crowd_waits (P := K.P) (sl := sl) h.hc hcm (fun cc hcc => by
      simp only [List.mem_toArray, List.mem_cons, List.not_mem_nil, or_false] at hcc
      subst hcc
      exact ways_send_none hA (Nat.le_refl 0) pN)
    refine ⟨_, _, .parkd v vs, .walk (v :: vs), τc, τm, a, parked b #[scase K.A v K.zs] .send, w, hwt, by simp, ?_, .inr ⟨by rcases hx with rfl | rfl <;> simp [Ch.left], by rcases hx with rfl | rfl <;> simp [Ch.rank]⟩⟩
    rw [ofEvents_none]
    refine J.comm F h (by rw [Array.getElem?_setIfInBounds_ne hc0]; exact h.h0) (Array.getElem?_setIfInBounds_self_of_lt hltc) (by simp) (fun j _ hjc => Array.getElem?_setIfInBounds_ne (Ne.symm hjc)) (by simp) (by simp) (by simp) (fun _ _ => rfl) ⟨s, hA⟩ ⟨b, rfl, hnext⟩ hma ?_ (by rcases hx with rfl | rfl <;> rfl) (by rcases hx with rfl | rfl <;> rfl) (by rcases hx with rfl | rfl <;> rfl) (by rcases hwl with rfl | rfl <;> rfl) rfl (fun _ => by rcases hwl with rfl | rfl <;> rfl) (fun z => by cases z)
    intro st sm hp'
    rcases hx with rfl | rfl <;> rcases hwl with rfl | rfl <;> first | exact ⟨rfl, hp'.2⟩ | exact hp'.elim
end Go.Proofs.YtgcaionclkbehaaGreatDoor
