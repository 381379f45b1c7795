import Derived.Test.YtgcaionclkbehaaGreatDoorPairComm
set_option linter.all false
namespace Go.Proofs.YtgcaionclkbehaaGreatDoor
open Go.Conc
open Go.ConcN (sumTo upd sumTo_upd upd_ne upd_same)
abbrev Mu := Nat × Nat × Nat × Tr × Nat × Tr
abbrev LtM : Mu → Mu → Prop := Prod.Lex (· < ·) (Prod.Lex (· < ·) (Prod.Lex (· < ·) (Prod.Lex Sub (Prod.Lex (· < ·) Sub))))
theorem ltM_wf : WellFounded LtM := (Prod.lex Nat.lt_wfRel (Prod.lex Nat.lt_wfRel (Prod.lex Nat.lt_wfRel (Prod.lex ⟨Sub,sub_wf⟩ (Prod.lex Nat.lt_wfRel ⟨Sub,sub_wf⟩))))).wf
def mu (n : Nat) (x : Ch) (y : Ma) (τc τm : Tr) : Mu := (n,x.left,x.rank, τc,y.rank x.done, τm)
theorem trace_low (T : Trace) (B : Nat) : ∃ B',B ≤ B' ∧ ∀ op ∈ T,op.act.low B' := by
 obtain ⟨l⟩ := T
 induction l with
 | nil => exact ⟨B,Nat.le_refl _,by simp⟩
 | cons o l ih =>
  obtain ⟨B',h1,h2⟩ := ih
  have : ∃ B₂,o.act.low B₂ := by
   cases e : o.act with
   | access ev =>
    obtain ⟨loc,wr,sy⟩ := ev
    cases loc with
    | cell a => exact ⟨a.block + 1,Nat.lt_succ_self _⟩
    | obj r => exact ⟨r + 1,Nat.lt_succ_self _⟩
    | _ => exact ⟨0,trivial⟩
   | mark m =>
    cases m <;> first | exact ⟨_,Nat.lt_succ_self _⟩ | exact ⟨0,trivial⟩
   | go _ => exact ⟨0,trivial⟩
   | start => exact ⟨0,trivial⟩
   | _ => exact ⟨_,Nat.lt_succ_self _⟩
  obtain ⟨B₂,h3⟩ := this
  refine ⟨max B' B₂,by omega,fun op hop => ?_⟩
  simp only [List.mem_toArray,List.mem_cons] at hop
  rcases hop with rfl | hop
  ·
   exact MemAct.low_mono (Nat.le_max_right _ _) h3
  ·
   exact MemAct.low_mono (Nat.le_max_left _ _) (h2 op (by simpa using hop))
variable {K : Cfg} [Go.ConcX.Payload] [Go.ConcR.Payload] [Go.ConcX.Shy K.Wg K.C] {AnchW : Goroutine → World → Prop} {Post : Value → World → Prop}
variable {L : Nat} {S S' : Nat → Prop} {c : Nat} {x x' : Ch} {y y' : Ma} {τc τm τc' τm' : Tr} {gs gs' : Array Goroutine} {a a' b b' : Goroutine} {w w' : World} {t u : Trace} {q : Nat → Nat} {sl : Option (Nat × Nat)} {es : Array Event}
theorem lt_left {n : Nat} (h : x'.left < x.left) : LtM (mu n x' y' τc' τm') (mu n x y τc τm) := .right _ (.left _ _ h)
theorem lt_rank {n : Nat} (h : x'.left = x.left) (h' : x'.rank < x.rank) : LtM (mu n x' y' τc' τm') (mu n x y τc τm) := by
 unfold mu; rw [h]; exact .right _ (.right _ (.left _ _ h'))
theorem lt_childτ {n : Nat} (h : x'.left = x.left) (h' : x'.rank = x.rank) (hs : Sub τc' τc) : LtM (mu n x' y' τc' τm') (mu n x y τc τm) := by
 unfold mu; rw [h,h']; exact .right _ (.right _ (.right _ (.left _ _ hs)))
theorem zi5 {n : Nat} (h : y'.rank x.done < y.rank x.done) : LtM (mu n x y' τc τm') (mu n x y τc τm) := .right _ (.right _ (.right _ (.right _ (.left _ _ h))))
theorem lt_mτ {n : Nat} (h : y'.rank x.done = y.rank x.done) (hs : Sub τm' τm) : LtM (mu n x y' τc τm') (mu n x y τc τm) := by
 unfold mu; rw [h]; exact .right _ (.right _ (.right _ (.right _ (.right _ hs))))
structure ShyOk (K : Cfg) [Go.ConcX.Shy K.Wg K.C] : Prop where
 ok : ∀ act,Go.ConcX.Shy.ok K.Wg K.C act → (∀ z,act.touch? = some z → (∃ ad : Addr,z.loc = .cell ad ∧ ad.block = K.C) ∨ (∃ ad : Addr,z.loc = .cell ad ∧ ad.block = K.Wg ∧ z.kind ≠ .plain)) ∧ act.low K.B
def Fin (K : Cfg) [Go.ConcX.Payload] [Go.ConcX.Shy K.Wg K.C] (Post : Value → World → Prop) (n : Nat) (M : Machine) (T : Trace) : Prop :=
 ∃ (gs : Array Goroutine) (a : Goroutine) (w : World) (sl : Option (Nat × Nat)) (q : Nat → Nat) (B m L : Nat),M = crowd gs w sl ∧ gs.size = n ∧ gs[0]? = some a ∧ Leavers K.P T gs q ∧ Past K.Shun B T ∧ K.B ≤ B ∧
  Goes K.P true AtRel (Go.ConcX.DPj K.Mine K.Wg K.C L) (AtRetk K Post) m a w
def Next (K : Cfg) [Go.ConcX.Payload] [Go.ConcR.Payload] [Go.ConcX.Shy K.Wg K.C] (AnchW : Goroutine → World → Prop) (Post : Value → World → Prop) (c : Nat) (X : Stepped × Array MemOp) (t : Trace) (n : Nat) (μ : Mu) : Prop :=
 (∃ M ops,X = (.next M,ops) ∧ Fin K Post n M (t ++ ops)) ∨
 ∃ L S x' y' τc' τm' gs' a' b' w' sl' q' ops,X = (.next (crowd gs' w' sl'),ops) ∧ gs'.size = n ∧ J K L AnchW Post S c x' y' τc' τm' gs' a' b' w' (t ++ ops) q' ∧ Relation.TransGen LtM (mu (sumTo n q') x' y' τc' τm') μ
theorem Next.mono {X : Stepped × Array MemOp} {n : Nat} {μ μ' : Mu} (h : Next K AnchW Post c X t n μ') (hl : LtM μ' μ) : Next K AnchW Post c X t n μ := by
 rcases h with h | ⟨L,S,x',y', τc', τm',gs',a',b',w',sl',q',ops,e,hs,hJ,hlt⟩
 ·
  exact .inl h
 ·
  exact .inr ⟨L,S,x',y', τc', τm',gs',a',b',w',sl',q',ops,e,hs,hJ,hlt.trans (.single hl)⟩
theorem wg_ok (F : K.Fit) (hS : ∃ w, ∀ b,S b → K.Kid w b) {z : Touch} {ad : Addr} (e : z.loc = .cell ad) (h : ad.block = K.Wg) (hk : z.kind ≠ .plain) : Ok0 K.Shun (K.kidS S) K.stillL z := by
 obtain ⟨w,hS⟩ := hS
 refine ⟨?_,?_,fun _ => hk⟩
 ·
  rintro (⟨b,e',hb⟩ | e' | ⟨b,e',hb⟩)
  ·
   rw [e] at e'; cases e'; exact F.kW w (h ▸ hS _ hb)
  iterate 2
   ·
    rw [e] at e'; cases e'
 ·
  rintro ⟨b,e',hb⟩
  rw [e] at e'; cases e'
  exact absurd (h ▸ hb) F.sW
theorem ev_atomic (F : K.Fit) (hS : ∃ w, ∀ b,S b → K.Kid w b) {ad : Addr} (h : ad.block = K.Wg) {wr : Bool} {z : Touch} (hz : (MemAct.ofEvent ⟨.cell ad,wr,true⟩).touch? = some z) : Ok0 K.Shun (K.kidS S) K.stillL z := by
 have e : MemAct.ofEvent ⟨.cell ad,wr,true⟩ = .access ⟨.cell ad,wr,true⟩ := rfl
 rw [e] at hz
 simp only [MemAct.touch?,Option.some.injEq] at hz
 subst hz
 exact wg_ok F hS rfl h (by simp)
theorem evq_ok (F : K.Fit) (H : ShyOk K) (hS : ∃ w, ∀ b,S b → K.Kid w b) {e : Event} (h : Go.ConcX.EvQ K.Mine K.Wg K.C 0 e) : ∀ z,(MemAct.ofEvent e).touch? = some z → Ok0 K.Shun (K.kidS S) K.stillL z := by
 intro z hz
 obtain ⟨_, ht, _, hk⟩ := h.1 0 ""
 rcases (H.ok _ hk).1 z hz with ⟨ad,e1,e2⟩ | ⟨ad,e1,e2,e3⟩
 ·
  exact absurd ((ht z hz).2.2 ⟨ad,e1,e2,by rw [e2]; exact F.CW⟩).1 (by decide)
 ·
  exact wg_ok F hS e1 e2 e3
theorem zg8 {st sm : Int} (h : Pair x y st sm) (hx : x.shut = false) : y.early = true := by
 cases x using Ch.casesT <;> first | (cases y using Ma.casesT <;> first | exact h.elim | rfl) | cases hx
section
variable {n : Nat} (F : K.Fit) (H : ShyOk K) (hAr : ∀ g w,AnchW g w → g.status = .running)
 (hAn : ∀ L,K.N0 ≤ L → ∀ g w,AnchW g w → ∃ m,Goes K.P true (RPak K) (DPik K L) (AtW1k K L AnchW Post) m g w)
theorem Next.main (h : ∃ gs' ops,runT K.P (crowd gs w sl) 0 = (.next (crowd gs' w' sl),ops) ∧ gs'.size = gs.size ∧ J K L AnchW Post S c x y' τc τm' gs' a' b w' (t ++ ops) q) (hlt : ∀ n,LtM (mu n x y' τc τm') (mu n x y τc τm)) :
  Next K AnchW Post c (runT K.P (crowd gs w sl) 0) t gs.size (mu (sumTo gs.size q) x y τc τm) := by
 obtain ⟨gs',ops,e,hs,hJ⟩ := h
 exact .inr ⟨L,S,x,y', τc, τm',gs',a',b,w',sl,q,ops,e,hs,hJ, .single (hlt _)⟩
theorem J.main_silent (F : K.Fit) (H : ShyOk K) (h : J K L AnchW Post S c x y τc τm gs a b w t q) (hy : y.early = false) (hgo : stepG K.P true a w = .go a' w' es) (hd : DPik K L w w' es) (hma : MaM K L AnchW Post y τm' a' w') (hs : Sub τm' τm) :
  Next K AnchW Post c (runT K.P (crowd gs w sl) 0) t gs.size (mu (sumTo gs.size q) x y τc τm) := by
 obtain ⟨st,sm,hp,hw⟩ := h.pair
 obtain ⟨hN,hL⟩ := h.lowK hy
 have hlo : ∀ k,S k ∨ K.Still k ∨ k = K.A ∨ k = K.E → k < L := fun k hk => by
  rcases hk with z | z | rfl | rfl
  ·
   exact hL k z
  ·
   exact Nat.lt_of_lt_of_le (F.s0 k z) hN
  ·
   exact Nat.lt_of_lt_of_le F.A0 hN
  ·
   exact Nat.lt_of_lt_of_le F.E0 hN
 exact Next.main (J.main_go F h hgo rfl (fun k hk => hd.1 k (hlo k hk)) (fun z => by rw [hy] at z; cases z) (fun z => by rw [hy] at z; cases z) (zg8 hp) ⟨st,sm,hp,(hd.1 _ (Nat.lt_of_lt_of_le F.W0 hN)).trans hw⟩
  (fun e he => evq_ok F H h.of (hd.2 e he)) (fun z => by rw [hy] at z; cases z) (fun e he => ((hd.2 e he).1 0 "").2.2.1) (deafBehind_still (fun e he => ⟨(hd.2 e he).2.1, (hd.2 e he).2.2.1⟩) _) hma) fun _ => lt_mτ rfl hs
theorem one_none {m : Mark} (hm : (MemAct.mark m).touch? = none) : ∀ e ∈ (#[Go.ConcX.mk m] : Array Event), ∀ z,(MemAct.ofEvent e).touch? = some z → Ok0 K.Shun (K.kidS S) K.stillL z := by
 intro e he z hz
 rw [Array.mem_singleton] at he
 subst he
 rw [show MemAct.ofEvent (Go.ConcX.mk m) = .mark m from rfl,hm] at hz
 cases hz
theorem one_norel {m : Mark} (hm : m ≠ .release K.stW) : ∀ e ∈ (#[Go.ConcX.mk m] : Array Event),MemAct.ofEvent e ≠ .mark (.release K.stW) := by
 intro e he z
 rw [Array.mem_singleton] at he
 subst he
 rw [show MemAct.ofEvent (Go.ConcX.mk m) = .mark m from rfl] at z
 exact hm (MemAct.mark.inj z)
theorem rd_ok (F : K.Fit) (hS : ∃ w, ∀ b,S b → K.Kid w b) {es : Array Event} (h : ∀ e ∈ es,(∃ ad wr,e = ⟨.cell ad,wr,true⟩ ∧ ad.block = K.Wg) ∨ e.loc = .mark .disable ∨ e.loc = .mark .enable) :
  (∀ e ∈ es, ∀ z,(MemAct.ofEvent e).touch? = some z → Ok0 K.Shun (K.kidS S) K.stillL z) ∧ ∀ e ∈ es,MemAct.ofEvent e ≠ .mark (.release K.stW) := by
 refine ⟨fun e he z hz => ?_,fun e he => ?_⟩
 ·
  rcases h e he with ⟨ad,wr,rfl,hb⟩ | h1 | h1
  ·
   exact ev_atomic F hS hb hz
  iterate 2
   ·
    obtain ⟨loc,wr,sy⟩ := e
    simp only at h1
    subst h1
    cases hz
 ·
  rcases h e he with ⟨ad,wr,rfl,hb⟩ | h1 | h1
  ·
   exact fun z => by cases z
  iterate 2
   ·
    obtain ⟨loc,wr,sy⟩ := e
    simp only at h1
    subst h1
    exact fun z => by cases z
theorem stop_kd (F : K.Fit) (hAn : ∀ L,K.N0 ≤ L → ∀ g w,AnchW g w → ∃ m,Goes K.P true (RPak K) (DPik K L) (AtW1k K L AnchW Post) m g w) (h : J K L AnchW Post S c x .kd τc τm gs a b w t q) (hs : AtKdk K L AnchW a w) : Next K AnchW Post c (runT K.P (crowd gs w sl) 0) t gs.size (mu (sumTo gs.size q) x .kd τc τm) := by
 obtain ⟨_,g',hgo,m,hG⟩ := hs
 have hway : Way K.P true (RPak K) (DPik K L) (AtW1k K L AnchW Post) g' w :=
  Way.bind Go.ConcX.RPa.refl ((zc5 hG).weaken (fun _ _ z => z) (fun _ _ _ z => z) fun g w hg => (hAn L (h.lowK rfl).1 g w hg).elim fun _ hm => zc5 hm)
 obtain ⟨τ,hτ⟩ := hway
 obtain ⟨st,sm,hp,hw⟩ := h.pair
 exact Next.main (J.main_go (y' := .w1) F h hgo rfl (fun _ _ => rfl) (fun z => by cases z) (fun z => by cases z) (zg8 hp) ⟨st,sm,by cases x using Ch.casesT <;> first | exact hp | exact hp.elim,hw⟩ (one_none rfl) (fun z => by cases z) (one_norel (by simp)) rfl hτ)
  fun _ => zi5 (by show (if x.done = true then 5 else 6) < 7; split <;> omega)
theorem stop_w1 (F : K.Fit) (h : J K L AnchW Post S c x .w1 τc τm gs a b w t q) (hs : AtW1k K L AnchW Post a w) : Next K AnchW Post c (runT K.P (crowd gs w sl) 0) t gs.size (mu (sumTo gs.size q) x .w1 τc τm) := by
 obtain ⟨_,g',hgo,h1,h2⟩ := hs
 obtain ⟨st,sm,hp,hw⟩ := h.pair
 have hev := rd_ok F h.of (es := #[Go.ConcX.rd (Go.ConcX.stA K.Wg)]) (fun e he => by rw [Array.mem_singleton] at he; subst he; exact .inl ⟨_,_,rfl,rfl⟩)
 have hcase : (st = KK ∧ sm = 0 ∧ x.done = false ∧ Pair x .w2 st sm) ∨ (st = 0 ∧ sm = 0 ∧ x.done = true ∧ x.rel = true ∧ Pair x .ke st sm) := by
  cases x using Ch.casesT <;> first | exact hp.elim | exact .inl ⟨hp.1,hp.2,rfl,hp⟩ | exact .inr ⟨hp.1,hp.2,rfl,rfl,hp⟩
 rcases hcase with ⟨rfl,rfl,hd,hp'⟩ | ⟨rfl,rfl,hd,hr,hp'⟩
 ·
  obtain ⟨m,hG⟩ := h1 hw
  obtain ⟨τ,hτ⟩ := zc5 hG
  exact Next.main (J.main_go (y' := .w2) F h hgo rfl (fun _ _ => rfl) (fun z => by cases z) (fun z => by cases z) (zg8 hp) ⟨_,_,hp',hw⟩ hev.1 (fun z => by cases z) hev.2 rfl hτ) fun _ => zi5 (by rw [hd]; decide)
 ·
  obtain ⟨m,hG⟩ := h2 ⟨hw,h.full hr⟩
  obtain ⟨τ,hτ⟩ := zc5 hG
  exact Next.main (J.main_go (y' := .ke) F h hgo rfl (fun _ _ => rfl) (fun z => by cases z) (fun z => by cases z) (zg8 hp) ⟨_,_,hp',hw⟩ hev.1 (fun z => by cases z) hev.2 rfl hτ) fun _ => zi5 (by rw [hd]; decide)
theorem off_wg (F : K.Fit) (hS : ∃ w, ∀ b,S b → K.Kid w b) {k : Nat} (hk : S k ∨ K.Still k ∨ k = K.A ∨ k = K.E) : k ≠ K.Wg := by
 rintro rfl
 rcases hk with z | z | z | z
 ·
  obtain ⟨w,hS⟩ := hS; exact F.kW w (hS _ z)
 ·
  exact F.sW z
 ·
  exact F.AW z.symm
 ·
  exact F.EW z.symm
theorem stop_w2 (F : K.Fit) (hAn : ∀ L,K.N0 ≤ L → ∀ g w,AnchW g w → ∃ m,Goes K.P true (RPak K) (DPik K L) (AtW1k K L AnchW Post) m g w) (h : J K L AnchW Post S c x .w2 τc τm gs a b w t q) (hs : AtW2k K L AnchW Post a w) : Next K AnchW Post c (runT K.P (crowd gs w sl) 0) t gs.size (mu (sumTo gs.size q) x .w2 τc τm) := by
 obtain ⟨_,h1,h2⟩ := hs
 obtain ⟨st,sm,hp,hw⟩ := h.pair
 have hcase : (st = KK ∧ sm = 0 ∧ x.done = false ∧ Pair x .w3 (KK + 1) 0) ∨ (st = 0 ∧ sm = 0 ∧ x.done = true ∧ x.rel = true ∧ Pair x .w1 st sm) := by
  cases x using Ch.casesT <;> first | exact hp.elim | exact .inl ⟨hp.1,hp.2,rfl,rfl,rfl⟩ | exact .inr ⟨hp.1,hp.2,rfl,rfl,hp⟩
 rcases hcase with ⟨rfl,rfl,hd,hp'⟩ | ⟨rfl,rfl,hd,hr,hp'⟩
 ·
  obtain ⟨g',hgo,m,hG⟩ := h1 hw
  have hev := rd_ok F h.of (es := #[Go.ConcX.rd (Go.ConcX.stA K.Wg),Go.ConcX.wr (Go.ConcX.stA K.Wg)]) (fun e he => by
   simp only [List.mem_toArray,List.mem_cons,List.not_mem_nil,or_false] at he
   rcases he with rfl | rfl <;> exact .inl ⟨_,_,rfl,rfl⟩)
  obtain ⟨τ,hτ⟩ := zc5 hG
  exact Next.main (J.main_go (y' := .w3) F h hgo rfl (fun k hk => Go.RowKit.Below.heap_setCell _ _ _ _ (off_wg F h.of hk)) (fun z => by cases z) (fun z => by cases z) (zg8 hp) ⟨_,_,hp',Go.ConcX.WgAt.setSt hw _⟩ hev.1 (fun z => by cases z) hev.2 rfl hτ) fun _ => zi5 (by rw [hd]; decide)
 ·
  obtain ⟨g',hgo,m,hG⟩ := h2 ⟨hw,h.full hr⟩
  have hev := rd_ok F h.of (es := #[Go.ConcX.rd (Go.ConcX.stA K.Wg)]) (fun e he => by rw [Array.mem_singleton] at he; subst he; exact .inl ⟨_,_,rfl,rfl⟩)
  have hway : Way K.P true (RPak K) (DPik K L) (AtW1k K L AnchW Post) g' w :=
   Way.bind Go.ConcX.RPa.refl ((zc5 hG).weaken (fun _ _ z => z) (fun _ _ _ z => z) fun g w hg => (hAn L (h.lowK rfl).1 g w hg).elim fun _ hm => zc5 hm)
  obtain ⟨τ,hτ⟩ := hway
  exact Next.main (J.main_go (y' := .w1) F h hgo rfl (fun _ _ => rfl) (fun z => by cases z) (fun z => by cases z) (zg8 hp) ⟨_,_,hp',hw⟩ hev.1 (fun z => by cases z) hev.2 rfl hτ) fun _ => zi5 (by rw [hd]; decide)
theorem sem_ok : ∀ e ∈ semEvents (Go.ConcX.smA K.Wg),(∃ ad wr,e = ⟨.cell ad,wr,true⟩ ∧ ad.block = K.Wg) ∨ e.loc = .mark .disable ∨ e.loc = .mark .enable := by
 intro e he
 simp only [semEvents,List.mem_toArray,List.mem_cons,List.not_mem_nil,or_false] at he
 rcases he with rfl | rfl | rfl | rfl
 ·
  exact .inr (.inl rfl)
 iterate 2
  ·
   exact .inl ⟨_,_,rfl,rfl⟩
 ·
  exact .inr (.inr rfl)
theorem stop_w3 (F : K.Fit) (h : J K L AnchW Post S c x .w3 τc τm gs a b w t q) (hs : AtW3k K L Post a w) : Next K AnchW Post c (runT K.P (crowd gs w sl) 0) t gs.size (mu (sumTo gs.size q) x .w3 τc τm) := by
 obtain ⟨hrun,hoff,h1,h2⟩ := hs
 obtain ⟨st,sm,hp,hw⟩ := h.pair
 have hcase : (sm = 0 ∧ Pair x .blk st sm) ∨ (st = 0 ∧ sm = 1 ∧ x.rel = true ∧ Pair x .w4 0 0) := by
  cases x using Ch.casesT <;> first | exact hp.elim | exact .inl ⟨hp.2,hp⟩ | exact .inr ⟨hp.1,hp.2,rfl,rfl,rfl⟩
 rcases hcase with ⟨rfl,hp'⟩ | ⟨rfl,rfl,hr,hp'⟩
 ·
  exact Next.main (J.main_go (y' := .blk) (τm' := τm) F h (h1 ⟨st,hw⟩) rfl (fun _ _ => rfl) (fun z => by cases z) (fun z => by cases z) (zg8 hp) ⟨_,_,hp',hw⟩ (by simp) (fun z => by cases z) (by simp) rfl ⟨a,rfl,hrun,hoff,h.ma⟩) fun _ => zi5 (by simp [Ma.rank])
 ·
  obtain ⟨g',hgo,m,hG⟩ := h2 ⟨hw,h.full hr⟩
  have hev := rd_ok F h.of sem_ok
  obtain ⟨τ,hτ⟩ := zc5 hG
  exact Next.main (J.main_go (y' := .w4) F h hgo rfl (fun k hk => Go.RowKit.Below.heap_setCell _ _ _ _ (off_wg F h.of hk)) (fun z => by cases z) (fun z => by cases z) (zg8 hp) ⟨_,_,hp',Go.ConcX.WgAt.setSm hw _⟩ hev.1 (fun z => by cases z) hev.2 rfl hτ) fun _ => zi5 (by simp [Ma.rank])
theorem stop_w4 (F : K.Fit) (h : J K L AnchW Post S c x .w4 τc τm gs a b w t q) (hs : AtW4k K L Post a w) : Next K AnchW Post c (runT K.P (crowd gs w sl) 0) t gs.size (mu (sumTo gs.size q) x .w4 τc τm) := by
 obtain ⟨_,g',hgo,m,hG⟩ := hs
 obtain ⟨st,sm,hp,hw⟩ := h.pair
 have hev := rd_ok F h.of (es := #[Go.ConcX.rd (Go.ConcX.stA K.Wg)]) (fun e he => by rw [Array.mem_singleton] at he; subst he; exact .inl ⟨_,_,rfl,rfl⟩)
 obtain ⟨τ,hτ⟩ := zc5 hG
 exact Next.main (J.main_go (y' := .ke) F h hgo rfl (fun _ _ => rfl) (fun z => by cases z) (fun z => by cases z) (zg8 hp) ⟨st,sm,by cases x using Ch.casesT <;> first | exact hp | exact hp.elim,hw⟩ hev.1 (fun z => by cases z) hev.2 rfl hτ) fun _ => zi5 (by simp [Ma.rank])
theorem stop_ke (F : K.Fit) (h : J K L AnchW Post S c x .ke τc τm gs a b w t q) (hs : AtKek K L Post a w) : Next K AnchW Post c (runT K.P (crowd gs w sl) 0) t gs.size (mu (sumTo gs.size q) x .ke τc τm) := by
 obtain ⟨_,g',hgo,m,hG⟩ := hs
 obtain ⟨st,sm,hp,hw⟩ := h.pair
 obtain ⟨τ,hτ⟩ := zc5 hG
 exact Next.main (J.main_go (y' := .acq) F h hgo rfl (fun _ _ => rfl) (fun z => by cases z) (fun z => by cases z) (zg8 hp) ⟨st,sm,by cases x using Ch.casesT <;> first | exact hp | exact hp.elim,hw⟩ (one_none rfl) (fun z => by cases z) (one_norel (by simp)) rfl hτ) fun _ => zi5 (by simp [Ma.rank])
theorem stop_acq (h : J K L AnchW Post S c x .acq τc τm gs a b w t q) (hs : AtAcqk K L Post a w) : Next K AnchW Post c (runT K.P (crowd gs w sl) 0) t gs.size (mu (sumTo gs.size q) x .acq τc τm) := by
 obtain ⟨_,g',hgo,m,hG⟩ := hs
 obtain ⟨st,sm,hp,hw⟩ := h.pair
 have hlt : 0 < gs.size := (Array.getElem?_eq_some_iff.1 h.h0).1
 have hc0 : (0 : Nat) ≠ c := by have := h.pos; omega
 obtain ⟨n,d,rfl⟩ : ∃ n d,x = .quit n d := by cases x using Ch.casesT <;> first | exact ⟨_,_,rfl⟩ | exact hp.elim
 obtain ⟨hq,_⟩ := h.ch
 obtain ⟨r,hPT,hrel,hno⟩ : ∃ r,PT K.Shun (K.kidS S) K.stillL c (fun i => Before t i r) t ∧ Go.ConcN.RelBy K.stW t c r ∧ ∀ k,r < k → t.act? k ≠ some (.mark (.release K.stW)) := h.tr
 have eo : MemOp.ofEvents 0 a.frame.fn a.frame.place #[Go.ConcX.mk (.acquire (Go.ConcX.stA K.Wg))] = #[{ g := 0,fn := a.frame.fn,pos := a.frame.place,act := .mark (.acquire K.stW) }] := by simp [MemOp.ofEvents,MemAct.ofEvent,Go.ConcX.mk,Go.ConcX.stA,Cfg.stW]
 obtain ⟨B',hB1,hB2⟩ := trace_low (t ++ #[{ g := 0,fn := a.frame.fn,pos := a.frame.place,act := .mark (.acquire K.stW) }]) K.B
 have hP := hPT.join hrel h.d0 hno a.frame.fn a.frame.place B' hB2
 refine .inl ⟨_,_,runT_crowd_go (P := K.P) (sl := sl) (i := 0) h.h0 (show stepG K.P (0 == 0) a w = _ from hgo),_,g',w,sl,upd q c n,B',m,L,rfl,by simp,by simp [hlt],⟨fun i z hi hz => ?_,fun j hj => ?_⟩,by rw [eo]; exact hP,hB1,hG⟩
 ·
  rw [Array.getElem?_setIfInBounds_ne (by omega),Array.getElem?_map] at hz
  obtain ⟨z',hz',rfl⟩ := Option.map_eq_some_iff.1 hz
  by_cases hic : i = c
  ·
   subst hic
   rw [h.hc] at hz'
   obtain rfl := Option.some.inj hz'
   rw [woken_quitsD hq,upd_same,Deaf_other t hc0 _ ops_g,h.dc]
   exact hq
  ·
   have hqj := h.old i z' hi hic hz'
   rw [woken_quitsD hqj,upd_ne q n hic,Deaf_other t (g' := 0) (by omega) _ ops_g]
   exact hqj
 ·
  have hj' : gs.size ≤ j := by simpa using hj
  rw [Deaf_other t (g' := 0) (by omega) _ ops_g]
  exact h.above j hj'
theorem J.main_kd (F : K.Fit) (H : ShyOk K) (hAn : ∀ L,K.N0 ≤ L → ∀ g w,AnchW g w → ∃ m,Goes K.P true (RPak K) (DPik K L) (AtW1k K L AnchW Post) m g w) (h : J K L AnchW Post S c x .kd τc τm gs a b w t q) : Next K AnchW Post c (runT K.P (crowd gs w sl) 0) t gs.size (mu (sumTo gs.size q) x .kd τc τm) := by
 rcases TGoes.now (R := RPak K) h.ma (Go.ConcX.RPa.refl w) with hs | ⟨_,g',w',es, τ',e,d,hsub,hG⟩
 ·
  exact stop_kd F hAn h hs
 ·
  exact J.main_silent F H h rfl e d hG hsub
theorem J.joins (F : K.Fit) (h : J K L AnchW Post S c x .over τc τm gs a b w t q) (hs : AtJoin K AnchW a w) : ∃ L' τ,J K L' AnchW Post S c x .kd τc τ gs a b w t q := by
 obtain ⟨st,sm,hp,hwg⟩ := h.pair
 have hk0 := h.size rfl
 have hka : KPak K w := by
  have hw : Go.ConcX.WgAt K.ty K.Wg w st sm := hwg
  have : (st = KK ∧ sm = 0) ∨ (st = 0 ∧ sm = 0 ∧ x.rel = true) := by
   cases x using Ch.casesT <;> first | exact hp.elim | exact .inl ⟨hp.1,hp.2⟩ | exact .inr ⟨hp.1,hp.2,rfl⟩
  rcases this with ⟨rfl,rfl⟩ | ⟨rfl,rfl,hr⟩
  ·
   exact .inl hw
  ·
   exact .inr ⟨hw,h.full hr⟩
 obtain ⟨τ,hτ⟩ := hs.2 hka w.heap.size hk0
 refine ⟨w.heap.size, τ,⟨h.pos,h.h0,h.hc,h.old,h.above,h.ch,hτ,⟨st,sm,?_,hwg⟩,h.chA,h.chE,h.pay,h.full,(fun z => by cases z),h.kid0,h.of,(fun z => by cases z),fun _ => ⟨hk0,fun b hb => ((h.kid rfl b).1 hb).lt F hk0⟩,(fun z => by cases z),h.tr,h.d0,h.dc⟩⟩
 cases x using Ch.casesT <;> first | exact hp.elim | exact hp
theorem J.main_moves (F : K.Fit) (H : ShyOk K) (hAr : ∀ g w,AnchW g w → g.status = .running) (hAn : ∀ L,K.N0 ≤ L → ∀ g w,AnchW g w → ∃ m,Goes K.P true (RPak K) (DPik K L) (AtW1k K L AnchW Post) m g w) (h : J K L AnchW Post S c x y τc τm gs a b w t q) (hrun : a.status = .running) : Next K AnchW Post c (runT K.P (crowd gs w sl) 0) t gs.size (mu (sumTo gs.size q) x y τc τm) := by
 have hsel : ∀ vs,(y = .front vs ∨ y = .walk vs) → selOf K AnchW vs a w → Next K AnchW Post c (runT K.P (crowd gs w sl) 0) t gs.size (mu (sumTo gs.size q) x y τc τm) := by
  intro vs hy hs
  obtain ⟨gs',ops,x',y', τc', τm',a',b',w',L',e,hsz,hJ,hl⟩ := J.selects (sl := sl) F h hy hs
  refine .inr ⟨L',S,x',y', τc', τm',gs',a',b',w',sl,q,ops,e,hsz,hJ,?_⟩
  rcases hl with hl | ⟨rfl,rfl,hl⟩
  ·
   exact .single (lt_left hl)
  ·
   exact .single (zi5 hl)
 have hgo : ∀ {g' w' es τ'},y.early = true → stepG K.P true a w = .go g' w' es → DM K w w' es → Sub τ' τm → MaM K L AnchW Post y τ' g' w' → Next K AnchW Post c (runT K.P (crowd gs w sl) 0) t gs.size (mu (sumTo gs.size q) x y τc τm) := by
  intro g' w' es τ' hy e d hsub hG
  obtain ⟨st,sm,hp,hw⟩ := h.pair
  have hSk : ∀ b,S b → K.Kid w' b := fun b hb => ((h.kid hy b).1 hb).of_same (d.block b (.inl ((h.kid hy b).1 hb)))
  refine Next.main (J.main_go F h e rfl (fun k hk => d.block k ?_) (fun _ => d.born) (fun _ => d.grow) (fun _ => hy) ⟨st,sm,hp,(d.block _ (.inr (.inr (.inr (.inr rfl))))).trans hw⟩
   (fun e he z hz => ?_) (fun _ e he z hz => (((d.evs e he).1 z hz).2)) (fun e he => (d.evs e he).2.2.2) (deafBehind_still (fun e he => ⟨(d.evs e he).2.1,(d.evs e he).2.2.1⟩) _) hG) fun _ => lt_mτ rfl hsub
  ·
   rcases hk with z | z | z | z
   ·
    exact .inl ((h.kid hy k).1 z)
   ·
    exact .inr (.inl z)
   ·
    exact .inr (.inr (.inl z))
   ·
    exact .inr (.inr (.inr (.inl z)))
  ·
   have ok := ((d.evs e he).1 z hz).1
   exact ⟨fun hk => ok.kid (Cfg.kidS.mono hSk hk),ok.still,ok.shun⟩
 cases y using Ma.casesT with
 | front vs =>
  rcases TGoes.now (R := RM K) h.ma (RM.refl w) with hs | ⟨_,g',w',es, τ',e,d,hsub,hG⟩
  ·
   exact hsel vs (.inl rfl) hs
  ·
   exact hgo rfl e d hsub hG
 | walk vs =>
  rcases TGoes.now (R := RM K) h.ma (RM.refl w) with hs | ⟨_,g',w',es, τ',e,d,hsub,hG⟩
  ·
   exact hsel vs (.inr rfl) hs
  ·
   exact hgo rfl e d hsub hG
 | parkd vs => obtain ⟨_,g₂,rfl,_⟩ := h.ma; cases hrun
 | over =>
  rcases TGoes.now (R := RM K) h.ma (RM.refl w) with hs | ⟨_,g',w',es, τ',e,d,hsub,hG⟩
  ·
   obtain ⟨L', τ,hJ⟩ := J.joins F h hs
   exact (J.main_kd F H hAn hJ).mono (zi5 (by simp [Ma.rank]))
  ·
   exact hgo rfl e d hsub hG
 | kd => exact J.main_kd F H hAn h
 | w1 =>
  rcases TGoes.now (R := RPak K) h.ma (Go.ConcX.RPa.refl w) with hs | ⟨_,g',w',es, τ',e,d,hsub,hG⟩
  ·
   exact stop_w1 F h hs
  ·
   exact J.main_silent F H h rfl e d hG hsub
 | w2 =>
  rcases TGoes.now (R := RPak K) h.ma (Go.ConcX.RPa.refl w) with hs | ⟨_,g',w',es, τ',e,d,hsub,hG⟩
  ·
   exact stop_w2 F hAn h hs
  ·
   exact J.main_silent F H h rfl e d hG hsub
 | w3 =>
  rcases TGoes.now (R := RPbk K) h.ma (Go.ConcX.RPb.refl w) with hs | ⟨_,g',w',es, τ',e,d,hsub,hG⟩
  ·
   exact stop_w3 F h hs
  ·
   exact J.main_silent F H h rfl e d hG hsub
 | blk => obtain ⟨g₂,rfl,_⟩ := h.ma; cases hrun
 | w4 =>
  rcases TGoes.now (R := AtRel) h.ma (atRel_refl w) with hs | ⟨_,g',w',es, τ',e,d,hsub,hG⟩
  ·
   exact stop_w4 F h hs
  ·
   exact J.main_silent F H h rfl e d hG hsub
 | ke =>
  rcases TGoes.now (R := AtRel) h.ma (atRel_refl w) with hs | ⟨_,g',w',es, τ',e,d,hsub,hG⟩
  ·
   exact stop_ke F h hs
  ·
   exact J.main_silent F H h rfl e d hG hsub
 | acq =>
  rcases TGoes.now (R := AtRel) h.ma (atRel_refl w) with hs | ⟨_,g',w',es, τ',e,d,hsub,hG⟩
  ·
   exact stop_acq h hs
  ·
   exact J.main_silent F H h rfl e d hG hsub
end
end Go.Proofs.YtgcaionclkbehaaGreatDoor
