import Derived.Test.YtgcaionclkbehaaGreatDoorPairRun
set_option linter.all false
namespace Go.Proofs.YtgcaionclkbehaaGreatDoor
open Go.Conc
open Go.ConcN (sumTo upd sumTo_upd upd_ne upd_same)
variable {K : Cfg} [Go.ConcX.Payload] [Go.ConcR.Payload] [Go.ConcX.Shy K.Wg K.C] {AnchW : Goroutine → World → Prop} {Post : Value → World → Prop}
variable {L : Nat} {S S' : Nat → Prop} {c : Nat} {x x' : Ch} {y y' : Ma} {τc τm τc' τm' : Tr} {gs gs' : Array Goroutine} {a a' b b' : Goroutine} {w w' : World} {t u : Trace} {q : Nat → Nat} {sl : Option (Nat × Nat)} {es : Array Event}
theorem Next.child (h : ∃ gs' ops,runT K.P (crowd gs w sl) c = (.next (crowd gs' w' sl),ops) ∧ gs'.size = gs.size ∧ J K L AnchW Post S' c x' y' τc' τm' gs' a' b' w' (t ++ ops) q) (hlt : ∀ n,LtM (mu n x' y' τc' τm') (mu n x y τc τm)) :
  Next K AnchW Post c (runT K.P (crowd gs w sl) c) t gs.size (mu (sumTo gs.size q) x y τc τm) := by
 obtain ⟨gs',ops,e,hs,hJ⟩ := h
 exact .inr ⟨L,S',x',y', τc', τm',gs',a',b',w',sl,q,ops,e,hs,hJ, .single (hlt _)⟩
theorem zk4 (h : y' = y ∨ (y = .blk ∧ y' = .w3)) : y'.early = y.early := by rcases h with rfl | ⟨rfl,rfl⟩ <;> rfl
theorem evk_ok {e : Event} (h : EvK K w' e) : (∀ z,(MemAct.ofEvent e).touch? = some z → OkC K.Shun (K.kidL w') K.stillL z) ∧ e.loc ≠ .mark .disable ∧ e.loc ≠ .mark .enable := by
 rcases h with ⟨ad,wr,rfl,hk⟩ | ⟨b,wr,rfl,hk⟩
 ·
  refine ⟨fun z hz => ?_,by simp,by simp⟩
  rw [ofEvent_cell0] at hz
  simp only [MemAct.touch?,Option.some.injEq] at hz
  subst hz
  rcases hk with hk | ⟨hk,rfl⟩
  ·
   exact .inl (.inl ⟨ad,rfl,hk⟩)
  ·
   exact .inr (.inl ⟨⟨ad,rfl,hk⟩,rfl⟩)
 ·
  refine ⟨fun z hz => ?_,by simp,by simp⟩
  have hl : z.loc = .obj b := by cases wr <;> (simp [MemAct.ofEvent,MemAct.touch?] at hz; rw [← hz])
  exact .inl (.inr (.inr ⟨b,hl,hk⟩))
theorem okC_low (F : K.Fit) (hn : K.N0 ≤ w.heap.size) (hS : ∀ b,S b → K.Kid w b) {z : Touch} (h : OkC K.Shun (K.kidS S) K.stillL z) : lowLoc w.heap.size z.loc := by
 refine ⟨fun ad e => ?_,fun b e => ?_⟩
 ·
  rcases h with (⟨a,e',h⟩ | e' | ⟨a,e',h⟩) | ⟨⟨a,e',h⟩,_⟩ | ⟨h,_⟩
  ·
   rw [e] at e'; cases e'; exact (hS _ h).lt F hn
  iterate 2
   ·
    rw [e] at e'; cases e'
  ·
   rw [e] at e'; cases e'; exact Nat.lt_of_lt_of_le (F.s0 _ h) hn
  ·
   obtain ⟨a,e',h⟩ := F.shunCell _ h; rw [e] at e'; cases e'; exact Nat.lt_of_lt_of_le h hn
 ·
  rcases h with (⟨a,e',h⟩ | e' | ⟨a,e',h⟩) | ⟨⟨a,e',h⟩,_⟩ | ⟨h,_⟩
  ·
   rw [e] at e'; cases e'
  ·
   rw [e] at e'; cases e'; exact Nat.lt_of_lt_of_le F.E0 hn
  ·
   rw [e] at e'; cases e'; exact (hS _ h).lt F hn
  ·
   rw [e] at e'; cases e'
  ·
   obtain ⟨a,e',h⟩ := F.shunCell _ h; rw [e] at e'; cases e'
theorem evw_ok (F : K.Fit) {e : Event} (h : Go.ConcN.EvW K.Wg (OwnK K S) (RdK K) 1 e) : (∀ z,(MemAct.ofEvent e).touch? = some z → OkC K.Shun (K.kidS S) K.stillL z) ∧ e.loc ≠ .mark .disable ∧ e.loc ≠ .mark .enable := by
 obtain ⟨h1,h2,h3,_⟩ := h
 refine ⟨fun z hz => ?_,h2,h3⟩
 rcases (h1 0 "").2 z hz with ⟨⟨ad, e1, e2⟩, k1, k2⟩ | k | ⟨k1, k2⟩
 ·
  refine .inr (.inr ⟨by rw [e1]; exact F.shunW ad e2,?_⟩)
  cases e : z.kind <;> simp_all
 ·
  exact .inl k
 ·
  exact .inr (.inl ⟨k1,k2⟩)
theorem TrP.appC (F : K.Fit) (hS : ∃ w, ∀ b,S b → K.Kid w b) {fn : FuncId} {pos : String} (h : TrP K S c false t) (hev : ∀ e ∈ es, ∀ z,(MemAct.ofEvent e).touch? = some z → OkC K.Shun (K.kidS S) K.stillL z) : TrP K S c false (t ++ MemOp.ofEvents c fn pos es) :=
 PT.appC (F.apart hS) h ops_g (fun op hop z hz => by obtain ⟨e,he,rfl⟩ := Conc.mem_ofEvents hop; exact hev e he z hz)
theorem kid_same {b₀ : Nat} (hblk : ∀ k,k ≠ b₀ → w'.heap[k]? = w.heap[k]?) (hb : b₀ < K.N0) (b : Nat) : K.Kid w b ↔ K.Kid w' b := by
 by_cases e : b = b₀
 ·
  subst e; exact ⟨fun h => .inl (h.low hb),fun h => .inl (h.low hb)⟩
 ·
  exact ⟨fun h => h.of_same (hblk b e),fun h => h.of_same (hblk b e).symm⟩
theorem wg_of (hes : ∀ e ∈ es,(∃ ad wr,e = ⟨.cell ad,wr,true⟩ ∧ ad.block = K.Wg) ∨ e.loc = .mark .disable ∨ e.loc = .mark .enable) : ∀ e ∈ es, ∀ z,(MemAct.ofEvent e).touch? = some z → (∃ ad : Addr,z.loc = .cell ad ∧ ad.block = K.Wg) := by
 intro e he z hz
 rcases hes e he with ⟨a,wr,rfl,hb⟩ | h1 | h1
 ·
  have e1 : MemAct.ofEvent ⟨.cell a,wr,true⟩ = .access ⟨.cell a,wr,true⟩ := rfl
  rw [e1] at hz
  simp only [MemAct.touch?,Option.some.injEq] at hz
  subst hz
  exact ⟨a,rfl,hb⟩
 iterate 2
  ·
   obtain ⟨loc,wr,sy⟩ := e
   simp only at h1
   subst h1
   cases hz
theorem relM_of {st sm st' sm' : Int} (F : K.Fit) (ht : w'.tape = w.tape) (ho : w'.os = w.os) (hu : w'.output = w.output) (hblk : ∀ k,k ≠ K.C → k ≠ K.Wg → w'.heap[k]? = w.heap[k]?) (hsz : w'.heap.size = w.heap.size)
  (hw : K.wgIs w st sm) (hw' : K.wgIs w' st' sm')
  (ha : (st = KK ∧ sm = 0 ∧ ((st' = KK ∧ sm' = 0) ∨ (st' = 0 ∧ sm' = 0 ∧ Fullk K w')) ∧ (y = .kd ∨ y = .w1 ∨ y = .w2)) ∨
   (sm = 0 ∧ (y = .w3 ∨ y = .blk) ∧ (sm' = 0 ∧ (st' = KK + 1 ∨ st' = 1 ∨ st' = 0) ∨ (st' = 0 ∧ sm' = 1 ∧ Fullk K w'))) ∨ ((∃ vs,y = .walk vs) ∨ y = .over)) : RelM K y w w' := by
 have hX : Go.ConcX.WgAt K.ty K.Wg w st sm := hw
 have hX' : Go.ConcX.WgAt K.ty K.Wg w' st' sm' := hw'
 have hA2 : Go.ConcX.Aside2 K.C K.Wg w w' := ⟨ht,ho,hu,hsz,hblk⟩
 rcases ha with ⟨rfl,rfl,hst,hy⟩ | ⟨rfl,hy,hst⟩ | hyr
 ·
  have : RPak K w w' := by
   refine ⟨hA2,fun _ => ?_,fun hk => ?_⟩
   ·
    rcases hst with ⟨rfl,rfl⟩ | ⟨rfl,rfl,hf⟩
    ·
     exact .inl hX'
    ·
     exact .inr ⟨hX',hf⟩
   ·
    exact absurd (hX.unique hk.1).1 (by decide)
  rcases hy with rfl | rfl | rfl <;> exact this
 ·
  have : RPbk K w w' := by
   refine ⟨hA2,fun _ => ?_,fun hk => ?_⟩
   ·
    rcases hst with ⟨rfl,rfl | rfl | rfl⟩ | ⟨rfl,rfl,hf⟩
    ·
     exact .inl hX'
    ·
     exact .inr (.inl hX')
    ·
     exact .inr (.inr (.inl hX'))
    ·
     exact .inr (.inr (.inr ⟨hX',hf⟩))
   ·
    exact absurd (hX.unique hk.1).2 (by decide)
  rcases hy with rfl | rfl <;> exact this
 ·
  have : RM K w w' := ⟨ht,ho,hu,fun k _ h1 h2 => hblk k (fun e => h1 (e ▸ F.kC w)) (fun e => h2 (.inr (.inr e))),Nat.le_of_eq hsz.symm⟩
  rcases hyr with ⟨vs,rfl⟩ | rfl <;> exact this
section
variable (F : K.Fit) (hety : Go.ConcX.Payload.ety = Go.ConcR.Payload.ety) (hAr : ∀ g w,AnchW g w → g.status = .running)
theorem child_works (F : K.Fit) (hAr : ∀ g w,AnchW g w → g.status = .running) (h : J K L AnchW Post S c x y τc τm gs a b w t q) {vs : List Value} (hx : x = .fresh vs ∨ x = .work vs) (hgo : stepG K.P false b w = .go b' w' es) (hd : DK K w w' es) (hch : ChM K (K.Kid w') x τc' b' w') (hs : Sub τc' τc) :
  Next K AnchW Post c (runT K.P (crowd gs w sl) c) t gs.size (mu (sumTo gs.size q) x y τc τm) := by
 obtain ⟨st,sm,hp,hw⟩ := h.pair
 have hrm : RM K w w' := ⟨hd.tape,hd.os,hd.output,fun k hl hk _ => hd.block k hl hk,hd.grow⟩
 have hye : y.early = true ∧ RelM K y w w' := by
  rcases hx with rfl | rfl <;> cases y using Ma.casesT <;> first | exact hp.elim | exact ⟨rfl,hrm⟩
 have hn := h.size hye.1
 have hA : ∃ s,w'.heap[K.A]? = some (.chan 0 #[] false s s false) := by obtain ⟨s,hs⟩ := h.chA; exact ⟨s,(hd.block _ (Nat.lt_of_lt_of_le F.A0 hn) (F.kA w)).trans hs⟩
 have hE : w'.heap[K.E]? = some (.chan 0 #[] x.shut 0 0 false) := (hd.block _ (Nat.lt_of_lt_of_le F.E0 hn) (F.kE w)).trans h.chE
 have hshut : x.shut = false := by rcases hx with rfl | rfl <;> rfl
 have hrel : x.rel = false := by rcases hx with rfl | rfl <;> rfl
 have hdf : x.deaf = 0 := by rcases hx with rfl | rfl <;> rfl
 obtain ⟨y', τm',hma,hyy⟩ := (h.ma.rely hye.2).woken hAr (g := b) (g' := b') hA (fun _ => by rw [hshut] at hE; exact hE)
 have hev : ∀ e ∈ es,_ := fun e he => evk_ok (hd.evs e he)
 have hn' : K.N0 ≤ w'.heap.size := Nat.le_trans hn hd.grow
 refine Next.child (J.child_go (S' := K.Kid w') h hgo hma (zm3 hyy) (zk4 hyy) hch ⟨st,sm,zg7 hyy hp,(hd.block _ (Nat.lt_of_lt_of_le F.W0 hn) (F.kW w)).trans hw⟩ hA hE ?_ (fun hr => by rw [hrel] at hr; cases hr)
  (fun _ _ => Iff.rfl) (fun _ hb => .inl hb) ⟨w',fun _ hb => hb⟩ hd.grow (fun z => by rw [hye.1] at z; cases z) (fun _ e he z hz => okC_low F hn' (fun _ hb => hb) ((hev e he).1 z hz)) ?_ ?_) fun _ => lt_childτ rfl rfl hs
 ·
  obtain ⟨cs,hcs,hn⟩ := h.pay; exact ⟨cs,hd.keep.trans hcs,hn⟩
 ·
  have := h.tr
  rw [hrel] at this ⊢
  refine TrP.appC F ⟨w',fun _ hb => hb⟩ (this.grow (fun b hb => hd.stay b ((h.kid hye.1 b).1 hb)) (fun i z hz hk => ?_)) fun e he => (hev e he).1
  rcases h.lowT hye.1 i z hz with hlo | hlo | hlo
  ·
   refine .inl ?_
   rcases hk with ⟨ad,e,hk⟩ | e | ⟨b,e,hk⟩
   ·
    refine .inl ⟨ad,e,(h.kid hye.1 _).2 ?_⟩
    by_cases hkw : K.Kid w ad.block
    ·
     exact hkw
    ·
     exact hk.of_same (hd.block _ (hlo.1 ad e) hkw).symm
   ·
    exact .inr (.inl e)
   ·
    refine .inr (.inr ⟨b,e,(h.kid hye.1 _).2 ?_⟩)
    by_cases hkw : K.Kid w b
    ·
     exact hkw
    ·
     exact hk.of_same (hd.block _ (hlo.2 b e) hkw).symm
  ·
   exact .inr (.inl ⟨rfl,hlo⟩)
  ·
   exact .inr (.inr hlo)
 ·
  rw [hdf]; exact deafBehind_still (fun e he => ⟨(hev e he).2.1,(hev e he).2.2⟩) _
theorem child_closes (F : K.Fit) (hAr : ∀ g w,AnchW g w → g.status = .running) (h : J K L AnchW Post S c x y τc τm gs a b w t q) (hx : x = .fresh [] ∨ x = .work []) (hs : AtClose K b w) : Next K AnchW Post c (runT K.P (crowd gs w sl) c) t gs.size (mu (sumTo gs.size q) x y τc τm) := by
 obtain ⟨hrunb,hk0,hwake,g',hrun',hstep,hnext⟩ := hs
 obtain ⟨st,sm,hp,hw⟩ := h.pair
 have hshut : x.shut = false := by rcases hx with rfl | rfl <;> rfl
 have hrel : x.rel = false := by rcases hx with rfl | rfl <;> rfl
 have hdf : x.deaf = 0 := by rcases hx with rfl | rfl <;> rfl
 have hE := h.chE
 rw [hshut] at hE
 have hgo := hstep hE
 have off : ∀ k,k ≠ K.E → (w.setChan K.E 0 #[] true 0 0 false).heap[k]? = w.heap[k]? := fun k hk => heap_setChan_ne w _ _ _ _ _ _ (Ne.symm hk)
 have hA : ∃ s,(w.setChan K.E 0 #[] true 0 0 false).heap[K.A]? = some (.chan 0 #[] false s s false) := by obtain ⟨s,hs⟩ := h.chA; exact ⟨s,(off _ F.AE).trans hs⟩
 have hrm : RM K w (w.setChan K.E 0 #[] true 0 0 false) := ⟨rfl,rfl,rfl,fun k _ _ hk => off k (fun e => hk (.inr (.inl e))),by simp [World.setChan]⟩
 have hwg' : K.wgIs (w.setChan K.E 0 #[] true 0 0 false) st sm := (off _ (Ne.symm F.EW)).trans hw
 have hstsm : st = KK ∧ sm = 0 := by rcases hx with rfl | rfl <;> cases y using Ma.casesT <;> first | exact hp.elim | exact hp.2
 obtain ⟨rfl,rfl⟩ := hstsm
 have hma : ∃ τm',MaM K L AnchW Post (.walk []) τm' (Conc.woken K.P b g' (w.setChan K.E 0 #[] true 0 0 false) a) (w.setChan K.E 0 #[] true 0 0 false) := by
  have hcase : (∃ τ,TGoes K.P true (RM K) (DM K) (selOf K AnchW []) τ a w) ∨ (∃ g₀ g₂,a = parked g₂ K.cases .select ∧ selAt K AnchW [] g₀ g₂ w) := by
   have hma := h.ma
   rcases hx with rfl | rfl
   ·
    cases y using Ma.casesT with
    | front vs => obtain rfl : vs = [] := hp.1; exact .inl ⟨_,hma⟩
    | parkd vs => obtain rfl : vs = [] := hp.1; exact .inr hma
    | _ => exact hp.elim
   ·
    cases y using Ma.casesT with
    | walk vs => obtain rfl : vs = [] := hp.1; exact .inl ⟨_,hma⟩
    | parkd vs => obtain rfl : vs = [] := hp.1; exact .inr hma
    | _ => exact hp.elim
  rcases hcase with ⟨τ,hτ⟩ | ⟨g₀,g₂,rfl,hsel⟩
  ·
   rw [woken_run (TGoes.running RM.refl (fun _ _ => selOf.run) hτ)]
   exact ⟨τ,TGoes.rely (R := RM K) (fun _ _ _ => RM.trans) hτ hrm⟩
  ·
   have e1 : Conc.woken K.P b g' (w.setChan K.E 0 #[] true 0 0 false) (parked g₂ K.cases .select) = { parked g₂ K.cases .select with status := .running } := by
    unfold Conc.woken
    rw [if_pos (by simp [hwake,hrun'])]
    exact again_some_closed (k := 1) (c := K.E) (z := K.zE) rfl (heap_setChan_self w hE _ _ _ _ _ _)
   rw [e1]
   exact ⟨.leaf, .leaf fun w₁ h₁ => (hsel.rely (hrm.trans h₁)).tries⟩
 obtain ⟨τm',hma⟩ := hma
 have hrc : RC K w (w.setChan K.E 0 #[] true 0 0 false) := fun k hk => off k (by rintro rfl; exact hk.elim (F.kE w) F.sE)
 obtain ⟨τc',hch⟩ := hnext _ hrc ⟨_,_,hwg'⟩
 have eC := hrc K.C (.inl (F.kC w))
 have hye : y.early = true := by rcases hx with rfl | rfl <;> cases y using Ma.casesT <;> first | exact hp.elim | rfl
 have hks : ∀ b,K.Kid w b ↔ K.Kid (w.setChan K.E 0 #[] true 0 0 false) b := kid_same off F.E0
 have hsz : (w.setChan K.E 0 #[] true 0 0 false).heap.size = w.heap.size := by simp [World.setChan]
 have hcev : ∀ e ∈ closeEvents K.E, ∀ z,(MemAct.ofEvent e).touch? = some z → OkC K.Shun (K.kidL (w.setChan K.E 0 #[] true 0 0 false)) K.stillL z := fun e he z hz => by
  simp only [closeEvents,List.mem_toArray,List.mem_cons,List.not_mem_nil,or_false] at he
  rcases he with rfl | rfl
  ·
   simp only [MemAct.ofEvent,MemAct.touch?,Option.some.injEq] at hz
   subst hz
   exact .inl (.inr (.inl rfl))
  ·
   simp [MemAct.ofEvent,MemAct.touch?] at hz
 refine Next.child (J.child_go (x' := .r0) (S' := K.Kid (w.setChan K.E 0 #[] true 0 0 false)) h hgo hma (by rcases hx with rfl | rfl <;> cases y using Ma.casesT <;> first | exact hp.elim | rfl) (by rw [hye]; rfl) hch ⟨_,_,⟨rfl,rfl,rfl⟩,hwg'⟩ hA (heap_setChan_self w hE _ _ _ _ _ _) ?_ (fun hr => by cases hr)
  (fun _ _ => Iff.rfl) (fun _ hb => .inl hb) ⟨_,fun _ hb => hb⟩ (Nat.le_of_eq hsz.symm) (fun z => by rw [hye] at z; cases z) (fun _ e he z hz => okC_low F (by rw [hsz]; exact h.size hye) (fun _ hb => hb) (hcev e he z hz)) ?_ ?_) fun _ => lt_rank (by rcases hx with rfl | rfl <;> rfl) (by rcases hx with rfl | rfl <;> simp [Ch.rank])
 ·
  obtain ⟨cs,hcs,hn⟩ := h.pay; exact ⟨cs,eC.trans hcs,hn⟩
 ·
  have := h.tr
  rw [hrel] at this
  exact TrP.appC F ⟨_,fun _ hb => hb⟩ (this.grow (fun b hb => (hks b).1 ((h.kid hye b).1 hb)) (fun i z hz hk => .inl (Cfg.kidS.mono (fun b hb => (h.kid hye b).2 ((hks b).2 hb)) hk))) hcev
 ·
  rw [hdf]; rfl
theorem zm0 (hAr : ∀ g w,AnchW g w → g.status = .running) {st sm : Int} (h : J K L AnchW Post S c x y τc τm gs a b w t q) (hx : x.shut = true) (hp : Pair x y st sm) (hr : RelM K y w w') (hA : ∃ s,w'.heap[K.A]? = some (.chan 0 #[] false s s false)) :
  ∃ y' τm',MaM K L AnchW Post y' τm' (Conc.woken K.P b b' w' a) w' ∧ (y' = y ∨ (y = .blk ∧ y' = .w3)) :=
 (h.ma.rely hr).woken hAr hA (fun ⟨vs,e⟩ => by subst e; rw [pair_parked hp] at hx; cases hx)
theorem child_r0 (F : K.Fit) (hAr : ∀ g w,AnchW g w → g.status = .running) (h : J K L AnchW Post S c .r0 y τc τm gs a b w t q) (hgo : stepG K.P false b w = .go b' w' es) (hd : DJ K S w w' es) (hch : ChM K S .r0 τc' b' w') (hs : Sub τc' τc) :
  Next K AnchW Post c (runT K.P (crowd gs w sl) c) t gs.size (mu (sumTo gs.size q) .r0 y τc τm) := by
 obtain ⟨hasd,hev⟩ := hd
 obtain ⟨st,sm,hp,hw⟩ := h.pair
 have hblk : ∀ k,k ≠ K.C → w'.heap[k]? = w.heap[k]? := hasd.block
 have hA : ∃ s,w'.heap[K.A]? = some (.chan 0 #[] false s s false) := by obtain ⟨s,hs⟩ := h.chA; exact ⟨s,(hblk K.A (fun e => F.k0A (by rw [e]; exact F.k0C))).trans hs⟩
 have hw' : K.wgIs w' st sm := (hblk _ (Ne.symm F.CW)).trans hw
 have hrel : RelM K y w w' := by
  refine relM_of F hasd.tape hasd.os hasd.output (fun k h1 _ => hblk k h1) hasd.size hw hw' ?_
  cases y using Ma.casesT with
  | walk vs => exact .inr (.inr (.inl ⟨vs,rfl⟩))
  | over => exact .inr (.inr (.inr rfl))
  | kd => exact .inl ⟨hp.1,hp.2, .inl hp, .inl rfl⟩
  | w1 => exact .inl ⟨hp.1,hp.2, .inl hp, .inr (.inl rfl)⟩
  | w2 => exact .inl ⟨hp.1,hp.2, .inl hp, .inr (.inr rfl)⟩
  | w3 => exact .inr (.inl ⟨hp.2, .inl rfl, .inl ⟨hp.2, .inl hp.1⟩⟩)
  | blk => exact .inr (.inl ⟨hp.2, .inr rfl, .inl ⟨hp.2, .inl hp.1⟩⟩)
  | _ => exact hp.elim
 obtain ⟨y', τm',hma,hyy⟩ := zm0 (b' := b') hAr h rfl hp hrel hA
 have hev' : ∀ e ∈ es,_ := fun e he => evw_ok F (hev e he)
 have hks : ∀ b,K.Kid w b ↔ K.Kid w' b := kid_same hblk (F.c0 _ F.k0C)
 refine Next.child (J.child_go (S' := S) h hgo hma (zm3 hyy) (zk4 hyy) hch ⟨st,sm,zg7 hyy hp,hw'⟩ hA ((hblk K.E (fun e => F.k0E (by rw [e]; exact F.k0C))).trans h.chE) (hasd.pay h.pay) (fun hr => by cases hr)
  (fun z b => (h.kid z b).trans (hks b)) h.kid0 h.of (Nat.le_of_eq hasd.size.symm) (fun z => (h.lowK z).2) (fun z e he z' hz => okC_low F (by rw [hasd.size]; exact h.size z) (fun b hb => (hks b).1 ((h.kid z b).1 hb)) ((hev' e he).1 z' hz)) ?_ ?_) fun _ => lt_childτ rfl rfl hs
 ·
  exact TrP.appC F h.of h.tr fun e he => (hev' e he).1
 ·
  exact deafBehind_still (fun e he => ⟨(hev' e he).2.1,(hev' e he).2.2⟩) _
theorem child_releases (F : K.Fit) (hety : Go.ConcX.Payload.ety = Go.ConcR.Payload.ety) (hAr : ∀ g w,AnchW g w → g.status = .running) (h : J K L AnchW Post S c .r0 y τc τm gs a b w t q) (hs : AtR0k K b w) : Next K AnchW Post c (runT K.P (crowd gs w sl) c) t gs.size (mu (sumTo gs.size q) .r0 y τc τm) := by
 obtain ⟨_,hhas,g',hgo,m,hG⟩ := hs
 obtain ⟨st,sm,hp,hw⟩ := h.pair
 obtain ⟨y', τm',hma,hyy⟩ := zm0 (b' := g') hAr h rfl hp (w' := w) (RelM.at y w w.drawn) h.chA
 obtain ⟨τ,hτ⟩ := zc5 hG
 have hfull : Fullk K w := by
  intro _
  obtain ⟨cs,hcs,hn⟩ := h.pay
  have h1 : w.cell? ⟨K.C,0,none⟩ = some K.val := hhas
  rw [hety]
  rw [hcs]
  simp only [World.cell?,hcs,Option.isSome_none,Bool.false_eq_true,if_false] at h1
  obtain ⟨l⟩ := cs
  match l,hn with
  | [v],_ =>
   simp only [List.getElem?_toArray,List.getElem?_cons_zero,Option.some.injEq] at h1
   rw [h1]
 have hd0 : Deaf t c = 0 := h.dc
 refine Next.child (J.child_go (x' := .k1) (S' := S) (τc' := τ) h hgo hma (zm3 hyy) (zk4 hyy) hτ ⟨st,sm,zg7 hyy (by cases y using Ma.casesT <;> first | exact hp | exact hp.elim),hw⟩ h.chA h.chE h.pay (fun _ => hfull) h.kid h.kid0 h.of (Nat.le_refl _) (fun z => (h.lowK z).2) (fun _ e he z hz => by rw [Array.mem_singleton] at he; subst he; cases hz) ?_ rfl) fun _ => lt_rank rfl (by simp [Ch.rank])
 have eo : MemOp.ofEvents c b.frame.fn b.frame.place #[Go.ConcR.mk (.releaseMerge (Go.ConcR.stA K.Wg))] = #[{ g := c,fn := b.frame.fn,pos := b.frame.place,act := .mark (.releaseMerge K.stW) }] := by simp [MemOp.ofEvents,MemAct.ofEvent,Go.ConcR.mk,Go.ConcR.stA,Cfg.stW]
 have hrb := Go.ConcN.RelBy.new (a := K.stW) hd0 b.frame.fn b.frame.place
 refine ⟨t.size,?_,hrb,fun k hk e => ?_⟩
 ·
  rw [eo]; exact PT.release h.tr rfl rfl
 ·
  have := lt_of_act? e
  rw [eo] at this
  simp at this
  omega
theorem zm2 (F : K.Fit) (hAr : ∀ g w,AnchW g w → g.status = .running) (h : J K L AnchW Post S c x y τc τm gs a b w t q) (hx : x.shut = true) (hgo : stepG K.P false b w = .go b' w' es) (hd : DC0k w w' es) (hch : ChM K S x τc' b' w') (hs : Sub τc' τc) :
  Next K AnchW Post c (runT K.P (crowd gs w sl) c) t gs.size (mu (sumTo gs.size q) x y τc τm) := by
 obtain ⟨rfl,rfl⟩ := hd
 obtain ⟨st,sm,hp,hw⟩ := h.pair
 obtain ⟨y', τm',hma,hyy⟩ := zm0 (b' := b') hAr h hx hp (RelM.at y w' w'.drawn) h.chA
 refine Next.child (J.child_go (S' := S) h hgo hma (zm3 hyy) (zk4 hyy) hch ⟨st,sm,zg7 hyy hp,hw⟩ h.chA h.chE h.pay h.full h.kid h.kid0 h.of (Nat.le_refl _) (fun z => (h.lowK z).2) (fun _ e he => by simp at he) ?_ rfl) fun _ => lt_childτ rfl rfl hs
 rw [ofEvents_none,Array.append_empty]; exact h.tr
theorem TrP.appA (F : K.Fit) (hS : ∃ w, ∀ b,S b → K.Kid w b) (h : TrP K S c true t) (hd : Deaf t c = 1) {fn : FuncId} {pos : String} (hes : ∀ e ∈ es,(∃ ad wr,e = ⟨.cell ad,wr,true⟩ ∧ ad.block = K.Wg) ∨ e.loc = .mark .disable ∨ e.loc = .mark .enable)
  (hdf : ∀ j e,es[j]? = some e → (MemAct.ofEvent e).touch? = none ∨ ((∃ ad wr,e = ⟨.cell ad,wr,true⟩) ∧ 0 < deafBehind 1 (es.extract 0 j))) : TrP K S c true (t ++ MemOp.ofEvents c fn pos es) := by
 obtain ⟨r,hp,hr,hno⟩ := h
 refine ⟨r,PT.appA hp hr.g ops_g (fun op hop z hz => ?_),hr.appOwn fn pos es (by rw [hd]; exact hdf),fun k hk e => ?_⟩
 ·
  obtain ⟨e,he,rfl⟩ := Conc.mem_ofEvents hop
  rcases hes e he with ⟨ad,wr,rfl,hb⟩ | h1 | h1
  ·
   have e1 : MemAct.ofEvent ⟨.cell ad,wr,true⟩ = .access ⟨.cell ad,wr,true⟩ := rfl
   rw [e1] at hz
   simp only [MemAct.touch?,Option.some.injEq] at hz
   subst hz
   exact ⟨F.shunW ad hb,rfl⟩
  iterate 2
   ·
    obtain ⟨loc,wr,sy⟩ := e
    simp only at h1
    subst h1
    cases hz
 ·
  obtain ⟨op,ho,hoa⟩ := Option.map_eq_some_iff.1 e
  rcases getElem?_append_cases ho with ⟨_,ho'⟩ | ⟨_,hou⟩
  ·
   exact hno k hk (by rw [act?_of ho',hoa])
  ·
   obtain ⟨e,he,rfl⟩ := Conc.mem_ofEvents hou
   exact (rd_ok F hS hes).2 e he hoa
theorem zi9 (F : K.Fit) (hAr : ∀ g w,AnchW g w → g.status = .running) {st sm st' sm' : Int} (h : J K L AnchW Post S c x y τc τm gs a b w t q) (hx : x.shut = true) (hxr : x.rel = true) (hx' : x'.shut = true) (hxr' : x'.rel = true) (hp : Pair x y st sm) (hw : K.wgIs w st sm) (hgo : stepG K.P false b w = .go b' w' es)
  (hasd : Aside K.Wg w w') (hw' : K.wgIs w' st' sm') (hrel : RelM K y w w') (hch : ChM K S x' τc' b' w') (hp' : ∀ y',(y' = y ∨ (y = .blk ∧ y' = .w3)) → (y' = .blk → y = .blk ∧ (mayWake K.P b = true → b'.status = .blocked ∨ b'.status = .waiting)) → Pair x' y' st' sm')
  (hl : x'.left = x.left) (hrk : x'.rank < x.rank) (hes : ∀ e ∈ es, ∀ z,(MemAct.ofEvent e).touch? = some z → (∃ ad : Addr,z.loc = .cell ad ∧ ad.block = K.Wg))
  (htr : TrP K S c true (t ++ MemOp.ofEvents c b.frame.fn b.frame.place es)) (hdf : deafBehind x.deaf es = x'.deaf) : Next K AnchW Post c (runT K.P (crowd gs w sl) c) t gs.size (mu (sumTo gs.size q) x y τc τm) := by
 have hA : ∃ s,w'.heap[K.A]? = some (.chan 0 #[] false s s false) := by obtain ⟨s,hs⟩ := h.chA; exact ⟨s,(hasd.block _ F.AW).trans hs⟩
 obtain ⟨y', τm',hma,hyy⟩ := zm0 (b' := b') hAr h hx hp hrel hA
 have eC := hasd.block K.C F.CW
 have hE : w'.heap[K.E]? = some (.chan 0 #[] x'.shut 0 0 false) := by rw [hx', ← hx]; exact (hasd.block _ F.EW).trans h.chE
 have hks : ∀ b,K.Kid w b ↔ K.Kid w' b := kid_same hasd.block F.W0
 refine Next.child (J.child_go (x' := x') (S' := S) h hgo hma (zm3 hyy) (zk4 hyy) hch ⟨st',sm',hp' y' hyy ?_,hw'⟩ hA hE ?_ (fun _ => Go.ConcX.ChanAt.of_block (h.full hxr) eC)
  (fun z b => (h.kid z b).trans (hks b)) h.kid0 h.of (Nat.le_of_eq hasd.size.symm) (fun z => (h.lowK z).2) (fun z e he z' hz => by obtain ⟨ad,hl,hb⟩ := hes e he z' hz; refine ⟨fun ad' e' => ?_,fun b e' => ?_⟩; (rw [hl] at e'; cases e'; rw [hb,hasd.size]; exact Nat.lt_of_lt_of_le F.W0 (h.size z)); (rw [hl] at e'; cases e')) (by rw [hxr']; exact htr) hdf) fun _ => lt_rank hl hrk
 ·
  rintro rfl
  have hyb : y = .blk := hyy.elim (fun e => e.symm) (fun e => e.1)
  subst hyb
  refine ⟨rfl,fun hmw => ?_⟩
  obtain ⟨g₂,e,hs2,ho2,_⟩ := hma
  obtain ⟨g₃,rfl,hs3,ho3,_⟩ := h.ma
  by_cases hb : b'.status = .blocked ∨ b'.status = .waiting
  ·
   exact hb
  ·
   exfalso
   unfold Conc.woken at e
   rw [if_pos (by simp [hmw]; exact ⟨fun z => hb (.inl z),fun z => hb (.inr z)⟩),Go.ConcX.again_blocked hs3 ho3] at e
   rw [e] at hs3
   cases hs3
 ·
  obtain ⟨cs,hcs,hn⟩ := h.pay; exact ⟨cs,eC.trans hcs,hn⟩
theorem zm1 (w : World) (a : Addr) (v : Value) : Aside a.block w (w.setCell a v) := ⟨rfl,rfl,rfl,by simp [World.setCell],fun k hk => Go.RowKit.Below.heap_setCell _ _ _ _ hk⟩
theorem child_k1 (F : K.Fit) (hAr : ∀ g w,AnchW g w → g.status = .running) (h : J K L AnchW Post S c .k1 y τc τm gs a b w t q) (hs : AtK1k K b w) : Next K AnchW Post c (runT K.P (crowd gs w sl) c) t gs.size (mu (sumTo gs.size q) .k1 y τc τm) := by
 obtain ⟨_,g',hgo,m,hG⟩ := hs
 obtain ⟨st,sm,hp,hw⟩ := h.pair
 obtain ⟨τ,hτ⟩ := zc5 hG
 refine zi9 (x' := .d1) (τc' := τ) F hAr h rfl rfl rfl rfl hp hw hgo (Aside.refl _ _) hw (RelM.at y w w.drawn) hτ (fun y' hyy _ => zg7 hyy (by cases y using Ma.casesT <;> first | exact hp | exact hp.elim)) rfl (by simp [Ch.rank]) (fun e he z hz => by rw [Array.mem_singleton] at he; subst he; cases hz) ?_ rfl
 exact h.tr.mute (fun op hop => by obtain ⟨e,he,rfl⟩ := Conc.mem_ofEvents hop; rw [Array.mem_singleton] at he; subst he; rfl) (fun op hop => by obtain ⟨e,he,rfl⟩ := Conc.mem_ofEvents hop; rw [Array.mem_singleton] at he; subst he; exact fun z => by cases z)
theorem two_ok : ∀ e ∈ (#[Go.ConcR.rd (Go.ConcR.stA K.Wg),Go.ConcR.wr (Go.ConcR.stA K.Wg)] : Array Event),(∃ ad wr,e = ⟨.cell ad,wr,true⟩ ∧ ad.block = K.Wg) ∨ e.loc = .mark .disable ∨ e.loc = .mark .enable := by
 intro e he
 simp only [List.mem_toArray,List.mem_cons,List.not_mem_nil,or_false] at he
 rcases he with rfl | rfl <;> exact .inl ⟨_,_,rfl,rfl⟩
theorem child_d1 (F : K.Fit) (hAr : ∀ g w,AnchW g w → g.status = .running) (h : J K L AnchW Post S c .d1 y τc τm gs a b w t q) (hs : AtD1k K b w) : Next K AnchW Post c (runT K.P (crowd gs w sl) c) t gs.size (mu (sumTo gs.size q) .d1 y τc τm) := by
 obtain ⟨_,hstep⟩ := hs
 obtain ⟨st,sm,hp,hw⟩ := h.pair
 have hcase : (st = KK ∧ sm = 0 ∧ ((y = .kd ∨ y = .w1 ∨ y = .w2) ∨ (y = .walk [] ∨ y = .over))) ∨ (st = KK + 1 ∧ sm = 0 ∧ (y = .w3 ∨ y = .blk)) := by
  cases y using Ma.casesT with
  | walk vs => obtain ⟨rfl,h1,h2⟩ := hp; exact .inl ⟨h1,h2, .inr (.inl rfl)⟩
  | over => exact .inl ⟨hp.1,hp.2, .inr (.inr rfl)⟩
  | kd => exact .inl ⟨hp.1,hp.2, .inl (.inl rfl)⟩
  | w1 => exact .inl ⟨hp.1,hp.2, .inl (.inr (.inl rfl))⟩
  | w2 => exact .inl ⟨hp.1,hp.2, .inl (.inr (.inr rfl))⟩
  | w3 => exact .inr ⟨hp.1,hp.2, .inl rfl⟩
  | blk => exact .inr ⟨hp.1,hp.2, .inr rfl⟩
  | _ => exact hp.elim
 have htr : TrP K S c true (t ++ MemOp.ofEvents c b.frame.fn b.frame.place #[Go.ConcR.rd (Go.ConcR.stA K.Wg),Go.ConcR.wr (Go.ConcR.stA K.Wg)]) := by
  refine TrP.appA F h.of h.tr h.dc two_ok (fun j e he => .inr ?_)
  rcases j with _ | _ | j
  ·
   simp at he; subst he; exact ⟨⟨_,_,rfl⟩,by simp [deafBehind]⟩
  ·
   simp at he; subst he; exact ⟨⟨_,_,rfl⟩,by simp [deafBehind,Go.ConcR.rd]⟩
  ·
   simp at he
 have eC : ∀ v : Value,(w.setCell (Go.ConcR.stA K.Wg) v).heap[K.C]? = w.heap[K.C]? := fun v => (zm1 w (Go.ConcR.stA K.Wg) v).block _ F.CW
 rcases hcase with ⟨rfl,rfl,hy⟩ | ⟨rfl,rfl,hy⟩
 ·
  obtain ⟨g',hgo,_,hq⟩ := hstep 0 0 (by omega) (by omega) (by rw [show (((0 : Nat) : Int) + 1) * Go.ConcR.KK + ((0 : Nat) : Int) = KK by decide]; exact hw)
  obtain ⟨n,hq⟩ := hq (by simp)
  have hw' : K.wgIs (w.setCell (Go.ConcR.stA K.Wg) (.int .u64 0)) 0 0 := Go.ConcX.WgAt.setSt (show Go.ConcX.WgAt K.ty K.Wg w KK 0 from hw) 0
  have hgo' : stepG K.P false b w = .go g' (w.setCell (Go.ConcR.stA K.Wg) (.int .u64 0)) #[Go.ConcR.rd (Go.ConcR.stA K.Wg),Go.ConcR.wr (Go.ConcR.stA K.Wg)] := by rw [hgo]; simp
  have hasd := zm1 w (Go.ConcR.stA K.Wg) (.int .u64 0)
  refine zi9 (x' := .quit n 1) (τc' := .ofNat n) F hAr h rfl rfl rfl rfl hp hw hgo' hasd hw' ?_ ⟨hq,rfl⟩ (fun y' hyy _ => zg7 hyy ?_) rfl (by simp [Ch.rank]) (wg_of two_ok) htr rfl
  ·
   refine relM_of F rfl rfl rfl (fun k _ h2 => hasd.block k h2) hasd.size hw hw' ?_
   rcases hy with hy | rfl | rfl
   ·
    exact .inl ⟨rfl,rfl, .inr ⟨rfl,rfl,Go.ConcX.ChanAt.of_block (h.full rfl) (eC _)⟩,hy⟩
   ·
    exact .inr (.inr (.inl ⟨_,rfl⟩))
   ·
    exact .inr (.inr (.inr rfl))
  ·
   rcases hy with (rfl | rfl | rfl) | rfl | rfl <;> first | exact ⟨rfl,rfl⟩ | exact ⟨rfl,rfl,rfl⟩
 ·
  obtain ⟨g',hgo,hm,_⟩ := hstep 0 1 (by omega) (by omega) (by rw [show (((0 : Nat) : Int) + 1) * Go.ConcR.KK + ((1 : Nat) : Int) = KK + 1 by decide]; exact hw)
  obtain ⟨m,hG⟩ := hm ⟨rfl,rfl⟩
  have hw' : K.wgIs (w.setCell (Go.ConcR.stA K.Wg) (.int .u64 1)) 1 0 := Go.ConcX.WgAt.setSt (show Go.ConcX.WgAt K.ty K.Wg w (KK + 1) 0 from hw) 1
  have hgo' : stepG K.P false b w = .go g' (w.setCell (Go.ConcR.stA K.Wg) (.int .u64 1)) #[Go.ConcR.rd (Go.ConcR.stA K.Wg),Go.ConcR.wr (Go.ConcR.stA K.Wg)] := by rw [hgo]; simp
  have hasd := zm1 w (Go.ConcR.stA K.Wg) (.int .u64 1)
  have hG' : Goes K.P false (RWk K) DC0k (AtD2k K) m g' (w.setCell (Go.ConcR.stA K.Wg) (.int .u64 1)) := by simpa using hG
  obtain ⟨τ,hτ⟩ := zc5 hG'
  refine zi9 (x' := .d2) (τc' := τ) F hAr h rfl rfl rfl rfl hp hw hgo' hasd hw' ?_ hτ (fun y' hyy _ => zg7 hyy ?_) rfl (by simp [Ch.rank]) (wg_of two_ok) htr rfl
  ·
   exact relM_of F rfl rfl rfl (fun k _ h2 => hasd.block k h2) hasd.size hw hw' (.inr (.inl ⟨rfl,hy, .inl ⟨rfl, .inr (.inl rfl)⟩⟩))
  ·
   rcases hy with rfl | rfl <;> exact ⟨rfl,rfl⟩
theorem one_ok {wr : Bool} {j : Nat} {e : Event} (he : (#[(⟨.cell (Go.ConcR.stA K.Wg),wr,true⟩ : Event)])[j]? = some e) :
  (MemAct.ofEvent e).touch? = none ∨ ((∃ ad wr,e = ⟨.cell ad,wr,true⟩) ∧ 0 < deafBehind 1 ((#[(⟨.cell (Go.ConcR.stA K.Wg),wr,true⟩ : Event)]).extract 0 j)) := by
 rcases j with _ | j
 ·
  simp at he; subst he; exact .inr ⟨⟨_,_,rfl⟩,by simp [deafBehind]⟩
 ·
  simp at he
theorem child_d2 (F : K.Fit) (hAr : ∀ g w,AnchW g w → g.status = .running) (h : J K L AnchW Post S c .d2 y τc τm gs a b w t q) (hs : AtD2k K b w) : Next K AnchW Post c (runT K.P (crowd gs w sl) c) t gs.size (mu (sumTo gs.size q) .d2 y τc τm) := by
 obtain ⟨_,hstep⟩ := hs
 obtain ⟨st,sm,hp,hw⟩ := h.pair
 have hy : st = 1 ∧ sm = 0 := by cases y using Ma.casesT <;> first | exact hp | exact hp.elim
 obtain ⟨rfl,rfl⟩ := hy
 obtain ⟨g',hgo,m,hG⟩ := hstep hw
 obtain ⟨τ,hτ⟩ := zc5 hG
 refine zi9 (x' := .d3) (τc' := τ) F hAr h rfl rfl rfl rfl hp hw hgo (Aside.refl _ _) hw (RelM.at y w w.drawn) hτ (fun y' hyy _ => zg7 hyy (by cases y using Ma.casesT <;> first | exact hp | exact hp.elim)) rfl (by simp [Ch.rank]) (wg_of fun e he => by rw [Array.mem_singleton] at he; subst he; exact .inl ⟨_,_,rfl,rfl⟩) ?_ rfl
 exact TrP.appA F h.of h.tr h.dc (fun e he => by rw [Array.mem_singleton] at he; subst he; exact .inl ⟨_,_,rfl,rfl⟩) (fun j e he => one_ok (K := K) he)
theorem child_d3 (F : K.Fit) (hAr : ∀ g w,AnchW g w → g.status = .running) (h : J K L AnchW Post S c .d3 y τc τm gs a b w t q) (hs : AtD3k K b w) : Next K AnchW Post c (runT K.P (crowd gs w sl) c) t gs.size (mu (sumTo gs.size q) .d3 y τc τm) := by
 obtain ⟨_,hstep⟩ := hs
 obtain ⟨st,sm,hp,hw⟩ := h.pair
 have hy : st = 1 ∧ sm = 0 ∧ (y = .w3 ∨ y = .blk) := by
  cases y using Ma.casesT with
  | w3 => exact ⟨hp.1,hp.2, .inl rfl⟩
  | blk => exact ⟨hp.1,hp.2, .inr rfl⟩
  | _ => exact hp.elim
 obtain ⟨rfl,rfl,hy⟩ := hy
 obtain ⟨g',hgo,m,hG⟩ := hstep hw
 obtain ⟨τ,hτ⟩ := zc5 hG
 have hw' : K.wgIs (w.setCell (Go.ConcR.stA K.Wg) (.int .u64 0)) 0 0 := Go.ConcX.WgAt.setSt (show Go.ConcX.WgAt K.ty K.Wg w 1 0 from hw) 0
 have hasd := zm1 w (Go.ConcR.stA K.Wg) (.int .u64 0)
 refine zi9 (x' := .d4) (τc' := τ) F hAr h rfl rfl rfl rfl hp hw hgo hasd hw' ?_ hτ (fun y' hyy _ => zg7 hyy (by rcases hy with rfl | rfl <;> exact ⟨rfl,rfl⟩)) rfl (by simp [Ch.rank]) (wg_of fun e he => by rw [Array.mem_singleton] at he; subst he; exact .inl ⟨_,_,rfl,rfl⟩) ?_ rfl
 ·
  exact relM_of F rfl rfl rfl (fun k _ h2 => hasd.block k h2) hasd.size hw hw' (.inr (.inl ⟨rfl,hy, .inl ⟨rfl, .inr (.inr rfl)⟩⟩))
 ·
  exact TrP.appA F h.of h.tr h.dc (fun e he => by rw [Array.mem_singleton] at he; subst he; exact .inl ⟨_,_,rfl,rfl⟩) (fun j e he => one_ok (K := K) he)
theorem child_d4 (F : K.Fit) (hAr : ∀ g w,AnchW g w → g.status = .running) (h : J K L AnchW Post S c .d4 y τc τm gs a b w t q) (hs : AtD4k K b w) : Next K AnchW Post c (runT K.P (crowd gs w sl) c) t gs.size (mu (sumTo gs.size q) .d4 y τc τm) := by
 obtain ⟨_,hwake,hstep⟩ := hs
 obtain ⟨st,sm,hp,hw⟩ := h.pair
 have hy : st = 0 ∧ sm = 0 ∧ (y = .w3 ∨ y = .blk) := by
  cases y using Ma.casesT with
  | w3 => exact ⟨hp.1,hp.2, .inl rfl⟩
  | blk => exact ⟨hp.1,hp.2, .inr rfl⟩
  | _ => exact hp.elim
 obtain ⟨rfl,rfl,hy⟩ := hy
 obtain ⟨g',hgo,n,hq⟩ := hstep hw
 have hw' : K.wgIs (w.setCell (Go.ConcR.smA K.Wg) (.int .u32 1)) 0 1 := Go.ConcX.WgAt.setSm (show Go.ConcX.WgAt K.ty K.Wg w 0 0 from hw) 1
 have hasd := zm1 w (Go.ConcR.smA K.Wg) (.int .u32 1)
 have eC : (w.setCell (Go.ConcR.smA K.Wg) (.int .u32 1)).heap[K.C]? = w.heap[K.C]? := hasd.block _ F.CW
 refine zi9 (x' := .quit n 1) (τc' := .ofNat n) F hAr h rfl rfl rfl rfl hp hw hgo hasd hw' ?_ ⟨hq,rfl⟩ (fun y' hyy hb => ?_) rfl (by simp [Ch.rank]) (wg_of sem_ok) ?_ rfl
 ·
  exact relM_of F rfl rfl rfl (fun k _ h2 => hasd.block k h2) hasd.size hw hw' (.inr (.inl ⟨rfl,hy, .inr ⟨rfl,rfl,Go.ConcX.ChanAt.of_block (h.full rfl) eC⟩⟩))
 ·
  have : y' = .w3 := by
   rcases hyy with rfl | ⟨_,rfl⟩
   ·
    rcases hy with rfl | rfl
    ·
     rfl
    ·
     have := (hb rfl).2 hwake
     rcases hq.status with e | e <;> rw [e] at this <;> rcases this with z | z <;> cases z
   ·
    rfl
  subst this
  exact ⟨rfl,rfl⟩
 ·
  refine TrP.appA F h.of h.tr h.dc sem_ok (fun j e he => ?_)
  rcases j with _ | _ | _ | _ | j
  ·
   simp [semEvents] at he; subst he; exact .inl rfl
  iterate 2
   ·
    simp [semEvents] at he; subst he; exact .inr ⟨⟨_,_,rfl⟩,by simp [semEvents,deafBehind]⟩
  ·
   simp [semEvents] at he; subst he; exact .inl rfl
  ·
   simp [semEvents] at he
theorem child_quits (F : K.Fit) (hAr : ∀ g w,AnchW g w → g.status = .running) {n d : Nat} (h : J K L AnchW Post S c (.quit n d) y τc τm gs a b w t q) (hrun : b.status = .running) : Next K AnchW Post c (runT K.P (crowd gs w sl) c) t gs.size (mu (sumTo gs.size q) (.quit n d) y τc τm) := by
 obtain ⟨hq,rfl⟩ := h.ch
 obtain ⟨st,sm,hp,hw⟩ := h.pair
 cases n with
 | zero => rw [hq.1] at hrun; cases hrun
 | succ k =>
  rcases hq with ⟨hf,_⟩ | ⟨_,g',es,hm,hstp,hq'⟩
  ·
   rw [hf] at hrun; cases hrun
  obtain ⟨y', τm',hma,hyy⟩ := zm0 (b' := g') hAr h rfl hp (RelM.at y w w.drawn) h.chA
  refine Next.child (J.child_go (x' := .quit k (deafBehind d es)) (S' := S) (τc' := .ofNat k) h (hstp w) hma (zm3 hyy) (zk4 hyy) ⟨hq',rfl⟩ ⟨st,sm,zg7 hyy (by cases y using Ma.casesT <;> first | exact hp | exact hp.elim),hw⟩ h.chA h.chE h.pay h.full h.kid h.kid0 h.of (Nat.le_refl _) (fun z => (h.lowK z).2) (fun _ e he z hz => by rw [touch_mute (hm e he)] at hz; cases hz) ?_ rfl) fun _ => lt_childτ rfl rfl (sub_ofNat k w)
  exact h.tr.mute (fun op hop => by obtain ⟨e,he,rfl⟩ := Conc.mem_ofEvents hop; exact touch_mute (hm e he)) (fun op hop => by obtain ⟨e,he,rfl⟩ := Conc.mem_ofEvents hop; exact mute_norel (hm e he))
theorem J.child_moves (F : K.Fit) (hety : Go.ConcX.Payload.ety = Go.ConcR.Payload.ety) (hAr : ∀ g w,AnchW g w → g.status = .running) (h : J K L AnchW Post S c x y τc τm gs a b w t q) (hrun : b.status = .running) : Next K AnchW Post c (runT K.P (crowd gs w sl) c) t gs.size (mu (sumTo gs.size q) x y τc τm) := by
 have hsend : ∀ vs,(x = .fresh vs ∨ x = .work vs) → sendOf K vs b w → Next K AnchW Post c (runT K.P (crowd gs w sl) c) t gs.size (mu (sumTo gs.size q) x y τc τm) := by
  intro vs hx hs
  cases vs with
  | nil => exact child_closes F hAr h hx hs
  | cons v vs =>
   obtain ⟨gs',ops,x',y', τc', τm',a',b',w',e,hsz,hJ,hl⟩ := J.sends (sl := sl) F h hx hs
   refine .inr ⟨L,S,x',y', τc', τm',gs',a',b',w',sl,q,ops,e,hsz,hJ,?_⟩
   rcases hl with hl | ⟨h1,h2⟩
   ·
    exact .single (lt_left hl)
   ·
    exact .single (lt_rank h1 h2)
 cases x using Ch.casesT with
 | fresh vs =>
  rcases TGoes.now (R := RC K) h.ch (RC.refl w) with hs | ⟨_,g',w',es, τ',e,d,hsub,hG⟩
  ·
   exact hsend vs (.inl rfl) hs
  ·
   exact child_works F hAr h (.inl rfl) e d hG hsub
 | work vs =>
  rcases TGoes.now (R := RC K) h.ch (RC.refl w) with hs | ⟨_,g',w',es, τ',e,d,hsub,hG⟩
  ·
   exact hsend vs (.inr rfl) hs
  ·
   exact child_works F hAr h (.inr rfl) e d hG hsub
 | parkd v vs => obtain ⟨g₂,rfl,_⟩ := h.ch; cases hrun
 | r0 =>
  rcases TGoes.now (R := RJ K S) h.ch (RJ.refl w) with hs | ⟨_,g',w',es, τ',e,d,hsub,hG⟩
  ·
   exact child_releases F hety hAr h hs
  ·
   exact child_r0 F hAr h e d hG hsub
 | k1 =>
  rcases TGoes.now (R := RWk K) h.ch (Go.ConcN.RW.refl w) with hs | ⟨_,g',w',es, τ',e,d,hsub,hG⟩
  ·
   exact child_k1 F hAr h hs
  ·
   exact zm2 F hAr h rfl e d hG hsub
 | d1 =>
  rcases TGoes.now (R := RWk K) h.ch (Go.ConcN.RW.refl w) with hs | ⟨_,g',w',es, τ',e,d,hsub,hG⟩
  ·
   exact child_d1 F hAr h hs
  ·
   exact zm2 F hAr h rfl e d hG hsub
 | d2 =>
  rcases TGoes.now (R := RWk K) h.ch (Go.ConcN.RW.refl w) with hs | ⟨_,g',w',es, τ',e,d,hsub,hG⟩
  ·
   exact child_d2 F hAr h hs
  ·
   exact zm2 F hAr h rfl e d hG hsub
 | d3 =>
  rcases TGoes.now (R := RWk K) h.ch (Go.ConcN.RW.refl w) with hs | ⟨_,g',w',es, τ',e,d,hsub,hG⟩
  ·
   exact child_d3 F hAr h hs
  ·
   exact zm2 F hAr h rfl e d hG hsub
 | d4 =>
  rcases TGoes.now (R := RWk K) h.ch (Go.ConcN.RW.refl w) with hs | ⟨_,g',w',es, τ',e,d,hsub,hG⟩
  ·
   exact child_d4 F hAr h hs
  ·
   exact zm2 F hAr h rfl e d hG hsub
 | quit n d => exact child_quits F hAr h hrun
variable (H : ShyOk K) (hAn : ∀ L,K.N0 ≤ L → ∀ g w,AnchW g w → ∃ m,Goes K.P true (RPak K) (DPik K L) (AtW1k K L AnchW Post) m g w)
theorem J.somebody (hAr : ∀ g w,AnchW g w → g.status = .running) (h : J K L AnchW Post S c x y τc τm gs a b w t q) : a.status = .running ∨ b.status = .running := by
 obtain ⟨st,sm,hp,_⟩ := h.pair
 rcases h.ma.status hAr with e | ⟨vs,_,rfl,_⟩ | ⟨_,rfl,_⟩
 ·
  exact .inl e
 iterate 2
  ·
   rcases h.ch.status with e | ⟨v,vs',_,rfl,_⟩ | ⟨n,d,rfl,_⟩
   ·
    exact .inr e
   ·
    exact hp.elim
   ·
    exact hp.elim
theorem pair_step (F : K.Fit) (hety : Go.ConcX.Payload.ety = Go.ConcR.Payload.ety) (hAr : ∀ g w,AnchW g w → g.status = .running) (H : ShyOk K) (hAn : ∀ L,K.N0 ≤ L → ∀ g w,AnchW g w → ∃ m,Goes K.P true (RPak K) (DPik K L) (AtW1k K L AnchW Post) m g w) (h : J K L AnchW Post S c x y τc τm gs a b w t q) (sl : Option (Nat × Nat)) : Next K AnchW Post c (stepT K.P (crowd gs w sl)) t gs.size (mu (sumTo gs.size q) x y τc τm) := by
 have haw : ∀ g ∈ gs,awake g := by
  intro g hg
  obtain ⟨i,hi,rfl⟩ := Array.mem_iff_getElem.1 hg
  have hgi : gs[i]? = some gs[i] := Array.getElem?_eq_getElem hi
  by_cases h0 : i = 0
  ·
   subst h0
   rw [h.h0] at hgi
   rw [← Option.some.inj hgi]
   rcases h.ma.status hAr with e | ⟨_,_,_,rfl⟩ | ⟨_,_,rfl,_⟩
   ·
    exact awake_of (.inl e)
   iterate 2
    ·
     exact awake_of (.inr (.inl rfl))
  ·
   by_cases hc : i = c
   ·
    subst hc
    rw [h.hc] at hgi
    rw [← Option.some.inj hgi]
    rcases h.ch.status with e | ⟨_,_,_,_,rfl⟩ | ⟨_,_,_,hq⟩
    ·
     exact awake_of (.inl e)
    ·
     exact awake_of (.inr (.inl rfl))
    ·
     exact awake_of (hq.status.elim .inl fun z => .inr (.inr z))
   ·
    exact awake_of ((h.old i _ (by omega) hc hgi).status.elim .inl fun z => .inr (.inr z))
 obtain ⟨i,g,d,sl',hi,hg,hst⟩ := crowd_pick (P := K.P) (w := w) (sl := sl) haw ((h.somebody hAr).elim (fun e => ⟨0,a,h.h0,e⟩) (fun e => ⟨c,b,h.hc,e⟩))
 have hJ := h.at F d
 rw [hst]
 by_cases h0 : i = 0
 ·
  subst h0
  obtain rfl : g = a := by rw [h.h0] at hi; exact (Option.some.inj hi).symm
  exact J.main_moves F H hAr hAn hJ hg
 ·
  by_cases hc : i = c
  ·
   subst hc
   obtain rfl : g = b := by rw [h.hc] at hi; exact (Option.some.inj hi).symm
   exact J.child_moves F hety hAr hJ hg
  ·
   obtain ⟨gs',ops,y', τm',a',q',e,hsz,hJ',hlt⟩ := J.leaver_go (sl := sl') F hAr hJ hi h0 hc hg
   exact .inr ⟨L,S,x,y', τc, τm',gs',a',b,_,sl',q',ops,e,hsz,hJ', .single (.left _ _ hlt)⟩
theorem pair_runs (F : K.Fit) (hety : Go.ConcX.Payload.ety = Go.ConcR.Payload.ety) (hAr : ∀ g w,AnchW g w → g.status = .running) (H : ShyOk K) (hAn : ∀ L,K.N0 ≤ L → ∀ g w,AnchW g w → ∃ m,Goes K.P true (RPak K) (DPik K L) (AtW1k K L AnchW Post) m g w) : ∀ (μ : Mu) (L : Nat) (S : Nat → Prop) (x : Ch) (y : Ma) (τc τm : Tr) (gs : Array Goroutine) (a b : Goroutine) (w : World) (t : Trace) (q : Nat → Nat) (sl : Option (Nat × Nat)), μ = mu (sumTo gs.size q) x y τc τm → J K L AnchW Post S c x y τc τm gs a b w t q →
  ∃ N M T,runNT K.P N (crowd gs w sl) t = (.next M,T) ∧ Fin K Post gs.size M T := by
 intro μ
 induction μ using ltM_wf.transGen.induction with
 | _ μ ih =>
  rintro L S x y τc τm gs a b w t q sl rfl h
  rcases pair_step F hety hAr H hAn h sl with ⟨M,ops,e,hf⟩ | ⟨L',S',x',y', τc', τm',gs',a',b',w',sl',q',ops,e,hsz,hJ,hlt⟩
  ·
   exact ⟨1,M,t ++ ops,by simp only [runNT,e],hf⟩
  ·
   rw [← hsz] at hlt
   obtain ⟨N,M,T,hr,hf⟩ := ih _ (by rw [hsz] at hlt ⊢; exact hlt) L' S' x' y' τc' τm' gs' a' b' w' (t ++ ops) q' sl' rfl hJ
   exact ⟨N + 1,M,T,by simp only [runNT,e]; exact hr,by rw [← hsz]; exact hf⟩
end
end Go.Proofs.YtgcaionclkbehaaGreatDoor
