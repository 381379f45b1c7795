import Derived.Test.YtgcaionclkbehaaGreatDoorPairDefs
set_option linter.all false
namespace Go.Proofs.YtgcaionclkbehaaGreatDoor
section
open Go.Conc
open Go.ConcN (sumTo upd sumTo_upd upd_ne upd_same)
theorem ops_g {es : Array Event} {g : Nat} {fn : FuncId} {pos : String} : ∀ op ∈ MemOp.ofEvents g fn pos es,op.g = g := fun op hop => by obtain ⟨e,_,rfl⟩ := Conc.mem_ofEvents hop; rfl
theorem mute_norel {e : Event} {ad : Addr} (h : e.mute = true) : MemAct.ofEvent e ≠ .mark (.release ad) := by
 obtain ⟨loc,wr,sy⟩ := e
 intro eq
 cases loc with
 | mark m => cases m <;> simp_all [Event.mute,MemAct.ofEvent]
 | _ => simp_all [Event.mute]
variable {K : Cfg} [Go.ConcX.Payload] [Go.ConcR.Payload] [Go.ConcX.Shy K.Wg K.C] {AnchW : Goroutine → World → Prop} {Post : Value → World → Prop}
variable {L : Nat} {S S' : Nat → Prop} {c : Nat} {x x' : Ch} {y y' : Ma} {τc τm τc' τm' : Tr} {gs : Array Goroutine} {a a' b b' : Goroutine} {w w' : World} {t : Trace} {q : Nat → Nat} {sl : Option (Nat × Nat)} {es : Array Event}
theorem sendOf.run {vs : List Value} {g : Goroutine} {w : World} (h : sendOf K vs g w) : g.status = .running := by cases vs <;> exact h.1
theorem selOf.run {vs : List Value} {g : Goroutine} {w : World} (h : selOf K AnchW vs g w) : g.status = .running := by cases vs <;> exact h.1
theorem selAt.rely {vs : List Value} {g g₂ : Goroutine} {w w₁ : World} (h : selAt K AnchW vs g g₂ w) (hr : RM K w w₁) : selAt K AnchW vs g g₂ w₁ := by
 cases vs <;> exact ⟨h.1,h.2.1,h.2.2.1,fun w₂ h₂ => h.2.2.2.1 w₂ (hr.trans h₂),fun w₂ h₂ => h.2.2.2.2 w₂ (hr.trans h₂)⟩
theorem selAt.comm {vs : List Value} {g g₂ : Goroutine} {w : World} (h : selAt K AnchW vs g g₂ w) : stepG K.P true g w = .comm g₂ K.cases true .select w #[] := by cases vs <;> exact h.2.2.2.1 w (RM.refl w)
theorem selAt.tries {vs : List Value} {g g₂ : Goroutine} {w : World} (h : selAt K AnchW vs g g₂ w) : selOf K AnchW vs { parked g₂ K.cases .select with status := .running } w := by
 cases vs <;> exact ⟨rfl,g₂,rfl,rfl,rfl,fun w₁ h₁ => by rw [← h.2.2.2.1 w₁ h₁]; exact stepG_same h.1.symm h.2.1.symm h.2.2.1.symm w₁,h.2.2.2.2⟩
theorem ChM.rely (hC : S K.C) (h : ChM K S x τc b w) (hrc : x.shut = false → RC K w w') (hr : RJ K S w w') : ChM K S x τc b w' := by
 cases x using Ch.casesT with
 | fresh vs | work vs => exact TGoes.rely (R := RC K) (fun _ _ _ => RC.trans) h (hrc rfl)
 | parkd v vs => obtain ⟨g₂,e,k⟩ := h; exact ⟨g₂,e,fun w₁ h₁ => k w₁ ((hrc rfl).trans h₁)⟩
 | r0 => exact TGoes.rely (R := RJ K S) (fun _ _ _ => RJ.trans) h hr
 | k1 | d1 | d2 | d3 | d4 => exact TGoes.rely (R := RWk K) (fun _ _ _ => Go.ConcN.RW.trans) h (hr.rw hC)
 | quit n d => exact h
def RelM (K : Cfg) [Go.ConcX.Payload] [Go.ConcX.Shy K.Wg K.C] : Ma → World → World → Prop
 | .inl _ | .inr (.inl _) | .inr (.inr (.inl _)) | .inr (.inr (.inr (.inr (.inr (.inr (.inr (.inr (.inr (.inr (.inr (_))))))))))) => RM K
 | .inr (.inr (.inr (.inl _))) | .inr (.inr (.inr (.inr (.inl _)))) | .inr (.inr (.inr (.inr (.inr (.inl _))))) => RPak K
 | .inr (.inr (.inr (.inr (.inr (.inr (.inl _)))))) | .inr (.inr (.inr (.inr (.inr (.inr (.inr (.inl _))))))) => RPbk K
 | .inr (.inr (.inr (.inr (.inr (.inr (.inr (.inr (.inl _)))))))) | .inr (.inr (.inr (.inr (.inr (.inr (.inr (.inr (.inr (.inl _))))))))) | .inr (.inr (.inr (.inr (.inr (.inr (.inr (.inr (.inr (.inr (.inl _)))))))))) => AtRel
theorem MaM.rely (h : MaM K L AnchW Post y τm a w) (hr : RelM K y w w') : MaM K L AnchW Post y τm a w' := by
 cases y using Ma.casesT with
 | front vs | walk vs => exact TGoes.rely (R := RM K) (fun _ _ _ => RM.trans) h hr
 | over => exact TGoes.rely (R := RM K) (fun _ _ _ => RM.trans) h hr
 | parkd vs => obtain ⟨g₀,g₂,e,k⟩ := h; exact ⟨g₀,g₂,e,k.rely hr⟩
 | kd | w1 | w2 => exact TGoes.rely (R := RPak K) (fun _ _ _ => Go.ConcX.RPa.trans) h hr
 | w3 => exact TGoes.rely (R := RPbk K) (fun _ _ _ => Go.ConcX.RPb.trans) h hr
 | blk => obtain ⟨g₂,e,h1,h2,k⟩ := h; exact ⟨g₂,e,h1,h2,TGoes.rely (R := RPbk K) (fun _ _ _ => Go.ConcX.RPb.trans) k hr⟩
 | w4 | ke | acq => exact TGoes.rely atRel_trans h hr
theorem RelM.at (y : Ma) (w : World) (d : Nat) : RelM K y w (w.at d) := by
 cases y using Ma.casesT with
 | front vs | walk vs | parkd vs => exact RM.at w d
 | over => exact RM.at w d
 | kd | w1 | w2 => exact Go.ConcX.RPa.at w d
 | w3 | blk => exact Go.ConcX.RPb.at w d
 | w4 | ke | acq => exact ⟨d,rfl⟩
theorem ChM.status (h : ChM K S x τc b w) : b.status = .running ∨ (∃ (v : Value) (vs : List Value) (g₂ : Goroutine),x = .parkd v vs ∧ b = parked g₂ #[scase K.A v K.zs] .send) ∨ (∃ n d,x = .quit n d ∧ QuitsD K.P n d b) := by
 cases x using Ch.casesT with
 | fresh vs | work vs => exact .inl (TGoes.running RC.refl (fun _ _ => sendOf.run) h)
 | parkd v vs => obtain ⟨g₂,e,_⟩ := h; exact .inr (.inl ⟨v,vs,g₂,rfl,e⟩)
 | r0 => exact .inl (TGoes.running RJ.refl (fun _ _ x => x.1) h)
 | k1 | d1 | d2 | d3 | d4 => exact .inl (TGoes.running Go.ConcN.RW.refl (fun _ _ x => x.1) h)
 | quit n d => exact .inr (.inr ⟨n,d,rfl,h.1⟩)
theorem MaM.status (hAr : ∀ g w,AnchW g w → g.status = .running) (h : MaM K L AnchW Post y τm a w) : a.status = .running ∨ (∃ (vs : List Value) (g₂ : Goroutine),y = .parkd vs ∧ a = parked g₂ K.cases .select) ∨ (∃ g₂ : Goroutine,y = .blk ∧ a = { g₂ with status := .blocked } ∧ g₂.status = .running ∧ g₂.offers = none) := by
 cases y using Ma.casesT with
 | front vs | walk vs => exact .inl (TGoes.running RM.refl (fun _ _ => selOf.run) h)
 | over => exact .inl (TGoes.running RM.refl (fun _ _ z => z.1) h)
 | parkd vs => obtain ⟨_,g₂,e,_⟩ := h; exact .inr (.inl ⟨vs,g₂,rfl,e⟩)
 | kd | w1 | w2 => exact .inl (TGoes.running Go.ConcX.RPa.refl (fun _ _ x => x.1) h)
 | w3 => exact .inl (TGoes.running Go.ConcX.RPb.refl (fun _ _ x => x.1) h)
 | blk => obtain ⟨g₂,e,h1,h2,_⟩ := h; exact .inr (.inr ⟨g₂,rfl,e,h1,h2⟩)
 | w4 | ke | acq => exact .inl (TGoes.running atRel_refl (fun _ _ x => x.1) h)
theorem ChM.still {g g' : Goroutine} (h : ChM K S x τc b w) (hA : ∃ s,w'.heap[K.A]? = some (.chan 0 #[] false s s false)) : Conc.woken K.P g g' w' b = b := by
 rcases h.status with e | ⟨v,vs,g₂,_,rfl⟩ | ⟨n,d,_,hq⟩
 ·
  exact woken_run e
 ·
  obtain ⟨s,hs⟩ := hA; exact woken_send_open g g' hs
 ·
  exact woken_quitsD hq
theorem MaM.woken (hAr : ∀ g w,AnchW g w → g.status = .running) {g g' : Goroutine} (h : MaM K L AnchW Post y τm a w') (hA : ∃ s,w'.heap[K.A]? = some (.chan 0 #[] false s s false)) (hE : (∃ vs,y = .parkd vs) → w'.heap[K.E]? = some (.chan 0 #[] false 0 0 false)) :
  ∃ y' τm',MaM K L AnchW Post y' τm' (Conc.woken K.P g g' w' a) w' ∧ (y' = y ∨ (y = .blk ∧ y' = .w3)) := by
 rcases h.status hAr with e | ⟨vs,g₂,rfl,rfl⟩ | ⟨g₂,rfl,rfl,hs,ho⟩
 ·
  rw [woken_run e]; exact ⟨y, τm,h, .inl rfl⟩
 ·
  obtain ⟨s,hs⟩ := hA
  have : (parked g₂ K.cases .select).again w' = parked g₂ K.cases .select := again_all_open fun cc hcc => by
   simp only [Cfg.cases,List.mem_toArray,List.mem_cons,List.not_mem_nil,or_false] at hcc
   rcases hcc with rfl | rfl
   ·
    exact ⟨_,_,_,_,_,_,_,rfl,hs⟩
   ·
    exact ⟨_,_,_,_,_,_,_,rfl,hE ⟨vs,rfl⟩⟩
  rw [woken_of_again this]; exact ⟨_, τm,h, .inl rfl⟩
 ·
  unfold Conc.woken
  split
  ·
   rw [Go.ConcX.again_blocked hs ho]
   obtain ⟨g₃,e,h3,_,k⟩ := h
   have : g₃ = g₂ := by
    have e1 := congrArg Goroutine.frame e
    have e2 := congrArg Goroutine.callers e
    have e3 := congrArg Goroutine.dying e
    have e4 := congrArg Goroutine.offers e
    obtain ⟨f2,c2,s2,d2,o2⟩ := g₂
    obtain ⟨f3,c3,s3,d3,o3⟩ := g₃
    simp only at e1 e2 e3 e4 hs
    have hs3 : s3 = .running := h3
    subst e1 e2 e3 e4 hs hs3
    rfl
   subst this
   exact ⟨.w3,_,k, .inr ⟨rfl,rfl⟩⟩
  ·
   exact ⟨_, τm,h, .inl rfl⟩
theorem J.at (F : K.Fit) (h : J K L AnchW Post S c x y τc τm gs a b w t q) (d : Nat) : J K L AnchW Post S c x y τc τm gs a b (w.at d) t q :=
 ⟨h.pos,h.h0,h.hc,h.old,h.above,h.ch.rely (h.kid0 _ F.k0C) (fun _ => RC.at w d) ⟨fun _ _ => rfl,id⟩,h.ma.rely (RelM.at y w d),h.pair,h.chA,h.chE,h.pay,h.full,h.kid,h.kid0,h.of,h.size,h.lowK,h.lowT,h.tr,h.d0,h.dc⟩
theorem TrP.grow {r : Bool} (h : TrP K S c r t) (hs : ∀ b,S b → S' b) (hn : ∀ i z,touchAt t i = some z → K.kidS S' z.loc → K.kidS S z.loc ∨ (r = false ∧ Knows t c i) ∨ (K.Shun z.loc ∧ z.kind = .atomic)) : TrP K S' c r t := by
 unfold TrP at h ⊢
 cases r with
 | false => exact PT.mono h (fun _ => Cfg.kidS.mono hs) (fun i z hz hk => (hn i z hz hk).imp id (Or.imp And.right id))
 | true => obtain ⟨r,hp,hr,hno⟩ := h; exact ⟨r,PT.mono hp (fun _ => Cfg.kidS.mono hs) (fun i z hz hk => (hn i z hz hk).imp id (Or.imp (fun z => by cases z.1) id)),hr,hno⟩
theorem TrP.app0 {r : Bool} {u : Trace} (hc : c ≠ 0) (h : TrP K S c r t) (hu : ∀ op ∈ u,op.g = 0) (hs : ∀ op ∈ u, ∀ b,op.act.touch? = some b → Ok0 K.Shun (K.kidS S) K.stillL b) (hn : ∀ op ∈ u,op.act ≠ .mark (.release K.stW)) : TrP K S c r (t ++ u) := by
 unfold TrP at h ⊢
 cases r with
 | false => exact PT.app0 h (fun _ => Knows.app u) hu hs
 | true =>
  obtain ⟨r,hp,hr,hno⟩ := h
  refine ⟨r,PT.app0 hp (fun _ => Before.app u) hu hs,hr.appOther hu (fun e => hc e.symm),fun k hk e => ?_⟩
  obtain ⟨op,ho,hoa⟩ := Option.map_eq_some_iff.1 e
  rcases getElem?_append_cases ho with ⟨_,ho'⟩ | ⟨_,hou⟩
  ·
   exact hno k hk (by rw [act?_of ho',hoa])
  ·
   exact hn op hou hoa
theorem lowT_app {u : Trace} {n m : Nat} (hnm : n ≤ m) (h : ∀ i z,touchAt t i = some z → lowLoc n z.loc ∨ Knows t c i ∨ (K.Shun z.loc ∧ z.kind = .atomic)) (hu : ∀ op ∈ u, ∀ z,op.act.touch? = some z → lowLoc m z.loc) :
  ∀ i z,touchAt (t ++ u) i = some z → lowLoc m z.loc ∨ Knows (t ++ u) c i ∨ (K.Shun z.loc ∧ z.kind = .atomic) := by
 intro i z hz
 obtain ⟨op,ho,hoz⟩ := touch_of hz
 rcases getElem?_append_cases ho with ⟨_,ho'⟩ | ⟨_,hou⟩
 ·
  rcases h i z (by rw [touchAt_of ho']; exact hoz) with h | h | h
  ·
   exact .inl (h.mono hnm)
  ·
   exact .inr (.inl (h.app u))
  ·
   exact .inr (.inr h)
 ·
  exact .inl (hu op hou z hoz)
theorem TrP.mute {r : Bool} {u : Trace} (h : TrP K S c r t) (hs : ∀ op ∈ u,op.act.touch? = none) (hn : ∀ op ∈ u,op.act ≠ .mark (.release K.stW)) : TrP K S c r (t ++ u) := by
 unfold TrP at h ⊢
 cases r with
 | false => exact PT.mute h (fun _ => Knows.app u) hs
 | true =>
  obtain ⟨r,hp,hr,hno⟩ := h
  refine ⟨r,PT.mute hp (fun _ => Before.app u) hs,hr.app (fun i hi _ hct => ?_),fun k hk e => ?_⟩
  ·
   obtain ⟨z,hz,_⟩ := hct
   obtain ⟨op,ho,hoz⟩ := touch_of hz
   rcases getElem?_append_cases ho with ⟨hlt,_⟩ | ⟨_,hou⟩
   ·
    omega
   ·
    rw [hs op hou] at hoz; cases hoz
  ·
   obtain ⟨op,ho,hoa⟩ := Option.map_eq_some_iff.1 e
   rcases getElem?_append_cases ho with ⟨_,ho'⟩ | ⟨_,hou⟩
   ·
    exact hno k hk (by rw [act?_of ho',hoa])
   ·
    exact hn op hou hoa
theorem old_go {i : Nat} {g g' : Goroutine} {ops : Trace} (hold : ∀ j z,0 < j → j ≠ c → gs[j]? = some z → QuitsD K.P (q j) (Deaf t j) z) (hi : i = 0 ∨ i = c) (hops : ∀ op ∈ ops,op.g = i) :
  ∀ j z,0 < j → j ≠ c → ((gs.map (Conc.woken K.P g g' w')).setIfInBounds i g')[j]? = some z → QuitsD K.P (q j) (Deaf (t ++ ops) j) z := by
 intro j z hj hjc hz
 have hji : i ≠ j := by rcases hi with rfl | rfl <;> omega
 rw [Array.getElem?_setIfInBounds_ne hji,Array.getElem?_map] at hz
 obtain ⟨y,hy,rfl⟩ := Option.map_eq_some_iff.1 hz
 have hq := hold j y hj hjc hy
 rw [woken_quitsD hq,Deaf_other t hji _ hops]
 exact hq
theorem J.main_go (F : K.Fit) (h : J K L AnchW Post S c x y τc τm gs a b w t q) (hgo : stepG K.P true a w = .go a' w' es) (hee : y'.early = y.early)
  (hblk : ∀ k,S k ∨ K.Still k ∨ k = K.A ∨ k = K.E → w'.heap[k]? = w.heap[k]?) (hborn : y.early = true → ∀ b,K.Kid w' b → K.Kid w b) (hgrow : y.early = true → w.heap.size ≤ w'.heap.size) (hxy : x.shut = false → y.early = true)
  (hwg : ∃ st sm,Pair x y' st sm ∧ K.wgIs w' st sm) (hev : ∀ e ∈ es, ∀ z,(MemAct.ofEvent e).touch? = some z → Ok0 K.Shun (K.kidS S) K.stillL z) (hevl : y.early = true → ∀ e ∈ es, ∀ z,(MemAct.ofEvent e).touch? = some z → lowLoc w'.heap.size z.loc) (hnr : ∀ e ∈ es,MemAct.ofEvent e ≠ .mark (.release K.stW))
  (hdf : deafBehind y.deaf es = y'.deaf) (hma : MaM K L AnchW Post y' τm' a' w') :
  ∃ gs' ops,runT K.P (crowd gs w sl) 0 = (.next (crowd gs' w' sl),ops) ∧ gs'.size = gs.size ∧ J K L AnchW Post S c x y' τc τm' gs' a' b w' (t ++ ops) q := by
 have hlt : 0 < gs.size := (Array.getElem?_eq_some_iff.1 h.h0).1
 have hc0 : (0 : Nat) ≠ c := by have := h.pos; omega
 have hA : ∃ s,w'.heap[K.A]? = some (.chan 0 #[] false s s false) := by obtain ⟨s,hs⟩ := h.chA; exact ⟨s,(hblk _ (.inr (.inr (.inl rfl)))).trans hs⟩
 have hRJ : RJ K S w w' := ⟨fun k hk => hblk k (hk.elim .inl fun z => .inr (.inl z)),fun _ => by obtain ⟨st,sm,_,e⟩ := hwg; exact ⟨st,sm,e⟩⟩
 have hRC : x.shut = false → RC K w w' := fun hx k hk => hblk k (hk.elim (fun z => .inl ((h.kid (hxy hx) k).2 z)) fun z => .inr (.inl z))
 have eC := hRJ.rc K.C (.inl (h.kid0 _ F.k0C))
 refine ⟨_,_,runT_crowd_go (P := K.P) (sl := sl) (i := 0) h.h0 (show stepG K.P (0 == 0) a w = _ from hgo),by simp,
  ⟨h.pos,by simp [hlt],?_,old_go h.old (.inl rfl) ops_g,fun j hj => ?_,h.ch.rely (h.kid0 _ F.k0C) hRC hRJ,hma,hwg,hA,(hblk _ (.inr (.inr (.inr rfl)))).trans h.chE,?_,fun hr => ?_,fun z b => ?_,h.kid0,h.of,fun z => Nat.le_trans (h.size (hee ▸ z)) (hgrow (hee ▸ z)),fun z => h.lowK (hee ▸ z),fun z => lowT_app (hgrow (hee ▸ z)) (h.lowT (hee ▸ z)) (fun op hop z' hz => by obtain ⟨e,he,rfl⟩ := Conc.mem_ofEvents hop; exact hevl (hee ▸ z) e he z' hz),?_,?_,?_⟩⟩
 ·
  rw [Array.getElem?_setIfInBounds_ne hc0,Array.getElem?_map,h.hc]
  simp only [Option.map_some,Option.some.injEq]
  exact h.ch.still hA
 ·
  have hj' : gs.size ≤ j := by simpa using hj
  rw [Deaf_other t (g' := 0) (by omega) _ ops_g]
  exact h.above j hj'
 ·
  obtain ⟨cs,hcs,hn⟩ := h.pay; exact ⟨cs,eC.trans hcs,hn⟩
 ·
  exact Go.ConcX.ChanAt.of_block (h.full hr) eC
 ·
  have z' : y.early = true := hee ▸ z
  exact ⟨fun hb => ((h.kid z' b).1 hb).of_same (hblk b (.inl hb)),fun hb => (h.kid z' b).2 (hborn z' b hb)⟩
 ·
  exact h.tr.app0 (Ne.symm hc0) ops_g (fun op hop z hz => by obtain ⟨e,he,rfl⟩ := Conc.mem_ofEvents hop; exact hev e he z hz) (fun op hop => by obtain ⟨e,he,rfl⟩ := Conc.mem_ofEvents hop; exact hnr e he)
 ·
  rw [Deaf_own,h.d0]; exact hdf
 ·
  rw [Deaf_other t hc0 _ ops_g]; exact h.dc
theorem J.child_go (h : J K L AnchW Post S c x y τc τm gs a b w t q) (hgo : stepG K.P false b w = .go b' w' es)
  (hma : MaM K L AnchW Post y' τm' (Conc.woken K.P b b' w' a) w') (hy : y'.deaf = y.deaf) (hee : y'.early = y.early) (hch : ChM K S' x' τc' b' w') (hwg : ∃ st sm,Pair x' y' st sm ∧ K.wgIs w' st sm)
  (hA : ∃ s,w'.heap[K.A]? = some (.chan 0 #[] false s s false)) (hE : w'.heap[K.E]? = some (.chan 0 #[] x'.shut 0 0 false)) (hpay : Go.ConcN.PayAt K.C 1 w') (hfull : x'.rel = true → Fullk K w')
  (hkid : y.early = true → ∀ b,S' b ↔ K.Kid w' b) (hkid0 : ∀ b,K.Kid0 b → S' b) (hsome : ∃ w₀, ∀ b,S' b → K.Kid w₀ b) (hgrow : w.heap.size ≤ w'.heap.size) (hlow : y.early = false → ∀ b,S' b → b < L) (hlt' : y.early = true → ∀ e ∈ es, ∀ z,(MemAct.ofEvent e).touch? = some z → lowLoc w'.heap.size z.loc) (htr : TrP K S' c x'.rel (t ++ MemOp.ofEvents c b.frame.fn b.frame.place es)) (hdf : deafBehind x.deaf es = x'.deaf) :
  ∃ gs' ops,runT K.P (crowd gs w sl) c = (.next (crowd gs' w' sl),ops) ∧ gs'.size = gs.size ∧ J K L AnchW Post S' c x' y' τc' τm' gs' (Conc.woken K.P b b' w' a) b' w' (t ++ ops) q := by
 have hlt : c < gs.size := (Array.getElem?_eq_some_iff.1 h.hc).1
 have hc0 : c ≠ 0 := by have := h.pos; omega
 have hb : (c == 0) = false := by simp [hc0]
 refine ⟨_,_,runT_crowd_go (P := K.P) (sl := sl) (i := c) h.hc (by rw [hb]; exact hgo),by simp,
  ⟨h.pos,?_,Array.getElem?_setIfInBounds_self_of_lt (by simpa using hlt),old_go h.old (.inr rfl) ops_g,fun j hj => ?_,hch,hma,hwg,hA,hE,hpay,hfull,fun z => hkid (hee ▸ z),hkid0,hsome,fun z => Nat.le_trans (h.size (hee ▸ z)) hgrow,fun z => ⟨(h.lowK (hee ▸ z)).1,hlow (hee ▸ z)⟩,fun z => lowT_app hgrow (h.lowT (hee ▸ z)) (fun op hop z' hz => by obtain ⟨e,he,rfl⟩ := Conc.mem_ofEvents hop; exact hlt' (hee ▸ z) e he z' hz),htr,?_,?_⟩⟩
 ·
  rw [Array.getElem?_setIfInBounds_ne hc0,Array.getElem?_map,h.h0]; rfl
 ·
  have hj' : gs.size ≤ j := by simpa using hj
  rw [Deaf_other t (g' := c) (by omega) _ ops_g]
  exact h.above j hj'
 ·
  rw [Deaf_other t hc0 _ ops_g,h.d0,hy]
 ·
  rw [Deaf_own,h.dc]; exact hdf
theorem pair_parked {x : Ch} {vs : List Value} {st sm : Int} (h : Pair x (.parkd vs) st sm) : x.shut = false := by
 cases x using Ch.casesT <;> first | rfl | exact h.elim
theorem pair_wakes {x : Ch} {st sm : Int} (h : Pair x .blk st sm) : Pair x .w3 st sm := by
 cases x using Ch.casesT <;> first | exact h | exact h.elim
theorem early_wake (h : y' = y ∨ (y = .blk ∧ y' = .w3)) (he : y'.early = true) : y.early = true := by
 rcases h with rfl | ⟨rfl,rfl⟩
 ·
  exact he
 ·
  cases he
theorem late_wake (h : y' = y ∨ (y = .blk ∧ y' = .w3)) (he : y'.early = false) : y.early = false := by
 rcases h with rfl | ⟨rfl,rfl⟩
 ·
  exact he
 ·
  rfl
theorem zm3 (h : y' = y ∨ (y = .blk ∧ y' = .w3)) : y'.deaf = y.deaf := by rcases h with rfl | ⟨rfl,rfl⟩ <;> rfl
theorem zg7 {st sm : Int} (h : y' = y ∨ (y = .blk ∧ y' = .w3)) (hp : Pair x y st sm) : Pair x y' st sm := by
 rcases h with rfl | ⟨rfl,rfl⟩
 ·
  exact hp
 ·
  exact pair_wakes hp
theorem J.leaver_go (F : K.Fit) (hAr : ∀ g w,AnchW g w → g.status = .running) {i : Nat} {g : Goroutine} (h : J K L AnchW Post S c x y τc τm gs a b w t q) (hi : gs[i]? = some g) (hi0 : i ≠ 0) (hic : i ≠ c) (hg : g.status = .running) :
  ∃ gs' ops y' τm' a' q',runT K.P (crowd gs w sl) i = (.next (crowd gs' w sl),ops) ∧ gs'.size = gs.size ∧ J K L AnchW Post S c x y' τc τm' gs' a' b w (t ++ ops) q' ∧ sumTo gs.size q' < sumTo gs.size q := by
 have hlt : i < gs.size := (Array.getElem?_eq_some_iff.1 hi).1
 have hq := h.old i g (by omega) hic hi
 have hb : (i == 0) = false := by simp [hi0]
 cases hqi : q i with
 | zero => rw [hqi] at hq; rw [hq.1] at hg; cases hg
 | succ k =>
  rw [hqi] at hq
  rcases hq with ⟨hf,_⟩ | ⟨_,g',es,hm,hstp,hq'⟩
  ·
   rw [hf] at hg; cases hg
  obtain ⟨st,sm,hp,hw⟩ := h.pair
  obtain ⟨y', τm',hma,hyy⟩ := h.ma.woken hAr (g := g) (g' := g') h.chA (fun ⟨vs,e⟩ => by subst e; have := h.chE; rw [pair_parked hp] at this; exact this)
  refine ⟨_,_,y', τm',Conc.woken K.P g g' w a,upd q i k,runT_crowd_go (P := K.P) (sl := sl) (i := i) hi (by rw [hb]; exact hstp w),by simp,
   ⟨h.pos,?_,?_,fun j z hj hjc hz => ?_,fun j hj => ?_,h.ch,hma,⟨st,sm,?_,hw⟩,h.chA,h.chE,h.pay,h.full,fun z => h.kid (early_wake hyy z),h.kid0,h.of,fun z => h.size (early_wake hyy z),fun z => h.lowK (late_wake hyy z),fun z' => lowT_app (Nat.le_refl _) (h.lowT (early_wake hyy z')) (fun op hop z hz => by obtain ⟨e,he,rfl⟩ := Conc.mem_ofEvents hop; rw [touch_mute (hm e he)] at hz; cases hz),?_,?_,?_⟩,?_⟩
  ·
   rw [Array.getElem?_setIfInBounds_ne hi0,Array.getElem?_map,h.h0]; rfl
  ·
   rw [Array.getElem?_setIfInBounds_ne hic,Array.getElem?_map,h.hc]
   simp only [Option.map_some,Option.some.injEq]
   exact h.ch.still h.chA
  ·
   by_cases e : i = j
   ·
    subst e
    rw [Array.getElem?_setIfInBounds_self_of_lt (by simpa using hlt)] at hz
    obtain rfl := Option.some.inj hz
    rw [upd_same,Deaf_own]
    exact hq'
   ·
    rw [Array.getElem?_setIfInBounds_ne e,Array.getElem?_map] at hz
    obtain ⟨z',hz',rfl⟩ := Option.map_eq_some_iff.1 hz
    have hqj := h.old j z' hj hjc hz'
    rw [woken_quitsD hqj,upd_ne q k (Ne.symm e),Deaf_other t e _ ops_g]
    exact hqj
  ·
   have hj' : gs.size ≤ j := by simpa using hj
   rw [Deaf_other t (g' := i) (by omega) _ ops_g]
   exact h.above j hj'
  ·
   rcases hyy with rfl | ⟨rfl,rfl⟩
   ·
    exact hp
   ·
    exact pair_wakes hp
  ·
   refine h.tr.mute (fun op hop => by obtain ⟨e,he,rfl⟩ := Conc.mem_ofEvents hop; exact touch_mute (hm e he)) (fun op hop => ?_)
   obtain ⟨e,he,rfl⟩ := Conc.mem_ofEvents hop
   exact mute_norel (hm e he)
  ·
   rw [Deaf_other t hi0 _ ops_g,h.d0]
   rcases hyy with rfl | ⟨rfl,rfl⟩ <;> rfl
  ·
   rw [Deaf_other t hic _ ops_g]; exact h.dc
  ·
   have h2 : sumTo gs.size (upd q i k) + (k + 1) = sumTo gs.size q + k := by
    have := sumTo_upd q k id hlt
    simpa [hqi] using this
   omega
end
section
open Go.Conc
open Go.ConcN (sumTo upd sumTo_upd upd_ne upd_same)
variable {K : Cfg} [Go.ConcX.Payload] [Go.ConcR.Payload] [Go.ConcX.Shy K.Wg K.C] {AnchW : Goroutine → World → Prop} {Post : Value → World → Prop}
variable {L : Nat} {S S' : Nat → Prop} {c : Nat} {x x' : Ch} {y y' : Ma} {τc τm τc' τm' : Tr} {gs gs' : Array Goroutine} {a a' b b' : Goroutine} {w w' : World} {t u : Trace} {q : Nat → Nat} {sl : Option (Nat × Nat)} {es : Array Event}
theorem J.comm (F : K.Fit) (h : J K L AnchW Post S c x y τc τm gs a b w t q) (h0 : gs'[0]? = some a') (hc : gs'[c]? = some b') (hsz : gs'.size = gs.size) (hoth : ∀ j,j ≠ 0 → j ≠ c → gs'[j]? = gs[j]?)
  (hmute : ∀ op ∈ u,op.act.touch? = none) (hq : ∀ g, ∀ op ∈ u, ∀ d,deafStep g d op = d) (hnr : ∀ op ∈ u,op.act ≠ .mark (.release K.stW)) (hblk : ∀ k,k ≠ K.A → w'.heap[k]? = w.heap[k]?)
  (hA : ∃ s,w'.heap[K.A]? = some (.chan 0 #[] false s s false)) (hch : ChM K S x' τc' b' w') (hma : MaM K L AnchW Post y' τm' a' w') (hp : ∀ st sm,Pair x y st sm → Pair x' y' st sm)
  (hrel : x'.rel = x.rel) (hshut : x'.shut = x.shut) (hxd : x'.deaf = x.deaf) (hyd : y'.deaf = y.deaf) (hsize : w'.heap.size = w.heap.size) (hy1 : y'.early = true → y.early = true) (hlow : y'.early = false → K.N0 ≤ L ∧ ∀ b,S b → b < L) :
  J K L AnchW Post S c x' y' τc' τm' gs' a' b' w' (t ++ u) q := by
 have eC := hblk K.C (fun e => F.k0A (e ▸ F.k0C))
 have hk : ∀ b,K.Kid w b → K.Kid w' b := fun b hb => hb.of_same (hblk b (fun e => F.kA w (e ▸ hb)))
 have hk' : ∀ b,K.Kid w' b → K.Kid w b := fun b hb => hb.of_same (hblk b (fun e => F.kA w' (e ▸ hb))).symm
 refine ⟨h.pos,h0,hc,fun i g hi hic hg => ?_,fun j hj => ?_,hch,hma,?_,hA,?_,?_,fun hr => ?_,fun z b => ⟨fun hb => hk b ((h.kid (hy1 z) b).1 hb),fun hb => (h.kid (hy1 z) b).2 (hk' b hb)⟩,h.kid0,h.of,fun z => by rw [hsize]; exact h.size (hy1 z),hlow,fun z => by rw [hsize]; exact lowT_app (Nat.le_refl _) (h.lowT (hy1 z)) (fun op hop z hz => by rw [hmute op hop] at hz; cases hz),?_,?_,?_⟩
 ·
  rw [hoth i (by omega) hic] at hg
  rw [Deaf_quiet (hq i)]
  exact h.old i g hi hic hg
 ·
  rw [Deaf_quiet (hq j)]
  exact h.above j (by omega)
 ·
  obtain ⟨st,sm,h1,h2⟩ := h.pair
  exact ⟨st,sm,hp st sm h1,(hblk _ (Ne.symm F.AW)).trans h2⟩
 ·
  rw [hshut]; exact (hblk _ (Ne.symm F.AE)).trans h.chE
 ·
  obtain ⟨cs,hcs,hn⟩ := h.pay; exact ⟨cs,eC.trans hcs,hn⟩
 ·
  exact Go.ConcX.ChanAt.of_block (h.full (hrel ▸ hr)) eC
 ·
  rw [hrel]; exact h.tr.mute hmute hnr
 ·
  rw [Deaf_quiet (hq 0),h.d0,hyd]
 ·
  rw [Deaf_quiet (hq c),h.dc,hxd]
theorem setA_rm (F : K.Fit) (s : Nat) : RM K w (w.setChan K.A 0 #[] false s s false) := ⟨rfl,rfl,rfl,fun _ _ _ hs => heap_setChan_ne w _ _ _ _ _ _ (fun e => hs (.inl e.symm)),by simp [World.setChan]⟩
theorem setA_rc (F : K.Fit) (s : Nat) : RC K w (w.setChan K.A 0 #[] false s s false) := fun b hb => heap_setChan_ne w _ _ _ _ _ _ (fun e => by
 subst e
 exact hb.elim (F.kA w) F.sA)
theorem J.no_offer (h : J K L AnchW Post S c x y τc τm gs a b w t q) {j : Nat} {g : Goroutine} (hj0 : j ≠ 0) (hjc : j ≠ c) (hg : gs[j]? = some g) (r : Nat) (sd : Bool) : offersAt g r sd = [] :=
 offersAt_of_not_blocked (fun hb => by rcases (h.old j g (by omega) hjc hg).status with z | z <;> rw [z] at hb <;> cases hb) r sd
theorem ChM.no_offer (h : ChM K S x τc b w) (hp : ∀ v vs,x ≠ .parkd v vs) (r : Nat) (sd : Bool) : offersAt b r sd = [] := by
 refine offersAt_of_not_blocked (fun hb => ?_) r sd
 rcases h.status with z | ⟨v,vs,_,e,_⟩ | ⟨n,d,_,hq⟩
 ·
  rw [z] at hb; cases hb
 ·
  exact hp v vs e
 ·
  rcases hq.status with z | z <;> rw [z] at hb <;> cases hb
theorem J.selects (F : K.Fit) (h : J K L AnchW Post S c x y τc τm gs a b w t q) {vs : List Value} (hy : y = .front vs ∨ y = .walk vs) (hs : selOf K AnchW vs a w) :
  ∃ gs' ops x' y' τc' τm' a' b' w' L',runT K.P (crowd gs w sl) 0 = (.next (crowd gs' w' sl),ops) ∧ gs'.size = gs.size ∧ J K L' AnchW Post S c x' y' τc' τm' gs' a' b' w' (t ++ ops) q ∧
   (x'.left < x.left ∨ (x' = x ∧ τc' = τc ∧ y'.rank x.done < y.rank x.done)) := by
 have hlt : 0 < gs.size := (Array.getElem?_eq_some_iff.1 h.h0).1
 have hltc : c < gs.size := (Array.getElem?_eq_some_iff.1 h.hc).1
 have hc0 : c ≠ 0 := by have := h.pos; omega
 obtain ⟨_,a₂,hs⟩ := (selOf_iff K AnchW vs a w).1 hs
 have hcm : stepG K.P (0 == 0) a w = .comm a₂ K.cases true .select w #[] := hs.comm
 obtain ⟨s,hA⟩ := h.chA
 obtain ⟨st,sm,hp,hwg⟩ := h.pair
 have hout : ∀ (r : Nat) (sd : Bool) (j : Nat) (g : Goroutine),j ≠ c → (gs.setIfInBounds 0 ph)[j]? = some g → offersAt g r sd = [] := by
  intro r sd j g hjc hg
  rcases getElem?_stand gs 0 j g hg with ⟨_,rfl⟩ | ⟨hj,hg'⟩
  ·
   exact offersAt_ph _ _
  ·
   exact h.no_offer hj hjc hg' r sd
 by_cases hpk : ∃ v vs',x = .parkd v vs'
 ·
  obtain ⟨v,vs',rfl⟩ := hpk
  have hvs : vs = v :: vs' ∧ y = .walk vs := by
   rcases hy with rfl | rfl
   ·
    exact hp.elim
   ·
    exact ⟨hp.1,rfl⟩
  obtain ⟨rfl,rfl⟩ := hvs
  obtain ⟨g₂,rfl,hnext⟩ := h.ch
  have hAE : K.A ≠ K.E := F.AE
  have hE := h.chE
  have pA : partners (gs.setIfInBounds 0 ph) K.A true = [(c,0)] := by
   rw [partners_one (j := c) (stand_get hc0 h.hc) (fun k z hk hz => hout _ _ k z hk hz),offersAt_parked_send]
   simp
  have pE : partners (gs.setIfInBounds 0 ph) K.E true = [] := by
   refine partners_nil fun j g hg => ?_
   by_cases hjc : j = c
   ·
    subst hjc
    rw [stand_get hc0 h.hc] at hg
    obtain rfl := Option.some.inj hg
    rw [offersAt_parked_send,if_neg hAE]
   ·
    exact hout _ _ j g hjc hg
  have hmeet := crowd_sel_recv_meets (P := K.P) (sl := sl) (k := 0) (c := K.A) (z := K.z) (gj := g₂) (zj := K.zs) h.h0 hcm rfl (fun m c' hm hc' => by
   rcases m with _ | _ | m
   ·
    exact absurd rfl hm
   ·
    simp only [Cfg.cases,List.getElem?_toArray,List.getElem?_cons_succ,List.getElem?_cons_zero,Option.some.injEq] at hc'
    subst hc'
    exact ways_recv_none hE pE
   ·
    simp [Cfg.cases] at hc') hA hc0 h.hc pA
  have hk0 : K.N0 ≤ w.heap.size := h.size rfl
  have hch : ChildS K vs' (Conc.served g₂ undef) (w.setChan K.A 0 #[] false (s + 1) (s + 1) false) := hnext _ (setA_rc F _)
  have hmn : MainS K AnchW vs' (Conc.served a₂ (commResult K.cases .select ((0 : Nat) : Int) v true)) (w.setChan K.A 0 #[] false (s + 1) (s + 1) false) := hs.2.2.2.2 _ (setA_rm F _) (by simpa [World.setChan] using hk0)
  rw [childS_eq] at hch
  rw [mainS_eq] at hmn
  obtain ⟨τc',hch⟩ := hch
  obtain ⟨τm',hmn⟩ := hmn
  refine ⟨_,_, .work vs', .walk vs', τc', τm',Conc.served a₂ (commResult K.cases .select ((0 : Nat) : Int) v true),Conc.served g₂ undef,_,L,hmeet,by simp,?_, .inl (by simp [Ch.left])⟩
  rw [ofEvents_none,Array.empty_append]
  refine J.comm F h (by rw [Array.getElem?_setIfInBounds_self_of_lt (by simpa using hlt)]; rfl) (by rw [Array.getElem?_setIfInBounds_ne (Ne.symm hc0),Array.getElem?_setIfInBounds_self_of_lt hltc]; rfl) (by simp)
   (fun j hj hjc => by rw [Array.getElem?_setIfInBounds_ne (Ne.symm hj),Array.getElem?_setIfInBounds_ne (Ne.symm hjc)])
   (met_mute c 0 _ _ _ _ K.A s 0) (met_quiet c 0 _ _ _ _ K.A s 0) ?_ (fun k hk => heap_setChan_ne w _ _ _ _ _ _ (Ne.symm hk)) ⟨s + 1,heap_setChan_self w hA _ _ _ _ _ _⟩ hch hmn ?_ rfl rfl rfl rfl (by simp [World.setChan]) (fun _ => rfl) (fun z => by cases z)
  ·
   intro op hop
   simp only [List.mem_toArray,List.mem_cons,List.not_mem_nil,or_false] at hop
   rcases hop with rfl | rfl | rfl | rfl <;> simp
  ·
   rintro st sm ⟨_,h2,h3⟩
   exact ⟨rfl,h2,h3⟩
 ·
  have hpk' : ∀ v vs',x ≠ .parkd v vs' := fun v vs' e => hpk ⟨v,vs',e⟩
  have pN : ∀ r,partners (gs.setIfInBounds 0 ph) r true = [] := fun r => by
   refine partners_nil fun j g hg => ?_
   by_cases hjc : j = c
   ·
    subst hjc
    rw [stand_get hc0 h.hc] at hg
    obtain rfl := Option.some.inj hg
    exact h.ch.no_offer hpk' _ _
   ·
    exact hout _ _ j g hjc hg
  have hoth : ∀ z j,j ≠ 0 → j ≠ c → (gs.setIfInBounds 0 z)[j]? = gs[j]? := fun z j hj _ => Array.getElem?_setIfInBounds_ne (Ne.symm hj)
  by_cases hsh : x.shut = true
  ·
   have hE := h.chE
   rw [hsh] at hE
   have hvs : vs = [] ∧ y = .walk vs := by
    rcases hy with rfl | rfl <;> cases x using Ch.casesT <;> first | exact hp.elim | exact ⟨hp.1,rfl⟩ | cases hsh
   obtain ⟨rfl,rfl⟩ := hvs
   have hcl := crowd_sel_recv_closed (P := K.P) (sl := sl) (k := 1) (c := K.E) (z := K.zE) h.h0 hcm rfl (fun m c' hm hc' => by
    rcases m with _ | _ | m
    ·
     simp only [Cfg.cases,List.getElem?_toArray,List.getElem?_cons_zero,Option.some.injEq] at hc'
     subst hc'
     exact ways_recv_none hA (pN _)
    ·
     exact absurd rfl hm
    ·
     simp [Cfg.cases] at hc') hE (pN _)
   have hk0 : K.N0 ≤ w.heap.size := h.size rfl
   obtain ⟨τm',hmn⟩ := hs.2.2.2.2 w (RM.refl w) hk0
   refine ⟨_,_,x, .over, τc, τm',Conc.served a₂ (commResult K.cases .select ((1 : Nat) : Int) K.zE false),b,w,L,hcl,by simp,?_, .inr ⟨rfl,rfl,by simp [Ma.rank]⟩⟩
   rw [ofEvents_none,Array.empty_append]
   refine J.comm F h (by rw [Array.getElem?_setIfInBounds_self_of_lt hlt]; rfl) (by rw [Array.getElem?_setIfInBounds_ne (Ne.symm hc0)]; exact h.hc) (by simp) (hoth _) ?_ ?_ ?_ (fun _ _ => rfl) ⟨s,hA⟩ h.ch hmn ?_ rfl rfl rfl rfl rfl (fun _ => rfl) (fun z => by cases z)
   ·
    intro op hop; simp at hop; subst hop; rfl
   ·
    intro g op hop d; simp at hop; subst hop; rfl
   ·
    intro op hop; simp at hop; subst hop; simp
   ·
    intro st sm hp'
    cases x using Ch.casesT <;> first | exact hp'.elim | exact hp'.2 | cases hsh
  ·
   have hsh' : x.shut = false := by cases e : x.shut <;> simp_all
   have hE := h.chE
   rw [hsh'] at hE
   have hwt := crowd_waits (P := K.P) (sl := sl) h.h0 hcm (fun cc hcc => by
    simp only [Cfg.cases,List.mem_toArray,List.mem_cons,List.not_mem_nil,or_false] at hcc
    rcases hcc with rfl | rfl
    ·
     exact ways_recv_none hA (pN _)
    ·
     exact ways_recv_none hE (pN _))
   refine ⟨_,_,x, .parkd vs, τc, τm,parked a₂ K.cases .select,b,w,L,hwt,by simp,?_, .inr ⟨rfl,rfl,by rcases hy with rfl | rfl <;> simp [Ma.rank]⟩⟩
   rw [ofEvents_none]
   refine J.comm F h (by simp [hlt]) (by rw [Array.getElem?_setIfInBounds_ne (Ne.symm hc0)]; exact h.hc) (by simp) (hoth _) (by simp) (by simp) (by simp) (fun _ _ => rfl) ⟨s,hA⟩ h.ch ⟨a,a₂,rfl,hs⟩ ?_ rfl rfl rfl (by rcases hy with rfl | rfl <;> rfl) rfl (fun _ => by rcases hy with rfl | rfl <;> rfl) (fun z => by cases z)
   intro st sm hp'
   rcases hy with rfl | rfl <;> cases x using Ch.casesT <;> first | exact absurd rfl (hpk' _ _) | exact hp'.elim | exact hp' | cases hsh'
theorem J.sends (F : K.Fit) (h : J K L AnchW Post S c x y τc τm gs a b w t q) {v : Value} {vs : List Value} (hx : x = .fresh (v :: vs) ∨ x = .work (v :: vs)) (hs : AtSend K v (ChildS K vs) b w) :
  ∃ gs' ops x' y' τc' τm' a' b' w',runT K.P (crowd gs w sl) c = (.next (crowd gs' w' sl),ops) ∧ gs'.size = gs.size ∧ J K L AnchW Post S c x' y' τc' τm' gs' a' b' w' (t ++ ops) q ∧
   (x'.left < x.left ∨ (x'.left = x.left ∧ x'.rank < x.rank)) := by
 have hlt : 0 < gs.size := (Array.getElem?_eq_some_iff.1 h.h0).1
 have hltc : c < gs.size := (Array.getElem?_eq_some_iff.1 h.hc).1
 have hc0 : c ≠ 0 := by have := h.pos; omega
 obtain ⟨_,hk0,hst,hnext⟩ := hs
 have hcm : stepG K.P (c == 0) b w = .comm b #[scase K.A v K.zs] true .send w #[] := by rw [show (c == 0) = false by simp [hc0]]; exact hst
 obtain ⟨s,hA⟩ := h.chA
 obtain ⟨st,sm,hp,hwg⟩ := h.pair
 have hout : ∀ (r : Nat) (sd : Bool) (j : Nat) (g : Goroutine),j ≠ 0 → (gs.setIfInBounds c ph)[j]? = some g → offersAt g r sd = [] := by
  intro r sd j g hj0 hg
  rcases getElem?_stand gs c j g hg with ⟨_,rfl⟩ | ⟨hj,hg'⟩
  ·
   exact offersAt_ph _ _
  ·
   exact h.no_offer hj0 hj hg' r sd
 by_cases hpk : ∃ vs',y = .parkd vs'
 ·
  obtain ⟨vs',rfl⟩ := hpk
  have hvs : vs' = v :: vs := by rcases hx with rfl | rfl <;> exact hp.1
  subst hvs
  obtain ⟨g₀,g₂,rfl,hsel⟩ := h.ma
  have pA : partners (gs.setIfInBounds c ph) K.A false = [(0,0)] := by
   rw [partners_one (j := 0) (stand_get (Ne.symm hc0) h.h0) (fun k z hk hz => hout _ _ k z hk hz),offersAt_parked_at (k := 0) (z := K.z) rfl (fun m cc hm hcc => by
    rcases m with _ | _ | m
    ·
     exact absurd rfl hm
    ·
     simp only [Cfg.cases,List.getElem?_toArray,List.getElem?_cons_succ,List.getElem?_cons_zero,Option.some.injEq] at hcc
     subst hcc
     simp only [rcase,ne_eq,Value.chan.injEq,Option.some.injEq]
     exact Ne.symm F.AE
    ·
     simp [Cfg.cases] at hcc)]
   simp
  have hmeet := crowd_send_meets_sel (P := K.P) (sl := sl) (k := 0) (zj := K.z) (gj := g₂) h.hc hcm hA (Ne.symm hc0) h.h0 rfl pA
  have hch : ChildS K vs (Conc.served b undef) (w.setChan K.A 0 #[] false (s + 1) (s + 1) false) := hnext _ (setA_rc F _)
  have hmn : MainS K AnchW vs (Conc.served g₂ (commResult K.cases .select ((0 : Nat) : Int) v true)) (w.setChan K.A 0 #[] false (s + 1) (s + 1) false) := hsel.2.2.2.2 _ (setA_rm F _) (by simpa [World.setChan] using hk0)
  rw [childS_eq] at hch
  rw [mainS_eq] at hmn
  obtain ⟨τc',hch⟩ := hch
  obtain ⟨τm',hmn⟩ := hmn
  refine ⟨_,_, .work vs, .walk vs, τc', τm',Conc.served g₂ (commResult K.cases .select ((0 : Nat) : Int) v true),Conc.served b undef,_,hmeet,by simp,?_, .inl (by rcases hx with rfl | rfl <;> simp [Ch.left])⟩
  rw [ofEvents_none,Array.empty_append]
  refine J.comm F h (by rw [Array.getElem?_setIfInBounds_ne hc0,Array.getElem?_setIfInBounds_self_of_lt hlt]; rfl) (by rw [Array.getElem?_setIfInBounds_self_of_lt (by simpa using hltc)]; rfl) (by simp)
   (fun j hj hjc => by rw [Array.getElem?_setIfInBounds_ne (Ne.symm hjc),Array.getElem?_setIfInBounds_ne (Ne.symm hj)])
   (met_mute c 0 _ _ _ _ K.A s 0) (met_quiet c 0 _ _ _ _ K.A s 0) ?_ (fun k hk => heap_setChan_ne w _ _ _ _ _ _ (Ne.symm hk)) ⟨s + 1,heap_setChan_self w hA _ _ _ _ _ _⟩ hch hmn ?_ (by rcases hx with rfl | rfl <;> rfl) (by rcases hx with rfl | rfl <;> rfl) (by rcases hx with rfl | rfl <;> rfl) rfl (by simp [World.setChan]) (fun _ => rfl) (fun z => by cases z)
  ·
   intro op hop
   simp only [List.mem_toArray,List.mem_cons,List.not_mem_nil,or_false] at hop
   rcases hop with rfl | rfl | rfl | rfl <;> simp
  ·
   intro st sm hp'
   rcases hx with rfl | rfl <;> exact ⟨rfl,hp'.2⟩
 ·
  have hwl : y = .front (v :: vs) ∨ y = .walk (v :: vs) := by
   rcases hx with rfl | rfl
   ·
    cases y using Ma.casesT with
    | front vs' => exact .inl (congrArg Ma.front hp.1)
    | parkd vs' => exact absurd ⟨_,rfl⟩ hpk
    | _ => exact hp.elim
   ·
    cases y using Ma.casesT with
    | walk vs' => exact .inr (congrArg Ma.walk hp.1)
    | parkd vs' => exact absurd ⟨_,rfl⟩ hpk
    | _ => exact hp.elim
  have hma : MaM K L AnchW Post (.walk (v :: vs)) τm a w := by
   rcases hwl with rfl | rfl
   ·
    exact h.ma
   ·
    exact h.ma
  have hrun : a.status = .running := TGoes.running RM.refl (fun _ _ => selOf.run) hma
  have pN : partners (gs.setIfInBounds c ph) K.A false = [] := by
   refine partners_nil fun j g hg => ?_
   by_cases hj0 : j = 0
   ·
    subst hj0
    rw [stand_get (Ne.symm hc0) h.h0] at hg
    obtain rfl := Option.some.inj hg
    exact offersAt_of_not_blocked (fun hb => by rw [hrun] at hb; cases hb) _ _
   ·
    exact hout _ _ j g hj0 hg
  have hwt := crowd_waits (P := K.P) (sl := sl) h.hc hcm (fun cc hcc => by
   simp only [List.mem_toArray,List.mem_cons,List.not_mem_nil,or_false] at hcc
   subst hcc
   exact ways_send_none hA (Nat.le_refl 0) pN)
  refine ⟨_,_, .parkd v vs, .walk (v :: vs), τc, τm,a,parked b #[scase K.A v K.zs] .send,w,hwt,by simp,?_, .inr ⟨by rcases hx with rfl | rfl <;> simp [Ch.left],by rcases hx with rfl | rfl <;> simp [Ch.rank]⟩⟩
  rw [ofEvents_none]
  refine J.comm F h (by rw [Array.getElem?_setIfInBounds_ne hc0]; exact h.h0) (Array.getElem?_setIfInBounds_self_of_lt hltc) (by simp) (fun j _ hjc => Array.getElem?_setIfInBounds_ne (Ne.symm hjc)) (by simp) (by simp) (by simp) (fun _ _ => rfl) ⟨s,hA⟩ ⟨b,rfl,hnext⟩ hma ?_ (by rcases hx with rfl | rfl <;> rfl) (by rcases hx with rfl | rfl <;> rfl) (by rcases hx with rfl | rfl <;> rfl) (by rcases hwl with rfl | rfl <;> rfl) rfl (fun _ => by rcases hwl with rfl | rfl <;> rfl) (fun z => by cases z)
  intro st sm hp'
  rcases hx with rfl | rfl <;> rcases hwl with rfl | rfl <;> first | exact ⟨rfl,hp'.2⟩ | exact hp'.elim
end
end Go.Proofs.YtgcaionclkbehaaGreatDoor
