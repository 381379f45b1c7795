import Derived.Test.YtgcaionclkbehaaGreatDoorE11
set_option linter.all false
namespace Go.Proofs.YtgcaionclkbehaaGreatDoor
section
open Go.Conc
section
variable {ι : Type} {P : Program} {main : Bool} {R : ι → World → World → Prop} {D : ι → World → World → Array Event → Prop} {X : ι → Goroutine → World → Prop} {fn : FuncId} {Q : PostI ι} {a : Act} {w : World} {vs : ι}
theorem stepG_scope {b : Frame} {a : Act} {k : List Item} {cs : List Frame} {w : World} {c : Code} : stepG P main (G (b.at a (.code (.scope c) :: k)) cs) w = .go (G (b.at a (.code c :: .inScope c :: k)) cs) w := by simp [G,stepG,stepG.exec,Frame.at]
theorem stepG_inScope {b : Frame} {a : Act} {k : List Item} {cs : List Frame} {w : World} {c : Code} : stepG P main (G (b.at a (.inScope c :: k)) cs) w = .go (G (b.at a k) cs) w := by simp [G,stepG,stepG.exec,Frame.at]
theorem wpI_scope (C : ClosedI P main R D X) (T : ∀ i,Terms (R i) (D i)) {c : Code} (h : wpI X fn c vs Q a w) : wpI X fn (.scope c) vs Q a w := by
 intro b k cs hb hk hc
 have hx : X vs (G (b.at a (.code c :: .inScope c :: k)) cs) w := by
  refine h b (.inScope c :: k) cs hb hk fun vs' e a' w' q => ?_
  cases e with
  | normal => exact C.step rfl fun w₁ h₁ => by rw [stepG_inScope]; exact ⟨(T vs').idle _,C.rely (hc _ _ _ _ q) h₁⟩
  | exit id =>
   obtain ⟨k',hk',hg⟩ := hc _ _ _ _ q
   exact ⟨k',by simp [exitTo,hk'],hg⟩
  | ret => exact hc _ _ _ _ q
  | goto l => exact hc _ _ _ _ q
  | panic ch => exact hc _ _ _ _ q
  | outgrown => exact hc _ _ _ _ q
 exact C.step rfl fun w₁ h₁ => by rw [stepG_scope]; exact ⟨(T vs).idle _,C.rely hx h₁⟩
end
end
section
open Go.Conc Go.RowKit Go.Lib
section
variable {ι : Type} {P : Program} {KT : TypeId → Prop} {An : Who} {N0 : ι → Nat} {M : ι → World → Nat → Prop} {O : ι → Nat → Prop} {R : ι → World → World → Prop} {D : ι → World → World → Array Event → Prop} {X : ι → Goroutine → World → Prop} {Hd : ι → List (Nat × Obj) → World → Prop}
variable {fn : FuncId} {Q : PostI ι} {a : Act} {w : World} {i : ι} {S : Who} {s s' : AS} {l fr rl : List (Nat × Obj)} {aA aA' : TL} {v : Value} {ops : Array Oper} {j : Nat} {rest : List Nat} {o : Oper} {kt : TypeId → Bool} {pr : Prim}
structure PrimOk (P : Program) (KT : TypeId → Prop) (An : Who) (R : ι → World → World → Prop) (D : ι → World → World → Array Event → Prop) (X : ι → Goroutine → World → Prop) (Hd : ι → List (Nat × Obj) → World → Prop) (pr : Prim) : Prop where
 nx : ∀ f g args s v s',pr f = some g → g args s = some (v,s') → s.nx ≤ s'.nx
 sound : ∀ f g args s v s',pr f = some g → g args s = some (v,s') → Sound P KT An R D X Hd f args s v s'
theorem zm5 (n : Nat) (id : Nat) (ops : Array Oper) (draw : Bool) (a : TL) (s : AS) : evC P kt pr (n + 1) (.region id ops draw) a s = if okOps ops = false then none else
  match (if draw then evDraw P kt else evOps' P kt) (zb8 P kt pr n) ops a s with
  | some (a',s') => some (.normal,a',s')
  | none => none := rfl
theorem ev_nx (hp : ∀ f g args s v s',pr f = some g → g args s = some (v,s') → s.nx ≤ s'.nx) : ∀ (n : Nat),(∀ (c : Code) (a a' : TL) (s s' : AS) (e : Exit),evC P kt pr n c a s = some (e,a',s') → s.nx ≤ s'.nx) ∧ ∀ f args s v s',zb8 P kt pr n f args s = some (v,s') → s.nx ≤ s'.nx := by
 intro n
 have call_of : ∀ n,(∀ (c : Code) (a a' : TL) (s s' : AS) (e : Exit),evC P kt pr n c a s = some (e,a',s') → s.nx ≤ s'.nx) → ∀ f args s v s',zb8 P kt pr n f args s = some (v,s') → s.nx ≤ s'.nx := by
  intro n hc f args s v s' h
  unfold zb8 at h
  split at h
  ·
   next g hg => exact hp f g args s v s' hg h
  ·
   split at h
   ·
    split at h
    ·
     split at h
     ·
      next e a1 s1 hb =>
      have := hc _ _ _ _ _ _ hb
      split at h
      iterate 2
       ·
        simp at h; obtain ⟨r,hr,rfl,rfl⟩ := h; exact this
      ·
       cases h
     ·
      cases h
    ·
     cases h
   ·
    cases h
 induction n with
 | zero =>
  have h0 : ∀ (c : Code) (a a' : TL) (s s' : AS) (e : Exit),evC P kt pr 0 c a s = some (e,a',s') → s.nx ≤ s'.nx := fun c a a' s s' e h => by simp [evC] at h
  exact ⟨h0,call_of 0 h0⟩
 | succ n ih =>
  obtain ⟨ih,ihc⟩ := ih
  have h1 : ∀ (c : Code) (a a' : TL) (s s' : AS) (e : Exit),evC P kt pr (n + 1) c a s = some (e,a',s') → s.nx ≤ s'.nx := by
   intro c a a' s s' e h
   cases c with
   | skip => simp [evC] at h; obtain ⟨_,_,rfl⟩ := h; exact Nat.le_refl _
   | ret => simp [evC] at h; obtain ⟨_,_,rfl⟩ := h; exact Nat.le_refl _
   | exit id => simp [evC] at h; obtain ⟨_,_,rfl⟩ := h; exact Nat.le_refl _
   | label id => simp [evC] at h; obtain ⟨_,_,rfl⟩ := h; exact Nat.le_refl _
   | seq x y =>
    simp only [evC] at h
    split at h
    ·
     next a1 s1 hx => exact Nat.le_trans (ih _ _ _ _ _ _ hx) (ih _ _ _ _ _ _ h)
    ·
     exact ih _ _ _ _ _ _ h
   | cond x y z =>
    simp only [evC] at h
    split at h
    iterate 2
     ·
      exact ih _ _ _ _ _ _ h
    ·
     cases h
   | block id x =>
    simp only [evC] at h
    split at h
    ·
     next k a1 s1 hx =>
     have := ih _ _ _ _ _ _ hx
     split at h <;> (cases h; exact this)
    ·
     exact ih _ _ _ _ _ _ h
   | loop x =>
    simp only [evC] at h
    split at h
    ·
     next a1 s1 hx => exact Nat.le_trans (ih _ _ _ _ _ _ hx) (ih _ _ _ _ _ _ h)
    ·
     exact ih _ _ _ _ _ _ h
   | scope x => simp only [evC] at h; exact ih _ _ _ _ _ _ h
   | region id ops draw =>
    rw [zm5] at h
    split at h
    ·
     cases h
    ·
     split at h
     ·
      next a1 s1 hx =>
      cases h
      cases draw with
      | true => exact evDraw_nx ihc hx
      | false => exact evOps_nx ihc _ hx
     ·
      cases h
   | _ => simp [evC] at h
  exact ⟨h1,call_of _ h1⟩
def LoopI (X : ι → Goroutine → World → Prop) (fn : FuncId) (x : Code) (vs : ι) (Q : PostI ι) (a : Act) (w : World) : Prop :=
 ∀ (b : Frame) (k : List Item) (cs : List Frame),b.fn = fn → b.kind ≠ .early → (∀ vs' e a' w',Q vs' e a' w' → AfterI X vs' b k cs e a' w') → X vs (G (b.at a (.code x :: .inLoop x :: k)) cs) w
theorem loopI_round (C : ClosedI P true R D X) (T : ∀ i,Terms (R i) (D i)) {x : Code} (h : wpI X fn x i (thenI (fun i' a' w' => LoopI X fn x i' Q a' w') Q) a w) : LoopI X fn x i Q a w := by
 intro b k cs hb hk hc
 refine h b (.inLoop x :: k) cs hb hk fun vs' e a' w' q => ?_
 cases e with
 | normal => exact C.step rfl fun w₁ h₁ => by rw [stepG_inLoop]; exact ⟨(T vs').idle _,C.rely (q b k cs hb hk hc) h₁⟩
 | exit id => exact (hc _ _ _ _ q).push rfl (by simp)
 | ret => exact (hc _ _ _ _ q).push (x := .inLoop x) rfl (by simp)
 | goto l => exact hc _ _ _ _ q
 | panic ch => exact hc _ _ _ _ q
 | outgrown => exact hc _ _ _ _ q
theorem wpI_of_loopI (C : ClosedI P true R D X) (T : ∀ i,Terms (R i) (D i)) {x : Code} (h : LoopI X fn x i Q a w) : wpI X fn (.loop x) i Q a w := fun b k cs hb hk hc =>
 C.step rfl fun w₁ h₁ => by rw [stepG_loop]; exact ⟨(T i).idle _,C.rely (h b k cs hb hk hc) h₁⟩
def CodeOk (P : Program) (KT : TypeId → Prop) (An : Who) (kt : TypeId → Bool) (pr : Prim) (X : ι → Goroutine → World → Prop) (Hd : ι → List (Nat × Obj) → World → Prop) (n : Nat) : Prop :=
 ∀ (c : Code) (fn : FuncId) (aA aA' : TL) (s s' : AS) (e : Exit) (S : Who) (l fr : List (Nat × Obj)) (i : ι) (w : World) (a : Act) (Q : PostI ι),evC P kt pr n c aA s = some (e,aA',s') → Sim P KT An S s l → Hd i (l ++ fr) w → AR (VR S) aA.toArray a.tmps → a.defers = [] → (∀ b,s.nx ≤ b → b < s'.nx → S b = none) →
   OutC P KT An Hd S s s' fr aA' (fun i' a' w' => Q i' e a' w') → wpI X fn c i Q a w ∧ ∀ x,c = .loop x → LoopI X fn x i Q a w
theorem only {c : Code} (h : wpI X fn c i Q a w) (hc : ∀ x,c ≠ .loop x) : wpI X fn c i Q a w ∧ ∀ x,c = .loop x → LoopI X fn x i Q a w := ⟨h,fun x e => absurd e (hc x)⟩
theorem ev_sound (Y : Cy P KT N0 M O R D X Hd) (hm : P.follows .mixedOrders = true) (hkt : ∀ t, kt t = false → ¬ KT t) (hp : PrimOk P KT An R D X Hd pr) (hnm : ∀ (f : FuncId) (f₀ : Func), P.funcs[f]? = some f₀ → (f₀.name == "runtime.NumGoroutine") = false) : ∀ (n : Nat),
  CodeOk P KT An kt pr X Hd n ∧
  ∀ f args s v s',zb8 P kt pr n f args s = some (v,s') → Sound P KT An R D X Hd f args s v s' := by
 intro n
 have call_of : ∀ n,CodeOk P KT An kt pr X Hd n → ∀ f args s v s',zb8 P kt pr n f args s = some (v,s') → Sound P KT An R D X Hd f args s v s' := by
  intro n hC f args s v s' h
  unfold zb8 at h
  split at h
  ·
   next g hg => exact hp.sound f g args s v s' hg h
  ·
   split at h
   ·
    next f₀ hf =>
    split at h
    ·
     next c hb =>
     split at h
     ·
      next e a1 s1 hbody =>
      have hex : (e = .normal ∨ e = .ret) ∧ (evRes P f₀ a1 s1).map (·,s1) = some (v,s') := by
       split at h
       ·
        exact ⟨.inl rfl,h⟩
       ·
        exact ⟨.inr rfl,h⟩
       ·
        cases h
      obtain ⟨hex,h⟩ := hex
      simp only [Option.map_eq_some_iff,Prod.mk.injEq] at h
      obtain ⟨r,hr,rfl,rfl⟩ := h
      intro S l fr i w args' hS hF hA hfr
      refine ⟨f₀,c,hf,hnm f f₀ hf,hb,?_⟩
      refine (hC c f _ a1 s s1 e S l fr i w _ _ hbody hS hF ?_ rfl hfr ?_).1
      ·
       have : args.toList.length = args'.size := by rw [← hA.1]; simp
       have h2 := hA.append (AR.replicate (S := S) (x := undef) (v := undef) (f₀.ntmps - args'.size) VR.undef)
       have he : (args.toList ++ List.replicate (f₀.ntmps - args.toList.length) undef).toArray = args ++ Array.replicate (f₀.ntmps - args'.size) undef := by
        apply Array.toList_inj.1
        rw [this]
        simp
       rw [he]
       exact h2
      ·
       intro i' S' l' w' a' h1 h2 h3 h4 h5 h6
       refine ⟨hex,h6,fun w₁ hr1 => ?_⟩
       have h4' := (Y.Z h4).rely h4 hr1
       obtain ⟨v',hv,hrd⟩ := res_sound Y h3 h4' h5 hr
       refine ⟨v',hrd.1,?_,S',l',h1,h2,h3,h4',hv⟩
       exact (Y.Z h4').env.does ((Y.Z h4').size h4') (Own.refl _) fun ev hev => hrd.2 ev (mem_seen hev)
     ·
      cases h
    ·
     cases h
   ·
    cases h
 induction n with
 | zero =>
  have h0 : CodeOk P KT An kt pr X Hd 0 := fun c fn aA aA' s s' e S l fr i w a Q h => by simp [evC] at h
  exact ⟨h0,call_of 0 h0⟩
 | succ n ih =>
  obtain ⟨ih,ihc⟩ := ih
  have nx := ev_nx (P := P) (kt := kt) hp.nx n
  have h1 : CodeOk P KT An kt pr X Hd (n + 1) := ?_
  ·
   exact ⟨h1,call_of _ h1⟩
  intro c fn aA aA' s s' e S l fr i w a Q h hS hF hA hd hfr K
  cases c with
  | skip => simp [evC] at h; obtain ⟨rfl,rfl,rfl⟩ := h; exact only (ze0 Y.C Y.T (K i S l w a (Who.le_refl S) (fun _ _ => rfl) hS hF hA hd)) (by simp)
  | ret => simp [evC] at h; obtain ⟨rfl,rfl,rfl⟩ := h; exact only (zc3 Y.C Y.T (K i S l w a (Who.le_refl S) (fun _ _ => rfl) hS hF hA hd)) (by simp)
  | exit id => simp [evC] at h; obtain ⟨rfl,rfl,rfl⟩ := h; exact only (zl6 Y.C Y.T (K i S l w a (Who.le_refl S) (fun _ _ => rfl) hS hF hA hd)) (by simp)
  | label id => simp [evC] at h; obtain ⟨rfl,rfl,rfl⟩ := h; exact only (wpI_label Y.C Y.T (K i S l w a (Who.le_refl S) (fun _ _ => rfl) hS hF hA hd)) (by simp)
  | seq x y =>
   refine only ?_ (by simp)
   simp only [evC] at h
   split at h
   ·
    next a1 s1 hx =>
    have n1 := nx.1 _ _ _ _ _ _ hx
    have n2 := nx.1 _ _ _ _ _ _ h
    refine za5 Y.C Y.T (ih x fn aA a1 s s1 .normal S l fr i w a _ hx hS hF hA hd (fun b h1 h2 => hfr b h1 (by omega)) ?_).1
    intro i1 S1 l1 w1 a2 q1 q2 q3 q4 q5 q6
    refine (ih y fn a1 aA' s1 s' e S1 l1 fr i1 w1 a2 Q h q3 q4 q5 q6 (fun b h1 h2 => by rw [q2 b (.inr h1)]; exact hfr b (by omega) h2) ?_).1
    intro i2 S2 l2 w2 a3 r1 r2 r3 r4 r5 r6
    exact K i2 S2 l2 w2 a3 (Who.le_trans q1 r1) (fun b hb => by rw [r2 b (by omega),q2 b (by omega)]) r3 r4 r5 r6
   ·
    next hne =>
    refine za5 Y.C Y.T (ih x fn aA aA' s s' e S l fr i w a _ h hS hF hA hd hfr ?_).1
    intro i1 S1 l1 w1 a2 q1 q2 q3 q4 q5 q6
    have := K i1 S1 l1 w1 a2 q1 q2 q3 q4 q5 q6
    cases e with
    | normal => exact absurd h (hne aA' s')
    | _ => exact this
  | cond x y z =>
   refine only ?_ (by simp)
   have hop : ∀ t,aA.at x = .bool t → a.eval x = .bool t := fun t ht => by
    cases x with
    | tmp q => have := at_rel (x := .tmp q) hA rfl; rw [ht] at this; exact this.sc rfl
    | const q => exact ht
    | global q => exact ht
    | func q => exact ht
   simp only [evC] at h
   split at h
   ·
    next ht => exact zc0 Y.C Y.T (hop true ht) (ih y fn aA aA' s s' e S l fr i w a Q h hS hF hA hd hfr K).1
   ·
    next ht => exact zc0 Y.C Y.T (hop false ht) (ih z fn aA aA' s s' e S l fr i w a Q h hS hF hA hd hfr K).1
   ·
    cases h
  | block id x =>
   refine only ?_ (by simp)
   simp only [evC] at h
   split at h
   ·
    next k a1 s1 hx =>
    have hs1 : a1 = aA' ∧ s1 = s' := by split at h <;> (cases h; exact ⟨rfl,rfl⟩)
    obtain ⟨rfl,rfl⟩ := hs1
    refine ze3 Y.C Y.T (ih x fn aA a1 s s1 (.exit k) S l fr i w a _ hx hS hF hA hd hfr ?_).1
    intro i1 S1 l1 w1 a2 q1 q2 q3 q4 q5 q6
    have := K i1 S1 l1 w1 a2 q1 q2 q3 q4 q5 q6
    simp only [zi4]
    split at h
    ·
     next hk => cases h; rw [if_pos hk]; exact this
    ·
     next hk => cases h; rw [if_neg hk]; exact this
   ·
    next hne =>
    refine ze3 Y.C Y.T (ih x fn aA aA' s s' e S l fr i w a _ h hS hF hA hd hfr ?_).1
    intro i1 S1 l1 w1 a2 q1 q2 q3 q4 q5 q6
    have := K i1 S1 l1 w1 a2 q1 q2 q3 q4 q5 q6
    cases e with
    | exit k => exact absurd h (hne k aA' s')
    | _ => exact this
  | loop x =>
   have hl : LoopI X fn x i Q a w := by
    simp only [evC] at h
    split at h
    ·
     next a1 s1 hx =>
     have n1 := nx.1 _ _ _ _ _ _ hx
     have n2 := nx.1 _ _ _ _ _ _ h
     refine loopI_round Y.C Y.T (ih x fn aA a1 s s1 .normal S l fr i w a _ hx hS hF hA hd (fun b h1 h2 => hfr b h1 (by omega)) ?_).1
     intro i1 S1 l1 w1 a2 q1 q2 q3 q4 q5 q6
     refine (ih (.loop x) fn a1 aA' s1 s' e S1 l1 fr i1 w1 a2 Q h q3 q4 q5 q6 (fun b h1 h2 => by rw [q2 b (.inr h1)]; exact hfr b (by omega) h2) ?_).2 x rfl
     intro i2 S2 l2 w2 a3 r1 r2 r3 r4 r5 r6
     exact K i2 S2 l2 w2 a3 (Who.le_trans q1 r1) (fun b hb => by rw [r2 b (by omega),q2 b (by omega)]) r3 r4 r5 r6
    ·
     next hne =>
     refine loopI_round Y.C Y.T (ih x fn aA aA' s s' e S l fr i w a _ h hS hF hA hd hfr ?_).1
     intro i1 S1 l1 w1 a2 q1 q2 q3 q4 q5 q6
     have := K i1 S1 l1 w1 a2 q1 q2 q3 q4 q5 q6
     cases e with
     | normal => exact absurd h (hne aA' s')
     | _ => exact this
   exact ⟨wpI_of_loopI Y.C Y.T hl,fun y hy => by cases hy; exact hl⟩
  | scope x => simp only [evC] at h; exact only (wpI_scope Y.C Y.T (ih x fn aA aA' s s' e S l fr i w a Q h hS hF hA hd hfr K).1) (by simp)
  | region id ops draw =>
   refine only ?_ (by simp)
   rw [zm5] at h
   split at h
   ·
    cases h
   ·
    next hok =>
    have hok : okOps ops = true := by simpa using hok
    split at h
    ·
     next a1 s1 hx =>
     cases h
     cases draw with
     | true => exact draw_sound Y hm hkt ihc nx.2 hok hx hS hF hA hd hfr K
     | false =>
      refine za2 Y.C Y.T ?_
      have hx' : evOps P kt (zb8 P kt pr n) ops (ops.toList.drop 0) aA s = some (aA',s') := hx
      have := evOps_sound (Q := Q) (fn := fn) Y hkt ihc nx.2 hok ops.size 0 (by omega) (by omega) hx' hS hF hA hd hfr K
      rw [List.range_eq_range']
      exact this
    ·
     cases h
  | _ => simp [evC] at h
end
end
section
open Go.Conc Go.RowKit Go.Lib
abbrev CallF := FuncId → Array Value → AS → Option (Value × AS)
def CallLe (c c' : CallF) : Prop := ∀ f args s r,c f args s = some r → c' f args s = some r
section
variable {P : Program} {kt : TypeId → Bool} {pr : Prim} {c c' : CallF}
theorem evOp_mono (hc : CallLe c c') {a : TL} {o : Oper} {s : AS} {r : Value × AS} (h : evOp P kt c a o s = some r) : evOp P kt c' a o s = some r := by
 unfold evOp at h ⊢
 split
 ·
  next hn => rw [if_pos hn] at h; exact h
 ·
  next hn =>
  rw [if_neg hn] at h
  cases hop : o.op with
  | call cl =>
   rw [hop] at h
   simp only at h ⊢
   split
   ·
    next f hf =>
    rw [hf] at h
    simp only at h
    split
    ·
     next hne => rw [if_pos hne] at h; exact h
    ·
     next hne =>
     rw [if_neg hne] at h
     split at h
     ·
      next g first cap hg => exact hc _ _ _ _ h
     ·
      cases h
   ·
    next b hb => rw [hb] at h; exact h
   ·
    next h1 h2 =>
    split at h
    ·
     next f hf => exact absurd hf (h1 f)
    ·
     next b hb => exact absurd hb (h2 b)
    ·
     cases h
  | next it b => rw [hop] at h; cases b <;> exact h
  | _ => rw [hop] at h; exact h
theorem zk5 (hc : CallLe c c') {ops : Array Oper} : ∀ {rest : List Oper} {a : TL} {s : AS} {r : TL × AS},evOps P kt c ops rest a s = some r → evOps P kt c' ops rest a s = some r
 | [],a,s,r,h => h
 | o :: rest,a,s,r,h => by
  unfold evOps at h ⊢
  split
  ·
   next hw =>
   rw [if_pos hw] at h
   split at h
   ·
    next v s' ho => rw [evOp_mono hc ho]; exact zk5 hc h
   ·
    cases h
  ·
   next hw => rw [if_neg hw] at h; exact zk5 hc h
theorem evTr_mono (hc : CallLe c c') {ops : Array Oper} : ∀ {rest : List Oper} {a : TL} {s : AS} {r : List (TL × Value × AS)},evTr P kt c ops rest a s = some r → evTr P kt c' ops rest a s = some r
 | [],a,s,r,h => h
 | o :: rest,a,s,r,h => by
  unfold evTr at h ⊢
  split
  ·
   next hw =>
   rw [if_pos hw] at h
   split at h
   ·
    next v s' ho =>
    rw [evOp_mono hc ho]
    split at h
    ·
     next tr ht => simp only; rw [evTr_mono hc ht]; exact h
    ·
     cases h
   ·
    cases h
  ·
   next hw =>
   rw [if_neg hw] at h
   split at h
   ·
    next tr ht => rw [evTr_mono hc ht]; exact h
   ·
    cases h
theorem evDraw_mono (hc : CallLe c c') {ops : Array Oper} {a : TL} {s : AS} {r : TL × AS} (h : evDraw P kt c ops a s = some r) : evDraw P kt c' ops a s = some r := by
 unfold evDraw at h ⊢
 simp only at h ⊢
 split
 ·
  next hb => rw [if_pos hb] at h; exact h
 ·
  next hb =>
  rw [if_neg hb] at h
  split at h
  ·
   next tr ht => rw [evTr_mono hc ht]; exact h
  ·
   cases h
theorem evCall_of_evC {n m : Nat} (h : ∀ c a s r,evC P kt pr n c a s = some r → evC P kt pr m c a s = some r) : CallLe (zb8 P kt pr n) (zb8 P kt pr m) := by
 intro f args s r hr
 unfold zb8 at hr ⊢
 split
 ·
  next g hg => rw [hg] at hr; exact hr
 ·
  next hg =>
  rw [hg] at hr
  simp only at hr
  split at hr
  ·
   next fn hf =>
   split at hr
   ·
    next b hb =>
    split at hr
    ·
     next e a' s' he => rw [h _ _ _ _ he]; exact hr
    ·
     cases hr
   ·
    cases hr
  ·
   cases hr
theorem evC_step : ∀ (n : Nat) (c : Code) (a : TL) (s : AS) (r : Exit × TL × AS),evC P kt pr n c a s = some r → evC P kt pr (n + 1) c a s = some r
 | 0,c,a,s,r,h => by unfold evC at h; cases h
 | n + 1,c,a,s,r,h => by
  have ih := evC_step n
  have hcl : CallLe (zb8 P kt pr n) (zb8 P kt pr (n + 1)) := evCall_of_evC ih
  cases c with
  | seq x y =>
   unfold evC at h ⊢
   simp only at h ⊢
   split at h
   ·
    next a' s' hx => rw [ih _ _ _ _ hx]; exact ih _ _ _ _ h
   ·
    next hx =>
    cases hq : evC P kt pr n x a s with
    | none => rw [hq] at h; cases h
    | some q =>
     rw [hq] at h
     rw [ih _ _ _ _ hq]
     obtain ⟨e,a',s'⟩ := q
     cases e <;> first | exact h | exact absurd hq (hx a' s')
  | cond x y z =>
   unfold evC at h ⊢
   simp only at h ⊢
   split at h
   iterate 2
    ·
     next hb => exact ih _ _ _ _ h
   ·
    cases h
  | block id x =>
   unfold evC at h ⊢
   simp only at h ⊢
   cases hq : evC P kt pr n x a s with
   | none => rw [hq] at h; cases h
   | some q => rw [hq] at h; rw [ih _ _ _ _ hq]; exact h
  | loop x =>
   unfold evC at h ⊢
   simp only at h ⊢
   split at h
   ·
    next a' s' hx => rw [ih _ _ _ _ hx]; exact ih _ _ _ _ h
   ·
    next hx =>
    cases hq : evC P kt pr n x a s with
    | none => rw [hq] at h; cases h
    | some q =>
     rw [hq] at h
     rw [ih _ _ _ _ hq]
     obtain ⟨e,a',s'⟩ := q
     cases e <;> first | exact h | exact absurd hq (hx a' s')
  | scope x => unfold evC at h ⊢; exact ih _ _ _ _ h
  | region id ops draw =>
   rw [zm5] at h ⊢
   split
   ·
    next hb => rw [if_pos hb] at h; exact h
   ·
    next hb =>
    rw [if_neg hb] at h
    cases draw with
    | true =>
     simp only [if_true] at h ⊢
     split at h
     ·
      next a' s' hd => rw [evDraw_mono hcl hd]; exact h
     ·
      cases h
    | false =>
     simp only [if_false,Bool.false_eq_true] at h ⊢
     split at h
     ·
      next a' s' hd => unfold evOps' at hd ⊢; rw [zk5 hcl hd]; exact h
     ·
      cases h
  | skip => exact h
  | ret => exact h
  | exit id => exact h
  | label id => exact h
  | _ => unfold evC at h; cases h
theorem evC_mono {n m : Nat} (hm : n ≤ m) {c : Code} {a : TL} {s : AS} {r : Exit × TL × AS} (h : evC P kt pr n c a s = some r) : evC P kt pr m c a s = some r := by
 induction hm with
 | refl => exact h
 | step _ ih => exact evC_step _ _ _ _ _ ih
theorem zj2 {n m : Nat} (hm : n ≤ m) : CallLe (zb8 P kt pr n) (zb8 P kt pr m) := evCall_of_evC fun _ _ _ _ h => evC_mono hm h
end
def EF (P : Program) (kt : TypeId → Bool) (pr : Prim) (f : FuncId) (args : Array Value) (s : AS) (v : Value) (s' : AS) : Prop := ∃ n,zb8 P kt pr n f args s = some (v,s')
def EW (P : Program) (kt : TypeId → Bool) (pr : Prim) (c : Code) (a : TL) (s : AS) (Q : Exit → TL → AS → Prop) : Prop := ∃ n e a' s',evC P kt pr n c a s = some (e,a',s') ∧ Q e a' s'
def EO (P : Program) (kt : TypeId → Bool) (pr : Prim) (ops : Array Oper) (rest : List Oper) (a : TL) (s : AS) (K : TL → AS → Prop) : Prop := ∃ n a' s',evOps P kt (zb8 P kt pr n) ops rest a s = some (a',s') ∧ K a' s'
def ET (P : Program) (kt : TypeId → Bool) (pr : Prim) (ops : Array Oper) (rest : List Oper) (a : TL) (s : AS) (K : List (TL × Value × AS) → Prop) : Prop := ∃ n tr,evTr P kt (zb8 P kt pr n) ops rest a s = some tr ∧ K tr
section
variable {P : Program} {kt : TypeId → Bool} {pr : Prim} {a : TL} {s : AS} {Q : Exit → TL → AS → Prop} {K : TL → AS → Prop} {KT : List (TL × Value × AS) → Prop} {ops : Array Oper} {o : Oper} {rest : List Oper} {v : Value} {s1 : AS} {x y : Code}
theorem EW.mono {Q' : Exit → TL → AS → Prop} {c : Code} (h : EW P kt pr c a s Q) (hq : ∀ e a s,Q e a s → Q' e a s) : EW P kt pr c a s Q' := by
 obtain ⟨n,e,a',s',h1,h2⟩ := h
 exact ⟨n,e,a',s',h1,hq _ _ _ h2⟩
theorem EW.skip (h : Q .normal a s) : EW P kt pr .skip a s Q := ⟨1,_,_,_,rfl,h⟩
theorem EW.ret (h : Q .ret a s) : EW P kt pr .ret a s Q := ⟨1,_,_,_,rfl,h⟩
theorem EW.exit {id : Nat} (h : Q (.exit id) a s) : EW P kt pr (.exit id) a s Q := ⟨1,_,_,_,rfl,h⟩
def thenQ (P : Program) (kt : TypeId → Bool) (pr : Prim) (y : Code) (Q : Exit → TL → AS → Prop) : Exit → TL → AS → Prop := fun e a s => match e with
 | .normal => EW P kt pr y a s Q
 | e => Q e a s
theorem EW.seq (h : EW P kt pr x a s (thenQ P kt pr y Q)) : EW P kt pr (.seq x y) a s Q := by
 obtain ⟨n,e,a',s',h1,h2⟩ := h
 cases e with
 | normal =>
  obtain ⟨m,e2,a2,s2,h3,h4⟩ := h2
  refine ⟨max n m + 1,e2,a2,s2,?_,h4⟩
  unfold evC
  simp only
  rw [evC_mono (Nat.le_max_left n m) h1]
  exact evC_mono (Nat.le_max_right n m) h3
 | _ =>
  refine ⟨n + 1,_,a',s',?_,h2⟩
  unfold evC
  simp only
  rw [h1]
theorem EW.condT {t : Operand} (ht : a.at t = .bool true) (h : EW P kt pr x a s Q) : EW P kt pr (.cond t x y) a s Q := by
 obtain ⟨n,e,a',s',h1,h2⟩ := h
 exact ⟨n + 1,e,a',s',by unfold evC; simp only; rw [ht]; exact h1,h2⟩
theorem EW.condF {t : Operand} (ht : a.at t = .bool false) (h : EW P kt pr y a s Q) : EW P kt pr (.cond t x y) a s Q := by
 obtain ⟨n,e,a',s',h1,h2⟩ := h
 exact ⟨n + 1,e,a',s',by unfold evC; simp only; rw [ht]; exact h1,h2⟩
theorem EW.cond {t : Operand} {b : Bool} (ht : a.at t = .bool b) (h1 : b = true → EW P kt pr x a s Q) (h2 : b = false → EW P kt pr y a s Q) : EW P kt pr (.cond t x y) a s Q := by
 cases b with
 | true => exact EW.condT ht (h1 rfl)
 | false => exact EW.condF ht (h2 rfl)
def blockQ (id : Nat) (Q : Exit → TL → AS → Prop) : Exit → TL → AS → Prop := fun e a s => match e with
 | .exit k => if k = id then Q .normal a s else Q (.exit k) a s
 | e => Q e a s
theorem EW.block {id : Nat} (h : EW P kt pr x a s (blockQ id Q)) : EW P kt pr (.block id x) a s Q := by
 obtain ⟨n,e,a',s',h1,h2⟩ := h
 unfold blockQ at h2
 cases e with
 | exit k =>
  simp only at h2
  by_cases hk : k = id
  ·
   rw [if_pos hk] at h2
   exact ⟨n + 1, .normal,a',s',by unfold evC; simp only; rw [h1]; simp [hk],h2⟩
  ·
   rw [if_neg hk] at h2
   exact ⟨n + 1, .exit k,a',s',by unfold evC; simp only; rw [h1]; simp [hk],h2⟩
 | _ => exact ⟨n + 1,_,a',s',by unfold evC; simp only; rw [h1],h2⟩
theorem EW.loop (h : EW P kt pr x a s (thenQ P kt pr (.loop x) Q)) : EW P kt pr (.loop x) a s Q := by
 obtain ⟨n,e,a',s',h1,h2⟩ := h
 cases e with
 | normal =>
  obtain ⟨m,e2,a2,s2,h3,h4⟩ := h2
  refine ⟨max n m + 1,e2,a2,s2,?_,h4⟩
  unfold evC
  simp only
  rw [evC_mono (Nat.le_max_left n m) h1]
  exact evC_mono (Nat.le_max_right n m) h3
 | _ =>
  refine ⟨n + 1,_,a',s',?_,h2⟩
  unfold evC
  simp only
  rw [h1]
theorem EO.nil (h : K a s) : EO P kt pr ops [] a s K := ⟨0,a,s,rfl,h⟩
theorem EO.op (hw : Region.wanted o (zc7 ops a) = true) (h : evOp P kt (fun _ _ _ => none) a o s = some (v,s1)) (k : EO P kt pr ops rest (a.put o.dst v) s1 K) : EO P kt pr ops (o :: rest) a s K := by
 obtain ⟨n,a',s',h1,h2⟩ := k
 refine ⟨n,a',s',?_,h2⟩
 unfold evOps
 rw [if_pos hw,evOp_mono (fun f args s r hr => by cases hr) h]
 exact h1
theorem call_op {cl : Call} {f : Operand} {g : FuncId} {first cap args : Array Value} {c : CallF} (hop : o.op = .call cl) (hcl : cl.callee = .value f) (hne : noEsc P f = false) (hf : a.at f = .func (.func g) first cap) (hargs : first ++ cl.args.map a.at ++ cap = args) : evOp P kt c a o s = c g args s := by
 unfold evOp
 have hn : isNew o.op = false := by rw [hop]; rfl
 rw [if_neg (by rw [hn]; simp),hop]
 simp only
 rw [hcl]
 simp only
 rw [if_neg (by rw [hne]; simp),hf]
 simp only
 rw [hargs]
theorem EO.call {cl : Call} {f : Operand} {g : FuncId} {first cap args : Array Value} (hw : Region.wanted o (zc7 ops a) = true) (hop : o.op = .call cl) (hcl : cl.callee = .value f) (hne : noEsc P f = false) (hf : a.at f = .func (.func g) first cap) (hargs : first ++ cl.args.map a.at ++ cap = args) (h : EF P kt pr g args s v s1) (k : EO P kt pr ops rest (a.put o.dst v) s1 K) : EO P kt pr ops (o :: rest) a s K := by
 obtain ⟨n,a',s',h1,h2⟩ := k
 obtain ⟨m,h⟩ := h
 refine ⟨max n m,a',s',?_,h2⟩
 unfold evOps
 rw [if_pos hw,call_op hop hcl hne hf hargs,zj2 (Nat.le_max_right n m) _ _ _ _ h]
 exact zk5 (zj2 (Nat.le_max_left n m)) h1
theorem EW.region {id : Nat} (hok : okOps ops = true) (h : EO P kt pr ops ops.toList a s (fun a' s' => Q .normal a' s')) : EW P kt pr (.region id ops false) a s Q := by
 obtain ⟨n,a',s',h1,h2⟩ := h
 refine ⟨n + 1, .normal,a',s',?_,h2⟩
 rw [zm5,if_neg (by rw [hok]; simp)]
 simp only [if_false,Bool.false_eq_true]
 unfold evOps'
 rw [h1]
theorem ET.nil (h : KT []) : ET P kt pr ops [] a s KT := ⟨0, [],rfl,h⟩
theorem ET.op (hw : Region.wanted o (zc7 ops a) = true) (h : evOp P kt (fun _ _ _ => none) a o s = some (v,s1)) (k : ET P kt pr ops rest (a.put o.dst v) s1 (fun tr => KT ((a,v,s1) :: tr))) : ET P kt pr ops (o :: rest) a s KT := by
 obtain ⟨n,tr,h1,h2⟩ := k
 refine ⟨n,_,?_,h2⟩
 unfold evTr
 rw [if_pos hw,evOp_mono (fun f args s r hr => by cases hr) h]
 simp only
 rw [h1]
theorem ET.call {cl : Call} {f : Operand} {g : FuncId} {first cap args : Array Value} (hw : Region.wanted o (zc7 ops a) = true) (hop : o.op = .call cl) (hcl : cl.callee = .value f) (hne : noEsc P f = false) (hf : a.at f = .func (.func g) first cap) (hargs : first ++ cl.args.map a.at ++ cap = args) (h : EF P kt pr g args s v s1) (k : ET P kt pr ops rest (a.put o.dst v) s1 (fun tr => KT ((a,v,s1) :: tr))) : ET P kt pr ops (o :: rest) a s KT := by
 obtain ⟨n,tr,h1,h2⟩ := k
 obtain ⟨m,h⟩ := h
 refine ⟨max n m,_,?_,h2⟩
 unfold evTr
 rw [if_pos hw,call_op hop hcl hne hf hargs,zj2 (Nat.le_max_right n m) _ _ _ _ h]
 simp only
 rw [evTr_mono (zj2 (Nat.le_max_left n m)) h1]
theorem EW.draw {id : Nat} (hok : okOps ops = true) (hb : zi3 ops = true) (hd : okDraw P ops.toList (zh2 ops.toList []) (zl3 (zh2 ops.toList []) ops.toList.length) = true)
  (h : ET P kt pr ops ops.toList a s (fun tr => okLoads P ops (zh2 ops.toList []) (zl3 (zh2 ops.toList []) ops.toList.length) tr s = true ∧ ∃ a' v s' tr' o rest',tr.reverse = (a',v,s') :: tr' ∧ ops.toList.reverse = o :: rest' ∧ Q .normal (a'.put o.dst v) s')) : EW P kt pr (.region id ops true) a s Q := by
 obtain ⟨n,tr,h1,h2,a',v,s',tr',o,rest',h3,h4,h5⟩ := h
 refine ⟨n + 1, .normal,_,s',?_,h5⟩
 rw [zm5,if_neg (by rw [hok]; simp)]
 simp only [if_true]
 unfold evDraw
 simp only
 rw [if_neg (by rw [hb,hd]; simp),h1]
 simp only
 rw [if_neg (by rw [h2]; simp),h3,h4]
theorem EF.of {f : FuncId} {fn : Func} {b : Code} {args : Array Value} {s' : AS} (hp : pr f = none) (hf : P.funcs[f]? = some fn) (hb : fn.body = some b) (h : EW P kt pr b (args.toList ++ List.replicate (fn.ntmps - args.toList.length) undef) s (fun e a' s1 => (e = .normal ∨ e = .ret) ∧ evRes P fn a' s1 = some v ∧ s1 = s')) : EF P kt pr f args s v s' := by
 obtain ⟨n,e,a',s1,h1,he,h2,rfl⟩ := h
 refine ⟨n,?_⟩
 unfold zb8
 rw [hp]
 simp only
 rw [hf]
 simp only
 rw [hb]
 simp only
 rw [h1]
 rcases he with rfl | rfl
 ·
  simp [h2]
 ·
  simp [h2]
theorem EF.prim {f : FuncId} {g : Array Value → AS → Option (Value × AS)} {args : Array Value} {s' : AS} (hp : pr f = some g) (h : g args s = some (v,s')) : EF P kt pr f args s v s' := ⟨0,by unfold zb8; rw [hp]; exact h⟩
theorem EF.eval {f : FuncId} {args : Array Value} {s' : AS} (n : Nat) (h : zb8 P kt pr n f args s = some (v,s')) : EF P kt pr f args s v s' := ⟨n,h⟩
end
end
end Go.Proofs.YtgcaionclkbehaaGreatDoor
