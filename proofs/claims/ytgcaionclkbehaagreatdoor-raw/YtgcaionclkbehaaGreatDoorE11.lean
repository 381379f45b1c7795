import Derived.Test.YtgcaionclkbehaaGreatDoorE11d
set_option linter.all false
namespace Go.Proofs.YtgcaionclkbehaaGreatDoor
open Go.Conc Go.RowKit Go.Lib
section
variable {ι : Type} {P : Program} {KT : TypeId → Prop} {An : Who} {N0 : ι → Nat} {M : ι → World → Nat → Prop} {O : ι → Nat → Prop} {R : ι → World → World → Prop} {D : ι → World → World → Array Event → Prop} {X : ι → Goroutine → World → Prop} {Hd : ι → List (Nat × Obj) → World → Prop}
variable {kt : TypeId → Bool} {call : FuncId → Array Value → AS → Option (Value × AS)} {ops : Array Oper} {q : Nat} {aA aA' : TL} {s s' : AS} {sl : Nat → TL} {vl : Nat → Value} {hp : Nat → AS} {J J' : Nat → Bool} {S0 S S1 : Who} {a a1 : Act} {fr l l1 : List (Nat × Obj)} {i i1 : ι} {w w1 : World} {p m : Nat} {B : Nat → Nat × Obj} {As : List Nat} {o : Oper} {fn : FuncId} {Q : PostI ι} {rest : List Nat}
theorem kind_zero (h2 : ¬ isNew o.op = true) (hl : ¬ ∃ t x,o.op = .load t x) (hk : zd8 P o ≠ 3) : zd8 P o = 0 := by
 unfold zd8 at hk ⊢
 rw [if_neg h2] at hk ⊢
 cases hop : o.op <;> simp only [hop] at hk ⊢ <;> first | rfl | (exact absurd rfl hk) | skip
 case load t x => exact absurd ⟨t,x,hop⟩ hl
 case slice t x lo hi mx => split at hk <;> first | rfl | exact absurd rfl hk
 case call c => split at hk <;> first | rfl | exact absurd rfl hk
 case convert t u x => split at hk <;> first | rfl | exact absurd rfl hk
abbrev done1 (J : Nat → Bool) (m : Nat) : Nat → Bool := fun k => if k = m then true else J k
theorem Pre.low_p (h : Pre P KT An Hd kt ops q aA s sl vl hp S0 fr J i a w p S l B As) (hJ : J m = false) (hA : ∃ ob mk,AInfo P kt ops sl vl hp m ob mk) : p ≤ m := by
 apply Classical.byContradiction
 intro hn
 obtain ⟨ob,mk,hA⟩ := hA
 rw [h.low m ob mk (by omega) hA] at hJ
 cases hJ
theorem Pre.same (d : Drawn P kt call ops q aA s sl vl hp) (h : Pre P KT An Hd kt ops q aA s sl vl hp S0 fr J i a w p S l B As) (hm : m < q) (ho : ops[m]? = some o) (hJ : J m = false) (hk : zd8 P o ≠ 3) (hA : ¬ ∃ ob mk,AInfo P kt ops sl vl hp m ob mk) {v' : Value} (hle : S.le S1) (heq : ∀ b,S1 b = S b) (hv : VR S1 (vl m) v') (hsim : Sim P KT An S1 (hp p) l1) (hF : Hd i1 (l1 ++ (As.map B ++ fr)) w1) :
  Pre P KT An Hd kt ops q aA s sl vl hp S0 fr (done1 J m) i1 (a.put o.dst v') w1 p S1 l1 B As where
 pq := h.pq
 eff m' o' h1 h2 h3 := by
  by_cases e : m' = m
  ·
   subst e; rw [ho] at h2; cases h2; exact absurd h3 hk
  ·
   simp only [done1,if_neg e]; exact h.eff m' o' h1 h2 h3
 pAt := h.pAt
 low m' ob mk h1 h2 := by
  by_cases e : m' = m
  ·
   simp [done1,e]
  ·
   simp only [done1,if_neg e]; exact h.low m' ob mk h1 h2
 nd := h.nd
 mem m' := by
  rw [h.mem]
  by_cases e : m' = m
  ·
   subst e; exact ⟨fun z => absurd z.2.2.2 hA,fun z => absurd z.2.2.2 hA⟩
  ·
   simp only [done1,if_neg e]
 sim := hsim
 hd := hF
 rec_ m' hm' := by
  obtain ⟨ob,mk,z,e,q1,q2,q3,q4⟩ := h.rec_ m' hm'
  exact ⟨ob,mk,z,e,q1,hle _ _ q2,q3.mono hle,q4⟩
 fresh b h1 h2 h3 := h.fresh b h1 h2 (by rw [← heq]; exact h3)
 le := Who.le_trans h.le hle
 out b hb := by rw [heq]; exact h.out b hb
 slots := slots_put d h.slots hle hm ho hJ hv
theorem Pre.new (hc : ∀ f args s v s',call f args s = some (v,s') → s.nx ≤ s'.nx) (Y : Cy P KT N0 M O R D X Hd) (d : Drawn P kt call ops q aA s sl vl hp) (h : Pre P KT An Hd kt ops q aA s sl vl hp S0 fr J i a w p S l B As) (hm : m < q) (ho : ops[m]? = some o) (hJ : J m = false) {ob : Obj} {mk : Nat → Value} (hA : AInfo P kt ops sl vl hp m ob mk) (hfr : ∀ b,s.nx ≤ b → b < (hp ops.size).nx → S0 b = none)
  {g z e : Nat} {o' : Obj} {v' : Value} (hF : Hd i1 ((g,o') :: (l ++ (As.map B ++ fr))) w1) (hr : ∀ S' nm,S.le S' → S' nm = some (g,z,e) → OR S' z ob o' ∧ VR S' (mk nm) v') (ht : ∀ cs t fz,ob = .cells cs t fz → sizeT P t = some e ∧ ¬ KT t) :
  S (hp m).nx = none ∧ Pre P KT An Hd kt ops q aA s sl vl hp S0 fr (done1 J m) i1 (a.put o.dst v') w1 p (S.put (hp m).nx (g,z,e)) l (fun k => if k = m then (g,o') else B k) (m :: As) := by
 have hpm := h.low_p hJ ⟨ob,mk,hA⟩
 have hmn : m < ops.size := by have := d.le; omega
 have hmA : m ∉ As := fun z => by rw [((h.mem m).1 z).2.2.1] at hJ; cases hJ
 have hb1 : s.nx ≤ (hp m).nx := by rw [← d.h0]; exact ze9 hc d (Nat.zero_le _) (by omega)
 have hb2 : (hp m).nx < (hp ops.size).nx := by
  have h1 := hA.nx
  have h2 := ze9 hc d (m := m + 1) (m' := ops.size) (by omega) (Nat.le_refl _)
  omega
 have hnone : S (hp m).nx = none := by
  apply Classical.byContradiction
  intro hn
  obtain ⟨m',hm',e'⟩ := h.fresh _ (ze9 hc d hpm (by omega)) hb2 hn
  obtain ⟨q1,q2,q3,ob',mk',hA'⟩ := (h.mem m').1 hm'
  have hne : m' ≠ m := fun z => hmA (z ▸ hm')
  have n1 := hA.nx
  have n2 := hA'.nx
  by_cases hlt : m' < m
  ·
   have := ze9 hc d (m := m' + 1) (m' := m) (by omega) (by omega); omega
  ·
   have := ze9 hc d (m := m + 1) (m' := m') (by omega) (by have := d.le; omega); omega
 have hle : S.le (S.put (hp m).nx (g,z,e)) := Who.le_put hnone
 have hBeq : As.map (fun k => if k = m then (g,o') else B k) = As.map B := by
  refine List.map_congr_left fun k hk => ?_
  rw [if_neg (fun e2 => hmA (by rw [← e2]; exact hk))]
 obtain ⟨hor,hvr⟩ := hr _ (hp m).nx hle Who.put_self
 have hk2 : zd8 P o = 2 := by
  obtain ⟨o1,q1,q2,_⟩ := hA
  rw [ho] at q1
  cases q1
  exact q2
 have hvl : vl m = mk (hp m).nx := by obtain ⟨_,_,_,_,_,_,q⟩ := hA; exact q
 refine ⟨hnone,h.pq,fun m' o1 h1 h2 h3 => ?_,h.pAt,fun m' ob1 mk1 h1 h2 => ?_,List.nodup_cons.2 ⟨hmA,h.nd⟩,fun m' => ?_,⟨fun b o1 hb => ?_,fun b b' o1 o2 x x' hb hb' hx hx' he => ?_,h.sim.lt,Who.le_trans h.sim.an hle⟩,?_,fun m' hm' => ?_,fun b h1 h2 h3 => ?_,Who.le_trans h.le hle,fun b hb => ?_,slots_put d h.slots hle hm ho hJ (by rw [hvl]; exact hvr)⟩
 ·
  by_cases e1 : m' = m
  ·
   subst e1; rw [ho] at h2; cases h2; omega
  ·
   simp only [done1,if_neg e1]; exact h.eff m' o1 h1 h2 h3
 ·
  by_cases e1 : m' = m
  ·
   simp [done1,e1]
  ·
   simp only [done1,if_neg e1]; exact h.low m' ob1 mk1 h1 h2
 ·
  by_cases e1 : m' = m
  ·
   subst e1
   exact ⟨fun _ => ⟨hm,hpm,by simp [done1],ob,mk,hA⟩,fun _ => List.mem_cons_self ..⟩
  ·
   simp only [done1,if_neg e1,List.mem_cons,e1,false_or]; exact h.mem m'
 ·
  obtain ⟨g1,z1,e1,o2,r1,r2,r3,r4⟩ := h.sim.live b o1 hb
  exact ⟨g1,z1,e1,o2,hle _ _ r1,r2,r3.mono hle,r4⟩
 ·
  obtain ⟨g1,z1,e1,o3,r1,_⟩ := h.sim.live b o1 hb
  obtain ⟨g2,z2,e2,o4,r2,_⟩ := h.sim.live b' o2 hb'
  rw [hle _ _ r1] at hx
  rw [hle _ _ r2] at hx'
  cases hx
  cases hx'
  exact h.sim.inj b b' o1 o2 _ _ hb hb' r1 r2 he
 ·
  rw [List.map_cons,hBeq]
  simp only [if_true]
  refine (Y.Z hF).perm hF ?_
  exact List.perm_middle
 ·
  rcases List.mem_cons.1 hm' with rfl | hm'
  ·
   refine ⟨ob,mk,z,e,hA,?_,?_,ht⟩
   ·
    rw [if_pos rfl]; exact Who.put_self
   ·
    rw [if_pos rfl]; exact hor
  ·
   have hne : m' ≠ m := fun z => hmA (z ▸ hm')
   obtain ⟨ob1,mk1,z1,e1,q1,q2,q3,q4⟩ := h.rec_ m' hm'
   rw [if_neg hne]
   exact ⟨ob1,mk1,z1,e1,q1,hle _ _ q2,q3.mono hle,q4⟩
 ·
  by_cases e1 : b = (hp m).nx
  ·
   exact ⟨m,List.mem_cons_self ..,e1⟩
  ·
   have : S b ≠ none := by
    intro hn
    apply h3
    unfold Who.put
    rw [if_neg e1]
    exact hn
   obtain ⟨m',hm',e2⟩ := h.fresh b h1 h2 this
   exact ⟨m',List.mem_cons_of_mem _ hm',e2⟩
 ·
  unfold Who.put
  rw [if_neg (by omega)]
  exact h.out b hb
theorem Pre.at_eff (Y : Cy P KT N0 M O R D X Hd) (d : Drawn P kt call ops q aA s sl vl hp) (h : Pre P KT An Hd kt ops q aA s sl vl hp S0 fr J i a w p S l B As) (hcl : ClosedJ ops J) (hm : m < q) (ho : ops[m]? = some o) (hJ : J m = false) (hk : zd8 P o = 3) (hrd : ReadyAt ops J m) :
  p ≤ m ∧ Sim P KT An S (hp m) (l ++ (As.filter (· < m)).map B) ∧ Hd i ((l ++ (As.filter (· < m)).map B) ++ ((As.filter (fun k => !decide (k < m))).map B ++ fr)) w := by
 have hms : m < ops.size := by have := d.le; omega
 have hpm : p ≤ m := by
  apply Classical.byContradiction
  intro hn
  rw [(h.eff m o hm ho hk).2 (by omega)] at hJ
  cases hJ
 have hdone : ∀ m' o',m' < m → ops[m']? = some o' → 2 ≤ zd8 P o' → J m' = true := fun m' o' h1 h2 h3 => zf8 d.back hcl hms hrd (d.chain m m' o o' hm ho hk h1 h2 h3)
 refine ⟨hpm,(h.merge Y d (m0 := m) (by omega) (fun m' o' h1 h2 h3 h4 => ?_) (fun m' h1 h2 h3 => ?_) m hpm (Nat.le_refl _)).1,(Y.Z h.hd).perm h.hd ?_⟩
 ·
  have := (h.eff m' o' (by omega) h3 h4).1 (hdone m' o' h2 h3 (by omega))
  omega
 ·
  obtain ⟨ob,mk,hA⟩ := h3
  have hA' := hA
  obtain ⟨o',q1,q2,_⟩ := hA'
  exact (h.mem m').2 ⟨by omega,h1,hdone m' o' h2 q1 (by omega),ob,mk,hA⟩
 ·
  rw [List.append_assoc, ← List.append_assoc ((As.filter (· < m)).map B)]
  refine List.Perm.append_left _ (List.Perm.append_right _ ?_)
  rw [← List.map_append]
  exact (List.filter_append_perm _ _).map B
theorem Pre.eff1 (hc : ∀ f args s v s',call f args s = some (v,s') → s.nx ≤ s'.nx) (d : Drawn P kt call ops q aA s sl vl hp) (h : Pre P KT An Hd kt ops q aA s sl vl hp S0 fr J i a w p S l B As) (hcl : ClosedJ ops J) (hm : m < q) (ho : ops[m]? = some o) (hJ : J m = false) (hk : zd8 P o = 3) (hrd : ReadyAt ops J m) (hpm : p ≤ m)
  {v' : Value} (hle : S.le S1) (heq : ∀ b,b < (hp m).nx ∨ (hp (m + 1)).nx ≤ b → S1 b = S b) (hv : VR S1 (vl m) v') (hsim : Sim P KT An S1 (hp (m + 1)) l1) (hF : Hd i1 (l1 ++ ((As.filter (fun k => !decide (k < m))).map B ++ fr)) w1) :
  Pre P KT An Hd kt ops q aA s sl vl hp S0 fr (done1 J m) i1 (a.put o.dst v') w1 (m + 1) S1 l1 B (As.filter (fun k => !decide (k < m))) where
 pq := by omega
 eff m' o' h1 h2 h3 := by
  have hms : m < ops.size := by have := d.le; omega
  by_cases e : m' = m
  ·
   subst e; simp [done1]
  ·
   simp only [done1,if_neg e]
   rw [h.eff m' o' h1 h2 h3]
   constructor
   ·
    intro; omega
   ·
    intro hlt
    exact (h.eff m' o' h1 h2 h3).1 (zf8 d.back hcl hms hrd (d.chain m m' o o' hm ho hk (by omega) h2 (by omega)))
 pAt := .inr ⟨m,o,rfl,hm,ho,hk⟩
 low m' ob mk h1 h2 := by
  have hms : m < ops.size := by have := d.le; omega
  by_cases e : m' = m
  ·
   simp [done1,e]
  ·
   simp only [done1,if_neg e]
   obtain ⟨o',q1,q2,_⟩ := h2
   exact zf8 d.back hcl hms hrd (d.chain m m' o o' hm ho hk (by omega) q1 (by omega))
 nd := h.nd.filter _
 mem m' := by
  rw [List.mem_filter,h.mem]
  by_cases e : m' = m
  ·
   subst e
   refine ⟨fun z => ?_,fun z => by omega⟩
   obtain ⟨⟨_,_,z,_⟩,_⟩ := z
   rw [hJ] at z
   cases z
  ·
   simp only [done1,if_neg e,Bool.not_eq_true',decide_eq_false_iff_not]
   constructor
   ·
    rintro ⟨⟨z1,z2,z3,z4⟩,z5⟩; exact ⟨z1,by omega,z3,z4⟩
   ·
    rintro ⟨z1,z2,z3,z4⟩; exact ⟨⟨z1,by omega,z3,z4⟩,by omega⟩
 sim := hsim
 hd := hF
 rec_ m' hm' := by
  obtain ⟨ob,mk,z,e,q1,q2,q3,q4⟩ := h.rec_ m' (List.mem_filter.1 hm').1
  exact ⟨ob,mk,z,e,q1,hle _ _ q2,q3.mono hle,q4⟩
 fresh b h1 h2 h3 := by
  have hms : m < ops.size := by have := d.le; omega
  have hSb : S b ≠ none := by rw [← heq b (.inr h1)]; exact h3
  have hmon := ze9 hc d (m := p) (m' := m + 1) (by omega) (by omega)
  obtain ⟨m',hm',e⟩ := h.fresh b (by omega) h2 hSb
  refine ⟨m',List.mem_filter.2 ⟨hm',?_⟩,e⟩
  simp only [Bool.not_eq_true',decide_eq_false_iff_not]
  intro hlt
  obtain ⟨_,_,_,ob,mk,hA⟩ := (h.mem m').1 hm'
  have n1 := hA.nx
  have := ze9 hc d (m := m' + 1) (m' := m + 1) (by omega) (by omega)
  omega
 le := Who.le_trans h.le hle
 out b hb := by
  have hms : m < ops.size := by have := d.le; omega
  rw [heq b,h.out b hb]
  rcases hb with hb | hb
  ·
   left
   have := ze9 hc d (m := 0) (m' := m) (Nat.zero_le _) (by omega)
   rw [d.h0] at this
   omega
  ·
   right
   have := ze9 hc d (m := m + 1) (m' := ops.size) (by omega) (Nat.le_refl _)
   omega
 slots := slots_put d h.slots hle hm ho hJ hv
theorem evDraw_nx (hc : ∀ f args s v s',call f args s = some (v,s') → s.nx ≤ s'.nx) (h : evDraw P kt call ops aA s = some (aA',s')) : s.nx ≤ s'.nx := by
 obtain ⟨q,sl,vl,hp,d,_,rfl⟩ := drawn_of h
 have := ze9 hc d (m := 0) (m' := ops.size) (Nat.zero_le _) (Nat.le_refl _)
 rw [d.h0] at this
 exact this
def Can (P : Program) (KT : TypeId → Prop) (An : Who) (Hd : ι → List (Nat × Obj) → World → Prop) (s : AS) (sl : Nat → TL) (hp : Nat → AS) (S0 : Who) (fr : List (Nat × Obj)) (m : Nat) (i : ι) (a : Act) (w : World) : Prop :=
 ∃ S l,S0.le S ∧ (∀ b,b < s.nx ∨ (hp m).nx ≤ b → S b = S0 b) ∧ Sim P KT An S (hp m) l ∧ Hd i (l ++ fr) w ∧ AR (VR S) (sl m).toArray a.tmps ∧ a.defers = []
theorem Pre.all (hc : ∀ f args s v s',call f args s = some (v,s') → s.nx ≤ s'.nx) (Y : Cy P KT N0 M O R D X Hd) (d : Drawn P kt call ops q aA s sl vl hp) (h : Pre P KT An Hd kt ops q aA s sl vl hp S0 fr J i a w p S l B As) (hJ : ∀ m,m < q → J m = true) (hfr : ∀ b,s.nx ≤ b → b < (hp ops.size).nx → S0 b = none) : Can P KT An Hd s sl hp S0 fr q i a w := by
 have hlt : ∀ m ∈ As,m < q := fun m hm => ((h.mem m).1 hm).1
 have hfil : As.filter (· < q) = As := List.filter_eq_self.2 fun m hm => by simp [hlt m hm]
 have hm := (h.merge Y d (m0 := q) (Nat.le_refl _) (fun m o h1 h2 h3 h4 => ?_) (fun m h1 h2 h3 => (h.mem m).2 ⟨h2,h1,hJ m h2,h3⟩) q h.pq (Nat.le_refl _)).1
 ·
  rw [hfil] at hm
  refine ⟨S,l ++ As.map B,h.le,fun b hb => ?_,hm,by rw [List.append_assoc]; exact h.hd,⟨?_,fun t x y hx hy => ?_⟩,h.slots.2.1⟩
  ·
   rcases hb with hb | hb
   ·
    exact h.out b (.inl hb)
   ·
    by_cases hn : (hp ops.size).nx ≤ b
    ·
     exact h.out b (.inr hn)
    ·
     have hs0 : S0 b = none := by
      refine hfr b ?_ (by omega)
      have := ze9 hc d (m := 0) (m' := q) (Nat.zero_le _) d.le
      rw [d.h0] at this
      omega
     rw [hs0]
     apply Classical.byContradiction
     intro hne
     have hmo := ze9 hc d (m := p) (m' := q) h.pq d.le
     obtain ⟨m',hm',e⟩ := h.fresh b (by omega) (by omega) hne
     obtain ⟨q1,_,_,ob,mk,hA⟩ := (h.mem m').1 hm'
     have n1 := hA.nx
     have := ze9 hc d (m := m' + 1) (m' := q) (by omega) d.le
     omega
  ·
   rw [List.size_toArray,sl_len d q d.le,h.slots.1]
  ·
   have hx' : (sl q)[t]? = some x := by simpa using hx
   have := slot_rel d h.slots (m := q) (t := t) (Nat.le_refl _) fun j o hj _ _ => ⟨fun _ => hj,fun _ => hJ j hj⟩
   rw [List.getD_eq_getElem?_getD,hx',Array.getD_eq_getD_getElem?,hy] at this
   exact this
 ·
  have := (h.eff m o (by omega) h3 h4).1 (hJ m (by omega))
  omega
theorem closed_done (d : Drawn P kt call ops q aA s sl vl hp) (hcl : ClosedJ ops J) (hm : m < ops.size) (hrd : ReadyAt ops J m) : ClosedJ ops (done1 J m) := by
 intro x y hx hJx hh
 by_cases ey : y = m
 ·
  simp [done1,ey]
 ·
  simp only [done1,if_neg ey]
  by_cases ex : x = m
  ·
   subst ex; exact zf8 d.back hcl hm hrd hh
  ·
   simp only [done1,if_neg ex] at hJx; exact hcl x y hx hJx hh
theorem draw_sound (Y : Cy P KT N0 M O R D X Hd) (hmo : P.follows .mixedOrders = true) (hkt : ∀ t,kt t = false → ¬ KT t) (hcall : ∀ f args s v s',call f args s = some (v,s') → Sound P KT An R D X Hd f args s v s') (hc : ∀ f args s v s',call f args s = some (v,s') → s.nx ≤ s'.nx) (hok : okOps ops = true) {id : Nat}
  (h : evDraw P kt call ops aA s = some (aA',s')) (hS : Sim P KT An S0 s l) (hF : Hd i (l ++ fr) w) (hA : AR (VR S0) aA.toArray a.tmps) (hd : a.defers = []) (hfr : ∀ b,s.nx ≤ b → b < s'.nx → S0 b = none)
  (K : OutC P KT An Hd S0 s s' fr aA' (fun i' a' w' => Q i' .normal a' w')) : wpI X fn (.region id ops true) i Q a w := by
 obtain ⟨q,sl,vl,hp,d,rfl,rfl⟩ := drawn_of h
 refine zi2 Y.C (Y.Z hF).env.drawD hmo rfl d.back (fun J i' a' w' => ClosedJ ops J ∧ ((∃ m,q ≤ m ∧ m ≤ ops.size ∧ (∀ k,k < ops.size → (J k = true ↔ k < m)) ∧ Can P KT An Hd s sl hp S0 fr m i' a' w') ∨ ((∀ k,q ≤ k → k < ops.size → J k = false) ∧ ∃ p S l B As,Pre P KT An Hd kt ops q aA s sl vl hp S0 fr J i' a' w' p S l B As))) (fun w₁ hR => ?_) ?_ ?_ ?_
 ·
  refine ⟨fun x y _ hx => (by cases hx), .inr ⟨fun k _ _ => rfl,0,S0,l,fun _ => (0, .pending #[] 0), [],Nat.zero_le _,fun m o _ _ _ => by simp, .inl rfl,fun m ob mk hm => by omega,by simp,fun m => by simp,by rw [d.h0]; exact hS,?_,fun m hm => by simp at hm,fun b h1 h2 h3 => ?_,Who.le_refl S0,fun b hb => rfl,by rw [← hA.1]; simp,hd,fun t x ht hx => ?_⟩⟩
  ·
   have hF1 := (Y.Z hF).rely hF hR
   exact (Y.Z hF).rely hF1 ((Y.Z hF).env.drawR _)
  ·
   rw [d.h0] at h1
   exact absurd (hfr b h1 h2) h3
  ·
   rcases hx with ⟨m,o,_,_,_,hJ,_⟩ | ⟨_,rfl⟩
   ·
    cases hJ
   ·
    exact getD_rel hA t
 ·
  rintro J J' i' a' w' hJ ⟨hcl,hI⟩
  refine ⟨fun x y hx hJx hh => ?_,?_⟩
  ·
   have hyx := hangs_lt d.back x hx hh
   rw [← hJ y (by omega)]
   exact hcl x y hx (by rw [hJ x hx]; exact hJx) hh
  ·
   rcases hI with ⟨m,h1,h2,h3,h4⟩ | ⟨h1,p,S,l,B,As,h2⟩
   ·
    exact .inl ⟨m,h1,h2,fun k hk => by rw [← hJ k hk]; exact h3 k hk,h4⟩
   ·
    have hq : ∀ k,k < q → J k = J' k := fun k hk => hJ k (by have := d.le; omega)
    refine .inr ⟨fun k hk hk' => by rw [← hJ k hk']; exact h1 k hk hk',p,S,l,B,As,h2.pq,fun m o hm ho hk => by rw [← hq m hm]; exact h2.eff m o hm ho hk,h2.pAt,fun m ob mk hm hA => ?_,h2.nd,fun m => ?_,h2.sim,h2.hd,h2.rec_,h2.fresh,h2.le,h2.out,h2.slots.1,h2.slots.2.1,fun t x ht hx => h2.slots.2.2 t x ht (cur_move hx fun m o hm _ _ => (hq m hm).symm)⟩
    ·
     rw [← hq m (by have := h2.pq; omega)]; exact h2.low m ob mk hm hA
    ·
     rw [h2.mem]
     constructor
     ·
      rintro ⟨z1,z2⟩; exact ⟨z1,by rw [← hq m z1]; exact z2⟩
     ·
      rintro ⟨z1,z2⟩; exact ⟨z1,by rw [hq m z1]; exact z2⟩
 ·
  rintro J m i' a' w' ⟨hcl,hI⟩ hm hJ hrd rest hK
  have ho : ops[m]? = some ops[m] := Array.getElem?_eq_getElem hm
  have hcl' := closed_done d hcl hm hrd
  by_cases hmq : m < q
  ·
   rcases hI with ⟨m',h1,h2,h3,h4⟩ | ⟨h1,p,S,l,B,As,h2⟩
   ·
    rw [(h3 m hm).2 (by omega)] at hJ; cases hJ
   have hbelow : ∀ k,q ≤ k → k < ops.size → done1 J m k = false := fun k hk hk' => by
    simp only [done1,if_neg (show k ≠ m by omega)]; exact h1 k hk hk'
   have hOpd := draw_opd d hok h2.slots hcl hmq ho hrd
   have hwt := draw_wanted d h2.slots hcl hmq ho hrd
   have hpn : p ≤ ops.size := by have := d.le; have := h2.pq; omega
   by_cases hk3 : zd8 P ops[m] = 3
   ·
    obtain ⟨hpm,hsim,hF2⟩ := h2.at_eff Y d hcl hmq ho hJ hk3 hrd
    rcases d.step m _ ho with ⟨hw,hev⟩ | ⟨hw,hv,hh⟩
    ·
     refine op_sound Y hkt hcall ho (by rw [hwt]; exact hw) hOpd hsim hF2 hev (fun b b1 b2 => ?_) ?_
     ·
      apply Classical.byContradiction
      intro hn
      have m1 := ze9 hc d (m := p) (m' := m) hpm (by omega)
      have m2 := ze9 hc d (m := m + 1) (m' := ops.size) (by omega) (Nat.le_refl _)
      obtain ⟨m',hm',e⟩ := h2.fresh b (by omega) (by omega) hn
      obtain ⟨q1,q2,q3,ob,mk,hA'⟩ := (h2.mem m').1 hm'
      have n1 := hA'.nx
      by_cases hlt : m' < m
      ·
       have := ze9 hc d (m := m' + 1) (m' := m) (by omega) (by omega); omega
      ·
       have hne : m' ≠ m := fun z => by rw [z] at q3; rw [hJ] at q3; cases q3
       have := ze9 hc d (m := m + 1) (m' := m') (by omega) (by have := d.le; omega); omega
     ·
      intro i1 S1 l1 w1 v1 r1 r2 r3 r4 r5
      exact hK i1 _ w1 ⟨hcl', .inr ⟨hbelow,m + 1,S1,l1,B,_,h2.eff1 hc d hcl hmq ho hJ hk3 hrd hpm r1 r2 r5 r3 r4⟩⟩
    ·
     refine zb7 Y.C Y.T ho (by rw [hwt]; exact hw) ?_
     refine hK i' _ w' ⟨hcl', .inr ⟨hbelow,m + 1,S,_,B,_,h2.eff1 hc d hcl hmq ho hJ hk3 hrd hpm (Who.le_refl S) (fun _ _ => rfl) (by rw [hv]; exact VR.undef) (by rw [hh]; exact hsim) hF2⟩⟩
   ·
    rcases kind_step d ho hk3 with ⟨ob,mk,hA'⟩ | ⟨hnA,hh⟩
    ·
     have hA2 := hA'
     obtain ⟨o1,q1,q2,q3,q4,q5,q6⟩ := hA2
     rw [ho] at q1
     cases q1
     refine op_new Y hkt ho (by rw [hwt]; exact q3) hOpd h2.hd q4 fun g z e o' w1 v1 hF1 hr ht => ?_
     exact hK i' _ w1 ⟨hcl', .inr ⟨hbelow,p,_,l,_,_,(h2.new hc Y d hmq ho hJ hA' hfr hF1 hr ht).2⟩⟩
    ·
     have hcont : ∀ i1 S1 l1 w1 v1,S.le S1 → (∀ b,b < (hp p).nx ∨ (hp p).nx ≤ b → S1 b = S b) → Sim P KT An S1 (hp p) l1 → Hd i1 (l1 ++ (As.map B ++ fr)) w1 → VR S1 (vl m) v1 → OpsI X fn ops rest i1 Q (a'.put (ops[m]).dst v1) w1 := fun i1 S1 l1 w1 v1 r1 r2 r3 r4 r5 =>
      hK i1 _ w1 ⟨hcl', .inr ⟨hbelow,p,S1,l1,B,As,h2.same d hmq ho hJ hk3 hnA r1 (fun b => r2 b (by omega)) r5 r3 r4⟩⟩
     rcases d.step m _ ho with ⟨hw,hev⟩ | ⟨hw,hv,_⟩
     ·
      have hw' : Region.wanted ops[m] (yielded ops a'.tmps) = true := by rw [hwt]; exact hw
      by_cases hl : ∃ t x,(ops[m]).op = .load t x
      ·
       obtain ⟨t,x,hop⟩ := hl
       have hload := d.loads m _ t x hmq ho hop hw p h2.pAt fun e o' he ho' hk' => ⟨fun hlt hh' => ?_,fun hge hh' => ?_⟩
       ·
        exact op_load Y ho hw' hop hOpd h2.sim h2.hd hload hcont
       ·
        have hJe := (h2.eff e o' he ho' hk').2 hlt
        have := hcl e m (by have := d.le; omega) hJe hh'
        rw [hJ] at this
        cases this
       ·
        have hJe := zf8 d.back hcl hm hrd hh'
        have := (h2.eff e o' he ho' hk').1 hJe
        omega
      ·
       have hk0 : zd8 P ops[m] = 0 := by
        have hn : ¬ isNew (ops[m]).op = true := by
         intro hn
         apply hnA
         have hev' := hev
         unfold evOp at hev'
         rw [if_pos hn] at hev'
         split at hev'
         ·
          next ob mk hq =>
          simp only [Option.some.injEq,Prod.mk.injEq] at hev'
          exact ⟨ob,mk,_,ho,by unfold zd8; rw [if_pos hn],hw,hq,hev'.2.symm,hev'.1.symm⟩
         ·
          cases hev'
        exact kind_zero hn hl hk3
       have hev2 := (evQuiet_any hk0 hev).2 (hp p)
       exact op_sound Y hkt hcall ho hw' hOpd h2.sim h2.hd hev2 (fun b b1 b2 => by omega) hcont
     ·
      refine zb7 Y.C Y.T ho (by rw [hwt]; exact hw) ?_
      exact hcont i' S l w' undef (Who.le_refl S) (fun _ _ => rfl) h2.sim h2.hd (by rw [hv]; exact VR.undef)
  ·
   have hall : ∀ k,k < m → J k = true := fun k hk => zf8 d.back hcl hm hrd (d.last m k (by omega) hm hk)
   have hafter : ∀ k,m < k → k < ops.size → J k = false := fun k hk hk' => by
    cases hb : J k with
    | false => rfl
    | true =>
     have := hcl k m hk' hb (d.last k m (by omega) hk' hk)
     rw [hJ] at this
     cases this
   have hcan : Can P KT An Hd s sl hp S0 fr m i' a' w' := by
    rcases hI with ⟨m',h1,h2,h3,h4⟩ | ⟨h1,p,S,l,B,As,h2⟩
    ·
     have : m' = m := by
      have h5 : ¬ m < m' := fun z => by rw [(h3 m hm).2 z] at hJ; cases hJ
      have h6 : ¬ m' < m := fun z => by have := (h3 m' (by omega)).1 (hall m' z); omega
      omega
     rw [← this]
     exact h4
    ·
     have : m = q := by
      have h5 : ¬ q < m := fun z => by have := h1 q (Nat.le_refl _) (by omega); rw [hall q z] at this; cases this
      omega
     rw [this]
     exact h2.all hc Y d (fun k hk => hall k (by omega)) hfr
   obtain ⟨S,l,c1,c2,c3,c4,c5,c6⟩ := hcan
   have hOpd : OpdR S (sl m) a' ops[m] := fun x hx => at_rel c5 (by
    unfold okOps at hok
    rw [List.all_eq_true] at hok
    have := hok ops[m] (by have := Array.mem_of_getElem? ho; simpa using this)
    rw [List.all_eq_true] at this
    exact this x (by simpa using hx))
   have hfin : ∀ i1 S1 l1 w1 v1,S.le S1 → (∀ b,b < (hp m).nx ∨ (hp (m + 1)).nx ≤ b → S1 b = S b) → Sim P KT An S1 (hp (m + 1)) l1 → Hd i1 (l1 ++ fr) w1 → VR S1 (vl m) v1 → OpsI X fn ops rest i1 Q (a'.put (ops[m]).dst v1) w1 := by
    intro i1 S1 l1 w1 v1 r1 r2 r3 r4 r5
    refine hK i1 _ w1 ⟨hcl', .inl ⟨m + 1,by omega,by omega,fun k hk => ?_,S1,l1,Who.le_trans c1 r1,fun b hb => ?_,r3,r4,?_,?_⟩⟩
    ·
     by_cases e : k = m
     ·
      simp [done1,e]
     ·
      simp only [done1,if_neg e]
      constructor
      ·
       intro hk2
       apply Classical.byContradiction
       intro hn
       rw [hafter k (by omega) hk] at hk2
       cases hk2
      ·
       intro hk2; exact hall k (by omega)
    ·
     have hmn := hp_step hc d hm
     have hm0 := ze9 hc d (m := 0) (m' := m) (Nat.zero_le _) (by omega)
     rw [d.h0] at hm0
     rw [r2 b (by omega),c2 b (by omega)]
    ·
     rw [d.sl1 m _ ho]
     exact put_rel (c5.mono r1) r5 _
    ·
     cases (ops[m]).dst <;> exact c6
   have hwt := wanted_rel c5 ops ops[m]
   rcases d.step m _ ho with ⟨hw,hev⟩ | ⟨hw,hv,hh⟩
   ·
    refine op_sound Y hkt hcall ho (by rw [hwt]; exact hw) hOpd c3 c4 hev (fun b b1 b2 => ?_) hfin
    rw [c2 b (.inr b1)]
    have hm0 := ze9 hc d (m := 0) (m' := m) (Nat.zero_le _) (by omega)
    have hm1 := ze9 hc d (m := m + 1) (m' := ops.size) (by omega) (Nat.le_refl _)
    rw [d.h0] at hm0
    exact hfr b (by omega) (by omega)
   ·
    refine zb7 Y.C Y.T ho (by rw [hwt]; exact hw) ?_
    exact hfin i' S l w' undef (Who.le_refl S) (fun _ _ => rfl) (by rw [hh]; exact c3) c4 (by rw [hv]; exact VR.undef)
 ·
  rintro J i' a' w' hJ ⟨hcl,hI⟩
  have hcan : Can P KT An Hd s sl hp S0 fr ops.size i' a' w' := by
   rcases hI with ⟨m',h1,h2,h3,h4⟩ | ⟨h1,p,S,l,B,As,h2⟩
   ·
    have : m' = ops.size := by
     apply Classical.byContradiction
     intro hne
     have := (h3 m' (by omega)).1 (hJ m' (by omega))
     omega
    rw [← this]
    exact h4
   ·
    have : q = ops.size := by
     apply Classical.byContradiction
     intro hne
     have := d.le
     have := h1 q (Nat.le_refl _) (by omega)
     rw [hJ q (by omega)] at this
     cases this
    have hh := h2.all hc Y d (fun k hk => hJ k (by omega)) hfr
    rw [this] at hh
    exact hh
  obtain ⟨S,l,c1,c2,c3,c4,c5,c6⟩ := hcan
  exact za3 Y.C Y.T (K i' S l w' a' c1 c2 c3 c4 c5 c6)
end
end Go.Proofs.YtgcaionclkbehaaGreatDoor
