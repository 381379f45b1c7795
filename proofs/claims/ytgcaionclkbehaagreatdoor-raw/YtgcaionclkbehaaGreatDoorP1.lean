import Derived.Test.YtgcaionclkbehaaGreatDoorE18
import Derived.Conc.WgGenN3
set_option linter.all false
namespace Go.Proofs.YtgcaionclkbehaaGreatDoor
open Tryz
section
open Go.Conc Go.RowKit Go.Lib
def flatV : Nat → Value → Bool
 | 0,_ => false
 | n + 1,v => match v with
  | .agg x => x.toList.all (flatV n)
  | .tuple x => x.toList.all (flatV n)
  | v => isSc v
section
variable {S : Who}
theorem AR.self_of {a : Array Value} (h : ∀ x ∈ a.toList,VR S x x) : AR (VR S) a a := ⟨rfl,fun i x y hx hy => by
 rw [hx] at hy
 cases hy
 exact h x (by rw [Array.mem_toList_iff]; exact Array.mem_of_getElem? hx)⟩
theorem AR.eq_of {a b : Array Value} (h : AR (VR S) a b) (hx : ∀ x ∈ a.toList, ∀ y,VR S x y → y = x) : b = a := by
 apply Array.toList_inj.1
 apply List.ext_getElem?
 intro i
 rw [Array.getElem?_toList,Array.getElem?_toList]
 by_cases hi : i < a.size
 ·
  have h1 : a[i]? = some a[i] := Array.getElem?_eq_getElem hi
  have h2 : b[i]? = some (b[i]'(by rw [← h.1]; exact hi)) := Array.getElem?_eq_getElem _
  rw [h1,h2]
  rw [hx _ (by simp) _ (h.2 i _ _ h1 h2)]
 ·
  have h2 : ¬ i < b.size := by rw [← h.1]; exact hi
  rw [Array.getElem?_eq_none (Nat.le_of_not_lt h2),Array.getElem?_eq_none (Nat.le_of_not_lt hi)]
theorem VR.flat : ∀ {n : Nat} {x v : Value},flatV n x = true → VR S x v → v = x
 | 0,x,v,h,_ => by simp [flatV] at h
 | n + 1,x,v,h,hr => by
  unfold flatV at h
  split at h
  ·
   rw [List.all_eq_true] at h
   obtain ⟨p',rfl,hp⟩ := hr.ag
   rw [hp.eq_of fun x hx y hy => VR.flat (h x hx) hy]
  ·
   rw [List.all_eq_true] at h
   obtain ⟨p',rfl,hp⟩ := hr.tu
   rw [hp.eq_of fun x hx y hy => VR.flat (h x hx) hy]
  ·
   exact hr.sc h
theorem VR.of_flat : ∀ {n : Nat} {x : Value},flatV n x = true → VR S x x
 | 0,x,h => by simp [flatV] at h
 | n + 1,x,h => by
  unfold flatV at h
  split at h
  ·
   rw [List.all_eq_true] at h
   exact VR.of_ag (AR.self_of fun x hx => VR.of_flat (h x hx))
  ·
   rw [List.all_eq_true] at h
   exact VR.of_tu (AR.self_of fun x hx => VR.of_flat (h x hx))
  ·
   exact VR.of_sc h
end
section
variable {ι : Type} {P : Program} {KT : TypeId → Prop} {An : Who} {N0 : ι → Nat} {M : ι → World → Nat → Prop} {O : ι → Nat → Prop} {R : ι → World → World → Prop} {D : ι → World → World → Array Event → Prop} {X : ι → Goroutine → World → Prop} {Hd : ι → List (Nat × Obj) → World → Prop} {f : FuncId} {args : Array Value} {s : AS} {v : Value}
theorem CallsE.mono {i : ι} {w : World} {Post Post' : ι → Value → World → Prop} (h : CallsE P R D X f args i w Post) (hp : ∀ i v w,Post i v w → Post' i v w) : CallsE P R D X f args i w Post' := by
 obtain ⟨f₀,c,h1,h2,h3,h4⟩ := h
 refine ⟨f₀,c,h1,h2,h3,wpI_mono h4 fun i' e a' w' q => ⟨q.1,q.2.1,fun w₁ r => ?_⟩⟩
 obtain ⟨v,q1,q2,q3⟩ := q.2.2 w₁ r
 exact ⟨v,q1,q2,hp _ _ _ q3⟩
theorem hd_drops (Y : Cy P KT N0 M O R D X Hd) {i : ι} {w : World} : ∀ {l fr : List (Nat × Obj)},Hd i (l ++ fr) w → Hd i fr w
 | [],fr,h => h
 | x :: l,fr,h => hd_drops Y (l := l) ((Y.Z h).drop h)
theorem Sound.alone (Y : Cy P KT N0 M O R D X Hd) {k m : Nat} {s1 : AS} (hAn : ∀ b,k ≤ b → An b = none) (ha : args.toList.all (flatV m) = true) (hv : flatV m v = true) (h : Sound P KT An R D X Hd f args ⟨[],k⟩ v s1) : Sound P KT An R D X Hd f args s v s := by
 intro S l fr i w args' hS hF hA hfr
 rw [List.all_eq_true] at ha
 have e := hA.eq_of fun x hx y hy => VR.flat (ha x hx) hy
 subst e
 have hno : ∀ b o,(⟨[],k⟩ : AS).get b = some o → False := fun b o hb => by unfold AS.get at hb; simp at hb
 refine (h An [] (l ++ fr) i w args' ⟨fun b o hb => (hno b o hb).elim,fun b b' o o' x x' hb => (hno b o hb).elim,fun b o hb => (hno b o hb).elim,Who.le_refl An⟩ hF (AR.self_of fun x hx => VR.of_flat (ha x hx)) fun b hb _ => hAn b hb).mono ?_
 rintro i' v' w' ⟨S',l',q1,q2,q3,q4,q5⟩
 refine ⟨S,l,Who.le_refl S,fun _ _ => rfl,hS,hd_drops Y (l := l') q4,?_⟩
 rw [VR.flat hv q5]
 exact VR.of_flat hv
theorem Sound.alone1 (Y : Cy P KT N0 M O R D X Hd) {k m c : Nat} {s0 s1 : AS} {cs : Array Value} {t : TypeId} {x1 : Nat × Nat × Nat} (h1 : An c = some x1) (hAn : ∀ b,k ≤ b → An b = none) (hcs : cs.toList.all isSc = true) (hs0 : ∀ b,s0.get b = if b = c then some (.cells cs t) else none) (hk : s0.nx = k) (hs1 : s1.get c = some (.cells cs t)) (hs : s.get c = some (.cells cs t)) (ha : args.toList.all (flatV m) = true) (hv : flatV m v = true) (h : Sound P KT An R D X Hd f args s0 v s1) : Sound P KT An R D X Hd f args s v s := by
 intro S l fr i w args' hS hF hA hfr
 rw [List.all_eq_true] at ha hcs
 have e := hA.eq_of fun x hx y hy => VR.flat (ha x hx) hy
 subst e
 have hck : c < k := by
  by_cases hlt : c < k
  ·
   exact hlt
  ·
   rw [hAn c (by omega)] at h1; cases h1
 obtain ⟨g,z,e,o',q1,q2,q3,q4⟩ := hS.live c _ hs
 have hx1 : x1 = (g,z,e) := by have := hS.an _ _ h1; rw [q1] at this; cases this; rfl
 subst hx1
 have hOR : ∀ {A B : Who} {o'' : Obj},OR A z (.cells cs t) o'' → OR B z (.cells cs t) o'' := fun {A B o''} hq => by
  obtain ⟨cs',r1,r2,r3,r4⟩ := hq
  refine ⟨cs',r1,r2,r3,fun i x y hx hy => ?_⟩
  have hsc := hcs x (by rw [Array.mem_toList_iff]; exact Array.mem_of_getElem? hx)
  rw [(r4 i x y hx hy).sc hsc]
  exact VR.of_sc hsc
 obtain ⟨la,lb,hl⟩ := List.append_of_mem q2
 have hper : (la ++ (g,o') :: lb).Perm ([(g,o')] ++ (la ++ lb)) := List.perm_middle
 have hF' : Hd i ([(g,o')] ++ ((la ++ lb) ++ fr)) w := (Y.Z hF).perm hF (by
  rw [hl, ← List.append_assoc]
  exact (hper.append_right fr).symm)
 have hone : ∀ b o,s0.get b = some o → b = c ∧ o = .cells cs t := fun b o hb => by
  rw [hs0] at hb
  split at hb
  ·
   next e => cases hb; exact ⟨e,rfl⟩
  ·
   cases hb
 refine (h An [(g,o')] ((la ++ lb) ++ fr) i w args' ⟨fun b o hb => ?_,fun b b' o o' x x' hb hb' _ _ _ => by rw [(hone b o hb).1,(hone b' o' hb').1],fun b o hb => by rw [(hone b o hb).1,hk]; exact hck,Who.le_refl An⟩ hF' (AR.self_of fun x hx => VR.of_flat (ha x hx)) fun b hb _ => hAn b (by rw [← hk]; exact hb)).mono ?_
 ·
  obtain ⟨rfl,rfl⟩ := hone b o hb
  exact ⟨g,z,e,o',h1,by simp,hOR q3,q4⟩
 ·
  rintro i' v' w' ⟨S',l',r1,r2,r3,r4,r5⟩
  obtain ⟨g2,z2,e2,o2,p1,p2,p3,p4⟩ := r3.live c _ hs1
  have he : (g2,z2,e2) = (g,z,e) := by have := r1 _ _ h1; rw [p1] at this; cases this; rfl
  cases he
  obtain ⟨lc,ld,hl'⟩ := List.append_of_mem p2
  have hper' : (lc ++ (g,o2) :: ld).Perm ((lc ++ ld) ++ [(g,o2)]) := List.perm_middle.trans (List.perm_append_singleton _ _).symm
  have hF2 : Hd i' ((lc ++ ld) ++ (([(g,o2)] ++ (la ++ lb)) ++ fr)) w' := (Y.Z r4).perm r4 (by
   rw [hl']
   have := (hper'.append_right ((la ++ lb) ++ fr)).symm
   simpa [List.append_assoc] using this)
  refine ⟨S, [(g,o2)] ++ (la ++ lb),Who.le_refl S,fun _ _ => rfl,⟨fun b o hb => ?_,hS.inj,hS.lt,hS.an⟩,hd_drops Y hF2,?_⟩
  ·
   obtain ⟨gb,zb,eb,ob,u1,u2,u3,u4⟩ := hS.live b o hb
   by_cases hbc : b = c
   ·
    subst hbc
    rw [hs] at hb
    cases hb
    rw [q1] at u1
    cases u1
    exact ⟨g,z,e,o2,q1,by simp,hOR p3,u4⟩
   ·
    rw [hl] at u2
    have hne : gb ≠ g := fun e' => hbc (hS.inj b c o _ _ _ hb hs u1 q1 e')
    refine ⟨gb,zb,eb,ob,u1,?_,u3,u4⟩
    rcases List.mem_append.1 u2 with u2 | u2
    ·
     simp [u2]
    ·
     rcases List.mem_cons.1 u2 with u2 | u2
     ·
      cases u2; exact absurd rfl hne
     ·
      simp [u2]
  ·
   rw [VR.flat hv r5]
   exact VR.of_flat hv
end
def oeq : Option Obj → Option Obj → Bool
 | none,none => true
 | some (.cells c t f),some (.cells c' t' f') => t.beq t' && f.1.beq f'.1 && f.2.beq f'.2 && c.toList.length.beq c'.toList.length && (c.toList.zip c'.toList).all (fun p => veq 20 p.1 p.2)
 | some (.stringIter x p),some (.stringIter y q) => p.beq q && beqL x.data.toList y.data.toList
 | _,_ => false
def seqB (s s' : AS) : Bool := s.nx.beq s'.nx && s.hp.length.beq s'.hp.length && (s.hp.zip s'.hp).all fun p => p.1.length.beq p.2.length && (p.1.zip p.2).all fun q => oeq q.1 q.2
def veqT : Value → Value → Bool
 | .tuple x, .tuple y => x.toList.length.beq y.toList.length && (x.toList.zip y.toList).all (fun p => veq 20 p.1 p.2)
 | x,y => veq 20 x y
def chk (r : Option (Value × AS)) (v : Value) (s : AS) : Bool := match r with
 | some (v',s') => veqT v' v && seqB s' s
 | none => false
theorem zip_all2 {α : Type} {p : α × α → Bool} (hp : ∀ q : α × α,p q = true → q.1 = q.2) : ∀ {a b : List α},a.length.beq b.length = true → (a.zip b).all p = true → a = b
 | [], [],_,_ => rfl
 | [],_ :: _,hl,_ => by simp at hl
 | _ :: _, [],hl,_ => by simp at hl
 | x :: a,y :: b,hl,h => by
  have hl' : a.length.beq b.length = true := by
   have := Nat.eq_of_beq_eq_true hl
   simp only [List.length_cons,Nat.add_right_cancel_iff] at this
   rw [this]
   exact Nat.beq_refl _
  simp only [List.zip_cons_cons,List.all_cons,Bool.and_eq_true] at h
  rw [show x = y from hp (x,y) h.1,zip_all2 hp hl' h.2]
theorem oeq_sound {x y : Option Obj} (h : oeq x y = true) : x = y := by
 unfold oeq at h
 split at h
 ·
  rfl
 ·
  next c t f c' t' f' =>
  simp only [Bool.and_eq_true] at h
  obtain ⟨⟨⟨⟨h1,h2⟩,h3⟩,h4⟩,h5⟩ := h
  have e := zip_all2 (fun q hq => zk8 hq) h4 h5
  have e' : c = c' := Array.toList_inj.1 e
  rw [Nat.eq_of_beq_eq_true h1,e',Prod.ext (Nat.eq_of_beq_eq_true h2) (Nat.eq_of_beq_eq_true h3)]
 ·
  simp only [Bool.and_eq_true] at h
  rw [Nat.eq_of_beq_eq_true h.1,beqL_sound h.2]
 ·
  cases h
theorem seqB_sound {s s' : AS} (h : seqB s s' = true) : s = s' := by
 unfold seqB at h
 simp only [Bool.and_eq_true] at h
 obtain ⟨⟨h1,h2⟩,h3⟩ := h
 obtain ⟨a,b⟩ := s
 obtain ⟨c,d⟩ := s'
 have e1 : b = d := Nat.eq_of_beq_eq_true h1
 have e2 : a = c := zip_all2 (fun q hq => by
  simp only [Bool.and_eq_true] at hq
  exact zip_all2 (fun r hr => oeq_sound hr) hq.1 hq.2) h2 h3
 rw [e1,e2]
theorem veqT_sound {x y : Value} (h : veqT x y = true) : x = y := by
 unfold veqT at h
 split at h
 ·
  next a b =>
  simp only [Bool.and_eq_true] at h
  have e : a = b := Array.toList_inj.1 (zip_all2 (fun q hq => zk8 hq) h.1 h.2)
  rw [e]
 ·
  exact zk8 h
theorem chk_eq {r : Option (Value × AS)} {v : Value} {s : AS} (h : chk r v s = true) : r = some (v,s) := by
 unfold chk at h
 split at h
 ·
  simp only [Bool.and_eq_true] at h
  rw [veqT_sound h.1,seqB_sound h.2]
 ·
  cases h
end
section
open Go.Conc Go.RowKit Go.Lib
def oOk : Option (TL × AS) → Bool
 | some _ => true
 | none => false
def oA : Option (TL × AS) → TL
 | some (a,_) => a
 | none => []
def oS : Option (TL × AS) → AS
 | some (_,s) => s
 | none => ⟨[],0⟩
def cOk : Option (Exit × TL × AS) → Bool
 | some (.normal,_,_) => true
 | _ => false
def cA : Option (Exit × TL × AS) → TL
 | some (_,a,_) => a
 | none => []
def cS : Option (Exit × TL × AS) → AS
 | some (_,_,s) => s
 | none => ⟨[],0⟩
section
variable {P : Program} {kt : TypeId → Bool} {pr : Prim} {a : TL} {s : AS} {Q : Exit → TL → AS → Prop} {K : TL → AS → Prop} {KT : List (TL × Value × AS) → Prop} {ops : Array Oper} {o : Oper} {rest : List Oper} {v : Value} {s1 : AS} {x y : Code}
theorem evOps_append {c : CallF} : ∀ {l m : List Oper} {a : TL} {s : AS},evOps P kt c ops (l ++ m) a s = (match evOps P kt c ops l a s with | some (a',s') => evOps P kt c ops m a' s' | none => none)
 | [],m,a,s => rfl
 | o :: l,m,a,s => by
  rw [List.cons_append]
  simp only [evOps]
  by_cases hw : Region.wanted o (zc7 ops a) = true
  ·
   simp only [if_pos hw]
   cases evOp P kt c a o s with
   | none => rfl
   | some r => exact evOps_append
  ·
   simp only [if_neg hw]
   exact evOps_append
theorem EO.run (k n : Nat) (a' : TL) (s' : AS) (h : evOps P kt (zb8 P kt pr n) ops (rest.take k) a s = some (a',s')) (kk : EO P kt pr ops (rest.drop k) a' s' K) : EO P kt pr ops rest a s K := by
 obtain ⟨m,a2,s2,h1,h2⟩ := kk
 refine ⟨max n m,a2,s2,?_,h2⟩
 rw [← List.take_append_drop k rest,evOps_append,zk5 (zj2 (Nat.le_max_left n m)) h]
 exact zk5 (zj2 (Nat.le_max_right n m)) h1
theorem EO.go (k n : Nat) (h : oOk (evOps P kt (zb8 P kt pr n) ops (rest.take k) a s) = true) (kk : EO P kt pr ops (rest.drop k) (oA (evOps P kt (zb8 P kt pr n) ops (rest.take k) a s)) (oS (evOps P kt (zb8 P kt pr n) ops (rest.take k) a s)) K) : EO P kt pr ops rest a s K := by
 generalize hq : evOps P kt (zb8 P kt pr n) ops (rest.take k) a s = q at h kk
 obtain _ | ⟨a',s'⟩ := q
 ·
  cases h
 ·
  exact EO.run k n a' s' hq kk
theorem EW.go (n : Nat) {c : Code} (h : cOk (evC P kt pr n c a s) = true) (k : Q .normal (cA (evC P kt pr n c a s)) (cS (evC P kt pr n c a s))) : EW P kt pr c a s Q := by
 generalize hq : evC P kt pr n c a s = q at h k
 unfold cOk at h
 split at h
 ·
  exact ⟨n,_,_,_,hq,k⟩
 ·
  cases h
def cE : Option (Exit × TL × AS) → Option Exit
 | some (e,_,_) => some e
 | none => none
theorem EW.goE (n : Nat) (e : Exit) {c : Code} (h : cE (evC P kt pr n c a s) = some e) (k : Q e (cA (evC P kt pr n c a s)) (cS (evC P kt pr n c a s))) : EW P kt pr c a s Q := by
 generalize hq : evC P kt pr n c a s = q at h k
 obtain _ | ⟨e',a',s'⟩ := q
 ·
  cases h
 ·
  cases h
  exact ⟨n,_,_,_,hq,k⟩
theorem EO.callF {cl : Call} {g : FuncId} (args : Array Value) (hw : Region.wanted o (zc7 ops a) = true) (hop : o.op = .call cl) (hcl : cl.callee = .value (.func g)) (hne : noEsc P (.func g) = false) (hargs : (#[] ++ cl.args.map a.at ++ #[] : Array Value) = args) (h : EF P kt pr g args s v s1) (k : EO P kt pr ops rest (a.put o.dst v) s1 K) : EO P kt pr ops (o :: rest) a s K :=
 EO.call hw hop hcl hne rfl hargs h k
theorem ET.callF {cl : Call} {g : FuncId} (args : Array Value) (hw : Region.wanted o (zc7 ops a) = true) (hop : o.op = .call cl) (hcl : cl.callee = .value (.func g)) (hne : noEsc P (.func g) = false) (hargs : (#[] ++ cl.args.map a.at ++ #[] : Array Value) = args) (h : EF P kt pr g args s v s1) (k : ET P kt pr ops rest (a.put o.dst v) s1 (fun tr => KT ((a,v,s1) :: tr))) : ET P kt pr ops (o :: rest) a s KT :=
 ET.call hw hop hcl hne rfl hargs h k
theorem EO.asS (s' : AS) (h : s = s') (k : EO P kt pr ops rest a s' K) : EO P kt pr ops rest a s K := h ▸ k
theorem EW.asS {c : Code} (s' : AS) (h : s = s') (k : EW P kt pr c a s' Q) : EW P kt pr c a s Q := h ▸ k
theorem EW.fill {c : Code} (f : (Nat → Value) → TL) (h : a = f (fun i => a.getD i undef)) (k : ∀ x,EW P kt pr c (f x) s Q) : EW P kt pr c a s Q := h ▸ k _
theorem EW.loopI {c : Code} (I : Nat → TL → AS → Prop) (h : ∀ m a s,I m a s → EW P kt pr c a s (fun e a' s' => match e with | .normal => ∃ m',m' < m ∧ I m' a' s' | e => Q e a' s')) : ∀ m a s,I m a s → EW P kt pr (.loop c) a s Q := by
 intro m
 induction m using Nat.strongRecOn with
 | _ m ih =>
  intro a s hI
  refine EW.loop (EW.mono (h m a s hI) fun e a' s' q => ?_)
  unfold thenQ
  cases e with
  | normal => obtain ⟨m',hm,hI'⟩ := q; exact ih m' hm a' s' hI'
  | _ => exact q
end
section
variable {ι : Type} {P : Program} {KT : TypeId → Prop} {An : Who} {N0 : ι → Nat} {M : ι → World → Nat → Prop} {O : ι → Nat → Prop} {R : ι → World → World → Prop} {D : ι → World → World → Array Event → Prop} {X : ι → Goroutine → World → Prop} {Hd : ι → List (Nat × Obj) → World → Prop} {pr : Prim} {kt : TypeId → Bool}
def prAdd (f : FuncId) (V : Array Value → Option Value) (pr : Prim) : Prim := fun g => if g.beq f then some fun args s => match V args with
 | some v => some (v,s)
 | none => none
 else pr g
theorem PrimOk.add (Y : Cy P KT N0 M O R D X Hd) (hm : P.follows .mixedOrders = true) (hkt : ∀ t, kt t = false → ¬ KT t) (hnm : ∀ (f : FuncId) (f₀ : Func), P.funcs[f]? = some f₀ → (f₀.name == "runtime.NumGoroutine") = false) {k m : Nat} (hAn : ∀ b, k ≤ b → An b = none) (hp : PrimOk P KT An R D X Hd pr) {f : FuncId} {V : Array Value → Option Value} (hV : ∀ args v, V args = some v → args.toList.all (flatV m) = true ∧ flatV m v = true ∧ ∃ s1, EF P kt pr f args ⟨[], k⟩ v s1) : PrimOk P KT An R D X Hd (prAdd f V pr) := by
 constructor
 ·
  intro g h args s v s' hf hh
  unfold prAdd at hf
  split at hf
  ·
   cases hf
   simp only at hh
   split at hh
   ·
    cases hh; exact Nat.le_refl _
   ·
    cases hh
  ·
   exact hp.nx g h args s v s' hf hh
 ·
  intro g h args s v s' hf hh
  unfold prAdd at hf
  split at hf
  ·
   next he =>
   have he := Nat.eq_of_beq_eq_true he
   subst he
   cases hf
   simp only at hh
   split at hh
   ·
    next v' hv =>
    cases hh
    obtain ⟨h1,h2,s1,n,h3⟩ := hV _ _ hv
    exact Sound.alone Y hAn h1 h2 ((ev_sound Y hm hkt hp hnm n).2 _ _ _ _ _ h3)
   ·
    cases hh
  ·
   exact hp.sound g h args s v s' hf hh
end
end
section
open Go.Conc Go.RowKit Go.Lib
abbrev str (l : List UInt8) : Value := .string ⟨l.toArray⟩
abbrev num (n : Int) : Value := .int .i64 n
theorem lenL_len {α : Type} (l : List α) : lenL l 0 = l.length := by rw [zl8,Nat.zero_add]
theorem wrapF_small {r : Int} (h : -2000000000 ≤ r ∧ r ≤ 2000000000) : wrapF .i64 r = r := by unfold wrapF; simp only; rw [if_pos h]
theorem bnd_hi {n c : Nat} {k : IntKind} {j : Int} (h : 0 ≤ j) (h' : j ≤ c) : zd5 n c none (some (.int k j)) = some (0,j.toNat) := by unfold zd5; simp only; rw [if_pos ⟨h,h'⟩]
theorem bnd_lo {n c : Nat} {k : IntKind} {i : Int} (h : 0 ≤ i) (h' : i ≤ n) : zd5 n c (some (.int k i)) none = some (i.toNat,n) := by unfold zd5; simp only; rw [if_pos ⟨h,h'⟩]
theorem bnd_both {n c : Nat} {k k' : IntKind} {i j : Int} (h : 0 ≤ i) (h1 : i ≤ j) (h' : j ≤ c) : zd5 n c (some (.int k i)) (some (.int k' j)) = some (i.toNat,j.toNat) := by unfold zd5; simp only; rw [if_pos ⟨by omega,h'⟩,if_pos ⟨h,h1⟩]
section
variable {P : Program} {kt : TypeId → Bool} {pr : Prim} {c : CallF} {a : TL} {s : AS} {Q : Exit → TL → AS → Prop} {K : TL → AS → Prop} {KT : List (TL × Value × AS) → Prop} {ops : Array Oper} {o : Oper} {rest : List Oper} {v : Value} {s1 : AS}
theorem zk7 {v : Value} (hn : isNew o.op = false) (hk : match o.op with | .load _ _ | .store _ _ _ | .slice _ _ _ _ _ | .next _ _ | .call _ => False | _ => True) (h : ze4 P a o = some v) : evOp P kt c a o s = some (v,s) := by
 unfold evOp
 rw [if_neg (by rw [hn]; simp)]
 cases hop : o.op with
 | load _ _ => rw [hop] at hk; exact hk.elim
 | store _ _ _ => rw [hop] at hk; exact hk.elim
 | slice _ _ _ _ _ => rw [hop] at hk; exact hk.elim
 | next _ _ => rw [hop] at hk; exact hk.elim
 | call _ => rw [hop] at hk; exact hk.elim
 | _ => simp only [h]
theorem op_slS {t : TypeId} {x : Operand} {lo hi : Option Operand} {l : List UInt8} {i j : Nat} (hop : o.op = .slice t x lo hi none) (ht : P.underlying t = some .string) (hx : a.at x = str l) (hb : zd5 l.length l.length (lo.map a.at) (hi.map a.at) = some (i,j)) : evOp P kt c a o s = some (str ((l.take j).drop i),s) := by
 have e : evSlice P t (a.at x) (lo.map a.at) (hi.map a.at) ((none : Option Operand).map a.at) s = some (str ((l.take j).drop i)) := by
  unfold evSlice
  rw [ht,hx]
  show (match zd5 (lenL l 0) (lenL l 0) (lo.map a.at) (hi.map a.at) with
   | some (l',h) => some (Value.string ⟨((l.take h).drop l').toArray⟩)
   | none => none) = _
  rw [lenL_len,hb]
 unfold evOp
 rw [if_neg (by rw [hop]; simp [isNew]),hop]
 simp only
 rw [e]
theorem op_addI {t : TypeId} {x y : Operand} {z} {i j r : Int} (hop : o.op = .binOp .add t x y z) (hx : a.at x = num i) (hy : a.at y = num j) (hr : i + j = r) (hs : -2000000000 ≤ r ∧ r ≤ 2000000000) : evOp P kt c a o s = some (num r,s) := by
 refine zk7 (by rw [hop]; rfl) (by rw [hop]; trivial) ?_
 unfold ze4
 rw [hop]
 simp only
 rw [hx,hy]
 unfold evBin
 simp only [if_pos]
 rw [hr,wrapF_small hs]
theorem zf0 {t : TypeId} {x y : Operand} {z} {l m : List UInt8} (hop : o.op = .binOp .add t x y z) (hx : a.at x = str l) (hy : a.at y = str m) (hs : l.length + m.length ≤ 1000000000) : evOp P kt c a o s = some (str (l ++ m),s) := by
 refine zk7 (by rw [hop]; rfl) (by rw [hop]; trivial) ?_
 unfold ze4
 rw [hop]
 simp only
 rw [hx,hy]
 unfold evBin
 simp only
 rw [show lenL l.toArray.toList 0 = l.length from lenL_len l,show lenL m.toArray.toList 0 = m.length from lenL_len m,if_pos hs]
theorem op_idx {t : TypeId} {x i : Operand} {l : List UInt8} {k : IntKind} {n : Int} {b : UInt8} (hop : o.op = .index t x i) (ht : P.underlying t = some .string) (hx : a.at x = str l) (hi : a.at i = .int k n) (hn : 0 ≤ n) (hb : l[n.toNat]? = some b) : evOp P kt c a o s = some (.int .u8 b.toNat,s) := by
 refine zk7 (by rw [hop]; rfl) (by rw [hop]; trivial) ?_
 unfold ze4
 rw [hop]
 simp only
 rw [ht,hx,hi]
 simp only
 rw [if_pos hn,show l.toArray.toList[n.toNat]? = some b from hb]
theorem op_ld {t : TypeId} {x : Operand} {b off : Nat} {cs : Array Value} {ty : TypeId} {fz : Nat × Nat} {d : TypeDesc} (hop : o.op = .load t x) (ht : P.underlying t = some d) (hd : d.isRow = false) (hx : a.at x = aptr b off) (hs : s.get b = some (.cells cs ty fz)) (hv : cs[off]? = some v) : evOp P kt c a o s = some (v,s) := by
 unfold evOp
 rw [if_neg (by rw [hop]; simp [isNew]),hop]
 simp only
 unfold zc8
 rw [hx]
 simp only [aptr,hs,ht,hd,hv,if_false,Bool.false_eq_true]
theorem op_st {t : TypeId} {x y : Operand} {b off : Nat} {cs : Array Value} {ty : TypeId} {fz : Nat × Nat} {w : Value} (hop : o.op = .store t x y) (hx : a.at x = aptr b off) (hy : a.at y = w) (hc : w.cells = #[w]) (ho : w.oneCell' = true) (hsz : sizeT P t = some 1) (hs : s.get b = some (.cells cs ty fz)) (hl : off + 1 ≤ cs.size) : evOp P kt c a o s = some (undef,s.set b (some (.cells (putAt cs off [w]) ty fz))) := by
 unfold evOp
 rw [if_neg (by rw [hop]; simp [isNew]),hop]
 simp only
 unfold evStore
 rw [hx,hy]
 simp only [aptr,hs,hc]
 rw [if_pos ⟨hsz,by simpa using hl,by simp [ho]⟩]
theorem EO.fin (n : Nat) (h : oOk (evOps P kt (zb8 P kt pr n) ops rest a s) = true) (k : K (oA (evOps P kt (zb8 P kt pr n) ops rest a s)) (oS (evOps P kt (zb8 P kt pr n) ops rest a s))) : EO P kt pr ops rest a s K := by
 generalize hq : evOps P kt (zb8 P kt pr n) ops rest a s = q at h k
 obtain _ | ⟨a',s'⟩ := q
 ·
  cases h
 ·
  exact ⟨n,a',s',hq,k⟩
end
end
section
open Go.Conc Go.RowKit Go.Lib
def qOk : Option (Value × AS) → Bool
 | some _ => true
 | none => false
def qV : Option (Value × AS) → Value
 | some (v,_) => v
 | none => undef
def qS : Option (Value × AS) → AS
 | some (_,s) => s
 | none => ⟨[],0⟩
section
variable {P : Program} {kt : TypeId → Bool} {pr : Prim} {c : CallF} {a : TL} {s : AS} {Q : Exit → TL → AS → Prop} {K : TL → AS → Prop} {KT : List (TL × Value × AS) → Prop} {ops : Array Oper} {o : Oper} {rest : List Oper} {v : Value} {s1 : AS}
theorem ET.q (hw : Region.wanted o (zc7 ops a) = true) (h : qOk (evOp P kt (fun _ _ _ => none) a o s) = true) (k : ET P kt pr ops rest (a.put o.dst (qV (evOp P kt (fun _ _ _ => none) a o s))) (qS (evOp P kt (fun _ _ _ => none) a o s)) (fun tr => KT ((a,qV (evOp P kt (fun _ _ _ => none) a o s),qS (evOp P kt (fun _ _ _ => none) a o s)) :: tr))) : ET P kt pr ops (o :: rest) a s KT := by
 generalize hq : evOp P kt (fun _ _ _ => none) a o s = q at h k
 obtain _ | ⟨v,s'⟩ := q
 ·
  cases h
 ·
  exact ET.op hw hq k
theorem EO.q (hw : Region.wanted o (zc7 ops a) = true) (h : qOk (evOp P kt (fun _ _ _ => none) a o s) = true) (k : EO P kt pr ops rest (a.put o.dst (qV (evOp P kt (fun _ _ _ => none) a o s))) (qS (evOp P kt (fun _ _ _ => none) a o s)) K) : EO P kt pr ops (o :: rest) a s K := by
 generalize hq : evOp P kt (fun _ _ _ => none) a o s = q at h k
 obtain _ | ⟨v,s'⟩ := q
 ·
  cases h
 ·
  exact EO.op hw hq k
theorem ET.asS (s' : AS) (h : s = s') (k : ET P kt pr ops rest a s' KT) : ET P kt pr ops rest a s KT := h ▸ k
theorem zc4 {op : BinOp} {t : TypeId} {x y : Operand} {z} {u w : Value} (hop : o.op = .binOp op t x y z) (hx : a.at x = u) (hy : a.at y = w) (h : evBin op u w = some v) : evOp P kt c a o s = some (v,s) := by
 refine zk7 (by rw [hop]; rfl) (by rw [hop]; trivial) ?_
 unfold ze4
 rw [hop]
 simp only
 rw [hx,hy,h]
theorem zl0 {t : TypeId} {x : Operand} {l : List UInt8} (hop : o.op = .call { callee := .builtin .len,args := #[x],argTypes := #[t] }) (ht : P.underlying t = some .string) (hx : a.at x = str l) : evOp P kt c a o s = some (num l.length,s) := by
 have e : ze4 P a o = some (num l.length) := by
  unfold ze4
  rw [hop]
  simp only
  rw [ht,hx]
  show some (goInt (lenL l 0)) = _
  rw [lenL_len]
  rfl
 unfold evOp
 rw [if_neg (by rw [hop]; simp [isNew]),hop]
 simp only
 rw [e]
theorem op_sub {t : TypeId} {x : Operand} {lo hi : Option Operand} {l m : List UInt8} {i j : Nat} (hop : o.op = .slice t x lo hi none) (ht : P.underlying t = some .string) (hx : a.at x = str l) (hb : zd5 l.length l.length (lo.map a.at) (hi.map a.at) = some (i,j)) (hm : (l.take j).drop i = m) : evOp P kt c a o s = some (str m,s) := by
 rw [op_slS hop ht hx hb,hm]
theorem bin_geq {i j : Int} {b : Bool} (h : decide (i ≥ j) = b) : evBin .geq (num i) (num j) = some (.bool b) := by unfold evBin; simp only [if_pos]; rw [h]
theorem bin_gtr {i j : Int} {b : Bool} (h : decide (i > j) = b) : evBin .gtr (num i) (num j) = some (.bool b) := by unfold evBin; simp only [if_pos]; rw [h]
theorem bin_lss {i j : Int} {b : Bool} (h : decide (i < j) = b) : evBin .lss (num i) (num j) = some (.bool b) := by unfold evBin; simp only [if_pos]; rw [h]
theorem bin_eqS {l m : List UInt8} {b : Bool} (h : beqL l m = b) : evBin .eql (str l) (str m) = some (.bool b) := by unfold evBin; simp only; rw [h]
end
theorem zl5 (l m : List UInt8) : beqL l m = true ↔ l = m := by
 constructor
 ·
  intro h
  induction l generalizing m with
  | nil => cases m with
   | nil => rfl
   | cons y m => simp [beqL] at h
  | cons x l ih => cases m with
   | nil => simp [beqL] at h
   | cons y m =>
    unfold beqL at h
    split at h
    ·
     next e => rw [UInt8.toNat_inj.1 (Nat.eq_of_beq_eq_true e),ih m h]
    ·
     cases h
 ·
  rintro rfl
  induction l with
  | nil => rfl
  | cons x l ih => unfold beqL; simp [ih]
theorem beqL_ne {l m : List UInt8} (h : l ≠ m) : beqL l m = false := by
 cases hb : beqL l m with
 | false => rfl
 | true => exact absurd ((zl5 l m).1 hb) h
end
section
abbrev link : Go.Conc.Lib.WgLink := { add := 199,done := 202,wait := 115,relMerge := 303,disable := 204,enable := 206,inBubble := 212,associate := 304,fatal := 305,uOr := 306,uAdd := 307,raceRead := 308,uLoad := 205,uStore := 309,disassociate := 210,semrelease := 310,acquire := 207,isAssociated := 208,uCas := 209,raceWrite := 211,semacquire := 213,orU64 := 359,addU64 := 360,loadU64 := 311,storeU64 := 361,casU64 := 312,tWgP := 240,tUP := 244,tAssoc := 290,tWg := 169,tAU := 166,tU64 := 164,tUint := 242,tU32 := 167,tPU32 := 248,tPAU := 295,tPU64 := 297,tNoCopy := 161,tANoCopy := 162,tAlign64 := 163 }
theorem wgLib : Go.Conc.Lib.WgLib prog link :=
 ⟨func199,func202,func115,func303,func204,func206,func212,func304,func305,func306,func307,func308,func205,func309,func210,func310,func207,func208,func209,func211,func213,func359,func360,func311,func361,func312,underlying240,Tryz.runUnderlying240,Tryz.sizeOf240,Tryz.isAgg240,Tryz.zeroValue240,underlying244,Tryz.runUnderlying244,Tryz.sizeOf244,Tryz.isAgg244,Tryz.zeroValue244,underlying290,Tryz.runUnderlying290,Tryz.sizeOf290,Tryz.isAgg290,Tryz.zeroValue290,underlying169,Tryz.runUnderlying169,Tryz.sizeOf169,Tryz.isAgg169,Tryz.zeroValue169,underlying166,Tryz.runUnderlying166,Tryz.sizeOf166,Tryz.isAgg166,Tryz.zeroValue166,underlying164,Tryz.runUnderlying164,Tryz.sizeOf164,Tryz.isAgg164,Tryz.zeroValue164,underlying242,Tryz.runUnderlying242,Tryz.sizeOf242,Tryz.isAgg242,Tryz.zeroValue242,underlying167,Tryz.runUnderlying167,Tryz.sizeOf167,Tryz.isAgg167,Tryz.zeroValue167,underlying248,Tryz.runUnderlying248,Tryz.sizeOf248,Tryz.isAgg248,Tryz.zeroValue248,underlying295,Tryz.runUnderlying295,Tryz.sizeOf295,Tryz.isAgg295,Tryz.zeroValue295,underlying297,Tryz.runUnderlying297,Tryz.sizeOf297,Tryz.isAgg297,Tryz.zeroValue297,underlying0,Tryz.runUnderlying0,Tryz.sizeOf0,Tryz.isAgg0,Tryz.zeroValue0,underlying3,Tryz.runUnderlying3,Tryz.sizeOf3,Tryz.isAgg3,Tryz.zeroValue3,underlying4,Tryz.runUnderlying4,Tryz.sizeOf4,Tryz.isAgg4,Tryz.zeroValue4,underlying9,Tryz.runUnderlying9,Tryz.sizeOf9,Tryz.isAgg9,Tryz.zeroValue9,underlying20,Tryz.runUnderlying20,Tryz.sizeOf20,Tryz.isAgg20,Tryz.zeroValue20,underlying21,Tryz.runUnderlying21,Tryz.sizeOf21,Tryz.isAgg21,Tryz.zeroValue21,(by kernel_rfl),(by kernel_rfl)⟩
end
set_option maxRecDepth 100000
set_option maxHeartbeats 2000000
section
open Go.Conc Go.RowKit
def lowL (r : Int) : Int := if 65 ≤ r ∧ r ≤ 90 then r + 32 else r
def isLetterL (r : Int) : Bool := decide (97 ≤ lowL r) && decide (lowL r ≤ 122)
def isDigitL (r : Int) : Bool := decide (48 ≤ r) && decide (r ≤ 57)
def Fits (r : Int) : Prop := -2147483648 ≤ r ∧ r ≤ 2147483647
theorem wrap32 {x : Int} (h : Fits x) : IntKind.i32.wrap x = x := by
 obtain ⟨h1,h2⟩ := h
 rw [IntKind.wrap_i32]
 omega
theorem low_x {r : Int} (hr : Fits r) : PureI prog 247 #[.int .i32 r] (.int .i32 (lowL r)) := by
 intro ι R D X C T i w
 refine zc2 func247 (by rfl) rfl ?_
 simp only [ntmps247,List.size_toArray,List.length_cons,List.length_nil,Nat.reduceAdd,Nat.reduceSub,Array.replicate_succ,Array.replicate_zero,List.push_toArray,List.append_toArray,List.nil_append,List.cons_append]
 refine za5 C T ?_
 refine za2 C T ?_
 simp only [szR,Nat.reduceAdd]
 refine za1 C T rfl (by rfl) fun _ Kx hKx => ?_
 go_simp
 refine hKx _ ?_ (by first | (simp [go_sem]; done) | (simp [go_sem, *]; done))
 clear hKx Kx
 try walk_nrm
 refine za3 C T ?_
 show wpI _ _ _ _ _ _ _
 iterate 2
  refine za5 C T ?_
 refine za2 C T ?_
 simp only [szR,Nat.reduceAdd]
 iterate 3
  refine za1 C T rfl (by rfl) fun _ Kx hKx => ?_
  go_simp
  refine hKx _ ?_ (by first | (simp [go_sem]; done) | (simp [go_sem, *]; done))
  clear hKx Kx
  try walk_nrm
 refine zi0 (d := 5) rfl (fun hb => ?_) (fun hb => ?_)
 ·
  simp only [hb]
  try simp only [bolL,beq_iff_eq,beq_eq_false_iff_ne,bne_iff_ne,bne_eq_false_iff_eq] at hb
  iterate 3
   refine za1 C T rfl (by rfl) fun _ Kx hKx => ?_
   go_simp
   refine hKx _ ?_ (by first | (simp [go_sem]; done) | (simp [go_sem, *]; done))
   clear hKx Kx
   try walk_nrm
  refine za3 C T ?_
  show wpI _ _ _ _ _ _ _
  refine zf9 C T rfl (fun hb => ?_) (fun hb => ?_)
  ·
   simp only [hb]
   try simp only [bolL,beq_iff_eq,beq_eq_false_iff_ne,bne_iff_ne,bne_eq_false_iff_eq] at hb
   refine za5 C T ?_
   refine za2 C T ?_
   simp only [szR,Nat.reduceAdd]
   iterate 4
    refine za1 C T rfl (by rfl) fun _ Kx hKx => ?_
    go_simp
    refine hKx _ ?_ (by first | (simp [go_sem]; done) | (simp [go_sem, *]; done))
    clear hKx Kx
    try walk_nrm
   refine za3 C T ?_
   show wpI _ _ _ _ _ _ _
   refine zc3 C T ?_
   refine ⟨.inr rfl,rfl,_,resultsC_tmp (by rfl) _,rfl,?_,rfl⟩
   have e1 : IntKind.i32.wrap (r - 65) = r - 65 := wrap32 ⟨by omega,by omega⟩
   have e2 : IntKind.i32.wrap (r - 65 + 97) = r + 32 := by rw [wrap32 ⟨by omega,by omega⟩]; omega
   simp [lowL,e1,e2] <;> (try intros) <;> omega
  ·
   simp only [hb]
   try simp only [bolL,beq_iff_eq,beq_eq_false_iff_ne,bne_iff_ne,bne_eq_false_iff_eq] at hb
   refine ze0 C T ?_
   show wpI _ _ _ _ _ _ _
   refine za5 C T ?_
   refine za2 C T ?_
   simp only [szR,Nat.reduceAdd]
   iterate 2
    refine za1 C T rfl (by rfl) fun _ Kx hKx => ?_
    go_simp
    refine hKx _ ?_ (by first | (simp [go_sem]; done) | (simp [go_sem, *]; done))
    clear hKx Kx
    try walk_nrm
   refine za3 C T ?_
   show wpI _ _ _ _ _ _ _
   refine zc3 C T ?_
   refine ⟨.inr rfl,rfl,_,resultsC_tmp (by rfl) _,rfl,?_,rfl⟩
   simp [lowL] <;> (try intros) <;> omega
 ·
  simp only [hb]
  try simp only [bolL,beq_iff_eq,beq_eq_false_iff_ne,bne_iff_ne,bne_eq_false_iff_eq] at hb
  iterate 2
   refine zb7 C T rfl (by rfl) ?_
   try walk_nrm
  refine za1 C T rfl (by rfl) fun _ Kx hKx => ?_
  go_simp
  refine hKx _ ?_ (by first | (simp [go_sem]; done) | (simp [go_sem, *]; done))
  clear hKx Kx
  try walk_nrm
  refine za3 C T ?_
  show wpI _ _ _ _ _ _ _
  refine zc0 C T (t := false) rfl ?_
  simp only [if_true,if_false,reduceIte,Bool.false_eq_true]
  refine ze0 C T ?_
  show wpI _ _ _ _ _ _ _
  refine za5 C T ?_
  refine za2 C T ?_
  simp only [szR,Nat.reduceAdd]
  iterate 2
   refine za1 C T rfl (by rfl) fun _ Kx hKx => ?_
   go_simp
   refine hKx _ ?_ (by first | (simp [go_sem]; done) | (simp [go_sem, *]; done))
   clear hKx Kx
   try walk_nrm
  refine za3 C T ?_
  show wpI _ _ _ _ _ _ _
  refine zc3 C T ?_
  refine ⟨.inr rfl,rfl,_,resultsC_tmp (by rfl) _,rfl,?_,rfl⟩
  simp [lowL] <;> (try intros) <;> omega
theorem isLetter_x {r : Int} (hr : Fits r) : PureI prog 147 #[.int .i32 r] (.bool (isLetterL r)) := by
 intro ι R D X C T i w
 refine zc2 func147 (by rfl) rfl ?_
 simp only [ntmps147,List.size_toArray,List.length_cons,List.length_nil,Nat.reduceAdd,Nat.reduceSub,Array.replicate_succ,Array.replicate_zero,List.push_toArray,List.append_toArray,List.nil_append,List.cons_append]
 refine za5 C T ?_
 refine za2 C T ?_
 simp only [szR,Nat.reduceAdd]
 refine za1 C T rfl (by rfl) fun _ Kx hKx => ?_
 go_simp
 refine hKx _ ?_ (by first | (simp [go_sem]; done) | (simp [go_sem, *]; done))
 clear hKx Kx
 try walk_nrm
 refine za3 C T ?_
 show wpI _ _ _ _ _ _ _
 refine za5 C T ?_
 refine za2 C T ?_
 simp only [szR,Nat.reduceAdd]
 refine za1 C T rfl (by rfl) fun _ Kx hKx => ?_
 go_simp
 refine hKx _ ?_ (by first | (simp [go_sem]; done) | (simp [go_sem, *]; done))
 clear hKx Kx
 try walk_nrm
 refine zh8 C T rfl (by rfl) rfl rfl (by simp [Act.eval]) (low_x hr) ?_
 try walk_nrm
 refine za1 C T rfl (by rfl) fun _ Kx hKx => ?_
 go_simp
 refine hKx _ ?_ (by first | (simp [go_sem]; done) | (simp [go_sem, *]; done))
 clear hKx Kx
 try walk_nrm
 refine za3 C T ?_
 show wpI _ _ _ _ _ _ _
 refine za5 C T ?_
 refine za2 C T ?_
 simp only [szR,Nat.reduceAdd]
 iterate 3
  refine za1 C T rfl (by rfl) fun _ Kx hKx => ?_
  go_simp
  refine hKx _ ?_ (by first | (simp [go_sem]; done) | (simp [go_sem, *]; done))
  clear hKx Kx
  try walk_nrm
 refine zi0 (d := 7) rfl (fun hb => ?_) (fun hb => ?_)
 ·
  simp only [hb]
  try simp only [bolL,beq_iff_eq,beq_eq_false_iff_ne,bne_iff_ne,bne_eq_false_iff_eq] at hb
  iterate 4
   refine za1 C T rfl (by rfl) fun _ Kx hKx => ?_
   go_simp
   refine hKx _ ?_ (by first | (simp [go_sem]; done) | (simp [go_sem, *]; done))
   clear hKx Kx
   try walk_nrm
  refine za3 C T ?_
  show wpI _ _ _ _ _ _ _
  refine zc3 C T ?_
  refine ⟨.inr rfl,rfl,_,resultsC_tmp (by rfl) _,rfl,?_,rfl⟩
  simp [isLetterL, *] <;> (try intros) <;> omega
 ·
  simp only [hb]
  try simp only [bolL,beq_iff_eq,beq_eq_false_iff_ne,bne_iff_ne,bne_eq_false_iff_eq] at hb
  iterate 2
   refine zb7 C T rfl (by rfl) ?_
   try walk_nrm
  iterate 2
   refine za1 C T rfl (by rfl) fun _ Kx hKx => ?_
   go_simp
   refine hKx _ ?_ (by first | (simp [go_sem]; done) | (simp [go_sem, *]; done))
   clear hKx Kx
   try walk_nrm
  refine za3 C T ?_
  show wpI _ _ _ _ _ _ _
  refine zc3 C T ?_
  refine ⟨.inr rfl,rfl,_,resultsC_tmp (by rfl) _,rfl,?_,rfl⟩
  simp [isLetterL, *] <;> (try intros) <;> omega
theorem isDigit_x {r : Int} : PureI prog 339 #[.int .i32 r] (.bool (isDigitL r)) := by
 intro ι R D X C T i w
 refine zc2 func339 (by rfl) rfl ?_
 simp only [ntmps339,List.size_toArray,List.length_cons,List.length_nil,Nat.reduceAdd,Nat.reduceSub,Array.replicate_succ,Array.replicate_zero,List.push_toArray,List.append_toArray,List.nil_append,List.cons_append]
 refine za5 C T ?_
 refine za2 C T ?_
 simp only [szR,Nat.reduceAdd]
 refine za1 C T rfl (by rfl) fun _ Kx hKx => ?_
 go_simp
 refine hKx _ ?_ (by first | (simp [go_sem]; done) | (simp [go_sem, *]; done))
 clear hKx Kx
 try walk_nrm
 refine za3 C T ?_
 show wpI _ _ _ _ _ _ _
 refine za5 C T ?_
 refine za2 C T ?_
 simp only [szR,Nat.reduceAdd]
 iterate 3
  refine za1 C T rfl (by rfl) fun _ Kx hKx => ?_
  go_simp
  refine hKx _ ?_ (by first | (simp [go_sem]; done) | (simp [go_sem, *]; done))
  clear hKx Kx
  try walk_nrm
 refine zi0 (d := 5) rfl (fun hb => ?_) (fun hb => ?_)
 ·
  simp only [hb]
  try simp only [bolL,beq_iff_eq,beq_eq_false_iff_ne,bne_iff_ne,bne_eq_false_iff_eq] at hb
  iterate 4
   refine za1 C T rfl (by rfl) fun _ Kx hKx => ?_
   go_simp
   refine hKx _ ?_ (by first | (simp [go_sem]; done) | (simp [go_sem, *]; done))
   clear hKx Kx
   try walk_nrm
  refine za3 C T ?_
  show wpI _ _ _ _ _ _ _
  refine zc3 C T ?_
  refine ⟨.inr rfl,rfl,_,resultsC_tmp (by rfl) _,rfl,?_,rfl⟩
  simp [isDigitL, *] <;> (try intros) <;> omega
 ·
  simp only [hb]
  try simp only [bolL,beq_iff_eq,beq_eq_false_iff_ne,bne_iff_ne,bne_eq_false_iff_eq] at hb
  iterate 2
   refine zb7 C T rfl (by rfl) ?_
   try walk_nrm
  iterate 2
   refine za1 C T rfl (by rfl) fun _ Kx hKx => ?_
   go_simp
   refine hKx _ ?_ (by first | (simp [go_sem]; done) | (simp [go_sem, *]; done))
   clear hKx Kx
   try walk_nrm
  refine za3 C T ?_
  show wpI _ _ _ _ _ _ _
  refine zc3 C T ?_
  refine ⟨.inr rfl,rfl,_,resultsC_tmp (by rfl) _,rfl,?_,rfl⟩
  simp [isDigitL, *] <;> (try intros) <;> omega
end
end Go.Proofs.YtgcaionclkbehaaGreatDoor
