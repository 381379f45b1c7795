import Derived.Test.YtgcaionclkbehaaGreatDoorBack
set_option linter.all false
namespace Go.Proofs.YtgcaionclkbehaaGreatDoor
open Tryz
section
open Go.Conc Go.RowKit Go.Lib
def nmV (n : Nat) : Value → Bool
 | .pointer (some ⟨b,_,none⟩) => Nat.blt b n
 | .slice (some ⟨b,_,none⟩) _ _ => Nat.blt b n
 | v => isSc v
def nmF (n : Nat) : Value → Bool
 | .func _ x y => x.toList.all (nmV n) && y.toList.all (nmV n)
 | v => nmV n v
theorem blt_lt {a b : Nat} (h : Nat.blt a b = true) : a < b := by simpa [Nat.blt_eq] using h
theorem VR.agree {S S' : Who} {n : Nat} {x v : Value} (hn : nmV n x = true) (h : ∀ b,b < n → S b = S' b) (hr : VR S x v) : VR S' x v := by
 unfold nmV at hn
 split at hn
 ·
  obtain ⟨g,z,e,h1,rfl⟩ := hr.ptr
  exact VR.of_ptr ((h _ (blt_lt hn)).symm.trans h1)
 ·
  obtain ⟨d,hr⟩ := hr
  cases d with
  | zero => exact hr.elim
  | succ d =>
   obtain ⟨g,z,e,c',h1,h2⟩ := hr
   exact ⟨1,g,z,e,c',(h _ (blt_lt hn)).symm.trans h1,h2⟩
 ·
  rw [hr.sc hn]
  exact VR.of_sc hn
theorem OR.agree {S S' : Who} {n z : Nat} {cs : Array Value} {t : TypeId} {fz : Nat × Nat} {o' : Obj} (hn : cs.toList.all (nmV n) = true) (h : ∀ b,b < n → S b = S' b) (hr : OR S z (.cells cs t fz) o') : OR S' z (.cells cs t fz) o' := by
 rw [List.all_eq_true] at hn
 obtain ⟨cs',r1,r2,r3,r4⟩ := hr
 exact ⟨cs',r1,r2,r3,fun i x y hx hy => (r4 i x y hx hy).agree (hn x (by rw [Array.mem_toList_iff]; exact Array.mem_of_getElem? hx)) h⟩
theorem VD.agree {S S' : Who} {n d : Nat} {x v : Value} (hn : nmV n x = true) (h : ∀ b,b < n → S b = S' b) (hr : VD S d x v) : VD S' d x v := by
 cases d with
 | zero => exact hr.elim
 | succ d =>
  unfold nmV at hn
  split at hn
  ·
   obtain ⟨g,z,e,h1,h2⟩ := hr
   exact ⟨g,z,e,(h _ (blt_lt hn)).symm.trans h1,h2⟩
  ·
   obtain ⟨g,z,e,c',h1,h2⟩ := hr
   exact ⟨g,z,e,c',(h _ (blt_lt hn)).symm.trans h1,h2⟩
  ·
   have := VR.of_sc (S := S') hn
   have e := VR.sc hn ⟨d + 1,hr⟩
   subst e
   obtain ⟨d',hd'⟩ := this
   unfold VD
   split <;> first | exact ⟨hn,rfl⟩ | (simp [isSc] at hn)
theorem VR.agreeF {S S' : Who} {n : Nat} {x v : Value} (hn : nmF n x = true) (h : ∀ b,b < n → S b = S' b) (hr : VR S x v) : VR S' x v := by
 unfold nmF at hn
 split at hn
 ·
  obtain ⟨d,hr⟩ := hr
  cases d with
  | zero => exact hr.elim
  | succ d =>
   obtain ⟨x',y',h1,h2,h3⟩ := hr
   rw [Bool.and_eq_true,List.all_eq_true,List.all_eq_true] at hn
   refine ⟨d + 1,x',y',h1,⟨h2.1,fun i a b ha hb => (h2.2 i a b ha hb).agree (hn.1 a ?_) h⟩,⟨h3.1,fun i a b ha hb => (h3.2 i a b ha hb).agree (hn.2 a ?_) h⟩⟩
   iterate 2
    ·
     rw [Array.mem_toList_iff]; exact Array.mem_of_getElem? ha
 ·
  exact hr.agree hn h
def AS.tame (s : AS) : Bool := (List.range s.nx).all fun b => match s.get b with
 | some (.cells cs _ _) => cs.toList.all (nmV s.nx)
 | _ => true
section
variable {ι : Type} {P : Program} {KT : TypeId → Prop} {An : Who} {N0 : ι → Nat} {M : ι → World → Nat → Prop} {O : ι → Nat → Prop} {R : ι → World → World → Prop} {D : ι → World → World → Array Event → Prop} {X : ι → Goroutine → World → Prop} {Hd : ι → List (Nat × Obj) → World → Prop} {pr : Prim} {kt : TypeId → Bool} {f : FuncId} {args : Array Value} {s : AS} {v : Value}
theorem Sound.aloneO (Y : Cy P KT N0 M O R D X Hd) {k c : Nat} {s0 s1 : AS} {cs : Array Value} {t : TypeId} {fz : Nat × Nat} (hAn : ∀ b,k ≤ b → An b = none) (hk : k ≤ s.nx) (hcs : cs.toList.all (nmV s.nx) = true) (hs0 : ∀ b,s0.get b = if b = c then some (.cells cs t fz) else none) (hn0 : s0.nx = s.nx) (hs1 : s1.get c = some (.cells cs t fz)) (hs : s.get c = some (.cells cs t fz)) (ha : args.toList.all (nmV s.nx) = true) (hv : isSc v = true) (h : Sound P KT An R D X Hd f args s0 v s1) : Sound P KT An R D X Hd f args s v s := by
 intro S l fr i w args' hS hF hA hfr
 rw [List.all_eq_true] at ha
 obtain ⟨g,z,e,o',q1,q2,q3,q4⟩ := hS.live c _ hs
 have hcn := hS.lt c _ hs
 let T : Who := fun b => if b < s.nx then S b else none
 have hT : ∀ b,b < s.nx → S b = T b := fun b hb => by show S b = if b < s.nx then S b else none; rw [if_pos hb]
 obtain ⟨la,lb,hl⟩ := List.append_of_mem q2
 have hper : (la ++ (g,o') :: lb).Perm ([(g,o')] ++ (la ++ lb)) := List.perm_middle
 have hF' : Hd i ([(g,o')] ++ ((la ++ lb) ++ fr)) w := (Y.Z hF).perm hF (by
  rw [hl, ← List.append_assoc]
  exact (hper.append_right fr).symm)
 have hone : ∀ b o,s0.get b = some o → b = c ∧ o = .cells cs t fz := fun b o hb => by
  rw [hs0] at hb
  split at hb
  ·
   next e => cases hb; exact ⟨e,rfl⟩
  ·
   cases hb
 have hsim : Sim P KT An T s0 [(g,o')] := by
  refine ⟨fun b o hb => ?_,fun b b' o o' x x' hb hb' _ _ _ => by rw [(hone b o hb).1,(hone b' o' hb').1],fun b o hb => by rw [(hone b o hb).1,hn0]; exact hcn,fun b x hx => ?_⟩
  ·
   obtain ⟨rfl,rfl⟩ := hone b o hb
   exact ⟨g,z,e,o',(hT _ hcn).symm.trans q1,by simp,q3.agree hcs hT,q4⟩
  ·
   by_cases hb : b < s.nx
   ·
    rw [← hT b hb]; exact hS.an b x hx
   ·
    rw [hAn b (by omega)] at hx; cases hx
 refine (h T [(g,o')] ((la ++ lb) ++ fr) i w args' hsim hF' ⟨hA.1,fun j x y hx hy => (hA.2 j x y hx hy).agree (ha x (by rw [Array.mem_toList_iff]; exact Array.mem_of_getElem? hx)) hT⟩ fun b hb _ => ?_).mono ?_
 ·
  show (if b < s.nx then S b else none) = none
  rw [if_neg (by omega)]
 ·
  rintro i' v' w' ⟨S',l',r1,r2,r3,r4,r5⟩
  obtain ⟨g2,z2,e2,o2,p1,p2,p3,p4⟩ := r3.live c _ hs1
  have he : (g2,z2,e2) = (g,z,e) := by have := r1 _ _ ((hT _ hcn).symm.trans q1); rw [p1] at this; cases this; rfl
  cases he
  obtain ⟨lc,ld,hl'⟩ := List.append_of_mem p2
  have hper' : (lc ++ (g,o2) :: ld).Perm ((lc ++ ld) ++ [(g,o2)]) := List.perm_middle.trans (List.perm_append_singleton _ _).symm
  have hF2 : Hd i' ((lc ++ ld) ++ (([(g,o2)] ++ (la ++ lb)) ++ fr)) w' := (Y.Z r4).perm r4 (by
   rw [hl']
   have := (hper'.append_right ((la ++ lb) ++ fr)).symm
   simpa [List.append_assoc] using this)
  refine ⟨S, [(g,o2)] ++ (la ++ lb),Who.le_refl S,fun _ _ => rfl,⟨fun b o hb => ?_,hS.inj,hS.lt,hS.an⟩,hd_drops Y hF2,?_⟩
  ·
   obtain ⟨gb,zb,eb,ob,u1,u2,u3,u4⟩ := hS.live b o hb
   by_cases hbc : b = c
   ·
    subst hbc
    rw [hs] at hb
    cases hb
    rw [q1] at u1
    cases u1
    exact ⟨g,z,e,o2,q1,by simp,p3.agree hcs fun b hb => by rw [hT b hb]; exact r2 b (.inl (by omega)),u4⟩
   ·
    rw [hl] at u2
    have hne : gb ≠ g := fun e' => hbc (hS.inj b c o _ _ _ hb hs u1 q1 e')
    refine ⟨gb,zb,eb,ob,u1,?_,u3,u4⟩
    rcases List.mem_append.1 u2 with u2 | u2
    ·
     simp [u2]
    ·
     rcases List.mem_cons.1 u2 with u2 | u2
     ·
      cases u2; exact absurd rfl hne
     ·
      simp [u2]
  ·
   rw [r5.sc hv]
   exact VR.of_sc hv
theorem Sound.cut {s' : AS} (hAn : ∀ b,s.nx ≤ b → An b = none) (ht : s.tame = true) (ha : args.toList.all (nmF s.nx) = true) (hnn : s.nx ≤ s'.nx)
  (h : ∀ S l fr i w args',(∀ b,s.nx ≤ b → S b = none) → Sim P KT An S s l → Hd i (l ++ fr) w → AR (VR S) args args' →
   CallsE P R D X f args' i w fun i' v' w' => ∃ S' l',S.le S' ∧ (∀ b,b < s.nx ∨ s'.nx ≤ b → S' b = S b) ∧ Sim P KT An S' s' l' ∧ Hd i' (l' ++ fr) w' ∧ VR S' v v') : Sound P KT An R D X Hd f args s v s' := by
 intro S l fr i w args' hS hF hA hfr
 rw [List.all_eq_true] at ha
 let T : Who := fun b => if b < s.nx then S b else none
 have hT : ∀ b,b < s.nx → S b = T b := fun b hb => by show S b = if b < s.nx then S b else none; rw [if_pos hb]
 have hT0 : ∀ b,s.nx ≤ b → T b = none := fun b hb => by show (if b < s.nx then S b else none) = none; rw [if_neg (by omega)]
 unfold AS.tame at ht
 have hsim : Sim P KT An T s l := by
  refine ⟨fun b o hb => ?_,fun b b' o o' x x' hb hb' hx hx' => ?_,hS.lt,fun b x hx => ?_⟩
  ·
   obtain ⟨g,z,e,o',q1,q2,q3,q4⟩ := hS.live b o hb
   refine ⟨g,z,e,o',(hT _ (hS.lt b o hb)).symm.trans q1,q2,?_,q4⟩
   have := zf1 ht (i := b) (hS.lt b o hb)
   rw [hb] at this
   cases o with
   | cells cs t fz => exact q3.agree this hT
   | _ => exact q3
  ·
   exact hS.inj b b' o o' x x' hb hb' ((hT _ (hS.lt b o hb)).trans hx) ((hT _ (hS.lt b' o' hb')).trans hx')
  ·
   by_cases hb : b < s.nx
   ·
    rw [← hT b hb]; exact hS.an b x hx
   ·
    rw [hAn b (by omega)] at hx; cases hx
 refine (h T l fr i w args' hT0 hsim hF ⟨hA.1,fun j x y hx hy => (hA.2 j x y hx hy).agreeF (ha x (by rw [Array.mem_toList_iff]; exact Array.mem_of_getElem? hx)) hT⟩).mono ?_
 rintro i' v' w' ⟨S',l',r1,r2,r3,r4,r5⟩
 let U : Who := fun b => if b < s'.nx then S' b else S b
 have hU1 : ∀ b,b < s'.nx → U b = S' b := fun b hb => by show (if b < s'.nx then S' b else S b) = S' b; rw [if_pos hb]
 have hU2 : ∀ b, ¬ b < s'.nx → U b = S b := fun b hb => by show (if b < s'.nx then S' b else S b) = S b; rw [if_neg hb]
 have hle : S'.le U := fun b x hx => by
  by_cases hb : b < s'.nx
  ·
   rw [hU1 b hb]; exact hx
  ·
   rw [r2 b (.inr (by omega)),hT0 b (by omega)] at hx; cases hx
 have hSU : ∀ b,b < s.nx ∨ s'.nx ≤ b → U b = S b := fun b hb => by
  by_cases hb' : b < s'.nx
  ·
   rw [hU1 b hb',r2 b (.inl (by omega)), ← hT b (by omega)]
  ·
   exact hU2 b hb'
 refine ⟨U,l',fun b x hx => ?_,hSU,⟨fun b o hb => ?_,fun b b' o o' x x' hb hb' hx hx' => ?_,r3.lt,Who.le_trans r3.an hle⟩,r4,r5.mono hle⟩
 ·
  by_cases h1 : b < s.nx
  ·
   rw [hSU b (.inl h1)]; exact hx
  ·
   by_cases h2 : b < s'.nx
   ·
    rw [hfr b (by omega) h2] at hx; cases hx
   ·
    rw [hU2 b h2]; exact hx
 ·
  obtain ⟨g,z,e,o',q1,q2,q3,q4⟩ := r3.live b o hb
  exact ⟨g,z,e,o',hle _ _ q1,q2,q3.mono hle,q4⟩
 ·
  exact r3.inj b b' o o' x x' hb hb' ((hU1 _ (r3.lt b o hb)).symm.trans hx) ((hU1 _ (r3.lt b' o' hb')).symm.trans hx')
def zi7 (f : FuncId) (ok : Array Value → AS → Option Value) (ev : Array Value → AS → Option (Value × AS)) (pr : Prim) : Prim := fun g => if g.beq f then some fun args s => match ok args s with
 | some v => some (v,s)
 | none => ev args s
 else pr g
theorem PrimOk.forget (Y : Cy P KT N0 M O R D X Hd) (hm : P.follows .mixedOrders = true) (hkt : ∀ t, kt t = false → ¬ KT t) (hnm : ∀ (f : FuncId) (f₀ : Func), P.funcs[f]? = some f₀ → (f₀.name == "runtime.NumGoroutine") = false) {k m : Nat} (hAn : ∀ b, k ≤ b → An b = none) (hp : PrimOk P KT An R D X Hd pr) {f : FuncId} {ok : Array Value → AS → Option Value}
  (hok : ∀ args s v,ok args s = some v → isSc v = true ∧ k ≤ s.nx ∧ args.toList.all (nmV s.nx) = true ∧ ∃ c cs t fz,s.get c = some (.cells cs t fz) ∧ cs.toList.all (nmV s.nx) = true ∧ ∀ s0 : AS,s0.nx = s.nx → s0.get c = some (.cells cs t fz) → ∃ s1,EF P kt pr f args s0 v s1 ∧ s1.get c = some (.cells cs t fz)) : PrimOk P KT An R D X Hd (zi7 f ok (zc7 P kt pr m f) pr) := by
 constructor
 ·
  intro g h args s v s' hf hh
  unfold zi7 at hf
  split at hf
  ·
   cases hf
   simp only at hh
   split at hh
   ·
    cases hh; exact Nat.le_refl _
   ·
    exact (ev_nx (P := P) (kt := kt) hp.nx m).2 _ _ _ _ _ hh
  ·
   exact hp.nx g h args s v s' hf hh
 ·
  intro g h args s v s' hf hh
  unfold zi7 at hf
  split at hf
  ·
   next he =>
   have he := Nat.eq_of_beq_eq_true he
   subst he
   cases hf
   simp only at hh
   split at hh
   ·
    next v' hv =>
    cases hh
    obtain ⟨h1,h2,h3,c,cs,t,fz,h4,h5,h6⟩ := hok _ _ _ hv
    have hg : ∀ b,((⟨[],s.nx⟩ : AS).set c (some (.cells cs t fz))).get b = if b = c then some (.cells cs t fz) else none := fun b => by
     rw [AS.get_set]
     split
     ·
      rfl
     ·
      unfold AS.get; simp
    obtain ⟨s1,⟨n,h7⟩,h8⟩ := h6 ((⟨[],s.nx⟩ : AS).set c (some (.cells cs t fz))) rfl (by rw [hg,if_pos rfl])
    exact Sound.aloneO Y hAn h2 h5 hg rfl h8 h4 h3 h1 ((ev_sound Y hm hkt hp hnm n).2 _ _ _ _ _ h7)
   ·
    exact (ev_sound Y hm hkt hp hnm m).2 _ _ _ _ _ hh
  ·
   exact hp.sound g h args s v s' hf hh
theorem EF.forget {ok : Array Value → AS → Option Value} {ev : Array Value → AS → Option (Value × AS)} (h : ok args s = some v) : EF P kt (zi7 f ok ev pr) f args s v s := by
 refine ⟨1,?_⟩
 unfold zc7 zi7
 simp [h]
theorem EF.given {g : Array Value → AS → Option (Value × AS)} {s1 : AS} (h : pr f = some g) (hg : g args s = some (v,s1)) : EF P kt pr f args s v s1 := by
 refine ⟨1,?_⟩
 unfold zc7
 rw [h]
 exact hg
end
end
set_option maxRecDepth 100000
set_option maxHeartbeats 2000000
section
open Go.Conc Go.RowKit
def RoundL (s : ByteArray) : Nat → List Int → Prop
 | k, [] => ¬ k < s.size
 | k,r :: rs => k < s.size ∧ r = ((Utf8.decode s k).1 : Int) ∧ RoundL s (k + (Utf8.decode s k).2) rs
structure HTx (N : Nat) (s : ByteArray) (w : World) : Prop where
 lv : w.heap[N + 3]? = some (.cells #[.chan (some (N + 2))] 158)
 pc : w.heap[N]? = some (.cells #[.string s] 9)
 wb : w.heap[N + 7]? = some (.cells #[.pointer (some ⟨N + 6,0,none⟩)] 240)
 bf : ∃ o,w.heap[N + 8]? = some o
structure HIx (N : Nat) (s : ByteArray) (g k : Nat) (w : World) : Prop where
 ht : HTx N s w
 it : w.heap[g]? = some (.stringIter s k)
 lo : N + 9 ≤ g
 hz : 16 ≤ s.size
section
variable {N Pb g k : Nat} {Shun : Loc → Prop} {val : Value} {B : Nat} {Mine : Loc → Prop} {w w₁ : World} {s : ByteArray}
variable [Go.ConcR.Payload] [Go.ConcX.Payload]
theorem HTx.rc (h : HTx N s w) (r : RC (kcfg prog N Pb Shun val B Mine) w w₁) : HTx N s w₁ :=
 ⟨(r _ (.inr (.inr (.inl rfl)))).trans h.lv,(r _ (.inl (.inl rfl))).trans h.pc,(r _ (.inr (.inr (.inr (.inr (.inl rfl)))))).trans h.wb,h.bf.imp fun _ ho => (r _ (.inr (.inr (.inr (.inr (.inr (.inl rfl))))))).trans ho⟩
theorem HTx.rely {i : Ix} (h : HTx N s w) (r : RKd (kcfg prog N Pb Shun val B Mine) i w w₁) : HTx N s w₁ := h.rc r.rc
theorem HTx.size (h : HTx N s w) : N + 9 ≤ w.heap.size := by
 obtain ⟨o,ho⟩ := h.bf
 have := (Array.getElem?_eq_some_iff.1 ho).1
 omega
theorem HIx.kid (h : HIx N s g k w) : (kcfg prog N Pb Shun val B Mine).Kid w g := .inr ⟨h.lo,_,h.it, .inr (.inr (by have := h.hz; show 1016 ≤ 1000 + s.size; omega))⟩
theorem HIx.rc (h : HIx N s g k w) (r : RC (kcfg prog N Pb Shun val B Mine) w w₁) : HIx N s g k w₁ := ⟨h.ht.rc r,(r _ (.inl h.kid)).trans h.it,h.lo,h.hz⟩
theorem HIx.rely {i : Ix} (h : HIx N s g k w) (r : RKd (kcfg prog N Pb Shun val B Mine) i w w₁) : HIx N s g k w₁ := h.rc r.rc
theorem HTx.alloc (h : HTx N s w) (hz : 16 ≤ s.size) : ∃ g,g = w.heap.size ∧ HIx N s g 0 (w.alloc (.stringIter s 0)) := by
 have hs := h.size
 refine ⟨_,rfl,⟨(zb7 _ _ (by omega)).trans h.lv,(zb7 _ _ (by omega)).trans h.pc,(zb7 _ _ (by omega)).trans h.wb,h.bf.imp fun _ ho => (zb7 _ _ (by omega)).trans ho⟩,heap_alloc_new w _,hs,hz⟩
theorem HIx.step (h : HIx N s g k w) (k' : Nat) : HIx N s g k' { w with heap := w.heap.setIfInBounds g (.stringIter s k') } := by
 have hlo := h.lo
 have off : ∀ b,b ≠ g → (w.heap.setIfInBounds g (.stringIter s k'))[b]? = w.heap[b]? := fun b hb => by simp [Array.getElem?_setIfInBounds,Ne.symm hb]
 have hlt := (Array.getElem?_eq_some_iff.1 h.it).1
 exact ⟨⟨(off _ (by omega)).trans h.ht.lv,(off _ (by omega)).trans h.ht.pc,(off _ (by omega)).trans h.ht.wb,h.ht.bf.imp fun _ ho => (off _ (by omega)).trans ho⟩,by simp [Array.getElem?_setIfInBounds,hlt],hlo,h.hz⟩
theorem dk_iter (h : HIx N s g k w) (k' : Nat) {es : Array Event} (he : ∀ e ∈ es,EvK (kcfg prog N Pb Shun val B Mine) { w with heap := w.heap.setIfInBounds g (.stringIter s k') } e) : DK (kcfg prog N Pb Shun val B Mine) w { w with heap := w.heap.setIfInBounds g (.stringIter s k') } es := by
 have hlo := h.lo
 have off : ∀ b,b ≠ g → (w.heap.setIfInBounds g (.stringIter s k'))[b]? = w.heap[b]? := fun b hb => by simp [Array.getElem?_setIfInBounds,Ne.symm hb]
 refine ⟨rfl,rfl,rfl,fun b _ hb => off b ?_,fun b hb => ?_,fun b h1 h2 => ?_,off _ (by show N ≠ g; omega),by simp,he⟩
 ·
  rintro rfl; exact hb h.kid
 ·
  by_cases e : b = g
  ·
   subst e; exact (h.step k').kid
  ·
   exact hb.of_same (off b e)
 ·
  simp at h2; omega
theorem sendG_x {H : World → Prop} (hrc : ∀ w w₁,RC (kcfg prog N Pb Shun val B Mine) w w₁ → H w → H w₁) (hlv : ∀ w,H w → w.heap[N + 3]? = some (.cells #[.chan (some (N + 2))] 158)) (hsz : ∀ w,H w → N + 9 ≤ w.heap.size) (hF : H w) (fr : Bool) (r : Int) (vs : List Value) :
  zj4 prog (XK (kcfg prog N Pb Shun val B Mine)) 113 #[.int .i32 r, .pointer (some ⟨N + 3,0,none⟩)] (fr, .int .i32 r :: vs) w (fun i' _ w' => i' = (false,vs) ∧ H w') := by
 have C : Closed prog false (RKd (kcfg prog N Pb Shun val B Mine)) (DK (kcfg prog N Pb Shun val B Mine)) (XK (kcfg prog N Pb Shun val B Mine)) := XK.closed (K := (kcfg prog N Pb Shun val B Mine))
 have T := zm0 (K := (kcfg prog N Pb Shun val B Mine))
 refine zf4 func113 (by rfl) rfl ?_
 simp only [ntmps113,List.size_toArray,List.length_cons,List.length_nil,Nat.reduceAdd,Nat.reduceSub,Array.replicate_succ,Array.replicate_zero,List.push_toArray,List.append_toArray,List.nil_append,List.cons_append]
 refine zb2 C T ?_
 simp only [szR,Nat.reduceAdd]
 refine za4 C rfl (by rfl) fun w₁ hR Kx hKx => ?_
 replace hF := hrc _ _ hR.rc hF
 clear hR
 have hc := cell1 (hlv _ hF)
 go_simp
 refine hKx _ _ ⟨?_,?_⟩
 ·
  refine dk_look ?_
  co_evs (exact evl_still (.inr (.inl rfl)))
 clear hKx Kx hc
 try walk_nrm
 refine za4 C rfl (by rfl) fun w₂ hR Kx hKx => ?_
 replace hF := hrc _ _ hR.rc hF
 clear hR
 go_simp
 refine hKx _ _ ⟨?_,?_⟩
 ·
  co_quiet (T (true, []))
 clear hKx Kx
 try walk_nrm
 refine opsX_send (K := (kcfg prog N Pb Shun val B Mine)) (v := .int .i32 r) rfl rfl (by rfl) rfl rfl rfl (fun w₃ h₃ => hsz _ (hrc _ _ h₃ hF)) fun w₃ h₃ => ?_
 replace hF := hrc _ _ h₃ hF
 refine zb5 C T ?_
 exact ⟨.inl rfl,rfl,_,resultsC_none (by rfl) _,rfl,hF⟩
def textV (N : Nat) : Value := .func (.func 85) #[] #[.pointer (some ⟨N,0,none⟩)]
theorem oftext1_x (hF : HTx N s w) (hz : 16 ≤ s.size) (ls : List Int) (hL : RoundL s 0 ls) :
  zj4 prog (XK (kcfg prog N Pb Shun (.string s) B Mine)) 85 #[sendV N, .pointer (some ⟨N,0,none⟩)] (true,V ls) w (fun i' _ w' => i'.2 = [] ∧ HE N (.string s) w') := by
 have C : Closed prog false (RKd (kcfg prog N Pb Shun (.string s) B Mine)) (DK (kcfg prog N Pb Shun (.string s) B Mine)) (XK (kcfg prog N Pb Shun (.string s) B Mine)) := XK.closed (K := (kcfg prog N Pb Shun (.string s) B Mine))
 have T := zm0 (K := (kcfg prog N Pb Shun (.string s) B Mine))
 have Tq := T (true, [])
 have rr := fun w => run_range (P := prog) (t := 9) (s := s) underlying9 w
 have re := fun w es => events_range (P := prog) (t := 9) (s := s) underlying9 w es
 refine zf4 func85 (by rfl) rfl ?_
 simp only [ntmps85,List.size_toArray,List.length_cons,List.length_nil,Nat.reduceAdd,Nat.reduceSub,Array.replicate_succ,Array.replicate_zero,List.push_toArray,List.append_toArray,List.nil_append,List.cons_append]
 refine zf5 C T ?_
 refine zb2 C T ?_
 simp only [szR,Nat.reduceAdd]
 refine za4 C rfl (by rfl) fun _ hR Kx hKx => ?_
 replace hF := HTx.rely hF hR
 clear hR
 have hc := cell1 hF.pc
 go_simp
 try (unfold stored; go_simp)
 refine hKx _ _ ⟨?_,?_⟩
 ·
  refine dk_look ?_
  co_evs (exact evl_kid)
 clear hKx Kx
 try walk_nrm
 clear hc
 refine za4 C rfl (by rfl) fun _ hR Kx hKx => ?_
 replace hF := HTx.rely hF hR
 clear hR
 simp only [execOp,Act.eval,Array.getD_eq_getD_getElem?,List.getElem?_toArray,List.getElem?_cons_succ,List.getElem?_cons_zero,Option.getD_some]
 go_simp
 refine hKx _ _ ⟨?_,?_⟩
 ·
  exact dk_allocO hF.size (.inr (.inr (by show 1016 ≤ 1000 + s.size; omega))) (by co_evs (skip))
 clear hKx Kx
 try walk_nrm
 obtain ⟨g,hg,hF⟩ := hF.alloc hz
 simp only [← hg]
 clear hg
 refine zb5 C T ?_
 show wpX _ _ _ _ _ _ _
 refine zh3 C T ?_
 refine wpX_loop C T (fun n i a w => ∃ k ls fr,n = ls.length ∧ RoundL s k ls ∧ i = (fr,V ls) ∧ HIx N s g k w ∧ ∃ x : Nat → Value,a = ⟨#[sendV N, .pointer (some ⟨N,0,none⟩),undef,undef,x 4, .string s, .pointer (some ⟨g,0,none⟩),x 7,x 8,x 9,x 10,x 11,x 12], []⟩) ls.length ⟨0,ls,true,rfl,hL,rfl,hF,fun _ => undef,rfl⟩ ?_
 clear hF hL ls
 rintro n i a w ⟨k,ls,fr,rfl,hL,rfl,hF,x,rfl⟩
 refine zf5 C T ?_
 refine zb2 C T ?_
 simp only [szR,Nat.reduceAdd]
 refine za4 C rfl (by rfl) fun _ hR Kx hKx => ?_
 replace hF := HIx.rely hF hR
 clear hR
 cases ls with
 | nil =>
  have hk : ¬ k < s.size := hL
  have r1 := fun t => run_next_end (P := prog) (t := t) hF.it hk
  have e1 := fun t => events_next_end (P := prog) (t := t) hF.it hk
  go_simp
  refine hKx _ _ ⟨?_,?_⟩
  ·
   refine dk_look ?_
   co_evs (exact .inr ⟨_,_,rfl,hF.kid⟩)
  clear hKx Kx r1 e1
  try walk_nrm
  refine za4 C rfl (by rfl) fun _ hR Kx hKx => ?_
  replace hF := HIx.rely hF hR
  clear hR
  go_simp
  refine hKx _ _ ⟨?_,?_⟩
  ·
   co_quiet Tq
  clear hKx Kx
  try walk_nrm
  refine zb5 C T ?_
  show wpX _ _ _ _ _ _ _
  refine zf5 C T ?_
  refine za9 C T (t := false) rfl ?_
  simp only [if_true,if_false,reduceIte,Bool.false_eq_true]
  refine wpX_exit C T ?_
  simp only [inBlockX,thenX,if_true]
  exact ⟨.inl trivial,trivial,_,resultsC_none (by rfl) _,rfl,⟨_,hF.ht.pc⟩,hF.ht.wb,hF.ht.bf⟩
 | cons r ls =>
  obtain ⟨hk,rfl,hL⟩ := hL
  have r1 := fun t => run_next (P := prog) (t := t) hF.it hk
  have e1 := fun t => events_next (P := prog) (t := t) hF.it hk
  go_simp
  refine hKx _ _ ⟨?_,?_⟩
  ·
   refine dk_iter hF _ ?_
   intro e he
   have hm := mem_listed he
   simp [go_sem, *] at hm
   rcases hm with rfl | rfl
   iterate 2
    ·
     exact .inr ⟨_,_,rfl,(hF.step _).kid⟩
  clear hKx Kx r1 e1
  try walk_nrm
  replace hF := hF.step (k + (Utf8.decode s k).2)
  refine za4 C rfl (by rfl) fun _ hR Kx hKx => ?_
  replace hF := HIx.rely hF hR
  clear hR
  go_simp
  refine hKx _ _ ⟨?_,?_⟩
  ·
   co_quiet Tq
  clear hKx Kx
  try walk_nrm
  refine zb5 C T ?_
  show wpX _ _ _ _ _ _ _
  refine zf5 C T ?_
  refine za9 C T (t := true) rfl ?_
  simp only [if_true,if_false,reduceIte,Bool.false_eq_true]
  refine zg0 C T ?_
  show wpX _ _ _ _ _ _ _
  refine zh3 C T ?_
  refine zf5 C T ?_
  refine zb2 C T ?_
  simp only [szR,Nat.reduceAdd]
  iterate 2
   refine za4 C rfl (by rfl) fun _ hR Kx hKx => ?_
   replace hF := HIx.rely hF hR
   clear hR
   go_simp
   refine hKx _ _ ⟨?_,?_⟩
   ·
    co_quiet Tq
   clear hKx Kx
   try walk_nrm
  refine zb5 C T ?_
  show wpX _ _ _ _ _ _ _
  refine zb2 C T ?_
  simp only [szR,Nat.reduceAdd]
  iterate 2
   refine za4 C rfl (by rfl) fun _ hR Kx hKx => ?_
   replace hF := HIx.rely hF hR
   clear hR
   go_simp
   refine hKx _ _ ⟨?_,?_⟩
   ·
    co_quiet Tq
   clear hKx Kx
   try walk_nrm
  refine zb4 C T rfl (by rfl) rfl rfl (by simp [Act.eval]) (by simp [V]) (sendG_x (H := HIx N s g (k + (Utf8.decode s k).2)) (fun _ _ r h => h.rc r) (fun _ h => h.ht.lv) (fun _ h => h.ht.size) hF fr ((Utf8.decode s k).1 : Int) (V ls)) ?_
  rintro _ _ _ ⟨rfl,hF⟩
  refine zb5 C T ?_
  exact ⟨ls.length,by simp,_,ls,false,rfl,hL,rfl,hF,fillT rfl⟩
end
end
end Go.Proofs.YtgcaionclkbehaaGreatDoor
