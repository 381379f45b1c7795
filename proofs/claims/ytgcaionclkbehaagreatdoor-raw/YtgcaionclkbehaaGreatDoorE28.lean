import Derived.Test.YtgcaionclkbehaaGreatDoorE17
set_option linter.all false
namespace Go.Proofs.YtgcaionclkbehaaGreatDoor
open Tryz
section
open Go.Conc Go.RowKit Go.Lib
def nmV (n : Nat) : Value → Bool
 | .pointer (some ⟨b,_,none⟩) => Nat.blt b n
 | .slice (some ⟨b,_,none⟩) _ _ => Nat.blt b n
 | v => isSc v
def nmF (n : Nat) : Value → Bool
 | .func _ x y => x.toList.all (nmV n) && y.toList.all (nmV n)
 | v => nmV n v
theorem blt_lt {a b : Nat} (h : Nat.blt a b = true) : a < b := by simpa [Nat.blt_eq] using h
theorem VR.agree {S S' : Who} {n : Nat} {x v : Value} (hn : nmV n x = true) (h : ∀ b,b < n → S b = S' b) (hr : VR S x v) : VR S' x v := by
 unfold nmV at hn
 split at hn
 ·
  obtain ⟨g,z,e,h1,rfl⟩ := hr.ptr
  exact VR.of_ptr ((h _ (blt_lt hn)).symm.trans h1)
 ·
  obtain ⟨d,hr⟩ := hr
  cases d with
  | zero => exact hr.elim
  | succ d =>
   obtain ⟨g,z,e,c',h1,h2⟩ := hr
   exact ⟨1,g,z,e,c',(h _ (blt_lt hn)).symm.trans h1,h2⟩
 ·
  rw [hr.sc hn]
  exact VR.of_sc hn
theorem OR.agree {S S' : Who} {n z : Nat} {cs : Array Value} {t : TypeId} {fz : Nat × Nat} {o' : Obj} (hn : cs.toList.all (nmV n) = true) (h : ∀ b,b < n → S b = S' b) (hr : OR S z (.cells cs t fz) o') : OR S' z (.cells cs t fz) o' := by
 rw [List.all_eq_true] at hn
 obtain ⟨cs',r1,r2,r3,r4⟩ := hr
 exact ⟨cs',r1,r2,r3,fun i x y hx hy => (r4 i x y hx hy).agree (hn x (by rw [Array.mem_toList_iff]; exact Array.mem_of_getElem? hx)) h⟩
theorem VD.agree {S S' : Who} {n d : Nat} {x v : Value} (hn : nmV n x = true) (h : ∀ b,b < n → S b = S' b) (hr : VD S d x v) : VD S' d x v := by
 cases d with
 | zero => exact hr.elim
 | succ d =>
  unfold nmV at hn
  split at hn
  ·
   obtain ⟨g,z,e,h1,h2⟩ := hr
   exact ⟨g,z,e,(h _ (blt_lt hn)).symm.trans h1,h2⟩
  ·
   obtain ⟨g,z,e,c',h1,h2⟩ := hr
   exact ⟨g,z,e,c',(h _ (blt_lt hn)).symm.trans h1,h2⟩
  ·
   have := VR.of_sc (S := S') hn
   have e := VR.sc hn ⟨d + 1,hr⟩
   subst e
   obtain ⟨d',hd'⟩ := this
   unfold VD
   split <;> first | exact ⟨hn,rfl⟩ | (simp [isSc] at hn)
theorem VR.agreeF {S S' : Who} {n : Nat} {x v : Value} (hn : nmF n x = true) (h : ∀ b,b < n → S b = S' b) (hr : VR S x v) : VR S' x v := by
 unfold nmF at hn
 split at hn
 ·
  obtain ⟨d,hr⟩ := hr
  cases d with
  | zero => exact hr.elim
  | succ d =>
   obtain ⟨x',y',h1,h2,h3⟩ := hr
   rw [Bool.and_eq_true,List.all_eq_true,List.all_eq_true] at hn
   refine ⟨d + 1,x',y',h1,⟨h2.1,fun i a b ha hb => (h2.2 i a b ha hb).agree (hn.1 a ?_) h⟩,⟨h3.1,fun i a b ha hb => (h3.2 i a b ha hb).agree (hn.2 a ?_) h⟩⟩
   iterate 2
    ·
     rw [Array.mem_toList_iff]; exact Array.mem_of_getElem? ha
 ·
  exact hr.agree hn h
def AS.tame (s : AS) : Bool := (List.range s.nx).all fun b => match s.get b with
 | some (.cells cs _ _) => cs.toList.all (nmV s.nx)
 | _ => true
section
variable {ι : Type} {P : Program} {KT : TypeId → Prop} {An : Who} {N0 : ι → Nat} {M : ι → World → Nat → Prop} {O : ι → Nat → Prop} {R : ι → World → World → Prop} {D : ι → World → World → Array Event → Prop} {X : ι → Goroutine → World → Prop} {Hd : ι → List (Nat × Obj) → World → Prop} {pr : Prim} {kt : TypeId → Bool} {f : FuncId} {args : Array Value} {s : AS} {v : Value}
theorem Sound.aloneO (Y : Cy P KT N0 M O R D X Hd) {k c : Nat} {s0 s1 : AS} {cs : Array Value} {t : TypeId} {fz : Nat × Nat} (hAn : ∀ b,k ≤ b → An b = none) (hk : k ≤ s.nx) (hcs : cs.toList.all (nmV s.nx) = true) (hs0 : ∀ b,s0.get b = if b = c then some (.cells cs t fz) else none) (hn0 : s0.nx = s.nx) (hs1 : s1.get c = some (.cells cs t fz)) (hs : s.get c = some (.cells cs t fz)) (ha : args.toList.all (nmV s.nx) = true) (hv : isSc v = true) (h : Sound P KT An R D X Hd f args s0 v s1) : Sound P KT An R D X Hd f args s v s := by
 intro S l fr i w args' hS hF hA hfr
 rw [List.all_eq_true] at ha
 obtain ⟨g,z,e,o',q1,q2,q3,q4⟩ := hS.live c _ hs
 have hcn := hS.lt c _ hs
 let T : Who := fun b => if b < s.nx then S b else none
 have hT : ∀ b,b < s.nx → S b = T b := fun b hb => by show S b = if b < s.nx then S b else none; rw [if_pos hb]
 obtain ⟨la,lb,hl⟩ := List.append_of_mem q2
 have hper : (la ++ (g,o') :: lb).Perm ([(g,o')] ++ (la ++ lb)) := List.perm_middle
 have hF' : Hd i ([(g,o')] ++ ((la ++ lb) ++ fr)) w := (Y.Z hF).perm hF (by
  rw [hl, ← List.append_assoc]
  exact (hper.append_right fr).symm)
 have hone : ∀ b o,s0.get b = some o → b = c ∧ o = .cells cs t fz := fun b o hb => by
  rw [hs0] at hb
  split at hb
  ·
   next e => cases hb; exact ⟨e,rfl⟩
  ·
   cases hb
 have hsim : Sim P KT An T s0 [(g,o')] := by
  refine ⟨fun b o hb => ?_,fun b b' o o' x x' hb hb' _ _ _ => by rw [(hone b o hb).1,(hone b' o' hb').1],fun b o hb => by rw [(hone b o hb).1,hn0]; exact hcn,fun b x hx => ?_⟩
  ·
   obtain ⟨rfl,rfl⟩ := hone b o hb
   exact ⟨g,z,e,o',(hT _ hcn).symm.trans q1,by simp,q3.agree hcs hT,q4⟩
  ·
   by_cases hb : b < s.nx
   ·
    rw [← hT b hb]; exact hS.an b x hx
   ·
    rw [hAn b (by omega)] at hx; cases hx
 refine (h T [(g,o')] ((la ++ lb) ++ fr) i w args' hsim hF' ⟨hA.1,fun j x y hx hy => (hA.2 j x y hx hy).agree (ha x (by rw [Array.mem_toList_iff]; exact Array.mem_of_getElem? hx)) hT⟩ fun b hb _ => ?_).mono ?_
 ·
  show (if b < s.nx then S b else none) = none
  rw [if_neg (by omega)]
 ·
  rintro i' v' w' ⟨S',l',r1,r2,r3,r4,r5⟩
  obtain ⟨g2,z2,e2,o2,p1,p2,p3,p4⟩ := r3.live c _ hs1
  have he : (g2,z2,e2) = (g,z,e) := by have := r1 _ _ ((hT _ hcn).symm.trans q1); rw [p1] at this; cases this; rfl
  cases he
  obtain ⟨lc,ld,hl'⟩ := List.append_of_mem p2
  have hper' : (lc ++ (g,o2) :: ld).Perm ((lc ++ ld) ++ [(g,o2)]) := List.perm_middle.trans (List.perm_append_singleton _ _).symm
  have hF2 : Hd i' ((lc ++ ld) ++ (([(g,o2)] ++ (la ++ lb)) ++ fr)) w' := (Y.Z r4).perm r4 (by
   rw [hl']
   have := (hper'.append_right ((la ++ lb) ++ fr)).symm
   simpa [List.append_assoc] using this)
  refine ⟨S, [(g,o2)] ++ (la ++ lb),Who.le_refl S,fun _ _ => rfl,⟨fun b o hb => ?_,hS.inj,hS.lt,hS.an⟩,hd_drops Y hF2,?_⟩
  ·
   obtain ⟨gb,zb,eb,ob,u1,u2,u3,u4⟩ := hS.live b o hb
   by_cases hbc : b = c
   ·
    subst hbc
    rw [hs] at hb
    cases hb
    rw [q1] at u1
    cases u1
    exact ⟨g,z,e,o2,q1,by simp,p3.agree hcs fun b hb => by rw [hT b hb]; exact r2 b (.inl (by omega)),u4⟩
   ·
    rw [hl] at u2
    have hne : gb ≠ g := fun e' => hbc (hS.inj b c o _ _ _ hb hs u1 q1 e')
    refine ⟨gb,zb,eb,ob,u1,?_,u3,u4⟩
    rcases List.mem_append.1 u2 with u2 | u2
    ·
     simp [u2]
    ·
     rcases List.mem_cons.1 u2 with u2 | u2
     ·
      cases u2; exact absurd rfl hne
     ·
      simp [u2]
  ·
   rw [r5.sc hv]
   exact VR.of_sc hv
theorem Sound.cut {s' : AS} (hAn : ∀ b,s.nx ≤ b → An b = none) (ht : s.tame = true) (ha : args.toList.all (nmF s.nx) = true) (hnn : s.nx ≤ s'.nx)
  (h : ∀ S l fr i w args',(∀ b,s.nx ≤ b → S b = none) → Sim P KT An S s l → Hd i (l ++ fr) w → AR (VR S) args args' →
   CallsE P R D X f args' i w fun i' v' w' => ∃ S' l',S.le S' ∧ (∀ b,b < s.nx ∨ s'.nx ≤ b → S' b = S b) ∧ Sim P KT An S' s' l' ∧ Hd i' (l' ++ fr) w' ∧ VR S' v v') : Sound P KT An R D X Hd f args s v s' := by
 intro S l fr i w args' hS hF hA hfr
 rw [List.all_eq_true] at ha
 let T : Who := fun b => if b < s.nx then S b else none
 have hT : ∀ b,b < s.nx → S b = T b := fun b hb => by show S b = if b < s.nx then S b else none; rw [if_pos hb]
 have hT0 : ∀ b,s.nx ≤ b → T b = none := fun b hb => by show (if b < s.nx then S b else none) = none; rw [if_neg (by omega)]
 unfold AS.tame at ht
 have hsim : Sim P KT An T s l := by
  refine ⟨fun b o hb => ?_,fun b b' o o' x x' hb hb' hx hx' => ?_,hS.lt,fun b x hx => ?_⟩
  ·
   obtain ⟨g,z,e,o',q1,q2,q3,q4⟩ := hS.live b o hb
   refine ⟨g,z,e,o',(hT _ (hS.lt b o hb)).symm.trans q1,q2,?_,q4⟩
   have := zf2 ht (i := b) (hS.lt b o hb)
   rw [hb] at this
   cases o with
   | cells cs t fz => exact q3.agree this hT
   | _ => exact q3
  ·
   exact hS.inj b b' o o' x x' hb hb' ((hT _ (hS.lt b o hb)).trans hx) ((hT _ (hS.lt b' o' hb')).trans hx')
  ·
   by_cases hb : b < s.nx
   ·
    rw [← hT b hb]; exact hS.an b x hx
   ·
    rw [hAn b (by omega)] at hx; cases hx
 refine (h T l fr i w args' hT0 hsim hF ⟨hA.1,fun j x y hx hy => (hA.2 j x y hx hy).agreeF (ha x (by rw [Array.mem_toList_iff]; exact Array.mem_of_getElem? hx)) hT⟩).mono ?_
 rintro i' v' w' ⟨S',l',r1,r2,r3,r4,r5⟩
 let U : Who := fun b => if b < s'.nx then S' b else S b
 have hU1 : ∀ b,b < s'.nx → U b = S' b := fun b hb => by show (if b < s'.nx then S' b else S b) = S' b; rw [if_pos hb]
 have hU2 : ∀ b, ¬ b < s'.nx → U b = S b := fun b hb => by show (if b < s'.nx then S' b else S b) = S b; rw [if_neg hb]
 have hle : S'.le U := fun b x hx => by
  by_cases hb : b < s'.nx
  ·
   rw [hU1 b hb]; exact hx
  ·
   rw [r2 b (.inr (by omega)),hT0 b (by omega)] at hx; cases hx
 have hSU : ∀ b,b < s.nx ∨ s'.nx ≤ b → U b = S b := fun b hb => by
  by_cases hb' : b < s'.nx
  ·
   rw [hU1 b hb',r2 b (.inl (by omega)), ← hT b (by omega)]
  ·
   exact hU2 b hb'
 refine ⟨U,l',fun b x hx => ?_,hSU,⟨fun b o hb => ?_,fun b b' o o' x x' hb hb' hx hx' => ?_,r3.lt,Who.le_trans r3.an hle⟩,r4,r5.mono hle⟩
 ·
  by_cases h1 : b < s.nx
  ·
   rw [hSU b (.inl h1)]; exact hx
  ·
   by_cases h2 : b < s'.nx
   ·
    rw [hfr b (by omega) h2] at hx; cases hx
   ·
    rw [hU2 b h2]; exact hx
 ·
  obtain ⟨g,z,e,o',q1,q2,q3,q4⟩ := r3.live b o hb
  exact ⟨g,z,e,o',hle _ _ q1,q2,q3.mono hle,q4⟩
 ·
  exact r3.inj b b' o o' x x' hb hb' ((hU1 _ (r3.lt b o hb)).symm.trans hx) ((hU1 _ (r3.lt b' o' hb')).symm.trans hx')
def zc9 (f : FuncId) (ok : Array Value → AS → Option Value) (ev : Array Value → AS → Option (Value × AS)) (pr : Prim) : Prim := fun g => if g.beq f then some fun args s => match ok args s with
 | some v => some (v,s)
 | none => ev args s
 else pr g
theorem PrimOk.forget (Y : Cy P KT N0 M O R D X Hd) (hm : P.follows .mixedOrders = true) (hkt : ∀ t, kt t = false → ¬ KT t) (hnm : ∀ (f : FuncId) (f₀ : Func), P.funcs[f]? = some f₀ → (f₀.name == "runtime.NumGoroutine") = false) {k m : Nat} (hAn : ∀ b, k ≤ b → An b = none) (hp : PrimOk P KT An R D X Hd pr) {f : FuncId} {ok : Array Value → AS → Option Value}
  (hok : ∀ args s v,ok args s = some v → isSc v = true ∧ k ≤ s.nx ∧ args.toList.all (nmV s.nx) = true ∧ ∃ c cs t fz,s.get c = some (.cells cs t fz) ∧ cs.toList.all (nmV s.nx) = true ∧ ∀ s0 : AS,s0.nx = s.nx → s0.get c = some (.cells cs t fz) → ∃ s1,EF P kt pr f args s0 v s1 ∧ s1.get c = some (.cells cs t fz)) : PrimOk P KT An R D X Hd (zc9 f ok (zb8 P kt pr m f) pr) := by
 constructor
 ·
  intro g h args s v s' hf hh
  unfold zc9 at hf
  split at hf
  ·
   cases hf
   simp only at hh
   split at hh
   ·
    cases hh; exact Nat.le_refl _
   ·
    exact (ev_nx (P := P) (kt := kt) hp.nx m).2 _ _ _ _ _ hh
  ·
   exact hp.nx g h args s v s' hf hh
 ·
  intro g h args s v s' hf hh
  unfold zc9 at hf
  split at hf
  ·
   next he =>
   have he := Nat.eq_of_beq_eq_true he
   subst he
   cases hf
   simp only at hh
   split at hh
   ·
    next v' hv =>
    cases hh
    obtain ⟨h1,h2,h3,c,cs,t,fz,h4,h5,h6⟩ := hok _ _ _ hv
    have hg : ∀ b,((⟨[],s.nx⟩ : AS).set c (some (.cells cs t fz))).get b = if b = c then some (.cells cs t fz) else none := fun b => by
     rw [AS.get_set]
     split
     ·
      rfl
     ·
      unfold AS.get; simp
    obtain ⟨s1,⟨n,h7⟩,h8⟩ := h6 ((⟨[],s.nx⟩ : AS).set c (some (.cells cs t fz))) rfl (by rw [hg,if_pos rfl])
    exact Sound.aloneO Y hAn h2 h5 hg rfl h8 h4 h3 h1 ((ev_sound Y hm hkt hp hnm n).2 _ _ _ _ _ h7)
   ·
    exact (ev_sound Y hm hkt hp hnm m).2 _ _ _ _ _ hh
  ·
   exact hp.sound g h args s v s' hf hh
theorem EF.forget {ok : Array Value → AS → Option Value} {ev : Array Value → AS → Option (Value × AS)} (h : ok args s = some v) : EF P kt (zc9 f ok ev pr) f args s v s := by
 refine ⟨1,?_⟩
 unfold zb8 zc9
 simp [h]
theorem EF.given {g : Array Value → AS → Option (Value × AS)} {s1 : AS} (h : pr f = some g) (hg : g args s = some (v,s1)) : EF P kt pr f args s v s1 := by
 refine ⟨1,?_⟩
 unfold zb8
 rw [h]
 exact hg
end
end
set_option maxRecDepth 100000
set_option maxHeartbeats 2000000
section
open Go.Conc Go.RowKit
def RoundL (s : ByteArray) : Nat → List Int → Prop
 | k, [] => ¬ k < s.size
 | k,r :: rs => k < s.size ∧ r = ((Utf8.decode s k).1 : Int) ∧ RoundL s (k + (Utf8.decode s k).2) rs
structure HTx (N : Nat) (s : ByteArray) (w : World) : Prop where
 lv : w.heap[N + 3]? = some (.cells #[.chan (some (N + 2))] 158)
 pc : w.heap[N]? = some (.cells #[.string s] 9)
 wb : w.heap[N + 7]? = some (.cells #[.pointer (some ⟨N + 6,0,none⟩)] 240)
 bf : ∃ o,w.heap[N + 8]? = some o
structure HIx (N : Nat) (s : ByteArray) (g k : Nat) (w : World) : Prop where
 ht : HTx N s w
 it : w.heap[g]? = some (.stringIter s k)
 lo : N + 9 ≤ g
 hz : 16 ≤ s.size
section
variable {N Pb g k : Nat} {Shun : Loc → Prop} {val : Value} {B : Nat} {Mine : Loc → Prop} {w w₁ : World} {s : ByteArray}
variable [Go.ConcR.Payload] [Go.ConcX.Payload]
theorem HTx.rc (h : HTx N s w) (r : RC (kcfg prog N Pb Shun val B Mine) w w₁) : HTx N s w₁ :=
 ⟨(r _ (.inr (.inr (.inl rfl)))).trans h.lv,(r _ (.inl (.inl rfl))).trans h.pc,(r _ (.inr (.inr (.inr (.inr (.inl rfl)))))).trans h.wb,h.bf.imp fun _ ho => (r _ (.inr (.inr (.inr (.inr (.inr (.inl rfl))))))).trans ho⟩
theorem HTx.rely {i : Ix} (h : HTx N s w) (r : RKd (kcfg prog N Pb Shun val B Mine) i w w₁) : HTx N s w₁ := h.rc r.rc
theorem HTx.size (h : HTx N s w) : N + 9 ≤ w.heap.size := by
 obtain ⟨o,ho⟩ := h.bf
 have := (Array.getElem?_eq_some_iff.1 ho).1
 omega
theorem HIx.kid (h : HIx N s g k w) : (kcfg prog N Pb Shun val B Mine).Kid w g := .inr ⟨h.lo,_,h.it, .inr (.inr (by have := h.hz; show 1016 ≤ 1000 + s.size; omega))⟩
theorem HIx.rc (h : HIx N s g k w) (r : RC (kcfg prog N Pb Shun val B Mine) w w₁) : HIx N s g k w₁ := ⟨h.ht.rc r,(r _ (.inl h.kid)).trans h.it,h.lo,h.hz⟩
theorem HIx.rely {i : Ix} (h : HIx N s g k w) (r : RKd (kcfg prog N Pb Shun val B Mine) i w w₁) : HIx N s g k w₁ := h.rc r.rc
theorem HTx.alloc (h : HTx N s w) (hz : 16 ≤ s.size) : ∃ g,g = w.heap.size ∧ HIx N s g 0 (w.alloc (.stringIter s 0)) := by
 have hs := h.size
 refine ⟨_,rfl,⟨(zb9 _ _ (by omega)).trans h.lv,(zb9 _ _ (by omega)).trans h.pc,(zb9 _ _ (by omega)).trans h.wb,h.bf.imp fun _ ho => (zb9 _ _ (by omega)).trans ho⟩,heap_alloc_new w _,hs,hz⟩
theorem HIx.step (h : HIx N s g k w) (k' : Nat) : HIx N s g k' { w with heap := w.heap.setIfInBounds g (.stringIter s k') } := by
 have hlo := h.lo
 have off : ∀ b,b ≠ g → (w.heap.setIfInBounds g (.stringIter s k'))[b]? = w.heap[b]? := fun b hb => by simp [Array.getElem?_setIfInBounds,Ne.symm hb]
 have hlt := (Array.getElem?_eq_some_iff.1 h.it).1
 exact ⟨⟨(off _ (by omega)).trans h.ht.lv,(off _ (by omega)).trans h.ht.pc,(off _ (by omega)).trans h.ht.wb,h.ht.bf.imp fun _ ho => (off _ (by omega)).trans ho⟩,by simp [Array.getElem?_setIfInBounds,hlt],hlo,h.hz⟩
theorem dk_iter (h : HIx N s g k w) (k' : Nat) {es : Array Event} (he : ∀ e ∈ es,EvK (kcfg prog N Pb Shun val B Mine) { w with heap := w.heap.setIfInBounds g (.stringIter s k') } e) : DK (kcfg prog N Pb Shun val B Mine) w { w with heap := w.heap.setIfInBounds g (.stringIter s k') } es := by
 have hlo := h.lo
 have off : ∀ b,b ≠ g → (w.heap.setIfInBounds g (.stringIter s k'))[b]? = w.heap[b]? := fun b hb => by simp [Array.getElem?_setIfInBounds,Ne.symm hb]
 refine ⟨rfl,rfl,rfl,fun b _ hb => off b ?_,fun b hb => ?_,fun b h1 h2 => ?_,off _ (by show N ≠ g; omega),by simp,he⟩
 ·
  rintro rfl; exact hb h.kid
 ·
  by_cases e : b = g
  ·
   subst e; exact (h.step k').kid
  ·
   exact hb.of_same (off b e)
 ·
  simp at h2; omega
theorem sendG_x {H : World → Prop} (hrc : ∀ w w₁,RC (kcfg prog N Pb Shun val B Mine) w w₁ → H w → H w₁) (hlv : ∀ w,H w → w.heap[N + 3]? = some (.cells #[.chan (some (N + 2))] 158)) (hsz : ∀ w,H w → N + 9 ≤ w.heap.size) (hF : H w) (fr : Bool) (r : Int) (vs : List Value) :
  zj8 prog (XK (kcfg prog N Pb Shun val B Mine)) 113 #[.int .i32 r, .pointer (some ⟨N + 3,0,none⟩)] (fr, .int .i32 r :: vs) w (fun i' _ w' => i' = (false,vs) ∧ H w') := by
 have C : Closed prog false (RKd (kcfg prog N Pb Shun val B Mine)) (DK (kcfg prog N Pb Shun val B Mine)) (XK (kcfg prog N Pb Shun val B Mine)) := XK.closed (K := (kcfg prog N Pb Shun val B Mine))
 have T := zm6 (K := (kcfg prog N Pb Shun val B Mine))
 refine zf5 func113 (by rfl) rfl ?_
 simp only [ntmps113,List.size_toArray,List.length_cons,List.length_nil,Nat.reduceAdd,Nat.reduceSub,Array.replicate_succ,Array.replicate_zero,List.push_toArray,List.append_toArray,List.nil_append,List.cons_append]
 refine zb2 C T ?_
 simp only [szR,Nat.reduceAdd]
 refine za4 C rfl (by rfl) fun w₁ hR Kx hKx => ?_
 replace hF := hrc _ _ hR.rc hF
 clear hR
 have hc := cell1 (hlv _ hF)
 go_simp
 refine hKx _ _ ⟨?_,?_⟩
 ·
  refine dk_look ?_
  co_evs (exact evl_still (.inr (.inl rfl)))
 clear hKx Kx hc
 try walk_nrm
 refine za4 C rfl (by rfl) fun w₂ hR Kx hKx => ?_
 replace hF := hrc _ _ hR.rc hF
 clear hR
 go_simp
 refine hKx _ _ ⟨?_,?_⟩
 ·
  co_quiet (T (true, []))
 clear hKx Kx
 try walk_nrm
 refine opsX_send (K := (kcfg prog N Pb Shun val B Mine)) (v := .int .i32 r) rfl rfl (by rfl) rfl rfl rfl (fun w₃ h₃ => hsz _ (hrc _ _ h₃ hF)) fun w₃ h₃ => ?_
 replace hF := hrc _ _ h₃ hF
 refine zb6 C T ?_
 exact ⟨.inl rfl,rfl,_,resultsC_none (by rfl) _,rfl,hF⟩
def textV (N : Nat) : Value := .func (.func 85) #[] #[.pointer (some ⟨N,0,none⟩)]
theorem oftext1_x (hF : HTx N s w) (hz : 16 ≤ s.size) (ls : List Int) (hL : RoundL s 0 ls) :
  zj8 prog (XK (kcfg prog N Pb Shun (.string s) B Mine)) 85 #[sendV N, .pointer (some ⟨N,0,none⟩)] (true,V ls) w (fun i' _ w' => i'.2 = [] ∧ HE N (.string s) w') := by
 have C : Closed prog false (RKd (kcfg prog N Pb Shun (.string s) B Mine)) (DK (kcfg prog N Pb Shun (.string s) B Mine)) (XK (kcfg prog N Pb Shun (.string s) B Mine)) := XK.closed (K := (kcfg prog N Pb Shun (.string s) B Mine))
 have T := zm6 (K := (kcfg prog N Pb Shun (.string s) B Mine))
 have Tq := T (true, [])
 have rr := fun w => run_range (P := prog) (t := 9) (s := s) underlying9 w
 have re := fun w es => events_range (P := prog) (t := 9) (s := s) underlying9 w es
 refine zf5 func85 (by rfl) rfl ?_
 simp only [ntmps85,List.size_toArray,List.length_cons,List.length_nil,Nat.reduceAdd,Nat.reduceSub,Array.replicate_succ,Array.replicate_zero,List.push_toArray,List.append_toArray,List.nil_append,List.cons_append]
 refine zf6 C T ?_
 refine zb2 C T ?_
 simp only [szR,Nat.reduceAdd]
 refine za4 C rfl (by rfl) fun _ hR Kx hKx => ?_
 replace hF := HTx.rely hF hR
 clear hR
 have hc := cell1 hF.pc
 go_simp
 try (unfold stored; go_simp)
 refine hKx _ _ ⟨?_,?_⟩
 ·
  refine dk_look ?_
  co_evs (exact evl_kid)
 clear hKx Kx
 try walk_nrm
 clear hc
 refine za4 C rfl (by rfl) fun _ hR Kx hKx => ?_
 replace hF := HTx.rely hF hR
 clear hR
 simp only [execOp,Act.eval,Array.getD_eq_getD_getElem?,List.getElem?_toArray,List.getElem?_cons_succ,List.getElem?_cons_zero,Option.getD_some]
 go_simp
 refine hKx _ _ ⟨?_,?_⟩
 ·
  exact dk_allocO hF.size (.inr (.inr (by show 1016 ≤ 1000 + s.size; omega))) (by co_evs (skip))
 clear hKx Kx
 try walk_nrm
 obtain ⟨g,hg,hF⟩ := hF.alloc hz
 simp only [← hg]
 clear hg
 refine zb6 C T ?_
 show wpX _ _ _ _ _ _ _
 refine zh9 C T ?_
 refine wpX_loop C T (fun n i a w => ∃ k ls fr,n = ls.length ∧ RoundL s k ls ∧ i = (fr,V ls) ∧ HIx N s g k w ∧ ∃ x : Nat → Value,a = ⟨#[sendV N, .pointer (some ⟨N,0,none⟩),undef,undef,x 4, .string s, .pointer (some ⟨g,0,none⟩),x 7,x 8,x 9,x 10,x 11,x 12], []⟩) ls.length ⟨0,ls,true,rfl,hL,rfl,hF,fun _ => undef,rfl⟩ ?_
 clear hF hL ls
 rintro n i a w ⟨k,ls,fr,rfl,hL,rfl,hF,x,rfl⟩
 refine zf6 C T ?_
 refine zb2 C T ?_
 simp only [szR,Nat.reduceAdd]
 refine za4 C rfl (by rfl) fun _ hR Kx hKx => ?_
 replace hF := HIx.rely hF hR
 clear hR
 cases ls with
 | nil =>
  have hk : ¬ k < s.size := hL
  have r1 := fun t => run_next_end (P := prog) (t := t) hF.it hk
  have e1 := fun t => events_next_end (P := prog) (t := t) hF.it hk
  go_simp
  refine hKx _ _ ⟨?_,?_⟩
  ·
   refine dk_look ?_
   co_evs (exact .inr ⟨_,_,rfl,hF.kid⟩)
  clear hKx Kx r1 e1
  try walk_nrm
  refine za4 C rfl (by rfl) fun _ hR Kx hKx => ?_
  replace hF := HIx.rely hF hR
  clear hR
  go_simp
  refine hKx _ _ ⟨?_,?_⟩
  ·
   co_quiet Tq
  clear hKx Kx
  try walk_nrm
  refine zb6 C T ?_
  show wpX _ _ _ _ _ _ _
  refine zf6 C T ?_
  refine zb0 C T (t := false) rfl ?_
  simp only [if_true,if_false,reduceIte,Bool.false_eq_true]
  refine wpX_exit C T ?_
  simp only [inBlockX,thenX,if_true]
  exact ⟨.inl trivial,trivial,_,resultsC_none (by rfl) _,rfl,⟨_,hF.ht.pc⟩,hF.ht.wb,hF.ht.bf⟩
 | cons r ls =>
  obtain ⟨hk,rfl,hL⟩ := hL
  have r1 := fun t => run_next (P := prog) (t := t) hF.it hk
  have e1 := fun t => events_next (P := prog) (t := t) hF.it hk
  go_simp
  refine hKx _ _ ⟨?_,?_⟩
  ·
   refine dk_iter hF _ ?_
   intro e he
   have hm := mem_listed he
   simp [go_sem, *] at hm
   rcases hm with rfl | rfl
   iterate 2
    ·
     exact .inr ⟨_,_,rfl,(hF.step _).kid⟩
  clear hKx Kx r1 e1
  try walk_nrm
  replace hF := hF.step (k + (Utf8.decode s k).2)
  refine za4 C rfl (by rfl) fun _ hR Kx hKx => ?_
  replace hF := HIx.rely hF hR
  clear hR
  go_simp
  refine hKx _ _ ⟨?_,?_⟩
  ·
   co_quiet Tq
  clear hKx Kx
  try walk_nrm
  refine zb6 C T ?_
  show wpX _ _ _ _ _ _ _
  refine zf6 C T ?_
  refine zb0 C T (t := true) rfl ?_
  simp only [if_true,if_false,reduceIte,Bool.false_eq_true]
  refine zg3 C T ?_
  show wpX _ _ _ _ _ _ _
  refine zh9 C T ?_
  refine zf6 C T ?_
  refine zb2 C T ?_
  simp only [szR,Nat.reduceAdd]
  iterate 2
   refine za4 C rfl (by rfl) fun _ hR Kx hKx => ?_
   replace hF := HIx.rely hF hR
   clear hR
   go_simp
   refine hKx _ _ ⟨?_,?_⟩
   ·
    co_quiet Tq
   clear hKx Kx
   try walk_nrm
  refine zb6 C T ?_
  show wpX _ _ _ _ _ _ _
  refine zb2 C T ?_
  simp only [szR,Nat.reduceAdd]
  iterate 2
   refine za4 C rfl (by rfl) fun _ hR Kx hKx => ?_
   replace hF := HIx.rely hF hR
   clear hR
   go_simp
   refine hKx _ _ ⟨?_,?_⟩
   ·
    co_quiet Tq
   clear hKx Kx
   try walk_nrm
  refine zb4 C T rfl (by rfl) rfl rfl (by simp [Act.eval]) (by simp [V]) (sendG_x (H := HIx N s g (k + (Utf8.decode s k).2)) (fun _ _ r h => h.rc r) (fun _ h => h.ht.lv) (fun _ h => h.ht.size) hF fr ((Utf8.decode s k).1 : Int) (V ls)) ?_
  rintro _ _ _ ⟨rfl,hF⟩
  refine zb6 C T ?_
  exact ⟨ls.length,by simp,_,ls,false,rfl,hL,rfl,hF,fillT rfl⟩
end
end
set_option maxRecDepth 100000
set_option maxHeartbeats 2000000
section
open Go.Conc Go.RowKit Go.Lib
section
variable {w₀ w w₁ : World} {Post : Value → World → Prop} {S : Nat → Prop} {N Pb cp : Nat} {s : ByteArray}
theorem kid_txG (H : HRun w₀ N (N + 1) S) (hz : 16 ≤ s.size) {ls : List Int} (hL : RoundL s 0 ls) (Shun : Loc → Prop) (w : World) [Go.ConcR.Payload] [Go.ConcX.Payload] (hF : He w₀ (objs9 N (.string s) 9 (textV N)) w) : XK (kcfg prog N (N + 1) (shunE N Shun) (.string s) (N + 9) (fun _ => False)) (true,V ls) (born prog (callGo N)) w := by
 obtain rfl := H.size
 have hB : HB w₀.heap.size (textV w₀.heap.size) w := ⟨hF.blocks 1 _ rfl,hF.blocks 3 _ rfl,hF.blocks 5 _ rfl,hF.blocks 7 _ rfl,hF.blocks 8 _ rfl⟩
 have hQ : HTx w₀.heap.size s w := ⟨hF.blocks 3 _ rfl,hF.blocks 0 _ rfl,hF.blocks 7 _ rfl,⟨_,hF.blocks 8 _ rfl⟩⟩
 refine kid_x hB fun w₁ r => ?_
 have := oftext1_x (Pb := w₀.heap.size + 1) (Shun := shunE w₀.heap.size Shun) (B := w₀.heap.size + 9) (Mine := fun _ => False) (hQ.rc r) hz ls hL
 simpa using this
theorem oftextG_x {A Fw : World → Prop} {I : Nat → World → Prop} {f : FuncId} {cap : Array Value} (H : HRun w₀ N (N + 1) S) (hz : 16 ≤ s.size) {ls : List Int} (hL : RoundL s 0 ls) (hln : ls.length ≤ 1000000)
  (hcl : ∀ Shun : Loc → Prop,(∀ l,Shun l → ∃ ad : Addr,l = .cell ad ∧ S ad.block) → Client (kcfg prog N (N + 1) (shunE N Shun) (.string s) (N + 9) (fun _ => False)) N ls f cap A Fw I) (hA0 : ∀ w,He w₀ (objs9 N (.string s) 9 (textV N)) w → A w) (hFa : ∀ w w₁,Go.ConcX.Aside2 N (N + 6) w w₁ → Fw w → Fw w₁) :
  CallsI prog (ZI prog Post 0) 47 #[.string s, .func (.func f) #[] cap] S w₀ (fun S' x w' => x = .tuple #[] ∧ S' = SE N S ∧ Fw w' ∧ w'.heap[N + 6]? = some (.cells #[.int .u64 0, .int .u32 0] 169)) := by
 have C : ClosedI prog true (fun _ : Nat → Prop => AtRel) DZ (ZI prog Post 0) := ZI.closed
 have T : ∀ S,Terms AtRel (DZ S) := termsS
 have bx := fun w v => box_run prog w 9 v
 have be := fun w v es => zk2 prog w 9 v es
 have mk : ∀ w es,(Instr.makeFunc (Fn.func 85) #[] #[Value.pointer (some ⟨N,0,none⟩)]).events prog w es = es := fun w es => by simp [Instr.makeFunc]
 obtain rfl := H.size
 have hF := He.start w₀
 refine zc2 func47 (by rfl) rfl ?_
 simp only [ntmps47,List.size_toArray,List.length_cons,List.length_nil,Nat.reduceAdd,Nat.reduceSub,Array.replicate_succ,Array.replicate_zero,List.push_toArray,List.append_toArray,List.nil_append,List.cons_append]
 refine za5 C T ?_
 refine za2 C T ?_
 simp only [szR,Nat.reduceAdd]
 refine za0 C rfl (by rfl) fun _ hR Kx hKx => ?_
 replace hF := He.rely hF hR
 clear hR
 go_simp
 try (unfold stored; go_simp)
 refine hKx _ _ ⟨?_,?_⟩
 ·
  intro e he
  have hm := mem_listed he
  simp [go_sem, *] at hm
 clear hKx Kx
 try walk_nrm
 have hsz := hF.size
 simp only [List.length_cons,List.length_nil,Nat.reduceAdd,Nat.add_zero,Nat.zero_add] at hsz
 simp only [hsz]
 clear hsz
 replace hF := hF.alloc (.cells #[.string s] 9)
 simp only [List.cons_append,List.nil_append] at hF
 refine za3 C T ?_
 show wpI _ _ _ _ _ _ _
 refine za2 C T ?_
 simp only [szR,Nat.reduceAdd]
 refine za0 C rfl (by rfl) fun _ hR Kx hKx => ?_
 replace hF := He.rely hF hR
 clear hR
 go_simp
 try (unfold stored; go_simp)
 refine hKx _ _ ⟨?_,?_⟩
 ·
  co_still (T _)
 clear hKx Kx
 try walk_nrm
 refine za0 C rfl (by rfl) fun _ hR Kx hKx => ?_
 replace hF := He.rely hF hR
 clear hR
 go_simp
 try (unfold stored; go_simp)
 refine hKx _ _ ⟨?_,?_⟩
 ·
  co_quiet (T _)
 clear hKx Kx
 try walk_nrm
 have hrun := run_x (Post := Post) (f := f) (fr := 85) (cap := cap) (cr := #[.pointer (some ⟨w₀.heap.size,0,none⟩)]) (l := ls) H hF hln (fun Shun w _ _ h => kid_txG H hz hL Shun w h) hcl hA0 hFa
 refine zd6 C T rfl (by rfl) rfl rfl (by simp [Act.eval]) rfl hrun ?_
 rintro _ _ _ ⟨rfl,h1,h2⟩
 refine za3 C T ?_
 exact ⟨.inl rfl,rfl,_,resultsC_none (by rfl) _,rfl,rfl,h1,h2⟩
end
def SelOk (sel : AS → AS) : Prop := ∀ s : AS,(sel s).nx = s.nx ∧ ∀ b o,(sel s).get b = some o → s.get b = some o ∧ okTy o = true
section
variable {Post : Value → World → Prop} {Ex : Nat → Prop} {w₀ : World} {An : Who}
open Classical in
theorem tx_core {z1 e1 : Nat} (h1 : An 1 = some (1,z1,e1)) {n : Nat} {s s2 : AS} (hs1 : 1 < s.nx) {f : FuncId} {y : Array Value} {str : ByteArray} {f₀ : Func} (hf : prog.funcs[f]? = some f₀) {c : Code} (hbody : f₀.body = some c) (hres : f₀.results.toList.isEmpty = true) (hAn : ∀ b,s.nx ≤ b → An b = none) (htm : s.tame = true) (hy : y.toList.all (nmV s.nx) = true) (hsz : 16 ≤ str.size) {all : List Int} (hL : RoundL str 0 all) (hg : ∀ r ∈ all,Good r) (hn4 : 4 * all.length ≤ 1000000)
  {pr : Prim} (hpnx : ∀ f g args s v s',pr f = some g → g args s = some (v,s') → s.nx ≤ s'.nx) (hpr : ∀ {ι : Type} {N0 : ι → Nat} {M : ι → World → Nat → Prop} {O : ι → Nat → Prop} {R : ι → World → World → Prop} {D : ι → World → World → Array Event → Prop} {X : ι → Goroutine → World → Prop} {Hd : ι → List (Nat × Obj) → World → Prop} (_ : Cy prog KTs N0 M O R D X Hd) (A : Who),(∀ b,s.nx + 1 ≤ b → A b = none) → PrimOk prog KTs A R D X Hd (prRow s.nx all) → PrimOk prog KTs A R D X Hd pr)
  {sel : AS → AS} (hsel : SelOk sel) {e : Exit} {aA' : TL} (hev : evC prog ktB pr n c ((aptr s.nx 0 :: y.toList) ++ List.replicate (f₀.ntmps - (y.size + 1)) undef) ⟨s.hp,s.nx + 1⟩ = some (e,aA',s2)) (hkeep : AS.keeps s s2 = true) (he : e = .normal ∨ e = .ret) :
  s.nx ≤ (sel s2).nx ∧ Sound prog KTs An (fun _ : Zx => AtRel) (fun j => DZ j.1) (fun j => ZI prog Post 0 j.1) (HdZ Ex w₀) 47 #[.string str, .func (.func f) #[] y] s (.tuple #[]) (sel s2) := by
 have hnx : s.nx + 1 ≤ s2.nx := by
  exact (ev_nx (P := prog) (kt := ktB) hpnx n).1 _ _ _ _ _ _ hev
 refine ⟨by rw [(hsel s2).1]; omega,Sound.cut hAn htm (by simp only [List.all_cons,List.all_nil,nmF,nmV,isSc,hy,Bool.and_true]) (by rw [(hsel s2).1]; omega) ?_⟩
 have hres' : f₀.results = #[] := by apply Array.toList_inj.1; simpa using hres
 intro S l fr j w args' hS0 hS hF hA
 obtain ⟨a0,a1,rfl,v0,v1⟩ := args2 hA
 obtain rfl := v0.sc rfl
 obtain ⟨p',cap,rfl,hp',hcap⟩ := v1.fn
 have hp0 : p' = #[] := by apply Array.toList_inj.1; have := hp'.1; simp at this; exact List.eq_nil_of_length_eq_zero (by simpa using this.symm)
 subst hp0
 obtain ⟨⟨hj,hj2⟩,hl⟩ := hF
 let live : Nat × Obj → Prop := fun q => ∃ nm ob z e,s.get nm = some ob ∧ S nm = some (q.1,z,e)
 have hH : HRun w w.heap.size (w.heap.size + 1) j.1 := ⟨rfl, .inr rfl,fun b hb' => ⟨Nat.lt_of_lt_of_le (hj b hb') hl.size,by have := Nat.lt_of_lt_of_le (hj b hb') hl.size; omega⟩⟩
 have hRd : HRd w w.heap.size (w.heap.size + 1) j.1 s S An (l.filter fun q => decide (live q)) := by
  refine ⟨rfl,⟨fun b o hbo => ?_,fun b b' o o' q q' hbo hbo' => hS.inj b b' o o' q q' hbo hbo',fun b o hbo => hS.lt b o hbo,hS.an⟩,fun b o hm => ?_,?_,fun b o hm => ?_⟩
  ·
   obtain ⟨g,z,e,o',q1,q2,q3,q4⟩ := hS.live b o hbo
   exact ⟨g,z,e,o',q1,List.mem_filter.2 ⟨q2,decide_eq_true ⟨b,o,z,e,hbo,q1⟩⟩,q3,q4⟩
  ·
   obtain ⟨m1,m2⟩ := List.mem_filter.1 hm
   obtain ⟨nm,ob,z,e,q1,q2⟩ := of_decide_eq_true m2
   obtain ⟨m3,m4,_⟩ := hl.own b o (List.mem_append_left _ m1)
   exact ⟨m3.1,by have := m3.1; omega,m3.2,m4⟩
  ·
   have hnd := hl.nodup
   rw [List.map_append] at hnd
   exact (List.filter_sublist.map Prod.fst).nodup (List.nodup_append.1 hnd).1
  ·
   obtain ⟨m1,m2⟩ := List.mem_filter.1 hm
   exact of_decide_eq_true m2
 have hkeep' : ∀ nm ob,s.get nm = some ob → ∃ ob',s2.get nm = some ob' := fun nm ob hq => by
  unfold AS.keeps at hkeep
  have := zf2 hkeep (i := nm) (hS.lt nm ob hq)
  rw [hq] at this
  simp only [Option.isNone_some,Bool.false_or] at this
  exact Option.isSome_iff_exists.1 this
 have hcl := fun (Shun : Loc → Prop) (hSh : ∀ l,Shun l → ∃ ad : Addr,l = .cell ad ∧ j.1 ad.block) =>
  client_evX (pr := pr) (fun Y A hA hp => hpr Y A (fun b hb => (hA b hb).trans (hS0 b (by omega))) hp) (val := .string str) (s' := s2) (s1 := (sel s2)) hH hRd (fun b b1 b2 => hS0 b b1) (by show s.nx < s2.nx; omega) (hS.an _ _ h1) hs1 hg hn4 hf hbody hres' hcap hev he hkeep' (hsel s2).2 (Nat.le_of_eq (hsel s2).1.symm) hSh
 have hof := oftextG_x (Post := Post) (A := LowK w w.heap.size (fun _ => False)) (Fw := LeftF w w.heap.size j.1 s (sel s2) S (l.filter fun q => decide (live q))) hH hsz hL (by omega) hcl (fun w1 hw1 => ⟨hw1.tape,hw1.os,hw1.output,by rw [hw1.size]; simp [objs9],fun b hb' _ => hw1.old b hb'⟩) (fun w1 w2 r hq => by
  obtain ⟨S',l',q1,q2,q3,q4,q5⟩ := hq
  refine ⟨S',l',q1,q2,q3,fun b o hm => ?_,q5.aside r⟩
  obtain ⟨m1,m2,m3,m4,m5⟩ := q4 b o hm
  exact ⟨by rw [r.size]; exact m1,m2,m3,m4,(r.block b m2 m3).trans m5⟩)
 refine calls_reindex (n := j.2) hof ?_
 rintro S' v w' ⟨rfl,rfl,⟨S2,l',q1,q2,q3,q4,q5⟩,q6⟩
 have hnd := hl.nodup
 rw [List.map_append,List.nodup_append] at hnd
 obtain ⟨hnd1,hnd2,hnd3⟩ := hnd
 have hkl : ∀ b,keys0 (l.filter fun q => decide (live q)) b → ∃ o,(b,o) ∈ l := fun b ⟨o,hm⟩ => ⟨o,(List.mem_filter.1 hm).1⟩
 have hgrow : w.heap.size ≤ w'.heap.size := by have := q5.size; omega
 have hHL : HL (mineZ (SE w.heap.size j.1)) (fun _ => False) (w.heap.size + 7) Ex w₀ (l' ++ fr) w' := by
  refine ⟨⟨q5.tape.trans hl.kept.tape,q5.os.trans hl.kept.os,q5.output.trans hl.kept.output,Nat.le_trans hl.kept.grow hgrow,fun b hb1 hb2 => ?_,fun b hb1 => ⟨Nat.lt_of_lt_of_le hb1.1 (Nat.le_trans hl.kept.grow hgrow),hb1.2⟩,fun b z => z.elim⟩,by have := q5.size; omega,fun b o hm => ?_,?_⟩
  ·
   have hbN : b < w.heap.size := Nat.lt_of_lt_of_le hb1.1 hl.kept.grow
   have hnk : ¬ keys0 (l.filter fun q => decide (live q)) b := fun z => by
    obtain ⟨o,hm⟩ := hkl b z
    rcases (hl.own b o (List.mem_append_left _ hm)).2.2 with z | z
    ·
     exact hb2 z
    ·
     have := hb1.1; omega
   exact (q5.old b hbN hnk).trans (hl.kept.block b ⟨hb1.1,fun z => hb1.2 (.inl z)⟩ hb2)
  ·
   rcases List.mem_append.1 hm with hm | hm
   ·
    obtain ⟨m1,m2,m3,m4,m5⟩ := q4 b o hm
    by_cases hbN : b < w.heap.size
    ·
     obtain ⟨o2,hm2⟩ := hkl b (m4 hbN)
     obtain ⟨r1,r2,r3⟩ := hl.own b o2 (List.mem_append_left _ hm2)
     exact ⟨⟨m1,fun z => z.elim r1.2 m3⟩,m5,r3⟩
    ·
     refine ⟨⟨m1,fun z => z.elim (fun z => ?_) m3⟩,m5, .inr (by have := hl.kept.grow; omega)⟩
     have := hj b z
     have := hl.size
     omega
   ·
    obtain ⟨r1,r2,r3⟩ := hl.own b o (List.mem_append_right _ hm)
    have hnk : ¬ keys0 (l.filter fun q => decide (live q)) b := fun z => by
     obtain ⟨o2,hm2⟩ := hkl b z
     exact hnd3 b (List.mem_map.2 ⟨_,hm2,rfl⟩) b (List.mem_map.2 ⟨_,hm,rfl⟩) rfl
    refine ⟨⟨Nat.lt_of_lt_of_le r1.1 hgrow,fun z => z.elim r1.2 (fun z => ?_)⟩,(q5.old b r1.1 hnk).trans r2,r3⟩
    have := r1.1
    omega
  ·
   rw [List.map_append,List.nodup_append]
   refine ⟨q3,hnd2,fun x hx y hy hxy => ?_⟩
   subst hxy
   obtain ⟨⟨b,o⟩,hm,rfl⟩ := List.mem_map.1 hx
   obtain ⟨⟨b2,o2⟩,hm2,e2⟩ := List.mem_map.1 hy
   have e2 : b2 = b := e2
   subst e2
   have hbN := (hl.own b2 o2 (List.mem_append_right _ hm2)).1.1
   obtain ⟨o3,hm3⟩ := hkl b2 ((q4 b2 o hm).2.2.2.1 hbN)
   exact hnd3 b2 (List.mem_map.2 ⟨_,hm3,rfl⟩) b2 (List.mem_map.2 ⟨_,hm2,rfl⟩) rfl
 refine ⟨w.heap.size + 7,fun w₁ r => ⟨S2,l',q1.an,q2,⟨q1.live,q1.inj,q1.lt,Who.le_trans hS.an q1.an⟩,⟨⟨fun b z => ?_,fun b z => ?_⟩,hHL.rely (envZ (KT := KTs) (fun b z => ?_)) r⟩,?_⟩⟩
 ·
  rcases z with z | z
  ·
   have := hj b z; have := hl.size; omega
  ·
   omega
 ·
  rcases z with z | z
  ·
   exact hj2 b z
  ·
   have := hl.kept.grow; omega
 ·
  rcases z with z | z
  ·
   have := hj b z; have := hl.size; omega
  ·
   omega
 ·
  exact VR.of_tu AR.nil
def ExtP (rn : Nat) (prx : Prim) (all : List Int) : Prop := (∀ f g args s v s',prx f = some g → g args s = some (v,s') → s.nx ≤ s'.nx) ∧ ∀ {ι : Type} {N0 : ι → Nat} {M : ι → World → Nat → Prop} {O : ι → Nat → Prop} {R : ι → World → World → Prop} {D : ι → World → World → Array Event → Prop} {X : ι → Goroutine → World → Prop} {Hd : ι → List (Nat × Obj) → World → Prop} (_ : Cy prog KTs N0 M O R D X Hd) (A : Who),(∀ b,rn + 1 ≤ b → A b = none) → PrimOk prog KTs A R D X Hd (prRow rn all) → PrimOk prog KTs A R D X Hd prx
def prTx (P : Program) (n r0 : Nat) (str : ByteArray) (sel : AS → AS) (prx : Prim) (pr : Prim) : Prim := fun g => if g.beq 47 then some fun args s => match args.toList with
 | [.string st, .func (.func f) x y] => match P.funcs[f]? with
  | some f₀ => match f₀.body with
   | some c =>
    if st = str ∧ x.toList.isEmpty = true ∧ s.nx = r0 ∧ f₀.results.toList.isEmpty = true ∧ s.tame = true ∧ y.toList.all (nmV s.nx) = true then
     match evC P ktB prx n c ((aptr s.nx 0 :: y.toList) ++ List.replicate (f₀.ntmps - (y.size + 1)) undef) ⟨s.hp,s.nx + 1⟩ with
     | some (e,_,s') => if AS.keeps s s' = true then match e with
       | .normal | .ret => some (.tuple #[],sel s')
       | _ => none
      else none
     | none => none
    else none
   | none => none
  | none => none
 | _ => none
 else pr g
theorem prTx_ok {z1 e1 : Nat} (h1 : An 1 = some (1,z1,e1)) (hAn : ∀ b,32 ≤ b → An b = none) {n : Nat} {str : ByteArray} {all : List Int} {r0 : Nat} (hr0 : 32 ≤ r0) {sel : AS → AS} (hsel : SelOk sel) {prx : Prim} (hx : ExtP r0 prx all) (hsz : 16 ≤ str.size) (hL : RoundL str 0 all) (hg : ∀ r ∈ all,Good r) (hn4 : 4 * all.length ≤ 1000000) {pr : Prim} (hp : PrimOk prog KTs An (fun _ : Zx => AtRel) (fun j => DZ j.1) (fun j => ZI prog Post 0 j.1) (HdZ Ex w₀) pr) :
  PrimOk prog KTs An (fun _ : Zx => AtRel) (fun j => DZ j.1) (fun j => ZI prog Post 0 j.1) (HdZ Ex w₀) (prTx prog n r0 str sel prx pr) := by
 have key : ∀ g h args s v s',g = 47 → prTx prog n r0 str sel prx pr g = some h → h args s = some (v,s') → s.nx ≤ s'.nx ∧ Sound prog KTs An (fun _ : Zx => AtRel) (fun j => DZ j.1) (fun j => ZI prog Post 0 j.1) (HdZ Ex w₀) 47 args s v s' := by
  rintro g h args s v s' rfl hf hh
  unfold prTx at hf
  rw [if_pos (show Nat.beq 47 47 = true from rfl)] at hf
  cases hf
  simp only at hh
  split at hh
  ·
   next st f x y ha =>
   split at hh
   ·
    next f₀ hf =>
    split at hh
    ·
     next c hbody =>
     split at hh
     ·
      next hc =>
      obtain ⟨rfl,hx0,rfl,hres,htm,hy⟩ := hc
      split at hh
      ·
       next e aA' s2 hev =>
       split at hh
       ·
        next hkeep =>
        have hfin : (e = .normal ∨ e = .ret) ∧ v = .tuple #[] ∧ s' = sel s2 := by
         split at hh
         ·
          cases hh; exact ⟨.inl rfl,rfl,rfl⟩
         ·
          cases hh; exact ⟨.inr rfl,rfl,rfl⟩
         ·
          cases hh
        obtain ⟨he,rfl,rfl⟩ := hfin
        have hx' : x = #[] := by apply Array.toList_inj.1; simpa using hx0
        subst hx'
        have ha' : args = #[.string st, .func (.func f) #[] y] := by apply Array.toList_inj.1; simp [ha]
        subst ha'
        exact tx_core h1 (by omega) hf hbody hres (fun b hb => hAn b (by omega)) htm hy hsz hL hg hn4 hx.1 hx.2 hsel hev hkeep he
       ·
        cases hh
      ·
       cases hh
     ·
      cases hh
    ·
     cases hh
   ·
    cases hh
  ·
   cases hh
 constructor
 ·
  intro g h args s v s' hf hh
  by_cases he : g = 47
  ·
   exact (key g h args s v s' he hf hh).1
  ·
   unfold prTx at hf
   rw [if_neg (fun z => he (Nat.eq_of_beq_eq_true z))] at hf
   exact hp.nx g h args s v s' hf hh
 ·
  intro g h args s v s' hf hh
  by_cases he : g = 47
  ·
   subst he; exact (key _ h args s v s' rfl hf hh).2
  ·
   unfold prTx at hf
   rw [if_neg (fun z => he (Nat.eq_of_beq_eq_true z))] at hf
   exact hp.sound g h args s v s' hf hh
theorem prTx_e {str : ByteArray} {r0 : Nat} {sel : AS → AS} {prx : Prim} {s s1 : AS} {f : FuncId} {f₀ : Func} {c : Code} {y : Array Value} (hf : prog.funcs[f]? = some f₀) (hbody : f₀.body = some c) (hres : f₀.results.toList.isEmpty = true) (hs : s.nx = r0) (htm : s.tame = true) (hy : y.toList.all (nmV s.nx) = true)
  (hw : EW prog ktB prx c ((aptr s.nx 0 :: y.toList) ++ List.replicate (f₀.ntmps - (y.size + 1)) undef) ⟨s.hp,s.nx + 1⟩ fun e _ s' => (e = .normal ∨ e = .ret) ∧ AS.keeps s s' = true ∧ sel s' = s1) :
  ∃ n, ∀ pr,EF prog ktB (prTx prog n r0 str sel prx pr) 47 #[.string str, .func (.func f) #[] y] s (.tuple #[]) s1 := by
 obtain ⟨n,e,a',s',h1,h2,h3,rfl⟩ := hw
 refine ⟨n,fun pr => ⟨1,?_⟩⟩
 unfold zb8 prTx
 rw [if_pos (show Nat.beq 47 47 = true from rfl)]
 simp only [hf,hbody,h1,h3,if_true]
 rw [if_pos ⟨trivial,rfl,hs,hres,htm,hy⟩]
 rcases h2 with rfl | rfl <;> rfl
end
end
end Go.Proofs.YtgcaionclkbehaaGreatDoor
