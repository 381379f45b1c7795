import Derived.Test.YtgcaionclkbehaaGreatDoorZ
import Derived.Maps.AppendAt
import Derived.OwnWalk
import Derived.Conc.AppendWalk
import Derived.Test.YtgcaionclkbehaaGreatDoorChecked
set_option linter.all false
namespace Go.Proofs.YtgcaionclkbehaaGreatDoor
open Tryz
section
open Go.Conc Go.RowKit
def EvO (M : Nat → Prop) (e : Event) : Prop :=
 (∃ ad : Addr,e.loc = .cell ad ∧ M ad.block) ∨ (∃ b wr,e = ⟨.obj b,wr,false⟩ ∧ M b) ∨ ((MemAct.ofEvent e).touch? = none ∧ e.loc ≠ .mark .disable ∧ e.loc ≠ .mark .enable ∧ ∀ a,MemAct.ofEvent e ≠ .mark (.release a))
structure Own (KT : TypeId → Prop) (M : World → Nat → Prop) (w w' : World) : Prop where
 tape : w'.tape = w.tape
 os : w'.os = w.os
 output : w'.output = w.output
 grow : w.heap.size ≤ w'.heap.size
 block : ∀ b,b < w.heap.size → ¬ M w b → w'.heap[b]? = w.heap[b]?
 kt : ∀ (b : Nat) (o : Obj),w'.heap[b]? = some o → KT (tyOf o) → w'.heap[b]? = w.heap[b]?
structure Env (KT : TypeId → Prop) (N0 : Nat) (M : World → Nat → Prop) (O : Nat → Prop) (R : World → World → Prop) (D : World → World → Array Event → Prop) : Prop where
 lt : ∀ {w : World} {b : Nat},M w b → b < w.heap.size
 keep : ∀ {w w₁ : World} {b : Nat},R w w₁ → M w b → w₁.heap[b]? = w.heap[b]?
 stay : ∀ {w w₁ : World} {b : Nat},R w w₁ → M w b → M w₁ b
 tape : ∀ {w w₁ : World},R w w₁ → w₁.tape = w.tape
 os : ∀ {w w₁ : World},R w w₁ → w₁.os = w.os
 output : ∀ {w w₁ : World},R w w₁ → w₁.output = w.output
 size : ∀ {w w₁ : World},R w w₁ → w.heap.size ≤ w₁.heap.size
 does : ∀ {w w' : World} {es : Array Event},N0 ≤ w.heap.size → Own KT M w w' → (∀ e ∈ es,EvO (M w') e) → D w w' es
 mine : ∀ {w w' : World} {b : Nat},Own KT M w w' → M w b → M w' b
 new : ∀ {w w' : World} {b : Nat},N0 ≤ w.heap.size → Own KT M w w' → w.heap.size ≤ b → b < w'.heap.size → M w' b
 outR : ∀ {w w₁ : World} {b : Nat},R w w₁ → O b → b < w.heap.size → w₁.heap[b]? = w.heap[b]?
 outM : ∀ {w w' : World} {b : Nat},O b → b < w'.heap.size → M w b → M w' b
 drawR : ∀ w : World,R w { w with drawn := w.drawn + 1 }
 drawD : LetsDraw D
structure Kept (M : World → Nat → Prop) (O : Nat → Prop) (Ex : Nat → Prop) (w₀ w : World) : Prop where
 tape : w.tape = w₀.tape
 os : w.os = w₀.os
 output : w.output = w₀.output
 grow : w₀.heap.size ≤ w.heap.size
 block : ∀ b,M w₀ b → ¬ Ex b → w.heap[b]? = w₀.heap[b]?
 mine : ∀ b,M w₀ b → M w b
 low : ∀ b,O b → b < w₀.heap.size → ¬ Ex b → w.heap[b]? = w₀.heap[b]?
section
variable {KT : TypeId → Prop} {N0 : Nat} {M : World → Nat → Prop} {O : Nat → Prop} {R : World → World → Prop} {D : World → World → Array Event → Prop} {Ex Ex' : Nat → Prop} {w₀ w w₁ w' : World}
theorem Own.refl (w : World) : Own KT M w w := ⟨rfl,rfl,rfl,Nat.le_refl _,fun _ _ _ => rfl,fun _ _ _ _ => rfl⟩
theorem Own.alloc {cs : Array Value} {t : TypeId} (ht : ¬ KT t) (fz : Nat × Nat := (0,0)) : Own KT M w (w.alloc (.cells cs t fz)) := by
 refine ⟨rfl,rfl,rfl,by simp [World.size_alloc],fun b hb _ => Below.heap_alloc _ _ _ hb,fun b o' h hk => ?_⟩
 by_cases hb : b < w.heap.size
 ·
  exact Below.heap_alloc _ _ _ hb
 ·
  have hlt := (Array.getElem?_eq_some_iff.1 h).1
  have : b = w.heap.size := by simp [World.size_alloc] at hlt; omega
  subst this
  rw [heap_alloc_new] at h
  cases h
  exact absurd hk ht
theorem Own.setCell {b o : Nat} {x : Value} {cs : Array Value} {t : TypeId} {fz : Nat × Nat} (hb : w.heap[b]? = some (.cells cs t fz)) (hm : M w b) (ht : ¬ KT t) : Own KT M w (w.setCell ⟨b,o,none⟩ x) := by
 refine ⟨rfl,rfl,rfl,by simp [World.setCell],fun k _ hk => Below.heap_setCell _ _ _ _ (fun e => hk (e ▸ hm)),fun k o' h hk => ?_⟩
 by_cases e : k = b
 ·
  subst e
  have : (w.setCell ⟨k,o,none⟩ x).heap[k]? = some (.cells (cs.setIfInBounds o x) t fz) := by simp [World.setCell,Array.getElem?_modify,hb]
  rw [this] at h
  cases h
  exact absurd hk ht
 ·
  exact Below.heap_setCell _ _ _ _ e
theorem Own.setRow {b : Nat} {xs cs : Array Value} {t : TypeId} {fz : Nat × Nat} (hb : w.heap[b]? = some (.cells cs t fz)) (hm : M w b) (ht : ¬ KT t) : Own KT M w (w.setRow b xs) := by
 have hne : ∀ k,k ≠ b → (w.setRow b xs).heap[k]? = w.heap[k]? := fun k hk => by simp [World.setRow,Array.getElem?_modify,Ne.symm hk]
 refine ⟨rfl,rfl,rfl,by simp [World.setRow],fun k _ hk => hne k (fun e => hk (e ▸ hm)),fun k o' h hk => ?_⟩
 by_cases e : k = b
 ·
  subst e
  have : (w.setRow k xs).heap[k]? = some (.cells xs t fz) := by simp [World.setRow,Array.getElem?_modify,hb]
  rw [this] at h
  cases h
  exact absurd hk ht
 ·
  exact hne k e
theorem Own.allocObj {o : Obj} (ho : ¬ KT (tyOf o)) : Own KT M w (w.alloc o) := by
 refine ⟨rfl,rfl,rfl,by simp [World.size_alloc],fun b hb _ => Below.heap_alloc _ _ _ hb,fun b o' h hk => ?_⟩
 by_cases hb : b < w.heap.size
 ·
  exact Below.heap_alloc _ _ _ hb
 ·
  have hlt := (Array.getElem?_eq_some_iff.1 h).1
  have : b = w.heap.size := by simp [World.size_alloc] at hlt; omega
  subst this
  rw [heap_alloc_new] at h
  cases h
  exact absurd hk ho
theorem Own.setObj {b : Nat} {o : Obj} (ho : ¬ KT (tyOf o)) (hm : M w b) : Own KT M w { w with heap := w.heap.setIfInBounds b o } := by
 refine ⟨rfl,rfl,rfl,by simp,fun k _ hk => ?_,fun k o' h hk => ?_⟩
 ·
  have : b ≠ k := fun e => hk (e ▸ hm)
  simp [Array.getElem?_setIfInBounds,this]
 ·
  by_cases e : b = k
  ·
   subst e
   by_cases hl : b < w.heap.size
   ·
    simp [Array.getElem?_setIfInBounds,hl] at h
    subst h
    exact absurd hk ho
   ·
    simp [Array.getElem?_setIfInBounds,hl] at h
  ·
   simp [Array.getElem?_setIfInBounds,e]
theorem Kept.refl (w : World) : Kept M O Ex w w := ⟨rfl,rfl,rfl,Nat.le_refl _,fun _ _ _ => rfl,fun _ h => h,fun _ _ _ _ => rfl⟩
theorem Kept.rely (E : Env KT N0 M O R D) (h : Kept M O Ex w₀ w) (r : R w w₁) : Kept M O Ex w₀ w₁ :=
 ⟨(E.tape r).trans h.tape,(E.os r).trans h.os,(E.output r).trans h.output,Nat.le_trans h.grow (E.size r),fun b hb hx => (E.keep r (h.mine b hb)).trans (h.block b hb hx),fun b hb => E.stay r (h.mine b hb),fun b ho hl hn => (E.outR r ho (Nat.lt_of_lt_of_le hl h.grow)).trans (h.low b ho hl hn)⟩
theorem Kept.own (E : Env KT N0 M O R D) (h : Kept M O Ex w₀ w) (o : Own KT M w w') (hx : ∀ b,M w₀ b → ¬ Ex b → w'.heap[b]? = w.heap[b]?) : Kept M O Ex w₀ w' :=
 ⟨o.tape.trans h.tape,o.os.trans h.os,o.output.trans h.output,Nat.le_trans h.grow o.grow,fun b hb hn => (hx b hb hn).trans (h.block b hb hn),fun b hb => E.mine o (h.mine b hb),fun b ho hl hn => ((Classical.em (M w b)).elim (fun hm => hx b (E.outM ho hl hm) hn) (fun hm => o.block b (Nat.lt_of_lt_of_le hl h.grow) hm)).trans (h.low b ho hl hn)⟩
theorem Kept.trans (E : Env KT N0 M O R D) (h : Kept M O Ex w₀ w) (h' : Kept M O Ex' w w₁) (hx : ∀ b,Ex' b → Ex b ∨ w₀.heap.size ≤ b) : Kept M O Ex w₀ w₁ :=
 ⟨h'.tape.trans h.tape,h'.os.trans h.os,h'.output.trans h.output,Nat.le_trans h.grow h'.grow,fun b hb hn => (h'.block b (h.mine b hb) fun z => (hx b z).elim hn fun z => absurd (E.lt hb) (by omega)).trans (h.block b hb hn),fun b hb => h'.mine b (h.mine b hb),fun b ho hl hn => (h'.low b ho (Nat.lt_of_lt_of_le hl h.grow) fun z => (hx b z).elim hn fun z => absurd hl (by omega)).trans (h.low b ho hl hn)⟩
def mineM (K : Cfg) (w : World) (b : Nat) : Prop := b < w.heap.size ∧ ¬ K.Kid w b ∧ ¬ K.Still b ∧ ¬ K.Syn b ∧ ∀ ad : Addr,ad.block = b → ¬ K.Shun (.cell ad)
def outM (K : Cfg) (b : Nat) : Prop := b < K.N0 ∧ ¬ K.Kid0 b ∧ ¬ K.Syn b
theorem evM_of {K : Cfg} (F : K.Fit) {e : Event} (h : EvO (mineM K w') e) : EvM K w' e := by
 rcases h with ⟨ad,he,hl,hk,hs,_,hh⟩ | ⟨b,wr,rfl,hl,hk,hs,hy,hh⟩ | ⟨h1,h2,h3,h4⟩
 ·
  obtain ⟨l,wr,sy⟩ := e
  obtain rfl : l = .cell ad := he
  have hl' : ∀ x,(MemAct.ofEvent ⟨.cell ad,wr,sy⟩).touch? = some x → x.loc = .cell ad := by
   intro x hx
   cases wr <;> cases sy <;> (simp [MemAct.ofEvent,MemAct.touch?] at hx; rw [← hx])
  refine ⟨fun x hx => ⟨⟨?_,?_,?_⟩,⟨fun a' ha' => ?_,fun a' ha' => ?_⟩⟩,by simp,by simp,by cases wr <;> cases sy <;> simp [MemAct.ofEvent]⟩
  ·
   rw [hl' x hx]; rintro (⟨a',e,h⟩ | e | ⟨a',e,h⟩)
   ·
    cases e; exact hk h
   ·
    cases e
   ·
    cases e
  ·
   rw [hl' x hx]; rintro ⟨a',e,h⟩; cases e; exact absurd h hs
  ·
   rw [hl' x hx]; exact fun h => absurd h (hh ad rfl)
  ·
   rw [hl' x hx] at ha'; cases ha'; exact hl
  ·
   rw [hl' x hx] at ha'; cases ha'
 ·
  have hl' : ∀ x,(MemAct.ofEvent ⟨.obj b,wr,false⟩).touch? = some x → x.loc = .obj b := by
   intro x hx
   cases wr <;> (simp [MemAct.ofEvent,MemAct.touch?] at hx; rw [← hx])
  refine ⟨fun x hx => ⟨⟨?_,?_,?_⟩,⟨fun a' ha' => ?_,fun a' ha' => ?_⟩⟩,by simp,by simp,by cases wr <;> simp [MemAct.ofEvent]⟩
  ·
   rw [hl' x hx]; rintro (⟨a',e,h⟩ | e | ⟨a',e,h⟩)
   ·
    cases e
   ·
    cases e; exact hy (.inr (.inl rfl))
   ·
    cases e; exact hk h
  ·
   rw [hl' x hx]; rintro ⟨a',e,h⟩; cases e
  ·
   rw [hl' x hx]; intro h; obtain ⟨a',e,_⟩ := F.shunCell _ h; cases e
  ·
   rw [hl' x hx] at ha'; cases ha'
  ·
   rw [hl' x hx] at ha'; cases ha'; exact hl
 ·
  exact ⟨fun x hx => (by rw [h1] at hx; cases hx),h2,h3,h4 _⟩
theorem envM {K : Cfg} (F : K.Fit) : Env K.KT K.N0 (mineM K) (outM K) (RM K) (DM K) where
 lt := fun h => h.1
 keep := fun r h => r.block _ h.1 h.2.1 h.2.2.2.1
 stay := fun r h => ⟨Nat.lt_of_lt_of_le h.1 r.size,fun z => h.2.1 (z.of_same (r.block _ h.1 h.2.1 h.2.2.2.1).symm),h.2.2⟩
 tape := fun r => r.tape
 os := fun r => r.os
 output := fun r => r.output
 size := fun r => r.size
 does := by
  intro w w' es hn o he
  refine ⟨fun b hb => ?_,fun b hb => ?_,o.grow,fun e h => evM_of F (he e h)⟩
  ·
   refine o.block b ?_ fun m => ?_
   ·
    rcases hb with hb | hb | hb
    ·
     exact hb.lt F hn
    ·
     exact Nat.lt_of_lt_of_le (F.s0 b hb) hn
    ·
     rcases hb with rfl | rfl | rfl
     ·
      exact Nat.lt_of_lt_of_le F.A0 hn
     ·
      exact Nat.lt_of_lt_of_le F.E0 hn
     ·
      exact Nat.lt_of_lt_of_le F.W0 hn
   ·
    rcases hb with hb | hb | hb
    ·
     exact m.2.1 hb
    ·
     exact m.2.2.1 hb
    ·
     exact m.2.2.2.1 hb
  ·
   rcases hb with hb | ⟨h1,o',h2,h3⟩
   ·
    exact .inl hb
   ·
    exact .inr ⟨h1,o',(o.kt b o' h2 h3).symm.trans h2,h3⟩
 mine := by
  rintro w w' b o ⟨h1,h2,h3⟩
  refine ⟨Nat.lt_of_lt_of_le h1 o.grow,fun hk => h2 ?_,h3⟩
  rcases hk with hb | ⟨h1,o',h2,h3⟩
  ·
   exact .inl hb
  ·
   exact .inr ⟨h1,o',(o.kt b o' h2 h3).symm.trans h2,h3⟩
 new := by
  intro w w' b hn o h1 h2
  refine ⟨h2,?_,fun z => ?_,?_,fun ad ha hs => ?_⟩
  ·
   rintro (z | ⟨z,o',z1,z2⟩)
   ·
    have := F.c0 b z; omega
   ·
    have e := (o.kt b o' z1 z2).symm.trans z1
    have := (Array.getElem?_eq_some_iff.1 e).1
    omega
  ·
   have := F.s0 b z; omega
  ·
   rintro (rfl | rfl | rfl)
   ·
    have := F.A0; omega
   ·
    have := F.E0; omega
   ·
    have := F.W0; omega
  ·
   obtain ⟨a,e,z⟩ := F.shunCell _ hs
   cases e
   omega
 outR := fun r ho hl => r.block _ hl (fun z => ho.2.1 (z.low ho.1)) ho.2.2
 outM := fun ho hl h => ⟨hl,fun z => ho.2.1 (z.low ho.1),h.2.2⟩
 drawR := fun w => ⟨rfl,rfl,rfl,fun _ _ _ _ => rfl,Nat.le_refl _⟩
 drawD := fun w => ⟨fun _ _ => rfl,fun _ h => h,Nat.le_refl _,by simp⟩
def Ph.early : Ph → Prop
 | .inr (.inr (.inr _)) => False
 | _ => True
theorem envP {K : Cfg} [Go.ConcX.Payload] [Go.ConcR.Payload] [Go.ConcX.Shy K.Wg K.C] (F : K.Fit) {i : Ph} (hi : i.early) : Env K.KT K.N0 (mineM K) (outM K) (RMd K i) (DMd K i) := by
 cases i using Ph.casesT with
 | join => exact hi.elim
 | _ => exact envM F
def mineZ (S : Nat → Prop) (w : World) (b : Nat) : Prop := b < w.heap.size ∧ ¬ S b
theorem envZ {S : Nat → Prop} (hS : ∀ b,S b → b < N0) : Env KT N0 (mineZ S) O AtRel (DZ S) where
 lt := fun h => h.1
 keep := by rintro w _ b ⟨e,rfl⟩ _; rfl
 stay := by rintro w _ b ⟨e,rfl⟩ h; exact h
 tape := by rintro w _ ⟨e,rfl⟩; rfl
 os := by rintro w _ ⟨e,rfl⟩; rfl
 output := by rintro w _ ⟨e,rfl⟩; rfl
 size := by rintro w _ ⟨e,rfl⟩; exact Nat.le_refl _
 does := by
  intro w w' es hn o he e h
  rcases he e h with ⟨ad,h1,_,h2⟩ | ⟨b,wr,rfl,_⟩ | ⟨h1,h2,h3,_⟩
  ·
   obtain ⟨l,wr,sy⟩ := e
   obtain rfl : l = .cell ad := h1
   refine ⟨fun x hx a' ha' hs => ?_,by simp,by simp⟩
   have hl : x.loc = .cell ad := by cases wr <;> cases sy <;> (simp [MemAct.ofEvent,MemAct.touch?] at hx; rw [← hx])
   rw [hl] at ha'
   cases ha'
   exact h2 hs
  ·
   refine ⟨fun x hx a' ha' hs => ?_,by simp,by simp⟩
   have hl : x.loc = .obj b := by cases wr <;> (simp [MemAct.ofEvent,MemAct.touch?] at hx; rw [← hx])
   rw [hl] at ha'
   cases ha'
  ·
   exact ⟨fun x hx => (by rw [h1] at hx; cases hx),h2,h3⟩
 mine := fun o h => ⟨Nat.lt_of_lt_of_le h.1 o.grow,h.2⟩
 new := fun hn _ h1 h2 => ⟨h2,fun hs => by have := hS _ hs; omega⟩
 outR := by rintro w _ b ⟨e,rfl⟩ _ _; rfl
 outM := fun _ hl h => ⟨hl,h.2⟩
 drawR := fun w => ⟨w.drawn + 1,rfl⟩
 drawD := fun w e he => by simp at he
theorem append_shape {P : Program} (base : Nat) (t ty e : TypeId) (i : TypeInfo) (z : Value) (size bytes : Nat) (ht : P.underlying t = some (.slice e)) (hi : P.info? e = some i) (hz : i.zero = some z)
  (hsize : i.size = size) (hby : i.bytes = bytes)
  (v : Value) (n : Nat) (xs : List Value) (hown : w.ownsRow base e size v n xs)
  (a : Addr) (m c : Nat) (news : List Value) (hl : news.length = m * size) (hnews : ∀ j u,news[j]? = some u → w.cell? (a.add j) = some u) (h1 : ∀ u ∈ news,u.oneCell' = true)
  (h63 : n + m ≤ maxLen) (hbytes : (n + m) * bytes ≤ 140737488355328) {v' : Value} (hr' : (Builtin.append_ #[t,t] ty #[v, .slice (some a) m c]).run P w = .ok v' w') :
  w' = w ∨ (∃ g cs,v.ownBlock = some g ∧ w' = w.setRow g cs) ∨ ∃ cs,w' = w.drew.alloc (.cells cs e) := by
 subst hsize
 subst hby
 have hsmall : n + m ≤ 9223372036854775807 := by simp only [maxLen] at h63; omega
 rcases hown.2 with ⟨rfl,rfl⟩ | ⟨g,cap,cur,rfl,hbg,hg,hnc,hcm,hcs,htake⟩
 ·
  by_cases hm : m = 0
  ·
   subst hm
   have hn : news = [] := List.eq_nil_of_length_eq_zero (by simpa using hl)
   subst hn
   left
   simp [Builtin.append_,run_underlying ht,sizeOf,typeInfo,hi,Builtin.lenOf,Builtin.firstCells,loadCells,loadCellsFrom] at hr'
   exact hr'.2.symm
  ·
   have hr := run_append_nil (P := P) w t ty e i z ht hi hz a m c news hl hnews (by omega) (by omega) (by have hb := hbytes; simp only [Nat.zero_add] at hb; omega)
   rw [hr] at hr'
   cases hr'
   exact .inr (.inr ⟨_,rfl⟩)
 ·
  by_cases hroom : n + m ≤ cap
  ·
   have hfit : n * i.size + news.length ≤ cur.size := by rw [hl,hcs, ← Nat.add_mul]; exact Nat.mul_le_mul_right _ hroom
   have hr := run_append_room (P := P) w t ty e i ht hi g n cap cur hg a m c news hl hnews h1 hroom hfit
   rw [hr] at hr'
   cases hr'
   exact .inr (.inl ⟨g,_,rfl,rfl⟩)
  ·
   have holds : ∀ j u,xs[j]? = some u → w.cell? ((⟨g,0,none⟩ : Addr).add j) = some u := hown.cells (g := g) rfl
   have hr := run_append_grow (P := P) w t ty e i z ht hi hz ⟨g,0,none⟩ n cap xs hown.1 holds a m c news hl hnews (by omega) (by omega) (growslice_fits (by omega) hbytes)
   rw [hr] at hr'
   cases hr'
   exact .inr (.inr ⟨_,rfl⟩)
end
end
section
open Go.Conc Go.RowKit
structure RowO (M : World → Nat → Prop) (Ex : Nat → Prop) (w₀ : World) (e : TypeId) (v : Value) (n : Nat) (xs : List Value) (w : World) : Prop where
 row : w.ownsRow 0 e 1 v n xs
 own : ∀ k,v.ownBlock = some k → M w k ∧ (Ex k ∨ w₀.heap.size ≤ k)
 nil : n = 0 → v = .slice none 0 0
section
variable {KT : TypeId → Prop} {N0 : Nat} {M : World → Nat → Prop} {O : Nat → Prop} {R : World → World → Prop} {D : World → World → Array Event → Prop} {Ex : Nat → Prop} {w₀ w w₁ w' : World} {e : TypeId} {v : Value} {n : Nat} {xs news : List Value} {g : Nat}
theorem RowO.same (h : RowO M Ex w₀ e v n xs w) (hb : ∀ k,v.ownBlock = some k → w'.heap[k]? = w.heap[k]? ∧ M w' k) : RowO M Ex w₀ e v n xs w' := by
 refine ⟨⟨h.row.1,?_⟩,fun k hk => ⟨(hb k hk).2,(h.own k hk).2⟩,h.nil⟩
 rcases h.row.2 with z | ⟨g,cap,cur,h1,h2,h3,h4⟩
 ·
  exact .inl z
 ·
  exact .inr ⟨g,cap,cur,h1,h2,(hb g (by rw [h1]; rfl)).1.trans h3,h4⟩
theorem RowO.rely (E : Env KT N0 M O R D) (h : RowO M Ex w₀ e v n xs w) (r : R w w₁) : RowO M Ex w₀ e v n xs w₁ := h.same fun k hk => ⟨E.keep r (h.own k hk).1,E.stay r (h.own k hk).1⟩
theorem RowO.type (h : RowO M Ex w₀ e v n xs w) {k : Nat} (hk : v.ownBlock = some k) : ∃ cur,w.heap[k]? = some (.cells cur e (0,0)) := by
 rcases h.row.2 with ⟨z,_⟩ | ⟨g,cap,cur,h1,h2,h3,h4⟩
 ·
  rw [z] at hk; cases hk
 ·
  rw [h1] at hk; cases hk; exact ⟨cur,h3⟩
theorem RowO.ne (h : RowO M Ex w₀ e v n xs w) {b : Nat} {cs : Array Value} {t : TypeId} {fz : Nat × Nat} (hb : w.heap[b]? = some (.cells cs t fz)) (ht : t ≠ e) {k : Nat} (hk : v.ownBlock = some k) : k ≠ b := by
 rintro rfl
 obtain ⟨cur,hc⟩ := h.type hk
 rw [hb] at hc
 cases hc
 exact ht rfl
theorem RowO.none (M : World → Nat → Prop) (Ex : Nat → Prop) (w₀ w : World) (e : TypeId) : RowO M Ex w₀ e (.slice .none 0 0) 0 [] w := ⟨World.ownsRow_nil _ _ _ _,fun k hk => (by cases hk),fun _ => rfl⟩
structure SrcO (M : World → Nat → Prop) (e : TypeId) (news : List Value) (g : Nat) (w : World) : Prop where
 src : w.heap[g]? = some (.cells news.toArray e)
 mine : M w g
theorem SrcO.rely (E : Env KT N0 M O R D) (h : SrcO M e news g w) (r : R w w₁) : SrcO M e news g w₁ := ⟨(E.keep r h.mine).trans h.src,E.stay r h.mine⟩
theorem append_o {P : Program} (E : Env KT N0 M O R D) (hs : N0 ≤ w.heap.size) (he : ¬ KT e) (old : Kept M O Ex w₀ w) (h : RowO M Ex w₀ e v n xs w) (q : SrcO M e news g w) (t ty : TypeId) (z : Value) (bytes : Nat) (ht : P.underlying t = some (.slice e)) (hi : (P.info? e).map (fun i => (i.zero,i.size,i.bytes)) = some (some z,1,bytes)) (hz : z.cells.size = 1)
  (h1 : ∀ x ∈ news,x.oneCell' = true) (hn : n + news.length ≤ maxLen) (hb : (n + news.length) * bytes ≤ 140737488355328) :
  ∃ v' w',(Builtin.append_ #[t,t] ty #[v, .slice (some ⟨g,0,none⟩) news.length news.length]).run P w = .ok v' w' ∧ RowO M Ex w₀ e v' (n + news.length) (xs ++ news) w' ∧ Kept M O Ex w₀ w' ∧ Own KT M w w' ∧
   (∀ b,b < w.heap.size → v.ownBlock ≠ some b → w'.heap[b]? = w.heap[b]?) ∧
   D w w' ((Builtin.append_ #[t,t] ty #[v, .slice (some ⟨g,0,none⟩) news.length news.length]).events P w #[]) ∧
   ∀ e ∈ (Builtin.append_ #[t,t] ty #[v, .slice (some ⟨g,0,none⟩) news.length news.length]).events P w #[], ∀ m,e.loc = .mark m → Conc.Neutral m := by
 have hc : ∀ j x,news[j]? = some x → w.cell? ((⟨g,0,none⟩ : Addr).add j) = some x := by
  intro j x hj
  have : (⟨g,0,none⟩ : Addr).add j = ⟨g,j,none⟩ := by unfold Addr.add; split <;> simp_all
  rw [this]
  simp [World.cell?,q.src,hj]
 obtain ⟨i0,hi,hz0,hz1,hz2⟩ := info_parts hi
 obtain ⟨v',w',hr,ho,hg,hnil,hat⟩ := run_append_own_at (P := P) w 0 t ty e i0 z 1 bytes ht hi hz0 hz1 hz2 hz (by decide) v n xs h.row ⟨g,0,none⟩ news.length news.length news (by simp) hc h1 hn hb (Nat.zero_le _)
 have hsh := append_shape (P := P) 0 t ty e i0 z 1 bytes ht hi hz0 hz1 hz2 v n xs h.row ⟨g,0,none⟩ news.length news.length news (by simp) hc h1 hn hb hr
 have hev := events_append_where (P := P) w 0 t ty e i0 z 1 bytes ht hi hz0 hz1 hz2 v n xs h.row ⟨g,0,none⟩ news.length news.length news (by simp) hc h1 hn hb
 have hO : Own KT M w w' := by
  rcases hsh with rfl | ⟨k,cs,hk,rfl⟩ | ⟨cs,rfl⟩
  ·
   exact Own.refl _
  ·
   obtain ⟨cur,hcur⟩ := h.type hk
   exact Own.setRow hcur (h.own k hk).1 he
  ·
   have := Own.alloc (KT := KT) (M := M) (w := w.drew) (cs := cs) (t := e) he
   exact ⟨this.tape,this.os,this.output,this.grow,fun b hb hm => heap_alloc_old w.drew _ b hb,fun b o' hh hk => (this.kt b o' hh hk)⟩
 have hnew : ∀ k,v'.ownBlock = some k → M w' k ∧ (Ex k ∨ w₀.heap.size ≤ k) := by
  intro k hk
  rcases hat with hat | hat
  ·
   rw [hat] at hk
   exact ⟨E.mine hO (h.own k hk).1,(h.own k hk).2⟩
  ·
   rw [hat] at hk
   cases hk
   refine ⟨E.new hs hO (Nat.le_refl _) (ho.lt _ hat).2, .inr old.grow⟩
 refine ⟨v',w',hr,⟨ho,hnew,fun e => hnil.2 ⟨h.nil (by omega),by omega⟩⟩,old.own E hO fun b hb hx => hg.block b (E.lt (old.mine b hb)) fun e => ?_,hO,fun b hb hx => hg.block b hb (fun e => hx e.symm),E.does hs hO fun e he => ?_,fun e he m hm => ?_⟩
 ·
  rcases (h.own b e.symm).2 with z | z
  ·
   exact hx z
  ·
   have := E.lt hb; omega
 ·
  rcases hev e he with ⟨ad,h1,h2⟩ | ⟨m,rfl,hm⟩
  ·
   refine .inl ⟨ad,h1,E.mine hO ?_⟩
   rcases h2 with ⟨_,h2⟩ | h2
   ·
    rw [h2]; exact q.mine
   ·
    exact (h.own _ h2.symm).1
  ·
   obtain rfl : m = .noRoom := hm
   exact .inr (.inr ⟨by simp [MemAct.ofEvent,MemAct.touch?],by simp,by simp,by simp [MemAct.ofEvent]⟩)
 ·
  rcases hev e he with ⟨ad,h1,_⟩ | ⟨m',rfl,hm'⟩
  ·
   rw [h1] at hm; cases hm
  ·
   cases hm; exact hm'
end
end
set_option maxRecDepth 100000
section
open Go.Conc Go.RowKit
theorem zd3 {w : World} {b o : Nat} {cs : Array Value} {ty : TypeId} {fz : Nat × Nat} (h : w.heap[b]? = some (.cells cs ty fz)) (v : Value) : (w.setCell ⟨b,o,none⟩ v).heap[b]? = some (.cells (cs.setIfInBounds o v) ty fz) := by
 simp [World.setCell,Array.getElem?_modify,h]
theorem HC.off' (w : World) {b o b' : Nat} (v : Value) (hb : b' ≠ b) : (w.setCell ⟨b,o,none⟩ v).heap[b']? = w.heap[b']? := Below.heap_setCell _ _ _ _ hb
def kcfg (P : Program) (N Pb : Nat) (Shun : Loc → Prop) (val : Value) (B : Nat) (Mine : Loc → Prop) : Cfg :=
 { P := P,ty := 169,A := N + 2,E := N + 4,Wg := N + 6,C := N,Kid0 := fun b => b = N,N0 := N + 9,KT := fun t => t = 177 ∨ t = 179 ∨ 1016 ≤ t,Still := fun b => b = N + 1 ∨ b = N + 3 ∨ b = N + 5 ∨ b = N + 7 ∨ b = N + 8 ∨ b = Pb,Shun := Shun,B := B,
   z := .int .i32 0,zs := .tuple #[],zE := .agg #[],val := val,Mine := Mine }
variable [Go.ConcR.Payload] [Go.ConcX.Payload]
variable (K : Cfg)
abbrev Ix := Bool × List Value
def RKd (_ : Ix) : World → World → Prop := RC K
def XK (i : Ix) (g : Goroutine) (w : World) : Prop := Way K.P false (RKd K i) (DK K) (sendOf K i.2) g w
section
variable {K : Cfg} {i : Ix} {w w₁ w₂ : World}
theorem RKd.rc (h : RKd K i w w₁) : RC K w w₁ := h
theorem RKd.refl (i : Ix) (w : World) : RKd K i w w := RC.refl w
theorem RKd.trans (h : RKd K i w w₁) (h' : RKd K i w₁ w₂) : RKd K i w w₂ := RC.trans h h'
theorem XK.closed : Closed K.P false (RKd K) (DK K) (XK K) where
 rely := fun {i} _ _ _ h hr => Way.rely (R := RKd K i) (fun _ _ _ => RKd.trans) h hr
 step := by
  intro i g w hs h
  refine Way.step hs fun w₁ h₁ => ?_
  have hw := h w₁ h₁
  cases e : stepG K.P false g w₁ with
  | go g' w' es => rw [e,goes_go] at hw; exact ⟨g',w',es,rfl,hw.1,hw.2⟩
  | _ => rw [e] at hw; exact hw.elim
theorem zm6 (i : Ix) : Terms (RKd K i) (DK K) := ⟨fun _ _ _ => RKd.trans,fun _ => ⟨rfl,rfl,rfl,fun _ _ _ => rfl,fun _ h => h,fun _ h1 h2 => absurd h1 (by omega),rfl,Nat.le_refl _,by simp⟩⟩
theorem xk_false (fr : Bool) (vs : List Value) (g : Goroutine) (w : World) : XK K (fr,vs) g w ↔ ChildS K vs g w := by rw [childS_eq]; exact Iff.rfl
theorem opsX_send {fn : FuncId} {ops : Array Oper} {j : Nat} {rest : List Nat} {o : Oper} {Q : PostX Ix} {a : Act} {fr : Bool} {v : Value} {vs : List Value} {x y : Operand} (hzs : K.zs = .tuple #[]) (ho : ops[j]? = some o) (hw : Region.wanted o (yielded ops a.tmps) = true) (hop : o.op = .send x y) (hx : a.eval x = .chan (some K.A)) (hy : a.eval y = v)
  (hk : ∀ w₁,RC K w w₁ → K.N0 ≤ w₁.heap.size) (h : ∀ w₁,RC K w w₁ → OpsX (XK K) fn ops rest (false,vs) Q (a.put o.dst undef) w₁) : OpsX (XK K) fn ops (j :: rest) (fr,v :: vs) Q a w := by
 intro b k cs hb hke hc
 refine Way.stop fun w₁ h₁ => ?_
 have hr : ∀ w,(execOp a.eval o).run K.P w = .ok (.comm #[scase K.A v K.zs] true .send) w := fun w => by
  unfold execOp
  simp [hop,hx,hy,hzs,scase]
 have he : ∀ w,(execOp a.eval o).events K.P w #[] = #[] := fun w => by
  unfold execOp
  simp [hop]
 refine ⟨rfl,hk w₁ h₁.rc,?_,fun w₂ h₂ => ?_⟩
 ·
  rw [stepG_comm ho hw hke (hr w₁),listed_none (he w₁)]
 ·
  have e : Conc.served (G (b.at a (.inRegion ops (j :: rest) :: k)) cs) undef = G (b.at (a.put o.dst undef) (.inRegion ops rest :: k)) cs := by
   have : (b.at a (.inRegion ops (j :: rest) :: k)).finish undef = b.at (a.put o.dst undef) (.inRegion ops rest :: k) := by rw [Frame.finish_at,ho]; rfl
   simp only [Conc.served,G]
   rw [this]
  rw [e]
  exact (xk_false false vs _ _).1 (h w₂ (h₁.rc.trans h₂) b k cs hb hke hc)
end
structure CS where
 begun : Bool
 returned : Bool
structure DS where
 letter : Int
 missing : Int
 low : Int
 high : Int
def sendV (N : Nat) : Value := .func (.func 113) #[] #[.pointer (some ⟨N + 3,0,none⟩)]
def putV (c1 : Nat) : Value := .func (.func 116) #[.pointer (some ⟨c1,0,none⟩)] #[]
structure HC (N Pb cp c1 c2 : Nat) (c : CS) (d : DS) (w : World) : Prop where
 lv : w.heap[N + 3]? = some (.cells #[.chan (some (N + 2))] 158)
 cl : w.heap[c1]? = some (.cells #[sendV N, .bool c.begun, .bool c.returned] 177)
 de : w.heap[c2]? = some (.cells #[putV c1, .int .i32 d.letter, .int .i64 d.missing, .int .u8 d.low, .int .u8 d.high] 179)
 pc : w.heap[N]? = some (.cells #[.slice (some ⟨Pb,0,none⟩) 1 cp] 62)
 wb : w.heap[N + 7]? = some (.cells #[.pointer (some ⟨N + 6,0,none⟩)] 240)
 h1 : N + 9 ≤ c1
 h2 : N + 9 ≤ c2
 ne : c1 ≠ c2
section
variable {N Pb cp c1 c2 : Nat} {Shun : Loc → Prop} {val : Value} {B : Nat} {Mine : Loc → Prop} {c : CS} {d : DS} {w w₁ : World}
theorem HC.kid1 (h : HC N Pb cp c1 c2 c d w) : (kcfg prog N Pb Shun val B Mine).Kid w c1 := .inr ⟨h.h1,_,h.cl, .inl rfl⟩
theorem HC.kid2 (h : HC N Pb cp c1 c2 c d w) : (kcfg prog N Pb Shun val B Mine).Kid w c2 := .inr ⟨h.h2,_,h.de, .inr (.inl rfl)⟩
theorem HC.rc (h : HC N Pb cp c1 c2 c d w) (r : RC (kcfg prog N Pb Shun val B Mine) w w₁) : HC N Pb cp c1 c2 c d w₁ :=
 ⟨(r _ (.inr (.inr (.inl rfl)))).trans h.lv,(r _ (.inl h.kid1)).trans h.cl,(r _ (.inl h.kid2)).trans h.de,(r _ (.inl (.inl rfl))).trans h.pc,(r _ (.inr (.inr (.inr (.inr (.inl rfl)))))).trans h.wb,h.h1,h.h2,h.ne⟩
theorem HC.rely {i : Ix} (h : HC N Pb cp c1 c2 c d w) (r : RKd (kcfg prog N Pb Shun val B Mine) i w w₁) : HC N Pb cp c1 c2 c d w₁ := h.rc r.rc
theorem HC.size (h : HC N Pb cp c1 c2 c d w) : N + 9 ≤ w.heap.size := by
 have := (Array.getElem?_eq_some_iff.1 h.cl).1
 have := h.h1
 omega
theorem HC.cell_lv (h : HC N Pb cp c1 c2 c d w) : w.cell? ⟨N + 3,0,none⟩ = some (.chan (some (N + 2))) := by simp [World.cell?,h.lv]
theorem HC.cells_cl (h : HC N Pb cp c1 c2 c d w) : w.cell? ⟨c1,0,none⟩ = some (sendV N) ∧ w.cell? ⟨c1,1,none⟩ = some (.bool c.begun) ∧ w.cell? ⟨c1,2,none⟩ = some (.bool c.returned) ∧ w.frozen? ⟨c1,1,none⟩ = false ∧ w.frozen? ⟨c1,2,none⟩ = false := by
 simp [World.cell?,World.frozen?,h.cl]
theorem HC.cells_de (h : HC N Pb cp c1 c2 c d w) : w.cell? ⟨c2,0,none⟩ = some (putV c1) ∧ w.cell? ⟨c2,1,none⟩ = some (.int .i32 d.letter) ∧ w.cell? ⟨c2,2,none⟩ = some (.int .i64 d.missing) ∧ w.cell? ⟨c2,3,none⟩ = some (.int .u8 d.low) ∧ w.cell? ⟨c2,4,none⟩ = some (.int .u8 d.high)
  ∧ w.frozen? ⟨c2,1,none⟩ = false ∧ w.frozen? ⟨c2,2,none⟩ = false ∧ w.frozen? ⟨c2,3,none⟩ = false ∧ w.frozen? ⟨c2,4,none⟩ = false := by
 simp [World.cell?,World.frozen?,h.de]
def EvB (N Pb c1 c2 : Nat) (e : Event) : Prop := ∃ a wr,e = ⟨.cell a,wr,false⟩ ∧ ((a.block = N ∨ a.block = c1 ∨ a.block = c2) ∨ ((a.block = N + 1 ∨ a.block = N + 3 ∨ a.block = N + 5 ∨ a.block = N + 7 ∨ a.block = N + 8 ∨ a.block = Pb) ∧ wr = false))
theorem EvB.evk (hk1 : (kcfg prog N Pb Shun val B Mine).Kid w c1) (hk2 : (kcfg prog N Pb Shun val B Mine).Kid w c2) {e : Event} (he : EvB N Pb c1 c2 e) : EvK (kcfg prog N Pb Shun val B Mine) w e := by
 obtain ⟨a,wr,rfl,h⟩ := he
 refine .inl ⟨a,wr,rfl,?_⟩
 rcases h with (h | h | h) | ⟨h,hw⟩
 ·
  exact .inl (.inl h)
 ·
  exact .inl (by rw [h]; exact hk1)
 ·
  exact .inl (by rw [h]; exact hk2)
 ·
  exact .inr ⟨h,hw⟩
theorem zd1 (hF : HC N Pb cp c1 c2 c d w) {es : Array Event} (h : ∀ e ∈ es,EvB N Pb c1 c2 e) : DK (kcfg prog N Pb Shun val B Mine) w w es :=
 ⟨rfl,rfl,rfl,fun _ _ _ => rfl,fun _ h => h,fun _ h1 h2 => absurd h1 (by omega),rfl,Nat.le_refl _,fun e he => (h e he).evk hF.kid1 hF.kid2⟩
theorem zh4 (hF : HC N Pb cp c1 c2 c d w) {es : Array Event} {b o : Nat} {v : Value} (hb : b = c1 ∨ b = c2) (h : ∀ e ∈ es,EvB N Pb c1 c2 e) : DK (kcfg prog N Pb Shun val B Mine) w (w.setCell ⟨b,o,none⟩ v) es := by
 have hk : ∀ k,(kcfg prog N Pb Shun val B Mine).Kid w k → (kcfg prog N Pb Shun val B Mine).Kid (w.setCell ⟨b,o,none⟩ v) k := by
  intro k hk
  by_cases e : k = b
  ·
   subst e
   rcases hb with rfl | rfl
   ·
    exact .inr ⟨hF.h1,_,zd3 hF.cl v, .inl rfl⟩
   ·
    exact .inr ⟨hF.h2,_,zd3 hF.de v, .inr (.inl rfl)⟩
  ·
   exact hk.of_same (Below.heap_setCell _ _ _ _ e)
 have hbk : (kcfg prog N Pb Shun val B Mine).Kid w b := by
  rcases hb with rfl | rfl
  ·
   exact hF.kid1
  ·
   exact hF.kid2
 have hs : (w.setCell ⟨b,o,none⟩ v).heap.size = w.heap.size := by simp [World.setCell]
 refine ⟨rfl,rfl,rfl,fun k _ hnk => Below.heap_setCell _ _ _ _ ?_,hk,fun _ h1 h2 => absurd h1 (by omega),Below.heap_setCell _ _ _ _ ?_,by omega,fun e he => (h e he).evk (hk _ hF.kid1) (hk _ hF.kid2)⟩
 ·
  rintro rfl; exact hnk hbk
 ·
  show N ≠ b
  have := hF.h1; have := hF.h2; omega
theorem evk_still {o : Nat} {b : Nat} (hb : b = N + 1 ∨ b = N + 3 ∨ b = N + 5 ∨ b = N + 7 ∨ b = N + 8 ∨ b = Pb) : EvB N Pb c1 c2 ⟨.cell ⟨b,o,none⟩,false,false⟩ := ⟨_,_,rfl, .inr ⟨hb,rfl⟩⟩
theorem zc1 {o : Nat} {b : Nat} {wr : Bool} (hb : b = N ∨ b = c1 ∨ b = c2) : EvB N Pb c1 c2 ⟨.cell ⟨b,o,none⟩,wr,false⟩ := ⟨_,_,rfl, .inl hb⟩
theorem drawK : LetsDraw (DK (kcfg prog N Pb Shun val B Mine)) := fun _ => ⟨rfl,rfl,rfl,fun _ _ _ => rfl,fun _ h => h,fun _ h1 h2 => absurd h2 (Nat.not_lt.2 h1),rfl,Nat.le_refl _,by simp⟩
theorem zl1 {i : Ix} (w : World) : RKd (kcfg prog N Pb Shun val B Mine) i w { w with drawn := w.drawn + 1 } := fun _ _ => rfl
theorem HC.set1 (h : HC N Pb cp c1 c2 c d w) (x : Bool) : HC N Pb cp c1 c2 ⟨x,c.returned⟩ d (w.setCell ⟨c1,1,none⟩ (.bool x)) := by
 have h1 := h.h1; have h2 := h.h2; have hn := h.ne
 exact ⟨(HC.off' w _ (by omega)).trans h.lv,zd3 h.cl _,(HC.off' w _ (Ne.symm hn)).trans h.de,(HC.off' w _ (by omega)).trans h.pc,(HC.off' w _ (by omega)).trans h.wb,h1,h2,hn⟩
theorem HC.set2 (h : HC N Pb cp c1 c2 c d w) (x : Bool) : HC N Pb cp c1 c2 ⟨c.begun,x⟩ d (w.setCell ⟨c1,2,none⟩ (.bool x)) := by
 have h1 := h.h1; have h2 := h.h2; have hn := h.ne
 exact ⟨(HC.off' w _ (by omega)).trans h.lv,zd3 h.cl _,(HC.off' w _ (Ne.symm hn)).trans h.de,(HC.off' w _ (by omega)).trans h.pc,(HC.off' w _ (by omega)).trans h.wb,h1,h2,hn⟩
theorem HC.setLetter (h : HC N Pb cp c1 c2 c d w) (x : Int) : HC N Pb cp c1 c2 c { d with letter := x } (w.setCell ⟨c2,1,none⟩ (.int .i32 x)) := by
 have h1 := h.h1; have h2 := h.h2; have hn := h.ne
 exact ⟨(HC.off' w _ (by omega)).trans h.lv,(HC.off' w _ hn).trans h.cl,zd3 h.de _,(HC.off' w _ (by omega)).trans h.pc,(HC.off' w _ (by omega)).trans h.wb,h1,h2,hn⟩
theorem HC.setMissing (h : HC N Pb cp c1 c2 c d w) (x : Int) : HC N Pb cp c1 c2 c { d with missing := x } (w.setCell ⟨c2,2,none⟩ (.int .i64 x)) := by
 have h1 := h.h1; have h2 := h.h2; have hn := h.ne
 exact ⟨(HC.off' w _ (by omega)).trans h.lv,(HC.off' w _ hn).trans h.cl,zd3 h.de _,(HC.off' w _ (by omega)).trans h.pc,(HC.off' w _ (by omega)).trans h.wb,h1,h2,hn⟩
theorem HC.setLow (h : HC N Pb cp c1 c2 c d w) (x : Int) : HC N Pb cp c1 c2 c { d with low := x } (w.setCell ⟨c2,3,none⟩ (.int .u8 x)) := by
 have h1 := h.h1; have h2 := h.h2; have hn := h.ne
 exact ⟨(HC.off' w _ (by omega)).trans h.lv,(HC.off' w _ hn).trans h.cl,zd3 h.de _,(HC.off' w _ (by omega)).trans h.pc,(HC.off' w _ (by omega)).trans h.wb,h1,h2,hn⟩
theorem HC.setHigh (h : HC N Pb cp c1 c2 c d w) (x : Int) : HC N Pb cp c1 c2 c { d with high := x } (w.setCell ⟨c2,4,none⟩ (.int .u8 x)) := by
 have h1 := h.h1; have h2 := h.h2; have hn := h.ne
 exact ⟨(HC.off' w _ (by omega)).trans h.lv,(HC.off' w _ hn).trans h.cl,zd3 h.de _,(HC.off' w _ (by omega)).trans h.pc,(HC.off' w _ (by omega)).trans h.wb,h1,h2,hn⟩
theorem send_x (hF : HC N Pb cp c1 c2 c d w) (fr : Bool) (r : Int) (vs : List Value) :
  zj8 prog (XK (kcfg prog N Pb Shun val B Mine)) 113 #[.int .i32 r, .pointer (some ⟨N + 3,0,none⟩)] (fr, .int .i32 r :: vs) w (fun i' _ w' => i' = (false,vs) ∧ HC N Pb cp c1 c2 c d w') := by
 have C : Closed prog false (RKd (kcfg prog N Pb Shun val B Mine)) (DK (kcfg prog N Pb Shun val B Mine)) (XK (kcfg prog N Pb Shun val B Mine)) := XK.closed (K := (kcfg prog N Pb Shun val B Mine))
 have T := zm6 (K := (kcfg prog N Pb Shun val B Mine))
 refine zf5 func113 (by rfl) rfl ?_
 simp only [ntmps113,List.size_toArray,List.length_cons,List.length_nil,Nat.reduceAdd,Nat.reduceSub,Array.replicate_succ,Array.replicate_zero,List.push_toArray,List.append_toArray,List.nil_append,List.cons_append]
 refine zb2 C T ?_
 simp only [szR,Nat.reduceAdd]
 refine za4 C rfl (by rfl) fun w₁ hR Kx hKx => ?_
 replace hF := hF.rely hR
 clear hR
 have hc := hF.cell_lv
 go_simp
 refine hKx _ _ ⟨?_,?_⟩
 ·
  refine zd1 hF ?_
  co_evs (exact evk_still (.inr (.inl rfl)))
 clear hKx Kx hc
 try walk_nrm
 refine za4 C rfl (by rfl) fun w₂ hR Kx hKx => ?_
 replace hF := hF.rely hR
 clear hR
 go_simp
 refine hKx _ _ ⟨?_,?_⟩
 ·
  co_quiet (T (true, []))
 clear hKx Kx
 try walk_nrm
 refine opsX_send (K := (kcfg prog N Pb Shun val B Mine)) (v := .int .i32 r) rfl rfl (by rfl) rfl rfl rfl (fun w₃ h₃ => (hF.rc h₃).size) fun w₃ h₃ => ?_
 replace hF := hF.rc h₃
 refine zb6 C T ?_
 exact ⟨.inl rfl,rfl,_,resultsC_none (by rfl) _,rfl,hF⟩
end
end
end Go.Proofs.YtgcaionclkbehaaGreatDoor
