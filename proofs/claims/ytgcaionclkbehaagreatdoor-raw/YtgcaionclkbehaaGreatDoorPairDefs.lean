import Derived.Test.YtgcaionclkbehaaGreatDoorTree
import Derived.Conc.FxEnd
import Derived.Conc.Token
set_option linter.all false
namespace Go.Proofs.YtgcaionclkbehaaGreatDoor
open Go.Conc
def tyOf : Obj → TypeId
 | .cells _ t _ => t
 | .stringIter s _ => 1000 + s.size
 | _ => 999
def lowLoc (n : Nat) (l : Loc) : Prop := (∀ ad : Addr,l = .cell ad → ad.block < n) ∧ ∀ b,l = .obj b → b < n
theorem lowLoc.mono {n m : Nat} {l : Loc} (h : lowLoc n l) (hm : n ≤ m) : lowLoc m l := ⟨fun ad e => Nat.lt_of_lt_of_le (h.1 ad e) hm,fun b e => Nat.lt_of_lt_of_le (h.2 b e) hm⟩
structure Cfg where
 P : Program
 ty : TypeId
 A : Nat
 E : Nat
 Wg : Nat
 C : Nat
 Kid0 : Nat → Prop
 N0 : Nat
 KT : TypeId → Prop
 Still : Nat → Prop
 Shun : Loc → Prop
 B : Nat
 z : Value
 zs : Value
 zE : Value
 val : Value
 Mine : Loc → Prop
namespace Cfg
variable (K : Cfg)
def Syn (b : Nat) : Prop := b = K.A ∨ b = K.E ∨ b = K.Wg
def Kid (w : World) (b : Nat) : Prop := K.Kid0 b ∨ (K.N0 ≤ b ∧ ∃ o,w.heap[b]? = some o ∧ K.KT (tyOf o))
def kidS (S : Nat → Prop) (l : Loc) : Prop := (∃ a,l = .cell a ∧ S a.block) ∨ l = .obj K.E ∨ ∃ b,l = .obj b ∧ S b
abbrev kidL (w : World) : Loc → Prop := K.kidS (K.Kid w)
def stillL (l : Loc) : Prop := ∃ a,l = .cell a ∧ K.Still a.block
def cases : Array CommCase := #[rcase K.A K.z,rcase K.E K.zE]
def wgIs (w : World) (st sm : Int) : Prop := w.heap[K.Wg]? = some (.cells #[.int .u64 st, .int .u32 sm] K.ty)
def stW : Addr := ⟨K.Wg,0,none⟩
structure Fit : Prop where
 AE : K.A ≠ K.E
 AW : K.A ≠ K.Wg
 EW : K.E ≠ K.Wg
 k0A : ¬ K.Kid0 K.A
 k0E : ¬ K.Kid0 K.E
 k0W : ¬ K.Kid0 K.Wg
 A0 : K.A < K.N0
 E0 : K.E < K.N0
 W0 : K.Wg < K.N0
 sA : ¬ K.Still K.A
 sE : ¬ K.Still K.E
 sW : ¬ K.Still K.Wg
 s0 : ∀ b,K.Still b → b < K.N0
 c0 : ∀ b,K.Kid0 b → b < K.N0
 k0s : ∀ b,K.Kid0 b → ¬ K.Still b
 k0C : K.Kid0 K.C
 shunW : ∀ a : Addr,a.block = K.Wg → K.Shun (.cell a)
 shunCell : ∀ l,K.Shun l → ∃ a,l = .cell a ∧ a.block < K.N0
 k0h : ∀ a : Addr,K.Kid0 a.block → ¬ K.Shun (.cell a)
 sh : ∀ a : Addr,K.Still a.block → ¬ K.Shun (.cell a)
 WB : K.Wg < K.B
 CB : K.C < K.B
end Cfg
variable (K : Cfg)
theorem Cfg.Kid.low {K : Cfg} {w : World} {b : Nat} (h : K.Kid w b) (hb : b < K.N0) : K.Kid0 b := h.elim id fun z => absurd z.1 (by omega)
theorem Cfg.Kid.lt {K : Cfg} (F : K.Fit) {w : World} {b : Nat} (hn : K.N0 ≤ w.heap.size) (h : K.Kid w b) : b < w.heap.size := by
 rcases h with h | ⟨_,o,h,_⟩
 ·
  exact Nat.lt_of_lt_of_le (F.c0 b h) hn
 ·
  exact (Array.getElem?_eq_some_iff.1 h).1
theorem Cfg.Kid.of_same {K : Cfg} {w w' : World} {b : Nat} (h : K.Kid w b) (e : w'.heap[b]? = w.heap[b]?) : K.Kid w' b := by
 rcases h with h | ⟨h1,o,h,h2⟩
 ·
  exact .inl h
 ·
  exact .inr ⟨h1,o,e.trans h,h2⟩
theorem Cfg.kidS.mono {K : Cfg} {S S' : Nat → Prop} (h : ∀ b,S b → S' b) {l : Loc} (hl : K.kidS S l) : K.kidS S' l := by
 rcases hl with ⟨a,rfl,ha⟩ | rfl | ⟨b,rfl,ha⟩
 ·
  exact .inl ⟨a,rfl,h _ ha⟩
 ·
  exact .inr (.inl rfl)
 ·
  exact .inr (.inr ⟨b,rfl,h _ ha⟩)
theorem Cfg.Fit.kA {K : Cfg} (F : K.Fit) (w : World) : ¬ K.Kid w K.A := fun h => F.k0A (h.low F.A0)
theorem Cfg.Fit.kE {K : Cfg} (F : K.Fit) (w : World) : ¬ K.Kid w K.E := fun h => F.k0E (h.low F.E0)
theorem Cfg.Fit.kW {K : Cfg} (F : K.Fit) (w : World) : ¬ K.Kid w K.Wg := fun h => F.k0W (h.low F.W0)
theorem Cfg.Fit.ks {K : Cfg} (F : K.Fit) (w : World) (b : Nat) (h : K.Kid w b) : ¬ K.Still b := fun hs => F.k0s b (h.low (F.s0 b hs)) hs
theorem Cfg.Fit.kC {K : Cfg} (F : K.Fit) (w : World) : K.Kid w K.C := .inl F.k0C
theorem Cfg.Fit.kh {K : Cfg} (F : K.Fit) (w : World) (a : Addr) (h : K.Kid w a.block) : ¬ K.Shun (.cell a) := fun hs => by
 obtain ⟨a',e,hl⟩ := F.shunCell _ hs
 cases e
 exact F.k0h a (h.low hl) hs
theorem Cfg.Fit.apart {K : Cfg} (F : K.Fit) {S : Nat → Prop} (hS : ∃ w, ∀ b,S b → K.Kid w b) : Apart K.Shun (K.kidS S) K.stillL := by
 obtain ⟨w,hS⟩ := hS
 refine ⟨?_,?_,?_⟩
 ·
  rintro l (⟨a,rfl,h⟩ | rfl | ⟨a,rfl,h⟩) ⟨b,e,h'⟩
  ·
   cases e; exact F.ks w _ (hS _ h) h'
  ·
   cases e
  ·
   cases e
 ·
  rintro l (⟨a,rfl,h⟩ | rfl | ⟨a,rfl,h⟩) hs
  ·
   exact F.kh w a (hS _ h) hs
  iterate 2
   ·
    obtain ⟨a,e,_⟩ := F.shunCell _ hs; cases e
 ·
  rintro l ⟨a,rfl,h⟩; exact F.sh a h
theorem Cfg.Fit.CW {K : Cfg} (F : K.Fit) : K.C ≠ K.Wg := fun e => F.k0W (e ▸ F.k0C)
structure RM (w w₁ : World) : Prop where
 tape : w₁.tape = w.tape
 os : w₁.os = w.os
 output : w₁.output = w.output
 block : ∀ b,b < w.heap.size → ¬ K.Kid w b → ¬ K.Syn b → w₁.heap[b]? = w.heap[b]?
 size : w.heap.size ≤ w₁.heap.size
def RC (w w₁ : World) : Prop := ∀ b,K.Kid w b ∨ K.Still b → w₁.heap[b]? = w.heap[b]?
structure RJ (S : Nat → Prop) (w w₁ : World) : Prop where
 rc : ∀ b,S b ∨ K.Still b → w₁.heap[b]? = w.heap[b]?
 live : Go.ConcN.WgLive K.ty K.Wg w → Go.ConcN.WgLive K.ty K.Wg w₁
def EvK (w' : World) (e : Event) : Prop := (∃ a wr,e = ⟨.cell a,wr,false⟩ ∧ (K.Kid w' a.block ∨ (K.Still a.block ∧ wr = false))) ∨ ∃ b wr,e = ⟨.obj b,wr,false⟩ ∧ K.Kid w' b
def EvM (w' : World) (e : Event) : Prop := (∀ x,(MemAct.ofEvent e).touch? = some x → Ok0 K.Shun (K.kidL w') K.stillL x ∧ lowLoc w'.heap.size x.loc) ∧ e.loc ≠ .mark .disable ∧ e.loc ≠ .mark .enable ∧ MemAct.ofEvent e ≠ .mark (.release K.stW)
structure DK (w w' : World) (es : Array Event) : Prop where
 tape : w'.tape = w.tape
 os : w'.os = w.os
 output : w'.output = w.output
 block : ∀ b,b < w.heap.size → ¬ K.Kid w b → w'.heap[b]? = w.heap[b]?
 stay : ∀ b,K.Kid w b → K.Kid w' b
 born : ∀ b,w.heap.size ≤ b → b < w'.heap.size → K.Kid w' b
 keep : w'.heap[K.C]? = w.heap[K.C]?
 grow : w.heap.size ≤ w'.heap.size
 evs : ∀ e ∈ es,EvK K w' e
structure DM (w w' : World) (es : Array Event) : Prop where
 block : ∀ b,K.Kid w b ∨ K.Still b ∨ K.Syn b → w'.heap[b]? = w.heap[b]?
 born : ∀ b,K.Kid w' b → K.Kid w b
 grow : w.heap.size ≤ w'.heap.size
 evs : ∀ e ∈ es,EvM K w' e
section
variable {K : Cfg} {w w₁ w₂ : World}
theorem RM.refl (w : World) : RM K w w := ⟨rfl,rfl,rfl,fun _ _ _ _ => rfl,Nat.le_refl _⟩
theorem RM.trans (h : RM K w w₁) (h' : RM K w₁ w₂) : RM K w w₂ := ⟨h'.tape.trans h.tape,h'.os.trans h.os,h'.output.trans h.output,fun b l a c => (h'.block b (Nat.lt_of_lt_of_le l h.size) (fun z => a (z.of_same (h.block b l a c).symm)) c).trans (h.block b l a c),Nat.le_trans h.size h'.size⟩
theorem RM.at (w : World) (d : Nat) : RM K w (w.at d) := ⟨rfl,rfl,rfl,fun _ _ _ _ => rfl,Nat.le_refl _⟩
theorem RC.refl (w : World) : RC K w w := fun _ _ => rfl
theorem RC.trans (h : RC K w w₁) (h' : RC K w₁ w₂) : RC K w w₂ := fun b a => (h' b (a.imp (fun z => z.of_same (h b a)) id)).trans (h b a)
theorem RC.at (w : World) (d : Nat) : RC K w (w.at d) := fun _ _ => rfl
theorem RJ.refl {S : Nat → Prop} (w : World) : RJ K S w w := ⟨fun _ _ => rfl,id⟩
theorem RJ.trans {S : Nat → Prop} (h : RJ K S w w₁) (h' : RJ K S w₁ w₂) : RJ K S w w₂ := ⟨fun b z => (h'.rc b z).trans (h.rc b z),h'.live ∘ h.live⟩
end
variable [Go.ConcX.Payload] [Go.ConcR.Payload]
theorem RJ.rw {K : Cfg} {S : Nat → Prop} (hC : S K.C) {w w₁ : World} (h : RJ K S w w₁) : Go.ConcN.RW K.ty K.Wg K.C 1 0 0 w w₁ := by
 have e := h.rc K.C (.inl hC)
 refine ⟨fun _ h => absurd h (by omega),h.live,?_,by simp [World.cell?,e]⟩
 rintro ⟨cs,hc,hn⟩
 exact ⟨cs,e.trans hc,hn⟩
def AtSend (v : Value) (Next : Goroutine → World → Prop) (g : Goroutine) (w : World) : Prop :=
 g.status = .running ∧ K.N0 ≤ w.heap.size ∧ stepG K.P false g w = .comm g #[scase K.A v K.zs] true .send w #[] ∧ ∀ w₁,RC K w w₁ → Next (Conc.served g undef) w₁
def OwnK (S : Nat → Prop) : Nat → Loc → Prop := fun _ l => K.kidS S l
def RdK : Nat → Loc → Prop := fun _ l => K.stillL l
abbrev RWk := Go.ConcN.RW K.ty K.Wg K.C 1 0 0
abbrev DJ (S : Nat → Prop) := Go.ConcN.DWs K.Wg (OwnK K S) (RdK K) K.C 1 1
abbrev AtR0k := Go.ConcN.AtR0 K.P K.ty K.Wg K.C 1 0 1 K.val
abbrev AtK1k := Go.ConcN.AtK1 K.P K.ty K.Wg K.C 1 0 1
abbrev AtD1k := Go.ConcN.AtD1 K.P K.ty K.Wg K.C 1 0 1
abbrev AtD2k := Go.ConcN.AtD2 K.P K.ty K.Wg K.C 1 0 1
abbrev AtD3k := Go.ConcN.AtD3 K.P K.ty K.Wg K.C 1 0 1
abbrev AtD4k := Go.ConcN.AtD4 K.P K.ty K.Wg
abbrev DC0k := Go.ConcR.DC0
def AtClose (g : Goroutine) (w : World) : Prop :=
 g.status = .running ∧ K.N0 ≤ w.heap.size ∧ mayWake K.P g = true ∧ ∃ g',g'.status = .running ∧
  (w.heap[K.E]? = some (.chan 0 #[] false 0 0 false) → stepG K.P false g w = .go g' (w.setChan K.E 0 #[] true 0 0 false) (closeEvents K.E)) ∧
  ∀ w₁,RC K w w₁ → Go.ConcN.WgLive K.ty K.Wg w₁ → Way K.P false (RJ K (K.Kid w₁)) (DJ K (K.Kid w₁)) (AtR0k K) g' w₁
def ChildS : List Value → Goroutine → World → Prop
 | [] => Way K.P false (RC K) (DK K) (AtClose K)
 | v :: vs => Way K.P false (RC K) (DK K) (AtSend K v (ChildS vs))
def sendOf : List Value → Goroutine → World → Prop
 | [] => AtClose K
 | v :: vs => AtSend K v (ChildS K vs)
theorem childS_eq (vs : List Value) : ChildS K vs = Way K.P false (RC K) (DK K) (sendOf K vs) := by cases vs <;> rfl
section main
variable [Go.ConcX.Shy K.Wg K.C] (L : Nat) (AnchW : Goroutine → World → Prop) (Post : Value → World → Prop)
abbrev RPak := Go.ConcX.RPa K.ty K.Wg K.C [K.val]
abbrev RPbk := Go.ConcX.RPb K.ty K.Wg K.C [K.val]
abbrev KPak := Go.ConcX.KPa K.ty K.Wg K.C [K.val]
abbrev Fullk := Go.ConcX.Full K.C [K.val]
abbrev DPik := Go.ConcX.DPi K.Mine K.Wg K.C L
abbrev AtKdk := Go.ConcX.AtKd K.P K.ty K.Wg K.C L [K.val] K.Mine AnchW
abbrev AtW1k := Go.ConcX.AtW1 K.P K.ty K.Wg K.C L [K.val] K.Mine AnchW Post
abbrev AtW2k := Go.ConcX.AtW2 K.P K.ty K.Wg K.C L [K.val] K.Mine AnchW Post
abbrev AtW3k := Go.ConcX.AtW3 K.P K.ty K.Wg K.C L [K.val] K.Mine Post
abbrev AtW4k := Go.ConcX.AtW4 K.P K.Wg K.C L K.Mine Post
abbrev AtKek := Go.ConcX.AtKe K.P K.Wg K.C L K.Mine Post
abbrev AtAcqk := Go.ConcX.AtAcq K.P K.Wg K.C L K.Mine Post
abbrev AtRetk := Go.ConcX.AtRetJ K.P K.Wg K.C K.Mine Post
def SelAt (k : Nat) (v : Value) (ok : Bool) (Next : Goroutine → World → Prop) (g g₂ : Goroutine) (w : World) : Prop :=
 g.frame = g₂.frame ∧ g.callers = g₂.callers ∧ g.dying = g₂.dying ∧ (∀ w₁,RM K w w₁ → stepG K.P true g w₁ = .comm g₂ K.cases true .select w₁ #[]) ∧ ∀ w₁,RM K w w₁ → K.N0 ≤ w₁.heap.size → Next (Conc.served g₂ (commResult K.cases .select k v ok)) w₁
def AtSel (k : Nat) (v : Value) (ok : Bool) (Next : Goroutine → World → Prop) (g : Goroutine) (w : World) : Prop := g.status = .running ∧ ∃ g₂,SelAt K k v ok Next g g₂ w
def AtJoin (g : Goroutine) (w : World) : Prop := g.status = .running ∧ (KPak K w → ∀ L,K.N0 ≤ L → Way K.P true (RPak K) (DPik K L) (AtKdk K L AnchW) g w)
def JoinM (g : Goroutine) (w : World) : Prop := Way K.P true (RM K) (DM K) (AtJoin K AnchW) g w
def MainS : List Value → Goroutine → World → Prop
 | [] => Way K.P true (RM K) (DM K) (AtSel K 1 K.zE false (JoinM K AnchW))
 | v :: vs => Way K.P true (RM K) (DM K) (AtSel K 0 v true (MainS vs))
def selOf : List Value → Goroutine → World → Prop
 | [] => AtSel K 1 K.zE false (JoinM K AnchW)
 | v :: vs => AtSel K 0 v true (MainS K AnchW vs)
def selAt : List Value → Goroutine → Goroutine → World → Prop
 | [] => SelAt K 1 K.zE false (JoinM K AnchW)
 | v :: vs => SelAt K 0 v true (MainS K AnchW vs)
theorem selOf_iff (vs : List Value) (g : Goroutine) (w : World) : selOf K AnchW vs g w ↔ g.status = .running ∧ ∃ g₂,selAt K AnchW vs g g₂ w := by cases vs <;> exact Iff.rfl
theorem mainS_eq (vs : List Value) : MainS K AnchW vs = Way K.P true (RM K) (DM K) (selOf K AnchW vs) := by cases vs <;> rfl
end main
abbrev Ch := Sum (List Value) (Sum (List Value) (Sum (Value × List Value) (Sum (Unit) (Sum (Unit) (Sum (Unit) (Sum (Unit) (Sum (Unit) (Sum (Unit) (Nat × Nat)))))))))
abbrev Ch.fresh (vs : List Value) : Ch := .inl vs
abbrev Ch.work (vs : List Value) : Ch := .inr (.inl vs)
abbrev Ch.parkd (v : Value) (vs : List Value) : Ch := .inr (.inr (.inl (v,vs)))
abbrev Ch.r0 : Ch := .inr (.inr (.inr (.inl ())))
abbrev Ch.k1 : Ch := .inr (.inr (.inr (.inr (.inl ()))))
abbrev Ch.d1 : Ch := .inr (.inr (.inr (.inr (.inr (.inl ())))))
abbrev Ch.d2 : Ch := .inr (.inr (.inr (.inr (.inr (.inr (.inl ()))))))
abbrev Ch.d3 : Ch := .inr (.inr (.inr (.inr (.inr (.inr (.inr (.inl ())))))))
abbrev Ch.d4 : Ch := .inr (.inr (.inr (.inr (.inr (.inr (.inr (.inr (.inl ()))))))))
abbrev Ch.quit (n : Nat) (d : Nat) : Ch := .inr (.inr (.inr (.inr (.inr (.inr (.inr (.inr (.inr ((n,d))))))))))
theorem Ch.casesT {motive : Ch → Prop} (fresh : ∀ (vs : List Value),motive (Ch.fresh vs)) (work : ∀ (vs : List Value),motive (Ch.work vs)) (parkd : ∀ (v : Value) (vs : List Value),motive (Ch.parkd v vs)) (r0 : motive Ch.r0) (k1 : motive Ch.k1) (d1 : motive Ch.d1) (d2 : motive Ch.d2) (d3 : motive Ch.d3) (d4 : motive Ch.d4) (quit : ∀ (n : Nat) (d : Nat),motive (Ch.quit n d)) (x : Ch) : motive x := by
 rcases x with vs | vs | ⟨v,vs⟩ | _ | _ | _ | _ | _ | _ | ⟨n,d⟩
 ·
  exact fresh vs
 ·
  exact work vs
 ·
  exact parkd v vs
 ·
  exact r0
 ·
  exact k1
 ·
  exact d1
 ·
  exact d2
 ·
  exact d3
 ·
  exact d4
 ·
  exact quit n d
abbrev Ma := Sum (List Value) (Sum (List Value) (Sum (List Value) (Sum (Unit) (Sum (Unit) (Sum (Unit) (Sum (Unit) (Sum (Unit) (Sum (Unit) (Sum (Unit) (Sum (Unit) (Unit)))))))))))
abbrev Ma.front (vs : List Value) : Ma := .inl vs
abbrev Ma.walk (vs : List Value) : Ma := .inr (.inl vs)
abbrev Ma.parkd (vs : List Value) : Ma := .inr (.inr (.inl vs))
abbrev Ma.kd : Ma := .inr (.inr (.inr (.inl ())))
abbrev Ma.w1 : Ma := .inr (.inr (.inr (.inr (.inl ()))))
abbrev Ma.w2 : Ma := .inr (.inr (.inr (.inr (.inr (.inl ())))))
abbrev Ma.w3 : Ma := .inr (.inr (.inr (.inr (.inr (.inr (.inl ()))))))
abbrev Ma.blk : Ma := .inr (.inr (.inr (.inr (.inr (.inr (.inr (.inl ())))))))
abbrev Ma.w4 : Ma := .inr (.inr (.inr (.inr (.inr (.inr (.inr (.inr (.inl ()))))))))
abbrev Ma.ke : Ma := .inr (.inr (.inr (.inr (.inr (.inr (.inr (.inr (.inr (.inl ())))))))))
abbrev Ma.acq : Ma := .inr (.inr (.inr (.inr (.inr (.inr (.inr (.inr (.inr (.inr (.inl ()))))))))))
abbrev Ma.over : Ma := .inr (.inr (.inr (.inr (.inr (.inr (.inr (.inr (.inr (.inr (.inr (())))))))))))
theorem Ma.casesT {motive : Ma → Prop} (front : ∀ (vs : List Value),motive (Ma.front vs)) (walk : ∀ (vs : List Value),motive (Ma.walk vs)) (parkd : ∀ (vs : List Value),motive (Ma.parkd vs)) (kd : motive Ma.kd) (w1 : motive Ma.w1) (w2 : motive Ma.w2) (w3 : motive Ma.w3) (blk : motive Ma.blk) (w4 : motive Ma.w4) (ke : motive Ma.ke) (acq : motive Ma.acq) (over : motive Ma.over) (x : Ma) : motive x := by
 rcases x with vs | vs | vs | _ | _ | _ | _ | _ | _ | _ | _ | _
 ·
  exact front vs
 ·
  exact walk vs
 ·
  exact parkd vs
 ·
  exact kd
 ·
  exact w1
 ·
  exact w2
 ·
  exact w3
 ·
  exact blk
 ·
  exact w4
 ·
  exact ke
 ·
  exact acq
 ·
  exact over
def ChM (S : Nat → Prop) : Ch → Tr → Goroutine → World → Prop
 | .inl vs, τ,g,w => TGoes K.P false (RC K) (DK K) (sendOf K vs) τ g w
 | .inr (.inl vs), τ,g,w => TGoes K.P false (RC K) (DK K) (sendOf K vs) τ g w
 | .inr (.inr (.inl (v,vs))),_,g,w => ∃ g₂,g = parked g₂ #[scase K.A v K.zs] .send ∧ ∀ w₁,RC K w w₁ → ChildS K vs (Conc.served g₂ undef) w₁
 | .inr (.inr (.inr (.inl _))), τ,g,w => TGoes K.P false (RJ K S) (DJ K S) (AtR0k K) τ g w
 | .inr (.inr (.inr (.inr (.inl _)))), τ,g,w => TGoes K.P false (RWk K) DC0k (AtK1k K) τ g w
 | .inr (.inr (.inr (.inr (.inr (.inl _))))), τ,g,w => TGoes K.P false (RWk K) DC0k (AtD1k K) τ g w
 | .inr (.inr (.inr (.inr (.inr (.inr (.inl _)))))), τ,g,w => TGoes K.P false (RWk K) DC0k (AtD2k K) τ g w
 | .inr (.inr (.inr (.inr (.inr (.inr (.inr (.inl _))))))), τ,g,w => TGoes K.P false (RWk K) DC0k (AtD3k K) τ g w
 | .inr (.inr (.inr (.inr (.inr (.inr (.inr (.inr (.inl _)))))))), τ,g,w => TGoes K.P false (RWk K) DC0k (AtD4k K) τ g w
 | .inr (.inr (.inr (.inr (.inr (.inr (.inr (.inr (.inr ((n,d)))))))))), τ,g,_ => QuitsD K.P n d g ∧ τ = .ofNat n
section main
variable [Go.ConcX.Shy K.Wg K.C] (L : Nat) (AnchW : Goroutine → World → Prop) (Post : Value → World → Prop)
def MaM : Ma → Tr → Goroutine → World → Prop
 | .inl vs, τ,g,w => TGoes K.P true (RM K) (DM K) (selOf K AnchW vs) τ g w
 | .inr (.inl vs), τ,g,w => TGoes K.P true (RM K) (DM K) (selOf K AnchW vs) τ g w
 | .inr (.inr (.inl vs)),_,g,w => ∃ g₀ g₂,g = parked g₂ K.cases .select ∧ selAt K AnchW vs g₀ g₂ w
 | .inr (.inr (.inr (.inl _))), τ,g,w => TGoes K.P true (RPak K) (DPik K L) (AtKdk K L AnchW) τ g w
 | .inr (.inr (.inr (.inr (.inl _)))), τ,g,w => TGoes K.P true (RPak K) (DPik K L) (AtW1k K L AnchW Post) τ g w
 | .inr (.inr (.inr (.inr (.inr (.inl _))))), τ,g,w => TGoes K.P true (RPak K) (DPik K L) (AtW2k K L AnchW Post) τ g w
 | .inr (.inr (.inr (.inr (.inr (.inr (.inl _)))))), τ,g,w => TGoes K.P true (RPbk K) (DPik K L) (AtW3k K L Post) τ g w
 | .inr (.inr (.inr (.inr (.inr (.inr (.inr (.inl _))))))), τ,g,w => ∃ g₂ : Goroutine,g = { g₂ with status := .blocked } ∧ g₂.status = .running ∧ g₂.offers = none ∧ TGoes K.P true (RPbk K) (DPik K L) (AtW3k K L Post) τ g₂ w
 | .inr (.inr (.inr (.inr (.inr (.inr (.inr (.inr (.inl _)))))))), τ,g,w => TGoes K.P true AtRel (DPik K L) (AtW4k K L Post) τ g w
 | .inr (.inr (.inr (.inr (.inr (.inr (.inr (.inr (.inr (.inl _))))))))), τ,g,w => TGoes K.P true AtRel (DPik K L) (AtKek K L Post) τ g w
 | .inr (.inr (.inr (.inr (.inr (.inr (.inr (.inr (.inr (.inr (.inl _)))))))))), τ,g,w => TGoes K.P true AtRel (DPik K L) (AtAcqk K L Post) τ g w
 | .inr (.inr (.inr (.inr (.inr (.inr (.inr (.inr (.inr (.inr (.inr (_))))))))))), τ,g,w => TGoes K.P true (RM K) (DM K) (AtJoin K AnchW) τ g w
end main
def Ch.rel : Ch → Bool
 | .inl _ | .inr (.inl _) | .inr (.inr (.inl _)) | .inr (.inr (.inr (.inl _))) => false
 | _ => true
def Ch.shut : Ch → Bool
 | .inl _ | .inr (.inl _) | .inr (.inr (.inl _)) => false
 | _ => true
def Ch.deaf : Ch → Nat
 | .inr (.inr (.inr (.inr (.inr (.inl _))))) | .inr (.inr (.inr (.inr (.inr (.inr (.inl _)))))) | .inr (.inr (.inr (.inr (.inr (.inr (.inr (.inl _))))))) | .inr (.inr (.inr (.inr (.inr (.inr (.inr (.inr (.inl _)))))))) => 1
 | .inr (.inr (.inr (.inr (.inr (.inr (.inr (.inr (.inr ((_,d)))))))))) => d
 | _ => 0
def Ch.left : Ch → Nat
 | .inl vs | .inr (.inl vs) => vs.length
 | .inr (.inr (.inl (_,vs))) => vs.length + 1
 | _ => 0
def Ch.rank : Ch → Nat
 | .inl _ | .inr (.inl _) => 9
 | .inr (.inr (.inl _)) => 8
 | .inr (.inr (.inr (.inl _))) => 7
 | .inr (.inr (.inr (.inr (.inl _)))) => 6
 | .inr (.inr (.inr (.inr (.inr (.inl _))))) => 5
 | .inr (.inr (.inr (.inr (.inr (.inr (.inl _)))))) => 4
 | .inr (.inr (.inr (.inr (.inr (.inr (.inr (.inl _))))))) => 3
 | .inr (.inr (.inr (.inr (.inr (.inr (.inr (.inr (.inl _)))))))) => 2
 | .inr (.inr (.inr (.inr (.inr (.inr (.inr (.inr (.inr (_))))))))) => 1
def Ma.deaf : Ma → Nat
 | .inr (.inr (.inr (.inr (.inl _)))) | .inr (.inr (.inr (.inr (.inr (.inl _))))) | .inr (.inr (.inr (.inr (.inr (.inr (.inl _)))))) | .inr (.inr (.inr (.inr (.inr (.inr (.inr (.inl _))))))) | .inr (.inr (.inr (.inr (.inr (.inr (.inr (.inr (.inl _)))))))) | .inr (.inr (.inr (.inr (.inr (.inr (.inr (.inr (.inr (.inl _))))))))) => 1
 | _ => 0
def Ma.early : Ma → Bool
 | .inl _ | .inr (.inl _) | .inr (.inr (.inl _)) | .inr (.inr (.inr (.inr (.inr (.inr (.inr (.inr (.inr (.inr (.inr (_))))))))))) => true
 | _ => false
def Ma.rank (done : Bool) : Ma → Nat
 | .inl _ | .inr (.inl _) => 10
 | .inr (.inr (.inl _)) => 9
 | .inr (.inr (.inr (.inl _))) => 7
 | .inr (.inr (.inr (.inr (.inl _)))) => if done then 5 else 6
 | .inr (.inr (.inr (.inr (.inr (.inl _))))) => if done then 6 else 5
 | .inr (.inr (.inr (.inr (.inr (.inr (.inl _)))))) => 4
 | .inr (.inr (.inr (.inr (.inr (.inr (.inr (.inl _))))))) => 3
 | .inr (.inr (.inr (.inr (.inr (.inr (.inr (.inr (.inl _)))))))) => 3
 | .inr (.inr (.inr (.inr (.inr (.inr (.inr (.inr (.inr (.inl _))))))))) => 2
 | .inr (.inr (.inr (.inr (.inr (.inr (.inr (.inr (.inr (.inr (.inl _)))))))))) => 1
 | .inr (.inr (.inr (.inr (.inr (.inr (.inr (.inr (.inr (.inr (.inr (_))))))))))) => 8
def Ch.done : Ch → Bool
 | .inr (.inr (.inr (.inr (.inr (.inr (.inr (.inr (.inr (_))))))))) => true
 | _ => false
def KK : Int := 4294967296
def Pair : Ch → Ma → Int → Int → Prop
 | .inl vs, .inl vs',st,sm | .inl vs, .inr (.inr (.inl vs')),st,sm | .inr (.inl vs), .inr (.inl vs'),st,sm | .inr (.inl vs), .inr (.inr (.inl vs')),st,sm => vs' = vs ∧ st = KK ∧ sm = 0
 | .inr (.inr (.inl (v,vs))), .inr (.inl vs'),st,sm => vs' = v :: vs ∧ st = KK ∧ sm = 0
 | .inr (.inr (.inr (.inl _))), .inr (.inl vs),st,sm | .inr (.inr (.inr (.inr (.inl _)))), .inr (.inl vs),st,sm | .inr (.inr (.inr (.inr (.inr (.inl _))))), .inr (.inl vs),st,sm => vs = [] ∧ st = KK ∧ sm = 0
 | .inr (.inr (.inr (.inl _))), .inr (.inr (.inr (.inr (.inr (.inr (.inr (.inr (.inr (.inr (.inr (_))))))))))),st,sm | .inr (.inr (.inr (.inr (.inl _)))), .inr (.inr (.inr (.inr (.inr (.inr (.inr (.inr (.inr (.inr (.inr (_))))))))))),st,sm | .inr (.inr (.inr (.inr (.inr (.inl _))))), .inr (.inr (.inr (.inr (.inr (.inr (.inr (.inr (.inr (.inr (.inr (_))))))))))),st,sm | .inr (.inr (.inr (.inl _))), .inr (.inr (.inr (.inl _))),st,sm | .inr (.inr (.inr (.inr (.inl _)))), .inr (.inr (.inr (.inl _))),st,sm | .inr (.inr (.inr (.inr (.inr (.inl _))))), .inr (.inr (.inr (.inl _))),st,sm | .inr (.inr (.inr (.inl _))), .inr (.inr (.inr (.inr (.inl _)))),st,sm | .inr (.inr (.inr (.inr (.inl _)))), .inr (.inr (.inr (.inr (.inl _)))),st,sm | .inr (.inr (.inr (.inr (.inr (.inl _))))), .inr (.inr (.inr (.inr (.inl _)))),st,sm | .inr (.inr (.inr (.inl _))), .inr (.inr (.inr (.inr (.inr (.inl _))))),st,sm | .inr (.inr (.inr (.inr (.inl _)))), .inr (.inr (.inr (.inr (.inr (.inl _))))),st,sm | .inr (.inr (.inr (.inr (.inr (.inl _))))), .inr (.inr (.inr (.inr (.inr (.inl _))))),st,sm => st = KK ∧ sm = 0
 | .inr (.inr (.inr (.inl _))), .inr (.inr (.inr (.inr (.inr (.inr (.inl _)))))),st,sm | .inr (.inr (.inr (.inr (.inl _)))), .inr (.inr (.inr (.inr (.inr (.inr (.inl _)))))),st,sm | .inr (.inr (.inr (.inr (.inr (.inl _))))), .inr (.inr (.inr (.inr (.inr (.inr (.inl _)))))),st,sm | .inr (.inr (.inr (.inl _))), .inr (.inr (.inr (.inr (.inr (.inr (.inr (.inl _))))))),st,sm | .inr (.inr (.inr (.inr (.inl _)))), .inr (.inr (.inr (.inr (.inr (.inr (.inr (.inl _))))))),st,sm | .inr (.inr (.inr (.inr (.inr (.inl _))))), .inr (.inr (.inr (.inr (.inr (.inr (.inr (.inl _))))))),st,sm => st = KK + 1 ∧ sm = 0
 | .inr (.inr (.inr (.inr (.inr (.inr (.inl _)))))), .inr (.inr (.inr (.inr (.inr (.inr (.inl _)))))),st,sm | .inr (.inr (.inr (.inr (.inr (.inr (.inr (.inl _))))))), .inr (.inr (.inr (.inr (.inr (.inr (.inl _)))))),st,sm | .inr (.inr (.inr (.inr (.inr (.inr (.inl _)))))), .inr (.inr (.inr (.inr (.inr (.inr (.inr (.inl _))))))),st,sm | .inr (.inr (.inr (.inr (.inr (.inr (.inr (.inl _))))))), .inr (.inr (.inr (.inr (.inr (.inr (.inr (.inl _))))))),st,sm => st = 1 ∧ sm = 0
 | .inr (.inr (.inr (.inr (.inr (.inr (.inr (.inr (.inl _)))))))), .inr (.inr (.inr (.inr (.inr (.inr (.inl _)))))),st,sm | .inr (.inr (.inr (.inr (.inr (.inr (.inr (.inr (.inl _)))))))), .inr (.inr (.inr (.inr (.inr (.inr (.inr (.inl _))))))),st,sm => st = 0 ∧ sm = 0
 | .inr (.inr (.inr (.inr (.inr (.inr (.inr (.inr (.inr (_))))))))), .inr (.inl vs),st,sm => vs = [] ∧ st = 0 ∧ sm = 0
 | .inr (.inr (.inr (.inr (.inr (.inr (.inr (.inr (.inr (_))))))))), .inr (.inr (.inr (.inr (.inr (.inr (.inr (.inr (.inr (.inr (.inr (_))))))))))),st,sm | .inr (.inr (.inr (.inr (.inr (.inr (.inr (.inr (.inr (_))))))))), .inr (.inr (.inr (.inl _))),st,sm | .inr (.inr (.inr (.inr (.inr (.inr (.inr (.inr (.inr (_))))))))), .inr (.inr (.inr (.inr (.inl _)))),st,sm | .inr (.inr (.inr (.inr (.inr (.inr (.inr (.inr (.inr (_))))))))), .inr (.inr (.inr (.inr (.inr (.inl _))))),st,sm | .inr (.inr (.inr (.inr (.inr (.inr (.inr (.inr (.inr (_))))))))), .inr (.inr (.inr (.inr (.inr (.inr (.inr (.inr (.inl _)))))))),st,sm | .inr (.inr (.inr (.inr (.inr (.inr (.inr (.inr (.inr (_))))))))), .inr (.inr (.inr (.inr (.inr (.inr (.inr (.inr (.inr (.inl _))))))))),st,sm | .inr (.inr (.inr (.inr (.inr (.inr (.inr (.inr (.inr (_))))))))), .inr (.inr (.inr (.inr (.inr (.inr (.inr (.inr (.inr (.inr (.inl _)))))))))),st,sm => st = 0 ∧ sm = 0
 | .inr (.inr (.inr (.inr (.inr (.inr (.inr (.inr (.inr (_))))))))), .inr (.inr (.inr (.inr (.inr (.inr (.inl _)))))),st,sm => st = 0 ∧ sm = 1
 | _,_,_,_ => False
def TrP (S : Nat → Prop) (c : Nat) (rel : Bool) (t : Trace) : Prop :=
 if rel then ∃ r,PT K.Shun (K.kidS S) K.stillL c (fun i => Before t i r) t ∧ Go.ConcN.RelBy K.stW t c r ∧ ∀ k,r < k → t.act? k ≠ some (.mark (.release K.stW))
 else PT K.Shun (K.kidS S) K.stillL c (Knows t c) t
section main
variable [Go.ConcX.Shy K.Wg K.C] (L : Nat) (AnchW : Goroutine → World → Prop) (Post : Value → World → Prop)
structure J (S : Nat → Prop) (c : Nat) (x : Ch) (y : Ma) (τc τm : Tr) (gs : Array Goroutine) (a b : Goroutine) (w : World) (t : Trace) (q : Nat → Nat) : Prop where
 pos : 0 < c
 h0 : gs[0]? = some a
 hc : gs[c]? = some b
 old : ∀ i g,0 < i → i ≠ c → gs[i]? = some g → QuitsD K.P (q i) (Deaf t i) g
 above : ∀ j,gs.size ≤ j → Deaf t j = 0
 ch : ChM K S x τc b w
 ma : MaM K L AnchW Post y τm a w
 pair : ∃ st sm,Pair x y st sm ∧ K.wgIs w st sm
 chA : ∃ s,w.heap[K.A]? = some (.chan 0 #[] false s s false)
 chE : w.heap[K.E]? = some (.chan 0 #[] x.shut 0 0 false)
 pay : Go.ConcN.PayAt K.C 1 w
 full : x.rel = true → Fullk K w
 kid : y.early = true → ∀ b,S b ↔ K.Kid w b
 kid0 : ∀ b,K.Kid0 b → S b
 of : ∃ w₀, ∀ b,S b → K.Kid w₀ b
 size : y.early = true → K.N0 ≤ w.heap.size
 lowK : y.early = false → K.N0 ≤ L ∧ ∀ b,S b → b < L
 lowT : y.early = true → ∀ i z,touchAt t i = some z → lowLoc w.heap.size z.loc ∨ Knows t c i ∨ (K.Shun z.loc ∧ z.kind = .atomic)
 tr : TrP K S c x.rel t
 d0 : Deaf t 0 = y.deaf
 dc : Deaf t c = x.deaf
end main
end Go.Proofs.YtgcaionclkbehaaGreatDoor
