import Derived.Test.YtgcaionclkbehaaGreatDoorOf
set_option linter.all false
namespace Go.Proofs.YtgcaionclkbehaaGreatDoor
open Tryz
section
open Go.Conc Go.RowKit Go.Lib
def okTy : Obj → Bool
 | .cells _ t _ => !(t.beq 175) && !(t.beq 21)
 | _ => true
section
variable {P : Program} {KT : TypeId → Prop} {An : Who} {S : Who} {s s1 : AS} {l : List (Nat × Obj)}
theorem Sim.pruned (h : Sim P KT An S s l) (hs : ∀ b o,s1.get b = some o → s.get b = some o ∧ okTy o = true) (hn : s.nx ≤ s1.nx) : Sim P KT An S s1 (l.filter fun x => okTy x.2) where
 live b o hb := by
  obtain ⟨h1,h2⟩ := hs b o hb
  obtain ⟨g,z,e,o',q1,q2,q3,q4⟩ := h.live b o h1
  refine ⟨g,z,e,o',q1,List.mem_filter.2 ⟨q2,?_⟩,q3,q4⟩
  unfold OR at q3
  split at q3
  ·
   obtain ⟨cs',rfl,_⟩ := q3; exact h2
  ·
   subst q3; rfl
  ·
   exact q3.elim
 inj b b' o o' x x' hb hb' := h.inj b b' o o' x x' (hs b o hb).1 (hs b' o' hb').1
 lt b o hb := Nat.lt_of_lt_of_le (h.lt b o (hs b o hb).1) hn
 an := h.an
end
structure HRd (w₀ : World) (N Pb : Nat) (Sh : Nat → Prop) (sR : AS) (S0 An : Who) (l0 : List (Nat × Obj)) : Prop where
 size : w₀.heap.size = N
 sim : Sim prog KTs An S0 sR l0
 own : ∀ b o,(b,o) ∈ l0 → b < N ∧ b ≠ Pb ∧ ¬ Sh b ∧ w₀.heap[b]? = some o
 nd : (l0.map Prod.fst).Nodup
 tight : ∀ b o,(b,o) ∈ l0 → ∃ nm ob z e,sR.get nm = some ob ∧ S0 nm = some (b,z,e)
structure LowK (w₀ : World) (N : Nat) (Ek : Nat → Prop) (w : World) : Prop where
 tape : w.tape = w₀.tape
 os : w.os = w₀.os
 output : w.output = w₀.output
 size : N + 9 ≤ w.heap.size
 old : ∀ b,b < N → ¬ Ek b → w.heap[b]? = w₀.heap[b]?
section
variable {N Pb : Nat} {Shun : Loc → Prop} {val : Value} {B : Nat} {Mine : Loc → Prop} {Ex Ek : Nat → Prop} {w₀ w w₁ w' : World} {all : List Int} {Rb : Nat} {l l0 : List (Nat × Obj)} {sR s' s1 : AS} {S0 An : Who} {Sh : Nat → Prop}
theorem LowK.low (h : LowK w₀ N Ek w) (h1 : w'.tape = w.tape) (h2 : w'.os = w.os) (h3 : w'.output = w.output) (h4 : w.heap.size ≤ w'.heap.size) (hb : ∀ b,b < N → ¬ Ek b → w'.heap[b]? = w.heap[b]?) : LowK w₀ N Ek w' :=
 ⟨h1.trans h.tape,h2.trans h.os,h3.trans h.output,Nat.le_trans h.size h4,fun b h5 h6 => (hb b h5 h6).trans (h.old b h5 h6)⟩
theorem LowK.rm (F : Cfg.Fit (kcfg prog N Pb Shun val B Mine)) (h : LowK w₀ N Ek w) (r : RM (kcfg prog N Pb Shun val B Mine) w w₁) : LowK w₀ N Ek w₁ := h.low r.tape r.os r.output r.size fun b hb _ => (envM F).outR r (low_out hb) (by have := h.size; omega)
theorem LowK.kept (h : LowK w₀ N Ek w) (hx : ∀ b,Ex b → N ≤ b) (k : Kept (mineM (kcfg prog N Pb Shun val B Mine)) (outM (kcfg prog N Pb Shun val B Mine)) Ex w w') : LowK w₀ N Ek w' := h.low k.tape k.os k.output k.grow fun b hb _ => k.low b (low_out hb) (by have := h.size; omega) fun z => by have := hx b z; omega
theorem LowK.aside (h : LowK w₀ N Ek w) (r : Go.ConcX.Aside2 N (N + 6) w w₁) : LowK w₀ N Ek w₁ := h.low r.tape r.os r.output (by rw [r.size]; exact Nat.le_refl _) fun b hb _ => r.block b (by omega) (by omega)
theorem LowK.alloc (h : LowK w₀ N Ek w) (o : Obj) : LowK w₀ N Ek (w.alloc o) := h.low rfl rfl rfl (by simp [World.size_alloc]) fun b hb _ => Below.heap_alloc _ _ _ (by have := h.size; omega)
def keys0 (l0 : List (Nat × Obj)) (b : Nat) : Prop := ∃ o,(b,o) ∈ l0
def LeftI (K : Cfg) (w₀ : World) (N : Nat) (sR s1 : AS) (S0 : Who) (l0 : List (Nat × Obj)) (Rb : Nat) (w : World) : Prop :=
 ∃ S' l',Sim prog KTs S0 S' s1 l' ∧ (∀ b,b < sR.nx ∨ s1.nx ≤ b → S' b = S0 b) ∧ (l'.map Prod.fst).Nodup ∧ (∀ b o,(b,o) ∈ l' → mineM K w b ∧ w.heap[b]? = some o ∧ okTy o = true ∧ (b < N → keys0 l0 b)) ∧ LowK w₀ N (keys0 l0) w
def LeftF (w₀ : World) (N : Nat) (Sh : Nat → Prop) (sR s1 : AS) (S0 : Who) (l0 : List (Nat × Obj)) (w : World) : Prop :=
 ∃ S' l',Sim prog KTs S0 S' s1 l' ∧ (∀ b,b < sR.nx ∨ s1.nx ≤ b → S' b = S0 b) ∧ (l'.map Prod.fst).Nodup ∧ (∀ b o,(b,o) ∈ l' → b < w.heap.size ∧ b ≠ N ∧ b ≠ N + 6 ∧ (b < N → keys0 l0 b) ∧ w.heap[b]? = some o) ∧ LowK w₀ N (keys0 l0) w
theorem client_evX {pr : Prim} (hx : ∀ {ι : Type} {N0 : ι → Nat} {M : ι → World → Nat → Prop} {O : ι → Nat → Prop} {R : ι → World → World → Prop} {D : ι → World → World → Array Event → Prop} {X : ι → Goroutine → World → Prop} {Hd : ι → List (Nat × Obj) → World → Prop} (_ : Cy prog KTs N0 M O R D X Hd) (A : Who),(∀ b,sR.nx + 1 ≤ b → A b = S0 b) → PrimOk prog KTs A R D X Hd (prRow sR.nx all) → PrimOk prog KTs A R D X Hd pr) (H : HRun w₀ N Pb Sh) (Hr : HRd w₀ N Pb Sh sR S0 An l0) (hfresh : ∀ b,sR.nx ≤ b → b < s'.nx → S0 b = none) (hnx : sR.nx < s'.nx) {z1 e1 : Nat} (h1 : S0 1 = some (1,z1,e1)) (hlive1 : 1 < sR.nx) (hg : ∀ r ∈ all,Good r) (hn : 4 * all.length ≤ 1000000)
  {f : FuncId} {f₀ : Func} {c : Code} {capA cap : Array Value} (hfn : prog.funcs[f]? = some f₀) (hbody : f₀.body = some c) (hres : f₀.results = #[]) (hcap : AR (VR S0) capA cap)
  {n : Nat} {e : Exit} {aA' : TL} (hev : evC prog ktB pr n c ((aptr sR.nx 0 :: capA.toList) ++ List.replicate (f₀.ntmps - (capA.size + 1)) undef) ⟨sR.hp,sR.nx + 1⟩ = some (e,aA',s')) (he : e = .normal ∨ e = .ret)
  (hkeep : ∀ nm ob,sR.get nm = some ob → ∃ ob',s'.get nm = some ob') (hs1 : ∀ b o,s1.get b = some o → s'.get b = some o ∧ okTy o = true) (hn1 : s'.nx ≤ s1.nx) (hSh : ∀ l,Shun l → ∃ ad : Addr,l = .cell ad ∧ Sh ad.block) :
  Client (kcfg prog N Pb (shunE N Shun) val (N + 9) (fun _ => False)) N all f cap (LowK w₀ N (fun _ => False)) (LeftF w₀ N Sh sR s1 S0 l0) (LeftI (kcfg prog N Pb (shunE N (fun l => ∃ ad : Addr,l = .cell ad ∧ Sh ad.block)) val (N + 9) (fun _ => False)) w₀ N sR s1 S0 l0) := by
 have up : ∀ {w : World} {b : Nat},mineM (kcfg prog N Pb (shunE N Shun) val (N + 9) (fun _ => False)) w b → ¬ Sh b → mineM (kcfg prog N Pb (shunE N (fun l => ∃ ad : Addr,l = .cell ad ∧ Sh ad.block)) val (N + 9) (fun _ => False)) w b := fun {w b} h hb => ⟨h.1,h.2.1,h.2.2.1,h.2.2.2.1,fun ad ha hs => by
  rcases hs with ⟨a,e,z⟩ | ⟨a,e,z⟩
  ·
   cases e; exact hb (ha ▸ z)
  ·
   exact h.2.2.2.2 ad ha (.inr ⟨a,e,z⟩)⟩
 have dn : ∀ {w : World} {b : Nat},mineM (kcfg prog N Pb (shunE N (fun l => ∃ ad : Addr,l = .cell ad ∧ Sh ad.block)) val (N + 9) (fun _ => False)) w b → mineM (kcfg prog N Pb (shunE N Shun) val (N + 9) (fun _ => False)) w b ∧ ¬ Sh b := fun {w b} h => ⟨⟨h.1,h.2.1,h.2.2.1,h.2.2.2.1,fun ad ha hs => by
  rcases hs with z | ⟨a,e,z⟩
  ·
   exact h.2.2.2.2 ad ha (.inl (hSh _ z))
  ·
   exact h.2.2.2.2 ad ha (.inr ⟨a,e,z⟩)⟩,fun hb => h.2.2.2.2 ⟨b,0,none⟩ rfl (.inl ⟨_,rfl,hb⟩)⟩
 have F := fitE (val := val) H hSh
 have hsh : ∀ b,b < N → ¬ Sh b → ∀ ad : Addr,ad.block = b → ¬ shunE N Shun (.cell ad) := by
  rintro b hb hS ad rfl (h | ⟨a,e,h⟩)
  ·
   obtain ⟨a,e,h⟩ := hSh _ h
   cases e
   exact hS h
  ·
   cases e; omega
 constructor
 ·
  exact fun w w₁ r h => h.rm F r
 ·
  exact fun w cs h => h.alloc _
 ·
  intro _ _ _ AW Rb w hRb hA hW
  have hlt0 : ∀ b o,(b,o) ∈ l0 → mineM (kcfg prog N Pb (shunE N Shun) val (N + 9) (fun _ => False)) w b ∧ w.heap[b]? = some o := fun b o hm => by
   obtain ⟨q1,q2,q3,q4⟩ := Hr.own b o hm
   exact ⟨mine_low q1 q2 (hsh b q1 q3) hA.size,(hA.old b q1 id).trans q4⟩
  have hX : HX (kcfg prog N Pb (shunE N Shun) val (N + 9) (fun _ => False)) (fun b => keys0 l0 b ∨ N ≤ b) w all Rb (.front (V all)) (l0 ++ []) w := by
   rw [List.append_nil]
   refine ⟨⟨Kept.refl w,hA.size,fun b o hm => ⟨(hlt0 b o hm).1,(hlt0 b o hm).2, .inl (.inl ⟨o,hm⟩)⟩,Hr.nd⟩,nilS, [],all,false,rfl, .inl ⟨rfl, .inl rfl⟩,hW,fun b o hm hx => ?_,fun b hx => ?_⟩
   ·
    have := (Hr.own b o hm).1
    rcases hx with rfl | hx
    ·
     omega
    ·
     cases hx
   ·
    rcases hx with rfl | hx
    ·
     exact .inl (.inr hRb)
    ·
     cases hx
  have hrn : S0 sR.nx = none := hfresh _ (Nat.le_refl _) hnx
  have hle : S0.le (S0.put sR.nx (Rb,0,0)) := Who.le_put hrn
  have hsim : Sim prog KTs (S0.put sR.nx (Rb,0,0)) (S0.put sR.nx (Rb,0,0)) ⟨sR.hp,sR.nx + 1⟩ l0 := by
   refine ⟨fun b o hb => ?_,fun b b' o o' x x' hb hb' hx hx' hxx => ?_,fun b o hb => ?_,Who.le_refl _⟩
   ·
    obtain ⟨g,z,e,o',q1,q2,q3,q4⟩ := Hr.sim.live b o hb
    exact ⟨g,z,e,o',hle _ _ q1,q2,q3.mono hle,q4⟩
   ·
    obtain ⟨g,z,e,o3,q1,_⟩ := Hr.sim.live b o hb
    obtain ⟨g',z',e',o4,q2,_⟩ := Hr.sim.live b' o' hb'
    rw [hle _ _ q1] at hx
    rw [hle _ _ q2] at hx'
    cases hx
    cases hx'
    exact Hr.sim.inj b b' o o' _ _ hb hb' q1 q2 hxx
   ·
    have := Hr.sim.lt b o hb
    show b < sR.nx + 1
    omega
  have hprim := prRow_ok (AnchW := AW) (Ex := fun b => keys0 l0 b ∨ N ≤ b) (w₀ := w) (An := S0.put sR.nx (Rb,0,0)) (Rb := Rb) F hg hn (rn := sR.nx) Who.put_self (hle _ _ h1)
  have Y := cyM (AnchW := AW) (Ex := fun b => keys0 l0 b ∨ N ≤ b) (w₀ := w) (all := all) (Rb := Rb) F
  have hprim := hx Y _ (fun b hb => by unfold Who.put; rw [if_neg (by omega)]) hprim
  refine ⟨f₀,c,hfn,zg5 f f₀ hfn,hbody,?_⟩
  refine ((ev_sound Y (by kernel_rfl) zk0 hprim zg5 n).1 c f _ aA' _ s' e _ l0 [] (.front (V all)) w _ _ hev hsim hX ?_ rfl (fun b b1 b2 => ?_) ?_).1
  ·
   have hcs : capA.size = cap.size := hcap.1
   have h2 : AR (VR (S0.put sR.nx (Rb,0,0))) (#[aptr sR.nx 0] ++ capA) (#[.pointer (some ⟨Rb,0,none⟩)] ++ cap) := (AR.one (VR.of_ptr Who.put_self)).append (hcap.mono hle)
   have h3 := h2.append (AR.replicate (S := S0.put sR.nx (Rb,0,0)) (x := undef) (v := undef) (f₀.ntmps - (capA.size + 1)) VR.undef)
   have e1 : ((aptr sR.nx 0 :: capA.toList) ++ List.replicate (f₀.ntmps - (capA.size + 1)) undef).toArray = (#[aptr sR.nx 0] ++ capA) ++ Array.replicate (f₀.ntmps - (capA.size + 1)) undef := by
    apply Array.toList_inj.1
    simp
   rw [e1]
   have e2 : f₀.ntmps - (#[Value.pointer (some ⟨Rb,0,none⟩)] ++ cap).size = f₀.ntmps - (capA.size + 1) := by simp; omega
   rw [e2]
   exact h3
  ·
   have hb' : sR.nx + 1 ≤ b := b1
   unfold Who.put
   rw [if_neg (by omega)]
   exact hfresh b (by omega) b2
  ·
   intro i' S' l' w' a' r1 r2 r3 r4 r5 r6
   rw [List.append_nil] at r4
   obtain ⟨v',tk',rest',en',k1,k2,k3,k4,k5⟩ := r4.row
   have hhi : ∀ b,exR Rb v' b → N ≤ b := fun b hb => by
    rcases k5 b hb with (⟨o,hm⟩ | z) | z
    ·
     obtain ⟨nm,ob,zz,ee,q1,q2⟩ := Hr.tight b o hm
     obtain ⟨ob',q3⟩ := hkeep nm ob q1
     obtain ⟨g,z3,e3,o3,q4,q5,_⟩ := r3.live nm ob' q3
     have q6 := r1 _ _ (hle _ _ q2)
     rw [q6] at q4
     cases q4
     exact absurd hb (k4 _ o3 q5)
    ·
     exact z
    ·
     have := hA.size; omega
   refine ⟨he,r6,_,resultsC_none hres _,_,_,v',tk',rest',en',k1,k2,k3,hhi,S',l'.filter (fun x => okTy x.2),?_,fun b hb => ?_,?_,fun b o hm => ?_,?_⟩
   ·
    have := r3.pruned hs1 hn1
    exact ⟨this.live,this.inj,this.lt,Who.le_trans hle r1⟩
   ·
    rw [r2 b (hb.imp (fun hb => by show b < sR.nx + 1; omega) (fun hb => by omega))]
    unfold Who.put
    rw [if_neg (by omega)]
   ·
    exact (List.filter_sublist.map Prod.fst).nodup r4.hl.nodup
   ·
    obtain ⟨m1,m2⟩ := List.mem_filter.1 hm
    obtain ⟨q1,q2,q3⟩ := r4.hl.own b o m1
    have hkey : b < N → keys0 l0 b := fun hbN => by
     rcases q3 with (z | z) | z
     ·
      exact z
     ·
      omega
     ·
      have := hA.size; omega
    refine ⟨up q1 fun hb => ?_,q2,m2,hkey⟩
    obtain ⟨o2,hm2⟩ := hkey (H.sh b hb).1
    exact (Hr.own b o2 hm2).2.2.1 hb
   ·
    have kp := r4.hl.kept
    exact ⟨kp.tape.trans hA.tape,kp.os.trans hA.os,kp.output.trans hA.output,Nat.le_trans hA.size kp.grow,fun b hb hk => (kp.low b (low_out hb) (by have := hA.size; omega) (fun z => z.elim hk (by omega))).trans (hA.old b hb id)⟩
 ·
  rintro Rb w w₁ r ⟨S',l',q1,q2,q3,q4,q5⟩
  refine ⟨S',l',q1,q2,q3,fun b o hm => ?_,q5.rm F r⟩
  obtain ⟨m1,m2,m3,m4⟩ := q4 b o hm
  obtain ⟨m1,m5⟩ := dn m1
  exact ⟨up ((envM F).stay r m1) m5,((envM F).keep r m1).trans m2,m3,m4⟩
 ·
  rintro Rb Ex' w₀' v tk en w w' hW hx k ⟨S',l',q1,q2,q3,q4,q5⟩
  refine ⟨S',l',q1,q2,q3,fun b o hm => ?_,q5.kept hx k⟩
  obtain ⟨m1,m2,m3,m4⟩ := q4 b o hm
  have hnot : ¬ exR Rb v b := by
   rintro (rfl | hb)
   ·
    rw [hW.rb] at m2
    cases m2
    simp [okTy] at m3
   ·
    rcases hW.ro.row.2 with ⟨z,_⟩ | ⟨g,cp,cur,z,_,hgb,_⟩
    ·
     rw [z] at hb; cases hb
    ·
     rw [z] at hb
     cases hb
     rw [hgb] at m2
     cases m2
     simp [okTy] at m3
  obtain ⟨m1,m5⟩ := dn m1
  exact ⟨up (k.mine b m1) m5,(k.block b m1 hnot).trans m2,m3,m4⟩
 ·
  rintro Rb w ⟨S',l',q1,q2,q3,q4,q5⟩
  refine ⟨S',l',q1,q2,q3,fun b o hm => ?_,q5⟩
  obtain ⟨m1,m2,m3,m4⟩ := q4 b o hm
  refine ⟨m1.1,fun e => m1.2.1 (.inl e),fun e => m1.2.2.2.1 (.inr (.inr e)),m4,m2⟩
theorem client_ev (H : HRun w₀ N Pb Sh) (Hr : HRd w₀ N Pb Sh sR S0 An l0) (hfresh : ∀ b,sR.nx ≤ b → b < s'.nx → S0 b = none) (hnx : sR.nx < s'.nx) {z1 e1 : Nat} (h1 : S0 1 = some (1,z1,e1)) (hlive1 : 1 < sR.nx) (hg : ∀ r ∈ all,Good r) (hn : 4 * all.length ≤ 1000000)
  {f : FuncId} {f₀ : Func} {c : Code} {capA cap : Array Value} (hfn : prog.funcs[f]? = some f₀) (hbody : f₀.body = some c) (hres : f₀.results = #[]) (hcap : AR (VR S0) capA cap)
  {n : Nat} {e : Exit} {aA' : TL} (hev : evC prog ktB (prRow sR.nx all) n c ((aptr sR.nx 0 :: capA.toList) ++ List.replicate (f₀.ntmps - (capA.size + 1)) undef) ⟨sR.hp,sR.nx + 1⟩ = some (e,aA',s')) (he : e = .normal ∨ e = .ret)
  (hkeep : ∀ nm ob,sR.get nm = some ob → ∃ ob',s'.get nm = some ob') (hs1 : ∀ b o,s1.get b = some o → s'.get b = some o ∧ okTy o = true) (hn1 : s'.nx ≤ s1.nx) (hSh : ∀ l,Shun l → ∃ ad : Addr,l = .cell ad ∧ Sh ad.block) :
  Client (kcfg prog N Pb (shunE N Shun) val (N + 9) (fun _ => False)) N all f cap (LowK w₀ N (fun _ => False)) (LeftF w₀ N Sh sR s1 S0 l0) (LeftI (kcfg prog N Pb (shunE N (fun l => ∃ ad : Addr,l = .cell ad ∧ Sh ad.block)) val (N + 9) (fun _ => False)) w₀ N sR s1 S0 l0) :=
 client_evX (fun _ _ _ h => h) H Hr hfresh hnx h1 hlive1 hg hn hfn hbody hres hcap hev he hkeep hs1 hn1 hSh
end
end
set_option maxRecDepth 100000
set_option maxHeartbeats 2000000
section
open Go.Conc Go.RowKit
abbrev pieceC (Pb cp : Nat) : Value := .slice (some ⟨Pb,0,none⟩) 1 cp
section
variable {w₀ w w₁ : World} {Post : Value → World → Prop} {S : Nat → Prop} {N Pb cp : Nat} {s : ByteArray}
theorem kid_ofG (H : HRun w₀ N Pb S) (hlo : Pb < N) (hps : w₀.cell? ⟨Pb,0,none⟩ = some (.string s)) (hsm : s.size ≤ 20000) (Shun : Loc → Prop) (w : World) [Go.ConcR.Payload] [Go.ConcX.Payload] (hF : He w₀ (objs9 N (pieceC Pb cp) 62 (bytesV N)) w) : XK (kcfg prog N Pb (shunE N Shun) (pieceC Pb cp) (N + 9) (fun _ => False)) (true,V (zd0 s)) (born prog (callGo N)) w := by
 obtain rfl := H.size
 have hB : HB w₀.heap.size (bytesV w₀.heap.size) w := ⟨hF.blocks 1 _ rfl,hF.blocks 3 _ rfl,hF.blocks 5 _ rfl,hF.blocks 7 _ rfl,hF.blocks 8 _ rfl⟩
 have hQ : HQ w₀.heap.size Pb cp s w := ⟨hF.blocks 0 _ rfl,(World.cell?_of_block (hF.old Pb hlo)).trans hps,hlo⟩
 refine kid_x hB fun w₁ r => ?_
 have := ofbytes1_x (Shun := shunE w₀.heap.size Shun) (B := w₀.heap.size + 9) (Mine := fun _ => False) (hB.rc r) (hQ.rc r) (by omega)
 simpa using this
theorem ofbytesG_x {A Fw : World → Prop} {I : Nat → World → Prop} {f : FuncId} {cap : Array Value} (H : HRun w₀ N Pb S) (hlo : Pb < N) (hps : w₀.cell? ⟨Pb,0,none⟩ = some (.string s)) (hsm : s.size ≤ 20000)
  (hcl : ∀ Shun : Loc → Prop,(∀ l,Shun l → ∃ ad : Addr,l = .cell ad ∧ S ad.block) → Client (kcfg prog N Pb (shunE N Shun) (pieceC Pb cp) (N + 9) (fun _ => False)) N (zd0 s) f cap A Fw I) (hA0 : ∀ w,He w₀ (objs9 N (pieceC Pb cp) 62 (bytesV N)) w → A w) (hFa : ∀ w w₁,Go.ConcX.Aside2 N (N + 6) w w₁ → Fw w → Fw w₁) :
  CallsI prog (ZI prog Post 0) 37 #[pieceC Pb cp, .func (.func f) #[] cap] S w₀ (fun S' x w' => x = .tuple #[] ∧ S' = SE N S ∧ Fw w' ∧ w'.heap[N + 6]? = some (.cells #[.int .u64 0, .int .u32 0] 169)) := by
 have C : ClosedI prog true (fun _ : Nat → Prop => AtRel) DZ (ZI prog Post 0) := ZI.closed
 have T : ∀ S,Terms AtRel (DZ S) := termsS
 have bx := fun w v => box_run prog w 62 v
 have be := fun w v es => zk2 prog w 62 v es
 have mk : ∀ w es,(Instr.makeFunc (Fn.func 62) #[] #[Value.pointer (some ⟨N,0,none⟩)]).events prog w es = es := fun w es => by simp [Instr.makeFunc]
 obtain rfl := H.size
 have hF := He.start w₀
 refine zc2 func37 (by rfl) rfl ?_
 simp only [ntmps37,List.size_toArray,List.length_cons,List.length_nil,Nat.reduceAdd,Nat.reduceSub,Array.replicate_succ,Array.replicate_zero,List.push_toArray,List.append_toArray,List.nil_append,List.cons_append]
 refine za5 C T ?_
 refine za2 C T ?_
 simp only [szR,Nat.reduceAdd]
 refine za0 C rfl (by rfl) fun _ hR Kx hKx => ?_
 replace hF := He.rely hF hR
 clear hR
 go_simp
 try (unfold stored; go_simp)
 refine hKx _ _ ⟨?_,?_⟩
 ·
  intro e he
  have hm := mem_listed he
  simp [go_sem, *] at hm
 clear hKx Kx
 try walk_nrm
 have hsz := hF.size
 simp only [List.length_cons,List.length_nil,Nat.reduceAdd,Nat.add_zero,Nat.zero_add] at hsz
 simp only [hsz]
 clear hsz
 replace hF := hF.alloc (.cells #[pieceC Pb cp] 62)
 simp only [List.cons_append,List.nil_append] at hF
 refine za3 C T ?_
 show wpI _ _ _ _ _ _ _
 refine za2 C T ?_
 simp only [szR,Nat.reduceAdd]
 refine za0 C rfl (by rfl) fun _ hR Kx hKx => ?_
 replace hF := He.rely hF hR
 clear hR
 go_simp
 try (unfold stored; go_simp)
 refine hKx _ _ ⟨?_,?_⟩
 ·
  co_still (T _)
 clear hKx Kx
 try walk_nrm
 refine za0 C rfl (by rfl) fun _ hR Kx hKx => ?_
 replace hF := He.rely hF hR
 clear hR
 go_simp
 try (unfold stored; go_simp)
 refine hKx _ _ ⟨?_,?_⟩
 ·
  co_quiet (T _)
 clear hKx Kx
 try walk_nrm
 have hrun := run_x (Post := Post) (f := f) (fr := 62) (cap := cap) (cr := #[.pointer (some ⟨w₀.heap.size,0,none⟩)]) (l := zd0 s) H hF (by have := letters_len s; omega) (fun Shun w _ _ h => kid_ofG H hlo hps hsm Shun w h) hcl hA0 hFa
 refine zd6 C T rfl (by rfl) rfl rfl (by simp [Act.eval]) rfl hrun ?_
 rintro _ _ _ ⟨rfl,h1,h2⟩
 refine za3 C T ?_
 exact ⟨.inl rfl,rfl,_,resultsC_none (by rfl) _,rfl,rfl,h1,h2⟩
end
end
section
open Go.Conc Go.RowKit Go.Lib
section
variable {KT : TypeId → Prop} {N0 : Nat} {M : World → Nat → Prop} {O : Nat → Prop} {R : World → World → Prop} {D : World → World → Array Event → Prop} {H : List (Nat × Obj) → World → Prop} {p : Prop}
theorem Co.with (hp : p) (Z : Co KT N0 M O R D H) : Co KT N0 M O R D (fun l w => p ∧ H l w) where
 env := Z.env
 rely h r := ⟨hp,Z.rely h.2 r⟩
 size h := Z.size h.2
 own h hm := Z.own h.2 hm
 nodup h := Z.nodup h.2
 grown h hO := ⟨hp,Z.grown h.2 hO⟩
 turn h hO hb hk := ⟨hp,Z.turn h.2 hO hb hk⟩
 perm h q := ⟨hp,Z.perm h.2 q⟩
 drop h := ⟨hp,Z.drop h.2⟩
 past h k hs := ⟨hp,Z.past h.2 k hs⟩
 call h h' := ⟨hp,Z.call h.2 h'⟩
end
abbrev Zx := (Nat → Prop) × Nat
def HdZ (Ex : Nat → Prop) (w₀ : World) (j : Zx) (l : List (Nat × Obj)) (w : World) : Prop := ((∀ b,j.1 b → b < j.2) ∧ ∀ b,j.1 b → w₀.heap.size ≤ b) ∧ HL (mineZ j.1) (fun _ => False) j.2 Ex w₀ l w
section
variable {Post : Value → World → Prop} {Ex : Nat → Prop} {w₀ w : World} {An : Who}
theorem cyZ : Cy prog KTs (fun j : Zx => j.2) (fun j => mineZ j.1) (fun _ _ => False) (fun _ => AtRel) (fun j => DZ j.1) (fun j => ZI prog Post 0 j.1) (HdZ Ex w₀) where
 C := ⟨fun h r => (ZI.closed (P := prog) (Post := Post)).rely h r,fun hs h => (ZI.closed (P := prog) (Post := Post)).step hs h⟩
 T j := termsS j.1
 ne := ne_tryz
 Z h := Co.with h.1 (HL.co (envZ h.1.1))
end
def refsA : Option Addr → List Nat
 | some ad => [ad.block]
 | none => []
def refsV : Nat → Value → List Nat
 | 0,_ => []
 | n + 1,v => match v with
  | .pointer p => refsA p
  | .slice p _ _ => refsA p
  | .func _ x y => x.toList.flatMap (refsV n) ++ y.toList.flatMap (refsV n)
  | .agg x => x.toList.flatMap (refsV n)
  | .tuple x => x.toList.flatMap (refsV n)
  | _ => []
def refsO : Obj → List Nat
 | .cells cs _ _ => cs.toList.flatMap (refsV 5)
 | _ => []
def AS.reach (s : AS) : Nat → List Nat → AS → AS
 | 0,_,r => r
 | _ + 1, [],r => r
 | n + 1,b :: l,r => match r.get b with
  | some _ => s.reach n l r
  | none => match s.get b with
   | some o => if okTy o then s.reach n (refsO o ++ l) (r.set b (some o)) else s.reach n l r
   | none => s.reach n l r
theorem AS.get_reach {s : AS} : ∀ {n : Nat} {l : List Nat} {r : AS},(∀ b o,r.get b = some o → s.get b = some o ∧ okTy o = true) → ∀ b o,(s.reach n l r).get b = some o → s.get b = some o ∧ okTy o = true
 | 0,l,r,h => h
 | n + 1, [],r,h => h
 | n + 1,c :: l,r,h => by
  unfold AS.reach
  split
  ·
   exact AS.get_reach h
  ·
   split
   ·
    next o hc =>
    split
    ·
     next hk =>
     refine AS.get_reach fun b o' hb => ?_
     rw [AS.get_set] at hb
     split at hb
     ·
      next e => subst e; cases hb; exact ⟨hc,hk⟩
     ·
      exact h b o' hb
    ·
     exact AS.get_reach h
   ·
    exact AS.get_reach h
def AS.tidy (m : Nat) (s : AS) : AS := ⟨(s.reach 5000 (List.range m) ⟨[],0⟩).hp,s.nx⟩
theorem AS.get_tidy {m : Nat} {s : AS} {b : Nat} {o : Obj} (h : (s.tidy m).get b = some o) : s.get b = some o ∧ okTy o = true :=
 AS.get_reach (n := 5000) (l := List.range m) (r := ⟨[],0⟩) (fun b o h => by unfold AS.get at h; simp at h) b o h
def AS.keeps (s s' : AS) : Bool := (List.range s.nx).all fun b => (s.get b).isNone || (s'.get b).isSome
def prOf (P : Program) (n : Nat) (args : Array Value) (s : AS) : Option (Value × AS) := match args.toList with
 | [.slice (some ⟨bp,0,none⟩) 1 _, .func (.func f) x y] => match s.get bp,P.funcs[f]? with
  | some (.cells cs 9 _),some f₀ => match cs.toList,f₀.body with
   | .string str :: _,some c =>
    if x.toList.isEmpty = true ∧ f₀.results.toList.isEmpty = true ∧ lenL str.data.toList 0 ≤ 20000 ∧ 1 < s.nx then
     match evC P ktB (prRow s.nx (zd0 str)) n c ((aptr s.nx 0 :: y.toList) ++ List.replicate (f₀.ntmps - (y.size + 1)) undef) ⟨(s.set bp none).hp,s.nx + 1⟩ with
     | some (e,_,s') => if AS.keeps (s.set bp none) s' = true then match e with
       | .normal | .ret => some (.tuple #[],s'.tidy s.nx)
       | _ => none
      else none
     | none => none
    else none
   | _,_ => none
  | _,_ => none
 | _ => none
section
variable {Post : Value → World → Prop} {Ex : Nat → Prop} {w₀ : World} {An : Who}
theorem calls_reindex {S : Nat → Prop} {n : Nat} {w : World} {f : FuncId} {args : Array Value} {P1 : (Nat → Prop) → Value → World → Prop} {P2 : Zx → Value → World → Prop} (h : CallsI prog (ZI prog Post 0) f args S w P1) (hv : ∀ S' v w',P1 S' v w' → ∃ n', ∀ w₁,AtRel w' w₁ → P2 (S',n') v w₁) :
  CallsE prog (fun _ : Zx => AtRel) (fun j => DZ j.1) (fun j => ZI prog Post 0 j.1) f args (S,n) w P2 := by
 obtain ⟨f₀,c,h1,h2,h3,h4⟩ := h
 refine ⟨f₀,c,h1,h2,h3,fun b k cs hb hk hc => h4 b k cs hb hk fun S' e a' w' q => ?_⟩
 obtain ⟨q1,q2,v,q3,q4⟩ := q
 obtain ⟨n',hn'⟩ := hv S' v w' q4
 have := hc (S',n') e a' w' ⟨q1,q2,fun w₁ r => ⟨v,(q3 w₁).1,by rw [(q3 w₁).2]; exact (termsS S').idle _,hn' w₁ r⟩⟩
 cases e <;> exact this
open Classical in
theorem of_core {z1 e1 : Nat} (h1 : An 1 = some (1,z1,e1)) {n : Nat} {args : Array Value} {s s2 : AS} (hs1 : 1 < s.nx) {bp c0 : Nat} {f : FuncId} {x y : Array Value} (ha : args.toList = [.slice (some ⟨bp,0,none⟩) 1 c0, .func (.func f) x y]) {cs : Array Value} {fz : Nat × Nat} {f₀ : Func} (hb : s.get bp = some (.cells cs 9 fz)) (hf : prog.funcs[f]? = some f₀) {str : ByteArray} {rest : List Value} {c : Code} (hcs : cs.toList = .string str :: rest) (hbody : f₀.body = some c) (hx0 : x.toList.isEmpty = true) (hres : f₀.results.toList.isEmpty = true) (hsm : lenL str.data.toList 0 ≤ 20000)
  {e : Exit} {aA' : TL} (hev : evC prog ktB (prRow s.nx (zd0 str)) n c ((aptr s.nx 0 :: y.toList) ++ List.replicate (f₀.ntmps - (y.size + 1)) undef) ⟨(s.set bp none).hp,s.nx + 1⟩ = some (e,aA',s2)) (hkeep : AS.keeps (s.set bp none) s2 = true) (he : e = .normal ∨ e = .ret) :
  s.nx ≤ (s2.tidy s.nx).nx ∧ Sound prog KTs An (fun _ : Zx => AtRel) (fun j => DZ j.1) (fun j => ZI prog Post 0 j.1) (HdZ Ex w₀) 37 args s (.tuple #[]) (s2.tidy s.nx) := by
 have hnx : s.nx + 1 ≤ s2.nx := by
  exact (ev_nx (P := prog) (kt := ktB) (prRow_nx s.nx (zd0 str)) n).1 _ _ _ _ _ _ hev
 refine ⟨by show s.nx ≤ s2.nx; omega,?_⟩
 have hsz : str.size ≤ 20000 := by rw [zl8,Nat.zero_add,Array.length_toList] at hsm; exact hsm
 have hargs : args = #[.slice (some ⟨bp,0,none⟩) 1 c0, .func (.func f) x y] := by apply Array.toList_inj.1; simp [ha]
 have hx : x = #[] := by apply Array.toList_inj.1; simpa using hx0
 have hres' : f₀.results = #[] := by apply Array.toList_inj.1; simpa using hres
 subst hargs hx
 intro S l fr j w args' hS hF hA hfr
 obtain ⟨a0,a1,rfl,v0,v1⟩ := args2 hA
 obtain ⟨Pb,zP,eP,cp,hPb,rfl,_,_,_,_⟩ := v0.sl
 obtain ⟨p',cap,rfl,hp',hcap⟩ := v1.fn
 have hp0 : p' = #[] := by apply Array.toList_inj.1; have := hp'.1; simp at this; exact List.eq_nil_of_length_eq_zero (by simpa using this.symm)
 subst hp0
 obtain ⟨⟨hj,hj2⟩,hl⟩ := hF
 obtain ⟨kk,oP,hk,hlt,hk',hor,hty⟩ := hS.at (fr := fr) hb hPb
 obtain ⟨csP,rfl,hzP,⟨hleP,_⟩,hcellP⟩ := hor
 have hmemP : (Pb,Obj.cells csP 9) ∈ l ++ fr := List.mem_of_getElem? hk'
 obtain ⟨hmP,hgP,_⟩ := hl.own _ _ hmemP
 have hps : w.cell? ⟨Pb,0,none⟩ = some (.string str) := by
  have h0 : cs[0]? = some (.string str) := by
   have : cs.toList[0]? = some (.string str) := by rw [hcs]; rfl
   simpa using this
  have hlt0 : 0 < csP.size := by have := (Array.getElem?_eq_some_iff.1 h0).1; omega
  have := (hcellP 0 _ _ h0 (Array.getElem?_eq_getElem hlt0)).sc rfl
  simp [World.cell?,hgP,this,hlt0]
 let live : Nat × Obj → Prop := fun q => ∃ nm ob z e,(s.set bp none).get nm = some ob ∧ S nm = some (q.1,z,e)
 have hH : HRun w w.heap.size Pb j.1 := ⟨rfl, .inl hmP.1,fun b hb' => ⟨Nat.lt_of_lt_of_le (hj b hb') hl.size,fun e' => hmP.2 (e' ▸ hb')⟩⟩
 have hget : ∀ nm ob,(s.set bp none).get nm = some ob → nm ≠ bp ∧ s.get nm = some ob := fun nm ob hq => by
  rw [AS.get_set] at hq
  split at hq
  ·
   cases hq
  ·
   next hne => exact ⟨hne,hq⟩
 have hRd : HRd w w.heap.size Pb j.1 (s.set bp none) S An (l.filter fun q => decide (live q)) := by
  refine ⟨rfl,⟨fun b o hbo => ?_,fun b b' o o' q q' hbo hbo' => hS.inj b b' o o' q q' (hget b o hbo).2 (hget b' o' hbo').2,fun b o hbo => hS.lt b o (hget b o hbo).2,hS.an⟩,fun b o hm => ?_,?_,fun b o hm => ?_⟩
  ·
   obtain ⟨g,z,e,o',q1,q2,q3,q4⟩ := hS.live b o (hget b o hbo).2
   exact ⟨g,z,e,o',q1,List.mem_filter.2 ⟨q2,decide_eq_true ⟨b,o,z,e,hbo,q1⟩⟩,q3,q4⟩
  ·
   obtain ⟨m1,m2⟩ := List.mem_filter.1 hm
   obtain ⟨nm,ob,z,e,q1,q2⟩ := of_decide_eq_true m2
   obtain ⟨m3,m4,_⟩ := hl.own b o (List.mem_append_left _ m1)
   refine ⟨m3.1,fun e' => ?_,m3.2,m4⟩
   have := hS.inj nm bp ob _ _ _ (hget nm ob q1).2 hb q2 hPb e'
   exact (hget nm ob q1).1 this
  ·
   have hnd := hl.nodup
   rw [List.map_append] at hnd
   exact (List.filter_sublist.map Prod.fst).nodup (List.nodup_append.1 hnd).1
  ·
   obtain ⟨m1,m2⟩ := List.mem_filter.1 hm
   exact of_decide_eq_true m2
 obtain ⟨hg,hn4⟩ := letters_good str hsz
 have hkeep' : ∀ nm ob,(s.set bp none).get nm = some ob → ∃ ob',s2.get nm = some ob' := fun nm ob hq => by
  unfold AS.keeps at hkeep
  have := zf2 hkeep (i := nm) (hS.lt nm ob (hget nm ob hq).2)
  rw [hq] at this
  simp only [Option.isNone_some,Bool.false_or] at this
  exact Option.isSome_iff_exists.1 this
 have hcl := fun (Shun : Loc → Prop) (hSh : ∀ l,Shun l → ∃ ad : Addr,l = .cell ad ∧ j.1 ad.block) =>
  client_ev (val := pieceC Pb cp) (s' := s2) (s1 := (s2.tidy s.nx)) hH hRd (fun b b1 b2 => hfr b b1 b2) (by show s.nx < s2.nx; omega) (hS.an _ _ h1) hs1 hg hn4 hf hbody hres' hcap hev he hkeep' (fun b o hq => AS.get_tidy hq) (Nat.le_refl _) hSh
 have hof := ofbytesG_x (Post := Post) (cp := cp) (A := LowK w w.heap.size (fun _ => False)) (Fw := LeftF w w.heap.size j.1 (s.set bp none) (s2.tidy s.nx) S (l.filter fun q => decide (live q))) hH hmP.1 hps hsz hcl (fun w1 hw1 => ⟨hw1.tape,hw1.os,hw1.output,by rw [hw1.size]; simp [objs9],fun b hb' _ => hw1.old b hb'⟩) (fun w1 w2 r hq => by
  obtain ⟨S',l',q1,q2,q3,q4,q5⟩ := hq
  refine ⟨S',l',q1,q2,q3,fun b o hm => ?_,q5.aside r⟩
  obtain ⟨m1,m2,m3,m4,m5⟩ := q4 b o hm
  exact ⟨by rw [r.size]; exact m1,m2,m3,m4,(r.block b m2 m3).trans m5⟩)
 refine calls_reindex (n := j.2) hof ?_
 rintro S' v w' ⟨rfl,rfl,⟨S2,l',q1,q2,q3,q4,q5⟩,q6⟩
 have hnd := hl.nodup
 rw [List.map_append,List.nodup_append] at hnd
 obtain ⟨hnd1,hnd2,hnd3⟩ := hnd
 have hkl : ∀ b,keys0 (l.filter fun q => decide (live q)) b → ∃ o,(b,o) ∈ l := fun b ⟨o,hm⟩ => ⟨o,(List.mem_filter.1 hm).1⟩
 have hgrow : w.heap.size ≤ w'.heap.size := by have := q5.size; omega
 have hHL : HL (mineZ (SE w.heap.size j.1)) (fun _ => False) (w.heap.size + 7) Ex w₀ (l' ++ fr) w' := by
  refine ⟨⟨q5.tape.trans hl.kept.tape,q5.os.trans hl.kept.os,q5.output.trans hl.kept.output,Nat.le_trans hl.kept.grow hgrow,fun b hb1 hb2 => ?_,fun b hb1 => ⟨Nat.lt_of_lt_of_le hb1.1 (Nat.le_trans hl.kept.grow hgrow),hb1.2⟩,fun b z => z.elim⟩,by have := q5.size; omega,fun b o hm => ?_,?_⟩
  ·
   have hbN : b < w.heap.size := Nat.lt_of_lt_of_le hb1.1 hl.kept.grow
   have hnk : ¬ keys0 (l.filter fun q => decide (live q)) b := fun z => by
    obtain ⟨o,hm⟩ := hkl b z
    rcases (hl.own b o (List.mem_append_left _ hm)).2.2 with z | z
    ·
     exact hb2 z
    ·
     have := hb1.1; omega
   exact (q5.old b hbN hnk).trans (hl.kept.block b ⟨hb1.1,fun z => hb1.2 (.inl z)⟩ hb2)
  ·
   rcases List.mem_append.1 hm with hm | hm
   ·
    obtain ⟨m1,m2,m3,m4,m5⟩ := q4 b o hm
    by_cases hbN : b < w.heap.size
    ·
     obtain ⟨o2,hm2⟩ := hkl b (m4 hbN)
     obtain ⟨r1,r2,r3⟩ := hl.own b o2 (List.mem_append_left _ hm2)
     exact ⟨⟨m1,fun z => z.elim r1.2 m3⟩,m5,r3⟩
    ·
     refine ⟨⟨m1,fun z => z.elim (fun z => ?_) m3⟩,m5, .inr (by have := hl.kept.grow; omega)⟩
     have := hj b z
     have := hl.size
     omega
   ·
    obtain ⟨r1,r2,r3⟩ := hl.own b o (List.mem_append_right _ hm)
    have hnk : ¬ keys0 (l.filter fun q => decide (live q)) b := fun z => by
     obtain ⟨o2,hm2⟩ := hkl b z
     exact hnd3 b (List.mem_map.2 ⟨_,hm2,rfl⟩) b (List.mem_map.2 ⟨_,hm,rfl⟩) rfl
    refine ⟨⟨Nat.lt_of_lt_of_le r1.1 hgrow,fun z => z.elim r1.2 (fun z => ?_)⟩,(q5.old b r1.1 hnk).trans r2,r3⟩
    have := r1.1
    omega
  ·
   rw [List.map_append,List.nodup_append]
   refine ⟨q3,hnd2,fun x hx y hy hxy => ?_⟩
   subst hxy
   obtain ⟨⟨b,o⟩,hm,rfl⟩ := List.mem_map.1 hx
   obtain ⟨⟨b2,o2⟩,hm2,e2⟩ := List.mem_map.1 hy
   have e2 : b2 = b := e2
   subst e2
   have hbN := (hl.own b2 o2 (List.mem_append_right _ hm2)).1.1
   obtain ⟨o3,hm3⟩ := hkl b2 ((q4 b2 o hm).2.2.2.1 hbN)
   exact hnd3 b2 (List.mem_map.2 ⟨_,hm3,rfl⟩) b2 (List.mem_map.2 ⟨_,hm2,rfl⟩) rfl
 refine ⟨w.heap.size + 7,fun w₁ r => ⟨S2,l',q1.an,q2,⟨q1.live,q1.inj,q1.lt,Who.le_trans hS.an q1.an⟩,⟨⟨fun b z => ?_,fun b z => ?_⟩,hHL.rely (envZ (KT := KTs) (fun b z => ?_)) r⟩,?_⟩⟩
 ·
  rcases z with z | z
  ·
   have := hj b z; have := hl.size; omega
  ·
   omega
 ·
  rcases z with z | z
  ·
   exact hj2 b z
  ·
   have := hl.kept.grow; omega
 ·
  rcases z with z | z
  ·
   have := hj b z; have := hl.size; omega
  ·
   omega
 ·
  exact VR.of_tu AR.nil
theorem prOf_sound {z1 e1 : Nat} (h1 : An 1 = some (1,z1,e1)) {n : Nat} {args : Array Value} {s : AS} {v : Value} {s' : AS} (h : prOf prog n args s = some (v,s')) :
  s.nx ≤ s'.nx ∧ Sound prog KTs An (fun _ : Zx => AtRel) (fun j => DZ j.1) (fun j => ZI prog Post 0 j.1) (HdZ Ex w₀) 37 args s v s' := by
 unfold prOf at h
 split at h
 ·
  next bp c0 f x y ha =>
  split at h
  ·
   next cs fz f₀ hb hf =>
   split at h
   ·
    next str rest c hcs hbody =>
    split at h
    ·
     next hc =>
     obtain ⟨hx0,hres,hsm,hs1⟩ := hc
     split at h
     ·
      next e aA' s2 hev =>
      split at h
      ·
       next hkeep =>
       have hfin : (e = .normal ∨ e = .ret) ∧ v = .tuple #[] ∧ s' = (s2.tidy s.nx) := by
        split at h
        ·
         cases h; exact ⟨.inl rfl,rfl,rfl⟩
        ·
         cases h; exact ⟨.inr rfl,rfl,rfl⟩
        ·
         cases h
       obtain ⟨he,rfl,rfl⟩ := hfin
       exact of_core h1 hs1 ha hb hf hcs hbody hx0 hres hsm hev hkeep he
      ·
       cases h
     ·
      cases h
    ·
     cases h
   ·
    cases h
  ·
   cases h
 ·
  cases h
end
end
end Go.Proofs.YtgcaionclkbehaaGreatDoor
