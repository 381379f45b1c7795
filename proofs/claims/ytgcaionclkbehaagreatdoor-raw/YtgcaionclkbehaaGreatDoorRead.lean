import Derived.Test.YtgcaionclkbehaaGreatDoorP9
set_option linter.all false
namespace Go.Proofs.YtgcaionclkbehaaGreatDoor
open Tryz
section
open Go.Conc Go.RowKit Go.Lib
def ktB (t : TypeId) : Bool := t.beq 177 || t.beq 179 || Nat.ble 1016 t
theorem zk0 (t : TypeId) (h : ktB t = false) : ¬ KTs t := by
 rintro (rfl | rfl | h')
 ·
  cases h
 ·
  cases h
 ·
  have : Nat.ble 1016 t = true := Nat.ble_eq_true_of_le h'
  simp [ktB,this] at h
theorem ne_list : (List.range 416).all (fun g => !(noEsc prog (.func g)) || g.beq 330) = true := by kernel_rfl
theorem ne_size : prog.funcs.size = 416 := by kernel_rfl
theorem ne_tryz : ∀ g f₀, noEsc prog (.func g) = true → prog.funcs[g]? = some f₀ → (f₀.name == "runtime.NumGoroutine") = false ∧ Extern.findNext f₀ = none ∧ Extern.find f₀ = some Extern.AbiNoEscape.same := by
 intro g f₀ h hf
 have hg : g < 416 := by rw [← ne_size]; exact (Array.getElem?_eq_some_iff.1 hf).1
 have := ne_list
 rw [List.all_eq_true] at this
 have := this g (List.mem_range.2 hg)
 rw [h] at this
 have e : g = 330 := Nat.eq_of_beq_eq_true (by simpa using this)
 subst e
 rw [func330] at hf
 cases hf
 exact ⟨by rfl,by kernel_rfl,by kernel_rfl⟩
theorem all_funcs {P : Program} {p : Func → Bool} {n : Nat} (h : (List.range n).all (fun g => (P.funcs[g]?).all p) = true) (hn : P.funcs.size = n) {g : FuncId} {f₀ : Func} (hf : P.funcs[g]? = some f₀) : p f₀ = true := by
 have hg : g < n := by rw [← hn]; exact (Array.getElem?_eq_some_iff.1 hf).1
 have h1 := List.all_eq_true.1 h g (List.mem_range.2 hg)
 rw [hf] at h1
 exact h1
def notNum (f₀ : Func) : Bool := !(f₀.name == "runtime.NumGoroutine")
theorem nm_list : (List.range 416).all (fun g => (prog.funcs[g]?).all notNum) = true := by kernel_rfl
theorem zg5 : ∀ (f : FuncId) (f₀ : Func), prog.funcs[f]? = some f₀ → (f₀.name == "runtime.NumGoroutine") = false := by
 intro g f₀ hf
 have h := all_funcs nm_list ne_size hf
 unfold notNum at h
 simpa using h
def entOk (l : List Value) : Bool := (lenL l 0).beq (lenL entC 0) && (l.zip entC).all fun p => veq 3 p.1 p.2
theorem entOk_eq {l : List Value} (h : entOk l = true) : l = entC := by
 unfold entOk at h
 simp only [Bool.and_eq_true,zl8,Nat.zero_add] at h
 exact zip_all _ _ (Nat.eq_of_beq_eq_true h.1) h.2 fun p hp => zk8 hp
theorem args2 {S : Who} {x y : Value} {args' : Array Value} (h : AR (VR S) #[x,y] args') : ∃ x' y',args' = #[x',y'] ∧ VR S x x' ∧ VR S y y' := by
 have hsz := h.1
 simp at hsz
 refine ⟨args'[0]'(by omega),args'[1]'(by omega),?_,h.2 0 _ _ rfl (Array.getElem?_eq_getElem (by omega)),h.2 1 _ _ rfl (Array.getElem?_eq_getElem (by omega))⟩
 apply Array.ext
 ·
  simp; omega
 ·
  intro k h1 h2
  simp at h2
  match k,h2 with
  | 0,_ => rfl
  | 1,_ => rfl
theorem args3 {S : Who} {x y z : Value} {args' : Array Value} (h : AR (VR S) #[x,y,z] args') : ∃ x' y' z',args' = #[x',y',z'] ∧ VR S x x' ∧ VR S y y' ∧ VR S z z' := by
 have hsz := h.1
 simp at hsz
 refine ⟨args'[0]'(by omega),args'[1]'(by omega),args'[2]'(by omega),?_,h.2 0 _ _ rfl (Array.getElem?_eq_getElem (by omega)),h.2 1 _ _ rfl (Array.getElem?_eq_getElem (by omega)),h.2 2 _ _ rfl (Array.getElem?_eq_getElem (by omega))⟩
 apply Array.ext
 ·
  simp; omega
 ·
  intro k h1 h2
  simp at h2
  match k,h2 with
  | 0,_ => rfl
  | 1,_ => rfl
  | 2,_ => rfl
section
variable {ι : Type} {P : Program} {KT : TypeId → Prop} {An : Who} {N0 : ι → Nat} {M : ι → World → Nat → Prop} {O : ι → Nat → Prop} {R : ι → World → World → Prop} {D : ι → World → World → Array Event → Prop} {X : ι → Goroutine → World → Prop} {Hd : ι → List (Nat × Obj) → World → Prop} {f : FuncId} {args : Array Value} {s : AS} {v : Value}
theorem Sound.same2 (Y : Cy P KT N0 M O R D X Hd) {m : Nat} (hv : flatV m v = true) (h : ∀ S l fr i w args',Sim P KT An S s l → Hd i (l ++ fr) w → AR (VR S) args args' → CallsI P X f args' i w (fun i' x w' => x = v ∧ Hd i' (l ++ fr) w')) : Sound P KT An R D X Hd f args s v s := by
 intro S l fr i w args' hS hF hA hfr
 refine (h S l fr i w args' hS hF hA).toE Y.C Y.T ?_
 rintro i' x w' w₁ ⟨rfl,hF'⟩ hR
 exact ⟨S,l,Who.le_refl S,fun _ _ => rfl,hS,(Y.Z hF').rely hF' hR,VR.of_flat hv⟩
end
def prRow (rn : Nat) (L : List Int) : Prim
 | 146 => some fun args s => match args.toList with
  | [.pointer (some ⟨b,0,none⟩), .int .i64 k] => if b = rn ∧ 0 ≤ k then some (.int .i32 (L[k.toNat]?.getD (-1)),s) else none
  | _ => none
 | 92 => some fun args s => match args.toList with
  | [.pointer (some ⟨b,0,none⟩), .int .i64 i, .int .i64 j] => if b = rn ∧ 0 ≤ i ∧ 0 ≤ j ∧ j ≤ 1000000 then some (.string ⟨(zf4 ((L.drop i.toNat).take (j.toNat - i.toNat))).toArray⟩,s) else none
  | _ => none
 | 333 => some fun args s => match args.toList with
  | [.string x, .int .i64 k] => match s.get 1 with
   | some (.cells cs 335 (0,0)) => if entOk cs.toList = true ∧ lenL x.data.toList 0 ≤ 1000000 then some (.tuple #[.int .i32 (zl7 x k).1, .int .i64 (zl7 x k).2],s) else none
   | _ => none
  | _ => none
 | f => prBase f
theorem prRow_nx (rn : Nat) (all : List Int) : ∀ f g args s v s',prRow rn all f = some g → g args s = some (v,s') → s.nx ≤ s'.nx := by
 intro f g args s v s' hf h
 unfold prRow at hf
 split at hf
 iterate 2
  ·
   cases hf
   simp only at h
   split at h
   ·
    split at h
    ·
     cases h; exact Nat.le_refl _
    ·
     cases h
   ·
    cases h
 ·
  cases hf
  simp only at h
  split at h
  ·
   split at h
   ·
    split at h
    ·
     cases h; exact Nat.le_refl _
    ·
     cases h
   ·
    cases h
  ·
   cases h
 ·
  exact prBase_nx _ _ _ _ _ _ hf h
section
variable {N Pb : Nat} {Shun : Loc → Prop} {val : Value} {B : Nat} {Mine : Loc → Prop} {Ex : Nat → Prop} {w₀ w w₁ w' : World} {AnchW : Goroutine → World → Prop} {all : List Int} {Rb : Nat} {i : Ph} {l : List (Nat × Obj)} {An : Who}
variable [Go.ConcR.Payload] [Go.ConcX.Payload]
variable [Go.ConcX.Shy (Cfg.Wg (kcfg prog N Pb Shun val B Mine)) (Cfg.C (kcfg prog N Pb Shun val B Mine))]
theorem cyM (F : Cfg.Fit (kcfg prog N Pb Shun val B Mine)) : Cy prog KTs (fun _ => N + 9) (fun _ => mineM (kcfg prog N Pb Shun val B Mine)) (fun _ => outM (kcfg prog N Pb Shun val B Mine)) (RMd (kcfg prog N Pb Shun val B Mine)) (DMd (kcfg prog N Pb Shun val B Mine)) (XM (kcfg prog N Pb Shun val B Mine) AnchW) (fun i l w => HX (kcfg prog N Pb Shun val B Mine) Ex w₀ all Rb i l w) where
 C := XM.closed (K := kcfg prog N Pb Shun val B Mine)
 T := termsM (K := kcfg prog N Pb Shun val B Mine)
 ne := ne_tryz
 Z h := HX.co F h
theorem prRow_ok (F : Cfg.Fit (kcfg prog N Pb Shun val B Mine)) (hg : ∀ r ∈ all,Good r) (hn : 4 * all.length ≤ 1000000) {rn z1 e1 z2 e2 : Nat} (h1 : An rn = some (Rb,z1,e1)) (h2 : An 1 = some (1,z2,e2)) :
  PrimOk prog KTs An (RMd (kcfg prog N Pb Shun val B Mine)) (DMd (kcfg prog N Pb Shun val B Mine)) (XM (kcfg prog N Pb Shun val B Mine) AnchW) (fun i l w => HX (kcfg prog N Pb Shun val B Mine) Ex w₀ all Rb i l w) (prRow rn all) := by
 have Y := cyM (AnchW := AnchW) (Ex := Ex) (w₀ := w₀) (all := all) (Rb := Rb) F
 have hb := prBase_ok (An := An) Y
 constructor
 ·
  exact prRow_nx rn all
 ·
  intro f g args s v s' hf h
  unfold prRow at hf
  split at hf
  ·
   cases hf
   simp only at h
   split at h
   ·
    next b k ha =>
    split at h
    ·
     next hc =>
     obtain ⟨rfl,hk⟩ := hc
     cases h
     rw [list2 ha]
     refine Sound.same Y rfl fun S l fr i w args' hS hF hA => ?_
     obtain ⟨x',y',rfl,hx,hy⟩ := args2 hA
     obtain ⟨g,z,e,q1,rfl⟩ := hx.ptr
     rw [hS.an _ _ h1] at q1
     cases q1
     rw [hy.sc rfl]
     have hkk : k = ((k.toNat : Nat) : Int) := by omega
     have := HX.at (AnchW := AnchW) F (by omega) hF k.toNat
     rw [← hkk] at this
     exact zk6 this fun i' v w' hq => hq
    ·
     cases h
   ·
    cases h
  ·
   cases hf
   simp only at h
   split at h
   ·
    next b ii jj ha =>
    split at h
    ·
     next hc =>
     obtain ⟨rfl,hi,hj,hj9⟩ := hc
     cases h
     have : args = #[.pointer (some ⟨b,0,none⟩), .int .i64 ii, .int .i64 jj] := by apply Array.toList_inj.1; simp [ha]
     rw [this]
     refine Sound.same Y rfl fun S l fr i w args' hS hF hA => ?_
     obtain ⟨x',y',z',rfl,hx,hy,hz⟩ := args3 hA
     obtain ⟨g,z,e,q1,rfl⟩ := hx.ptr
     rw [hS.an _ _ h1] at q1
     cases q1
     rw [hy.sc rfl,hz.sc rfl]
     have hi' : ii = ((ii.toNat : Nat) : Int) := by omega
     have hj' : jj = ((jj.toNat : Nat) : Int) := by omega
     have := HX.text (AnchW := AnchW) F hg hn hF ii.toNat jj.toNat (by omega)
     rw [← hi', ← hj'] at this
     exact zk6 this fun i' v w' hq => hq
    ·
     cases h
   ·
    cases h
  ·
   cases hf
   simp only at h
   split at h
   ·
    next x k ha =>
    split at h
    ·
     next cs hb1 =>
     split at h
     ·
      next hc =>
      obtain ⟨hc1,hc2⟩ := hc
      cases h
      rw [list2 ha]
      refine Sound.same2 Y (m := 2) rfl fun S l fr i w args' hS hF hA => ?_
      rw [hA.sc rfl]
      obtain ⟨g,z,e,o',q1,q2,q3,q4⟩ := hS.live 1 _ hb1
      rw [hS.an _ _ h2] at q1
      cases q1
      obtain ⟨cs',rfl,r1,⟨r2,r3⟩,r4⟩ := q3
      have hsz := r3 rfl
      have hcs : cs' = entC.toArray := by
       have hcc : cs.toList = entC := entOk_eq hc1
       have : cs = entC.toArray := by apply Array.toList_inj.1; simp [hcc]
       rw [← this]
       refine AR.sc (S := S) ⟨by omega,r4⟩ ?_
       rw [hcc]
       decide +kernel
      subst hcs
      obtain ⟨hm,hgb⟩ := (Y.Z hF).own hF (List.mem_append_left _ q2)
      have hsx : x.size ≤ 1000000 := by rw [zl8,Nat.zero_add,Array.length_toList] at hc2; exact hc2
      exact zk6 (byName_x Y.C Y.T (Y.Z hF).env ((Y.Z hF).size hF) hm hgb x k hsx) fun i' v w' ⟨q1,q2,q3,q4⟩ => ⟨q2,by subst q1; exact (Y.Z hF).past hF q3 q4⟩
     ·
      cases h
    ·
     cases h
   ·
    cases h
  ·
   exact hb.sound _ _ _ _ _ _ hf h
end
end
set_option maxRecDepth 100000
set_option maxHeartbeats 2000000
section
open Go.Conc Go.RowKit
def runS (c : CS) (d : DS) : List Int → CS × DS × List Int
 | [] => (c,d, [])
 | b :: l => ((runS (zb3 c (takeS d b).2).1 (takeS d b).1 l).1,(runS (zb3 c (takeS d b).2).1 (takeS d b).1 l).2.1,(zb3 c (takeS d b).2).2 ++ (runS (zb3 c (takeS d b).2).1 (takeS d b).1 l).2.2)
def bytesOf (s : ByteArray) : List Int := s.data.toList.map fun b => (b.toNat : Int)
def zd7 (c : CS) (d : DS) (l : List Int) : List Int := (runS c d l).2.2 ++ (zb3 (runS c d l).1 (endS (runS c d l).2.1).2).2
def zd0 (s : ByteArray) : List Int := zd7 ⟨false,false⟩ ⟨0,0,0,0⟩ (bytesOf s)
theorem zk9 (c : CS) (d : DS) : zd7 c d [] = (zb3 c (endS d).2).2 := by simp [zd7,runS]
theorem zj6 (c : CS) (d : DS) (b : Int) (l : List Int) : zd7 c d (b :: l) = (zb3 c (takeS d b).2).2 ++ zd7 (zb3 c (takeS d b).2).1 (takeS d b).1 l := by simp [zd7,runS]
structure HP (N Pb cp : Nat) (s : ByteArray) (k c1 c2 : Nat) (x1 x2 : Array Value) (w : World) : Prop where
 lv : w.heap[N + 3]? = some (.cells #[.chan (some (N + 2))] 158)
 ps : w.cell? ⟨Pb,0,none⟩ = some (.string s)
 lo : Pb < N
 bf : ∃ o,w.heap[N + 8]? = some o
 cl : 1 ≤ k → w.heap[c1]? = some (.cells x1 177)
 h1 : 1 ≤ k → N + 9 ≤ c1
 de : 2 ≤ k → w.heap[c2]? = some (.cells x2 179)
 h2 : 2 ≤ k → N + 9 ≤ c2 ∧ c1 ≠ c2
 pc : w.heap[N]? = some (.cells #[.slice (some ⟨Pb,0,none⟩) 1 cp] 62)
 wb : w.heap[N + 7]? = some (.cells #[.pointer (some ⟨N + 6,0,none⟩)] 240)
section
variable {N Pb cp c1 c2 : Nat} {Shun : Loc → Prop} {val : Value} {B : Nat} {Mine : Loc → Prop} {c : CS} {d : DS} {w w₁ : World}
variable [Go.ConcR.Payload] [Go.ConcX.Payload]
variable {s : ByteArray} {k : Nat} {x1 x2 : Array Value}
theorem HP.size (h : HP N Pb cp s k c1 c2 x1 x2 w) : N + 9 ≤ w.heap.size := by
 obtain ⟨o,ho⟩ := h.bf
 have := (Array.getElem?_eq_some_iff.1 ho).1
 omega
theorem HP.rc (h : HP N Pb cp s k c1 c2 x1 x2 w) (r : RC (kcfg prog N Pb Shun val B Mine) w w₁) : HP N Pb cp s k c1 c2 x1 x2 w₁ := by
 refine ⟨(r _ (.inr (.inr (.inl rfl)))).trans h.lv,?_,h.lo,h.bf.imp fun _ ho => (r _ (.inr (.inr (.inr (.inr (.inr (.inl rfl))))))).trans ho,fun hk => (r _ (.inl (.inr ⟨h.h1 hk,_,h.cl hk, .inl rfl⟩))).trans (h.cl hk),h.h1,fun hk => (r _ (.inl (.inr ⟨(h.h2 hk).1,_,h.de hk, .inr (.inl rfl)⟩))).trans (h.de hk),h.h2,(r _ (.inl (.inl rfl))).trans h.pc,(r _ (.inr (.inr (.inr (.inr (.inl rfl)))))).trans h.wb⟩
 have := r Pb (.inr (.inr (.inr (.inr (.inr (.inr rfl))))))
 rw [← h.ps]; unfold World.cell?; rw [this]
theorem HP.rely {i : Ix} (h : HP N Pb cp s k c1 c2 x1 x2 w) (r : RKd (kcfg prog N Pb Shun val B Mine) i w w₁) : HP N Pb cp s k c1 c2 x1 x2 w₁ := h.rc r.rc
theorem zb9 (w : World) (o : Obj) {b : Nat} (h : b < w.heap.size) : (w.alloc o).heap[b]? = w.heap[b]? := Below.heap_alloc _ _ _ h
theorem HP.alloc1 (h : HP N Pb cp s 0 c1 c2 x1 x2 w) (c : Array Value) : ∃ c1,c1 = w.heap.size ∧ HP N Pb cp s 1 c1 c2 c x2 (w.alloc (.cells c 177)) := by
 have hs := h.size
 refine ⟨_,rfl,(zb9 _ _ (by omega)).trans h.lv,(World.cell?_alloc_lt _ _ _ (by show Pb < _; have := h.lo; omega)).trans h.ps,h.lo,h.bf.imp fun _ ho => (zb9 _ _ (by omega)).trans ho,fun _ => heap_alloc_new w (.cells c 177),fun _ => hs,fun h2 => by omega,fun h2 => by omega,(zb9 _ _ (by omega)).trans h.pc,(zb9 _ _ (by omega)).trans h.wb⟩
theorem HP.alloc2 (h : HP N Pb cp s 1 c1 c2 x1 x2 w) (c : Array Value) : ∃ c2,c2 = w.heap.size ∧ HP N Pb cp s 2 c1 c2 x1 c (w.alloc (.cells c 179)) := by
 have hs := h.size
 have hlt := (Array.getElem?_eq_some_iff.1 (h.cl (by omega))).1
 refine ⟨_,rfl,(zb9 _ _ (by omega)).trans h.lv,(World.cell?_alloc_lt _ _ _ (by show Pb < _; have := h.lo; omega)).trans h.ps,h.lo,h.bf.imp fun _ ho => (zb9 _ _ (by omega)).trans ho,fun _ => (zb9 _ _ hlt).trans (h.cl (by omega)),fun _ => h.h1 (by omega),fun _ => heap_alloc_new w (.cells c 179),fun _ => ⟨hs,by omega⟩,(zb9 _ _ (by omega)).trans h.pc,(zb9 _ _ (by omega)).trans h.wb⟩
theorem ze7 (w : World) {g b : Nat} (cs : Array Value) (h : b ≠ g) : (w.setRow g cs).heap[b]? = w.heap[b]? := by
 simp [World.setRow,Array.getElem?_modify,Ne.symm h]
theorem HP.set1 (h : HP N Pb cp s k c1 c2 x1 x2 w) (hk : 1 ≤ k) (c : Array Value) : HP N Pb cp s k c1 c2 c x2 (w.setRow c1 c) := by
 have hs := h.size
 have hlo := h.lo
 have h1 := h.h1 hk
 refine ⟨(ze7 _ _ (by omega)).trans h.lv,?_,h.lo,h.bf.imp fun _ ho => (ze7 _ _ (by omega)).trans ho,fun _ => setRow_heap w _ _ _ _ _ (h.cl hk),h.h1,fun z => (ze7 _ _ (Ne.symm (h.h2 z).2)).trans (h.de z),h.h2,(ze7 _ _ (by omega)).trans h.pc,(ze7 _ _ (by omega)).trans h.wb⟩
 rw [← h.ps]; unfold World.cell?; rw [ze7 _ _ (by show Pb ≠ _; omega)]
theorem HP.set2 (h : HP N Pb cp s k c1 c2 x1 x2 w) (hk : 2 ≤ k) (c : Array Value) : HP N Pb cp s k c1 c2 x1 c (w.setRow c2 c) := by
 have hs := h.size
 have hlo := h.lo
 have h2 := h.h2 hk
 refine ⟨(ze7 _ _ (by omega)).trans h.lv,?_,h.lo,h.bf.imp fun _ ho => (ze7 _ _ (by omega)).trans ho,fun z => (ze7 _ _ h2.2).trans (h.cl z),h.h1,fun _ => setRow_heap w _ _ _ _ _ (h.de hk),h.h2,(ze7 _ _ (by omega)).trans h.pc,(ze7 _ _ (by omega)).trans h.wb⟩
 rw [← h.ps]; unfold World.cell?; rw [ze7 _ _ (by show Pb ≠ _; omega)]
theorem HP.hc (h : HP N Pb cp s 2 c1 c2 #[sendV N, .bool false, .bool false] #[putV c1, .int .i32 0, .int .i64 0, .int .u8 0, .int .u8 0] w) : HC N Pb cp c1 c2 ⟨false,false⟩ ⟨0,0,0,0⟩ w := ⟨h.lv,h.cl (by omega),h.de (by omega),h.pc,h.wb,h.h1 (by omega),(h.h2 (by omega)).1,(h.h2 (by omega)).2⟩
theorem dk_allocO {es : Array Event} {ob : Obj} (hs : N + 9 ≤ w.heap.size) (ht : tyOf ob = 177 ∨ tyOf ob = 179 ∨ 1016 ≤ tyOf ob) (h : ∀ e ∈ es,EvK (kcfg prog N Pb Shun val B Mine) (w.alloc ob) e) : DK (kcfg prog N Pb Shun val B Mine) w (w.alloc ob) es := by
 refine ⟨rfl,rfl,rfl,fun b hb _ => zb9 _ _ hb,fun b hb => ?_,fun b h1 h2 => ?_,zb9 _ _ (by show N < _; omega),by simp [World.size_alloc],h⟩
 ·
  rcases hb with z | ⟨z,o',z1,z2⟩
  ·
   exact .inl z
  ·
   exact .inr ⟨z,o',(zb9 _ _ (Array.getElem?_eq_some_iff.1 z1).1).trans z1,z2⟩
 ·
  have : b = w.heap.size := by simp [World.size_alloc] at h2; omega
  subst this
  exact .inr ⟨hs,_,heap_alloc_new w ob,ht⟩
theorem dk_alloc {es : Array Event} {cs : Array Value} {t : TypeId} (hs : N + 9 ≤ w.heap.size) (ht : t = 177 ∨ t = 179 ∨ 1016 ≤ t) (h : ∀ e ∈ es,EvK (kcfg prog N Pb Shun val B Mine) (w.alloc (.cells cs t)) e) : DK (kcfg prog N Pb Shun val B Mine) w (w.alloc (.cells cs t)) es := dk_allocO hs ht h
theorem dk_row {es : Array Event} {g : Nat} {cs old : Array Value} {t : TypeId} (hg : w.heap[g]? = some (.cells old t)) (hN : N + 9 ≤ g) (ht : t = 177 ∨ t = 179 ∨ 1016 ≤ t) (h : ∀ e ∈ es,EvK (kcfg prog N Pb Shun val B Mine) (w.setRow g cs) e) : DK (kcfg prog N Pb Shun val B Mine) w (w.setRow g cs) es := by
 have hs : (w.setRow g cs).heap.size = w.heap.size := by simp
 refine ⟨rfl,rfl,rfl,fun k _ hk => ze7 _ _ ?_,fun b hb => ?_,fun b h1 h2 => absurd h1 (by omega),ze7 _ _ (by show N ≠ g; omega),by omega,h⟩
 ·
  rintro rfl; exact hk (.inr ⟨hN,_,hg,ht⟩)
 ·
  by_cases e : b = g
  ·
   subst e; exact .inr ⟨hN,_,setRow_heap w _ _ _ _ _ hg,ht⟩
  ·
   exact hb.of_same (ze7 _ _ e)
theorem store_row {P : Program} {w : World} {o : Oper} {a : Act} {ty t : TypeId} {x y : Operand} {g : Nat} {old cells : Array Value} (hop : o.op = .store ty x y) (hx : a.eval x = .pointer (some ⟨g,0,none⟩)) (hy : a.eval y = .agg cells)
  (hg : w.heap[g]? = some (.cells old t (0,0))) (hi : (P.info? ty).map (·.size) = some cells.size) (ho : old.size = cells.size) (h1 : cells.all (·.oneCell') = true) :
  (execOp a.eval o).run P w = .ok .skip (w.setRow g cells) ∧ ∀ ev ∈ (execOp a.eval o).events P w #[], ∃ o,ev = ⟨.cell ⟨g,o,none⟩,true,false⟩ := by
 constructor
 ·
  unfold execOp
  simp [hop,hx,hy,Instr.storeAt,Instr.sureAddr,run_storeVar_row w g t ty old cells hg hi ho h1]
 ·
  intro ev hev
  unfold execOp at hev
  simp only [hop,hx,hy] at hev
  refine storeVar_evs w g t ty old cells hg hi ho h1 ev ?_
  simpa [Instr.storeAt,Instr.sureAddr] using hev
theorem read_x (hF : HP N Pb cp s 0 0 0 #[] #[] w) (hz : s.size ≤ 9223372036854775806) (vs : List Value) :
  zj8 prog (XK (kcfg prog N Pb Shun val B Mine)) 63 #[.slice (some ⟨Pb,0,none⟩) 1 cp,sendV N] (true,V (zd0 s) ++ vs) w (fun i' _ w' => i' = ((zd0 s).isEmpty,vs) ∧ ∃ c1 c2 c d,HC N Pb cp c1 c2 c d w') := by
 have C : Closed prog false (RKd (kcfg prog N Pb Shun val B Mine)) (DK (kcfg prog N Pb Shun val B Mine)) (XK (kcfg prog N Pb Shun val B Mine)) := XK.closed (K := (kcfg prog N Pb Shun val B Mine))
 have T := zm6 (K := (kcfg prog N Pb Shun val B Mine))
 have Tq := T (true, [])
 have evb : ∀ (w : World) (es : Array Event) (a : Addr) (m : Mode) (x : Bool),(store a (.bool x) m).events prog w es = storedEv prog w es a (.bool x) m := fun w es a m x => events_store prog w es a _ m rfl
 have hdr : ∀ w : World,RKd (kcfg prog N Pb Shun val B Mine) (true, []) w { w with drawn := w.drawn + 1 } := zl1
 have bd1 := fun w => run_build (P := prog) w 177 #[(0,sendV N)] #[sendV N, .bool false, .bool false] (by kernel_rfl)
 have be1 := fun w es => zj3 (P := prog) w 177 #[(0,sendV N)] #[sendV N, .bool false, .bool false] (by kernel_rfl) es
 have bd2 := fun c1 w => run_build (P := prog) w 179 #[(0,putV c1)] #[putV c1, .int .i32 0, .int .i64 0, .int .u8 0, .int .u8 0] (by kernel_rfl)
 have be2 := fun c1 w es => zj3 (P := prog) w 179 #[(0,putV c1)] #[putV c1, .int .i32 0, .int .i64 0, .int .u8 0, .int .u8 0] (by kernel_rfl) es
 have al1 := fun w => zi1 (w := w) Tryz.zeroValue177
 have ae1 := fun w es => zf3 (w := w) Tryz.zeroValue177 es
 have al2 := fun w => zi1 (w := w) Tryz.zeroValue179
 have ae2 := fun w es => zf3 (w := w) Tryz.zeroValue179 es
 have ln : ∀ w es,(Builtin.len_ #[9] 3 #[.string s]).events prog w es = es := fun w es => by simp [Builtin.len_,go_sem]
 have mk : ∀ c1 w es,(Instr.makeFunc (Fn.func 116) #[Value.pointer (some ⟨c1,0,none⟩)] #[]).events prog w es = es := fun c1 w es => by simp [Instr.makeFunc]
 refine zf5 func63 (by rfl) rfl ?_
 simp only [ntmps63,List.size_toArray,List.length_cons,List.length_nil,Nat.reduceAdd,Nat.reduceSub,Array.replicate_succ,Array.replicate_zero,List.push_toArray,List.append_toArray,List.nil_append,List.cons_append]
 co_apply zb1 C T (RKd.refl _)
 co_reg (T _)
 co_op HP.rely hF (co_quiet Tq)
 co_opw HP.rely hF (skip) (co_still Tq)
 co_opw HP.rely hF (skip) (exact dk_alloc hF.size (.inl rfl) (by co_evs (skip)))
 obtain ⟨c1,hc1,hF⟩ := hF.alloc1 #[.nilFunc, .bool false, .bool false]
 simp only [← hc1]
 clear hc1
 co_apply opsC_cons_k rfl (by rfl)
 intro _ hR K hK
 replace hF := HP.rely hF hR
 clear hR
 have hst := fun {o : Oper} {a : Act} {x y : Operand} hop hx hy => store_row (P := prog) (ty := 177) (o := o) (a := a) (x := x) (y := y) (g := c1) (cells := #[sendV N, .bool false, .bool false]) hop hx hy (hF.cl (by omega)) (by kernel_rfl) rfl (by simp [Value.oneCell',sendV,putV])
 rw [(hst rfl rfl rfl).1]
 refine hK _ _ ⟨?_,?_⟩
 ·
  refine dk_row (hF.cl (by omega)) (hF.h1 (by omega)) (.inl rfl) fun e he => ?_
  obtain ⟨o,rfl⟩ := (hst rfl rfl rfl).2 e (mem_listed he)
  exact .inl ⟨_,_,rfl, .inl (.inr ⟨hF.h1 (by omega),_,setRow_heap _ _ _ _ _ _ (hF.cl (by omega)), .inl rfl⟩)⟩
 clear hK K hst
 try walk_nrm
 replace hF := hF.set1 (by omega) #[sendV N, .bool false, .bool false]
 co_apply opsC_nil (T _)
 co_then
 co_apply zb1 C T (RKd.refl _)
 co_reg (T _)
 co_opw HP.rely hF (skip) (co_still Tq)
 simp only [show Value.func (Fn.func 116) #[Value.pointer (some ⟨c1,0,none⟩)] #[] = putV c1 from rfl]
 co_opw HP.rely hF (skip) (co_still Tq)
 co_opw HP.rely hF (skip) (exact dk_alloc hF.size (.inr (.inl rfl)) (by co_evs (skip)))
 obtain ⟨c2,hc2,hF⟩ := hF.alloc2 #[.nilFunc, .int .i32 0, .int .i64 0, .int .u8 0, .int .u8 0]
 simp only [← hc2]
 clear hc2
 co_apply opsC_cons_k rfl (by rfl)
 intro _ hR K hK
 replace hF := HP.rely hF hR
 clear hR
 have hst := fun {o : Oper} {a : Act} {x y : Operand} hop hx hy => store_row (P := prog) (ty := 179) (o := o) (a := a) (x := x) (y := y) (g := c2) (cells := #[putV c1, .int .i32 0, .int .i64 0, .int .u8 0, .int .u8 0]) hop hx hy (hF.de (by omega)) (by kernel_rfl) rfl (by simp [Value.oneCell',sendV,putV])
 rw [(hst rfl rfl rfl).1]
 refine hK _ _ ⟨?_,?_⟩
 ·
  refine dk_row (hF.de (by omega)) (hF.h2 (by omega)).1 (.inr (.inl rfl)) fun e he => ?_
  obtain ⟨o,rfl⟩ := (hst rfl rfl rfl).2 e (mem_listed he)
  exact .inl ⟨_,_,rfl, .inl (.inr ⟨(hF.h2 (by omega)).1,_,setRow_heap _ _ _ _ _ _ (hF.de (by omega)), .inr (.inl rfl)⟩)⟩
 clear hK K hst
 try walk_nrm
 replace hF := hF.set2 (by omega) #[putV c1, .int .i32 0, .int .i64 0, .int .u8 0, .int .u8 0]
 co_apply opsC_nil (T _)
 co_then
 refine zf6 C T ?_
 co_apply zb1 C T (RKd.refl _)
 co_reg (T _)
 co_op HP.rely hF (co_quiet Tq)
 co_opw HP.rely hF (skip) (co_still Tq)
 co_op HP.rely hF (co_quiet Tq)
 co_apply opsC_nil (T _)
 co_then
 refine zh9 C T ?_
 refine wpX_loop C T (fun n i a w => (n = 1 ∧ i = (true,V (zd0 s) ++ vs) ∧ HP N Pb cp s 2 c1 c2 #[sendV N, .bool false, .bool false] #[putV c1, .int .i32 0, .int .i64 0, .int .u8 0, .int .u8 0] w ∧ a = ⟨#[.slice (some ⟨Pb,0,none⟩) 1 cp,sendV N,undef,undef, .pointer (some ⟨c1,0,none⟩), .pointer (some ⟨c2,0,none⟩),undef,undef,undef,sendV N, .agg #[sendV N, .bool false, .bool false],putV c1, .agg #[putV c1, .int .i32 0, .int .i64 0, .int .u8 0, .int .u8 0], .slice (some ⟨Pb,0,none⟩) 1 cp, .int .i64 1, .int .i64 0,undef,undef,undef,undef,undef,undef,undef,undef,undef,undef,undef,undef,undef,undef,undef], []⟩) ∨ (n = 0 ∧ ∃ c d fr,i = (fr,V (zd7 c d []) ++ vs) ∧ (fr && (zd7 c d []).isEmpty) = (zd0 s).isEmpty ∧ HC N Pb cp c1 c2 c d w ∧ ∃ x7 x8 x16 x17 x18 x19 x20 x21 x22 x23 x24 x25 x26 x27 x28 x29,a = ⟨#[.slice (some ⟨Pb,0,none⟩) 1 cp,sendV N,undef,undef, .pointer (some ⟨c1,0,none⟩), .pointer (some ⟨c2,0,none⟩),undef,x7,x8,sendV N, .agg #[sendV N, .bool false, .bool false],putV c1, .agg #[putV c1, .int .i32 0, .int .i64 0, .int .u8 0, .int .u8 0], .slice (some ⟨Pb,0,none⟩) 1 cp, .int .i64 1, .int .i64 1,x16,x17,x18,x19,x20,x21,x22,x23,x24,x25,x26,x27,x28,x29,undef], []⟩)) 1 (.inl ⟨rfl,rfl,hF,rfl⟩) ?_
 clear hF
 rintro n i a w (⟨rfl,rfl,hF,rfl⟩ | ⟨rfl,c,d,fr,rfl,he,hF,x7,x8,x16,x17,x18,x19,x20,x21,x22,x23,x24,x25,x26,x27,x28,x29,rfl⟩)
 ·
  co_apply zb1 C T (RKd.refl _)
  co_reg (T _)
  co_op HP.rely hF (co_quiet Tq)
  co_apply opsC_nil (T _)
  co_then
  refine zf6 C T ?_
  refine zb0 C T (t := true) rfl ?_
  simp only [if_true,if_false,reduceIte,Bool.false_eq_true]
  refine zg3 C T ?_
  show wpX _ _ _ _ _ _ _
  refine zf6 C T ?_
  refine zh9 C T ?_
  co_apply zb1 C T (RKd.refl _)
  co_reg (T _)
  co_opw HP.rely hF (skip) (co_still Tq)
  co_opw HP.rely hF (have hc := hF.ps) (refine zd1 hF.hc ?_; co_evs (exact evk_still (.inr (.inr (.inr (.inr (.inr rfl)))))))
  clear hc
  co_op HP.rely hF (co_quiet Tq)
  co_apply opsC_nil (T _)
  co_then
  co_apply zb1 C T (RKd.refl _)
  co_reg (T _)
  co_op HP.rely hF (co_quiet Tq)
  co_opw HP.rely hF (skip) (co_still Tq)
  co_op HP.rely hF (co_quiet Tq)
  co_apply opsC_nil (T _)
  co_then
  refine zh9 C T ?_
  have hF := hF.hc
  refine wpX_loop C T (fun m i a w => ∃ c d fr j,m + j = s.size ∧ i = (fr,V (zd7 c d ((bytesOf s).drop j)) ++ vs) ∧ (fr && (zd7 c d ((bytesOf s).drop j)).isEmpty) = (zd0 s).isEmpty ∧ HC N Pb cp c1 c2 c d w ∧ ∃ x8 x22 x23 x24 x25 x26 x27 x28,a = ⟨#[.slice (some ⟨Pb,0,none⟩) 1 cp,sendV N,undef,undef, .pointer (some ⟨c1,0,none⟩), .pointer (some ⟨c2,0,none⟩),undef, .string s,x8,sendV N, .agg #[sendV N, .bool false, .bool false],putV c1, .agg #[putV c1, .int .i32 0, .int .i64 0, .int .u8 0, .int .u8 0], .slice (some ⟨Pb,0,none⟩) 1 cp, .int .i64 1, .int .i64 0, .bool true, .pointer (some ⟨Pb,0,none⟩), .string s, .string s, .int .i64 (s.size : Int), .int .i64 (j : Int),x22,x23,x24,x25,x26,x27,x28,undef,undef], []⟩) s.size ⟨⟨false,false⟩,⟨0,0,0,0⟩,true,0,by omega,rfl,by simp [zd0],hF,_,_,_,_,_,_,_,_,rfl⟩ ?_
  clear hF
  rintro m i a w ⟨c,d,fr,j,hm,rfl,he,hF,x8,x22,x23,x24,x25,x26,x27,x28,rfl⟩
  by_cases hj : j < s.size
  ·
   have hjb : decide ((j : Int) < (s.size : Int)) = true := decide_eq_true (by omega)
   co_apply zb1 C T (RKd.refl _)
   co_reg (T _)
   co_op HC.rely hF (co_quiet Tq)
   co_apply opsC_nil (T _)
   co_then
   try simp only [hjb]
   refine zf6 C T ?_
   refine zb0 C T (t := true) rfl ?_
   simp only [if_true,if_false,reduceIte,Bool.false_eq_true]
   refine zg3 C T ?_
   show wpX _ _ _ _ _ _ _
   refine zf6 C T ?_
   refine zh9 C T ?_
   co_apply zb1 C T (RKd.refl _)
   co_reg (T _)
   iterate 2
    co_op HC.rely hF (co_quiet Tq)
   co_apply opsC_nil (T _)
   co_then
   have hix : (bytesOf s).drop j = ((s[j]'hj).toNat : Int) :: (bytesOf s).drop (j + 1) := by
    rw [List.drop_eq_getElem_cons (by simpa [bytesOf] using hj)]; simp [bytesOf]; rfl
   have ixe : ∀ w es,(Instr.index 9 (.string s) (.int .i64 (j : Int))).events prog w es = es := fun w es => by simp [Instr.index,go_sem,hj]
   rw [hix,zj6] at he ⊢
   simp only [V_append,List.append_assoc]
   refine zb2 C T ?_
   simp only [szR,Nat.reduceAdd]
   iterate 2
    refine za4 C rfl (by rfl) fun _ hR Kx hKx => ?_
    replace hF := HC.rely hF hR
    clear hR
    go_simp
    try (unfold stored; go_simp)
    refine hKx _ _ ⟨?_,?_⟩
    ·
     co_quiet Tq
    clear hKx Kx
    try walk_nrm
   refine za4 C rfl (by rfl) fun _ hR Kx hKx => ?_
   replace hF := HC.rely hF hR
   clear hR
   go_simp
   try (unfold stored; go_simp)
   refine hKx _ _ ⟨?_,?_⟩
   ·
    co_still Tq
   clear hKx Kx
   try walk_nrm
   refine zb4 C T rfl (by rfl) rfl rfl (by simp [Act.eval]) rfl (take_x hF fr _ _) ?_
   rintro _ _ _ ⟨rfl,hF⟩
   refine zb6 C T ?_
   show wpX _ _ _ _ _ _ _
   co_apply wpX_of_wpC C (RKd.refl _)
   co_reg (T _)
   iterate 2
    co_op HC.rely hF (co_quiet Tq)
   co_apply opsC_nil (T _)
   have hwr : IntKind.i64.wrap ((j : Int) + 1) = ((j + 1 : Nat) : Int) := by rw [IntKind.wrap_i64]; omega
   simp only [hwr]
   rw [isEmpty_app, ← Bool.and_assoc] at he
   exact ⟨m - 1,by omega,_,_,_,j + 1,by omega,rfl,he,hF,_,_,_,_,_,_,_,_,rfl⟩
  ·
   have hjb : decide ((j : Int) < (s.size : Int)) = false := decide_eq_false (by omega)
   co_apply zb1 C T (RKd.refl _)
   co_reg (T _)
   co_op HC.rely hF (co_quiet Tq)
   co_apply opsC_nil (T _)
   co_then
   try simp only [hjb]
   refine zf6 C T ?_
   refine zb0 C T (t := false) rfl ?_
   simp only [if_true,if_false,reduceIte,Bool.false_eq_true]
   refine wpX_exit C T ?_
   simp only [inBlockX,thenX,if_true]
   have hdr0 : (bytesOf s).drop j = [] := List.drop_eq_nil_of_le (by simp [bytesOf]; have : s.size = s.data.size := rfl; omega)
   rw [hdr0] at he ⊢
   co_apply wpX_of_wpC C (RKd.refl _)
   co_reg (T _)
   iterate 2
    co_op HC.rely hF (co_quiet Tq)
   co_apply opsC_nil (T _)
   exact ⟨0,by omega, .inr ⟨rfl,c,d,fr,rfl,he,hF,_,_,_,_,_,_,_,_,_,_,_,_,_,_,_,_,rfl⟩⟩
 ·
  co_apply zb1 C T (RKd.refl _)
  co_reg (T _)
  co_op HC.rely hF (co_quiet Tq)
  co_apply opsC_nil (T _)
  co_then
  refine zf6 C T ?_
  refine zb0 C T (t := false) rfl ?_
  simp only [if_true,if_false,reduceIte,Bool.false_eq_true]
  refine wpX_exit C T ?_
  simp only [inBlockX,thenX,if_true]
  rw [zk9] at he ⊢
  refine zb2 C T ?_
  simp only [szR,Nat.reduceAdd]
  refine zb4 C T rfl (by rfl) rfl rfl (by simp [Act.eval]) rfl (end_x hF fr vs) ?_
  rintro _ _ _ ⟨rfl,hF⟩
  refine zb6 C T ?_
  exact ⟨.inl rfl,rfl,_,resultsC_none (by rfl) _,by rw [he],_,_,_,_,hF⟩
end
end
end Go.Proofs.YtgcaionclkbehaaGreatDoor
