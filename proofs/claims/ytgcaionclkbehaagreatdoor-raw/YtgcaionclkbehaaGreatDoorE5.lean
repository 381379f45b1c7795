import Derived.Test.YtgcaionclkbehaaGreatDoorE3
set_option linter.all false
namespace Go.Proofs.YtgcaionclkbehaaGreatDoor
section
open Go.Conc Go.RowKit Go.Lib
structure Cy {ι : Type} (P : Program) (KT : TypeId → Prop) (N0 : ι → Nat) (M : ι → World → Nat → Prop) (O : ι → Nat → Prop) (R : ι → World → World → Prop) (D : ι → World → World → Array Event → Prop) (X : ι → Goroutine → World → Prop) (Hd : ι → List (Nat × Obj) → World → Prop) : Prop where
 C : ClosedI P true R D X
 T : ∀ i,Terms (R i) (D i)
 ne : ∀ g f₀, noEsc P (.func g) = true → P.funcs[g]? = some f₀ → (f₀.name == "runtime.NumGoroutine") = false ∧ Extern.findNext f₀ = none ∧ Extern.find f₀ = some Extern.AbiNoEscape.same
 Z : ∀ {i l w},Hd i l w → Co KT (N0 i) (M i) (O i) (R i) (D i) (Hd i)
section
variable {ι : Type} {P : Program} {KT : TypeId → Prop} {An : Who} {N0 : ι → Nat} {M : ι → World → Nat → Prop} {O : ι → Nat → Prop} {R : ι → World → World → Prop} {D : ι → World → World → Array Event → Prop} {X : ι → Goroutine → World → Prop} {Hd : ι → List (Nat × Obj) → World → Prop}
variable {fn : FuncId} {Q : PostI ι} {a : Act} {w : World} {i : ι} {S : Who} {s s' : AS} {l fr : List (Nat × Obj)} {aA : TL} {v : Value} {ops : Array Oper} {j : Nat} {rest : List Nat} {o : Oper}
def Out (P : Program) (KT : TypeId → Prop) (An : Who) (Hd : ι → List (Nat × Obj) → World → Prop) (S : Who) (s s' : AS) (fr : List (Nat × Obj)) (v : Value) (K : ι → Value → World → Prop) : Prop :=
 ∀ i' S' l' w' v',S.le S' → (∀ b,b < s.nx ∨ s'.nx ≤ b → S' b = S b) → Sim P KT An S' s' l' → Hd i' (l' ++ fr) w' → VR S' v v' → K i' v' w'
theorem op_quiet (Y : Cy P KT N0 M O R D X Hd) (ho : ops[j]? = some o) (hw : Region.wanted o (yielded ops a.tmps) = true) (hA : OpdR S aA a o) (hS : Sim P KT An S s l) (hF : Hd i (l ++ fr) w) (h : ze4 P aA o = some v)
  (k : Out P KT An Hd S s s fr v fun i' v' w' => OpsI X fn ops rest i' Q (a.put o.dst v') w') : OpsI X fn ops (j :: rest) i Q a w := by
 obtain ⟨v',h1,h2⟩ := quiet_sound hA h
 refine za1 Y.C Y.T ho hw fun w₁ K hK => ?_
 rw [(h2 w₁).1]
 exact hK _ (k i S l w v' (Who.le_refl S) (fun _ _ => rfl) hS hF h1) (h2 w₁).2
theorem Sim.at (hS : Sim P KT An S s l) {b g z e : Nat} {ob : Obj} (hb : s.get b = some ob) (hg : S b = some (g,z,e)) : ∃ k o',l[k]? = some (g,o') ∧ k < l.length ∧ (l ++ fr)[k]? = some (g,o') ∧ OR S z ob o' ∧ ∀ cs t fz,ob = .cells cs t fz → sizeT P t = some e ∧ ¬ KT t := by
 obtain ⟨g',z',e',o',h1,h2,h3,h4⟩ := hS.live b ob hb
 rw [hg] at h1
 cases h1
 obtain ⟨k,hk⟩ := List.mem_iff_getElem?.1 h2
 have hlt := (List.getElem?_eq_some_iff.1 hk).1
 exact ⟨k,o',hk,hlt,by rw [List.getElem?_append_left hlt]; exact hk,h3,h4⟩
theorem op_load (Y : Cy P KT N0 M O R D X Hd) (ho : ops[j]? = some o) (hw : Region.wanted o (yielded ops a.tmps) = true) {t : TypeId} {x : Operand} (hop : o.op = .load t x) (hA : OpdR S aA a o) (hS : Sim P KT An S s l) (hF : Hd i (l ++ fr) w) (h : zc8 P t (aA.at x) s = some v)
  (k : Out P KT An Hd S s s fr v fun i' v' w' => OpsI X fn ops rest i' Q (a.put o.dst v') w') : OpsI X fn ops (j :: rest) i Q a w := by
 unfold OpdR at hA
 rw [hop] at hA
 have hx := hA x (by simp [Op.operands])
 unfold zc8 at h
 split at h
 ·
  next b off hp =>
  rw [hp] at hx
  obtain ⟨g,z,e,h1,h2⟩ := hx.ptr
  split at h
  ·
   next cs ty fz hb =>
   obtain ⟨kk,o',hk,hlt,hk',hor,hty⟩ := hS.at (fr := fr) hb h1
   obtain ⟨cs',rfl,hz,⟨hle,hex⟩,hcell⟩ := hor
   split at h
   ·
    next d hu =>
    split at h
    ·
     next hd =>
     split at h
     ·
      next n hn =>
      split at h
      ·
       next hsz =>
       cases h
       refine opsI_loadAggC Y.C (Y.Z hF) kk (cs := (cs'.toList.drop off).take n) ho hw hop h2 hu hd (by unfold sizeT at hn; rw [hn]; simp; omega) hF hk' ?_ fun w' hF' => k i S l w' _ (Who.le_refl S) (fun _ _ => rfl) hS hF' (VR.of_ag ?_)
       ·
        intro m u hm
        rw [List.getElem?_take] at hm
        split at hm
        ·
         rw [List.getElem?_drop] at hm; simpa using hm
        ·
         cases hm
       ·
        refine ⟨by simp; omega,fun m u u' hu hu' => ?_⟩
        simp only [List.getElem?_toArray,List.getElem?_take] at hu hu'
        split at hu
        ·
         next hm =>
         rw [if_pos hm] at hu'
         rw [List.getElem?_drop] at hu hu'
         exact hcell _ u u' (by simpa using hu) (by simpa using hu')
        ·
         cases hu
      ·
       cases h
     ·
      cases h
    ·
     next hd =>
     have hlo : off < cs'.size := by have := (Array.getElem?_eq_some_iff.1 h).1; omega
     refine zm7 Y.C (Y.Z hF) kk ho hw hop h2 hu (by simpa using hd) hF hk' (Array.getElem?_eq_getElem hlo) fun w' hF' => k i S l w' _ (Who.le_refl S) (fun _ _ => rfl) hS hF' (hcell off v _ h (Array.getElem?_eq_getElem hlo))
   ·
    cases h
  ·
   cases h
 ·
  cases h
theorem Sim.turned (hS : Sim P KT An S s l) {b g z e k : Nat} {ob ob' o' o'' : Obj} (hb : s.get b = some ob) (hg : S b = some (g,z,e)) (hk : l[k]? = some (g,o')) (hnd : (l.map Prod.fst).Nodup) (hor : OR S z ob' o'') (hty : ∀ cs t fz,ob' = .cells cs t fz → sizeT P t = some e ∧ ¬ KT t) : Sim P KT An S (s.set b (some ob')) (l.set k (g,o'')) where
 live b' o1 h1 := by
  rw [AS.get_set] at h1
  have hlt := (List.getElem?_eq_some_iff.1 hk).1
  split at h1
  ·
   next e' =>
   subst e'
   cases h1
   exact ⟨g,z,e,o'',hg,List.mem_iff_getElem?.2 ⟨k,by simp [hlt]⟩,hor,hty⟩
  ·
   next hne =>
   obtain ⟨g',z',e',o3,h2,h3,h4,h5⟩ := hS.live b' o1 h1
   refine ⟨g',z',e',o3,h2,?_,h4,h5⟩
   obtain ⟨m,hm⟩ := List.mem_iff_getElem?.1 h3
   refine List.mem_iff_getElem?.2 ⟨m,?_⟩
   rw [List.getElem?_set]
   split
   ·
    next e'' =>
    subst e''
    rw [hk] at hm
    cases hm
    exact absurd (hS.inj b' b o1 ob _ _ h1 hb h2 hg rfl) hne
   ·
    exact hm
 inj k k' o1 o2 x x' h1 h2 hx hx' he := by
  rw [AS.get_set] at h1 h2
  have f : ∀ {m : Nat} {o3 : Obj},(if m = b then some ob' else s.get m) = some o3 → ∃ o4,s.get m = some o4 := fun {m o3} h => by
   split at h
   ·
    next e' => exact ⟨ob,by rw [e']; exact hb⟩
   ·
    exact ⟨_,h⟩
  obtain ⟨o4,h4⟩ := f h1
  obtain ⟨o5,h5⟩ := f h2
  exact hS.inj k k' o4 o5 x x' h4 h5 hx hx' he
 lt k o1 h1 := by
  rw [AS.get_set] at h1
  split at h1
  ·
   next e' => subst e'; exact hS.lt _ _ hb
  ·
   exact hS.lt k o1 h1
 an := hS.an
theorem Cy.nodupL (Y : Cy P KT N0 M O R D X Hd) (hF : Hd i (l ++ fr) w) : (l.map Prod.fst).Nodup := by
 have := (Y.Z hF).nodup hF
 rw [List.map_append] at this
 exact (List.nodup_append.1 this).1
theorem putAt_rel {cs cs' : Array Value} {xs ys : List Value} {off z : Nat} (hz : cs'.size = z) (hle : cs.size ≤ z) (hcell : ∀ (i : Nat) (x y : Value),cs[i]? = some x → cs'[i]? = some y → VR S x y) (hxy : xs.length = ys.length) (hr : ∀ (i : Nat) (x y : Value),xs[i]? = some x → ys[i]? = some y → VR S x y) (hsz : off + xs.length ≤ cs.size) :
  (putAt cs' off ys).size = z ∧ (putAt cs off xs).size ≤ z ∧ ∀ (i : Nat) (x y : Value),(putAt cs off xs)[i]? = some x → (putAt cs' off ys)[i]? = some y → VR S x y := by
 refine ⟨by simp [putAt]; omega,by simp [putAt]; omega,fun m x y hx hy => ?_⟩
 simp only [putAt,List.getElem?_toArray,List.append_assoc] at hx hy
 rw [List.getElem?_append] at hx hy
 have e1 : (cs.toList.take off).length = off := by simp; omega
 have e2 : (cs'.toList.take off).length = off := by simp; omega
 rw [e1] at hx
 rw [e2] at hy
 split at hx
 ·
  next hm =>
  rw [if_pos hm] at hy
  rw [List.getElem?_take,if_pos hm] at hx hy
  exact hcell m x y (by simpa using hx) (by simpa using hy)
 ·
  next hm =>
  rw [if_neg hm] at hy
  rw [List.getElem?_append] at hx hy
  rw [← hxy] at hy
  split at hx
  ·
   next h2 =>
   rw [if_pos h2] at hy
   exact hr _ x y hx hy
  ·
   next h2 =>
   rw [if_neg h2] at hy
   rw [List.getElem?_drop] at hx hy
   exact hcell _ x y (by simpa using hx) (by simpa using hy)
theorem op_store (Y : Cy P KT N0 M O R D X Hd) (ho : ops[j]? = some o) (hw : Region.wanted o (yielded ops a.tmps) = true) {t : TypeId} {x y : Operand} (hop : o.op = .store t x y) (hA : OpdR S aA a o) (hS : Sim P KT An S s l) (hF : Hd i (l ++ fr) w) (h : evStore P t (aA.at x) (aA.at y) s = some s')
  (k : Out P KT An Hd S s s' fr undef fun i' v' w' => OpsI X fn ops rest i' Q (a.put o.dst v') w') : OpsI X fn ops (j :: rest) i Q a w := by
 unfold OpdR at hA
 rw [hop] at hA
 have hx := hA x (by simp [Op.operands])
 have hy := hA y (by simp [Op.operands])
 unfold evStore at h
 split at h
 ·
  next b off hp =>
  rw [hp] at hx
  obtain ⟨g,z,e,h1,h2⟩ := hx.ptr
  split at h
  ·
   next cs ty fz hb =>
   obtain ⟨kk,o',hk,hlt,hk',hor,hty⟩ := hS.at (fr := fr) hb h1
   obtain ⟨cs',rfl,hz,⟨hle,hex⟩,hcell⟩ := hor
   split at h
   ·
    next hc =>
    obtain ⟨hc1,hc2,hc3⟩ := hc
    cases h
    have hcl := hy.cells
    have hone : ∀ u ∈ (a.eval y).cells.toList,u.oneCell' = true := by
     intro u hu
     obtain ⟨m,hm⟩ := List.mem_iff_getElem?.1 hu
     have hlm : m < (aA.at y).cells.size := by rw [hcl.1]; have := (List.getElem?_eq_some_iff.1 hm).1; simpa using this
     have := hcl.2 m _ u (Array.getElem?_eq_getElem hlm) (by simpa using hm)
     rw [this.oneCell]
     rw [List.all_eq_true] at hc3
     exact hc3 _ (by simp)
    have hpr := putAt_rel (S := S) (xs := (aA.at y).cells.toList) (ys := (a.eval y).cells.toList) (off := off) hz hle hcell (by simp [hcl.1]) (fun m u u' hu hu' => hcl.2 m u u' (by simpa using hu) (by simpa using hu')) (by simpa using hc2)
    refine opsI_storeC Y.C (Y.Z hF) (cs := (a.eval y).cells.toList) (cur' := putAt cs' off (a.eval y).cells.toList) kk ho hw hop h2 (by simp) ?_ hone (hty cs ty fz rfl).2 hF hk' ?_ rfl fun w' hF' => ?_
    ·
     unfold sizeT at hc1; rw [hc1]; simp [hcl.1]
    ·
     simp; rw [← hcl.1]; omega
    rw [List.set_append_left _ _ hlt] at hF'
    refine k i S _ w' undef (Who.le_refl S) (fun _ _ => rfl) (hS.turned hb h1 hk (Y.nodupL hF) ⟨_,rfl,hpr.1,⟨hpr.2.1,fun hfz => by have := hex hfz; simp [putAt]; omega⟩,hpr.2.2⟩ fun cs1 t1 fz1 he => ?_) hF' VR.undef
    cases he
    exact hty cs ty fz rfl
   ·
    cases h
  ·
   cases h
 ·
  cases h
end
end
section
open Go.Conc Go.RowKit Go.Lib
section
variable {P : Program} {S : Who}
theorem fold_size (off : Nat) : ∀ (l : List (Value × Nat)) (cs : Array Value),(l.foldl (fun cs (x : Value × Nat) => cs.setIfInBounds (off + x.2) x.1) cs).size = cs.size
 | [],cs => rfl
 | x :: l,cs => by simp only [List.foldl_cons]; rw [fold_size off l]; simp
theorem fill_size {place : Nat → Option (Nat × Nat)} : ∀ (ps : List (Nat × Value)) (cs c : Array Value),Instr.fill place cs ps = some c → c.size = cs.size
 | [],cs,c,h => by simp [Instr.fill] at h; rw [h]
 | (i,x) :: ps,cs,c,h => by
  unfold Instr.fill at h
  split at h
  ·
   cases h
  ·
   split at h
   ·
    cases h
   ·
    rw [fill_size ps _ c h, ← Array.foldl_toList]
    exact fold_size _ _ _
theorem sliced_rel {e : TypeId} {len : Nat} {ps ps' : List (Nat × Value)} {c : Array Value} (hz : zeroT P e = true) (hp : PR S ps ps') (h : sliced P e len ps = some c) : ∃ c' sz,sliced P e len ps' = some c' ∧ AR (VR S) c c' ∧ sizeT P e = some sz ∧ c.size = len * sz := by
 unfold sliced at h ⊢
 unfold zeroT at hz
 split at h
 ·
  next ie hi =>
  simp only [hi] at hz
  split at h
  ·
   next z hz0 =>
   simp only [hz0] at hz
   split at h
   ·
    cases h
   ·
    next hn =>
    have hsc : ((Array.range (len * ie.size)).map (z.cells[· % z.cells.size]!)).toList.all isSc = true := by
     rw [List.all_eq_true]
     intro x hx
     simp only [Array.toList_map,List.mem_map] at hx
     obtain ⟨m,_,rfl⟩ := hx
     rw [List.all_eq_true] at hz
     by_cases hm : m % z.cells.size < z.cells.size
     ·
      rw [getElem!_pos z.cells _ hm]
      exact hz _ (by simp)
     ·
      rw [getElem!_neg z.cells _ hm]
      rfl
    obtain ⟨c',h1,h2⟩ := fill_rel ps ps' _ _ c (AR.refl_sc (S := S) hsc) hp h
    refine ⟨c',ie.size,?_,h2,by simp [sizeT,hi],?_⟩
    ·
     (try simp only [hi,hz0]); rw [if_neg hn]; exact h1
    ·
     rw [fill_size _ _ _ h]; simp
  ·
   cases h
 ·
  cases h
end
section
variable {ι : Type} {P : Program} {KT : TypeId → Prop} {An : Who} {N0 : ι → Nat} {M : ι → World → Nat → Prop} {O : ι → Nat → Prop} {R : ι → World → World → Prop} {D : ι → World → World → Array Event → Prop} {X : ι → Goroutine → World → Prop} {Hd : ι → List (Nat × Obj) → World → Prop}
variable {fn : FuncId} {Q : PostI ι} {a : Act} {w : World} {i : ι} {S : Who} {s s' : AS} {l fr : List (Nat × Obj)} {aA : TL} {v : Value} {ops : Array Oper} {j : Nat} {rest : List Nat} {o : Oper} {kt : TypeId → Bool}
theorem opsI_rangeC (C : ClosedI P true R D X) (Z : Co KT (N0 i) (M i) (O i) (R i) (D i) (Hd i)) {t : TypeId} {x : Operand} {str : ByteArray} (ho : ops[j]? = some o) (hw : Region.wanted o (yielded ops a.tmps) = true) (hop : o.op = .range t x) (ht : P.underlying t = some .string) (hx : a.eval x = .string str) (hq : ¬ KT (1000 + str.size))
  (hF : Hd i l w) (h : ∀ b w',Hd i ((b, .stringIter str 0) :: l) w' → OpsI X fn ops rest i Q (a.put o.dst (.pointer (some ⟨b,0,none⟩))) w') : OpsI X fn ops (j :: rest) i Q a w := by
 refine za0 C ho hw fun w₁ hR K hK => ?_
 have hF₁ := Z.rely hF hR
 have hO : Own KT (M i) w₁ (w₁.alloc (.stringIter str 0)) := Own.allocObj hq
 have hr : (execOp a.eval o).run P w₁ = .ok (.value (.pointer (some ⟨w₁.heap.size,0,none⟩))) (w₁.alloc (.stringIter str 0)) := by simp [execOp,hop,hx,run_range ht]
 have he : (execOp a.eval o).events P w₁ #[] = #[] := by simp [execOp,hop,hx,run_range ht,events_range ht]
 rw [hr]
 refine hK _ _ ⟨?_,h _ _ (Z.grown hF₁ hO)⟩
 rw [listed_nil he]
 exact Z.env.does (Z.size hF₁) hO (fun e he => by simp at he)
theorem OR_cells {S : Who} {cs cs' : Array Value} {t : TypeId} {fz : Nat × Nat} (h : AR (VR S) cs cs') : OR S cs'.size (.cells cs t fz) (.cells cs' t) := ⟨cs',rfl,rfl,⟨by rw [h.1]; exact Nat.le_refl _,fun _ => h.1⟩,h.2⟩
theorem opsI_makeC (C : ClosedI P true R D X) (Z : Co KT (N0 i) (M i) (O i) (R i) (D i) (Hd i)) {t e : TypeId} {x y : Operand} {n : Nat} {it : TypeInfo} {z : Value} (ho : ops[j]? = some o) (hw : Region.wanted o (yielded ops a.tmps) = true) (hop : o.op = .makeSlice t x y) (ht : P.underlying t = some (.slice e)) (hi : P.info? e = some it) (hz : it.zero = some z) (hx : a.eval x = .int .i64 (n : Int)) (hy : a.eval y = .int .i64 (n : Int)) (hn0 : 0 < n) (hn : n ≤ 1000000) (hb : it.bytes ≤ 1000) (he : ¬ KT e)
  (hF : Hd i l w) (h : ∀ b w',Hd i ((b, .cells (madeCells z.cells (n * it.size)) e) :: l) w' → OpsI X fn ops rest i Q (a.put o.dst (.slice (some ⟨b,0,none⟩) n n)) w') : OpsI X fn ops (j :: rest) i Q a w := by
 refine za0 C ho hw fun w₁ hR K hK => ?_
 have hF₁ := Z.rely hF hR
 have hO : Own KT (M i) w₁ (w₁.alloc (.cells (madeCells z.cells (n * it.size)) e)) := Own.alloc he
 have hbb : it.bytes * n ≤ 1000 * 1000000 := Nat.mul_le_mul hb hn
 have hbi : (it.bytes : Int) * (n : Int) ≤ 281474976710656 := by
  have h : ((it.bytes * n : Nat) : Int) ≤ 281474976710656 := by omega
  rwa [Int.natCast_mul] at h
 have wl : IntKind.i64.wrap (n : Int) = n := by rw [IntKind.wrap_i64]; omega
 have n1 : ¬ (n : Int) < 0 := by omega
 have n2 : ¬ (281474976710656 < (it.bytes : Int) * (n : Int)) := by omega
 have n5 : ¬ (n * it.bytes > 140737488355328) := by rw [Nat.mul_comm]; omega
 have hmk : (Instr.makeSlice t (.int .i64 (n : Int)) (.int .i64 (n : Int))).run P w₁ = .ok (.slice (some ⟨w₁.heap.size,0,none⟩) n n) (w₁.alloc (.cells (madeCells z.cells (n * it.size)) e)) := by
  by_cases hns : n * it.size = 0
  ·
   simp [Instr.makeSlice,run_underlying ht,asInt,asIntOf,typeInfo,hi,sizeOf,wl,n1,n2,hns,newRow,madeCells,Array.range_zero']
  ·
   simp [Instr.makeSlice,run_underlying ht,asInt,asIntOf,typeInfo,hi,sizeOf,zeroValue,hz,wl,n1,n2,hns,newRow,madeCells]
 have hme : (Instr.makeSlice t (.int .i64 (n : Int)) (.int .i64 (n : Int))).events P w₁ #[] = #[] := by
  by_cases hns : n * it.size = 0
  ·
   simp [Instr.makeSlice,run_underlying ht,underlying,ht,asInt,asIntOf,typeInfo,hi,sizeOf,wl,n1,n2,hns,newRow,askRoom,roomBytes,n5]
  ·
   simp [Instr.makeSlice,run_underlying ht,underlying,ht,asInt,asIntOf,typeInfo,hi,sizeOf,zeroValue,hz,wl,n1,n2,hns,newRow,askRoom,roomBytes,n5]
 have hr : (execOp a.eval o).run P w₁ = .ok (.value (.slice (some ⟨w₁.heap.size,0,none⟩) n n)) (w₁.alloc (.cells (madeCells z.cells (n * it.size)) e)) := by
  unfold execOp
  simp only [hop,hx,hy,Sem.run_bind,hmk,Result.andThen_ok,Sem.run_pure]
 have hev : (execOp a.eval o).events P w₁ #[] = #[] := by
  unfold execOp
  simp only [hop,hx,hy,Sem.events_bind,hmk,hme,Result.evThen_ok,Sem.events_pure]
 rw [hr]
 refine hK _ _ ⟨?_,h _ _ (Z.grown hF₁ hO)⟩
 rw [listed_nil hev]
 exact Z.env.does (Z.size hF₁) hO (fun e he => by simp at he)
theorem made_sc {z : Array Value} (h : z.toList.all isSc = true) (n : Nat) : (madeCells z n).toList.all isSc = true := by
 rw [List.all_eq_true]
 intro x hx
 simp only [madeCells,Array.toList_map,List.mem_map] at hx
 obtain ⟨m,_,rfl⟩ := hx
 rw [List.all_eq_true] at h
 by_cases hm : m % z.size < z.size
 ·
  rw [getElem!_pos z _ hm]
  exact h _ (by simp)
 ·
  rw [getElem!_neg z _ hm]
  rfl
theorem op_new (Y : Cy P KT N0 M O R D X Hd) (hkt : ∀ t,kt t = false → ¬ KT t) (ho : ops[j]? = some o) (hw : Region.wanted o (yielded ops a.tmps) = true) (hA : OpdR S aA a o) (hF : Hd i l w) {ob : Obj} {mk : Nat → Value} (h : evNew P kt aA o = some (ob,mk))
  (k : ∀ g z e o' w' v',Hd i ((g,o') :: l) w' → (∀ S' nm,S.le S' → S' nm = some (g,z,e) → OR S' z ob o' ∧ VR S' (mk nm) v') → (∀ cs t fz,ob = .cells cs t fz → sizeT P t = some e ∧ ¬ KT t) → OpsI X fn ops rest i Q (a.put o.dst v') w') : OpsI X fn ops (j :: rest) i Q a w := by
 unfold OpdR at hA
 unfold evNew at h
 split at h
 ·
  next t hop =>
  split at h
  ·
   cases h
  ·
   next hn =>
   simp only [not_or,Bool.not_eq_false,Bool.not_eq_true] at hn
   obtain ⟨hz,hk,hs⟩ := hn
   split at h
   ·
    next z hi =>
    cases h
    obtain ⟨e,he⟩ := Option.ne_none_iff_exists'.1 hs
    have hsc : z.cells.toList.all isSc = true := by
     unfold zeroT at hz
     cases hi' : P.info? t with
     | none => simp [hi'] at hi
     | some it =>
      have : it.zero = some z := by simpa [hi'] using hi
      simpa [hi',this] using hz
    have hzv : ∀ w,(zeroValue t).run P w = .ok z w := by
     intro w
     have : evS P (zeroValue t) = some z := by
      unfold zeroValue
      simp only [evS_bind,evS_typeInfo]
      cases hi' : P.info? t with
      | none => simp [hi'] at hi
      | some it =>
       have : it.zero = some z := by simpa [hi'] using hi
       simp [this]
     exact (evS_run this w #[]).1
    refine opsI_allocC Y.C (Y.Z hF) ho hw hop hzv rfl (hkt t hk) hF fun g w' hF' => k g z.cells.size e _ w' _ hF' (fun S' nm hS hg => ⟨OR_cells (AR.refl_sc hsc),VR.of_ptr hg⟩) fun cs t' fz hc => ?_
    cases hc
    exact ⟨he,hkt _ hk⟩
   ·
    cases h
 ·
  next t x hop =>
  split at h
  ·
   cases h
  ·
   next hn =>
   simp only [not_or,Bool.not_eq_false,Bool.not_eq_true] at hn
   obtain ⟨hk,hs⟩ := hn
   cases h
   obtain ⟨e,he⟩ := Option.ne_none_iff_exists'.1 hs
   rw [hop] at hA
   have hx := (hA x (by simp [Op.operands])).cells
   refine opsI_boxC Y.C (Y.Z hF) ho hw hop rfl (hkt t hk) hF fun g w' hF' => k g (a.eval x).cells.size e _ w' _ hF' (fun S' nm hS hg => ⟨OR_cells (hx.mono hS),VR.of_ptr hg⟩) fun cs t' fz hc => ?_
   cases hc
   exact ⟨he,hkt _ hk⟩
 ·
  next t len parts hop =>
  split at h
  ·
   next e hu =>
   split at h
   ·
    cases h
   ·
    next hn =>
    simp only [not_or,Bool.not_eq_false,Bool.not_eq_true,Nat.not_lt] at hn
    obtain ⟨hz,hk,hl⟩ := hn
    split at h
    ·
     next c hc =>
     cases h
     rw [hop] at hA
     obtain ⟨c',sz,h1,h2,h3,h4⟩ := sliced_rel hz (by simpa using parts_rel (S := S) (aA := aA) (a := a) parts.toList fun x hx => hA x (by simpa [Op.operands] using hx)) hc
     have h1 : sliced P e len (parts.map fun (i,x) => (i,a.eval x)).toList = some c' := by simpa using h1
     refine opsI_buildSliceC Y.C (Y.Z hF) ho hw hop hu (hkt e hk) h1 hF fun g w' hF' => k g c'.size sz _ w' _ hF' (fun S' nm hS hg => ⟨OR_cells (h2.mono hS),VR.of_sl hg (Nat.le_refl _) (Nat.le_refl _) (by simp [maxLen]; omega) (by rw [← h2.1,h4]; omega)⟩) fun cs t' fz hc => ?_
     cases hc
     exact ⟨h3,hkt _ hk⟩
    ·
     cases h
  ·
   cases h
 ·
  next t x hop =>
  rw [hop] at hA
  have hx := hA x (by simp [Op.operands])
  split at h
  ·
   next str hu hs =>
   split at h
   ·
    cases h
   next hq =>
   cases h
   rw [hs] at hx
   exact opsI_rangeC Y.C (Y.Z hF) ho hw hop hu (hx.sc rfl) (hkt _ (by simpa using hq)) hF fun g w' hF' => k g 0 0 _ w' _ hF' (fun S' nm hS hg => ⟨rfl,VR.of_ptr hg⟩) fun cs t' fz hc => by cases hc
  ·
   cases h
 ·
  next t x y hop =>
  rw [hop] at hA
  have hx := hA x (by simp [Op.operands])
  have hy := hA y (by simp [Op.operands])
  split at h
  ·
   next e n m hu h1 h2 =>
   rw [h1] at hx
   rw [h2] at hy
   split at h
   ·
    next z sz bytes hi =>
    split at h
    ·
     next hc =>
     obtain ⟨rfl,c2,c3,c4,c5,c6⟩ := hc
     cases h
     obtain ⟨it,hit,q1,q2,q3⟩ := info_parts hi
     have hsc : z.cells.toList.all isSc = true := by
      unfold zeroT at c4
      simpa [hit,q1] using c4
     have hnn : n = ((n.toNat : Nat) : Int) := by omega
     have hx' := hx.sc rfl
     have hy' := hy.sc rfl
     rw [hnn] at hx' hy'
     refine opsI_makeC Y.C (Y.Z hF) ho hw hop hu hit q1 hx' hy' (by omega) (by omega) (by omega) (hkt e c5) hF fun g w' hF' => k g (n.toNat * sz) sz _ w' _ hF' (fun S' nm hS hg => ⟨?_,VR.of_sl hg (Nat.le_refl _) (Nat.le_refl _) (by simp [maxLen]; omega) (by omega)⟩) fun cs t' fz hc => ?_
     ·
      rw [q2]
      have := OR_cells (S := S') (t := e) (fz := (0,0)) (AR.refl_sc (S := S') (made_sc hsc (n.toNat * sz)))
      rw [size_madeCells] at this
      exact this
     ·
      cases hc
      exact ⟨by simp [sizeT,hit,q2],hkt _ c5⟩
    ·
     cases h
   ·
    cases h
  ·
   cases h
 ·
  cases h
theorem Cy.fresh (Y : Cy P KT N0 M O R D X Hd) {g : Nat} {o' : Obj} (hF : Hd i ((g,o') :: l ++ fr) w) : ∀ o,(g,o) ∉ l := by
 intro ob hm
 have := (Y.Z hF).nodup hF
 simp only [List.cons_append,List.map_cons,List.nodup_cons] at this
 exact this.1 (List.mem_map.2 ⟨(g,ob),List.mem_append_left _ hm,rfl⟩)
theorem op_next (Y : Cy P KT N0 M O R D X Hd) (ho : ops[j]? = some o) (hw : Region.wanted o (yielded ops a.tmps) = true) {x : Operand} (hop : o.op = .next x true) (hA : OpdR S aA a o) (hS : Sim P KT An S s l) (hF : Hd i (l ++ fr) w) {b pos : Nat} {str : ByteArray} (hx : aA.at x = .pointer (some ⟨b,0,none⟩)) (hb : s.get b = some (.stringIter str pos)) (hq : pos < str.size → ¬ KT (1000 + str.size))
  (k1 : pos < str.size → Out P KT An Hd S s (s.set b (some (.stringIter str (pos + (Utf8.decode str pos).2)))) fr (.tuple #[.bool true,goInt pos, .int .i32 (Utf8.decode str pos).1]) fun i' v' w' => OpsI X fn ops rest i' Q (a.put o.dst v') w')
  (k0 : ¬ pos < str.size → Out P KT An Hd S s s fr (.tuple #[.bool false]) fun i' v' w' => OpsI X fn ops rest i' Q (a.put o.dst v') w') : OpsI X fn ops (j :: rest) i Q a w := by
 unfold OpdR at hA
 rw [hop] at hA
 have hx' := hA x (by simp [Op.operands])
 rw [hx] at hx'
 obtain ⟨g,z,e,h1,h2⟩ := hx'.ptr
 obtain ⟨kk,o',hk,hlt,hk',hor,hty⟩ := hS.at (fr := fr) hb h1
 cases hor
 have Z := Y.Z hF
 refine za0 Y.C ho hw fun w₁ hR K hK => ?_
 have hF₁ := Z.rely hF hR
 obtain ⟨hm,hg⟩ := Z.own hF₁ (List.mem_of_getElem? hk')
 by_cases hp : pos < str.size
 ·
  have hO : Own KT (M i) w₁ { w₁ with heap := w₁.heap.setIfInBounds g (.stringIter str (pos + (Utf8.decode str pos).2)) } := Own.setObj (hq hp) hm
  have hr : (execOp a.eval o).run P w₁ = .ok (.value (.tuple #[.bool true, .int .i64 pos, .int .i32 (Utf8.decode str pos).1])) { w₁ with heap := w₁.heap.setIfInBounds g (.stringIter str (pos + (Utf8.decode str pos).2)) } := by simp [execOp,hop,h2,run_next hg hp]
  have he : (execOp a.eval o).events P w₁ #[] = #[⟨.obj g,false,false⟩,⟨.obj g,true,false⟩] := by simp [execOp,hop,h2,run_next hg hp,events_next hg hp]
  rw [hr]
  have hlt' := Z.env.lt hm
  have hF₂ := Z.turnAt hF₁ kk hk' hO (o' := .stringIter str (pos + (Utf8.decode str pos).2)) (by simp [Array.getElem?_setIfInBounds,hlt']) (fun q hq => by simp [Array.getElem?_setIfInBounds,Ne.symm hq])
  rw [List.set_append_left _ _ hlt] at hF₂
  refine hK _ _ ⟨?_,k1 hp i S _ _ _ (Who.le_refl S) (fun _ _ => rfl) (hS.turned hb h1 hk (Y.nodupL hF) rfl fun cs t fz hc => by cases hc) hF₂ (VR.of_tu (AR.refl_sc rfl))⟩
  refine Z.env.does (Z.size hF₁) hO fun ev hl => ?_
  have hl := mem_listed hl
  rw [he] at hl
  simp at hl
  rcases hl with rfl | rfl
  iterate 2
   ·
    exact .inr (.inl ⟨g,_,rfl,Z.env.mine hO hm⟩)
 ·
  have hr : (execOp a.eval o).run P w₁ = .ok (.value (.tuple #[.bool false])) w₁ := by simp [execOp,hop,h2,run_next_end hg hp]
  have he : (execOp a.eval o).events P w₁ #[] = #[⟨.obj g,false,false⟩] := by simp [execOp,hop,h2,run_next_end hg hp,events_next_end hg hp]
  rw [hr]
  refine hK _ _ ⟨?_,k0 hp i S l w₁ _ (Who.le_refl S) (fun _ _ => rfl) hS hF₁ (VR.of_tu (AR.refl_sc rfl))⟩
  refine Z.env.does (Z.size hF₁) (Own.refl _) fun ev hl => ?_
  have hl := mem_listed hl
  rw [he] at hl
  simp at hl
  subst hl
  exact .inr (.inl ⟨g,_,rfl,hm⟩)
end
end
end Go.Proofs.YtgcaionclkbehaaGreatDoor
