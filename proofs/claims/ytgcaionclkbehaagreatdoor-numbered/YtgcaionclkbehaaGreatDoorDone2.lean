import Derived.Test.YtgcaionclkbehaaGreatDoorAgg
import Derived.Great.BuildSlice
set_option linter.all false
namespace Go.Proofs.YtgcaionclkbehaaGreatDoor
open Tryz
section
open Go.Conc Go.RowKit
structure Co (KT : TypeId → Prop) (N0 : Nat) (M : World → Nat → Prop) (O : Nat → Prop) (R : World → World → Prop) (D : World → World → Array Event → Prop) (H : List (Nat × Obj) → World → Prop) : Prop where
 env : Env KT N0 M O R D
 rely : ∀ {l w w₁},H l w → R w w₁ → H l w₁
 size : ∀ {l w},H l w → N0 ≤ w.heap.size
 own : ∀ {l w b o},H l w → (b,o) ∈ l → M w b ∧ w.heap[b]? = some o
 nodup : ∀ {l w},H l w → (l.map Prod.fst).Nodup
 grown : ∀ {l w o},H l w → Own KT M w (w.alloc o) → H ((w.heap.size,o) :: l) (w.alloc o)
 turn : ∀ {l w w' b o o'},H ((b,o) :: l) w → Own KT M w w' → w'.heap[b]? = some o' → (∀ k,k ≠ b → w'.heap[k]? = w.heap[k]?) → H ((b,o') :: l) w'
 perm : ∀ {l l' w},H l w → l'.Perm l → H l' w
 drop : ∀ {x l w},H (x :: l) w → H l w
 past : ∀ {l w w'},H l w → Kept M O (fun _ => False) w w' → N0 ≤ w'.heap.size → H l w'
 call : ∀ {l1 l1' l w w'},H (l1 ++ l) w → HL M O N0 (keysOf l1) w l1' w' → H (l1' ++ l) w'
section
variable {KT : TypeId → Prop} {N0 : Nat} {M : World → Nat → Prop} {O : Nat → Prop} {R : World → World → Prop} {D : World → World → Array Event → Prop} {H : List (Nat × Obj) → World → Prop} {Ex : Nat → Prop} {w₀ w w' : World} {l l1 : List (Nat × Obj)}
theorem HL.co (E : Env KT N0 M O R D) : Co KT N0 M O R D (HL M O N0 Ex w₀) where
 env := E
 rely h r := h.rely E r
 size h := h.size
 own h hm := ⟨(h.own _ _ hm).1,(h.own _ _ hm).2.1⟩
 nodup h := h.nodup
 grown h hO := h.grown E hO
 turn h hO hb hk := h.turn E hO hb hk
 perm h p := h.perm p
 drop h := h.drop
 past h k hs := h.past E k hs
 call h h' := h.call E h'
theorem Co.hl (Z : Co KT N0 M O R D H) (h : H l w) : HL M O N0 (keysOf l) w l w := ⟨Kept.refl w,Z.size h,fun b o hm => ⟨(Z.own h hm).1,(Z.own h hm).2, .inl ⟨o,hm⟩⟩,Z.nodup h⟩
theorem perm_front {α : Type} : ∀ {l : List α} {k : Nat} {x : α},l[k]? = some x → (x :: l.eraseIdx k).Perm l
 | y :: l,0,x,h => by simp at h; subst h; exact .refl _
 | y :: l,k + 1,x,h => ((List.Perm.swap y x (l.eraseIdx k))).trans (.cons y (perm_front (by simpa using h)))
theorem perm_set {α : Type} : ∀ {l : List α} {k : Nat} {x y : α},l[k]? = some x → (l.set k y).Perm (y :: l.eraseIdx k)
 | z :: l,0,x,y,h => .refl _
 | z :: l,k + 1,x,y,h => (List.Perm.cons z (perm_set (x := x) (by simpa using h))).trans (List.Perm.swap y z _)
theorem Co.front (Z : Co KT N0 M O R D H) (h : H l w) (k : Nat) {b : Nat} {o : Obj} (hk : l[k]? = some (b,o)) : H ((b,o) :: l.eraseIdx k) w := by
 exact Z.perm h (perm_front hk)
theorem Co.turnAt (Z : Co KT N0 M O R D H) (h : H l w) (k : Nat) {b : Nat} {o o' : Obj} (hk : l[k]? = some (b,o)) (hO : Own KT M w w') (hb : w'.heap[b]? = some o') (hx : ∀ k,k ≠ b → w'.heap[k]? = w.heap[k]?) : H (l.set k (b,o')) w' := by
 exact Z.perm (Z.turn (Z.front h k hk) hO hb hx) (perm_set hk)
end
def putAt (cur : Array Value) (off : Nat) (cs : List Value) : Array Value := (cur.toList.take off ++ cs ++ cur.toList.drop (off + cs.length)).toArray
section
variable {ι : Type} {P : Program} {R : ι → World → World → Prop} {D : ι → World → World → Array Event → Prop} {X : ι → Goroutine → World → Prop} {fn : FuncId} {Q : PostI ι} {a : Act} {w : World} {vs : ι} {KT : TypeId → Prop} {N0 : Nat} {M : World → Nat → Prop} {O : Nat → Prop} {H : List (Nat × Obj) → World → Prop} {l : List (Nat × Obj)}
theorem opsI_boxC (C : ClosedI P true R D X) (Z : Co KT N0 M O (R vs) (D vs) H) {ops : Array Oper} {i : Nat} {rest : List Nat} {o : Oper} {t : TypeId} {x : Operand} {cs : Array Value} (ho : ops[i]? = some o) (hw : Region.wanted o (yielded ops a.tmps) = true) (hop : o.op = .box t x) (hx : (a.eval x).cells = cs) (ht : ¬ KT t)
  (hF : H l w) (h : ∀ b w',H ((b, .cells cs t) :: l) w' → OpsI X fn ops rest vs Q (a.put o.dst (.pointer (some ⟨b,0,none⟩))) w') : OpsI X fn ops (i :: rest) vs Q a w := by
 refine za0 C ho hw fun w₁ hR K hK => ?_
 have hF₁ := Z.rely hF hR
 have hO : Own KT M w₁ (w₁.alloc (.cells cs t)) := Own.alloc ht
 have hr : (execOp a.eval o).run P w₁ = .ok (.value (.pointer (some ⟨w₁.heap.size,0,none⟩))) (w₁.alloc (.cells cs t)) := by simp [execOp,hop,box_run,hx]
 have he : (execOp a.eval o).events P w₁ #[] = #[] := by simp [execOp,hop,box_run,zj7]
 rw [hr]
 refine hK _ _ ⟨?_,h _ _ (Z.grown hF₁ hO)⟩
 rw [listed_nil he]
 exact Z.env.does (Z.size hF₁) hO (fun e he => by simp at he)
theorem opsI_allocC (C : ClosedI P true R D X) (Z : Co KT N0 M O (R vs) (D vs) H) {ops : Array Oper} {i : Nat} {rest : List Nat} {o : Oper} {t : TypeId} {z : Value} {cs : Array Value} (ho : ops[i]? = some o) (hw : Region.wanted o (yielded ops a.tmps) = true) (hop : o.op = .alloc t) (hz : ∀ w,(zeroValue t).run P w = .ok z w) (hx : z.cells = cs) (ht : ¬ KT t)
  (hF : H l w) (h : ∀ b w',H ((b, .cells cs t) :: l) w' → OpsI X fn ops rest vs Q (a.put o.dst (.pointer (some ⟨b,0,none⟩))) w') : OpsI X fn ops (i :: rest) vs Q a w := by
 refine za0 C ho hw fun w₁ hR K hK => ?_
 have hF₁ := Z.rely hF hR
 have hO : Own KT M w₁ (w₁.alloc (.cells cs t)) := Own.alloc ht
 have hr : (execOp a.eval o).run P w₁ = .ok (.value (.pointer (some ⟨w₁.heap.size,0,none⟩))) (w₁.alloc (.cells cs t)) := by simp [execOp,hop,zh5 hz,hx]
 have he : (execOp a.eval o).events P w₁ #[] = #[] := by simp [execOp,hop,zh5 hz,zf2 hz]
 rw [hr]
 refine hK _ _ ⟨?_,h _ _ (Z.grown hF₁ hO)⟩
 rw [listed_nil he]
 exact Z.env.does (Z.size hF₁) hO (fun e he => by simp at he)
theorem isAgg_run {P : Program} {ty : TypeId} {d : TypeDesc} (hu : P.underlying ty = some d) (hd : d.isRow = false) (w : World) : (isAgg ty).run P w = .ok false w := by
 unfold isAgg
 rw [Sem.run_bind,run_underlying hu w]
 cases d <;> simp_all [TypeDesc.isRow]
theorem isAgg_events {P : Program} {ty : TypeId} {d : TypeDesc} (hu : P.underlying ty = some d) (w : World) (es : Array Event) : (isAgg ty).events P w es = es := by
 unfold isAgg
 simp only [Sem.events_bind,run_underlying hu w]
 cases d <;> simp [underlying,hu]
theorem zl8 (C : ClosedI P true R D X) (Z : Co KT N0 M O (R vs) (D vs) H) {ops : Array Oper} {i : Nat} {rest : List Nat} {o : Oper} {x : Operand} {ty t : TypeId} {d : TypeDesc} {b off : Nat} {cs : Array Value} {fz : Nat × Nat} {v : Value} (k : Nat) (ho : ops[i]? = some o) (hw : Region.wanted o (yielded ops a.tmps) = true) (hop : o.op = .load ty x) (hx : a.eval x = .pointer (some ⟨b,off,none⟩))
  (hu : P.underlying ty = some d) (hd : d.isRow = false) (hF : H l w) (hk : l[k]? = some (b, .cells cs t fz)) (hv : cs[off]? = some v) (h : ∀ w',H l w' → OpsI X fn ops rest vs Q (a.put o.dst v) w') : OpsI X fn ops (i :: rest) vs Q a w := by
 refine za0 C ho hw fun w₁ hR K hK => ?_
 have hF₁ := Z.rely hF hR
 obtain ⟨hm,hb⟩ := Z.own hF₁ (List.mem_of_getElem? hk)
 have hcell : w₁.cell? ⟨b,off,none⟩ = some v := by simp [World.cell?,hb,hv]
 have hr : (execOp a.eval o).run P w₁ = .ok (.value v) w₁ := by simp [execOp,hop,hx,Instr.loadAt,Instr.sureAddr,loadVar,isAgg_run hu hd,load,Sem.run,hcell]
 have he : (execOp a.eval o).events P w₁ #[] = #[⟨.cell ⟨b,off,none⟩,false,false⟩] := by
  simp [execOp,hop,hx,Instr.loadAt,Instr.sureAddr,loadVar,isAgg_run hu hd,isAgg_events hu,events_load,hcell]
 rw [hr]
 refine hK _ _ ⟨Z.env.does (Z.size hF₁) (Own.refl _) fun ev hl => ?_,h w₁ hF₁⟩
 have hl := mem_listed hl
 rw [he] at hl
 simp at hl
 subst hl
 exact .inl ⟨_,rfl,hm⟩
theorem opsI_loadAggC (C : ClosedI P true R D X) (Z : Co KT N0 M O (R vs) (D vs) H) {ops : Array Oper} {i : Nat} {rest : List Nat} {o : Oper} {x : Operand} {ty t : TypeId} {b off : Nat} {cs : List Value} {cur : Array Value} {fz : Nat × Nat} {d : TypeDesc} (k : Nat) (ho : ops[i]? = some o) (hw : Region.wanted o (yielded ops a.tmps) = true) (hop : o.op = .load ty x) (hx : a.eval x = .pointer (some ⟨b,off,none⟩))
  (hu : P.underlying ty = some d) (hd : d.isRow = true) (hi : (P.info? ty).map (·.size) = some cs.length) (hF : H l w) (hk : l[k]? = some (b, .cells cur t fz)) (hc : ∀ j v,cs[j]? = some v → cur[off + j]? = some v)
  (h : ∀ w',H l w' → OpsI X fn ops rest vs Q (a.put o.dst (.agg cs.toArray)) w') : OpsI X fn ops (i :: rest) vs Q a w := by
 refine za0 C ho hw fun w₁ hR K hK => ?_
 have hF₁ := Z.rely hF hR
 obtain ⟨hm,hb⟩ := Z.own hF₁ (List.mem_of_getElem? hk)
 have hcr := rangeAt_of hb hc
 have hrun := run_loadAt_mid (P := P) w₁ b off ty cs d hcr hu hd hi
 have hr2 : (execOp a.eval o).run P w₁ = .ok (.value (.agg cs.toArray)) w₁ := by
  unfold execOp
  simp only [hop,hx,Sem.run_bind,Sem.run_pure,Result.andThen_ok,hrun]
 have he2 : (execOp a.eval o).events P w₁ #[] = (Instr.loadAt ty (.pointer (some ⟨b,off,none⟩))).events P w₁ #[] := by
  unfold execOp
  simp only [hop,hx,Sem.events_bind,hrun,Result.evThen_ok,Sem.events_pure]
 rw [hr2]
 refine hK _ _ ⟨Z.env.does (Z.size hF₁) (Own.refl _) fun ev hl => ?_,h w₁ hF₁⟩
 have hl := mem_listed hl
 rw [he2] at hl
 obtain ⟨ad,h1,h2⟩ := zi5 w₁ b off ty cs d hcr hu hd hi ev hl
 exact .inl ⟨ad,h1,by rw [h2]; exact hm⟩
theorem opsI_storeC (C : ClosedI P true R D X) (Z : Co KT N0 M O (R vs) (D vs) H) {ops : Array Oper} {i : Nat} {rest : List Nat} {o : Oper} {x y : Operand} {ty t : TypeId} {b off : Nat} {cs : List Value} {cur cur' : Array Value} (k : Nat) (ho : ops[i]? = some o) (hw : Region.wanted o (yielded ops a.tmps) = true) (hop : o.op = .store ty x y) (hx : a.eval x = .pointer (some ⟨b,off,none⟩)) (hy : (a.eval y).cells = cs.toArray)
  (hi : (P.info? ty).map (·.size) = some cs.length) (h1 : ∀ v ∈ cs,v.oneCell' = true) (ht : ¬ KT t) (hF : H l w) (hk : l[k]? = some (b, .cells cur t)) (hsz : off + cs.length ≤ cur.size) (hnew : putAt cur off cs = cur')
  (h : ∀ w',H (l.set k (b, .cells cur' t)) w' → OpsI X fn ops rest vs Q (a.put o.dst undef) w') : OpsI X fn ops (i :: rest) vs Q a w := by
 subst hnew
 refine za0 C ho hw fun w₁ hR K hK => ?_
 have hF₁ := Z.rely hF hR
 obtain ⟨hm,hb⟩ := Z.own hF₁ (List.mem_of_getElem? hk)
 cases hq : P.info? ty with
 | none => simp [hq] at hi
 | some inf =>
  have hs : inf.size = cs.length := by simpa [hq] using hi
  have hst := run_storeCells_at (P := P) b off t cs 0 cur w₁ hb (by omega) h1
  have hse := events_storeCells_at (P := P) b off t cs 0 cur w₁ #[] hb (by omega) h1
  have hst : (storeCells ⟨b,off,none⟩ cs).run P w₁ = .ok () (w₁.setRow b (putAt cur off cs)) := hst
  have hrun : (Instr.storeAt ty (.pointer (some ⟨b,off,none⟩)) (a.eval y)).run P w₁ = .ok () (w₁.setRow b (putAt cur off cs)) := by
   simp [Instr.storeAt,Instr.sureAddr,storeVar,sizeOf,typeInfo,hq,hs,hy,hst]
  have hev : (Instr.storeAt ty (.pointer (some ⟨b,off,none⟩)) (a.eval y)).events P w₁ #[] = (storeCells ⟨b,off,none⟩ cs).events P w₁ #[] := by
   simp [Instr.storeAt,Instr.sureAddr,storeVar,sizeOf,typeInfo,hq,hs,hy]
  have hO : Own KT M w₁ (w₁.setRow b (putAt cur off cs)) := Own.setRow hb hm ht
  have hr2 : (execOp a.eval o).run P w₁ = .ok .skip (w₁.setRow b (putAt cur off cs)) := by
   unfold execOp
   simp only [hop,hx,Sem.run_bind,Sem.run_pure,Result.andThen_ok,hrun]
  have he2 : (execOp a.eval o).events P w₁ #[] = (Instr.storeAt ty (.pointer (some ⟨b,off,none⟩)) (a.eval y)).events P w₁ #[] := by
   unfold execOp
   simp only [hop,hx,Sem.events_bind,hrun,Result.evThen_ok,Sem.events_pure]
  rw [hr2]
  refine hK _ _ ⟨Z.env.does (Z.size hF₁) hO fun ev hl => ?_,h _ (Z.turnAt hF₁ k hk hO ?_ fun k hk => ?_)⟩
  ·
   have hl := mem_listed hl
   rw [he2,hev] at hl
   rcases hse ev hl with z | ⟨ad,z1,z2⟩
   ·
    simp at z
   ·
    exact .inl ⟨ad,z1,by rw [z2]; exact Z.env.mine hO hm⟩
  ·
   simp [World.setRow,Array.getElem?_modify,hb]
  ·
   simp [World.setRow,Array.getElem?_modify,Ne.symm hk]
end
section
variable {N Pb : Nat} {Shun : Loc → Prop} {val : Value} {B : Nat} {Mine : Loc → Prop} {Ex : Nat → Prop} {w₀ w w' : World} {all : List Int} {Rb : Nat} {i : Ph} {l l' : List (Nat × Obj)}
theorem HX.perm {K : Cfg} (h : HX K Ex w₀ all Rb i l w) (p : l'.Perm l) : HX K Ex w₀ all Rb i l' w := by
 obtain ⟨v,tk,rest,en,h1,h2,h3,h4,h5⟩ := h.row
 exact ⟨h.hl.perm p,v,tk,rest,en,h1,h2,h3,fun b o hm => h4 b o (p.mem_iff.1 hm),h5⟩
variable [Go.ConcR.Payload] [Go.ConcX.Payload]
variable [Go.ConcX.Shy (Cfg.Wg (kcfg prog N Pb Shun val B Mine)) (Cfg.C (kcfg prog N Pb Shun val B Mine))]
theorem HX.co (F : Cfg.Fit (kcfg prog N Pb Shun val B Mine)) (h : HX (kcfg prog N Pb Shun val B Mine) Ex w₀ all Rb i l w) : Co KTs (N + 9) (mineM (kcfg prog N Pb Shun val B Mine)) (outM (kcfg prog N Pb Shun val B Mine)) (RMd (kcfg prog N Pb Shun val B Mine) i) (DMd (kcfg prog N Pb Shun val B Mine) i) (fun l w => HX (kcfg prog N Pb Shun val B Mine) Ex w₀ all Rb i l w) where
 env := h.env F
 rely h r := h.rely F r
 size h := h.hl.size
 own h hm := ⟨(h.hl.own _ _ hm).1,(h.hl.own _ _ hm).2.1⟩
 nodup h := h.hl.nodup
 grown h hO := h.grown F hO
 turn h hO hb hk := h.turn F hO hb hk
 perm h p := h.perm p
 drop h := h.drop
 past h k hs := h.past F k hs
 call h h' := h.call F h'
end
end
section
open Go.Conc Go.RowKit
section
variable {ι : Type} {P : Program} {R : ι → World → World → Prop} {D : ι → World → World → Array Event → Prop} {X : ι → Goroutine → World → Prop} {fn : FuncId} {Q : PostI ι} {a : Act} {w : World} {vs : ι} {KT : TypeId → Prop} {N0 : Nat} {M : World → Nat → Prop} {O : Nat → Prop} {H : List (Nat × Obj) → World → Prop} {l rl : List (Nat × Obj)}
theorem opsI_build (C : ClosedI P true R D X) (T : ∀ i,Terms (R i) (D i)) {ops : Array Oper} {i : Nat} {rest : List Nat} {o : Oper} {t : TypeId} {parts : Array (Nat × Operand)} {cells : Array Value} (ho : ops[i]? = some o) (hw : Region.wanted o (yielded ops a.tmps) = true) (hop : o.op = .build t parts) (hb : P.built t (parts.map fun (i,x) => (i,a.eval x)).toList = some cells)
  (h : OpsI X fn ops rest vs Q (a.put o.dst (.agg cells)) w) : OpsI X fn ops (i :: rest) vs Q a w := by
 refine za1 C T ho hw fun w₁ K hK => ?_
 have hr : (execOp a.eval o).run P w₁ = .ok (.value (.agg cells)) w₁ := by simp [execOp,hop,run_build (P := P) w₁ t _ cells hb]
 have he : (execOp a.eval o).events P w₁ #[] = #[] := by simp [execOp,hop,run_build (P := P) w₁ t _ cells hb,zi8 (P := P) w₁ t _ cells hb]
 rw [hr]
 exact hK _ h he
theorem buildSlice_events (w : World) (t e : TypeId) (len : Nat) (parts : Array (Nat × Value)) (cells : Array Value) (ie : TypeInfo) (z : Value)
  (hu : P.underlying t = some (.slice e)) (hie : P.info? e = some ie) (hz : ie.zero = some z) (hsmall : ¬ len * ie.size > 2 ^ 24) (hpos : ¬ len * ie.size = 0)
  (h : Instr.fill (fun i => some (i * ie.size,ie.size)) ((Array.range (len * ie.size)).map (z.cells[· % z.cells.size]!)) parts.toList = some cells) (es : Array Event) :
  (Instr.buildSlice t len parts).events P w es = es := by
 simp [Instr.buildSlice,run_underlying hu,sizeOf,typeInfo,zeroValue,hie,hz,hsmall,hpos,h,newRow]
theorem buildSlice_run0 (w : World) (t e : TypeId) (len : Nat) (parts : Array (Nat × Value)) (cells : Array Value) (ie : TypeInfo) (z : Value)
  (hu : P.underlying t = some (.slice e)) (hie : P.info? e = some ie) (hz : ie.zero = some z) (hsmall : ¬ len * ie.size > 2 ^ 24)
  (h : Instr.fill (fun i => some (i * ie.size,ie.size)) ((Array.range (len * ie.size)).map (z.cells[· % z.cells.size]!)) parts.toList = some cells) (es : Array Event) :
  (Instr.buildSlice t len parts).run P w = .ok (.slice (some ⟨w.heap.size,0,none⟩) len len) (w.alloc (.cells cells e)) ∧ (Instr.buildSlice t len parts).events P w es = es := by
 by_cases h0 : len * ie.size = 0
 ·
  rw [h0] at h
  have hr0 : Array.range 0 = #[] := rfl
  have h' : Instr.fill (fun i => some (i * ie.size,ie.size)) #[] parts.toList = some cells := by rw [hr0] at h; simpa using h
  constructor
  iterate 2
   ·
    simp [Instr.buildSlice,run_underlying hu,sizeOf,typeInfo,hie,h0,hr0,h',newRow]
 ·
  exact ⟨run_buildSlice w t e len parts cells ie z hu hie hz hsmall h0 h,buildSlice_events w t e len parts cells ie z hu hie hz hsmall h0 h es⟩
def sliced (P : Program) (e : TypeId) (len : Nat) (parts : List (Nat × Value)) : Option (Array Value) :=
 match P.info? e with
 | some ie => match ie.zero with
  | some z => if len * ie.size > 2 ^ 24 then none else Instr.fill (fun i => some (i * ie.size,ie.size)) ((Array.range (len * ie.size)).map (z.cells[· % z.cells.size]!)) parts
  | none => none
 | none => none
theorem opsI_buildSliceC (C : ClosedI P true R D X) (Z : Co KT N0 M O (R vs) (D vs) H) {ops : Array Oper} {i : Nat} {rest : List Nat} {o : Oper} {t e : TypeId} {len : Nat} {parts : Array (Nat × Operand)} {cells : Array Value} (ho : ops[i]? = some o) (hw : Region.wanted o (yielded ops a.tmps) = true) (hop : o.op = .buildSlice t len parts) (hu : P.underlying t = some (.slice e)) (ht : ¬ KT e) (hb : sliced P e len (parts.map fun (i,x) => (i,a.eval x)).toList = some cells)
  (hF : H l w) (h : ∀ b w',H ((b, .cells cells e) :: l) w' → OpsI X fn ops rest vs Q (a.put o.dst (.slice (some ⟨b,0,none⟩) len len)) w') : OpsI X fn ops (i :: rest) vs Q a w := by
 refine za0 C ho hw fun w₁ hR K hK => ?_
 have hF₁ := Z.rely hF hR
 unfold sliced at hb
 cases hie : P.info? e with
 | none => simp [hie] at hb
 | some ie =>
  cases hz : ie.zero with
  | none => simp [hie,hz] at hb
  | some z =>
   simp only [hie,hz] at hb
   split at hb
   ·
    cases hb
   ·
    rename_i hn
    have hq := fun es => buildSlice_run0 (P := P) w₁ t e len (parts.map fun (i,x) => (i,a.eval x)) cells ie z hu hie hz hn hb es
    have hO : Own KT M w₁ (w₁.alloc (.cells cells e)) := Own.alloc ht
    have hr : (execOp a.eval o).run P w₁ = .ok (.value (.slice (some ⟨w₁.heap.size,0,none⟩) len len)) (w₁.alloc (.cells cells e)) := by
     unfold execOp
     simp only [hop,Sem.run_bind,(hq #[]).1,Result.andThen_ok,Sem.run_pure]
    have he : (execOp a.eval o).events P w₁ #[] = #[] := by
     unfold execOp
     simp only [hop,Sem.events_bind,(hq #[]).1,(hq _).2,Result.evThen_ok,Sem.events_pure]
    rw [hr]
    refine hK _ _ ⟨?_,h _ _ (Z.grown hF₁ hO)⟩
    rw [listed_nil he]
    exact Z.env.does (Z.size hF₁) hO (fun e he => by simp at he)
end
end
section
open Go.Conc
def zi2 (ops : Array Oper) : Bool := (List.range ops.size).all fun i => ((ops[i]?).map (·.after.all fun e => !Region.binds .any e || decide (e.on < i))).getD false
theorem edges_back {ops : Array Oper} (h : zi2 ops = true) {i : Nat} {o : Oper} (ho : ops[i]? = some o) {e : Edge} (he : e ∈ o.after) (hb : Region.binds .any e = true) : e.on < i := by
 unfold zi2 at h
 rw [List.all_eq_true] at h
 have hi : i < ops.size := (Array.getElem?_eq_some_iff.1 ho).1
 have := h i (List.mem_range.2 hi)
 rw [ho] at this
 simp only [Option.map_some,Option.getD_some,Array.all_eq_true_iff_forall_mem] at this
 have := this e he
 rw [hb] at this
 simpa using this
def ReadyAt (ops : Array Oper) (J : Nat → Bool) (i : Nat) : Prop := ∀ o,ops[i]? = some o → ∀ e ∈ o.after,Region.binds .any e = true → J e.on = true
section
variable {ι : Type} {P : Program} {main : Bool} {R : ι → World → World → Prop} {D : ι → World → World → Array Event → Prop} {X : ι → Goroutine → World → Prop} {fn : FuncId} {Q : PostI ι} {a : Act} {w : World} {vs : ι}
theorem zh8 (C : ClosedI P main R D X) {id n : Nat} {ops : Array Oper} (hd : LetsDraw (D vs)) (hm : P.follows .mixedOrders = true) (hn : ops.size = n) (hback : zi2 ops = true)
  (Inv : (Nat → Bool) → ι → Act → World → Prop) (h0 : ∀ w₁,R vs w w₁ → Inv (fun _ => false) vs a { w₁ with drawn := w₁.drawn + 1 })
  (hext : ∀ J J' vs a w,(∀ k,k < n → J k = J' k) → Inv J vs a w → Inv J' vs a w)
  (hstep : ∀ (J : Nat → Bool) (i : Nat) (vs : ι) (a : Act) (w : World),Inv J vs a w → i < n → J i = false → ReadyAt ops J i → ∀ rest,(∀ vs' a' w',Inv (fun k => if k = i then true else J k) vs' a' w' → OpsI X fn ops rest vs' Q a' w') → OpsI X fn ops (i :: rest) vs Q a w)
  (hend : ∀ (J : Nat → Bool) (vs : ι) (a : Act) (w : World),(∀ k,k < n → J k = true) → Inv J vs a w → OpsI X fn ops [] vs Q a w) : wpI X fn (.region id ops true) vs Q a w := by
 have key : ∀ (fuel t : Nat) (listed : Array Bool) (vs : ι) (a : Act) (w : World),listed.size = n → listed.toList.count false ≤ fuel → Inv (fun k => listed.getD k false) vs a w → OpsI X fn ops (Region.linearise.go .any ops fuel t listed []) vs Q a w := by
  intro fuel
  induction fuel with
  | zero =>
   intro t listed vs a w hs hc hI
   refine hend _ vs a w (fun k hk => ?_) hI
   have h := List.count_eq_zero.1 (Nat.le_zero.1 hc)
   rw [Array.getD_eq_getD_getElem?,Array.getElem?_eq_getElem (by omega),Option.getD_some]
   cases e : listed[k]'(by omega) with
   | true => rfl
   | false => exact absurd (by rw [← e]; simp) h
  | succ fuel ih =>
   intro t listed vs a w hs hc hI
   by_cases he : Region.ready .any ops listed = []
   ·
    rw [go_nil he]
    refine hend _ vs a w (fun k hk => ?_) hI
    induction k using Nat.strongRecOn with
    | _ k ihk =>
     cases e : listed.getD k false with
     | true => rfl
     | false =>
      exfalso
      have hk' : k < ops.size := by omega
      have hmem : k ∈ Region.ready .any ops listed := by
       refine mem_ready.2 ⟨?_,ops[k],Array.getElem?_eq_getElem hk',fun ed hed hb => ?_⟩
       ·
        rw [Array.getD_eq_getD_getElem?,Array.getElem?_eq_getElem (by omega),Option.getD_some] at e ⊢
        exact e
       ·
        have hlt := edges_back hback (Array.getElem?_eq_getElem hk') hed hb
        exact ihk ed.on hlt (by omega)
      rw [he] at hmem
      simp at hmem
   ·
    have hpos : 0 < (Region.ready .any ops listed).length := List.length_pos_iff.2 he
    obtain ⟨i,hi⟩ : ∃ i,(Region.ready .any ops listed)[t % (Region.ready .any ops listed).length]? = some i := ⟨_,List.getElem?_eq_getElem (Nat.mod_lt _ hpos)⟩
    have hmem := mem_ready.1 (List.mem_of_getElem? hi)
    obtain ⟨hf,o,ho,hed⟩ := hmem
    have hin : i < n := by rw [← hn]; exact (Array.getElem?_eq_some_iff.1 ho).1
    have hil : listed[i]? = some false := by
     rw [Array.getD_eq_getD_getElem?,Array.getElem?_eq_getElem (by omega),Option.getD_some] at hf
     rw [Array.getElem?_eq_getElem (by omega),hf]
    rw [go_cons hi]
    refine hstep _ i vs a w hI hin (by rw [Array.getD_eq_getD_getElem?,hil]; rfl) (fun o' ho' e he' hb => ?_) _ fun vs' a' w' hI' => ih _ _ vs' a' w' (by simpa using hs) ?_ (hext _ _ vs' a' w' (fun k hk => ?_) hI')
    ·
     rw [ho] at ho'
     cases ho'
     exact hed e he' hb
    ·
     have hil2 : listed.toList[i]'(by simpa using (show i < listed.size by omega)) = false := by
      have := (Array.getElem?_eq_some_iff.1 hil).2
      simpa using this
     have hlen : i < listed.toList.length := by simpa using (show i < listed.size by omega)
     have hmem : false ∈ listed.toList := by rw [← hil2]; exact List.getElem_mem _
     have h1 := List.count_pos_iff.2 hmem
     rw [Array.toList_setIfInBounds,List.count_set hlen,hil2,if_pos (by decide),if_neg (by decide)]
     omega
    ·
     by_cases e : k = i
     ·
      subst e
      simp [Array.getElem?_setIfInBounds,show k < listed.size by omega]
     ·
      simp [Array.getD_eq_getD_getElem?,Array.getElem?_setIfInBounds,e,Ne.symm e]
 intro b k cs hb hk hc
 refine C.step rfl fun w₁ h₁ => ?_
 rw [stepG_region_draw]
 refine ⟨hd _,?_⟩
 simp only [Region.schedule,hm,Bool.true_or,if_true]
 have e : Region.linearise .any ops (w₁.tape w₁.drawn (.order b.fn id)) = Region.linearise.go .any ops n (w₁.tape w₁.drawn (.order b.fn id)) (Array.replicate n false) [] := by
  unfold Region.linearise
  rw [hn]
 rw [e]
 exact key n _ (Array.replicate n false) vs a _ (by simp) (by simp) (hext _ _ vs a _ (fun k hk => by simp [Array.getD_eq_getD_getElem?,hk]) (h0 w₁ h₁)) b k cs hb hk hc
end
end
end Go.Proofs.YtgcaionclkbehaaGreatDoor
