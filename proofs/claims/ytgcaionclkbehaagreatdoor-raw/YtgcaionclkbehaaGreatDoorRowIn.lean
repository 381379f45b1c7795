import Derived.Test.YtgcaionclkbehaaGreatDoorText
set_option linter.all false
namespace Go.Proofs.YtgcaionclkbehaaGreatDoor
open Tryz
section
open Go.Conc
section
variable {ι : Type} {P : Program} {main : Bool} {R : ι → World → World → Prop} {D : ι → World → World → Array Event → Prop} {X : ι → Goroutine → World → Prop} {fn : FuncId} {Q : PostI ι} {a : Act} {w : World} {vs : ι}
theorem OpsI.rely (C : ClosedI P main R D X) {ops : Array Oper} {todo : List Nat} {w₁ : World} (h : OpsI X fn ops todo vs Q a w) (r : R vs w w₁) : OpsI X fn ops todo vs Q a w₁ := fun b k cs hb hk hc => C.rely (h b k cs hb hk hc) r
theorem za1 (C : ClosedI P main R D X) (T : ∀ i,Terms (R i) (D i)) {ops : Array Oper} {i : Nat} {rest : List Nat} {o : Oper} (ho : ops[i]? = some o) (hw : Region.wanted o (yielded ops a.tmps) = true)
  (h : ∀ (w₁ : World) (K : Act → World → Prop),(∀ a',OpsI X fn ops rest vs Q a' w → (execOp a.eval o).events P w₁ #[] = #[] → K a' w₁) → uponK o a K ((execOp a.eval o).run P w₁)) : OpsI X fn ops (i :: rest) vs Q a w :=
 za0 C ho hw fun w₁ hR K hK => h w₁ K fun a' hO he => hK a' w₁ ⟨by rw [listed_nil he]; exact (T vs).idle _,hO.rely C hR⟩
theorem zf9 (C : ClosedI P main R D X) (T : ∀ i,Terms (R i) (D i)) {c : Operand} {x y : Code} {t : Bool} (hc : a.eval c = .bool t) (h1 : t = true → wpI X fn x vs Q a w) (h0 : t = false → wpI X fn y vs Q a w) : wpI X fn (.cond c x y) vs Q a w := by
 refine zc0 C T hc ?_
 cases t
 ·
  exact h0 rfl
 ·
  exact h1 rfl
theorem zi0 {ops : Array Oper} {todo : List Nat} {d : Nat} {t : Bool} (_ : a.tmps[d]? = some (.bool t)) (h1 : t = true → OpsI X fn ops todo vs Q a w) (h0 : t = false → OpsI X fn ops todo vs Q a w) : OpsI X fn ops todo vs Q a w := by
 cases t
 ·
  exact h0 rfl
 ·
  exact h1 rfl
end
def PureI (P : Program) (f : FuncId) (args : Array Value) (v : Value) : Prop :=
 ∀ (ι : Type) (R : ι → World → World → Prop) (D : ι → World → World → Array Event → Prop) (X : ι → Goroutine → World → Prop) (_ : ClosedI P true R D X) (_ : ∀ i,Terms (R i) (D i)) (i : ι) (w : World),CallsI P X f args i w (fun i' x w' => i' = i ∧ x = v ∧ w' = w)
section
variable {ι : Type} {P : Program} {R : ι → World → World → Prop} {D : ι → World → World → Array Event → Prop} {X : ι → Goroutine → World → Prop} {fn : FuncId} {Q : PostI ι} {a : Act} {w : World} {vs : ι}
theorem zh8 (C : ClosedI P true R D X) (T : ∀ i,Terms (R i) (D i)) {ops : Array Oper} {i : Nat} {rest : List Nat} {o : Oper} {x : Operand} {f : FuncId} {first cap args' : Array Value} {args : Array Operand} {ats : Array TypeId} {v : Value}
  (ho : ops[i]? = some o) (hw : Region.wanted o (yielded ops a.tmps) = true) (hop : o.op = .call { callee := .value x,args,argTypes := ats }) (hx : a.eval x = .func (.func f) first cap)
  (hargs : first ++ args.map a.eval ++ cap = args') (hp : PureI P f args' v) (h : OpsI X fn ops rest vs Q (a.put o.dst v) w) : OpsI X fn ops (i :: rest) vs Q a w := by
 refine zd6 C T ho hw hop hx hargs rfl (hp _ _ _ _ C T vs w) ?_
 rintro _ _ _ ⟨rfl,rfl,rfl⟩
 exact h
end
end
section
open Go.Conc Go.RowKit
structure HL (M : World → Nat → Prop) (O : Nat → Prop) (N0 : Nat) (Ex : Nat → Prop) (w₀ : World) (l : List (Nat × Obj)) (w : World) : Prop where
 kept : Kept M O Ex w₀ w
 size : N0 ≤ w.heap.size
 own : ∀ b o,(b,o) ∈ l → M w b ∧ w.heap[b]? = some o ∧ (Ex b ∨ w₀.heap.size ≤ b)
 nodup : (l.map Prod.fst).Nodup
section
variable {KT : TypeId → Prop} {N0 : Nat} {M : World → Nat → Prop} {O : Nat → Prop} {R : World → World → Prop} {D : World → World → Array Event → Prop} {Ex : Nat → Prop} {w₀ w w₁ w' : World} {l : List (Nat × Obj)} {b : Nat} {o o' : Obj}
theorem HL.start (hs : N0 ≤ w.heap.size) : HL M O N0 Ex w [] w := ⟨Kept.refl w,hs,fun _ _ h => by simp at h,by simp⟩
theorem HL.rely (E : Env KT N0 M O R D) (h : HL M O N0 Ex w₀ l w) (r : R w w₁) : HL M O N0 Ex w₀ l w₁ :=
 ⟨h.kept.rely E r,Nat.le_trans h.size (E.size r),fun b o hm => ⟨E.stay r (h.own b o hm).1,(E.keep r (h.own b o hm).1).trans (h.own b o hm).2.1,(h.own b o hm).2.2⟩,h.nodup⟩
theorem HL.perm {l' : List (Nat × Obj)} (h : HL M O N0 Ex w₀ l w) (p : l'.Perm l) : HL M O N0 Ex w₀ l' w := ⟨h.kept,h.size,fun b o hm => h.own b o (p.mem_iff.1 hm),(p.map Prod.fst).nodup_iff.2 h.nodup⟩
theorem HL.drop {x : Nat × Obj} (h : HL M O N0 Ex w₀ (x :: l) w) : HL M O N0 Ex w₀ l w := ⟨h.kept,h.size,fun b o hm => h.own b o (List.mem_cons_of_mem _ hm),(List.nodup_cons.1 h.nodup).2⟩
theorem HL.head (h : HL M O N0 Ex w₀ ((b,o) :: l) w) : M w b ∧ w.heap[b]? = some o ∧ (Ex b ∨ w₀.heap.size ≤ b) := h.own b o (List.mem_cons_self ..)
theorem HL.grown (E : Env KT N0 M O R D) (h : HL M O N0 Ex w₀ l w) (hO : Own KT M w (w.alloc o)) : HL M O N0 Ex w₀ ((w.heap.size,o) :: l) (w.alloc o) := by
 refine ⟨h.kept.own E hO fun b hb _ => Below.heap_alloc _ _ _ (E.lt (h.kept.mine b hb)),by simp [World.size_alloc]; have := h.size; omega,fun b o' hm => ?_,?_⟩
 ·
  rcases List.mem_cons.1 hm with e | hm
  ·
   cases e
   exact ⟨E.new h.size hO (Nat.le_refl _) (by simp [World.size_alloc]),heap_alloc_new w _, .inr h.kept.grow⟩
  ·
   obtain ⟨h1,h2,h3⟩ := h.own b o' hm
   exact ⟨E.mine hO h1,(Below.heap_alloc _ _ _ (E.lt h1)).trans h2,h3⟩
 ·
  refine List.nodup_cons.2 ⟨fun hm => ?_,h.nodup⟩
  obtain ⟨p,hp,e⟩ := List.mem_map.1 hm
  have h4 := E.lt (h.own p.1 p.2 hp).1
  have e' : p.1 = w.heap.size := e
  rw [e'] at h4
  exact Nat.lt_irrefl _ h4
theorem HL.turn (E : Env KT N0 M O R D) (h : HL M O N0 Ex w₀ ((b,o) :: l) w) (hO : Own KT M w w') (hb : w'.heap[b]? = some o') (hk : ∀ k,k ≠ b → w'.heap[k]? = w.heap[k]?) : HL M O N0 Ex w₀ ((b,o') :: l) w' := by
 have hd := List.nodup_cons.1 h.nodup
 refine ⟨h.kept.own E hO fun k hk' hx => hk k fun e => ?_,Nat.le_trans h.size hO.grow,fun k o'' hm => ?_,h.nodup⟩
 ·
  subst e
  rcases h.head.2.2 with z | z
  ·
   exact hx z
  ·
   have := E.lt hk'; omega
 ·
  rcases List.mem_cons.1 hm with e | hm2
  ·
   cases e
   exact ⟨E.mine hO h.head.1,hb,h.head.2.2⟩
  ·
   obtain ⟨h1,h2,h3⟩ := h.own k o'' (List.mem_cons_of_mem _ hm2)
   have hne : k ≠ b := fun e => hd.1 (List.mem_map.2 ⟨_,hm2,e⟩)
   exact ⟨E.mine hO h1,(hk k hne).trans h2,h3⟩
theorem HL.past (E : Env KT N0 M O R D) (h : HL M O N0 Ex w₀ l w) (k : Kept M O (fun _ => False) w w') (hs : N0 ≤ w'.heap.size) : HL M O N0 Ex w₀ l w' :=
 ⟨h.kept.trans E k (fun _ z => z.elim),hs,fun b o hm => ⟨k.mine _ (h.own b o hm).1,(k.block _ (h.own b o hm).1 id).trans (h.own b o hm).2.1,(h.own b o hm).2.2⟩,h.nodup⟩
end
theorem fillT {f : (Nat → Value) → Act} {a : Act} (h : f (fun i => a.tmps.getD i undef) = a) : ∃ x : Nat → Value,a = f x := ⟨_,h.symm⟩
section
variable {ι : Type} {P : Program} {R : ι → World → World → Prop} {D : ι → World → World → Array Event → Prop} {X : ι → Goroutine → World → Prop} {fn : FuncId} {Q : PostI ι} {a : Act} {w : World} {vs : ι} {KT : TypeId → Prop} {N0 : Nat} {M : World → Nat → Prop} {O : Nat → Prop} {Ex : Nat → Prop} {w₀ : World} {l : List (Nat × Obj)}
theorem run_range {P : Program} {t : TypeId} {s : ByteArray} (ht : P.underlying t = some .string) (w : World) : (Instr.range t (.string s)).run P w = .ok (.pointer (some ⟨w.heap.size,0,none⟩)) (w.alloc (.stringIter s 0)) := by
 simp [Instr.range,run_underlying ht,newObj,Sem.run]
theorem events_range {P : Program} {t : TypeId} {s : ByteArray} (ht : P.underlying t = some .string) (w : World) (es : Array Event) : (Instr.range t (.string s)).events P w es = es := by
 simp [Instr.range,run_underlying ht,newObj,underlying,ht]
 rfl
theorem run_getIter {P : Program} {s : ByteArray} {b pos : Nat} {w : World} (hb : w.heap[b]? = some (.stringIter s pos)) : (getObj b).run P w = .ok (.stringIter s pos) w := by simp [getObj,Sem.run,hb]
theorem events_getIter {P : Program} {s : ByteArray} {b pos : Nat} {w : World} (hb : w.heap[b]? = some (.stringIter s pos)) (es : Array Event) : (getObj b).events P w es = es.push ⟨.obj b,false,false⟩ := by
 unfold Sem.events
 simp only [getObj,Sem.runT,hb,Obj.isChan]
theorem run_setIter {P : Program} {s : ByteArray} {b pos : Nat} {w : World} (o : Obj) (hb : w.heap[b]? = some (.stringIter s pos)) : (setObj b o).run P w = .ok () { w with heap := w.heap.setIfInBounds b o } := by simp [setObj,Sem.run,hb]
theorem events_setIter {P : Program} {s : ByteArray} {b pos p' : Nat} {w : World} (hb : w.heap[b]? = some (.stringIter s pos)) (es : Array Event) : (setObj b (.stringIter s p')).events P w es = es.push ⟨.obj b,true,false⟩ := by
 unfold Sem.events
 simp only [setObj,Sem.runT,hb,Obj.isChan]
theorem run_next {P : Program} {t : TypeId} {s : ByteArray} {b pos : Nat} {w : World} (hb : w.heap[b]? = some (.stringIter s pos)) (hp : pos < s.size) :
  (Instr.next (.pointer (some ⟨b,0,none⟩)) true t).run P w = .ok (.tuple #[.bool true, .int .i64 pos, .int .i32 (Utf8.decode s pos).1]) { w with heap := w.heap.setIfInBounds b (.stringIter s (pos + (Utf8.decode s pos).2)) } := by
 simp [Instr.next,run_getIter hb,run_setIter _ hb,hp,goInt]
theorem events_next {P : Program} {t : TypeId} {s : ByteArray} {b pos : Nat} {w : World} (hb : w.heap[b]? = some (.stringIter s pos)) (hp : pos < s.size) (es : Array Event) :
  (Instr.next (.pointer (some ⟨b,0,none⟩)) true t).events P w es = (es.push ⟨.obj b,false,false⟩).push ⟨.obj b,true,false⟩ := by
 simp [Instr.next,run_getIter hb,events_getIter hb,run_setIter _ hb,events_setIter hb,hp,goInt]
theorem run_next_end {P : Program} {t : TypeId} {s : ByteArray} {b pos : Nat} {w : World} (hb : w.heap[b]? = some (.stringIter s pos)) (hp : ¬ pos < s.size) :
  (Instr.next (.pointer (some ⟨b,0,none⟩)) true t).run P w = .ok (.tuple #[.bool false]) w := by
 simp [Instr.next,run_getIter hb,hp]
theorem events_next_end {P : Program} {t : TypeId} {s : ByteArray} {b pos : Nat} {w : World} (hb : w.heap[b]? = some (.stringIter s pos)) (hp : ¬ pos < s.size) (es : Array Event) :
  (Instr.next (.pointer (some ⟨b,0,none⟩)) true t).events P w es = es.push ⟨.obj b,false,false⟩ := by
 simp [Instr.next,run_getIter hb,events_getIter hb,hp]
end
end
section
open Go.Conc Go.RowKit
section
variable {KT : TypeId → Prop} {N0 : Nat} {M : World → Nat → Prop} {O : Nat → Prop} {R : World → World → Prop} {D : World → World → Array Event → Prop} {Ex Ex' : Nat → Prop} {w₀ w w₁ w' : World} {l : List (Nat × Obj)}
theorem HL.over (E : Env KT N0 M O R D) (h : HL M O N0 Ex w₀ l w) (k : Kept M O Ex' w w') (hs : N0 ≤ w'.heap.size) (hl : ∀ b o,(b,o) ∈ l → ¬ Ex' b) (hx : ∀ b,Ex' b → Ex b ∨ w₀.heap.size ≤ b) : HL M O N0 Ex w₀ l w' :=
 ⟨h.kept.trans E k hx,hs,fun b o hm => ⟨k.mine _ (h.own b o hm).1,(k.block _ (h.own b o hm).1 (hl b o hm)).trans (h.own b o hm).2.1,(h.own b o hm).2.2⟩,h.nodup⟩
end
structure HX (K : Cfg) (Ex : Nat → Prop) (w₀ : World) (all : List Int) (Rb : Nat) (i : Ph) (l : List (Nat × Obj)) (w : World) : Prop where
 hl : HL (mineM K) (outM K) K.N0 Ex w₀ l w
 row : ∃ v tk rest en,tk ++ rest = all ∧ AtP rest en i ∧ HW K (exR Rb v) w Rb v v tk en w ∧ (∀ b o,(b,o) ∈ l → ¬ exR Rb v b) ∧ ∀ b,exR Rb v b → Ex b ∨ w₀.heap.size ≤ b
section
variable {N Pb : Nat} {Shun : Loc → Prop} {val : Value} {B : Nat} {Mine : Loc → Prop} {Ex : Nat → Prop} {w₀ w w₁ w' : World} {AnchW : Goroutine → World → Prop} {all : List Int} {Rb : Nat} {i : Ph} {l l' : List (Nat × Obj)} {b : Nat} {o o' : Obj}
theorem HX.early {K : Cfg} (h : HX K Ex w₀ all Rb i l w) : i.early := by
 obtain ⟨_,_,_,_,_,hat,_⟩ := h.row
 exact hat.early
variable [Go.ConcR.Payload] [Go.ConcX.Payload]
variable [Go.ConcX.Shy (Cfg.Wg (kcfg prog N Pb Shun val B Mine)) (Cfg.C (kcfg prog N Pb Shun val B Mine))]
theorem HX.env (F : Cfg.Fit (kcfg prog N Pb Shun val B Mine)) (h : HX (kcfg prog N Pb Shun val B Mine) Ex w₀ all Rb i l w) : Env KTs (N + 9) (mineM (kcfg prog N Pb Shun val B Mine)) (outM (kcfg prog N Pb Shun val B Mine)) (RMd (kcfg prog N Pb Shun val B Mine) i) (DMd (kcfg prog N Pb Shun val B Mine) i) := envP (K := kcfg prog N Pb Shun val B Mine) F h.early
theorem HX.rely (F : Cfg.Fit (kcfg prog N Pb Shun val B Mine)) (h : HX (kcfg prog N Pb Shun val B Mine) Ex w₀ all Rb i l w) (r : RMd (kcfg prog N Pb Shun val B Mine) i w w₁) : HX (kcfg prog N Pb Shun val B Mine) Ex w₀ all Rb i l w₁ := by
 have E := h.env F
 obtain ⟨v,tk,rest,en,h1,h2,h3,h4,h5⟩ := h.row
 exact ⟨h.hl.rely E r,v,tk,rest,en,h1,h2,(h3.relyE E r).rebase,h4,h5⟩
theorem HX.drop {K : Cfg} {x : Nat × Obj} (h : HX K Ex w₀ all Rb i (x :: l) w) : HX K Ex w₀ all Rb i l w := by
 obtain ⟨v,tk,rest,en,h1,h2,h3,h4,h5⟩ := h.row
 exact ⟨h.hl.drop,v,tk,rest,en,h1,h2,h3,fun b o hm => h4 b o (List.mem_cons_of_mem _ hm),h5⟩
theorem HW.still {K : Cfg} {v : Value} {tk : List Int} {en : Bool} {Ex' : Nat → Prop} (h : HW K Ex' w₀ Rb v v tk en w) (hb : ∀ b,exR Rb v b → w'.heap[b]? = w.heap[b]?) (hm : ∀ b,mineM K w b → mineM K w' b) (hs : K.N0 ≤ w'.heap.size) : HW K (exR Rb v) w' Rb v v tk en w' :=
 ⟨(hb Rb (.inl rfl)).trans h.rb,hm _ h.mr, .inl (.inl rfl),⟨(h.ro.same (w' := w') fun k hk => ⟨hb k (.inr hk),hm _ (h.ro.own k hk).1⟩).row,fun k hk => ⟨hm _ (h.ro.own k hk).1, .inl (.inr hk)⟩,h.ro.nil⟩,hs,Kept.refl _⟩
theorem HW.lt {K : Cfg} (F : K.Fit) {v : Value} {tk : List Int} {en : Bool} {Ex' : Nat → Prop} (h : HW K Ex' w₀ Rb v v tk en w) (b : Nat) (hb : exR Rb v b) : b < w.heap.size := by
 rcases hb with rfl | hb
 ·
  exact h.mr.1
 ·
  exact (h.ro.own b hb).1.1
theorem HX.grown (F : Cfg.Fit (kcfg prog N Pb Shun val B Mine)) (h : HX (kcfg prog N Pb Shun val B Mine) Ex w₀ all Rb i l w) (hO : Own KTs (mineM (kcfg prog N Pb Shun val B Mine)) w (w.alloc o)) : HX (kcfg prog N Pb Shun val B Mine) Ex w₀ all Rb i ((w.heap.size,o) :: l) (w.alloc o) := by
 have E := h.env F
 obtain ⟨v,tk,rest,en,h1,h2,h3,h4,h5⟩ := h.row
 refine ⟨h.hl.grown E hO,v,tk,rest,en,h1,h2,h3.still (fun b hb => Below.heap_alloc _ _ _ (h3.lt F b hb)) (fun b hb => E.mine hO hb) (by simp [World.size_alloc]; have := h.hl.size; omega),fun b o' hm => ?_,h5⟩
 rcases List.mem_cons.1 hm with e | hm2
 ·
  cases e
  exact fun hb => absurd (h3.lt F _ hb) (Nat.lt_irrefl _)
 ·
  exact h4 b o' hm2
theorem HX.turn (F : Cfg.Fit (kcfg prog N Pb Shun val B Mine)) (h : HX (kcfg prog N Pb Shun val B Mine) Ex w₀ all Rb i ((b,o) :: l) w) (hO : Own KTs (mineM (kcfg prog N Pb Shun val B Mine)) w w') (hb : w'.heap[b]? = some o') (hk : ∀ k,k ≠ b → w'.heap[k]? = w.heap[k]?) : HX (kcfg prog N Pb Shun val B Mine) Ex w₀ all Rb i ((b,o') :: l) w' := by
 have E := h.env F
 obtain ⟨v,tk,rest,en,h1,h2,h3,h4,h5⟩ := h.row
 refine ⟨h.hl.turn E hO hb hk,v,tk,rest,en,h1,h2,h3.still (fun k hk' => hk k fun e => h4 b o (List.mem_cons_self ..) (e ▸ hk')) (fun b hb => E.mine hO hb) (Nat.le_trans h.hl.size hO.grow),fun k o'' hm => ?_,h5⟩
 rcases List.mem_cons.1 hm with e | hm2
 ·
  cases e
  exact h4 b o (List.mem_cons_self ..)
 ·
  exact h4 k o'' (List.mem_cons_of_mem _ hm2)
theorem HX.past (F : Cfg.Fit (kcfg prog N Pb Shun val B Mine)) (h : HX (kcfg prog N Pb Shun val B Mine) Ex w₀ all Rb i l w) (k : Kept (mineM (kcfg prog N Pb Shun val B Mine)) (outM (kcfg prog N Pb Shun val B Mine)) (fun _ => False) w w') (hs : N + 9 ≤ w'.heap.size) : HX (kcfg prog N Pb Shun val B Mine) Ex w₀ all Rb i l w' := by
 have E := h.env F
 obtain ⟨v,tk,rest,en,h1,h2,h3,h4,h5⟩ := h.row
 refine ⟨h.hl.past E k hs,v,tk,rest,en,h1,h2,h3.still (fun b hb => k.block b ?_ id) (fun b hb => k.mine b hb) hs,h4,h5⟩
 rcases hb with rfl | hb
 ·
  exact h3.mr
 ·
  exact (h3.ro.own b hb).1
theorem HX.at (F : Cfg.Fit (kcfg prog N Pb Shun val B Mine)) (hn : all.length ≤ 1000000) (h : HX (kcfg prog N Pb Shun val B Mine) Ex w₀ all Rb i l w) (place : Nat) :
  CallsI prog (XM (kcfg prog N Pb Shun val B Mine) AnchW) 146 #[.pointer (some ⟨Rb,0,none⟩), .int .i64 (place : Int)] i w (fun i' x w' => x = .int .i32 (all[place]?.getD (-1)) ∧ HX (kcfg prog N Pb Shun val B Mine) Ex w₀ all Rb i' l w') := by
 have E := h.env F
 obtain ⟨v,tk,rest,en,h1,h2,h3,h4,h5⟩ := h.row
 obtain ⟨f₀,c,hf,hn',hb,hw⟩ := at_x (AnchW := AnchW) F all place h1 hn h3 h2
 refine ⟨f₀,c,hf,hn',hb,wpI_mono hw ?_⟩
 rintro i' e a' w' ⟨q1,q2,x,q3,rfl,v',tk',rest',en',k1,k2,k3⟩
 have hx : ∀ b,exR Rb v' b → exR Rb v b ∨ w.heap.size ≤ b := k3.exs
 refine ⟨q1,q2,_,q3,rfl,h.hl.over E k3.old k3.size h4 h5,v',tk',rest',en',k1,k2,k3.rebase,fun b o hm hb => ?_,fun b hb => ?_⟩
 ·
  rcases hx b hb with z | z
  ·
   exact h4 b o hm z
  ·
   have := E.lt (h.hl.own b o hm).1; omega
 ·
  rcases hx b hb with z | z
  ·
   exact h5 b z
  ·
   exact .inr (Nat.le_trans h.hl.kept.grow z)
theorem HX.text (F : Cfg.Fit (kcfg prog N Pb Shun val B Mine)) (hg : ∀ r ∈ all,Good r) (hn : 4 * all.length ≤ 1000000) (h : HX (kcfg prog N Pb Shun val B Mine) Ex w₀ all Rb i l w) (fr to : Nat) (hto : to ≤ 1000000) :
  CallsI prog (XM (kcfg prog N Pb Shun val B Mine) AnchW) 92 #[.pointer (some ⟨Rb,0,none⟩), .int .i64 (fr : Int), .int .i64 (to : Int)] i w (fun i' x w' => x = .string ⟨(zf4 ((all.drop fr).take (to - fr))).toArray⟩ ∧ HX (kcfg prog N Pb Shun val B Mine) Ex w₀ all Rb i' l w') := by
 have E := h.env F
 obtain ⟨v,tk,rest,en,h1,h2,h3,h4,h5⟩ := h.row
 obtain ⟨f₀,c,hf,hn',hb,hw⟩ := text_x (AnchW := AnchW) F all fr to hto h1 hg hn h3 h2
 refine ⟨f₀,c,hf,hn',hb,wpI_mono hw ?_⟩
 rintro i' e a' w' ⟨q1,q2,x,q3,rfl,v',tk',rest',en',k1,k2,k3⟩
 have hx : ∀ b,exR Rb v' b → exR Rb v b ∨ w.heap.size ≤ b := k3.exs
 refine ⟨q1,q2,_,q3,rfl,h.hl.over E k3.old k3.size h4 h5,v',tk',rest',en',k1,k2,k3.rebase,fun b o hm hb => ?_,fun b hb => ?_⟩
 ·
  rcases hx b hb with z | z
  ·
   exact h4 b o hm z
  ·
   have := E.lt (h.hl.own b o hm).1; omega
 ·
  rcases hx b hb with z | z
  ·
   exact h5 b z
  ·
   exact .inr (Nat.le_trans h.hl.kept.grow z)
end
end
section
open Go.Conc Go.RowKit
def RowIn (e : TypeId) (sz : Nat) (v : Value) (n : Nat) (xs : List Value) (rl : List (Nat × Obj)) : Prop :=
 xs.length = n * sz ∧ ((v = .slice none 0 0 ∧ n = 0 ∧ rl = []) ∨
  ∃ g cap cur,v = .slice (some ⟨g,0,none⟩) n cap ∧ rl = [(g, .cells cur e)] ∧ 0 < n ∧ n ≤ cap ∧ cap ≤ maxLen ∧ cur.size = cap * sz ∧ cur.toList.take (n * sz) = xs)
def RowIn0 (e : TypeId) (sz : Nat) (v : Value) (n : Nat) (xs : List Value) (rl : List (Nat × Obj)) : Prop :=
 xs.length = n * sz ∧ ((v = .slice none 0 0 ∧ n = 0 ∧ rl = []) ∨
  ∃ g cap cur,v = .slice (some ⟨g,0,none⟩) n cap ∧ rl = [(g, .cells cur e)] ∧ n ≤ cap ∧ cap ≤ maxLen ∧ cur.size = cap * sz ∧ cur.toList.take (n * sz) = xs)
theorem RowIn.zero {e : TypeId} {sz : Nat} {v : Value} {n : Nat} {xs : List Value} {rl : List (Nat × Obj)} (h : RowIn e sz v n xs rl) : RowIn0 e sz v n xs rl :=
 ⟨h.1,h.2.imp id fun ⟨g,cap,cur,h1,h2,_,h4⟩ => ⟨g,cap,cur,h1,h2,h4⟩⟩
theorem RowIn.nil (e : TypeId) (sz : Nat) : RowIn e sz (.slice none 0 0) 0 [] [] := ⟨by simp, .inl ⟨rfl,rfl,rfl⟩⟩
section
variable {KT : TypeId → Prop} {N0 : Nat} {M : World → Nat → Prop} {O : Nat → Prop} {R : World → World → Prop} {D : World → World → Array Event → Prop} {Ex : Nat → Prop} {w₀ w w' : World} {l rl : List (Nat × Obj)} {e : TypeId} {sz : Nat} {v : Value} {n : Nat} {xs news : List Value}
theorem RowIn0.owns (h : RowIn0 e sz v n xs rl) (hl : HL M O N0 Ex w₀ (rl ++ l) w) : w.ownsRow 0 e sz v n xs := by
 refine ⟨h.1,?_⟩
 rcases h.2 with ⟨h1,h2,_⟩ | ⟨g,cap,cur,h1,h2,h4,h5,h6,h7⟩
 ·
  exact .inl ⟨h1,h2⟩
 ·
  exact .inr ⟨g,cap,cur,h1,Nat.zero_le _,(hl.own g _ (by rw [h2]; simp)).2.1,h4,h5,h6,h7⟩
theorem RowIn0.block (h : RowIn0 e sz v n xs rl) {k : Nat} (hk : v.ownBlock = some k) : ∃ cur,rl = [(k, .cells cur e)] := by
 rcases h.2 with ⟨h1,_,_⟩ | ⟨g,cap,cur,h1,h2,_⟩
 ·
  rw [h1] at hk; cases hk
 ·
  rw [h1] at hk; cases hk; exact ⟨cur,h2⟩
theorem HL.right (h : HL M O N0 Ex w₀ (rl ++ l) w) : HL M O N0 Ex w₀ l w := ⟨h.kept,h.size,fun b o hm => h.own b o (List.mem_append_right _ hm),by have := h.nodup; rw [List.map_append] at this; exact (List.nodup_append.1 this).2.1⟩
theorem HL.apart_of (h : HL M O N0 Ex w₀ (rl ++ l) w) {k : Nat} {o o' : Obj} (h1 : (k,o) ∈ rl) (h2 : (k,o') ∈ l) : False := by
 have hn := h.nodup
 rw [List.map_append] at hn
 exact (List.nodup_append.1 hn).2.2 k (List.mem_map.2 ⟨_,h1,rfl⟩) k (List.mem_map.2 ⟨_,h2,rfl⟩) rfl
theorem HL.append0 {P : Program} (E : Env KT N0 M O R D) (he : ¬ KT e) (h : HL M O N0 Ex w₀ (rl ++ l) w) (hr : RowIn0 e sz v n xs rl) (t ty : TypeId) (z : Value) (bytes : Nat) (ht : P.underlying t = some (.slice e)) (hi : (P.info? e).map (fun i => (i.zero,i.size,i.bytes)) = some (some z,sz,bytes)) (hz : z.cells.size = sz) (hsz : 0 < sz)
  (a : Addr) (m c : Nat) (hm : 0 < m) (hl : news.length = m * sz) (hnews : ∀ j u,news[j]? = some u → w.cell? (a.add j) = some u) (ha : M w a.block) (h1 : ∀ u ∈ news,u.oneCell' = true) (hn : n + m ≤ maxLen) (hb : (n + m) * bytes ≤ 140737488355328) :
  ∃ v' w' rl',(Builtin.append_ #[t,t] ty #[v, .slice (some a) m c]).run P w = .ok v' w' ∧ HL M O N0 Ex w₀ (rl' ++ l) w' ∧ RowIn e sz v' (n + m) (xs ++ news) rl' ∧ Own KT M w w' ∧ (∀ b,b < w.heap.size → v.ownBlock ≠ some b → w'.heap[b]? = w.heap[b]?) ∧
   (∀ k,v'.ownBlock = some k → v.ownBlock = some k ∨ w.heap.size ≤ k) ∧
   (∀ ev ∈ (Builtin.append_ #[t,t] ty #[v, .slice (some a) m c]).events P w #[],EvO (M w') ev) ∧ ∀ ev ∈ (Builtin.append_ #[t,t] ty #[v, .slice (some a) m c]).events P w #[], ∀ mk,ev.loc = .mark mk → Conc.Neutral mk := by
 obtain ⟨i0,hi,hz0,hz1,hz2⟩ := info_parts hi
 have hown := hr.owns h
 obtain ⟨v',w',hrun,ho,hg,hnil,hat⟩ := run_append_own_at (P := P) w 0 t ty e i0 z sz bytes ht hi hz0 hz1 hz2 hz hsz v n xs hown a m c news hl hnews h1 hn hb (Nat.zero_le _)
 have hsh := append_shape (P := P) 0 t ty e i0 z sz bytes ht hi hz0 hz1 hz2 v n xs hown a m c news hl hnews h1 hn hb hrun
 have hev := events_append_where (P := P) w 0 t ty e i0 z sz bytes ht hi hz0 hz1 hz2 v n xs hown a m c news hl hnews h1 hn hb
 have hv : ∀ k,v.ownBlock = some k → M w k ∧ (Ex k ∨ w₀.heap.size ≤ k) ∧ ∃ cur,w.heap[k]? = some (.cells cur e) := by
  intro k hk
  obtain ⟨cur,hrl⟩ := hr.block hk
  obtain ⟨z1,z2,z3⟩ := h.own k _ (by rw [hrl]; simp : (k,Obj.cells cur e) ∈ rl ++ l)
  exact ⟨z1,z3,cur,z2⟩
 have hO : Own KT M w w' := by
  rcases hsh with rfl | ⟨k,cs,hk,rfl⟩ | ⟨cs,rfl⟩
  ·
   exact Own.refl _
  ·
   obtain ⟨z1,_,cur,hcur⟩ := hv k hk
   exact Own.setRow hcur z1 he
  ·
   have := Own.alloc (KT := KT) (M := M) (w := w.drew) (cs := cs) (t := e) he
   exact ⟨this.tape,this.os,this.output,this.grow,fun b hb hm => heap_alloc_old w.drew _ b hb,fun b o' hh hk => (this.kt b o' hh hk)⟩
 have hblk : ∀ b,b < w.heap.size → v.ownBlock ≠ some b → w'.heap[b]? = w.heap[b]? := fun b hb hx => hg.block b hb (fun e => hx e.symm)
 have hwh : ∀ k,v'.ownBlock = some k → v.ownBlock = some k ∨ w.heap.size ≤ k := by
  intro k hk
  rcases hat with hat | hat
  ·
   exact .inl (hat ▸ hk)
  ·
   rw [hat] at hk; cases hk; exact .inr (Nat.le_refl _)
 have hne : v' ≠ .slice Option.none 0 0 := fun e => by have := (hnil.1 e).2; omega
 obtain ⟨hlen,hrow⟩ := ho
 rcases hrow with ⟨e,_⟩ | ⟨g,cap,cur,rfl,_,hcur,hc1,hc2,hc3,hc4⟩
 ·
  exact absurd e hne
 have hgl : ∀ o,(g,o) ∈ l → False := by
  intro o ho
  rcases hwh g rfl with z | z
  ·
   obtain ⟨cur',hrl⟩ := hr.block z
   exact h.apart_of (k := g) (o := .cells cur' e) (by rw [hrl]; simp) ho
  ·
   have := E.lt (h.own g o (List.mem_append_right _ ho)).1
   omega
 have hMg : M w' g := by
  rcases hwh g rfl with z | z
  ·
   exact E.mine hO (hv g z).1
  ·
   exact E.new h.size hO z (Array.getElem?_eq_some_iff.1 hcur).1
 have hold : ∀ b o,(b,o) ∈ l → v.ownBlock ≠ some b := by
  intro b o hm hk
  obtain ⟨cur',hrl⟩ := hr.block hk
  exact h.apart_of (k := b) (o := .cells cur' e) (by rw [hrl]; simp) hm
 refine ⟨_,w', [(g, .cells cur e)],hrun,⟨h.kept.own E hO fun b hb' hx => hblk b (E.lt (h.kept.mine b hb')) fun hk => ?_,Nat.le_trans h.size hO.grow,fun b o hm => ?_,?_⟩,⟨hlen, .inr ⟨g,cap,cur,rfl,rfl,by omega,hc1,hc2,hc3,hc4⟩⟩,hO,hblk,hwh,fun ev hev' => ?_,fun ev hev' mk hmk => ?_⟩
 ·
  rcases (hv b hk).2.1 with z | z
  ·
   exact hx z
  ·
   have := E.lt hb'; omega
 ·
  rcases List.mem_append.1 hm with z | z
  ·
   rw [List.mem_singleton] at z
   cases z
   refine ⟨hMg,hcur,?_⟩
   rcases hwh g rfl with z | z
   ·
    exact (hv g z).2.1
   ·
    exact .inr (Nat.le_trans h.kept.grow z)
  ·
   obtain ⟨z1,z2,z3⟩ := h.own b o (List.mem_append_right _ z)
   exact ⟨E.mine hO z1,(hblk b (E.lt z1) (hold b o z)).trans z2,z3⟩
 ·
  have hn2 := h.right.nodup
  refine List.nodup_cons.2 ⟨fun hm => ?_,hn2⟩
  obtain ⟨q,hq,e'⟩ := List.mem_map.1 hm
  have e2 : q.1 = g := e'
  exact hgl q.2 (by rw [← e2]; exact hq)
 ·
  rcases hev ev hev' with ⟨ad,z1,z2⟩ | ⟨mk,rfl,hmk⟩
  ·
   refine .inl ⟨ad,z1,E.mine hO ?_⟩
   rcases z2 with ⟨_,z2⟩ | z2
   ·
    rw [z2]; exact ha
   ·
    exact (hv _ z2.symm).1
  ·
   obtain rfl : mk = .noRoom := hmk
   exact .inr (.inr ⟨by simp [MemAct.ofEvent,MemAct.touch?],by simp,by simp,by simp [MemAct.ofEvent]⟩)
 ·
  rcases hev ev hev' with ⟨ad,z1,_⟩ | ⟨mk',rfl,hmk'⟩
  ·
   rw [z1] at hmk; cases hmk
  ·
   cases hmk; exact hmk'
end
end
end Go.Proofs.YtgcaionclkbehaaGreatDoor
