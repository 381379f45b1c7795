import Derived.Test.YtgcaionclkbehaaGreatDoorWrite
set_option linter.all false
set_option maxRecDepth 100000
set_option maxHeartbeats 2000000
namespace Go.Proofs.YtgcaionclkbehaaGreatDoor
open Tryz
section
open Go.Conc Go.RowKit
section
variable {ι : Type} {R : ι → World → World → Prop} {D : ι → World → World → Array Event → Prop} {X : ι → Goroutine → World → Prop} {i : ι} {M : World → Nat → Prop} {O : Nat → Prop} {N0 : Nat} {Ex : Nat → Prop} {w₀ w w₁ : World} {Bb : Nat} {p u v : Value} {n : Nat} {xs : List Value}
variable {r : Int}
theorem HM.slice (h : HM M O N0 Ex w₀ Bb p u v n xs w) : ∃ x c,v = .slice x n c := by
 rcases h.row.2 with ⟨rfl,rfl⟩ | ⟨g,cap,cur,rfl,_⟩
 iterate 2
  ·
   exact ⟨_,_,rfl⟩
theorem opsI_entry {ι : Type} {P : Program} {main : Bool} {R : ι → World → World → Prop} {D : ι → World → World → Array Event → Prop} {X : ι → Goroutine → World → Prop} {fn : FuncId} {Q : PostI ι} {a : Act} {w : World} {vs : ι} (C : ClosedI P main R D X) (T : ∀ i,Terms (R i) (D i))
  {ops : Array Oper} {i : Nat} {rest : List Nat} {o : Oper} {f : FuncId} {f₀ : Func} {as₀ : Array Operand} {ats : Array TypeId} {e : Array Value → Sem Value} {x : Value} (ho : ops[i]? = some o) (hw : Region.wanted o (yielded ops a.tmps) = true) (hop : o.op = .call { callee := .value (.func f),args := as₀,argTypes := ats })
  (hf : P.funcs[f]? = some f₀) (hname : (f₀.name == "runtime.NumGoroutine") = false) (hb : f₀.body.isNone = true) (hn : Extern.findNext f₀ = none) (he : Extern.find f₀ = some e) {args' : Array Value} (hargs : as₀.map a.eval = args') (hrun : ∀ w, (e args').run P w = .ok x w) (hev : ∀ w es, (e args').events P w es = es)
  (h : OpsI X fn ops rest vs Q (a.put o.dst x) w) : OpsI X fn ops (i :: rest) vs Q a w := fun b k cs hb' hk hc => C.step rfl fun w₁ h₁ => by
 subst hargs
 rw [stepG_entry ho hw hk hop hf hname hb hn he (hrun w₁) (evs := #[]) (by rw [hev]; rfl) (by simp)]
 exact ⟨(T vs).idle _,C.rely (h b k cs hb' hk hc) h₁⟩
theorem appendRune_x (C : ClosedI prog true R D X) (T : ∀ i,Terms (R i) (D i)) (E : Env KTs N0 M O (R i) (D i)) (hF : HM M O N0 Ex w₀ Bb p u v n xs w) (hg : Good r) (hn : n ≤ 1000000) :
  CallsI prog X 275 #[v, .int .i32 r] i w (fun i' x w' => i' = i ∧ HM M O N0 Ex w₀ Bb p u x (n + (Lib.runeCells r).length) (xs ++ Lib.runeCells r) w') := by
 have evp : ∀ (w : World) (es : Array Event) (a : Addr) (m : Mode) (x : Option Addr),(store a (.pointer x) m).events prog w es = storedEv prog w es a (.pointer x) m := fun w es a m x => events_store prog w es a _ m rfl
 have evl : ∀ (w : World) (es : Array Event) (a : Addr) (m : Mode) (x : Option Addr) (l c : Nat),(store a (.slice x l c) m).events prog w es = storedEv prog w es a (.slice x l c) m := fun w es a m x l c => events_store prog w es a _ m rfl
 have hg0 : 0 ≤ r ∧ r ≤ 1114111 := by rcases hg with h | h <;> omega
 have hu : IntKind.u32.wrap r = r := by rw [IntKind.wrap_u32]; omega
 refine zc2 func275 (by rfl) rfl ?_
 simp only [ntmps275,List.size_toArray,List.length_cons,List.length_nil,Nat.reduceAdd,Nat.reduceSub,Array.replicate_succ,Array.replicate_zero,List.push_toArray,List.append_toArray,List.nil_append,List.cons_append]
 refine za5 C T ?_
 refine za2 C T ?_
 simp only [szR,Nat.reduceAdd]
 refine za0 C rfl (by rfl) fun _ hR Kx hKx => ?_
 replace hF := HM.rely E hF hR
 clear hR
 go_simp
 try (unfold stored; go_simp)
 refine hKx _ _ ⟨?_,?_⟩
 ·
  co_quiet (T _)
 clear hKx Kx
 try walk_nrm
 refine za3 C T ?_
 show wpI _ _ _ _ _ _ _
 iterate 2
  refine za5 C T ?_
 refine za2 C T ?_
 simp only [szR,Nat.reduceAdd]
 iterate 3
  refine za0 C rfl (by rfl) fun _ hR Kx hKx => ?_
  replace hF := HM.rely E hF hR
  clear hR
  go_simp
  try (unfold stored; go_simp)
  refine hKx _ _ ⟨?_,?_⟩
  ·
   co_quiet (T _)
  clear hKx Kx
  try walk_nrm
 refine za3 C T ?_
 show wpI _ _ _ _ _ _ _
 by_cases h1 : r ≤ 127
 ·
  have hb1 : decide (r ≤ 127) = true := decide_eq_true h1
  have hu8 : IntKind.u8.wrap r = r := by rw [IntKind.wrap_u8]; omega
  try simp only [hb1]
  refine zc0 C T (t := true) rfl ?_
  simp only [if_true,if_false,reduceIte,Bool.false_eq_true]
  refine za5 C T ?_
  refine za2 C T ?_
  simp only [szR,Nat.reduceAdd]
  iterate 3
   refine za0 C rfl (by rfl) fun _ hR Kx hKx => ?_
   replace hF := HM.rely E hF hR
   clear hR
   go_simp
   try (unfold stored; go_simp)
   refine hKx _ _ ⟨?_,?_⟩
   ·
    co_quiet (T _)
   clear hKx Kx
   try walk_nrm
  have hrc : Lib.runeCells r = [.int .u8 r] := by simp [Lib.runeCells,Lib.encodeRuneZ_one hg0.1 h1]
  refine za0 C rfl (by rfl) fun _ hR Kx hKx => ?_
  replace hF := HM.rely E hF hR
  clear hR
  go_simp
  refine hKx _ _ ⟨?_,?_⟩
  ·
   refine dm_alloc E (by simp [KTs]) hF.size ?_
   co_evs (skip)
  clear hKx Kx
  try walk_nrm
  replace hF := hF.built E [.int .u8 r]
  refine za0 C rfl (by rfl) fun _ hR Kx hKx => ?_
  replace hF := HA.rely E hF hR
  clear hR
  obtain ⟨v₂,w₂,hrun,hF₂,hD,hne⟩ := append_m E hF (by simp [Value.oneCell']) (by simp; omega) 55
  refine uponK_append (Operand.tmp 8) (Operand.tmp 11) 55 rfl rfl rfl hrun (hKx _ _ ⟨?_,?_⟩)
  ·
   have hsn := seen_eq (P := prog) (fn := 275) (by kernel_rfl) (fun e he f h => by cases hne e he _ h)
   unfold listed
   rw [events_append_op (Operand.tmp 8) (Operand.tmp 11) 55 rfl rfl rfl]
   exact (congrArg (D i _ _) hsn).mpr hD
  clear hKx Kx hrun hD hne
  replace hF := hF₂
  try walk_nrm
  refine za0 C rfl (by rfl) fun _ hR Kx hKx => ?_
  replace hF := HM.rely E hF hR
  clear hR
  go_simp
  try (unfold stored; go_simp)
  refine hKx _ _ ⟨?_,?_⟩
  ·
   co_quiet (T _)
  clear hKx Kx
  try walk_nrm
  refine za3 C T ?_
  show wpI _ _ _ _ _ _ _
  refine zc3 C T ?_
  exact ⟨.inr rfl,rfl,_,resultsC_tmp (t := 4) (by rfl) _,rfl,by rw [hrc]; exact hF⟩
 ·
  have hb1 : decide (r ≤ 127) = false := decide_eq_false h1
  try simp only [hb1]
  refine zc0 C T (t := false) rfl ?_
  simp only [if_true,if_false,reduceIte,Bool.false_eq_true]
  refine ze0 C T ?_
  show wpI _ _ _ _ _ _ _
  refine za5 C T ?_
  refine za2 C T ?_
  simp only [szR,Nat.reduceAdd]
  iterate 2
   refine za0 C rfl (by rfl) fun _ hR Kx hKx => ?_
   replace hF := HM.rely E hF hR
   clear hR
   go_simp
   try (unfold stored; go_simp)
   refine hKx _ _ ⟨?_,?_⟩
   ·
    co_quiet (T _)
   clear hKx Kx
   try walk_nrm
  refine zd6 C T rfl (by rfl) rfl rfl (by simp [Act.eval]) rfl (nonAscii_x C T E hF hg (by omega) hn) ?_
  rintro _ _ _ ⟨rfl,hF⟩
  try walk_nrm
  refine za0 C rfl (by rfl) fun _ hR Kx hKx => ?_
  replace hF := HM.rely E hF hR
  clear hR
  go_simp
  try (unfold stored; go_simp)
  refine hKx _ _ ⟨?_,?_⟩
  ·
   co_quiet (T _)
  clear hKx Kx
  try walk_nrm
  refine za3 C T ?_
  show wpI _ _ _ _ _ _ _
  refine zc3 C T ?_
  exact ⟨.inr rfl,rfl,_,resultsC_tmp (t := 4) (by rfl) _,rfl,hF⟩
theorem HM.setO (E : Env KTs N0 M O (R i) (D i)) (h : HM M O N0 Ex w₀ Bb p u v n xs w) (o : Nat) (x p' u' : Value) (he : (#[p,u] : Array Value).setIfInBounds o x = #[p',u']) : HM M O N0 Ex w₀ Bb p' u' v n xs (w.setCell ⟨Bb,o,none⟩ x) := by
 have ow := h.ownSet o x
 refine ⟨(zd3 h.bd _).trans (by rw [he]),E.mine ow h.mb,h.exb,h.ro.same fun k hk => ⟨HC.off' w _ (h.ro.ne h.bd (by decide) hk),E.mine ow (h.ro.own k hk).1⟩,by simpa [World.setCell] using h.size,h.old.own E ow fun b hb hx => HC.off' w _ ?_⟩
 rintro rfl
 rcases h.exb with z | z
 ·
  exact hx z
 ·
  have := E.lt hb; omega
theorem HM.setP (E : Env KTs N0 M O (R i) (D i)) (h : HM M O N0 Ex w₀ Bb p u v n xs w) (p' : Value) : HM M O N0 Ex w₀ Bb p' u v n xs (w.setCell ⟨Bb,0,none⟩ p') := h.setO E 0 p' p' u rfl
theorem HM.setV (E : Env KTs N0 M O (R i) (D i)) (h : HM M O N0 Ex w₀ Bb p u v n xs w) (u' : Value) : HM M O N0 Ex w₀ Bb p u' v n xs (w.setCell ⟨Bb,1,none⟩ u') := h.setO E 1 u' p u' rfl
theorem eqs (a : Addr) (w : World) (es : Array Event) : (binOp .eql 117 (.pointer none) (.pointer none)).events prog w es = es ∧ (binOp .eql 117 (.pointer (some a)) (.pointer none)).events prog w es = es
  ∧ (binOp .neq 117 (.pointer (some a)) (.pointer (some a))).run prog w = .ok (.bool false) w ∧ (binOp .neq 117 (.pointer (some a)) (.pointer (some a))).events prog w es = es := by
 obtain ⟨j,hj,hj2⟩ := Option.map_eq_some_iff.1 (show (prog.info? 119).map (·.size) = some 2 by kernel_rfl)
 have e1 : ∀ x y : Value,binOp .eql 117 x y = binOp .eql 117 x y := fun _ _ => rfl
 refine ⟨?_,?_,?_,?_⟩
 ·
  rw [show binOp .eql 117 (Value.pointer none) (Value.pointer none) = (do pure (.bool (← Op.equal 117 (.pointer none) (.pointer none)))) from rfl,show Op.equal 117 (Value.pointer none) (Value.pointer none) = Op.equalIn (9999 + 1) 117 (.pointer none) (.pointer none) from rfl,Op.equalIn]
  simp [run_underlying underlying117,underlying,underlying117]
 ·
  rw [show binOp .eql 117 (Value.pointer (some a)) (Value.pointer none) = (do pure (.bool (← Op.equal 117 (.pointer (some a)) (.pointer none)))) from rfl,show Op.equal 117 (Value.pointer (some a)) (Value.pointer none) = Op.equalIn (9999 + 1) 117 (.pointer (some a)) (.pointer none) from rfl,Op.equalIn]
  simp [run_underlying underlying117,underlying,underlying117]
 iterate 2
  ·
   rw [show binOp .neq 117 (Value.pointer (some a)) (Value.pointer (some a)) = (do pure (.bool (!(← Op.equal 117 (.pointer (some a)) (.pointer (some a)))))) from rfl,show Op.equal 117 (Value.pointer (some a)) (Value.pointer (some a)) = Op.equalIn (9999 + 1) 117 (.pointer (some a)) (.pointer (some a)) from rfl,Op.equalIn]
   simp [run_underlying underlying117,sizeOf,typeInfo,hj,hj2,sameAddr]
theorem from_unsafe {w : World} {b : Nat} {cs : Array Value} (h : w.heap[b]? = some (.cells cs 119)) (hs : cs.size = 2) : (convert 244 117 (.pointer (some ⟨b,0,none⟩))).run prog w = .ok (.pointer (some ⟨b,0,none⟩)) w ∧ ∀ es,(convert 244 117 (.pointer (some ⟨b,0,none⟩))).events prog w es = es := by
 obtain ⟨j,hj,_⟩ := Option.map_eq_some_iff.1 (show (prog.info? 119).map (·.size) = some 2 by kernel_rfl)
 have hsh : w.shape? b = some (119,2) := by simp [World.shape?,h,hs]
 have hl : liesAt prog prog.depth 119 (2 / prog.cellsOf 119) 0 119 1 = true := by kernel_rfl
 constructor
 ·
  exact Lib.run_from_unsafe w ⟨b,0,none⟩ underlying244 underlying117 hj hsh hl
 ·
  intro es
  simp [convert,run_underlying underlying244,run_underlying underlying117,Conv.unsafePointer,Conv.seenAt,viewAt,hsh,variablesAt,hl,sizeOf,typeInfo,hj]
theorem copyCheck_x (C : ClosedI prog true R D X) (T : ∀ i,Terms (R i) (D i)) (E : Env KTs N0 M O (R i) (D i)) (hF : HM M O N0 Ex w₀ Bb p u v n xs w) (hp : p = .pointer none ∨ p = .pointer (some ⟨Bb,0,none⟩)) :
  CallsI prog X 261 #[.pointer (some ⟨Bb,0,none⟩)] i w (fun i' _ w' => i' = i ∧ HM M O N0 Ex w₀ Bb (.pointer (some ⟨Bb,0,none⟩)) u v n xs w') := by
 have evp : ∀ (w : World) (es : Array Event) (a : Addr) (m : Mode) (x : Option Addr),(store a (.pointer x) m).events prog w es = storedEv prog w es a (.pointer x) m := fun w es a m x => events_store prog w es a _ m rfl
 have evl : ∀ (w : World) (es : Array Event) (a : Addr) (m : Mode) (x : Option Addr) (l c : Nat),(store a (.slice x l c) m).events prog w es = storedEv prog w es a (.slice x l c) m := fun w es a m x l c => events_store prog w es a _ m rfl
 have q1 := fun w es => (eqs ⟨Bb,0,none⟩ w es).1
 have q2 := fun w es => (eqs ⟨Bb,0,none⟩ w es).2.1
 have q3 := fun w => (eqs ⟨Bb,0,none⟩ w #[]).2.2.1
 have q4 := fun w es => (eqs ⟨Bb,0,none⟩ w es).2.2.2
 refine zc2 func261 (by rfl) rfl ?_
 simp only [ntmps261,List.size_toArray,List.length_cons,List.length_nil,Nat.reduceAdd,Nat.reduceSub,Array.replicate_succ,Array.replicate_zero,List.push_toArray,List.append_toArray,List.nil_append,List.cons_append]
 rcases hp with rfl | rfl
 ·
  refine za5 C T ?_
  refine za2 C T ?_
  simp only [szR,Nat.reduceAdd]
  refine za0 C rfl (by rfl) fun _ hR Kx hKx => ?_
  replace hF := HM.rely E hF hR
  clear hR
  go_simp
  try (unfold stored; go_simp)
  refine hKx _ _ ⟨?_,?_⟩
  ·
   co_quiet (T _)
  iterate 2
   clear hKx Kx
   try walk_nrm
   refine za0 C rfl (by rfl) fun _ hR Kx hKx => ?_
   replace hF := HM.rely E hF hR
   clear hR
   go_simp
   try (unfold stored; go_simp)
   refine hKx _ _ ⟨?_,?_⟩
   ·
    co_still (T _)
  clear hKx Kx
  try walk_nrm
  refine za0 C rfl (by rfl) fun _ hR Kx hKx => ?_
  replace hF := HM.rely E hF hR
  clear hR
  have hc := hF.cells
  go_simp
  try (unfold stored; go_simp)
  refine hKx _ _ ⟨?_,?_⟩
  ·
   refine zd2 E hF.size ?_
   co_evs (exact ze2 rfl hF.mb)
  clear hKx Kx
  try walk_nrm
  clear hc
  refine za0 C rfl (by rfl) fun _ hR Kx hKx => ?_
  replace hF := HM.rely E hF hR
  clear hR
  go_simp
  try (unfold stored; go_simp)
  refine hKx _ _ ⟨?_,?_⟩
  ·
   co_still (T _)
  clear hKx Kx
  try walk_nrm
  refine za3 C T ?_
  show wpI _ _ _ _ _ _ _
  refine zc0 C T (t := true) rfl ?_
  simp only [if_true,if_false,reduceIte,Bool.false_eq_true]
  refine za2 C T ?_
  simp only [szR,Nat.reduceAdd]
  iterate 2
   refine za0 C rfl (by rfl) fun _ hR Kx hKx => ?_
   replace hF := HM.rely E hF hR
   clear hR
   go_simp
   try (unfold stored; go_simp)
   refine hKx _ _ ⟨?_,?_⟩
   ·
    co_quiet (T _)
   clear hKx Kx
   try walk_nrm
  refine za0 C rfl (by rfl) fun _ hR Kx hKx => ?_
  replace hF := HM.rely E hF hR
  clear hR
  have hc := hF.cells
  have hcv := run_convert_to_unsafe (P := prog) (src := 117) (dst := 244) (t := 119) underlying117 underlying244 (by kernel_rfl) hc.1
  have hce := fun es => events_convert_to_unsafe (P := prog) (src := 117) (dst := 244) (t := 119) underlying117 underlying244 (by kernel_rfl) hc.1 es
  go_simp
  try (unfold stored; go_simp)
  refine hKx _ _ ⟨?_,?_⟩
  ·
   co_still (T _)
  clear hKx Kx
  try walk_nrm
  clear hc hcv hce
  refine opsI_entry C T rfl (by rfl) rfl func330 (by rfl) (by rfl) (by kernel_rfl) (e := Extern.AbiNoEscape.same) (by kernel_rfl) (x := .pointer (some ⟨Bb,0,none⟩)) (args' := #[.pointer (some ⟨Bb,0,none⟩)]) (by simp [Act.eval]) (fun w => Lib.run_noEscape w _) (fun w es => by show Sem.events prog (pure (Value.pointer (some ⟨Bb,0,none⟩)) : Sem Value) w es = es; simp) ?_
  try walk_nrm
  refine za0 C rfl (by rfl) fun _ hR Kx hKx => ?_
  replace hF := HM.rely E hF hR
  clear hR
  have hc := from_unsafe hF.bd rfl
  have hcv := hc.1
  have hce := hc.2
  go_simp
  try (unfold stored; go_simp)
  refine hKx _ _ ⟨?_,?_⟩
  ·
   co_still (T _)
  clear hKx Kx
  try walk_nrm
  clear hc hcv hce
  iterate 2
   refine za0 C rfl (by rfl) fun _ hR Kx hKx => ?_
   replace hF := HM.rely E hF hR
   clear hR
   go_simp
   try (unfold stored; go_simp)
   refine hKx _ _ ⟨?_,?_⟩
   ·
    co_still (T _)
   clear hKx Kx
   try walk_nrm
  refine za0 C rfl (by rfl) fun _ hR Kx hKx => ?_
  replace hF := HM.rely E hF hR
  clear hR
  have hc := hF.cells
  go_simp
  try (unfold stored; go_simp)
  refine hKx _ _ ⟨?_,?_⟩
  ·
   exact dm_write E hF (by co_evs (exact ze2 rfl hF.mb))
  clear hKx Kx
  try walk_nrm
  clear hc
  replace hF := hF.setP E (.pointer (some ⟨Bb,0,none⟩))
  refine za3 C T ?_
  exact ⟨.inl rfl,rfl,_,resultsC_none (by rfl) _,rfl,hF⟩
 ·
  refine za5 C T ?_
  refine za2 C T ?_
  simp only [szR,Nat.reduceAdd]
  refine za0 C rfl (by rfl) fun _ hR Kx hKx => ?_
  replace hF := HM.rely E hF hR
  clear hR
  go_simp
  try (unfold stored; go_simp)
  refine hKx _ _ ⟨?_,?_⟩
  ·
   co_quiet (T _)
  iterate 2
   clear hKx Kx
   try walk_nrm
   refine za0 C rfl (by rfl) fun _ hR Kx hKx => ?_
   replace hF := HM.rely E hF hR
   clear hR
   go_simp
   try (unfold stored; go_simp)
   refine hKx _ _ ⟨?_,?_⟩
   ·
    co_still (T _)
  clear hKx Kx
  try walk_nrm
  refine za0 C rfl (by rfl) fun _ hR Kx hKx => ?_
  replace hF := HM.rely E hF hR
  clear hR
  have hc := hF.cells
  go_simp
  try (unfold stored; go_simp)
  refine hKx _ _ ⟨?_,?_⟩
  ·
   refine zd2 E hF.size ?_
   co_evs (exact ze2 rfl hF.mb)
  clear hKx Kx
  try walk_nrm
  clear hc
  refine za0 C rfl (by rfl) fun _ hR Kx hKx => ?_
  replace hF := HM.rely E hF hR
  clear hR
  go_simp
  try (unfold stored; go_simp)
  refine hKx _ _ ⟨?_,?_⟩
  ·
   co_still (T _)
  clear hKx Kx
  try walk_nrm
  refine za3 C T ?_
  show wpI _ _ _ _ _ _ _
  refine zc0 C T (t := false) rfl ?_
  simp only [if_true,if_false,reduceIte,Bool.false_eq_true]
  refine za5 C T ?_
  refine za2 C T ?_
  simp only [szR,Nat.reduceAdd]
  refine za0 C rfl (by rfl) fun _ hR Kx hKx => ?_
  replace hF := HM.rely E hF hR
  clear hR
  go_simp
  try (unfold stored; go_simp)
  refine hKx _ _ ⟨?_,?_⟩
  ·
   co_quiet (T _)
  iterate 2
   clear hKx Kx
   try walk_nrm
   refine za0 C rfl (by rfl) fun _ hR Kx hKx => ?_
   replace hF := HM.rely E hF hR
   clear hR
   go_simp
   try (unfold stored; go_simp)
   refine hKx _ _ ⟨?_,?_⟩
   ·
    co_still (T _)
  clear hKx Kx
  try walk_nrm
  refine za0 C rfl (by rfl) fun _ hR Kx hKx => ?_
  replace hF := HM.rely E hF hR
  clear hR
  have hc := hF.cells
  go_simp
  try (unfold stored; go_simp)
  refine hKx _ _ ⟨?_,?_⟩
  ·
   refine zd2 E hF.size ?_
   co_evs (exact ze2 rfl hF.mb)
  clear hKx Kx
  try walk_nrm
  clear hc
  refine za0 C rfl (by rfl) fun _ hR Kx hKx => ?_
  replace hF := HM.rely E hF hR
  clear hR
  go_simp
  try (unfold stored; go_simp)
  refine hKx _ _ ⟨?_,?_⟩
  ·
   co_quiet (T _)
  clear hKx Kx
  try walk_nrm
  refine za0 C rfl (by rfl) fun _ hR Kx hKx => ?_
  replace hF := HM.rely E hF hR
  clear hR
  go_simp
  try (unfold stored; go_simp)
  refine hKx _ _ ⟨?_,?_⟩
  ·
   co_still (T _)
  clear hKx Kx
  try walk_nrm
  refine za3 C T ?_
  show wpI _ _ _ _ _ _ _
  refine zc0 C T (t := false) rfl ?_
  simp only [if_true,if_false,reduceIte,Bool.false_eq_true]
  refine ze0 C T ?_
  exact ⟨.inl rfl,rfl,_,resultsC_none (by rfl) _,rfl,hF⟩
theorem writeRune_x (C : ClosedI prog true R D X) (T : ∀ i,Terms (R i) (D i)) (E : Env KTs N0 M O (R i) (D i)) (hF : HM M O N0 Ex w₀ Bb p v v n xs w) (hp : p = .pointer none ∨ p = .pointer (some ⟨Bb,0,none⟩)) (hg : Good r) (hn : n ≤ 1000000) :
  CallsI prog X 180 #[.pointer (some ⟨Bb,0,none⟩), .int .i32 r] i w (fun i' _ w' => i' = i ∧ ∃ v',HM M O N0 Ex w₀ Bb (.pointer (some ⟨Bb,0,none⟩)) v' v' (n + (Lib.runeCells r).length) (xs ++ Lib.runeCells r) w') := by
 have evp : ∀ (w : World) (es : Array Event) (a : Addr) (m : Mode) (x : Option Addr),(store a (.pointer x) m).events prog w es = storedEv prog w es a (.pointer x) m := fun w es a m x => events_store prog w es a _ m rfl
 have evl : ∀ (w : World) (es : Array Event) (a : Addr) (m : Mode) (x : Option Addr) (l c : Nat),(store a (.slice x l c) m).events prog w es = storedEv prog w es a (.slice x l c) m := fun w es a m x l c => events_store prog w es a _ m rfl
 have hrl := Lib.runeCells_le r
 refine zc2 func180 (by rfl) rfl ?_
 simp only [ntmps180,List.size_toArray,List.length_cons,List.length_nil,Nat.reduceAdd,Nat.reduceSub,Array.replicate_succ,Array.replicate_zero,List.push_toArray,List.append_toArray,List.nil_append,List.cons_append]
 refine za5 C T ?_
 refine za2 C T ?_
 simp only [szR,Nat.reduceAdd]
 iterate 2
  refine za0 C rfl (by rfl) fun _ hR Kx hKx => ?_
  replace hF := HM.rely E hF hR
  clear hR
  go_simp
  try (unfold stored; go_simp)
  refine hKx _ _ ⟨?_,?_⟩
  ·
   co_quiet (T _)
  clear hKx Kx
  try walk_nrm
 refine za3 C T ?_
 show wpI _ _ _ _ _ _ _
 refine za5 C T ?_
 refine za2 C T ?_
 simp only [szR,Nat.reduceAdd]
 refine za0 C rfl (by rfl) fun _ hR Kx hKx => ?_
 replace hF := HM.rely E hF hR
 clear hR
 go_simp
 try (unfold stored; go_simp)
 refine hKx _ _ ⟨?_,?_⟩
 ·
  co_quiet (T _)
 clear hKx Kx
 try walk_nrm
 refine zd6 C T rfl (by rfl) rfl rfl (by simp [Act.eval]) rfl (copyCheck_x C T E hF hp) ?_
 rintro _ _ _ ⟨rfl,hF⟩
 try walk_nrm
 refine za3 C T ?_
 show wpI _ _ _ _ _ _ _
 obtain ⟨x0,c0,hv0⟩ := hF.slice
 refine za5 C T ?_
 refine za2 C T ?_
 simp only [szR,Nat.reduceAdd]
 refine za0 C rfl (by rfl) fun _ hR Kx hKx => ?_
 replace hF := HM.rely E hF hR
 clear hR
 go_simp
 try (unfold stored; go_simp)
 refine hKx _ _ ⟨?_,?_⟩
 ·
  co_quiet (T _)
 iterate 2
  clear hKx Kx
  try walk_nrm
  refine za0 C rfl (by rfl) fun _ hR Kx hKx => ?_
  replace hF := HM.rely E hF hR
  clear hR
  go_simp
  try (unfold stored; go_simp)
  refine hKx _ _ ⟨?_,?_⟩
  ·
   co_still (T _)
 clear hKx Kx
 try walk_nrm
 refine za0 C rfl (by rfl) fun _ hR Kx hKx => ?_
 replace hF := HM.rely E hF hR
 clear hR
 have hc := hF.cells
 go_simp
 try (unfold stored; go_simp)
 refine hKx _ _ ⟨?_,?_⟩
 ·
  refine zd2 E hF.size ?_
  co_evs (exact ze2 rfl hF.mb)
 clear hKx Kx
 try walk_nrm
 clear hc
 subst hv0
 refine za0 C rfl (by rfl) fun _ hR Kx hKx => ?_
 replace hF := HM.rely E hF hR
 clear hR
 go_simp
 try (unfold stored; go_simp)
 refine hKx _ _ ⟨?_,?_⟩
 ·
  co_still (T _)
 clear hKx Kx
 try walk_nrm
 refine za0 C rfl (by rfl) fun _ hR Kx hKx => ?_
 replace hF := HM.rely E hF hR
 clear hR
 go_simp
 try (unfold stored; go_simp)
 refine hKx _ _ ⟨?_,?_⟩
 ·
  co_quiet (T _)
 clear hKx Kx
 try walk_nrm
 refine za3 C T ?_
 show wpI _ _ _ _ _ _ _
 refine za5 C T ?_
 refine za2 C T ?_
 simp only [szR,Nat.reduceAdd]
 iterate 2
  refine za0 C rfl (by rfl) fun _ hR Kx hKx => ?_
  replace hF := HM.rely E hF hR
  clear hR
  go_simp
  try (unfold stored; go_simp)
  refine hKx _ _ ⟨?_,?_⟩
  ·
   co_quiet (T _)
  clear hKx Kx
  try walk_nrm
 iterate 2
  refine za0 C rfl (by rfl) fun _ hR Kx hKx => ?_
  replace hF := HM.rely E hF hR
  clear hR
  go_simp
  try (unfold stored; go_simp)
  refine hKx _ _ ⟨?_,?_⟩
  ·
   co_still (T _)
  clear hKx Kx
  try walk_nrm
 refine za0 C rfl (by rfl) fun _ hR Kx hKx => ?_
 replace hF := HM.rely E hF hR
 clear hR
 have hc := hF.cells
 go_simp
 try (unfold stored; go_simp)
 refine hKx _ _ ⟨?_,?_⟩
 ·
  refine zd2 E hF.size ?_
  co_evs (exact ze2 rfl hF.mb)
 clear hKx Kx
 try walk_nrm
 clear hc
 refine za0 C rfl (by rfl) fun _ hR Kx hKx => ?_
 replace hF := HM.rely E hF hR
 clear hR
 go_simp
 try (unfold stored; go_simp)
 refine hKx _ _ ⟨?_,?_⟩
 ·
  co_quiet (T _)
 clear hKx Kx
 try walk_nrm
 refine zd6 C T rfl (by rfl) rfl rfl (by simp [Act.eval]) rfl (appendRune_x C T E hF hg hn) ?_
 rintro _ v₁ _ ⟨rfl,hF⟩
 try walk_nrm
 obtain ⟨x1,c1,rfl⟩ := hF.slice
 iterate 2
  refine za0 C rfl (by rfl) fun _ hR Kx hKx => ?_
  replace hF := HM.rely E hF hR
  clear hR
  go_simp
  try (unfold stored; go_simp)
  refine hKx _ _ ⟨?_,?_⟩
  ·
   co_still (T _)
  clear hKx Kx
  try walk_nrm
 refine za0 C rfl (by rfl) fun _ hR Kx hKx => ?_
 replace hF := HM.rely E hF hR
 clear hR
 have hc := hF.cells
 go_simp
 try (unfold stored; go_simp)
 refine hKx _ _ ⟨?_,?_⟩
 ·
  exact dm_write E hF (by co_evs (exact ze2 rfl hF.mb))
 clear hKx Kx
 try walk_nrm
 clear hc
 replace hF := hF.setV E (.slice x1 (n + (Lib.runeCells r).length) c1)
 refine za3 C T ?_
 show wpI _ _ _ _ _ _ _
 refine za5 C T ?_
 refine za2 C T ?_
 simp only [szR,Nat.reduceAdd]
 refine za0 C rfl (by rfl) fun _ hR Kx hKx => ?_
 replace hF := HM.rely E hF hR
 clear hR
 go_simp
 try (unfold stored; go_simp)
 refine hKx _ _ ⟨?_,?_⟩
 ·
  co_quiet (T _)
 iterate 2
  clear hKx Kx
  try walk_nrm
  refine za0 C rfl (by rfl) fun _ hR Kx hKx => ?_
  replace hF := HM.rely E hF hR
  clear hR
  go_simp
  try (unfold stored; go_simp)
  refine hKx _ _ ⟨?_,?_⟩
  ·
   co_still (T _)
 clear hKx Kx
 try walk_nrm
 refine za0 C rfl (by rfl) fun _ hR Kx hKx => ?_
 replace hF := HM.rely E hF hR
 clear hR
 have hc := hF.cells
 go_simp
 try (unfold stored; go_simp)
 refine hKx _ _ ⟨?_,?_⟩
 ·
  refine zd2 E hF.size ?_
  co_evs (exact ze2 rfl hF.mb)
 clear hKx Kx
 try walk_nrm
 clear hc
 refine za0 C rfl (by rfl) fun _ hR Kx hKx => ?_
 replace hF := HM.rely E hF hR
 clear hR
 go_simp
 try (unfold stored; go_simp)
 refine hKx _ _ ⟨?_,?_⟩
 ·
  co_still (T _)
 iterate 4
  clear hKx Kx
  try walk_nrm
  refine za0 C rfl (by rfl) fun _ hR Kx hKx => ?_
  replace hF := HM.rely E hF hR
  clear hR
  go_simp
  try (unfold stored; go_simp)
  refine hKx _ _ ⟨?_,?_⟩
  ·
   co_quiet (T _)
 clear hKx Kx
 try walk_nrm
 refine za3 C T ?_
 show wpI _ _ _ _ _ _ _
 refine zc3 C T ?_
 exact ⟨.inr rfl,rfl,_,resultsC_tmp2 (by rfl) _,rfl,_,hF⟩
end
end
set_option maxRecDepth 100000
set_option maxHeartbeats 2000000
section
open Go.Conc Go.RowKit
section
variable {N Pb : Nat} {Shun : Loc → Prop} {val : Value} {B : Nat} {Mine : Loc → Prop} {Ex : Nat → Prop} {w₀ w w₁ : World} {AnchW : Goroutine → World → Prop} {u v : Value} {tk rest : List Int} {en : Bool} {Rb : Nat}
def exR (Rb : Nat) (v : Value) (b : Nat) : Prop := b = Rb ∨ v.ownBlock = some b
structure HW (K : Cfg) (Ex : Nat → Prop) (w₀ : World) (Rb : Nat) (u v : Value) (tk : List Int) (en : Bool) (w : World) : Prop where
 rb : w.heap[Rb]? = some (.cells #[.chan (some K.A), .chan (some K.E),u, .bool en] 175)
 mr : mineM K w Rb
 exr : Ex Rb ∨ w₀.heap.size ≤ Rb
 ro : RowO (mineM K) Ex w₀ 21 v tk.length (V tk) w
 size : K.N0 ≤ w.heap.size
 old : Kept (mineM K) (outM K) Ex w₀ w
theorem HW.cells {K : Cfg} (h : HW K Ex w₀ Rb u v tk en w) : w.cell? ⟨Rb,0,none⟩ = some (.chan (some K.A)) ∧ w.cell? ⟨Rb,1,none⟩ = some (.chan (some K.E)) ∧ w.cell? ⟨Rb,2,none⟩ = some u ∧ w.cell? ⟨Rb,3,none⟩ = some (.bool en) ∧ w.frozen? ⟨Rb,2,none⟩ = false ∧ w.frozen? ⟨Rb,3,none⟩ = false := by
 simp [World.cell?,World.frozen?,h.rb]
theorem HW.slice {K : Cfg} (h : HW K Ex w₀ Rb u v tk en w) : ∃ x c,v = .slice x tk.length c := by
 rcases h.ro.row.2 with ⟨z,z'⟩ | ⟨g,cap,cur,rfl,_⟩
 ·
  exact ⟨_,_,by rw [z,z']⟩
 ·
  exact ⟨_,_,rfl⟩
theorem HW.relyE {K : Cfg} {KT : TypeId → Prop} {R : World → World → Prop} {D : World → World → Array Event → Prop} (E : Env KT K.N0 (mineM K) (outM K) R D) (h : HW K Ex w₀ Rb u v tk en w) (r : R w w₁) : HW K Ex w₀ Rb u v tk en w₁ :=
 ⟨(E.keep r h.mr).trans h.rb,E.stay r h.mr,h.exr,h.ro.rely E r,Nat.le_trans h.size (E.size r),h.old.rely E r⟩
theorem HW.rebase {K : Cfg} (h : HW K Ex w₀ Rb u v tk en w) : HW K (exR Rb v) w Rb u v tk en w := ⟨h.rb,h.mr, .inl (.inl rfl),⟨h.ro.row,fun k hk => ⟨(h.ro.own k hk).1, .inl (.inr hk)⟩,h.ro.nil⟩,h.size,Kept.refl w⟩
theorem HW.back {K : Cfg} (F : K.Fit) {u' v' : Value} {tk' : List Int} {en' : Bool} (h : HW K Ex w₀ Rb u v tk en w) (h' : HW K (exR Rb v) w Rb u' v' tk' en' w₁) : HW K Ex w₀ Rb u' v' tk' en' w₁ := by
 have hx : ∀ b,exR Rb v b ∨ w.heap.size ≤ b → Ex b ∨ w₀.heap.size ≤ b := by
  rintro b ((rfl | z) | z)
  ·
   exact h.exr
  ·
   exact (h.ro.own b z).2
  ·
   exact .inr (Nat.le_trans h.old.grow z)
 exact ⟨h'.rb,h'.mr,h.exr,⟨h'.ro.row,fun k hk => ⟨(h'.ro.own k hk).1,hx k (h'.ro.own k hk).2⟩,h'.ro.nil⟩,h'.size,h.old.trans (envM F) h'.old fun b hb => hx b (.inl hb)⟩
theorem HW.ownSet (h : HW (kcfg prog N Pb Shun val B Mine) Ex w₀ Rb u v tk en w) (o : Nat) (x : Value) : Own KTs (mineM (kcfg prog N Pb Shun val B Mine)) w (w.setCell ⟨Rb,o,none⟩ x) := Own.setCell h.rb h.mr (by simp [KTs])
theorem HW.setO (F : Cfg.Fit (kcfg prog N Pb Shun val B Mine)) (h : HW (kcfg prog N Pb Shun val B Mine) Ex w₀ Rb u v tk en w) (o : Nat) (x u' : Value) (en' : Bool) (he : (#[.chan (some (N + 2)), .chan (some (N + 4)),u, .bool en] : Array Value).setIfInBounds o x = #[.chan (some (N + 2)), .chan (some (N + 4)),u', .bool en']) : HW (kcfg prog N Pb Shun val B Mine) Ex w₀ Rb u' v tk en' (w.setCell ⟨Rb,o,none⟩ x) := by
 have ow := h.ownSet o x
 have E := envM F
 refine ⟨(zd3 h.rb _).trans (by rw [show Cfg.A (kcfg prog N Pb Shun val B Mine) = N + 2 from rfl,show Cfg.E (kcfg prog N Pb Shun val B Mine) = N + 4 from rfl,he]),E.mine ow h.mr,h.exr,h.ro.same fun k hk => ⟨HC.off' w _ (h.ro.ne h.rb (by decide) hk),E.mine ow (h.ro.own k hk).1⟩,by simpa [World.setCell] using h.size,h.old.own E ow fun b hb hx => HC.off' w _ ?_⟩
 rintro rfl
 rcases h.exr with z | z
 ·
  exact hx z
 ·
  have := E.lt hb; omega
structure HV (K : Cfg) (Ex : Nat → Prop) (w₀ : World) (Rb : Nat) (u v : Value) (tk : List Int) (en : Bool) (news : List Value) (g : Nat) (w : World) : Prop where
 hw : HW K Ex w₀ Rb u v tk en w
 src : SrcO (mineM K) 21 news g w
theorem HW.built (F : Cfg.Fit (kcfg prog N Pb Shun val B Mine)) (h : HW (kcfg prog N Pb Shun val B Mine) Ex w₀ Rb u v tk en w) (news : List Value) : HV (kcfg prog N Pb Shun val B Mine) Ex w₀ Rb u v tk en news w.heap.size (w.alloc (.cells news.toArray 21)) := by
 have E := envM F
 have o : Own KTs (mineM (kcfg prog N Pb Shun val B Mine)) w (w.alloc (.cells news.toArray 21)) := Own.alloc (by simp [KTs])
 refine ⟨⟨(Below.heap_alloc _ _ _ (E.lt h.mr)).trans h.rb,E.mine o h.mr,h.exr,h.ro.same fun k hk => ⟨Below.heap_alloc _ _ _ (E.lt (h.ro.own k hk).1),E.mine o (h.ro.own k hk).1⟩,by simp [World.size_alloc]; have := h.size; omega,h.old.own E o fun b hb _ => Below.heap_alloc _ _ _ (E.lt (h.old.mine b hb))⟩,heap_alloc_new w _,E.new h.size o (Nat.le_refl _) (by simp [World.size_alloc])⟩
theorem HV.relyE {K : Cfg} {KT : TypeId → Prop} {R : World → World → Prop} {D : World → World → Array Event → Prop} {news : List Value} {g : Nat} (E : Env KT K.N0 (mineM K) (outM K) R D) (h : HV K Ex w₀ Rb u v tk en news g w) (r : R w w₁) : HV K Ex w₀ Rb u v tk en news g w₁ := ⟨h.hw.relyE E r,h.src.rely E r⟩
theorem append_w {R : World → World → Prop} {D : World → World → Array Event → Prop} {g : Nat} (E : Env KTs (N + 9) (mineM (kcfg prog N Pb Shun val B Mine)) (outM (kcfg prog N Pb Shun val B Mine)) R D) {r : Int} (h : HV (kcfg prog N Pb Shun val B Mine) Ex w₀ Rb u v tk en (V [r]) g w) (hn : tk.length ≤ 1000000) (ty : TypeId) :
  ∃ v' w',(Builtin.append_ #[173,173] ty #[v, .slice (some ⟨g,0,none⟩) 1 1]).run prog w = .ok v' w' ∧ HW (kcfg prog N Pb Shun val B Mine) Ex w₀ Rb u v' (tk ++ [r]) en w' ∧
   D w w' ((Builtin.append_ #[173,173] ty #[v, .slice (some ⟨g,0,none⟩) 1 1]).events prog w #[]) ∧
   ∀ e ∈ (Builtin.append_ #[173,173] ty #[v, .slice (some ⟨g,0,none⟩) 1 1]).events prog w #[], ∀ m,e.loc = .mark m → m = .noRoom := by
 obtain ⟨v',w',hr,ho,hk,hO,hb,hD,hm⟩ := append_o (P := prog) E h.hw.size (by simp [KTs]) h.hw.old h.hw.ro h.src 173 ty (.int .i32 0) 4 underlying173 (by kernel_rfl) rfl (by simp [V,Value.oneCell']) (by simp [V]; unfold maxLen; omega) (by simp [V]; omega)
 refine ⟨v',w',hr,⟨(hb Rb (E.lt h.hw.mr) fun e => h.hw.ro.ne h.hw.rb (by decide) e rfl).trans h.hw.rb,E.mine hO h.hw.mr,h.hw.exr,?_,Nat.le_trans h.hw.size hO.grow,hk⟩,hD,hm⟩
 have e1 : (tk ++ [r]).length = tk.length + (V [r]).length := by simp [V]
 rw [e1,V_append]
 exact ho
def AtP (rest : List Int) (en : Bool) (i : Ph) : Prop := (en = false ∧ (i = .front (V rest) ∨ i = .walk (V rest))) ∨ (en = true ∧ i = .over ∧ rest = [])
theorem AtP.early {i : Ph} (h : AtP rest en i) : i.early := by
 rcases h with ⟨_,rfl | rfl⟩ | ⟨_,rfl,_⟩ <;> exact trivial
variable [Go.ConcR.Payload] [Go.ConcX.Payload]
variable [Go.ConcX.Shy (Cfg.Wg (kcfg prog N Pb Shun val B Mine)) (Cfg.C (kcfg prog N Pb Shun val B Mine))]
theorem HW.rely {i : Ph} (E : Env KTs (N + 9) (mineM (kcfg prog N Pb Shun val B Mine)) (outM (kcfg prog N Pb Shun val B Mine)) (RMd (kcfg prog N Pb Shun val B Mine) i) (DMd (kcfg prog N Pb Shun val B Mine) i)) (h : HW (kcfg prog N Pb Shun val B Mine) Ex w₀ Rb u v tk en w) (r : RMd (kcfg prog N Pb Shun val B Mine) i w w₁) : HW (kcfg prog N Pb Shun val B Mine) Ex w₀ Rb u v tk en w₁ := HW.relyE (K := (kcfg prog N Pb Shun val B Mine)) E h r
theorem HV.rely {i : Ph} {news : List Value} {g : Nat} (E : Env KTs (N + 9) (mineM (kcfg prog N Pb Shun val B Mine)) (outM (kcfg prog N Pb Shun val B Mine)) (RMd (kcfg prog N Pb Shun val B Mine) i) (DMd (kcfg prog N Pb Shun val B Mine) i)) (h : HV (kcfg prog N Pb Shun val B Mine) Ex w₀ Rb u v tk en news g w) (r : RMd (kcfg prog N Pb Shun val B Mine) i w w₁) : HV (kcfg prog N Pb Shun val B Mine) Ex w₀ Rb u v tk en news g w₁ := HV.relyE (K := (kcfg prog N Pb Shun val B Mine)) E h r
theorem HW.toRM {i : Ph} (F : Cfg.Fit (kcfg prog N Pb Shun val B Mine)) (h : HW (kcfg prog N Pb Shun val B Mine) Ex w₀ Rb u v tk en w) (r : RM (kcfg prog N Pb Shun val B Mine) w w₁) : HW (kcfg prog N Pb Shun val B Mine) Ex w₀ Rb u v tk en w₁ := HW.relyE (K := (kcfg prog N Pb Shun val B Mine)) (envM F) h r
theorem receive_x {i : Ph} (Fi : Cfg.Fit (kcfg prog N Pb Shun val B Mine)) (hF : HW (kcfg prog N Pb Shun val B Mine) Ex w₀ Rb v v tk false w) (hi : i = .front (V rest) ∨ i = .walk (V rest)) (hn : tk.length ≤ 1000000) :
  CallsI prog (XM (kcfg prog N Pb Shun val B Mine) AnchW) 203 #[.pointer (some ⟨Rb,0,none⟩)] i w (fun i' _ w' => (∃ r l v',rest = r :: l ∧ i' = .walk (V l) ∧ HW (kcfg prog N Pb Shun val B Mine) Ex w₀ Rb v' v' (tk ++ [r]) false w') ∨ (rest = [] ∧ i' = .over ∧ HW (kcfg prog N Pb Shun val B Mine) Ex w₀ Rb v v tk true w')) := by
 have C : ClosedI prog true (RMd (kcfg prog N Pb Shun val B Mine)) (DMd (kcfg prog N Pb Shun val B Mine)) (XM (kcfg prog N Pb Shun val B Mine) AnchW) := XM.closed (K := (kcfg prog N Pb Shun val B Mine))
 have T := termsM (K := (kcfg prog N Pb Shun val B Mine))
 have evp : ∀ (w : World) (es : Array Event) (a : Addr) (m : Mode) (x : Option Addr),(store a (.pointer x) m).events prog w es = storedEv prog w es a (.pointer x) m := fun w es a m x => events_store prog w es a _ m rfl
 have evl : ∀ (w : World) (es : Array Event) (a : Addr) (m : Mode) (x : Option Addr) (l c : Nat),(store a (.slice x l c) m).events prog w es = storedEv prog w es a (.slice x l c) m := fun w es a m x l c => events_store prog w es a _ m rfl
 have evb : ∀ (w : World) (es : Array Event) (a : Addr) (m : Mode) (x : Bool),(store a (.bool x) m).events prog w es = storedEv prog w es a (.bool x) m := fun w es a m x => events_store prog w es a _ m rfl
 have E : Env KTs (N + 9) (mineM (kcfg prog N Pb Shun val B Mine)) (outM (kcfg prog N Pb Shun val B Mine)) (RMd (kcfg prog N Pb Shun val B Mine) i) (DMd (kcfg prog N Pb Shun val B Mine) i) := envP (K := (kcfg prog N Pb Shun val B Mine)) Fi (by rcases hi with rfl | rfl <;> exact trivial)
 have hsel : ∀ (a : Act) (o : Oper) w,o.op = .select #[{ chan := .tmp 6,send := none,elem := 21 }, { chan := .tmp 10,send := none,elem := 160 }] true → a.eval (.tmp 6) = .chan (some (N + 2)) → a.eval (.tmp 10) = .chan (some (N + 4)) → (execOp a.eval o).run prog w = .ok (.comm (Cfg.cases (kcfg prog N Pb Shun val B Mine)) true .select) w ∧ (execOp a.eval o).events prog w #[] = #[] := by
  intro a o w ho h7 h8
  simp only [Act.eval,Array.getD_eq_getD_getElem?] at h7 h8
  constructor
  ·
   unfold execOp
   simp [ho,h7,h8,Cfg.cases,kcfg,rcase,Tryz.zeroValue21,Tryz.zeroValue160,go_sem]
  ·
   unfold execOp
   simp [ho,h7,h8,Tryz.zeroValue21,Tryz.zeroValue160,go_sem]
 have hcr0 : ∀ r,commResult (Cfg.cases (kcfg prog N Pb Shun val B Mine)) .select 0 (.int .i32 r) true = .tuple #[.int .i64 0, .bool true, .int .i32 r, .agg #[]] := fun r => by simp [commResult,Cfg.cases,kcfg,rcase,goInt]
 have hcr1 : commResult (Cfg.cases (kcfg prog N Pb Shun val B Mine)) .select 1 (Cfg.zE (kcfg prog N Pb Shun val B Mine)) false = .tuple #[.int .i64 1, .bool false, .int .i32 0, .agg #[]] := by simp [commResult,Cfg.cases,kcfg,rcase,goInt]
 refine zc2 func203 (by rfl) rfl ?_
 simp only [ntmps203,List.size_toArray,List.length_cons,List.length_nil,Nat.reduceAdd,Nat.reduceSub,Array.replicate_succ,Array.replicate_zero,List.push_toArray,List.append_toArray,List.nil_append,List.cons_append]
 iterate 2
  refine za5 C T ?_
 refine za2 C T ?_
 simp only [szR,Nat.reduceAdd]
 refine za0 C rfl (by rfl) fun _ hR Kx hKx => ?_
 replace hF := HW.rely E hF hR
 clear hR
 go_simp
 try (unfold stored; go_simp)
 refine hKx _ _ ⟨?_,?_⟩
 ·
  co_quiet (T _)
 iterate 2
  clear hKx Kx
  try walk_nrm
  refine za0 C rfl (by rfl) fun _ hR Kx hKx => ?_
  replace hF := HW.rely E hF hR
  clear hR
  go_simp
  try (unfold stored; go_simp)
  refine hKx _ _ ⟨?_,?_⟩
  ·
   co_still (T _)
 clear hKx Kx
 try walk_nrm
 refine za0 C rfl (by rfl) fun _ hR Kx hKx => ?_
 replace hF := HW.rely E hF hR
 clear hR
 have hc := hF.cells
 go_simp
 try (unfold stored; go_simp)
 refine hKx _ _ ⟨?_,?_⟩
 ·
  refine zd2 E hF.size ?_
  co_evs (exact ze2 rfl hF.mr)
 clear hKx Kx
 try walk_nrm
 clear hc
 refine za3 C T ?_
 show wpI _ _ _ _ _ _ _
 refine za2 C T ?_
 simp only [szR,Nat.reduceAdd]
 refine za0 C rfl (by rfl) fun _ hR Kx hKx => ?_
 replace hF := HW.rely E hF hR
 clear hR
 go_simp
 try (unfold stored; go_simp)
 refine hKx _ _ ⟨?_,?_⟩
 ·
  co_quiet (T _)
 iterate 2
  clear hKx Kx
  try walk_nrm
  refine za0 C rfl (by rfl) fun _ hR Kx hKx => ?_
  replace hF := HW.rely E hF hR
  clear hR
  go_simp
  try (unfold stored; go_simp)
  refine hKx _ _ ⟨?_,?_⟩
  ·
   co_still (T _)
 clear hKx Kx
 try walk_nrm
 refine za0 C rfl (by rfl) fun _ hR Kx hKx => ?_
 replace hF := HW.rely E hF hR
 clear hR
 have hc := hF.cells
 go_simp
 try (unfold stored; go_simp)
 refine hKx _ _ ⟨?_,?_⟩
 ·
  refine zd2 E hF.size ?_
  co_evs (exact ze2 rfl hF.mr)
 clear hKx Kx
 try walk_nrm
 clear hc
 refine za3 C T ?_
 show wpI _ _ _ _ _ _ _
 simp only [show Cfg.A (kcfg prog N Pb Shun val B Mine) = N + 2 from rfl,show Cfg.E (kcfg prog N Pb Shun val B Mine) = N + 4 from rfl]
 refine za5 C T ?_
 refine za2 C T ?_
 simp only [szR,Nat.reduceAdd]
 by_cases hl : rest = []
 ·
  obtain rfl : rest = [] := hl
  refine opsI_end hi rfl (by rfl) (fun w => (hsel _ _ w rfl rfl rfl).1) (fun w => (hsel _ _ w rfl rfl rfl).2) fun w₁ h₁ hs => ?_
  replace hF := HW.toRM (i := .over) Fi hF h₁
  clear hi E
  have E : Env KTs (N + 9) (mineM (kcfg prog N Pb Shun val B Mine)) (outM (kcfg prog N Pb Shun val B Mine)) (RMd (kcfg prog N Pb Shun val B Mine) .over) (DMd (kcfg prog N Pb Shun val B Mine) .over) := envP (K := (kcfg prog N Pb Shun val B Mine)) Fi trivial
  simp only [hcr1]
  try walk_nrm
  refine za0 C rfl (by rfl) fun _ hR Kx hKx => ?_
  replace hF := HW.rely E hF hR
  clear hR
  go_simp
  try (unfold stored; go_simp)
  refine hKx _ _ ⟨?_,?_⟩
  ·
   co_still (T _)
  iterate 2
   clear hKx Kx
   try walk_nrm
   refine za0 C rfl (by rfl) fun _ hR Kx hKx => ?_
   replace hF := HW.rely E hF hR
   clear hR
   go_simp
   try (unfold stored; go_simp)
   refine hKx _ _ ⟨?_,?_⟩
   ·
    co_quiet (T _)
  clear hKx Kx
  try walk_nrm
  refine za3 C T ?_
  show wpI _ _ _ _ _ _ _
  refine ze3 C T ?_
  refine zc0 C T (t := false) rfl ?_
  simp only [if_true,if_false,reduceIte,Bool.false_eq_true]
  refine zc0 C T (t := true) rfl ?_
  simp only [if_true,if_false,reduceIte,Bool.false_eq_true]
  refine za2 C T ?_
  simp only [szR,Nat.reduceAdd]
  refine za0 C rfl (by rfl) fun _ hR Kx hKx => ?_
  replace hF := HW.rely E hF hR
  clear hR
  go_simp
  try (unfold stored; go_simp)
  refine hKx _ _ ⟨?_,?_⟩
  ·
   co_quiet (T _)
  iterate 2
   clear hKx Kx
   try walk_nrm
   refine za0 C rfl (by rfl) fun _ hR Kx hKx => ?_
   replace hF := HW.rely E hF hR
   clear hR
   go_simp
   try (unfold stored; go_simp)
   refine hKx _ _ ⟨?_,?_⟩
   ·
    co_still (T _)
  clear hKx Kx
  try walk_nrm
  refine za0 C rfl (by rfl) fun _ hR Kx hKx => ?_
  replace hF := HW.rely E hF hR
  clear hR
  have hc := hF.cells
  go_simp
  try (unfold stored; go_simp)
  refine hKx _ _ ⟨?_,?_⟩
  ·
   exact dm_own E hF.size (hF.ownSet _ _) (by co_evs (exact ze2 rfl hF.mr))
  clear hKx Kx
  try walk_nrm
  clear hc
  replace hF := hF.setO Fi 3 (.bool true) v true rfl
  refine za3 C T ?_
  exact ⟨.inl rfl,rfl,_,resultsC_none (by rfl) _, .inr ⟨by first | rfl | trivial,rfl,hF⟩⟩
 ·
  obtain ⟨r,l2,rfl⟩ : ∃ r l2,rest = r :: l2 := by cases rest with | nil => exact absurd rfl hl | cons r t => exact ⟨r,t,rfl⟩
  refine opsI_letter (v := .int .i32 r) (vs := V l2) hi rfl (by rfl) (fun w => (hsel _ _ w rfl rfl rfl).1) (fun w => (hsel _ _ w rfl rfl rfl).2) fun w₁ h₁ hs => ?_
  replace hF := HW.toRM (i := .over) Fi hF h₁
  clear hi E hl
  have E : Env KTs (N + 9) (mineM (kcfg prog N Pb Shun val B Mine)) (outM (kcfg prog N Pb Shun val B Mine)) (RMd (kcfg prog N Pb Shun val B Mine) (.walk (V l2))) (DMd (kcfg prog N Pb Shun val B Mine) (.walk (V l2))) := envP (K := (kcfg prog N Pb Shun val B Mine)) Fi trivial
  simp only [hcr0]
  try walk_nrm
  refine za0 C rfl (by rfl) fun _ hR Kx hKx => ?_
  replace hF := HW.rely E hF hR
  clear hR
  go_simp
  try (unfold stored; go_simp)
  refine hKx _ _ ⟨?_,?_⟩
  ·
   co_still (T _)
  iterate 2
   clear hKx Kx
   try walk_nrm
   refine za0 C rfl (by rfl) fun _ hR Kx hKx => ?_
   replace hF := HW.rely E hF hR
   clear hR
   go_simp
   try (unfold stored; go_simp)
   refine hKx _ _ ⟨?_,?_⟩
   ·
    co_quiet (T _)
  clear hKx Kx
  try walk_nrm
  refine za3 C T ?_
  show wpI _ _ _ _ _ _ _
  refine ze3 C T ?_
  refine zc0 C T (t := true) rfl ?_
  simp only [if_true,if_false,reduceIte,Bool.false_eq_true]
  refine za5 C T ?_
  refine za2 C T ?_
  simp only [szR,Nat.reduceAdd]
  refine za0 C rfl (by rfl) fun _ hR Kx hKx => ?_
  replace hF := HW.rely E hF hR
  clear hR
  go_simp
  try (unfold stored; go_simp)
  refine hKx _ _ ⟨?_,?_⟩
  ·
   co_still (T _)
  clear hKx Kx
  try walk_nrm
  refine za0 C rfl (by rfl) fun _ hR Kx hKx => ?_
  replace hF := HW.rely E hF hR
  clear hR
  go_simp
  try (unfold stored; go_simp)
  refine hKx _ _ ⟨?_,?_⟩
  ·
   co_quiet (T _)
  clear hKx Kx
  try walk_nrm
  refine za3 C T ?_
  show wpI _ _ _ _ _ _ _
  refine za2 C T ?_
  simp only [szR,Nat.reduceAdd]
  iterate 2
   refine za0 C rfl (by rfl) fun _ hR Kx hKx => ?_
   replace hF := HW.rely E hF hR
   clear hR
   go_simp
   try (unfold stored; go_simp)
   refine hKx _ _ ⟨?_,?_⟩
   ·
    co_quiet (T _)
   clear hKx Kx
   try walk_nrm
  iterate 2
   refine za0 C rfl (by rfl) fun _ hR Kx hKx => ?_
   replace hF := HW.rely E hF hR
   clear hR
   go_simp
   try (unfold stored; go_simp)
   refine hKx _ _ ⟨?_,?_⟩
   ·
    co_still (T _)
   clear hKx Kx
   try walk_nrm
  refine za0 C rfl (by rfl) fun _ hR Kx hKx => ?_
  replace hF := HW.rely E hF hR
  clear hR
  have hc := hF.cells
  go_simp
  try (unfold stored; go_simp)
  refine hKx _ _ ⟨?_,?_⟩
  ·
   refine zd2 E hF.size ?_
   co_evs (exact ze2 rfl hF.mr)
  clear hKx Kx
  try walk_nrm
  clear hc
  refine za0 C rfl (by rfl) fun _ hR Kx hKx => ?_
  replace hF := HW.rely E hF hR
  clear hR
  go_simp
  try (unfold stored; go_simp)
  refine hKx _ _ ⟨?_,?_⟩
  ·
   co_quiet (T _)
  clear hKx Kx
  try walk_nrm
  refine za0 C rfl (by rfl) fun _ hR Kx hKx => ?_
  replace hF := HW.rely E hF hR
  clear hR
  go_simp
  try (unfold stored; go_simp)
  refine hKx _ _ ⟨?_,?_⟩
  ·
   refine dm_own E hF.size (Own.alloc (by simp [KTs])) ?_
   co_evs (skip)
  clear hKx Kx
  try walk_nrm
  replace hF := hF.built Fi (V [r])
  refine za0 C rfl (by rfl) fun _ hR Kx hKx => ?_
  replace hF := HV.rely E hF hR
  clear hR
  obtain ⟨v₂,w₂,hrun,hF₂,hD,hne⟩ := append_w E hF hn 173
  refine uponK_append (Operand.tmp 20) (Operand.tmp 22) 173 rfl rfl rfl hrun (hKx _ _ ⟨?_,?_⟩)
  ·
   have hsn := seen_eq (P := prog) (fn := 203) (by kernel_rfl) (fun e he f h => by cases hne e he _ h)
   unfold listed
   rw [events_append_op (Operand.tmp 20) (Operand.tmp 22) 173 rfl rfl rfl]
   exact (congrArg (DMd (kcfg prog N Pb Shun val B Mine) _ _ _) hsn).mpr hD
  clear hKx Kx hrun hD hne
  replace hF := hF₂
  try walk_nrm
  obtain ⟨x1,c1,rfl⟩ := hF.slice
  iterate 2
   refine za0 C rfl (by rfl) fun _ hR Kx hKx => ?_
   replace hF := HW.rely E hF hR
   clear hR
   go_simp
   try (unfold stored; go_simp)
   refine hKx _ _ ⟨?_,?_⟩
   ·
    co_still (T _)
   clear hKx Kx
   try walk_nrm
  refine za0 C rfl (by rfl) fun _ hR Kx hKx => ?_
  replace hF := HW.rely E hF hR
  clear hR
  have hc := hF.cells
  go_simp
  try (unfold stored; go_simp)
  refine hKx _ _ ⟨?_,?_⟩
  ·
   exact dm_own E hF.size (hF.ownSet _ _) (by co_evs (exact ze2 rfl hF.mr))
  clear hKx Kx
  try walk_nrm
  clear hc
  replace hF := hF.setO Fi 2 (.slice x1 (tk ++ [r]).length c1) (.slice x1 (tk ++ [r]).length c1) false rfl
  rw [show (tk ++ [r]).length = tk.length + 1 by simp] at hF
  refine za3 C T ?_
  exact ⟨.inl rfl,rfl,_,resultsC_none (by rfl) _, .inl ⟨r,l2,_,by first | rfl | trivial,rfl,hF⟩⟩
end
end
end Go.Proofs.YtgcaionclkbehaaGreatDoor
