/-
  Goroutine 0 beside the child: (*strings.Builder).WriteRune, on.
-/
import Derived.Test.YtgcaionclkbehaaGreatDoorWrite
import Derived.Lib.Builder
set_option linter.all false
set_option linter.unusedSectionVars false
set_option linter.unusedSimpArgs false
namespace Go.Proofs.YtgcaionclkbehaaGreatDoor
open Go.Conc Go.RowKit
section
variable {ι : Type} {R : ι → World → World → Prop} {D : ι → World → World → Array Event → Prop} {X : ι → Goroutine → World → Prop} {i : ι} {M : World → Nat → Prop} {O : Nat → Prop} {N0 : Nat} {Ex : Nat → Prop} {w₀ w w₁ : World} {Bb : Nat} {p u v : Value} {n : Nat} {xs : List Value}
variable {r : Int}
theorem HM.slice (h : HM M O N0 Ex w₀ Bb p u v n xs w) : ∃ x c, v = .slice x n c := by
  rcases h.row.2 with ⟨rfl, rfl⟩ | ⟨g, cap, cur, rfl, _⟩
  · exact ⟨_, _, rfl⟩
  · exact ⟨_, _, rfl⟩
/-- An entry that only hands a value back. -/
theorem opsI_entry {ι : Type} {P : Program} {main : Bool} {R : ι → World → World → Prop} {D : ι → World → World → Array Event → Prop} {X : ι → Goroutine → World → Prop} {fn : FuncId} {Q : PostI ι} {a : Act} {w : World} {vs : ι} (C : ClosedI P main R D X) (T : ∀ i, Terms (R i) (D i))
    {ops : Array Oper} {i : Nat} {rest : List Nat} {o : Oper} {f : FuncId} {f₀ : Func} {as₀ : Array Operand} {ats : Array TypeId} {e : Array Value → Sem Value} {x : Value} (ho : ops[i]? = some o) (hw : Region.wanted o (yielded ops a.tmps) = true) (hop : o.op = .call { callee := .value (.func f), args := as₀, argTypes := ats })
    (hf : P.funcs[f]? = some f₀) (hname : (f₀.name == "runtime.NumGoroutine") = false) (hb : f₀.body.isNone = true) (hn : Extern.findNext f₀ = none) (he : Extern.find f₀ = some e) {args' : Array Value} (hargs : as₀.map a.eval = args') (hrun : ∀ w, (e args').run P w = .ok x w) (hev : ∀ w es, (e args').events P w es = es)
    (h : OpsI X fn ops rest vs Q (a.put o.dst x) w) : OpsI X fn ops (i :: rest) vs Q a w := fun b k cs hb' hk hc => C.step rfl fun w₁ h₁ => by
  subst hargs
  rw [stepG_entry ho hw hk hop hf hname hb hn he (hrun w₁) (evs := #[]) (by rw [hev]; rfl) (by simp)]
  exact ⟨(T vs).idle _, C.rely (h b k cs hb' hk hc) h₁⟩
set_option maxRecDepth 100000 in
set_option maxHeartbeats 2000000 in
theorem appendRune_x (C : ClosedI Tryz.prog true R D X) (T : ∀ i, Terms (R i) (D i)) (E : Env KTs N0 M O (R i) (D i)) (hF : HM M O N0 Ex w₀ Bb p u v n xs w) (hg : Good r) (hn : n ≤ 1000000) :
    CallsI Tryz.prog X 275 #[v, .int .i32 r] i w (fun i' x w' => i' = i ∧ HM M O N0 Ex w₀ Bb p u x (n + (Lib.runeCells r).length) (xs ++ Lib.runeCells r) w') := by
  have evp : ∀ (w : World) (es : Array Event) (a : Addr) (m : Mode) (x : Option Addr), (store a (.pointer x) m).events Tryz.prog w es = storedEv Tryz.prog w es a (.pointer x) m := fun w es a m x => events_store Tryz.prog w es a _ m rfl
  have evl : ∀ (w : World) (es : Array Event) (a : Addr) (m : Mode) (x : Option Addr) (l c : Nat), (store a (.slice x l c) m).events Tryz.prog w es = storedEv Tryz.prog w es a (.slice x l c) m := fun w es a m x l c => events_store Tryz.prog w es a _ m rfl
  have hg0 : 0 ≤ r ∧ r ≤ 1114111 := by rcases hg with h | h <;> omega
  have hu : IntKind.u32.wrap r = r := by rw [IntKind.wrap_u32]; omega
  refine callsI_of Tryz.func275 (by rfl) rfl ?_
  simp only [Tryz.ntmps275, List.size_toArray, List.length_cons, List.length_nil, Nat.reduceAdd, Nat.reduceSub, Array.replicate_succ, Array.replicate_zero, List.push_toArray, List.append_toArray, List.nil_append, List.cons_append]
  refine wpI_seq C T ?_
  refine wpI_region C T ?_
  simp only [List.size_toArray, List.length_cons, List.length_nil, Nat.reduceAdd, Nat.zero_add, List.range, List.range.loop]
  refine opsI_cons C rfl (by rfl) fun _ hR Kx hKx => ?_
  replace hF := HM.rely E hF hR
  clear hR
  go_simp
  try (unfold stored; go_simp)
  refine hKx _ _ ⟨?_, ?_⟩
  · co_quiet (T _)
  clear hKx Kx
  try walk_nrm
  refine opsI_nil C T ?_
  show wpI _ _ _ _ _ _ _
  refine wpI_seq C T ?_
  refine wpI_seq C T ?_
  refine wpI_region C T ?_
  simp only [List.size_toArray, List.length_cons, List.length_nil, Nat.reduceAdd, Nat.zero_add, List.range, List.range.loop]
  refine opsI_cons C rfl (by rfl) fun _ hR Kx hKx => ?_
  replace hF := HM.rely E hF hR
  clear hR
  go_simp
  try (unfold stored; go_simp)
  refine hKx _ _ ⟨?_, ?_⟩
  · co_quiet (T _)
  clear hKx Kx
  try walk_nrm
  refine opsI_cons C rfl (by rfl) fun _ hR Kx hKx => ?_
  replace hF := HM.rely E hF hR
  clear hR
  go_simp
  try (unfold stored; go_simp)
  refine hKx _ _ ⟨?_, ?_⟩
  · co_quiet (T _)
  clear hKx Kx
  try walk_nrm
  refine opsI_cons C rfl (by rfl) fun _ hR Kx hKx => ?_
  replace hF := HM.rely E hF hR
  clear hR
  go_simp
  try (unfold stored; go_simp)
  refine hKx _ _ ⟨?_, ?_⟩
  · co_quiet (T _)
  clear hKx Kx
  try walk_nrm
  refine opsI_nil C T ?_
  show wpI _ _ _ _ _ _ _
  by_cases h1 : r ≤ 127
  · have hb1 : decide (r ≤ 127) = true := decide_eq_true h1
    have hu8 : IntKind.u8.wrap r = r := by rw [IntKind.wrap_u8]; omega
    try simp only [hb1]
    refine wpI_cond C T (t := true) rfl ?_
    simp only [if_true, if_false, reduceIte, Bool.false_eq_true]
    refine wpI_seq C T ?_
    refine wpI_region C T ?_
    simp only [List.size_toArray, List.length_cons, List.length_nil, Nat.reduceAdd, Nat.zero_add, List.range, List.range.loop]
    refine opsI_cons C rfl (by rfl) fun _ hR Kx hKx => ?_
    replace hF := HM.rely E hF hR
    clear hR
    go_simp
    try (unfold stored; go_simp)
    refine hKx _ _ ⟨?_, ?_⟩
    · co_quiet (T _)
    clear hKx Kx
    try walk_nrm
    refine opsI_cons C rfl (by rfl) fun _ hR Kx hKx => ?_
    replace hF := HM.rely E hF hR
    clear hR
    go_simp
    try (unfold stored; go_simp)
    refine hKx _ _ ⟨?_, ?_⟩
    · co_quiet (T _)
    clear hKx Kx
    try walk_nrm
    refine opsI_cons C rfl (by rfl) fun _ hR Kx hKx => ?_
    replace hF := HM.rely E hF hR
    clear hR
    go_simp
    try (unfold stored; go_simp)
    refine hKx _ _ ⟨?_, ?_⟩
    · co_quiet (T _)
    clear hKx Kx
    try walk_nrm
    have hrc : Lib.runeCells r = [.int .u8 r] := by simp [Lib.runeCells, Lib.encodeRuneZ_one hg0.1 h1]
    refine opsI_cons C rfl (by rfl) fun _ hR Kx hKx => ?_
    replace hF := HM.rely E hF hR
    clear hR
    go_simp
    refine hKx _ _ ⟨?_, ?_⟩
    · refine dm_alloc E (by simp [KTs]) hF.size ?_
      co_evs (skip)
    clear hKx Kx
    try walk_nrm
    replace hF := hF.built E [.int .u8 r]
    refine opsI_cons C rfl (by rfl) fun _ hR Kx hKx => ?_
    replace hF := HA.rely E hF hR
    clear hR
    obtain ⟨v₂, w₂, hrun, hF₂, hD, hne⟩ := append_m E hF (by simp [Value.oneCell']) (by simp; omega) 55
    refine uponK_append (Operand.tmp 8) (Operand.tmp 11) 55 rfl rfl rfl hrun (hKx _ _ ⟨?_, ?_⟩)
    · have hsn := seen_eq (P := Tryz.prog) (fn := 275) (by kernel_rfl) (fun e he f h => by cases hne e he _ h)
      unfold listed
      rw [events_append_op (Operand.tmp 8) (Operand.tmp 11) 55 rfl rfl rfl]
      exact (congrArg (D i _ _) hsn).mpr hD
    clear hKx Kx hrun hD hne
    replace hF := hF₂
    try walk_nrm
    refine opsI_cons C rfl (by rfl) fun _ hR Kx hKx => ?_
    replace hF := HM.rely E hF hR
    clear hR
    go_simp
    try (unfold stored; go_simp)
    refine hKx _ _ ⟨?_, ?_⟩
    · co_quiet (T _)
    clear hKx Kx
    try walk_nrm
    refine opsI_nil C T ?_
    show wpI _ _ _ _ _ _ _
    refine wpI_ret C T ?_
    exact ⟨.inr rfl, rfl, _, resultsC_tmp (t := 4) (by rfl) _, rfl, by rw [hrc]; exact hF⟩
  · have hb1 : decide (r ≤ 127) = false := decide_eq_false h1
    try simp only [hb1]
    refine wpI_cond C T (t := false) rfl ?_
    simp only [if_true, if_false, reduceIte, Bool.false_eq_true]
    refine wpI_skip C T ?_
    show wpI _ _ _ _ _ _ _
    refine wpI_seq C T ?_
    refine wpI_region C T ?_
    simp only [List.size_toArray, List.length_cons, List.length_nil, Nat.reduceAdd, Nat.zero_add, List.range, List.range.loop]
    refine opsI_cons C rfl (by rfl) fun _ hR Kx hKx => ?_
    replace hF := HM.rely E hF hR
    clear hR
    go_simp
    try (unfold stored; go_simp)
    refine hKx _ _ ⟨?_, ?_⟩
    · co_quiet (T _)
    clear hKx Kx
    try walk_nrm
    refine opsI_cons C rfl (by rfl) fun _ hR Kx hKx => ?_
    replace hF := HM.rely E hF hR
    clear hR
    go_simp
    try (unfold stored; go_simp)
    refine hKx _ _ ⟨?_, ?_⟩
    · co_quiet (T _)
    clear hKx Kx
    try walk_nrm
    refine opsI_callX C T rfl (by rfl) rfl rfl (by simp [Act.eval]) rfl (nonAscii_x C T E hF hg (by omega) hn) ?_
    rintro _ _ _ ⟨rfl, hF⟩
    try walk_nrm
    refine opsI_cons C rfl (by rfl) fun _ hR Kx hKx => ?_
    replace hF := HM.rely E hF hR
    clear hR
    go_simp
    try (unfold stored; go_simp)
    refine hKx _ _ ⟨?_, ?_⟩
    · co_quiet (T _)
    clear hKx Kx
    try walk_nrm
    refine opsI_nil C T ?_
    show wpI _ _ _ _ _ _ _
    refine wpI_ret C T ?_
    exact ⟨.inr rfl, rfl, _, resultsC_tmp (t := 4) (by rfl) _, rfl, hF⟩
theorem HM.setO (E : Env KTs N0 M O (R i) (D i)) (h : HM M O N0 Ex w₀ Bb p u v n xs w) (o : Nat) (x p' u' : Value) (he : (#[p, u] : Array Value).setIfInBounds o x = #[p', u']) : HM M O N0 Ex w₀ Bb p' u' v n xs (w.setCell ⟨Bb, o, none⟩ x) := by
  have ow := h.ownSet o x
  refine ⟨(setCell_block h.bd _).trans (by rw [he]), E.mine ow h.mb, h.exb, h.ro.same fun k hk => ⟨HC.off' w _ (h.ro.ne h.bd (by decide) hk), E.mine ow (h.ro.own k hk).1⟩, by simpa [World.setCell] using h.size, h.old.own E ow fun b hb hx => HC.off' w _ ?_⟩
  rintro rfl
  rcases h.exb with z | z
  · exact hx z
  · have := E.lt hb; omega
theorem HM.setP (E : Env KTs N0 M O (R i) (D i)) (h : HM M O N0 Ex w₀ Bb p u v n xs w) (p' : Value) : HM M O N0 Ex w₀ Bb p' u v n xs (w.setCell ⟨Bb, 0, none⟩ p') := h.setO E 0 p' p' u rfl
theorem HM.setV (E : Env KTs N0 M O (R i) (D i)) (h : HM M O N0 Ex w₀ Bb p u v n xs w) (u' : Value) : HM M O N0 Ex w₀ Bb p u' v n xs (w.setCell ⟨Bb, 1, none⟩ u') := h.setO E 1 u' p u' rfl
theorem eqs (a : Addr) (w : World) (es : Array Event) : (binOp .eql 117 (.pointer none) (.pointer none)).events Tryz.prog w es = es ∧ (binOp .eql 117 (.pointer (some a)) (.pointer none)).events Tryz.prog w es = es
    ∧ (binOp .neq 117 (.pointer (some a)) (.pointer (some a))).run Tryz.prog w = .ok (.bool false) w ∧ (binOp .neq 117 (.pointer (some a)) (.pointer (some a))).events Tryz.prog w es = es := by
  obtain ⟨j, hj, hj2⟩ := Option.map_eq_some_iff.1 (show (Tryz.prog.info? 119).map (·.size) = some 2 by kernel_rfl)
  have e1 : ∀ x y : Value, binOp .eql 117 x y = binOp .eql 117 x y := fun _ _ => rfl
  refine ⟨?_, ?_, ?_, ?_⟩
  · rw [show binOp .eql 117 (Value.pointer none) (Value.pointer none) = (do pure (.bool (← Op.equal 117 (.pointer none) (.pointer none)))) from rfl, show Op.equal 117 (Value.pointer none) (Value.pointer none) = Op.equalIn (9999 + 1) 117 (.pointer none) (.pointer none) from rfl, Op.equalIn]
    simp [run_underlying Tryz.underlying117, underlying, Tryz.underlying117]
  · rw [show binOp .eql 117 (Value.pointer (some a)) (Value.pointer none) = (do pure (.bool (← Op.equal 117 (.pointer (some a)) (.pointer none)))) from rfl, show Op.equal 117 (Value.pointer (some a)) (Value.pointer none) = Op.equalIn (9999 + 1) 117 (.pointer (some a)) (.pointer none) from rfl, Op.equalIn]
    simp [run_underlying Tryz.underlying117, underlying, Tryz.underlying117]
  · rw [show binOp .neq 117 (Value.pointer (some a)) (Value.pointer (some a)) = (do pure (.bool (!(← Op.equal 117 (.pointer (some a)) (.pointer (some a)))))) from rfl, show Op.equal 117 (Value.pointer (some a)) (Value.pointer (some a)) = Op.equalIn (9999 + 1) 117 (.pointer (some a)) (.pointer (some a)) from rfl, Op.equalIn]
    simp [run_underlying Tryz.underlying117, sizeOf, typeInfo, hj, hj2, sameAddr]
  · rw [show binOp .neq 117 (Value.pointer (some a)) (Value.pointer (some a)) = (do pure (.bool (!(← Op.equal 117 (.pointer (some a)) (.pointer (some a)))))) from rfl, show Op.equal 117 (Value.pointer (some a)) (Value.pointer (some a)) = Op.equalIn (9999 + 1) 117 (.pointer (some a)) (.pointer (some a)) from rfl, Op.equalIn]
    simp [run_underlying Tryz.underlying117, sizeOf, typeInfo, hj, hj2, sameAddr]
theorem from_unsafe {w : World} {b : Nat} {cs : Array Value} (h : w.heap[b]? = some (.cells cs 119)) (hs : cs.size = 2) : (convert 244 117 (.pointer (some ⟨b, 0, none⟩))).run Tryz.prog w = .ok (.pointer (some ⟨b, 0, none⟩)) w ∧ ∀ es, (convert 244 117 (.pointer (some ⟨b, 0, none⟩))).events Tryz.prog w es = es := by
  obtain ⟨j, hj, _⟩ := Option.map_eq_some_iff.1 (show (Tryz.prog.info? 119).map (·.size) = some 2 by kernel_rfl)
  have hsh : w.shape? b = some (119, 2) := by simp [World.shape?, h, hs]
  have hl : liesAt Tryz.prog Tryz.prog.depth 119 (2 / Tryz.prog.cellsOf 119) 0 119 1 = true := by kernel_rfl
  constructor
  · exact Lib.run_from_unsafe w ⟨b, 0, none⟩ Tryz.underlying244 Tryz.underlying117 hj hsh hl
  · intro es
    simp [convert, run_underlying Tryz.underlying244, run_underlying Tryz.underlying117, Conv.unsafePointer, Conv.seenAt, viewAt, hsh, variablesAt, hl, sizeOf, typeInfo, hj]
set_option maxRecDepth 100000 in
set_option maxHeartbeats 2000000 in
theorem copyCheck_x (C : ClosedI Tryz.prog true R D X) (T : ∀ i, Terms (R i) (D i)) (E : Env KTs N0 M O (R i) (D i)) (hF : HM M O N0 Ex w₀ Bb p u v n xs w) (hp : p = .pointer none ∨ p = .pointer (some ⟨Bb, 0, none⟩)) :
    CallsI Tryz.prog X 261 #[.pointer (some ⟨Bb, 0, none⟩)] i w (fun i' _ w' => i' = i ∧ HM M O N0 Ex w₀ Bb (.pointer (some ⟨Bb, 0, none⟩)) u v n xs w') := by
  have evp : ∀ (w : World) (es : Array Event) (a : Addr) (m : Mode) (x : Option Addr), (store a (.pointer x) m).events Tryz.prog w es = storedEv Tryz.prog w es a (.pointer x) m := fun w es a m x => events_store Tryz.prog w es a _ m rfl
  have evl : ∀ (w : World) (es : Array Event) (a : Addr) (m : Mode) (x : Option Addr) (l c : Nat), (store a (.slice x l c) m).events Tryz.prog w es = storedEv Tryz.prog w es a (.slice x l c) m := fun w es a m x l c => events_store Tryz.prog w es a _ m rfl
  have q1 := fun w es => (eqs ⟨Bb, 0, none⟩ w es).1
  have q2 := fun w es => (eqs ⟨Bb, 0, none⟩ w es).2.1
  have q3 := fun w => (eqs ⟨Bb, 0, none⟩ w #[]).2.2.1
  have q4 := fun w es => (eqs ⟨Bb, 0, none⟩ w es).2.2.2
  refine callsI_of Tryz.func261 (by rfl) rfl ?_
  simp only [Tryz.ntmps261, List.size_toArray, List.length_cons, List.length_nil, Nat.reduceAdd, Nat.reduceSub, Array.replicate_succ, Array.replicate_zero, List.push_toArray, List.append_toArray, List.nil_append, List.cons_append]
  rcases hp with rfl | rfl
  · refine wpI_seq C T ?_
    refine wpI_region C T ?_
    simp only [List.size_toArray, List.length_cons, List.length_nil, Nat.reduceAdd, Nat.zero_add, List.range, List.range.loop]
    refine opsI_cons C rfl (by rfl) fun _ hR Kx hKx => ?_
    replace hF := HM.rely E hF hR
    clear hR
    go_simp
    try (unfold stored; go_simp)
    refine hKx _ _ ⟨?_, ?_⟩
    · co_quiet (T _)
    clear hKx Kx
    try walk_nrm
    refine opsI_cons C rfl (by rfl) fun _ hR Kx hKx => ?_
    replace hF := HM.rely E hF hR
    clear hR
    go_simp
    try (unfold stored; go_simp)
    refine hKx _ _ ⟨?_, ?_⟩
    · co_still (T _)
    clear hKx Kx
    try walk_nrm
    refine opsI_cons C rfl (by rfl) fun _ hR Kx hKx => ?_
    replace hF := HM.rely E hF hR
    clear hR
    go_simp
    try (unfold stored; go_simp)
    refine hKx _ _ ⟨?_, ?_⟩
    · co_still (T _)
    clear hKx Kx
    try walk_nrm
    refine opsI_cons C rfl (by rfl) fun _ hR Kx hKx => ?_
    replace hF := HM.rely E hF hR
    clear hR
    have hc := hF.cells
    go_simp
    try (unfold stored; go_simp)
    refine hKx _ _ ⟨?_, ?_⟩
    · refine dm_read E hF.size ?_
      co_evs (exact evo_at rfl hF.mb)
    clear hKx Kx
    try walk_nrm
    clear hc
    refine opsI_cons C rfl (by rfl) fun _ hR Kx hKx => ?_
    replace hF := HM.rely E hF hR
    clear hR
    go_simp
    try (unfold stored; go_simp)
    refine hKx _ _ ⟨?_, ?_⟩
    · co_still (T _)
    clear hKx Kx
    try walk_nrm
    refine opsI_nil C T ?_
    show wpI _ _ _ _ _ _ _
    refine wpI_cond C T (t := true) rfl ?_
    simp only [if_true, if_false, reduceIte, Bool.false_eq_true]
    refine wpI_region C T ?_
    simp only [List.size_toArray, List.length_cons, List.length_nil, Nat.reduceAdd, Nat.zero_add, List.range, List.range.loop]
    refine opsI_cons C rfl (by rfl) fun _ hR Kx hKx => ?_
    replace hF := HM.rely E hF hR
    clear hR
    go_simp
    try (unfold stored; go_simp)
    refine hKx _ _ ⟨?_, ?_⟩
    · co_quiet (T _)
    clear hKx Kx
    try walk_nrm
    refine opsI_cons C rfl (by rfl) fun _ hR Kx hKx => ?_
    replace hF := HM.rely E hF hR
    clear hR
    go_simp
    try (unfold stored; go_simp)
    refine hKx _ _ ⟨?_, ?_⟩
    · co_quiet (T _)
    clear hKx Kx
    try walk_nrm
    refine opsI_cons C rfl (by rfl) fun _ hR Kx hKx => ?_
    replace hF := HM.rely E hF hR
    clear hR
    have hc := hF.cells
    have hcv := run_convert_to_unsafe (P := Tryz.prog) (src := 117) (dst := 244) (t := 119) Tryz.underlying117 Tryz.underlying244 (by kernel_rfl) hc.1
    have hce := fun es => events_convert_to_unsafe (P := Tryz.prog) (src := 117) (dst := 244) (t := 119) Tryz.underlying117 Tryz.underlying244 (by kernel_rfl) hc.1 es
    go_simp
    try (unfold stored; go_simp)
    refine hKx _ _ ⟨?_, ?_⟩
    · co_still (T _)
    clear hKx Kx
    try walk_nrm
    clear hc hcv hce
    refine opsI_entry C T rfl (by rfl) rfl Tryz.func330 (by rfl) (by rfl) (by kernel_rfl) (e := Extern.AbiNoEscape.same) (by kernel_rfl) (x := .pointer (some ⟨Bb, 0, none⟩)) (args' := #[.pointer (some ⟨Bb, 0, none⟩)]) (by simp [Act.eval]) (fun w => Lib.run_noEscape w _) (fun w es => by show Sem.events Tryz.prog (pure (Value.pointer (some ⟨Bb, 0, none⟩)) : Sem Value) w es = es; simp) ?_
    try walk_nrm
    refine opsI_cons C rfl (by rfl) fun _ hR Kx hKx => ?_
    replace hF := HM.rely E hF hR
    clear hR
    have hc := from_unsafe hF.bd rfl
    have hcv := hc.1
    have hce := hc.2
    go_simp
    try (unfold stored; go_simp)
    refine hKx _ _ ⟨?_, ?_⟩
    · co_still (T _)
    clear hKx Kx
    try walk_nrm
    clear hc hcv hce
    refine opsI_cons C rfl (by rfl) fun _ hR Kx hKx => ?_
    replace hF := HM.rely E hF hR
    clear hR
    go_simp
    try (unfold stored; go_simp)
    refine hKx _ _ ⟨?_, ?_⟩
    · co_still (T _)
    clear hKx Kx
    try walk_nrm
    refine opsI_cons C rfl (by rfl) fun _ hR Kx hKx => ?_
    replace hF := HM.rely E hF hR
    clear hR
    go_simp
    try (unfold stored; go_simp)
    refine hKx _ _ ⟨?_, ?_⟩
    · co_still (T _)
    clear hKx Kx
    try walk_nrm
    refine opsI_cons C rfl (by rfl) fun _ hR Kx hKx => ?_
    replace hF := HM.rely E hF hR
    clear hR
    have hc := hF.cells
    go_simp
    try (unfold stored; go_simp)
    refine hKx _ _ ⟨?_, ?_⟩
    · exact dm_write E hF (by co_evs (exact evo_at rfl hF.mb))
    clear hKx Kx
    try walk_nrm
    clear hc
    replace hF := hF.setP E (.pointer (some ⟨Bb, 0, none⟩))
    refine opsI_nil C T ?_
    exact ⟨.inl rfl, rfl, _, resultsC_none (by rfl) _, rfl, hF⟩
  · refine wpI_seq C T ?_
    refine wpI_region C T ?_
    simp only [List.size_toArray, List.length_cons, List.length_nil, Nat.reduceAdd, Nat.zero_add, List.range, List.range.loop]
    refine opsI_cons C rfl (by rfl) fun _ hR Kx hKx => ?_
    replace hF := HM.rely E hF hR
    clear hR
    go_simp
    try (unfold stored; go_simp)
    refine hKx _ _ ⟨?_, ?_⟩
    · co_quiet (T _)
    clear hKx Kx
    try walk_nrm
    refine opsI_cons C rfl (by rfl) fun _ hR Kx hKx => ?_
    replace hF := HM.rely E hF hR
    clear hR
    go_simp
    try (unfold stored; go_simp)
    refine hKx _ _ ⟨?_, ?_⟩
    · co_still (T _)
    clear hKx Kx
    try walk_nrm
    refine opsI_cons C rfl (by rfl) fun _ hR Kx hKx => ?_
    replace hF := HM.rely E hF hR
    clear hR
    go_simp
    try (unfold stored; go_simp)
    refine hKx _ _ ⟨?_, ?_⟩
    · co_still (T _)
    clear hKx Kx
    try walk_nrm
    refine opsI_cons C rfl (by rfl) fun _ hR Kx hKx => ?_
    replace hF := HM.rely E hF hR
    clear hR
    have hc := hF.cells
    go_simp
    try (unfold stored; go_simp)
    refine hKx _ _ ⟨?_, ?_⟩
    · refine dm_read E hF.size ?_
      co_evs (exact evo_at rfl hF.mb)
    clear hKx Kx
    try walk_nrm
    clear hc
    refine opsI_cons C rfl (by rfl) fun _ hR Kx hKx => ?_
    replace hF := HM.rely E hF hR
    clear hR
    go_simp
    try (unfold stored; go_simp)
    refine hKx _ _ ⟨?_, ?_⟩
    · co_still (T _)
    clear hKx Kx
    try walk_nrm
    refine opsI_nil C T ?_
    show wpI _ _ _ _ _ _ _
    refine wpI_cond C T (t := false) rfl ?_
    simp only [if_true, if_false, reduceIte, Bool.false_eq_true]
    refine wpI_seq C T ?_
    refine wpI_region C T ?_
    simp only [List.size_toArray, List.length_cons, List.length_nil, Nat.reduceAdd, Nat.zero_add, List.range, List.range.loop]
    refine opsI_cons C rfl (by rfl) fun _ hR Kx hKx => ?_
    replace hF := HM.rely E hF hR
    clear hR
    go_simp
    try (unfold stored; go_simp)
    refine hKx _ _ ⟨?_, ?_⟩
    · co_quiet (T _)
    clear hKx Kx
    try walk_nrm
    refine opsI_cons C rfl (by rfl) fun _ hR Kx hKx => ?_
    replace hF := HM.rely E hF hR
    clear hR
    go_simp
    try (unfold stored; go_simp)
    refine hKx _ _ ⟨?_, ?_⟩
    · co_still (T _)
    clear hKx Kx
    try walk_nrm
    refine opsI_cons C rfl (by rfl) fun _ hR Kx hKx => ?_
    replace hF := HM.rely E hF hR
    clear hR
    go_simp
    try (unfold stored; go_simp)
    refine hKx _ _ ⟨?_, ?_⟩
    · co_still (T _)
    clear hKx Kx
    try walk_nrm
    refine opsI_cons C rfl (by rfl) fun _ hR Kx hKx => ?_
    replace hF := HM.rely E hF hR
    clear hR
    have hc := hF.cells
    go_simp
    try (unfold stored; go_simp)
    refine hKx _ _ ⟨?_, ?_⟩
    · refine dm_read E hF.size ?_
      co_evs (exact evo_at rfl hF.mb)
    clear hKx Kx
    try walk_nrm
    clear hc
    refine opsI_cons C rfl (by rfl) fun _ hR Kx hKx => ?_
    replace hF := HM.rely E hF hR
    clear hR
    go_simp
    try (unfold stored; go_simp)
    refine hKx _ _ ⟨?_, ?_⟩
    · co_quiet (T _)
    clear hKx Kx
    try walk_nrm
    refine opsI_cons C rfl (by rfl) fun _ hR Kx hKx => ?_
    replace hF := HM.rely E hF hR
    clear hR
    go_simp
    try (unfold stored; go_simp)
    refine hKx _ _ ⟨?_, ?_⟩
    · co_still (T _)
    clear hKx Kx
    try walk_nrm
    refine opsI_nil C T ?_
    show wpI _ _ _ _ _ _ _
    refine wpI_cond C T (t := false) rfl ?_
    simp only [if_true, if_false, reduceIte, Bool.false_eq_true]
    refine wpI_skip C T ?_
    exact ⟨.inl rfl, rfl, _, resultsC_none (by rfl) _, rfl, hF⟩
set_option maxRecDepth 100000 in
set_option maxHeartbeats 2000000 in
theorem writeRune_x (C : ClosedI Tryz.prog true R D X) (T : ∀ i, Terms (R i) (D i)) (E : Env KTs N0 M O (R i) (D i)) (hF : HM M O N0 Ex w₀ Bb p v v n xs w) (hp : p = .pointer none ∨ p = .pointer (some ⟨Bb, 0, none⟩)) (hg : Good r) (hn : n ≤ 1000000) :
    CallsI Tryz.prog X 180 #[.pointer (some ⟨Bb, 0, none⟩), .int .i32 r] i w (fun i' _ w' => i' = i ∧ ∃ v', HM M O N0 Ex w₀ Bb (.pointer (some ⟨Bb, 0, none⟩)) v' v' (n + (Lib.runeCells r).length) (xs ++ Lib.runeCells r) w') := by
  have evp : ∀ (w : World) (es : Array Event) (a : Addr) (m : Mode) (x : Option Addr), (store a (.pointer x) m).events Tryz.prog w es = storedEv Tryz.prog w es a (.pointer x) m := fun w es a m x => events_store Tryz.prog w es a _ m rfl
  have evl : ∀ (w : World) (es : Array Event) (a : Addr) (m : Mode) (x : Option Addr) (l c : Nat), (store a (.slice x l c) m).events Tryz.prog w es = storedEv Tryz.prog w es a (.slice x l c) m := fun w es a m x l c => events_store Tryz.prog w es a _ m rfl
  have hrl := Lib.runeCells_le r
  refine callsI_of Tryz.func180 (by rfl) rfl ?_
  simp only [Tryz.ntmps180, List.size_toArray, List.length_cons, List.length_nil, Nat.reduceAdd, Nat.reduceSub, Array.replicate_succ, Array.replicate_zero, List.push_toArray, List.append_toArray, List.nil_append, List.cons_append]
  refine wpI_seq C T ?_
  refine wpI_region C T ?_
  simp only [List.size_toArray, List.length_cons, List.length_nil, Nat.reduceAdd, Nat.zero_add, List.range, List.range.loop]
  refine opsI_cons C rfl (by rfl) fun _ hR Kx hKx => ?_
  replace hF := HM.rely E hF hR
  clear hR
  go_simp
  try (unfold stored; go_simp)
  refine hKx _ _ ⟨?_, ?_⟩
  · co_quiet (T _)
  clear hKx Kx
  try walk_nrm
  refine opsI_cons C rfl (by rfl) fun _ hR Kx hKx => ?_
  replace hF := HM.rely E hF hR
  clear hR
  go_simp
  try (unfold stored; go_simp)
  refine hKx _ _ ⟨?_, ?_⟩
  · co_quiet (T _)
  clear hKx Kx
  try walk_nrm
  refine opsI_nil C T ?_
  show wpI _ _ _ _ _ _ _
  refine wpI_seq C T ?_
  refine wpI_region C T ?_
  simp only [List.size_toArray, List.length_cons, List.length_nil, Nat.reduceAdd, Nat.zero_add, List.range, List.range.loop]
  refine opsI_cons C rfl (by rfl) fun _ hR Kx hKx => ?_
  replace hF := HM.rely E hF hR
  clear hR
  go_simp
  try (unfold stored; go_simp)
  refine hKx _ _ ⟨?_, ?_⟩
  · co_quiet (T _)
  clear hKx Kx
  try walk_nrm
  refine opsI_callX C T rfl (by rfl) rfl rfl (by simp [Act.eval]) rfl (copyCheck_x C T E hF hp) ?_
  rintro _ _ _ ⟨rfl, hF⟩
  try walk_nrm
  refine opsI_nil C T ?_
  show wpI _ _ _ _ _ _ _
  obtain ⟨x0, c0, hv0⟩ := hF.slice
  refine wpI_seq C T ?_
  refine wpI_region C T ?_
  simp only [List.size_toArray, List.length_cons, List.length_nil, Nat.reduceAdd, Nat.zero_add, List.range, List.range.loop]
  refine opsI_cons C rfl (by rfl) fun _ hR Kx hKx => ?_
  replace hF := HM.rely E hF hR
  clear hR
  go_simp
  try (unfold stored; go_simp)
  refine hKx _ _ ⟨?_, ?_⟩
  · co_quiet (T _)
  clear hKx Kx
  try walk_nrm
  refine opsI_cons C rfl (by rfl) fun _ hR Kx hKx => ?_
  replace hF := HM.rely E hF hR
  clear hR
  go_simp
  try (unfold stored; go_simp)
  refine hKx _ _ ⟨?_, ?_⟩
  · co_still (T _)
  clear hKx Kx
  try walk_nrm
  refine opsI_cons C rfl (by rfl) fun _ hR Kx hKx => ?_
  replace hF := HM.rely E hF hR
  clear hR
  go_simp
  try (unfold stored; go_simp)
  refine hKx _ _ ⟨?_, ?_⟩
  · co_still (T _)
  clear hKx Kx
  try walk_nrm
  refine opsI_cons C rfl (by rfl) fun _ hR Kx hKx => ?_
  replace hF := HM.rely E hF hR
  clear hR
  have hc := hF.cells
  go_simp
  try (unfold stored; go_simp)
  refine hKx _ _ ⟨?_, ?_⟩
  · refine dm_read E hF.size ?_
    co_evs (exact evo_at rfl hF.mb)
  clear hKx Kx
  try walk_nrm
  clear hc
  subst hv0
  refine opsI_cons C rfl (by rfl) fun _ hR Kx hKx => ?_
  replace hF := HM.rely E hF hR
  clear hR
  go_simp
  try (unfold stored; go_simp)
  refine hKx _ _ ⟨?_, ?_⟩
  · co_still (T _)
  clear hKx Kx
  try walk_nrm
  refine opsI_cons C rfl (by rfl) fun _ hR Kx hKx => ?_
  replace hF := HM.rely E hF hR
  clear hR
  go_simp
  try (unfold stored; go_simp)
  refine hKx _ _ ⟨?_, ?_⟩
  · co_quiet (T _)
  clear hKx Kx
  try walk_nrm
  refine opsI_nil C T ?_
  show wpI _ _ _ _ _ _ _
  refine wpI_seq C T ?_
  refine wpI_region C T ?_
  simp only [List.size_toArray, List.length_cons, List.length_nil, Nat.reduceAdd, Nat.zero_add, List.range, List.range.loop]
  refine opsI_cons C rfl (by rfl) fun _ hR Kx hKx => ?_
  replace hF := HM.rely E hF hR
  clear hR
  go_simp
  try (unfold stored; go_simp)
  refine hKx _ _ ⟨?_, ?_⟩
  · co_quiet (T _)
  clear hKx Kx
  try walk_nrm
  refine opsI_cons C rfl (by rfl) fun _ hR Kx hKx => ?_
  replace hF := HM.rely E hF hR
  clear hR
  go_simp
  try (unfold stored; go_simp)
  refine hKx _ _ ⟨?_, ?_⟩
  · co_quiet (T _)
  clear hKx Kx
  try walk_nrm
  refine opsI_cons C rfl (by rfl) fun _ hR Kx hKx => ?_
  replace hF := HM.rely E hF hR
  clear hR
  go_simp
  try (unfold stored; go_simp)
  refine hKx _ _ ⟨?_, ?_⟩
  · co_still (T _)
  clear hKx Kx
  try walk_nrm
  refine opsI_cons C rfl (by rfl) fun _ hR Kx hKx => ?_
  replace hF := HM.rely E hF hR
  clear hR
  go_simp
  try (unfold stored; go_simp)
  refine hKx _ _ ⟨?_, ?_⟩
  · co_still (T _)
  clear hKx Kx
  try walk_nrm
  refine opsI_cons C rfl (by rfl) fun _ hR Kx hKx => ?_
  replace hF := HM.rely E hF hR
  clear hR
  have hc := hF.cells
  go_simp
  try (unfold stored; go_simp)
  refine hKx _ _ ⟨?_, ?_⟩
  · refine dm_read E hF.size ?_
    co_evs (exact evo_at rfl hF.mb)
  clear hKx Kx
  try walk_nrm
  clear hc
  refine opsI_cons C rfl (by rfl) fun _ hR Kx hKx => ?_
  replace hF := HM.rely E hF hR
  clear hR
  go_simp
  try (unfold stored; go_simp)
  refine hKx _ _ ⟨?_, ?_⟩
  · co_quiet (T _)
  clear hKx Kx
  try walk_nrm
  refine opsI_callX C T rfl (by rfl) rfl rfl (by simp [Act.eval]) rfl (appendRune_x C T E hF hg hn) ?_
  rintro _ v₁ _ ⟨rfl, hF⟩
  try walk_nrm
  obtain ⟨x1, c1, rfl⟩ := hF.slice
  refine opsI_cons C rfl (by rfl) fun _ hR Kx hKx => ?_
  replace hF := HM.rely E hF hR
  clear hR
  go_simp
  try (unfold stored; go_simp)
  refine hKx _ _ ⟨?_, ?_⟩
  · co_still (T _)
  clear hKx Kx
  try walk_nrm
  refine opsI_cons C rfl (by rfl) fun _ hR Kx hKx => ?_
  replace hF := HM.rely E hF hR
  clear hR
  go_simp
  try (unfold stored; go_simp)
  refine hKx _ _ ⟨?_, ?_⟩
  · co_still (T _)
  clear hKx Kx
  try walk_nrm
  refine opsI_cons C rfl (by rfl) fun _ hR Kx hKx => ?_
  replace hF := HM.rely E hF hR
  clear hR
  have hc := hF.cells
  go_simp
  try (unfold stored; go_simp)
  refine hKx _ _ ⟨?_, ?_⟩
  · exact dm_write E hF (by co_evs (exact evo_at rfl hF.mb))
  clear hKx Kx
  try walk_nrm
  clear hc
  replace hF := hF.setV E (.slice x1 (n + (Lib.runeCells r).length) c1)
  refine opsI_nil C T ?_
  show wpI _ _ _ _ _ _ _
  refine wpI_seq C T ?_
  refine wpI_region C T ?_
  simp only [List.size_toArray, List.length_cons, List.length_nil, Nat.reduceAdd, Nat.zero_add, List.range, List.range.loop]
  refine opsI_cons C rfl (by rfl) fun _ hR Kx hKx => ?_
  replace hF := HM.rely E hF hR
  clear hR
  go_simp
  try (unfold stored; go_simp)
  refine hKx _ _ ⟨?_, ?_⟩
  · co_quiet (T _)
  clear hKx Kx
  try walk_nrm
  refine opsI_cons C rfl (by rfl) fun _ hR Kx hKx => ?_
  replace hF := HM.rely E hF hR
  clear hR
  go_simp
  try (unfold stored; go_simp)
  refine hKx _ _ ⟨?_, ?_⟩
  · co_still (T _)
  clear hKx Kx
  try walk_nrm
  refine opsI_cons C rfl (by rfl) fun _ hR Kx hKx => ?_
  replace hF := HM.rely E hF hR
  clear hR
  go_simp
  try (unfold stored; go_simp)
  refine hKx _ _ ⟨?_, ?_⟩
  · co_still (T _)
  clear hKx Kx
  try walk_nrm
  refine opsI_cons C rfl (by rfl) fun _ hR Kx hKx => ?_
  replace hF := HM.rely E hF hR
  clear hR
  have hc := hF.cells
  go_simp
  try (unfold stored; go_simp)
  refine hKx _ _ ⟨?_, ?_⟩
  · refine dm_read E hF.size ?_
    co_evs (exact evo_at rfl hF.mb)
  clear hKx Kx
  try walk_nrm
  clear hc
  refine opsI_cons C rfl (by rfl) fun _ hR Kx hKx => ?_
  replace hF := HM.rely E hF hR
  clear hR
  go_simp
  try (unfold stored; go_simp)
  refine hKx _ _ ⟨?_, ?_⟩
  · co_still (T _)
  clear hKx Kx
  try walk_nrm
  refine opsI_cons C rfl (by rfl) fun _ hR Kx hKx => ?_
  replace hF := HM.rely E hF hR
  clear hR
  go_simp
  try (unfold stored; go_simp)
  refine hKx _ _ ⟨?_, ?_⟩
  · co_quiet (T _)
  clear hKx Kx
  try walk_nrm
  refine opsI_cons C rfl (by rfl) fun _ hR Kx hKx => ?_
  replace hF := HM.rely E hF hR
  clear hR
  go_simp
  try (unfold stored; go_simp)
  refine hKx _ _ ⟨?_, ?_⟩
  · co_quiet (T _)
  clear hKx Kx
  try walk_nrm
  refine opsI_cons C rfl (by rfl) fun _ hR Kx hKx => ?_
  replace hF := HM.rely E hF hR
  clear hR
  go_simp
  try (unfold stored; go_simp)
  refine hKx _ _ ⟨?_, ?_⟩
  · co_quiet (T _)
  clear hKx Kx
  try walk_nrm
  refine opsI_cons C rfl (by rfl) fun _ hR Kx hKx => ?_
  replace hF := HM.rely E hF hR
  clear hR
  go_simp
  try (unfold stored; go_simp)
  refine hKx _ _ ⟨?_, ?_⟩
  · co_quiet (T _)
  clear hKx Kx
  try walk_nrm
  refine opsI_nil C T ?_
  show wpI _ _ _ _ _ _ _
  refine wpI_ret C T ?_
  exact ⟨.inr rfl, rfl, _, resultsC_tmp2 (by rfl) _, rfl, _, hF⟩
end
end Go.Proofs.YtgcaionclkbehaaGreatDoor
