/-
  Goroutine 0 beside the child: (*strings.Builder).WriteRune, on.
-/
import Derived.Test.YtmabfdpfegbfkaaGreatWrite
import Derived.Lib.Builder
set_option linter.all false
set_option linter.unusedSectionVars false
set_option linter.unusedSimpArgs false
namespace Go.Proofs.YtmabfdpfegbfkaaGreat
open Go.Conc Go.RowKit
section
variable {N Pb Bb : Nat} {Shun : Loc → Prop} {val : Value} {B Low : Nat} {Mine : Loc → Prop} {w₀ w w₁ : World} {AnchW : Goroutine → World → Prop} {p u v : Value} {n : Nat} {xs : List Value}
theorem HM.slice (h : HM w₀ N Pb Bb p u v n xs w) : ∃ x c, v = .slice x n c := by
  rcases h.row.2 with ⟨rfl, rfl⟩ | ⟨g, cap, cur, rfl, _⟩
  · exact ⟨_, _, rfl⟩
  · exact ⟨_, _, rfl⟩
variable [Go.ConcR.Payload] [Go.ConcX.Payload]
variable [Go.ConcX.Shy (Cfg.Wg (kcfg Tryz.prog N Pb Shun val B Low Mine)) (Cfg.C (kcfg Tryz.prog N Pb Shun val B Low Mine))]
variable {vs : List Value} {r : Int}
/-- An entry that only hands a value back. -/
theorem opsI_entry {ι : Type} {P : Program} {main : Bool} {R : ι → World → World → Prop} {D : ι → World → World → Array Event → Prop} {X : ι → Goroutine → World → Prop} {fn : FuncId} {Q : PostI ι} {a : Act} {w : World} {vs : ι} (C : ClosedI P main R D X) (T : ∀ i, Terms (R i) (D i))
    {ops : Array Oper} {i : Nat} {rest : List Nat} {o : Oper} {f : FuncId} {f₀ : Func} {as₀ : Array Operand} {ats : Array TypeId} {e : Array Value → Sem Value} {x : Value} (ho : ops[i]? = some o) (hw : Region.wanted o (yielded ops a.tmps) = true) (hop : o.op = .call { callee := .value (.func f), args := as₀, argTypes := ats })
    (hf : P.funcs[f]? = some f₀) (hname : (f₀.name == "runtime.NumGoroutine") = false) (hb : f₀.body.isNone = true) (hn : Extern.findNext f₀ = none) (he : Extern.find f₀ = some e) {args' : Array Value} (hargs : as₀.map a.eval = args') (hrun : ∀ w, (e args').run P w = .ok x w) (hev : ∀ w es, (e args').events P w es = es)
    (h : OpsI X fn ops rest vs Q (a.put o.dst x) w) : OpsI X fn ops (i :: rest) vs Q a w := fun b k cs hb' hk hc => C.step rfl fun w₁ h₁ => by
  subst hargs
  rw [stepG_entry ho hw hk hop hf hname hb hn he (hrun w₁) (evs := #[]) (by rw [hev]; rfl) (by simp)]
  exact ⟨(T vs).idle _, C.rely (h b k cs hb' hk hc) h₁⟩
set_option maxRecDepth 100000 in
set_option maxHeartbeats 2000000 in
theorem appendRune_x (hS : Clear N Bb Shun) (hF : HM w₀ N Pb Bb p u v n xs w) (hg : Good r) (hn : n ≤ 1000000) :
    CallsI Tryz.prog (XM (kcfg Tryz.prog N Pb Shun val B Low Mine) AnchW) 54 #[v, .int .i32 r] (.walk vs) w (fun i' x w' => i' = .walk vs ∧ HM w₀ N Pb Bb p u x (n + (Lib.runeCells r).length) (xs ++ Lib.runeCells r) w') := by
  have C : ClosedI Tryz.prog true (RMd (kcfg Tryz.prog N Pb Shun val B Low Mine)) (DMd (kcfg Tryz.prog N Pb Shun val B Low Mine)) (XM (kcfg Tryz.prog N Pb Shun val B Low Mine) AnchW) := XM.closed (K := (kcfg Tryz.prog N Pb Shun val B Low Mine))
  have T := termsM (K := (kcfg Tryz.prog N Pb Shun val B Low Mine))
  have Tq : Terms (RM (kcfg Tryz.prog N Pb Shun val B Low Mine)) (DM (kcfg Tryz.prog N Pb Shun val B Low Mine)) := T (.walk [])
  have evp : ∀ (w : World) (es : Array Event) (a : Addr) (m : Mode) (x : Option Addr), (store a (.pointer x) m).events Tryz.prog w es = storedEv Tryz.prog w es a (.pointer x) m := fun w es a m x => events_store Tryz.prog w es a _ m rfl
  have evl : ∀ (w : World) (es : Array Event) (a : Addr) (m : Mode) (x : Option Addr) (l c : Nat), (store a (.slice x l c) m).events Tryz.prog w es = storedEv Tryz.prog w es a (.slice x l c) m := fun w es a m x l c => events_store Tryz.prog w es a _ m rfl
  have hg0 : 0 ≤ r ∧ r ≤ 1114111 := by rcases hg with h | h <;> omega
  have hu : IntKind.u32.wrap r = r := by rw [IntKind.wrap_u32]; omega
  refine callsI_of Tryz.func54 (by rfl) rfl ?_
  simp only [Tryz.ntmps54, List.size_toArray, List.length_cons, List.length_nil, Nat.reduceAdd, Nat.reduceSub, Array.replicate_succ, Array.replicate_zero, List.push_toArray, List.append_toArray, List.nil_append, List.cons_append]
  refine wpI_seq C T ?_
  refine wpI_region C T ?_
  simp only [List.size_toArray, List.length_cons, List.length_nil, Nat.reduceAdd, Nat.zero_add, List.range, List.range.loop]
  refine opsI_cons C rfl (by rfl) fun _ hR Kx hKx => ?_
  replace hF := HM.rely (i := .join) hF hR
  clear hR
  go_simp
  try (unfold stored; go_simp)
  refine hKx _ _ ⟨?_, ?_⟩
  · co_quiet Tq
  clear hKx Kx
  try walk_nrm
  refine opsI_nil C T ?_
  show wpI _ _ _ _ _ _ _
  refine wpI_seq C T ?_
  refine wpI_seq C T ?_
  refine wpI_region C T ?_
  simp only [List.size_toArray, List.length_cons, List.length_nil, Nat.reduceAdd, Nat.zero_add, List.range, List.range.loop]
  refine opsI_cons C rfl (by rfl) fun _ hR Kx hKx => ?_
  replace hF := HM.rely (i := .join) hF hR
  clear hR
  go_simp
  try (unfold stored; go_simp)
  refine hKx _ _ ⟨?_, ?_⟩
  · co_quiet Tq
  clear hKx Kx
  try walk_nrm
  refine opsI_cons C rfl (by rfl) fun _ hR Kx hKx => ?_
  replace hF := HM.rely (i := .join) hF hR
  clear hR
  go_simp
  try (unfold stored; go_simp)
  refine hKx _ _ ⟨?_, ?_⟩
  · co_quiet Tq
  clear hKx Kx
  try walk_nrm
  refine opsI_cons C rfl (by rfl) fun _ hR Kx hKx => ?_
  replace hF := HM.rely (i := .join) hF hR
  clear hR
  go_simp
  try (unfold stored; go_simp)
  refine hKx _ _ ⟨?_, ?_⟩
  · co_quiet Tq
  clear hKx Kx
  try walk_nrm
  refine opsI_nil C T ?_
  show wpI _ _ _ _ _ _ _
  by_cases h1 : r ≤ 127
  · have hb1 : decide (r ≤ 127) = true := decide_eq_true h1
    have hu8 : IntKind.u8.wrap r = r := by rw [IntKind.wrap_u8]; omega
    try simp only [hb1]
    refine wpI_cond C T (t := true) rfl ?_
    simp only [if_true, if_false, reduceIte, Bool.false_eq_true]
    refine wpI_seq C T ?_
    refine wpI_region C T ?_
    simp only [List.size_toArray, List.length_cons, List.length_nil, Nat.reduceAdd, Nat.zero_add, List.range, List.range.loop]
    refine opsI_cons C rfl (by rfl) fun _ hR Kx hKx => ?_
    replace hF := HM.rely (i := .join) hF hR
    clear hR
    go_simp
    try (unfold stored; go_simp)
    refine hKx _ _ ⟨?_, ?_⟩
    · co_quiet Tq
    clear hKx Kx
    try walk_nrm
    refine opsI_cons C rfl (by rfl) fun _ hR Kx hKx => ?_
    replace hF := HM.rely (i := .join) hF hR
    clear hR
    go_simp
    try (unfold stored; go_simp)
    refine hKx _ _ ⟨?_, ?_⟩
    · co_quiet Tq
    clear hKx Kx
    try walk_nrm
    refine opsI_cons C rfl (by rfl) fun _ hR Kx hKx => ?_
    replace hF := HM.rely (i := .join) hF hR
    clear hR
    go_simp
    try (unfold stored; go_simp)
    refine hKx _ _ ⟨?_, ?_⟩
    · co_quiet Tq
    clear hKx Kx
    try walk_nrm
    have hrc : Lib.runeCells r = [.int .u8 r] := by simp [Lib.runeCells, Lib.encodeRuneZ_one hg0.1 h1]
    refine opsI_cons C rfl (by rfl) fun _ hR Kx hKx => ?_
    replace hF := HM.rely (i := .join) hF hR
    clear hR
    go_simp
    refine hKx _ _ ⟨?_, ?_⟩
    · refine dm_alloc hF.plo hF.size ?_
      co_evs (skip)
    clear hKx Kx
    try walk_nrm
    replace hF := hF.built [.int .u8 r]
    refine opsI_cons C rfl (by rfl) fun _ hR Kx hKx => ?_
    replace hF := HA.rely hF hR
    clear hR
    obtain ⟨v₂, w₂, hrun, hF₂, hD, hne⟩ := append_m (val := val) (B := B) (Low := Low) (Mine := Mine) hS hF (by simp [Value.oneCell']) (by simp; omega) 67
    refine uponK_append (Operand.tmp 8) (Operand.tmp 11) 67 rfl rfl rfl hrun (hKx _ _ ⟨?_, ?_⟩)
    · have hsn := seen_eq (P := Tryz.prog) (fn := 54) (by kernel_rfl) (fun e he f h => by cases hne e he _ h)
      unfold listed
      rw [events_append_op (Operand.tmp 8) (Operand.tmp 11) 67 rfl rfl rfl]
      exact (congrArg (DM (kcfg Tryz.prog N Pb Shun val B Low Mine) _ _) hsn).mpr hD
    clear hKx Kx hrun hD hne
    replace hF := hF₂
    try walk_nrm
    refine opsI_cons C rfl (by rfl) fun _ hR Kx hKx => ?_
    replace hF := HM.rely (i := .join) hF hR
    clear hR
    go_simp
    try (unfold stored; go_simp)
    refine hKx _ _ ⟨?_, ?_⟩
    · co_quiet Tq
    clear hKx Kx
    try walk_nrm
    refine opsI_nil C T ?_
    show wpI _ _ _ _ _ _ _
    refine wpI_ret C T ?_
    exact ⟨.inr rfl, rfl, _, resultsC_tmp (t := 4) (by rfl) _, rfl, by rw [hrc]; exact hF⟩
  · have hb1 : decide (r ≤ 127) = false := decide_eq_false h1
    try simp only [hb1]
    refine wpI_cond C T (t := false) rfl ?_
    simp only [if_true, if_false, reduceIte, Bool.false_eq_true]
    refine wpI_skip C T ?_
    show wpI _ _ _ _ _ _ _
    refine wpI_seq C T ?_
    refine wpI_region C T ?_
    simp only [List.size_toArray, List.length_cons, List.length_nil, Nat.reduceAdd, Nat.zero_add, List.range, List.range.loop]
    refine opsI_cons C rfl (by rfl) fun _ hR Kx hKx => ?_
    replace hF := HM.rely (i := .join) hF hR
    clear hR
    go_simp
    try (unfold stored; go_simp)
    refine hKx _ _ ⟨?_, ?_⟩
    · co_quiet Tq
    clear hKx Kx
    try walk_nrm
    refine opsI_cons C rfl (by rfl) fun _ hR Kx hKx => ?_
    replace hF := HM.rely (i := .join) hF hR
    clear hR
    go_simp
    try (unfold stored; go_simp)
    refine hKx _ _ ⟨?_, ?_⟩
    · co_quiet Tq
    clear hKx Kx
    try walk_nrm
    refine opsI_callX C T rfl (by rfl) rfl rfl (by simp [Act.eval]) rfl (nonAscii_x hS hF hg (by omega) hn) ?_
    rintro _ _ _ ⟨rfl, hF⟩
    try walk_nrm
    refine opsI_cons C rfl (by rfl) fun _ hR Kx hKx => ?_
    replace hF := HM.rely (i := .join) hF hR
    clear hR
    go_simp
    try (unfold stored; go_simp)
    refine hKx _ _ ⟨?_, ?_⟩
    · co_quiet Tq
    clear hKx Kx
    try walk_nrm
    refine opsI_nil C T ?_
    show wpI _ _ _ _ _ _ _
    refine wpI_ret C T ?_
    exact ⟨.inr rfl, rfl, _, resultsC_tmp (t := 4) (by rfl) _, rfl, hF⟩
theorem HM.setP (h : HM w₀ N Pb Bb p u v n xs w) (p' : Value) : HM w₀ N Pb Bb p' u v n xs (w.setCell ⟨Bb, 0, none⟩ p') := by
  refine ⟨setCell_block h.bd _, ⟨h.row.1, ?_⟩, h.lo, h.np, h.plo, by simpa [World.setCell] using h.size, ⟨h.old.tape, h.old.os, h.old.output, fun b h1 h2 => (HC.off' w _ h2).trans (h.old.block b h1 h2)⟩, h.nil⟩
  rcases h.row.2 with z | ⟨g, cap, cur, h1, h2, h3, h4⟩
  · exact .inl z
  · refine .inr ⟨g, cap, cur, h1, h2, ?_, h4⟩
    rw [HC.off' w _ (by have := h.lo; omega)]; exact h3
theorem HM.setV (h : HM w₀ N Pb Bb p u v n xs w) (u' : Value) : HM w₀ N Pb Bb p u' v n xs (w.setCell ⟨Bb, 1, none⟩ u') := by
  refine ⟨setCell_block h.bd _, ⟨h.row.1, ?_⟩, h.lo, h.np, h.plo, by simpa [World.setCell] using h.size, ⟨h.old.tape, h.old.os, h.old.output, fun b h1 h2 => (HC.off' w _ h2).trans (h.old.block b h1 h2)⟩, h.nil⟩
  rcases h.row.2 with z | ⟨g, cap, cur, h1, h2, h3, h4⟩
  · exact .inl z
  · refine .inr ⟨g, cap, cur, h1, h2, ?_, h4⟩
    rw [HC.off' w _ (by have := h.lo; omega)]; exact h3
theorem eqs (a : Addr) (w : World) (es : Array Event) : (binOp .eql 66 (.pointer none) (.pointer none)).events Tryz.prog w es = es ∧ (binOp .eql 66 (.pointer (some a)) (.pointer none)).events Tryz.prog w es = es
    ∧ (binOp .neq 66 (.pointer (some a)) (.pointer (some a))).run Tryz.prog w = .ok (.bool false) w ∧ (binOp .neq 66 (.pointer (some a)) (.pointer (some a))).events Tryz.prog w es = es := by
  obtain ⟨j, hj, hj2⟩ := Option.map_eq_some_iff.1 (show (Tryz.prog.info? 69).map (·.size) = some 2 by kernel_rfl)
  have e1 : ∀ x y : Value, binOp .eql 66 x y = binOp .eql 66 x y := fun _ _ => rfl
  refine ⟨?_, ?_, ?_, ?_⟩
  · rw [show binOp .eql 66 (Value.pointer none) (Value.pointer none) = (do pure (.bool (← Op.equal 66 (.pointer none) (.pointer none)))) from rfl, show Op.equal 66 (Value.pointer none) (Value.pointer none) = Op.equalIn (9999 + 1) 66 (.pointer none) (.pointer none) from rfl, Op.equalIn]
    simp [run_underlying Tryz.underlying66, underlying, Tryz.underlying66]
  · rw [show binOp .eql 66 (Value.pointer (some a)) (Value.pointer none) = (do pure (.bool (← Op.equal 66 (.pointer (some a)) (.pointer none)))) from rfl, show Op.equal 66 (Value.pointer (some a)) (Value.pointer none) = Op.equalIn (9999 + 1) 66 (.pointer (some a)) (.pointer none) from rfl, Op.equalIn]
    simp [run_underlying Tryz.underlying66, underlying, Tryz.underlying66]
  · rw [show binOp .neq 66 (Value.pointer (some a)) (Value.pointer (some a)) = (do pure (.bool (!(← Op.equal 66 (.pointer (some a)) (.pointer (some a)))))) from rfl, show Op.equal 66 (Value.pointer (some a)) (Value.pointer (some a)) = Op.equalIn (9999 + 1) 66 (.pointer (some a)) (.pointer (some a)) from rfl, Op.equalIn]
    simp [run_underlying Tryz.underlying66, sizeOf, typeInfo, hj, hj2, sameAddr]
  · rw [show binOp .neq 66 (Value.pointer (some a)) (Value.pointer (some a)) = (do pure (.bool (!(← Op.equal 66 (.pointer (some a)) (.pointer (some a)))))) from rfl, show Op.equal 66 (Value.pointer (some a)) (Value.pointer (some a)) = Op.equalIn (9999 + 1) 66 (.pointer (some a)) (.pointer (some a)) from rfl, Op.equalIn]
    simp [run_underlying Tryz.underlying66, sizeOf, typeInfo, hj, hj2, sameAddr]
theorem from_unsafe {w : World} {b : Nat} {cs : Array Value} (h : w.heap[b]? = some (.cells cs 69)) (hs : cs.size = 2) : (convert 149 66 (.pointer (some ⟨b, 0, none⟩))).run Tryz.prog w = .ok (.pointer (some ⟨b, 0, none⟩)) w ∧ ∀ es, (convert 149 66 (.pointer (some ⟨b, 0, none⟩))).events Tryz.prog w es = es := by
  obtain ⟨j, hj, _⟩ := Option.map_eq_some_iff.1 (show (Tryz.prog.info? 69).map (·.size) = some 2 by kernel_rfl)
  have hsh : w.shape? b = some (69, 2) := by simp [World.shape?, h, hs]
  have hl : liesAt Tryz.prog Tryz.prog.depth 69 (2 / Tryz.prog.cellsOf 69) 0 69 1 = true := by kernel_rfl
  constructor
  · exact Lib.run_from_unsafe w ⟨b, 0, none⟩ Tryz.underlying149 Tryz.underlying66 hj hsh hl
  · intro es
    simp [convert, run_underlying Tryz.underlying149, run_underlying Tryz.underlying66, Conv.unsafePointer, Conv.seenAt, viewAt, hsh, variablesAt, hl, sizeOf, typeInfo, hj]
set_option maxRecDepth 100000 in
set_option maxHeartbeats 2000000 in
theorem copyCheck_x (hS : Clear N Bb Shun) (hF : HM w₀ N Pb Bb p u v n xs w) (hp : p = .pointer none ∨ p = .pointer (some ⟨Bb, 0, none⟩)) :
    CallsI Tryz.prog (XM (kcfg Tryz.prog N Pb Shun val B Low Mine) AnchW) 53 #[.pointer (some ⟨Bb, 0, none⟩)] (.walk vs) w (fun i' _ w' => i' = .walk vs ∧ HM w₀ N Pb Bb (.pointer (some ⟨Bb, 0, none⟩)) u v n xs w') := by
  have C : ClosedI Tryz.prog true (RMd (kcfg Tryz.prog N Pb Shun val B Low Mine)) (DMd (kcfg Tryz.prog N Pb Shun val B Low Mine)) (XM (kcfg Tryz.prog N Pb Shun val B Low Mine) AnchW) := XM.closed (K := (kcfg Tryz.prog N Pb Shun val B Low Mine))
  have T := termsM (K := (kcfg Tryz.prog N Pb Shun val B Low Mine))
  have Tq : Terms (RM (kcfg Tryz.prog N Pb Shun val B Low Mine)) (DM (kcfg Tryz.prog N Pb Shun val B Low Mine)) := T (.walk [])
  have evp : ∀ (w : World) (es : Array Event) (a : Addr) (m : Mode) (x : Option Addr), (store a (.pointer x) m).events Tryz.prog w es = storedEv Tryz.prog w es a (.pointer x) m := fun w es a m x => events_store Tryz.prog w es a _ m rfl
  have evl : ∀ (w : World) (es : Array Event) (a : Addr) (m : Mode) (x : Option Addr) (l c : Nat), (store a (.slice x l c) m).events Tryz.prog w es = storedEv Tryz.prog w es a (.slice x l c) m := fun w es a m x l c => events_store Tryz.prog w es a _ m rfl
  have q1 := fun w es => (eqs ⟨Bb, 0, none⟩ w es).1
  have q2 := fun w es => (eqs ⟨Bb, 0, none⟩ w es).2.1
  have q3 := fun w => (eqs ⟨Bb, 0, none⟩ w #[]).2.2.1
  have q4 := fun w es => (eqs ⟨Bb, 0, none⟩ w es).2.2.2
  refine callsI_of Tryz.func53 (by rfl) rfl ?_
  simp only [Tryz.ntmps53, List.size_toArray, List.length_cons, List.length_nil, Nat.reduceAdd, Nat.reduceSub, Array.replicate_succ, Array.replicate_zero, List.push_toArray, List.append_toArray, List.nil_append, List.cons_append]
  rcases hp with rfl | rfl
  · refine wpI_seq C T ?_
    refine wpI_region C T ?_
    simp only [List.size_toArray, List.length_cons, List.length_nil, Nat.reduceAdd, Nat.zero_add, List.range, List.range.loop]
    refine opsI_cons C rfl (by rfl) fun _ hR Kx hKx => ?_
    replace hF := HM.rely (i := .join) hF hR
    clear hR
    go_simp
    try (unfold stored; go_simp)
    refine hKx _ _ ⟨?_, ?_⟩
    · co_quiet Tq
    clear hKx Kx
    try walk_nrm
    refine opsI_cons C rfl (by rfl) fun _ hR Kx hKx => ?_
    replace hF := HM.rely (i := .join) hF hR
    clear hR
    go_simp
    try (unfold stored; go_simp)
    refine hKx _ _ ⟨?_, ?_⟩
    · co_still Tq
    clear hKx Kx
    try walk_nrm
    refine opsI_cons C rfl (by rfl) fun _ hR Kx hKx => ?_
    replace hF := HM.rely (i := .join) hF hR
    clear hR
    go_simp
    try (unfold stored; go_simp)
    refine hKx _ _ ⟨?_, ?_⟩
    · co_still Tq
    clear hKx Kx
    try walk_nrm
    refine opsI_cons C rfl (by rfl) fun _ hR Kx hKx => ?_
    replace hF := HM.rely (i := .join) hF hR
    clear hR
    have hc := hF.cells
    go_simp
    try (unfold stored; go_simp)
    refine hKx _ _ ⟨?_, ?_⟩
    · refine dm_read ?_
      co_evs (exact evm_at hS hF.lo hF.np hF.plo rfl (.inl rfl))
    clear hKx Kx
    try walk_nrm
    clear hc
    refine opsI_cons C rfl (by rfl) fun _ hR Kx hKx => ?_
    replace hF := HM.rely (i := .join) hF hR
    clear hR
    go_simp
    try (unfold stored; go_simp)
    refine hKx _ _ ⟨?_, ?_⟩
    · co_still Tq
    clear hKx Kx
    try walk_nrm
    refine opsI_nil C T ?_
    show wpI _ _ _ _ _ _ _
    refine wpI_cond C T (t := true) rfl ?_
    simp only [if_true, if_false, reduceIte, Bool.false_eq_true]
    refine wpI_region C T ?_
    simp only [List.size_toArray, List.length_cons, List.length_nil, Nat.reduceAdd, Nat.zero_add, List.range, List.range.loop]
    refine opsI_cons C rfl (by rfl) fun _ hR Kx hKx => ?_
    replace hF := HM.rely (i := .join) hF hR
    clear hR
    go_simp
    try (unfold stored; go_simp)
    refine hKx _ _ ⟨?_, ?_⟩
    · co_quiet Tq
    clear hKx Kx
    try walk_nrm
    refine opsI_cons C rfl (by rfl) fun _ hR Kx hKx => ?_
    replace hF := HM.rely (i := .join) hF hR
    clear hR
    go_simp
    try (unfold stored; go_simp)
    refine hKx _ _ ⟨?_, ?_⟩
    · co_quiet Tq
    clear hKx Kx
    try walk_nrm
    refine opsI_cons C rfl (by rfl) fun _ hR Kx hKx => ?_
    replace hF := HM.rely (i := .join) hF hR
    clear hR
    have hc := hF.cells
    have hcv := run_convert_to_unsafe (P := Tryz.prog) (src := 66) (dst := 149) (t := 69) Tryz.underlying66 Tryz.underlying149 (by kernel_rfl) hc.1
    have hce := fun es => events_convert_to_unsafe (P := Tryz.prog) (src := 66) (dst := 149) (t := 69) Tryz.underlying66 Tryz.underlying149 (by kernel_rfl) hc.1 es
    go_simp
    try (unfold stored; go_simp)
    refine hKx _ _ ⟨?_, ?_⟩
    · co_still Tq
    clear hKx Kx
    try walk_nrm
    clear hc hcv hce
    refine opsI_entry C T rfl (by rfl) rfl Tryz.func89 (by rfl) (by rfl) (by kernel_rfl) (e := Extern.AbiNoEscape.same) (by kernel_rfl) (x := .pointer (some ⟨Bb, 0, none⟩)) (args' := #[.pointer (some ⟨Bb, 0, none⟩)]) (by simp [Act.eval]) (fun w => Lib.run_noEscape w _) (fun w es => by show Sem.events Tryz.prog (pure (Value.pointer (some ⟨Bb, 0, none⟩)) : Sem Value) w es = es; simp) ?_
    try walk_nrm
    refine opsI_cons C rfl (by rfl) fun _ hR Kx hKx => ?_
    replace hF := HM.rely (i := .join) hF hR
    clear hR
    have hc := from_unsafe hF.bd rfl
    have hcv := hc.1
    have hce := hc.2
    go_simp
    try (unfold stored; go_simp)
    refine hKx _ _ ⟨?_, ?_⟩
    · co_still Tq
    clear hKx Kx
    try walk_nrm
    clear hc hcv hce
    refine opsI_cons C rfl (by rfl) fun _ hR Kx hKx => ?_
    replace hF := HM.rely (i := .join) hF hR
    clear hR
    go_simp
    try (unfold stored; go_simp)
    refine hKx _ _ ⟨?_, ?_⟩
    · co_still Tq
    clear hKx Kx
    try walk_nrm
    refine opsI_cons C rfl (by rfl) fun _ hR Kx hKx => ?_
    replace hF := HM.rely (i := .join) hF hR
    clear hR
    go_simp
    try (unfold stored; go_simp)
    refine hKx _ _ ⟨?_, ?_⟩
    · co_still Tq
    clear hKx Kx
    try walk_nrm
    refine opsI_cons C rfl (by rfl) fun _ hR Kx hKx => ?_
    replace hF := HM.rely (i := .join) hF hR
    clear hR
    have hc := hF.cells
    go_simp
    try (unfold stored; go_simp)
    refine hKx _ _ ⟨?_, ?_⟩
    · exact dm_write hF.lo hF.np hF.plo (by co_evs (exact evm_at hS hF.lo hF.np hF.plo rfl (.inl rfl)))
    clear hKx Kx
    try walk_nrm
    clear hc
    replace hF := hF.setP (.pointer (some ⟨Bb, 0, none⟩))
    refine opsI_nil C T ?_
    exact ⟨.inl rfl, rfl, _, resultsC_none (by rfl) _, rfl, hF⟩
  · refine wpI_seq C T ?_
    refine wpI_region C T ?_
    simp only [List.size_toArray, List.length_cons, List.length_nil, Nat.reduceAdd, Nat.zero_add, List.range, List.range.loop]
    refine opsI_cons C rfl (by rfl) fun _ hR Kx hKx => ?_
    replace hF := HM.rely (i := .join) hF hR
    clear hR
    go_simp
    try (unfold stored; go_simp)
    refine hKx _ _ ⟨?_, ?_⟩
    · co_quiet Tq
    clear hKx Kx
    try walk_nrm
    refine opsI_cons C rfl (by rfl) fun _ hR Kx hKx => ?_
    replace hF := HM.rely (i := .join) hF hR
    clear hR
    go_simp
    try (unfold stored; go_simp)
    refine hKx _ _ ⟨?_, ?_⟩
    · co_still Tq
    clear hKx Kx
    try walk_nrm
    refine opsI_cons C rfl (by rfl) fun _ hR Kx hKx => ?_
    replace hF := HM.rely (i := .join) hF hR
    clear hR
    go_simp
    try (unfold stored; go_simp)
    refine hKx _ _ ⟨?_, ?_⟩
    · co_still Tq
    clear hKx Kx
    try walk_nrm
    refine opsI_cons C rfl (by rfl) fun _ hR Kx hKx => ?_
    replace hF := HM.rely (i := .join) hF hR
    clear hR
    have hc := hF.cells
    go_simp
    try (unfold stored; go_simp)
    refine hKx _ _ ⟨?_, ?_⟩
    · refine dm_read ?_
      co_evs (exact evm_at hS hF.lo hF.np hF.plo rfl (.inl rfl))
    clear hKx Kx
    try walk_nrm
    clear hc
    refine opsI_cons C rfl (by rfl) fun _ hR Kx hKx => ?_
    replace hF := HM.rely (i := .join) hF hR
    clear hR
    go_simp
    try (unfold stored; go_simp)
    refine hKx _ _ ⟨?_, ?_⟩
    · co_still Tq
    clear hKx Kx
    try walk_nrm
    refine opsI_nil C T ?_
    show wpI _ _ _ _ _ _ _
    refine wpI_cond C T (t := false) rfl ?_
    simp only [if_true, if_false, reduceIte, Bool.false_eq_true]
    refine wpI_seq C T ?_
    refine wpI_region C T ?_
    simp only [List.size_toArray, List.length_cons, List.length_nil, Nat.reduceAdd, Nat.zero_add, List.range, List.range.loop]
    refine opsI_cons C rfl (by rfl) fun _ hR Kx hKx => ?_
    replace hF := HM.rely (i := .join) hF hR
    clear hR
    go_simp
    try (unfold stored; go_simp)
    refine hKx _ _ ⟨?_, ?_⟩
    · co_quiet Tq
    clear hKx Kx
    try walk_nrm
    refine opsI_cons C rfl (by rfl) fun _ hR Kx hKx => ?_
    replace hF := HM.rely (i := .join) hF hR
    clear hR
    go_simp
    try (unfold stored; go_simp)
    refine hKx _ _ ⟨?_, ?_⟩
    · co_still Tq
    clear hKx Kx
    try walk_nrm
    refine opsI_cons C rfl (by rfl) fun _ hR Kx hKx => ?_
    replace hF := HM.rely (i := .join) hF hR
    clear hR
    go_simp
    try (unfold stored; go_simp)
    refine hKx _ _ ⟨?_, ?_⟩
    · co_still Tq
    clear hKx Kx
    try walk_nrm
    refine opsI_cons C rfl (by rfl) fun _ hR Kx hKx => ?_
    replace hF := HM.rely (i := .join) hF hR
    clear hR
    have hc := hF.cells
    go_simp
    try (unfold stored; go_simp)
    refine hKx _ _ ⟨?_, ?_⟩
    · refine dm_read ?_
      co_evs (exact evm_at hS hF.lo hF.np hF.plo rfl (.inl rfl))
    clear hKx Kx
    try walk_nrm
    clear hc
    refine opsI_cons C rfl (by rfl) fun _ hR Kx hKx => ?_
    replace hF := HM.rely (i := .join) hF hR
    clear hR
    go_simp
    try (unfold stored; go_simp)
    refine hKx _ _ ⟨?_, ?_⟩
    · co_quiet Tq
    clear hKx Kx
    try walk_nrm
    refine opsI_cons C rfl (by rfl) fun _ hR Kx hKx => ?_
    replace hF := HM.rely (i := .join) hF hR
    clear hR
    go_simp
    try (unfold stored; go_simp)
    refine hKx _ _ ⟨?_, ?_⟩
    · co_still Tq
    clear hKx Kx
    try walk_nrm
    refine opsI_nil C T ?_
    show wpI _ _ _ _ _ _ _
    refine wpI_cond C T (t := false) rfl ?_
    simp only [if_true, if_false, reduceIte, Bool.false_eq_true]
    refine wpI_skip C T ?_
    exact ⟨.inl rfl, rfl, _, resultsC_none (by rfl) _, rfl, hF⟩
set_option maxRecDepth 100000 in
set_option maxHeartbeats 2000000 in
theorem writeRune_x (hS : Clear N Bb Shun) (hF : HM w₀ N Pb Bb p v v n xs w) (hp : p = .pointer none ∨ p = .pointer (some ⟨Bb, 0, none⟩)) (hg : Good r) (hn : n ≤ 1000000) :
    CallsI Tryz.prog (XM (kcfg Tryz.prog N Pb Shun val B Low Mine) AnchW) 20 #[.pointer (some ⟨Bb, 0, none⟩), .int .i32 r] (.walk vs) w (fun i' _ w' => i' = .walk vs ∧ ∃ v', HM w₀ N Pb Bb (.pointer (some ⟨Bb, 0, none⟩)) v' v' (n + (Lib.runeCells r).length) (xs ++ Lib.runeCells r) w') := by
  have C : ClosedI Tryz.prog true (RMd (kcfg Tryz.prog N Pb Shun val B Low Mine)) (DMd (kcfg Tryz.prog N Pb Shun val B Low Mine)) (XM (kcfg Tryz.prog N Pb Shun val B Low Mine) AnchW) := XM.closed (K := (kcfg Tryz.prog N Pb Shun val B Low Mine))
  have T := termsM (K := (kcfg Tryz.prog N Pb Shun val B Low Mine))
  have Tq : Terms (RM (kcfg Tryz.prog N Pb Shun val B Low Mine)) (DM (kcfg Tryz.prog N Pb Shun val B Low Mine)) := T (.walk [])
  have evp : ∀ (w : World) (es : Array Event) (a : Addr) (m : Mode) (x : Option Addr), (store a (.pointer x) m).events Tryz.prog w es = storedEv Tryz.prog w es a (.pointer x) m := fun w es a m x => events_store Tryz.prog w es a _ m rfl
  have evl : ∀ (w : World) (es : Array Event) (a : Addr) (m : Mode) (x : Option Addr) (l c : Nat), (store a (.slice x l c) m).events Tryz.prog w es = storedEv Tryz.prog w es a (.slice x l c) m := fun w es a m x l c => events_store Tryz.prog w es a _ m rfl
  have hrl := Lib.runeCells_le r
  refine callsI_of Tryz.func20 (by rfl) rfl ?_
  simp only [Tryz.ntmps20, List.size_toArray, List.length_cons, List.length_nil, Nat.reduceAdd, Nat.reduceSub, Array.replicate_succ, Array.replicate_zero, List.push_toArray, List.append_toArray, List.nil_append, List.cons_append]
  refine wpI_seq C T ?_
  refine wpI_region C T ?_
  simp only [List.size_toArray, List.length_cons, List.length_nil, Nat.reduceAdd, Nat.zero_add, List.range, List.range.loop]
  refine opsI_cons C rfl (by rfl) fun _ hR Kx hKx => ?_
  replace hF := HM.rely (i := .join) hF hR
  clear hR
  go_simp
  try (unfold stored; go_simp)
  refine hKx _ _ ⟨?_, ?_⟩
  · co_quiet Tq
  clear hKx Kx
  try walk_nrm
  refine opsI_cons C rfl (by rfl) fun _ hR Kx hKx => ?_
  replace hF := HM.rely (i := .join) hF hR
  clear hR
  go_simp
  try (unfold stored; go_simp)
  refine hKx _ _ ⟨?_, ?_⟩
  · co_quiet Tq
  clear hKx Kx
  try walk_nrm
  refine opsI_nil C T ?_
  show wpI _ _ _ _ _ _ _
  refine wpI_seq C T ?_
  refine wpI_region C T ?_
  simp only [List.size_toArray, List.length_cons, List.length_nil, Nat.reduceAdd, Nat.zero_add, List.range, List.range.loop]
  refine opsI_cons C rfl (by rfl) fun _ hR Kx hKx => ?_
  replace hF := HM.rely (i := .join) hF hR
  clear hR
  go_simp
  try (unfold stored; go_simp)
  refine hKx _ _ ⟨?_, ?_⟩
  · co_quiet Tq
  clear hKx Kx
  try walk_nrm
  refine opsI_callX C T rfl (by rfl) rfl rfl (by simp [Act.eval]) rfl (copyCheck_x hS hF hp) ?_
  rintro _ _ _ ⟨rfl, hF⟩
  try walk_nrm
  refine opsI_nil C T ?_
  show wpI _ _ _ _ _ _ _
  obtain ⟨x0, c0, hv0⟩ := hF.slice
  refine wpI_seq C T ?_
  refine wpI_region C T ?_
  simp only [List.size_toArray, List.length_cons, List.length_nil, Nat.reduceAdd, Nat.zero_add, List.range, List.range.loop]
  refine opsI_cons C rfl (by rfl) fun _ hR Kx hKx => ?_
  replace hF := HM.rely (i := .join) hF hR
  clear hR
  go_simp
  try (unfold stored; go_simp)
  refine hKx _ _ ⟨?_, ?_⟩
  · co_quiet Tq
  clear hKx Kx
  try walk_nrm
  refine opsI_cons C rfl (by rfl) fun _ hR Kx hKx => ?_
  replace hF := HM.rely (i := .join) hF hR
  clear hR
  go_simp
  try (unfold stored; go_simp)
  refine hKx _ _ ⟨?_, ?_⟩
  · co_still Tq
  clear hKx Kx
  try walk_nrm
  refine opsI_cons C rfl (by rfl) fun _ hR Kx hKx => ?_
  replace hF := HM.rely (i := .join) hF hR
  clear hR
  go_simp
  try (unfold stored; go_simp)
  refine hKx _ _ ⟨?_, ?_⟩
  · co_still Tq
  clear hKx Kx
  try walk_nrm
  refine opsI_cons C rfl (by rfl) fun _ hR Kx hKx => ?_
  replace hF := HM.rely (i := .join) hF hR
  clear hR
  have hc := hF.cells
  go_simp
  try (unfold stored; go_simp)
  refine hKx _ _ ⟨?_, ?_⟩
  · refine dm_read ?_
    co_evs (exact evm_at hS hF.lo hF.np hF.plo rfl (.inl rfl))
  clear hKx Kx
  try walk_nrm
  clear hc
  subst hv0
  refine opsI_cons C rfl (by rfl) fun _ hR Kx hKx => ?_
  replace hF := HM.rely (i := .join) hF hR
  clear hR
  go_simp
  try (unfold stored; go_simp)
  refine hKx _ _ ⟨?_, ?_⟩
  · co_still Tq
  clear hKx Kx
  try walk_nrm
  refine opsI_cons C rfl (by rfl) fun _ hR Kx hKx => ?_
  replace hF := HM.rely (i := .join) hF hR
  clear hR
  go_simp
  try (unfold stored; go_simp)
  refine hKx _ _ ⟨?_, ?_⟩
  · co_quiet Tq
  clear hKx Kx
  try walk_nrm
  refine opsI_nil C T ?_
  show wpI _ _ _ _ _ _ _
  refine wpI_seq C T ?_
  refine wpI_region C T ?_
  simp only [List.size_toArray, List.length_cons, List.length_nil, Nat.reduceAdd, Nat.zero_add, List.range, List.range.loop]
  refine opsI_cons C rfl (by rfl) fun _ hR Kx hKx => ?_
  replace hF := HM.rely (i := .join) hF hR
  clear hR
  go_simp
  try (unfold stored; go_simp)
  refine hKx _ _ ⟨?_, ?_⟩
  · co_quiet Tq
  clear hKx Kx
  try walk_nrm
  refine opsI_cons C rfl (by rfl) fun _ hR Kx hKx => ?_
  replace hF := HM.rely (i := .join) hF hR
  clear hR
  go_simp
  try (unfold stored; go_simp)
  refine hKx _ _ ⟨?_, ?_⟩
  · co_quiet Tq
  clear hKx Kx
  try walk_nrm
  refine opsI_cons C rfl (by rfl) fun _ hR Kx hKx => ?_
  replace hF := HM.rely (i := .join) hF hR
  clear hR
  go_simp
  try (unfold stored; go_simp)
  refine hKx _ _ ⟨?_, ?_⟩
  · co_still Tq
  clear hKx Kx
  try walk_nrm
  refine opsI_cons C rfl (by rfl) fun _ hR Kx hKx => ?_
  replace hF := HM.rely (i := .join) hF hR
  clear hR
  go_simp
  try (unfold stored; go_simp)
  refine hKx _ _ ⟨?_, ?_⟩
  · co_still Tq
  clear hKx Kx
  try walk_nrm
  refine opsI_cons C rfl (by rfl) fun _ hR Kx hKx => ?_
  replace hF := HM.rely (i := .join) hF hR
  clear hR
  have hc := hF.cells
  go_simp
  try (unfold stored; go_simp)
  refine hKx _ _ ⟨?_, ?_⟩
  · refine dm_read ?_
    co_evs (exact evm_at hS hF.lo hF.np hF.plo rfl (.inl rfl))
  clear hKx Kx
  try walk_nrm
  clear hc
  refine opsI_cons C rfl (by rfl) fun _ hR Kx hKx => ?_
  replace hF := HM.rely (i := .join) hF hR
  clear hR
  go_simp
  try (unfold stored; go_simp)
  refine hKx _ _ ⟨?_, ?_⟩
  · co_quiet Tq
  clear hKx Kx
  try walk_nrm
  refine opsI_callX C T rfl (by rfl) rfl rfl (by simp [Act.eval]) rfl (appendRune_x hS hF hg hn) ?_
  rintro _ v₁ _ ⟨rfl, hF⟩
  try walk_nrm
  obtain ⟨x1, c1, rfl⟩ := hF.slice
  refine opsI_cons C rfl (by rfl) fun _ hR Kx hKx => ?_
  replace hF := HM.rely (i := .join) hF hR
  clear hR
  go_simp
  try (unfold stored; go_simp)
  refine hKx _ _ ⟨?_, ?_⟩
  · co_still Tq
  clear hKx Kx
  try walk_nrm
  refine opsI_cons C rfl (by rfl) fun _ hR Kx hKx => ?_
  replace hF := HM.rely (i := .join) hF hR
  clear hR
  go_simp
  try (unfold stored; go_simp)
  refine hKx _ _ ⟨?_, ?_⟩
  · co_still Tq
  clear hKx Kx
  try walk_nrm
  refine opsI_cons C rfl (by rfl) fun _ hR Kx hKx => ?_
  replace hF := HM.rely (i := .join) hF hR
  clear hR
  have hc := hF.cells
  go_simp
  try (unfold stored; go_simp)
  refine hKx _ _ ⟨?_, ?_⟩
  · exact dm_write hF.lo hF.np hF.plo (by co_evs (exact evm_at hS hF.lo hF.np hF.plo rfl (.inl rfl)))
  clear hKx Kx
  try walk_nrm
  clear hc
  replace hF := hF.setV (.slice x1 (n + (Lib.runeCells r).length) c1)
  refine opsI_nil C T ?_
  show wpI _ _ _ _ _ _ _
  refine wpI_seq C T ?_
  refine wpI_region C T ?_
  simp only [List.size_toArray, List.length_cons, List.length_nil, Nat.reduceAdd, Nat.zero_add, List.range, List.range.loop]
  refine opsI_cons C rfl (by rfl) fun _ hR Kx hKx => ?_
  replace hF := HM.rely (i := .join) hF hR
  clear hR
  go_simp
  try (unfold stored; go_simp)
  refine hKx _ _ ⟨?_, ?_⟩
  · co_quiet Tq
  clear hKx Kx
  try walk_nrm
  refine opsI_cons C rfl (by rfl) fun _ hR Kx hKx => ?_
  replace hF := HM.rely (i := .join) hF hR
  clear hR
  go_simp
  try (unfold stored; go_simp)
  refine hKx _ _ ⟨?_, ?_⟩
  · co_still Tq
  clear hKx Kx
  try walk_nrm
  refine opsI_cons C rfl (by rfl) fun _ hR Kx hKx => ?_
  replace hF := HM.rely (i := .join) hF hR
  clear hR
  go_simp
  try (unfold stored; go_simp)
  refine hKx _ _ ⟨?_, ?_⟩
  · co_still Tq
  clear hKx Kx
  try walk_nrm
  refine opsI_cons C rfl (by rfl) fun _ hR Kx hKx => ?_
  replace hF := HM.rely (i := .join) hF hR
  clear hR
  have hc := hF.cells
  go_simp
  try (unfold stored; go_simp)
  refine hKx _ _ ⟨?_, ?_⟩
  · refine dm_read ?_
    co_evs (exact evm_at hS hF.lo hF.np hF.plo rfl (.inl rfl))
  clear hKx Kx
  try walk_nrm
  clear hc
  refine opsI_cons C rfl (by rfl) fun _ hR Kx hKx => ?_
  replace hF := HM.rely (i := .join) hF hR
  clear hR
  go_simp
  try (unfold stored; go_simp)
  refine hKx _ _ ⟨?_, ?_⟩
  · co_still Tq
  clear hKx Kx
  try walk_nrm
  refine opsI_cons C rfl (by rfl) fun _ hR Kx hKx => ?_
  replace hF := HM.rely (i := .join) hF hR
  clear hR
  go_simp
  try (unfold stored; go_simp)
  refine hKx _ _ ⟨?_, ?_⟩
  · co_quiet Tq
  clear hKx Kx
  try walk_nrm
  refine opsI_cons C rfl (by rfl) fun _ hR Kx hKx => ?_
  replace hF := HM.rely (i := .join) hF hR
  clear hR
  go_simp
  try (unfold stored; go_simp)
  refine hKx _ _ ⟨?_, ?_⟩
  · co_quiet Tq
  clear hKx Kx
  try walk_nrm
  refine opsI_cons C rfl (by rfl) fun _ hR Kx hKx => ?_
  replace hF := HM.rely (i := .join) hF hR
  clear hR
  go_simp
  try (unfold stored; go_simp)
  refine hKx _ _ ⟨?_, ?_⟩
  · co_quiet Tq
  clear hKx Kx
  try walk_nrm
  refine opsI_cons C rfl (by rfl) fun _ hR Kx hKx => ?_
  replace hF := HM.rely (i := .join) hF hR
  clear hR
  go_simp
  try (unfold stored; go_simp)
  refine hKx _ _ ⟨?_, ?_⟩
  · co_quiet Tq
  clear hKx Kx
  try walk_nrm
  refine opsI_nil C T ?_
  show wpI _ _ _ _ _ _ _
  refine wpI_ret C T ?_
  exact ⟨.inr rfl, rfl, _, resultsC_tmp2 (by rfl) _, rfl, _, hF⟩
set_option maxRecDepth 100000 in
set_option maxHeartbeats 2000000 in
theorem yield_x (hS : Clear N Bb Shun) (hF : HM w₀ N Pb Bb p v v n xs w) (hp : p = .pointer none ∨ p = .pointer (some ⟨Bb, 0, none⟩)) (hg : Good r) (hn : n ≤ 1000000) :
    CallsI Tryz.prog (XM (kcfg Tryz.prog N Pb Shun val B Low Mine) AnchW) 19 #[.int .i32 r, .pointer (some ⟨Bb, 0, none⟩)] (.walk vs) w (fun i' _ w' => i' = .walk vs ∧ ∃ v', HM w₀ N Pb Bb (.pointer (some ⟨Bb, 0, none⟩)) v' v' (n + (Lib.runeCells r).length) (xs ++ Lib.runeCells r) w') := by
  have C : ClosedI Tryz.prog true (RMd (kcfg Tryz.prog N Pb Shun val B Low Mine)) (DMd (kcfg Tryz.prog N Pb Shun val B Low Mine)) (XM (kcfg Tryz.prog N Pb Shun val B Low Mine) AnchW) := XM.closed (K := (kcfg Tryz.prog N Pb Shun val B Low Mine))
  have T := termsM (K := (kcfg Tryz.prog N Pb Shun val B Low Mine))
  have Tq : Terms (RM (kcfg Tryz.prog N Pb Shun val B Low Mine)) (DM (kcfg Tryz.prog N Pb Shun val B Low Mine)) := T (.walk [])
  have evp : ∀ (w : World) (es : Array Event) (a : Addr) (m : Mode) (x : Option Addr), (store a (.pointer x) m).events Tryz.prog w es = storedEv Tryz.prog w es a (.pointer x) m := fun w es a m x => events_store Tryz.prog w es a _ m rfl
  have evl : ∀ (w : World) (es : Array Event) (a : Addr) (m : Mode) (x : Option Addr) (l c : Nat), (store a (.slice x l c) m).events Tryz.prog w es = storedEv Tryz.prog w es a (.slice x l c) m := fun w es a m x l c => events_store Tryz.prog w es a _ m rfl
  refine callsI_of Tryz.func19 (by rfl) rfl ?_
  simp only [Tryz.ntmps19, List.size_toArray, List.length_cons, List.length_nil, Nat.reduceAdd, Nat.reduceSub, Array.replicate_succ, Array.replicate_zero, List.push_toArray, List.append_toArray, List.nil_append, List.cons_append]
  refine wpI_region C T ?_
  simp only [List.size_toArray, List.length_cons, List.length_nil, Nat.reduceAdd, Nat.zero_add, List.range, List.range.loop]
  refine opsI_cons C rfl (by rfl) fun _ hR Kx hKx => ?_
  replace hF := HM.rely (i := .join) hF hR
  clear hR
  go_simp
  try (unfold stored; go_simp)
  refine hKx _ _ ⟨?_, ?_⟩
  · co_quiet Tq
  clear hKx Kx
  try walk_nrm
  refine opsI_callX C T rfl (by rfl) rfl rfl (by simp [Act.eval]) rfl (writeRune_x hS hF hp hg hn) ?_
  rintro _ _ _ ⟨rfl, hF⟩
  refine opsI_nil C T ?_
  exact ⟨.inl rfl, rfl, _, resultsC_none (by rfl) _, rfl, hF⟩
end
end Go.Proofs.YtmabfdpfegbfkaaGreat
