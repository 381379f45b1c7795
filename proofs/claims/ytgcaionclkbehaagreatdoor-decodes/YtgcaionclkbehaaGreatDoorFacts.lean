/-
  foliolaw.Decodes, and the run that enters it.
-/
import Derived.Test.YtgcaionclkbehaaGreatDoorPlay
import Derived.Test.YtgcaionclkbehaaGreatDoorRows
import Derived.Test.YtgcaionclkbehaaGreatDoorChecked
import Derived.KernelRfl
import Derived.JoinedOf
set_option linter.all false
set_option linter.unusedSectionVars false
set_option linter.unusedSimpArgs false
namespace Go.Proofs.YtgcaionclkbehaaGreatDoor
open Go.Conc Go.RowKit
section
variable {w w₁ w₂ : World} {Post : Value → World → Prop} {S : Nat → Prop}
set_option maxRecDepth 100000 in
set_option maxHeartbeats 2000000 in
theorem decodes_x (a0 : Option Addr) (len cap Sb so : Nat) (kd on : Nat → Int) (A B : Nat → ByteArray) (L : Nat → Value) (hlen : len ≤ 140737488355328) (hS : ∀ b, ¬ S b) (ha : 0 < len → a0 = some ⟨Sb, so, none⟩) (hSb : 0 < len → Sb < w.heap.size)
    (hscr : ∀ i, i < len → ∀ j v, (opV (kd i) (on i) (A i) (B i) (L i))[j]? = some v → w.cell? ⟨Sb, so + i * 5 + j, none⟩ = some v) :
    CallsI Tryz.prog (ZI Tryz.prog Post 0) 3 #[.slice a0 len cap] S w (fun _ x w' => x = .bool true ∧ Ext w w') := by
  have C : ClosedI Tryz.prog true (fun _ : Nat → Prop => AtRel) DZ (ZI Tryz.prog Post 0) := ZI.closed
  have T : ∀ S, Terms AtRel (DZ S) := termsS
  have hF := Ext.refl w
  refine callsI_of Tryz.func3 (by rfl) rfl ?_
  simp only [Tryz.ntmps3, List.size_toArray, List.length_cons, List.length_nil, Nat.reduceAdd, Nat.reduceSub, Array.replicate_succ, Array.replicate_zero, List.push_toArray, List.append_toArray, List.nil_append, List.cons_append]
  refine wpI_seq C T ?_
  refine wpI_region C T ?_
  simp only [List.size_toArray, List.length_cons, List.length_nil, Nat.reduceAdd, Nat.zero_add, List.range, List.range.loop]
  refine opsI_cons C rfl (by rfl) fun _ hR Kx hKx => ?_
  replace hF := Ext.at hF hR
  clear hR
  go_simp
  try (unfold stored; go_simp)
  refine hKx _ _ ⟨?_, ?_⟩
  · co_quiet (T _)
  clear hKx Kx
  try walk_nrm
  refine opsI_nil C T ?_
  show wpI _ _ _ _ _ _ _
  refine wpI_seq C T ?_
  refine wpI_region C T ?_
  simp only [List.size_toArray, List.length_cons, List.length_nil, Nat.reduceAdd, Nat.zero_add, List.range, List.range.loop]
  refine opsI_cons C rfl (by rfl) fun _ hR Kx hKx => ?_
  replace hF := Ext.at hF hR
  clear hR
  go_simp
  try (unfold stored; go_simp)
  refine hKx _ _ ⟨?_, ?_⟩
  · co_quiet (T _)
  clear hKx Kx
  try walk_nrm
  refine opsI_callX C T rfl (by rfl) rfl rfl (by simp [Act.eval]) rfl (played_x a0 len cap Sb so kd on A B L hlen hS ha (fun h => Nat.lt_of_lt_of_le (hSb h) hF.size) (fun i hi j v hv => (hF.cell (hSb (by omega))).trans (hscr i hi j v hv))) ?_
  rintro S2 _ w₂ ⟨rfl, hE2⟩
  replace hF := hF.trans hE2
  clear hE2
  try walk_nrm
  refine opsI_cons C rfl (by rfl) fun _ hR Kx hKx => ?_
  replace hF := Ext.at hF hR
  clear hR
  go_simp
  try (unfold stored; go_simp)
  refine hKx _ _ ⟨?_, ?_⟩
  · co_quiet (T _)
  clear hKx Kx
  try walk_nrm
  refine opsI_nil C T ?_
  show wpI _ _ _ _ _ _ _
  refine wpI_ret C T ?_
  exact ⟨.inr rfl, rfl, _, resultsC_tmp (by rfl) _, rfl, hF⟩
end
section
variable {P : Program} {Post : Value → World → Prop} {b : Frame} {a : Act} {w : World}
theorem stepG_done {fn : Func} {todo : List Item} {v : Value} (hn : b.kind = .normal) (hd : a.defers = []) (hf : P.funcs[b.fn]? = some fn) (hi : P.inits.idxOf? b.fn = none) (hr : (results fn a.tmps).run P w = .ok v w) (he : (results fn a.tmps).events P w #[] = #[]) :
    stepG P true (G { b.at a todo with mode := .returning } []) w = .ended (.done v) w #[] := by
  simp [G, stepG, unwind, doReturn, Frame.at, hn, hd, hf, hi, hr, he, seen, GStep.after]
/-- A call of the whole program: it ends. -/
theorem ends_of_calls {f : FuncId} {args : Array Value} {Q : Value → World → Prop} (hi : P.inits.idxOf? f = none) (hQ : ∀ v w' e, Q v w' → Post v (w'.at e)) (h : CallsI P (ZI P Post 0) f args (fun _ => False) w (fun _ v w' => Q v w')) : Ends P Post (solo (G (Frame.enter P f args .normal) []) w) #[] := by
  have C : ClosedI P true (fun _ : Nat → Prop => AtRel) DZ (ZI P Post 0) := ZI.closed
  have T : ∀ S, Terms AtRel (DZ S) := termsS
  obtain ⟨f₀, c, hf, _, hb, hw⟩ := h
  have hleave : ∀ (S' : Nat → Prop) (a' : Act) (w' : World) (todo : List Item), (a'.defers = [] ∧ ∃ v, ResultsC P f₀ a'.tmps v ∧ Q v w') → ZI P Post 0 S' (G { (base f).at a' todo with mode := .returning } []) w' := by
    rintro S' a' w' todo ⟨hd, v, hr, hq⟩
    exact ZI.done rfl (fun e => stepG_done (b := base f) rfl hd hf hi (hr _).1 (hr _).2) (fun e => hQ v w' e hq)
  have hz : ZI P Post 0 (fun _ => False) (G ((base f).at { tmps := args ++ Array.replicate (f₀.ntmps - args.size) undef, defers := [] } [.code c]) []) w := by
    refine hw (base f) [] [] rfl (by simp [base]) fun S' e a' w' q => ?_
    obtain ⟨he, q⟩ := q
    rcases he with rfl | rfl
    · exact C.step rfl fun w₂ h₂ => by rw [stepG_end]; exact ⟨(T S').idle _, C.rely (hleave S' a' w' [] q) h₂⟩
    · exact fun todo => hleave S' a' w' todo q
  rw [enter_at _ hf hb, solo_eq_crowd]
  have hp := past_nil
  have := hz 0 w.drawn (fun _ => False) #[G ((base f).at { tmps := args ++ Array.replicate (f₀.ntmps - args.size) undef, defers := [] } [.code c]) []] (fun _ => 0) #[] none (fun l hl => hl.elim)
    ⟨rfl, leavers_one _ _, hp.clean, hp.known, hp.over, hp.hears⟩
  exact this
end
end Go.Proofs.YtgcaionclkbehaaGreatDoor
/-
  The closed facts of the row of decodes, one by one.
-/
namespace Go.Proofs.YtgcaionclkbehaaGreatDoor
set_option maxRecDepth 100000 in
theorem decodes_k0 : (Rows.decodesRow.wf (OpenSpec.ofChange Rows.decodesSpec)) = true := by kernel_rfl
set_option maxRecDepth 100000 in
theorem decodes_k1 : (laidOutB Tryz.pinned.checked.prog) = true := by kernel_rfl
set_option maxRecDepth 100000 in
theorem decodes_k2 : (mapsRowed Tryz.pinned.checked.prog) = true := by kernel_rfl
set_option maxRecDepth 100000 in
theorem decodes_k3 : (Tryz.f3.params.all (Tryz.pinned.checked.prog.readableRec ·)) = true := by kernel_rfl
set_option maxRecDepth 100000 in
theorem decodes_k4 : (namedTie Tryz.pinned.checked.prog Rows.decodesRow.named Rows.decodesSpec.vars) = true := by kernel_rfl
set_option maxRecDepth 100000 in
theorem decodes_k5 : ((Rows.decodesRow.stops == [])) = true := by kernel_rfl
set_option maxRecDepth 100000 in
theorem decodes_k6 : ((Tryz.pinned.checked.prog.stops == [])) = true := by kernel_rfl
set_option maxRecDepth 100000 in
theorem decodes_k7 : ((Rows.decodesRow.knobs == [])) = true := by kernel_rfl
set_option maxRecDepth 100000 in
theorem decodes_k8 : ((Tryz.pinned.checked.prog.stopKnobs == [])) = true := by kernel_rfl
set_option maxRecDepth 100000 in
theorem decodes_k9 : ((Rows.decodesRow.inPlace == Tryz.pinned.checked.prog.inPlace 3)) = true := by kernel_rfl
set_option maxRecDepth 100000 in
theorem decodes_k10 : ((Rows.decodesRow.unfollowed == Tryz.pinned.checked.prog.unfollowed 3)) = true := by kernel_rfl
set_option maxRecDepth 100000 in
theorem decodes_k11 : ((Rows.decodesRow.recurses == Tryz.pinned.checked.prog.recurses 3)) = true := by kernel_rfl
set_option maxRecDepth 100000 in
theorem decodes_k12 : ((Rows.decodesRow.named == Tryz.pinned.checked.prog.varsNamed 3)) = true := by kernel_rfl
set_option maxRecDepth 100000 in
theorem decodes_k13 : ((Rows.decodesRow.maps == (Tryz.f3.params.toList ++ Rows.decodesSpec.plain.varTypes Tryz.pinned.checked.prog).any (Tryz.pinned.checked.prog.mapsRec ·))) = true := by kernel_rfl
set_option maxRecDepth 100000 in
theorem decodes_k14 : ((Rows.decodesRow.ifaces == (Tryz.f3.params.toList ++ Rows.decodesSpec.plain.varTypes Tryz.pinned.checked.prog).any (Tryz.pinned.checked.prog.ifacesRec ·))) = true := by kernel_rfl
set_option maxRecDepth 100000 in
theorem decodes_k15 : ((Rows.decodesRow.mapsOut == Tryz.pinned.checked.prog.mapsAmong Tryz.f3.resultTypes.toList)) = true := by kernel_rfl
set_option maxRecDepth 100000 in
theorem decodes_k16 : ((Rows.decodesRow.loops == (Tryz.f3.params.toList ++ Rows.decodesSpec.plain.varTypes Tryz.pinned.checked.prog).any (Tryz.pinned.checked.prog.loopsFrom ·))) = true := by kernel_rfl
set_option maxRecDepth 100000 in
theorem decodes_k17 : ((Rows.decodesRow.wideKeys == (Tryz.f3.params.toList ++ Rows.decodesSpec.plain.varTypes Tryz.pinned.checked.prog ++ Tryz.f3.resultTypes.toList).any (Tryz.pinned.checked.prog.wideKeysFrom ·))) = true := by kernel_rfl
set_option maxRecDepth 100000 in
theorem decodes_k18 : (Rows.decodesSpec.vars.all (Tryz.pinned.checked.prog.varReadable ·)) = true := by kernel_rfl
set_option maxRecDepth 100000 in
theorem decodes_k19 : (Tryz.f3.resultTypes.all (fun t => Tryz.pinned.checked.prog.readableRec t && decide (t < Tryz.pinned.checked.prog.types.size))) = true := by kernel_rfl
set_option maxRecDepth 100000 in
theorem decodes_k20 : ((Rows.decodesRow.ifacesOut == Tryz.f3.resultTypes.toList.any (Tryz.pinned.checked.prog.ifacesRec ·))) = true := by kernel_rfl
set_option maxRecDepth 100000 in
theorem decodes_k21 : ((Rows.decodesRow.loopsOut == Tryz.f3.resultTypes.toList.any (Tryz.pinned.checked.prog.loopsFrom ·))) = true := by kernel_rfl
set_option maxRecDepth 100000 in
theorem decodes_k22 : ((Rows.decodesRow.plainKeys == Tryz.pinned.checked.prog.plainKeys)) = true := by kernel_rfl
set_option maxRecDepth 100000 in
theorem decodes_k23 : (Rows.decodesRow.shortTexts.isNone) = true := by kernel_rfl
set_option maxRecDepth 100000 in
theorem decodes_k24 : (Tryz.pinned.checked.prog.stopsHeard) = true := by kernel_rfl
set_option maxRecDepth 100000 in
theorem decodes_k25 : (Tryz.pinned.checked.prog.mayEnter) = true := by kernel_rfl
set_option maxRecDepth 100000 in
theorem decodes_k26 : ((Rows.decodesRow.lifted == Tryz.pinned.checked.prog.liftsFinal)) = true := by kernel_rfl
set_option maxRecDepth 100000 in
theorem decodes_k27 : ((Tryz.pinned.checked.prog.make == some Rows.decodesRow.make)) = true := by kernel_rfl
set_option maxRecDepth 100000 in
theorem decodes_k28 : ((Rows.decodesRow.kinds == (if Rows.decodesRow.domain.isEmpty then [] else Tryz.f3.params.toList.map fun t => match Tryz.pinned.checked.prog.underlying t with | some (.int k) => some k | _ => none))) = true := by kernel_rfl
set_option maxRecDepth 100000 in
theorem decodes_k29 : ((Rows.decodesRow.pinned == Rows.decodesRow.pinnedBy)) = true := by kernel_rfl
set_option maxRecDepth 100000 in
theorem decodes_k30 : ((Rows.decodesRow.veiled == (Tryz.f3.params.toList ++ Rows.decodesSpec.plain.varTypes Tryz.pinned.checked.prog ++ Tryz.f3.resultTypes.toList).any (Tryz.pinned.checked.prog.veiledRec ·))) = true := by kernel_rfl
set_option maxRecDepth 100000 in
theorem decodes_k31 : (Rows.decodesRow.veiledFits Tryz.pinned.checked.prog Tryz.f3.params.toList (Tryz.f3.params.toList ++ Rows.decodesSpec.plain.varTypes Tryz.pinned.checked.prog ++ Tryz.f3.resultTypes.toList)) = true := by kernel_rfl
end Go.Proofs.YtgcaionclkbehaaGreatDoor
