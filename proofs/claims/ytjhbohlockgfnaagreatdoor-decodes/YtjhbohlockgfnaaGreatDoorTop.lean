/-
  foliolaw.Decodes, and the run that enters it.
-/
import Derived.Test.YtjhbohlockgfnaaGreatDoorPlay
set_option linter.all false
set_option linter.unusedSectionVars false
set_option linter.unusedSimpArgs false
namespace Go.Proofs.YtjhbohlockgfnaaGreatDoor
open Go.Conc Go.RowKit
section
variable {w w₁ w₂ : World} {Post : Value → World → Prop} {S : Nat → Prop}
set_option maxRecDepth 100000 in
set_option maxHeartbeats 2000000 in
theorem decodes_x (a0 : Option Addr) (len cap Sb so : Nat) (kd on : Nat → Int) (A B : Nat → ByteArray) (L : Nat → Value) (hlen : len ≤ 140737488355328) (hS : ∀ b, ¬ S b) (ha : 0 < len → a0 = some ⟨Sb, so, none⟩) (hSb : 0 < len → Sb < w.heap.size)
    (hscr : ∀ i, i < len → ∀ j v, (opV (kd i) (on i) (A i) (B i) (L i))[j]? = some v → w.cell? ⟨Sb, so + i * 5 + j, none⟩ = some v) :
    CallsI Tryz.prog (ZI Tryz.prog Post 0) 3 #[.slice a0 len cap] S w (fun _ x w' => x = .bool true ∧ Ext w w') := by
  have C : ClosedI Tryz.prog true (fun _ : Nat → Prop => AtRel) DZ (ZI Tryz.prog Post 0) := ZI.closed
  have T : ∀ S, Terms AtRel (DZ S) := termsS
  have hF := Ext.refl w
  refine callsI_of Tryz.func3 (by rfl) rfl ?_
  simp only [Tryz.ntmps3, List.size_toArray, List.length_cons, List.length_nil, Nat.reduceAdd, Nat.reduceSub, Array.replicate_succ, Array.replicate_zero, List.push_toArray, List.append_toArray, List.nil_append, List.cons_append]
  refine wpI_seq C T ?_
  refine wpI_region C T ?_
  simp only [List.size_toArray, List.length_cons, List.length_nil, Nat.reduceAdd, Nat.zero_add, List.range, List.range.loop]
  refine opsI_cons C rfl (by rfl) fun _ hR Kx hKx => ?_
  replace hF := Ext.at hF hR
  clear hR
  go_simp
  try (unfold stored; go_simp)
  refine hKx _ _ ⟨?_, ?_⟩
  · co_quiet (T _)
  clear hKx Kx
  try walk_nrm
  refine opsI_nil C T ?_
  show wpI _ _ _ _ _ _ _
  refine wpI_seq C T ?_
  refine wpI_region C T ?_
  simp only [List.size_toArray, List.length_cons, List.length_nil, Nat.reduceAdd, Nat.zero_add, List.range, List.range.loop]
  refine opsI_cons C rfl (by rfl) fun _ hR Kx hKx => ?_
  replace hF := Ext.at hF hR
  clear hR
  go_simp
  try (unfold stored; go_simp)
  refine hKx _ _ ⟨?_, ?_⟩
  · co_quiet (T _)
  clear hKx Kx
  try walk_nrm
  refine opsI_callX C T rfl (by rfl) rfl rfl (by simp [Act.eval]) rfl (played_x a0 len cap Sb so kd on A B L hlen hS ha (fun h => Nat.lt_of_lt_of_le (hSb h) hF.size) (fun i hi j v hv => (hF.cell (hSb (by omega))).trans (hscr i hi j v hv))) ?_
  rintro S2 _ w₂ ⟨rfl, hE2⟩
  replace hF := hF.trans hE2
  clear hE2
  try walk_nrm
  refine opsI_cons C rfl (by rfl) fun _ hR Kx hKx => ?_
  replace hF := Ext.at hF hR
  clear hR
  go_simp
  try (unfold stored; go_simp)
  refine hKx _ _ ⟨?_, ?_⟩
  · co_quiet (T _)
  clear hKx Kx
  try walk_nrm
  refine opsI_nil C T ?_
  show wpI _ _ _ _ _ _ _
  refine wpI_ret C T ?_
  exact ⟨.inr rfl, rfl, _, resultsC_tmp (by rfl) _, rfl, hF⟩
end
section
variable {P : Program} {Post : Value → World → Prop} {b : Frame} {a : Act} {w : World}
theorem stepG_done {fn : Func} {todo : List Item} {v : Value} (hn : b.kind = .normal) (hd : a.defers = []) (hf : P.funcs[b.fn]? = some fn) (hi : P.inits.idxOf? b.fn = none) (hr : (results fn a.tmps).run P w = .ok v w) (he : (results fn a.tmps).events P w #[] = #[]) :
    stepG P true (G { b.at a todo with mode := .returning } []) w = .ended (.done v) w #[] := by
  simp [G, stepG, unwind, doReturn, Frame.at, hn, hd, hf, hi, hr, he, seen, GStep.after]
/-- A call of the whole program: it ends. -/
theorem ends_of_calls {f : FuncId} {args : Array Value} {Q : Value → World → Prop} (hi : P.inits.idxOf? f = none) (hQ : ∀ v w' e, Q v w' → Post v (w'.at e)) (h : CallsI P (ZI P Post 0) f args (fun _ => False) w (fun _ v w' => Q v w')) : Ends P Post (solo (G (Frame.enter P f args .normal) []) w) #[] := by
  have C : ClosedI P true (fun _ : Nat → Prop => AtRel) DZ (ZI P Post 0) := ZI.closed
  have T : ∀ S, Terms AtRel (DZ S) := termsS
  obtain ⟨f₀, c, hf, _, hb, hw⟩ := h
  have hleave : ∀ (S' : Nat → Prop) (a' : Act) (w' : World) (todo : List Item), (a'.defers = [] ∧ ∃ v, ResultsC P f₀ a'.tmps v ∧ Q v w') → ZI P Post 0 S' (G { (base f).at a' todo with mode := .returning } []) w' := by
    rintro S' a' w' todo ⟨hd, v, hr, hq⟩
    exact ZI.done rfl (fun e => stepG_done (b := base f) rfl hd hf hi (hr _).1 (hr _).2) (fun e => hQ v w' e hq)
  have hz : ZI P Post 0 (fun _ => False) (G ((base f).at { tmps := args ++ Array.replicate (f₀.ntmps - args.size) undef, defers := [] } [.code c]) []) w := by
    refine hw (base f) [] [] rfl (by simp [base]) fun S' e a' w' q => ?_
    obtain ⟨he, q⟩ := q
    rcases he with rfl | rfl
    · exact C.step rfl fun w₂ h₂ => by rw [stepG_end]; exact ⟨(T S').idle _, C.rely (hleave S' a' w' [] q) h₂⟩
    · exact fun todo => hleave S' a' w' todo q
  rw [enter_at _ hf hb, solo_eq_crowd]
  have hp := past_nil
  have := hz 0 w.drawn (fun _ => False) #[G ((base f).at { tmps := args ++ Array.replicate (f₀.ntmps - args.size) undef, defers := [] } [.code c]) []] (fun _ => 0) #[] none (fun l hl => hl.elim)
    ⟨rfl, leavers_one _ _, hp.clean, hp.known, hp.over, hp.hears⟩
  exact this
end
end Go.Proofs.YtjhbohlockgfnaaGreatDoor
