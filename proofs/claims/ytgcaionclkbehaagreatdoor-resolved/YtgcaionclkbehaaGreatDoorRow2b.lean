/-
 Proved: whatever list of numbers, number and text are handed in, foliokeep.Resolved at the commit 6208ed2 returns true on every schedule, without a data race, every other goroutine being ended or only leaving, and what was handed in reads as it did. Its conditions are those of the card alone: the listed tables read as the program's text lays them.
-/
import Derived.Test.YtgcaionclkbehaaGreatDoorRow2a
import Derived.Test.YtgcaionclkbehaaGreatDoorFacts2
set_option linter.all false
set_option maxRecDepth 100000
namespace Go.Proofs.YtgcaionclkbehaaGreatDoor
open Go.ChangeShapes Go.WideShapes Go.ChangeAt Go.RowKit Go.Conc
theorem laid_met (os : Os) : laidMet Tryz.prog Rows.resolvedRow.laid ((layTables (World.holding Tryz.prog os ⟨#[], #[], []⟩)).forCall (fun _ _ => 0) ⟨#[], #[.slice .none 0 0, .int .i64 0, .string ⟨#[]⟩], []⟩).memory :=
 laidMet_of_run' 8 (by kernel_rfl) (by kernel_rfl)
theorem reads_x (os : Os) {H : Type} (enc : TypeId × Value → H) : ∃ places, DataW.whole enc Tryz.prog ((layTables (World.holding Tryz.prog os ⟨#[], #[], []⟩)).forCall (fun _ _ => 0) ⟨#[], #[.slice .none 0 0, .int .i64 0, .string ⟨#[]⟩], []⟩).memory Tryz.f13.params.toList Rows.resolvedSpec.vars false #[Value.slice .none 0 0, .int .i64 0, .string ⟨#[]⟩].toList 8 = some ([.nil, .lit (.int .i64 0), .lit (.string [])], [], places) :=
 ⟨[], by kernel_rfl⟩
theorem i64_wf {n : Int} (h : (Lit.int .i64 n).wf = true) : -9223372036854775808 ≤ n ∧ n ≤ 9223372036854775807 := by
 simp only [Lit.wf, Bool.and_eq_true, decide_eq_true_eq] at h
 exact h
theorem resolved_lifted (os : Os) (started : os.Started) (H : Type) (enc : TypeId × Value → H) :
  ReturnsInLeavingWide {} Tryz.checked os 13 .any ((OpenSpec.ofChange Rows.resolvedSpec).preRow enc Tryz.prog Tryz.f13 Rows.resolvedRow.domain false Rows.resolvedRow.laid) (Rows.resolvedSpec.post enc Tryz.prog Tryz.f13 false true false false) := by
 obtain ⟨places, hx⟩ := reads_x os enc
 refine leavingWide_of_row (C := Tryz.checked) own_x started Tryz.func13
  (witness_row_at (enc := enc) (C := Tryz.checked) false (layTables (World.holding Tryz.prog os ⟨#[], #[], []⟩)) #[.slice .none 0 0, .int .i64 0, .string ⟨#[]⟩] rfl (by kernel_rfl) (by kernel_rfl) (by kernel_rfl)
   (OpenSpec.preRow_of_cond 8 hx (by kernel_rfl) (fun k hk => by cases hk) (by kernel_rfl) (laid_met os))) ?_
 intro W base args ds gs before hsh hval0 hW hsz0 hlaid
 have hG : W.heap[1]? = some (.cells entC.toArray 335) := table_x hsh hlaid
 clear hsz0 hlaid hsh
 have hval : ∀ (j : Nat) t v, Tryz.f13.params[j]? = some t → args[j]? = some v → Value.okWide Tryz.prog W .any base t v := hval0
 have hW' := hW
 obtain ⟨p, q, hA0, hV, rfl, _, _⟩ := hW
 have hA : DataW.TrodAll enc Tryz.prog W 0 (fun _ => true) true Tryz.f13.params.toList args.toList ds p := hA0
 rw [Tryz.params13] at hA hval
 obtain ⟨v0, v1, v2, d0, d1, d2, p0, p1, p2, rfl, rfl, rfl, h0, h1, h2⟩ := trodAll_three hA
 obtain ⟨rfl, rfl⟩ := trodVars_none hV
 obtain ⟨a0, len, cap, rfl⟩ := okWide_slice Tryz.underlying25 (hval 0 25 v0 rfl rfl)
 have hok0 := hval 0 25 _ rfl rfl
 have h0k := h0
 have h1k := h1
 have h2k := h2
 obtain ⟨fuel, hf⟩ := h0
 obtain ⟨fuel1, hf1⟩ := h1
 obtain ⟨fuel2, hf2⟩ := h2
 clear hA0 hval0
 simp only [List.append_nil] at hW'
 obtain ⟨u, rfl⟩ := okWide_int Tryz.underlying3 (hval 1 3 v1 rfl rfl)
 obtain ⟨qs, rfl⟩ := okWide_string Tryz.underlying9 (hval 2 9 v2 rfl rfl)
 obtain ⟨u', hc1, _, hwf1⟩ := DataW.trod_int Tryz.underlying3 hf1
 obtain ⟨qs', hc2, _, hq⟩ := DataW.trod_string Tryz.underlying9 hf2
 simp only [Value.cells, List.cons.injEq, and_true, Value.int.injEq, true_and, Value.string.injEq] at hc1 hc2
 subst hc1 hc2
 have hu := i64_wf hwf1
 have hqs : qs.size ≤ 9223372036854775807 := Nat.le_trans hq (by decide)
 have hlt : ∀ x ∈ p0 ++ p1 ++ p2, x.block < W.heap.size := fun x hx => by simpa using hW'.lt x hx
 have ht0 : ∀ (W' : World), Below W.heap.size W W' → DataW.Trod enc Tryz.prog W' 0 (fun b => decide (b < W.heap.size)) true 25 (.slice a0 len cap) d0 p0 :=
  fun W' hn => Below.trod laidOut_x (by kernel_rfl) (of_decide_eq_true (by kernel_rfl)) h0k hn fun x hx => hlt x (by simp [hx])
 have ht1 : ∀ (W' : World), Below W.heap.size W W' → DataW.Trod enc Tryz.prog W' 0 (fun b => decide (b < W.heap.size)) true 3 (.int .i64 u) d1 p1 :=
  fun W' hn => Below.trod laidOut_x (by kernel_rfl) (of_decide_eq_true (by kernel_rfl)) h1k hn fun x hx => hlt x (by simp [hx])
 have ht2 : ∀ (W' : World), Below W.heap.size W W' → DataW.Trod enc Tryz.prog W' 0 (fun b => decide (b < W.heap.size)) true 9 (.string qs) d2 p2 :=
  fun W' hn => Below.trod laidOut_x (by kernel_rfl) (of_decide_eq_true (by kernel_rfl)) h2k hn fun x hx => hlt x (by simp [hx])
 have close : ((a0 = none ∧ len = 0 ∧ cap = 0) ∨ ∃ Sb so, a0 = some ⟨Sb, so, none⟩ ∧ len ≤ cap ∧ cap ≤ maxLen ∧ (0 < len → Sb < W.heap.size) ∧ ∀ i, i < len → ∃ y, (-9223372036854775808 ≤ y ∧ y ≤ 9223372036854775807) ∧ W.cell? ⟨Sb, so + i, none⟩ = some (num y)) →
   ∃ M last o w' t', runNT Tryz.checked.prog (M + 1) (solo (G (Frame.enter Tryz.checked.prog 13 #[.slice a0 len cap, .int .i64 u, .string qs] .normal) []) W) #[] = (.ended o w', t') ∧
    runN Tryz.checked.prog M (solo (G (Frame.enter Tryz.checked.prog 13 #[.slice a0 len cap, .int .i64 u, .string qs] .normal) []) W) = .next last ∧ step Tryz.checked.prog last = .ended o w' ∧
    Conc.Good Tryz.checked.prog (fun v W' => Rows.resolvedSpec.post enc Tryz.checked.prog Tryz.f13 false true false false W #[.slice a0 len cap, .int .i64 u, .string qs] v W') last o w' t' := by
  intro ha
  refine ends_of_calls (P := Tryz.prog) (Q := fun v w' => v = .bool true ∧ Ext W w') (by kernel_rfl) ?_ (resolved_x hG hu hqs ha)
  rintro v w' e ⟨rfl, hE⟩
  have hb : Below W.heap.size W (w'.at e) := ⟨hE.os, hE.tape, hE.output, hE.size, hE.block⟩
  refine ⟨_, _, _, [], p0 ++ (p1 ++ p2), [], hW', ?_, ?_, by rfl, hb.frame _, fun h => by cases h⟩
  ·
   exact trodAll_mk1 (shut_bool Tryz.underlying4 true)
  ·
   exact trodAll_mk3 (ht0 _ hb) (ht1 _ hb) (ht2 _ hb)
 rcases DataW.trod_slice Tryz.underlying25 hf with ⟨hcs, hx⟩ | ⟨a, len', cap', elems, rest, n, _, hcs, hx, _, hl, hm, hel, hget, _, _⟩
 ·
  simp [Value.cells] at hcs
  obtain ⟨rfl, rfl, rfl⟩ := hcs
  exact close (.inl ⟨rfl, rfl, rfl⟩)
 ·
  simp [Value.cells] at hcs
  obtain ⟨rfl, rfl, rfl⟩ := hcs
  obtain ⟨b, off, spot⟩ := a
  have hspot : spot = none := by
   simp only [Value.okWide, Cell.okWide, Cell.ok, Tryz.underlying25, World.has] at hok0
   exact hok0.2.2.2.1
  subst hspot
  rw [cells3_x] at hget
  have hcell : ∀ i, i < len → ∃ y, (-9223372036854775808 ≤ y ∧ y ≤ 9223372036854775807) ∧ W.cell? ⟨b, off + i, none⟩ = some (num y) := by
   intro i hi
   have hg := hget i hi
   rw [List.getElem?_eq_getElem (by omega)] at hg
   obtain ⟨cs, g1, g2⟩ := Option.bind_eq_some_iff.1 hg
   obtain ⟨_, hcl, hcell⟩ := World.cells?_some g1
   obtain ⟨y, rfl, _, hwf⟩ := DataW.trod_int Tryz.underlying3 g2
   refine ⟨y, i64_wf hwf, ?_⟩
   have := hcell 0 (by omega)
   rw [addr_add, addr_add] at this
   simpa using this
  refine close (.inr ⟨b, off, rfl, hl, hm, fun h0 => ?_, hcell⟩)
  obtain ⟨y, _, hy⟩ := hcell 0 h0
  unfold World.cell? at hy
  cases hb : W.heap[b]? with
  | none => simp [hb] at hy
  | some o => exact (Array.getElem?_eq_some_iff.1 hb).1
theorem and2_x {a b : Bool} (ha : a = true) (hb : b = true) : (a && b) = true := by
 rw [ha, hb]
 rfl
theorem resolved_facts : joinedFacts Tryz.pinned.checked.prog 13 Tryz.f13 Rows.resolvedSpec Rows.resolvedRow = true := and2_x (and2_x (and2_x (and2_x (and2_x (and2_x (and2_x (and2_x (and2_x (and2_x (and2_x (and2_x (and2_x (and2_x (and2_x (and2_x (and2_x (and2_x (and2_x (and2_x (and2_x (and2_x (and2_x (and2_x (and2_x (and2_x (and2_x (and2_x (and2_x (and2_x (and2_x resolved_k0 resolved_k1) resolved_k2) resolved_k3) resolved_k4) resolved_k5) resolved_k6) resolved_k7) resolved_k8) resolved_k9) resolved_k10) resolved_k11) resolved_k12) resolved_k13) resolved_k14) resolved_k15) resolved_k16) resolved_k17) resolved_k18) resolved_k19) resolved_k20) resolved_k21) resolved_k22) resolved_k23) resolved_k24) resolved_k25) resolved_k26) resolved_k27) resolved_k28) resolved_k29) resolved_k30) resolved_k31
theorem resolved_holds : Rows.ResolvedSaid :=
 OpenClaim.holds_of_wide_leaving 13 Tryz.f13 rfl rfl rfl rfl rfl rfl rfl ⟨rfl, rfl, rfl, rfl, rfl⟩ rfl rfl rfl rfl rfl (by kernel_rfl) Tryz.func13 resolved_facts
  (of_decide_eq_true (by kernel_rfl)) (by unfold Func.isWrapper; first | (rw [if_pos (by decide +kernel)]; kernel_rfl) | (rw [if_neg (by decide +kernel)]; exact ⟨rfl, rfl⟩))
  (fun os started H enc _ => by rw [OpenClaim.pre_eq_preRow]; exact resolved_lifted os started H enc)
theorem plain_x (f : FuncId) (fn : Func) (hf : Tryz.pinned.checked.prog.funcNamed Tryz.f13.name = some f) (hfn : Tryz.pinned.checked.prog.funcs[f]? = some fn) :
  false = Tryz.pinned.checked.prog.looks [] ∧ ∀ (j : Nat) t, fn.params[j]? = some t → Tryz.pinned.checked.prog.wantsStandIn t = false := by
 obtain rfl : f = 13 := Option.some.inj ((show Tryz.prog.funcNamed Tryz.f13.name = some 13 by kernel_rfl).symm.trans hf) |>.symm
 obtain rfl : fn = Tryz.f13 := (Option.some.inj (Tryz.func13.symm.trans hfn)).symm
 refine ⟨by kernel_rfl, fun j t ht => ?_⟩
 rw [Tryz.params13] at ht
 have hm : t = 25 ∨ t = 3 ∨ t = 9 := by simpa using Array.mem_of_getElem? ht
 rcases hm with rfl | rfl | rfl
 ·
  exact (show Tryz.prog.wantsStandIn 25 = false by kernel_rfl)
 ·
  exact (show Tryz.prog.wantsStandIn 3 = false by kernel_rfl)
 ·
  exact (show Tryz.prog.wantsStandIn 9 = false by kernel_rfl)
theorem resolved_card : Rows.ResolvedCardSaid :=
 ⟨Claim7.tied_new_at .later [.data, .data, .pinned] true (Claim7.new_of_sixth resolved_holds _ _ rfl ⟨rfl, rfl⟩ (by kernel_rfl) rfl plain_x) (by kernel_rfl), (fun _ h => by cases h), resolved_row_tie, (fun h => by cases h), by kernel_rfl⟩
#print axioms resolved_card
end Go.Proofs.YtgcaionclkbehaaGreatDoor
