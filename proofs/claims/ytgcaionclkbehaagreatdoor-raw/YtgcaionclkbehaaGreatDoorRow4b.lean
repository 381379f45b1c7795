/-
 Proved: whatever text, number and truth value are handed in, foliokeep.Raw at the commit 6208ed2 returns true on every schedule, without a data race, every other goroutine being ended or only leaving, and what was handed in reads as it did. Its conditions are those of the card alone: the listed tables read as the program's text lays them.
-/
import Derived.Test.YtgcaionclkbehaaGreatDoorRow4a
import Derived.Test.YtgcaionclkbehaaGreatDoorFacts4
set_option linter.all false
set_option maxRecDepth 100000
namespace Go.Proofs.YtgcaionclkbehaaGreatDoor
open Go.ChangeShapes Go.WideShapes Go.ChangeAt Go.RowKit Go.Conc
theorem laid_met (os : Os) : laidMet Tryz.prog Rows.rawRow.laid ((layTables (World.holding Tryz.prog os ⟨#[],#[], []⟩)).forCall (fun _ _ => 0) ⟨#[],#[.string ⟨#[]⟩, .int .i64 0, .bool false], []⟩).memory :=
 laidMet_of_run' 8 (by kernel_rfl) (by kernel_rfl)
theorem reads_x (os : Os) {H : Type} (enc : TypeId × Value → H) : ∃ places,DataW.whole enc Tryz.prog ((layTables (World.holding Tryz.prog os ⟨#[],#[], []⟩)).forCall (fun _ _ => 0) ⟨#[],#[.string ⟨#[]⟩, .int .i64 0, .bool false], []⟩).memory Tryz.f12.params.toList Rows.rawSpec.vars false #[Value.string ⟨#[]⟩, .int .i64 0, .bool false].toList 8 = some ([.lit (.string []), .lit (.int .i64 0), .lit (.bool false)], [],places) :=
 ⟨[],by kernel_rfl⟩
theorem i64_wf {n : Int} (h : (Lit.int .i64 n).wf = true) : -9223372036854775808 ≤ n ∧ n ≤ 9223372036854775807 := by
 simp only [Lit.wf,Bool.and_eq_true,decide_eq_true_eq] at h
 exact h
theorem raw_lifted (os : Os) (started : os.Started) (H : Type) (enc : TypeId × Value → H) :
  ReturnsInLeavingWide {} Tryz.checked os 12 .any ((OpenSpec.ofChange Rows.rawSpec).preRow enc Tryz.prog Tryz.f12 Rows.rawRow.domain false Rows.rawRow.laid) (Rows.rawSpec.post enc Tryz.prog Tryz.f12 false true false false) := by
 obtain ⟨places,hx⟩ := reads_x os enc
 refine leavingWide_of_row (C := Tryz.checked) own_x started Tryz.func12
  (witness_row_at (enc := enc) (C := Tryz.checked) false (layTables (World.holding Tryz.prog os ⟨#[],#[], []⟩)) #[.string ⟨#[]⟩, .int .i64 0, .bool false] rfl (by kernel_rfl) (by kernel_rfl) (by kernel_rfl)
   (OpenSpec.preRow_of_cond 8 hx (by kernel_rfl) (fun k hk => by cases hk) (by kernel_rfl) (laid_met os))) ?_
 intro W base args ds gs before hsh hval0 hW hsz0 hlaid
 have hG : W.heap[1]? = some (.cells entC.toArray 335) := table_x hsh hlaid
 clear hsz0 hlaid hsh
 have hval : ∀ (j : Nat) t v,Tryz.f12.params[j]? = some t → args[j]? = some v → Value.okWide Tryz.prog W .any base t v := hval0
 have hW' := hW
 obtain ⟨p,q,hA0,hV,rfl,_,_⟩ := hW
 have hA : DataW.TrodAll enc Tryz.prog W 0 (fun _ => true) true Tryz.f12.params.toList args.toList ds p := hA0
 rw [Tryz.params12] at hA hval
 obtain ⟨v0,v1,v2,d0,d1,d2,p0,p1,p2,rfl,rfl,rfl,h0,h1,h2⟩ := trodAll_three hA
 obtain ⟨rfl,rfl⟩ := trodVars_none hV
 have h0k := h0
 have h1k := h1
 have h2k := h2
 obtain ⟨fuel,hf⟩ := h0
 obtain ⟨fuel1,hf1⟩ := h1
 clear hA0 hval0
 simp only [List.append_nil] at hW'
 obtain ⟨qs,rfl⟩ := okWide_string Tryz.underlying9 (hval 0 9 v0 rfl rfl)
 obtain ⟨u,rfl⟩ := okWide_int Tryz.underlying3 (hval 1 3 v1 rfl rfl)
 obtain ⟨cp,rfl⟩ := okWide_bool Tryz.underlying4 (hval 2 4 v2 rfl rfl)
 obtain ⟨u',hc1,_,hwf1⟩ := DataW.trod_int Tryz.underlying3 hf1
 obtain ⟨qs',hc2,_,hq⟩ := DataW.trod_string Tryz.underlying9 hf
 simp only [Value.cells,List.cons.injEq,and_true,Value.int.injEq,true_and,Value.string.injEq] at hc1 hc2
 subst hc1 hc2
 have hu := i64_wf hwf1
 have hqs : qs.data.toList.length ≤ 9223372036854775807 := Nat.le_trans hq (by decide)
 have hlt : ∀ x ∈ p0 ++ p1 ++ p2,x.block < W.heap.size := fun x hx => by simpa using hW'.lt x hx
 have ht0 : ∀ (W' : World),Below W.heap.size W W' → DataW.Trod enc Tryz.prog W' 0 (fun b => decide (b < W.heap.size)) true 9 (.string qs) d0 p0 :=
  fun W' hn => Below.trod laidOut_x (by kernel_rfl) (of_decide_eq_true (by kernel_rfl)) h0k hn fun x hx => hlt x (by simp [hx])
 have ht1 : ∀ (W' : World),Below W.heap.size W W' → DataW.Trod enc Tryz.prog W' 0 (fun b => decide (b < W.heap.size)) true 3 (.int .i64 u) d1 p1 :=
  fun W' hn => Below.trod laidOut_x (by kernel_rfl) (of_decide_eq_true (by kernel_rfl)) h1k hn fun x hx => hlt x (by simp [hx])
 have ht2 : ∀ (W' : World),Below W.heap.size W W' → DataW.Trod enc Tryz.prog W' 0 (fun b => decide (b < W.heap.size)) true 4 (.bool cp) d2 p2 :=
  fun W' hn => Below.trod laidOut_x (by kernel_rfl) (of_decide_eq_true (by kernel_rfl)) h2k hn fun x hx => hlt x (by simp [hx])
 refine ends_of_calls (P := Tryz.prog) (Q := fun v w' => v = .bool true ∧ Ext W w') (by kernel_rfl) ?_ (raw_x hG hqs hu)
 rintro v w' e ⟨rfl,hE⟩
 have hb : Below W.heap.size W (w'.at e) := ⟨hE.os,hE.tape,hE.output,hE.size,hE.block⟩
 refine ⟨_,_,_, [],p0 ++ (p1 ++ p2), [],hW',?_,?_,by rfl,hb.frame _,fun h => by cases h⟩
 ·
  exact trodAll_mk1 (shut_bool Tryz.underlying4 true)
 ·
  exact trodAll_mk3 (ht0 _ hb) (ht1 _ hb) (ht2 _ hb)
theorem ze6 {a b : Bool} (ha : a = true) (hb : b = true) : (a && b) = true := by
 rw [ha,hb]
 rfl
theorem raw_facts : joinedFacts Tryz.pinned.checked.prog 12 Tryz.f12 Rows.rawSpec Rows.rawRow = true := ze6 (ze6 (ze6 (ze6 (ze6 (ze6 (ze6 (ze6 (ze6 (ze6 (ze6 (ze6 (ze6 (ze6 (ze6 (ze6 (ze6 (ze6 (ze6 (ze6 (ze6 (ze6 (ze6 (ze6 (ze6 (ze6 (ze6 (ze6 (ze6 (ze6 (ze6 raw_k0 raw_k1) raw_k2) raw_k3) raw_k4) raw_k5) raw_k6) raw_k7) raw_k8) raw_k9) raw_k10) raw_k11) raw_k12) raw_k13) raw_k14) raw_k15) raw_k16) raw_k17) raw_k18) raw_k19) raw_k20) raw_k21) raw_k22) raw_k23) raw_k24) raw_k25) raw_k26) raw_k27) raw_k28) raw_k29) raw_k30) raw_k31
theorem raw_holds : Rows.RawSaid :=
 OpenClaim.holds_of_wide_leaving 12 Tryz.f12 rfl rfl rfl rfl rfl rfl rfl ⟨rfl,rfl,rfl,rfl,rfl⟩ rfl rfl rfl rfl rfl (by kernel_rfl) Tryz.func12 raw_facts
  (of_decide_eq_true (by kernel_rfl)) (by unfold Func.isWrapper; first | (rw [if_pos (by decide +kernel)]; kernel_rfl) | (rw [if_neg (by decide +kernel)]; exact ⟨rfl,rfl⟩))
  (fun os started H enc _ => by rw [OpenClaim.pre_eq_preRow]; exact raw_lifted os started H enc)
theorem plain_x (f : FuncId) (fn : Func) (hf : Tryz.pinned.checked.prog.funcNamed Tryz.f12.name = some f) (hfn : Tryz.pinned.checked.prog.funcs[f]? = some fn) :
  false = Tryz.pinned.checked.prog.looks [] ∧ ∀ (j : Nat) t,fn.params[j]? = some t → Tryz.pinned.checked.prog.wantsStandIn t = false := by
 obtain rfl : f = 12 := Option.some.inj ((show Tryz.prog.funcNamed Tryz.f12.name = some 12 by kernel_rfl).symm.trans hf) |>.symm
 obtain rfl : fn = Tryz.f12 := (Option.some.inj (Tryz.func12.symm.trans hfn)).symm
 refine ⟨by kernel_rfl,fun j t ht => ?_⟩
 rw [Tryz.params12] at ht
 have hm : t = 9 ∨ t = 3 ∨ t = 4 := by simpa using Array.mem_of_getElem? ht
 rcases hm with rfl | rfl | rfl
 ·
  exact (show Tryz.prog.wantsStandIn 9 = false by kernel_rfl)
 ·
  exact (show Tryz.prog.wantsStandIn 3 = false by kernel_rfl)
 ·
  exact (show Tryz.prog.wantsStandIn 4 = false by kernel_rfl)
theorem raw_card : Rows.RawCardSaid :=
 ⟨Claim7.tied_new_at .later [.data, .data, .pinned] true (Claim7.new_of_sixth raw_holds _ _ rfl ⟨rfl,rfl⟩ (by kernel_rfl) rfl plain_x) (by kernel_rfl),(fun _ h => by cases h),raw_row_tie,(fun h => by cases h),by kernel_rfl⟩
#print axioms raw_card
end Go.Proofs.YtgcaionclkbehaaGreatDoor
