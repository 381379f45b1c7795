/-
 Proved: whatever number and two truth values are handed in, foliokeep.Numbered at the commit 6208ed2 returns true on every schedule, without a data race, every other goroutine being ended or only leaving, and what was handed in reads as it did. Its conditions are those of the card alone: the listed tables read as the program's text lays them.
-/
import Derived.Test.YtgcaionclkbehaaGreatDoorRow3a
import Derived.Test.YtgcaionclkbehaaGreatDoorFacts3
set_option linter.all false
set_option maxRecDepth 100000
namespace Go.Proofs.YtgcaionclkbehaaGreatDoor
open Go.ChangeShapes Go.WideShapes Go.ChangeAt Go.RowKit Go.Conc
theorem laid_met (os : Os) : laidMet Tryz.prog Rows.numberedRow.laid ((layTables (World.holding Tryz.prog os ⟨#[],#[], []⟩)).forCall (fun _ _ => 0) ⟨#[],#[.int .i64 0, .bool false, .bool false], []⟩).memory :=
 laidMet_of_run' 8 (by kernel_rfl) (by kernel_rfl)
theorem reads_x (os : Os) {H : Type} (enc : TypeId × Value → H) : ∃ places,DataW.whole enc Tryz.prog ((layTables (World.holding Tryz.prog os ⟨#[],#[], []⟩)).forCall (fun _ _ => 0) ⟨#[],#[.int .i64 0, .bool false, .bool false], []⟩).memory Tryz.f11.params.toList Rows.numberedSpec.vars false #[Value.int .i64 0, .bool false, .bool false].toList 8 = some ([.lit (.int .i64 0), .lit (.bool false), .lit (.bool false)], [],places) :=
 ⟨[],by kernel_rfl⟩
theorem i64_wf {n : Int} (h : (Lit.int .i64 n).wf = true) : -9223372036854775808 ≤ n ∧ n ≤ 9223372036854775807 := by
 simp only [Lit.wf,Bool.and_eq_true,decide_eq_true_eq] at h
 exact h
theorem numbered_lifted (os : Os) (started : os.Started) (H : Type) (enc : TypeId × Value → H) :
  ReturnsInLeavingWide {} Tryz.checked os 11 .any ((OpenSpec.ofChange Rows.numberedSpec).preRow enc Tryz.prog Tryz.f11 Rows.numberedRow.domain false Rows.numberedRow.laid) (Rows.numberedSpec.post enc Tryz.prog Tryz.f11 false true false false) := by
 obtain ⟨places,hx⟩ := reads_x os enc
 refine leavingWide_of_row (C := Tryz.checked) own_x started Tryz.func11
  (witness_row_at (enc := enc) (C := Tryz.checked) false (layTables (World.holding Tryz.prog os ⟨#[],#[], []⟩)) #[.int .i64 0, .bool false, .bool false] rfl (by kernel_rfl) (by kernel_rfl) (by kernel_rfl)
   (OpenSpec.preRow_of_cond 8 hx (by kernel_rfl) (fun k hk => by cases hk) (by kernel_rfl) (laid_met os))) ?_
 intro W base args ds gs before hsh hval0 hW hsz0 hlaid
 have hG : W.heap[1]? = some (.cells entC.toArray 335) := table_x hsh hlaid
 clear hsz0 hlaid hsh
 have hval : ∀ (j : Nat) t v,Tryz.f11.params[j]? = some t → args[j]? = some v → Value.okWide Tryz.prog W .any base t v := hval0
 have hW' := hW
 obtain ⟨p,q,hA0,hV,rfl,_,_⟩ := hW
 have hA : DataW.TrodAll enc Tryz.prog W 0 (fun _ => true) true Tryz.f11.params.toList args.toList ds p := hA0
 rw [Tryz.params11] at hA hval
 obtain ⟨v0,v1,v2,d0,d1,d2,p0,p1,p2,rfl,rfl,rfl,h0,h1,h2⟩ := trodAll_three hA
 obtain ⟨rfl,rfl⟩ := trodVars_none hV
 have h0k := h0
 have h1k := h1
 have h2k := h2
 obtain ⟨fuel,hf⟩ := h0
 clear hA0 hval0
 simp only [List.append_nil] at hW'
 obtain ⟨u,rfl⟩ := okWide_int Tryz.underlying3 (hval 0 3 v0 rfl rfl)
 obtain ⟨cp,rfl⟩ := okWide_bool Tryz.underlying4 (hval 1 4 v1 rfl rfl)
 obtain ⟨sm,rfl⟩ := okWide_bool Tryz.underlying4 (hval 2 4 v2 rfl rfl)
 obtain ⟨u',hc1,_,hwf1⟩ := DataW.trod_int Tryz.underlying3 hf
 simp only [Value.cells,List.cons.injEq,and_true,Value.int.injEq,true_and] at hc1
 subst hc1
 have hu := i64_wf hwf1
 have hlt : ∀ x ∈ p0 ++ p1 ++ p2,x.block < W.heap.size := fun x hx => by simpa using hW'.lt x hx
 have ht0 : ∀ (W' : World),Below W.heap.size W W' → DataW.Trod enc Tryz.prog W' 0 (fun b => decide (b < W.heap.size)) true 3 (.int .i64 u) d0 p0 :=
  fun W' hn => Below.trod laidOut_x (by kernel_rfl) (of_decide_eq_true (by kernel_rfl)) h0k hn fun x hx => hlt x (by simp [hx])
 have ht1 : ∀ (W' : World),Below W.heap.size W W' → DataW.Trod enc Tryz.prog W' 0 (fun b => decide (b < W.heap.size)) true 4 (.bool cp) d1 p1 :=
  fun W' hn => Below.trod laidOut_x (by kernel_rfl) (of_decide_eq_true (by kernel_rfl)) h1k hn fun x hx => hlt x (by simp [hx])
 have ht2 : ∀ (W' : World),Below W.heap.size W W' → DataW.Trod enc Tryz.prog W' 0 (fun b => decide (b < W.heap.size)) true 4 (.bool sm) d2 p2 :=
  fun W' hn => Below.trod laidOut_x (by kernel_rfl) (of_decide_eq_true (by kernel_rfl)) h2k hn fun x hx => hlt x (by simp [hx])
 refine ends_of_calls (P := Tryz.prog) (Q := fun v w' => v = .bool true ∧ Ext W w') (by kernel_rfl) ?_ (numbered_x hG hu)
 rintro v w' e ⟨rfl,hE⟩
 have hb : Below W.heap.size W (w'.at e) := ⟨hE.os,hE.tape,hE.output,hE.size,hE.block⟩
 refine ⟨_,_,_, [],p0 ++ (p1 ++ p2), [],hW',?_,?_,by rfl,hb.frame _,fun h => by cases h⟩
 ·
  exact trodAll_mk1 (shut_bool Tryz.underlying4 true)
 ·
  exact trodAll_mk3 (ht0 _ hb) (ht1 _ hb) (ht2 _ hb)
theorem ze5 {a b : Bool} (ha : a = true) (hb : b = true) : (a && b) = true := by
 rw [ha,hb]
 rfl
theorem numbered_facts : joinedFacts Tryz.pinned.checked.prog 11 Tryz.f11 Rows.numberedSpec Rows.numberedRow = true := ze5 (ze5 (ze5 (ze5 (ze5 (ze5 (ze5 (ze5 (ze5 (ze5 (ze5 (ze5 (ze5 (ze5 (ze5 (ze5 (ze5 (ze5 (ze5 (ze5 (ze5 (ze5 (ze5 (ze5 (ze5 (ze5 (ze5 (ze5 (ze5 (ze5 (ze5 numbered_k0 numbered_k1) numbered_k2) numbered_k3) numbered_k4) numbered_k5) numbered_k6) numbered_k7) numbered_k8) numbered_k9) numbered_k10) numbered_k11) numbered_k12) numbered_k13) numbered_k14) numbered_k15) numbered_k16) numbered_k17) numbered_k18) numbered_k19) numbered_k20) numbered_k21) numbered_k22) numbered_k23) numbered_k24) numbered_k25) numbered_k26) numbered_k27) numbered_k28) numbered_k29) numbered_k30) numbered_k31
theorem numbered_holds : Rows.NumberedSaid :=
 OpenClaim.holds_of_wide_leaving 11 Tryz.f11 rfl rfl rfl rfl rfl rfl rfl ⟨rfl,rfl,rfl,rfl,rfl⟩ rfl rfl rfl rfl rfl (by kernel_rfl) Tryz.func11 numbered_facts
  (of_decide_eq_true (by kernel_rfl)) (by unfold Func.isWrapper; first | (rw [if_pos (by decide +kernel)]; kernel_rfl) | (rw [if_neg (by decide +kernel)]; exact ⟨rfl,rfl⟩))
  (fun os started H enc _ => by rw [OpenClaim.pre_eq_preRow]; exact numbered_lifted os started H enc)
theorem plain_x (f : FuncId) (fn : Func) (hf : Tryz.pinned.checked.prog.funcNamed Tryz.f11.name = some f) (hfn : Tryz.pinned.checked.prog.funcs[f]? = some fn) :
  false = Tryz.pinned.checked.prog.looks [] ∧ ∀ (j : Nat) t,fn.params[j]? = some t → Tryz.pinned.checked.prog.wantsStandIn t = false := by
 obtain rfl : f = 11 := Option.some.inj ((show Tryz.prog.funcNamed Tryz.f11.name = some 11 by kernel_rfl).symm.trans hf) |>.symm
 obtain rfl : fn = Tryz.f11 := (Option.some.inj (Tryz.func11.symm.trans hfn)).symm
 refine ⟨by kernel_rfl,fun j t ht => ?_⟩
 rw [Tryz.params11] at ht
 have hm : t = 3 ∨ t = 4 := by simpa using Array.mem_of_getElem? ht
 rcases hm with rfl | rfl
 ·
  exact (show Tryz.prog.wantsStandIn 3 = false by kernel_rfl)
 ·
  exact (show Tryz.prog.wantsStandIn 4 = false by kernel_rfl)
theorem numbered_card : Rows.NumberedCardSaid :=
 ⟨Claim7.tied_new_at .later [.data, .data, .pinned] true (Claim7.new_of_sixth numbered_holds _ _ rfl ⟨rfl,rfl⟩ (by kernel_rfl) rfl plain_x) (by kernel_rfl),(fun _ h => by cases h),numbered_row_tie,(fun h => by cases h),by kernel_rfl⟩
#print axioms numbered_card
end Go.Proofs.YtgcaionclkbehaaGreatDoor
