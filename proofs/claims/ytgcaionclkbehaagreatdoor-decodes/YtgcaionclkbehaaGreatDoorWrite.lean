/-
  Goroutine 0 beside the child: (*strings.Builder).WriteRune.
-/
import Derived.Test.YtgcaionclkbehaaGreatDoorRune
import Derived.Test.YtgcaionclkbehaaGreatDoorBits
set_option linter.all false
set_option linter.unusedSectionVars false
set_option linter.unusedSimpArgs false
namespace Go.Proofs.YtgcaionclkbehaaGreatDoor
open Go.Conc Go.RowKit
/-- A letter. -/
def Good (r : Int) : Prop := (0 ≤ r ∧ r < 55296) ∨ (57343 < r ∧ r ≤ 1114111)
section
variable {ι : Type} {R : ι → World → World → Prop} {D : ι → World → World → Array Event → Prop} {X : ι → Goroutine → World → Prop} {i : ι} {M : World → Nat → Prop} {O : Nat → Prop} {N0 : Nat} {Ex : Nat → Prop} {w₀ w w₁ : World} {Bb : Nat} {p u v : Value} {n : Nat} {xs : List Value}
variable {r : Int}
set_option maxRecDepth 100000 in
set_option maxHeartbeats 2000000 in
theorem nonAscii_x (C : ClosedI Tryz.prog true R D X) (T : ∀ i, Terms (R i) (D i)) (E : Env KTs N0 M O (R i) (D i)) (hF : HM M O N0 Ex w₀ Bb p u v n xs w) (hg : Good r) (hr : 128 ≤ r) (hn : n ≤ 1000000) :
    CallsI Tryz.prog X 346 #[v, .int .i32 r] i w (fun i' x w' => i' = i ∧ HM M O N0 Ex w₀ Bb p u x (n + (Lib.runeCells r).length) (xs ++ Lib.runeCells r) w') := by
  have evp : ∀ (w : World) (es : Array Event) (a : Addr) (m : Mode) (x : Option Addr), (store a (.pointer x) m).events Tryz.prog w es = storedEv Tryz.prog w es a (.pointer x) m := fun w es a m x => events_store Tryz.prog w es a _ m rfl
  have evl : ∀ (w : World) (es : Array Event) (a : Addr) (m : Mode) (x : Option Addr) (l c : Nat), (store a (.slice x l c) m).events Tryz.prog w es = storedEv Tryz.prog w es a (.slice x l c) m := fun w es a m x l c => events_store Tryz.prog w es a _ m rfl
  have hg' : r ≤ 1114111 := by rcases hg with h | h <;> omega
  have hu : IntKind.u32.wrap r = r := by rw [IntKind.wrap_u32]; omega
  refine callsI_of Tryz.func346 (by rfl) rfl ?_
  simp only [Tryz.ntmps346, List.size_toArray, List.length_cons, List.length_nil, Nat.reduceAdd, Nat.reduceSub, Array.replicate_succ, Array.replicate_zero, List.push_toArray, List.append_toArray, List.nil_append, List.cons_append]
  refine wpI_seq C T ?_
  refine wpI_region C T ?_
  simp only [List.size_toArray, List.length_cons, List.length_nil, Nat.reduceAdd, Nat.zero_add, List.range, List.range.loop]
  refine opsI_cons C rfl (by rfl) fun _ hR Kx hKx => ?_
  replace hF := HM.rely E hF hR
  clear hR
  go_simp
  try (unfold stored; go_simp)
  refine hKx _ _ ⟨?_, ?_⟩
  · co_quiet (T i)
  clear hKx Kx
  try walk_nrm
  refine opsI_nil C T ?_
  show wpI _ _ _ _ _ _ _
  refine wpI_seq C T ?_
  refine wpI_region C T ?_
  simp only [List.size_toArray, List.length_cons, List.length_nil, Nat.reduceAdd, Nat.zero_add, List.range, List.range.loop]
  refine opsI_cons C rfl (by rfl) fun _ hR Kx hKx => ?_
  replace hF := HM.rely E hF hR
  clear hR
  go_simp
  try (unfold stored; go_simp)
  refine hKx _ _ ⟨?_, ?_⟩
  · co_quiet (T i)
  clear hKx Kx
  try walk_nrm
  refine opsI_cons C rfl (by rfl) fun _ hR Kx hKx => ?_
  replace hF := HM.rely E hF hR
  clear hR
  go_simp
  try (unfold stored; go_simp)
  refine hKx _ _ ⟨?_, ?_⟩
  · co_quiet (T i)
  clear hKx Kx
  try walk_nrm
  refine opsI_cons C rfl (by rfl) fun _ hR Kx hKx => ?_
  replace hF := HM.rely E hF hR
  clear hR
  go_simp
  try (unfold stored; go_simp)
  refine hKx _ _ ⟨?_, ?_⟩
  · co_quiet (T i)
  clear hKx Kx
  try walk_nrm
  refine opsI_nil C T ?_
  show wpI _ _ _ _ _ _ _
  refine wpI_block C T ?_
  refine wpI_seq C T ?_
  refine wpI_region C T ?_
  simp only [List.size_toArray, List.length_cons, List.length_nil, Nat.reduceAdd, Nat.zero_add, List.range, List.range.loop]
  refine opsI_cons C rfl (by rfl) fun _ hR Kx hKx => ?_
  replace hF := HM.rely E hF hR
  clear hR
  go_simp
  try (unfold stored; go_simp)
  refine hKx _ _ ⟨?_, ?_⟩
  · co_quiet (T i)
  clear hKx Kx
  try walk_nrm
  refine opsI_cons C rfl (by rfl) fun _ hR Kx hKx => ?_
  replace hF := HM.rely E hF hR
  clear hR
  go_simp
  try (unfold stored; go_simp)
  refine hKx _ _ ⟨?_, ?_⟩
  · co_quiet (T i)
  clear hKx Kx
  try walk_nrm
  refine opsI_cons C rfl (by rfl) fun _ hR Kx hKx => ?_
  replace hF := HM.rely E hF hR
  clear hR
  go_simp
  try (unfold stored; go_simp)
  refine hKx _ _ ⟨?_, ?_⟩
  · co_quiet (T i)
  clear hKx Kx
  try walk_nrm
  refine opsI_nil C T ?_
  show wpI _ _ _ _ _ _ _
  by_cases h2 : r ≤ 2047
  · have hb2 : decide (r ≤ 2047) = true := decide_eq_true h2
    try simp only [hb2]
    refine wpI_cond C T (t := true) rfl ?_
    simp only [if_true, if_false, reduceIte, Bool.false_eq_true]
    refine wpI_seq C T ?_
    refine wpI_region C T ?_
    simp only [List.size_toArray, List.length_cons, List.length_nil, Nat.reduceAdd, Nat.zero_add, List.range, List.range.loop]
    refine opsI_cons C rfl (by rfl) fun _ hR Kx hKx => ?_
    replace hF := HM.rely E hF hR
    clear hR
    go_simp
    try (unfold stored; go_simp)
    refine hKx _ _ ⟨?_, ?_⟩
    · co_quiet (T i)
    clear hKx Kx
    try walk_nrm
    refine opsI_cons C rfl (by rfl) fun _ hR Kx hKx => ?_
    replace hF := HM.rely E hF hR
    clear hR
    go_simp
    try (unfold stored; go_simp)
    refine hKx _ _ ⟨?_, ?_⟩
    · co_quiet (T i)
    clear hKx Kx
    try walk_nrm
    refine opsI_cons C rfl (by rfl) fun _ hR Kx hKx => ?_
    replace hF := HM.rely E hF hR
    clear hR
    go_simp
    try (unfold stored; go_simp)
    refine hKx _ _ ⟨?_, ?_⟩
    · co_quiet (T i)
    clear hKx Kx
    try walk_nrm
    refine opsI_cons C rfl (by rfl) fun _ hR Kx hKx => ?_
    replace hF := HM.rely E hF hR
    clear hR
    go_simp
    try (unfold stored; go_simp)
    refine hKx _ _ ⟨?_, ?_⟩
    · co_quiet (T i)
    clear hKx Kx
    try walk_nrm
    refine opsI_cons C rfl (by rfl) fun _ hR Kx hKx => ?_
    replace hF := HM.rely E hF hR
    clear hR
    go_simp
    try (unfold stored; go_simp)
    refine hKx _ _ ⟨?_, ?_⟩
    · co_quiet (T i)
    clear hKx Kx
    try walk_nrm
    refine opsI_cons C rfl (by rfl) fun _ hR Kx hKx => ?_
    replace hF := HM.rely E hF hR
    clear hR
    go_simp
    try (unfold stored; go_simp)
    refine hKx _ _ ⟨?_, ?_⟩
    · co_quiet (T i)
    clear hKx Kx
    try walk_nrm
    refine opsI_cons C rfl (by rfl) fun _ hR Kx hKx => ?_
    replace hF := HM.rely E hF hR
    clear hR
    go_simp
    try (unfold stored; go_simp)
    refine hKx _ _ ⟨?_, ?_⟩
    · co_quiet (T i)
    clear hKx Kx
    try walk_nrm
    refine opsI_cons C rfl (by rfl) fun _ hR Kx hKx => ?_
    replace hF := HM.rely E hF hR
    clear hR
    go_simp
    try (unfold stored; go_simp)
    refine hKx _ _ ⟨?_, ?_⟩
    · co_quiet (T i)
    clear hKx Kx
    try walk_nrm
    refine opsI_cons C rfl (by rfl) fun _ hR Kx hKx => ?_
    replace hF := HM.rely E hF hR
    clear hR
    go_simp
    try (unfold stored; go_simp)
    refine hKx _ _ ⟨?_, ?_⟩
    · co_quiet (T i)
    clear hKx Kx
    try walk_nrm
    have e1 : bits BinOp.or IntKind.u8 192 (IntKind.u8.wrap (r / 64)) = 192 + r / 64 := by rw [show IntKind.u8.wrap (r / 64) = r / 64 by rw [IntKind.wrap_u8]; omega]; exact or192 _ (by omega) (by omega)
    simp only [e1, tail8 r]
    have hrc : Lib.runeCells r = [.int .u8 (192 + r / 64), .int .u8 (128 + r % 64)] := by simp [Lib.runeCells, Lib.encodeRuneZ_two hr h2]
    refine opsI_cons C rfl (by rfl) fun _ hR Kx hKx => ?_
    replace hF := HM.rely E hF hR
    clear hR
    go_simp
    refine hKx _ _ ⟨?_, ?_⟩
    · refine dm_alloc E (by simp [KTs]) hF.size ?_
      co_evs (skip)
    clear hKx Kx
    try walk_nrm
    replace hF := hF.built E [.int .u8 (192 + r / 64), .int .u8 (128 + r % 64)]
    refine opsI_cons C rfl (by rfl) fun _ hR Kx hKx => ?_
    replace hF := HA.rely E hF hR
    clear hR
    obtain ⟨v₂, w₂, hrun, hF₂, hD, hne⟩ := append_m E hF (by simp [Value.oneCell']) (by simp; omega) 55
    refine uponK_append (Operand.tmp 14) (Operand.tmp 23) 55 rfl rfl rfl hrun (hKx _ _ ⟨?_, ?_⟩)
    · have hsn := seen_eq (P := Tryz.prog) (fn := 346) (by kernel_rfl) (fun e he f h => by cases hne e he _ h)
      unfold listed
      rw [events_append_op (Operand.tmp 14) (Operand.tmp 23) 55 rfl rfl rfl]
      exact (congrArg (D i _ _) hsn).mpr hD
    clear hKx Kx hrun hD hne
    replace hF := hF₂
    try walk_nrm
    refine opsI_cons C rfl (by rfl) fun _ hR Kx hKx => ?_
    replace hF := HM.rely E hF hR
    clear hR
    go_simp
    try (unfold stored; go_simp)
    refine hKx _ _ ⟨?_, ?_⟩
    · co_quiet (T i)
    clear hKx Kx
    try walk_nrm
    refine opsI_nil C T ?_
    show wpI _ _ _ _ _ _ _
    refine wpI_ret C T ?_
    exact ⟨.inr rfl, rfl, _, resultsC_tmp (by rfl) _, rfl, by rw [hrc]; exact hF⟩
  · have hb2 : decide (r ≤ 2047) = false := decide_eq_false h2
    try simp only [hb2]
    refine wpI_cond C T (t := false) rfl ?_
    simp only [if_true, if_false, reduceIte, Bool.false_eq_true]
    refine wpI_seq C T ?_
    refine wpI_seq C T ?_
    refine wpI_region C T ?_
    simp only [List.size_toArray, List.length_cons, List.length_nil, Nat.reduceAdd, Nat.zero_add, List.range, List.range.loop]
    refine opsI_cons C rfl (by rfl) fun _ hR Kx hKx => ?_
    replace hF := HM.rely E hF hR
    clear hR
    go_simp
    try (unfold stored; go_simp)
    refine hKx _ _ ⟨?_, ?_⟩
    · co_quiet (T i)
    clear hKx Kx
    try walk_nrm
    refine opsI_cons C rfl (by rfl) fun _ hR Kx hKx => ?_
    replace hF := HM.rely E hF hR
    clear hR
    go_simp
    try (unfold stored; go_simp)
    refine hKx _ _ ⟨?_, ?_⟩
    · co_quiet (T i)
    clear hKx Kx
    try walk_nrm
    refine opsI_cons C rfl (by rfl) fun _ hR Kx hKx => ?_
    replace hF := HM.rely E hF hR
    clear hR
    go_simp
    try (unfold stored; go_simp)
    refine hKx _ _ ⟨?_, ?_⟩
    · co_quiet (T i)
    clear hKx Kx
    try walk_nrm
    refine opsI_nil C T ?_
    show wpI _ _ _ _ _ _ _
    by_cases h3 : r < 55296
    · have hb3 : decide (r < 55296) = true := decide_eq_true h3
      try simp only [hb3]
      refine wpI_cond C T (t := true) rfl ?_
      simp only [if_true, if_false, reduceIte, Bool.false_eq_true]
      refine wpI_skip C T ?_
      show wpI _ _ _ _ _ _ _
      refine wpI_cond C T (t := true) rfl ?_
      simp only [if_true, if_false, reduceIte, Bool.false_eq_true]
      refine wpI_seq C T ?_
      refine wpI_region C T ?_
      simp only [List.size_toArray, List.length_cons, List.length_nil, Nat.reduceAdd, Nat.zero_add, List.range, List.range.loop]
      refine opsI_cons C rfl (by rfl) fun _ hR Kx hKx => ?_
      replace hF := HM.rely E hF hR
      clear hR
      go_simp
      try (unfold stored; go_simp)
      refine hKx _ _ ⟨?_, ?_⟩
      · co_quiet (T i)
      clear hKx Kx
      try walk_nrm
      refine opsI_cons C rfl (by rfl) fun _ hR Kx hKx => ?_
      replace hF := HM.rely E hF hR
      clear hR
      go_simp
      try (unfold stored; go_simp)
      refine hKx _ _ ⟨?_, ?_⟩
      · co_quiet (T i)
      clear hKx Kx
      try walk_nrm
      refine opsI_cons C rfl (by rfl) fun _ hR Kx hKx => ?_
      replace hF := HM.rely E hF hR
      clear hR
      go_simp
      try (unfold stored; go_simp)
      refine hKx _ _ ⟨?_, ?_⟩
      · co_quiet (T i)
      clear hKx Kx
      try walk_nrm
      refine opsI_cons C rfl (by rfl) fun _ hR Kx hKx => ?_
      replace hF := HM.rely E hF hR
      clear hR
      go_simp
      try (unfold stored; go_simp)
      refine hKx _ _ ⟨?_, ?_⟩
      · co_quiet (T i)
      clear hKx Kx
      try walk_nrm
      refine opsI_cons C rfl (by rfl) fun _ hR Kx hKx => ?_
      replace hF := HM.rely E hF hR
      clear hR
      go_simp
      try (unfold stored; go_simp)
      refine hKx _ _ ⟨?_, ?_⟩
      · co_quiet (T i)
      clear hKx Kx
      try walk_nrm
      refine opsI_cons C rfl (by rfl) fun _ hR Kx hKx => ?_
      replace hF := HM.rely E hF hR
      clear hR
      go_simp
      try (unfold stored; go_simp)
      refine hKx _ _ ⟨?_, ?_⟩
      · co_quiet (T i)
      clear hKx Kx
      try walk_nrm
      refine opsI_cons C rfl (by rfl) fun _ hR Kx hKx => ?_
      replace hF := HM.rely E hF hR
      clear hR
      go_simp
      try (unfold stored; go_simp)
      refine hKx _ _ ⟨?_, ?_⟩
      · co_quiet (T i)
      clear hKx Kx
      try walk_nrm
      refine opsI_cons C rfl (by rfl) fun _ hR Kx hKx => ?_
      replace hF := HM.rely E hF hR
      clear hR
      go_simp
      try (unfold stored; go_simp)
      refine hKx _ _ ⟨?_, ?_⟩
      · co_quiet (T i)
      clear hKx Kx
      try walk_nrm
      refine opsI_cons C rfl (by rfl) fun _ hR Kx hKx => ?_
      replace hF := HM.rely E hF hR
      clear hR
      go_simp
      try (unfold stored; go_simp)
      refine hKx _ _ ⟨?_, ?_⟩
      · co_quiet (T i)
      clear hKx Kx
      try walk_nrm
      refine opsI_cons C rfl (by rfl) fun _ hR Kx hKx => ?_
      replace hF := HM.rely E hF hR
      clear hR
      go_simp
      try (unfold stored; go_simp)
      refine hKx _ _ ⟨?_, ?_⟩
      · co_quiet (T i)
      clear hKx Kx
      try walk_nrm
      refine opsI_cons C rfl (by rfl) fun _ hR Kx hKx => ?_
      replace hF := HM.rely E hF hR
      clear hR
      go_simp
      try (unfold stored; go_simp)
      refine hKx _ _ ⟨?_, ?_⟩
      · co_quiet (T i)
      clear hKx Kx
      try walk_nrm
      refine opsI_cons C rfl (by rfl) fun _ hR Kx hKx => ?_
      replace hF := HM.rely E hF hR
      clear hR
      go_simp
      try (unfold stored; go_simp)
      refine hKx _ _ ⟨?_, ?_⟩
      · co_quiet (T i)
      clear hKx Kx
      try walk_nrm
      refine opsI_cons C rfl (by rfl) fun _ hR Kx hKx => ?_
      replace hF := HM.rely E hF hR
      clear hR
      go_simp
      try (unfold stored; go_simp)
      refine hKx _ _ ⟨?_, ?_⟩
      · co_quiet (T i)
      clear hKx Kx
      try walk_nrm
      refine opsI_cons C rfl (by rfl) fun _ hR Kx hKx => ?_
      replace hF := HM.rely E hF hR
      clear hR
      go_simp
      try (unfold stored; go_simp)
      refine hKx _ _ ⟨?_, ?_⟩
      · co_quiet (T i)
      clear hKx Kx
      try walk_nrm
      have e1 : bits BinOp.or IntKind.u8 224 (IntKind.u8.wrap (r / 4096)) = 224 + r / 4096 := by rw [show IntKind.u8.wrap (r / 4096) = r / 4096 by rw [IntKind.wrap_u8]; omega]; exact or224 _ (by omega) (by omega)
      simp only [e1, tail8 r, tail8 (r / 64)]
      have hrc : Lib.runeCells r = [.int .u8 (224 + r / 4096), .int .u8 (128 + r / 64 % 64), .int .u8 (128 + r % 64)] := by simp [Lib.runeCells, Lib.encodeRuneZ_three (.inl ⟨by omega, h3⟩)]
      refine opsI_cons C rfl (by rfl) fun _ hR Kx hKx => ?_
      replace hF := HM.rely E hF hR
      clear hR
      go_simp
      refine hKx _ _ ⟨?_, ?_⟩
      · refine dm_alloc E (by simp [KTs]) hF.size ?_
        co_evs (skip)
      clear hKx Kx
      try walk_nrm
      replace hF := hF.built E [.int .u8 (224 + r / 4096), .int .u8 (128 + r / 64 % 64), .int .u8 (128 + r % 64)]
      refine opsI_cons C rfl (by rfl) fun _ hR Kx hKx => ?_
      replace hF := HA.rely E hF hR
      clear hR
      obtain ⟨v₂, w₂, hrun, hF₂, hD, hne⟩ := append_m E hF (by simp [Value.oneCell']) (by simp; omega) 55
      refine uponK_append (Operand.tmp 34) (Operand.tmp 48) 55 rfl rfl rfl hrun (hKx _ _ ⟨?_, ?_⟩)
      · have hsn := seen_eq (P := Tryz.prog) (fn := 346) (by kernel_rfl) (fun e he f h => by cases hne e he _ h)
        unfold listed
        rw [events_append_op (Operand.tmp 34) (Operand.tmp 48) 55 rfl rfl rfl]
        exact (congrArg (D i _ _) hsn).mpr hD
      clear hKx Kx hrun hD hne
      replace hF := hF₂
      try walk_nrm
      refine opsI_cons C rfl (by rfl) fun _ hR Kx hKx => ?_
      replace hF := HM.rely E hF hR
      clear hR
      go_simp
      try (unfold stored; go_simp)
      refine hKx _ _ ⟨?_, ?_⟩
      · co_quiet (T i)
      clear hKx Kx
      try walk_nrm
      refine opsI_nil C T ?_
      show wpI _ _ _ _ _ _ _
      refine wpI_ret C T ?_
      exact ⟨.inr rfl, rfl, _, resultsC_tmp (by rfl) _, rfl, by rw [hrc]; exact hF⟩
    · have hb3 : decide (r < 55296) = false := decide_eq_false h3
      have hb4 : decide (57343 < r) = true := decide_eq_true (by rcases hg with h | h <;> omega)
      try simp only [hb3]
      refine wpI_cond C T (t := false) rfl ?_
      simp only [if_true, if_false, reduceIte, Bool.false_eq_true]
      refine wpI_region C T ?_
      simp only [List.size_toArray, List.length_cons, List.length_nil, Nat.reduceAdd, Nat.zero_add, List.range, List.range.loop]
      refine opsI_cons C rfl (by rfl) fun _ hR Kx hKx => ?_
      replace hF := HM.rely E hF hR
      clear hR
      go_simp
      try (unfold stored; go_simp)
      refine hKx _ _ ⟨?_, ?_⟩
      · co_quiet (T i)
      clear hKx Kx
      try walk_nrm
      refine opsI_cons C rfl (by rfl) fun _ hR Kx hKx => ?_
      replace hF := HM.rely E hF hR
      clear hR
      go_simp
      try (unfold stored; go_simp)
      refine hKx _ _ ⟨?_, ?_⟩
      · co_quiet (T i)
      clear hKx Kx
      try walk_nrm
      try simp only [hb4]
      refine opsI_cons C rfl (by rfl) fun _ hR Kx hKx => ?_
      replace hF := HM.rely E hF hR
      clear hR
      go_simp
      try (unfold stored; go_simp)
      refine hKx _ _ ⟨?_, ?_⟩
      · co_quiet (T i)
      clear hKx Kx
      try walk_nrm
      refine opsI_cons C rfl (by rfl) fun _ hR Kx hKx => ?_
      replace hF := HM.rely E hF hR
      clear hR
      go_simp
      try (unfold stored; go_simp)
      refine hKx _ _ ⟨?_, ?_⟩
      · co_quiet (T i)
      clear hKx Kx
      try walk_nrm
      refine opsI_cons C rfl (by rfl) fun _ hR Kx hKx => ?_
      replace hF := HM.rely E hF hR
      clear hR
      go_simp
      try (unfold stored; go_simp)
      refine hKx _ _ ⟨?_, ?_⟩
      · co_quiet (T i)
      clear hKx Kx
      try walk_nrm
      by_cases h5 : r ≤ 65535
      · have hb5 : decide (r ≤ 65535) = true := decide_eq_true h5
        try simp only [hb5]
        refine opsI_cons C rfl (by rfl) fun _ hR Kx hKx => ?_
        replace hF := HM.rely E hF hR
        clear hR
        go_simp
        try (unfold stored; go_simp)
        refine hKx _ _ ⟨?_, ?_⟩
        · co_quiet (T i)
        clear hKx Kx
        try walk_nrm
        refine opsI_cons C rfl (by rfl) fun _ hR Kx hKx => ?_
        replace hF := HM.rely E hF hR
        clear hR
        go_simp
        try (unfold stored; go_simp)
        refine hKx _ _ ⟨?_, ?_⟩
        · co_quiet (T i)
        clear hKx Kx
        try walk_nrm
        refine opsI_nil C T ?_
        show wpI _ _ _ _ _ _ _
        refine wpI_cond C T (t := true) rfl ?_
        simp only [if_true, if_false, reduceIte, Bool.false_eq_true]
        refine wpI_seq C T ?_
        refine wpI_region C T ?_
        simp only [List.size_toArray, List.length_cons, List.length_nil, Nat.reduceAdd, Nat.zero_add, List.range, List.range.loop]
        refine opsI_cons C rfl (by rfl) fun _ hR Kx hKx => ?_
        replace hF := HM.rely E hF hR
        clear hR
        go_simp
        try (unfold stored; go_simp)
        refine hKx _ _ ⟨?_, ?_⟩
        · co_quiet (T i)
        clear hKx Kx
        try walk_nrm
        refine opsI_cons C rfl (by rfl) fun _ hR Kx hKx => ?_
        replace hF := HM.rely E hF hR
        clear hR
        go_simp
        try (unfold stored; go_simp)
        refine hKx _ _ ⟨?_, ?_⟩
        · co_quiet (T i)
        clear hKx Kx
        try walk_nrm
        refine opsI_cons C rfl (by rfl) fun _ hR Kx hKx => ?_
        replace hF := HM.rely E hF hR
        clear hR
        go_simp
        try (unfold stored; go_simp)
        refine hKx _ _ ⟨?_, ?_⟩
        · co_quiet (T i)
        clear hKx Kx
        try walk_nrm
        refine opsI_cons C rfl (by rfl) fun _ hR Kx hKx => ?_
        replace hF := HM.rely E hF hR
        clear hR
        go_simp
        try (unfold stored; go_simp)
        refine hKx _ _ ⟨?_, ?_⟩
        · co_quiet (T i)
        clear hKx Kx
        try walk_nrm
        refine opsI_cons C rfl (by rfl) fun _ hR Kx hKx => ?_
        replace hF := HM.rely E hF hR
        clear hR
        go_simp
        try (unfold stored; go_simp)
        refine hKx _ _ ⟨?_, ?_⟩
        · co_quiet (T i)
        clear hKx Kx
        try walk_nrm
        refine opsI_cons C rfl (by rfl) fun _ hR Kx hKx => ?_
        replace hF := HM.rely E hF hR
        clear hR
        go_simp
        try (unfold stored; go_simp)
        refine hKx _ _ ⟨?_, ?_⟩
        · co_quiet (T i)
        clear hKx Kx
        try walk_nrm
        refine opsI_cons C rfl (by rfl) fun _ hR Kx hKx => ?_
        replace hF := HM.rely E hF hR
        clear hR
        go_simp
        try (unfold stored; go_simp)
        refine hKx _ _ ⟨?_, ?_⟩
        · co_quiet (T i)
        clear hKx Kx
        try walk_nrm
        refine opsI_cons C rfl (by rfl) fun _ hR Kx hKx => ?_
        replace hF := HM.rely E hF hR
        clear hR
        go_simp
        try (unfold stored; go_simp)
        refine hKx _ _ ⟨?_, ?_⟩
        · co_quiet (T i)
        clear hKx Kx
        try walk_nrm
        refine opsI_cons C rfl (by rfl) fun _ hR Kx hKx => ?_
        replace hF := HM.rely E hF hR
        clear hR
        go_simp
        try (unfold stored; go_simp)
        refine hKx _ _ ⟨?_, ?_⟩
        · co_quiet (T i)
        clear hKx Kx
        try walk_nrm
        refine opsI_cons C rfl (by rfl) fun _ hR Kx hKx => ?_
        replace hF := HM.rely E hF hR
        clear hR
        go_simp
        try (unfold stored; go_simp)
        refine hKx _ _ ⟨?_, ?_⟩
        · co_quiet (T i)
        clear hKx Kx
        try walk_nrm
        refine opsI_cons C rfl (by rfl) fun _ hR Kx hKx => ?_
        replace hF := HM.rely E hF hR
        clear hR
        go_simp
        try (unfold stored; go_simp)
        refine hKx _ _ ⟨?_, ?_⟩
        · co_quiet (T i)
        clear hKx Kx
        try walk_nrm
        refine opsI_cons C rfl (by rfl) fun _ hR Kx hKx => ?_
        replace hF := HM.rely E hF hR
        clear hR
        go_simp
        try (unfold stored; go_simp)
        refine hKx _ _ ⟨?_, ?_⟩
        · co_quiet (T i)
        clear hKx Kx
        try walk_nrm
        refine opsI_cons C rfl (by rfl) fun _ hR Kx hKx => ?_
        replace hF := HM.rely E hF hR
        clear hR
        go_simp
        try (unfold stored; go_simp)
        refine hKx _ _ ⟨?_, ?_⟩
        · co_quiet (T i)
        clear hKx Kx
        try walk_nrm
        refine opsI_cons C rfl (by rfl) fun _ hR Kx hKx => ?_
        replace hF := HM.rely E hF hR
        clear hR
        go_simp
        try (unfold stored; go_simp)
        refine hKx _ _ ⟨?_, ?_⟩
        · co_quiet (T i)
        clear hKx Kx
        try walk_nrm
        have e1 : bits BinOp.or IntKind.u8 224 (IntKind.u8.wrap (r / 4096)) = 224 + r / 4096 := by rw [show IntKind.u8.wrap (r / 4096) = r / 4096 by rw [IntKind.wrap_u8]; omega]; exact or224 _ (by omega) (by omega)
        simp only [e1, tail8 r, tail8 (r / 64)]
        have hrc : Lib.runeCells r = [.int .u8 (224 + r / 4096), .int .u8 (128 + r / 64 % 64), .int .u8 (128 + r % 64)] := by simp [Lib.runeCells, Lib.encodeRuneZ_three (.inr ⟨by rcases hg with h | h <;> omega, h5⟩)]
        refine opsI_cons C rfl (by rfl) fun _ hR Kx hKx => ?_
        replace hF := HM.rely E hF hR
        clear hR
        go_simp
        refine hKx _ _ ⟨?_, ?_⟩
        · refine dm_alloc E (by simp [KTs]) hF.size ?_
          co_evs (skip)
        clear hKx Kx
        try walk_nrm
        replace hF := hF.built E [.int .u8 (224 + r / 4096), .int .u8 (128 + r / 64 % 64), .int .u8 (128 + r % 64)]
        refine opsI_cons C rfl (by rfl) fun _ hR Kx hKx => ?_
        replace hF := HA.rely E hF hR
        clear hR
        obtain ⟨v₂, w₂, hrun, hF₂, hD, hne⟩ := append_m E hF (by simp [Value.oneCell']) (by simp; omega) 55
        refine uponK_append (Operand.tmp 34) (Operand.tmp 48) 55 rfl rfl rfl hrun (hKx _ _ ⟨?_, ?_⟩)
        · have hsn := seen_eq (P := Tryz.prog) (fn := 346) (by kernel_rfl) (fun e he f h => by cases hne e he _ h)
          unfold listed
          rw [events_append_op (Operand.tmp 34) (Operand.tmp 48) 55 rfl rfl rfl]
          exact (congrArg (D i _ _) hsn).mpr hD
        clear hKx Kx hrun hD hne
        replace hF := hF₂
        try walk_nrm
        refine opsI_cons C rfl (by rfl) fun _ hR Kx hKx => ?_
        replace hF := HM.rely E hF hR
        clear hR
        go_simp
        try (unfold stored; go_simp)
        refine hKx _ _ ⟨?_, ?_⟩
        · co_quiet (T i)
        clear hKx Kx
        try walk_nrm
        refine opsI_nil C T ?_
        show wpI _ _ _ _ _ _ _
        refine wpI_ret C T ?_
        exact ⟨.inr rfl, rfl, _, resultsC_tmp (by rfl) _, rfl, by rw [hrc]; exact hF⟩
      · have hb5 : decide (r ≤ 65535) = false := decide_eq_false h5
        have hb6 : decide (65535 < r) = true := decide_eq_true (by omega)
        have hb7 : decide (r ≤ 1114111) = true := decide_eq_true hg'
        try simp only [hb5]
        refine opsI_cons C rfl (by rfl) fun _ hR Kx hKx => ?_
        replace hF := HM.rely E hF hR
        clear hR
        go_simp
        try (unfold stored; go_simp)
        refine hKx _ _ ⟨?_, ?_⟩
        · co_quiet (T i)
        clear hKx Kx
        try walk_nrm
        refine opsI_cons C rfl (by rfl) fun _ hR Kx hKx => ?_
        replace hF := HM.rely E hF hR
        clear hR
        go_simp
        try (unfold stored; go_simp)
        refine hKx _ _ ⟨?_, ?_⟩
        · co_quiet (T i)
        clear hKx Kx
        try walk_nrm
        refine opsI_nil C T ?_
        show wpI _ _ _ _ _ _ _
        refine wpI_cond C T (t := false) rfl ?_
        simp only [if_true, if_false, reduceIte, Bool.false_eq_true]
        refine wpI_seq C T ?_
        refine wpI_region C T ?_
        simp only [List.size_toArray, List.length_cons, List.length_nil, Nat.reduceAdd, Nat.zero_add, List.range, List.range.loop]
        refine opsI_cons C rfl (by rfl) fun _ hR Kx hKx => ?_
        replace hF := HM.rely E hF hR
        clear hR
        go_simp
        try (unfold stored; go_simp)
        refine hKx _ _ ⟨?_, ?_⟩
        · co_quiet (T i)
        clear hKx Kx
        try walk_nrm
        refine opsI_cons C rfl (by rfl) fun _ hR Kx hKx => ?_
        replace hF := HM.rely E hF hR
        clear hR
        go_simp
        try (unfold stored; go_simp)
        refine hKx _ _ ⟨?_, ?_⟩
        · co_quiet (T i)
        clear hKx Kx
        try walk_nrm
        try simp only [hb6]
        refine opsI_cons C rfl (by rfl) fun _ hR Kx hKx => ?_
        replace hF := HM.rely E hF hR
        clear hR
        go_simp
        try (unfold stored; go_simp)
        refine hKx _ _ ⟨?_, ?_⟩
        · co_quiet (T i)
        clear hKx Kx
        try walk_nrm
        refine opsI_cons C rfl (by rfl) fun _ hR Kx hKx => ?_
        replace hF := HM.rely E hF hR
        clear hR
        go_simp
        try (unfold stored; go_simp)
        refine hKx _ _ ⟨?_, ?_⟩
        · co_quiet (T i)
        clear hKx Kx
        try walk_nrm
        refine opsI_cons C rfl (by rfl) fun _ hR Kx hKx => ?_
        replace hF := HM.rely E hF hR
        clear hR
        go_simp
        try (unfold stored; go_simp)
        refine hKx _ _ ⟨?_, ?_⟩
        · co_quiet (T i)
        clear hKx Kx
        try walk_nrm
        try simp only [hb7]
        refine opsI_cons C rfl (by rfl) fun _ hR Kx hKx => ?_
        replace hF := HM.rely E hF hR
        clear hR
        go_simp
        try (unfold stored; go_simp)
        refine hKx _ _ ⟨?_, ?_⟩
        · co_quiet (T i)
        clear hKx Kx
        try walk_nrm
        refine opsI_cons C rfl (by rfl) fun _ hR Kx hKx => ?_
        replace hF := HM.rely E hF hR
        clear hR
        go_simp
        try (unfold stored; go_simp)
        refine hKx _ _ ⟨?_, ?_⟩
        · co_quiet (T i)
        clear hKx Kx
        try walk_nrm
        refine opsI_nil C T ?_
        show wpI _ _ _ _ _ _ _
        refine wpI_cond C T (t := true) rfl ?_
        simp only [if_true, if_false, reduceIte, Bool.false_eq_true]
        refine wpI_seq C T ?_
        refine wpI_region C T ?_
        simp only [List.size_toArray, List.length_cons, List.length_nil, Nat.reduceAdd, Nat.zero_add, List.range, List.range.loop]
        refine opsI_cons C rfl (by rfl) fun _ hR Kx hKx => ?_
        replace hF := HM.rely E hF hR
        clear hR
        go_simp
        try (unfold stored; go_simp)
        refine hKx _ _ ⟨?_, ?_⟩
        · co_quiet (T i)
        clear hKx Kx
        try walk_nrm
        refine opsI_cons C rfl (by rfl) fun _ hR Kx hKx => ?_
        replace hF := HM.rely E hF hR
        clear hR
        go_simp
        try (unfold stored; go_simp)
        refine hKx _ _ ⟨?_, ?_⟩
        · co_quiet (T i)
        clear hKx Kx
        try walk_nrm
        refine opsI_cons C rfl (by rfl) fun _ hR Kx hKx => ?_
        replace hF := HM.rely E hF hR
        clear hR
        go_simp
        try (unfold stored; go_simp)
        refine hKx _ _ ⟨?_, ?_⟩
        · co_quiet (T i)
        clear hKx Kx
        try walk_nrm
        refine opsI_cons C rfl (by rfl) fun _ hR Kx hKx => ?_
        replace hF := HM.rely E hF hR
        clear hR
        go_simp
        try (unfold stored; go_simp)
        refine hKx _ _ ⟨?_, ?_⟩
        · co_quiet (T i)
        clear hKx Kx
        try walk_nrm
        refine opsI_cons C rfl (by rfl) fun _ hR Kx hKx => ?_
        replace hF := HM.rely E hF hR
        clear hR
        go_simp
        try (unfold stored; go_simp)
        refine hKx _ _ ⟨?_, ?_⟩
        · co_quiet (T i)
        clear hKx Kx
        try walk_nrm
        refine opsI_cons C rfl (by rfl) fun _ hR Kx hKx => ?_
        replace hF := HM.rely E hF hR
        clear hR
        go_simp
        try (unfold stored; go_simp)
        refine hKx _ _ ⟨?_, ?_⟩
        · co_quiet (T i)
        clear hKx Kx
        try walk_nrm
        refine opsI_cons C rfl (by rfl) fun _ hR Kx hKx => ?_
        replace hF := HM.rely E hF hR
        clear hR
        go_simp
        try (unfold stored; go_simp)
        refine hKx _ _ ⟨?_, ?_⟩
        · co_quiet (T i)
        clear hKx Kx
        try walk_nrm
        refine opsI_cons C rfl (by rfl) fun _ hR Kx hKx => ?_
        replace hF := HM.rely E hF hR
        clear hR
        go_simp
        try (unfold stored; go_simp)
        refine hKx _ _ ⟨?_, ?_⟩
        · co_quiet (T i)
        clear hKx Kx
        try walk_nrm
        refine opsI_cons C rfl (by rfl) fun _ hR Kx hKx => ?_
        replace hF := HM.rely E hF hR
        clear hR
        go_simp
        try (unfold stored; go_simp)
        refine hKx _ _ ⟨?_, ?_⟩
        · co_quiet (T i)
        clear hKx Kx
        try walk_nrm
        refine opsI_cons C rfl (by rfl) fun _ hR Kx hKx => ?_
        replace hF := HM.rely E hF hR
        clear hR
        go_simp
        try (unfold stored; go_simp)
        refine hKx _ _ ⟨?_, ?_⟩
        · co_quiet (T i)
        clear hKx Kx
        try walk_nrm
        refine opsI_cons C rfl (by rfl) fun _ hR Kx hKx => ?_
        replace hF := HM.rely E hF hR
        clear hR
        go_simp
        try (unfold stored; go_simp)
        refine hKx _ _ ⟨?_, ?_⟩
        · co_quiet (T i)
        clear hKx Kx
        try walk_nrm
        refine opsI_cons C rfl (by rfl) fun _ hR Kx hKx => ?_
        replace hF := HM.rely E hF hR
        clear hR
        go_simp
        try (unfold stored; go_simp)
        refine hKx _ _ ⟨?_, ?_⟩
        · co_quiet (T i)
        clear hKx Kx
        try walk_nrm
        refine opsI_cons C rfl (by rfl) fun _ hR Kx hKx => ?_
        replace hF := HM.rely E hF hR
        clear hR
        go_simp
        try (unfold stored; go_simp)
        refine hKx _ _ ⟨?_, ?_⟩
        · co_quiet (T i)
        clear hKx Kx
        try walk_nrm
        refine opsI_cons C rfl (by rfl) fun _ hR Kx hKx => ?_
        replace hF := HM.rely E hF hR
        clear hR
        go_simp
        try (unfold stored; go_simp)
        refine hKx _ _ ⟨?_, ?_⟩
        · co_quiet (T i)
        clear hKx Kx
        try walk_nrm
        refine opsI_cons C rfl (by rfl) fun _ hR Kx hKx => ?_
        replace hF := HM.rely E hF hR
        clear hR
        go_simp
        try (unfold stored; go_simp)
        refine hKx _ _ ⟨?_, ?_⟩
        · co_quiet (T i)
        clear hKx Kx
        try walk_nrm
        refine opsI_cons C rfl (by rfl) fun _ hR Kx hKx => ?_
        replace hF := HM.rely E hF hR
        clear hR
        go_simp
        try (unfold stored; go_simp)
        refine hKx _ _ ⟨?_, ?_⟩
        · co_quiet (T i)
        clear hKx Kx
        try walk_nrm
        refine opsI_cons C rfl (by rfl) fun _ hR Kx hKx => ?_
        replace hF := HM.rely E hF hR
        clear hR
        go_simp
        try (unfold stored; go_simp)
        refine hKx _ _ ⟨?_, ?_⟩
        · co_quiet (T i)
        clear hKx Kx
        try walk_nrm
        refine opsI_cons C rfl (by rfl) fun _ hR Kx hKx => ?_
        replace hF := HM.rely E hF hR
        clear hR
        go_simp
        try (unfold stored; go_simp)
        refine hKx _ _ ⟨?_, ?_⟩
        · co_quiet (T i)
        clear hKx Kx
        try walk_nrm
        refine opsI_cons C rfl (by rfl) fun _ hR Kx hKx => ?_
        replace hF := HM.rely E hF hR
        clear hR
        go_simp
        try (unfold stored; go_simp)
        refine hKx _ _ ⟨?_, ?_⟩
        · co_quiet (T i)
        clear hKx Kx
        try walk_nrm
        have e1 : bits BinOp.or IntKind.u8 240 (IntKind.u8.wrap (r / 262144)) = 240 + r / 262144 := by rw [show IntKind.u8.wrap (r / 262144) = r / 262144 by rw [IntKind.wrap_u8]; omega]; exact or240 _ (by omega) (by omega)
        simp only [e1, tail8 r, tail8 (r / 64), tail8 (r / 4096)]
        have hrc : Lib.runeCells r = [.int .u8 (240 + r / 262144), .int .u8 (128 + r / 4096 % 64), .int .u8 (128 + r / 64 % 64), .int .u8 (128 + r % 64)] := by simp [Lib.runeCells, Lib.encodeRuneZ_four (show 65536 ≤ r by omega) hg']
        refine opsI_cons C rfl (by rfl) fun _ hR Kx hKx => ?_
        replace hF := HM.rely E hF hR
        clear hR
        go_simp
        refine hKx _ _ ⟨?_, ?_⟩
        · refine dm_alloc E (by simp [KTs]) hF.size ?_
          co_evs (skip)
        clear hKx Kx
        try walk_nrm
        replace hF := hF.built E [.int .u8 (240 + r / 262144), .int .u8 (128 + r / 4096 % 64), .int .u8 (128 + r / 64 % 64), .int .u8 (128 + r % 64)]
        refine opsI_cons C rfl (by rfl) fun _ hR Kx hKx => ?_
        replace hF := HA.rely E hF hR
        clear hR
        obtain ⟨v₂, w₂, hrun, hF₂, hD, hne⟩ := append_m E hF (by simp [Value.oneCell']) (by simp; omega) 55
        refine uponK_append (Operand.tmp 57) (Operand.tmp 76) 55 rfl rfl rfl hrun (hKx _ _ ⟨?_, ?_⟩)
        · have hsn := seen_eq (P := Tryz.prog) (fn := 346) (by kernel_rfl) (fun e he f h => by cases hne e he _ h)
          unfold listed
          rw [events_append_op (Operand.tmp 57) (Operand.tmp 76) 55 rfl rfl rfl]
          exact (congrArg (D i _ _) hsn).mpr hD
        clear hKx Kx hrun hD hne
        replace hF := hF₂
        try walk_nrm
        refine opsI_cons C rfl (by rfl) fun _ hR Kx hKx => ?_
        replace hF := HM.rely E hF hR
        clear hR
        go_simp
        try (unfold stored; go_simp)
        refine hKx _ _ ⟨?_, ?_⟩
        · co_quiet (T i)
        clear hKx Kx
        try walk_nrm
        refine opsI_nil C T ?_
        show wpI _ _ _ _ _ _ _
        refine wpI_ret C T ?_
        exact ⟨.inr rfl, rfl, _, resultsC_tmp (by rfl) _, rfl, by rw [hrc]; exact hF⟩
end
end Go.Proofs.YtgcaionclkbehaaGreatDoor
