/-
  The document's answer, alone: folioref.letter.
-/
import Derived.Test.YtgcaionclkbehaaGreatDoorRef
set_option linter.all false
set_option linter.unusedSectionVars false
set_option linter.unusedSimpArgs false
namespace Go.Proofs.YtgcaionclkbehaaGreatDoor
open Go.Conc Go.RowKit
/-- How many of the bytes that a lead needs are there. -/
def haveS : Nat → Int → Int → List Int → Nat
  | 0, _, _, _ => 0
  | _ + 1, _, _, [] => 0
  | n + 1, lo, hi, c :: l => if lo ≤ c ∧ c ≤ hi then haveS n 128 191 l + 1 else 0
/-- A letter at a place, or a substitute. -/
def letS (l : List Int) (at_ : Nat) (c : Int) : Nat × Bool :=
  if c < 128 then (1, true) else (1 + haveS (folS c).1.toNat (folS c).2.1 (folS c).2.2 (l.drop (at_ + 1)), decide (0 < (folS c).1) && decide (haveS (folS c).1.toNat (folS c).2.1 (folS c).2.2 (l.drop (at_ + 1)) = (folS c).1.toNat))
section
variable {w w₁ w₂ : World} {Post : Value → World → Prop} {S : Nat → Prop}
theorem folS_range (c : Int) : 0 ≤ (folS c).1 ∧ (folS c).1 ≤ 3 := by
  unfold folS
  (repeat' split) <;> exact ⟨by decide, by decide⟩
set_option maxRecDepth 100000 in
set_option maxHeartbeats 2000000 in
theorem letter_x (s : ByteArray) (hs : s.size ≤ 20000) (k : Nat) (hk : k < s.size) :
    CallsI Tryz.prog (ZI Tryz.prog Post 0) 93 #[.string s, .int .i64 (k : Int)] S w (fun S' x w' => S' = S ∧ x = .tuple #[.int .i64 ((letS (bytesOf s) k (s[k]'hk).toNat).1 : Int), .bool (letS (bytesOf s) k (s[k]'hk).toNat).2] ∧ AtRel w w') := by
  have C : ClosedI Tryz.prog true (fun _ : Nat → Prop => AtRel) DZ (ZI Tryz.prog Post 0) := ZI.closed
  have T : ∀ S, Terms AtRel (DZ S) := termsS
  have hF := atRel_refl w
  have ln : ∀ w es, (Builtin.len_ #[9] 3 #[.string s]).events Tryz.prog w es = es := fun w es => by simp [Builtin.len_, go_sem]
  have ixe : ∀ (j : Nat) (hj : j < s.size) w es, (Instr.index 9 (.string s) (.int .i64 (j : Int))).events Tryz.prog w es = es := fun j hj w es => by simp [Instr.index, go_sem, hj]
  have ix0 := ixe k hk
  have ixr0 : ∀ (j : Nat) (hj : j < s.size) w, (Instr.index 9 (.string s) (.int .i64 (j : Int))).run Tryz.prog w = .ok (.int .u8 ((s[j]'hj).toNat : Int)) w := fun j hj w => by simp [Instr.index, go_sem, hj]
  refine callsI_of Tryz.func93 (by rfl) rfl ?_
  simp only [Tryz.ntmps93, List.size_toArray, List.length_cons, List.length_nil, Nat.reduceAdd, Nat.reduceSub, Array.replicate_succ, Array.replicate_zero, List.push_toArray, List.append_toArray, List.nil_append, List.cons_append]
  refine wpI_seq C T ?_
  refine wpI_region C T ?_
  simp only [List.size_toArray, List.length_cons, List.length_nil, Nat.reduceAdd, Nat.zero_add, List.range, List.range.loop]
  refine opsI_cons C rfl (by rfl) fun _ hR Kx hKx => ?_
  replace hF := at_rely hF hR
  clear hR
  go_simp
  try (unfold stored; go_simp)
  refine hKx _ _ ⟨?_, ?_⟩
  · co_quiet (T _)
  clear hKx Kx
  try walk_nrm
  refine opsI_cons C rfl (by rfl) fun _ hR Kx hKx => ?_
  replace hF := at_rely hF hR
  clear hR
  go_simp
  try (unfold stored; go_simp)
  refine hKx _ _ ⟨?_, ?_⟩
  · co_quiet (T _)
  clear hKx Kx
  try walk_nrm
  refine opsI_nil C T ?_
  show wpI _ _ _ _ _ _ _
  refine wpI_seq C T ?_
  refine wpI_seq C T ?_
  refine wpI_region C T ?_
  simp only [List.size_toArray, List.length_cons, List.length_nil, Nat.reduceAdd, Nat.zero_add, List.range, List.range.loop]
  refine opsI_cons C rfl (by rfl) fun _ hR Kx hKx => ?_
  replace hF := at_rely hF hR
  clear hR
  go_simp
  try (unfold stored; go_simp)
  refine hKx _ _ ⟨?_, ?_⟩
  · co_quiet (T _)
  clear hKx Kx
  try walk_nrm
  refine opsI_cons C rfl (by rfl) fun _ hR Kx hKx => ?_
  replace hF := at_rely hF hR
  clear hR
  go_simp
  try (unfold stored; go_simp)
  refine hKx _ _ ⟨?_, ?_⟩
  · co_quiet (T _)
  clear hKx Kx
  try walk_nrm
  refine opsI_cons C rfl (by rfl) fun _ hR Kx hKx => ?_
  replace hF := at_rely hF hR
  clear hR
  go_simp
  try (unfold stored; go_simp)
  refine hKx _ _ ⟨?_, ?_⟩
  · co_still (T _)
  clear hKx Kx
  try walk_nrm
  refine opsI_cons C rfl (by rfl) fun _ hR Kx hKx => ?_
  replace hF := at_rely hF hR
  clear hR
  go_simp
  try (unfold stored; go_simp)
  refine hKx _ _ ⟨?_, ?_⟩
  · co_quiet (T _)
  clear hKx Kx
  try walk_nrm
  refine opsI_nil C T ?_
  show wpI _ _ _ _ _ _ _
  by_cases h1 : ((s[k]'hk).toNat : Int) < 128
  · have hb1 : decide (((s[k]'hk).toNat : Int) < 128) = true := decide_eq_true h1
    try simp only [hb1]
    refine wpI_cond C T (t := true) rfl ?_
    simp only [if_true, if_false, reduceIte, Bool.false_eq_true]
    refine wpI_seq C T ?_
    refine wpI_region C T ?_
    simp only [List.size_toArray, List.length_cons, List.length_nil, Nat.reduceAdd, Nat.zero_add, List.range, List.range.loop]
    refine opsI_cons C rfl (by rfl) fun _ hR Kx hKx => ?_
    replace hF := at_rely hF hR
    clear hR
    go_simp
    try (unfold stored; go_simp)
    refine hKx _ _ ⟨?_, ?_⟩
    · co_quiet (T _)
    clear hKx Kx
    try walk_nrm
    refine opsI_cons C rfl (by rfl) fun _ hR Kx hKx => ?_
    replace hF := at_rely hF hR
    clear hR
    go_simp
    try (unfold stored; go_simp)
    refine hKx _ _ ⟨?_, ?_⟩
    · co_quiet (T _)
    clear hKx Kx
    try walk_nrm
    refine opsI_nil C T ?_
    show wpI _ _ _ _ _ _ _
    refine wpI_ret C T ?_
    exact ⟨.inr rfl, rfl, _, resultsC_tmp2 (by rfl) _, rfl, by simp [letS, h1], hF⟩
  · have hb1 : decide (((s[k]'hk).toNat : Int) < 128) = false := decide_eq_false h1
    try simp only [hb1]
    refine wpI_cond C T (t := false) rfl ?_
    simp only [if_true, if_false, reduceIte, Bool.false_eq_true]
    refine wpI_skip C T ?_
    show wpI _ _ _ _ _ _ _
    refine wpI_seq C T ?_
    refine wpI_region C T ?_
    simp only [List.size_toArray, List.length_cons, List.length_nil, Nat.reduceAdd, Nat.zero_add, List.range, List.range.loop]
    refine opsI_cons C rfl (by rfl) fun _ hR Kx hKx => ?_
    replace hF := at_rely hF hR
    clear hR
    go_simp
    try (unfold stored; go_simp)
    refine hKx _ _ ⟨?_, ?_⟩
    · co_quiet (T _)
    clear hKx Kx
    try walk_nrm
    refine opsI_cons C rfl (by rfl) fun _ hR Kx hKx => ?_
    replace hF := at_rely hF hR
    clear hR
    go_simp
    try (unfold stored; go_simp)
    refine hKx _ _ ⟨?_, ?_⟩
    · co_quiet (T _)
    clear hKx Kx
    try walk_nrm
    refine opsI_cons C rfl (by rfl) fun _ hR Kx hKx => ?_
    replace hF := at_rely hF hR
    clear hR
    go_simp
    try (unfold stored; go_simp)
    refine hKx _ _ ⟨?_, ?_⟩
    · co_still (T _)
    clear hKx Kx
    try walk_nrm
    refine opsI_callX C T rfl (by rfl) rfl rfl (by simp [Act.eval]) rfl (follows_x ((s[k]'hk).toNat : Int)) ?_
    rintro S2 _ _ ⟨hS2, rfl, hF'⟩
    rw [hS2]
    clear hS2 S2
    have hF := at_rely hF hF'
    clear hF'
    try walk_nrm
    refine opsI_cons C rfl (by rfl) fun _ hR Kx hKx => ?_
    replace hF := at_rely hF hR
    clear hR
    go_simp
    try (unfold stored; go_simp)
    refine hKx _ _ ⟨?_, ?_⟩
    · co_quiet (T _)
    clear hKx Kx
    try walk_nrm
    refine opsI_cons C rfl (by rfl) fun _ hR Kx hKx => ?_
    replace hF := at_rely hF hR
    clear hR
    go_simp
    try (unfold stored; go_simp)
    refine hKx _ _ ⟨?_, ?_⟩
    · co_still (T _)
    clear hKx Kx
    try walk_nrm
    refine opsI_cons C rfl (by rfl) fun _ hR Kx hKx => ?_
    replace hF := at_rely hF hR
    clear hR
    go_simp
    try (unfold stored; go_simp)
    refine hKx _ _ ⟨?_, ?_⟩
    · co_still (T _)
    clear hKx Kx
    try walk_nrm
    refine opsI_cons C rfl (by rfl) fun _ hR Kx hKx => ?_
    replace hF := at_rely hF hR
    clear hR
    go_simp
    try (unfold stored; go_simp)
    refine hKx _ _ ⟨?_, ?_⟩
    · co_still (T _)
    clear hKx Kx
    try walk_nrm
    refine opsI_cons C rfl (by rfl) fun _ hR Kx hKx => ?_
    replace hF := at_rely hF hR
    clear hR
    go_simp
    try (unfold stored; go_simp)
    refine hKx _ _ ⟨?_, ?_⟩
    · co_quiet (T _)
    clear hKx Kx
    try walk_nrm
    refine opsI_cons C rfl (by rfl) fun _ hR Kx hKx => ?_
    replace hF := at_rely hF hR
    clear hR
    go_simp
    try (unfold stored; go_simp)
    refine hKx _ _ ⟨?_, ?_⟩
    · co_quiet (T _)
    clear hKx Kx
    try walk_nrm
    refine opsI_cons C rfl (by rfl) fun _ hR Kx hKx => ?_
    replace hF := at_rely hF hR
    clear hR
    go_simp
    try (unfold stored; go_simp)
    refine hKx _ _ ⟨?_, ?_⟩
    · co_quiet (T _)
    clear hKx Kx
    try walk_nrm
    refine opsI_nil C T ?_
    show wpI _ _ _ _ _ _ _
    refine wpI_seq C T ?_
    refine wpI_region C T ?_
    simp only [List.size_toArray, List.length_cons, List.length_nil, Nat.reduceAdd, Nat.zero_add, List.range, List.range.loop]
    refine opsI_cons C rfl (by rfl) fun _ hR Kx hKx => ?_
    replace hF := at_rely hF hR
    clear hR
    go_simp
    try (unfold stored; go_simp)
    refine hKx _ _ ⟨?_, ?_⟩
    · co_quiet (T _)
    clear hKx Kx
    try walk_nrm
    refine opsI_nil C T ?_
    show wpI _ _ _ _ _ _ _
    obtain ⟨hr0, hr3⟩ := folS_range ((s[k]'hk).toNat : Int)
    generalize hc : ((s[k]'hk).toNat : Int) = c at *
    generalize hn : (folS c).1 = n at *
    generalize hlo : (folS c).2.1 = lo0 at *
    generalize hhi : (folS c).2.2 = hi0 at *
    refine wpI_seq C T ?_
    refine wpI_block C T ?_
    refine wpI_loop C T (fun m i a w' => i = S ∧ AtRel w w' ∧ ∃ (h : Nat) (lo hi : Int), m + h = n.toNat ∧ h + haveS m lo hi ((bytesOf s).drop (k + 1 + h)) = haveS n.toNat lo0 hi0 ((bytesOf s).drop (k + 1)) ∧ ∃ x10 x23 x24 x25 x26 x27 x28 x29 x30 x31 x32 x33 x34 x35 x36 x37 x38 x39 x40 x41 x42 x43 x44 x45 x46 x47 x48 x49 x50 x51, a = ⟨#[.string s, .int .i64 (k : Int), undef, undef, .int .i64 0, .bool false, .int .i64 n, .int .i64 lo, .int .i64 hi, .int .i64 (h : Int), x10, .string s, .int .i64 (k : Int), .int .u8 c, .bool false, .tuple #[.int .i64 n, .int .i64 lo0, .int .i64 hi0], .string s, .int .i64 (k : Int), .int .u8 c, .tuple #[.int .i64 n, .int .i64 lo0, .int .i64 hi0], .int .i64 n, .int .i64 lo0, .int .i64 hi0, x23, x24, x25, x26, x27, x28, x29, x30, x31, x32, x33, x34, x35, x36, x37, x38, x39, x40, x41, x42, x43, x44, x45, x46, x47, x48, x49, x50, x51, undef, undef, undef, undef, undef, undef, undef, undef, undef], []⟩) n.toNat ⟨rfl, hF, 0, lo0, hi0, by omega, by simp, _, _, _, _, _, _, _, _, _, _, _, _, _, _, _, _, _, _, _, _, _, _, _, _, _, _, _, _, _, _, rfl⟩ ?_
    clear hF
    rintro m i a w' ⟨hiS, hF, h, lo, hi, hm, hh, x10, x23, x24, x25, x26, x27, x28, x29, x30, x31, x32, x33, x34, x35, x36, x37, x38, x39, x40, x41, x42, x43, x44, x45, x46, x47, x48, x49, x50, x51, rfl⟩
    rw [hiS]
    clear hiS i
    have hw1 : IntKind.i64.wrap ((k : Int) + 1) = (k : Int) + 1 := by rw [IntKind.wrap_i64]; omega
    have hh3 : h ≤ 3 := by omega
    have hw2 : IntKind.i64.wrap ((k : Int) + 1 + (h : Int)) = (k : Int) + 1 + (h : Int) := by rw [IntKind.wrap_i64]; omega
    have hw3 : IntKind.i64.wrap (1 + (h : Int)) = ((1 + h : Nat) : Int) := by rw [IntKind.wrap_i64]; omega
    have hw4 : IntKind.i64.wrap ((h : Int) + 1) = ((h + 1 : Nat) : Int) := by rw [IntKind.wrap_i64]; omega
    refine wpI_seq C T ?_
    refine wpI_seq C T ?_
    by_cases hm0 : m = 0
    · have hlt : decide ((h : Int) < n) = false := decide_eq_false (by omega)
      have htot : haveS n.toNat lo0 hi0 ((bytesOf s).drop (k + 1)) = h := by rw [← hh, hm0]; simp [haveS]
      refine wpI_region C T ?_
      simp only [List.size_toArray, List.length_cons, List.length_nil, Nat.reduceAdd, Nat.zero_add, List.range, List.range.loop]
      refine opsI_cons C rfl (by rfl) fun _ hR Kx hKx => ?_
      replace hF := at_rely hF hR
      clear hR
      go_simp
      try (unfold stored; go_simp)
      refine hKx _ _ ⟨?_, ?_⟩
      · co_quiet (T _)
      clear hKx Kx
      try walk_nrm
      refine opsI_cons C rfl (by rfl) fun _ hR Kx hKx => ?_
      replace hF := at_rely hF hR
      clear hR
      go_simp
      try (unfold stored; go_simp)
      refine hKx _ _ ⟨?_, ?_⟩
      · co_quiet (T _)
      clear hKx Kx
      try walk_nrm
      refine opsI_cons C rfl (by rfl) fun _ hR Kx hKx => ?_
      replace hF := at_rely hF hR
      clear hR
      go_simp
      try (unfold stored; go_simp)
      refine hKx _ _ ⟨?_, ?_⟩
      · co_quiet (T _)
      clear hKx Kx
      try walk_nrm
      try simp only [hlt]
      refine opsI_cons C rfl (by rfl) fun _ hR Kx hKx => ?_
      replace hF := at_rely hF hR
      clear hR
      go_simp
      try (unfold stored; go_simp)
      refine hKx _ _ ⟨?_, ?_⟩
      · co_quiet (T _)
      clear hKx Kx
      try walk_nrm
      refine opsI_unwanted C T rfl (by rfl) ?_
      try walk_nrm
      refine opsI_unwanted C T rfl (by rfl) ?_
      try walk_nrm
      refine opsI_unwanted C T rfl (by rfl) ?_
      try walk_nrm
      refine opsI_unwanted C T rfl (by rfl) ?_
      try walk_nrm
      refine opsI_unwanted C T rfl (by rfl) ?_
      try walk_nrm
      refine opsI_unwanted C T rfl (by rfl) ?_
      try walk_nrm
      refine opsI_unwanted C T rfl (by rfl) ?_
      try walk_nrm
      refine opsI_cons C rfl (by rfl) fun _ hR Kx hKx => ?_
      replace hF := at_rely hF hR
      clear hR
      go_simp
      try (unfold stored; go_simp)
      refine hKx _ _ ⟨?_, ?_⟩
      · co_quiet (T _)
      clear hKx Kx
      try walk_nrm
      refine opsI_nil C T ?_
      show wpI _ _ _ _ _ _ _
      refine wpI_cond C T (t := false) rfl ?_
      simp only [if_true, if_false, reduceIte, Bool.false_eq_true]
      refine wpI_exit C T ?_
      simp only [inBlockI, thenI, if_true]
      refine wpI_seq C T ?_
      by_cases hp : 0 < n
      · have hpb : decide (0 < n) = true := decide_eq_true hp
        refine wpI_region C T ?_
        simp only [List.size_toArray, List.length_cons, List.length_nil, Nat.reduceAdd, Nat.zero_add, List.range, List.range.loop]
        refine opsI_cons C rfl (by rfl) fun _ hR Kx hKx => ?_
        replace hF := at_rely hF hR
        clear hR
        go_simp
        try (unfold stored; go_simp)
        refine hKx _ _ ⟨?_, ?_⟩
        · co_quiet (T _)
        clear hKx Kx
        try walk_nrm
        refine opsI_cons C rfl (by rfl) fun _ hR Kx hKx => ?_
        replace hF := at_rely hF hR
        clear hR
        go_simp
        try (unfold stored; go_simp)
        refine hKx _ _ ⟨?_, ?_⟩
        · co_quiet (T _)
        clear hKx Kx
        try walk_nrm
        try simp only [hw3]
        refine opsI_cons C rfl (by rfl) fun _ hR Kx hKx => ?_
        replace hF := at_rely hF hR
        clear hR
        go_simp
        try (unfold stored; go_simp)
        refine hKx _ _ ⟨?_, ?_⟩
        · co_quiet (T _)
        clear hKx Kx
        try walk_nrm
        refine opsI_cons C rfl (by rfl) fun _ hR Kx hKx => ?_
        replace hF := at_rely hF hR
        clear hR
        go_simp
        try (unfold stored; go_simp)
        refine hKx _ _ ⟨?_, ?_⟩
        · co_quiet (T _)
        clear hKx Kx
        try walk_nrm
        try simp only [hpb]
        refine opsI_cons C rfl (by rfl) fun _ hR Kx hKx => ?_
        replace hF := at_rely hF hR
        clear hR
        go_simp
        try (unfold stored; go_simp)
        refine hKx _ _ ⟨?_, ?_⟩
        · co_quiet (T _)
        clear hKx Kx
        try walk_nrm
        refine opsI_cons C rfl (by rfl) fun _ hR Kx hKx => ?_
        replace hF := at_rely hF hR
        clear hR
        go_simp
        try (unfold stored; go_simp)
        refine hKx _ _ ⟨?_, ?_⟩
        · co_quiet (T _)
        clear hKx Kx
        try walk_nrm
        refine opsI_cons C rfl (by rfl) fun _ hR Kx hKx => ?_
        replace hF := at_rely hF hR
        clear hR
        go_simp
        try (unfold stored; go_simp)
        refine hKx _ _ ⟨?_, ?_⟩
        · co_quiet (T _)
        clear hKx Kx
        try walk_nrm
        refine opsI_cons C rfl (by rfl) fun _ hR Kx hKx => ?_
        replace hF := at_rely hF hR
        clear hR
        go_simp
        try (unfold stored; go_simp)
        refine hKx _ _ ⟨?_, ?_⟩
        · co_quiet (T _)
        clear hKx Kx
        try walk_nrm
        refine opsI_cons C rfl (by rfl) fun _ hR Kx hKx => ?_
        replace hF := at_rely hF hR
        clear hR
        go_simp
        try (unfold stored; go_simp)
        refine hKx _ _ ⟨?_, ?_⟩
        · co_quiet (T _)
        clear hKx Kx
        try walk_nrm
        refine opsI_cons C rfl (by rfl) fun _ hR Kx hKx => ?_
        replace hF := at_rely hF hR
        clear hR
        go_simp
        try (unfold stored; go_simp)
        refine hKx _ _ ⟨?_, ?_⟩
        · co_quiet (T _)
        clear hKx Kx
        try walk_nrm
        refine opsI_cons C rfl (by rfl) fun _ hR Kx hKx => ?_
        replace hF := at_rely hF hR
        clear hR
        go_simp
        try (unfold stored; go_simp)
        refine hKx _ _ ⟨?_, ?_⟩
        · co_quiet (T _)
        clear hKx Kx
        try walk_nrm
        refine opsI_nil C T ?_
        show wpI _ _ _ _ _ _ _
        refine wpI_ret C T ?_
        refine ⟨.inr rfl, rfl, _, resultsC_tmp2 (by rfl) _, rfl, ?_, hF⟩
        have hnn : ((h : Int) == n) = decide (h = n.toNat) := by rw [Bool.eq_iff_iff]; simp; omega
        simp [letS, h1, hn, hlo, hhi, htot, hp, hnn]
      · have hpb : decide (0 < n) = false := decide_eq_false hp
        refine wpI_region C T ?_
        simp only [List.size_toArray, List.length_cons, List.length_nil, Nat.reduceAdd, Nat.zero_add, List.range, List.range.loop]
        refine opsI_cons C rfl (by rfl) fun _ hR Kx hKx => ?_
        replace hF := at_rely hF hR
        clear hR
        go_simp
        try (unfold stored; go_simp)
        refine hKx _ _ ⟨?_, ?_⟩
        · co_quiet (T _)
        clear hKx Kx
        try walk_nrm
        refine opsI_cons C rfl (by rfl) fun _ hR Kx hKx => ?_
        replace hF := at_rely hF hR
        clear hR
        go_simp
        try (unfold stored; go_simp)
        refine hKx _ _ ⟨?_, ?_⟩
        · co_quiet (T _)
        clear hKx Kx
        try walk_nrm
        try simp only [hw3]
        refine opsI_cons C rfl (by rfl) fun _ hR Kx hKx => ?_
        replace hF := at_rely hF hR
        clear hR
        go_simp
        try (unfold stored; go_simp)
        refine hKx _ _ ⟨?_, ?_⟩
        · co_quiet (T _)
        clear hKx Kx
        try walk_nrm
        refine opsI_cons C rfl (by rfl) fun _ hR Kx hKx => ?_
        replace hF := at_rely hF hR
        clear hR
        go_simp
        try (unfold stored; go_simp)
        refine hKx _ _ ⟨?_, ?_⟩
        · co_quiet (T _)
        clear hKx Kx
        try walk_nrm
        try simp only [hpb]
        refine opsI_cons C rfl (by rfl) fun _ hR Kx hKx => ?_
        replace hF := at_rely hF hR
        clear hR
        go_simp
        try (unfold stored; go_simp)
        refine hKx _ _ ⟨?_, ?_⟩
        · co_quiet (T _)
        clear hKx Kx
        try walk_nrm
        refine opsI_unwanted C T rfl (by rfl) ?_
        try walk_nrm
        refine opsI_unwanted C T rfl (by rfl) ?_
        try walk_nrm
        refine opsI_unwanted C T rfl (by rfl) ?_
        try walk_nrm
        refine opsI_cons C rfl (by rfl) fun _ hR Kx hKx => ?_
        replace hF := at_rely hF hR
        clear hR
        go_simp
        try (unfold stored; go_simp)
        refine hKx _ _ ⟨?_, ?_⟩
        · co_quiet (T _)
        clear hKx Kx
        try walk_nrm
        refine opsI_cons C rfl (by rfl) fun _ hR Kx hKx => ?_
        replace hF := at_rely hF hR
        clear hR
        go_simp
        try (unfold stored; go_simp)
        refine hKx _ _ ⟨?_, ?_⟩
        · co_quiet (T _)
        clear hKx Kx
        try walk_nrm
        refine opsI_cons C rfl (by rfl) fun _ hR Kx hKx => ?_
        replace hF := at_rely hF hR
        clear hR
        go_simp
        try (unfold stored; go_simp)
        refine hKx _ _ ⟨?_, ?_⟩
        · co_quiet (T _)
        clear hKx Kx
        try walk_nrm
        refine opsI_nil C T ?_
        show wpI _ _ _ _ _ _ _
        refine wpI_ret C T ?_
        refine ⟨.inr rfl, rfl, _, resultsC_tmp2 (by rfl) _, rfl, ?_, hF⟩
        simp [letS, h1, hn, hlo, hhi, htot, hp]
    · obtain ⟨m, rfl⟩ : ∃ m2, m = m2 + 1 := ⟨m - 1, by omega⟩
      have hlt : decide ((h : Int) < n) = true := decide_eq_true (by omega)
      refine wpI_region C T ?_
      simp only [List.size_toArray, List.length_cons, List.length_nil, Nat.reduceAdd, Nat.zero_add, List.range, List.range.loop]
      refine opsI_cons C rfl (by rfl) fun _ hR Kx hKx => ?_
      replace hF := at_rely hF hR
      clear hR
      go_simp
      try (unfold stored; go_simp)
      refine hKx _ _ ⟨?_, ?_⟩
      · co_quiet (T _)
      clear hKx Kx
      try walk_nrm
      refine opsI_cons C rfl (by rfl) fun _ hR Kx hKx => ?_
      replace hF := at_rely hF hR
      clear hR
      go_simp
      try (unfold stored; go_simp)
      refine hKx _ _ ⟨?_, ?_⟩
      · co_quiet (T _)
      clear hKx Kx
      try walk_nrm
      refine opsI_cons C rfl (by rfl) fun _ hR Kx hKx => ?_
      replace hF := at_rely hF hR
      clear hR
      go_simp
      try (unfold stored; go_simp)
      refine hKx _ _ ⟨?_, ?_⟩
      · co_quiet (T _)
      clear hKx Kx
      try walk_nrm
      try simp only [hlt]
      refine opsI_cons C rfl (by rfl) fun _ hR Kx hKx => ?_
      replace hF := at_rely hF hR
      clear hR
      go_simp
      try (unfold stored; go_simp)
      refine hKx _ _ ⟨?_, ?_⟩
      · co_quiet (T _)
      clear hKx Kx
      try walk_nrm
      refine opsI_cons C rfl (by rfl) fun _ hR Kx hKx => ?_
      replace hF := at_rely hF hR
      clear hR
      go_simp
      try (unfold stored; go_simp)
      refine hKx _ _ ⟨?_, ?_⟩
      · co_quiet (T _)
      clear hKx Kx
      try walk_nrm
      refine opsI_cons C rfl (by rfl) fun _ hR Kx hKx => ?_
      replace hF := at_rely hF hR
      clear hR
      go_simp
      try (unfold stored; go_simp)
      refine hKx _ _ ⟨?_, ?_⟩
      · co_quiet (T _)
      clear hKx Kx
      try walk_nrm
      try simp only [hw1]
      refine opsI_cons C rfl (by rfl) fun _ hR Kx hKx => ?_
      replace hF := at_rely hF hR
      clear hR
      go_simp
      try (unfold stored; go_simp)
      refine hKx _ _ ⟨?_, ?_⟩
      · co_quiet (T _)
      clear hKx Kx
      try walk_nrm
      refine opsI_cons C rfl (by rfl) fun _ hR Kx hKx => ?_
      replace hF := at_rely hF hR
      clear hR
      go_simp
      try (unfold stored; go_simp)
      refine hKx _ _ ⟨?_, ?_⟩
      · co_quiet (T _)
      clear hKx Kx
      try walk_nrm
      try simp only [hw2]
      refine opsI_cons C rfl (by rfl) fun _ hR Kx hKx => ?_
      replace hF := at_rely hF hR
      clear hR
      go_simp
      try (unfold stored; go_simp)
      refine hKx _ _ ⟨?_, ?_⟩
      · co_quiet (T _)
      clear hKx Kx
      try walk_nrm
      refine opsI_cons C rfl (by rfl) fun _ hR Kx hKx => ?_
      replace hF := at_rely hF hR
      clear hR
      go_simp
      try (unfold stored; go_simp)
      refine hKx _ _ ⟨?_, ?_⟩
      · co_still (T _)
      clear hKx Kx
      try walk_nrm
      refine opsI_cons C rfl (by rfl) fun _ hR Kx hKx => ?_
      replace hF := at_rely hF hR
      clear hR
      go_simp
      try (unfold stored; go_simp)
      refine hKx _ _ ⟨?_, ?_⟩
      · co_quiet (T _)
      clear hKx Kx
      try walk_nrm
      refine opsI_cons C rfl (by rfl) fun _ hR Kx hKx => ?_
      replace hF := at_rely hF hR
      clear hR
      go_simp
      try (unfold stored; go_simp)
      refine hKx _ _ ⟨?_, ?_⟩
      · co_quiet (T _)
      clear hKx Kx
      try walk_nrm
      refine opsI_nil C T ?_
      show wpI _ _ _ _ _ _ _
      by_cases hin : k + 1 + h < s.size
      · have hib : decide ((k : Int) + 1 + (h : Int) < (s.size : Int)) = true := decide_eq_true (by omega)
        try simp only [hib]
        refine wpI_cond C T (t := true) rfl ?_
        simp only [if_true, if_false, reduceIte, Bool.false_eq_true]
        refine wpI_skip C T ?_
        show wpI _ _ _ _ _ _ _
        have hcast : (k : Int) + 1 + (h : Int) = ((k + 1 + h : Nat) : Int) := by omega
        have ixr : ∀ w, (Instr.index 9 (.string s) (.int .i64 ((k : Int) + 1 + (h : Int)))).run Tryz.prog w = .ok (.int .u8 ((s[k + 1 + h]'hin).toNat : Int)) w := fun w => by rw [hcast]; exact ixr0 _ hin w
        have ix1 : ∀ w es, (Instr.index 9 (.string s) (.int .i64 ((k : Int) + 1 + (h : Int)))).events Tryz.prog w es = es := fun w es => by rw [hcast]; exact ixe _ hin w es
        clear hcast
        have hby := (s[k + 1 + h]'hin).toNat_lt
        have hdr : (bytesOf s).drop (k + 1 + h) = ((s[k + 1 + h]'hin).toNat : Int) :: (bytesOf s).drop (k + 1 + (h + 1)) := by
          rw [List.drop_eq_getElem_cons (by simpa [bytesOf] using hin)]; simp [bytesOf]; first | rfl | exact ⟨rfl, rfl⟩ | skip
        generalize hd0 : ((s[k + 1 + h]'hin).toNat : Int) = d at *
        have hwd : IntKind.i64.wrap d = d := by rw [IntKind.wrap_i64]; omega
        refine wpI_block C T ?_
        refine wpI_seq C T ?_
        refine wpI_region C T ?_
        simp only [List.size_toArray, List.length_cons, List.length_nil, Nat.reduceAdd, Nat.zero_add, List.range, List.range.loop]
        refine opsI_cons C rfl (by rfl) fun _ hR Kx hKx => ?_
        replace hF := at_rely hF hR
        clear hR
        go_simp
        try (unfold stored; go_simp)
        refine hKx _ _ ⟨?_, ?_⟩
        · co_quiet (T _)
        clear hKx Kx
        try walk_nrm
        refine opsI_cons C rfl (by rfl) fun _ hR Kx hKx => ?_
        replace hF := at_rely hF hR
        clear hR
        go_simp
        try (unfold stored; go_simp)
        refine hKx _ _ ⟨?_, ?_⟩
        · co_quiet (T _)
        clear hKx Kx
        try walk_nrm
        refine opsI_cons C rfl (by rfl) fun _ hR Kx hKx => ?_
        replace hF := at_rely hF hR
        clear hR
        go_simp
        try (unfold stored; go_simp)
        refine hKx _ _ ⟨?_, ?_⟩
        · co_quiet (T _)
        clear hKx Kx
        try walk_nrm
        try simp only [hw1]
        refine opsI_cons C rfl (by rfl) fun _ hR Kx hKx => ?_
        replace hF := at_rely hF hR
        clear hR
        go_simp
        try (unfold stored; go_simp)
        refine hKx _ _ ⟨?_, ?_⟩
        · co_quiet (T _)
        clear hKx Kx
        try walk_nrm
        refine opsI_cons C rfl (by rfl) fun _ hR Kx hKx => ?_
        replace hF := at_rely hF hR
        clear hR
        go_simp
        try (unfold stored; go_simp)
        refine hKx _ _ ⟨?_, ?_⟩
        · co_quiet (T _)
        clear hKx Kx
        try walk_nrm
        try simp only [hw2]
        refine opsI_cons C rfl (by rfl) fun _ hR Kx hKx => ?_
        replace hF := at_rely hF hR
        clear hR
        go_simp
        try (unfold stored; go_simp)
        refine hKx _ _ ⟨?_, ?_⟩
        · co_still (T _)
        clear hKx Kx
        try walk_nrm
        refine opsI_cons C rfl (by rfl) fun _ hR Kx hKx => ?_
        replace hF := at_rely hF hR
        clear hR
        go_simp
        try (unfold stored; go_simp)
        refine hKx _ _ ⟨?_, ?_⟩
        · co_quiet (T _)
        clear hKx Kx
        try walk_nrm
        try simp only [hwd]
        refine opsI_cons C rfl (by rfl) fun _ hR Kx hKx => ?_
        replace hF := at_rely hF hR
        clear hR
        go_simp
        try (unfold stored; go_simp)
        refine hKx _ _ ⟨?_, ?_⟩
        · co_quiet (T _)
        clear hKx Kx
        try walk_nrm
        refine opsI_nil C T ?_
        show wpI _ _ _ _ _ _ _
        refine wpI_seq C T ?_
        refine wpI_seq C T ?_
        by_cases hlo2 : d < lo
        · have hlb : decide (d < lo) = true := decide_eq_true hlo2
          have htot : haveS n.toNat lo0 hi0 ((bytesOf s).drop (k + 1)) = h := by rw [← hh, hdr]; simp [haveS]; omega
          refine wpI_region C T ?_
          simp only [List.size_toArray, List.length_cons, List.length_nil, Nat.reduceAdd, Nat.zero_add, List.range, List.range.loop]
          refine opsI_cons C rfl (by rfl) fun _ hR Kx hKx => ?_
          replace hF := at_rely hF hR
          clear hR
          go_simp
          try (unfold stored; go_simp)
          refine hKx _ _ ⟨?_, ?_⟩
          · co_quiet (T _)
          clear hKx Kx
          try walk_nrm
          refine opsI_cons C rfl (by rfl) fun _ hR Kx hKx => ?_
          replace hF := at_rely hF hR
          clear hR
          go_simp
          try (unfold stored; go_simp)
          refine hKx _ _ ⟨?_, ?_⟩
          · co_quiet (T _)
          clear hKx Kx
          try walk_nrm
          refine opsI_cons C rfl (by rfl) fun _ hR Kx hKx => ?_
          replace hF := at_rely hF hR
          clear hR
          go_simp
          try (unfold stored; go_simp)
          refine hKx _ _ ⟨?_, ?_⟩
          · co_quiet (T _)
          clear hKx Kx
          try walk_nrm
          try simp only [hlb]
          refine opsI_cons C rfl (by rfl) fun _ hR Kx hKx => ?_
          replace hF := at_rely hF hR
          clear hR
          go_simp
          try (unfold stored; go_simp)
          refine hKx _ _ ⟨?_, ?_⟩
          · co_quiet (T _)
          clear hKx Kx
          try walk_nrm
          refine opsI_unwanted C T rfl (by rfl) ?_
          try walk_nrm
          refine opsI_unwanted C T rfl (by rfl) ?_
          try walk_nrm
          refine opsI_unwanted C T rfl (by rfl) ?_
          try walk_nrm
          refine opsI_cons C rfl (by rfl) fun _ hR Kx hKx => ?_
          replace hF := at_rely hF hR
          clear hR
          go_simp
          try (unfold stored; go_simp)
          refine hKx _ _ ⟨?_, ?_⟩
          · co_quiet (T _)
          clear hKx Kx
          try walk_nrm
          refine opsI_nil C T ?_
          show wpI _ _ _ _ _ _ _
          refine wpI_cond C T (t := true) rfl ?_
          simp only [if_true, if_false, reduceIte, Bool.false_eq_true]
          refine wpI_exit C T ?_
          simp only [inBlockI, thenI, if_true, if_false, reduceIte, Nat.reduceEqDiff]
          refine wpI_seq C T ?_
          by_cases hp : 0 < n
          · have hpb : decide (0 < n) = true := decide_eq_true hp
            refine wpI_region C T ?_
            simp only [List.size_toArray, List.length_cons, List.length_nil, Nat.reduceAdd, Nat.zero_add, List.range, List.range.loop]
            refine opsI_cons C rfl (by rfl) fun _ hR Kx hKx => ?_
            replace hF := at_rely hF hR
            clear hR
            go_simp
            try (unfold stored; go_simp)
            refine hKx _ _ ⟨?_, ?_⟩
            · co_quiet (T _)
            clear hKx Kx
            try walk_nrm
            refine opsI_cons C rfl (by rfl) fun _ hR Kx hKx => ?_
            replace hF := at_rely hF hR
            clear hR
            go_simp
            try (unfold stored; go_simp)
            refine hKx _ _ ⟨?_, ?_⟩
            · co_quiet (T _)
            clear hKx Kx
            try walk_nrm
            try simp only [hw3]
            refine opsI_cons C rfl (by rfl) fun _ hR Kx hKx => ?_
            replace hF := at_rely hF hR
            clear hR
            go_simp
            try (unfold stored; go_simp)
            refine hKx _ _ ⟨?_, ?_⟩
            · co_quiet (T _)
            clear hKx Kx
            try walk_nrm
            refine opsI_cons C rfl (by rfl) fun _ hR Kx hKx => ?_
            replace hF := at_rely hF hR
            clear hR
            go_simp
            try (unfold stored; go_simp)
            refine hKx _ _ ⟨?_, ?_⟩
            · co_quiet (T _)
            clear hKx Kx
            try walk_nrm
            try simp only [hpb]
            refine opsI_cons C rfl (by rfl) fun _ hR Kx hKx => ?_
            replace hF := at_rely hF hR
            clear hR
            go_simp
            try (unfold stored; go_simp)
            refine hKx _ _ ⟨?_, ?_⟩
            · co_quiet (T _)
            clear hKx Kx
            try walk_nrm
            refine opsI_cons C rfl (by rfl) fun _ hR Kx hKx => ?_
            replace hF := at_rely hF hR
            clear hR
            go_simp
            try (unfold stored; go_simp)
            refine hKx _ _ ⟨?_, ?_⟩
            · co_quiet (T _)
            clear hKx Kx
            try walk_nrm
            refine opsI_cons C rfl (by rfl) fun _ hR Kx hKx => ?_
            replace hF := at_rely hF hR
            clear hR
            go_simp
            try (unfold stored; go_simp)
            refine hKx _ _ ⟨?_, ?_⟩
            · co_quiet (T _)
            clear hKx Kx
            try walk_nrm
            refine opsI_cons C rfl (by rfl) fun _ hR Kx hKx => ?_
            replace hF := at_rely hF hR
            clear hR
            go_simp
            try (unfold stored; go_simp)
            refine hKx _ _ ⟨?_, ?_⟩
            · co_quiet (T _)
            clear hKx Kx
            try walk_nrm
            refine opsI_cons C rfl (by rfl) fun _ hR Kx hKx => ?_
            replace hF := at_rely hF hR
            clear hR
            go_simp
            try (unfold stored; go_simp)
            refine hKx _ _ ⟨?_, ?_⟩
            · co_quiet (T _)
            clear hKx Kx
            try walk_nrm
            refine opsI_cons C rfl (by rfl) fun _ hR Kx hKx => ?_
            replace hF := at_rely hF hR
            clear hR
            go_simp
            try (unfold stored; go_simp)
            refine hKx _ _ ⟨?_, ?_⟩
            · co_quiet (T _)
            clear hKx Kx
            try walk_nrm
            refine opsI_cons C rfl (by rfl) fun _ hR Kx hKx => ?_
            replace hF := at_rely hF hR
            clear hR
            go_simp
            try (unfold stored; go_simp)
            refine hKx _ _ ⟨?_, ?_⟩
            · co_quiet (T _)
            clear hKx Kx
            try walk_nrm
            refine opsI_nil C T ?_
            show wpI _ _ _ _ _ _ _
            refine wpI_ret C T ?_
            refine ⟨.inr rfl, rfl, _, resultsC_tmp2 (by rfl) _, rfl, ?_, hF⟩
            have hnn : ((h : Int) == n) = decide (h = n.toNat) := by rw [Bool.eq_iff_iff]; simp; omega
            simp [letS, h1, hn, hlo, hhi, htot, hp, hnn]
          · have hpb : decide (0 < n) = false := decide_eq_false hp
            refine wpI_region C T ?_
            simp only [List.size_toArray, List.length_cons, List.length_nil, Nat.reduceAdd, Nat.zero_add, List.range, List.range.loop]
            refine opsI_cons C rfl (by rfl) fun _ hR Kx hKx => ?_
            replace hF := at_rely hF hR
            clear hR
            go_simp
            try (unfold stored; go_simp)
            refine hKx _ _ ⟨?_, ?_⟩
            · co_quiet (T _)
            clear hKx Kx
            try walk_nrm
            refine opsI_cons C rfl (by rfl) fun _ hR Kx hKx => ?_
            replace hF := at_rely hF hR
            clear hR
            go_simp
            try (unfold stored; go_simp)
            refine hKx _ _ ⟨?_, ?_⟩
            · co_quiet (T _)
            clear hKx Kx
            try walk_nrm
            try simp only [hw3]
            refine opsI_cons C rfl (by rfl) fun _ hR Kx hKx => ?_
            replace hF := at_rely hF hR
            clear hR
            go_simp
            try (unfold stored; go_simp)
            refine hKx _ _ ⟨?_, ?_⟩
            · co_quiet (T _)
            clear hKx Kx
            try walk_nrm
            refine opsI_cons C rfl (by rfl) fun _ hR Kx hKx => ?_
            replace hF := at_rely hF hR
            clear hR
            go_simp
            try (unfold stored; go_simp)
            refine hKx _ _ ⟨?_, ?_⟩
            · co_quiet (T _)
            clear hKx Kx
            try walk_nrm
            try simp only [hpb]
            refine opsI_cons C rfl (by rfl) fun _ hR Kx hKx => ?_
            replace hF := at_rely hF hR
            clear hR
            go_simp
            try (unfold stored; go_simp)
            refine hKx _ _ ⟨?_, ?_⟩
            · co_quiet (T _)
            clear hKx Kx
            try walk_nrm
            refine opsI_unwanted C T rfl (by rfl) ?_
            try walk_nrm
            refine opsI_unwanted C T rfl (by rfl) ?_
            try walk_nrm
            refine opsI_unwanted C T rfl (by rfl) ?_
            try walk_nrm
            refine opsI_cons C rfl (by rfl) fun _ hR Kx hKx => ?_
            replace hF := at_rely hF hR
            clear hR
            go_simp
            try (unfold stored; go_simp)
            refine hKx _ _ ⟨?_, ?_⟩
            · co_quiet (T _)
            clear hKx Kx
            try walk_nrm
            refine opsI_cons C rfl (by rfl) fun _ hR Kx hKx => ?_
            replace hF := at_rely hF hR
            clear hR
            go_simp
            try (unfold stored; go_simp)
            refine hKx _ _ ⟨?_, ?_⟩
            · co_quiet (T _)
            clear hKx Kx
            try walk_nrm
            refine opsI_cons C rfl (by rfl) fun _ hR Kx hKx => ?_
            replace hF := at_rely hF hR
            clear hR
            go_simp
            try (unfold stored; go_simp)
            refine hKx _ _ ⟨?_, ?_⟩
            · co_quiet (T _)
            clear hKx Kx
            try walk_nrm
            refine opsI_nil C T ?_
            show wpI _ _ _ _ _ _ _
            refine wpI_ret C T ?_
            refine ⟨.inr rfl, rfl, _, resultsC_tmp2 (by rfl) _, rfl, ?_, hF⟩
            simp [letS, h1, hn, hlo, hhi, htot, hp]
        · have hlb : decide (d < lo) = false := decide_eq_false hlo2
          refine wpI_region C T ?_
          simp only [List.size_toArray, List.length_cons, List.length_nil, Nat.reduceAdd, Nat.zero_add, List.range, List.range.loop]
          refine opsI_cons C rfl (by rfl) fun _ hR Kx hKx => ?_
          replace hF := at_rely hF hR
          clear hR
          go_simp
          try (unfold stored; go_simp)
          refine hKx _ _ ⟨?_, ?_⟩
          · co_quiet (T _)
          clear hKx Kx
          try walk_nrm
          refine opsI_cons C rfl (by rfl) fun _ hR Kx hKx => ?_
          replace hF := at_rely hF hR
          clear hR
          go_simp
          try (unfold stored; go_simp)
          refine hKx _ _ ⟨?_, ?_⟩
          · co_quiet (T _)
          clear hKx Kx
          try walk_nrm
          refine opsI_cons C rfl (by rfl) fun _ hR Kx hKx => ?_
          replace hF := at_rely hF hR
          clear hR
          go_simp
          try (unfold stored; go_simp)
          refine hKx _ _ ⟨?_, ?_⟩
          · co_quiet (T _)
          clear hKx Kx
          try walk_nrm
          try simp only [hlb]
          refine opsI_cons C rfl (by rfl) fun _ hR Kx hKx => ?_
          replace hF := at_rely hF hR
          clear hR
          go_simp
          try (unfold stored; go_simp)
          refine hKx _ _ ⟨?_, ?_⟩
          · co_quiet (T _)
          clear hKx Kx
          try walk_nrm
          refine opsI_cons C rfl (by rfl) fun _ hR Kx hKx => ?_
          replace hF := at_rely hF hR
          clear hR
          go_simp
          try (unfold stored; go_simp)
          refine hKx _ _ ⟨?_, ?_⟩
          · co_quiet (T _)
          clear hKx Kx
          try walk_nrm
          refine opsI_cons C rfl (by rfl) fun _ hR Kx hKx => ?_
          replace hF := at_rely hF hR
          clear hR
          go_simp
          try (unfold stored; go_simp)
          refine hKx _ _ ⟨?_, ?_⟩
          · co_quiet (T _)
          clear hKx Kx
          try walk_nrm
          refine opsI_cons C rfl (by rfl) fun _ hR Kx hKx => ?_
          replace hF := at_rely hF hR
          clear hR
          go_simp
          try (unfold stored; go_simp)
          refine hKx _ _ ⟨?_, ?_⟩
          · co_quiet (T _)
          clear hKx Kx
          try walk_nrm
          refine opsI_cons C rfl (by rfl) fun _ hR Kx hKx => ?_
          replace hF := at_rely hF hR
          clear hR
          go_simp
          try (unfold stored; go_simp)
          refine hKx _ _ ⟨?_, ?_⟩
          · co_quiet (T _)
          clear hKx Kx
          try walk_nrm
          refine opsI_nil C T ?_
          show wpI _ _ _ _ _ _ _
          by_cases hhi2 : hi < d
          · have hhb : decide (hi < d) = true := decide_eq_true hhi2
            try simp only [hhb]
            have htot : haveS n.toNat lo0 hi0 ((bytesOf s).drop (k + 1)) = h := by rw [← hh, hdr]; simp [haveS]; omega
            refine wpI_cond C T (t := true) rfl ?_
            simp only [if_true, if_false, reduceIte, Bool.false_eq_true]
            refine wpI_exit C T ?_
            simp only [inBlockI, thenI, if_true, if_false, reduceIte, Nat.reduceEqDiff]
            refine wpI_seq C T ?_
            by_cases hp : 0 < n
            · have hpb : decide (0 < n) = true := decide_eq_true hp
              refine wpI_region C T ?_
              simp only [List.size_toArray, List.length_cons, List.length_nil, Nat.reduceAdd, Nat.zero_add, List.range, List.range.loop]
              refine opsI_cons C rfl (by rfl) fun _ hR Kx hKx => ?_
              replace hF := at_rely hF hR
              clear hR
              go_simp
              try (unfold stored; go_simp)
              refine hKx _ _ ⟨?_, ?_⟩
              · co_quiet (T _)
              clear hKx Kx
              try walk_nrm
              refine opsI_cons C rfl (by rfl) fun _ hR Kx hKx => ?_
              replace hF := at_rely hF hR
              clear hR
              go_simp
              try (unfold stored; go_simp)
              refine hKx _ _ ⟨?_, ?_⟩
              · co_quiet (T _)
              clear hKx Kx
              try walk_nrm
              try simp only [hw3]
              refine opsI_cons C rfl (by rfl) fun _ hR Kx hKx => ?_
              replace hF := at_rely hF hR
              clear hR
              go_simp
              try (unfold stored; go_simp)
              refine hKx _ _ ⟨?_, ?_⟩
              · co_quiet (T _)
              clear hKx Kx
              try walk_nrm
              refine opsI_cons C rfl (by rfl) fun _ hR Kx hKx => ?_
              replace hF := at_rely hF hR
              clear hR
              go_simp
              try (unfold stored; go_simp)
              refine hKx _ _ ⟨?_, ?_⟩
              · co_quiet (T _)
              clear hKx Kx
              try walk_nrm
              try simp only [hpb]
              refine opsI_cons C rfl (by rfl) fun _ hR Kx hKx => ?_
              replace hF := at_rely hF hR
              clear hR
              go_simp
              try (unfold stored; go_simp)
              refine hKx _ _ ⟨?_, ?_⟩
              · co_quiet (T _)
              clear hKx Kx
              try walk_nrm
              refine opsI_cons C rfl (by rfl) fun _ hR Kx hKx => ?_
              replace hF := at_rely hF hR
              clear hR
              go_simp
              try (unfold stored; go_simp)
              refine hKx _ _ ⟨?_, ?_⟩
              · co_quiet (T _)
              clear hKx Kx
              try walk_nrm
              refine opsI_cons C rfl (by rfl) fun _ hR Kx hKx => ?_
              replace hF := at_rely hF hR
              clear hR
              go_simp
              try (unfold stored; go_simp)
              refine hKx _ _ ⟨?_, ?_⟩
              · co_quiet (T _)
              clear hKx Kx
              try walk_nrm
              refine opsI_cons C rfl (by rfl) fun _ hR Kx hKx => ?_
              replace hF := at_rely hF hR
              clear hR
              go_simp
              try (unfold stored; go_simp)
              refine hKx _ _ ⟨?_, ?_⟩
              · co_quiet (T _)
              clear hKx Kx
              try walk_nrm
              refine opsI_cons C rfl (by rfl) fun _ hR Kx hKx => ?_
              replace hF := at_rely hF hR
              clear hR
              go_simp
              try (unfold stored; go_simp)
              refine hKx _ _ ⟨?_, ?_⟩
              · co_quiet (T _)
              clear hKx Kx
              try walk_nrm
              refine opsI_cons C rfl (by rfl) fun _ hR Kx hKx => ?_
              replace hF := at_rely hF hR
              clear hR
              go_simp
              try (unfold stored; go_simp)
              refine hKx _ _ ⟨?_, ?_⟩
              · co_quiet (T _)
              clear hKx Kx
              try walk_nrm
              refine opsI_cons C rfl (by rfl) fun _ hR Kx hKx => ?_
              replace hF := at_rely hF hR
              clear hR
              go_simp
              try (unfold stored; go_simp)
              refine hKx _ _ ⟨?_, ?_⟩
              · co_quiet (T _)
              clear hKx Kx
              try walk_nrm
              refine opsI_nil C T ?_
              show wpI _ _ _ _ _ _ _
              refine wpI_ret C T ?_
              refine ⟨.inr rfl, rfl, _, resultsC_tmp2 (by rfl) _, rfl, ?_, hF⟩
              have hnn : ((h : Int) == n) = decide (h = n.toNat) := by rw [Bool.eq_iff_iff]; simp; omega
              simp [letS, h1, hn, hlo, hhi, htot, hp, hnn]
            · have hpb : decide (0 < n) = false := decide_eq_false hp
              refine wpI_region C T ?_
              simp only [List.size_toArray, List.length_cons, List.length_nil, Nat.reduceAdd, Nat.zero_add, List.range, List.range.loop]
              refine opsI_cons C rfl (by rfl) fun _ hR Kx hKx => ?_
              replace hF := at_rely hF hR
              clear hR
              go_simp
              try (unfold stored; go_simp)
              refine hKx _ _ ⟨?_, ?_⟩
              · co_quiet (T _)
              clear hKx Kx
              try walk_nrm
              refine opsI_cons C rfl (by rfl) fun _ hR Kx hKx => ?_
              replace hF := at_rely hF hR
              clear hR
              go_simp
              try (unfold stored; go_simp)
              refine hKx _ _ ⟨?_, ?_⟩
              · co_quiet (T _)
              clear hKx Kx
              try walk_nrm
              try simp only [hw3]
              refine opsI_cons C rfl (by rfl) fun _ hR Kx hKx => ?_
              replace hF := at_rely hF hR
              clear hR
              go_simp
              try (unfold stored; go_simp)
              refine hKx _ _ ⟨?_, ?_⟩
              · co_quiet (T _)
              clear hKx Kx
              try walk_nrm
              refine opsI_cons C rfl (by rfl) fun _ hR Kx hKx => ?_
              replace hF := at_rely hF hR
              clear hR
              go_simp
              try (unfold stored; go_simp)
              refine hKx _ _ ⟨?_, ?_⟩
              · co_quiet (T _)
              clear hKx Kx
              try walk_nrm
              try simp only [hpb]
              refine opsI_cons C rfl (by rfl) fun _ hR Kx hKx => ?_
              replace hF := at_rely hF hR
              clear hR
              go_simp
              try (unfold stored; go_simp)
              refine hKx _ _ ⟨?_, ?_⟩
              · co_quiet (T _)
              clear hKx Kx
              try walk_nrm
              refine opsI_unwanted C T rfl (by rfl) ?_
              try walk_nrm
              refine opsI_unwanted C T rfl (by rfl) ?_
              try walk_nrm
              refine opsI_unwanted C T rfl (by rfl) ?_
              try walk_nrm
              refine opsI_cons C rfl (by rfl) fun _ hR Kx hKx => ?_
              replace hF := at_rely hF hR
              clear hR
              go_simp
              try (unfold stored; go_simp)
              refine hKx _ _ ⟨?_, ?_⟩
              · co_quiet (T _)
              clear hKx Kx
              try walk_nrm
              refine opsI_cons C rfl (by rfl) fun _ hR Kx hKx => ?_
              replace hF := at_rely hF hR
              clear hR
              go_simp
              try (unfold stored; go_simp)
              refine hKx _ _ ⟨?_, ?_⟩
              · co_quiet (T _)
              clear hKx Kx
              try walk_nrm
              refine opsI_cons C rfl (by rfl) fun _ hR Kx hKx => ?_
              replace hF := at_rely hF hR
              clear hR
              go_simp
              try (unfold stored; go_simp)
              refine hKx _ _ ⟨?_, ?_⟩
              · co_quiet (T _)
              clear hKx Kx
              try walk_nrm
              refine opsI_nil C T ?_
              show wpI _ _ _ _ _ _ _
              refine wpI_ret C T ?_
              refine ⟨.inr rfl, rfl, _, resultsC_tmp2 (by rfl) _, rfl, ?_, hF⟩
              simp [letS, h1, hn, hlo, hhi, htot, hp]
          · have hhb : decide (hi < d) = false := decide_eq_false hhi2
            try simp only [hhb]
            refine wpI_cond C T (t := false) rfl ?_
            simp only [if_true, if_false, reduceIte, Bool.false_eq_true]
            refine wpI_skip C T ?_
            show wpI _ _ _ _ _ _ _
            refine wpI_seq C T ?_
            refine wpI_region C T ?_
            simp only [List.size_toArray, List.length_cons, List.length_nil, Nat.reduceAdd, Nat.zero_add, List.range, List.range.loop]
            refine opsI_cons C rfl (by rfl) fun _ hR Kx hKx => ?_
            replace hF := at_rely hF hR
            clear hR
            go_simp
            try (unfold stored; go_simp)
            refine hKx _ _ ⟨?_, ?_⟩
            · co_quiet (T _)
            clear hKx Kx
            try walk_nrm
            refine opsI_nil C T ?_
            show wpI _ _ _ _ _ _ _
            refine wpI_seq C T ?_
            refine wpI_region C T ?_
            simp only [List.size_toArray, List.length_cons, List.length_nil, Nat.reduceAdd, Nat.zero_add, List.range, List.range.loop]
            refine opsI_cons C rfl (by rfl) fun _ hR Kx hKx => ?_
            replace hF := at_rely hF hR
            clear hR
            go_simp
            try (unfold stored; go_simp)
            refine hKx _ _ ⟨?_, ?_⟩
            · co_quiet (T _)
            clear hKx Kx
            try walk_nrm
            refine opsI_nil C T ?_
            show wpI _ _ _ _ _ _ _
            refine wpI_region C T ?_
            simp only [List.size_toArray, List.length_cons, List.length_nil, Nat.reduceAdd, Nat.zero_add, List.range, List.range.loop]
            refine opsI_cons C rfl (by rfl) fun _ hR Kx hKx => ?_
            replace hF := at_rely hF hR
            clear hR
            go_simp
            try (unfold stored; go_simp)
            refine hKx _ _ ⟨?_, ?_⟩
            · co_quiet (T _)
            clear hKx Kx
            try walk_nrm
            refine opsI_cons C rfl (by rfl) fun _ hR Kx hKx => ?_
            replace hF := at_rely hF hR
            clear hR
            go_simp
            try (unfold stored; go_simp)
            refine hKx _ _ ⟨?_, ?_⟩
            · co_quiet (T _)
            clear hKx Kx
            try walk_nrm
            try simp only [hw4]
            refine opsI_cons C rfl (by rfl) fun _ hR Kx hKx => ?_
            replace hF := at_rely hF hR
            clear hR
            go_simp
            try (unfold stored; go_simp)
            refine hKx _ _ ⟨?_, ?_⟩
            · co_quiet (T _)
            clear hKx Kx
            try walk_nrm
            refine opsI_nil C T ?_
            refine ⟨m, by omega, rfl, hF, h + 1, 128, 191, by omega, ?_, _, _, _, _, _, _, _, _, _, _, _, _, _, _, _, _, _, _, _, _, _, _, _, _, _, _, _, _, _, _, rfl⟩
            rw [← hh, hdr, haveS, if_pos ⟨by omega, by omega⟩]
            omega
      · have hib : decide ((k : Int) + 1 + (h : Int) < (s.size : Int)) = false := decide_eq_false (by omega)
        try simp only [hib]
        have hd : (bytesOf s).drop (k + 1 + h) = [] := List.drop_eq_nil_of_le (by simp [bytesOf]; have : s.size = s.data.size := rfl; omega)
        have htot : haveS n.toNat lo0 hi0 ((bytesOf s).drop (k + 1)) = h := by rw [← hh, hd]; simp [haveS]
        refine wpI_cond C T (t := false) rfl ?_
        simp only [if_true, if_false, reduceIte, Bool.false_eq_true]
        refine wpI_exit C T ?_
        simp only [inBlockI, thenI, if_true]
        refine wpI_seq C T ?_
        by_cases hp : 0 < n
        · have hpb : decide (0 < n) = true := decide_eq_true hp
          refine wpI_region C T ?_
          simp only [List.size_toArray, List.length_cons, List.length_nil, Nat.reduceAdd, Nat.zero_add, List.range, List.range.loop]
          refine opsI_cons C rfl (by rfl) fun _ hR Kx hKx => ?_
          replace hF := at_rely hF hR
          clear hR
          go_simp
          try (unfold stored; go_simp)
          refine hKx _ _ ⟨?_, ?_⟩
          · co_quiet (T _)
          clear hKx Kx
          try walk_nrm
          refine opsI_cons C rfl (by rfl) fun _ hR Kx hKx => ?_
          replace hF := at_rely hF hR
          clear hR
          go_simp
          try (unfold stored; go_simp)
          refine hKx _ _ ⟨?_, ?_⟩
          · co_quiet (T _)
          clear hKx Kx
          try walk_nrm
          try simp only [hw3]
          refine opsI_cons C rfl (by rfl) fun _ hR Kx hKx => ?_
          replace hF := at_rely hF hR
          clear hR
          go_simp
          try (unfold stored; go_simp)
          refine hKx _ _ ⟨?_, ?_⟩
          · co_quiet (T _)
          clear hKx Kx
          try walk_nrm
          refine opsI_cons C rfl (by rfl) fun _ hR Kx hKx => ?_
          replace hF := at_rely hF hR
          clear hR
          go_simp
          try (unfold stored; go_simp)
          refine hKx _ _ ⟨?_, ?_⟩
          · co_quiet (T _)
          clear hKx Kx
          try walk_nrm
          try simp only [hpb]
          refine opsI_cons C rfl (by rfl) fun _ hR Kx hKx => ?_
          replace hF := at_rely hF hR
          clear hR
          go_simp
          try (unfold stored; go_simp)
          refine hKx _ _ ⟨?_, ?_⟩
          · co_quiet (T _)
          clear hKx Kx
          try walk_nrm
          refine opsI_cons C rfl (by rfl) fun _ hR Kx hKx => ?_
          replace hF := at_rely hF hR
          clear hR
          go_simp
          try (unfold stored; go_simp)
          refine hKx _ _ ⟨?_, ?_⟩
          · co_quiet (T _)
          clear hKx Kx
          try walk_nrm
          refine opsI_cons C rfl (by rfl) fun _ hR Kx hKx => ?_
          replace hF := at_rely hF hR
          clear hR
          go_simp
          try (unfold stored; go_simp)
          refine hKx _ _ ⟨?_, ?_⟩
          · co_quiet (T _)
          clear hKx Kx
          try walk_nrm
          refine opsI_cons C rfl (by rfl) fun _ hR Kx hKx => ?_
          replace hF := at_rely hF hR
          clear hR
          go_simp
          try (unfold stored; go_simp)
          refine hKx _ _ ⟨?_, ?_⟩
          · co_quiet (T _)
          clear hKx Kx
          try walk_nrm
          refine opsI_cons C rfl (by rfl) fun _ hR Kx hKx => ?_
          replace hF := at_rely hF hR
          clear hR
          go_simp
          try (unfold stored; go_simp)
          refine hKx _ _ ⟨?_, ?_⟩
          · co_quiet (T _)
          clear hKx Kx
          try walk_nrm
          refine opsI_cons C rfl (by rfl) fun _ hR Kx hKx => ?_
          replace hF := at_rely hF hR
          clear hR
          go_simp
          try (unfold stored; go_simp)
          refine hKx _ _ ⟨?_, ?_⟩
          · co_quiet (T _)
          clear hKx Kx
          try walk_nrm
          refine opsI_cons C rfl (by rfl) fun _ hR Kx hKx => ?_
          replace hF := at_rely hF hR
          clear hR
          go_simp
          try (unfold stored; go_simp)
          refine hKx _ _ ⟨?_, ?_⟩
          · co_quiet (T _)
          clear hKx Kx
          try walk_nrm
          refine opsI_nil C T ?_
          show wpI _ _ _ _ _ _ _
          refine wpI_ret C T ?_
          refine ⟨.inr rfl, rfl, _, resultsC_tmp2 (by rfl) _, rfl, ?_, hF⟩
          have hnn : ((h : Int) == n) = decide (h = n.toNat) := by rw [Bool.eq_iff_iff]; simp; omega
          simp [letS, h1, hn, hlo, hhi, htot, hp, hnn]
        · have hpb : decide (0 < n) = false := decide_eq_false hp
          refine wpI_region C T ?_
          simp only [List.size_toArray, List.length_cons, List.length_nil, Nat.reduceAdd, Nat.zero_add, List.range, List.range.loop]
          refine opsI_cons C rfl (by rfl) fun _ hR Kx hKx => ?_
          replace hF := at_rely hF hR
          clear hR
          go_simp
          try (unfold stored; go_simp)
          refine hKx _ _ ⟨?_, ?_⟩
          · co_quiet (T _)
          clear hKx Kx
          try walk_nrm
          refine opsI_cons C rfl (by rfl) fun _ hR Kx hKx => ?_
          replace hF := at_rely hF hR
          clear hR
          go_simp
          try (unfold stored; go_simp)
          refine hKx _ _ ⟨?_, ?_⟩
          · co_quiet (T _)
          clear hKx Kx
          try walk_nrm
          try simp only [hw3]
          refine opsI_cons C rfl (by rfl) fun _ hR Kx hKx => ?_
          replace hF := at_rely hF hR
          clear hR
          go_simp
          try (unfold stored; go_simp)
          refine hKx _ _ ⟨?_, ?_⟩
          · co_quiet (T _)
          clear hKx Kx
          try walk_nrm
          refine opsI_cons C rfl (by rfl) fun _ hR Kx hKx => ?_
          replace hF := at_rely hF hR
          clear hR
          go_simp
          try (unfold stored; go_simp)
          refine hKx _ _ ⟨?_, ?_⟩
          · co_quiet (T _)
          clear hKx Kx
          try walk_nrm
          try simp only [hpb]
          refine opsI_cons C rfl (by rfl) fun _ hR Kx hKx => ?_
          replace hF := at_rely hF hR
          clear hR
          go_simp
          try (unfold stored; go_simp)
          refine hKx _ _ ⟨?_, ?_⟩
          · co_quiet (T _)
          clear hKx Kx
          try walk_nrm
          refine opsI_unwanted C T rfl (by rfl) ?_
          try walk_nrm
          refine opsI_unwanted C T rfl (by rfl) ?_
          try walk_nrm
          refine opsI_unwanted C T rfl (by rfl) ?_
          try walk_nrm
          refine opsI_cons C rfl (by rfl) fun _ hR Kx hKx => ?_
          replace hF := at_rely hF hR
          clear hR
          go_simp
          try (unfold stored; go_simp)
          refine hKx _ _ ⟨?_, ?_⟩
          · co_quiet (T _)
          clear hKx Kx
          try walk_nrm
          refine opsI_cons C rfl (by rfl) fun _ hR Kx hKx => ?_
          replace hF := at_rely hF hR
          clear hR
          go_simp
          try (unfold stored; go_simp)
          refine hKx _ _ ⟨?_, ?_⟩
          · co_quiet (T _)
          clear hKx Kx
          try walk_nrm
          refine opsI_cons C rfl (by rfl) fun _ hR Kx hKx => ?_
          replace hF := at_rely hF hR
          clear hR
          go_simp
          try (unfold stored; go_simp)
          refine hKx _ _ ⟨?_, ?_⟩
          · co_quiet (T _)
          clear hKx Kx
          try walk_nrm
          refine opsI_nil C T ?_
          show wpI _ _ _ _ _ _ _
          refine wpI_ret C T ?_
          refine ⟨.inr rfl, rfl, _, resultsC_tmp2 (by rfl) _, rfl, ?_, hF⟩
          simp [letS, h1, hn, hlo, hhi, htot, hp]
end
end Go.Proofs.YtgcaionclkbehaaGreatDoor
