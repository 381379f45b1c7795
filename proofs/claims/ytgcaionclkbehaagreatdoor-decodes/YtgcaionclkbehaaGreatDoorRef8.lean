/-
  The document's answer, alone: folioref.Decode.
-/
import Derived.Test.YtgcaionclkbehaaGreatDoorPure2
set_option linter.all false
set_option linter.unusedSectionVars false
set_option linter.unusedSimpArgs false
namespace Go.Proofs.YtgcaionclkbehaaGreatDoor
open Go.Conc Go.RowKit
theorem sliceAt_run (s2 p : ByteArray) (k n : Nat) (hkn : k + n ≤ s2.size) (hp2 : p = s2.extract k (k + n)) (w : World) : (Instr.sliceAt 9 (.string s2) (some (.int .i64 (k : Int))) (some (.int .i64 ((k : Int) + (n : Int)))) none).run Tryz.prog w = .ok (.string p) w := by
  have h1 : 0 ≤ (k : Int) + (n : Int) ∧ (k : Int) + (n : Int) ≤ (s2.size : Int) := ⟨by omega, by omega⟩
  have h2 : 0 ≤ (k : Int) ∧ (k : Int) ≤ (k : Int) + (n : Int) := ⟨by omega, by omega⟩
  have h2' : 0 ≤ (k : Int) ∧ (k : Int) ≤ ((((k : Int) + (n : Int)).toNat : Nat) : Int) := ⟨by omega, by omega⟩
  simp [Instr.sliceAt, Instr.slice, Instr.sliceBounds, Instr.sliceBound, asIntOf, go_sem, h1, h2', hp2]
  rw [if_pos h2.2, show ((k : Int) + (n : Int)).toNat = k + n by omega]
theorem sliceAt_events (s2 : ByteArray) (k n : Nat) (hkn : k + n ≤ s2.size) (w : World) (es : Array Event) : (Instr.sliceAt 9 (.string s2) (some (.int .i64 (k : Int))) (some (.int .i64 ((k : Int) + (n : Int)))) none).events Tryz.prog w es = es := by
  have h1 : 0 ≤ (k : Int) + (n : Int) ∧ (k : Int) + (n : Int) ≤ (s2.size : Int) := ⟨by omega, by omega⟩
  have h2 : 0 ≤ (k : Int) ∧ (k : Int) ≤ ((((k : Int) + (n : Int)).toNat : Nat) : Int) := ⟨by omega, by omega⟩
  simp [Instr.sliceAt, Instr.slice, Instr.sliceBounds, Instr.sliceBound, asIntOf, go_sem, h1, h2]
  intro h
  omega
theorem piece_len (c : UInt8) (t : List UInt8) : (pieceS c t).length ≤ 3 * (letU (c :: t)).1 := by
  have hp := letU_pos c t
  have hl : ((c :: t).take (letU (c :: t)).1).length ≤ (letU (c :: t)).1 := by rw [List.length_take]; omega
  unfold pieceS
  split
  · simp; omega
  split
  · split
    · simp
    · simp; omega
  · omega
theorem refGo_len (f : Nat) : ∀ l : List UInt8, (refGo f l).length ≤ 3 * l.length := by
  induction f with
  | zero => intro l; simp [refGo]
  | succ f ih =>
    intro l
    cases l with
    | nil => simp [refGo]
    | cons c t =>
      have hp := letU_pos c t
      have h1 := piece_len c t
      have h2 := ih ((c :: t).drop (letU (c :: t)).1)
      rw [List.length_drop] at h2
      rw [refGo, List.length_append]
      omega
theorem ref_room {l : List UInt8} {k m : Nat} {c : UInt8} {t : List UInt8} {out q : ByteArray} (hdk : l.drop k = c :: t) (hI : out.data.toList ++ refGo (m + 1) (l.drop k) = refL l) (hq : q.data.toList = pieceS c t) : out.size + q.size ≤ 3 * l.length := by
  have h1 := congrArg List.length hI
  have h2 : (refL l).length ≤ 3 * l.length := refGo_len _ _
  rw [hdk, refGo, List.length_append, List.length_append, ← hq] at h1
  have e1 : out.size = out.data.toList.length := by simp
  have e2 : q.size = q.data.toList.length := by simp
  omega
theorem add_run (a b : ByteArray) (h : a.size + b.size ≤ 60000) (w : World) : (Op.stringOp .add a b).run Tryz.prog w = .ok (.string (a ++ b)) w := by
  simp [Op.stringOp]
  omega
theorem add_events (a b : ByteArray) (w : World) (es : Array Event) : (Op.stringOp .add a b).events Tryz.prog w es = es := by
  simp [Op.stringOp]
theorem ixr0 (s : ByteArray) (j : Nat) (hj : j < s.size) (w : World) : (Instr.index 9 (.string s) (.int .i64 (j : Int))).run Tryz.prog w = .ok (.int .u8 ((s[j]'hj).toNat : Int)) w := by simp [Instr.index, go_sem, hj]
theorem ixe0 (s : ByteArray) (j : Nat) (hj : j < s.size) (w : World) (es : Array Event) : (Instr.index 9 (.string s) (.int .i64 (j : Int))).events Tryz.prog w es = es := by simp [Instr.index, go_sem, hj]
theorem ba_ext {a b : ByteArray} (h : a.data.toList = b.data.toList) : a = b := by
  cases a; cases b
  simp only [ByteArray.mk.injEq]
  exact Array.toList_inj.1 h
theorem extract_list (s : ByteArray) (a b : Nat) : (s.extract a b).data.toList = (s.data.toList.drop a).take (b - a) := by
  simp [List.extract]
theorem letS_drop (s : ByteArray) (k : Nat) (hk : k < s.size) : ∃ c t, s.data.toList.drop k = c :: t ∧ t = s.data.toList.drop (k + 1) ∧ s[k]'hk = c ∧ letS (bytesOf s) k ((s[k]'hk).toNat : Int) = letU (c :: t) := by
  refine ⟨s[k]'hk, s.data.toList.drop (k + 1), ?_, rfl, rfl, ?_⟩
  · rw [List.drop_eq_getElem_cons (by simpa using hk)]
    rfl
  · simp only [letU, letS]
    have e : (bytesOf s).drop (k + 1) = (toZ (s[k]'hk :: s.data.toList.drop (k + 1))).drop (0 + 1) := by
      simp [bytesOf, toZ, List.map_drop]
    rw [e]
theorem ref_next {l : List UInt8} {k n m : Nat} {c : UInt8} {t : List UInt8} {out q : ByteArray} {tot : List UInt8} (hdk : l.drop k = c :: t) (hn : (letU (c :: t)).1 = n) (hI : out.data.toList ++ refGo (m + 1) (l.drop k) = tot) (hq : q.data.toList = pieceS c t) : (out ++ q).data.toList ++ refGo m (l.drop (k + n)) = tot := by
  rw [← hI, hdk, refGo, hn, ← hdk, List.drop_drop, ← hq]
  simp
theorem piece_a {c : UInt8} {t : List UInt8} (h : (letU (c :: t)).2 = false) : pieceS c t = [239, 191, 189] := by rw [pieceS, if_pos (.inl h)]
theorem piece_b {c : UInt8} {t : List UInt8} (h : (c :: t).take (letU (c :: t)).1 = [0]) : pieceS c t = [239, 191, 189] := by rw [pieceS, if_pos (.inr h)]
theorem piece_n {c : UInt8} {t : List UInt8} (h : (letU (c :: t)).2 = true) (h' : ¬ (c :: t).take (letU (c :: t)).1 = [0]) : ¬ ((letU (c :: t)).2 = false ∨ (c :: t).take (letU (c :: t)).1 = [0]) := by
  rintro (z | z)
  · rw [h] at z; cases z
  · exact h' z
theorem piece_c {c : UInt8} {t : List UInt8} (h : (letU (c :: t)).2 = true) (h' : ¬ (c :: t).take (letU (c :: t)).1 = [0]) (h2 : (c :: t).take (letU (c :: t)).1 = [13]) (h3 : t.head? = some 10) : pieceS c t = [] := by rw [pieceS, if_neg (piece_n h h'), if_pos h2, if_pos h3]
theorem piece_d {c : UInt8} {t : List UInt8} (h : (letU (c :: t)).2 = true) (h' : ¬ (c :: t).take (letU (c :: t)).1 = [0]) (h2 : (c :: t).take (letU (c :: t)).1 = [13]) (h3 : ¬ t.head? = some 10) : pieceS c t = [10] := by rw [pieceS, if_neg (piece_n h h'), if_pos h2, if_neg h3]
theorem piece_e {c : UInt8} {t : List UInt8} (h : (letU (c :: t)).2 = true) (h' : ¬ (c :: t).take (letU (c :: t)).1 = [0]) (h2 : ¬ (c :: t).take (letU (c :: t)).1 = [13]) : pieceS c t = (c :: t).take (letU (c :: t)).1 := by rw [pieceS, if_neg (piece_n h h'), if_neg h2]
theorem fill {f : (Nat → Value) → Act} {a : Act} (h : f (fun i => a.tmps.getD i undef) = a) : ∃ x : Nat → Value, a = f x := ⟨_, h.symm⟩
section
variable {w w₁ w₂ : World} {Post : Value → World → Prop} {S : Nat → Prop}
set_option maxRecDepth 100000 in
set_option maxHeartbeats 2000000 in
theorem refdec_x (s : ByteArray) :
    CallsI Tryz.prog (ZI Tryz.prog Post 0) 51 #[.string s] S w (fun S' x w' => S' = S ∧ AtRel w w' ∧ ((20000 < s.size ∧ x = .tuple #[.string ⟨#[]⟩, .int .i64 1]) ∨ (s.size ≤ 20000 ∧ x = .tuple #[.string ⟨(refS s.data.toList).toArray⟩, .int .i64 0]))) := by
  have C : ClosedI Tryz.prog true (fun _ : Nat → Prop => AtRel) DZ (ZI Tryz.prog Post 0) := ZI.closed
  have T : ∀ S, Terms AtRel (DZ S) := termsS
  have hF := atRel_refl w
  have ln : ∀ (z : ByteArray) w es, (Builtin.len_ #[9] 3 #[.string z]).events Tryz.prog w es = es := fun z w es => by simp [Builtin.len_, go_sem]
  refine callsI_of Tryz.func51 (by rfl) rfl ?_
  simp only [Tryz.ntmps51, List.size_toArray, List.length_cons, List.length_nil, Nat.reduceAdd, Nat.reduceSub, Array.replicate_succ, Array.replicate_zero, List.push_toArray, List.append_toArray, List.nil_append, List.cons_append]
  refine wpI_seq C T ?_
  refine wpI_region C T ?_
  simp only [List.size_toArray, List.length_cons, List.length_nil, Nat.reduceAdd, Nat.zero_add, List.range, List.range.loop]
  refine opsI_cons C rfl (by rfl) fun _ hR Kx hKx => ?_
  replace hF := at_rely hF hR
  clear hR
  go_simp
  try (unfold stored; go_simp)
  refine hKx _ _ ⟨?_, ?_⟩
  · co_quiet (T _)
  clear hKx Kx
  try walk_nrm
  refine opsI_cons C rfl (by rfl) fun _ hR Kx hKx => ?_
  replace hF := at_rely hF hR
  clear hR
  go_simp
  try (unfold stored; go_simp)
  refine hKx _ _ ⟨?_, ?_⟩
  · co_quiet (T _)
  clear hKx Kx
  try walk_nrm
  refine opsI_nil C T ?_
  show wpI _ _ _ _ _ _ _
  refine wpI_seq C T ?_
  refine wpI_seq C T ?_
  refine wpI_region C T ?_
  simp only [List.size_toArray, List.length_cons, List.length_nil, Nat.reduceAdd, Nat.zero_add, List.range, List.range.loop]
  refine opsI_cons C rfl (by rfl) fun _ hR Kx hKx => ?_
  replace hF := at_rely hF hR
  clear hR
  go_simp
  try (unfold stored; go_simp)
  refine hKx _ _ ⟨?_, ?_⟩
  · co_quiet (T _)
  clear hKx Kx
  try walk_nrm
  refine opsI_cons C rfl (by rfl) fun _ hR Kx hKx => ?_
  replace hF := at_rely hF hR
  clear hR
  go_simp
  try (unfold stored; go_simp)
  refine hKx _ _ ⟨?_, ?_⟩
  · co_still (T _)
  clear hKx Kx
  try walk_nrm
  refine opsI_cons C rfl (by rfl) fun _ hR Kx hKx => ?_
  replace hF := at_rely hF hR
  clear hR
  go_simp
  try (unfold stored; go_simp)
  refine hKx _ _ ⟨?_, ?_⟩
  · co_quiet (T _)
  clear hKx Kx
  try walk_nrm
  refine opsI_nil C T ?_
  show wpI _ _ _ _ _ _ _
  by_cases hb : 20000 < s.size
  · have hbb : decide ((20000 : Int) < (s.size : Int)) = true := decide_eq_true (by omega)
    try simp only [hbb]
    refine wpI_cond C T (t := true) rfl ?_
    simp only [if_true, if_false, reduceIte, Bool.false_eq_true]
    refine wpI_seq C T ?_
    refine wpI_region C T ?_
    simp only [List.size_toArray, List.length_cons, List.length_nil, Nat.reduceAdd, Nat.zero_add, List.range, List.range.loop]
    refine opsI_cons C rfl (by rfl) fun _ hR Kx hKx => ?_
    replace hF := at_rely hF hR
    clear hR
    go_simp
    try (unfold stored; go_simp)
    refine hKx _ _ ⟨?_, ?_⟩
    · co_quiet (T _)
    clear hKx Kx
    try walk_nrm
    refine opsI_cons C rfl (by rfl) fun _ hR Kx hKx => ?_
    replace hF := at_rely hF hR
    clear hR
    go_simp
    try (unfold stored; go_simp)
    refine hKx _ _ ⟨?_, ?_⟩
    · co_quiet (T _)
    clear hKx Kx
    try walk_nrm
    refine opsI_nil C T ?_
    show wpI _ _ _ _ _ _ _
    refine wpI_ret C T ?_
    exact ⟨.inr rfl, rfl, _, resultsC_tmp2 (by rfl) _, rfl, hF, .inl ⟨hb, rfl⟩⟩
  · have hbb : decide ((20000 : Int) < (s.size : Int)) = false := decide_eq_false (by omega)
    try simp only [hbb]
    refine wpI_cond C T (t := false) rfl ?_
    simp only [if_true, if_false, reduceIte, Bool.false_eq_true]
    refine wpI_skip C T ?_
    show wpI _ _ _ _ _ _ _
    have hs0 : s.size ≤ 20000 := by omega
    refine wpI_seq C T ?_
    refine wpI_mono (Q := thenI (fun i a w' => i = S ∧ AtRel w w' ∧ ∃ (s2 : ByteArray), s2.size ≤ 20000 ∧ refS s.data.toList = refL s2.data.toList ∧ ∃ x : Nat → Value, a = ⟨#[.string s2, undef, .string ⟨#[]⟩, .int .i64 0, x 4, x 5, x 6, x 7, x 8, x 9, x 10, x 11, x 12, x 13, x 14, x 15, x 16, x 17, x 18, x 19, x 20, x 21, x 22, x 23, x 24, x 25, x 26, x 27, x 28, x 29, x 30, x 31, x 32, x 33, x 34, x 35, x 36, x 37, x 38, x 39, x 40, x 41, x 42, x 43, x 44, x 45, x 46, x 47, x 48, x 49, x 50, x 51, x 52, x 53, x 54, x 55, x 56, x 57, x 58, x 59, x 60, x 61, x 62, x 63, x 64, x 65, x 66, x 67, x 68, x 69, x 70, x 71], []⟩) (fun _ _ _ _ => False)) ?_ ?_
    · refine wpI_seq C T ?_
      by_cases h3 : 3 ≤ s.size
      · have h3i : (3 : Int) ≤ (s.size : Int) := by omega
        have h3b : decide ((3 : Int) ≤ (s.size : Int)) = true := decide_eq_true (by omega)
        have hsl : ∀ w, (Instr.sliceAt 9 (.string s) none (some (.int .i64 3)) none).run Tryz.prog w = .ok (.string (s.extract 0 3)) w := fun w => by simp [Instr.sliceAt, Instr.slice, Instr.sliceBounds, Instr.sliceBound, asIntOf, go_sem, h3i, Int.not_lt.2 h3i]
        have hse : ∀ w es, (Instr.sliceAt 9 (.string s) none (some (.int .i64 3)) none).events Tryz.prog w es = es := fun w es => by simp [Instr.sliceAt, Instr.slice, Instr.sliceBounds, Instr.sliceBound, asIntOf, go_sem, h3i, Int.not_lt.2 h3i]
        have hsl3 : ∀ w, (Instr.sliceAt 9 (.string s) (some (.int .i64 3)) none none).run Tryz.prog w = .ok (.string (s.extract 3 s.size)) w := fun w => by simp [Instr.sliceAt, Instr.slice, Instr.sliceBounds, Instr.sliceBound, asIntOf, go_sem, h3i, Int.not_lt.2 h3i]
        have hse3 : ∀ w es, (Instr.sliceAt 9 (.string s) (some (.int .i64 3)) none none).events Tryz.prog w es = es := fun w es => by simp [Instr.sliceAt, Instr.slice, Instr.sliceBounds, Instr.sliceBound, asIntOf, go_sem, h3i, Int.not_lt.2 h3i]
        have hx3 : (s.extract 0 3).data.toList = s.data.toList.take 3 := by rw [extract_list]; rfl
        by_cases hm : s.extract 0 3 = ⟨#[239, 187, 191]⟩
        · have hm1 : decide (s.extract 0 3 = ⟨#[239, 187, 191]⟩) = true := decide_eq_true hm
          have hm2 : ((s.extract 0 3).toList == [239, 187, 191]) = true := by rw [ByteArray.toList_eq, hm]; rfl
          have hR : refS s.data.toList = refL (s.extract 3 s.size).data.toList := by rw [refS, if_pos (by rw [← hx3, hm]), extract_list, List.take_of_length_le (by simp)]
          refine wpI_region C T ?_
          simp only [List.size_toArray, List.length_cons, List.length_nil, Nat.reduceAdd, Nat.zero_add, List.range, List.range.loop]
          refine opsI_cons C rfl (by rfl) fun _ hR Kx hKx => ?_
          replace hF := at_rely hF hR
          clear hR
          go_simp
          try (unfold stored; go_simp)
          refine hKx _ _ ⟨?_, ?_⟩
          · co_quiet (T _)
          clear hKx Kx
          try walk_nrm
          refine opsI_cons C rfl (by rfl) fun _ hR Kx hKx => ?_
          replace hF := at_rely hF hR
          clear hR
          go_simp
          try (unfold stored; go_simp)
          refine hKx _ _ ⟨?_, ?_⟩
          · co_still (T _)
          clear hKx Kx
          try walk_nrm
          refine opsI_cons C rfl (by rfl) fun _ hR Kx hKx => ?_
          replace hF := at_rely hF hR
          clear hR
          go_simp
          try (unfold stored; go_simp)
          refine hKx _ _ ⟨?_, ?_⟩
          · co_quiet (T _)
          clear hKx Kx
          try walk_nrm
          try simp only [h3b]
          refine opsI_cons C rfl (by rfl) fun _ hR Kx hKx => ?_
          replace hF := at_rely hF hR
          clear hR
          go_simp
          try (unfold stored; go_simp)
          refine hKx _ _ ⟨?_, ?_⟩
          · co_quiet (T _)
          clear hKx Kx
          try walk_nrm
          refine opsI_cons C rfl (by rfl) fun _ hR Kx hKx => ?_
          replace hF := at_rely hF hR
          clear hR
          go_simp
          try (unfold stored; go_simp)
          refine hKx _ _ ⟨?_, ?_⟩
          · co_quiet (T _)
          clear hKx Kx
          try walk_nrm
          refine opsI_cons C rfl (by rfl) fun _ hR Kx hKx => ?_
          replace hF := at_rely hF hR
          clear hR
          go_simp
          try (unfold stored; go_simp)
          refine hKx _ _ ⟨?_, ?_⟩
          · co_still (T _)
          clear hKx Kx
          try walk_nrm
          try simp only [hm1, hm2]
          refine opsI_cons C rfl (by rfl) fun _ hR Kx hKx => ?_
          replace hF := at_rely hF hR
          clear hR
          go_simp
          try (unfold stored; go_simp)
          refine hKx _ _ ⟨?_, ?_⟩
          · co_quiet (T _)
          clear hKx Kx
          try walk_nrm
          try simp only [hm1, hm2]
          refine opsI_cons C rfl (by rfl) fun _ hR Kx hKx => ?_
          replace hF := at_rely hF hR
          clear hR
          go_simp
          try (unfold stored; go_simp)
          refine hKx _ _ ⟨?_, ?_⟩
          · co_quiet (T _)
          clear hKx Kx
          try walk_nrm
          refine opsI_nil C T ?_
          show wpI _ _ _ _ _ _ _
          refine wpI_cond C T (t := true) rfl ?_
          simp only [if_true, if_false, reduceIte, Bool.false_eq_true]
          refine wpI_region C T ?_
          simp only [List.size_toArray, List.length_cons, List.length_nil, Nat.reduceAdd, Nat.zero_add, List.range, List.range.loop]
          refine opsI_cons C rfl (by rfl) fun _ hR Kx hKx => ?_
          replace hF := at_rely hF hR
          clear hR
          go_simp
          try (unfold stored; go_simp)
          refine hKx _ _ ⟨?_, ?_⟩
          · co_quiet (T _)
          clear hKx Kx
          try walk_nrm
          refine opsI_cons C rfl (by rfl) fun _ hR Kx hKx => ?_
          replace hF := at_rely hF hR
          clear hR
          go_simp
          try (unfold stored; go_simp)
          refine hKx _ _ ⟨?_, ?_⟩
          · co_still (T _)
          clear hKx Kx
          try walk_nrm
          refine opsI_cons C rfl (by rfl) fun _ hR Kx hKx => ?_
          replace hF := at_rely hF hR
          clear hR
          go_simp
          try (unfold stored; go_simp)
          refine hKx _ _ ⟨?_, ?_⟩
          · co_quiet (T _)
          clear hKx Kx
          try walk_nrm
          refine opsI_nil C T ?_
          exact ⟨rfl, hF, _, by simp; omega, hR, fill rfl⟩
        · have hm1 : decide (s.extract 0 3 = ⟨#[239, 187, 191]⟩) = false := decide_eq_false hm
          have hm2 : ((s.extract 0 3).toList == [239, 187, 191]) = false := by rw [ByteArray.toList_eq, beq_eq_false_iff_ne]; exact fun h => hm (ba_ext h)
          have hR : refS s.data.toList = refL s.data.toList := by rw [refS, if_neg (fun h => hm (ba_ext (by rw [hx3, h])))]
          refine wpI_region C T ?_
          simp only [List.size_toArray, List.length_cons, List.length_nil, Nat.reduceAdd, Nat.zero_add, List.range, List.range.loop]
          refine opsI_cons C rfl (by rfl) fun _ hR Kx hKx => ?_
          replace hF := at_rely hF hR
          clear hR
          go_simp
          try (unfold stored; go_simp)
          refine hKx _ _ ⟨?_, ?_⟩
          · co_quiet (T _)
          clear hKx Kx
          try walk_nrm
          refine opsI_cons C rfl (by rfl) fun _ hR Kx hKx => ?_
          replace hF := at_rely hF hR
          clear hR
          go_simp
          try (unfold stored; go_simp)
          refine hKx _ _ ⟨?_, ?_⟩
          · co_still (T _)
          clear hKx Kx
          try walk_nrm
          refine opsI_cons C rfl (by rfl) fun _ hR Kx hKx => ?_
          replace hF := at_rely hF hR
          clear hR
          go_simp
          try (unfold stored; go_simp)
          refine hKx _ _ ⟨?_, ?_⟩
          · co_quiet (T _)
          clear hKx Kx
          try walk_nrm
          try simp only [h3b]
          refine opsI_cons C rfl (by rfl) fun _ hR Kx hKx => ?_
          replace hF := at_rely hF hR
          clear hR
          go_simp
          try (unfold stored; go_simp)
          refine hKx _ _ ⟨?_, ?_⟩
          · co_quiet (T _)
          clear hKx Kx
          try walk_nrm
          refine opsI_cons C rfl (by rfl) fun _ hR Kx hKx => ?_
          replace hF := at_rely hF hR
          clear hR
          go_simp
          try (unfold stored; go_simp)
          refine hKx _ _ ⟨?_, ?_⟩
          · co_quiet (T _)
          clear hKx Kx
          try walk_nrm
          refine opsI_cons C rfl (by rfl) fun _ hR Kx hKx => ?_
          replace hF := at_rely hF hR
          clear hR
          go_simp
          try (unfold stored; go_simp)
          refine hKx _ _ ⟨?_, ?_⟩
          · co_still (T _)
          clear hKx Kx
          try walk_nrm
          try simp only [hm1, hm2]
          refine opsI_cons C rfl (by rfl) fun _ hR Kx hKx => ?_
          replace hF := at_rely hF hR
          clear hR
          go_simp
          try (unfold stored; go_simp)
          refine hKx _ _ ⟨?_, ?_⟩
          · co_quiet (T _)
          clear hKx Kx
          try walk_nrm
          try simp only [hm1, hm2]
          refine opsI_cons C rfl (by rfl) fun _ hR Kx hKx => ?_
          replace hF := at_rely hF hR
          clear hR
          go_simp
          try (unfold stored; go_simp)
          refine hKx _ _ ⟨?_, ?_⟩
          · co_quiet (T _)
          clear hKx Kx
          try walk_nrm
          refine opsI_nil C T ?_
          show wpI _ _ _ _ _ _ _
          refine wpI_cond C T (t := false) rfl ?_
          simp only [if_true, if_false, reduceIte, Bool.false_eq_true]
          refine wpI_skip C T ?_
          exact ⟨rfl, hF, _, hs0, hR, fill rfl⟩
      · have h3b : decide ((3 : Int) ≤ (s.size : Int)) = false := decide_eq_false (by omega)
        have hR : refS s.data.toList = refL s.data.toList := by rw [refS, if_neg (fun h => by have e := congrArg List.length h; have : s.size = s.data.size := rfl; simp at e; omega)]
        refine wpI_region C T ?_
        simp only [List.size_toArray, List.length_cons, List.length_nil, Nat.reduceAdd, Nat.zero_add, List.range, List.range.loop]
        refine opsI_cons C rfl (by rfl) fun _ hR Kx hKx => ?_
        replace hF := at_rely hF hR
        clear hR
        go_simp
        try (unfold stored; go_simp)
        refine hKx _ _ ⟨?_, ?_⟩
        · co_quiet (T _)
        clear hKx Kx
        try walk_nrm
        refine opsI_cons C rfl (by rfl) fun _ hR Kx hKx => ?_
        replace hF := at_rely hF hR
        clear hR
        go_simp
        try (unfold stored; go_simp)
        refine hKx _ _ ⟨?_, ?_⟩
        · co_still (T _)
        clear hKx Kx
        try walk_nrm
        refine opsI_cons C rfl (by rfl) fun _ hR Kx hKx => ?_
        replace hF := at_rely hF hR
        clear hR
        go_simp
        try (unfold stored; go_simp)
        refine hKx _ _ ⟨?_, ?_⟩
        · co_quiet (T _)
        clear hKx Kx
        try walk_nrm
        try simp only [h3b]
        refine opsI_cons C rfl (by rfl) fun _ hR Kx hKx => ?_
        replace hF := at_rely hF hR
        clear hR
        go_simp
        try (unfold stored; go_simp)
        refine hKx _ _ ⟨?_, ?_⟩
        · co_quiet (T _)
        clear hKx Kx
        try walk_nrm
        refine opsI_unwanted C T rfl (by rfl) ?_
        try walk_nrm
        refine opsI_unwanted C T rfl (by rfl) ?_
        try walk_nrm
        refine opsI_unwanted C T rfl (by rfl) ?_
        try walk_nrm
        refine opsI_cons C rfl (by rfl) fun _ hR Kx hKx => ?_
        replace hF := at_rely hF hR
        clear hR
        go_simp
        try (unfold stored; go_simp)
        refine hKx _ _ ⟨?_, ?_⟩
        · co_quiet (T _)
        clear hKx Kx
        try walk_nrm
        refine opsI_nil C T ?_
        show wpI _ _ _ _ _ _ _
        refine wpI_cond C T (t := false) rfl ?_
        simp only [if_true, if_false, reduceIte, Bool.false_eq_true]
        refine wpI_skip C T ?_
        exact ⟨rfl, hF, _, hs0, hR, fill rfl⟩
    · intro i e a w' hq
      cases e with
      | normal =>
        obtain ⟨hiS, hF, s2, hs2, hR, x, rfl⟩ := hq
        rw [hiS]
        show wpI _ _ _ _ _ _ _
        refine wpI_seq C T ?_
        refine wpI_region C T ?_
        simp only [List.size_toArray, List.length_cons, List.length_nil, Nat.reduceAdd, Nat.zero_add, List.range, List.range.loop]
        refine opsI_cons C rfl (by rfl) fun _ hR Kx hKx => ?_
        replace hF := at_rely hF hR
        clear hR
        go_simp
        try (unfold stored; go_simp)
        refine hKx _ _ ⟨?_, ?_⟩
        · co_quiet (T _)
        clear hKx Kx
        try walk_nrm
        refine opsI_nil C T ?_
        show wpI _ _ _ _ _ _ _
        refine wpI_seq C T ?_
        refine wpI_seq C T ?_
        refine wpI_region C T ?_
        simp only [List.size_toArray, List.length_cons, List.length_nil, Nat.reduceAdd, Nat.zero_add, List.range, List.range.loop]
        refine opsI_cons C rfl (by rfl) fun _ hR Kx hKx => ?_
        replace hF := at_rely hF hR
        clear hR
        go_simp
        try (unfold stored; go_simp)
        refine hKx _ _ ⟨?_, ?_⟩
        · co_quiet (T _)
        clear hKx Kx
        try walk_nrm
        refine opsI_nil C T ?_
        show wpI _ _ _ _ _ _ _
        refine wpI_block C T ?_
        refine wpI_loop C T (fun m i a w' => i = S ∧ AtRel w w' ∧ ∃ (k : Nat) (out : ByteArray), k ≤ s2.size ∧ s2.size - k ≤ m ∧ out.data.toList ++ refGo m (s2.data.toList.drop k) = refL s2.data.toList ∧ ∃ x : Nat → Value, a = ⟨#[.string s2, undef, .string ⟨#[]⟩, .int .i64 0, .string out, .int .i64 (k : Int), x 6, x 7, x 8, x 9, x 10, x 11, x 12, x 13, x 14, x 15, x 16, x 17, x 18, x 19, x 20, x 21, x 22, x 23, x 24, x 25, x 26, x 27, x 28, x 29, x 30, x 31, x 32, x 33, x 34, x 35, x 36, x 37, x 38, x 39, x 40, x 41, x 42, x 43, x 44, x 45, x 46, x 47, x 48, x 49, x 50, x 51, x 52, x 53, x 54, x 55, x 56, x 57, x 58, x 59, x 60, x 61, x 62, x 63, x 64, x 65, x 66, x 67, x 68, x 69, x 70, x 71], []⟩) s2.size ⟨rfl, hF, 0, ⟨#[]⟩, by omega, by omega, by simp [refL], fill rfl⟩ ?_
        clear hF
        rintro m i a w' ⟨hiS, hF, k, out, hk0, hkm, hI, x, rfl⟩
        rw [hiS]
        clear hiS i
        refine wpI_seq C T ?_
        refine wpI_seq C T ?_
        refine wpI_region C T ?_
        simp only [List.size_toArray, List.length_cons, List.length_nil, Nat.reduceAdd, Nat.zero_add, List.range, List.range.loop]
        refine opsI_cons C rfl (by rfl) fun _ hR Kx hKx => ?_
        replace hF := at_rely hF hR
        clear hR
        go_simp
        try (unfold stored; go_simp)
        refine hKx _ _ ⟨?_, ?_⟩
        · co_quiet (T _)
        clear hKx Kx
        try walk_nrm
        refine opsI_cons C rfl (by rfl) fun _ hR Kx hKx => ?_
        replace hF := at_rely hF hR
        clear hR
        go_simp
        try (unfold stored; go_simp)
        refine hKx _ _ ⟨?_, ?_⟩
        · co_quiet (T _)
        clear hKx Kx
        try walk_nrm
        refine opsI_cons C rfl (by rfl) fun _ hR Kx hKx => ?_
        replace hF := at_rely hF hR
        clear hR
        go_simp
        try (unfold stored; go_simp)
        refine hKx _ _ ⟨?_, ?_⟩
        · co_still (T _)
        clear hKx Kx
        try walk_nrm
        refine opsI_cons C rfl (by rfl) fun _ hR Kx hKx => ?_
        replace hF := at_rely hF hR
        clear hR
        go_simp
        try (unfold stored; go_simp)
        refine hKx _ _ ⟨?_, ?_⟩
        · co_quiet (T _)
        clear hKx Kx
        try walk_nrm
        refine opsI_nil C T ?_
        show wpI _ _ _ _ _ _ _
        by_cases hk : k < s2.size
        · have hkb : decide ((k : Int) < (s2.size : Int)) = true := decide_eq_true (by omega)
          have hkb2 : decide (k < s2.size) = true := decide_eq_true hk
          try simp only [hkb, hkb2]
          refine wpI_cond C T (t := true) rfl ?_
          simp only [if_true, if_false, reduceIte, Bool.false_eq_true]
          refine wpI_skip C T ?_
          show wpI _ _ _ _ _ _ _
          refine wpI_block C T ?_
          obtain ⟨m, rfl⟩ : ∃ m2, m = m2 + 1 := ⟨m - 1, by omega⟩
          obtain ⟨c, t, hdk, ht, hcz, hlt⟩ := letS_drop s2 k hk
          have hp := letU_pos c t
          obtain ⟨n, hn⟩ : ∃ n, (letU (c :: t)).1 = n := ⟨_, rfl⟩
          obtain ⟨ok, hok⟩ : ∃ ok, (letU (c :: t)).2 = ok := ⟨_, rfl⟩
          have hlen : (c :: t).length = s2.size - k := by rw [← hdk]; simp
          rw [hn] at hp
          have hkn : k + n ≤ s2.size := by omega
          obtain ⟨p, hp2⟩ : ∃ p, p = s2.extract k (k + n) := ⟨_, rfl⟩
          have hpl : p.data.toList = (c :: t).take n := by rw [hp2, extract_list, hdk, show k + n - k = n by omega]
          have hw1 : IntKind.i64.wrap ((k : Int) + (n : Int)) = (k : Int) + (n : Int) := by rw [IntKind.wrap_i64]; omega
          have hw2 : IntKind.i64.wrap ((k : Int) + 1) = (k : Int) + 1 := by rw [IntKind.wrap_i64]; omega
          have hsl : ∀ w, (Instr.sliceAt 9 (.string s2) (some (.int .i64 (k : Int))) (some (.int .i64 ((k : Int) + (n : Int)))) none).run Tryz.prog w = .ok (.string p) w := sliceAt_run s2 p k n hkn hp2
          have hse : ∀ w es, (Instr.sliceAt 9 (.string s2) (some (.int .i64 (k : Int))) (some (.int .i64 ((k : Int) + (n : Int)))) none).events Tryz.prog w es = es := sliceAt_events s2 k n hkn
          clear hp2
          refine wpI_seq C T ?_
          refine wpI_region C T ?_
          simp only [List.size_toArray, List.length_cons, List.length_nil, Nat.reduceAdd, Nat.zero_add, List.range, List.range.loop]
          refine opsI_cons C rfl (by rfl) fun _ hR Kx hKx => ?_
          replace hF := at_rely hF hR
          clear hR
          go_simp
          try (unfold stored; go_simp)
          refine hKx _ _ ⟨?_, ?_⟩
          · co_quiet (T _)
          clear hKx Kx
          try walk_nrm
          refine opsI_cons C rfl (by rfl) fun _ hR Kx hKx => ?_
          replace hF := at_rely hF hR
          clear hR
          go_simp
          try (unfold stored; go_simp)
          refine hKx _ _ ⟨?_, ?_⟩
          · co_quiet (T _)
          clear hKx Kx
          try walk_nrm
          refine opsI_callX C T rfl (by rfl) rfl rfl (by simp [Act.eval]) rfl (letter_x s2 hs2 k hk) ?_
          rintro S2 _ _ ⟨hS2, rfl, hF'⟩
          rw [hS2, hlt, hn, hok]
          clear hS2 S2
          have hF := at_rely hF hF'
          clear hF'
          try walk_nrm
          refine opsI_cons C rfl (by rfl) fun _ hR Kx hKx => ?_
          replace hF := at_rely hF hR
          clear hR
          go_simp
          try (unfold stored; go_simp)
          refine hKx _ _ ⟨?_, ?_⟩
          · co_quiet (T _)
          clear hKx Kx
          try walk_nrm
          refine opsI_cons C rfl (by rfl) fun _ hR Kx hKx => ?_
          replace hF := at_rely hF hR
          clear hR
          go_simp
          try (unfold stored; go_simp)
          refine hKx _ _ ⟨?_, ?_⟩
          · co_still (T _)
          clear hKx Kx
          try walk_nrm
          refine opsI_cons C rfl (by rfl) fun _ hR Kx hKx => ?_
          replace hF := at_rely hF hR
          clear hR
          go_simp
          try (unfold stored; go_simp)
          refine hKx _ _ ⟨?_, ?_⟩
          · co_still (T _)
          clear hKx Kx
          try walk_nrm
          refine opsI_cons C rfl (by rfl) fun _ hR Kx hKx => ?_
          replace hF := at_rely hF hR
          clear hR
          go_simp
          try (unfold stored; go_simp)
          refine hKx _ _ ⟨?_, ?_⟩
          · co_quiet (T _)
          clear hKx Kx
          try walk_nrm
          refine opsI_cons C rfl (by rfl) fun _ hR Kx hKx => ?_
          replace hF := at_rely hF hR
          clear hR
          go_simp
          try (unfold stored; go_simp)
          refine hKx _ _ ⟨?_, ?_⟩
          · co_quiet (T _)
          clear hKx Kx
          try walk_nrm
          refine opsI_nil C T ?_
          show wpI _ _ _ _ _ _ _
          refine wpI_seq C T ?_
          refine wpI_region C T ?_
          simp only [List.size_toArray, List.length_cons, List.length_nil, Nat.reduceAdd, Nat.zero_add, List.range, List.range.loop]
          refine opsI_cons C rfl (by rfl) fun _ hR Kx hKx => ?_
          replace hF := at_rely hF hR
          clear hR
          go_simp
          try (unfold stored; go_simp)
          refine hKx _ _ ⟨?_, ?_⟩
          · co_quiet (T _)
          clear hKx Kx
          try walk_nrm
          refine opsI_cons C rfl (by rfl) fun _ hR Kx hKx => ?_
          replace hF := at_rely hF hR
          clear hR
          go_simp
          try (unfold stored; go_simp)
          refine hKx _ _ ⟨?_, ?_⟩
          · co_quiet (T _)
          clear hKx Kx
          try walk_nrm
          refine opsI_cons C rfl (by rfl) fun _ hR Kx hKx => ?_
          replace hF := at_rely hF hR
          clear hR
          go_simp
          try (unfold stored; go_simp)
          refine hKx _ _ ⟨?_, ?_⟩
          · co_quiet (T _)
          clear hKx Kx
          try walk_nrm
          refine opsI_cons C rfl (by rfl) fun _ hR Kx hKx => ?_
          replace hF := at_rely hF hR
          clear hR
          go_simp
          try (unfold stored; go_simp)
          refine hKx _ _ ⟨?_, ?_⟩
          · co_quiet (T _)
          clear hKx Kx
          try walk_nrm
          refine opsI_cons C rfl (by rfl) fun _ hR Kx hKx => ?_
          replace hF := at_rely hF hR
          clear hR
          go_simp
          try (unfold stored; go_simp)
          refine hKx _ _ ⟨?_, ?_⟩
          · co_quiet (T _)
          clear hKx Kx
          try walk_nrm
          try simp only [hw1]
          refine opsI_cons C rfl (by rfl) fun _ hR Kx hKx => ?_
          replace hF := at_rely hF hR
          clear hR
          go_simp
          try (unfold stored; go_simp)
          refine hKx _ _ ⟨?_, ?_⟩
          · co_still (T _)
          clear hKx Kx
          try walk_nrm
          refine opsI_cons C rfl (by rfl) fun _ hR Kx hKx => ?_
          replace hF := at_rely hF hR
          clear hR
          go_simp
          try (unfold stored; go_simp)
          refine hKx _ _ ⟨?_, ?_⟩
          · co_quiet (T _)
          clear hKx Kx
          try walk_nrm
          refine opsI_nil C T ?_
          show wpI _ _ _ _ _ _ _
          refine wpI_seq C T ?_
          refine wpI_mono (Q := thenI (fun i a w' => i = S ∧ AtRel w w' ∧ ∃ (q : ByteArray), q.data.toList = pieceS c t ∧ ∃ x : Nat → Value, a = ⟨#[.string s2, undef, .string ⟨#[]⟩, .int .i64 0, .string out, .int .i64 (k : Int), .int .i64 (n : Int), .bool ok, .string q, x 9, x 10, x 11, x 12, x 13, x 14, x 15, x 16, x 17, x 18, x 19, x 20, x 21, x 22, x 23, x 24, x 25, x 26, x 27, x 28, x 29, x 30, x 31, x 32, x 33, x 34, x 35, x 36, x 37, x 38, x 39, x 40, x 41, x 42, x 43, x 44, x 45, x 46, x 47, x 48, x 49, x 50, x 51, x 52, x 53, x 54, x 55, x 56, x 57, x 58, x 59, x 60, x 61, x 62, x 63, x 64, x 65, x 66, x 67, x 68, x 69, x 70, x 71], []⟩) (fun _ _ _ _ => False)) ?_ ?_
          · refine wpI_block C T ?_
            refine wpI_seq C T ?_
            cases ok with
            | false =>
              skip
              refine wpI_region C T ?_
              simp only [List.size_toArray, List.length_cons, List.length_nil, Nat.reduceAdd, Nat.zero_add, List.range, List.range.loop]
              refine opsI_cons C rfl (by rfl) fun _ hR Kx hKx => ?_
              replace hF := at_rely hF hR
              clear hR
              go_simp
              try (unfold stored; go_simp)
              refine hKx _ _ ⟨?_, ?_⟩
              · co_quiet (T _)
              clear hKx Kx
              try walk_nrm
              refine opsI_cons C rfl (by rfl) fun _ hR Kx hKx => ?_
              replace hF := at_rely hF hR
              clear hR
              go_simp
              try (unfold stored; go_simp)
              refine hKx _ _ ⟨?_, ?_⟩
              · co_quiet (T _)
              clear hKx Kx
              try walk_nrm
              refine opsI_cons C rfl (by rfl) fun _ hR Kx hKx => ?_
              replace hF := at_rely hF hR
              clear hR
              go_simp
              try (unfold stored; go_simp)
              refine hKx _ _ ⟨?_, ?_⟩
              · co_quiet (T _)
              clear hKx Kx
              try walk_nrm
              refine opsI_unwanted C T rfl (by rfl) ?_
              try walk_nrm
              refine opsI_unwanted C T rfl (by rfl) ?_
              try walk_nrm
              refine opsI_cons C rfl (by rfl) fun _ hR Kx hKx => ?_
              replace hF := at_rely hF hR
              clear hR
              go_simp
              try (unfold stored; go_simp)
              refine hKx _ _ ⟨?_, ?_⟩
              · co_quiet (T _)
              clear hKx Kx
              try walk_nrm
              refine opsI_cons C rfl (by rfl) fun _ hR Kx hKx => ?_
              replace hF := at_rely hF hR
              clear hR
              go_simp
              try (unfold stored; go_simp)
              refine hKx _ _ ⟨?_, ?_⟩
              · co_quiet (T _)
              clear hKx Kx
              try walk_nrm
              refine opsI_nil C T ?_
              show wpI _ _ _ _ _ _ _
              refine wpI_cond C T (t := true) rfl ?_
              simp only [if_true, if_false, reduceIte, Bool.false_eq_true]
              refine wpI_region C T ?_
              simp only [List.size_toArray, List.length_cons, List.length_nil, Nat.reduceAdd, Nat.zero_add, List.range, List.range.loop]
              refine opsI_cons C rfl (by rfl) fun _ hR Kx hKx => ?_
              replace hF := at_rely hF hR
              clear hR
              go_simp
              try (unfold stored; go_simp)
              refine hKx _ _ ⟨?_, ?_⟩
              · co_quiet (T _)
              clear hKx Kx
              try walk_nrm
              refine opsI_nil C T ?_
              exact ⟨rfl, hF, _, (by rw [piece_a hok]), fill rfl⟩
            | true =>
              by_cases hz : p = ⟨#[0]⟩
              · have hz1 : decide (p = ⟨#[0]⟩) = true := decide_eq_true hz
                have hz2 : (p.toList == [0]) = true := by rw [ByteArray.toList_eq, hz]; rfl
                refine wpI_region C T ?_
                simp only [List.size_toArray, List.length_cons, List.length_nil, Nat.reduceAdd, Nat.zero_add, List.range, List.range.loop]
                refine opsI_cons C rfl (by rfl) fun _ hR Kx hKx => ?_
                replace hF := at_rely hF hR
                clear hR
                go_simp
                try (unfold stored; go_simp)
                refine hKx _ _ ⟨?_, ?_⟩
                · co_quiet (T _)
                clear hKx Kx
                try walk_nrm
                refine opsI_cons C rfl (by rfl) fun _ hR Kx hKx => ?_
                replace hF := at_rely hF hR
                clear hR
                go_simp
                try (unfold stored; go_simp)
                refine hKx _ _ ⟨?_, ?_⟩
                · co_quiet (T _)
                clear hKx Kx
                try walk_nrm
                refine opsI_cons C rfl (by rfl) fun _ hR Kx hKx => ?_
                replace hF := at_rely hF hR
                clear hR
                go_simp
                try (unfold stored; go_simp)
                refine hKx _ _ ⟨?_, ?_⟩
                · co_quiet (T _)
                clear hKx Kx
                try walk_nrm
                refine opsI_cons C rfl (by rfl) fun _ hR Kx hKx => ?_
                replace hF := at_rely hF hR
                clear hR
                go_simp
                try (unfold stored; go_simp)
                refine hKx _ _ ⟨?_, ?_⟩
                · co_quiet (T _)
                clear hKx Kx
                try walk_nrm
                try simp only [hz1, hz2]
                refine opsI_cons C rfl (by rfl) fun _ hR Kx hKx => ?_
                replace hF := at_rely hF hR
                clear hR
                go_simp
                try (unfold stored; go_simp)
                refine hKx _ _ ⟨?_, ?_⟩
                · co_quiet (T _)
                clear hKx Kx
                try walk_nrm
                try simp only [hz1, hz2]
                refine opsI_cons C rfl (by rfl) fun _ hR Kx hKx => ?_
                replace hF := at_rely hF hR
                clear hR
                go_simp
                try (unfold stored; go_simp)
                refine hKx _ _ ⟨?_, ?_⟩
                · co_quiet (T _)
                clear hKx Kx
                try walk_nrm
                refine opsI_cons C rfl (by rfl) fun _ hR Kx hKx => ?_
                replace hF := at_rely hF hR
                clear hR
                go_simp
                try (unfold stored; go_simp)
                refine hKx _ _ ⟨?_, ?_⟩
                · co_quiet (T _)
                clear hKx Kx
                try walk_nrm
                refine opsI_nil C T ?_
                show wpI _ _ _ _ _ _ _
                refine wpI_cond C T (t := true) rfl ?_
                simp only [if_true, if_false, reduceIte, Bool.false_eq_true]
                refine wpI_region C T ?_
                simp only [List.size_toArray, List.length_cons, List.length_nil, Nat.reduceAdd, Nat.zero_add, List.range, List.range.loop]
                refine opsI_cons C rfl (by rfl) fun _ hR Kx hKx => ?_
                replace hF := at_rely hF hR
                clear hR
                go_simp
                try (unfold stored; go_simp)
                refine hKx _ _ ⟨?_, ?_⟩
                · co_quiet (T _)
                clear hKx Kx
                try walk_nrm
                refine opsI_nil C T ?_
                exact ⟨rfl, hF, _, (by rw [piece_b (by rw [hn, ← hpl, hz])]), fill rfl⟩
              · have hz1 : decide (p = ⟨#[0]⟩) = false := decide_eq_false hz
                have hz2 : (p.toList == [0]) = false := by rw [ByteArray.toList_eq, beq_eq_false_iff_ne]; exact fun h => hz (ba_ext h)
                have hz3 : ¬ (c :: t).take (letU (c :: t)).1 = [0] := fun h => hz (ba_ext (by rw [hpl, ← hn, h]))
                refine wpI_region C T ?_
                simp only [List.size_toArray, List.length_cons, List.length_nil, Nat.reduceAdd, Nat.zero_add, List.range, List.range.loop]
                refine opsI_cons C rfl (by rfl) fun _ hR Kx hKx => ?_
                replace hF := at_rely hF hR
                clear hR
                go_simp
                try (unfold stored; go_simp)
                refine hKx _ _ ⟨?_, ?_⟩
                · co_quiet (T _)
                clear hKx Kx
                try walk_nrm
                refine opsI_cons C rfl (by rfl) fun _ hR Kx hKx => ?_
                replace hF := at_rely hF hR
                clear hR
                go_simp
                try (unfold stored; go_simp)
                refine hKx _ _ ⟨?_, ?_⟩
                · co_quiet (T _)
                clear hKx Kx
                try walk_nrm
                refine opsI_cons C rfl (by rfl) fun _ hR Kx hKx => ?_
                replace hF := at_rely hF hR
                clear hR
                go_simp
                try (unfold stored; go_simp)
                refine hKx _ _ ⟨?_, ?_⟩
                · co_quiet (T _)
                clear hKx Kx
                try walk_nrm
                refine opsI_cons C rfl (by rfl) fun _ hR Kx hKx => ?_
                replace hF := at_rely hF hR
                clear hR
                go_simp
                try (unfold stored; go_simp)
                refine hKx _ _ ⟨?_, ?_⟩
                · co_quiet (T _)
                clear hKx Kx
                try walk_nrm
                try simp only [hz1, hz2]
                refine opsI_cons C rfl (by rfl) fun _ hR Kx hKx => ?_
                replace hF := at_rely hF hR
                clear hR
                go_simp
                try (unfold stored; go_simp)
                refine hKx _ _ ⟨?_, ?_⟩
                · co_quiet (T _)
                clear hKx Kx
                try walk_nrm
                try simp only [hz1, hz2]
                refine opsI_cons C rfl (by rfl) fun _ hR Kx hKx => ?_
                replace hF := at_rely hF hR
                clear hR
                go_simp
                try (unfold stored; go_simp)
                refine hKx _ _ ⟨?_, ?_⟩
                · co_quiet (T _)
                clear hKx Kx
                try walk_nrm
                refine opsI_cons C rfl (by rfl) fun _ hR Kx hKx => ?_
                replace hF := at_rely hF hR
                clear hR
                go_simp
                try (unfold stored; go_simp)
                refine hKx _ _ ⟨?_, ?_⟩
                · co_quiet (T _)
                clear hKx Kx
                try walk_nrm
                refine opsI_nil C T ?_
                show wpI _ _ _ _ _ _ _
                refine wpI_cond C T (t := false) rfl ?_
                simp only [if_true, if_false, reduceIte, Bool.false_eq_true]
                refine wpI_seq C T ?_
                by_cases hy : p = ⟨#[13]⟩
                · have hy1 : decide (p = ⟨#[13]⟩) = true := decide_eq_true hy
                  have hy2 : (p.toList == [13]) = true := by rw [ByteArray.toList_eq, hy]; rfl
                  have hy3 : (c :: t).take (letU (c :: t)).1 = [13] := by rw [hn, ← hpl, hy]
                  by_cases hk1 : k + 1 < s2.size
                  · have hkc : decide ((k : Int) + 1 < (s2.size : Int)) = true := decide_eq_true (by omega)
                    have hcast : (k : Int) + 1 = ((k + 1 : Nat) : Int) := by omega
                    obtain ⟨d, hd0⟩ : ∃ d, s2[k + 1]'hk1 = d := ⟨_, rfl⟩
                    have ixr : ∀ w, (Instr.index 9 (.string s2) (.int .i64 ((k : Int) + 1))).run Tryz.prog w = .ok (.int .u8 (d.toNat : Int)) w := fun w => by rw [hcast, ← hd0]; exact ixr0 s2 _ hk1 w
                    have ixe : ∀ w es, (Instr.index 9 (.string s2) (.int .i64 ((k : Int) + 1))).events Tryz.prog w es = es := fun w es => by rw [hcast]; exact ixe0 s2 _ hk1 w es
                    have hh : t.head? = some d := by rw [ht, List.drop_eq_getElem_cons (by simpa using hk1)]; simp; exact hd0
                    clear hcast
                    refine wpI_region C T ?_
                    simp only [List.size_toArray, List.length_cons, List.length_nil, Nat.reduceAdd, Nat.zero_add, List.range, List.range.loop]
                    refine opsI_cons C rfl (by rfl) fun _ hR Kx hKx => ?_
                    replace hF := at_rely hF hR
                    clear hR
                    go_simp
                    try (unfold stored; go_simp)
                    refine hKx _ _ ⟨?_, ?_⟩
                    · co_quiet (T _)
                    clear hKx Kx
                    try walk_nrm
                    refine opsI_cons C rfl (by rfl) fun _ hR Kx hKx => ?_
                    replace hF := at_rely hF hR
                    clear hR
                    go_simp
                    try (unfold stored; go_simp)
                    refine hKx _ _ ⟨?_, ?_⟩
                    · co_quiet (T _)
                    clear hKx Kx
                    try walk_nrm
                    try simp only [hy1, hy2]
                    refine opsI_cons C rfl (by rfl) fun _ hR Kx hKx => ?_
                    replace hF := at_rely hF hR
                    clear hR
                    go_simp
                    try (unfold stored; go_simp)
                    refine hKx _ _ ⟨?_, ?_⟩
                    · co_quiet (T _)
                    clear hKx Kx
                    try walk_nrm
                    refine opsI_cons C rfl (by rfl) fun _ hR Kx hKx => ?_
                    replace hF := at_rely hF hR
                    clear hR
                    go_simp
                    try (unfold stored; go_simp)
                    refine hKx _ _ ⟨?_, ?_⟩
                    · co_quiet (T _)
                    clear hKx Kx
                    try walk_nrm
                    refine opsI_cons C rfl (by rfl) fun _ hR Kx hKx => ?_
                    replace hF := at_rely hF hR
                    clear hR
                    go_simp
                    try (unfold stored; go_simp)
                    refine hKx _ _ ⟨?_, ?_⟩
                    · co_quiet (T _)
                    clear hKx Kx
                    try walk_nrm
                    try simp only [hw2]
                    refine opsI_cons C rfl (by rfl) fun _ hR Kx hKx => ?_
                    replace hF := at_rely hF hR
                    clear hR
                    go_simp
                    try (unfold stored; go_simp)
                    refine hKx _ _ ⟨?_, ?_⟩
                    · co_quiet (T _)
                    clear hKx Kx
                    try walk_nrm
                    refine opsI_cons C rfl (by rfl) fun _ hR Kx hKx => ?_
                    replace hF := at_rely hF hR
                    clear hR
                    go_simp
                    try (unfold stored; go_simp)
                    refine hKx _ _ ⟨?_, ?_⟩
                    · co_still (T _)
                    clear hKx Kx
                    try walk_nrm
                    refine opsI_cons C rfl (by rfl) fun _ hR Kx hKx => ?_
                    replace hF := at_rely hF hR
                    clear hR
                    go_simp
                    try (unfold stored; go_simp)
                    refine hKx _ _ ⟨?_, ?_⟩
                    · co_quiet (T _)
                    clear hKx Kx
                    try walk_nrm
                    try simp only [hkc]
                    refine opsI_cons C rfl (by rfl) fun _ hR Kx hKx => ?_
                    replace hF := at_rely hF hR
                    clear hR
                    go_simp
                    try (unfold stored; go_simp)
                    refine hKx _ _ ⟨?_, ?_⟩
                    · co_quiet (T _)
                    clear hKx Kx
                    try walk_nrm
                    refine opsI_cons C rfl (by rfl) fun _ hR Kx hKx => ?_
                    replace hF := at_rely hF hR
                    clear hR
                    go_simp
                    try (unfold stored; go_simp)
                    refine hKx _ _ ⟨?_, ?_⟩
                    · co_quiet (T _)
                    clear hKx Kx
                    try walk_nrm
                    refine opsI_cons C rfl (by rfl) fun _ hR Kx hKx => ?_
                    replace hF := at_rely hF hR
                    clear hR
                    go_simp
                    try (unfold stored; go_simp)
                    refine hKx _ _ ⟨?_, ?_⟩
                    · co_quiet (T _)
                    clear hKx Kx
                    try walk_nrm
                    refine opsI_cons C rfl (by rfl) fun _ hR Kx hKx => ?_
                    replace hF := at_rely hF hR
                    clear hR
                    go_simp
                    try (unfold stored; go_simp)
                    refine hKx _ _ ⟨?_, ?_⟩
                    · co_quiet (T _)
                    clear hKx Kx
                    try walk_nrm
                    refine opsI_cons C rfl (by rfl) fun _ hR Kx hKx => ?_
                    replace hF := at_rely hF hR
                    clear hR
                    go_simp
                    try (unfold stored; go_simp)
                    refine hKx _ _ ⟨?_, ?_⟩
                    · co_quiet (T _)
                    clear hKx Kx
                    try walk_nrm
                    try simp only [hw2]
                    refine opsI_cons C rfl (by rfl) fun _ hR Kx hKx => ?_
                    replace hF := at_rely hF hR
                    clear hR
                    go_simp
                    try (unfold stored; go_simp)
                    refine hKx _ _ ⟨?_, ?_⟩
                    · co_still (T _)
                    clear hKx Kx
                    try walk_nrm
                    by_cases hd : d = 10
                    · have he : ((d.toNat : Int) == 10) = true := by rw [hd]; rfl
                      try simp only [he]
                      refine opsI_cons C rfl (by rfl) fun _ hR Kx hKx => ?_
                      replace hF := at_rely hF hR
                      clear hR
                      go_simp
                      try (unfold stored; go_simp)
                      refine hKx _ _ ⟨?_, ?_⟩
                      · co_quiet (T _)
                      clear hKx Kx
                      try walk_nrm
                      try simp only [he]
                      refine opsI_cons C rfl (by rfl) fun _ hR Kx hKx => ?_
                      replace hF := at_rely hF hR
                      clear hR
                      go_simp
                      try (unfold stored; go_simp)
                      refine hKx _ _ ⟨?_, ?_⟩
                      · co_quiet (T _)
                      clear hKx Kx
                      try walk_nrm
                      refine opsI_cons C rfl (by rfl) fun _ hR Kx hKx => ?_
                      replace hF := at_rely hF hR
                      clear hR
                      go_simp
                      try (unfold stored; go_simp)
                      refine hKx _ _ ⟨?_, ?_⟩
                      · co_quiet (T _)
                      clear hKx Kx
                      try walk_nrm
                      refine opsI_nil C T ?_
                      show wpI _ _ _ _ _ _ _
                      refine wpI_cond C T (t := true) rfl ?_
                      simp only [if_true, if_false, reduceIte, Bool.false_eq_true]
                      refine wpI_region C T ?_
                      simp only [List.size_toArray, List.length_cons, List.length_nil, Nat.reduceAdd, Nat.zero_add, List.range, List.range.loop]
                      refine opsI_cons C rfl (by rfl) fun _ hR Kx hKx => ?_
                      replace hF := at_rely hF hR
                      clear hR
                      go_simp
                      try (unfold stored; go_simp)
                      refine hKx _ _ ⟨?_, ?_⟩
                      · co_quiet (T _)
                      clear hKx Kx
                      try walk_nrm
                      refine opsI_nil C T ?_
                      exact ⟨rfl, hF, _, (by rw [piece_c hok hz3 hy3 (by rw [hh, hd])]), fill rfl⟩
                    · have he : ((d.toNat : Int) == 10) = false := by rw [Bool.eq_false_iff]; intro h; exact hd (byte_eq (by simpa using h))
                      try simp only [he]
                      refine opsI_cons C rfl (by rfl) fun _ hR Kx hKx => ?_
                      replace hF := at_rely hF hR
                      clear hR
                      go_simp
                      try (unfold stored; go_simp)
                      refine hKx _ _ ⟨?_, ?_⟩
                      · co_quiet (T _)
                      clear hKx Kx
                      try walk_nrm
                      try simp only [he]
                      refine opsI_cons C rfl (by rfl) fun _ hR Kx hKx => ?_
                      replace hF := at_rely hF hR
                      clear hR
                      go_simp
                      try (unfold stored; go_simp)
                      refine hKx _ _ ⟨?_, ?_⟩
                      · co_quiet (T _)
                      clear hKx Kx
                      try walk_nrm
                      refine opsI_cons C rfl (by rfl) fun _ hR Kx hKx => ?_
                      replace hF := at_rely hF hR
                      clear hR
                      go_simp
                      try (unfold stored; go_simp)
                      refine hKx _ _ ⟨?_, ?_⟩
                      · co_quiet (T _)
                      clear hKx Kx
                      try walk_nrm
                      refine opsI_nil C T ?_
                      show wpI _ _ _ _ _ _ _
                      refine wpI_cond C T (t := false) rfl ?_
                      simp only [if_true, if_false, reduceIte, Bool.false_eq_true]
                      refine wpI_seq C T ?_
                      refine wpI_region C T ?_
                      simp only [List.size_toArray, List.length_cons, List.length_nil, Nat.reduceAdd, Nat.zero_add, List.range, List.range.loop]
                      refine opsI_cons C rfl (by rfl) fun _ hR Kx hKx => ?_
                      replace hF := at_rely hF hR
                      clear hR
                      go_simp
                      try (unfold stored; go_simp)
                      refine hKx _ _ ⟨?_, ?_⟩
                      · co_quiet (T _)
                      clear hKx Kx
                      try walk_nrm
                      refine opsI_cons C rfl (by rfl) fun _ hR Kx hKx => ?_
                      replace hF := at_rely hF hR
                      clear hR
                      go_simp
                      try (unfold stored; go_simp)
                      refine hKx _ _ ⟨?_, ?_⟩
                      · co_quiet (T _)
                      clear hKx Kx
                      try walk_nrm
                      try simp only [hy1, hy2]
                      refine opsI_cons C rfl (by rfl) fun _ hR Kx hKx => ?_
                      replace hF := at_rely hF hR
                      clear hR
                      go_simp
                      try (unfold stored; go_simp)
                      refine hKx _ _ ⟨?_, ?_⟩
                      · co_quiet (T _)
                      clear hKx Kx
                      try walk_nrm
                      refine opsI_nil C T ?_
                      show wpI _ _ _ _ _ _ _
                      refine wpI_cond C T (t := true) rfl ?_
                      simp only [if_true, if_false, reduceIte, Bool.false_eq_true]
                      refine wpI_region C T ?_
                      simp only [List.size_toArray, List.length_cons, List.length_nil, Nat.reduceAdd, Nat.zero_add, List.range, List.range.loop]
                      refine opsI_cons C rfl (by rfl) fun _ hR Kx hKx => ?_
                      replace hF := at_rely hF hR
                      clear hR
                      go_simp
                      try (unfold stored; go_simp)
                      refine hKx _ _ ⟨?_, ?_⟩
                      · co_quiet (T _)
                      clear hKx Kx
                      try walk_nrm
                      refine opsI_nil C T ?_
                      exact ⟨rfl, hF, _, (by rw [piece_d hok hz3 hy3 (fun h => hd (by rw [hh] at h; exact Option.some.inj h))]), fill rfl⟩
                  · have hkc : decide ((k : Int) + 1 < (s2.size : Int)) = false := decide_eq_false (by omega)
                    have hh : ¬ t.head? = some 10 := by rw [ht, List.drop_eq_nil_of_le (by have : s2.size = s2.data.size := rfl; simp; omega)]; simp
                    refine wpI_region C T ?_
                    simp only [List.size_toArray, List.length_cons, List.length_nil, Nat.reduceAdd, Nat.zero_add, List.range, List.range.loop]
                    refine opsI_cons C rfl (by rfl) fun _ hR Kx hKx => ?_
                    replace hF := at_rely hF hR
                    clear hR
                    go_simp
                    try (unfold stored; go_simp)
                    refine hKx _ _ ⟨?_, ?_⟩
                    · co_quiet (T _)
                    clear hKx Kx
                    try walk_nrm
                    refine opsI_cons C rfl (by rfl) fun _ hR Kx hKx => ?_
                    replace hF := at_rely hF hR
                    clear hR
                    go_simp
                    try (unfold stored; go_simp)
                    refine hKx _ _ ⟨?_, ?_⟩
                    · co_quiet (T _)
                    clear hKx Kx
                    try walk_nrm
                    try simp only [hy1, hy2]
                    refine opsI_cons C rfl (by rfl) fun _ hR Kx hKx => ?_
                    replace hF := at_rely hF hR
                    clear hR
                    go_simp
                    try (unfold stored; go_simp)
                    refine hKx _ _ ⟨?_, ?_⟩
                    · co_quiet (T _)
                    clear hKx Kx
                    try walk_nrm
                    refine opsI_cons C rfl (by rfl) fun _ hR Kx hKx => ?_
                    replace hF := at_rely hF hR
                    clear hR
                    go_simp
                    try (unfold stored; go_simp)
                    refine hKx _ _ ⟨?_, ?_⟩
                    · co_quiet (T _)
                    clear hKx Kx
                    try walk_nrm
                    refine opsI_cons C rfl (by rfl) fun _ hR Kx hKx => ?_
                    replace hF := at_rely hF hR
                    clear hR
                    go_simp
                    try (unfold stored; go_simp)
                    refine hKx _ _ ⟨?_, ?_⟩
                    · co_quiet (T _)
                    clear hKx Kx
                    try walk_nrm
                    try simp only [hw2]
                    refine opsI_cons C rfl (by rfl) fun _ hR Kx hKx => ?_
                    replace hF := at_rely hF hR
                    clear hR
                    go_simp
                    try (unfold stored; go_simp)
                    refine hKx _ _ ⟨?_, ?_⟩
                    · co_quiet (T _)
                    clear hKx Kx
                    try walk_nrm
                    refine opsI_cons C rfl (by rfl) fun _ hR Kx hKx => ?_
                    replace hF := at_rely hF hR
                    clear hR
                    go_simp
                    try (unfold stored; go_simp)
                    refine hKx _ _ ⟨?_, ?_⟩
                    · co_still (T _)
                    clear hKx Kx
                    try walk_nrm
                    refine opsI_cons C rfl (by rfl) fun _ hR Kx hKx => ?_
                    replace hF := at_rely hF hR
                    clear hR
                    go_simp
                    try (unfold stored; go_simp)
                    refine hKx _ _ ⟨?_, ?_⟩
                    · co_quiet (T _)
                    clear hKx Kx
                    try walk_nrm
                    try simp only [hkc]
                    refine opsI_cons C rfl (by rfl) fun _ hR Kx hKx => ?_
                    replace hF := at_rely hF hR
                    clear hR
                    go_simp
                    try (unfold stored; go_simp)
                    refine hKx _ _ ⟨?_, ?_⟩
                    · co_quiet (T _)
                    clear hKx Kx
                    try walk_nrm
                    refine opsI_cons C rfl (by rfl) fun _ hR Kx hKx => ?_
                    replace hF := at_rely hF hR
                    clear hR
                    go_simp
                    try (unfold stored; go_simp)
                    refine hKx _ _ ⟨?_, ?_⟩
                    · co_quiet (T _)
                    clear hKx Kx
                    try walk_nrm
                    refine opsI_unwanted C T rfl (by rfl) ?_
                    try walk_nrm
                    refine opsI_unwanted C T rfl (by rfl) ?_
                    try walk_nrm
                    refine opsI_unwanted C T rfl (by rfl) ?_
                    try walk_nrm
                    refine opsI_unwanted C T rfl (by rfl) ?_
                    try walk_nrm
                    refine opsI_unwanted C T rfl (by rfl) ?_
                    try walk_nrm
                    refine opsI_cons C rfl (by rfl) fun _ hR Kx hKx => ?_
                    replace hF := at_rely hF hR
                    clear hR
                    go_simp
                    try (unfold stored; go_simp)
                    refine hKx _ _ ⟨?_, ?_⟩
                    · co_quiet (T _)
                    clear hKx Kx
                    try walk_nrm
                    refine opsI_cons C rfl (by rfl) fun _ hR Kx hKx => ?_
                    replace hF := at_rely hF hR
                    clear hR
                    go_simp
                    try (unfold stored; go_simp)
                    refine hKx _ _ ⟨?_, ?_⟩
                    · co_quiet (T _)
                    clear hKx Kx
                    try walk_nrm
                    refine opsI_nil C T ?_
                    show wpI _ _ _ _ _ _ _
                    refine wpI_cond C T (t := false) rfl ?_
                    simp only [if_true, if_false, reduceIte, Bool.false_eq_true]
                    refine wpI_seq C T ?_
                    refine wpI_region C T ?_
                    simp only [List.size_toArray, List.length_cons, List.length_nil, Nat.reduceAdd, Nat.zero_add, List.range, List.range.loop]
                    refine opsI_cons C rfl (by rfl) fun _ hR Kx hKx => ?_
                    replace hF := at_rely hF hR
                    clear hR
                    go_simp
                    try (unfold stored; go_simp)
                    refine hKx _ _ ⟨?_, ?_⟩
                    · co_quiet (T _)
                    clear hKx Kx
                    try walk_nrm
                    refine opsI_cons C rfl (by rfl) fun _ hR Kx hKx => ?_
                    replace hF := at_rely hF hR
                    clear hR
                    go_simp
                    try (unfold stored; go_simp)
                    refine hKx _ _ ⟨?_, ?_⟩
                    · co_quiet (T _)
                    clear hKx Kx
                    try walk_nrm
                    try simp only [hy1, hy2]
                    refine opsI_cons C rfl (by rfl) fun _ hR Kx hKx => ?_
                    replace hF := at_rely hF hR
                    clear hR
                    go_simp
                    try (unfold stored; go_simp)
                    refine hKx _ _ ⟨?_, ?_⟩
                    · co_quiet (T _)
                    clear hKx Kx
                    try walk_nrm
                    refine opsI_nil C T ?_
                    show wpI _ _ _ _ _ _ _
                    refine wpI_cond C T (t := true) rfl ?_
                    simp only [if_true, if_false, reduceIte, Bool.false_eq_true]
                    refine wpI_region C T ?_
                    simp only [List.size_toArray, List.length_cons, List.length_nil, Nat.reduceAdd, Nat.zero_add, List.range, List.range.loop]
                    refine opsI_cons C rfl (by rfl) fun _ hR Kx hKx => ?_
                    replace hF := at_rely hF hR
                    clear hR
                    go_simp
                    try (unfold stored; go_simp)
                    refine hKx _ _ ⟨?_, ?_⟩
                    · co_quiet (T _)
                    clear hKx Kx
                    try walk_nrm
                    refine opsI_nil C T ?_
                    exact ⟨rfl, hF, _, (by rw [piece_d hok hz3 hy3 hh]), fill rfl⟩
                · have hy1 : decide (p = ⟨#[13]⟩) = false := decide_eq_false hy
                  have hy2 : (p.toList == [13]) = false := by rw [ByteArray.toList_eq, beq_eq_false_iff_ne]; exact fun h => hy (ba_ext h)
                  have hy3 : ¬ (c :: t).take (letU (c :: t)).1 = [13] := fun h => hy (ba_ext (by rw [hpl, ← hn, h]))
                  refine wpI_region C T ?_
                  simp only [List.size_toArray, List.length_cons, List.length_nil, Nat.reduceAdd, Nat.zero_add, List.range, List.range.loop]
                  refine opsI_cons C rfl (by rfl) fun _ hR Kx hKx => ?_
                  replace hF := at_rely hF hR
                  clear hR
                  go_simp
                  try (unfold stored; go_simp)
                  refine hKx _ _ ⟨?_, ?_⟩
                  · co_quiet (T _)
                  clear hKx Kx
                  try walk_nrm
                  refine opsI_cons C rfl (by rfl) fun _ hR Kx hKx => ?_
                  replace hF := at_rely hF hR
                  clear hR
                  go_simp
                  try (unfold stored; go_simp)
                  refine hKx _ _ ⟨?_, ?_⟩
                  · co_quiet (T _)
                  clear hKx Kx
                  try walk_nrm
                  try simp only [hy1, hy2]
                  refine opsI_cons C rfl (by rfl) fun _ hR Kx hKx => ?_
                  replace hF := at_rely hF hR
                  clear hR
                  go_simp
                  try (unfold stored; go_simp)
                  refine hKx _ _ ⟨?_, ?_⟩
                  · co_quiet (T _)
                  clear hKx Kx
                  try walk_nrm
                  refine opsI_unwanted C T rfl (by rfl) ?_
                  try walk_nrm
                  refine opsI_unwanted C T rfl (by rfl) ?_
                  try walk_nrm
                  refine opsI_unwanted C T rfl (by rfl) ?_
                  try walk_nrm
                  refine opsI_unwanted C T rfl (by rfl) ?_
                  try walk_nrm
                  refine opsI_unwanted C T rfl (by rfl) ?_
                  try walk_nrm
                  refine opsI_cons C rfl (by rfl) fun _ hR Kx hKx => ?_
                  replace hF := at_rely hF hR
                  clear hR
                  go_simp
                  try (unfold stored; go_simp)
                  refine hKx _ _ ⟨?_, ?_⟩
                  · co_quiet (T _)
                  clear hKx Kx
                  try walk_nrm
                  refine opsI_cons C rfl (by rfl) fun _ hR Kx hKx => ?_
                  replace hF := at_rely hF hR
                  clear hR
                  go_simp
                  try (unfold stored; go_simp)
                  refine hKx _ _ ⟨?_, ?_⟩
                  · co_quiet (T _)
                  clear hKx Kx
                  try walk_nrm
                  refine opsI_unwanted C T rfl (by rfl) ?_
                  try walk_nrm
                  refine opsI_unwanted C T rfl (by rfl) ?_
                  try walk_nrm
                  refine opsI_unwanted C T rfl (by rfl) ?_
                  try walk_nrm
                  refine opsI_unwanted C T rfl (by rfl) ?_
                  try walk_nrm
                  refine opsI_unwanted C T rfl (by rfl) ?_
                  try walk_nrm
                  refine opsI_cons C rfl (by rfl) fun _ hR Kx hKx => ?_
                  replace hF := at_rely hF hR
                  clear hR
                  go_simp
                  try (unfold stored; go_simp)
                  refine hKx _ _ ⟨?_, ?_⟩
                  · co_quiet (T _)
                  clear hKx Kx
                  try walk_nrm
                  refine opsI_cons C rfl (by rfl) fun _ hR Kx hKx => ?_
                  replace hF := at_rely hF hR
                  clear hR
                  go_simp
                  try (unfold stored; go_simp)
                  refine hKx _ _ ⟨?_, ?_⟩
                  · co_quiet (T _)
                  clear hKx Kx
                  try walk_nrm
                  refine opsI_nil C T ?_
                  show wpI _ _ _ _ _ _ _
                  refine wpI_cond C T (t := false) rfl ?_
                  simp only [if_true, if_false, reduceIte, Bool.false_eq_true]
                  refine wpI_seq C T ?_
                  refine wpI_region C T ?_
                  simp only [List.size_toArray, List.length_cons, List.length_nil, Nat.reduceAdd, Nat.zero_add, List.range, List.range.loop]
                  refine opsI_cons C rfl (by rfl) fun _ hR Kx hKx => ?_
                  replace hF := at_rely hF hR
                  clear hR
                  go_simp
                  try (unfold stored; go_simp)
                  refine hKx _ _ ⟨?_, ?_⟩
                  · co_quiet (T _)
                  clear hKx Kx
                  try walk_nrm
                  refine opsI_cons C rfl (by rfl) fun _ hR Kx hKx => ?_
                  replace hF := at_rely hF hR
                  clear hR
                  go_simp
                  try (unfold stored; go_simp)
                  refine hKx _ _ ⟨?_, ?_⟩
                  · co_quiet (T _)
                  clear hKx Kx
                  try walk_nrm
                  try simp only [hy1, hy2]
                  refine opsI_cons C rfl (by rfl) fun _ hR Kx hKx => ?_
                  replace hF := at_rely hF hR
                  clear hR
                  go_simp
                  try (unfold stored; go_simp)
                  refine hKx _ _ ⟨?_, ?_⟩
                  · co_quiet (T _)
                  clear hKx Kx
                  try walk_nrm
                  refine opsI_nil C T ?_
                  show wpI _ _ _ _ _ _ _
                  refine wpI_cond C T (t := false) rfl ?_
                  simp only [if_true, if_false, reduceIte, Bool.false_eq_true]
                  refine wpI_skip C T ?_
                  exact ⟨rfl, hF, _, (by rw [piece_e hok hz3 hy3, hn, hpl]), fill rfl⟩
          · intro i e a w' hq
            cases e with
            | normal =>
              obtain ⟨hiS, hF, q, hq, x, rfl⟩ := hq
              rw [hiS]
              show wpI _ _ _ _ _ _ _
              have hlz : (s2.data.toList).length = s2.size := by simp
              have hroom : out.size + q.size ≤ 60000 := Nat.le_trans (ref_room hdk hI hq) (by omega)
              have hadr := add_run out q hroom
              have hade := add_events out q
              clear hroom
              refine wpI_seq C T ?_
              refine wpI_region C T ?_
              simp only [List.size_toArray, List.length_cons, List.length_nil, Nat.reduceAdd, Nat.zero_add, List.range, List.range.loop]
              refine opsI_cons C rfl (by rfl) fun _ hR Kx hKx => ?_
              replace hF := at_rely hF hR
              clear hR
              go_simp
              try (unfold stored; go_simp)
              refine hKx _ _ ⟨?_, ?_⟩
              · co_quiet (T _)
              clear hKx Kx
              try walk_nrm
              refine opsI_cons C rfl (by rfl) fun _ hR Kx hKx => ?_
              replace hF := at_rely hF hR
              clear hR
              go_simp
              try (unfold stored; go_simp)
              refine hKx _ _ ⟨?_, ?_⟩
              · co_quiet (T _)
              clear hKx Kx
              try walk_nrm
              refine opsI_cons C rfl (by rfl) fun _ hR Kx hKx => ?_
              replace hF := at_rely hF hR
              clear hR
              go_simp
              try (unfold stored; go_simp)
              refine hKx _ _ ⟨?_, ?_⟩
              · co_still (T _)
              clear hKx Kx
              try walk_nrm
              refine opsI_cons C rfl (by rfl) fun _ hR Kx hKx => ?_
              replace hF := at_rely hF hR
              clear hR
              go_simp
              try (unfold stored; go_simp)
              refine hKx _ _ ⟨?_, ?_⟩
              · co_quiet (T _)
              clear hKx Kx
              try walk_nrm
              refine opsI_nil C T ?_
              show wpI _ _ _ _ _ _ _
              refine wpI_region C T ?_
              simp only [List.size_toArray, List.length_cons, List.length_nil, Nat.reduceAdd, Nat.zero_add, List.range, List.range.loop]
              refine opsI_cons C rfl (by rfl) fun _ hR Kx hKx => ?_
              replace hF := at_rely hF hR
              clear hR
              go_simp
              try (unfold stored; go_simp)
              refine hKx _ _ ⟨?_, ?_⟩
              · co_quiet (T _)
              clear hKx Kx
              try walk_nrm
              refine opsI_cons C rfl (by rfl) fun _ hR Kx hKx => ?_
              replace hF := at_rely hF hR
              clear hR
              go_simp
              try (unfold stored; go_simp)
              refine hKx _ _ ⟨?_, ?_⟩
              · co_quiet (T _)
              clear hKx Kx
              try walk_nrm
              refine opsI_cons C rfl (by rfl) fun _ hR Kx hKx => ?_
              replace hF := at_rely hF hR
              clear hR
              go_simp
              try (unfold stored; go_simp)
              refine hKx _ _ ⟨?_, ?_⟩
              · co_quiet (T _)
              clear hKx Kx
              try walk_nrm
              try simp only [hw1]
              refine opsI_cons C rfl (by rfl) fun _ hR Kx hKx => ?_
              replace hF := at_rely hF hR
              clear hR
              go_simp
              try (unfold stored; go_simp)
              refine hKx _ _ ⟨?_, ?_⟩
              · co_quiet (T _)
              clear hKx Kx
              try walk_nrm
              refine opsI_nil C T ?_
              refine ⟨m, by omega, rfl, hF, k + n, _, hkn, by omega, ref_next hdk hn hI hq, fill rfl⟩
            | _ => exact hq.elim
        · have hkb : decide ((k : Int) < (s2.size : Int)) = false := decide_eq_false (by omega)
          have hkb2 : decide (k < s2.size) = false := decide_eq_false hk
          try simp only [hkb, hkb2]
          refine wpI_cond C T (t := false) rfl ?_
          simp only [if_true, if_false, reduceIte, Bool.false_eq_true]
          refine wpI_exit C T ?_
          simp only [inBlockI, thenI, if_true]
          refine wpI_seq C T ?_
          refine wpI_region C T ?_
          simp only [List.size_toArray, List.length_cons, List.length_nil, Nat.reduceAdd, Nat.zero_add, List.range, List.range.loop]
          refine opsI_cons C rfl (by rfl) fun _ hR Kx hKx => ?_
          replace hF := at_rely hF hR
          clear hR
          go_simp
          try (unfold stored; go_simp)
          refine hKx _ _ ⟨?_, ?_⟩
          · co_quiet (T _)
          clear hKx Kx
          try walk_nrm
          refine opsI_cons C rfl (by rfl) fun _ hR Kx hKx => ?_
          replace hF := at_rely hF hR
          clear hR
          go_simp
          try (unfold stored; go_simp)
          refine hKx _ _ ⟨?_, ?_⟩
          · co_quiet (T _)
          clear hKx Kx
          try walk_nrm
          refine opsI_cons C rfl (by rfl) fun _ hR Kx hKx => ?_
          replace hF := at_rely hF hR
          clear hR
          go_simp
          try (unfold stored; go_simp)
          refine hKx _ _ ⟨?_, ?_⟩
          · co_quiet (T _)
          clear hKx Kx
          try walk_nrm
          refine opsI_nil C T ?_
          show wpI _ _ _ _ _ _ _
          have hdn : s2.data.toList.drop k = [] := List.drop_eq_nil_of_le (by have : s2.size = s2.data.size := rfl; simp; omega)
          have hgn : refGo m [] = [] := by cases m <;> rfl
          rw [hdn, hgn, List.append_nil] at hI
          refine wpI_ret C T ?_
          refine ⟨.inr rfl, rfl, _, resultsC_tmp2 (by rfl) _, rfl, hF, .inr ⟨by omega, ?_⟩⟩
          rw [hR, ← hI]
          rfl
      | _ => exact hq.elim
end
end Go.Proofs.YtgcaionclkbehaaGreatDoor
