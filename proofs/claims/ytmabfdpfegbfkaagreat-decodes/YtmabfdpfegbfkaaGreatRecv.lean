/-
  Goroutine 0 beside the child: letters.receive.
-/
import Derived.Test.YtmabfdpfegbfkaaGreatWrite2
set_option linter.all false
set_option linter.unusedSectionVars false
set_option linter.unusedSimpArgs false
namespace Go.Proofs.YtmabfdpfegbfkaaGreat
open Go.Conc Go.RowKit
section
variable {N Pb Bb : Nat} {Shun : Loc → Prop} {val : Value} {B Low : Nat} {Mine : Loc → Prop} {w₀ w w₁ : World} {AnchW : Goroutine → World → Prop} {p u v : Value} {n : Nat} {xs : List Value}
variable [Go.ConcR.Payload] [Go.ConcX.Payload]
variable [Go.ConcX.Shy (Cfg.Wg (kcfg Tryz.prog N Pb Shun val B Low Mine)) (Cfg.C (kcfg Tryz.prog N Pb Shun val B Low Mine))]
variable {vs : List Value} {r : Int}
/-- What goroutine 0 holds ahead of the first letter. -/
structure HM0 (w₀ : World) (N Pb Bb : Nat) (w : World) : Prop where
  bd : w.heap[Bb]? = some (.cells #[.pointer none, .slice none 0 0] 69)
  lo : Bb < N
  np : Bb ≠ Pb
  plo : Pb < N
  old : Kept w₀ N Bb w
/-- .. ahead of a letter. -/
def HR (w₀ : World) (N Pb Bb : Nat) (p v : Value) (n : Nat) (xs : List Value) (i : Ph) (w : World) : Prop :=
  (∃ vs, i = .front vs ∧ HM0 w₀ N Pb Bb w ∧ p = .pointer none ∧ v = .slice none 0 0 ∧ n = 0 ∧ xs = []) ∨ (∃ vs, i = .walk vs ∧ HM w₀ N Pb Bb p v v n xs w)
theorem HR.rely {i : Ph} (h : HR w₀ N Pb Bb p v n xs i w) (r : RMd (kcfg Tryz.prog N Pb Shun val B Low Mine) i w w₁) : HR w₀ N Pb Bb p v n xs i w₁ := by
  rcases h with ⟨vs, rfl, h, e⟩ | ⟨vs, rfl, h⟩
  · have r' : RM (kcfg Tryz.prog N Pb Shun val B Low Mine) w w₁ := r
    refine .inl ⟨vs, rfl, ⟨?_, h.lo, h.np, h.plo, ⟨r'.tape.trans h.old.tape, r'.os.trans h.old.os, r'.output.trans h.old.output, fun b h1 h2 => (r'.block b (by show ¬ (b = N ∨ b = N + 8 ∨ b = N + 9); omega) (by show ¬ (b = N + 1 ∨ b = N + 3 ∨ b = N + 5); omega)).trans (h.old.block b h1 h2)⟩⟩, e⟩
    obtain ⟨a, _, c⟩ := off_classes (Shun := Shun) (val := val) (B := B) (Low := Low) (Mine := Mine) h.lo h.np h.plo (.inl (rfl : Bb = Bb))
    exact (r'.block _ a c).trans h.bd
  · exact .inr ⟨vs, rfl, h.rely (i := .join) r⟩
theorem HR.hm {i : Ph} (h : HR w₀ N Pb Bb p v n xs i w) (r : RM (kcfg Tryz.prog N Pb Shun val B Low Mine) w w₁) (hs : N + 10 ≤ w₁.heap.size) : HM w₀ N Pb Bb p v v n xs w₁ := by
  rcases h with ⟨vs, rfl, h, rfl, rfl, rfl, rfl⟩ | ⟨vs, rfl, h⟩
  · obtain ⟨a, _, c⟩ := off_classes (Shun := Shun) (val := val) (B := B) (Low := Low) (Mine := Mine) h.lo h.np h.plo (.inl (rfl : Bb = Bb))
    exact ⟨(r.block _ a c).trans h.bd, World.ownsRow_nil _ _ _ _, h.lo, h.np, h.plo, hs, ⟨r.tape.trans h.old.tape, r.os.trans h.old.os, r.output.trans h.old.output, fun b h1 h2 => (r.block b (by show ¬ (b = N ∨ b = N + 8 ∨ b = N + 9); omega) (by show ¬ (b = N + 1 ∨ b = N + 3 ∨ b = N + 5); omega)).trans (h.old.block b h1 h2)⟩, fun _ => rfl⟩
  · exact h.rely (i := .join) (vs := vs) (show RMd (kcfg Tryz.prog N Pb Shun val B Low Mine) (.walk vs) w w₁ from r)
/-- .. behind the last letter. -/
structure HQ (w₀ : World) (N Pb Bb : Nat) (K : Cfg) [Go.ConcX.Payload] [Go.ConcX.Shy K.Wg K.C] (p v : Value) (n : Nat) (xs : List Value) (w : World) : Prop where
  hm : HM w₀ N Pb Bb p v v n xs w
  ka : KPak K w
theorem HQ.rely (h : HQ w₀ N Pb Bb (kcfg Tryz.prog N Pb Shun val B Low Mine) p v n xs w) (r : RMd (kcfg Tryz.prog N Pb Shun val B Low Mine) .join w w₁) : HQ w₀ N Pb Bb (kcfg Tryz.prog N Pb Shun val B Low Mine) p v n xs w₁ := by
  have r' : RPak (kcfg Tryz.prog N Pb Shun val B Low Mine) w w₁ := r
  have hb : ∀ b, b = Bb ∨ N + 10 ≤ b → w₁.heap[b]? = w.heap[b]? := fun b hb => r'.aside.block b (by show b ≠ N; have := h.hm.lo; omega) (by show b ≠ N + 5; have := h.hm.lo; omega)
  refine ⟨⟨(hb _ (.inl rfl)).trans h.hm.bd, ⟨h.hm.row.1, ?_⟩, h.hm.lo, h.hm.np, h.hm.plo, by rw [r'.aside.size]; exact h.hm.size, ⟨r'.aside.tape.trans h.hm.old.tape, r'.aside.os.trans h.hm.old.os, r'.aside.output.trans h.hm.old.output, fun b h1 h2 => (r'.aside.block b (by show b ≠ N; omega) (by show b ≠ N + 5; omega)).trans (h.hm.old.block b h1 h2)⟩, h.hm.nil⟩, r'.ka h.ka⟩
  rcases h.hm.row.2 with z | ⟨g, cap, cur, h1, h2, h3, h4⟩
  · exact .inl z
  · exact .inr ⟨g, cap, cur, h1, h2, (hb g (.inr h2)).trans h3, h4⟩
/-- The bytes of letters. -/
def cellsOf (l : List Int) : List Value := l.flatMap Lib.runeCells
set_option maxRecDepth 100000 in
set_option maxHeartbeats 2000000 in
theorem receive_x (hS : Clear N Bb Shun) (l : List Int) (hF : HM0 w₀ N Pb Bb w) (hg : ∀ r ∈ l, Good r) (hn : 4 * l.length ≤ 1000000) :
    CallsI Tryz.prog (XM (kcfg Tryz.prog N Pb Shun val B Low Mine) AnchW) 51 #[.chan (some (N + 1)), .chan (some (N + 3)), .func (.func 19) #[] #[.pointer (some ⟨Bb, 0, none⟩)]] (.front (V l)) w (fun i' x w' => i' = .join ∧ x = .tuple #[] ∧ ∃ p v, HQ w₀ N Pb Bb (kcfg Tryz.prog N Pb Shun val B Low Mine) p v (cellsOf l).length (cellsOf l) w') := by
  have C : ClosedI Tryz.prog true (RMd (kcfg Tryz.prog N Pb Shun val B Low Mine)) (DMd (kcfg Tryz.prog N Pb Shun val B Low Mine)) (XM (kcfg Tryz.prog N Pb Shun val B Low Mine) AnchW) := XM.closed (K := (kcfg Tryz.prog N Pb Shun val B Low Mine))
  have T := termsM (K := (kcfg Tryz.prog N Pb Shun val B Low Mine))
  have Tq : Terms (RM (kcfg Tryz.prog N Pb Shun val B Low Mine)) (DM (kcfg Tryz.prog N Pb Shun val B Low Mine)) := T (.walk [])
  have evp : ∀ (w : World) (es : Array Event) (a : Addr) (m : Mode) (x : Option Addr), (store a (.pointer x) m).events Tryz.prog w es = storedEv Tryz.prog w es a (.pointer x) m := fun w es a m x => events_store Tryz.prog w es a _ m rfl
  have evl : ∀ (w : World) (es : Array Event) (a : Addr) (m : Mode) (x : Option Addr) (l c : Nat), (store a (.slice x l c) m).events Tryz.prog w es = storedEv Tryz.prog w es a (.slice x l c) m := fun w es a m x l c => events_store Tryz.prog w es a _ m rfl
  have hsel : ∀ (a : Act) (o : Oper) w, o.op = .select #[{ chan := .tmp 7, send := none, elem := 21 }, { chan := .tmp 8, send := none, elem := 105 }] true → a.eval (.tmp 7) = .chan (some (N + 1)) → a.eval (.tmp 8) = .chan (some (N + 3)) → (execOp a.eval o).run Tryz.prog w = .ok (.comm (Cfg.cases (kcfg Tryz.prog N Pb Shun val B Low Mine)) true .select) w ∧ (execOp a.eval o).events Tryz.prog w #[] = #[] := by
    intro a o w ho h7 h8
    simp only [Act.eval, Array.getD_eq_getD_getElem?] at h7 h8
    constructor
    · unfold execOp
      simp [ho, h7, h8, Cfg.cases, kcfg, rcase, Tryz.zeroValue21, Tryz.zeroValue105, go_sem]
    · unfold execOp
      simp [ho, h7, h8, Tryz.zeroValue21, Tryz.zeroValue105, go_sem]
  have hcr0 : ∀ r, commResult (Cfg.cases (kcfg Tryz.prog N Pb Shun val B Low Mine)) .select 0 (.int .i32 r) true = .tuple #[.int .i64 0, .bool true, .int .i32 r, .agg #[]] := fun r => by simp [commResult, Cfg.cases, kcfg, rcase, goInt]
  have hcr1 : commResult (Cfg.cases (kcfg Tryz.prog N Pb Shun val B Low Mine)) .select 1 (Cfg.zE (kcfg Tryz.prog N Pb Shun val B Low Mine)) false = .tuple #[.int .i64 1, .bool false, .int .i32 0, .agg #[]] := by simp [commResult, Cfg.cases, kcfg, rcase, goInt]
  refine callsI_of Tryz.func51 (by rfl) rfl ?_
  simp only [Tryz.ntmps51, List.size_toArray, List.length_cons, List.length_nil, Nat.reduceAdd, Nat.reduceSub, Array.replicate_succ, Array.replicate_zero, List.push_toArray, List.append_toArray, List.nil_append, List.cons_append]
  refine wpI_block C T ?_
  refine wpI_loop C T (fun m i a w => ∃ p v n xs l', m = l'.length ∧ (i = .front (V l') ∨ i = .walk (V l')) ∧ HR w₀ N Pb Bb p v n xs i w ∧ (p = .pointer none ∨ p = .pointer (some ⟨Bb, 0, none⟩)) ∧ (∀ r ∈ l', Good r) ∧ n + 4 * l'.length ≤ 1000000 ∧ xs ++ cellsOf l' = cellsOf l ∧ n = xs.length ∧ ∃ x6 x7 x8 x9 x10 x11 x12 x13 x14 x15 x16, a = ⟨#[.chan (some (N + 1)), .chan (some (N + 3)), .func (.func 19) #[] #[.pointer (some ⟨Bb, 0, none⟩)], undef, undef, undef, x6, x7, x8, x9, x10, x11, x12, x13, x14, x15, x16], []⟩) l.length ⟨_, _, 0, [], l, rfl, .inl rfl, .inl ⟨_, rfl, hF, rfl, rfl, rfl, rfl⟩, .inl rfl, hg, by omega, rfl, rfl, _, _, _, _, _, _, _, _, _, _, _, rfl⟩ ?_
  clear hF hg hn
  rintro m i a w ⟨p, v, n, xs, l', rfl, hi, hF, hp, hg, hn, hx, hnx, x6, x7, x8, x9, x10, x11, x12, x13, x14, x15, x16, rfl⟩
  refine wpI_block C T ?_
  refine wpI_seq C T ?_
  refine wpI_seq C T ?_
  refine wpI_region C T ?_
  simp only [List.size_toArray, List.length_cons, List.length_nil, Nat.reduceAdd, Nat.zero_add, List.range, List.range.loop]
  refine opsI_cons C rfl (by rfl) fun _ hR Kx hKx => ?_
  replace hF := HR.rely hF hR
  clear hR
  go_simp
  try (unfold stored; go_simp)
  refine hKx _ _ ⟨?_, ?_⟩
  · co_quiet (T _)
  clear hKx Kx
  try walk_nrm
  refine opsI_nil C T ?_
  show wpI _ _ _ _ _ _ _
  refine wpI_region C T ?_
  simp only [List.size_toArray, List.length_cons, List.length_nil, Nat.reduceAdd, Nat.zero_add, List.range, List.range.loop]
  refine opsI_cons C rfl (by rfl) fun _ hR Kx hKx => ?_
  replace hF := HR.rely hF hR
  clear hR
  go_simp
  try (unfold stored; go_simp)
  refine hKx _ _ ⟨?_, ?_⟩
  · co_quiet (T _)
  clear hKx Kx
  try walk_nrm
  refine opsI_nil C T ?_
  show wpI _ _ _ _ _ _ _
  refine wpI_seq C T ?_
  refine wpI_region C T ?_
  simp only [List.size_toArray, List.length_cons, List.length_nil, Nat.reduceAdd, Nat.zero_add, List.range, List.range.loop]
  by_cases hl : l' = []
  · obtain rfl : l' = [] := hl
    refine opsI_end hi rfl (by rfl) (fun w => (hsel _ _ w rfl rfl rfl).1) (fun w => (hsel _ _ w rfl rfl rfl).2) fun w₁ h₁ hs hk => ?_
    have hF : HQ w₀ N Pb Bb (kcfg Tryz.prog N Pb Shun val B Low Mine) p v n xs w₁ := ⟨hF.hm h₁ hs, hk⟩
    simp only [hcr1]
    try walk_nrm
    clear hi
    refine opsI_cons C rfl (by rfl) fun _ hR Kx hKx => ?_
    replace hF := HQ.rely hF hR
    clear hR
    go_simp
    try (unfold stored; go_simp)
    refine hKx _ _ ⟨?_, ?_⟩
    · co_quiet (T .join)
    clear hKx Kx
    try walk_nrm
    refine opsI_cons C rfl (by rfl) fun _ hR Kx hKx => ?_
    replace hF := HQ.rely hF hR
    clear hR
    go_simp
    try (unfold stored; go_simp)
    refine hKx _ _ ⟨?_, ?_⟩
    · co_quiet (T .join)
    clear hKx Kx
    try walk_nrm
    refine opsI_cons C rfl (by rfl) fun _ hR Kx hKx => ?_
    replace hF := HQ.rely hF hR
    clear hR
    go_simp
    try (unfold stored; go_simp)
    refine hKx _ _ ⟨?_, ?_⟩
    · co_quiet (T .join)
    clear hKx Kx
    try walk_nrm
    refine opsI_nil C T ?_
    show wpI _ _ _ _ _ _ _
    refine wpI_block C T ?_
    refine wpI_cond C T (t := false) rfl ?_
    simp only [if_true, if_false, reduceIte, Bool.false_eq_true]
    refine wpI_cond C T (t := true) rfl ?_
    simp only [if_true, if_false, reduceIte, Bool.false_eq_true]
    refine wpI_ret C T ?_
    refine ⟨.inr rfl, rfl, _, resultsC_none (by rfl) _, rfl, rfl, p, v, ?_⟩
    have hxx : xs = cellsOf l := by rw [← hx]; simp [cellsOf]
    subst hnx hxx
    exact hF
  · obtain ⟨r, l2, rfl⟩ : ∃ r l2, l' = r :: l2 := by cases l' with | nil => exact absurd rfl hl | cons r t => exact ⟨r, t, rfl⟩
    refine opsI_letter (v := .int .i32 r) (vs := V l2) hi rfl (by rfl) (fun w => (hsel _ _ w rfl rfl rfl).1) (fun w => (hsel _ _ w rfl rfl rfl).2) fun w₁ h₁ hs => ?_
    have hF := hF.hm h₁ hs
    simp only [hcr0]
    try walk_nrm
    clear hi hl
    refine opsI_cons C rfl (by rfl) fun _ hR Kx hKx => ?_
    replace hF := HM.rely (i := .join) hF hR
    clear hR
    go_simp
    try (unfold stored; go_simp)
    refine hKx _ _ ⟨?_, ?_⟩
    · co_still Tq
    clear hKx Kx
    try walk_nrm
    refine opsI_cons C rfl (by rfl) fun _ hR Kx hKx => ?_
    replace hF := HM.rely (i := .join) hF hR
    clear hR
    go_simp
    try (unfold stored; go_simp)
    refine hKx _ _ ⟨?_, ?_⟩
    · co_still Tq
    clear hKx Kx
    try walk_nrm
    refine opsI_cons C rfl (by rfl) fun _ hR Kx hKx => ?_
    replace hF := HM.rely (i := .join) hF hR
    clear hR
    go_simp
    try (unfold stored; go_simp)
    refine hKx _ _ ⟨?_, ?_⟩
    · co_still Tq
    clear hKx Kx
    try walk_nrm
    refine opsI_nil C T ?_
    show wpI _ _ _ _ _ _ _
    refine wpI_block C T ?_
    refine wpI_cond C T (t := true) rfl ?_
    simp only [if_true, if_false, reduceIte, Bool.false_eq_true]
    refine wpI_seq C T ?_
    refine wpI_region C T ?_
    simp only [List.size_toArray, List.length_cons, List.length_nil, Nat.reduceAdd, Nat.zero_add, List.range, List.range.loop]
    refine opsI_cons C rfl (by rfl) fun _ hR Kx hKx => ?_
    replace hF := HM.rely (i := .join) hF hR
    clear hR
    go_simp
    try (unfold stored; go_simp)
    refine hKx _ _ ⟨?_, ?_⟩
    · co_still Tq
    clear hKx Kx
    try walk_nrm
    refine opsI_cons C rfl (by rfl) fun _ hR Kx hKx => ?_
    replace hF := HM.rely (i := .join) hF hR
    clear hR
    go_simp
    try (unfold stored; go_simp)
    refine hKx _ _ ⟨?_, ?_⟩
    · co_quiet Tq
    clear hKx Kx
    try walk_nrm
    refine opsI_nil C T ?_
    show wpI _ _ _ _ _ _ _
    refine wpI_region C T ?_
    simp only [List.size_toArray, List.length_cons, List.length_nil, Nat.reduceAdd, Nat.zero_add, List.range, List.range.loop]
    refine opsI_cons C rfl (by rfl) fun _ hR Kx hKx => ?_
    replace hF := HM.rely (i := .join) hF hR
    clear hR
    go_simp
    try (unfold stored; go_simp)
    refine hKx _ _ ⟨?_, ?_⟩
    · co_quiet Tq
    clear hKx Kx
    try walk_nrm
    refine opsI_cons C rfl (by rfl) fun _ hR Kx hKx => ?_
    replace hF := HM.rely (i := .join) hF hR
    clear hR
    go_simp
    try (unfold stored; go_simp)
    refine hKx _ _ ⟨?_, ?_⟩
    · co_quiet Tq
    clear hKx Kx
    try walk_nrm
    refine opsI_callX C T rfl (by rfl) rfl rfl (by simp [Act.eval]) rfl (yield_x hS hF hp (hg r (by simp)) (by simp at hn; omega)) ?_
    rintro _ _ _ ⟨rfl, v2, hF⟩
    refine opsI_nil C T ?_
    have hrl := Lib.runeCells_le r
    refine ⟨l2.length, by simp, _, v2, _, _, l2, rfl, .inr rfl, .inr ⟨_, rfl, hF⟩, .inr rfl, fun x hx => hg x (by simp [hx]), by simp at hn ⊢; omega, by rw [← hx]; simp [cellsOf], by simp [hnx], _, _, _, _, _, _, _, _, _, _, _, rfl⟩
end
end Go.Proofs.YtmabfdpfegbfkaaGreat
