/-
  letters.Each, whole.
-/
import Derived.Test.YtmabfdpfegbfkaaGreatEach2
set_option linter.all false
set_option linter.unusedSectionVars false
set_option linter.unusedSimpArgs false
namespace Go.Proofs.YtmabfdpfegbfkaaGreat
open Go.Conc Go.RowKit
section
variable {w₀ w w₁ : World} {Post : Value → World → Prop} {S : Nat → Prop} {N Pb Bb : Nat} {s : ByteArray}
set_option maxRecDepth 100000 in
set_option maxHeartbeats 2000000 in
theorem each_back (H : HEach w₀ N Pb Bb s S) (hF : He w₀ (objs6 N Pb) w) {Q : PostI (Nat → Prop)}
    (hq : ∀ w, FW w₀ N Pb Bb (cellsOf (lettersOf s)).length (cellsOf (lettersOf s)) w → w.heap[N + 5]? = some (.cells #[.int .u64 0, .int .u32 0] 114) → Q (SE N S) .normal ((⟨t18wait N Pb Bb, []⟩ : Act).put (some 15) (.tuple #[])) w) :
    wpI (ZI Tryz.prog Post 0) 18 (code18 Tryz.f18.body) S Q ⟨#[pieceV Pb, .func (.func 19) #[] #[.pointer (some ⟨Bb, 0, none⟩)], .pointer (some ⟨N, 0, none⟩), undef, .pointer (some ⟨N + 2, 0, none⟩), .pointer (some ⟨N + 4, 0, none⟩), .pointer (some ⟨N + 5, 0, none⟩), .chan (some (N + 1)), .chan (some (N + 3)), undef, undef, undef, undef, undef, undef, undef], []⟩ w := by
  have C : ClosedI Tryz.prog true (fun _ : Nat → Prop => AtRel) DZ (ZI Tryz.prog Post 0) := ZI.closed
  have hSN : ∀ b, S b → b < w₀.heap.size := fun b h => by rw [H.size]; exact (H.sh b h).1
  have hmk1 : ∀ w es, (Instr.makeFunc (Fn.func 48) #[] #[Value.pointer (some ⟨N + 4, 0, none⟩), Value.pointer (some ⟨N, 0, none⟩), Value.pointer (some ⟨N + 2, 0, none⟩)]).events Tryz.prog w es = es := fun w es => by simp [Instr.makeFunc]
  have hmk2 : ∀ w es, (Instr.makeFunc (Fn.func 73) #[] #[Value.pointer (some ⟨N + 6, 0, none⟩), Value.pointer (some ⟨N + 7, 0, none⟩)]).events Tryz.prog w es = es := fun w es => by simp [Instr.makeFunc]
  have bx := fun w t v => box_run Tryz.prog w t v
  have be := fun w t v es => box_events Tryz.prog w t v es
  intro b k cs hb hk hc
  have hcode : (code18 Tryz.f18.body) = .seq (.region 4 (ops18 Tryz.f18.body 4) false) (.seq (.region 5 (ops18 Tryz.f18.body 5) false) (.region 6 (ops18 Tryz.f18.body 6) false)) := by rfl
  rw [hcode]
  obtain rfl := H.size
  refine C.step rfl fun _ h₁ => ?_
  replace hF := hF.rely h₁
  clear h₁
  rw [stepG_seq]
  simp only [goes_go]
  refine ⟨ds_idle _, ?_⟩
  refine C.step rfl fun _ h₁ => ?_
  replace hF := hF.rely h₁
  clear h₁
  rw [stepG_region]
  simp only [goes_go]
  refine ⟨ds_idle _, ?_⟩
  have hr4 : List.range (ops18 Tryz.f18.body 4).size = [0, 1] := by rfl
  rw [hr4]
  obtain ⟨o, ho, hop, hod, hog⟩ : ∃ o, (ops18 Tryz.f18.body 4)[0]? = some o ∧ o.op = .makeFunc (.func 48) #[] #[.tmp 5, .tmp 2, .tmp 4] ∧ o.dst = some 9 ∧ o.guard = none := ⟨_, rfl, rfl, rfl, rfl⟩
  refine C.step rfl fun w₁ h₁ => ?_
  replace hF := hF.rely h₁
  clear h₁
  rw [stepG_value (v := fn48 w₀.heap.size) (w' := w₁) ho (by simp [Region.wanted, hog]) hk (by unfold execOp; simp [hop, Instr.makeFunc, Act.eval, fn48]), listed_nil (by unfold execOp; simp [hop, Instr.makeFunc, Act.eval])]
  simp only [goes_go]
  refine ⟨ds_idle _, ?_⟩
  rw [hod]
  have ht1 : (⟨#[pieceV Pb, .func (.func 19) #[] #[.pointer (some ⟨Bb, 0, none⟩)], .pointer (some ⟨w₀.heap.size, 0, none⟩), undef, .pointer (some ⟨w₀.heap.size + 2, 0, none⟩), .pointer (some ⟨w₀.heap.size + 4, 0, none⟩), .pointer (some ⟨w₀.heap.size + 5, 0, none⟩), .chan (some (w₀.heap.size + 1)), .chan (some (w₀.heap.size + 3)), undef, undef, undef, undef, undef, undef, undef], []⟩ : Act).put (some 9) (fn48 w₀.heap.size) = ⟨t18go w₀.heap.size Pb Bb, []⟩ := by rfl
  rw [ht1]
  refine C.step rfl fun _ h₁ => ?_
  replace hF := hF.rely h₁
  clear h₁
  refine goes_call (b := b) (a := ⟨t18go w₀.heap.size Pb Bb, []⟩) (ops := ops18 Tryz.f18.body 4) (i := 1) (args := #[.tmp 6, .tmp 9]) (ats := #[114, 1]) rfl rfl hk rfl Tryz.func47 (by rfl) rfl ⟨ds_idle _, ?_⟩
  have ht2 : (#[Operand.tmp 6, Operand.tmp 9].map (Act.eval ⟨t18go w₀.heap.size Pb Bb, []⟩)) ++ Array.replicate (Tryz.f47.ntmps - (#[Operand.tmp 6, Operand.tmp 9].map (Act.eval ⟨t18go w₀.heap.size Pb Bb, []⟩)).size) undef = #[.pointer (some ⟨w₀.heap.size + 5, 0, none⟩), fn48 w₀.heap.size, undef, undef, undef, undef, undef] := by simp [Act.eval, t18go, Tryz.f47, Array.replicate_succ]
  rw [ht2]
  refine C.step rfl fun _ h₁ => ?_
  replace hF := hF.rely h₁
  clear h₁
  rw [stepG_seq]
  simp only [goes_go]
  refine ⟨ds_idle _, ?_⟩
  refine C.step rfl fun _ h₁ => ?_
  replace hF := hF.rely h₁
  clear h₁
  rw [stepG_region]
  simp only [goes_go, List.size_toArray, List.length_cons, List.length_nil, Nat.reduceAdd, Nat.zero_add, List.range, List.range.loop]
  refine ⟨ds_idle _, ?_⟩
  refine C.step rfl fun _ h₁ => ?_
  replace hF := hF.rely h₁
  clear h₁
  refine goes_oper_k rfl rfl (by decide) (fun Kx hKx => ?_)
  skip
  go_simp
  refine hKx _ _ ⟨?_, ?_⟩
  · intro e he
    have hm := mem_listed he
    simp [go_sem, *] at hm
  clear hKx Kx
  try walk_nrm
  have hsz := hF.size
  simp only [objs6, List.length_cons, List.length_nil, Nat.reduceAdd, Nat.add_zero, Nat.zero_add] at hsz
  simp only [hsz]
  clear hsz
  replace hF := hF.alloc (.cells #[.pointer (some ⟨w₀.heap.size + 5, 0, none⟩)] 137)
  simp only [objs6, List.cons_append, List.nil_append] at hF
  refine C.step rfl fun _ h₁ => ?_
  replace hF := hF.rely h₁
  clear h₁
  refine goes_oper_k rfl rfl (by decide) (fun Kx hKx => ?_)
  skip
  go_simp
  refine hKx _ _ ⟨?_, ?_⟩
  · intro e he
    have hm := mem_listed he
    simp [go_sem, *] at hm
  clear hKx Kx
  try walk_nrm
  have hsz := hF.size
  simp only [objs6, List.length_cons, List.length_nil, Nat.reduceAdd, Nat.add_zero, Nat.zero_add] at hsz
  simp only [hsz]
  clear hsz
  replace hF := hF.alloc (.cells #[fn48 w₀.heap.size] 1)
  simp only [objs6, List.cons_append, List.nil_append] at hF
  refine C.step rfl fun _ h₁ => ?_
  replace hF := hF.rely h₁
  clear h₁
  rw [stepG_region_end]
  simp only [goes_go]
  refine ⟨ds_idle _, ?_⟩
  refine C.step rfl fun _ h₁ => ?_
  replace hF := hF.rely h₁
  clear h₁
  rw [stepG_seq]
  simp only [goes_go]
  refine ⟨ds_idle _, ?_⟩
  refine C.step rfl fun _ h₁ => ?_
  replace hF := hF.rely h₁
  clear h₁
  rw [stepG_region]
  simp only [goes_go, List.size_toArray, List.length_cons, List.length_nil, Nat.reduceAdd, Nat.zero_add, List.range, List.range.loop]
  refine ⟨ds_idle _, ?_⟩
  refine C.step rfl fun _ h₁ => ?_
  replace hF := hF.rely h₁
  clear h₁
  refine goes_oper_k rfl rfl (by decide) (fun Kx hKx => ?_)
  have hcc := cell1 (hF.blocks 6 _ rfl)
  go_simp
  refine hKx _ _ ⟨?_, ?_⟩
  · intro e he
    have hm := mem_listed he
    simp [go_sem, *] at hm
    subst hm; exact evs_at (w₀ := w₀) hSN rfl (by simp)
  clear hKx Kx
  try walk_nrm
  clear hcc
  refine C.step rfl fun _ h₁ => ?_
  replace hF := hF.rely h₁
  clear h₁
  refine goes_call rfl rfl (by decide) rfl wgLib.f_add (Go.ConcX.Gen.nm_add link) rfl ⟨ds_idle _, ?_⟩
  walk_nrmf Go.Conc.Lib.addFn
  have hA := @add_x Post S (w₀.heap.size + 5) w₀.heap.size
  simp only [Go.ConcX.Gen.body_add, Go.Conc.Lib.addFn, Option.getD_some] at hA
  refine hA (fun h => by have := hSN _ h; omega) (fun h => by have := hSN _ h; omega) (hF.blocks 5 _ rfl) ?_
  replace hF := hF.set (j := 5) (o := 0) rfl (.int .u64 4294967296)
  simp only [List.set, List.setIfInBounds_toArray] at hF
  try walk_nrm
  refine C.step rfl fun _ h₁ => ?_
  replace hF := hF.rely h₁
  clear h₁
  rw [stepG_region_end]
  simp only [goes_go]
  refine ⟨ds_idle _, ?_⟩
  refine C.step rfl fun _ h₁ => ?_
  replace hF := hF.rely h₁
  clear h₁
  rw [stepG_region]
  simp only [goes_go, List.size_toArray, List.length_cons, List.length_nil, Nat.reduceAdd, Nat.zero_add, List.range, List.range.loop]
  refine ⟨ds_idle _, ?_⟩
  refine C.step rfl fun _ h₁ => ?_
  replace hF := hF.rely h₁
  clear h₁
  refine goes_oper_k rfl rfl (by decide) (fun Kx hKx => ?_)
  skip
  go_simp
  refine hKx _ _ ⟨?_, ?_⟩
  · intro e he
    have hm := mem_listed he
    simp [go_sem, *] at hm
  clear hKx Kx
  try walk_nrm
  refine fork_x (k := k) (cs := cs) (tm := #[.pointer (some ⟨w₀.heap.size + 5, 0, none⟩), fn48 w₀.heap.size, .pointer (some ⟨w₀.heap.size + 6, 0, none⟩), .pointer (some ⟨w₀.heap.size + 7, 0, none⟩), .pointer (some ⟨w₀.heap.size + 5, 0, none⟩), .tuple #[], .func (.func 73) #[] #[.pointer (some ⟨w₀.heap.size + 6, 0, none⟩), .pointer (some ⟨w₀.heap.size + 7, 0, none⟩)]]) H hF hb hk rfl (fun e => ?_) (fun w hFw hW => ?_)
  · rw [stepG_spawn (d := call73 w₀.heap.size) rfl rfl (by decide) (by simp [execOp, go_sem, resolve, Deferred.ofValue, call73, Act.eval]; rfl) rfl, listed_nil (by simp [execOp, go_sem, resolve, Deferred.ofValue, Act.eval])]
    rfl
  · refine C.step rfl fun w₁ h₁ => ?_
    rw [stepG_region_end]
    simp only [goes_go]
    exact ⟨ds_idle _, C.rely (hc _ _ _ _ (hq w hFw hW)) h₁⟩
theorem He.start (w₀ : World) : He w₀ [] w₀ := ⟨rfl, rfl, rfl, fun _ _ => rfl, by simp, fun j o h => by simp at h⟩
set_option maxRecDepth 100000 in
set_option maxHeartbeats 2000000 in
/-- ████ letters.Each: THE LETTERS OF BYTES ARE WRITTEN INTO THE BUILDER. ████ -/
theorem each_x (H : HEach w₀ N Pb Bb s S) :
    CallsI Tryz.prog (ZI Tryz.prog Post 0) 18 #[pieceV Pb, .func (.func 19) #[] #[.pointer (some ⟨Bb, 0, none⟩)]] S w₀ (fun S' _ w' => S' = SE N S ∧ FW w₀ N Pb Bb (cellsOf (lettersOf s)).length (cellsOf (lettersOf s)) w' ∧ w'.heap[N + 5]? = some (.cells #[.int .u64 0, .int .u32 0] 114)) := by
  refine callsI_of Tryz.func18 (by rfl) (c := .seq _ (.seq _ (.seq _ (.seq _ (code18 Tryz.f18.body))))) rfl ?_
  simp only [Tryz.ntmps18, List.size_toArray, List.length_cons, List.length_nil, Nat.reduceAdd, Nat.reduceSub, Array.replicate_succ, Array.replicate_zero, List.push_toArray, List.append_toArray, List.nil_append, List.cons_append]
  have hN := H.size
  refine each_front Pb Bb (He.start w₀) (fun b h => by rw [hN]; exact (H.sh b h).1) _ (code18 Tryz.f18.body) (fun w hF => ?_) _ _ _ _ rfl
  rw [hN] at hF ⊢
  refine each_back H hF fun w h1 h2 => ?_
  exact ⟨.inl rfl, rfl, _, resultsC_none (by rfl) _, rfl, h1, h2⟩
end
end Go.Proofs.YtmabfdpfegbfkaaGreat
