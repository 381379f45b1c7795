/-
  letters.run, whole, for any reading and any reader: 'run_x'.
-/
import Derived.Test.YtgcaionclkbehaaGreatDoorFront
set_option linter.all false
set_option linter.unusedSectionVars false
set_option linter.unusedSimpArgs false
namespace Go.Proofs.YtgcaionclkbehaaGreatDoor
open Go.Conc Go.RowKit
section
variable {w₀ w w₁ : World} {Post : Value → World → Prop} {S : Nat → Prop} {N Pb : Nat} {val : Value} {tC : TypeId}
set_option maxRecDepth 100000 in
set_option maxHeartbeats 2000000 in
theorem run_back {A F : World → Prop} {I : Nat → World → Prop} {f fr : FuncId} {cap cr : Array Value} {l : List Int} (H : HRun w₀ N Pb S) (hF : He w₀ (objs7 N val tC (.func (.func fr) #[] cr)) w) (hn : l.length ≤ 1000000) {Q : PostI (Nat → Prop)}
    (hkid : ∀ (Shun : Loc → Prop) (w : World) [Go.ConcR.Payload] [Go.ConcX.Payload], He w₀ (objs9 N val tC (.func (.func fr) #[] cr)) w → XK (kcfg Tryz.prog N Pb (shunE N Shun) val (N + 9) (fun _ => False)) (true, V l) (born Tryz.prog (callGo N)) w)
    (hcl : ∀ Shun : Loc → Prop, (∀ l, Shun l → ∃ ad : Addr, l = .cell ad ∧ S ad.block) → Client (kcfg Tryz.prog N Pb (shunE N Shun) val (N + 9) (fun _ => False)) N l f cap A F I) (hA0 : ∀ w, He w₀ (objs9 N val tC (.func (.func fr) #[] cr)) w → A w) (hFa : ∀ w w₁, Go.ConcX.Aside2 N (N + 6) w w₁ → F w → F w₁)
    (hq : ∀ (a : Act) (w : World), a.defers = [] → F w → w.heap[N + 6]? = some (.cells #[.int .u64 0, .int .u32 0] 169) → Q (SE N S) .normal a w) :
    wpI (ZI Tryz.prog Post 0) 61 (codeR Tryz.f61.body) S Q ⟨#[(.func (.func fr) #[] cr), (.func (.func f) #[] cap), .pointer (some ⟨N + 1, 0, none⟩), undef, .pointer (some ⟨N + 3, 0, none⟩), .pointer (some ⟨N + 5, 0, none⟩), .pointer (some ⟨N + 6, 0, none⟩), undef, .chan (some (N + 2)), .chan (some (N + 4)), undef, undef, undef, undef, undef, undef, undef, undef, undef, undef, undef, undef], []⟩ w := by
  have C : ClosedI Tryz.prog true (fun _ : Nat → Prop => AtRel) DZ (ZI Tryz.prog Post 0) := ZI.closed
  have hSN : ∀ b, S b → b < w₀.heap.size := fun b h => by rw [H.size]; exact (H.sh b h).1
  have hmk1 : ∀ w es, (Instr.makeFunc (Fn.func 112) #[] #[Value.pointer (some ⟨N + 5, 0, none⟩), Value.pointer (some ⟨N + 1, 0, none⟩), Value.pointer (some ⟨N + 3, 0, none⟩)]).events Tryz.prog w es = es := fun w es => by simp [Instr.makeFunc]
  have hmk2 : ∀ w es, (Instr.makeFunc (Fn.func 200) #[] #[Value.pointer (some ⟨N + 7, 0, none⟩), Value.pointer (some ⟨N + 8, 0, none⟩)]).events Tryz.prog w es = es := fun w es => by simp [Instr.makeFunc]
  have bx := fun w t v => box_run Tryz.prog w t v
  have be := fun w t v es => box_events Tryz.prog w t v es
  intro b k cs hb hk hc
  have hcode : (codeR Tryz.f61.body) = .seq (.region 4 (opsR Tryz.f61.body 4) false) (.seq (.region 5 (opsR Tryz.f61.body 5) false) (.seq (.region 6 (opsR Tryz.f61.body 6) false) (.seq (.region 7 (opsR Tryz.f61.body 7) false) (.region 8 (opsR Tryz.f61.body 8) false)))) := by rfl
  rw [hcode]
  obtain rfl := H.size
  refine C.step rfl fun _ h₁ => ?_
  replace hF := hF.rely h₁
  clear h₁
  rw [stepG_seq]
  simp only [goes_go]
  refine ⟨ds_idle _, ?_⟩
  refine C.step rfl fun _ h₁ => ?_
  replace hF := hF.rely h₁
  clear h₁
  rw [stepG_region]
  simp only [goes_go]
  refine ⟨ds_idle _, ?_⟩
  have hr4 : List.range (opsR Tryz.f61.body 4).size = [0, 1] := by rfl
  rw [hr4]
  obtain ⟨o, ho, hop, hod, hog⟩ : ∃ o, (opsR Tryz.f61.body 4)[0]? = some o ∧ o.op = .makeFunc (.func 112) #[] #[.tmp 5, .tmp 2, .tmp 4] ∧ o.dst = some 10 ∧ o.guard = none := ⟨_, rfl, rfl, rfl, rfl⟩
  refine C.step rfl fun w₁ h₁ => ?_
  replace hF := hF.rely h₁
  clear h₁
  rw [stepG_value (v := fnChild w₀.heap.size) (w' := w₁) ho (by simp [Region.wanted, hog]) hk (by unfold execOp; simp [hop, Instr.makeFunc, Act.eval, fnChild]), listed_nil (by unfold execOp; simp [hop, Instr.makeFunc, Act.eval])]
  simp only [goes_go]
  refine ⟨ds_idle _, ?_⟩
  rw [hod]
  have ht1 : (⟨#[(.func (.func fr) #[] cr), (.func (.func f) #[] cap), .pointer (some ⟨w₀.heap.size + 1, 0, none⟩), undef, .pointer (some ⟨w₀.heap.size + 3, 0, none⟩), .pointer (some ⟨w₀.heap.size + 5, 0, none⟩), .pointer (some ⟨w₀.heap.size + 6, 0, none⟩), undef, .chan (some (w₀.heap.size + 2)), .chan (some (w₀.heap.size + 4)), undef, undef, undef, undef, undef, undef, undef, undef, undef, undef, undef, undef], []⟩ : Act).put (some 10) (fnChild w₀.heap.size) = ⟨t47 w₀.heap.size (.func (.func fr) #[] cr) (.func (.func f) #[] cap) undef, []⟩ := by rfl
  rw [ht1]
  refine C.step rfl fun _ h₁ => ?_
  replace hF := hF.rely h₁
  clear h₁
  refine goes_call (b := b) (a := ⟨t47 w₀.heap.size (.func (.func fr) #[] cr) (.func (.func f) #[] cap) undef, []⟩) (ops := opsR Tryz.f61.body 4) (i := 1) (args := #[.tmp 6, .tmp 10]) (ats := #[169, 1]) rfl rfl hk rfl Tryz.func111 (by rfl) rfl ⟨ds_idle _, ?_⟩
  have ht2 : (#[Operand.tmp 6, Operand.tmp 10].map (Act.eval ⟨t47 w₀.heap.size (.func (.func fr) #[] cr) (.func (.func f) #[] cap) undef, []⟩)) ++ Array.replicate (Tryz.f111.ntmps - (#[Operand.tmp 6, Operand.tmp 10].map (Act.eval ⟨t47 w₀.heap.size (.func (.func fr) #[] cr) (.func (.func f) #[] cap) undef, []⟩)).size) undef = #[.pointer (some ⟨w₀.heap.size + 6, 0, none⟩), fnChild w₀.heap.size, undef, undef, undef, undef, undef] := by simp [Act.eval, t47, Tryz.f111, Array.replicate_succ]
  rw [ht2]
  refine C.step rfl fun _ h₁ => ?_
  replace hF := hF.rely h₁
  clear h₁
  rw [stepG_seq]
  simp only [goes_go]
  refine ⟨ds_idle _, ?_⟩
  refine C.step rfl fun _ h₁ => ?_
  replace hF := hF.rely h₁
  clear h₁
  rw [stepG_region]
  simp only [goes_go, List.size_toArray, List.length_cons, List.length_nil, Nat.reduceAdd, Nat.zero_add, List.range, List.range.loop]
  refine ⟨ds_idle _, ?_⟩
  refine C.step rfl fun _ h₁ => ?_
  replace hF := hF.rely h₁
  clear h₁
  refine goes_oper_k rfl rfl (by decide) (fun Kx hKx => ?_)
  skip
  go_simp
  refine hKx _ _ ⟨?_, ?_⟩
  · intro e he
    have hm := mem_listed he
    simp [go_sem, *] at hm
  clear hKx Kx
  try walk_nrm
  have hsz := hF.size
  simp only [objs7, List.length_cons, List.length_nil, Nat.reduceAdd, Nat.add_zero, Nat.zero_add] at hsz
  simp only [hsz]
  clear hsz
  replace hF := hF.alloc (.cells #[.pointer (some ⟨w₀.heap.size + 6, 0, none⟩)] 240)
  simp only [objs7, List.cons_append, List.nil_append] at hF
  refine C.step rfl fun _ h₁ => ?_
  replace hF := hF.rely h₁
  clear h₁
  refine goes_oper_k rfl rfl (by decide) (fun Kx hKx => ?_)
  skip
  go_simp
  refine hKx _ _ ⟨?_, ?_⟩
  · intro e he
    have hm := mem_listed he
    simp [go_sem, *] at hm
  clear hKx Kx
  try walk_nrm
  have hsz := hF.size
  simp only [objs7, List.length_cons, List.length_nil, Nat.reduceAdd, Nat.add_zero, Nat.zero_add] at hsz
  simp only [hsz]
  clear hsz
  replace hF := hF.alloc (.cells #[fnChild w₀.heap.size] 1)
  simp only [objs7, List.cons_append, List.nil_append] at hF
  refine C.step rfl fun _ h₁ => ?_
  replace hF := hF.rely h₁
  clear h₁
  rw [stepG_region_end]
  simp only [goes_go]
  refine ⟨ds_idle _, ?_⟩
  refine C.step rfl fun _ h₁ => ?_
  replace hF := hF.rely h₁
  clear h₁
  rw [stepG_seq]
  simp only [goes_go]
  refine ⟨ds_idle _, ?_⟩
  refine C.step rfl fun _ h₁ => ?_
  replace hF := hF.rely h₁
  clear h₁
  rw [stepG_region]
  simp only [goes_go, List.size_toArray, List.length_cons, List.length_nil, Nat.reduceAdd, Nat.zero_add, List.range, List.range.loop]
  refine ⟨ds_idle _, ?_⟩
  refine C.step rfl fun _ h₁ => ?_
  replace hF := hF.rely h₁
  clear h₁
  refine goes_oper_k rfl rfl (by decide) (fun Kx hKx => ?_)
  have hcc := cell1 (hF.blocks 7 _ rfl)
  go_simp
  refine hKx _ _ ⟨?_, ?_⟩
  · intro e he
    have hm := mem_listed he
    simp [go_sem, *] at hm
    subst hm; exact evs_at (w₀ := w₀) hSN rfl (by simp)
  clear hKx Kx
  try walk_nrm
  clear hcc
  refine C.step rfl fun _ h₁ => ?_
  replace hF := hF.rely h₁
  clear h₁
  refine goes_call rfl rfl (by decide) rfl wgLib.f_add (Go.ConcX.Gen.nm_add link) rfl ⟨ds_idle _, ?_⟩
  walk_nrmf Go.Conc.Lib.addFn
  have hA := @add_x Post S (w₀.heap.size + 6) w₀.heap.size
  simp only [Go.ConcX.Gen.body_add, Go.Conc.Lib.addFn, Option.getD_some] at hA
  refine hA (fun h => by have := hSN _ h; omega) (fun h => by have := hSN _ h; omega) (hF.blocks 6 _ rfl) ?_
  replace hF := hF.set (j := 6) (o := 0) rfl (.int .u64 4294967296)
  simp only [List.set, List.setIfInBounds_toArray] at hF
  try walk_nrm
  refine C.step rfl fun _ h₁ => ?_
  replace hF := hF.rely h₁
  clear h₁
  rw [stepG_region_end]
  simp only [goes_go]
  refine ⟨ds_idle _, ?_⟩
  refine C.step rfl fun _ h₁ => ?_
  replace hF := hF.rely h₁
  clear h₁
  rw [stepG_region]
  simp only [goes_go, List.size_toArray, List.length_cons, List.length_nil, Nat.reduceAdd, Nat.zero_add, List.range, List.range.loop]
  refine ⟨ds_idle _, ?_⟩
  refine C.step rfl fun _ h₁ => ?_
  replace hF := hF.rely h₁
  clear h₁
  refine goes_oper_k rfl rfl (by decide) (fun Kx hKx => ?_)
  skip
  go_simp
  refine hKx _ _ ⟨?_, ?_⟩
  · intro e he
    have hm := mem_listed he
    simp [go_sem, *] at hm
  clear hKx Kx
  try walk_nrm
  refine fork_x (A := A) (F := F) (I := I) (k := k) (cs := cs) (tm := #[.pointer (some ⟨w₀.heap.size + 6, 0, none⟩), fnChild w₀.heap.size, .pointer (some ⟨w₀.heap.size + 7, 0, none⟩), .pointer (some ⟨w₀.heap.size + 8, 0, none⟩), .pointer (some ⟨w₀.heap.size + 6, 0, none⟩), .tuple #[], .func (.func 200) #[] #[.pointer (some ⟨w₀.heap.size + 7, 0, none⟩), .pointer (some ⟨w₀.heap.size + 8, 0, none⟩)]]) H hF hn hb hk rfl (fun e => ?_) (fun Shun e _ _ => hkid Shun _ (hF.rely ⟨e, rfl⟩)) hcl (fun e => hA0 _ (hF.rely ⟨e, rfl⟩)) hFa (fun a w had hFw hW => ?_)
  · rw [stepG_spawn (d := callGo w₀.heap.size) rfl rfl (by decide) (by simp [execOp, go_sem, resolve, Deferred.ofValue, callGo, Act.eval]; rfl) rfl, listed_nil (by simp [execOp, go_sem, resolve, Deferred.ofValue, Act.eval])]
    rfl
  · refine C.step rfl fun w₁ h₁ => ?_
    rw [stepG_region_end]
    simp only [goes_go]
    exact ⟨ds_idle _, C.rely (hc _ _ (a.put (some 21) (.tuple #[])) _ (hq _ w had hFw hW)) h₁⟩
set_option maxRecDepth 100000 in
set_option maxHeartbeats 2000000 in
/-- ████ letters.run. ████ -/
theorem run_x {A F : World → Prop} {I : Nat → World → Prop} {f fr : FuncId} {cap cr : Array Value} {l : List Int} (H : HRun w₀ N Pb S) (hF : He w₀ [.cells #[val] tC] w) (hn : l.length ≤ 1000000)
    (hkid : ∀ (Shun : Loc → Prop) (w : World) [Go.ConcR.Payload] [Go.ConcX.Payload], He w₀ (objs9 N val tC (.func (.func fr) #[] cr)) w → XK (kcfg Tryz.prog N Pb (shunE N Shun) val (N + 9) (fun _ => False)) (true, V l) (born Tryz.prog (callGo N)) w)
    (hcl : ∀ Shun : Loc → Prop, (∀ l, Shun l → ∃ ad : Addr, l = .cell ad ∧ S ad.block) → Client (kcfg Tryz.prog N Pb (shunE N Shun) val (N + 9) (fun _ => False)) N l f cap A F I) (hA0 : ∀ w, He w₀ (objs9 N val tC (.func (.func fr) #[] cr)) w → A w) (hFa : ∀ w w₁, Go.ConcX.Aside2 N (N + 6) w w₁ → F w → F w₁) :
    CallsI Tryz.prog (ZI Tryz.prog Post 0) 61 #[(.func (.func fr) #[] cr), (.func (.func f) #[] cap)] S w (fun S' _ w' => S' = SE N S ∧ F w' ∧ w'.heap[N + 6]? = some (.cells #[.int .u64 0, .int .u32 0] 169)) := by
  refine callsI_of Tryz.func61 (by rfl) (c := .seq _ (.seq _ (.seq _ (.seq _ (codeR Tryz.f61.body))))) rfl ?_
  simp only [Tryz.ntmps61, List.size_toArray, List.length_cons, List.length_nil, Nat.reduceAdd, Nat.reduceSub, Array.replicate_succ, Array.replicate_zero, List.push_toArray, List.append_toArray, List.nil_append, List.cons_append]
  have hN := H.size
  refine run_front val (.func (.func f) #[] cap) fr cr tC hF (fun b h => by rw [hN]; exact (H.sh b h).1) _ (codeR Tryz.f61.body) (fun w hF => ?_) _ _ _ _ rfl
  rw [hN] at hF ⊢
  refine run_back H hF hn hkid hcl hA0 hFa fun a w had h1 h2 => ?_
  exact ⟨.inl rfl, had, _, resultsC_none (by rfl) _, rfl, h1, h2⟩
end
end Go.Proofs.YtgcaionclkbehaaGreatDoor
