/-
  The child of letters.Each: its birth, up to the close.
-/
import Derived.Test.YtmabfdpfegbfkaaGreatRead
import Derived.Test.YtmabfdpfegbfkaaGreatEnds
set_option linter.all false
set_option linter.unusedSectionVars false
set_option linter.unusedSimpArgs false
namespace Go.Proofs.YtmabfdpfegbfkaaGreat
open Go.Conc Go.RowKit
/-- What the child holds of the world as it is born. -/
structure HB (N Pb : Nat) (s : ByteArray) (w : World) : Prop where
  pc : w.heap[N]? = some (.cells #[.slice (some ⟨Pb, 0, none⟩) 1 1] 29)
  lv : w.heap[N + 2]? = some (.cells #[.chan (some (N + 1))] 103)
  ev : w.heap[N + 4]? = some (.cells #[.chan (some (N + 3))] 104)
  wb : w.heap[N + 6]? = some (.cells #[.pointer (some ⟨N + 5, 0, none⟩)] 137)
  fb : w.heap[N + 7]? = some (.cells #[.func (.func 48) #[] #[.pointer (some ⟨N + 4, 0, none⟩), .pointer (some ⟨N, 0, none⟩), .pointer (some ⟨N + 2, 0, none⟩)]] 1)
  ps : w.cell? ⟨Pb, 0, none⟩ = some (.string s)
  lo : Pb < N
  size : w.heap.size = N + 8
def closeD (N : Nat) : Deferred := { target := .builtin .close #[104] 0 #[false], args := #[.chan (some (N + 3))] }
section
variable {N Pb : Nat} {Shun : Loc → Prop} {val : Value} {B Low : Nat} {Mine : Loc → Prop} {c : CS} {d : DS} {w w₁ : World}
theorem cell1 {b : Nat} {v : Value} {t : TypeId} (h : w.heap[b]? = some (.cells #[v] t)) : w.cell? ⟨b, 0, none⟩ = some v := by simp [World.cell?, h]
variable [Go.ConcR.Payload] [Go.ConcX.Payload]
variable {s : ByteArray}
theorem HB.rely {vs : List Value} (h : HB N Pb s w) (r : RKd (kcfg Tryz.prog N Pb Shun val B Low Mine) (true, vs) w w₁) : HB N Pb s w₁ := by
  have r' : AtRel w w₁ := r
  obtain ⟨e, rfl⟩ := r'
  exact ⟨h.pc, h.lv, h.ev, h.wb, h.fb, h.ps, h.lo, h.size⟩
theorem HB.hp (h : HB N Pb s w) : HP N Pb s 0 #[] #[] w := ⟨h.lv, h.ps, h.lo, h.size, fun h => absurd h (by omega), fun h => absurd h (by omega), h.pc, h.wb⟩
theorem opsX_defer {ι : Type} {P : Program} {main : Bool} {R : ι → World → World → Prop} {D : World → World → Array Event → Prop} {X : ι → Goroutine → World → Prop} {fn : FuncId} {Q : PostX ι} {a : Act} {w : World} {vs : ι} (C : Closed P main R D X) (T : ∀ i, Terms (R i) D)
    {ops : Array Oper} {i : Nat} {rest : List Nat} {o : Oper} {d : Deferred} (ho : ops[i]? = some o) (hw : Region.wanted o (yielded ops a.tmps) = true) (hr : ∀ w, (execOp a.eval o).run P w = .ok (.defer d) w) (he : ∀ w, (execOp a.eval o).events P w #[] = #[])
    (h : OpsX X fn ops rest vs Q (Act.put ⟨a.tmps, d :: a.defers⟩ o.dst undef) w) : OpsX X fn ops (i :: rest) vs Q a w := fun b k cs hb hk hc => C.step rfl fun w₁ h₁ => by
  rw [stepG_deferX ho hw hk (hr w₁) (he w₁)]
  exact ⟨(T vs).idle _, C.rely (h b k cs hb hk hc) h₁⟩
set_option maxRecDepth 100000 in
set_option maxHeartbeats 2000000 in
theorem each1_x (hF : HB N Pb s w) (hz : s.size ≤ 9223372036854775806) :
    ∃ c, Tryz.f48.body = some c ∧ wpX (XK (kcfg Tryz.prog N Pb Shun val B Low Mine)) 48 c (true, V (lettersOf s)) (fun i e a' w' => e = .normal ∧ i.2 = [] ∧ a'.defers = [closeD N] ∧ ∃ c d, HC N Pb c d w') ⟨#[.pointer (some ⟨N + 4, 0, none⟩), .pointer (some ⟨N, 0, none⟩), .pointer (some ⟨N + 2, 0, none⟩), undef, undef, undef, undef], []⟩ w := by
  have C : Closed Tryz.prog false (RKd (kcfg Tryz.prog N Pb Shun val B Low Mine)) (DK (kcfg Tryz.prog N Pb Shun val B Low Mine)) (XK (kcfg Tryz.prog N Pb Shun val B Low Mine)) := XK.closed (K := (kcfg Tryz.prog N Pb Shun val B Low Mine))
  have T := termsK (K := (kcfg Tryz.prog N Pb Shun val B Low Mine))
  have Tq := T (true, [])
  have evb : ∀ (w : World) (es : Array Event) (a : Addr) (m : Mode) (x : Bool), (store a (.bool x) m).events Tryz.prog w es = storedEv Tryz.prog w es a (.bool x) m := fun w es a m x => events_store Tryz.prog w es a _ m rfl
  have hdr : ∀ w : World, RKd (kcfg Tryz.prog N Pb Shun val B Low Mine) (true, []) w { w with drawn := w.drawn + 1 } := ownDrawK
  have mk : ∀ w es, (Instr.makeFunc (Fn.func 50) #[] #[Value.pointer (some ⟨N + 2, 0, none⟩)]).events Tryz.prog w es = es := fun w es => by simp [Instr.makeFunc]
  refine ⟨_, rfl, ?_⟩
  refine wpX_seq C T ?_
  refine wpX_region C T ?_
  simp only [List.size_toArray, List.length_cons, List.length_nil, Nat.reduceAdd, Nat.zero_add, List.range, List.range.loop]
  refine opsX_cons C rfl (by rfl) fun _ hR Kx hKx => ?_
  replace hF := HB.rely hF hR
  clear hR
  have hc := cell1 hF.ev
  go_simp
  try (unfold stored; go_simp)
  refine hKx _ _ ⟨?_, ?_⟩
  · refine dk_read ?_
    co_evs (exact evk_still (.inr (.inl rfl)))
  clear hKx Kx
  try walk_nrm
  clear hc
  refine opsX_defer C T (d := closeD N) rfl (by rfl) (fun w => by simp [execOp, go_sem, resolve, closeD, Act.eval]) (fun w => by simp [execOp, go_sem, resolve, Act.eval]) ?_
  try walk_nrm
  refine opsX_nil C T ?_
  show wpX _ _ _ _ _ _ _
  refine wpX_region C T ?_
  simp only [List.size_toArray, List.length_cons, List.length_nil, Nat.reduceAdd, Nat.zero_add, List.range, List.range.loop]
  refine opsX_cons C rfl (by rfl) fun _ hR Kx hKx => ?_
  replace hF := HB.rely hF hR
  clear hR
  have hc := cell1 hF.pc
  go_simp
  try (unfold stored; go_simp)
  refine hKx _ _ ⟨?_, ?_⟩
  · refine dk_read ?_
    co_evs (exact evk_kid (.inl rfl))
  clear hKx Kx
  try walk_nrm
  clear hc
  refine opsX_cons C rfl (by rfl) fun _ hR Kx hKx => ?_
  replace hF := HB.rely hF hR
  clear hR
  go_simp
  try (unfold stored; go_simp)
  refine hKx _ _ ⟨?_, ?_⟩
  · co_still Tq
  clear hKx Kx
  try walk_nrm
  refine opsX_callX C T rfl (by rfl) rfl rfl (by simp [Act.eval]; rfl) (by rw [List.append_nil]) (read_x hF.hp hz []) ?_
  rintro _ _ _ ⟨rfl, hF⟩
  refine opsX_nil C T ?_
  exact ⟨rfl, rfl, rfl, hF⟩
end
end Go.Proofs.YtmabfdpfegbfkaaGreat
