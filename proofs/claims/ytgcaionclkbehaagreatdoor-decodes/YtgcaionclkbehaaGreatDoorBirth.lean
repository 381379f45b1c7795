/-
  Steps of a goroutine: 'defer' of whatever callee; a deferred closure is entered; a deferred close; 'recover' where nothing panics. They know no program.
-/
import Derived.Test.YtgcaionclkbehaaGreatDoorWalk
import Derived.Conc.TokenWalk
import Derived.Test.YtgcaionclkbehaaGreatDoorRead
set_option linter.all false
namespace Go.Proofs.YtgcaionclkbehaaGreatDoor
open Go.Conc

section
variable {P : Program} {main : Bool} {b : Frame} {a : Act} {k : List Item} {cs : List Frame} {w : World} {ops : Array Oper} {i : Nat} {rest : List Nat} {o : Oper}

theorem stepG_deferX {d : Deferred} (ho : ops[i]? = some o) (hw : Region.wanted o (yielded ops a.tmps) = true) (hk : b.kind ≠ .early) (hr : (execOp a.eval o).run P w = .ok (.defer d) w) (he : (execOp a.eval o).events P w #[] = #[]) :
    stepG P main (G (b.at a (.inRegion ops (i :: rest) :: k)) cs) w = .go (G (b.at (Act.put ⟨a.tmps, d :: a.defers⟩ o.dst undef) (.inRegion ops rest :: k)) cs) w #[] := by
  have hfin : (b.at ⟨a.tmps, d :: a.defers⟩ (.inRegion ops (i :: rest) :: k)).finish undef = b.at (Act.put ⟨a.tmps, d :: a.defers⟩ o.dst undef) (.inRegion ops rest :: k) := by rw [Frame.finish_at, ho]; rfl
  have hk' : (b.kind == CallKind.early) = false := by simpa using hk
  rw [stepG_oper ho hw, ← hfin]
  simp [stepG.apply, hr, he, G, Frame.at, hk', GStep.after, seen_none]

/-- 'recover' in a deferred call, where the frame that calls it returns. -/
theorem stepG_recover {c : Frame} (ho : ops[i]? = some o) (hw : Region.wanted o (yielded ops a.tmps) = true) (hk : b.kind = .deferred) (hro : b.roundOf = none) (hc : c.mode = .returning) (hr : (execOp a.eval o).run P w = .ok .recover w) (he : (execOp a.eval o).events P w #[] = #[]) :
    stepG P main (G (b.at a (.inRegion ops (i :: rest) :: k)) (c :: cs)) w = .go (G (b.at (a.put o.dst .nilIface) (.inRegion ops rest :: k)) (c :: cs)) w #[] := by
  have hfin : (b.at a (.inRegion ops (i :: rest) :: k)).finish .nilIface = b.at (a.put o.dst .nilIface) (.inRegion ops rest :: k) := by rw [Frame.finish_at, ho]; rfl
  rw [stepG_oper ho hw, ← hfin]
  simp [stepG.apply, hr, he, G, Frame.at, hk, hro, tryRecover, hc, GStep.after, seen_none]

variable {todo : List Item} {ds : List Deferred} {f : FuncId} {fn : Func} {args cap : Array Value}

theorem stepG_unwind_closure {c : Code} (hd : a.defers = { target := .fn (.func f) cap, args := args } :: ds) (hf : P.funcs[f]? = some fn) (hname : (fn.name == "runtime.NumGoroutine") = false) (hb : fn.body = some c) :
    stepG P main (G { b.at a todo with mode := .returning } cs) w =
      .go (G ((baseD f).at { tmps := (args ++ cap) ++ Array.replicate (fn.ntmps - (args ++ cap).size) undef, defers := [] } [.code c]) ({ b.at ⟨a.tmps, ds⟩ todo with mode := .returning } :: cs)) w #[] := by
  have h1 : ¬ fn.name = "runtime.NumGoroutine" := by simpa using hname
  rw [← enter_atD (args ++ cap) hf hb]
  simp [G, stepG, unwind, callDeferred, Frame.at, hd, invoke, callFunc, hf, h1, hb, GStep.after, seen_none]

theorem stepG_unwind_close {ats : Array TypeId} {ty : TypeId} {cn : Array Bool} {r cap s rc : Nat} {buf : Array Value} {tm : Bool} (hd : a.defers = { target := .builtin .close ats ty cn, args := #[.chan (some r)] } :: ds)
    (h : w.heap[r]? = some (.chan cap buf false s rc tm)) (hq : (P.funcs[b.fn]?).any (·.norace) = false) :
    stepG P main (G { b.at a todo with mode := .returning } cs) w = .go (G { b.at ⟨a.tmps, ds⟩ todo with mode := .returning } cs) (w.setChan r cap buf true s rc tm) (closeEvents r) := by
  have hr : (builtin .close ats ty cn #[.chan (some r)]).run P w = .ok (.value (.tuple #[])) (w.setChan r cap buf true s rc tm) := by
    simp [go_sem, run_close_open _ _ h, World.setChan]
  have he : (builtin .close ats ty cn #[.chan (some r)]).events P w #[] = closeEvents r := by
    simp [go_sem, events_close_open _ _ h, closeEvents]
  have hs : seen P b.fn (closeEvents r) = closeEvents r := seen_eq hq (by intro e he f; simp only [closeEvents, List.mem_toArray, List.mem_cons, List.not_mem_nil, or_false] at he; rcases he with rfl | rfl <;> simp)
  simp [G, stepG, unwind, callDeferred, Frame.at, hd, invoke, hr, he, hs, GStep.after]
end
end Go.Proofs.YtgcaionclkbehaaGreatDoor
/-
  The child of letters.run: its birth, up to the close; whatever it reads by.
-/
set_option linter.unusedSectionVars false
set_option linter.unusedSimpArgs false
namespace Go.Proofs.YtgcaionclkbehaaGreatDoor
open Go.Conc Go.RowKit
/-- What the child of letters.run holds of the world as it is born; nv: what it reads by. -/
structure HB (N : Nat) (nv : Value) (w : World) : Prop where
  nx : w.heap[N + 1]? = some (.cells #[nv] 110)
  lv : w.heap[N + 3]? = some (.cells #[.chan (some (N + 2))] 158)
  ev : w.heap[N + 5]? = some (.cells #[.chan (some (N + 4))] 159)
  wb : w.heap[N + 7]? = some (.cells #[.pointer (some ⟨N + 6, 0, none⟩)] 240)
  fb : w.heap[N + 8]? = some (.cells #[.func (.func 112) #[] #[.pointer (some ⟨N + 5, 0, none⟩), .pointer (some ⟨N + 1, 0, none⟩), .pointer (some ⟨N + 3, 0, none⟩)]] 1)
/-- What stands of it when it has read. -/
structure HE (N : Nat) (val : Value) (w : World) : Prop where
  pc : ∃ t, w.heap[N]? = some (.cells #[val] t)
  wb : w.heap[N + 7]? = some (.cells #[.pointer (some ⟨N + 6, 0, none⟩)] 240)
  bf : ∃ o, w.heap[N + 8]? = some o
/-- What its call of letters.read needs. -/
structure HQ (N Pb : Nat) (s : ByteArray) (w : World) : Prop where
  pc : w.heap[N]? = some (.cells #[.slice (some ⟨Pb, 0, none⟩) 1 1] 62)
  ps : w.cell? ⟨Pb, 0, none⟩ = some (.string s)
  lo : Pb < N
def closeD (N : Nat) : Deferred := { target := .builtin .close #[159] 0 #[false], args := #[.chan (some (N + 4))] }
section
variable {N Pb : Nat} {Shun : Loc → Prop} {val nv : Value} {B : Nat} {Mine : Loc → Prop} {w w₁ : World}
theorem cell1 {b : Nat} {v : Value} {t : TypeId} (h : w.heap[b]? = some (.cells #[v] t)) : w.cell? ⟨b, 0, none⟩ = some v := by simp [World.cell?, h]
variable [Go.ConcR.Payload] [Go.ConcX.Payload]
variable {s : ByteArray}
theorem HB.rc (h : HB N nv w) (r : RC (kcfg Tryz.prog N Pb Shun val B Mine) w w₁) : HB N nv w₁ :=
  ⟨(r _ (.inr (.inl rfl))).trans h.nx, (r _ (.inr (.inr (.inl rfl)))).trans h.lv, (r _ (.inr (.inr (.inr (.inl rfl))))).trans h.ev, (r _ (.inr (.inr (.inr (.inr (.inl rfl)))))).trans h.wb, (r _ (.inr (.inr (.inr (.inr (.inr (.inl rfl))))))).trans h.fb⟩
theorem HB.rely {i : Ix} (h : HB N nv w) (r : RKd (kcfg Tryz.prog N Pb Shun val B Mine) i w w₁) : HB N nv w₁ := h.rc r.rc
theorem HB.size (h : HB N nv w) : N + 9 ≤ w.heap.size := by
  have := (Array.getElem?_eq_some_iff.1 h.fb).1
  omega
theorem HE.size (h : HE N val w) : N + 9 ≤ w.heap.size := by
  obtain ⟨o, ho⟩ := h.bf
  have := (Array.getElem?_eq_some_iff.1 ho).1
  omega
theorem HQ.rc (h : HQ N Pb s w) (r : RC (kcfg Tryz.prog N Pb Shun val B Mine) w w₁) : HQ N Pb s w₁ := by
  refine ⟨(r _ (.inl (.inl rfl))).trans h.pc, ?_, h.lo⟩
  have := r Pb (.inr (.inr (.inr (.inr (.inr (.inr rfl))))))
  rw [← h.ps]; unfold World.cell?; rw [this]
theorem HQ.rely {i : Ix} (h : HQ N Pb s w) (r : RKd (kcfg Tryz.prog N Pb Shun val B Mine) i w w₁) : HQ N Pb s w₁ := h.rc r.rc
theorem HB.hp (h : HB N nv w) (q : HQ N Pb s w) : HP N Pb s 0 0 0 #[] #[] w := ⟨h.lv, q.ps, q.lo, ⟨_, h.fb⟩, fun h => absurd h (by omega), fun h => absurd h (by omega), fun h => absurd h (by omega), fun h => absurd h (by omega), q.pc, h.wb⟩
/-- A step that only looks. -/
theorem dk_look {K : Cfg} {es : Array Event} (h : ∀ e ∈ es, EvK K w e) : DK K w w es :=
  ⟨rfl, rfl, rfl, fun _ _ _ => rfl, fun _ h => h, fun _ h1 h2 => absurd h1 (by omega), rfl, Nat.le_refl _, h⟩
theorem evl_still {o : Nat} {b : Nat} (hb : b = N + 1 ∨ b = N + 3 ∨ b = N + 5 ∨ b = N + 7 ∨ b = N + 8 ∨ b = Pb) : EvK (kcfg Tryz.prog N Pb Shun val B Mine) w ⟨.cell ⟨b, o, none⟩, false, false⟩ := ⟨_, _, rfl, .inr ⟨hb, rfl⟩⟩
theorem evl_kid {o : Nat} {wr : Bool} : EvK (kcfg Tryz.prog N Pb Shun val B Mine) w ⟨.cell ⟨N, o, none⟩, wr, false⟩ := ⟨_, _, rfl, .inl (.inl rfl)⟩
theorem opsX_defer {ι : Type} {P : Program} {main : Bool} {R : ι → World → World → Prop} {D : World → World → Array Event → Prop} {X : ι → Goroutine → World → Prop} {fn : FuncId} {Q : PostX ι} {a : Act} {w : World} {vs : ι} (C : Closed P main R D X) (T : ∀ i, Terms (R i) D)
    {ops : Array Oper} {i : Nat} {rest : List Nat} {o : Oper} {d : Deferred} (ho : ops[i]? = some o) (hw : Region.wanted o (yielded ops a.tmps) = true) (hr : ∀ w, (execOp a.eval o).run P w = .ok (.defer d) w) (he : ∀ w, (execOp a.eval o).events P w #[] = #[])
    (h : OpsX X fn ops rest vs Q (Act.put ⟨a.tmps, d :: a.defers⟩ o.dst undef) w) : OpsX X fn ops (i :: rest) vs Q a w := fun b k cs hb hk hc => C.step rfl fun w₁ h₁ => by
  rw [stepG_deferX ho hw hk (hr w₁) (he w₁)]
  exact ⟨(T vs).idle _, C.rely (h b k cs hb hk hc) h₁⟩
/-- What letters.OfBytes reads by. -/
def bytesV (N : Nat) : Value := .func (.func 62) #[] #[.pointer (some ⟨N, 0, none⟩)]
set_option maxRecDepth 100000 in
set_option maxHeartbeats 2000000 in
theorem ofbytes1_x (hF : HB N nv w) (hQ : HQ N Pb s w) (hz : s.size ≤ 9223372036854775806) :
    CallsX Tryz.prog (XK (kcfg Tryz.prog N Pb Shun (.slice (some ⟨Pb, 0, none⟩) 1 1) B Mine)) 62 #[sendV N, .pointer (some ⟨N, 0, none⟩)] (true, V (lettersOf s)) w (fun i' _ w' => i'.2 = [] ∧ HE N (.slice (some ⟨Pb, 0, none⟩) 1 1) w') := by
  have C : Closed Tryz.prog false (RKd (kcfg Tryz.prog N Pb Shun (.slice (some ⟨Pb, 0, none⟩) 1 1) B Mine)) (DK (kcfg Tryz.prog N Pb Shun (.slice (some ⟨Pb, 0, none⟩) 1 1) B Mine)) (XK (kcfg Tryz.prog N Pb Shun (.slice (some ⟨Pb, 0, none⟩) 1 1) B Mine)) := XK.closed (K := (kcfg Tryz.prog N Pb Shun (.slice (some ⟨Pb, 0, none⟩) 1 1) B Mine))
  have T := termsK (K := (kcfg Tryz.prog N Pb Shun (.slice (some ⟨Pb, 0, none⟩) 1 1) B Mine))
  have Tq := T (true, [])
  refine callsX_of Tryz.func62 (by rfl) rfl ?_
  simp only [Tryz.ntmps62, List.size_toArray, List.length_cons, List.length_nil, Nat.reduceAdd, Nat.reduceSub, Array.replicate_succ, Array.replicate_zero, List.push_toArray, List.append_toArray, List.nil_append, List.cons_append]
  refine wpX_region C T ?_
  simp only [List.size_toArray, List.length_cons, List.length_nil, Nat.reduceAdd, Nat.zero_add, List.range, List.range.loop]
  refine opsX_cons C rfl (by rfl) fun _ hR Kx hKx => ?_
  replace hF := HB.rely hF hR
  replace hQ := HQ.rely hQ hR
  clear hR
  have hc := cell1 hQ.pc
  go_simp
  try (unfold stored; go_simp)
  refine hKx _ _ ⟨?_, ?_⟩
  · refine dk_look ?_
    co_evs (exact evl_kid)
  clear hKx Kx
  try walk_nrm
  clear hc
  refine opsX_cons C rfl (by rfl) fun _ hR Kx hKx => ?_
  replace hF := HB.rely hF hR
  replace hQ := HQ.rely hQ hR
  clear hR
  go_simp
  try (unfold stored; go_simp)
  refine hKx _ _ ⟨?_, ?_⟩
  · co_quiet Tq
  clear hKx Kx
  try walk_nrm
  refine opsX_callX C T rfl (by rfl) rfl rfl (by simp [Act.eval]) (by rw [List.append_nil]) (read_x (hF.hp hQ) hz []) ?_
  rintro _ _ _ ⟨rfl, c1, c2, c, d, hF⟩
  refine opsX_nil C T ?_
  exact ⟨.inl rfl, rfl, _, resultsC_none (by rfl) _, rfl, ⟨_, hF.pc⟩, hF.wb, ⟨_, Array.getElem?_eq_getElem (i := N + 8) (by have := hF.size; omega)⟩⟩
set_option maxRecDepth 100000 in
set_option maxHeartbeats 2000000 in
theorem run1_x {f : FuncId} {cap : Array Value} {ls : List Value} (hF : HB N (.func (.func f) #[] cap) w)
    (hn : ∀ w₁, RC (kcfg Tryz.prog N Pb Shun val B Mine) w w₁ → CallsX Tryz.prog (XK (kcfg Tryz.prog N Pb Shun val B Mine)) f (#[sendV N] ++ cap) (true, ls) w₁ (fun i' _ w' => i'.2 = [] ∧ HE N val w')) :
    ∃ c, Tryz.f112.body = some c ∧ wpX (XK (kcfg Tryz.prog N Pb Shun val B Mine)) 112 c (true, ls) (fun i e a' w' => e = .normal ∧ i.2 = [] ∧ a'.defers = [closeD N] ∧ HE N val w') ⟨#[.pointer (some ⟨N + 5, 0, none⟩), .pointer (some ⟨N + 1, 0, none⟩), .pointer (some ⟨N + 3, 0, none⟩), undef, undef, undef, undef], []⟩ w := by
  have C : Closed Tryz.prog false (RKd (kcfg Tryz.prog N Pb Shun val B Mine)) (DK (kcfg Tryz.prog N Pb Shun val B Mine)) (XK (kcfg Tryz.prog N Pb Shun val B Mine)) := XK.closed (K := (kcfg Tryz.prog N Pb Shun val B Mine))
  have T := termsK (K := (kcfg Tryz.prog N Pb Shun val B Mine))
  have Tq := T (true, [])
  have mk : ∀ w es, (Instr.makeFunc (Fn.func 113) #[] #[Value.pointer (some ⟨N + 3, 0, none⟩)]).events Tryz.prog w es = es := fun w es => by simp [Instr.makeFunc]
  refine ⟨_, rfl, ?_⟩
  refine wpX_seq C T ?_
  refine wpX_region C T ?_
  simp only [List.size_toArray, List.length_cons, List.length_nil, Nat.reduceAdd, Nat.zero_add, List.range, List.range.loop]
  refine opsX_cons C rfl (by rfl) fun _ hR Kx hKx => ?_
  replace hF := HB.rely hF hR
  replace hn := fun w₁ h₁ => hn w₁ (RC.trans hR.rc h₁)
  clear hR
  have hc := cell1 hF.ev
  go_simp
  try (unfold stored; go_simp)
  refine hKx _ _ ⟨?_, ?_⟩
  · refine dk_look ?_
    co_evs (exact evl_still (.inr (.inr (.inl rfl))))
  clear hKx Kx
  try walk_nrm
  clear hc
  refine opsX_defer C T (d := closeD N) rfl (by rfl) (fun w => by simp [execOp, go_sem, resolve, closeD, Act.eval]) (fun w => by simp [execOp, go_sem, resolve, Act.eval]) ?_
  try walk_nrm
  refine opsX_nil C T ?_
  show wpX _ _ _ _ _ _ _
  refine wpX_region C T ?_
  simp only [List.size_toArray, List.length_cons, List.length_nil, Nat.reduceAdd, Nat.zero_add, List.range, List.range.loop]
  refine opsX_cons C rfl (by rfl) fun _ hR Kx hKx => ?_
  replace hF := HB.rely hF hR
  replace hn := fun w₁ h₁ => hn w₁ (RC.trans hR.rc h₁)
  clear hR
  have hc := cell1 hF.nx
  go_simp
  try (unfold stored; go_simp)
  refine hKx _ _ ⟨?_, ?_⟩
  · refine dk_look ?_
    co_evs (exact evl_still (.inl rfl))
  clear hKx Kx
  try walk_nrm
  clear hc
  refine opsX_cons C rfl (by rfl) fun _ hR Kx hKx => ?_
  replace hF := HB.rely hF hR
  replace hn := fun w₁ h₁ => hn w₁ (RC.trans hR.rc h₁)
  clear hR
  go_simp
  try (unfold stored; go_simp)
  refine hKx _ _ ⟨?_, ?_⟩
  · co_still Tq
  clear hKx Kx
  try walk_nrm
  refine opsX_callX C T rfl (by rfl) rfl rfl (by simp [Act.eval]; rfl) rfl (hn _ (RC.refl _)) ?_
  rintro i _ _ ⟨hi, hF⟩
  refine opsX_nil C T ?_
  exact ⟨rfl, hi, rfl, hF⟩
end
end Go.Proofs.YtgcaionclkbehaaGreatDoor
