/-
  The child of letters.run, whole: 'kid_x'.
-/
import Derived.Test.YtgcaionclkbehaaGreatDoorDie
set_option linter.all false
set_option linter.unusedSectionVars false
set_option linter.unusedSimpArgs false
namespace Go.Proofs.YtgcaionclkbehaaGreatDoor
open Go.Conc Go.RowKit
def callGo (N : Nat) : Deferred := { target := .fn (.func 200) #[.pointer (some ⟨N + 7, 0, none⟩), .pointer (some ⟨N + 8, 0, none⟩)], args := #[] }
section
variable {N Pb : Nat} {Shun : Loc → Prop} {val : Value} {B : Nat} {Mine : Loc → Prop} {w w₁ : World}
variable [Go.ConcR.Payload] [Go.ConcX.Payload]
variable {s : ByteArray}
theorem close_x (hF : HE N val w) (tm : Array Value) : AtClose (kcfg Tryz.prog N Pb Shun val B Mine) (G { (base 112).at ⟨tm, [closeD N]⟩ [] with mode := .returning } [frGo Tryz.f200.body N, (bot Tryz.prog)]) w := by
  refine ⟨rfl, hF.size, rfl, G { (base 112).at ⟨tm, []⟩ [] with mode := .returning } [frGo Tryz.f200.body N, (bot Tryz.prog)], rfl, fun h => ?_, fun w₁ h₁ hl => ?_⟩
  · exact stepG_unwind_close (b := base 112) (a := ⟨tm, [closeD N]⟩) rfl h (by kernel_rfl)
  · exact die_x (.inl rfl) ⟨hF.pc.imp fun _ z => (h₁ _ (.inl (.inl rfl))).trans z, (h₁ _ (.inr (.inr (.inr (.inr (.inl rfl)))))).trans hF.wb, hl⟩ tm
theorem HE.rely {i : Ix} (h : HE N val w) (r : RKd (kcfg Tryz.prog N Pb Shun val B Mine) i w w₁) : HE N val w₁ := ⟨h.pc.imp fun _ z => (r.rc _ (.inl (.inl rfl))).trans z, (r.rc _ (.inr (.inr (.inr (.inr (.inl rfl)))))).trans h.wb, h.bf.imp fun _ z => (r.rc _ (.inr (.inr (.inr (.inr (.inr (.inl rfl))))))).trans z⟩
/-- The child's first step. -/
theorem born_step (N : Nat) (w : World) : stepG Tryz.prog false (born Tryz.prog (callGo N)) w =
    .go (G ((baseD 200).at ⟨#[.pointer (some ⟨N + 7, 0, none⟩), .pointer (some ⟨N + 8, 0, none⟩), undef, undef, undef], []⟩ [.code (Tryz.f200.body.getD .skip)]) [(bot Tryz.prog)]) w #[] := by
  simp [born, callGo, stepG, unwind, callDeferred, invoke, callFunc, Tryz.func200, Tryz.f200, seen, GStep.after, G, Frame.enter, Frame.at, baseD, bot]
theorem goes_call_val {P : Program} {main : Bool} {b : Frame} {a : Act} {k : List Item} {cs : List Frame} {w : World} {ops : Array Oper} {i : Nat} {rest : List Nat} {o : Oper} {K : Goroutine → World → Array Event → Prop} {x : Operand} {f : FuncId} {f₀ : Func} {c : Code} {first cap : Array Value} {args : Array Operand} {ats : Array TypeId}
    (ho : ops[i]? = some o) (hw : Region.wanted o (yielded ops a.tmps) = true) (hk : b.kind ≠ .early) (hop : o.op = .call { callee := .value x, args, argTypes := ats }) (hx : a.eval x = .func (.func f) first cap)
    (hf : P.funcs[f]? = some f₀) (hname : (f₀.name == "runtime.NumGoroutine") = false) (hb : f₀.body = some c)
    (h : K (G ((base f).at { tmps := (first ++ args.map a.eval ++ cap) ++ Array.replicate (f₀.ntmps - (first ++ args.map a.eval ++ cap).size) undef, defers := [] } [.code c]) (b.at a (.inRegion ops (i :: rest) :: k) :: cs)) w #[]) :
    (stepG P main (G (b.at a (.inRegion ops (i :: rest) :: k)) cs) w).goes K := by
  obtain ⟨hr, he⟩ := run_call_val (P := P) (w := w) hop hx hf hname (by rw [hb]; rfl)
  rw [stepG_enter ho hw hk hr, enter_at _ hf hb]
  have hl : listed P b.fn a o w = #[] := listed_nil he
  rw [hl]
  exact h
theorem dk_idle (w : World) : DK (kcfg Tryz.prog N Pb Shun val B Mine) w w #[] := dk_look (by simp)
set_option maxRecDepth 100000 in
set_option maxHeartbeats 2000000 in
theorem kid_x {f : FuncId} {cap : Array Value} {ls : List Value} (hF : HB N (.func (.func f) #[] cap) w)
    (hn : ∀ w₁, RC (kcfg Tryz.prog N Pb Shun val B Mine) w w₁ → CallsX Tryz.prog (XK (kcfg Tryz.prog N Pb Shun val B Mine)) f (#[sendV N] ++ cap) (true, ls) w₁ (fun i' _ w' => i'.2 = [] ∧ HE N val w')) : XK (kcfg Tryz.prog N Pb Shun val B Mine) (true, ls) (born Tryz.prog (callGo N)) w := by
  have C : Closed Tryz.prog false (RKd (kcfg Tryz.prog N Pb Shun val B Mine)) (DK (kcfg Tryz.prog N Pb Shun val B Mine)) (XK (kcfg Tryz.prog N Pb Shun val B Mine)) := XK.closed (K := (kcfg Tryz.prog N Pb Shun val B Mine))
  have mk : ∀ w es, (Instr.makeFunc (Fn.func 201) #[] #[Value.pointer (some ⟨N + 7, 0, none⟩)]).events Tryz.prog w es = es := fun w es => by simp [Instr.makeFunc]
  refine C.step rfl fun _ h₁ => ?_
  replace hF := hF.rely h₁
  replace hn := fun w₂ h₂ => hn w₂ (RC.trans h₁.rc h₂)
  clear h₁
  rw [born_step]
  simp only [goes_go]
  refine ⟨dk_idle _, ?_⟩
  simp only [Tryz.f200, Option.getD_some]
  refine C.step rfl fun _ h₁ => ?_
  replace hF := hF.rely h₁
  replace hn := fun w₂ h₂ => hn w₂ (RC.trans h₁.rc h₂)
  clear h₁
  rw [stepG_seq]
  simp only [goes_go]
  refine ⟨dk_idle _, ?_⟩
  refine C.step rfl fun _ h₁ => ?_
  replace hF := hF.rely h₁
  replace hn := fun w₂ h₂ => hn w₂ (RC.trans h₁.rc h₂)
  clear h₁
  rw [stepG_region]
  simp only [goes_go, List.size_toArray, List.length_cons, List.length_nil, Nat.reduceAdd, Nat.zero_add, List.range, List.range.loop]
  refine ⟨dk_idle _, ?_⟩
  refine C.step rfl fun _ h₁ => ?_
  replace hF := hF.rely h₁
  replace hn := fun w₂ h₂ => hn w₂ (RC.trans h₁.rc h₂)
  clear h₁
  refine goes_oper_k rfl rfl (by decide) (fun Kx hKx => ?_)
  skip
  go_simp
  refine hKx _ _ ⟨?_, ?_⟩
  · refine dk_look ?_
    co_evs (skip)
  clear hKx Kx
  try walk_nrm
  refine C.step rfl fun _ h₁ => ?_
  replace hF := hF.rely h₁
  replace hn := fun w₂ h₂ => hn w₂ (RC.trans h₁.rc h₂)
  clear h₁
  rw [stepG_deferX (d := dGo N) rfl (by rfl) (by decide) (by simp [execOp, go_sem, resolve, Deferred.ofValue, dGo, Act.eval]) (by simp [execOp, go_sem, resolve, Deferred.ofValue, Act.eval])]
  simp only [goes_go]
  refine ⟨dk_idle _, ?_⟩
  try walk_nrm
  refine C.step rfl fun _ h₁ => ?_
  replace hF := hF.rely h₁
  replace hn := fun w₂ h₂ => hn w₂ (RC.trans h₁.rc h₂)
  clear h₁
  rw [stepG_region_end]
  simp only [goes_go]
  refine ⟨dk_idle _, ?_⟩
  refine C.step rfl fun _ h₁ => ?_
  replace hF := hF.rely h₁
  replace hn := fun w₂ h₂ => hn w₂ (RC.trans h₁.rc h₂)
  clear h₁
  rw [stepG_region]
  simp only [goes_go, List.size_toArray, List.length_cons, List.length_nil, Nat.reduceAdd, Nat.zero_add, List.range, List.range.loop]
  refine ⟨dk_idle _, ?_⟩
  refine C.step rfl fun _ h₁ => ?_
  replace hF := hF.rely h₁
  replace hn := fun w₂ h₂ => hn w₂ (RC.trans h₁.rc h₂)
  clear h₁
  refine goes_oper_k rfl rfl (by decide) (fun Kx hKx => ?_)
  have hc := cell1 hF.fb
  go_simp
  refine hKx _ _ ⟨?_, ?_⟩
  · refine dk_look ?_
    co_evs (exact evl_still (.inr (.inr (.inr (.inr (.inl rfl))))))
  clear hKx Kx
  try walk_nrm
  clear hc
  refine C.step rfl fun _ h₁ => ?_
  replace hF := hF.rely h₁
  replace hn := fun w₂ h₂ => hn w₂ (RC.trans h₁.rc h₂)
  clear h₁
  refine goes_call_val rfl rfl (by decide) rfl rfl Tryz.func112 (by rfl) rfl ⟨dk_idle _, ?_⟩
  simp only [Tryz.ntmps112, Act.eval, List.map_toArray, List.map_nil, List.size_toArray, List.length_cons, List.length_nil, Nat.reduceAdd, Nat.reduceSub, Array.replicate_succ, Array.replicate_zero, List.push_toArray, List.append_toArray, List.nil_append, List.cons_append]
  obtain ⟨c74, hc74, hW⟩ := run1_x hF hn
  obtain rfl := Option.some.inj hc74
  refine hW (base 112) [] _ rfl (by decide) ?_
  rintro ⟨fr, vs⟩ e a w ⟨rfl, hvs, hd, hF⟩
  obtain rfl : vs = [] := hvs
  show XK (kcfg Tryz.prog N Pb Shun val B Mine) _ _ _
  refine C.step rfl fun _ h₁ => ?_
  replace hF := hF.rely h₁
  clear h₁
  rw [stepG_end]
  simp only [goes_go]
  refine ⟨dk_idle _, ?_⟩
  refine Way.stop fun w₁ h₁ => ?_
  replace hF := HE.rely hF h₁
  obtain ⟨tm, ds⟩ := a
  obtain rfl : ds = [closeD N] := hd
  exact close_x hF tm
end
end Go.Proofs.YtgcaionclkbehaaGreatDoor
