/-
  The child of letters.run: from the close to its Done.
-/
import Derived.Test.YtgcaionclkbehaaGreatDoorBirth
import Derived.Test.YtgcaionclkbehaaGreatDoorLib
set_option linter.all false
set_option linter.unusedSectionVars false
set_option linter.unusedSimpArgs false
namespace Go.Proofs.YtgcaionclkbehaaGreatDoor
open Go.Conc Go.RowKit
/-- The lowest frame of a goroutine. -/
def bot (P : Program) : Frame := { (default : Frame) with fn := P.funcs.size, defers := [], mode := .panicking [goexitEntry] }
def dGo (N : Nat) : Deferred := { target := .fn (.func 201) #[.pointer (some ⟨N + 7, 0, none⟩)], args := #[] }
def fnChild (N : Nat) : Value := .func (.func 112) #[] #[.pointer (some ⟨N + 5, 0, none⟩), .pointer (some ⟨N + 1, 0, none⟩), .pointer (some ⟨N + 3, 0, none⟩)]
def opsGo (b : Option Code) : Array Oper := match b with | some (.seq _ (.region _ ops _)) => ops | _ => #[]
def frGo (b : Option Code) (N : Nat) : Frame := (baseD 200).at ⟨#[.pointer (some ⟨N + 7, 0, none⟩), .pointer (some ⟨N + 8, 0, none⟩), .func (.func 201) #[] #[.pointer (some ⟨N + 7, 0, none⟩)], fnChild N, undef], [dGo N]⟩ [.inRegion (opsGo b) [1]]
theorem Way.closed {P : Program} {main : Bool} {R : World → World → Prop} {D : World → World → Array Event → Prop} {Stop : Goroutine → World → Prop} (trans : ∀ a b c, R a b → R b c → R a c) : Closed P main (fun _ : Unit => R) D (fun _ => Way P main R D Stop) where
  rely := fun {_ _ _ _} h hr => Way.rely trans h hr
  step := by
    intro i g w hs h
    refine Way.step hs fun w₁ h₁ => ?_
    have hw := h w₁ h₁
    cases e : stepG P main g w₁ with
    | go g' w' es => rw [e, goes_go] at hw; exact ⟨g', w', es, rfl, hw.1, hw.2⟩
    | _ => rw [e] at hw; exact hw.elim
section
variable {N Pb : Nat} {Shun : Loc → Prop} {val : Value} {B : Nat} {Mine : Loc → Prop} {S : Nat → Prop} {w w₁ : World}
variable [Go.ConcR.Payload] [Go.ConcX.Payload]
variable {s : ByteArray}
/-- What the child holds behind its close. -/
structure HJ (N : Nat) (val : Value) (w : World) : Prop where
  pc : ∃ t, w.heap[N]? = some (.cells #[val] t)
  wb : w.heap[N + 7]? = some (.cells #[.pointer (some ⟨N + 6, 0, none⟩)] 240)
  live : Go.ConcN.WgLive 169 (N + 6) w
theorem HJ.rely (hS : S N) (h : HJ N val w) (r : RJ (kcfg Tryz.prog N Pb Shun val B Mine) S w w₁) : HJ N val w₁ := ⟨h.pc.imp fun _ z => (r.rc _ (.inl hS)).trans z, (r.rc _ (.inr (.inr (.inr (.inr (.inl rfl)))))).trans h.wb, r.live h.live⟩
theorem dj_same (hS : S N) {es : Array Event} (h : ∀ e ∈ es, EvB N Pb N N e) : DJ (kcfg Tryz.prog N Pb Shun val B Mine) S w w es := by
  refine ⟨⟨rfl, rfl, rfl, rfl, fun _ _ => rfl, id, fun _ _ => rfl⟩, fun e he => ?_⟩
  obtain ⟨a, wr, rfl, ha⟩ := h e he
  refine ⟨fun fn pos => ⟨rfl, fun x hx => ?_⟩, by simp, by simp, by simp⟩
  have hx' : x = ⟨.cell a, wr, .plain⟩ := by
    simp only [MemAct.ofEvent, MemAct.touch?] at hx
    cases wr <;> simpa using hx.symm
  subst hx'
  rcases ha with h | ⟨h, rfl⟩
  · exact .inr (.inl (.inl ⟨a, rfl, by have : a.block = N := by omega
                                       rw [this]; exact hS⟩))
  · exact .inr (.inr ⟨⟨a, rfl, h⟩, rfl⟩)
theorem dj_idle (hS : S N) (w : World) : DJ (kcfg Tryz.prog N Pb Shun val B Mine) S w w #[] := dj_same (Pb := Pb) hS (by simp)
set_option maxRecDepth 100000 in
set_option maxHeartbeats 2000000 in
theorem die_x (hS : S N) (hF : HJ N val w) (tm : Array Value) :
    Way Tryz.prog false (RJ (kcfg Tryz.prog N Pb Shun val B Mine) S) (DJ (kcfg Tryz.prog N Pb Shun val B Mine) S) (AtR0k (kcfg Tryz.prog N Pb Shun val B Mine)) (G { (base 112).at ⟨tm, []⟩ [] with mode := .returning } [frGo Tryz.f200.body N, (bot Tryz.prog)]) w := by
  have CJ := Way.closed (P := Tryz.prog) (main := false) (R := RJ (kcfg Tryz.prog N Pb Shun val B Mine) S) (D := DJ (kcfg Tryz.prog N Pb Shun val B Mine) S) (Stop := AtR0k (kcfg Tryz.prog N Pb Shun val B Mine)) (fun _ _ _ => RJ.trans (K := (kcfg Tryz.prog N Pb Shun val B Mine)))
  refine CJ.step (vs := ()) rfl fun _ h₁ => ?_
  replace hF := hF.rely hS h₁
  clear h₁
  rw [stepG_leave (b := base 112) rfl rfl Tryz.func112 (results_none rfl _ _ _) (events_results_none rfl _ _)]
  simp only [goes_go]
  refine ⟨dj_idle hS _, ?_⟩
  unfold frGo
  rw [Frame.finish_at]
  simp only [opsGo, Tryz.f200]
  try walk_nrm
  refine CJ.step (vs := ()) rfl fun _ h₁ => ?_
  replace hF := hF.rely hS h₁
  clear h₁
  rw [stepG_region_end]
  simp only [goes_go]
  refine ⟨dj_idle hS _, ?_⟩
  refine CJ.step (vs := ()) rfl fun _ h₁ => ?_
  replace hF := hF.rely hS h₁
  clear h₁
  rw [stepG_end]
  simp only [goes_go]
  refine ⟨dj_idle hS _, ?_⟩
  refine CJ.step (vs := ()) rfl fun _ h₁ => ?_
  replace hF := hF.rely hS h₁
  clear h₁
  rw [stepG_unwind_closure (f := 201) rfl Tryz.func201 (by rfl) rfl]
  simp only [goes_go]
  refine ⟨dj_idle hS _, ?_⟩
  simp only [Tryz.ntmps201, List.size_toArray, List.length_cons, List.length_nil, Nat.reduceAdd, Nat.reduceSub, Array.replicate_succ, Array.replicate_zero, List.push_toArray, List.append_toArray, List.nil_append, List.cons_append]
  refine CJ.step (vs := ()) rfl fun _ h₁ => ?_
  replace hF := hF.rely hS h₁
  clear h₁
  rw [stepG_seq]
  simp only [goes_go]
  refine ⟨dj_idle hS _, ?_⟩
  refine CJ.step (vs := ()) rfl fun _ h₁ => ?_
  replace hF := hF.rely hS h₁
  clear h₁
  rw [stepG_seq]
  simp only [goes_go]
  refine ⟨dj_idle hS _, ?_⟩
  refine CJ.step (vs := ()) rfl fun _ h₁ => ?_
  replace hF := hF.rely hS h₁
  clear h₁
  rw [stepG_region]
  simp only [goes_go, List.size_toArray, List.length_cons, List.length_nil, Nat.reduceAdd, Nat.zero_add, List.range, List.range.loop]
  refine ⟨dj_idle hS _, ?_⟩
  refine CJ.step (vs := ()) rfl fun _ h₁ => ?_
  replace hF := hF.rely hS h₁
  clear h₁
  rw [stepG_recover rfl (by rfl) rfl rfl rfl (by simp [execOp, go_sem]) (by simp [execOp, go_sem])]
  simp only [goes_go]
  refine ⟨dj_idle hS _, ?_⟩
  try walk_nrm
  refine CJ.step (vs := ()) rfl fun _ h₁ => ?_
  replace hF := hF.rely hS h₁
  clear h₁
  refine goes_oper_k rfl rfl (by decide) (fun Kx hKx => ?_)
  skip
  go_simp
  refine hKx _ _ ⟨?_, ?_⟩
  · refine dj_same hS ?_
    co_evs (skip)
  clear hKx Kx
  try walk_nrm
  refine CJ.step (vs := ()) rfl fun _ h₁ => ?_
  replace hF := hF.rely hS h₁
  clear h₁
  rw [stepG_region_end]
  simp only [goes_go]
  refine ⟨dj_idle hS _, ?_⟩
  refine CJ.step (vs := ()) rfl fun _ h₁ => ?_
  replace hF := hF.rely hS h₁
  clear h₁
  rw [stepG_seq]
  simp only [goes_go]
  refine ⟨dj_idle hS _, ?_⟩
  refine CJ.step (vs := ()) rfl fun _ h₁ => ?_
  replace hF := hF.rely hS h₁
  clear h₁
  rw [stepG_region]
  simp only [goes_go, List.size_toArray, List.length_cons, List.length_nil, Nat.reduceAdd, Nat.zero_add, List.range, List.range.loop]
  refine ⟨dj_idle hS _, ?_⟩
  refine CJ.step (vs := ()) rfl fun _ h₁ => ?_
  replace hF := hF.rely hS h₁
  clear h₁
  refine goes_oper_k rfl rfl (by decide) (fun Kx hKx => ?_)
  skip
  go_simp
  refine hKx _ _ ⟨?_, ?_⟩
  · refine dj_same hS ?_
    co_evs (skip)
  clear hKx Kx
  try walk_nrm
  refine CJ.step (vs := ()) rfl fun _ h₁ => ?_
  replace hF := hF.rely hS h₁
  clear h₁
  refine goes_oper_k rfl rfl (by decide) (fun Kx hKx => ?_)
  have bo : ∀ w es, (binOp .neq 20 .nilIface .nilIface).events Tryz.prog w es = es := fun w es => by rw [show binOp .neq 20 Value.nilIface Value.nilIface = (do pure (.bool (!(← Op.equal 20 .nilIface .nilIface)))) from rfl, show Op.equal 20 Value.nilIface Value.nilIface = Op.equalIn (9999 + 1) 20 .nilIface .nilIface from rfl, Op.equalIn]; simp [Tryz.runUnderlying20, go_sem, underlying, Tryz.underlying20]
  go_simp
  refine hKx _ _ ⟨?_, ?_⟩
  · refine dj_same hS ?_
    co_evs (skip)
  clear hKx Kx
  try walk_nrm
  refine CJ.step (vs := ()) rfl fun _ h₁ => ?_
  replace hF := hF.rely hS h₁
  clear h₁
  rw [stepG_region_end]
  simp only [goes_go]
  refine ⟨dj_idle hS _, ?_⟩
  refine CJ.step (vs := ()) rfl fun _ h₁ => ?_
  replace hF := hF.rely hS h₁
  clear h₁
  rw [stepG_cond (t := false) rfl]
  simp only [goes_go, if_true, if_false, Bool.false_eq_true, ↓reduceIte]
  refine ⟨dj_idle hS _, ?_⟩
  refine CJ.step (vs := ()) rfl fun _ h₁ => ?_
  replace hF := hF.rely hS h₁
  clear h₁
  rw [stepG_skip]
  simp only [goes_go]
  refine ⟨dj_idle hS _, ?_⟩
  refine CJ.step (vs := ()) rfl fun _ h₁ => ?_
  replace hF := hF.rely hS h₁
  clear h₁
  rw [stepG_region]
  simp only [goes_go, List.size_toArray, List.length_cons, List.length_nil, Nat.reduceAdd, Nat.zero_add, List.range, List.range.loop]
  refine ⟨dj_idle hS _, ?_⟩
  refine CJ.step (vs := ()) rfl fun _ h₁ => ?_
  replace hF := hF.rely hS h₁
  clear h₁
  refine goes_oper_k rfl rfl (by decide) (fun Kx hKx => ?_)
  have hc := cell1 hF.wb
  go_simp
  refine hKx _ _ ⟨?_, ?_⟩
  · refine dj_same hS ?_
    co_evs (exact evk_still (.inr (.inr (.inr (.inl rfl)))))
  clear hKx Kx
  try walk_nrm
  clear hc
  refine CJ.step (vs := ()) rfl fun _ h₁ => ?_
  replace hF := hF.rely hS h₁
  clear h₁
  refine goes_call rfl rfl (by decide) rfl wgLib.f_done (Go.ConcR.Gen.nm_done link) rfl ⟨dj_idle hS _, ?_⟩
  walk_nrmf Go.Conc.Lib.doneFn
  have hD := fun {b₀ : Frame} {a₀ : Act} {ops₀ : Array Oper} {i₀ : Nat} {rest₀ : List Nat} {k₀ : List Item} {cs : List Frame} {qt : Nat} hT w hK => @doneX _ link Tryz.prog wgLib (OwnK (kcfg Tryz.prog N Pb Shun val B Mine) S) (RdK (kcfg Tryz.prog N Pb Shun val B Mine)) (N + 6) N 1 0 1 val b₀ a₀ ops₀ i₀ rest₀ k₀ cs qt hT w hK
  simp only [Go.ConcR.Gen.body_done, Go.Conc.Lib.doneFn, Option.getD_some] at hD
  refine Way.weaken (fun _ _ h => RJ.rw (K := (kcfg Tryz.prog N Pb Shun val B Mine)) hS h) (fun _ _ _ h => h) (fun _ _ h => h) (way_of_goes (hD (qt := 5) ?_ _ ⟨hF.live, by obtain ⟨_, hp⟩ := hF.pc; simp [Go.ConcN.Has, World.cell?, hp]⟩))
  refine QuitsD.ctl rfl (fun _ => stepG_region_end) ?_
  refine QuitsD.ctl rfl (fun _ => stepG_end) ?_
  refine QuitsD.leaveD rfl rfl Tryz.func201 rfl rfl ?_
  refine QuitsD.ctl (g' := G (bot Tryz.prog) []) rfl (fun w => ?_) ?_
  · simp [G, stepG, unwind, doReturn, results, Frame.at, baseD, bot, Tryz.func200, Tryz.f200, seen, GStep.after, goexitEntry]
  refine QuitsD.ctl (g' := { G (bot Tryz.prog) [] with status := .finished }) rfl (fun w => ?_) ⟨rfl, rfl⟩
  simp [G, stepG, unwind, bot, goexitEntry, Frame.catches]
  rfl
end
end Go.Proofs.YtgcaionclkbehaaGreatDoor
