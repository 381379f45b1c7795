/-
  The child of letters.Each: from the close to its Done.
-/
import Derived.Test.YtmabfdpfegbfkaaGreatBirth
import Derived.Test.YtmabfdpfegbfkaaGreatDone
import Derived.Test.YtmabfdpfegbfkaaGreatLib
set_option linter.all false
set_option linter.unusedSectionVars false
set_option linter.unusedSimpArgs false
namespace Go.Proofs.YtmabfdpfegbfkaaGreat
open Go.Conc Go.RowKit
/-- The lowest frame of a goroutine. -/
def bot (P : Program) : Frame := { (default : Frame) with fn := P.funcs.size, defers := [], mode := .panicking [goexitEntry] }
abbrev pieceV (Pb : Nat) : Value := .slice (some ⟨Pb, 0, none⟩) 1 1
def d74 (N : Nat) : Deferred := { target := .fn (.func 74) #[.pointer (some ⟨N + 6, 0, none⟩)], args := #[] }
def fn48 (N : Nat) : Value := .func (.func 48) #[] #[.pointer (some ⟨N + 4, 0, none⟩), .pointer (some ⟨N, 0, none⟩), .pointer (some ⟨N + 2, 0, none⟩)]
def ops73 (b : Option Code) : Array Oper := match b with | some (.seq _ (.region _ ops _)) => ops | _ => #[]
def fr73 (b : Option Code) (N : Nat) : Frame := (baseD 73).at ⟨#[.pointer (some ⟨N + 6, 0, none⟩), .pointer (some ⟨N + 7, 0, none⟩), .func (.func 74) #[] #[.pointer (some ⟨N + 6, 0, none⟩)], fn48 N, undef], [d74 N]⟩ [.inRegion (ops73 b) [1]]
theorem Way.closed {P : Program} {main : Bool} {R : World → World → Prop} {D : World → World → Array Event → Prop} {Stop : Goroutine → World → Prop} (trans : ∀ a b c, R a b → R b c → R a c) : Closed P main (fun _ : Unit => R) D (fun _ => Way P main R D Stop) where
  rely := fun {_ _ _ _} h hr => Way.rely trans h hr
  step := by
    intro i g w hs h
    refine Way.step hs fun w₁ h₁ => ?_
    have hw := h w₁ h₁
    cases e : stepG P main g w₁ with
    | go g' w' es => rw [e, goes_go] at hw; exact ⟨g', w', es, rfl, hw.1, hw.2⟩
    | _ => rw [e] at hw; exact hw.elim
section
variable {N Pb : Nat} {Shun : Loc → Prop} {val : Value} {B Low : Nat} {Mine : Loc → Prop} {c : CS} {d : DS} {w w₁ : World}
variable [Go.ConcR.Payload] [Go.ConcX.Payload]
variable {s : ByteArray}
/-- What the child holds behind its close. -/
structure HJ (N Pb : Nat) (w : World) : Prop where
  pc : w.heap[N]? = some (.cells #[.slice (some ⟨Pb, 0, none⟩) 1 1] 29)
  wb : w.heap[N + 6]? = some (.cells #[.pointer (some ⟨N + 5, 0, none⟩)] 137)
  live : Go.ConcN.WgLive 114 (N + 5) w
theorem HJ.rely (h : HJ N Pb w) (r : RJ (kcfg Tryz.prog N Pb Shun val B Low Mine) w w₁) : HJ N Pb w₁ := ⟨(r.rc _ (.inl (.inl rfl))).trans h.pc, (r.rc _ (.inr (.inr (.inr (.inl rfl))))).trans h.wb, r.live h.live⟩
theorem dj_same {es : Array Event} (h : ∀ e ∈ es, EvK (kcfg Tryz.prog N Pb Shun val B Low Mine) e) : DJ (kcfg Tryz.prog N Pb Shun val B Low Mine) w w es := by
  refine ⟨⟨rfl, rfl, rfl, rfl, fun _ _ => rfl, id, fun _ _ => rfl⟩, fun e he => ?_⟩
  obtain ⟨a, wr, rfl, ha⟩ := h e he
  refine ⟨fun fn pos => ⟨rfl, fun x hx => ?_⟩, by simp, by simp, by simp⟩
  have hx' : x = ⟨.cell a, wr, .plain⟩ := by
    simp only [MemAct.ofEvent, MemAct.touch?] at hx
    cases wr <;> simpa using hx.symm
  subst hx'
  rcases ha with h | ⟨h, rfl⟩
  · exact .inr (.inl (.inl ⟨a, rfl, h⟩))
  · exact .inr (.inr ⟨⟨a, rfl, h⟩, rfl⟩)
theorem dj_idle (w : World) : DJ (kcfg Tryz.prog N Pb Shun val B Low Mine) w w #[] := dj_same (by simp)
set_option maxRecDepth 100000 in
set_option maxHeartbeats 2000000 in
theorem die_x (hF : HJ N Pb w) (tm : Array Value) (hfit : Cfg.Fit (kcfg Tryz.prog N Pb Shun (pieceV Pb) B Low Mine)) :
    Way Tryz.prog false (RJ (kcfg Tryz.prog N Pb Shun (pieceV Pb) B Low Mine)) (DJ (kcfg Tryz.prog N Pb Shun (pieceV Pb) B Low Mine)) (AtR0k (kcfg Tryz.prog N Pb Shun (pieceV Pb) B Low Mine)) (G { (base 48).at ⟨tm, []⟩ [] with mode := .returning } [fr73 Tryz.f73.body N, (bot Tryz.prog)]) w := by
  have CJ := Way.closed (P := Tryz.prog) (main := false) (R := RJ (kcfg Tryz.prog N Pb Shun (pieceV Pb) B Low Mine)) (D := DJ (kcfg Tryz.prog N Pb Shun (pieceV Pb) B Low Mine)) (Stop := AtR0k (kcfg Tryz.prog N Pb Shun (pieceV Pb) B Low Mine)) (fun _ _ _ => RJ.trans (K := (kcfg Tryz.prog N Pb Shun (pieceV Pb) B Low Mine)))
  refine CJ.step (vs := ()) rfl fun _ h₁ => ?_
  replace hF := hF.rely h₁
  clear h₁
  rw [stepG_leave (b := base 48) rfl rfl Tryz.func48 (results_none rfl _ _ _) (events_results_none rfl _ _)]
  simp only [goes_go]
  refine ⟨dj_idle _, ?_⟩
  unfold fr73
  rw [Frame.finish_at]
  simp only [ops73, Tryz.f73]
  try walk_nrm
  refine CJ.step (vs := ()) rfl fun _ h₁ => ?_
  replace hF := hF.rely h₁
  clear h₁
  rw [stepG_region_end]
  simp only [goes_go]
  refine ⟨dj_idle _, ?_⟩
  refine CJ.step (vs := ()) rfl fun _ h₁ => ?_
  replace hF := hF.rely h₁
  clear h₁
  rw [stepG_end]
  simp only [goes_go]
  refine ⟨dj_idle _, ?_⟩
  refine CJ.step (vs := ()) rfl fun _ h₁ => ?_
  replace hF := hF.rely h₁
  clear h₁
  rw [stepG_unwind_closure (f := 74) rfl Tryz.func74 (by rfl) rfl]
  simp only [goes_go]
  refine ⟨dj_idle _, ?_⟩
  simp only [Tryz.ntmps74, List.size_toArray, List.length_cons, List.length_nil, Nat.reduceAdd, Nat.reduceSub, Array.replicate_succ, Array.replicate_zero, List.push_toArray, List.append_toArray, List.nil_append, List.cons_append]
  refine CJ.step (vs := ()) rfl fun _ h₁ => ?_
  replace hF := hF.rely h₁
  clear h₁
  rw [stepG_seq]
  simp only [goes_go]
  refine ⟨dj_idle _, ?_⟩
  refine CJ.step (vs := ()) rfl fun _ h₁ => ?_
  replace hF := hF.rely h₁
  clear h₁
  rw [stepG_seq]
  simp only [goes_go]
  refine ⟨dj_idle _, ?_⟩
  refine CJ.step (vs := ()) rfl fun _ h₁ => ?_
  replace hF := hF.rely h₁
  clear h₁
  rw [stepG_region]
  simp only [goes_go, List.size_toArray, List.length_cons, List.length_nil, Nat.reduceAdd, Nat.zero_add, List.range, List.range.loop]
  refine ⟨dj_idle _, ?_⟩
  refine CJ.step (vs := ()) rfl fun _ h₁ => ?_
  replace hF := hF.rely h₁
  clear h₁
  rw [stepG_recover rfl (by rfl) rfl rfl rfl (by simp [execOp, go_sem]) (by simp [execOp, go_sem])]
  simp only [goes_go]
  refine ⟨dj_idle _, ?_⟩
  try walk_nrm
  refine CJ.step (vs := ()) rfl fun _ h₁ => ?_
  replace hF := hF.rely h₁
  clear h₁
  refine goes_oper_k rfl rfl (by decide) (fun Kx hKx => ?_)
  skip
  go_simp
  refine hKx _ _ ⟨?_, ?_⟩
  · refine dj_same ?_
    co_evs (skip)
  clear hKx Kx
  try walk_nrm
  refine CJ.step (vs := ()) rfl fun _ h₁ => ?_
  replace hF := hF.rely h₁
  clear h₁
  rw [stepG_region_end]
  simp only [goes_go]
  refine ⟨dj_idle _, ?_⟩
  refine CJ.step (vs := ()) rfl fun _ h₁ => ?_
  replace hF := hF.rely h₁
  clear h₁
  rw [stepG_seq]
  simp only [goes_go]
  refine ⟨dj_idle _, ?_⟩
  refine CJ.step (vs := ()) rfl fun _ h₁ => ?_
  replace hF := hF.rely h₁
  clear h₁
  rw [stepG_region]
  simp only [goes_go, List.size_toArray, List.length_cons, List.length_nil, Nat.reduceAdd, Nat.zero_add, List.range, List.range.loop]
  refine ⟨dj_idle _, ?_⟩
  refine CJ.step (vs := ()) rfl fun _ h₁ => ?_
  replace hF := hF.rely h₁
  clear h₁
  refine goes_oper_k rfl rfl (by decide) (fun Kx hKx => ?_)
  skip
  go_simp
  refine hKx _ _ ⟨?_, ?_⟩
  · refine dj_same ?_
    co_evs (skip)
  clear hKx Kx
  try walk_nrm
  refine CJ.step (vs := ()) rfl fun _ h₁ => ?_
  replace hF := hF.rely h₁
  clear h₁
  refine goes_oper_k rfl rfl (by decide) (fun Kx hKx => ?_)
  have bo : ∀ w es, (binOp .neq 20 .nilIface .nilIface).events Tryz.prog w es = es := fun w es => by rw [show binOp .neq 20 Value.nilIface Value.nilIface = (do pure (.bool (!(← Op.equal 20 .nilIface .nilIface)))) from rfl, show Op.equal 20 Value.nilIface Value.nilIface = Op.equalIn (9999 + 1) 20 .nilIface .nilIface from rfl, Op.equalIn]; simp [Tryz.runUnderlying20, go_sem, underlying, Tryz.underlying20]
  go_simp
  refine hKx _ _ ⟨?_, ?_⟩
  · refine dj_same ?_
    co_evs (skip)
  clear hKx Kx
  try walk_nrm
  refine CJ.step (vs := ()) rfl fun _ h₁ => ?_
  replace hF := hF.rely h₁
  clear h₁
  rw [stepG_region_end]
  simp only [goes_go]
  refine ⟨dj_idle _, ?_⟩
  refine CJ.step (vs := ()) rfl fun _ h₁ => ?_
  replace hF := hF.rely h₁
  clear h₁
  rw [stepG_cond (t := false) rfl]
  simp only [goes_go, if_true, if_false, Bool.false_eq_true, ↓reduceIte]
  refine ⟨dj_idle _, ?_⟩
  refine CJ.step (vs := ()) rfl fun _ h₁ => ?_
  replace hF := hF.rely h₁
  clear h₁
  rw [stepG_skip]
  simp only [goes_go]
  refine ⟨dj_idle _, ?_⟩
  refine CJ.step (vs := ()) rfl fun _ h₁ => ?_
  replace hF := hF.rely h₁
  clear h₁
  rw [stepG_region]
  simp only [goes_go, List.size_toArray, List.length_cons, List.length_nil, Nat.reduceAdd, Nat.zero_add, List.range, List.range.loop]
  refine ⟨dj_idle _, ?_⟩
  refine CJ.step (vs := ()) rfl fun _ h₁ => ?_
  replace hF := hF.rely h₁
  clear h₁
  refine goes_oper_k rfl rfl (by decide) (fun Kx hKx => ?_)
  have hc := cell1 hF.wb
  go_simp
  refine hKx _ _ ⟨?_, ?_⟩
  · refine dj_same ?_
    co_evs (exact evk_still (.inr (.inr (.inl rfl))))
  clear hKx Kx
  try walk_nrm
  clear hc
  refine CJ.step (vs := ()) rfl fun _ h₁ => ?_
  replace hF := hF.rely h₁
  clear h₁
  refine goes_call rfl rfl (by decide) rfl wgLib.f_done (Go.ConcR.Gen.nm_done link) rfl ⟨dj_idle _, ?_⟩
  walk_nrmf Go.Conc.Lib.doneFn
  have hD := fun {b₀ : Frame} {a₀ : Act} {ops₀ : Array Oper} {i₀ : Nat} {rest₀ : List Nat} {k₀ : List Item} {cs : List Frame} {qt : Nat} hT w hK => @doneX _ link Tryz.prog wgLib (OwnK (kcfg Tryz.prog N Pb Shun (pieceV Pb) B Low Mine)) (RdK (kcfg Tryz.prog N Pb Shun (pieceV Pb) B Low Mine)) (N + 5) N 1 0 1 (pieceV Pb) b₀ a₀ ops₀ i₀ rest₀ k₀ cs qt hT w hK
  simp only [Go.ConcR.Gen.body_done, Go.Conc.Lib.doneFn, Option.getD_some] at hD
  refine Way.weaken (fun _ _ h => RJ.rw hfit h) (fun _ _ _ h => h) (fun _ _ h => h) (way_of_goes (hD (qt := 5) ?_ _ ⟨hF.live, by simp [Go.ConcN.Has, World.cell?, hF.pc]⟩))
  refine QuitsD.ctl rfl (fun _ => stepG_region_end) ?_
  refine QuitsD.ctl rfl (fun _ => stepG_end) ?_
  refine QuitsD.leaveD rfl rfl Tryz.func74 rfl rfl ?_
  refine QuitsD.ctl (g' := G (bot Tryz.prog) []) rfl (fun w => ?_) ?_
  · simp [G, stepG, unwind, doReturn, results, Frame.at, baseD, bot, Tryz.func73, Tryz.f73, seen, GStep.after, goexitEntry]
  refine QuitsD.ctl (g' := { G (bot Tryz.prog) [] with status := .finished }) rfl (fun w => ?_) ⟨rfl, rfl⟩
  simp [G, stepG, unwind, bot, goexitEntry, Frame.catches]
  rfl
end
end Go.Proofs.YtmabfdpfegbfkaaGreat
