/-
  Goroutine 0 beside the child: from the go statement on.
-/
import Derived.Test.YtmabfdpfegbfkaaGreatWait
set_option linter.all false
set_option linter.unusedSectionVars false
set_option linter.unusedSimpArgs false
namespace Go.Proofs.YtmabfdpfegbfkaaGreat
open Go.Conc Go.RowKit
/-- The slots of letters.Each, at its go statement; at its Wait. -/
def t18go (N Pb Bb : Nat) : Array Value := #[pieceV Pb, .func (.func 19) #[] #[.pointer (some ⟨Bb, 0, none⟩)], .pointer (some ⟨N, 0, none⟩), undef, .pointer (some ⟨N + 2, 0, none⟩), .pointer (some ⟨N + 4, 0, none⟩), .pointer (some ⟨N + 5, 0, none⟩), .chan (some (N + 1)), .chan (some (N + 3)), fn48 N, undef, undef, undef, undef, undef, undef]
def t18wait (N Pb Bb : Nat) : Array Value := #[pieceV Pb, .func (.func 19) #[] #[.pointer (some ⟨Bb, 0, none⟩)], .pointer (some ⟨N, 0, none⟩), undef, .pointer (some ⟨N + 2, 0, none⟩), .pointer (some ⟨N + 4, 0, none⟩), .pointer (some ⟨N + 5, 0, none⟩), .chan (some (N + 1)), .chan (some (N + 3)), fn48 N, .tuple #[], .chan (some (N + 1)), .chan (some (N + 3)), .func (.func 19) #[] #[.pointer (some ⟨Bb, 0, none⟩)], .tuple #[], undef]
def ops47 (b : Option Code) : Array Oper := match b with | some (.seq _ (.seq _ (.region _ o _))) => o | _ => #[]
section
variable {N Pb Bb : Nat} {Shun : Loc → Prop} {val : Value} {B Low : Nat} {Mine : Loc → Prop} {w₀ w w₁ : World} {AnchW : Goroutine → World → Prop} {p u v : Value} {n : Nat} {xs : List Value}
variable [Go.ConcR.Payload] [Go.ConcX.Payload]
variable [Go.ConcX.Shy (Cfg.Wg (kcfg Tryz.prog N Pb Shun (pieceV Pb) B Low Mine)) (Cfg.C (kcfg Tryz.prog N Pb Shun (pieceV Pb) B Low Mine))]
variable {vs : List Value} {s : ByteArray}
/-- What goroutine 0 holds behind its go statement. -/
structure HG (w₀ : World) (N Pb Bb : Nat) (w : World) : Prop where
  lv : w.heap[N + 2]? = some (.cells #[.chan (some (N + 1))] 103)
  ev : w.heap[N + 4]? = some (.cells #[.chan (some (N + 3))] 104)
  m0 : HM0 w₀ N Pb Bb w
theorem HG.rely (h : HG w₀ N Pb Bb w) (r : RMd (kcfg Tryz.prog N Pb Shun (pieceV Pb) B Low Mine) (.front vs) w w₁) : HG w₀ N Pb Bb w₁ := by
  have r' : RM (kcfg Tryz.prog N Pb Shun (pieceV Pb) B Low Mine) w w₁ := r
  have hb : ∀ b, (b = N + 2 ∨ b = N + 4) ∨ b < N → w₁.heap[b]? = w.heap[b]? := fun b hb => r'.block b (by show ¬ (b = N ∨ b = N + 8 ∨ b = N + 9); omega) (by show ¬ (b = N + 1 ∨ b = N + 3 ∨ b = N + 5); omega)
  exact ⟨(hb _ (.inl (.inl rfl))).trans h.lv, (hb _ (.inl (.inr rfl))).trans h.ev, (hb _ (.inr h.m0.lo)).trans h.m0.bd, h.m0.lo, h.m0.np, h.m0.plo, r'.tape.trans h.m0.old.tape, r'.os.trans h.m0.old.os, r'.output.trans h.m0.old.output, fun b h1 h2 => (hb b (.inr h1)).trans (h.m0.old.block b h1 h2)⟩
theorem dm0_idle (w : World) : DM0 (kcfg Tryz.prog N Pb Shun (pieceV Pb) B Low Mine) w w #[] := ⟨rfl, by simp⟩
theorem evm_still {e : Event} {ad : Addr} (hc : ∀ o : Nat, ∀ b, b = N + 2 ∨ b = N + 4 → ¬ Shun (.cell ⟨b, o, none⟩)) {b o : Nat} (hb : b = N + 2 ∨ b = N + 4) (hp : Pb < N) : EvM (kcfg Tryz.prog N Pb Shun (pieceV Pb) B Low Mine) ⟨.cell ⟨b, o, none⟩, false, false⟩ := by
  refine ⟨fun x hx => ?_, by simp, by simp, by simp [MemAct.ofEvent]⟩
  have hx' : x = ⟨.cell ⟨b, o, none⟩, false, .plain⟩ := by simpa [MemAct.ofEvent, MemAct.touch?] using hx.symm
  subst hx'
  refine ⟨?_, fun _ => rfl, fun h => absurd h (hc o b hb)⟩
  rintro (⟨a, e, h⟩ | e)
  · cases e
    have h' : b = N ∨ b = N + 8 ∨ b = N + 9 := h
    omega
  · cases e
set_option maxRecDepth 100000 in
set_option maxHeartbeats 2000000 in
theorem main_x {b : Frame} {k : List Item} {cs : List Frame} {tm : Array Value} (hb : b.fn = 18) (hk : b.kind ≠ .early) (hS : Clear N Bb Shun) (hc2 : ∀ o : Nat, ∀ b, b = N + 2 ∨ b = N + 4 → ¬ Shun (.cell ⟨b, o, none⟩)) (l : List Int) (hg : ∀ r ∈ l, Good r) (hn : 4 * l.length ≤ 1000000) (hF : HG w₀ N Pb Bb w) :
    XM (kcfg Tryz.prog N Pb Shun (pieceV Pb) B Low Mine) (Go.ConcX.Gen.AnchW7 link (FW w₀ N Pb Bb (cellsOf l).length (cellsOf l)) (Cfg.Wg (kcfg Tryz.prog N Pb Shun (pieceV Pb) B Low Mine)) (Cfg.C (kcfg Tryz.prog N Pb Shun (pieceV Pb) B Low Mine)) [pieceV Pb] (b.at ⟨t18wait N Pb Bb, []⟩ (.inRegion (ops18 Tryz.f18.body 6) [0] :: k)) cs) (.front (V l))
      (G ((base 47).at ⟨tm, []⟩ [.inRegion (ops47 Tryz.f47.body) []]) (b.at ⟨t18go N Pb Bb, []⟩ (.inRegion (ops18 Tryz.f18.body 4) [1] :: .code (.seq (.region 5 (ops18 Tryz.f18.body 5) false) (.region 6 (ops18 Tryz.f18.body 6) false)) :: k) :: cs)) w := by
  generalize hA : Go.ConcX.Gen.AnchW7 link (FW w₀ N Pb Bb (cellsOf l).length (cellsOf l)) (Cfg.Wg (kcfg Tryz.prog N Pb Shun (pieceV Pb) B Low Mine)) (Cfg.C (kcfg Tryz.prog N Pb Shun (pieceV Pb) B Low Mine)) [pieceV Pb] (b.at ⟨t18wait N Pb Bb, []⟩ (.inRegion (ops18 Tryz.f18.body 6) [0] :: k)) cs = AW
  have C : ClosedI Tryz.prog true (RMd (kcfg Tryz.prog N Pb Shun (pieceV Pb) B Low Mine)) (DMd (kcfg Tryz.prog N Pb Shun (pieceV Pb) B Low Mine)) (XM (kcfg Tryz.prog N Pb Shun (pieceV Pb) B Low Mine) AW) := XM.closed (K := (kcfg Tryz.prog N Pb Shun (pieceV Pb) B Low Mine))
  have T := termsM (K := (kcfg Tryz.prog N Pb Shun (pieceV Pb) B Low Mine))
  refine C.step rfl fun _ h₁ => ?_
  replace hF := hF.rely h₁
  clear h₁
  rw [stepG_region_end]
  simp only [goes_go]
  refine ⟨dm0_idle _, ?_⟩
  refine C.step rfl fun _ h₁ => ?_
  replace hF := hF.rely h₁
  clear h₁
  rw [stepG_end]
  simp only [goes_go]
  refine ⟨dm0_idle _, ?_⟩
  refine C.step rfl fun _ h₁ => ?_
  replace hF := hF.rely h₁
  clear h₁
  rw [stepG_leave (b := base 47) rfl rfl Tryz.func47 (results_none rfl _ _ _) (events_results_none rfl _ _)]
  simp only [goes_go]
  refine ⟨dm0_idle _, ?_⟩
  rw [Frame.finish_at]
  have hop : ((ops18 Tryz.f18.body 4)[1]?).bind (·.dst) = some 10 := by rfl
  rw [hop]
  refine C.step rfl fun _ h₁ => ?_
  replace hF := hF.rely h₁
  clear h₁
  rw [stepG_region_end]
  simp only [goes_go]
  refine ⟨dm0_idle _, ?_⟩
  refine C.step rfl fun _ h₁ => ?_
  replace hF := hF.rely h₁
  clear h₁
  rw [stepG_seq]
  simp only [goes_go]
  refine ⟨dm0_idle _, ?_⟩
  have h5 : ∀ w, HG w₀ N Pb Bb w → wpI (XM (kcfg Tryz.prog N Pb Shun (pieceV Pb) B Low Mine) AW) 18 (.region 5 (ops18 Tryz.f18.body 5) false) (.front (V l)) (fun i e a w => e = .normal ∧ i = .join ∧ a = ⟨t18wait N Pb Bb, []⟩ ∧ ∃ p v, HQ w₀ N Pb Bb (kcfg Tryz.prog N Pb Shun (pieceV Pb) B Low Mine) p v (cellsOf l).length (cellsOf l) w) ⟨#[pieceV Pb, .func (.func 19) #[] #[.pointer (some ⟨Bb, 0, none⟩)], .pointer (some ⟨N, 0, none⟩), undef, .pointer (some ⟨N + 2, 0, none⟩), .pointer (some ⟨N + 4, 0, none⟩), .pointer (some ⟨N + 5, 0, none⟩), .chan (some (N + 1)), .chan (some (N + 3)), fn48 N, .tuple #[], undef, undef, undef, undef, undef], []⟩ w := by
    intro w hF
    simp only [ops18, code18, Tryz.f18]
    refine wpI_region C T ?_
    simp only [Nat.reduceEqDiff, if_true, if_false, reduceIte, List.size_toArray, List.length_cons, List.length_nil, Nat.reduceAdd, Nat.zero_add, List.range, List.range.loop]
    refine opsI_cons C rfl (by rfl) fun _ hR Kx hKx => ?_
    replace hF := HG.rely hF hR
    clear hR
    have hc := cell1 hF.lv
    go_simp
    try (unfold stored; go_simp)
    refine hKx _ _ ⟨?_, ?_⟩
    · refine ⟨rfl, ?_⟩
      co_evs (exact evm_still (e := ⟨.mark .disable, false, false⟩) (ad := ⟨0, 0, none⟩) hc2 (.inl rfl) hF.m0.plo)
    clear hKx Kx
    try walk_nrm
    clear hc
    refine opsI_cons C rfl (by rfl) fun _ hR Kx hKx => ?_
    replace hF := HG.rely hF hR
    clear hR
    have hc := cell1 hF.ev
    go_simp
    try (unfold stored; go_simp)
    refine hKx _ _ ⟨?_, ?_⟩
    · refine ⟨rfl, ?_⟩
      co_evs (exact evm_still (e := ⟨.mark .disable, false, false⟩) (ad := ⟨0, 0, none⟩) hc2 (.inr rfl) hF.m0.plo)
    clear hKx Kx
    try walk_nrm
    clear hc
    refine opsI_cons C rfl (by rfl) fun _ hR Kx hKx => ?_
    replace hF := HG.rely hF hR
    clear hR
    go_simp
    try (unfold stored; go_simp)
    refine hKx _ _ ⟨?_, ?_⟩
    · co_quiet (T (.front (V l)))
    clear hKx Kx
    try walk_nrm
    refine opsI_callX C T rfl (by rfl) rfl rfl (by simp [Act.eval]) rfl (receive_x hS l hF.m0 hg hn) ?_
    rintro _ _ _ ⟨rfl, rfl, hq⟩
    refine opsI_nil C T ?_
    exact ⟨rfl, rfl, rfl, hq⟩
  refine h5 _ hF b (.code (.region 6 (ops18 Tryz.f18.body 6) false) :: k) cs hb hk ?_
  rintro i e a w ⟨rfl, rfl, rfl, p, v, hq⟩
  show XM (kcfg Tryz.prog N Pb Shun (pieceV Pb) B Low Mine) AW .join _ _
  subst hA
  exact wait_x hk rfl hq
end
end Go.Proofs.YtmabfdpfegbfkaaGreat
