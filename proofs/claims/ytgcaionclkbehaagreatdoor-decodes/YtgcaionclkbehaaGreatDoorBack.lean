/-
  Goroutine 0 beside the child: letters.run from its go statement on, whatever reads the Row.
-/
import Derived.Test.YtgcaionclkbehaaGreatDoorWait
set_option linter.all false
set_option linter.unusedSectionVars false
set_option linter.unusedSimpArgs false
namespace Go.Proofs.YtgcaionclkbehaaGreatDoor
open Go.Conc Go.RowKit
/-- The slots of letters.run at its go statement. -/
def t47 (N : Nat) (nv nx x11 : Value) : Array Value := #[nv, nx, .pointer (some ⟨N + 1, 0, none⟩), undef, .pointer (some ⟨N + 3, 0, none⟩), .pointer (some ⟨N + 5, 0, none⟩), .pointer (some ⟨N + 6, 0, none⟩), undef, .chan (some (N + 2)), .chan (some (N + 4)), fnChild N, x11, undef, undef, undef, undef, undef, undef, undef, undef, undef, undef]
def opsG (b : Option Code) : Array Oper := match b with | some (.seq _ (.seq _ (.region _ o _))) => o | _ => #[]
abbrev nilS : Value := .slice none 0 0
section
variable {N Pb : Nat} {Shun : Loc → Prop} {val : Value} {B : Nat} {Mine : Loc → Prop} {Ex : Nat → Prop} {w₀ w w₁ : World} {AnchW : Goroutine → World → Prop} {u v : Value} {tk rest : List Int} {en : Bool} {Rb : Nat}
/-- What goroutine 0 holds behind its go statement; A: what the reader of the Row needs. -/
structure HG (N : Nat) (A : World → Prop) (w : World) : Prop where
  lv : w.heap[N + 3]? = some (.cells #[.chan (some (N + 2))] 158)
  ev : w.heap[N + 5]? = some (.cells #[.chan (some (N + 4))] 159)
  size : N + 9 ≤ w.heap.size
  a : A w
theorem HG.rm {A : World → Prop} (hA : ∀ w w₁, RM (kcfg Tryz.prog N Pb Shun val B Mine) w w₁ → A w → A w₁) (h : HG N A w) (r : RM (kcfg Tryz.prog N Pb Shun val B Mine) w w₁) : HG N A w₁ := by
  have hs := h.size
  have hb : ∀ b, b = N + 3 ∨ b = N + 5 → w₁.heap[b]? = w.heap[b]? := fun b hb => r.block b (by omega) (fun z => by
    rcases z with z | ⟨z, _⟩
    · have z' : b = N := z
      omega
    · have z' : N + 9 ≤ b := z
      omega) (by show ¬ (b = N + 2 ∨ b = N + 4 ∨ b = N + 6); omega)
  exact ⟨(hb _ (.inl rfl)).trans h.lv, (hb _ (.inr rfl)).trans h.ev, Nat.le_trans hs r.size, hA _ _ r h.a⟩
theorem evm_still {K : Cfg} (F : K.Fit) {b o : Nat} (hs : K.Still b) (hn : K.N0 ≤ w.heap.size) : EvM K w ⟨.cell ⟨b, o, none⟩, false, false⟩ := by
  refine ⟨fun x hx => ?_, by simp, by simp, by simp [MemAct.ofEvent]⟩
  have hx' : x = ⟨.cell ⟨b, o, none⟩, false, .plain⟩ := by simpa [MemAct.ofEvent, MemAct.touch?] using hx.symm
  subst hx'
  refine ⟨⟨?_, fun _ => rfl, fun h => absurd h (F.sh ⟨b, o, none⟩ hs)⟩, fun ad e => ?_⟩
  · rintro (⟨a, e, h⟩ | e)
    · cases e
      exact F.ks w _ h hs
    · cases e
  · cases e
    exact Nat.lt_of_lt_of_le (F.s0 b hs) hn
theorem dm_look {K : Cfg} {es : Array Event} (h : ∀ e ∈ es, EvM K w e) : DM K w w es := ⟨fun _ _ => rfl, fun _ h => h, Nat.le_refl _, h⟩
theorem rmd_rm {K : Cfg} [Go.ConcX.Payload] {i : Ph} (hi : i.early) (h : RMd K i w w₁) : RM K w w₁ := by
  cases i using Ph.casesT with
  | join => exact hi.elim
  | _ => exact h
def rowCells (N : Nat) : Array Value := #[.chan (some (N + 2)), .chan (some (N + 4)), nilS, .bool false]
theorem HW.start (F : Cfg.Fit (kcfg Tryz.prog N Pb Shun val B Mine)) (hs : N + 9 ≤ w.heap.size) : HW (kcfg Tryz.prog N Pb Shun val B Mine) (exR w.heap.size nilS) (w.alloc (.cells (rowCells N) 175)) w.heap.size nilS nilS [] false (w.alloc (.cells (rowCells N) 175)) := by
  have o : Own KTs (mineM (kcfg Tryz.prog N Pb Shun val B Mine)) w (w.alloc (.cells (rowCells N) 175)) := Own.alloc (by simp [KTs])
  exact ⟨heap_alloc_new w _, (envM F).new hs o (Nat.le_refl _) (by simp [World.size_alloc]), .inl (.inl rfl), RowO.none _ _ _ _ _, by simp [World.size_alloc]; show N + 9 ≤ _; omega, Kept.refl _⟩
variable [Go.ConcR.Payload] [Go.ConcX.Payload]
variable [Go.ConcX.Shy (Cfg.Wg (kcfg Tryz.prog N Pb Shun val B Mine)) (Cfg.C (kcfg Tryz.prog N Pb Shun val B Mine))]
set_option maxRecDepth 100000 in
set_option maxHeartbeats 400000 in
theorem main_x {A F : World → Prop} {I : Nat → World → Prop} {b : Frame} {k : List Item} {cs : List Frame} {tm : Array Value} {f : FuncId} {cap : Array Value} {nv : Value} (Fi : Cfg.Fit (kcfg Tryz.prog N Pb Shun val B Mine)) (hb : b.fn = 61) (hk : b.kind ≠ .early) (l : List Int) (hn : l.length ≤ 1000000)
    (hA : ∀ w w₁, RM (kcfg Tryz.prog N Pb Shun val B Mine) w w₁ → A w → A w₁) (hA2 : ∀ w cs, A w → A (w.alloc (.cells cs 175)))
    (hnext : ∀ AW Rb w, N ≤ Rb → A w → HW (kcfg Tryz.prog N Pb Shun val B Mine) (exR Rb nilS) w Rb nilS nilS [] false w → CallsI Tryz.prog (XM (kcfg Tryz.prog N Pb Shun val B Mine) AW) f (#[.pointer (some ⟨Rb, 0, none⟩)] ++ cap) (.front (V l)) w (fun i' _ w' => ∃ Ex w₀ v' tk' rest' en', tk' ++ rest' = l ∧ AtP rest' en' i' ∧ HW (kcfg Tryz.prog N Pb Shun val B Mine) Ex w₀ Rb v' v' tk' en' w' ∧ (∀ b, exR Rb v' b → N ≤ b) ∧ I Rb w'))
    (hI1 : ∀ Rb w w₁, RM (kcfg Tryz.prog N Pb Shun val B Mine) w w₁ → I Rb w → I Rb w₁) (hI2 : ∀ Rb Ex w₀ v tk en w w', HW (kcfg Tryz.prog N Pb Shun val B Mine) Ex w₀ Rb v v tk en w → (∀ b, exR Rb v b → N ≤ b) → Kept (mineM (kcfg Tryz.prog N Pb Shun val B Mine)) (outM (kcfg Tryz.prog N Pb Shun val B Mine)) (exR Rb v) w w' → I Rb w → I Rb w') (hIF : ∀ Rb w, I Rb w → F w) (hFa : ∀ w w₁, Go.ConcX.Aside2 N (N + 6) w w₁ → F w → F w₁) (hF : HG N A w) :
    XM (kcfg Tryz.prog N Pb Shun val B Mine) (AnchR (kcfg Tryz.prog N Pb Shun val B Mine) F b k cs) (.front (V l)) (G ((base 111).at ⟨tm, []⟩ [.inRegion (opsG Tryz.f111.body) []]) (b.at ⟨t47 N nv (.func (.func f) #[] cap) undef, []⟩ (.inRegion (opsR Tryz.f61.body 4) [1] :: .code (.seq (.region 5 (opsR Tryz.f61.body 5) false) (.seq (.region 6 (opsR Tryz.f61.body 6) false) (.seq (.region 7 (opsR Tryz.f61.body 7) false) (.region 8 (opsR Tryz.f61.body 8) false)))) :: k) :: cs)) w := by
  generalize hAW : AnchR (kcfg Tryz.prog N Pb Shun val B Mine) F b k cs = AW
  have C : ClosedI Tryz.prog true (RMd (kcfg Tryz.prog N Pb Shun val B Mine)) (DMd (kcfg Tryz.prog N Pb Shun val B Mine)) (XM (kcfg Tryz.prog N Pb Shun val B Mine) AW) := XM.closed (K := (kcfg Tryz.prog N Pb Shun val B Mine))
  have T := termsM (K := (kcfg Tryz.prog N Pb Shun val B Mine))
  have E : Env KTs (N + 9) (mineM (kcfg Tryz.prog N Pb Shun val B Mine)) (outM (kcfg Tryz.prog N Pb Shun val B Mine)) (RMd (kcfg Tryz.prog N Pb Shun val B Mine) (.front (V l))) (DMd (kcfg Tryz.prog N Pb Shun val B Mine) (.front (V l))) := envP (K := (kcfg Tryz.prog N Pb Shun val B Mine)) Fi trivial
  have rl : ∀ {w w₁}, HG N A w → RMd (kcfg Tryz.prog N Pb Shun val B Mine) (.front (V l)) w w₁ → HG N A w₁ := fun h r => HG.rm hA h r
  refine C.step rfl fun _ h₁ => ?_
  replace hF := rl hF h₁
  clear h₁
  rw [stepG_region_end]
  simp only [goes_go]
  refine ⟨(T (.front (V l))).idle _, ?_⟩
  refine C.step rfl fun _ h₁ => ?_
  replace hF := rl hF h₁
  clear h₁
  rw [stepG_end]
  simp only [goes_go]
  refine ⟨(T (.front (V l))).idle _, ?_⟩
  refine C.step rfl fun _ h₁ => ?_
  replace hF := rl hF h₁
  clear h₁
  rw [stepG_leave (b := base 111) rfl rfl Tryz.func111 (results_none rfl _ _ _) (events_results_none rfl _ _)]
  simp only [goes_go]
  refine ⟨(T (.front (V l))).idle _, ?_⟩
  rw [Frame.finish_at]
  have hop : ((opsR Tryz.f61.body 4)[1]?).bind (·.dst) = some 11 := by rfl
  rw [hop]
  have ht : (⟨t47 N nv (.func (.func f) #[] cap) undef, []⟩ : Act).put (some 11) (.tuple #[]) = ⟨t47 N nv (.func (.func f) #[] cap) (.tuple #[]), []⟩ := by rfl
  rw [ht]
  refine C.step rfl fun _ h₁ => ?_
  replace hF := rl hF h₁
  clear h₁
  rw [stepG_region_end]
  simp only [goes_go]
  refine ⟨(T (.front (V l))).idle _, ?_⟩
  refine C.step rfl fun _ h₁ => ?_
  replace hF := rl hF h₁
  clear h₁
  rw [stepG_seq]
  simp only [goes_go]
  refine ⟨(T (.front (V l))).idle _, ?_⟩
  have h5 : ∀ w, HG N A w → wpI (XM (kcfg Tryz.prog N Pb Shun val B Mine) AW) 61 (.region 5 (opsR Tryz.f61.body 5) false) (.front (V l)) (fun i e a w => e = .normal ∧ i = .front (V l) ∧ ∃ Rb, a = ⟨#[nv, .func (.func f) #[] cap, .pointer (some ⟨N + 1, 0, none⟩), undef, .pointer (some ⟨N + 3, 0, none⟩), .pointer (some ⟨N + 5, 0, none⟩), .pointer (some ⟨N + 6, 0, none⟩), .pointer (some ⟨Rb, 0, none⟩), .chan (some (N + 2)), .chan (some (N + 4)), fnChild N, .tuple #[], .chan (some (N + 2)), .chan (some (N + 4)), .agg (rowCells N), .pointer (some ⟨Rb, 0, none⟩), undef, undef, undef, undef, undef, undef], []⟩ ∧ N ≤ Rb ∧ A w ∧ HW (kcfg Tryz.prog N Pb Shun val B Mine) (exR Rb nilS) w Rb nilS nilS [] false w) ⟨t47 N nv (.func (.func f) #[] cap) (.tuple #[]), []⟩ w := by
    have bd := fun w => run_build (P := Tryz.prog) w 175 #[(0, .chan (some (N + 2))), (1, .chan (some (N + 4)))] (rowCells N) (by kernel_rfl)
    have be := fun w es => build_events (P := Tryz.prog) w 175 #[(0, .chan (some (N + 2))), (1, .chan (some (N + 4)))] (rowCells N) (by kernel_rfl) es
    have bx := fun w t v => box_run Tryz.prog w t v
    have bxe := fun w t v es => box_events Tryz.prog w t v es
    intro w hF
    simp only [opsR, codeR, Tryz.f61, t47]
    refine wpI_region C T ?_
    simp only [Nat.reduceEqDiff, if_true, if_false, reduceIte, List.size_toArray, List.length_cons, List.length_nil, Nat.reduceAdd, Nat.zero_add, List.range, List.range.loop]
    refine opsI_cons C rfl (by rfl) fun _ hR Kx hKx => ?_
    replace hF := rl hF hR
    clear hR
    have hc := cell1 hF.lv
    go_simp
    try (unfold stored; go_simp)
    refine hKx _ _ ⟨?_, ?_⟩
    · refine dm_look ?_
      co_evs (exact evm_still (K := (kcfg Tryz.prog N Pb Shun val B Mine)) Fi (.inr (.inl rfl)) hF.size)
    clear hKx Kx
    try walk_nrm
    clear hc
    refine opsI_cons C rfl (by rfl) fun _ hR Kx hKx => ?_
    replace hF := rl hF hR
    clear hR
    have hc := cell1 hF.ev
    go_simp
    try (unfold stored; go_simp)
    refine hKx _ _ ⟨?_, ?_⟩
    · refine dm_look ?_
      co_evs (exact evm_still (K := (kcfg Tryz.prog N Pb Shun val B Mine)) Fi (.inr (.inr (.inl rfl))) hF.size)
    clear hKx Kx
    try walk_nrm
    clear hc
    refine opsI_cons C rfl (by rfl) fun _ hR Kx hKx => ?_
    replace hF := rl hF hR
    clear hR
    go_simp
    try (unfold stored; go_simp)
    refine hKx _ _ ⟨?_, ?_⟩
    · co_still (T _)
    clear hKx Kx
    try walk_nrm
    refine opsI_cons C rfl (by rfl) fun _ hR Kx hKx => ?_
    replace hF := rl hF hR
    clear hR
    go_simp
    try (unfold stored; go_simp)
    refine hKx _ _ ⟨?_, ?_⟩
    · refine dm_own E hF.size (Own.alloc (by simp [KTs])) ?_
      co_evs (skip)
    clear hKx Kx
    try walk_nrm
    have hW := HW.start (w := _) Fi hF.size
    have hRb := Nat.le_trans (Nat.le_add_right N 9) hF.size
    replace hF := hA2 _ (rowCells N) hF.a
    refine opsI_cons C rfl (by rfl) fun _ hR Kx hKx => ?_
    replace hF := hA _ _ (show RM (kcfg Tryz.prog N Pb Shun val B Mine) _ _ from hR) hF
    replace hW := (HW.toRM (i := .over) Fi hW (show RM (kcfg Tryz.prog N Pb Shun val B Mine) _ _ from hR)).rebase
    clear hR
    go_simp
    refine hKx _ _ ⟨?_, ?_⟩
    · co_quiet (T _)
    clear hKx Kx
    try walk_nrm
    refine opsI_nil C T ?_
    exact ⟨rfl, rfl, _, rfl, hRb, hF, hW⟩
  refine h5 _ hF b (.code (.seq (.region 6 (opsR Tryz.f61.body 6) false) (.seq (.region 7 (opsR Tryz.f61.body 7) false) (.region 8 (opsR Tryz.f61.body 8) false))) :: k) cs hb hk ?_
  clear hF h5
  rintro i e a w ⟨rfl, rfl, Rb, rfl, hRb, hF, hW⟩
  show XM (kcfg Tryz.prog N Pb Shun val B Mine) AW (.front (V l)) _ _
  refine C.step rfl fun _ h₁ => ?_
  replace hF := hA _ _ (show RM (kcfg Tryz.prog N Pb Shun val B Mine) _ _ from h₁) hF
  replace hW := (HW.toRM (i := .over) Fi hW (show RM (kcfg Tryz.prog N Pb Shun val B Mine) _ _ from h₁)).rebase
  clear h₁
  rw [stepG_seq]
  simp only [goes_go]
  refine ⟨(T (.front (V l))).idle _, ?_⟩
  have h6 : ∀ w, A w → HW (kcfg Tryz.prog N Pb Shun val B Mine) (exR Rb nilS) w Rb nilS nilS [] false w → wpI (XM (kcfg Tryz.prog N Pb Shun val B Mine) AW) 61 (.region 6 (opsR Tryz.f61.body 6) false) (.front (V l)) (fun i e a w => e = .normal ∧ ∃ x18 Ex w₀ v tk rest en, a = ⟨#[nv, .func (.func f) #[] cap, .pointer (some ⟨N + 1, 0, none⟩), undef, .pointer (some ⟨N + 3, 0, none⟩), .pointer (some ⟨N + 5, 0, none⟩), .pointer (some ⟨N + 6, 0, none⟩), .pointer (some ⟨Rb, 0, none⟩), .chan (some (N + 2)), .chan (some (N + 4)), fnChild N, .tuple #[], .chan (some (N + 2)), .chan (some (N + 4)), .agg (rowCells N), .pointer (some ⟨Rb, 0, none⟩), .func (.func f) #[] cap, .pointer (some ⟨Rb, 0, none⟩), x18, undef, undef, undef], []⟩ ∧ tk ++ rest = l ∧ AtP rest en i ∧ HW (kcfg Tryz.prog N Pb Shun val B Mine) Ex w₀ Rb v v tk en w ∧ (∀ b, exR Rb v b → N ≤ b) ∧ I Rb w) ⟨#[nv, .func (.func f) #[] cap, .pointer (some ⟨N + 1, 0, none⟩), undef, .pointer (some ⟨N + 3, 0, none⟩), .pointer (some ⟨N + 5, 0, none⟩), .pointer (some ⟨N + 6, 0, none⟩), .pointer (some ⟨Rb, 0, none⟩), .chan (some (N + 2)), .chan (some (N + 4)), fnChild N, .tuple #[], .chan (some (N + 2)), .chan (some (N + 4)), .agg (rowCells N), .pointer (some ⟨Rb, 0, none⟩), undef, undef, undef, undef, undef, undef], []⟩ w := by
    intro w hF hW
    simp only [opsR, codeR, Tryz.f61]
    refine wpI_region C T ?_
    simp only [Nat.reduceEqDiff, if_true, if_false, reduceIte, List.size_toArray, List.length_cons, List.length_nil, Nat.reduceAdd, Nat.zero_add, List.range, List.range.loop]
    refine opsI_cons C rfl (by rfl) fun _ h₁ Kx hKx => ?_
    replace hF := hA _ _ (show RM (kcfg Tryz.prog N Pb Shun val B Mine) _ _ from h₁) hF
    replace hW := (HW.toRM (i := .over) Fi hW (show RM (kcfg Tryz.prog N Pb Shun val B Mine) _ _ from h₁)).rebase
    clear h₁
    go_simp
    try (unfold stored; go_simp)
    refine hKx _ _ ⟨?_, ?_⟩
    · co_quiet (T _)
    clear hKx Kx
    try walk_nrm
    refine opsI_cons C rfl (by rfl) fun _ h₁ Kx hKx => ?_
    replace hF := hA _ _ (show RM (kcfg Tryz.prog N Pb Shun val B Mine) _ _ from h₁) hF
    replace hW := (HW.toRM (i := .over) Fi hW (show RM (kcfg Tryz.prog N Pb Shun val B Mine) _ _ from h₁)).rebase
    clear h₁
    go_simp
    try (unfold stored; go_simp)
    refine hKx _ _ ⟨?_, ?_⟩
    · co_quiet (T _)
    clear hKx Kx
    try walk_nrm
    have hcall := hnext AW Rb _ hRb hF hW
    refine opsI_callX (f := f) (first := #[]) (cap := cap) (vs₀ := .front (V l)) C T rfl (by rfl) rfl rfl (by simp [Act.eval]) rfl hcall ?_
    rintro i x18 w ⟨Ex, w₀, v, tk, rest, en, h1, h2, h3, h5, h4⟩
    refine opsI_nil C T ?_
    exact ⟨rfl, x18, Ex, w₀, v, tk, rest, en, rfl, h1, h2, h3, h5, h4⟩
  refine h6 _ hF hW b (.code (.seq (.region 7 (opsR Tryz.f61.body 7) false) (.region 8 (opsR Tryz.f61.body 8) false)) :: k) cs hb hk ?_
  clear hF hW h6 E rl
  rintro i e a w ⟨rfl, x18, Ex, w₀, v, tk, rest, en, rfl, hall, hat, hW, hex, hI⟩
  show XM (kcfg Tryz.prog N Pb Shun val B Mine) AW i _ _
  refine C.step rfl fun _ h₁ => ?_
  replace hI := hI1 _ _ _ (rmd_rm hat.early h₁) hI
  replace hW := HW.toRM (i := .over) Fi hW (rmd_rm hat.early h₁)
  clear h₁
  rw [stepG_seq]
  simp only [goes_go]
  refine ⟨(T i).idle _, ?_⟩
  have h7 : ∀ w, HW (kcfg Tryz.prog N Pb Shun val B Mine) Ex w₀ Rb v v tk en w → I Rb w → wpI (XM (kcfg Tryz.prog N Pb Shun val B Mine) AW) 61 (.region 7 (opsR Tryz.f61.body 7) false) i (fun i e a w => e = .normal ∧ i = .over ∧ ∃ x20, a = ⟨#[nv, .func (.func f) #[] cap, .pointer (some ⟨N + 1, 0, none⟩), undef, .pointer (some ⟨N + 3, 0, none⟩), .pointer (some ⟨N + 5, 0, none⟩), .pointer (some ⟨N + 6, 0, none⟩), .pointer (some ⟨Rb, 0, none⟩), .chan (some (N + 2)), .chan (some (N + 4)), fnChild N, .tuple #[], .chan (some (N + 2)), .chan (some (N + 4)), .agg (rowCells N), .pointer (some ⟨Rb, 0, none⟩), .func (.func f) #[] cap, .pointer (some ⟨Rb, 0, none⟩), x18, .pointer (some ⟨Rb, 0, none⟩), x20, undef], []⟩ ∧ I Rb w) ⟨#[nv, .func (.func f) #[] cap, .pointer (some ⟨N + 1, 0, none⟩), undef, .pointer (some ⟨N + 3, 0, none⟩), .pointer (some ⟨N + 5, 0, none⟩), .pointer (some ⟨N + 6, 0, none⟩), .pointer (some ⟨Rb, 0, none⟩), .chan (some (N + 2)), .chan (some (N + 4)), fnChild N, .tuple #[], .chan (some (N + 2)), .chan (some (N + 4)), .agg (rowCells N), .pointer (some ⟨Rb, 0, none⟩), .func (.func f) #[] cap, .pointer (some ⟨Rb, 0, none⟩), x18, undef, undef, undef], []⟩ w := by
    intro w hW hI
    simp only [opsR, codeR, Tryz.f61]
    refine wpI_region C T ?_
    simp only [Nat.reduceEqDiff, if_true, if_false, reduceIte, List.size_toArray, List.length_cons, List.length_nil, Nat.reduceAdd, Nat.zero_add, List.range, List.range.loop]
    refine opsI_cons C rfl (by rfl) fun _ h₁ Kx hKx => ?_
    replace hI := hI1 _ _ _ (rmd_rm hat.early h₁) hI
    replace hW := HW.toRM (i := .over) Fi hW (rmd_rm hat.early h₁)
    clear h₁
    go_simp
    try (unfold stored; go_simp)
    refine hKx _ _ ⟨?_, ?_⟩
    · co_quiet (T _)
    clear hKx Kx
    try walk_nrm
    refine opsI_callX C T rfl (by rfl) rfl rfl (by simp [Act.eval]) rfl (drain_x Fi l hall hn hW.rebase hat) ?_
    rintro _ x20 w ⟨rfl, v2, hD⟩
    refine opsI_nil C T ?_
    exact ⟨rfl, rfl, x20, rfl, hI2 _ _ _ _ _ _ _ _ hW hex hD.old hI⟩
  refine h7 _ hW hI b (.code (.region 8 (opsR Tryz.f61.body 8) false) :: k) cs hb hk ?_
  clear hW hI h7 hat
  rintro i e a w ⟨rfl, rfl, x20, rfl, hI⟩
  show XM (kcfg Tryz.prog N Pb Shun val B Mine) AW .over _ _
  subst hAW
  refine XM.joins rfl fun w₁ h₁ hka L hL => ?_
  exact wait_x hFa hk rfl rfl (hIF _ _ (hI1 _ _ _ h₁ hI)) hka
end
end Go.Proofs.YtgcaionclkbehaaGreatDoor
