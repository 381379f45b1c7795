/-
  The child of letters.run (OfBytes): the blocks of one call; the family of its places; the send.
-/
import Derived.Test.YtgcaionclkbehaaGreatDoorChecked
import Derived.Test.YtgcaionclkbehaaGreatDoorLone
import Derived.Conc.TokenWalk
import Derived.RowKit
import Derived.KernelRfl
import Derived.OwnWalk
set_option linter.all false
set_option linter.unusedSectionVars false
namespace Go.Proofs.YtgcaionclkbehaaGreatDoor
open Go.Conc Go.RowKit

theorem setCell_block {w : World} {b o : Nat} {cs : Array Value} {ty : TypeId} {fz : Nat × Nat} (h : w.heap[b]? = some (.cells cs ty fz)) (v : Value) : (w.setCell ⟨b, o, none⟩ v).heap[b]? = some (.cells (cs.setIfInBounds o v) ty fz) := by
  simp [World.setCell, Array.getElem?_modify, h]
theorem HC.off' (w : World) {b o b' : Nat} (v : Value) (hb : b' ≠ b) : (w.setCell ⟨b, o, none⟩ v).heap[b']? = w.heap[b']? := Below.heap_setCell _ _ _ _ hb
/-- The blocks of a call of letters.OfBytes that begins in a heap of N blocks: N the box of pieces (the payload), N + 1 that of 'read', N + 2 the letters' channel, N + 3 its variable, N + 4 the end's, N + 5 its variable, N + 6 the group, N + 7 and N + 8 the boxes of Go; behind them the cleaner and the decoder, wherever they come to lie. -/
def kcfg (P : Program) (N Pb : Nat) (Shun : Loc → Prop) (val : Value) (B : Nat) (Mine : Loc → Prop) : Cfg :=
  { P := P, ty := 169, A := N + 2, E := N + 4, Wg := N + 6, C := N, Kid0 := fun b => b = N, N0 := N + 9, KT := fun t => t = 177 ∨ t = 179, Still := fun b => b = N + 1 ∨ b = N + 3 ∨ b = N + 5 ∨ b = N + 7 ∨ b = N + 8 ∨ b = Pb, Shun := Shun, B := B,
    z := .int .i32 0, zs := .tuple #[], zE := .agg #[], val := val, Mine := Mine }

variable [Go.ConcR.Payload] [Go.ConcX.Payload]

variable (K : Cfg)
abbrev Ix := Bool × List Value
def RKd (_ : Ix) : World → World → Prop := RC K
/-- The child's places; the letters left. -/
def XK (i : Ix) (g : Goroutine) (w : World) : Prop := Way K.P false (RKd K i) (DK K) (sendOf K i.2) g w

section
variable {K : Cfg} {i : Ix} {w w₁ w₂ : World}
theorem RKd.rc (h : RKd K i w w₁) : RC K w w₁ := h
theorem RKd.refl (i : Ix) (w : World) : RKd K i w w := RC.refl w
theorem RKd.trans (h : RKd K i w w₁) (h' : RKd K i w₁ w₂) : RKd K i w w₂ := RC.trans h h'
theorem XK.closed : Closed K.P false (RKd K) (DK K) (XK K) where
  rely := fun {i} _ _ _ h hr => Way.rely (R := RKd K i) (fun _ _ _ => RKd.trans) h hr
  step := by
    intro i g w hs h
    refine Way.step hs fun w₁ h₁ => ?_
    have hw := h w₁ h₁
    cases e : stepG K.P false g w₁ with
    | go g' w' es => rw [e, goes_go] at hw; exact ⟨g', w', es, rfl, hw.1, hw.2⟩
    | _ => rw [e] at hw; exact hw.elim
theorem termsK (i : Ix) : Terms (RKd K i) (DK K) := ⟨fun _ _ _ => RKd.trans, fun _ => ⟨rfl, rfl, rfl, fun _ _ _ => rfl, fun _ h => h, fun _ h1 h2 => absurd h1 (by omega), rfl, Nat.le_refl _, by simp⟩⟩
theorem xk_false (fr : Bool) (vs : List Value) (g : Goroutine) (w : World) : XK K (fr, vs) g w ↔ ChildS K vs g w := by rw [childS_eq]; exact Iff.rfl

/-- THE SEND, AS A RULE. -/
theorem opsX_send {fn : FuncId} {ops : Array Oper} {j : Nat} {rest : List Nat} {o : Oper} {Q : PostX Ix} {a : Act} {fr : Bool} {v : Value} {vs : List Value} {x y : Operand} (hzs : K.zs = .tuple #[]) (ho : ops[j]? = some o) (hw : Region.wanted o (yielded ops a.tmps) = true) (hop : o.op = .send x y) (hx : a.eval x = .chan (some K.A)) (hy : a.eval y = v)
    (hk : ∀ w₁, RC K w w₁ → K.N0 ≤ w₁.heap.size) (h : ∀ w₁, RC K w w₁ → OpsX (XK K) fn ops rest (false, vs) Q (a.put o.dst undef) w₁) : OpsX (XK K) fn ops (j :: rest) (fr, v :: vs) Q a w := by
  intro b k cs hb hke hc
  refine Way.stop fun w₁ h₁ => ?_
  have hr : ∀ w, (execOp a.eval o).run K.P w = .ok (.comm #[scase K.A v K.zs] true .send) w := fun w => by
    unfold execOp
    simp [hop, hx, hy, hzs, scase]
  have he : ∀ w, (execOp a.eval o).events K.P w #[] = #[] := fun w => by
    unfold execOp
    simp [hop]
  refine ⟨rfl, hk w₁ h₁.rc, ?_, fun w₂ h₂ => ?_⟩
  · rw [stepG_comm ho hw hke (hr w₁), listed_none (he w₁)]
  · have e : Conc.served (G (b.at a (.inRegion ops (j :: rest) :: k)) cs) undef = G (b.at (a.put o.dst undef) (.inRegion ops rest :: k)) cs := by
      have : (b.at a (.inRegion ops (j :: rest) :: k)).finish undef = b.at (a.put o.dst undef) (.inRegion ops rest :: k) := by rw [Frame.finish_at, ho]; rfl
      simp only [Conc.served, G]
      rw [this]
    rw [e]
    exact (xk_false false vs _ _).1 (h w₂ (h₁.rc.trans h₂) b k cs hb hke hc)
end

/-! ### the program's own -/
/-- The cleaner's and the decoder's states. -/
structure CS where
  begun : Bool
  returned : Bool
structure DS where
  letter : Int
  missing : Int
  low : Int
  high : Int
def sendV (N : Nat) : Value := .func (.func 113) #[] #[.pointer (some ⟨N + 3, 0, none⟩)]
def putV (c1 : Nat) : Value := .func (.func 116) #[.pointer (some ⟨c1, 0, none⟩)] #[]

/-- What the child holds of the world: c1, c2: where its cleaner and its decoder lie. -/
structure HC (N Pb c1 c2 : Nat) (c : CS) (d : DS) (w : World) : Prop where
  lv : w.heap[N + 3]? = some (.cells #[.chan (some (N + 2))] 158)
  cl : w.heap[c1]? = some (.cells #[sendV N, .bool c.begun, .bool c.returned] 177)
  de : w.heap[c2]? = some (.cells #[putV c1, .int .i32 d.letter, .int .i64 d.missing, .int .u8 d.low, .int .u8 d.high] 179)
  pc : w.heap[N]? = some (.cells #[.slice (some ⟨Pb, 0, none⟩) 1 1] 62)
  wb : w.heap[N + 7]? = some (.cells #[.pointer (some ⟨N + 6, 0, none⟩)] 240)
  h1 : N + 9 ≤ c1
  h2 : N + 9 ≤ c2
  ne : c1 ≠ c2

section
variable {N Pb c1 c2 : Nat} {Shun : Loc → Prop} {val : Value} {B : Nat} {Mine : Loc → Prop} {c : CS} {d : DS} {w w₁ : World}

theorem HC.kid1 (h : HC N Pb c1 c2 c d w) : (kcfg Tryz.prog N Pb Shun val B Mine).Kid w c1 := .inr ⟨h.h1, _, _, _, h.cl, .inl rfl⟩
theorem HC.kid2 (h : HC N Pb c1 c2 c d w) : (kcfg Tryz.prog N Pb Shun val B Mine).Kid w c2 := .inr ⟨h.h2, _, _, _, h.de, .inr rfl⟩
theorem HC.rc (h : HC N Pb c1 c2 c d w) (r : RC (kcfg Tryz.prog N Pb Shun val B Mine) w w₁) : HC N Pb c1 c2 c d w₁ :=
  ⟨(r _ (.inr (.inr (.inl rfl)))).trans h.lv, (r _ (.inl h.kid1)).trans h.cl, (r _ (.inl h.kid2)).trans h.de, (r _ (.inl (.inl rfl))).trans h.pc, (r _ (.inr (.inr (.inr (.inr (.inl rfl)))))).trans h.wb, h.h1, h.h2, h.ne⟩
theorem HC.rely {i : Ix} (h : HC N Pb c1 c2 c d w) (r : RKd (kcfg Tryz.prog N Pb Shun val B Mine) i w w₁) : HC N Pb c1 c2 c d w₁ := h.rc r.rc
theorem HC.size (h : HC N Pb c1 c2 c d w) : N + 9 ≤ w.heap.size := by
  have := (Array.getElem?_eq_some_iff.1 h.cl).1
  have := h.h1
  omega
theorem HC.cell_lv (h : HC N Pb c1 c2 c d w) : w.cell? ⟨N + 3, 0, none⟩ = some (.chan (some (N + 2))) := by simp [World.cell?, h.lv]

theorem HC.cells_cl (h : HC N Pb c1 c2 c d w) : w.cell? ⟨c1, 0, none⟩ = some (sendV N) ∧ w.cell? ⟨c1, 1, none⟩ = some (.bool c.begun) ∧ w.cell? ⟨c1, 2, none⟩ = some (.bool c.returned) ∧ w.frozen? ⟨c1, 1, none⟩ = false ∧ w.frozen? ⟨c1, 2, none⟩ = false := by
  simp [World.cell?, World.frozen?, h.cl]
theorem HC.cells_de (h : HC N Pb c1 c2 c d w) : w.cell? ⟨c2, 0, none⟩ = some (putV c1) ∧ w.cell? ⟨c2, 1, none⟩ = some (.int .i32 d.letter) ∧ w.cell? ⟨c2, 2, none⟩ = some (.int .i64 d.missing) ∧ w.cell? ⟨c2, 3, none⟩ = some (.int .u8 d.low) ∧ w.cell? ⟨c2, 4, none⟩ = some (.int .u8 d.high)
    ∧ w.frozen? ⟨c2, 1, none⟩ = false ∧ w.frozen? ⟨c2, 2, none⟩ = false ∧ w.frozen? ⟨c2, 3, none⟩ = false ∧ w.frozen? ⟨c2, 4, none⟩ = false := by
  simp [World.cell?, World.frozen?, h.de]

/-- What the child's step may list, by the blocks' numbers. -/
def EvB (N Pb c1 c2 : Nat) (e : Event) : Prop := ∃ a wr, e = ⟨.cell a, wr, false⟩ ∧ ((a.block = N ∨ a.block = c1 ∨ a.block = c2) ∨ ((a.block = N + 1 ∨ a.block = N + 3 ∨ a.block = N + 5 ∨ a.block = N + 7 ∨ a.block = N + 8 ∨ a.block = Pb) ∧ wr = false))
theorem EvB.evk (hk1 : (kcfg Tryz.prog N Pb Shun val B Mine).Kid w c1) (hk2 : (kcfg Tryz.prog N Pb Shun val B Mine).Kid w c2) {e : Event} (he : EvB N Pb c1 c2 e) : EvK (kcfg Tryz.prog N Pb Shun val B Mine) w e := by
  obtain ⟨a, wr, rfl, h⟩ := he
  refine ⟨a, wr, rfl, ?_⟩
  rcases h with (h | h | h) | ⟨h, hw⟩
  · exact .inl (.inl h)
  · exact .inl (by rw [h]; exact hk1)
  · exact .inl (by rw [h]; exact hk2)
  · exact .inr ⟨h, hw⟩
/-- A step that only looks. -/
theorem dk_read (hF : HC N Pb c1 c2 c d w) {es : Array Event} (h : ∀ e ∈ es, EvB N Pb c1 c2 e) : DK (kcfg Tryz.prog N Pb Shun val B Mine) w w es :=
  ⟨rfl, rfl, rfl, fun _ _ _ => rfl, fun _ h => h, fun _ h1 h2 => absurd h1 (by omega), rfl, Nat.le_refl _, fun e he => (h e he).evk hF.kid1 hF.kid2⟩
/-- A step that writes a cell of the child's own two structs. -/
theorem dk_write (hF : HC N Pb c1 c2 c d w) {es : Array Event} {b o : Nat} {v : Value} (hb : b = c1 ∨ b = c2) (h : ∀ e ∈ es, EvB N Pb c1 c2 e) : DK (kcfg Tryz.prog N Pb Shun val B Mine) w (w.setCell ⟨b, o, none⟩ v) es := by
  have hk : ∀ k, (kcfg Tryz.prog N Pb Shun val B Mine).Kid w k → (kcfg Tryz.prog N Pb Shun val B Mine).Kid (w.setCell ⟨b, o, none⟩ v) k := by
    intro k hk
    by_cases e : k = b
    · subst e
      rcases hb with rfl | rfl
      · exact .inr ⟨hF.h1, _, _, _, setCell_block hF.cl v, .inl rfl⟩
      · exact .inr ⟨hF.h2, _, _, _, setCell_block hF.de v, .inr rfl⟩
    · exact hk.of_same (Below.heap_setCell _ _ _ _ e)
  have hbk : (kcfg Tryz.prog N Pb Shun val B Mine).Kid w b := by
    rcases hb with rfl | rfl
    · exact hF.kid1
    · exact hF.kid2
  have hs : (w.setCell ⟨b, o, none⟩ v).heap.size = w.heap.size := by simp [World.setCell]
  refine ⟨rfl, rfl, rfl, fun k _ hnk => Below.heap_setCell _ _ _ _ ?_, hk, fun _ h1 h2 => absurd h1 (by omega), Below.heap_setCell _ _ _ _ ?_, by omega, fun e he => (h e he).evk (hk _ hF.kid1) (hk _ hF.kid2)⟩
  · rintro rfl; exact hnk hbk
  · show N ≠ b
    have := hF.h1; have := hF.h2; omega
theorem evk_still {o : Nat} {b : Nat} (hb : b = N + 1 ∨ b = N + 3 ∨ b = N + 5 ∨ b = N + 7 ∨ b = N + 8 ∨ b = Pb) : EvB N Pb c1 c2 ⟨.cell ⟨b, o, none⟩, false, false⟩ := ⟨_, _, rfl, .inr ⟨hb, rfl⟩⟩
theorem evk_kid {o : Nat} {b : Nat} {wr : Bool} (hb : b = N ∨ b = c1 ∨ b = c2) : EvB N Pb c1 c2 ⟨.cell ⟨b, o, none⟩, wr, false⟩ := ⟨_, _, rfl, .inl hb⟩
theorem drawK : LetsDraw (DK (kcfg Tryz.prog N Pb Shun val B Mine)) := fun _ => ⟨rfl, rfl, rfl, fun _ _ _ => rfl, fun _ h => h, fun _ h1 h2 => absurd h2 (Nat.not_lt.2 h1), rfl, Nat.le_refl _, by simp⟩
theorem ownDrawK {i : Ix} (w : World) : RKd (kcfg Tryz.prog N Pb Shun val B Mine) i w { w with drawn := w.drawn + 1 } := fun _ _ => rfl

theorem HC.set1 (h : HC N Pb c1 c2 c d w) (x : Bool) : HC N Pb c1 c2 ⟨x, c.returned⟩ d (w.setCell ⟨c1, 1, none⟩ (.bool x)) := by
  have h1 := h.h1; have h2 := h.h2; have hn := h.ne
  exact ⟨(HC.off' w _ (by omega)).trans h.lv, setCell_block h.cl _, (HC.off' w _ (Ne.symm hn)).trans h.de, (HC.off' w _ (by omega)).trans h.pc, (HC.off' w _ (by omega)).trans h.wb, h1, h2, hn⟩
theorem HC.set2 (h : HC N Pb c1 c2 c d w) (x : Bool) : HC N Pb c1 c2 ⟨c.begun, x⟩ d (w.setCell ⟨c1, 2, none⟩ (.bool x)) := by
  have h1 := h.h1; have h2 := h.h2; have hn := h.ne
  exact ⟨(HC.off' w _ (by omega)).trans h.lv, setCell_block h.cl _, (HC.off' w _ (Ne.symm hn)).trans h.de, (HC.off' w _ (by omega)).trans h.pc, (HC.off' w _ (by omega)).trans h.wb, h1, h2, hn⟩
theorem HC.setLetter (h : HC N Pb c1 c2 c d w) (x : Int) : HC N Pb c1 c2 c { d with letter := x } (w.setCell ⟨c2, 1, none⟩ (.int .i32 x)) := by
  have h1 := h.h1; have h2 := h.h2; have hn := h.ne
  exact ⟨(HC.off' w _ (by omega)).trans h.lv, (HC.off' w _ hn).trans h.cl, setCell_block h.de _, (HC.off' w _ (by omega)).trans h.pc, (HC.off' w _ (by omega)).trans h.wb, h1, h2, hn⟩
theorem HC.setMissing (h : HC N Pb c1 c2 c d w) (x : Int) : HC N Pb c1 c2 c { d with missing := x } (w.setCell ⟨c2, 2, none⟩ (.int .i64 x)) := by
  have h1 := h.h1; have h2 := h.h2; have hn := h.ne
  exact ⟨(HC.off' w _ (by omega)).trans h.lv, (HC.off' w _ hn).trans h.cl, setCell_block h.de _, (HC.off' w _ (by omega)).trans h.pc, (HC.off' w _ (by omega)).trans h.wb, h1, h2, hn⟩
theorem HC.setLow (h : HC N Pb c1 c2 c d w) (x : Int) : HC N Pb c1 c2 c { d with low := x } (w.setCell ⟨c2, 3, none⟩ (.int .u8 x)) := by
  have h1 := h.h1; have h2 := h.h2; have hn := h.ne
  exact ⟨(HC.off' w _ (by omega)).trans h.lv, (HC.off' w _ hn).trans h.cl, setCell_block h.de _, (HC.off' w _ (by omega)).trans h.pc, (HC.off' w _ (by omega)).trans h.wb, h1, h2, hn⟩
theorem HC.setHigh (h : HC N Pb c1 c2 c d w) (x : Int) : HC N Pb c1 c2 c { d with high := x } (w.setCell ⟨c2, 4, none⟩ (.int .u8 x)) := by
  have h1 := h.h1; have h2 := h.h2; have hn := h.ne
  exact ⟨(HC.off' w _ (by omega)).trans h.lv, (HC.off' w _ hn).trans h.cl, setCell_block h.de _, (HC.off' w _ (by omega)).trans h.pc, (HC.off' w _ (by omega)).trans h.wb, h1, h2, hn⟩

set_option maxRecDepth 100000 in
/-- The closure that sends. -/
theorem send_x (hF : HC N Pb c1 c2 c d w) (fr : Bool) (r : Int) (vs : List Value) :
    CallsX Tryz.prog (XK (kcfg Tryz.prog N Pb Shun val B Mine)) 113 #[.int .i32 r, .pointer (some ⟨N + 3, 0, none⟩)] (fr, .int .i32 r :: vs) w (fun i' _ w' => i' = (false, vs) ∧ HC N Pb c1 c2 c d w') := by
  have C : Closed Tryz.prog false (RKd (kcfg Tryz.prog N Pb Shun val B Mine)) (DK (kcfg Tryz.prog N Pb Shun val B Mine)) (XK (kcfg Tryz.prog N Pb Shun val B Mine)) := XK.closed (K := (kcfg Tryz.prog N Pb Shun val B Mine))
  have T := termsK (K := (kcfg Tryz.prog N Pb Shun val B Mine))
  refine callsX_of Tryz.func113 (by rfl) rfl ?_
  simp only [Tryz.ntmps113, List.size_toArray, List.length_cons, List.length_nil, Nat.reduceAdd, Nat.reduceSub, Array.replicate_succ, Array.replicate_zero, List.push_toArray, List.append_toArray, List.nil_append, List.cons_append]
  refine wpX_region C T ?_
  simp only [List.size_toArray, List.length_cons, List.length_nil, Nat.reduceAdd, Nat.zero_add, List.range, List.range.loop]
  refine opsX_cons C rfl (by rfl) fun w₁ hR Kx hKx => ?_
  replace hF := hF.rely hR
  clear hR
  have hc := hF.cell_lv
  go_simp
  refine hKx _ _ ⟨?_, ?_⟩
  · refine dk_read hF ?_
    co_evs (exact evk_still (.inr (.inl rfl)))
  clear hKx Kx hc
  try walk_nrm
  refine opsX_cons C rfl (by rfl) fun w₂ hR Kx hKx => ?_
  replace hF := hF.rely hR
  clear hR
  go_simp
  refine hKx _ _ ⟨?_, ?_⟩
  · co_quiet (T (true, []))
  clear hKx Kx
  try walk_nrm
  refine opsX_send (K := (kcfg Tryz.prog N Pb Shun val B Mine)) (v := .int .i32 r) rfl rfl (by rfl) rfl rfl rfl (fun w₃ h₃ => (hF.rc h₃).size) fun w₃ h₃ => ?_
  replace hF := hF.rc h₃
  refine opsX_nil C T ?_
  exact ⟨.inl rfl, rfl, _, resultsC_none (by rfl) _, rfl, hF⟩
end
end Go.Proofs.YtgcaionclkbehaaGreatDoor
