/-
  The child of letters.Each: the blocks of one call; the family of its places; the send.
-/
import Derived.Test.YtmabfdpfegbfkaaGreatChecked
import Derived.Test.YtmabfdpfegbfkaaGreatLone
import Derived.Conc.TokenWalk
import Derived.RowKit
import Derived.KernelRfl
import Derived.OwnWalk
set_option linter.all false
set_option linter.unusedSectionVars false
namespace Go.Proofs.YtmabfdpfegbfkaaGreat
open Go.Conc Go.RowKit

theorem setCell_block {w : World} {b o : Nat} {cs : Array Value} {ty : TypeId} {fz : Nat × Nat} (h : w.heap[b]? = some (.cells cs ty fz)) (v : Value) : (w.setCell ⟨b, o, none⟩ v).heap[b]? = some (.cells (cs.setIfInBounds o v) ty fz) := by
  simp [World.setCell, Array.getElem?_modify, h]
theorem HC.off' (w : World) {b o b' : Nat} (v : Value) (hb : b' ≠ b) : (w.setCell ⟨b, o, none⟩ v).heap[b']? = w.heap[b']? := Below.heap_setCell _ _ _ _ hb
/-- The blocks of a call of letters.Each that begins in a heap of N blocks. -/
def kcfg (P : Program) (N Pb : Nat) (Shun : Loc → Prop) (val : Value) (B Low : Nat) (Mine : Loc → Prop) : Cfg :=
  { P := P, ty := 114, A := N + 1, E := N + 3, Wg := N + 5, C := N, Kid := fun b => b = N ∨ b = N + 8 ∨ b = N + 9, Still := fun b => b = N + 2 ∨ b = N + 4 ∨ b = N + 6 ∨ b = N + 7 ∨ b = Pb, Shun := Shun, k0 := N + 10, B := B, Low := Low,
    z := .int .i32 0, zs := .tuple #[], zE := .agg #[], val := val, Mine := Mine }

variable [Go.ConcR.Payload] [Go.ConcX.Payload]

variable (K : Cfg)
abbrev Ix := Bool × List Value
def RKd (i : Ix) : World → World → Prop := if i.1 then AtRel else RC K
/-- The child's places: fresh or not; the letters left. -/
def XK (i : Ix) (g : Goroutine) (w : World) : Prop := Way K.P false (RKd K i) (DK K) (sendOf K i.2) g w

section
variable {K : Cfg} {i : Ix} {w w₁ w₂ : World}
theorem RKd.rc (h : RKd K i w w₁) : RC K w w₁ := by
  unfold RKd at h
  split at h
  · obtain ⟨d, rfl⟩ := h; exact RC.at w d
  · exact h
theorem RKd.refl (i : Ix) (w : World) : RKd K i w w := by
  unfold RKd
  split
  · exact atRel_refl w
  · exact RC.refl w
theorem RKd.trans (h : RKd K i w w₁) (h' : RKd K i w₁ w₂) : RKd K i w w₂ := by
  unfold RKd at *
  split
  · rename_i hi; simp only [hi, if_true] at h h'; exact atRel_trans _ _ _ h h'
  · rename_i hi; simp only [hi] at h h'; exact RC.trans h h'
theorem XK.closed : Closed K.P false (RKd K) (DK K) (XK K) where
  rely := fun {i} _ _ _ h hr => Way.rely (R := RKd K i) (fun _ _ _ => RKd.trans) h hr
  step := by
    intro i g w hs h
    refine Way.step hs fun w₁ h₁ => ?_
    have hw := h w₁ h₁
    cases e : stepG K.P false g w₁ with
    | go g' w' es => rw [e, goes_go] at hw; exact ⟨g', w', es, rfl, hw.1, hw.2⟩
    | _ => rw [e] at hw; exact hw.elim
theorem termsK (i : Ix) : Terms (RKd K i) (DK K) := ⟨fun _ _ _ => RKd.trans, fun _ => ⟨rfl, rfl, rfl, fun _ _ => rfl, rfl, Nat.le_refl _, by simp⟩⟩
theorem xk_false (vs : List Value) (g : Goroutine) (w : World) : XK K (false, vs) g w ↔ ChildS K vs g w := by rw [childS_eq]; exact Iff.rfl

/-- THE SEND, AS A RULE. -/
theorem opsX_send {fn : FuncId} {ops : Array Oper} {j : Nat} {rest : List Nat} {o : Oper} {Q : PostX Ix} {a : Act} {fr : Bool} {v : Value} {vs : List Value} {x y : Operand} (hzs : K.zs = .tuple #[]) (ho : ops[j]? = some o) (hw : Region.wanted o (yielded ops a.tmps) = true) (hop : o.op = .send x y) (hx : a.eval x = .chan (some K.A)) (hy : a.eval y = v)
    (hk : ∀ w₁, RC K w w₁ → K.k0 ≤ w₁.heap.size) (h : ∀ w₁, RC K w w₁ → OpsX (XK K) fn ops rest (false, vs) Q (a.put o.dst undef) w₁) : OpsX (XK K) fn ops (j :: rest) (fr, v :: vs) Q a w := by
  intro b k cs hb hke hc
  refine Way.stop fun w₁ h₁ => ?_
  have hr : ∀ w, (execOp a.eval o).run K.P w = .ok (.comm #[scase K.A v K.zs] true .send) w := fun w => by
    unfold execOp
    simp [hop, hx, hy, hzs, scase]
  have he : ∀ w, (execOp a.eval o).events K.P w #[] = #[] := fun w => by
    unfold execOp
    simp [hop]
  refine ⟨rfl, hk w₁ h₁.rc, ?_, fun w₂ h₂ => ?_⟩
  · rw [stepG_comm ho hw hke (hr w₁), listed_none (he w₁)]
  · have e : Conc.served (G (b.at a (.inRegion ops (j :: rest) :: k)) cs) undef = G (b.at (a.put o.dst undef) (.inRegion ops rest :: k)) cs := by
      have : (b.at a (.inRegion ops (j :: rest) :: k)).finish undef = b.at (a.put o.dst undef) (.inRegion ops rest :: k) := by rw [Frame.finish_at, ho]; rfl
      simp only [Conc.served, G]
      rw [this]
    rw [e]
    exact (xk_false vs _ _).1 (h w₂ (h₁.rc.trans h₂) b k cs hb hke hc)
end

/-! ### the program's own -/
/-- The cleaner's and the decoder's states. -/
structure CS where
  begun : Bool
  returned : Bool
structure DS where
  letter : Int
  missing : Int
  low : Int
  high : Int
def sendV (N : Nat) : Value := .func (.func 50) #[] #[.pointer (some ⟨N + 2, 0, none⟩)]
def putV (N : Nat) : Value := .func (.func 76) #[.pointer (some ⟨N + 8, 0, none⟩)] #[]

/-- What the child holds of the world. -/
structure HC (N Pb : Nat) (c : CS) (d : DS) (w : World) : Prop where
  lv : w.heap[N + 2]? = some (.cells #[.chan (some (N + 1))] 103)
  cl : w.heap[N + 8]? = some (.cells #[sendV N, .bool c.begun, .bool c.returned] 140)
  de : w.heap[N + 9]? = some (.cells #[putV N, .int .i32 d.letter, .int .i64 d.missing, .int .u8 d.low, .int .u8 d.high] 142)
  pc : w.heap[N]? = some (.cells #[.slice (some ⟨Pb, 0, none⟩) 1 1] 29)
  wb : w.heap[N + 6]? = some (.cells #[.pointer (some ⟨N + 5, 0, none⟩)] 137)

section
variable {N Pb : Nat} {Shun : Loc → Prop} {val : Value} {B Low : Nat} {Mine : Loc → Prop} {c : CS} {d : DS} {w w₁ : World}

theorem HC.rc (h : HC N Pb c d w) (r : RC (kcfg Tryz.prog N Pb Shun val B Low Mine) w w₁) : HC N Pb c d w₁ :=
  ⟨(r _ (.inr (.inl rfl))).trans h.lv, (r _ (.inl (.inr (.inl rfl)))).trans h.cl, (r _ (.inl (.inr (.inr rfl)))).trans h.de, (r _ (.inl (.inl rfl))).trans h.pc, (r _ (.inr (.inr (.inr (.inl rfl))))).trans h.wb⟩
theorem HC.rely {i : Ix} (h : HC N Pb c d w) (r : RKd (kcfg Tryz.prog N Pb Shun val B Low Mine) i w w₁) : HC N Pb c d w₁ := h.rc r.rc
theorem HC.size (h : HC N Pb c d w) : N + 10 ≤ w.heap.size := by
  have := (Array.getElem?_eq_some_iff.1 h.de).1
  omega
theorem HC.cell_lv (h : HC N Pb c d w) : w.cell? ⟨N + 2, 0, none⟩ = some (.chan (some (N + 1))) := by simp [World.cell?, h.lv]

theorem HC.cells_cl (h : HC N Pb c d w) : w.cell? ⟨N + 8, 0, none⟩ = some (sendV N) ∧ w.cell? ⟨N + 8, 1, none⟩ = some (.bool c.begun) ∧ w.cell? ⟨N + 8, 2, none⟩ = some (.bool c.returned) ∧ w.frozen? ⟨N + 8, 1, none⟩ = false ∧ w.frozen? ⟨N + 8, 2, none⟩ = false := by
  simp [World.cell?, World.frozen?, h.cl]
theorem HC.cells_de (h : HC N Pb c d w) : w.cell? ⟨N + 9, 0, none⟩ = some (putV N) ∧ w.cell? ⟨N + 9, 1, none⟩ = some (.int .i32 d.letter) ∧ w.cell? ⟨N + 9, 2, none⟩ = some (.int .i64 d.missing) ∧ w.cell? ⟨N + 9, 3, none⟩ = some (.int .u8 d.low) ∧ w.cell? ⟨N + 9, 4, none⟩ = some (.int .u8 d.high)
    ∧ w.frozen? ⟨N + 9, 1, none⟩ = false ∧ w.frozen? ⟨N + 9, 2, none⟩ = false ∧ w.frozen? ⟨N + 9, 3, none⟩ = false ∧ w.frozen? ⟨N + 9, 4, none⟩ = false := by
  simp [World.cell?, World.frozen?, h.de]

/-- A step that only looks. -/
theorem dk_read {es : Array Event} (h : ∀ e ∈ es, EvK (kcfg Tryz.prog N Pb Shun val B Low Mine) e) : DK (kcfg Tryz.prog N Pb Shun val B Low Mine) w w es := ⟨rfl, rfl, rfl, fun _ _ => rfl, rfl, Nat.le_refl _, h⟩
/-- A step that writes a cell of the child's own two structs. -/
theorem dk_write {es : Array Event} {b o : Nat} {v : Value} (hb : b = N + 8 ∨ b = N + 9) (h : ∀ e ∈ es, EvK (kcfg Tryz.prog N Pb Shun val B Low Mine) e) : DK (kcfg Tryz.prog N Pb Shun val B Low Mine) w (w.setCell ⟨b, o, none⟩ v) es := by
  refine ⟨rfl, rfl, rfl, fun k hk => Below.heap_setCell _ _ _ _ ?_, Below.heap_setCell _ _ _ _ ?_, by simp [World.setCell], h⟩
  · rintro rfl; exact hk (.inr hb)
  · show N ≠ b
    omega
theorem evk_still {o : Nat} {b : Nat} (hb : b = N + 2 ∨ b = N + 4 ∨ b = N + 6 ∨ b = N + 7 ∨ b = Pb) : EvK (kcfg Tryz.prog N Pb Shun val B Low Mine) ⟨.cell ⟨b, o, none⟩, false, false⟩ := ⟨_, _, rfl, .inr ⟨hb, rfl⟩⟩
theorem evk_kid {o : Nat} {b : Nat} {wr : Bool} (hb : b = N ∨ b = N + 8 ∨ b = N + 9) : EvK (kcfg Tryz.prog N Pb Shun val B Low Mine) ⟨.cell ⟨b, o, none⟩, wr, false⟩ := ⟨_, _, rfl, .inl hb⟩
theorem drawK : LetsDraw (DK (kcfg Tryz.prog N Pb Shun val B Low Mine)) := fun _ => ⟨rfl, rfl, rfl, fun _ _ => rfl, rfl, Nat.le_refl _, by simp⟩
theorem ownDrawK {i : Ix} (w : World) : RKd (kcfg Tryz.prog N Pb Shun val B Low Mine) i w { w with drawn := w.drawn + 1 } := by
  unfold RKd
  split
  · exact ⟨w.drawn + 1, rfl⟩
  · exact fun _ _ => rfl


theorem HC.off (h : HC N Pb c d w) {b o : Nat} (v : Value) (hb : b = N + 8 ∨ b = N + 9) : (w.setCell ⟨b, o, none⟩ v).heap[N + 2]? = some (.cells #[.chan (some (N + 1))] 103) := by
  rw [Below.heap_setCell _ _ _ _ (by show N + 2 ≠ b; omega)]; exact h.lv
theorem HC.set1 (h : HC N Pb c d w) (x : Bool) : HC N Pb ⟨x, c.returned⟩ d (w.setCell ⟨N + 8, 1, none⟩ (.bool x)) :=
  ⟨h.off _ (.inl rfl), setCell_block h.cl _, by rw [Below.heap_setCell _ _ _ _ (by show N + 9 ≠ N + 8; omega)]; exact h.de, (HC.off' w _ (by omega)).trans h.pc, (HC.off' w _ (by omega)).trans h.wb⟩
theorem HC.set2 (h : HC N Pb c d w) (x : Bool) : HC N Pb ⟨c.begun, x⟩ d (w.setCell ⟨N + 8, 2, none⟩ (.bool x)) :=
  ⟨h.off _ (.inl rfl), setCell_block h.cl _, by rw [Below.heap_setCell _ _ _ _ (by show N + 9 ≠ N + 8; omega)]; exact h.de, (HC.off' w _ (by omega)).trans h.pc, (HC.off' w _ (by omega)).trans h.wb⟩
theorem HC.setLetter (h : HC N Pb c d w) (x : Int) : HC N Pb c { d with letter := x } (w.setCell ⟨N + 9, 1, none⟩ (.int .i32 x)) :=
  ⟨h.off _ (.inr rfl), by rw [Below.heap_setCell _ _ _ _ (by show N + 8 ≠ N + 9; omega)]; exact h.cl, setCell_block h.de _, (HC.off' w _ (by omega)).trans h.pc, (HC.off' w _ (by omega)).trans h.wb⟩
theorem HC.setMissing (h : HC N Pb c d w) (x : Int) : HC N Pb c { d with missing := x } (w.setCell ⟨N + 9, 2, none⟩ (.int .i64 x)) :=
  ⟨h.off _ (.inr rfl), by rw [Below.heap_setCell _ _ _ _ (by show N + 8 ≠ N + 9; omega)]; exact h.cl, setCell_block h.de _, (HC.off' w _ (by omega)).trans h.pc, (HC.off' w _ (by omega)).trans h.wb⟩
theorem HC.setLow (h : HC N Pb c d w) (x : Int) : HC N Pb c { d with low := x } (w.setCell ⟨N + 9, 3, none⟩ (.int .u8 x)) :=
  ⟨h.off _ (.inr rfl), by rw [Below.heap_setCell _ _ _ _ (by show N + 8 ≠ N + 9; omega)]; exact h.cl, setCell_block h.de _, (HC.off' w _ (by omega)).trans h.pc, (HC.off' w _ (by omega)).trans h.wb⟩
theorem HC.setHigh (h : HC N Pb c d w) (x : Int) : HC N Pb c { d with high := x } (w.setCell ⟨N + 9, 4, none⟩ (.int .u8 x)) :=
  ⟨h.off _ (.inr rfl), by rw [Below.heap_setCell _ _ _ _ (by show N + 8 ≠ N + 9; omega)]; exact h.cl, setCell_block h.de _, (HC.off' w _ (by omega)).trans h.pc, (HC.off' w _ (by omega)).trans h.wb⟩

set_option maxRecDepth 100000 in
/-- The closure that sends. -/
theorem send_x (hF : HC N Pb c d w) (fr : Bool) (r : Int) (vs : List Value) :
    CallsX Tryz.prog (XK (kcfg Tryz.prog N Pb Shun val B Low Mine)) 50 #[.int .i32 r, .pointer (some ⟨N + 2, 0, none⟩)] (fr, .int .i32 r :: vs) w (fun i' _ w' => i' = (false, vs) ∧ HC N Pb c d w') := by
  have C : Closed Tryz.prog false (RKd (kcfg Tryz.prog N Pb Shun val B Low Mine)) (DK (kcfg Tryz.prog N Pb Shun val B Low Mine)) (XK (kcfg Tryz.prog N Pb Shun val B Low Mine)) := XK.closed (K := (kcfg Tryz.prog N Pb Shun val B Low Mine))
  have T := termsK (K := (kcfg Tryz.prog N Pb Shun val B Low Mine))
  refine callsX_of Tryz.func50 (by rfl) rfl ?_
  simp only [Tryz.ntmps50, List.size_toArray, List.length_cons, List.length_nil, Nat.reduceAdd, Nat.reduceSub, Array.replicate_succ, Array.replicate_zero, List.push_toArray, List.append_toArray, List.nil_append, List.cons_append]
  refine wpX_region C T ?_
  simp only [List.size_toArray, List.length_cons, List.length_nil, Nat.reduceAdd, Nat.zero_add, List.range, List.range.loop]
  refine opsX_cons C rfl (by rfl) fun w₁ hR Kx hKx => ?_
  replace hF := hF.rely hR
  clear hR
  have hc := hF.cell_lv
  go_simp
  refine hKx _ _ ⟨?_, ?_⟩
  · refine dk_read ?_
    co_evs (exact evk_still (.inl rfl))
  clear hKx Kx hc
  try walk_nrm
  refine opsX_cons C rfl (by rfl) fun w₂ hR Kx hKx => ?_
  replace hF := hF.rely hR
  clear hR
  go_simp
  refine hKx _ _ ⟨?_, ?_⟩
  · co_quiet (T (true, []))
  clear hKx Kx
  try walk_nrm
  refine opsX_send (K := (kcfg Tryz.prog N Pb Shun val B Low Mine)) (v := .int .i32 r) rfl rfl (by rfl) rfl rfl rfl (fun w₃ h₃ => (hF.rc h₃).size) fun w₃ h₃ => ?_
  replace hF := hF.rc h₃
  refine opsX_nil C T ?_
  exact ⟨.inl rfl, rfl, _, resultsC_none (by rfl) _, rfl, hF⟩
end
end Go.Proofs.YtmabfdpfegbfkaaGreat
