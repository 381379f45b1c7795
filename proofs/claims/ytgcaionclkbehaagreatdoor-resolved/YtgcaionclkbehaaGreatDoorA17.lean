/-
 folio.Decode, whole.
-/
import Derived.Test.YtgcaionclkbehaaGreatDoorOf
import Derived.Test.YtgcaionclkbehaaGreatDoorA16
set_option linter.all false
namespace Go.Proofs.YtgcaionclkbehaaGreatDoor
open Go.Conc Go.RowKit
structure Ext (w w' : World) : Prop where
 tape : w'.tape = w.tape
 os : w'.os = w.os
 output : w'.output = w.output
 size : w.heap.size ≤ w'.heap.size
 block : ∀ b, b < w.heap.size → w'.heap[b]? = w.heap[b]?
end Go.Proofs.YtgcaionclkbehaaGreatDoor
namespace Go.Proofs.YtgcaionclkbehaaGreatDoor
open Go.Conc Go.RowKit
section
variable {P : Program} {Post : Value → World → Prop} {b : Frame} {a : Act} {w : World}
theorem stepG_done {fn : Func} {todo : List Item} {v : Value} (hn : b.kind = .normal) (hd : a.defers = []) (hf : P.funcs[b.fn]? = some fn) (hi : P.inits.idxOf? b.fn = none) (hr : (results fn a.tmps).run P w = .ok v w) (he : (results fn a.tmps).events P w #[] = #[]) :
  stepG P true (G { b.at a todo with mode := .returning } []) w = .ended (.done v) w #[] := by
 simp [G, stepG, unwind, doReturn, Frame.at, hn, hd, hf, hi, hr, he, seen, GStep.after]
theorem ends_of_calls {f : FuncId} {args : Array Value} {Q : Value → World → Prop} (hi : P.inits.idxOf? f = none) (hQ : ∀ v w' e, Q v w' → Post v (w'.at e)) (h : CallsI P (ZI P Post 0) f args (fun _ => False) w (fun _ v w' => Q v w')) : Ends P Post (solo (G (Frame.enter P f args .normal) []) w) #[] := by
 have C : ClosedI P true (fun _ : Nat → Prop => AtRel) DZ (ZI P Post 0) := ZI.closed
 have T : ∀ S, Terms AtRel (DZ S) := termsS
 obtain ⟨f₀, c, hf, _, hb, hw⟩ := h
 have hleave : ∀ (S' : Nat → Prop) (a' : Act) (w' : World) (todo : List Item), (a'.defers = [] ∧ ∃ v, ResultsC P f₀ a'.tmps v ∧ Q v w') → ZI P Post 0 S' (G { (base f).at a' todo with mode := .returning } []) w' := by
  rintro S' a' w' todo ⟨hd, v, hr, hq⟩
  exact ZI.done rfl (fun e => stepG_done (b := base f) rfl hd hf hi (hr _).1 (hr _).2) (fun e => hQ v w' e hq)
 have hz : ZI P Post 0 (fun _ => False) (G ((base f).at { tmps := args ++ Array.replicate (f₀.ntmps - args.size) undef, defers := [] } [.code c]) []) w := by
  refine hw (base f) [] [] rfl (by simp [base]) fun S' e a' w' q => ?_
  obtain ⟨he, q⟩ := q
  rcases he with rfl | rfl
  ·
   exact C.step rfl fun w₂ h₂ => by rw [stepG_end]; exact ⟨(T S').idle _, C.rely (hleave S' a' w' [] q) h₂⟩
  ·
   exact fun todo => hleave S' a' w' todo q
 rw [enter_at _ hf hb, solo_eq_crowd]
 have hp := past_nil
 have := hz 0 w.drawn (fun _ => False) #[G ((base f).at { tmps := args ++ Array.replicate (f₀.ntmps - args.size) undef, defers := [] } [.code c]) []] (fun _ => 0) #[] none (fun l hl => hl.elim)
  ⟨rfl, leavers_one _ _, hp.clean, hp.known, hp.over, hp.hears⟩
 exact this
end
end Go.Proofs.YtgcaionclkbehaaGreatDoor
set_option maxRecDepth 100000
namespace Go.Proofs.YtgcaionclkbehaaGreatDoor
open Go.Conc Go.RowKit Go.Lib
def not64 : Value → Bool
 | .int .i64 _ => false
 | _ => true
theorem entC_no64 : entC.all not64 = true := by kernel_rfl
theorem entC_size : entC.toArray.size = 54 := by kernel_rfl
theorem size335 : sizeT Tryz.prog 335 = some 54 := by kernel_rfl
section
variable {Post : Value → World → Prop} {Ex : Nat → Prop} {w₀ : World} {An : Who} {pr : Prim}
theorem law13_e (hok : PrimOk Tryz.prog KTs An (fun _ : Zx => AtRel) (fun j => DZ j.1) (fun j => ZI Tryz.prog Post 0 j.1) (HdZ Ex w₀) pr) (h15 : EF Tryz.prog ktB pr 15 #[] sA (.bool true) sA) (h19 : pr 19 = none) (h31 : pr 31 = none) (h32 : pr 32 = none) {V : Array Value → Option Value} (h49 : pr 49 = some (alG V)) (hV : ResV V) {Sb so z e len cap : Nat} {v0 : Value} (hv0 : (v0 = .slice none 0 0 ∧ len = 0) ∨ (v0 = .slice (some ⟨31, so, none⟩) len cap ∧ An 31 = some (Sb, z, e))) {u : Int} (hu : -9223372036854775808 ≤ u ∧ u ≤ 9223372036854775807) {q : List UInt8} (hq : q.length ≤ 9223372036854775807)
  (hcell : ∀ i, i < len → ∃ y, (-9223372036854775808 ≤ y ∧ y ≤ 9223372036854775807) ∧ ∀ j l w, HdZ Ex w₀ j l w → mineZ j.1 w Sb ∧ w.cell? ⟨Sb, so + i, none⟩ = some (num y)) :
  ∀ c, (match Tryz.f13.body with | some c => c | _ => .skip) = c → WI Tryz.prog KTs An (fun j : Zx => ZI Tryz.prog Post 0 j.1) (HdZ Ex w₀) c ([v0, num u, str q] ++ List.replicate 119 undef) sA (fun e a' s' => e = .ret ∧ a'.getD 6 undef = .bool true ∧ s'.get 1 = some (.cells entC.toArray 335)) := by
 rintro c rfl
 refine WI.seq cyZ (WI.of cyZ mixed_tryz ktB_ok hok nm_tryz (EW.go 5 (by kernel_rfl) ?_))
 refine WI.seq cyZ (WI.of cyZ mixed_tryz ktB_ok hok nm_tryz (EW.region (by kernel_rfl) ?_))
 refine EO.asS sA (by kernel_rfl) ?_
 refine EO.callF #[] (by kernel_rfl) rfl rfl (by kernel_rfl) (by kernel_rfl) h15 ?_
 refine EO.fin 5 (by kernel_rfl) ?_
 iterate 2
  refine WI.seq cyZ (WI.of cyZ mixed_tryz ktB_ok hok nm_tryz (EW.go 5 (by kernel_rfl) ?_))
 refine WI.seq cyZ (WI.seq cyZ (WI.of cyZ mixed_tryz ktB_ok hok nm_tryz (EW.go 5 (by kernel_rfl) ?_)))
 refine WI.asS sA (by kernel_rfl) ?_
 refine WI.fill (sl13 v0 u q []) (by kernel_rfl) ?_
 intro x0
 refine WI.block cyZ ?_
 refine WI.mono (WI.loopI cyZ (Q := fun e a' s' => e = .exit 0 ∧ s'.get 1 = some (.cells entC.toArray 335) ∧ ∃ cs, lowC cs ∧ cs.length ≤ 10 ∧ ∃ x, a' = sl13 v0 u q cs x) (fun m a' s' => s'.get 1 = some (.cells entC.toArray 335) ∧ 1 < s'.nx ∧ ∃ cs, lowC cs ∧ cs.length + m = 11 ∧ cs.length ≤ 10 ∧ ∃ x, a' = sl13 v0 u q cs x) ?_ 11 _ _ ⟨by kernel_rfl, by decide, [], by intro c hc; simp at hc, rfl, by simp, x0, rfl⟩) ?_
 ·
  rintro m a' s' ⟨hg, hnx, cs, hlow, hm, h10, x, rfl⟩
  obtain ⟨k, rfl⟩ : ∃ k, m = k + 1 := ⟨m - 1, by omega⟩
  by_cases hlt : cs.length < len ∧ cs.length < 10
  ·
   rcases hv0 with ⟨rfl, h0⟩ | ⟨rfl, hAn⟩
   ·
    omega
   obtain ⟨y, hy, hc⟩ := hcell cs.length hlt.1
   refine round13_e hok h19 hAn hy hlt.1 hlt.2 hc hlow (fun c x' o hl' => ?_) _ rfl
   refine ⟨k, Nat.lt_succ_self k, by rw [AS.get_add, if_neg (by omega)]; exact hg, by simp; omega, cs ++ [c], hl', by simp; omega, by simp; omega, x', rfl⟩
  ·
   refine WI.seq cyZ (WI.of cyZ mixed_tryz ktB_ok hok nm_tryz (EW.seq (EW.region (by kernel_rfl) ?_)))
   rcases hv0 with ⟨rfl, rfl⟩ | ⟨rfl, hAn⟩
   ·
    refine EO.go 3 5 (by kernel_rfl) ?_
    refine EO.op (by kernel_rfl) (op_bin (u := num ((cs.length : Nat) : Int)) (w := num 0) rfl (by kernel_rfl) (by kernel_rfl) (bin_lss (b := false) (decide_eq_false (by omega)))) ?_
    refine EO.fin 5 (by kernel_rfl) ?_
    refine EW.asS s' (by kernel_rfl) ?_
    refine EW.condF (by kernel_rfl) (EW.exit ?_)
    exact ⟨rfl, hg, cs, hlow, h10, fillX (by kernel_rfl)⟩
   ·
    refine EO.go 3 5 (by kernel_rfl) ?_
    by_cases hl : cs.length < len
    ·
     refine EO.op (by kernel_rfl) (op_bin (u := num ((cs.length : Nat) : Int)) (w := num ((len : Nat) : Int)) rfl (by kernel_rfl) (by kernel_rfl) (bin_lss (b := true) (decide_eq_true (by omega)))) ?_
     refine EO.go 2 5 (by kernel_rfl) ?_
     refine EO.op (by kernel_rfl) (op_bin (u := num ((cs.length : Nat) : Int)) (w := num 10) rfl (by kernel_rfl) (by kernel_rfl) (bin_lss (b := false) (decide_eq_false (by omega)))) ?_
     refine EO.fin 5 (by kernel_rfl) ?_
     refine EW.asS s' (by kernel_rfl) ?_
     refine EW.condF (by kernel_rfl) (EW.exit ?_)
     exact ⟨rfl, hg, cs, hlow, h10, fillX (by kernel_rfl)⟩
    ·
     refine EO.op (by kernel_rfl) (op_bin (u := num ((cs.length : Nat) : Int)) (w := num ((len : Nat) : Int)) rfl (by kernel_rfl) (by kernel_rfl) (bin_lss (b := false) (decide_eq_false (by omega)))) ?_
     refine EO.fin 5 (by kernel_rfl) ?_
     refine EW.asS s' (by kernel_rfl) ?_
     refine EW.condF (by kernel_rfl) (EW.exit ?_)
     exact ⟨rfl, hg, cs, hlow, h10, fillX (by kernel_rfl)⟩
 ·
  rintro e a' s' ⟨rfl, hg, cs, hlow, h10, x, rfl⟩
  refine WI.mono (WI.of cyZ mixed_tryz ktB_ok hok nm_tryz (tail13_e h19 h31 h32 h49 hV hu hq hlow h10 _ rfl)) fun e a' s'' hq' => ?_
  obtain ⟨rfl, h6, rfl⟩ := hq'
  exact ⟨rfl, h6, hg⟩
end
section
variable {Post : Value → World → Prop}
theorem resolved_x {W : World} (hG : W.heap[1]? = some (.cells entC.toArray 335)) {a0 : Option Addr} {len cap : Nat} {u : Int} {q : ByteArray} (hu : -9223372036854775808 ≤ u ∧ u ≤ 9223372036854775807) (hq : q.size ≤ 9223372036854775807) (ha : (a0 = none ∧ len = 0 ∧ cap = 0) ∨ ∃ Sb so, a0 = some ⟨Sb, so, none⟩ ∧ len ≤ cap ∧ cap ≤ maxLen ∧ (0 < len → Sb < W.heap.size) ∧ ∀ i, i < len → ∃ y, (-9223372036854775808 ≤ y ∧ y ≤ 9223372036854775807) ∧ W.cell? ⟨Sb, so + i, none⟩ = some (num y)) :
  CallsI Tryz.prog (ZI Tryz.prog Post 0) 13 #[.slice a0 len cap, num u, .string q] (fun _ => False) W (fun _ x w' => x = .bool true ∧ Ext W w') := by
 have h1W : 1 < W.heap.size := (Array.getElem?_eq_some_iff.1 hG).1
 obtain ⟨An, hA1, hA31, hAk, hAl⟩ : ∃ An : Who, An 1 = some (1, 54, 54) ∧ (∀ Sb so, a0 = some ⟨Sb, so, none⟩ → An 31 = some (Sb, so + cap, 1)) ∧ (∀ b, 32 ≤ b → An b = none) ∧ True := by
  refine ⟨fun b => if b = 1 then some (1, 54, 54) else if b = 31 then (match a0 with | some ⟨Sb, so, _⟩ => some (Sb, so + cap, 1) | none => none) else none, rfl, ?_, fun b hb => ?_, trivial⟩
  ·
   rintro Sb so rfl
   rfl
  ·
   show (if b = 1 then _ else if b = 31 then _ else _) = _
   rw [if_neg (by omega), if_neg (by omega)]
 obtain ⟨n, okA⟩ := prAw_ok (Post := Post) (Ex := fun b => b = 1) (w₀ := W) hA1 hAk
 obtain ⟨V1, ok1, s1⟩ := PrimOk.alone2 (m := 5) cyZ mixed_tryz ktB_ok nm_tryz hAk okA okA 171
 obtain ⟨V2, ok2, s2⟩ := PrimOk.alone2 (m := 5) cyZ mixed_tryz ktB_ok nm_tryz hAk okA ok1 172
 obtain ⟨V3, ok3, s3⟩ := PrimOk.alone2 (m := 5) cyZ mixed_tryz ktB_ok nm_tryz hAk okA ok2 173
 obtain ⟨V4, ok4, s4⟩ := PrimOk.alone2 (m := 5) cyZ mixed_tryz ktB_ok nm_tryz hAk ok3 ok3 86
 obtain ⟨V5, ok5, s5⟩ := PrimOk.alone2 (m := 5) cyZ mixed_tryz ktB_ok nm_tryz hAk okA ok4 87
 obtain ⟨V6, ok6, s6⟩ := PrimOk.alone2 (m := 5) cyZ mixed_tryz ktB_ok nm_tryz hAk okA ok5 88
 obtain ⟨V7, ok7, s7⟩ := PrimOk.alone2 (m := 5) cyZ mixed_tryz ktB_ok nm_tryz hAk okA ok6 90
 obtain ⟨V8, ok8, s8⟩ := PrimOk.alone2 (m := 5) cyZ mixed_tryz ktB_ok nm_tryz hAk ok7 ok7 49
 have hV : ResV V8 := resV (n := n) s1 s2 s3 s4 s5 s6 s7 s8
 have h15 : EF Tryz.prog ktB (prAl 49 V8 (pr7 V4 V5 V6 V7 (pr3 V1 V2 V3 (prAw Tryz.prog n)))) 15 #[] sA (.bool true) sA := EF.eval 1 (by kernel_rfl)
 have hold : ∀ b, b < W.heap.size → b ≠ 1 → ∀ j l w, HdZ (fun b => b = 1) W j l w → mineZ j.1 w b ∧ w.heap[b]? = W.heap[b]? := by
  intro b hb hb1 j l w hF
  have hm : mineZ j.1 W b := ⟨hb, fun hj => by have := hF.1.2 b hj; omega⟩
  exact ⟨hF.2.kept.mine b hm, hF.2.kept.block b hm hb1⟩
 obtain ⟨v0, Sb, so, hv0, hVR, hcell⟩ : ∃ (v0 : Value) (Sb so : Nat), ((v0 = .slice none 0 0 ∧ len = 0) ∨ (v0 = .slice (some ⟨31, so, none⟩) len cap ∧ An 31 = some (Sb, so + cap, 1))) ∧ VR An v0 (.slice a0 len cap) ∧ ∀ i, i < len → ∃ y, (-9223372036854775808 ≤ y ∧ y ≤ 9223372036854775807) ∧ ∀ j l w, HdZ (fun b => b = 1) W j l w → mineZ j.1 w Sb ∧ w.cell? ⟨Sb, so + i, none⟩ = some (num y) := by
  rcases ha with ⟨rfl, rfl, rfl⟩ | ⟨Sb, so, rfl, hlc, hcm, hlt, hc⟩
  ·
   exact ⟨.slice none 0 0, 0, 0, .inl ⟨rfl, rfl⟩, VR.of_sc rfl, fun i hi => by omega⟩
  ·
   refine ⟨.slice (some ⟨31, so, none⟩) len cap, Sb, so, .inr ⟨rfl, hA31 Sb so rfl⟩, VR.of_sl (hA31 Sb so rfl) hlc (Nat.le_refl _) hcm (by omega), fun i hi => ?_⟩
   obtain ⟨y, hy, hyc⟩ := hc i hi
   have hne : Sb ≠ 1 := by
    rintro rfl
    simp only [World.cell?, hG] at hyc
    have hm := Array.mem_of_getElem? (xs := entC.toArray) (i := so + i) (by simpa using hyc)
    have := List.all_eq_true.1 entC_no64 _ (by simpa using hm)
    cases this
   refine ⟨y, hy, fun j l w hF => ?_⟩
   obtain ⟨q1, q2⟩ := hold Sb (hlt (by omega)) hne j l w hF
   refine ⟨q1, ?_⟩
   rw [← hyc]
   simp only [World.cell?, q2]
 have hlaw := law13_e (Post := Post) (Ex := fun b => b = 1) (w₀ := W) ok8 h15 (by kernel_rfl) (by kernel_rfl) (by kernel_rfl) (by kernel_rfl) hV (q := q.data.toList) hv0 hu (by rw [Array.length_toList]; exact hq) hcell
 obtain ⟨cd, hcd⟩ : ∃ c, Tryz.f13.body = some c := ⟨_, rfl⟩
 have hlaw := hlaw cd (by rw [hcd])
 have hSim : Sim Tryz.prog KTs An An sA [(1, .cells entC.toArray 335)] := by
  refine ⟨fun b o hb => ?_, fun b b' o o' x x' hb hb' _ _ _ => ?_, fun b o hb => ?_, Who.le_refl An⟩
  ·
   rw [sA_get] at hb
   split at hb
   ·
    next e =>
    subst e
    cases hb
    refine ⟨1, 54, 54, _, hA1, by simp, ⟨entC.toArray, rfl, entC_size, ⟨by rw [entC_size]; exact Nat.le_refl _, fun _ => entC_size⟩, fun i x y hx hy => ?_⟩, fun cs t fz h => ?_⟩
    ·
     rw [hx] at hy
     cases hy
     have := entC_sc
     rw [List.all_eq_true] at this
     exact VR.of_sc (this x (by simpa using Array.mem_of_getElem? hx))
    ·
     cases h
     exact ⟨size335, ktB_ok 335 rfl⟩
   ·
    cases hb
  ·
   rw [sA_get] at hb hb'
   split at hb
   ·
    next e =>
    split at hb'
    ·
     next e' => rw [e, e']
    ·
     cases hb'
   ·
    cases hb
  ·
   rw [sA_get] at hb
   split at hb
   ·
    next e => subst e; decide
   ·
    cases hb
 have hHd : HdZ (fun b => b = 1) W ((fun _ => False), W.heap.size) ([(1, .cells entC.toArray 335)] ++ []) W := by
  refine ⟨⟨fun b h => h.elim, fun b h => h.elim⟩, Kept.refl W, Nat.le_refl _, fun b o hm => ?_, by simp⟩
  simp only [List.append_nil, List.mem_singleton, Prod.mk.injEq] at hm
  obtain ⟨rfl, rfl⟩ := hm
  exact ⟨⟨h1W, fun h => h⟩, hG, .inl rfl⟩
 refine ⟨Tryz.f13, cd, Tryz.func13, by rfl, hcd, ?_⟩
 intro b k cs hb hk hc
 have hargs : AR (VR An) (([v0, num u, str q.data.toList] ++ List.replicate 119 undef : List Value)).toArray (#[.slice a0 len cap, num u, .string q] ++ Array.replicate (Tryz.f13.ntmps - (#[.slice a0 len cap, num u, .string q] : Array Value).size) undef) := by
  have e : (([v0, num u, str q.data.toList] ++ List.replicate 119 undef : List Value)).toArray = #[v0, num u, .string q] ++ Array.replicate 119 undef := by
   apply Array.toList_inj.1
   kernel_rfl
  rw [e]
  refine AR.append ⟨rfl, fun i x y hx hy => ?_⟩ (AR.replicate 119 VR.undef)
  match i with
  | 0 => cases hx; cases hy; exact hVR
  | 1 => cases hx; cases hy; exact VR.of_sc rfl
  | 2 => cases hx; cases hy; exact VR.of_sc rfl
  | i + 3 => simp at hx
 have hend : ∀ (e : Exit) (aA' : TL) (s' : AS) (j : Zx) (S' : Who) (l' : List (Nat × Obj)) (w' : World) (a' : Act), (e = .ret ∧ aA'.getD 6 undef = .bool true ∧ s'.get 1 = some (.cells entC.toArray 335)) → Sim Tryz.prog KTs An S' s' l' → HdZ (fun b => b = 1) W j (l' ++ []) w' → AR (VR S') aA'.toArray a'.tmps → a'.defers = [] → (∀ b, s'.nx ≤ b → S' b = none) → (e = .normal ∨ e = .ret) ∧ a'.defers = [] ∧ ∃ v, ResultsC Tryz.prog Tryz.f13 a'.tmps v ∧ v = .bool true ∧ Ext W w' := ?_
 ·
  generalize hact : (⟨#[.slice a0 len cap, num u, .string q] ++ Array.replicate (Tryz.f13.ntmps - (#[.slice a0 len cap, num u, .string q] : Array Value).size) undef, []⟩ : Act) = act
  have hargs' : AR (VR An) (([v0, num u, str q.data.toList] ++ List.replicate 119 undef : List Value)).toArray act.tmps := by rw [← hact]; exact hargs
  have hdef : act.defers = [] := by rw [← hact]
  have hwp := hlaw 13 An [(1, .cells entC.toArray 335)] [] ((fun _ => False), W.heap.size) W act (fun j e a' w' => (e = .normal ∨ e = .ret) ∧ a'.defers = [] ∧ ∃ v, ResultsC Tryz.prog Tryz.f13 a'.tmps v ∧ v = .bool true ∧ Ext W w') hSim hHd hargs' hdef hAk hend
  refine hwp b k cs hb hk ?_
  intro j e a' w' hQ
  have := hc j.1 e a' w' hQ
  cases e <;> exact this
 ·
  rintro e aA' s' j S' l' w' a' ⟨rfl, h6, hg1⟩ q3 q4 q5 q6 q7
  refine ⟨.inr rfl, q6, _, resultsC_tmp (by rfl) _, ?_, ?_⟩
  ·
   have := getD_rel q5 6
   rw [show aA'.toArray.toList.getD 6 undef = .bool true from h6] at this
   exact this.sc rfl
  ·
   rw [List.append_nil] at q4
   refine ⟨q4.2.kept.tape, q4.2.kept.os, q4.2.kept.output, q4.2.kept.grow, fun b hb => ?_⟩
   by_cases hb1 : b = 1
   ·
    subst hb1
    obtain ⟨g, z, e, o', r1, r2, r3, _⟩ := q3.live 1 _ hg1
    rw [q3.an _ _ hA1] at r1
    cases r1
    obtain ⟨cs', rfl, t1, _, t3⟩ := r3
    have hcs : cs' = entC.toArray := by
     refine AR.sc (S := S') ⟨by rw [entC_size, t1], t3⟩ ?_
     exact entC_sc
    subst hcs
    rw [(q4.2.own 1 _ r2).2.1, hG]
   ·
    exact (hold b hb hb1 j _ w' q4).2
end
end Go.Proofs.YtgcaionclkbehaaGreatDoor
