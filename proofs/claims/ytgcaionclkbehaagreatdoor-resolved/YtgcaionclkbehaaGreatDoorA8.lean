/-
 A strings.Builder, by the evaluator's rules.
-/
import Derived.Test.YtgcaionclkbehaaGreatDoorE25
set_option linter.all false
namespace Go.Proofs.YtgcaionclkbehaaGreatDoor
open Go.Conc Go.RowKit Go.Lib
abbrev byC (l : List UInt8) : Array Value := (strCells ⟨l.toArray⟩).toArray
def BW (s : AS) (N b : Nat) (l : List UInt8) : Prop := N ≤ b ∧ b < s.nx ∧ ∃ p sl, s.get b = some (.cells #[p, sl] 119) ∧ (p = .pointer none ∨ p = aptr b 0) ∧ ((sl = .slice none 0 0 ∧ l = []) ∨ ∃ d fz, sl = .slice (some ⟨d, 0, none⟩) l.length l.length ∧ N ≤ d ∧ d < s.nx ∧ d ≠ b ∧ s.get d = some (.cells (byC l) 5 fz))
def FrB (N : Nat) (s s' : AS) : Prop := s.nx ≤ s'.nx ∧ ∀ k, k < N → s'.get k = s.get k
theorem FrB.trans {N : Nat} {s s1 s2 : AS} (h : FrB N s s1) (h' : FrB N s1 s2) : FrB N s s2 := ⟨Nat.le_trans h.1 h'.1, fun k hk => (h'.2 k hk).trans (h.2 k hk)⟩
theorem FrB.add {N : Nat} {s : AS} {o : Obj} (h : N ≤ s.nx) : FrB N s (s.add o) := ⟨by simp, fun k hk => by rw [AS.get_add, if_neg (by omega)]⟩
theorem BW.add {s : AS} {N b : Nat} {l : List UInt8} (h : BW s N b l) (o : Obj) : BW (s.add o) N b l := by
 obtain ⟨h1, h2, p, sl, h3, h4, h5⟩ := h
 refine ⟨h1, by simp; omega, p, sl, by rw [AS.get_add, if_neg (by omega)]; exact h3, h4, ?_⟩
 rcases h5 with h5 | ⟨d, fz, q1, q2, q3, q4, q5⟩
 ·
  exact .inl h5
 ·
  exact .inr ⟨d, fz, q1, q2, by simp; omega, q4, by rw [AS.get_add, if_neg (by omega)]; exact q5⟩
section
variable {pr : Prim} {s : AS}
theorem copy_e {b : Nat} {p sl : Value} (hpr : pr 261 = none) (hs : s.get b = some (.cells #[p, sl] 119)) (hp : p = .pointer none ∨ p = aptr b 0) : ∃ s', EF Tryz.prog ktB pr 261 #[aptr b 0] s (.tuple #[]) s' ∧ s'.nx = s.nx ∧ s'.get b = some (.cells #[aptr b 0, sl] 119) ∧ ∀ k, k ≠ b → s'.get k = s.get k := by
 refine EF.ofE hpr Tryz.func261 rfl ?_
 refine EW.seq (EW.region (by kernel_rfl) ?_)
 refine EO.go 3 5 (by kernel_rfl) ?_
 refine EO.asS s (by kernel_rfl) ?_
 refine EO.op (by kernel_rfl) (op_ld (b := b) (off := 0) (v := p) rfl Tryz.underlying117 rfl (by kernel_rfl) hs rfl) ?_
 rcases hp with rfl | rfl
 ·
  refine EO.fin 5 (by kernel_rfl) ?_
  refine EW.condT (by kernel_rfl) ?_
  refine EW.region (by kernel_rfl) ?_
  refine EO.go 2 5 (by kernel_rfl) ?_
  refine EO.asS s (by kernel_rfl) ?_
  refine EO.op (by kernel_rfl) (op_cnv rfl (by kernel_rfl) (cnv_1 (b := b) (k := 1) (by kernel_rfl) Tryz.underlying117 Tryz.underlying244 hs (by kernel_rfl) (by simp))) ?_
  refine EO.q (by kernel_rfl) (by kernel_rfl) ?_
  refine EO.asS s (by kernel_rfl) ?_
  refine EO.op (by kernel_rfl) (op_cnv rfl (by kernel_rfl) (cnv_2 (b := b) (k := 1) (by kernel_rfl) Tryz.underlying244 Tryz.underlying117 hs (by kernel_rfl) (by kernel_rfl))) ?_
  refine EO.go 2 5 (by kernel_rfl) ?_
  refine EO.asS s (by kernel_rfl) ?_
  refine EO.op (by kernel_rfl) (op_st (b := b) (off := 0) (w := aptr b 0) rfl (by kernel_rfl) (by kernel_rfl) rfl rfl (by kernel_rfl) hs (by simp)) ?_
  refine EO.nil ⟨.inl rfl, by kernel_rfl, ?_⟩
  refine ⟨rfl, ?_, fun k hk => ?_⟩
  ·
   rw [AS.get_set, if_pos rfl]
   rfl
  ·
   rw [AS.get_set, if_neg hk]
 ·
  refine EO.fin 5 (by kernel_rfl) ?_
  refine EW.condF (by kernel_rfl) ?_
  refine EW.seq (EW.region (by kernel_rfl) ?_)
  refine EO.go 3 5 (by kernel_rfl) ?_
  refine EO.asS s (by kernel_rfl) ?_
  refine EO.op (by kernel_rfl) (op_ld (b := b) (off := 0) (v := aptr b 0) rfl Tryz.underlying117 rfl (by kernel_rfl) hs rfl) ?_
  refine EO.go 1 5 (by kernel_rfl) ?_
  refine EO.asS s (by kernel_rfl) ?_
  refine EO.op (by kernel_rfl) (op_neqP (b := b) (k := 1) rfl (by kernel_rfl) (by kernel_rfl) Tryz.underlying117 (by kernel_rfl)) ?_
  refine EO.nil ?_
  refine EW.condF (by kernel_rfl) (EW.skip ?_)
  exact ⟨.inl rfl, by kernel_rfl, rfl, hs, fun k hk => rfl⟩
theorem strCells_app (l m : List UInt8) : strCells ⟨l.toArray⟩ ++ strCells ⟨m.toArray⟩ = strCells ⟨(l ++ m).toArray⟩ := by
 show (l.map fun b => Value.int .u8 b.toNat) ++ (m.map fun b => Value.int .u8 b.toNat) = (l ++ m).map fun b => Value.int .u8 b.toNat
 rw [List.map_append]
theorem write_e {N b : Nat} {l m : List UInt8} (h261 : pr 261 = none) (h156 : pr 156 = none) (h : BW s N b l) (hl : l.length + m.length ≤ 1000000) : ∃ s', EF Tryz.prog ktB pr 156 #[aptr b 0, str m] s (.tuple #[num m.length, .nilIface]) s' ∧ BW s' N b (l ++ m) ∧ FrB N s s' := by
 obtain ⟨hN, hb, p, sl, hs, hp, hsl⟩ := h
 obtain ⟨s1, hc, c1, c2, c3⟩ := copy_e h261 hs hp
 refine EF.ofE h156 Tryz.func156 rfl ?_
 refine EW.seq (EW.go 5 (by kernel_rfl) ?_)
 refine EW.seq (EW.region (by kernel_rfl) ?_)
 refine EO.go 1 5 (by kernel_rfl) ?_
 refine EO.asS s (by kernel_rfl) ?_
 refine EO.callF #[aptr b 0] (by kernel_rfl) rfl rfl (by kernel_rfl) (by kernel_rfl) hc ?_
 refine EO.nil ?_
 refine EW.seq (EW.region (by kernel_rfl) ?_)
 refine EO.go 4 5 (by kernel_rfl) ?_
 refine EO.asS s1 (by kernel_rfl) ?_
 refine EO.op (by kernel_rfl) (op_ld (b := b) (off := 1) (v := sl) rfl Tryz.underlying55 rfl (by kernel_rfl) c2 rfl) ?_
 refine EO.go 1 5 (by kernel_rfl) ?_
 refine EO.asS s1 (by kernel_rfl) ?_
 have key : ∀ (v : Value) (s2 : AS), v.cells = #[v] → v.oneCell' = true → evAppend Tryz.prog 5 sl (strCells ⟨m.toArray⟩) m.length s1 = some (v, s2) → s2.get b = some (.cells #[aptr b 0, sl] 119) → s1.nx ≤ s2.nx → (∀ k, k < N → s2.get k = s1.get k) → ((v = .slice none 0 0 ∧ l ++ m = []) ∨ ∃ d fz, v = .slice (some ⟨d, 0, none⟩) (l ++ m).length (l ++ m).length ∧ N ≤ d ∧ d < s2.nx ∧ d ≠ b ∧ s2.get d = some (.cells (byC (l ++ m)) 5 fz)) → plainRow sl = true → ∃ w s3, evAppend Tryz.prog 5 sl (strCells ⟨m.toArray⟩) m.length s1 = some (w, s3) ∧ w.cells = #[w] ∧ w.oneCell' = true ∧ plainRow sl = true ∧ s3.get b = some (.cells #[aptr b 0, sl] 119) ∧ BW (s3.set b (some (.cells #[aptr b 0, w] 119))) N b (l ++ m) ∧ FrB N s (s3.set b (some (.cells #[aptr b 0, w] 119))) := by
  intro v s2 k1 k2 k3 k4 k5 k6 k7 k8
  refine ⟨v, s2, k3, k1, k2, k8, k4, ⟨hN, by simp; omega, aptr b 0, v, by rw [AS.get_set, if_pos rfl], .inr rfl, ?_⟩, by simp; omega, fun k hk => ?_⟩
  ·
   rcases k7 with k7 | ⟨d, fz, q1, q2, q3, q4, q5⟩
   ·
    exact .inl k7
   ·
    exact .inr ⟨d, fz, q1, q2, by simpa using q3, q4, by rw [AS.get_set, if_neg q4]; exact q5⟩
  ·
   rw [AS.get_set, if_neg (by omega), k6 k hk, c3 k (by omega)]
 have hex : ∃ w s3, evAppend Tryz.prog 5 sl (strCells ⟨m.toArray⟩) m.length s1 = some (w, s3) ∧ w.cells = #[w] ∧ w.oneCell' = true ∧ plainRow sl = true ∧ s3.get b = some (.cells #[aptr b 0, sl] 119) ∧ BW (s3.set b (some (.cells #[aptr b 0, w] 119))) N b (l ++ m) ∧ FrB N s (s3.set b (some (.cells #[aptr b 0, w] 119))) := by
  cases m with
  | nil =>
   rcases hsl with ⟨rfl, rfl⟩ | ⟨d, fz, rfl, q2, q3, q4, q5⟩
   ·
    exact key _ s1 rfl rfl (app_0 (.inl rfl)) c2 (Nat.le_refl _) (fun k hk => rfl) (.inl ⟨rfl, rfl⟩) rfl
   ·
    refine key _ s1 rfl rfl (app_0 (.inr ⟨d, _, _, rfl⟩)) c2 (Nat.le_refl _) (fun k hk => rfl) (.inr ⟨d, fz, by rw [List.append_nil], q2, by omega, q4, by rw [c3 d q4, List.append_nil]; exact q5⟩) rfl
  | cons x m =>
   rcases hsl with ⟨rfl, rfl⟩ | ⟨d, fz, rfl, q2, q3, q4, q5⟩
   ·
    refine key _ _ rfl rfl (app_none (by simp)) (by rw [AS.get_add, if_neg (by omega)]; exact c2) (by simp) (fun k hk => by rw [AS.get_add, if_neg (by omega)]) (.inr ⟨s1.nx, (1, 1), rfl, by omega, by simp, by omega, by rw [AS.get_add, if_pos rfl]; rfl⟩) rfl
   ·
    have hlen : (byC l).size = l.length := by simp [strCells]
    refine key _ _ rfl rfl (app_row (sz := 1) (by simp) (by rw [c3 d q4]; exact q5) (by kernel_rfl) (by rw [hlen]; omega) (by omega)) (by rw [AS.get_add, if_neg (by simp; omega), AS.get_set, if_neg (Ne.symm q4)]; exact c2) (by simp) (fun k hk => by rw [AS.get_add, if_neg (by simp; omega), AS.get_set, if_neg (by omega)]) (.inr ⟨s1.nx, (1, 1), by rw [List.length_append], by omega, by simp, by omega, ?_⟩) rfl
    rw [AS.get_add, if_pos (by simp)]
    have : List.take (l.length * 1) (byC l).toList = strCells ⟨l.toArray⟩ := by
     rw [Nat.mul_one]
     exact List.take_of_length_le (by simp [strCells])
    rw [this, strCells_app]
 obtain ⟨w, s3, e1, e2, e3, e4, e5, e6, e7⟩ := hex
 refine EO.op (by kernel_rfl) (op_appS (sl := sl) (m := m) rfl (by kernel_rfl) (by kernel_rfl) Tryz.underlying55 Tryz.underlying9 (by kernel_rfl) (by kernel_rfl) (by omega) e4 e1) ?_
 refine EO.go 2 5 (by kernel_rfl) ?_
 refine EO.asS s3 (by kernel_rfl) ?_
 refine EO.op (by kernel_rfl) (op_st (b := b) (off := 1) (w := w) rfl (by kernel_rfl) (by kernel_rfl) e2 e3 (by kernel_rfl) e5 (by simp)) ?_
 refine EO.nil ?_
 refine EW.seq (EW.region (by kernel_rfl) ?_)
 refine EO.go 1 5 (by kernel_rfl) ?_
 refine EO.op (by kernel_rfl) (op_lenS (l := m) rfl Tryz.underlying9 (by kernel_rfl)) ?_
 refine EO.fin 5 (by kernel_rfl) ?_
 refine EW.ret ⟨.inr rfl, by kernel_rfl, ?_⟩
 exact ⟨e6, e7⟩
theorem string_e {N b : Nat} {l : List UInt8} (h84 : pr 84 = none) (h : BW s N b l) (h0 : l ≠ []) (hl : l.length ≤ 1000000) : ∃ s', EF Tryz.prog ktB pr 84 #[aptr b 0] s (str l) s' ∧ FrB N s s' := by
 obtain ⟨hN, hb, p, sl, hs, hp, hsl⟩ := h
 rcases hsl with ⟨_, hsl⟩ | ⟨d, fz, rfl, q2, q3, q4, q5⟩
 ·
  exact absurd hsl h0
 obtain ⟨c, l, rfl⟩ : ∃ c l', l = c :: l' := by
  cases l with
  | nil => exact absurd rfl h0
  | cons c l => exact ⟨c, l, rfl⟩
 refine EF.ofE h84 Tryz.func84 rfl ?_
 refine EW.seq (EW.go 5 (by kernel_rfl) ?_)
 refine EW.seq (EW.draw (by kernel_rfl) (by kernel_rfl) (by kernel_rfl) ?_)
 iterate 2
  refine ET.q (by kernel_rfl) (by kernel_rfl) ?_
  refine ET.q (by kernel_rfl) (by kernel_rfl) ?_
  refine ET.q (by kernel_rfl) (by kernel_rfl) ?_
  refine ET.asS s (by kernel_rfl) ?_
  refine ET.op (by kernel_rfl) (op_ld (b := b) (off := 1) (v := .slice (some ⟨d, 0, none⟩) (c :: l).length (c :: l).length) rfl Tryz.underlying55 rfl (by kernel_rfl) hs rfl) ?_
  refine ET.q (by kernel_rfl) (by kernel_rfl) ?_
 refine ET.asS s (by kernel_rfl) ?_
 refine ET.op (by kernel_rfl) (op_uns (d := d) (l := c :: l) (e := 5) (fz := fz) rfl (by kernel_rfl) (by kernel_rfl) (by kernel_rfl) q5 (by kernel_rfl) (by simp) (by omega)) ?_
 refine ET.q (by kernel_rfl) (by kernel_rfl) ?_
 have hld : evLoad Tryz.prog 55 (aptr b 1) s = some (.slice (some ⟨d, 0, none⟩) (c :: l).length (c :: l).length) := by
  unfold evLoad
  simp only [aptr, hs, Tryz.underlying55]
  rfl
 refine ET.nil ⟨okLoads_of [(evLoad Tryz.prog 55 (aptr b 1) s, .slice (some ⟨d, 0, none⟩) (c :: l).length (c :: l).length), (evLoad Tryz.prog 55 (aptr b 1) s, .slice (some ⟨d, 0, none⟩) (c :: l).length (c :: l).length)] (by kernel_rfl) (by simp [veqable, hld]), _, _, _, _, _, _, rfl, rfl, ?_⟩
 refine EW.ret ⟨.inr rfl, by kernel_rfl, ?_⟩
 refine ⟨Nat.le_refl _, fun k hk => ?_⟩
 show (s.set d none).get k = _
 rw [AS.get_set, if_neg (by omega)]
end
end Go.Proofs.YtgcaionclkbehaaGreatDoor
namespace Go.Proofs.YtgcaionclkbehaaGreatDoor
open Go.Conc Go.RowKit Go.Lib
def wrP (b : Bool) (x y z : List UInt8) : List UInt8 := if b = true then x ++ y ++ z else []
section
variable {pr : Prim} {s : AS} {n : Nat}
theorem part_e {N bb : Nat} {l t ah be : List UInt8} {b : Bool} (h261 : pr 261 = none) (h156 : pr 156 = none) (h177 : pr 177 = none) (h : BW s N bb l) (hl : l.length + (wrP b ah t be).length ≤ 1000000) : ∃ s', EF Tryz.prog ktB pr 177 #[.agg #[str t, .bool b], str ah, str be, aptr bb 0] s (.tuple #[]) s' ∧ BW s' N bb (l ++ wrP b ah t be) ∧ FrB N s s' := by
 have hN : N ≤ s.nx := by have := h.1; have := h.2.1; omega
 have hg : (s.add (.cells #[str t, .bool b] 137)).get s.nx = some (.cells #[str t, .bool b] 137) := by rw [AS.get_add, if_pos rfl]
 refine EF.ofE h177 Tryz.func177 rfl ?_
 refine EW.seq (EW.go 5 (by kernel_rfl) ?_)
 refine EW.seq (EW.region (by kernel_rfl) ?_)
 refine EO.go 1 5 (by kernel_rfl) ?_
 refine EO.asS (s.add (.cells #[str t, .bool b] 137)) (by kernel_rfl) ?_
 refine EO.op (by kernel_rfl) (op_ld (b := s.nx) (off := 1) (v := .bool b) rfl Tryz.underlying4 rfl (by kernel_rfl) hg rfl) ?_
 refine EO.nil ?_
 cases b with
 | false =>
  refine EW.condF (by kernel_rfl) (EW.skip ?_)
  refine ⟨.inl rfl, by kernel_rfl, ?_⟩
  unfold wrP
  simp only [if_false, Bool.false_eq_true, List.append_nil]
  exact ⟨h.add _, FrB.add hN⟩
 | true =>
  have hw : wrP true ah t be = ah ++ t ++ be := by simp [wrP]
  rw [hw] at hl
  have hlen : (ah ++ t ++ be).length = ah.length + t.length + be.length := by simp only [List.length_append]
  obtain ⟨s', hw1, hw2, hw3⟩ := write_e (pr := pr) (m := ah ++ t ++ be) h261 h156 (h.add (.cells #[str t, .bool true] 137)) hl
  refine EW.condT (by kernel_rfl) ?_
  refine EW.region (by kernel_rfl) ?_
  refine EO.go 2 5 (by kernel_rfl) ?_
  refine EO.asS (s.add (.cells #[str t, .bool true] 137)) (by kernel_rfl) ?_
  refine EO.op (by kernel_rfl) (op_ld (b := s.nx) (off := 0) (v := str t) rfl Tryz.underlying9 rfl (by kernel_rfl) hg rfl) ?_
  refine EO.op (by kernel_rfl) (op_addS (l := ah) (m := t) rfl (by kernel_rfl) (by kernel_rfl) (by omega)) ?_
  refine EO.go 1 5 (by kernel_rfl) ?_
  refine EO.op (by kernel_rfl) (op_addS (l := ah ++ t) (m := be) rfl (by kernel_rfl) (by kernel_rfl) (by simp; omega)) ?_
  refine EO.asS (s.add (.cells #[str t, .bool true] 137)) (by kernel_rfl) ?_
  refine EO.callF #[aptr bb 0, str (ah ++ t ++ be)] (by kernel_rfl) rfl rfl (by kernel_rfl) (by kernel_rfl) hw1 ?_
  refine EO.nil ⟨.inl rfl, by kernel_rfl, ?_⟩
  rw [hw]
  exact ⟨hw2, (FrB.add hN).trans hw3⟩
theorem text_e {sa ha p q m : List UInt8} {sb hb qt mt : Bool} (hl : (wrP sb [] sa [58] ++ wrP hb [47, 47] ha [] ++ p ++ wrP qt [63] q [] ++ wrP mt [35] m []).length ≤ 1000000) (h0 : wrP sb [] sa [58] ++ wrP hb [47, 47] ha [] ++ p ++ wrP qt [63] q [] ++ wrP mt [35] m [] ≠ []) :
  ∃ s1, EF Tryz.prog ktB (prAw Tryz.prog n) 88 #[adr sa sb ha hb p q qt m mt] z0 (str (wrP sb [] sa [58] ++ wrP hb [47, 47] ha [] ++ p ++ wrP qt [63] q [] ++ wrP mt [35] m [])) s1 := by
 suffices h : ∃ s1, EF Tryz.prog ktB (prAw Tryz.prog n) 88 #[adr sa sb ha hb p q qt m mt] z0 (str (wrP sb [] sa [58] ++ wrP hb [47, 47] ha [] ++ p ++ wrP qt [63] q [] ++ wrP mt [35] m [])) s1 ∧ True from h.imp fun _ h => h.1
 have hl' := hl
 simp only [List.length_append] at hl'
 generalize hA : wrP sb [] sa [58] = A at hl hl' h0 ⊢
 generalize hB : wrP hb [47, 47] ha [] = B at hl hl' h0 ⊢
 generalize hC : wrP qt [63] q [] = C at hl hl' h0 ⊢
 generalize hD : wrP mt [35] m [] = D at hl hl' h0 ⊢
 let sX : AS := (z0.add (.cells #[str sa, .bool sb, str ha, .bool hb, str p, str q, .bool qt, str m, .bool mt] 139)).add (.cells #[.pointer none, .slice none 0 0] 119)
 have hX : sX.get 32 = some (.cells #[str sa, .bool sb, str ha, .bool hb, str p, str q, .bool qt, str m, .bool mt] 139) := by kernel_rfl
 have hb0 : BW sX 33 33 [] := ⟨Nat.le_refl _, by show 33 < 34; omega, .pointer none, .slice none 0 0, by kernel_rfl, .inl rfl, .inl ⟨rfl, rfl⟩⟩
 obtain ⟨s1, e1, b1, f1⟩ := part_e (pr := prAw Tryz.prog n) (t := sa) (ah := []) (be := [58]) (b := sb) (by kernel_rfl) (by kernel_rfl) (by kernel_rfl) hb0 (by rw [hA]; simp only [List.length_nil]; omega)
 rw [hA, List.nil_append] at b1
 obtain ⟨s2, e2, b2, f2⟩ := part_e (pr := prAw Tryz.prog n) (t := ha) (ah := [47, 47]) (be := []) (b := hb) (by kernel_rfl) (by kernel_rfl) (by kernel_rfl) b1 (by rw [hB]; omega)
 rw [hB] at b2
 obtain ⟨s3, e3, b3, f3⟩ := write_e (pr := prAw Tryz.prog n) (m := p) (by kernel_rfl) (by kernel_rfl) b2 (by simp only [List.length_append]; omega)
 obtain ⟨s4, e4, b4, f4⟩ := part_e (pr := prAw Tryz.prog n) (t := q) (ah := [63]) (be := []) (b := qt) (by kernel_rfl) (by kernel_rfl) (by kernel_rfl) b3 (by rw [hC]; simp only [List.length_append]; omega)
 rw [hC] at b4
 obtain ⟨s5, e5, b5, f5⟩ := part_e (pr := prAw Tryz.prog n) (t := m) (ah := [35]) (be := []) (b := mt) (by kernel_rfl) (by kernel_rfl) (by kernel_rfl) b4 (by rw [hD]; simp only [List.length_append]; omega)
 rw [hD] at b5
 obtain ⟨s6, e6, f6⟩ := string_e (pr := prAw Tryz.prog n) (by kernel_rfl) b5 h0 hl
 have g1 := (f1.2 32 (by omega)).trans hX
 have g2 := (f2.2 32 (by omega)).trans g1
 have g3 := (f3.2 32 (by omega)).trans g2
 have g4 := (f4.2 32 (by omega)).trans g3
 refine EF.ofE (by kernel_rfl) Tryz.func88 rfl ?_
 iterate 3
  refine EW.seq (EW.go 5 (by kernel_rfl) ?_)
 refine EW.asS sX (by kernel_rfl) ?_
 refine EW.seq (EW.region (by kernel_rfl) ?_)
 refine EO.go 2 5 (by kernel_rfl) ?_
 refine EO.asS sX (by kernel_rfl) ?_
 refine EO.op (by kernel_rfl) (op_ldA (b := 32) (off := 0) (n := 2) (r := #[str sa, .bool sb]) rfl Tryz.underlying137 rfl (by kernel_rfl) (by kernel_rfl) hX (by simp) rfl) ?_
 refine EO.call (g := 177) (first := #[]) (cap := #[aptr 33 0]) (args := #[.agg #[str sa, .bool sb], str [], str [58], aptr 33 0]) (by kernel_rfl) rfl rfl (by kernel_rfl) (by kernel_rfl) (by kernel_rfl) e1 ?_
 refine EO.nil ?_
 refine EW.seq (EW.region (by kernel_rfl) ?_)
 refine EO.go 2 5 (by kernel_rfl) ?_
 refine EO.asS s1 (by kernel_rfl) ?_
 refine EO.op (by kernel_rfl) (op_ldA (b := 32) (off := 2) (n := 2) (r := #[str ha, .bool hb]) rfl Tryz.underlying137 rfl (by kernel_rfl) (by kernel_rfl) g1 (by simp) rfl) ?_
 refine EO.call (g := 177) (first := #[]) (cap := #[aptr 33 0]) (args := #[.agg #[str ha, .bool hb], str [47, 47], str [], aptr 33 0]) (by kernel_rfl) rfl rfl (by kernel_rfl) (by kernel_rfl) (by kernel_rfl) e2 ?_
 refine EO.nil ?_
 refine EW.seq (EW.region (by kernel_rfl) ?_)
 refine EO.go 1 5 (by kernel_rfl) ?_
 refine EO.asS s2 (by kernel_rfl) ?_
 refine EO.op (by kernel_rfl) (op_ld (b := 32) (off := 4) (v := str p) rfl Tryz.underlying9 rfl (by kernel_rfl) g2 rfl) ?_
 refine EO.callF #[aptr 33 0, str p] (by kernel_rfl) rfl rfl (by kernel_rfl) (by kernel_rfl) e3 ?_
 refine EO.nil ?_
 refine EW.seq (EW.region (by kernel_rfl) ?_)
 refine EO.go 2 5 (by kernel_rfl) ?_
 refine EO.asS s3 (by kernel_rfl) ?_
 refine EO.op (by kernel_rfl) (op_ldA (b := 32) (off := 5) (n := 2) (r := #[str q, .bool qt]) rfl Tryz.underlying137 rfl (by kernel_rfl) (by kernel_rfl) g3 (by simp) rfl) ?_
 refine EO.call (g := 177) (first := #[]) (cap := #[aptr 33 0]) (args := #[.agg #[str q, .bool qt], str [63], str [], aptr 33 0]) (by kernel_rfl) rfl rfl (by kernel_rfl) (by kernel_rfl) (by kernel_rfl) e4 ?_
 refine EO.nil ?_
 refine EW.seq (EW.region (by kernel_rfl) ?_)
 refine EO.go 2 5 (by kernel_rfl) ?_
 refine EO.asS s4 (by kernel_rfl) ?_
 refine EO.op (by kernel_rfl) (op_ldA (b := 32) (off := 7) (n := 2) (r := #[str m, .bool mt]) rfl Tryz.underlying137 rfl (by kernel_rfl) (by kernel_rfl) g4 (by simp) rfl) ?_
 refine EO.call (g := 177) (first := #[]) (cap := #[aptr 33 0]) (args := #[.agg #[str m, .bool mt], str [35], str [], aptr 33 0]) (by kernel_rfl) rfl rfl (by kernel_rfl) (by kernel_rfl) (by kernel_rfl) e5 ?_
 refine EO.nil ?_
 refine EW.seq (EW.region (by kernel_rfl) ?_)
 refine EO.callF #[aptr 33 0] (by kernel_rfl) rfl rfl (by kernel_rfl) (by kernel_rfl) e6 ?_
 refine EO.fin 5 (by kernel_rfl) ?_
 exact EW.ret ⟨.inr rfl, by kernel_rfl, trivial⟩
end
end Go.Proofs.YtgcaionclkbehaaGreatDoor
namespace Go.Proofs.YtgcaionclkbehaaGreatDoor
open Go.Conc Go.RowKit Go.Lib
section
variable {P : Program} {kt : TypeId → Bool} {c : CallF} {a : TL} {s s' : AS} {o : Oper} {v : Value}
theorem op_mkS {t e : TypeId} {x y : Operand} {z : Value} {bytes : Nat} {k : Nat} (hop : o.op = .makeSlice t x y) (ht : P.underlying t = some (.slice e)) (hi : (P.info? e).map (fun i => (i.zero, i.size, i.bytes)) = some (some z, 1, bytes)) (hx : a.at x = num k) (hy : a.at y = num k) (h0 : 0 < k) (h1 : k ≤ 1000000) (hz : zeroT P e = true) (hkt : kt e = false) (hb : bytes ≤ 1000) : evOp P kt c a o s = some (.slice (some ⟨s.nx, 0, none⟩) k k, s.add (.cells (madeCells z.cells k) e)) := by
 have e : evNew P kt a o = some (.cells (madeCells z.cells k) e, fun b => .slice (some ⟨b, 0, none⟩) k k) := by
  unfold evNew
  rw [hop]
  simp only
  rw [ht, hx, hy]
  simp only
  rw [hi]
  simp only
  rw [if_pos ⟨trivial, by omega, by omega, hz, hkt, hb⟩]
  simp
 unfold evOp
 rw [if_pos (by rw [hop]; rfl), e]
theorem op_slR {t e : TypeId} {x : Operand} {lo hi : Option Operand} {b off n cp i j sz : Nat} {cs : Array Value} {fz : Nat × Nat} (hop : o.op = .slice t x lo hi none) (ht : P.underlying t = some (.slice e)) (hx : a.at x = .slice (some ⟨b, off, none⟩) n cp) (hs : s.get b = some (.cells cs e fz)) (hz : sizeT P e = some sz) (hb : evBounds n cp (lo.map a.at) (hi.map a.at) = some (i, j)) (hi' : i < cp) : evOp P kt c a o s = some (.slice (some ⟨b, off + i * sz, none⟩) (j - i) (cp - i), s) := by
 have e : evSlice P t (a.at x) (lo.map a.at) (hi.map a.at) ((none : Option Operand).map a.at) s = some (.slice (some ⟨b, off + i * sz, none⟩) (j - i) (cp - i)) := by
  unfold evSlice
  rw [ht, hx]
  simp only [Option.map_none]
  rw [hz, hs]
  simp only
  rw [if_pos trivial, hb]
  simp only
  rw [if_pos hi']
 unfold evOp
 rw [if_neg (by rw [hop]; simp [isNew]), hop]
 simp only
 rw [e]
end
theorem op_idxO {P : Program} {kt : TypeId → Bool} {c : CallF} {a : TL} {s : AS} {o : Oper} {t e : TypeId} {x i : Operand} {b off n cp k : Nat} {sp : Option Nat} {kd : IntKind} {j : Int} {sz : Nat} (hop : o.op = .indexAddr t x i) (ht : P.underlying t = some (.slice e)) (hsz : sizeT P e = some sz) (hx : a.at x = .slice (some ⟨b, off, sp⟩) n cp) (hi : a.at i = .int kd j) (h0 : 0 ≤ j) (h1 : j < n) (hk : off + j.toNat * sz = k) : evOp P kt c a o s = some (aptr b k, s) := by
 rw [op_idxA hop ht hsz hx hi h0 h1, hk]
theorem made_one (v : Value) (k : Nat) : madeCells #[v] k = (List.replicate k v).toArray := by
 unfold madeCells
 apply Array.ext
 ·
  simp
 ·
  intro i h1 h2
  simp [Nat.mod_one]
def joinL : List (List UInt8) → List UInt8
 | [] => []
 | [p] => p
 | p :: q :: r => p ++ 47 :: joinL (q :: r)
theorem joinL_cons {p : List UInt8} {r : List (List UInt8)} (h : r ≠ []) : joinL (p :: r) = p ++ 47 :: joinL r := by
 cases r with
 | nil => exact absurd rfl h
 | cons q r => rfl
theorem joinL_cnt : ∀ (r : List (List UInt8)) (p : List UInt8), (∀ x ∈ p :: r, 47 ∉ x) → List.count 47 (joinL (p :: r)) = r.length
 | [], p, h => by
  show List.count 47 p = 0
  exact List.count_eq_zero.2 (h p (by simp))
 | q :: r, p, h => by
  rw [joinL_cons (by simp), List.count_append, List.count_cons, joinL_cnt r q fun x hx => h x (by simp [hx]), List.count_eq_zero.2 (h p (by simp))]
  simp
theorem joinL_len : ∀ (r : List (List UInt8)) (p : List UInt8), r.length ≤ (joinL (p :: r)).length
 | [], p => by simp
 | q :: r, p => by
  rw [joinL_cons (by simp), List.length_append, List.length_cons]
  have := joinL_len r q
  simp
  omega
theorem putAt_mid {X Z : List Value} {y w : Value} : putAt (X ++ y :: Z).toArray X.length [w] = (X ++ w :: Z).toArray := by
 unfold putAt
 simp
section
variable {n : Nat} {s : AS}
def sl271 (t0 : List UInt8) (N i : Nat) (x : Nat → Value) : TL := [str t0, str [47], num 0, num ((N : Nat) : Int), x 4, x 5, x 6, x 7, .slice none 0 0, .slice (some ⟨32, 0, none⟩) (N + 1) (N + 1), num ((i : Nat) : Int), x 11, x 12, x 13, x 14, x 15, x 16, x 17, x 18, x 19, x 20, x 21, x 22, x 23, x 24, x 25, x 26, x 27, x 28, x 29, x 30, x 31, x 32, x 33, x 34, x 35, x 36, x 37, x 38, x 39, x 40, x 41, x 42, x 43, x 44, x 45, x 46, x 47, x 48, x 49, x 50, x 51, x 52, x 53, x 54, x 55, x 56, x 57, x 58, x 59, x 60, x 61, x 62, x 63, x 64, x 65]
theorem count_e {p0 : List UInt8} {r0 : List (List UInt8)} (hp : ∀ x ∈ p0 :: r0, 47 ∉ x) : EF Tryz.prog ktB (prAw Tryz.prog n) 343 #[str (joinL (p0 :: r0)), str [47]] s (num r0.length) s := by
 have hcnt : cntF 47 (joinL (p0 :: r0)) 0 = r0.length := by
  have := cntF_eq 47 (joinL (p0 :: r0)) 0
  rw [show (47 : UInt8).toNat = 47 from rfl] at this
  rw [this]
  unfold countByte
  rw [joinL_cnt r0 p0 hp]
  rfl
 exact EF.eval 5 ((show evCall Tryz.prog ktB (prAw Tryz.prog n) 5 343 #[str (joinL (p0 :: r0)), str [47]] s = some (num (cntF 47 (joinL (p0 :: r0)) 0), s) by kernel_rfl).trans (by rw [hcnt]))
theorem split0_e {parts : List (List UInt8)} (hp0 : parts ≠ []) (hp : ∀ x ∈ parts, 47 ∉ x) (hl : (joinL parts).length ≤ 100000) : ∃ s', EF Tryz.prog ktB (prAw Tryz.prog n) 271 #[str (joinL parts), str [47], num 0, num (-1)] z0 (.slice (some ⟨32, 0, none⟩) parts.length parts.length) s' ∧ s'.nx = 33 ∧ s'.get 32 = some (.cells (parts.map str).toArray 9) := by
 obtain ⟨p0, r0, rfl⟩ : ∃ p r, parts = p :: r := by
  cases parts with
  | nil => exact absurd rfl hp0
  | cons p r => exact ⟨p, r, rfl⟩
 have hle := joinL_len r0 p0
 refine EF.ofE (by kernel_rfl) Tryz.func271 rfl ?_
 iterate 3
  refine EW.seq (EW.go 50 (by kernel_rfl) ?_)
 refine EW.seq (EW.seq (EW.go 50 (by kernel_rfl) ?_))
 refine EW.condT (by kernel_rfl) ?_
 refine EW.region (by kernel_rfl) ?_
 refine EO.go 2 50 (by kernel_rfl) ?_
 refine EO.callF #[str (joinL (p0 :: r0)), str [47]] (by kernel_rfl) rfl rfl (by kernel_rfl) (by kernel_rfl) (count_e hp) ?_
 refine EO.op (by kernel_rfl) (op_addI (i := r0.length) (j := 1) (r := ((r0.length + 1 : Nat) : Int)) rfl (by kernel_rfl) (by kernel_rfl) (by omega) (by omega)) ?_
 refine EO.fin 50 (by kernel_rfl) ?_
 refine EW.seq (EW.region (by kernel_rfl) ?_)
 refine EO.go 2 50 (by kernel_rfl) ?_
 refine EO.op (by kernel_rfl) (op_lenS (l := joinL (p0 :: r0)) rfl Tryz.underlying9 (by kernel_rfl)) ?_
 refine EO.op (by kernel_rfl) (op_addI (i := (joinL (p0 :: r0)).length) (j := 1) (r := (((joinL (p0 :: r0)).length + 1 : Nat) : Int)) rfl (by kernel_rfl) (by kernel_rfl) (by omega) (by omega)) ?_
 refine EO.op (v := num ((r0.length + 1 : Nat) : Int)) (s1 := z0) (by kernel_rfl) ((show _ = some (num (if (((joinL (p0 :: r0)).length + 1 : Nat) : Int) < ((r0.length + 1 : Nat) : Int) then (((joinL (p0 :: r0)).length + 1 : Nat) : Int) else ((r0.length + 1 : Nat) : Int)), z0) by kernel_rfl).trans (by rw [if_neg (by omega)])) ?_
 refine EO.fin 50 (by kernel_rfl) ?_
 refine EW.seq (EW.region (by kernel_rfl) ?_)
 refine EO.go 1 50 (by kernel_rfl) ?_
 refine EO.op (by kernel_rfl) (op_mkS (k := r0.length + 1) (z := .string ⟨#[]⟩) (bytes := 16) rfl Tryz.underlying62 (by kernel_rfl) (by kernel_rfl) (by kernel_rfl) (by omega) (by omega) (by kernel_rfl) (by kernel_rfl) (by omega)) ?_
 refine EO.fin 50 (by kernel_rfl) ?_
 refine EW.seq (EW.region (by kernel_rfl) ?_)
 refine EO.go 1 50 (by kernel_rfl) ?_
 refine EO.op (by kernel_rfl) (op_subI (i := ((r0.length + 1 : Nat) : Int)) (j := 1) (r := ((r0.length : Nat) : Int)) rfl (by kernel_rfl) (by kernel_rfl) (by omega) (by omega)) ?_
 refine EO.fin 50 (by kernel_rfl) ?_
 refine EW.seq (EW.go 50 (by kernel_rfl) ?_)
 refine EW.asS (z0.add (.cells (madeCells #[str []] (r0.length + 1)) 9)) (by kernel_rfl) ?_
 rw [made_one]
 refine EW.fill (sl271 (joinL (p0 :: r0)) r0.length 0) (by kernel_rfl) ?_
 intro x0
 refine EW.seq (EW.block ?_)
 refine EW.mono (EW.loopI (Q := fun e a' s' => e = .exit 0 ∧ ∃ (done : List (List UInt8)) (p : List UInt8), p0 :: r0 = done ++ [p] ∧ s'.nx = 33 ∧ s'.get 32 = some (.cells (done.map str ++ [str []]).toArray 9) ∧ ∃ x, a' = sl271 p r0.length done.length x) (fun m a' s' => ∃ (done : List (List UInt8)) (p : List UInt8) (r : List (List UInt8)), m = r.length ∧ p0 :: r0 = done ++ p :: r ∧ s'.nx = 33 ∧ s'.get 32 = some (.cells (done.map str ++ List.replicate (r.length + 1) (str [])).toArray 9) ∧ ∃ x, a' = sl271 (joinL (p :: r)) r0.length done.length x) ?_ r0.length _ _ ⟨[], p0, r0, rfl, rfl, rfl, by rw [AS.get_add]; rfl, x0, rfl⟩) ?_
 ·
  rintro m a' s' ⟨done, p, r, rfl, hpr, hnx, hg, x, rfl⟩
  have hlen : r0.length = done.length + r.length := by have := congrArg List.length hpr; simp at this; omega
  cases r with
  | nil =>
   refine EW.seq (EW.seq (EW.region (by kernel_rfl) ?_))
   refine EO.go 2 50 (by kernel_rfl) ?_
   refine EO.op (by kernel_rfl) (op_bin (u := num ((done.length : Nat) : Int)) (w := num ((r0.length : Nat) : Int)) rfl (by kernel_rfl) (by kernel_rfl) (bin_lss (b := false) (decide_eq_false (by simp at hlen; omega)))) ?_
   refine EO.nil ?_
   refine EW.condF (by kernel_rfl) (EW.exit ?_)
   exact ⟨rfl, done, p, hpr, hnx, hg, fillX (by kernel_rfl)⟩
  | cons q r =>
   have hq : 47 ∉ p := hp p (by rw [hpr]; simp)
   have hpl : p.length + ((joinL (q :: r)).length + 1) ≤ 100000 := by
    have : ∀ (d : List (List UInt8)), (joinL (p :: q :: r)).length ≤ (joinL (d ++ p :: q :: r)).length := by
     intro d
     induction d with
     | nil => simp
     | cons y d ih =>
      rw [List.cons_append, show joinL (y :: (d ++ p :: q :: r)) = y ++ 47 :: joinL (d ++ p :: q :: r) from joinL_cons (by simp)]
      simp only [List.length_append, List.length_cons]
      omega
    have h2 := this done
    rw [← hpr, joinL_cons (by simp)] at h2
    simp only [List.length_append, List.length_cons] at h2
    omega
   simp only [List.length_cons] at hlen
   refine EW.seq (EW.seq (EW.region (by kernel_rfl) ?_))
   refine EO.go 2 50 (by kernel_rfl) ?_
   refine EO.op (by kernel_rfl) (op_bin (u := num ((done.length : Nat) : Int)) (w := num ((r0.length : Nat) : Int)) rfl (by kernel_rfl) (by kernel_rfl) (bin_lss (b := true) (decide_eq_true (by omega)))) ?_
   refine EO.nil ?_
   refine EW.condT (by kernel_rfl) (EW.skip ?_)
   refine EW.block ?_
   refine EW.seq (EW.region (by kernel_rfl) ?_)
   refine EO.go 2 50 (by kernel_rfl) ?_
   refine EO.callF #[str (p ++ 47 :: joinL (q :: r)), str [47]] (by kernel_rfl) rfl rfl (by kernel_rfl) (by kernel_rfl) (indexS_yes hq) ?_
   refine EO.fin 50 (by kernel_rfl) ?_
   refine EW.seq (EW.go 50 (by kernel_rfl) ?_)
   refine EW.asS s' (by kernel_rfl) ?_
   refine EW.seq (EW.region (by kernel_rfl) ?_)
   refine EO.go 5 50 (by kernel_rfl) ?_
   refine EO.op (by kernel_rfl) (op_addI (i := p.length) (j := 0) (r := p.length) rfl (by kernel_rfl) (by kernel_rfl) (by omega) (by omega)) ?_
   refine EO.op (by kernel_rfl) (op_sub (l := p ++ 47 :: joinL (q :: r)) (i := 0) (j := p.length) rfl Tryz.underlying9 (by kernel_rfl) ((show _ = evBounds (p ++ 47 :: joinL (q :: r)).length (p ++ 47 :: joinL (q :: r)).length none (some (num p.length)) by kernel_rfl).trans (bnd_hi (by omega) (by simp only [List.length_append]; omega))) (take_cut _ _ _)) ?_
   refine EO.op (by kernel_rfl) (op_idxO (b := 32) (off := 0) (n := r0.length + 1) (cp := r0.length + 1) (sp := none) (kd := .i64) (j := ((done.length : Nat) : Int)) (sz := 1) (k := done.length) rfl Tryz.underlying62 (by kernel_rfl) (by kernel_rfl) (by kernel_rfl) (by omega) (by omega) (by simp)) ?_
   refine EO.asS s' (by kernel_rfl) ?_
   refine EO.op (by kernel_rfl) (op_st (b := 32) (off := done.length) (w := str p) rfl (by kernel_rfl) (by kernel_rfl) rfl rfl (by kernel_rfl) hg (by simp)) ?_
   refine EO.nil ?_
   refine EW.seq (EW.region (by kernel_rfl) ?_)
   refine EO.go 4 50 (by kernel_rfl) ?_
   refine EO.op (by kernel_rfl) (op_addI (i := p.length) (j := 1) (r := p.length + 1) rfl (by kernel_rfl) (by kernel_rfl) rfl (by omega)) ?_
   refine EO.op (by kernel_rfl) (op_sub (l := p ++ 47 :: joinL (q :: r)) (i := p.length + 1) (j := (p ++ 47 :: joinL (q :: r)).length) rfl Tryz.underlying9 (by kernel_rfl) ((show _ = evBounds (p ++ 47 :: joinL (q :: r)).length (p ++ 47 :: joinL (q :: r)).length (some (num (p.length + 1))) none by kernel_rfl).trans (bnd_lo (by omega) (by simp only [List.length_append, List.length_cons]; omega))) (drop_cut _ _ _)) ?_
   refine EO.fin 50 (by kernel_rfl) ?_
   refine EW.region (by kernel_rfl) ?_
   refine EO.go 1 50 (by kernel_rfl) ?_
   refine EO.op (by kernel_rfl) (op_addI (i := done.length) (j := 1) (r := ((done.length + 1 : Nat) : Int)) rfl (by kernel_rfl) (by kernel_rfl) (by omega) (by omega)) ?_
   refine EO.asS (s'.set 32 (some (.cells (putAt (done.map str ++ List.replicate (r.length + 1 + 1) (str [])).toArray done.length [str p]) 9))) (by kernel_rfl) ?_
   refine EO.fin 50 (by kernel_rfl) ?_
   refine ⟨r.length, by simp, done ++ [p], q, r, rfl, by rw [hpr]; simp, hnx, ?_, ?_⟩
   ·
    show AS.get (s'.set 32 _) 32 = _
    rw [AS.get_set, if_pos rfl]
    have := putAt_mid (X := done.map str) (Z := List.replicate (r.length + 1) (str [])) (y := str []) (w := str p)
    rw [List.length_map] at this
    rw [List.replicate_succ, this]
    simp
   ·
    rw [show (done ++ [p]).length = done.length + 1 by simp]
    exact fillX (by kernel_rfl)
 ·
  rintro e a' s' ⟨rfl, done, p, hpr, hnx, hg, x, rfl⟩
  have hlen : r0.length = done.length := by have := congrArg List.length hpr; simp at this; omega
  refine EW.seq (EW.region (by kernel_rfl) ?_)
  refine EO.go 3 50 (by kernel_rfl) ?_
  refine EO.op (by kernel_rfl) (op_idxO (b := 32) (off := 0) (n := r0.length + 1) (cp := r0.length + 1) (sp := none) (kd := .i64) (j := ((done.length : Nat) : Int)) (sz := 1) (k := done.length) rfl Tryz.underlying62 (by kernel_rfl) (by kernel_rfl) (by kernel_rfl) (by omega) (by omega) (by simp)) ?_
  refine EO.asS s' (by kernel_rfl) ?_
  refine EO.op (by kernel_rfl) (op_st (b := 32) (off := done.length) (w := str p) rfl (by kernel_rfl) (by kernel_rfl) rfl rfl (by kernel_rfl) hg (by simp)) ?_
  refine EO.nil ?_
  have hg' : (s'.set 32 (some (.cells (putAt (done.map str ++ [str []]).toArray done.length [str p]) 9))).get 32 = some (.cells ((p0 :: r0).map str).toArray 9) := by
   rw [AS.get_set, if_pos rfl]
   have := putAt_mid (X := done.map str) (Z := []) (y := str []) (w := str p)
   rw [List.length_map] at this
   rw [this, hpr]
   simp
  refine EW.seq (EW.region (by kernel_rfl) ?_)
  refine EO.go 2 50 (by kernel_rfl) ?_
  refine EO.op (by kernel_rfl) (op_addI (i := done.length) (j := 1) (r := ((r0.length + 1 : Nat) : Int)) rfl (by kernel_rfl) (by kernel_rfl) (by omega) (by omega)) ?_
  refine EO.asS (s'.set 32 (some (.cells (putAt (done.map str ++ [str []]).toArray done.length [str p]) 9))) (by kernel_rfl) ?_
  refine EO.op (by kernel_rfl) (op_slR (b := 32) (off := 0) (n := r0.length + 1) (cp := r0.length + 1) (i := 0) (j := r0.length + 1) (sz := 1) rfl Tryz.underlying62 (by kernel_rfl) hg' (by kernel_rfl) ((show _ = evBounds (r0.length + 1) (r0.length + 1) none (some (num ((r0.length + 1 : Nat) : Int))) by kernel_rfl).trans ((bnd_hi (by omega) (by omega)).trans (by rw [Int.toNat_natCast]))) (by omega)) ?_
  refine EO.fin 50 (by kernel_rfl) ?_
  exact EW.ret ⟨.inr rfl, by kernel_rfl, hnx, hg'⟩
end
end Go.Proofs.YtgcaionclkbehaaGreatDoor
