/-
 strings.Join with a slash, by the evaluator's rules.
-/
import Derived.Test.YtgcaionclkbehaaGreatDoorA8
set_option linter.all false
namespace Go.Proofs.YtgcaionclkbehaaGreatDoor
open Go.Conc Go.RowKit Go.Lib
theorem wrapF_ok {r : Int} (h : -9223372036854775808 ≤ r ∧ r ≤ 9223372036854775807) : wrapF .i64 r = r := by
 unfold wrapF
 simp only
 split
 ·
  rfl
 ·
  rw [IntKind.wrap_i64]; omega
theorem op_subB {P : Program} {kt : TypeId → Bool} {c : CallF} {a : TL} {s : AS} {o : Oper} {t : TypeId} {x y : Operand} {z} {i j r : Int} (hop : o.op = .binOp .sub t x y z) (hx : a.at x = num i) (hy : a.at y = num j) (hr : i - j = r) (hs : -9223372036854775808 ≤ r ∧ r ≤ 9223372036854775807) : evOp P kt c a o s = some (num r, s) := by
 refine evOp_quiet (by rw [hop]; rfl) (by rw [hop]; trivial) ?_
 unfold evQuiet
 rw [hop]
 simp only
 rw [hx, hy]
 unfold evBin
 simp only [if_pos]
 rw [hr, wrapF_ok hs]
def catL (p : List UInt8) (r : List (List UInt8)) : List UInt8 := p ++ r.flatMap fun x => 47 :: x
theorem joinL_cat : ∀ (r : List (List UInt8)) (p : List UInt8), joinL (p :: r) = catL p r
 | [], p => by show p = catL p []; simp [catL]
 | q :: r, p => by
  rw [joinL_cons (by simp), joinL_cat r q]
  simp [catL]
def sumL (l : List (List UInt8)) : Nat := (l.map List.length).sum
theorem catL_len (r : List (List UInt8)) (p : List UInt8) : (catL p r).length = p.length + (r.length + sumL r) := by
 unfold catL sumL
 induction r generalizing p with
 | nil => simp
 | cons q r ih =>
  have := ih []
  simp only [List.nil_append, List.length_nil, Nat.zero_add] at this
  simp only [List.flatMap_cons, List.length_append, List.length_cons, List.map_cons, List.sum_cons, this]
  omega
theorem sumL_take (l : List (List UInt8)) (i : Nat) : sumL (l.take i) ≤ sumL l := by
 have h : sumL (l.take i ++ l.drop i) = sumL (l.take i) + sumL (l.drop i) := by unfold sumL; rw [List.map_append, List.sum_append]
 rw [List.take_append_drop] at h
 omega
theorem wrapS {r : Int} (h : -9223372036854775808 ≤ r ∧ r ≤ 9223372036854775807) : IntKind.i64.wrap r = r := by
 rw [IntKind.wrap_i64]; omega
def sl176a (v0 : Value) (K sm i : Nat) (x : Nat → Value) : TL := [v0, str [47], x 2, x 3, x 4, num ((sm : Nat) : Int), x 6, x 7, x 8, x 9, x 10, x 11, x 12, x 13, x 14, x 15, x 16, x 17, x 18, x 19, x 20, x 21, x 22, x 23, x 24, x 25, x 26, x 27, x 28, x 29, x 30, x 31, x 32, x 33, x 34, x 35, x 36, x 37, x 38, v0, num ((K : Nat) : Int), num ((i : Nat) : Int), x 42, x 43, x 44, x 45, x 46, x 47, x 48, x 49, x 50, x 51, x 52, x 53, x 54, x 55, x 56, x 57, x 58, x 59, x 60, x 61, x 62, x 63, x 64, x 65, x 66, x 67, x 68, x 69, x 70, x 71, x 72, x 73, x 74]
def sl176b (v63 : Value) (K B i : Nat) (x : Nat → Value) : TL := [x 0, str [47], x 2, x 3, x 4, x 5, x 6, x 7, aptr B 0, x 9, x 10, x 11, x 12, x 13, x 14, x 15, x 16, x 17, x 18, x 19, x 20, x 21, x 22, x 23, x 24, x 25, x 26, x 27, x 28, x 29, x 30, x 31, x 32, x 33, x 34, x 35, x 36, x 37, x 38, x 39, x 40, x 41, x 42, x 43, x 44, x 45, x 46, x 47, x 48, x 49, x 50, x 51, x 52, x 53, x 54, x 55, x 56, x 57, x 58, x 59, x 60, x 61, x 62, v63, num ((K : Nat) : Int), num ((i : Nat) : Int), x 66, x 67, x 68, x 69, x 70, x 71, x 72, x 73, x 74]
section
variable {pr : Prim} {s : AS} {n : Nat}
theorem grow_e {N b K : Nat} {p : Value} (hN : N ≤ b) (hb : b < s.nx) (hs : s.get b = some (.cells #[p, .slice none 0 0] 119)) (hp : p = .pointer none ∨ p = aptr b 0) (hK : K ≤ 1000000) : ∃ s', EF Tryz.prog ktB (prAw Tryz.prog n) 272 #[aptr b 0, num ((K + 1 : Nat) : Int)] s (.tuple #[]) s' ∧ BW s' N b [] ∧ FrB N s s' := by
 obtain ⟨s1, hc, c1, c2, c3⟩ := copy_e (pr := prAw Tryz.prog n) (by kernel_rfl) hs hp
 have hld : evLoad Tryz.prog 55 (aptr b 1) s1 = some (.slice none 0 0) := by
  unfold evLoad
  simp only [aptr, c2, Tryz.underlying55]
  rfl
 refine EF.ofE (by kernel_rfl) Tryz.func272 rfl ?_
 refine EW.seq (EW.region (by kernel_rfl) ?_)
 refine EO.go 1 5 (by kernel_rfl) ?_
 refine EO.asS s (by kernel_rfl) ?_
 refine EO.callF #[aptr b 0] (by kernel_rfl) rfl rfl (by kernel_rfl) (by kernel_rfl) hc ?_
 refine EO.nil ?_
 refine EW.seq (EW.go 5 (by kernel_rfl) ?_)
 refine EW.asS s1 (by kernel_rfl) ?_
 refine EW.seq (EW.draw (by kernel_rfl) (by kernel_rfl) (by kernel_rfl) ?_)
 iterate 2
  refine ET.q (by kernel_rfl) (by kernel_rfl) ?_
  refine ET.q (by kernel_rfl) (by kernel_rfl) ?_
  refine ET.q (by kernel_rfl) (by kernel_rfl) ?_
  refine ET.asS s1 (by kernel_rfl) ?_
  refine ET.op (by kernel_rfl) (op_ld (b := b) (off := 1) (v := .slice none 0 0) rfl Tryz.underlying55 rfl (by kernel_rfl) c2 rfl) ?_
  refine ET.q (by kernel_rfl) (by kernel_rfl) ?_
 iterate 2
  refine ET.q (by kernel_rfl) (by kernel_rfl) ?_
 refine ET.op (by kernel_rfl) (op_bin (u := num 0) (w := num ((K + 1 : Nat) : Int)) rfl (by kernel_rfl) (by kernel_rfl) (bin_lss (b := true) (decide_eq_true (by omega)))) ?_
 refine ET.nil ⟨okLoads_of [(evLoad Tryz.prog 55 (aptr b 1) s1, .slice none 0 0), (evLoad Tryz.prog 55 (aptr b 1) s1, .slice none 0 0)] (by kernel_rfl) (by simp [veqable, hld]), _, _, _, _, _, _, rfl, rfl, ?_⟩
 refine EW.condT (by kernel_rfl) ?_
 refine EW.region (by kernel_rfl) ?_
 refine EO.go 2 5 (by kernel_rfl) ?_
 refine EO.asS s1 (by kernel_rfl) ?_
 have h344 : EF Tryz.prog ktB (prAw Tryz.prog n) 344 #[aptr b 0, num ((K + 1 : Nat) : Int)] s1 (.tuple #[]) ((s1.set b (some (.cells #[aptr b 0, .slice (some ⟨s1.nx, 0, none⟩) 0 0] 119 (0, 0)))).add (.cells #[] 5 (1, 1))) := by
  refine EF.prim (g := fun args s => match args.toList with
   | [.pointer (some ⟨b, 0, none⟩), .int .i64 n] => match s.get b with
    | some (.cells cs 119 (0, 0)) => match cs.toList with
     | [p, .slice none 0 0] => if 0 ≤ n ∧ n ≤ 1000000000 then some (.tuple #[], (s.set b (some (.cells #[p, .slice (some ⟨s.nx, 0, none⟩) 0 0] 119 (0, 0)))).add (.cells #[] 5 (1, 1))) else none
     | _ => none
    | _ => none
   | _ => none) (by kernel_rfl) ?_
  simp only [aptr]
  rw [c2]
  simp only
  rw [if_pos ⟨by omega, by omega⟩]
  rfl
 refine EO.callF #[aptr b 0, num ((K + 1 : Nat) : Int)] (by kernel_rfl) rfl rfl (by kernel_rfl) (by kernel_rfl) h344 ?_
 refine EO.nil ⟨.inl rfl, by kernel_rfl, ?_⟩
 refine ⟨⟨hN, by simp; omega, aptr b 0, .slice (some ⟨s1.nx, 0, none⟩) 0 0, by rw [AS.get_add, if_neg (by simp; omega), AS.get_set, if_pos rfl], .inr rfl, .inr ⟨s1.nx, (1, 1), rfl, by omega, by simp, by omega, by rw [AS.get_add, if_pos (by simp)]; rfl⟩⟩, by simp; omega, fun k hk => ?_⟩
 rw [AS.get_add, if_neg (by simp; omega), AS.get_set, if_neg (by omega), c3 k (by omega)]
theorem join1_e {b c : Nat} {p : List UInt8} {cs : Array Value} {fz : Nat × Nat} (hs : s.get b = some (.cells cs 9 fz)) (hcs : cs[0]? = some (str p)) : EF Tryz.prog ktB (prAw Tryz.prog n) 176 #[.slice (some ⟨b, 0, none⟩) 1 c, str [47]] s (str p) s := by
 refine EF.of (by kernel_rfl) Tryz.func176 rfl ?_
 refine EW.seq (EW.go 5 (by kernel_rfl) ?_)
 refine EW.seq (EW.seq (EW.go 5 (by kernel_rfl) ?_))
 refine EW.block ?_
 refine EW.seq (EW.go 5 (by kernel_rfl) ?_)
 refine EW.condF (by kernel_rfl) ?_
 refine EW.seq (EW.go 5 (by kernel_rfl) ?_)
 refine EW.condT (by kernel_rfl) ?_
 refine EW.seq (EW.region (by kernel_rfl) ?_)
 refine EO.go 2 5 (by kernel_rfl) ?_
 refine EO.asS s (by kernel_rfl) ?_
 refine EO.op (by kernel_rfl) (op_ld (b := b) (off := 0) (v := str p) rfl Tryz.underlying9 rfl (by kernel_rfl) hs hcs) ?_
 refine EO.fin 5 (by kernel_rfl) ?_
 exact EW.ret ⟨.inr rfl, by kernel_rfl, by kernel_rfl⟩
theorem join_e {b c : Nat} {p q : List UInt8} {r : List (List UInt8)} {cs : Array Value} {fz : Nat × Nat} (hb : b < s.nx) (hs : s.get b = some (.cells cs 9 fz)) (hcs : ∀ i (h : i < (p :: q :: r).length), cs[i]? = some (str ((p :: q :: r)[i]'h))) (hc : r.length + 2 ≤ c) (hl : (joinL (p :: q :: r)).length ≤ 100000) : ∃ s', EF Tryz.prog ktB (prAw Tryz.prog n) 176 #[.slice (some ⟨b, 0, none⟩) (r.length + 2) c, str [47]] s (str (joinL (p :: q :: r))) s' := by
 suffices h : ∃ s', EF Tryz.prog ktB (prAw Tryz.prog n) 176 #[.slice (some ⟨b, 0, none⟩) (r.length + 2) c, str [47]] s (str (joinL (p :: q :: r))) s' ∧ True from h.imp fun _ h => h.1
 have hlen := catL_len (q :: r) p
 rw [← joinL_cat] at hlen
 simp only [List.length_cons] at hlen
 have hquo : 2 ≤ (9223372036854775807 : Int).tdiv ((r.length + 1 : Nat) : Int) ∧ (9223372036854775807 : Int).tdiv ((r.length + 1 : Nat) : Int) ≤ 9223372036854775807 := by
  rw [Int.tdiv_eq_ediv_of_nonneg (by omega)]
  exact ⟨Int.le_ediv_of_mul_le (by omega) (by omega), Int.ediv_le_self _ (by omega)⟩
 refine EF.ofE (by kernel_rfl) Tryz.func176 rfl ?_
 refine EW.seq (EW.go 5 (by kernel_rfl) ?_)
 refine EW.seq (EW.go 9 (by kernel_rfl) ?_)
 refine EW.seq (EW.go 5 (by kernel_rfl) ?_)
 refine EW.seq (EW.seq (EW.go 5 (by kernel_rfl) ?_))
 refine EW.condT (by kernel_rfl) ?_
 refine EW.seq (EW.seq (EW.region (by kernel_rfl) ?_))
 refine EO.go 4 5 (by kernel_rfl) ?_
 refine EO.op (by kernel_rfl) (op_subI (i := ((r.length + 2 : Nat) : Int)) (j := 1) (r := ((r.length + 1 : Nat) : Int)) rfl (by kernel_rfl) (by kernel_rfl) (by omega) (by omega)) ?_
 refine EO.asS s (by kernel_rfl) ?_
 refine EO.op (v := num ((9223372036854775807 : Int).tdiv ((r.length + 1 : Nat) : Int))) (s1 := s) (by kernel_rfl) ((show _ = some (num (IntKind.i64.wrap ((9223372036854775807 : Int).tdiv ((r.length + 1 : Nat) : Int))), s) by kernel_rfl).trans (by rw [IntKind.wrap_i64, show ∀ z : Int, 2 ≤ z ∧ z ≤ 9223372036854775807 → (z + 9223372036854775808) % 18446744073709551616 - 9223372036854775808 = z from fun z hz => by omega]; exact hquo)) ?_
 refine EO.op (by kernel_rfl) (op_bin (u := num 1) (w := num ((9223372036854775807 : Int).tdiv ((r.length + 1 : Nat) : Int))) rfl (by kernel_rfl) (by kernel_rfl) (bin_geq (b := false) (decide_eq_false (by omega)))) ?_
 refine EO.nil ?_
 refine EW.condF (by kernel_rfl) (EW.skip ?_)
 refine EW.region (by kernel_rfl) ?_
 refine EO.go 5 5 (by kernel_rfl) ?_
 refine EO.op (by kernel_rfl) (op_subI (i := ((r.length + 2 : Nat) : Int)) (j := 1) (r := ((r.length + 1 : Nat) : Int)) rfl (by kernel_rfl) (by kernel_rfl) (by omega) (by omega)) ?_
 refine EO.asS s (by kernel_rfl) ?_
 refine EO.op (v := num ((r.length + 1 : Nat) : Int)) (s1 := s) (by kernel_rfl) ((show _ = some (num (IntKind.i64.wrap (1 * ((r.length + 1 : Nat) : Int))), s) by kernel_rfl).trans (by rw [Int.one_mul, wrapS (by omega)])) ?_
 refine EO.op (by kernel_rfl) (op_addI (i := 0) (j := ((r.length + 1 : Nat) : Int)) (r := ((r.length + 1 : Nat) : Int)) rfl (by kernel_rfl) (by kernel_rfl) (by omega) (by omega)) ?_
 refine EO.fin 5 (by kernel_rfl) ?_
 refine EW.seq (EW.seq (EW.go 5 (by kernel_rfl) ?_))
 refine EW.asS s (by kernel_rfl) ?_
 refine EW.fill (sl176a (.slice (some ⟨b, 0, none⟩) (r.length + 2) c) (r.length + 2) (r.length + 1) 0) (by kernel_rfl) ?_
 intro x0
 refine EW.block ?_
 refine EW.mono (EW.loopI (Q := fun e a' s' => e = .exit 1 ∧ s' = s ∧ ∃ x, a' = sl176a (.slice (some ⟨b, 0, none⟩) (r.length + 2) c) (r.length + 2) (r.length + 1 + sumL (p :: q :: r)) (r.length + 2) x) (fun m a' s' => s' = s ∧ ∃ i, i + m = r.length + 2 ∧ ∃ x, a' = sl176a (.slice (some ⟨b, 0, none⟩) (r.length + 2) c) (r.length + 2) (r.length + 1 + sumL ((p :: q :: r).take i)) i x) ?_ (r.length + 2) _ _ ⟨rfl, 0, by omega, x0, rfl⟩) ?_
 ·
  rintro m a' s' ⟨rfl, i, him, x, rfl⟩
  have hsum := sumL_take (p :: q :: r) i
  have htot : sumL (p :: q :: r) + (r.length + 1) ≤ 100000 := by
   have : sumL (p :: q :: r) = p.length + sumL (q :: r) := by simp [sumL]
   omega
  cases m with
  | zero =>
   have hi : i = r.length + 2 := by omega
   subst hi
   refine EW.seq (EW.region (by kernel_rfl) ?_)
   refine EO.op (by kernel_rfl) (op_bin (u := num ((r.length + 2 : Nat) : Int)) (w := num ((r.length + 2 : Nat) : Int)) rfl (by kernel_rfl) (by kernel_rfl) (bin_lss (b := false) (decide_eq_false (by omega)))) ?_
   refine EO.nil ?_
   refine EW.seq (EW.condF (by kernel_rfl) (EW.exit ?_))
   refine ⟨rfl, rfl, ?_⟩
   rw [show (p :: q :: r).take (r.length + 2) = p :: q :: r from List.take_of_length_le (by simp)]
   exact fillX (by kernel_rfl)
  | succ k =>
   have hi : i < (p :: q :: r).length := by simp only [List.length_cons]; omega
   obtain ⟨el, hel⟩ : ∃ el, (p :: q :: r)[i]? = some el := ⟨_, List.getElem?_eq_getElem hi⟩
   have hcell : cs[i]? = some (str el) := by
    rw [hcs i hi]
    rw [List.getElem?_eq_getElem hi] at hel
    cases hel
    rfl
   have hs1 : sumL ((p :: q :: r).take (i + 1)) = sumL ((p :: q :: r).take i) + el.length := by
    rw [List.take_add_one, hel]
    simp [sumL]
   have hs2 := sumL_take (p :: q :: r) (i + 1)
   refine EW.seq (EW.region (by kernel_rfl) ?_)
   refine EO.op (by kernel_rfl) (op_bin (u := num ((i : Nat) : Int)) (w := num ((r.length + 2 : Nat) : Int)) rfl (by kernel_rfl) (by kernel_rfl) (bin_lss (b := true) (decide_eq_true (by omega)))) ?_
   refine EO.nil ?_
   refine EW.seq (EW.condT (by kernel_rfl) (EW.skip ?_))
   refine EW.seq (EW.block ?_)
   refine EW.seq (EW.region (by kernel_rfl) ?_)
   refine EO.op (by kernel_rfl) (op_idxO (b := b) (off := 0) (n := r.length + 2) (cp := c) (sp := none) (kd := .i64) (j := ((i : Nat) : Int)) (sz := 1) (k := i) rfl Tryz.underlying62 (by kernel_rfl) (by kernel_rfl) (by kernel_rfl) (by omega) (by omega) (by simp)) ?_
   refine EO.op (by kernel_rfl) (op_ld (b := b) (off := i) (v := str el) rfl Tryz.underlying9 rfl (by kernel_rfl) hs hcell) ?_
   refine EO.fin 5 (by kernel_rfl) ?_
   refine EW.seq (EW.seq (EW.region (by kernel_rfl) ?_))
   refine EO.go 1 5 (by kernel_rfl) ?_
   refine EO.op (by kernel_rfl) (op_lenS (l := el) rfl Tryz.underlying9 (by kernel_rfl)) ?_
   refine EO.go 1 5 (by kernel_rfl) ?_
   refine EO.op (by kernel_rfl) (op_subB (i := 9223372036854775807) (j := ((r.length + 1 + sumL ((p :: q :: r).take i) : Nat) : Int)) (r := 9223372036854775807 - ((r.length + 1 + sumL ((p :: q :: r).take i) : Nat) : Int)) rfl (by kernel_rfl) (by kernel_rfl) rfl (by omega)) ?_
   refine EO.op (by kernel_rfl) (op_bin (u := num el.length) (w := num (9223372036854775807 - ((r.length + 1 + sumL ((p :: q :: r).take i) : Nat) : Int))) rfl (by kernel_rfl) (by kernel_rfl) (bin_gtr (b := false) (decide_eq_false (by omega)))) ?_
   refine EO.nil ?_
   refine EW.condF (by kernel_rfl) (EW.skip ?_)
   refine EW.region (by kernel_rfl) ?_
   refine EO.go 2 5 (by kernel_rfl) ?_
   refine EO.op (by kernel_rfl) (op_lenS (l := el) rfl Tryz.underlying9 (by kernel_rfl)) ?_
   refine EO.op (by kernel_rfl) (op_addI (i := ((r.length + 1 + sumL ((p :: q :: r).take i) : Nat) : Int)) (j := el.length) (r := ((r.length + 1 + sumL ((p :: q :: r).take (i + 1)) : Nat) : Int)) rfl (by kernel_rfl) (by kernel_rfl) (by omega) (by omega)) ?_
   refine EO.fin 5 (by kernel_rfl) ?_
   refine EW.region (by kernel_rfl) ?_
   refine EO.op (by kernel_rfl) (op_addI (i := ((i : Nat) : Int)) (j := 1) (r := ((i + 1 : Nat) : Int)) rfl (by kernel_rfl) (by kernel_rfl) (by omega) (by omega)) ?_
   refine EO.fin 5 (by kernel_rfl) ?_
   exact ⟨k, Nat.lt_succ_self k, by kernel_rfl, i + 1, by omega, fillX (by kernel_rfl)⟩
 ·
  rintro e a' s' ⟨rfl, rfl, x, rfl⟩
  have hsumq : sumL (p :: q :: r) = p.length + sumL (q :: r) := by simp [sumL]
  refine EW.seq (EW.go 5 (by kernel_rfl) ?_)
  refine EW.asS (s'.add (.cells #[.pointer none, .slice none 0 0] 119)) (by kernel_rfl) ?_
  obtain ⟨s2, hgr, b2, f2⟩ := grow_e (n := n) (s := s'.add (.cells #[.pointer none, .slice none 0 0] 119)) (N := s'.nx) (b := s'.nx) (K := r.length + sumL (p :: q :: r)) (p := .pointer none) (Nat.le_refl _) (by simp) (by rw [AS.get_add, if_pos rfl]) (.inl rfl) (by omega)
  rw [show r.length + sumL (p :: q :: r) + 1 = r.length + 1 + sumL (p :: q :: r) by omega] at hgr
  obtain ⟨s3, hw3, b3, f3⟩ := write_e (pr := prAw Tryz.prog n) (m := p) (by kernel_rfl) (by kernel_rfl) b2 (by simp only [List.length_nil]; omega)
  rw [List.nil_append] at b3
  have f0 : FrB s'.nx s' (s'.add (.cells #[.pointer none, .slice none 0 0] 119)) := FrB.add (Nat.le_refl _)
  have g2 : s2.get b = some (.cells cs 9 fz) := ((f0.trans f2).2 b hb).trans hs
  have g3 : s3.get b = some (.cells cs 9 fz) := (f3.2 b hb).trans g2
  refine EW.seq (EW.region (by kernel_rfl) ?_)
  refine EO.go 1 5 (by kernel_rfl) ?_
  refine EO.asS (s'.add (.cells #[.pointer none, .slice none 0 0] 119)) (by kernel_rfl) ?_
  refine EO.callF #[aptr s'.nx 0, num ((r.length + 1 + sumL (p :: q :: r) : Nat) : Int)] (by kernel_rfl) rfl rfl (by kernel_rfl) (by kernel_rfl) hgr ?_
  refine EO.nil ?_
  refine EW.seq (EW.region (by kernel_rfl) ?_)
  refine EO.go 1 5 (by kernel_rfl) ?_
  refine EO.asS s2 (by kernel_rfl) ?_
  refine EO.op (by kernel_rfl) (op_idxO (b := b) (off := 0) (n := r.length + 2) (cp := c) (sp := none) (kd := .i64) (j := 0) (sz := 1) (k := 0) rfl Tryz.underlying62 (by kernel_rfl) (by kernel_rfl) (by kernel_rfl) (by omega) (by omega) rfl) ?_
  refine EO.op (by kernel_rfl) (op_ld (b := b) (off := 0) (v := str p) rfl Tryz.underlying9 rfl (by kernel_rfl) g2 (hcs 0 (by simp))) ?_
  refine EO.callF #[aptr s'.nx 0, str p] (by kernel_rfl) rfl rfl (by kernel_rfl) (by kernel_rfl) hw3 ?_
  refine EO.nil ?_
  refine EW.seq (EW.seq (EW.region (by kernel_rfl) ?_))
  refine EO.go 1 5 (by kernel_rfl) ?_
  refine EO.asS s3 (by kernel_rfl) ?_
  refine EO.op (by kernel_rfl) (op_slR (b := b) (off := 0) (n := r.length + 2) (cp := c) (i := 1) (j := r.length + 2) (sz := 1) rfl Tryz.underlying62 (by kernel_rfl) g3 (by kernel_rfl) ((show _ = evBounds (r.length + 2) c (some (num 1)) none by kernel_rfl).trans (bnd_lo (by omega) (by omega))) (by omega)) ?_
  refine EO.fin 5 (by kernel_rfl) ?_
  refine EW.asS s3 (by kernel_rfl) ?_
  refine EW.fill (sl176b (.slice (some ⟨b, 1, none⟩) (r.length + 1) (c - 1)) (r.length + 1) s'.nx 0) (by kernel_rfl) ?_
  intro x1
  refine EW.block ?_
  refine EW.mono (EW.loopI (Q := fun e a' s4 => e = .exit 3 ∧ BW s4 s'.nx s'.nx (catL p (q :: r)) ∧ ∃ x, a' = sl176b (.slice (some ⟨b, 1, none⟩) (r.length + 1) (c - 1)) (r.length + 1) s'.nx (r.length + 1) x) (fun m a' s4 => ∃ i, i + m = r.length + 1 ∧ BW s4 s'.nx s'.nx (catL p ((q :: r).take i)) ∧ s4.get b = some (.cells cs 9 fz) ∧ ∃ x, a' = sl176b (.slice (some ⟨b, 1, none⟩) (r.length + 1) (c - 1)) (r.length + 1) s'.nx i x) ?_ (r.length + 1) _ _ ⟨0, by omega, by rw [List.take_zero, show catL p [] = p by simp [catL]]; exact b3, g3, x1, rfl⟩) ?_
  ·
   rintro m a' s4 ⟨i, him, hbw, g4, x, rfl⟩
   cases m with
   | zero =>
    have hi : i = r.length + 1 := by omega
    subst hi
    refine EW.seq (EW.region (by kernel_rfl) ?_)
    refine EO.op (by kernel_rfl) (op_bin (u := num ((r.length + 1 : Nat) : Int)) (w := num ((r.length + 1 : Nat) : Int)) rfl (by kernel_rfl) (by kernel_rfl) (bin_lss (b := false) (decide_eq_false (by omega)))) ?_
    refine EO.nil ?_
    refine EW.seq (EW.condF (by kernel_rfl) (EW.exit ?_))
    rw [show (q :: r).take (r.length + 1) = q :: r from List.take_of_length_le (by simp)] at hbw
    exact ⟨rfl, hbw, fillX (by kernel_rfl)⟩
   | succ k =>
    have hi : i < (q :: r).length := by simp only [List.length_cons]; omega
    obtain ⟨el, hel⟩ : ∃ el, (q :: r)[i]? = some el := ⟨_, List.getElem?_eq_getElem hi⟩
    have hcell : cs[1 + i]? = some (str el) := by
     rw [Nat.add_comm, hcs (i + 1) (by simp only [List.length_cons] at hi ⊢; omega)]
     rw [List.getElem?_eq_getElem hi] at hel
     cases hel
     rfl
    have hcat : catL p ((q :: r).take (i + 1)) = catL p ((q :: r).take i) ++ [47] ++ el := by
     rw [List.take_add_one, hel]
     simp [catL]
    have hle : (catL p ((q :: r).take (i + 1))).length ≤ 100000 := by
     have e1 := catL_len ((q :: r).take (i + 1)) p
     have e2 := sumL_take (q :: r) (i + 1)
     have e3 : ((q :: r).take (i + 1)).length ≤ r.length + 1 := by simp only [List.length_take, List.length_cons]; omega
     omega
    rw [hcat] at hle
    simp only [List.length_append, List.length_cons, List.length_nil] at hle
    obtain ⟨s5, hw5, b5, f5⟩ := write_e (pr := prAw Tryz.prog n) (m := [47]) (by kernel_rfl) (by kernel_rfl) hbw (by simp only [List.length_cons, List.length_nil]; omega)
    obtain ⟨s6, hw6, b6, f6⟩ := write_e (pr := prAw Tryz.prog n) (m := el) (by kernel_rfl) (by kernel_rfl) b5 (by simp only [List.length_append, List.length_cons, List.length_nil]; omega)
    rw [← hcat] at b6
    refine EW.seq (EW.region (by kernel_rfl) ?_)
    refine EO.op (by kernel_rfl) (op_bin (u := num ((i : Nat) : Int)) (w := num ((r.length + 1 : Nat) : Int)) rfl (by kernel_rfl) (by kernel_rfl) (bin_lss (b := true) (decide_eq_true (by omega)))) ?_
    refine EO.nil ?_
    refine EW.seq (EW.condT (by kernel_rfl) (EW.skip ?_))
    refine EW.seq (EW.block ?_)
    refine EW.seq (EW.region (by kernel_rfl) ?_)
    refine EO.op (by kernel_rfl) (op_idxO (b := b) (off := 1) (n := r.length + 1) (cp := c - 1) (sp := none) (kd := .i64) (j := ((i : Nat) : Int)) (sz := 1) (k := 1 + i) rfl Tryz.underlying62 (by kernel_rfl) (by kernel_rfl) (by kernel_rfl) (by omega) (by omega) (by simp)) ?_
    refine EO.op (by kernel_rfl) (op_ld (b := b) (off := 1 + i) (v := str el) rfl Tryz.underlying9 rfl (by kernel_rfl) g4 hcell) ?_
    refine EO.fin 5 (by kernel_rfl) ?_
    refine EW.seq (EW.region (by kernel_rfl) ?_)
    refine EO.go 1 5 (by kernel_rfl) ?_
    refine EO.asS s4 (by kernel_rfl) ?_
    refine EO.callF #[aptr s'.nx 0, str [47]] (by kernel_rfl) rfl rfl (by kernel_rfl) (by kernel_rfl) hw5 ?_
    refine EO.nil ?_
    refine EW.region (by kernel_rfl) ?_
    refine EO.go 1 5 (by kernel_rfl) ?_
    refine EO.asS s5 (by kernel_rfl) ?_
    refine EO.callF #[aptr s'.nx 0, str el] (by kernel_rfl) rfl rfl (by kernel_rfl) (by kernel_rfl) hw6 ?_
    refine EO.nil ?_
    refine EW.region (by kernel_rfl) ?_
    refine EO.op (by kernel_rfl) (op_addI (i := ((i : Nat) : Int)) (j := 1) (r := ((i + 1 : Nat) : Int)) rfl (by kernel_rfl) (by kernel_rfl) (by omega) (by omega)) ?_
    refine EO.asS s6 (by kernel_rfl) ?_
    refine EO.fin 5 (by kernel_rfl) ?_
    exact ⟨k, Nat.lt_succ_self k, i + 1, by omega, b6, ((f5.trans f6).2 b hb).trans g4, fillX (by kernel_rfl)⟩
  ·
   rintro e a' s4 ⟨rfl, hbw, x, rfl⟩
   have hne : catL p (q :: r) ≠ [] := by simp [catL]
   rw [joinL_cat] at hl ⊢
   obtain ⟨s5, hst, f5⟩ := string_e (pr := prAw Tryz.prog n) (by kernel_rfl) hbw hne (by omega)
   refine EW.seq (EW.region (by kernel_rfl) ?_)
   refine EO.callF #[aptr s'.nx 0] (by kernel_rfl) rfl rfl (by kernel_rfl) (by kernel_rfl) hst ?_
   refine EO.fin 5 (by kernel_rfl) ?_
   exact EW.ret ⟨.inr rfl, by kernel_rfl, trivial⟩
end
end Go.Proofs.YtgcaionclkbehaaGreatDoor
